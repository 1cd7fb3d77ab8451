/-
  Lines and Words, their answers under a name.
-/
import Derived.Test.YtfeaplddbpikgaaTextI
namespace Go.Proofs.Ytfeaplddbpikgaa
open Go.RowKit

theorem specLinesX (l : List UInt8) (fs : List (List UInt8)) (w : World) (hl : l.length ≤ 1048576) (hf : linesL l = fs) :
    Calls Try.prog 18 #[.string ⟨l.toArray⟩] w fun e w' => ∃ v, e = .returned v ∧ w'.ownsRow w.heap.size 9 1 v fs.length (strV fs) ∧ Below w.heap.size w w' := by
  subst hf; exact (specLines l w hl).mono fun _ _ ⟨g, cp, h, k, m⟩ => ⟨_, h, k, m⟩

theorem implLinesX (l : List UInt8) (fs : List (List UInt8)) (w : World) (hl : l.length ≤ 1048576) (hf : linesL l = fs) :
    Calls Try.prog 10 #[.string ⟨l.toArray⟩] w fun e w' => ∃ v, e = .returned v ∧ w'.ownsRow w.heap.size 9 1 v fs.length (strV fs) ∧ Below w.heap.size w w' := by
  subst hf; exact implLines l w hl

theorem specWordsX (l : List UInt8) (fs : List (List UInt8)) (w : World) (hl : l.length ≤ 1048576) (hf : wordsL l = fs) :
    Calls Try.prog 19 #[.string ⟨l.toArray⟩] w fun e w' => ∃ v, e = .returned v ∧ w'.ownsRow w.heap.size 9 1 v fs.length (strV fs) ∧ Below w.heap.size w w' := by
  subst hf; exact (specWords l w hl).mono fun _ _ ⟨g, cp, h, k, m⟩ => ⟨_, h, k, m⟩

theorem implWordsX (l : List UInt8) (fs : List (List UInt8)) (w : World) (hl : l.length ≤ 1048576) (hf : wordsL l = fs) :
    Calls Try.prog 12 #[.string ⟨l.toArray⟩] w fun e w' => ∃ v, e = .returned v ∧ w'.ownsRow w.heap.size 9 1 v fs.length (strV fs) ∧ Below w.heap.size w w' := by
  subst hf; exact implWords l w hl

end Go.Proofs.Ytfeaplddbpikgaa
