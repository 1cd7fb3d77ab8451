/-
  Chunks, its answer under a name.
-/
import Derived.Test.YtfjpbbacibfnmaaChunkS
import Derived.Test.YtfjpbbacibfnmaaChunkI
namespace Go.Proofs.Ytfjpbbacibfnmaa
open Go.RowKit

theorem specChunksX (l : List UInt8) (size : Int) (fs : List (List UInt8)) (w : World) (hl : l.length ≤ 1048576) (hf : chunksL l size = fs) :
    Calls Try.prog 28 #[.string ⟨l.toArray⟩, .int .i64 size] w fun e w' => ∃ v, e = .returned v ∧ w'.ownsRow w.heap.size 9 1 v fs.length (strV fs) ∧ Below w.heap.size w w' := by
  subst hf; exact (specChunks l size w hl).mono fun _ _ ⟨v, h, k, _, m⟩ => ⟨v, h, k, m⟩

theorem implChunksX (l : List UInt8) (size : Int) (fs : List (List UInt8)) (w : World) (hl : l.length ≤ 1048576) (hf : chunksL l size = fs) :
    Calls Try.prog 25 #[.string ⟨l.toArray⟩, .int .i64 size] w fun e w' => ∃ v, e = .returned v ∧ w'.ownsRow w.heap.size 9 1 v fs.length (strV fs) ∧ Below w.heap.size w w' := by
  subst hf; exact implChunks l size w hl

end Go.Proofs.Ytfjpbbacibfnmaa
