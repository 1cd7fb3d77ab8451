/-
  Plain facts for chapter 2 (frames): what a frame is, and what is read of one.
-/
import Derived.Test.YtdjbcjmnegjndaaMath1
import Derived.Test.YtdjbcjmnegjndaaMathT
import Derived.Test.YtdjbcjmnegjndaaMathF
import Derived.Test.YtdjbcjmnegjndaaMathH
import Derived.Test.YtdjbcjmnegjndaaMathX
namespace Go.Proofs.Ytdjbcjmnegjndaa

def framedL (l : List UInt8) : List UInt8 := hexL l.length ++ hexL (hashL l).toNat ++ l
def framedS (l : List UInt8) : List UInt8 := if l.length ≤ 20000 then framedL l else []
theorem framedS_yes (l : List UInt8) (h : l.length ≤ 20000) : framedS l = framedL l := if_pos h
theorem framedS_no (l : List UInt8) (h : 20000 < l.length) : framedS l = [] := if_neg (by omega)

/-- The first frame of a text: is there one? -/
def firstB (l : List UInt8) : Bool :=
  decide (16 ≤ l.length ∧ fromB (l.take 8) = true ∧ fromB ((l.drop 8).take 8) = true ∧ fromN (l.take 8) ≤ 20000 ∧ 16 + fromN (l.take 8) ≤ (l.length : Int) ∧
    hashL ((l.drop 16).take (fromN (l.take 8)).toNat) = fromN ((l.drop 8).take 8))
def firstT (l : List UInt8) : List UInt8 := if firstB l = true then (l.drop 16).take (fromN (l.take 8)).toNat else []
def firstN (l : List UInt8) : Int := if firstB l = true then 16 + fromN (l.take 8) else 0

theorem firstB_no (l : List UInt8) (h : ¬ (16 ≤ l.length ∧ fromB (l.take 8) = true ∧ fromB ((l.drop 8).take 8) = true ∧ fromN (l.take 8) ≤ 20000 ∧ 16 + fromN (l.take 8) ≤ (l.length : Int) ∧
    hashL ((l.drop 16).take (fromN (l.take 8)).toNat) = fromN ((l.drop 8).take 8))) : firstT l = [] ∧ firstN l = 0 ∧ firstB l = false := by
  have hb : firstB l = false := decide_eq_false h
  unfold firstT firstN
  rw [hb]; simp

theorem firstB_yes (l : List UInt8) (h : 16 ≤ l.length ∧ fromB (l.take 8) = true ∧ fromB ((l.drop 8).take 8) = true ∧ fromN (l.take 8) ≤ 20000 ∧ 16 + fromN (l.take 8) ≤ (l.length : Int) ∧
    hashL ((l.drop 16).take (fromN (l.take 8)).toNat) = fromN ((l.drop 8).take 8)) : firstT l = (l.drop 16).take (fromN (l.take 8)).toNat ∧ firstN l = 16 + fromN (l.take 8) ∧ firstB l = true := by
  have hb : firstB l = true := decide_eq_true h
  unfold firstT firstN
  rw [hb]; simp

theorem fromN_bd (l : List UInt8) : 0 ≤ fromN l ∧ fromN l ≤ 4294967295 := by
  unfold fromN
  split
  · rename_i h
    have := fromL_le l (by omega)
    omega
  · omega

def unframedB (l : List UInt8) : Bool := firstB l && decide (firstN l = (l.length : Int))
def unframedT (l : List UInt8) : List UInt8 := if unframedB l = true then firstT l else []

theorem unframed_no (l : List UInt8) (h : firstB l = false ∨ firstN l ≠ (l.length : Int)) : unframedT l = [] ∧ unframedB l = false := by
  have hb : unframedB l = false := by
    unfold unframedB
    rcases h with h | h
    · rw [h]; rfl
    · simp [h]
  unfold unframedT; rw [hb]; simp

theorem unframed_yes (l : List UInt8) (h : firstB l = true) (h1 : firstN l = (l.length : Int)) : unframedT l = firstT l ∧ unframedB l = true := by
  have hb : unframedB l = true := by unfold unframedB; rw [h]; simp [h1]
  unfold unframedT; rw [hb]; simp

/-! The walk's own spellings. -/
theorem cat_list (a b : List UInt8) : (⟨a.toArray⟩ ++ ⟨b.toArray⟩ : ByteArray) = ⟨(a ++ b).toArray⟩ := ba_ext (by simp)
theorem ext_list (l : List UInt8) (i j : Nat) : (⟨l.toArray⟩ : ByteArray).extract i j = ⟨((l.drop i).take (j - i)).toArray⟩ := by
  apply ba_ext
  rw [ByteArray.data_extract, Array.toList_extract, List.extract_eq_take_drop]

theorem ret_sib {a b : List UInt8} {m n : Int} {c d : Bool} (h : a = b) (k : m = n) (j : c = d) : Ending.returned (.tuple #[.string ⟨a.toArray⟩, .int .i64 m, .bool c]) = .returned (.tuple #[.string ⟨b.toArray⟩, .int .i64 n, .bool d]) := by rw [h, k, j]
theorem ret_sb {a b : List UInt8} {c d : Bool} (h : a = b) (j : c = d) : Ending.returned (.tuple #[.string ⟨a.toArray⟩, .bool c]) = .returned (.tuple #[.string ⟨b.toArray⟩, .bool d]) := by rw [h, j]
theorem ret_strl {a b : List UInt8} (h : a = b) : Ending.returned (.string ⟨a.toArray⟩) = .returned (.string ⟨b.toArray⟩) := by rw [h]

end Go.Proofs.Ytdjbcjmnegjndaa
