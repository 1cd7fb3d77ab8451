/-
  The contracts of chapter 6's specification: l6Parts, PartsOf.
-/
import Derived.Test.YtjkfjenhocaljaaDoorTreeS5
import Derived.Test.YtjkfjenhocaljaaDoorMath6P
namespace Go.Proofs.YtjkfjenhocaljaaDoor
open Go.RowKit

/-- What a row of numbers holds. -/
def intsV (l : List Int) : List Value := l.map (fun i => Value.int .i64 i)
theorem intsV_len (l : List Int) : (intsV l).length = l.length := by simp [intsV]
theorem intsV_append (x y : List Int) : intsV (x ++ y) = intsV x ++ intsV y := by simp [intsV]
theorem intsV_one (l : List Int) : ∀ u ∈ intsV l, u.oneCell' = true := by
  intro u hu
  simp only [intsV, List.mem_map] at hu
  obtain ⟨i, _, rfl⟩ := hu
  rfl
theorem infoInt : (Tryd.prog.info? 2).map (fun i => (i.zero, i.size, i.bytes)) = some (some (.int .i64 0), 1, 8) := by kernel_rfl

theorem new_int (w : World) (n : Int) : ∀ j u, (intsV [n])[j]? = some u → (w.alloc (.cells #[.int .i64 n] 2)).cell? ((⟨w.heap.size, 0, none⟩ : Addr).add j) = some u := by
  intro j u hu
  have e : (⟨w.heap.size, 0, none⟩ : Addr).add j = ⟨w.heap.size, j, none⟩ := by unfold Addr.add; split <;> simp_all
  rw [e]
  match j, hu with
  | 0, hu => simp [intsV] at hu; subst hu; simp
  | j + 1, hu => simp [intsV] at hu

theorem endV_le (l : List Nd) (a : Int) : -1 ≤ endV l a ∧ endV l a ≤ l.length := by
  by_cases h : 0 ≤ endV l a
  · by_cases ha : a < 0 ∨ (l.length : Int) ≤ a
    · rw [endV_out l a ha] at h; omega
    · obtain ⟨k, rfl⟩ : ∃ k : Nat, a = (k : Int) := Int.eq_ofNat_of_zero_le (by omega)
      have := end_parts h
      omega
  · by_cases ha : a < 0 ∨ (l.length : Int) ≤ a
    · rw [endV_out l a ha]; omega
    · obtain ⟨k, rfl⟩ : ∃ k : Nat, a = (k : Int) := Int.eq_ofNat_of_zero_le (by omega)
      rw [endV_nat] at h ⊢
      unfold endN at h ⊢
      rw [if_pos (by omega)] at h ⊢
      cases he : endGo (l.drop k) 1 with
      | none => simp only; omega
      | some d => rw [he] at h; simp only at h; omega



end Go.Proofs.YtjkfjenhocaljaaDoor
