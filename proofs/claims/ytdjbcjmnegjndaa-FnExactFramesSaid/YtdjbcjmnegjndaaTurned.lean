/-
  The contracts of spec.Turned and impl.Turned.
-/
import Derived.Test.YtdjbcjmnegjndaaRows
import Derived.Test.YtdjbcjmnegjndaaMath1
import Derived.Test.YtdjbcjmnegjndaaMathT
import Derived.Test.YtdjbcjmnegjndaaHexOf
import Derived.WalkKit
import Derived.WalkLawsBesides
import Derived.Laws.IdiomStrings
import Derived.Laws.Concat
import Derived.OpenShut
import Derived.Handy
namespace Go.Proofs.Ytdjbcjmnegjndaa
open Go.RowKit

theorem back1 (t : Int) (h2 : 0 ≤ t) (h3 : t ≤ 255) (W : World) :
    (convert 22 9 (.slice (some ⟨W.heap.size, 0, none⟩) 1 1)).run Try.prog (W.alloc (.cells #[.int .u8 t] 5)).drew = .ok (.string ⟨#[UInt8.ofNat t.toNat]⟩) (W.alloc (.cells #[.int .u8 t] 5)).drew := by
  have ht : ((UInt8.ofNat t.toNat).toNat : Int) = t := by
    rw [UInt8.toNat_ofNat']; omega
  have h := run_convert_bytes_back (P := Try.prog) (W.alloc (.cells #[.int .u8 t] 5)).drew 22 9 5 ⟨W.heap.size, 0, none⟩ 1 [UInt8.ofNat t.toNat] Try.underlying22 Try.underlying5 Try.underlying9 (by
    intro j hj
    have hj' : j < 1 := by simpa using hj
    match j, hj' with
    | 0, _ => simp only [List.getElem_cons_zero, ht]; simp [Addr.add, go_sem])
  exact h

set_option maxHeartbeats 1000000 in
theorem specTurnedYes (s : ByteArray) (a t : Int) (w : World) (hs : s.size ≤ 1048576) (h0 : 0 ≤ a) (h1 : a < s.size) (h2 : 0 ≤ t) (h3 : t ≤ 255) :
    Calls Try.prog 16 #[.string s, .int .i64 a, .int .i64 t] w fun e w' => e = .returned (.string ⟨(turnedL s.data.toList a t).toArray⟩) ∧ Below w.heap.size w w' := by
  have hB : inB t 0 255 = true := inB_yes _ _ _ h2 h3
  have hbk := back1 t h2 h3
  go_enter Try.func16, Try.ntmps16
  go_wp2_with (go_at_call 35; refine (specIn _ _ _ _).mono ?_; rintro e w' ⟨rfl, rfl⟩)
  go_region
  all_goals (try go_wp2)
  go_ret
  exact ⟨ret_str2 (turned_cat s a t h0 h1 h2 h3), ((Below.refl _ _).alloc (Nat.le_refl _) _).drew⟩

set_option maxHeartbeats 1000000 in
theorem specTurnedNo (s : ByteArray) (a t : Int) (w : World) (h : a < 0 ∨ (s.size : Int) ≤ a ∨ t < 0 ∨ 255 < t) :
    Calls Try.prog 16 #[.string s, .int .i64 a, .int .i64 t] w fun e w' => e = .returned (.string s) ∧ Below w.heap.size w w' := by
  rcases (show a < 0 ∨ (0 ≤ a ∧ (s.size : Int) ≤ a) ∨ ((0 ≤ a ∧ a < s.size) ∧ (t < 0 ∨ 255 < t)) by omega) with h | ⟨h0, h⟩ | ⟨⟨h0, h1⟩, h⟩
  · go_enter Try.func16, Try.ntmps16
    go_wp2
    go_ret
    exact ⟨rfl, Below.refl _ _⟩
  · go_enter Try.func16, Try.ntmps16
    go_wp2
    go_ret
    exact ⟨rfl, Below.refl _ _⟩
  · have hB : inB t 0 255 = false := inB_no _ _ _ h
    clear h
    go_enter Try.func16, Try.ntmps16
    go_wp2_with (go_at_call 35; refine (specIn _ _ _ _).mono ?_; rintro e w' ⟨rfl, rfl⟩)
    go_ret
    exact ⟨rfl, Below.refl _ _⟩

theorem specTurned (s : ByteArray) (a t : Int) (w : World) (hs : s.size ≤ 1048576) :
    Calls Try.prog 16 #[.string s, .int .i64 a, .int .i64 t] w fun e w' => e = .returned (.string ⟨(turnedL s.data.toList a t).toArray⟩) ∧ Below w.heap.size w w' := by
  by_cases h : (0 ≤ a ∧ a < s.size) ∧ (0 ≤ t ∧ t ≤ 255)
  · exact specTurnedYes s a t w hs h.1.1 h.1.2 h.2.1 h.2.2
  · rw [turnedL_no _ _ _ (by simp; omega)]
    exact specTurnedNo s a t w (by omega)


end Go.Proofs.Ytdjbcjmnegjndaa
