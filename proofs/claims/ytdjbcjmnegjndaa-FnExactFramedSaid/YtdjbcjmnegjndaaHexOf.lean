/-
  The contracts of spec.HexOf and impl.HexOf.
-/
import Derived.Test.YtdjbcjmnegjndaaRows
import Derived.Test.YtdjbcjmnegjndaaMath1
import Derived.WalkKit
import Derived.WalkLawsBesides
import Derived.Laws.IdiomStrings
import Derived.OpenShut
import Derived.Handy
namespace Go.Proofs.Ytdjbcjmnegjndaa
open Go.RowKit

theorem back8 (b0 b1 b2 b3 b4 b5 b6 b7 : UInt8) (w : World) :
    (convert 22 9 (.slice (some ⟨w.heap.size, 0, none⟩) 8 8)).run Try.prog (w.alloc (.cells #[.int .u8 b0.toNat, .int .u8 b1.toNat, .int .u8 b2.toNat, .int .u8 b3.toNat, .int .u8 b4.toNat, .int .u8 b5.toNat, .int .u8 b6.toNat, .int .u8 b7.toNat] 5)) =
      .ok (.string ⟨#[b0, b1, b2, b3, b4, b5, b6, b7]⟩) (w.alloc (.cells #[.int .u8 b0.toNat, .int .u8 b1.toNat, .int .u8 b2.toNat, .int .u8 b3.toNat, .int .u8 b4.toNat, .int .u8 b5.toNat, .int .u8 b6.toNat, .int .u8 b7.toNat] 5)) := by
  have h := run_convert_bytes_back (P := Try.prog) (w.alloc (.cells #[.int .u8 b0.toNat, .int .u8 b1.toNat, .int .u8 b2.toNat, .int .u8 b3.toNat, .int .u8 b4.toNat, .int .u8 b5.toNat, .int .u8 b6.toNat, .int .u8 b7.toNat] 5)) 22 9 5 ⟨w.heap.size, 0, none⟩ 8 [b0, b1, b2, b3, b4, b5, b6, b7] Try.underlying22 Try.underlying5 Try.underlying9 (by
    intro j hj
    have hj' : j < 8 := by simpa using hj
    match j, hj' with
    | 0, _ => simp [Addr.add, go_sem]
    | 1, _ => simp [Addr.add, go_sem]
    | 2, _ => simp [Addr.add, go_sem]
    | 3, _ => simp [Addr.add, go_sem]
    | 4, _ => simp [Addr.add, go_sem]
    | 5, _ => simp [Addr.add, go_sem]
    | 6, _ => simp [Addr.add, go_sem]
    | 7, _ => simp [Addr.add, go_sem])
  exact h

set_option maxHeartbeats 400000 in
theorem specL1Hex (n : Int) (w : World) (h0 : 0 ≤ n) (h1 : n ≤ 4294967295) :
    Calls Try.prog 43 #[.int .i64 n] w fun e w' => e = .returned (.string ⟨(hexL n.toNat).toArray⟩) ∧ Below w.heap.size w w' := by
  have hmk : ∀ w, (Instr.makeSlice 22 (.int .i64 8) (.int .i64 8)).run Try.prog w = .ok (.slice (some ⟨w.heap.size, 0, none⟩) 8 8) (w.alloc (.cells #[.int .u8 0, .int .u8 0, .int .u8 0, .int .u8 0, .int .u8 0, .int .u8 0, .int .u8 0, .int .u8 0] 5)) := fun _ => by kernel_rfl
  have hD : ∀ (m : Int) (h : m.toNat < (ByteArray.mk #[48, 49, 50, 51, 52, 53, 54, 55, 56, 57, 97, 98, 99, 100, 101, 102]).size), (ByteArray.mk #[48, 49, 50, 51, 52, 53, 54, 55, 56, 57, 97, 98, 99, 100, 101, 102])[m.toNat] = hexD m.toNat := hexD_at
  have hback := back8
  go_enter Try.func43, Try.ntmps43
  go_wp2
  go_rounds 9
  go_ret
  exact ⟨ret_str (hexW n h0), (Below.refl _ _).alloc (Nat.le_refl _) _⟩

set_option maxHeartbeats 400000 in
theorem implHexSign (n : Int) (p : Nat) (w : World) (h0 : 0 ≤ n) (h1 : n ≤ 4294967295) (hp : p < 8) :
    Calls Try.prog 40 #[.int .i64 n, .int .i64 p] w fun e w' => e = .returned (.int .u8 (hexD (n.toNat / 16 ^ p % 16)).toNat) ∧ w' = w := by
  have hD : ∀ (m : Int) (h : m.toNat < (ByteArray.mk #[48, 49, 50, 51, 52, 53, 54, 55, 56, 57, 97, 98, 99, 100, 101, 102]).size), (ByteArray.mk #[48, 49, 50, 51, 52, 53, 54, 55, 56, 57, 97, 98, 99, 100, 101, 102])[m.toNat] = hexD m.toNat := hexD_at
  have hA := and15
  match p, hp with
  | 0, _ | 1, _ | 2, _ | 3, _ | 4, _ | 5, _ | 6, _ | 7, _ =>
    go_enter Try.func40, Try.ntmps40
    go_wp2
    go_ret
    refine ⟨ret_int (congrArg (fun k : Nat => (((hexD k).toNat : Nat) : Int)) ?_), rfl⟩
    omega

theorem implHexSignI (n p : Int) (w : World) (h0 : 0 ≤ n) (h1 : n ≤ 4294967295) (hp0 : 0 ≤ p) (hp : p < 8) :
    Calls Try.prog 40 #[.int .i64 n, .int .i64 p] w fun e w' => e = .returned (.int .u8 (hexD (n.toNat / 16 ^ p.toNat % 16)).toNat) ∧ w' = w := by
  obtain ⟨k, rfl⟩ := Int.eq_ofNat_of_zero_le hp0
  exact implHexSign n k w h0 h1 (by omega)

set_option maxHeartbeats 1000000 in
theorem implHighest (n : Int) (w : World) (h0 : 0 ≤ n) (h1 : n ≤ 4294967295) :
    Calls Try.prog 39 #[.int .i64 8, .func (.func 40) #[.int .i64 n] #[]] w fun e w' => e = .returned (.string ⟨(hexL n.toNat).toArray⟩) ∧ Below w.heap.size w w' := by
  have hmk : ∀ w, (Instr.makeSlice 22 (.int .i64 8) (.int .i64 8)).run Try.prog w = .ok (.slice (some ⟨w.heap.size, 0, none⟩) 8 8) (w.alloc (.cells #[.int .u8 0, .int .u8 0, .int .u8 0, .int .u8 0, .int .u8 0, .int .u8 0, .int .u8 0, .int .u8 0] 5)) := fun _ => by kernel_rfl
  have hback := back8
  go_enter Try.func39, Try.ntmps39
  go_wp2
  refine wp_loop_rounds 9 ?_
  repeat (rw [rounds_succ]; go_wp2_with (go_at_call 40; refine (implHexSignI _ _ _ h0 h1 (by omega) (by omega)).mono ?_; rintro e w' ⟨rfl, rfl⟩))
  go_ret
  refine ⟨ret_str ?_, (Below.refl _ _).alloc (Nat.le_refl _) _⟩
  rfl

set_option maxHeartbeats 400000 in
theorem specIn (x lo hi : Int) (w : World) :
    Calls Try.prog 35 #[.int .i64 x, .int .i64 lo, .int .i64 hi] w fun e w' => e = .returned (.bool (inB x lo hi)) ∧ w' = w := by
  by_cases h1 : lo ≤ x
  · by_cases h2 : x ≤ hi
    · have hB : Hid (inB x lo hi = true) := inB_yes x lo hi h1 h2
      go_enter Try.func35, Try.ntmps35
      go_wp2
      go_ret
      exact ⟨by rw [hB.out]; rfl, rfl⟩
    · have hB : Hid (inB x lo hi = false) := inB_no x lo hi (Or.inr (by omega))
      go_enter Try.func35, Try.ntmps35
      go_wp2
      go_ret
      exact ⟨by rw [hB.out]; rfl, rfl⟩
  · have hB : Hid (inB x lo hi = false) := inB_no x lo hi (Or.inl (by omega))
    go_enter Try.func35, Try.ntmps35
    go_wp2
    go_ret
    exact ⟨by rw [hB.out]; rfl, rfl⟩


set_option maxHeartbeats 400000 in
theorem implHexOf (n : Int) (w : World) :
    Calls Try.prog 28 #[.int .i64 n] w fun e w' => e = .returned (.string ⟨(hexS n).toArray⟩) ∧ Below w.heap.size w w' := by
  have hmf : ∀ (fn : Fn) (first cap : Array Value) (w : World), (Instr.makeFunc fn first cap).run Try.prog w = .ok (.func fn first cap) w := fun _ _ _ _ => rfl
  rcases (show n < 0 ∨ 4294967295 < n ∨ (0 ≤ n ∧ n ≤ 4294967295) by omega) with h | h | ⟨h0, h1⟩
  · have hS : Hid (hexS n = []) := hexS_no n (Or.inl h)
    go_enter Try.func28, Try.ntmps28
    go_wp2
    go_ret
    exact ⟨ret_str (by rw [hS.out]), Below.refl _ _⟩
  · have hS : Hid (hexS n = []) := hexS_no n (Or.inr h)
    go_enter Try.func28, Try.ntmps28
    go_wp2
    go_ret
    exact ⟨ret_str (by rw [hS.out]), Below.refl _ _⟩
  · have hS : Hid (hexS n = hexL n.toNat) := hexS_yes n h0 h1
    go_enter Try.func28, Try.ntmps28
    go_wp2_with (go_at_call 39; refine (implHighest _ _ h0 h1).mono ?_; rintro e w' ⟨rfl, hb⟩)
    go_ret
    exact ⟨ret_str (by rw [hS.out]), by assumption⟩

end Go.Proofs.Ytdjbcjmnegjndaa
