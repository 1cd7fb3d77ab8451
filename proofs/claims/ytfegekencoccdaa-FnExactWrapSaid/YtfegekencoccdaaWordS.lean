/-
  The contracts of chapter 4's specification: WordOk, Wrap, Done.
-/
import Derived.Test.YtfegekencoccdaaMath4
import Derived.Test.YtfegekencoccdaaHexOf
namespace Go.Proofs.Ytfegekencoccdaa
open Go.RowKit

set_option maxHeartbeats 400000 in
theorem specWordOk (n : Int) (w : World) : Calls Try.prog 15 #[.int .i64 n] w fun e w' => e = .returned (.bool (inB n (-2147483648) 2147483647)) ∧ w' = w := by
  go_enter Try.func15, Try.ntmps15
  go_wp2_with (go_at_call 22; refine (specIn _ _ _ _).mono ?_; rintro e w' ⟨rfl, rfl⟩)
  go_ret
  exact ⟨rfl, rfl⟩

set_option maxHeartbeats 400000 in
theorem specWrap (n : Int) (w : World) : Calls Try.prog 13 #[.int .i64 n] w fun e w' => e = .returned (.int .i64 (wrapW n)) ∧ w' = w := by
  go_enter Try.func13, Try.ntmps13
  go_wp2
  go_ret
  exact ⟨ret_int (wrapWW n), rfl⟩

theorem ret_ib {m n : Int} {c d : Bool} (h : m = n) (j : c = d) : Ending.returned (.tuple #[.int .i64 m, .bool c]) = .returned (.tuple #[.int .i64 n, .bool d]) := by rw [h, j]

set_option maxHeartbeats 1000000 in
theorem specL4Done (kind a b : Int) (w : World) (ha : -2147483648 ≤ a ∧ a ≤ 2147483647) (hb : -2147483648 ≤ b ∧ b ≤ 2147483647) :
    Calls Try.prog 21 #[.int .i64 kind, .int .i64 a, .int .i64 b] w fun e w' => e = .returned (.tuple #[.int .i64 (doneV kind a b), .bool (doneB kind a b)]) ∧ w' = w := by
  obtain ⟨h3, h4, h5, h6, h0⟩ := done_in kind a b ⟨ha, hb⟩
  obtain ⟨hm1, hm2⟩ := mul_bd a b ha hb
  obtain ⟨ha1, ha2⟩ := ha
  obtain ⟨hb1, hb2⟩ := hb
  by_cases k3 : kind = 3
  · have HO : Hid (doneV kind a b = wrapW (a + b) ∧ doneB kind a b = true) := h3 k3
    clear h3 h4 h5 h6 h0
    subst k3
    go_enter Try.func21, Try.ntmps21
    go_wp2_with (go_at_call 13; refine (specWrap _ _).mono ?_; rintro e w' ⟨rfl, rfl⟩)
    go_ret2
    exact ⟨by rw [HO.out.1, HO.out.2]; rfl, rfl⟩
  · have d3 : (kind == 3) = false := beq_eq_false_iff_ne.2 k3
    by_cases k4 : kind = 4
    · have HO : Hid (doneV kind a b = wrapW (a - b) ∧ doneB kind a b = true) := h4 k4
      clear h3 h4 h5 h6 h0 d3 k3
      subst k4
      go_enter Try.func21, Try.ntmps21
      go_wp2_with (go_at_call 13; refine (specWrap _ _).mono ?_; rintro e w' ⟨rfl, rfl⟩)
      go_ret2
      exact ⟨by rw [HO.out.1, HO.out.2]; rfl, rfl⟩
    · have d4 : (kind == 4) = false := beq_eq_false_iff_ne.2 k4
      by_cases k5 : kind = 5
      · have HO : Hid (doneV kind a b = wrapW (a * b) ∧ doneB kind a b = true) := h5 k5
        clear h3 h4 h5 h6 h0 d3 k3 d4 k4
        subst k5
        go_enter Try.func21, Try.ntmps21
        go_wp2_with (go_at_call 13; refine (specWrap _ _).mono ?_; rintro e w' ⟨rfl, rfl⟩)
        go_ret2
        exact ⟨by rw [HO.out.1, HO.out.2]; rfl, rfl⟩
      · have d5 : (kind == 5) = false := beq_eq_false_iff_ne.2 k5
        by_cases k6 : kind = 6
        · by_cases kb : b = 0
          · have HO : Hid (doneV kind a b = 0 ∧ doneB kind a b = false) := h0 k3 k4 k5 (fun h => h.2 kb)
            clear h3 h4 h5 h6 h0 d3 k3 d4 k4 d5 k5
            subst k6 kb
            go_enter Try.func21, Try.ntmps21
            go_wp2
            go_ret2
            exact ⟨by rw [HO.out.1, HO.out.2]; rfl, rfl⟩
          · have HO : Hid (doneV kind a b = wrapW (a.tdiv b) ∧ doneB kind a b = true) := h6 k6 kb
            have db : (b != 0) = true := bne_iff_ne.2 kb
            have hq := tdiv_bd a b ⟨ha1, ha2⟩
            obtain ⟨hq1, hq2⟩ := hq
            clear h3 h4 h5 h6 h0 d3 k3 d4 k4 d5 k5
            subst k6
            go_enter Try.func21, Try.ntmps21
            go_wp2_with (go_at_call 13; refine (specWrap _ _).mono ?_; rintro e w' ⟨rfl, rfl⟩)
            go_ret2
            exact ⟨by rw [HO.out.1, HO.out.2]; rfl, rfl⟩
        · have HO : Hid (doneV kind a b = 0 ∧ doneB kind a b = false) := h0 k3 k4 k5 (fun h => k6 h.1)
          have d6 : (kind == 6) = false := beq_eq_false_iff_ne.2 k6
          clear h3 h4 h5 h6 h0 k3 k4 k5 k6
          go_enter Try.func21, Try.ntmps21
          go_wp2
          go_ret2
          exact ⟨by rw [HO.out.1, HO.out.2]; rfl, rfl⟩

set_option maxHeartbeats 1000000 in
theorem specDone (kind a b : Int) (w : World) :
    Calls Try.prog 12 #[.int .i64 kind, .int .i64 a, .int .i64 b] w fun e w' => e = .returned (.tuple #[.int .i64 (doneV kind a b), .bool (doneB kind a b)]) ∧ w' = w := by
  by_cases ha : -2147483648 ≤ a ∧ a ≤ 2147483647
  · have da : inB a (-2147483648) 2147483647 = true := inB_yes _ _ _ ha.1 ha.2
    by_cases hb : -2147483648 ≤ b ∧ b ≤ 2147483647
    · have db : inB b (-2147483648) 2147483647 = true := inB_yes _ _ _ hb.1 hb.2
      have HC : Hid (_) := specL4Done kind a b w ha hb
      clear ha hb
      go_enter Try.func12, Try.ntmps12
      go_wp2_with (first | (go_at_call 21; refine Calls.mono HC.out ?_; rintro e w' ⟨rfl, rfl⟩) | (go_at_call 15; refine (specWordOk _ _).mono ?_; rintro e w' ⟨rfl, rfl⟩))
      go_ret2
      exact ⟨rfl, rfl⟩
    · have db : inB b (-2147483648) 2147483647 = false := inB_no _ _ _ (by omega)
      have HO : Hid (doneV kind a b = 0 ∧ doneB kind a b = false) := done_no kind a b (fun h => hb h.2)
      clear ha hb
      go_enter Try.func12, Try.ntmps12
      go_wp2_with (go_at_call 15; refine (specWordOk _ _).mono ?_; rintro e w' ⟨rfl, rfl⟩)
      go_ret2
      exact ⟨by rw [HO.out.1, HO.out.2]; rfl, rfl⟩
  · have da : inB a (-2147483648) 2147483647 = false := inB_no _ _ _ (by omega)
    have HO : Hid (doneV kind a b = 0 ∧ doneB kind a b = false) := done_no kind a b (fun h => ha h.1)
    clear ha
    go_enter Try.func12, Try.ntmps12
    go_wp2_with (go_at_call 15; refine (specWordOk _ _).mono ?_; rintro e w' ⟨rfl, rfl⟩)
    go_ret2
    exact ⟨by rw [HO.out.1, HO.out.2]; rfl, rfl⟩

end Go.Proofs.Ytfegekencoccdaa
