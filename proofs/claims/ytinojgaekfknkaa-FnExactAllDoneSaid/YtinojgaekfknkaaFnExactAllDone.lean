/-
  FnExactAllDone returns true at every desk and leaves it as it was: impl.AllDone answers as spec.AllDone.
-/
import Derived.Test.YtinojgaekfknkaaRows
import Derived.Test.YtinojgaekfknkaaP9
import Derived.Test.YtinojgaekfknkaaP10
import Derived.Test.YtinojgaekfknkaaP13
import Derived.WalkKit
import Derived.ProofKit
import Derived.OpenShut
import Derived.ShutString
import Derived.ChangeOld
import Derived.Below
namespace Go.Proofs.Ytinojgaekfknkaa.fnExactAllDone
open Go.ChangeShapes Go.WideShapes Go.ChangeAt Go.RowKit
open Go.ChangeMaps (open_string shut_string)
set_option linter.unusedVariables false

theorem own : ownKnob Try.prog.godebug = none := by kernel_rfl
theorem laidOut : laidOutB Try.prog = true := by kernel_rfl

/-! The walk: the law returns true and writes nothing that was there. -/
set_option maxHeartbeats 1000000 in
set_option maxRecDepth 1000000 in
theorem walk (a0 : Option Addr) (len0 cap0 : Nat) (ts0 : List Ta) (ep0 nw0 : Int) (jr0 : List UInt8) (w : World) (w0 : TasksIn w a0 len0 ts0) (wl0 : len0 ≤ maxLen) (wm0 : LongTa ts0) (wi0 : IntTas ts0) (we0 : -9223372036854775808 ≤ ep0 ∧ ep0 ≤ 9223372036854775807) (wn0 : -9223372036854775808 ≤ nw0 ∧ nw0 ≤ 9223372036854775807) (wj0 : jr0.length ≤ maxLen) :
    Calls Try.prog 6 #[.agg #[.slice a0 len0 cap0, .int .i64 ep0, .int .i64 nw0, .string ⟨jr0.toArray⟩]] w fun e w' => e = .returned (.bool true) ∧ Below w.heap.size w w' := by
  obtain rfl : ts0.length = len0 := w0.1
  obtain ⟨W, hW⟩ : ∃ W, w.alloc (.cells #[.slice a0 ts0.length cap0, .int .i64 ep0, .int .i64 nw0, .string ⟨jr0.toArray⟩] 24) = W := ⟨_, rfl⟩
  have hbW : Below w.heap.size w W := by rw [← hW]; exact (Below.refl _ _).alloc (Nat.le_refl _) _
  have hsW : W.heap.size = w.heap.size + 1 := by rw [← hW]; simp
  have hA : W.heap[w.heap.size]? = some (.cells #[.slice a0 ts0.length cap0, .int .i64 ep0, .int .i64 nw0, .string ⟨jr0.toArray⟩] 24) := by rw [← hW]; exact heap_alloc_new w _
  obtain ⟨D, hD0⟩ : ∃ D, w.heap.size = D := ⟨_, rfl⟩
  have HB : Hid (∀ Z, Below W.heap.size W Z → Below w.heap.size w Z) := fun Z hz => hbW.trans (hz.mono hbW.size)
  rw [hD0] at hA hsW
  have HK : Hid (∀ Z, Below W.heap.size W Z → (Z.cell? ⟨D, 0, none⟩ = some (.slice a0 ts0.length cap0) ∧ Z.cell? ⟨D, 1, none⟩ = some (.int .i64 ep0) ∧ Z.cell? ⟨D, 2, none⟩ = some (.int .i64 nw0) ∧ Z.cell? ⟨D, 3, none⟩ = some (.string ⟨jr0.toArray⟩)) ∧ TasksIn Z a0 ts0.length ts0) := fun Z hz => ⟨(fourF hz (by omega) hA).1, (w0.below hbW).below hz⟩
  obtain ⟨⟨k0, k1, k2, k3⟩, hT0⟩ := HK.out W (Below.refl _ _)
  have HZ0 : Hid (_) := szDeskC a0 ts0.length cap0 ts0 ep0 nw0 jr0 1048576 W hT0 (by omega) (by omega) wl0 wm0 wj0
  clear w0 hbW hA hT0
  by_cases hz : ((ts0.length + tasSz ts0 + jr0.length : Nat) : Int) ≤ 1048576
  · have HZ : Hid (szD (ts0.length + tasSz ts0 + jr0.length) 1048576 = 1048576 - ((ts0.length + tasSz ts0 + jr0.length : Nat) : Int)) := szD_yes hz
    rw [HZ.out] at HZ0
    have hln : ts0.length ≤ 1048576 := by omega
    have hsh := short_ta (fs := ts0) (by omega)
    have HN2 : Hid (∀ j, (ts0.getD j ta0).2.1.length ≤ 1048576) := fun j => (hsh j).2
    have HN4 : Hid (∀ j, (ts0.getD j ta0).2.1.length ≤ 4194304) := fun j => Nat.le_trans (hsh j).2 (by omega)
    obtain ⟨z, hz2⟩ : ∃ z, allDoneV (ts0, ep0, nw0, jr0) = z := ⟨_, rfl⟩
    have HS : Hid (_) := fun (a : Option Addr) (c : Nat) (V : World) (h : TasksIn V a ts0.length ts0) => specAllDone a ts0.length c ts0 ep0 nw0 jr0 V h hsh hln
    have HI : Hid (_) := fun (a : Option Addr) (V : World) (h : TasksIn V a ts0.length ts0) => implAllDone a ts0.length ts0.length ts0 ep0 nw0 jr0 V h (Nat.le_refl _) hsh hln
    have HTo : Hid (_) := fun (V : World) (h : TasksIn V a0 ts0.length ts0) => toDeskC a0 ts0.length cap0 ts0 ep0 nw0 jr0 V h hln HN2.out
    rw [hz2] at HS HI
    have hne : (z != z) = false := by simp
    have hge : (0 : Int) ≤ 1048576 - ((ts0.length + tasSz ts0 + jr0.length : Nat) : Int) := by omega
    generalize ((ts0.length + tasSz ts0 + jr0.length : Nat) : Int) = sz at HZ0 hge
    clear hz2 hsh hz HZ
    go_enter Try.func6, Try.ntmps6
    go_wp2_with fail
    refine Calls.mono HZ0.out ?_
    rintro e w1 ⟨rfl, hb1⟩
    have HB1 : Hid (Below W.heap.size W w1) := hb1
    clear k0 k1 k2 k3 hb1 HZ0
    obtain ⟨⟨k0, k1, k2, k3⟩, hT1⟩ := HK.out w1 HB1.out
    go_wp2_with fail
    refine Calls.mono (HTo.out w1 hT1) ?_
    rintro e w2 ⟨g2, xs2, rfl, hx2, ho2, _, hb2⟩
    obtain ⟨a2, c2, e2, hok2⟩ := ho2.ok
    have hl2 : xs2.length = ts0.length := by rw [← hx2, List.length_map]
    rw [hx2, hl2] at hok2
    rw [hl2] at e2
    injection e2 with e2 _ e3
    subst e2 e3
    have HB2 : Hid (Below W.heap.size W w2) := HB1.out.trans (hb2.mono HB1.out.size)
    clear k0 k1 k2 k3 hb2 hT1 ho2
    obtain ⟨⟨k0, k1, k2, k3⟩, hT2⟩ := HK.out w2 HB2.out
    go_wp2_with fail
    refine Calls.mono (HS.out _ _ w2 hok2.in) ?_
    rintro e w3 ⟨rfl, hb3⟩
    have HB3 : Hid (Below W.heap.size W w3) := HB2.out.trans (hb3.mono HB2.out.size)
    clear k0 k1 k2 k3 hb3 hT2 hok2
    obtain ⟨⟨k0, k1, k2, k3⟩, hT3⟩ := HK.out w3 HB3.out
    go_wp2_with fail
    refine Calls.mono (HTo.out w3 hT3) ?_
    rintro e w4 ⟨g4, xs4, rfl, hx4, ho4, _, hb4⟩
    obtain ⟨a4, c4, e4, hok4⟩ := ho4.ok
    have hl4 : xs4.length = ts0.length := by rw [← hx4, List.length_map]
    rw [hx4, hl4] at hok4
    rw [hl4] at e4
    injection e4 with e4 _ e5
    subst e4 e5
    have HB4 : Hid (Below W.heap.size W w4) := HB3.out.trans (hb4.mono HB3.out.size)
    obtain ⟨P, hP0⟩ : ∃ P, w4.heap.size = P := ⟨_, rfl⟩
    obtain ⟨w5, hw5⟩ : ∃ W, w4.alloc (.cells #[.slice (some ⟨g4, 0, none⟩) ts0.length ts0.length, .int .i64 ep0, .int .i64 nw0, .string ⟨jr0.toArray⟩] 29) = W := ⟨_, rfl⟩
    have hb5 : Below w4.heap.size w4 w5 := by rw [← hw5]; exact (Below.refl _ _).alloc (Nat.le_refl _) _
    have hs5 : w5.heap.size = P + 1 := by rw [← hw5, ← hP0]; simp
    have hA5 : w5.heap[P]? = some (.cells #[.slice (some ⟨g4, 0, none⟩) ts0.length ts0.length, .int .i64 ep0, .int .i64 nw0, .string ⟨jr0.toArray⟩] 29) := by rw [← hw5, ← hP0]; exact heap_alloc_new w4 _
    have HB5 : Hid (Below W.heap.size W w5) := HB4.out.trans (hb5.mono HB4.out.size)
    have HP : Hid (∀ Z, Below w5.heap.size w5 Z → (Z.cell? ⟨P, 0, none⟩ = some (.slice (some ⟨g4, 0, none⟩) ts0.length ts0.length) ∧ Z.cell? ⟨P, 1, none⟩ = some (.int .i64 ep0) ∧ Z.cell? ⟨P, 2, none⟩ = some (.int .i64 nw0) ∧ Z.cell? ⟨P, 3, none⟩ = some (.string ⟨jr0.toArray⟩)) ∧ TasksIn Z (some ⟨g4, 0, none⟩) ts0.length ts0) := fun Z hz => ⟨(fourF hz (by omega) hA5).1, (hok4.in.below hb5).below hz⟩
    clear k0 k1 k2 k3 hb4 hT3 hok4 ho4 hb5 hA5
    obtain ⟨⟨k0, k1, k2, k3⟩, -⟩ := HK.out w5 HB5.out
    obtain ⟨⟨q0, q1, q2, q3⟩, hT5⟩ := HP.out w5 (Below.refl _ _)
    go_wp2_with fail
    refine Calls.mono (HI.out _ w5 hT5) ?_
    rintro e w6 ⟨rfl, hb6⟩
    have HB6 : Hid (Below W.heap.size W w6) := HB5.out.trans (hb6.mono HB5.out.size)
    have HQ6 : Hid (Below w5.heap.size w5 w6) := hb6
    clear k0 k1 k2 k3 q0 q1 q2 q3 hb6 hT5
    obtain ⟨⟨k0, k1, k2, k3⟩, -⟩ := HK.out w6 HB6.out
    obtain ⟨⟨q0, q1, q2, q3⟩, -⟩ := HP.out w6 HQ6.out
    go_wp2_with fail
    have HD6 : Hid (Below w6.heap.size w6 w6.drew) := ⟨rfl, rfl, rfl, Nat.le_refl _, fun _ _ => rfl⟩
    have HB7 : Hid (Below W.heap.size W w6.drew) := HB6.out.trans (HD6.out.mono HB6.out.size)
    have HQ7 : Hid (Below w5.heap.size w5 w6.drew) := HQ6.out.trans (HD6.out.mono HQ6.out.size)
    go_region_held3 (fun w' => w'.cell? ⟨D, 0, none⟩ = some (.slice a0 ts0.length cap0) ∧ w'.cell? ⟨D, 1, none⟩ = some (.int .i64 ep0) ∧ w'.cell? ⟨D, 2, none⟩ = some (.int .i64 nw0) ∧ w'.cell? ⟨D, 3, none⟩ = some (.string ⟨jr0.toArray⟩) ∧ w'.cell? ⟨P, 0, none⟩ = some (.slice (some ⟨g4, 0, none⟩) ts0.length ts0.length) ∧ w'.cell? ⟨P, 1, none⟩ = some (.int .i64 ep0) ∧ w'.cell? ⟨P, 2, none⟩ = some (.int .i64 nw0) ∧ w'.cell? ⟨P, 3, none⟩ = some (.string ⟨jr0.toArray⟩)) (go_keep) (first
      | (go_at_call 9; refine Calls.mono (HTo.out _ (HK.out _ HB7.out).2) ?_; rintro e wn ⟨g7, xs7, rfl, hx7, ho7, _, hbn⟩; obtain ⟨a7, c7, e7, hok7⟩ := ho7.ok; have hl7 : xs7.length = ts0.length := (by rw [← hx7, List.length_map]); rw [hx7, hl7] at hok7; rw [hl7] at e7; injection e7 with e7 _ e8; subst e7 e8; replace HB7 : Hid (Below W.heap.size W wn) := HB7.out.trans (hbn.mono HB7.out.size); replace HQ7 : Hid (Below w5.heap.size w5 wn) := HQ7.out.trans (hbn.mono HQ7.out.size); clear k0 k1 k2 k3 q0 q1 q2 q3 hbn ho7; obtain ⟨⟨k0, k1, k2, k3⟩, -⟩ := HK.out wn HB7.out; obtain ⟨⟨q0, q1, q2, q3⟩, hTn⟩ := HP.out wn HQ7.out)
      | (go_at_call 11; refine Calls.mono (eqDeskC (some ⟨g4, 0, none⟩) (some ⟨g7, 0, none⟩) ts0.length ts0.length ts0.length ts0 ep0 nw0 jr0 _ hTn hok7.in (by omega) HN4.out) ?_; rintro e wm ⟨rfl, hbm⟩; replace HB7 : Hid (Below W.heap.size W wm) := HB7.out.trans (hbm.mono HB7.out.size); replace HQ7 : Hid (Below w5.heap.size w5 wm) := HQ7.out.trans (hbm.mono HQ7.out.size); clear k0 k1 k2 k3 q0 q1 q2 q3 hbm; obtain ⟨⟨k0, k1, k2, k3⟩, -⟩ := HK.out wm HB7.out; obtain ⟨⟨q0, q1, q2, q3⟩, -⟩ := HP.out wm HQ7.out))
    all_goals
      go_wp2
      go_ret
      exact ⟨rfl, HB.out _ HB7.out⟩
  · have HZ : Hid (szD (ts0.length + tasSz ts0 + jr0.length) 1048576 = -1) := szD_no hz
    rw [HZ.out] at HZ0
    go_enter Try.func6, Try.ntmps6
    go_wp2_with fail
    refine Calls.mono HZ0.out ?_
    rintro e w1 ⟨rfl, hb1⟩
    go_wp2
    go_ret
    exact ⟨rfl, HB.out _ hb1⟩

set_option maxRecDepth 100000 in
theorem lifted (os : Os) (started : os.Started) (H : Type) (enc : TypeId × Value → H) :
    ReturnsInHanded {} Try.checked os 6 .any (Rows.fnExactAllDoneSpec.pre6 enc Try.prog Try.f6 Rows.fnExactAllDoneRow.domain false) (Rows.fnExactAllDoneSpec.post enc Try.prog Try.f6 false true false false) := by
  refine returnsInHanded_of_change (C := Try.checked) own started (by kernel_rfl) Try.func6
    (ChangeSpec.witness6 (enc := enc) (C := Try.checked) false ⟨#[], #[.agg #[.slice none 0 0, .int .i64 0, .int .i64 0, .string ByteArray.empty]], []⟩ 8 (by kernel_rfl) (by kernel_rfl) (by kernel_rfl) (by kernel_rfl)) ?_
  intro W base args ds gs before hval0 hW hcnd _
  have hval : ∀ (j : Nat) t v, Try.f6.params[j]? = some t → args[j]? = some v → Value.okWide Try.prog W .any base t v := hval0
  have hW' := hW
  obtain ⟨p, q, hA0, hV, rfl, hfz, hnd⟩ := hW
  have hA : DataW.TrodAll enc Try.prog W 0 (fun _ => true) true Try.f6.params.toList args.toList ds p := hA0
  rw [Try.params6] at hA hval
  obtain ⟨v0, vs0, d0, ds0, p0, q0, hargs, rfl, rfl, h0, r0⟩ := trodAll_cons hA
  obtain ⟨rfl, rfl, rfl⟩ := trodAll_nil r0
  obtain rfl : args = #[v0] := by cases args; simp_all
  obtain ⟨rfl, rfl⟩ := trodVars_none hV
  have k0 := h0
  have lt0 : ∀ x ∈ p0, x.block < W.heap.size := by obtain ⟨m, hm⟩ := k0; exact DataW.trod_lt m _ _ _ hm
  obtain ⟨a0, len0, cap0, ts0, ep0, nw0, jr0, rfl, w0, wl0, wm0, wi0, we0, wn0, wj0⟩ := open_desk (hval 0 24 v0 rfl rfl) h0
  clear hA0 hval0
  refine (walk a0 len0 cap0 ts0 ep0 nw0 jr0 W w0 wl0 wm0 wi0 we0 wn0 wj0).mono fun e W' ⟨he, bel⟩ => ?_
  subst he
  exact ⟨_, rfl, _, _, _, [], _, [], hW', trodAll_mk1 (shut_bool Try.underlying4 _), (trodAll_cons_mk (Below.trod laidOut (by kernel_rfl) (of_decide_eq_true (by kernel_rfl)) k0 bel lt0) trodAll_mk0), rfl, bel.frame _, fun h => by cases h⟩

theorem over : Rows.fnExactAllDoneRow.holds Try.pinned (OpenSpec.ofChange Rows.fnExactAllDoneSpec) :=
  OpenClaim.holds_of_wide 6 Try.f6 rfl rfl rfl rfl rfl rfl rfl ⟨rfl, rfl, rfl, rfl, rfl⟩ rfl rfl rfl rfl rfl (by kernel_rfl) Try.func6 (by kernel_rfl)
    (of_decide_eq_true (by kernel_rfl)) (by unfold Func.isWrapper; first | (rw [if_pos (by decide +kernel)]; kernel_rfl) | (rw [if_neg (by decide +kernel)]; exact ⟨rfl, rfl⟩))
    (fun os started H enc _ => lifted os started H enc)

theorem proved : Rows.FnExactAllDoneSaid :=
  over
#print axioms proved
end Go.Proofs.Ytinojgaekfknkaa.fnExactAllDone
