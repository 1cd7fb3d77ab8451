/-
  FnExactRunImage returns true at every image, name, list of numbers and fuel and leaves what it was handed as it was: impl.RunImage answers as spec.RunImage.
-/
import Derived.Test.YthjemelnbbpdcaaRows
import Derived.Test.YthjemelnbbpdcaaP1
import Derived.Test.YthjemelnbbpdcaaP2
import Derived.Test.YthjemelnbbpdcaaP3
import Derived.Test.YthjemelnbbpdcaaP4
import Derived.Test.YthjemelnbbpdcaaP5
import Derived.Test.YthjemelnbbpdcaaP6
import Derived.Test.YthjemelnbbpdcaaP7
import Derived.Test.YthjemelnbbpdcaaP8
import Derived.Test.YthjemelnbbpdcaaP9
import Derived.Test.YthjemelnbbpdcaaP10
import Derived.Test.YthjemelnbbpdcaaP11
import Derived.Test.YthjemelnbbpdcaaP12
import Derived.Test.YthjemelnbbpdcaaP13
import Derived.Test.YthjemelnbbpdcaaP14
import Derived.Test.YthjemelnbbpdcaaP15
import Derived.Test.YthjemelnbbpdcaaP16
import Derived.Test.YthjemelnbbpdcaaP17
import Derived.Test.YthjemelnbbpdcaaP18
import Derived.Test.YthjemelnbbpdcaaP19
import Derived.Test.YthjemelnbbpdcaaP20
import Derived.Test.YthjemelnbbpdcaaP21
import Derived.Test.YthjemelnbbpdcaaP22
import Derived.Test.YthjemelnbbpdcaaP23
import Derived.Test.YthjemelnbbpdcaaP24
import Derived.Test.YthjemelnbbpdcaaP25
import Derived.Test.YthjemelnbbpdcaaP26
import Derived.Test.YthjemelnbbpdcaaP27
import Derived.Test.YthjemelnbbpdcaaP28
import Derived.Test.YthjemelnbbpdcaaP29
import Derived.WalkKit
import Derived.ProofKit
import Derived.OpenShut
import Derived.ShutString
import Derived.ChangeOld
import Derived.Below
namespace Go.Proofs.Ythjemelnbbpdcaa.fnExactRunImage
open Go.ChangeShapes Go.WideShapes Go.ChangeAt Go.RowKit
open Go.ChangeMaps (open_string shut_string)
set_option linter.unusedVariables false

theorem own : ownKnob Try.prog.godebug = none := by kernel_rfl
theorem laidOut : laidOutB Try.prog = true := by kernel_rfl

/-! The walk: the law returns true and writes nothing that was there. -/
set_option maxHeartbeats 1000000 in
set_option maxRecDepth 1000000 in
theorem walk (a0 : Option Addr) (len0 cap0 : Nat) (rs0 : List Rt) (a1 : ByteArray) (a2 : Option Addr) (cap2 : Nat) (xs2 : List Int) (a3 : Int) (w : World) (w0 : RtsIn w a0 len0 rs0) (wl0 : len0 ≤ maxLen) (wm0 : LongR rs0) (wi0 : IntR rs0) (w1 : a1.size ≤ maxLen) (w2 : AsIn w a2 xs2) (wl2 : xs2.length ≤ maxLen) (wi2 : ∀ x ∈ xs2, (Lit.int .i64 x).wf = true) (w3 : (Lit.int .i64 a3).wf = true) :
    Calls Try.prog 5 #[.agg #[.slice a0 len0 cap0], .string a1, .slice a2 xs2.length cap2, .int .i64 a3] w fun e w' => e = .returned (.bool true) ∧ Below w.heap.size w w' := by
  obtain ⟨q, rfl⟩ : ∃ l : List UInt8, a1 = ⟨l.toArray⟩ := ⟨a1.data.toList, by cases a1; simp⟩
  obtain rfl : rs0.length = len0 := w0.1
  obtain ⟨W, hW⟩ : ∃ W, w.alloc (.cells #[.slice a0 rs0.length cap0] 35) = W := ⟨_, rfl⟩
  have hB0 : Below w.heap.size w W := by rw [← hW]; exact (Below.refl _ w).alloc (Nat.le_refl _) _
  have hA := heap_alloc_new w (.cells #[.slice a0 rs0.length cap0] 35)
  rw [hW] at hA
  have HR : Hid (∀ V, Below W.heap.size W V → RtsIn V a0 rs0.length rs0) := fun V h => (w0.below hB0).below h
  obtain ⟨D, hD0⟩ : ∃ D, w.heap.size = D := ⟨_, rfl⟩
  rw [hD0] at hA hB0
  have k0 : W.cell? ⟨D, 0, none⟩ = some (.slice a0 rs0.length cap0) := cell_of_one hA
  have hDl : D < W.heap.size := lt_of_block hA
  have HK : Hid (∀ V, Below W.heap.size W V → V.cell? ⟨D, 0, none⟩ = some (.slice a0 rs0.length cap0)) := fun V h => (h.cell (p := ⟨D, 0, none⟩) hDl).trans (cell_of_one hA)
  have HB : Hid (∀ V, Below W.heap.size W V → Below w.heap.size w V) := fun V h => by rw [hD0]; exact hB0.trans (h.mono (by have := hB0.size; omega))
  have hV : Below W.heap.size W W := Below.refl _ _
  have HX : Hid (∀ V, Below W.heap.size W V → AsIn V a2 xs2) := fun V h => (w2.below (by rw [hD0]; exact hB0)).below h
  have hxl2 : (xs2.length : Int) ≤ 9223372036854775807 := by unfold maxLen at wl2; omega
  have hfb : -9223372036854775808 ≤ a3 ∧ a3 ≤ 9223372036854775807 := by simpa [Lit.wf, IntKind.min, IntKind.max, IntKind.signed, IntKind.bits] using w3
  clear w0 w2 w3 hA hB0
  by_cases hqb : 1048576 < (q.length : Int)
  · clear wm0 wi0 wi2
    go_enter Try.func5, Try.ntmps5
    go_wp2
    go_ret
    first | exact ⟨rfl, HB.out _ hV⟩ | exact ⟨rfl, by rw [← hD0]; exact HB.out _ hV⟩
  have hq : q.length ≤ 1048576 := by omega
  by_cases hxb : 1048576 < (xs2.length : Int)
  · clear wm0 wi0 wi2
    go_enter Try.func5, Try.ntmps5
    go_wp2
    go_ret
    first | exact ⟨rfl, HB.out _ hV⟩ | exact ⟨rfl, by rw [← hD0]; exact HB.out _ hV⟩
  have hx : xs2.length ≤ 1048576 := by omega
  by_cases hz : ((rs0.length + rtsSz rs0 : Nat) : Int) ≤ 1048576
  rotate_left
  · have HZ : Hid (szR (rs0.length + rtsSz rs0) 1048576 = -1) := szR_no hz
    clear wi0 wi2
    go_enter Try.func5, Try.ntmps5
    go_wp2_with fail
    refine (szImageC a0 rs0.length cap0 rs0 1048576 _ (HR.out _ hV) (by omega) (by omega) wl0 wm0).mono ?_
    rintro e w1 ⟨rfl, hb1⟩
    rw [HZ.out]
    replace hV := hV.trans (hb1.mono hV.size)
    clear hb1
    go_wp2
    go_ret
    first | exact ⟨rfl, HB.out _ hV⟩ | exact ⟨rfl, by rw [← hD0]; exact HB.out _ hV⟩
  have HZ : Hid (szR (rs0.length + rtsSz rs0) 1048576 = 1048576 - ((rs0.length + rtsSz rs0 : Nat) : Int)) := szR_yes hz
  obtain ⟨hln, hsh⟩ := rt_small (by omega : rs0.length + rtsSz rs0 ≤ 1048576)
  have hge : (0 : Int) ≤ 1048576 - ((rs0.length + rtsSz rs0 : Nat) : Int) := by omega
  have HSh : Hid (ShortR rs0) := hsh
  have HS2 : Hid (∀ j, (rs0.getD j rt0).2.2.length ≤ 1048576) := fun j => (hsh j).2.1
  have HS4 : Hid (∀ j, (rs0.getD j rt0).2.2.length ≤ 4194304) := fun j => Nat.le_trans (hsh j).2.1 (by omega)
  have HTx : Hid (_) := fun (V : World) (h : AsIn V a2 xs2) => toInt64SC a2 cap2 xs2 V h hx
  have HEx : Hid (_) := fun (V : World) (b1 b2 g1 g2 : Nat) (h1 : V.ownsRow b1 2 1 (.slice (some ⟨g1, 0, none⟩) xs2.length xs2.length) xs2.length (intsV xs2)) (h2 : V.ownsRow b2 2 1 (.slice (some ⟨g2, 0, none⟩) xs2.length xs2.length) xs2.length (intsV xs2)) => eqIntC V b1 b2 g1 g2 xs2.length xs2.length xs2 (by omega) h1 h2
  have HAs : Hid (_) := fun (V : World) (b g : Nat) (h : V.ownsRow b 2 1 (.slice (some ⟨g, 0, none⟩) xs2.length xs2.length) xs2.length (intsV xs2)) => nums_as h rfl
  have HSp : Hid (_) := fun (g gx : Nat) (V : World) (h : RtsIn V (some ⟨g, 0, none⟩) rs0.length rs0) (k : AsIn V (some ⟨gx, 0, none⟩) xs2) => specRunImage (some ⟨g, 0, none⟩) rs0.length rs0.length rs0 q (some ⟨gx, 0, none⟩) xs2.length xs2 a3 V h HSh.out hln k hx
  have HIm : Hid (_) := fun (g gx : Nat) (V : World) (h : RtsCap V (some ⟨g, 0, none⟩) rs0.length rs0.length rs0) (k : AsIn V (some ⟨gx, 0, none⟩) xs2) => implRunImage (some ⟨g, 0, none⟩) rs0.length rs0.length rs0 q (some ⟨gx, 0, none⟩) xs2.length xs2 a3 V ⟨h, wi0, HSh.out, hln⟩ hq k hx (Nat.le_refl _) wl2 wi2 hfb
  obtain ⟨z, hzv⟩ : ∃ z, runV rs0 q xs2 a3 = z := ⟨_, rfl⟩
  rw [hzv] at HSp HIm
  obtain ⟨z0, z1⟩ := z
  simp only at HSp HIm
  have hself0 : (z0 != z0) = false := by simp
  have hself1 : (z1 != z1) = false := by simp
  clear hzv hsh wi2 wl2 hfb
  generalize ((rs0.length + rtsSz rs0 : Nat) : Int) = sz at HZ hge hz
  generalize xs2.length = nx at *
  go_enter Try.func5, Try.ntmps5
  go_wp2_with fail
  refine (szImageC a0 rs0.length cap0 rs0 1048576 _ (HR.out _ hV) (by omega) (by omega) wl0 wm0).mono ?_
  rintro e w1 ⟨rfl, hb1⟩
  rw [HZ.out]
  replace hV := hV.trans (hb1.mono hV.size)
  replace k0 := HK.out _ hV
  clear hb1
  go_wp2_with fail
  refine (toImageC a0 rs0.length cap0 rs0 _ (HR.out _ hV) hln HS2.out).mono ?_
  rintro e w2 ⟨g2, xs2, rfl, hxs2, hof2, hap2, hb2⟩
  have hc2 := hof2.cap hxs2 rfl
  replace hV := hV.trans (hb2.mono hV.size)
  replace k0 := HK.out _ hV
  clear hb2 hof2 hap2 hxs2
  go_wp2_with fail
  refine Calls.mono (HTx.out _ (HX.out _ hV)) ?_
  rintro e w3 ⟨rfl, hx3, hb3⟩
  replace hV := hV.trans (hb3.mono hV.size)
  replace k0 := HK.out _ hV
  replace hc2 := hc2.below hb3
  clear hb3
  go_wp2_with fail
  refine Calls.mono (HSp.out _ _ _ hc2.in (HAs.out _ _ _ hx3)) ?_
  rintro e w4 ⟨rfl, hb4⟩
  replace hV := hV.trans (hb4.mono hV.size)
  replace k0 := HK.out _ hV
  clear hb4 hc2 hx3
  go_wp2_with fail
  refine (toImageC a0 rs0.length cap0 rs0 _ (HR.out _ hV) hln HS2.out).mono ?_
  rintro e w5 ⟨g5, xs5, rfl, hxs5, hof5, hap5, hb5⟩
  have hc5 := hof5.cap hxs5 rfl
  replace hV := hV.trans (hb5.mono hV.size)
  replace k0 := HK.out _ hV
  clear hb5 hof5 hap5 hxs5
  obtain ⟨P, hP0⟩ : ∃ P, w5.heap.size = P := ⟨_, rfl⟩
  obtain ⟨w6, hw6⟩ : ∃ V, w5.alloc (.cells #[.slice (some ⟨g5, 0, none⟩) rs0.length rs0.length] 26) = V := ⟨_, rfl⟩
  have hb6 : Below w5.heap.size w5 w6 := by rw [← hw6]; exact (Below.refl _ _).alloc (Nat.le_refl _) _
  have hA6 := heap_alloc_new w5 (.cells #[.slice (some ⟨g5, 0, none⟩) rs0.length rs0.length] 26)
  rw [hw6, hP0] at hA6
  have hP6 : P < w6.heap.size := lt_of_block hA6
  have HQ6 : Hid (∀ V, Below w6.heap.size w6 V → V.cell? ⟨P, 0, none⟩ = some (.slice (some ⟨g5, 0, none⟩) rs0.length rs0.length) ∧ RtsCap V (some ⟨g5, 0, none⟩) rs0.length rs0.length rs0) := fun V h => ⟨(h.cell (p := ⟨P, 0, none⟩) hP6).trans (cell_of_one hA6), (hc5.below hb6).below h⟩
  replace hV := hV.trans (hb6.mono hV.size)
  replace k0 := HK.out _ hV
  clear hb6 hc5 hA6 hP6
  go_wp2_with fail
  refine Calls.mono (HTx.out _ (HX.out _ hV)) ?_
  rintro e w7 ⟨rfl, hx7, hb7⟩
  replace hV := hV.trans (hb7.mono hV.size)
  replace k0 := HK.out _ hV
  have HQ : Hid (∀ V, Below w7.heap.size w7 V → V.cell? ⟨P, 0, none⟩ = some (.slice (some ⟨g5, 0, none⟩) rs0.length rs0.length) ∧ RtsCap V (some ⟨g5, 0, none⟩) rs0.length rs0.length rs0) := fun V h => HQ6.out V (hb7.trans (h.mono hb7.size))
  have HOx : Hid (∀ V, Below w7.heap.size w7 V → _) := fun V h => own_below hx7 h
  have hQ : Below w7.heap.size w7 w7 := Below.refl _ _
  have q0 := (HQ.out _ hQ).1
  clear hb7 hx7
  go_wp2_with fail
  refine Calls.mono (HIm.out _ _ _ (HQ.out _ hQ).2 (HAs.out _ _ _ (HOx.out _ hQ))) ?_
  rintro e w8 ⟨rfl, hb8⟩
  replace hV := hV.trans (hb8.mono hV.size)
  replace hQ := hQ.trans (hb8.mono hQ.size)
  replace k0 := HK.out _ hV
  replace q0 := (HQ.out _ hQ).1
  clear hb8
  go_wp2_with fail
  replace hV := hV.drew
  replace hQ := hQ.drew
  go_region_held3 (fun w' => w'.cell? ⟨D, 0, none⟩ = some (.slice a0 rs0.length cap0) ∧ w'.cell? ⟨P, 0, none⟩ = some (.slice (some ⟨g5, 0, none⟩) rs0.length rs0.length)) (go_keep) (first
    | (go_at_call 13; refine (toImageC a0 rs0.length cap0 rs0 _ (HR.out _ hV) hln HS2.out).mono ?_; rintro e wn ⟨g9, xs9, rfl, hxs9, hof9, _, hbn⟩; have hc9 := hof9.cap hxs9 rfl; replace hV := hV.trans (hbn.mono hV.size); replace hQ := hQ.trans (hbn.mono hQ.size); replace k0 := HK.out _ hV; replace q0 := (HQ.out _ hQ).1; clear hbn hof9 hxs9)
    | (go_at_call 15; refine (eqImageC (some ⟨g5, 0, none⟩) (some ⟨g9, 0, none⟩) rs0.length rs0.length rs0.length rs0 _ (HQ.out _ hQ).2.in hc9.in (by omega) HS4.out).mono ?_; rintro e wn ⟨rfl, hbn⟩; replace hV := hV.trans (hbn.mono hV.size); replace hQ := hQ.trans (hbn.mono hQ.size); replace k0 := HK.out _ hV; replace q0 := (HQ.out _ hQ).1; clear hbn))
  all_goals
    go_wp2_with fail
    refine Calls.mono (HTx.out _ (HX.out _ hV)) ?_
    rintro e w10 ⟨rfl, hx10, hb10⟩
    replace hV := hV.trans (hb10.mono hV.size)
    replace hQ := hQ.trans (hb10.mono hQ.size)
    clear hb10
    go_wp2_with fail
    refine Calls.mono (HEx.out _ _ _ _ _ (HOx.out _ hQ) hx10) ?_
    rintro e w11 ⟨rfl, hg11⟩
    have HF := hV.grown hg11 hV.size (by simp)
    clear hx10 hg11
    go_wp2
    go_ret
    exact ⟨rfl, HB.out _ HF⟩

set_option maxRecDepth 100000 in
theorem lifted (os : Os) (started : os.Started) (H : Type) (enc : TypeId × Value → H) :
    ReturnsInHanded {} Try.checked os 5 .any (Rows.fnExactRunImageSpec.pre6 enc Try.prog Try.f5 Rows.fnExactRunImageRow.domain false) (Rows.fnExactRunImageSpec.post enc Try.prog Try.f5 false true false false) := by
  refine returnsInHanded_of_change (C := Try.checked) own started (by kernel_rfl) Try.func5
    (ChangeSpec.witness6 (enc := enc) (C := Try.checked) false ⟨#[], #[.agg #[.slice none 0 0], .string ByteArray.empty, .slice none 0 0, .int .i64 0], []⟩ 8 (by kernel_rfl) (by kernel_rfl) (by kernel_rfl) (by kernel_rfl)) ?_
  intro W base args ds gs before hval0 hW hcnd _
  have hval : ∀ (j : Nat) t v, Try.f5.params[j]? = some t → args[j]? = some v → Value.okWide Try.prog W .any base t v := hval0
  have hW' := hW
  obtain ⟨p, q, hA0, hV, rfl, hfz, hnd⟩ := hW
  have hA : DataW.TrodAll enc Try.prog W 0 (fun _ => true) true Try.f5.params.toList args.toList ds p := hA0
  rw [Try.params5] at hA hval
  obtain ⟨v0, vs0, d0, ds0, p0, q0, hargs, rfl, rfl, h0, r0⟩ := trodAll_cons hA
  obtain ⟨v1, vs1, d1, ds1, p1, q1, rfl, rfl, rfl, h1, r1⟩ := trodAll_cons r0
  obtain ⟨v2, vs2, d2, ds2, p2, q2, rfl, rfl, rfl, h2, r2⟩ := trodAll_cons r1
  obtain ⟨v3, vs3, d3, ds3, p3, q3, rfl, rfl, rfl, h3, r3⟩ := trodAll_cons r2
  obtain ⟨rfl, rfl, rfl⟩ := trodAll_nil r3
  obtain rfl : args = #[v0, v1, v2, v3] := by cases args; simp_all
  obtain ⟨rfl, rfl⟩ := trodVars_none hV
  have k0 := h0
  have lt0 : ∀ x ∈ p0, x.block < W.heap.size := by obtain ⟨m, hm⟩ := k0; exact DataW.trod_lt m _ _ _ hm
  obtain ⟨a0, len0, cap0, rs0, rfl, w0, wl0, wm0, wi0⟩ := open_image (hval 0 35 v0 rfl rfl) h0
  have k1 := h1
  have lt1 : ∀ x ∈ p1, x.block < W.heap.size := by obtain ⟨m, hm⟩ := k1; exact DataW.trod_lt m _ _ _ hm
  obtain ⟨a1, rfl, _, _, w1⟩ := open_string Try.underlying9 (hval 1 9 v1 rfl rfl) h1
  have k2 := h2
  have lt2 : ∀ x ∈ p2, x.block < W.heap.size := by obtain ⟨m, hm⟩ := k2; exact DataW.trod_lt m _ _ _ hm
  obtain ⟨a2, cap2, xs2, rfl, w2, wl2, wi2⟩ := open_nums (hval 2 27 v2 rfl rfl) h2
  have k3 := h3
  have lt3 : ∀ x ∈ p3, x.block < W.heap.size := by obtain ⟨m, hm⟩ := k3; exact DataW.trod_lt m _ _ _ hm
  obtain ⟨a3, rfl, _, _, w3⟩ := open_int Try.underlying2 (hval 3 2 v3 rfl rfl) h3
  clear hA0 hval0
  refine (walk a0 len0 cap0 rs0 a1 a2 cap2 xs2 a3 W w0 wl0 wm0 wi0 w1 w2 wl2 wi2 w3).mono fun e W' ⟨he, bel⟩ => ?_
  subst he
  exact ⟨_, rfl, _, _, _, [], _, [], hW', trodAll_mk1 (shut_bool Try.underlying4 _), (trodAll_cons_mk (Below.trod laidOut (by kernel_rfl) (of_decide_eq_true (by kernel_rfl)) k0 bel lt0) (trodAll_cons_mk (Below.trod laidOut (by kernel_rfl) (of_decide_eq_true (by kernel_rfl)) k1 bel lt1) (trodAll_cons_mk (Below.trod laidOut (by kernel_rfl) (of_decide_eq_true (by kernel_rfl)) k2 bel lt2) (trodAll_cons_mk (Below.trod laidOut (by kernel_rfl) (of_decide_eq_true (by kernel_rfl)) k3 bel lt3) trodAll_mk0)))), rfl, bel.frame _, fun h => by cases h⟩

theorem over : Rows.fnExactRunImageRow.holds Try.pinned (OpenSpec.ofChange Rows.fnExactRunImageSpec) :=
  OpenClaim.holds_of_wide 5 Try.f5 rfl rfl rfl rfl rfl rfl rfl ⟨rfl, rfl, rfl, rfl, rfl⟩ rfl rfl rfl rfl rfl (by kernel_rfl) Try.func5 (by kernel_rfl)
    (of_decide_eq_true (by kernel_rfl)) (by unfold Func.isWrapper; first | (rw [if_pos (by decide +kernel)]; kernel_rfl) | (rw [if_neg (by decide +kernel)]; exact ⟨rfl, rfl⟩))
    (fun os started H enc _ => lifted os started H enc)

theorem proved : Rows.FnExactRunImageSaid :=
  over
#print axioms proved
end Go.Proofs.Ythjemelnbbpdcaa.fnExactRunImage
