/-
  FnExactDefined returns true at every list of objects and leaves what it was handed as it was: impl.Defined answers as spec.Defined, in memory of its own.
-/
import Derived.Test.YteolfnceobjonaaGreatRows
import Derived.Test.YteolfnceobjonaaGreatP20
import Derived.Test.YteolfnceobjonaaGreatP23
import Derived.WalkKit
import Derived.ProofKit
import Derived.OpenShut
import Derived.ShutString
import Derived.ChangeOld
import Derived.Below
namespace Go.Proofs.YteolfnceobjonaaGreat.fnExactDefined
open Go.ChangeShapes Go.WideShapes Go.ChangeAt Go.RowKit
open Go.ChangeMaps (open_string shut_string)
set_option linter.unusedVariables false

theorem own : ownKnob Tryz.prog.godebug = none := by kernel_rfl
theorem laidOut : laidOutB Tryz.prog = true := by kernel_rfl

/-! The walk: the law returns true and writes nothing that was there. -/
set_option maxHeartbeats 1000000 in
set_option maxRecDepth 1000000 in
theorem walk (a0 : Option Addr) (len0 cap0 : Nat) (os0 : List Ob) (w : World) (w0 : ObjsIn w a0 len0 os0) (wl0 : len0 ≤ maxLen) (wm0 : LongOs os0) (wi0 : IntOs os0) :
    Calls Tryz.prog 3 #[.slice a0 len0 cap0] w fun e w' => e = .returned (.bool true) ∧ Below w.heap.size w w' := by
  obtain rfl : os0.length = len0 := w0.1
  have HI : Hid (ObjsIn w a0 os0.length os0) := w0
  have HC0 := szObjectSC a0 os0.length cap0 os0 1048576 w w0 (by omega) (by omega) wl0 wm0
  by_cases hz : ((os0.length + osSz os0 : Nat) : Int) ≤ 1048576
  rotate_left
  · rw [szR_no hz] at HC0
    clear w0 wm0 wi0
    go_enter Tryz.func3, Tryz.ntmps3
    go_wp2_with fail
    refine HC0.mono ?_
    rintro e w1 ⟨rfl, hb1⟩
    go_wp2
    go_ret
    exact ⟨rfl, hb1⟩
  rw [szR_yes hz] at HC0
  have hge : (0 : Int) ≤ 1048576 - ((os0.length + osSz os0 : Nat) : Int) := by omega
  have hln : os0.length ≤ 1048576 := by omega
  have HSZ : Hid (os0.length + osSz os0 ≤ 1048576) := by exact (by omega : os0.length + osSz os0 ≤ 1048576)
  have hsh : ShortOs os0 := shortOs_of (by omega)
  have HSH : Hid (ShortOs os0) := hsh
  have HIN : Hid (IntOs os0) := wi0
  have HTo : Hid (_) := fun (V : World) (h : ObjsIn V a0 os0.length os0) => toObjectSC a0 os0.length cap0 os0 V h hln hsh
  generalize 1048576 - ((os0.length + osSz os0 : Nat) : Int) = left at HC0 hge
  clear w0 wm0 wi0 hsh hz wl0
  have hself : ∀ n : Int, (n != n) = false := by simp
  have hselfb : ∀ b : Bool, (b != b) = false := by simp
  have HS : Hid (∀ (V : World) (g : Nat), ObjsOk V (some ⟨g, 0, none⟩) os0.length os0.length os0 → Calls Tryz.prog 8 #[.slice (some ⟨g, 0, none⟩) os0.length os0.length] V fun e w' => ∃ v, e = .returned v ∧ w'.ownsRow V.heap.size 9 1 v (definedV os0).length (strV (definedV os0)) ∧ Below V.heap.size V w') := fun V g h => by
    refine (specDefined (some ⟨g, 0, none⟩) os0.length os0.length os0 V h.in hln HSH.out).mono ?_
    rintro e w' ⟨g', c', rfl, h1, h2⟩
    exact ⟨_, rfl, h1, h2⟩
  have HIm : Hid (∀ (V : World) (g : Nat), ObjsOk V (some ⟨g, 0, none⟩) os0.length os0.length os0 → Calls Tryz.prog 10 #[.slice (some ⟨g, 0, none⟩) os0.length os0.length] V fun e w' => ∃ v, e = .returned v ∧ w'.ownsRow V.heap.size 9 1 v (definedV os0).length (strV (definedV os0)) ∧ Below V.heap.size V w') := fun V g h => by
    refine (implDefined (some ⟨g, 0, none⟩) os0.length os0.length os0 V h).mono ?_
    rintro e w' ⟨g', c', rfl, h1, h2⟩
    exact ⟨_, rfl, h1, h2⟩
  have hRl := definedV_len os0
  obtain ⟨R, hR⟩ : ∃ R, definedV os0 = R := ⟨_, rfl⟩
  rw [hR] at HS HIm hRl
  clear hR
  go_enter Tryz.func3, Tryz.ntmps3
  go_wp2_with fail
  refine HC0.mono ?_
  rintro e w1 ⟨rfl, hb1⟩
  have hB := hb1
  clear HC0
  go_wp2_with fail
  refine Calls.mono (HTo.out _ (HI.out.below hB)) ?_
  rintro e w2 ⟨rfl, ys2, hy2, hp2, hb2⟩
  have hs2 := hB.size
  obtain ⟨G2, hG2⟩ : ∃ G, w1.heap.size = G := ⟨_, rfl⟩
  rw [hG2] at hp2 hs2
  have ok2 : ObjsOk w2 (some ⟨G2, 0, none⟩) os0.length os0.length os0 := hp2.ok hy2 HIN.out HSH.out rfl hln
  replace hB := hB.trans (hb2.mono hB.size)
  clear hp2 hy2 hb2
  go_wp2_with fail
  refine Calls.mono (HS.out _ _ ok2) ?_
  rintro e w3 ⟨v0, rfl, ho0, hb3⟩
  replace hB := hB.trans (hb3.mono hB.size)
  clear ok2 hb3 hs2 hG2 hb1
  go_wp2_with fail
  refine Calls.mono (HTo.out _ (HI.out.below hB)) ?_
  rintro e w4 ⟨rfl, ys4, hy4, hp4, hb4⟩
  have hs4 := hB.size
  obtain ⟨G4, hG4⟩ : ∃ G, w3.heap.size = G := ⟨_, rfl⟩
  rw [hG4] at hp4 hs4
  have ok4 : ObjsOk w4 (some ⟨G4, 0, none⟩) os0.length os0.length os0 := hp4.ok hy4 HIN.out HSH.out rfl hln
  have ho0a := own_below ho0 hb4
  have h0lt : ∀ k, v0.ownBlock = some k → k < G4 := fun k e => by have := (ho0.lt k e).2; omega
  replace hB := hB.trans (hb4.mono hB.size)
  have hGT := hb4.size
  rw [hG4] at hGT
  clear ho0 hb4
  go_wp2_with fail
  refine Calls.mono (HIm.out _ _ ok4) ?_
  rintro e w5 ⟨g0, rfl, hg0, hb5⟩
  have hp5 := hp4.below hb5
  have ok5 := ok4.below hb5
  have ho5 := own_below ho0a hb5
  replace hB := hB.trans (hb5.mono hB.size)
  obtain ⟨T, hT⟩ : ∃ T, w4.heap.size = T := ⟨_, rfl⟩
  rw [hT] at hp5 hg0 hGT
  have HQ1 : Hid (_) := eqStrV w5 T _ g0 v0 R (by omega) hg0 ho5
  clear ok4 hb5 hG4 hp4 ho0a hT
  go_wp2_with fail
  refine Calls.mono HQ1.out ?_
  rintro e w6 ⟨rfl, hgr6⟩
  have hb6 : Below w5.heap.size w5 w6 := ⟨hgr6.os, hgr6.tape, hgr6.output, hgr6.size, fun k hk => hgr6.block k hk (by simp)⟩
  have hp6 := hp5.below hb6
  have ok6 := ok5.below hb6
  have ho6 := own_below ho5 hb6
  have hg6 := own_below hg0 hb6
  replace hB := hB.trans (hb6.mono hB.size)
  clear HQ1 hgr6 hb6 hp5 ok5 ho5 hg0
  go_wp2_with fail
  refine Calls.mono (HTo.out _ (HI.out.below hB)) ?_
  rintro e w7 ⟨rfl, ys7, hy7, hp7, hb7⟩
  have hs7 := hB.size
  obtain ⟨G7, hG7⟩ : ∃ G, w6.heap.size = G := ⟨_, rfl⟩
  rw [hG7] at hp7 hs7
  have ok7 : ObjsOk w7 (some ⟨G7, 0, none⟩) os0.length os0.length os0 := hp7.ok hy7 HIN.out HSH.out rfl hln
  have hp7a := hp6.below hb7
  have ok7a := ok6.below hb7
  have ho7 := own_below ho6 hb7
  have hg7 := own_below hg6 hb7
  replace hB := hB.trans (hb7.mono hB.size)
  have HE : Hid (_) := eqObjectSC (some ⟨G4, 0, none⟩) (some ⟨G7, 0, none⟩) os0.length os0.length os0.length os0 w7 ok7a.in ok7.in (by omega) HSH.out
  clear hp7 hy7 hb7 ok7 ok7a hp6 ok6 ho6 hg6
  go_wp2_with fail
  refine Calls.mono HE.out ?_
  rintro e w8 ⟨rfl, hb8⟩
  have hp8 := hp7a.below hb8
  have ho8 := own_below ho7 hb8
  have hg8 := own_below hg7 hb8
  replace hB := hB.trans (hb8.mono hB.size)
  have hyl : ys4.length = os0.length := by rw [← hy4, List.length_map]
  obtain ⟨hsm1, hsm2⟩ := oj_small hy4 HSZ.out
  have hp8' := hp8
  rw [← hyl] at hp8'
  have HM := markObjectSC w8 G4 T G4 ys4.length 1 ys4 hp8' (by omega) hsm1 (by omega) hsm2
  rw [hyl] at HM
  obtain ⟨M, hM⟩ : ∃ M, oend 1 ys4 = M := ⟨_, rfl⟩
  rw [hM] at HM
  have HMk : Hid (_) := HM
  clear HE hb8 hp7a ho7 hg7 hp8' hsm1 hsm2 HM hM
  go_wp2_with fail
  refine Calls.mono HMk.out ?_
  rintro e w9 ⟨rfl, hw9⟩
  have ho9 := own_wroteR ho8 hw9 (fun k e h => by have := h0lt k e; omega)
  have hg9 := own_wroteR hg8 hw9 (fun k e h => by have := (hg8.lt k e).1; omega)
  have hB9 : Below w.heap.size w w9 := hB.trans (hw9.below hB.size (fun k h => by omega))
  have HQ2 : Hid (_) := eqStrV w9 T _ g0 v0 R (by omega) hg9 ho9
  have hM0 : ¬ ((M : Int) < 0) := by omega
  clear HMk hp8 ho8 hg8 hB hw9
  go_wp2_with fail
  refine Calls.mono HQ2.out ?_
  rintro e w10 ⟨rfl, hgr⟩
  have hb10 : Below w9.heap.size w9 w10 := ⟨hgr.os, hgr.tape, hgr.output, hgr.size, fun k hk => hgr.block k hk (by simp)⟩
  have ho10 := own_below ho9 hb10
  have hg10 := own_below hg9 hb10
  have hB := hB9.trans (hb10.mono hB9.size)
  have HMS : Hid (_) := markStrV w10 T R.length 1 g0 _ (by omega) (by omega) (by omega) hg10
  clear HQ2 hgr hb10 ho9 hg9 hB9
  go_wp2_with fail
  refine Calls.mono HMS.out ?_
  rintro e w11 ⟨rfl, hg11, hgr11⟩
  have hT0 : w.heap.size ≤ T := by omega
  have ho11 := ho10.kept hgr11 (by
    rcases hv : v0.ownBlock with _ | k
    · exact Or.inl rfl
    · refine Or.inr (fun e => ?_)
      have h1 := h0lt k hv
      have h2 := (hg10.lt k e.symm).1
      omega)
  have hB11 : Below w.heap.size w w11 := hB.grown hgr11 hB.size (fun k e => by have := (hg10.lt k e).1; omega)
  have HH1 : Hid (_) := heldStrV w11 T R.length 1 g0 (by omega) (by omega) (by omega) hg11
  clear HMS hgr11 ho10 hg10 hB
  go_wp2_with fail
  refine Calls.mono HH1.out ?_
  rintro e w12 ⟨rfl, hgr⟩
  have hb12 : Below w11.heap.size w11 w12 := ⟨hgr.os, hgr.tape, hgr.output, hgr.size, fun k hk => hgr.block k hk (by simp)⟩
  have ho12 := own_below ho11 hb12
  have hg12 := own_below hg11 hb12
  have hB := hB11.trans (hb12.mono hB11.size)
  clear HH1 hgr hb12 ho11 hg11 hB11
  go_wp2_with fail
  refine Calls.mono (HTo.out _ (HI.out.below hB)) ?_
  rintro e w13 ⟨rfl, ys13, hy13, hp13, hb13⟩
  have hs13 := hB.size
  obtain ⟨G13, hG13⟩ : ∃ G, w12.heap.size = G := ⟨_, rfl⟩
  rw [hG13] at hp13 hs13
  have ok13 : ObjsOk w13 (some ⟨G13, 0, none⟩) os0.length os0.length os0 := hp13.ok hy13 HIN.out HSH.out rfl hln
  have ho13 := own_below ho12 hb13
  have hg13 := own_below hg12 hb13
  replace hB := hB.trans (hb13.mono hB.size)
  clear hp13 hy13 hb13 ho12 hg12
  go_wp2_with fail
  refine Calls.mono (HIm.out _ _ ok13) ?_
  rintro e w14 ⟨h0, rfl, hh0, hb14⟩
  have ho14 := own_below ho13 hb14
  have hg14 := own_below hg13 hb14
  replace hB := hB.trans (hb14.mono hB.size)
  have HQ3 : Hid (_) := eqStrV w14 _ _ h0 v0 R (by omega) hh0 ho14
  clear ok13 hb14 ho13 hg13
  go_wp2_with fail
  refine Calls.mono HQ3.out ?_
  rintro e w15 ⟨rfl, hgr⟩
  have hb15 : Below w14.heap.size w14 w15 := ⟨hgr.os, hgr.tape, hgr.output, hgr.size, fun k hk => hgr.block k hk (by simp)⟩
  have hg15 := own_below hg14 hb15
  replace hB := hB.trans (hb15.mono hB.size)
  have HH2 : Hid (_) := heldStrV w15 T R.length 1 g0 (by omega) (by omega) (by omega) hg15
  clear HQ3 hgr hb15 ho14 hg14 hh0
  go_wp2_with fail
  refine Calls.mono HH2.out ?_
  rintro e w16 ⟨rfl, hgr⟩
  have hb16 : Below w15.heap.size w15 w16 := ⟨hgr.os, hgr.tape, hgr.output, hgr.size, fun k hk => hgr.block k hk (by simp)⟩
  replace hB := hB.trans (hb16.mono hB.size)
  clear HH2 hgr hb16 hg15
  go_wp2
  go_ret
  exact ⟨rfl, hB⟩

set_option maxRecDepth 100000 in
theorem lifted (os : Os) (started : os.Started) (H : Type) (enc : TypeId × Value → H) :
    ReturnsInHanded {} Tryz.checked os 3 .any (Rows.fnExactDefinedSpec.pre6 enc Tryz.prog Tryz.f3 Rows.fnExactDefinedRow.domain false) (Rows.fnExactDefinedSpec.post enc Tryz.prog Tryz.f3 false true false false) := by
  refine returnsInHanded_of_change (C := Tryz.checked) own started (by kernel_rfl) Tryz.func3
    (ChangeSpec.witness6 (enc := enc) (C := Tryz.checked) false ⟨#[], #[.slice none 0 0], []⟩ 8 (by kernel_rfl) (by kernel_rfl) (by kernel_rfl) (by kernel_rfl)) ?_
  intro W base args ds gs before hval0 hW hcnd _
  have hval : ∀ (j : Nat) t v, Tryz.f3.params[j]? = some t → args[j]? = some v → Value.okWide Tryz.prog W .any base t v := hval0
  have hW' := hW
  obtain ⟨p, q, hA0, hV, rfl, hfz, hnd⟩ := hW
  have hA : DataW.TrodAll enc Tryz.prog W 0 (fun _ => true) true Tryz.f3.params.toList args.toList ds p := hA0
  rw [Tryz.params3] at hA hval
  obtain ⟨v0, vs0, d0, ds0, p0, q0, hargs, rfl, rfl, h0, r0⟩ := trodAll_cons hA
  obtain ⟨rfl, rfl, rfl⟩ := trodAll_nil r0
  obtain rfl : args = #[v0] := by cases args; simp_all
  obtain ⟨rfl, rfl⟩ := trodVars_none hV
  have k0 := h0
  have lt0 : ∀ x ∈ p0, x.block < W.heap.size := by obtain ⟨m, hm⟩ := k0; exact DataW.trod_lt m _ _ _ hm
  obtain ⟨a0, len0, cap0, os0, rfl, w0, wl0, wm0, wi0⟩ := open_objects (hval 0 22 v0 rfl rfl) h0
  clear hA0 hval0
  refine (walk a0 len0 cap0 os0 W w0 wl0 wm0 wi0).mono fun e W' ⟨he, bel⟩ => ?_
  subst he
  exact ⟨_, rfl, _, _, _, [], _, [], hW', trodAll_mk1 (shut_bool Tryz.underlying4 _), (trodAll_cons_mk (Below.trod laidOut (by kernel_rfl) (of_decide_eq_true (by kernel_rfl)) k0 bel lt0) trodAll_mk0), rfl, bel.frame _, fun h => by cases h⟩

theorem over : Rows.fnExactDefinedRow.holds Tryz.pinned (OpenSpec.ofChange Rows.fnExactDefinedSpec) :=
  OpenClaim.holds_of_wide 3 Tryz.f3 rfl rfl rfl rfl rfl rfl rfl ⟨rfl, rfl, rfl, rfl, rfl⟩ rfl rfl rfl rfl rfl (by kernel_rfl) Tryz.func3 (by kernel_rfl)
    (of_decide_eq_true (by kernel_rfl)) (by unfold Func.isWrapper; first | (rw [if_pos (by decide +kernel)]; kernel_rfl) | (rw [if_neg (by decide +kernel)]; exact ⟨rfl, rfl⟩))
    (fun os started H enc _ => lifted os started H enc)

theorem proved : Rows.FnExactDefinedSaid :=
  over
#print axioms proved
end Go.Proofs.YteolfnceobjonaaGreat.fnExactDefined
