/-
  FnExactShowTree returns true at every list of nodes and leaves it as it was: impl.ShowTree answers as spec.ShowTree.
-/
import Derived.Test.YtjkfjenhocaljaaDoorRows
import Derived.Test.YtjkfjenhocaljaaDoorCards
import Derived.Test.YtjkfjenhocaljaaDoorTie
import Derived.Test.YtjkfjenhocaljaaDoorMath1
import Derived.Test.YtjkfjenhocaljaaDoorMathT
import Derived.Test.YtjkfjenhocaljaaDoorOwn
import Derived.Test.YtjkfjenhocaljaaDoorHexOf
import Derived.Test.YtjkfjenhocaljaaDoorTurned
import Derived.Test.YtjkfjenhocaljaaDoorMath3C
import Derived.Test.YtjkfjenhocaljaaDoorDraw
import Derived.Test.YtjkfjenhocaljaaDoorDraw2
import Derived.Test.YtjkfjenhocaljaaDoorChunkS
import Derived.Test.YtjkfjenhocaljaaDoorMath4
import Derived.Test.YtjkfjenhocaljaaDoorWordS
import Derived.Test.YtjkfjenhocaljaaDoorMath5
import Derived.Test.YtjkfjenhocaljaaDoorMath5N
import Derived.Test.YtjkfjenhocaljaaDoorTextS
import Derived.Test.YtjkfjenhocaljaaDoorTextS2
import Derived.Test.YtjkfjenhocaljaaDoorTextS3
import Derived.Test.YtjkfjenhocaljaaDoorTextS4
import Derived.Test.YtjkfjenhocaljaaDoorTextS5
import Derived.Test.YtjkfjenhocaljaaDoorMath5J
import Derived.Test.YtjkfjenhocaljaaDoorMath6
import Derived.Test.YtjkfjenhocaljaaDoorMath6R
import Derived.Test.YtjkfjenhocaljaaDoorMath6P
import Derived.Test.YtjkfjenhocaljaaDoorTreeS
import Derived.Test.YtjkfjenhocaljaaDoorTreeS2
import Derived.Test.YtjkfjenhocaljaaDoorTreeS3
import Derived.Test.YtjkfjenhocaljaaDoorTreeS4
import Derived.Test.YtjkfjenhocaljaaDoorTreeS5
import Derived.Test.YtjkfjenhocaljaaDoorTreeS6
import Derived.Test.YtjkfjenhocaljaaDoorTreeX
import Derived.Test.YtjkfjenhocaljaaDoorIntsL
import Derived.Test.YtjkfjenhocaljaaDoorNodeL
import Derived.Test.YtjkfjenhocaljaaDoorMarks
import Derived.Test.YtjkfjenhocaljaaDoorNodeM
import Derived.Test.YtjkfjenhocaljaaDoorNodeIn
import Derived.Test.YtjkfjenhocaljaaDoorMath6I
import Derived.Test.YtjkfjenhocaljaaDoorWordI
import Derived.Test.YtjkfjenhocaljaaDoorJumps
import Derived.Test.YtjkfjenhocaljaaDoorClone
import Derived.Test.YtjkfjenhocaljaaDoorTextI
import Derived.Test.YtjkfjenhocaljaaDoorTreeI
import Derived.Test.YtjkfjenhocaljaaDoorTreeI2
import Derived.Test.YtjkfjenhocaljaaDoorTreeI3
import Derived.Test.YtjkfjenhocaljaaDoorShelf
import Derived.Test.YtjkfjenhocaljaaDoorTreeJ
import Derived.Test.YtjkfjenhocaljaaDoorTreeJ2
import Derived.Test.YtjkfjenhocaljaaDoorTreeJ3
import Derived.Test.YtjkfjenhocaljaaDoorTreeJ4
import Derived.WalkKit
import Derived.ProofKit
import Derived.OpenShut
import Derived.ShutString
import Derived.ChangeOld
import Derived.Below
import Derived.LaidLaws
import Derived.LaidHandle
import Derived.Lay
import Derived.MakeChecks
import Derived.Lib.LaidTab
import Derived.Stop.Joined
import Derived.SevenTiedAt
namespace Go.Proofs.YtjkfjenhocaljaaDoor.fnExactShowTree
open Go.ChangeShapes Go.WideShapes Go.ChangeAt Go.RowKit
open Go.ChangeMaps (open_string shut_string)
set_option linter.unusedVariables false

theorem own : ownKnob Tryd.prog.godebug = none := by kernel_rfl
theorem laidOut : laidOutB Tryd.prog = true := by kernel_rfl

/-! The walk: the law returns true and writes nothing that was there. -/
set_option maxHeartbeats 8000000 in
set_option maxRecDepth 1000000 in
theorem walk (a0 : Option Addr) (len0 cap0 : Nat) (ns0 : List Nd) (w : World) (w0 : NodesIn w a0 len0 ns0) (wl0 : len0 ≤ maxLen) (wm0 : LongT ns0) (wi0 : IntT ns0) (hT : PowIs w) :
    Calls Tryd.prog 4 #[.slice a0 len0 cap0] w fun e w' => e = .returned (.bool true) ∧ Below w.heap.size w w' := by
  have hlb := w0.1
  by_cases hz : (len0 : Int) + (textsN ns0 : Int) ≤ 1048576
  · have HZ : Hid (szN len0 (textsN ns0) 1048576 = 1048576 - (len0 : Int) - (textsN ns0 : Int)) := szN_yes hz
    have hlen : len0 ≤ 1048576 := by omega
    have hge : (0 : Int) ≤ 1048576 - (len0 : Int) - (textsN ns0 : Int) := by omega
    have hsh : Hid (ShortT ns0) := short_of (by omega)
    have hint : Hid (IntT ns0) := wi0
    have HS : Hid (_) := fun (A : Option Addr) (c : Nat) (W : World) (h : NodesIn W A len0 ns0) => specShowTree A len0 c ns0 W h hsh.out hlen
    have HI : Hid (_) := fun (A : Option Addr) (c : Nat) (W : World) (h : NodesIn W A len0 ns0) (t : PowIs W) => implShowTree A len0 c ns0 W h hint.out hsh.out hlen t
    obtain ⟨z, hz2⟩ : ∃ z, showT ns0 = z := ⟨_, rfl⟩
    rw [hz2] at HS HI
    have hne : (z != z) = false := by simp
    clear hz2
    go_enter Tryd.func4, Tryd.ntmps4
    go_wp2_with fail
    refine (szNodeSC a0 len0 cap0 ns0 1048576 _ w0 (by omega) (by omega) wl0 wm0).mono ?_
    rintro e w2 ⟨rfl, hb2⟩
    rw [HZ.out]
    have hi2 := w0.below hb2
    go_wp2_with fail
    refine (toNodeSC a0 len0 cap0 ns0 _ hi2 hlen).mono ?_
    rintro e w3 ⟨v3, rfl, hown3, _, hb3⟩
    obtain ⟨_, a3, cap3, rfl, hin3⟩ := own_nodes hown3
    have hi3 := hi2.below hb3
    have hB3 := hb2.trans (hb3.mono hb2.size)
    clear hown3 hi2 hb3 hb2
    go_wp2_with fail
    refine Calls.mono (HS.out a3 cap3 _ hin3) ?_
    rintro e w4 ⟨rfl, hb4⟩
    have hi4 := hi3.below hb4
    have hB4 := hB3.trans (hb4.mono hB3.size)
    clear hin3 hi3 hb4 hB3
    go_wp2_with fail
    refine (toNodeSC a0 len0 cap0 ns0 _ hi4 hlen).mono ?_
    rintro e w5 ⟨v5, rfl, hown5, _, hb5⟩
    obtain ⟨_, a5, cap5, rfl, hin5⟩ := own_nodes hown5
    have hi5 := hi4.below hb5
    have hB5 := hB4.trans (hb5.mono hB4.size)
    clear hown5 hi4 hb5 hB4
    go_wp2_with fail
    refine Calls.mono (HI.out a5 cap5 _ hin5 (hT.below hB5)) ?_
    rintro e w6 ⟨rfl, hb6⟩
    have hi6 := hi5.below hb6
    have hin6 := hin5.below hb6
    have hB6 := hB5.trans (hb6.mono hB5.size)
    clear hin5 hi5 hb6 hB5
    go_wp2_with fail
    refine (toNodeSC a0 len0 cap0 ns0 _ hi6 hlen).mono ?_
    rintro e w7 ⟨v7, rfl, hown7, _, hb7⟩
    obtain ⟨_, a7, cap7, rfl, hin7⟩ := own_nodes hown7
    have hin6b := hin6.below hb7
    have hB7 := hB6.trans (hb7.mono hB6.size)
    clear hown7 hi6 hb7 hB6 hin6
    go_wp2_with fail
    refine (eqNodeSC a5 a7 len0 cap5 cap7 ns0 _ hin6b hin7 (by omega)).mono ?_
    rintro e w8 ⟨rfl, hb8⟩
    have hB8 := hB7.trans (hb8.mono hB7.size)
    go_wp2
    go_ret
    exact ⟨rfl, hB8⟩
  · have HZ : Hid (szN len0 (textsN ns0) 1048576 = -1) := szN_no hz
    go_enter Tryd.func4, Tryd.ntmps4
    go_wp2_with fail
    refine (szNodeSC a0 len0 cap0 ns0 1048576 _ w0 (by omega) (by omega) wl0 wm0).mono ?_
    rintro e w2 ⟨rfl, hb2⟩
    rw [HZ.out]
    go_wp2
    go_ret
    exact ⟨rfl, hb2⟩

/-- What the listed variables give the walk: the table of powers of ten. -/
theorem pow_of_laid {W : World} (h : laidMetH Tryd.prog Rows.fnExactShowTreeRow.laid W) : PowIs W := by
  rw [MakeChecks.laidMetH_plain _ _ _ (by kernel_rfl)] at h
  obtain ⟨ps, ⟨g0, t0, cs0, f0, p0, q0, hg0, ht0, hv0, hd0, ⟨g1, t1, cs1, f1, p1, q1, hg1, ht1, hv1, hd1, ⟨g2, t2, cs2, f2, p2, q2, hg2, ht2, hv2, hd2, _, _⟩, _⟩, _⟩, _, _⟩ := h
  obtain ⟨g, hg⟩ := Option.isSome_iff_exists.1 powAt
  obtain rfl := Option.some.inj (hg.symm.trans hg2)
  exact pow_of_cells hg ht2 hv2 hd2

set_option maxRecDepth 100000 in
theorem lifted (os : Os) (started : os.Started) (H : Type) (enc : TypeId × Value → H) :
    ReturnsInHanded {} Tryd.checked os 4 .any (fun w args => (Rows.fnExactShowTreeSpec.pre enc Tryd.prog Tryd.f4 [] false w args ∧ laidMetH Tryd.prog Rows.fnExactShowTreeRow.laid w) ∧ sizedMet enc Tryd.prog Tryd.f4 (OpenSpec.ofChange Rows.fnExactShowTreeSpec) false w args)
      (Rows.fnExactShowTreeSpec.post enc Tryd.prog Tryd.f4 false true false false) := by
  refine returnsInHanded_of_change_and (C := Tryd.checked) (X := fun w _ => laidMetH Tryd.prog Rows.fnExactShowTreeRow.laid w) (fun _ _ _ hh h => h.of_heap hh) own started (by kernel_rfl) Tryd.func4
    (ChangeSpec.witness_shaped (enc := enc) (C := Tryd.checked) (os := os) (X := fun w _ => laidMetH Tryd.prog Rows.fnExactShowTreeRow.laid w) false (World.laidAll Tryd.prog os Rows.fnExactShowTreeRow.laid) #[.slice none 0 0] 8 (World.laidAll_os _ _ _)
      (World.shaped_of_ZipB (by kernel_rfl) (by kernel_rfl)) (by kernel_rfl) (by kernel_rfl) (by kernel_rfl)
      (by rw [MakeChecks.laidMetH_plain _ _ _ (by kernel_rfl)]; exact laidMet_laidAll _ (by kernel_rfl) (by kernel_rfl))) ?_
  intro W base args ds gs before hval0 hW _ _ hL _
  have hval : ∀ (j : Nat) t v, Tryd.f4.params[j]? = some t → args[j]? = some v → Value.okWide Tryd.prog W .any base t v := hval0
  have hW' := hW
  obtain ⟨p, q, hA0, hV, rfl, hfz, hnd⟩ := hW
  have hA : DataW.TrodAll enc Tryd.prog W 0 (fun _ => true) true Tryd.f4.params.toList args.toList ds p := hA0
  rw [Tryd.params4] at hA hval
  obtain ⟨v0, vs0, d0, ds0, p0, q0, hargs, rfl, rfl, h0, r0⟩ := trodAll_cons hA
  obtain ⟨rfl, rfl, rfl⟩ := trodAll_nil r0
  obtain rfl : args = #[v0] := by cases args; simp_all
  obtain ⟨rfl, rfl⟩ := trodVars_none hV
  have k0 := h0
  have lt0 : ∀ x ∈ p0, x.block < W.heap.size := by obtain ⟨m, hm⟩ := k0; exact DataW.trod_lt m _ _ _ hm
  obtain ⟨a0, len0, cap0, ns0, rfl, w0, wl0, wm0, wi0⟩ := open_nodes (hval 0 37 v0 rfl rfl) h0
  clear hA0 hval0
  refine (walk a0 len0 cap0 ns0 W w0 wl0 wm0 wi0 (pow_of_laid hL)).mono fun e W' ⟨he, bel⟩ => ?_
  subst he
  exact ⟨_, rfl, _, _, _, [], _, [], hW', trodAll_mk1 (shut_bool Tryd.underlying4 _), (trodAll_cons_mk (Below.trod laidOut (by kernel_rfl) (of_decide_eq_true (by kernel_rfl)) k0 bel lt0) trodAll_mk0), rfl, bel.frame _, fun h => by cases h⟩

theorem over : Rows.fnExactShowTreeRow.holds Tryd.pinned (OpenSpec.ofChange Rows.fnExactShowTreeSpec) :=
  OpenClaim.holds_of_wide 4 Tryd.f4 rfl rfl rfl rfl rfl rfl rfl ⟨rfl, rfl, rfl, rfl, rfl⟩ rfl rfl rfl rfl rfl (by kernel_rfl) Tryd.func4 (by kernel_rfl)
    (of_decide_eq_true (by kernel_rfl)) (by unfold Func.isWrapper; first | (rw [if_pos (by decide +kernel)]; kernel_rfl) | (rw [if_neg (by decide +kernel)]; exact ⟨rfl, rfl⟩))
    (fun os started H enc _ => lifted os started H enc)

/-- The tied card. -/
theorem proved : Rows.FnExactShowTreeCardSaid :=
  Claim7.holds_tied_plain_at .later [] [.data, .data, .data] true (true, "1c3695a123215751a512774ad25301578bd74a47b3ebc123bf9a14b69cefd241") true
    over (fun _ h => by cases h) (by kernel_rfl) (fun _ h => by cases h) fnExactShowTree_row_tie rfl ⟨rfl, rfl⟩ (by kernel_rfl) rfl
    (fun f fn hf hfn => by
      obtain rfl : f = 4 := Option.some.inj ((show Tryd.prog.funcNamed Rows.fnExactShowTreeRow.func = some 4 by kernel_rfl).symm.trans hf) |>.symm
      obtain rfl : fn = Tryd.f4 := (Option.some.inj (Tryd.func4.symm.trans hfn)).symm
      exact ⟨by kernel_rfl, fun j t ht => by
        rw [Tryd.params4] at ht
        have hm : t ∈ [37] := by simpa using Array.mem_of_getElem? ht
        have hall : ([37].all fun u => !Tryd.prog.wantsStandIn u) = true := by kernel_rfl
        exact (show Tryd.prog.wantsStandIn t = false by simpa using List.all_eq_true.1 hall t hm)⟩)
    (by kernel_rfl)
#print axioms proved
end Go.Proofs.YtjkfjenhocaljaaDoor.fnExactShowTree
