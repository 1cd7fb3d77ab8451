/-
  FnExactStoreOk returns true at every store and leaves it as it was: impl.StoreOk answers as spec.StoreOk.
-/
import Derived.Test.YtfjpbbacibfnmaaRows
import Derived.Test.YtfjpbbacibfnmaaMath1
import Derived.Test.YtfjpbbacibfnmaaMathT
import Derived.Test.YtfjpbbacibfnmaaOwn
import Derived.Test.YtfjpbbacibfnmaaHash
import Derived.Test.YtfjpbbacibfnmaaHexOf
import Derived.Test.YtfjpbbacibfnmaaTurned
import Derived.Test.YtfjpbbacibfnmaaLists
import Derived.Test.YtfjpbbacibfnmaaMath3
import Derived.Test.YtfjpbbacibfnmaaStoreIn
import Derived.Test.YtfjpbbacibfnmaaStoreS
import Derived.Test.YtfjpbbacibfnmaaStoreS2
import Derived.Test.YtfjpbbacibfnmaaStoreS3
import Derived.Test.YtfjpbbacibfnmaaStoreS4
import Derived.Test.YtfjpbbacibfnmaaStoreS5
import Derived.Test.YtfjpbbacibfnmaaStoreL
import Derived.Test.YtfjpbbacibfnmaaStoreM
import Derived.Test.YtfjpbbacibfnmaaClone
import Derived.Test.YtfjpbbacibfnmaaMath3M
import Derived.Test.YtfjpbbacibfnmaaMapB
import Derived.Test.YtfjpbbacibfnmaaIter
import Derived.Test.YtfjpbbacibfnmaaIterC
import Derived.Test.YtfjpbbacibfnmaaByKey
import Derived.Test.YtfjpbbacibfnmaaByKey2
import Derived.Test.YtfjpbbacibfnmaaStoreJ
import Derived.Test.YtfjpbbacibfnmaaStoreOf
import Derived.Test.YtfjpbbacibfnmaaStoreI
import Derived.WalkKit
import Derived.ProofKit
import Derived.OpenShut
import Derived.ShutString
import Derived.ChangeOld
import Derived.Below
namespace Go.Proofs.Ytfjpbbacibfnmaa.fnExactStoreOk
open Go.ChangeShapes Go.WideShapes Go.ChangeAt Go.RowKit
open Go.ChangeMaps (open_string shut_string)
set_option linter.unusedVariables false

theorem own : ownKnob Try.prog.godebug = none := by kernel_rfl
theorem laidOut : laidOutB Try.prog = true := by kernel_rfl

/-! The walk: the law returns true and writes nothing that was there. -/
set_option maxHeartbeats 1000000 in
set_option maxRecDepth 1000000 in
theorem walk (room0 : Int) (a0 : Option Addr) (len0 cap0 : Nat) (bs0 : List (Int × List UInt8)) (w : World) (w0 : BlobsIn w a0 len0 cap0 bs0) (wr0 : (Lit.int .i64 room0).wf = true) (wl0 : len0 ≤ maxLen) (wm0 : ∀ j, (bs0.getD j (0, [])).2.length ≤ maxLen) :
    Calls Try.prog 5 #[.agg #[.int .i64 room0, .slice a0 len0 cap0]] w fun e w' => e = .returned (.bool true) ∧ Below w.heap.size w w' := by
  have hlb := w0.1
  have hin0 := w0.alloc (.cells #[.int .i64 room0, .slice a0 len0 cap0] 49)
  by_cases hz : (len0 : Int) + (takenL bs0 : Int) ≤ 1048576
  · have HZ : Hid (szL len0 (takenL bs0) 1048576 = 1048576 - (len0 : Int) - (takenL bs0 : Int)) := szL_yes hz
    have hl : takenL bs0 ≤ 1048576 := by omega
    have hlen : len0 ≤ 1048576 := by omega
    have hge : (0 : Int) ≤ 1048576 - (len0 : Int) - (takenL bs0 : Int) := by omega
    have hne : (okB room0 bs0 != okB room0 bs0) = false := by simp
    go_enter Try.func5, Try.ntmps5
    go_wp2_with fail
    refine (szStoreC room0 a0 len0 cap0 bs0 1048576 _ hin0 (by omega) (by omega) wl0 wm0).mono ?_
    rintro e w1 ⟨rfl, hb1⟩
    rw [HZ.out]
    have hs1 := hb1.size
    rw [World.size_alloc] at hs1
    have c01 : w1.cell? ⟨w.heap.size, 0, none⟩ = some (.int .i64 room0) := (hb1.cell (p := ⟨w.heap.size, 0, none⟩) (by simp)).trans (by simp)
    have c11 : w1.cell? ⟨w.heap.size, 1, none⟩ = some (.slice a0 len0 cap0) := (hb1.cell (p := ⟨w.heap.size, 1, none⟩) (by simp)).trans (by simp)
    have hin1 := hin0.below hb1
    have hB1 : Below w.heap.size w w1 := ((Below.refl _ w).alloc (Nat.le_refl _) _).trans (hb1.mono (by simp))
    clear hb1
    go_wp2_with fail
    refine (toStoreC room0 a0 len0 cap0 bs0 _ hin1 hlen).mono ?_
    rintro e w2 ⟨v2, rfl, hown2, hb2⟩
    obtain ⟨_, a2, cap2, rfl, hbi2⟩ := own_blobs hown2
    have hs2 := hb2.size
    have c02 := (hb2.cell (p := ⟨w.heap.size, 0, none⟩) (by show w.heap.size < _; omega)).trans c01
    have c12 := (hb2.cell (p := ⟨w.heap.size, 1, none⟩) (by show w.heap.size < _; omega)).trans c11
    have hin2 := hin1.below hb2
    have hB2 := hB1.trans (hb2.mono (by omega))
    clear hb2 hown2 hin1 hB1
    go_wp2_with fail
    refine (specStoreOk room0 a2 len0 cap2 bs0 _ hbi2 hl hlen).mono ?_
    rintro e w3 ⟨rfl, hb3⟩
    have hs3 := hb3.size
    have c03 := (hb3.cell (p := ⟨w.heap.size, 0, none⟩) (by show w.heap.size < _; omega)).trans c02
    have c13 := (hb3.cell (p := ⟨w.heap.size, 1, none⟩) (by show w.heap.size < _; omega)).trans c12
    have hin3 := hin2.below hb3
    have hB3 := hB2.trans (hb3.mono (by omega))
    clear hb3 hin2 hB2 hbi2
    go_wp2_with fail
    refine (toStoreC room0 a0 len0 cap0 bs0 _ hin3 hlen).mono ?_
    rintro e w4 ⟨v4, rfl, hown4, hb4⟩
    obtain ⟨_, a4, cap4, rfl, hbi4⟩ := own_blobs hown4
    have hs4 := hb4.size
    have c04 := (hb4.cell (p := ⟨w.heap.size, 0, none⟩) (by show w.heap.size < _; omega)).trans c03
    have c14 := (hb4.cell (p := ⟨w.heap.size, 1, none⟩) (by show w.heap.size < _; omega)).trans c13
    have hin4 := (hin3.below hb4).alloc (.cells #[.int .i64 room0, .slice a4 len0 cap4] 26)
    have hbi5 := hbi4.alloc (.cells #[.int .i64 room0, .slice a4 len0 cap4] 26)
    have hB4 := hB3.trans (hb4.mono (by omega))
    clear hb4 hin3 hB3 hbi4 hown4
    go_wp2_with fail
    refine (implStoreOk room0 a4 len0 cap4 bs0 _ hbi5 hl hlen).mono ?_
    rintro e w6 ⟨rfl, hb6⟩
    have hs6 := hb6.size
    rw [World.size_alloc] at hs6
    have c06 : w6.cell? ⟨w.heap.size, 0, none⟩ = some (.int .i64 room0) := (hb6.cell (p := ⟨w.heap.size, 0, none⟩) (by show w.heap.size < _; simp; omega)).trans (cell_al _ c04)
    have c16 : w6.cell? ⟨w.heap.size, 1, none⟩ = some (.slice a0 len0 cap0) := (hb6.cell (p := ⟨w.heap.size, 1, none⟩) (by show w.heap.size < _; simp; omega)).trans (cell_al _ c14)
    have x06 : w6.cell? ⟨w4.heap.size, 0, none⟩ = some (.int .i64 room0) := (hb6.cell (p := ⟨w4.heap.size, 0, none⟩) (by simp)).trans (by simp)
    have x16 : w6.cell? ⟨w4.heap.size, 1, none⟩ = some (.slice a4 len0 cap4) := (hb6.cell (p := ⟨w4.heap.size, 1, none⟩) (by simp)).trans (by simp)
    have HI6 : Hid (BlobsIn w6.drew a0 len0 cap0 bs0) := (show BlobsIn w6 a0 len0 cap0 bs0 from hin4.below hb6)
    have HX6 : Hid (BlobsIn w6.drew a4 len0 cap4 bs0) := (show BlobsIn w6 a4 len0 cap4 bs0 from hbi5.below hb6)
    have hB6 : Below w.heap.size w w6 := (hB4.alloc hB4.size _).trans (hb6.mono (by simp; omega))
    clear hb6 hin4 hbi5 hB4
    go_wp2
    go_region_held3 (fun w' => w'.cell? ⟨w.heap.size, 0, none⟩ = some (.int .i64 room0) ∧ w'.cell? ⟨w.heap.size, 1, none⟩ = some (.slice a0 len0 cap0) ∧ w'.cell? ⟨w4.heap.size, 0, none⟩ = some (.int .i64 room0) ∧ w'.cell? ⟨w4.heap.size, 1, none⟩ = some (.slice a4 len0 cap4)) (go_keep) (first | (go_at_call 33; refine (eqStoreC room0 a4 a7 len0 cap4 cap7 bs0 _ HX7.out hbi7 (by omega)).mono ?_; rintro e w8 ⟨rfl, hb8⟩; have y1 : w8.cell? ⟨w.heap.size, 0, none⟩ = some (.int .i64 room0) := (hb8.cell (p := ⟨w.heap.size, 0, none⟩) (by show w.heap.size < _; omega)).trans z1; have y2 : w8.cell? ⟨w.heap.size, 1, none⟩ = some (.slice a0 len0 cap0) := (hb8.cell (p := ⟨w.heap.size, 1, none⟩) (by show w.heap.size < _; omega)).trans z2; have y3 : w8.cell? ⟨w4.heap.size, 0, none⟩ = some (.int .i64 room0) := (hb8.cell (p := ⟨w4.heap.size, 0, none⟩) (by show w4.heap.size < _; omega)).trans z3; have y4 : w8.cell? ⟨w4.heap.size, 1, none⟩ = some (.slice a4 len0 cap4) := (hb8.cell (p := ⟨w4.heap.size, 1, none⟩) (by show w4.heap.size < _; omega)).trans z4) | (go_at_call 32; refine (toStoreC room0 a0 len0 cap0 bs0 _ HI6.out hlen).mono ?_; rintro e w7 ⟨v7, rfl, hown7, hb7⟩; obtain ⟨_, a7, cap7, rfl, hbi7⟩ := own_blobs hown7; have hs7 : w6.heap.size ≤ w7.heap.size := hb7.size; have HX7 : Hid (BlobsIn w7 a4 len0 cap4 bs0) := HX6.out.below hb7; have z1 : w7.cell? ⟨w.heap.size, 0, none⟩ = some (.int .i64 room0) := (hb7.cell (p := ⟨w.heap.size, 0, none⟩) (by show w.heap.size < w6.heap.size; omega)).trans c06; have z2 : w7.cell? ⟨w.heap.size, 1, none⟩ = some (.slice a0 len0 cap0) := (hb7.cell (p := ⟨w.heap.size, 1, none⟩) (by show w.heap.size < w6.heap.size; omega)).trans c16; have z3 : w7.cell? ⟨w4.heap.size, 0, none⟩ = some (.int .i64 room0) := (hb7.cell (p := ⟨w4.heap.size, 0, none⟩) (by show w4.heap.size < w6.heap.size; omega)).trans x06; have z4 : w7.cell? ⟨w4.heap.size, 1, none⟩ = some (.slice a4 len0 cap4) := (hb7.cell (p := ⟨w4.heap.size, 1, none⟩) (by show w4.heap.size < w6.heap.size; omega)).trans x16))
    all_goals go_wp2
    go_ret
    exact ⟨rfl, (hB6.trans (⟨hb7.os, hb7.tape, hb7.output, hb7.size, fun q hq => hb7.block q (by show q < w6.heap.size; omega)⟩ : Below w.heap.size w6 w7)).trans (hb8.mono (by omega))⟩
  · have HZ : Hid (szL len0 (takenL bs0) 1048576 = -1) := szL_no hz
    go_enter Try.func5, Try.ntmps5
    go_wp2_with fail
    refine (szStoreC room0 a0 len0 cap0 bs0 1048576 _ hin0 (by omega) (by omega) wl0 wm0).mono ?_
    rintro e w1 ⟨rfl, hb1⟩
    rw [HZ.out]
    go_wp2
    go_ret
    exact ⟨rfl, ((Below.refl _ w).alloc (Nat.le_refl _) _).trans (hb1.mono (by simp))⟩

set_option maxRecDepth 100000 in
theorem lifted (os : Os) (started : os.Started) (H : Type) (enc : TypeId × Value → H) :
    ReturnsInHanded {} Try.checked os 5 .any (Rows.fnExactStoreOkSpec.pre6 enc Try.prog Try.f5 Rows.fnExactStoreOkRow.domain false) (Rows.fnExactStoreOkSpec.post enc Try.prog Try.f5 false true false false) := by
  refine returnsInHanded_of_change (C := Try.checked) own started (by kernel_rfl) Try.func5
    (ChangeSpec.witness6 (enc := enc) (C := Try.checked) false ⟨#[], #[.agg #[.int .i64 0, .slice none 0 0]], []⟩ 8 (by kernel_rfl) (by kernel_rfl) (by kernel_rfl) (by kernel_rfl)) ?_
  intro W base args ds gs before hval0 hW hcnd _
  have hval : ∀ (j : Nat) t v, Try.f5.params[j]? = some t → args[j]? = some v → Value.okWide Try.prog W .any base t v := hval0
  have hW' := hW
  obtain ⟨p, q, hA0, hV, rfl, hfz, hnd⟩ := hW
  have hA : DataW.TrodAll enc Try.prog W 0 (fun _ => true) true Try.f5.params.toList args.toList ds p := hA0
  rw [Try.params5] at hA hval
  obtain ⟨v0, vs0, d0, ds0, p0, q0, hargs, rfl, rfl, h0, r0⟩ := trodAll_cons hA
  obtain ⟨rfl, rfl, rfl⟩ := trodAll_nil r0
  obtain rfl : args = #[v0] := by cases args; simp_all
  obtain ⟨rfl, rfl⟩ := trodVars_none hV
  have k0 := h0
  have lt0 : ∀ x ∈ p0, x.block < W.heap.size := by obtain ⟨m, hm⟩ := k0; exact DataW.trod_lt m _ _ _ hm
  obtain ⟨room0, a0, len0, cap0, bs0, rfl, wr0, w0, wl0, wm0⟩ := open_store (hval 0 49 v0 rfl rfl) h0
  clear hA0 hval0
  refine (walk room0 a0 len0 cap0 bs0 W w0 wr0 wl0 wm0).mono fun e W' ⟨he, bel⟩ => ?_
  subst he
  exact ⟨_, rfl, _, _, _, [], _, [], hW', trodAll_mk1 (shut_bool Try.underlying4 _), (trodAll_cons_mk (Below.trod laidOut (by kernel_rfl) (of_decide_eq_true (by kernel_rfl)) k0 bel lt0) trodAll_mk0), rfl, bel.frame _, fun h => by cases h⟩

theorem over : Rows.fnExactStoreOkRow.holds Try.pinned (OpenSpec.ofChange Rows.fnExactStoreOkSpec) :=
  OpenClaim.holds_of_wide 5 Try.f5 rfl rfl rfl rfl rfl rfl rfl ⟨rfl, rfl, rfl, rfl, rfl⟩ rfl rfl rfl rfl rfl (by kernel_rfl) Try.func5 (by kernel_rfl)
    (of_decide_eq_true (by kernel_rfl)) (by unfold Func.isWrapper; first | (rw [if_pos (by decide +kernel)]; kernel_rfl) | (rw [if_neg (by decide +kernel)]; exact ⟨rfl, rfl⟩))
    (fun os started H enc _ => lifted os started H enc)

theorem proved : Rows.FnExactStoreOkSaid :=
  over
#print axioms proved
end Go.Proofs.Ytfjpbbacibfnmaa.fnExactStoreOk
