/-
  FnExactNodeOk returns true at every node and leaves it as it was: impl.NodeOk answers as spec.NodeOk.
-/
import Derived.Test.YtjkfjenhocaljaaRows
import Derived.Test.YtjkfjenhocaljaaMath1
import Derived.Test.YtjkfjenhocaljaaMathT
import Derived.Test.YtjkfjenhocaljaaOwn
import Derived.Test.YtjkfjenhocaljaaHexOf
import Derived.Test.YtjkfjenhocaljaaTurned
import Derived.Test.YtjkfjenhocaljaaMath3C
import Derived.Test.YtjkfjenhocaljaaDraw
import Derived.Test.YtjkfjenhocaljaaDraw2
import Derived.Test.YtjkfjenhocaljaaChunkS
import Derived.Test.YtjkfjenhocaljaaMath4
import Derived.Test.YtjkfjenhocaljaaWordS
import Derived.Test.YtjkfjenhocaljaaMath5
import Derived.Test.YtjkfjenhocaljaaMath5N
import Derived.Test.YtjkfjenhocaljaaTextS
import Derived.Test.YtjkfjenhocaljaaTextS2
import Derived.Test.YtjkfjenhocaljaaTextS3
import Derived.Test.YtjkfjenhocaljaaTextS4
import Derived.Test.YtjkfjenhocaljaaTextS5
import Derived.Test.YtjkfjenhocaljaaMath5J
import Derived.Test.YtjkfjenhocaljaaMath6
import Derived.Test.YtjkfjenhocaljaaMath6R
import Derived.Test.YtjkfjenhocaljaaMath6P
import Derived.Test.YtjkfjenhocaljaaTreeS
import Derived.Test.YtjkfjenhocaljaaTreeS2
import Derived.Test.YtjkfjenhocaljaaTreeS3
import Derived.Test.YtjkfjenhocaljaaTreeS4
import Derived.Test.YtjkfjenhocaljaaTreeS5
import Derived.Test.YtjkfjenhocaljaaTreeS6
import Derived.Test.YtjkfjenhocaljaaTreeX
import Derived.Test.YtjkfjenhocaljaaIntsL
import Derived.Test.YtjkfjenhocaljaaNodeL
import Derived.Test.YtjkfjenhocaljaaMarks
import Derived.Test.YtjkfjenhocaljaaNodeM
import Derived.Test.YtjkfjenhocaljaaNodeIn
import Derived.Test.YtjkfjenhocaljaaMath6I
import Derived.Test.YtjkfjenhocaljaaWordI
import Derived.Test.YtjkfjenhocaljaaJumps
import Derived.Test.YtjkfjenhocaljaaClone
import Derived.Test.YtjkfjenhocaljaaTextI
import Derived.Test.YtjkfjenhocaljaaTreeI
import Derived.Test.YtjkfjenhocaljaaTreeI2
import Derived.Test.YtjkfjenhocaljaaTreeI3
import Derived.WalkKit
import Derived.ProofKit
import Derived.OpenShut
import Derived.ShutString
import Derived.ChangeOld
import Derived.Below
namespace Go.Proofs.Ytjkfjenhocaljaa.fnExactNodeOk
open Go.ChangeShapes Go.WideShapes Go.ChangeAt Go.RowKit
open Go.ChangeMaps (open_string shut_string)
set_option linter.unusedVariables false

theorem own : ownKnob Try.prog.godebug = none := by kernel_rfl
theorem laidOut : laidOutB Try.prog = true := by kernel_rfl

/-! The walk: the law returns true and writes nothing that was there. -/
set_option maxHeartbeats 1000000 in
set_option maxRecDepth 1000000 in
theorem walk (n0 : Nd) (w : World) (w0 : IntN n0) (wp0 : n0.2.2.1.length ≤ maxLen) (wf0 : n0.2.2.2.length ≤ maxLen) :
    Calls Try.prog 4 #[nodeVal n0] w fun e w' => e = .returned (.bool true) ∧ Below w.heap.size w w' := by
  obtain ⟨kd, aa, p, f⟩ := n0
  simp only at wp0 wf0
  unfold nodeVal
  simp only
  by_cases hz : (p.length : Int) + (f.length : Int) ≤ 1048576
  · have HZ : Hid (szN p.length f.length 1048576 = 1048576 - (p.length : Int) - (f.length : Int)) := szN_yes hz
    have hge : (0 : Int) ≤ 1048576 - (p.length : Int) - (f.length : Int) := by omega
    have HS : Hid (_) := fun W : World => specNodeOk (kd, aa, p, f) W (by show p.length ≤ _; omega) (by show f.length ≤ _; omega)
    have HI : Hid (_) := fun W : World => implNodeOk (kd, aa, p, f) W w0 (by show p.length ≤ _; omega) (by show f.length ≤ _; omega)
    unfold nodeVal at HS HI
    simp only at HS HI
    obtain ⟨z, hz2⟩ : ∃ z, nodeB (kd, aa, p, f) = z := ⟨_, rfl⟩
    rw [hz2] at HS HI
    have hne : (z != z) = false := by simp
    clear hz2
    go_enter Try.func4, Try.ntmps4
    go_wp2_with fail
    refine (szNodeC kd aa 1048576 p f _ (by omega) (by omega) wp0 wf0).mono ?_
    rintro e w1 ⟨rfl, hb1⟩
    rw [HZ.out]
    have hs1 := hb1.size
    rw [World.size_alloc] at hs1
    have c01 : w1.cell? ⟨w.heap.size, 0, none⟩ = some (.int .i64 kd) := (hb1.cell (p := ⟨w.heap.size, 0, none⟩) (by simp)).trans (by simp)
    have c11 : w1.cell? ⟨w.heap.size, 1, none⟩ = some (.int .i64 aa) := (hb1.cell (p := ⟨w.heap.size, 1, none⟩) (by simp)).trans (by simp)
    have c21 : w1.cell? ⟨w.heap.size, 2, none⟩ = some (.string ⟨p.toArray⟩) := (hb1.cell (p := ⟨w.heap.size, 2, none⟩) (by simp)).trans (by simp)
    have c31 : w1.cell? ⟨w.heap.size, 3, none⟩ = some (.string ⟨f.toArray⟩) := (hb1.cell (p := ⟨w.heap.size, 3, none⟩) (by simp)).trans (by simp)
    have hB1 : Below w.heap.size w w1 := ((Below.refl _ w).alloc (Nat.le_refl _) _).trans (hb1.mono (by simp))
    clear hb1
    go_wp2_with fail
    refine Calls.mono (toNodeC kd aa p f _) ?_
    rintro e w2 ⟨rfl, hb2⟩
    have hs2 := hb2.size
    have c02 := (hb2.cell (p := ⟨w.heap.size, 0, none⟩) (by show w.heap.size < _; omega)).trans c01
    have c12 := (hb2.cell (p := ⟨w.heap.size, 1, none⟩) (by show w.heap.size < _; omega)).trans c11
    have c22 := (hb2.cell (p := ⟨w.heap.size, 2, none⟩) (by show w.heap.size < _; omega)).trans c21
    have c32 := (hb2.cell (p := ⟨w.heap.size, 3, none⟩) (by show w.heap.size < _; omega)).trans c31
    have hB2 := hB1.trans (hb2.mono (by omega))
    clear hb2 hB1 c01 c11 c21 c31
    go_wp2_with fail
    refine Calls.mono (HS.out _) ?_
    rintro e w3 ⟨rfl, hb3⟩
    have hs3 := hb3.size
    have c03 := (hb3.cell (p := ⟨w.heap.size, 0, none⟩) (by show w.heap.size < _; omega)).trans c02
    have c13 := (hb3.cell (p := ⟨w.heap.size, 1, none⟩) (by show w.heap.size < _; omega)).trans c12
    have c23 := (hb3.cell (p := ⟨w.heap.size, 2, none⟩) (by show w.heap.size < _; omega)).trans c22
    have c33 := (hb3.cell (p := ⟨w.heap.size, 3, none⟩) (by show w.heap.size < _; omega)).trans c32
    have hB3 := hB2.trans (hb3.mono (by omega))
    clear hb3 hB2 c02 c12 c22 c32
    go_wp2_with fail
    refine Calls.mono (toNodeC kd aa p f _) ?_
    rintro e w4 ⟨rfl, hb4⟩
    have hs4 := hb4.size
    have c04 := (hb4.cell (p := ⟨w.heap.size, 0, none⟩) (by show w.heap.size < _; omega)).trans c03
    have c14 := (hb4.cell (p := ⟨w.heap.size, 1, none⟩) (by show w.heap.size < _; omega)).trans c13
    have c24 := (hb4.cell (p := ⟨w.heap.size, 2, none⟩) (by show w.heap.size < _; omega)).trans c23
    have c34 := (hb4.cell (p := ⟨w.heap.size, 3, none⟩) (by show w.heap.size < _; omega)).trans c33
    have hB4 := hB3.trans (hb4.mono (by omega))
    clear hb4 hB3 c03 c13 c23 c33
    go_wp2_with fail
    refine Calls.mono (HI.out _) ?_
    rintro e w5 ⟨rfl, hb5⟩
    have hs5 := hb5.size
    have c05 := (hb5.cell (p := ⟨w.heap.size, 0, none⟩) (by show w.heap.size < _; omega)).trans c04
    have c15 := (hb5.cell (p := ⟨w.heap.size, 1, none⟩) (by show w.heap.size < _; omega)).trans c14
    have c25 := (hb5.cell (p := ⟨w.heap.size, 2, none⟩) (by show w.heap.size < _; omega)).trans c24
    have c35 := (hb5.cell (p := ⟨w.heap.size, 3, none⟩) (by show w.heap.size < _; omega)).trans c34
    have hB5 := hB4.trans (hb5.mono (by omega))
    clear hb5 hB4 c04 c14 c24 c34
    go_wp2
    go_ret
    exact ⟨rfl, hB5⟩
  · have HZ : Hid (szN p.length f.length 1048576 = -1) := szN_no hz
    go_enter Try.func4, Try.ntmps4
    go_wp2_with fail
    refine (szNodeC kd aa 1048576 p f _ (by omega) (by omega) wp0 wf0).mono ?_
    rintro e w1 ⟨rfl, hb1⟩
    rw [HZ.out]
    have hB1 : Below w.heap.size w w1 := ((Below.refl _ w).alloc (Nat.le_refl _) _).trans (hb1.mono (by simp))
    go_wp2
    go_ret
    exact ⟨rfl, hB1⟩

set_option maxRecDepth 100000 in
theorem lifted (os : Os) (started : os.Started) (H : Type) (enc : TypeId × Value → H) :
    ReturnsInHanded {} Try.checked os 4 .any (Rows.fnExactNodeOkSpec.pre6 enc Try.prog Try.f4 Rows.fnExactNodeOkRow.domain false) (Rows.fnExactNodeOkSpec.post enc Try.prog Try.f4 false true false false) := by
  refine returnsInHanded_of_change (C := Try.checked) own started (by kernel_rfl) Try.func4
    (ChangeSpec.witness6 (enc := enc) (C := Try.checked) false ⟨#[], #[.agg #[.int .i64 0, .int .i64 0, .string ByteArray.empty, .string ByteArray.empty]], []⟩ 8 (by kernel_rfl) (by kernel_rfl) (by kernel_rfl) (by kernel_rfl)) ?_
  intro W base args ds gs before hval0 hW hcnd _
  have hval : ∀ (j : Nat) t v, Try.f4.params[j]? = some t → args[j]? = some v → Value.okWide Try.prog W .any base t v := hval0
  have hW' := hW
  obtain ⟨p, q, hA0, hV, rfl, hfz, hnd⟩ := hW
  have hA : DataW.TrodAll enc Try.prog W 0 (fun _ => true) true Try.f4.params.toList args.toList ds p := hA0
  rw [Try.params4] at hA hval
  obtain ⟨v0, vs0, d0, ds0, p0, q0, hargs, rfl, rfl, h0, r0⟩ := trodAll_cons hA
  obtain ⟨rfl, rfl, rfl⟩ := trodAll_nil r0
  obtain rfl : args = #[v0] := by cases args; simp_all
  obtain ⟨rfl, rfl⟩ := trodVars_none hV
  have k0 := h0
  have lt0 : ∀ x ∈ p0, x.block < W.heap.size := by obtain ⟨m, hm⟩ := k0; exact DataW.trod_lt m _ _ _ hm
  obtain ⟨n0, rfl, w0, wp0, wf0⟩ := open_node (hval 0 35 v0 rfl rfl) h0
  clear hA0 hval0
  refine (walk n0 W w0 wp0 wf0).mono fun e W' ⟨he, bel⟩ => ?_
  subst he
  exact ⟨_, rfl, _, _, _, [], _, [], hW', trodAll_mk1 (shut_bool Try.underlying4 _), (trodAll_cons_mk (Below.trod laidOut (by kernel_rfl) (of_decide_eq_true (by kernel_rfl)) k0 bel lt0) trodAll_mk0), rfl, bel.frame _, fun h => by cases h⟩

theorem over : Rows.fnExactNodeOkRow.holds Try.pinned (OpenSpec.ofChange Rows.fnExactNodeOkSpec) :=
  OpenClaim.holds_of_wide 4 Try.f4 rfl rfl rfl rfl rfl rfl rfl ⟨rfl, rfl, rfl, rfl, rfl⟩ rfl rfl rfl rfl rfl (by kernel_rfl) Try.func4 (by kernel_rfl)
    (of_decide_eq_true (by kernel_rfl)) (by unfold Func.isWrapper; first | (rw [if_pos (by decide +kernel)]; kernel_rfl) | (rw [if_neg (by decide +kernel)]; exact ⟨rfl, rfl⟩))
    (fun os started H enc _ => lifted os started H enc)

theorem proved : Rows.FnExactNodeOkSaid :=
  over
#print axioms proved
end Go.Proofs.Ytjkfjenhocaljaa.fnExactNodeOk
