/-
  FnExactReadTree returns true at every text and leaves it as it was: impl.ReadTree answers as spec.ReadTree, in memory of its own.
-/
import Derived.Test.YtjkfjenhocaljaaDoorRows
import Derived.Test.YtjkfjenhocaljaaDoorCards
import Derived.Test.YtjkfjenhocaljaaDoorTie
import Derived.Test.YtjkfjenhocaljaaDoorMath1
import Derived.Test.YtjkfjenhocaljaaDoorMathT
import Derived.Test.YtjkfjenhocaljaaDoorOwn
import Derived.Test.YtjkfjenhocaljaaDoorHexOf
import Derived.Test.YtjkfjenhocaljaaDoorTurned
import Derived.Test.YtjkfjenhocaljaaDoorMath3C
import Derived.Test.YtjkfjenhocaljaaDoorDraw
import Derived.Test.YtjkfjenhocaljaaDoorDraw2
import Derived.Test.YtjkfjenhocaljaaDoorChunkS
import Derived.Test.YtjkfjenhocaljaaDoorMath4
import Derived.Test.YtjkfjenhocaljaaDoorWordS
import Derived.Test.YtjkfjenhocaljaaDoorMath5
import Derived.Test.YtjkfjenhocaljaaDoorMath5N
import Derived.Test.YtjkfjenhocaljaaDoorTextS
import Derived.Test.YtjkfjenhocaljaaDoorTextS2
import Derived.Test.YtjkfjenhocaljaaDoorTextS3
import Derived.Test.YtjkfjenhocaljaaDoorTextS4
import Derived.Test.YtjkfjenhocaljaaDoorTextS5
import Derived.Test.YtjkfjenhocaljaaDoorMath5J
import Derived.Test.YtjkfjenhocaljaaDoorMath6
import Derived.Test.YtjkfjenhocaljaaDoorMath6R
import Derived.Test.YtjkfjenhocaljaaDoorMath6P
import Derived.Test.YtjkfjenhocaljaaDoorTreeS
import Derived.Test.YtjkfjenhocaljaaDoorTreeS2
import Derived.Test.YtjkfjenhocaljaaDoorTreeS3
import Derived.Test.YtjkfjenhocaljaaDoorTreeS4
import Derived.Test.YtjkfjenhocaljaaDoorTreeS5
import Derived.Test.YtjkfjenhocaljaaDoorTreeS6
import Derived.Test.YtjkfjenhocaljaaDoorTreeX
import Derived.Test.YtjkfjenhocaljaaDoorIntsL
import Derived.Test.YtjkfjenhocaljaaDoorNodeL
import Derived.Test.YtjkfjenhocaljaaDoorMarks
import Derived.Test.YtjkfjenhocaljaaDoorNodeM
import Derived.Test.YtjkfjenhocaljaaDoorNodeIn
import Derived.Test.YtjkfjenhocaljaaDoorMath6I
import Derived.Test.YtjkfjenhocaljaaDoorWordI
import Derived.Test.YtjkfjenhocaljaaDoorJumps
import Derived.Test.YtjkfjenhocaljaaDoorClone
import Derived.Test.YtjkfjenhocaljaaDoorTextI
import Derived.Test.YtjkfjenhocaljaaDoorTreeI
import Derived.Test.YtjkfjenhocaljaaDoorTreeI2
import Derived.Test.YtjkfjenhocaljaaDoorTreeI3
import Derived.Test.YtjkfjenhocaljaaDoorShelf
import Derived.Test.YtjkfjenhocaljaaDoorTreeJ
import Derived.Test.YtjkfjenhocaljaaDoorTreeJ2
import Derived.Test.YtjkfjenhocaljaaDoorTreeJ3
import Derived.Test.YtjkfjenhocaljaaDoorTreeJ4
import Derived.WalkKit
import Derived.ProofKit
import Derived.OpenShut
import Derived.ShutString
import Derived.ChangeOld
import Derived.Below
import Derived.LaidLaws
import Derived.LaidHandle
import Derived.Lay
import Derived.MakeChecks
import Derived.Lib.LaidTab
import Derived.Stop.Joined
import Derived.SevenTiedAt
namespace Go.Proofs.YtjkfjenhocaljaaDoor.fnExactReadTree
open Go.ChangeShapes Go.WideShapes Go.ChangeAt Go.RowKit
open Go.ChangeMaps (open_string shut_string)
set_option linter.unusedVariables false

theorem own : ownKnob Tryd.prog.godebug = none := by kernel_rfl
theorem laidOut : laidOutB Tryd.prog = true := by kernel_rfl

/-! The walk: the law returns true and writes nothing that was there. -/
set_option maxHeartbeats 8000000 in
set_option maxRecDepth 1000000 in
theorem walk (a0 : ByteArray) (w : World) (w0 : a0.size ≤ maxLen) (hT : PowIs w) :
    Calls Tryd.prog 5 #[.string a0] w fun e w' => e = .returned (.bool true) ∧ Below w.heap.size w w' := by
  obtain ⟨l, rfl⟩ : ∃ l : List UInt8, a0 = ⟨l.toArray⟩ := ⟨a0.data.toList, by cases a0; simp⟩
  by_cases hb : 1048576 < (l.length : Int)
  · go_enter Tryd.func5, Tryd.ntmps5
    go_wp2
    go_ret
    exact ⟨rfl, Below.refl _ _⟩
  · have hself : ∀ n : Int, (n != n) = false := by simp
    have hl : l.length ≤ 1048576 := by omega
    have HS : Hid (_) := fun W : World => specReadTree l W
    have HI : Hid (_) := fun (W : World) (t : PowIs W) => implReadTree l W hl t
    have htl : (readTV l).length ≤ 1048576 := by have := readTV_len l; omega
    obtain ⟨z, hz⟩ : ∃ z, readTV l = z := ⟨_, rfl⟩
    obtain ⟨b, hb2⟩ : ∃ b, readOk l = b := ⟨_, rfl⟩
    rw [hz, hb2] at HS HI
    rw [hz] at htl
    have hne : (b != b) = false := by simp
    clear hz hb2
    obtain ⟨n, hn⟩ : ∃ n, z.length = n := ⟨_, rfl⟩
    rw [hn] at HS HI htl
    clear hn
    go_enter Tryd.func5, Tryd.ntmps5
    go_wp2_with fail
    refine Calls.mono (HS.out _) ?_
    rintro e w1 ⟨v1, rfl, hown1, hb1⟩
    have hlt1 : Hid (∀ k, v1.ownBlock = some k → k < w1.heap.size) := fun k e => (hown1.lt k e).2
    go_wp2_with fail
    refine Calls.mono (HI.out _ (hT.below hb1)) ?_
    rintro e w2 ⟨v2, rfl, hown2, hb2⟩
    have hown1a := own_below hown1 hb2
    have hB2 := hb1.trans (hb2.mono hb1.size)
    have hz1 := hb1.size
    have hlt2 : Hid (∀ k, v2.ownBlock = some k → w1.heap.size ≤ k) := fun k e => (hown2.lt k e).1
    obtain ⟨_, a1, c1, rfl, hin1⟩ := own_nodes hown1a
    obtain ⟨_, a2, c2, rfl, hin2⟩ := own_nodes hown2
    clear hown1 hb2 hb1
    have hd2 : Hid (∀ k, (Value.slice a2 n c2).ownBlock = some k → w1.heap.size ≤ k) := hlt2
    clear hlt2
    go_wp2_with fail
    refine (eqNodeSC a2 a1 n c2 c1 z _ hin2 hin1 (by omega)).mono ?_
    rintro e w3 ⟨rfl, hb3⟩
    have hown1b := own_below hown1a hb3
    have hown2b := own_below hown2 hb3
    have hB3 := hB2.trans (hb3.mono hB2.size)
    clear hown1a hown2 hB2 hb3 hin1 hin2
    go_wp2_with fail
    refine (markNodeSV _ _ _ 1 _ z (by omega) (by omega) (by omega) hown2b).mono ?_
    rintro e w4 ⟨rfl, hown2c, hg4⟩
    have hown1c := hown1b.kept hg4 (own_ne3 (fun q e1 e2 => by have := hlt1.out q e1; have := hd2.out q e2; omega))
    have hB4 : Below w.heap.size w w4 := hB3.grown hg4 hB3.size (fun k e => Nat.le_trans hz1 (hd2.out k e))
    clear hown1b hown2b hB3 hg4
    go_wp2_with fail
    refine (heldNodeSV _ _ _ 1 _ (by omega) (by omega) (by omega) hown2c).mono ?_
    rintro e w5 ⟨rfl, hg5⟩
    have hown1d := own_none hown1c hg5
    have hown2d := own_none hown2c hg5
    have hB5 := hB4.grown hg5 hB4.size (by simp)
    clear hown1c hown2c hB4 hg5
    go_wp2_with fail
    refine Calls.mono (HI.out _ (hT.below hB5)) ?_
    rintro e w6 ⟨v6, rfl, hown6, hb6⟩
    have hown1e := own_below hown1d hb6
    have hown2e := own_below hown2d hb6
    have hB6 := hB5.trans (hb6.mono hB5.size)
    obtain ⟨_, a1', c1', e1', hin1⟩ := own_nodes hown1e
    obtain ⟨_, a6, c6, rfl, hin6⟩ := own_nodes hown6
    simp only [Value.slice.injEq, true_and] at e1'
    obtain ⟨rfl, rfl⟩ := e1'
    clear hown1d hown2d hB5 hb6 hown6 hown1e
    go_wp2_with fail
    refine (eqNodeSC a6 a1 n c6 c1 z _ hin6 hin1 (by omega)).mono ?_
    rintro e w7 ⟨rfl, hb7⟩
    have hown2f := own_below hown2e hb7
    have hB7 := hB6.trans (hb7.mono hB6.size)
    clear hown2e hB6 hb7 hin1 hin6
    go_wp2_with fail
    refine (heldNodeSV _ _ _ 1 _ (by omega) (by omega) (by omega) hown2f).mono ?_
    rintro e w8 ⟨rfl, hg8⟩
    have hB8 := hB7.grown hg8 hB7.size (by simp)
    clear hown2f hB7 hg8
    go_wp2
    go_ret
    exact ⟨rfl, hB8⟩

/-- What the listed variables give the walk: the table of powers of ten. -/
theorem pow_of_laid {W : World} (h : laidMetH Tryd.prog Rows.fnExactReadTreeRow.laid W) : PowIs W := by
  rw [MakeChecks.laidMetH_plain _ _ _ (by kernel_rfl)] at h
  obtain ⟨ps, ⟨g0, t0, cs0, f0, p0, q0, hg0, ht0, hv0, hd0, ⟨g1, t1, cs1, f1, p1, q1, hg1, ht1, hv1, hd1, ⟨g2, t2, cs2, f2, p2, q2, hg2, ht2, hv2, hd2, _, _⟩, _⟩, _⟩, _, _⟩ := h
  obtain ⟨g, hg⟩ := Option.isSome_iff_exists.1 powAt
  obtain rfl := Option.some.inj (hg.symm.trans hg2)
  exact pow_of_cells hg ht2 hv2 hd2

set_option maxRecDepth 100000 in
theorem lifted (os : Os) (started : os.Started) (H : Type) (enc : TypeId × Value → H) :
    ReturnsInHanded {} Tryd.checked os 5 .any (fun w args => (Rows.fnExactReadTreeSpec.pre enc Tryd.prog Tryd.f5 [] false w args ∧ laidMetH Tryd.prog Rows.fnExactReadTreeRow.laid w) ∧ sizedMet enc Tryd.prog Tryd.f5 (OpenSpec.ofChange Rows.fnExactReadTreeSpec) false w args)
      (Rows.fnExactReadTreeSpec.post enc Tryd.prog Tryd.f5 false true false false) := by
  refine returnsInHanded_of_change_and (C := Tryd.checked) (X := fun w _ => laidMetH Tryd.prog Rows.fnExactReadTreeRow.laid w) (fun _ _ _ hh h => h.of_heap hh) own started (by kernel_rfl) Tryd.func5
    (ChangeSpec.witness_shaped (enc := enc) (C := Tryd.checked) (os := os) (X := fun w _ => laidMetH Tryd.prog Rows.fnExactReadTreeRow.laid w) false (World.laidAll Tryd.prog os Rows.fnExactReadTreeRow.laid) #[.string ByteArray.empty] 8 (World.laidAll_os _ _ _)
      (World.shaped_of_ZipB (by kernel_rfl) (by kernel_rfl)) (by kernel_rfl) (by kernel_rfl) (by kernel_rfl)
      (by rw [MakeChecks.laidMetH_plain _ _ _ (by kernel_rfl)]; exact laidMet_laidAll _ (by kernel_rfl) (by kernel_rfl))) ?_
  intro W base args ds gs before hval0 hW _ _ hL _
  have hval : ∀ (j : Nat) t v, Tryd.f5.params[j]? = some t → args[j]? = some v → Value.okWide Tryd.prog W .any base t v := hval0
  have hW' := hW
  obtain ⟨p, q, hA0, hV, rfl, hfz, hnd⟩ := hW
  have hA : DataW.TrodAll enc Tryd.prog W 0 (fun _ => true) true Tryd.f5.params.toList args.toList ds p := hA0
  rw [Tryd.params5] at hA hval
  obtain ⟨v0, vs0, d0, ds0, p0, q0, hargs, rfl, rfl, h0, r0⟩ := trodAll_cons hA
  obtain ⟨rfl, rfl, rfl⟩ := trodAll_nil r0
  obtain rfl : args = #[v0] := by cases args; simp_all
  obtain ⟨rfl, rfl⟩ := trodVars_none hV
  have k0 := h0
  have lt0 : ∀ x ∈ p0, x.block < W.heap.size := by obtain ⟨m, hm⟩ := k0; exact DataW.trod_lt m _ _ _ hm
  obtain ⟨a0, rfl, _, _, w0⟩ := open_string Tryd.underlying9 (hval 0 9 v0 rfl rfl) h0
  clear hA0 hval0
  refine (walk a0 W w0 (pow_of_laid hL)).mono fun e W' ⟨he, bel⟩ => ?_
  subst he
  exact ⟨_, rfl, _, _, _, [], _, [], hW', trodAll_mk1 (shut_bool Tryd.underlying4 _), (trodAll_cons_mk (Below.trod laidOut (by kernel_rfl) (of_decide_eq_true (by kernel_rfl)) k0 bel lt0) trodAll_mk0), rfl, bel.frame _, fun h => by cases h⟩

theorem over : Rows.fnExactReadTreeRow.holds Tryd.pinned (OpenSpec.ofChange Rows.fnExactReadTreeSpec) :=
  OpenClaim.holds_of_wide 5 Tryd.f5 rfl rfl rfl rfl rfl rfl rfl ⟨rfl, rfl, rfl, rfl, rfl⟩ rfl rfl rfl rfl rfl (by kernel_rfl) Tryd.func5 (by kernel_rfl)
    (of_decide_eq_true (by kernel_rfl)) (by unfold Func.isWrapper; first | (rw [if_pos (by decide +kernel)]; kernel_rfl) | (rw [if_neg (by decide +kernel)]; exact ⟨rfl, rfl⟩))
    (fun os started H enc _ => lifted os started H enc)

/-- The tied card. -/
theorem proved : Rows.FnExactReadTreeCardSaid :=
  Claim7.holds_tied_plain_at .later [] [.data, .data, .data] true (true, "1c3695a123215751a512774ad25301578bd74a47b3ebc123bf9a14b69cefd241") true
    over (fun _ h => by cases h) (by kernel_rfl) (fun _ h => by cases h) fnExactReadTree_row_tie rfl ⟨rfl, rfl⟩ (by kernel_rfl) rfl
    (fun f fn hf hfn => by
      obtain rfl : f = 5 := Option.some.inj ((show Tryd.prog.funcNamed Rows.fnExactReadTreeRow.func = some 5 by kernel_rfl).symm.trans hf) |>.symm
      obtain rfl : fn = Tryd.f5 := (Option.some.inj (Tryd.func5.symm.trans hfn)).symm
      exact ⟨by kernel_rfl, fun j t ht => by
        rw [Tryd.params5] at ht
        have hm : t ∈ [9] := by simpa using Array.mem_of_getElem? ht
        have hall : ([9].all fun u => !Tryd.prog.wantsStandIn u) = true := by kernel_rfl
        exact (show Tryd.prog.wantsStandIn t = false by simpa using List.all_eq_true.1 hall t hm)⟩)
    (by kernel_rfl)
#print axioms proved
end Go.Proofs.YtjkfjenhocaljaaDoor.fnExactReadTree
