/-
  FnExactReadObject returns true at every text and leaves it as it was: impl.ReadObject answers as spec.ReadObject, in memory of its own.
-/
import Derived.Test.YtfhkiaogfopigaaGreatDoorRows
import Derived.Test.YtfhkiaogfopigaaGreatDoorCards
import Derived.Test.YtfhkiaogfopigaaGreatDoorTie
import Derived.Test.YtfhkiaogfopigaaGreatDoorQ1
import Derived.Test.YtfhkiaogfopigaaGreatDoorQ2
import Derived.Test.YtfhkiaogfopigaaGreatDoorQ3
import Derived.Test.YtfhkiaogfopigaaGreatDoorQ4
import Derived.Test.YtfhkiaogfopigaaGreatDoorQ5
import Derived.Test.YtfhkiaogfopigaaGreatDoorQ6
import Derived.Test.YtfhkiaogfopigaaGreatDoorQ7
import Derived.Test.YtfhkiaogfopigaaGreatDoorQ8
import Derived.Test.YtfhkiaogfopigaaGreatDoorQ9
import Derived.Test.YtfhkiaogfopigaaGreatDoorQ10
import Derived.Test.YtfhkiaogfopigaaGreatDoorQ11
import Derived.Test.YtfhkiaogfopigaaGreatDoorQ12
import Derived.Test.YtfhkiaogfopigaaGreatDoorQ13
import Derived.Test.YtfhkiaogfopigaaGreatDoorQ14
import Derived.Test.YtfhkiaogfopigaaGreatDoorQ15
import Derived.Test.YtfhkiaogfopigaaGreatDoorQ16
import Derived.Test.YtfhkiaogfopigaaGreatDoorQ17
import Derived.Test.YtfhkiaogfopigaaGreatDoorQ18
import Derived.Test.YtfhkiaogfopigaaGreatDoorQ19
import Derived.Test.YtfhkiaogfopigaaGreatDoorQ20
import Derived.Test.YtfhkiaogfopigaaGreatDoorQ21
import Derived.Test.YtfhkiaogfopigaaGreatDoorQ22
import Derived.Test.YtfhkiaogfopigaaGreatDoorQ23
import Derived.Test.YtfhkiaogfopigaaGreatDoorQ24
import Derived.Test.YtfhkiaogfopigaaGreatDoorQ25
import Derived.Test.YtfhkiaogfopigaaGreatDoorQ26
import Derived.Test.YtfhkiaogfopigaaGreatDoorQ27
import Derived.Test.YtfhkiaogfopigaaGreatDoorQ28
import Derived.Test.YtfhkiaogfopigaaGreatDoorQ29
import Derived.Test.YtfhkiaogfopigaaGreatDoorQ30
import Derived.Test.YtfhkiaogfopigaaGreatDoorQ31
import Derived.Test.YtfhkiaogfopigaaGreatDoorQ32
import Derived.WalkKit
import Derived.ProofKit
import Derived.OpenShut
import Derived.ShutString
import Derived.ChangeOld
import Derived.Below
import Derived.LaidLaws
import Derived.LaidHandle
import Derived.Lay
import Derived.MakeChecks
import Derived.Lib.LaidTab
import Derived.Stop.Joined
import Derived.SevenTiedAt
namespace Go.Proofs.YtfhkiaogfopigaaGreatDoor.fnExactReadObject
open Go.ChangeShapes Go.WideShapes Go.ChangeAt Go.RowKit
open Go.ChangeMaps (open_string shut_string)
set_option linter.unusedVariables false

theorem own : ownKnob Tryz.prog.godebug = none := by kernel_rfl
theorem laidOut : laidOutB Tryz.prog = true := by kernel_rfl

/-! The walk: the law returns true and writes nothing that was there. -/
set_option maxHeartbeats 8000000 in
set_option maxRecDepth 1000000 in
theorem walk (a0 : ByteArray) (w : World) (w0 : a0.size ≤ maxLen) (hT : PowIs w) :
    Calls Tryz.prog 6 #[.string a0] w fun e w' => e = .returned (.bool true) ∧ Below w.heap.size w w' := by
  have HPW : Hid (PowIs w) := hT
  clear hT
  obtain ⟨l, rfl⟩ : ∃ l : List UInt8, a0 = ⟨l.toArray⟩ := ⟨a0.data.toList, by cases a0; simp⟩
  by_cases hb : 1048576 < (l.length : Int)
  · go_enter Tryz.func6, Tryz.ntmps6
    go_wp2
    go_ret
    exact ⟨rfl, Below.refl _ _⟩
  · have hself : ∀ n : Int, (n != n) = false := by simp
    have HS : Hid (_) := fun W : World => specReadObject l W
    have HI : Hid (_) := fun (W : World) (t : PowIs W) => implReadObject l W (by omega) t
    have hsm : (readOV l).2.1.length ≤ 6 ∧ (readOV l).2.2.length ≤ 8 ∧ ∀ f ∈ (readOV l).2.2, f.2.2.length ≤ 200 := by
      rcases read_ov l with ⟨_, h, _⟩ | ⟨_, h⟩
      · exact objB_small h
      · rw [h]; exact ⟨by simp [ob0], by simp [ob0], fun f hf => by simp [ob0] at hf⟩
    unfold RoOut at HS
    obtain ⟨X, hX⟩ : ∃ X, readOV l = X := ⟨_, rfl⟩
    obtain ⟨ok, hok⟩ : ∃ ok, readOB l = ok := ⟨_, rfl⟩
    rw [hX, hok] at HS HI
    rw [hX] at hsm
    obtain ⟨nm, ims, fs⟩ := X
    simp only at HS HI hsm
    obtain ⟨hi6, hf8, h60⟩ := hsm
    have H60 : Hid (∀ f ∈ fs, f.2.2.length ≤ 200) := h60
    have H60j : Hid (∀ j, (fs.getD j rt0).2.2.length ≤ 4194304) := fun j => by
      by_cases hj : j < fs.length
      · have hg : fs.getD j rt0 = fs[j] := by simp [List.getD, hj]
        rw [hg]; have := h60 _ (List.getElem_mem hj); omega
      · have hg : fs.getD j rt0 = rt0 := by simp [List.getD, hj]
        rw [hg]; simp [rt0]
    have hne : (ok != ok) = false := by simp
    clear hX hok h60
    go_enter Tryz.func6, Tryz.ntmps6
    go_wp2_with fail
    refine Calls.mono (HS.out _) ?_
    rintro e w1 ⟨vi1, vf1, xs1, rfl, hxs1, hoi1, hof1, hb1⟩
    obtain ⟨ai1, ci1, af1, cf1, rfl, rfl, _, _, hit1, hif1⟩ := own_ob hoi1 hof1 hxs1
    obtain ⟨A, hA0⟩ : ∃ A, w1.heap.size = A := ⟨_, rfl⟩
    obtain ⟨w2, hw2⟩ : ∃ W, w1.alloc (.cells #[.string ⟨nm.toArray⟩, .slice ai1 ims.length ci1, .slice af1 fs.length cf1] 43) = W := ⟨_, rfl⟩
    obtain ⟨bA, hb2⟩ := BoxO.new w1 (.string ⟨nm.toArray⟩) (.slice ai1 ims.length ci1) (.slice af1 fs.length cf1) 43
    rw [hw2] at bA hb2
    rw [hA0] at bA
    have hB2 := hb1.trans (hb2.mono hb1.size)
    have hit2 := hit1.below hb2
    have hif2 := hif1.below hb2
    have f0 := bA.c0
    have f1 := bA.c1
    have f2 := bA.c2
    clear hb1 hb2 hit1 hif1 hoi1 hof1 hxs1
    go_wp2_with fail
    refine Calls.mono (HI.out _ (HPW.out.below hB2)) ?_
    rintro e w3 ⟨vi3, vf3, xs3, rfl, hxs3, hoi3, hof3, hap3, hb3⟩
    obtain ⟨ai3, ci3, af3, cf3, rfl, rfl, _, _, hit3, hif3⟩ := own_ob hoi3 hof3 hxs3
    have hlf3 : xs3.length = fs.length := by rw [← hxs3, List.length_map]
    have h603 : Hid (∀ x ∈ xs3, x.1.2.2.length ≤ 200) := fun x hx => H60.out _ (hxs3 ▸ List.mem_map_of_mem hx : x.1 ∈ fs)
    have hfe : rend (1 + ims.length) xs3 ≤ 30000000 := by have := rend_small (1 + ims.length) xs3 h603.out; omega
    obtain ⟨B, hB0⟩ : ∃ B, w3.heap.size = B := ⟨_, rfl⟩
    obtain ⟨w4, hw4⟩ : ∃ W, w3.alloc (.cells #[.string ⟨nm.toArray⟩, .slice ai3 ims.length ci3, .slice af3 fs.length cf3] 43) = W := ⟨_, rfl⟩
    obtain ⟨bB, hb4⟩ := BoxO.new w3 (.string ⟨nm.toArray⟩) (.slice ai3 ims.length ci3) (.slice af3 fs.length cf3) 43
    rw [hw4] at bB hb4
    rw [hB0] at bB
    have hPB : Hid (∀ k, ObBlocks (.slice ai3 ims.length ci3) (.slice af3 fs.length cf3) xs3 k → w2.heap.size ≤ k ∧ k < B) := by
      intro k hk
      rw [← hB0]
      rcases hk with e | e | ⟨x, hx, e⟩
      · exact hoi3.lt k e
      · exact hof3.row.lt k e
      · exact (hof3.trees x hx).lt k e
    have hAs : A < w2.heap.size := bA.lt
    have HBs : Hid (w.heap.size ≤ w2.heap.size) := hB2.size
    have hBs : Hid (w2.heap.size ≤ w4.heap.size) := Nat.le_trans hb3.size hb4.size
    have hB4 := hB2.trans ((hb3.mono hB2.size).trans (hb4.mono (Nat.le_trans hB2.size hb3.size)))
    have hit4 := (hit2.below hb3).below hb4
    have hif4 := (hif2.below hb3).below hb4
    have HT2 : Hid (∀ V, Below w2.heap.size w2 V → TextsIn V ai1 ims.length ims ∧ RtsIn V af1 fs.length fs) := fun V h => ⟨hit2.below h, hif2.below h⟩
    have hC4 : Below w2.heap.size w2 w4 := hb3.trans (hb4.mono hb3.size)
    replace bA := (bA.below hb3).below hb4
    replace hoi3 := own_below hoi3 hb4
    replace hof3 := hof3.below hb4
    replace hit3 := hit3.below hb4
    replace hif3 := hif3.below hb4
    replace f0 := bA.c0
    replace f1 := bA.c1
    replace f2 := bA.c2
    have g0 := bB.c0
    have g1 := bB.c1
    have g2 := bB.c2
    clear hb3 hb4 hit2 hif2 hB2
    go_wp2_with fail
    refine Calls.mono (eqObjectC nm ai3 ai1 af3 af1 ims.length ci3 ci1 fs.length cf3 cf1 ims fs _ hit3 hit4 hif3 hif4 (by omega) (by omega) H60j.out) ?_
    rintro e w5 ⟨rfl, hb5⟩
    have hB5 := hB4.trans (hb5.mono hB4.size)
    have hC5 : Below w2.heap.size w2 w5 := hC4.trans (hb5.mono hBs.out)
    replace bA := bA.below hb5
    replace bB := bB.below hb5
    replace hoi3 := own_below hoi3 hb5
    replace hof3 := hof3.below hb5
    replace f0 := bA.c0
    replace f1 := bA.c1
    replace f2 := bA.c2
    replace g0 := bB.c0
    replace g1 := bB.c1
    replace g2 := bB.c2
    have hs5 : Hid (w2.heap.size ≤ w5.heap.size) := Nat.le_trans hBs.out hb5.size
    clear hb5 hB4 hC4 hit3 hif3 hit4 hif4
    have HMk : Hid (_) := markObjectC nm w5 w2.heap.size 1 ims.length (.slice ai3 ims.length ci3) (.slice af3 fs.length cf3) (strV ims) xs3 (by omega) (by omega) (by omega) (by omega) hfe (fun x hx => by have := h603.out x hx; omega) hap3 hoi3 hof3
    have hge2 : ¬ ((rend (1 + ims.length) xs3 : Nat) : Int) < 0 := by omega
    clear hoi3 hof3
    go_wp2_with fail
    refine Calls.mono HMk.out ?_
    rintro e w6 ⟨rfl, hoi6, hof6, hw6⟩
    have hC6 : Below w2.heap.size w2 w6 := hC5.trans (hw6.below hs5.out (fun k e => (hPB.out k e).1))
    have hB6 : Below w.heap.size w w6 := hB5.trans (hw6.below hB5.size (fun k e => by have := (hPB.out k e).1; have := hB5.size; have := HBs.out; omega))
    replace bA := bA.wrote hw6 (fun e => by have := (hPB.out A e).1; omega)
    replace bB := bB.wrote hw6 (fun e => by have := (hPB.out B e).2; omega)
    replace f0 := bA.c0
    replace f1 := bA.c1
    replace f2 := bA.c2
    replace g0 := bB.c0
    replace g1 := bB.c1
    replace g2 := bB.c2
    clear hw6 hC5 hB5 HMk
    go_wp2_with fail
    refine Calls.mono (heldObjectC nm _ _ 1 ims.length _ _ xs3 (by omega) (by omega) (by omega) (by omega) hfe (fun x hx => by have := h603.out x hx; omega) hoi6 hof6) ?_
    rintro e w7 ⟨rfl, hg7⟩
    have hC7 : Below w2.heap.size w2 w7 := hC6.grown hg7 hC6.size (by simp)
    have hB7 : Below w.heap.size w w7 := hB6.grown hg7 hB6.size (by simp)
    replace hoi6 := own_none hoi6 hg7
    replace hof6 := hof6.none hg7
    replace bA := bA.grown hg7 (by simp)
    replace bB := bB.grown hg7 (by simp)
    replace f0 := bA.c0
    replace f1 := bA.c1
    replace f2 := bA.c2
    replace g0 := bB.c0
    replace g1 := bB.c1
    replace g2 := bB.c2
    clear hg7 hC6 hB6
    go_wp2_with fail
    refine Calls.mono (HI.out _ (HPW.out.below hB7)) ?_
    rintro e w8 ⟨vi8, vf8, xs8, rfl, hxs8, hoi8, hof8, _, hb8⟩
    obtain ⟨ai8, ci8, af8, cf8, rfl, rfl, _, _, hit8, hif8⟩ := own_ob hoi8 hof8 hxs8
    obtain ⟨H, hH0⟩ : ∃ H, w8.heap.size = H := ⟨_, rfl⟩
    obtain ⟨w9, hw9⟩ : ∃ W, w8.alloc (.cells #[.string ⟨nm.toArray⟩, .slice ai8 ims.length ci8, .slice af8 fs.length cf8] 43) = W := ⟨_, rfl⟩
    obtain ⟨bH, hb9⟩ := BoxO.new w8 (.string ⟨nm.toArray⟩) (.slice ai8 ims.length ci8) (.slice af8 fs.length cf8) 43
    rw [hw9] at bH hb9
    rw [hH0] at bH
    have hC9 : Below w2.heap.size w2 w9 := hC7.trans ((hb8.mono hC7.size).trans (hb9.mono (Nat.le_trans hC7.size hb8.size)))
    have hB9 : Below w.heap.size w w9 := hB7.trans ((hb8.mono hB7.size).trans (hb9.mono (Nat.le_trans hB7.size hb8.size)))
    replace hoi6 := own_below (own_below hoi6 hb8) hb9
    replace hof6 := (hof6.below hb8).below hb9
    replace bA := (bA.below hb8).below hb9
    replace bB := (bB.below hb8).below hb9
    replace hit8 := hit8.below hb9
    replace hif8 := hif8.below hb9
    obtain ⟨hit9, hif9⟩ := HT2.out _ hC9
    replace f0 := bA.c0
    replace f1 := bA.c1
    replace f2 := bA.c2
    replace g0 := bB.c0
    replace g1 := bB.c1
    replace g2 := bB.c2
    have h0 := bH.c0
    have h1 := bH.c1
    have h2 := bH.c2
    clear hb8 hb9 hC7 hB7 hoi8 hof8 hxs8
    go_wp2_with fail
    refine Calls.mono (eqObjectC nm ai8 ai1 af8 af1 ims.length ci8 ci1 fs.length cf8 cf1 ims fs _ hit8 hit9 hif8 hif9 (by omega) (by omega) H60j.out) ?_
    rintro e w10 ⟨rfl, hb10⟩
    have hB10 := hB9.trans (hb10.mono hB9.size)
    replace hoi6 := own_below hoi6 hb10
    replace hof6 := hof6.below hb10
    replace bB := bB.below hb10
    replace g0 := bB.c0
    replace g1 := bB.c1
    replace g2 := bB.c2
    clear hb10 hB9 hC9 hit8 hif8 hit9 hif9 bA bH f0 f1 f2 h0 h1 h2
    go_wp2_with fail
    refine Calls.mono (heldObjectC nm _ _ 1 ims.length _ _ xs3 (by omega) (by omega) (by omega) (by omega) hfe (fun x hx => by have := h603.out x hx; omega) hoi6 hof6) ?_
    rintro e w11 ⟨rfl, hg11⟩
    have hB11 : Below w.heap.size w w11 := hB10.grown hg11 hB10.size (by simp)
    clear hg11
    go_wp2
    go_ret
    exact ⟨rfl, hB11⟩

/-- What the listed variables give the walk: the table of powers of ten. -/
theorem pow_of_laid {W : World} (h : laidMetH Tryz.prog Rows.fnExactReadObjectRow.laid W) : PowIs W := by
  rw [MakeChecks.laidMetH_plain _ _ _ (by kernel_rfl)] at h
  obtain ⟨ps, ⟨g0, t0, cs0, f0, p0, q0, hg0, ht0, hv0, hd0, ⟨g1, t1, cs1, f1, p1, q1, hg1, ht1, hv1, hd1, ⟨g2, t2, cs2, f2, p2, q2, hg2, ht2, hv2, hd2, _, _⟩, _⟩, _⟩, _, _⟩ := h
  obtain ⟨g, hg⟩ := Option.isSome_iff_exists.1 powAt
  obtain rfl := Option.some.inj (hg.symm.trans hg2)
  exact pow_of_cells hg ht2 hv2 hd2

set_option maxRecDepth 100000 in
theorem lifted (os : Os) (started : os.Started) (H : Type) (enc : TypeId × Value → H) :
    ReturnsInHanded {} Tryz.checked os 6 .any (fun w args => (Rows.fnExactReadObjectSpec.pre enc Tryz.prog Tryz.f6 [] false w args ∧ laidMetH Tryz.prog Rows.fnExactReadObjectRow.laid w) ∧ sizedMet enc Tryz.prog Tryz.f6 (OpenSpec.ofChange Rows.fnExactReadObjectSpec) false w args)
      (Rows.fnExactReadObjectSpec.post enc Tryz.prog Tryz.f6 false true false false) := by
  refine returnsInHanded_of_change_and (C := Tryz.checked) (X := fun w _ => laidMetH Tryz.prog Rows.fnExactReadObjectRow.laid w) (fun _ _ _ hh h => h.of_heap hh) own started (by kernel_rfl) Tryz.func6
    (ChangeSpec.witness_shaped (enc := enc) (C := Tryz.checked) (os := os) (X := fun w _ => laidMetH Tryz.prog Rows.fnExactReadObjectRow.laid w) false (World.laidAll Tryz.prog os Rows.fnExactReadObjectRow.laid) #[.string ByteArray.empty] 8 (World.laidAll_os _ _ _)
      (World.shaped_of_ZipB (by kernel_rfl) (by kernel_rfl)) (by kernel_rfl) (by kernel_rfl) (by kernel_rfl)
      (by rw [MakeChecks.laidMetH_plain _ _ _ (by kernel_rfl)]; exact laidMet_laidAll _ (by kernel_rfl) (by kernel_rfl))) ?_
  intro W base args ds gs before hval0 hW _ _ hL _
  have hval : ∀ (j : Nat) t v, Tryz.f6.params[j]? = some t → args[j]? = some v → Value.okWide Tryz.prog W .any base t v := hval0
  have hW' := hW
  obtain ⟨p, q, hA0, hV, rfl, hfz, hnd⟩ := hW
  have hA : DataW.TrodAll enc Tryz.prog W 0 (fun _ => true) true Tryz.f6.params.toList args.toList ds p := hA0
  rw [Tryz.params6] at hA hval
  obtain ⟨v0, vs0, d0, ds0, p0, q0, hargs, rfl, rfl, h0, r0⟩ := trodAll_cons hA
  obtain ⟨rfl, rfl, rfl⟩ := trodAll_nil r0
  obtain rfl : args = #[v0] := by cases args; simp_all
  obtain ⟨rfl, rfl⟩ := trodVars_none hV
  have k0 := h0
  have lt0 : ∀ x ∈ p0, x.block < W.heap.size := by obtain ⟨m, hm⟩ := k0; exact DataW.trod_lt m _ _ _ hm
  obtain ⟨a0, rfl, _, _, w0⟩ := open_string Tryz.underlying9 (hval 0 9 v0 rfl rfl) h0
  clear hA0 hval0
  refine (walk a0 W w0 (pow_of_laid hL)).mono fun e W' ⟨he, bel⟩ => ?_
  subst he
  exact ⟨_, rfl, _, _, _, [], _, [], hW', trodAll_mk1 (shut_bool Tryz.underlying4 _), (trodAll_cons_mk (Below.trod laidOut (by kernel_rfl) (of_decide_eq_true (by kernel_rfl)) k0 bel lt0) trodAll_mk0), rfl, bel.frame _, fun h => by cases h⟩

theorem over : Rows.fnExactReadObjectRow.holds Tryz.pinned (OpenSpec.ofChange Rows.fnExactReadObjectSpec) :=
  OpenClaim.holds_of_wide 6 Tryz.f6 rfl rfl rfl rfl rfl rfl rfl ⟨rfl, rfl, rfl, rfl, rfl⟩ rfl rfl rfl rfl rfl (by kernel_rfl) Tryz.func6 (by kernel_rfl)
    (of_decide_eq_true (by kernel_rfl)) (by unfold Func.isWrapper; first | (rw [if_pos (by decide +kernel)]; kernel_rfl) | (rw [if_neg (by decide +kernel)]; exact ⟨rfl, rfl⟩))
    (fun os started H enc _ => lifted os started H enc)

/-- The tied card. -/
theorem proved : Rows.FnExactReadObjectCardSaid :=
  Claim7.holds_tied_plain_at .later [] [.data, .data, .data] true (true, "9b7f67dbf5a656725ea1351e348513867f995f6ad522b67d4b45a20307b92c6b") false
    over (fun _ h => by cases h) (by kernel_rfl) (fun _ h => by cases h) fnExactReadObject_row_tie rfl ⟨rfl, rfl⟩ (by kernel_rfl) rfl
    (fun f fn hf hfn => by
      obtain rfl : f = 6 := Option.some.inj ((show Tryz.prog.funcNamed Rows.fnExactReadObjectRow.func = some 6 by kernel_rfl).symm.trans hf) |>.symm
      obtain rfl : fn = Tryz.f6 := (Option.some.inj (Tryz.func6.symm.trans hfn)).symm
      exact ⟨by kernel_rfl, fun j t ht => by
        rw [Tryz.params6] at ht
        have hm : t ∈ [9] := by simpa using Array.mem_of_getElem? ht
        have hall : ([9].all fun u => !Tryz.prog.wantsStandIn u) = true := by kernel_rfl
        exact (show Tryz.prog.wantsStandIn t = false by simpa using List.all_eq_true.1 hall t hm)⟩)
    (by kernel_rfl)
#print axioms proved
end Go.Proofs.YtfhkiaogfopigaaGreatDoor.fnExactReadObject
