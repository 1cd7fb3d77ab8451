/-
  FnExactReadImage returns true at every text and leaves it as it was: impl.ReadImage answers as spec.ReadImage, in memory of its own.
-/
import Derived.Test.YtfhkiaogfopigaaGreatDoorRows
import Derived.Test.YtfhkiaogfopigaaGreatDoorCards
import Derived.Test.YtfhkiaogfopigaaGreatDoorTie
import Derived.Test.YtfhkiaogfopigaaGreatDoorQ1
import Derived.Test.YtfhkiaogfopigaaGreatDoorQ2
import Derived.Test.YtfhkiaogfopigaaGreatDoorQ3
import Derived.Test.YtfhkiaogfopigaaGreatDoorQ4
import Derived.Test.YtfhkiaogfopigaaGreatDoorQ5
import Derived.Test.YtfhkiaogfopigaaGreatDoorQ6
import Derived.Test.YtfhkiaogfopigaaGreatDoorQ7
import Derived.Test.YtfhkiaogfopigaaGreatDoorQ8
import Derived.Test.YtfhkiaogfopigaaGreatDoorQ14
import Derived.Test.YtfhkiaogfopigaaGreatDoorQ17
import Derived.Test.YtfhkiaogfopigaaGreatDoorQ18
import Derived.Test.YtfhkiaogfopigaaGreatDoorQ15
import Derived.Test.YtfhkiaogfopigaaGreatDoorQ16
import Derived.Test.YtfhkiaogfopigaaGreatDoorQ9
import Derived.Test.YtfhkiaogfopigaaGreatDoorQ10
import Derived.Test.YtfhkiaogfopigaaGreatDoorQ11
import Derived.Test.YtfhkiaogfopigaaGreatDoorQ20
import Derived.Test.YtfhkiaogfopigaaGreatDoorQ21
import Derived.Test.YtfhkiaogfopigaaGreatDoorQ22
import Derived.Test.YtfhkiaogfopigaaGreatDoorQ23
import Derived.Test.YtfhkiaogfopigaaGreatDoorQ24
import Derived.Test.YtfhkiaogfopigaaGreatDoorQ25
import Derived.Test.YtfhkiaogfopigaaGreatDoorQ26
import Derived.Test.YtfhkiaogfopigaaGreatDoorQ27
import Derived.Test.YtfhkiaogfopigaaGreatDoorQ29
import Derived.Test.YtfhkiaogfopigaaGreatDoorQ30
import Derived.Test.YtfhkiaogfopigaaGreatDoorQ31
import Derived.Test.YtfhkiaogfopigaaGreatDoorQ33
import Derived.WalkKit
import Derived.ProofKit
import Derived.OpenShut
import Derived.ShutString
import Derived.ChangeOld
import Derived.Below
import Derived.LaidLaws
import Derived.LaidHandle
import Derived.Lay
import Derived.MakeChecks
import Derived.Lib.LaidTab
import Derived.Stop.Joined
import Derived.SevenTiedAt
namespace Go.Proofs.YtfhkiaogfopigaaGreatDoor.fnExactReadImage
open Go.ChangeShapes Go.WideShapes Go.ChangeAt Go.RowKit
open Go.ChangeMaps (open_string shut_string)
set_option linter.unusedVariables false

theorem own : ownKnob Tryz.prog.godebug = none := by kernel_rfl
theorem laidOut : laidOutB Tryz.prog = true := by kernel_rfl

/-! The walk: the law returns true and writes nothing that was there. -/
set_option maxHeartbeats 8000000 in
set_option maxRecDepth 1000000 in
theorem walk (a0 : ByteArray) (w : World) (w0 : a0.size ≤ maxLen) (hT : PowIs w) :
    Calls Tryz.prog 4 #[.string a0] w fun e w' => e = .returned (.bool true) ∧ Below w.heap.size w w' := by
  obtain ⟨l, rfl⟩ : ∃ l : List UInt8, a0 = ⟨l.toArray⟩ := ⟨a0.data.toList, by cases a0; simp⟩
  by_cases hb : 1048576 < (l.length : Int)
  · go_enter Tryz.func4, Tryz.ntmps4
    go_wp2
    go_ret
    exact ⟨rfl, Below.refl _ _⟩
  · have HS : Hid (_) := fun W : World => specReadImage l W
    have HI : Hid (_) := fun (W : World) (t : PowIs W) => implReadImage l W (by omega) t
    have HTW : Hid (∀ X, Below w.heap.size w X → PowIs X) := fun X hX => hT.below hX
    have hsm : (readIV l).length ≤ 64 ∧ ∀ r ∈ readIV l, r.2.2.length ≤ 200 := by
      rcases read_iv l with ⟨_, h, _⟩ | ⟨_, h⟩
      · exact ⟨(of_decide_eq_true h).2.2, fun r hr => (codeB_len (rtB_parts (image_rts h r hr)).2.2.1).2⟩
      · rw [h]; exact ⟨by simp, fun r hr => by simp at hr⟩
    unfold RiOut at HS
    obtain ⟨rs, hrs⟩ : ∃ rs, readIV l = rs := ⟨_, rfl⟩
    obtain ⟨ok, hok⟩ : ∃ ok, readIB l = ok := ⟨_, rfl⟩
    rw [hrs, hok] at HS HI
    rw [hrs] at hsm
    obtain ⟨h64, h200⟩ := hsm
    have H200 : Hid (∀ r ∈ rs, r.2.2.length ≤ 200) := h200
    have H200j : Hid (∀ j, (rs.getD j rt0).2.2.length ≤ 4194304) := fun j => by
      by_cases hj : j < rs.length
      · have hg : rs.getD j rt0 = rs[j] := by simp [List.getD, hj]
        rw [hg]; have := h200 _ (List.getElem_mem hj); omega
      · have hg : rs.getD j rt0 = rt0 := by simp [List.getD, hj]
        rw [hg]; simp [rt0]
    have hne : (ok != ok) = false := by simp
    clear hrs hok h200
    go_enter Tryz.func4, Tryz.ntmps4
    go_wp2_with fail
    refine Calls.mono (HS.out _) ?_
    rintro e w1 ⟨v1, xs1, rfl, hxs1, hof1, _, hb1⟩
    obtain ⟨a1, c1, rfl, _, hin1⟩ := hof1.in
    rw [hxs1] at hin1
    have hl1 : xs1.length = rs.length := hin1.1.symm
    rw [hl1] at hin1 ⊢
    obtain ⟨n, hn⟩ : ∃ n, rs.length = n := ⟨_, rfl⟩
    have HN : Hid (rs.length = n) := hn
    rw [hn] at hin1 h64 ⊢
    obtain ⟨A, hA0⟩ : ∃ A, w1.heap.size = A := ⟨_, rfl⟩
    obtain ⟨w2, hw2⟩ : ∃ W, w1.alloc (.cells #[.slice a1 n c1] 29) = W := ⟨_, rfl⟩
    have hb2 : Below w1.heap.size w1 w2 := by rw [← hw2]; exact (Below.refl _ _).alloc (Nat.le_refl _) _
    have hA2 := heap_alloc_new w1 (.cells #[.slice a1 n c1] 29)
    rw [hw2, hA0] at hA2
    have hAl : A < w2.heap.size := lt_of_block hA2
    have HA : Hid (∀ V, Below w2.heap.size w2 V → V.cell? ⟨A, 0, none⟩ = some (.slice a1 n c1) ∧ RtsIn V a1 n rs) := fun V h => ⟨(h.cell (p := ⟨A, 0, none⟩) hAl).trans (cell_of_one hA2), (hin1.below hb2).below h⟩
    have HB2 : Hid (Below w.heap.size w w2) := hb1.trans (hb2.mono hb1.size)
    have HAl : Hid (A < w2.heap.size) := hAl
    clear hb1 hb2 hin1 hof1 hxs1 hl1 hA2 hAl
    have f0 := (HA.out w2 (Below.refl _ _)).1
    go_wp2_with fail
    refine Calls.mono (HI.out _ (HTW.out _ HB2.out)) ?_
    rintro e w3 ⟨v3, xs3, rfl, hxs3, hof3, hap3, hb3⟩
    obtain ⟨a3, c3, rfl, _, hin3⟩ := hof3.in
    rw [hxs3] at hin3
    have hl3 : xs3.length = n := by rw [← hn]; exact hin3.1.symm
    have h203 : Hid (∀ x ∈ xs3, x.1.2.2.length ≤ 200) := fun x hx => H200.out _ (hxs3 ▸ List.mem_map_of_mem hx : x.1 ∈ rs)
    have hre : rend 1 xs3 ≤ 30000000 := by have := rend_small 1 xs3 h203.out; omega
    have HL3 : Hid (xs3.length = n) := hl3
    rw [hl3] at hin3 hof3 ⊢
    obtain ⟨B, hB0⟩ : ∃ B, w3.heap.size = B := ⟨_, rfl⟩
    obtain ⟨w4, hw4⟩ : ∃ W, w3.alloc (.cells #[.slice a3 n c3] 29) = W := ⟨_, rfl⟩
    have hb4 : Below w3.heap.size w3 w4 := by rw [← hw4]; exact (Below.refl _ _).alloc (Nat.le_refl _) _
    have hA4 := heap_alloc_new w3 (.cells #[.slice a3 n c3] 29)
    rw [hw4, hB0] at hA4
    have hPB : Hid (∀ k, RtBlocks (.slice a3 n c3) xs3 k → w2.heap.size ≤ k ∧ k < B) := by
      intro k hk
      rw [← hB0]
      rcases hk with e | ⟨x, hx, e⟩
      · exact hof3.row.lt k e
      · exact (hof3.trees x hx).lt k e
    have HC4 : Hid (Below w2.heap.size w2 w4) := hb3.trans (hb4.mono hb3.size)
    have HI4 : Hid (∀ V, Below w4.heap.size w4 V → V.heap[B]? = some (.cells #[.slice a3 n c3] 29) ∧ RtsOwn V w2.heap.size (.slice a3 n c3) xs3 ∧ RtsIn V a3 n rs) := fun V h => ⟨(h.block B (lt_of_block hA4)).trans hA4, (hof3.below hb4).below h, (hin3.below hb4).below h⟩
    have HAp : Hid (ApartR (xs3.map rvT)) := hap3
    clear hb3 hb4 hof3 hap3 hin3 hA4 hxs3 hl3 hn
    replace f0 := (HA.out w4 HC4.out).1
    have g0 : w4.cell? ⟨B, 0, none⟩ = some (.slice a3 n c3) := cell_of_one (HI4.out w4 (Below.refl _ _)).1
    go_wp2_with fail
    refine Calls.mono (eqImageC a3 a1 n c3 c1 rs _ (HI4.out w4 (Below.refl _ _)).2.2 (HA.out w4 HC4.out).2 (by omega) H200j.out) ?_
    rintro e w5 ⟨rfl, hb5⟩
    have HC5 : Hid (Below w2.heap.size w2 w5) := HC4.out.trans (hb5.mono HC4.out.size)
    obtain ⟨hB5, hO5, _⟩ := HI4.out w5 hb5
    replace f0 := (HA.out w5 HC5.out).1
    replace g0 : w5.cell? ⟨B, 0, none⟩ = some (.slice a3 n c3) := cell_of_one hB5
    have HMk : Hid (_) := markImageV w5 w2.heap.size 1 (.slice a3 n c3) xs3 (by have := HL3.out; omega) (by omega) hre (fun x hx => by have := h203.out x hx; omega) HAp.out hO5
    have HB5 : Hid (w5.heap[B]? = some (.cells #[.slice a3 n c3] 29)) := hB5
    have hge2 : ¬ ((rend 1 xs3 : Nat) : Int) < 0 := by omega
    clear hb5 hB5 hO5
    go_wp2_with fail
    refine Calls.mono HMk.out ?_
    rintro e w6 ⟨rfl, hof6, hw6⟩
    have HC6 : Hid (Below w2.heap.size w2 w6) := HC5.out.trans (hw6.below HC5.out.size (fun k e => (hPB.out k e).1))
    have HB6 : Hid (w6.heap[B]? = some (.cells #[.slice a3 n c3] 29)) := (hw6.block B (lt_of_block HB5.out) (fun e => by have := (hPB.out B e).2; omega)).trans HB5.out
    replace f0 := (HA.out w6 HC6.out).1
    replace g0 : w6.cell? ⟨B, 0, none⟩ = some (.slice a3 n c3) := cell_of_one HB6.out
    have HHd : Hid (∀ V, RtsOwn V w2.heap.size (.slice a3 n c3) (rmark 1 xs3) → _) := fun V h => heldImageV V w2.heap.size 1 (.slice a3 n c3) xs3 (by have := HL3.out; omega) (by omega) hre (fun x hx => by have := h203.out x hx; omega) (rmark_len 1 xs3) h
    have HO6 : Hid (RtsOwn w6 w2.heap.size (.slice a3 n c3) (rmark 1 xs3)) := hof6
    clear hw6 hof6 HMk hre
    generalize rend 1 xs3 = z at HHd hge2 ⊢
    have hzz : ((z : Int) != (z : Int)) = false := by simp
    go_wp2_with fail
    refine Calls.mono (HHd.out _ HO6.out) ?_
    rintro e w7 ⟨rfl, hg7⟩
    have HC7 : Hid (Below w2.heap.size w2 w7) := HC6.out.grown hg7 HC6.out.size (by simp)
    have HO7 : Hid (RtsOwn w7 w2.heap.size (.slice a3 n c3) (rmark 1 xs3)) := HO6.out.none hg7
    have HB7 : Hid (w7.heap[B]? = some (.cells #[.slice a3 n c3] 29)) := (hg7.block B (lt_of_block HB6.out) (by simp)).trans HB6.out
    replace f0 := (HA.out w7 HC7.out).1
    replace g0 : w7.cell? ⟨B, 0, none⟩ = some (.slice a3 n c3) := cell_of_one HB7.out
    clear hg7
    go_wp2_with fail
    refine Calls.mono (HI.out _ (HTW.out _ (HB2.out.trans (HC7.out.mono HB2.out.size)))) ?_
    rintro e w8 ⟨v8, xs8, rfl, hxs8, hof8, _, hb8⟩
    obtain ⟨a8, c8, rfl, _, hin8⟩ := hof8.in
    rw [hxs8] at hin8
    have hl8 : xs8.length = n := by rw [← HN.out]; exact hin8.1.symm
    rw [hl8] at hin8 ⊢
    obtain ⟨H, hH0⟩ : ∃ H, w8.heap.size = H := ⟨_, rfl⟩
    obtain ⟨w9, hw9⟩ : ∃ W, w8.alloc (.cells #[.slice a8 n c8] 29) = W := ⟨_, rfl⟩
    have hb9 : Below w8.heap.size w8 w9 := by rw [← hw9]; exact (Below.refl _ _).alloc (Nat.le_refl _) _
    have hA9 := heap_alloc_new w8 (.cells #[.slice a8 n c8] 29)
    rw [hw9, hH0] at hA9
    have hb79 : Below w7.heap.size w7 w9 := hb8.trans (hb9.mono hb8.size)
    have HC9 : Hid (Below w2.heap.size w2 w9) := HC7.out.trans (hb79.mono HC7.out.size)
    have HO9 : Hid (RtsOwn w9 w2.heap.size (.slice a3 n c3) (rmark 1 xs3)) := HO7.out.below hb79
    have HB9 : Hid (w9.heap[B]? = some (.cells #[.slice a3 n c3] 29)) := (hb79.block B (lt_of_block HB7.out)).trans HB7.out
    have HI9 : Hid (RtsIn w9 a8 n rs) := hin8.below hb9
    replace f0 := (HA.out w9 HC9.out).1
    replace g0 : w9.cell? ⟨B, 0, none⟩ = some (.slice a3 n c3) := cell_of_one HB9.out
    have h0 : w9.cell? ⟨H, 0, none⟩ = some (.slice a8 n c8) := cell_of_one hA9
    clear hb8 hb9 hb79 hof8 hin8 hxs8 hl8 hA9
    go_wp2_with fail
    refine Calls.mono (eqImageC a8 a1 n c8 c1 rs _ HI9.out (HA.out w9 HC9.out).2 (by omega) H200j.out) ?_
    rintro e w10 ⟨rfl, hb10⟩
    have HC10 : Hid (Below w2.heap.size w2 w10) := HC9.out.trans (hb10.mono HC9.out.size)
    have HO10 : Hid (RtsOwn w10 w2.heap.size (.slice a3 n c3) (rmark 1 xs3)) := HO9.out.below hb10
    replace g0 : w10.cell? ⟨B, 0, none⟩ = some (.slice a3 n c3) := cell_of_one ((hb10.block B (lt_of_block HB9.out)).trans HB9.out)
    clear hb10 f0 h0
    go_wp2_with fail
    refine Calls.mono (HHd.out _ HO10.out) ?_
    rintro e w11 ⟨rfl, hg11⟩
    have HC11 : Hid (Below w2.heap.size w2 w11) := HC10.out.grown hg11 HC10.out.size (by simp)
    clear hg11
    go_wp2
    go_ret
    exact ⟨rfl, HB2.out.trans (HC11.out.mono HB2.out.size)⟩

/-- What the listed variables give the walk: the table of powers of ten. -/
theorem pow_of_laid {W : World} (h : laidMetH Tryz.prog Rows.fnExactReadImageRow.laid W) : PowIs W := by
  rw [MakeChecks.laidMetH_plain _ _ _ (by kernel_rfl)] at h
  obtain ⟨ps, ⟨g0, t0, cs0, f0, p0, q0, hg0, ht0, hv0, hd0, ⟨g1, t1, cs1, f1, p1, q1, hg1, ht1, hv1, hd1, ⟨g2, t2, cs2, f2, p2, q2, hg2, ht2, hv2, hd2, _, _⟩, _⟩, _⟩, _, _⟩ := h
  obtain ⟨g, hg⟩ := Option.isSome_iff_exists.1 powAt
  obtain rfl := Option.some.inj (hg.symm.trans hg2)
  exact pow_of_cells hg ht2 hv2 hd2

set_option maxRecDepth 100000 in
theorem lifted (os : Os) (started : os.Started) (H : Type) (enc : TypeId × Value → H) :
    ReturnsInHanded {} Tryz.checked os 4 .any (fun w args => (Rows.fnExactReadImageSpec.pre enc Tryz.prog Tryz.f4 [] false w args ∧ laidMetH Tryz.prog Rows.fnExactReadImageRow.laid w) ∧ sizedMet enc Tryz.prog Tryz.f4 (OpenSpec.ofChange Rows.fnExactReadImageSpec) false w args)
      (Rows.fnExactReadImageSpec.post enc Tryz.prog Tryz.f4 false true false false) := by
  refine returnsInHanded_of_change_and (C := Tryz.checked) (X := fun w _ => laidMetH Tryz.prog Rows.fnExactReadImageRow.laid w) (fun _ _ _ hh h => h.of_heap hh) own started (by kernel_rfl) Tryz.func4
    (ChangeSpec.witness_shaped (enc := enc) (C := Tryz.checked) (os := os) (X := fun w _ => laidMetH Tryz.prog Rows.fnExactReadImageRow.laid w) false (World.laidAll Tryz.prog os Rows.fnExactReadImageRow.laid) #[.string ByteArray.empty] 8 (World.laidAll_os _ _ _)
      (World.shaped_of_ZipB (by kernel_rfl) (by kernel_rfl)) (by kernel_rfl) (by kernel_rfl) (by kernel_rfl)
      (by rw [MakeChecks.laidMetH_plain _ _ _ (by kernel_rfl)]; exact laidMet_laidAll _ (by kernel_rfl) (by kernel_rfl))) ?_
  intro W base args ds gs before hval0 hW _ _ hL _
  have hval : ∀ (j : Nat) t v, Tryz.f4.params[j]? = some t → args[j]? = some v → Value.okWide Tryz.prog W .any base t v := hval0
  have hW' := hW
  obtain ⟨p, q, hA0, hV, rfl, hfz, hnd⟩ := hW
  have hA : DataW.TrodAll enc Tryz.prog W 0 (fun _ => true) true Tryz.f4.params.toList args.toList ds p := hA0
  rw [Tryz.params4] at hA hval
  obtain ⟨v0, vs0, d0, ds0, p0, q0, hargs, rfl, rfl, h0, r0⟩ := trodAll_cons hA
  obtain ⟨rfl, rfl, rfl⟩ := trodAll_nil r0
  obtain rfl : args = #[v0] := by cases args; simp_all
  obtain ⟨rfl, rfl⟩ := trodVars_none hV
  have k0 := h0
  have lt0 : ∀ x ∈ p0, x.block < W.heap.size := by obtain ⟨m, hm⟩ := k0; exact DataW.trod_lt m _ _ _ hm
  obtain ⟨a0, rfl, _, _, w0⟩ := open_string Tryz.underlying9 (hval 0 9 v0 rfl rfl) h0
  clear hA0 hval0
  refine (walk a0 W w0 (pow_of_laid hL)).mono fun e W' ⟨he, bel⟩ => ?_
  subst he
  exact ⟨_, rfl, _, _, _, [], _, [], hW', trodAll_mk1 (shut_bool Tryz.underlying4 _), (trodAll_cons_mk (Below.trod laidOut (by kernel_rfl) (of_decide_eq_true (by kernel_rfl)) k0 bel lt0) trodAll_mk0), rfl, bel.frame _, fun h => by cases h⟩

theorem over : Rows.fnExactReadImageRow.holds Tryz.pinned (OpenSpec.ofChange Rows.fnExactReadImageSpec) :=
  OpenClaim.holds_of_wide 4 Tryz.f4 rfl rfl rfl rfl rfl rfl rfl ⟨rfl, rfl, rfl, rfl, rfl⟩ rfl rfl rfl rfl rfl (by kernel_rfl) Tryz.func4 (by kernel_rfl)
    (of_decide_eq_true (by kernel_rfl)) (by unfold Func.isWrapper; first | (rw [if_pos (by decide +kernel)]; kernel_rfl) | (rw [if_neg (by decide +kernel)]; exact ⟨rfl, rfl⟩))
    (fun os started H enc _ => lifted os started H enc)

/-- The tied card. -/
theorem proved : Rows.FnExactReadImageCardSaid :=
  Claim7.holds_tied_plain_at .later [] [.data, .data, .data] true (true, "9b7f67dbf5a656725ea1351e348513867f995f6ad522b67d4b45a20307b92c6b") false
    over (fun _ h => by cases h) (by kernel_rfl) (fun _ h => by cases h) fnExactReadImage_row_tie rfl ⟨rfl, rfl⟩ (by kernel_rfl) rfl
    (fun f fn hf hfn => by
      obtain rfl : f = 4 := Option.some.inj ((show Tryz.prog.funcNamed Rows.fnExactReadImageRow.func = some 4 by kernel_rfl).symm.trans hf) |>.symm
      obtain rfl : fn = Tryz.f4 := (Option.some.inj (Tryz.func4.symm.trans hfn)).symm
      exact ⟨by kernel_rfl, fun j t ht => by
        rw [Tryz.params4] at ht
        have hm : t ∈ [9] := by simpa using Array.mem_of_getElem? ht
        have hall : ([9].all fun u => !Tryz.prog.wantsStandIn u) = true := by kernel_rfl
        exact (show Tryz.prog.wantsStandIn t = false by simpa using List.all_eq_true.1 hall t hm)⟩)
    (by kernel_rfl)
#print axioms proved
end Go.Proofs.YtfhkiaogfopigaaGreatDoor.fnExactReadImage
