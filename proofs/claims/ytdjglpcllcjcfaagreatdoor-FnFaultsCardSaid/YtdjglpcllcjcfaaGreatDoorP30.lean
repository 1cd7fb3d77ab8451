/-
  Parts of one proof, one behind the other: CheckS4, FltI, FltJ, HeapJ.
-/
import Derived.Test.YtdjglpcllcjcfaaGreatDoorP29
import Derived.Test.YtdjglpcllcjcfaaGreatDoorP3
import Derived.Test.YtdjglpcllcjcfaaGreatDoorP4
import Derived.Test.YtdjglpcllcjcfaaGreatDoorP28
import Derived.Deep.RegionHeld3
import Derived.Test.YtdjglpcllcjcfaaGreatDoorP27

/-! The contracts of chapter 9's specification: FaultOf, Exports. -/
namespace Go.Proofs.YtdjglpcllcjcfaaGreatDoor
open Go.RowKit

set_option maxHeartbeats 2000000 in
set_option maxRecDepth 100000 in
theorem specFaultOf (a : Option Addr) (len cap : Nat) (ps : List Pk) (w : World) (hl : PkgsIn w a len ps) (hlen : len ≤ 1048576) (hsh : ShortPs ps) :
    Calls Tryz.prog 10 #[.slice a len cap] w fun e w' => e = .returned (fltVal (faultV ps)) ∧ Below w.heap.size w w' := by
  obtain ⟨fb, hb0⟩ := FBox.new w 27
  obtain ⟨W0, hW0⟩ : ∃ W0, w.alloc (.cells #[.int .i64 0, .string ⟨#[]⟩, .string ⟨#[]⟩] 27) = W0 := ⟨_, rfl⟩
  rw [hW0] at fb hb0
  have HP0 : Hid (PkgsIn W0 a len ps) := hl.below hb0
  have HF0 : Hid (FBox W0 w.heap.size) := fb
  have HB0 : Hid (Below w.heap.size w W0) := hb0
  have HSH : Hid (ShortPs ps) := hsh
  have HPr : Hid (_) := specProjectOk a len cap ps W0 HP0.out hlen hsh
  clear fb hb0 hl hsh
  rcases hp : projB ps with _ | _
  · have HR : Hid (faultV ps = (6, [], [])) := by exact (by unfold faultV; rw [if_neg (by rw [hp]; simp)] : faultV ps = (6, [], []))
    rw [hp] at HPr
    clear hp
    go_enter Tryz.func10, Tryz.ntmps10
    go_wp2_with fail
    refine Calls.mono HPr.out ?_
    rintro e w1 ⟨rfl, hb1⟩
    have hfb := HF0.out.below hb1
    have hbw := HB0.out.trans (hb1.mono HB0.out.size)
    have f0 := hfb.1.c0
    have f1 := hfb.1.c1
    have f2 := hfb.1.c2
    have z0 := hfb.2 0
    have z1 := hfb.2 1
    have z2 := hfb.2 2
    obtain ⟨Y, hY, y0, y1, y2, hbY⟩ := hfb.put hbw (Nat.le_refl _) (6, [], [])
    simp only at hY y0 y1 y2
    have HE : Hid (Below w.heap.size w Y) := hbY
    clear hfb hbw hbY hb1
    go_wp2
    refine bodyPost_ret (v := fltVal (6, [], [])) (by unfold fltVal; simp [results, Tryz.results10, go_sem, y0, y1, y2]) rfl ?_
    exact ⟨by rw [HR.out], HE.out⟩
  · have HR : Hid (faultV ps = fault9 ps) := by exact (by unfold faultV; rw [if_pos hp] : faultV ps = fault9 ps)
    rw [hp] at HPr
    go_enter Tryz.func10, Tryz.ntmps10
    go_wp2_with fail
    refine Calls.mono HPr.out ?_
    rintro e w1 ⟨rfl, hb1⟩
    have HP1 : Hid (PkgsIn w1 a len ps) := HP0.out.below hb1
    have HF1 : Hid (FBox w1 w.heap.size) := HF0.out.below hb1
    have HB1 : Hid (Below w.heap.size w w1) := HB0.out.trans (hb1.mono HB0.out.size)
    have HFl : Hid (_) := specFault9 a len cap ps w1 HP1.out HSH.out hp
    obtain ⟨f, hf⟩ : ∃ f, fault9 ps = f := ⟨_, rfl⟩
    rw [hf] at HR HFl
    clear hp hb1 hf
    go_wp2_with fail
    refine Calls.mono HFl.out ?_
    rintro e w2 ⟨rfl, hb2⟩
    have hfb := HF1.out.below hb2
    have hbw := HB1.out.trans (hb2.mono HB1.out.size)
    have f0 := hfb.1.c0
    have f1 := hfb.1.c1
    have f2 := hfb.1.c2
    have z0 := hfb.2 0
    have z1 := hfb.2 1
    have z2 := hfb.2 2
    obtain ⟨Y, hY, y0, y1, y2, hbY⟩ := hfb.put hbw (Nat.le_refl _) f
    have HE : Hid (Below w.heap.size w Y) := hbY
    unfold fltVal
    clear hfb hbw hbY hb2 HFl
    go_wp2
    refine bodyPost_ret (v := fltVal f) (by unfold fltVal; simp [results, Tryz.results10, go_sem, y0, y1, y2]) rfl ?_
    exact ⟨by rw [HR.out], HE.out⟩

theorem exp_take (fs : List Fn) {k : Nat} (hk : k < fs.length) : exports9 (fs.take (k + 1)) = exports9 (fs.take k) ++ [exp9 (fs.getD k fn0)] := by
  unfold exports9
  rw [List.take_succ_eq_append_getElem hk, List.map_append]
  simp [List.getD, hk]
theorem exportsV_len (p : Pk) : (exportsV p).length ≤ 8 := by
  unfold exportsV
  split
  · rename_i h
    have := (pkgB_parts h).2.2.2.1.2
    unfold exports9
    rw [List.length_map]
    exact this
  · simp
set_option maxHeartbeats 8000000 in
set_option maxRecDepth 100000 in
theorem specExports (nm : List UInt8) (ia : Option Addr) (il ic : Nat) (fa : Option Addr) (fl fc : Nat) (ims : List (List UInt8)) (fs : List Fn) (w : World) (hi : TextsIn w ia il ims) (hf : FuncsIn w fa fl fs) (hil : il ≤ 1048576) (hfl : fl ≤ 1048576) (hnl : nm.length ≤ 1048576) (his : ∀ i, (ims.getD i []).length ≤ 1048576) (hfs : ShortF fs) :
    Calls Tryz.prog 12 #[.agg #[.string ⟨nm.toArray⟩, .slice ia il ic, .slice fa fl fc]] w fun e w' => ∃ v, e = .returned v ∧ w'.ownsRow w.heap.size 9 1 v (exportsV (nm, ims, fs)).length (strV (exportsV (nm, ims, fs))) ∧ Below w.heap.size w w' := by
  obtain rfl : fs.length = fl := hf.1
  obtain ⟨bx, hbx⟩ := Box3.new w (.string ⟨nm.toArray⟩) (.slice ia il ic) (.slice fa fs.length fc) 32
  obtain ⟨W1, hW1⟩ : ∃ W1, w.alloc (.cells #[.string ⟨nm.toArray⟩, .slice ia il ic, .slice fa fs.length fc] 32) = W1 := ⟨_, rfl⟩
  have hs1 : W1.heap.size = w.heap.size + 1 := by rw [← hW1]; simp
  rw [hW1] at bx hbx
  have hO0 := World.ownsRow_lit (base := W1.heap.size) (e := 9) (size := 1) W1 #[] 0 (Nat.le_refl _) (by decide) rfl
  have hb2 : Below W1.heap.size W1 (W1.alloc (.cells #[] 9)) := (Below.refl _ _).alloc (Nat.le_refl _) _
  obtain ⟨W2, hW2⟩ : ∃ W2, W1.alloc (.cells #[] 9) = W2 := ⟨_, rfl⟩
  rw [hW2] at hO0 hb2
  have hbw : Below w.heap.size w W2 := hbx.trans (hb2.mono (by omega))
  have p0 := (bx.below hb2).c0
  have p1 := (bx.below hb2).c1
  have p2 := (bx.below hb2).c2
  have HPk : Hid (_) := specPackageOk nm ia il ic fa fs.length fc ims fs W2 (hi.below hbw) (hf.below hbw) hil hfl hnl his hfs
  have HZ : Hid (∀ Z, Below W1.heap.size W1 Z → Box3 Z w.heap.size (.string ⟨nm.toArray⟩) (.slice ia il ic) (.slice fa fs.length fc) ∧ FuncsIn Z fa fs.length fs ∧ Below w.heap.size w Z) := fun Z hz => ⟨bx.below hz, (hf.below hbx).below hz, hbx.trans (hz.mono hbx.size)⟩
  have HB2 : Hid (Below W1.heap.size W1 W2) := hb2
  have HO2 : Hid (W2.ownsRow W1.heap.size 9 1 (.slice (some ⟨W1.heap.size, 0, none⟩) 0 0) 0 (strV [])) := hO0
  clear bx hbx hO0 hb2 hbw hi hf
  rcases hp : pkgB (nm, ims, fs) with _ | _
  · have HE : Hid (exportsV (nm, ims, fs) = []) := by exact (by unfold exportsV; rw [if_neg (by rw [hp]; simp)] : exportsV (nm, ims, fs) = [])
    rw [hp] at HPk
    clear hp
    go_enter Tryz.func12, Tryz.ntmps12
    go_wp2_with fail
    refine Calls.mono HPk.out ?_
    rintro e w3 ⟨rfl, hb3⟩
    have HR : Hid (w3.ownsRow W1.heap.size 9 1 (.slice (some ⟨W1.heap.size, 0, none⟩) 0 0) 0 (strV []) ∧ Below w.heap.size w w3) := ⟨own_below HO2.out hb3, (HZ.out w3 (HB2.out.trans (hb3.mono HB2.out.size))).2.2⟩
    have HW1 : Hid (w.heap.size ≤ W1.heap.size) := by exact (by omega : w.heap.size ≤ W1.heap.size)
    clear hb3
    go_wp2
    go_ret
    exact ⟨_, rfl, by rw [HE.out]; have h1 := own_base HR.out.1 HW1.out; rw [hs1] at h1; exact h1, HR.out.2⟩
  · have HE : Hid (exportsV (nm, ims, fs) = exports9 fs) := by exact (by unfold exportsV; rw [if_pos hp] : exportsV (nm, ims, fs) = exports9 fs)
    have HSm : Hid (∀ k, k < fs.length → (fs.getD k fn0).1.length ≤ 8 ∧ 0 ≤ (fs.getD k fn0).2.1 ∧ (fs.getD k fn0).2.1 ≤ 3) := fun k hk => by
      have h1 := (pkgB_parts hp).2.2.2.2 (fs.getD k fn0) (by simp [List.getD, hk])
      unfold funcB inB at h1
      rw [Bool.and_eq_true, Bool.and_eq_true, decide_eq_true_eq] at h1
      exact ⟨(name_letters h1.1).1.2, h1.2.1.1, h1.2.1.2⟩
    have hf8 : fs.length ≤ 8 := (pkgB_parts hp).2.2.2.1.2
    rw [hp] at HPk
    clear hp
    go_enter Tryz.func12, Tryz.ntmps12
    go_wp2_with fail
    refine Calls.mono HPk.out ?_
    rintro e w3 ⟨rfl, hb3⟩
    have HO3 : Hid (w3.ownsRow W1.heap.size 9 1 (.slice (some ⟨W1.heap.size, 0, none⟩) 0 0) 0 (strV (exports9 (fs.take 0)))) := own_below HO2.out hb3
    have HB3 : Hid (Below W1.heap.size W1 w3) := HB2.out.trans (hb3.mono HB2.out.size)
    have hO3 := HO3.out
    rw [hs1] at hO3
    have HO4 : Hid (w3.ownsRow (w.heap.size + 1) 9 1 (.slice (some ⟨w.heap.size + 1, 0, none⟩) 0 0) 0 (strV (exports9 (fs.take 0)))) := hO3
    clear hb3 HB2 HO2 HPk p0 p1 p2 HO3 hO3
    go_wp2
    go_loopw [3, 4] (fun ov iv wr => ∃ (k : Nat) (oa : Option Addr) (oc : Nat), ov = .slice oa k oc ∧ iv = .int .i64 (k : Int) ∧ k ≤ fs.length ∧ Hid (wr.ownsRow (w.heap.size + 1) 9 1 (.slice oa k oc) k (strV (exports9 (fs.take k)))) ∧ Hid (Below W1.heap.size W1 wr)) (fun _ iv _ => fs.length - (intOf iv).toNat)
    case atStart => exact ⟨0, _, 0, rfl, rfl, by omega, HO4, HB3⟩
    case round =>
      obtain ⟨k, oa, oc, rfl, rfl, hk, HO, HB⟩ := hrel
      clear HO4 HB3
      obtain ⟨bx, hfi, hbw⟩ := HZ.out wr HB.out
      have p2 := bx.c2
      by_cases hlt : (k : Int) < (fs.length : Int)
      · have hk2 : k < fs.length := by omega
        obtain ⟨b, off, rfl, hbl, c0, c1, _⟩ := hfi.2 k hk2
        have het := exp_take fs hk2
        obtain ⟨hs8, hA0, hA3⟩ := HSm.out k hk2
        obtain ⟨f, hfe⟩ : ∃ f, fs.getD k fn0 = f := ⟨_, rfl⟩
        rw [hfe] at c0 c1 het hs8 hA0 hA3
        obtain ⟨x, A, tt⟩ := f
        simp only at c0 c1 hs8 hA0 hA3
        have HET : Hid (exports9 (fs.take (k + 1)) = exports9 (fs.take k) ++ [x ++ 47 :: intL A]) := by exact (by rw [het]; simp [exp9] : exports9 (fs.take (k + 1)) = exports9 (fs.take k) ++ [x ++ 47 :: intL A])
        have hil4 : (intL A).length ≤ 11 := intL_short A (by omega) (by omega)
        have e1 : ∀ W : World, (Op.stringOp .add ⟨x.toArray⟩ ⟨#[47]⟩).run Tryz.prog W = .ok (.string ⟨(x ++ [47]).toArray⟩) W := fun W => by
          have := run_string_add_lists (P := Tryz.prog) W x [47] (by omega) (by simp)
          simpa using this
        have e2 : ∀ W : World, (Op.stringOp .add ⟨(x ++ [47]).toArray⟩ ⟨(intL A).toArray⟩).run Tryz.prog W = .ok (.string ⟨(x ++ 47 :: intL A).toArray⟩) W := fun W => by
          have := run_string_add_lists (P := Tryz.prog) W (x ++ [47]) (intL A) (by simp; omega) (by omega)
          simpa using this
        have hbl2 : w.heap.size < wr.heap.size := bx.lt
        clear hfi hbw bx het hfe
        go_wp2_with fail
        go_region_law (first | (refine step_append_run (by rfl) (.tmp 17) (.tmp 33) 29 (by rfl) _ _ _ (by rfl) (by rfl) hr ?_) | (go_simp; go_at_call 31; refine (specInt A _ (by omega) (by omega)).mono ?_; rintro e w5 ⟨rfl, hb5⟩; have hb5' : Below wr.heap.size wr w5 := ⟨hb5.os, hb5.tape, hb5.output, hb5.size, hb5.block⟩; have p25 := (hb5'.cell (p := ⟨w.heap.size, 2, none⟩) hbl2).trans p2; have c05 := (hb5'.cell (p := ⟨b, off + k * 3, none⟩) hbl).trans c0; have c15 := (hb5'.cell (p := ⟨b, off + k * 3 + 1, none⟩) hbl).trans c1; have hO5 := own_below HO.out hb5'; have hB5 := HB.out.trans (hb5'.mono HB.out.size); have hbs5 : w.heap.size + 1 ≤ w5.heap.size := (by have := hB5.size; omega); obtain ⟨v', Y, hr, ho, hg⟩ := push_text (x ++ 47 :: intL A) hO5 hbs5 (by omega); rw [← HET.out] at ho; obtain ⟨g', c', rfl⟩ := own_some ho (by omega); have HOY : Hid (Y.ownsRow (w.heap.size + 1) 9 1 (.slice (some ⟨g', 0, none⟩) (k + 1) c') (k + 1) (strV (exports9 (fs.take (k + 1))))) := ho; have HBY : Hid (Below W1.heap.size W1 Y) := hB5.grown hg hB5.size (fun q e => (by have := (hO5.lt q e).1; omega)); clear ho hg hO5 hB5 hb5 hb5'; dsimp only))
        all_goals
          go_wp2
          go_roundw
          case rel => exact ⟨k + 1, _, c', rfl, by go_num, by omega, HOY, HBY⟩
          case measure => simp [intOf]; omega
      · have HR : Hid (wr.ownsRow w.heap.size 9 1 (.slice oa k oc) (exports9 fs).length (strV (exports9 fs))) := by
          have h1 := own_base HO.out (show w.heap.size ≤ w.heap.size + 1 by omega)
          rw [show fs.take k = fs from List.take_of_length_le (by omega)] at h1
          rw [show (exports9 fs).length = k by unfold exports9; rw [List.length_map]; omega]
          exact h1
        have HE2 : Hid (Below w.heap.size w wr) := hbw
        clear hfi hbw bx
        go_wp2
        go_ret
        exact ⟨_, rfl, by rw [HE.out]; exact HR.out, HE2.out⟩

end Go.Proofs.YtdjglpcllcjcfaaGreatDoor

/-! The contracts of chapter 9's landed code: what is wrong in a function, in a package. -/
namespace Go.Proofs.YtdjglpcllcjcfaaGreatDoor
open Go.RowKit

/-- The error that a fault's code is told by. -/
def KindIs (c : Int) (k : Nat) : Prop := (c = 1 ∧ k = 4) ∨ (c = 2 ∧ k = 5) ∨ (c = 3 ∧ k = 6) ∨ (c = 4 ∧ 1 ≤ k ∧ k ≤ 3) ∨ (c = 5 ∧ k = 7)
/-- What is wrong in a function: nothing, or an error of that kind. -/
def FwIs (er : Nat → Addr) (v : Value) (c : Int) : Prop := (c = 0 ∧ v = .nilIface) ∨ ∃ k, KindIs c k ∧ v = .iface 215 (.pointer (some (er k)))
def ArgsIs (er : Nat → Addr) (v : Value) (f : Fn) : Prop := ((∃ n ∈ f.2.2, arg9 f n) ∧ v = .iface 215 (.pointer (some (er 6)))) ∨ ((∀ n ∈ f.2.2, ¬ arg9 f n) ∧ v = .nilIface)
theorem mem_nd {t : List Nd} {j : Nat} (hj : j < t.length) : t.getD j nd0 ∈ t := by simp [List.getD, hj]
theorem all_nd {t : List Nd} {P : Nd → Prop} (h : ∀ m, m < t.length → P (t.getD m nd0)) : ∀ n ∈ t, P n := fun n hn => by
  obtain ⟨i, hi, e⟩ := List.mem_iff_getElem.1 hn
  have := h i hi
  simp only [List.getD, hi, List.getElem?_eq_getElem, Option.getD_some] at this
  rw [e] at this
  exact this

set_option maxHeartbeats 4000000 in
set_option maxRecDepth 100000 in
theorem implArgsWrong (f : Fn) (ta : Option Addr) (tl tc : Nat) (er : Nat → Addr) (w : World) (hE : Err8 w er) (hin : NodesIn w ta tl f.2.2) (hlen : tl ≤ 1048576) :
    Calls Tryz.prog 118 #[.agg #[.string ⟨f.1.toArray⟩, .int .i64 f.2.1, .slice ta tl tc]] w fun e w' => ∃ v, e = .returned v ∧ ArgsIs er v f ∧ Below w.heap.size w w' := by
  obtain ⟨nm, A, t⟩ := f
  simp only at hin ⊢
  obtain rfl : t.length = tl := hin.1
  obtain ⟨bx, hbx⟩ := Box3.new w (.string ⟨nm.toArray⟩) (.int .i64 A) (.slice ta t.length tc) 42
  obtain ⟨W, hW⟩ : ∃ W, w.alloc (.cells #[.string ⟨nm.toArray⟩, .int .i64 A, .slice ta t.length tc] 42) = W := ⟨_, rfl⟩
  obtain ⟨D, hD⟩ : ∃ D, w.heap.size = D := ⟨_, rfl⟩
  rw [hW] at bx hbx
  rw [hD] at bx
  have HZ : Hid (∀ Z, Below W.heap.size W Z → Box3 Z D (.string ⟨nm.toArray⟩) (.int .i64 A) (.slice ta t.length tc) ∧ NodesIn Z ta t.length t ∧ Err8 Z er ∧ Below w.heap.size w Z) := fun Z hz => ⟨bx.below hz, (hin.below hbx).below hz, (hE.below hbx).below hz, hbx.trans (hz.mono hbx.size)⟩
  have d2 := bx.c2
  have HB0 : Hid (Below W.heap.size W W) := Below.refl _ _
  clear bx hbx hin hE
  go_enter Tryz.func118, Tryz.ntmps118
  go_wp2
  go_loopw [8] (fun iv wr => ∃ j : Nat, iv = .int .i64 (j : Int) ∧ j ≤ t.length ∧ Hid (∀ m, m < j → ¬ arg9 (nm, A, t) (t.getD m nd0)) ∧ Hid (Below W.heap.size W wr)) (fun iv _ => t.length - (intOf iv).toNat)
  case atStart => exact ⟨0, rfl, by omega, (fun m hm => absurd hm (Nat.not_lt_zero _)), HB0⟩
  case round =>
    obtain ⟨j, rfl, hj, HA, HB⟩ := hrel
    clear HB0 d2
    obtain ⟨bx, hin, hE, hbw⟩ := HZ.out wr HB.out
    by_cases hlt : (j : Int) < (t.length : Int)
    · have hj2 : j < t.length := by omega
      obtain ⟨b, off, rfl, hbl, c0, c1, c2, c3⟩ := hin.2 j hj2
      have hmem := mem_nd hj2
      obtain ⟨n, hn⟩ : ∃ n, t.getD j nd0 = n := ⟨_, rfl⟩
      have HN : Hid (t.getD j nd0 = n) := hn
      rw [hn] at c0 c1 c2 c3 hmem
      obtain ⟨k, nA, np, nf⟩ := n
      simp only at c0 c1 c2 c3
      obtain ⟨⟨n0, n1, n2, n3⟩, hbg⟩ := node_new wr (.int .i64 k) (.int .i64 nA) (.string ⟨np.toArray⟩) (.string ⟨nf.toArray⟩) 44
      obtain ⟨X, hX⟩ : ∃ X, wr.alloc (.cells #[.int .i64 k, .int .i64 nA, .string ⟨np.toArray⟩, .string ⟨nf.toArray⟩] 44) = X := ⟨_, rfl⟩
      obtain ⟨G, hG⟩ : ∃ G, wr.heap.size = G := ⟨_, rfl⟩
      rw [hX] at n0 n1 n2 n3 hbg
      rw [hG] at n0 n1 n2 n3
      have HBX : Hid (Below W.heap.size W X) := HB.out.trans (hbg.mono HB.out.size)
      have d1 := (HZ.out X HBX.out).1.c1
      have ga := (HZ.out X HBX.out).2.2.1.arg
      unfold sentV at ga
      have HBW : Hid (Below w.heap.size w X) := (HZ.out X HBX.out).2.2.2
      clear bx hin hE hbw hbg hn HB
      by_cases hk : k = 2
      · subst hk
        have hkb : ((2 : Int) == 2) = true := rfl
        by_cases hA : A ≤ nA
        · have HR : Hid (∃ n ∈ t, arg9 (nm, A, t) n) := ⟨_, hmem, rfl, hA⟩
          clear HA hmem
          go_wp2
          go_ret
          exact ⟨_, rfl, Or.inl ⟨HR.out, rfl⟩, HBW.out⟩
        · have HR : Hid (∀ m, m < j + 1 → ¬ arg9 (nm, A, t) (t.getD m nd0)) := fun m hm => by
            rcases Nat.lt_or_ge m j with h | h
            · exact HA.out m h
            · obtain rfl : m = j := by omega
              rw [HN.out]
              exact fun h => hA h.2
          clear HA hmem
          go_wp2
          go_roundw
          case rel => exact ⟨j + 1, by go_num, by omega, HR, HBX⟩
          case measure => simp [intOf]; omega
      · have hkb : (k == 2) = false := beq_eq_false_iff_ne.2 hk
        have HR : Hid (∀ m, m < j + 1 → ¬ arg9 (nm, A, t) (t.getD m nd0)) := fun m hm => by
          rcases Nat.lt_or_ge m j with h | h
          · exact HA.out m h
          · obtain rfl : m = j := by omega
            rw [HN.out]
            exact fun h => hk h.1
        clear HA hmem
        go_wp2
        go_roundw
        case rel => exact ⟨j + 1, by go_num, by omega, HR, HBX⟩
        case measure => simp [intOf]; omega
    · have HR : Hid (∀ n ∈ t, ¬ arg9 (nm, A, t) n) := all_nd (fun m hm => HA.out m (by omega))
      have HBW : Hid (Below w.heap.size w wr) := hbw
      clear bx hin hE hbw HA
      go_wp2
      go_ret
      exact ⟨_, rfl, Or.inr ⟨HR.out, rfl⟩, by first | exact HBW.out | (rw [← hD]; exact HBW.out)⟩

set_option maxHeartbeats 8000000 in
set_option maxRecDepth 100000 in
theorem implFuncWrong (a : Option Addr) (len cap : Nat) (ps : List Pk) (f i : Nat) (er : Nat → Addr) (w : World) (hE : Err8 w er) (h : PkgsOk w a len cap ps) (hf : f < len) (hi : i < (ps.getD f pk0).2.2.length) :
    Calls Tryz.prog 89 #[.slice a len cap, .int .i64 (f : Int), .int .i64 (i : Int)] w fun e w' => ∃ v, e = .returned v ∧ FwIs er v (func9 ps (ps.getD f pk0) i) ∧ Below w.heap.size w w' := by
  obtain rfl : ps.length = len := h.hlen
  have hways := func9_ways ps (ps.getD f pk0) i
  have HCW : Hid (∀ (Z : World) (n : Nd), PkgsOk Z a ps.length cap ps → Err4 Z er → Calls Tryz.prog 70 #[.slice a ps.length cap, .int .i64 (f : Int), .int .i64 (i : Int), nodeVal n] Z fun e w' => e = .returned (cwV er (call9 ps (ps.getD f pk0) (i : Int) n)) ∧ Below Z.heap.size Z w') := fun Z n h1 h2 => implCallWrong a ps.length cap ps f i n er Z h1 h2 hf (Nat.le_of_lt hi)
  have HBad : Hid (∀ n : Nd, bad9 ps (ps.getD f pk0) i n ↔ n.1 = 8 ∧ call9 ps (ps.getD f pk0) (i : Int) n ≠ 0) := fun n => Iff.rfl
  have HBd : Hid (∀ n : Nd, 0 ≤ call9 ps (ps.getD f pk0) (i : Int) n ∧ call9 ps (ps.getD f pk0) (i : Int) n ≤ 3) := fun n => call9_bd ps (ps.getD f pk0) (i : Int) n
  obtain ⟨b, off, rfl, hbl, c0, ia, il, ic, fa, fl, fc, c1, c2, hpk⟩ := h.each f hf
  have hfl : (ps.getD f pk0).2.2.length = fl := hpk.f.1
  obtain ⟨b2, o2, rfl, hb2, r0, r1, ta, tl, tc, r2, _, hnd⟩ := hpk.f.2 i (by omega)
  have hflb := hpk.fl
  have htl : tl ≤ 1048576 := by have := (hpk.fs i).2.1; have := hnd.1; omega
  have hsm := h.small
  have hf2 : (f : Int) < (ps.length : Int) := by omega
  have hi2 : (i : Int) < (fl : Int) := by omega
  obtain ⟨F9v, hF9⟩ : ∃ c, func9 ps (ps.getD f pk0) i = c := ⟨_, rfl⟩
  rw [hF9] at hways ⊢
  generalize hB9 : bad9 ps (ps.getD f pk0) i = Bad at hways HBad
  obtain ⟨g, hg⟩ : ∃ g, (ps.getD f pk0).2.2.getD i fn0 = g := ⟨_, rfl⟩
  rw [hg] at r0 r1 hnd hways
  clear hg hF9 hfl hpk c0 c1 hi hB9
  obtain ⟨gn, gA, t⟩ := g
  simp only at r0 r1 hnd hways
  obtain rfl : t.length = tl := hnd.1
  obtain ⟨bx, hbx⟩ := Box3.new w (.string ⟨gn.toArray⟩) (.int .i64 gA) (.slice ta t.length tc) 42
  obtain ⟨W, hW⟩ : ∃ W, w.alloc (.cells #[.string ⟨gn.toArray⟩, .int .i64 gA, .slice ta t.length tc] 42) = W := ⟨_, rfl⟩
  obtain ⟨D, hD⟩ : ∃ D, w.heap.size = D := ⟨_, rfl⟩
  rw [hW] at bx hbx
  rw [hD] at bx
  have HZ : Hid (∀ Z, Below W.heap.size W Z → Box3 Z D (.string ⟨gn.toArray⟩) (.int .i64 gA) (.slice ta t.length tc) ∧ NodesIn Z ta t.length t ∧ Err8 Z er ∧ PkgsOk Z (some ⟨b, off, none⟩) ps.length cap ps ∧ Below D w Z) := fun Z hz => ⟨bx.below hz, (hnd.below hbx).below hz, (hE.below hbx).below hz, (h.below hbx).below hz, by rw [← hD]; exact hbx.trans (hz.mono hbx.size)⟩
  have HAr : Hid (_) := implArgsWrong (gn, gA, t) ta t.length tc er W (HZ.out W (Below.refl _ _)).2.2.1 (HZ.out W (Below.refl _ _)).2.1 htl
  simp only at HAr
  have d0 := bx.c0
  have d1 := bx.c1
  have d2 := bx.c2
  have HWy : Hid (_) := hways
  clear hbx hnd hE h hways
  go_enter Tryz.func89, Tryz.ntmps89
  go_wp2_with fail
  refine Calls.mono HAr.out ?_
  rintro e w1 ⟨v, rfl, ha, hb1⟩
  clear HAr d0 d1 d2
  rcases ha with ⟨ha, rfl⟩ | ⟨ha, rfl⟩
  · have HR : Hid (F9v = 3) := by
      rcases HWy.out with ⟨_, e⟩ | ⟨h1, _⟩
      · exact e
      · obtain ⟨n, hn, h2⟩ := ha; exact absurd h2 (h1 n hn)
    have HBW : Hid (Below D w w1) := (HZ.out w1 hb1).2.2.2.2
    clear ha hb1 HWy
    go_wp2
    go_ret
    exact ⟨_, rfl, Or.inr ⟨6, Or.inr (Or.inr (Or.inl ⟨HR.out, rfl⟩)), rfl⟩, by first | exact HBW.out | (rw [hD]; exact HBW.out)⟩
  · have HWz : Hid (((∃ n ∈ t, Bad n) ∧ F9v = 4) ∨ ((∀ n ∈ t, ¬ Bad n) ∧ F9v = 0)) := by
      rcases HWy.out with ⟨⟨n, hn, h2⟩, _⟩ | ⟨_, h1⟩
      · exact absurd h2 (ha n hn)
      · exact h1
    have d2 := (HZ.out w1 hb1).1.c2
    have HB0 : Hid (Below W.heap.size W w1) := hb1
    clear ha hb1 HWy
    go_wp2
    go_loopw [28] (fun iv wr => ∃ j : Nat, iv = .int .i64 (j : Int) ∧ j ≤ t.length ∧ Hid (∀ m, m < j → ¬ Bad (t.getD m nd0)) ∧ Hid (Below W.heap.size W wr)) (fun iv _ => t.length - (intOf iv).toNat)
    case atStart => exact ⟨0, rfl, by omega, (fun m hm => absurd hm (Nat.not_lt_zero _)), HB0⟩
    case round =>
      obtain ⟨j, rfl, hj, HA, HB⟩ := hrel
      clear HB0 d2
      obtain ⟨_, hin, _, _, hbw⟩ := HZ.out wr HB.out
      by_cases hlt : (j : Int) < (t.length : Int)
      · have hj2 : j < t.length := by omega
        obtain ⟨bt, ot, rfl, hbt, k0, k1, k2, k3⟩ := hin.2 j hj2
        have hmem := mem_nd hj2
        obtain ⟨n, hn⟩ : ∃ n, t.getD j nd0 = n := ⟨_, rfl⟩
        have HN : Hid (t.getD j nd0 = n) := hn
        rw [hn] at k0 k1 k2 k3 hmem
        obtain ⟨k, nA, np, nf⟩ := n
        simp only at k0 k1 k2 k3
        obtain ⟨⟨n0, n1, n2, n3⟩, hbg⟩ := node_new wr (.int .i64 k) (.int .i64 nA) (.string ⟨np.toArray⟩) (.string ⟨nf.toArray⟩) 44
        obtain ⟨X, hX⟩ : ∃ X, wr.alloc (.cells #[.int .i64 k, .int .i64 nA, .string ⟨np.toArray⟩, .string ⟨nf.toArray⟩] 44) = X := ⟨_, rfl⟩
        obtain ⟨G, hG⟩ : ∃ G, wr.heap.size = G := ⟨_, rfl⟩
        rw [hX] at n0 n1 n2 n3 hbg
        rw [hG] at n0 n1 n2 n3
        have HBX : Hid (Below W.heap.size W X) := HB.out.trans (hbg.mono HB.out.size)
        have HNx : Hid (¬ Bad (k, nA, np, nf) → ∀ m, m < j + 1 → ¬ Bad (t.getD m nd0)) := fun hq m hm => by
          rcases Nat.lt_or_ge m j with h | h
          · exact HA.out m h
          · obtain rfl : m = j := by omega
            rw [HN.out]
            exact hq
        have hbad := HBad.out (k, nA, np, nf)
        have hbd := HBd.out (k, nA, np, nf)
        have HC : Hid (_) := HCW.out X (k, nA, np, nf) (HZ.out X HBX.out).2.2.2.1 (HZ.out X HBX.out).2.2.1.four
        unfold nodeVal at HC
        simp only at HC hbad
        obtain ⟨cv, hcv⟩ : ∃ cv, call9 ps (ps.getD f pk0) (i : Int) (k, nA, np, nf) = cv := ⟨_, rfl⟩
        rw [hcv] at HC hbad hbd
        clear hin hbw hbg hn HB HA hcv
        by_cases hk : k = 8
        · subst hk
          have hkb : ((8 : Int) != 8) = false := rfl
          by_cases hc0 : cv = 0
          · subst hc0
            have HR := HNx.out (fun hq => (hbad.1 hq).2 rfl)
            have hv : cwV er 0 = .nilIface := rfl
            rw [hv] at HC
            have HR2 : Hid (_) := HR
            clear hbad hbd HNx HR hmem
            go_wp2_with fail
            refine Calls.mono HC.out ?_
            rintro e w2 ⟨rfl, hb2⟩
            have HB2 : Hid (Below W.heap.size W w2) := HBX.out.trans (hb2.mono HBX.out.size)
            clear hb2
            go_wp2
            go_roundw
            case rel => exact ⟨j + 1, by go_num, by omega, HR2, HB2⟩
            case measure => simp [intOf]; omega
          · have HR : Hid (F9v = 4) := by
              rcases HWz.out with ⟨_, e⟩ | ⟨h1, _⟩
              · exact e
              · exact absurd (hbad.2 ⟨rfl, hc0⟩) (h1 _ hmem)
            have hv : cwV er cv = .iface 215 (.pointer (some (er cv.toNat))) := by unfold cwV; rw [if_neg hc0]; rfl
            rw [hv] at HC
            have HK : Hid (1 ≤ cv.toNat ∧ cv.toNat ≤ 3) := by exact (by omega : 1 ≤ cv.toNat ∧ cv.toNat ≤ 3)
            generalize cv.toNat = ck at HC HK
            clear hbad hbd HNx hmem hv
            go_wp2_with fail
            refine Calls.mono HC.out ?_
            rintro e w2 ⟨rfl, hb2⟩
            have HBW : Hid (Below D w w2) := (HZ.out w2 (HBX.out.trans (hb2.mono HBX.out.size))).2.2.2.2
            clear hb2
            go_wp2
            go_ret
            exact ⟨_, rfl, Or.inr ⟨ck, Or.inr (Or.inr (Or.inr (Or.inl ⟨HR.out, HK.out⟩))), rfl⟩, by first | exact HBW.out | (rw [hD]; exact HBW.out)⟩
        · have hkb : (k != 8) = true := by rw [bne_iff_ne]; exact hk
          have HR2 : Hid (_) := HNx.out (fun hq => hk (hbad.1 hq).1)
          clear hbad hbd HNx hmem HC
          go_wp2
          go_roundw
          case rel => exact ⟨j + 1, by go_num, by omega, HR2, HBX⟩
          case measure => simp [intOf]; omega
      · have HR : Hid (F9v = 0) := by
          rcases HWz.out with ⟨⟨n, hn, h2⟩, _⟩ | ⟨_, e⟩
          · exact absurd h2 (all_nd (P := fun n => ¬ Bad n) (fun m hm => HA.out m (by omega)) n hn)
          · exact e
        have HBW : Hid (Below D w wr) := hbw
        clear hin hbw HA
        go_wp2
        go_ret
        exact ⟨_, rfl, Or.inl ⟨HR.out, rfl⟩, by first | exact HBW.out | (rw [hD]; exact HBW.out)⟩

end Go.Proofs.YtdjglpcllcjcfaaGreatDoor

/-! The contracts of chapter 9's landed code: what is wrong in a package. -/
namespace Go.Proofs.YtdjglpcllcjcfaaGreatDoor
open Go.RowKit

/-- What is wrong in a package: nothing, or an error that tells where. -/
def PwIs (er : Nat → Addr) (v : Value) (o : Option Flt) : Prop := (o = none ∧ v = .nilIface) ∨ ∃ c p g k, o = some (c, p, g) ∧ KindIs c k ∧ v = .iface 57 (.agg #[.string ⟨p.toArray⟩, .string ⟨g.toArray⟩, .iface 215 (.pointer (some (er k)))])

theorem own_rowS {w : World} {B e size n : Nat} {v : Value} {xs : List Value} (h : w.ownsRow B e size v n xs) : ∃ a c, v = .slice a n c ∧ True := by
  rcases own_forms h with ⟨rfl, rfl, _⟩ | ⟨g, c, rfl⟩
  · exact ⟨none, 0, rfl, trivial⟩
  · exact ⟨_, c, rfl, trivial⟩
set_option maxHeartbeats 8000000 in
set_option maxRecDepth 100000 in
theorem implPackageWrong (a : Option Addr) (len cap : Nat) (ps : List Pk) (f : Nat) (lo : Bool) (dn i : Nat) (hlo : lo = decide (dn ≤ i)) (er : Nat → Addr) (w : World) (hE : Err8 w er) (h : PkgsOk w a len cap ps) (hf : f < len) :
    Calls Tryz.prog 50 #[.slice a len cap, .int .i64 (f : Int), .bool lo] w fun e w' => ∃ v, e = .returned v ∧ PwIs er v (pk9 ps dn i (ps.getD f pk0)) ∧ Below w.heap.size w w' := by
  subst hlo
  obtain rfl : ps.length = len := h.hlen
  have hmiss := miss9_plc (ps := ps) (i := f)
  have HFn : Hid (∀ (Z : World) (j : Nat), PkgsOk Z a ps.length cap ps → Err8 Z er → j < (ps.getD f pk0).2.2.length → Calls Tryz.prog 89 #[.slice a ps.length cap, .int .i64 (f : Int), .int .i64 (j : Int)] Z fun e w' => ∃ v, e = .returned v ∧ FwIs er v (func9 ps (ps.getD f pk0) j) ∧ Below Z.heap.size Z w') := fun Z j h1 h2 h3 => implFuncWrong a ps.length cap ps f j er Z h2 h1 hf h3
  have HPl : Hid (∀ Z, PkgsOk Z a ps.length cap ps → Calls Tryz.prog 82 #[.slice a ps.length cap, .int .i64 (f : Int)] Z fun e w' => ∃ v, e = .returned v ∧ w'.ownsRow Z.heap.size 3 1 v (plc ps (imsAt ps f)).length (natV (plc ps (imsAt ps f))) ∧ Below Z.heap.size Z w') := fun Z h1 => implPlacesOf a ps.length cap ps f Z h1 hf
  obtain ⟨b, off, rfl, hbl, c0, ia, il, ic, fa, fl, fc, c1, c2, hpk⟩ := h.each f hf
  have hil : (imsAt ps f).length = il := hpk.i.1
  have hilb := hpk.il
  have hflb := hpk.fl
  have hfl : (ps.getD f pk0).2.2.length = fl := hpk.f.1
  have hple := plc_le ps (imsAt ps f)
  have hsm := h.small
  have hf2 : (f : Int) < (ps.length : Int) := by omega
  obtain ⟨pl, hpl⟩ : ∃ pl, (plc ps (imsAt ps f)).length = pl := ⟨_, rfl⟩
  rw [hpl, hil] at hmiss hple
  rw [hpl] at HPl
  have hfi := hpk.f
  have hpk9 : pk9 ps dn i (ps.getD f pk0) = if miss9 ps (ps.getD f pk0) then some (1, (ps.getD f pk0).1, []) else if dn ≤ i then some (2, (ps.getD f pk0).1, []) else fnsGo ps (ps.getD f pk0) (ps.getD f pk0).2.2 0 := rfl
  have HDr : Hid (∀ j, j < (ps.getD f pk0).2.2.length → _) := fun j hj => fnsGo_drop (ps := ps) (p := ps.getD f pk0) (k := j) hj
  obtain ⟨p, hp⟩ : ∃ p, ps.getD f pk0 = p := ⟨_, rfl⟩
  rw [hp] at hmiss c0 hfi hfl HFn hpk9 HDr ⊢
  obtain ⟨nm, ims, fs⟩ := p
  simp only at c0 hfi hfl HFn hpk9 HDr
  subst hfl
  clear hp hpl hil hpk
  obtain ⟨bx, hbx⟩ := Box3.new w (.string ⟨nm.toArray⟩) (.slice ia il ic) (.slice fa fs.length fc) 32
  obtain ⟨W, hW⟩ : ∃ W, w.alloc (.cells #[.string ⟨nm.toArray⟩, .slice ia il ic, .slice fa fs.length fc] 32) = W := ⟨_, rfl⟩
  obtain ⟨D, hD⟩ : ∃ D, w.heap.size = D := ⟨_, rfl⟩
  rw [hW] at bx hbx
  rw [hD] at bx
  have HZ : Hid (∀ Z, Below W.heap.size W Z → Box3 Z D (.string ⟨nm.toArray⟩) (.slice ia il ic) (.slice fa fs.length fc) ∧ FuncsIn Z fa fs.length fs ∧ Err8 Z er ∧ PkgsOk Z (some ⟨b, off, none⟩) ps.length cap ps ∧ Below D w Z) := fun Z hz => ⟨bx.below hz, (hfi.below hbx).below hz, (hE.below hbx).below hz, (h.below hbx).below hz, by rw [← hD]; exact hbx.trans (hz.mono hbx.size)⟩
  have d0 := bx.c0
  have d1 := bx.c1
  have d2 := bx.c2
  have HB : Hid (Below W.heap.size W W.drew) := ⟨rfl, rfl, rfl, Nat.le_refl _, fun _ _ => rfl⟩
  have hok := (HZ.out _ HB.out).2.2.2.1
  clear hbx hfi hE h bx
  obtain ⟨O9, hO9⟩ : ∃ o, pk9 ps dn i (nm, ims, fs) = o := ⟨_, rfl⟩
  have HPk : Hid (O9 = _) := hO9.symm.trans hpk9
  rw [hO9]
  have HMs : Hid (miss9 ps (nm, ims, fs) ↔ pl < il) := hmiss
  clear hO9 hpk9 hmiss
  go_enter Tryz.func50, Tryz.ntmps50
  go_upto_region 2 with fail
  go_region_held3 (fun w' => w'.cell? ⟨D, 1, none⟩ = some (.slice ia il ic)) (go_keep) (first | (go_at_call 82; refine Calls.mono (HPl.out _ hok) ?_; rintro e wn ⟨v, rfl, ho, hbn⟩; replace HB : Hid (Below W.heap.size W wn) := HB.out.trans (hbn.mono HB.out.size); clear hok; obtain ⟨pa, pc, rfl, -⟩ := own_rowS ho; clear hbn ho d0 d1 d2; obtain ⟨⟨d0, d1, d2⟩, -, -, -, -⟩ := HZ.out wn HB.out))
  by_cases hm : pl < il
  · have hm2 : (pl : Int) < (il : Int) := by omega
    have HR : Hid (O9 = some (1, nm, [])) := HPk.out.trans (if_pos (HMs.out.2 hm))
    have gi := (HZ.out wn HB.out).2.2.1.imp
    unfold sentV at gi
    have HBW : Hid (Below D w wn) := (HZ.out wn HB.out).2.2.2.2
    clear HPk HMs hm
    go_wp2
    go_ret
    exact ⟨_, rfl, Or.inr ⟨1, nm, [], 4, HR.out, Or.inl ⟨rfl, rfl⟩, rfl⟩, by first | exact HBW.out | (rw [hD]; exact HBW.out)⟩
  · have hm2 : ¬ (pl : Int) < (il : Int) := by omega
    have HPk2 : Hid (O9 = _) := HPk.out.trans (if_neg (fun e => hm (HMs.out.1 e)))
    clear HPk HMs hm
    by_cases hd : dn ≤ i
    · have hdb : decide (dn ≤ i) = true := decide_eq_true hd
      have HR : Hid (O9 = some (2, nm, [])) := HPk2.out.trans (if_pos hd)
      have gi := (HZ.out wn HB.out).2.2.1.ring
      unfold sentV at gi
      have HBW : Hid (Below D w wn) := (HZ.out wn HB.out).2.2.2.2
      clear HPk2
      go_wp2
      go_ret
      exact ⟨_, rfl, Or.inr ⟨2, nm, [], 5, HR.out, Or.inr (Or.inl ⟨rfl, rfl⟩), rfl⟩, by first | exact HBW.out | (rw [hD]; exact HBW.out)⟩
    · have hdb : decide (dn ≤ i) = false := decide_eq_false hd
      have HR : Hid (O9 = fnsGo ps (nm, ims, fs) (fs.drop 0) 0) := HPk2.out.trans (if_neg hd)
      clear HPk2
      go_wp2
      go_loopw [37] (fun iv wr => ∃ j : Nat, iv = .int .i64 (j : Int) ∧ j ≤ fs.length ∧ Hid (O9 = fnsGo ps (nm, ims, fs) (fs.drop j) j) ∧ Hid (Below W.heap.size W wr)) (fun iv _ => fs.length - (intOf iv).toNat)
      case atStart => exact ⟨0, rfl, by omega, HR, HB⟩
      case round =>
        obtain ⟨j, rfl, hj, HA, HBr⟩ := hrel
        clear HR HB d0 d1 d2
        obtain ⟨bx, hin, _, _, hbw⟩ := HZ.out wr HBr.out
        by_cases hlt : (j : Int) < (fs.length : Int)
        · have hj2 : j < fs.length := by omega
          obtain ⟨bt, ot, rfl, hbt, k0, k1, ta, tl, tc, k2, _⟩ := hin.2 j hj2
          have hdr := HDr.out j hj2
          obtain ⟨g, hg⟩ : ∃ g, fs.getD j fn0 = g := ⟨_, rfl⟩
          rw [hg] at k0 k1 hdr
          obtain ⟨gn, gA, gt⟩ := g
          simp only at k0 k1 hdr
          obtain ⟨bg, hbg⟩ := Box3.new wr (.string ⟨gn.toArray⟩) (.int .i64 gA) (.slice ta tl tc) 42
          obtain ⟨X, hX⟩ : ∃ X, wr.alloc (.cells #[.string ⟨gn.toArray⟩, .int .i64 gA, .slice ta tl tc] 42) = X := ⟨_, rfl⟩
          obtain ⟨G, hG⟩ : ∃ G, wr.heap.size = G := ⟨_, rfl⟩
          rw [hX] at bg hbg
          rw [hG] at bg
          have HBX : Hid (Below W.heap.size W X) := HBr.out.trans (hbg.mono HBr.out.size)
          have HC : Hid (_) := HFn.out X j (HZ.out X HBX.out).2.2.2.1 (HZ.out X HBX.out).2.2.1 hj2
          obtain ⟨cv, hcv⟩ : ∃ cv, func9 ps (nm, ims, fs) j = cv := ⟨_, rfl⟩
          rw [hcv] at HC hdr
          have HDj : Hid (_) := HA.out.trans hdr
          have HBG : Hid (Box3 X G (.string ⟨gn.toArray⟩) (.int .i64 gA) (.slice ta tl tc)) := bg
          clear hin hbw hbg hg HBr HA hcv hdr bx bg
          go_wp2_with fail
          refine Calls.mono HC.out ?_
          rintro e w2 ⟨v, rfl, hv, hb2⟩
          have HB2 : Hid (Below W.heap.size W w2) := HBX.out.trans (hb2.mono HBX.out.size)
          have g0 := (HBG.out.below hb2).c0
          have d0 := (HZ.out w2 HB2.out).1.c0
          clear hb2 HC
          rcases hv with ⟨rfl, rfl⟩ | ⟨ck, hck, rfl⟩
          · have HR : Hid (O9 = fnsGo ps (nm, ims, fs) (fs.drop (j + 1)) (j + 1)) := HDj.out.trans (if_neg (fun e => e rfl))
            clear HDj
            go_wp2
            go_roundw
            case rel => exact ⟨j + 1, by go_num, by omega, HR, HB2⟩
            case measure => simp [intOf]; omega
          · have HR : Hid (O9 = some (cv, nm, gn)) := HDj.out.trans (if_pos (fun e => by subst e; rcases hck with h | h | h | h | h <;> omega))
            have HK : Hid (KindIs cv ck) := hck
            have HBW : Hid (Below D w w2) := (HZ.out w2 HB2.out).2.2.2.2
            clear HDj hck
            go_wp2
            go_ret
            exact ⟨_, rfl, Or.inr ⟨cv, nm, gn, ck, HR.out, HK.out, rfl⟩, by first | exact HBW.out | (rw [hD]; exact HBW.out)⟩
        · have HR : Hid (O9 = none) := by exact (by rw [HA.out, List.drop_of_length_le (by omega)]; rfl : O9 = none)
          have HBW : Hid (Below D w wr) := hbw
          clear hin hbw HA bx
          go_wp2
          go_ret
          exact ⟨_, rfl, Or.inl ⟨HR.out, rfl⟩, by first | exact HBW.out | (rw [hD]; exact HBW.out)⟩

end Go.Proofs.YtdjglpcllcjcfaaGreatDoor

/-! The contracts of container/heap over the landed heap of places. -/
namespace Go.Proofs.YtdjglpcllcjcfaaGreatDoor
open Go.RowKit

theorem wrapPtr (A : Array TypeId) (T : TypeId) (p : Addr) (a b : ByteArray) : Builtin.ssaWrapNilChk_ A T #[.pointer (some p), .string a, .string b] = pure (.pointer (some p)) := rfl
/-! How a method of the heap behind the interface is found: the row is loaded through the pointer, or the pointer handed on. -/
theorem findLen {w : World} {nb : Nat} {a : Option Addr} {n c : Nat} (hc : w.cell? ⟨nb, 0, none⟩ = some (.slice a n c)) : Sem.run Tryz.prog (method 346 116 (.pointer (some ⟨nb, 0, none⟩)) "Len") w = .ok (84, .slice a n c) w := by
  have hm : (Array.find? (fun x => x.name == "Len") Tryz.t116.methods).map (fun m => (m.path, m.func)) = some (#[], some (84, false)) := by kernel_rfl
  obtain ⟨m, hm, he⟩ := Option.map_eq_some_iff.1 hm
  obtain ⟨h1, h2⟩ := Prod.mk.injEq .. ▸ he
  obtain ⟨k, hk⟩ : ∃ k, 346 = k + 1 := ⟨_, rfl⟩
  rw [hk, method]
  simp [go_sem, hm, h1, h2, follow, receiverAt, wrapPtr, Place.get, strVal, loadVar, hc]
theorem findLess {w : World} {nb : Nat} {a : Option Addr} {n c : Nat} (hc : w.cell? ⟨nb, 0, none⟩ = some (.slice a n c)) : Sem.run Tryz.prog (method 346 116 (.pointer (some ⟨nb, 0, none⟩)) "Less") w = .ok (167, .slice a n c) w := by
  have hm : (Array.find? (fun x => x.name == "Less") Tryz.t116.methods).map (fun m => (m.path, m.func)) = some (#[], some (167, false)) := by kernel_rfl
  obtain ⟨m, hm, he⟩ := Option.map_eq_some_iff.1 hm
  obtain ⟨h1, h2⟩ := Prod.mk.injEq .. ▸ he
  obtain ⟨k, hk⟩ : ∃ k, 346 = k + 1 := ⟨_, rfl⟩
  rw [hk, method]
  simp [go_sem, hm, h1, h2, follow, receiverAt, wrapPtr, Place.get, strVal, loadVar, hc]
theorem findSwap {w : World} {nb : Nat} {a : Option Addr} {n c : Nat} (hc : w.cell? ⟨nb, 0, none⟩ = some (.slice a n c)) : Sem.run Tryz.prog (method 346 116 (.pointer (some ⟨nb, 0, none⟩)) "Swap") w = .ok (170, .slice a n c) w := by
  have hm : (Array.find? (fun x => x.name == "Swap") Tryz.t116.methods).map (fun m => (m.path, m.func)) = some (#[], some (170, false)) := by kernel_rfl
  obtain ⟨m, hm, he⟩ := Option.map_eq_some_iff.1 hm
  obtain ⟨h1, h2⟩ := Prod.mk.injEq .. ▸ he
  obtain ⟨k, hk⟩ : ∃ k, 346 = k + 1 := ⟨_, rfl⟩
  rw [hk, method]
  simp [go_sem, hm, h1, h2, follow, receiverAt, wrapPtr, Place.get, strVal, loadVar, hc]
theorem findPush {w : World} {nb : Nat} : Sem.run Tryz.prog (method 346 116 (.pointer (some ⟨nb, 0, none⟩)) "Push") w = .ok (169, .pointer (some ⟨nb, 0, none⟩)) w := by
  have hm : (Array.find? (fun x => x.name == "Push") Tryz.t116.methods).map (fun m => (m.path, m.func)) = some (#[], some (169, true)) := by kernel_rfl
  obtain ⟨m, hm, he⟩ := Option.map_eq_some_iff.1 hm
  obtain ⟨h1, h2⟩ := Prod.mk.injEq .. ▸ he
  obtain ⟨k, hk⟩ : ∃ k, 346 = k + 1 := ⟨_, rfl⟩
  rw [hk, method]
  simp [go_sem, hm, h1, h2, follow, receiverAt, Place.get, strVal]
theorem findPop {w : World} {nb : Nat} : Sem.run Tryz.prog (method 346 116 (.pointer (some ⟨nb, 0, none⟩)) "Pop") w = .ok (168, .pointer (some ⟨nb, 0, none⟩)) w := by
  have hm : (Array.find? (fun x => x.name == "Pop") Tryz.t116.methods).map (fun m => (m.path, m.func)) = some (#[], some (168, true)) := by kernel_rfl
  obtain ⟨m, hm, he⟩ := Option.map_eq_some_iff.1 hm
  obtain ⟨h1, h2⟩ := Prod.mk.injEq .. ▸ he
  obtain ⟨k, hk⟩ : ∃ k, 346 = k + 1 := ⟨_, rfl⟩
  rw [hk, method]
  simp [go_sem, hm, h1, h2, follow, receiverAt, Place.get, strVal]

theorem HpIn.rown {w : World} {B nb n : Nat} {v : Value} {l : List Nat} (h : HpIn w B nb v l) (hn : l.length = n) : w.ownsRow B 3 1 v n (natV l) := by rw [← hn]; exact h.row

set_option maxHeartbeats 2000000 in
set_option maxRecDepth 100000 in
theorem heapUp (B nb g n cp : Nat) (l : List Nat) (j : Nat) (w : World) (h : HpIn w B nb (.slice (some ⟨g, 0, none⟩) n cp) l) (hn : l.length = n) (hj : j < n) (hup : HpUp l j) (hbig : n ≤ 1000) :
    Calls Tryz.prog 114 #[.iface 116 (.pointer (some ⟨nb, 0, none⟩)), .int .i64 (j : Int)] w fun e w' => e = .returned (.tuple #[]) ∧ ∃ l', HpIn w' B nb (.slice (some ⟨g, 0, none⟩) n cp) l' ∧ l'.length = n ∧ l'.Perm l ∧ HpN l' n ∧ w.grownBy w' (some g) := by
  have HH : Hid (HpIn w B nb (.slice (some ⟨g, 0, none⟩) n cp) l) := h
  have HL : Hid (l.length = n) := hn
  have HU : Hid (HpUp l j) := hup
  clear h hn hup
  go_enter Tryz.func114, Tryz.ntmps114
  go_wp2
  go_loopw [1, 4] (fun jv _ wr => ∃ (k : Nat) (lk : List Nat), jv = .int .i64 (k : Int) ∧ k < n ∧ Hid (HpIn wr B nb (.slice (some ⟨g, 0, none⟩) n cp) lk) ∧ Hid (lk.length = n) ∧ Hid (HpUp lk k) ∧ Hid (lk.Perm l) ∧ Hid (w.grownBy wr (some g))) (fun jv _ _ => (intOf jv).toNat)
  case atStart => exact ⟨j, l, rfl, hj, HH, HL, HU, List.Perm.refl _, World.grownBy.refl _ _⟩
  case round =>
    obtain ⟨k, lk, rfl, hk, HHk, HLk, HUk, HPk, HGk⟩ := hrel
    have c0 := HHk.out.cell
    rcases Nat.eq_zero_or_pos k with h0 | h0
    · subst h0
      go_wp2
      go_end0
      exact ⟨rfl, lk, HHk.out, HLk.out, HPk.out, by rw [← HLk.out]; exact up_end HUk.out (Or.inl rfl), HGk.out⟩
    · obtain ⟨m, rfl⟩ : ∃ m, k = m + 1 := ⟨k - 1, by omega⟩
      have hne : ¬ m / 2 = m + 1 := by omega
      have mL := findLess c0
      have HL1 : Hid (Calls Tryz.prog 167 #[.slice (some ⟨g, 0, none⟩) n cp, .int .i64 ((m : Int) + 1), .int .i64 ((m : Int) / 2)] wr fun e w' => e = .returned (.bool (decide (lk.getD (m + 1) 0 < lk.getD (m / 2) 0))) ∧ Below wr.heap.size wr w') := by
        have hL := upLess B g cp n lk (m + 1) (m / 2) wr (HHk.out.rown HLk.out) HLk.out hk (by omega)
        rw [show ((m + 1 : Nat) : Int) = (m : Int) + 1 by omega, show ((m / 2 : Nat) : Int) = (m : Int) / 2 by omega] at hL
        exact hL
      by_cases hlt : lk.getD (m + 1) 0 < lk.getD (m / 2) 0
      · rw [decide_eq_true hlt] at HL1
        have HSt : Hid (HpUp (sw lk (m / 2) (m + 1)) (m / 2)) := up_step HUk.out (by rw [HLk.out]; exact hk) h0 hlt
        clear hlt
        go_wp2_with (go_at_call 167; refine HL1.out.mono ?_; rintro e w2 ⟨rfl, hb2⟩; have HH2 : Hid (HpIn w2 B nb (.slice (some ⟨g, 0, none⟩) n cp) lk) := HHk.out.below hb2; have mS := findSwap HH2.out.cell; have HG2 : Hid (w.grownBy w2 (some g)) := HGk.out.trans ⟨hb2.os, hb2.tape, hb2.output, hb2.size, fun k hk _ => hb2.block k hk⟩; clear hb2 mL)
        have HS1 : Hid (Calls Tryz.prog 170 #[.slice (some ⟨g, 0, none⟩) n cp, .int .i64 ((m : Int) / 2), .int .i64 ((m : Int) + 1)] w2 fun e w' => e = .returned (.tuple #[]) ∧ w'.ownsRow B 3 1 (.slice (some ⟨g, 0, none⟩) n cp) n (natV (sw lk (m / 2) (m + 1))) ∧ w2.grownBy w' (some g)) := by
          have hS := upSwap B g cp n lk (m / 2) (m + 1) w2 (HH2.out.rown HLk.out) HLk.out (by omega) hk
          rw [show ((m + 1 : Nat) : Int) = (m : Int) + 1 by omega, show ((m / 2 : Nat) : Int) = (m : Int) / 2 by omega] at hS
          exact hS
        refine HS1.out.mono ?_
        rintro e w3 ⟨rfl, ho3, hg3⟩
        have HH3 : Hid (HpIn w3 B nb (.slice (some ⟨g, 0, none⟩) n cp) (sw lk (m / 2) (m + 1))) := HH2.out.swapped ho3 (by rw [sw_len]; exact HLk.out) hg3
        have HG3 : Hid (w.grownBy w3 (some g)) := HG2.out.trans hg3
        clear ho3 hg3 HS1 HL1
        go_wp2
        go_roundw
        case rel => exact ⟨m / 2, sw lk (m / 2) (m + 1), by simp, by omega, HH3, by exact (by rw [sw_len]; exact HLk.out : (sw lk (m / 2) (m + 1)).length = n), HSt, (sw_perm lk (by rw [HLk.out]; omega) (by rw [HLk.out]; omega)).trans HPk.out, HG3⟩
        case measure => simp [intOf]; omega
      · rw [decide_eq_false hlt] at HL1
        have HSt : Hid (HpN lk n) := by exact (by rw [← HLk.out]; exact up_end HUk.out (Or.inr (by simpa using hlt)) : HpN lk n)
        clear hlt
        go_wp2_with (go_at_call 167; refine HL1.out.mono ?_; rintro e w2 ⟨rfl, hb2⟩; have HH2 : Hid (HpIn w2 B nb (.slice (some ⟨g, 0, none⟩) n cp) lk) := HHk.out.below hb2; have HG2 : Hid (w.grownBy w2 (some g)) := HGk.out.trans ⟨hb2.os, hb2.tape, hb2.output, hb2.size, fun k hk _ => hb2.block k hk⟩; clear hb2 mL)
        go_end0
        exact ⟨rfl, lk, HH2.out, HLk.out, HPk.out, HSt.out, HG2.out⟩

end Go.Proofs.YtdjglpcllcjcfaaGreatDoor
