/-
  Parts of one proof, one behind the other: MeanS3, MeanS4.
-/
import Derived.Test.YtkjojhkpoooimaaGreatP33
import Derived.Test.YtkjojhkpoooimaaGreatP17

/-! The contract of chapter 10's specification: the value of a tree (a test). -/
namespace Go.Proofs.YtkjojhkpoooimaaGreat
open Go.RowKit

set_option maxHeartbeats 8000000 in
set_option maxRecDepth 100000 in
theorem specVal7 (B : World) (la : Option Addr) (lc : Nat) (ps : List Pk) (W : Nat) (_hP : PkgsIn B la ps.length ps) (_hlp : ps.length ≤ 1048576) (_hshp : ShortPs ps) (hflt : faultV ps = (0, [], [])) (hW : B.heap.size ≤ W) (d : Nat) (hd : d + 1 ≤ 20001) (ih : Val10 B la lc ps W d)
    (Z : World) (f : Nat) (ta : Option Addr) (tc : Nat) (t : List Nd) (m : Int) (a : Nat) (aa : Option Addr) (ac : Nat) (xs : List Int) (hB : Below B.heap.size B Z) (hf : f + 1 < d + 1) (hw : Wk Z W (.slice la ps.length lc) (f + 1) 0) (hin : NodesIn B ta t.length t) (htr : Tr10 ps t m) (hsh : ShortT t) (hlen : t.length ≤ 1048576) (hp : 0 ≤ endV t (a : Int)) (ha : As Z W aa xs) (hm : (xs.length : Int) = m) (hx : ∀ x ∈ xs, Word10 x) (hkd : (t.getD a nd0).1 = 7) :
    Calls Tryz.prog 74 #[.pointer (some ⟨W, 0, none⟩), .slice ta t.length tc, .int .i64 (a : Int), .slice aa xs.length ac] Z fun e Z' =>
      e = .returned (.int .i64 (val10 ps (d + 1) t (a : Int) xs (f + 1, 0)).1) ∧ Wk Z' W (.slice la ps.length lc) (val10 ps (d + 1) t (a : Int) xs (f + 1, 0)).2.1 (val10 ps (d + 1) t (a : Int) xs (f + 1, 0)).2.2 ∧ Wr Z Z' W := by
      have k0 := hw.c0
      have k1 := hw.c1
      have k2 := hw.c2
      have k3 := hw.fr 1
      have k4 := hw.fr 2
      have IH : Hid (Val10 B la lc ps W d) := ih
      clear ih
      rw [val_node]
      obtain ⟨hal, hnb, _, _, _⟩ := end_parts hp
      obtain ⟨n, hn⟩ : ∃ n, t.getD a nd0 = n := ⟨_, rfl⟩
      rw [hn] at hkd
      have hmem : n ∈ t := by rw [← hn]; simp [List.getD, hal]
      obtain ⟨bt, ot, rfl, hbt, q0, q1, q2, q3⟩ := (hin.below hB).2 a hal
      rw [hn] at q0 q1 q2 q3
      have hf1 : ((f + 1 : Nat) : Int) - 1 = (f : Int) := by omega
      have hfz : (((f + 1 : Nat) : Int) == 0) = false := beq_eq_false_iff_ne.2 (by omega)
      have hw1 := hw.fuel f
      have hr1 := wr_set Z W 1 (.int .i64 (f : Int))
      have hal2 : (a : Int) < (t.length : Int) := by omega
      have hbW : bt ≠ W := by
        obtain ⟨b', o', e, hb', _⟩ := hin.2 a hal
        simp only [Option.some.injEq, Addr.mk.injEq, and_true] at e
        omega
      replace q0 := wr_cell hr1 hbt hbW q0
      replace q1 := wr_cell hr1 hbt hbW q1
      replace q2 := wr_cell hr1 hbt hbW q2
      replace q3 := wr_cell hr1 hbt hbW q3
      obtain ⟨Z1, hZ1⟩ : ∃ Z1, Z.setCell ⟨W, 1, none⟩ (.int .i64 (f : Int)) = Z1 := ⟨_, rfl⟩
      rw [hZ1] at hw1 hr1 q0 q1 q2 q3
      have hnd := nodeB_iff.1 (htr.good n hmem)
      have harg := htr.arg n hmem
      have hcall := htr.call n hmem
      have HPl : Hid (∀ i, i < kidsN n → ∃ q : Nat, (pts10 t (a : Int)).getD i 0 = (q : Int) ∧ q < t.length ∧ 0 ≤ endV t (q : Int)) := fun i hi => part_place hp (by rw [hn]; exact hi)
      have hpl : (pts10 t (a : Int)).length = kidsN n := by rw [pts_len, hn]
      obtain ⟨kd, nA, np, nf⟩ := n
      unfold nodeP at hnd
      simp only at q0 q1 q2 q3 hnd harg hcall hkd
      have HKD : Hid (_) := hkd
      clear hkd
      obtain ⟨⟨n0, n1, n2, n3⟩, hbg⟩ := node_new Z1 (.int .i64 kd) (.int .i64 nA) (.string ⟨np.toArray⟩) (.string ⟨nf.toArray⟩) 46
      obtain ⟨X, hX⟩ : ∃ X, Z1.alloc (.cells #[.int .i64 kd, .int .i64 nA, .string ⟨np.toArray⟩, .string ⟨nf.toArray⟩] 46) = X := ⟨_, rfl⟩
      obtain ⟨G, hG⟩ : ∃ G, Z1.heap.size = G := ⟨_, rfl⟩
      rw [hX] at n0 n1 n2 n3 hbg
      rw [hG] at n0 n1 n2 n3
      have hGW : G ≠ W := by have := hw1.lt; omega
      have hGl : G < X.heap.size := World.block_lt_of_cell? X ⟨G, 0, none⟩ n0
      have hrX : Wr Z X W := hr1.trans (Wrote.of_below hbg)
      have hBX := wr_base hB hW hrX
      have hwX := hw1.below hbg
      have HPt : Hid (_) := specParts (some ⟨bt, ot, none⟩) tc t a X (hin.below hBX) hsh hlen hal (by rw [hn]; exact htr.good _ hmem)
      rw [hn] at HPt
      have HK : Hid (kidsN (kd, nA, np, nf) = (pts10 t (a : Int)).length) := hpl.symm
      have HPe : Hid (partsGo t (kidsN (kd, nA, np, nf)) ((a : Int) + 1) = pts10 t (a : Int)) := by
        exact (by unfold pts10; rw [Int.toNat_natCast, hn] : partsGo t (kidsN (kd, nA, np, nf)) ((a : Int) + 1) = pts10 t (a : Int))
      rw [HPe.out, HK.out] at HPt
      rw [HK.out] at HPl
      have hkl : (pts10 t (a : Int)).length = kidsN (kd, nA, np, nf) := HK.out.symm
      have hsX : W < X.heap.size := hwX.lt
      have haX := ha.wr hrX
      have HIN : Hid (NodesIn B (some ⟨bt, ot, none⟩) t.length t) := hin
      have HTR : Hid (Tr10 ps t m) := htr
      have HSH : Hid (ShortT t) := hsh
      have HX : Hid (∀ x ∈ xs, Word10 x) := hx
      have HLess : Hid (∀ (q : Int) (s : St10), (val10 ps d t q xs s).2.1 ≤ s.1) := fun q s => (Sk10.val ps d t q xs).less s
      have HWd : Hid (∀ (q : Int) (s : St10), Word10 (val10 ps d t q xs s).1) := fun q s => val_word (fun n => good_of (faultV_zero (by rw [hflt])).2.1 _ _) d t q xs htr.good hx s
      generalize hpts : pts10 t (a : Int) = pts at HPt HPl hkl
      have HPS : Hid (pts10 t (a : Int) = pts) := hpts
      obtain ⟨r, hr⟩ : ∃ r, node10 ps (val10 ps d) t (a : Int) xs (kd, nA, np, nf) (f, 0) = r := ⟨_, rfl⟩
      have HRr : Hid (r = _) := hr.symm
      rw [hn, hr]
      unfold node10 at HRr
      rw [HPS.out] at HRr
      simp only at HRr
      clear hr
      clear hw hin htr hsh hx hp ha hbt hn hmem hw1 hr1 hnb HPe HK hpts hpl
      go_enter Tryz.func74, Tryz.ntmps74
      go_wp2_with fail
      refine Calls.mono HPt.out ?_
      rintro e V ⟨v, rfl, ho, hb2⟩
      obtain ⟨pa, pc, rfl, hpV⟩ := as_own ho hsX
      have HV : Hid (∀ Y, Wr V Y W → (Y.cell? ⟨G, 0, none⟩ = some (.int .i64 kd) ∧ Y.cell? ⟨G, 1, none⟩ = some (.int .i64 nA) ∧ Y.cell? ⟨G, 2, none⟩ = some (.string ⟨np.toArray⟩) ∧ Y.cell? ⟨G, 3, none⟩ = some (.string ⟨nf.toArray⟩)) ∧ As Y W aa xs ∧ As Y W pa pts ∧ Below B.heap.size B Y ∧ Wr Z Y W) := fun Y hy =>
        have hxy : Wr X Y W := (Wrote.of_below hb2).trans hy
        ⟨⟨wr_cell hxy hGl hGW n0, wr_cell hxy hGl hGW n1, wr_cell hxy hGl hGW n2, wr_cell hxy hGl hGW n3⟩, haX.wr hxy, hpV.wr hy, wr_base hBX hW hxy, hrX.trans hxy⟩
      have hwV := hwX.below hb2
      have HC : Hid (∀ (Y : World) (g : Nat) (c : Int) (i : Nat), i < pts.length → Wr V Y W → g < d → Wk Y W (.slice la ps.length lc) g c → Calls Tryz.prog 74 #[.pointer (some ⟨W, 0, none⟩), .slice (some ⟨bt, ot, none⟩) t.length tc, .int .i64 (pts.getD i 0), .slice aa xs.length ac] Y fun e Y' =>
          e = .returned (.int .i64 (val10 ps d t (pts.getD i 0) xs (g, c)).1) ∧ Wk Y' W (.slice la ps.length lc) (val10 ps d t (pts.getD i 0) xs (g, c)).2.1 (val10 ps d t (pts.getD i 0) xs (g, c)).2.2 ∧ Wr Y Y' W) := fun Y g c i hi hy hg hwk => by
        obtain ⟨q, hq, _, hqe⟩ := HPl.out i hi
        have hv := HV.out Y hy
        exact IH.out.at hv.2.2.2.1 hg hwk HIN.out HTR.out HSH.out hlen hq hqe hv.2.1 hm HX.out tc ac
      obtain ⟨⟨g0, g1, g2, g3⟩, haV, hpV2, hBV, hrV⟩ := HV.out V (Wrote.refl _ _)
      have HWV : Hid (Wk V W (.slice la ps.length lc) f 0) := hwV
      have HRV : Hid (Wr Z V W) := hrV
      clear k0 k1 k2 k3 k4 q0 q1 q2 q3 ho hb2 n0 n1 n2 n3 hpV hwV hwX hBX haX HPt hBV hrV hrX hbg hGl
      have hkd := HKD.out
      clear HKD
      rcases hnd with ⟨rfl, hA, rfl, rfl⟩ | ⟨rfl, hA, rfl, rfl⟩ | ⟨hk, rfl, rfl, rfl⟩ | ⟨rfl, hA, hnp, hnf⟩
      · exact absurd hkd (by omega)
      · exact absurd hkd (by omega)
      · rw [if_neg (by omega), if_neg (by omega)] at HRr
        have hkk : kidsN (kd, 0, [], []) = if kd = 7 then 3 else 2 := by
          unfold kidsN
          simp only
          by_cases h7 : kd = 7
          · rw [if_neg (by omega), if_pos h7, if_pos h7]
          · rw [if_pos (by omega), if_neg h7]
        rw [hkk] at hkl
        have h1b : (kd == 1) = false := beq_eq_false_iff_ne.2 (by omega)
        have h2b : (kd == 2) = false := beq_eq_false_iff_ne.2 (by omega)
        have h7 : kd = 7 := hkd
        clear hkd
        · subst h7
          rw [if_pos rfl] at HRr hkl
          obtain ⟨bp, op, rfl, _, _, p0⟩ := hpV2 0 (by omega)
          have HC0 := HC.out V f 0 0 (by omega) (Wrote.refl _ _) (by omega) HWV.out
          have HL0 := HLess.out (pts.getD 0 0) (f, 0)
          unfold bind10 at HRr
          dsimp only at HRr HL0
          obtain ⟨r0, hr0⟩ : ∃ r0, val10 ps d t (pts.getD 0 0) xs (f, 0) = r0 := ⟨_, rfl⟩
          rw [hr0] at HC0 HRr HL0
          have HC1 : Hid (_) := HC0
          have hk0 : (0 : Int) < (pts.length : Int) := by omega
          have hk1 : (1 : Int) < (pts.length : Int) := by omega
          have hk2 : (2 : Int) < (pts.length : Int) := by omega
          rw [Nat.add_zero] at p0
          generalize hp0 : pts.getD 0 0 = P0 at HC1 p0
          clear hr0 HC0 hp0
          go_wp2_with fail
          refine Calls.mono HC1.out ?_
          rintro e Y0 ⟨rfl, hw0, hy0⟩
          obtain ⟨v0, f0, c0⟩ := r0
          simp only at hw0 HL0
          dsimp only at HRr
          obtain ⟨-, -, hpY, -, -⟩ := HV.out Y0 hy0
          clear HC1 p0
          by_cases hv0 : v0 = 0
          · have hvb : (v0 != 0) = false := by rw [hv0]; rfl
            have HR2 : Hid (r = _) := HRr.out.trans (congrFun (if_neg (fun e => e hv0)) _)
            obtain ⟨b', o', e', _, _, p2⟩ := hpY 2 (by omega)
            simp only [Option.some.injEq, Addr.mk.injEq, and_true] at e'
            obtain ⟨rfl, rfl⟩ := e'
            have HC2 : Hid (_) := HC.out Y0 f0 c0 2 (by omega) hy0 (by omega) hw0
            generalize pts.getD 2 0 = P2 at HC2 p2 HR2
            obtain ⟨r1, hr1⟩ : ∃ r1, val10 ps d t P2 xs (f0, c0) = r1 := ⟨_, rfl⟩
            rw [hr1] at HC2 HR2
            obtain rfl : r = r1 := HR2.out
            have HY0 : Hid (Wr V Y0 W) := hy0
            clear HR2 HRr hr1 hpY hw0 hy0
            go_wp2_with fail
            refine Calls.mono HC2.out ?_
            rintro e Y1 ⟨rfl, hw1, hy1⟩
            have HW1 : Hid (_) := hw1
            have HY1 : Hid (Wr Z Y1 W) := HRV.out.trans (HY0.out.trans hy1)
            clear hw1 hy1
            go_wp2
            go_ret
            exact ⟨rfl, HW1.out, HY1.out⟩
          · have hvb : (v0 != 0) = true := by rw [bne_iff_ne]; exact hv0
            have HR2 : Hid (r = _) := HRr.out.trans (congrFun (if_pos hv0) _)
            obtain ⟨b', o', e', _, _, p2⟩ := hpY 1 (by omega)
            simp only [Option.some.injEq, Addr.mk.injEq, and_true] at e'
            obtain ⟨rfl, rfl⟩ := e'
            have HC2 : Hid (_) := HC.out Y0 f0 c0 1 (by omega) hy0 (by omega) hw0
            generalize pts.getD 1 0 = P2 at HC2 p2 HR2
            obtain ⟨r1, hr1⟩ : ∃ r1, val10 ps d t P2 xs (f0, c0) = r1 := ⟨_, rfl⟩
            rw [hr1] at HC2 HR2
            obtain rfl : r = r1 := HR2.out
            have HY0 : Hid (Wr V Y0 W) := hy0
            clear HR2 HRr hr1 hpY hw0 hy0
            go_wp2_with fail
            refine Calls.mono HC2.out ?_
            rintro e Y1 ⟨rfl, hw1, hy1⟩
            have HW1 : Hid (_) := hw1
            have HY1 : Hid (Wr Z Y1 W) := HRV.out.trans (HY0.out.trans hy1)
            clear hw1 hy1
            go_wp2
            go_ret
            exact ⟨rfl, HW1.out, HY1.out⟩
      · exact absurd hkd (by omega)


end Go.Proofs.YtkjojhkpoooimaaGreat

/-! The contract of chapter 10's specification: the value of a tree (two words). -/
namespace Go.Proofs.YtkjojhkpoooimaaGreat
open Go.RowKit

set_option maxHeartbeats 8000000 in
set_option maxRecDepth 100000 in
theorem specVal3 (B : World) (la : Option Addr) (lc : Nat) (ps : List Pk) (W : Nat) (_hP : PkgsIn B la ps.length ps) (_hlp : ps.length ≤ 1048576) (_hshp : ShortPs ps) (hflt : faultV ps = (0, [], [])) (hW : B.heap.size ≤ W) (d : Nat) (hd : d + 1 ≤ 20001) (ih : Val10 B la lc ps W d)
    (Z : World) (f : Nat) (ta : Option Addr) (tc : Nat) (t : List Nd) (m : Int) (a : Nat) (aa : Option Addr) (ac : Nat) (xs : List Int) (hB : Below B.heap.size B Z) (hf : f + 1 < d + 1) (hw : Wk Z W (.slice la ps.length lc) (f + 1) 0) (hin : NodesIn B ta t.length t) (htr : Tr10 ps t m) (hsh : ShortT t) (hlen : t.length ≤ 1048576) (hp : 0 ≤ endV t (a : Int)) (ha : As Z W aa xs) (hm : (xs.length : Int) = m) (hx : ∀ x ∈ xs, Word10 x) (hkd : 3 ≤ (t.getD a nd0).1 ∧ (t.getD a nd0).1 ≤ 6) :
    Calls Tryz.prog 74 #[.pointer (some ⟨W, 0, none⟩), .slice ta t.length tc, .int .i64 (a : Int), .slice aa xs.length ac] Z fun e Z' =>
      e = .returned (.int .i64 (val10 ps (d + 1) t (a : Int) xs (f + 1, 0)).1) ∧ Wk Z' W (.slice la ps.length lc) (val10 ps (d + 1) t (a : Int) xs (f + 1, 0)).2.1 (val10 ps (d + 1) t (a : Int) xs (f + 1, 0)).2.2 ∧ Wr Z Z' W := by
      have k0 := hw.c0
      have k1 := hw.c1
      have k2 := hw.c2
      have k3 := hw.fr 1
      have k4 := hw.fr 2
      have IH : Hid (Val10 B la lc ps W d) := ih
      clear ih
      rw [val_node]
      obtain ⟨hal, hnb, _, _, _⟩ := end_parts hp
      obtain ⟨n, hn⟩ : ∃ n, t.getD a nd0 = n := ⟨_, rfl⟩
      rw [hn] at hkd
      have hmem : n ∈ t := by rw [← hn]; simp [List.getD, hal]
      obtain ⟨bt, ot, rfl, hbt, q0, q1, q2, q3⟩ := (hin.below hB).2 a hal
      rw [hn] at q0 q1 q2 q3
      have hf1 : ((f + 1 : Nat) : Int) - 1 = (f : Int) := by omega
      have hfz : (((f + 1 : Nat) : Int) == 0) = false := beq_eq_false_iff_ne.2 (by omega)
      have hw1 := hw.fuel f
      have hr1 := wr_set Z W 1 (.int .i64 (f : Int))
      have hal2 : (a : Int) < (t.length : Int) := by omega
      have hbW : bt ≠ W := by
        obtain ⟨b', o', e, hb', _⟩ := hin.2 a hal
        simp only [Option.some.injEq, Addr.mk.injEq, and_true] at e
        omega
      replace q0 := wr_cell hr1 hbt hbW q0
      replace q1 := wr_cell hr1 hbt hbW q1
      replace q2 := wr_cell hr1 hbt hbW q2
      replace q3 := wr_cell hr1 hbt hbW q3
      obtain ⟨Z1, hZ1⟩ : ∃ Z1, Z.setCell ⟨W, 1, none⟩ (.int .i64 (f : Int)) = Z1 := ⟨_, rfl⟩
      rw [hZ1] at hw1 hr1 q0 q1 q2 q3
      have hnd := nodeB_iff.1 (htr.good n hmem)
      have harg := htr.arg n hmem
      have hcall := htr.call n hmem
      have HPl : Hid (∀ i, i < kidsN n → ∃ q : Nat, (pts10 t (a : Int)).getD i 0 = (q : Int) ∧ q < t.length ∧ 0 ≤ endV t (q : Int)) := fun i hi => part_place hp (by rw [hn]; exact hi)
      have hpl : (pts10 t (a : Int)).length = kidsN n := by rw [pts_len, hn]
      obtain ⟨kd, nA, np, nf⟩ := n
      unfold nodeP at hnd
      simp only at q0 q1 q2 q3 hnd harg hcall hkd
      obtain ⟨⟨n0, n1, n2, n3⟩, hbg⟩ := node_new Z1 (.int .i64 kd) (.int .i64 nA) (.string ⟨np.toArray⟩) (.string ⟨nf.toArray⟩) 46
      obtain ⟨X, hX⟩ : ∃ X, Z1.alloc (.cells #[.int .i64 kd, .int .i64 nA, .string ⟨np.toArray⟩, .string ⟨nf.toArray⟩] 46) = X := ⟨_, rfl⟩
      obtain ⟨G, hG⟩ : ∃ G, Z1.heap.size = G := ⟨_, rfl⟩
      rw [hX] at n0 n1 n2 n3 hbg
      rw [hG] at n0 n1 n2 n3
      have hGW : G ≠ W := by have := hw1.lt; omega
      have hGl : G < X.heap.size := World.block_lt_of_cell? X ⟨G, 0, none⟩ n0
      have hrX : Wr Z X W := hr1.trans (Wrote.of_below hbg)
      have hBX := wr_base hB hW hrX
      have hwX := hw1.below hbg
      have HPt : Hid (_) := specParts (some ⟨bt, ot, none⟩) tc t a X (hin.below hBX) hsh hlen hal (by rw [hn]; exact htr.good _ hmem)
      rw [hn] at HPt
      have HK : Hid (kidsN (kd, nA, np, nf) = (pts10 t (a : Int)).length) := hpl.symm
      have HPe : Hid (partsGo t (kidsN (kd, nA, np, nf)) ((a : Int) + 1) = pts10 t (a : Int)) := by
        exact (by unfold pts10; rw [Int.toNat_natCast, hn] : partsGo t (kidsN (kd, nA, np, nf)) ((a : Int) + 1) = pts10 t (a : Int))
      rw [HPe.out, HK.out] at HPt
      rw [HK.out] at HPl
      have hkl : (pts10 t (a : Int)).length = kidsN (kd, nA, np, nf) := HK.out.symm
      have hsX : W < X.heap.size := hwX.lt
      have haX := ha.wr hrX
      have HIN : Hid (NodesIn B (some ⟨bt, ot, none⟩) t.length t) := hin
      have HTR : Hid (Tr10 ps t m) := htr
      have HSH : Hid (ShortT t) := hsh
      have HX : Hid (∀ x ∈ xs, Word10 x) := hx
      have HLess : Hid (∀ (q : Int) (s : St10), (val10 ps d t q xs s).2.1 ≤ s.1) := fun q s => (Sk10.val ps d t q xs).less s
      have HWd : Hid (∀ (q : Int) (s : St10), Word10 (val10 ps d t q xs s).1) := fun q s => val_word (fun n => good_of (faultV_zero (by rw [hflt])).2.1 _ _) d t q xs htr.good hx s
      generalize hpts : pts10 t (a : Int) = pts at HPt HPl hkl
      have HPS : Hid (pts10 t (a : Int) = pts) := hpts
      obtain ⟨r, hr⟩ : ∃ r, node10 ps (val10 ps d) t (a : Int) xs (kd, nA, np, nf) (f, 0) = r := ⟨_, rfl⟩
      have HRr : Hid (r = _) := hr.symm
      rw [hn, hr]
      unfold node10 at HRr
      rw [HPS.out] at HRr
      simp only at HRr
      clear hr
      clear hw hin htr hsh hx hp ha hbt hn hmem hw1 hr1 hnb HPe HK hpts hpl
      go_enter Tryz.func74, Tryz.ntmps74
      go_wp2_with fail
      refine Calls.mono HPt.out ?_
      rintro e V ⟨v, rfl, ho, hb2⟩
      obtain ⟨pa, pc, rfl, hpV⟩ := as_own ho hsX
      have HV : Hid (∀ Y, Wr V Y W → (Y.cell? ⟨G, 0, none⟩ = some (.int .i64 kd) ∧ Y.cell? ⟨G, 1, none⟩ = some (.int .i64 nA) ∧ Y.cell? ⟨G, 2, none⟩ = some (.string ⟨np.toArray⟩) ∧ Y.cell? ⟨G, 3, none⟩ = some (.string ⟨nf.toArray⟩)) ∧ As Y W aa xs ∧ As Y W pa pts ∧ Below B.heap.size B Y ∧ Wr Z Y W) := fun Y hy =>
        have hxy : Wr X Y W := (Wrote.of_below hb2).trans hy
        ⟨⟨wr_cell hxy hGl hGW n0, wr_cell hxy hGl hGW n1, wr_cell hxy hGl hGW n2, wr_cell hxy hGl hGW n3⟩, haX.wr hxy, hpV.wr hy, wr_base hBX hW hxy, hrX.trans hxy⟩
      have hwV := hwX.below hb2
      have HC : Hid (∀ (Y : World) (g : Nat) (c : Int) (i : Nat), i < pts.length → Wr V Y W → g < d → Wk Y W (.slice la ps.length lc) g c → Calls Tryz.prog 74 #[.pointer (some ⟨W, 0, none⟩), .slice (some ⟨bt, ot, none⟩) t.length tc, .int .i64 (pts.getD i 0), .slice aa xs.length ac] Y fun e Y' =>
          e = .returned (.int .i64 (val10 ps d t (pts.getD i 0) xs (g, c)).1) ∧ Wk Y' W (.slice la ps.length lc) (val10 ps d t (pts.getD i 0) xs (g, c)).2.1 (val10 ps d t (pts.getD i 0) xs (g, c)).2.2 ∧ Wr Y Y' W) := fun Y g c i hi hy hg hwk => by
        obtain ⟨q, hq, _, hqe⟩ := HPl.out i hi
        have hv := HV.out Y hy
        exact IH.out.at hv.2.2.2.1 hg hwk HIN.out HTR.out HSH.out hlen hq hqe hv.2.1 hm HX.out tc ac
      obtain ⟨⟨g0, g1, g2, g3⟩, haV, hpV2, hBV, hrV⟩ := HV.out V (Wrote.refl _ _)
      have HWV : Hid (Wk V W (.slice la ps.length lc) f 0) := hwV
      have HRV : Hid (Wr Z V W) := hrV
      clear k0 k1 k2 k3 k4 q0 q1 q2 q3 ho hb2 n0 n1 n2 n3 hpV hwV hwX hBX haX HPt hBV hrV hrX hbg hGl
      rcases hnd with ⟨rfl, hA, rfl, rfl⟩ | ⟨rfl, hA, rfl, rfl⟩ | ⟨hk, rfl, rfl, rfl⟩ | ⟨rfl, hA, hnp, hnf⟩
      · exact absurd hkd (by omega)
      · exact absurd hkd (by omega)
      · rw [if_neg (by omega), if_neg (by omega)] at HRr
        have hkk : kidsN (kd, 0, [], []) = if kd = 7 then 3 else 2 := by
          unfold kidsN
          simp only
          by_cases h7 : kd = 7
          · rw [if_neg (by omega), if_pos h7, if_pos h7]
          · rw [if_pos (by omega), if_neg h7]
        rw [hkk] at hkl
        have h1b : (kd == 1) = false := beq_eq_false_iff_ne.2 (by omega)
        have h2b : (kd == 2) = false := beq_eq_false_iff_ne.2 (by omega)
        have h7 : ¬ kd = 7 := by omega
        · have h7b : (kd == 7) = false := beq_eq_false_iff_ne.2 h7
          have h8b : (kd == 8) = false := beq_eq_false_iff_ne.2 (by omega)
          rw [if_neg h7] at hkl
          rw [if_neg h7, if_neg (by omega)] at HRr
          obtain ⟨bp, op, rfl, _, _, p0⟩ := hpV2 0 (by omega)
          have HC0 := HC.out V f 0 0 (by omega) (Wrote.refl _ _) (by omega) HWV.out
          have HL0 := HLess.out (pts.getD 0 0) (f, 0)
          have HW0 := HWd.out (pts.getD 0 0) (f, 0)
          unfold bind10 at HRr
          dsimp only at HRr HL0
          obtain ⟨r0, hr0⟩ : ∃ r0, val10 ps d t (pts.getD 0 0) xs (f, 0) = r0 := ⟨_, rfl⟩
          rw [hr0] at HC0 HRr HL0 HW0
          have HC1 : Hid (_) := HC0
          rw [Nat.add_zero] at p0
          generalize hp0 : pts.getD 0 0 = P0 at HC1 p0
          clear hr0 HC0 hp0
          go_wp2_with fail
          refine Calls.mono HC1.out ?_
          rintro e Y0 ⟨rfl, hw0, hy0⟩
          obtain ⟨v0, f0, c0⟩ := r0
          simp only at hw0 HL0 HW0
          dsimp only at HRr
          obtain ⟨-, -, hpY, -, -⟩ := HV.out Y0 hy0
          clear HC1 p0
          obtain ⟨b', o', e', _, _, p2⟩ := hpY 1 (by omega)
          simp only [Option.some.injEq, Addr.mk.injEq, and_true] at e'
          obtain ⟨rfl, rfl⟩ := e'
          have HC2 : Hid (_) := HC.out Y0 f0 c0 1 (by omega) hy0 (by omega) hw0
          have HW1 := HWd.out (pts.getD 1 0) (f0, c0)
          generalize pts.getD 1 0 = P2 at HC2 p2 HRr HW1
          obtain ⟨r1, hr1⟩ : ∃ r1, val10 ps d t P2 xs (f0, c0) = r1 := ⟨_, rfl⟩
          rw [hr1] at HC2 HRr HW1
          have HY0 : Hid (Wr V Y0 W) := hy0
          clear hr1 hpY hw0 hy0
          go_wp2_with fail
          refine Calls.mono HC2.out ?_
          rintro e Y1 ⟨rfl, hw1, hy1⟩
          obtain ⟨v1, f1, c1⟩ := r1
          simp only at hw1 HW1
          dsimp only at HRr
          have HY1 : Hid (Wr V Y1 W) := HY0.out.trans hy1
          have g0 := (HV.out Y1 HY1.out).1.1
          have s2 := hw1.c2
          have s4 := hw1.fr 2
          have HWk : Hid (_) := hw1
          clear hw1 hy1 HY0 HC2 p2
          by_cases hc1 : c1 = 0
          · subst hc1
            have hD : Hid (_) := specL4Done kd v0 v1 Y1 HW0 HW1
            unfold fin10 at HRr
            dsimp only at HRr
            rw [if_neg (fun e => e rfl)] at HRr
            obtain ⟨dv, hdv⟩ : ∃ dv, doneV kd v0 v1 = dv := ⟨_, rfl⟩
            obtain ⟨db, hdb⟩ : ∃ db, doneB kd v0 v1 = db := ⟨_, rfl⟩
            have hz : db = false → dv = 0 := fun e => by rw [← hdv]; exact done_zero (by rw [hdb]; exact e)
            rw [hdv, hdb] at hD HRr
            clear hdv hdb
            go_wp2_with fail
            refine Calls.mono hD.out ?_
            rintro e Y2 ⟨rfl, hy2⟩
            obtain rfl := hy2.symm
            rcases db with _ | _
            · obtain rfl := hz rfl
              obtain rfl : r = (0, (f1, 1)) := HRr.out.trans (if_neg (by decide))
              have HWk2 : Hid (_) := HWk.out.code 1
              have HY2 : Hid (_) := HRV.out.trans (HY1.out.trans (wr_set Y1 W 2 (.int .i64 1)))
              clear HRr hz
              go_wp2
              go_ret
              exact ⟨rfl, HWk2.out, HY2.out⟩
            · obtain rfl : r = (dv, (f1, 0)) := HRr.out.trans (if_pos rfl)
              have HY2 : Hid (_) := HRV.out.trans HY1.out
              clear HRr hz
              go_wp2
              go_ret
              exact ⟨rfl, HWk.out, HY2.out⟩
          · obtain rfl : r = (0, (f1, c1)) := HRr.out.trans (if_pos hc1)
            have hcb : (c1 != 0) = true := by rw [bne_iff_ne]; exact hc1
            have HY2 : Hid (_) := HRV.out.trans HY1.out
            clear HRr
            go_wp2
            go_ret
            exact ⟨rfl, HWk.out, HY2.out⟩
      · exact absurd hkd (by omega)


end Go.Proofs.YtkjojhkpoooimaaGreat
