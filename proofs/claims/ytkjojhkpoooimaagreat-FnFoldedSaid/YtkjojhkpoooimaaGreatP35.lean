/-
  Parts of one proof, one behind the other: MeanS5, MeanS6, CheckS2.
-/
import Derived.Test.YtkjojhkpoooimaaGreatP34
import Derived.Test.YtkjojhkpoooimaaGreatP17
import Derived.Test.YtkjojhkpoooimaaGreatP16

/-! The contract of chapter 10's specification: the value of a tree (a call). -/
namespace Go.Proofs.YtkjojhkpoooimaaGreat
open Go.RowKit

set_option maxHeartbeats 8000000 in
set_option maxRecDepth 100000 in
theorem specVal8 (B : World) (la : Option Addr) (lc : Nat) (ps : List Pk) (W : Nat) (hP : PkgsIn B la ps.length ps) (hlp : ps.length ≤ 1048576) (hshp : ShortPs ps) (hflt : faultV ps = (0, [], [])) (hW : B.heap.size ≤ W) (d : Nat) (hd : d + 1 ≤ 20001) (ih : Val10 B la lc ps W d)
    (Z : World) (f : Nat) (ta : Option Addr) (tc : Nat) (t : List Nd) (m : Int) (a : Nat) (aa : Option Addr) (ac : Nat) (xs : List Int) (hB : Below B.heap.size B Z) (hf : f + 1 < d + 1) (hw : Wk Z W (.slice la ps.length lc) (f + 1) 0) (hin : NodesIn B ta t.length t) (htr : Tr10 ps t m) (hsh : ShortT t) (hlen : t.length ≤ 1048576) (hp : 0 ≤ endV t (a : Int)) (ha : As Z W aa xs) (hm : (xs.length : Int) = m) (hx : ∀ x ∈ xs, Word10 x) (hkd : (t.getD a nd0).1 = 8) :
    Calls Tryz.prog 74 #[.pointer (some ⟨W, 0, none⟩), .slice ta t.length tc, .int .i64 (a : Int), .slice aa xs.length ac] Z fun e Z' =>
      e = .returned (.int .i64 (val10 ps (d + 1) t (a : Int) xs (f + 1, 0)).1) ∧ Wk Z' W (.slice la ps.length lc) (val10 ps (d + 1) t (a : Int) xs (f + 1, 0)).2.1 (val10 ps (d + 1) t (a : Int) xs (f + 1, 0)).2.2 ∧ Wr Z Z' W := by
      have k0 := hw.c0
      have k1 := hw.c1
      have k2 := hw.c2
      have k3 := hw.fr 1
      have k4 := hw.fr 2
      have IH : Hid (Val10 B la lc ps W d) := ih
      clear ih
      rw [val_node]
      obtain ⟨hal, hnb, _, _, _⟩ := end_parts hp
      obtain ⟨n, hn⟩ : ∃ n, t.getD a nd0 = n := ⟨_, rfl⟩
      rw [hn] at hkd
      have hmem : n ∈ t := by rw [← hn]; simp [List.getD, hal]
      obtain ⟨bt, ot, rfl, hbt, q0, q1, q2, q3⟩ := (hin.below hB).2 a hal
      rw [hn] at q0 q1 q2 q3
      have hf1 : ((f + 1 : Nat) : Int) - 1 = (f : Int) := by omega
      have hfz : (((f + 1 : Nat) : Int) == 0) = false := beq_eq_false_iff_ne.2 (by omega)
      have hw1 := hw.fuel f
      have hr1 := wr_set Z W 1 (.int .i64 (f : Int))
      have hal2 : (a : Int) < (t.length : Int) := by omega
      have hbW : bt ≠ W := by
        obtain ⟨b', o', e, hb', _⟩ := hin.2 a hal
        simp only [Option.some.injEq, Addr.mk.injEq, and_true] at e
        omega
      replace q0 := wr_cell hr1 hbt hbW q0
      replace q1 := wr_cell hr1 hbt hbW q1
      replace q2 := wr_cell hr1 hbt hbW q2
      replace q3 := wr_cell hr1 hbt hbW q3
      obtain ⟨Z1, hZ1⟩ : ∃ Z1, Z.setCell ⟨W, 1, none⟩ (.int .i64 (f : Int)) = Z1 := ⟨_, rfl⟩
      rw [hZ1] at hw1 hr1 q0 q1 q2 q3
      have hnd := nodeB_iff.1 (htr.good n hmem)
      have harg := htr.arg n hmem
      have hcall := htr.call n hmem
      have HPl : Hid (∀ i, i < kidsN n → ∃ q : Nat, (pts10 t (a : Int)).getD i 0 = (q : Int) ∧ q < t.length ∧ 0 ≤ endV t (q : Int)) := fun i hi => part_place hp (by rw [hn]; exact hi)
      have hpl : (pts10 t (a : Int)).length = kidsN n := by rw [pts_len, hn]
      obtain ⟨kd, nA, np, nf⟩ := n
      unfold nodeP at hnd
      simp only at q0 q1 q2 q3 hnd harg hcall hkd
      have HKD : Hid (_) := hkd
      clear hkd
      obtain ⟨⟨n0, n1, n2, n3⟩, hbg⟩ := node_new Z1 (.int .i64 kd) (.int .i64 nA) (.string ⟨np.toArray⟩) (.string ⟨nf.toArray⟩) 46
      obtain ⟨X, hX⟩ : ∃ X, Z1.alloc (.cells #[.int .i64 kd, .int .i64 nA, .string ⟨np.toArray⟩, .string ⟨nf.toArray⟩] 46) = X := ⟨_, rfl⟩
      obtain ⟨G, hG⟩ : ∃ G, Z1.heap.size = G := ⟨_, rfl⟩
      rw [hX] at n0 n1 n2 n3 hbg
      rw [hG] at n0 n1 n2 n3
      have hGW : G ≠ W := by have := hw1.lt; omega
      have hGl : G < X.heap.size := World.block_lt_of_cell? X ⟨G, 0, none⟩ n0
      have hrX : Wr Z X W := hr1.trans (Wrote.of_below hbg)
      have hBX := wr_base hB hW hrX
      have hwX := hw1.below hbg
      have HPt : Hid (_) := specParts (some ⟨bt, ot, none⟩) tc t a X (hin.below hBX) hsh hlen hal (by rw [hn]; exact htr.good _ hmem)
      rw [hn] at HPt
      have HK : Hid (kidsN (kd, nA, np, nf) = (pts10 t (a : Int)).length) := hpl.symm
      have HPe : Hid (partsGo t (kidsN (kd, nA, np, nf)) ((a : Int) + 1) = pts10 t (a : Int)) := by
        exact (by unfold pts10; rw [Int.toNat_natCast, hn] : partsGo t (kidsN (kd, nA, np, nf)) ((a : Int) + 1) = pts10 t (a : Int))
      rw [HPe.out, HK.out] at HPt
      rw [HK.out] at HPl
      have hkl : (pts10 t (a : Int)).length = kidsN (kd, nA, np, nf) := HK.out.symm
      have hsX : W < X.heap.size := hwX.lt
      have haX := ha.wr hrX
      have HIN : Hid (NodesIn B (some ⟨bt, ot, none⟩) t.length t) := hin
      have HTR : Hid (Tr10 ps t m) := htr
      have HSH : Hid (ShortT t) := hsh
      have HX : Hid (∀ x ∈ xs, Word10 x) := hx
      have HLess : Hid (∀ (q : Int) (s : St10), (val10 ps d t q xs s).2.1 ≤ s.1) := fun q s => (Sk10.val ps d t q xs).less s
      have HWd : Hid (∀ (q : Int) (s : St10), Word10 (val10 ps d t q xs s).1) := fun q s => val_word (fun n => good_of (faultV_zero (by rw [hflt])).2.1 _ _) d t q xs htr.good hx s
      generalize hpts : pts10 t (a : Int) = pts at HPt HPl hkl
      have HPS : Hid (pts10 t (a : Int) = pts) := hpts
      obtain ⟨r, hr⟩ : ∃ r, node10 ps (val10 ps d) t (a : Int) xs (kd, nA, np, nf) (f, 0) = r := ⟨_, rfl⟩
      have HRr : Hid (r = _) := hr.symm
      rw [hn, hr]
      unfold node10 at HRr
      rw [HPS.out] at HRr
      simp only at HRr
      clear hr
      clear hw hin htr hsh hx hp ha hbt hn hmem hw1 hr1 hnb HPe HK hpts hpl
      go_enter Tryz.func74, Tryz.ntmps74
      go_wp2_with fail
      refine Calls.mono HPt.out ?_
      rintro e V ⟨v, rfl, ho, hb2⟩
      obtain ⟨pa, pc, rfl, hpV⟩ := as_own ho hsX
      have HV : Hid (∀ Y, Wr V Y W → (Y.cell? ⟨G, 0, none⟩ = some (.int .i64 kd) ∧ Y.cell? ⟨G, 1, none⟩ = some (.int .i64 nA) ∧ Y.cell? ⟨G, 2, none⟩ = some (.string ⟨np.toArray⟩) ∧ Y.cell? ⟨G, 3, none⟩ = some (.string ⟨nf.toArray⟩)) ∧ As Y W aa xs ∧ As Y W pa pts ∧ Below B.heap.size B Y ∧ Wr Z Y W) := fun Y hy =>
        have hxy : Wr X Y W := (Wrote.of_below hb2).trans hy
        ⟨⟨wr_cell hxy hGl hGW n0, wr_cell hxy hGl hGW n1, wr_cell hxy hGl hGW n2, wr_cell hxy hGl hGW n3⟩, haX.wr hxy, hpV.wr hy, wr_base hBX hW hxy, hrX.trans hxy⟩
      have hwV := hwX.below hb2
      have HC : Hid (∀ (Y : World) (g : Nat) (c : Int) (i : Nat), i < pts.length → Wr V Y W → g < d → Wk Y W (.slice la ps.length lc) g c → Calls Tryz.prog 74 #[.pointer (some ⟨W, 0, none⟩), .slice (some ⟨bt, ot, none⟩) t.length tc, .int .i64 (pts.getD i 0), .slice aa xs.length ac] Y fun e Y' =>
          e = .returned (.int .i64 (val10 ps d t (pts.getD i 0) xs (g, c)).1) ∧ Wk Y' W (.slice la ps.length lc) (val10 ps d t (pts.getD i 0) xs (g, c)).2.1 (val10 ps d t (pts.getD i 0) xs (g, c)).2.2 ∧ Wr Y Y' W) := fun Y g c i hi hy hg hwk => by
        obtain ⟨q, hq, _, hqe⟩ := HPl.out i hi
        have hv := HV.out Y hy
        exact IH.out.at hv.2.2.2.1 hg hwk HIN.out HTR.out HSH.out hlen hq hqe hv.2.1 hm HX.out tc ac
      obtain ⟨⟨g0, g1, g2, g3⟩, haV, hpV2, hBV, hrV⟩ := HV.out V (Wrote.refl _ _)
      have HWV : Hid (Wk V W (.slice la ps.length lc) f 0) := hwV
      have HRV : Hid (Wr Z V W) := hrV
      clear k0 k1 k2 k3 k4 q0 q1 q2 q3 ho hb2 n0 n1 n2 n3 hpV hwV hwX hBX haX HPt hBV hrV hrX hbg hGl
      have hkd := HKD.out
      clear HKD
      rcases hnd with ⟨rfl, hA, rfl, rfl⟩ | ⟨rfl, hA, rfl, rfl⟩ | ⟨hk, rfl, rfl, rfl⟩ | ⟨rfl, hA, hnp, hnf⟩
      · exact absurd hkd (by omega)
      · exact absurd hkd (by omega)
      · exact absurd hkd (by omega)
      · clear hkd
        have hkk : kidsN (8, nA, np, nf) = nA.toNat := rfl
        rw [hkk] at hkl
        obtain ⟨h8, h7, hm7⟩ := hcall rfl
        rw [if_neg (by decide), if_neg (by decide), if_neg (by decide), if_pos rfl] at HRr
        have htt : tree10 ps (8, nA, np, nf) = (fnOf10 ps np nf).2.2 := rfl
        rw [htt] at HRr
        have htr8 := tr_of hflt h8 h7
        rw [hm7] at htr8
        have HT8 : Hid (Tr10 ps (fnOf10 ps np nf).2.2 nA) := htr8
        have HO0 : Hid ((V.alloc (.cells #[] 2)).ownsRow V.heap.size 2 1 (.slice (some ⟨V.heap.size, 0, none⟩) 0 0) 0 (intsV [])) := World.ownsRow_lit (base := V.heap.size) (e := 2) (size := 1) V #[] 0 (Nat.le_refl _) (by decide) rfl
        have hbA : Below V.heap.size V (V.alloc (.cells #[] 2)) := (Below.refl _ _).alloc (Nat.le_refl _) _
        have HWA : Hid (_) := HWV.out.below hbA
        have HRA : Hid (Wr V (V.alloc (.cells #[] 2)) W) := Wrote.of_below hbA
        have hWV : W < V.heap.size := HWV.out.lt
        have HR0 : Hid (r = args10 (fun p => val10 ps d t p xs) (pts.drop 0) [] (fun own => val10 ps d (fnOf10 ps np nf).2.2 0 own) (f, 0)) := HRr.out
        obtain ⟨K, hK⟩ : ∃ K, (fun own => val10 ps d (fnOf10 ps np nf).2.2 0 own) = K := ⟨_, rfl⟩
        have HKe : Hid ((fun own => val10 ps d (fnOf10 ps np nf).2.2 0 own) = K) := hK
        rw [hK] at HR0
        have h1b : ((8 : Int) == 1) = false := rfl
        clear HRr hbA htr8 hcall hm7 hK htt g0 g1 g2 g3
        obtain ⟨⟨g0, g1, g2, g3⟩, -, -, -, -⟩ := HV.out V (Wrote.refl _ _)
        go_wp2
        go_loopw [12, 13] (fun ov iv wx => ∃ (i : Nat) (acc : List Int) (oa : Option Addr) (oc g : Nat) (c : Int), ov = .slice oa i oc ∧ iv = .int .i64 (i : Int) ∧ i ≤ pts.length ∧ g ≤ f ∧ Hid (r = args10 (fun p => val10 ps d t p xs) (pts.drop i) acc K (g, c)) ∧ Hid (acc.length = i) ∧ Hid (∀ x ∈ acc, Word10 x) ∧ Hid (wx.ownsRow V.heap.size 2 1 (.slice oa i oc) i (intsV acc)) ∧ Hid (Wk wx W (.slice la ps.length lc) g c) ∧ Hid (Wr V wx W)) (fun _ iv _ => pts.length - (intOf iv).toNat)
        case atStart => exact ⟨0, [], _, 0, f, 0, rfl, rfl, by omega, by omega, HR0, rfl, (fun x hx => by cases hx), HO0, HWA, HRA⟩
        case round =>
          obtain ⟨i, acc, oa, oc, g, c, rfl, rfl, hi, hgf, HR, HLa, HWo, HO, HWk, HY⟩ := hrel
          clear HO0 HWA HRA HR0
          obtain ⟨⟨g0, g1, g2, g3⟩, -, hpY, hBY, -⟩ := HV.out wr HY.out
          by_cases hlt : (i : Int) < (pts.length : Int)
          · have hi2 : i < pts.length := by omega
            obtain ⟨bp, op, rfl, _, _, p0⟩ := hpY i hi2
            have HC0 := HC.out wr g c i hi2 HY.out (by omega) HWk.out
            have hst := HR.out.trans (args_drop (fun p => val10 ps d t p xs) K hi2 acc (g, c))
            have HL0 := HLess.out (pts.getD i 0) (g, c)
            have HW0 := HWd.out (pts.getD i 0) (g, c)
            dsimp only at hst HL0
            generalize pts.getD i 0 = P0 at HC0 p0 hst HL0 HW0
            obtain ⟨r0, hr0⟩ : ∃ r0, val10 ps d t P0 xs (g, c) = r0 := ⟨_, rfl⟩
            rw [hr0] at HC0 hst HL0 HW0
            have HC1 : Hid (_) := HC0
            have HSt : Hid (_) := hst
            obtain ⟨v0, f0, c0⟩ := r0
            simp only at HL0 HW0
            clear HC0 hst hr0 hpY hBY
            go_wp2_with fail
            refine Calls.mono HC1.out ?_
            rintro e Y0 ⟨rfl, hw0, hy0⟩
            have hO0 := own_wrote HO.out hy0 (fun k e h => by have := (HO.out.lt k e).1; omega)
            have hVY := HY.out.trans hy0
            obtain ⟨v', Y, hr, ho, hg⟩ := push_int v0 hO0 hVY.size (by omega)
            obtain ⟨g', c', rfl⟩ := own_some ho (by omega)
            have hVY2 : Wr V Y W := wr_push hVY hg (fun k e => (hO0.lt k e).1)
            have HWY : Hid (Wk Y W (.slice la ps.length lc) f0 c0) := hw0.keep (hg.block W hw0.lt (fun e => by have := (hO0.lt W e.symm).1; omega))
            have HOY : Hid (Y.ownsRow V.heap.size 2 1 (.slice (some ⟨g', 0, none⟩) (i + 1) c') (i + 1) (intsV (acc ++ [v0]))) := ho
            have HYY : Hid (Wr V Y W) := hVY2
            have HLa2 : Hid ((acc ++ [v0]).length = i + 1) := by exact (by rw [List.length_append, HLa.out]; rfl : (acc ++ [v0]).length = i + 1)
            have HWo2 : Hid (∀ x ∈ acc ++ [v0], Word10 x) := fun x hx => by
              rcases List.mem_append.1 hx with h | h
              · exact HWo.out x h
              · rw [List.mem_singleton.1 h]; exact HW0
            clear hw0 hy0 hO0 hVY ho hg hVY2 HC1 p0
            go_wp2_with (at_builtin; refine wpList_append_run rfl (.tmp 94) (.tmp 103) 38 rfl _ _ _ rfl rfl hr ?_; clear hr)
            go_roundw
            case rel => exact ⟨i + 1, acc ++ [v0], _, c', f0, c0, rfl, by go_num, by omega, by omega, HSt, HLa2, HWo2, HOY, HWY, HYY⟩
            case measure => simp [intOf]; omega
          · have HIe : Hid (i = pts.length) := by exact (by omega : i = pts.length)
            have HRe : Hid (r = K acc (g, c)) := by
              exact (by rw [HR.out, List.drop_of_length_le (by have := HIe.out; omega)]; rfl : r = K acc (g, c))
            have HRf : Hid (r = val10 ps d (fnOf10 ps np nf).2.2 0 acc (g, c)) := by
              exact (by rw [HRe.out, ← HKe.out] : r = val10 ps d (fnOf10 ps np nf).2.2 0 acc (g, c))
            have s0 := HWk.out.c0
            have s2 := HWk.out.c2
            clear HR HRe
            by_cases hc : c = 0
            rotate_left
            · obtain rfl : r = (0, (g, c)) := HRf.out.trans (val_stop ps d _ 0 acc g hc)
              have hcb : (c != 0) = true := by rw [bne_iff_ne]; exact hc
              have HY2 : Hid (_) := HRV.out.trans HY.out
              clear HRf
              go_wp2
              go_ret
              exact ⟨rfl, HWk.out, HY2.out⟩
            · subst hc
              obtain ⟨q, hq, e8, hnq, _⟩ : ∃ q, q < ps.length ∧ at8 ps np = (q : Int) ∧ nmAt ps q = np ∧ np ∈ names8 ps := by
                rcases at8_is ps np with ⟨e, _⟩ | h
                · omega
                · exact h
              have hpq : pkOf ps np = ps.getD q pk0 := by unfold pkOf; rw [e8, Int.toNat_natCast]
              obtain ⟨kf, hkf, e7, _⟩ : ∃ i, i < (pkOf ps np).2.2.length ∧ atV (pkOf ps np).2.2 nf = (i : Int) ∧ ((pkOf ps np).2.2.getD i fn0).1 = nf := by
                rcases at7_is (pkOf ps np).2.2 nf with e | h
                · omega
                · exact h
              have hfo : fnOf10 ps np nf = (pkOf ps np).2.2.getD kf fn0 := by unfold fnOf10; rw [e7, Int.toNat_natCast]
              have HPY : Hid (PkgsIn wr la ps.length ps) := hP.below hBY
              obtain ⟨lb, lo, rfl, hlb, l0, ia, il, ic, fa, fl, fc, l1, l2, _, hFB⟩ := hP.2 q hq
              rw [← hpq] at l0 hFB
              have hsq := hshp q
              rw [← hpq] at hsq
              have hfl : (pkOf ps np).2.2.length = fl := hFB.1
              obtain ⟨fb, fo, rfl, hfb, _, _, ua, ul, uc, u2, _, hNB⟩ := hFB.2 kf (by omega)
              have hFw := hFB.below hBY
              rw [← hfo] at hNB
              obtain rfl : (fnOf10 ps np nf).2.2.length = ul := hNB.1
              have hst := (hsq.2.2.2.2 kf).2.2
              have hsl := (hsq.2.2.2.2 kf).2.1
              rw [← hfo] at hst hsl
              have hlb2 := Nat.lt_of_lt_of_le hlb hBY.size
              have hfb2 := Nat.lt_of_lt_of_le hfb hBY.size
              have hbl0 : lb ≠ W := by omega
              have hbf0 : fb ≠ W := by omega
              replace l0 := (hBY.cell (p := ⟨lb, lo + q * 3, none⟩) hlb).trans l0
              replace l1 := (hBY.cell (p := ⟨lb, lo + q * 3 + 1, none⟩) hlb).trans l1
              replace l2 := (hBY.cell (p := ⟨lb, lo + q * 3 + 2, none⟩) hlb).trans l2
              replace u2 := (hBY.cell (p := ⟨fb, fo + kf * 3 + 2, none⟩) hfb).trans u2
              have hfl2 : fl ≤ 1048576 := by rw [← hfl]; exact hsq.2.2.2.1
              obtain ⟨nmq, hnmq⟩ : ∃ x, (pkOf ps np).1 = x := ⟨_, rfl⟩
              obtain ⟨fsq, hfsq⟩ : ∃ x, (pkOf ps np).2.2 = x := ⟨_, rfl⟩
              rw [hnmq] at l0
              rw [hfsq] at hFw e7
              have HA8 : Hid (∀ Y, Below wr.heap.size wr Y → Calls Tryz.prog 42 #[.slice (some ⟨lb, lo, none⟩) ps.length lc, .string ⟨np.toArray⟩] Y fun e w' => e = .returned (.int .i64 (q : Int)) ∧ w' = Y) := fun Y hy => by
                have h := specAt8 (some ⟨lb, lo, none⟩) ps.length lc ps np Y (HPY.out.below hy) hlp
                rw [e8] at h
                exact h
              have HA7 : Hid (∀ Y, Below wr.heap.size wr Y → Calls Tryz.prog 35 #[.agg #[.string ⟨nmq.toArray⟩, .slice ia il ic, .slice (some ⟨fb, fo, none⟩) fl fc], .string ⟨nf.toArray⟩] Y fun e w' => e = .returned (.int .i64 (kf : Int)) ∧ Below Y.heap.size Y w') := fun Y hy => by
                have h := specAt nmq nf ia il ic (some ⟨fb, fo, none⟩) fl fc fsq Y (hFw.below hy) hfl2
                rw [e7] at h
                exact h
              have hOa := HO.out
              rw [← HLa.out] at hOa
              obtain ⟨oa', oc', eo, hAo⟩ := as_own hOa hWV
              injection eo with eo1 _ eo3
              subst eo1
              have HCal : Hid (∀ Y, Below wr.heap.size wr Y → Calls Tryz.prog 74 #[.pointer (some ⟨W, 0, none⟩), .slice ua (fnOf10 ps np nf).2.2.length uc, .int .i64 0, .slice oa i oc] Y fun e Y' => e = .returned (.int .i64 r.1) ∧ Wk Y' W (.slice (some ⟨lb, lo, none⟩) ps.length lc) r.2.1 r.2.2 ∧ Wr Y Y' W) := fun Y hy => by
                have h := IH.out.at (hBY.trans (hy.mono hBY.size)) (show g < d by omega) (HWk.out.below hy) hNB HT8.out hst hsl (q := 0) (k := 0) rfl HT8.out.root (hAo.below hy) (by have := HLa.out; have := HIe.out; omega) HWo.out uc oc
                rw [← HRf.out, HLa.out] at h
                exact h
              have hq2 : (q : Int) < (ps.length : Int) := by omega
              have hkf2 : (kf : Int) < (fl : Int) := by omega
              have hGl2 : G < wr.heap.size := World.block_lt_of_cell? wr ⟨G, 3, none⟩ g3
              obtain ⟨bx, hbx⟩ := Box3.new wr (.string ⟨nmq.toArray⟩) (.slice ia il ic) (.slice (some ⟨fb, fo, none⟩) fl fc) 30
              have HX2 : Hid (∀ Y, Below (wr.alloc (.cells #[.string ⟨nmq.toArray⟩, .slice ia il ic, .slice (some ⟨fb, fo, none⟩) fl fc] 30)).heap.size (wr.alloc (.cells #[.string ⟨nmq.toArray⟩, .slice ia il ic, .slice (some ⟨fb, fo, none⟩) fl fc] 30)) Y → Box3 Y wr.heap.size (.string ⟨nmq.toArray⟩) (.slice ia il ic) (.slice (some ⟨fb, fo, none⟩) fl fc) ∧ Y.cell? ⟨G, 3, none⟩ = some (.string ⟨nf.toArray⟩) ∧ Y.cell? ⟨fb, fo + kf * 3 + 2, none⟩ = some (.slice ua (fnOf10 ps np nf).2.2.length uc) ∧ Below wr.heap.size wr Y) := fun Y hy =>
                have hwy := hbx.trans (hy.mono hbx.size)
                ⟨bx.below hy, (hwy.cell (p := ⟨G, 3, none⟩) hGl2).trans g3, (hwy.cell (p := ⟨fb, fo + kf * 3 + 2, none⟩) hfb2).trans u2, hwy⟩
              have hEW : wr.heap.size ≠ W := by have := HWk.out.lt; omega
              obtain ⟨E, hE⟩ : ∃ E, wr.heap.size = E := ⟨_, rfl⟩
              rw [hE] at HX2 hEW
              obtain ⟨tl8, htl8⟩ : ∃ n, (fnOf10 ps np nf).2.2.length = n := ⟨_, rfl⟩
              rw [htl8] at HCal HX2
              have HB27 : Hid (Below E wr wr.drew) := ⟨rfl, rfl, rfl, Nat.le_refl _, fun _ _ => rfl⟩
              have h28 : Below wr.heap.size wr (wr.alloc (.cells #[.string ⟨#[]⟩, .slice none 0 0, .slice none 0 0] 30)) := (Below.refl _ _).alloc (Nat.le_refl _) _
              rw [hE] at h28
              have HB28 : Hid (Below E wr (wr.alloc (.cells #[.string ⟨#[]⟩, .slice none 0 0, .slice none 0 0] 30)).drew) := ⟨h28.os, h28.tape, h28.output, h28.size, h28.block⟩
              have HRV2 : Hid (Wr Z wr W) := HRV.out.trans HY.out
              rw [hE] at HA8 HA7 HCal
              clear h28 bx hbx hAo hOa eo3 hNB hst hsl hFB hFw hsq hpq hfo e7 e8 hnmq hfsq HRf HT8 HPY u2 htl8 hfl h8 h7 IH HC HV HLess HWd hBY hGl2
              go_upto_region 27 with fail
              go_region_held3 (fun w' => w'.cell? ⟨W, 0, none⟩ = some (.slice (some ⟨lb, lo, none⟩) ps.length lc) ∧ w'.cell? ⟨G, 2, none⟩ = some (.string ⟨np.toArray⟩) ∧ w'.cell? ⟨lb, lo + q * 3, none⟩ = some (.string ⟨nmq.toArray⟩) ∧ w'.cell? ⟨lb, lo + q * 3 + 1, none⟩ = some (.slice ia il ic) ∧ w'.cell? ⟨lb, lo + q * 3 + 2, none⟩ = some (.slice (some ⟨fb, fo, none⟩) fl fc)) (go_keep) (first | (go_at_call 42; refine Calls.mono (HA8.out _ (by first | exact HB27.out | exact HB28.out)) ?_; rintro e wn ⟨rfl, hwn⟩; obtain rfl := hwn.symm))
              all_goals
                obtain ⟨X2, hX2⟩ : ∃ X2, (wr.alloc (.cells #[.string ⟨nmq.toArray⟩, .slice ia il ic, .slice (some ⟨fb, fo, none⟩) fl fc] 30)) = X2 := ⟨_, rfl⟩
                rw [hX2] at HX2 ⊢
                have HB1 : Hid (Below X2.heap.size X2 X2.drew.drew) := ⟨rfl, rfl, rfl, Nat.le_refl _, fun _ _ => rfl⟩
                obtain ⟨⟨b0, b1, b2⟩, y3, yf, hwy⟩ := HX2.out X2.drew ⟨rfl, rfl, rfl, Nat.le_refl _, fun _ _ => rfl⟩
                clear l0 l1 l2 s0 s2 g0 g1 g2 g3
                go_upto_region 28 with fail
                go_region_held3 (fun w' => w'.cell? ⟨E, 0, none⟩ = some (.string ⟨nmq.toArray⟩) ∧ w'.cell? ⟨E, 1, none⟩ = some (.slice ia il ic) ∧ w'.cell? ⟨E, 2, none⟩ = some (.slice (some ⟨fb, fo, none⟩) fl fc) ∧ w'.cell? ⟨G, 3, none⟩ = some (.string ⟨nf.toArray⟩) ∧ w'.cell? ⟨fb, fo + kf * 3 + 2, none⟩ = some (.slice ua tl8 uc)) (go_keep) (first
                  | (go_at_call 74; refine Calls.mono (HCal.out _ (HX2.out _ HB1.out).2.2.2) ?_; rintro e wm ⟨rfl, hwm, hym⟩; have hsz := (HX2.out _ HB1.out).2.2.2.size; replace b0 := wr_cell hym (World.block_lt_of_cell? _ ⟨E, 0, none⟩ b0) hEW b0; replace b1 := wr_cell hym (World.block_lt_of_cell? _ ⟨E, 1, none⟩ b1) hEW b1; replace b2 := wr_cell hym (World.block_lt_of_cell? _ ⟨E, 2, none⟩ b2) hEW b2; replace y3 := wr_cell hym (World.block_lt_of_cell? _ ⟨G, 3, none⟩ y3) hGW y3; replace yf := wr_cell hym (World.block_lt_of_cell? _ ⟨fb, _, none⟩ yf) hbf0 yf; have HWm : Hid (_) := hwm; have HYm : Hid (_) := HRV2.out.trans ((Wrote.of_below (by rw [hE]; exact (HX2.out _ HB1.out).2.2.2)).trans hym); clear hwm hym hsz)
                  | (go_at_call 35; refine Calls.mono (HA7.out _ (HX2.out _ HB1.out).2.2.2) ?_; rintro e wn ⟨rfl, hbn⟩; replace HB1 : Hid (Below X2.heap.size X2 wn) := HB1.out.trans (hbn.mono HB1.out.size); clear hbn b0 b1 b2 y3 yf hwy; obtain ⟨⟨b0, b1, b2⟩, y3, yf, hwy⟩ := HX2.out wn HB1.out))
                all_goals
                  go_wp2
                  go_ret
                  exact ⟨rfl, HWm.out, HYm.out⟩

end Go.Proofs.YtkjojhkpoooimaaGreat

/-! The contract of chapter 10's specification: the value of a tree, whole. -/
namespace Go.Proofs.YtkjojhkpoooimaaGreat
open Go.RowKit

set_option maxHeartbeats 4000000 in
set_option maxRecDepth 100000 in
theorem specVal (B : World) (la : Option Addr) (lc : Nat) (ps : List Pk) (W : Nat) (hP : PkgsIn B la ps.length ps) (hshp : ShortPs ps) (hlp : ps.length ≤ 1048576) (hflt : faultV ps = (0, [], [])) (hW : B.heap.size ≤ W) : ∀ d, d ≤ 20001 → Val10 B la lc ps W d
  | 0, _ => fun Z f c ta tc t m a aa ac xs hB hf => absurd hf (Nat.not_lt_zero _)
  | d + 1, hd => by
    have ih := specVal B la lc ps W hP hshp hlp hflt hW d (by omega)
    intro Z f c ta tc t m a aa ac xs hB hf hw hin htr hsh hlen hp ha hm hx
    by_cases hc : c = 0
    rotate_left
    · have k0 := hw.c0
      have k2 := hw.c2
      rw [val_stop ps (d + 1) t a xs f hc]
      have hcb : (c != 0) = true := by rw [bne_iff_ne]; exact hc
      have HW : Hid (_) := hw
      clear hw hin htr hsh hp ha hx hB ih
      go_enter Tryz.func74, Tryz.ntmps74
      go_wp2
      go_ret
      exact ⟨rfl, HW.out, Wrote.refl _ _⟩
    subst hc
    rcases f with _ | f
    · have k0 := hw.c0
      have k1 := hw.c1
      have k2 := hw.c2
      have k4 := hw.fr 2
      rw [val_dry]
      have HW : Hid (_) := hw.code 2
      have HR : Hid (_) := wr_set Z W 2 (.int .i64 2)
      clear hw hin htr hsh hp ha hx hB ih
      go_enter Tryz.func74, Tryz.ntmps74
      go_wp2
      go_ret
      exact ⟨rfl, HW.out, HR.out⟩
    · obtain ⟨hal, _, _, _, _⟩ := end_parts hp
      have hmem : t.getD a nd0 ∈ t := by simp [List.getD, hal]
      have hnd := nodeB_iff.1 (htr.good _ hmem)
      unfold nodeP at hnd
      rcases hnd with h | h | h | h
      · exact specVal2 B la lc ps W hP hlp hshp hflt hW d hd ih Z f ta tc t m a aa ac xs hB hf hw hin htr hsh hlen hp ha hm hx (by omega)
      · exact specVal2 B la lc ps W hP hlp hshp hflt hW d hd ih Z f ta tc t m a aa ac xs hB hf hw hin htr hsh hlen hp ha hm hx (by omega)
      · by_cases h7 : (t.getD a nd0).1 = 7
        · exact specVal7 B la lc ps W hP hlp hshp hflt hW d hd ih Z f ta tc t m a aa ac xs hB hf hw hin htr hsh hlen hp ha hm hx h7
        · exact specVal3 B la lc ps W hP hlp hshp hflt hW d hd ih Z f ta tc t m a aa ac xs hB hf hw hin htr hsh hlen hp ha hm hx (by omega)
      · exact specVal8 B la lc ps W hP hlp hshp hflt hW d hd ih Z f ta tc t m a aa ac xs hB hf hw hin htr hsh hlen hp ha hm hx h.1

end Go.Proofs.YtkjojhkpoooimaaGreat

/-! The contracts of chapter 9's specification: CallCode, what is wrong in a function. -/
namespace Go.Proofs.YtkjojhkpoooimaaGreat
open Go.RowKit


set_option maxHeartbeats 4000000 in
set_option maxRecDepth 100000 in
theorem specFunc9 (a : Option Addr) (len cap : Nat) (ps : List Pk) (nm : List UInt8) (ia : Option Addr) (il ic : Nat) (fa : Option Addr) (fl fc : Nat) (ims : List (List UInt8)) (fs : List Fn) (i : Nat) (w : World)
    (hl : PkgsIn w a len ps) (hi : TextsIn w ia il ims) (hf : FuncsIn w fa fl fs) (hlen : len ≤ 1048576) (hil : il ≤ 1048576) (hfl : fl ≤ 1048576) (hsh : ShortPs ps) (hil2 : i < fl) (htl : ∀ j, (fs.getD j fn0).2.2.length ≤ 1048576) :
    Calls Tryz.prog 97 #[.slice a len cap, .agg #[.string ⟨nm.toArray⟩, .slice ia il ic, .slice fa fl fc], .int .i64 (i : Int)] w fun e w' => e = .returned (.int .i64 (func9 ps (nm, ims, fs) i)) ∧ Below w.heap.size w w' := by
  have HC9 : Hid (∀ W n, PkgsIn W a len ps → TextsIn W ia il ims → FuncsIn W fa fl fs → Calls Tryz.prog 98 #[.slice a len cap, .agg #[.string ⟨nm.toArray⟩, .slice ia il ic, .slice fa fl fc], .int .i64 (i : Int), nodeVal n] W fun e w' => e = .returned (.int .i64 (call9 ps (nm, ims, fs) (i : Int) n)) ∧ Below W.heap.size W w') := fun W n h1 h2 h3 => specCall9 a len cap ps nm ia il ic fa fl fc ims fs (i : Int) n W h1 h2 h3 hlen hil hfl hsh
  obtain ⟨bx, hbx⟩ := Box3.new w (.string ⟨nm.toArray⟩) (.slice ia il ic) (.slice fa fl fc) 30
  obtain ⟨W1, hW1⟩ : ∃ W1, w.alloc (.cells #[.string ⟨nm.toArray⟩, .slice ia il ic, .slice fa fl fc] 30) = W1 := ⟨_, rfl⟩
  have hs1 : W1.heap.size = w.heap.size + 1 := by rw [← hW1]; simp
  rw [hW1] at bx hbx
  obtain ⟨b, off, rfl, hbl, r0, r1, ta, tl, tc, r2, _, hnd⟩ := (hf.below hbx).2 i hil2
  obtain ⟨f, hfe⟩ : ∃ f, fs.getD i fn0 = f := ⟨_, rfl⟩
  have htl2 := htl i
  have HV : Hid (func9 ps (nm, ims, fs) i = fnGo ps (nm, ims, fs) i f f.2.2 0) := by exact (by unfold func9; simp only; rw [hfe] : func9 ps (nm, ims, fs) i = fnGo ps (nm, ims, fs) i f f.2.2 0)
  rw [hfe] at r0 r1 hnd htl2
  obtain ⟨fnm, fA, t⟩ := f
  simp only at r0 r1 hnd htl2
  obtain rfl : t.length = tl := hnd.1
  obtain ⟨fx, hfx⟩ := Box3.new W1 (.string ⟨fnm.toArray⟩) (.int .i64 fA) (.slice ta t.length tc) 52
  obtain ⟨W2, hW2⟩ : ∃ W2, W1.alloc (.cells #[.string ⟨fnm.toArray⟩, .int .i64 fA, .slice ta t.length tc] 52) = W2 := ⟨_, rfl⟩
  rw [hW2] at fx hfx
  rw [hs1] at fx
  have p2 := bx.c2
  have p0 := bx.c0
  have p1 := bx.c1
  have hbw : Below w.heap.size w W2 := hbx.trans (hfx.mono (by omega))
  have hs2 : W2.heap.size = w.heap.size + 1 + 1 := by rw [← hW2]; simp [hs1]
  have HZ : Hid (∀ Z, Below W2.heap.size W2 Z → Box3 Z w.heap.size (.string ⟨nm.toArray⟩) (.slice ia il ic) (.slice (some ⟨b, off, none⟩) fl fc) ∧ Box3 Z (w.heap.size + 1) (.string ⟨fnm.toArray⟩) (.int .i64 fA) (.slice ta t.length tc) ∧ NodesIn Z ta t.length t ∧ PkgsIn Z a len ps ∧ TextsIn Z ia il ims ∧ FuncsIn Z (some ⟨b, off, none⟩) fl fs ∧ Below w.heap.size w Z) := fun Z hz => ⟨(bx.below hfx).below hz, fx.below hz, (hnd.below hfx).below hz, (hl.below hbw).below hz, (hi.below hbw).below hz, (hf.below hbw).below hz, hbw.trans (hz.mono hbw.size)⟩
  have g1 := fx.c1
  have hiz : (i : Int) < (fl : Int) := by omega
  clear bx hbx fx hfx hnd hl hi hf hbw hsh htl hfe
  go_enter Tryz.func97, Tryz.ntmps97
  go_wp2
  clear p0 p1 p2 r0 r1 r2
  go_loopw [8, 9] (fun cv jv wr => ∃ (j : Nat) (c : Int), cv = .int .i64 c ∧ jv = .int .i64 (j : Int) ∧ j ≤ t.length ∧ Hid (func9 ps (nm, ims, fs) i = fnGo ps (nm, ims, fs) i (fnm, fA, t) (t.drop j) c) ∧ Hid (Below W2.heap.size W2 wr)) (fun _ jv _ => t.length - (intOf jv).toNat)
  case atStart => exact ⟨0, 0, rfl, rfl, by omega, (by exact (by rw [HV.out, List.drop_zero] : func9 ps (nm, ims, fs) i = fnGo ps (nm, ims, fs) i (fnm, fA, t) (t.drop 0) 0)), Below.refl _ _⟩
  case round =>
    obtain ⟨j, c, rfl, rfl, hj, HG, HB⟩ := hrel
    obtain ⟨bp, bf, hnd, hpk, hti, hfi, hbw⟩ := HZ.out wr HB.out
    have q0 := bp.c0
    have q1 := bp.c1
    have q2 := bp.c2
    have g0 := bf.c0
    have g1 := bf.c1
    have g2 := bf.c2
    by_cases hlt : (j : Int) < (t.length : Int)
    · have hj2 : j < t.length := by omega
      obtain ⟨bn, on, rfl, _, m0, m1, m2, m3⟩ := hnd.2 j hj2
      have hdr := fnGo_drop (ps := ps) (p := (nm, ims, fs)) (i := i) (f := (fnm, fA, t)) hj2 c
      rw [← HG.out] at hdr
      obtain ⟨n, hn⟩ : ∃ n, t.getD j nd0 = n := ⟨_, rfl⟩
      rw [hn] at m0 m1 m2 m3 hdr
      obtain ⟨k, A, x, fn⟩ := n
      simp only at m0 m1 m2 m3
      obtain ⟨⟨n0, n1, n2, n3⟩, hb1⟩ := node_new wr (.int .i64 k) (.int .i64 A) (.string ⟨x.toArray⟩) (.string ⟨fn.toArray⟩) 46
      obtain ⟨X, hX⟩ : ∃ X, wr.alloc (.cells #[.int .i64 k, .int .i64 A, .string ⟨x.toArray⟩, .string ⟨fn.toArray⟩] 46) = X := ⟨_, rfl⟩
      rw [hX] at n0 n1 n2 n3 hb1
      have HBX : Hid (Below W2.heap.size W2 X) := HB.out.trans (hb1.mono HB.out.size)
      have HCl : Hid (_) := HC9.out X (k, A, x, fn) (hpk.below hb1) (hti.below hb1) (hfi.below hb1)
      have x0 := (bp.below hb1).c0
      have x1 := (bp.below hb1).c1
      have x2 := (bp.below hb1).c2
      have y1 := (bf.below hb1).c1
      clear bp bf hnd hpk hti hfi hb1 hn HG
      by_cases ha : arg9 (fnm, fA, t) (k, A, x, fn)
      · rw [if_pos ha] at hdr
        have HR : Hid (func9 ps (nm, ims, fs) i = 3) := hdr
        obtain ⟨hk2, hA2⟩ := ha
        simp only at hk2 hA2
        subst hk2
        have hE : Hid (Below w.heap.size w X) := (HZ.out X HBX.out).2.2.2.2.2.2
        clear hdr HCl
        go_wp2
        go_ret
        exact ⟨by rw [HR.out]; rfl, hE.out⟩
      · rw [if_neg ha] at hdr
        have hkA : k = 2 → ¬ fA ≤ A := fun e h => ha ⟨e, h⟩
        by_cases hk8 : k = 8
        · subst hk8
          unfold nodeVal at HCl
          simp only at HCl
          obtain ⟨cc, hcc⟩ : ∃ cc, call9 ps (nm, ims, fs) (i : Int) (8, A, x, fn) = cc := ⟨_, rfl⟩
          rw [hcc] at HCl
          by_cases hc0 : cc = 0
          · subst hc0
            rw [if_neg (fun h => h.2 hcc)] at hdr
            have HG2 : Hid (func9 ps (nm, ims, fs) i = fnGo ps (nm, ims, fs) i (fnm, fA, t) (t.drop (j + 1)) c) := hdr
            clear hdr ha hkA hcc
            go_wp2_with (go_at_call 98; refine Calls.mono HCl.out ?_; rintro e w7 ⟨rfl, hb7⟩; have HB7 : Hid (Below W2.heap.size W2 w7) := HBX.out.trans (hb7.mono HBX.out.size); clear hb7)
            go_roundw
            case rel => exact ⟨j + 1, c, rfl, by go_num, by omega, HG2, HB7⟩
            case measure => simp [intOf]; omega
          · rw [if_pos ⟨rfl, by rw [hcc]; exact hc0⟩] at hdr
            have HG2 : Hid (func9 ps (nm, ims, fs) i = fnGo ps (nm, ims, fs) i (fnm, fA, t) (t.drop (j + 1)) 4) := hdr
            have hcb : (cc != 0) = true := by rw [bne_iff_ne]; exact hc0
            have hcb2 : (cc == 0) = false := beq_eq_false_iff_ne.2 hc0
            clear hdr ha hkA hcc
            go_wp2_with (go_at_call 98; refine Calls.mono HCl.out ?_; rintro e w7 ⟨rfl, hb7⟩; have HB7 : Hid (Below W2.heap.size W2 w7) := HBX.out.trans (hb7.mono HBX.out.size); clear hb7)
            go_roundw
            case rel => exact ⟨j + 1, 4, rfl, by go_num, by omega, HG2, HB7⟩
            case measure => simp [intOf]; omega
        · rw [if_neg (fun h => hk8 h.1)] at hdr
          have HG2 : Hid (func9 ps (nm, ims, fs) i = fnGo ps (nm, ims, fs) i (fnm, fA, t) (t.drop (j + 1)) c) := hdr
          have hkb2 : (k == 8) = false := beq_eq_false_iff_ne.2 hk8
          clear hdr ha HCl
          by_cases hk2 : k = 2
          · have hAA := hkA hk2
            subst hk2
            clear hkA hkb2
            go_wp2
            go_roundw
            case rel => exact ⟨j + 1, c, rfl, by go_num, by omega, HG2, HBX⟩
            case measure => simp [intOf]; omega
          · have hkb3 : (k == 2) = false := beq_eq_false_iff_ne.2 hk2
            clear hkA
            go_wp2
            go_roundw
            case rel => exact ⟨j + 1, c, rfl, by go_num, by omega, HG2, HBX⟩
            case measure => simp [intOf]; omega
    · have HR : Hid (func9 ps (nm, ims, fs) i = c) := by exact (by rw [HG.out, List.drop_of_length_le (by omega)]; rfl : func9 ps (nm, ims, fs) i = c)
      have HE : Hid (Below w.heap.size w wr) := hbw
      clear bp bf hnd hpk hti hfi hbw HG
      go_wp2
      go_ret
      exact ⟨by rw [HR.out]; rfl, HE.out⟩

end Go.Proofs.YtkjojhkpoooimaaGreat
