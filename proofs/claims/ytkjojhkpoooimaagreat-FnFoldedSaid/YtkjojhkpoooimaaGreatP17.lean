/-
  Parts of one proof, one behind the other: MeanS2, FoldS2.
-/
import Derived.Test.YtkjojhkpoooimaaGreatP16
import Derived.Test.YtkjojhkpoooimaaGreatP13
import Derived.Test.YtkjojhkpoooimaaGreatP1
import Derived.BigQuiet
import Derived.Test.YtkjojhkpoooimaaGreatP3
import Derived.Maps.AppendAt

/-! The contract of chapter 10's specification: the value of a tree (the walk). -/
namespace Go.Proofs.YtkjojhkpoooimaaGreat
open Go.RowKit

theorem val_stop (ps : List Pk) (d : Nat) (t : List Nd) (a : Int) (xs : List Int) (f : Nat) {c : Int} (h : c ≠ 0) : val10 ps d t a xs (f, c) = (0, (f, c)) := (Sk10.val ps d t a xs).stop (f, c) h
theorem val_dry (ps : List Pk) (d : Nat) (t : List Nd) (a : Int) (xs : List Int) : val10 ps (d + 1) t a xs (0, 0) = (0, (0, 2)) := rfl
theorem val_node (ps : List Pk) (d : Nat) (t : List Nd) (a : Nat) (xs : List Int) (f : Nat) : val10 ps (d + 1) t (a : Int) xs (f + 1, 0) = node10 ps (val10 ps d) t (a : Int) xs (t.getD a nd0) (f, 0) := rfl

theorem done_zero {k a b : Int} (h : doneB k a b = false) : doneV k a b = 0 := by
  by_cases hw : (-2147483648 ≤ a ∧ a ≤ 2147483647) ∧ (-2147483648 ≤ b ∧ b ≤ 2147483647)
  · obtain ⟨h3, h4, h5, h6, h0⟩ := done_in k a b hw
    have n3 : k ≠ 3 := fun e => by rw [(h3 e).2] at h; cases h
    have n4 : k ≠ 4 := fun e => by rw [(h4 e).2] at h; cases h
    have n5 : k ≠ 5 := fun e => by rw [(h5 e).2] at h; cases h
    exact (h0 n3 n4 n5 (fun e => by rw [(h6 e.1 e.2).2] at h; cases h)).1
  · exact (done_no k a b hw).1

theorem natT (l : List Int) : ∀ u ∈ intsV l, u.oneCell' = true := fun u hu => by
  obtain ⟨x, _, rfl⟩ := List.mem_map.1 hu
  rfl
theorem push_int {X : World} {B n : Nat} {v : Value} {l : List Int} (x : Int) (hv : X.ownsRow B 2 1 v n (intsV l)) (hb : B ≤ X.heap.size) (hn : n ≤ 1048576) :
    ∃ v' Y, (Builtin.append_ #[38, 38] 38 #[v, .slice (some ⟨X.heap.size, 0, none⟩) 1 1]).run Tryz.prog (X.alloc (.cells #[.int .i64 x] 2)) = .ok v' Y ∧ Y.ownsRow B 2 1 v' (n + 1) (intsV (l ++ [x])) ∧ X.grownBy Y v.ownBlock := by
  obtain ⟨i0, hi, hz0, hz1, hz2⟩ := info_parts infoInt
  obtain ⟨v', Y, hrun, hown, hg, _, _⟩ := run_append_own_at (P := Tryz.prog) (X.alloc (.cells #[.int .i64 x] 2)) B 38 38 2 i0 _ 1 8 Tryz.underlying38 hi hz0 hz1 hz2 rfl (by decide) _ _ _ (hv.alloc _) ⟨X.heap.size, 0, none⟩ 1 1 (intsV [x]) rfl (fun j u hu => cell_one_new X _ 2 j u hu) (natT [x]) (by unfold maxLen; omega) (by omega) (by simp; omega)
  exact ⟨v', Y, hrun, by rw [intsV_append]; exact hown, (World.grownBy_alloc X _ _).trans hg⟩
theorem wr_push {V Y Y' : World} {W : Nat} {row : Option Nat} (h : Wr V Y W) (hg : Y.grownBy Y' row) (hrow : ∀ k, row = some k → V.heap.size ≤ k) : Wr V Y' W :=
  ⟨hg.os.trans h.os, hg.tape.trans h.tape, hg.output.trans h.output, Nat.le_trans h.size hg.size, fun k hk hn => (hg.block k (Nat.lt_of_lt_of_le hk h.size) (fun e => by have := hrow k e.symm; omega)).trans (h.block k hk hn)⟩
theorem Wk.keep {Z Y : World} {W f : Nat} {l : Value} {c : Int} (h : Wk Z W l f c) (e : Y.heap[W]? = Z.heap[W]?) : Wk Y W l f c :=
  ⟨(World.cell?_of_block (a := ⟨W, 0, none⟩) e).trans h.c0, (World.cell?_of_block (a := ⟨W, 1, none⟩) e).trans h.c1, (World.cell?_of_block (a := ⟨W, 2, none⟩) e).trans h.c2, fun j => by have := h.fr j; simp only [World.frozen?] at this ⊢; rw [e]; exact this⟩
theorem args_drop (R : Int → Cmp10) (K : List Int → Cmp10) {pts : List Int} {i : Nat} (hi : i < pts.length) (acc : List Int) (s : St10) : args10 R (pts.drop i) acc K s = args10 R (pts.drop (i + 1)) (acc ++ [(R (pts.getD i 0) s).1]) K (R (pts.getD i 0) s).2 := by
  have e : pts.getD i 0 = pts[i] := by simp [List.getD, hi]
  rw [List.drop_eq_getElem_cons hi, e]
  rfl

set_option maxHeartbeats 8000000 in
set_option maxRecDepth 100000 in
theorem specVal2 (B : World) (la : Option Addr) (lc : Nat) (ps : List Pk) (W : Nat) (_hP : PkgsIn B la ps.length ps) (_hlp : ps.length ≤ 1048576) (_hshp : ShortPs ps) (hflt : faultV ps = (0, [], [])) (hW : B.heap.size ≤ W) (d : Nat) (hd : d + 1 ≤ 20001) (ih : Val10 B la lc ps W d)
    (Z : World) (f : Nat) (ta : Option Addr) (tc : Nat) (t : List Nd) (m : Int) (a : Nat) (aa : Option Addr) (ac : Nat) (xs : List Int) (hB : Below B.heap.size B Z) (hf : f + 1 < d + 1) (hw : Wk Z W (.slice la ps.length lc) (f + 1) 0) (hin : NodesIn B ta t.length t) (htr : Tr10 ps t m) (hsh : ShortT t) (hlen : t.length ≤ 1048576) (hp : 0 ≤ endV t (a : Int)) (ha : As Z W aa xs) (hm : (xs.length : Int) = m) (hx : ∀ x ∈ xs, Word10 x) (hkd : (t.getD a nd0).1 ≤ 2) :
    Calls Tryz.prog 74 #[.pointer (some ⟨W, 0, none⟩), .slice ta t.length tc, .int .i64 (a : Int), .slice aa xs.length ac] Z fun e Z' =>
      e = .returned (.int .i64 (val10 ps (d + 1) t (a : Int) xs (f + 1, 0)).1) ∧ Wk Z' W (.slice la ps.length lc) (val10 ps (d + 1) t (a : Int) xs (f + 1, 0)).2.1 (val10 ps (d + 1) t (a : Int) xs (f + 1, 0)).2.2 ∧ Wr Z Z' W := by
      have k0 := hw.c0
      have k1 := hw.c1
      have k2 := hw.c2
      have k3 := hw.fr 1
      have k4 := hw.fr 2
      have IH : Hid (Val10 B la lc ps W d) := ih
      clear ih
      rw [val_node]
      obtain ⟨hal, hnb, _, _, _⟩ := end_parts hp
      obtain ⟨n, hn⟩ : ∃ n, t.getD a nd0 = n := ⟨_, rfl⟩
      rw [hn] at hkd
      have hmem : n ∈ t := by rw [← hn]; simp [List.getD, hal]
      obtain ⟨bt, ot, rfl, hbt, q0, q1, q2, q3⟩ := (hin.below hB).2 a hal
      rw [hn] at q0 q1 q2 q3
      have hf1 : ((f + 1 : Nat) : Int) - 1 = (f : Int) := by omega
      have hfz : (((f + 1 : Nat) : Int) == 0) = false := beq_eq_false_iff_ne.2 (by omega)
      have hw1 := hw.fuel f
      have hr1 := wr_set Z W 1 (.int .i64 (f : Int))
      have hal2 : (a : Int) < (t.length : Int) := by omega
      have hbW : bt ≠ W := by
        obtain ⟨b', o', e, hb', _⟩ := hin.2 a hal
        simp only [Option.some.injEq, Addr.mk.injEq, and_true] at e
        omega
      replace q0 := wr_cell hr1 hbt hbW q0
      replace q1 := wr_cell hr1 hbt hbW q1
      replace q2 := wr_cell hr1 hbt hbW q2
      replace q3 := wr_cell hr1 hbt hbW q3
      obtain ⟨Z1, hZ1⟩ : ∃ Z1, Z.setCell ⟨W, 1, none⟩ (.int .i64 (f : Int)) = Z1 := ⟨_, rfl⟩
      rw [hZ1] at hw1 hr1 q0 q1 q2 q3
      have hnd := nodeB_iff.1 (htr.good n hmem)
      have harg := htr.arg n hmem
      have hcall := htr.call n hmem
      have HPl : Hid (∀ i, i < kidsN n → ∃ q : Nat, (pts10 t (a : Int)).getD i 0 = (q : Int) ∧ q < t.length ∧ 0 ≤ endV t (q : Int)) := fun i hi => part_place hp (by rw [hn]; exact hi)
      have hpl : (pts10 t (a : Int)).length = kidsN n := by rw [pts_len, hn]
      obtain ⟨kd, nA, np, nf⟩ := n
      unfold nodeP at hnd
      simp only at q0 q1 q2 q3 hnd harg hcall hkd
      obtain ⟨⟨n0, n1, n2, n3⟩, hbg⟩ := node_new Z1 (.int .i64 kd) (.int .i64 nA) (.string ⟨np.toArray⟩) (.string ⟨nf.toArray⟩) 46
      obtain ⟨X, hX⟩ : ∃ X, Z1.alloc (.cells #[.int .i64 kd, .int .i64 nA, .string ⟨np.toArray⟩, .string ⟨nf.toArray⟩] 46) = X := ⟨_, rfl⟩
      obtain ⟨G, hG⟩ : ∃ G, Z1.heap.size = G := ⟨_, rfl⟩
      rw [hX] at n0 n1 n2 n3 hbg
      rw [hG] at n0 n1 n2 n3
      have hGW : G ≠ W := by have := hw1.lt; omega
      have hGl : G < X.heap.size := World.block_lt_of_cell? X ⟨G, 0, none⟩ n0
      have hrX : Wr Z X W := hr1.trans (Wrote.of_below hbg)
      have hBX := wr_base hB hW hrX
      have hwX := hw1.below hbg
      have HPt : Hid (_) := specParts (some ⟨bt, ot, none⟩) tc t a X (hin.below hBX) hsh hlen hal (by rw [hn]; exact htr.good _ hmem)
      rw [hn] at HPt
      have HK : Hid (kidsN (kd, nA, np, nf) = (pts10 t (a : Int)).length) := hpl.symm
      have HPe : Hid (partsGo t (kidsN (kd, nA, np, nf)) ((a : Int) + 1) = pts10 t (a : Int)) := by
        exact (by unfold pts10; rw [Int.toNat_natCast, hn] : partsGo t (kidsN (kd, nA, np, nf)) ((a : Int) + 1) = pts10 t (a : Int))
      rw [HPe.out, HK.out] at HPt
      rw [HK.out] at HPl
      have hkl : (pts10 t (a : Int)).length = kidsN (kd, nA, np, nf) := HK.out.symm
      have hsX : W < X.heap.size := hwX.lt
      have haX := ha.wr hrX
      have HIN : Hid (NodesIn B (some ⟨bt, ot, none⟩) t.length t) := hin
      have HTR : Hid (Tr10 ps t m) := htr
      have HSH : Hid (ShortT t) := hsh
      have HX : Hid (∀ x ∈ xs, Word10 x) := hx
      have HLess : Hid (∀ (q : Int) (s : St10), (val10 ps d t q xs s).2.1 ≤ s.1) := fun q s => (Sk10.val ps d t q xs).less s
      have HWd : Hid (∀ (q : Int) (s : St10), Word10 (val10 ps d t q xs s).1) := fun q s => val_word (fun n => good_of (faultV_zero (by rw [hflt])).2.1 _ _) d t q xs htr.good hx s
      generalize hpts : pts10 t (a : Int) = pts at HPt HPl hkl
      have HPS : Hid (pts10 t (a : Int) = pts) := hpts
      obtain ⟨r, hr⟩ : ∃ r, node10 ps (val10 ps d) t (a : Int) xs (kd, nA, np, nf) (f, 0) = r := ⟨_, rfl⟩
      have HRr : Hid (r = _) := hr.symm
      rw [hn, hr]
      unfold node10 at HRr
      rw [HPS.out] at HRr
      simp only at HRr
      clear hr
      clear hw hin htr hsh hx hp ha hbt hn hmem hw1 hr1 hnb HPe HK hpts hpl
      go_enter Tryz.func74, Tryz.ntmps74
      go_wp2_with fail
      refine Calls.mono HPt.out ?_
      rintro e V ⟨v, rfl, ho, hb2⟩
      obtain ⟨pa, pc, rfl, hpV⟩ := as_own ho hsX
      have HV : Hid (∀ Y, Wr V Y W → (Y.cell? ⟨G, 0, none⟩ = some (.int .i64 kd) ∧ Y.cell? ⟨G, 1, none⟩ = some (.int .i64 nA) ∧ Y.cell? ⟨G, 2, none⟩ = some (.string ⟨np.toArray⟩) ∧ Y.cell? ⟨G, 3, none⟩ = some (.string ⟨nf.toArray⟩)) ∧ As Y W aa xs ∧ As Y W pa pts ∧ Below B.heap.size B Y ∧ Wr Z Y W) := fun Y hy =>
        have hxy : Wr X Y W := (Wrote.of_below hb2).trans hy
        ⟨⟨wr_cell hxy hGl hGW n0, wr_cell hxy hGl hGW n1, wr_cell hxy hGl hGW n2, wr_cell hxy hGl hGW n3⟩, haX.wr hxy, hpV.wr hy, wr_base hBX hW hxy, hrX.trans hxy⟩
      have hwV := hwX.below hb2
      have HC : Hid (∀ (Y : World) (g : Nat) (c : Int) (i : Nat), i < pts.length → Wr V Y W → g < d → Wk Y W (.slice la ps.length lc) g c → Calls Tryz.prog 74 #[.pointer (some ⟨W, 0, none⟩), .slice (some ⟨bt, ot, none⟩) t.length tc, .int .i64 (pts.getD i 0), .slice aa xs.length ac] Y fun e Y' =>
          e = .returned (.int .i64 (val10 ps d t (pts.getD i 0) xs (g, c)).1) ∧ Wk Y' W (.slice la ps.length lc) (val10 ps d t (pts.getD i 0) xs (g, c)).2.1 (val10 ps d t (pts.getD i 0) xs (g, c)).2.2 ∧ Wr Y Y' W) := fun Y g c i hi hy hg hwk => by
        obtain ⟨q, hq, _, hqe⟩ := HPl.out i hi
        have hv := HV.out Y hy
        exact IH.out.at hv.2.2.2.1 hg hwk HIN.out HTR.out HSH.out hlen hq hqe hv.2.1 hm HX.out tc ac
      obtain ⟨⟨g0, g1, g2, g3⟩, haV, hpV2, hBV, hrV⟩ := HV.out V (Wrote.refl _ _)
      have HWV : Hid (Wk V W (.slice la ps.length lc) f 0) := hwV
      have HRV : Hid (Wr Z V W) := hrV
      clear k0 k1 k2 k3 k4 q0 q1 q2 q3 ho hb2 n0 n1 n2 n3 hpV hwV hwX hBX haX HPt hBV hrV hrX hbg hGl
      rcases hnd with ⟨rfl, hA, rfl, rfl⟩ | ⟨rfl, hA, rfl, rfl⟩ | ⟨hk, rfl, rfl, rfl⟩ | ⟨rfl, hA, hnp, hnf⟩
      · obtain rfl : r = (nA, (f, 0)) := HRr.out.trans (by rw [if_pos rfl]; rfl)
        clear HRr
        go_wp2
        go_ret
        exact ⟨rfl, HWV.out, HRV.out⟩
      · obtain ⟨h0, h1⟩ := harg rfl
        obtain ⟨j, rfl⟩ : ∃ j : Nat, nA = (j : Int) := ⟨nA.toNat, by omega⟩
        have hre : r = (xs.getD j 0, (f, 0)) := HRr.out.trans (by rw [if_neg (by decide), if_pos rfl, Int.toNat_natCast]; rfl)
        obtain ⟨ba, oa, rfl, _, _, hca⟩ := haV j (by omega)
        have hjl : (j : Int) < (xs.length : Int) := by omega
        generalize xs.getD j 0 = xv at hca hre
        subst hre
        clear HRr
        go_wp2
        go_ret
        exact ⟨rfl, HWV.out, HRV.out⟩
      · exact absurd hkd (by omega)
      · exact absurd hkd (by omega)


end Go.Proofs.YtkjojhkpoooimaaGreat

/-! The contract of chapter 11's specification: what is made of a part of a tree. -/
namespace Go.Proofs.YtkjojhkpoooimaaGreat
open Go.RowKit

theorem infoNodes : (Tryz.prog.info? 24).map (fun i => (i.zero, i.size, i.bytes)) = some (some (.slice none 0 0), 1, 24) := by kernel_rfl
/-- Slices of nodes, in a row. -/
theorem push_slice {X : World} {B n : Nat} {v : Value} {vs : List Value} (a : Option Addr) (l c : Nat) (hv : X.ownsRow B 24 1 v n vs) (hb : B ≤ X.heap.size) (hn : n ≤ 1048576) :
    ∃ v' Y, (Builtin.append_ #[47, 47] 47 #[v, .slice (some ⟨X.heap.size, 0, none⟩) 1 1]).run Tryz.prog (X.alloc (.cells #[.slice a l c] 24)) = .ok v' Y ∧ Y.ownsRow B 24 1 v' (n + 1) (vs ++ [.slice a l c]) ∧ X.grownBy Y v.ownBlock := by
  obtain ⟨i0, hi, hz0, hz1, hz2⟩ := info_parts infoNodes
  obtain ⟨v', Y, hrun, hown, hg, _⟩ := run_append_own_at (P := Tryz.prog) (X.alloc (.cells #[.slice a l c] 24)) B 47 47 24 i0 _ 1 24 Tryz.underlying47 hi hz0 hz1 hz2 rfl (by decide) _ _ _ (hv.alloc _) ⟨X.heap.size, 0, none⟩ 1 1 [.slice a l c] rfl (fun j u hu => cell_one_new X _ 24 j u hu) (fun u hu => by rw [List.mem_singleton.1 hu]; rfl) (by unfold maxLen; omega) (by omega) (by simp; omega)
  exact ⟨v', Y, hrun, hown, (World.grownBy_alloc X _ _).trans hg⟩
/-- Nodes behind nodes. -/
theorem push_nodes11 {X : World} {B Bx n m g c : Nat} {v : Value} {xs ys : List Nd} (hv : X.ownsRow B 46 4 v n (nodesV xs)) (hx : X.ownsRow Bx 46 4 (.slice (some ⟨g, 0, none⟩) m c) m (nodesV ys)) (hb : B ≤ X.heap.size) (hn : n + m ≤ 1048576) :
    ∃ v' Y, (Builtin.append_ #[24, 24] 24 #[v, .slice (some ⟨g, 0, none⟩) m c]).run Tryz.prog X = .ok v' Y ∧ Y.ownsRow B 46 4 v' (n + m) (nodesV (xs ++ ys)) ∧ X.grownBy Y v.ownBlock ∧ (∀ k, v'.ownBlock = some k → v.ownBlock = some k ∨ X.heap.size ≤ k) := by
  obtain ⟨i0, hi, hz0, hz1, hz2⟩ := info_parts infoNode
  obtain ⟨hl, h1, ⟨e, _⟩ | ⟨ad, c', e, hc⟩⟩ := own_src hx (nodesV_one ys)
  · cases e
  · injection e with e1 _ e3
    injection e1 with e1
    subst e1 e3
    obtain ⟨v', Y, hrun, hown, hg, _, hat⟩ := run_append_own_at (P := Tryz.prog) X B 24 24 46 i0 _ 4 48 Tryz.underlying24 hi hz0 hz1 hz2 rfl (by decide) _ _ _ hv ⟨g, 0, none⟩ m c (nodesV ys) hl hc h1 (by unfold maxLen; omega) (by omega) hb
    refine ⟨v', Y, hrun, by rw [nodesV_append]; exact hown, hg, fun k e => ?_⟩
    rcases hat with h | h
    · exact Or.inl (h.symm.trans e)
    · rw [h] at e
      injection e with e
      exact Or.inr (by omega)

/-- What l11Fold is told. -/
def Fol11 (B : World) (ta : Option Addr) (tc : Nat) (t : List Nd) (d : Nat) : Prop := ∀ (w : World) (a : Nat), Below B.heap.size B w → 0 ≤ endV t (a : Int) → t.length ≤ a + d →
  Calls Tryz.prog 27 #[.slice ta t.length tc, .int .i64 (a : Int)] w fun e w' => ∃ v, e = .returned v ∧ w'.ownsRow w.heap.size 46 4 v (fold11 d t (a : Int)).length (nodesV (fold11 d t (a : Int))) ∧ Below w.heap.size w w'
theorem One.good {s : List Nd} (h : One s) : Good10 s := by
  induction h with
  | mk n ks hn _ _ ih =>
    intro m hm
    rcases List.mem_cons.1 hm with e | e
    · rw [e]; exact hn
    · obtain ⟨k, hk, h2⟩ := List.mem_flatten.1 e
      exact ih k hk m h2
theorem one_word {x : List Nd} (hg : Good10 x) (h : isOne11 x = true) : -2147483648 ≤ (x.getD 0 nd0).2.1 ∧ (x.getD 0 nd0).2.1 ≤ 2147483647 := by
  obtain ⟨v, p, f, rfl⟩ := one_is h
  have hn := nodeB_iff.1 (hg _ List.mem_cons_self)
  unfold nodeP at hn
  simp only at hn
  show -2147483648 ≤ v ∧ v ≤ 2147483647
  omega
theorem fold_len {t : List Nd} {a d : Nat} (h : 0 ≤ endV t (a : Int)) (hd : t.length ≤ a + d) : 0 < (fold11 d t (a : Int)).length ∧ (fold11 d t (a : Int)).length ≤ t.length ∧ Good10 (fold11 d t (a : Int)) := by
  obtain ⟨s, post, e, hs⟩ := sub_of h
  have hl := congrArg List.length e
  rw [List.length_drop, List.length_append] at hl
  have hf := fold_fo hs d t post a (by omega) e
  exact ⟨hf.res.1.pos, by have := hf.res.2.1; omega, hf.res.1.good⟩

end Go.Proofs.YtkjojhkpoooimaaGreat
