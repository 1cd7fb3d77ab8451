/-
  Parts of one proof, one behind the other: MeanS, MeanS2, FoldS2, FoldK3, FoldK4, FoldK5, FoldK6, FoldK7, FoldKA, FoldK, Math11W.
-/
import Derived.Test.YtkjojhkpoooimaaP11
import Derived.Test.YtkjojhkpoooimaaP6
import Derived.Test.YtkjojhkpoooimaaP7
import Derived.Test.YtkjojhkpoooimaaP1
import Derived.Deep.RegionHeld3
import Derived.BigQuiet
import Derived.Test.YtkjojhkpoooimaaP3
import Derived.Maps.AppendAt

/-! The contract of chapter 10's specification: the value of a tree, part by part. -/
namespace Go.Proofs.Ytkjojhkpoooimaa
open Go.RowKit

/-- A walk's block: the project, the fuel, the code. -/
structure Wk (Z : World) (W : Nat) (l : Value) (f : Nat) (c : Int) : Prop where
  c0 : Z.cell? ⟨W, 0, none⟩ = some l
  c1 : Z.cell? ⟨W, 1, none⟩ = some (.int .i64 (f : Int))
  c2 : Z.cell? ⟨W, 2, none⟩ = some (.int .i64 c)
  fr : ∀ j, Z.frozen? ⟨W, j, none⟩ = false
variable {Z Y B : World} {W f d : Nat} {l : Value} {c m : Int} {a aa ta la : Option Addr} {lc : Nat} {xs : List Int} {ps : List Pk} {t : List Nd}
theorem Wk.lt (h : Wk Z W l f c) : W < Z.heap.size := World.block_lt_of_cell? Z ⟨W, 0, none⟩ h.c0
theorem Wk.below (h : Wk Z W l f c) (hb : Below Z.heap.size Z Y) : Wk Y W l f c :=
  ⟨(hb.cell (p := ⟨W, 0, none⟩) h.lt).trans h.c0, (hb.cell (p := ⟨W, 1, none⟩) h.lt).trans h.c1, (hb.cell (p := ⟨W, 2, none⟩) h.lt).trans h.c2, fun j => (hb.frozen (p := ⟨W, j, none⟩) h.lt).trans (h.fr j)⟩
theorem Wk.fuel (h : Wk Z W l f c) (g : Nat) : Wk (Z.setCell ⟨W, 1, none⟩ (.int .i64 (g : Int))) W l g c :=
  ⟨(World.cell?_setCell_other _ _ _ _ (by simp)).trans h.c0, World.cell?_setCell_same _ _ _ h.c1, (World.cell?_setCell_other _ _ _ _ (by simp)).trans h.c2, fun j => by simpa using h.fr j⟩
theorem Wk.code (h : Wk Z W l f c) (g : Int) : Wk (Z.setCell ⟨W, 2, none⟩ (.int .i64 g)) W l f g :=
  ⟨(World.cell?_setCell_other _ _ _ _ (by simp)).trans h.c0, (World.cell?_setCell_other _ _ _ _ (by simp)).trans h.c1, World.cell?_setCell_same _ _ _ h.c2, fun j => by simpa using h.fr j⟩
abbrev Wr (Z Y : World) (W : Nat) : Prop := Wrote Z Y (fun k => k = W)
theorem wr_set (Z : World) (W o : Nat) (v : Value) : Wr Z (Z.setCell ⟨W, o, none⟩ v) W := Wrote.of_grown (grown_set Z W o v) (fun k e => by injection e with e; exact e.symm)
theorem wr_cell {Z Y : World} {W : Nat} (h : Wr Z Y W) {b o : Nat} (hb : b < Z.heap.size) (hn : b ≠ W) {v : Value} (hc : Z.cell? ⟨b, o, none⟩ = some v) : Y.cell? ⟨b, o, none⟩ = some v := by
  have e := h.block b hb hn
  rw [World.cell?_of_block (a := ⟨b, o, none⟩) e]
  exact hc
theorem wr_base {B Z Y : World} {W : Nat} (hb : Below B.heap.size B Z) (hW : B.heap.size ≤ W) (h : Wr Z Y W) : Below B.heap.size B Y := hb.trans (h.below hb.size (fun k e => by rw [e]; exact hW))
/-- Numbers that lie off the walk's block. -/
def As (Z : World) (W : Nat) (a : Option Addr) (xs : List Int) : Prop := ∀ j, j < xs.length → ∃ b off, a = some ⟨b, off, none⟩ ∧ b ≠ W ∧ b < Z.heap.size ∧ Z.cell? ⟨b, off + j, none⟩ = some (.int .i64 (xs.getD j 0))
theorem As.wr (h : As Z W a xs) (hw : Wr Z Y W) : As Y W a xs := fun j hj => by
  obtain ⟨b, off, e, hn, hl, hc⟩ := h j hj
  exact ⟨b, off, e, hn, Nat.lt_of_lt_of_le hl hw.size, wr_cell hw hl hn hc⟩
theorem As.below (h : As Z W a xs) (hb : Below Z.heap.size Z Y) : As Y W a xs := h.wr (Wrote.of_below hb)
theorem as_own {Z : World} {B W : Nat} {v : Value} {xs : List Int} (h : Z.ownsRow B 2 1 v xs.length (intsV xs)) (hB : W < B) : ∃ a c, v = .slice a xs.length c ∧ As Z W a xs := by
  rcases own_forms h with ⟨rfl, h0, _⟩ | ⟨g, c, rfl⟩
  · exact ⟨none, 0, by rw [h0], fun j hj => by omega⟩
  · refine ⟨_, c, rfl, fun j hj => ⟨g, 0, rfl, ?_, (h.lt g rfl).2, ?_⟩⟩
    · have := (h.lt g rfl).1; omega
    · have h1 := h.cellAt j (by omega)
      rw [Nat.zero_add, h1, intsV_at xs j hj]
      simp [List.getD, hj]

/-- What l10Value is told. -/
def Val10 (B : World) (la : Option Addr) (lc : Nat) (ps : List Pk) (W d : Nat) : Prop :=
  ∀ (Z : World) (f : Nat) (c : Int) (ta : Option Addr) (tc : Nat) (t : List Nd) (m : Int) (a : Nat) (aa : Option Addr) (ac : Nat) (xs : List Int),
    Below B.heap.size B Z → f < d → Wk Z W (.slice la ps.length lc) f c → NodesIn B ta t.length t → Tr10 ps t m → ShortT t → t.length ≤ 1048576 → 0 ≤ endV t (a : Int) → As Z W aa xs → (xs.length : Int) = m → (∀ x ∈ xs, Word10 x) →
    Calls Try.prog 75 #[.pointer (some ⟨W, 0, none⟩), .slice ta t.length tc, .int .i64 (a : Int), .slice aa xs.length ac] Z fun e Z' =>
      e = .returned (.int .i64 (val10 ps d t (a : Int) xs (f, c)).1) ∧ Wk Z' W (.slice la ps.length lc) (val10 ps d t (a : Int) xs (f, c)).2.1 (val10 ps d t (a : Int) xs (f, c)).2.2 ∧ Wr Z Z' W
theorem Val10.at (h : Val10 B la lc ps W d) (hB : Below B.heap.size B Z) (hf : f < d) (hw : Wk Z W (.slice la ps.length lc) f c) (hin : NodesIn B ta t.length t) (htr : Tr10 ps t m) (hsh : ShortT t) (hlen : t.length ≤ 1048576) {q : Int} {k : Nat} (hq : q = (k : Int)) (hp : 0 ≤ endV t (k : Int)) (ha : As Z W aa xs) (hm : (xs.length : Int) = m) (hx : ∀ x ∈ xs, Word10 x) (tc ac : Nat) :
    Calls Try.prog 75 #[.pointer (some ⟨W, 0, none⟩), .slice ta t.length tc, .int .i64 q, .slice aa xs.length ac] Z fun e Z' =>
      e = .returned (.int .i64 (val10 ps d t q xs (f, c)).1) ∧ Wk Z' W (.slice la ps.length lc) (val10 ps d t q xs (f, c)).2.1 (val10 ps d t q xs (f, c)).2.2 ∧ Wr Z Z' W := by
  subst hq
  exact h Z f c ta tc t m k aa ac xs hB hf hw hin htr hsh hlen hp ha hm hx

end Go.Proofs.Ytkjojhkpoooimaa

/-! The contract of chapter 10's specification: the value of a tree (the walk). -/
namespace Go.Proofs.Ytkjojhkpoooimaa
open Go.RowKit

theorem val_stop (ps : List Pk) (d : Nat) (t : List Nd) (a : Int) (xs : List Int) (f : Nat) {c : Int} (h : c ≠ 0) : val10 ps d t a xs (f, c) = (0, (f, c)) := (Sk10.val ps d t a xs).stop (f, c) h
theorem val_dry (ps : List Pk) (d : Nat) (t : List Nd) (a : Int) (xs : List Int) : val10 ps (d + 1) t a xs (0, 0) = (0, (0, 2)) := rfl
theorem val_node (ps : List Pk) (d : Nat) (t : List Nd) (a : Nat) (xs : List Int) (f : Nat) : val10 ps (d + 1) t (a : Int) xs (f + 1, 0) = node10 ps (val10 ps d) t (a : Int) xs (t.getD a nd0) (f, 0) := rfl

theorem done_zero {k a b : Int} (h : doneB k a b = false) : doneV k a b = 0 := by
  by_cases hw : (-2147483648 ≤ a ∧ a ≤ 2147483647) ∧ (-2147483648 ≤ b ∧ b ≤ 2147483647)
  · obtain ⟨h3, h4, h5, h6, h0⟩ := done_in k a b hw
    have n3 : k ≠ 3 := fun e => by rw [(h3 e).2] at h; cases h
    have n4 : k ≠ 4 := fun e => by rw [(h4 e).2] at h; cases h
    have n5 : k ≠ 5 := fun e => by rw [(h5 e).2] at h; cases h
    exact (h0 n3 n4 n5 (fun e => by rw [(h6 e.1 e.2).2] at h; cases h)).1
  · exact (done_no k a b hw).1

theorem natT (l : List Int) : ∀ u ∈ intsV l, u.oneCell' = true := fun u hu => by
  obtain ⟨x, _, rfl⟩ := List.mem_map.1 hu
  rfl
theorem push_int {X : World} {B n : Nat} {v : Value} {l : List Int} (x : Int) (hv : X.ownsRow B 2 1 v n (intsV l)) (hb : B ≤ X.heap.size) (hn : n ≤ 1048576) :
    ∃ v' Y, (Builtin.append_ #[38, 38] 38 #[v, .slice (some ⟨X.heap.size, 0, none⟩) 1 1]).run Try.prog (X.alloc (.cells #[.int .i64 x] 2)) = .ok v' Y ∧ Y.ownsRow B 2 1 v' (n + 1) (intsV (l ++ [x])) ∧ X.grownBy Y v.ownBlock := by
  obtain ⟨i0, hi, hz0, hz1, hz2⟩ := info_parts infoInt
  obtain ⟨v', Y, hrun, hown, hg, _, _⟩ := run_append_own_at (P := Try.prog) (X.alloc (.cells #[.int .i64 x] 2)) B 38 38 2 i0 _ 1 8 Try.underlying38 hi hz0 hz1 hz2 rfl (by decide) _ _ _ (hv.alloc _) ⟨X.heap.size, 0, none⟩ 1 1 (intsV [x]) rfl (fun j u hu => cell_one_new X _ 2 j u hu) (natT [x]) (by unfold maxLen; omega) (by omega) (by simp; omega)
  exact ⟨v', Y, hrun, by rw [intsV_append]; exact hown, (World.grownBy_alloc X _ _).trans hg⟩
theorem wr_push {V Y Y' : World} {W : Nat} {row : Option Nat} (h : Wr V Y W) (hg : Y.grownBy Y' row) (hrow : ∀ k, row = some k → V.heap.size ≤ k) : Wr V Y' W :=
  ⟨hg.os.trans h.os, hg.tape.trans h.tape, hg.output.trans h.output, Nat.le_trans h.size hg.size, fun k hk hn => (hg.block k (Nat.lt_of_lt_of_le hk h.size) (fun e => by have := hrow k e.symm; omega)).trans (h.block k hk hn)⟩
theorem Wk.keep {Z Y : World} {W f : Nat} {l : Value} {c : Int} (h : Wk Z W l f c) (e : Y.heap[W]? = Z.heap[W]?) : Wk Y W l f c :=
  ⟨(World.cell?_of_block (a := ⟨W, 0, none⟩) e).trans h.c0, (World.cell?_of_block (a := ⟨W, 1, none⟩) e).trans h.c1, (World.cell?_of_block (a := ⟨W, 2, none⟩) e).trans h.c2, fun j => by have := h.fr j; simp only [World.frozen?] at this ⊢; rw [e]; exact this⟩
theorem args_drop (R : Int → Cmp10) (K : List Int → Cmp10) {pts : List Int} {i : Nat} (hi : i < pts.length) (acc : List Int) (s : St10) : args10 R (pts.drop i) acc K s = args10 R (pts.drop (i + 1)) (acc ++ [(R (pts.getD i 0) s).1]) K (R (pts.getD i 0) s).2 := by
  have e : pts.getD i 0 = pts[i] := by simp [List.getD, hi]
  rw [List.drop_eq_getElem_cons hi, e]
  rfl

set_option maxHeartbeats 8000000 in
set_option maxRecDepth 100000 in
theorem specVal2 (B : World) (la : Option Addr) (lc : Nat) (ps : List Pk) (W : Nat) (_hP : PkgsIn B la ps.length ps) (_hlp : ps.length ≤ 1048576) (_hshp : ShortPs ps) (hflt : faultV ps = (0, [], [])) (hW : B.heap.size ≤ W) (d : Nat) (hd : d + 1 ≤ 20001) (ih : Val10 B la lc ps W d)
    (Z : World) (f : Nat) (ta : Option Addr) (tc : Nat) (t : List Nd) (m : Int) (a : Nat) (aa : Option Addr) (ac : Nat) (xs : List Int) (hB : Below B.heap.size B Z) (hf : f + 1 < d + 1) (hw : Wk Z W (.slice la ps.length lc) (f + 1) 0) (hin : NodesIn B ta t.length t) (htr : Tr10 ps t m) (hsh : ShortT t) (hlen : t.length ≤ 1048576) (hp : 0 ≤ endV t (a : Int)) (ha : As Z W aa xs) (hm : (xs.length : Int) = m) (hx : ∀ x ∈ xs, Word10 x) (hkd : (t.getD a nd0).1 ≤ 2) :
    Calls Try.prog 75 #[.pointer (some ⟨W, 0, none⟩), .slice ta t.length tc, .int .i64 (a : Int), .slice aa xs.length ac] Z fun e Z' =>
      e = .returned (.int .i64 (val10 ps (d + 1) t (a : Int) xs (f + 1, 0)).1) ∧ Wk Z' W (.slice la ps.length lc) (val10 ps (d + 1) t (a : Int) xs (f + 1, 0)).2.1 (val10 ps (d + 1) t (a : Int) xs (f + 1, 0)).2.2 ∧ Wr Z Z' W := by
      have k0 := hw.c0
      have k1 := hw.c1
      have k2 := hw.c2
      have k3 := hw.fr 1
      have k4 := hw.fr 2
      have IH : Hid (Val10 B la lc ps W d) := ih
      clear ih
      rw [val_node]
      obtain ⟨hal, hnb, _, _, _⟩ := end_parts hp
      obtain ⟨n, hn⟩ : ∃ n, t.getD a nd0 = n := ⟨_, rfl⟩
      rw [hn] at hkd
      have hmem : n ∈ t := by rw [← hn]; simp [List.getD, hal]
      obtain ⟨bt, ot, rfl, hbt, q0, q1, q2, q3⟩ := (hin.below hB).2 a hal
      rw [hn] at q0 q1 q2 q3
      have hf1 : ((f + 1 : Nat) : Int) - 1 = (f : Int) := by omega
      have hfz : (((f + 1 : Nat) : Int) == 0) = false := beq_eq_false_iff_ne.2 (by omega)
      have hw1 := hw.fuel f
      have hr1 := wr_set Z W 1 (.int .i64 (f : Int))
      have hal2 : (a : Int) < (t.length : Int) := by omega
      have hbW : bt ≠ W := by
        obtain ⟨b', o', e, hb', _⟩ := hin.2 a hal
        simp only [Option.some.injEq, Addr.mk.injEq, and_true] at e
        omega
      replace q0 := wr_cell hr1 hbt hbW q0
      replace q1 := wr_cell hr1 hbt hbW q1
      replace q2 := wr_cell hr1 hbt hbW q2
      replace q3 := wr_cell hr1 hbt hbW q3
      obtain ⟨Z1, hZ1⟩ : ∃ Z1, Z.setCell ⟨W, 1, none⟩ (.int .i64 (f : Int)) = Z1 := ⟨_, rfl⟩
      rw [hZ1] at hw1 hr1 q0 q1 q2 q3
      have hnd := nodeB_iff.1 (htr.good n hmem)
      have harg := htr.arg n hmem
      have hcall := htr.call n hmem
      have HPl : Hid (∀ i, i < kidsN n → ∃ q : Nat, (pts10 t (a : Int)).getD i 0 = (q : Int) ∧ q < t.length ∧ 0 ≤ endV t (q : Int)) := fun i hi => part_place hp (by rw [hn]; exact hi)
      have hpl : (pts10 t (a : Int)).length = kidsN n := by rw [pts_len, hn]
      obtain ⟨kd, nA, np, nf⟩ := n
      unfold nodeP at hnd
      simp only at q0 q1 q2 q3 hnd harg hcall hkd
      obtain ⟨⟨n0, n1, n2, n3⟩, hbg⟩ := node_new Z1 (.int .i64 kd) (.int .i64 nA) (.string ⟨np.toArray⟩) (.string ⟨nf.toArray⟩) 28
      obtain ⟨X, hX⟩ : ∃ X, Z1.alloc (.cells #[.int .i64 kd, .int .i64 nA, .string ⟨np.toArray⟩, .string ⟨nf.toArray⟩] 28) = X := ⟨_, rfl⟩
      obtain ⟨G, hG⟩ : ∃ G, Z1.heap.size = G := ⟨_, rfl⟩
      rw [hX] at n0 n1 n2 n3 hbg
      rw [hG] at n0 n1 n2 n3
      have hGW : G ≠ W := by have := hw1.lt; omega
      have hGl : G < X.heap.size := World.block_lt_of_cell? X ⟨G, 0, none⟩ n0
      have hrX : Wr Z X W := hr1.trans (Wrote.of_below hbg)
      have hBX := wr_base hB hW hrX
      have hwX := hw1.below hbg
      have HPt : Hid (_) := specParts (some ⟨bt, ot, none⟩) tc t a X (hin.below hBX) hsh hlen hal (by rw [hn]; exact htr.good _ hmem)
      rw [hn] at HPt
      have HK : Hid (kidsN (kd, nA, np, nf) = (pts10 t (a : Int)).length) := hpl.symm
      have HPe : Hid (partsGo t (kidsN (kd, nA, np, nf)) ((a : Int) + 1) = pts10 t (a : Int)) := by
        exact (by unfold pts10; rw [Int.toNat_natCast, hn] : partsGo t (kidsN (kd, nA, np, nf)) ((a : Int) + 1) = pts10 t (a : Int))
      rw [HPe.out, HK.out] at HPt
      rw [HK.out] at HPl
      have hkl : (pts10 t (a : Int)).length = kidsN (kd, nA, np, nf) := HK.out.symm
      have hsX : W < X.heap.size := hwX.lt
      have haX := ha.wr hrX
      have HIN : Hid (NodesIn B (some ⟨bt, ot, none⟩) t.length t) := hin
      have HTR : Hid (Tr10 ps t m) := htr
      have HSH : Hid (ShortT t) := hsh
      have HX : Hid (∀ x ∈ xs, Word10 x) := hx
      have HLess : Hid (∀ (q : Int) (s : St10), (val10 ps d t q xs s).2.1 ≤ s.1) := fun q s => (Sk10.val ps d t q xs).less s
      have HWd : Hid (∀ (q : Int) (s : St10), Word10 (val10 ps d t q xs s).1) := fun q s => val_word (fun n => good_of (faultV_zero (by rw [hflt])).2.1 _ _) d t q xs htr.good hx s
      generalize hpts : pts10 t (a : Int) = pts at HPt HPl hkl
      have HPS : Hid (pts10 t (a : Int) = pts) := hpts
      obtain ⟨r, hr⟩ : ∃ r, node10 ps (val10 ps d) t (a : Int) xs (kd, nA, np, nf) (f, 0) = r := ⟨_, rfl⟩
      have HRr : Hid (r = _) := hr.symm
      rw [hn, hr]
      unfold node10 at HRr
      rw [HPS.out] at HRr
      simp only at HRr
      clear hr
      clear hw hin htr hsh hx hp ha hbt hn hmem hw1 hr1 hnb HPe HK hpts hpl
      go_enter Try.func75, Try.ntmps75
      go_wp2_with fail
      refine Calls.mono HPt.out ?_
      rintro e V ⟨v, rfl, ho, hb2⟩
      obtain ⟨pa, pc, rfl, hpV⟩ := as_own ho hsX
      have HV : Hid (∀ Y, Wr V Y W → (Y.cell? ⟨G, 0, none⟩ = some (.int .i64 kd) ∧ Y.cell? ⟨G, 1, none⟩ = some (.int .i64 nA) ∧ Y.cell? ⟨G, 2, none⟩ = some (.string ⟨np.toArray⟩) ∧ Y.cell? ⟨G, 3, none⟩ = some (.string ⟨nf.toArray⟩)) ∧ As Y W aa xs ∧ As Y W pa pts ∧ Below B.heap.size B Y ∧ Wr Z Y W) := fun Y hy =>
        have hxy : Wr X Y W := (Wrote.of_below hb2).trans hy
        ⟨⟨wr_cell hxy hGl hGW n0, wr_cell hxy hGl hGW n1, wr_cell hxy hGl hGW n2, wr_cell hxy hGl hGW n3⟩, haX.wr hxy, hpV.wr hy, wr_base hBX hW hxy, hrX.trans hxy⟩
      have hwV := hwX.below hb2
      have HC : Hid (∀ (Y : World) (g : Nat) (c : Int) (i : Nat), i < pts.length → Wr V Y W → g < d → Wk Y W (.slice la ps.length lc) g c → Calls Try.prog 75 #[.pointer (some ⟨W, 0, none⟩), .slice (some ⟨bt, ot, none⟩) t.length tc, .int .i64 (pts.getD i 0), .slice aa xs.length ac] Y fun e Y' =>
          e = .returned (.int .i64 (val10 ps d t (pts.getD i 0) xs (g, c)).1) ∧ Wk Y' W (.slice la ps.length lc) (val10 ps d t (pts.getD i 0) xs (g, c)).2.1 (val10 ps d t (pts.getD i 0) xs (g, c)).2.2 ∧ Wr Y Y' W) := fun Y g c i hi hy hg hwk => by
        obtain ⟨q, hq, _, hqe⟩ := HPl.out i hi
        have hv := HV.out Y hy
        exact IH.out.at hv.2.2.2.1 hg hwk HIN.out HTR.out HSH.out hlen hq hqe hv.2.1 hm HX.out tc ac
      obtain ⟨⟨g0, g1, g2, g3⟩, haV, hpV2, hBV, hrV⟩ := HV.out V (Wrote.refl _ _)
      have HWV : Hid (Wk V W (.slice la ps.length lc) f 0) := hwV
      have HRV : Hid (Wr Z V W) := hrV
      clear k0 k1 k2 k3 k4 q0 q1 q2 q3 ho hb2 n0 n1 n2 n3 hpV hwV hwX hBX haX HPt hBV hrV hrX hbg hGl
      rcases hnd with ⟨rfl, hA, rfl, rfl⟩ | ⟨rfl, hA, rfl, rfl⟩ | ⟨hk, rfl, rfl, rfl⟩ | ⟨rfl, hA, hnp, hnf⟩
      · obtain rfl : r = (nA, (f, 0)) := HRr.out.trans (by rw [if_pos rfl]; rfl)
        clear HRr
        go_wp2
        go_ret
        exact ⟨rfl, HWV.out, HRV.out⟩
      · obtain ⟨h0, h1⟩ := harg rfl
        obtain ⟨j, rfl⟩ : ∃ j : Nat, nA = (j : Int) := ⟨nA.toNat, by omega⟩
        have hre : r = (xs.getD j 0, (f, 0)) := HRr.out.trans (by rw [if_neg (by decide), if_pos rfl, Int.toNat_natCast]; rfl)
        obtain ⟨ba, oa, rfl, _, _, hca⟩ := haV j (by omega)
        have hjl : (j : Int) < (xs.length : Int) := by omega
        generalize xs.getD j 0 = xv at hca hre
        subst hre
        clear HRr
        go_wp2
        go_ret
        exact ⟨rfl, HWV.out, HRV.out⟩
      · exact absurd hkd (by omega)
      · exact absurd hkd (by omega)


end Go.Proofs.Ytkjojhkpoooimaa

/-! The contract of chapter 11's specification: what is made of a part of a tree. -/
namespace Go.Proofs.Ytkjojhkpoooimaa
open Go.RowKit

theorem infoNodes : (Try.prog.info? 24).map (fun i => (i.zero, i.size, i.bytes)) = some (some (.slice none 0 0), 1, 24) := by kernel_rfl
/-- Slices of nodes, in a row. -/
theorem push_slice {X : World} {B n : Nat} {v : Value} {vs : List Value} (a : Option Addr) (l c : Nat) (hv : X.ownsRow B 24 1 v n vs) (hb : B ≤ X.heap.size) (hn : n ≤ 1048576) :
    ∃ v' Y, (Builtin.append_ #[59, 59] 59 #[v, .slice (some ⟨X.heap.size, 0, none⟩) 1 1]).run Try.prog (X.alloc (.cells #[.slice a l c] 24)) = .ok v' Y ∧ Y.ownsRow B 24 1 v' (n + 1) (vs ++ [.slice a l c]) ∧ X.grownBy Y v.ownBlock := by
  obtain ⟨i0, hi, hz0, hz1, hz2⟩ := info_parts infoNodes
  obtain ⟨v', Y, hrun, hown, hg, _⟩ := run_append_own_at (P := Try.prog) (X.alloc (.cells #[.slice a l c] 24)) B 59 59 24 i0 _ 1 24 Try.underlying59 hi hz0 hz1 hz2 rfl (by decide) _ _ _ (hv.alloc _) ⟨X.heap.size, 0, none⟩ 1 1 [.slice a l c] rfl (fun j u hu => cell_one_new X _ 24 j u hu) (fun u hu => by rw [List.mem_singleton.1 hu]; rfl) (by unfold maxLen; omega) (by omega) (by simp; omega)
  exact ⟨v', Y, hrun, hown, (World.grownBy_alloc X _ _).trans hg⟩
/-- What l11Fold is told. -/
def Fol11 (B : World) (ta : Option Addr) (tc : Nat) (t : List Nd) (d : Nat) : Prop := ∀ (w : World) (a : Nat), Below B.heap.size B w → 0 ≤ endV t (a : Int) → t.length ≤ a + d →
  Calls Try.prog 38 #[.slice ta t.length tc, .int .i64 (a : Int)] w fun e w' => ∃ v, e = .returned v ∧ w'.ownsRow w.heap.size 28 4 v (fold11 d t (a : Int)).length (nodesV (fold11 d t (a : Int))) ∧ Below w.heap.size w w'
theorem One.good {s : List Nd} (h : One s) : Good10 s := by
  induction h with
  | mk n ks hn _ _ ih =>
    intro m hm
    rcases List.mem_cons.1 hm with e | e
    · rw [e]; exact hn
    · obtain ⟨k, hk, h2⟩ := List.mem_flatten.1 e
      exact ih k hk m h2
end Go.Proofs.Ytkjojhkpoooimaa

/-! The contract of chapter 11's specification: what is made of a node of one kind. -/
namespace Go.Proofs.Ytkjojhkpoooimaa
open Go.RowKit

end Go.Proofs.Ytkjojhkpoooimaa

/-! The contract of chapter 11's specification: what is made of a node of one kind. -/
namespace Go.Proofs.Ytkjojhkpoooimaa
open Go.RowKit

end Go.Proofs.Ytkjojhkpoooimaa

/-! The contract of chapter 11's specification: what is made of a node of one kind. -/
namespace Go.Proofs.Ytkjojhkpoooimaa
open Go.RowKit

end Go.Proofs.Ytkjojhkpoooimaa

/-! The contract of chapter 11's specification: what is made of a node of one kind. -/
namespace Go.Proofs.Ytkjojhkpoooimaa
open Go.RowKit

end Go.Proofs.Ytkjojhkpoooimaa

/-! The contract of chapter 11's specification: what is made of a node of one kind. -/
namespace Go.Proofs.Ytkjojhkpoooimaa
open Go.RowKit

end Go.Proofs.Ytkjojhkpoooimaa

/-! The contract of chapter 11's specification: what is made of a node of one kind. -/
namespace Go.Proofs.Ytkjojhkpoooimaa
open Go.RowKit

end Go.Proofs.Ytkjojhkpoooimaa

/-! The contract of chapter 11's specification: what is made of a part of a tree, whole. -/
namespace Go.Proofs.Ytkjojhkpoooimaa
open Go.RowKit

end Go.Proofs.Ytkjojhkpoooimaa

/-! Plain facts of chapter 11: what is folded means the same, with no more fuel. -/
namespace Go.Proofs.Ytkjojhkpoooimaa
open Go.RowKit

/-- What stands for one part at a later fuel. -/
theorem skip_at {d : Nat} {ps' : List Pk} {C : Cmp10} {r : List Nd} {xs : List Int} (h : Leq d C (val10 ps' d r 0 xs)) {l g : Nat} (hl : l < d) (hg : l ≤ g) (hc : (C (l, 0)).2.2 ≠ 2) :
    (val10 ps' (d + 1) r 0 xs (g, 0)).1 = (C (l, 0)).1 ∧ (val10 ps' (d + 1) r 0 xs (g, 0)).2.2 = (C (l, 0)).2.2 ∧ (C (l, 0)).2.1 + (g - l) ≤ (val10 ps' (d + 1) r 0 xs (g, 0)).2.1 := by
  have h2 : Leq d C (val10 ps' (d + 1) r 0 xs) := fun f hf hc => by
    rw [← val_deep ps' d (d + 1) (by omega) r 0 xs f hf]
    exact h f hf hc
  exact h2.more (Sk10.val ps' (d + 1) r 0 xs) hl hg hc
/-- A part that has become a number gives it. -/
theorem num_at {d : Nat} {ps' : List Pk} {C : Cmp10} {v : Int} {p q : List UInt8} {xs : List Int} (h : Leq d C (val10 ps' d [((1, v, p, q) : Nd)] 0 xs)) (hC : Sk10 C) {l : Nat} (hl : l < d) (hc : (C (l, 0)).2.2 ≠ 2) :
    ∃ l', C (l, 0) = (v, (l', 0)) ∧ l' ≤ l := by
  obtain ⟨h1, h2, _⟩ := h l hl hc
  have h3 := hC.less (l, 0)
  rcases d with _ | d
  · omega
  rcases l with _ | l
  · have e : val10 ps' (d + 1) [((1, v, p, q) : Nd)] 0 xs (0, 0) = (0, (0, 2)) := rfl
    rw [e] at h2
    exact absurd h2.symm hc
  · rw [val_num] at h1 h2
    exact ⟨(C (l + 1, 0)).2.1, Prod.ext h1.symm (Prod.ext rfl h2.symm), h3⟩
theorem tick_ne {C : Cmp10} {f : Nat} (h : (tick10 C (f, 0)).2.2 ≠ 2) : ∃ g, f = g + 1 ∧ tick10 C (f, 0) = C (g, 0) := by
  rcases f with _ | g
  · exact absurd rfl h
  · exact ⟨g, rfl, rfl⟩
theorem bind_code {C : Cmp10} {E : Int → Cmp10} (hE : ∀ v, Sk10 (E v)) {g : Nat} (h : (bind10 C E (g, 0)).2.2 ≠ 2) : (C (g, 0)).2.2 ≠ 2 := fun e => by
  unfold bind10 at h
  rw [(hE _).stop _ (by rw [e]; decide)] at h
  exact h e
/-- The second part is a number that changes nothing. -/
theorem unit_second {c0 c1 : Cmp10} {k u : Int} {g d : Nat} (h0 : Sk10 c0) (h1 : Sk10 c1) (hw : Word10 (c0 (g, 0)).1) (hu : ∀ x, Word10 x → doneV k x u = x ∧ doneB k x u = true) (hg : g < d) (hn : ∀ l, l < d → (c1 (l, 0)).2.2 ≠ 2 → ∃ l', c1 (l, 0) = (u, (l', 0)) ∧ l' ≤ l)
    (hc : (bind10 c0 (fun x => bind10 c1 (fun y => fin10 (doneV k x y) (doneB k x y))) (g, 0)).2.2 ≠ 2) :
    ∃ l', bind10 c0 (fun x => bind10 c1 (fun y => fin10 (doneV k x y) (doneB k x y))) (g, 0) = ((c0 (g, 0)).1, (l', (c0 (g, 0)).2.2)) ∧ l' ≤ (c0 (g, 0)).2.1 := by
  have hE : ∀ x, Sk10 (bind10 c1 (fun y => fin10 (doneV k x y) (doneB k x y))) := fun x => h1.bind (fun y => Sk10.fin _ _)
  have hl := h0.less (g, 0)
  have hz := h0.zero (g, 0)
  unfold bind10 at hc ⊢
  generalize c0 (g, 0) = r at hc hl hz hw ⊢
  obtain ⟨x, l, c⟩ := r
  simp only at hc hl hz hw ⊢
  by_cases h : c = 0
  · subst h
    have hc1 : (c1 (l, 0)).2.2 ≠ 2 := fun e => by
      rw [(Sk10.fin _ _).stop _ (by rw [e]; decide)] at hc
      exact hc e
    obtain ⟨l', e, hl'⟩ := hn l (by omega) hc1
    rw [e]
    obtain ⟨e1, e2⟩ := hu x hw
    simp only
    rw [e1, e2]
    exact ⟨l', rfl, hl'⟩
  · have := (hE x).stop (l, c) h
    unfold bind10 at this
    dsimp only at this
    rw [this, hz h]
    exact ⟨l, rfl, Nat.le_refl _⟩
/-- The first part is a number that changes nothing. -/
theorem unit_first {c0 c1 : Cmp10} {k u : Int} {g d : Nat} (h1 : Sk10 c1) (hw : ∀ l, Word10 (c1 (l, 0)).1) (hu : ∀ x, Word10 x → doneV k u x = x ∧ doneB k u x = true) (hg : g < d) (hn : ∀ l, l < d → (c0 (l, 0)).2.2 ≠ 2 → ∃ l', c0 (l, 0) = (u, (l', 0)) ∧ l' ≤ l)
    (hc : (bind10 c0 (fun x => bind10 c1 (fun y => fin10 (doneV k x y) (doneB k x y))) (g, 0)).2.2 ≠ 2) :
    ∃ l, bind10 c0 (fun x => bind10 c1 (fun y => fin10 (doneV k x y) (doneB k x y))) (g, 0) = c1 (l, 0) ∧ l ≤ g := by
  have hE : ∀ x, Sk10 (bind10 c1 (fun y => fin10 (doneV k x y) (doneB k x y))) := fun x => h1.bind (fun y => Sk10.fin _ _)
  obtain ⟨l, e, hl⟩ := hn g hg (bind_code hE hc)
  refine ⟨l, ?_, hl⟩
  unfold bind10
  rw [e]
  simp only
  have hz := h1.zero (l, 0)
  have hw' := hw l
  generalize c1 (l, 0) = r at hz hw' ⊢
  obtain ⟨y, l', c⟩ := r
  simp only at hz hw' ⊢
  obtain ⟨e1, e2⟩ := hu y hw'
  by_cases h : c = 0
  · subst h
    rw [e1, e2]
    rfl
  · rw [(Sk10.fin _ _).stop (l', c) h, hz h]
/-- Where only words are met. -/
theorem Leq.bindW {d : Nat} {C D : Cmp10} {E F : Int → Cmp10} (h : Leq d C D) (hC : Sk10 C) (hW : ∀ f, Word10 (C (f, 0)).1) (hk : ∀ v, Word10 v → Leq d (E v) (F v)) (hE : ∀ v, Sk10 (E v)) (hF : ∀ v, Sk10 (F v)) : Leq d (bind10 C E) (bind10 D F) := fun f hf hc => by
  unfold bind10 at hc ⊢
  have hl := hC.less (f, 0)
  have hh := h f hf
  have hw := hW f
  generalize C (f, 0) = r at hl hh hc hw ⊢
  generalize D (f, 0) = q at hh ⊢
  obtain ⟨v, l, c⟩ := r
  obtain ⟨v', l', c'⟩ := q
  simp only at hl hh hc hw ⊢
  by_cases h0 : c = 0
  · subst h0
    obtain ⟨rfl, rfl, h3⟩ := hh (by decide)
    obtain ⟨h4, h5, h6⟩ := (hk v' hw).more (hF v') (f := l) (g := l') (by omega) h3 hc
    exact ⟨h4, h5, by omega⟩
  · rw [(hE v).stop (l, c) h0] at hc ⊢
    obtain ⟨rfl, rfl, h3⟩ := hh hc
    rw [(hF v').stop (l', c') h0]
    exact ⟨rfl, rfl, h3⟩
theorem Leq.argsW {d : Nat} {K L : List Int → Cmp10} (hk : ∀ l, (∀ x ∈ l, Word10 x) → Leq d (K l) (L l)) (hK : ∀ l, Sk10 (K l)) (hL : ∀ l, Sk10 (L l)) : ∀ (cs ds : List Cmp10) (acc : List Int), (∀ x ∈ acc, Word10 x) → cs.length = ds.length → (∀ i, i < cs.length → Leq d (cs.getD i cz10) (ds.getD i cz10)) → (∀ C ∈ cs, Sk10 C ∧ ∀ f, Word10 (C (f, 0)).1) → (∀ C ∈ ds, Sk10 C) → Leq d (argsK cs acc K) (argsK ds acc L)
  | [], [], acc, ha, _, _, _, _ => hk acc ha
  | [], _ :: _, _, _, h, _, _, _ => by cases h
  | _ :: _, [], _, _, h, _, _, _ => by cases h
  | C :: cs, D :: ds, acc, ha, h, hl, h1, h2 => by
    have hC := h1 C List.mem_cons_self
    have sk : ∀ (es : List Cmp10), (∀ X ∈ es, Sk10 X) → ∀ (M : List Int → Cmp10), (∀ l, Sk10 (M l)) → ∀ acc, Sk10 (argsK es acc M) := by
      intro es
      induction es with
      | nil => intro _ M hM acc; exact hM acc
      | cons X es ihe => intro hs M hM acc; exact (hs X List.mem_cons_self).bind (fun v => ihe (fun Y hY => hs Y (List.mem_cons_of_mem _ hY)) M hM _)
    refine (hl 0 (by simp)).bindW hC.1 hC.2 (fun v hv => ?_) (fun v => sk cs (fun X hX => (h1 X (List.mem_cons_of_mem _ hX)).1) K hK _) (fun v => sk ds (fun X hX => h2 X (List.mem_cons_of_mem _ hX)) L hL _)
    exact Leq.argsW hk hK hL cs ds (acc ++ [v]) (fun x hx => by rcases List.mem_append.1 hx with h | h; exact ha x h; rw [List.mem_singleton.1 h]; exact hv) (by simpa using h) (fun i hi => by have := hl (i + 1) (by simpa using hi); simpa using this) (fun X hX => h1 X (List.mem_cons_of_mem _ hX)) (fun X hX => h2 X (List.mem_cons_of_mem _ hX))

theorem fold_means {ps ps' : List Pk} (hgood : ∀ n, Good10 (tree10 ps n)) {Cl : Nd → Prop} (hcl : ∀ n, Cl n → Fo (tree10 ps n) (tree10 ps' n) ∧ ∀ m ∈ tree10 ps n, m.1 = 8 → Cl m) : ∀ (d : Nat) {s r : List Nd}, Fo s r → Good10 s → (∀ m ∈ s, m.1 = 8 → Cl m) → ∀ xs : List Int, (∀ x ∈ xs, Word10 x) → Leq d (val10 ps d s 0 xs) (val10 ps' d r 0 xs)
  | 0, _, _, _, _, _, _, _ => fun f hf => absurd hf (Nat.not_lt_zero _)
  | d + 1, s, r, hfo, hg, hc8, xs, hx => by
    cases hfo with
    | mk n ks rs hn hk hr ho hfk =>
      have ih := fun {s r : List Nd} (h : Fo s r) => fold_means hgood hcl d h
      have hkid : ∀ i, i < ks.length → Leq d (val10 ps d (ks.getD i []) 0 xs) (val10 ps' d (rs.getD i []) 0 xs) := fun i hi => by
        have hm : ks.getD i [] ∈ ks := getD_mem11 hi
        exact ih (hfk i hi) (fun m h => hg m (List.mem_cons_of_mem _ (List.mem_flatten.2 ⟨_, hm, h⟩))) (fun m h h8 => hc8 m (List.mem_cons_of_mem _ (List.mem_flatten.2 ⟨_, hm, h⟩)) h8) xs hx
      have hword : ∀ i f, i < ks.length → Word10 (val10 ps d (ks.getD i []) 0 xs (f, 0)).1 := fun i f hi => val_word hgood d _ 0 xs (fun m h => hg m (List.mem_cons_of_mem _ (List.mem_flatten.2 ⟨_, getD_mem11 hi, h⟩))) hx (f, 0)
      have hmap : ∀ i, i < ks.length → (ks.map (fun k => val10 ps d k 0 xs)).getD i cz10 = val10 ps d (ks.getD i []) 0 xs := fun i hi => by simp [List.getD, hi]
      have hmapr : ∀ i, i < ks.length → (rs.map (fun k => val10 ps' d k 0 xs)).getD i cz10 = val10 ps' d (rs.getD i []) 0 xs := fun i hi => by simp [List.getD, show i < rs.length by omega]
      have hsk : ∀ t, Sk10 (val10 ps d t 0 xs) := fun t => Sk10.val ps d t 0 xs
      have hskr : ∀ t, Sk10 (val10 ps' d t 0 xs) := fun t => Sk10.val ps' d t 0 xs
      have hnd := nodeB_iff.1 hn
      unfold nodeP at hnd
      rw [val_node11 ps d xs hn hk ho]
      -- all of it stays
      have hall : Leq (d + 1) (tick10 (nodeK ps (val10 ps d) xs n (ks.map (fun k => val10 ps d k 0 xs)))) (val10 ps' (d + 1) (n :: rs.flatten) 0 xs) := by
        have hones : ∀ x ∈ rs, One x := fun x hx => by
          obtain ⟨i, hi, e⟩ := mem_getD (d := []) hx
          rw [← e]; exact (hfk i (by omega)).res.1
        rw [val_node11 ps' d xs hn (by omega) hones]
        refine Leq.tick ?_
        unfold nodeK
        split
        · exact Leq.refl _ _
        · split
          · exact Leq.refl _ _
          · split
            · rename_i h7
              have h3 := kids_seven h7
              rw [hmap 0 (by omega), hmap 1 (by omega), hmap 2 (by omega), hmapr 0 (by omega), hmapr 1 (by omega), hmapr 2 (by omega)]
              refine (hkid 0 (by omega)).bind (hsk _) (fun v => ?_) (fun v => ?_) (fun v => ?_)
              · split
                · exact hkid 1 (by omega)
                · exact hkid 2 (by omega)
              · split
                · exact hsk _
                · exact hsk _
              · split
                · exact hskr _
                · exact hskr _
            · split
              · rename_i h8
                obtain ⟨hf8, hm8⟩ := hcl n (hc8 n List.mem_cons_self h8)
                have hK : ∀ l : List Int, Sk10 (val10 ps d (tree10 ps n) 0 l) := fun l => Sk10.val _ _ _ _ _
                have hL : ∀ l : List Int, Sk10 (val10 ps' d (tree10 ps' n) 0 l) := fun l => Sk10.val _ _ _ _ _
                refine Leq.argsW (fun l hl => ih hf8 (hgood n) hm8 l hl) hK hL (ks.map (fun k => val10 ps d k 0 xs)) (rs.map (fun k => val10 ps' d k 0 xs)) [] (fun x hx => by cases hx) (by rw [List.length_map, List.length_map]; omega) (fun i hi => ?_) (fun C hC => ?_) (fun C hC => ?_)
                · have hi2 : i < ks.length := by simpa using hi
                  rw [hmap i hi2, hmapr i hi2]
                  exact hkid i hi2
                · obtain ⟨k, hk1, rfl⟩ := List.mem_map.1 hC
                  obtain ⟨i, hi, e⟩ := mem_getD (d := []) hk1
                  exact ⟨hsk _, fun f => by rw [← e]; exact hword i f hi⟩
                · obtain ⟨k, _, rfl⟩ := List.mem_map.1 hC
                  exact hskr _
              · have h2 := kids_four (n := n) (by omega)
                rw [hmap 0 (by omega), hmap 1 (by omega), hmapr 0 (by omega), hmapr 1 (by omega)]
                exact (hkid 0 (by omega)).bind (hsk _) (fun x => (hkid 1 (by omega)).bind (hsk _) (fun y => Leq.refl _ _) (fun y => Sk10.fin _ _) (fun y => Sk10.fin _ _)) (fun x => (hsk _).bind (fun y => Sk10.fin _ _)) (fun x => (hskr _).bind (fun y => Sk10.fin _ _))
      unfold mk11
      split
      · rename_i h36
        have h2 := kids_four h36
        have hpair : nodeK ps (val10 ps d) xs n (ks.map (fun k => val10 ps d k 0 xs)) = bind10 (val10 ps d (ks.getD 0 []) 0 xs) (fun x => bind10 (val10 ps d (ks.getD 1 []) 0 xs) (fun y => fin10 (doneV n.1 x y) (doneB n.1 x y))) := by
          unfold nodeK
          rw [if_neg (by omega), if_neg (by omega), if_neg (by omega), if_neg (by omega), hmap 0 (by omega), hmap 1 (by omega)]
        have k0 := hkid 0 (by omega)
        have k1 := hkid 1 (by omega)
        split
        · rename_i hoo
          rw [Bool.and_eq_true] at hoo
          split
          · rename_i hdb
            obtain ⟨u, p0, q0, e0⟩ := one_is hoo.1
            obtain ⟨v, p1, q1, e1⟩ := one_is hoo.2
            rw [e0] at k0 hdb ⊢
            rw [e1] at k1 hdb ⊢
            simp only [List.getD_cons_zero] at hdb ⊢
            rw [hpair]
            intro f hf hc
            obtain ⟨g, rfl, e⟩ := tick_ne hc
            rw [e] at hc ⊢
            have hE : ∀ x, Sk10 (bind10 (val10 ps d (ks.getD 1 []) 0 xs) (fun y => fin10 (doneV n.1 x y) (doneB n.1 x y))) := fun x => (hsk _).bind (fun y => Sk10.fin _ _)
            obtain ⟨l, e2, hl⟩ := num_at k0 (hsk _) (by omega) (bind_code hE hc)
            unfold bind10 at hc ⊢
            rw [e2] at hc ⊢
            simp only at hc ⊢
            have hc1 : (val10 ps d (ks.getD 1 []) 0 xs (l, 0)).2.2 ≠ 2 := fun e3 => by
              rw [(Sk10.fin _ _).stop _ (by rw [e3]; decide)] at hc
              exact hc e3
            obtain ⟨l', e4, hl'⟩ := num_at k1 (hsk _) (by omega) hc1
            rw [e4]
            simp only
            rw [hdb, val_num]
            exact ⟨rfl, rfl, by show l' ≤ g; omega⟩
          · exact hall
        · split
          · rename_i hun
            have hsec : ∃ u p q, rs.getD 1 [] = [((1, u, p, q) : Nd)] ∧ ∀ x, Word10 x → doneV n.1 x u = x ∧ doneB n.1 x u = true := by
              rw [Bool.or_eq_true, Bool.and_eq_true, Bool.and_eq_true] at hun
              rcases hun with ⟨h4, hz⟩ | ⟨h5, hz⟩
              · obtain ⟨p, q, e⟩ := num_is hz
                exact ⟨0, p, q, e, fun x hx => (done_unit hx).1 (by have := of_decide_eq_true h4; omega)⟩
              · obtain ⟨p, q, e⟩ := num_is hz
                exact ⟨1, p, q, e, fun x hx => (done_unit hx).2.1 (by have := of_decide_eq_true h5; omega)⟩
            obtain ⟨u, p, q, e1, hu⟩ := hsec
            rw [e1] at k1
            rw [hpair]
            intro f hf hc
            obtain ⟨g, rfl, e⟩ := tick_ne hc
            rw [e] at hc ⊢
            obtain ⟨l', e2, hl'⟩ := unit_second (d := d) (hsk _) (hsk _) (hword 0 g (by omega)) hu (by omega) (fun l hl hcl => num_at k1 (hsk _) hl hcl) hc
            have hE : ∀ x, Sk10 (bind10 (val10 ps d (ks.getD 1 []) 0 xs) (fun y => fin10 (doneV n.1 x y) (doneB n.1 x y))) := fun x => (hsk _).bind (fun y => Sk10.fin _ _)
            obtain ⟨h5, h6, h7⟩ := skip_at k0 (l := g) (g := g + 1) (by omega) (by omega) (bind_code hE hc)
            rw [e2]
            exact ⟨h5, h6, by simp only; omega⟩
          · split
            · rename_i hun
              have hfst : ∃ u p q, rs.getD 0 [] = [((1, u, p, q) : Nd)] ∧ ∀ x, Word10 x → doneV n.1 u x = x ∧ doneB n.1 u x = true := by
                rw [Bool.or_eq_true, Bool.and_eq_true, Bool.and_eq_true] at hun
                rcases hun with ⟨h4, hz⟩ | ⟨h5, hz⟩
                · obtain ⟨p, q, e⟩ := num_is hz
                  exact ⟨0, p, q, e, fun x hx => (done_unit hx).2.2.1 (of_decide_eq_true h4)⟩
                · obtain ⟨p, q, e⟩ := num_is hz
                  exact ⟨1, p, q, e, fun x hx => (done_unit hx).2.2.2 (of_decide_eq_true h5)⟩
              obtain ⟨u, p, q, e1, hu⟩ := hfst
              rw [e1] at k0
              rw [hpair]
              intro f hf hc
              obtain ⟨g, rfl, e⟩ := tick_ne hc
              rw [e] at hc ⊢
              obtain ⟨l, e2, hl⟩ := unit_first (d := d) (hsk _) (fun l => hword 1 l (by omega)) hu (by omega) (fun l hl hcl => num_at k0 (hsk _) hl hcl) hc
              rw [e2] at hc ⊢
              obtain ⟨h5, h6, h7⟩ := skip_at k1 (l := l) (g := g + 1) (by omega) (by omega) hc
              exact ⟨h5, h6, by omega⟩
            · exact hall
      · split
        · rename_i h7
          have h3 := kids_seven h7
          split
          · rename_i hone
            obtain ⟨u, p, q, e0⟩ := one_is hone
            have hif : nodeK ps (val10 ps d) xs n (ks.map (fun k => val10 ps d k 0 xs)) = bind10 (val10 ps d (ks.getD 0 []) 0 xs) (fun k => if k ≠ 0 then val10 ps d (ks.getD 1 []) 0 xs else val10 ps d (ks.getD 2 []) 0 xs) := by
              unfold nodeK
              rw [if_neg (by omega), if_neg (by omega), if_pos h7, hmap 0 (by omega), hmap 1 (by omega), hmap 2 (by omega)]
            have k0 := hkid 0 (by omega)
            have key : ∀ i, i < ks.length → (∀ l, (if u ≠ 0 then val10 ps d (ks.getD 1 []) 0 xs else val10 ps d (ks.getD 2 []) 0 xs) (l, 0) = val10 ps d (ks.getD i []) 0 xs (l, 0)) → Leq (d + 1) (tick10 (nodeK ps (val10 ps d) xs n (ks.map (fun k => val10 ps d k 0 xs)))) (val10 ps' (d + 1) (rs.getD i []) 0 xs) := fun i hi hsel => by
              rw [e0] at k0
              rw [hif]
              intro f hf hc
              obtain ⟨g, rfl, e⟩ := tick_ne hc
              rw [e] at hc ⊢
              have hE : ∀ k : Int, Sk10 (if k ≠ 0 then val10 ps d (ks.getD 1 []) 0 xs else val10 ps d (ks.getD 2 []) 0 xs) := fun k => by split <;> exact hsk _
              obtain ⟨l, e2, hl⟩ := num_at k0 (hsk _) (by omega) (bind_code hE hc)
              unfold bind10 at hc ⊢
              rw [e2] at hc ⊢
              simp only at hc ⊢
              have hs := hsel l
              rw [hs] at hc ⊢
              obtain ⟨h5, h6, h7⟩ := skip_at (hkid i hi) (l := l) (g := g + 1) (by omega) (by omega) hc
              exact ⟨h5, h6, by omega⟩
            split
            · rename_i hz
              rw [e0] at hz
              have hu : u = 0 := by
                obtain ⟨p', q', e⟩ := num_is hz
                simp only [List.cons.injEq, Prod.mk.injEq] at e
                exact e.1.2.1
              exact key 2 (by omega) (fun l => by rw [if_neg (by simp [hu])])
            · rename_i hz
              have hu : u ≠ 0 := fun e => hz (by rw [e0, e]; rfl)
              exact key 1 (by omega) (fun l => by rw [if_pos hu])
          · exact hall
        · exact hall

end Go.Proofs.Ytkjojhkpoooimaa
