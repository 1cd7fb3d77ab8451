/-
  Parts of one proof, one behind the other: ProjK, MeanS, MeanS2, WordI, Math6I, Jumps, Clone, TextI.
-/
import Derived.Test.YtmloocbbcnhooaaGreatDoorP11
import Derived.Test.YtmloocbbcnhooaaGreatDoorP5
import Derived.Test.YtmloocbbcnhooaaGreatDoorP1
import Derived.Test.YtmloocbbcnhooaaGreatDoorP10
import Derived.Deep.RegionHeld3
import Derived.Test.YtmloocbbcnhooaaGreatDoorP2
import Derived.Test.YtmloocbbcnhooaaGreatDoorP9
import Derived.Lib.ItoaNum
import Derived.Lib.Join
import Derived.Lib.Bytealg
import Derived.Scope
import Derived.WalkMore
import Derived.Lib.Strings
import Derived.Lib.Walk
import Derived.Lib.BufferWrite
import Derived.Lib.UnsafeStr
import Derived.Lib.Hide
import Derived.Laws.MakeOwn
import Derived.Test.YtmloocbbcnhooaaGreatDoorRows
import Derived.WalkKit
import Derived.WalkLawsBesides
import Derived.OpenShut
import Derived.BigQuiet

/-! What the landed functions of chapter 8 are told of a project. -/
namespace Go.Proofs.YtmloocbbcnhooaaGreatDoor
open Go.RowKit

/-- What the landed functions are told of a project that they are handed. -/
structure PkgsOk (w : World) (a : Option Addr) (len cap : Nat) (ps : List Pk) : Prop where
  hlen : ps.length = len
  nil : a = none → cap = 0
  hcap : len ≤ cap
  small : len ≤ 1048576
  each : ∀ j, j < len → ∃ b off, a = some ⟨b, off, none⟩ ∧ b < w.heap.size ∧ w.cell? ⟨b, off + j * 3, none⟩ = some (.string ⟨(ps.getD j pk0).1.toArray⟩) ∧
    ∃ ia il ic fa fl fc, w.cell? ⟨b, off + j * 3 + 1, none⟩ = some (.slice ia il ic) ∧ w.cell? ⟨b, off + j * 3 + 2, none⟩ = some (.slice fa fl fc) ∧ PkOk w (ps.getD j pk0).1 ia il ic fa fl fc (ps.getD j pk0).2.1 (ps.getD j pk0).2.2
theorem PkgsOk.below {w w' : World} {a : Option Addr} {len cap : Nat} {ps : List Pk} (h : PkgsOk w a len cap ps) (hb : Below w.heap.size w w') : PkgsOk w' a len cap ps :=
  ⟨h.hlen, h.nil, h.hcap, h.small, fun j hj => by
    obtain ⟨b, off, e, hlt, c0, ia, il, ic, fa, fl, fc, c1, c2, hk⟩ := h.each j hj
    exact ⟨b, off, e, Nat.lt_of_lt_of_le hlt hb.size, (hb.cell (p := ⟨b, off + j * 3, none⟩) hlt).trans c0, ia, il, ic, fa, fl, fc, (hb.cell (p := ⟨b, off + j * 3 + 1, none⟩) hlt).trans c1, (hb.cell (p := ⟨b, off + j * 3 + 2, none⟩) hlt).trans c2, hk.below hb⟩⟩
theorem PkgsOk.in {w : World} {a : Option Addr} {len cap : Nat} {ps : List Pk} (h : PkgsOk w a len cap ps) : PkgsIn w a len ps :=
  ⟨h.hlen, fun j hj => by
    obtain ⟨b, off, e, hlt, c0, ia, il, ic, fa, fl, fc, c1, c2, hk⟩ := h.each j hj
    exact ⟨b, off, e, hlt, c0, ia, il, ic, fa, fl, fc, c1, c2, hk.i, hk.f⟩⟩
theorem PkgsOk.short {w : World} {a : Option Addr} {len cap : Nat} {ps : List Pk} (h : PkgsOk w a len cap ps) : ShortPs ps := fun j => by
  by_cases hj : j < len
  · obtain ⟨b, off, e, hlt, c0, ia, il, ic, fa, fl, fc, c1, c2, hk⟩ := h.each j hj
    exact ⟨hk.nm, by rw [hk.i.1]; exact hk.il, hk.is, by rw [hk.f.1]; exact hk.fl, hk.fs⟩
  · have : ps.getD j pk0 = pk0 := by rw [List.getD, List.getElem?_eq_none (by rw [h.hlen]; omega)]; rfl
    rw [this]
    exact ⟨by simp [pk0], by simp [pk0], fun i => by simp [pk0], by simp [pk0], fun i => by simp [pk0, fn0, ShortT, nd0]⟩
/-- A project that a call owns, as they are told of it. -/
theorem PjOwn.ok {w : World} {B T : Nat} {g len cap : Nat} {ys : List PV} {ps : List Pk} (h : PjOwn w B T (.slice (some ⟨g, 0, none⟩) len cap) ys) (hp : ys.map pvP = ps) (hi : IntPs ps) (hs : ShortPs ps) (hl : ps.length = len) (hlen : len ≤ 1048576) : PkgsOk w (some ⟨g, 0, none⟩) len cap ps := by
  have hyl : ys.length = len := by rw [← hl, ← hp, List.length_map]
  have hrow := h.row
  rw [hyl] at hrow
  have hcap : len ≤ cap := by
    rcases hrow.2 with ⟨e, _⟩ | ⟨g', cap', cur, e, _, _, hc, _⟩
    · cases e
    · injection e with _ _ e3; rw [e3]; exact hc
  refine ⟨hl, (fun e => (by cases e)), hcap, hlen, fun j hj => ?_⟩
  obtain ⟨v0, v1, v2⟩ := pvsV_at ys j (by omega)
  have hc := fun k (hk : k < len * 3) => World.ownsRow.cellAt hrow k hk
  have hmem : ys.getD j pv0 ∈ ys := by simp [List.getD, show j < ys.length by omega]
  have hy := (h.each _ hmem).1
  obtain ⟨ai, ci, af, cf, e1, e2, h3, h4, hti, hfi⟩ := own_pk hy.im hy.fo rfl
  have hpj : ps.getD j pk0 = pvP (ys.getD j pv0) := by rw [← hp]; exact getD_map_pv ys j
  have hsj := hs j
  have hij := hi j
  rw [hpj] at hsj hij ⊢
  refine ⟨g, 0, rfl, (hrow.lt g rfl).2, ?_, ai, (ys.getD j pv0).ims.length, ci, af, ((ys.getD j pv0).xs.map (fun x : FV => x.1)).length, cf, ?_, ?_, ⟨hti, hfi, h3, h4, hij, hsj.2.1, hsj.2.2.2.1, hsj.1, hsj.2.2.1, hsj.2.2.2.2⟩⟩
  · rw [Nat.zero_add, hc _ (by omega), v0]; rfl
  · rw [Nat.zero_add, hc _ (by omega), v1, e1]
  · rw [Nat.zero_add, hc _ (by omega), v2, e2]

theorem here_parts {ps : List Pk} {s : List UInt8} (h : hereB ps s = true) : projB ps = true ∧ s ∈ names8 ps := by
  unfold hereB at h
  rw [Bool.and_eq_true, decide_eq_true_eq] at h
  exact ⟨h.1, (at8_mem ps s).1 h.2⟩
theorem reachV_len (ps : List Pk) (s : List UInt8) : (reachV ps s).length ≤ 8 := by
  unfold reachV
  split
  · rename_i h
    have h0 := here_parts h
    have h1 := (reach8_end h0.2).1.len
    have h2 := (projB_parts h0.1).2.1
    omega
  · simp
end Go.Proofs.YtmloocbbcnhooaaGreatDoor

/-! The contract of chapter 10's specification: the value of a tree, part by part. -/
namespace Go.Proofs.YtmloocbbcnhooaaGreatDoor
open Go.RowKit

/-- A walk's block: the project, the fuel, the code. -/
structure Wk (Z : World) (W : Nat) (l : Value) (f : Nat) (c : Int) : Prop where
  c0 : Z.cell? ⟨W, 0, none⟩ = some l
  c1 : Z.cell? ⟨W, 1, none⟩ = some (.int .i64 (f : Int))
  c2 : Z.cell? ⟨W, 2, none⟩ = some (.int .i64 c)
  fr : ∀ j, Z.frozen? ⟨W, j, none⟩ = false
variable {Z Y B : World} {W f d : Nat} {l : Value} {c m : Int} {a aa ta la : Option Addr} {lc : Nat} {xs : List Int} {ps : List Pk} {t : List Nd}
theorem Wk.lt (h : Wk Z W l f c) : W < Z.heap.size := World.block_lt_of_cell? Z ⟨W, 0, none⟩ h.c0
theorem Wk.below (h : Wk Z W l f c) (hb : Below Z.heap.size Z Y) : Wk Y W l f c :=
  ⟨(hb.cell (p := ⟨W, 0, none⟩) h.lt).trans h.c0, (hb.cell (p := ⟨W, 1, none⟩) h.lt).trans h.c1, (hb.cell (p := ⟨W, 2, none⟩) h.lt).trans h.c2, fun j => (hb.frozen (p := ⟨W, j, none⟩) h.lt).trans (h.fr j)⟩
theorem Wk.fuel (h : Wk Z W l f c) (g : Nat) : Wk (Z.setCell ⟨W, 1, none⟩ (.int .i64 (g : Int))) W l g c :=
  ⟨(World.cell?_setCell_other _ _ _ _ (by simp)).trans h.c0, World.cell?_setCell_same _ _ _ h.c1, (World.cell?_setCell_other _ _ _ _ (by simp)).trans h.c2, fun j => by simpa using h.fr j⟩
theorem Wk.code (h : Wk Z W l f c) (g : Int) : Wk (Z.setCell ⟨W, 2, none⟩ (.int .i64 g)) W l f g :=
  ⟨(World.cell?_setCell_other _ _ _ _ (by simp)).trans h.c0, (World.cell?_setCell_other _ _ _ _ (by simp)).trans h.c1, World.cell?_setCell_same _ _ _ h.c2, fun j => by simpa using h.fr j⟩
abbrev Wr (Z Y : World) (W : Nat) : Prop := Wrote Z Y (fun k => k = W)
theorem wr_set (Z : World) (W o : Nat) (v : Value) : Wr Z (Z.setCell ⟨W, o, none⟩ v) W := Wrote.of_grown (grown_set Z W o v) (fun k e => by injection e with e; exact e.symm)
theorem wr_cell {Z Y : World} {W : Nat} (h : Wr Z Y W) {b o : Nat} (hb : b < Z.heap.size) (hn : b ≠ W) {v : Value} (hc : Z.cell? ⟨b, o, none⟩ = some v) : Y.cell? ⟨b, o, none⟩ = some v := by
  have e := h.block b hb hn
  rw [World.cell?_of_block (a := ⟨b, o, none⟩) e]
  exact hc
theorem wr_base {B Z Y : World} {W : Nat} (hb : Below B.heap.size B Z) (hW : B.heap.size ≤ W) (h : Wr Z Y W) : Below B.heap.size B Y := hb.trans (h.below hb.size (fun k e => by rw [e]; exact hW))
/-- Numbers that lie off the walk's block. -/
def As (Z : World) (W : Nat) (a : Option Addr) (xs : List Int) : Prop := ∀ j, j < xs.length → ∃ b off, a = some ⟨b, off, none⟩ ∧ b ≠ W ∧ b < Z.heap.size ∧ Z.cell? ⟨b, off + j, none⟩ = some (.int .i64 (xs.getD j 0))
theorem As.wr (h : As Z W a xs) (hw : Wr Z Y W) : As Y W a xs := fun j hj => by
  obtain ⟨b, off, e, hn, hl, hc⟩ := h j hj
  exact ⟨b, off, e, hn, Nat.lt_of_lt_of_le hl hw.size, wr_cell hw hl hn hc⟩
theorem As.below (h : As Z W a xs) (hb : Below Z.heap.size Z Y) : As Y W a xs := h.wr (Wrote.of_below hb)
theorem as_own {Z : World} {B W : Nat} {v : Value} {xs : List Int} (h : Z.ownsRow B 2 1 v xs.length (intsV xs)) (hB : W < B) : ∃ a c, v = .slice a xs.length c ∧ As Z W a xs := by
  rcases own_forms h with ⟨rfl, h0, _⟩ | ⟨g, c, rfl⟩
  · exact ⟨none, 0, by rw [h0], fun j hj => by omega⟩
  · refine ⟨_, c, rfl, fun j hj => ⟨g, 0, rfl, ?_, (h.lt g rfl).2, ?_⟩⟩
    · have := (h.lt g rfl).1; omega
    · have h1 := h.cellAt j (by omega)
      rw [Nat.zero_add, h1, intsV_at xs j hj]
      simp [List.getD, hj]

/-- What l10Value is told. -/
def Val10 (B : World) (la : Option Addr) (lc : Nat) (ps : List Pk) (W d : Nat) : Prop :=
  ∀ (Z : World) (f : Nat) (c : Int) (ta : Option Addr) (tc : Nat) (t : List Nd) (m : Int) (a : Nat) (aa : Option Addr) (ac : Nat) (xs : List Int),
    Below B.heap.size B Z → f < d → Wk Z W (.slice la ps.length lc) f c → NodesIn B ta t.length t → Tr10 ps t m → ShortT t → t.length ≤ 1048576 → 0 ≤ endV t (a : Int) → As Z W aa xs → (xs.length : Int) = m → (∀ x ∈ xs, Word10 x) →
    Calls Tryz.prog 48 #[.pointer (some ⟨W, 0, none⟩), .slice ta t.length tc, .int .i64 (a : Int), .slice aa xs.length ac] Z fun e Z' =>
      e = .returned (.int .i64 (val10 ps d t (a : Int) xs (f, c)).1) ∧ Wk Z' W (.slice la ps.length lc) (val10 ps d t (a : Int) xs (f, c)).2.1 (val10 ps d t (a : Int) xs (f, c)).2.2 ∧ Wr Z Z' W
theorem Val10.at (h : Val10 B la lc ps W d) (hB : Below B.heap.size B Z) (hf : f < d) (hw : Wk Z W (.slice la ps.length lc) f c) (hin : NodesIn B ta t.length t) (htr : Tr10 ps t m) (hsh : ShortT t) (hlen : t.length ≤ 1048576) {q : Int} {k : Nat} (hq : q = (k : Int)) (hp : 0 ≤ endV t (k : Int)) (ha : As Z W aa xs) (hm : (xs.length : Int) = m) (hx : ∀ x ∈ xs, Word10 x) (tc ac : Nat) :
    Calls Tryz.prog 48 #[.pointer (some ⟨W, 0, none⟩), .slice ta t.length tc, .int .i64 q, .slice aa xs.length ac] Z fun e Z' =>
      e = .returned (.int .i64 (val10 ps d t q xs (f, c)).1) ∧ Wk Z' W (.slice la ps.length lc) (val10 ps d t q xs (f, c)).2.1 (val10 ps d t q xs (f, c)).2.2 ∧ Wr Z Z' W := by
  subst hq
  exact h Z f c ta tc t m k aa ac xs hB hf hw hin htr hsh hlen hp ha hm hx

end Go.Proofs.YtmloocbbcnhooaaGreatDoor

/-! The contract of chapter 10's specification: the value of a tree (the walk). -/
namespace Go.Proofs.YtmloocbbcnhooaaGreatDoor
open Go.RowKit

theorem val_stop (ps : List Pk) (d : Nat) (t : List Nd) (a : Int) (xs : List Int) (f : Nat) {c : Int} (h : c ≠ 0) : val10 ps d t a xs (f, c) = (0, (f, c)) := (Sk10.val ps d t a xs).stop (f, c) h
theorem val_dry (ps : List Pk) (d : Nat) (t : List Nd) (a : Int) (xs : List Int) : val10 ps (d + 1) t a xs (0, 0) = (0, (0, 2)) := rfl
theorem val_node (ps : List Pk) (d : Nat) (t : List Nd) (a : Nat) (xs : List Int) (f : Nat) : val10 ps (d + 1) t (a : Int) xs (f + 1, 0) = node10 ps (val10 ps d) t (a : Int) xs (t.getD a nd0) (f, 0) := rfl

theorem done_zero {k a b : Int} (h : doneB k a b = false) : doneV k a b = 0 := by
  by_cases hw : (-2147483648 ≤ a ∧ a ≤ 2147483647) ∧ (-2147483648 ≤ b ∧ b ≤ 2147483647)
  · obtain ⟨h3, h4, h5, h6, h0⟩ := done_in k a b hw
    have n3 : k ≠ 3 := fun e => by rw [(h3 e).2] at h; cases h
    have n4 : k ≠ 4 := fun e => by rw [(h4 e).2] at h; cases h
    have n5 : k ≠ 5 := fun e => by rw [(h5 e).2] at h; cases h
    exact (h0 n3 n4 n5 (fun e => by rw [(h6 e.1 e.2).2] at h; cases h)).1
  · exact (done_no k a b hw).1

theorem natT (l : List Int) : ∀ u ∈ intsV l, u.oneCell' = true := fun u hu => by
  obtain ⟨x, _, rfl⟩ := List.mem_map.1 hu
  rfl
theorem push_int {X : World} {B n : Nat} {v : Value} {l : List Int} (x : Int) (hv : X.ownsRow B 2 1 v n (intsV l)) (hb : B ≤ X.heap.size) (hn : n ≤ 1048576) :
    ∃ v' Y, (Builtin.append_ #[25, 25] 25 #[v, .slice (some ⟨X.heap.size, 0, none⟩) 1 1]).run Tryz.prog (X.alloc (.cells #[.int .i64 x] 2)) = .ok v' Y ∧ Y.ownsRow B 2 1 v' (n + 1) (intsV (l ++ [x])) ∧ X.grownBy Y v.ownBlock := by
  obtain ⟨i0, hi, hz0, hz1, hz2⟩ := info_parts infoInt
  obtain ⟨v', Y, hrun, hown, hg, _, _⟩ := run_append_own_at (P := Tryz.prog) (X.alloc (.cells #[.int .i64 x] 2)) B 25 25 2 i0 _ 1 8 Tryz.underlying25 hi hz0 hz1 hz2 rfl (by decide) _ _ _ (hv.alloc _) ⟨X.heap.size, 0, none⟩ 1 1 (intsV [x]) rfl (fun j u hu => cell_one_new X _ 2 j u hu) (natT [x]) (by unfold maxLen; omega) (by omega) (by simp; omega)
  exact ⟨v', Y, hrun, by rw [intsV_append]; exact hown, (World.grownBy_alloc X _ _).trans hg⟩
theorem wr_push {V Y Y' : World} {W : Nat} {row : Option Nat} (h : Wr V Y W) (hg : Y.grownBy Y' row) (hrow : ∀ k, row = some k → V.heap.size ≤ k) : Wr V Y' W :=
  ⟨hg.os.trans h.os, hg.tape.trans h.tape, hg.output.trans h.output, Nat.le_trans h.size hg.size, fun k hk hn => (hg.block k (Nat.lt_of_lt_of_le hk h.size) (fun e => by have := hrow k e.symm; omega)).trans (h.block k hk hn)⟩
theorem Wk.keep {Z Y : World} {W f : Nat} {l : Value} {c : Int} (h : Wk Z W l f c) (e : Y.heap[W]? = Z.heap[W]?) : Wk Y W l f c :=
  ⟨(World.cell?_of_block (a := ⟨W, 0, none⟩) e).trans h.c0, (World.cell?_of_block (a := ⟨W, 1, none⟩) e).trans h.c1, (World.cell?_of_block (a := ⟨W, 2, none⟩) e).trans h.c2, fun j => by have := h.fr j; simp only [World.frozen?] at this ⊢; rw [e]; exact this⟩
theorem args_drop (R : Int → Cmp10) (K : List Int → Cmp10) {pts : List Int} {i : Nat} (hi : i < pts.length) (acc : List Int) (s : St10) : args10 R (pts.drop i) acc K s = args10 R (pts.drop (i + 1)) (acc ++ [(R (pts.getD i 0) s).1]) K (R (pts.getD i 0) s).2 := by
  have e : pts.getD i 0 = pts[i] := by simp [List.getD, hi]
  rw [List.drop_eq_getElem_cons hi, e]
  rfl

set_option maxHeartbeats 8000000 in
set_option maxRecDepth 100000 in
theorem specVal2 (B : World) (la : Option Addr) (lc : Nat) (ps : List Pk) (W : Nat) (_hP : PkgsIn B la ps.length ps) (_hlp : ps.length ≤ 1048576) (_hshp : ShortPs ps) (hflt : faultV ps = (0, [], [])) (hW : B.heap.size ≤ W) (d : Nat) (hd : d + 1 ≤ 20001) (ih : Val10 B la lc ps W d)
    (Z : World) (f : Nat) (ta : Option Addr) (tc : Nat) (t : List Nd) (m : Int) (a : Nat) (aa : Option Addr) (ac : Nat) (xs : List Int) (hB : Below B.heap.size B Z) (hf : f + 1 < d + 1) (hw : Wk Z W (.slice la ps.length lc) (f + 1) 0) (hin : NodesIn B ta t.length t) (htr : Tr10 ps t m) (hsh : ShortT t) (hlen : t.length ≤ 1048576) (hp : 0 ≤ endV t (a : Int)) (ha : As Z W aa xs) (hm : (xs.length : Int) = m) (hx : ∀ x ∈ xs, Word10 x) (hkd : (t.getD a nd0).1 ≤ 2) :
    Calls Tryz.prog 48 #[.pointer (some ⟨W, 0, none⟩), .slice ta t.length tc, .int .i64 (a : Int), .slice aa xs.length ac] Z fun e Z' =>
      e = .returned (.int .i64 (val10 ps (d + 1) t (a : Int) xs (f + 1, 0)).1) ∧ Wk Z' W (.slice la ps.length lc) (val10 ps (d + 1) t (a : Int) xs (f + 1, 0)).2.1 (val10 ps (d + 1) t (a : Int) xs (f + 1, 0)).2.2 ∧ Wr Z Z' W := by
      have k0 := hw.c0
      have k1 := hw.c1
      have k2 := hw.c2
      have k3 := hw.fr 1
      have k4 := hw.fr 2
      have IH : Hid (Val10 B la lc ps W d) := ih
      clear ih
      rw [val_node]
      obtain ⟨hal, hnb, _, _, _⟩ := end_parts hp
      obtain ⟨n, hn⟩ : ∃ n, t.getD a nd0 = n := ⟨_, rfl⟩
      rw [hn] at hkd
      have hmem : n ∈ t := by rw [← hn]; simp [List.getD, hal]
      obtain ⟨bt, ot, rfl, hbt, q0, q1, q2, q3⟩ := (hin.below hB).2 a hal
      rw [hn] at q0 q1 q2 q3
      have hf1 : ((f + 1 : Nat) : Int) - 1 = (f : Int) := by omega
      have hfz : (((f + 1 : Nat) : Int) == 0) = false := beq_eq_false_iff_ne.2 (by omega)
      have hw1 := hw.fuel f
      have hr1 := wr_set Z W 1 (.int .i64 (f : Int))
      have hal2 : (a : Int) < (t.length : Int) := by omega
      have hbW : bt ≠ W := by
        obtain ⟨b', o', e, hb', _⟩ := hin.2 a hal
        simp only [Option.some.injEq, Addr.mk.injEq, and_true] at e
        omega
      replace q0 := wr_cell hr1 hbt hbW q0
      replace q1 := wr_cell hr1 hbt hbW q1
      replace q2 := wr_cell hr1 hbt hbW q2
      replace q3 := wr_cell hr1 hbt hbW q3
      obtain ⟨Z1, hZ1⟩ : ∃ Z1, Z.setCell ⟨W, 1, none⟩ (.int .i64 (f : Int)) = Z1 := ⟨_, rfl⟩
      rw [hZ1] at hw1 hr1 q0 q1 q2 q3
      have hnd := nodeB_iff.1 (htr.good n hmem)
      have harg := htr.arg n hmem
      have hcall := htr.call n hmem
      have HPl : Hid (∀ i, i < kidsN n → ∃ q : Nat, (pts10 t (a : Int)).getD i 0 = (q : Int) ∧ q < t.length ∧ 0 ≤ endV t (q : Int)) := fun i hi => part_place hp (by rw [hn]; exact hi)
      have hpl : (pts10 t (a : Int)).length = kidsN n := by rw [pts_len, hn]
      obtain ⟨kd, nA, np, nf⟩ := n
      unfold nodeP at hnd
      simp only at q0 q1 q2 q3 hnd harg hcall hkd
      obtain ⟨⟨n0, n1, n2, n3⟩, hbg⟩ := node_new Z1 (.int .i64 kd) (.int .i64 nA) (.string ⟨np.toArray⟩) (.string ⟨nf.toArray⟩) 39
      obtain ⟨X, hX⟩ : ∃ X, Z1.alloc (.cells #[.int .i64 kd, .int .i64 nA, .string ⟨np.toArray⟩, .string ⟨nf.toArray⟩] 39) = X := ⟨_, rfl⟩
      obtain ⟨G, hG⟩ : ∃ G, Z1.heap.size = G := ⟨_, rfl⟩
      rw [hX] at n0 n1 n2 n3 hbg
      rw [hG] at n0 n1 n2 n3
      have hGW : G ≠ W := by have := hw1.lt; omega
      have hGl : G < X.heap.size := World.block_lt_of_cell? X ⟨G, 0, none⟩ n0
      have hrX : Wr Z X W := hr1.trans (Wrote.of_below hbg)
      have hBX := wr_base hB hW hrX
      have hwX := hw1.below hbg
      have HPt : Hid (_) := specParts (some ⟨bt, ot, none⟩) tc t a X (hin.below hBX) hsh hlen hal (by rw [hn]; exact htr.good _ hmem)
      rw [hn] at HPt
      have HK : Hid (kidsN (kd, nA, np, nf) = (pts10 t (a : Int)).length) := hpl.symm
      have HPe : Hid (partsGo t (kidsN (kd, nA, np, nf)) ((a : Int) + 1) = pts10 t (a : Int)) := by
        exact (by unfold pts10; rw [Int.toNat_natCast, hn] : partsGo t (kidsN (kd, nA, np, nf)) ((a : Int) + 1) = pts10 t (a : Int))
      rw [HPe.out, HK.out] at HPt
      rw [HK.out] at HPl
      have hkl : (pts10 t (a : Int)).length = kidsN (kd, nA, np, nf) := HK.out.symm
      have hsX : W < X.heap.size := hwX.lt
      have haX := ha.wr hrX
      have HIN : Hid (NodesIn B (some ⟨bt, ot, none⟩) t.length t) := hin
      have HTR : Hid (Tr10 ps t m) := htr
      have HSH : Hid (ShortT t) := hsh
      have HX : Hid (∀ x ∈ xs, Word10 x) := hx
      have HLess : Hid (∀ (q : Int) (s : St10), (val10 ps d t q xs s).2.1 ≤ s.1) := fun q s => (Sk10.val ps d t q xs).less s
      have HWd : Hid (∀ (q : Int) (s : St10), Word10 (val10 ps d t q xs s).1) := fun q s => val_word (fun n => good_of (faultV_zero (by rw [hflt])).2.1 _ _) d t q xs htr.good hx s
      generalize hpts : pts10 t (a : Int) = pts at HPt HPl hkl
      have HPS : Hid (pts10 t (a : Int) = pts) := hpts
      obtain ⟨r, hr⟩ : ∃ r, node10 ps (val10 ps d) t (a : Int) xs (kd, nA, np, nf) (f, 0) = r := ⟨_, rfl⟩
      have HRr : Hid (r = _) := hr.symm
      rw [hn, hr]
      unfold node10 at HRr
      rw [HPS.out] at HRr
      simp only at HRr
      clear hr
      clear hw hin htr hsh hx hp ha hbt hn hmem hw1 hr1 hnb HPe HK hpts hpl
      go_enter Tryz.func48, Tryz.ntmps48
      go_wp2_with fail
      refine Calls.mono HPt.out ?_
      rintro e V ⟨v, rfl, ho, hb2⟩
      obtain ⟨pa, pc, rfl, hpV⟩ := as_own ho hsX
      have HV : Hid (∀ Y, Wr V Y W → (Y.cell? ⟨G, 0, none⟩ = some (.int .i64 kd) ∧ Y.cell? ⟨G, 1, none⟩ = some (.int .i64 nA) ∧ Y.cell? ⟨G, 2, none⟩ = some (.string ⟨np.toArray⟩) ∧ Y.cell? ⟨G, 3, none⟩ = some (.string ⟨nf.toArray⟩)) ∧ As Y W aa xs ∧ As Y W pa pts ∧ Below B.heap.size B Y ∧ Wr Z Y W) := fun Y hy =>
        have hxy : Wr X Y W := (Wrote.of_below hb2).trans hy
        ⟨⟨wr_cell hxy hGl hGW n0, wr_cell hxy hGl hGW n1, wr_cell hxy hGl hGW n2, wr_cell hxy hGl hGW n3⟩, haX.wr hxy, hpV.wr hy, wr_base hBX hW hxy, hrX.trans hxy⟩
      have hwV := hwX.below hb2
      have HC : Hid (∀ (Y : World) (g : Nat) (c : Int) (i : Nat), i < pts.length → Wr V Y W → g < d → Wk Y W (.slice la ps.length lc) g c → Calls Tryz.prog 48 #[.pointer (some ⟨W, 0, none⟩), .slice (some ⟨bt, ot, none⟩) t.length tc, .int .i64 (pts.getD i 0), .slice aa xs.length ac] Y fun e Y' =>
          e = .returned (.int .i64 (val10 ps d t (pts.getD i 0) xs (g, c)).1) ∧ Wk Y' W (.slice la ps.length lc) (val10 ps d t (pts.getD i 0) xs (g, c)).2.1 (val10 ps d t (pts.getD i 0) xs (g, c)).2.2 ∧ Wr Y Y' W) := fun Y g c i hi hy hg hwk => by
        obtain ⟨q, hq, _, hqe⟩ := HPl.out i hi
        have hv := HV.out Y hy
        exact IH.out.at hv.2.2.2.1 hg hwk HIN.out HTR.out HSH.out hlen hq hqe hv.2.1 hm HX.out tc ac
      obtain ⟨⟨g0, g1, g2, g3⟩, haV, hpV2, hBV, hrV⟩ := HV.out V (Wrote.refl _ _)
      have HWV : Hid (Wk V W (.slice la ps.length lc) f 0) := hwV
      have HRV : Hid (Wr Z V W) := hrV
      clear k0 k1 k2 k3 k4 q0 q1 q2 q3 ho hb2 n0 n1 n2 n3 hpV hwV hwX hBX haX HPt hBV hrV hrX hbg hGl
      rcases hnd with ⟨rfl, hA, rfl, rfl⟩ | ⟨rfl, hA, rfl, rfl⟩ | ⟨hk, rfl, rfl, rfl⟩ | ⟨rfl, hA, hnp, hnf⟩
      · obtain rfl : r = (nA, (f, 0)) := HRr.out.trans (by rw [if_pos rfl]; rfl)
        clear HRr
        go_wp2
        go_ret
        exact ⟨rfl, HWV.out, HRV.out⟩
      · obtain ⟨h0, h1⟩ := harg rfl
        obtain ⟨j, rfl⟩ : ∃ j : Nat, nA = (j : Int) := ⟨nA.toNat, by omega⟩
        have hre : r = (xs.getD j 0, (f, 0)) := HRr.out.trans (by rw [if_neg (by decide), if_pos rfl, Int.toNat_natCast]; rfl)
        obtain ⟨ba, oa, rfl, _, _, hca⟩ := haV j (by omega)
        have hjl : (j : Int) < (xs.length : Int) := by omega
        generalize xs.getD j 0 = xv at hca hre
        subst hre
        clear HRr
        go_wp2
        go_ret
        exact ⟨rfl, HWV.out, HRV.out⟩
      · exact absurd hkd (by omega)
      · exact absurd hkd (by omega)


end Go.Proofs.YtmloocbbcnhooaaGreatDoor

/-! The contracts of chapter 4's landed code: WordOk, Wrap, Done. -/
namespace Go.Proofs.YtmloocbbcnhooaaGreatDoor
open Go.RowKit

set_option maxHeartbeats 400000 in
set_option maxRecDepth 100000 in
theorem implWordOkS (n : Int) (w : World) : Calls Tryz.prog 86 #[.int .i64 n] w fun e w' => e = .returned (.bool (inB n (-2147483648) 2147483647)) ∧ w' = w := by
  by_cases h1 : -2147483648 ≤ n
  · by_cases h2 : n ≤ 2147483647
    · have hB : Hid (inB n (-2147483648) 2147483647 = true) := inB_yes _ _ _ h1 h2
      go_enter Tryz.func86, Tryz.ntmps86
      go_wp2
      go_ret
      exact ⟨by rw [hB.out]; rfl, rfl⟩
    · have hB : Hid (inB n (-2147483648) 2147483647 = false) := inB_no _ _ _ (Or.inr (by omega))
      go_enter Tryz.func86, Tryz.ntmps86
      go_wp2
      go_ret
      exact ⟨by rw [hB.out]; rfl, rfl⟩
  · have hB : Hid (inB n (-2147483648) 2147483647 = false) := inB_no _ _ _ (Or.inl (by omega))
    go_enter Tryz.func86, Tryz.ntmps86
    go_wp2
    go_ret
    exact ⟨by rw [hB.out]; rfl, rfl⟩

set_option maxHeartbeats 400000 in
set_option maxRecDepth 100000 in
theorem implWrapS (n : Int) (w : World) : Calls Tryz.prog 116 #[.int .i64 n] w fun e w' => e = .returned (.int .i64 (wrapW n)) ∧ w' = w := by
  go_enter Tryz.func116, Tryz.ntmps116
  go_wp2
  go_ret
  exact ⟨ret_int (wrapWW n), rfl⟩

set_option maxHeartbeats 2000000 in
set_option maxRecDepth 100000 in
theorem implDoneS (kind a b : Int) (w : World) :
    Calls Tryz.prog 97 #[.int .i64 kind, .int .i64 a, .int .i64 b] w fun e w' => e = .returned (.tuple #[.int .i64 (doneV kind a b), .bool (doneB kind a b)]) ∧ w' = w := by
  by_cases ha : -2147483648 ≤ a ∧ a ≤ 2147483647
  · have da : inB a (-2147483648) 2147483647 = true := inB_yes _ _ _ ha.1 ha.2
    by_cases hb : -2147483648 ≤ b ∧ b ≤ 2147483647
    · have db : inB b (-2147483648) 2147483647 = true := inB_yes _ _ _ hb.1 hb.2
      obtain ⟨h3, h4, h5, h6, h0⟩ := done_in kind a b ⟨ha, hb⟩
      obtain ⟨hm1, hm2⟩ := mul_bd a b ha hb
      obtain ⟨ha1, ha2⟩ := ha
      obtain ⟨hb1, hb2⟩ := hb
      by_cases k4 : kind = 4
      · have HO : Hid (doneV kind a b = wrapW (a + -b) ∧ doneB kind a b = true) := h4 k4
        clear h3 h4 h5 h6 h0
        subst k4
        go_enter Tryz.func97, Tryz.ntmps97
        go_wp2_with (first | (go_at_call 116; refine (implWrapS _ _).mono ?_; rintro e w' ⟨rfl, rfl⟩) | (go_at_call 86; refine (implWordOkS _ _).mono ?_; rintro e w' ⟨rfl, rfl⟩))
        go_ret2
        exact ⟨by rw [HO.out.1, HO.out.2]; rfl, rfl⟩
      · have d4 : (kind == 4) = false := beq_eq_false_iff_ne.2 k4
        by_cases k3 : kind = 3
        · have HO : Hid (doneV kind a b = wrapW (a + b) ∧ doneB kind a b = true) := h3 k3
          clear h3 h4 h5 h6 h0 d4 k4
          subst k3
          go_enter Tryz.func97, Tryz.ntmps97
          go_wp2_with (first | (go_at_call 116; refine (implWrapS _ _).mono ?_; rintro e w' ⟨rfl, rfl⟩) | (go_at_call 86; refine (implWordOkS _ _).mono ?_; rintro e w' ⟨rfl, rfl⟩))
          go_ret2
          exact ⟨by rw [HO.out.1, HO.out.2]; rfl, rfl⟩
        · have d3 : (kind == 3) = false := beq_eq_false_iff_ne.2 k3
          by_cases k5 : kind = 5
          · have HO : Hid (doneV kind a b = wrapW (a * b) ∧ doneB kind a b = true) := h5 k5
            clear h3 h4 h5 h6 h0 d3 k3 d4 k4
            subst k5
            go_enter Tryz.func97, Tryz.ntmps97
            go_wp2_with (first | (go_at_call 116; refine (implWrapS _ _).mono ?_; rintro e w' ⟨rfl, rfl⟩) | (go_at_call 86; refine (implWordOkS _ _).mono ?_; rintro e w' ⟨rfl, rfl⟩))
            go_ret2
            exact ⟨by rw [HO.out.1, HO.out.2]; rfl, rfl⟩
          · have d5 : (kind == 5) = false := beq_eq_false_iff_ne.2 k5
            by_cases k6 : kind = 6
            · by_cases kb : b = 0
              · have HO : Hid (doneV kind a b = 0 ∧ doneB kind a b = false) := h0 k3 k4 k5 (fun h => h.2 kb)
                clear h3 h4 h5 h6 h0 d3 k3 d4 k4 d5 k5
                subst k6 kb
                go_enter Tryz.func97, Tryz.ntmps97
                go_wp2_with (first | (go_at_call 116; refine (implWrapS _ _).mono ?_; rintro e w' ⟨rfl, rfl⟩) | (go_at_call 86; refine (implWordOkS _ _).mono ?_; rintro e w' ⟨rfl, rfl⟩))
                go_ret2
                exact ⟨by rw [HO.out.1, HO.out.2]; rfl, rfl⟩
              · have HO : Hid (doneV kind a b = wrapW (a.tdiv b) ∧ doneB kind a b = true) := h6 k6 kb
                have dz : (b == 0) = false := beq_eq_false_iff_ne.2 kb
                have dy : (b != 0) = true := bne_iff_ne.2 kb
                obtain ⟨hq1, hq2⟩ := tdiv_bd a b ⟨ha1, ha2⟩
                clear h3 h4 h5 h6 h0 d3 k3 d4 k4 d5 k5
                subst k6
                go_enter Tryz.func97, Tryz.ntmps97
                go_wp2_with (first | (go_at_call 116; refine (implWrapS _ _).mono ?_; rintro e w' ⟨rfl, rfl⟩) | (go_at_call 86; refine (implWordOkS _ _).mono ?_; rintro e w' ⟨rfl, rfl⟩))
                go_ret2
                exact ⟨by rw [HO.out.1, HO.out.2]; rfl, rfl⟩
            · have HO : Hid (doneV kind a b = 0 ∧ doneB kind a b = false) := h0 k3 k4 k5 (fun h => k6 h.1)
              have d6 : (kind == 6) = false := beq_eq_false_iff_ne.2 k6
              clear h3 h4 h5 h6 h0 k3 k4 k5 k6
              go_enter Tryz.func97, Tryz.ntmps97
              go_wp2_with (first | (go_at_call 116; refine (implWrapS _ _).mono ?_; rintro e w' ⟨rfl, rfl⟩) | (go_at_call 86; refine (implWordOkS _ _).mono ?_; rintro e w' ⟨rfl, rfl⟩))
              go_ret2
              exact ⟨by rw [HO.out.1, HO.out.2]; rfl, rfl⟩
    · have db : inB b (-2147483648) 2147483647 = false := inB_no _ _ _ (by omega)
      have HO : Hid (doneV kind a b = 0 ∧ doneB kind a b = false) := done_no kind a b (fun h => hb h.2)
      clear ha hb
      go_enter Tryz.func97, Tryz.ntmps97
      go_wp2_with (first | (go_at_call 116; refine (implWrapS _ _).mono ?_; rintro e w' ⟨rfl, rfl⟩) | (go_at_call 86; refine (implWordOkS _ _).mono ?_; rintro e w' ⟨rfl, rfl⟩))
      go_ret2
      exact ⟨by rw [HO.out.1, HO.out.2]; rfl, rfl⟩
  · have da : inB a (-2147483648) 2147483647 = false := inB_no _ _ _ (by omega)
    have HO : Hid (doneV kind a b = 0 ∧ doneB kind a b = false) := done_no kind a b (fun h => ha h.1)
    clear ha
    go_enter Tryz.func97, Tryz.ntmps97
    go_wp2_with (first | (go_at_call 116; refine (implWrapS _ _).mono ?_; rintro e w' ⟨rfl, rfl⟩) | (go_at_call 86; refine (implWordOkS _ _).mono ?_; rintro e w' ⟨rfl, rfl⟩))
    go_ret2
    exact ⟨by rw [HO.out.1, HO.out.2]; rfl, rfl⟩

end Go.Proofs.YtmloocbbcnhooaaGreatDoor

/-! Plain facts for chapter 6's landed code: shapes, and what words are read as. -/
namespace Go.Proofs.YtmloocbbcnhooaaGreatDoor
open Go.RowKit

/-- A shape: what a node tells by its kind. -/
inductive Sh where
  | num (a : Int)
  | arg (a : Int)
  | pair (k : Int)
  | cond
  | call (p f : List UInt8) (a : Int)
  | no

def shOf (n : Nd) : Sh :=
  if n.1 = 1 then .num n.2.1
  else if n.1 = 2 then .arg n.2.1
  else if 3 ≤ n.1 ∧ n.1 ≤ 6 then .pair n.1
  else if n.1 = 7 then .cond
  else if n.1 = 8 then .call n.2.2.1 n.2.2.2 n.2.1
  else .no

def shNode : Sh → Nd
  | .num a => (1, a, [], [])
  | .arg a => (2, a, [], [])
  | .pair k => (k, 0, [], [])
  | .cond => (7, 0, [], [])
  | .call p f a => (8, a, p, f)
  | .no => (0, 0, [], [])

def shOk : Sh → Bool
  | .num a => inB a (-2147483648) 2147483647
  | .arg a => inB a 0 2
  | .pair _ => true
  | .cond => true
  | .call p f a => inB a 0 3 && (nameB p && nameB f)
  | .no => false

def shKids : Sh → Int
  | .num _ => 0
  | .arg _ => 0
  | .pair _ => 2
  | .cond => 3
  | .call _ _ a => a
  | .no => -1

def shWord : Sh → List UInt8
  | .num a => intL a
  | .arg a => 36 :: intL a
  | .pair k => if k = 3 then [43] else if k = 4 then [45] else if k = 5 then [42] else [47]
  | .cond => [63]
  | .call p f a => (64 :: p) ++ [46] ++ f ++ [47] ++ intL a
  | .no => []

theorem shOf_kinds (n : Nd) : (n.1 = 1 ∧ shOf n = .num n.2.1) ∨ (n.1 = 2 ∧ shOf n = .arg n.2.1) ∨ ((3 ≤ n.1 ∧ n.1 ≤ 6) ∧ shOf n = .pair n.1) ∨ (n.1 = 7 ∧ shOf n = .cond) ∨ (n.1 = 8 ∧ shOf n = .call n.2.2.1 n.2.2.2 n.2.1) ∨ ((n.1 < 1 ∨ 8 < n.1) ∧ shOf n = .no) := by
  by_cases h1 : n.1 = 1
  · exact Or.inl ⟨h1, if_pos h1⟩
  by_cases h2 : n.1 = 2
  · exact Or.inr (Or.inl ⟨h2, by unfold shOf; rw [if_neg h1, if_pos h2]⟩)
  by_cases h3 : 3 ≤ n.1 ∧ n.1 ≤ 6
  · exact Or.inr (Or.inr (Or.inl ⟨h3, by unfold shOf; rw [if_neg h1, if_neg h2, if_pos h3]⟩))
  by_cases h7 : n.1 = 7
  · exact Or.inr (Or.inr (Or.inr (Or.inl ⟨h7, by unfold shOf; rw [if_neg h1, if_neg h2, if_neg h3, if_pos h7]⟩)))
  by_cases h8 : n.1 = 8
  · exact Or.inr (Or.inr (Or.inr (Or.inr (Or.inl ⟨h8, by unfold shOf; rw [if_neg h1, if_neg h2, if_neg h3, if_neg h7, if_pos h8]⟩))))
  · exact Or.inr (Or.inr (Or.inr (Or.inr (Or.inr ⟨by omega, by unfold shOf; rw [if_neg h1, if_neg h2, if_neg h3, if_neg h7, if_neg h8]⟩))))

/-- A node is right where its shape is, and it tells no more. -/
theorem node_sh (n : Nd) : nodeB n = (shOk (shOf n) && decide (shNode (shOf n) = n)) := by
  rw [Bool.eq_iff_iff, nodeB_iff, Bool.and_eq_true, decide_eq_true_iff]
  obtain ⟨k, a, p, f⟩ := n
  rcases shOf_kinds (k, a, p, f) with ⟨h, e⟩ | ⟨h, e⟩ | ⟨h, e⟩ | ⟨h, e⟩ | ⟨h, e⟩ | ⟨h, e⟩
  · rw [e]; simp only at h; subst h
    unfold nodeP shOk shNode inB
    simp [@eq_comm (List UInt8) [] p, @eq_comm (List UInt8) [] f]
  · rw [e]; simp only at h; subst h
    unfold nodeP shOk shNode inB
    simp [@eq_comm (List UInt8) [] p, @eq_comm (List UInt8) [] f]
  · rw [e]; simp only at h
    unfold nodeP shOk shNode
    simp only [Prod.mk.injEq, true_and]
    constructor
    · rintro (⟨h1, _⟩ | ⟨h1, _⟩ | ⟨_, h2, h3, h4⟩ | ⟨h1, _⟩)
      · omega
      · omega
      · exact ⟨h2.symm, h3.symm, h4.symm⟩
      · omega
    · rintro ⟨h2, h3, h4⟩
      exact Or.inr (Or.inr (Or.inl ⟨by omega, h2.symm, h3.symm, h4.symm⟩))
  · rw [e]; simp only at h; subst h
    unfold nodeP shOk shNode
    simp [@eq_comm (List UInt8) [] p, @eq_comm (List UInt8) [] f, @eq_comm Int 0 a]
  · rw [e]; simp only at h; subst h
    unfold nodeP shOk shNode inB
    simp
  · rw [e]; simp only at h
    unfold nodeP shOk shNode
    simp
    omega

theorem kids_sh {n : Nd} (h : nodeB n = true) : shKids (shOf n) = kidsV n := by
  unfold kidsV
  rcases shOf_kinds n with ⟨h, e⟩ | ⟨h, e⟩ | ⟨h, e⟩ | ⟨h, e⟩ | ⟨h, e⟩ | ⟨h1, e⟩
  · rw [e, if_neg (by omega), if_neg (by omega), if_neg (by omega)]; rfl
  · rw [e, if_neg (by omega), if_neg (by omega), if_neg (by omega)]; rfl
  · rw [e, if_pos h]; rfl
  · rw [e, if_neg (by omega), if_pos h]; rfl
  · rw [e, if_neg (by omega), if_neg (by omega), if_pos h]; rfl
  · have := nodeB_iff.1 h
    unfold nodeP at this
    omega

/-- A text cut at a byte: what is ahead of it, what is behind it. -/
def cutA (b : UInt8) (l : List UInt8) : List UInt8 := l.takeWhile (fun c => c != b)
def cutB (b : UInt8) (l : List UInt8) : List UInt8 := (l.dropWhile (fun c => c != b)).tail

/-- The shape of a word. -/
noncomputable def shIn (s : List UInt8) : Sh :=
  if numB s = true then .num (numV s)
  else if s = [63] then .cond
  else if s = [43] then .pair 3
  else if s = [45] then .pair 4
  else if s = [42] then .pair 5
  else if s = [47] then .pair 6
  else if s.head? = some 36 then .arg (numV s.tail)
  else if s.head? = some 64 then .call (cutA 46 (cutA 47 s.tail)) (cutB 46 (cutA 47 s.tail)) (numV (cutB 47 s.tail))
  else .no

/-- The landed ReadTree's list. -/
noncomputable def inT (s : List UInt8) : List Nd := (splitL 32 s).map (fun x => shNode (shIn x))

end Go.Proofs.YtmloocbbcnhooaaGreatDoor

/-! A scope in which the run jumps to several labels: what holds at every jump to each of them, and a measure that every pass from a label lowers. -/
namespace Go.Proofs.YtmloocbbcnhooaaGreatDoor
open Go.RowKit

/-- As Q; by a goto to label l: J l. -/
def Hops (J : Nat → Act → World → Prop) (Q : Exit → Act → World → Prop) : Exit → Act → World → Prop
  | .goto l, a, w => J l a w
  | e, a, w => Q e a w

end Go.Proofs.YtmloocbbcnhooaaGreatDoor

/-! The contract of strings.Clone: the same bytes, in memory of their own. -/
namespace Go.Proofs.YtmloocbbcnhooaaGreatDoor
open Go.RowKit

theorem infoByte : (Tryz.prog.info? 5).map (fun i => (i.zero, i.size, i.bytes)) = some (some (.int .u8 0), 1, 1) := by kernel_rfl

set_option maxHeartbeats 4000000 in
set_option maxRecDepth 100000 in
theorem liteClone (s : ByteArray) (w : World) (hlim : s.size ≤ 281474976710656) :
    Calls Tryz.prog 109 #[.string s] w fun e w' => e = .returned (.string s) ∧ Below w.heap.size w w' := by
  by_cases h0 : s.size = 0
  · have hs : s = ⟨#[]⟩ := by
      apply ByteArray.ext
      exact Array.eq_empty_of_size_eq_zero h0
    subst hs
    go_enter Tryz.func109, Tryz.ntmps109
    go_wp2
    go_ret
    exact ⟨rfl, Below.refl _ _⟩
  · obtain ⟨i0, hi, hz0, hz1, hz2⟩ := info_parts infoByte
    have hinfo : (Tryz.prog.info? 5).map (·.size) = some 1 := by rw [hi]; simp [hz1]
    have hco : Tryz.prog.cellsOf 5 = 1 := by simp [Program.cellsOf, hi, hz1]
    obtain ⟨M, hM⟩ : ∃ M, M = madeCells (Value.int .u8 0).cells (((s.size : Nat) : Int).toNat * i0.size) := ⟨_, rfl⟩
    have hMs : M.size = s.size := by rw [hM, size_madeCells, hz1]; simp
    have hmk : ∀ W : World, (Instr.makeSlice 22 (.int .i64 (s.size : Int)) (.int .i64 (s.size : Int))).run Tryz.prog W = .ok (.slice (some ⟨W.heap.size, 0, none⟩) s.size s.size) (W.alloc (.cells M 5)) := fun W => by
      have h := run_make (P := Tryz.prog) W 22 5 i0 (.int .u8 0) Tryz.underlying22 hi hz0 .i64 .i64 (s.size : Int) (s.size : Int) (by omega) (by omega) (by rw [hz2]; omega) (by omega)
      rw [← hM] at h
      simpa using h
    clear hM
    have hcp := Lib.run_copy_row_string (P := Tryz.prog) (w.alloc (.cells M 5)) 22 9 3 5 w.heap.size 0 s.size s.size s M 5 Tryz.underlying22 hinfo (heap_alloc_new w _) (Nat.le_refl _) (by omega)
    obtain ⟨Y, hY⟩ : ∃ Y, Y = (M.toList.take 0 ++ Lib.byteCells s.data.toList ++ M.toList.drop (0 + s.size)).toArray := ⟨_, rfl⟩
    rw [← hY] at hcp
    have hYl : Y.toList = Lib.byteCells s.data.toList := by
      rw [hY, List.toList_toArray, List.take_zero, List.nil_append, List.drop_of_length_le (by rw [Array.length_toList]; omega), List.append_nil]
    have hYs : Y.size = s.size := by rw [← Array.length_toList, hYl, Lib.byteCells_length, ← Lib.size_eq]
    have hgY : ((w.alloc (.cells M 5)).setRow w.heap.size Y).heap[w.heap.size]? = some (.cells Y 5 (0, 0)) := setRow_heap _ _ M _ 5 (0, 0) (heap_alloc_new w _)
    have hne : s.data.toList ≠ [] := fun e => h0 (by rw [Lib.size_eq, e]; rfl)
    have hUS := Lib.run_unsafeString_row (P := Tryz.prog) ((w.alloc (.cells M 5)).setRow w.heap.size Y) 192 3 9 5 Tryz.underlying192 hco w.heap.size Y.size (by unfold World.shape?; rw [hgY]) s.data.toList hne (by rw [← Lib.size_eq]; omega) (by rw [← Lib.size_eq]; omega)
      (fun j x hx => Lib.cells_of_row hgY Y.size j _ (by rw [List.take_of_length_le (by rw [Array.length_toList]; exact Nat.le_refl _), hYl]; simp [Lib.byteCells, hx]))
    rw [← Lib.size_eq] at hUS
    clear hY
    go_enter Tryz.func109, Tryz.ntmps109
    go_wp2
    go_ret
    have hb1 : Below w.heap.size w (w.alloc (.cells M 5)) := (Below.refl _ w).alloc (Nat.le_refl _) _
    have hb2 : Below w.heap.size (w.alloc (.cells M 5)) ((w.alloc (.cells M 5)).setRow w.heap.size Y) := ⟨rfl, rfl, rfl, by simp, fun k hk => setRow_other _ _ _ _ (by omega)⟩
    exact ⟨rfl, Lib.below_freeze (hb1.trans hb2) (p := ⟨w.heap.size, 0, none⟩) (Nat.le_refl _) _⟩

set_option maxHeartbeats 400000 in
set_option maxRecDepth 100000 in
theorem stringsClone (l : List UInt8) (w : World) (hl : l.length ≤ 1048576) :
    Calls Tryz.prog 83 #[.string ⟨l.toArray⟩] w fun e w' => e = .returned (.string ⟨l.toArray⟩) ∧ Below w.heap.size w w' := by
  go_enter Tryz.func83, Tryz.ntmps83
  go_wp2_with fail
  refine (liteClone ⟨l.toArray⟩ _ (by have : (⟨l.toArray⟩ : ByteArray).size = l.length := List.size_toArray; omega)).mono ?_
  rintro e w1 ⟨rfl, hb⟩
  go_wp2
  go_ret
  exact ⟨rfl, hb⟩

end Go.Proofs.YtmloocbbcnhooaaGreatDoor

/-! The contracts of chapter 5's landed code: the pieces between marks (labels and gotos), Lines, Words, NameOk, NumberOf. -/
namespace Go.Proofs.YtmloocbbcnhooaaGreatDoor
open Go.RowKit




set_option maxHeartbeats 1000000 in
set_option maxRecDepth 100000 in
theorem implNameOkS (l : List UInt8) (w : World) (hl : l.length ≤ 1048576) :
    Calls Tryz.prog 131 #[.string ⟨l.toArray⟩] w fun e w' => e = .returned (.bool (nameB l)) ∧ w' = w := by
  go_enter Tryz.func131, Tryz.ntmps131
  go_wp2
  go_loop [6] (fun ix => ∃ k : Nat, k ≤ l.length ∧ ix = .int .i64 k ∧ Hid (∀ j (hj : j < l.length), j < k → 97 ≤ l[j].toNat ∧ l[j].toNat ≤ 122)) (fun ix => l.length - (intOf ix).toNat)
  case atStart => exact ⟨0, Nat.zero_le _, rfl, (fun j _ h => by omega : ∀ j (hj : j < l.length), j < 0 → _)⟩
  case round =>
    obtain ⟨k, hk, rfl, HK⟩ := hrel
    by_cases hkl : (k : Int) < (l.length : Int)
    · have hk2 : k < l.length := by omega
      obtain ⟨x, hx⟩ : ∃ x : UInt8, l[k] = x := ⟨_, rfl⟩
      have hxb : (⟨l.toArray⟩ : ByteArray)[k]'(by show k < l.toArray.size; simpa using hk2) = x := hx
      by_cases h1 : (x.toNat : Int) < 97
      · have HF : Hid (nameB l = false) := name_bad l k hk2 (by rw [hx]; omega)
        clear hx
        go_wp2
        go_ret
        exact ⟨by rw [HF.out]; rfl, rfl⟩
      · by_cases h2 : 122 < (x.toNat : Int)
        · have HF : Hid (nameB l = false) := name_bad l k hk2 (by rw [hx]; omega)
          clear hx
          go_wp2
          go_ret
          exact ⟨by rw [HF.out]; rfl, rfl⟩
        · have HS : Hid (∀ j (hj : j < l.length), j < k + 1 → 97 ≤ l[j].toNat ∧ l[j].toNat ≤ 122) := fun j hj hjk => by
            by_cases e : j = k
            · subst e; rw [hx]; omega
            · exact HK.out j hj (by omega)
          clear hx
          go_wp2
          go_round
          case rel => exact ⟨k + 1, by omega, by go_num, HS⟩
          case measure => simp [intOf]; omega
    · have HF : Hid (nameB l = inB (l.length : Int) 1 8) := name_good l (fun j hj => HK.out j hj (by omega))
      by_cases h1 : 1 ≤ (l.length : Int)
      · by_cases h2 : (l.length : Int) ≤ 8
        · have HB : Hid (inB (l.length : Int) 1 8 = true) := inB_yes _ _ _ h1 h2
          go_wp2
          go_ret
          exact ⟨by rw [HF.out, HB.out]; rfl, rfl⟩
        · have HB : Hid (inB (l.length : Int) 1 8 = false) := inB_no _ _ _ (by omega)
          go_wp2
          go_ret
          exact ⟨by rw [HF.out, HB.out]; rfl, rfl⟩
      · have HB : Hid (inB (l.length : Int) 1 8 = false) := inB_no _ _ _ (by omega)
        go_wp2
        go_ret
        exact ⟨by rw [HF.out, HB.out]; rfl, rfl⟩

end Go.Proofs.YtmloocbbcnhooaaGreatDoor
