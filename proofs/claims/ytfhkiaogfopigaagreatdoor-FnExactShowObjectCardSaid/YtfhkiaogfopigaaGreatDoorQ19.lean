/-
  Parts of one proof, one behind the other: ObS3.
-/
import Derived.Test.YtfhkiaogfopigaaGreatDoorQ18
import Derived.Test.YtfhkiaogfopigaaGreatDoorQ17
import Derived.Test.YtfhkiaogfopigaaGreatDoorQ10
import Derived.Deep.RegionLaw
import Derived.Deep.Cut

/-! The contract of chapter 15's specification: ReadObject (written by gen_obs3.py). -/
namespace Go.Proofs.YtfhkiaogfopigaaGreatDoor
open Go.RowKit

theorem getD_drop15 (ls : List (List UInt8)) (k j : Nat) : (ls.drop k).getD j [] = ls.getD (k + j) [] := by
  rw [List.getD_eq_getElem?_getD, List.getElem?_drop, ← List.getD_eq_getElem?_getD]
theorem new_strS (w : World) (x : List UInt8) (c : Nat) : Src (w.alloc (.cells #[.string ⟨x.toArray⟩] 9)) (.slice (some ⟨w.heap.size, 0, none⟩) 1 c) 1 1 (strV [x]) := by
  refine ⟨rfl, fun u hu => ?_, Or.inr ⟨_, c, rfl, fun j u hu => ?_⟩⟩
  · simp [strV] at hu; subst hu; rfl
  rw [add_plainR, Nat.zero_add]
  match j, hu with
  | 0, hu => simp [strV] at hu; subst hu; simp
  | j + 1, hu => simp [strV] at hu
/-- What ReadPackage holds: the package so far (at P), the answer's zero cells (at D), the lines (at gL). All that was made since lies from B on. -/
structure RdO (X w : World) (D P B gL : Nat) (ls : List (List UInt8)) (nm : List UInt8) (ims : List (List UInt8)) (xs : List RV) (ia : Option Addr) (ic : Nat) (fa : Option Addr) (fc : Nat) : Prop where
  p0 : X.cell? ⟨P, 0, none⟩ = some (.string ⟨nm.toArray⟩)
  p1 : X.cell? ⟨P, 1, none⟩ = some (.slice ia ims.length ic)
  p2 : X.cell? ⟨P, 2, none⟩ = some (.slice fa xs.length fc)
  pf : ∀ j, X.frozen? ⟨P, j, none⟩ = false
  r0 : X.cell? ⟨D, 0, none⟩ = some (.string ⟨#[]⟩)
  r1 : X.cell? ⟨D, 1, none⟩ = some (.slice none 0 0)
  r2 : X.cell? ⟨D, 2, none⟩ = some (.slice none 0 0)
  rf : ∀ j, X.frozen? ⟨D, j, none⟩ = false
  lines : ∀ j, j < ls.length → X.cell? ⟨gL, j, none⟩ = some (.string ⟨(ls.getD j []).toArray⟩)
  oi : X.ownsRow B 9 1 (.slice ia ims.length ic) ims.length (strV ims)
  fo : RtsOwn X B (.slice fa xs.length fc) xs
  dp : D < P
  gd : gL ≠ D
  gp : gL ≠ P
  db : D < B
  pb : P < B
  gb : gL < B
  b : Below D w X
  bs : B ≤ X.heap.size

section
variable {X Y w : World} {D P B gL : Nat} {ls : List (List UInt8)} {nm : List UInt8} {ims : List (List UInt8)} {xs : List RV} {ia : Option Addr} {ic : Nat} {fa : Option Addr} {fc : Nat}

/-- Whatever leaves the blocks below B and the rows alone. -/
theorem RdO.grown {row : Option Nat} (h : RdO X w D P B gL ls nm ims xs ia ic fa fc) (hg : X.grownBy Y row) (hrow : ∀ k, row = some k → B ≤ k):
    (∀ k, k < B → Y.heap[k]? = X.heap[k]?) ∧ Below D w Y ∧ B ≤ Y.heap.size := by
  have hk : ∀ k, k < B → Y.heap[k]? = X.heap[k]? := fun k hk => hg.block k (Nat.lt_of_lt_of_le hk h.bs) (fun e => by have := hrow k e.symm; omega)
  exact ⟨hk, h.b.grown hg (Nat.le_trans (Nat.le_of_lt h.db) h.bs) (fun k e => Nat.le_trans (Nat.le_of_lt h.db) (hrow k e)), Nat.le_trans h.bs hg.size⟩

theorem RdO.below (h : RdO X w D P B gL ls nm ims xs ia ic fa fc) (hb : Below X.heap.size X Y) : RdO Y w D P B gL ls nm ims xs ia ic fa fc :=
  have hp : P < X.heap.size := Nat.lt_of_lt_of_le h.pb h.bs
  have hd : D < X.heap.size := Nat.lt_of_lt_of_le h.db h.bs
  have hg : gL < X.heap.size := Nat.lt_of_lt_of_le h.gb h.bs
  ⟨(hb.cell (p := ⟨P, 0, none⟩) hp).trans h.p0, (hb.cell (p := ⟨P, 1, none⟩) hp).trans h.p1, (hb.cell (p := ⟨P, 2, none⟩) hp).trans h.p2, fun j => (hb.frozen (p := ⟨P, j, none⟩) hp).trans (h.pf j),
   (hb.cell (p := ⟨D, 0, none⟩) hd).trans h.r0, (hb.cell (p := ⟨D, 1, none⟩) hd).trans h.r1, (hb.cell (p := ⟨D, 2, none⟩) hd).trans h.r2, fun j => (hb.frozen (p := ⟨D, j, none⟩) hd).trans (h.rf j),
   fun j hj => (hb.cell (p := ⟨gL, j, none⟩) hg).trans (h.lines j hj), own_below h.oi hb, h.fo.below hb, h.dp, h.gd, h.gp, h.db, h.pb, h.gb, h.b.trans (hb.mono (Nat.le_of_lt hd)), Nat.le_trans h.bs hb.size⟩

theorem RdO.drew (h : RdO X w D P B gL ls nm ims xs ia ic fa fc) : RdO X.drew w D P B gL ls nm ims xs ia ic fa fc := h.below ⟨rfl, rfl, rfl, Nat.le_refl _, fun _ _ => rfl⟩

/-- The package's name is written. -/
theorem RdO.name0 (h : RdO X w D P B gL ls nm ims xs ia ic fa fc) (hk : ∀ k, k < B → Y.heap[k]? = X.heap[k]?) (hb : Below D w Y) (hbs : B ≤ Y.heap.size) (x : List UInt8) (oi : Y.ownsRow B 9 1 (.slice ia ims.length ic) ims.length (strV ims)) (fo : RtsOwn Y B (.slice fa xs.length fc) xs) : RdO (Y.setCell ⟨P, 0, none⟩ (.string ⟨x.toArray⟩)) w D P B gL ls x ims xs ia ic fa fc := by
  have hg := grown_set Y P 0 (.string ⟨x.toArray⟩)
  have off : ∀ {e size n : Nat} {v : Value} {ys : List Value}, Y.ownsRow B e size v n ys → v.ownBlock = none ∨ v.ownBlock ≠ some P := fun ho => own_offR ho h.pb
  have hoth : ∀ (q : Addr), q.block ≠ P → q.block < B → (Y.setCell ⟨P, 0, none⟩ (.string ⟨x.toArray⟩)).cell? q = X.cell? q := fun q hq hqb => (World.cell?_setCell_other _ _ _ _ (fun e => hq (by rw [← e]))).trans (World.cell?_of_block (hk _ hqb))
  have hdp : D ≠ P := Nat.ne_of_lt h.dp
  have hfz : ∀ (q : Addr), q.block < B → (Y.setCell ⟨P, 0, none⟩ (.string ⟨x.toArray⟩)).frozen? q = X.frozen? q := fun q hqb => (World.frozen?_setCell ..).trans (World.frozen?_of_block (hk _ hqb))
  have hp : ∀ j, Y.cell? ⟨P, j, none⟩ = X.cell? ⟨P, j, none⟩ := fun j => World.cell?_of_block (hk _ h.pb)
  exact ⟨World.cell?_setCell_same _ _ _ ((hp 0).trans h.p0), (World.cell?_setCell_other _ _ _ _ (by simp)).trans ((hp 1).trans h.p1), (World.cell?_setCell_other _ _ _ _ (by simp)).trans ((hp 2).trans h.p2), fun j => (hfz ⟨P, j, none⟩ h.pb).trans (h.pf j), (hoth _ hdp h.db).trans h.r0, (hoth _ hdp h.db).trans h.r1, (hoth _ hdp h.db).trans h.r2, fun j => (hfz ⟨D, j, none⟩ h.db).trans (h.rf j),
    fun j hj => (hoth ⟨gL, j, none⟩ h.gp h.gb).trans (h.lines j hj), oi.kept hg (off oi), fo.kept hg (off fo.row) (fun y hy => off (fo.trees y hy)), h.dp, h.gd, h.gp, h.db, h.pb, h.gb, hb.grown hg (Nat.le_trans (Nat.le_of_lt h.db) hbs) (fun k e => by injection e with e; have := h.dp; omega), by simpa using hbs⟩

theorem RdO.name (h : RdO X w D P B gL ls nm ims xs ia ic fa fc) (x : List UInt8) : RdO (X.setCell ⟨P, 0, none⟩ (.string ⟨x.toArray⟩)) w D P B gL ls x ims xs ia ic fa fc := h.name0 (fun _ _ => rfl) h.b h.bs x h.oi h.fo

/-- Its imports. -/
theorem RdO.imp0 (h : RdO X w D P B gL ls nm ims xs ia ic fa fc) (hk : ∀ k, k < B → Y.heap[k]? = X.heap[k]?) (hb : Below D w Y) (hbs : B ≤ Y.heap.size) {ims' : List (List UInt8)} {ia' : Option Addr} {ic' : Nat} (oi : Y.ownsRow B 9 1 (.slice ia' ims'.length ic') ims'.length (strV ims')) (fo : RtsOwn Y B (.slice fa xs.length fc) xs) : RdO (Y.setCell ⟨P, 1, none⟩ (.slice ia' ims'.length ic')) w D P B gL ls nm ims' xs ia' ic' fa fc := by
  have hg := grown_set Y P 1 (.slice ia' ims'.length ic')
  have off : ∀ {e size n : Nat} {v : Value} {ys : List Value}, Y.ownsRow B e size v n ys → v.ownBlock = none ∨ v.ownBlock ≠ some P := fun ho => own_offR ho h.pb
  have hoth : ∀ (q : Addr), q.block ≠ P → q.block < B → (Y.setCell ⟨P, 1, none⟩ (.slice ia' ims'.length ic')).cell? q = X.cell? q := fun q hq hqb => (World.cell?_setCell_other _ _ _ _ (fun e => hq (by rw [← e]))).trans (World.cell?_of_block (hk _ hqb))
  have hdp : D ≠ P := Nat.ne_of_lt h.dp
  have hfz : ∀ (q : Addr), q.block < B → (Y.setCell ⟨P, 1, none⟩ (.slice ia' ims'.length ic')).frozen? q = X.frozen? q := fun q hqb => (World.frozen?_setCell ..).trans (World.frozen?_of_block (hk _ hqb))
  have hp : ∀ j, Y.cell? ⟨P, j, none⟩ = X.cell? ⟨P, j, none⟩ := fun j => World.cell?_of_block (hk _ h.pb)
  exact ⟨(World.cell?_setCell_other _ _ _ _ (by simp)).trans ((hp 0).trans h.p0), World.cell?_setCell_same _ _ _ ((hp 1).trans h.p1), (World.cell?_setCell_other _ _ _ _ (by simp)).trans ((hp 2).trans h.p2), fun j => (hfz ⟨P, j, none⟩ h.pb).trans (h.pf j), (hoth _ hdp h.db).trans h.r0, (hoth _ hdp h.db).trans h.r1, (hoth _ hdp h.db).trans h.r2, fun j => (hfz ⟨D, j, none⟩ h.db).trans (h.rf j),
    fun j hj => (hoth ⟨gL, j, none⟩ h.gp h.gb).trans (h.lines j hj), oi.kept hg (off oi), fo.kept hg (off fo.row) (fun y hy => off (fo.trees y hy)), h.dp, h.gd, h.gp, h.db, h.pb, h.gb, hb.grown hg (Nat.le_trans (Nat.le_of_lt h.db) hbs) (fun k e => by injection e with e; have := h.dp; omega), by simpa using hbs⟩

/-- Its functions. -/
theorem RdO.fn1 (h : RdO X w D P B gL ls nm ims xs ia ic fa fc) (hk : ∀ k, k < B → Y.heap[k]? = X.heap[k]?) (hb : Below D w Y) (hbs : B ≤ Y.heap.size) {xs' : List RV} {fa' : Option Addr} {fc' : Nat} (oi : Y.ownsRow B 9 1 (.slice ia ims.length ic) ims.length (strV ims)) (fo : RtsOwn Y B (.slice fa' xs'.length fc') xs') : RdO (Y.setCell ⟨P, 2, none⟩ (.slice fa' xs'.length fc')) w D P B gL ls nm ims xs' ia ic fa' fc' := by
  have hg := grown_set Y P 2 (.slice fa' xs'.length fc')
  have off : ∀ {e size n : Nat} {v : Value} {ys : List Value}, Y.ownsRow B e size v n ys → v.ownBlock = none ∨ v.ownBlock ≠ some P := fun ho => own_offR ho h.pb
  have hoth : ∀ (q : Addr), q.block ≠ P → q.block < B → (Y.setCell ⟨P, 2, none⟩ (.slice fa' xs'.length fc')).cell? q = X.cell? q := fun q hq hqb => (World.cell?_setCell_other _ _ _ _ (fun e => hq (by rw [← e]))).trans (World.cell?_of_block (hk _ hqb))
  have hdp : D ≠ P := Nat.ne_of_lt h.dp
  have hfz : ∀ (q : Addr), q.block < B → (Y.setCell ⟨P, 2, none⟩ (.slice fa' xs'.length fc')).frozen? q = X.frozen? q := fun q hqb => (World.frozen?_setCell ..).trans (World.frozen?_of_block (hk _ hqb))
  have hp : ∀ j, Y.cell? ⟨P, j, none⟩ = X.cell? ⟨P, j, none⟩ := fun j => World.cell?_of_block (hk _ h.pb)
  exact ⟨(World.cell?_setCell_other _ _ _ _ (by simp)).trans ((hp 0).trans h.p0), (World.cell?_setCell_other _ _ _ _ (by simp)).trans ((hp 1).trans h.p1), World.cell?_setCell_same _ _ _ ((hp 2).trans h.p2), fun j => (hfz ⟨P, j, none⟩ h.pb).trans (h.pf j), (hoth _ hdp h.db).trans h.r0, (hoth _ hdp h.db).trans h.r1, (hoth _ hdp h.db).trans h.r2, fun j => (hfz ⟨D, j, none⟩ h.db).trans (h.rf j),
    fun j hj => (hoth ⟨gL, j, none⟩ h.gp h.gb).trans (h.lines j hj), oi.kept hg (off oi), fo.kept hg (off fo.row) (fun y hy => off (fo.trees y hy)), h.dp, h.gd, h.gp, h.db, h.pb, h.gb, hb.grown hg (Nat.le_trans (Nat.le_of_lt h.db) hbs) (fun k e => by injection e with e; have := h.dp; omega), by simpa using hbs⟩

theorem RdO.import (h : RdO X w D P B gL ls nm ims xs ia ic fa fc) (x : List UInt8) (hn : ims.length ≤ 1048576) :
    ∃ g' c' Y, (Builtin.append_ #[37, 37] 37 #[.slice ia ims.length ic, .slice (some ⟨X.heap.size, 0, none⟩) 1 1]).run Tryz.prog (X.alloc (.cells #[.string ⟨x.toArray⟩] 9)) = .ok (.slice (some ⟨g', 0, none⟩) (ims.length + 1) c') Y ∧
      Y.cell? ⟨P, 1, none⟩ = some (.slice ia ims.length ic) ∧ (∀ j, Y.frozen? ⟨P, j, none⟩ = false) ∧ RdO (Y.setCell ⟨P, 1, none⟩ (.slice (some ⟨g', 0, none⟩) (ims.length + 1) c')) w D P B gL ls nm (ims ++ [x]) xs (some ⟨g', 0, none⟩) c' fa fc := by
  obtain ⟨i0, hi, hz0, hz1, hz2⟩ := info_parts info9
  have hX1 : Below X.heap.size X (X.alloc (.cells #[.string ⟨x.toArray⟩] 9)) := (Below.refl _ _).alloc (Nat.le_refl _) _
  have h1 := h.below hX1
  obtain ⟨v', Y, hrun, hown, hg, _⟩ := run_append_src (P := Tryz.prog) (X.alloc (.cells #[.string ⟨x.toArray⟩] 9)) B 37 37 9 i0 _ 1 16 Tryz.underlying37 hi hz0 hz1 hz2 rfl (by decide) _ _ _ h1.oi _ 1 (strV [x]) (new_strS X x 1) (by unfold maxLen; omega) (by omega) h1.bs
  obtain ⟨g', c', rfl⟩ := own_some hown (by omega)
  obtain ⟨hk, hb, hbs⟩ := h1.grown hg (fun k e => (h1.oi.lt k e).1)
  have hown2 : Y.ownsRow B 9 1 (.slice (some ⟨g', 0, none⟩) (ims ++ [x]).length c') (ims ++ [x]).length (strV (ims ++ [x])) := by
    have e1 : (ims ++ [x]).length = ims.length + 1 := by simp
    have e2 : strV (ims ++ [x]) = strV ims ++ strV [x] := by simp [strV]
    rw [e1, e2]; exact hown
  have hfo : RtsOwn Y B (.slice fa xs.length fc) xs := h1.fo.kept hg (own_typesR h1.fo.row h1.oi (by decide)) (fun y hy => own_typesR (h1.fo.trees y hy) h1.oi (by decide))
  have hz := h1.imp0 hk hb hbs hown2 hfo
  refine ⟨g', c', Y, hrun, (World.cell?_of_block (a := ⟨P, 1, none⟩) (hk _ h1.pb)).trans h1.p1, fun j => (World.frozen?_of_block (a := ⟨P, j, none⟩) (hk _ h1.pb)).trans (h1.pf j), ?_⟩
  have e1 : (ims ++ [x]).length = ims.length + 1 := by simp
  rw [e1] at hz
  exact hz

end
/-- What ReadObject answers. -/
def RoOut (w : World) (l : List UInt8) (e : Ending) (w' : World) : Prop :=
  ∃ vi vf xs, e = .returned (.tuple #[.agg #[.string ⟨(readOV l).1.toArray⟩, vi, vf], .bool (readOB l)]) ∧ (xs : List RV).map (·.1) = (readOV l).2.2 ∧ w'.ownsRow w.heap.size 9 1 vi (readOV l).2.1.length (strV (readOV l).2.1) ∧ RtsOwn w' w.heap.size vf xs ∧ Below w.heap.size w w'
theorem roZero {w Y : World} {l : List UInt8} (hz : readOB l = false ∧ readOV l = ob0) (hb : Below w.heap.size w Y) : RoOut w l (.returned (.tuple #[.agg #[.string ⟨#[]⟩, .slice none 0 0, .slice none 0 0], .bool false])) Y :=
  ⟨.slice none 0 0, .slice none 0 0, [], by rw [hz.1, hz.2]; rfl, by rw [hz.2]; rfl, by rw [hz.2]; exact World.ownsRow_nil Y _ _ _, RtsOwn.nil Y _, hb⟩
theorem ro_no {l : List UInt8} (h : readOB l = false) : readOB l = false ∧ readOV l = ob0 := ⟨h, by unfold readOV; rw [if_neg (by rw [h]; simp)]⟩
theorem ro_bad {l : List UInt8} (h : objB (readO l) = false ∨ showO (readO l) ≠ l) : readOB l = false ∧ readOV l = ob0 := ro_no (by
  unfold readOB
  rcases h with h | h
  · simp [h]
  · simp [h])
theorem ro_yes {l : List UInt8} {o : Ob} (hl : l.length ≤ 100000) (ho : readO l = o) (h : objB o = true) (hs : showO o = l) : readOB l = true ∧ readOV l = o := by
  have : readOB l = true := by unfold readOB; rw [ho]; simp [h, hs, hl]
  exact ⟨this, by unfold readOV; rw [if_pos this, ho]⟩
theorem objB_small {o : Ob} (h : objB o = true) : o.2.1.length ≤ 6 ∧ o.2.2.length ≤ 8 ∧ ∀ f ∈ o.2.2, f.2.2.length ≤ 200 := by
  refine ⟨(obj_imn h).1, (objB_parts h).l.2, fun f hf => ?_⟩
  have := (codeB_len (rtB_parts (obj_rts h f hf)).2.2.1).2
  exact this

set_option maxHeartbeats 16000000 in
set_option maxRecDepth 100000 in
theorem specReadObject (l : List UInt8) (w : World) :
    Calls Tryz.prog 21 #[.string ⟨l.toArray⟩] w fun e w' => RoOut w l e w' := by
  obtain ⟨D, hD⟩ : ∃ D, w.heap.size = D := ⟨_, rfl⟩
  obtain ⟨W1, hW1⟩ : ∃ W, w.alloc (.cells #[.string ⟨#[]⟩, .slice none 0 0, .slice none 0 0] 43) = W := ⟨_, rfl⟩
  have hs1 : W1.heap.size = D + 1 := by rw [← hW1, ← hD]; simp
  have hR1 : W1.heap[D]? = some (.cells #[.string ⟨#[]⟩, .slice none 0 0, .slice none 0 0] 43) := by rw [← hW1, ← hD]; exact heap_alloc_new w _
  have hB1 : Below D w W1 := by rw [← hW1, ← hD]; exact (Below.refl _ _).alloc (Nat.le_refl _) _
  by_cases hlen : 100000 < (l.length : Int)
  · have HZ : Hid (readOB l = false ∧ readOV l = ob0) := ro_no (by unfold readOB; rw [decide_eq_false (by omega)]; rfl)
    obtain ⟨r0, r1, r2, fr⟩ := threeR (Below.refl _ W1) (by omega) hR1
    have f0 := fr 0
    have f1 := fr 1
    have f2 := fr 2
    have HBd : Hid (Below D w W1) := hB1
    have hsd : D ≤ W1.heap.size := by omega
    clear fr hR1
    go_enter Tryz.func21, Tryz.ntmps21
    go_wp2
    obtain ⟨Y, hY, z0, z1, z2, hg⟩ := set3R (.string ⟨#[]⟩) (.slice none 0 0) (.slice none 0 0) r0 r1 r2
    rw [hY]
    refine bodyPost_ret (v := .tuple #[.agg #[.string ⟨#[]⟩, .slice none 0 0, .slice none 0 0], .bool false]) (by simp [results, Tryz.results21, go_sem, z0, z1, z2]) rfl ?_
    exact roZero HZ.out (by rw [hD]; exact HBd.out.grown hg hsd (fun k e => by injection e with e; omega))
  go_enter Tryz.func21, Tryz.ntmps21
  go_wp2_with fail
  obtain ⟨W2, hW2⟩ : ∃ W, W1.alloc (.cells #[.string ⟨#[]⟩, .slice none 0 0, .slice none 0 0] 43) = W := ⟨_, rfl⟩
  have hs2 : W2.heap.size = D + 2 := by rw [← hW2]; simp [hs1]
  have hb12 : Below W1.heap.size W1 W2 := by rw [← hW2]; exact (Below.refl _ _).alloc (Nat.le_refl _) _
  have hR2 : W2.heap[D]? = some (.cells #[.string ⟨#[]⟩, .slice none 0 0, .slice none 0 0] 43) := (hb12.block D (by omega)).trans hR1
  have hP2 : W2.heap[D + 1]? = some (.cells #[.string ⟨#[]⟩, .slice none 0 0, .slice none 0 0] 43) := by rw [← hs1, ← hW2]; exact heap_alloc_new W1 _
  have hB2 : Below D w W2 := hB1.trans (hb12.mono (by omega))
  have HLines := specLines l W2 (by omega)
  have hln := linesL_len l
  have hll := line_lenR l
  clear hR1 hB1 hb12
  rw [hW2]
  refine HLines.mono ?_
  rintro e w3 ⟨gL, cpL, rfl, hownL, hb3⟩
  clear HLines
  have HRO0 : Hid (readO l = readH [] [] (linesL l)) := rfl
  obtain ⟨ls, hls⟩ : ∃ ls, linesL l = ls := ⟨_, rfl⟩
  rw [hls] at hownL hln hll HRO0 ⊢
  clear hls
  have hgL := hownL.lt gL rfl
  have hcapL := own_capR hownL
  have HLC : ∀ j, j < ls.length → w3.cell? ⟨gL, j, none⟩ = some (.string ⟨(ls.getD j []).toArray⟩) := fun j hj => by
    obtain ⟨_, a1, c1, e1, hin⟩ := own_texts hownL
    injection e1 with e1 _ _
    subst e1
    obtain ⟨b, off, e2, _, hc⟩ := hin.2 j hj
    injection e2 with e2
    injection e2 with e3 e4 _
    subst e3 e4
    rw [Nat.zero_add] at hc
    exact hc
  obtain ⟨B, hB⟩ : ∃ B, w3.heap.size = B := ⟨_, rfl⟩
  obtain ⟨r0, r1, r2, fr⟩ := threeR hb3 (by omega) hR2
  obtain ⟨p0, p1, p2, fp⟩ := threeR hb3 (by omega) hP2
  have HST0 : Hid (RdO w3 w D (D + 1) B gL ls [] [] [] none 0 none 0) := ⟨p0, p1, p2, fp, r0, r1, r2, fr, HLC, World.ownsRow_nil _ _ _ _, RtsOwn.nil _ _, by omega, by omega, by omega, by have := hb3.size; omega, by have := hb3.size; omega, by omega, hB2.trans (hb3.mono (by omega)), by omega⟩
  have HLL : Hid (∀ j, (ls.getD j []).length ≤ l.length) := hll
  have hlen2 : l.length ≤ 100000 := by omega
  have hcpL : ls.length ≤ cpL := hcapL.1
  have hcpI : (ls.length : Int) ≤ (cpL : Int) := by omega
  have HSR0 : Hid (∀ k, ShortR (readI [] (ls.drop k)) ∧ (readI [] (ls.drop k)).length ≤ 400001) := fun k => readI_short (ls.drop k) (by rw [List.length_drop]; omega) (fun q hq => by
    obtain ⟨j, hj, rfl⟩ := List.mem_iff_getElem.1 hq
    have h9 := hll (k + j)
    rw [← getD_drop15] at h9
    rw [List.getD_eq_getElem?_getD, List.getElem?_eq_getElem hj] at h9
    simp only [Option.getD_some] at h9
    omega)
  clear hR2 hP2 hB2 hownL HLC hgL r0 r1 r2 fr p0 p1 p2 fp hb3 hll hs1 hs2 hB hcapL
  go_wp2_with fail
  go_loopw [6] (fun iv wr => ∃ (k : Nat) (nm : List UInt8) (ims : List (List UInt8)) (ia : Option Addr) (ic : Nat), iv = .int .i64 k ∧ k ≤ ls.length ∧ ims.length ≤ k ∧ Hid (RdO wr w D (D + 1) B gL ls nm ims [] ia ic none 0) ∧ Hid (readO l = readH nm ims (ls.drop k)) ∧ Hid (nm.length ≤ 100000 ∧ ∀ i, (ims.getD i []).length ≤ 100000)) (fun iv _ => ls.length - (intOf iv).toNat)
  case atStart => exact ⟨0, [], [], none, 0, rfl, by omega, by simp, HST0, HRO0, ⟨by simp, fun i => by simp⟩⟩
  case round =>
    obtain ⟨k, nm, ims, ia, ic, rfl, hk, hki, HST, HG, HSN⟩ := hrel
    clear HST0 HRO0
    have st := HST.out
    clear HST
    have HSR : Hid (_) := HSR0.out k
    have hkc : (k : Int) ≤ (cpL : Int) := by omega
    have hkn : (k : Int) ≤ (ls.length : Int) := by omega
    by_cases hkl : (k : Int) < (ls.length : Int)
    rotate_left
    · have HRO : Hid (readO l = (nm, ims, readI [] (ls.drop k))) := by exact (by rw [HG.out, readH_end (by omega)] : readO l = (nm, ims, readI [] (ls.drop k)))
      clear HG HSR0
      by_cases hck : cpL = k
      · have hck2 : k = cpL := hck.symm
        subst hck2
        clear hck
        have HTx : Hid (TextsIn wr (some ⟨gL, 0, none⟩) (ls.length - k) (ls.drop k)) := by
          refine ⟨by simp, fun j hj => ?_⟩
          omega
        have HRd : Hid (_) := fun cq : Nat => specReadI (some ⟨gL, 0, none⟩) (ls.length - k) cq (ls.drop k) wr HTx.out (by omega) (fun j => by have h9 := HLL.out (k + j); rw [getD_drop15]; omega)
        have HSTt : Hid (_) := st
        have HNum : Hid (ims.length ≤ k ∧ k ≤ ls.length ∧ ls.length ≤ l.length + 1 ∧ l.length ≤ 100000) := ⟨hki, hk, by omega, hlen2⟩
        clear HTx st hki hk hlen hln hlen2 hcpL HLL
        go_wp2_with fail
        refine Calls.mono (HRd.out _) ?_
        rintro e w7 ⟨v7, xs7, rfl, hxs7, hR7⟩
        have st := HSTt.out
        obtain ⟨hki, hk, hln, hlen2⟩ := HNum.out
        clear HSTt
        obtain ⟨a7, c7, rfl, _, _⟩ := hR7.fo.in
        have hfo7 := hR7.fo.base st.bs
        have hap7 := hR7.ap
        replace st := st.below hR7.b
        have q2 := st.p2
        have qf2 := st.pf 2
        have st8 := st.fn1 (fun _ _ => rfl) st.b st.bs st.oi hfo7
        obtain ⟨V, hV⟩ : ∃ V, w7.setCell ⟨D + 1, 2, none⟩ (.slice a7 xs7.length c7) = V := ⟨_, rfl⟩
        rw [hV] at st8
        obtain ⟨rs, hrs⟩ : ∃ rs, readI [] (ls.drop k) = rs := ⟨_, rfl⟩
        rw [hrs] at hxs7 HRO HSR
        have HXS : Hid (xs7.map (·.1) = rs ∧ ApartR (xs7.map rvT)) := ⟨hxs7, hap7⟩
        have HRDS : Hid (∀ {X : World}, RdO X w D (D + 1) B gL ls nm ims xs7 ia ic a7 c7 → RtsIn X a7 xs7.length rs ∧ TextsIn X ia ims.length ims) := fun {X} sx => by
          obtain ⟨_, _, ef, _, hfin⟩ := sx.fo.in
          obtain ⟨_, _, _, ei, hiin⟩ := own_texts sx.oi
          injection ef with e1 _ _
          injection ei with e2 _ _
          subst e1; subst e2
          rw [hxs7] at hfin
          exact ⟨hfin, hiin⟩
        clear st hR7 hfo7 hap7 hrs
        have st := st8
        clear st8
        have p0 := st.p0
        have p1 := st.p1
        have p2 := st.p2
        have hxl7 : xs7.length = rs.length := by rw [← hxs7, List.length_map]
        have HC : Hid (_) := specObjectOk nm ia ims.length ic a7 xs7.length c7 ims rs V (HRDS.out st).2 (HRDS.out st).1 (by omega) (by have := HSR.out.2; omega) (by have := HSN.out.1; omega) (fun i => by have := HSN.out.2 i; omega) HSR.out.1
        obtain ⟨nx, hnx⟩ : ∃ nx, xs7.length = nx := ⟨_, rfl⟩
        have HNX : Hid (xs7.length = nx) := hnx
        rcases hp : objB (nm, ims, rs) with _ | _
        · have HZ : Hid (readOB l = false ∧ readOV l = ob0) := ro_bad (by rw [HRO.out]; exact Or.inl hp)
          rw [hp] at HC
          rw [hnx] at HC p2 hV ⊢
          have HST : Hid (RdO V w D (D + 1) B gL ls nm ims xs7 ia ic a7 c7) := st
          clear hp st hxs7 hxl7
          go_wp2_with fail
          refine Calls.mono HC.out ?_
          rintro e w5 ⟨rfl, hb5⟩
          have st := HST.out.below hb5
          have r0 := st.r0
          have r1 := st.r1
          have r2 := st.r2
          have f0 := st.rf 0
          have f1 := st.rf 1
          have f2 := st.rf 2
          have hsd : D ≤ w5.heap.size := by have := st.bs; have := st.db; omega
          have HBd : Hid (Below D w w5) := st.b
          clear HC hb5 st p0 p1 p2 HST
          go_wp2
          obtain ⟨Y, hY, z0, z1, z2, hg⟩ := set3R (.string ⟨#[]⟩) (.slice none 0 0) (.slice none 0 0) r0 r1 r2
          rw [hY]
          refine bodyPost_ret (v := .tuple #[.agg #[.string ⟨#[]⟩, .slice none 0 0, .slice none 0 0], .bool false]) (by simp [results, Tryz.results21, go_sem, z0, z1, z2]) rfl ?_
          exact roZero HZ.out (by rw [hD]; exact HBd.out.grown hg hsd (fun k e => by injection e with e; omega))
        · rw [hp] at HC
          have HP : Hid (objB (nm, ims, rs) = true) := hp
          have HST : Hid (RdO V w D (D + 1) B gL ls nm ims xs7 ia ic a7 c7) := st
          rw [hnx] at HC p2 hV ⊢
          clear hp st hxs7 hxl7
          go_wp2_with fail
          refine Calls.mono HC.out ?_
          rintro e w5 ⟨rfl, hb5⟩
          have st := HST.out.below hb5
          replace p0 := st.p0
          replace p1 := st.p1
          replace p2 := st.p2
          rw [HNX.out] at p2
          have HC2 : Hid (_) := specShowO nm ia ims.length ic a7 xs7.length c7 ims rs w5 (HRDS.out st).2 (HRDS.out st).1 HP.out
          rw [hnx] at HC2
          clear HC hb5 HST
          have HST : Hid (RdO w5 w D (D + 1) B gL ls nm ims xs7 ia ic a7 c7) := st
          clear st
          go_wp2_with fail
          refine Calls.mono HC2.out ?_
          rintro e w6 ⟨rfl, hb6⟩
          have st := HST.out.below hb6
          replace p0 := st.p0
          replace p1 := st.p1
          replace p2 := st.p2
          rw [HNX.out] at p2
          have r0 := st.r0
          have r1 := st.r1
          have r2 := st.r2
          have f0 := st.rf 0
          have f1 := st.rf 1
          have f2 := st.rf 2
          have hsd : D ≤ w6.heap.size := by have := st.bs; have := st.db; omega
          have HBd : Hid (Below D w w6) := st.b
          clear HC2 hb6 HST
          obtain ⟨A, hA⟩ : ∃ A, showO (nm, ims, rs) = A := ⟨_, rfl⟩
          rw [hA]
          by_cases hAl : A = l
          · have HY : Hid (readOB l = true ∧ readOV l = (nm, ims, rs)) := ro_yes hlen2 HRO.out HP.out (hA.trans hAl)
            subst hAl
            have hself : (A == A) = true := by simp
            have hself2 : (A != A) = false := by simp
            have HSTE : Hid (RdO w6 w D (D + 1) B gL ls nm ims xs7 ia ic a7 c7) := st
            clear hA st
            go_wp2
            obtain ⟨Y, hY, z0, z1, z2, hg⟩ := set3R (.string ⟨nm.toArray⟩) (.slice ia ims.length ic) (.slice a7 nx c7) r0 r1 r2
            rw [hY]
            refine bodyPost_ret (v := .tuple #[.agg #[.string ⟨nm.toArray⟩, .slice ia ims.length ic, .slice a7 nx c7], .bool true]) (by simp [results, Tryz.results21, go_sem, z0, z1, z2]) rfl ?_
            have se := HSTE.out
            have hdw : w.heap.size ≤ B := by have := se.db; omega
            have sfo := se.fo
            rw [HNX.out] at sfo
            exact ⟨.slice ia ims.length ic, .slice a7 nx c7, xs7, by rw [HY.out.1, HY.out.2], by rw [HY.out.2]; exact HXS.out.1, by rw [HY.out.2]; exact own_base (se.oi.kept hg (own_offR se.oi se.db)) hdw, (sfo.kept hg (own_offR sfo.row se.db) (fun y hy => own_offR (sfo.trees y hy) se.db)).base hdw, by rw [hD]; exact HBd.out.grown hg hsd (fun k e => by injection e with e; omega)⟩
          · have HZ : Hid (readOB l = false ∧ readOV l = ob0) := ro_bad (by rw [HRO.out]; exact Or.inr (by rw [hA]; exact hAl))
            have hne1 : (A == l) = false := beq_eq_false_iff_ne.2 hAl
            have hne2 : (A != l) = true := bne_iff_ne.2 hAl
            clear hA hAl st
            go_wp2
            obtain ⟨Y, hY, z0, z1, z2, hg⟩ := set3R (.string ⟨#[]⟩) (.slice none 0 0) (.slice none 0 0) r0 r1 r2
            rw [hY]
            refine bodyPost_ret (v := .tuple #[.agg #[.string ⟨#[]⟩, .slice none 0 0, .slice none 0 0], .bool false]) (by simp [results, Tryz.results21, go_sem, z0, z1, z2]) rfl ?_
            exact roZero HZ.out (by rw [hD]; exact HBd.out.grown hg hsd (fun k e => by injection e with e; omega))
      · have hck2 : ¬ k = cpL := fun e => hck e.symm
        have HTx : Hid (TextsIn wr (some ⟨gL, k, none⟩) (ls.length - k) (ls.drop k)) := by
          refine ⟨by simp, fun j hj => ?_⟩
          refine ⟨gL, k, rfl, Nat.lt_of_lt_of_le st.gb st.bs, ?_⟩
          rw [st.lines (k + j) (by omega), getD_drop15]
        have HRd : Hid (_) := fun cq : Nat => specReadI (some ⟨gL, k, none⟩) (ls.length - k) cq (ls.drop k) wr HTx.out (by omega) (fun j => by have h9 := HLL.out (k + j); rw [getD_drop15]; omega)
        have HSTt : Hid (_) := st
        have HNum : Hid (ims.length ≤ k ∧ k ≤ ls.length ∧ ls.length ≤ l.length + 1 ∧ l.length ≤ 100000) := ⟨hki, hk, by omega, hlen2⟩
        clear HTx st hki hk hlen hln hlen2 hcpL HLL
        go_wp2_with fail
        refine Calls.mono (HRd.out _) ?_
        rintro e w7 ⟨v7, xs7, rfl, hxs7, hR7⟩
        have st := HSTt.out
        obtain ⟨hki, hk, hln, hlen2⟩ := HNum.out
        clear HSTt
        obtain ⟨a7, c7, rfl, _, _⟩ := hR7.fo.in
        have hfo7 := hR7.fo.base st.bs
        have hap7 := hR7.ap
        replace st := st.below hR7.b
        have q2 := st.p2
        have qf2 := st.pf 2
        have st8 := st.fn1 (fun _ _ => rfl) st.b st.bs st.oi hfo7
        obtain ⟨V, hV⟩ : ∃ V, w7.setCell ⟨D + 1, 2, none⟩ (.slice a7 xs7.length c7) = V := ⟨_, rfl⟩
        rw [hV] at st8
        obtain ⟨rs, hrs⟩ : ∃ rs, readI [] (ls.drop k) = rs := ⟨_, rfl⟩
        rw [hrs] at hxs7 HRO HSR
        have HXS : Hid (xs7.map (·.1) = rs ∧ ApartR (xs7.map rvT)) := ⟨hxs7, hap7⟩
        have HRDS : Hid (∀ {X : World}, RdO X w D (D + 1) B gL ls nm ims xs7 ia ic a7 c7 → RtsIn X a7 xs7.length rs ∧ TextsIn X ia ims.length ims) := fun {X} sx => by
          obtain ⟨_, _, ef, _, hfin⟩ := sx.fo.in
          obtain ⟨_, _, _, ei, hiin⟩ := own_texts sx.oi
          injection ef with e1 _ _
          injection ei with e2 _ _
          subst e1; subst e2
          rw [hxs7] at hfin
          exact ⟨hfin, hiin⟩
        clear st hR7 hfo7 hap7 hrs
        have st := st8
        clear st8
        have p0 := st.p0
        have p1 := st.p1
        have p2 := st.p2
        have hxl7 : xs7.length = rs.length := by rw [← hxs7, List.length_map]
        have HC : Hid (_) := specObjectOk nm ia ims.length ic a7 xs7.length c7 ims rs V (HRDS.out st).2 (HRDS.out st).1 (by omega) (by have := HSR.out.2; omega) (by have := HSN.out.1; omega) (fun i => by have := HSN.out.2 i; omega) HSR.out.1
        obtain ⟨nx, hnx⟩ : ∃ nx, xs7.length = nx := ⟨_, rfl⟩
        have HNX : Hid (xs7.length = nx) := hnx
        rcases hp : objB (nm, ims, rs) with _ | _
        · have HZ : Hid (readOB l = false ∧ readOV l = ob0) := ro_bad (by rw [HRO.out]; exact Or.inl hp)
          rw [hp] at HC
          rw [hnx] at HC p2 hV ⊢
          have HST : Hid (RdO V w D (D + 1) B gL ls nm ims xs7 ia ic a7 c7) := st
          clear hp st hxs7 hxl7
          go_wp2_with fail
          refine Calls.mono HC.out ?_
          rintro e w5 ⟨rfl, hb5⟩
          have st := HST.out.below hb5
          have r0 := st.r0
          have r1 := st.r1
          have r2 := st.r2
          have f0 := st.rf 0
          have f1 := st.rf 1
          have f2 := st.rf 2
          have hsd : D ≤ w5.heap.size := by have := st.bs; have := st.db; omega
          have HBd : Hid (Below D w w5) := st.b
          clear HC hb5 st p0 p1 p2 HST
          go_wp2
          obtain ⟨Y, hY, z0, z1, z2, hg⟩ := set3R (.string ⟨#[]⟩) (.slice none 0 0) (.slice none 0 0) r0 r1 r2
          rw [hY]
          refine bodyPost_ret (v := .tuple #[.agg #[.string ⟨#[]⟩, .slice none 0 0, .slice none 0 0], .bool false]) (by simp [results, Tryz.results21, go_sem, z0, z1, z2]) rfl ?_
          exact roZero HZ.out (by rw [hD]; exact HBd.out.grown hg hsd (fun k e => by injection e with e; omega))
        · rw [hp] at HC
          have HP : Hid (objB (nm, ims, rs) = true) := hp
          have HST : Hid (RdO V w D (D + 1) B gL ls nm ims xs7 ia ic a7 c7) := st
          rw [hnx] at HC p2 hV ⊢
          clear hp st hxs7 hxl7
          go_wp2_with fail
          refine Calls.mono HC.out ?_
          rintro e w5 ⟨rfl, hb5⟩
          have st := HST.out.below hb5
          replace p0 := st.p0
          replace p1 := st.p1
          replace p2 := st.p2
          rw [HNX.out] at p2
          have HC2 : Hid (_) := specShowO nm ia ims.length ic a7 xs7.length c7 ims rs w5 (HRDS.out st).2 (HRDS.out st).1 HP.out
          rw [hnx] at HC2
          clear HC hb5 HST
          have HST : Hid (RdO w5 w D (D + 1) B gL ls nm ims xs7 ia ic a7 c7) := st
          clear st
          go_wp2_with fail
          refine Calls.mono HC2.out ?_
          rintro e w6 ⟨rfl, hb6⟩
          have st := HST.out.below hb6
          replace p0 := st.p0
          replace p1 := st.p1
          replace p2 := st.p2
          rw [HNX.out] at p2
          have r0 := st.r0
          have r1 := st.r1
          have r2 := st.r2
          have f0 := st.rf 0
          have f1 := st.rf 1
          have f2 := st.rf 2
          have hsd : D ≤ w6.heap.size := by have := st.bs; have := st.db; omega
          have HBd : Hid (Below D w w6) := st.b
          clear HC2 hb6 HST
          obtain ⟨A, hA⟩ : ∃ A, showO (nm, ims, rs) = A := ⟨_, rfl⟩
          rw [hA]
          by_cases hAl : A = l
          · have HY : Hid (readOB l = true ∧ readOV l = (nm, ims, rs)) := ro_yes hlen2 HRO.out HP.out (hA.trans hAl)
            subst hAl
            have hself : (A == A) = true := by simp
            have hself2 : (A != A) = false := by simp
            have HSTE : Hid (RdO w6 w D (D + 1) B gL ls nm ims xs7 ia ic a7 c7) := st
            clear hA st
            go_wp2
            obtain ⟨Y, hY, z0, z1, z2, hg⟩ := set3R (.string ⟨nm.toArray⟩) (.slice ia ims.length ic) (.slice a7 nx c7) r0 r1 r2
            rw [hY]
            refine bodyPost_ret (v := .tuple #[.agg #[.string ⟨nm.toArray⟩, .slice ia ims.length ic, .slice a7 nx c7], .bool true]) (by simp [results, Tryz.results21, go_sem, z0, z1, z2]) rfl ?_
            have se := HSTE.out
            have hdw : w.heap.size ≤ B := by have := se.db; omega
            have sfo := se.fo
            rw [HNX.out] at sfo
            exact ⟨.slice ia ims.length ic, .slice a7 nx c7, xs7, by rw [HY.out.1, HY.out.2], by rw [HY.out.2]; exact HXS.out.1, by rw [HY.out.2]; exact own_base (se.oi.kept hg (own_offR se.oi se.db)) hdw, (sfo.kept hg (own_offR sfo.row se.db) (fun y hy => own_offR (sfo.trees y hy) se.db)).base hdw, by rw [hD]; exact HBd.out.grown hg hsd (fun k e => by injection e with e; omega)⟩
          · have HZ : Hid (readOB l = false ∧ readOV l = ob0) := ro_bad (by rw [HRO.out]; exact Or.inr (by rw [hA]; exact hAl))
            have hne1 : (A == l) = false := beq_eq_false_iff_ne.2 hAl
            have hne2 : (A != l) = true := bne_iff_ne.2 hAl
            clear hA hAl st
            go_wp2
            obtain ⟨Y, hY, z0, z1, z2, hg⟩ := set3R (.string ⟨#[]⟩) (.slice none 0 0) (.slice none 0 0) r0 r1 r2
            rw [hY]
            refine bodyPost_ret (v := .tuple #[.agg #[.string ⟨#[]⟩, .slice none 0 0, .slice none 0 0], .bool false]) (by simp [results, Tryz.results21, go_sem, z0, z1, z2]) rfl ?_
            exact roZero HZ.out (by rw [hD]; exact HBd.out.grown hg hsd (fun k e => by injection e with e; omega))
    · have hk2 : k < ls.length := by omega
      have c0 := st.lines k hk2
      have hxl := HLL.out k
      have hrd := readH_drop hk2 nm ims
      obtain ⟨x, hx⟩ : ∃ x, ls.getD k [] = x := ⟨_, rfl⟩
      rw [hx] at c0 hxl hrd
      have HRD : Hid (_) := hrd
      clear hx hrd
      go_wp2_with fail
      refine (specSplit x 32 32 _ (by rfl) (by omega)).mono ?_
      rintro e w4 ⟨g2, cp2, rfl, hown2, hb4⟩
      have hBr := st.bs
      have hPb := st.pb
      replace st := st.below hb4
      have hw1 := word_lenR 32 x 1
      have hcw : ∀ j, j < (splitL 32 x).length → w4.cell? ⟨g2, j, none⟩ = some (.string ⟨((splitL 32 x).getD j []).toArray⟩) := fun j hj => by
        obtain ⟨_, a1, c1, e1, hin⟩ := own_texts hown2
        injection e1 with e1 _ _
        subst e1
        obtain ⟨b, off, e2, _, hc⟩ := hin.2 j hj
        injection e2 with e2
        injection e2 with e3 e4 _
        subst e3 e4
        rw [Nat.zero_add] at hc
        exact hc
      have hg2 := (hown2.lt g2 rfl).2
      have hlo := (hown2.lt g2 rfl).1
      have hgne : g2 ≠ D + 1 := by omega
      generalize hws : splitL 32 x = ws at hcw hw1 hown2 HRD ⊢
      clear hown2 hb4 hws
      by_cases h2 : ws.length = 2
      · have hc0 := hcw 0 (by omega)
        have hc1 := hcw 1 (by omega)
        have hrd := HRD.out
        rw [if_pos h2] at hrd
        rw [h2]
        obtain ⟨x0, hx0⟩ : ∃ x0, ws.getD 0 [] = x0 := ⟨_, rfl⟩
        obtain ⟨x1, hx1⟩ : ∃ x1, ws.getD 1 [] = x1 := ⟨_, rfl⟩
        rw [hx0] at hc0 hrd
        rw [hx1] at hc1 hrd hw1
        clear hcw hx0 hx1 h2 HRD
        by_cases hkw : x0 = kwObject
        · have HG2 : Hid (readO l = readH x1 ims (ls.drop (k + 1))) := by exact (by rw [HG.out, hrd, if_pos hkw] : readO l = readH x1 ims (ls.drop (k + 1)))
          have hke : (x0 == [111, 98, 106, 101, 99, 116]) = true := by rw [hkw]; decide
          have p0 := st.p0
          have pf0 := st.pf 0
          have st2 := st.name x1
          obtain ⟨V, hV⟩ : ∃ V, w4.setCell ⟨D + 1, 0, none⟩ (.string ⟨x1.toArray⟩) = V := ⟨_, rfl⟩
          rw [hV] at st2
          have HST2 : Hid (RdO V w D (D + 1) B gL ls x1 ims [] ia ic none 0) := st2
          have HSN2 : Hid (x1.length ≤ 100000 ∧ ∀ i, (ims.getD i []).length ≤ 100000) := ⟨by omega, HSN.out.2⟩
          clear st st2 hrd HG hkw HSN
          go_wp2
          go_roundw
          case rel => exact ⟨k + 1, x1, ims, ia, ic, by go_num, by omega, by omega, HST2, HG2, HSN2⟩
          case measure => simp [intOf]; omega
        · have HG2 : Hid (readO l = readH nm (ims ++ [x1]) (ls.drop (k + 1))) := by exact (by rw [HG.out, hrd, if_neg hkw] : readO l = readH nm (ims ++ [x1]) (ls.drop (k + 1)))
          have hke : (x0 == [111, 98, 106, 101, 99, 116]) = false := beq_eq_false_iff_ne.2 hkw
          have HSN2 : Hid (nm.length ≤ 100000 ∧ ∀ i, ((ims ++ [x1]).getD i []).length ≤ 100000) := ⟨HSN.out.1, fun i => by
            by_cases hi : i < ims.length
            · rw [List.getD_eq_getElem?_getD, List.getElem?_append_left hi, ← List.getD_eq_getElem?_getD]
              exact HSN.out.2 i
            · rw [List.getD_eq_getElem?_getD, List.getElem?_append_right (by omega)]
              by_cases h0 : i - ims.length = 0
              · rw [h0]; simp; omega
              · rw [List.getElem?_eq_none (by simp; omega)]; simp⟩
          replace st := st.drew
          have p1 := st.p1
          have hc1d : w4.drew.cell? ⟨g2, 1, none⟩ = some (.string ⟨x1.toArray⟩) := hc1
          obtain ⟨g', c', Y, hrun, y1, yf, st2⟩ := st.import x1 (by omega)
          have yf1 := yf 1
          have p1a : (w4.drew.alloc (.cells #[.string ⟨x1.toArray⟩] 9)).cell? ⟨D + 1, 1, none⟩ = some (.slice ia ims.length ic) := cell_alwR _ p1
          have p1b : (w4.alloc (.cells #[.string ⟨x1.toArray⟩] 9)).drew.cell? ⟨D + 1, 1, none⟩ = some (.slice ia ims.length ic) := p1a
          have hrun2 : (Builtin.append_ #[37, 37] 37 #[.slice ia ims.length ic, .slice (some ⟨w4.heap.size, 0, none⟩) 1 1]).run Tryz.prog (w4.alloc (.cells #[.string ⟨x1.toArray⟩] 9)).drew = .ok (.slice (some ⟨g', 0, none⟩) (ims.length + 1) c') Y := hrun
          have HST2 : Hid (RdO (Y.setCell ⟨D + 1, 1, none⟩ (.slice (some ⟨g', 0, none⟩) (ims.length + 1) c')) w D (D + 1) B gL ls nm (ims ++ [x1]) [] (some ⟨g', 0, none⟩) c' none 0) := st2
          clear st st2 hrd HG hkw HSN yf
          go_wp2_with fail
          go_region_law (first | (refine step_append_run (by rfl) (.tmp 36) (.tmp 40) 37 (by rfl) _ _ _ (by rfl) (by rfl) hrun ?_) | (refine step_append_run (by rfl) (.tmp 36) (.tmp 40) 37 (by rfl) _ _ _ (by rfl) (by rfl) hrun2 ?_))
          all_goals
            go_wp2
            go_roundw
            case rel => exact ⟨k + 1, nm, ims ++ [x1], some ⟨g', 0, none⟩, c', by go_num, by omega, by simp; omega, HST2, HG2, HSN2⟩
            case measure => simp [intOf]; omega
      · have HRO : Hid (readO l = (nm, ims, readI [] (ls.drop k))) := by exact (by rw [HG.out, HRD.out, if_neg h2] : readO l = (nm, ims, readI [] (ls.drop k)))
        have hne : ((ws.length : Int) != 2) = true := bne_iff_ne.2 (by omega)
        generalize ws.length = nw at hne h2 ⊢
        clear HG HSR0 HRD hcw hw1
        by_cases hck : cpL = k
        · exfalso; omega
        · have hck2 : ¬ k = cpL := fun e => hck e.symm
          have HTx : Hid (TextsIn w4 (some ⟨gL, k, none⟩) (ls.length - k) (ls.drop k)) := by
            refine ⟨by simp, fun j hj => ?_⟩
            refine ⟨gL, k, rfl, Nat.lt_of_lt_of_le st.gb st.bs, ?_⟩
            rw [st.lines (k + j) (by omega), getD_drop15]
          have HRd : Hid (_) := fun cq : Nat => specReadI (some ⟨gL, k, none⟩) (ls.length - k) cq (ls.drop k) w4 HTx.out (by omega) (fun j => by have h9 := HLL.out (k + j); rw [getD_drop15]; omega)
          have HSTt : Hid (_) := st
          have HNum : Hid (ims.length ≤ k ∧ k ≤ ls.length ∧ ls.length ≤ l.length + 1 ∧ l.length ≤ 100000) := ⟨hki, hk, by omega, hlen2⟩
          clear HTx st hki hk hlen hln hlen2 hcpL HLL
          go_wp2_with fail
          refine Calls.mono (HRd.out _) ?_
          rintro e w7 ⟨v7, xs7, rfl, hxs7, hR7⟩
          have st := HSTt.out
          obtain ⟨hki, hk, hln, hlen2⟩ := HNum.out
          clear HSTt
          obtain ⟨a7, c7, rfl, _, _⟩ := hR7.fo.in
          have hfo7 := hR7.fo.base st.bs
          have hap7 := hR7.ap
          replace st := st.below hR7.b
          have q2 := st.p2
          have qf2 := st.pf 2
          have st8 := st.fn1 (fun _ _ => rfl) st.b st.bs st.oi hfo7
          obtain ⟨V, hV⟩ : ∃ V, w7.setCell ⟨D + 1, 2, none⟩ (.slice a7 xs7.length c7) = V := ⟨_, rfl⟩
          rw [hV] at st8
          obtain ⟨rs, hrs⟩ : ∃ rs, readI [] (ls.drop k) = rs := ⟨_, rfl⟩
          rw [hrs] at hxs7 HRO HSR
          have HXS : Hid (xs7.map (·.1) = rs ∧ ApartR (xs7.map rvT)) := ⟨hxs7, hap7⟩
          have HRDS : Hid (∀ {X : World}, RdO X w D (D + 1) B gL ls nm ims xs7 ia ic a7 c7 → RtsIn X a7 xs7.length rs ∧ TextsIn X ia ims.length ims) := fun {X} sx => by
            obtain ⟨_, _, ef, _, hfin⟩ := sx.fo.in
            obtain ⟨_, _, _, ei, hiin⟩ := own_texts sx.oi
            injection ef with e1 _ _
            injection ei with e2 _ _
            subst e1; subst e2
            rw [hxs7] at hfin
            exact ⟨hfin, hiin⟩
          clear st hR7 hfo7 hap7 hrs
          have st := st8
          clear st8
          have p0 := st.p0
          have p1 := st.p1
          have p2 := st.p2
          have hxl7 : xs7.length = rs.length := by rw [← hxs7, List.length_map]
          have HC : Hid (_) := specObjectOk nm ia ims.length ic a7 xs7.length c7 ims rs V (HRDS.out st).2 (HRDS.out st).1 (by omega) (by have := HSR.out.2; omega) (by have := HSN.out.1; omega) (fun i => by have := HSN.out.2 i; omega) HSR.out.1
          obtain ⟨nx, hnx⟩ : ∃ nx, xs7.length = nx := ⟨_, rfl⟩
          have HNX : Hid (xs7.length = nx) := hnx
          rcases hp : objB (nm, ims, rs) with _ | _
          · have HZ : Hid (readOB l = false ∧ readOV l = ob0) := ro_bad (by rw [HRO.out]; exact Or.inl hp)
            rw [hp] at HC
            rw [hnx] at HC p2 hV ⊢
            have HST : Hid (RdO V w D (D + 1) B gL ls nm ims xs7 ia ic a7 c7) := st
            clear hp st hxs7 hxl7
            go_wp2_with fail
            refine Calls.mono HC.out ?_
            rintro e w5 ⟨rfl, hb5⟩
            have st := HST.out.below hb5
            have r0 := st.r0
            have r1 := st.r1
            have r2 := st.r2
            have f0 := st.rf 0
            have f1 := st.rf 1
            have f2 := st.rf 2
            have hsd : D ≤ w5.heap.size := by have := st.bs; have := st.db; omega
            have HBd : Hid (Below D w w5) := st.b
            clear HC hb5 st p0 p1 p2 HST
            go_wp2
            obtain ⟨Y, hY, z0, z1, z2, hg⟩ := set3R (.string ⟨#[]⟩) (.slice none 0 0) (.slice none 0 0) r0 r1 r2
            rw [hY]
            refine bodyPost_ret (v := .tuple #[.agg #[.string ⟨#[]⟩, .slice none 0 0, .slice none 0 0], .bool false]) (by simp [results, Tryz.results21, go_sem, z0, z1, z2]) rfl ?_
            exact roZero HZ.out (by rw [hD]; exact HBd.out.grown hg hsd (fun k e => by injection e with e; omega))
          · rw [hp] at HC
            have HP : Hid (objB (nm, ims, rs) = true) := hp
            have HST : Hid (RdO V w D (D + 1) B gL ls nm ims xs7 ia ic a7 c7) := st
            rw [hnx] at HC p2 hV ⊢
            clear hp st hxs7 hxl7
            go_wp2_with fail
            refine Calls.mono HC.out ?_
            rintro e w5 ⟨rfl, hb5⟩
            have st := HST.out.below hb5
            replace p0 := st.p0
            replace p1 := st.p1
            replace p2 := st.p2
            rw [HNX.out] at p2
            have HC2 : Hid (_) := specShowO nm ia ims.length ic a7 xs7.length c7 ims rs w5 (HRDS.out st).2 (HRDS.out st).1 HP.out
            rw [hnx] at HC2
            clear HC hb5 HST
            have HST : Hid (RdO w5 w D (D + 1) B gL ls nm ims xs7 ia ic a7 c7) := st
            clear st
            go_wp2_with fail
            refine Calls.mono HC2.out ?_
            rintro e w6 ⟨rfl, hb6⟩
            have st := HST.out.below hb6
            replace p0 := st.p0
            replace p1 := st.p1
            replace p2 := st.p2
            rw [HNX.out] at p2
            have r0 := st.r0
            have r1 := st.r1
            have r2 := st.r2
            have f0 := st.rf 0
            have f1 := st.rf 1
            have f2 := st.rf 2
            have hsd : D ≤ w6.heap.size := by have := st.bs; have := st.db; omega
            have HBd : Hid (Below D w w6) := st.b
            clear HC2 hb6 HST
            obtain ⟨A, hA⟩ : ∃ A, showO (nm, ims, rs) = A := ⟨_, rfl⟩
            rw [hA]
            by_cases hAl : A = l
            · have HY : Hid (readOB l = true ∧ readOV l = (nm, ims, rs)) := ro_yes hlen2 HRO.out HP.out (hA.trans hAl)
              subst hAl
              have hself : (A == A) = true := by simp
              have hself2 : (A != A) = false := by simp
              have HSTE : Hid (RdO w6 w D (D + 1) B gL ls nm ims xs7 ia ic a7 c7) := st
              clear hA st
              go_wp2
              obtain ⟨Y, hY, z0, z1, z2, hg⟩ := set3R (.string ⟨nm.toArray⟩) (.slice ia ims.length ic) (.slice a7 nx c7) r0 r1 r2
              rw [hY]
              refine bodyPost_ret (v := .tuple #[.agg #[.string ⟨nm.toArray⟩, .slice ia ims.length ic, .slice a7 nx c7], .bool true]) (by simp [results, Tryz.results21, go_sem, z0, z1, z2]) rfl ?_
              have se := HSTE.out
              have hdw : w.heap.size ≤ B := by have := se.db; omega
              have sfo := se.fo
              rw [HNX.out] at sfo
              exact ⟨.slice ia ims.length ic, .slice a7 nx c7, xs7, by rw [HY.out.1, HY.out.2], by rw [HY.out.2]; exact HXS.out.1, by rw [HY.out.2]; exact own_base (se.oi.kept hg (own_offR se.oi se.db)) hdw, (sfo.kept hg (own_offR sfo.row se.db) (fun y hy => own_offR (sfo.trees y hy) se.db)).base hdw, by rw [hD]; exact HBd.out.grown hg hsd (fun k e => by injection e with e; omega)⟩
            · have HZ : Hid (readOB l = false ∧ readOV l = ob0) := ro_bad (by rw [HRO.out]; exact Or.inr (by rw [hA]; exact hAl))
              have hne1 : (A == l) = false := beq_eq_false_iff_ne.2 hAl
              have hne2 : (A != l) = true := bne_iff_ne.2 hAl
              clear hA hAl st
              go_wp2
              obtain ⟨Y, hY, z0, z1, z2, hg⟩ := set3R (.string ⟨#[]⟩) (.slice none 0 0) (.slice none 0 0) r0 r1 r2
              rw [hY]
              refine bodyPost_ret (v := .tuple #[.agg #[.string ⟨#[]⟩, .slice none 0 0, .slice none 0 0], .bool false]) (by simp [results, Tryz.results21, go_sem, z0, z1, z2]) rfl ?_
              exact roZero HZ.out (by rw [hD]; exact HBd.out.grown hg hsd (fun k e => by injection e with e; omega))

end Go.Proofs.YtfhkiaogfopigaaGreatDoor
