/-
  Parts of one proof, one behind the other: Draw7D, Draw7E, Draw7F.
-/
import Derived.Test.YtdjglpcllcjcfaaDoorP23
import Derived.Test.YtdjglpcllcjcfaaDoorP18
import Derived.Laws.OwnMore
import Derived.Deep.RegionWith
import Derived.Deep.RegionLaw
import Derived.Deep.Cut
import Derived.Deep.CutRange
import Derived.Lib.SmallJoins
import Derived.Test.YtdjglpcllcjcfaaDoorP8
import Derived.Test.YtdjglpcllcjcfaaDoorP9

/-! A package, as l7DrawAny holds it, and what is done to it. -/
namespace Go.Proofs.YtdjglpcllcjcfaaDoor
open Go.RowKit

structure PkS (X w : World) (B : Nat) (a : Option Addr) (len cap : Nat) (R P : Nat) (nm : List UInt8) (ia : Option Addr) (ic : Nat) (ims : List (List UInt8)) (fa : Option Addr) (fc : Nat) (xs : List FV) : Prop where
  p : X.ownsRow (R + 1) 33 3 (.slice (some ⟨P, 0, none⟩) 1 1) 1 [.string ⟨nm.toArray⟩, .slice ia ims.length ic, .slice fa xs.length fc]
  r : Box3 X R (.string ⟨#[]⟩) (.slice none 0 0) (.slice none 0 0)
  rf : ∀ j, X.frozen? ⟨R, j, none⟩ = false
  im : X.ownsRow (R + 1) 9 1 (.slice ia ims.length ic) ims.length (strV ims)
  fo : FnsOwn X (R + 1) (.slice fa xs.length fc) xs
  cur : Cur X B a len cap
  g : w.grownBy X (some B)
  br : B < R
  wr : w.heap.size = R

section
variable {X Y w : World} {B : Nat} {a : Option Addr} {len cap R P : Nat} {nm : List UInt8} {ia : Option Addr} {ic : Nat} {ims : List (List UInt8)} {fa : Option Addr} {fc : Nat} {xs : List FV} {gF : Nat}

theorem PkS.next (h : PkS X w B a len cap R P nm ia ic ims fa fc xs) (hg : X.grownBy Y (some B)) (hc : Cur Y B a len cap) : PkS Y w B a len cap R P nm ia ic ims fa fc xs :=
  have hr : some R ≠ some B := fun e => by injection e with e; have := h.br; omega
  have hlt : ∀ k, some B = some k → k < R + 1 := fun k e => by injection e with e; have := h.br; omega
  ⟨own_grown h.p hg hlt, h.r.grown hg hr, fun j => (World.frozen?_of_block (a := ⟨R, j, none⟩) (hg.block R h.r.lt hr)).trans (h.rf j), own_grown h.im hg hlt, h.fo.grown hg hlt, hc, h.g.trans hg, h.br, h.wr⟩
theorem PkS.made (h : PkS X w B a len cap R P nm ia ic ims fa fc xs) (hg : X.grownBy Y none) : PkS Y w B a len cap R P nm ia ic ims fa fc xs :=
  h.next ⟨hg.os, hg.tape, hg.output, hg.size, fun k hk _ => hg.block k hk (by simp)⟩ (h.cur.kept hg (by simp))
theorem PkS.alloc (h : PkS X w B a len cap R P nm ia ic ims fa fc xs) (o : Obj) : PkS (X.alloc o) w B a len cap R P nm ia ic ims fa fc xs := h.made (World.grownBy_alloc X o none)
theorem PkS.drew (h : PkS X w B a len cap R P nm ia ic ims fa fc xs) : PkS X.drew w B a len cap R P nm ia ic ims fa fc xs := h.made (grown_drew X none)

theorem PkS.step (h : PkS X w B a len cap R P nm ia ic ims fa fc xs) {row : Option Nat} (hg : X.grownBy Y row) (hr : ∀ k, row = some k → R < k) {nm' : List UInt8} {ia' : Option Addr} {ic' : Nat} {ims' : List (List UInt8)} {fa' : Option Addr} {fc' : Nat} {xs' : List FV}
    (hp : Y.ownsRow (R + 1) 33 3 (.slice (some ⟨P, 0, none⟩) 1 1) 1 [.string ⟨nm'.toArray⟩, .slice ia' ims'.length ic', .slice fa' xs'.length fc']) (hi : Y.ownsRow (R + 1) 9 1 (.slice ia' ims'.length ic') ims'.length (strV ims')) (hf : FnsOwn Y (R + 1) (.slice fa' xs'.length fc') xs') : PkS Y w B a len cap R P nm' ia' ic' ims' fa' fc' xs' := by
  have hbr := h.br
  have hne : ∀ {k : Nat}, k ≤ R → some k ≠ row := fun {k} hk e => by have := hr k e.symm; omega
  refine ⟨hp, h.r.grown hg (hne (Nat.le_refl _)), fun j => (World.frozen?_of_block (a := ⟨R, j, none⟩) (hg.block R h.r.lt (hne (Nat.le_refl _)))).trans (h.rf j), hi, hf, h.cur.kept hg (fun k e => by have := hr k e; omega), ?_, h.br, h.wr⟩
  have hw := h.g
  have hwr := h.wr
  exact ⟨hg.os.trans hw.os, hg.tape.trans hw.tape, hg.output.trans hw.output, Nat.le_trans hw.size hg.size, fun q hq hn => (hg.block q (Nat.lt_of_lt_of_le hq hw.size) (hne (by omega))).trans (hw.block q hq hn)⟩

theorem PkS.rp (h : PkS X w B a len cap R P nm ia ic ims fa fc xs) : R < P ∧ P < X.heap.size := by have := h.p.lt P rfl; omega
theorem PkS.cells (h : PkS X w B a len cap R P nm ia ic ims fa fc xs) : Box3 X P (.string ⟨nm.toArray⟩) (.slice ia ims.length ic) (.slice fa xs.length fc) ∧ ∀ j, X.frozen? ⟨P, j, none⟩ = false :=
  ⟨⟨h.p.cells rfl 0 _ rfl, h.p.cells rfl 1 _ rfl, h.p.cells rfl 2 _ rfl⟩, fun j => h.p.frozenAt j⟩

/-- The package's name is written. -/
theorem PkS.name (h : PkS X w B a len cap R P nm ia ic ims fa fc xs) (x : List UInt8) : PkS (X.setCell ⟨P, 0, none⟩ (.string ⟨x.toArray⟩)) w B a len cap R P x ia ic ims fa fc xs := by
  obtain ⟨hp, hg⟩ := h.p.stored 0 (.string ⟨x.toArray⟩)
  exact h.step hg (fun k e => by injection e with e; have := h.rp; omega) hp (h.im.kept hg (own_types h.im h.p (by decide))) (h.fo.kept hg (own_types h.fo.row h.p (by decide)) (fun z hz => own_types (h.fo.trees z hz) h.p (by decide)))
theorem PkS.imps (h : PkS X w B a len cap R P nm ia ic ims fa fc xs) {ia' : Option Addr} {ic' : Nat} {ims' : List (List UInt8)} (hi : X.ownsRow (R + 1) 9 1 (.slice ia' ims'.length ic') ims'.length (strV ims')) : PkS (X.setCell ⟨P, 1, none⟩ (.slice ia' ims'.length ic')) w B a len cap R P nm ia' ic' ims' fa fc xs := by
  obtain ⟨hp, hg⟩ := h.p.stored 1 (.slice ia' ims'.length ic')
  exact h.step hg (fun k e => by injection e with e; have := h.rp; omega) hp (hi.kept hg (own_types hi h.p (by decide))) (h.fo.kept hg (own_types h.fo.row h.p (by decide)) (fun z hz => own_types (h.fo.trees z hz) h.p (by decide)))
theorem PkS.fns (h : PkS X w B a len cap R P nm ia ic ims fa fc xs) {fa' : Option Addr} {fc' : Nat} {xs' : List FV} (hf : FnsOwn X (R + 1) (.slice fa' xs'.length fc') xs') : PkS (X.setCell ⟨P, 2, none⟩ (.slice fa' xs'.length fc')) w B a len cap R P nm ia ic ims fa' fc' xs' := by
  obtain ⟨hp, hg⟩ := h.p.stored 2 (.slice fa' xs'.length fc')
  exact h.step hg (fun k e => by injection e with e; have := h.rp; omega) hp (h.im.kept hg (own_types h.im h.p (by decide))) (hf.kept hg (own_types hf.row h.p (by decide)) (fun z hz => own_types (hf.trees z hz) h.p (by decide)))

/-- An import is put behind the others. -/
theorem PkS.import (h : PkS X w B a len cap R P nm ia ic ims fa fc xs) (x : List UInt8) (hn : ims.length ≤ 1048576) :
    ∃ g' c' Y, (Builtin.append_ #[30, 30] 30 #[.slice ia ims.length ic, .slice (some ⟨X.heap.size, 0, none⟩) 1 1]).run Tryd.prog (X.alloc (.cells #[.string ⟨x.toArray⟩] 9)) = .ok (.slice (some ⟨g', 0, none⟩) (ims.length + 1) c') Y ∧
      (Box3 Y P (.string ⟨nm.toArray⟩) (.slice ia ims.length ic) (.slice fa xs.length fc) ∧ ∀ j, Y.frozen? ⟨P, j, none⟩ = false) ∧ PkS (Y.setCell ⟨P, 1, none⟩ (.slice (some ⟨g', 0, none⟩) (ims.length + 1) c')) w B a len cap R P nm (some ⟨g', 0, none⟩) c' (ims ++ [x]) fa fc xs := by
  obtain ⟨i0, hi, hz0, hz1, hz2⟩ := info_parts info9
  have h1 := h.alloc (.cells #[.string ⟨x.toArray⟩] 9)
  have hnew := new_str X x 1
  obtain ⟨W, hW⟩ : ∃ W, X.alloc (.cells #[.string ⟨x.toArray⟩] 9) = W := ⟨_, rfl⟩
  rw [hW] at h1 hnew ⊢
  have hrp := h1.rp
  obtain ⟨v', Y, hrun, hown, hg, _⟩ := run_append_src (P := Tryd.prog) W (R + 1) 30 30 9 i0 _ 1 16 Tryd.underlying30 hi hz0 hz1 hz2 rfl (by decide) _ _ _ h1.im _ 1 (strV [x]) hnew (by unfold maxLen; omega) (by omega) (by omega)
  obtain ⟨g', c', rfl⟩ := own_some hown (by omega)
  have e1 : (ims ++ [x]).length = ims.length + 1 := by simp
  have hown2 : Y.ownsRow (R + 1) 9 1 (.slice (some ⟨g', 0, none⟩) (ims ++ [x]).length c') (ims ++ [x]).length (strV (ims ++ [x])) := by
    have e2 : strV (ims ++ [x]) = strV ims ++ strV [x] := by simp [strV]
    rw [e1, e2]; exact hown
  have hp := h1.p.kept hg (own_types h1.p h1.im (by decide))
  have hf := h1.fo.kept hg (own_types h1.fo.row h1.im (by decide)) (fun z hz => own_types (h1.fo.trees z hz) h1.im (by decide))
  obtain ⟨hp2, hg2⟩ := hp.stored 1 (.slice (some ⟨g', 0, none⟩) (ims.length + 1) c')
  refine ⟨g', c', Y, hrun, ⟨⟨hp.cells rfl 0 _ rfl, hp.cells rfl 1 _ rfl, hp.cells rfl 2 _ rfl⟩, fun j => hp.frozenAt j⟩, ?_⟩
  have hR : ∀ k, (Value.slice ia ims.length ic).ownBlock = some k → R < k := fun k e => by have := (h1.im.lt k e).1; omega
  have hbr := h1.br
  have hne : ∀ {k : Nat}, k ≤ R → some k ≠ (Value.slice ia ims.length ic).ownBlock := fun {k} hk e => by have := hR k e.symm; omega
  have hneP : ∀ {k : Nat}, k ≤ R → some k ≠ some P := fun {k} hk e => by injection e with e; omega
  refine ⟨by rw [e1]; exact hp2, (h1.r.grown hg (hne (Nat.le_refl _))).grown hg2 (hneP (Nat.le_refl _)), fun j => (World.frozen?_setCell ..).trans ((World.frozen?_of_block (a := ⟨R, j, none⟩) (hg.block R h1.r.lt (hne (Nat.le_refl _)))).trans (h1.rf j)), hown2.kept hg2 (own_types hown2 hp (by decide)), hf.kept hg2 (own_types hf.row hp (by decide)) (fun z hz => own_types (hf.trees z hz) hp (by decide)), (h1.cur.kept hg (fun k e => by have := hR k e; omega)).kept hg2 (fun k e => by injection e with e; omega), ?_, h.br, h.wr⟩
  have hw := h1.g
  have hwr := h.wr
  exact ⟨hg2.os.trans (hg.os.trans hw.os), hg2.tape.trans (hg.tape.trans hw.tape), hg2.output.trans (hg.output.trans hw.output), Nat.le_trans hw.size (Nat.le_trans hg.size hg2.size), fun q hq hn => (hg2.block q (Nat.lt_of_lt_of_le hq (Nat.le_trans hw.size hg.size)) (hneP (by omega))).trans ((hg.block q (Nat.lt_of_lt_of_le hq hw.size) (hne (by omega))).trans (hw.block q hq hn))⟩

/-- A function is put behind the others. -/
theorem PkS.func (h : PkS X w B a len cap R P nm ia ic ims fa fc xs) (y : FV) (hy : X.ownsRow (R + 1) 26 4 (fvT y) y.1.2.2.length (nodesV y.1.2.2)) (hn : xs.length ≤ 1048576) :
    ∃ g' c' Y, (Builtin.append_ #[31, 31] 31 #[.slice fa xs.length fc, .slice (some ⟨X.heap.size, 0, none⟩) 1 1]).run Tryd.prog (X.alloc (.cells #[.string ⟨y.1.1.toArray⟩, .int .i64 y.1.2.1, fvT y] 37)) = .ok (.slice (some ⟨g', 0, none⟩) (xs.length + 1) c') Y ∧
      (Box3 Y P (.string ⟨nm.toArray⟩) (.slice ia ims.length ic) (.slice fa xs.length fc) ∧ ∀ j, Y.frozen? ⟨P, j, none⟩ = false) ∧ PkS (Y.setCell ⟨P, 2, none⟩ (.slice (some ⟨g', 0, none⟩) (xs.length + 1) c')) w B a len cap R P nm ia ic ims (some ⟨g', 0, none⟩) c' (xs ++ [y]) := by
  have hrp := h.rp
  obtain ⟨g', c', Y, hrun, hfo, hg⟩ := push_fn X (R + 1) (.slice fa xs.length fc) xs y h.fo hy (by omega) hn
  have e1 : (xs ++ [y]).length = xs.length + 1 := by simp
  have hp := h.p.kept hg (own_types h.p h.fo.row (by decide))
  have hi := h.im.kept hg (own_types h.im h.fo.row (by decide))
  obtain ⟨hp2, hg2⟩ := hp.stored 2 (.slice (some ⟨g', 0, none⟩) (xs.length + 1) c')
  refine ⟨g', c', Y, hrun, ⟨⟨hp.cells rfl 0 _ rfl, hp.cells rfl 1 _ rfl, hp.cells rfl 2 _ rfl⟩, fun j => hp.frozenAt j⟩, ?_⟩
  have hR : ∀ k, (Value.slice fa xs.length fc).ownBlock = some k → R < k := fun k e => by have := (h.fo.row.lt k e).1; omega
  have hbr := h.br
  have hne : ∀ {k : Nat}, k ≤ R → some k ≠ (Value.slice fa xs.length fc).ownBlock := fun {k} hk e => by have := hR k e.symm; omega
  have hneP : ∀ {k : Nat}, k ≤ R → some k ≠ some P := fun {k} hk e => by injection e with e; omega
  refine ⟨by rw [e1]; exact hp2, (h.r.grown hg (hne (Nat.le_refl _))).grown hg2 (hneP (Nat.le_refl _)), fun j => (World.frozen?_setCell ..).trans ((World.frozen?_of_block (a := ⟨R, j, none⟩) (hg.block R h.r.lt (hne (Nat.le_refl _)))).trans (h.rf j)), hi.kept hg2 (own_types hi hp (by decide)), hfo.kept hg2 (own_types hfo.row hp (by decide)) (fun z hz => own_types (hfo.trees z hz) hp (by decide)), (h.cur.kept hg (fun k e => by have := hR k e; omega)).kept hg2 (fun k e => by injection e with e; omega), ?_, h.br, h.wr⟩
  have hw := h.g
  have hwr := h.wr
  exact ⟨hg2.os.trans (hg.os.trans hw.os), hg2.tape.trans (hg.tape.trans hw.tape), hg2.output.trans (hg.output.trans hw.output), Nat.le_trans hw.size (Nat.le_trans hg.size hg2.size), fun q hq hn => (hg2.block q (Nat.lt_of_lt_of_le hq (Nat.le_trans hw.size hg.size)) (hneP (by omega))).trans ((hg.block q (Nat.lt_of_lt_of_le hq hw.size) (hne (by omega))).trans (hw.block q hq hn))⟩

/-- The first function's number of arguments is written. -/
theorem PkS.args (h : PkS X w B a len cap R P nm ia ic ims (some ⟨gF, 0, none⟩) fc xs) (hx : 0 < xs.length) (y : Int) : PkS (X.setCell ⟨gF, 1, none⟩ (.int .i64 y)) w B a len cap R P nm ia ic ims (some ⟨gF, 0, none⟩) fc (xs.set 0 (((xs.getD 0 fv0).1.1, y, (xs.getD 0 fv0).1.2.2), (xs.getD 0 fv0).2)) := by
  obtain ⟨z, r, rfl⟩ : ∃ z r, xs = z :: r := by cases xs with | nil => simp at hx | cons z r => exact ⟨z, r, rfl⟩
  obtain ⟨hr, hg⟩ := h.fo.row.stored 1 (.int .i64 y)
  have hk := h.fo.row.lt gF rfl
  refine h.step hg (fun k e => by injection e with e; omega) (h.p.kept hg (own_types h.p h.fo.row (by decide))) (h.im.kept hg (own_types h.im h.fo.row (by decide))) ⟨hr, fun x hx => ?_⟩
  rcases List.mem_cons.1 hx with rfl | hx
  · exact (h.fo.trees z (by simp)).kept hg (own_types (h.fo.trees z (by simp)) h.fo.row (by decide))
  · exact (h.fo.trees x (by simp [hx])).kept hg (own_types (h.fo.trees x (by simp [hx])) h.fo.row (by decide))
/-- The first function's tree is written. -/
theorem PkS.tree (h : PkS X w B a len cap R P nm ia ic ims (some ⟨gF, 0, none⟩) fc xs) (hx : 0 < xs.length) (ta : Option Addr) (tc : Nat) (t : List Nd) (ho : X.ownsRow (R + 1) 26 4 (.slice ta t.length tc) t.length (nodesV t)) : PkS (X.setCell ⟨gF, 2, none⟩ (.slice ta t.length tc)) w B a len cap R P nm ia ic ims (some ⟨gF, 0, none⟩) fc (xs.set 0 (((xs.getD 0 fv0).1.1, (xs.getD 0 fv0).1.2.1, t), ta, tc)) := by
  obtain ⟨z, r, rfl⟩ : ∃ z r, xs = z :: r := by cases xs with | nil => simp at hx | cons z r => exact ⟨z, r, rfl⟩
  obtain ⟨hr, hg⟩ := h.fo.row.stored 2 (.slice ta t.length tc)
  have hk := h.fo.row.lt gF rfl
  refine h.step hg (fun k e => by injection e with e; omega) (h.p.kept hg (own_types h.p h.fo.row (by decide))) (h.im.kept hg (own_types h.im h.fo.row (by decide))) ⟨hr, fun x hx => ?_⟩
  rcases List.mem_cons.1 hx with rfl | hx
  · exact ho.kept hg (own_types ho h.fo.row (by decide))
  · exact (h.fo.trees x (by simp [hx])).kept hg (own_types (h.fo.trees x (by simp [hx])) h.fo.row (by decide))

theorem own_shape7 {n e size base : Nat} {v : Value} {ys : List Value} (h : X.ownsRow base e size v n ys) : ∃ ad c, v = .slice ad n c := by
  rcases own_forms h with ⟨rfl, h0, _⟩ | ⟨g, cp, rfl⟩
  · exact ⟨none, 0, by rw [h0]⟩
  · exact ⟨_, _, rfl⟩
/-- The imports are put in their place. -/
theorem pk_start {v1 : Value} (hp : X.ownsRow (R + 1) 33 3 (.slice (some ⟨P, 0, none⟩) 1 1) 1 [.string ⟨nm.toArray⟩, v1, .slice fa xs.length fc]) (hr : Box3 X R (.string ⟨#[]⟩) (.slice none 0 0) (.slice none 0 0) ∧ ∀ j, X.frozen? ⟨R, j, none⟩ = false) (him : X.ownsRow (R + 1) 9 1 (.slice ia ims.length ic) ims.length (strV ims)) (hfo : FnsOwn X (R + 1) (.slice fa xs.length fc) xs) (hc : Cur X B a len cap) (hw : w.grownBy X (some B)) (hbr : B < R) (hwr : w.heap.size = R) :
    PkS (X.setCell ⟨P, 1, none⟩ (.slice ia ims.length ic)) w B a len cap R P nm ia ic ims fa fc xs := by
  obtain ⟨hp2, hg⟩ := hp.stored 1 (.slice ia ims.length ic)
  have hrp := (hp.lt P rfl).1
  have hneP : ∀ {k : Nat}, k ≤ R → some k ≠ some P := fun {k} hk e => by injection e with e; omega
  exact ⟨hp2, hr.1.grown hg (hneP (Nat.le_refl _)), fun j => (World.frozen?_setCell ..).trans (hr.2 j), him.kept hg (own_types him hp (by decide)), hfo.kept hg (own_types hfo.row hp (by decide)) (fun z hz => own_types (hfo.trees z hz) hp (by decide)), hc.kept hg (fun k e => by injection e with e; omega),
    ⟨hg.os.trans hw.os, hg.tape.trans hw.tape, hg.output.trans hw.output, Nat.le_trans hw.size hg.size, fun q hq hn => (hg.block q (Nat.lt_of_lt_of_le hq hw.size) (hneP (by omega))).trans (hw.block q hq hn)⟩, hbr, hwr⟩
end

end Go.Proofs.YtdjglpcllcjcfaaDoor

/-! A package is drawn, mostly a good one: l7DrawAny. -/
namespace Go.Proofs.YtdjglpcllcjcfaaDoor
open Go.RowKit

/-- What is drawn: small, and the call's own. -/
def Pk7 (m : Nat) (wx w : World) (B : Nat) (a : Option Addr) (len cap R P : Nat) : Prop :=
  ∃ (nm : List UInt8) (ia : Option Addr) (ic : Nat) (ims : List (List UInt8)) (fa : Option Addr) (fc : Nat) (xs : List FV), nm.length ≤ 9 ∧ (ims.length ≤ m ∧ ∀ t ∈ ims, t.length ≤ 9) ∧ (1 ≤ xs.length ∧ xs.length ≤ m) ∧ SmallXs xs ∧ PkS wx w B a len cap R P nm ia ic ims fa fc xs
def Any7 (w wx : World) (B : Nat) (a : Option Addr) (len cap : Nat) (v : Value) : Prop :=
  ∃ (nm : List UInt8) (ia : Option Addr) (ic : Nat) (ims : List (List UInt8)) (fa : Option Addr) (fc : Nat) (xs : List FV), v = .agg #[.string ⟨nm.toArray⟩, .slice ia ims.length ic, .slice fa xs.length fc] ∧ nm.length ≤ 9 ∧ (ims.length ≤ 4 ∧ ∀ t ∈ ims, t.length ≤ 9) ∧ (1 ≤ xs.length ∧ xs.length ≤ 4) ∧ SmallXs xs ∧
    wx.ownsRow w.heap.size 9 1 (.slice ia ims.length ic) ims.length (strV ims) ∧ FnsOwn wx w.heap.size (.slice fa xs.length fc) xs ∧ Cur wx B a len cap ∧ w.grownBy wx (some B)

theorem Pk7.next {m : Nat} {X Y w : World} {B : Nat} {a : Option Addr} {len cap R P : Nat} (h : Pk7 m X w B a len cap R P) (hg : X.grownBy Y (some B)) (hc : Cur Y B a len cap) : Pk7 m Y w B a len cap R P := by
  obtain ⟨nm, ia, ic, ims, fa, fc, xs, h1, h2, h3, h4, hs⟩ := h
  exact ⟨nm, ia, ic, ims, fa, fc, xs, h1, h2, h3, h4, hs.next hg hc⟩
theorem ims_add {ims : List (List UInt8)} {x : List UInt8} (h : ∀ t ∈ ims, t.length ≤ 9) (hx : x.length ≤ 9) : ∀ t ∈ ims ++ [x], t.length ≤ 9 := fun t ht => (List.mem_append.1 ht).elim (h t) (fun e => by rw [List.mem_singleton] at e; rw [e]; exact hx)
theorem xs_add {xs : List FV} {x : FV} (h : SmallXs xs) (hx : SmallFn x.1) : SmallXs (xs ++ [x]) := fun t ht => (List.mem_append.1 ht).elim (h t) (fun e => by rw [List.mem_singleton] at e; rw [e]; exact hx)
theorem xs_set {xs : List FV} {x : FV} (h : SmallXs xs) (hx : SmallFn x.1) : SmallXs (xs.set 0 x) := fun t ht => (List.mem_or_eq_of_mem_set ht).elim (h t) (fun e => by rw [e]; exact hx)
theorem Pk7.four {X w : World} {B : Nat} {a : Option Addr} {len cap R P : Nat} (h : Pk7 3 X w B a len cap R P) : Pk7 4 X w B a len cap R P := by
  obtain ⟨nm, ia, ic, ims, fa, fc, xs, h1, h2, h3, h4, hs⟩ := h
  exact ⟨nm, ia, ic, ims, fa, fc, xs, h1, ⟨by omega, h2.2⟩, by omega, h4, hs⟩
theorem xs_mem {xs : List FV} (hl : 1 ≤ xs.length) : xs.getD 0 fv0 ∈ xs := by rw [List.getD_eq_getElem?_getD, List.getElem?_eq_getElem (by omega : 0 < xs.length)]; exact List.getElem_mem _

set_option maxHeartbeats 1000000 in
set_option maxRecDepth 100000 in
theorem drawFrom7 (w : World) (B : Nat) (a : Option Addr) (len cap : Nat) (lo hi : Int) (h0 : -1000000 ≤ lo) (h1 : lo ≤ hi) (h2 : hi ≤ 1000000) (h : Cur w B a len cap) :
    Calls Tryd.prog 30 #[.pointer (some ⟨B, 0, none⟩), .int .i64 lo, .int .i64 hi] w fun e w' => ∃ x : Int, e = .returned (.int .i64 x) ∧ lo ≤ x ∧ x ≤ hi ∧ Cur w' B a len cap ∧ w.grownBy w' (some B) := by
  go_enter Tryd.func30, Tryd.ntmps30
  go_wp2_with fail
  refine (drawBelow _ B a len cap (hi - lo + 1) (by omega) (by omega) h).mono ?_
  rintro e w1 ⟨x, rfl, hx0, hx1, hc, hg⟩
  go_wp2
  go_ret
  exact ⟨_, rfl, by omega, by omega, hc, hg⟩

def imsA (k : Nat) : List (List UInt8) := [[97], [98]].take k
theorem imsA_len {k : Nat} (hk : k ≤ 2) : (imsA k).length = k := by unfold imsA; simp; omega
theorem imsA_small (k : Nat) : ∀ t ∈ imsA k, t.length ≤ 9 := by
  intro t ht
  have h := List.mem_of_mem_take ht
  simp only [List.mem_cons, List.not_mem_nil, or_false] at h
  rcases h with rfl | rfl <;> decide
theorem imsA_in {w : World} {g k : Nat} (hk : k ≤ 2) (hg : g < w.heap.size) (h0 : w.cell? ⟨g, 0, none⟩ = some (.string ⟨#[97]⟩)) (h1 : w.cell? ⟨g, 1, none⟩ = some (.string ⟨#[98]⟩)) : TextsIn w (some ⟨g, 0, none⟩) k (imsA k) := by
  refine ⟨imsA_len hk, fun j hj => ⟨g, 0, rfl, hg, ?_⟩⟩
  rcases (show (k = 1 ∧ j = 0) ∨ (k = 2 ∧ j = 0) ∨ (k = 2 ∧ j = 1) by omega) with ⟨rfl, rfl⟩ | ⟨rfl, rfl⟩ | ⟨rfl, rfl⟩
  · exact h0
  · exact h0
  · exact h1

end Go.Proofs.YtdjglpcllcjcfaaDoor

/-! The contracts of DrawPackageOk, DrawShowPackage, DrawReadPackage, DrawFuncOf. -/
namespace Go.Proofs.YtdjglpcllcjcfaaDoor
open Go.RowKit

/-- A drawn package, as a law has it. -/
def Drawn7 (w wx : World) (v : Value) (nm : List UInt8) (ims : List (List UInt8)) (xs : List FV) : Prop :=
  ∃ ia ic fa fc, v = .agg #[.string ⟨nm.toArray⟩, .slice ia ims.length ic, .slice fa xs.length fc] ∧ nm.length ≤ 9 ∧ (ims.length ≤ 4 ∧ ∀ t ∈ ims, t.length ≤ 9) ∧ (1 ≤ xs.length ∧ xs.length ≤ 4) ∧ SmallXs xs ∧
    wx.ownsRow w.heap.size 9 1 (.slice ia ims.length ic) ims.length (strV ims) ∧ FnsOwn wx w.heap.size (.slice fa xs.length fc) xs

theorem code_grown {w w' : World} {a : Option Addr} {len : Nat} (h : Code w w.heap.size a len) (hg : w.grownBy w' none) : Code w' w'.heap.size a len := by
  intro j hj
  obtain ⟨b, off, x, e1, e2, e3, e0⟩ := h j hj
  exact ⟨b, off, x, e1, Nat.lt_of_lt_of_le e2 hg.size, (World.cell?_of_block (a := ⟨b, off + j, none⟩) (hg.block b e2 (by simp))).trans e3, e0⟩
theorem box_none {V Y : World} {k : Nat} {a b c : Value} (h : Box3 V k a b c ∧ ∀ j, V.frozen? ⟨k, j, none⟩ = false) (hg : V.grownBy Y none) : Box3 Y k a b c ∧ ∀ j, Y.frozen? ⟨k, j, none⟩ = false :=
  ⟨h.1.grown hg (by simp), fun j => (World.frozen?_of_block (a := ⟨k, j, none⟩) (hg.block k h.1.lt (by simp))).trans (h.2 j)⟩
theorem showPk_small (p : Pk) : (showPk p).length ≤ 20000 := by
  unfold showPk
  split
  · rename_i h; exact showP_len h
  · simp
theorem ims_short {ims : List (List UInt8)} (h : ∀ t ∈ ims, t.length ≤ 9) (i : Nat) : (ims.getD i []).length ≤ 1048576 := by
  rw [List.getD_eq_getElem?_getD]
  cases hj : ims[i]? with
  | none => simp
  | some t => exact Nat.le_trans (h t (List.mem_of_getElem? hj)) (by omega)
theorem xs_fn {xs : List FV} (h : SmallXs xs) (j : Nat) : SmallFn ((xs.map (·.1)).getD j fn0) := by
  rw [List.getD_eq_getElem?_getD, List.getElem?_map]
  cases hj : xs[j]? with
  | none => exact ⟨by decide, ⟨by decide, by decide⟩, by decide, fun n hn => by cases hn⟩
  | some t => exact h t (List.mem_of_getElem? hj)
theorem xs_short {xs : List FV} (h : SmallXs xs) : ShortF (xs.map (·.1)) := fun j =>
  have hs := xs_fn h j
  ⟨Nat.le_trans hs.1 (by omega), Nat.le_trans hs.2.2.1 (by omega), hs.2.2.2.short⟩




end Go.Proofs.YtdjglpcllcjcfaaDoor
