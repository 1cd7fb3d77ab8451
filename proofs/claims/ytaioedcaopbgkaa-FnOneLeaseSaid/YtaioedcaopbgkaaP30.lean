/-
  Parts of one proof, one behind the other: Draw8K, Draw8N.
-/
import Derived.Test.YtaioedcaopbgkaaP29
import Derived.Test.YtaioedcaopbgkaaP28
import Derived.Test.YtaioedcaopbgkaaP9

/-! What l8DrawAny holds: a project of which one package may be changed. -/
namespace Go.Proofs.Ytaioedcaopbgkaa
open Go.RowKit

theorem pvsV_xs (ys : List PV) (j : Nat) (xs : List FV) (h : xs.length = (ys.getD j pv0).xs.length) : pvsV ys = pvsV (ys.set j { ys.getD j pv0 with xs := xs }) := by
 induction ys generalizing j with
 | nil => simp [pvsV]
 | cons b r ih =>
  cases j with
  | zero => simp at h; simp [pvsV, pvI, pvF, h]
  | succ j => simp at h; simp [pvsV]; exact ih j (by simpa using h)

/-- A package of it. -/
structure Y8 (X : World) (base : Nat) (y : PV) : Prop where
 im : X.ownsRow base 9 1 (pvI y) y.ims.length (strV y.ims)
 fo : FnsOwn X base (pvF y) y.xs
 sm : SmallXs y.xs
 n : 1 ≤ y.xs.length ∧ y.xs.length ≤ 3
 nm : y.nm.length ≤ 9
 is : y.ims.length ≤ 9 ∧ ∀ t ∈ y.ims, t.length ≤ 9
structure Q8 (X w : World) (B : Nat) (a : Option Addr) (len cap : Nat) (g lc : Nat) (ys : List PV) : Prop where
 row : X.ownsRow w.heap.size 76 3 (.slice (some ⟨g, 0, none⟩) ys.length lc) ys.length (pvsV ys)
 each : ∀ y ∈ ys, Y8 X w.heap.size y
 cur : Cur X B a len cap
 g : w.grownBy X (some B)
 br : B < w.heap.size
 n : 1 ≤ ys.length ∧ ys.length ≤ 4
/-- The rows of functions lie apart, and every package has a row of imports. -/
structure A8 (ys : List PV) : Prop where
 ap : ∀ i j, i < ys.length → j < ys.length → i ≠ j → (pvF (ys.getD i pv0)).ownBlock ≠ (pvF (ys.getD j pv0)).ownBlock
 sa : ∀ y ∈ ys, ∃ g, y.ia = some ⟨g, 0, none⟩
 il : ∀ y ∈ ys, y.ims.length ≤ 8

theorem Y8.kept {X Y : World} {base : Nat} {y : PV} {row : Option Nat} (h : Y8 X base y) (hg : X.grownBy Y row) (h1 : (pvI y).ownBlock = none ∨ (pvI y).ownBlock ≠ row) (h2 : (pvF y).ownBlock = none ∨ (pvF y).ownBlock ≠ row) (h3 : ∀ x ∈ y.xs, (fvT x).ownBlock = none ∨ (fvT x).ownBlock ≠ row) : Y8 Y base y :=
 ⟨h.im.kept hg h1, h.fo.kept hg h2 h3, h.sm, h.n, h.nm, h.is⟩
section
variable {X Y w : World} {B : Nat} {a : Option Addr} {len cap g lc : Nat} {ys : List PV}
theorem Q8.next (h : Q8 X w B a len cap g lc ys) (hg : X.grownBy Y (some B)) (hc : Cur Y B a len cap) : Q8 Y w B a len cap g lc ys := by
 have hbr := h.br
 have hlt : ∀ k, some B = some k → k < w.heap.size := fun k e => by injection e with e; omega
 exact ⟨own_grown h.row hg hlt, fun y hy => ⟨own_grown (h.each y hy).im hg hlt, (h.each y hy).fo.grown hg hlt, (h.each y hy).sm, (h.each y hy).n, (h.each y hy).nm, (h.each y hy).is⟩, hc, h.g.trans hg, hbr, h.n⟩
theorem Q8.made (h : Q8 X w B a len cap g lc ys) (hg : X.grownBy Y none) : Q8 Y w B a len cap g lc ys :=
 ⟨own_none h.row hg, fun y hy => ⟨own_none (h.each y hy).im hg, (h.each y hy).fo.none hg, (h.each y hy).sm, (h.each y hy).n, (h.each y hy).nm, (h.each y hy).is⟩, h.cur.kept hg (by simp), h.g.andThen hg (by simp), h.br, h.n⟩
theorem Q8.drew (h : Q8 X w B a len cap g lc ys) : Q8 X.drew w B a len cap g lc ys := h.made (grown_drew X none)
theorem Q8.alloc (h : Q8 X w B a len cap g lc ys) (o : Obj) : Q8 (X.alloc o) w B a len cap g lc ys := h.made (World.grownBy_alloc X o none)
theorem Q8.below (h : Q8 X w B a len cap g lc ys) (hb : Below X.heap.size X Y) : Q8 Y w B a len cap g lc ys := h.made (Below.by hb)

/-- From what l8Draw leaves. -/
theorem D8.q8 {N L : Nat} {vc : Value} {cs : List Nd} (h : D8 X w B a len cap N L (some ⟨g, 0, none⟩) lc ys vc cs) (hn : 1 ≤ ys.length ∧ ys.length ≤ 4) : Q8 X w B a len cap g lc ys ∧ A8 ys := by
 refine ⟨⟨h.row, fun y hy => ?_, h.cur, h.g, h.br, hn⟩, ⟨fun i j hi hj hij => ?_, fun y hy => (h.each y hy).1.sa, fun y hy => (h.each y hy).1.im.1⟩⟩
 ·
  obtain ⟨h1, h2, _⟩ := h.each y hy
  exact ⟨own_base h1.ok.im h2, h1.ok.fo.base h2, h1.sm.small, h1.n, h1.nm, ⟨by have := h1.im.1; omega, h1.im.2⟩⟩
 ·
  have key : ∀ i j, i < j → j < ys.length → (pvF (ys.getD i pv0)).ownBlock ≠ (pvF (ys.getD j pv0)).ownBlock := fun i j hij hj e => by
   have hi : i < ys.length := by omega
   have e1 : ys.getD i pv0 = ys[i] := by simp [List.getD, hi]
   have e2 : ys.getD j pv0 = ys[j] := by simp [List.getD, hj]
   rw [e1, e2] at e
   have hs := List.pairwise_iff_getElem.1 h.seq i j hi hj hij
   have hy := (h.each ys[i] (List.getElem_mem hi)).1
   have hz := (h.each ys[j] (List.getElem_mem hj)).1
   obtain ⟨k1, c1, e3⟩ := own_some hy.ok.fo.row (by have := hy.n; omega)
   have b1 : (pvF ys[i]).ownBlock = some k1 := by rw [e3]; rfl
   have b2 := b1
   rw [e] at b2
   have t1 := hy.ok.top k1 (Or.inr (Or.inl b1))
   have t2 := (hz.ok.fo.row.lt k1 b2).1
   omega
  rcases Nat.lt_or_gt_of_ne hij with h1 | h1
  ·
   exact key i j h1 hj
  ·
   exact fun e => key j i h1 hi e.symm

theorem Q8.at (h : Q8 X w B a len cap g lc ys) {j : Nat} (hj : j < ys.length) : Y8 X w.heap.size (ys.getD j pv0) := h.each _ (by simp [List.getD, hj])
theorem Q8.keep (h : Q8 X w B a len cap g lc ys) {row : Option Nat} (hg : X.grownBy Y row) (hr : ∀ k, row = some k → w.heap.size ≤ k) : Cur Y B a len cap ∧ w.grownBy Y (some B) := by
 have hbr := h.br
 exact ⟨h.cur.kept hg (fun k e => by have := hr k e; omega), h.g.andThen hg (fun k e => Or.inl (hr k e))⟩

end

end Go.Proofs.Ytaioedcaopbgkaa

/-! What l8DrawAny holds, and what it leaves. -/
namespace Go.Proofs.Ytaioedcaopbgkaa
open Go.RowKit

theorem ims8_short {ims : List (List UInt8)} (h : ∀ t ∈ ims, t.length ≤ 9) (i : Nat) : (ims.getD i []).length ≤ 1048576 := by
 rw [List.getD_eq_getElem?_getD]
 cases hj : ims[i]? with
 | none => simp
 | some t => exact Nat.le_trans (h t (List.mem_of_getElem? hj)) (by omega)
theorem xs8_fn {xs : List FV} (h : SmallXs xs) (j : Nat) : SmallFn ((xs.map (·.1)).getD j fn0) := by
 rw [List.getD_eq_getElem?_getD, List.getElem?_map]
 cases hj : xs[j]? with
 | none => exact ⟨by decide, ⟨by decide, by decide⟩, by decide, fun n hn => by cases hn⟩
 | some t => exact h t (List.mem_of_getElem? hj)
theorem xs8_short {xs : List FV} (h : SmallXs xs) : ShortF (xs.map (·.1)) := fun j =>
 have hs := xs8_fn h j
 ⟨Nat.le_trans hs.1 (by omega), Nat.le_trans hs.2.2.1 (by omega), hs.2.2.2.short⟩
theorem xs8_int {xs : List FV} (h : SmallXs xs) : IntF (xs.map (·.1)) := fun j =>
 have hs := xs8_fn h j
 ⟨⟨by have := hs.2.1; omega, by have := hs.2.1; omega⟩, hs.2.2.2.int⟩
theorem xs8_set {xs : List FV} {x : FV} (h : SmallXs xs) (hx : SmallFn x.1) : SmallXs (xs.set 0 x) := fun t ht => (List.mem_or_eq_of_mem_set ht).elim (h t) (fun e => by rw [e]; exact hx)
theorem first8 {xs : List FV} (h : 1 ≤ xs.length) : xs.getD 0 fv0 ∈ xs := by
 cases xs with
 | nil => simp at h
 | cons z r => simp

section
variable {X Y w : World} {B : Nat} {a : Option Addr} {len cap g lc : Nat} {ys : List PV}
/-- The functions of a package are written over. -/
theorem Q8.fns (h : Q8 X w B a len cap g lc ys) (hA : A8 ys) {j : Nat} (hj : j < ys.length) {xs : List FV} (hg : X.grownBy Y (pvF (ys.getD j pv0)).ownBlock) (hf : FnsOwn Y w.heap.size (pvF { ys.getD j pv0 with xs := xs }) xs) (hl : xs.length = (ys.getD j pv0).xs.length) (hs : SmallXs xs) : Q8 Y w B a len cap g lc (ys.set j { ys.getD j pv0 with xs := xs }) := by
 have hy := h.at hj
 obtain ⟨hc, hgw⟩ := h.keep hg (fun k e => (hy.fo.row.lt k e).1)
 have hll : (ys.set j { ys.getD j pv0 with xs := xs }).length = ys.length := by simp
 refine ⟨by rw [hll, ← pvsV_xs ys j xs hl]; exact h.row.kept hg (own_types h.row hy.fo.row (by decide)), fun z hz => ?_, hc, hgw, h.br, by rw [hll]; exact h.n⟩
 obtain ⟨i, hi, rfl⟩ := List.mem_iff_getElem.1 hz
 rw [List.getElem_set]
 rw [hll] at hi
 split
 ·
  exact ⟨hy.im.kept hg (own_types hy.im hy.fo.row (by decide)), hf, hs, by show 1 ≤ xs.length ∧ xs.length ≤ 3; rw [hl]; exact hy.n, hy.nm, hy.is⟩
 ·
  rename_i hij
  have hz2 := h.each ys[i] (List.getElem_mem hi)
  have e1 : ys.getD i pv0 = ys[i] := by simp [List.getD, hi]
  have hap := hA.ap i j hi hj (fun e => hij e.symm)
  rw [e1] at hap
  exact hz2.kept hg (own_types hz2.im hy.fo.row (by decide)) (Or.inr hap) (fun x hx => own_types (hz2.fo.trees x hx) hy.fo.row (by decide))
theorem Q8.args (h : Q8 X w B a len cap g lc ys) (hA : A8 ys) {j : Nat} (hj : j < ys.length) {gF : Nat} (hF : (ys.getD j pv0).fa = some ⟨gF, 0, none⟩) (y : Int) (hy0 : -10 ≤ y ∧ y ≤ 10) : ∃ ys', ys'.length = ys.length ∧ Q8 (X.setCell ⟨gF, 1, none⟩ (.int .i64 y)) w B a len cap g lc ys' := by
 have hy := h.at hj
 have hb : (pvF (ys.getD j pv0)).ownBlock = some gF := by unfold pvF; rw [hF]; rfl
 have hfo := hy.fo
 have hF2 : pvF (ys.getD j pv0) = .slice (some ⟨gF, 0, none⟩) (ys.getD j pv0).xs.length (ys.getD j pv0).fc := by unfold pvF; rw [hF]
 rw [hF2] at hfo
 obtain ⟨hr, hg⟩ := hfo.row.stored 1 (.int .i64 y)
 have hn := hy.n
 have hsm := hy.sm
 refine ⟨_, ?_, h.fns hA hj (xs := (ys.getD j pv0).xs.set 0 ((((ys.getD j pv0).xs.getD 0 fv0).1.1, y, ((ys.getD j pv0).xs.getD 0 fv0).1.2.2), ((ys.getD j pv0).xs.getD 0 fv0).2)) (by rw [hb]; exact hg) ?_ (by simp) ?_⟩
 ·
  simp
 ·
  unfold pvF
  simp only [hF]
  revert hfo hr hn
  generalize (ys.getD j pv0).xs = xs
  intro hfo hr hn
  obtain ⟨z, r, rfl⟩ : ∃ z r, xs = z :: r := by cases xs with | nil => simp at hn | cons z r => exact ⟨z, r, rfl⟩
  refine ⟨hr, fun x hx => ?_⟩
  rcases List.mem_cons.1 hx with rfl | hx
  ·
   exact (hfo.trees z (by simp)).kept hg (own_types (hfo.trees z (by simp)) hfo.row (by decide))
  ·
   exact (hfo.trees x (by simp [hx])).kept hg (own_types (hfo.trees x (by simp [hx])) hfo.row (by decide))
 ·
  have hz := hsm _ (first8 hn.1)
  exact xs8_set hsm ⟨hz.1, hy0, hz.2.2⟩
/-- What the landed functions are told of it. -/
theorem rows8_ok {base : Nat} (hrow : X.ownsRow base 76 3 (.slice (some ⟨g, 0, none⟩) ys.length lc) ys.length (pvsV ys)) (heach : ∀ y ∈ ys, Y8 X base y) (hn8 : 1 ≤ ys.length ∧ ys.length ≤ 4) : PkgsOk X (some ⟨g, 0, none⟩) ys.length lc (ys.map pvP) := by
 have hcap : ys.length ≤ lc := by
  rcases hrow.2 with ⟨e, _⟩ | ⟨g', cap', cur, e, _, _, hc, _⟩
  ·
   cases e
  ·
   injection e with _ _ e3; rw [e3]; exact hc
 refine ⟨by simp, (fun e => (by cases e)), hcap, by omega, fun j hj => ?_⟩
 obtain ⟨v0, v1, v2⟩ := pvsV_at ys j hj
 have hc := fun k (hk : k < ys.length * 3) => World.ownsRow.cellAt hrow k hk
 have hy := heach (ys.getD j pv0) (by simp [List.getD, hj])
 obtain ⟨ai, ci, af, cf, e1, e2, h3, h4, hti, hfi⟩ := own_pk hy.im hy.fo rfl
 have hn := hy.n
 have his := hy.is
 have hnm := hy.nm
 rw [getD_map_pv ys j]
 refine ⟨g, 0, rfl, (hrow.lt g rfl).2, ?_, ai, (ys.getD j pv0).ims.length, ci, af, ((ys.getD j pv0).xs.map (fun x : FV => x.1)).length, cf, ?_, ?_, ⟨hti, hfi, h3, h4, xs8_int hy.sm, by omega, by rw [List.length_map]; omega, by show (ys.getD j pv0).nm.length ≤ 1048576; omega, fun i => ims8_short his.2 i, xs8_short hy.sm⟩⟩
 ·
  rw [Nat.zero_add, hc _ (by omega), v0]; rfl
 ·
  rw [Nat.zero_add, hc _ (by omega), v1, e1]
 ·
  rw [Nat.zero_add, hc _ (by omega), v2, e2]
theorem PkgsOk.take {w : World} {a : Option Addr} {len cap n : Nat} {ps : List Pk} (h : PkgsOk w a len cap ps) (hn : n ≤ len) : PkgsOk w a n cap (ps.take n) := by
 have hl := h.hlen
 have hc := h.hcap
 have hs := h.small
 refine ⟨by simp; omega, h.nil, by omega, by omega, fun j hj => ?_⟩
 have e : (ps.take n).getD j pk0 = ps.getD j pk0 := by simp [List.getD, hj]
 rw [e]
 exact h.each j (by omega)
theorem Q8.ok (h : Q8 X w B a len cap g lc ys) : PkgsOk X (some ⟨g, 0, none⟩) ys.length lc (ys.map pvP) := rows8_ok h.row h.each h.n
/-- From block b on one world is as the other was. -/
def Agree (X Y : World) (b : Nat) : Prop := X.heap.size ≤ Y.heap.size ∧ ∀ k, b ≤ k → k < X.heap.size → Y.heap[k]? = X.heap[k]?
theorem own_agree {X Y : World} {b base e size n : Nat} {v : Value} {xs : List Value} (h : X.ownsRow base e size v n xs) (hb : b ≤ base) (ha : Agree X Y b) : Y.ownsRow base e size v n xs := by
 refine ⟨h.1, ?_⟩
 rcases h.2 with hn | ⟨g, cap, cur, rfl, hbg, hgg, rest⟩
 ·
  exact .inl hn
 ·
  refine .inr ⟨g, cap, cur, rfl, hbg, ?_, rest⟩
  rw [ha.2 g (by omega) (Array.getElem?_eq_some_iff.1 hgg).1]
  exact hgg
theorem Agree.of_grown {X Y : World} {b B : Nat} (hg : X.grownBy Y (some B)) (hB : B < b) : Agree X Y b := ⟨hg.size, fun k hk hkl => hg.block k hkl (fun e => by injection e with e; omega)⟩
theorem Agree.refl (X : World) (b : Nat) : Agree X X b := ⟨Nat.le_refl _, fun _ _ _ => rfl⟩
theorem Q8.okA (h : Q8 X w B a len cap g lc ys) (ha : Agree X Y w.heap.size) : PkgsOk Y (some ⟨g, 0, none⟩) ys.length lc (ys.map pvP) :=
 rows8_ok (own_agree h.row (Nat.le_refl _) ha) (fun y hy => ⟨own_agree (h.each y hy).im (Nat.le_refl _) ha, ⟨own_agree (h.each y hy).fo.row (Nat.le_refl _) ha, fun x hx => own_agree ((h.each y hy).fo.trees x hx) (Nat.le_refl _) ha⟩, (h.each y hy).sm, (h.each y hy).n, (h.each y hy).nm, (h.each y hy).is⟩) h.n
/-- What l8DrawAny leaves. -/
def L8 (w wx : World) (B : Nat) (a : Option Addr) (len cap : Nat) (v : Value) : Prop :=
 ∃ la n lc ps, v = .slice la n lc ∧ (1 ≤ n ∧ n ≤ 4 ∧ ∀ b off, la = some ⟨b, off, none⟩ → w.heap.size ≤ b) ∧ (∀ Y, Agree wx Y w.heap.size → PkgsOk Y la n lc ps) ∧ Cur wx B a len cap ∧ w.grownBy wx (some B)
end

end Go.Proofs.Ytaioedcaopbgkaa
