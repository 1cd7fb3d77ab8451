/-
  Parts of one proof, one behind the other: Draw8K, Draw8N, Draw8M, Math8H, Math8P, Math9, Math9L, Math10, Math10L, Math10T, Math11.
-/
import Derived.Test.YtenaaneckobdpaaGreatP6
import Derived.Test.YtenaaneckobdpaaGreatP5
import Derived.Test.YtenaaneckobdpaaGreatP3
namespace Go.Proofs.YtenaaneckobdpaaGreat
open Go.RowKit
theorem pvsV_nm (ys : List PV) (j : Nat) (x : List UInt8) : (pvsV ys).set (j * 3) (.string ⟨x.toArray⟩) = pvsV (ys.set j { ys.getD j pv0 with nm := x }) := by
 induction ys generalizing j with
 | nil => simp [pvsV]
 | cons b r ih =>
  cases j with
  | zero => simp [pvsV, pvI, pvF]
  | succ j => rw [show (j + 1) * 3 = j * 3 + 1 + 1 + 1 by omega]; simp [pvsV, ih]
theorem pvsV_xs (ys : List PV) (j : Nat) (xs : List FV) (h : xs.length = (ys.getD j pv0).xs.length) : pvsV ys = pvsV (ys.set j { ys.getD j pv0 with xs := xs }) := by
 induction ys generalizing j with
 | nil => simp [pvsV]
 | cons b r ih =>
  cases j with
  | zero => simp at h; simp [pvsV, pvI, pvF, h]
  | succ j => simp at h; simp [pvsV]; exact ih j (by simpa using h)
structure Y8 (X : World) (base : Nat) (y : PV) : Prop where
 im : X.ownsRow base 9 1 (pvI y) y.ims.length (strV y.ims)
 fo : zaP X base (pvF y) y.xs
 sm : zcQ y.xs
 n : 1 ≤ y.xs.length ∧ y.xs.length ≤ 3
 nm : y.nm.length ≤ 9
 is : y.ims.length ≤ 9 ∧ ∀ t ∈ y.ims, t.length ≤ 9
structure Q8 (X w : World) (B : Nat) (a : Option Addr) (len cap : Nat) (g lc : Nat) (ys : List PV) : Prop where
 row : X.ownsRow w.heap.size 85 3 (.slice (some ⟨g, 0, none⟩) ys.length lc) ys.length (pvsV ys)
 each : ∀ y ∈ ys, Y8 X w.heap.size y
 cur : Cur X B a len cap
 g : w.grownBy X (some B)
 br : B < w.heap.size
 n : 1 ≤ ys.length ∧ ys.length ≤ 4
structure A8 (ys : List PV) : Prop where
 ap : ∀ i j, i < ys.length → j < ys.length → i ≠ j → (pvF (ys.getD i pv0)).ownBlock ≠ (pvF (ys.getD j pv0)).ownBlock
 sa : ∀ y ∈ ys, ∃ g, y.ia = some ⟨g, 0, none⟩
 il : ∀ y ∈ ys, y.ims.length ≤ 8
theorem Y8.kept {X Y : World} {base : Nat} {y : PV} {row : Option Nat} (h : Y8 X base y) (hg : X.grownBy Y row) (h1 : (pvI y).ownBlock = none ∨ (pvI y).ownBlock ≠ row) (h2 : (pvF y).ownBlock = none ∨ (pvF y).ownBlock ≠ row) (h3 : ∀ x ∈ y.xs, (fvT x).ownBlock = none ∨ (fvT x).ownBlock ≠ row) : Y8 Y base y :=
 ⟨h.im.kept hg h1, h.fo.kept hg h2 h3, h.sm, h.n, h.nm, h.is⟩
theorem Y8.pk {X Y : World} {base b2 n : Nat} {v : Value} {zs : List Value} {y : PV} (h : Y8 X base y) (ho : X.ownsRow b2 85 3 v n zs) (hg : X.grownBy Y v.ownBlock) : Y8 Y base y :=
 h.kept hg (za4 h.im ho (by decide)) (za4 h.fo.row ho (by decide)) (fun x hx => za4 (h.fo.trees x hx) ho (by decide))
section
variable {X Y w : World} {B : Nat} {a : Option Addr} {len cap g lc : Nat} {ys : List PV}
theorem Q8.next (h : Q8 X w B a len cap g lc ys) (hg : X.grownBy Y (some B)) (hc : Cur Y B a len cap) : Q8 Y w B a len cap g lc ys := by
 have hbr := h.br
 have hlt : ∀ k, some B = some k → k < w.heap.size := fun k e => by injection e with e; omega
 exact ⟨zaR h.row hg hlt, fun y hy => ⟨zaR (h.each y hy).im hg hlt, (h.each y hy).fo.grown hg hlt, (h.each y hy).sm, (h.each y hy).n, (h.each y hy).nm, (h.each y hy).is⟩, hc, h.g.trans hg, hbr, h.n⟩
theorem Q8.made (h : Q8 X w B a len cap g lc ys) (hg : X.grownBy Y none) : Q8 Y w B a len cap g lc ys :=
 ⟨zba h.row hg, fun y hy => ⟨zba (h.each y hy).im hg, (h.each y hy).fo.none hg, (h.each y hy).sm, (h.each y hy).n, (h.each y hy).nm, (h.each y hy).is⟩, h.cur.kept hg (by simp), h.g.andThen hg (by simp), h.br, h.n⟩
theorem Q8.drew (h : Q8 X w B a len cap g lc ys) : Q8 X.drew w B a len cap g lc ys := h.made (zb7 X none)
theorem Q8.alloc (h : Q8 X w B a len cap g lc ys) (o : Obj) : Q8 (X.alloc o) w B a len cap g lc ys := h.made (World.grownBy_alloc X o none)
theorem Q8.below (h : Q8 X w B a len cap g lc ys) (hb : Below X.heap.size X Y) : Q8 Y w B a len cap g lc ys := h.made (Below.by hb)
theorem D8.q8 {N L : Nat} {vc : Value} {cs : List Nd} (h : D8 X w B a len cap N L (some ⟨g, 0, none⟩) lc ys vc cs) (hn : 1 ≤ ys.length ∧ ys.length ≤ 4) : Q8 X w B a len cap g lc ys ∧ A8 ys := by
 refine ⟨⟨h.row, fun y hy => ?_, h.cur, h.g, h.br, hn⟩, ⟨fun i j hi hj hij => ?_, fun y hy => (h.each y hy).1.sa, fun y hy => (h.each y hy).1.im.1⟩⟩
 ·
  obtain ⟨h1, h2, _⟩ := h.each y hy
  exact ⟨zai h1.ok.im h2, h1.ok.fo.base h2, h1.sm.small, h1.n, h1.nm, ⟨by have := h1.im.1; omega, h1.im.2⟩⟩
 ·
  have key : ∀ i j, i < j → j < ys.length → (pvF (ys.getD i pv0)).ownBlock ≠ (pvF (ys.getD j pv0)).ownBlock := fun i j hij hj e => by
   have hi : i < ys.length := by omega
   have e1 : ys.getD i pv0 = ys[i] := by simp [List.getD, hi]
   have e2 : ys.getD j pv0 = ys[j] := by simp [List.getD, hj]
   rw [e1, e2] at e
   have hs := List.pairwise_iff_getElem.1 h.seq i j hi hj hij
   have hy := (h.each ys[i] (List.getElem_mem hi)).1
   have hz := (h.each ys[j] (List.getElem_mem hj)).1
   obtain ⟨k1, c1, e3⟩ := za9 hy.ok.fo.row (by have := hy.n; omega)
   have b1 : (pvF ys[i]).ownBlock = some k1 := by rw [e3]; rfl
   have b2 := b1
   rw [e] at b2
   have t1 := hy.ok.top k1 (Or.inr (Or.inl b1))
   have t2 := (hz.ok.fo.row.lt k1 b2).1
   omega
  rcases Nat.lt_or_gt_of_ne hij with h1 | h1
  ·
   exact key i j h1 hj
  ·
   exact fun e => key j i h1 hi e.symm
theorem set_each {P : PV → Prop} {y : PV} {j : Nat} (h : ∀ z ∈ ys, P z) (hy : P y) : ∀ z ∈ ys.set j y, P z := fun z hz => by
 rcases List.mem_or_eq_of_mem_set hz with h1 | rfl
 ·
  exact h z h1
 ·
  exact hy
theorem Q8.at (h : Q8 X w B a len cap g lc ys) {j : Nat} (hj : j < ys.length) : Y8 X w.heap.size (ys.getD j pv0) := h.each _ (by simp [List.getD, hj])
theorem Q8.keep (h : Q8 X w B a len cap g lc ys) {row : Option Nat} (hg : X.grownBy Y row) (hr : ∀ k, row = some k → w.heap.size ≤ k) : Cur Y B a len cap ∧ w.grownBy Y (some B) := by
 have hbr := h.br
 exact ⟨h.cur.kept hg (fun k e => by have := hr k e; omega), h.g.andThen hg (fun k e => Or.inl (hr k e))⟩
theorem Q8.name (h : Q8 X w B a len cap g lc ys) {j : Nat} (hj : j < ys.length) (x : List UInt8) (hx : x.length ≤ 9) : Q8 (X.setCell ⟨g, j * 3, none⟩ (.string ⟨x.toArray⟩)) w B a len cap g lc (ys.set j { ys.getD j pv0 with nm := x }) := by
 obtain ⟨hr, hg⟩ := h.row.stored (j * 3) (.string ⟨x.toArray⟩)
 have hy := h.at hj
 obtain ⟨hc, hgw⟩ := h.keep hg (fun k e => (h.row.lt k (by rw [← e]; rfl)).1)
 have hl : (ys.set j { ys.getD j pv0 with nm := x }).length = ys.length := by simp
 refine ⟨by rw [hl, ← pvsV_nm]; exact hr, set_each (fun z hz => (h.each z hz).pk h.row hg) ?_, hc, hgw, h.br, by rw [hl]; exact h.n⟩
 have h2 := hy.pk h.row hg
 exact ⟨h2.im, h2.fo, h2.sm, h2.n, hx, h2.is⟩
end
theorem ziw {ims : List (List UInt8)} (h : ∀ t ∈ ims, t.length ≤ 9) (i : Nat) : (ims.getD i []).length ≤ 1048576 := by
 rw [List.getD_eq_getElem?_getD]
 cases hj : ims[i]? with
 | none => simp
 | some t => exact Nat.le_trans (h t (List.mem_of_getElem? hj)) (by omega)
theorem xs8_fn {xs : List FV} (h : zcQ xs) (j : Nat) : zfT ((xs.map (·.1)).getD j fn0) := by
 rw [List.getD_eq_getElem?_getD, List.getElem?_map]
 cases hj : xs[j]? with
 | none => exact ⟨by decide, ⟨by decide, by decide⟩, by decide, fun n hn => by cases hn⟩
 | some t => exact h t (List.mem_of_getElem? hj)
theorem ziN {xs : List FV} (h : zcQ xs) : zkp (xs.map (·.1)) := fun j =>
 have hs := xs8_fn h j
 ⟨Nat.le_trans hs.1 (by omega), Nat.le_trans hs.2.2.1 (by omega), hs.2.2.2.short⟩
theorem xs8_int {xs : List FV} (h : zcQ xs) : IntF (xs.map (·.1)) := fun j =>
 have hs := xs8_fn h j
 ⟨⟨by have := hs.2.1; omega, by have := hs.2.1; omega⟩, hs.2.2.2.int⟩
theorem ziO {xs : List FV} {x : FV} (h : zcQ xs) (hx : zfT x.1) : zcQ (xs.set 0 x) := fun t ht => (List.mem_or_eq_of_mem_set ht).elim (h t) (fun e => by rw [e]; exact hx)
theorem first8 {xs : List FV} (h : 1 ≤ xs.length) : xs.getD 0 fv0 ∈ xs := by
 cases xs with
 | nil => simp at h
 | cons z r => simp
section
variable {X Y w : World} {B : Nat} {a : Option Addr} {len cap g lc : Nat} {ys : List PV}
theorem Q8.fns (h : Q8 X w B a len cap g lc ys) (hA : A8 ys) {j : Nat} (hj : j < ys.length) {xs : List FV} (hg : X.grownBy Y (pvF (ys.getD j pv0)).ownBlock) (hf : zaP Y w.heap.size (pvF { ys.getD j pv0 with xs := xs }) xs) (hl : xs.length = (ys.getD j pv0).xs.length) (hs : zcQ xs) : Q8 Y w B a len cap g lc (ys.set j { ys.getD j pv0 with xs := xs }) := by
 have hy := h.at hj
 obtain ⟨hc, hgw⟩ := h.keep hg (fun k e => (hy.fo.row.lt k e).1)
 have hll : (ys.set j { ys.getD j pv0 with xs := xs }).length = ys.length := by simp
 refine ⟨by rw [hll, ← pvsV_xs ys j xs hl]; exact h.row.kept hg (za4 h.row hy.fo.row (by decide)), fun z hz => ?_, hc, hgw, h.br, by rw [hll]; exact h.n⟩
 obtain ⟨i, hi, rfl⟩ := List.mem_iff_getElem.1 hz
 rw [List.getElem_set]
 rw [hll] at hi
 split
 ·
  exact ⟨hy.im.kept hg (za4 hy.im hy.fo.row (by decide)), hf, hs, by show 1 ≤ xs.length ∧ xs.length ≤ 3; rw [hl]; exact hy.n, hy.nm, hy.is⟩
 ·
  rename_i hij
  have hz2 := h.each ys[i] (List.getElem_mem hi)
  have e1 : ys.getD i pv0 = ys[i] := by simp [List.getD, hi]
  have hap := hA.ap i j hi hj (fun e => hij e.symm)
  rw [e1] at hap
  exact hz2.kept hg (za4 hz2.im hy.fo.row (by decide)) (Or.inr hap) (fun x hx => za4 (hz2.fo.trees x hx) hy.fo.row (by decide))
theorem Q8.fn0 (h : Q8 X w B a len cap g lc ys) {j : Nat} (hj : j < ys.length) : ∃ gF, (ys.getD j pv0).fa = some ⟨gF, 0, none⟩ := by
 have hy := h.at hj
 obtain ⟨gF, c, e⟩ := za9 hy.fo.row (by have := hy.n; omega)
 unfold pvF at e
 injection e with e
 exact ⟨gF, e⟩
theorem Q8.args (h : Q8 X w B a len cap g lc ys) (hA : A8 ys) {j : Nat} (hj : j < ys.length) {gF : Nat} (hF : (ys.getD j pv0).fa = some ⟨gF, 0, none⟩) (y : Int) (hy0 : -10 ≤ y ∧ y ≤ 10) : ∃ ys', ys'.length = ys.length ∧ Q8 (X.setCell ⟨gF, 1, none⟩ (.int .i64 y)) w B a len cap g lc ys' := by
 have hy := h.at hj
 have hb : (pvF (ys.getD j pv0)).ownBlock = some gF := by unfold pvF; rw [hF]; rfl
 have hfo := hy.fo
 have hF2 : pvF (ys.getD j pv0) = .slice (some ⟨gF, 0, none⟩) (ys.getD j pv0).xs.length (ys.getD j pv0).fc := by unfold pvF; rw [hF]
 rw [hF2] at hfo
 obtain ⟨hr, hg⟩ := hfo.row.stored 1 (.int .i64 y)
 have hn := hy.n
 have hsm := hy.sm
 refine ⟨_, ?_, h.fns hA hj (xs := (ys.getD j pv0).xs.set 0 ((((ys.getD j pv0).xs.getD 0 fv0).1.1, y, ((ys.getD j pv0).xs.getD 0 fv0).1.2.2), ((ys.getD j pv0).xs.getD 0 fv0).2)) (by rw [hb]; exact hg) ?_ (by simp) ?_⟩
 ·
  simp
 ·
  unfold pvF
  simp only [hF]
  revert hfo hr hn
  generalize (ys.getD j pv0).xs = xs
  intro hfo hr hn
  obtain ⟨z, r, rfl⟩ : ∃ z r, xs = z :: r := by cases xs with | nil => simp at hn | cons z r => exact ⟨z, r, rfl⟩
  refine ⟨hr, fun x hx => ?_⟩
  rcases List.mem_cons.1 hx with rfl | hx
  ·
   exact (hfo.trees z (by simp)).kept hg (za4 (hfo.trees z (by simp)) hfo.row (by decide))
  ·
   exact (hfo.trees x (by simp [hx])).kept hg (za4 (hfo.trees x (by simp [hx])) hfo.row (by decide))
 ·
  have hz := hsm _ (first8 hn.1)
  exact ziO hsm ⟨hz.1, hy0, hz.2.2⟩
theorem Q8.tree (h : Q8 X w B a len cap g lc ys) (hA : A8 ys) {j : Nat} (hj : j < ys.length) {gF : Nat} (hF : (ys.getD j pv0).fa = some ⟨gF, 0, none⟩) (ta : Option Addr) (tc : Nat) (t : List Nd) (ho : X.ownsRow w.heap.size 99 4 (.slice ta t.length tc) t.length (za5 t)) (ht : t.length ≤ 100) (hts : zbz t) : ∃ ys', ys'.length = ys.length ∧ Q8 (X.setCell ⟨gF, 2, none⟩ (.slice ta t.length tc)) w B a len cap g lc ys' := by
 have hy := h.at hj
 have hb : (pvF (ys.getD j pv0)).ownBlock = some gF := by unfold pvF; rw [hF]; rfl
 have hfo := hy.fo
 have hF2 : pvF (ys.getD j pv0) = .slice (some ⟨gF, 0, none⟩) (ys.getD j pv0).xs.length (ys.getD j pv0).fc := by unfold pvF; rw [hF]
 rw [hF2] at hfo
 obtain ⟨hr, hg⟩ := hfo.row.stored 2 (.slice ta t.length tc)
 have hn := hy.n
 have hsm := hy.sm
 refine ⟨_, ?_, h.fns hA hj (xs := (ys.getD j pv0).xs.set 0 ((((ys.getD j pv0).xs.getD 0 fv0).1.1, ((ys.getD j pv0).xs.getD 0 fv0).1.2.1, t), ta, tc)) (by rw [hb]; exact hg) ?_ (by simp) ?_⟩
 ·
  simp
 ·
  unfold pvF
  simp only [hF]
  revert hfo hr hn
  generalize (ys.getD j pv0).xs = xs
  intro hfo hr hn
  obtain ⟨z, r, rfl⟩ : ∃ z r, xs = z :: r := by cases xs with | nil => simp at hn | cons z r => exact ⟨z, r, rfl⟩
  refine ⟨hr, fun x hx => ?_⟩
  rcases List.mem_cons.1 hx with rfl | hx
  ·
   exact ho.kept hg (za4 ho hfo.row (by decide))
  ·
   exact (hfo.trees x (by simp [hx])).kept hg (za4 (hfo.trees x (by simp [hx])) hfo.row (by decide))
 ·
  have hz := hsm _ (first8 hn.1)
  exact ziO hsm ⟨hz.1, hz.2.1, ht, hts⟩
theorem rows8_ok {base : Nat} (hrow : X.ownsRow base 85 3 (.slice (some ⟨g, 0, none⟩) ys.length lc) ys.length (pvsV ys)) (heach : ∀ y ∈ ys, Y8 X base y) (hn8 : 1 ≤ ys.length ∧ ys.length ≤ 4) : zcv X (some ⟨g, 0, none⟩) ys.length lc (ys.map pvP) := by
 have hcap : ys.length ≤ lc := by
  rcases hrow.2 with ⟨e, _⟩ | ⟨g', cap', cur, e, _, _, hc, _⟩
  ·
   cases e
  ·
   injection e with _ _ e3; rw [e3]; exact hc
 refine ⟨by simp, (fun e => (by cases e)), hcap, by omega, fun j hj => ?_⟩
 obtain ⟨v0, v1, v2⟩ := zjm ys j hj
 have hc := fun k (hk : k < ys.length * 3) => World.ownsRow.cellAt hrow k hk
 have hy := heach (ys.getD j pv0) (by simp [List.getD, hj])
 obtain ⟨ai, ci, af, cf, e1, e2, h3, h4, hti, hfi⟩ := own_pk hy.im hy.fo rfl
 have hn := hy.n
 have his := hy.is
 have hnm := hy.nm
 rw [zhk ys j]
 refine ⟨g, 0, rfl, (hrow.lt g rfl).2, ?_, ai, (ys.getD j pv0).ims.length, ci, af, ((ys.getD j pv0).xs.map (fun x : FV => x.1)).length, cf, ?_, ?_, ⟨hti, hfi, h3, h4, xs8_int hy.sm, by omega, by rw [List.length_map]; omega, by show (ys.getD j pv0).nm.length ≤ 1048576; omega, fun i => ziw his.2 i, ziN hy.sm⟩⟩
 ·
  rw [Nat.zero_add, hc _ (by omega), v0]; rfl
 ·
  rw [Nat.zero_add, hc _ (by omega), v1, e1]
 ·
  rw [Nat.zero_add, hc _ (by omega), v2, e2]
theorem zcv.take {w : World} {a : Option Addr} {len cap n : Nat} {ps : List Pk} (h : zcv w a len cap ps) (hn : n ≤ len) : zcv w a n cap (ps.take n) := by
 have hl := h.hlen
 have hc := h.hcap
 have hs := h.small
 refine ⟨by simp; omega, h.nil, by omega, by omega, fun j hj => ?_⟩
 have e : (ps.take n).getD j pk0 = ps.getD j pk0 := by simp [List.getD, hj]
 rw [e]
 exact h.each j (by omega)
theorem Q8.ok (h : Q8 X w B a len cap g lc ys) : zcv X (some ⟨g, 0, none⟩) ys.length lc (ys.map pvP) := rows8_ok h.row h.each h.n
end
set_option maxHeartbeats 8000000 in
set_option maxRecDepth 100000 in
theorem drawPs (w : World) (B : Nat) (a : Option Addr) (len cap : Nat) (hc : Cur w B a len cap) :
 Calls Tryz.prog 50 #[.pointer (some ⟨B, 0, none⟩)] w fun e w' => ∃ L la lc ys vc cs, e = .returned (.slice la (ys : List PV).length lc) ∧ D8 w' w B a len cap w.heap.size L la lc ys vc cs ∧ 1 ≤ ys.length ∧ ys.length ≤ 4 := by
 have hc0 := hc.kept (World.grownBy_alloc w (.cells #[.string ⟨#[97]⟩, .string ⟨#[98]⟩, .string ⟨#[99]⟩] 9) none) (by simp)
 go_enter Tryz.func50, Tryz.ntmps50
 go_wp2_with fail
 refine (zaf _ B a len cap 4 (by omega) (by omega) hc0).mono ?_
 rintro e w1 ⟨x, rfl, hx0, hx1, hc1, hg1⟩
 have HD0 : Hid (D8 ((w1.alloc (.cells #[] 85)).alloc (.cells #[] 99)) w B a len cap w.heap.size (w1.heap.size + 2) (some ⟨w1.heap.size, 0, none⟩) 0 [] (.slice (some ⟨w1.heap.size + 1, 0, none⟩) 0 0) []) := D8.start hc hc1 hg1
 obtain ⟨T, rfl⟩ : ∃ T : Nat, x = (T : Int) := Int.eq_ofNat_of_zero_le hx0
 obtain ⟨N, hN⟩ : ∃ N, w.heap.size = N := ⟨_, rfl⟩
 rw [hN] at HD0
 clear hc0 hc1 hg1 hx0
 have HN : Hid (w.heap.size = N) := hN
 go_wp2
 go_loopw [5, 6, 7] (fun lv cv iv wr => ∃ (L i : Nat) (la : Option Addr) (lc : Nat) (ys : List PV) (ca : Option Addr) (cc : Nat) (cs : List Nd), lv = .slice la ys.length lc ∧ cv = .slice ca cs.length cc ∧ iv = .int .i64 (i : Int) ∧ i ≤ T + 1 ∧ Hid (ys.length = i) ∧ Hid (cs.length ≤ 3 * i) ∧ Hid (D8 wr w B a len cap N L la lc ys (.slice ca cs.length cc) cs)) (fun _ _ iv _ => T + 1 - (intOf iv).toNat)
 case atStart => exact ⟨_, 0, _, 0, [], _, 0, [], rfl, rfl, rfl, by omega, (rfl : ([] : List PV).length = 0), (Nat.zero_le _ : ([] : List Nd).length ≤ 3 * 0), HD0⟩
 case round =>
  obtain ⟨L, i, la, lc, ys, ca, cc, cs, rfl, rfl, rfl, hi, HY, HC, HD⟩ := hrel
  clear HD0
  by_cases hiT : (i : Int) ≤ (T : Int)
  rotate_left
  ·
   obtain rfl : i = T + 1 := by omega
   go_wp2
   go_ret
   exact ⟨L, la, lc, ys, rfl, ⟨_, cs, HD.out⟩, by have := HY.out; omega, by have := HY.out; omega⟩
  ·
   obtain ⟨W, hW⟩ : ∃ W, W = wr := ⟨_, rfl⟩
   subst hW
   go_upto_if 27 with fail
   go_cut [8] from 27 to 108 (fun v wx => ∃ nm : List UInt8, v = .string ⟨nm.toArray⟩ ∧ nm.length ≤ 9 ∧ W = wx)
   case first =>
    by_cases hit : (i : Int) < (T : Int)
    ·
     obtain ⟨x, hx, c0⟩ := HD.out.name (k := i) (by omega)
     have hi3 : (i : Int) < 3 := by omega
     go_wp2
     go_meet
     case rel => exact ⟨x, rfl, hx, rfl⟩
    ·
     go_wp2
     go_meet
     case rel => exact ⟨[109, 97, 105, 110], rfl, by simp, rfl⟩
   case rest =>
    obtain ⟨nm, rfl, hnm, rfl⟩ := hcut
    have HD1 : Hid (D8 ((W.alloc (.cells #[] 9)).alloc (.cells #[] 99)) w B a len cap N W.heap.size la lc ys (.slice ca cs.length cc) cs) := (HD.out.raise HD.out.ls (Nat.le_refl _)).below (((Below.refl _ _).alloc (Nat.le_refl _) _).alloc (by simp) _)
    have HI1 : Hid (I8 ((W.alloc (.cells #[] 9)).alloc (.cells #[] 99)) W.heap.size (.slice (some ⟨W.heap.size, 0, none⟩) 0 0) [] (.slice (some ⟨W.heap.size + 1, 0, none⟩) 0 0) []) := I8.start W
    clear HD
    go_wp2
    go_loopw [9, 10, 11] (fun iv ov kv wx => ∃ (ia : Option Addr) (ic : Nat) (ims : List (List UInt8)) (oa : Option Addr) (oc : Nat) (os : List Nd) (k : Nat), iv = .slice ia ims.length ic ∧ ov = .slice oa os.length oc ∧ kv = .int .i64 (k : Int) ∧ k ≤ i ∧ Hid (ims.length ≤ k) ∧ Hid (os.length ≤ 9 * k) ∧ Hid (D8 wx w B a len cap N W.heap.size la lc ys (.slice ca cs.length cc) cs) ∧ Hid (I8 wx W.heap.size (.slice ia ims.length ic) ims (.slice oa os.length oc) os)) (fun _ _ kv _ => i - (intOf kv).toNat)
    case atStart => exact ⟨_, 0, [], _, 0, [], 0, rfl, rfl, rfl, by omega, (Nat.le_refl _ : ([] : List (List UInt8)).length ≤ 0), (Nat.zero_le _ : ([] : List Nd).length ≤ 9 * 0), HD1, HI1⟩
    case round =>
     obtain ⟨ia, ic, ims, oa, oc, os, k, rfl, rfl, rfl, hk, HIL, HOL, HD2, HI2⟩ := hrel
     clear HD1 HI1
     obtain ⟨X, hX⟩ : ∃ X, X = wr := ⟨_, rfl⟩
     subst hX
     by_cases hki : (k : Int) < (i : Int)
     ·
      have hkT : (k : Int) < (T : Int) := by omega
      go_wp2_with fail
      refine (zbe X B a len cap 2 (by omega) (by omega) HD2.out.cur).mono ?_
      rintro e w3 ⟨b3, rfl, hc3, hg3⟩
      have HD3 : Hid (D8 w3 w B a len cap N W.heap.size la lc ys (.slice ca cs.length cc) cs) := HD2.out.next hg3 hc3
      have HI3 : Hid (I8 w3 W.heap.size (.slice ia ims.length ic) ims (.slice oa os.length oc) os) := HI2.out.next hg3 (by have := HD2.out.br; have := HD2.out.wl; omega)
      clear hc3 hg3 HD2 HI2
      rcases b3 with _ | _
      ·
       go_wp2
       go_roundw
       case rel => exact ⟨ia, ic, ims, oa, oc, os, k + 1, rfl, rfl, by go_num, by omega, Nat.le_succ_of_le HIL.out, Nat.le_trans HOL.out (by omega), HD3, HI3⟩
       case measure => simp [intOf]; omega
      ·
       obtain ⟨x, hx, c0⟩ := HD3.out.name (k := k) (by omega)
       obtain ⟨v4, w4, hr4, hI4, hg4⟩ := HI3.out.imp x hx HD3.out.ls (by have := HIL.out; omega)
       have HD4 : Hid (D8 w4 w B a len cap N W.heap.size la lc ys (.slice ca cs.length cc) cs) := HD3.out.upper hg4 (fun q e => (HI3.out.im.lt q e).1)
       obtain ⟨ia4, ic4, rfl, _, _⟩ := zcr hI4.im
       obtain ⟨im4, him4⟩ : ∃ im4, ims ++ [x] = im4 := ⟨_, rfl⟩
       have HIL4 : Hid (im4.length ≤ k + 1) := by exact (by rw [← him4, List.length_append, List.length_singleton]; have := HIL.out; omega : im4.length ≤ k + 1)
       rw [him4] at hr4 hI4
       have HI4 : Hid (I8 w4 W.heap.size (.slice ia4 im4.length ic4) im4 (.slice oa os.length oc) os) := hI4
       have hk3 : (k : Int) < 3 := by omega
       clear him4 hI4 hg4 HI3 HD3 HIL
       go_wp2_with (at_builtin; refine za0 rfl (.tmp 46) (.tmp 51) 31 rfl _ _ _ rfl rfl hr4 ?_; clear hr4)
       go_loopw [10, 12] (fun ov jv wy => ∃ (oa : Option Addr) (oc : Nat) (os : List Nd) (j : Nat), ov = .slice oa os.length oc ∧ jv = .int .i64 (j : Int) ∧ j ≤ cs.length ∧ Hid (os.length ≤ 9 * k + j) ∧ Hid (D8 wy w B a len cap N W.heap.size la lc ys (.slice ca cs.length cc) cs) ∧ Hid (I8 wy W.heap.size (.slice ia4 im4.length ic4) im4 (.slice oa os.length oc) os)) (fun _ jv _ => cs.length - (intOf jv).toNat)
       case atStart => exact ⟨oa, oc, os, 0, rfl, rfl, by omega, HOL, HD4, HI4⟩
       case round =>
        obtain ⟨oa, oc, os, j, rfl, rfl, hj, HOL, HD5, HI5⟩ := hrel
        clear HD4 HI4
        obtain ⟨X5, hX5⟩ : ∃ X, X = wr := ⟨_, rfl⟩
        subst hX5
        have hcl := HC.out
        by_cases hjl : (j : Int) < (cs.length : Int)
        ·
         obtain ⟨x5, hx5, c5⟩ := HD5.out.name (k := k) (by omega)
         obtain ⟨_, _, e0, _, hin⟩ := zcW HD5.out.cal
         injection e0 with e0 _ e2
         subst e0
         subst e2
         obtain ⟨cb, co, hca, _, hcells⟩ := hin.at (by omega)
         subst hca
         obtain ⟨q0, q1, q2, q3⟩ := hcells j (by omega)
         have hm : cs.getD j nd0 ∈ cs := by simp [List.getD, show j < cs.length by omega]
         have hsm := HD5.out.csm.1 _ hm
         have hkd := HD5.out.csm.2 _ hm
         obtain ⟨n5, hn5⟩ : ∃ n, cs.getD j nd0 = n := ⟨_, rfl⟩
         rw [hn5] at q0 q1 q2 q3 hsm hkd
         obtain ⟨kd5, a5, p5, f5⟩ := n5
         simp only at q0 q1 q2 q3
         clear hn5 hcells hin hm
         rcases hb : (p5 == x5) with _ | _
         ·
          go_wp2_with fail
          go_quiet (fail)
          go_wp2
          go_roundw
          case rel => exact ⟨oa, oc, os, j + 1, rfl, by go_num, by omega, Nat.le_succ_of_le HOL.out, HD5.out.upper (row := none) ⟨rfl, rfl, rfl, Nat.le_refl _, fun _ _ _ => rfl⟩ (by simp), HI5.out.below ⟨rfl, rfl, rfl, Nat.le_refl _, fun _ _ => rfl⟩⟩
          case measure => simp [intOf]; omega
         ·
          go_wp2_with fail
          go_quiet (fail)
          generalize hX6 : X5.drewN _ = X6
          have HD6 : Hid (D8 X6 w B a len cap N W.heap.size la lc ys (.slice (some ⟨cb, co, none⟩) cs.length cc) cs) := by exact (by rw [← hX6]; exact HD5.out.upper (row := none) ⟨rfl, rfl, rfl, Nat.le_refl _, fun _ _ _ => rfl⟩ (by simp) : D8 X6 w B a len cap N W.heap.size la lc ys (.slice (some ⟨cb, co, none⟩) cs.length cc) cs)
          have hI6 : I8 X6 W.heap.size (.slice ia4 im4.length ic4) im4 (.slice oa os.length oc) os := by rw [← hX6]; exact HI5.out.below ⟨rfl, rfl, rfl, Nat.le_refl _, fun _ _ => rfl⟩
          have s0 : X6.cell? ⟨cb, co + j * 4, none⟩ = some (.int .i64 kd5) := by rw [← hX6]; exact q0
          have s1 : X6.cell? ⟨cb, co + j * 4 + 1, none⟩ = some (.int .i64 a5) := by rw [← hX6]; exact q1
          have s2 : X6.cell? ⟨cb, co + j * 4 + 2, none⟩ = some (.string ⟨p5.toArray⟩) := by rw [← hX6]; exact q2
          have s3 : X6.cell? ⟨cb, co + j * 4 + 3, none⟩ = some (.string ⟨f5.toArray⟩) := by rw [← hX6]; exact q3
          obtain ⟨v7, w7, hr7, hI7, hg7⟩ := hI6.node (kd5, a5, p5, f5) hsm hkd HD6.out.ls (by have := HOL.out; omega)
          have HD7 : Hid (D8 w7 w B a len cap N W.heap.size la lc ys (.slice (some ⟨cb, co, none⟩) cs.length cc) cs) := HD6.out.upper hg7 (fun q e => (hI6.ow.lt q e).1)
          obtain ⟨oa7, oc7, rfl, _, _⟩ := zcW hI7.ow
          obtain ⟨os7, hos7⟩ : ∃ os7, os ++ [((kd5, a5, p5, f5) : Nd)] = os7 := ⟨_, rfl⟩
          have HOL7 : Hid (os7.length ≤ 9 * k + (j + 1)) := by exact (by rw [← hos7, List.length_append, List.length_singleton]; have := HOL.out; omega : os7.length ≤ 9 * k + (j + 1))
          rw [hos7] at hr7 hI7
          simp only at hr7
          have HI7 : Hid (I8 w7 W.heap.size (.slice ia4 im4.length ic4) im4 (.slice oa7 os7.length oc7) os7) := hI7
          clear hX6 hos7 hI7 hg7 hI6 HD6 HD5 HI5 HOL q0 q1 q2 q3 c5 hb
          go_wp2_with (at_builtin; refine za0 rfl (.tmp 69) (.tmp 74) 97 rfl _ _ _ rfl rfl hr7 ?_; clear hr7)
          go_roundw
          case rel => exact ⟨oa7, oc7, os7, j + 1, rfl, by go_num, by omega, HOL7, HD7, HI7⟩
          case measure => simp [intOf]; omega
        ·
         go_wp2
         go_roundw
         case rel => exact ⟨ia4, ic4, im4, oa, oc, os, k + 1, rfl, rfl, by go_num, by omega, HIL4, Nat.le_trans HOL.out (by omega), HD5, HI5⟩
         case measure => simp [intOf]; omega
     ·
      obtain ⟨_, _, e0, hcc, hin⟩ := zcW HI2.out.ow
      injection e0 with e0 _ e2
      subst e0
      subst e2
      go_wp2_with fail
      refine (drawPk X B a len cap nm ia ims.length ic _ os.length _ os HD2.out.cur hnm hin hcc (by have := HOL.out; omega) HI2.out.osm.1 HI2.out.osm.2).mono ?_
      rintro e w3 ⟨fa, fc, xs, rfl, hfo, hxl, hxd, hc3, hg3⟩
      go_upto_region 24 with fail
      obtain ⟨gF, cF, hF⟩ := za9 hfo.row (by omega)
      injection hF with e1 e2 e3
      subst e1
      clear e2 e3
      obtain ⟨hbx, hbZ⟩ := Box3.new w3 (.string ⟨nm.toArray⟩) (.slice ia ims.length ic) (.slice (some ⟨gF, 0, none⟩) xs.length fc) 85
      have hE0 := E8.start HD2.out HI2.out hg3 hc3 hfo hxl hxd hnm (by have := HIL.out; omega) hbZ hbx
      generalize w3.alloc (.cells #[.string ⟨nm.toArray⟩, .slice ia ims.length ic, .slice (some ⟨gF, 0, none⟩) xs.length fc] 85) = Z at hE0 ⊢
      obtain ⟨P, hP⟩ : ∃ P, w3.heap.size = P := ⟨_, rfl⟩
      rw [hP] at hE0 ⊢
      have HE0 : Hid (E8 Z w B a len cap N la lc ys (.slice ca cs.length cc) cs ⟨nm, ims, xs, ia, ic, some ⟨gF, 0, none⟩, fc, W.heap.size, P⟩ P) := hE0
      clear hE0 hbx hbZ hP hfo hxd hc3 hg3 hin hcc HD2 HI2
      have HC0 : Hid (cs.length ≤ 3 * i + 0) := HC.out
      go_wp2
      go_loopw [6, 14] (fun cv kv wz => ∃ (ca : Option Addr) (cc : Nat) (cs : List Nd) (j : Nat), cv = .slice ca cs.length cc ∧ kv = .int .i64 (j : Int) ∧ j ≤ xs.length ∧ Hid (cs.length ≤ 3 * i + j) ∧ Hid (E8 wz w B a len cap N la lc ys (.slice ca cs.length cc) cs ⟨nm, ims, xs, ia, ic, some ⟨gF, 0, none⟩, fc, W.heap.size, P⟩ P)) (fun _ kv _ => xs.length - (intOf kv).toNat)
      case atStart => exact ⟨ca, cc, cs, 0, rfl, rfl, by omega, HC0, HE0⟩
      case round =>
       obtain ⟨ca, cc, cs, j, rfl, rfl, hj, HC4, HE4⟩ := hrel
       clear HE0 HC0 HC
       obtain ⟨Z4, hZ4⟩ : ∃ X, X = wr := ⟨_, rfl⟩
       subst hZ4
       have p0 : Z4.cell? ⟨P, 0, none⟩ = some (.string ⟨nm.toArray⟩) := HE4.out.box.c0
       have p1 : Z4.cell? ⟨P, 1, none⟩ = some (.slice ia ims.length ic) := HE4.out.box.c1
       have p2 : Z4.cell? ⟨P, 2, none⟩ = some (.slice (some ⟨gF, 0, none⟩) xs.length fc) := HE4.out.box.c2
       by_cases hjl : (j : Int) < (xs.length : Int)
       ·
        obtain ⟨s, z, c0, c1, hs, hz0, hz1⟩ := HE4.out.fn (g := gF) rfl (show j < xs.length by omega)
        obtain ⟨v', Y, hr, hEY⟩ := HE4.out.drew.call ((8, z, nm, s) : Nd) ⟨⟨⟨by simp, by simp⟩, ⟨by simp only; omega, by simp only; omega⟩⟩, hnm, hs⟩ (by simp [zbm]; omega) (by have := HC4.out; omega)
        obtain ⟨L', hdY⟩ := hEY.d
        obtain ⟨ca', cc', rfl, _, _⟩ := zcW hdY.cal
        obtain ⟨cs', hcs'⟩ : ∃ cs', cs ++ [((8, z, nm, s) : Nd)] = cs' := ⟨_, rfl⟩
        have HC5 : Hid (cs'.length ≤ 3 * i + (j + 1)) := by exact (by rw [← hcs', List.length_append, List.length_singleton]; have := HC4.out; omega : cs'.length ≤ 3 * i + (j + 1))
        rw [hcs'] at hr hEY
        change (Builtin.append_ #[97, 97] 97 #[.slice ca cs.length cc, .slice (some ⟨Z4.heap.size, 0, none⟩) 1 1]).run Tryz.prog (Z4.alloc (.cells #[.int .i64 8, .int .i64 z, .string ⟨nm.toArray⟩, .string ⟨s.toArray⟩] 99)).drew = _ at hr
        have HE5 : Hid (E8 Y w B a len cap N la lc ys (.slice ca' cs'.length cc') cs' ⟨nm, ims, xs, ia, ic, some ⟨gF, 0, none⟩, fc, W.heap.size, P⟩ P) := hEY
        clear hEY hdY hcs' HE4 HC4 p0 p1
        go_wp2_with fail
        go_region_law (first | (refine zaa (by rfl) (.tmp 88) (.tmp 103) 97 (by rfl) _ _ _ (by rfl) (by rfl) hr ?_))
        all_goals
         go_wp2
         go_roundw
         case rel => exact ⟨ca', cc', cs', j + 1, rfl, by go_num, by omega, HC5, HE5⟩
         case measure => simp [intOf]; omega
       ·
        obtain ⟨g', c', Y, L', hr, hdY⟩ := HE4.out.push (by have := HY.out; omega)
        obtain ⟨ys', hys'⟩ : ∃ ys', ys ++ [(⟨nm, ims, xs, ia, ic, some ⟨gF, 0, none⟩, fc, W.heap.size, P⟩ : PV)] = ys' := ⟨_, rfl⟩
        have e5 : ys.length + 1 = ys'.length := by rw [← hys', List.length_append, List.length_singleton]
        have HY5 : Hid (ys'.length = i + 1) := by exact (by rw [← e5, HY.out] : ys'.length = i + 1)
        rw [e5] at hr
        rw [hys'] at hdY
        change (Builtin.append_ #[80, 80] 80 #[.slice la ys.length lc, .slice (some ⟨Z4.heap.size, 0, none⟩) 1 1]).run Tryz.prog (Z4.alloc (.cells #[.string ⟨nm.toArray⟩, .slice ia ims.length ic, .slice (some ⟨gF, 0, none⟩) xs.length fc] 85)) = _ at hr
        have HD5 : Hid (D8 Y w B a len cap N L' (some ⟨g', 0, none⟩) c' ys' (.slice ca cs.length cc) cs) := hdY
        have HC5 : Hid (cs.length ≤ 3 * (i + 1)) := by exact (by have := HC4.out; omega : cs.length ≤ 3 * (i + 1))
        clear hdY hys' e5 HE4 HC4
        go_wp2_with (at_builtin; refine za0 rfl (.tmp 105) (.tmp 107) 80 rfl _ _ _ rfl rfl hr ?_; clear hr)
        go_roundw
        case rel => exact ⟨L', i + 1, _, c', ys', ca, cc, cs, rfl, rfl, by go_num, by omega, HY5, HC5, HD5⟩
        case measure => simp [intOf]; omega


def farB (ps : List Pk) (p : Pk) (q : List UInt8) : Bool := decide (q ≠ p.1 ∧ (¬ q ∈ p.2.1 ∨ at8 ps q < 0))
def ofPk (ps : List Pk) (p : Pk) (q : List UInt8) : Pk := if q = p.1 then p else ps.getD (at8 ps q).toNat pk0
def call9 (ps : List Pk) (p : Pk) (i : Int) (n : Nd) : Int :=
 if farB ps p n.2.2.1 = true then 1
 else if atV (ofPk ps p n.2.2.1).2.2 n.2.2.2 < 0 ∨ (n.2.2.1 = p.1 ∧ i ≤ atV (ofPk ps p n.2.2.1).2.2 n.2.2.2) then 2
 else if ((ofPk ps p n.2.2.1).2.2.getD (atV (ofPk ps p n.2.2.1).2.2 n.2.2.2).toNat fn0).2.1 ≠ n.2.1 then 3 else 0
def pkOf (ps : List Pk) (s : List UInt8) : Pk := ps.getD (at8 ps s).toNat pk0
def callB (ps : List Pk) (s : List UInt8) (i : Int) (n : Nd) : Prop := projB ps = true ∧ 0 ≤ at8 ps s ∧ zbu n = true ∧ n.1 = 8 ∧ 0 ≤ i ∧ i < ((pkOf ps s).2.2.length : Int)
instance (ps : List Pk) (s : List UInt8) (i : Int) (n : Nd) : Decidable (callB ps s i n) := by unfold callB; infer_instance
def arg9 (f : Fn) (n : Nd) : Prop := n.1 = 2 ∧ f.2.1 ≤ n.2.1
instance (f : Fn) (n : Nd) : Decidable (arg9 f n) := by unfold arg9; infer_instance
def bad9 (ps : List Pk) (p : Pk) (i : Nat) (n : Nd) : Prop := n.1 = 8 ∧ call9 ps p i n ≠ 0
instance (ps : List Pk) (p : Pk) (i : Nat) (n : Nd) : Decidable (bad9 ps p i n) := by unfold bad9; infer_instance
def fnGo (ps : List Pk) (p : Pk) (i : Nat) (f : Fn) : List Nd → Int → Int
 | [], c => c
 | n :: r, c => if arg9 f n then 3 else fnGo ps p i f r (if bad9 ps p i n then 4 else c)
def func9 (ps : List Pk) (p : Pk) (i : Nat) : Int := fnGo ps p i (p.2.2.getD i fn0) (p.2.2.getD i fn0).2.2 0
def miss9 (ps : List Pk) (p : Pk) : Prop := ∃ m ∈ p.2.1, at8 ps m < 0
instance (ps : List Pk) (p : Pk) : Decidable (miss9 ps p) := by unfold miss9; infer_instance

def za3 (t : List Nd) (a : Int) : List Int := zaj t (zae (t.getD a.toNat nd0)) (a + 1)
def zaZ (t : List Nd) : Prop := ∀ n ∈ t, zbu n = true

theorem zi1 (l : List Nd) {a : Int} (h : a < 0) : endV l a = -1 := if_pos h
theorem endV_ge (l : List Nd) (a : Int) : -1 ≤ endV l a := by
 unfold endV
 split
 ·
  omega
 ·
  unfold endN
  split
  ·
   split <;> omega
  ·
   omega
theorem zeL (l : List Nd) : ∀ k, zd8 l k (-1) = -1
 | 0 => rfl
 | k + 1 => by rw [zd8, zi1 l (by decide), zeL l k]
theorem zhL (l : List Nd) : ∀ (k : Nat) (next : Int), 0 ≤ zd8 l k next → ∀ i, i < k → 0 ≤ endV l ((zaj l k next).getD i 0)
 | 0, _, _, i, hi => absurd hi (Nat.not_lt_zero _)
 | k + 1, next, h, i, hi => by
  rw [zd8] at h
  have h0 : 0 ≤ endV l next := by
   rcases Int.lt_or_le (endV l next) 0 with h1 | h1
   ·
    have e : endV l next = -1 := by have := endV_ge l next; omega
    rw [e, zeL] at h
    omega
   ·
    exact h1
  rw [zaj]
  rcases i with _ | i
  ·
   exact h0
  ·
   exact zhL l k _ h i (by omega)
theorem ziH {l : List Nd} {a : Int} (h : 0 ≤ endV l a) : ∃ q : Nat, a = (q : Int) ∧ q < l.length := by
 rcases Int.lt_or_le a 0 with h1 | h1
 ·
  rw [zi1 l h1] at h; omega
 ·
  obtain ⟨q, rfl⟩ : ∃ q : Nat, a = (q : Int) := ⟨a.toNat, by omega⟩
  exact ⟨q, rfl, (zan h).1⟩
theorem zbT {t : List Nd} {a : Nat} (h : 0 ≤ endV t (a : Int)) {i : Nat} (hi : i < zae (t.getD a nd0)) : ∃ q : Nat, (za3 t (a : Int)).getD i 0 = (q : Int) ∧ q < t.length ∧ 0 ≤ endV t (q : Int) := by
 obtain ⟨_, _, hc, h1, _⟩ := zan h
 have hc2 : zd8 t (zae (t.getD a nd0)) ((a : Int) + 1) = endV t (a : Int) := hc
 have hp := zhL t (zae (t.getD a nd0)) ((a : Int) + 1) (by rw [hc2]; exact h) i hi
 have e : (za3 t (a : Int)).getD i 0 = (zaj t (zae (t.getD a nd0)) ((a : Int) + 1)).getD i 0 := rfl
 rw [← e] at hp
 obtain ⟨q, hq, hl⟩ := ziH hp
 rw [hq] at hp
 exact ⟨q, hq, hl, hp⟩
theorem zbj (t : List Nd) (a : Nat) : (za3 t (a : Int)).length = zae (t.getD a nd0) := by
 unfold za3
 rw [zeq, Int.toNat_natCast]
inductive One : List Nd → Prop
 | mk (n : Nd) (ks : List (List Nd)) : zbu n = true → ks.length = zae n → (∀ k ∈ ks, One k) → One (n :: ks.flatten)
theorem One.pos {s : List Nd} (h : One s) : 0 < s.length := by cases h; simp
theorem zhM : ∀ (ks : List (List Nd)) (post : List Nd), (∀ k ∈ ks, ∀ post, zbd (k ++ post) 1 = some k.length) → zbd (ks.flatten ++ post) ks.length = some ks.flatten.length
 | [], post, _ => by simp [zbE]
 | k :: r, post, h => by
  have h1 := h k List.mem_cons_self (r.flatten ++ post)
  have h2 := zhM r post (fun x hx => h x (List.mem_cons_of_mem _ hx))
  rw [List.flatten_cons, List.append_assoc, List.length_cons, Nat.add_comm, zdA, h1]
  simp only [Option.bind_some, List.drop_left, h2, Option.map_some, List.length_append]
theorem One.end_ {s : List Nd} (h : One s) : ∀ post, zbd (s ++ post) 1 = some s.length := by
 induction h with
 | mk n ks hn hk _ ih =>
  intro post
  have h2 := zhM ks post ih
  rw [List.cons_append, zb8, if_pos hn, Nat.zero_add, ← hk, h2]
  simp
theorem parse : ∀ (l : List Nd) (o d : Nat), zbd l o = some d → ∃ ks : List (List Nd), ks.length = o ∧ (∀ k ∈ ks, One k) ∧ l.take d = ks.flatten
 | l, 0, d, h => by
  rw [zbE] at h
  injection h with h
  subst h
  exact ⟨[], rfl, (fun k hk => by cases hk), by simp⟩
 | [], o + 1, d, h => by rw [zcb] at h; cases h
 | n :: r, o + 1, d, h => by
  rw [zb8] at h
  split at h
  ·
   rename_i hn
   cases he : zbd r (o + zae n) with
   | none => rw [he] at h; cases h
   | some e =>
    rw [he] at h
    simp only [Option.map_some, Option.some.injEq] at h
    subst h
    obtain ⟨ks, hl, ho, hf⟩ := parse r (o + zae n) e he
    refine ⟨(n :: (ks.take (zae n)).flatten) :: ks.drop (zae n), by simp; omega, fun k hk => ?_, ?_⟩
    ·
     rcases List.mem_cons.1 hk with e1 | e1
     ·
      rw [e1]
      exact One.mk n _ hn (by simp; omega) (fun k hk => ho k (List.mem_of_mem_take hk))
     ·
      exact ho k (List.mem_of_mem_drop e1)
    ·
     rw [List.take_succ_cons, hf, List.flatten_cons, List.cons_append, ← List.flatten_append, List.take_append_drop]
  ·
   cases h
theorem zio {l : List Nd} {d : Nat} (h : zbd l 1 = some d) : One (l.take d) := by
 obtain ⟨ks, hl, ho, hf⟩ := parse l 1 d h
 obtain ⟨k, rfl⟩ : ∃ k, ks = [k] := List.length_eq_one_iff.1 hl
 rw [hf]
 simpa using ho k (by simp)
theorem One.pre {a b x y : List Nd} (ha : One a) (hb : One b) (h : a ++ x = b ++ y) : a = b ∧ x = y := by
 have h1 := ha.end_ x
 rw [h, hb.end_ y] at h1
 injection h1 with h1
 exact List.append_inj h h1.symm
theorem zfv : ∀ {ks js : List (List Nd)}, (∀ k ∈ ks, One k) → (∀ k ∈ js, One k) → ks.length = js.length → ks.flatten = js.flatten → ks = js
 | [], [], _, _, _, _ => rfl
 | [], _ :: _, _, _, h, _ => by cases h
 | _ :: _, [], _, _, h, _ => by cases h
 | a :: r, b :: t, ha, hb, hl, hf => by
  rw [List.flatten_cons, List.flatten_cons] at hf
  obtain ⟨rfl, h2⟩ := (ha a List.mem_cons_self).pre (hb b List.mem_cons_self) hf
  rw [zfv (fun k hk => ha k (List.mem_cons_of_mem _ hk)) (fun k hk => hb k (List.mem_cons_of_mem _ hk)) (by simpa using hl) h2]
theorem zd4 {t s post : List Nd} {a : Nat} (h : t.drop a = s ++ post) (hs : One s) : endV t (a : Int) = ((a + s.length : Nat) : Int) := by
 have ha : a < t.length := by
  rcases Nat.lt_or_ge a t.length with h1 | h1
  ·
   exact h1
  ·
   rw [List.drop_eq_nil_of_le h1] at h
   have := hs.pos
   have h2 := congrArg List.length h
   simp at h2
   omega
 rw [zcl]
 unfold endN
 rw [if_pos ha, h, hs.end_ post]
 simp
theorem zcK {t : List Nd} {a : Nat} (h : 0 ≤ endV t (a : Int)) : ∃ s post, t.drop a = s ++ post ∧ One s := by
 rw [zcl] at h
 unfold endN at h
 split at h
 ·
  cases he : zbd (t.drop a) 1 with
  | none => rw [he] at h; simp at h
  | some d => exact ⟨_, _, (List.take_append_drop d (t.drop a)).symm, zio he⟩
 ·
  omega
theorem zbY {t : List Nd} : zb9 t = true ↔ (t.length ≤ 60 ∧ One t) := by
 constructor
 ·
  intro h
  have h1 := of_decide_eq_true h
  refine ⟨h1.1.2, ?_⟩
  obtain ⟨s, post, e, hs⟩ := zcK (t := t) (a := 0) (by rw [show ((0 : Nat) : Int) = 0 from rfl, h1.2]; omega)
  have h2 := zd4 e hs
  rw [show ((0 : Nat) : Int) = 0 from rfl, h1.2] at h2
  rw [List.drop_zero] at e
  have h3 := congrArg List.length e
  rw [List.length_append] at h3
  have h4 : post = [] := List.eq_nil_of_length_eq_zero (by omega)
  rw [e, h4, List.append_nil]
  exact hs
 ·
  rintro ⟨h1, h2⟩
  have h3 := zd4 (t := t) (a := 0) (post := []) (by simp) h2
  refine decide_eq_true ⟨⟨h2.pos, h1⟩, ?_⟩
  rw [show (0 : Int) = ((0 : Nat) : Int) from rfl, h3]
  simp
theorem ze4 (l : List Nd) : ∀ (k : Nat) (q : Int), zd8 l (k + 1) q = endV l (zd8 l k q)
 | 0, _ => rfl
 | k + 1, q => by rw [zd8, ze4 l k]; rfl
theorem zgD {t post : List Nd} {a : Nat} {n : Nd} {ks : List (List Nd)} (h : t.drop a = (n :: ks.flatten) ++ post) (ho : ∀ k ∈ ks, One k) : ∀ i, i ≤ ks.length → zd8 t i ((a + 1 : Nat) : Int) = ((a + 1 + (ks.take i).flatten.length : Nat) : Int) ∧ t.drop (a + 1 + (ks.take i).flatten.length) = (ks.drop i).flatten ++ post
 | 0, _ => by
  refine ⟨by simp [zd8], ?_⟩
  have h1 : t.drop (a + 1) = ks.flatten ++ post := by rw [← List.drop_drop, h]; rfl
  simpa using h1
 | i + 1, hi => by
  obtain ⟨e1, e2⟩ := zgD h ho i (by omega)
  have hi2 : i < ks.length := by omega
  have hd : (ks.drop i).flatten = ks[i] ++ (ks.drop (i + 1)).flatten := by rw [List.drop_eq_getElem_cons hi2, List.flatten_cons]
  have ht : (ks.take (i + 1)).flatten.length = (ks.take i).flatten.length + ks[i].length := by
   rw [List.take_succ_eq_append_getElem hi2, List.flatten_append, List.length_append]
   simp
  rw [hd, List.append_assoc] at e2
  have h3 := zd4 e2 (ho _ (List.getElem_mem hi2))
  refine ⟨by rw [ze4, e1, h3, ht]; omega, ?_⟩
  rw [ht, ← Nat.add_assoc, ← List.drop_drop, e2, List.drop_left]
end Go.Proofs.YtenaaneckobdpaaGreat
