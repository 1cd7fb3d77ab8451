/-
  Parts of one proof, one behind the other: Draw14D, Draw14E.
-/
import Derived.Test.YtogobeegibngiaaGreatDoorP21
import Derived.Test.YtogobeegibngiaaGreatDoorP5
import Derived.Deep.RegionWith

/-! Images are drawn: l14DrawAny. -/
namespace Go.Proofs.YtogobeegibngiaaGreatDoor
open Go.RowKit

/-- Worlds that agree from a block on. -/
def Agr (X Y : World) (b : Nat) : Prop := X.heap.size ≤ Y.heap.size ∧ ∀ k, b ≤ k → k < X.heap.size → Y.heap[k]? = X.heap[k]?
theorem own_agr {X Y : World} {b base e size n : Nat} {v : Value} {xs : List Value} (h : X.ownsRow base e size v n xs) (hb : b ≤ base) (ha : Agr X Y b) : Y.ownsRow base e size v n xs := by
  refine ⟨h.1, ?_⟩
  rcases h.2 with ⟨e1, e2⟩ | ⟨g, cp, cur, e1, hg0, hg, rest⟩
  · exact Or.inl ⟨e1, e2⟩
  · have hl := h.lt g (by rw [e1]; rfl)
    exact Or.inr ⟨g, cp, cur, e1, hg0, (ha.2 g (by omega) hl.2).trans hg, rest⟩
theorem Agr.refl (X : World) (b : Nat) : Agr X X b := ⟨Nat.le_refl _, fun _ _ _ => rfl⟩
theorem Agr.grown {X Y Z : World} {b B : Nat} (h : Agr X Y b) (hg : Y.grownBy Z (some B)) (hB : B < b) : Agr X Z b := ⟨Nat.le_trans h.1 hg.size, fun k hk hkl => (hg.block k (Nat.lt_of_lt_of_le hkl h.1) (fun e => by injection e with e; omega)).trans (h.2 k hk hkl)⟩
theorem Agr.below {X Y Z : World} {b : Nat} (h : Agr X Y b) (hg : Below Y.heap.size Y Z) : Agr X Z b := ⟨Nat.le_trans h.1 hg.size, fun k hk hkl => (hg.block k (Nat.lt_of_lt_of_le hkl h.1)).trans (h.2 k hk hkl)⟩
theorem RtsOwn.agr {X Y : World} {b base : Nat} {v : Value} {xs : List RV} (h : RtsOwn X base v xs) (hb : b ≤ base) (ha : Agr X Y b) : RtsOwn Y base v xs := ⟨own_agr h.row hb ha, fun x hx => own_agr (h.trees x hx) hb ha⟩

/-- A drawn image: read in every world that agrees with this one from that block on. -/
def ImA (X : World) (b : Nat) (a : Option Addr) (n c : Nat) (rs : List Rt) : Prop := (∀ Y, Agr X Y b → RtsCap Y a n c rs) ∧ (∀ r ∈ rs, SmRt r) ∧ n ≤ 12
theorem ImA.own {X : World} {b g c : Nat} {xs : List RV} (h : RtsOwn X b (.slice (some ⟨g, 0, none⟩) xs.length c) xs) (hs : SmR xs) (hn : xs.length ≤ 12) : ImA X b (some ⟨g, 0, none⟩) xs.length c (xs.map (·.1)) :=
  ⟨fun Y hY => (h.agr (Nat.le_refl _) hY).cap rfl (by simp), fun r hr => by
    obtain ⟨x, hx, rfl⟩ := List.mem_map.1 hr
    exact hs x hx, hn⟩
theorem RtsCap.drop1 {X : World} {g off n c : Nat} {rs : List Rt} (h : RtsCap X (some ⟨g, off, none⟩) n c rs) (hn : 1 ≤ n) : RtsCap X (some (if c = 1 then ⟨g, off, none⟩ else ⟨g, off + 3, none⟩)) (n - 1) (c - 1) (rs.drop 1) := by
  obtain ⟨h1, h2, h3, h4⟩ := h
  refine ⟨by rw [List.length_drop, h1], by omega, by omega, fun j hj => ?_⟩
  obtain ⟨b, o, e, hl, c0, c1, ca, cl, cc, c2, hi, h5, h6⟩ := h4 (j + 1) (by omega)
  injection e with e
  injection e with e1 e2 _
  subst e1 e2
  have hg : (rs.drop 1).getD j rt0 = rs.getD (j + 1) rt0 := by simp [List.getD]
  rw [if_neg (by omega), hg]
  refine ⟨g, off + 3, rfl, hl, ?_, ?_, ca, cl, cc, ?_, hi, h5, h6⟩
  · rw [show off + 3 + j * 3 = off + (j + 1) * 3 by omega]; exact c0
  · rw [show off + 3 + j * 3 + 1 = off + (j + 1) * 3 + 1 by omega]; exact c1
  · rw [show off + 3 + j * 3 + 2 = off + (j + 1) * 3 + 2 by omega]; exact c2
theorem ImA.drop1 {X : World} {b g n c : Nat} {rs : List Rt} (h : ImA X b (some ⟨g, 0, none⟩) n c rs) (hn : 1 ≤ n) : ImA X b (some (if c = 1 then ⟨g, 0, none⟩ else ⟨g, 3, none⟩)) (n - 1) (c - 1) (rs.drop 1) :=
  ⟨fun Y hY => by
    have := (h.1 Y hY).drop1 hn
    rw [Nat.zero_add] at this
    exact this, fun r hr => h.2.1 r (List.mem_of_mem_drop hr), by have := h.2.2; omega⟩
/-- What l14DrawAny makes. -/
def Da14 (w : World) (B : Nat) (a : Option Addr) (len cap : Nat) (e : Ending) (w' : World) : Prop :=
  ∃ (a' : Option Addr) (n c : Nat) (rs : List Rt), e = .returned (.agg #[.slice a' n c]) ∧ ImA w' w.heap.size a' n c rs ∧ Cur w' B a len cap ∧ w.grownBy w' (some B)
/-- The image (at M), which may be written; the answer's cell (at D). -/
structure Dy14 (w X : World) (B : Nat) (a : Option Addr) (len cap D M g c : Nat) (xs : List RV) : Prop where
  fo : RtsOwn X (D + 1) (.slice (some ⟨g, 0, none⟩) xs.length c) xs
  sm : SmR xs
  n : 1 ≤ xs.length ∧ xs.length ≤ 12
  cur : Cur X B a len cap
  gr : w.grownBy X (some B)
  d : X.heap[D]? = some (.cells #[.slice none 0 0] 26 (0, 0))
  m : X.heap[M]? = some (.cells #[.slice (some ⟨g, 0, none⟩) xs.length c] 26 (0, 0))
  bw : B < w.heap.size
  dw : w.heap.size = D
  dm : D < M
  gd : D < g
  gm : g < M
section
variable {w X Y : World} {B : Nat} {a : Option Addr} {len cap D M g c : Nat} {xs : List RV}
theorem Dy14.draw (h : Dy14 w X B a len cap D M g c xs) (hc : Cur Y B a len cap) (hg : X.grownBy Y (some B)) : Dy14 w Y B a len cap D M g c xs := by
  have h1 := h.bw
  have h2 := h.dw
  have h3 := h.dm
  exact ⟨⟨own_other h.fo.row (by omega) hg, fun x hx => own_other (h.fo.trees x hx) (by omega) hg⟩, h.sm, h.n, hc, h.gr.trans hg, (hg.block D (lt_of_block h.d) (by intro e; injection e with e; omega)).trans h.d, (hg.block M (lt_of_block h.m) (by intro e; injection e with e; omega)).trans h.m, h1, h2, h3, h.gd, h.gm⟩
theorem Dy14.below (h : Dy14 w X B a len cap D M g c xs) (hb : Below X.heap.size X Y) : Dy14 w Y B a len cap D M g c xs :=
  ⟨h.fo.below hb, h.sm, h.n, h.cur.below hb, h.gr.trans (below_grown hb _), (hb.block D (lt_of_block h.d)).trans h.d, (hb.block M (lt_of_block h.m)).trans h.m, h.bw, h.dw, h.dm, h.gd, h.gm⟩
theorem Dy14.drew (h : Dy14 w X B a len cap D M g c xs) : Dy14 w X.drew B a len cap D M g c xs := h.below ⟨rfl, rfl, rfl, Nat.le_refl _, fun _ _ => rfl⟩
theorem Dy14.m0 (h : Dy14 w X B a len cap D M g c xs) : X.cell? ⟨M, 0, none⟩ = some (.slice (some ⟨g, 0, none⟩) xs.length c) ∧ X.frozen? ⟨M, 0, none⟩ = false := ⟨by rw [cell_of_row _ _ _ _ _ _ h.m]; rfl, frozen_of_row _ _ _ _ _ h.m⟩
theorem Dy14.d0 (h : Dy14 w X B a len cap D M g c xs) : X.cell? ⟨D, 0, none⟩ = some (.slice none 0 0) ∧ X.frozen? ⟨D, 0, none⟩ = false := ⟨by rw [cell_of_row _ _ _ _ _ _ h.d]; rfl, frozen_of_row _ _ _ _ _ h.d⟩
theorem Dy14.grw (h : Dy14 w X B a len cap D M g c xs) {row : Nat} (hg : X.grownBy Y (some row)) (hr : D ≤ row) : w.grownBy Y (some B) := by
  have h2 := h.dw
  exact ⟨hg.os.trans h.gr.os, hg.tape.trans h.gr.tape, hg.output.trans h.gr.output, Nat.le_trans h.gr.size hg.size, fun q hq hne => (hg.block q (Nat.lt_of_lt_of_le hq h.gr.size) (by intro e; injection e with e; omega)).trans (h.gr.block q hq hne)⟩
/-- A field of a routine is written. -/
theorem Dy14.set (h : Dy14 w X B a len cap D M g c xs) {q j : Nat} {u : Value} {ys : List RV} (hy : (rtsV xs).set (q * 3 + j) u = rtsV ys) (hl : ys.length = xs.length) (hs : SmR ys) (ht : ∀ z ∈ ys, X.ownsRow (D + 1) 56 5 (rvT z) z.1.2.2.length (insV z.1.2.2)) : Dy14 w (X.setCell ⟨g, q * 3 + j, none⟩ u) B a len cap D M g c ys := by
  have hst := h.fo.row.stored (q * 3 + j) u
  rw [hy] at hst
  have hgd := h.gd
  have hgm := h.gm
  have hbw := h.bw
  have hdw := h.dw
  refine ⟨⟨by rw [hl]; exact hst.1, fun z hz => (ht z hz).kept hst.2 (own_typesR (ht z hz) h.fo.row (by decide))⟩, hs, by rw [hl]; exact h.n, h.cur.kept hst.2 (fun k e => by injection e with e; omega), h.grw hst.2 (by omega), (heap_setCell_other _ _ _ _ (by show D ≠ g; omega)).trans h.d, by rw [hl]; exact (heap_setCell_other _ _ _ _ (by show M ≠ g; omega)).trans h.m, hbw, hdw, h.dm, hgd, hgm⟩
/-- The end: the image is the answer. -/
theorem Dy14.out (h : Dy14 w X B a len cap D M g c xs) : Da14 w B a len cap (.returned (.agg #[.slice (some ⟨g, 0, none⟩) xs.length c])) (X.setCell ⟨D, 0, none⟩ (.slice (some ⟨g, 0, none⟩) xs.length c)) := by
  have hgs := grown_set X D 0 (.slice (some ⟨g, 0, none⟩) xs.length c)
  have hdw := h.dw
  have hbw := h.bw
  have hf : RtsOwn (X.setCell ⟨D, 0, none⟩ (.slice (some ⟨g, 0, none⟩) xs.length c)) w.heap.size (.slice (some ⟨g, 0, none⟩) xs.length c) xs :=
    (h.fo.kept hgs (own_offR h.fo.row (by omega)) (fun z hz => own_offR (h.fo.trees z hz) (by omega))).base (by omega)
  exact ⟨_, _, c, _, rfl, ImA.own hf h.sm h.n.2, h.cur.kept hgs (fun k e => by injection e with e; omega), h.grw hgs (Nat.le_refl _)⟩
/-- The end where the first one is left out. -/
theorem Dy14.out1 (h : Dy14 w X B a len cap D M g c xs) (u : Value) (hu : u = .slice (some (if c = 1 then ⟨g, 0, none⟩ else ⟨g, 3, none⟩)) (xs.length - 1) (c - 1)) : Da14 w B a len cap (.returned (.agg #[u])) ((X.setCell ⟨M, 0, none⟩ u).setCell ⟨D, 0, none⟩ u) := by
  have hg1 := grown_set X M 0 u
  have hg2 := grown_set (X.setCell ⟨M, 0, none⟩ u) D 0 u
  have hdw := h.dw
  have hbw := h.bw
  have hdm := h.dm
  have hgm := h.gm
  have hMX : ∀ {e size n : Nat} {v : Value} {zs : List Value}, e ≠ 26 → X.ownsRow (D + 1) e size v n zs → v.ownBlock = none ∨ v.ownBlock ≠ some M := fun he ho => by
    rcases own_forms ho with ⟨rfl, _, _⟩ | ⟨g', cp, rfl⟩
    · exact Or.inl rfl
    · refine Or.inr (fun e => ?_)
      have e2 : g' = M := by simpa [Value.ownBlock] using e
      subst e2
      rcases ho.2 with ⟨e1, _⟩ | ⟨g2, cp2, cur, e1, _, hg2, _⟩
      · cases e1
      · have e3 : g' = g2 := by injection e1 with e1; injection e1 with e1; injection e1
        rw [← e3, h.m] at hg2
        injection hg2 with hg2
        injection hg2 with _ hg2
        exact he hg2.symm
  have hf1 : RtsOwn (X.setCell ⟨M, 0, none⟩ u) (D + 1) (.slice (some ⟨g, 0, none⟩) xs.length c) xs := h.fo.kept hg1 (hMX (by decide) h.fo.row) (fun z hz => hMX (by decide) (h.fo.trees z hz))
  have hf2 : RtsOwn ((X.setCell ⟨M, 0, none⟩ u).setCell ⟨D, 0, none⟩ u) w.heap.size (.slice (some ⟨g, 0, none⟩) xs.length c) xs := (hf1.kept hg2 (own_offR hf1.row (by omega)) (fun z hz => own_offR (hf1.trees z hz) (by omega))).base (by omega)
  have hI := (ImA.own hf2 h.sm h.n.2).drop1 h.n.1
  have hgw := h.grw hg1 (by omega)
  subst hu
  refine ⟨_, _, _, _, rfl, hI, (h.cur.kept hg1 (fun k e => by injection e with e; omega)).kept hg2 (fun k e => by injection e with e; omega), ⟨hg2.os.trans hgw.os, hg2.tape.trans hgw.tape, hg2.output.trans hgw.output, Nat.le_trans hgw.size hg2.size, fun q hq hne => (hg2.block q (Nat.lt_of_lt_of_le hq hgw.size) (by intro e; injection e with e; omega)).trans (hgw.block q hq hne)⟩⟩
end

end Go.Proofs.YtogobeegibngiaaGreatDoor

/-! Images are drawn: l14DrawAny (written by gen_draw14e.py). -/
namespace Go.Proofs.YtogobeegibngiaaGreatDoor
open Go.RowKit

section
variable {xs : List RV} {q : Nat}
theorem rtsV_s0 (nm : List UInt8) : ∀ (xs : List RV) (q : Nat), (rtsV xs).set (q * 3 + 0) (.string ⟨nm.toArray⟩) = rtsV (xs.set q ((nm, (xs.getD q rv0).1.2.1, (xs.getD q rv0).1.2.2), (xs.getD q rv0).2))
  | [], q => by simp [rtsV]
  | x :: r, 0 => by simp [rtsV, rvT]
  | x :: r, q + 1 => by
    have := rtsV_s0 nm r q
    rw [Nat.add_zero] at this
    rw [show (q + 1) * 3 + 0 = q * 3 + 1 + 1 + 1 by omega]
    simp only [rtsV, List.set_cons_succ, List.getD_cons_succ]
    rw [this]
theorem rtsV_s1 (z : Int) : ∀ (xs : List RV) (q : Nat), (rtsV xs).set (q * 3 + 1) (.int .i64 z) = rtsV (xs.set q (((xs.getD q rv0).1.1, z, (xs.getD q rv0).1.2.2), (xs.getD q rv0).2))
  | [], q => by simp [rtsV]
  | x :: r, 0 => by simp [rtsV, rvT]
  | x :: r, q + 1 => by
    have := rtsV_s1 z r q
    rw [show (q + 1) * 3 + 1 = q * 3 + 1 + 1 + 1 + 1 by omega]
    simp only [rtsV, List.set_cons_succ, List.getD_cons_succ]
    rw [this]
theorem rtsV_s2 (co : List In13) (ca : Option Addr) (cc : Nat) : ∀ (xs : List RV) (q : Nat), (rtsV xs).set (q * 3 + 2) (.slice ca co.length cc) = rtsV (xs.set q (((xs.getD q rv0).1.1, (xs.getD q rv0).1.2.1, co), ca, cc))
  | [], q => by simp [rtsV]
  | x :: r, 0 => by simp [rtsV, rvT]
  | x :: r, q + 1 => by
    have := rtsV_s2 co ca cc r q
    rw [show (q + 1) * 3 + 2 = q * 3 + 2 + 1 + 1 + 1 by omega]
    simp only [rtsV, List.set_cons_succ, List.getD_cons_succ]
    rw [this]
theorem rv_mem (hq : q < xs.length) : xs.getD q rv0 ∈ xs := by rw [List.getD_eq_getElem?_getD, List.getElem?_eq_getElem hq]; exact List.getElem_mem hq
theorem SmR.set {y : RV} (h : SmR xs) (hy : SmRt y.1) : SmR (xs.set q y) := fun z hz => by
  rcases List.mem_or_eq_of_mem_set hz with e | e
  · exact h z e
  · rw [e]; exact hy
end
section
variable {w X Y : World} {B : Nat} {a : Option Addr} {len cap D M g c : Nat} {xs : List RV} {q : Nat}
theorem Dy14.tset (h : Dy14 w X B a len cap D M g c xs) {y : RV} (hy : X.ownsRow (D + 1) 56 5 (rvT y) y.1.2.2.length (insV y.1.2.2)) : ∀ z ∈ xs.set q y, X.ownsRow (D + 1) 56 5 (rvT z) z.1.2.2.length (insV z.1.2.2) := fun z hz => by
  rcases List.mem_or_eq_of_mem_set hz with e | e
  · exact h.fo.trees z e
  · rw [e]; exact hy
theorem Dy14.name (h : Dy14 w X B a len cap D M g c xs) (hq : q < xs.length) (nm : List UInt8) (hn : nm.length ≤ 9) : ∃ ys, ys.length = xs.length ∧ Dy14 w (X.setCell ⟨g, q * 3 + 0, none⟩ (.string ⟨nm.toArray⟩)) B a len cap D M g c ys := by
  have hs := h.sm _ (rv_mem hq)
  exact ⟨_, List.length_set, h.set (rtsV_s0 nm xs q) List.length_set (h.sm.set ⟨by show nm.length ≤ 100; omega, hs.2.1, hs.2.2.1, hs.2.2.2⟩) (h.tset (by exact h.fo.trees (xs.getD q rv0) (rv_mem hq)))⟩
theorem Dy14.args (h : Dy14 w X B a len cap D M g c xs) (hq : q < xs.length) (z : Int) (hz : -10 ≤ z ∧ z ≤ 10) : ∃ ys, ys.length = xs.length ∧ Dy14 w (X.setCell ⟨g, q * 3 + 1, none⟩ (.int .i64 z)) B a len cap D M g c ys := by
  have hs := h.sm _ (rv_mem hq)
  exact ⟨_, List.length_set, h.set (rtsV_s1 z xs q) List.length_set (h.sm.set ⟨hs.1, hz, hs.2.2.1, hs.2.2.2⟩) (h.tset (by exact h.fo.trees (xs.getD q rv0) (rv_mem hq)))⟩
theorem Dy14.code (h : Dy14 w X B a len cap D M g c xs) (hq : q < xs.length) (co : List In13) (ca : Option Addr) (cc : Nat) (ho : X.ownsRow (D + 1) 56 5 (.slice ca co.length cc) co.length (insV co)) (hl : co.length ≤ 300) (hs2 : AllI co) : ∃ ys, ys.length = xs.length ∧ Dy14 w (X.setCell ⟨g, q * 3 + 2, none⟩ (.slice ca co.length cc)) B a len cap D M g c ys := by
  have hs := h.sm _ (rv_mem hq)
  exact ⟨_, List.length_set, h.set (rtsV_s2 co ca cc xs q) List.length_set (h.sm.set ⟨hs.1, hs.2.1, hl, hs2⟩) (h.tset ho)⟩
theorem Dy14.cell (h : Dy14 w X B a len cap D M g c xs) (hq : q < xs.length) : (X.cell? ⟨g, q * 3, none⟩ = some (.string ⟨(xs.getD q rv0).1.1.toArray⟩) ∧ X.cell? ⟨g, q * 3 + 1, none⟩ = some (.int .i64 (xs.getD q rv0).1.2.1) ∧ X.cell? ⟨g, q * 3 + 2, none⟩ = some (rvT (xs.getD q rv0))) ∧ ∀ j, X.frozen? ⟨g, j, none⟩ = false := ⟨h.fo.cells hq, fun j => h.fo.row.frozenAt j⟩
end

set_option maxHeartbeats 16000000 in
set_option maxRecDepth 100000 in
theorem drawAny14 (w : World) (B : Nat) (a : Option Addr) (len cap : Nat) (hc : Cur w B a len cap) :
    Calls Tryz.prog 18 #[.pointer (some ⟨B, 0, none⟩)] w fun e w' => Da14 w B a len cap e w' := by
  have hlB := hc.lt
  have hA0 := heap_alloc_new w (.cells #[.slice none 0 0] 26)
  have hb0 : Below w.heap.size w (w.alloc (.cells #[.slice none 0 0] 26)) := (Below.refl _ _).alloc (Nat.le_refl _) _
  obtain ⟨W, hW⟩ : ∃ W, w.alloc (.cells #[.slice none 0 0] 26) = W := ⟨_, rfl⟩
  rw [hW] at hA0 hb0
  have HD : Hid (_) := drawImage14 W B a len cap (hc.below hb0)
  have hsW : W.heap.size = w.heap.size + 1 := by rw [← hW]; simp
  obtain ⟨D, hD⟩ : ∃ D, w.heap.size = D := ⟨_, rfl⟩
  rw [hD] at hA0
  have HA0 : Hid (W.heap[D]? = some (.cells #[.slice none 0 0] 26 (0, 0)) ∧ Below w.heap.size w W ∧ B < D) := ⟨hA0, hb0, by omega⟩
  clear hA0 hb0 hc
  go_enter Tryz.func18, Tryz.ntmps18
  go_wp2_with fail
  refine Calls.mono HD.out ?_
  rintro e w1 ⟨g, c, xs, rfl, hfo, hsm, hx1, hx12, hcur, hgr⟩
  have hgl := hfo.row.lt g rfl
  have hsz := hgr.size
  have hbA : Below w1.heap.size w1 (w1.alloc (.cells #[.slice (some ⟨g, 0, none⟩) xs.length c] 26)) := (Below.refl _ _).alloc (Nat.le_refl _) _
  have hAA := heap_alloc_new w1 (.cells #[.slice (some ⟨g, 0, none⟩) xs.length c] 26)
  obtain ⟨V, hV⟩ : ∃ V, w1.alloc (.cells #[.slice (some ⟨g, 0, none⟩) xs.length c] 26) = V := ⟨_, rfl⟩
  rw [hV] at hbA hAA
  obtain ⟨M, hM⟩ : ∃ M, w1.heap.size = M := ⟨_, rfl⟩
  rw [hM] at hAA
  have st : Dy14 w V B a len cap D M g c xs := by
    have hb := HA0.out.2.2
    have hDw1 : w1.heap[D]? = some (.cells #[.slice none 0 0] 26 (0, 0)) := (hgr.block D (by omega) (by intro e; injection e with e; omega)).trans HA0.out.1
    refine ⟨by rw [show D + 1 = W.heap.size by omega]; exact hfo.below hbA, hsm, ⟨hx1, hx12⟩, hcur.below hbA, ((below_grown HA0.out.2.1 _).trans hgr).trans (below_grown hbA _), (hbA.block D (by omega)).trans hDw1, hAA, by omega, hD, by omega, by omega, by omega⟩
  have HST : Hid (Dy14 w V B a len cap D M g c xs) := st
  have HDO : Hid (_) := drawOnce V B a len cap 6 (by omega) (by omega) st.cur
  clear HD hfo hsm hcur hgr hgl hbA hAA st HA0
  go_wp2_with fail
  refine Calls.mono HDO.out ?_
  rintro e w2 ⟨bb, rfl, hc2, hg2⟩
  have HS2 : Hid (Dy14 w w2 B a len cap D M g c xs) := HST.out.draw hc2 hg2
  clear hc2 hg2 HST HDO
  rcases bb with _ | _
  ·
    have HO : Hid (_) := HS2.out.out
    obtain ⟨m0, _⟩ := HS2.out.m0
    obtain ⟨d0, df⟩ := HS2.out.d0
    have k0 : (w2.setCell ⟨D, 0, none⟩ (.slice (some ⟨g, 0, none⟩) xs.length c)).cell? ⟨D, 0, none⟩ = some (.slice (some ⟨g, 0, none⟩) xs.length c) := World.cell?_setCell_same _ _ _ d0
    obtain ⟨Y, hY⟩ : ∃ Y, w2.setCell ⟨D, 0, none⟩ (.slice (some ⟨g, 0, none⟩) xs.length c) = Y := ⟨_, rfl⟩
    rw [hY] at HO k0
    generalize xs.length = nz at HO k0 m0 hY
    clear HS2
    go_wp2
    refine bodyPost_ret (v := .agg #[.slice (some ⟨g, 0, none⟩) nz c]) (by simp [results, Tryz.results18, go_sem, k0]) rfl ?_
    exact HO.out
  ·
    obtain ⟨m0, _⟩ := HS2.out.drew.m0
    go_wp2_with fail
    refine wp_region_held_drew (S := fun X => X.cell? ⟨M, 0, none⟩ = some (.slice (some ⟨g, 0, none⟩) xs.length c)) (by kernel_rfl) m0 (fun hHeld => ?_)
    refine wpAnyH_take (i := 0) (oi := ⟨some 9, _, _, _, _, _⟩) (v := ?v1) rfl (by kernel_rfl) (by kernel_rfl) (by kernel_rfl) (fun _ _ _ h => h) (Or.inl ⟨by rfl, ?hy1⟩) (by assumption) ?rest1
    case hy1 => (intro wq hSw; clear hSw; first | (go_simp; done) | (go_simp; with_reducible rfl))
    simp only [Act.put, List.setIfInBounds_toArray, List.set_cons_zero, List.set_cons_succ]
    refine wpAnyH_take (i := 1) (oi := ⟨some 10, _, _, _, _, _⟩) (v := ?v2) rfl (by kernel_rfl) (by kernel_rfl) (by kernel_rfl) (fun _ _ _ h => h) (Or.inl ⟨by rfl, ?hy2⟩) (by assumption) ?rest2
    case hy2 => (intro wq hSw; have e0 := hSw; clear hSw; first | (go_simp; done) | (go_simp; with_reducible rfl))
    simp only [Act.put, List.setIfInBounds_toArray, List.set_cons_zero, List.set_cons_succ]
    refine wpAnyH_take (i := 2) (oi := ⟨some 11, _, _, _, _, _⟩) (v := ?v3) rfl (by kernel_rfl) (by kernel_rfl) (by kernel_rfl) (fun _ _ _ h => h) (Or.inl ⟨by rfl, ?hy3⟩) (by assumption) ?rest3
    case hy3 => (intro wq hSw; clear hSw; first | (go_simp; done) | (go_simp; with_reducible rfl))
    simp only [Act.put, List.setIfInBounds_toArray, List.set_cons_zero, List.set_cons_succ]
    refine wpAnyH_take (i := 3) (oi := ⟨some 12, _, _, _, _, _⟩) (v := ?v4) rfl (by kernel_rfl) (by kernel_rfl) (by kernel_rfl) (fun _ _ _ h => h) (Or.inl ⟨by rfl, ?hy4⟩) (by assumption) ?rest4
    case hy4 => (intro wq hSw; clear hSw; first | (go_simp; done) | (go_simp; with_reducible rfl))
    simp only [Act.put, List.setIfInBounds_toArray, List.set_cons_zero, List.set_cons_succ]
    refine wpAnyH_take (i := 4) (oi := ⟨some 13, _, _, _, _, _⟩) (v := ?v5) rfl (by kernel_rfl) (by kernel_rfl) (by kernel_rfl) (fun _ _ _ h => h) (Or.inl ⟨by rfl, ?hy5⟩) (by assumption) ?rest5
    case hy5 => (intro wq hSw; have e0 := hSw; clear hSw; first | (go_simp; done) | (go_simp; with_reducible rfl))
    simp only [Act.put, List.setIfInBounds_toArray, List.set_cons_zero, List.set_cons_succ]
    refine wpAnyH_take (i := 5) (oi := ⟨some 14, _, _, _, _, _⟩) (v := ?v6) rfl (by kernel_rfl) (by kernel_rfl) (by kernel_rfl) (fun _ _ _ h => h) (Or.inl ⟨by rfl, ?hy6⟩) (by assumption) ?rest6
    case hy6 => (intro wq hSw; clear hSw; first | (go_simp; done) | (go_simp; with_reducible rfl))
    simp only [Act.put, List.setIfInBounds_toArray, List.set_cons_zero, List.set_cons_succ]
    refine wpAnyH_ready (rs := [6]) (by kernel_rfl) (by simp) ?_
    refine AllReadyH.cons rfl (fun K hK => ?_) AllReadyH.nil
    go_simp
    refine (drawBelow _ B a len cap (xs.length : Int) (by omega) (by omega) HS2.out.drew.cur).mono ?_
    rintro e w3 ⟨x, rfl, hx0, hxn, hc3, hg3⟩
    dsimp only
    have HS3 : Hid (Dy14 w w3 B a len cap D M g c xs) := HS2.out.drew.draw hc3 hg3
    refine hK.out _ _ (by exact HS3.out.m0.1) (fun hHeld => ?_)
    clear hK K
    (try simp only [Act.put, List.setIfInBounds_toArray, List.set_cons_zero, List.set_cons_succ])
    obtain ⟨q, hq⟩ : ∃ q : Nat, x = (q : Int) := ⟨x.toNat, by omega⟩
    subst hq
    have hql : q < xs.length := by omega
    refine wpAnyH_take (i := 7) (oi := ⟨some 16, _, _, _, _, _⟩) (v := ?v7) rfl (by kernel_rfl) (by kernel_rfl) (by kernel_rfl) (fun _ _ _ h => h) (Or.inl ⟨by rfl, ?hy7⟩) (by assumption) ?rest7
    case hy7 => (intro wq hSw; clear hSw; first | (go_simp; done) | (go_simp; with_reducible rfl))
    simp only [Act.put, List.setIfInBounds_toArray, List.set_cons_zero, List.set_cons_succ]
    refine wpAnyH_take (i := 8) (oi := ⟨some 4, _, _, _, _, _⟩) (v := ?v8) rfl (by kernel_rfl) (by kernel_rfl) (by kernel_rfl) (fun _ _ _ h => h) (Or.inl ⟨by rfl, ?hy8⟩) (by assumption) ?rest8
    case hy8 => (intro wq hSw; clear hSw; first | (go_simp; done) | (go_simp; with_reducible rfl))
    simp only [Act.put, List.setIfInBounds_toArray, List.set_cons_zero, List.set_cons_succ]
    refine wpAnyH_done (by kernel_rfl) ?_ _
    clear hHeld hc3 hg3 m0 HS2
    have HDB : Hid (_) := drawBelow w3 B a len cap 5 (by omega) (by omega) HS3.out.cur
    go_wp2_with fail
    refine Calls.mono HDB.out ?_
    rintro e w4 ⟨z, rfl, hz0, hz5, hc4, hg4⟩
    have HS4 : Hid (Dy14 w w4 B a len cap D M g c xs) := HS3.out.draw hc4 hg4
    clear hc4 hg4 HS3 HDB
    have hzc : z = 0 ∨ z = 1 ∨ z = 2 ∨ z = 3 ∨ z = 4 := by omega
    clear hz0 hz5
    obtain ⟨⟨b0, b1, b2⟩, bf⟩ := HS4.out.cell hql
    rcases hzc with rfl | rfl | rfl | rfl | rfl
    ·
      have hb5 : Below w4.heap.size w4 (w4.alloc (.cells #[.string ⟨#[97, 46, 102]⟩, .string ⟨#[122, 122, 46, 122]⟩, .string ⟨#[109, 97, 105, 110]⟩] 9)) := (Below.refl _ _).alloc (Nat.le_refl _) _
      have hA5 := heap_alloc_new w4 (.cells #[.string ⟨#[97, 46, 102]⟩, .string ⟨#[122, 122, 46, 122]⟩, .string ⟨#[109, 97, 105, 110]⟩] 9)
      obtain ⟨V5, hV5⟩ : ∃ V, w4.alloc (.cells #[.string ⟨#[97, 46, 102]⟩, .string ⟨#[122, 122, 46, 122]⟩, .string ⟨#[109, 97, 105, 110]⟩] 9) = V := ⟨_, rfl⟩
      rw [hV5] at hb5 hA5
      obtain ⟨N5, hN5⟩ : ∃ N, w4.heap.size = N := ⟨_, rfl⟩
      rw [hN5] at hA5
      have HS5 : Hid (Dy14 w V5 B a len cap D M g c xs) := HS4.out.below hb5
      have hBN : B ≠ N5 := by have := HS4.out.cur.lt; omega
      have HDB : Hid (_) := drawBelow V5 B a len cap 3 (by omega) (by omega) HS5.out.cur
      clear hb5 HS4 b0 b1 b2 bf
      go_wp2_with fail
      refine Calls.mono HDB.out ?_
      rintro e w6 ⟨x6, rfl, hx60, hx63, hc6, hg6⟩
      have HS6 : Hid (Dy14 w w6 B a len cap D M g c xs) := HS5.out.draw hc6 hg6
      have hA6 : w6.heap[N5]? = some (.cells #[.string ⟨#[97, 46, 102]⟩, .string ⟨#[122, 122, 46, 122]⟩, .string ⟨#[109, 97, 105, 110]⟩] 9) := (hg6.block N5 (lt_of_block hA5) (by intro e; injection e with e; exact hBN e.symm)).trans hA5
      clear hc6 hg6 HS5 HDB hA5
      obtain ⟨j6, hj6⟩ : ∃ j : Nat, x6 = (j : Int) := ⟨x6.toNat, by omega⟩
      subst hj6
      obtain ⟨nm6, hn6, c6⟩ : ∃ nm : List UInt8, nm.length ≤ 9 ∧ w6.cell? ⟨N5, j6, none⟩ = some (.string ⟨nm.toArray⟩) := by
        rw [cell_of_row _ _ _ _ _ _ hA6]
        have : j6 = 0 ∨ j6 = 1 ∨ j6 = 2 := by omega
        rcases this with rfl | rfl | rfl
        · exact ⟨[97, 46, 102], by decide, rfl⟩
        · exact ⟨[122, 122, 46, 122], by decide, rfl⟩
        · exact ⟨[109, 97, 105, 110], by decide, rfl⟩
      obtain ⟨⟨b0, b1, b2⟩, bf⟩ := HS6.out.cell hql
      have f0 := bf (q * 3)
      obtain ⟨ys, hyl, s7⟩ := HS6.out.name hql nm6 hn6
      rw [Nat.add_zero] at s7
      obtain ⟨V7, hV7⟩ : ∃ V, w6.setCell ⟨g, q * 3, none⟩ (.string ⟨nm6.toArray⟩) = V := ⟨_, rfl⟩
      rw [hV7] at s7
      clear hA6 HS6 bf
      have HO : Hid (_) := s7.out
      obtain ⟨m0, _⟩ := s7.m0
      obtain ⟨d0, df⟩ := s7.d0
      have k0 : (V7.setCell ⟨D, 0, none⟩ (.slice (some ⟨g, 0, none⟩) ys.length c)).cell? ⟨D, 0, none⟩ = some (.slice (some ⟨g, 0, none⟩) ys.length c) := World.cell?_setCell_same _ _ _ d0
      obtain ⟨Y, hY⟩ : ∃ Y, V7.setCell ⟨D, 0, none⟩ (.slice (some ⟨g, 0, none⟩) ys.length c) = Y := ⟨_, rfl⟩
      rw [hY] at HO k0
      generalize ys.length = nz at HO k0 m0 hY
      clear s7
      go_wp2
      refine bodyPost_ret (v := .agg #[.slice (some ⟨g, 0, none⟩) nz c]) (by simp [results, Tryz.results18, go_sem, k0]) rfl ?_
      exact HO.out
    ·
      have HDB : Hid (_) := drawFromG w4 B a len cap (-1) 6 (by omega) (by omega) (by omega) HS4.out.cur
      clear b0 b1 b2 bf
      go_wp2_with fail
      refine Calls.mono HDB.out ?_
      rintro e w6 ⟨x6, rfl, hx60, hx63, hc6, hg6⟩
      have HS6 : Hid (Dy14 w w6 B a len cap D M g c xs) := HS4.out.draw hc6 hg6
      clear hc6 hg6 HS4 HDB
      obtain ⟨⟨b0, b1, b2⟩, bf⟩ := HS6.out.cell hql
      have f1 := bf (q * 3 + 1)
      obtain ⟨ys, hyl, s7⟩ := HS6.out.args hql x6 ⟨by omega, by omega⟩
      obtain ⟨V7, hV7⟩ : ∃ V, w6.setCell ⟨g, q * 3 + 1, none⟩ (.int .i64 x6) = V := ⟨_, rfl⟩
      rw [hV7] at s7
      clear HS6 bf
      have HO : Hid (_) := s7.out
      obtain ⟨m0, _⟩ := s7.m0
      obtain ⟨d0, df⟩ := s7.d0
      have k0 : (V7.setCell ⟨D, 0, none⟩ (.slice (some ⟨g, 0, none⟩) ys.length c)).cell? ⟨D, 0, none⟩ = some (.slice (some ⟨g, 0, none⟩) ys.length c) := World.cell?_setCell_same _ _ _ d0
      obtain ⟨Y, hY⟩ : ∃ Y, V7.setCell ⟨D, 0, none⟩ (.slice (some ⟨g, 0, none⟩) ys.length c) = Y := ⟨_, rfl⟩
      rw [hY] at HO k0
      generalize ys.length = nz at HO k0 m0 hY
      clear s7
      go_wp2
      refine bodyPost_ret (v := .agg #[.slice (some ⟨g, 0, none⟩) nz c]) (by simp [results, Tryz.results18, go_sem, k0]) rfl ?_
      exact HO.out
    ·
      have HDB : Hid (_) := drawCode13 w4 B a len cap HS4.out.cur
      clear b0 b1 b2 bf
      go_wp2_with fail
      refine Calls.mono HDB.out ?_
      rintro e w6 ⟨vc, co, rfl, hco, hdc⟩
      have HS6 : Hid (Dy14 w w6 B a len cap D M g c xs) := HS4.out.draw hdc.cur hdc.g
      obtain ⟨ca, cc, rfl⟩ := own_any12 hdc.row
      have hD4 : D + 1 ≤ w4.heap.size := by have := HS4.out.dm; have := lt_of_block HS4.out.m; omega
      obtain ⟨⟨b0, b1, b2⟩, bf⟩ := HS6.out.cell hql
      have f2 := bf (q * 3 + 2)
      obtain ⟨ys, hyl, s7⟩ := HS6.out.code hql co ca cc (own_base hdc.row hD4) hco hdc.sm
      generalize co.length = lco at s7 hco hdc ⊢
      obtain ⟨V7, hV7⟩ : ∃ V, w6.setCell ⟨g, q * 3 + 2, none⟩ (.slice ca lco cc) = V := ⟨_, rfl⟩
      rw [hV7] at s7
      clear HS6 bf HS4 hdc HDB
      have HO : Hid (_) := s7.out
      obtain ⟨m0, _⟩ := s7.m0
      obtain ⟨d0, df⟩ := s7.d0
      have k0 : (V7.setCell ⟨D, 0, none⟩ (.slice (some ⟨g, 0, none⟩) ys.length c)).cell? ⟨D, 0, none⟩ = some (.slice (some ⟨g, 0, none⟩) ys.length c) := World.cell?_setCell_same _ _ _ d0
      obtain ⟨Y, hY⟩ : ∃ Y, V7.setCell ⟨D, 0, none⟩ (.slice (some ⟨g, 0, none⟩) ys.length c) = Y := ⟨_, rfl⟩
      rw [hY] at HO k0
      generalize ys.length = nz at HO k0 m0 hY
      clear s7
      go_wp2
      refine bodyPost_ret (v := .agg #[.slice (some ⟨g, 0, none⟩) nz c]) (by simp [results, Tryz.results18, go_sem, k0]) rfl ?_
      exact HO.out
    ·
      obtain ⟨m0, mf⟩ := HS4.out.m0
      obtain ⟨d0, df⟩ := HS4.out.d0
      have hn1 := HS4.out.n.1
      have hcap := (own_capR HS4.out.fo.row).1
      have hne : M ≠ D := by have := HS4.out.dm; omega
      have HO : Hid (∀ u, u = .slice (some (if c = 1 then ⟨g, 0, none⟩ else ⟨g, 3, none⟩)) (xs.length - 1) (c - 1) → Da14 w B a len cap (.returned (.agg #[u])) ((w4.setCell ⟨M, 0, none⟩ u).setCell ⟨D, 0, none⟩ u)) := fun u hu => HS4.out.out1 u hu
      clear HS4 b0 b1 b2 bf hql
      have hc1 : (1 : Int) ≤ (c : Int) := by omega
      generalize xs.length = nx at HO m0 hn1 hcap ⊢
      have hx1i : (1 : Int) ≤ (nx : Int) := by omega
      have hxci : (nx : Int) ≤ (c : Int) := by omega
      by_cases hcc : c = 1
      · subst hcc
        obtain rfl : nx = 1 := by omega
        obtain ⟨u, hu⟩ : ∃ u, u = Value.slice (some ⟨g, 0, none⟩) 0 (0) := ⟨_, rfl⟩
        have ho := HO.out u (by rw [hu, if_pos rfl])
        have kd : (w4.setCell ⟨M, 0, none⟩ u).cell? ⟨D, 0, none⟩ = some (.slice none 0 0) := by rw [World.cell?_setCell_other _ _ _ _ (by intro e; injection e with e; exact hne e)]; exact d0
        have k0 : ((w4.setCell ⟨M, 0, none⟩ u).setCell ⟨D, 0, none⟩ u).cell? ⟨D, 0, none⟩ = some u := World.cell?_setCell_same _ _ _ kd
        have km : (w4.setCell ⟨M, 0, none⟩ u).cell? ⟨M, 0, none⟩ = some u := World.cell?_setCell_same _ _ _ m0
        have kf : (w4.setCell ⟨M, 0, none⟩ u).frozen? ⟨D, 0, none⟩ = false := by rw [World.frozen?_setCell]; exact df
        subst hu
        obtain ⟨Y, hY⟩ : ∃ Y, w4.setCell ⟨M, 0, none⟩ (.slice (some ⟨g, 0, none⟩) 0 (0)) = Y := ⟨_, rfl⟩
        rw [hY] at kd k0 ho km kf
        obtain ⟨Z, hZ⟩ : ∃ Z, Y.setCell ⟨D, 0, none⟩ (.slice (some ⟨g, 0, none⟩) 0 (0)) = Z := ⟨_, rfl⟩
        rw [hZ] at k0 ho
        go_wp2
        refine bodyPost_ret (v := .agg #[.slice (some ⟨g, 0, none⟩) 0 (0)]) (by simp [results, Tryz.results18, go_sem, k0]) rfl ?_
        exact ho
      · obtain ⟨u, hu⟩ : ∃ u, u = Value.slice (some ⟨g, 3, none⟩) (nx - 1) (c - 1) := ⟨_, rfl⟩
        have ho := HO.out u (by rw [hu, if_neg hcc])
        have kd : (w4.setCell ⟨M, 0, none⟩ u).cell? ⟨D, 0, none⟩ = some (.slice none 0 0) := by rw [World.cell?_setCell_other _ _ _ _ (by intro e; injection e with e; exact hne e)]; exact d0
        have k0 : ((w4.setCell ⟨M, 0, none⟩ u).setCell ⟨D, 0, none⟩ u).cell? ⟨D, 0, none⟩ = some u := World.cell?_setCell_same _ _ _ kd
        have km : (w4.setCell ⟨M, 0, none⟩ u).cell? ⟨M, 0, none⟩ = some u := World.cell?_setCell_same _ _ _ m0
        have kf : (w4.setCell ⟨M, 0, none⟩ u).frozen? ⟨D, 0, none⟩ = false := by rw [World.frozen?_setCell]; exact df
        subst hu
        obtain ⟨Y, hY⟩ : ∃ Y, w4.setCell ⟨M, 0, none⟩ (.slice (some ⟨g, 3, none⟩) (nx - 1) (c - 1)) = Y := ⟨_, rfl⟩
        rw [hY] at kd k0 ho km kf
        obtain ⟨Z, hZ⟩ : ∃ Z, Y.setCell ⟨D, 0, none⟩ (.slice (some ⟨g, 3, none⟩) (nx - 1) (c - 1)) = Z := ⟨_, rfl⟩
        rw [hZ] at k0 ho
        go_wp2
        refine bodyPost_ret (v := .agg #[.slice (some ⟨g, 3, none⟩) (nx - 1) (c - 1)]) (by simp [results, Tryz.results18, go_sem, k0]) rfl ?_
        exact ho
    ·
      have hD4 : D + 1 ≤ w4.heap.size := by have := HS4.out.dm; have := lt_of_block HS4.out.m; omega
      have hb5 : Below w4.heap.size w4 (w4.alloc (.cells #[.int .i64 1, .int .i64 0, .int .i64 3, .int .i64 0, .string ⟨#[]⟩, .int .i64 8, .int .i64 0, .int .i64 0, .int .i64 0, .string ⟨#[]⟩] 56)) := (Below.refl _ _).alloc (Nat.le_refl _) _
      have ho5 := World.ownsRow_lit (base := D + 1) (e := 56) (size := 5) w4 #[.int .i64 1, .int .i64 0, .int .i64 3, .int .i64 0, .string ⟨#[]⟩, .int .i64 8, .int .i64 0, .int .i64 0, .int .i64 0, .string ⟨#[]⟩] 2 hD4 (by decide) rfl
      obtain ⟨V5, hV5⟩ : ∃ V, w4.alloc (.cells #[.int .i64 1, .int .i64 0, .int .i64 3, .int .i64 0, .string ⟨#[]⟩, .int .i64 8, .int .i64 0, .int .i64 0, .int .i64 0, .string ⟨#[]⟩] 56) = V := ⟨_, rfl⟩
      rw [hV5] at hb5 ho5
      obtain ⟨N5, hN5⟩ : ∃ N, w4.heap.size = N := ⟨_, rfl⟩
      rw [hN5] at ho5
      have HS5 : Hid (Dy14 w V5 B a len cap D M g c xs) := HS4.out.below hb5
      clear hb5 HS4 b0 b1 b2 bf
      obtain ⟨⟨b0, b1, b2⟩, bf⟩ := HS5.out.cell hql
      have f2 := bf (q * 3 + 2)
      obtain ⟨ys, hyl, s70⟩ := HS5.out.code hql [(1, 0, 3, 0, []), (8, 0, 0, 0, [])] (some ⟨N5, 0, none⟩) 2 ho5 (by decide) (fun i hi => by
        simp only [List.mem_cons, List.not_mem_nil, or_false] at hi
        rcases hi with rfl | rfl <;> (unfold SmI; decide))
      have s7 : Dy14 w (V5.setCell ⟨g, q * 3 + 2, none⟩ (.slice (some ⟨N5, 0, none⟩) 2 2)) B a len cap D M g c ys := s70
      obtain ⟨V7, hV7⟩ : ∃ V, V5.setCell ⟨g, q * 3 + 2, none⟩ (.slice (some ⟨N5, 0, none⟩) 2 2) = V := ⟨_, rfl⟩
      rw [hV7] at s7
      clear s70 HS5 bf ho5
      have HO : Hid (_) := s7.out
      obtain ⟨m0, _⟩ := s7.m0
      obtain ⟨d0, df⟩ := s7.d0
      have k0 : (V7.setCell ⟨D, 0, none⟩ (.slice (some ⟨g, 0, none⟩) ys.length c)).cell? ⟨D, 0, none⟩ = some (.slice (some ⟨g, 0, none⟩) ys.length c) := World.cell?_setCell_same _ _ _ d0
      obtain ⟨Y, hY⟩ : ∃ Y, V7.setCell ⟨D, 0, none⟩ (.slice (some ⟨g, 0, none⟩) ys.length c) = Y := ⟨_, rfl⟩
      rw [hY] at HO k0
      generalize ys.length = nz at HO k0 m0 hY
      clear s7
      go_wp2
      refine bodyPost_ret (v := .agg #[.slice (some ⟨g, 0, none⟩) nz c]) (by simp [results, Tryz.results18, go_sem, k0]) rfl ?_
      exact HO.out

end Go.Proofs.YtogobeegibngiaaGreatDoor
