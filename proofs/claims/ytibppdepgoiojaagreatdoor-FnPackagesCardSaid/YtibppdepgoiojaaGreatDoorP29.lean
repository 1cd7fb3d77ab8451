/-
  Parts of one proof, one behind the other: PackJ2.
-/
import Derived.Test.YtibppdepgoiojaaGreatDoorP28
import Derived.Test.YtibppdepgoiojaaGreatDoorP24
import Derived.Test.YtibppdepgoiojaaGreatDoorP26

/-! The contracts of chapter 7's landed code: a line is read (funcIn, withLine). -/
namespace Go.Proofs.YtibppdepgoiojaaGreatDoor
open Go.RowKit

set_option maxHeartbeats 2000000 in
set_option maxRecDepth 100000 in
theorem implFuncIn (s : List UInt8) (w : World) (hs : s.length ≤ 1048576) (ht : PowIs w) :
    Calls Tryz.prog 59 #[.string ⟨s.toArray⟩] w fun e w' => ∃ a c, e = .returned (.agg #[.string ⟨(loFn s).1.toArray⟩, .int .i64 (loFn s).2.1, .slice a (loFn s).2.2.length c]) ∧ w'.ownsRow w.heap.size 76 4 (.slice a (loFn s).2.2.length c) (loFn s).2.2.length (nodesV (loFn s).2.2) ∧ Below w.heap.size w w' := by
  have hl0 := cutA_len 32 s
  have hl1 := cutB_len 32 s
  have hl2 := cutA_len 32 (cutB 32 s)
  have hl3 := cutB_len 32 (cutB 32 s)
  obtain ⟨W, hW⟩ : ∃ W, w.alloc (.cells #[.string ⟨#[]⟩, .int .i64 0, .slice none 0 0] 37) = W := ⟨_, rfl⟩
  have hbW : Below w.heap.size w W := by rw [← hW]; exact (Below.refl _ _).alloc (Nat.le_refl _) _
  have hsW : W.heap.size = w.heap.size + 1 := by rw [← hW]; simp
  have hR : W.heap[w.heap.size]? = some (.cells #[.string ⟨#[]⟩, .int .i64 0, .slice none 0 0] 37) := by rw [← hW]; exact heap_alloc_new w _
  obtain ⟨D, hD⟩ : ∃ D, w.heap.size = D := ⟨_, rfl⟩
  rw [hD] at hbW hsW hR
  have HPW : Hid (∀ {X : World}, Below W.heap.size W X → PowIs X) := fun {X} hb => (ht.below (hbW.mono (by omega))).below hb
  have HC1 : Hid (_) := fun V : World => cutOne s 32 V hs
  have HC2 : Hid (_) := fun V : World => cutOne (cutB 32 s) 32 V (by omega)
  have HC3 : Hid (_) := fun V : World => implNumberOf (cutA 32 (cutB 32 s)) V (by omega)
  have HC4 : Hid (_) := fun (V : World) (h : PowIs V) => implReadTree (cutB 32 (cutB 32 s)) V (by omega) h
  have HF : Hid (loFn s = (cutA 32 s, numV (cutA 32 (cutB 32 s)), readTV (cutB 32 (cutB 32 s)))) := rfl
  generalize loFn s = F at HF ⊢
  generalize cutA 32 s = y0 at HC1 HF hl0
  generalize cutB 32 s = z0 at HC1 HC2 HC3 HC4 HF hl1 hl2 hl3
  generalize cutA 32 z0 = y1 at HC2 HC3 HF hl2
  generalize cutB 32 z0 = z1 at HC2 HC4 HF hl3
  generalize numV y1 = n at HC3 HF
  generalize readTV z1 = t at HC4 HF
  generalize readOk z1 = ok at HC4
  generalize numB y1 = nb at HC3
  obtain rfl := HF.out
  simp only
  clear hl0 hl1 hl2 hl3 ht HF
  go_enter Tryz.func59, Tryz.ntmps59
  go_wp2_with fail
  refine Calls.mono (HC1.out _) ?_
  rintro e w1 ⟨g1, rfl, hb1⟩
  have hB1 : Below W.heap.size W w1 := hb1
  clear hb1
  go_wp2_with fail
  refine Calls.mono (HC2.out _) ?_
  rintro e w2 ⟨g2, rfl, hb2⟩
  have hB2 := hB1.trans (hb2.mono hB1.size)
  clear hb2 hB1
  go_wp2_with fail
  refine Calls.mono (HC3.out _) ?_
  rintro e w3 ⟨rfl, hb3⟩
  have hB3 := hB2.trans (hb3.mono hB2.size)
  clear hb3 hB2
  go_wp2_with fail
  refine Calls.mono (HC4.out _ (HPW.out hB3)) ?_
  rintro e w4 ⟨v, rfl, hown, hb4⟩
  have hB4 := hB3.trans (hb4.mono hB3.size)
  obtain ⟨_, av, cv, rfl, _⟩ := own_nodes hown
  have HOwn : Hid (w4.ownsRow (D + 1) 76 4 (.slice av t.length cv) t.length (nodesV t)) := own_base hown (by have := hB3.size; omega)
  obtain ⟨r0, r1, r2, fr⟩ := three hB4 (by omega) hR
  have f0 := fr 0
  have f1 := fr 1
  have f2 := fr 2
  have HBd : Hid (Below D w w4) := hbW.trans (hB4.mono (by omega))
  have hsd : D + 1 ≤ w4.heap.size := by have := hB4.size; omega
  clear hown hb4 hB3 hB4 fr hR
  go_wp2
  obtain ⟨Y, hY, y0', y1', y2', hg⟩ := set3 (.string ⟨y0.toArray⟩) (.int .i64 n) (.slice av t.length cv) r0 r1 r2
  rw [hY]
  refine bodyPost_ret (v := .agg #[.string ⟨y0.toArray⟩, .int .i64 n, .slice av t.length cv]) (by simp [results, Tryz.results59, go_sem, y0', y1', y2']) rfl ?_
  exact ⟨_, _, rfl, by rw [hD]; exact own_base (HOwn.out.kept hg (own_off HOwn.out (by omega))) (by omega), by rw [hD]; exact (HBd.out).grown hg (by omega) (fun k e => by injection e with e; omega)⟩

/-- What withLine holds: the package (at P), the answer's zero cells (at R), and the rows of the package, all from B on. -/
structure WlS (X w : World) (B P R : Nat) (nm : List UInt8) (ia : Option Addr) (ic : Nat) (ims : List (List UInt8)) (fa : Option Addr) (fc : Nat) (xs : List FV) : Prop where
  p : X.ownsRow B 27 3 (.slice (some ⟨P, 0, none⟩) 1 1) 1 [.string ⟨nm.toArray⟩, .slice ia ims.length ic, .slice fa xs.length fc]
  r : X.ownsRow B 27 3 (.slice (some ⟨R, 0, none⟩) 1 1) 1 [.string ⟨#[]⟩, .slice none 0 0, .slice none 0 0]
  im : X.ownsRow B 9 1 (.slice ia ims.length ic) ims.length (strV ims)
  fo : FnsOwn X B (.slice fa xs.length fc) xs
  ap : Apart (xs.map fvT)
  pr : P ≠ R
  h : Below B w X
  hs : B ≤ X.heap.size

section
variable {X Y w : World} {B P R : Nat} {nm : List UInt8} {ia : Option Addr} {ic : Nat} {ims : List (List UInt8)} {fa : Option Addr} {fc : Nat} {xs : List FV}

theorem WlS.below (h : WlS X w B P R nm ia ic ims fa fc xs) (hb : Below X.heap.size X Y) : WlS Y w B P R nm ia ic ims fa fc xs :=
  ⟨own_below h.p hb, own_below h.r hb, own_below h.im hb, h.fo.below hb, h.ap, h.pr, h.h.trans (hb.mono h.hs), Nat.le_trans h.hs hb.size⟩
theorem WlS.alloc (h : WlS X w B P R nm ia ic ims fa fc xs) (o : Obj) : WlS (X.alloc o) w B P R nm ia ic ims fa fc xs := h.below ((Below.refl _ _).alloc (Nat.le_refl _) _)
theorem WlS.drew (h : WlS X w B P R nm ia ic ims fa fc xs) : WlS X.drew w B P R nm ia ic ims fa fc xs := h.below ((Below.refl _ _).grown (grown_drew X none) (Nat.le_refl _) (fun k e => by cases e))
theorem WlS.cells (h : WlS X w B P R nm ia ic ims fa fc xs) : (Box3 X P (.string ⟨nm.toArray⟩) (.slice ia ims.length ic) (.slice fa xs.length fc) ∧ ∀ j, X.frozen? ⟨P, j, none⟩ = false) ∧ (Box3 X R (.string ⟨#[]⟩) (.slice none 0 0) (.slice none 0 0) ∧ ∀ j, X.frozen? ⟨R, j, none⟩ = false) :=
  ⟨⟨⟨h.p.cells rfl 0 _ rfl, h.p.cells rfl 1 _ rfl, h.p.cells rfl 2 _ rfl⟩, fun j => h.p.frozenAt j⟩, ⟨⟨h.r.cells rfl 0 _ rfl, h.r.cells rfl 1 _ rfl, h.r.cells rfl 2 _ rfl⟩, fun j => h.r.frozenAt j⟩⟩
theorem WlS.step (h : WlS X w B P R nm ia ic ims fa fc xs) {row : Option Nat} (hg : X.grownBy Y row) (hr : ∀ k, row = some k → B ≤ k) {nm' : List UInt8} {ia' : Option Addr} {ic' : Nat} {ims' : List (List UInt8)} {fa' : Option Addr} {fc' : Nat} {xs' : List FV}
    (hp : Y.ownsRow B 27 3 (.slice (some ⟨P, 0, none⟩) 1 1) 1 [.string ⟨nm'.toArray⟩, .slice ia' ims'.length ic', .slice fa' xs'.length fc']) (hrr : Y.ownsRow B 27 3 (.slice (some ⟨R, 0, none⟩) 1 1) 1 [.string ⟨#[]⟩, .slice none 0 0, .slice none 0 0])
    (hi : Y.ownsRow B 9 1 (.slice ia' ims'.length ic') ims'.length (strV ims')) (hf : FnsOwn Y B (.slice fa' xs'.length fc') xs') (ha : Apart (xs'.map fvT)) : WlS Y w B P R nm' ia' ic' ims' fa' fc' xs' :=
  ⟨hp, hrr, hi, hf, ha, h.pr, h.h.grown hg h.hs hr, Nat.le_trans h.hs hg.size⟩
theorem WlS.rOff (h : WlS X w B P R nm ia ic ims fa fc xs) : (Value.slice (some ⟨R, 0, none⟩) 1 1).ownBlock = none ∨ (Value.slice (some ⟨R, 0, none⟩) 1 1).ownBlock ≠ some P := Or.inr (fun e => by simp [Value.ownBlock] at e; exact h.pr e.symm)
theorem WlS.pB (h : WlS X w B P R nm ia ic ims fa fc xs) : ∀ k, some P = some k → B ≤ k := fun k e => by injection e with e; have := (h.p.lt P rfl).1; omega

/-- The package's name is written. -/
theorem WlS.name (h : WlS X w B P R nm ia ic ims fa fc xs) (x : List UInt8) : WlS (X.setCell ⟨P, 0, none⟩ (.string ⟨x.toArray⟩)) w B P R x ia ic ims fa fc xs := by
  obtain ⟨hp, hg⟩ := h.p.stored 0 (.string ⟨x.toArray⟩)
  exact h.step hg h.pB hp (h.r.kept hg h.rOff) (h.im.kept hg (own_types h.im h.p (by decide))) (h.fo.kept hg (own_types h.fo.row h.p (by decide)) (fun z hz => own_types (h.fo.trees z hz) h.p (by decide))) h.ap
theorem WlS.imps (h : WlS X w B P R nm ia ic ims fa fc xs) {ia' : Option Addr} {ic' : Nat} {ims' : List (List UInt8)} (hi : Y.ownsRow B 9 1 (.slice ia' ims'.length ic') ims'.length (strV ims')) (hg : X.grownBy Y (Value.slice ia ims.length ic).ownBlock) :
    (Box3 Y P (.string ⟨nm.toArray⟩) (.slice ia ims.length ic) (.slice fa xs.length fc) ∧ ∀ j, Y.frozen? ⟨P, j, none⟩ = false) ∧ WlS (Y.setCell ⟨P, 1, none⟩ (.slice ia' ims'.length ic')) w B P R nm ia' ic' ims' fa fc xs := by
  have hp := h.p.kept hg (own_types h.p h.im (by decide))
  have hr := h.r.kept hg (own_types h.r h.im (by decide))
  have hf := h.fo.kept hg (own_types h.fo.row h.im (by decide)) (fun z hz => own_types (h.fo.trees z hz) h.im (by decide))
  obtain ⟨hp2, hg2⟩ := hp.stored 1 (.slice ia' ims'.length ic')
  refine ⟨⟨⟨hp.cells rfl 0 _ rfl, hp.cells rfl 1 _ rfl, hp.cells rfl 2 _ rfl⟩, fun j => hp.frozenAt j⟩, ?_⟩
  exact ⟨hp2, hr.kept hg2 h.rOff, hi.kept hg2 (own_types hi hp (by decide)), hf.kept hg2 (own_types hf.row hp (by decide)) (fun z hz => own_types (hf.trees z hz) hp (by decide)), h.ap, h.pr, (h.h.grown hg h.hs (fun k e => (h.im.lt k e).1)).grown hg2 (Nat.le_trans h.hs hg.size) h.pB, Nat.le_trans h.hs (Nat.le_trans hg.size hg2.size)⟩
theorem WlS.fns (h : WlS X w B P R nm ia ic ims fa fc xs) {fa' : Option Addr} {fc' : Nat} {xs' : List FV} (hf : FnsOwn Y B (.slice fa' xs'.length fc') xs') (ha : Apart (xs'.map fvT)) (hg : X.grownBy Y (Value.slice fa xs.length fc).ownBlock) :
    (Box3 Y P (.string ⟨nm.toArray⟩) (.slice ia ims.length ic) (.slice fa xs.length fc) ∧ ∀ j, Y.frozen? ⟨P, j, none⟩ = false) ∧ WlS (Y.setCell ⟨P, 2, none⟩ (.slice fa' xs'.length fc')) w B P R nm ia ic ims fa' fc' xs' := by
  have hp := h.p.kept hg (own_types h.p h.fo.row (by decide))
  have hr := h.r.kept hg (own_types h.r h.fo.row (by decide))
  have hi := h.im.kept hg (own_types h.im h.fo.row (by decide))
  obtain ⟨hp2, hg2⟩ := hp.stored 2 (.slice fa' xs'.length fc')
  refine ⟨⟨⟨hp.cells rfl 0 _ rfl, hp.cells rfl 1 _ rfl, hp.cells rfl 2 _ rfl⟩, fun j => hp.frozenAt j⟩, ?_⟩
  exact ⟨hp2, hr.kept hg2 h.rOff, hi.kept hg2 (own_types hi hp (by decide)), hf.kept hg2 (own_types hf.row hp (by decide)) (fun z hz => own_types (hf.trees z hz) hp (by decide)), ha, h.pr, (h.h.grown hg h.hs (fun k e => (h.fo.row.lt k e).1)).grown hg2 (Nat.le_trans h.hs hg.size) h.pB, Nat.le_trans h.hs (Nat.le_trans hg.size hg2.size)⟩

/-- An import is put behind the others. -/
theorem WlS.import (h : WlS X w B P R nm ia ic ims fa fc xs) (x : List UInt8) (hn : ims.length ≤ 1048576) :
    ∃ g' c' Y, (Builtin.append_ #[24, 24] 24 #[.slice ia ims.length ic, .slice (some ⟨X.heap.size, 0, none⟩) 1 1]).run Tryz.prog (X.alloc (.cells #[.string ⟨x.toArray⟩] 9)) = .ok (.slice (some ⟨g', 0, none⟩) (ims.length + 1) c') Y ∧
      (Box3 Y P (.string ⟨nm.toArray⟩) (.slice ia ims.length ic) (.slice fa xs.length fc) ∧ ∀ j, Y.frozen? ⟨P, j, none⟩ = false) ∧ WlS (Y.setCell ⟨P, 1, none⟩ (.slice (some ⟨g', 0, none⟩) (ims.length + 1) c')) w B P R nm (some ⟨g', 0, none⟩) c' (ims ++ [x]) fa fc xs := by
  obtain ⟨i0, hi, hz0, hz1, hz2⟩ := info_parts info9
  have h1 := h.alloc (.cells #[.string ⟨x.toArray⟩] 9)
  obtain ⟨v', Y, hrun, hown, hg, _⟩ := run_append_src (P := Tryz.prog) (X.alloc (.cells #[.string ⟨x.toArray⟩] 9)) B 24 24 9 i0 _ 1 16 Tryz.underlying24 hi hz0 hz1 hz2 rfl (by decide) _ _ _ h1.im _ 1 (strV [x]) (new_str X x 1) (by unfold maxLen; omega) (by omega) h1.hs
  obtain ⟨g', c', rfl⟩ := own_some hown (by omega)
  have e1 : (ims ++ [x]).length = ims.length + 1 := by simp
  have hown2 : Y.ownsRow B 9 1 (.slice (some ⟨g', 0, none⟩) (ims ++ [x]).length c') (ims ++ [x]).length (strV (ims ++ [x])) := by
    have e2 : strV (ims ++ [x]) = strV ims ++ strV [x] := by simp [strV]
    rw [e1, e2]; exact hown
  have hz := h1.imps hown2 hg
  rw [e1] at hz
  exact ⟨g', c', Y, hrun, hz.1, hz.2⟩

/-- A function is put behind the others. -/
theorem WlS.func (h : WlS X w B P R nm ia ic ims fa fc xs) (y : FV) (hy : X.ownsRow B 76 4 (fvT y) y.1.2.2.length (nodesV y.1.2.2)) (ha : ∀ z ∈ xs, (fvT z).ownBlock = none ∨ (fvT z).ownBlock ≠ (fvT y).ownBlock) (hn : xs.length ≤ 1048576) :
    ∃ g' c' Y, (Builtin.append_ #[25, 25] 25 #[.slice fa xs.length fc, .slice (some ⟨X.heap.size, 0, none⟩) 1 1]).run Tryz.prog (X.alloc (.cells #[.string ⟨y.1.1.toArray⟩, .int .i64 y.1.2.1, fvT y] 37)) = .ok (.slice (some ⟨g', 0, none⟩) (xs.length + 1) c') Y ∧
      (Box3 Y P (.string ⟨nm.toArray⟩) (.slice ia ims.length ic) (.slice fa xs.length fc) ∧ ∀ j, Y.frozen? ⟨P, j, none⟩ = false) ∧ WlS (Y.setCell ⟨P, 2, none⟩ (.slice (some ⟨g', 0, none⟩) (xs.length + 1) c')) w B P R nm ia ic ims (some ⟨g', 0, none⟩) c' (xs ++ [y]) := by
  obtain ⟨i0, hi, hz0, hz1, hz2⟩ := info_parts infoFunc
  have hX1 : Below X.heap.size X (X.alloc (.cells #[.string ⟨y.1.1.toArray⟩, .int .i64 y.1.2.1, fvT y] 37)) := (Below.refl _ _).alloc (Nat.le_refl _) _
  have h1 := h.below hX1
  have hy1 := own_below hy hX1
  obtain ⟨v', Y, hrun, hown, hg, _⟩ := run_append_src (P := Tryz.prog) (X.alloc (.cells #[.string ⟨y.1.1.toArray⟩, .int .i64 y.1.2.1, fvT y] 37)) B 25 25 37 i0 _ 3 48 Tryz.underlying25 hi hz0 hz1 hz2 rfl (by decide) _ _ _ h1.fo.row _ 1 (fnsV [y]) (new_fn X y 1) (by unfold maxLen; omega) (by omega) h1.hs
  obtain ⟨g', c', rfl⟩ := own_some hown (by omega)
  have e1 : (xs ++ [y]).length = xs.length + 1 := by simp
  have hown2 : Y.ownsRow B 37 3 (.slice (some ⟨g', 0, none⟩) (xs ++ [y]).length c') (xs ++ [y]).length (fnsV (xs ++ [y])) := by
    rw [e1, fnsV_append]; exact hown
  have htr : ∀ z ∈ xs ++ [y], Y.ownsRow B 76 4 (fvT z) z.1.2.2.length (nodesV z.1.2.2) := fun z hz => by
    rw [List.mem_append, List.mem_singleton] at hz
    rcases hz with hz | rfl
    · exact (h1.fo.trees z hz).kept hg (own_types (h1.fo.trees z hz) h1.fo.row (by decide))
    · exact hy1.kept hg (own_types hy1 h1.fo.row (by decide))
  have hap : Apart ((xs ++ [y]).map fvT) := by
    rw [List.map_append]
    exact h.ap.snoc (fun v hv => by
      rw [List.mem_map] at hv
      obtain ⟨z, hz, rfl⟩ := hv
      exact ha z hz)
  have hz := h1.fns (⟨hown2, htr⟩ : FnsOwn Y B _ (xs ++ [y])) hap hg
  rw [e1] at hz
  exact ⟨g', c', Y, hrun, hz.1, hz.2⟩
end

/-- What a line made of a package. -/
def WlOut (B : Nat) (w w' : World) (e : Ending) (q : Pk) : Prop :=
  ∃ (nm : List UInt8) (ims : List (List UInt8)) (xs : List FV) (ia : Option Addr) (ic : Nat) (fa : Option Addr) (fc : Nat), e = .returned (.agg #[.string ⟨nm.toArray⟩, .slice ia ims.length ic, .slice fa xs.length fc]) ∧ (nm, ims, xs.map (·.1)) = q ∧
    w'.ownsRow B 9 1 (.slice ia ims.length ic) ims.length (strV ims) ∧ FnsOwn w' B (.slice fa xs.length fc) xs ∧ Apart (xs.map fvT) ∧ Below B w w'

theorem WlS.out {X Y w : World} {B P R : Nat} {nm : List UInt8} {ia : Option Addr} {ic : Nat} {ims : List (List UInt8)} {fa : Option Addr} {fc : Nat} {xs : List FV} (h : WlS X w B P R nm ia ic ims fa fc xs) (hg : X.grownBy Y (some R)) {q : Pk} (hq : (nm, ims, xs.map (·.1)) = q) :
    WlOut B w Y (.returned (.agg #[.string ⟨nm.toArray⟩, .slice ia ims.length ic, .slice fa xs.length fc])) q :=
  ⟨nm, ims, xs, ia, ic, fa, fc, rfl, hq, h.im.kept hg (own_types h.im h.r (by decide)), h.fo.kept hg (own_types h.fo.row h.r (by decide)) (fun z hz => own_types (h.fo.trees z hz) h.r (by decide)), h.ap, h.h.grown hg h.hs (fun k e => by injection e with e; have := (h.r.lt R rfl).1; omega)⟩

set_option maxHeartbeats 4000000 in
set_option maxRecDepth 100000 in
theorem implWithLine (B : Nat) (nm x : List UInt8) (ia : Option Addr) (ic : Nat) (ims : List (List UInt8)) (fa : Option Addr) (fc : Nat) (xs : List FV) (w : World) (hB : B ≤ w.heap.size) (hi : w.ownsRow B 9 1 (.slice ia ims.length ic) ims.length (strV ims)) (hf : FnsOwn w B (.slice fa xs.length fc) xs) (ha : Apart (xs.map fvT))
    (ht : PowIs w) (hx : x.length ≤ 1048576) (hni : ims.length ≤ 1048576) (hnf : xs.length ≤ 1048576) :
    Calls Tryz.prog 28 #[.agg #[.string ⟨nm.toArray⟩, .slice ia ims.length ic, .slice fa xs.length fc], .string ⟨x.toArray⟩] w fun e w' => WlOut B w w' e (loLn (nm, ims, xs.map (·.1)) x) := by
  have hl1 := cutB_len 32 x
  have hp := World.ownsRow_lit (base := B) (e := 27) (size := 3) w #[.string ⟨nm.toArray⟩, .slice ia ims.length ic, .slice fa xs.length fc] 1 hB (by decide) rfl
  obtain ⟨W1, hW1⟩ : ∃ W, w.alloc (.cells #[.string ⟨nm.toArray⟩, .slice ia ims.length ic, .slice fa xs.length fc] 27) = W := ⟨_, rfl⟩
  rw [hW1] at hp
  have hs1 : W1.heap.size = w.heap.size + 1 := by rw [← hW1]; simp
  have hb1 : Below w.heap.size w W1 := by rw [← hW1]; exact (Below.refl _ _).alloc (Nat.le_refl _) _
  have hr := World.ownsRow_lit (base := B) (e := 27) (size := 3) W1 #[.string ⟨#[]⟩, .slice none 0 0, .slice none 0 0] 1 (by omega) (by decide) rfl
  obtain ⟨W, hW⟩ : ∃ W, W1.alloc (.cells #[.string ⟨#[]⟩, .slice none 0 0, .slice none 0 0] 27) = W := ⟨_, rfl⟩
  rw [hW] at hr
  have hs2 : W.heap.size = w.heap.size + 2 := by rw [← hW]; simp [hs1]
  have hb2 : Below W1.heap.size W1 W := by rw [← hW]; exact (Below.refl _ _).alloc (Nat.le_refl _) _
  have hbW : Below w.heap.size w W := hb1.trans (hb2.mono hb1.size)
  rw [hs1] at hr
  obtain ⟨P, hP⟩ : ∃ P, w.heap.size = P := ⟨_, rfl⟩
  rw [hP] at hp hr hs1 hs2
  have st : WlS W w B P (P + 1) nm ia ic ims fa fc xs := ⟨own_below hp hb2, hr, own_below hi hbW, hf.below hbW, ha, by omega, hbW.mono hB, by omega⟩
  have HPW : Hid (PowIs W) := ht.below hbW
  have HC1 : Hid (_) := fun V : World => cutOne x 32 V hx
  have HQ : Hid (loLn (nm, ims, xs.map (·.1)) x = if cutA 32 x = kwPackage then (cutB 32 x, ims, xs.map (·.1)) else if cutA 32 x = kwImport then (nm, ims ++ [cutB 32 x], xs.map (·.1)) else if cutA 32 x = kwFunc then (nm, ims, xs.map (·.1) ++ [loFn (cutB 32 x)]) else (nm, ims, xs.map (·.1))) := rfl
  generalize loLn (nm, ims, xs.map (·.1)) x = q at HQ ⊢
  generalize cutA 32 x = y at HC1 HQ
  generalize cutB 32 x = z at HC1 HQ hl1
  clear hp hr hb1 hb2 hi hf ha ht hbW
  go_enter Tryz.func28, Tryz.ntmps28
  go_wp2_with fail
  refine Calls.mono (HC1.out _) ?_
  rintro e w1 ⟨g1, rfl, hbn⟩
  have HP1 : Hid (PowIs w1) := HPW.out.below hbn
  replace st := st.below hbn
  clear hbn HPW HC1
  have c0 := st.cells.1.1.c0
  have c1 := st.cells.1.1.c1
  have c2 := st.cells.1.1.c2
  have pf := st.cells.1.2
  have pf0 := pf 0
  have pf1 := pf 1
  have pf2 := pf 2
  by_cases hA : y = [112, 97, 99, 107, 97, 103, 101]
  · subst hA
    have dA : (([112, 97, 99, 107, 97, 103, 101] : List UInt8) == [112, 97, 99, 107, 97, 103, 101]) = true := by decide
    have hq := HQ.out
    rw [if_pos (show [112, 97, 99, 107, 97, 103, 101] = kwPackage from rfl)] at hq
    have st2 := st.name z
    obtain ⟨X, hX⟩ : ∃ X, w1.setCell ⟨P, 0, none⟩ (.string ⟨z.toArray⟩) = X := ⟨_, rfl⟩
    rw [hX] at st2
    have d0 := st2.cells.1.1.c0
    have d1 := st2.cells.1.1.c1
    have d2 := st2.cells.1.1.c2
    have r0 := st2.cells.2.1.c0
    have r1 := st2.cells.2.1.c1
    have r2 := st2.cells.2.1.c2
    have fr := st2.cells.2.2
    have f0 := fr 0
    have f1 := fr 1
    have f2 := fr 2
    have HST : Hid (WlS X w B P (P + 1) z ia ic ims fa fc xs) := st2
    have HQE : Hid ((z, ims, xs.map (·.1)) = q) := hq.symm
    clear st st2 hq HQ fr pf
    go_wp2
    obtain ⟨Z, hZ, z0, z1, z2, hgZ⟩ := set3 (.string ⟨z.toArray⟩) (.slice ia ims.length ic) (.slice fa xs.length fc) r0 r1 r2
    rw [hZ]
    refine bodyPost_ret (v := .agg #[.string ⟨z.toArray⟩, .slice ia ims.length ic, .slice fa xs.length fc]) (by simp [results, Tryz.results28, go_sem, z0, z1, z2]) rfl ?_
    exact HST.out.out hgZ HQE.out
  have dA : (y == [112, 97, 99, 107, 97, 103, 101]) = false := beq_eq_false_iff_ne.2 hA
  by_cases hI : y = [105, 109, 112, 111, 114, 116]
  · subst hI
    have dI : (([105, 109, 112, 111, 114, 116] : List UInt8) == [105, 109, 112, 111, 114, 116]) = true := by decide
    have hq := HQ.out
    rw [if_neg (by decide), if_pos (show [105, 109, 112, 111, 114, 116] = kwImport from rfl)] at hq
    obtain ⟨g', c', Y, hrun, ⟨bY, yf⟩, st2⟩ := st.import z hni
    obtain ⟨X, hX⟩ : ∃ X, Y.setCell ⟨P, 1, none⟩ (.slice (some ⟨g', 0, none⟩) (ims.length + 1) c') = X := ⟨_, rfl⟩
    rw [hX] at st2
    have e1 : (ims ++ [z]).length = ims.length + 1 := by simp
    have y1 := bY.c1
    have yf1 := yf 1
    have d0 := st2.cells.1.1.c0
    have d1 := st2.cells.1.1.c1
    have d2 := st2.cells.1.1.c2
    rw [e1] at d1
    have r0 := st2.cells.2.1.c0
    have r1 := st2.cells.2.1.c1
    have r2 := st2.cells.2.1.c2
    have fr := st2.cells.2.2
    have f0 := fr 0
    have f1 := fr 1
    have f2 := fr 2
    have HST : Hid (WlS X w B P (P + 1) nm (some ⟨g', 0, none⟩) c' (ims ++ [z]) fa fc xs) := st2
    have HQE : Hid ((nm, ims ++ [z], xs.map (·.1)) = q) := hq.symm
    have HE1 : Hid ((ims ++ [z]).length = ims.length + 1) := e1
    clear st st2 hq HQ fr pf bY yf e1
    go_wp2_with (at_builtin; refine wpList_append_run rfl (.tmp 22) (.tmp 24) 24 rfl _ _ _ rfl rfl hrun ?_; clear hrun)
    obtain ⟨Z, hZ, z0, z1, z2, hgZ⟩ := set3 (.string ⟨nm.toArray⟩) (.slice (some ⟨g', 0, none⟩) (ims.length + 1) c') (.slice fa xs.length fc) r0 r1 r2
    rw [hZ]
    refine bodyPost_ret (v := .agg #[.string ⟨nm.toArray⟩, .slice (some ⟨g', 0, none⟩) (ims.length + 1) c', .slice fa xs.length fc]) (by simp [results, Tryz.results28, go_sem, z0, z1, z2]) rfl ?_
    have hout := HST.out.out hgZ HQE.out
    rw [HE1.out] at hout
    exact hout
  have dI : (y == [105, 109, 112, 111, 114, 116]) = false := beq_eq_false_iff_ne.2 hI
  by_cases hF : y = [102, 117, 110, 99]
  · subst hF
    have dF : (([102, 117, 110, 99] : List UInt8) == [102, 117, 110, 99]) = true := by decide
    have hq := HQ.out
    rw [if_neg (by decide), if_neg (by decide), if_pos (show [102, 117, 110, 99] = kwFunc from rfl)] at hq
    have HFI : Hid (_) := fun (V : World) (h : PowIs V) => implFuncIn z V (by omega) h
    obtain ⟨F, hFe⟩ : ∃ F, loFn z = F := ⟨_, rfl⟩
    rw [hFe] at HFI hq
    obtain ⟨s, n, t⟩ := F
    simp only at HFI
    have HQE : Hid (q = (nm, ims, xs.map (·.1) ++ [(s, n, t)])) := hq
    clear hFe hq HQ pf
    go_upto_region 8 with fail
    replace st := st.drew
    go_region_law (first | (refine step_append_run (by rfl) (.tmp 30) (.tmp 33) 25 (by rfl) _ _ _ (by rfl) (by rfl) hrun ?_) | (go_simp; go_at_call 59; refine Calls.mono (HFI.out _ HP1.out.drew) ?_; rintro e w2 ⟨av, cv, rfl, hown, hbn⟩; have hne : ∀ v ∈ xs, (fvT v).ownBlock = none ∨ (fvT v).ownBlock ≠ (fvT ((s, n, t), av, cv)).ownBlock := (fun v hv => own_ahead (st.fo.trees v hv) hown (Nat.le_refl _)); have hy := own_base hown st.hs; replace st := st.below hbn; have c2n := st.cells.1.1.c2; have c2a := (st.alloc (.cells #[.string ⟨s.toArray⟩, .int .i64 n, .slice av t.length cv] 37)).cells.1.1.c2; obtain ⟨g', c', Y, hrun, ⟨bY, yf⟩, st2⟩ := st.func ((s, n, t), av, cv) hy hne hnf; have y2 := bY.c2; have yf2 := yf 2; simp only [fvT] at hrun; dsimp only))
    all_goals
      obtain ⟨X, hX⟩ : ∃ X, Y.setCell ⟨P, 2, none⟩ (.slice (some ⟨g', 0, none⟩) (xs.length + 1) c') = X := ⟨_, rfl⟩
      rw [hX] at st2
      have e1 : (xs ++ [((s, n, t), av, cv)]).length = xs.length + 1 := by simp
      have d0 := st2.cells.1.1.c0
      have d1 := st2.cells.1.1.c1
      have d2 := st2.cells.1.1.c2
      rw [e1] at d2
      have r0 := st2.cells.2.1.c0
      have r1 := st2.cells.2.1.c1
      have r2 := st2.cells.2.1.c2
      have fr := st2.cells.2.2
      have f0 := fr 0
      have f1 := fr 1
      have f2 := fr 2
      have HST : Hid (WlS X w B P (P + 1) nm ia ic ims (some ⟨g', 0, none⟩) c' (xs ++ [((s, n, t), av, cv)])) := st2
      have HQ2 : Hid ((nm, ims, (xs ++ [((s, n, t), av, cv)]).map (·.1)) = q) := by
        exact (by rw [HQE.out, List.map_append]; rfl : (nm, ims, (xs ++ [((s, n, t), av, cv)]).map (·.1)) = q)
      have HE1 : Hid ((xs ++ [((s, n, t), av, cv)]).length = xs.length + 1) := e1
      clear st st2 fr bY yf e1 hown hbn hne hy hrun c2n c2a
      go_wp2
      obtain ⟨Z, hZ, z0, z1, z2, hgZ⟩ := set3 (.string ⟨nm.toArray⟩) (.slice ia ims.length ic) (.slice (some ⟨g', 0, none⟩) (xs.length + 1) c') r0 r1 r2
      rw [hZ]
      refine bodyPost_ret (v := .agg #[.string ⟨nm.toArray⟩, .slice ia ims.length ic, .slice (some ⟨g', 0, none⟩) (xs.length + 1) c']) (by simp [results, Tryz.results28, go_sem, z0, z1, z2]) rfl ?_
      have hout := HST.out.out hgZ HQ2.out
      rw [HE1.out] at hout
      exact hout
  have dF : (y == [102, 117, 110, 99]) = false := beq_eq_false_iff_ne.2 hF
  have hq := HQ.out
  rw [if_neg (show ¬ y = kwPackage from hA), if_neg (show ¬ y = kwImport from hI), if_neg (show ¬ y = kwFunc from hF)] at hq
  have r0 := st.cells.2.1.c0
  have r1 := st.cells.2.1.c1
  have r2 := st.cells.2.1.c2
  have fr := st.cells.2.2
  have f0 := fr 0
  have f1 := fr 1
  have f2 := fr 2
  have HST : Hid (WlS w1 w B P (P + 1) nm ia ic ims fa fc xs) := st
  have HQE : Hid ((nm, ims, xs.map (·.1)) = q) := hq.symm
  clear st hq HQ fr pf
  go_wp2
  obtain ⟨Z, hZ, z0, z1, z2, hgZ⟩ := set3 (.string ⟨nm.toArray⟩) (.slice ia ims.length ic) (.slice fa xs.length fc) r0 r1 r2
  rw [hZ]
  refine bodyPost_ret (v := .agg #[.string ⟨nm.toArray⟩, .slice ia ims.length ic, .slice fa xs.length fc]) (by simp [results, Tryz.results28, go_sem, z0, z1, z2]) rfl ?_
  exact HST.out.out hgZ HQE.out

end Go.Proofs.YtibppdepgoiojaaGreatDoor
