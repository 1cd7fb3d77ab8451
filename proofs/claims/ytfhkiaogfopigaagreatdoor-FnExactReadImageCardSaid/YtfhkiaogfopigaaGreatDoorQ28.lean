/-
  Parts of one proof, one behind the other: ObJ2, ImpI, HasI.
-/
import Derived.Test.YtfhkiaogfopigaaGreatDoorQ27
import Derived.Test.YtfhkiaogfopigaaGreatDoorQ10
import Derived.Test.YtfhkiaogfopigaaGreatDoorQ11
import Derived.Test.YtfhkiaogfopigaaGreatDoorQ22
import Derived.Test.YtfhkiaogfopigaaGreatDoorQ2
import Derived.Test.YtfhkiaogfopigaaGreatDoorQ21

/-! Contracts of chapter 15's landed code: a line is taken into an object (withObjectLine). -/
namespace Go.Proofs.YtfhkiaogfopigaaGreatDoor
open Go.RowKit

theorem new_strO (w : World) (x : List UInt8) (c : Nat) : Src (w.alloc (.cells #[.string ⟨x.toArray⟩] 9)) (.slice (some ⟨w.heap.size, 0, none⟩) 1 c) 1 1 (strV [x]) := by
  refine ⟨rfl, fun u hu => ?_, Or.inr ⟨_, c, rfl, fun j u hu => ?_⟩⟩
  · simp [strV] at hu; subst hu; rfl
  rw [add_plainR, Nat.zero_add]
  match j, hu with
  | 0, hu => simp [strV] at hu; subst hu; simp
  | j + 1, hu => simp [strV] at hu
/-- What withLine holds: the package (at P), the answer's zero cells (at R), and the rows of the package, all from B on. -/
structure WlO (X w : World) (B P R : Nat) (nm : List UInt8) (ia : Option Addr) (ic : Nat) (ims : List (List UInt8)) (fa : Option Addr) (fc : Nat) (xs : List RV) : Prop where
  p : X.ownsRow B 43 3 (.slice (some ⟨P, 0, none⟩) 1 1) 1 [.string ⟨nm.toArray⟩, .slice ia ims.length ic, .slice fa xs.length fc]
  r : X.ownsRow B 43 3 (.slice (some ⟨R, 0, none⟩) 1 1) 1 [.string ⟨#[]⟩, .slice none 0 0, .slice none 0 0]
  im : X.ownsRow B 9 1 (.slice ia ims.length ic) ims.length (strV ims)
  fo : RtsOwn X B (.slice fa xs.length fc) xs
  ap : ApartR (xs.map rvT)
  pr : P ≠ R
  h : Below B w X
  hs : B ≤ X.heap.size

section
variable {X Y w : World} {B P R : Nat} {nm : List UInt8} {ia : Option Addr} {ic : Nat} {ims : List (List UInt8)} {fa : Option Addr} {fc : Nat} {xs : List RV}

theorem WlO.below (h : WlO X w B P R nm ia ic ims fa fc xs) (hb : Below X.heap.size X Y) : WlO Y w B P R nm ia ic ims fa fc xs :=
  ⟨own_below h.p hb, own_below h.r hb, own_below h.im hb, h.fo.below hb, h.ap, h.pr, h.h.trans (hb.mono h.hs), Nat.le_trans h.hs hb.size⟩
theorem WlO.alloc (h : WlO X w B P R nm ia ic ims fa fc xs) (o : Obj) : WlO (X.alloc o) w B P R nm ia ic ims fa fc xs := h.below ((Below.refl _ _).alloc (Nat.le_refl _) _)
theorem WlO.drew (h : WlO X w B P R nm ia ic ims fa fc xs) : WlO X.drew w B P R nm ia ic ims fa fc xs := h.below ((Below.refl _ _).grown (grown_drew X none) (Nat.le_refl _) (fun k e => by cases e))
theorem WlO.cells (h : WlO X w B P R nm ia ic ims fa fc xs) : (BoxO X P (.string ⟨nm.toArray⟩) (.slice ia ims.length ic) (.slice fa xs.length fc) ∧ ∀ j, X.frozen? ⟨P, j, none⟩ = false) ∧ (BoxO X R (.string ⟨#[]⟩) (.slice none 0 0) (.slice none 0 0) ∧ ∀ j, X.frozen? ⟨R, j, none⟩ = false) :=
  ⟨⟨⟨h.p.cells rfl 0 _ rfl, h.p.cells rfl 1 _ rfl, h.p.cells rfl 2 _ rfl⟩, fun j => h.p.frozenAt j⟩, ⟨⟨h.r.cells rfl 0 _ rfl, h.r.cells rfl 1 _ rfl, h.r.cells rfl 2 _ rfl⟩, fun j => h.r.frozenAt j⟩⟩
theorem WlO.step (h : WlO X w B P R nm ia ic ims fa fc xs) {row : Option Nat} (hg : X.grownBy Y row) (hr : ∀ k, row = some k → B ≤ k) {nm' : List UInt8} {ia' : Option Addr} {ic' : Nat} {ims' : List (List UInt8)} {fa' : Option Addr} {fc' : Nat} {xs' : List RV}
    (hp : Y.ownsRow B 43 3 (.slice (some ⟨P, 0, none⟩) 1 1) 1 [.string ⟨nm'.toArray⟩, .slice ia' ims'.length ic', .slice fa' xs'.length fc']) (hrr : Y.ownsRow B 43 3 (.slice (some ⟨R, 0, none⟩) 1 1) 1 [.string ⟨#[]⟩, .slice none 0 0, .slice none 0 0])
    (hi : Y.ownsRow B 9 1 (.slice ia' ims'.length ic') ims'.length (strV ims')) (hf : RtsOwn Y B (.slice fa' xs'.length fc') xs') (ha : ApartR (xs'.map rvT)) : WlO Y w B P R nm' ia' ic' ims' fa' fc' xs' :=
  ⟨hp, hrr, hi, hf, ha, h.pr, h.h.grown hg h.hs hr, Nat.le_trans h.hs hg.size⟩
theorem WlO.rOff (h : WlO X w B P R nm ia ic ims fa fc xs) : (Value.slice (some ⟨R, 0, none⟩) 1 1).ownBlock = none ∨ (Value.slice (some ⟨R, 0, none⟩) 1 1).ownBlock ≠ some P := Or.inr (fun e => by simp [Value.ownBlock] at e; exact h.pr e.symm)
theorem WlO.pB (h : WlO X w B P R nm ia ic ims fa fc xs) : ∀ k, some P = some k → B ≤ k := fun k e => by injection e with e; have := (h.p.lt P rfl).1; omega

/-- The package's name is written. -/
theorem WlO.name (h : WlO X w B P R nm ia ic ims fa fc xs) (x : List UInt8) : WlO (X.setCell ⟨P, 0, none⟩ (.string ⟨x.toArray⟩)) w B P R x ia ic ims fa fc xs := by
  obtain ⟨hp, hg⟩ := h.p.stored 0 (.string ⟨x.toArray⟩)
  exact h.step hg h.pB hp (h.r.kept hg h.rOff) (h.im.kept hg (own_typesR h.im h.p (by decide))) (h.fo.kept hg (own_typesR h.fo.row h.p (by decide)) (fun z hz => own_typesR (h.fo.trees z hz) h.p (by decide))) h.ap
theorem WlO.imps (h : WlO X w B P R nm ia ic ims fa fc xs) {ia' : Option Addr} {ic' : Nat} {ims' : List (List UInt8)} (hi : Y.ownsRow B 9 1 (.slice ia' ims'.length ic') ims'.length (strV ims')) (hg : X.grownBy Y (Value.slice ia ims.length ic).ownBlock) :
    (BoxO Y P (.string ⟨nm.toArray⟩) (.slice ia ims.length ic) (.slice fa xs.length fc) ∧ ∀ j, Y.frozen? ⟨P, j, none⟩ = false) ∧ WlO (Y.setCell ⟨P, 1, none⟩ (.slice ia' ims'.length ic')) w B P R nm ia' ic' ims' fa fc xs := by
  have hp := h.p.kept hg (own_typesR h.p h.im (by decide))
  have hr := h.r.kept hg (own_typesR h.r h.im (by decide))
  have hf := h.fo.kept hg (own_typesR h.fo.row h.im (by decide)) (fun z hz => own_typesR (h.fo.trees z hz) h.im (by decide))
  obtain ⟨hp2, hg2⟩ := hp.stored 1 (.slice ia' ims'.length ic')
  refine ⟨⟨⟨hp.cells rfl 0 _ rfl, hp.cells rfl 1 _ rfl, hp.cells rfl 2 _ rfl⟩, fun j => hp.frozenAt j⟩, ?_⟩
  exact ⟨hp2, hr.kept hg2 h.rOff, hi.kept hg2 (own_typesR hi hp (by decide)), hf.kept hg2 (own_typesR hf.row hp (by decide)) (fun z hz => own_typesR (hf.trees z hz) hp (by decide)), h.ap, h.pr, (h.h.grown hg h.hs (fun k e => (h.im.lt k e).1)).grown hg2 (Nat.le_trans h.hs hg.size) h.pB, Nat.le_trans h.hs (Nat.le_trans hg.size hg2.size)⟩
theorem WlO.rts (h : WlO X w B P R nm ia ic ims fa fc xs) {fa' : Option Addr} {fc' : Nat} {xs' : List RV} (hf : RtsOwn Y B (.slice fa' xs'.length fc') xs') (ha : ApartR (xs'.map rvT)) (hK : KeepR X Y) (hb : Below B X Y) :
    (BoxO Y P (.string ⟨nm.toArray⟩) (.slice ia ims.length ic) (.slice fa xs.length fc) ∧ ∀ j, Y.frozen? ⟨P, j, none⟩ = false) ∧ WlO (Y.setCell ⟨P, 2, none⟩ (.slice fa' xs'.length fc')) w B P R nm ia ic ims fa' fc' xs' := by
  have hp := hK.2 _ _ _ _ _ _ (by decide) (by decide) h.p
  have hr := hK.2 _ _ _ _ _ _ (by decide) (by decide) h.r
  have hi := hK.2 _ _ _ _ _ _ (by decide) (by decide) h.im
  obtain ⟨hp2, hg2⟩ := hp.stored 2 (.slice fa' xs'.length fc')
  refine ⟨⟨⟨hp.cells rfl 0 _ rfl, hp.cells rfl 1 _ rfl, hp.cells rfl 2 _ rfl⟩, fun j => hp.frozenAt j⟩, ?_⟩
  exact ⟨hp2, hr.kept hg2 h.rOff, hi.kept hg2 (own_typesR hi hp (by decide)), hf.kept hg2 (own_typesR hf.row hp (by decide)) (fun z hz => own_typesR (hf.trees z hz) hp (by decide)), ha, h.pr, (h.h.trans hb).grown hg2 (Nat.le_trans h.hs hb.size) h.pB, Nat.le_trans (Nat.le_trans h.hs hb.size) hg2.size⟩
/-- An import is put behind the others. -/
theorem WlO.import (h : WlO X w B P R nm ia ic ims fa fc xs) (x : List UInt8) (hn : ims.length ≤ 1048576) :
    ∃ g' c' Y, (Builtin.append_ #[37, 37] 37 #[.slice ia ims.length ic, .slice (some ⟨X.heap.size, 0, none⟩) 1 1]).run Tryz.prog (X.alloc (.cells #[.string ⟨x.toArray⟩] 9)) = .ok (.slice (some ⟨g', 0, none⟩) (ims.length + 1) c') Y ∧
      (BoxO Y P (.string ⟨nm.toArray⟩) (.slice ia ims.length ic) (.slice fa xs.length fc) ∧ ∀ j, Y.frozen? ⟨P, j, none⟩ = false) ∧ WlO (Y.setCell ⟨P, 1, none⟩ (.slice (some ⟨g', 0, none⟩) (ims.length + 1) c')) w B P R nm (some ⟨g', 0, none⟩) c' (ims ++ [x]) fa fc xs := by
  obtain ⟨i0, hi, hz0, hz1, hz2⟩ := info_parts info9
  have h1 := h.alloc (.cells #[.string ⟨x.toArray⟩] 9)
  obtain ⟨v', Y, hrun, hown, hg, _⟩ := run_append_src (P := Tryz.prog) (X.alloc (.cells #[.string ⟨x.toArray⟩] 9)) B 37 37 9 i0 _ 1 16 Tryz.underlying37 hi hz0 hz1 hz2 rfl (by decide) _ _ _ h1.im _ 1 (strV [x]) (new_strO X x 1) (by unfold maxLen; omega) (by omega) h1.hs
  obtain ⟨g', c', rfl⟩ := own_some hown (by omega)
  have e1 : (ims ++ [x]).length = ims.length + 1 := by simp
  have hown2 : Y.ownsRow B 9 1 (.slice (some ⟨g', 0, none⟩) (ims ++ [x]).length c') (ims ++ [x]).length (strV (ims ++ [x])) := by
    have e2 : strV (ims ++ [x]) = strV ims ++ strV [x] := by simp [strV]
    rw [e1, e2]; exact hown
  have hz := h1.imps hown2 hg
  rw [e1] at hz
  exact ⟨g', c', Y, hrun, hz.1, hz.2⟩
end

/-- What a line made of a package. -/
def WlOutO (B : Nat) (w w' : World) (e : Ending) (q : Ob) : Prop :=
  ∃ (nm : List UInt8) (ims : List (List UInt8)) (xs : List RV) (ia : Option Addr) (ic : Nat) (fa : Option Addr) (fc : Nat), e = .returned (.agg #[.string ⟨nm.toArray⟩, .slice ia ims.length ic, .slice fa xs.length fc]) ∧ (nm, ims, xs.map (·.1)) = q ∧
    w'.ownsRow B 9 1 (.slice ia ims.length ic) ims.length (strV ims) ∧ RtsOwn w' B (.slice fa xs.length fc) xs ∧ ApartR (xs.map rvT) ∧ Below B w w'

theorem WlO.out {X Y w : World} {B P R : Nat} {nm : List UInt8} {ia : Option Addr} {ic : Nat} {ims : List (List UInt8)} {fa : Option Addr} {fc : Nat} {xs : List RV} (h : WlO X w B P R nm ia ic ims fa fc xs) (hg : X.grownBy Y (some R)) {q : Ob} (hq : (nm, ims, xs.map (·.1)) = q) :
    WlOutO B w Y (.returned (.agg #[.string ⟨nm.toArray⟩, .slice ia ims.length ic, .slice fa xs.length fc])) q :=
  ⟨nm, ims, xs, ia, ic, fa, fc, rfl, hq, h.im.kept hg (own_typesR h.im h.r (by decide)), h.fo.kept hg (own_typesR h.fo.row h.r (by decide)) (fun z hz => own_typesR (h.fo.trees z hz) h.r (by decide)), h.ap, h.h.grown hg h.hs (fun k e => by injection e with e; have := (h.r.lt R rfl).1; omega)⟩

set_option maxHeartbeats 4000000 in
set_option maxRecDepth 100000 in
theorem implWithObj (B : Nat) (nm x : List UInt8) (ia : Option Addr) (ic : Nat) (ims : List (List UInt8)) (fa : Option Addr) (fc : Nat) (xs : List RV) (w : World) (hB : B ≤ w.heap.size) (hi : w.ownsRow B 9 1 (.slice ia ims.length ic) ims.length (strV ims)) (hf : RtsOwn w B (.slice fa xs.length fc) xs) (ha : ApartR (xs.map rvT))
    (hcl : ∀ y ∈ xs, y.1.2.2.length ≤ 1048576) (hx : x.length ≤ 1048576) (hni : ims.length ≤ 1048576) (hnf : xs.length ≤ 1048576) :
    Calls Tryz.prog 47 #[.agg #[.string ⟨nm.toArray⟩, .slice ia ims.length ic, .slice fa xs.length fc], .string ⟨x.toArray⟩] w fun e w' => WlOutO B w w' e (obLo (nm, ims, xs.map (·.1)) x) := by
  have hl1 := cutB_len 32 x
  have hp := World.ownsRow_lit (base := B) (e := 43) (size := 3) w #[.string ⟨nm.toArray⟩, .slice ia ims.length ic, .slice fa xs.length fc] 1 hB (by decide) rfl
  obtain ⟨W1, hW1⟩ : ∃ W, w.alloc (.cells #[.string ⟨nm.toArray⟩, .slice ia ims.length ic, .slice fa xs.length fc] 43) = W := ⟨_, rfl⟩
  rw [hW1] at hp
  have hs1 : W1.heap.size = w.heap.size + 1 := by rw [← hW1]; simp
  have hb1 : Below w.heap.size w W1 := by rw [← hW1]; exact (Below.refl _ _).alloc (Nat.le_refl _) _
  have hr := World.ownsRow_lit (base := B) (e := 43) (size := 3) W1 #[.string ⟨#[]⟩, .slice none 0 0, .slice none 0 0] 1 (by omega) (by decide) rfl
  obtain ⟨W, hW⟩ : ∃ W, W1.alloc (.cells #[.string ⟨#[]⟩, .slice none 0 0, .slice none 0 0] 43) = W := ⟨_, rfl⟩
  rw [hW] at hr
  have hs2 : W.heap.size = w.heap.size + 2 := by rw [← hW]; simp [hs1]
  have hb2 : Below W1.heap.size W1 W := by rw [← hW]; exact (Below.refl _ _).alloc (Nat.le_refl _) _
  have hbW : Below w.heap.size w W := hb1.trans (hb2.mono hb1.size)
  rw [hs1] at hr
  obtain ⟨P, hP⟩ : ∃ P, w.heap.size = P := ⟨_, rfl⟩
  rw [hP] at hp hr hs1 hs2
  have st : WlO W w B P (P + 1) nm ia ic ims fa fc xs := ⟨own_below hp hb2, hr, own_below hi hbW, hf.below hbW, ha, by omega, hbW.mono hB, by omega⟩
  have HC1 : Hid (_) := fun V : World => cutOne13 x 32 V hx
  have HQ : Hid (obLo (nm, ims, xs.map (·.1)) x = if cutA 32 x = kwObject then (cutB 32 x, ims, xs.map (·.1)) else if cutA 32 x = kwImport then (nm, ims ++ [cutB 32 x], xs.map (·.1)) else (nm, ims, rtLo (xs.map (·.1)) x)) := rfl
  generalize obLo (nm, ims, xs.map (·.1)) x = q at HQ ⊢
  generalize cutA 32 x = y at HC1 HQ
  generalize cutB 32 x = z at HC1 HQ hl1
  clear hp hr hb1 hb2 hi hf ha hbW
  go_enter Tryz.func47, Tryz.ntmps47
  go_wp2_with fail
  refine Calls.mono (HC1.out _) ?_
  rintro e w1 ⟨g1, rfl, hbn⟩
  replace st := st.below hbn
  clear hbn HC1
  have c0 := st.cells.1.1.c0
  have c1 := st.cells.1.1.c1
  have c2 := st.cells.1.1.c2
  have pf := st.cells.1.2
  have pf0 := pf 0
  have pf1 := pf 1
  have pf2 := pf 2
  by_cases hA : y = [111, 98, 106, 101, 99, 116]
  · subst hA
    have dA : (([111, 98, 106, 101, 99, 116] : List UInt8) == [111, 98, 106, 101, 99, 116]) = true := by decide
    have hq := HQ.out
    rw [if_pos (show [111, 98, 106, 101, 99, 116] = kwObject from rfl)] at hq
    have st2 := st.name z
    obtain ⟨X, hX⟩ : ∃ X, w1.setCell ⟨P, 0, none⟩ (.string ⟨z.toArray⟩) = X := ⟨_, rfl⟩
    rw [hX] at st2
    have d0 := st2.cells.1.1.c0
    have d1 := st2.cells.1.1.c1
    have d2 := st2.cells.1.1.c2
    have r0 := st2.cells.2.1.c0
    have r1 := st2.cells.2.1.c1
    have r2 := st2.cells.2.1.c2
    have fr := st2.cells.2.2
    have f0 := fr 0
    have f1 := fr 1
    have f2 := fr 2
    have HST : Hid (WlO X w B P (P + 1) z ia ic ims fa fc xs) := st2
    have HQE : Hid ((z, ims, xs.map (·.1)) = q) := hq.symm
    clear st st2 hq HQ fr pf
    go_wp2
    obtain ⟨Z, hZ, z0, z1, z2, hgZ⟩ := set3R (.string ⟨z.toArray⟩) (.slice ia ims.length ic) (.slice fa xs.length fc) r0 r1 r2
    rw [hZ]
    refine bodyPost_ret (v := .agg #[.string ⟨z.toArray⟩, .slice ia ims.length ic, .slice fa xs.length fc]) (by simp [results, Tryz.results47, go_sem, z0, z1, z2]) rfl ?_
    exact HST.out.out hgZ HQE.out
  have dA : (y == [111, 98, 106, 101, 99, 116]) = false := beq_eq_false_iff_ne.2 hA
  by_cases hI : y = [105, 109, 112, 111, 114, 116]
  · subst hI
    have dI : (([105, 109, 112, 111, 114, 116] : List UInt8) == [105, 109, 112, 111, 114, 116]) = true := by decide
    have hq := HQ.out
    rw [if_neg (by decide), if_pos (show [105, 109, 112, 111, 114, 116] = kwImport from rfl)] at hq
    obtain ⟨g', c', Y, hrun, ⟨bY, yf⟩, st2⟩ := st.import z hni
    obtain ⟨X, hX⟩ : ∃ X, Y.setCell ⟨P, 1, none⟩ (.slice (some ⟨g', 0, none⟩) (ims.length + 1) c') = X := ⟨_, rfl⟩
    rw [hX] at st2
    have e1 : (ims ++ [z]).length = ims.length + 1 := by simp
    have y1 := bY.c1
    have yf1 := yf 1
    have d0 := st2.cells.1.1.c0
    have d1 := st2.cells.1.1.c1
    have d2 := st2.cells.1.1.c2
    rw [e1] at d1
    have r0 := st2.cells.2.1.c0
    have r1 := st2.cells.2.1.c1
    have r2 := st2.cells.2.1.c2
    have fr := st2.cells.2.2
    have f0 := fr 0
    have f1 := fr 1
    have f2 := fr 2
    have HST : Hid (WlO X w B P (P + 1) nm (some ⟨g', 0, none⟩) c' (ims ++ [z]) fa fc xs) := st2
    have HQE : Hid ((nm, ims ++ [z], xs.map (·.1)) = q) := hq.symm
    have HE1 : Hid ((ims ++ [z]).length = ims.length + 1) := e1
    clear st st2 hq HQ fr pf bY yf e1
    go_wp2_with (at_builtin; refine wpList_append_run rfl (.tmp 27) (.tmp 29) 37 rfl _ _ _ rfl rfl hrun ?_; clear hrun)
    obtain ⟨Z, hZ, z0, z1, z2, hgZ⟩ := set3R (.string ⟨nm.toArray⟩) (.slice (some ⟨g', 0, none⟩) (ims.length + 1) c') (.slice fa xs.length fc) r0 r1 r2
    rw [hZ]
    refine bodyPost_ret (v := .agg #[.string ⟨nm.toArray⟩, .slice (some ⟨g', 0, none⟩) (ims.length + 1) c', .slice fa xs.length fc]) (by simp [results, Tryz.results47, go_sem, z0, z1, z2]) rfl ?_
    have hout := HST.out.out hgZ HQE.out
    rw [HE1.out] at hout
    exact hout
  have dI : (y == [105, 109, 112, 111, 114, 116]) = false := beq_eq_false_iff_ne.2 hI
  have hq := HQ.out
  rw [if_neg (show ¬ y = kwObject from hA), if_neg (show ¬ y = kwImport from hI)] at hq
  have HQE : Hid (q = (nm, ims, rtLo (xs.map (·.1)) x)) := hq
  have HC : Hid (_) := implWithRtN B w1 fa fc xs x st.hs st.fo st.ap hx hnf hcl
  have HST0 : Hid (WlO w1 w B P (P + 1) nm ia ic ims fa fc xs) := st
  obtain ⟨nx, hnx⟩ : ∃ nx, xs.length = nx := ⟨_, rfl⟩
  have HNX : Hid (xs.length = nx) := hnx
  rw [hnx] at HC c2 hnf hW1 ⊢
  clear st hq HQ hnx pf pf0 pf1 pf2 hcl hA hI
  go_wp2_with fail
  refine Calls.mono HC.out ?_
  rintro e w2 ⟨a', c', xs', rfl, hf2, ha2, hm2, hK2, hb2⟩
  obtain ⟨⟨bY, yf⟩, st2⟩ := HST0.out.rts hf2 ha2 hK2 hb2
  obtain ⟨X, hX⟩ : ∃ X, w2.setCell ⟨P, 2, none⟩ (.slice a' xs'.length c') = X := ⟨_, rfl⟩
  rw [hX] at st2
  have y2 := bY.c2
  rw [HNX.out] at y2
  have yf2 := yf 2
  have d0 := st2.cells.1.1.c0
  have d1 := st2.cells.1.1.c1
  have d2 := st2.cells.1.1.c2
  have r0 := st2.cells.2.1.c0
  have r1 := st2.cells.2.1.c1
  have r2 := st2.cells.2.1.c2
  have fr := st2.cells.2.2
  have f0 := fr 0
  have f1 := fr 1
  have f2 := fr 2
  have HST : Hid (WlO X w B P (P + 1) nm ia ic ims a' c' xs') := st2
  have HQ2 : Hid ((nm, ims, xs'.map (·.1)) = q) := by exact (by rw [HQE.out, hm2] : (nm, ims, xs'.map (·.1)) = q)
  clear st2 fr bY yf hf2 ha2 hm2 hK2 hb2 HST0 HC HQE
  go_wp2
  obtain ⟨Z, hZ, z0, z1, z2, hgZ⟩ := set3R (.string ⟨nm.toArray⟩) (.slice ia ims.length ic) (.slice a' xs'.length c') r0 r1 r2
  rw [hZ]
  refine bodyPost_ret (v := .agg #[.string ⟨nm.toArray⟩, .slice ia ims.length ic, .slice a' xs'.length c']) (by simp [results, Tryz.results47, go_sem, z0, z1, z2]) rfl ?_
  exact HST.out.out hgZ HQ2.out

end Go.Proofs.YtfhkiaogfopigaaGreatDoor

/-! The contracts of chapter 7's landed code: namesRise, importsOk. -/
namespace Go.Proofs.YtfhkiaogfopigaaGreatDoor
open Go.RowKit

/-- Names, and rising. -/
def risesB (ts : List (List UInt8)) : Bool := decide (∀ i, i < ts.length → nameB (ts.getD i []) = true) && riseB ts
theorem imports_rises (ts : List (List UInt8)) : importsB ts = (decide (ts.length ≤ 6) && risesB ts) := by
  unfold importsB risesB
  cases decide (∀ i, i < ts.length → nameB (ts.getD i []) = true) <;> cases decide (ts.length ≤ 6) <;> cases riseB ts <;> rfl
structure NrSt (ts : List (List UInt8)) (k : Nat) (z : List UInt8) : Prop where
  names : ∀ i, i < k → nameB (ts.getD i []) = true
  rise : ∀ i, i + 1 < k → leT (ts.getD (i + 1) []) (ts.getD i []) = false
  last : (k = 0 ∧ z = []) ∨ (0 < k ∧ z = ts.getD (k - 1) [])
theorem NrSt.noName {ts : List (List UInt8)} {k : Nat} (hk : k < ts.length) (hn : nameB (ts.getD k []) = false) : risesB ts = false := by
  unfold risesB
  rw [decide_eq_false (fun g => by rw [g k hk] at hn; cases hn)]
  rfl
theorem leT_nil {x : List UInt8} (h : nameB x = true) : leT x [] = false := by
  have h1 := (name_letters h).1.1
  cases x with
  | nil => simp at h1
  | cons c r => simp [leT, Op.bytesLess]
theorem NrSt.noRise {ts : List (List UInt8)} {k : Nat} {z : List UInt8} (h : NrSt ts k z) (hk : k < ts.length) (hn : nameB (ts.getD k []) = true) (hl : leT (ts.getD k []) z = true) : risesB ts = false := by
  rcases h.last with ⟨rfl, rfl⟩ | ⟨h0, rfl⟩
  · rw [leT_nil hn] at hl; cases hl
  · unfold risesB
    rw [riseB_no (j := k - 1) (by omega) (by rw [show k - 1 + 1 = k by omega]; exact hl), Bool.and_false]
theorem NrSt.step {ts : List (List UInt8)} {k : Nat} {z : List UInt8} (h : NrSt ts k z) (hn : nameB (ts.getD k []) = true) (hl : leT (ts.getD k []) z = false) : NrSt ts (k + 1) (ts.getD k []) := by
  refine ⟨fun i hi => ?_, fun i hi => ?_, Or.inr ⟨by omega, by rw [Nat.add_sub_cancel]⟩⟩
  · rcases Nat.lt_or_ge i k with g | g
    · exact h.names i g
    · obtain rfl : i = k := by omega
      exact hn
  · rcases Nat.lt_or_ge (i + 1) k with g | g
    · exact h.rise i g
    · obtain rfl : k = i + 1 := by omega
      rcases h.last with ⟨e, _⟩ | ⟨_, rfl⟩
      · omega
      · rw [Nat.add_sub_cancel] at hl; exact hl
theorem NrSt.all {ts : List (List UInt8)} {z : List UInt8} (h : NrSt ts ts.length z) : risesB ts = true := by
  unfold risesB
  rw [decide_eq_true h.names, riseB_yes (j := ts.length - 1) (by omega) (fun i hi => h.rise i (by omega))]
  rfl

set_option maxHeartbeats 2000000 in
set_option maxRecDepth 100000 in
theorem implNamesRise (a : Option Addr) (len cap : Nat) (ts : List (List UInt8)) (w : World) (hin : TextsIn w a len ts) (hlen : len ≤ 1048576) (hs : ∀ i, (ts.getD i []).length ≤ 1048576) :
    Calls Tryz.prog 91 #[.slice a len cap] w fun e w' => e = .returned (.bool (risesB ts)) ∧ w' = w := by
  obtain rfl : ts.length = len := hin.1
  have HI : Hid (TextsIn w a ts.length ts) := hin
  have HS : Hid (∀ i, (ts.getD i []).length ≤ 1048576) := hs
  clear hin hs
  go_enter Tryz.func91, Tryz.ntmps91
  go_wp2
  go_loopw [3, 8] (fun lv iv wr => ∃ k : Nat, iv = .int .i64 (k : Int) ∧ k ≤ ts.length ∧ (∃ z : List UInt8, lv = .string ⟨z.toArray⟩ ∧ Hid (NrSt ts k z)) ∧ wr = w) (fun _ iv _ => ts.length - (intOf iv).toNat)
  case atStart => exact ⟨0, rfl, by omega, ⟨[], rfl, (⟨fun i hi => by omega, fun i hi => by omega, Or.inl ⟨rfl, rfl⟩⟩ : NrSt ts 0 [])⟩, rfl⟩
  case round =>
    obtain ⟨k, rfl, hk, ⟨z, rfl, HZ⟩, rfl⟩ := hrel
    by_cases hlt : (k : Int) < (ts.length : Int)
    · have hk2 : k < ts.length := by omega
      obtain ⟨b, off, rfl, hbl, c0⟩ := HI.out.2 k hk2
      have hxl := HS.out k
      obtain ⟨x, hx⟩ : ∃ x, ts.getD k [] = x := ⟨_, rfl⟩
      rw [hx] at c0 hxl
      have hC : Hid (_) := implNameOkS x wr hxl
      rcases hnb : nameB x with _ | _
      · have HR : Hid (risesB ts = false) := NrSt.noName hk2 (by rw [hx]; exact hnb)
        rw [hnb] at hC
        clear hx hnb HZ
        go_wp2_with (go_at_call 70; refine Calls.mono hC.out ?_; rintro e w1 ⟨rfl, rfl⟩)
        go_ret
        exact ⟨by rw [HR.out]; rfl, rfl⟩
      · rcases hle : leT x z with _ | _
        · have HZ2 : Hid (NrSt ts (k + 1) x) := by
            have h := HZ.out.step (by rw [hx]; exact hnb) (by rw [hx]; exact hle)
            rw [hx] at h
            exact h
          rw [hnb] at hC
          unfold leT at hle
          clear hx hnb HZ
          go_wp2_with (go_at_call 70; refine Calls.mono hC.out ?_; rintro e w1 ⟨rfl, rfl⟩)
          go_roundw
          case rel => exact ⟨k + 1, by go_num, by omega, ⟨x, rfl, HZ2⟩, trivial⟩
          case measure => simp [intOf]; omega
        · have HR : Hid (risesB ts = false) := HZ.out.noRise hk2 (by rw [hx]; exact hnb) (by rw [hx]; exact hle)
          rw [hnb] at hC
          unfold leT at hle
          clear hx hnb HZ
          go_wp2_with (go_at_call 70; refine Calls.mono hC.out ?_; rintro e w1 ⟨rfl, rfl⟩)
          go_ret
          exact ⟨by rw [HR.out]; rfl, rfl⟩
    · obtain rfl : k = ts.length := by omega
      have HR : Hid (risesB ts = true) := HZ.out.all
      go_wp2
      go_ret
      exact ⟨by rw [HR.out]; rfl, rfl⟩

set_option maxHeartbeats 1000000 in
set_option maxRecDepth 100000 in
theorem implImportsOk (a : Option Addr) (len cap : Nat) (ts : List (List UInt8)) (w : World) (hin : TextsIn w a len ts) (hlen : len ≤ 1048576) (hs : ∀ i, (ts.getD i []).length ≤ 1048576) :
    Calls Tryz.prog 71 #[.slice a len cap] w fun e w' => e = .returned (.bool (importsB ts)) ∧ w' = w := by
  have hC : Hid (_) := implNamesRise a len cap ts w hin hlen hs
  obtain rfl : ts.length = len := hin.1
  have HR : Hid (importsB ts = (decide (ts.length ≤ 6) && risesB ts)) := imports_rises ts
  clear hin hs
  go_enter Tryz.func71, Tryz.ntmps71
  by_cases h6 : (ts.length : Int) ≤ 6
  · have HD : Hid (decide (ts.length ≤ 6) = true) := decide_eq_true (by omega)
    go_wp2_with (go_at_call 91; refine Calls.mono hC.out ?_; rintro e w1 ⟨rfl, rfl⟩)
    go_ret
    exact ⟨by rw [HR.out, HD.out]; rfl, rfl⟩
  · have HD : Hid (decide (ts.length ≤ 6) = false) := decide_eq_false (by omega)
    go_wp2
    go_ret
    exact ⟨by rw [HR.out, HD.out]; rfl, rfl⟩

end Go.Proofs.YtfhkiaogfopigaaGreatDoor

/-! The contract of slices.Contains at texts. -/
namespace Go.Proofs.YtfhkiaogfopigaaGreatDoor
open Go.RowKit

theorem not_mem_s {l : List (List UInt8)} {x : List UInt8} (h : ∀ i, i < l.length → l.getD i [] ≠ x) : ¬ x ∈ l := fun hm => by
  obtain ⟨i, hi, e⟩ := List.mem_iff_getElem.1 hm
  exact h i hi (by simp [List.getD, hi, e])

set_option maxHeartbeats 1000000 in
set_option maxRecDepth 100000 in
theorem indexStr (a : Option Addr) (n c : Nat) (l : List (List UInt8)) (x : List UInt8) (w : World) (hin : TextsIn w a n l) (hn : n ≤ 1048576) :
    Calls Tryz.prog 111 #[.slice a n c, .string ⟨x.toArray⟩] w fun e w' => ∃ y : Int, e = .returned (.int .i64 y) ∧ Hid (0 ≤ y ↔ x ∈ l) ∧ w' = w := by
  obtain rfl : l.length = n := hin.1
  have HI : Hid (TextsIn w a l.length l) := hin
  clear hin
  go_enter Tryz.func111, Tryz.ntmps111
  go_wp2
  go_loopw [8] (fun iv wr => ∃ k : Nat, iv = .int .i64 (k : Int) ∧ k ≤ l.length ∧ Hid (∀ i, i < k → l.getD i [] ≠ x) ∧ wr = w) (fun iv _ => l.length - (intOf iv).toNat)
  case atStart => exact ⟨0, rfl, by omega, (fun i hi => by omega), rfl⟩
  case round =>
    obtain ⟨k, rfl, hk, HA, hwr⟩ := hrel
    obtain rfl := hwr.symm
    by_cases hlt : (k : Int) < (l.length : Int)
    · have hk2 : k < l.length := by omega
      obtain ⟨b, off, rfl, hbl, c0⟩ := HI.out.2 k hk2
      have hmem : l.getD k [] ∈ l := by simp [List.getD, hk2]
      obtain ⟨y, hy⟩ : ∃ y, l.getD k [] = y := ⟨_, rfl⟩
      rw [hy] at c0 hmem
      by_cases hxy : x = y
      · subst hxy
        have HM : Hid (0 ≤ (k : Int) ↔ x ∈ l) := ⟨fun _ => hmem, fun _ => by omega⟩
        have hself : (x == x) = true := by simp
        clear HA hy hmem
        go_wp2
        go_ret
        exact ⟨_, rfl, HM, rfl⟩
      · have HA2 : Hid (∀ i, i < k + 1 → l.getD i [] ≠ x) := fun i hi => by
          rcases Nat.lt_or_ge i k with h | h
          · exact HA.out i h
          · obtain rfl : i = k := by omega
            rw [hy]; exact fun e => hxy e.symm
        have hne : (x == y) = false := beq_eq_false_iff_ne.2 hxy
        clear HA hy hmem
        go_wp2
        go_roundw
        case rel => exact ⟨k + 1, by go_num, by omega, HA2, trivial⟩
        case measure => simp [intOf]; omega
    · have HM : Hid (0 ≤ (-1 : Int) ↔ x ∈ l) := ⟨fun h => by omega, fun h => absurd h (not_mem_s (fun i hi => HA.out i (by omega)))⟩
      go_wp2
      go_ret
      exact ⟨_, rfl, HM, rfl⟩
theorem containsStr (a : Option Addr) (n c : Nat) (l : List (List UInt8)) (x : List UInt8) (w : World) (hin : TextsIn w a n l) (hn : n ≤ 1048576) :
    Calls Tryz.prog 92 #[.slice a n c, .string ⟨x.toArray⟩] w fun e w' => e = .returned (.bool (decide (x ∈ l))) ∧ w' = w := by
  have hI := indexStr a n c l x w hin hn
  go_enter Tryz.func92, Tryz.ntmps92
  go_wp2_with fail
  refine hI.mono ?_
  rintro e w1 ⟨y, rfl, HM, hw⟩
  obtain rfl := hw.symm
  clear hI
  go_wp2
  go_ret
  exact ⟨by rw [decide_eq_decide.2 HM.out.symm]; rfl, rfl⟩

end Go.Proofs.YtfhkiaogfopigaaGreatDoor
