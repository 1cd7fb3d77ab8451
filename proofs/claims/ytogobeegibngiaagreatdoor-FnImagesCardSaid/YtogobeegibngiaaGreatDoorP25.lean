/-
  Parts of one proof, one behind the other: Draw14F, ImgR, ImgQ.
-/
import Derived.Test.YtogobeegibngiaaGreatDoorP24
import Derived.Test.YtogobeegibngiaaGreatDoorP22
import Derived.Test.YtogobeegibngiaaGreatDoorP5
import Derived.Test.YtogobeegibngiaaGreatDoorP23
import Derived.Test.YtogobeegibngiaaGreatDoorP15
import Derived.Test.YtogobeegibngiaaGreatDoorP6
import Derived.Test.YtogobeegibngiaaGreatDoorP20
import Derived.Deep.RegionHeld
import Derived.RegionTactic
import Derived.BigQuiet
import Derived.Test.YtogobeegibngiaaGreatDoorP16
import Derived.Test.YtogobeegibngiaaGreatDoorP2
import Derived.Maps.AppendAt

/-! DrawImageOk, DrawShowImage, DrawReadImage. -/
namespace Go.Proofs.YtogobeegibngiaaGreatDoor
open Go.RowKit

theorem code_grownF {w w' : World} {a : Option Addr} {len : Nat} (h : Code w w.heap.size a len) (hg : w.grownBy w' none) : Code w' w'.heap.size a len := by
  intro j hj
  obtain ⟨b, off, x, e1, e2, e3, e0⟩ := h j hj
  exact ⟨b, off, x, e1, Nat.lt_of_lt_of_le e2 hg.size, (World.cell?_of_block (a := ⟨b, off + j, none⟩) (hg.block b e2 (by simp))).trans e3, e0⟩
theorem Agr.transF {X Y Z : World} {b : Nat} (h : Agr X Y b) (h2 : Agr Y Z b) : Agr X Z b := ⟨Nat.le_trans h.1 h2.1, fun k hk hkl => (h2.2 k hk (Nat.lt_of_lt_of_le hkl h.1)).trans (h.2 k hk hkl)⟩
theorem ImA.toF {X Y : World} {b : Nat} {a : Option Addr} {n c : Nat} {rs : List Rt} (h : ImA X b a n c rs) (ha : Agr X Y b) : ImA Y b a n c rs := ⟨fun Z hZ => h.1 Z (ha.transF hZ), h.2.1, h.2.2⟩
theorem ImA.baseF {X : World} {b b2 : Nat} {a : Option Addr} {n c : Nat} {rs : List Rt} (h : ImA X b a n c rs) (hb : b2 ≤ b) : ImA X b2 a n c rs := ⟨fun Z hZ => h.1 Z ⟨hZ.1, fun k hk hkl => hZ.2 k (by omega) hkl⟩, h.2.1, h.2.2⟩
theorem ImA.setF {X : World} {b D : Nat} {a : Option Addr} {n c : Nat} {rs : List Rt} (h : ImA X b a n c rs) (hD : D < b) (v : Value) : ImA (X.setCell ⟨D, 0, none⟩ v) D a n c rs := by
  have hg := grown_set X D 0 v
  exact (h.toF ⟨hg.size, fun k hk hkl => hg.block k hkl (by intro e; injection e with e; omega)⟩).baseF (by omega)
theorem allI_shortF {c : List In13} (h : AllI c) : ShortI c ∧ IntIs c := by
  refine ⟨fun j => ?_, fun j => ?_⟩
  · by_cases hj : j < c.length
    · have hm : c.getD j in0 ∈ c := by rw [List.getD_eq_getElem?_getD, List.getElem?_eq_getElem hj]; exact List.getElem_mem hj
      have := h _ hm
      unfold SmI at this
      omega
    · rw [List.getD_eq_getElem?_getD, List.getElem?_eq_none (by omega)]; simp [in0]
  · by_cases hj : j < c.length
    · have hm : c.getD j in0 ∈ c := by rw [List.getD_eq_getElem?_getD, List.getElem?_eq_getElem hj]; exact List.getElem_mem hj
      have := h _ hm
      unfold SmI at this
      unfold IntI
      omega
    · rw [List.getD_eq_getElem?_getD, List.getElem?_eq_none (by omega)]; exact intI_in0
theorem smRt_shortF {rs : List Rt} (h : ∀ r ∈ rs, SmRt r) : ShortR rs ∧ IntR rs := by
  have key : ∀ j, j < rs.length → SmRt (rs.getD j rt0) := fun j hj => h _ (by rw [List.getD_eq_getElem?_getD, List.getElem?_eq_getElem hj]; exact List.getElem_mem hj)
  have e : ∀ j, ¬ j < rs.length → rs.getD j rt0 = rt0 := fun j hj => by rw [List.getD_eq_getElem?_getD, List.getElem?_eq_none (by omega)]; rfl
  refine ⟨fun j => ?_, fun j => ?_⟩
  · by_cases hj : j < rs.length
    · have hk := key j hj
      exact ⟨by have := hk.1; omega, by have := hk.2.2.1; omega, (allI_shortF hk.2.2.2).1⟩
    · rw [e j hj]
      exact ⟨by simp [rt0], by simp [rt0], fun k => by simp [rt0, in0]⟩
  · by_cases hj : j < rs.length
    · have hk := key j hj
      exact ⟨by have := hk.2.1; omega, (allI_shortF hk.2.2.2).2⟩
    · rw [e j hj]
      exact ⟨by simp [rt0], intIs_nil⟩
theorem showIm_small (rs : List Rt) : (showIm rs).length ≤ 400000 := by
  unfold showIm
  split
  · rename_i h; exact showI_len h
  · simp

set_option maxHeartbeats 2000000 in
set_option maxRecDepth 100000 in
theorem drawImageOk (w : World) (a : Option Addr) (len cap : Nat) (hl : len ≤ 4096) (hc : Code w w.heap.size a len) :
    Calls Tryz.prog 14 #[.slice a len cap] w fun e w' => ∃ la n lc rs, e = .returned (.agg #[.slice la n lc]) ∧ ImA w' w.heap.size la n lc rs ∧ Below w.heap.size w w' := by
  have hA0 := heap_alloc_new w (.cells #[.slice none 0 0] 26)
  have hg0 := World.grownBy_alloc w (.cells #[.slice none 0 0] 26) none
  have hB0 : Below w.heap.size w (w.alloc (.cells #[.slice none 0 0] 26)) := (Below.refl _ _).alloc (Nat.le_refl _) _
  obtain ⟨W, hW⟩ : ∃ W, w.alloc (.cells #[.slice none 0 0] 26) = W := ⟨_, rfl⟩
  have hsW : W.heap.size = w.heap.size + 1 := by rw [← hW]; simp
  rw [hW] at hA0 hg0 hB0
  have HC : Hid (_) := drawNew W a len cap hl (code_grownF hc hg0)
  obtain ⟨D, hD⟩ : ∃ D, w.heap.size = D := ⟨_, rfl⟩
  rw [hD] at hA0 hsW
  have HA0 : Hid (W.heap[D]? = some (.cells #[.slice none 0 0] 26 (0, 0)) ∧ Below w.heap.size w W) := ⟨hA0, hB0⟩
  clear hA0 hB0 hg0 hc
  go_enter Tryz.func14, Tryz.ntmps14
  go_wp2_with fail
  refine Calls.mono HC.out ?_
  rintro e w1 ⟨rfl, hc1, hg1⟩
  have HB1 : Hid (w1.heap[D]? = some (.cells #[.slice none 0 0] 26 (0, 0)) ∧ Below w.heap.size w w1) := ⟨(hg1.block D (lt_of_block HA0.out.1) (by simp)).trans HA0.out.1, HA0.out.2.grown hg1 HA0.out.2.size (by simp)⟩
  have hs1 := hg1.size
  obtain ⟨B, hBe⟩ : ∃ B, W.heap.size = B := ⟨_, rfl⟩
  rw [hBe] at hc1 hs1 hsW ⊢
  clear hBe
  have hDB : D < B := by omega
  clear hsW
  have HC1 : Hid (_) := drawAny14 w1 B a len cap hc1
  clear hg1 HA0 HC hc1
  go_wp2_with fail
  refine Calls.mono HC1.out ?_
  rintro e w2 ⟨la, n, lc, rs, rfl, him, hc2, hg2⟩
  have hD2 : w2.heap[D]? = some (.cells #[.slice none 0 0] 26 (0, 0)) := (hg2.block D (lt_of_block HB1.out.1) (by intro e; injection e with e; omega)).trans HB1.out.1
  have hb2 : Below w.heap.size w w2 := HB1.out.2.grown hg2 HB1.out.2.size (fun k e => by injection e with e; omega)
  have r0 := cell_of_one hD2
  have f0 := free_of_one hD2
  have z0 : (w2.setCell ⟨D, 0, none⟩ (.slice la n lc)).cell? ⟨D, 0, none⟩ = some (.slice la n lc) := World.cell?_setCell_same _ _ _ r0
  have HF : Hid (ImA (w2.setCell ⟨D, 0, none⟩ (.slice la n lc)) w.heap.size la n lc rs ∧ Below w.heap.size w (w2.setCell ⟨D, 0, none⟩ (.slice la n lc))) := ⟨by rw [hD]; exact him.setF (by omega) _, hb2.grown (grown_set _ _ _ _) hb2.size (fun k e => by injection e with e; omega)⟩
  obtain ⟨Y, hY⟩ : ∃ Y, w2.setCell ⟨D, 0, none⟩ (.slice la n lc) = Y := ⟨_, rfl⟩
  rw [hY] at z0 HF
  clear him hc2 hg2 hD2 hb2 HB1 HC1
  go_wp2
  refine bodyPost_ret (v := .agg #[.slice la n lc]) (by simp [results, Tryz.results14, go_sem, z0]) rfl ?_
  exact ⟨la, n, lc, rs, rfl, HF.out⟩

set_option maxHeartbeats 2000000 in
set_option maxRecDepth 100000 in
theorem drawShowImage (w : World) (a : Option Addr) (len cap : Nat) (hl : len ≤ 4096) (hc : Code w w.heap.size a len) :
    Calls Tryz.prog 5 #[.slice a len cap] w fun e w' => ∃ la n lc rs, e = .returned (.agg #[.slice la n lc]) ∧ ImA w' w.heap.size la n lc rs ∧ Below w.heap.size w w' := by
  have hA0 := heap_alloc_new w (.cells #[.slice none 0 0] 26)
  have hg0 := World.grownBy_alloc w (.cells #[.slice none 0 0] 26) none
  have hB0 : Below w.heap.size w (w.alloc (.cells #[.slice none 0 0] 26)) := (Below.refl _ _).alloc (Nat.le_refl _) _
  obtain ⟨W, hW⟩ : ∃ W, w.alloc (.cells #[.slice none 0 0] 26) = W := ⟨_, rfl⟩
  have hsW : W.heap.size = w.heap.size + 1 := by rw [← hW]; simp
  rw [hW] at hA0 hg0 hB0
  have HC : Hid (_) := drawImageOk W a len cap hl (code_grownF hc hg0)
  obtain ⟨D, hD⟩ : ∃ D, w.heap.size = D := ⟨_, rfl⟩
  rw [hD] at hA0 hsW
  have HA0 : Hid (W.heap[D]? = some (.cells #[.slice none 0 0] 26 (0, 0)) ∧ Below w.heap.size w W) := ⟨hA0, hB0⟩
  clear hA0 hB0 hg0 hc
  go_enter Tryz.func5, Tryz.ntmps5
  go_wp2_with fail
  refine Calls.mono HC.out ?_
  rintro e w2 ⟨la, n, lc, rs, rfl, him, hb⟩
  have hD2 : w2.heap[D]? = some (.cells #[.slice none 0 0] 26 (0, 0)) := (hb.block D (by omega)).trans HA0.out.1
  have hb2 : Below w.heap.size w w2 := HA0.out.2.trans (hb.mono HA0.out.2.size)
  have r0 := cell_of_one hD2
  have f0 := free_of_one hD2
  have z0 : (w2.setCell ⟨D, 0, none⟩ (.slice la n lc)).cell? ⟨D, 0, none⟩ = some (.slice la n lc) := World.cell?_setCell_same _ _ _ r0
  have HF : Hid (ImA (w2.setCell ⟨D, 0, none⟩ (.slice la n lc)) w.heap.size la n lc rs ∧ Below w.heap.size w (w2.setCell ⟨D, 0, none⟩ (.slice la n lc))) := ⟨by rw [hD]; exact him.setF (by omega) _, hb2.grown (grown_set _ _ _ _) hb2.size (fun k e => by injection e with e; omega)⟩
  obtain ⟨Y, hY⟩ : ∃ Y, w2.setCell ⟨D, 0, none⟩ (.slice la n lc) = Y := ⟨_, rfl⟩
  rw [hY] at z0 HF
  clear him hb hD2 hb2 HA0 HC
  go_wp2
  refine bodyPost_ret (v := .agg #[.slice la n lc]) (by simp [results, Tryz.results5, go_sem, z0]) rfl ?_
  exact ⟨la, n, lc, rs, rfl, HF.out⟩

set_option maxHeartbeats 2000000 in
set_option maxRecDepth 100000 in
theorem drawReadImage (w : World) (a : Option Addr) (len cap : Nat) (hl : len ≤ 4096) (hc : Code w w.heap.size a len) :
    Calls Tryz.prog 7 #[.slice a len cap] w fun e w' => ∃ t : List UInt8, e = .returned (.string ⟨t.toArray⟩) ∧ t.length ≤ 400002 ∧ Below w.heap.size w w' := by
  go_enter Tryz.func7, Tryz.ntmps7
  go_wp2_with fail
  refine (drawNew _ a len cap hl hc).mono ?_
  rintro e w1 ⟨rfl, hc1, hg1⟩
  have hb1 : Below w.heap.size w w1 := (Below.refl _ _).grown hg1 (Nat.le_refl _) (by simp)
  clear hg1
  go_wp2_with fail
  refine (drawAny14 _ _ a len cap hc1).mono ?_
  rintro e w2 ⟨la, n, lc, rs, rfl, him, hc2, hg2⟩
  have hb2 : Below w.heap.size w w2 := hb1.grown hg2 hb1.size (by simp)
  have hT : Hid (_) := specShowImage la n lc rs w2 (him.1 w2 (Agr.refl _ _)).in (smRt_shortF him.2.1).1 (by have := him.2.2; omega)
  clear hc1 hg2 hb1 him
  go_wp2_with fail
  refine Calls.mono hT.out ?_
  rintro e w3 ⟨rfl, hb3⟩
  have hlen := showIm_small rs
  have hc3 := hc2.below hb3
  have hb4 : Below w.heap.size w w3 := hb2.trans (hb3.mono hb2.size)
  clear hT hb3 hb2 hc2
  generalize showIm rs = s at hlen ⊢
  go_wp2_with fail
  refine (drawOnce _ _ a len cap 2 (by omega) (by omega) hc3).mono ?_
  rintro e w4 ⟨o, rfl, hc4, hg4⟩
  have hb5 : Below w.heap.size w w4 := hb4.grown hg4 hb4.size (by simp)
  clear hc3 hg4 hb4
  rcases o with _ | _
  · go_wp2
    go_ret
    exact ⟨s, rfl, by omega, hb5⟩
  · go_wp2_with fail
    refine (drawBend _ _ a len cap s [48, 49, 50, 51, 32, 45, 10, 46, 102] hc4 (by omega) (by simp) (by simp)).mono ?_
    rintro e w5 ⟨l, rfl, hl5, hc5, hg5⟩
    go_wp2
    go_ret
    exact ⟨l, rfl, by omega, hb5.grown hg5 hb5.size (by simp)⟩

end Go.Proofs.YtogobeegibngiaaGreatDoor

/-! How an image runs, as the specification's walk holds it: the run's block, its row of registers, one instruction. -/
namespace Go.Proofs.YtogobeegibngiaaGreatDoor
open Go.RowKit

section
variable {rs : List Rt} {m k : Nat} {xs row row2 : List Int} {p p2 : Int}
end
section
variable {rs : List Rt} {k p : Nat} {xs row : List Int} {i : In13}
end
end Go.Proofs.YtogobeegibngiaaGreatDoor

/-! What reading an image holds: the routines so far, and the instruction that is being read. -/
namespace Go.Proofs.YtogobeegibngiaaGreatDoor
open Go.RowKit

theorem readI_at (O : List Rt) (ls : List (List UInt8)) (k : Nat) (hk : k < ls.length) : readI O (ls.drop k) =
    if (splitL 32 (ls.getD k [])).length = 4 ∧ (splitL 32 (ls.getD k [])).getD 0 [] = kwRt then readI (O ++ [((splitL 32 (ls.getD k [])).getD 1 [], readV ((splitL 32 (ls.getD k [])).getD 2 []), [])]) (ls.drop (k + 1))
    else if (splitL 32 (ls.getD k [])).length ≠ 5 ∨ O = [] then []
    else readI (addI O (insRd (splitL 32 (ls.getD k [])))) (ls.drop (k + 1)) := by
  have e : ls.getD k [] = ls[k] := by rw [List.getD_eq_getElem?_getD, List.getElem?_eq_getElem hk]; rfl
  rw [List.drop_eq_getElem_cons hk, e, readI]

theorem mem_flatR {x : List UInt8} : ∀ {ls : List (List UInt8)}, x ∈ ls → x.length ≤ ls.flatten.length
  | y :: r, h => by
    rw [List.flatten_cons, List.length_append]
    rcases List.mem_cons.1 h with rfl | h
    · omega
    · have := mem_flatR h; omega
theorem getD_memR {α : Type} (ls : List α) (j : Nat) (d : α) (hj : j < ls.length) : ls.getD j d ∈ ls := by
  rw [List.getD_eq_getElem?_getD, List.getElem?_eq_getElem hj]; exact List.getElem_mem hj
theorem word_lenR (b : UInt8) (x : List UInt8) (j : Nat) : ((splitL b x).getD j []).length ≤ x.length := by
  by_cases hj : j < (splitL b x).length
  · have h1 := mem_flatR (getD_memR (splitL b x) j [] hj)
    have h2 := splitGo_flat b x []
    unfold splitL at h1 ⊢
    simp at h2
    simp only [List.length_flatten] at h1
    omega
  · rw [List.getD_eq_getElem?_getD, List.getElem?_eq_none (by omega)]; simp
theorem line_lenR (l : List UInt8) (j : Nat) : ((linesL l).getD j []).length ≤ l.length := by
  by_cases hj : j < (linesL l).length
  · have h0 := getD_memR (linesL l) j [] hj
    have hm : (linesL l).getD j [] ∈ splitL 10 l := by
      unfold linesL at h0 ⊢
      split
      · rename_i h; rw [if_pos h] at h0; exact (List.dropLast_sublist _).subset h0
      · rename_i h; rw [if_neg h] at h0; exact h0
    have h1 := mem_flatR hm
    have h2 := splitGo_flat 10 l []
    unfold splitL at h1
    simp at h2
    simp only [List.length_flatten] at h1
    omega
  · rw [List.getD_eq_getElem?_getD, List.getElem?_eq_none (by omega)]; simp

theorem rtsV_set2 (ys : List RV) (nm : List UInt8) (ar : Int) (c c' : List In13) (a a' : Option Addr) (cv cv' : Nat) : (rtsV (ys ++ [((nm, ar, c), a, cv)])).set (ys.length * 3 + 2) (rvT ((nm, ar, c'), a', cv')) = rtsV (ys ++ [((nm, ar, c'), a', cv')]) := by
  rw [rtsV_append, List.set_append_right _ _ (by rw [rtsV_len]; omega), rtsV_len, show ys.length * 3 + 2 - ys.length * 3 = 2 by omega, rtsV_append]
  rfl

/-- Rows of other kinds stay. -/
def KeepR (X Y : World) : Prop := X.heap.size ≤ Y.heap.size ∧ ∀ (e size base n : Nat) (v : Value) (ys : List Value), e ≠ 50 → e ≠ 56 → X.ownsRow base e size v n ys → Y.ownsRow base e size v n ys
theorem KeepR.refl (X : World) : KeepR X X := ⟨Nat.le_refl _, fun _ _ _ _ _ _ _ _ h => h⟩
theorem KeepR.trans {X Y Z : World} (h : KeepR X Y) (k : KeepR Y Z) : KeepR X Z := ⟨Nat.le_trans h.1 k.1, fun e s b n v ys h1 h2 ho => k.2 e s b n v ys h1 h2 (h.2 e s b n v ys h1 h2 ho)⟩
theorem KeepR.below {X Y : World} (hb : Below X.heap.size X Y) : KeepR X Y := ⟨hb.size, fun _ _ _ _ _ _ _ _ ho => own_below ho hb⟩
theorem KeepR.rts {X Y : World} {base n : Nat} {v : Value} {ys : List Value} (h : X.ownsRow base 50 3 v n ys) (hg : X.grownBy Y v.ownBlock) : KeepR X Y := ⟨hg.size, fun _ _ _ _ _ _ h1 _ ho => ho.kept hg (own_typesR ho h h1)⟩
theorem KeepR.ins {X Y : World} {base n : Nat} {v : Value} {ys : List Value} (h : X.ownsRow base 56 5 v n ys) (hg : X.grownBy Y v.ownBlock) : KeepR X Y := ⟨hg.size, fun _ _ _ _ _ _ _ h2 ho => ho.kept hg (own_typesR ho h h2)⟩

/-- The routines so far. -/
structure Rd14 (w X : World) (v : Value) (xs : List RV) : Prop where
  fo : RtsOwn X w.heap.size v xs
  ap : ApartR (xs.map rvT)
  b : Below w.heap.size w X
section
variable {w X Y : World} {v : Value} {xs : List RV}
theorem Rd14.below (h : Rd14 w X v xs) (hb : Below X.heap.size X Y) : Rd14 w Y v xs := ⟨h.fo.below hb, h.ap, h.b.trans (hb.mono h.b.size)⟩
theorem Rd14.drew (h : Rd14 w X v xs) : Rd14 w X.drew v xs := h.below ⟨rfl, rfl, rfl, Nat.le_refl _, fun _ _ => rfl⟩
theorem Rd14.nil (hb : Below w.heap.size w X) : Rd14 w (X.alloc (.cells #[] 50)) (.slice (some ⟨X.heap.size, 0, none⟩) 0 0) [] :=
  ⟨⟨World.ownsRow_lit X #[] 0 hb.size (by decide) rfl, fun x hx => by cases hx⟩, ApartR.nil, hb.alloc hb.size _⟩
theorem Rd14.set (h : Rd14 w X v xs) (N j : Nat) (u : Value) (hN : w.heap.size ≤ N) (hv : v.ownBlock ≠ some N) (ht : ∀ z ∈ xs, (rvT z).ownBlock ≠ some N) : Rd14 w (X.setCell ⟨N, j, none⟩ u) v xs :=
  ⟨h.fo.kept (grown_set X N j u) (Or.inr hv) (fun z hz => Or.inr (ht z hz)), h.ap, h.b.grown (grown_set X N j u) h.b.size (fun k e => by injection e with e; omega)⟩

/-- One more routine. -/
theorem Rd14.rtK {a : Option Addr} {c : Nat} (h : Rd14 w X (.slice a xs.length c) xs) (nm : List UInt8) (ar : Int) (hn : xs.length ≤ 1048576) :
    ∃ g' c' Y, (Builtin.append_ #[24, 24] 24 #[.slice a xs.length c, .slice (some ⟨X.heap.size, 0, none⟩) 1 1]).run Tryz.prog (X.alloc (.cells #[.string ⟨nm.toArray⟩, .int .i64 ar, .slice none 0 0] 50)) = .ok (.slice (some ⟨g', 0, none⟩) (xs.length + 1) c') Y ∧ Rd14 w Y (.slice (some ⟨g', 0, none⟩) (xs.length + 1) c') (xs ++ [((nm, ar, []), none, 0)]) ∧ KeepR X Y := by
  obtain ⟨i0, hi, hz0, hz1, hz2⟩ := info_parts infoRt
  obtain ⟨W, hW⟩ : ∃ W, X.alloc (.cells #[.string ⟨nm.toArray⟩, .int .i64 ar, .slice none 0 0] 50) = W := ⟨_, rfl⟩
  have hsrc := new_rt X ((nm, ar, []), none, 0) 1
  have hr : (rvT ((nm, ar, []), none, 0)) = .slice none 0 0 := rfl
  rw [hr] at hsrc
  simp only at hsrc
  have hrow := h.fo.row.alloc (.cells #[.string ⟨nm.toArray⟩, .int .i64 ar, .slice none 0 0] 50)
  have htr : ∀ x ∈ xs, W.ownsRow w.heap.size 56 5 (rvT x) x.1.2.2.length (insV x.1.2.2) := fun x hx => by rw [← hW]; exact (h.fo.trees x hx).alloc _
  have hbW : Below w.heap.size w W := by rw [← hW]; exact h.b.alloc h.b.size _
  rw [hW] at hsrc hrow ⊢
  obtain ⟨v', Y, hrun, hown, hg, _⟩ := run_append_src (P := Tryz.prog) W w.heap.size 24 24 50 i0 _ 3 48 Tryz.underlying24 hi hz0 hz1 hz2 rfl (by decide) _ _ _ hrow (.slice (some ⟨X.heap.size, 0, none⟩) 1 1) 1 _ hsrc (by unfold maxLen; omega) (by omega) hbW.size
  obtain ⟨g', c', rfl⟩ := own_some hown (by omega)
  rw [← rtsV_append] at hown
  refine ⟨g', c', Y, hrun, ⟨⟨by rw [List.length_append]; exact hown, fun x hx => ?_⟩, ?_, hbW.grown hg hbW.size (fun k e => (hrow.lt k e).1)⟩, (KeepR.below (by rw [← hW]; exact (Below.refl _ _).alloc (Nat.le_refl _) _)).trans (KeepR.rts hrow hg)⟩
  · rcases List.mem_append.1 hx with hx | hx
    · exact (htr x hx).kept hg (own_typesR (htr x hx) hrow (by decide))
    · obtain rfl := List.mem_singleton.1 hx
      exact World.ownsRow_nil _ _ _ _
  · rw [List.map_append]
    refine h.ap.snoc (fun u _ => ?_)
    cases hu : u.ownBlock with
    | none => exact Or.inl rfl
    | some k => exact Or.inr (by simp [rvT, Value.ownBlock])

theorem Rd14.rt {a : Option Addr} {c : Nat} (h : Rd14 w X (.slice a xs.length c) xs) (nm : List UInt8) (ar : Int) (hn : xs.length ≤ 1048576) :
    ∃ g' c' Y, (Builtin.append_ #[24, 24] 24 #[.slice a xs.length c, .slice (some ⟨X.heap.size, 0, none⟩) 1 1]).run Tryz.prog (X.alloc (.cells #[.string ⟨nm.toArray⟩, .int .i64 ar, .slice none 0 0] 50)) = .ok (.slice (some ⟨g', 0, none⟩) (xs.length + 1) c') Y ∧ Rd14 w Y (.slice (some ⟨g', 0, none⟩) (xs.length + 1) c') (xs ++ [((nm, ar, []), none, 0)]) := by
  obtain ⟨g', c', Y, h1, h2, _⟩ := h.rtK nm ar hn
  exact ⟨g', c', Y, h1, h2⟩

theorem Rd14.code {gO c : Nat} {ys : List RV} {nm : List UInt8} {ar : Int} {code : List In13} {av : Option Addr} {cv : Nat} (h : Rd14 w X (.slice (some ⟨gO, 0, none⟩) (ys.length + 1) c) (ys ++ [((nm, ar, code), av, cv)])) : X.cell? ⟨gO, ys.length * 3 + 2, none⟩ = some (.slice av code.length cv) := by
  have hr := h.fo.row
  rw [show (ys ++ [((nm, ar, code), av, cv)]).length = ys.length + 1 by simp] at hr
  rw [hr.cellAt (ys.length * 3 + 2) (by omega), rtsV_append, List.getElem?_append_right (by rw [rtsV_len]; omega), rtsV_len, show ys.length * 3 + 2 - ys.length * 3 = 2 by omega]
  rfl
/-- One more instruction in the last routine's code. -/
theorem Rd14.insK {gO c : Nat} {ys : List RV} {nm : List UInt8} {ar : Int} {code : List In13} {av : Option Addr} {cv : Nat} (i : In13)
    (h : Rd14 w X (.slice (some ⟨gO, 0, none⟩) (ys.length + 1) c) (ys ++ [((nm, ar, code), av, cv)])) (hn : code.length ≤ 1048576) :
    ∃ g' c' Y, (Builtin.append_ #[48, 48] 48 #[.slice av code.length cv, .slice (some ⟨X.heap.size, 0, none⟩) 1 1]).run Tryz.prog (X.alloc (.cells #[.int .i64 i.1, .int .i64 i.2.1, .int .i64 i.2.2.1, .int .i64 i.2.2.2.1, .string ⟨i.2.2.2.2.toArray⟩] 56)) = .ok (.slice (some ⟨g', 0, none⟩) (code.length + 1) c') Y ∧
      Y.cell? ⟨gO, ys.length * 3 + 2, none⟩ = some (.slice av code.length cv) ∧ Y.frozen? ⟨gO, ys.length * 3 + 2, none⟩ = false ∧
      Rd14 w (Y.setCell ⟨gO, ys.length * 3 + 2, none⟩ (.slice (some ⟨g', 0, none⟩) (code.length + 1) c')) (.slice (some ⟨gO, 0, none⟩) (ys.length + 1) c) (ys ++ [((nm, ar, code ++ [i]), some ⟨g', 0, none⟩, c')]) ∧
      KeepR X (Y.setCell ⟨gO, ys.length * 3 + 2, none⟩ (.slice (some ⟨g', 0, none⟩) (code.length + 1) c')) := by
  obtain ⟨i0, hi, hz0, hz1, hz2⟩ := info_parts infoIns
  have hT : X.ownsRow w.heap.size 56 5 (.slice av code.length cv) code.length (insV code) := h.fo.trees ((nm, ar, code), av, cv) (by simp)
  obtain ⟨W, hW⟩ : ∃ W, X.alloc (.cells #[.int .i64 i.1, .int .i64 i.2.1, .int .i64 i.2.2.1, .int .i64 i.2.2.2.1, .string ⟨i.2.2.2.2.toArray⟩] 56) = W := ⟨_, rfl⟩
  have hTW : W.ownsRow w.heap.size 56 5 (.slice av code.length cv) code.length (insV code) := by rw [← hW]; exact hT.alloc _
  have hsW : W.heap.size = X.heap.size + 1 := by rw [← hW]; simp
  have hnew := new_ins X i
  have hgW : X.grownBy W (Value.slice av code.length cv).ownBlock := by rw [← hW]; exact World.grownBy_alloc X _ _
  rw [hW] at hnew ⊢
  obtain ⟨v', Y, hrun, hown, hg, _, hat⟩ := run_append_own_at (P := Tryz.prog) W w.heap.size 48 48 56 i0 _ 5 48 Tryz.underlying48 hi hz0 hz1 hz2 rfl (by decide) _ _ _ hTW ⟨X.heap.size, 0, none⟩ 1 1 (insV [i]) rfl hnew (insV_one _) (by unfold maxLen; omega) (by omega) (by have := h.b.size; omega)
  obtain ⟨g', c', rfl⟩ := own_some hown (by omega)
  rw [← insV_append] at hown
  have hgX : X.grownBy Y (Value.slice av code.length cv).ownBlock := hgW.trans hg
  have hrowX := h.fo.row
  have hrowY := hrowX.kept hgX (own_typesR hrowX hT (by decide))
  have hl : (ys ++ [((nm, ar, code), av, cv)]).length = ys.length + 1 := by simp
  rw [hl] at hrowY
  have hcY : Y.cell? ⟨gO, ys.length * 3 + 2, none⟩ = some (.slice av code.length cv) := by
    rw [hrowY.cellAt (ys.length * 3 + 2) (by omega), rtsV_append, List.getElem?_append_right (by rw [rtsV_len]; omega), rtsV_len, show ys.length * 3 + 2 - ys.length * 3 = 2 by omega]
    rfl
  have hs := hrowY.stored (ys.length * 3 + 2) (.slice (some ⟨g', 0, none⟩) (code.length + 1) c')
  have hsv : Value.slice (some ⟨g', 0, none⟩) (code.length + 1) c' = rvT ((nm, ar, code ++ [i]), some ⟨g', 0, none⟩, c') := by unfold rvT; simp
  have hset := rtsV_set2 ys nm ar code (code ++ [i]) av (some ⟨g', 0, none⟩) cv c'
  rw [← hsv] at hset
  rw [hset] at hs
  have hap := h.ap
  rw [List.map_append] at hap
  have hap2 := List.pairwise_append.1 hap
  have hne : ∀ z ∈ ys, (rvT z).ownBlock = none ∨ (rvT z).ownBlock ≠ (Value.slice av code.length cv).ownBlock := fun z hz => hap2.2.2 (rvT z) (List.mem_map.2 ⟨z, hz, rfl⟩) _ (by simp [rvT])
  have hgo : (Value.slice (some ⟨gO, 0, none⟩) (ys.length + 1) c).ownBlock = some gO := rfl
  refine ⟨g', c', Y, hrun, hcY, hrowY.frozenAt _, ⟨⟨?_, fun z hz => ?_⟩, ?_, ?_⟩, (KeepR.ins hT hgX).trans (KeepR.rts hrowY hs.2)⟩
  · rw [List.length_append]; exact hs.1
  · rcases List.mem_append.1 hz with hz | hz
    · have h1 := (h.fo.trees z (List.mem_append.2 (Or.inl hz))).kept hgX (hne z hz)
      exact h1.kept hs.2 (own_typesR h1 hrowY (by decide))
    · obtain rfl := List.mem_singleton.1 hz
      have h1 := hown.kept hs.2 (own_typesR hown hrowY (by decide))
      rw [← hsv]
      simpa using h1
  · rw [List.map_append]
    refine ApartR.snoc hap2.1 (fun u hu => ?_)
    obtain ⟨z, hz, rfl⟩ := List.mem_map.1 hu
    rw [← hsv]
    rcases hat with e | e
    · rw [e]; exact hne z hz
    · rw [e]
      cases hzb : (rvT z).ownBlock with
      | none => exact Or.inl rfl
      | some q =>
        have := ((h.fo.trees z (List.mem_append.2 (Or.inl hz))).lt q hzb).2
        exact Or.inr (by intro e2; injection e2 with e2; omega)
  · have hb1 := h.b.grown hgX h.b.size (fun k e => (hT.lt k e).1)
    exact hb1.grown hs.2 hb1.size (fun k e => (hrowX.lt k e).1)
theorem Rd14.ins {gO c : Nat} {ys : List RV} {nm : List UInt8} {ar : Int} {code : List In13} {av : Option Addr} {cv : Nat} (i : In13)
    (h : Rd14 w X (.slice (some ⟨gO, 0, none⟩) (ys.length + 1) c) (ys ++ [((nm, ar, code), av, cv)])) (hn : code.length ≤ 1048576) :
    ∃ g' c' Y, (Builtin.append_ #[48, 48] 48 #[.slice av code.length cv, .slice (some ⟨X.heap.size, 0, none⟩) 1 1]).run Tryz.prog (X.alloc (.cells #[.int .i64 i.1, .int .i64 i.2.1, .int .i64 i.2.2.1, .int .i64 i.2.2.2.1, .string ⟨i.2.2.2.2.toArray⟩] 56)) = .ok (.slice (some ⟨g', 0, none⟩) (code.length + 1) c') Y ∧
      Y.cell? ⟨gO, ys.length * 3 + 2, none⟩ = some (.slice av code.length cv) ∧ Y.frozen? ⟨gO, ys.length * 3 + 2, none⟩ = false ∧
      Rd14 w (Y.setCell ⟨gO, ys.length * 3 + 2, none⟩ (.slice (some ⟨g', 0, none⟩) (code.length + 1) c')) (.slice (some ⟨gO, 0, none⟩) (ys.length + 1) c) (ys ++ [((nm, ar, code ++ [i]), some ⟨g', 0, none⟩, c')]) := by
  obtain ⟨g', c', Y, h1, h2, h3, h4, _⟩ := h.insK i hn
  exact ⟨g', c', Y, h1, h2, h3, h4⟩
end

/-- The instruction that is being read: its block N; its words lie in g2. -/
structure Bi14 (w X : World) (v : Value) (xs : List RV) (N g2 : Nat) (ws : List (List UInt8)) (i : In13) : Prop where
  rd : Rd14 w X v xs
  blk : X.heap[N]? = some (.cells #[.int .i64 i.1, .int .i64 i.2.1, .int .i64 i.2.2.1, .int .i64 i.2.2.2.1, .string ⟨i.2.2.2.2.toArray⟩] 56 (0, 0))
  cw : ∀ j, j < ws.length → X.cell? ⟨g2, j, none⟩ = some (.string ⟨(ws.getD j []).toArray⟩)
  wN : w.heap.size ≤ N
  ov : v.ownBlock ≠ some N
  ot : ∀ z ∈ xs, (rvT z).ownBlock ≠ some N
  gN : g2 ≠ N
section
variable {w X Y : World} {v : Value} {xs : List RV} {N g2 : Nat} {ws : List (List UInt8)} {i i' : In13}
theorem Bi14.c0 (h : Bi14 w X v xs N g2 ws i) : X.cell? ⟨N, 0, none⟩ = some (.int .i64 i.1) := by rw [cell_of_row _ _ _ _ _ _ h.blk]; rfl
theorem Bi14.c1 (h : Bi14 w X v xs N g2 ws i) : X.cell? ⟨N, 1, none⟩ = some (.int .i64 i.2.1) := by rw [cell_of_row _ _ _ _ _ _ h.blk]; rfl
theorem Bi14.c2 (h : Bi14 w X v xs N g2 ws i) : X.cell? ⟨N, 2, none⟩ = some (.int .i64 i.2.2.1) := by rw [cell_of_row _ _ _ _ _ _ h.blk]; rfl
theorem Bi14.c3 (h : Bi14 w X v xs N g2 ws i) : X.cell? ⟨N, 3, none⟩ = some (.int .i64 i.2.2.2.1) := by rw [cell_of_row _ _ _ _ _ _ h.blk]; rfl
theorem Bi14.c4 (h : Bi14 w X v xs N g2 ws i) : X.cell? ⟨N, 4, none⟩ = some (.string ⟨i.2.2.2.2.toArray⟩) := by rw [cell_of_row _ _ _ _ _ _ h.blk]; rfl
theorem Bi14.fz (h : Bi14 w X v xs N g2 ws i) (j : Nat) : X.frozen? ⟨N, j, none⟩ = false := frozen_of_row _ _ _ _ _ h.blk
theorem Bi14.new (h : Rd14 w X v xs) (hc : ∀ j, j < ws.length → X.cell? ⟨g2, j, none⟩ = some (.string ⟨(ws.getD j []).toArray⟩)) (hg : g2 < X.heap.size) (i : In13) :
    Bi14 w (X.alloc (.cells #[.int .i64 i.1, .int .i64 i.2.1, .int .i64 i.2.2.1, .int .i64 i.2.2.2.1, .string ⟨i.2.2.2.2.toArray⟩] 56)) v xs X.heap.size g2 ws i := by
  have hb : Below X.heap.size X (X.alloc (.cells #[.int .i64 i.1, .int .i64 i.2.1, .int .i64 i.2.2.1, .int .i64 i.2.2.2.1, .string ⟨i.2.2.2.2.toArray⟩] 56)) := (Below.refl _ _).alloc (Nat.le_refl _) _
  exact ⟨h.below hb, heap_alloc_new X _, fun j hj => (hb.cell (p := ⟨g2, j, none⟩) hg).trans (hc j hj), h.b.size, fun e => by have := (h.fo.row.lt _ e).2; omega, fun z hz e => by have := ((h.fo.trees z hz).lt _ e).2; omega, Nat.ne_of_lt hg⟩
theorem Bi14.set (h : Bi14 w X v xs N g2 ws i) (j : Nat) (u : Value) (hv : (#[.int .i64 i.1, .int .i64 i.2.1, .int .i64 i.2.2.1, .int .i64 i.2.2.2.1, .string ⟨i.2.2.2.2.toArray⟩] : Array Value).setIfInBounds j u = #[.int .i64 i'.1, .int .i64 i'.2.1, .int .i64 i'.2.2.1, .int .i64 i'.2.2.2.1, .string ⟨i'.2.2.2.2.toArray⟩]) : Bi14 w (X.setCell ⟨N, j, none⟩ u) v xs N g2 ws i' :=
  ⟨h.rd.set N j u h.wN h.ov h.ot, by rw [heap_setCell_same _ _ _ _ _ _ h.blk, hv], fun q hq => (World.cell?_setCell_other _ _ _ _ (fun e => h.gN (by injection e with e; exact e.symm))).trans (h.cw q hq), h.wN, h.ov, h.ot, h.gN⟩
end

end Go.Proofs.YtogobeegibngiaaGreatDoor
