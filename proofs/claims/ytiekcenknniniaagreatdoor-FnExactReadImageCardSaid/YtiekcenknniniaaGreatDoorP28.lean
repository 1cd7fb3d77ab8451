/-
  Parts of one proof, one behind the other: ObJ, ImgR, ImgQ.
-/
import Derived.Test.YtiekcenknniniaaGreatDoorP27
import Derived.Test.YtiekcenknniniaaGreatDoorP25
import Derived.Test.YtiekcenknniniaaGreatDoorP26
import Derived.Test.YtiekcenknniniaaGreatDoorP16
import Derived.Test.YtiekcenknniniaaGreatDoorP9
import Derived.Test.YtiekcenknniniaaGreatDoorP6
import Derived.Test.YtiekcenknniniaaGreatDoorP22
import Derived.Deep.RegionHeld
import Derived.RegionTactic
import Derived.BigQuiet
import Derived.Test.YtiekcenknniniaaGreatDoorP10
import Derived.Test.YtiekcenknniniaaGreatDoorP2
import Derived.Maps.AppendAt

/-! Contracts of chapter 15's landed code: ShowObject. -/
namespace Go.Proofs.YtiekcenknniniaaGreatDoor
open Go.RowKit

theorem obLs_flat (o : Ob) : (hdLs kwObject o.1 o.2.1 ++ imLs o.2.2).flatten = showO o := by
  rw [List.flatten_append, imLs_flat, showO_eq]
  unfold hdLs objLn lineT termJ
  simp [List.map_map, Function.comp_def]

set_option maxHeartbeats 8000000 in
set_option maxRecDepth 100000 in
theorem implShowObject (nm : List UInt8) (ia : Option Addr) (il ic : Nat) (fa : Option Addr) (fl fc : Nat) (ims : List (List UInt8)) (rs : List Rt) (w : World) (h : ObOk w nm ia il ic fa fl fc ims rs) (ht : PowIs w) :
    Calls Tryz.prog 11 #[.agg #[.string ⟨nm.toArray⟩, .slice ia il ic, .slice fa fl fc]] w fun e w' => e = .returned (.string ⟨(showOb (nm, ims, rs)).toArray⟩) ∧ Below w.heap.size w w' := by
  obtain rfl : ims.length = il := h.i.1
  obtain rfl : rs.length = fl := h.r.c.1
  obtain ⟨W, hW⟩ : ∃ W, w.alloc (.cells #[.string ⟨nm.toArray⟩, .slice ia ims.length ic, .slice fa rs.length fc] 30) = W := ⟨_, rfl⟩
  have hb : Below w.heap.size w W := by rw [← hW]; exact (Below.refl _ _).alloc (Nat.le_refl _) _
  have hA : W.heap[w.heap.size]? = some (.cells #[.string ⟨nm.toArray⟩, .slice ia ims.length ic, .slice fa rs.length fc] 30) := by rw [← hW]; exact heap_alloc_new w _
  obtain ⟨D, hD⟩ : ∃ D, w.heap.size = D := ⟨_, rfl⟩
  rw [hD] at hA
  have hDl : D < W.heap.size := lt_of_block hA
  have HK : Hid (∀ Z, Below W.heap.size W Z → Z.cell? ⟨D, 0, none⟩ = some (.string ⟨nm.toArray⟩) ∧ Z.cell? ⟨D, 1, none⟩ = some (.slice ia ims.length ic) ∧ Z.cell? ⟨D, 2, none⟩ = some (.slice fa rs.length fc)) := fun Z hz => ⟨(hz.cell (p := ⟨D, 0, none⟩) hDl).trans (by simp [World.cell?, hA]), (hz.cell (p := ⟨D, 1, none⟩) hDl).trans (by simp [World.cell?, hA]), (hz.cell (p := ⟨D, 2, none⟩) hDl).trans (by simp [World.cell?, hA])⟩
  have hW2 := h.below hb
  have HC1 : Hid (_) := implObjectOk nm ia ims.length ic fa rs.length fc ims rs W hW2
  have HB : Hid (Below w.heap.size w W) := hb
  have HT : Hid (∀ X, Below W.heap.size W X → PowIs X) := fun X hX => (ht.below hb).below hX
  obtain ⟨k0, k1, k2⟩ := HK.out W (Below.refl _ _)
  rcases hp : objB (nm, ims, rs) with _ | _
  · have HS : Hid (showOb (nm, ims, rs) = []) := obj_not hp
    rw [hp] at HC1
    generalize showOb (nm, ims, rs) = out at HS ⊢
    clear h ht hp hW2 hb hA
    go_enter Tryz.func11, Tryz.ntmps11
    go_wp2_with fail
    refine Calls.mono HC1.out ?_
    rintro e w1 ⟨rfl, hb1⟩
    go_wp2
    go_ret
    exact ⟨by rw [HS.out]; rfl, HB.out.trans (hb1.mono HB.out.size)⟩
  · have HS : Hid (showOb (nm, ims, rs) = (hdLs kwObject nm ims ++ imLs rs).flatten) := by exact (by rw [obLs_flat (nm, ims, rs)]; exact if_pos hp : showOb (nm, ims, rs) = (hdLs kwObject nm ims ++ imLs rs).flatten)
    have HFl : Hid ((hdLs kwObject nm ims ++ imLs rs).flatten.length ≤ 100000) := by exact (by rw [obLs_flat (nm, ims, rs)]; exact showO_len hp : (hdLs kwObject nm ims ++ imLs rs).flatten.length ≤ 100000)
    have hP := objB_parts hp
    have hl8 := hP.l
    simp only at hl8
    have him := obj_imn hp
    simp only at him
    have hnm : nm.length ≤ 8 := (name_letters hP.nm).1.2
    have hil2 : (imLs rs).length ≤ 12864 := by
      have h1 := imLs_bd (obj_rts hp) (by simp only; omega) rs.length
      rw [List.take_of_length_le (Nat.le_refl _)] at h1
      exact h1
    have hil1 : (hdLs kwObject nm ims).length = ims.length + 1 := hdLs_len kwObject nm ims
    have HHd : Hid (∀ X, Below W.heap.size W X → Calls Tryz.prog 38 #[.string ⟨kwObject.toArray⟩, .string ⟨nm.toArray⟩, .slice ia ims.length ic] X fun e w' => ∃ v, e = .returned v ∧ w'.ownsRow X.heap.size 9 1 v (ims.length + 1) (strV (hdLs kwObject nm ims)) ∧ Below X.heap.size X w') := fun X hX => implHeadLines kwObject nm ia ic ims X (hW2.i.below hX) (by simp [kwObject]) (by omega) him.2 (by omega)
    have HLs : Hid (∀ X, Below W.heap.size W X → Calls Tryz.prog 40 #[.slice fa rs.length fc] X fun e w' => ∃ v, e = .returned v ∧ w'.ownsRow X.heap.size 9 1 v (imLs rs).length (strV (imLs rs)) ∧ Below X.heap.size X w') := fun X hX => implLinesOfRts fa rs.length fc rs X (hW2.r.c.below hX) (obj_rts hp) (by omega) (HT.out X hX)
    rw [hp] at HC1
    generalize showOb (nm, ims, rs) = out at HS ⊢
    obtain ⟨n, hnn⟩ : ∃ n, rs.length = n := ⟨_, rfl⟩
    obtain ⟨q, hqq⟩ : ∃ q, ims.length = q := ⟨_, rfl⟩
    rw [hnn] at HC1 hW HK HLs k2 hl8 ⊢
    rw [hqq] at HC1 hW HK HHd k1 him hil1 ⊢
    generalize hdLs kwObject nm ims = A at HS HFl hil1 HHd
    generalize imLs rs = C at HS HFl hil2 HLs
    unfold kwObject at HHd
    have hq6 : q ≤ 6 := him.1
    clear h ht hp hW2 hb hA hP him hnn hqq
    go_enter Tryz.func11, Tryz.ntmps11
    go_wp2_with fail
    refine Calls.mono HC1.out ?_
    rintro e w1 ⟨rfl, hb1⟩
    replace k0 := (HK.out _ hb1).1
    replace k1 := (HK.out _ hb1).2.1
    replace k2 := (HK.out _ hb1).2.2
    go_wp2_with fail
    refine Calls.mono (HHd.out _ hb1) ?_
    rintro e w2 ⟨v, rfl, hv, hb2⟩
    have hB2 := hb1.trans (hb2.mono hb1.size)
    replace k0 := (HK.out _ hB2).1
    replace k1 := (HK.out _ hB2).2.1
    replace k2 := (HK.out _ hB2).2.2
    go_wp2_with fail
    refine Calls.mono (HLs.out _ hB2) ?_
    rintro e w3 ⟨v2, rfl, hv2, hb3⟩
    have hB3 := hB2.trans (hb3.mono hB2.size)
    have hv3 := own_base (own_below hv hb3) hb1.size
    obtain ⟨i0, hi, hz0, hz1, hz2⟩ := info_parts info9
    obtain ⟨v', Y2, hrun, hown, hg, _⟩ := run_append_src (P := Tryz.prog) w3 W.heap.size 22 22 9 i0 _ 1 16 Tryz.underlying22 hi hz0 hz1 hz2 rfl (by decide) _ _ _ hv3 v2 C.length (strV C) (own_srcL hv2 (strV_oneL _)) (by unfold maxLen; omega) (by omega) hB3.size
    have HBY : Hid (Below W.heap.size W Y2) := hB3.grown hg hB3.size (fun q e => (hv3.lt q e).1)
    have hown2 : Y2.ownsRow W.heap.size 9 1 v' (A ++ C).length (strV (A ++ C)) := by
      rw [List.length_append, hil1, show strV (A ++ C) = strV A ++ strV C by simp [strV]]
      exact hown
    obtain ⟨_, av, cv, hve, hin⟩ := own_texts hown2
    have hlen3 : (A ++ C).length ≤ 1048576 := by rw [List.length_append]; omega
    have HJ : Hid (_) := implJoined av (A ++ C).length cv (A ++ C) Y2 hin (by have := HFl.out; omega) (by omega)
    subst hve
    generalize (A ++ C).flatten = fl at HS HJ
    generalize (A ++ C).length = nl at HJ hrun
    clear hv hv2 hv3 hown hown2 hin hb1 hb2 hb3 hB2 hB3 hg hi hz0 hz1 hz2 HFl hlen3
    go_wp2_with (at_builtin; refine wpList_append_run rfl (.tmp 12) (.tmp 15) 22 rfl _ _ _ rfl rfl hrun ?_; clear hrun)
    refine Calls.mono HJ.out ?_
    rintro e w7 ⟨rfl, hb7⟩
    have HB8 : Hid (Below w.heap.size w w7) := HB.out.trans ((HBY.out.trans (hb7.mono HBY.out.size)).mono HB.out.size)
    clear hb7
    go_wp2
    go_ret
    exact ⟨by rw [HS.out]; rfl, by first | exact HB8.out | (rw [hD]; exact HB8.out) | (rw [← hD]; exact HB8.out)⟩

end Go.Proofs.YtiekcenknniniaaGreatDoor

/-! How an image runs, as the specification's walk holds it: the run's block, its row of registers, one instruction. -/
namespace Go.Proofs.YtiekcenknniniaaGreatDoor
open Go.RowKit

section
variable {rs : List Rt} {m k : Nat} {xs row row2 : List Int} {p p2 : Int}
end
/-- What an instruction of right code asks. -/
structure Ir14 (rs : List Rt) (k p : Nat) (i : In13) : Prop where
  e : (rs.getD k rt0).2.2.getD p in0 = i
  ok : insP i
  nx : i.1 ≠ 8 → i.1 ≠ 10 → p + 1 < (rs.getD k rt0).2.2.length
  pl : i.1 = 7 ∨ i.1 = 8 → i.2.2.1 < ((rs.getD k rt0).2.2.length : Int)
  ar : i.1 = 2 → i.2.2.1 < (rs.getD k rt0).2.1
  ca : i.1 = 9 → 0 ≤ at14 rs i.2.2.2.2 ∧ at14 rs i.2.2.2.2 < rs.length ∧ (rs.getD (at14 rs i.2.2.2.2).toNat rt0).2.1 = i.2.2.1
section
variable {rs : List Rt} {k p : Nat} {xs row : List Int} {i : In13}
theorem Ir14.s3 (h : Ir14 rs k p i) (hk : 3 ≤ i.1 ∧ i.1 ≤ 6) : step14 rs k xs row (p : Int) = if doneB i.1 (row.getD i.2.2.1.toNat 0) (row.getD i.2.2.2.1.toNat 0) = true then .go (row.set i.2.1.toNat (doneV i.1 (row.getD i.2.2.1.toNat 0) (row.getD i.2.2.2.1.toNat 0))) ((p : Int) + 1) else .stop 0 1 := by
  unfold step14; simp only [Int.toNat_natCast, h.e]; rw [if_neg (by omega), if_neg (by omega), if_neg (by omega), if_neg (by omega), if_neg (by omega), if_neg (by omega)]
end
end Go.Proofs.YtiekcenknniniaaGreatDoor

/-! What reading an image holds: the routines so far, and the instruction that is being read. -/
namespace Go.Proofs.YtiekcenknniniaaGreatDoor
open Go.RowKit

theorem readI_at (O : List Rt) (ls : List (List UInt8)) (k : Nat) (hk : k < ls.length) : readI O (ls.drop k) =
    if (splitL 32 (ls.getD k [])).length = 4 ∧ (splitL 32 (ls.getD k [])).getD 0 [] = kwRt then readI (O ++ [((splitL 32 (ls.getD k [])).getD 1 [], readV ((splitL 32 (ls.getD k [])).getD 2 []), [])]) (ls.drop (k + 1))
    else if (splitL 32 (ls.getD k [])).length ≠ 5 ∨ O = [] then []
    else readI (addI O (insRd (splitL 32 (ls.getD k [])))) (ls.drop (k + 1)) := by
  have e : ls.getD k [] = ls[k] := by rw [List.getD_eq_getElem?_getD, List.getElem?_eq_getElem hk]; rfl
  rw [List.drop_eq_getElem_cons hk, e, readI]

theorem mem_flatR {x : List UInt8} : ∀ {ls : List (List UInt8)}, x ∈ ls → x.length ≤ ls.flatten.length
  | y :: r, h => by
    rw [List.flatten_cons, List.length_append]
    rcases List.mem_cons.1 h with rfl | h
    · omega
    · have := mem_flatR h; omega
theorem getD_memR {α : Type} (ls : List α) (j : Nat) (d : α) (hj : j < ls.length) : ls.getD j d ∈ ls := by
  rw [List.getD_eq_getElem?_getD, List.getElem?_eq_getElem hj]; exact List.getElem_mem hj
theorem word_lenR (b : UInt8) (x : List UInt8) (j : Nat) : ((splitL b x).getD j []).length ≤ x.length := by
  by_cases hj : j < (splitL b x).length
  · have h1 := mem_flatR (getD_memR (splitL b x) j [] hj)
    have h2 := splitGo_flat b x []
    unfold splitL at h1 ⊢
    simp at h2
    simp only [List.length_flatten] at h1
    omega
  · rw [List.getD_eq_getElem?_getD, List.getElem?_eq_none (by omega)]; simp
theorem line_lenR (l : List UInt8) (j : Nat) : ((linesL l).getD j []).length ≤ l.length := by
  by_cases hj : j < (linesL l).length
  · have h0 := getD_memR (linesL l) j [] hj
    have hm : (linesL l).getD j [] ∈ splitL 10 l := by
      unfold linesL at h0 ⊢
      split
      · rename_i h; rw [if_pos h] at h0; exact (List.dropLast_sublist _).subset h0
      · rename_i h; rw [if_neg h] at h0; exact h0
    have h1 := mem_flatR hm
    have h2 := splitGo_flat 10 l []
    unfold splitL at h1
    simp at h2
    simp only [List.length_flatten] at h1
    omega
  · rw [List.getD_eq_getElem?_getD, List.getElem?_eq_none (by omega)]; simp

theorem rtsV_set2 (ys : List RV) (nm : List UInt8) (ar : Int) (c c' : List In13) (a a' : Option Addr) (cv cv' : Nat) : (rtsV (ys ++ [((nm, ar, c), a, cv)])).set (ys.length * 3 + 2) (rvT ((nm, ar, c'), a', cv')) = rtsV (ys ++ [((nm, ar, c'), a', cv')]) := by
  rw [rtsV_append, List.set_append_right _ _ (by rw [rtsV_len]; omega), rtsV_len, show ys.length * 3 + 2 - ys.length * 3 = 2 by omega, rtsV_append]
  rfl

/-- Rows of other kinds stay. -/
def KeepR (X Y : World) : Prop := X.heap.size ≤ Y.heap.size ∧ ∀ (e size base n : Nat) (v : Value) (ys : List Value), e ≠ 101 → e ≠ 104 → X.ownsRow base e size v n ys → Y.ownsRow base e size v n ys
theorem KeepR.refl (X : World) : KeepR X X := ⟨Nat.le_refl _, fun _ _ _ _ _ _ _ _ h => h⟩
theorem KeepR.trans {X Y Z : World} (h : KeepR X Y) (k : KeepR Y Z) : KeepR X Z := ⟨Nat.le_trans h.1 k.1, fun e s b n v ys h1 h2 ho => k.2 e s b n v ys h1 h2 (h.2 e s b n v ys h1 h2 ho)⟩
theorem KeepR.below {X Y : World} (hb : Below X.heap.size X Y) : KeepR X Y := ⟨hb.size, fun _ _ _ _ _ _ _ _ ho => own_below ho hb⟩
theorem KeepR.rts {X Y : World} {base n : Nat} {v : Value} {ys : List Value} (h : X.ownsRow base 101 3 v n ys) (hg : X.grownBy Y v.ownBlock) : KeepR X Y := ⟨hg.size, fun _ _ _ _ _ _ h1 _ ho => ho.kept hg (own_typesR ho h h1)⟩
theorem KeepR.ins {X Y : World} {base n : Nat} {v : Value} {ys : List Value} (h : X.ownsRow base 104 5 v n ys) (hg : X.grownBy Y v.ownBlock) : KeepR X Y := ⟨hg.size, fun _ _ _ _ _ _ _ h2 ho => ho.kept hg (own_typesR ho h h2)⟩

/-- The routines so far. -/
structure Rd14 (w X : World) (v : Value) (xs : List RV) : Prop where
  fo : RtsOwn X w.heap.size v xs
  ap : ApartR (xs.map rvT)
  b : Below w.heap.size w X
section
variable {w X Y : World} {v : Value} {xs : List RV}
theorem Rd14.below (h : Rd14 w X v xs) (hb : Below X.heap.size X Y) : Rd14 w Y v xs := ⟨h.fo.below hb, h.ap, h.b.trans (hb.mono h.b.size)⟩
theorem Rd14.drew (h : Rd14 w X v xs) : Rd14 w X.drew v xs := h.below ⟨rfl, rfl, rfl, Nat.le_refl _, fun _ _ => rfl⟩
theorem Rd14.nil (hb : Below w.heap.size w X) : Rd14 w (X.alloc (.cells #[] 101)) (.slice (some ⟨X.heap.size, 0, none⟩) 0 0) [] :=
  ⟨⟨World.ownsRow_lit X #[] 0 hb.size (by decide) rfl, fun x hx => by cases hx⟩, ApartR.nil, hb.alloc hb.size _⟩
theorem Rd14.set (h : Rd14 w X v xs) (N j : Nat) (u : Value) (hN : w.heap.size ≤ N) (hv : v.ownBlock ≠ some N) (ht : ∀ z ∈ xs, (rvT z).ownBlock ≠ some N) : Rd14 w (X.setCell ⟨N, j, none⟩ u) v xs :=
  ⟨h.fo.kept (grown_set X N j u) (Or.inr hv) (fun z hz => Or.inr (ht z hz)), h.ap, h.b.grown (grown_set X N j u) h.b.size (fun k e => by injection e with e; omega)⟩

/-- One more routine. -/
theorem Rd14.rtK {a : Option Addr} {c : Nat} (h : Rd14 w X (.slice a xs.length c) xs) (nm : List UInt8) (ar : Int) (hn : xs.length ≤ 1048576) :
    ∃ g' c' Y, (Builtin.append_ #[28, 28] 28 #[.slice a xs.length c, .slice (some ⟨X.heap.size, 0, none⟩) 1 1]).run Tryz.prog (X.alloc (.cells #[.string ⟨nm.toArray⟩, .int .i64 ar, .slice none 0 0] 101)) = .ok (.slice (some ⟨g', 0, none⟩) (xs.length + 1) c') Y ∧ Rd14 w Y (.slice (some ⟨g', 0, none⟩) (xs.length + 1) c') (xs ++ [((nm, ar, []), none, 0)]) ∧ KeepR X Y := by
  obtain ⟨i0, hi, hz0, hz1, hz2⟩ := info_parts infoRt
  obtain ⟨W, hW⟩ : ∃ W, X.alloc (.cells #[.string ⟨nm.toArray⟩, .int .i64 ar, .slice none 0 0] 101) = W := ⟨_, rfl⟩
  have hsrc := new_rt X ((nm, ar, []), none, 0) 1
  have hr : (rvT ((nm, ar, []), none, 0)) = .slice none 0 0 := rfl
  rw [hr] at hsrc
  simp only at hsrc
  have hrow := h.fo.row.alloc (.cells #[.string ⟨nm.toArray⟩, .int .i64 ar, .slice none 0 0] 101)
  have htr : ∀ x ∈ xs, W.ownsRow w.heap.size 104 5 (rvT x) x.1.2.2.length (insV x.1.2.2) := fun x hx => by rw [← hW]; exact (h.fo.trees x hx).alloc _
  have hbW : Below w.heap.size w W := by rw [← hW]; exact h.b.alloc h.b.size _
  rw [hW] at hsrc hrow ⊢
  obtain ⟨v', Y, hrun, hown, hg, _⟩ := run_append_src (P := Tryz.prog) W w.heap.size 28 28 101 i0 _ 3 48 Tryz.underlying28 hi hz0 hz1 hz2 rfl (by decide) _ _ _ hrow (.slice (some ⟨X.heap.size, 0, none⟩) 1 1) 1 _ hsrc (by unfold maxLen; omega) (by omega) hbW.size
  obtain ⟨g', c', rfl⟩ := own_some hown (by omega)
  rw [← rtsV_append] at hown
  refine ⟨g', c', Y, hrun, ⟨⟨by rw [List.length_append]; exact hown, fun x hx => ?_⟩, ?_, hbW.grown hg hbW.size (fun k e => (hrow.lt k e).1)⟩, (KeepR.below (by rw [← hW]; exact (Below.refl _ _).alloc (Nat.le_refl _) _)).trans (KeepR.rts hrow hg)⟩
  · rcases List.mem_append.1 hx with hx | hx
    · exact (htr x hx).kept hg (own_typesR (htr x hx) hrow (by decide))
    · obtain rfl := List.mem_singleton.1 hx
      exact World.ownsRow_nil _ _ _ _
  · rw [List.map_append]
    refine h.ap.snoc (fun u _ => ?_)
    cases hu : u.ownBlock with
    | none => exact Or.inl rfl
    | some k => exact Or.inr (by simp [rvT, Value.ownBlock])

theorem Rd14.rt {a : Option Addr} {c : Nat} (h : Rd14 w X (.slice a xs.length c) xs) (nm : List UInt8) (ar : Int) (hn : xs.length ≤ 1048576) :
    ∃ g' c' Y, (Builtin.append_ #[28, 28] 28 #[.slice a xs.length c, .slice (some ⟨X.heap.size, 0, none⟩) 1 1]).run Tryz.prog (X.alloc (.cells #[.string ⟨nm.toArray⟩, .int .i64 ar, .slice none 0 0] 101)) = .ok (.slice (some ⟨g', 0, none⟩) (xs.length + 1) c') Y ∧ Rd14 w Y (.slice (some ⟨g', 0, none⟩) (xs.length + 1) c') (xs ++ [((nm, ar, []), none, 0)]) := by
  obtain ⟨g', c', Y, h1, h2, _⟩ := h.rtK nm ar hn
  exact ⟨g', c', Y, h1, h2⟩

theorem Rd14.code {gO c : Nat} {ys : List RV} {nm : List UInt8} {ar : Int} {code : List In13} {av : Option Addr} {cv : Nat} (h : Rd14 w X (.slice (some ⟨gO, 0, none⟩) (ys.length + 1) c) (ys ++ [((nm, ar, code), av, cv)])) : X.cell? ⟨gO, ys.length * 3 + 2, none⟩ = some (.slice av code.length cv) := by
  have hr := h.fo.row
  rw [show (ys ++ [((nm, ar, code), av, cv)]).length = ys.length + 1 by simp] at hr
  rw [hr.cellAt (ys.length * 3 + 2) (by omega), rtsV_append, List.getElem?_append_right (by rw [rtsV_len]; omega), rtsV_len, show ys.length * 3 + 2 - ys.length * 3 = 2 by omega]
  rfl
/-- One more instruction in the last routine's code. -/
theorem Rd14.insK {gO c : Nat} {ys : List RV} {nm : List UInt8} {ar : Int} {code : List In13} {av : Option Addr} {cv : Nat} (i : In13)
    (h : Rd14 w X (.slice (some ⟨gO, 0, none⟩) (ys.length + 1) c) (ys ++ [((nm, ar, code), av, cv)])) (hn : code.length ≤ 1048576) :
    ∃ g' c' Y, (Builtin.append_ #[99, 99] 99 #[.slice av code.length cv, .slice (some ⟨X.heap.size, 0, none⟩) 1 1]).run Tryz.prog (X.alloc (.cells #[.int .i64 i.1, .int .i64 i.2.1, .int .i64 i.2.2.1, .int .i64 i.2.2.2.1, .string ⟨i.2.2.2.2.toArray⟩] 104)) = .ok (.slice (some ⟨g', 0, none⟩) (code.length + 1) c') Y ∧
      Y.cell? ⟨gO, ys.length * 3 + 2, none⟩ = some (.slice av code.length cv) ∧ Y.frozen? ⟨gO, ys.length * 3 + 2, none⟩ = false ∧
      Rd14 w (Y.setCell ⟨gO, ys.length * 3 + 2, none⟩ (.slice (some ⟨g', 0, none⟩) (code.length + 1) c')) (.slice (some ⟨gO, 0, none⟩) (ys.length + 1) c) (ys ++ [((nm, ar, code ++ [i]), some ⟨g', 0, none⟩, c')]) ∧
      KeepR X (Y.setCell ⟨gO, ys.length * 3 + 2, none⟩ (.slice (some ⟨g', 0, none⟩) (code.length + 1) c')) := by
  obtain ⟨i0, hi, hz0, hz1, hz2⟩ := info_parts infoIns
  have hT : X.ownsRow w.heap.size 104 5 (.slice av code.length cv) code.length (insV code) := h.fo.trees ((nm, ar, code), av, cv) (by simp)
  obtain ⟨W, hW⟩ : ∃ W, X.alloc (.cells #[.int .i64 i.1, .int .i64 i.2.1, .int .i64 i.2.2.1, .int .i64 i.2.2.2.1, .string ⟨i.2.2.2.2.toArray⟩] 104) = W := ⟨_, rfl⟩
  have hTW : W.ownsRow w.heap.size 104 5 (.slice av code.length cv) code.length (insV code) := by rw [← hW]; exact hT.alloc _
  have hsW : W.heap.size = X.heap.size + 1 := by rw [← hW]; simp
  have hnew := new_ins X i
  have hgW : X.grownBy W (Value.slice av code.length cv).ownBlock := by rw [← hW]; exact World.grownBy_alloc X _ _
  rw [hW] at hnew ⊢
  obtain ⟨v', Y, hrun, hown, hg, _, hat⟩ := run_append_own_at (P := Tryz.prog) W w.heap.size 99 99 104 i0 _ 5 48 Tryz.underlying99 hi hz0 hz1 hz2 rfl (by decide) _ _ _ hTW ⟨X.heap.size, 0, none⟩ 1 1 (insV [i]) rfl hnew (insV_one _) (by unfold maxLen; omega) (by omega) (by have := h.b.size; omega)
  obtain ⟨g', c', rfl⟩ := own_some hown (by omega)
  rw [← insV_append] at hown
  have hgX : X.grownBy Y (Value.slice av code.length cv).ownBlock := hgW.trans hg
  have hrowX := h.fo.row
  have hrowY := hrowX.kept hgX (own_typesR hrowX hT (by decide))
  have hl : (ys ++ [((nm, ar, code), av, cv)]).length = ys.length + 1 := by simp
  rw [hl] at hrowY
  have hcY : Y.cell? ⟨gO, ys.length * 3 + 2, none⟩ = some (.slice av code.length cv) := by
    rw [hrowY.cellAt (ys.length * 3 + 2) (by omega), rtsV_append, List.getElem?_append_right (by rw [rtsV_len]; omega), rtsV_len, show ys.length * 3 + 2 - ys.length * 3 = 2 by omega]
    rfl
  have hs := hrowY.stored (ys.length * 3 + 2) (.slice (some ⟨g', 0, none⟩) (code.length + 1) c')
  have hsv : Value.slice (some ⟨g', 0, none⟩) (code.length + 1) c' = rvT ((nm, ar, code ++ [i]), some ⟨g', 0, none⟩, c') := by unfold rvT; simp
  have hset := rtsV_set2 ys nm ar code (code ++ [i]) av (some ⟨g', 0, none⟩) cv c'
  rw [← hsv] at hset
  rw [hset] at hs
  have hap := h.ap
  rw [List.map_append] at hap
  have hap2 := List.pairwise_append.1 hap
  have hne : ∀ z ∈ ys, (rvT z).ownBlock = none ∨ (rvT z).ownBlock ≠ (Value.slice av code.length cv).ownBlock := fun z hz => hap2.2.2 (rvT z) (List.mem_map.2 ⟨z, hz, rfl⟩) _ (by simp [rvT])
  have hgo : (Value.slice (some ⟨gO, 0, none⟩) (ys.length + 1) c).ownBlock = some gO := rfl
  refine ⟨g', c', Y, hrun, hcY, hrowY.frozenAt _, ⟨⟨?_, fun z hz => ?_⟩, ?_, ?_⟩, (KeepR.ins hT hgX).trans (KeepR.rts hrowY hs.2)⟩
  · rw [List.length_append]; exact hs.1
  · rcases List.mem_append.1 hz with hz | hz
    · have h1 := (h.fo.trees z (List.mem_append.2 (Or.inl hz))).kept hgX (hne z hz)
      exact h1.kept hs.2 (own_typesR h1 hrowY (by decide))
    · obtain rfl := List.mem_singleton.1 hz
      have h1 := hown.kept hs.2 (own_typesR hown hrowY (by decide))
      rw [← hsv]
      simpa using h1
  · rw [List.map_append]
    refine ApartR.snoc hap2.1 (fun u hu => ?_)
    obtain ⟨z, hz, rfl⟩ := List.mem_map.1 hu
    rw [← hsv]
    rcases hat with e | e
    · rw [e]; exact hne z hz
    · rw [e]
      cases hzb : (rvT z).ownBlock with
      | none => exact Or.inl rfl
      | some q =>
        have := ((h.fo.trees z (List.mem_append.2 (Or.inl hz))).lt q hzb).2
        exact Or.inr (by intro e2; injection e2 with e2; omega)
  · have hb1 := h.b.grown hgX h.b.size (fun k e => (hT.lt k e).1)
    exact hb1.grown hs.2 hb1.size (fun k e => (hrowX.lt k e).1)
theorem Rd14.ins {gO c : Nat} {ys : List RV} {nm : List UInt8} {ar : Int} {code : List In13} {av : Option Addr} {cv : Nat} (i : In13)
    (h : Rd14 w X (.slice (some ⟨gO, 0, none⟩) (ys.length + 1) c) (ys ++ [((nm, ar, code), av, cv)])) (hn : code.length ≤ 1048576) :
    ∃ g' c' Y, (Builtin.append_ #[99, 99] 99 #[.slice av code.length cv, .slice (some ⟨X.heap.size, 0, none⟩) 1 1]).run Tryz.prog (X.alloc (.cells #[.int .i64 i.1, .int .i64 i.2.1, .int .i64 i.2.2.1, .int .i64 i.2.2.2.1, .string ⟨i.2.2.2.2.toArray⟩] 104)) = .ok (.slice (some ⟨g', 0, none⟩) (code.length + 1) c') Y ∧
      Y.cell? ⟨gO, ys.length * 3 + 2, none⟩ = some (.slice av code.length cv) ∧ Y.frozen? ⟨gO, ys.length * 3 + 2, none⟩ = false ∧
      Rd14 w (Y.setCell ⟨gO, ys.length * 3 + 2, none⟩ (.slice (some ⟨g', 0, none⟩) (code.length + 1) c')) (.slice (some ⟨gO, 0, none⟩) (ys.length + 1) c) (ys ++ [((nm, ar, code ++ [i]), some ⟨g', 0, none⟩, c')]) := by
  obtain ⟨g', c', Y, h1, h2, h3, h4, _⟩ := h.insK i hn
  exact ⟨g', c', Y, h1, h2, h3, h4⟩
end

/-- The instruction that is being read: its block N; its words lie in g2. -/
structure Bi14 (w X : World) (v : Value) (xs : List RV) (N g2 : Nat) (ws : List (List UInt8)) (i : In13) : Prop where
  rd : Rd14 w X v xs
  blk : X.heap[N]? = some (.cells #[.int .i64 i.1, .int .i64 i.2.1, .int .i64 i.2.2.1, .int .i64 i.2.2.2.1, .string ⟨i.2.2.2.2.toArray⟩] 104 (0, 0))
  cw : ∀ j, j < ws.length → X.cell? ⟨g2, j, none⟩ = some (.string ⟨(ws.getD j []).toArray⟩)
  wN : w.heap.size ≤ N
  ov : v.ownBlock ≠ some N
  ot : ∀ z ∈ xs, (rvT z).ownBlock ≠ some N
  gN : g2 ≠ N
section
variable {w X Y : World} {v : Value} {xs : List RV} {N g2 : Nat} {ws : List (List UInt8)} {i i' : In13}
theorem Bi14.c0 (h : Bi14 w X v xs N g2 ws i) : X.cell? ⟨N, 0, none⟩ = some (.int .i64 i.1) := by rw [cell_of_row _ _ _ _ _ _ h.blk]; rfl
theorem Bi14.c1 (h : Bi14 w X v xs N g2 ws i) : X.cell? ⟨N, 1, none⟩ = some (.int .i64 i.2.1) := by rw [cell_of_row _ _ _ _ _ _ h.blk]; rfl
theorem Bi14.c2 (h : Bi14 w X v xs N g2 ws i) : X.cell? ⟨N, 2, none⟩ = some (.int .i64 i.2.2.1) := by rw [cell_of_row _ _ _ _ _ _ h.blk]; rfl
theorem Bi14.c3 (h : Bi14 w X v xs N g2 ws i) : X.cell? ⟨N, 3, none⟩ = some (.int .i64 i.2.2.2.1) := by rw [cell_of_row _ _ _ _ _ _ h.blk]; rfl
theorem Bi14.c4 (h : Bi14 w X v xs N g2 ws i) : X.cell? ⟨N, 4, none⟩ = some (.string ⟨i.2.2.2.2.toArray⟩) := by rw [cell_of_row _ _ _ _ _ _ h.blk]; rfl
theorem Bi14.fz (h : Bi14 w X v xs N g2 ws i) (j : Nat) : X.frozen? ⟨N, j, none⟩ = false := frozen_of_row _ _ _ _ _ h.blk
theorem Bi14.new (h : Rd14 w X v xs) (hc : ∀ j, j < ws.length → X.cell? ⟨g2, j, none⟩ = some (.string ⟨(ws.getD j []).toArray⟩)) (hg : g2 < X.heap.size) (i : In13) :
    Bi14 w (X.alloc (.cells #[.int .i64 i.1, .int .i64 i.2.1, .int .i64 i.2.2.1, .int .i64 i.2.2.2.1, .string ⟨i.2.2.2.2.toArray⟩] 104)) v xs X.heap.size g2 ws i := by
  have hb : Below X.heap.size X (X.alloc (.cells #[.int .i64 i.1, .int .i64 i.2.1, .int .i64 i.2.2.1, .int .i64 i.2.2.2.1, .string ⟨i.2.2.2.2.toArray⟩] 104)) := (Below.refl _ _).alloc (Nat.le_refl _) _
  exact ⟨h.below hb, heap_alloc_new X _, fun j hj => (hb.cell (p := ⟨g2, j, none⟩) hg).trans (hc j hj), h.b.size, fun e => by have := (h.fo.row.lt _ e).2; omega, fun z hz e => by have := ((h.fo.trees z hz).lt _ e).2; omega, Nat.ne_of_lt hg⟩
theorem Bi14.set (h : Bi14 w X v xs N g2 ws i) (j : Nat) (u : Value) (hv : (#[.int .i64 i.1, .int .i64 i.2.1, .int .i64 i.2.2.1, .int .i64 i.2.2.2.1, .string ⟨i.2.2.2.2.toArray⟩] : Array Value).setIfInBounds j u = #[.int .i64 i'.1, .int .i64 i'.2.1, .int .i64 i'.2.2.1, .int .i64 i'.2.2.2.1, .string ⟨i'.2.2.2.2.toArray⟩]) : Bi14 w (X.setCell ⟨N, j, none⟩ u) v xs N g2 ws i' :=
  ⟨h.rd.set N j u h.wN h.ov h.ot, by rw [heap_setCell_same _ _ _ _ _ _ h.blk, hv], fun q hq => (World.cell?_setCell_other _ _ _ _ (fun e => h.gN (by injection e with e; exact e.symm))).trans (h.cw q hq), h.wN, h.ov, h.ot, h.gN⟩
end

end Go.Proofs.YtiekcenknniniaaGreatDoor
