/-
  Parts of one proof, one behind the other: LkF, LkG.
-/
import Derived.Test.YteolfnceobjonaaGreatP20
import Derived.Test.YteolfnceobjonaaGreatP16
import Derived.Test.YteolfnceobjonaaGreatP12
import Derived.Test.YteolfnceobjonaaGreatP7
import Derived.Deep.RegionHeld3

/-! Contracts of chapter 16's landed code: Defined, Missing, linkCode. -/
namespace Go.Proofs.YteolfnceobjonaaGreat
open Go.RowKit Go.Maps

theorem calls16_small {rs : List Rt} (h : ∀ r ∈ rs, rtB r = true) : (calls16 rs).length ≤ 200 * rs.length := by
  induction rs with
  | nil => simp [calls16]
  | cons r rs ih =>
    have h1 := ih (fun x hx => h x (List.mem_cons_of_mem _ hx))
    have h2 := (codeB_len (rtB_parts (h r List.mem_cons_self)).2.2.1).2
    have h3 : (calR r.2.2).length ≤ r.2.2.length := by unfold calR; rw [List.length_map]; exact List.length_filter_le _ _
    simp only [calls16, List.flatMap_cons, List.length_append, List.length_cons] at h1 ⊢
    omega
/-- The bounds of what is put together. -/
structure Sm16 (rs : List Rt) : Prop where
  l : rs.length ≤ 64
  rt : ∀ r ∈ rs, rtB r = true
  nm : ∀ j, (rs.getD j rt0).1.length ≤ 1048576
  cd : ∀ j, (rs.getD j rt0).2.2.length ≤ 1048576
  cl : (calls16 rs).length ≤ 12800
  cn : ∀ c ∈ calls16 rs, c.1.length ≤ 1048576
theorem sm16 {os : List Ob} (h : objsB os = true) : Sm16 (rts16 os) := by
  have hrt : ∀ r ∈ rts16 os, rtB r = true := fun r hr => rts16_rt h hr
  have hl : (rts16 os).length ≤ 64 := by
    have h1 := (rts16_len (objsB_parts h).1).2
    have h2 := (objsB_parts h).2
    omega
  have hs := (rts_ok hrt).2
  refine ⟨hl, hrt, fun j => (hs j).1, fun j => (hs j).2.1, by have := calls16_small hrt; omega, fun c hc => ?_⟩
  obtain ⟨r, hr, i, hi, _, rfl⟩ := calls16_mem.1 hc
  obtain ⟨j, hj, rfl⟩ := List.mem_iff_getElem.1 hr
  obtain ⟨k, hk, rfl⟩ := List.mem_iff_getElem.1 hi
  have h3 := (hs j).2.2 k
  have hg : (rts16 os).getD j rt0 = (rts16 os)[j] := by rw [List.getD_eq_getElem?_getD, List.getElem?_eq_getElem hj]; rfl
  rw [hg, List.getD_eq_getElem?_getD, List.getElem?_eq_getElem hk] at h3
  exact h3
theorem Sm16.cns {rs : List Rt} (h : Sm16 rs) : ∀ j, ((calls16 rs).getD j fc0).1.length ≤ 1048576 := fun j => by
  by_cases hj : j < (calls16 rs).length
  · refine h.cn _ ?_
    rw [List.getD_eq_getElem?_getD, List.getElem?_eq_getElem hj]; exact List.getElem_mem hj
  · rw [List.getD_eq_getElem?_getD, List.getElem?_eq_none (by omega)]; simp [fc0]

theorem RtRow.rts {w X : World} {g c : Nat} {xs : List RV} {rs : List Rt} (h : RtRow w X (.slice (some ⟨g, 0, none⟩) xs.length c) xs) (hx : xs.map (·.1) = rs) : RtsIn X (some ⟨g, 0, none⟩) rs.length rs := by
  have hl : xs.length = rs.length := by rw [← hx, List.length_map]
  have h1 := h.in
  rw [hx, hl] at h1
  exact h1

theorem mem_fcs {rs : List Rt} {c : Fc} : c ∈ fcs16 rs ↔ ∃ r ∈ rs, r.1 = c.1 ∧ r.2.1 = c.2 := by
  unfold fcs16
  rw [List.mem_map]
  constructor
  · rintro ⟨r, hr, rfl⟩
    exact ⟨r, hr, rfl, rfl⟩
  · rintro ⟨r, hr, e1, e2⟩
    exact ⟨r, hr, Prod.ext e1 e2⟩
theorem fit_fcs (rs : List Rt) (cs : List Fc) : cs.all (fun c => decide (c ∈ fcs16 rs)) = fit16 rs cs := by
  unfold fit16
  congr 1
  funext c
  rw [Bool.eq_iff_iff, decide_eq_true_eq, List.any_eq_true, mem_fcs]
  simp
theorem once_fcs {rs : List Rt} (h : (nms16 rs).Nodup) : ∀ x ∈ fcs16 rs, ∀ y ∈ fcs16 rs, x.1 = y.1 → x = y := fun x hx y hy e => by
  obtain ⟨r, hr, e1, e2⟩ := mem_fcs.1 hx
  obtain ⟨q, hq, f1, f2⟩ := mem_fcs.1 hy
  obtain rfl := once16 h r hr q hq (by rw [e1, f1, e])
  exact Prod.ext e (e2.symm.trans f2)
theorem mis_none {rs : List Rt} {cs : List Fc} (h : mis16 rs cs = []) : ∀ c ∈ cs, c.1 ∈ (fcs16 rs).map (fun c => c.1) := fun c hc => by
  rw [fcs16_names]
  by_cases e : c.1 ∈ nms16 rs
  · exact e
  · have : c.1 ∈ mis16 rs cs := set16_mem.2 (List.mem_filter.2 ⟨List.mem_map.2 ⟨c, hc, rfl⟩, decide_eq_true e⟩)
    rw [h] at this
    cases this

set_option maxHeartbeats 8000000 in
set_option maxRecDepth 100000 in
theorem implLinkCode (a : Option Addr) (len cap : Nat) (os : List Ob) (w : World) (h : ObjsOk w a len cap os) :
    Calls Tryz.prog 46 #[.slice a len cap] w fun e w' => e = .returned (.int .i64 (linkC os)) ∧ Below w.heap.size w w' := by
  have hl := h.hlen
  by_cases h0 : len = 0
  · have HV : Hid (linkC os = 4) := by exact (by unfold linkC; rw [if_pos (Or.inl (List.length_eq_zero_iff.1 (by omega)))] : linkC os = 4)
    have HB0 : Hid (Below w.heap.size w w) := Below.refl _ w
    clear h hl
    subst h0
    go_enter Tryz.func46, Tryz.ntmps46
    go_wp2
    go_ret
    exact ⟨by rw [HV.out]; rfl, HB0.out⟩
  have h0b : ((len : Int) == 0) = false := beq_eq_false_iff_ne.2 (by omega)
  have HC : Hid (_) := implObjectsOk a len cap os w h
  rcases hB : objsB os with _ | _
  · have HV : Hid (linkC os = 4) := by exact (by unfold linkC; rw [if_pos (Or.inr hB)] : linkC os = 4)
    rw [hB] at HC
    clear h hl hB
    go_enter Tryz.func46, Tryz.ntmps46
    go_wp2_with fail
    refine Calls.mono HC.out ?_
    rintro e w1 ⟨rfl, hb1⟩
    have HB1 : Hid (Below w.heap.size w w1) := hb1
    clear hb1 HC
    go_wp2
    go_ret
    exact ⟨by rw [HV.out]; rfl, HB1.out⟩
  have hne : ¬ (os = [] ∨ objsB os = false) := by
    rintro (e | e)
    · rw [e] at hl; simp at hl; omega
    · rw [hB] at e; cases e
  have hV : linkC os = if ¬ (nms16 (rts16 os)).Nodup then 1 else if mis16 (rts16 os) (calls16 (rts16 os)) ≠ [] then 2 else if fit16 (rts16 os) (calls16 (rts16 os)) = false then 3 else 0 := by
    unfold linkC
    rw [if_neg hne]
  have HRt : Hid (∀ X, Below w.heap.size w X → Calls Tryz.prog 38 #[.slice a len cap] X fun e w' => ∃ g c xs, e = .returned (.slice (some ⟨g, 0, none⟩) (rts16 os).length c) ∧ xs.map (·.1) = rts16 os ∧ RtRow X w' (.slice (some ⟨g, 0, none⟩) xs.length c) xs) := fun X hX => implRoutinesIn a len cap os X (h.below hX) hB
  have HSm : Hid (Sm16 (rts16 os)) := sm16 hB
  rw [hB] at HC
  clear h hB hne hl
  generalize rts16 os = rs at hV HRt HSm
  generalize linkC os = res at hV ⊢
  have HV : Hid (res = if ¬ (nms16 rs).Nodup then 1 else if mis16 rs (calls16 rs) ≠ [] then 2 else if fit16 rs (calls16 rs) = false then 3 else 0) := hV
  clear hV
  go_enter Tryz.func46, Tryz.ntmps46
  go_wp2_with fail
  refine Calls.mono HC.out ?_
  rintro e w1 ⟨rfl, hb1⟩
  have HC2 : Hid (_) := HRt.out w1 hb1
  have HB1 : Hid (Below w.heap.size w w1) := hb1
  clear HC HRt hb1
  go_wp2_with fail
  refine Calls.mono HC2.out ?_
  rintro e w2 ⟨g, c, xs, rfl, hxs, hrow⟩
  have hin := hrow.rts hxs
  have HC3 : Hid (_) := implFacesOf (some ⟨g, 0, none⟩) rs.length c rs w2 hin (by have := HSm.out.l; omega) HSm.out.nm
  have HB2 : Hid (Below w.heap.size w w2) := HB1.out.trans (hrow.b.mono HB1.out.size)
  have HCl : Hid (∀ X, Below w2.heap.size w2 X → Calls Tryz.prog 44 #[.slice (some ⟨g, 0, none⟩) rs.length c] X fun e w' => ∃ g c, e = .returned (.slice (some ⟨g, 0, none⟩) (calls16 rs).length c) ∧ w'.ownsRow X.heap.size 96 2 (.slice (some ⟨g, 0, none⟩) (calls16 rs).length c) (calls16 rs).length (fcV (calls16 rs)) ∧ Below X.heap.size X w') := fun X hX => implCallsIn (some ⟨g, 0, none⟩) rs.length c rs X (hin.below hX) HSm.out.l HSm.out.cd
  clear HC2 HB1 hrow hxs hin
  go_wp2_with fail
  refine Calls.mono HC3.out ?_
  rintro e w3 ⟨b, n, D, rfl, hb, hn, hown, hM, hb3⟩
  have HB3 : Hid (Below w.heap.size w w3) := HB2.out.trans (hb3.mono HB2.out.size)
  have HC4 : Hid (_) := HCl.out w3 hb3
  have HMp : Hid (w3.ownsMap Tryz.prog 9 fcR b n D ∧ MapF D (fcs16 rs)) := ⟨hown, hM⟩
  clear HC3 HB2 hown hM hb3 HCl
  go_wp2_with fail
  refine Calls.mono HC4.out ?_
  rintro e w4 ⟨g4, c4, rfl, hr4, hb4⟩
  have HB4 : Hid (Below w.heap.size w w4) := HB3.out.trans (hb4.mono HB3.out.size)
  have hown4 : w4.ownsMap Tryz.prog 9 fcR b n D := HMp.out.1.kept (row := none) ⟨hb4.os, hb4.tape, hb4.output, hb4.size, fun i hi _ => hb4.block i hi⟩ (by simp)
  have hsz := HMp.out.2.sz
  rw [fcs16_names] at hsz
  have hM4 : MapF D (fcs16 rs) := HMp.out.2
  have HC5 : Hid (_) := implMissingF b n D (fcs16 rs) w3.heap.size g4 c4 (calls16 rs) w4 hown4 hM4 hr4 (by have := HSm.out.cl; omega) HSm.out.cns
  have HFit : Hid ((nms16 rs).Nodup → mis16 rs (calls16 rs) = [] → ∀ X, Below w4.heap.size w4 X → Calls Tryz.prog 73 #[.map (some b), .slice (some ⟨g4, 0, none⟩) (calls16 rs).length c4] X fun e w' => e = .returned (.bool (fit16 rs (calls16 rs))) ∧ Below X.heap.size X w') := fun h1 h2 X hX => by
    rw [← fit_fcs]
    exact implFitF b n D (fcs16 rs) w3.heap.size g4 c4 (calls16 rs) X (hown4.kept (row := none) ⟨hX.os, hX.tape, hX.output, hX.size, fun i hi _ => hX.block i hi⟩ (by simp)) hM4 (once_fcs h1) (mis_none h2) (own_below hr4 hX) (by have := HSm.out.cl; omega) HSm.out.cns
  have hfl := @set16_full (nms16 rs)
  have hle := set16_len (nms16 rs)
  have hnl : (nms16 rs).length = rs.length := by unfold nms16; rw [List.length_map]
  have hl64 := HSm.out.l
  rw [hnl] at hfl hle
  rw [← hsz] at hfl hle
  obtain ⟨sz, hsd⟩ : ∃ sz, Maps.size D = sz := ⟨_, rfl⟩
  rw [hsd] at hfl hle
  have HSz : Hid (Maps.size D = sz) := hsd
  obtain ⟨nr, hnr⟩ : ∃ nr, rs.length = nr := ⟨_, rfl⟩
  rw [hnr] at hfl hle hl64 ⊢
  have HFl : Hid (sz = nr ↔ (nms16 rs).Nodup) := hfl
  clear HC4 HB3 hr4 hb4 HMp hM4 hsz hfl hnl hsd hnr
  by_cases hlt : (sz : Int) < (nr : Int)
  · have HR : Hid (res = 1) := by exact (by rw [HV.out, if_pos (fun h => by have := HFl.out.2 h; omega)] : res = 1)
    go_wp2_with (at_len; refine wpList_len_own _ rfl _ 63 rfl 9 96 Tryz.underlying63 fcR b n D rfl hown4 ?_; rw [HSz.out])
    go_ret
    exact ⟨by rw [HR.out]; rfl, HB4.out⟩
  have hnd : (nms16 rs).Nodup := HFl.out.1 (by omega)
  have HV2 : Hid (res = if mis16 rs (calls16 rs) ≠ [] then 2 else if fit16 rs (calls16 rs) = false then 3 else 0) := by exact (by rw [HV.out, if_neg (fun h => h hnd)] : res = if mis16 rs (calls16 rs) ≠ [] then 2 else if fit16 rs (calls16 rs) = false then 3 else 0)
  have HFit2 : Hid (mis16 rs (calls16 rs) = [] → ∀ X, Below w4.heap.size w4 X → Calls Tryz.prog 73 #[.map (some b), .slice (some ⟨g4, 0, none⟩) (calls16 rs).length c4] X fun e w' => e = .returned (.bool (fit16 rs (calls16 rs))) ∧ Below X.heap.size X w') := HFit.out hnd
  clear HFit HV hnd HFl
  go_wp2_with (at_len; refine wpList_len_own _ rfl _ 63 rfl 9 96 Tryz.underlying63 fcR b n D rfl hown4 ?_; rw [HSz.out])
  refine Calls.mono HC5.out ?_
  rintro e w5 ⟨b5, n5, D5, rfl, hb5, hn5, hown5, hM5, hbl5⟩
  have HB5 : Hid (Below w.heap.size w w5) := HB4.out.trans (hbl5.mono HB4.out.size)
  have hsz5 := hM5.sz
  rw [fcs16_names, outC_names] at hsz5
  have hz5 : Maps.size D5 = (mis16 rs (calls16 rs)).length := hsz5
  have HMi : Hid (mis16 rs (calls16 rs) = [] → ∀ X, Below w5.heap.size w5 X → Calls Tryz.prog 73 #[.map (some b), .slice (some ⟨g4, 0, none⟩) (calls16 rs).length c4] X fun e w' => e = .returned (.bool (fit16 rs (calls16 rs))) ∧ Below X.heap.size X w') := fun h X hX => HFit2.out h X (hbl5.trans (hX.mono hbl5.size))
  obtain ⟨s5, hs5⟩ : ∃ s5, (mis16 rs (calls16 rs)).length = s5 := ⟨_, rfl⟩
  rw [hs5] at hz5
  have HZ5 : Hid (Maps.size D5 = s5) := hz5
  have hle5 := hown5.size_le
  rw [hz5] at hle5
  have hs5b : s5 ≤ 12800 := by have := HSm.out.cl; omega
  clear HC5 HB4 hM5 hbl5 hsz5 hz5 HFit2
  by_cases hgt : (0 : Int) < (s5 : Int)
  · have HR : Hid (res = 2) := by exact (by rw [HV2.out, if_pos (fun h => by rw [h] at hs5; simp at hs5; omega)] : res = 2)
    clear hs5
    go_wp2_with (at_len; refine wpList_len_own _ rfl _ 63 rfl 9 96 Tryz.underlying63 fcR b5 n5 D5 rfl hown5 ?_; rw [HZ5.out])
    go_ret
    exact ⟨by rw [HR.out]; rfl, HB5.out⟩
  have hmz : mis16 rs (calls16 rs) = [] := List.length_eq_zero_iff.1 (by omega)
  have HC6 : Hid (_) := HMi.out hmz w5 (Below.refl _ _)
  have HV3 : Hid (res = if fit16 rs (calls16 rs) = false then 3 else 0) := by exact (by rw [HV2.out, if_neg (fun h => h hmz)] : res = if fit16 rs (calls16 rs) = false then 3 else 0)
  clear HV2 HMi hmz hs5
  rcases hf : fit16 rs (calls16 rs) with _ | _
  · have HR : Hid (res = 3) := by exact (by rw [HV3.out, hf]; rfl : res = 3)
    rw [hf] at HC6
    clear hf HV3
    go_wp2_with (at_len; refine wpList_len_own _ rfl _ 63 rfl 9 96 Tryz.underlying63 fcR b5 n5 D5 rfl hown5 ?_; rw [HZ5.out])
    refine Calls.mono HC6.out ?_
    rintro e w6 ⟨rfl, hb6⟩
    have HB6 : Hid (Below w.heap.size w w6) := HB5.out.trans (hb6.mono HB5.out.size)
    clear HC6 hb6
    go_wp2
    go_ret
    exact ⟨by rw [HR.out]; rfl, HB6.out⟩
  · have HR : Hid (res = 0) := by exact (by rw [HV3.out, hf]; rfl : res = 0)
    rw [hf] at HC6
    clear hf HV3
    go_wp2_with (at_len; refine wpList_len_own _ rfl _ 63 rfl 9 96 Tryz.underlying63 fcR b5 n5 D5 rfl hown5 ?_; rw [HZ5.out])
    refine Calls.mono HC6.out ?_
    rintro e w6 ⟨rfl, hb6⟩
    have HB6 : Hid (Below w.heap.size w w6) := HB5.out.trans (hb6.mono HB5.out.size)
    clear HC6 hb6
    go_wp2
    go_ret
    exact ⟨by rw [HR.out]; rfl, HB6.out⟩

end Go.Proofs.YteolfnceobjonaaGreat

/-! Contracts of chapter 16's landed code: copyOfRoutine. -/
namespace Go.Proofs.YteolfnceobjonaaGreat
open Go.RowKit

/-- What copyOfRoutine holds: the routine in its box, the answer's box. -/
structure Cp16 (w X : World) (D : Nat) (nm : List UInt8) (ar : Int) (ca : Option Addr) (cl cc : Nat) : Prop where
  b : BoxO X D (.string ⟨nm.toArray⟩) (.int .i64 ar) (.slice ca cl cc)
  r : BoxO X (D + 1) (.string ⟨#[]⟩) (.int .i64 0) (.slice none 0 0)
  fr : ∀ j, X.frozen? ⟨D + 1, j, none⟩ = false
  h : Below D w X
  hs : D + 2 ≤ X.heap.size
section
variable {w X Y : World} {D : Nat} {nm : List UInt8} {ar : Int} {ca : Option Addr} {cl cc : Nat}
theorem Cp16.grown {row : Option Nat} (h : Cp16 w X D nm ar ca cl cc) (hg : X.grownBy Y row) (hr : ∀ q, row = some q → D + 2 ≤ q) : Cp16 w Y D nm ar ca cl cc := by
  have hs := h.hs
  have hb : ∀ k, k < D + 2 → Y.heap[k]? = X.heap[k]? := fun k hk => hg.block k (by omega) (fun e => by have := hr k e.symm; omega)
  refine ⟨h.b.keep (hb D (by omega)), h.r.keep (hb (D + 1) (by omega)), fun j => ?_, h.h.grown hg (by omega) (fun q e => by have := hr q e; omega), by have := hg.size; omega⟩
  have := h.fr j
  simp only [World.frozen?, hb (D + 1) (by omega)] at this ⊢
  exact this
theorem Cp16.below (h : Cp16 w X D nm ar ca cl cc) (hb : Below X.heap.size X Y) : Cp16 w Y D nm ar ca cl cc := h.grown (row := none) ⟨hb.os, hb.tape, hb.output, hb.size, fun k hk _ => hb.block k hk⟩ (fun q e => by cases e)
end

set_option maxHeartbeats 8000000 in
set_option maxRecDepth 100000 in
theorem implCopyRt (nm : List UInt8) (ar : Int) (ca : Option Addr) (cc : Nat) (cd : List In13) (w : World) (hin : InsIn w ca cd.length cd) (hnl : nm.length ≤ 1048576) (hcl : cd.length ≤ 1048576) (hsh : ∀ j, (cd.getD j in0).2.2.2.2.length ≤ 1048576) :
    Calls Tryz.prog 47 #[.agg #[.string ⟨nm.toArray⟩, .int .i64 ar, .slice ca cd.length cc]] w fun e w' => ∃ g c, e = .returned (.agg #[.string ⟨nm.toArray⟩, .int .i64 ar, .slice (some ⟨g, 0, none⟩) cd.length c]) ∧ w'.ownsRow w.heap.size 102 5 (.slice (some ⟨g, 0, none⟩) cd.length c) cd.length (insV cd) ∧ Below w.heap.size w w' := by
  have HI : Hid (InsIn w ca cd.length cd) := hin
  have HSh : Hid (∀ j, (cd.getD j in0).2.2.2.2.length ≤ 1048576) := hsh
  obtain ⟨b1, hb1⟩ := BoxO.new w (.string ⟨nm.toArray⟩) (.int .i64 ar) (.slice ca cd.length cc) 75
  obtain ⟨W1, hW1⟩ : ∃ W, w.alloc (.cells #[.string ⟨nm.toArray⟩, .int .i64 ar, .slice ca cd.length cc] 75) = W := ⟨_, rfl⟩
  rw [hW1] at b1 hb1
  have hs1 : W1.heap.size = w.heap.size + 1 := by rw [← hW1]; simp
  obtain ⟨b2, hb2⟩ := BoxO.new W1 (.string ⟨#[]⟩) (.int .i64 0) (.slice none 0 0) 75
  have hA2 := heap_alloc_new W1 (.cells #[.string ⟨#[]⟩, .int .i64 0, .slice none 0 0] 75)
  obtain ⟨W2, hW2⟩ : ∃ W, W1.alloc (.cells #[.string ⟨#[]⟩, .int .i64 0, .slice none 0 0] 75) = W := ⟨_, rfl⟩
  rw [hW2] at b2 hb2 hA2
  have hs2 : W2.heap.size = w.heap.size + 2 := by rw [← hW2]; simp [hs1]
  rw [hs1] at b2 hA2
  obtain ⟨D, hD⟩ : ∃ D, w.heap.size = D := ⟨_, rfl⟩
  have hC2 : Cp16 w W2 D nm ar ca cd.length cc := by
    rw [← hD]
    exact ⟨b1.below hb2, b2, fun j => frozen_of_row _ _ _ _ _ hA2, hb1.trans (hb2.mono hb1.size), by omega⟩
  have HC3 : Hid (Cp16 w (W2.alloc (.cells #[] 102)) D nm ar ca cd.length cc ∧ (W2.alloc (.cells #[] 102)).ownsRow (D + 2) 102 5 (.slice (some ⟨W2.heap.size, 0, none⟩) 0 0) 0 (insV [])) := ⟨hC2.below ((Below.refl _ _).alloc (Nat.le_refl _) _), World.ownsRow_lit W2 #[] 0 (by omega) (by decide) rfl⟩
  have c2 := HC3.out.1.b.c2
  have HD : Hid (w.heap.size = D) := hD
  rw [hD] at hs1 hs2
  have HTk : Hid (∀ k, k < cd.length → cd.take (k + 1) = cd.take k ++ [cd.getD k in0]) := fun k hk => by
    rw [List.take_succ_eq_append_getElem hk, List.getD_eq_getElem?_getD, List.getElem?_eq_getElem hk]; rfl
  have HTe : Hid (cd.take cd.length = cd) := List.take_of_length_le (Nat.le_refl _)
  have HTl : Hid (∀ k, k ≤ cd.length → (cd.take k).length = k) := fun k hk => by rw [List.length_take]; omega
  obtain ⟨m, hm⟩ : ∃ m, cd.length = m := ⟨_, rfl⟩
  have HMm : Hid (cd.length = m) := hm
  rw [hm] at HI HC3 c2 HTk HTe HTl hcl hW1 ⊢
  clear hin hsh b1 hb1 b2 hb2 hA2 hC2 hm
  go_enter Tryz.func47, Tryz.ntmps47
  go_wp2
  go_loopw [3, 10] (fun vv iv wr => ∃ (k g c : Nat), iv = .int .i64 (k : Int) ∧ k ≤ m ∧ vv = .slice (some ⟨g, 0, none⟩) k c ∧ Hid (Cp16 w wr D nm ar ca m cc ∧ wr.ownsRow (D + 2) 102 5 (.slice (some ⟨g, 0, none⟩) k c) k (insV (cd.take k)))) (fun _ iv _ => m - (intOf iv).toNat)
  case atStart => exact ⟨0, D + 2, 0, rfl, Nat.zero_le _, rfl, by rw [hs2] at HC3; exact HC3⟩
  case round =>
    obtain ⟨k, g, c, rfl, hk, rfl, HX⟩ := hrel
    clear HC3 c2
    by_cases hlt : (k : Int) < (m : Int)
    · have hbw : Below w.heap.size w wr := by rw [HD.out]; exact HX.out.1.h
      obtain ⟨b, off, rfl, hbl, d0, d1, d2, d3, d4⟩ := (HI.out.below hbw).2 k (by omega)
      have hsn := HSh.out k
      have hst := HTk.out k (by omega)
      obtain ⟨q, hq⟩ : ∃ q, cd.getD k in0 = q := ⟨_, rfl⟩
      rw [hq] at d0 d1 d2 d3 d4 hsn hst
      obtain ⟨ik, iR, iA, iB, inm⟩ := q
      simp only at d0 d1 d2 d3 d4 hsn
      obtain ⟨Y, hY⟩ : ∃ Y, wr.alloc (.cells #[.int .i64 ik, .int .i64 iR, .int .i64 iA, .int .i64 iB, .string ⟨inm.toArray⟩] 102) = Y := ⟨_, rfl⟩
      have hb : Below wr.heap.size wr Y := by rw [← hY]; exact (Below.refl _ _).alloc (Nat.le_refl _) _
      have hR : Y.heap[wr.heap.size]? = some (.cells #[.int .i64 ik, .int .i64 iR, .int .i64 iA, .int .i64 iB, .string ⟨inm.toArray⟩] 102) := by rw [← hY]; exact heap_alloc_new wr _
      have hsD := HX.out.1.hs
      have HXY : Hid (Cp16 w Y D nm ar (some ⟨b, off, none⟩) m cc ∧ Y.ownsRow (D + 2) 102 5 (.slice (some ⟨g, 0, none⟩) k c) k (insV (cd.take k)) ∧ g < wr.heap.size) := ⟨HX.out.1.below hb, own_below HX.out.2 hb, (HX.out.2.lt g rfl).2⟩
      have y4 : Y.cell? ⟨wr.heap.size, 4, none⟩ = some (.string ⟨inm.toArray⟩) := by rw [cell_of_row _ _ _ _ _ _ hR]; rfl
      have HC : Hid (_) := implCloneS inm Y hsn
      have HSt : Hid (cd.take (k + 1) = cd.take k ++ [(ik, iR, iA, iB, inm)]) := hst
      obtain ⟨E, hE⟩ : ∃ E, wr.heap.size = E := ⟨_, rfl⟩
      have HRE : Hid (Y.heap[E]? = some (.cells #[.int .i64 ik, .int .i64 iR, .int .i64 iA, .int .i64 iB, .string ⟨inm.toArray⟩] 102) ∧ D + 2 ≤ E) := ⟨by rw [← hE]; exact hR, by omega⟩
      rw [hE] at y4 HXY
      clear hq hst hsn hb hR HX hbw
      go_wp2_with fail
      refine Calls.mono HC.out ?_
      rintro e w1 ⟨rfl, hb1⟩
      have hEl := lt_of_block HRE.out.1
      have hR1 : w1.heap[E]? = some (.cells #[.int .i64 ik, .int .i64 iR, .int .i64 iA, .int .i64 iB, .string ⟨inm.toArray⟩] 102) := (hb1.block E hEl).trans HRE.out.1
      have z4 : w1.cell? ⟨E, 4, none⟩ = some (.string ⟨inm.toArray⟩) := by rw [cell_of_row _ _ _ _ _ _ hR1]; rfl
      have zf : w1.frozen? ⟨E, 4, none⟩ = false := frozen_of_row _ _ _ _ _ hR1
      have hg1 := grown_set w1 E 4 (.string ⟨inm.toArray⟩)
      have hX1 := HXY.out.1.below hb1
      have hr1 := own_below HXY.out.2.1 hb1
      have hX2 := hX1.grown hg1 (fun q e => by injection e with e; have := HRE.out.2; omega)
      have hr2 := hr1.kept hg1 (Or.inr (fun e => by injection e with e; have h1 := HXY.out.2.2; have e2 : g = E := e; omega))
      have v4 : (w1.setCell ⟨E, 4, none⟩ (.string ⟨inm.toArray⟩)).cell? ⟨E, 4, none⟩ = some (.string ⟨inm.toArray⟩) := World.cell?_setCell_same _ _ _ z4
      have v0 : (w1.setCell ⟨E, 4, none⟩ (.string ⟨inm.toArray⟩)).cell? ⟨E, 0, none⟩ = some (.int .i64 ik) := by rw [World.cell?_setCell_other (h := by simp), cell_of_row _ _ _ _ _ _ hR1]; rfl
      have v1 : (w1.setCell ⟨E, 4, none⟩ (.string ⟨inm.toArray⟩)).cell? ⟨E, 1, none⟩ = some (.int .i64 iR) := by rw [World.cell?_setCell_other (h := by simp), cell_of_row _ _ _ _ _ _ hR1]; rfl
      have v2 : (w1.setCell ⟨E, 4, none⟩ (.string ⟨inm.toArray⟩)).cell? ⟨E, 2, none⟩ = some (.int .i64 iA) := by rw [World.cell?_setCell_other (h := by simp), cell_of_row _ _ _ _ _ _ hR1]; rfl
      have v3 : (w1.setCell ⟨E, 4, none⟩ (.string ⟨inm.toArray⟩)).cell? ⟨E, 3, none⟩ = some (.int .i64 iB) := by rw [World.cell?_setCell_other (h := by simp), cell_of_row _ _ _ _ _ _ hR1]; rfl
      obtain ⟨Y2, hY2⟩ : ∃ Y2, w1.setCell ⟨E, 4, none⟩ (.string ⟨inm.toArray⟩) = Y2 := ⟨_, rfl⟩
      rw [hY2] at hX2 hr2 v0 v1 v2 v3 v4
      obtain ⟨v', Z, hrun, hown, hg⟩ := push_ins13 (ik, iR, iA, iB, inm) hr2 hX2.hs (by omega)
      rw [← HSt.out] at hown
      obtain ⟨g2, c2, rfl⟩ := own_some hown (by omega)
      simp only at hrun
      have HX2 : Hid (Cp16 w Z D nm ar (some ⟨b, off, none⟩) m cc ∧ Z.ownsRow (D + 2) 102 5 (.slice (some ⟨g2, 0, none⟩) (k + 1) c2) (k + 1) (insV (cd.take (k + 1)))) := ⟨hX2.grown hg (fun q e => (hr2.lt q e).1), hown⟩
      clear hX1 hr1 hX2 hr2 hg hown hg1 hR1 hb1 HC HXY HRE HSt
      go_wp2_with (at_builtin; refine wpList_append_run rfl (.tmp 18) (.tmp 20) 73 rfl _ _ _ rfl rfl hrun ?_; clear hrun)
      go_roundw
      case rel => exact ⟨k + 1, g2, c2, by go_num, by omega, by go_num, HX2⟩
      case measure => simp [intOf]; omega
    · obtain rfl : k = m := by omega
      rw [HTe.out] at HX
      have HOw : Hid (wr.ownsRow (D + 2) 102 5 (.slice (some ⟨g, 0, none⟩) k c) k (insV cd)) := HX.out.2
      have st : Cp16 w wr.drew D nm ar ca k cc := HX.out.1.below ⟨rfl, rfl, rfl, Nat.le_refl _, fun _ _ => rfl⟩
      have d0 := st.b.c0
      have d1 := st.b.c1
      have d2 := st.b.c2
      have r0 := st.r.c0
      have r1 := st.r.c1
      have r2 := st.r.c2
      have f0 := st.fr 0
      have f1 := st.fr 1
      have f2 := st.fr 2
      have hown := own_below HOw.out (w' := wr.drew) ⟨rfl, rfl, rfl, Nat.le_refl _, fun _ _ => rfl⟩
      have HCl : Hid (∀ V, Calls Tryz.prog 67 #[.string ⟨nm.toArray⟩] V fun e w' => e = .returned (.string ⟨nm.toArray⟩) ∧ Below V.heap.size V w') := fun V => implCloneS nm V hnl
      clear HX HOw HTk HTe HTl HSh
      go_upto_region 8 with fail
      go_region_held3 (fun w' => w'.cell? ⟨D, 0, none⟩ = some (.string ⟨nm.toArray⟩) ∧ w'.cell? ⟨D, 1, none⟩ = some (.int .i64 ar)) (go_keep) (first | (go_at_call 67; refine (HCl.out _).mono ?_; rintro e wn ⟨rfl, hbn⟩; replace hown := own_below hown hbn; replace st := st.below hbn; replace d0 := st.b.c0; replace d1 := st.b.c1; replace d2 := st.b.c2; replace r0 := st.r.c0; replace r1 := st.r.c1; replace r2 := st.r.c2; replace f0 := st.fr 0; replace f1 := st.fr 1; replace f2 := st.fr 2; clear hbn))
      all_goals
        have HOwn : Hid (wn.ownsRow (D + 2) 102 5 (.slice (some ⟨g, 0, none⟩) k c) k (insV cd)) := hown
        have HBd : Hid (Below D w wn) := st.h
        have hsd : D + 2 ≤ wn.heap.size := st.hs
        clear hown
        go_wp2
        obtain ⟨Y, hY, y0, y1, y2, hg⟩ := set3R (.string ⟨nm.toArray⟩) (.int .i64 ar) (.slice (some ⟨g, 0, none⟩) k c) r0 r1 r2
        rw [hY]
        refine bodyPost_ret (v := .agg #[.string ⟨nm.toArray⟩, .int .i64 ar, .slice (some ⟨g, 0, none⟩) k c]) (by simp [results, Tryz.results47, go_sem, y0, y1, y2]) rfl ?_
        exact ⟨g, c, rfl, by rw [HD.out]; exact own_base (HOwn.out.kept hg (own_offR HOwn.out (by omega))) (by omega), by rw [HD.out]; exact (HBd.out).grown hg (by omega) (fun k e => by injection e with e; omega)⟩

end Go.Proofs.YteolfnceobjonaaGreat
