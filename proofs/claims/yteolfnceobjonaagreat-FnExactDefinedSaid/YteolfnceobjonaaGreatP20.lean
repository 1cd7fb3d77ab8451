/-
  Parts of one proof, one behind the other: LkF.
-/
import Derived.Test.YteolfnceobjonaaGreatP19
import Derived.Test.YteolfnceobjonaaGreatP15

/-! Contracts of chapter 16's landed code: Defined, Missing, linkCode. -/
namespace Go.Proofs.YteolfnceobjonaaGreat
open Go.RowKit Go.Maps

theorem calls16_small {rs : List Rt} (h : ∀ r ∈ rs, rtB r = true) : (calls16 rs).length ≤ 200 * rs.length := by
  induction rs with
  | nil => simp [calls16]
  | cons r rs ih =>
    have h1 := ih (fun x hx => h x (List.mem_cons_of_mem _ hx))
    have h2 := (codeB_len (rtB_parts (h r List.mem_cons_self)).2.2.1).2
    have h3 : (calR r.2.2).length ≤ r.2.2.length := by unfold calR; rw [List.length_map]; exact List.length_filter_le _ _
    simp only [calls16, List.flatMap_cons, List.length_append, List.length_cons] at h1 ⊢
    omega
theorem definedV_len (os : List Ob) : (definedV os).length ≤ 64 := by
  unfold definedV
  split
  · rename_i h
    have h1 := set16_len (nms16 (rts16 os))
    have h2 := (rts16_len (objsB_parts h).1).2
    have h3 := (objsB_parts h).2
    have h4 : (nms16 (rts16 os)).length = (rts16 os).length := by unfold nms16; rw [List.length_map]
    unfold def16
    omega
  · simp
theorem missingV_len (os : List Ob) : (missingV os).length ≤ 12800 := by
  unfold missingV
  split
  · rename_i h
    have h1 := set16_len (outN (rts16 os) (calls16 (rts16 os)))
    have h2 : (outN (rts16 os) (calls16 (rts16 os))).length ≤ (calls16 (rts16 os)).length := by unfold outN; refine Nat.le_trans (List.length_filter_le _ _) ?_; rw [List.length_map]; exact Nat.le_refl _
    have h3 := calls16_small (rs := rts16 os) (fun r hr => rts16_rt h hr)
    have h4 := (rts16_len (objsB_parts h).1).2
    have h5 := (objsB_parts h).2
    unfold mis16
    omega
  · simp
/-- The bounds of what is put together. -/
structure Sm16 (rs : List Rt) : Prop where
  l : rs.length ≤ 64
  rt : ∀ r ∈ rs, rtB r = true
  nm : ∀ j, (rs.getD j rt0).1.length ≤ 1048576
  cd : ∀ j, (rs.getD j rt0).2.2.length ≤ 1048576
  cl : (calls16 rs).length ≤ 12800
  cn : ∀ c ∈ calls16 rs, c.1.length ≤ 1048576
theorem sm16 {os : List Ob} (h : objsB os = true) : Sm16 (rts16 os) := by
  have hrt : ∀ r ∈ rts16 os, rtB r = true := fun r hr => rts16_rt h hr
  have hl : (rts16 os).length ≤ 64 := by
    have h1 := (rts16_len (objsB_parts h).1).2
    have h2 := (objsB_parts h).2
    omega
  have hs := (rts_ok hrt).2
  refine ⟨hl, hrt, fun j => (hs j).1, fun j => (hs j).2.1, by have := calls16_small hrt; omega, fun c hc => ?_⟩
  obtain ⟨r, hr, i, hi, _, rfl⟩ := calls16_mem.1 hc
  obtain ⟨j, hj, rfl⟩ := List.mem_iff_getElem.1 hr
  obtain ⟨k, hk, rfl⟩ := List.mem_iff_getElem.1 hi
  have h3 := (hs j).2.2 k
  have hg : (rts16 os).getD j rt0 = (rts16 os)[j] := by rw [List.getD_eq_getElem?_getD, List.getElem?_eq_getElem hj]; rfl
  rw [hg, List.getD_eq_getElem?_getD, List.getElem?_eq_getElem hk] at h3
  exact h3
theorem Sm16.nms {rs : List Rt} (h : Sm16 rs) : ∀ s ∈ (fcs16 rs).map (fun c => c.1), s.length ≤ 1048576 := fun s hs => by
  rw [fcs16_names] at hs
  obtain ⟨r, hr, rfl⟩ := List.mem_map.1 hs
  obtain ⟨j, hj, rfl⟩ := List.mem_iff_getElem.1 hr
  have := h.nm j
  rwa [List.getD_eq_getElem?_getD, List.getElem?_eq_getElem hj] at this
theorem Sm16.cns {rs : List Rt} (h : Sm16 rs) : ∀ j, ((calls16 rs).getD j fc0).1.length ≤ 1048576 := fun j => by
  by_cases hj : j < (calls16 rs).length
  · refine h.cn _ ?_
    rw [List.getD_eq_getElem?_getD, List.getElem?_eq_getElem hj]; exact List.getElem_mem hj
  · rw [List.getD_eq_getElem?_getD, List.getElem?_eq_none (by omega)]; simp [fc0]

theorem RtRow.rts {w X : World} {g c : Nat} {xs : List RV} {rs : List Rt} (h : RtRow w X (.slice (some ⟨g, 0, none⟩) xs.length c) xs) (hx : xs.map (·.1) = rs) : RtsIn X (some ⟨g, 0, none⟩) rs.length rs := by
  have hl : xs.length = rs.length := by rw [← hx, List.length_map]
  have h1 := h.in
  rw [hx, hl] at h1
  exact h1

set_option maxHeartbeats 4000000 in
set_option maxRecDepth 100000 in
theorem implDefined (a : Option Addr) (len cap : Nat) (os : List Ob) (w : World) (h : ObjsOk w a len cap os) :
    Calls Tryz.prog 10 #[.slice a len cap] w fun e w' => ∃ g c, e = .returned (.slice (some ⟨g, 0, none⟩) (definedV os).length c) ∧ w'.ownsRow w.heap.size 9 1 (.slice (some ⟨g, 0, none⟩) (definedV os).length c) (definedV os).length (strV (definedV os)) ∧ Below w.heap.size w w' := by
  have HC : Hid (_) := implObjectsOk a len cap os w h
  rcases hB : objsB os with _ | _
  · have HV : Hid (definedV os = []) := by exact (by unfold definedV; rw [hB]; rfl : definedV os = [])
    rw [hB] at HC
    clear h hB
    go_enter Tryz.func10, Tryz.ntmps10
    go_wp2_with fail
    refine Calls.mono HC.out ?_
    rintro e w1 ⟨rfl, hb1⟩
    have HR : Hid ((w1.alloc (.cells #[] 9)).ownsRow w.heap.size 9 1 (.slice (some ⟨w1.heap.size, 0, none⟩) 0 0) 0 (strV []) ∧ Below w.heap.size w (w1.alloc (.cells #[] 9))) := ⟨World.ownsRow_lit w1 #[] 0 hb1.size (by decide) rfl, hb1.alloc hb1.size _⟩
    clear hb1 HC
    go_wp2
    go_ret
    rw [HV.out]
    exact ⟨_, _, rfl, HR.out.1, HR.out.2⟩
  · have HV : Hid (definedV os = set16 ((fcs16 (rts16 os)).map (fun c => c.1))) := by exact (by unfold definedV; rw [if_pos hB, fcs16_names]; rfl : definedV os = set16 ((fcs16 (rts16 os)).map (fun c => c.1)))
    have HRt : Hid (∀ X, Below w.heap.size w X → Calls Tryz.prog 38 #[.slice a len cap] X fun e w' => ∃ g c xs, e = .returned (.slice (some ⟨g, 0, none⟩) (rts16 os).length c) ∧ xs.map (·.1) = rts16 os ∧ RtRow X w' (.slice (some ⟨g, 0, none⟩) xs.length c) xs) := fun X hX => implRoutinesIn a len cap os X (h.below hX) hB
    have HSm : Hid (Sm16 (rts16 os)) := sm16 hB
    rw [hB] at HC
    clear h hB
    generalize rts16 os = rs at HV HRt HSm
    rw [HV.out]
    go_enter Tryz.func10, Tryz.ntmps10
    go_wp2_with fail
    refine Calls.mono HC.out ?_
    rintro e w1 ⟨rfl, hb1⟩
    have HC2 : Hid (_) := HRt.out w1 hb1
    have HB1 : Hid (Below w.heap.size w w1) := hb1
    clear HC HRt hb1
    go_wp2_with fail
    refine Calls.mono HC2.out ?_
    rintro e w2 ⟨g, c, xs, rfl, hxs, hrow⟩
    have HC3 : Hid (_) := implFacesOf (some ⟨g, 0, none⟩) rs.length c rs w2 (hrow.rts hxs) (by have := HSm.out.l; omega) HSm.out.nm
    have HB2 : Hid (Below w.heap.size w w2) := HB1.out.trans (hrow.b.mono HB1.out.size)
    clear HC2 HB1 hrow hxs
    go_wp2_with fail
    refine Calls.mono HC3.out ?_
    rintro e w3 ⟨b, n, D, rfl, hb, hn, hown, hM, hb3⟩
    have HC4 : Hid (_) := implNames16 b n D (fcs16 rs) w3 hown hM hn HSm.out.nms
    have HB3 : Hid (Below w.heap.size w w3) := HB2.out.trans (hb3.mono HB2.out.size)
    clear HC3 HB2 hown hM hb3
    go_wp2_with fail
    refine Calls.mono HC4.out ?_
    rintro e w4 ⟨g4, c4, rfl, hr4, hb4⟩
    have HR : Hid (w4.ownsRow w.heap.size 9 1 (.slice (some ⟨g4, 0, none⟩) (set16 ((fcs16 rs).map (fun c => c.1))).length c4) (set16 ((fcs16 rs).map (fun c => c.1))).length (strV (set16 ((fcs16 rs).map (fun c => c.1)))) ∧ Below w.heap.size w w4) := ⟨own_base hr4 HB3.out.size, HB3.out.trans (hb4.mono HB3.out.size)⟩
    clear HC4 hr4 hb4 HB3
    go_wp2
    go_ret
    exact ⟨g4, c4, rfl, HR.out.1, HR.out.2⟩

set_option maxHeartbeats 4000000 in
set_option maxRecDepth 100000 in
theorem implMissing (a : Option Addr) (len cap : Nat) (os : List Ob) (w : World) (h : ObjsOk w a len cap os) :
    Calls Tryz.prog 17 #[.slice a len cap] w fun e w' => ∃ g c, e = .returned (.slice (some ⟨g, 0, none⟩) (missingV os).length c) ∧ w'.ownsRow w.heap.size 9 1 (.slice (some ⟨g, 0, none⟩) (missingV os).length c) (missingV os).length (strV (missingV os)) ∧ Below w.heap.size w w' := by
  have HC : Hid (_) := implObjectsOk a len cap os w h
  rcases hB : objsB os with _ | _
  · have HV : Hid (missingV os = []) := by exact (by unfold missingV; rw [hB]; rfl : missingV os = [])
    rw [hB] at HC
    clear h hB
    go_enter Tryz.func17, Tryz.ntmps17
    go_wp2_with fail
    refine Calls.mono HC.out ?_
    rintro e w1 ⟨rfl, hb1⟩
    have HR : Hid ((w1.alloc (.cells #[] 9)).ownsRow w.heap.size 9 1 (.slice (some ⟨w1.heap.size, 0, none⟩) 0 0) 0 (strV []) ∧ Below w.heap.size w (w1.alloc (.cells #[] 9))) := ⟨World.ownsRow_lit w1 #[] 0 hb1.size (by decide) rfl, hb1.alloc hb1.size _⟩
    clear hb1 HC
    go_wp2
    go_ret
    rw [HV.out]
    exact ⟨_, _, rfl, HR.out.1, HR.out.2⟩
  · have HV : Hid (missingV os = set16 ((outC ((fcs16 (rts16 os)).map (fun c => c.1)) (calls16 (rts16 os))).map (fun c => c.1))) := by exact (by unfold missingV; rw [if_pos hB, fcs16_names, outC_names]; rfl : missingV os = set16 ((outC ((fcs16 (rts16 os)).map (fun c => c.1)) (calls16 (rts16 os))).map (fun c => c.1)))
    have HRt : Hid (∀ X, Below w.heap.size w X → Calls Tryz.prog 38 #[.slice a len cap] X fun e w' => ∃ g c xs, e = .returned (.slice (some ⟨g, 0, none⟩) (rts16 os).length c) ∧ xs.map (·.1) = rts16 os ∧ RtRow X w' (.slice (some ⟨g, 0, none⟩) xs.length c) xs) := fun X hX => implRoutinesIn a len cap os X (h.below hX) hB
    have HSm : Hid (Sm16 (rts16 os)) := sm16 hB
    rw [hB] at HC
    clear h hB
    generalize rts16 os = rs at HV HRt HSm
    rw [HV.out]
    obtain ⟨ms, hms⟩ : ∃ ms, set16 ((outC ((fcs16 rs).map (fun c => c.1)) (calls16 rs)).map (fun c => c.1)) = ms := ⟨_, rfl⟩
    have HMs : Hid (set16 ((outC ((fcs16 rs).map (fun c => c.1)) (calls16 rs)).map (fun c => c.1)) = ms) := hms
    rw [hms]
    clear hms
    go_enter Tryz.func17, Tryz.ntmps17
    go_wp2_with fail
    refine Calls.mono HC.out ?_
    rintro e w1 ⟨rfl, hb1⟩
    have HC2 : Hid (_) := HRt.out w1 hb1
    have HB1 : Hid (Below w.heap.size w w1) := hb1
    clear HC HRt hb1
    go_wp2_with fail
    refine Calls.mono HC2.out ?_
    rintro e w2 ⟨g, c, xs, rfl, hxs, hrow⟩
    have hin := hrow.rts hxs
    have HC3 : Hid (_) := implFacesOf (some ⟨g, 0, none⟩) rs.length c rs w2 hin (by have := HSm.out.l; omega) HSm.out.nm
    have HB2 : Hid (Below w.heap.size w w2) := HB1.out.trans (hrow.b.mono HB1.out.size)
    have HCl : Hid (∀ X, Below w2.heap.size w2 X → Calls Tryz.prog 44 #[.slice (some ⟨g, 0, none⟩) rs.length c] X fun e w' => ∃ g c, e = .returned (.slice (some ⟨g, 0, none⟩) (calls16 rs).length c) ∧ w'.ownsRow X.heap.size 96 2 (.slice (some ⟨g, 0, none⟩) (calls16 rs).length c) (calls16 rs).length (fcV (calls16 rs)) ∧ Below X.heap.size X w') := fun X hX => implCallsIn (some ⟨g, 0, none⟩) rs.length c rs X (hin.below hX) HSm.out.l HSm.out.cd
    clear HC2 HB1 hrow hxs hin
    go_wp2_with fail
    refine Calls.mono HC3.out ?_
    rintro e w3 ⟨b, n, D, rfl, hb, hn, hown, hM, hb3⟩
    have HB3 : Hid (Below w.heap.size w w3) := HB2.out.trans (hb3.mono HB2.out.size)
    have HC4 : Hid (_) := HCl.out w3 hb3
    have HMp : Hid (w3.ownsMap Tryz.prog 9 fcR b n D ∧ MapF D (fcs16 rs)) := ⟨hown, hM⟩
    clear HC3 HB2 hown hM hb3 HCl
    go_wp2_with fail
    refine Calls.mono HC4.out ?_
    rintro e w4 ⟨g4, c4, rfl, hr4, hb4⟩
    have HB4 : Hid (Below w.heap.size w w4) := HB3.out.trans (hb4.mono HB3.out.size)
    have HC5 : Hid (_) := implMissingF b n D (fcs16 rs) w3.heap.size g4 c4 (calls16 rs) w4 (HMp.out.1.kept (row := none) ⟨hb4.os, hb4.tape, hb4.output, hb4.size, fun i hi _ => hb4.block i hi⟩ (by simp)) HMp.out.2 hr4 (by have := HSm.out.cl; omega) HSm.out.cns
    clear HC4 HB3 hr4 hb4 HMp
    go_wp2_with fail
    refine Calls.mono HC5.out ?_
    rintro e w5 ⟨b5, n5, D5, rfl, hb5, hn5, hown5, hM5, hbl5⟩
    have HB5 : Hid (Below w.heap.size w w5) := HB4.out.trans (hbl5.mono HB4.out.size)
    have HC6 : Hid (_) := implNames16 b5 n5 D5 (outC ((fcs16 rs).map (fun c => c.1)) (calls16 rs)) w5 hown5 hM5 (by have := HSm.out.cl; omega) (fun s hs => by
      obtain ⟨c, hc, rfl⟩ := List.mem_map.1 hs
      exact HSm.out.cn c (List.mem_filter.1 hc).1)
    rw [HMs.out] at HC6
    clear HC5 HB4 hown5 hM5 hbl5
    go_wp2_with fail
    refine Calls.mono HC6.out ?_
    rintro e w6 ⟨g6, c6, rfl, hr6, hb6⟩
    have HR : Hid (w6.ownsRow w.heap.size 9 1 (.slice (some ⟨g6, 0, none⟩) ms.length c6) ms.length (strV ms) ∧ Below w.heap.size w w6) := ⟨own_base hr6 HB5.out.size, HB5.out.trans (hb6.mono HB5.out.size)⟩
    clear HC6 hr6 hb6 HB5
    go_wp2
    go_ret
    exact ⟨g6, c6, rfl, HR.out.1, HR.out.2⟩

end Go.Proofs.YteolfnceobjonaaGreat
