/-
  Parts of one proof, one behind the other: LkO, LkF, LkG, SortC, ObG.
-/
import Derived.Test.YtenaaneckobdpaaGreatP34
import Derived.Test.YtenaaneckobdpaaGreatP25
import Derived.Test.YtenaaneckobdpaaGreatP27
import Derived.Test.YtenaaneckobdpaaGreatP31
import Derived.Test.YtenaaneckobdpaaGreatP16
import Derived.Test.YtenaaneckobdpaaGreatP10
import Derived.Deep.RegionHeld3
import Derived.Sort.Grow
import Derived.Shelf.GgSortFunc.InsertionK
namespace Go.Proofs.YtenaaneckobdpaaGreat
open Go.RowKit
set_option maxHeartbeats 4000000 in
set_option maxRecDepth 100000 in
theorem zcC (a : Option Addr) (len cap : Nat) (os : List Ob) (w : World) (h : zaY w a len cap os) :
 Calls Tryz.prog 22 #[.slice a len cap] w fun e w' => e = .returned (.bool (zb1 os)) ∧ Below w.heap.size w w' := by
 have hl := h.hlen
 have hsm := h.small
 have HI : Hid (zaY w a len cap os) := h
 have HB0 : Hid (Below w.heap.size w w) := Below.refl _ w
 have HFar : Hid (¬ len ≤ 8 → zb1 os = false) := fun e => zg7 (by rw [hl]; exact e)
 have HNo : Hid (∀ j, j < len → objB (os.getD j ob0) = false → zb1 os = false) := fun j hj e => zhO (by rw [hl]; exact hj) e
 have HYes : Hid (len ≤ 8 → (∀ j, j < len → objB (os.getD j ob0) = true) → zb1 os = true) := fun h8 hj => zg6 (by rw [hl]; exact h8) (fun j hj' => hj j (by rw [← hl]; exact hj'))
 generalize zb1 os = res at HFar HNo HYes ⊢
 clear h hl
 by_cases h8 : (8 : Int) < (len : Int)
 ·
  have HR : Hid (res = false) := HFar.out (by omega)
  go_enter Tryz.func22, Tryz.ntmps22
  go_wp2
  go_ret
  exact ⟨by rw [HR.out]; rfl, HB0.out⟩
 go_enter Tryz.func22, Tryz.ntmps22
 go_wp2
 go_loopw [10] (fun iv wr => ∃ k : Nat, iv = .int .i64 (k : Int) ∧ k ≤ len ∧ Hid (∀ j, j < k → objB (os.getD j ob0) = true) ∧ Hid (Below w.heap.size w wr)) (fun iv _ => len - (intOf iv).toNat)
 case atStart => exact ⟨0, rfl, Nat.zero_le _, (fun j hj => absurd hj (Nat.not_lt_zero _)), HB0⟩
 case round =>
  obtain ⟨k, rfl, hk, HA, HB⟩ := hrel
  clear HB0
  by_cases hlt : (k : Int) < (len : Int)
  ·
   obtain ⟨b, off, rfl, hbl, c0, ia, il, ic, fa, fl, fc, c1, c2, hok⟩ := (HI.out.below HB.out).each k (by omega)
   have hno := HNo.out k (by omega)
   have hst : objB (os.getD k ob0) = true → ∀ j, j < k + 1 → objB (os.getD j ob0) = true := fun h j hj => by
    rcases Nat.lt_or_ge j k with g | g
    ·
     exact HA.out j g
    ·
     obtain rfl : j = k := by omega
     exact h
   obtain ⟨o, ho⟩ : ∃ o, os.getD k ob0 = o := ⟨_, rfl⟩
   rw [ho] at c0 hok hno hst
   obtain ⟨nm, ims, rs⟩ := o
   simp only at c0 hok
   obtain ⟨Y, hY⟩ : ∃ Y, wr.alloc (.cells #[.string ⟨nm.toArray⟩, .slice ia il ic, .slice fa fl fc] 37) = Y := ⟨_, rfl⟩
   have hb : Below wr.heap.size wr Y := by rw [← hY]; exact (Below.refl _ _).alloc (Nat.le_refl _) _
   have hsY : Y.heap.size = wr.heap.size + 1 := by rw [← hY]; simp
   have hR : Y.heap[wr.heap.size]? = some (.cells #[.string ⟨nm.toArray⟩, .slice ia il ic, .slice fa fl fc] 37) := by rw [← hY]; exact heap_alloc_new wr _
   have HBY : Hid (Below w.heap.size w Y) := HB.out.trans (hb.mono HB.out.size)
   have HC : Hid (_) := zgt nm ia il ic fa fl fc ims rs Y (hok.below hb)
   obtain ⟨y0, y1, y2, _⟩ := zcG (Below.refl _ Y) (by omega) hR
   obtain ⟨E, hE⟩ : ∃ E, wr.heap.size = E := ⟨_, rfl⟩
   rw [hE] at hR hsY y0 y1 y2
   rcases hb1 : objB (nm, ims, rs) with _ | _
   ·
    have HR : Hid (res = false) := hno hb1
    rw [hb1] at HC
    clear hno hst ho hb1 hok hb HA
    go_wp2_with fail
    refine Calls.mono HC.out ?_
    rintro e w1 ⟨rfl, hb1⟩
    go_wp2
    go_ret
    exact ⟨by rw [HR.out]; rfl, HBY.out.trans (hb1.mono HBY.out.size)⟩
   ·
    have HS : Hid (∀ j, j < k + 1 → objB (os.getD j ob0) = true) := hst hb1
    rw [hb1] at HC
    clear hno hst ho hb1 hok hb HA
    go_wp2_with fail
    refine Calls.mono HC.out ?_
    rintro e w1 ⟨rfl, hb1⟩
    have HB2 : Hid (Below w.heap.size w w1) := HBY.out.trans (hb1.mono HBY.out.size)
    clear hb1
    go_wp2
    go_roundw
    case rel => exact ⟨k + 1, by go_num, by omega, HS, HB2⟩
    case measure => simp [intOf]; omega
  ·
   obtain rfl : k = len := by omega
   have HR : Hid (res = true) := HYes.out (by omega) HA.out
   go_wp2
   go_ret
   exact ⟨by rw [HR.out]; rfl, HB.out⟩
section
open Go.RowKit Go.Maps
theorem zdD {rs : List Rt} (h : ∀ r ∈ rs, rtB r = true) : (za1 rs).length ≤ 200 * rs.length := by
 induction rs with
 | nil => simp [za1]
 | cons r rs ih =>
  have h1 := ih (fun x hx => h x (List.mem_cons_of_mem _ hx))
  have h2 := (zcP (zc7 (h r List.mem_cons_self)).2.2.1).2
  have h3 : (calR r.2.2).length ≤ r.2.2.length := by unfold calR; rw [List.length_map]; exact List.length_filter_le _ _
  simp only [za1, List.flatMap_cons, List.length_append, List.length_cons] at h1 ⊢
  omega
theorem zgB (os : List Ob) : (zau os).length ≤ 64 := by
 unfold zau
 split
 ·
  rename_i h
  have h1 := zcp (zaw (za2 os))
  have h2 := (zbs (zam h).1).2
  have h3 := (zam h).2
  have h4 : (zaw (za2 os)).length = (za2 os).length := by unfold zaw; rw [List.length_map]
  unfold zaQ
  omega
 ·
  simp
theorem zgd (os : List Ob) : (zax os).length ≤ 12800 := by
 unfold zax
 split
 ·
  rename_i h
  have h1 := zcp (outN (za2 os) (za1 (za2 os)))
  have h2 : (outN (za2 os) (za1 (za2 os))).length ≤ (za1 (za2 os)).length := by unfold outN; refine Nat.le_trans (List.length_filter_le _ _) ?_; rw [List.length_map]; exact Nat.le_refl _
  have h3 := zdD (rs := za2 os) (fun r hr => zdp h hr)
  have h4 := (zbs (zam h).1).2
  have h5 := (zam h).2
  unfold zaF
  omega
 ·
  simp
structure Sm16 (rs : List Rt) : Prop where
 l : rs.length ≤ 64
 rt : ∀ r ∈ rs, rtB r = true
 nm : ∀ j, (rs.getD j rt0).1.length ≤ 1048576
 cd : ∀ j, (rs.getD j rt0).2.2.length ≤ 1048576
 cl : (za1 rs).length ≤ 12800
 cn : ∀ c ∈ za1 rs, c.1.length ≤ 1048576
theorem sm16 {os : List Ob} (h : zb1 os = true) : Sm16 (za2 os) := by
 have hrt : ∀ r ∈ za2 os, rtB r = true := fun r hr => zdp h hr
 have hl : (za2 os).length ≤ 64 := by
  have h1 := (zbs (zam h).1).2
  have h2 := (zam h).2
  omega
 have hs := (zg0 hrt).2
 refine ⟨hl, hrt, fun j => (hs j).1, fun j => (hs j).2.1, by have := zdD hrt; omega, fun c hc => ?_⟩
 obtain ⟨r, hr, i, hi, _, rfl⟩ := zdi.1 hc
 obtain ⟨j, hj, rfl⟩ := List.mem_iff_getElem.1 hr
 obtain ⟨k, hk, rfl⟩ := List.mem_iff_getElem.1 hi
 have h3 := (hs j).2.2 k
 have hg : (za2 os).getD j rt0 = (za2 os)[j] := by rw [List.getD_eq_getElem?_getD, List.getElem?_eq_getElem hj]; rfl
 rw [hg, List.getD_eq_getElem?_getD, List.getElem?_eq_getElem hk] at h3
 exact h3
theorem Sm16.nms {rs : List Rt} (h : Sm16 rs) : ∀ s ∈ (zbg rs).map (fun c => c.1), s.length ≤ 1048576 := fun s hs => by
 rw [zbV] at hs
 obtain ⟨r, hr, rfl⟩ := List.mem_map.1 hs
 obtain ⟨j, hj, rfl⟩ := List.mem_iff_getElem.1 hr
 have := h.nm j
 rwa [List.getD_eq_getElem?_getD, List.getElem?_eq_getElem hj] at this
theorem Sm16.cns {rs : List Rt} (h : Sm16 rs) : ∀ j, ((za1 rs).getD j fc0).1.length ≤ 1048576 := fun j => by
 by_cases hj : j < (za1 rs).length
 ·
  refine h.cn _ ?_
  rw [List.getD_eq_getElem?_getD, List.getElem?_eq_getElem hj]; exact List.getElem_mem hj
 ·
  rw [List.getD_eq_getElem?_getD, List.getElem?_eq_none (by omega)]; simp [fc0]
theorem zdm.rts {w X : World} {g c : Nat} {xs : List RV} {rs : List Rt} (h : zdm w X (.slice (some ⟨g, 0, none⟩) xs.length c) xs) (hx : xs.map (·.1) = rs) : zbp X (some ⟨g, 0, none⟩) rs.length rs := by
 have hl : xs.length = rs.length := by rw [← hx, List.length_map]
 have h1 := h.in
 rw [hx, hl] at h1
 exact h1
set_option maxHeartbeats 4000000 in
set_option maxRecDepth 100000 in
theorem zhh (a : Option Addr) (len cap : Nat) (os : List Ob) (w : World) (h : zaY w a len cap os) :
 Calls Tryz.prog 7 #[.slice a len cap] w fun e w' => ∃ g c, e = .returned (.slice (some ⟨g, 0, none⟩) (zau os).length c) ∧ w'.ownsRow w.heap.size 9 1 (.slice (some ⟨g, 0, none⟩) (zau os).length c) (zau os).length (strV (zau os)) ∧ Below w.heap.size w w' := by
 have HC : Hid (_) := zcC a len cap os w h
 rcases hB : zb1 os with _ | _
 ·
  have HV : Hid (zau os = []) := by exact (by unfold zau; rw [hB]; rfl : zau os = [])
  rw [hB] at HC
  clear h hB
  go_enter Tryz.func7, Tryz.ntmps7
  go_wp2_with fail
  refine Calls.mono HC.out ?_
  rintro e w1 ⟨rfl, hb1⟩
  have HR : Hid ((w1.alloc (.cells #[] 9)).ownsRow w.heap.size 9 1 (.slice (some ⟨w1.heap.size, 0, none⟩) 0 0) 0 (strV []) ∧ Below w.heap.size w (w1.alloc (.cells #[] 9))) := ⟨World.ownsRow_lit w1 #[] 0 hb1.size (by decide) rfl, hb1.alloc hb1.size _⟩
  clear hb1 HC
  go_wp2
  go_ret
  rw [HV.out]
  exact ⟨_, _, rfl, HR.out.1, HR.out.2⟩
 ·
  have HV : Hid (zau os = zbq ((zbg (za2 os)).map (fun c => c.1))) := by exact (by unfold zau; rw [if_pos hB, zbV]; rfl : zau os = zbq ((zbg (za2 os)).map (fun c => c.1)))
  have HRt : Hid (∀ X, Below w.heap.size w X → Calls Tryz.prog 19 #[.slice a len cap] X fun e w' => ∃ g c xs, e = .returned (.slice (some ⟨g, 0, none⟩) (za2 os).length c) ∧ xs.map (·.1) = za2 os ∧ zdm X w' (.slice (some ⟨g, 0, none⟩) xs.length c) xs) := fun X hX => zbX a len cap os X (h.below hX) hB
  have HSm : Hid (Sm16 (za2 os)) := sm16 hB
  rw [hB] at HC
  clear h hB
  generalize za2 os = rs at HV HRt HSm
  rw [HV.out]
  go_enter Tryz.func7, Tryz.ntmps7
  go_wp2_with fail
  refine Calls.mono HC.out ?_
  rintro e w1 ⟨rfl, hb1⟩
  have HC2 : Hid (_) := HRt.out w1 hb1
  have HB1 : Hid (Below w.heap.size w w1) := hb1
  clear HC HRt hb1
  go_wp2_with fail
  refine Calls.mono HC2.out ?_
  rintro e w2 ⟨g, c, xs, rfl, hxs, hrow⟩
  have HC3 : Hid (_) := zde (some ⟨g, 0, none⟩) rs.length c rs w2 (hrow.rts hxs) (by have := HSm.out.l; omega) HSm.out.nm
  have HB2 : Hid (Below w.heap.size w w2) := HB1.out.trans (hrow.b.mono HB1.out.size)
  clear HC2 HB1 hrow hxs
  go_wp2_with fail
  refine Calls.mono HC3.out ?_
  rintro e w3 ⟨b, n, D, rfl, hb, hn, hown, hM, hb3⟩
  have HC4 : Hid (_) := zeC b n D (zbg rs) w3 hown hM hn HSm.out.nms
  have HB3 : Hid (Below w.heap.size w w3) := HB2.out.trans (hb3.mono HB2.out.size)
  clear HC3 HB2 hown hM hb3
  go_wp2_with fail
  refine Calls.mono HC4.out ?_
  rintro e w4 ⟨g4, c4, rfl, hr4, hb4⟩
  have HR : Hid (w4.ownsRow w.heap.size 9 1 (.slice (some ⟨g4, 0, none⟩) (zbq ((zbg rs).map (fun c => c.1))).length c4) (zbq ((zbg rs).map (fun c => c.1))).length (strV (zbq ((zbg rs).map (fun c => c.1)))) ∧ Below w.heap.size w w4) := ⟨zai hr4 HB3.out.size, HB3.out.trans (hb4.mono HB3.out.size)⟩
  clear HC4 hr4 hb4 HB3
  go_wp2
  go_ret
  exact ⟨g4, c4, rfl, HR.out.1, HR.out.2⟩
set_option maxHeartbeats 4000000 in
set_option maxRecDepth 100000 in
theorem zhf (a : Option Addr) (len cap : Nat) (os : List Ob) (w : World) (h : zaY w a len cap os) :
 Calls Tryz.prog 8 #[.slice a len cap] w fun e w' => ∃ g c, e = .returned (.slice (some ⟨g, 0, none⟩) (zax os).length c) ∧ w'.ownsRow w.heap.size 9 1 (.slice (some ⟨g, 0, none⟩) (zax os).length c) (zax os).length (strV (zax os)) ∧ Below w.heap.size w w' := by
 have HC : Hid (_) := zcC a len cap os w h
 rcases hB : zb1 os with _ | _
 ·
  have HV : Hid (zax os = []) := by exact (by unfold zax; rw [hB]; rfl : zax os = [])
  rw [hB] at HC
  clear h hB
  go_enter Tryz.func8, Tryz.ntmps8
  go_wp2_with fail
  refine Calls.mono HC.out ?_
  rintro e w1 ⟨rfl, hb1⟩
  have HR : Hid ((w1.alloc (.cells #[] 9)).ownsRow w.heap.size 9 1 (.slice (some ⟨w1.heap.size, 0, none⟩) 0 0) 0 (strV []) ∧ Below w.heap.size w (w1.alloc (.cells #[] 9))) := ⟨World.ownsRow_lit w1 #[] 0 hb1.size (by decide) rfl, hb1.alloc hb1.size _⟩
  clear hb1 HC
  go_wp2
  go_ret
  rw [HV.out]
  exact ⟨_, _, rfl, HR.out.1, HR.out.2⟩
 ·
  have HV : Hid (zax os = zbq ((outC ((zbg (za2 os)).map (fun c => c.1)) (za1 (za2 os))).map (fun c => c.1))) := by exact (by unfold zax; rw [if_pos hB, zbV, zf5]; rfl : zax os = zbq ((outC ((zbg (za2 os)).map (fun c => c.1)) (za1 (za2 os))).map (fun c => c.1)))
  have HRt : Hid (∀ X, Below w.heap.size w X → Calls Tryz.prog 19 #[.slice a len cap] X fun e w' => ∃ g c xs, e = .returned (.slice (some ⟨g, 0, none⟩) (za2 os).length c) ∧ xs.map (·.1) = za2 os ∧ zdm X w' (.slice (some ⟨g, 0, none⟩) xs.length c) xs) := fun X hX => zbX a len cap os X (h.below hX) hB
  have HSm : Hid (Sm16 (za2 os)) := sm16 hB
  rw [hB] at HC
  clear h hB
  generalize za2 os = rs at HV HRt HSm
  rw [HV.out]
  obtain ⟨ms, hms⟩ : ∃ ms, zbq ((outC ((zbg rs).map (fun c => c.1)) (za1 rs)).map (fun c => c.1)) = ms := ⟨_, rfl⟩
  have HMs : Hid (zbq ((outC ((zbg rs).map (fun c => c.1)) (za1 rs)).map (fun c => c.1)) = ms) := hms
  rw [hms]
  clear hms
  go_enter Tryz.func8, Tryz.ntmps8
  go_wp2_with fail
  refine Calls.mono HC.out ?_
  rintro e w1 ⟨rfl, hb1⟩
  have HC2 : Hid (_) := HRt.out w1 hb1
  have HB1 : Hid (Below w.heap.size w w1) := hb1
  clear HC HRt hb1
  go_wp2_with fail
  refine Calls.mono HC2.out ?_
  rintro e w2 ⟨g, c, xs, rfl, hxs, hrow⟩
  have hin := hrow.rts hxs
  have HC3 : Hid (_) := zde (some ⟨g, 0, none⟩) rs.length c rs w2 hin (by have := HSm.out.l; omega) HSm.out.nm
  have HB2 : Hid (Below w.heap.size w w2) := HB1.out.trans (hrow.b.mono HB1.out.size)
  have HCl : Hid (∀ X, Below w2.heap.size w2 X → Calls Tryz.prog 26 #[.slice (some ⟨g, 0, none⟩) rs.length c] X fun e w' => ∃ g c, e = .returned (.slice (some ⟨g, 0, none⟩) (za1 rs).length c) ∧ w'.ownsRow X.heap.size 72 2 (.slice (some ⟨g, 0, none⟩) (za1 rs).length c) (za1 rs).length (fcV (za1 rs)) ∧ Below X.heap.size X w') := fun X hX => zeE (some ⟨g, 0, none⟩) rs.length c rs X (hin.below hX) HSm.out.l HSm.out.cd
  clear HC2 HB1 hrow hxs hin
  go_wp2_with fail
  refine Calls.mono HC3.out ?_
  rintro e w3 ⟨b, n, D, rfl, hb, hn, hown, hM, hb3⟩
  have HB3 : Hid (Below w.heap.size w w3) := HB2.out.trans (hb3.mono HB2.out.size)
  have HC4 : Hid (_) := HCl.out w3 hb3
  have HMp : Hid (w3.ownsMap Tryz.prog 9 fcR b n D ∧ MapF D (zbg rs)) := ⟨hown, hM⟩
  clear HC3 HB2 hown hM hb3 HCl
  go_wp2_with fail
  refine Calls.mono HC4.out ?_
  rintro e w4 ⟨g4, c4, rfl, hr4, hb4⟩
  have HB4 : Hid (Below w.heap.size w w4) := HB3.out.trans (hb4.mono HB3.out.size)
  have HC5 : Hid (_) := zdY b n D (zbg rs) w3.heap.size g4 c4 (za1 rs) w4 (HMp.out.1.kept (row := none) ⟨hb4.os, hb4.tape, hb4.output, hb4.size, fun i hi _ => hb4.block i hi⟩ (by simp)) HMp.out.2 hr4 (by have := HSm.out.cl; omega) HSm.out.cns
  clear HC4 HB3 hr4 hb4 HMp
  go_wp2_with fail
  refine Calls.mono HC5.out ?_
  rintro e w5 ⟨b5, n5, D5, rfl, hb5, hn5, hown5, hM5, hbl5⟩
  have HB5 : Hid (Below w.heap.size w w5) := HB4.out.trans (hbl5.mono HB4.out.size)
  have HC6 : Hid (_) := zeC b5 n5 D5 (outC ((zbg rs).map (fun c => c.1)) (za1 rs)) w5 hown5 hM5 (by have := HSm.out.cl; omega) (fun s hs => by
   obtain ⟨c, hc, rfl⟩ := List.mem_map.1 hs
   exact HSm.out.cn c (List.mem_filter.1 hc).1)
  rw [HMs.out] at HC6
  clear HC5 HB4 hown5 hM5 hbl5
  go_wp2_with fail
  refine Calls.mono HC6.out ?_
  rintro e w6 ⟨g6, c6, rfl, hr6, hb6⟩
  have HR : Hid (w6.ownsRow w.heap.size 9 1 (.slice (some ⟨g6, 0, none⟩) ms.length c6) ms.length (strV ms) ∧ Below w.heap.size w w6) := ⟨zai hr6 HB5.out.size, HB5.out.trans (hb6.mono HB5.out.size)⟩
  clear HC6 hr6 hb6 HB5
  go_wp2
  go_ret
  exact ⟨g6, c6, rfl, HR.out.1, HR.out.2⟩
theorem zh5 {rs : List Rt} {c : Fc} : c ∈ zbg rs ↔ ∃ r ∈ rs, r.1 = c.1 ∧ r.2.1 = c.2 := by
 unfold zbg
 rw [List.mem_map]
 constructor
 ·
  rintro ⟨r, hr, rfl⟩
  exact ⟨r, hr, rfl, rfl⟩
 ·
  rintro ⟨r, hr, e1, e2⟩
  exact ⟨r, hr, Prod.ext e1 e2⟩
theorem fit_fcs (rs : List Rt) (cs : List Fc) : cs.all (fun c => decide (c ∈ zbg rs)) = zbN rs cs := by
 unfold zbN
 congr 1
 funext c
 rw [Bool.eq_iff_iff, decide_eq_true_eq, List.any_eq_true, zh5]
 simp
theorem once_fcs {rs : List Rt} (h : (zaw rs).Nodup) : ∀ x ∈ zbg rs, ∀ y ∈ zbg rs, x.1 = y.1 → x = y := fun x hx y hy e => by
 obtain ⟨r, hr, e1, e2⟩ := zh5.1 hx
 obtain ⟨q, hq, f1, f2⟩ := zh5.1 hy
 obtain rfl := zhN h r hr q hq (by rw [e1, f1, e])
 exact Prod.ext e (e2.symm.trans f2)
theorem mis_none {rs : List Rt} {cs : List Fc} (h : zaF rs cs = []) : ∀ c ∈ cs, c.1 ∈ (zbg rs).map (fun c => c.1) := fun c hc => by
 rw [zbV]
 by_cases e : c.1 ∈ zaw rs
 ·
  exact e
 ·
  have : c.1 ∈ zaF rs cs := zbi.2 (List.mem_filter.2 ⟨List.mem_map.2 ⟨c, hc, rfl⟩, decide_eq_true e⟩)
  rw [h] at this
  cases this
set_option maxHeartbeats 8000000 in
set_option maxRecDepth 100000 in
theorem zgu (a : Option Addr) (len cap : Nat) (os : List Ob) (w : World) (h : zaY w a len cap os) :
 Calls Tryz.prog 18 #[.slice a len cap] w fun e w' => e = .returned (.int .i64 (zbb os)) ∧ Below w.heap.size w w' := by
 have hl := h.hlen
 by_cases h0 : len = 0
 ·
  have HV : Hid (zbb os = 4) := by exact (by unfold zbb; rw [if_pos (Or.inl (List.length_eq_zero_iff.1 (by omega)))] : zbb os = 4)
  have HB0 : Hid (Below w.heap.size w w) := Below.refl _ w
  clear h hl
  subst h0
  go_enter Tryz.func18, Tryz.ntmps18
  go_wp2
  go_ret
  exact ⟨by rw [HV.out]; rfl, HB0.out⟩
 have h0b : ((len : Int) == 0) = false := beq_eq_false_iff_ne.2 (by omega)
 have HC : Hid (_) := zcC a len cap os w h
 rcases hB : zb1 os with _ | _
 ·
  have HV : Hid (zbb os = 4) := by exact (by unfold zbb; rw [if_pos (Or.inr hB)] : zbb os = 4)
  rw [hB] at HC
  clear h hl hB
  go_enter Tryz.func18, Tryz.ntmps18
  go_wp2_with fail
  refine Calls.mono HC.out ?_
  rintro e w1 ⟨rfl, hb1⟩
  have HB1 : Hid (Below w.heap.size w w1) := hb1
  clear hb1 HC
  go_wp2
  go_ret
  exact ⟨by rw [HV.out]; rfl, HB1.out⟩
 have hne : ¬ (os = [] ∨ zb1 os = false) := by
  rintro (e | e)
  ·
   rw [e] at hl; simp at hl; omega
  ·
   rw [hB] at e; cases e
 have hV : zbb os = if ¬ (zaw (za2 os)).Nodup then 1 else if zaF (za2 os) (za1 (za2 os)) ≠ [] then 2 else if zbN (za2 os) (za1 (za2 os)) = false then 3 else 0 := by
  unfold zbb
  rw [if_neg hne]
 have HRt : Hid (∀ X, Below w.heap.size w X → Calls Tryz.prog 19 #[.slice a len cap] X fun e w' => ∃ g c xs, e = .returned (.slice (some ⟨g, 0, none⟩) (za2 os).length c) ∧ xs.map (·.1) = za2 os ∧ zdm X w' (.slice (some ⟨g, 0, none⟩) xs.length c) xs) := fun X hX => zbX a len cap os X (h.below hX) hB
 have HSm : Hid (Sm16 (za2 os)) := sm16 hB
 rw [hB] at HC
 clear h hB hne hl
 generalize za2 os = rs at hV HRt HSm
 generalize zbb os = res at hV ⊢
 have HV : Hid (res = if ¬ (zaw rs).Nodup then 1 else if zaF rs (za1 rs) ≠ [] then 2 else if zbN rs (za1 rs) = false then 3 else 0) := hV
 clear hV
 go_enter Tryz.func18, Tryz.ntmps18
 go_wp2_with fail
 refine Calls.mono HC.out ?_
 rintro e w1 ⟨rfl, hb1⟩
 have HC2 : Hid (_) := HRt.out w1 hb1
 have HB1 : Hid (Below w.heap.size w w1) := hb1
 clear HC HRt hb1
 go_wp2_with fail
 refine Calls.mono HC2.out ?_
 rintro e w2 ⟨g, c, xs, rfl, hxs, hrow⟩
 have hin := hrow.rts hxs
 have HC3 : Hid (_) := zde (some ⟨g, 0, none⟩) rs.length c rs w2 hin (by have := HSm.out.l; omega) HSm.out.nm
 have HB2 : Hid (Below w.heap.size w w2) := HB1.out.trans (hrow.b.mono HB1.out.size)
 have HCl : Hid (∀ X, Below w2.heap.size w2 X → Calls Tryz.prog 26 #[.slice (some ⟨g, 0, none⟩) rs.length c] X fun e w' => ∃ g c, e = .returned (.slice (some ⟨g, 0, none⟩) (za1 rs).length c) ∧ w'.ownsRow X.heap.size 72 2 (.slice (some ⟨g, 0, none⟩) (za1 rs).length c) (za1 rs).length (fcV (za1 rs)) ∧ Below X.heap.size X w') := fun X hX => zeE (some ⟨g, 0, none⟩) rs.length c rs X (hin.below hX) HSm.out.l HSm.out.cd
 clear HC2 HB1 hrow hxs hin
 go_wp2_with fail
 refine Calls.mono HC3.out ?_
 rintro e w3 ⟨b, n, D, rfl, hb, hn, hown, hM, hb3⟩
 have HB3 : Hid (Below w.heap.size w w3) := HB2.out.trans (hb3.mono HB2.out.size)
 have HC4 : Hid (_) := HCl.out w3 hb3
 have HMp : Hid (w3.ownsMap Tryz.prog 9 fcR b n D ∧ MapF D (zbg rs)) := ⟨hown, hM⟩
 clear HC3 HB2 hown hM hb3 HCl
 go_wp2_with fail
 refine Calls.mono HC4.out ?_
 rintro e w4 ⟨g4, c4, rfl, hr4, hb4⟩
 have HB4 : Hid (Below w.heap.size w w4) := HB3.out.trans (hb4.mono HB3.out.size)
 have hown4 : w4.ownsMap Tryz.prog 9 fcR b n D := HMp.out.1.kept (row := none) ⟨hb4.os, hb4.tape, hb4.output, hb4.size, fun i hi _ => hb4.block i hi⟩ (by simp)
 have hsz := HMp.out.2.sz
 rw [zbV] at hsz
 have hM4 : MapF D (zbg rs) := HMp.out.2
 have HC5 : Hid (_) := zdY b n D (zbg rs) w3.heap.size g4 c4 (za1 rs) w4 hown4 hM4 hr4 (by have := HSm.out.cl; omega) HSm.out.cns
 have HFit : Hid ((zaw rs).Nodup → zaF rs (za1 rs) = [] → ∀ X, Below w4.heap.size w4 X → Calls Tryz.prog 37 #[.map (some b), .slice (some ⟨g4, 0, none⟩) (za1 rs).length c4] X fun e w' => e = .returned (.bool (zbN rs (za1 rs))) ∧ Below X.heap.size X w') := fun h1 h2 X hX => by
  rw [← fit_fcs]
  exact implFitF b n D (zbg rs) w3.heap.size g4 c4 (za1 rs) X (hown4.kept (row := none) ⟨hX.os, hX.tape, hX.output, hX.size, fun i hi _ => hX.block i hi⟩ (by simp)) hM4 (once_fcs h1) (mis_none h2) (za6 hr4 hX) (by have := HSm.out.cl; omega) HSm.out.cns
 have hfl := @zih (zaw rs)
 have hle := zcp (zaw rs)
 have hnl : (zaw rs).length = rs.length := by unfold zaw; rw [List.length_map]
 have hl64 := HSm.out.l
 rw [hnl] at hfl hle
 rw [← hsz] at hfl hle
 obtain ⟨sz, hsd⟩ : ∃ sz, Maps.size D = sz := ⟨_, rfl⟩
 rw [hsd] at hfl hle
 have HSz : Hid (Maps.size D = sz) := hsd
 obtain ⟨nr, hnr⟩ : ∃ nr, rs.length = nr := ⟨_, rfl⟩
 rw [hnr] at hfl hle hl64 ⊢
 have HFl : Hid (sz = nr ↔ (zaw rs).Nodup) := hfl
 clear HC4 HB3 hr4 hb4 HMp hM4 hsz hfl hnl hsd hnr
 by_cases hlt : (sz : Int) < (nr : Int)
 ·
  have HR : Hid (res = 1) := by exact (by rw [HV.out, if_pos (fun h => by have := HFl.out.2 h; omega)] : res = 1)
  go_wp2_with (at_len; refine wpList_len_own _ rfl _ 49 rfl 9 72 Tryz.underlying49 fcR b n D rfl hown4 ?_; rw [HSz.out])
  go_ret
  exact ⟨by rw [HR.out]; rfl, HB4.out⟩
 have hnd : (zaw rs).Nodup := HFl.out.1 (by omega)
 have HV2 : Hid (res = if zaF rs (za1 rs) ≠ [] then 2 else if zbN rs (za1 rs) = false then 3 else 0) := by exact (by rw [HV.out, if_neg (fun h => h hnd)] : res = if zaF rs (za1 rs) ≠ [] then 2 else if zbN rs (za1 rs) = false then 3 else 0)
 have HFit2 : Hid (zaF rs (za1 rs) = [] → ∀ X, Below w4.heap.size w4 X → Calls Tryz.prog 37 #[.map (some b), .slice (some ⟨g4, 0, none⟩) (za1 rs).length c4] X fun e w' => e = .returned (.bool (zbN rs (za1 rs))) ∧ Below X.heap.size X w') := HFit.out hnd
 clear HFit HV hnd HFl
 go_wp2_with (at_len; refine wpList_len_own _ rfl _ 49 rfl 9 72 Tryz.underlying49 fcR b n D rfl hown4 ?_; rw [HSz.out])
 refine Calls.mono HC5.out ?_
 rintro e w5 ⟨b5, n5, D5, rfl, hb5, hn5, hown5, hM5, hbl5⟩
 have HB5 : Hid (Below w.heap.size w w5) := HB4.out.trans (hbl5.mono HB4.out.size)
 have hsz5 := hM5.sz
 rw [zbV, zf5] at hsz5
 have hz5 : Maps.size D5 = (zaF rs (za1 rs)).length := hsz5
 have HMi : Hid (zaF rs (za1 rs) = [] → ∀ X, Below w5.heap.size w5 X → Calls Tryz.prog 37 #[.map (some b), .slice (some ⟨g4, 0, none⟩) (za1 rs).length c4] X fun e w' => e = .returned (.bool (zbN rs (za1 rs))) ∧ Below X.heap.size X w') := fun h X hX => HFit2.out h X (hbl5.trans (hX.mono hbl5.size))
 obtain ⟨s5, hs5⟩ : ∃ s5, (zaF rs (za1 rs)).length = s5 := ⟨_, rfl⟩
 rw [hs5] at hz5
 have HZ5 : Hid (Maps.size D5 = s5) := hz5
 have hle5 := hown5.size_le
 rw [hz5] at hle5
 have hs5b : s5 ≤ 12800 := by have := HSm.out.cl; omega
 clear HC5 HB4 hM5 hbl5 hsz5 hz5 HFit2
 by_cases hgt : (0 : Int) < (s5 : Int)
 ·
  have HR : Hid (res = 2) := by exact (by rw [HV2.out, if_pos (fun h => by rw [h] at hs5; simp at hs5; omega)] : res = 2)
  clear hs5
  go_wp2_with (at_len; refine wpList_len_own _ rfl _ 49 rfl 9 72 Tryz.underlying49 fcR b5 n5 D5 rfl hown5 ?_; rw [HZ5.out])
  go_ret
  exact ⟨by rw [HR.out]; rfl, HB5.out⟩
 have hmz : zaF rs (za1 rs) = [] := List.length_eq_zero_iff.1 (by omega)
 have HC6 : Hid (_) := HMi.out hmz w5 (Below.refl _ _)
 have HV3 : Hid (res = if zbN rs (za1 rs) = false then 3 else 0) := by exact (by rw [HV2.out, if_neg (fun h => h hmz)] : res = if zbN rs (za1 rs) = false then 3 else 0)
 clear HV2 HMi hmz hs5
 rcases hf : zbN rs (za1 rs) with _ | _
 ·
  have HR : Hid (res = 3) := by exact (by rw [HV3.out, hf]; rfl : res = 3)
  rw [hf] at HC6
  clear hf HV3
  go_wp2_with (at_len; refine wpList_len_own _ rfl _ 49 rfl 9 72 Tryz.underlying49 fcR b5 n5 D5 rfl hown5 ?_; rw [HZ5.out])
  refine Calls.mono HC6.out ?_
  rintro e w6 ⟨rfl, hb6⟩
  have HB6 : Hid (Below w.heap.size w w6) := HB5.out.trans (hb6.mono HB5.out.size)
  clear HC6 hb6
  go_wp2
  go_ret
  exact ⟨by rw [HR.out]; rfl, HB6.out⟩
 ·
  have HR : Hid (res = 0) := by exact (by rw [HV3.out, hf]; rfl : res = 0)
  rw [hf] at HC6
  clear hf HV3
  go_wp2_with (at_len; refine wpList_len_own _ rfl _ 49 rfl 9 72 Tryz.underlying49 fcR b5 n5 D5 rfl hown5 ?_; rw [HZ5.out])
  refine Calls.mono HC6.out ?_
  rintro e w6 ⟨rfl, hb6⟩
  have HB6 : Hid (Below w.heap.size w w6) := HB5.out.trans (hb6.mono HB5.out.size)
  clear HC6 hb6
  go_wp2
  go_ret
  exact ⟨by rw [HR.out]; rfl, HB6.out⟩
end
structure Cp16 (w X : World) (D : Nat) (nm : List UInt8) (ar : Int) (ca : Option Addr) (cl cc : Nat) : Prop where
 b : BoxO X D (.string ⟨nm.toArray⟩) (.int .i64 ar) (.slice ca cl cc)
 r : BoxO X (D + 1) (.string ⟨#[]⟩) (.int .i64 0) (.slice none 0 0)
 fr : ∀ j, X.frozen? ⟨D + 1, j, none⟩ = false
 h : Below D w X
 hs : D + 2 ≤ X.heap.size
section
variable {w X Y : World} {D : Nat} {nm : List UInt8} {ar : Int} {ca : Option Addr} {cl cc : Nat}
theorem Cp16.grown {row : Option Nat} (h : Cp16 w X D nm ar ca cl cc) (hg : X.grownBy Y row) (hr : ∀ q, row = some q → D + 2 ≤ q) : Cp16 w Y D nm ar ca cl cc := by
 have hs := h.hs
 have hb : ∀ k, k < D + 2 → Y.heap[k]? = X.heap[k]? := fun k hk => hg.block k (by omega) (fun e => by have := hr k e.symm; omega)
 refine ⟨h.b.keep (hb D (by omega)), h.r.keep (hb (D + 1) (by omega)), fun j => ?_, h.h.grown hg (by omega) (fun q e => by have := hr q e; omega), by have := hg.size; omega⟩
 have := h.fr j
 simp only [World.frozen?, hb (D + 1) (by omega)] at this ⊢
 exact this
theorem Cp16.below (h : Cp16 w X D nm ar ca cl cc) (hb : Below X.heap.size X Y) : Cp16 w Y D nm ar ca cl cc := h.grown (row := none) ⟨hb.os, hb.tape, hb.output, hb.size, fun k hk _ => hb.block k hk⟩ (fun q e => by cases e)
end
set_option maxHeartbeats 8000000 in
set_option maxRecDepth 100000 in
theorem ziB (nm : List UInt8) (ar : Int) (ca : Option Addr) (cc : Nat) (cd : List In13) (w : World) (hin : zb4 w ca cd.length cd) (hnl : nm.length ≤ 1048576) (hcl : cd.length ≤ 1048576) (hsh : ∀ j, (cd.getD j in0).2.2.2.2.length ≤ 1048576) :
 Calls Tryz.prog 20 #[.agg #[.string ⟨nm.toArray⟩, .int .i64 ar, .slice ca cd.length cc]] w fun e w' => ∃ g c, e = .returned (.agg #[.string ⟨nm.toArray⟩, .int .i64 ar, .slice (some ⟨g, 0, none⟩) cd.length c]) ∧ w'.ownsRow w.heap.size 58 5 (.slice (some ⟨g, 0, none⟩) cd.length c) cd.length (insV cd) ∧ Below w.heap.size w w' := by
 have HI : Hid (zb4 w ca cd.length cd) := hin
 have HSh : Hid (∀ j, (cd.getD j in0).2.2.2.2.length ≤ 1048576) := hsh
 obtain ⟨b1, hb1⟩ := BoxO.new w (.string ⟨nm.toArray⟩) (.int .i64 ar) (.slice ca cd.length cc) 41
 obtain ⟨W1, hW1⟩ : ∃ W, w.alloc (.cells #[.string ⟨nm.toArray⟩, .int .i64 ar, .slice ca cd.length cc] 41) = W := ⟨_, rfl⟩
 rw [hW1] at b1 hb1
 have hs1 : W1.heap.size = w.heap.size + 1 := by rw [← hW1]; simp
 obtain ⟨b2, hb2⟩ := BoxO.new W1 (.string ⟨#[]⟩) (.int .i64 0) (.slice none 0 0) 41
 have hA2 := heap_alloc_new W1 (.cells #[.string ⟨#[]⟩, .int .i64 0, .slice none 0 0] 41)
 obtain ⟨W2, hW2⟩ : ∃ W, W1.alloc (.cells #[.string ⟨#[]⟩, .int .i64 0, .slice none 0 0] 41) = W := ⟨_, rfl⟩
 rw [hW2] at b2 hb2 hA2
 have hs2 : W2.heap.size = w.heap.size + 2 := by rw [← hW2]; simp [hs1]
 rw [hs1] at b2 hA2
 obtain ⟨D, hD⟩ : ∃ D, w.heap.size = D := ⟨_, rfl⟩
 have hC2 : Cp16 w W2 D nm ar ca cd.length cc := by
  rw [← hD]
  exact ⟨b1.below hb2, b2, fun j => frozen_of_row _ _ _ _ _ hA2, hb1.trans (hb2.mono hb1.size), by omega⟩
 have HC3 : Hid (Cp16 w (W2.alloc (.cells #[] 58)) D nm ar ca cd.length cc ∧ (W2.alloc (.cells #[] 58)).ownsRow (D + 2) 58 5 (.slice (some ⟨W2.heap.size, 0, none⟩) 0 0) 0 (insV [])) := ⟨hC2.below ((Below.refl _ _).alloc (Nat.le_refl _) _), World.ownsRow_lit W2 #[] 0 (by omega) (by decide) rfl⟩
 have c2 := HC3.out.1.b.c2
 have HD : Hid (w.heap.size = D) := hD
 rw [hD] at hs1 hs2
 have HTk : Hid (∀ k, k < cd.length → cd.take (k + 1) = cd.take k ++ [cd.getD k in0]) := fun k hk => by
  rw [List.take_succ_eq_append_getElem hk, List.getD_eq_getElem?_getD, List.getElem?_eq_getElem hk]; rfl
 have HTe : Hid (cd.take cd.length = cd) := List.take_of_length_le (Nat.le_refl _)
 have HTl : Hid (∀ k, k ≤ cd.length → (cd.take k).length = k) := fun k hk => by rw [List.length_take]; omega
 obtain ⟨m, hm⟩ : ∃ m, cd.length = m := ⟨_, rfl⟩
 have HMm : Hid (cd.length = m) := hm
 rw [hm] at HI HC3 c2 HTk HTe HTl hcl hW1 ⊢
 clear hin hsh b1 hb1 b2 hb2 hA2 hC2 hm
 go_enter Tryz.func20, Tryz.ntmps20
 go_wp2
 go_loopw [3, 10] (fun vv iv wr => ∃ (k g c : Nat), iv = .int .i64 (k : Int) ∧ k ≤ m ∧ vv = .slice (some ⟨g, 0, none⟩) k c ∧ Hid (Cp16 w wr D nm ar ca m cc ∧ wr.ownsRow (D + 2) 58 5 (.slice (some ⟨g, 0, none⟩) k c) k (insV (cd.take k)))) (fun _ iv _ => m - (intOf iv).toNat)
 case atStart => exact ⟨0, D + 2, 0, rfl, Nat.zero_le _, rfl, by rw [hs2] at HC3; exact HC3⟩
 case round =>
  obtain ⟨k, g, c, rfl, hk, rfl, HX⟩ := hrel
  clear HC3 c2
  by_cases hlt : (k : Int) < (m : Int)
  ·
   have hbw : Below w.heap.size w wr := by rw [HD.out]; exact HX.out.1.h
   obtain ⟨b, off, rfl, hbl, d0, d1, d2, d3, d4⟩ := (HI.out.below hbw).2 k (by omega)
   have hsn := HSh.out k
   have hst := HTk.out k (by omega)
   obtain ⟨q, hq⟩ : ∃ q, cd.getD k in0 = q := ⟨_, rfl⟩
   rw [hq] at d0 d1 d2 d3 d4 hsn hst
   obtain ⟨ik, iR, iA, iB, inm⟩ := q
   simp only at d0 d1 d2 d3 d4 hsn
   obtain ⟨Y, hY⟩ : ∃ Y, wr.alloc (.cells #[.int .i64 ik, .int .i64 iR, .int .i64 iA, .int .i64 iB, .string ⟨inm.toArray⟩] 58) = Y := ⟨_, rfl⟩
   have hb : Below wr.heap.size wr Y := by rw [← hY]; exact (Below.refl _ _).alloc (Nat.le_refl _) _
   have hR : Y.heap[wr.heap.size]? = some (.cells #[.int .i64 ik, .int .i64 iR, .int .i64 iA, .int .i64 iB, .string ⟨inm.toArray⟩] 58) := by rw [← hY]; exact heap_alloc_new wr _
   have hsD := HX.out.1.hs
   have HXY : Hid (Cp16 w Y D nm ar (some ⟨b, off, none⟩) m cc ∧ Y.ownsRow (D + 2) 58 5 (.slice (some ⟨g, 0, none⟩) k c) k (insV (cd.take k)) ∧ g < wr.heap.size) := ⟨HX.out.1.below hb, za6 HX.out.2 hb, (HX.out.2.lt g rfl).2⟩
   have y4 : Y.cell? ⟨wr.heap.size, 4, none⟩ = some (.string ⟨inm.toArray⟩) := by rw [cell_of_row _ _ _ _ _ _ hR]; rfl
   have HC : Hid (_) := zdS inm Y hsn
   have HSt : Hid (cd.take (k + 1) = cd.take k ++ [(ik, iR, iA, iB, inm)]) := hst
   obtain ⟨E, hE⟩ : ∃ E, wr.heap.size = E := ⟨_, rfl⟩
   have HRE : Hid (Y.heap[E]? = some (.cells #[.int .i64 ik, .int .i64 iR, .int .i64 iA, .int .i64 iB, .string ⟨inm.toArray⟩] 58) ∧ D + 2 ≤ E) := ⟨by rw [← hE]; exact hR, by omega⟩
   rw [hE] at y4 HXY
   clear hq hst hsn hb hR HX hbw
   go_wp2_with fail
   refine Calls.mono HC.out ?_
   rintro e w1 ⟨rfl, hb1⟩
   have hEl := lt_of_block HRE.out.1
   have hR1 : w1.heap[E]? = some (.cells #[.int .i64 ik, .int .i64 iR, .int .i64 iA, .int .i64 iB, .string ⟨inm.toArray⟩] 58) := (hb1.block E hEl).trans HRE.out.1
   have z4 : w1.cell? ⟨E, 4, none⟩ = some (.string ⟨inm.toArray⟩) := by rw [cell_of_row _ _ _ _ _ _ hR1]; rfl
   have zf : w1.frozen? ⟨E, 4, none⟩ = false := frozen_of_row _ _ _ _ _ hR1
   have hg1 := zaB w1 E 4 (.string ⟨inm.toArray⟩)
   have hX1 := HXY.out.1.below hb1
   have hr1 := za6 HXY.out.2.1 hb1
   have hX2 := hX1.grown hg1 (fun q e => by injection e with e; have := HRE.out.2; omega)
   have hr2 := hr1.kept hg1 (Or.inr (fun e => by injection e with e; have h1 := HXY.out.2.2; have e2 : g = E := e; omega))
   have v4 : (w1.setCell ⟨E, 4, none⟩ (.string ⟨inm.toArray⟩)).cell? ⟨E, 4, none⟩ = some (.string ⟨inm.toArray⟩) := World.cell?_setCell_same _ _ _ z4
   have v0 : (w1.setCell ⟨E, 4, none⟩ (.string ⟨inm.toArray⟩)).cell? ⟨E, 0, none⟩ = some (.int .i64 ik) := by rw [World.cell?_setCell_other (h := by simp), cell_of_row _ _ _ _ _ _ hR1]; rfl
   have v1 : (w1.setCell ⟨E, 4, none⟩ (.string ⟨inm.toArray⟩)).cell? ⟨E, 1, none⟩ = some (.int .i64 iR) := by rw [World.cell?_setCell_other (h := by simp), cell_of_row _ _ _ _ _ _ hR1]; rfl
   have v2 : (w1.setCell ⟨E, 4, none⟩ (.string ⟨inm.toArray⟩)).cell? ⟨E, 2, none⟩ = some (.int .i64 iA) := by rw [World.cell?_setCell_other (h := by simp), cell_of_row _ _ _ _ _ _ hR1]; rfl
   have v3 : (w1.setCell ⟨E, 4, none⟩ (.string ⟨inm.toArray⟩)).cell? ⟨E, 3, none⟩ = some (.int .i64 iB) := by rw [World.cell?_setCell_other (h := by simp), cell_of_row _ _ _ _ _ _ hR1]; rfl
   obtain ⟨Y2, hY2⟩ : ∃ Y2, w1.setCell ⟨E, 4, none⟩ (.string ⟨inm.toArray⟩) = Y2 := ⟨_, rfl⟩
   rw [hY2] at hX2 hr2 v0 v1 v2 v3 v4
   obtain ⟨v', Z, hrun, hown, hg⟩ := zeX (ik, iR, iA, iB, inm) hr2 hX2.hs (by omega)
   rw [← HSt.out] at hown
   obtain ⟨g2, c2, rfl⟩ := za9 hown (by omega)
   simp only at hrun
   have HX2 : Hid (Cp16 w Z D nm ar (some ⟨b, off, none⟩) m cc ∧ Z.ownsRow (D + 2) 58 5 (.slice (some ⟨g2, 0, none⟩) (k + 1) c2) (k + 1) (insV (cd.take (k + 1)))) := ⟨hX2.grown hg (fun q e => (hr2.lt q e).1), hown⟩
   clear hX1 hr1 hX2 hr2 hg hown hg1 hR1 hb1 HC HXY HRE HSt
   go_wp2_with (at_builtin; refine za0 rfl (.tmp 18) (.tmp 20) 39 rfl _ _ _ rfl rfl hrun ?_; clear hrun)
   go_roundw
   case rel => exact ⟨k + 1, g2, c2, by go_num, by omega, by go_num, HX2⟩
   case measure => simp [intOf]; omega
  ·
   obtain rfl : k = m := by omega
   rw [HTe.out] at HX
   have HOw : Hid (wr.ownsRow (D + 2) 58 5 (.slice (some ⟨g, 0, none⟩) k c) k (insV cd)) := HX.out.2
   have st : Cp16 w wr.drew D nm ar ca k cc := HX.out.1.below ⟨rfl, rfl, rfl, Nat.le_refl _, fun _ _ => rfl⟩
   have d0 := st.b.c0
   have d1 := st.b.c1
   have d2 := st.b.c2
   have r0 := st.r.c0
   have r1 := st.r.c1
   have r2 := st.r.c2
   have f0 := st.fr 0
   have f1 := st.fr 1
   have f2 := st.fr 2
   have hown := za6 HOw.out (w' := wr.drew) ⟨rfl, rfl, rfl, Nat.le_refl _, fun _ _ => rfl⟩
   have HCl : Hid (∀ V, Calls Tryz.prog 38 #[.string ⟨nm.toArray⟩] V fun e w' => e = .returned (.string ⟨nm.toArray⟩) ∧ Below V.heap.size V w') := fun V => zdS nm V hnl
   clear HX HOw HTk HTe HTl HSh
   go_upto_region 8 with fail
   go_region_held3 (fun w' => w'.cell? ⟨D, 0, none⟩ = some (.string ⟨nm.toArray⟩) ∧ w'.cell? ⟨D, 1, none⟩ = some (.int .i64 ar)) (go_keep) (first | (go_at_call 38; refine (HCl.out _).mono ?_; rintro e wn ⟨rfl, hbn⟩; replace hown := za6 hown hbn; replace st := st.below hbn; replace d0 := st.b.c0; replace d1 := st.b.c1; replace d2 := st.b.c2; replace r0 := st.r.c0; replace r1 := st.r.c1; replace r2 := st.r.c2; replace f0 := st.fr 0; replace f1 := st.fr 1; replace f2 := st.fr 2; clear hbn))
   all_goals
    have HOwn : Hid (wn.ownsRow (D + 2) 58 5 (.slice (some ⟨g, 0, none⟩) k c) k (insV cd)) := hown
    have HBd : Hid (Below D w wn) := st.h
    have hsd : D + 2 ≤ wn.heap.size := st.hs
    clear hown
    go_wp2
    obtain ⟨Y, hY, y0, y1, y2, hg⟩ := set3R (.string ⟨nm.toArray⟩) (.int .i64 ar) (.slice (some ⟨g, 0, none⟩) k c) r0 r1 r2
    rw [hY]
    refine bodyPost_ret (v := .agg #[.string ⟨nm.toArray⟩, .int .i64 ar, .slice (some ⟨g, 0, none⟩) k c]) (by simp [results, Tryz.results20, go_sem, y0, y1, y2]) rfl ?_
    exact ⟨g, c, rfl, by rw [HD.out]; exact zai (HOwn.out.kept hg (zft HOwn.out (by omega))) (by omega), by rw [HD.out]; exact (HBd.out).grown hg (by omega) (fun k e => by injection e with e; omega)⟩
set_option maxHeartbeats 2000000 in
set_option maxRecDepth 100000 in
theorem zk6 (a b : List UInt8) (n m : Int) (ca cb : Option Addr) (la lb ka kb : Nat) (W : World) :
 Calls Tryz.prog 40 #[.agg #[.string ⟨a.toArray⟩, .int .i64 n, .slice ca la ka], .agg #[.string ⟨b.toArray⟩, .int .i64 m, .slice cb lb kb]] W fun e w' => e = .returned (.int .i64 (Lib.compareBytes a b)) ∧ ∃ q os', w' = Go.Sort.grow (W.drewN q) os' := by
 have hcon := fun W' => zhj a b W'
 generalize Lib.compareBytes a b = r at hcon ⊢
 go_enter Tryz.func40, Tryz.ntmps40
 go_wp2_with (go_at_call 41; refine (hcon _).mono ?_; rintro e w' ⟨rfl, rfl⟩)
 go_ret
 exact ⟨rfl, 0, _, by rw [Go.Sort.alloc_eq_grow, Go.Sort.alloc_eq_grow, Go.Sort.grow_grow]; rfl⟩
section
open Go.RowKit Go.Sort Go.Shelf
def encR (x : RV) : List Value := [.string ⟨x.1.1.toArray⟩, .int .i64 x.1.2.1, rvT x]
theorem zfp : ∀ (xs : List RV) (j : Nat), j < xs.length * 3 → (rtsV xs)[j]? = some ((encR (xs[j / 3]!))[j % 3]!)
 | [], j, h => by simp at h
 | x :: r, 0, _ => by simp [rtsV, encR]
 | x :: r, 1, _ => by simp [rtsV, encR]
 | x :: r, 2, _ => by simp [rtsV, encR]
 | x :: r, j + 3, h => by
  have h1 : (j + 3) / 3 = j / 3 + 1 := by omega
  have h2 : (j + 3) % 3 = j % 3 := by omega
  have h3 : j < r.length * 3 := by simp only [List.length_cons] at h; omega
  rw [h1, h2, List.getElem!_cons_succ]
  simp only [rtsV, List.getElem?_cons_succ]
  exact zfp r j h3
theorem zdI : ∀ xs : List RV, (rtsV xs).length = xs.length * 3
 | [] => rfl
 | x :: r => by simp only [rtsV, List.length_cons, zdI r]; omega
theorem flat_rts (xs : List RV) : (flatK encR 3 xs.toArray).toList = rtsV xs := by
 apply List.ext_getElem?
 intro j
 by_cases hj : j < xs.length * 3
 ·
  rw [zfp xs j hj, Array.getElem?_toList, Array.getElem?_eq_getElem (by simpa using hj), ← getElem!_pos _ j (by simpa using hj), get_flatK encR 3 _ j (by simpa using hj)]
  simp
 ·
  rw [List.getElem?_eq_none (by rw [Array.length_toList, size_flatK, List.size_toArray]; omega), List.getElem?_eq_none (by rw [zdI]; omega)]
theorem zgw {w : World} {g n : Nat} {os : Array Obj} {cur : Array Value} {e : TypeId} {fr : Nat × Nat} (F : Array Value) (hb : w.heap[g]? = some (.cells cur e fr)) :
 (grow (putRow id (Sort.ahead w n) g 0 F) os).heap[g]? = some (.cells (putCells id 0 F cur) e fr) := by
 have hg : g < w.heap.size := (Array.getElem?_eq_some_iff.1 hb).1
 rw [heap_grow_old _ _ (by simpa using hg)]
 simp [putRow, mapBlock, Sort.ahead, Array.getElem?_modify, hb, onCells]
theorem zeF {w : World} {g n : Nat} {os : Array Obj} (F : Array Value) : w.grownBy (grow (putRow id (Sort.ahead w n) g 0 F) os) (some g) := by
 refine ⟨rfl, rfl, rfl, by simp, fun k hk hne => ?_⟩
 rw [heap_grow_old _ _ (by simpa using hk)]
 have : g ≠ k := fun e => hne (by rw [e])
 simp [putRow, mapBlock, Sort.ahead, Array.getElem?_modify, this]
theorem zeN (cur F : Array Value) (h : F.size ≤ cur.size) : (putCells id 0 F cur).toList.take F.size = F.toList := by
 apply List.ext_getElem?
 intro j
 by_cases hj : j < F.size
 ·
  rw [List.getElem?_take_of_lt hj, Array.getElem?_toList, Array.getElem?_toList]
  simp [putCells, hj, show j < cur.size by omega]
 ·
  rw [List.getElem?_take_eq_none (by omega), List.getElem?_eq_none (by simp; omega)]
theorem za7.holds {X : World} {B g c : Nat} {xs : List RV} (h : za7 X B (.slice (some ⟨g, 0, Option.none⟩) xs.length c) xs) : HoldsK encR 3 X g 0 xs.toArray ∧ g < X.heap.size := by
 obtain ⟨hl, ⟨e, _⟩ | ⟨g', cap, cur, e, hbase, hb, h1, h2, h3, h4⟩⟩ := h.row
 ·
  cases e
 ·
  injection e with e _ _
  injection e with e
  injection e with e _ _
  subst e
  refine ⟨fun j hj => ?_, (Array.getElem?_eq_some_iff.1 hb).1⟩
  have hj' : j < xs.length * 3 := by simpa using hj
  refine ⟨?_, by simp [World.frozen?, hb]⟩
  have hx : (cur.toList.take (xs.length * 3))[j]? = (rtsV xs)[j]? := by rw [h4]
  rw [List.getElem?_take_of_lt hj', zfp xs j hj'] at hx
  simp only [World.cell?, hb, Nat.zero_add, Option.isSome_none, Bool.false_eq_true, if_false]
  rw [← Array.getElem?_toList, hx, get_flatK encR 3 _ j (by simpa using hj')]
  simp
theorem za7.sorted {X : World} {B g c : Nat} {xs ys : List RV} (h : za7 X B (.slice (some ⟨g, 0, Option.none⟩) xs.length c) xs) (hp : ys.Perm xs) (n : Nat) (os : Array Obj) :
 za7 (sortWorldK encR 3 X g 0 n ys.toArray os) B (.slice (some ⟨g, 0, Option.none⟩) ys.length c) ys ∧ X.grownBy (sortWorldK encR 3 X g 0 n ys.toArray os) (some g) := by
 have hg : X.grownBy (sortWorldK encR 3 X g 0 n ys.toArray os) (some g) := zeF _
 have hlen := hp.length_eq
 have hfl : (flatK encR 3 ys.toArray).size = ys.length * 3 := by simp
 refine ⟨⟨?_, fun y hy => ?_⟩, hg⟩
 ·
  obtain ⟨hl, ⟨e, _⟩ | ⟨g', cap, cur, e, hbase, hb, h1, h2, h3, h4⟩⟩ := h.row
  ·
   cases e
  ·
   injection e with e _ ec
   injection e with e
   injection e with e _ _
   subst e ec
   refine ⟨by rw [zdI], .inr ⟨g, c, _, rfl, hbase, zgw _ hb, by omega, h2, by simp [putCells, h3], ?_⟩⟩
   rw [← hfl, zeN cur _ (by rw [hfl, h3]; omega), flat_rts]
 ·
  have hx := h.trees y (hp.mem_iff.1 hy)
  refine hx.kept hg ?_
  rcases hv : (rvT y).ownBlock with _ | k
  ·
   exact Or.inl rfl
  ·
   refine Or.inr (fun e => ?_)
   injection e with e
   subst e
   obtain ⟨_, ⟨e1, _⟩ | ⟨g1, _, cur1, e1, _, hb1, _⟩⟩ := hx
   ·
    rw [e1] at hv; cases hv
   ·
    rw [e1] at hv
    injection hv with hv
    obtain ⟨_, ⟨e2, _⟩ | ⟨g2, _, cur2, e2, _, hb2, _⟩⟩ := h.row
    ·
     cases e2
    ·
     injection e2 with e2 _ _
     injection e2 with e2
     injection e2 with e2 _ _
     have hgk : g1 = g2 := hv.trans e2
     rw [hgk, hb2] at hb1
     injection hb1 with hb1
     injection hb1 with _ hb1 _
     exact absurd hb1 (by decide)
end
end Go.Proofs.YtenaaneckobdpaaGreat
