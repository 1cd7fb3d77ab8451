/-
  Parts of one proof, one behind the other: ImgJ3, ImgL3, LikeC.
-/
import Derived.Test.YtogobeegibngiaaGreatDoorP35
import Derived.Test.YtogobeegibngiaaGreatDoorP34
import Derived.Test.YtogobeegibngiaaGreatDoorP27
import Derived.Test.YtogobeegibngiaaGreatDoorP7

/-! Contracts of chapter 14's landed code: ShowImage. -/
namespace Go.Proofs.YtogobeegibngiaaGreatDoor
open Go.RowKit

theorem strV_oneL (ls : List (List UInt8)) : ∀ u ∈ strV ls, u.oneCell' = true := by
  intro u hu
  unfold strV at hu
  obtain ⟨l, _, rfl⟩ := List.mem_map.1 hu
  rfl
theorem imLs_bd {rs : List Rt} (h : ∀ r ∈ rs, rtB r = true) (h64 : rs.length ≤ 64) (k : Nat) : (imLs (rs.take k)).length ≤ 12864 := by
  have h1 := imLs_len (rs.take k) (fun r hr => h r (List.mem_of_mem_take hr))
  have h2 : (rs.take k).length ≤ 64 := by rw [List.length_take]; omega
  omega
set_option maxHeartbeats 8000000 in
set_option maxRecDepth 100000 in
theorem implLinesOfRts (a : Option Addr) (len cap : Nat) (rs : List Rt) (w : World) (h : RtsCap w a len cap rs) (hrt : ∀ r ∈ rs, rtB r = true) (h64 : rs.length ≤ 64) (ht : PowIs w) :
    Calls Tryz.prog 16 #[.slice a len cap] w fun e w' => ∃ v, e = .returned v ∧ w'.ownsRow w.heap.size 9 1 v (imLs rs).length (strV (imLs rs)) ∧ Below w.heap.size w w' := by
  obtain rfl : rs.length = len := h.1
  have HI : Hid (RtsCap w a rs.length cap rs) := h
  have HT : Hid (∀ X, Below w.heap.size w X → PowIs X) := fun X hX => ht.below hX
  have HLn : Hid (∀ k, (imLs (rs.take k)).length ≤ 12864) := fun k => imLs_bd hrt h64 k
  have HTk : Hid (∀ k, k < rs.length → imLs (rs.take (k + 1)) = imLs (rs.take k) ++ rtLs (rs.getD k rt0)) := fun k hk => imLs_take rs k hk
  have HAl : Hid (rs.take rs.length = rs) := List.take_of_length_le (Nat.le_refl _)
  have HOk : Hid (∀ k, k < rs.length → rtB (rs.getD k rt0) = true) := fun k hk => hrt _ (mem_getI hk)
  obtain ⟨n, hnn⟩ : ∃ n, rs.length = n := ⟨_, rfl⟩
  have HN : Hid (rs.length = n) := hnn
  have hn64 : n ≤ 64 := by omega
  have ho := World.ownsRow_lit (base := w.heap.size) (e := 9) (size := 1) w #[] 0 (Nat.le_refl _) (by decide) rfl
  have hbA : Below w.heap.size w (w.alloc (.cells #[] 9)) := (Below.refl _ _).alloc (Nat.le_refl _) _
  obtain ⟨V2, hV2⟩ : ∃ V, w.alloc (.cells #[] 9) = V := ⟨_, rfl⟩
  rw [hV2] at ho hbA
  have HS0 : Hid (V2.ownsRow w.heap.size 9 1 (.slice (some ⟨w.heap.size, 0, none⟩) 0 0) (imLs (rs.take 0)).length (strV (imLs (rs.take 0))) ∧ Below w.heap.size w V2) := ⟨ho, hbA⟩
  rw [hnn] at HI HTk HOk HAl ⊢
  clear h hrt h64 ht hnn ho hbA
  go_enter Tryz.func16, Tryz.ntmps16
  go_wp2
  go_loopw [3, 9] (fun vv iv wx => ∃ k : Nat, iv = .int .i64 (k : Int) ∧ k ≤ n ∧ Hid (wx.ownsRow w.heap.size 9 1 vv (imLs (rs.take k)).length (strV (imLs (rs.take k))) ∧ Below w.heap.size w wx)) (fun _ iv _ => n - (intOf iv).toNat)
  case atStart => exact ⟨0, rfl, Nat.zero_le _, HS0⟩
  case round =>
    obtain ⟨k, rfl, hk, sr⟩ := hrel
    clear HS0
    by_cases hlt : (k : Int) < (n : Int)
    · obtain ⟨b, off, rfl, hbl, c0, c1, ca, cl, cc, c2, hin, hcc, hcm⟩ := (HI.out.below sr.out.2).2.2.2 k (by omega)
      have hok := HOk.out k (by omega)
      have htk := HTk.out k (by omega)
      have hlk := HLn.out k
      have hlk2 := HLn.out (k + 1)
      obtain ⟨r, hrr⟩ : ∃ r, rs.getD k rt0 = r := ⟨_, rfl⟩
      rw [hrr] at c0 c1 hin hok htk
      rw [htk, List.length_append] at hlk2
      obtain ⟨nm, ar, cd⟩ := r
      simp only at c0 c1 hin
      obtain rfl : cd.length = cl := hin.1
      have hlr := rtLs_len (nm, ar, cd)
      simp only at hlr
      obtain ⟨Y, hY⟩ : ∃ Y, wr.alloc (.cells #[.string ⟨nm.toArray⟩, .int .i64 ar, .slice ca cd.length cc] 50) = Y := ⟨_, rfl⟩
      have hbY : Below wr.heap.size wr Y := by rw [← hY]; exact (Below.refl _ _).alloc (Nat.le_refl _) _
      have hRY : Y.heap[wr.heap.size]? = some (.cells #[.string ⟨nm.toArray⟩, .int .i64 ar, .slice ca cd.length cc] 50) := by rw [← hY]; exact heap_alloc_new wr _
      obtain ⟨y0, y1, y2, _⟩ := threeR (Below.refl _ Y) (lt_of_block hRY) hRY
      have hBY : Below w.heap.size w Y := sr.out.2.trans (hbY.mono sr.out.2.size)
      have HC : Hid (_) := implLinesOf nm ar ca cc cd Y (HT.out _ hBY) hok (hin.below hbY)
      have HV : Hid (Y.ownsRow w.heap.size 9 1 u3 (imLs (rs.take k)).length (strV (imLs (rs.take k)))) := own_below sr.out.1 hbY
      have HBY : Hid (Below w.heap.size w Y) := hBY
      generalize rtLs (nm, ar, cd) = ns at HC htk hlr hlk2
      have HTK : Hid (imLs (rs.take (k + 1)) = imLs (rs.take k) ++ ns ∧ ns.length = cd.length + 1) := ⟨htk, hlr⟩
      obtain ⟨m, hm⟩ : ∃ m, cd.length = m := ⟨_, rfl⟩
      rw [hm] at HC HTK c2 hY y2
      have hmn : (imLs (rs.take k)).length + (m + 1) ≤ 12864 := by have h1 := HTK.out.2; omega
      clear hrr hok htk hlr hlk hlk2 hin hcc hcm hbY hBY sr hm hRY
      go_wp2_with fail
      refine Calls.mono HC.out ?_
      rintro e w5 ⟨v2, rfl, hv2, hb5⟩
      obtain ⟨i0, hi, hz0, hz1, hz2⟩ := info_parts info9
      have hv5 := own_below HV.out hb5
      obtain ⟨v', Y2, hrun, hown, hg, _⟩ := run_append_src (P := Tryz.prog) w5 w.heap.size 35 35 9 i0 _ 1 16 Tryz.underlying35 hi hz0 hz1 hz2 rfl (by decide) _ _ _ hv5 v2 (m + 1) (strV ns) (own_srcL hv2 (strV_oneL _)) (by unfold maxLen; omega) (by omega) (by have := HBY.out.size; have := hb5.size; omega)
      have HS6 : Hid (Y2.ownsRow w.heap.size 9 1 v' (imLs (rs.take (k + 1))).length (strV (imLs (rs.take (k + 1)))) ∧ Below w.heap.size w Y2) := by
        have h5 : Below w.heap.size w w5 := HBY.out.trans (hb5.mono HBY.out.size)
        refine ⟨?_, h5.grown hg h5.size (fun q e => (hv5.lt q e).1)⟩
        rw [HTK.out.1, List.length_append, HTK.out.2, show strV (imLs (rs.take k) ++ ns) = strV (imLs (rs.take k)) ++ strV ns by simp [strV]]
        exact hown
      clear hown hg hv5 hv2 hb5 HV HBY HTK c0 c1 c2 hi hz0 hz1 hz2
      go_wp2_with (at_builtin; refine wpList_append_run rfl (.tmp 13) (.tmp 15) 35 rfl _ _ _ rfl rfl hrun ?_; clear hrun)
      go_roundw
      case rel => exact ⟨k + 1, by go_num, by omega, HS6⟩
      case measure => simp [intOf]; omega
    · obtain rfl : k = n := by omega
      have hV := sr.out
      rw [HAl.out] at hV
      have HV : Hid (_) := hV
      clear hV sr
      go_wp2
      go_ret
      exact ⟨_, rfl, HV.out⟩

set_option maxHeartbeats 8000000 in
set_option maxRecDepth 100000 in
theorem implShowImage (a : Option Addr) (len cap : Nat) (rs : List Rt) (w : World) (h : RtOk w a len cap rs) (ht : PowIs w) :
    Calls Tryz.prog 6 #[.agg #[.slice a len cap]] w fun e w' => e = .returned (.string ⟨(showIm rs).toArray⟩) ∧ Below w.heap.size w w' := by
  obtain rfl : rs.length = len := h.c.1
  obtain ⟨W, hW⟩ : ∃ W, w.alloc (.cells #[.slice a rs.length cap] 26) = W := ⟨_, rfl⟩
  have hb : Below w.heap.size w W := by rw [← hW]; exact (Below.refl _ _).alloc (Nat.le_refl _) _
  have hsW : W.heap.size = w.heap.size + 1 := by rw [← hW]; simp
  have hR : W.heap[w.heap.size]? = some (.cells #[.slice a rs.length cap] 26) := by rw [← hW]; exact heap_alloc_new w _
  have hW2 := h.below hb
  have HC1 : Hid (_) := implImageOk a rs.length cap rs W hW2
  have HI : Hid (RtsCap W a rs.length cap rs) := hW2.c
  have HT : Hid (∀ X, Below w.heap.size w X → PowIs X) := fun X hX => ht.below hX
  have HBW : Hid (Below w.heap.size w W) := hb
  have c0 : W.cell? ⟨w.heap.size, 0, none⟩ = some (.slice a rs.length cap) := by rw [cell_of_row _ _ _ _ _ _ hR]; rfl
  obtain ⟨D, hD⟩ : ∃ D, w.heap.size = D := ⟨_, rfl⟩
  rcases hib : imageB rs with _ | _
  · have HR : Hid (showIm rs = []) := by exact (by unfold showIm; rw [hib]; rfl : showIm rs = [])
    rw [hib] at HC1
    generalize showIm rs = out at HR ⊢
    obtain ⟨n, hnn⟩ : ∃ n, rs.length = n := ⟨_, rfl⟩
    rw [hnn] at HC1 hW c0 ⊢
    rw [hD] at c0 hsW HBW ⊢
    clear h hW2 hb ht hib hnn HI hR
    go_enter Tryz.func6, Tryz.ntmps6
    go_wp2_with fail
    refine Calls.mono HC1.out ?_
    rintro e w1 ⟨rfl, hb1⟩
    go_wp2
    go_ret
    exact ⟨by rw [HR.out]; rfl, HBW.out.trans (hb1.mono (by omega))⟩
  · have HR : Hid (showIm rs = (imLs rs).flatten) := by exact (by unfold showIm; rw [hib, imLs_flat]; rfl : showIm rs = (imLs rs).flatten)
    have HFl : Hid ((imLs rs).flatten.length ≤ 400000 ∧ (imLs rs).length ≤ 12864) := ⟨by rw [imLs_flat]; exact showI_len hib, by
      have h1 := imLs_bd (image_rts hib) (of_decide_eq_true hib).2.2 rs.length
      rw [List.take_of_length_le (Nat.le_refl _)] at h1
      exact h1⟩
    have HLs : Hid (∀ X, Below W.heap.size W X → Calls Tryz.prog 16 #[.slice a rs.length cap] X fun e w' => ∃ v, e = .returned v ∧ w'.ownsRow X.heap.size 9 1 v (imLs rs).length (strV (imLs rs)) ∧ Below X.heap.size X w') := fun X hX => implLinesOfRts a rs.length cap rs X (HI.out.below hX) (image_rts hib) (of_decide_eq_true hib).2.2 (HT.out _ (hb.trans (hX.mono hb.size)))
    rw [hib] at HC1
    generalize showIm rs = out at HR ⊢
    obtain ⟨n, hnn⟩ : ∃ n, rs.length = n := ⟨_, rfl⟩
    rw [hnn] at HC1 hW c0 HI HLs ⊢
    rw [hD] at c0 hsW
    clear h hW2 hb ht hib hnn hR
    go_enter Tryz.func6, Tryz.ntmps6
    go_wp2_with fail
    refine Calls.mono HC1.out ?_
    rintro e w1 ⟨rfl, hb1⟩
    have d0 : w1.cell? ⟨D, 0, none⟩ = some (.slice a n cap) := (hb1.cell (p := ⟨D, 0, none⟩) (by show D < _; omega)).trans c0
    go_wp2_with fail
    refine Calls.mono (HLs.out _ hb1) ?_
    rintro e w2 ⟨v, rfl, hv, hb2⟩
    have HB6 : Hid (Below W.heap.size W w2) := hb1.trans (hb2.mono hb1.size)
    obtain ⟨_, av, cv, hve, hin⟩ := own_texts hv
    have HJ : Hid (_) := implJoined av (imLs rs).length cv (imLs rs) w2 hin (by have := HFl.out.1; omega) (by have := HFl.out.2; omega)
    subst hve
    generalize (imLs rs).flatten = fl at HR HJ
    generalize (imLs rs).length = nl at HJ ⊢
    clear hv hin hb1 hb2 d0 c0
    go_wp2_with fail
    refine Calls.mono HJ.out ?_
    rintro e w7 ⟨rfl, hb7⟩
    have HB8 : Hid (Below w.heap.size w w7) := HBW.out.trans ((HB6.out.trans (hb7.mono HB6.out.size)).mono HBW.out.size)
    clear hb7
    go_wp2
    go_ret
    exact ⟨by rw [HR.out]; rfl, by first | exact HB8.out | (rw [hD]; exact HB8.out) | (rw [← hD]; exact HB8.out)⟩

end Go.Proofs.YtogobeegibngiaaGreatDoor

/-! Contracts of chapter 14's landed code: withImageLine, the reader at images, ReadImage. -/
namespace Go.Proofs.YtogobeegibngiaaGreatDoor
open Go.RowKit

set_option maxHeartbeats 4000000 in
set_option maxRecDepth 100000 in
theorem implWithIm (B : Nat) (x : List UInt8) (a : Option Addr) (c : Nat) (xs : List RV) (w : World) (hB : B ≤ w.heap.size) (hf : RtsOwn w B (.slice a xs.length c) xs) (ha : ApartR (xs.map rvT)) (hx : x.length ≤ 1048576) (hn : xs.length ≤ 1048576) (hcl : ∀ y ∈ xs, y.1.2.2.length ≤ 1048576) :
    Calls Tryz.prog 21 #[.agg #[.slice a xs.length c], .string ⟨x.toArray⟩] w fun e w' => ∃ (a' : Option Addr) (c' : Nat) (xs' : List RV), e = .returned (.agg #[.slice a' xs'.length c']) ∧ RtsOwn w' B (.slice a' xs'.length c') xs' ∧ ApartR (xs'.map rvT) ∧ xs'.map (·.1) = rtLo (xs.map (·.1)) x ∧ Below B w w' := by
  have hp := World.ownsRow_lit (base := B) (e := 26) (size := 1) w #[.slice a xs.length c] 1 hB (by decide) rfl
  obtain ⟨W1, hW1⟩ : ∃ W, w.alloc (.cells #[.slice a xs.length c] 26) = W := ⟨_, rfl⟩
  rw [hW1] at hp
  have hs1 : W1.heap.size = w.heap.size + 1 := by rw [← hW1]; simp
  have hb1 : Below w.heap.size w W1 := by rw [← hW1]; exact (Below.refl _ _).alloc (Nat.le_refl _) _
  have hr := World.ownsRow_lit (base := B) (e := 26) (size := 1) W1 #[.slice none 0 0] 1 (by omega) (by decide) rfl
  obtain ⟨W, hW⟩ : ∃ W, W1.alloc (.cells #[.slice none 0 0] 26) = W := ⟨_, rfl⟩
  rw [hW] at hr
  have hs2 : W.heap.size = w.heap.size + 2 := by rw [← hW]; simp [hs1]
  have hb2 : Below W1.heap.size W1 W := by rw [← hW]; exact (Below.refl _ _).alloc (Nat.le_refl _) _
  have hbW : Below w.heap.size w W := hb1.trans (hb2.mono hb1.size)
  rw [hs1] at hr
  obtain ⟨P, hP⟩ : ∃ P, w.heap.size = P := ⟨_, rfl⟩
  rw [hP] at hp hr hs1 hs2
  have hp2 := own_below hp hb2
  have HC : Hid (_) := implWithRtN B W a c xs x (by omega) (hf.below hbW) ha hx hn hcl
  have HO : Hid (W.ownsRow B 26 1 (.slice (some ⟨P, 0, none⟩) 1 1) 1 [.slice a xs.length c] ∧ W.ownsRow B 26 1 (.slice (some ⟨P + 1, 0, none⟩) 1 1) 1 [.slice none 0 0] ∧ Below B w W ∧ B ≤ W.heap.size) := ⟨hp2, hr, hbW.mono hB, by omega⟩
  have c0 : W.cell? ⟨P, 0, none⟩ = some (.slice a xs.length c) := hp2.cells rfl 0 _ rfl
  obtain ⟨nx, hnx⟩ : ∃ nx, xs.length = nx := ⟨_, rfl⟩
  rw [hnx] at HC HO c0 hW1 ⊢
  clear hp hr hb1 hb2 hf ha hbW hp2 hcl hnx
  go_enter Tryz.func21, Tryz.ntmps21
  go_wp2_with fail
  refine Calls.mono HC.out ?_
  rintro e w2 ⟨a', c', xs', rfl, hf2, ha2, hm2, hK2, hb2⟩
  obtain ⟨hp, hr, hBW, hBs⟩ := HO.out
  have hp2 := hK2.2 _ _ _ _ _ _ (by decide) (by decide) hp
  have hr2 := hK2.2 _ _ _ _ _ _ (by decide) (by decide) hr
  have d0 : w2.cell? ⟨P, 0, none⟩ = some (.slice a nx c) := hp2.cells rfl 0 _ rfl
  have df : w2.frozen? ⟨P, 0, none⟩ = false := hp2.frozenAt 0
  obtain ⟨hp3, hg3⟩ := hp2.stored 0 (.slice a' xs'.length c')
  have hf3 := hf2.kept hg3 (own_typesR hf2.row hp2 (by decide)) (fun z hz => own_typesR (hf2.trees z hz) hp2 (by decide))
  have hr3 := hr2.kept hg3 (Or.inr (fun e => by simp [Value.ownBlock] at e))
  have hb3 : Below B w (w2.setCell ⟨P, 0, none⟩ (.slice a' xs'.length c')) := (hBW.trans hb2).grown hg3 (Nat.le_trans hBs hb2.size) (fun k e => (hp2.lt k e).1)
  obtain ⟨X, hX⟩ : ∃ X, w2.setCell ⟨P, 0, none⟩ (.slice a' xs'.length c') = X := ⟨_, rfl⟩
  rw [hX] at hp3 hf3 hr3 hb3
  have e0 : X.cell? ⟨P, 0, none⟩ = some (.slice a' xs'.length c') := hp3.cells rfl 0 _ rfl
  have r0 : X.cell? ⟨P + 1, 0, none⟩ = some (.slice none 0 0) := hr3.cells rfl 0 _ rfl
  have rf0 : X.frozen? ⟨P + 1, 0, none⟩ = false := hr3.frozenAt 0
  have z0 : (X.setCell ⟨P + 1, 0, none⟩ (.slice a' xs'.length c')).cell? ⟨P + 1, 0, none⟩ = some (.slice a' xs'.length c') := World.cell?_setCell_same _ _ _ r0
  obtain ⟨_, hg4⟩ := hr3.stored 0 (.slice a' xs'.length c')
  have hsX : B ≤ X.heap.size := by have h1 := hg3.size; rw [hX] at h1; exact Nat.le_trans (Nat.le_trans hBs hb2.size) h1
  have HF : Hid (RtsOwn (X.setCell ⟨P + 1, 0, none⟩ (.slice a' xs'.length c')) B (.slice a' xs'.length c') xs' ∧ ApartR (xs'.map rvT) ∧ xs'.map (·.1) = rtLo (xs.map (·.1)) x ∧ Below B w (X.setCell ⟨P + 1, 0, none⟩ (.slice a' xs'.length c'))) := ⟨hf3.kept hg4 (own_typesR hf3.row hr3 (by decide)) (fun z hz => own_typesR (hf3.trees z hz) hr3 (by decide)), ha2, hm2, hb3.grown hg4 hsX (fun k e => (hr3.lt k e).1)⟩
  obtain ⟨Y, hY⟩ : ∃ Y, X.setCell ⟨P + 1, 0, none⟩ (.slice a' xs'.length c') = Y := ⟨_, rfl⟩
  rw [hY] at HF z0
  clear hf2 ha2 hm2 hK2 hb2 hp hr hp2 hr2 hp3 hg3 hf3 hr3 hb3 hg4 HC HO hBW c0
  go_wp2
  refine bodyPost_ret (v := .agg #[.slice a' xs'.length c']) (by simp [results, Tryz.results21, go_sem, z0]) rfl ?_
  exact ⟨a', c', xs', rfl, HF.out⟩

/-- What the reader holds: its two functions (at Q), the answer's cell (at Q + 1), nothing (at Q + 2), the image so far (at Q + 3), the lines. What the image holds lies from B on. -/
structure RqI (X w : World) (Q B : Nat) (la : Option Addr) (ls : List (List UInt8)) (xs : List RV) (a : Option Addr) (c : Nat) : Prop where
  p : X.cell? ⟨Q + 3, 0, none⟩ = some (.slice a xs.length c)
  pf : X.frozen? ⟨Q + 3, 0, none⟩ = false
  r : X.cell? ⟨Q + 1, 0, none⟩ = some (.slice none 0 0)
  rf : X.frozen? ⟨Q + 1, 0, none⟩ = false
  n : X.cell? ⟨Q + 2, 0, none⟩ = some (.slice none 0 0)
  f0 : X.cell? ⟨Q, 0, none⟩ = some (.func (.func 21) #[] #[])
  f1 : X.cell? ⟨Q, 1, none⟩ = some (.func (.func 6) #[] #[])
  ln : TextsIn X la ls.length ls
  lb : ∀ b off, la = some ⟨b, off, none⟩ → b < B ∧ b ≠ Q + 3
  fo : RtsOwn X B (.slice a xs.length c) xs
  ap : ApartR (xs.map rvT)
  pb : Q + 3 < B
  b : Below Q w X
  bs : B ≤ X.heap.size
theorem TextsIn.keepI {w w' : World} {a : Option Addr} {len : Nat} {ts : List (List UInt8)} (h : TextsIn w a len ts) (hs : w.heap.size ≤ w'.heap.size) (hb : ∀ b off, a = some ⟨b, off, none⟩ → w'.heap[b]? = w.heap[b]?) : TextsIn w' a len ts := by
  refine ⟨h.1, fun j hj => ?_⟩
  obtain ⟨b, off, e, hlt, c⟩ := h.2 j hj
  exact ⟨b, off, e, Nat.lt_of_lt_of_le hlt hs, (World.cell?_of_block (a := ⟨b, off + j, none⟩) (hb b off e)).trans c⟩
section
variable {X Y w : World} {Q B : Nat} {la : Option Addr} {ls : List (List UInt8)} {xs : List RV} {a : Option Addr} {c : Nat}
theorem RqI.ql (h : RqI X w Q B la ls xs a c) : Q < X.heap.size := World.block_lt_of_cell? X ⟨Q, 0, none⟩ h.f0
theorem RqI.below (h : RqI X w Q B la ls xs a c) (hb : Below X.heap.size X Y) : RqI Y w Q B la ls xs a c := by
  have hpb := h.pb
  have hbs := h.bs
  exact ⟨(hb.cell (p := ⟨Q + 3, 0, none⟩) (by show Q + 3 < _; omega)).trans h.p, (hb.frozen (p := ⟨Q + 3, 0, none⟩) (by show Q + 3 < _; omega)).trans h.pf, (hb.cell (p := ⟨Q + 1, 0, none⟩) (by show Q + 1 < _; omega)).trans h.r, (hb.frozen (p := ⟨Q + 1, 0, none⟩) (by show Q + 1 < _; omega)).trans h.rf, (hb.cell (p := ⟨Q + 2, 0, none⟩) (by show Q + 2 < _; omega)).trans h.n, (hb.cell (p := ⟨Q, 0, none⟩) h.ql).trans h.f0, (hb.cell (p := ⟨Q, 1, none⟩) h.ql).trans h.f1, h.ln.below hb, h.lb, h.fo.below hb, h.ap, h.pb, h.b.trans (hb.mono (Nat.le_of_lt h.ql)), Nat.le_trans h.bs hb.size⟩
theorem RqI.put (h : RqI X w Q B la ls xs a c) (hb : Below B X Y) {xs' : List RV} {a' : Option Addr} {c' : Nat} (fo : RtsOwn Y B (.slice a' xs'.length c') xs') (ap : ApartR (xs'.map rvT)) :
    Y.cell? ⟨Q + 3, 0, none⟩ = some (.slice a xs.length c) ∧ Y.frozen? ⟨Q + 3, 0, none⟩ = false ∧ RqI (Y.setCell ⟨Q + 3, 0, none⟩ (.slice a' xs'.length c')) w Q B la ls xs' a' c' := by
  have hpb := h.pb
  have hbs := h.bs
  have pY := (World.cell?_of_block (a := ⟨Q + 3, 0, none⟩) (hb.block (Q + 3) hpb)).trans h.p
  have fY := (World.frozen?_of_block (a := ⟨Q + 3, 0, none⟩) (hb.block (Q + 3) hpb)).trans h.pf
  have hg := grown_set Y (Q + 3) 0 (.slice a' xs'.length c')
  have hYB : B ≤ Y.heap.size := Nat.le_trans hbs hb.size
  refine ⟨pY, fY, ?_⟩
  have hk : ∀ k, k < B → k ≠ Q + 3 → (Y.setCell ⟨Q + 3, 0, none⟩ (.slice a' xs'.length c')).heap[k]? = X.heap[k]? := fun k hk hn => (hg.block k (Nat.lt_of_lt_of_le hk hYB) (fun e => hn (by injection e))).trans (hb.block k hk)
  have h0 := hk Q (by omega) (by omega)
  have h1 := hk (Q + 1) (by omega) (by omega)
  have h2 := hk (Q + 2) (by omega) (by omega)
  exact ⟨World.cell?_setCell_same _ _ _ pY, (World.frozen?_setCell ..).trans fY, (World.cell?_of_block (a := ⟨Q + 1, 0, none⟩) h1).trans h.r, (World.frozen?_of_block (a := ⟨Q + 1, 0, none⟩) h1).trans h.rf, (World.cell?_of_block (a := ⟨Q + 2, 0, none⟩) h2).trans h.n, (World.cell?_of_block (a := ⟨Q, 0, none⟩) h0).trans h.f0, (World.cell?_of_block (a := ⟨Q, 1, none⟩) h0).trans h.f1, h.ln.keepI (Nat.le_trans hb.size hg.size) (fun b off e => hk b (h.lb b off e).1 (h.lb b off e).2), h.lb, fo.kept hg (own_offR fo.row hpb) (fun y hy => own_offR (fo.trees y hy) hpb), ap, hpb, (h.b.trans (hb.mono (by omega))).grown hg (by have := h.ql; have := hb.size; omega) (fun k e => by injection e with e; omega), Nat.le_trans hYB hg.size⟩
end
def RjOut (w : World) (l : List UInt8) (e : Ending) (w' : World) : Prop := ∃ v xs, e = .returned (.tuple #[.agg #[v], .bool (readIB l)]) ∧ (xs : List RV).map (·.1) = readIV l ∧ RtsOwn w' w.heap.size v xs ∧ ApartR (xs.map rvT) ∧ Below w.heap.size w w'
theorem rjZero {w Y : World} {l : List UInt8} (hz : readIB l = false ∧ readIV l = []) (hb : Below w.heap.size w Y) : RjOut w l (.returned (.tuple #[.agg #[.slice none 0 0], .bool false])) Y :=
  ⟨.slice none 0 0, [], by rw [hz.1], by rw [hz.2]; rfl, ⟨World.ownsRow_nil _ _ _ _, fun x hx => by cases hx⟩, ApartR.nil, hb⟩

set_option maxHeartbeats 8000000 in
set_option maxRecDepth 100000 in
theorem implReaderI (l : List UInt8) (w : World) (hl : l.length ≤ 1048576) (ht : PowIs w) :
    Calls Tryz.prog 22 #[.agg #[.func (.func 21) #[] #[], .func (.func 6) #[] #[]], .string ⟨l.toArray⟩] w fun e w' => RjOut w l e w' := by
  obtain ⟨W0, hW0⟩ : ∃ W, w.alloc (.cells #[.func (.func 21) #[] #[], .func (.func 6) #[] #[]] 44) = W := ⟨_, rfl⟩
  obtain ⟨W1, hW1⟩ : ∃ W, W0.alloc (.cells #[.slice none 0 0] 26) = W := ⟨_, rfl⟩
  obtain ⟨W2, hW2⟩ : ∃ W, W1.alloc (.cells #[.slice none 0 0] 26) = W := ⟨_, rfl⟩
  obtain ⟨W, hW⟩ : ∃ W, W2.alloc (.cells #[.slice none 0 0] 26) = W := ⟨_, rfl⟩
  have hs0 : W0.heap.size = w.heap.size + 1 := by rw [← hW0]; simp
  have hs1 : W1.heap.size = w.heap.size + 2 := by rw [← hW1]; simp [hs0]
  have hs2 : W2.heap.size = w.heap.size + 3 := by rw [← hW2]; simp [hs1]
  have hs3 : W.heap.size = w.heap.size + 4 := by rw [← hW]; simp [hs2]
  have hb0 : Below w.heap.size w W0 := by rw [← hW0]; exact (Below.refl _ _).alloc (Nat.le_refl _) _
  have hb1 : Below W0.heap.size W0 W1 := by rw [← hW1]; exact (Below.refl _ _).alloc (Nat.le_refl _) _
  have hb2 : Below W1.heap.size W1 W2 := by rw [← hW2]; exact (Below.refl _ _).alloc (Nat.le_refl _) _
  have hb3 : Below W2.heap.size W2 W := by rw [← hW]; exact (Below.refl _ _).alloc (Nat.le_refl _) _
  have hB2 : Below W1.heap.size W1 W := hb2.trans (hb3.mono (by omega))
  have hB1 : Below W0.heap.size W0 W := hb1.trans (hB2.mono (by omega))
  have hB : Below w.heap.size w W := hb0.trans (hB1.mono hb0.size)
  have hA0 : W0.heap[w.heap.size]? = some (.cells #[.func (.func 21) #[] #[], .func (.func 6) #[] #[]] 44) := by rw [← hW0]; exact heap_alloc_new w _
  have hA1 : W1.heap[w.heap.size + 1]? = some (.cells #[.slice none 0 0] 26) := by rw [← hs0, ← hW1]; exact heap_alloc_new W0 _
  have hA2 : W2.heap[w.heap.size + 2]? = some (.cells #[.slice none 0 0] 26) := by rw [← hs1, ← hW2]; exact heap_alloc_new W1 _
  have hA3 : W.heap[w.heap.size + 3]? = some (.cells #[.slice none 0 0] 26) := by rw [← hs2, ← hW]; exact heap_alloc_new W2 _
  have hR0 := (hB1.block w.heap.size (by omega)).trans hA0
  have hR1 := (hB2.block (w.heap.size + 1) (by omega)).trans hA1
  have hR2 := (hb3.block (w.heap.size + 2) (by omega)).trans hA2
  have HLi : Hid (_) := implLines l W hl
  have HPWX : Hid (∀ {X : World}, Below w.heap.size w X → PowIs X) := fun {X} hb => ht.below hb
  obtain ⟨Q, hQ⟩ : ∃ Q, w.heap.size = Q := ⟨_, rfl⟩
  rw [hQ] at hs0 hs1 hs2 hs3 HPWX hR0 hR1 hR2 hA3 hB
  have HR : Hid (W.heap[Q]? = some (.cells #[.func (.func 21) #[] #[], .func (.func 6) #[] #[]] 44) ∧ W.heap[Q + 1]? = some (.cells #[.slice none 0 0] 26) ∧ W.heap[Q + 2]? = some (.cells #[.slice none 0 0] 26) ∧ W.heap[Q + 3]? = some (.cells #[.slice none 0 0] 26) ∧ Below Q w W) := ⟨hR0, hR1, hR2, hA3, hB⟩
  have hn := linesI_le l
  have HLL : Hid (∀ j, ((linesL l).getD j []).length ≤ l.length) := line_lenR l
  have HNO : Hid (showIm (loI [] (linesL l)) ≠ l → readIB l = false ∧ readIV l = []) := loI_no
  have HTk : Hid (∀ k, k < (linesL l).length → loI [] ((linesL l).take (k + 1)) = rtLo (loI [] ((linesL l).take k)) ((linesL l).getD k [])) := fun k hk => loI_take _ k hk
  obtain ⟨ls, hls⟩ : ∃ ls, linesL l = ls := ⟨_, rfl⟩
  rw [hls] at HLi hn HLL HNO HTk
  have eg1 : ∀ args w, (callFunc 21 args).run Tryz.prog w = .ok (.enter 21 args) w := enters_of Tryz.func21 (by kernel_rfl) rfl
  have eg2 : ∀ args w, (callFunc 6 args).run Tryz.prog w = .ok (.enter 6 args) w := enters_of Tryz.func6 (by kernel_rfl) rfl
  clear hb0 hb1 hb2 hb3 hB1 hB2 hA0 hA1 hA2 hA3 hR0 hR1 hR2 ht hls hB
  go_enter Tryz.func22, Tryz.ntmps22
  go_wp2_with fail
  refine Calls.mono HLi.out ?_
  rintro e w3 ⟨v, rfl, hown, hb3⟩
  obtain ⟨_, la, lc, rfl, hin⟩ := own_texts hown
  have hlb : ∀ b off, la = some ⟨b, off, none⟩ → b < w3.heap.size ∧ b ≠ Q + 3 := fun b off e => by
    have hlt := hown.lt b (by rw [e]; rfl)
    omega
  have hs3b := hb3.size
  obtain ⟨q0, q1, q2, q3, hBW⟩ := HR.out
  have g1 := (hb3.block (Q + 1) (by omega)).trans q1
  have g2 := (hb3.block (Q + 2) (by omega)).trans q2
  have g3 := (hb3.block (Q + 3) (by omega)).trans q3
  have k0 : w3.cell? ⟨Q, 0, none⟩ = some (.func (.func 21) #[] #[]) := (hb3.cell (p := ⟨Q, 0, none⟩) (by show Q < _; omega)).trans (by simp [World.cell?, q0])
  have k1 : w3.cell? ⟨Q, 1, none⟩ = some (.func (.func 6) #[] #[]) := (hb3.cell (p := ⟨Q, 1, none⟩) (by show Q < _; omega)).trans (by simp [World.cell?, q0])
  obtain ⟨B, hBe⟩ : ∃ B, w3.heap.size = B := ⟨_, rfl⟩
  rw [hBe] at hlb hs3b
  have HST0 : Hid (RqI w3 w Q B la ls [] none 0) := ⟨cell_of_one g3, free_of_one g3, cell_of_one g1, free_of_one g1, cell_of_one g2, k0, k1, hin, hlb, RtsOwn.nil _ _, ApartR.nil, by omega, hBW.trans (hb3.mono (by omega)), by omega⟩
  clear hown hlb g1 g2 g3 k0 k1 hin HLi hBe q0 q1 q2 q3 hBW HR hb3
  go_wp2
  go_loopw [13] (fun iv wr => ∃ (k : Nat) (xs : List RV) (a : Option Addr) (c : Nat), iv = .int .i64 k ∧ k ≤ ls.length ∧ Hid (RqI wr w Q B la ls xs a c) ∧ Hid (xs.map (·.1) = loI [] (ls.take k)) ∧ Hid (LoR k (xs.map (·.1)))) (fun iv _ => ls.length - (intOf iv).toNat)
  case atStart => exact ⟨0, [], none, 0, rfl, by omega, HST0, (rfl : ([] : List RV).map (·.1) = loI [] (ls.take 0)), LoR.nil 0⟩
  case round =>
    obtain ⟨k, xs, a, c, rfl, hk, HST, HG, HOK⟩ := hrel
    clear HST0
    have st := HST.out
    clear HST
    have p0 := st.p
    have k0 := st.f0
    have k1 := st.f1
    have hnx : xs.length ≤ k := by have := HOK.out.l; rw [List.length_map] at this; exact this
    by_cases hkl : (k : Int) < (ls.length : Int)
    · have hk2 : k < ls.length := by omega
      obtain ⟨b, off, rfl, hbl, c0⟩ := st.ln.2 k hk2
      have hxl := HLL.out k
      have hg := HTk.out k hk2
      obtain ⟨x, hx⟩ : ∃ x, ls.getD k [] = x := ⟨_, rfl⟩
      rw [hx] at c0 hxl hg
      rw [← HG.out] at hg
      have HG2 : Hid (loI [] (ls.take (k + 1)) = rtLo (xs.map (·.1)) x) := hg
      have HOK2 : Hid (LoR (k + 1) (rtLo (xs.map (·.1)) x)) := HOK.out.step x (by omega)
      have HC : Hid (_) := implWithIm B x a c xs wr st.bs st.fo st.ap (by omega) (by omega) (fun y hy => by have := (HOK.out.c y.1 (List.mem_map_of_mem hy)).2.2.1; omega)
      generalize rtLo (xs.map (·.1)) x = q at HC HG2 HOK2
      have HST1 : Hid (RqI wr w Q B (some ⟨b, off, none⟩) ls xs a c) := st
      obtain ⟨nx, hnn⟩ : ∃ nx, xs.length = nx := ⟨_, rfl⟩
      have HNX : Hid (xs.length = nx) := hnn
      rw [hnn] at HC p0
      clear hx hg HG HOK st hnx hnn
      go_wp2_with fail
      refine Calls.mono HC.out ?_
      rintro e w4 ⟨a', c', xs', rfl, fo', ap', hm', hb4⟩
      obtain ⟨y0, yf0, st2⟩ := HST1.out.put hb4 fo' ap'
      rw [HNX.out] at y0
      obtain ⟨Z, hZ⟩ : ∃ Z, w4.setCell ⟨Q + 3, 0, none⟩ (.slice a' xs'.length c') = Z := ⟨_, rfl⟩
      rw [hZ] at st2
      have HST2 : Hid (RqI Z w Q B (some ⟨b, off, none⟩) ls xs' a' c') := st2
      have HG3 : Hid (xs'.map (·.1) = loI [] (ls.take (k + 1))) := by exact (by rw [hm', HG2.out] : xs'.map (·.1) = loI [] (ls.take (k + 1)))
      have HOK3 : Hid (LoR (k + 1) (xs'.map (·.1))) := by exact (by rw [hm']; exact HOK2.out : LoR (k + 1) (xs'.map (·.1)))
      clear st2 HC fo' ap' hb4 hm' p0 k0 k1 HG2 HOK2 HST1
      go_wp2
      go_roundw
      case rel => exact ⟨k + 1, xs', a', c', by go_num, by omega, HST2, HG3, HOK3⟩
      case measure => simp [intOf]; omega
    · obtain rfl : k = ls.length := by omega
      have hG := HG.out
      rw [List.take_of_length_le (Nat.le_refl _)] at hG
      have r0 := st.r
      have f0 := st.rf
      have n0 := st.n
      have HBd : Hid (Below Q w wr) := st.b
      have hsd : Q < wr.heap.size := st.ql
      by_cases hle : l = []
      · subst hle
        have HZ : Hid (readIB [] = false ∧ readIV [] = []) := loI_nil
        have he : (([] : List UInt8) == []) = true := by decide
        have z0 : (wr.setCell ⟨Q + 1, 0, none⟩ (.slice none 0 0)).cell? ⟨Q + 1, 0, none⟩ = some (.slice none 0 0) := World.cell?_setCell_same _ _ _ r0
        have HO : Hid (RjOut w [] (.returned (.tuple #[.agg #[.slice none 0 0], .bool false])) (wr.setCell ⟨Q + 1, 0, none⟩ (.slice none 0 0))) := rjZero HZ.out (by rw [hQ]; exact HBd.out.grown (grown_set _ _ _ _) (by omega) (fun k e => by injection e with e; omega))
        obtain ⟨Y, hY⟩ : ∃ Y, wr.setCell ⟨Q + 1, 0, none⟩ (.slice none 0 0) = Y := ⟨_, rfl⟩
        rw [hY] at HO z0
        clear st hG HG HOK HNO p0 k0 k1
        go_wp2
        refine bodyPost_ret (v := .tuple #[.agg #[.slice none 0 0], .bool false]) (by simp [results, Tryz.results22, go_sem, z0]) rfl ?_
        exact HO.out
      · have he : (l == []) = false := beq_eq_false_iff_ne.2 hle
        have he2 : l.isEmpty = false := by rw [List.isEmpty_eq_false_iff]; exact hle
        have hok := HOK.out.ok (by omega)
        have HC : Hid (_) := implShowImage a xs.length c (xs.map (·.1)) wr ⟨st.fo.cap rfl (by rw [List.length_map]), hok.1, hok.2, by omega⟩ (HPWX.out st.b)
        obtain ⟨S, hS⟩ : ∃ S, showIm (xs.map (·.1)) = S := ⟨_, rfl⟩
        rw [hS] at HC
        have HST1 : Hid (RqI wr w Q B la ls xs a c) := st
        obtain ⟨nx, hnn⟩ : ∃ nx, xs.length = nx := ⟨_, rfl⟩
        have HNX : Hid (xs.length = nx) := hnn
        rw [hnn] at HC p0
        by_cases hsl : S = l
        · have HY : Hid (readIB l = true ∧ readIV l = xs.map (·.1)) := loI_yes hle (hS.trans hsl)
          have hne : (S != l) = false := by rw [bne_eq_false_iff_eq]; exact hsl
          have hne2 : (S == l) = true := by rw [beq_iff_eq]; exact hsl
          clear hG HG HOK HNO hS r0 f0 n0 hle hsl st hok hnx hnn HBd hsd
          go_wp2_with fail
          refine Calls.mono HC.out ?_
          rintro e w5 ⟨rfl, hb5⟩
          have st := HST1.out.below hb5
          have r0 := st.r
          have f0 := st.rf
          replace p0 := st.p
          rw [HNX.out] at p0
          have hg := grown_set w5 (Q + 1) 0 (.slice a nx c)
          have z0 : (w5.setCell ⟨Q + 1, 0, none⟩ (.slice a nx c)).cell? ⟨Q + 1, 0, none⟩ = some (.slice a nx c) := World.cell?_setCell_same _ _ _ r0
          have hsd : Q ≤ w5.heap.size := Nat.le_of_lt st.ql
          have hpb := st.pb
          have HO : Hid (RjOut w l (.returned (.tuple #[.agg #[.slice a nx c], .bool true])) (w5.setCell ⟨Q + 1, 0, none⟩ (.slice a nx c))) := by
            have hfo := st.fo
            rw [HNX.out] at hfo
            refine ⟨_, xs, by rw [HY.out.1], HY.out.2.symm, ?_, st.ap, by rw [hQ]; exact st.b.grown hg hsd (fun k e => by injection e with e; omega)⟩
            rw [hQ]
            exact (hfo.kept hg (own_offR hfo.row (by omega)) (fun y hy => own_offR (hfo.trees y hy) (by omega))).base (by omega)
          obtain ⟨Y, hY⟩ : ∃ Y, w5.setCell ⟨Q + 1, 0, none⟩ (.slice a nx c) = Y := ⟨_, rfl⟩
          rw [hY] at HO z0
          clear st HC hb5 k0 k1 hg HY HST1 hpb
          go_wp2
          refine bodyPost_ret (v := .tuple #[.agg #[.slice a nx c], .bool true]) (by simp [results, Tryz.results22, go_sem, z0]) rfl ?_
          exact HO.out
        · have HZ : Hid (readIB l = false ∧ readIV l = []) := HNO.out (by rw [← hG, hS]; exact hsl)
          have hne : (S != l) = true := by rw [bne_iff_ne]; exact hsl
          have hne2 : (S == l) = false := by rw [beq_eq_false_iff_ne]; exact hsl
          clear hG HG HOK HNO hS r0 f0 n0 hle hsl st hok hnx hnn HBd hsd
          go_wp2_with fail
          refine Calls.mono HC.out ?_
          rintro e w5 ⟨rfl, hb5⟩
          have st := HST1.out.below hb5
          have r0 := st.r
          have f0 := st.rf
          have n0 := st.n
          have hsd : Q ≤ w5.heap.size := Nat.le_of_lt st.ql
          have z0 : (w5.setCell ⟨Q + 1, 0, none⟩ (.slice none 0 0)).cell? ⟨Q + 1, 0, none⟩ = some (.slice none 0 0) := World.cell?_setCell_same _ _ _ r0
          have HO : Hid (RjOut w l (.returned (.tuple #[.agg #[.slice none 0 0], .bool false])) (w5.setCell ⟨Q + 1, 0, none⟩ (.slice none 0 0))) := rjZero HZ.out (by rw [hQ]; exact st.b.grown (grown_set _ _ _ _) hsd (fun k e => by injection e with e; omega))
          obtain ⟨Y, hY⟩ : ∃ Y, w5.setCell ⟨Q + 1, 0, none⟩ (.slice none 0 0) = Y := ⟨_, rfl⟩
          rw [hY] at HO z0
          clear st HC hb5 p0 k0 k1 HST1
          go_wp2
          refine bodyPost_ret (v := .tuple #[.agg #[.slice none 0 0], .bool false]) (by simp [results, Tryz.results22, go_sem, z0]) rfl ?_
          exact HO.out

set_option maxHeartbeats 2000000 in
set_option maxRecDepth 100000 in
theorem implReadImage (s : List UInt8) (w : World) (hl : s.length ≤ 1048576) (ht : PowIs w) :
    Calls Tryz.prog 8 #[.string ⟨s.toArray⟩] w fun e w' => ∃ v xs, e = .returned (.tuple #[.agg #[v], .bool (readIB s)]) ∧ xs.map (·.1) = readIV s ∧ RtsOwn w' w.heap.size v xs ∧ ApartR (xs.map rvT) ∧ Below w.heap.size w w' := by
  obtain ⟨W, hW⟩ : ∃ W, w.alloc (.cells #[.slice none 0 0] 26) = W := ⟨_, rfl⟩
  have hs : W.heap.size = w.heap.size + 1 := by rw [← hW]; simp
  have hb : Below w.heap.size w W := by rw [← hW]; exact (Below.refl _ _).alloc (Nat.le_refl _) _
  have hA : W.heap[w.heap.size]? = some (.cells #[.slice none 0 0] 26) := by rw [← hW]; exact heap_alloc_new w _
  have HC : Hid (_) := implReaderI s W hl (ht.below hb)
  obtain ⟨D, hD⟩ : ∃ D, w.heap.size = D := ⟨_, rfl⟩
  have HB : Hid (Below w.heap.size w W ∧ W.heap[D]? = some (.cells #[.slice none 0 0] 26)) := ⟨hb, hD ▸ hA⟩
  clear ht hb hA
  go_enter Tryz.func8, Tryz.ntmps8
  go_wp2_with fail
  refine Calls.mono HC.out ?_
  rintro e w1 ⟨v, xs, rfl, hm, hof, hap, hb1⟩
  have hR := (hb1.block D (by omega)).trans HB.out.2
  have r0 := cell_of_one hR
  have f0 := free_of_one hR
  obtain ⟨af, fl, cf, rfl⟩ : ∃ a n c, v = .slice a n c := by rcases own_forms hof.row with ⟨rfl, h0, _⟩ | ⟨g, cp, rfl⟩; exact ⟨_, _, _, rfl⟩; exact ⟨_, _, _, rfl⟩
  have hsW : W.heap.size = D + 1 := by omega
  have hbw : Below w.heap.size w w1 := HB.out.1.trans (hb1.mono HB.out.1.size)
  have hg := grown_set w1 D 0 (.slice af fl cf)
  have z0 : (w1.setCell ⟨D, 0, none⟩ (.slice af fl cf)).cell? ⟨D, 0, none⟩ = some (.slice af fl cf) := World.cell?_setCell_same _ _ _ r0
  rw [hsW] at hof
  have HF : Hid ((xs : List RV).map (·.1) = readIV s ∧ RtsOwn (w1.setCell ⟨D, 0, none⟩ (.slice af fl cf)) w.heap.size (.slice af fl cf) xs ∧ ApartR (xs.map rvT) ∧ Below w.heap.size w (w1.setCell ⟨D, 0, none⟩ (.slice af fl cf))) := ⟨hm, (hof.kept hg (own_offR hof.row (by omega)) (fun y hy => own_offR (hof.trees y hy) (by omega))).base (by omega), hap, hbw.grown hg hbw.size (fun k e => by injection e with e; omega)⟩
  obtain ⟨Y, hY⟩ : ∃ Y, w1.setCell ⟨D, 0, none⟩ (.slice af fl cf) = Y := ⟨_, rfl⟩
  rw [hY] at HF z0
  clear HC hm hof hap hb1 hR hg hbw
  go_wp2
  refine bodyPost_ret (v := .tuple #[.agg #[.slice af fl cf], .bool (readIB s)]) (by simp [results, Tryz.results8, go_sem, z0]) rfl ?_
  exact ⟨_, xs, rfl, HF.out⟩

end Go.Proofs.YtogobeegibngiaaGreatDoor

/-! The laws' own helper over code: likeCode. -/
namespace Go.Proofs.YtogobeegibngiaaGreatDoor
open Go.RowKit

set_option maxHeartbeats 2000000 in
set_option maxRecDepth 100000 in
theorem likeCodeC (a b : Option Addr) (len ca cb : Nat) (ns : List In13) (w : World) (ha : InsIn w a len ns) (hb : InsIn w b len ns) (hlen : len ≤ 4194304) :
    Calls Tryz.prog 26 #[.slice a len ca, .slice b len cb] w fun e w' => e = .returned (.bool true) ∧ Below w.heap.size w w' := by
  have hlb := ha.1
  have HA : Hid (InsIn w a len ns) := ha
  have HB : Hid (InsIn w b len ns) := hb
  clear ha hb
  have hi : ∀ n : Int, (n == n) = true := by simp
  have hs : ∀ l : List UInt8, (l == l) = true := by simp
  have h1 : ∀ n : Int, (n != n) = false := by simp
  go_enter Tryz.func26, Tryz.ntmps26
  go_wp2
  go_loopw [5] (fun i wr => ∃ k : Nat, k ≤ len ∧ i = .int .i64 k ∧ Below w.heap.size w wr) (fun i _ => len - (intOf i).toNat)
  case atStart => exact ⟨0, Nat.zero_le _, rfl, Below.refl _ _⟩
  case round =>
    obtain ⟨k, hk, rfl, hB⟩ := hrel
    by_cases hkl : (k : Int) < (len : Int)
    · obtain ⟨b1, o1, rfl, hb1, hc1⟩ := (HA.out.below hB).at (by omega)
      obtain ⟨b2, o2, rfl, hb2, hc2⟩ := (HB.out.below hB).at (by omega)
      obtain ⟨x0, x1, x2, x3, x4⟩ := hc1 k (by omega)
      obtain ⟨y0, y1, y2, y3, y4⟩ := hc2 k (by omega)
      obtain ⟨x, hx⟩ : ∃ x, ns.getD k in0 = x := ⟨_, rfl⟩
      rw [hx] at x0 x1 x2 x3 x4 y0 y1 y2 y3 y4
      obtain ⟨kd, r, aa, bb, s⟩ := x
      simp only at x0 x1 x2 x3 x4 y0 y1 y2 y3 y4
      clear hx hc1 hc2
      go_wp2
      go_region
      all_goals (try go_wp2)
      go_roundw
      case rel => exact ⟨k + 1, by omega, by go_num, hB.grown (grown_drew _ none) hB.size (by simp)⟩
      case measure => simp [intOf]; omega
    · go_wp2
      go_ret
      exact ⟨rfl, hB⟩

end Go.Proofs.YtogobeegibngiaaGreatDoor
