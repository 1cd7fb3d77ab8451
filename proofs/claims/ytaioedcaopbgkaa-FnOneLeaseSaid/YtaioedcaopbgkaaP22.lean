/-
  Parts of one proof, one behind the other: RebS.
-/
import Derived.Test.YtaioedcaopbgkaaP21
import Derived.Test.YtaioedcaopbgkaaP18
import Derived.Test.YtaioedcaopbgkaaP2

/-! The contract of chapter 18's specification: l18Again. -/
namespace Go.Proofs.Ytaioedcaopbgkaa
open Go.RowKit

/-- A block of one cell, which may be written. -/
structure B1 (X : World) (b : Nat) (u : Value) : Prop where
 c : X.cell? ⟨b, 0, none⟩ = some u
 f : X.frozen? ⟨b, 0, none⟩ = false
theorem B1.lt {X : World} {b : Nat} {u : Value} (h : B1 X b u) : b < X.heap.size := World.block_lt_of_cell? X ⟨b, 0, none⟩ h.c
theorem B1.keep {X Y : World} {b : Nat} {u : Value} (h : B1 X b u) (hb : Y.heap[b]? = X.heap[b]?) : B1 Y b u := ⟨(World.cell?_of_block (a := ⟨b, 0, none⟩) hb).trans h.c, by have := h.f; simp only [World.frozen?, hb] at this ⊢; exact this⟩
theorem B1.below {X Y : World} {b : Nat} {u : Value} (h : B1 X b u) (hb : Below X.heap.size X Y) : B1 Y b u := h.keep (hb.block b h.lt)
theorem B1.grown {X Y : World} {b : Nat} {u : Value} {row : Option Nat} (h : B1 X b u) (hg : X.grownBy Y row) (hne : some b ≠ row) : B1 Y b u := h.keep (hg.block b h.lt hne)
theorem B1.set {X : World} {b : Nat} {u : Value} (h : B1 X b u) (v : Value) : B1 (X.setCell ⟨b, 0, none⟩ v) b v := ⟨World.cell?_setCell_same _ _ _ h.c, by simpa using h.f⟩
theorem B1.new (X : World) (u : Value) (t : TypeId) : B1 (X.alloc (.cells #[u] t)) X.heap.size u := by
 have hA := heap_alloc_new X (.cells #[u] t)
 exact ⟨by rw [cell_of_row _ _ _ _ _ _ hA]; rfl, frozen_of_row _ _ _ _ _ hA⟩

theorem tksV_set25 (xs : List TV) (j : Nat) (hj : j < xs.length) (a b : Int) : ((tksV xs).set (j * 6 + 2) (.int .i64 a)).set (j * 6 + 5) (.int .i64 b) = tksV (xs.set j ((xs[j].1.1, xs[j].1.2.1, a, xs[j].1.2.2.2.1, xs[j].1.2.2.2.2.1, b), xs[j].2)) := by
 induction xs generalizing j with
 | nil => simp at hj
 | cons x r ih =>
  cases j with
  | zero => simp [tksV, tvT]
  | succ j =>
   have := ih j (by simpa using hj)
   rw [show (j + 1) * 6 = j * 6 + 1 + 1 + 1 + 1 + 1 + 1 by omega]
   simp only [tksV, Nat.add_right_comm _ 1 2, List.set_cons_succ, List.getElem_cons_succ]
   rw [this]

set_option maxHeartbeats 16000000 in
set_option maxRecDepth 100000 in
theorem specAgain (B G base : Nat) (va : Option Addr) (vc n : Nat) (xs : List TV) (ts : List Ta) (ep0 : Int) (jr0 f : List UInt8) (last : Int) (w : World) (hn : ts.length = n) (hb4 : B4 w B (.slice va n vc) (.int .i64 ep0) (.int .i64 0) (.string ⟨jr0.toArray⟩)) (hb1 : B1 w G (.int .i64 last)) (ho : TksOwn w base (.slice va n vc) xs) (hx : xs.map (·.1) = ts) (hap : ApartR (xs.map tvT)) (hne : ∀ k, TkBlocks (.slice va n vc) xs k → k ≠ B ∧ k ≠ G) (hGB : G ≠ B) (hbase : base ≤ w.heap.size)
 (h8 : n ≤ 8) (hsh : ShortTa ts) (hnd : ∀ p, p < ts.length → ∀ q, q < (ts.getD p ta0).2.1.length → 0 ≤ (ts.getD p ta0).2.1.getD q 0 ∧ (ts.getD p ta0).2.1.getD q 0 < ts.length) (hid : ∀ j, (ts.getD j ta0).2.2.2.1 = 0 ∧ (ts.getD j ta0).2.2.2.2.1 = 0) (h0 : 0 ≤ last) (h1 : last ≤ 1000) (hf : f.length ≤ 20000) :
 Calls Try.prog 65 #[.pointer (some ⟨B, 0, none⟩), .pointer (some ⟨G, 0, none⟩), .string ⟨f.toArray⟩] w fun e w' => (∃ ts' last', step18 ts last f = some (ts', last') ∧ e = .returned (.bool true) ∧ ∃ xs', xs'.map (·.1) = ts' ∧ TksOwn w' base (.slice va n vc) xs' ∧ ApartR (xs'.map tvT) ∧ B1 w' G (.int .i64 last') ∧ WroteR w w' (fun k => (Value.slice va n vc).ownBlock = some k ∨ k = G) ∧ (∀ k, TkBlocks (.slice va n vc) xs' k → TkBlocks (.slice va n vc) xs k)) ∨ (step18 ts last f = none ∧ e = .returned (.bool false) ∧ Below w.heap.size w w') := by
 subst hn
 have HSp : Hid (_) := specSplit f 32 32 w rfl (by omega)
 have HWl : Hid (∀ j, ((splitL 32 f).getD j []).length ≤ 1048576) := fun j => Nat.le_trans (splitL_part 32 f j) (by omega)
 have HW1 : Hid (1 ≤ (splitL 32 f).length ∧ (splitL 32 f).length ≤ 20001) := ⟨splitL_len 32 f, Nat.le_trans (splitL_count 32 f) (by omega)⟩
 have HNo : Hid (NotAgain ts last (splitL 32 f) → step18 ts last f = none) := fun h => again_none rfl h8 h0 h1 h
 have HStart : Hid ((splitL 32 f).length = 2 → (splitL 32 f).getD 0 [] = startW → readB ((splitL 32 f).getD 1 []) = true → readV ((splitL 32 f).getD 1 []) = last + 1 → step18 ts last f = some (ts, last + 1)) := fun e1 e2 e3 e4 => step18_start (again_start rfl e1 e2 e3 h0 h1 e4)
 have HDone : Hid (∀ (k : Nat) (key : Int), (splitL 32 f).length = 3 → (splitL 32 f).getD 0 [] = doneW → readB ((splitL 32 f).getD 1 []) = true → readB ((splitL 32 f).getD 2 []) = true → readV ((splitL 32 f).getD 1 []) = (k : Int) → readV ((splitL 32 f).getD 2 []) = key → k < ts.length → key18 key = true → (ts.getD k ta0).2.2.1 ≠ 2 → free18 ts (ts.getD k ta0) = true → step18 ts last f = some (ts.set k (done18 (ts.getD k ta0) key), last)) := fun k key e1 e2 e3 e4 e5 e6 e7 e8 e9 e10 => by
  have h := step18_done (last := last) h8 (again_done (k := (k : Int)) (key := key) rfl e1 e2 e3 e4 e5 e6 ⟨by omega, by omega⟩ h8 e8 (by rw [Int.toNat_natCast]; exact e9) (by rw [Int.toNat_natCast]; exact e10))
  rw [Int.toNat_natCast] at h
  exact h
 generalize splitL 32 f = ws at HSp HWl HW1 HNo HStart HDone
 generalize step18 ts last f = res at HNo HStart HDone ⊢
 have HRd : Hid (∀ j Z, _) := fun j Z => specRead (ws.getD j []) Z (HWl.out j)
 have HRb : Hid (∀ j, _) := fun j => readV_bd (ws.getD j [])
 have HKe : Hid (∀ t Z, _) := fun t Z => specKey t Z
 have HIn : Hid (∀ Z, Below w.heap.size w Z → TasksIn Z va ts.length ts) := fun Z hz => by
  obtain ⟨a7, c7, e7, hok7⟩ := (ho.below hz).ok
  have hxl : xs.length = ts.length := by rw [← hx, List.length_map]
  rw [hx, hxl] at hok7
  rw [hxl] at e7
  injection e7 with e7 _ _
  subst e7
  exact hok7.in
 have HFr : Hid (∀ (Z : World) (p : Nat), Below w.heap.size w Z → p < ts.length → _) := fun Z p hz hp => specFree va ts.length vc ts ep0 0 jr0 p Z (HIn.out Z hz) hsh (by omega) hp (hnd p hp)
 have HO : Hid (∀ Z, Below w.heap.size w Z → TksOwn Z base (.slice va ts.length vc) xs) := fun Z hz => ho.below hz
 have HBx : Hid (∀ Z, Below w.heap.size w Z → B4 Z B (.slice va ts.length vc) (.int .i64 ep0) (.int .i64 0) (.string ⟨jr0.toArray⟩)) := fun Z hz => hb4.below hz
 have HGx : Hid (∀ Z, Below w.heap.size w Z → B1 Z G (.int .i64 last)) := fun Z hz => hb1.below hz
 have HX : Hid (xs.map (·.1) = ts ∧ ApartR (xs.map tvT) ∧ xs.length = ts.length) := ⟨hx, hap, by rw [← hx, List.length_map]⟩
 have HNe : Hid (∀ k, TkBlocks (.slice va ts.length vc) xs k → k ≠ B ∧ k ≠ G) := hne
 have HId : Hid (∀ j, (ts.getD j ta0).2.2.2.1 = 0 ∧ (ts.getD j ta0).2.2.2.2.1 = 0) := hid
 have HSz : Hid (base ≤ w.heap.size ∧ G < w.heap.size ∧ B < w.heap.size ∧ G ≠ B) := ⟨hbase, hb1.lt, hb4.lt, hGB⟩
 have hwb : ws.length ≤ 1048576 := Nat.le_trans HW1.out.2 (by omega)
 have hl0 := h0
 have hl1 := h1
 have hwi : IntKind.i64.wrap (last + 1) = last + 1 := by rw [IntKind.wrap_i64]; omega
 clear hb4 hb1 ho hx hap hne hGB hbase hsh hnd hid h0 h1 hf
 go_enter Try.func65, Try.ntmps65
 go_wp2_with fail
 refine Calls.mono HSp.out ?_
 rintro e w1 ⟨wg, wc, rfl, how, hb1⟩
 have HB1 : Hid (Below w.heap.size w w1) := hb1
 have HOw : Hid (w1.ownsRow w.heap.size 9 1 (.slice (some ⟨wg, 0, none⟩) ws.length wc) ws.length (strV ws)) := how
 have HR0 : Hid ((w1.alloc (.cells #[] 2)).ownsRow w1.heap.size 2 1 (.slice (some ⟨w1.heap.size, 0, none⟩) (numsW ws 0).length 0) (numsW ws 0).length (intsV (numsW ws 0))) := World.ownsRow_lit (base := w1.heap.size) (e := 2) (size := 1) w1 #[] 0 (Nat.le_refl _) (by decide) rfl
 have hb2 : Below w1.heap.size w1 (w1.alloc (.cells #[] 2)) := (Below.refl _ _).alloc (Nat.le_refl _) _
 have HBa : Hid (Below w.heap.size w (w1.alloc (.cells #[] 2))) := hb1.trans (hb2.mono hb1.size)
 have HOa : Hid ((w1.alloc (.cells #[] 2)).ownsRow w.heap.size 9 1 (.slice (some ⟨wg, 0, none⟩) ws.length wc) ws.length (strV ws)) := own_below how hb2
 have HS1 : Hid (w1.heap.size ≤ (w1.alloc (.cells #[] 2)).heap.size) := hb2.size
 have HA0 : Hid (∀ j, 1 ≤ j → j ≤ 0 → readB (ws.getD j []) = true) := fun j h1 h2 => by omega
 clear how hb1 hb2 HSp
 go_wp2
 go_loopw [8, 9] (fun nv iv wr => ∃ (m k : Nat) (na : Option Addr) (nc : Nat), nv = .slice na (numsW ws m).length nc ∧ iv = .int .i64 (k : Int) ∧ Hid (k = m + 1) ∧ k ≤ ws.length ∧ Hid (∀ j, 1 ≤ j → j ≤ m → readB (ws.getD j []) = true) ∧ Hid (wr.ownsRow w1.heap.size 2 1 (.slice na (numsW ws m).length nc) (numsW ws m).length (intsV (numsW ws m))) ∧ Hid (wr.ownsRow w.heap.size 9 1 (.slice (some ⟨wg, 0, none⟩) ws.length wc) ws.length (strV ws)) ∧ Hid (w1.heap.size ≤ wr.heap.size) ∧ Hid (Below w.heap.size w wr)) (fun _ iv _ => ws.length + 1 - (intOf iv).toNat)
 case atStart => exact ⟨0, 1, _, 0, rfl, rfl, (rfl : (1 : Nat) = 0 + 1), HW1.out.1, HA0, HR0, HOa, HS1, HBa⟩
 case round =>
  obtain ⟨m, k, na, nc, rfl, rfl, HK, hkl, HAl, HR, HO2, HS, HB⟩ := hrel
  clear HA0 HR0 HOa HBa HS1
  obtain ⟨X0, hX0⟩ : ∃ X0, X0 = wr := ⟨_, rfl⟩
  subst hX0
  by_cases hlt : (k : Int) < (ws.length : Int)
  ·
   have hm2 : m + 1 < ws.length := by have := HK.out; omega
   obtain ⟨_, a5, c5, e5, hWin⟩ := own_texts HO2.out
   injection e5 with e5 _ e6
   subst e5
   subst e6
   obtain ⟨fb, fo, e7, hfl, d0⟩ := hWin.2 k (by omega)
   injection e7 with e7
   injection e7 with e8 e9 _
   subst e8
   subst e9
   have hkm : ws.getD k [] = ws.getD (m + 1) [] := by rw [HK.out]
   rw [hkm] at d0
   have HRm : Hid (_) := HRd.out (m + 1) X0
   have hbd := HRb.out (m + 1)
   have HSn : Hid (_) := numsW_snoc ws m
   have HNm : Hid (readB (ws.getD (m + 1) []) = false → res = none) := fun h => HNo.out (notAgain_num (i := m + 1) (by omega) hm2 h)
   have HAn : Hid (readB (ws.getD (m + 1) []) = true → ∀ j, 1 ≤ j → j ≤ m + 1 → readB (ws.getD j []) = true) := fun h j h1 h2 => by
    rcases Nat.lt_or_ge m j with g | g
    ·
     obtain rfl : j = m + 1 := by omega
     exact h
    ·
     exact HAl.out j h1 g
   have HNl : Hid ((numsW ws m).length = m) := numsW_len ws m
   obtain ⟨y, hy⟩ : ∃ y, ws.getD (m + 1) [] = y := ⟨_, rfl⟩
   rw [hy] at d0 HRm hbd HSn HNm HAn
   generalize readV y = v at HRm hbd HSn
   generalize readB y = b at HRm HNm HAn
   rw [Nat.zero_add] at d0
   rcases b with _ | _
   ·
    have HE : Hid (res = none) := HNm.out rfl
    clear hWin hbd HSn HNm HAn hy HAl HR HO2 hkm
    go_wp2_with fail
    refine Calls.mono HRm.out ?_
    rintro e w2 ⟨rfl, hw2⟩
    obtain rfl := hw2.symm
    go_wp2
    go_ret
    exact Or.inr ⟨HE.out, rfl, HB.out⟩
   ·
    have HA2 : Hid (_) := HAn.out rfl
    obtain ⟨v', Y, hr, ho, hg⟩ := push_num18 v HR.out HS.out (by have h1 := HW1.out.2; have h2 := HNl.out; omega)
    obtain ⟨va', vc', rfl⟩ := own_slice18 ho
    have hlen : (numsW ws (m + 1)).length = (numsW ws m).length + 1 := by rw [numsW_len, numsW_len]
    have HRY : Hid (Y.ownsRow w1.heap.size 2 1 (.slice va' (numsW ws (m + 1)).length vc') (numsW ws (m + 1)).length (intsV (numsW ws (m + 1)))) := by rw [HSn.out] at hlen ⊢; rw [hlen]; exact ho
    have HOY : Hid (Y.ownsRow w.heap.size 9 1 (.slice (some ⟨wg, 0, none⟩) ws.length wc) ws.length (strV ws)) := HO2.out.kept hg (own_typesR HO2.out HR.out (by decide))
    have HBY : Hid (Below w.heap.size w Y) := HB.out.grown hg HB.out.size (fun q e => by have := (HR.out.lt q e).1; have := HB1.out.size; omega)
    have HSY : Hid (w1.heap.size ≤ Y.heap.size) := Nat.le_trans HS.out hg.size
    have HL2 : Hid ((numsW ws (m + 1)).length = (numsW ws m).length + 1) := hlen
    clear hWin HSn HNm HAn hy hlen ho hg HAl HR HO2 HS HB hkm
    go_wp2_with fail
    refine Calls.mono HRm.out ?_
    rintro e w2 ⟨rfl, hw2⟩
    obtain rfl := hw2.symm
    clear hw2
    go_wp2_with (at_builtin; refine wpList_append_run rfl _ _ 44 rfl _ _ _ rfl rfl hr ?_; clear hr)
    have HK2 : Hid (k + 1 = m + 1 + 1) := by exact (by have := HK.out; omega : k + 1 = m + 1 + 1)
    go_roundw
    case rel => exact ⟨m + 1, k + 1, va', vc', by rw [HL2.out], by go_num, HK2, by omega, HA2, HRY, HOY, HSY, HBY⟩
    case measure => simp [intOf]; omega
  ·
   have hwl : ws.length = m + 1 := by have := HK.out; omega
   obtain ⟨_, a5, c5, e5, hWin⟩ := own_texts HO2.out
   injection e5 with e5 _ e6
   subst e5
   subst e6
   obtain ⟨fb, fo, e7, hfl, d0⟩ := hWin.2 0 (by omega)
   injection e7 with e7
   injection e7 with e8 e9 _
   subst e8
   subst e9
   rw [Nat.add_zero] at d0
   have hnl := numsW_len ws m
   have hw0 : 0 < ws.length := by omega
   have HNW : Hid (∀ j, j < m → (numsW ws m).getD j 0 = readV (ws.getD (j + 1) [])) := fun j hj => numsW_at ws hj
   clear hWin
   by_cases hS : ws.getD 0 [] = startW
   ·
    have hy0 : ws.getD 0 [] = [115, 116, 97, 114, 116] := hS
    rw [hy0] at d0
    by_cases hm1 : m = 1
    ·
     subst hm1
     obtain ⟨gn, cn, en⟩ := own_some HR.out (by omega)
     injection en with en1 en2 en3
     subst en1
     subst en3
     have hnr := HR.out
     rw [hnl] at hnr
     obtain ⟨_, _, en4, hgn, n0⟩ := (nums_as hnr hnl) 0 (by omega)
     injection en4 with en4
     injection en4 with en5 en6 _
     subst en5
     subst en6
     rw [HNW.out 0 (by omega)] at n0
     have hg0 := (HGx.out X0 HB.out).c
     have hgf := (HGx.out X0 HB.out).f
     obtain ⟨v, hv⟩ : ∃ v, readV (ws.getD 1 []) = v := ⟨_, rfl⟩
     rw [show (0 : Nat) + 1 = 1 from rfl, hv] at n0
     have hr1 := HAl.out 1 (by omega) (by omega)
     by_cases he : v = last + 1
     ·
      have HE : Hid (_) := HStart.out (by omega) hS hr1 (by rw [hv]; exact he)
      subst he
      clear hnr hv hr1 HAl HO2 HR hwl HStart HDone HNo HNW hy0 hS
      go_wp2
      go_quiet (fail)
      go_wp2
      go_ret
      have hbq : Below w.heap.size w (X0.drewN nq) := below_drewN HB.out _
      have hg := grown_set (X0.drewN nq) G 0 (.int .i64 (last + 1))
      refine Or.inl ⟨ts, last + 1, HE.out, rfl, xs, HX.out.1, (HO.out _ hbq).kept hg ?_ (fun x hx => ?_), HX.out.2.1, (HGx.out _ hbq).set _, (WroteR.of_below hbq).trans (WroteR.of_grown hg (fun k e => Or.inr (by injection e with e; exact e.symm))), fun k hk => hk⟩
      ·
       rcases h : (Value.slice va ts.length vc).ownBlock with _ | k
       ·
        exact Or.inl rfl
       ·
        exact Or.inr (fun e => by injection e with e; exact (HNe.out k (Or.inl h)).2 e)
      ·
       rcases h : (tvT x).ownBlock with _ | k
       ·
        exact Or.inl rfl
       ·
        exact Or.inr (fun e => by injection e with e; exact (HNe.out k (Or.inr ⟨x, hx, h⟩)).2 e)
     ·
      have HE : Hid (_) := HNo.out (notAgain_start hS (fun _ => by rw [hv]; exact he))
      have hvb : (v != last + 1) = true := by simp [he]
      clear hnr hv hr1 HAl HO2 HR hwl HStart HDone HNo HNW hy0 hS he
      go_wp2
      go_quiet (fail)
      go_wp2
      go_ret
      exact Or.inr ⟨HE.out, rfl, below_drewN HB.out _⟩
    ·
     have HE : Hid (_) := HNo.out (notAgain_start hS (fun h => absurd h (by omega)))
     have hmi : ¬ (m : Int) = 1 := by omega
     have hmb : ((m : Int) == 1) = false := by simp [hmi]
     rw [hnl]
     clear hnl HAl HO2 HR hwl HStart HDone HNo HNW hy0 hS hm1
     go_wp2
     go_ret
     exact Or.inr ⟨HE.out, rfl, HB.out⟩
   by_cases hD : ws.getD 0 [] = doneW
   rotate_left
   ·
    have HE : Hid (_) := HNo.out (notAgain_word hS hD)
    obtain ⟨y, hy⟩ : ∃ y, ws.getD 0 [] = y := ⟨_, rfl⟩
    rw [hy] at d0 hS hD
    have hSb : (y == [115, 116, 97, 114, 116]) = false := beq_eq_false_iff_ne.2 hS
    have hDb : (y == [100, 111, 110, 101]) = false := beq_eq_false_iff_ne.2 hD
    clear hy HAl HO2 HR hwl HStart HDone HNo HNW hS hD
    go_wp2
    go_ret
    exact Or.inr ⟨HE.out, rfl, HB.out⟩
   have hy0 : ws.getD 0 [] = [100, 111, 110, 101] := hD
   rw [hy0] at d0
   by_cases hm2 : m = 2
   rotate_left
   ·
    have HE : Hid (_) := HNo.out (notAgain_done hD (fun h => absurd h (by omega)))
    have hmi : ¬ (m : Int) = 2 := by omega
    have hmb : ((m : Int) == 2) = false := by simp [hmi]
    rw [hnl]
    clear hnl HAl HO2 HR hwl HStart HDone HNo HNW hy0 hS hm2
    go_wp2
    go_ret
    exact Or.inr ⟨HE.out, rfl, HB.out⟩
   subst hm2
   obtain ⟨gn, cn, en⟩ := own_some HR.out (by omega)
   injection en with en1 en2 en3
   subst en1
   subst en3
   have hnr := HR.out
   rw [hnl] at hnr
   obtain ⟨_, _, en4, hgn, n0⟩ := (nums_as hnr hnl) 0 (by omega)
   injection en4 with en4
   injection en4 with en5 en6 _
   subst en5
   subst en6
   obtain ⟨_, _, en4, _, n1⟩ := (nums_as hnr hnl) 1 (by omega)
   injection en4 with en4
   injection en4 with en5 en6 _
   subst en5
   subst en6
   rw [HNW.out 0 (by omega)] at n0
   rw [HNW.out 1 (by omega)] at n1
   have hr1 := HAl.out 1 (by omega) (by omega)
   have hr2 := HAl.out 2 (by omega) (by omega)
   have HND : Hid (∀ k key, readV (ws.getD 1 []) = k → readV (ws.getD 2 []) = key → (0 ≤ k ∧ k < (ts.length : Int) → key18 key = true → (ts.getD k.toNat ta0).2.2.1 ≠ 2 → free18 ts (ts.getD k.toNat ta0) = true → False) → res = none) := fun k key e1 e2 h => HNo.out (notAgain_done hD (fun _ h2 h3 h4 h5 => by rw [e1] at h2 h4 h5; rw [e2] at h3; exact h h2 h3 h4 h5))
   have HDn : Hid (∀ (k : Nat) key, readV (ws.getD 1 []) = (k : Int) → readV (ws.getD 2 []) = key → k < ts.length → key18 key = true → (ts.getD k ta0).2.2.1 ≠ 2 → free18 ts (ts.getD k ta0) = true → res = some (ts.set k (done18 (ts.getD k ta0) key), last)) := fun k key e1 e2 => HDone.out k key (by omega) hD hr1 hr2 e1 e2
   have hb0 := HRb.out 1
   have hb1 := HRb.out 2
   obtain ⟨kk, hkk⟩ : ∃ v, readV (ws.getD 1 []) = v := ⟨_, rfl⟩
   obtain ⟨key, hkey⟩ : ∃ v, readV (ws.getD 2 []) = v := ⟨_, rfl⟩
   rw [show (0 : Nat) + 1 = 1 from rfl, hkk] at n0
   rw [show (1 : Nat) + 1 = 2 from rfl, hkey] at n1
   rw [show (0 : Nat) + 0 = 0 from rfl] at n0
   rw [show (0 : Nat) + 1 = 1 from rfl] at n1
   have HND1 : Hid (_) := HND.out kk key hkk hkey
   have HDn1 : Hid (∀ (k : Nat), kk = (k : Int) → _) := fun k hk => HDn.out k key (hkk.trans hk) hkey
   rw [hkk] at hb0
   rw [hkey] at hb1
   have HK1 : Hid (∀ Z, _) := fun Z => HKe.out key Z
   have hbx := HBx.out X0 HB.out
   have b0 := hbx.c0
   have b1 := hbx.c1
   have b2 := hbx.c2
   have b3 := hbx.c3
   have hlen20 := HW1.out.2
   rw [hnl]
   clear hnr hr1 hr2 HAl HO2 HND HDn HNo HStart HDone HNW hD hS hy0 hkk hkey HRb HRd HWl HKe hbx
   by_cases hkn : kk < 0
   ·
    have HE : Hid (_) := HND1.out (fun h => absurd h.1 (by omega))
    have hkd : decide (kk < 0) = true := decide_eq_true hkn
    clear HND1 HDn1 HFr hwl
    go_wp2
    go_quiet (fail)
    go_wp2
    go_ret
    exact Or.inr ⟨HE.out, rfl, below_drewN HB.out _⟩
   have hkd0 : decide (kk < 0) = false := decide_eq_false hkn
   by_cases hkl : (ts.length : Int) ≤ kk
   ·
    have HE : Hid (_) := HND1.out (fun h => absurd h.2 (by omega))
    have hkd : decide ((ts.length : Int) ≤ kk) = true := decide_eq_true hkl
    clear HND1 HDn1 HFr hwl
    go_wp2
    go_quiet (fail)
    go_wp2
    go_ret
    exact Or.inr ⟨HE.out, rfl, below_drewN HB.out _⟩
   obtain ⟨i, rfl⟩ : ∃ i : Nat, kk = (i : Int) := ⟨kk.toNat, by omega⟩
   have hi2 : i < ts.length := by omega
   have hkd1 : decide ((ts.length : Int) ≤ (i : Int)) = false := decide_eq_false hkl
   have hkd1n : decide (ts.length ≤ i) = false := decide_eq_false (by omega)
   rw [Int.toNat_natCast] at HND1
   have HDn2 : Hid (_) := HDn1.out i rfl
   generalize hky : key18 key = ky at HK1 HND1 HDn2
   rcases ky with _ | _
   ·
    have HE : Hid (_) := HND1.out (fun _ h => by cases h)
    clear HND1 HDn1 HDn2 HFr hwl hky
    go_wp2
    go_quiet (first | (go_at_call 56; exact Calls.quiet_of_same (HK1.out _)))
    go_wp2
    go_ret
    exact Or.inr ⟨HE.out, rfl, below_drewN HB.out _⟩
   obtain ⟨g, cp, he⟩ := own_some (HO.out X0 HB.out).row (by rw [HX.out.2.2]; omega)
   injection he with e1 e2 e3
   subst e1 e3
   clear e2
   have HX1 : Hid (_) := getD_xs HX.out.1 (i := i) (by have := HX.out.2.2; omega)
   have hix : i < xs.length := by have := HX.out.2.2; omega
   have hgx : xs.getD i tv0 = xs[i] := by simp [List.getD, hix]
   have HT : Hid (_) := tksV_at xs i hix
   rw [hgx] at HT
   obtain ⟨tv, htv⟩ : ∃ tv, xs[i] = tv := ⟨_, rfl⟩
   rw [htv] at HT HX1
   have HTV : Hid (∃ h : i < xs.length, xs[i] = tv) := ⟨hix, htv⟩
   obtain ⟨⟨nm, ns, st, wk, un, ke⟩, na, nc⟩ := tv
   simp only [tvT] at HT
   simp only at HX1
   have HXi : Hid ((nm, ns, st, wk, un, ke) = ts.getD i ta0) := HX1.out
   have HRow : Hid (∀ Z, Below w.heap.size w Z → Z.ownsRow base 46 6 (.slice (some ⟨g, 0, none⟩) ts.length vc) ts.length (tksV xs)) := fun Z hz => by
    have h := (HO.out Z hz).row
    rw [HX.out.2.2] at h
    exact h
   have HC2 : Hid (∀ Z, Below w.heap.size w Z → Z.cell? ⟨g, i * 6 + 2, none⟩ = some (.int .i64 st)) := fun Z hz => by
    obtain ⟨v0, v1, v2, v3, v4, v5⟩ := HT.out
    exact ((HRow.out Z hz).cellAt _ (by omega)).trans v2
   have hidl := HId.out i
   rw [← HXi.out] at HND1 HDn2 hidl
   simp only at HND1 HDn2 hidl
   have HFr1 : Hid (∀ Z, Below w.heap.size w Z → _) := fun Z hz => HFr.out Z i hz hi2
   rw [← HXi.out] at HFr1
   have HIdl : Hid (_) := hidl
   clear hidl
   generalize free18 ts (nm, ns, st, wk, un, ke) = fr at HFr1 HND1 HDn2
   have c2 := HC2.out X0 HB.out
   clear HX1 hgx htv HFr HDn1
   by_cases h2 : st = 2
   ·
    have HE : Hid (_) := HND1.out (fun _ _ h => absurd h2 h)
    clear HND1 HDn2 HFr1 hwl hky
    subst h2
    go_wp2
    go_quiet (first | (go_at_call 56; exact Calls.quiet_of_same (HK1.out _)))
    go_wp2
    go_ret
    exact Or.inr ⟨HE.out, rfl, below_drewN HB.out _⟩
   have h2b : (st == 2) = false := beq_eq_false_iff_ne.2 h2
   have HBd : Hid (Below w.heap.size w X0.drew) := ⟨HB.out.os, HB.out.tape, HB.out.output, HB.out.size, HB.out.block⟩
   have HXd : Hid (Below X0.heap.size X0 X0.drew) := ⟨rfl, rfl, rfl, Nat.le_refl _, fun _ _ => rfl⟩
   have HSx : Hid (∀ Z, Below X0.heap.size X0 Z → Z.cell? ⟨B, 0, none⟩ = some (.slice (some ⟨g, 0, none⟩) ts.length vc) ∧ Z.cell? ⟨B, 1, none⟩ = some (.int .i64 ep0) ∧ Z.cell? ⟨B, 2, none⟩ = some (.int .i64 0) ∧ Z.cell? ⟨B, 3, none⟩ = some (.string ⟨jr0.toArray⟩) ∧ Z.cell? ⟨gn, 0, none⟩ = some (.int .i64 (i : Int)) ∧ Z.cell? ⟨gn, 1, none⟩ = some (.int .i64 key) ∧ Z.cell? ⟨g, i * 6 + 2, none⟩ = some (.int .i64 st)) := fun Z hz => by
    have hzw := HB.out.trans (hz.mono HB.out.size)
    have hb := HBx.out Z hzw
    exact ⟨hb.c0, hb.c1, hb.c2, hb.c3, (hz.cell (p := ⟨gn, 0, none⟩) hgn).trans n0, (hz.cell (p := ⟨gn, 1, none⟩) hgn).trans n1, HC2.out Z hzw⟩
   have HGN : Hid (w1.heap.size ≤ gn) := (HR.out.lt gn rfl).1
   rcases fr with _ | _
   ·
    have HE : Hid (_) := HND1.out (fun _ _ _ h => by cases h)
    clear HND1 HDn2 hwl hky
    go_wp2
    refine wp_region_held_drew (S := (fun Z => Z.cell? ⟨B, 0, none⟩ = some (.slice (some ⟨g, 0, none⟩) ts.length vc) ∧ Z.cell? ⟨B, 1, none⟩ = some (.int .i64 ep0) ∧ Z.cell? ⟨B, 2, none⟩ = some (.int .i64 0) ∧ Z.cell? ⟨B, 3, none⟩ = some (.string ⟨jr0.toArray⟩) ∧ Z.cell? ⟨gn, 0, none⟩ = some (.int .i64 (i : Int)) ∧ Z.cell? ⟨gn, 1, none⟩ = some (.int .i64 key) ∧ Z.cell? ⟨g, i * 6 + 2, none⟩ = some (.int .i64 st))) (by kernel_rfl) ?_ (fun hHeld => ?_)
    ·
     exact ⟨b0, b1, b2, b3, n0, n1, c2⟩
    refine wpAnyH_take (i := 0) (oi := ⟨some 68, _, _, _, _, _⟩) (v := ?ve0) rfl (by kernel_rfl) (by kernel_rfl) (by kernel_rfl) (fun _ _ _ h => h) (Or.inl ⟨by rfl, ?hye0⟩) (by assumption) ?reste0
    case hye0 => (intro wq hSw; (try dsimp only at hSw); first | (go_simp; done) | (go_simp; with_reducible rfl))
    simp only [Act.put, List.setIfInBounds_toArray, List.set_cons_zero, List.set_cons_succ]
    refine wpAnyH_take (i := 1) (oi := ⟨some 69, _, _, _, _, _⟩) (v := ?ve1) rfl (by kernel_rfl) (by kernel_rfl) (by kernel_rfl) (fun _ _ _ h => h) (Or.inl ⟨by rfl, ?hye1⟩) (by assumption) ?reste1
    case hye1 => (intro wq hSw; (try dsimp only at hSw); first | (go_simp; done) | (go_simp; with_reducible rfl))
    simp only [Act.put, List.setIfInBounds_toArray, List.set_cons_zero, List.set_cons_succ]
    refine wpAnyH_take (i := 2) (oi := ⟨some 70, _, _, _, _, _⟩) (v := ?ve2) rfl (by kernel_rfl) (by kernel_rfl) (by kernel_rfl) (fun _ _ _ h => h) (Or.inl ⟨by rfl, ?hye2⟩) (by assumption) ?reste2
    case hye2 => (intro wq hSw; (try dsimp only at hSw); first | (go_simp; done) | (go_simp; with_reducible rfl))
    simp only [Act.put, List.setIfInBounds_toArray, List.set_cons_zero, List.set_cons_succ]
    refine wpAnyH_take (i := 3) (oi := ⟨some 71, _, _, _, _, _⟩) (v := ?ve3) rfl (by kernel_rfl) (by kernel_rfl) (by kernel_rfl) (fun _ _ _ h => h) (Or.inl ⟨by rfl, ?hye3⟩) (by assumption) ?reste3
    case hye3 => (intro wq hSw; (try dsimp only at hSw); first | (go_simp; done) | (go_simp; with_reducible rfl))
    simp only [Act.put, List.setIfInBounds_toArray, List.set_cons_zero, List.set_cons_succ]
    refine wpAnyH_take (i := 4) (oi := ⟨some 72, _, _, _, _, _⟩) (v := ?ve4) rfl (by kernel_rfl) (by kernel_rfl) (by kernel_rfl) (fun _ _ _ h => h) (Or.inl ⟨by rfl, ?hye4⟩) (by assumption) ?reste4
    case hye4 => (intro wq hSw; (try dsimp only at hSw); first | (go_simp; done) | (go_simp; with_reducible rfl))
    simp only [Act.put, List.setIfInBounds_toArray, List.set_cons_zero, List.set_cons_succ]
    refine wpAnyH_take (i := 5) (oi := ⟨some 73, _, _, _, _, _⟩) (v := ?ve5) rfl (by kernel_rfl) (by kernel_rfl) (by kernel_rfl) (fun _ _ _ h => h) (Or.inl ⟨by rfl, ?hye5⟩) (by assumption) ?reste5
    case hye5 => (intro wq hSw; (try dsimp only at hSw); first | (go_simp; done) | (go_simp; with_reducible rfl))
    simp only [Act.put, List.setIfInBounds_toArray, List.set_cons_zero, List.set_cons_succ]
    refine wpAnyH_take (i := 6) (oi := ⟨some 74, _, _, _, _, _⟩) (v := ?ve6) rfl (by kernel_rfl) (by kernel_rfl) (by kernel_rfl) (fun _ _ _ h => h) (Or.inl ⟨by rfl, ?hye6⟩) (by assumption) ?reste6
    case hye6 => (intro wq hSw; (try dsimp only at hSw); first | (go_simp; done) | (go_simp; with_reducible rfl))
    simp only [Act.put, List.setIfInBounds_toArray, List.set_cons_zero, List.set_cons_succ]
    refine wpAnyH_take (i := 7) (oi := ⟨some 75, _, _, _, _, _⟩) (v := ?ve7) rfl (by kernel_rfl) (by kernel_rfl) (by kernel_rfl) (fun _ _ _ h => h) (Or.inl ⟨by rfl, ?hye7⟩) (by assumption) ?reste7
    case hye7 => (intro wq hSw; (try dsimp only at hSw); first | (go_simp; done) | (go_simp; with_reducible rfl))
    simp only [Act.put, List.setIfInBounds_toArray, List.set_cons_zero, List.set_cons_succ]
    refine wpAnyH_take (i := 8) (oi := ⟨some 76, _, _, _, _, _⟩) (v := ?ve8) rfl (by kernel_rfl) (by kernel_rfl) (by kernel_rfl) (fun _ _ _ h => h) (Or.inl ⟨by rfl, ?hye8⟩) (by assumption) ?reste8
    case hye8 => (intro wq hSw; (try dsimp only at hSw); first | (go_simp; done) | (go_simp; with_reducible rfl))
    simp only [Act.put, List.setIfInBounds_toArray, List.set_cons_zero, List.set_cons_succ]
    refine wpAnyH_take (i := 9) (oi := ⟨some 77, _, _, _, _, _⟩) (v := ?ve9) rfl (by kernel_rfl) (by kernel_rfl) (by kernel_rfl) (fun _ _ _ h => h) (Or.inl ⟨by rfl, ?hye9⟩) (by assumption) ?reste9
    case hye9 => (intro wq hSw; (try dsimp only at hSw); first | (go_simp; done) | (go_simp; with_reducible rfl))
    simp only [Act.put, List.setIfInBounds_toArray, List.set_cons_zero, List.set_cons_succ]
    refine wpAnyH_take (i := 10) (oi := ⟨some 78, _, _, _, _, _⟩) (v := ?ve10) rfl (by kernel_rfl) (by kernel_rfl) (by kernel_rfl) (fun _ _ _ h => h) (Or.inl ⟨by rfl, ?hye10⟩) (by assumption) ?reste10
    case hye10 => (intro wq hSw; (try dsimp only at hSw); first | (go_simp; done) | (go_simp; with_reducible rfl))
    simp only [Act.put, List.setIfInBounds_toArray, List.set_cons_zero, List.set_cons_succ]
    refine wpAnyH_take (i := 11) (oi := ⟨some 79, _, _, _, _, _⟩) (v := ?ve11) rfl (by kernel_rfl) (by kernel_rfl) (by kernel_rfl) (fun _ _ _ h => h) (Or.inl ⟨by rfl, ?hye11⟩) (by assumption) ?reste11
    case hye11 => (intro wq hSw; (try dsimp only at hSw); first | (go_simp; done) | (go_simp; with_reducible rfl))
    simp only [Act.put, List.setIfInBounds_toArray, List.set_cons_zero, List.set_cons_succ]
    refine wpAnyH_take (i := 12) (oi := ⟨some 80, _, _, _, _, _⟩) (v := ?ve12) rfl (by kernel_rfl) (by kernel_rfl) (by kernel_rfl) (fun _ _ _ h => h) (Or.inl ⟨by rfl, ?hye12⟩) (by assumption) ?reste12
    case hye12 => (intro wq hSw; (try dsimp only at hSw); first | (go_simp; done) | (go_simp; with_reducible rfl))
    simp only [Act.put, List.setIfInBounds_toArray, List.set_cons_zero, List.set_cons_succ]
    refine wpAnyH_take (i := 13) (oi := ⟨some 81, _, _, _, _, _⟩) (v := ?ve13) rfl (by kernel_rfl) (by kernel_rfl) (by kernel_rfl) (fun _ _ _ h => h) (Or.inl ⟨by rfl, ?hye13⟩) (by assumption) ?reste13
    case hye13 => (intro wq hSw; (try dsimp only at hSw); first | (go_simp; done) | (go_simp; with_reducible rfl))
    simp only [Act.put, List.setIfInBounds_toArray, List.set_cons_zero, List.set_cons_succ]
    refine wpAnyH_take (i := 14) (oi := ⟨some 82, _, _, _, _, _⟩) (v := ?ve14) rfl (by kernel_rfl) (by kernel_rfl) (by kernel_rfl) (fun _ _ _ h => h) (Or.inl ⟨by rfl, ?hye14⟩) (by assumption) ?reste14
    case hye14 => (intro wq hSw; (try dsimp only at hSw); first | (go_simp; done) | (go_simp; with_reducible rfl))
    simp only [Act.put, List.setIfInBounds_toArray, List.set_cons_zero, List.set_cons_succ]
    refine wpAnyH_take (i := 15) (oi := ⟨some 83, _, _, _, _, _⟩) (v := ?ve15) rfl (by kernel_rfl) (by kernel_rfl) (by kernel_rfl) (fun _ _ _ h => h) (Or.inl ⟨by rfl, ?hye15⟩) (by assumption) ?reste15
    case hye15 => (intro wq hSw; (try dsimp only at hSw); first | (go_simp; done) | (go_simp; with_reducible rfl))
    simp only [Act.put, List.setIfInBounds_toArray, List.set_cons_zero, List.set_cons_succ]
    refine wpAnyH_take (i := 16) (oi := ⟨some 84, _, _, _, _, _⟩) (v := ?ve16) rfl (by kernel_rfl) (by kernel_rfl) (by kernel_rfl) (fun _ _ _ h => h) (Or.inl ⟨by rfl, ?hye16⟩) (by assumption) ?reste16
    case hye16 => (intro wq hSw; (try dsimp only at hSw); first | (go_simp; done) | (go_simp; with_reducible rfl))
    simp only [Act.put, List.setIfInBounds_toArray, List.set_cons_zero, List.set_cons_succ]
    refine wpAnyH_take (i := 17) (oi := ⟨some 85, _, _, _, _, _⟩) (v := ?ve17) rfl (by kernel_rfl) (by kernel_rfl) (by kernel_rfl) (fun _ _ _ h => h) (Or.inl ⟨by rfl, ?hye17⟩) (by assumption) ?reste17
    case hye17 => (intro wq hSw; (try dsimp only at hSw); first | (go_simp; done) | (go_simp; with_reducible rfl))
    simp only [Act.put, List.setIfInBounds_toArray, List.set_cons_zero, List.set_cons_succ]
    refine wpAnyH_take (i := 18) (oi := ⟨some 86, _, _, _, _, _⟩) (v := ?ve18) rfl (by kernel_rfl) (by kernel_rfl) (by kernel_rfl) (fun _ _ _ h => h) (Or.inl ⟨by rfl, ?hye18⟩) (by assumption) ?reste18
    case hye18 => (intro wq hSw; (try dsimp only at hSw); first | (go_simp; done) | (go_simp; with_reducible rfl))
    simp only [Act.put, List.setIfInBounds_toArray, List.set_cons_zero, List.set_cons_succ]
    refine wpAnyH_ready (rs := [19]) (by kernel_rfl) (by simp) ?_
    refine AllReadyH.cons rfl (fun K hK => ?_) AllReadyH.nil
    go_simp
    (go_at_call 56; refine Calls.mono (HK1.out _) ?_; rintro e wn ⟨rfl, hwn⟩; obtain rfl := hwn.symm; clear hwn)
    refine hK.out _ _ ?_ (fun hHeld => ?_)
    ·
     exact ⟨b0, b1, b2, b3, n0, n1, c2⟩
    clear hK K
    refine wpAnyH_take (i := 20) (oi := ⟨some 88, _, _, _, _, _⟩) (v := ?ve20) rfl (by kernel_rfl) (by kernel_rfl) (by kernel_rfl) (fun _ _ _ h => h) (Or.inl ⟨by rfl, ?hye20⟩) (by assumption) ?reste20
    case hye20 => (intro wq hSw; (try dsimp only at hSw); first | (go_simp; done) | (go_simp; with_reducible rfl))
    simp only [Act.put, List.setIfInBounds_toArray, List.set_cons_zero, List.set_cons_succ]
    refine wpAnyH_take (i := 21) (oi := ⟨some 89, _, _, _, _, _⟩) (v := ?ve21) rfl (by kernel_rfl) (by kernel_rfl) (by kernel_rfl) (fun _ _ _ h => h) (Or.inl ⟨by rfl, ?hye21⟩) (by assumption) ?reste21
    case hye21 => (intro wq hSw; (try dsimp only at hSw); first | (go_simp; done) | (go_simp; with_reducible rfl))
    simp only [Act.put, List.setIfInBounds_toArray, List.set_cons_zero, List.set_cons_succ]
    refine wpAnyH_take (i := 22) (oi := ⟨some 90, _, _, _, _, _⟩) (v := ?ve22) rfl (by kernel_rfl) (by kernel_rfl) (by kernel_rfl) (fun _ _ _ h => h) (Or.inl ⟨by rfl, ?hye22⟩) (by assumption) ?reste22
    case hye22 => (intro wq hSw; (try dsimp only at hSw); first | (go_simp; done) | (go_simp; with_reducible rfl))
    simp only [Act.put, List.setIfInBounds_toArray, List.set_cons_zero, List.set_cons_succ]
    refine wpAnyH_take (i := 23) (oi := ⟨some 91, _, _, _, _, _⟩) (v := ?ve23) rfl (by kernel_rfl) (by kernel_rfl) (by kernel_rfl) (fun _ _ _ h => h) (Or.inl ⟨by rfl, ?hye23⟩) (by assumption) ?reste23
    case hye23 => (intro wq hSw; (try dsimp only at hSw); first | (go_simp; done) | (go_simp; with_reducible rfl))
    simp only [Act.put, List.setIfInBounds_toArray, List.set_cons_zero, List.set_cons_succ]
    refine wpAnyH_take (i := 24) (oi := ⟨some 92, _, _, _, _, _⟩) (v := ?ve24) rfl (by kernel_rfl) (by kernel_rfl) (by kernel_rfl) (fun _ _ _ h => h) (Or.inl ⟨by rfl, ?hye24⟩) (by assumption) ?reste24
    case hye24 => (intro wq hSw; (try dsimp only at hSw); first | (go_simp; done) | (go_simp; with_reducible rfl))
    simp only [Act.put, List.setIfInBounds_toArray, List.set_cons_zero, List.set_cons_succ]
    refine wpAnyH_take (i := 25) (oi := ⟨some 93, _, _, _, _, _⟩) (v := ?ve25) rfl (by kernel_rfl) (by kernel_rfl) (by kernel_rfl) (fun _ _ _ h => h) (Or.inl ⟨by rfl, ?hye25⟩) (by assumption) ?reste25
    case hye25 => (intro wq hSw; (try dsimp only at hSw); first | (go_simp; done) | (go_simp; with_reducible rfl))
    simp only [Act.put, List.setIfInBounds_toArray, List.set_cons_zero, List.set_cons_succ]
    refine wpAnyH_take (i := 26) (oi := ⟨some 94, _, _, _, _, _⟩) (v := ?ve26) rfl (by kernel_rfl) (by kernel_rfl) (by kernel_rfl) (fun _ _ _ h => h) (Or.inl ⟨by rfl, ?hye26⟩) (by assumption) ?reste26
    case hye26 => (intro wq hSw; (try dsimp only at hSw); first | (go_simp; done) | (go_simp; with_reducible rfl))
    simp only [Act.put, List.setIfInBounds_toArray, List.set_cons_zero, List.set_cons_succ]
    refine wpAnyH_take (i := 27) (oi := ⟨some 95, _, _, _, _, _⟩) (v := ?ve27) rfl (by kernel_rfl) (by kernel_rfl) (by kernel_rfl) (fun _ _ _ h => h) (Or.inl ⟨by rfl, ?hye27⟩) (by assumption) ?reste27
    case hye27 => (intro wq hSw; (try dsimp only at hSw); first | (go_simp; done) | (go_simp; with_reducible rfl))
    simp only [Act.put, List.setIfInBounds_toArray, List.set_cons_zero, List.set_cons_succ]
    refine wpAnyH_take (i := 28) (oi := ⟨some 96, _, _, _, _, _⟩) (v := ?ve28) rfl (by kernel_rfl) (by kernel_rfl) (by kernel_rfl) (fun _ _ _ h => h) (Or.inl ⟨by rfl, ?hye28⟩) (by assumption) ?reste28
    case hye28 => (intro wq hSw; (try dsimp only at hSw); first | (go_simp; done) | (go_simp; with_reducible rfl))
    simp only [Act.put, List.setIfInBounds_toArray, List.set_cons_zero, List.set_cons_succ]
    refine wpAnyH_take (i := 29) (oi := ⟨some 97, _, _, _, _, _⟩) (v := ?ve29) rfl (by kernel_rfl) (by kernel_rfl) (by kernel_rfl) (fun _ _ _ h => h) (Or.inl ⟨by rfl, ?hye29⟩) (by assumption) ?reste29
    case hye29 => (intro wq hSw; (try dsimp only at hSw); first | (go_simp; done) | (go_simp; with_reducible rfl))
    simp only [Act.put, List.setIfInBounds_toArray, List.set_cons_zero, List.set_cons_succ]
    refine wpAnyH_take (i := 30) (oi := ⟨some 98, _, _, _, _, _⟩) (v := ?ve30) rfl (by kernel_rfl) (by kernel_rfl) (by kernel_rfl) (fun _ _ _ h => h) (Or.inl ⟨by rfl, ?hye30⟩) (by assumption) ?reste30
    case hye30 => (intro wq hSw; (try dsimp only at hSw); first | (go_simp; done) | (go_simp; with_reducible rfl))
    simp only [Act.put, List.setIfInBounds_toArray, List.set_cons_zero, List.set_cons_succ]
    refine wpAnyH_take (i := 31) (oi := ⟨some 99, _, _, _, _, _⟩) (v := ?ve31) rfl (by kernel_rfl) (by kernel_rfl) (by kernel_rfl) (fun _ _ _ h => h) (Or.inl ⟨by rfl, ?hye31⟩) (by assumption) ?reste31
    case hye31 => (intro wq hSw; (try dsimp only at hSw); first | (go_simp; done) | (go_simp; with_reducible rfl))
    simp only [Act.put, List.setIfInBounds_toArray, List.set_cons_zero, List.set_cons_succ]
    refine wpAnyH_take (i := 32) (oi := ⟨some 100, _, _, _, _, _⟩) (v := ?ve32) rfl (by kernel_rfl) (by kernel_rfl) (by kernel_rfl) (fun _ _ _ h => h) (Or.inl ⟨by rfl, ?hye32⟩) (by assumption) ?reste32
    case hye32 => (intro wq hSw; (try dsimp only at hSw); first | (go_simp; done) | (go_simp; with_reducible rfl))
    simp only [Act.put, List.setIfInBounds_toArray, List.set_cons_zero, List.set_cons_succ]
    refine wpAnyH_take (i := 33) (oi := ⟨some 101, _, _, _, _, _⟩) (v := ?ve33) rfl (by kernel_rfl) (by kernel_rfl) (by kernel_rfl) (fun _ _ _ h => h) (Or.inl ⟨by rfl, ?hye33⟩) (by assumption) ?reste33
    case hye33 => (intro wq hSw; (try dsimp only at hSw); first | (go_simp; done) | (go_simp; with_reducible rfl))
    simp only [Act.put, List.setIfInBounds_toArray, List.set_cons_zero, List.set_cons_succ]
    refine wpAnyH_take (i := 34) (oi := ⟨some 102, _, _, _, _, _⟩) (v := ?ve34) rfl (by kernel_rfl) (by kernel_rfl) (by kernel_rfl) (fun _ _ _ h => h) (Or.inl ⟨by rfl, ?hye34⟩) (by assumption) ?reste34
    case hye34 => (intro wq hSw; (try dsimp only at hSw); first | (go_simp; done) | (go_simp; with_reducible rfl))
    simp only [Act.put, List.setIfInBounds_toArray, List.set_cons_zero, List.set_cons_succ]
    refine wpAnyH_take (i := 35) (oi := ⟨some 103, _, _, _, _, _⟩) (v := ?ve35) rfl (by kernel_rfl) (by kernel_rfl) (by kernel_rfl) (fun _ _ _ h => h) (Or.inl ⟨by rfl, ?hye35⟩) (by assumption) ?reste35
    case hye35 => (intro wq hSw; (try dsimp only at hSw); first | (go_simp; done) | (go_simp; with_reducible rfl))
    simp only [Act.put, List.setIfInBounds_toArray, List.set_cons_zero, List.set_cons_succ]
    refine wpAnyH_take (i := 36) (oi := ⟨some 104, _, _, _, _, _⟩) (v := ?ve36) rfl (by kernel_rfl) (by kernel_rfl) (by kernel_rfl) (fun _ _ _ h => h) (Or.inl ⟨by rfl, ?hye36⟩) (by assumption) ?reste36
    case hye36 => (intro wq hSw; (try dsimp only at hSw); first | (go_simp; done) | (go_simp; with_reducible rfl))
    simp only [Act.put, List.setIfInBounds_toArray, List.set_cons_zero, List.set_cons_succ]
    refine wpAnyH_take (i := 37) (oi := ⟨some 105, _, _, _, _, _⟩) (v := ?ve37) rfl (by kernel_rfl) (by kernel_rfl) (by kernel_rfl) (fun _ _ _ h => h) (Or.inl ⟨by rfl, ?hye37⟩) (by assumption) ?reste37
    case hye37 => (intro wq hSw; (try dsimp only at hSw); first | (go_simp; done) | (go_simp; with_reducible rfl))
    simp only [Act.put, List.setIfInBounds_toArray, List.set_cons_zero, List.set_cons_succ]
    refine wpAnyH_take (i := 38) (oi := ⟨some 106, _, _, _, _, _⟩) (v := ?ve38) rfl (by kernel_rfl) (by kernel_rfl) (by kernel_rfl) (fun _ _ _ h => h) (Or.inl ⟨by rfl, ?hye38⟩) (by assumption) ?reste38
    case hye38 => (intro wq hSw; (try dsimp only at hSw); first | (go_simp; done) | (go_simp; with_reducible rfl))
    simp only [Act.put, List.setIfInBounds_toArray, List.set_cons_zero, List.set_cons_succ]
    refine wpAnyH_take (i := 39) (oi := ⟨some 107, _, _, _, _, _⟩) (v := ?ve39) rfl (by kernel_rfl) (by kernel_rfl) (by kernel_rfl) (fun _ _ _ h => h) (Or.inl ⟨by rfl, ?hye39⟩) (by assumption) ?reste39
    case hye39 => (intro wq hSw; (try dsimp only at hSw); first | (go_simp; done) | (go_simp; with_reducible rfl))
    simp only [Act.put, List.setIfInBounds_toArray, List.set_cons_zero, List.set_cons_succ]
    refine wpAnyH_take (i := 40) (oi := ⟨some 108, _, _, _, _, _⟩) (v := ?ve40) rfl (by kernel_rfl) (by kernel_rfl) (by kernel_rfl) (fun _ _ _ h => h) (Or.inl ⟨by rfl, ?hye40⟩) (by assumption) ?reste40
    case hye40 => (intro wq hSw; (try dsimp only at hSw); first | (go_simp; done) | (go_simp; with_reducible rfl))
    simp only [Act.put, List.setIfInBounds_toArray, List.set_cons_zero, List.set_cons_succ]
    refine wpAnyH_take (i := 41) (oi := ⟨some 109, _, _, _, _, _⟩) (v := ?ve41) rfl (by kernel_rfl) (by kernel_rfl) (by kernel_rfl) (fun _ _ _ h => h) (Or.inl ⟨by rfl, ?hye41⟩) (by assumption) ?reste41
    case hye41 => (intro wq hSw; (try dsimp only at hSw); first | (go_simp; done) | (go_simp; with_reducible rfl))
    simp only [Act.put, List.setIfInBounds_toArray, List.set_cons_zero, List.set_cons_succ]
    refine wpAnyH_ready (rs := [42]) (by kernel_rfl) (by simp) ?_
    refine AllReadyH.cons rfl (fun K hK => ?_) AllReadyH.nil
    go_simp
    (go_at_call 41; refine Calls.mono (HFr1.out _ (by first | exact HBd.out | exact HB.out)) ?_; rintro e w5 ⟨rfl, hb5⟩; have HB5 : Hid (Below w.heap.size w w5) := (by first | exact HBd.out.trans (hb5.mono HBd.out.size) | exact HB.out.trans (hb5.mono HB.out.size)); have HC5 : Hid (Below X0.heap.size X0 w5) := (by first | exact hb5 | exact HXd.out.trans (hb5.mono HXd.out.size)); clear hb5)
    refine hK.out _ _ ?_ (fun hHeld => ?_)
    ·
     exact HSx.out w5 HC5.out
    clear hK K
    refine wpAnyH_take (i := 43) (oi := ⟨some 111, _, _, _, _, _⟩) (v := ?ve43) rfl (by kernel_rfl) (by kernel_rfl) (by kernel_rfl) (fun _ _ _ h => h) (Or.inl ⟨by rfl, ?hye43⟩) (by assumption) ?reste43
    case hye43 => (intro wq hSw; (try dsimp only at hSw); first | (go_simp; done) | (go_simp; with_reducible rfl))
    simp only [Act.put, List.setIfInBounds_toArray, List.set_cons_zero, List.set_cons_succ]
    refine wpAnyH_take (i := 44) (oi := ⟨some 112, _, _, _, _, _⟩) (v := ?ve44) rfl (by kernel_rfl) (by kernel_rfl) (by kernel_rfl) (fun _ _ _ h => h) (Or.inl ⟨by rfl, ?hye44⟩) (by assumption) ?reste44
    case hye44 => (intro wq hSw; (try dsimp only at hSw); first | (go_simp; done) | (go_simp; with_reducible rfl))
    simp only [Act.put, List.setIfInBounds_toArray, List.set_cons_zero, List.set_cons_succ]
    refine wpAnyH_done (by kernel_rfl) ?_ _
    go_wp2
    go_ret
    exact Or.inr ⟨HE.out, rfl, HB5.out⟩
   have HE : Hid (_) := HDn2.out hi2 (by first | exact hky | trivial) h2 (by first | rfl | trivial)
   clear HND1 HDn2 hwl hky
   go_wp2
   refine wp_region_held_drew (S := (fun Z => Z.cell? ⟨B, 0, none⟩ = some (.slice (some ⟨g, 0, none⟩) ts.length vc) ∧ Z.cell? ⟨B, 1, none⟩ = some (.int .i64 ep0) ∧ Z.cell? ⟨B, 2, none⟩ = some (.int .i64 0) ∧ Z.cell? ⟨B, 3, none⟩ = some (.string ⟨jr0.toArray⟩) ∧ Z.cell? ⟨gn, 0, none⟩ = some (.int .i64 (i : Int)) ∧ Z.cell? ⟨gn, 1, none⟩ = some (.int .i64 key) ∧ Z.cell? ⟨g, i * 6 + 2, none⟩ = some (.int .i64 st))) (by kernel_rfl) ?_ (fun hHeld => ?_)
   ·
    exact ⟨b0, b1, b2, b3, n0, n1, c2⟩
   refine wpAnyH_take (i := 0) (oi := ⟨some 68, _, _, _, _, _⟩) (v := ?vf0) rfl (by kernel_rfl) (by kernel_rfl) (by kernel_rfl) (fun _ _ _ h => h) (Or.inl ⟨by rfl, ?hyf0⟩) (by assumption) ?restf0
   case hyf0 => (intro wq hSw; (try dsimp only at hSw); first | (go_simp; done) | (go_simp; with_reducible rfl))
   simp only [Act.put, List.setIfInBounds_toArray, List.set_cons_zero, List.set_cons_succ]
   refine wpAnyH_take (i := 1) (oi := ⟨some 69, _, _, _, _, _⟩) (v := ?vf1) rfl (by kernel_rfl) (by kernel_rfl) (by kernel_rfl) (fun _ _ _ h => h) (Or.inl ⟨by rfl, ?hyf1⟩) (by assumption) ?restf1
   case hyf1 => (intro wq hSw; (try dsimp only at hSw); first | (go_simp; done) | (go_simp; with_reducible rfl))
   simp only [Act.put, List.setIfInBounds_toArray, List.set_cons_zero, List.set_cons_succ]
   refine wpAnyH_take (i := 2) (oi := ⟨some 70, _, _, _, _, _⟩) (v := ?vf2) rfl (by kernel_rfl) (by kernel_rfl) (by kernel_rfl) (fun _ _ _ h => h) (Or.inl ⟨by rfl, ?hyf2⟩) (by assumption) ?restf2
   case hyf2 => (intro wq hSw; (try dsimp only at hSw); first | (go_simp; done) | (go_simp; with_reducible rfl))
   simp only [Act.put, List.setIfInBounds_toArray, List.set_cons_zero, List.set_cons_succ]
   refine wpAnyH_take (i := 3) (oi := ⟨some 71, _, _, _, _, _⟩) (v := ?vf3) rfl (by kernel_rfl) (by kernel_rfl) (by kernel_rfl) (fun _ _ _ h => h) (Or.inl ⟨by rfl, ?hyf3⟩) (by assumption) ?restf3
   case hyf3 => (intro wq hSw; (try dsimp only at hSw); first | (go_simp; done) | (go_simp; with_reducible rfl))
   simp only [Act.put, List.setIfInBounds_toArray, List.set_cons_zero, List.set_cons_succ]
   refine wpAnyH_take (i := 4) (oi := ⟨some 72, _, _, _, _, _⟩) (v := ?vf4) rfl (by kernel_rfl) (by kernel_rfl) (by kernel_rfl) (fun _ _ _ h => h) (Or.inl ⟨by rfl, ?hyf4⟩) (by assumption) ?restf4
   case hyf4 => (intro wq hSw; (try dsimp only at hSw); first | (go_simp; done) | (go_simp; with_reducible rfl))
   simp only [Act.put, List.setIfInBounds_toArray, List.set_cons_zero, List.set_cons_succ]
   refine wpAnyH_take (i := 5) (oi := ⟨some 73, _, _, _, _, _⟩) (v := ?vf5) rfl (by kernel_rfl) (by kernel_rfl) (by kernel_rfl) (fun _ _ _ h => h) (Or.inl ⟨by rfl, ?hyf5⟩) (by assumption) ?restf5
   case hyf5 => (intro wq hSw; (try dsimp only at hSw); first | (go_simp; done) | (go_simp; with_reducible rfl))
   simp only [Act.put, List.setIfInBounds_toArray, List.set_cons_zero, List.set_cons_succ]
   refine wpAnyH_take (i := 6) (oi := ⟨some 74, _, _, _, _, _⟩) (v := ?vf6) rfl (by kernel_rfl) (by kernel_rfl) (by kernel_rfl) (fun _ _ _ h => h) (Or.inl ⟨by rfl, ?hyf6⟩) (by assumption) ?restf6
   case hyf6 => (intro wq hSw; (try dsimp only at hSw); first | (go_simp; done) | (go_simp; with_reducible rfl))
   simp only [Act.put, List.setIfInBounds_toArray, List.set_cons_zero, List.set_cons_succ]
   refine wpAnyH_take (i := 7) (oi := ⟨some 75, _, _, _, _, _⟩) (v := ?vf7) rfl (by kernel_rfl) (by kernel_rfl) (by kernel_rfl) (fun _ _ _ h => h) (Or.inl ⟨by rfl, ?hyf7⟩) (by assumption) ?restf7
   case hyf7 => (intro wq hSw; (try dsimp only at hSw); first | (go_simp; done) | (go_simp; with_reducible rfl))
   simp only [Act.put, List.setIfInBounds_toArray, List.set_cons_zero, List.set_cons_succ]
   refine wpAnyH_take (i := 8) (oi := ⟨some 76, _, _, _, _, _⟩) (v := ?vf8) rfl (by kernel_rfl) (by kernel_rfl) (by kernel_rfl) (fun _ _ _ h => h) (Or.inl ⟨by rfl, ?hyf8⟩) (by assumption) ?restf8
   case hyf8 => (intro wq hSw; (try dsimp only at hSw); first | (go_simp; done) | (go_simp; with_reducible rfl))
   simp only [Act.put, List.setIfInBounds_toArray, List.set_cons_zero, List.set_cons_succ]
   refine wpAnyH_take (i := 9) (oi := ⟨some 77, _, _, _, _, _⟩) (v := ?vf9) rfl (by kernel_rfl) (by kernel_rfl) (by kernel_rfl) (fun _ _ _ h => h) (Or.inl ⟨by rfl, ?hyf9⟩) (by assumption) ?restf9
   case hyf9 => (intro wq hSw; (try dsimp only at hSw); first | (go_simp; done) | (go_simp; with_reducible rfl))
   simp only [Act.put, List.setIfInBounds_toArray, List.set_cons_zero, List.set_cons_succ]
   refine wpAnyH_take (i := 10) (oi := ⟨some 78, _, _, _, _, _⟩) (v := ?vf10) rfl (by kernel_rfl) (by kernel_rfl) (by kernel_rfl) (fun _ _ _ h => h) (Or.inl ⟨by rfl, ?hyf10⟩) (by assumption) ?restf10
   case hyf10 => (intro wq hSw; (try dsimp only at hSw); first | (go_simp; done) | (go_simp; with_reducible rfl))
   simp only [Act.put, List.setIfInBounds_toArray, List.set_cons_zero, List.set_cons_succ]
   refine wpAnyH_take (i := 11) (oi := ⟨some 79, _, _, _, _, _⟩) (v := ?vf11) rfl (by kernel_rfl) (by kernel_rfl) (by kernel_rfl) (fun _ _ _ h => h) (Or.inl ⟨by rfl, ?hyf11⟩) (by assumption) ?restf11
   case hyf11 => (intro wq hSw; (try dsimp only at hSw); first | (go_simp; done) | (go_simp; with_reducible rfl))
   simp only [Act.put, List.setIfInBounds_toArray, List.set_cons_zero, List.set_cons_succ]
   refine wpAnyH_take (i := 12) (oi := ⟨some 80, _, _, _, _, _⟩) (v := ?vf12) rfl (by kernel_rfl) (by kernel_rfl) (by kernel_rfl) (fun _ _ _ h => h) (Or.inl ⟨by rfl, ?hyf12⟩) (by assumption) ?restf12
   case hyf12 => (intro wq hSw; (try dsimp only at hSw); first | (go_simp; done) | (go_simp; with_reducible rfl))
   simp only [Act.put, List.setIfInBounds_toArray, List.set_cons_zero, List.set_cons_succ]
   refine wpAnyH_take (i := 13) (oi := ⟨some 81, _, _, _, _, _⟩) (v := ?vf13) rfl (by kernel_rfl) (by kernel_rfl) (by kernel_rfl) (fun _ _ _ h => h) (Or.inl ⟨by rfl, ?hyf13⟩) (by assumption) ?restf13
   case hyf13 => (intro wq hSw; (try dsimp only at hSw); first | (go_simp; done) | (go_simp; with_reducible rfl))
   simp only [Act.put, List.setIfInBounds_toArray, List.set_cons_zero, List.set_cons_succ]
   refine wpAnyH_take (i := 14) (oi := ⟨some 82, _, _, _, _, _⟩) (v := ?vf14) rfl (by kernel_rfl) (by kernel_rfl) (by kernel_rfl) (fun _ _ _ h => h) (Or.inl ⟨by rfl, ?hyf14⟩) (by assumption) ?restf14
   case hyf14 => (intro wq hSw; (try dsimp only at hSw); first | (go_simp; done) | (go_simp; with_reducible rfl))
   simp only [Act.put, List.setIfInBounds_toArray, List.set_cons_zero, List.set_cons_succ]
   refine wpAnyH_take (i := 15) (oi := ⟨some 83, _, _, _, _, _⟩) (v := ?vf15) rfl (by kernel_rfl) (by kernel_rfl) (by kernel_rfl) (fun _ _ _ h => h) (Or.inl ⟨by rfl, ?hyf15⟩) (by assumption) ?restf15
   case hyf15 => (intro wq hSw; (try dsimp only at hSw); first | (go_simp; done) | (go_simp; with_reducible rfl))
   simp only [Act.put, List.setIfInBounds_toArray, List.set_cons_zero, List.set_cons_succ]
   refine wpAnyH_take (i := 16) (oi := ⟨some 84, _, _, _, _, _⟩) (v := ?vf16) rfl (by kernel_rfl) (by kernel_rfl) (by kernel_rfl) (fun _ _ _ h => h) (Or.inl ⟨by rfl, ?hyf16⟩) (by assumption) ?restf16
   case hyf16 => (intro wq hSw; (try dsimp only at hSw); first | (go_simp; done) | (go_simp; with_reducible rfl))
   simp only [Act.put, List.setIfInBounds_toArray, List.set_cons_zero, List.set_cons_succ]
   refine wpAnyH_take (i := 17) (oi := ⟨some 85, _, _, _, _, _⟩) (v := ?vf17) rfl (by kernel_rfl) (by kernel_rfl) (by kernel_rfl) (fun _ _ _ h => h) (Or.inl ⟨by rfl, ?hyf17⟩) (by assumption) ?restf17
   case hyf17 => (intro wq hSw; (try dsimp only at hSw); first | (go_simp; done) | (go_simp; with_reducible rfl))
   simp only [Act.put, List.setIfInBounds_toArray, List.set_cons_zero, List.set_cons_succ]
   refine wpAnyH_take (i := 18) (oi := ⟨some 86, _, _, _, _, _⟩) (v := ?vf18) rfl (by kernel_rfl) (by kernel_rfl) (by kernel_rfl) (fun _ _ _ h => h) (Or.inl ⟨by rfl, ?hyf18⟩) (by assumption) ?restf18
   case hyf18 => (intro wq hSw; (try dsimp only at hSw); first | (go_simp; done) | (go_simp; with_reducible rfl))
   simp only [Act.put, List.setIfInBounds_toArray, List.set_cons_zero, List.set_cons_succ]
   refine wpAnyH_ready (rs := [19]) (by kernel_rfl) (by simp) ?_
   refine AllReadyH.cons rfl (fun K hK => ?_) AllReadyH.nil
   go_simp
   (go_at_call 56; refine Calls.mono (HK1.out _) ?_; rintro e wn ⟨rfl, hwn⟩; obtain rfl := hwn.symm; clear hwn)
   refine hK.out _ _ ?_ (fun hHeld => ?_)
   ·
    exact ⟨b0, b1, b2, b3, n0, n1, c2⟩
   clear hK K
   refine wpAnyH_take (i := 20) (oi := ⟨some 88, _, _, _, _, _⟩) (v := ?vf20) rfl (by kernel_rfl) (by kernel_rfl) (by kernel_rfl) (fun _ _ _ h => h) (Or.inl ⟨by rfl, ?hyf20⟩) (by assumption) ?restf20
   case hyf20 => (intro wq hSw; (try dsimp only at hSw); first | (go_simp; done) | (go_simp; with_reducible rfl))
   simp only [Act.put, List.setIfInBounds_toArray, List.set_cons_zero, List.set_cons_succ]
   refine wpAnyH_take (i := 21) (oi := ⟨some 89, _, _, _, _, _⟩) (v := ?vf21) rfl (by kernel_rfl) (by kernel_rfl) (by kernel_rfl) (fun _ _ _ h => h) (Or.inl ⟨by rfl, ?hyf21⟩) (by assumption) ?restf21
   case hyf21 => (intro wq hSw; (try dsimp only at hSw); first | (go_simp; done) | (go_simp; with_reducible rfl))
   simp only [Act.put, List.setIfInBounds_toArray, List.set_cons_zero, List.set_cons_succ]
   refine wpAnyH_take (i := 22) (oi := ⟨some 90, _, _, _, _, _⟩) (v := ?vf22) rfl (by kernel_rfl) (by kernel_rfl) (by kernel_rfl) (fun _ _ _ h => h) (Or.inl ⟨by rfl, ?hyf22⟩) (by assumption) ?restf22
   case hyf22 => (intro wq hSw; (try dsimp only at hSw); first | (go_simp; done) | (go_simp; with_reducible rfl))
   simp only [Act.put, List.setIfInBounds_toArray, List.set_cons_zero, List.set_cons_succ]
   refine wpAnyH_take (i := 23) (oi := ⟨some 91, _, _, _, _, _⟩) (v := ?vf23) rfl (by kernel_rfl) (by kernel_rfl) (by kernel_rfl) (fun _ _ _ h => h) (Or.inl ⟨by rfl, ?hyf23⟩) (by assumption) ?restf23
   case hyf23 => (intro wq hSw; (try dsimp only at hSw); first | (go_simp; done) | (go_simp; with_reducible rfl))
   simp only [Act.put, List.setIfInBounds_toArray, List.set_cons_zero, List.set_cons_succ]
   refine wpAnyH_take (i := 24) (oi := ⟨some 92, _, _, _, _, _⟩) (v := ?vf24) rfl (by kernel_rfl) (by kernel_rfl) (by kernel_rfl) (fun _ _ _ h => h) (Or.inl ⟨by rfl, ?hyf24⟩) (by assumption) ?restf24
   case hyf24 => (intro wq hSw; (try dsimp only at hSw); first | (go_simp; done) | (go_simp; with_reducible rfl))
   simp only [Act.put, List.setIfInBounds_toArray, List.set_cons_zero, List.set_cons_succ]
   refine wpAnyH_take (i := 25) (oi := ⟨some 93, _, _, _, _, _⟩) (v := ?vf25) rfl (by kernel_rfl) (by kernel_rfl) (by kernel_rfl) (fun _ _ _ h => h) (Or.inl ⟨by rfl, ?hyf25⟩) (by assumption) ?restf25
   case hyf25 => (intro wq hSw; (try dsimp only at hSw); first | (go_simp; done) | (go_simp; with_reducible rfl))
   simp only [Act.put, List.setIfInBounds_toArray, List.set_cons_zero, List.set_cons_succ]
   refine wpAnyH_take (i := 26) (oi := ⟨some 94, _, _, _, _, _⟩) (v := ?vf26) rfl (by kernel_rfl) (by kernel_rfl) (by kernel_rfl) (fun _ _ _ h => h) (Or.inl ⟨by rfl, ?hyf26⟩) (by assumption) ?restf26
   case hyf26 => (intro wq hSw; (try dsimp only at hSw); first | (go_simp; done) | (go_simp; with_reducible rfl))
   simp only [Act.put, List.setIfInBounds_toArray, List.set_cons_zero, List.set_cons_succ]
   refine wpAnyH_take (i := 27) (oi := ⟨some 95, _, _, _, _, _⟩) (v := ?vf27) rfl (by kernel_rfl) (by kernel_rfl) (by kernel_rfl) (fun _ _ _ h => h) (Or.inl ⟨by rfl, ?hyf27⟩) (by assumption) ?restf27
   case hyf27 => (intro wq hSw; (try dsimp only at hSw); first | (go_simp; done) | (go_simp; with_reducible rfl))
   simp only [Act.put, List.setIfInBounds_toArray, List.set_cons_zero, List.set_cons_succ]
   refine wpAnyH_take (i := 28) (oi := ⟨some 96, _, _, _, _, _⟩) (v := ?vf28) rfl (by kernel_rfl) (by kernel_rfl) (by kernel_rfl) (fun _ _ _ h => h) (Or.inl ⟨by rfl, ?hyf28⟩) (by assumption) ?restf28
   case hyf28 => (intro wq hSw; (try dsimp only at hSw); first | (go_simp; done) | (go_simp; with_reducible rfl))
   simp only [Act.put, List.setIfInBounds_toArray, List.set_cons_zero, List.set_cons_succ]
   refine wpAnyH_take (i := 29) (oi := ⟨some 97, _, _, _, _, _⟩) (v := ?vf29) rfl (by kernel_rfl) (by kernel_rfl) (by kernel_rfl) (fun _ _ _ h => h) (Or.inl ⟨by rfl, ?hyf29⟩) (by assumption) ?restf29
   case hyf29 => (intro wq hSw; (try dsimp only at hSw); first | (go_simp; done) | (go_simp; with_reducible rfl))
   simp only [Act.put, List.setIfInBounds_toArray, List.set_cons_zero, List.set_cons_succ]
   refine wpAnyH_take (i := 30) (oi := ⟨some 98, _, _, _, _, _⟩) (v := ?vf30) rfl (by kernel_rfl) (by kernel_rfl) (by kernel_rfl) (fun _ _ _ h => h) (Or.inl ⟨by rfl, ?hyf30⟩) (by assumption) ?restf30
   case hyf30 => (intro wq hSw; (try dsimp only at hSw); first | (go_simp; done) | (go_simp; with_reducible rfl))
   simp only [Act.put, List.setIfInBounds_toArray, List.set_cons_zero, List.set_cons_succ]
   refine wpAnyH_take (i := 31) (oi := ⟨some 99, _, _, _, _, _⟩) (v := ?vf31) rfl (by kernel_rfl) (by kernel_rfl) (by kernel_rfl) (fun _ _ _ h => h) (Or.inl ⟨by rfl, ?hyf31⟩) (by assumption) ?restf31
   case hyf31 => (intro wq hSw; (try dsimp only at hSw); first | (go_simp; done) | (go_simp; with_reducible rfl))
   simp only [Act.put, List.setIfInBounds_toArray, List.set_cons_zero, List.set_cons_succ]
   refine wpAnyH_take (i := 32) (oi := ⟨some 100, _, _, _, _, _⟩) (v := ?vf32) rfl (by kernel_rfl) (by kernel_rfl) (by kernel_rfl) (fun _ _ _ h => h) (Or.inl ⟨by rfl, ?hyf32⟩) (by assumption) ?restf32
   case hyf32 => (intro wq hSw; (try dsimp only at hSw); first | (go_simp; done) | (go_simp; with_reducible rfl))
   simp only [Act.put, List.setIfInBounds_toArray, List.set_cons_zero, List.set_cons_succ]
   refine wpAnyH_take (i := 33) (oi := ⟨some 101, _, _, _, _, _⟩) (v := ?vf33) rfl (by kernel_rfl) (by kernel_rfl) (by kernel_rfl) (fun _ _ _ h => h) (Or.inl ⟨by rfl, ?hyf33⟩) (by assumption) ?restf33
   case hyf33 => (intro wq hSw; (try dsimp only at hSw); first | (go_simp; done) | (go_simp; with_reducible rfl))
   simp only [Act.put, List.setIfInBounds_toArray, List.set_cons_zero, List.set_cons_succ]
   refine wpAnyH_take (i := 34) (oi := ⟨some 102, _, _, _, _, _⟩) (v := ?vf34) rfl (by kernel_rfl) (by kernel_rfl) (by kernel_rfl) (fun _ _ _ h => h) (Or.inl ⟨by rfl, ?hyf34⟩) (by assumption) ?restf34
   case hyf34 => (intro wq hSw; (try dsimp only at hSw); first | (go_simp; done) | (go_simp; with_reducible rfl))
   simp only [Act.put, List.setIfInBounds_toArray, List.set_cons_zero, List.set_cons_succ]
   refine wpAnyH_take (i := 35) (oi := ⟨some 103, _, _, _, _, _⟩) (v := ?vf35) rfl (by kernel_rfl) (by kernel_rfl) (by kernel_rfl) (fun _ _ _ h => h) (Or.inl ⟨by rfl, ?hyf35⟩) (by assumption) ?restf35
   case hyf35 => (intro wq hSw; (try dsimp only at hSw); first | (go_simp; done) | (go_simp; with_reducible rfl))
   simp only [Act.put, List.setIfInBounds_toArray, List.set_cons_zero, List.set_cons_succ]
   refine wpAnyH_take (i := 36) (oi := ⟨some 104, _, _, _, _, _⟩) (v := ?vf36) rfl (by kernel_rfl) (by kernel_rfl) (by kernel_rfl) (fun _ _ _ h => h) (Or.inl ⟨by rfl, ?hyf36⟩) (by assumption) ?restf36
   case hyf36 => (intro wq hSw; (try dsimp only at hSw); first | (go_simp; done) | (go_simp; with_reducible rfl))
   simp only [Act.put, List.setIfInBounds_toArray, List.set_cons_zero, List.set_cons_succ]
   refine wpAnyH_take (i := 37) (oi := ⟨some 105, _, _, _, _, _⟩) (v := ?vf37) rfl (by kernel_rfl) (by kernel_rfl) (by kernel_rfl) (fun _ _ _ h => h) (Or.inl ⟨by rfl, ?hyf37⟩) (by assumption) ?restf37
   case hyf37 => (intro wq hSw; (try dsimp only at hSw); first | (go_simp; done) | (go_simp; with_reducible rfl))
   simp only [Act.put, List.setIfInBounds_toArray, List.set_cons_zero, List.set_cons_succ]
   refine wpAnyH_take (i := 38) (oi := ⟨some 106, _, _, _, _, _⟩) (v := ?vf38) rfl (by kernel_rfl) (by kernel_rfl) (by kernel_rfl) (fun _ _ _ h => h) (Or.inl ⟨by rfl, ?hyf38⟩) (by assumption) ?restf38
   case hyf38 => (intro wq hSw; (try dsimp only at hSw); first | (go_simp; done) | (go_simp; with_reducible rfl))
   simp only [Act.put, List.setIfInBounds_toArray, List.set_cons_zero, List.set_cons_succ]
   refine wpAnyH_take (i := 39) (oi := ⟨some 107, _, _, _, _, _⟩) (v := ?vf39) rfl (by kernel_rfl) (by kernel_rfl) (by kernel_rfl) (fun _ _ _ h => h) (Or.inl ⟨by rfl, ?hyf39⟩) (by assumption) ?restf39
   case hyf39 => (intro wq hSw; (try dsimp only at hSw); first | (go_simp; done) | (go_simp; with_reducible rfl))
   simp only [Act.put, List.setIfInBounds_toArray, List.set_cons_zero, List.set_cons_succ]
   refine wpAnyH_take (i := 40) (oi := ⟨some 108, _, _, _, _, _⟩) (v := ?vf40) rfl (by kernel_rfl) (by kernel_rfl) (by kernel_rfl) (fun _ _ _ h => h) (Or.inl ⟨by rfl, ?hyf40⟩) (by assumption) ?restf40
   case hyf40 => (intro wq hSw; (try dsimp only at hSw); first | (go_simp; done) | (go_simp; with_reducible rfl))
   simp only [Act.put, List.setIfInBounds_toArray, List.set_cons_zero, List.set_cons_succ]
   refine wpAnyH_take (i := 41) (oi := ⟨some 109, _, _, _, _, _⟩) (v := ?vf41) rfl (by kernel_rfl) (by kernel_rfl) (by kernel_rfl) (fun _ _ _ h => h) (Or.inl ⟨by rfl, ?hyf41⟩) (by assumption) ?restf41
   case hyf41 => (intro wq hSw; (try dsimp only at hSw); first | (go_simp; done) | (go_simp; with_reducible rfl))
   simp only [Act.put, List.setIfInBounds_toArray, List.set_cons_zero, List.set_cons_succ]
   refine wpAnyH_ready (rs := [42]) (by kernel_rfl) (by simp) ?_
   refine AllReadyH.cons rfl (fun K hK => ?_) AllReadyH.nil
   go_simp
   (go_at_call 41; refine Calls.mono (HFr1.out _ (by first | exact HBd.out | exact HB.out)) ?_; rintro e w5 ⟨rfl, hb5⟩; have HB5 : Hid (Below w.heap.size w w5) := (by first | exact HBd.out.trans (hb5.mono HBd.out.size) | exact HB.out.trans (hb5.mono HB.out.size)); have HC5 : Hid (Below X0.heap.size X0 w5) := (by first | exact hb5 | exact HXd.out.trans (hb5.mono HXd.out.size)); clear hb5)
   refine hK.out _ _ ?_ (fun hHeld => ?_)
   ·
    exact HSx.out w5 HC5.out
   clear hK K
   refine wpAnyH_take (i := 43) (oi := ⟨some 111, _, _, _, _, _⟩) (v := ?vf43) rfl (by kernel_rfl) (by kernel_rfl) (by kernel_rfl) (fun _ _ _ h => h) (Or.inl ⟨by rfl, ?hyf43⟩) (by assumption) ?restf43
   case hyf43 => (intro wq hSw; (try dsimp only at hSw); first | (go_simp; done) | (go_simp; with_reducible rfl))
   simp only [Act.put, List.setIfInBounds_toArray, List.set_cons_zero, List.set_cons_succ]
   refine wpAnyH_take (i := 44) (oi := ⟨some 112, _, _, _, _, _⟩) (v := ?vf44) rfl (by kernel_rfl) (by kernel_rfl) (by kernel_rfl) (fun _ _ _ h => h) (Or.inl ⟨by rfl, ?hyf44⟩) (by assumption) ?restf44
   case hyf44 => (intro wq hSw; (try dsimp only at hSw); first | (go_simp; done) | (go_simp; with_reducible rfl))
   simp only [Act.put, List.setIfInBounds_toArray, List.set_cons_zero, List.set_cons_succ]
   refine wpAnyH_done (by kernel_rfl) ?_ _
   clear b0 b1 b2 b3 n0 n1 c2
   obtain ⟨b0, _, _, _, n0, n1, _⟩ := HSx.out w5 HC5.out
   have hr0 := HRow.out w5 HB5.out
   have e2 := hr0.frozenAt (i * 6 + 2)
   have hs2 := hr0.stored (i * 6 + 2) (.int .i64 2)
   have hG2 := hs2.2
   have hn2 := hs2.1
   obtain ⟨V, hV⟩ : ∃ V, w5.setCell ⟨g, i * 6 + 2, none⟩ (.int .i64 2) = V := ⟨_, rfl⟩
   rw [hV] at hG2 hn2
   have HN2 : Hid (_) := hn2
   have HgV : Hid (w5.grownBy V (some g)) := hG2
   clear hs2 hG2 hn2 hr0
   go_wp2
   refine Till.region (S := (fun Z => Z.cell? ⟨B, 0, none⟩ = some (.slice (some ⟨g, 0, none⟩) ts.length vc) ∧ Z.cell? ⟨gn, 0, none⟩ = some (.int .i64 (i : Int)) ∧ Z.cell? ⟨gn, 1, none⟩ = some (.int .i64 key))) (E := [9]) (by kernel_rfl) ?_ (fun hHeld hSh => ?_)
   ·
    exact ⟨b0, n0, n1⟩
   refine Till.take (i := 0) (o := ⟨some 113, _, _, _, _, _⟩) (v := ?vr0) (d := 30) rfl (by kernel_rfl) (by kernel_rfl) (by kernel_rfl) (by kernel_rfl) (fun _ _ _ h => h) (Or.inl ⟨by rfl, ?hyr0⟩) (by assumption) hSh (fun hSh2 => ?restr0)
   case hyr0 => (intro wq hSw; (try dsimp only at hSw); first | (go_simp; done) | (go_simp; with_reducible rfl))
   clear hSh; rename Shut11 _ _ _ => hSh
   simp only [Act.put, List.setIfInBounds_toArray, List.set_cons_zero, List.set_cons_succ]
   refine Till.take (i := 1) (o := ⟨some 114, _, _, _, _, _⟩) (v := ?vr1) (d := 30) rfl (by kernel_rfl) (by kernel_rfl) (by kernel_rfl) (by kernel_rfl) (fun _ _ _ h => h) (Or.inl ⟨by rfl, ?hyr1⟩) (by assumption) hSh (fun hSh2 => ?restr1)
   case hyr1 => (intro wq hSw; (try dsimp only at hSw); first | (go_simp; done) | (go_simp; with_reducible rfl))
   clear hSh; rename Shut11 _ _ _ => hSh
   simp only [Act.put, List.setIfInBounds_toArray, List.set_cons_zero, List.set_cons_succ]
   refine Till.take (i := 2) (o := ⟨some 115, _, _, _, _, _⟩) (v := ?vr2) (d := 30) rfl (by kernel_rfl) (by kernel_rfl) (by kernel_rfl) (by kernel_rfl) (fun _ _ _ h => h) (Or.inl ⟨by rfl, ?hyr2⟩) (by assumption) hSh (fun hSh2 => ?restr2)
   case hyr2 => (intro wq hSw; (try dsimp only at hSw); first | (go_simp; done) | (go_simp; with_reducible rfl))
   clear hSh; rename Shut11 _ _ _ => hSh
   simp only [Act.put, List.setIfInBounds_toArray, List.set_cons_zero, List.set_cons_succ]
   refine Till.take (i := 3) (o := ⟨some 116, _, _, _, _, _⟩) (v := ?vr3) (d := 30) rfl (by kernel_rfl) (by kernel_rfl) (by kernel_rfl) (by kernel_rfl) (fun _ _ _ h => h) (Or.inl ⟨by rfl, ?hyr3⟩) (by assumption) hSh (fun hSh2 => ?restr3)
   case hyr3 => (intro wq hSw; (try dsimp only at hSw); first | (go_simp; done) | (go_simp; with_reducible rfl))
   clear hSh; rename Shut11 _ _ _ => hSh
   simp only [Act.put, List.setIfInBounds_toArray, List.set_cons_zero, List.set_cons_succ]
   refine Till.take (i := 4) (o := ⟨some 117, _, _, _, _, _⟩) (v := ?vr4) (d := 30) rfl (by kernel_rfl) (by kernel_rfl) (by kernel_rfl) (by kernel_rfl) (fun _ _ _ h => h) (Or.inl ⟨by rfl, ?hyr4⟩) (by assumption) hSh (fun hSh2 => ?restr4)
   case hyr4 => (intro wq hSw; (try dsimp only at hSw); first | (go_simp; done) | (go_simp; with_reducible rfl))
   clear hSh; rename Shut11 _ _ _ => hSh
   simp only [Act.put, List.setIfInBounds_toArray, List.set_cons_zero, List.set_cons_succ]
   refine Till.take (i := 5) (o := ⟨some 118, _, _, _, _, _⟩) (v := ?vr5) (d := 30) rfl (by kernel_rfl) (by kernel_rfl) (by kernel_rfl) (by kernel_rfl) (fun _ _ _ h => h) (Or.inl ⟨by rfl, ?hyr5⟩) (by assumption) hSh (fun hSh2 => ?restr5)
   case hyr5 => (intro wq hSw; (try dsimp only at hSw); first | (go_simp; done) | (go_simp; with_reducible rfl))
   clear hSh; rename Shut11 _ _ _ => hSh
   simp only [Act.put, List.setIfInBounds_toArray, List.set_cons_zero, List.set_cons_succ]
   refine Till.take (i := 6) (o := ⟨some 119, _, _, _, _, _⟩) (v := ?vr6) (d := 30) rfl (by kernel_rfl) (by kernel_rfl) (by kernel_rfl) (by kernel_rfl) (fun _ _ _ h => h) (Or.inl ⟨by rfl, ?hyr6⟩) (by assumption) hSh (fun hSh2 => ?restr6)
   case hyr6 => (intro wq hSw; (try dsimp only at hSw); first | (go_simp; done) | (go_simp; with_reducible rfl))
   clear hSh; rename Shut11 _ _ _ => hSh
   simp only [Act.put, List.setIfInBounds_toArray, List.set_cons_zero, List.set_cons_succ]
   refine Till.take (i := 7) (o := ⟨some 120, _, _, _, _, _⟩) (v := ?vr7) (d := 30) rfl (by kernel_rfl) (by kernel_rfl) (by kernel_rfl) (by kernel_rfl) (fun _ _ _ h => h) (Or.inl ⟨by rfl, ?hyr7⟩) (by assumption) hSh (fun hSh2 => ?restr7)
   case hyr7 => (intro wq hSw; (try dsimp only at hSw); first | (go_simp; done) | (go_simp; with_reducible rfl))
   clear hSh; rename Shut11 _ _ _ => hSh
   simp only [Act.put, List.setIfInBounds_toArray, List.set_cons_zero, List.set_cons_succ]
   refine Till.take (i := 8) (o := ⟨some 121, _, _, _, _, _⟩) (v := ?vr8) (d := 30) rfl (by kernel_rfl) (by kernel_rfl) (by kernel_rfl) (by kernel_rfl) (fun _ _ _ h => h) (Or.inl ⟨by rfl, ?hyr8⟩) (by assumption) hSh (fun hSh2 => ?restr8)
   case hyr8 => (intro wq hSw; (try dsimp only at hSw); first | (go_simp; done) | (go_simp; with_reducible rfl))
   clear hSh; rename Shut11 _ _ _ => hSh
   simp only [Act.put, List.setIfInBounds_toArray, List.set_cons_zero, List.set_cons_succ]
   refine Till.last (i := 9) (by kernel_rfl) rfl (by decide) (fun K hK => ?_)
   go_simp
   refine hK.out _ _ ?_
   clear hK K
   (try rw [hV])
   refine Till.done (by kernel_rfl) ?_ _
   obtain ⟨V1, hV1⟩ : ∃ X, V.drew = X := ⟨_, rfl⟩
   (try rw [hV1])
   have hd1 : Below V.heap.size V V1 := by rw [← hV1]; exact ⟨rfl, rfl, rfl, Nat.le_refl _, fun _ _ => rfl⟩
   have hg1 : V.grownBy V1 (some g) := by rw [← hV1]; exact ⟨rfl, rfl, rfl, Nat.le_refl _, fun _ _ _ => rfl⟩
   have HG1 : Hid (w5.grownBy V1 (some g)) := HgV.out.trans hg1
   have hr1 := own_below HN2.out hd1
   have hgg : g ≠ B ∧ g ≠ G := HNe.out g (Or.inl rfl)
   have hggn : g < gn := by have h1 := ((HO.out w (Below.refl _ _)).row.lt g rfl).2; have h2 := HB1.out.size; have h3 := HGN.out; omega
   have bV := (HBx.out w5 HB5.out).grown HG1.out (by intro e; injection e with e; exact hgg.1 e)
   have hgn5 : gn < w5.heap.size := Nat.lt_of_lt_of_le hgn HC5.out.size
   have hng : some gn ≠ some g := by intro e; injection e with e; omega
   have m0 := (World.cell?_of_block (a := ⟨gn, 0, none⟩) (HG1.out.block gn hgn5 hng)).trans n0
   have m1 := (World.cell?_of_block (a := ⟨gn, 1, none⟩) (HG1.out.block gn hgn5 hng)).trans n1
   have c5 : V1.cell? ⟨g, i * 6 + 5, none⟩ = some (.int .i64 ke) := (hr1.cellAt _ (by omega)).trans (by rw [List.getElem?_set_ne (by omega)]; exact HT.out.2.2.2.2.2)
   clear b0 n0 n1
   have b0 := bV.c0
   have n0 := m0
   have n1 := m1
   have e5 := hr1.frozenAt (i * 6 + 5)
   have hs5 := hr1.stored (i * 6 + 5) (.int .i64 key)
   have hG5 := hs5.2
   have hn5 := hs5.1
   obtain ⟨V2, hV2⟩ : ∃ V, V1.setCell ⟨g, i * 6 + 5, none⟩ (.int .i64 key) = V := ⟨_, rfl⟩
   rw [hV2] at hG5 hn5
   have HN5 : Hid (_) := hn5
   have HG2 : Hid (w5.grownBy V2 (some g)) := HG1.out.trans hG5
   have HGg : Hid (g ≠ B ∧ g ≠ G) := hgg
   clear hs5 hG5 hn5 hr1 hgg hggn bV m0 m1 hd1 hg1 hgn5 hng hV1 hV
   go_wp2
   refine Till.region (S := (fun Z => Z.cell? ⟨B, 0, none⟩ = some (.slice (some ⟨g, 0, none⟩) ts.length vc) ∧ Z.cell? ⟨gn, 0, none⟩ = some (.int .i64 (i : Int)) ∧ Z.cell? ⟨gn, 1, none⟩ = some (.int .i64 key))) (E := [12]) (by kernel_rfl) ?_ (fun hHeld hSh => ?_)
   ·
    exact ⟨b0, n0, n1⟩
   refine Till.take (i := 0) (o := ⟨some 122, _, _, _, _, _⟩) (v := ?vq0) (d := 30) rfl (by kernel_rfl) (by kernel_rfl) (by kernel_rfl) (by kernel_rfl) (fun _ _ _ h => h) (Or.inl ⟨by rfl, ?hyq0⟩) (by assumption) hSh (fun hSh2 => ?restq0)
   case hyq0 => (intro wq hSw; (try dsimp only at hSw); first | (go_simp; done) | (go_simp; with_reducible rfl))
   clear hSh; rename Shut11 _ _ _ => hSh
   simp only [Act.put, List.setIfInBounds_toArray, List.set_cons_zero, List.set_cons_succ]
   refine Till.take (i := 1) (o := ⟨some 123, _, _, _, _, _⟩) (v := ?vq1) (d := 30) rfl (by kernel_rfl) (by kernel_rfl) (by kernel_rfl) (by kernel_rfl) (fun _ _ _ h => h) (Or.inl ⟨by rfl, ?hyq1⟩) (by assumption) hSh (fun hSh2 => ?restq1)
   case hyq1 => (intro wq hSw; (try dsimp only at hSw); first | (go_simp; done) | (go_simp; with_reducible rfl))
   clear hSh; rename Shut11 _ _ _ => hSh
   simp only [Act.put, List.setIfInBounds_toArray, List.set_cons_zero, List.set_cons_succ]
   refine Till.take (i := 2) (o := ⟨some 124, _, _, _, _, _⟩) (v := ?vq2) (d := 30) rfl (by kernel_rfl) (by kernel_rfl) (by kernel_rfl) (by kernel_rfl) (fun _ _ _ h => h) (Or.inl ⟨by rfl, ?hyq2⟩) (by assumption) hSh (fun hSh2 => ?restq2)
   case hyq2 => (intro wq hSw; (try dsimp only at hSw); first | (go_simp; done) | (go_simp; with_reducible rfl))
   clear hSh; rename Shut11 _ _ _ => hSh
   simp only [Act.put, List.setIfInBounds_toArray, List.set_cons_zero, List.set_cons_succ]
   refine Till.take (i := 3) (o := ⟨some 125, _, _, _, _, _⟩) (v := ?vq3) (d := 30) rfl (by kernel_rfl) (by kernel_rfl) (by kernel_rfl) (by kernel_rfl) (fun _ _ _ h => h) (Or.inl ⟨by rfl, ?hyq3⟩) (by assumption) hSh (fun hSh2 => ?restq3)
   case hyq3 => (intro wq hSw; (try dsimp only at hSw); first | (go_simp; done) | (go_simp; with_reducible rfl))
   clear hSh; rename Shut11 _ _ _ => hSh
   simp only [Act.put, List.setIfInBounds_toArray, List.set_cons_zero, List.set_cons_succ]
   refine Till.take (i := 4) (o := ⟨some 126, _, _, _, _, _⟩) (v := ?vq4) (d := 30) rfl (by kernel_rfl) (by kernel_rfl) (by kernel_rfl) (by kernel_rfl) (fun _ _ _ h => h) (Or.inl ⟨by rfl, ?hyq4⟩) (by assumption) hSh (fun hSh2 => ?restq4)
   case hyq4 => (intro wq hSw; (try dsimp only at hSw); first | (go_simp; done) | (go_simp; with_reducible rfl))
   clear hSh; rename Shut11 _ _ _ => hSh
   simp only [Act.put, List.setIfInBounds_toArray, List.set_cons_zero, List.set_cons_succ]
   refine Till.take (i := 5) (o := ⟨some 127, _, _, _, _, _⟩) (v := ?vq5) (d := 30) rfl (by kernel_rfl) (by kernel_rfl) (by kernel_rfl) (by kernel_rfl) (fun _ _ _ h => h) (Or.inl ⟨by rfl, ?hyq5⟩) (by assumption) hSh (fun hSh2 => ?restq5)
   case hyq5 => (intro wq hSw; (try dsimp only at hSw); first | (go_simp; done) | (go_simp; with_reducible rfl))
   clear hSh; rename Shut11 _ _ _ => hSh
   simp only [Act.put, List.setIfInBounds_toArray, List.set_cons_zero, List.set_cons_succ]
   refine Till.take (i := 6) (o := ⟨some 128, _, _, _, _, _⟩) (v := ?vq6) (d := 30) rfl (by kernel_rfl) (by kernel_rfl) (by kernel_rfl) (by kernel_rfl) (fun _ _ _ h => h) (Or.inl ⟨by rfl, ?hyq6⟩) (by assumption) hSh (fun hSh2 => ?restq6)
   case hyq6 => (intro wq hSw; (try dsimp only at hSw); first | (go_simp; done) | (go_simp; with_reducible rfl))
   clear hSh; rename Shut11 _ _ _ => hSh
   simp only [Act.put, List.setIfInBounds_toArray, List.set_cons_zero, List.set_cons_succ]
   refine Till.take (i := 7) (o := ⟨some 129, _, _, _, _, _⟩) (v := ?vq7) (d := 30) rfl (by kernel_rfl) (by kernel_rfl) (by kernel_rfl) (by kernel_rfl) (fun _ _ _ h => h) (Or.inl ⟨by rfl, ?hyq7⟩) (by assumption) hSh (fun hSh2 => ?restq7)
   case hyq7 => (intro wq hSw; (try dsimp only at hSw); first | (go_simp; done) | (go_simp; with_reducible rfl))
   clear hSh; rename Shut11 _ _ _ => hSh
   simp only [Act.put, List.setIfInBounds_toArray, List.set_cons_zero, List.set_cons_succ]
   refine Till.take (i := 8) (o := ⟨some 130, _, _, _, _, _⟩) (v := ?vq8) (d := 30) rfl (by kernel_rfl) (by kernel_rfl) (by kernel_rfl) (by kernel_rfl) (fun _ _ _ h => h) (Or.inl ⟨by rfl, ?hyq8⟩) (by assumption) hSh (fun hSh2 => ?restq8)
   case hyq8 => (intro wq hSw; (try dsimp only at hSw); first | (go_simp; done) | (go_simp; with_reducible rfl))
   clear hSh; rename Shut11 _ _ _ => hSh
   simp only [Act.put, List.setIfInBounds_toArray, List.set_cons_zero, List.set_cons_succ]
   refine Till.take (i := 9) (o := ⟨some 131, _, _, _, _, _⟩) (v := ?vq9) (d := 30) rfl (by kernel_rfl) (by kernel_rfl) (by kernel_rfl) (by kernel_rfl) (fun _ _ _ h => h) (Or.inl ⟨by rfl, ?hyq9⟩) (by assumption) hSh (fun hSh2 => ?restq9)
   case hyq9 => (intro wq hSw; (try dsimp only at hSw); first | (go_simp; done) | (go_simp; with_reducible rfl))
   clear hSh; rename Shut11 _ _ _ => hSh
   simp only [Act.put, List.setIfInBounds_toArray, List.set_cons_zero, List.set_cons_succ]
   refine Till.take (i := 10) (o := ⟨some 132, _, _, _, _, _⟩) (v := ?vq10) (d := 30) rfl (by kernel_rfl) (by kernel_rfl) (by kernel_rfl) (by kernel_rfl) (fun _ _ _ h => h) (Or.inl ⟨by rfl, ?hyq10⟩) (by assumption) hSh (fun hSh2 => ?restq10)
   case hyq10 => (intro wq hSw; (try dsimp only at hSw); first | (go_simp; done) | (go_simp; with_reducible rfl))
   clear hSh; rename Shut11 _ _ _ => hSh
   simp only [Act.put, List.setIfInBounds_toArray, List.set_cons_zero, List.set_cons_succ]
   refine Till.take (i := 11) (o := ⟨some 133, _, _, _, _, _⟩) (v := ?vq11) (d := 30) rfl (by kernel_rfl) (by kernel_rfl) (by kernel_rfl) (by kernel_rfl) (fun _ _ _ h => h) (Or.inl ⟨by rfl, ?hyq11⟩) (by assumption) hSh (fun hSh2 => ?restq11)
   case hyq11 => (intro wq hSw; (try dsimp only at hSw); first | (go_simp; done) | (go_simp; with_reducible rfl))
   clear hSh; rename Shut11 _ _ _ => hSh
   simp only [Act.put, List.setIfInBounds_toArray, List.set_cons_zero, List.set_cons_succ]
   refine Till.last (i := 12) (by kernel_rfl) rfl (by decide) (fun K hK => ?_)
   go_simp
   refine hK.out _ _ ?_
   clear hK K
   (try rw [hV2])
   refine Till.done (by kernel_rfl) ?_ _
   go_wp2
   go_ret
   have hgF : w5.grownBy V2.drew (some g) := HG2.out.trans ⟨rfl, rfl, rfl, Nat.le_refl _, fun _ _ _ => rfl⟩
   have hrF : V2.drew.ownsRow base 46 6 (.slice (some ⟨g, 0, none⟩) ts.length vc) ts.length (((tksV xs).set (i * 6 + 2) (.int .i64 2)).set (i * 6 + 5) (.int .i64 key)) := own_below HN5.out ⟨rfl, rfl, rfl, Nat.le_refl _, fun _ _ => rfl⟩
   obtain ⟨hix, hxi⟩ := HTV.out
   rw [tksV_set25 xs i hix, hxi] at hrF
   simp only at hrF
   have hoff : ∀ k, TkBlocks (.slice (some ⟨g, 0, none⟩) ts.length vc) (xs.set i ((nm, ns, 2, wk, un, key), na, nc)) k → TkBlocks (.slice (some ⟨g, 0, none⟩) ts.length vc) xs k := by
    rintro k (e | ⟨y, hy, e⟩)
    ·
     exact Or.inl e
    ·
     rcases List.mem_or_eq_of_mem_set hy with h | h
     ·
      exact Or.inr ⟨y, h, e⟩
     ·
      subst h
      exact Or.inr ⟨xs[i], List.getElem_mem hix, by rw [hxi]; exact e⟩
   refine Or.inl ⟨_, _, HE.out, rfl, xs.set i ((nm, ns, 2, wk, un, key), na, nc), ?_, (HO.out w5 HB5.out).put hix _ hgF (by rw [HX.out.2.2]; exact hrF) (by rw [hxi]) (by rw [hxi]), apart_set hix _ (by rw [hxi]) (by rw [hxi]) HX.out.2.1, (HGx.out w5 HB5.out).grown hgF (by intro e; injection e with e; exact HGg.out.2 e.symm), (WroteR.of_below HB5.out).trans (WroteR.of_grown hgF (fun k e => Or.inl e)), hoff⟩
   rw [List.map_set, HX.out.1, done18_open HIdl.out]

end Go.Proofs.Ytaioedcaopbgkaa
