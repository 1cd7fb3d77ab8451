/-
  Parts of one proof, one behind the other: NeedS2.
-/
import Derived.Test.YtogobeegibngiaaGreatDoorP9
import Derived.Test.YtogobeegibngiaaGreatDoorP6
import Derived.BigQuiet
import Derived.Deep.RegionHeld
import Derived.Deep.Cut

/-! The contract of chapter 12's specification: how many registers a part of a tree takes. -/
namespace Go.Proofs.YtogobeegibngiaaGreatDoor
open Go.RowKit

set_option maxHeartbeats 8000000 in
set_option maxRecDepth 100000 in
theorem specNeed3 (B : World) (ta : Option Addr) (tc : Nat) (t : List Nd) (oa : Option Addr) (oc : Nat) (os : List Int) (hin : NodesIn B ta t.length t) (hos : AsIn B oa os) (hol : os = [] ∨ os.length = t.length) (hsh : ShortT t) (hgood : Good10 t) (hlen : t.length ≤ 60) (d : Nat) (ih : Nee12 B ta tc t oa oc os d) (w : World) (a : Nat) (hB : Below B.heap.size B w) (hp : 0 ≤ endV t (a : Int)) (hd : t.length ≤ a + (d + 1)) (hkd : (t.getD a nd0).1 = 3) :
    Calls Tryz.prog 110 #[.slice ta t.length tc, .int .i64 (a : Int), .slice oa os.length oc] w fun e w' => e = .returned (.int .i64 (need12 (d + 1) t os (a : Int))) ∧ Below w.heap.size w w' := by
  obtain ⟨hal, _, _, _, _⟩ := end_parts hp
  have hmem : t.getD a nd0 ∈ t := by simp [List.getD, hal]
  have hnb := hgood _ hmem
  have HPl : Hid (∀ i, i < kidsN (t.getD a nd0) → ∃ q : Nat, (pts10 t (a : Int)).getD i 0 = (q : Int) ∧ a < q ∧ 0 ≤ endV t (q : Int)) := fun i hi => need_place hp hi
  have hpl := pts_len t a
  obtain ⟨n, hn⟩ : ∃ n, t.getD a nd0 = n := ⟨_, rfl⟩
  obtain ⟨bt, ot, rfl, hbt, q0, q1, q2, q3⟩ := (hin.below hB).2 a hal
  have hkk := kidsV_ok hnb
  have hr : need12 (d + 1) t os (a : Int) = mk12 (ord12 os (a : Int)) (t.getD a nd0) ((pts10 t (a : Int)).map (need12 d t os)) := by rw [need12, Int.toNat_natCast]
  rw [hr]
  rw [hn] at q0 q1 q2 q3 HPl hpl hkk hkd ⊢
  obtain ⟨kd, nA, np, nf⟩ := n
  simp only at hkd
  subst hkd
  simp only at q0 q1 q2 q3
  obtain ⟨⟨n0, n1, n2, n3⟩, hbg⟩ := node_new12 w (.int .i64 3) (.int .i64 nA) (.string ⟨np.toArray⟩) (.string ⟨nf.toArray⟩) 91
  obtain ⟨X, hX⟩ : ∃ X, w.alloc (.cells #[.int .i64 3, .int .i64 nA, .string ⟨np.toArray⟩, .string ⟨nf.toArray⟩] 91) = X := ⟨_, rfl⟩
  obtain ⟨N, hN⟩ : ∃ N, w.heap.size = N := ⟨_, rfl⟩
  rw [hX] at n0 n1 n2 n3 hbg
  rw [hN] at n0 n1 n2 n3
  have hNX : N < X.heap.size := World.block_lt_of_cell? X ⟨N, 0, none⟩ n0
  have hBX : Below B.heap.size B X := hB.trans (hbg.mono hB.size)
  have HPt : Hid (_) := specParts (some ⟨bt, ot, none⟩) tc t a X (hin.below hBX) hsh (by omega) hal (by rw [hn]; exact hn ▸ hnb)
  rw [hn] at HPt
  have HPe : Hid (partsGo t (kidsN (3, nA, np, nf)) ((a : Int) + 1) = pts10 t (a : Int)) := by
    exact (by unfold pts10; rw [Int.toNat_natCast, hn] : partsGo t (kidsN (3, nA, np, nf)) ((a : Int) + 1) = pts10 t (a : Int))
  rw [HPe.out] at HPt
  obtain ⟨k, hk⟩ : ∃ k, kidsN (3, nA, np, nf) = k := ⟨_, rfl⟩
  have HK : Hid (kidsN (3, nA, np, nf) = k) := hk
  rw [hk] at HPt HPl hpl hkk
  have HIh : Hid (∀ Y i, i < k → Below X.heap.size X Y → Calls Tryz.prog 110 #[.slice (some ⟨bt, ot, none⟩) t.length tc, .int .i64 ((pts10 t (a : Int)).getD i 0), .slice oa os.length oc] Y fun e w' => e = .returned (.int .i64 (((pts10 t (a : Int)).map (need12 d t os)).getD i 0)) ∧ Below Y.heap.size Y w') := fun Y i hi hy => by
    obtain ⟨q, e, hq, hqe⟩ := HPl.out i hi
    rw [map_getD12 (by omega), e]
    exact ih Y q (hBX.trans (hy.mono hBX.size)) hqe (by omega)
  have HLn : Hid (∀ i, i < k → 1 ≤ ((pts10 t (a : Int)).map (need12 d t os)).getD i 0 ∧ ((pts10 t (a : Int)).map (need12 d t os)).getD i 0 ≤ 60) := fun i hi => by
    obtain ⟨q, e, hq, hqe⟩ := HPl.out i hi
    rw [map_getD12 (by omega), e]
    exact need_at hqe (by omega) hlen
  obtain ⟨rs, hrs⟩ : ∃ rs, (pts10 t (a : Int)).map (need12 d t os) = rs := ⟨_, rfl⟩
  have HRl : Hid (rs.length = k) := by exact (by rw [← hrs, List.length_map, hpl] : rs.length = k)
  rw [hrs] at HIh HLn ⊢
  have HBX : Hid (Below w.heap.size w X) := hbg
  generalize pts10 t (a : Int) = pts at HPt HIh hpl
  have HN : Hid (∀ Y, Below X.heap.size X Y → Y.cell? ⟨N, 0, none⟩ = some (.int .i64 3)) := fun Y hy => (hy.cell (p := ⟨N, 0, none⟩) hNX).trans n0
  have HOs : Hid (∀ Y, Below X.heap.size X Y → AsIn Y oa os) := fun Y hy => hos.below (hBX.trans (hy.mono hBX.size))
  have hal2 : (a : Int) < (t.length : Int) := by omega
  have hk3 : k ≤ 3 := hkk.2
  obtain ⟨res, hres⟩ : ∃ r, mk12 (ord12 os (a : Int)) (3, nA, np, nf) rs = r := ⟨_, rfl⟩
  have HRs : Hid (mk12 (ord12 os (a : Int)) (3, nA, np, nf) rs = res) := hres
  rw [hres]
  clear ih hmem hnb HPl HPe hr hn hkk hbg hBX hrs hal n0 n1 n2 n3 hbt hB hp hk hos hres
  go_enter Tryz.func110, Tryz.ntmps110
  go_wp2_with fail
  refine Calls.mono HPt.out ?_
  rintro e V ⟨v, rfl, ho, hb2⟩
  obtain rfl : pts.length = k := hpl
  obtain ⟨pa, pc, rfl, hpV⟩ := own_as ho
  have HAs : Hid (∀ Y, Below V.heap.size V Y → AsIn Y pa pts) := fun Y hy => hpV.below hy
  have HXV : Hid (Below X.heap.size X V) := hb2
  have hbA : Below V.heap.size V (V.alloc (.cells #[] 2)) := (Below.refl _ _).alloc (Nat.le_refl _) _
  have hP0 : (V.alloc (.cells #[] 2)).ownsRow V.heap.size 2 1 (.slice (some ⟨V.heap.size, 0, none⟩) 0 0) 0 [] := World.ownsRow_lit (base := V.heap.size) (e := 2) (size := 1) V #[] 0 (Nat.le_refl _) (by decide) rfl
  obtain ⟨V1, hV1⟩ : ∃ V1, V.alloc (.cells #[] 2) = V1 := ⟨_, rfl⟩
  rw [hV1] at hbA hP0
  obtain ⟨B1, hB1⟩ : ∃ B1, V.heap.size = B1 := ⟨_, rfl⟩
  rw [hB1] at hP0
  have HP2 : Hid (V1.ownsRow B1 2 1 (.slice (some ⟨B1, 0, none⟩) 0 0) 0 (intsV (rs.take 0))) := hP0
  have HB2 : Hid (Below V.heap.size V V1) := hbA
  clear hbA hP0 hpV ho hb2 HPt
  go_wp2
  go_loopw [9, 10] (fun kv iv wx => ∃ i : Nat, iv = .int .i64 (i : Int) ∧ i ≤ pts.length ∧ Hid (wx.ownsRow B1 2 1 kv i (intsV (rs.take i))) ∧ Hid (Below V.heap.size V wx)) (fun _ iv _ => pts.length - (intOf iv).toNat)
  case atStart => exact ⟨0, rfl, Nat.zero_le _, HP2, HB2⟩
  case round =>
    obtain ⟨i, rfl, hi, HP, HBw⟩ := hrel
    clear HP2 HB2
    by_cases hlt : (i : Int) < (pts.length : Int)
    · have hi2 : i < pts.length := by omega
      obtain ⟨bp, op, rfl, _, p0⟩ := HAs.out wr HBw.out i hi2
      have HC : Hid (_) := HIh.out wr i hi2 (HXV.out.trans (HBw.out.mono HXV.out.size))
      obtain ⟨x, hx⟩ : ∃ x, rs.getD i 0 = x := ⟨_, rfl⟩
      have htk : rs.take (i + 1) = rs.take i ++ [x] := by
        have hil : i < rs.length := by rw [HRl.out]; exact hi2
        rw [List.take_succ_eq_append_getElem hil, ← hx]
        simp [List.getD, hil]
      have HTk : Hid (rs.take (i + 1) = rs.take i ++ [x]) := htk
      rw [hx] at HC
      have hB1w : B1 ≤ wr.heap.size := by rw [← hB1]; exact HBw.out.size
      generalize pts.getD i 0 = P0 at p0 HC
      clear hx htk
      go_wp2_with fail
      refine Calls.mono HC.out ?_
      rintro e Y0 ⟨rfl, hb0⟩
      have hp0 := own_below HP.out hb0
      obtain ⟨p', Y1, hr1, hp1, hg1⟩ := push_int12 x hp0 (Nat.le_trans hB1w hb0.size) (by omega)
      rw [← HTk.out] at hp1
      have HP3 : Hid (Y1.ownsRow B1 2 1 p' (i + 1) (intsV (rs.take (i + 1)))) := hp1
      have HB3 : Hid (Below V.heap.size V Y1) := by
        have h1 := HBw.out.trans (hb0.mono HBw.out.size)
        exact h1.grown hg1 h1.size (fun k e => by have := (hp0.lt k e).1; omega)
      clear hp0 hp1 hg1 hb0 HC HP p0
      go_wp2_with (at_builtin; refine wpList_append_run rfl (.tmp 27) (.tmp 35) 102 rfl _ _ _ rfl rfl hr1 ?_; clear hr1)
      go_roundw
      case rel => exact ⟨i + 1, by go_num, by omega, HP3, HB3⟩
      case measure => simp [intOf]; omega
    · have HIe : Hid (i = pts.length) := by exact (by omega : i = pts.length)
      have htk : rs.take i = rs := List.take_of_length_le (by rw [HRl.out, HIe.out]; exact Nat.le_refl _)
      have har := HP.out
      rw [htk] at har
      have hrl : i = rs.length := by rw [HRl.out, HIe.out]
      subst hrl
      have HAr : Hid (wr.ownsRow B1 2 1 _ rs.length (intsV rs)) := har
      have HFin : Hid (∀ Y, Below wr.heap.size wr Y → Below N w Y) := fun Y hy => by
        rw [← hN]
        have h1 := HBX.out.trans (HXV.out.mono HBX.out.size)
        have h2 := h1.trans (HBw.out.mono h1.size)
        exact h2.trans (hy.mono h2.size)
      have nn0 := HN.out wr (HXV.out.trans (HBw.out.mono HXV.out.size))
      have HOw : Hid (AsIn wr oa os) := HOs.out wr (HXV.out.trans (HBw.out.mono HXV.out.size))
      have hrk : rs.length = pts.length := HIe.out
      clear htk har HP HIh HOs HN HBw
      have hk2 : pts.length = 2 := by rw [← HK.out]; rfl
      obtain ⟨gk, ck, rfl⟩ := own_some HAr.out (by omega)
      have r0 : wr.cell? ⟨gk, 0, none⟩ = some (.int .i64 (rs.getD 0 0)) := ints_cell HAr.out 0 (by omega)
      have r1 : wr.cell? ⟨gk, 1, none⟩ = some (.int .i64 (rs.getD 1 0)) := ints_cell HAr.out 1 (by omega)
      obtain ⟨hx0, hx1⟩ := HLn.out 0 (by omega)
      obtain ⟨hy0, hy1⟩ := HLn.out 1 (by omega)
      have hl2 : (2 : Int) = (rs.length : Int) := by omega
      have hl0 : (0 : Int) < (rs.length : Int) := by omega
      have hl1 : (1 : Int) < (rs.length : Int) := by omega
      have HRp : Hid (pair12 (ord12 os (a : Int)) (rs.getD 0 0) (rs.getD 1 0) = res) := by
        exact (by have h := HRs.out; unfold mk12 at h; rw [if_pos ⟨by simp, by simp⟩] at h; exact h : pair12 (ord12 os (a : Int)) (rs.getD 0 0) (rs.getD 1 0) = res)
      generalize rs.getD 0 0 = x at r0 hx0 hx1 HRp
      generalize rs.getD 1 0 = y at r1 hy0 hy1 HRp
      clear HRs HAr HLn HRl HK HIe hk2 hrk
      rcases hol with rfl | hol
      · have HE : Hid ((if x = y then x + 1 else max x y) = res) := HRp.out
        have hz : ((([] : List Int).length : Int) == 0) = true := rfl
        simp only [List.length_nil]
        by_cases hxy : x = y
        · subst hxy
          have HF : Hid (x + 1 = res) := by exact (by rw [← HE.out, if_pos rfl] : x + 1 = res)
          have hxx : (x == x) = true := by simp
          clear HE HRp
          go_upto_region 13 with fail
          go_quiet (fail)
          go_wp2
          go_ret
          exact ⟨by rw [← HF.out]; rfl, by first | exact HFin.out _ (Below.refl _ _) | (refine HFin.out _ ?_; exact ⟨rfl, rfl, rfl, Nat.le_refl _, fun _ _ => rfl⟩)⟩
        · have hxb : (x == y) = false := beq_eq_false_iff_ne.2 hxy
          have HF : Hid (max x y = res) := by exact (by rw [← HE.out, if_neg hxy] : max x y = res)
          clear HE HRp hxy
          go_upto_region 13 with fail
          go_quiet (fail)
          go_upto_region 16 with fail
          generalize hwq : wr.drewN _ = wq
          have s0 : wq.cell? ⟨gk, 0, none⟩ = some (.int .i64 x) := by rw [← hwq]; exact r0
          have s1 : wq.cell? ⟨gk, 1, none⟩ = some (.int .i64 y) := by rw [← hwq]; exact r1
          have HFq : Hid (∀ Y, Below wq.heap.size wq Y → Below N w Y) := fun Y hy => HFin.out Y (by rw [← hwq] at hy; exact ⟨hy.os, hy.tape, hy.output, hy.size, hy.block⟩)
          clear hwq r0 r1
          replace HFin := HFq
          go_quiet (first | (go_at_call 132; exact Calls.quiet_of_same (specMax12 _ _ _)))
          go_wp2
          go_ret
          exact ⟨by rw [← HF.out]; rfl, by first | exact HFin.out _ (Below.refl _ _) | (refine HFin.out _ ?_; exact ⟨rfl, rfl, rfl, Nat.le_refl _, fun _ _ => rfl⟩)⟩
      · have hz : ((os.length : Int) == 0) = false := beq_eq_false_iff_ne.2 (by omega)
        have hoa : a < os.length := by omega
        have hoa2 : (a : Int) < (os.length : Int) := by omega
        obtain ⟨ob, oo, rfl, _, c5⟩ := HOw.out a hoa
        have HE : Hid ((if os.getD a 0 = 0 then max x (y + 1) else max y (x + 1)) = res) := by
          have ho : ord12 os (a : Int) = some (os.getD a 0) := by unfold ord12; rw [if_neg (fun e => by rw [e] at hoa; simp at hoa), Int.toNat_natCast]
          exact (by rw [← HRp.out, ho]; rfl : (if os.getD a 0 = 0 then max x (y + 1) else max y (x + 1)) = res)
        generalize os.getD a 0 = ov at c5 HE
        have hzn : ¬ os.length = 0 := by omega
        clear hol
        generalize os.length = ol at hz hoa2 hzn ⊢
        have hzd : decide (ol = 0) = false := decide_eq_false hzn
        have hzb : (ol == 0) = false := beq_eq_false_iff_ne.2 hzn
        clear HRp HOw hoa
        by_cases hov : ov = 0
        · have HF : Hid (max x (y + 1) = res) := by exact (by rw [← HE.out, if_pos hov] : max x (y + 1) = res)
          subst hov
          clear HE
          go_upto_region 13 with fail
          refine wp_region_held_drew (S := (fun _ => True)) (by kernel_rfl) ?_ (fun hHeld => ?_)
          · first | (dsimp only; done) | (dsimp only; go_keep) | go_keep
          refine wpAnyH_take (i := 0) (oi := ⟨some 45, _, _, _, _, _⟩) (v := ?vu0) rfl (by kernel_rfl) (by kernel_rfl) (by kernel_rfl) (fun _ _ _ h => h) (Or.inl ⟨by rfl, ?hyu0⟩) (by assumption) ?restu0
          case hyu0 => (intro wq hSw; (try dsimp only at hSw); first | (go_simp; done) | (go_simp; with_reducible rfl))
          simp only [Act.put, List.setIfInBounds_toArray, List.set_cons_zero, List.set_cons_succ]
          refine wpAnyH_take (i := 1) (oi := ⟨some 46, _, _, _, _, _⟩) (v := ?vu1) rfl (by kernel_rfl) (by kernel_rfl) (by kernel_rfl) (fun _ _ _ h => h) (Or.inl ⟨by rfl, ?hyu1⟩) (by assumption) ?restu1
          case hyu1 => (intro wq hSw; (try dsimp only at hSw); first | (go_simp; done) | (go_simp; with_reducible rfl))
          simp only [Act.put, List.setIfInBounds_toArray, List.set_cons_zero, List.set_cons_succ]
          refine wpAnyH_take (i := 2) (oi := ⟨some 47, _, _, _, _, _⟩) (v := ?vu2) rfl (by kernel_rfl) (by kernel_rfl) (by kernel_rfl) (fun _ _ _ h => h) (Or.inl ⟨by rfl, ?hyu2⟩) (by assumption) ?restu2
          case hyu2 => (intro wq hSw; (try dsimp only at hSw); first | (go_simp; done) | (go_simp; with_reducible rfl))
          simp only [Act.put, List.setIfInBounds_toArray, List.set_cons_zero, List.set_cons_succ]
          refine wpAnyH_take (i := 3) (oi := ⟨some 48, _, _, _, _, _⟩) (v := ?vu3) rfl (by kernel_rfl) (by kernel_rfl) (by kernel_rfl) (fun _ _ _ h => h) (Or.inl ⟨by rfl, ?hyu3⟩) (by assumption) ?restu3
          case hyu3 => (intro wq hSw; (try dsimp only at hSw); first | (go_simp; done) | (go_simp; with_reducible rfl))
          simp only [Act.put, List.setIfInBounds_toArray, List.set_cons_zero, List.set_cons_succ]
          refine wpAnyH_take (i := 4) (oi := ⟨some 49, _, _, _, _, _⟩) (v := undef) rfl (by kernel_rfl) (by kernel_rfl) (by kernel_rfl) (fun _ _ _ h => h) (Or.inr ⟨by rfl, rfl⟩) (by assumption) ?_
          simp only [Act.put, List.setIfInBounds_toArray, List.set_cons_zero, List.set_cons_succ]
          refine wpAnyH_take (i := 5) (oi := ⟨some 50, _, _, _, _, _⟩) (v := undef) rfl (by kernel_rfl) (by kernel_rfl) (by kernel_rfl) (fun _ _ _ h => h) (Or.inr ⟨by rfl, rfl⟩) (by assumption) ?_
          simp only [Act.put, List.setIfInBounds_toArray, List.set_cons_zero, List.set_cons_succ]
          refine wpAnyH_take (i := 6) (oi := ⟨some 51, _, _, _, _, _⟩) (v := undef) rfl (by kernel_rfl) (by kernel_rfl) (by kernel_rfl) (fun _ _ _ h => h) (Or.inr ⟨by rfl, rfl⟩) (by assumption) ?_
          simp only [Act.put, List.setIfInBounds_toArray, List.set_cons_zero, List.set_cons_succ]
          refine wpAnyH_take (i := 7) (oi := ⟨some 52, _, _, _, _, _⟩) (v := undef) rfl (by kernel_rfl) (by kernel_rfl) (by kernel_rfl) (fun _ _ _ h => h) (Or.inr ⟨by rfl, rfl⟩) (by assumption) ?_
          simp only [Act.put, List.setIfInBounds_toArray, List.set_cons_zero, List.set_cons_succ]
          refine wpAnyH_take (i := 8) (oi := ⟨some 53, _, _, _, _, _⟩) (v := undef) rfl (by kernel_rfl) (by kernel_rfl) (by kernel_rfl) (fun _ _ _ h => h) (Or.inr ⟨by rfl, rfl⟩) (by assumption) ?_
          simp only [Act.put, List.setIfInBounds_toArray, List.set_cons_zero, List.set_cons_succ]
          refine wpAnyH_take (i := 9) (oi := ⟨some 54, _, _, _, _, _⟩) (v := undef) rfl (by kernel_rfl) (by kernel_rfl) (by kernel_rfl) (fun _ _ _ h => h) (Or.inr ⟨by rfl, rfl⟩) (by assumption) ?_
          simp only [Act.put, List.setIfInBounds_toArray, List.set_cons_zero, List.set_cons_succ]
          refine wpAnyH_take (i := 10) (oi := ⟨some 55, _, _, _, _, _⟩) (v := undef) rfl (by kernel_rfl) (by kernel_rfl) (by kernel_rfl) (fun _ _ _ h => h) (Or.inr ⟨by rfl, rfl⟩) (by assumption) ?_
          simp only [Act.put, List.setIfInBounds_toArray, List.set_cons_zero, List.set_cons_succ]
          refine wpAnyH_take (i := 11) (oi := ⟨some 56, _, _, _, _, _⟩) (v := ?vu11) rfl (by kernel_rfl) (by kernel_rfl) (by kernel_rfl) (fun _ _ _ h => h) (Or.inl ⟨by rfl, ?hyu11⟩) (by assumption) ?restu11
          case hyu11 => (intro wq hSw; (try dsimp only at hSw); first | (go_simp; done) | (go_simp; with_reducible rfl))
          simp only [Act.put, List.setIfInBounds_toArray, List.set_cons_zero, List.set_cons_succ]
          refine wpAnyH_take (i := 12) (oi := ⟨some 44, _, _, _, _, _⟩) (v := ?vu12) rfl (by kernel_rfl) (by kernel_rfl) (by kernel_rfl) (fun _ _ _ h => h) (Or.inl ⟨by rfl, ?hyu12⟩) (by assumption) ?restu12
          case hyu12 => (intro wq hSw; (try dsimp only at hSw); first | (go_simp; done) | (go_simp; with_reducible rfl))
          simp only [Act.put, List.setIfInBounds_toArray, List.set_cons_zero, List.set_cons_succ]
          refine wpAnyH_done (by kernel_rfl) ?_ _
          go_upto_region 18 with fail
          generalize hwq : wr.drew = wq
          have s0 : wq.cell? ⟨gk, 0, none⟩ = some (.int .i64 x) := by rw [← hwq]; exact r0
          have s1 : wq.cell? ⟨gk, 1, none⟩ = some (.int .i64 y) := by rw [← hwq]; exact r1
          have HFq : Hid (∀ Y, Below wq.heap.size wq Y → Below N w Y) := fun Y hy => HFin.out Y (by rw [← hwq] at hy; exact ⟨hy.os, hy.tape, hy.output, hy.size, hy.block⟩)
          clear hwq r0 r1
          replace HFin := HFq
          go_quiet (first | (go_at_call 132; exact Calls.quiet_of_same (specMax12 _ _ _)))
          go_wp2
          go_ret
          exact ⟨by rw [← HF.out]; rfl, by first | exact HFin.out _ (Below.refl _ _) | (refine HFin.out _ ?_; exact ⟨rfl, rfl, rfl, Nat.le_refl _, fun _ _ => rfl⟩)⟩
        · have hob : (ov == 0) = false := beq_eq_false_iff_ne.2 hov
          have HF : Hid (max y (x + 1) = res) := by exact (by rw [← HE.out, if_neg hov] : max y (x + 1) = res)
          clear HE hov
          go_upto_region 13 with fail
          refine wp_region_held_drew (S := (fun _ => True)) (by kernel_rfl) ?_ (fun hHeld => ?_)
          · first | (dsimp only; done) | (dsimp only; go_keep) | go_keep
          refine wpAnyH_take (i := 0) (oi := ⟨some 45, _, _, _, _, _⟩) (v := ?vv0) rfl (by kernel_rfl) (by kernel_rfl) (by kernel_rfl) (fun _ _ _ h => h) (Or.inl ⟨by rfl, ?hyv0⟩) (by assumption) ?restv0
          case hyv0 => (intro wq hSw; (try dsimp only at hSw); first | (go_simp; done) | (go_simp; with_reducible rfl))
          simp only [Act.put, List.setIfInBounds_toArray, List.set_cons_zero, List.set_cons_succ]
          refine wpAnyH_take (i := 1) (oi := ⟨some 46, _, _, _, _, _⟩) (v := ?vv1) rfl (by kernel_rfl) (by kernel_rfl) (by kernel_rfl) (fun _ _ _ h => h) (Or.inl ⟨by rfl, ?hyv1⟩) (by assumption) ?restv1
          case hyv1 => (intro wq hSw; (try dsimp only at hSw); first | (go_simp; done) | (go_simp; with_reducible rfl))
          simp only [Act.put, List.setIfInBounds_toArray, List.set_cons_zero, List.set_cons_succ]
          refine wpAnyH_take (i := 2) (oi := ⟨some 47, _, _, _, _, _⟩) (v := ?vv2) rfl (by kernel_rfl) (by kernel_rfl) (by kernel_rfl) (fun _ _ _ h => h) (Or.inl ⟨by rfl, ?hyv2⟩) (by assumption) ?restv2
          case hyv2 => (intro wq hSw; (try dsimp only at hSw); first | (go_simp; done) | (go_simp; with_reducible rfl))
          simp only [Act.put, List.setIfInBounds_toArray, List.set_cons_zero, List.set_cons_succ]
          refine wpAnyH_take (i := 3) (oi := ⟨some 48, _, _, _, _, _⟩) (v := ?vv3) rfl (by kernel_rfl) (by kernel_rfl) (by kernel_rfl) (fun _ _ _ h => h) (Or.inl ⟨by rfl, ?hyv3⟩) (by assumption) ?restv3
          case hyv3 => (intro wq hSw; (try dsimp only at hSw); first | (go_simp; done) | (go_simp; with_reducible rfl))
          simp only [Act.put, List.setIfInBounds_toArray, List.set_cons_zero, List.set_cons_succ]
          refine wpAnyH_take (i := 4) (oi := ⟨some 49, _, _, _, _, _⟩) (v := undef) rfl (by kernel_rfl) (by kernel_rfl) (by kernel_rfl) (fun _ _ _ h => h) (Or.inr ⟨by rfl, rfl⟩) (by assumption) ?_
          simp only [Act.put, List.setIfInBounds_toArray, List.set_cons_zero, List.set_cons_succ]
          refine wpAnyH_take (i := 5) (oi := ⟨some 50, _, _, _, _, _⟩) (v := undef) rfl (by kernel_rfl) (by kernel_rfl) (by kernel_rfl) (fun _ _ _ h => h) (Or.inr ⟨by rfl, rfl⟩) (by assumption) ?_
          simp only [Act.put, List.setIfInBounds_toArray, List.set_cons_zero, List.set_cons_succ]
          refine wpAnyH_take (i := 6) (oi := ⟨some 51, _, _, _, _, _⟩) (v := undef) rfl (by kernel_rfl) (by kernel_rfl) (by kernel_rfl) (fun _ _ _ h => h) (Or.inr ⟨by rfl, rfl⟩) (by assumption) ?_
          simp only [Act.put, List.setIfInBounds_toArray, List.set_cons_zero, List.set_cons_succ]
          refine wpAnyH_take (i := 7) (oi := ⟨some 52, _, _, _, _, _⟩) (v := undef) rfl (by kernel_rfl) (by kernel_rfl) (by kernel_rfl) (fun _ _ _ h => h) (Or.inr ⟨by rfl, rfl⟩) (by assumption) ?_
          simp only [Act.put, List.setIfInBounds_toArray, List.set_cons_zero, List.set_cons_succ]
          refine wpAnyH_take (i := 8) (oi := ⟨some 53, _, _, _, _, _⟩) (v := undef) rfl (by kernel_rfl) (by kernel_rfl) (by kernel_rfl) (fun _ _ _ h => h) (Or.inr ⟨by rfl, rfl⟩) (by assumption) ?_
          simp only [Act.put, List.setIfInBounds_toArray, List.set_cons_zero, List.set_cons_succ]
          refine wpAnyH_take (i := 9) (oi := ⟨some 54, _, _, _, _, _⟩) (v := undef) rfl (by kernel_rfl) (by kernel_rfl) (by kernel_rfl) (fun _ _ _ h => h) (Or.inr ⟨by rfl, rfl⟩) (by assumption) ?_
          simp only [Act.put, List.setIfInBounds_toArray, List.set_cons_zero, List.set_cons_succ]
          refine wpAnyH_take (i := 10) (oi := ⟨some 55, _, _, _, _, _⟩) (v := undef) rfl (by kernel_rfl) (by kernel_rfl) (by kernel_rfl) (fun _ _ _ h => h) (Or.inr ⟨by rfl, rfl⟩) (by assumption) ?_
          simp only [Act.put, List.setIfInBounds_toArray, List.set_cons_zero, List.set_cons_succ]
          refine wpAnyH_take (i := 11) (oi := ⟨some 56, _, _, _, _, _⟩) (v := ?vv11) rfl (by kernel_rfl) (by kernel_rfl) (by kernel_rfl) (fun _ _ _ h => h) (Or.inl ⟨by rfl, ?hyv11⟩) (by assumption) ?restv11
          case hyv11 => (intro wq hSw; (try dsimp only at hSw); first | (go_simp; done) | (go_simp; with_reducible rfl))
          simp only [Act.put, List.setIfInBounds_toArray, List.set_cons_zero, List.set_cons_succ]
          refine wpAnyH_take (i := 12) (oi := ⟨some 44, _, _, _, _, _⟩) (v := ?vv12) rfl (by kernel_rfl) (by kernel_rfl) (by kernel_rfl) (fun _ _ _ h => h) (Or.inl ⟨by rfl, ?hyv12⟩) (by assumption) ?restv12
          case hyv12 => (intro wq hSw; (try dsimp only at hSw); first | (go_simp; done) | (go_simp; with_reducible rfl))
          simp only [Act.put, List.setIfInBounds_toArray, List.set_cons_zero, List.set_cons_succ]
          refine wpAnyH_done (by kernel_rfl) ?_ _
          go_upto_region 19 with fail
          generalize hwq : wr.drew = wq
          have s0 : wq.cell? ⟨gk, 0, none⟩ = some (.int .i64 x) := by rw [← hwq]; exact r0
          have s1 : wq.cell? ⟨gk, 1, none⟩ = some (.int .i64 y) := by rw [← hwq]; exact r1
          have HFq : Hid (∀ Y, Below wq.heap.size wq Y → Below N w Y) := fun Y hy => HFin.out Y (by rw [← hwq] at hy; exact ⟨hy.os, hy.tape, hy.output, hy.size, hy.block⟩)
          clear hwq r0 r1
          replace HFin := HFq
          go_quiet (first | (go_at_call 132; exact Calls.quiet_of_same (specMax12 _ _ _)))
          go_wp2
          go_ret
          exact ⟨by rw [← HF.out]; rfl, by first | exact HFin.out _ (Below.refl _ _) | (refine HFin.out _ ?_; exact ⟨rfl, rfl, rfl, Nat.le_refl _, fun _ _ => rfl⟩)⟩
set_option maxHeartbeats 8000000 in
set_option maxRecDepth 100000 in
theorem specNeed4 (B : World) (ta : Option Addr) (tc : Nat) (t : List Nd) (oa : Option Addr) (oc : Nat) (os : List Int) (hin : NodesIn B ta t.length t) (hos : AsIn B oa os) (hol : os = [] ∨ os.length = t.length) (hsh : ShortT t) (hgood : Good10 t) (hlen : t.length ≤ 60) (d : Nat) (ih : Nee12 B ta tc t oa oc os d) (w : World) (a : Nat) (hB : Below B.heap.size B w) (hp : 0 ≤ endV t (a : Int)) (hd : t.length ≤ a + (d + 1)) (hkd : (t.getD a nd0).1 = 4) :
    Calls Tryz.prog 110 #[.slice ta t.length tc, .int .i64 (a : Int), .slice oa os.length oc] w fun e w' => e = .returned (.int .i64 (need12 (d + 1) t os (a : Int))) ∧ Below w.heap.size w w' := by
  obtain ⟨hal, _, _, _, _⟩ := end_parts hp
  have hmem : t.getD a nd0 ∈ t := by simp [List.getD, hal]
  have hnb := hgood _ hmem
  have HPl : Hid (∀ i, i < kidsN (t.getD a nd0) → ∃ q : Nat, (pts10 t (a : Int)).getD i 0 = (q : Int) ∧ a < q ∧ 0 ≤ endV t (q : Int)) := fun i hi => need_place hp hi
  have hpl := pts_len t a
  obtain ⟨n, hn⟩ : ∃ n, t.getD a nd0 = n := ⟨_, rfl⟩
  obtain ⟨bt, ot, rfl, hbt, q0, q1, q2, q3⟩ := (hin.below hB).2 a hal
  have hkk := kidsV_ok hnb
  have hr : need12 (d + 1) t os (a : Int) = mk12 (ord12 os (a : Int)) (t.getD a nd0) ((pts10 t (a : Int)).map (need12 d t os)) := by rw [need12, Int.toNat_natCast]
  rw [hr]
  rw [hn] at q0 q1 q2 q3 HPl hpl hkk hkd ⊢
  obtain ⟨kd, nA, np, nf⟩ := n
  simp only at hkd
  subst hkd
  simp only at q0 q1 q2 q3
  obtain ⟨⟨n0, n1, n2, n3⟩, hbg⟩ := node_new12 w (.int .i64 4) (.int .i64 nA) (.string ⟨np.toArray⟩) (.string ⟨nf.toArray⟩) 91
  obtain ⟨X, hX⟩ : ∃ X, w.alloc (.cells #[.int .i64 4, .int .i64 nA, .string ⟨np.toArray⟩, .string ⟨nf.toArray⟩] 91) = X := ⟨_, rfl⟩
  obtain ⟨N, hN⟩ : ∃ N, w.heap.size = N := ⟨_, rfl⟩
  rw [hX] at n0 n1 n2 n3 hbg
  rw [hN] at n0 n1 n2 n3
  have hNX : N < X.heap.size := World.block_lt_of_cell? X ⟨N, 0, none⟩ n0
  have hBX : Below B.heap.size B X := hB.trans (hbg.mono hB.size)
  have HPt : Hid (_) := specParts (some ⟨bt, ot, none⟩) tc t a X (hin.below hBX) hsh (by omega) hal (by rw [hn]; exact hn ▸ hnb)
  rw [hn] at HPt
  have HPe : Hid (partsGo t (kidsN (4, nA, np, nf)) ((a : Int) + 1) = pts10 t (a : Int)) := by
    exact (by unfold pts10; rw [Int.toNat_natCast, hn] : partsGo t (kidsN (4, nA, np, nf)) ((a : Int) + 1) = pts10 t (a : Int))
  rw [HPe.out] at HPt
  obtain ⟨k, hk⟩ : ∃ k, kidsN (4, nA, np, nf) = k := ⟨_, rfl⟩
  have HK : Hid (kidsN (4, nA, np, nf) = k) := hk
  rw [hk] at HPt HPl hpl hkk
  have HIh : Hid (∀ Y i, i < k → Below X.heap.size X Y → Calls Tryz.prog 110 #[.slice (some ⟨bt, ot, none⟩) t.length tc, .int .i64 ((pts10 t (a : Int)).getD i 0), .slice oa os.length oc] Y fun e w' => e = .returned (.int .i64 (((pts10 t (a : Int)).map (need12 d t os)).getD i 0)) ∧ Below Y.heap.size Y w') := fun Y i hi hy => by
    obtain ⟨q, e, hq, hqe⟩ := HPl.out i hi
    rw [map_getD12 (by omega), e]
    exact ih Y q (hBX.trans (hy.mono hBX.size)) hqe (by omega)
  have HLn : Hid (∀ i, i < k → 1 ≤ ((pts10 t (a : Int)).map (need12 d t os)).getD i 0 ∧ ((pts10 t (a : Int)).map (need12 d t os)).getD i 0 ≤ 60) := fun i hi => by
    obtain ⟨q, e, hq, hqe⟩ := HPl.out i hi
    rw [map_getD12 (by omega), e]
    exact need_at hqe (by omega) hlen
  obtain ⟨rs, hrs⟩ : ∃ rs, (pts10 t (a : Int)).map (need12 d t os) = rs := ⟨_, rfl⟩
  have HRl : Hid (rs.length = k) := by exact (by rw [← hrs, List.length_map, hpl] : rs.length = k)
  rw [hrs] at HIh HLn ⊢
  have HBX : Hid (Below w.heap.size w X) := hbg
  generalize pts10 t (a : Int) = pts at HPt HIh hpl
  have HN : Hid (∀ Y, Below X.heap.size X Y → Y.cell? ⟨N, 0, none⟩ = some (.int .i64 4)) := fun Y hy => (hy.cell (p := ⟨N, 0, none⟩) hNX).trans n0
  have HOs : Hid (∀ Y, Below X.heap.size X Y → AsIn Y oa os) := fun Y hy => hos.below (hBX.trans (hy.mono hBX.size))
  have hal2 : (a : Int) < (t.length : Int) := by omega
  have hk3 : k ≤ 3 := hkk.2
  obtain ⟨res, hres⟩ : ∃ r, mk12 (ord12 os (a : Int)) (4, nA, np, nf) rs = r := ⟨_, rfl⟩
  have HRs : Hid (mk12 (ord12 os (a : Int)) (4, nA, np, nf) rs = res) := hres
  rw [hres]
  clear ih hmem hnb HPl HPe hr hn hkk hbg hBX hrs hal n0 n1 n2 n3 hbt hB hp hk hos hres
  go_enter Tryz.func110, Tryz.ntmps110
  go_wp2_with fail
  refine Calls.mono HPt.out ?_
  rintro e V ⟨v, rfl, ho, hb2⟩
  obtain rfl : pts.length = k := hpl
  obtain ⟨pa, pc, rfl, hpV⟩ := own_as ho
  have HAs : Hid (∀ Y, Below V.heap.size V Y → AsIn Y pa pts) := fun Y hy => hpV.below hy
  have HXV : Hid (Below X.heap.size X V) := hb2
  have hbA : Below V.heap.size V (V.alloc (.cells #[] 2)) := (Below.refl _ _).alloc (Nat.le_refl _) _
  have hP0 : (V.alloc (.cells #[] 2)).ownsRow V.heap.size 2 1 (.slice (some ⟨V.heap.size, 0, none⟩) 0 0) 0 [] := World.ownsRow_lit (base := V.heap.size) (e := 2) (size := 1) V #[] 0 (Nat.le_refl _) (by decide) rfl
  obtain ⟨V1, hV1⟩ : ∃ V1, V.alloc (.cells #[] 2) = V1 := ⟨_, rfl⟩
  rw [hV1] at hbA hP0
  obtain ⟨B1, hB1⟩ : ∃ B1, V.heap.size = B1 := ⟨_, rfl⟩
  rw [hB1] at hP0
  have HP2 : Hid (V1.ownsRow B1 2 1 (.slice (some ⟨B1, 0, none⟩) 0 0) 0 (intsV (rs.take 0))) := hP0
  have HB2 : Hid (Below V.heap.size V V1) := hbA
  clear hbA hP0 hpV ho hb2 HPt
  go_wp2
  go_loopw [9, 10] (fun kv iv wx => ∃ i : Nat, iv = .int .i64 (i : Int) ∧ i ≤ pts.length ∧ Hid (wx.ownsRow B1 2 1 kv i (intsV (rs.take i))) ∧ Hid (Below V.heap.size V wx)) (fun _ iv _ => pts.length - (intOf iv).toNat)
  case atStart => exact ⟨0, rfl, Nat.zero_le _, HP2, HB2⟩
  case round =>
    obtain ⟨i, rfl, hi, HP, HBw⟩ := hrel
    clear HP2 HB2
    by_cases hlt : (i : Int) < (pts.length : Int)
    · have hi2 : i < pts.length := by omega
      obtain ⟨bp, op, rfl, _, p0⟩ := HAs.out wr HBw.out i hi2
      have HC : Hid (_) := HIh.out wr i hi2 (HXV.out.trans (HBw.out.mono HXV.out.size))
      obtain ⟨x, hx⟩ : ∃ x, rs.getD i 0 = x := ⟨_, rfl⟩
      have htk : rs.take (i + 1) = rs.take i ++ [x] := by
        have hil : i < rs.length := by rw [HRl.out]; exact hi2
        rw [List.take_succ_eq_append_getElem hil, ← hx]
        simp [List.getD, hil]
      have HTk : Hid (rs.take (i + 1) = rs.take i ++ [x]) := htk
      rw [hx] at HC
      have hB1w : B1 ≤ wr.heap.size := by rw [← hB1]; exact HBw.out.size
      generalize pts.getD i 0 = P0 at p0 HC
      clear hx htk
      go_wp2_with fail
      refine Calls.mono HC.out ?_
      rintro e Y0 ⟨rfl, hb0⟩
      have hp0 := own_below HP.out hb0
      obtain ⟨p', Y1, hr1, hp1, hg1⟩ := push_int12 x hp0 (Nat.le_trans hB1w hb0.size) (by omega)
      rw [← HTk.out] at hp1
      have HP3 : Hid (Y1.ownsRow B1 2 1 p' (i + 1) (intsV (rs.take (i + 1)))) := hp1
      have HB3 : Hid (Below V.heap.size V Y1) := by
        have h1 := HBw.out.trans (hb0.mono HBw.out.size)
        exact h1.grown hg1 h1.size (fun k e => by have := (hp0.lt k e).1; omega)
      clear hp0 hp1 hg1 hb0 HC HP p0
      go_wp2_with (at_builtin; refine wpList_append_run rfl (.tmp 27) (.tmp 35) 102 rfl _ _ _ rfl rfl hr1 ?_; clear hr1)
      go_roundw
      case rel => exact ⟨i + 1, by go_num, by omega, HP3, HB3⟩
      case measure => simp [intOf]; omega
    · have HIe : Hid (i = pts.length) := by exact (by omega : i = pts.length)
      have htk : rs.take i = rs := List.take_of_length_le (by rw [HRl.out, HIe.out]; exact Nat.le_refl _)
      have har := HP.out
      rw [htk] at har
      have hrl : i = rs.length := by rw [HRl.out, HIe.out]
      subst hrl
      have HAr : Hid (wr.ownsRow B1 2 1 _ rs.length (intsV rs)) := har
      have HFin : Hid (∀ Y, Below wr.heap.size wr Y → Below N w Y) := fun Y hy => by
        rw [← hN]
        have h1 := HBX.out.trans (HXV.out.mono HBX.out.size)
        have h2 := h1.trans (HBw.out.mono h1.size)
        exact h2.trans (hy.mono h2.size)
      have nn0 := HN.out wr (HXV.out.trans (HBw.out.mono HXV.out.size))
      have HOw : Hid (AsIn wr oa os) := HOs.out wr (HXV.out.trans (HBw.out.mono HXV.out.size))
      have hrk : rs.length = pts.length := HIe.out
      clear htk har HP HIh HOs HN HBw
      have hk2 : pts.length = 2 := by rw [← HK.out]; rfl
      obtain ⟨gk, ck, rfl⟩ := own_some HAr.out (by omega)
      have r0 : wr.cell? ⟨gk, 0, none⟩ = some (.int .i64 (rs.getD 0 0)) := ints_cell HAr.out 0 (by omega)
      have r1 : wr.cell? ⟨gk, 1, none⟩ = some (.int .i64 (rs.getD 1 0)) := ints_cell HAr.out 1 (by omega)
      obtain ⟨hx0, hx1⟩ := HLn.out 0 (by omega)
      obtain ⟨hy0, hy1⟩ := HLn.out 1 (by omega)
      have hl2 : (2 : Int) = (rs.length : Int) := by omega
      have hl0 : (0 : Int) < (rs.length : Int) := by omega
      have hl1 : (1 : Int) < (rs.length : Int) := by omega
      have HRp : Hid (pair12 (ord12 os (a : Int)) (rs.getD 0 0) (rs.getD 1 0) = res) := by
        exact (by have h := HRs.out; unfold mk12 at h; rw [if_pos ⟨by simp, by simp⟩] at h; exact h : pair12 (ord12 os (a : Int)) (rs.getD 0 0) (rs.getD 1 0) = res)
      generalize rs.getD 0 0 = x at r0 hx0 hx1 HRp
      generalize rs.getD 1 0 = y at r1 hy0 hy1 HRp
      clear HRs HAr HLn HRl HK HIe hk2 hrk
      rcases hol with rfl | hol
      · have HE : Hid ((if x = y then x + 1 else max x y) = res) := HRp.out
        have hz : ((([] : List Int).length : Int) == 0) = true := rfl
        simp only [List.length_nil]
        by_cases hxy : x = y
        · subst hxy
          have HF : Hid (x + 1 = res) := by exact (by rw [← HE.out, if_pos rfl] : x + 1 = res)
          have hxx : (x == x) = true := by simp
          clear HE HRp
          go_upto_region 13 with fail
          go_quiet (fail)
          go_wp2
          go_ret
          exact ⟨by rw [← HF.out]; rfl, by first | exact HFin.out _ (Below.refl _ _) | (refine HFin.out _ ?_; exact ⟨rfl, rfl, rfl, Nat.le_refl _, fun _ _ => rfl⟩)⟩
        · have hxb : (x == y) = false := beq_eq_false_iff_ne.2 hxy
          have HF : Hid (max x y = res) := by exact (by rw [← HE.out, if_neg hxy] : max x y = res)
          clear HE HRp hxy
          go_upto_region 13 with fail
          go_quiet (fail)
          go_upto_region 16 with fail
          generalize hwq : wr.drewN _ = wq
          have s0 : wq.cell? ⟨gk, 0, none⟩ = some (.int .i64 x) := by rw [← hwq]; exact r0
          have s1 : wq.cell? ⟨gk, 1, none⟩ = some (.int .i64 y) := by rw [← hwq]; exact r1
          have HFq : Hid (∀ Y, Below wq.heap.size wq Y → Below N w Y) := fun Y hy => HFin.out Y (by rw [← hwq] at hy; exact ⟨hy.os, hy.tape, hy.output, hy.size, hy.block⟩)
          clear hwq r0 r1
          replace HFin := HFq
          go_quiet (first | (go_at_call 132; exact Calls.quiet_of_same (specMax12 _ _ _)))
          go_wp2
          go_ret
          exact ⟨by rw [← HF.out]; rfl, by first | exact HFin.out _ (Below.refl _ _) | (refine HFin.out _ ?_; exact ⟨rfl, rfl, rfl, Nat.le_refl _, fun _ _ => rfl⟩)⟩
      · have hz : ((os.length : Int) == 0) = false := beq_eq_false_iff_ne.2 (by omega)
        have hoa : a < os.length := by omega
        have hoa2 : (a : Int) < (os.length : Int) := by omega
        obtain ⟨ob, oo, rfl, _, c5⟩ := HOw.out a hoa
        have HE : Hid ((if os.getD a 0 = 0 then max x (y + 1) else max y (x + 1)) = res) := by
          have ho : ord12 os (a : Int) = some (os.getD a 0) := by unfold ord12; rw [if_neg (fun e => by rw [e] at hoa; simp at hoa), Int.toNat_natCast]
          exact (by rw [← HRp.out, ho]; rfl : (if os.getD a 0 = 0 then max x (y + 1) else max y (x + 1)) = res)
        generalize os.getD a 0 = ov at c5 HE
        have hzn : ¬ os.length = 0 := by omega
        clear hol
        generalize os.length = ol at hz hoa2 hzn ⊢
        have hzd : decide (ol = 0) = false := decide_eq_false hzn
        have hzb : (ol == 0) = false := beq_eq_false_iff_ne.2 hzn
        clear HRp HOw hoa
        by_cases hov : ov = 0
        · have HF : Hid (max x (y + 1) = res) := by exact (by rw [← HE.out, if_pos hov] : max x (y + 1) = res)
          subst hov
          clear HE
          go_upto_region 13 with fail
          refine wp_region_held_drew (S := (fun _ => True)) (by kernel_rfl) ?_ (fun hHeld => ?_)
          · first | (dsimp only; done) | (dsimp only; go_keep) | go_keep
          refine wpAnyH_take (i := 0) (oi := ⟨some 45, _, _, _, _, _⟩) (v := ?vu0) rfl (by kernel_rfl) (by kernel_rfl) (by kernel_rfl) (fun _ _ _ h => h) (Or.inl ⟨by rfl, ?hyu0⟩) (by assumption) ?restu0
          case hyu0 => (intro wq hSw; (try dsimp only at hSw); first | (go_simp; done) | (go_simp; with_reducible rfl))
          simp only [Act.put, List.setIfInBounds_toArray, List.set_cons_zero, List.set_cons_succ]
          refine wpAnyH_take (i := 1) (oi := ⟨some 46, _, _, _, _, _⟩) (v := ?vu1) rfl (by kernel_rfl) (by kernel_rfl) (by kernel_rfl) (fun _ _ _ h => h) (Or.inl ⟨by rfl, ?hyu1⟩) (by assumption) ?restu1
          case hyu1 => (intro wq hSw; (try dsimp only at hSw); first | (go_simp; done) | (go_simp; with_reducible rfl))
          simp only [Act.put, List.setIfInBounds_toArray, List.set_cons_zero, List.set_cons_succ]
          refine wpAnyH_take (i := 2) (oi := ⟨some 47, _, _, _, _, _⟩) (v := ?vu2) rfl (by kernel_rfl) (by kernel_rfl) (by kernel_rfl) (fun _ _ _ h => h) (Or.inl ⟨by rfl, ?hyu2⟩) (by assumption) ?restu2
          case hyu2 => (intro wq hSw; (try dsimp only at hSw); first | (go_simp; done) | (go_simp; with_reducible rfl))
          simp only [Act.put, List.setIfInBounds_toArray, List.set_cons_zero, List.set_cons_succ]
          refine wpAnyH_take (i := 3) (oi := ⟨some 48, _, _, _, _, _⟩) (v := ?vu3) rfl (by kernel_rfl) (by kernel_rfl) (by kernel_rfl) (fun _ _ _ h => h) (Or.inl ⟨by rfl, ?hyu3⟩) (by assumption) ?restu3
          case hyu3 => (intro wq hSw; (try dsimp only at hSw); first | (go_simp; done) | (go_simp; with_reducible rfl))
          simp only [Act.put, List.setIfInBounds_toArray, List.set_cons_zero, List.set_cons_succ]
          refine wpAnyH_take (i := 4) (oi := ⟨some 49, _, _, _, _, _⟩) (v := undef) rfl (by kernel_rfl) (by kernel_rfl) (by kernel_rfl) (fun _ _ _ h => h) (Or.inr ⟨by rfl, rfl⟩) (by assumption) ?_
          simp only [Act.put, List.setIfInBounds_toArray, List.set_cons_zero, List.set_cons_succ]
          refine wpAnyH_take (i := 5) (oi := ⟨some 50, _, _, _, _, _⟩) (v := undef) rfl (by kernel_rfl) (by kernel_rfl) (by kernel_rfl) (fun _ _ _ h => h) (Or.inr ⟨by rfl, rfl⟩) (by assumption) ?_
          simp only [Act.put, List.setIfInBounds_toArray, List.set_cons_zero, List.set_cons_succ]
          refine wpAnyH_take (i := 6) (oi := ⟨some 51, _, _, _, _, _⟩) (v := undef) rfl (by kernel_rfl) (by kernel_rfl) (by kernel_rfl) (fun _ _ _ h => h) (Or.inr ⟨by rfl, rfl⟩) (by assumption) ?_
          simp only [Act.put, List.setIfInBounds_toArray, List.set_cons_zero, List.set_cons_succ]
          refine wpAnyH_take (i := 7) (oi := ⟨some 52, _, _, _, _, _⟩) (v := undef) rfl (by kernel_rfl) (by kernel_rfl) (by kernel_rfl) (fun _ _ _ h => h) (Or.inr ⟨by rfl, rfl⟩) (by assumption) ?_
          simp only [Act.put, List.setIfInBounds_toArray, List.set_cons_zero, List.set_cons_succ]
          refine wpAnyH_take (i := 8) (oi := ⟨some 53, _, _, _, _, _⟩) (v := undef) rfl (by kernel_rfl) (by kernel_rfl) (by kernel_rfl) (fun _ _ _ h => h) (Or.inr ⟨by rfl, rfl⟩) (by assumption) ?_
          simp only [Act.put, List.setIfInBounds_toArray, List.set_cons_zero, List.set_cons_succ]
          refine wpAnyH_take (i := 9) (oi := ⟨some 54, _, _, _, _, _⟩) (v := undef) rfl (by kernel_rfl) (by kernel_rfl) (by kernel_rfl) (fun _ _ _ h => h) (Or.inr ⟨by rfl, rfl⟩) (by assumption) ?_
          simp only [Act.put, List.setIfInBounds_toArray, List.set_cons_zero, List.set_cons_succ]
          refine wpAnyH_take (i := 10) (oi := ⟨some 55, _, _, _, _, _⟩) (v := undef) rfl (by kernel_rfl) (by kernel_rfl) (by kernel_rfl) (fun _ _ _ h => h) (Or.inr ⟨by rfl, rfl⟩) (by assumption) ?_
          simp only [Act.put, List.setIfInBounds_toArray, List.set_cons_zero, List.set_cons_succ]
          refine wpAnyH_take (i := 11) (oi := ⟨some 56, _, _, _, _, _⟩) (v := ?vu11) rfl (by kernel_rfl) (by kernel_rfl) (by kernel_rfl) (fun _ _ _ h => h) (Or.inl ⟨by rfl, ?hyu11⟩) (by assumption) ?restu11
          case hyu11 => (intro wq hSw; (try dsimp only at hSw); first | (go_simp; done) | (go_simp; with_reducible rfl))
          simp only [Act.put, List.setIfInBounds_toArray, List.set_cons_zero, List.set_cons_succ]
          refine wpAnyH_take (i := 12) (oi := ⟨some 44, _, _, _, _, _⟩) (v := ?vu12) rfl (by kernel_rfl) (by kernel_rfl) (by kernel_rfl) (fun _ _ _ h => h) (Or.inl ⟨by rfl, ?hyu12⟩) (by assumption) ?restu12
          case hyu12 => (intro wq hSw; (try dsimp only at hSw); first | (go_simp; done) | (go_simp; with_reducible rfl))
          simp only [Act.put, List.setIfInBounds_toArray, List.set_cons_zero, List.set_cons_succ]
          refine wpAnyH_done (by kernel_rfl) ?_ _
          go_upto_region 18 with fail
          generalize hwq : wr.drew = wq
          have s0 : wq.cell? ⟨gk, 0, none⟩ = some (.int .i64 x) := by rw [← hwq]; exact r0
          have s1 : wq.cell? ⟨gk, 1, none⟩ = some (.int .i64 y) := by rw [← hwq]; exact r1
          have HFq : Hid (∀ Y, Below wq.heap.size wq Y → Below N w Y) := fun Y hy => HFin.out Y (by rw [← hwq] at hy; exact ⟨hy.os, hy.tape, hy.output, hy.size, hy.block⟩)
          clear hwq r0 r1
          replace HFin := HFq
          go_quiet (first | (go_at_call 132; exact Calls.quiet_of_same (specMax12 _ _ _)))
          go_wp2
          go_ret
          exact ⟨by rw [← HF.out]; rfl, by first | exact HFin.out _ (Below.refl _ _) | (refine HFin.out _ ?_; exact ⟨rfl, rfl, rfl, Nat.le_refl _, fun _ _ => rfl⟩)⟩
        · have hob : (ov == 0) = false := beq_eq_false_iff_ne.2 hov
          have HF : Hid (max y (x + 1) = res) := by exact (by rw [← HE.out, if_neg hov] : max y (x + 1) = res)
          clear HE hov
          go_upto_region 13 with fail
          refine wp_region_held_drew (S := (fun _ => True)) (by kernel_rfl) ?_ (fun hHeld => ?_)
          · first | (dsimp only; done) | (dsimp only; go_keep) | go_keep
          refine wpAnyH_take (i := 0) (oi := ⟨some 45, _, _, _, _, _⟩) (v := ?vv0) rfl (by kernel_rfl) (by kernel_rfl) (by kernel_rfl) (fun _ _ _ h => h) (Or.inl ⟨by rfl, ?hyv0⟩) (by assumption) ?restv0
          case hyv0 => (intro wq hSw; (try dsimp only at hSw); first | (go_simp; done) | (go_simp; with_reducible rfl))
          simp only [Act.put, List.setIfInBounds_toArray, List.set_cons_zero, List.set_cons_succ]
          refine wpAnyH_take (i := 1) (oi := ⟨some 46, _, _, _, _, _⟩) (v := ?vv1) rfl (by kernel_rfl) (by kernel_rfl) (by kernel_rfl) (fun _ _ _ h => h) (Or.inl ⟨by rfl, ?hyv1⟩) (by assumption) ?restv1
          case hyv1 => (intro wq hSw; (try dsimp only at hSw); first | (go_simp; done) | (go_simp; with_reducible rfl))
          simp only [Act.put, List.setIfInBounds_toArray, List.set_cons_zero, List.set_cons_succ]
          refine wpAnyH_take (i := 2) (oi := ⟨some 47, _, _, _, _, _⟩) (v := ?vv2) rfl (by kernel_rfl) (by kernel_rfl) (by kernel_rfl) (fun _ _ _ h => h) (Or.inl ⟨by rfl, ?hyv2⟩) (by assumption) ?restv2
          case hyv2 => (intro wq hSw; (try dsimp only at hSw); first | (go_simp; done) | (go_simp; with_reducible rfl))
          simp only [Act.put, List.setIfInBounds_toArray, List.set_cons_zero, List.set_cons_succ]
          refine wpAnyH_take (i := 3) (oi := ⟨some 48, _, _, _, _, _⟩) (v := ?vv3) rfl (by kernel_rfl) (by kernel_rfl) (by kernel_rfl) (fun _ _ _ h => h) (Or.inl ⟨by rfl, ?hyv3⟩) (by assumption) ?restv3
          case hyv3 => (intro wq hSw; (try dsimp only at hSw); first | (go_simp; done) | (go_simp; with_reducible rfl))
          simp only [Act.put, List.setIfInBounds_toArray, List.set_cons_zero, List.set_cons_succ]
          refine wpAnyH_take (i := 4) (oi := ⟨some 49, _, _, _, _, _⟩) (v := undef) rfl (by kernel_rfl) (by kernel_rfl) (by kernel_rfl) (fun _ _ _ h => h) (Or.inr ⟨by rfl, rfl⟩) (by assumption) ?_
          simp only [Act.put, List.setIfInBounds_toArray, List.set_cons_zero, List.set_cons_succ]
          refine wpAnyH_take (i := 5) (oi := ⟨some 50, _, _, _, _, _⟩) (v := undef) rfl (by kernel_rfl) (by kernel_rfl) (by kernel_rfl) (fun _ _ _ h => h) (Or.inr ⟨by rfl, rfl⟩) (by assumption) ?_
          simp only [Act.put, List.setIfInBounds_toArray, List.set_cons_zero, List.set_cons_succ]
          refine wpAnyH_take (i := 6) (oi := ⟨some 51, _, _, _, _, _⟩) (v := undef) rfl (by kernel_rfl) (by kernel_rfl) (by kernel_rfl) (fun _ _ _ h => h) (Or.inr ⟨by rfl, rfl⟩) (by assumption) ?_
          simp only [Act.put, List.setIfInBounds_toArray, List.set_cons_zero, List.set_cons_succ]
          refine wpAnyH_take (i := 7) (oi := ⟨some 52, _, _, _, _, _⟩) (v := undef) rfl (by kernel_rfl) (by kernel_rfl) (by kernel_rfl) (fun _ _ _ h => h) (Or.inr ⟨by rfl, rfl⟩) (by assumption) ?_
          simp only [Act.put, List.setIfInBounds_toArray, List.set_cons_zero, List.set_cons_succ]
          refine wpAnyH_take (i := 8) (oi := ⟨some 53, _, _, _, _, _⟩) (v := undef) rfl (by kernel_rfl) (by kernel_rfl) (by kernel_rfl) (fun _ _ _ h => h) (Or.inr ⟨by rfl, rfl⟩) (by assumption) ?_
          simp only [Act.put, List.setIfInBounds_toArray, List.set_cons_zero, List.set_cons_succ]
          refine wpAnyH_take (i := 9) (oi := ⟨some 54, _, _, _, _, _⟩) (v := undef) rfl (by kernel_rfl) (by kernel_rfl) (by kernel_rfl) (fun _ _ _ h => h) (Or.inr ⟨by rfl, rfl⟩) (by assumption) ?_
          simp only [Act.put, List.setIfInBounds_toArray, List.set_cons_zero, List.set_cons_succ]
          refine wpAnyH_take (i := 10) (oi := ⟨some 55, _, _, _, _, _⟩) (v := undef) rfl (by kernel_rfl) (by kernel_rfl) (by kernel_rfl) (fun _ _ _ h => h) (Or.inr ⟨by rfl, rfl⟩) (by assumption) ?_
          simp only [Act.put, List.setIfInBounds_toArray, List.set_cons_zero, List.set_cons_succ]
          refine wpAnyH_take (i := 11) (oi := ⟨some 56, _, _, _, _, _⟩) (v := ?vv11) rfl (by kernel_rfl) (by kernel_rfl) (by kernel_rfl) (fun _ _ _ h => h) (Or.inl ⟨by rfl, ?hyv11⟩) (by assumption) ?restv11
          case hyv11 => (intro wq hSw; (try dsimp only at hSw); first | (go_simp; done) | (go_simp; with_reducible rfl))
          simp only [Act.put, List.setIfInBounds_toArray, List.set_cons_zero, List.set_cons_succ]
          refine wpAnyH_take (i := 12) (oi := ⟨some 44, _, _, _, _, _⟩) (v := ?vv12) rfl (by kernel_rfl) (by kernel_rfl) (by kernel_rfl) (fun _ _ _ h => h) (Or.inl ⟨by rfl, ?hyv12⟩) (by assumption) ?restv12
          case hyv12 => (intro wq hSw; (try dsimp only at hSw); first | (go_simp; done) | (go_simp; with_reducible rfl))
          simp only [Act.put, List.setIfInBounds_toArray, List.set_cons_zero, List.set_cons_succ]
          refine wpAnyH_done (by kernel_rfl) ?_ _
          go_upto_region 19 with fail
          generalize hwq : wr.drew = wq
          have s0 : wq.cell? ⟨gk, 0, none⟩ = some (.int .i64 x) := by rw [← hwq]; exact r0
          have s1 : wq.cell? ⟨gk, 1, none⟩ = some (.int .i64 y) := by rw [← hwq]; exact r1
          have HFq : Hid (∀ Y, Below wq.heap.size wq Y → Below N w Y) := fun Y hy => HFin.out Y (by rw [← hwq] at hy; exact ⟨hy.os, hy.tape, hy.output, hy.size, hy.block⟩)
          clear hwq r0 r1
          replace HFin := HFq
          go_quiet (first | (go_at_call 132; exact Calls.quiet_of_same (specMax12 _ _ _)))
          go_wp2
          go_ret
          exact ⟨by rw [← HF.out]; rfl, by first | exact HFin.out _ (Below.refl _ _) | (refine HFin.out _ ?_; exact ⟨rfl, rfl, rfl, Nat.le_refl _, fun _ _ => rfl⟩)⟩
set_option maxHeartbeats 8000000 in
set_option maxRecDepth 100000 in
theorem specNeed5 (B : World) (ta : Option Addr) (tc : Nat) (t : List Nd) (oa : Option Addr) (oc : Nat) (os : List Int) (hin : NodesIn B ta t.length t) (hos : AsIn B oa os) (hol : os = [] ∨ os.length = t.length) (hsh : ShortT t) (hgood : Good10 t) (hlen : t.length ≤ 60) (d : Nat) (ih : Nee12 B ta tc t oa oc os d) (w : World) (a : Nat) (hB : Below B.heap.size B w) (hp : 0 ≤ endV t (a : Int)) (hd : t.length ≤ a + (d + 1)) (hkd : (t.getD a nd0).1 = 5) :
    Calls Tryz.prog 110 #[.slice ta t.length tc, .int .i64 (a : Int), .slice oa os.length oc] w fun e w' => e = .returned (.int .i64 (need12 (d + 1) t os (a : Int))) ∧ Below w.heap.size w w' := by
  obtain ⟨hal, _, _, _, _⟩ := end_parts hp
  have hmem : t.getD a nd0 ∈ t := by simp [List.getD, hal]
  have hnb := hgood _ hmem
  have HPl : Hid (∀ i, i < kidsN (t.getD a nd0) → ∃ q : Nat, (pts10 t (a : Int)).getD i 0 = (q : Int) ∧ a < q ∧ 0 ≤ endV t (q : Int)) := fun i hi => need_place hp hi
  have hpl := pts_len t a
  obtain ⟨n, hn⟩ : ∃ n, t.getD a nd0 = n := ⟨_, rfl⟩
  obtain ⟨bt, ot, rfl, hbt, q0, q1, q2, q3⟩ := (hin.below hB).2 a hal
  have hkk := kidsV_ok hnb
  have hr : need12 (d + 1) t os (a : Int) = mk12 (ord12 os (a : Int)) (t.getD a nd0) ((pts10 t (a : Int)).map (need12 d t os)) := by rw [need12, Int.toNat_natCast]
  rw [hr]
  rw [hn] at q0 q1 q2 q3 HPl hpl hkk hkd ⊢
  obtain ⟨kd, nA, np, nf⟩ := n
  simp only at hkd
  subst hkd
  simp only at q0 q1 q2 q3
  obtain ⟨⟨n0, n1, n2, n3⟩, hbg⟩ := node_new12 w (.int .i64 5) (.int .i64 nA) (.string ⟨np.toArray⟩) (.string ⟨nf.toArray⟩) 91
  obtain ⟨X, hX⟩ : ∃ X, w.alloc (.cells #[.int .i64 5, .int .i64 nA, .string ⟨np.toArray⟩, .string ⟨nf.toArray⟩] 91) = X := ⟨_, rfl⟩
  obtain ⟨N, hN⟩ : ∃ N, w.heap.size = N := ⟨_, rfl⟩
  rw [hX] at n0 n1 n2 n3 hbg
  rw [hN] at n0 n1 n2 n3
  have hNX : N < X.heap.size := World.block_lt_of_cell? X ⟨N, 0, none⟩ n0
  have hBX : Below B.heap.size B X := hB.trans (hbg.mono hB.size)
  have HPt : Hid (_) := specParts (some ⟨bt, ot, none⟩) tc t a X (hin.below hBX) hsh (by omega) hal (by rw [hn]; exact hn ▸ hnb)
  rw [hn] at HPt
  have HPe : Hid (partsGo t (kidsN (5, nA, np, nf)) ((a : Int) + 1) = pts10 t (a : Int)) := by
    exact (by unfold pts10; rw [Int.toNat_natCast, hn] : partsGo t (kidsN (5, nA, np, nf)) ((a : Int) + 1) = pts10 t (a : Int))
  rw [HPe.out] at HPt
  obtain ⟨k, hk⟩ : ∃ k, kidsN (5, nA, np, nf) = k := ⟨_, rfl⟩
  have HK : Hid (kidsN (5, nA, np, nf) = k) := hk
  rw [hk] at HPt HPl hpl hkk
  have HIh : Hid (∀ Y i, i < k → Below X.heap.size X Y → Calls Tryz.prog 110 #[.slice (some ⟨bt, ot, none⟩) t.length tc, .int .i64 ((pts10 t (a : Int)).getD i 0), .slice oa os.length oc] Y fun e w' => e = .returned (.int .i64 (((pts10 t (a : Int)).map (need12 d t os)).getD i 0)) ∧ Below Y.heap.size Y w') := fun Y i hi hy => by
    obtain ⟨q, e, hq, hqe⟩ := HPl.out i hi
    rw [map_getD12 (by omega), e]
    exact ih Y q (hBX.trans (hy.mono hBX.size)) hqe (by omega)
  have HLn : Hid (∀ i, i < k → 1 ≤ ((pts10 t (a : Int)).map (need12 d t os)).getD i 0 ∧ ((pts10 t (a : Int)).map (need12 d t os)).getD i 0 ≤ 60) := fun i hi => by
    obtain ⟨q, e, hq, hqe⟩ := HPl.out i hi
    rw [map_getD12 (by omega), e]
    exact need_at hqe (by omega) hlen
  obtain ⟨rs, hrs⟩ : ∃ rs, (pts10 t (a : Int)).map (need12 d t os) = rs := ⟨_, rfl⟩
  have HRl : Hid (rs.length = k) := by exact (by rw [← hrs, List.length_map, hpl] : rs.length = k)
  rw [hrs] at HIh HLn ⊢
  have HBX : Hid (Below w.heap.size w X) := hbg
  generalize pts10 t (a : Int) = pts at HPt HIh hpl
  have HN : Hid (∀ Y, Below X.heap.size X Y → Y.cell? ⟨N, 0, none⟩ = some (.int .i64 5)) := fun Y hy => (hy.cell (p := ⟨N, 0, none⟩) hNX).trans n0
  have HOs : Hid (∀ Y, Below X.heap.size X Y → AsIn Y oa os) := fun Y hy => hos.below (hBX.trans (hy.mono hBX.size))
  have hal2 : (a : Int) < (t.length : Int) := by omega
  have hk3 : k ≤ 3 := hkk.2
  obtain ⟨res, hres⟩ : ∃ r, mk12 (ord12 os (a : Int)) (5, nA, np, nf) rs = r := ⟨_, rfl⟩
  have HRs : Hid (mk12 (ord12 os (a : Int)) (5, nA, np, nf) rs = res) := hres
  rw [hres]
  clear ih hmem hnb HPl HPe hr hn hkk hbg hBX hrs hal n0 n1 n2 n3 hbt hB hp hk hos hres
  go_enter Tryz.func110, Tryz.ntmps110
  go_wp2_with fail
  refine Calls.mono HPt.out ?_
  rintro e V ⟨v, rfl, ho, hb2⟩
  obtain rfl : pts.length = k := hpl
  obtain ⟨pa, pc, rfl, hpV⟩ := own_as ho
  have HAs : Hid (∀ Y, Below V.heap.size V Y → AsIn Y pa pts) := fun Y hy => hpV.below hy
  have HXV : Hid (Below X.heap.size X V) := hb2
  have hbA : Below V.heap.size V (V.alloc (.cells #[] 2)) := (Below.refl _ _).alloc (Nat.le_refl _) _
  have hP0 : (V.alloc (.cells #[] 2)).ownsRow V.heap.size 2 1 (.slice (some ⟨V.heap.size, 0, none⟩) 0 0) 0 [] := World.ownsRow_lit (base := V.heap.size) (e := 2) (size := 1) V #[] 0 (Nat.le_refl _) (by decide) rfl
  obtain ⟨V1, hV1⟩ : ∃ V1, V.alloc (.cells #[] 2) = V1 := ⟨_, rfl⟩
  rw [hV1] at hbA hP0
  obtain ⟨B1, hB1⟩ : ∃ B1, V.heap.size = B1 := ⟨_, rfl⟩
  rw [hB1] at hP0
  have HP2 : Hid (V1.ownsRow B1 2 1 (.slice (some ⟨B1, 0, none⟩) 0 0) 0 (intsV (rs.take 0))) := hP0
  have HB2 : Hid (Below V.heap.size V V1) := hbA
  clear hbA hP0 hpV ho hb2 HPt
  go_wp2
  go_loopw [9, 10] (fun kv iv wx => ∃ i : Nat, iv = .int .i64 (i : Int) ∧ i ≤ pts.length ∧ Hid (wx.ownsRow B1 2 1 kv i (intsV (rs.take i))) ∧ Hid (Below V.heap.size V wx)) (fun _ iv _ => pts.length - (intOf iv).toNat)
  case atStart => exact ⟨0, rfl, Nat.zero_le _, HP2, HB2⟩
  case round =>
    obtain ⟨i, rfl, hi, HP, HBw⟩ := hrel
    clear HP2 HB2
    by_cases hlt : (i : Int) < (pts.length : Int)
    · have hi2 : i < pts.length := by omega
      obtain ⟨bp, op, rfl, _, p0⟩ := HAs.out wr HBw.out i hi2
      have HC : Hid (_) := HIh.out wr i hi2 (HXV.out.trans (HBw.out.mono HXV.out.size))
      obtain ⟨x, hx⟩ : ∃ x, rs.getD i 0 = x := ⟨_, rfl⟩
      have htk : rs.take (i + 1) = rs.take i ++ [x] := by
        have hil : i < rs.length := by rw [HRl.out]; exact hi2
        rw [List.take_succ_eq_append_getElem hil, ← hx]
        simp [List.getD, hil]
      have HTk : Hid (rs.take (i + 1) = rs.take i ++ [x]) := htk
      rw [hx] at HC
      have hB1w : B1 ≤ wr.heap.size := by rw [← hB1]; exact HBw.out.size
      generalize pts.getD i 0 = P0 at p0 HC
      clear hx htk
      go_wp2_with fail
      refine Calls.mono HC.out ?_
      rintro e Y0 ⟨rfl, hb0⟩
      have hp0 := own_below HP.out hb0
      obtain ⟨p', Y1, hr1, hp1, hg1⟩ := push_int12 x hp0 (Nat.le_trans hB1w hb0.size) (by omega)
      rw [← HTk.out] at hp1
      have HP3 : Hid (Y1.ownsRow B1 2 1 p' (i + 1) (intsV (rs.take (i + 1)))) := hp1
      have HB3 : Hid (Below V.heap.size V Y1) := by
        have h1 := HBw.out.trans (hb0.mono HBw.out.size)
        exact h1.grown hg1 h1.size (fun k e => by have := (hp0.lt k e).1; omega)
      clear hp0 hp1 hg1 hb0 HC HP p0
      go_wp2_with (at_builtin; refine wpList_append_run rfl (.tmp 27) (.tmp 35) 102 rfl _ _ _ rfl rfl hr1 ?_; clear hr1)
      go_roundw
      case rel => exact ⟨i + 1, by go_num, by omega, HP3, HB3⟩
      case measure => simp [intOf]; omega
    · have HIe : Hid (i = pts.length) := by exact (by omega : i = pts.length)
      have htk : rs.take i = rs := List.take_of_length_le (by rw [HRl.out, HIe.out]; exact Nat.le_refl _)
      have har := HP.out
      rw [htk] at har
      have hrl : i = rs.length := by rw [HRl.out, HIe.out]
      subst hrl
      have HAr : Hid (wr.ownsRow B1 2 1 _ rs.length (intsV rs)) := har
      have HFin : Hid (∀ Y, Below wr.heap.size wr Y → Below N w Y) := fun Y hy => by
        rw [← hN]
        have h1 := HBX.out.trans (HXV.out.mono HBX.out.size)
        have h2 := h1.trans (HBw.out.mono h1.size)
        exact h2.trans (hy.mono h2.size)
      have nn0 := HN.out wr (HXV.out.trans (HBw.out.mono HXV.out.size))
      have HOw : Hid (AsIn wr oa os) := HOs.out wr (HXV.out.trans (HBw.out.mono HXV.out.size))
      have hrk : rs.length = pts.length := HIe.out
      clear htk har HP HIh HOs HN HBw
      have hk2 : pts.length = 2 := by rw [← HK.out]; rfl
      obtain ⟨gk, ck, rfl⟩ := own_some HAr.out (by omega)
      have r0 : wr.cell? ⟨gk, 0, none⟩ = some (.int .i64 (rs.getD 0 0)) := ints_cell HAr.out 0 (by omega)
      have r1 : wr.cell? ⟨gk, 1, none⟩ = some (.int .i64 (rs.getD 1 0)) := ints_cell HAr.out 1 (by omega)
      obtain ⟨hx0, hx1⟩ := HLn.out 0 (by omega)
      obtain ⟨hy0, hy1⟩ := HLn.out 1 (by omega)
      have hl2 : (2 : Int) = (rs.length : Int) := by omega
      have hl0 : (0 : Int) < (rs.length : Int) := by omega
      have hl1 : (1 : Int) < (rs.length : Int) := by omega
      have HRp : Hid (pair12 (ord12 os (a : Int)) (rs.getD 0 0) (rs.getD 1 0) = res) := by
        exact (by have h := HRs.out; unfold mk12 at h; rw [if_pos ⟨by simp, by simp⟩] at h; exact h : pair12 (ord12 os (a : Int)) (rs.getD 0 0) (rs.getD 1 0) = res)
      generalize rs.getD 0 0 = x at r0 hx0 hx1 HRp
      generalize rs.getD 1 0 = y at r1 hy0 hy1 HRp
      clear HRs HAr HLn HRl HK HIe hk2 hrk
      rcases hol with rfl | hol
      · have HE : Hid ((if x = y then x + 1 else max x y) = res) := HRp.out
        have hz : ((([] : List Int).length : Int) == 0) = true := rfl
        simp only [List.length_nil]
        by_cases hxy : x = y
        · subst hxy
          have HF : Hid (x + 1 = res) := by exact (by rw [← HE.out, if_pos rfl] : x + 1 = res)
          have hxx : (x == x) = true := by simp
          clear HE HRp
          go_upto_region 13 with fail
          go_quiet (fail)
          go_wp2
          go_ret
          exact ⟨by rw [← HF.out]; rfl, by first | exact HFin.out _ (Below.refl _ _) | (refine HFin.out _ ?_; exact ⟨rfl, rfl, rfl, Nat.le_refl _, fun _ _ => rfl⟩)⟩
        · have hxb : (x == y) = false := beq_eq_false_iff_ne.2 hxy
          have HF : Hid (max x y = res) := by exact (by rw [← HE.out, if_neg hxy] : max x y = res)
          clear HE HRp hxy
          go_upto_region 13 with fail
          go_quiet (fail)
          go_upto_region 16 with fail
          generalize hwq : wr.drewN _ = wq
          have s0 : wq.cell? ⟨gk, 0, none⟩ = some (.int .i64 x) := by rw [← hwq]; exact r0
          have s1 : wq.cell? ⟨gk, 1, none⟩ = some (.int .i64 y) := by rw [← hwq]; exact r1
          have HFq : Hid (∀ Y, Below wq.heap.size wq Y → Below N w Y) := fun Y hy => HFin.out Y (by rw [← hwq] at hy; exact ⟨hy.os, hy.tape, hy.output, hy.size, hy.block⟩)
          clear hwq r0 r1
          replace HFin := HFq
          go_quiet (first | (go_at_call 132; exact Calls.quiet_of_same (specMax12 _ _ _)))
          go_wp2
          go_ret
          exact ⟨by rw [← HF.out]; rfl, by first | exact HFin.out _ (Below.refl _ _) | (refine HFin.out _ ?_; exact ⟨rfl, rfl, rfl, Nat.le_refl _, fun _ _ => rfl⟩)⟩
      · have hz : ((os.length : Int) == 0) = false := beq_eq_false_iff_ne.2 (by omega)
        have hoa : a < os.length := by omega
        have hoa2 : (a : Int) < (os.length : Int) := by omega
        obtain ⟨ob, oo, rfl, _, c5⟩ := HOw.out a hoa
        have HE : Hid ((if os.getD a 0 = 0 then max x (y + 1) else max y (x + 1)) = res) := by
          have ho : ord12 os (a : Int) = some (os.getD a 0) := by unfold ord12; rw [if_neg (fun e => by rw [e] at hoa; simp at hoa), Int.toNat_natCast]
          exact (by rw [← HRp.out, ho]; rfl : (if os.getD a 0 = 0 then max x (y + 1) else max y (x + 1)) = res)
        generalize os.getD a 0 = ov at c5 HE
        have hzn : ¬ os.length = 0 := by omega
        clear hol
        generalize os.length = ol at hz hoa2 hzn ⊢
        have hzd : decide (ol = 0) = false := decide_eq_false hzn
        have hzb : (ol == 0) = false := beq_eq_false_iff_ne.2 hzn
        clear HRp HOw hoa
        by_cases hov : ov = 0
        · have HF : Hid (max x (y + 1) = res) := by exact (by rw [← HE.out, if_pos hov] : max x (y + 1) = res)
          subst hov
          clear HE
          go_upto_region 13 with fail
          refine wp_region_held_drew (S := (fun _ => True)) (by kernel_rfl) ?_ (fun hHeld => ?_)
          · first | (dsimp only; done) | (dsimp only; go_keep) | go_keep
          refine wpAnyH_take (i := 0) (oi := ⟨some 45, _, _, _, _, _⟩) (v := ?vu0) rfl (by kernel_rfl) (by kernel_rfl) (by kernel_rfl) (fun _ _ _ h => h) (Or.inl ⟨by rfl, ?hyu0⟩) (by assumption) ?restu0
          case hyu0 => (intro wq hSw; (try dsimp only at hSw); first | (go_simp; done) | (go_simp; with_reducible rfl))
          simp only [Act.put, List.setIfInBounds_toArray, List.set_cons_zero, List.set_cons_succ]
          refine wpAnyH_take (i := 1) (oi := ⟨some 46, _, _, _, _, _⟩) (v := ?vu1) rfl (by kernel_rfl) (by kernel_rfl) (by kernel_rfl) (fun _ _ _ h => h) (Or.inl ⟨by rfl, ?hyu1⟩) (by assumption) ?restu1
          case hyu1 => (intro wq hSw; (try dsimp only at hSw); first | (go_simp; done) | (go_simp; with_reducible rfl))
          simp only [Act.put, List.setIfInBounds_toArray, List.set_cons_zero, List.set_cons_succ]
          refine wpAnyH_take (i := 2) (oi := ⟨some 47, _, _, _, _, _⟩) (v := ?vu2) rfl (by kernel_rfl) (by kernel_rfl) (by kernel_rfl) (fun _ _ _ h => h) (Or.inl ⟨by rfl, ?hyu2⟩) (by assumption) ?restu2
          case hyu2 => (intro wq hSw; (try dsimp only at hSw); first | (go_simp; done) | (go_simp; with_reducible rfl))
          simp only [Act.put, List.setIfInBounds_toArray, List.set_cons_zero, List.set_cons_succ]
          refine wpAnyH_take (i := 3) (oi := ⟨some 48, _, _, _, _, _⟩) (v := ?vu3) rfl (by kernel_rfl) (by kernel_rfl) (by kernel_rfl) (fun _ _ _ h => h) (Or.inl ⟨by rfl, ?hyu3⟩) (by assumption) ?restu3
          case hyu3 => (intro wq hSw; (try dsimp only at hSw); first | (go_simp; done) | (go_simp; with_reducible rfl))
          simp only [Act.put, List.setIfInBounds_toArray, List.set_cons_zero, List.set_cons_succ]
          refine wpAnyH_take (i := 4) (oi := ⟨some 49, _, _, _, _, _⟩) (v := undef) rfl (by kernel_rfl) (by kernel_rfl) (by kernel_rfl) (fun _ _ _ h => h) (Or.inr ⟨by rfl, rfl⟩) (by assumption) ?_
          simp only [Act.put, List.setIfInBounds_toArray, List.set_cons_zero, List.set_cons_succ]
          refine wpAnyH_take (i := 5) (oi := ⟨some 50, _, _, _, _, _⟩) (v := undef) rfl (by kernel_rfl) (by kernel_rfl) (by kernel_rfl) (fun _ _ _ h => h) (Or.inr ⟨by rfl, rfl⟩) (by assumption) ?_
          simp only [Act.put, List.setIfInBounds_toArray, List.set_cons_zero, List.set_cons_succ]
          refine wpAnyH_take (i := 6) (oi := ⟨some 51, _, _, _, _, _⟩) (v := undef) rfl (by kernel_rfl) (by kernel_rfl) (by kernel_rfl) (fun _ _ _ h => h) (Or.inr ⟨by rfl, rfl⟩) (by assumption) ?_
          simp only [Act.put, List.setIfInBounds_toArray, List.set_cons_zero, List.set_cons_succ]
          refine wpAnyH_take (i := 7) (oi := ⟨some 52, _, _, _, _, _⟩) (v := undef) rfl (by kernel_rfl) (by kernel_rfl) (by kernel_rfl) (fun _ _ _ h => h) (Or.inr ⟨by rfl, rfl⟩) (by assumption) ?_
          simp only [Act.put, List.setIfInBounds_toArray, List.set_cons_zero, List.set_cons_succ]
          refine wpAnyH_take (i := 8) (oi := ⟨some 53, _, _, _, _, _⟩) (v := undef) rfl (by kernel_rfl) (by kernel_rfl) (by kernel_rfl) (fun _ _ _ h => h) (Or.inr ⟨by rfl, rfl⟩) (by assumption) ?_
          simp only [Act.put, List.setIfInBounds_toArray, List.set_cons_zero, List.set_cons_succ]
          refine wpAnyH_take (i := 9) (oi := ⟨some 54, _, _, _, _, _⟩) (v := undef) rfl (by kernel_rfl) (by kernel_rfl) (by kernel_rfl) (fun _ _ _ h => h) (Or.inr ⟨by rfl, rfl⟩) (by assumption) ?_
          simp only [Act.put, List.setIfInBounds_toArray, List.set_cons_zero, List.set_cons_succ]
          refine wpAnyH_take (i := 10) (oi := ⟨some 55, _, _, _, _, _⟩) (v := undef) rfl (by kernel_rfl) (by kernel_rfl) (by kernel_rfl) (fun _ _ _ h => h) (Or.inr ⟨by rfl, rfl⟩) (by assumption) ?_
          simp only [Act.put, List.setIfInBounds_toArray, List.set_cons_zero, List.set_cons_succ]
          refine wpAnyH_take (i := 11) (oi := ⟨some 56, _, _, _, _, _⟩) (v := ?vu11) rfl (by kernel_rfl) (by kernel_rfl) (by kernel_rfl) (fun _ _ _ h => h) (Or.inl ⟨by rfl, ?hyu11⟩) (by assumption) ?restu11
          case hyu11 => (intro wq hSw; (try dsimp only at hSw); first | (go_simp; done) | (go_simp; with_reducible rfl))
          simp only [Act.put, List.setIfInBounds_toArray, List.set_cons_zero, List.set_cons_succ]
          refine wpAnyH_take (i := 12) (oi := ⟨some 44, _, _, _, _, _⟩) (v := ?vu12) rfl (by kernel_rfl) (by kernel_rfl) (by kernel_rfl) (fun _ _ _ h => h) (Or.inl ⟨by rfl, ?hyu12⟩) (by assumption) ?restu12
          case hyu12 => (intro wq hSw; (try dsimp only at hSw); first | (go_simp; done) | (go_simp; with_reducible rfl))
          simp only [Act.put, List.setIfInBounds_toArray, List.set_cons_zero, List.set_cons_succ]
          refine wpAnyH_done (by kernel_rfl) ?_ _
          go_upto_region 18 with fail
          generalize hwq : wr.drew = wq
          have s0 : wq.cell? ⟨gk, 0, none⟩ = some (.int .i64 x) := by rw [← hwq]; exact r0
          have s1 : wq.cell? ⟨gk, 1, none⟩ = some (.int .i64 y) := by rw [← hwq]; exact r1
          have HFq : Hid (∀ Y, Below wq.heap.size wq Y → Below N w Y) := fun Y hy => HFin.out Y (by rw [← hwq] at hy; exact ⟨hy.os, hy.tape, hy.output, hy.size, hy.block⟩)
          clear hwq r0 r1
          replace HFin := HFq
          go_quiet (first | (go_at_call 132; exact Calls.quiet_of_same (specMax12 _ _ _)))
          go_wp2
          go_ret
          exact ⟨by rw [← HF.out]; rfl, by first | exact HFin.out _ (Below.refl _ _) | (refine HFin.out _ ?_; exact ⟨rfl, rfl, rfl, Nat.le_refl _, fun _ _ => rfl⟩)⟩
        · have hob : (ov == 0) = false := beq_eq_false_iff_ne.2 hov
          have HF : Hid (max y (x + 1) = res) := by exact (by rw [← HE.out, if_neg hov] : max y (x + 1) = res)
          clear HE hov
          go_upto_region 13 with fail
          refine wp_region_held_drew (S := (fun _ => True)) (by kernel_rfl) ?_ (fun hHeld => ?_)
          · first | (dsimp only; done) | (dsimp only; go_keep) | go_keep
          refine wpAnyH_take (i := 0) (oi := ⟨some 45, _, _, _, _, _⟩) (v := ?vv0) rfl (by kernel_rfl) (by kernel_rfl) (by kernel_rfl) (fun _ _ _ h => h) (Or.inl ⟨by rfl, ?hyv0⟩) (by assumption) ?restv0
          case hyv0 => (intro wq hSw; (try dsimp only at hSw); first | (go_simp; done) | (go_simp; with_reducible rfl))
          simp only [Act.put, List.setIfInBounds_toArray, List.set_cons_zero, List.set_cons_succ]
          refine wpAnyH_take (i := 1) (oi := ⟨some 46, _, _, _, _, _⟩) (v := ?vv1) rfl (by kernel_rfl) (by kernel_rfl) (by kernel_rfl) (fun _ _ _ h => h) (Or.inl ⟨by rfl, ?hyv1⟩) (by assumption) ?restv1
          case hyv1 => (intro wq hSw; (try dsimp only at hSw); first | (go_simp; done) | (go_simp; with_reducible rfl))
          simp only [Act.put, List.setIfInBounds_toArray, List.set_cons_zero, List.set_cons_succ]
          refine wpAnyH_take (i := 2) (oi := ⟨some 47, _, _, _, _, _⟩) (v := ?vv2) rfl (by kernel_rfl) (by kernel_rfl) (by kernel_rfl) (fun _ _ _ h => h) (Or.inl ⟨by rfl, ?hyv2⟩) (by assumption) ?restv2
          case hyv2 => (intro wq hSw; (try dsimp only at hSw); first | (go_simp; done) | (go_simp; with_reducible rfl))
          simp only [Act.put, List.setIfInBounds_toArray, List.set_cons_zero, List.set_cons_succ]
          refine wpAnyH_take (i := 3) (oi := ⟨some 48, _, _, _, _, _⟩) (v := ?vv3) rfl (by kernel_rfl) (by kernel_rfl) (by kernel_rfl) (fun _ _ _ h => h) (Or.inl ⟨by rfl, ?hyv3⟩) (by assumption) ?restv3
          case hyv3 => (intro wq hSw; (try dsimp only at hSw); first | (go_simp; done) | (go_simp; with_reducible rfl))
          simp only [Act.put, List.setIfInBounds_toArray, List.set_cons_zero, List.set_cons_succ]
          refine wpAnyH_take (i := 4) (oi := ⟨some 49, _, _, _, _, _⟩) (v := undef) rfl (by kernel_rfl) (by kernel_rfl) (by kernel_rfl) (fun _ _ _ h => h) (Or.inr ⟨by rfl, rfl⟩) (by assumption) ?_
          simp only [Act.put, List.setIfInBounds_toArray, List.set_cons_zero, List.set_cons_succ]
          refine wpAnyH_take (i := 5) (oi := ⟨some 50, _, _, _, _, _⟩) (v := undef) rfl (by kernel_rfl) (by kernel_rfl) (by kernel_rfl) (fun _ _ _ h => h) (Or.inr ⟨by rfl, rfl⟩) (by assumption) ?_
          simp only [Act.put, List.setIfInBounds_toArray, List.set_cons_zero, List.set_cons_succ]
          refine wpAnyH_take (i := 6) (oi := ⟨some 51, _, _, _, _, _⟩) (v := undef) rfl (by kernel_rfl) (by kernel_rfl) (by kernel_rfl) (fun _ _ _ h => h) (Or.inr ⟨by rfl, rfl⟩) (by assumption) ?_
          simp only [Act.put, List.setIfInBounds_toArray, List.set_cons_zero, List.set_cons_succ]
          refine wpAnyH_take (i := 7) (oi := ⟨some 52, _, _, _, _, _⟩) (v := undef) rfl (by kernel_rfl) (by kernel_rfl) (by kernel_rfl) (fun _ _ _ h => h) (Or.inr ⟨by rfl, rfl⟩) (by assumption) ?_
          simp only [Act.put, List.setIfInBounds_toArray, List.set_cons_zero, List.set_cons_succ]
          refine wpAnyH_take (i := 8) (oi := ⟨some 53, _, _, _, _, _⟩) (v := undef) rfl (by kernel_rfl) (by kernel_rfl) (by kernel_rfl) (fun _ _ _ h => h) (Or.inr ⟨by rfl, rfl⟩) (by assumption) ?_
          simp only [Act.put, List.setIfInBounds_toArray, List.set_cons_zero, List.set_cons_succ]
          refine wpAnyH_take (i := 9) (oi := ⟨some 54, _, _, _, _, _⟩) (v := undef) rfl (by kernel_rfl) (by kernel_rfl) (by kernel_rfl) (fun _ _ _ h => h) (Or.inr ⟨by rfl, rfl⟩) (by assumption) ?_
          simp only [Act.put, List.setIfInBounds_toArray, List.set_cons_zero, List.set_cons_succ]
          refine wpAnyH_take (i := 10) (oi := ⟨some 55, _, _, _, _, _⟩) (v := undef) rfl (by kernel_rfl) (by kernel_rfl) (by kernel_rfl) (fun _ _ _ h => h) (Or.inr ⟨by rfl, rfl⟩) (by assumption) ?_
          simp only [Act.put, List.setIfInBounds_toArray, List.set_cons_zero, List.set_cons_succ]
          refine wpAnyH_take (i := 11) (oi := ⟨some 56, _, _, _, _, _⟩) (v := ?vv11) rfl (by kernel_rfl) (by kernel_rfl) (by kernel_rfl) (fun _ _ _ h => h) (Or.inl ⟨by rfl, ?hyv11⟩) (by assumption) ?restv11
          case hyv11 => (intro wq hSw; (try dsimp only at hSw); first | (go_simp; done) | (go_simp; with_reducible rfl))
          simp only [Act.put, List.setIfInBounds_toArray, List.set_cons_zero, List.set_cons_succ]
          refine wpAnyH_take (i := 12) (oi := ⟨some 44, _, _, _, _, _⟩) (v := ?vv12) rfl (by kernel_rfl) (by kernel_rfl) (by kernel_rfl) (fun _ _ _ h => h) (Or.inl ⟨by rfl, ?hyv12⟩) (by assumption) ?restv12
          case hyv12 => (intro wq hSw; (try dsimp only at hSw); first | (go_simp; done) | (go_simp; with_reducible rfl))
          simp only [Act.put, List.setIfInBounds_toArray, List.set_cons_zero, List.set_cons_succ]
          refine wpAnyH_done (by kernel_rfl) ?_ _
          go_upto_region 19 with fail
          generalize hwq : wr.drew = wq
          have s0 : wq.cell? ⟨gk, 0, none⟩ = some (.int .i64 x) := by rw [← hwq]; exact r0
          have s1 : wq.cell? ⟨gk, 1, none⟩ = some (.int .i64 y) := by rw [← hwq]; exact r1
          have HFq : Hid (∀ Y, Below wq.heap.size wq Y → Below N w Y) := fun Y hy => HFin.out Y (by rw [← hwq] at hy; exact ⟨hy.os, hy.tape, hy.output, hy.size, hy.block⟩)
          clear hwq r0 r1
          replace HFin := HFq
          go_quiet (first | (go_at_call 132; exact Calls.quiet_of_same (specMax12 _ _ _)))
          go_wp2
          go_ret
          exact ⟨by rw [← HF.out]; rfl, by first | exact HFin.out _ (Below.refl _ _) | (refine HFin.out _ ?_; exact ⟨rfl, rfl, rfl, Nat.le_refl _, fun _ _ => rfl⟩)⟩
set_option maxHeartbeats 8000000 in
set_option maxRecDepth 100000 in
theorem specNeed6 (B : World) (ta : Option Addr) (tc : Nat) (t : List Nd) (oa : Option Addr) (oc : Nat) (os : List Int) (hin : NodesIn B ta t.length t) (hos : AsIn B oa os) (hol : os = [] ∨ os.length = t.length) (hsh : ShortT t) (hgood : Good10 t) (hlen : t.length ≤ 60) (d : Nat) (ih : Nee12 B ta tc t oa oc os d) (w : World) (a : Nat) (hB : Below B.heap.size B w) (hp : 0 ≤ endV t (a : Int)) (hd : t.length ≤ a + (d + 1)) (hkd : (t.getD a nd0).1 = 6) :
    Calls Tryz.prog 110 #[.slice ta t.length tc, .int .i64 (a : Int), .slice oa os.length oc] w fun e w' => e = .returned (.int .i64 (need12 (d + 1) t os (a : Int))) ∧ Below w.heap.size w w' := by
  obtain ⟨hal, _, _, _, _⟩ := end_parts hp
  have hmem : t.getD a nd0 ∈ t := by simp [List.getD, hal]
  have hnb := hgood _ hmem
  have HPl : Hid (∀ i, i < kidsN (t.getD a nd0) → ∃ q : Nat, (pts10 t (a : Int)).getD i 0 = (q : Int) ∧ a < q ∧ 0 ≤ endV t (q : Int)) := fun i hi => need_place hp hi
  have hpl := pts_len t a
  obtain ⟨n, hn⟩ : ∃ n, t.getD a nd0 = n := ⟨_, rfl⟩
  obtain ⟨bt, ot, rfl, hbt, q0, q1, q2, q3⟩ := (hin.below hB).2 a hal
  have hkk := kidsV_ok hnb
  have hr : need12 (d + 1) t os (a : Int) = mk12 (ord12 os (a : Int)) (t.getD a nd0) ((pts10 t (a : Int)).map (need12 d t os)) := by rw [need12, Int.toNat_natCast]
  rw [hr]
  rw [hn] at q0 q1 q2 q3 HPl hpl hkk hkd ⊢
  obtain ⟨kd, nA, np, nf⟩ := n
  simp only at hkd
  subst hkd
  simp only at q0 q1 q2 q3
  obtain ⟨⟨n0, n1, n2, n3⟩, hbg⟩ := node_new12 w (.int .i64 6) (.int .i64 nA) (.string ⟨np.toArray⟩) (.string ⟨nf.toArray⟩) 91
  obtain ⟨X, hX⟩ : ∃ X, w.alloc (.cells #[.int .i64 6, .int .i64 nA, .string ⟨np.toArray⟩, .string ⟨nf.toArray⟩] 91) = X := ⟨_, rfl⟩
  obtain ⟨N, hN⟩ : ∃ N, w.heap.size = N := ⟨_, rfl⟩
  rw [hX] at n0 n1 n2 n3 hbg
  rw [hN] at n0 n1 n2 n3
  have hNX : N < X.heap.size := World.block_lt_of_cell? X ⟨N, 0, none⟩ n0
  have hBX : Below B.heap.size B X := hB.trans (hbg.mono hB.size)
  have HPt : Hid (_) := specParts (some ⟨bt, ot, none⟩) tc t a X (hin.below hBX) hsh (by omega) hal (by rw [hn]; exact hn ▸ hnb)
  rw [hn] at HPt
  have HPe : Hid (partsGo t (kidsN (6, nA, np, nf)) ((a : Int) + 1) = pts10 t (a : Int)) := by
    exact (by unfold pts10; rw [Int.toNat_natCast, hn] : partsGo t (kidsN (6, nA, np, nf)) ((a : Int) + 1) = pts10 t (a : Int))
  rw [HPe.out] at HPt
  obtain ⟨k, hk⟩ : ∃ k, kidsN (6, nA, np, nf) = k := ⟨_, rfl⟩
  have HK : Hid (kidsN (6, nA, np, nf) = k) := hk
  rw [hk] at HPt HPl hpl hkk
  have HIh : Hid (∀ Y i, i < k → Below X.heap.size X Y → Calls Tryz.prog 110 #[.slice (some ⟨bt, ot, none⟩) t.length tc, .int .i64 ((pts10 t (a : Int)).getD i 0), .slice oa os.length oc] Y fun e w' => e = .returned (.int .i64 (((pts10 t (a : Int)).map (need12 d t os)).getD i 0)) ∧ Below Y.heap.size Y w') := fun Y i hi hy => by
    obtain ⟨q, e, hq, hqe⟩ := HPl.out i hi
    rw [map_getD12 (by omega), e]
    exact ih Y q (hBX.trans (hy.mono hBX.size)) hqe (by omega)
  have HLn : Hid (∀ i, i < k → 1 ≤ ((pts10 t (a : Int)).map (need12 d t os)).getD i 0 ∧ ((pts10 t (a : Int)).map (need12 d t os)).getD i 0 ≤ 60) := fun i hi => by
    obtain ⟨q, e, hq, hqe⟩ := HPl.out i hi
    rw [map_getD12 (by omega), e]
    exact need_at hqe (by omega) hlen
  obtain ⟨rs, hrs⟩ : ∃ rs, (pts10 t (a : Int)).map (need12 d t os) = rs := ⟨_, rfl⟩
  have HRl : Hid (rs.length = k) := by exact (by rw [← hrs, List.length_map, hpl] : rs.length = k)
  rw [hrs] at HIh HLn ⊢
  have HBX : Hid (Below w.heap.size w X) := hbg
  generalize pts10 t (a : Int) = pts at HPt HIh hpl
  have HN : Hid (∀ Y, Below X.heap.size X Y → Y.cell? ⟨N, 0, none⟩ = some (.int .i64 6)) := fun Y hy => (hy.cell (p := ⟨N, 0, none⟩) hNX).trans n0
  have HOs : Hid (∀ Y, Below X.heap.size X Y → AsIn Y oa os) := fun Y hy => hos.below (hBX.trans (hy.mono hBX.size))
  have hal2 : (a : Int) < (t.length : Int) := by omega
  have hk3 : k ≤ 3 := hkk.2
  obtain ⟨res, hres⟩ : ∃ r, mk12 (ord12 os (a : Int)) (6, nA, np, nf) rs = r := ⟨_, rfl⟩
  have HRs : Hid (mk12 (ord12 os (a : Int)) (6, nA, np, nf) rs = res) := hres
  rw [hres]
  clear ih hmem hnb HPl HPe hr hn hkk hbg hBX hrs hal n0 n1 n2 n3 hbt hB hp hk hos hres
  go_enter Tryz.func110, Tryz.ntmps110
  go_wp2_with fail
  refine Calls.mono HPt.out ?_
  rintro e V ⟨v, rfl, ho, hb2⟩
  obtain rfl : pts.length = k := hpl
  obtain ⟨pa, pc, rfl, hpV⟩ := own_as ho
  have HAs : Hid (∀ Y, Below V.heap.size V Y → AsIn Y pa pts) := fun Y hy => hpV.below hy
  have HXV : Hid (Below X.heap.size X V) := hb2
  have hbA : Below V.heap.size V (V.alloc (.cells #[] 2)) := (Below.refl _ _).alloc (Nat.le_refl _) _
  have hP0 : (V.alloc (.cells #[] 2)).ownsRow V.heap.size 2 1 (.slice (some ⟨V.heap.size, 0, none⟩) 0 0) 0 [] := World.ownsRow_lit (base := V.heap.size) (e := 2) (size := 1) V #[] 0 (Nat.le_refl _) (by decide) rfl
  obtain ⟨V1, hV1⟩ : ∃ V1, V.alloc (.cells #[] 2) = V1 := ⟨_, rfl⟩
  rw [hV1] at hbA hP0
  obtain ⟨B1, hB1⟩ : ∃ B1, V.heap.size = B1 := ⟨_, rfl⟩
  rw [hB1] at hP0
  have HP2 : Hid (V1.ownsRow B1 2 1 (.slice (some ⟨B1, 0, none⟩) 0 0) 0 (intsV (rs.take 0))) := hP0
  have HB2 : Hid (Below V.heap.size V V1) := hbA
  clear hbA hP0 hpV ho hb2 HPt
  go_wp2
  go_loopw [9, 10] (fun kv iv wx => ∃ i : Nat, iv = .int .i64 (i : Int) ∧ i ≤ pts.length ∧ Hid (wx.ownsRow B1 2 1 kv i (intsV (rs.take i))) ∧ Hid (Below V.heap.size V wx)) (fun _ iv _ => pts.length - (intOf iv).toNat)
  case atStart => exact ⟨0, rfl, Nat.zero_le _, HP2, HB2⟩
  case round =>
    obtain ⟨i, rfl, hi, HP, HBw⟩ := hrel
    clear HP2 HB2
    by_cases hlt : (i : Int) < (pts.length : Int)
    · have hi2 : i < pts.length := by omega
      obtain ⟨bp, op, rfl, _, p0⟩ := HAs.out wr HBw.out i hi2
      have HC : Hid (_) := HIh.out wr i hi2 (HXV.out.trans (HBw.out.mono HXV.out.size))
      obtain ⟨x, hx⟩ : ∃ x, rs.getD i 0 = x := ⟨_, rfl⟩
      have htk : rs.take (i + 1) = rs.take i ++ [x] := by
        have hil : i < rs.length := by rw [HRl.out]; exact hi2
        rw [List.take_succ_eq_append_getElem hil, ← hx]
        simp [List.getD, hil]
      have HTk : Hid (rs.take (i + 1) = rs.take i ++ [x]) := htk
      rw [hx] at HC
      have hB1w : B1 ≤ wr.heap.size := by rw [← hB1]; exact HBw.out.size
      generalize pts.getD i 0 = P0 at p0 HC
      clear hx htk
      go_wp2_with fail
      refine Calls.mono HC.out ?_
      rintro e Y0 ⟨rfl, hb0⟩
      have hp0 := own_below HP.out hb0
      obtain ⟨p', Y1, hr1, hp1, hg1⟩ := push_int12 x hp0 (Nat.le_trans hB1w hb0.size) (by omega)
      rw [← HTk.out] at hp1
      have HP3 : Hid (Y1.ownsRow B1 2 1 p' (i + 1) (intsV (rs.take (i + 1)))) := hp1
      have HB3 : Hid (Below V.heap.size V Y1) := by
        have h1 := HBw.out.trans (hb0.mono HBw.out.size)
        exact h1.grown hg1 h1.size (fun k e => by have := (hp0.lt k e).1; omega)
      clear hp0 hp1 hg1 hb0 HC HP p0
      go_wp2_with (at_builtin; refine wpList_append_run rfl (.tmp 27) (.tmp 35) 102 rfl _ _ _ rfl rfl hr1 ?_; clear hr1)
      go_roundw
      case rel => exact ⟨i + 1, by go_num, by omega, HP3, HB3⟩
      case measure => simp [intOf]; omega
    · have HIe : Hid (i = pts.length) := by exact (by omega : i = pts.length)
      have htk : rs.take i = rs := List.take_of_length_le (by rw [HRl.out, HIe.out]; exact Nat.le_refl _)
      have har := HP.out
      rw [htk] at har
      have hrl : i = rs.length := by rw [HRl.out, HIe.out]
      subst hrl
      have HAr : Hid (wr.ownsRow B1 2 1 _ rs.length (intsV rs)) := har
      have HFin : Hid (∀ Y, Below wr.heap.size wr Y → Below N w Y) := fun Y hy => by
        rw [← hN]
        have h1 := HBX.out.trans (HXV.out.mono HBX.out.size)
        have h2 := h1.trans (HBw.out.mono h1.size)
        exact h2.trans (hy.mono h2.size)
      have nn0 := HN.out wr (HXV.out.trans (HBw.out.mono HXV.out.size))
      have HOw : Hid (AsIn wr oa os) := HOs.out wr (HXV.out.trans (HBw.out.mono HXV.out.size))
      have hrk : rs.length = pts.length := HIe.out
      clear htk har HP HIh HOs HN HBw
      have hk2 : pts.length = 2 := by rw [← HK.out]; rfl
      obtain ⟨gk, ck, rfl⟩ := own_some HAr.out (by omega)
      have r0 : wr.cell? ⟨gk, 0, none⟩ = some (.int .i64 (rs.getD 0 0)) := ints_cell HAr.out 0 (by omega)
      have r1 : wr.cell? ⟨gk, 1, none⟩ = some (.int .i64 (rs.getD 1 0)) := ints_cell HAr.out 1 (by omega)
      obtain ⟨hx0, hx1⟩ := HLn.out 0 (by omega)
      obtain ⟨hy0, hy1⟩ := HLn.out 1 (by omega)
      have hl2 : (2 : Int) = (rs.length : Int) := by omega
      have hl0 : (0 : Int) < (rs.length : Int) := by omega
      have hl1 : (1 : Int) < (rs.length : Int) := by omega
      have HRp : Hid (pair12 (ord12 os (a : Int)) (rs.getD 0 0) (rs.getD 1 0) = res) := by
        exact (by have h := HRs.out; unfold mk12 at h; rw [if_pos ⟨by simp, by simp⟩] at h; exact h : pair12 (ord12 os (a : Int)) (rs.getD 0 0) (rs.getD 1 0) = res)
      generalize rs.getD 0 0 = x at r0 hx0 hx1 HRp
      generalize rs.getD 1 0 = y at r1 hy0 hy1 HRp
      clear HRs HAr HLn HRl HK HIe hk2 hrk
      rcases hol with rfl | hol
      · have HE : Hid ((if x = y then x + 1 else max x y) = res) := HRp.out
        have hz : ((([] : List Int).length : Int) == 0) = true := rfl
        simp only [List.length_nil]
        by_cases hxy : x = y
        · subst hxy
          have HF : Hid (x + 1 = res) := by exact (by rw [← HE.out, if_pos rfl] : x + 1 = res)
          have hxx : (x == x) = true := by simp
          clear HE HRp
          go_upto_region 13 with fail
          go_quiet (fail)
          go_wp2
          go_ret
          exact ⟨by rw [← HF.out]; rfl, by first | exact HFin.out _ (Below.refl _ _) | (refine HFin.out _ ?_; exact ⟨rfl, rfl, rfl, Nat.le_refl _, fun _ _ => rfl⟩)⟩
        · have hxb : (x == y) = false := beq_eq_false_iff_ne.2 hxy
          have HF : Hid (max x y = res) := by exact (by rw [← HE.out, if_neg hxy] : max x y = res)
          clear HE HRp hxy
          go_upto_region 13 with fail
          go_quiet (fail)
          go_upto_region 16 with fail
          generalize hwq : wr.drewN _ = wq
          have s0 : wq.cell? ⟨gk, 0, none⟩ = some (.int .i64 x) := by rw [← hwq]; exact r0
          have s1 : wq.cell? ⟨gk, 1, none⟩ = some (.int .i64 y) := by rw [← hwq]; exact r1
          have HFq : Hid (∀ Y, Below wq.heap.size wq Y → Below N w Y) := fun Y hy => HFin.out Y (by rw [← hwq] at hy; exact ⟨hy.os, hy.tape, hy.output, hy.size, hy.block⟩)
          clear hwq r0 r1
          replace HFin := HFq
          go_quiet (first | (go_at_call 132; exact Calls.quiet_of_same (specMax12 _ _ _)))
          go_wp2
          go_ret
          exact ⟨by rw [← HF.out]; rfl, by first | exact HFin.out _ (Below.refl _ _) | (refine HFin.out _ ?_; exact ⟨rfl, rfl, rfl, Nat.le_refl _, fun _ _ => rfl⟩)⟩
      · have hz : ((os.length : Int) == 0) = false := beq_eq_false_iff_ne.2 (by omega)
        have hoa : a < os.length := by omega
        have hoa2 : (a : Int) < (os.length : Int) := by omega
        obtain ⟨ob, oo, rfl, _, c5⟩ := HOw.out a hoa
        have HE : Hid ((if os.getD a 0 = 0 then max x (y + 1) else max y (x + 1)) = res) := by
          have ho : ord12 os (a : Int) = some (os.getD a 0) := by unfold ord12; rw [if_neg (fun e => by rw [e] at hoa; simp at hoa), Int.toNat_natCast]
          exact (by rw [← HRp.out, ho]; rfl : (if os.getD a 0 = 0 then max x (y + 1) else max y (x + 1)) = res)
        generalize os.getD a 0 = ov at c5 HE
        have hzn : ¬ os.length = 0 := by omega
        clear hol
        generalize os.length = ol at hz hoa2 hzn ⊢
        have hzd : decide (ol = 0) = false := decide_eq_false hzn
        have hzb : (ol == 0) = false := beq_eq_false_iff_ne.2 hzn
        clear HRp HOw hoa
        by_cases hov : ov = 0
        · have HF : Hid (max x (y + 1) = res) := by exact (by rw [← HE.out, if_pos hov] : max x (y + 1) = res)
          subst hov
          clear HE
          go_upto_region 13 with fail
          refine wp_region_held_drew (S := (fun _ => True)) (by kernel_rfl) ?_ (fun hHeld => ?_)
          · first | (dsimp only; done) | (dsimp only; go_keep) | go_keep
          refine wpAnyH_take (i := 0) (oi := ⟨some 45, _, _, _, _, _⟩) (v := ?vu0) rfl (by kernel_rfl) (by kernel_rfl) (by kernel_rfl) (fun _ _ _ h => h) (Or.inl ⟨by rfl, ?hyu0⟩) (by assumption) ?restu0
          case hyu0 => (intro wq hSw; (try dsimp only at hSw); first | (go_simp; done) | (go_simp; with_reducible rfl))
          simp only [Act.put, List.setIfInBounds_toArray, List.set_cons_zero, List.set_cons_succ]
          refine wpAnyH_take (i := 1) (oi := ⟨some 46, _, _, _, _, _⟩) (v := ?vu1) rfl (by kernel_rfl) (by kernel_rfl) (by kernel_rfl) (fun _ _ _ h => h) (Or.inl ⟨by rfl, ?hyu1⟩) (by assumption) ?restu1
          case hyu1 => (intro wq hSw; (try dsimp only at hSw); first | (go_simp; done) | (go_simp; with_reducible rfl))
          simp only [Act.put, List.setIfInBounds_toArray, List.set_cons_zero, List.set_cons_succ]
          refine wpAnyH_take (i := 2) (oi := ⟨some 47, _, _, _, _, _⟩) (v := ?vu2) rfl (by kernel_rfl) (by kernel_rfl) (by kernel_rfl) (fun _ _ _ h => h) (Or.inl ⟨by rfl, ?hyu2⟩) (by assumption) ?restu2
          case hyu2 => (intro wq hSw; (try dsimp only at hSw); first | (go_simp; done) | (go_simp; with_reducible rfl))
          simp only [Act.put, List.setIfInBounds_toArray, List.set_cons_zero, List.set_cons_succ]
          refine wpAnyH_take (i := 3) (oi := ⟨some 48, _, _, _, _, _⟩) (v := ?vu3) rfl (by kernel_rfl) (by kernel_rfl) (by kernel_rfl) (fun _ _ _ h => h) (Or.inl ⟨by rfl, ?hyu3⟩) (by assumption) ?restu3
          case hyu3 => (intro wq hSw; (try dsimp only at hSw); first | (go_simp; done) | (go_simp; with_reducible rfl))
          simp only [Act.put, List.setIfInBounds_toArray, List.set_cons_zero, List.set_cons_succ]
          refine wpAnyH_take (i := 4) (oi := ⟨some 49, _, _, _, _, _⟩) (v := undef) rfl (by kernel_rfl) (by kernel_rfl) (by kernel_rfl) (fun _ _ _ h => h) (Or.inr ⟨by rfl, rfl⟩) (by assumption) ?_
          simp only [Act.put, List.setIfInBounds_toArray, List.set_cons_zero, List.set_cons_succ]
          refine wpAnyH_take (i := 5) (oi := ⟨some 50, _, _, _, _, _⟩) (v := undef) rfl (by kernel_rfl) (by kernel_rfl) (by kernel_rfl) (fun _ _ _ h => h) (Or.inr ⟨by rfl, rfl⟩) (by assumption) ?_
          simp only [Act.put, List.setIfInBounds_toArray, List.set_cons_zero, List.set_cons_succ]
          refine wpAnyH_take (i := 6) (oi := ⟨some 51, _, _, _, _, _⟩) (v := undef) rfl (by kernel_rfl) (by kernel_rfl) (by kernel_rfl) (fun _ _ _ h => h) (Or.inr ⟨by rfl, rfl⟩) (by assumption) ?_
          simp only [Act.put, List.setIfInBounds_toArray, List.set_cons_zero, List.set_cons_succ]
          refine wpAnyH_take (i := 7) (oi := ⟨some 52, _, _, _, _, _⟩) (v := undef) rfl (by kernel_rfl) (by kernel_rfl) (by kernel_rfl) (fun _ _ _ h => h) (Or.inr ⟨by rfl, rfl⟩) (by assumption) ?_
          simp only [Act.put, List.setIfInBounds_toArray, List.set_cons_zero, List.set_cons_succ]
          refine wpAnyH_take (i := 8) (oi := ⟨some 53, _, _, _, _, _⟩) (v := undef) rfl (by kernel_rfl) (by kernel_rfl) (by kernel_rfl) (fun _ _ _ h => h) (Or.inr ⟨by rfl, rfl⟩) (by assumption) ?_
          simp only [Act.put, List.setIfInBounds_toArray, List.set_cons_zero, List.set_cons_succ]
          refine wpAnyH_take (i := 9) (oi := ⟨some 54, _, _, _, _, _⟩) (v := undef) rfl (by kernel_rfl) (by kernel_rfl) (by kernel_rfl) (fun _ _ _ h => h) (Or.inr ⟨by rfl, rfl⟩) (by assumption) ?_
          simp only [Act.put, List.setIfInBounds_toArray, List.set_cons_zero, List.set_cons_succ]
          refine wpAnyH_take (i := 10) (oi := ⟨some 55, _, _, _, _, _⟩) (v := undef) rfl (by kernel_rfl) (by kernel_rfl) (by kernel_rfl) (fun _ _ _ h => h) (Or.inr ⟨by rfl, rfl⟩) (by assumption) ?_
          simp only [Act.put, List.setIfInBounds_toArray, List.set_cons_zero, List.set_cons_succ]
          refine wpAnyH_take (i := 11) (oi := ⟨some 56, _, _, _, _, _⟩) (v := ?vu11) rfl (by kernel_rfl) (by kernel_rfl) (by kernel_rfl) (fun _ _ _ h => h) (Or.inl ⟨by rfl, ?hyu11⟩) (by assumption) ?restu11
          case hyu11 => (intro wq hSw; (try dsimp only at hSw); first | (go_simp; done) | (go_simp; with_reducible rfl))
          simp only [Act.put, List.setIfInBounds_toArray, List.set_cons_zero, List.set_cons_succ]
          refine wpAnyH_take (i := 12) (oi := ⟨some 44, _, _, _, _, _⟩) (v := ?vu12) rfl (by kernel_rfl) (by kernel_rfl) (by kernel_rfl) (fun _ _ _ h => h) (Or.inl ⟨by rfl, ?hyu12⟩) (by assumption) ?restu12
          case hyu12 => (intro wq hSw; (try dsimp only at hSw); first | (go_simp; done) | (go_simp; with_reducible rfl))
          simp only [Act.put, List.setIfInBounds_toArray, List.set_cons_zero, List.set_cons_succ]
          refine wpAnyH_done (by kernel_rfl) ?_ _
          go_upto_region 18 with fail
          generalize hwq : wr.drew = wq
          have s0 : wq.cell? ⟨gk, 0, none⟩ = some (.int .i64 x) := by rw [← hwq]; exact r0
          have s1 : wq.cell? ⟨gk, 1, none⟩ = some (.int .i64 y) := by rw [← hwq]; exact r1
          have HFq : Hid (∀ Y, Below wq.heap.size wq Y → Below N w Y) := fun Y hy => HFin.out Y (by rw [← hwq] at hy; exact ⟨hy.os, hy.tape, hy.output, hy.size, hy.block⟩)
          clear hwq r0 r1
          replace HFin := HFq
          go_quiet (first | (go_at_call 132; exact Calls.quiet_of_same (specMax12 _ _ _)))
          go_wp2
          go_ret
          exact ⟨by rw [← HF.out]; rfl, by first | exact HFin.out _ (Below.refl _ _) | (refine HFin.out _ ?_; exact ⟨rfl, rfl, rfl, Nat.le_refl _, fun _ _ => rfl⟩)⟩
        · have hob : (ov == 0) = false := beq_eq_false_iff_ne.2 hov
          have HF : Hid (max y (x + 1) = res) := by exact (by rw [← HE.out, if_neg hov] : max y (x + 1) = res)
          clear HE hov
          go_upto_region 13 with fail
          refine wp_region_held_drew (S := (fun _ => True)) (by kernel_rfl) ?_ (fun hHeld => ?_)
          · first | (dsimp only; done) | (dsimp only; go_keep) | go_keep
          refine wpAnyH_take (i := 0) (oi := ⟨some 45, _, _, _, _, _⟩) (v := ?vv0) rfl (by kernel_rfl) (by kernel_rfl) (by kernel_rfl) (fun _ _ _ h => h) (Or.inl ⟨by rfl, ?hyv0⟩) (by assumption) ?restv0
          case hyv0 => (intro wq hSw; (try dsimp only at hSw); first | (go_simp; done) | (go_simp; with_reducible rfl))
          simp only [Act.put, List.setIfInBounds_toArray, List.set_cons_zero, List.set_cons_succ]
          refine wpAnyH_take (i := 1) (oi := ⟨some 46, _, _, _, _, _⟩) (v := ?vv1) rfl (by kernel_rfl) (by kernel_rfl) (by kernel_rfl) (fun _ _ _ h => h) (Or.inl ⟨by rfl, ?hyv1⟩) (by assumption) ?restv1
          case hyv1 => (intro wq hSw; (try dsimp only at hSw); first | (go_simp; done) | (go_simp; with_reducible rfl))
          simp only [Act.put, List.setIfInBounds_toArray, List.set_cons_zero, List.set_cons_succ]
          refine wpAnyH_take (i := 2) (oi := ⟨some 47, _, _, _, _, _⟩) (v := ?vv2) rfl (by kernel_rfl) (by kernel_rfl) (by kernel_rfl) (fun _ _ _ h => h) (Or.inl ⟨by rfl, ?hyv2⟩) (by assumption) ?restv2
          case hyv2 => (intro wq hSw; (try dsimp only at hSw); first | (go_simp; done) | (go_simp; with_reducible rfl))
          simp only [Act.put, List.setIfInBounds_toArray, List.set_cons_zero, List.set_cons_succ]
          refine wpAnyH_take (i := 3) (oi := ⟨some 48, _, _, _, _, _⟩) (v := ?vv3) rfl (by kernel_rfl) (by kernel_rfl) (by kernel_rfl) (fun _ _ _ h => h) (Or.inl ⟨by rfl, ?hyv3⟩) (by assumption) ?restv3
          case hyv3 => (intro wq hSw; (try dsimp only at hSw); first | (go_simp; done) | (go_simp; with_reducible rfl))
          simp only [Act.put, List.setIfInBounds_toArray, List.set_cons_zero, List.set_cons_succ]
          refine wpAnyH_take (i := 4) (oi := ⟨some 49, _, _, _, _, _⟩) (v := undef) rfl (by kernel_rfl) (by kernel_rfl) (by kernel_rfl) (fun _ _ _ h => h) (Or.inr ⟨by rfl, rfl⟩) (by assumption) ?_
          simp only [Act.put, List.setIfInBounds_toArray, List.set_cons_zero, List.set_cons_succ]
          refine wpAnyH_take (i := 5) (oi := ⟨some 50, _, _, _, _, _⟩) (v := undef) rfl (by kernel_rfl) (by kernel_rfl) (by kernel_rfl) (fun _ _ _ h => h) (Or.inr ⟨by rfl, rfl⟩) (by assumption) ?_
          simp only [Act.put, List.setIfInBounds_toArray, List.set_cons_zero, List.set_cons_succ]
          refine wpAnyH_take (i := 6) (oi := ⟨some 51, _, _, _, _, _⟩) (v := undef) rfl (by kernel_rfl) (by kernel_rfl) (by kernel_rfl) (fun _ _ _ h => h) (Or.inr ⟨by rfl, rfl⟩) (by assumption) ?_
          simp only [Act.put, List.setIfInBounds_toArray, List.set_cons_zero, List.set_cons_succ]
          refine wpAnyH_take (i := 7) (oi := ⟨some 52, _, _, _, _, _⟩) (v := undef) rfl (by kernel_rfl) (by kernel_rfl) (by kernel_rfl) (fun _ _ _ h => h) (Or.inr ⟨by rfl, rfl⟩) (by assumption) ?_
          simp only [Act.put, List.setIfInBounds_toArray, List.set_cons_zero, List.set_cons_succ]
          refine wpAnyH_take (i := 8) (oi := ⟨some 53, _, _, _, _, _⟩) (v := undef) rfl (by kernel_rfl) (by kernel_rfl) (by kernel_rfl) (fun _ _ _ h => h) (Or.inr ⟨by rfl, rfl⟩) (by assumption) ?_
          simp only [Act.put, List.setIfInBounds_toArray, List.set_cons_zero, List.set_cons_succ]
          refine wpAnyH_take (i := 9) (oi := ⟨some 54, _, _, _, _, _⟩) (v := undef) rfl (by kernel_rfl) (by kernel_rfl) (by kernel_rfl) (fun _ _ _ h => h) (Or.inr ⟨by rfl, rfl⟩) (by assumption) ?_
          simp only [Act.put, List.setIfInBounds_toArray, List.set_cons_zero, List.set_cons_succ]
          refine wpAnyH_take (i := 10) (oi := ⟨some 55, _, _, _, _, _⟩) (v := undef) rfl (by kernel_rfl) (by kernel_rfl) (by kernel_rfl) (fun _ _ _ h => h) (Or.inr ⟨by rfl, rfl⟩) (by assumption) ?_
          simp only [Act.put, List.setIfInBounds_toArray, List.set_cons_zero, List.set_cons_succ]
          refine wpAnyH_take (i := 11) (oi := ⟨some 56, _, _, _, _, _⟩) (v := ?vv11) rfl (by kernel_rfl) (by kernel_rfl) (by kernel_rfl) (fun _ _ _ h => h) (Or.inl ⟨by rfl, ?hyv11⟩) (by assumption) ?restv11
          case hyv11 => (intro wq hSw; (try dsimp only at hSw); first | (go_simp; done) | (go_simp; with_reducible rfl))
          simp only [Act.put, List.setIfInBounds_toArray, List.set_cons_zero, List.set_cons_succ]
          refine wpAnyH_take (i := 12) (oi := ⟨some 44, _, _, _, _, _⟩) (v := ?vv12) rfl (by kernel_rfl) (by kernel_rfl) (by kernel_rfl) (fun _ _ _ h => h) (Or.inl ⟨by rfl, ?hyv12⟩) (by assumption) ?restv12
          case hyv12 => (intro wq hSw; (try dsimp only at hSw); first | (go_simp; done) | (go_simp; with_reducible rfl))
          simp only [Act.put, List.setIfInBounds_toArray, List.set_cons_zero, List.set_cons_succ]
          refine wpAnyH_done (by kernel_rfl) ?_ _
          go_upto_region 19 with fail
          generalize hwq : wr.drew = wq
          have s0 : wq.cell? ⟨gk, 0, none⟩ = some (.int .i64 x) := by rw [← hwq]; exact r0
          have s1 : wq.cell? ⟨gk, 1, none⟩ = some (.int .i64 y) := by rw [← hwq]; exact r1
          have HFq : Hid (∀ Y, Below wq.heap.size wq Y → Below N w Y) := fun Y hy => HFin.out Y (by rw [← hwq] at hy; exact ⟨hy.os, hy.tape, hy.output, hy.size, hy.block⟩)
          clear hwq r0 r1
          replace HFin := HFq
          go_quiet (first | (go_at_call 132; exact Calls.quiet_of_same (specMax12 _ _ _)))
          go_wp2
          go_ret
          exact ⟨by rw [← HF.out]; rfl, by first | exact HFin.out _ (Below.refl _ _) | (refine HFin.out _ ?_; exact ⟨rfl, rfl, rfl, Nat.le_refl _, fun _ _ => rfl⟩)⟩
set_option maxHeartbeats 8000000 in
set_option maxRecDepth 100000 in
theorem specNeed7 (B : World) (ta : Option Addr) (tc : Nat) (t : List Nd) (oa : Option Addr) (oc : Nat) (os : List Int) (hin : NodesIn B ta t.length t) (hos : AsIn B oa os) (_hol : os = [] ∨ os.length = t.length) (hsh : ShortT t) (hgood : Good10 t) (hlen : t.length ≤ 60) (d : Nat) (ih : Nee12 B ta tc t oa oc os d) (w : World) (a : Nat) (hB : Below B.heap.size B w) (hp : 0 ≤ endV t (a : Int)) (hd : t.length ≤ a + (d + 1)) (hkd : (t.getD a nd0).1 = 7) :
    Calls Tryz.prog 110 #[.slice ta t.length tc, .int .i64 (a : Int), .slice oa os.length oc] w fun e w' => e = .returned (.int .i64 (need12 (d + 1) t os (a : Int))) ∧ Below w.heap.size w w' := by
  obtain ⟨hal, _, _, _, _⟩ := end_parts hp
  have hmem : t.getD a nd0 ∈ t := by simp [List.getD, hal]
  have hnb := hgood _ hmem
  have HPl : Hid (∀ i, i < kidsN (t.getD a nd0) → ∃ q : Nat, (pts10 t (a : Int)).getD i 0 = (q : Int) ∧ a < q ∧ 0 ≤ endV t (q : Int)) := fun i hi => need_place hp hi
  have hpl := pts_len t a
  obtain ⟨n, hn⟩ : ∃ n, t.getD a nd0 = n := ⟨_, rfl⟩
  obtain ⟨bt, ot, rfl, hbt, q0, q1, q2, q3⟩ := (hin.below hB).2 a hal
  have hkk := kidsV_ok hnb
  have hr : need12 (d + 1) t os (a : Int) = mk12 (ord12 os (a : Int)) (t.getD a nd0) ((pts10 t (a : Int)).map (need12 d t os)) := by rw [need12, Int.toNat_natCast]
  rw [hr]
  rw [hn] at q0 q1 q2 q3 HPl hpl hkk hkd ⊢
  obtain ⟨kd, nA, np, nf⟩ := n
  simp only at hkd
  subst hkd
  simp only at q0 q1 q2 q3
  obtain ⟨⟨n0, n1, n2, n3⟩, hbg⟩ := node_new12 w (.int .i64 7) (.int .i64 nA) (.string ⟨np.toArray⟩) (.string ⟨nf.toArray⟩) 91
  obtain ⟨X, hX⟩ : ∃ X, w.alloc (.cells #[.int .i64 7, .int .i64 nA, .string ⟨np.toArray⟩, .string ⟨nf.toArray⟩] 91) = X := ⟨_, rfl⟩
  obtain ⟨N, hN⟩ : ∃ N, w.heap.size = N := ⟨_, rfl⟩
  rw [hX] at n0 n1 n2 n3 hbg
  rw [hN] at n0 n1 n2 n3
  have hNX : N < X.heap.size := World.block_lt_of_cell? X ⟨N, 0, none⟩ n0
  have hBX : Below B.heap.size B X := hB.trans (hbg.mono hB.size)
  have HPt : Hid (_) := specParts (some ⟨bt, ot, none⟩) tc t a X (hin.below hBX) hsh (by omega) hal (by rw [hn]; exact hn ▸ hnb)
  rw [hn] at HPt
  have HPe : Hid (partsGo t (kidsN (7, nA, np, nf)) ((a : Int) + 1) = pts10 t (a : Int)) := by
    exact (by unfold pts10; rw [Int.toNat_natCast, hn] : partsGo t (kidsN (7, nA, np, nf)) ((a : Int) + 1) = pts10 t (a : Int))
  rw [HPe.out] at HPt
  obtain ⟨k, hk⟩ : ∃ k, kidsN (7, nA, np, nf) = k := ⟨_, rfl⟩
  have HK : Hid (kidsN (7, nA, np, nf) = k) := hk
  rw [hk] at HPt HPl hpl hkk
  have HIh : Hid (∀ Y i, i < k → Below X.heap.size X Y → Calls Tryz.prog 110 #[.slice (some ⟨bt, ot, none⟩) t.length tc, .int .i64 ((pts10 t (a : Int)).getD i 0), .slice oa os.length oc] Y fun e w' => e = .returned (.int .i64 (((pts10 t (a : Int)).map (need12 d t os)).getD i 0)) ∧ Below Y.heap.size Y w') := fun Y i hi hy => by
    obtain ⟨q, e, hq, hqe⟩ := HPl.out i hi
    rw [map_getD12 (by omega), e]
    exact ih Y q (hBX.trans (hy.mono hBX.size)) hqe (by omega)
  have HLn : Hid (∀ i, i < k → 1 ≤ ((pts10 t (a : Int)).map (need12 d t os)).getD i 0 ∧ ((pts10 t (a : Int)).map (need12 d t os)).getD i 0 ≤ 60) := fun i hi => by
    obtain ⟨q, e, hq, hqe⟩ := HPl.out i hi
    rw [map_getD12 (by omega), e]
    exact need_at hqe (by omega) hlen
  obtain ⟨rs, hrs⟩ : ∃ rs, (pts10 t (a : Int)).map (need12 d t os) = rs := ⟨_, rfl⟩
  have HRl : Hid (rs.length = k) := by exact (by rw [← hrs, List.length_map, hpl] : rs.length = k)
  rw [hrs] at HIh HLn ⊢
  have HBX : Hid (Below w.heap.size w X) := hbg
  generalize pts10 t (a : Int) = pts at HPt HIh hpl
  have HN : Hid (∀ Y, Below X.heap.size X Y → Y.cell? ⟨N, 0, none⟩ = some (.int .i64 7)) := fun Y hy => (hy.cell (p := ⟨N, 0, none⟩) hNX).trans n0
  have HOs : Hid (∀ Y, Below X.heap.size X Y → AsIn Y oa os) := fun Y hy => hos.below (hBX.trans (hy.mono hBX.size))
  have hal2 : (a : Int) < (t.length : Int) := by omega
  have hk3 : k ≤ 3 := hkk.2
  obtain ⟨res, hres⟩ : ∃ r, mk12 (ord12 os (a : Int)) (7, nA, np, nf) rs = r := ⟨_, rfl⟩
  have HRs : Hid (mk12 (ord12 os (a : Int)) (7, nA, np, nf) rs = res) := hres
  rw [hres]
  clear ih hmem hnb HPl HPe hr hn hkk hbg hBX hrs hal n0 n1 n2 n3 hbt hB hp hk hos hres
  go_enter Tryz.func110, Tryz.ntmps110
  go_wp2_with fail
  refine Calls.mono HPt.out ?_
  rintro e V ⟨v, rfl, ho, hb2⟩
  obtain rfl : pts.length = k := hpl
  obtain ⟨pa, pc, rfl, hpV⟩ := own_as ho
  have HAs : Hid (∀ Y, Below V.heap.size V Y → AsIn Y pa pts) := fun Y hy => hpV.below hy
  have HXV : Hid (Below X.heap.size X V) := hb2
  have hbA : Below V.heap.size V (V.alloc (.cells #[] 2)) := (Below.refl _ _).alloc (Nat.le_refl _) _
  have hP0 : (V.alloc (.cells #[] 2)).ownsRow V.heap.size 2 1 (.slice (some ⟨V.heap.size, 0, none⟩) 0 0) 0 [] := World.ownsRow_lit (base := V.heap.size) (e := 2) (size := 1) V #[] 0 (Nat.le_refl _) (by decide) rfl
  obtain ⟨V1, hV1⟩ : ∃ V1, V.alloc (.cells #[] 2) = V1 := ⟨_, rfl⟩
  rw [hV1] at hbA hP0
  obtain ⟨B1, hB1⟩ : ∃ B1, V.heap.size = B1 := ⟨_, rfl⟩
  rw [hB1] at hP0
  have HP2 : Hid (V1.ownsRow B1 2 1 (.slice (some ⟨B1, 0, none⟩) 0 0) 0 (intsV (rs.take 0))) := hP0
  have HB2 : Hid (Below V.heap.size V V1) := hbA
  clear hbA hP0 hpV ho hb2 HPt
  go_wp2
  go_loopw [9, 10] (fun kv iv wx => ∃ i : Nat, iv = .int .i64 (i : Int) ∧ i ≤ pts.length ∧ Hid (wx.ownsRow B1 2 1 kv i (intsV (rs.take i))) ∧ Hid (Below V.heap.size V wx)) (fun _ iv _ => pts.length - (intOf iv).toNat)
  case atStart => exact ⟨0, rfl, Nat.zero_le _, HP2, HB2⟩
  case round =>
    obtain ⟨i, rfl, hi, HP, HBw⟩ := hrel
    clear HP2 HB2
    by_cases hlt : (i : Int) < (pts.length : Int)
    · have hi2 : i < pts.length := by omega
      obtain ⟨bp, op, rfl, _, p0⟩ := HAs.out wr HBw.out i hi2
      have HC : Hid (_) := HIh.out wr i hi2 (HXV.out.trans (HBw.out.mono HXV.out.size))
      obtain ⟨x, hx⟩ : ∃ x, rs.getD i 0 = x := ⟨_, rfl⟩
      have htk : rs.take (i + 1) = rs.take i ++ [x] := by
        have hil : i < rs.length := by rw [HRl.out]; exact hi2
        rw [List.take_succ_eq_append_getElem hil, ← hx]
        simp [List.getD, hil]
      have HTk : Hid (rs.take (i + 1) = rs.take i ++ [x]) := htk
      rw [hx] at HC
      have hB1w : B1 ≤ wr.heap.size := by rw [← hB1]; exact HBw.out.size
      generalize pts.getD i 0 = P0 at p0 HC
      clear hx htk
      go_wp2_with fail
      refine Calls.mono HC.out ?_
      rintro e Y0 ⟨rfl, hb0⟩
      have hp0 := own_below HP.out hb0
      obtain ⟨p', Y1, hr1, hp1, hg1⟩ := push_int12 x hp0 (Nat.le_trans hB1w hb0.size) (by omega)
      rw [← HTk.out] at hp1
      have HP3 : Hid (Y1.ownsRow B1 2 1 p' (i + 1) (intsV (rs.take (i + 1)))) := hp1
      have HB3 : Hid (Below V.heap.size V Y1) := by
        have h1 := HBw.out.trans (hb0.mono HBw.out.size)
        exact h1.grown hg1 h1.size (fun k e => by have := (hp0.lt k e).1; omega)
      clear hp0 hp1 hg1 hb0 HC HP p0
      go_wp2_with (at_builtin; refine wpList_append_run rfl (.tmp 27) (.tmp 35) 102 rfl _ _ _ rfl rfl hr1 ?_; clear hr1)
      go_roundw
      case rel => exact ⟨i + 1, by go_num, by omega, HP3, HB3⟩
      case measure => simp [intOf]; omega
    · have HIe : Hid (i = pts.length) := by exact (by omega : i = pts.length)
      have htk : rs.take i = rs := List.take_of_length_le (by rw [HRl.out, HIe.out]; exact Nat.le_refl _)
      have har := HP.out
      rw [htk] at har
      have hrl : i = rs.length := by rw [HRl.out, HIe.out]
      subst hrl
      have HAr : Hid (wr.ownsRow B1 2 1 _ rs.length (intsV rs)) := har
      have HFin : Hid (∀ Y, Below wr.heap.size wr Y → Below N w Y) := fun Y hy => by
        rw [← hN]
        have h1 := HBX.out.trans (HXV.out.mono HBX.out.size)
        have h2 := h1.trans (HBw.out.mono h1.size)
        exact h2.trans (hy.mono h2.size)
      have nn0 := HN.out wr (HXV.out.trans (HBw.out.mono HXV.out.size))
      have HOw : Hid (AsIn wr oa os) := HOs.out wr (HXV.out.trans (HBw.out.mono HXV.out.size))
      have hrk : rs.length = pts.length := HIe.out
      clear htk har HP HIh HOs HN HBw
      have hk2 : pts.length = 3 := by rw [← HK.out]; rfl
      obtain ⟨gk, ck, rfl⟩ := own_some HAr.out (by omega)
      have r0 : wr.cell? ⟨gk, 0, none⟩ = some (.int .i64 (rs.getD 0 0)) := ints_cell HAr.out 0 (by omega)
      have r1 : wr.cell? ⟨gk, 1, none⟩ = some (.int .i64 (rs.getD 1 0)) := ints_cell HAr.out 1 (by omega)
      have r2 : wr.cell? ⟨gk, 2, none⟩ = some (.int .i64 (rs.getD 2 0)) := ints_cell HAr.out 2 (by omega)
      have hl0 : (0 : Int) < (rs.length : Int) := by omega
      have hl1 : (1 : Int) < (rs.length : Int) := by omega
      have hl2 : (2 : Int) < (rs.length : Int) := by omega
      have HF : Hid (max (rs.getD 0 0) (max (rs.getD 1 0) (rs.getD 2 0)) = res) := by
        exact (by have h := HRs.out; unfold mk12 at h; rw [if_neg (by simp), if_pos rfl] at h; exact h : max (rs.getD 0 0) (max (rs.getD 1 0) (rs.getD 2 0)) = res)
      generalize rs.getD 0 0 = x at r0 HF
      generalize rs.getD 1 0 = y at r1 HF
      generalize rs.getD 2 0 = z at r2 HF
      clear HRs HAr HLn HRl HK HIe hk2 hrk HOw
      go_upto_region 21 with fail
      go_quiet (first | (go_at_call 132; exact Calls.quiet_of_same (specMax12 _ _ _)))
      go_wp2
      go_ret
      exact ⟨by rw [← HF.out]; rfl, by first | exact HFin.out _ (Below.refl _ _) | (refine HFin.out _ ?_; exact ⟨rfl, rfl, rfl, Nat.le_refl _, fun _ _ => rfl⟩)⟩
set_option maxHeartbeats 8000000 in
set_option maxRecDepth 100000 in
theorem specNeedA (B : World) (ta : Option Addr) (tc : Nat) (t : List Nd) (oa : Option Addr) (oc : Nat) (os : List Int) (hin : NodesIn B ta t.length t) (hos : AsIn B oa os) (_hol : os = [] ∨ os.length = t.length) (hsh : ShortT t) (hgood : Good10 t) (hlen : t.length ≤ 60) (d : Nat) (ih : Nee12 B ta tc t oa oc os d) (w : World) (a : Nat) (hB : Below B.heap.size B w) (hp : 0 ≤ endV t (a : Int)) (hd : t.length ≤ a + (d + 1)) (hkd : ¬ (3 ≤ (t.getD a nd0).1 ∧ (t.getD a nd0).1 ≤ 6) ∧ (t.getD a nd0).1 ≠ 7) :
    Calls Tryz.prog 110 #[.slice ta t.length tc, .int .i64 (a : Int), .slice oa os.length oc] w fun e w' => e = .returned (.int .i64 (need12 (d + 1) t os (a : Int))) ∧ Below w.heap.size w w' := by
  obtain ⟨hal, _, _, _, _⟩ := end_parts hp
  have hmem : t.getD a nd0 ∈ t := by simp [List.getD, hal]
  have hnb := hgood _ hmem
  have HPl : Hid (∀ i, i < kidsN (t.getD a nd0) → ∃ q : Nat, (pts10 t (a : Int)).getD i 0 = (q : Int) ∧ a < q ∧ 0 ≤ endV t (q : Int)) := fun i hi => need_place hp hi
  have hpl := pts_len t a
  obtain ⟨n, hn⟩ : ∃ n, t.getD a nd0 = n := ⟨_, rfl⟩
  obtain ⟨bt, ot, rfl, hbt, q0, q1, q2, q3⟩ := (hin.below hB).2 a hal
  have hkk := kidsV_ok hnb
  have hr : need12 (d + 1) t os (a : Int) = mk12 (ord12 os (a : Int)) (t.getD a nd0) ((pts10 t (a : Int)).map (need12 d t os)) := by rw [need12, Int.toNat_natCast]
  rw [hr]
  rw [hn] at q0 q1 q2 q3 HPl hpl hkk hkd ⊢
  obtain ⟨kd, nA, np, nf⟩ := n
  simp only at hkd
  simp only at q0 q1 q2 q3
  obtain ⟨⟨n0, n1, n2, n3⟩, hbg⟩ := node_new12 w (.int .i64 kd) (.int .i64 nA) (.string ⟨np.toArray⟩) (.string ⟨nf.toArray⟩) 91
  obtain ⟨X, hX⟩ : ∃ X, w.alloc (.cells #[.int .i64 kd, .int .i64 nA, .string ⟨np.toArray⟩, .string ⟨nf.toArray⟩] 91) = X := ⟨_, rfl⟩
  obtain ⟨N, hN⟩ : ∃ N, w.heap.size = N := ⟨_, rfl⟩
  rw [hX] at n0 n1 n2 n3 hbg
  rw [hN] at n0 n1 n2 n3
  have hNX : N < X.heap.size := World.block_lt_of_cell? X ⟨N, 0, none⟩ n0
  have hBX : Below B.heap.size B X := hB.trans (hbg.mono hB.size)
  have HPt : Hid (_) := specParts (some ⟨bt, ot, none⟩) tc t a X (hin.below hBX) hsh (by omega) hal (by rw [hn]; exact hn ▸ hnb)
  rw [hn] at HPt
  have HPe : Hid (partsGo t (kidsN (kd, nA, np, nf)) ((a : Int) + 1) = pts10 t (a : Int)) := by
    exact (by unfold pts10; rw [Int.toNat_natCast, hn] : partsGo t (kidsN (kd, nA, np, nf)) ((a : Int) + 1) = pts10 t (a : Int))
  rw [HPe.out] at HPt
  obtain ⟨k, hk⟩ : ∃ k, kidsN (kd, nA, np, nf) = k := ⟨_, rfl⟩
  have HK : Hid (kidsN (kd, nA, np, nf) = k) := hk
  rw [hk] at HPt HPl hpl hkk
  have HIh : Hid (∀ Y i, i < k → Below X.heap.size X Y → Calls Tryz.prog 110 #[.slice (some ⟨bt, ot, none⟩) t.length tc, .int .i64 ((pts10 t (a : Int)).getD i 0), .slice oa os.length oc] Y fun e w' => e = .returned (.int .i64 (((pts10 t (a : Int)).map (need12 d t os)).getD i 0)) ∧ Below Y.heap.size Y w') := fun Y i hi hy => by
    obtain ⟨q, e, hq, hqe⟩ := HPl.out i hi
    rw [map_getD12 (by omega), e]
    exact ih Y q (hBX.trans (hy.mono hBX.size)) hqe (by omega)
  have HLn : Hid (∀ i, i < k → 1 ≤ ((pts10 t (a : Int)).map (need12 d t os)).getD i 0 ∧ ((pts10 t (a : Int)).map (need12 d t os)).getD i 0 ≤ 60) := fun i hi => by
    obtain ⟨q, e, hq, hqe⟩ := HPl.out i hi
    rw [map_getD12 (by omega), e]
    exact need_at hqe (by omega) hlen
  obtain ⟨rs, hrs⟩ : ∃ rs, (pts10 t (a : Int)).map (need12 d t os) = rs := ⟨_, rfl⟩
  have HRl : Hid (rs.length = k) := by exact (by rw [← hrs, List.length_map, hpl] : rs.length = k)
  rw [hrs] at HIh HLn ⊢
  have HBX : Hid (Below w.heap.size w X) := hbg
  generalize pts10 t (a : Int) = pts at HPt HIh hpl
  have HN : Hid (∀ Y, Below X.heap.size X Y → Y.cell? ⟨N, 0, none⟩ = some (.int .i64 kd)) := fun Y hy => (hy.cell (p := ⟨N, 0, none⟩) hNX).trans n0
  have HOs : Hid (∀ Y, Below X.heap.size X Y → AsIn Y oa os) := fun Y hy => hos.below (hBX.trans (hy.mono hBX.size))
  have hal2 : (a : Int) < (t.length : Int) := by omega
  have hk3 : k ≤ 3 := hkk.2
  obtain ⟨res, hres⟩ : ∃ r, mk12 (ord12 os (a : Int)) (kd, nA, np, nf) rs = r := ⟨_, rfl⟩
  have HRs : Hid (mk12 (ord12 os (a : Int)) (kd, nA, np, nf) rs = res) := hres
  rw [hres]
  clear ih hmem hnb HPl HPe hr hn hkk hbg hBX hrs hal n0 n1 n2 n3 hbt hB hp hk hos hres
  go_enter Tryz.func110, Tryz.ntmps110
  go_wp2_with fail
  refine Calls.mono HPt.out ?_
  rintro e V ⟨v, rfl, ho, hb2⟩
  obtain rfl : pts.length = k := hpl
  obtain ⟨pa, pc, rfl, hpV⟩ := own_as ho
  have HAs : Hid (∀ Y, Below V.heap.size V Y → AsIn Y pa pts) := fun Y hy => hpV.below hy
  have HXV : Hid (Below X.heap.size X V) := hb2
  have hbA : Below V.heap.size V (V.alloc (.cells #[] 2)) := (Below.refl _ _).alloc (Nat.le_refl _) _
  have hP0 : (V.alloc (.cells #[] 2)).ownsRow V.heap.size 2 1 (.slice (some ⟨V.heap.size, 0, none⟩) 0 0) 0 [] := World.ownsRow_lit (base := V.heap.size) (e := 2) (size := 1) V #[] 0 (Nat.le_refl _) (by decide) rfl
  obtain ⟨V1, hV1⟩ : ∃ V1, V.alloc (.cells #[] 2) = V1 := ⟨_, rfl⟩
  rw [hV1] at hbA hP0
  obtain ⟨B1, hB1⟩ : ∃ B1, V.heap.size = B1 := ⟨_, rfl⟩
  rw [hB1] at hP0
  have HP2 : Hid (V1.ownsRow B1 2 1 (.slice (some ⟨B1, 0, none⟩) 0 0) 0 (intsV (rs.take 0))) := hP0
  have HB2 : Hid (Below V.heap.size V V1) := hbA
  clear hbA hP0 hpV ho hb2 HPt
  go_wp2
  go_loopw [9, 10] (fun kv iv wx => ∃ i : Nat, iv = .int .i64 (i : Int) ∧ i ≤ pts.length ∧ Hid (wx.ownsRow B1 2 1 kv i (intsV (rs.take i))) ∧ Hid (Below V.heap.size V wx)) (fun _ iv _ => pts.length - (intOf iv).toNat)
  case atStart => exact ⟨0, rfl, Nat.zero_le _, HP2, HB2⟩
  case round =>
    obtain ⟨i, rfl, hi, HP, HBw⟩ := hrel
    clear HP2 HB2
    by_cases hlt : (i : Int) < (pts.length : Int)
    · have hi2 : i < pts.length := by omega
      obtain ⟨bp, op, rfl, _, p0⟩ := HAs.out wr HBw.out i hi2
      have HC : Hid (_) := HIh.out wr i hi2 (HXV.out.trans (HBw.out.mono HXV.out.size))
      obtain ⟨x, hx⟩ : ∃ x, rs.getD i 0 = x := ⟨_, rfl⟩
      have htk : rs.take (i + 1) = rs.take i ++ [x] := by
        have hil : i < rs.length := by rw [HRl.out]; exact hi2
        rw [List.take_succ_eq_append_getElem hil, ← hx]
        simp [List.getD, hil]
      have HTk : Hid (rs.take (i + 1) = rs.take i ++ [x]) := htk
      rw [hx] at HC
      have hB1w : B1 ≤ wr.heap.size := by rw [← hB1]; exact HBw.out.size
      generalize pts.getD i 0 = P0 at p0 HC
      clear hx htk
      go_wp2_with fail
      refine Calls.mono HC.out ?_
      rintro e Y0 ⟨rfl, hb0⟩
      have hp0 := own_below HP.out hb0
      obtain ⟨p', Y1, hr1, hp1, hg1⟩ := push_int12 x hp0 (Nat.le_trans hB1w hb0.size) (by omega)
      rw [← HTk.out] at hp1
      have HP3 : Hid (Y1.ownsRow B1 2 1 p' (i + 1) (intsV (rs.take (i + 1)))) := hp1
      have HB3 : Hid (Below V.heap.size V Y1) := by
        have h1 := HBw.out.trans (hb0.mono HBw.out.size)
        exact h1.grown hg1 h1.size (fun k e => by have := (hp0.lt k e).1; omega)
      clear hp0 hp1 hg1 hb0 HC HP p0
      go_wp2_with (at_builtin; refine wpList_append_run rfl (.tmp 27) (.tmp 35) 102 rfl _ _ _ rfl rfl hr1 ?_; clear hr1)
      go_roundw
      case rel => exact ⟨i + 1, by go_num, by omega, HP3, HB3⟩
      case measure => simp [intOf]; omega
    · have HIe : Hid (i = pts.length) := by exact (by omega : i = pts.length)
      have htk : rs.take i = rs := List.take_of_length_le (by rw [HRl.out, HIe.out]; exact Nat.le_refl _)
      have har := HP.out
      rw [htk] at har
      have hrl : i = rs.length := by rw [HRl.out, HIe.out]
      subst hrl
      have HAr : Hid (wr.ownsRow B1 2 1 _ rs.length (intsV rs)) := har
      have HFin : Hid (∀ Y, Below wr.heap.size wr Y → Below N w Y) := fun Y hy => by
        rw [← hN]
        have h1 := HBX.out.trans (HXV.out.mono HBX.out.size)
        have h2 := h1.trans (HBw.out.mono h1.size)
        exact h2.trans (hy.mono h2.size)
      have nn0 := HN.out wr (HXV.out.trans (HBw.out.mono HXV.out.size))
      have HOw : Hid (AsIn wr oa os) := HOs.out wr (HXV.out.trans (HBw.out.mono HXV.out.size))
      have hrk : rs.length = pts.length := HIe.out
      clear htk har HP HIh HOs HN HBw
      have hk3b := HLn.out
      have HF : Hid (most12 rs 0 1 = res) := by
        exact (by have h := HRs.out; unfold mk12 at h; rw [if_neg (fun e => hkd.1 e), if_neg hkd.2] at h; exact h : most12 rs 0 1 = res)
      have k3 : (kd == 3) = false := beq_eq_false_iff_ne.2 (by omega)
      have k4 : (kd == 4) = false := beq_eq_false_iff_ne.2 (by omega)
      have k5 : (kd == 5) = false := beq_eq_false_iff_ne.2 (by omega)
      have k6 : (kd == 6) = false := beq_eq_false_iff_ne.2 (by omega)
      have k7 : (kd == 7) = false := beq_eq_false_iff_ne.2 hkd.2
      have HLr : Hid (∀ j, j < rs.length → 1 ≤ rs.getD j 0 ∧ rs.getD j 0 ≤ 60) := fun j hj => HLn.out j (by omega)
      have hr3 : rs.length ≤ 3 := by omega
      have HM0 : Hid (most12 (rs.drop 0) ((0 : Nat) : Int) 1 = res) := by exact (by rw [List.drop_zero]; exact HF.out : most12 (rs.drop 0) ((0 : Nat) : Int) 1 = res)
      obtain ⟨ka, kc, rfl⟩ := own_any12 HAr.out
      clear HRs HLn HRl HK HIe hrk HOw hk3b HF
      go_wp2
      go_loopw [11, 12] (fun mv jv wx => ∃ (j : Nat) (m : Int), jv = .int .i64 (j : Int) ∧ mv = .int .i64 m ∧ j ≤ rs.length ∧ 1 ≤ m ∧ m ≤ 100 ∧ Hid (most12 (rs.drop j) (j : Int) m = res) ∧ wx = wr) (fun _ jv _ => rs.length - (intOf jv).toNat)
      case atStart => exact ⟨0, 1, rfl, rfl, Nat.zero_le _, by omega, by omega, HM0, rfl⟩
      case round =>
        obtain ⟨j, m, rfl, rfl, hj, hm0, hm1, HMj, hwx⟩ := hrel
        obtain rfl := hwx.symm
        clear HM0
        by_cases hlt2 : (j : Int) < (rs.length : Int)
        · have hj2 : j < rs.length := by omega
          obtain ⟨gk, ck, e⟩ := own_some HAr.out (by omega)
          injection e with e1 _ e3
          subst e1 e3
          have rj : wr.cell? ⟨gk, j, none⟩ = some (.int .i64 (rs.getD j 0)) := ints_cell HAr.out j hj2
          obtain ⟨hx0, hx1⟩ := HLr.out j hj2
          have hdr : rs.drop j = rs.getD j 0 :: rs.drop (j + 1) := by
            rw [List.drop_eq_getElem_cons hj2]
            simp [List.getD, hj2]
          have HMn : Hid (most12 (rs.drop (j + 1)) ((j + 1 : Nat) : Int) (max m (rs.getD j 0 + (j : Int))) = res) := by
            have h := HMj.out
            rw [hdr, most12] at h
            exact h
          generalize rs.getD j 0 = x at rj hx0 hx1 HMn
          have hmx1 : 1 ≤ max m (x + (j : Int)) := by omega
          have hmx2 : max m (x + (j : Int)) ≤ 100 := by omega
          have HMx : Hid (1 ≤ max m (x + (j : Int)) ∧ max m (x + (j : Int)) ≤ 100) := ⟨hmx1, hmx2⟩
          clear hdr HMj hmx1 hmx2
          go_wp2_with (go_at_call 132; refine (specMax12 _ _ _).mono ?_; rintro e w' ⟨rfl, rfl⟩)
          go_roundw
          case rel => exact ⟨j + 1, max m (x + (j : Int)), by go_num, rfl, by omega, HMx.out.1, HMx.out.2, HMn, (by first | rfl | trivial)⟩
          case measure => simp [intOf]; omega
        · have HF : Hid (m = res) := by
            have h := HMj.out
            rw [List.drop_eq_nil_of_le (by omega)] at h
            exact h
          go_wp2
          go_ret
          exact ⟨by rw [← HF.out]; rfl, HFin.out _ (Below.refl _ _)⟩

theorem specNeed (B : World) (ta : Option Addr) (tc : Nat) (t : List Nd) (oa : Option Addr) (oc : Nat) (os : List Int) (hin : NodesIn B ta t.length t) (hos : AsIn B oa os) (hol : os = [] ∨ os.length = t.length) (hsh : ShortT t) (hgood : Good10 t) (hlen : t.length ≤ 60) : ∀ d, Nee12 B ta tc t oa oc os d
  | 0 => fun w a hB hp hd => by
    obtain ⟨hal, _⟩ := end_parts hp
    omega
  | d + 1 => fun w a hB hp hd => by
    have ih := specNeed B ta tc t oa oc os hin hos hol hsh hgood hlen d
    by_cases h36 : 3 ≤ (t.getD a nd0).1 ∧ (t.getD a nd0).1 ≤ 6
    · rcases (show (t.getD a nd0).1 = 3 ∨ (t.getD a nd0).1 = 4 ∨ (t.getD a nd0).1 = 5 ∨ (t.getD a nd0).1 = 6 by omega) with e | e | e | e
      · exact specNeed3 B ta tc t oa oc os hin hos hol hsh hgood hlen d ih w a hB hp hd e
      · exact specNeed4 B ta tc t oa oc os hin hos hol hsh hgood hlen d ih w a hB hp hd e
      · exact specNeed5 B ta tc t oa oc os hin hos hol hsh hgood hlen d ih w a hB hp hd e
      · exact specNeed6 B ta tc t oa oc os hin hos hol hsh hgood hlen d ih w a hB hp hd e
    · by_cases h7 : (t.getD a nd0).1 = 7
      · exact specNeed7 B ta tc t oa oc os hin hos hol hsh hgood hlen d ih w a hB hp hd h7
      · exact specNeedA B ta tc t oa oc os hin hos hol hsh hgood hlen d ih w a hB hp hd ⟨h36, h7⟩

end Go.Proofs.YtogobeegibngiaaGreatDoor
