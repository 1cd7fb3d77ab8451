/-
  Parts of one proof, one behind the other: ImgS6, RowW.
-/
import Derived.Test.YthjemelnbbpdcaaGreatDoorP18
import Derived.Deep.RegionLaw
import Derived.Test.YthjemelnbbpdcaaGreatDoorP13
import Derived.Test.YthjemelnbbpdcaaGreatDoorP5
import Derived.Laws.IdiomCopy

/-! The contract of chapter 14's specification: l14Read. -/
namespace Go.Proofs.YthjemelnbbpdcaaGreatDoor
open Go.RowKit

theorem cell_alR {w : World} {a : Addr} {v : Value} (o : Obj) (h : w.cell? a = some v) : (w.alloc o).cell? a = some v :=
  (World.cell?_of_block (Below.heap_alloc _ _ _ (World.block_lt_of_cell? w a h))).trans h
theorem getD_five (ws : List (List UInt8)) (y0 y1 y2 y3 y4 : List UInt8) (h0 : ws.getD 0 [] = y0) (h1 : ws.getD 1 [] = y1) (h2 : ws.getD 2 [] = y2) (h3 : ws.getD 3 [] = y3) (h4 : ws.getD 4 [] = y4) : insRd ws = (readV y0, readV y1, readV y2, readV y3, if y4 = [45] then [] else y4) := by
  unfold insRd; rw [h0, h1, h2, h3, h4]
theorem snoc_of {xs : List RV} (h : xs ≠ []) : ∃ ys nm ar code av cv, xs = ys ++ [((nm, ar, code), av, cv)] := by
  obtain ⟨ys, x, e⟩ : ∃ ys x, xs = ys ++ [x] := ⟨xs.dropLast, xs.getLast h, (List.dropLast_concat_getLast h).symm⟩
  obtain ⟨⟨nm, ar, code⟩, av, cv⟩ := x
  exact ⟨ys, nm, ar, code, av, cv, e⟩

set_option maxHeartbeats 8000000 in
set_option maxRecDepth 100000 in
theorem specReadI (la : Option Addr) (len cap : Nat) (ls : List (List UInt8)) (w : World) (hin : TextsIn w la len ls) (hlen : len ≤ 400001) (hll : ∀ j, (ls.getD j []).length ≤ 400000) :
    Calls Tryz.prog 27 #[.slice la len cap] w fun e w' => ∃ v xs, e = .returned v ∧ (xs : List RV).map (·.1) = readI [] ls ∧ Rd14 w w' v xs := by
  obtain rfl : ls.length = len := hin.1
  have HIn : Hid (∀ V, Below w.heap.size w V → TextsIn V la ls.length ls) := fun V hV => hin.below hV
  have HLL : Hid (∀ j, (ls.getD j []).length ≤ 400000) := hll
  have HR0 : Hid (Rd14 w (w.alloc (.cells #[] 40)) (.slice (some ⟨w.heap.size, 0, none⟩) 0 0) []) := Rd14.nil (Below.refl _ _)
  obtain ⟨n, hn⟩ : ∃ n, ls.length = n := ⟨_, rfl⟩
  have HN : Hid (ls.length = n) := hn
  rw [hn] at hlen HIn ⊢
  clear hin hll hn
  go_enter Tryz.func27, Tryz.ntmps27
  go_wp2
  go_loopw [3, 4] (fun ov iv wr => ∃ (k : Nat) (a : Option Addr) (c : Nat) (xs : List RV), ov = .slice a xs.length c ∧ iv = .int .i64 (k : Int) ∧ k ≤ n ∧ xs.length ≤ k ∧ Hid (∀ z ∈ xs, z.1.2.2.length ≤ k) ∧ Hid (Rd14 w wr (.slice a xs.length c) xs) ∧ Hid (readI [] ls = readI (xs.map (·.1)) (ls.drop k))) (fun _ iv _ => n - (intOf iv).toNat)
  case atStart => exact ⟨0, _, 0, [], rfl, rfl, by omega, by simp, (fun z hz => (by cases hz) : ∀ z ∈ ([] : List RV), z.1.2.2.length ≤ 0), HR0, (rfl : readI [] ls = readI (([] : List RV).map (·.1)) (ls.drop 0))⟩
  case round =>
    obtain ⟨k, a, c, xs, rfl, rfl, hk, hxk, HCk, HRd, HG⟩ := hrel
    clear HR0
    by_cases hkl : (k : Int) < (n : Int)
    rotate_left
    · have HE : Hid (xs.map (·.1) = readI [] ls) := by
        have e : k = ls.length := by have := HN.out; omega
        exact (by rw [HG.out, e, List.drop_length]; rfl : xs.map (·.1) = readI [] ls)
      clear HG HCk
      go_wp2
      go_ret
      first | exact ⟨_, rfl, xs, HE.out, HRd.out⟩ | exact ⟨_, xs, rfl, HE.out, HRd.out⟩
    have hk2 : k < ls.length := by have := HN.out; omega
    obtain ⟨b, off, rfl, hbl, hcl⟩ := (HIn.out wr HRd.out.b).2 k (by omega)
    have hxl := HLL.out k
    have hat := readI_at (xs.map (·.1)) ls k hk2
    rw [← HG.out] at hat
    obtain ⟨x, hx⟩ : ∃ x, ls.getD k [] = x := ⟨_, rfl⟩
    rw [hx] at hcl hxl hat
    have HSp : Hid (_) := specSplit x 32 32 wr rfl (by omega)
    have hwl := word_lenR 32 x
    have hml : (splitL 32 x).length ≤ x.length + 1 := splitGo_len 32 x []
    clear HG hx hbl hk2
    obtain ⟨ws, hws⟩ : ∃ ws, splitL 32 x = ws := ⟨_, rfl⟩
    rw [hws] at HSp hat hwl hml
    clear hws
    go_wp2_with fail
    refine Calls.mono HSp.out ?_
    rintro e w2 ⟨g2, cp2, rfl, hown2, hb2⟩
    clear HSp hcl
    have hR2 := HRd.out.below hb2
    have hg2 := (hown2.lt g2 rfl).2
    have hcw : ∀ j, j < ws.length → w2.cell? ⟨g2, j, none⟩ = some (.string ⟨(ws.getD j []).toArray⟩) := fun j hj => str_cellsD hown2 rfl j hj
    have HCw : Hid (∀ j, j < ws.length → w2.cell? ⟨g2, j, none⟩ = some (.string ⟨(ws.getD j []).toArray⟩)) := hcw
    have HR2 : Hid (Rd14 w w2 (.slice a xs.length c) xs ∧ g2 < w2.heap.size) := ⟨hR2, hg2⟩
    have hm1 : ws.length ≤ 400001 := by omega
    clear hown2 hb2 HRd hcw hR2 hg2
    obtain ⟨y0, hy0⟩ : ∃ y, ws.getD 0 [] = y := ⟨_, rfl⟩
    obtain ⟨y1, hy1⟩ : ∃ y, ws.getD 1 [] = y := ⟨_, rfl⟩
    obtain ⟨y2, hy2⟩ : ∃ y, ws.getD 2 [] = y := ⟨_, rfl⟩
    obtain ⟨y3, hy3⟩ : ∃ y, ws.getD 3 [] = y := ⟨_, rfl⟩
    obtain ⟨y4, hy4⟩ : ∃ y, ws.getD 4 [] = y := ⟨_, rfl⟩
    have l0 := hwl 0
    have l1 := hwl 1
    have l2 := hwl 2
    have l3 := hwl 3
    rw [hy0] at l0
    rw [hy1] at l1
    rw [hy2] at l2
    rw [hy3] at l3
    rw [getD_five ws y0 y1 y2 y3 y4 hy0 hy1 hy2 hy3 hy4, hy0, hy1, hy2] at hat
    have HY : Hid (ws.getD 0 [] = y0 ∧ ws.getD 1 [] = y1 ∧ ws.getD 2 [] = y2 ∧ ws.getD 3 [] = y3 ∧ ws.getD 4 [] = y4) := ⟨hy0, hy1, hy2, hy3, hy4⟩
    obtain ⟨m, hm⟩ : ∃ m, ws.length = m := ⟨_, rfl⟩
    rw [hm] at hat hm1 HCw ⊢
    have HMm : Hid (ws.length = m) := hm
    have HAt : Hid (_) := hat
    clear hy0 hy1 hy2 hy3 hy4 hwl hm hat
    have HNo : Hid (m ≠ 5 ∨ xs = [] → ¬ (m = 4 ∧ y0 = kwRt) → readI [] ls = []) := fun h1 h2 => by
      have h := HAt.out
      rw [if_neg h2, if_pos (by rcases h1 with h1 | h1; exact Or.inl h1; exact Or.inr (by rw [h1]; rfl))] at h
      exact h
    have HZ : Hid (Rd14 w (w2.alloc (.cells #[] 40)) (.slice (some ⟨w2.heap.size, 0, none⟩) 0 0) []) := Rd14.nil HR2.out.1.b
    by_cases h4 : m = 4
    · subst h4
      have d0 := HCw.out 0 (by omega)
      rw [HY.out.1] at d0
      by_cases hA : y0 = [114, 111, 117, 116, 105, 110, 101]
      · subst hA
        have HG1 : Hid (readI [] ls = readI (xs.map (·.1) ++ [(y1, readV y2, [])]) (ls.drop (k + 1))) := by
          have h := HAt.out
          rw [if_pos ⟨rfl, rfl⟩] at h
          exact h
        have d1 := HCw.out 1 (by omega)
        have d2 := HCw.out 2 (by omega)
        rw [HY.out.2.1] at d1
        rw [HY.out.2.2.1] at d2
        clear HAt HNo HZ
        go_wp2_with fail
        refine (specRead y2 _ (by omega)).mono ?_
        rintro e w5 ⟨rfl, hw5⟩
        obtain rfl := hw5.symm
        clear hw5
        generalize readV y2 = rv at HG1 ⊢
        generalize readB y2 = rb
        obtain ⟨g', c', Y, hrun, hY⟩ := HR2.out.1.rt y1 rv (by omega)
        have HRY : Hid (Rd14 w Y (.slice (some ⟨g', 0, none⟩) (xs.length + 1) c') (xs ++ [((y1, rv, []), none, 0)])) := hY
        have HG2 : Hid (readI [] ls = readI ((xs ++ [((y1, rv, []), none, 0)] : List RV).map (·.1)) (ls.drop (k + 1))) := by
          have h := HG1.out
          exact (by rw [List.map_append]; exact h : readI [] ls = readI ((xs ++ [((y1, rv, []), none, 0)] : List RV).map (·.1)) (ls.drop (k + 1)))
        have HC2 : Hid (∀ z ∈ xs ++ [((y1, rv, []), none, 0)], z.1.2.2.length ≤ k + 1) := fun z hz => by
          rcases List.mem_append.1 hz with h | h
          · exact Nat.le_succ_of_le (HCk.out z h)
          · obtain rfl := List.mem_singleton.1 h
            simp
        clear hY d0 d2
        go_wp2_with (at_builtin; refine wpList_append_run rfl (.tmp 38) (.tmp 44) 24 rfl _ _ _ rfl rfl hrun ?_; clear hrun)
        go_roundw
        case rel => exact ⟨k + 1, some ⟨g', 0, none⟩, c', xs ++ [((y1, rv, []), none, 0)], by rw [List.length_append]; rfl, by go_num, by omega, by rw [List.length_append]; simp; omega, HC2, by rw [List.length_append]; exact HRY, HG2⟩
        case measure => simp [intOf]; omega
      · have dA : (y0 == [114, 111, 117, 116, 105, 110, 101]) = false := beq_eq_false_iff_ne.2 hA
        have HE : Hid (readI [] ls = []) := HNo.out (Or.inl (by omega)) (fun h => hA h.2)
        clear HAt HNo hA
        go_wp2
        go_ret
        exact ⟨_, [], rfl, HE.out.symm, HZ.out⟩
    have b4 : ((m : Int) == 4) = false := beq_eq_false_iff_ne.2 (by omega)
    by_cases h5 : m = 5
    rotate_left
    · have b5 : ((m : Int) != 5) = true := bne_iff_ne.2 (by omega)
      have HE : Hid (readI [] ls = []) := HNo.out (Or.inl h5) (fun h => h4 h.1)
      clear HAt HNo h4 h5
      go_wp2
      go_ret
      exact ⟨_, [], rfl, HE.out.symm, HZ.out⟩
    subst h5
    clear b4 h4
    by_cases hxs : xs = []
    · subst hxs
      have HE : Hid (readI [] ls = []) := HNo.out (Or.inr rfl) (fun h => by omega)
      clear HAt HNo
      go_wp2
      go_ret
      exact ⟨_, [], rfl, HE.out.symm, HZ.out⟩
    have HAd : Hid (readI [] ls = readI (addI (xs.map (·.1)) (readV y0, readV y1, readV y2, readV y3, if y4 = [45] then [] else y4)) (ls.drop (k + 1))) := by
      have h := HAt.out
      rw [if_neg (fun h => by omega), if_neg (fun h => by rcases h with h | h; omega; exact hxs (List.map_eq_nil_iff.1 h))] at h
      exact h
    obtain ⟨ys, nm, ar, code, av, cv, rfl⟩ := snoc_of hxs
    clear HAt HNo HZ hxs
    have hl : (ys ++ [((nm, ar, code), av, cv)]).length = ys.length + 1 := by simp
    rw [hl] at hxk HR2 ⊢
    obtain ⟨gO, cO, eO⟩ := own_some HR2.out.1.fo.row (by simp)
    injection eO with e1 e2 e3
    subst e1
    clear e2 e3 cO hl
    have hcode : code.length ≤ k := HCk.out _ (List.mem_append.2 (Or.inr (List.mem_singleton.2 rfl)))
    have HCy : Hid (∀ z ∈ ys, z.1.2.2.length ≤ k) := fun z hz => HCk.out z (List.mem_append.2 (Or.inl hz))
    have HRd0 : Hid (_) := fun U : World => specRead y0 U (by omega)
    have HRd1 : Hid (_) := fun U : World => specRead y1 U (by omega)
    have HRd2 : Hid (_) := fun U : World => specRead y2 U (by omega)
    have HRd3 : Hid (_) := fun U : World => specRead y3 U (by omega)
    generalize readV y0 = r0 at HRd0 HAd
    generalize readV y1 = r1 at HRd1 HAd
    generalize readV y2 = r2 at HRd2 HAd
    generalize readV y3 = r3 at HRd3 HAd
    generalize readB y0 = q0 at HRd0
    generalize readB y1 = q1 at HRd1
    generalize readB y2 = q2 at HRd2
    generalize readB y3 = q3 at HRd3
    have B1 := Bi14.new HR2.out.1 (fun j hj => HCw.out j (by rw [HMm.out] at hj; exact hj)) HR2.out.2 (0, 0, 0, 0, y4)
    obtain ⟨N, hN⟩ : ∃ N, w2.heap.size = N := ⟨_, rfl⟩
    obtain ⟨X1, hX1⟩ : ∃ X1, w2.alloc (.cells #[.int .i64 0, .int .i64 0, .int .i64 0, .int .i64 0, .string ⟨y4.toArray⟩] 57) = X1 := ⟨_, rfl⟩
    simp only at B1
    rw [hX1, hN] at B1
    obtain ⟨p, hp⟩ : ∃ p, ys.length = p := ⟨_, rfl⟩
    have HP : Hid (ys.length = p) := hp
    rw [hp] at hxk B1 ⊢
    have d4 := HCw.out 4 (by omega)
    rw [HY.out.2.2.2.2] at d4
    have k4 := B1.c4
    have kf := B1.fz 4
    simp only at k4
    have hl5 : IntKind.i64.wrap ((p : Int) + 1 - 1) = (p : Int) := by rw [show (p : Int) + 1 - 1 = (p : Int) by omega]; rw [IntKind.wrap_i64]; omega
    have hl6 : ¬ ((p : Int) + 1 = 0) := by omega
    have hpp : (p : Int) < (p : Int) + 1 := by omega
    have HXk : Hid (p + 1 ≤ k) := hxk
    clear HCk HR2 HCw hp
    by_cases hd : y4 = [45]
    · subst hd
      rw [if_pos rfl] at HAd
      have B2 := B1.set 4 (.string ⟨#[]⟩) (i' := (0, 0, 0, 0, [])) rfl
      obtain ⟨X2, hX2⟩ : ∃ X, X1.setCell ⟨N, 4, none⟩ (.string ⟨#[]⟩) = X := ⟨_, rfl⟩
      rw [hX2] at B2
      clear B1
      have B3 := B2.set 0 (.int .i64 r0) (i' := (r0, 0, 0, 0, [])) rfl
      have e0 := B2.c0
      have f0 := B2.fz 0
      have d0 := B2.cw 0 (by rw [HMm.out]; omega)
      simp only at e0
      rw [HY.out.1] at d0
      obtain ⟨X3, hX3⟩ : ∃ X, X2.setCell ⟨N, 0, none⟩ (.int .i64 r0) = X := ⟨_, rfl⟩
      rw [hX3] at B3
      have B4 := B3.set 1 (.int .i64 r1) (i' := (r0, r1, 0, 0, [])) rfl
      have e1 := B3.c1
      have f1 := B3.fz 1
      have d1 := B3.cw 1 (by rw [HMm.out]; omega)
      simp only at e1
      rw [HY.out.2.1] at d1
      obtain ⟨X4, hX4⟩ : ∃ X, X3.setCell ⟨N, 1, none⟩ (.int .i64 r1) = X := ⟨_, rfl⟩
      rw [hX4] at B4
      have B5 := B4.set 2 (.int .i64 r2) (i' := (r0, r1, r2, 0, [])) rfl
      have e2 := B4.c2
      have f2 := B4.fz 2
      have d2 := B4.cw 2 (by rw [HMm.out]; omega)
      simp only at e2
      rw [HY.out.2.2.1] at d2
      obtain ⟨X5, hX5⟩ : ∃ X, X4.setCell ⟨N, 2, none⟩ (.int .i64 r2) = X := ⟨_, rfl⟩
      rw [hX5] at B5
      have B6 := B5.set 3 (.int .i64 r3) (i' := (r0, r1, r2, r3, [])) rfl
      have e3 := B5.c3
      have f3 := B5.fz 3
      have d3 := B5.cw 3 (by rw [HMm.out]; omega)
      simp only at e3
      rw [HY.out.2.2.2.1] at d3
      obtain ⟨X6, hX6⟩ : ∃ X, X5.setCell ⟨N, 3, none⟩ (.int .i64 r3) = X := ⟨_, rfl⟩
      rw [hX6] at B6
      have b0 := B6.c0
      have b1 := B6.c1
      have b2 := B6.c2
      have b3 := B6.c3
      have b4 := B6.c4
      simp only at b0 b1 b2 b3 b4
      have hB6 := B6.rd
      rw [← HP.out] at hB6
      have p2 := hB6.code
      obtain ⟨g', c', Y, hrun, hcY, hfY, hRY⟩ := hB6.drew.ins (r0, r1, r2, r3, []) (by omega)
      rw [HP.out] at p2 hcY hfY hRY
      have HRY : Hid (Rd14 w (Y.setCell ⟨gO, p * 3 + 2, none⟩ (.slice (some ⟨g', 0, none⟩) (code.length + 1) c')) (.slice (some ⟨gO, 0, none⟩) (p + 1) c) (ys ++ [((nm, ar, code ++ [(r0, r1, r2, r3, [])]), some ⟨g', 0, none⟩, c')])) := hRY
      have hs6 : X6.drew.heap.size = X6.heap.size := rfl
      rw [hs6] at hrun
      simp only at hrun
      change (Builtin.append_ _ _ _).run Tryz.prog (X6.alloc (.cells #[.int .i64 r0, .int .i64 r1, .int .i64 r2, .int .i64 r3, .string ⟨[].toArray⟩] 57)).drew = _ at hrun
      have p2a : (X6.alloc (.cells #[.int .i64 r0, .int .i64 r1, .int .i64 r2, .int .i64 r3, .string ⟨[].toArray⟩] 57)).cell? ⟨gO, p * 3 + 2, none⟩ = some (.slice av code.length cv) := cell_alR _ p2
      have HG1 : Hid (readI [] ls = readI ((ys ++ [((nm, ar, code ++ [(r0, r1, r2, r3, [])]), some ⟨g', 0, none⟩, c')] : List RV).map (·.1)) (ls.drop (k + 1))) := by
        have h := HAd.out
        rw [List.map_append] at h
        rw [List.map_append]
        exact h.trans (by rw [show List.map (fun x : RV => x.1) [((nm, ar, code), av, cv)] = [(nm, ar, code)] from rfl, addI_snoc]; rfl)
      have HC2 : Hid (∀ z ∈ ys ++ [((nm, ar, code ++ [(r0, r1, r2, r3, [])]), some ⟨g', 0, none⟩, c')], z.1.2.2.length ≤ k + 1) := fun z hz => by
        rcases List.mem_append.1 hz with h | h
        · exact Nat.le_succ_of_le (HCy.out z h)
        · obtain rfl := List.mem_singleton.1 h
          simp
          omega
      clear B2 B3 B4 B5 B6 hB6 hRY HAd hs6 hcode HCy HIn HLL
      go_wp2_with fail
      refine Calls.mono (HRd0.out _) ?_
      rintro e u0 ⟨rfl, hu0⟩
      obtain rfl := hu0.symm
      clear hu0
      go_wp2_with fail
      refine Calls.mono (HRd1.out _) ?_
      rintro e u1 ⟨rfl, hu1⟩
      obtain rfl := hu1.symm
      clear hu1
      go_wp2_with fail
      refine Calls.mono (HRd2.out _) ?_
      rintro e u2 ⟨rfl, hu2⟩
      obtain rfl := hu2.symm
      clear hu2
      go_wp2_with fail
      refine Calls.mono (HRd3.out _) ?_
      rintro e u3 ⟨rfl, hu3⟩
      obtain rfl := hu3.symm
      clear hu3
      go_wp2
      go_region_law (first | (refine step_append_run (by rfl) (.tmp 104) (.tmp 106) 38 (by rfl) _ _ _ (by rfl) (by rfl) hrun ?_))
      all_goals
        go_wp2
        go_roundw
        case rel => exact ⟨k + 1, some ⟨gO, 0, none⟩, c, ys ++ [((nm, ar, code ++ [(r0, r1, r2, r3, [])]), some ⟨g', 0, none⟩, c')], by rw [List.length_append, HP.out]; rfl, by go_num, by omega, by rw [List.length_append, HP.out]; simp; have := HXk.out; omega, HC2, by rw [List.length_append, HP.out]; exact HRY, HG1⟩
        case measure => simp [intOf]; omega
    have hd2 : (y4 == [45]) = false := beq_eq_false_iff_ne.2 hd
    rw [if_neg hd] at HAd
    obtain ⟨X2, hX2⟩ : ∃ X, X1 = X := ⟨_, rfl⟩
    subst hX2
    have B2 := B1
    clear B1 hd
    have B3 := B2.set 0 (.int .i64 r0) (i' := (r0, 0, 0, 0, y4)) rfl
    have e0 := B2.c0
    have f0 := B2.fz 0
    have d0 := B2.cw 0 (by rw [HMm.out]; omega)
    simp only at e0
    rw [HY.out.1] at d0
    obtain ⟨X3, hX3⟩ : ∃ X, X1.setCell ⟨N, 0, none⟩ (.int .i64 r0) = X := ⟨_, rfl⟩
    rw [hX3] at B3
    have B4 := B3.set 1 (.int .i64 r1) (i' := (r0, r1, 0, 0, y4)) rfl
    have e1 := B3.c1
    have f1 := B3.fz 1
    have d1 := B3.cw 1 (by rw [HMm.out]; omega)
    simp only at e1
    rw [HY.out.2.1] at d1
    obtain ⟨X4, hX4⟩ : ∃ X, X3.setCell ⟨N, 1, none⟩ (.int .i64 r1) = X := ⟨_, rfl⟩
    rw [hX4] at B4
    have B5 := B4.set 2 (.int .i64 r2) (i' := (r0, r1, r2, 0, y4)) rfl
    have e2 := B4.c2
    have f2 := B4.fz 2
    have d2 := B4.cw 2 (by rw [HMm.out]; omega)
    simp only at e2
    rw [HY.out.2.2.1] at d2
    obtain ⟨X5, hX5⟩ : ∃ X, X4.setCell ⟨N, 2, none⟩ (.int .i64 r2) = X := ⟨_, rfl⟩
    rw [hX5] at B5
    have B6 := B5.set 3 (.int .i64 r3) (i' := (r0, r1, r2, r3, y4)) rfl
    have e3 := B5.c3
    have f3 := B5.fz 3
    have d3 := B5.cw 3 (by rw [HMm.out]; omega)
    simp only at e3
    rw [HY.out.2.2.2.1] at d3
    obtain ⟨X6, hX6⟩ : ∃ X, X5.setCell ⟨N, 3, none⟩ (.int .i64 r3) = X := ⟨_, rfl⟩
    rw [hX6] at B6
    have b0 := B6.c0
    have b1 := B6.c1
    have b2 := B6.c2
    have b3 := B6.c3
    have b4 := B6.c4
    simp only at b0 b1 b2 b3 b4
    have hB6 := B6.rd
    rw [← HP.out] at hB6
    have p2 := hB6.code
    obtain ⟨g', c', Y, hrun, hcY, hfY, hRY⟩ := hB6.drew.ins (r0, r1, r2, r3, y4) (by omega)
    rw [HP.out] at p2 hcY hfY hRY
    have HRY : Hid (Rd14 w (Y.setCell ⟨gO, p * 3 + 2, none⟩ (.slice (some ⟨g', 0, none⟩) (code.length + 1) c')) (.slice (some ⟨gO, 0, none⟩) (p + 1) c) (ys ++ [((nm, ar, code ++ [(r0, r1, r2, r3, y4)]), some ⟨g', 0, none⟩, c')])) := hRY
    have hs6 : X6.drew.heap.size = X6.heap.size := rfl
    rw [hs6] at hrun
    simp only at hrun
    change (Builtin.append_ _ _ _).run Tryz.prog (X6.alloc (.cells #[.int .i64 r0, .int .i64 r1, .int .i64 r2, .int .i64 r3, .string ⟨y4.toArray⟩] 57)).drew = _ at hrun
    have p2a : (X6.alloc (.cells #[.int .i64 r0, .int .i64 r1, .int .i64 r2, .int .i64 r3, .string ⟨y4.toArray⟩] 57)).cell? ⟨gO, p * 3 + 2, none⟩ = some (.slice av code.length cv) := cell_alR _ p2
    have HG1 : Hid (readI [] ls = readI ((ys ++ [((nm, ar, code ++ [(r0, r1, r2, r3, y4)]), some ⟨g', 0, none⟩, c')] : List RV).map (·.1)) (ls.drop (k + 1))) := by
      have h := HAd.out
      rw [List.map_append] at h
      rw [List.map_append]
      exact h.trans (by rw [show List.map (fun x : RV => x.1) [((nm, ar, code), av, cv)] = [(nm, ar, code)] from rfl, addI_snoc]; rfl)
    have HC2 : Hid (∀ z ∈ ys ++ [((nm, ar, code ++ [(r0, r1, r2, r3, y4)]), some ⟨g', 0, none⟩, c')], z.1.2.2.length ≤ k + 1) := fun z hz => by
      rcases List.mem_append.1 hz with h | h
      · exact Nat.le_succ_of_le (HCy.out z h)
      · obtain rfl := List.mem_singleton.1 h
        simp
        omega
    clear B2 B3 B4 B5 B6 hB6 hRY HAd hs6 hcode HCy HIn HLL
    go_wp2_with fail
    refine Calls.mono (HRd0.out _) ?_
    rintro e u0 ⟨rfl, hu0⟩
    obtain rfl := hu0.symm
    clear hu0
    go_wp2_with fail
    refine Calls.mono (HRd1.out _) ?_
    rintro e u1 ⟨rfl, hu1⟩
    obtain rfl := hu1.symm
    clear hu1
    go_wp2_with fail
    refine Calls.mono (HRd2.out _) ?_
    rintro e u2 ⟨rfl, hu2⟩
    obtain rfl := hu2.symm
    clear hu2
    go_wp2_with fail
    refine Calls.mono (HRd3.out _) ?_
    rintro e u3 ⟨rfl, hu3⟩
    obtain rfl := hu3.symm
    clear hu3
    go_wp2
    go_region_law (first | (refine step_append_run (by rfl) (.tmp 104) (.tmp 106) 38 (by rfl) _ _ _ (by rfl) (by rfl) hrun ?_))
    all_goals
      go_wp2
      go_roundw
      case rel => exact ⟨k + 1, some ⟨gO, 0, none⟩, c, ys ++ [((nm, ar, code ++ [(r0, r1, r2, r3, y4)]), some ⟨g', 0, none⟩, c')], by rw [List.length_append, HP.out]; rfl, by go_num, by omega, by rw [List.length_append, HP.out]; simp; have := HXk.out; omega, HC2, by rw [List.length_append, HP.out]; exact HRY, HG1⟩
      case measure => simp [intOf]; omega

end Go.Proofs.YthjemelnbbpdcaaGreatDoor

/-! A row of bytes that a call has made of a string ('[]byte(s)'), and 'append(b, s...)' onto it, whether there is room or not. -/
namespace Go.Proofs.YthjemelnbbpdcaaGreatDoor
open Go.RowKit

/-- Block g, new since 'base', holds the bytes l from its head on; all of its cap cells may be written. -/
structure RowW (w : World) (base g cap : Nat) (l : List UInt8) : Prop where
  row : RowB w base g cap l
  all : ∀ j, j < cap → (w.cell? ⟨g, j, none⟩).isSome = true ∧ w.frozen? ⟨g, j, none⟩ = false

theorem RowW.kept {w w' : World} {base g cap : Nat} {l : List UInt8} {row : Option Nat} (h : RowW w base g cap l) (hg : w.grownBy w' row) (hne : some g ≠ row) : RowW w' base g cap l := by
  have hb := hg.block g h.row.there hne
  exact ⟨h.row.kept hg hne, fun j hj => by rw [World.cell?_of_block (a := ⟨g, j, none⟩) hb, World.frozen?_of_block (a := ⟨g, j, none⟩) hb]; exact h.all j hj⟩

theorem RowW.below {w w' : World} {base g cap : Nat} {l : List UInt8} (h : RowW w base g cap l) (hb : Below w.heap.size w w') : RowW w' base g cap l :=
  h.kept (row := none) ⟨hb.os, hb.tape, hb.output, hb.size, fun k hk _ => hb.block k hk⟩ (by simp)

theorem RowW.drew {w : World} {base g cap : Nat} {l : List UInt8} (h : RowW w base g cap l) : RowW w.drew base g cap l :=
  h.below ⟨rfl, rfl, rfl, Nat.le_refl _, fun _ _ => rfl⟩

theorem heap_setCells (b : Nat) : ∀ (vs : List Value) (o : Nat) (w : World), (w.setCells b o vs).heap.size = w.heap.size ∧ ∀ k, k ≠ b → (w.setCells b o vs).heap[k]? = w.heap[k]?
  | [], _, _ => ⟨rfl, fun _ _ => rfl⟩
  | v :: r, o, w => by
    obtain ⟨h1, h2⟩ := heap_setCells b r (o + 1) (w.setCell ⟨b, o, none⟩ v)
    refine ⟨by rw [World.setCells, h1]; simp, fun k hk => ?_⟩
    rw [World.setCells, h2 k hk]
    exact Below.heap_setCell w _ v k (fun e => hk e)

theorem grown_setCells (b : Nat) : ∀ (vs : List Value) (o : Nat) (w : World), w.grownBy (w.setCells b o vs) (some b)
  | [], _, w => World.grownBy.refl w _
  | v :: r, o, w => by
    rw [World.setCells]
    exact (grown_set w b o v).trans (grown_setCells b r (o + 1) _)

theorem strV_bytes (s : List UInt8) : Lib.strCells ⟨s.toArray⟩ = bytesV s := strCells_list s

theorem RowW.append_at {w : World} {base g cap : Nat} {l : List UInt8} (h : RowW w base g cap l) (s : List UInt8) (hlen : l.length + s.length ≤ 4194304) (hbase : base ≤ w.heap.size) (ty : TypeId) :
    ∃ g' cap' w', (Builtin.append_ #[22, 9] ty #[.slice (some ⟨g, 0, none⟩) l.length cap, .string ⟨s.toArray⟩]).run Tryz.prog w = .ok (.slice (some ⟨g', 0, none⟩) (l ++ s).length cap') w' ∧ RowW w' base g' cap' (l ++ s) ∧ w.grownBy w' (some g) ∧ (g' = g ∨ g' = w.heap.size) := by
  obtain ⟨i0, hi, hz0, hz1, hz2⟩ := info_parts info5
  have hss : (⟨s.toArray⟩ : ByteArray).size = s.length := List.size_toArray
  have hll : (l ++ s).length = l.length + s.length := List.length_append
  by_cases hroom : l.length + s.length ≤ cap
  · have hf := Lib.run_firstCells_string (P := Tryz.prog) w 1 ⟨s.toArray⟩
    have hc : ∀ j, j < (bytesV s).length → (w.cell? ⟨g, l.length + j, none⟩).isSome = true := fun j hj => (h.all _ (by rw [bytesV_len] at hj; omega)).1
    have hfz : ∀ j, j < (bytesV s).length → w.frozen? ⟨g, l.length + j, none⟩ = false := fun j hj => (h.all _ (by rw [bytesV_len] at hj; omega)).2
    have hst := run_storeCells_cells (P := Tryz.prog) g l.length (bytesV s) 0 w (by simpa using hc) (by simpa using hfz) (bytesV_one s)
    rw [hss, strV_bytes] at hf
    refine ⟨g, cap, w.setCells g l.length (bytesV s), ?_, ?_, grown_setCells g _ _ w, Or.inl rfl⟩
    · rw [hll]
      simp [Builtin.append_, run_underlying Tryz.underlying22, run_underlying Tryz.underlying9, sizeOf, typeInfo, hi, hz1, Builtin.lenOf, hss, hroom, hf, Addr.add_lit, hst]
    · have hsz := heap_setCells g (bytesV s) l.length w
      refine ⟨⟨h.row.new, by rw [hsz.1]; exact h.row.there, by rw [hll]; exact hroom, h.row.most, ?_, ?_⟩, ?_⟩
      · intro j hj
        rw [hll] at hj
        by_cases hjl : j < l.length
        · rw [World.cell?_setCells_out g (bytesV s) l.length w _ (fun i _ => by simp; omega), h.row.cells j hjl, List.getElem_append_left hjl]
        · have hj2 : j - l.length < (bytesV s).length := by rw [bytesV_len]; omega
          have := World.cell?_setCells_in g (bytesV s) l.length w hc (j - l.length) hj2
          rw [show l.length + (j - l.length) = j by omega] at this
          rw [this, List.getElem_append_right (by omega)]
          simp [bytesV]
      · intro j hj
        rw [World.frozen?_setCells]
        exact (h.all j (by omega)).2
      · intro j hj
        rw [World.frozen?_setCells]
        refine ⟨?_, (h.all j hj).2⟩
        by_cases hin : l.length ≤ j ∧ j < l.length + s.length
        · have hj2 : j - l.length < (bytesV s).length := by rw [bytesV_len]; omega
          have := World.cell?_setCells_in g (bytesV s) l.length w hc (j - l.length) hj2
          rw [show l.length + (j - l.length) = j by omega] at this
          rw [this]; rfl
        · rw [World.cell?_setCells_out g (bytesV s) l.length w _ (fun _ _ => by rw [bytesV_len]; simp; omega)]
          exact (h.all j hj).1
  · have holds : ∀ j u, (bytesV l)[j]? = some u → w.cell? ((⟨g, 0, none⟩ : Addr).add j) = some u := by
      intro j u hu
      obtain ⟨hj, rfl⟩ := bytesV_at _ _ _ hu
      rw [show (⟨g, 0, none⟩ : Addr).add j = ⟨g, j, none⟩ by unfold Addr.add; split <;> simp_all]
      exact h.row.cells j hj
    have hr := Lib.run_append_grow_string (P := Tryz.prog) w 22 9 ty 5 i0 (.int .u8 0) Tryz.underlying22 Tryz.underlying9 hi hz0 ⟨g, 0, none⟩ l.length cap (bytesV l) (by rw [bytesV_len, hz1]; omega) holds ⟨s.toArray⟩ (by rw [hss]; omega) (by rw [hss]; omega) (by rw [hss, hz2, Nat.mul_one]; exact (by have := growslice_fits (need := l.length + s.length) (old := cap) (bytes := 1) (by omega) (by omega); simpa using this))
    rw [hss, strV_bytes] at hr
    have hge := grownCap_ge w (l.length + s.length) cap 5
    have hcm := grownCap_le_maxLen w (l.length + s.length) cap 5 (by unfold maxLen; omega)
    generalize grownCap w (l.length + s.length) cap 5 = c at hr hge hcm
    obtain ⟨C, hC⟩ : ∃ C, (bytesV l).toArray ++ (bytesV s).toArray ++ Builtin.zeroCells (Value.int .u8 0).cells (c - (l.length + s.length)) = C := ⟨_, rfl⟩
    rw [hC] at hr
    have hCs : C.size = c := by
      have hz1' : (Value.int IntKind.u8 0).cells.size = 1 := rfl
      rw [← hC]; simp only [Array.size_append, List.size_toArray, size_zeroCells, hz1', bytesV_len]; omega
    have hown : (w.drew.alloc (.cells C 5)).ownsRow base 5 1 (.slice (some ⟨w.heap.size, 0, none⟩) (l ++ s).length c) (l ++ s).length (bytesV (l ++ s)) := by
      refine ⟨by rw [bytesV_len]; omega, Or.inr ⟨w.heap.size, c, C, rfl, hbase, heap_alloc_new w.drew _, by rw [hll]; exact hge, hcm, by omega, ?_⟩⟩
      rw [← hC]
      simp only [Array.toList_append, List.append_assoc]
      rw [← List.append_assoc, bytesV_append, Nat.mul_one, ← bytesV_len (l ++ s)]
      exact List.take_left
    have hB : RowB (w.drew.alloc (.cells C 5)) base w.heap.size c (l ++ s) := by
      obtain ⟨g2, c2, e2, hrow⟩ := RowB.of_own hown (by simp)
      injection e2 with e3 _ e4
      injection e3 with e3
      injection e3 with e3
      subst e3; subst e4
      exact hrow
    refine ⟨w.heap.size, c, _, by rw [hll]; exact hr, ⟨hB, fun j hj => ?_⟩, ?_, Or.inr rfl⟩
    · have hA : (w.drew.alloc (.cells C 5)).heap[w.heap.size]? = some (.cells C 5) := heap_alloc_new w.drew _
      generalize w.drew.alloc (.cells C 5) = W at hA ⊢
      refine ⟨?_, by simp [World.frozen?, hA]⟩
      simp [World.cell?, hA]
      omega
    · exact ⟨rfl, rfl, rfl, by simp, fun k hk _ => Below.heap_alloc w.drew _ k hk⟩

theorem RowW.append {w : World} {base g cap : Nat} {l : List UInt8} (h : RowW w base g cap l) (s : List UInt8) (hlen : l.length + s.length ≤ 4194304) (hbase : base ≤ w.heap.size) (ty : TypeId) :
    ∃ g' cap' w', (Builtin.append_ #[22, 9] ty #[.slice (some ⟨g, 0, none⟩) l.length cap, .string ⟨s.toArray⟩]).run Tryz.prog w = .ok (.slice (some ⟨g', 0, none⟩) (l ++ s).length cap') w' ∧ RowW w' base g' cap' (l ++ s) ∧ w.grownBy w' (some g) := by
  obtain ⟨g', cap', w', h1, h2, h3, _⟩ := h.append_at s hlen hbase ty
  exact ⟨g', cap', w', h1, h2, h3⟩

/-- '[]byte(s)': the new block, its value and its world. -/
theorem RowW.made (w : World) (l : List UInt8) (hl : l.length ≤ 4194304) :
    ∃ cap w', (convert 9 22 (.string ⟨l.toArray⟩)).run Tryz.prog w = .ok (.slice (some ⟨w.heap.size, 0, none⟩) l.length cap) w' ∧ RowW w' w.heap.size w.heap.size cap l ∧ Below w.heap.size w w' := by
  have hconv := run_bytes_of_string (P := Tryz.prog) w 9 22 5 ⟨l.toArray⟩ Tryz.underlying9 Tryz.underlying22 Tryz.underlying5
  have hrow := RowB.made w l (by unfold maxLen; omega)
  have hszs : (⟨l.toArray⟩ : ByteArray).size = l.length := rfl
  rw [hszs] at hconv
  have hge := grownCap_ge w l.length 0 5
  have hCs : (bytesRow ⟨l.toArray⟩ (grownCap w l.length 0 5)).size = grownCap w l.length 0 5 := by simp [bytesRow]; omega
  generalize bytesRow ⟨l.toArray⟩ (grownCap w l.length 0 5) = C at hconv hrow hCs
  generalize grownCap w l.length 0 5 = cp at hconv hrow hge hCs
  refine ⟨cp, _, hconv, ⟨hrow, fun j hj => ?_⟩, ((Below.refl _ w).drew).alloc (Nat.le_refl _) _⟩
  have hA : (w.drew.alloc (.cells C 5 (C.size, C.size + 1))).heap[w.heap.size]? = some (.cells C 5 (C.size, C.size + 1)) := heap_alloc_new w.drew _
  generalize w.drew.alloc (.cells C 5 (C.size, C.size + 1)) = W at hA ⊢
  refine ⟨?_, ?_⟩
  · simp [World.cell?, hA]; omega
  · simp [World.frozen?, hA]; omega

/-- 'append(b, s...)' at a step of a region that draws. -/
theorem step_append_str {P : Program} {w w' : World} {ops : Array Oper} {o : Oper} {a : Act} {K : Act → World → Prop} {Q : Exit → Act → World → Prop} {E : Prop} (hgd : o.guard = none) (s x : Operand) (t u : TypeId)
    (ho : o.op = .call { callee := .builtin .append, args := #[s, x], argTypes := #[t, u] }) (v y v' : Value) (hs : a.eval s = v) (hx : a.eval x = y)
    (hrun : (Builtin.append_ #[t, u] o.type #[v, y]).run P w = .ok v' w') (h : K (a.put o.dst v') w') :
    if Region.wanted o (yielded ops a.tmps) = true then Oper.wp P o a w K Q else E := by
  have hw : Region.wanted o (yielded ops a.tmps) = true := by simp [Region.wanted, hgd]
  rw [if_pos hw]
  unfold Oper.wp
  simp [execOp, ho, resolve, invoke, builtin, hs, hx, hrun, Result.andThen]
  exact h

/-- 'append(b, s...)' in a plain region. -/
theorem wpList_append_str {P : Program} {w w' : World} {ops : Array Oper} {rest : List Oper} {o : Oper} {a : Act} {Q : Exit → Act → World → Prop} (hgd : o.guard = none) (s x : Operand) (t u : TypeId)
    (ho : o.op = .call { callee := .builtin .append, args := #[s, x], argTypes := #[t, u] }) (v y v' : Value) (hs : a.eval s = v) (hx : a.eval x = y)
    (hrun : (Builtin.append_ #[t, u] o.type #[v, y]).run P w = .ok v' w') (h : wpList P ops Q rest (a.put o.dst v') w') : wpList P ops Q (o :: rest) a w := by
  refine wpList_plain hgd fun K hK => ?_
  unfold Oper.wp
  simp [execOp, ho, resolve, invoke, builtin, hs, hx, hrun, Result.andThen]
  exact hK _ _ h

end Go.Proofs.YthjemelnbbpdcaaGreatDoor
