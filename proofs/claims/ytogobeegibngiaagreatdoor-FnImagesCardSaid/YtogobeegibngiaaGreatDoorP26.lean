/-
  Parts of one proof, one behind the other: ImgS6, ImgS7, Math6I.
-/
import Derived.Test.YtogobeegibngiaaGreatDoorP25
import Derived.Deep.RegionLaw
import Derived.Test.YtogobeegibngiaaGreatDoorP24
import Derived.Test.YtogobeegibngiaaGreatDoorP23
import Derived.Test.YtogobeegibngiaaGreatDoorP14
import Derived.Test.YtogobeegibngiaaGreatDoorP1
import Derived.Test.YtogobeegibngiaaGreatDoorP3
import Derived.Test.YtogobeegibngiaaGreatDoorP5
import Derived.Lib.ItoaNum
import Derived.Lib.Join
import Derived.Lib.Bytealg

/-! The contract of chapter 14's specification: l14Read. -/
namespace Go.Proofs.YtogobeegibngiaaGreatDoor
open Go.RowKit

theorem cell_alR {w : World} {a : Addr} {v : Value} (o : Obj) (h : w.cell? a = some v) : (w.alloc o).cell? a = some v :=
  (World.cell?_of_block (Below.heap_alloc _ _ _ (World.block_lt_of_cell? w a h))).trans h
theorem getD_five (ws : List (List UInt8)) (y0 y1 y2 y3 y4 : List UInt8) (h0 : ws.getD 0 [] = y0) (h1 : ws.getD 1 [] = y1) (h2 : ws.getD 2 [] = y2) (h3 : ws.getD 3 [] = y3) (h4 : ws.getD 4 [] = y4) : insRd ws = (readV y0, readV y1, readV y2, readV y3, if y4 = [45] then [] else y4) := by
  unfold insRd; rw [h0, h1, h2, h3, h4]
theorem snoc_of {xs : List RV} (h : xs ≠ []) : ∃ ys nm ar code av cv, xs = ys ++ [((nm, ar, code), av, cv)] := by
  obtain ⟨ys, x, e⟩ : ∃ ys x, xs = ys ++ [x] := ⟨xs.dropLast, xs.getLast h, (List.dropLast_concat_getLast h).symm⟩
  obtain ⟨⟨nm, ar, code⟩, av, cv⟩ := x
  exact ⟨ys, nm, ar, code, av, cv, e⟩

set_option maxHeartbeats 8000000 in
set_option maxRecDepth 100000 in
theorem specReadI (la : Option Addr) (len cap : Nat) (ls : List (List UInt8)) (w : World) (hin : TextsIn w la len ls) (hlen : len ≤ 400001) (hll : ∀ j, (ls.getD j []).length ≤ 400000) :
    Calls Tryz.prog 23 #[.slice la len cap] w fun e w' => ∃ v xs, e = .returned v ∧ (xs : List RV).map (·.1) = readI [] ls ∧ Rd14 w w' v xs := by
  obtain rfl : ls.length = len := hin.1
  have HIn : Hid (∀ V, Below w.heap.size w V → TextsIn V la ls.length ls) := fun V hV => hin.below hV
  have HLL : Hid (∀ j, (ls.getD j []).length ≤ 400000) := hll
  have HR0 : Hid (Rd14 w (w.alloc (.cells #[] 50)) (.slice (some ⟨w.heap.size, 0, none⟩) 0 0) []) := Rd14.nil (Below.refl _ _)
  obtain ⟨n, hn⟩ : ∃ n, ls.length = n := ⟨_, rfl⟩
  have HN : Hid (ls.length = n) := hn
  rw [hn] at hlen HIn ⊢
  clear hin hll hn
  go_enter Tryz.func23, Tryz.ntmps23
  go_wp2
  go_loopw [3, 4] (fun ov iv wr => ∃ (k : Nat) (a : Option Addr) (c : Nat) (xs : List RV), ov = .slice a xs.length c ∧ iv = .int .i64 (k : Int) ∧ k ≤ n ∧ xs.length ≤ k ∧ Hid (∀ z ∈ xs, z.1.2.2.length ≤ k) ∧ Hid (Rd14 w wr (.slice a xs.length c) xs) ∧ Hid (readI [] ls = readI (xs.map (·.1)) (ls.drop k))) (fun _ iv _ => n - (intOf iv).toNat)
  case atStart => exact ⟨0, _, 0, [], rfl, rfl, by omega, by simp, (fun z hz => (by cases hz) : ∀ z ∈ ([] : List RV), z.1.2.2.length ≤ 0), HR0, (rfl : readI [] ls = readI (([] : List RV).map (·.1)) (ls.drop 0))⟩
  case round =>
    obtain ⟨k, a, c, xs, rfl, rfl, hk, hxk, HCk, HRd, HG⟩ := hrel
    clear HR0
    by_cases hkl : (k : Int) < (n : Int)
    rotate_left
    · have HE : Hid (xs.map (·.1) = readI [] ls) := by
        have e : k = ls.length := by have := HN.out; omega
        exact (by rw [HG.out, e, List.drop_length]; rfl : xs.map (·.1) = readI [] ls)
      clear HG HCk
      go_wp2
      go_ret
      first | exact ⟨_, rfl, xs, HE.out, HRd.out⟩ | exact ⟨_, xs, rfl, HE.out, HRd.out⟩
    have hk2 : k < ls.length := by have := HN.out; omega
    obtain ⟨b, off, rfl, hbl, hcl⟩ := (HIn.out wr HRd.out.b).2 k (by omega)
    have hxl := HLL.out k
    have hat := readI_at (xs.map (·.1)) ls k hk2
    rw [← HG.out] at hat
    obtain ⟨x, hx⟩ : ∃ x, ls.getD k [] = x := ⟨_, rfl⟩
    rw [hx] at hcl hxl hat
    have HSp : Hid (_) := specSplit x 32 32 wr rfl (by omega)
    have hwl := word_lenR 32 x
    have hml : (splitL 32 x).length ≤ x.length + 1 := splitGo_len 32 x []
    clear HG hx hbl hk2
    obtain ⟨ws, hws⟩ : ∃ ws, splitL 32 x = ws := ⟨_, rfl⟩
    rw [hws] at HSp hat hwl hml
    clear hws
    go_wp2_with fail
    refine Calls.mono HSp.out ?_
    rintro e w2 ⟨g2, cp2, rfl, hown2, hb2⟩
    clear HSp hcl
    have hR2 := HRd.out.below hb2
    have hg2 := (hown2.lt g2 rfl).2
    have hcw : ∀ j, j < ws.length → w2.cell? ⟨g2, j, none⟩ = some (.string ⟨(ws.getD j []).toArray⟩) := fun j hj => str_cellsD hown2 rfl j hj
    have HCw : Hid (∀ j, j < ws.length → w2.cell? ⟨g2, j, none⟩ = some (.string ⟨(ws.getD j []).toArray⟩)) := hcw
    have HR2 : Hid (Rd14 w w2 (.slice a xs.length c) xs ∧ g2 < w2.heap.size) := ⟨hR2, hg2⟩
    have hm1 : ws.length ≤ 400001 := by omega
    clear hown2 hb2 HRd hcw hR2 hg2
    obtain ⟨y0, hy0⟩ : ∃ y, ws.getD 0 [] = y := ⟨_, rfl⟩
    obtain ⟨y1, hy1⟩ : ∃ y, ws.getD 1 [] = y := ⟨_, rfl⟩
    obtain ⟨y2, hy2⟩ : ∃ y, ws.getD 2 [] = y := ⟨_, rfl⟩
    obtain ⟨y3, hy3⟩ : ∃ y, ws.getD 3 [] = y := ⟨_, rfl⟩
    obtain ⟨y4, hy4⟩ : ∃ y, ws.getD 4 [] = y := ⟨_, rfl⟩
    have l0 := hwl 0
    have l1 := hwl 1
    have l2 := hwl 2
    have l3 := hwl 3
    rw [hy0] at l0
    rw [hy1] at l1
    rw [hy2] at l2
    rw [hy3] at l3
    rw [getD_five ws y0 y1 y2 y3 y4 hy0 hy1 hy2 hy3 hy4, hy0, hy1, hy2] at hat
    have HY : Hid (ws.getD 0 [] = y0 ∧ ws.getD 1 [] = y1 ∧ ws.getD 2 [] = y2 ∧ ws.getD 3 [] = y3 ∧ ws.getD 4 [] = y4) := ⟨hy0, hy1, hy2, hy3, hy4⟩
    obtain ⟨m, hm⟩ : ∃ m, ws.length = m := ⟨_, rfl⟩
    rw [hm] at hat hm1 HCw ⊢
    have HMm : Hid (ws.length = m) := hm
    have HAt : Hid (_) := hat
    clear hy0 hy1 hy2 hy3 hy4 hwl hm hat
    have HNo : Hid (m ≠ 5 ∨ xs = [] → ¬ (m = 4 ∧ y0 = kwRt) → readI [] ls = []) := fun h1 h2 => by
      have h := HAt.out
      rw [if_neg h2, if_pos (by rcases h1 with h1 | h1; exact Or.inl h1; exact Or.inr (by rw [h1]; rfl))] at h
      exact h
    have HZ : Hid (Rd14 w (w2.alloc (.cells #[] 50)) (.slice (some ⟨w2.heap.size, 0, none⟩) 0 0) []) := Rd14.nil HR2.out.1.b
    by_cases h4 : m = 4
    · subst h4
      have d0 := HCw.out 0 (by omega)
      rw [HY.out.1] at d0
      by_cases hA : y0 = [114, 111, 117, 116, 105, 110, 101]
      · subst hA
        have HG1 : Hid (readI [] ls = readI (xs.map (·.1) ++ [(y1, readV y2, [])]) (ls.drop (k + 1))) := by
          have h := HAt.out
          rw [if_pos ⟨rfl, rfl⟩] at h
          exact h
        have d1 := HCw.out 1 (by omega)
        have d2 := HCw.out 2 (by omega)
        rw [HY.out.2.1] at d1
        rw [HY.out.2.2.1] at d2
        clear HAt HNo HZ
        go_wp2_with fail
        refine (specRead y2 _ (by omega)).mono ?_
        rintro e w5 ⟨rfl, hw5⟩
        obtain rfl := hw5.symm
        clear hw5
        generalize readV y2 = rv at HG1 ⊢
        generalize readB y2 = rb
        obtain ⟨g', c', Y, hrun, hY⟩ := HR2.out.1.rt y1 rv (by omega)
        have HRY : Hid (Rd14 w Y (.slice (some ⟨g', 0, none⟩) (xs.length + 1) c') (xs ++ [((y1, rv, []), none, 0)])) := hY
        have HG2 : Hid (readI [] ls = readI ((xs ++ [((y1, rv, []), none, 0)] : List RV).map (·.1)) (ls.drop (k + 1))) := by
          have h := HG1.out
          exact (by rw [List.map_append]; exact h : readI [] ls = readI ((xs ++ [((y1, rv, []), none, 0)] : List RV).map (·.1)) (ls.drop (k + 1)))
        have HC2 : Hid (∀ z ∈ xs ++ [((y1, rv, []), none, 0)], z.1.2.2.length ≤ k + 1) := fun z hz => by
          rcases List.mem_append.1 hz with h | h
          · exact Nat.le_succ_of_le (HCk.out z h)
          · obtain rfl := List.mem_singleton.1 h
            simp
        clear hY d0 d2
        go_wp2_with (at_builtin; refine wpList_append_run rfl (.tmp 38) (.tmp 44) 24 rfl _ _ _ rfl rfl hrun ?_; clear hrun)
        go_roundw
        case rel => exact ⟨k + 1, some ⟨g', 0, none⟩, c', xs ++ [((y1, rv, []), none, 0)], by rw [List.length_append]; rfl, by go_num, by omega, by rw [List.length_append]; simp; omega, HC2, by rw [List.length_append]; exact HRY, HG2⟩
        case measure => simp [intOf]; omega
      · have dA : (y0 == [114, 111, 117, 116, 105, 110, 101]) = false := beq_eq_false_iff_ne.2 hA
        have HE : Hid (readI [] ls = []) := HNo.out (Or.inl (by omega)) (fun h => hA h.2)
        clear HAt HNo hA
        go_wp2
        go_ret
        exact ⟨_, [], rfl, HE.out.symm, HZ.out⟩
    have b4 : ((m : Int) == 4) = false := beq_eq_false_iff_ne.2 (by omega)
    by_cases h5 : m = 5
    rotate_left
    · have b5 : ((m : Int) != 5) = true := bne_iff_ne.2 (by omega)
      have HE : Hid (readI [] ls = []) := HNo.out (Or.inl h5) (fun h => h4 h.1)
      clear HAt HNo h4 h5
      go_wp2
      go_ret
      exact ⟨_, [], rfl, HE.out.symm, HZ.out⟩
    subst h5
    clear b4 h4
    by_cases hxs : xs = []
    · subst hxs
      have HE : Hid (readI [] ls = []) := HNo.out (Or.inr rfl) (fun h => by omega)
      clear HAt HNo
      go_wp2
      go_ret
      exact ⟨_, [], rfl, HE.out.symm, HZ.out⟩
    have HAd : Hid (readI [] ls = readI (addI (xs.map (·.1)) (readV y0, readV y1, readV y2, readV y3, if y4 = [45] then [] else y4)) (ls.drop (k + 1))) := by
      have h := HAt.out
      rw [if_neg (fun h => by omega), if_neg (fun h => by rcases h with h | h; omega; exact hxs (List.map_eq_nil_iff.1 h))] at h
      exact h
    obtain ⟨ys, nm, ar, code, av, cv, rfl⟩ := snoc_of hxs
    clear HAt HNo HZ hxs
    have hl : (ys ++ [((nm, ar, code), av, cv)]).length = ys.length + 1 := by simp
    rw [hl] at hxk HR2 ⊢
    obtain ⟨gO, cO, eO⟩ := own_some HR2.out.1.fo.row (by simp)
    injection eO with e1 e2 e3
    subst e1
    clear e2 e3 cO hl
    have hcode : code.length ≤ k := HCk.out _ (List.mem_append.2 (Or.inr (List.mem_singleton.2 rfl)))
    have HCy : Hid (∀ z ∈ ys, z.1.2.2.length ≤ k) := fun z hz => HCk.out z (List.mem_append.2 (Or.inl hz))
    have HRd0 : Hid (_) := fun U : World => specRead y0 U (by omega)
    have HRd1 : Hid (_) := fun U : World => specRead y1 U (by omega)
    have HRd2 : Hid (_) := fun U : World => specRead y2 U (by omega)
    have HRd3 : Hid (_) := fun U : World => specRead y3 U (by omega)
    generalize readV y0 = r0 at HRd0 HAd
    generalize readV y1 = r1 at HRd1 HAd
    generalize readV y2 = r2 at HRd2 HAd
    generalize readV y3 = r3 at HRd3 HAd
    generalize readB y0 = q0 at HRd0
    generalize readB y1 = q1 at HRd1
    generalize readB y2 = q2 at HRd2
    generalize readB y3 = q3 at HRd3
    have B1 := Bi14.new HR2.out.1 (fun j hj => HCw.out j (by rw [HMm.out] at hj; exact hj)) HR2.out.2 (0, 0, 0, 0, y4)
    obtain ⟨N, hN⟩ : ∃ N, w2.heap.size = N := ⟨_, rfl⟩
    obtain ⟨X1, hX1⟩ : ∃ X1, w2.alloc (.cells #[.int .i64 0, .int .i64 0, .int .i64 0, .int .i64 0, .string ⟨y4.toArray⟩] 56) = X1 := ⟨_, rfl⟩
    simp only at B1
    rw [hX1, hN] at B1
    obtain ⟨p, hp⟩ : ∃ p, ys.length = p := ⟨_, rfl⟩
    have HP : Hid (ys.length = p) := hp
    rw [hp] at hxk B1 ⊢
    have d4 := HCw.out 4 (by omega)
    rw [HY.out.2.2.2.2] at d4
    have k4 := B1.c4
    have kf := B1.fz 4
    simp only at k4
    have hl5 : IntKind.i64.wrap ((p : Int) + 1 - 1) = (p : Int) := by rw [show (p : Int) + 1 - 1 = (p : Int) by omega]; rw [IntKind.wrap_i64]; omega
    have hl6 : ¬ ((p : Int) + 1 = 0) := by omega
    have hpp : (p : Int) < (p : Int) + 1 := by omega
    have HXk : Hid (p + 1 ≤ k) := hxk
    clear HCk HR2 HCw hp
    by_cases hd : y4 = [45]
    · subst hd
      rw [if_pos rfl] at HAd
      have B2 := B1.set 4 (.string ⟨#[]⟩) (i' := (0, 0, 0, 0, [])) rfl
      obtain ⟨X2, hX2⟩ : ∃ X, X1.setCell ⟨N, 4, none⟩ (.string ⟨#[]⟩) = X := ⟨_, rfl⟩
      rw [hX2] at B2
      clear B1
      have B3 := B2.set 0 (.int .i64 r0) (i' := (r0, 0, 0, 0, [])) rfl
      have e0 := B2.c0
      have f0 := B2.fz 0
      have d0 := B2.cw 0 (by rw [HMm.out]; omega)
      simp only at e0
      rw [HY.out.1] at d0
      obtain ⟨X3, hX3⟩ : ∃ X, X2.setCell ⟨N, 0, none⟩ (.int .i64 r0) = X := ⟨_, rfl⟩
      rw [hX3] at B3
      have B4 := B3.set 1 (.int .i64 r1) (i' := (r0, r1, 0, 0, [])) rfl
      have e1 := B3.c1
      have f1 := B3.fz 1
      have d1 := B3.cw 1 (by rw [HMm.out]; omega)
      simp only at e1
      rw [HY.out.2.1] at d1
      obtain ⟨X4, hX4⟩ : ∃ X, X3.setCell ⟨N, 1, none⟩ (.int .i64 r1) = X := ⟨_, rfl⟩
      rw [hX4] at B4
      have B5 := B4.set 2 (.int .i64 r2) (i' := (r0, r1, r2, 0, [])) rfl
      have e2 := B4.c2
      have f2 := B4.fz 2
      have d2 := B4.cw 2 (by rw [HMm.out]; omega)
      simp only at e2
      rw [HY.out.2.2.1] at d2
      obtain ⟨X5, hX5⟩ : ∃ X, X4.setCell ⟨N, 2, none⟩ (.int .i64 r2) = X := ⟨_, rfl⟩
      rw [hX5] at B5
      have B6 := B5.set 3 (.int .i64 r3) (i' := (r0, r1, r2, r3, [])) rfl
      have e3 := B5.c3
      have f3 := B5.fz 3
      have d3 := B5.cw 3 (by rw [HMm.out]; omega)
      simp only at e3
      rw [HY.out.2.2.2.1] at d3
      obtain ⟨X6, hX6⟩ : ∃ X, X5.setCell ⟨N, 3, none⟩ (.int .i64 r3) = X := ⟨_, rfl⟩
      rw [hX6] at B6
      have b0 := B6.c0
      have b1 := B6.c1
      have b2 := B6.c2
      have b3 := B6.c3
      have b4 := B6.c4
      simp only at b0 b1 b2 b3 b4
      have hB6 := B6.rd
      rw [← HP.out] at hB6
      have p2 := hB6.code
      obtain ⟨g', c', Y, hrun, hcY, hfY, hRY⟩ := hB6.drew.ins (r0, r1, r2, r3, []) (by omega)
      rw [HP.out] at p2 hcY hfY hRY
      have HRY : Hid (Rd14 w (Y.setCell ⟨gO, p * 3 + 2, none⟩ (.slice (some ⟨g', 0, none⟩) (code.length + 1) c')) (.slice (some ⟨gO, 0, none⟩) (p + 1) c) (ys ++ [((nm, ar, code ++ [(r0, r1, r2, r3, [])]), some ⟨g', 0, none⟩, c')])) := hRY
      have hs6 : X6.drew.heap.size = X6.heap.size := rfl
      rw [hs6] at hrun
      simp only at hrun
      change (Builtin.append_ _ _ _).run Tryz.prog (X6.alloc (.cells #[.int .i64 r0, .int .i64 r1, .int .i64 r2, .int .i64 r3, .string ⟨[].toArray⟩] 56)).drew = _ at hrun
      have p2a : (X6.alloc (.cells #[.int .i64 r0, .int .i64 r1, .int .i64 r2, .int .i64 r3, .string ⟨[].toArray⟩] 56)).cell? ⟨gO, p * 3 + 2, none⟩ = some (.slice av code.length cv) := cell_alR _ p2
      have HG1 : Hid (readI [] ls = readI ((ys ++ [((nm, ar, code ++ [(r0, r1, r2, r3, [])]), some ⟨g', 0, none⟩, c')] : List RV).map (·.1)) (ls.drop (k + 1))) := by
        have h := HAd.out
        rw [List.map_append] at h
        rw [List.map_append]
        exact h.trans (by rw [show List.map (fun x : RV => x.1) [((nm, ar, code), av, cv)] = [(nm, ar, code)] from rfl, addI_snoc]; rfl)
      have HC2 : Hid (∀ z ∈ ys ++ [((nm, ar, code ++ [(r0, r1, r2, r3, [])]), some ⟨g', 0, none⟩, c')], z.1.2.2.length ≤ k + 1) := fun z hz => by
        rcases List.mem_append.1 hz with h | h
        · exact Nat.le_succ_of_le (HCy.out z h)
        · obtain rfl := List.mem_singleton.1 h
          simp
          omega
      clear B2 B3 B4 B5 B6 hB6 hRY HAd hs6 hcode HCy HIn HLL
      go_wp2_with fail
      refine Calls.mono (HRd0.out _) ?_
      rintro e u0 ⟨rfl, hu0⟩
      obtain rfl := hu0.symm
      clear hu0
      go_wp2_with fail
      refine Calls.mono (HRd1.out _) ?_
      rintro e u1 ⟨rfl, hu1⟩
      obtain rfl := hu1.symm
      clear hu1
      go_wp2_with fail
      refine Calls.mono (HRd2.out _) ?_
      rintro e u2 ⟨rfl, hu2⟩
      obtain rfl := hu2.symm
      clear hu2
      go_wp2_with fail
      refine Calls.mono (HRd3.out _) ?_
      rintro e u3 ⟨rfl, hu3⟩
      obtain rfl := hu3.symm
      clear hu3
      go_wp2
      go_region_law (first | (refine step_append_run (by rfl) (.tmp 104) (.tmp 106) 48 (by rfl) _ _ _ (by rfl) (by rfl) hrun ?_))
      all_goals
        go_wp2
        go_roundw
        case rel => exact ⟨k + 1, some ⟨gO, 0, none⟩, c, ys ++ [((nm, ar, code ++ [(r0, r1, r2, r3, [])]), some ⟨g', 0, none⟩, c')], by rw [List.length_append, HP.out]; rfl, by go_num, by omega, by rw [List.length_append, HP.out]; simp; have := HXk.out; omega, HC2, by rw [List.length_append, HP.out]; exact HRY, HG1⟩
        case measure => simp [intOf]; omega
    have hd2 : (y4 == [45]) = false := beq_eq_false_iff_ne.2 hd
    rw [if_neg hd] at HAd
    obtain ⟨X2, hX2⟩ : ∃ X, X1 = X := ⟨_, rfl⟩
    subst hX2
    have B2 := B1
    clear B1 hd
    have B3 := B2.set 0 (.int .i64 r0) (i' := (r0, 0, 0, 0, y4)) rfl
    have e0 := B2.c0
    have f0 := B2.fz 0
    have d0 := B2.cw 0 (by rw [HMm.out]; omega)
    simp only at e0
    rw [HY.out.1] at d0
    obtain ⟨X3, hX3⟩ : ∃ X, X1.setCell ⟨N, 0, none⟩ (.int .i64 r0) = X := ⟨_, rfl⟩
    rw [hX3] at B3
    have B4 := B3.set 1 (.int .i64 r1) (i' := (r0, r1, 0, 0, y4)) rfl
    have e1 := B3.c1
    have f1 := B3.fz 1
    have d1 := B3.cw 1 (by rw [HMm.out]; omega)
    simp only at e1
    rw [HY.out.2.1] at d1
    obtain ⟨X4, hX4⟩ : ∃ X, X3.setCell ⟨N, 1, none⟩ (.int .i64 r1) = X := ⟨_, rfl⟩
    rw [hX4] at B4
    have B5 := B4.set 2 (.int .i64 r2) (i' := (r0, r1, r2, 0, y4)) rfl
    have e2 := B4.c2
    have f2 := B4.fz 2
    have d2 := B4.cw 2 (by rw [HMm.out]; omega)
    simp only at e2
    rw [HY.out.2.2.1] at d2
    obtain ⟨X5, hX5⟩ : ∃ X, X4.setCell ⟨N, 2, none⟩ (.int .i64 r2) = X := ⟨_, rfl⟩
    rw [hX5] at B5
    have B6 := B5.set 3 (.int .i64 r3) (i' := (r0, r1, r2, r3, y4)) rfl
    have e3 := B5.c3
    have f3 := B5.fz 3
    have d3 := B5.cw 3 (by rw [HMm.out]; omega)
    simp only at e3
    rw [HY.out.2.2.2.1] at d3
    obtain ⟨X6, hX6⟩ : ∃ X, X5.setCell ⟨N, 3, none⟩ (.int .i64 r3) = X := ⟨_, rfl⟩
    rw [hX6] at B6
    have b0 := B6.c0
    have b1 := B6.c1
    have b2 := B6.c2
    have b3 := B6.c3
    have b4 := B6.c4
    simp only at b0 b1 b2 b3 b4
    have hB6 := B6.rd
    rw [← HP.out] at hB6
    have p2 := hB6.code
    obtain ⟨g', c', Y, hrun, hcY, hfY, hRY⟩ := hB6.drew.ins (r0, r1, r2, r3, y4) (by omega)
    rw [HP.out] at p2 hcY hfY hRY
    have HRY : Hid (Rd14 w (Y.setCell ⟨gO, p * 3 + 2, none⟩ (.slice (some ⟨g', 0, none⟩) (code.length + 1) c')) (.slice (some ⟨gO, 0, none⟩) (p + 1) c) (ys ++ [((nm, ar, code ++ [(r0, r1, r2, r3, y4)]), some ⟨g', 0, none⟩, c')])) := hRY
    have hs6 : X6.drew.heap.size = X6.heap.size := rfl
    rw [hs6] at hrun
    simp only at hrun
    change (Builtin.append_ _ _ _).run Tryz.prog (X6.alloc (.cells #[.int .i64 r0, .int .i64 r1, .int .i64 r2, .int .i64 r3, .string ⟨y4.toArray⟩] 56)).drew = _ at hrun
    have p2a : (X6.alloc (.cells #[.int .i64 r0, .int .i64 r1, .int .i64 r2, .int .i64 r3, .string ⟨y4.toArray⟩] 56)).cell? ⟨gO, p * 3 + 2, none⟩ = some (.slice av code.length cv) := cell_alR _ p2
    have HG1 : Hid (readI [] ls = readI ((ys ++ [((nm, ar, code ++ [(r0, r1, r2, r3, y4)]), some ⟨g', 0, none⟩, c')] : List RV).map (·.1)) (ls.drop (k + 1))) := by
      have h := HAd.out
      rw [List.map_append] at h
      rw [List.map_append]
      exact h.trans (by rw [show List.map (fun x : RV => x.1) [((nm, ar, code), av, cv)] = [(nm, ar, code)] from rfl, addI_snoc]; rfl)
    have HC2 : Hid (∀ z ∈ ys ++ [((nm, ar, code ++ [(r0, r1, r2, r3, y4)]), some ⟨g', 0, none⟩, c')], z.1.2.2.length ≤ k + 1) := fun z hz => by
      rcases List.mem_append.1 hz with h | h
      · exact Nat.le_succ_of_le (HCy.out z h)
      · obtain rfl := List.mem_singleton.1 h
        simp
        omega
    clear B2 B3 B4 B5 B6 hB6 hRY HAd hs6 hcode HCy HIn HLL
    go_wp2_with fail
    refine Calls.mono (HRd0.out _) ?_
    rintro e u0 ⟨rfl, hu0⟩
    obtain rfl := hu0.symm
    clear hu0
    go_wp2_with fail
    refine Calls.mono (HRd1.out _) ?_
    rintro e u1 ⟨rfl, hu1⟩
    obtain rfl := hu1.symm
    clear hu1
    go_wp2_with fail
    refine Calls.mono (HRd2.out _) ?_
    rintro e u2 ⟨rfl, hu2⟩
    obtain rfl := hu2.symm
    clear hu2
    go_wp2_with fail
    refine Calls.mono (HRd3.out _) ?_
    rintro e u3 ⟨rfl, hu3⟩
    obtain rfl := hu3.symm
    clear hu3
    go_wp2
    go_region_law (first | (refine step_append_run (by rfl) (.tmp 104) (.tmp 106) 48 (by rfl) _ _ _ (by rfl) (by rfl) hrun ?_))
    all_goals
      go_wp2
      go_roundw
      case rel => exact ⟨k + 1, some ⟨gO, 0, none⟩, c, ys ++ [((nm, ar, code ++ [(r0, r1, r2, r3, y4)]), some ⟨g', 0, none⟩, c')], by rw [List.length_append, HP.out]; rfl, by go_num, by omega, by rw [List.length_append, HP.out]; simp; have := HXk.out; omega, HC2, by rw [List.length_append, HP.out]; exact HRY, HG1⟩
      case measure => simp [intOf]; omega

end Go.Proofs.YtogobeegibngiaaGreatDoor

/-! The contract of chapter 14's specification: ReadImage. -/
namespace Go.Proofs.YtogobeegibngiaaGreatDoor
open Go.RowKit

/-- How long what is read can be. -/
def Shr14 (k : Nat) (rs : List Rt) : Prop := ∀ r ∈ rs, r.1.length ≤ 400000 ∧ r.2.2.length ≤ k ∧ ∀ i ∈ r.2.2, i.2.2.2.2.length ≤ 400000
theorem addI_sh {O : List Rt} {k : Nat} {x : In13} (h : Shr14 k O) (hO : O ≠ []) (hx : x.2.2.2.2.length ≤ 400000) : Shr14 (k + 1) (addI O x) ∧ (addI O x).length = O.length := by
  obtain ⟨P, r, rfl⟩ : ∃ P r, O = P ++ [r] := ⟨O.dropLast, O.getLast hO, (List.dropLast_concat_getLast hO).symm⟩
  obtain ⟨n, a, c⟩ := r
  rw [addI_snoc]
  refine ⟨fun q hq => ?_, by simp⟩
  rcases List.mem_append.1 hq with h1 | h1
  · have := h q (List.mem_append.2 (Or.inl h1))
    exact ⟨this.1, by omega, this.2.2⟩
  · obtain rfl := List.mem_singleton.1 h1
    have := h (n, a, c) (List.mem_append.2 (Or.inr (List.mem_singleton.2 rfl)))
    refine ⟨this.1, by simp only [List.length_append, List.length_singleton]; have := this.2.1; simp only at this; omega, fun i hi => ?_⟩
    rcases List.mem_append.1 hi with h2 | h2
    · exact this.2.2 i h2
    · obtain rfl := List.mem_singleton.1 h2
      exact hx
theorem readI_sh : ∀ (ls : List (List UInt8)) (O : List Rt) (k : Nat), (∀ l ∈ ls, l.length ≤ 400000) → Shr14 k O → Shr14 (k + ls.length) (readI O ls) ∧ (readI O ls).length ≤ O.length + ls.length
  | [], O, k, _, h => by rw [readI]; exact ⟨h, by simp⟩
  | l :: ls, O, k, hl, h => by
    have hl0 := hl l (List.mem_cons.2 (Or.inl rfl))
    have hls : ∀ q ∈ ls, q.length ≤ 400000 := fun q hq => hl q (List.mem_cons.2 (Or.inr hq))
    have hw := word_lenR 32 l
    rw [readI]
    split
    · have := readI_sh ls (O ++ [((splitL 32 l).getD 1 [], readV ((splitL 32 l).getD 2 []), [])]) (k + 1) hls (fun q hq => by
        rcases List.mem_append.1 hq with h1 | h1
        · have := h q h1
          exact ⟨this.1, by omega, this.2.2⟩
        · obtain rfl := List.mem_singleton.1 h1
          exact ⟨Nat.le_trans (hw 1) hl0, by simp, fun i hi => by simp at hi⟩)
      rw [List.length_append] at this
      refine ⟨?_, by have := this.2; simp only [List.length_cons, List.length_nil] at this ⊢; omega⟩
      rw [List.length_cons, show k + (ls.length + 1) = k + 1 + ls.length by omega]
      exact this.1
    · split
      · exact ⟨fun q hq => (by cases hq), by simp⟩
      · rename_i h2
        have hO : O ≠ [] := fun e => h2 (Or.inr e)
        obtain ⟨h3, h4⟩ := addI_sh (x := insRd (splitL 32 l)) h hO (by
          unfold insRd
          simp only
          split
          · simp
          · exact Nat.le_trans (hw 4) hl0)
        have := readI_sh ls _ (k + 1) hls h3
        rw [h4] at this
        refine ⟨?_, by have := this.2; simp only [List.length_cons]; omega⟩
        rw [List.length_cons, show k + (ls.length + 1) = k + 1 + ls.length by omega]
        exact this.1
theorem readI_short (ls : List (List UInt8)) (hn : ls.length ≤ 400001) (hl : ∀ l ∈ ls, l.length ≤ 400000) : ShortR (readI [] ls) ∧ (readI [] ls).length ≤ 400001 := by
  obtain ⟨h1, h2⟩ := readI_sh ls [] 0 hl (fun q hq => by cases hq)
  refine ⟨fun j => ?_, by simp at h2; omega⟩
  by_cases hj : j < (readI [] ls).length
  · have hm : (readI [] ls).getD j rt0 ∈ readI [] ls := getD_memR _ _ _ hj
    obtain ⟨q1, q2, q3⟩ := h1 _ hm
    refine ⟨by omega, by omega, fun u => ?_⟩
    by_cases hu : u < ((readI [] ls).getD j rt0).2.2.length
    · have := q3 _ (getD_memR _ u in0 hu); omega
    · rw [List.getD_eq_getElem?_getD (l := ((readI [] ls).getD j rt0).2.2), List.getElem?_eq_none (by omega)]; simp [in0]
  · rw [List.getD_eq_getElem?_getD, List.getElem?_eq_none (by omega)]
    exact ⟨by simp [rt0], by simp [rt0], fun u => by simp [rt0, in0]⟩

theorem ri_no {l : List UInt8} (h : readIB l = false) : readIB l = false ∧ readIV l = [] := ⟨h, by unfold readIV; rw [if_neg (by rw [h]; simp)]⟩
theorem ri_bad {l : List UInt8} (h : imageB (readI [] (linesL l)) = false ∨ showI (readI [] (linesL l)) ≠ l) : readIB l = false ∧ readIV l = [] := ri_no (by
  unfold readIB
  rcases h with h | h
  · simp [h]
  · simp [h])
theorem ri_yes {l : List UInt8} (hl : l.length ≤ 400000) (h : imageB (readI [] (linesL l)) = true) (hs : showI (readI [] (linesL l)) = l) : readIB l = true ∧ readIV l = readI [] (linesL l) := by
  have : readIB l = true := by unfold readIB; simp [h, hs, hl]
  exact ⟨this, by unfold readIV; rw [if_pos this]⟩
theorem set1R {X : World} {R : Nat} {a0 : Value} (u : Value) (r0 : X.cell? ⟨R, 0, none⟩ = some a0) : ∃ Y, X.setCell ⟨R, 0, none⟩ u = Y ∧ Y.cell? ⟨R, 0, none⟩ = some u ∧ X.grownBy Y (some R) :=
  ⟨_, rfl, World.cell?_setCell_same _ _ _ r0, grown_set X R 0 u⟩

/-- What ReadImage answers. -/
def RiOut (w : World) (l : List UInt8) (e : Ending) (w' : World) : Prop :=
  ∃ v xs, e = .returned (.tuple #[.agg #[v], .bool (readIB l)]) ∧ (xs : List RV).map (·.1) = readIV l ∧ RtsOwn w' w.heap.size v xs ∧ ApartR (xs.map rvT) ∧ Below w.heap.size w w'
theorem riZero {w Y : World} {l : List UInt8} (hz : readIB l = false ∧ readIV l = []) (hb : Below w.heap.size w Y) : RiOut w l (.returned (.tuple #[.agg #[.slice none 0 0], .bool false])) Y :=
  ⟨.slice none 0 0, [], by rw [hz.1], by rw [hz.2]; rfl, RtsOwn.nil Y _, ApartR.nil, hb⟩

set_option maxHeartbeats 8000000 in
set_option maxRecDepth 100000 in
theorem specReadImage (l : List UInt8) (w : World) :
    Calls Tryz.prog 9 #[.string ⟨l.toArray⟩] w fun e w' => RiOut w l e w' := by
  obtain ⟨D, hD⟩ : ∃ D, w.heap.size = D := ⟨_, rfl⟩
  obtain ⟨W1, hW1⟩ : ∃ W, w.alloc (.cells #[.slice none 0 0] 26) = W := ⟨_, rfl⟩
  have hA1 : W1.heap[D]? = some (.cells #[.slice none 0 0] 26) := by rw [← hW1, ← hD]; exact heap_alloc_new w _
  have hB1 : Below w.heap.size w W1 := by rw [← hW1]; exact (Below.refl _ _).alloc (Nat.le_refl _) _
  have r0 : W1.cell? ⟨D, 0, none⟩ = some (.slice none 0 0) := by simp [World.cell?, hA1]
  have f0 : W1.frozen? ⟨D, 0, none⟩ = false := by simp [World.frozen?, hA1]
  have hDl : D < W1.heap.size := World.block_lt_of_cell? W1 ⟨D, 0, none⟩ r0
  have HK : Hid (∀ V, Below W1.heap.size W1 V → V.cell? ⟨D, 0, none⟩ = some (.slice none 0 0) ∧ V.frozen? ⟨D, 0, none⟩ = false ∧ Below w.heap.size w V ∧ D < V.heap.size) := fun V h => ⟨(h.cell (p := ⟨D, 0, none⟩) hDl).trans r0, (h.frozen (p := ⟨D, 0, none⟩) hDl).trans f0, hB1.trans (h.mono hB1.size), Nat.lt_of_lt_of_le hDl h.size⟩
  have HD : Hid (w.heap.size = D) := hD
  have HDl : Hid (D < W1.heap.size) := hDl
  clear hA1 hB1 hDl
  by_cases hlen : 400000 < (l.length : Int)
  · have HZ : Hid (readIB l = false ∧ readIV l = []) := ri_no (by unfold readIB; rw [decide_eq_false (by omega)]; rfl)
    go_enter Tryz.func9, Tryz.ntmps9
    go_wp2
    obtain ⟨Y, hY, z0, hg⟩ := set1R (.slice none 0 0) r0
    rw [hY]
    refine bodyPost_ret (v := .tuple #[.agg #[.slice none 0 0], .bool false]) (by simp [results, Tryz.results9, go_sem, z0]) rfl ?_
    obtain ⟨_, _, hb, _⟩ := HK.out W1 (Below.refl _ _)
    exact riZero HZ.out (hb.grown hg hb.size (fun k e => by injection e with e; have := HD.out; omega))
  have hlen2 : l.length ≤ 400000 := by omega
  have HLn : Hid (_) := specLines l W1 (by omega)
  have hln := linesL_len l
  have hll := line_lenR l
  have hlm : ∀ q ∈ linesL l, q.length ≤ 400000 := fun q hq => by
    obtain ⟨j, hj, e⟩ := List.mem_iff_getElem.1 hq
    have h := hll j
    rw [List.getD_eq_getElem?_getD, List.getElem?_eq_getElem hj] at h
    simp only [Option.getD_some, e] at h
    omega
  obtain ⟨hsh, hrl⟩ := readI_short (linesL l) (by omega) hlm
  have HSh : Hid (ShortR (readI [] (linesL l))) := hsh
  have HL2 : Hid (l.length ≤ 400000) := hlen2
  obtain ⟨ls, hls⟩ : ∃ ls, linesL l = ls := ⟨_, rfl⟩
  have HLS : Hid (linesL l = ls) := hls
  rw [hls] at HLn hln hll hrl HSh
  have HRd : Hid (∀ (V : World) (g cp : Nat), TextsIn V (some ⟨g, 0, none⟩) ls.length ls → Calls Tryz.prog 23 #[.slice (some ⟨g, 0, none⟩) ls.length cp] V fun e w' => ∃ v xs, e = .returned v ∧ (xs : List RV).map (·.1) = readI [] ls ∧ Rd14 V w' v xs) := fun V g cp h => specReadI (some ⟨g, 0, none⟩) ls.length cp ls V h (by omega) (fun j => by have := hll j; omega)
  clear hls hlm hsh hll
  go_enter Tryz.func9, Tryz.ntmps9
  go_wp2_with fail
  refine Calls.mono HLn.out ?_
  rintro e w2 ⟨gL, cpL, rfl, hownL, hb2⟩
  clear HLn
  obtain ⟨_, aL, cL, eL, htx⟩ := own_texts hownL
  injection eL with e1 _ e3
  subst e1 e3
  have HC : Hid (_) := HRd.out w2 gL cpL htx
  have HB2 : Hid (Below W1.heap.size W1 w2) := hb2
  clear hownL htx HRd hb2 r0 f0
  go_wp2_with fail
  refine Calls.mono HC.out ?_
  rintro e w3 ⟨v, xs, rfl, hxs, hR⟩
  clear HC
  obtain ⟨a, cp, rfl, _, hin⟩ := hR.fo.in
  rw [hxs] at hin
  have hb3 : Below W1.heap.size W1 w3 := HB2.out.trans (hR.b.mono HB2.out.size)
  obtain ⟨rs, hrs⟩ : ∃ rs, readI [] ls = rs := ⟨_, rfl⟩
  have HRS : Hid (readI [] (linesL l) = rs) := by rw [HLS.out]; exact hrs
  rw [hrs] at hin hrl HSh hxs
  have hxl : rs.length = xs.length := hin.1
  obtain ⟨P, hP⟩ : ∃ P, w3.heap.size = P := ⟨_, rfl⟩
  obtain ⟨X4, hX4⟩ : ∃ X, w3.alloc (.cells #[.slice a xs.length cp] 26) = X := ⟨_, rfl⟩
  have hA4 : X4.heap[P]? = some (.cells #[.slice a xs.length cp] 26) := by rw [← hX4, ← hP]; exact heap_alloc_new w3 _
  have hb4 : Below w3.heap.size w3 X4 := by rw [← hX4]; exact (Below.refl _ _).alloc (Nat.le_refl _) _
  have q0 : X4.cell? ⟨P, 0, none⟩ = some (.slice a xs.length cp) := by simp [World.cell?, hA4]
  have hPl : P < X4.heap.size := World.block_lt_of_cell? X4 ⟨P, 0, none⟩ q0
  have HX : Hid (∀ V, Below X4.heap.size X4 V → V.cell? ⟨P, 0, none⟩ = some (.slice a xs.length cp) ∧ RtsIn V a xs.length rs ∧ Below W1.heap.size W1 V ∧ RtsOwn V w2.heap.size (.slice a xs.length cp) xs) := fun V h => ⟨(h.cell (p := ⟨P, 0, none⟩) hPl).trans q0, (hin.below hb4).below h, (hb3.trans (hb4.mono hb3.size)).trans (h.mono (by have := hb4.size; have := hb3.size; omega)), (hR.fo.below hb4).below h⟩
  have HAp : Hid (ApartR (xs.map rvT) ∧ xs.map (·.1) = rs) := ⟨hR.ap, hxs⟩
  have HD2 : Hid (D < w2.heap.size) := Nat.lt_of_lt_of_le HDl.out HB2.out.size
  have HO : Hid (_) := specImageOk a xs.length cp rs X4 (HX.out X4 (Below.refl _ _)).2.1 HSh.out (by omega)
  have HSw : Hid (∀ V, Below X4.heap.size X4 V → imageB rs = true → Calls Tryz.prog 25 #[.slice a xs.length cp] V fun e w' => e = .returned (.string ⟨(showI rs).toArray⟩) ∧ Below V.heap.size V w') := fun V h hi => specShowI a xs.length cp rs V (HX.out V h).2.1 hi
  obtain ⟨ok, hok⟩ : ∃ ok, imageB rs = ok := ⟨_, rfl⟩
  have HOk : Hid (imageB rs = ok) := hok
  rw [hok] at HO
  obtain ⟨nx, hnx⟩ : ∃ nx, xs.length = nx := ⟨_, rfl⟩
  rw [hnx] at hX4 HX HO q0 HSw ⊢
  clear hin hb3 hR hA4 hb4 hPl hok hrs hxs hxl hnx
  go_wp2_with fail
  refine Calls.mono HO.out ?_
  rintro e w5 ⟨rfl, hb5⟩
  clear HO q0
  obtain ⟨q0, _, hW5, _⟩ := HX.out w5 hb5
  obtain ⟨r0, f0, _, _⟩ := HK.out w5 hW5
  cases ok
  · have HZ : Hid (readIB l = false ∧ readIV l = []) := ri_bad (Or.inl (by rw [HRS.out]; exact HOk.out))
    have HV : Hid (Below W1.heap.size W1 w5) := hW5
    clear hb5 hW5
    go_wp2
    obtain ⟨Y, hY, z0, hg⟩ := set1R (.slice none 0 0) r0
    rw [hY]
    refine bodyPost_ret (v := .tuple #[.agg #[.slice none 0 0], .bool false]) (by simp [results, Tryz.results9, go_sem, z0]) rfl ?_
    obtain ⟨_, _, hb, _⟩ := HK.out w5 HV.out
    exact riZero HZ.out (hb.grown hg hb.size (fun k e => by injection e with e; have := HD.out; omega))
  have HS5 : Hid (_) := HSw.out w5 hb5 HOk.out
  have HB5 : Hid (Below X4.heap.size X4 w5) := hb5
  clear hb5 hW5
  go_wp2_with fail
  refine Calls.mono HS5.out ?_
  rintro e w6 ⟨rfl, hb6⟩
  have h6 := HB5.out.trans (hb6.mono HB5.out.size)
  clear HS5 q0 r0 f0 hb6
  obtain ⟨q0, _, hW6, hO6⟩ := HX.out w6 h6
  obtain ⟨r0, f0, _, _⟩ := HK.out w6 hW6
  have HV : Hid (Below W1.heap.size W1 w6 ∧ RtsOwn w6 w2.heap.size (.slice a nx cp) xs) := ⟨hW6, hO6⟩
  obtain ⟨A, hA⟩ : ∃ A, showI rs = A := ⟨_, rfl⟩
  rw [hA]
  clear h6 hW6 hO6
  by_cases hAl : A = l
  · have HY : Hid (readIB l = true ∧ readIV l = rs) := by
      have h := ri_yes HL2.out (by rw [HRS.out]; exact HOk.out) (by rw [HRS.out]; exact hA.trans hAl)
      rw [HRS.out] at h
      exact h
    subst hAl
    have hself : (A != A) = false := by simp
    clear hA
    go_wp2
    obtain ⟨Y, hY, z0, hg⟩ := set1R (.slice a nx cp) r0
    rw [hY]
    refine bodyPost_ret (v := .tuple #[.agg #[.slice a nx cp], .bool true]) (by simp [results, Tryz.results9, go_sem, z0]) rfl ?_
    obtain ⟨_, _, hb, _⟩ := HK.out w6 HV.out.1
    have hOw := HV.out.2
    have hd2 := HD2.out
    have off : ∀ {e size m : Nat} {u : Value} {zs : List Value}, w6.ownsRow w2.heap.size e size u m zs → u.ownBlock = none ∨ u.ownBlock ≠ some D := fun ho => by
      rename_i u _
      cases hu : u.ownBlock with
      | none => exact Or.inl rfl
      | some q => exact Or.inr (by have := (ho.lt q hu).1; intro e; injection e with e; omega)
    exact ⟨.slice a nx cp, xs, by rw [HY.out.1], by rw [HY.out.2]; exact HAp.out.2, (hOw.kept hg (off hOw.row) (fun y hy => off (hOw.trees y hy))).base (by have := HD.out; omega), HAp.out.1, hb.grown hg hb.size (fun k e => by injection e with e; have := HD.out; omega)⟩
  · have HZ : Hid (readIB l = false ∧ readIV l = []) := ri_bad (Or.inr (by rw [HRS.out, hA]; exact hAl))
    have hne : (A != l) = true := bne_iff_ne.2 hAl
    have hne1 : (A == l) = false := beq_eq_false_iff_ne.2 hAl
    clear hA hAl
    go_wp2
    obtain ⟨Y, hY, z0, hg⟩ := set1R (.slice none 0 0) r0
    rw [hY]
    refine bodyPost_ret (v := .tuple #[.agg #[.slice none 0 0], .bool false]) (by simp [results, Tryz.results9, go_sem, z0]) rfl ?_
    obtain ⟨_, _, hb, _⟩ := HK.out w6 HV.out.1
    exact riZero HZ.out (hb.grown hg hb.size (fun k e => by injection e with e; have := HD.out; omega))

end Go.Proofs.YtogobeegibngiaaGreatDoor

/-! Plain facts for chapter 6's landed code: shapes, and what words are read as. -/
namespace Go.Proofs.YtogobeegibngiaaGreatDoor
open Go.RowKit

/-- The library's numerals are ours. -/
theorem dec_digL : ∀ u : Nat, Lib.decDigits u = digL u := by
  intro u
  induction u using Nat.strongRecOn with
  | ind u ih =>
    rw [Lib.decDigits, digL]
    by_cases h : u < 10
    · rw [dif_pos h, if_pos h]; unfold digit; rw [Nat.mod_eq_of_lt h]
    · rw [dif_neg h, if_neg h, ih (u / 10) (by omega)]; rfl
theorem itoa_int (a : Int) : Lib.itoa a = intL a := by
  unfold Lib.itoa intL
  split
  · rw [dec_digL]
  · rw [dec_digL]; congr 1; omega

theorem join_by (ws : List (List UInt8)) : Lib.join ws [32] = joinBy 32 ws := by
  induction ws with
  | nil => rfl
  | cons x r ih =>
    cases r with
    | nil => rw [Lib.join_one]; rfl
    | cons y q =>
      rw [joinBy_cons 32 x (y :: q) (by simp), ← ih, Lib.join_cons, Lib.join_cons]
      simp [Lib.joinTail]

/-- A text cut at a byte: what is ahead of it, what is behind it. -/
def cutA (b : UInt8) (l : List UInt8) : List UInt8 := l.takeWhile (fun c => c != b)
def cutB (b : UInt8) (l : List UInt8) : List UInt8 := (l.dropWhile (fun c => c != b)).tail

theorem cut_one (b : UInt8) (x y : List UInt8) (h : ∀ c ∈ x, c ≠ b) : cutA b (x ++ b :: y) = x ∧ cutB b (x ++ b :: y) = y := by
  unfold cutA cutB
  induction x with
  | nil => simp
  | cons c r ih =>
    have hc : (c != b) = true := bne_iff_ne.2 (h c (by simp))
    have := ih (fun d hd => h d (by simp [hd]))
    rw [List.cons_append, List.takeWhile_cons, List.dropWhile_cons, if_pos hc, if_pos hc]
    exact ⟨by rw [this.1], this.2⟩

theorem cutA_len (b : UInt8) (l : List UInt8) : (cutA b l).length ≤ l.length := (List.takeWhile_sublist _).length_le
theorem cutB_len (b : UInt8) (l : List UInt8) : (cutB b l).length ≤ l.length := by
  have := (List.dropWhile_sublist (l := l) (fun c => c != b)).length_le
  unfold cutB
  rw [List.length_tail]
  omega

/-- Where the byte is. -/
theorem cut_at (b : UInt8) (l : List UInt8) : (Lib.indexByte l b = -1 ∧ cutA b l = l ∧ cutB b l = []) ∨ ∃ k : Nat, Lib.indexByte l b = (k : Int) ∧ k < l.length ∧ cutA b l = l.take k ∧ cutB b l = l.drop (k + 1) := by
  induction l with
  | nil => exact Or.inl ⟨rfl, rfl, rfl⟩
  | cons c r ih =>
    by_cases hc : c = b
    · subst hc
      refine Or.inr ⟨0, ?_, by simp, ?_, ?_⟩
      · unfold Lib.indexByte; simp
      · unfold cutA; simp
      · unfold cutB; simp
    · have hc2 : (c != b) = true := bne_iff_ne.2 hc
      have hc3 : (c == b) = false := beq_eq_false_iff_ne.2 hc
      have ea : cutA b (c :: r) = c :: cutA b r := by unfold cutA; rw [List.takeWhile_cons, if_pos hc2]
      have eb : cutB b (c :: r) = cutB b r := by unfold cutB; rw [List.dropWhile_cons, if_pos hc2]
      have ei : Lib.indexByte (c :: r) b = if Lib.indexByte r b == -1 then -1 else Lib.indexByte r b + 1 := by
        rw [Lib.indexByte, hc3]; rfl
      rw [ea, eb, ei]
      rcases ih with ⟨h1, h2, h3⟩ | ⟨k, h1, h2, h3, h4⟩
      · exact Or.inl ⟨by rw [h1]; rfl, by rw [h2], h3⟩
      · refine Or.inr ⟨k + 1, ?_, by simp; omega, by rw [h3]; rfl, by rw [h4]; rfl⟩
        rw [h1, if_neg (by rw [beq_iff_eq]; omega)]
        omega

theorem num_word (a : Int) (h0 : -2147483648 ≤ a) (h1 : a ≤ 2147483647) : numB (intL a) = true ∧ numV (intL a) = a := by
  obtain ⟨e1, e2⟩ := read_of_int a h0 h1
  have := num_yes e1 (by rw [e2]; exact inB_yes _ _ _ h0 h1)
  exact ⟨this.1, by rw [this.2, e2]⟩

end Go.Proofs.YtogobeegibngiaaGreatDoor
