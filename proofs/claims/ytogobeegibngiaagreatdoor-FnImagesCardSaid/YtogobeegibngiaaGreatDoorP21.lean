/-
  Parts of one proof, one behind the other: Draw14C.
-/
import Derived.Test.YtogobeegibngiaaGreatDoorP20
import Derived.Deep.RegionHeld3

/-! Images are drawn: l14Draw (written by gen_draw14.py). -/
namespace Go.Proofs.YtogobeegibngiaaGreatDoor
open Go.RowKit

section
variable {op : Oper} {a : Act} {w : World} {Q : Exit → Act → World → Prop} {K : Act → World → Prop}
theorem sizeRt14 : (Tryz.prog.info? 50).map (·.size) = some 3 := by kernel_rfl
/-- Three cells of a block, which may be written. -/
structure R3 (X : World) (b : Nat) (u0 u1 u2 : Value) : Prop where
  c0 : X.cell? ⟨b, 0, none⟩ = some u0
  c1 : X.cell? ⟨b, 1, none⟩ = some u1
  c2 : X.cell? ⟨b, 2, none⟩ = some u2
  f : ∀ j, X.frozen? ⟨b, j, none⟩ = false
  l : b < X.heap.size
theorem R3.below {X Y : World} {b : Nat} {u0 u1 u2 : Value} (h : R3 X b u0 u1 u2) (hb : Below X.heap.size X Y) : R3 Y b u0 u1 u2 :=
  ⟨(hb.cell (p := ⟨b, 0, none⟩) h.l).trans h.c0, (hb.cell (p := ⟨b, 1, none⟩) h.l).trans h.c1, (hb.cell (p := ⟨b, 2, none⟩) h.l).trans h.c2, fun j => (hb.frozen (p := ⟨b, j, none⟩) h.l).trans (h.f j), Nat.lt_of_lt_of_le h.l hb.size⟩
theorem wp_alloc_rt14 (ho : op.op = .alloc 50) (d : Nat) (hd : op.dst = some d) (h : ∀ Y g, R3 Y g (.string ⟨#[]⟩) (.int .i64 0) (.slice none 0 0) → Below w.heap.size w Y → w.heap.size ≤ g → K (a.put (some d) (.pointer (some ⟨g, 0, none⟩))) Y) : op.wp Tryz.prog a w K Q := by
  unfold Oper.wp execOp
  simp only [ho, Instr.alloc, Sem.run_bind, Tryz.zeroValue50, Result.andThen_ok, newVar, newRow, run_newObj_alloc, Sem.run_pure, Value.cells]
  have hA := heap_alloc_new w (.cells #[.string ⟨#[]⟩, .int .i64 0, .slice none 0 0] 50)
  have h2 := h _ _ ⟨by rw [cell_of_row _ _ _ _ _ _ hA]; rfl, by rw [cell_of_row _ _ _ _ _ _ hA]; rfl, by rw [cell_of_row _ _ _ _ _ _ hA]; rfl, fun j => frozen_of_row _ _ _ _ _ hA, lt_of_block hA⟩ ((Below.refl _ _).alloc (Nat.le_refl _) _) (Nat.le_refl _)
  rw [← hd] at h2
  exact h2
theorem wp_store_rt14 (x y : Operand) (ho : op.op = .store 50 x y) (b : Nat) (n : List UInt8) (A : Int) (ca : Option Addr) (cl cc : Nat) {u0 u1 u2 : Value} (hx : a.eval x = .pointer (some ⟨b, 0, none⟩)) (hy : a.eval y = .agg #[.string ⟨n.toArray⟩, .int .i64 A, .slice ca cl cc]) (ht : R3 w b u0 u1 u2)
    (h : ∀ Y, R3 Y b (.string ⟨n.toArray⟩) (.int .i64 A) (.slice ca cl cc) → w.grownBy Y (some b) → K (a.put op.dst undef) Y) : op.wp Tryz.prog a w K Q := by
  have hth : w.there b 0 3 := fun j hj => by
    refine ⟨?_, ht.f _⟩
    match j, hj with
    | 0, _ => rw [ht.c0]; rfl
    | 1, _ => rw [ht.c1]; rfl
    | 2, _ => rw [ht.c2]; rfl
  refine wp_store_mid _ x y ho b 0 #[.string ⟨n.toArray⟩, .int .i64 A, .slice ca cl cc] hx hy hth sizeRt14 (all_oneCell_toArray (by intro v hv; simp only [List.mem_cons, List.not_mem_nil, or_false] at hv; rcases hv with rfl | rfl | rfl <;> rfl)) ?_
  obtain ⟨Y, hY, y0, y1, y2, hg⟩ := set3R (.string ⟨n.toArray⟩) (.int .i64 A) (.slice ca cl cc) ht.c0 ht.c1 ht.c2
  refine h _ ?_ ?_
  · show R3 (((w.setCell ⟨b, 0, none⟩ _).setCell ⟨b, 1, none⟩ _).setCell ⟨b, 2, none⟩ _) b _ _ _
    rw [hY]
    exact ⟨y0, y1, y2, fun j => by rw [← hY]; simpa using ht.f j, by have := hg.size; have := ht.l; omega⟩
  · show w.grownBy (((w.setCell ⟨b, 0, none⟩ _).setCell ⟨b, 1, none⟩ _).setCell ⟨b, 2, none⟩ _) (some b)
    rw [hY]
    exact hg
end
/-- Ways that meet: what is left is walked once. -/
theorem join_rt {F : World → Nat → Option Addr → Nat → Prop} {R : World → Nat → Option Addr → Nat → Prop} {G : Prop} (main : (∀ V gn ca cc, F V gn ca cc → R V gn ca cc) → G) (rest : ∀ V gn ca cc, F V gn ca cc → R V gn ca cc) : G := main rest
theorem join_rows {F : World → Nat → Nat → Nat → Nat → Prop} {R : World → Nat → Nat → Nat → Nat → Prop} {G : Prop} (main : (∀ V g0 go gh ch, F V g0 go gh ch → R V g0 go gh ch) → G) (rest : ∀ V g0 go gh ch, F V g0 go gh ch → R V g0 go gh ch) : G := main rest
theorem below_grown {w w' : World} (h : Below w.heap.size w w') (row : Option Nat) : w.grownBy w' row := ⟨h.os, h.tape, h.output, h.size, fun k hk _ => h.block k hk⟩
/-- What l14Draw makes. -/
def Dr14 (w : World) (B : Nat) (a : Option Addr) (len cap : Nat) (e : Ending) (w' : World) : Prop :=
  ∃ (g c : Nat) (xs : List RV), e = .returned (.agg #[.slice (some ⟨g, 0, none⟩) xs.length c]) ∧ RtsOwn w' w.heap.size (.slice (some ⟨g, 0, none⟩) xs.length c) xs ∧ SmR xs ∧ 1 ≤ xs.length ∧ xs.length ≤ 12 ∧ Cur w' B a len cap ∧ w.grownBy w' (some B)

set_option maxHeartbeats 16000000 in
set_option maxRecDepth 100000 in
theorem drawImage14 (w : World) (B : Nat) (a : Option Addr) (len cap : Nat) (hc : Cur w B a len cap) :
    Calls Tryz.prog 33 #[.pointer (some ⟨B, 0, none⟩)] w fun e w' => Dr14 w B a len cap e w' := by
  have hlB := hc.lt
  have hA0 := heap_alloc_new w (.cells #[.slice none 0 0] 26)
  have hb0 : Below w.heap.size w (w.alloc (.cells #[.slice none 0 0] 26)) := (Below.refl _ _).alloc (Nat.le_refl _) _
  obtain ⟨W, hW⟩ : ∃ W, w.alloc (.cells #[.slice none 0 0] 26) = W := ⟨_, rfl⟩
  rw [hW] at hA0 hb0
  have HD : Hid (_) := drawPs W B a len cap (hc.below hb0)
  have hsW : W.heap.size = w.heap.size + 1 := by rw [← hW]; simp
  obtain ⟨D, hD⟩ : ∃ D, w.heap.size = D := ⟨_, rfl⟩
  rw [hD] at hA0
  have HA0 : Hid (W.heap[D]? = some (.cells #[.slice none 0 0] 26 (0, 0)) ∧ Below w.heap.size w W ∧ B < D) := ⟨hA0, hb0, by omega⟩
  clear hA0 hb0 hc
  go_enter Tryz.func33, Tryz.ntmps33
  go_wp2_with fail
  refine Calls.mono HD.out ?_
  rintro e w1 ⟨L, la, lc, ys, vc, cs, rfl, hd8, hy1, hy4⟩
  obtain ⟨gp, rfl, hpk⟩ := hd8.pj hy1
  have HPk : Hid (∀ i, i < ys.length → Pk14 w1 gp i (ys.getD i pv0)) := hpk
  have HC1 : Hid (Cur w1 B a len cap ∧ W.grownBy w1 (some B)) := ⟨hd8.cur, hd8.g⟩
  have hX0 : Im14 w1 (w1.alloc (.cells #[] 50)) w1.heap.size 0 [] := ⟨empty14 w1 (Nat.le_refl _), (fun x hx => by cases hx), (Below.refl _ _).alloc (Nat.le_refl _) _⟩
  have HX0 : Hid (Im14 w1 (w1.alloc (.cells #[] 50)) w1.heap.size 0 []) := hX0
  obtain ⟨ny, hny⟩ : ∃ ny, ys.length = ny := ⟨_, rfl⟩
  rw [hny] at HPk hy1 hy4 ⊢
  clear HD hd8 hpk hX0 hny
  go_wp2
  go_loopw [4, 5] (fun vv iv wx => ∃ (i g c : Nat) (xs : List RV), iv = .int .i64 (i : Int) ∧ i ≤ ny ∧ vv = .slice (some ⟨g, 0, none⟩) xs.length c ∧ xs.length ≤ 3 * i ∧ (1 ≤ i → 1 ≤ xs.length) ∧ Hid (Im14 w1 wx g c xs)) (fun _ iv _ => ny - (intOf iv).toNat)
  case atStart => exact ⟨0, w1.heap.size, 0, [], rfl, Nat.zero_le _, rfl, Nat.le_refl _, by omega, HX0⟩
  case round =>
    obtain ⟨i, g, c, xs, rfl, hi, rfl, hxl, hx1, sr⟩ := hrel
    clear HX0
    by_cases hiy : (i : Int) < (ny : Int)
    · have hpk := HPk.out i (by omega)
      obtain ⟨y, hy⟩ : ∃ y, ys.getD i pv0 = y := ⟨_, rfl⟩
      rw [hy] at hpk
      obtain ⟨q0, q2, _⟩ := hpk.below sr.out.b
      have HPy : Hid (Pk14 w1 gp i y) := hpk
      have hm1 := hpk.n
      obtain ⟨m, hm⟩ : ∃ m, y.xs.length = m := ⟨_, rfl⟩
      have HM : Hid (y.xs.length = m) := hm
      rw [hm] at q2 hm1
      clear hy hpk hm
      go_wp2
      go_loopw [4, 6] (fun vv kv wx => ∃ (k g c : Nat) (xs : List RV), kv = .int .i64 (k : Int) ∧ k ≤ m ∧ vv = .slice (some ⟨g, 0, none⟩) xs.length c ∧ xs.length ≤ 3 * i + k ∧ (1 ≤ i + k → 1 ≤ xs.length) ∧ Hid (Im14 w1 wx g c xs)) (fun _ kv _ => m - (intOf kv).toNat)
      case atStart => exact ⟨0, g, c, xs, rfl, Nat.zero_le _, rfl, by omega, by omega, sr⟩
      case round =>
        clear sr q0 q2 hxl hx1
        obtain ⟨k, g, c, xs, rfl, hk, rfl, hxl, hx1, sr⟩ := hrel
        obtain ⟨q0, q2, hfi⟩ := HPy.out.below sr.out.b
        rw [HM.out] at q2 hfi
        by_cases hkm : (k : Int) < (m : Int)
        ·
          obtain ⟨b, off, hfa, hbl, c0, c1, ta, tl, tc, c2, hta, hnin⟩ := hfi.2 k (by omega)
          have hkx : k < y.xs.length := by rw [HM.out]; omega
          have hsmx := HPy.out.sm (y.xs.getD k fv0) (by rw [List.getD_eq_getElem?_getD, List.getElem?_eq_getElem hkx]; exact List.getElem_mem hkx)
          have hfe : (y.xs.map (·.1)).getD k fn0 = (y.xs.getD k fv0).1 := by simp [List.getD, hkx]
          rw [hfe] at c0 c1 hnin
          obtain ⟨⟨⟨fn, ar, t⟩, tv⟩, hfx⟩ : ∃ f, y.xs.getD k fv0 = f := ⟨_, rfl⟩
          rw [hfx] at c0 c1 hnin hsmx
          simp only at c0 c1 hnin hsmx
          obtain ⟨⟨hfn9, har, ht100, hsmt⟩, har0, har3, htb⟩ := hsmx
          simp only at hfn9 har ht100 hsmt
          obtain rfl : t.length = tl := hnin.1
          have hynm := HPy.out.nm
          obtain ⟨X1, hX1⟩ : ∃ X, wr.alloc (.cells #[.string ⟨fn.toArray⟩, .int .i64 ar, .slice ta t.length tc] 86) = X := ⟨_, rfl⟩
          have hb1 : Below wr.heap.size wr X1 := by rw [← hX1]; exact (Below.refl _ _).alloc (Nat.le_refl _) _
          have hF1 : X1.heap[wr.heap.size]? = some (.cells #[.string ⟨fn.toArray⟩, .int .i64 ar, .slice ta t.length tc] 86) := by rw [← hX1]; exact heap_alloc_new wr _
          have st1 := sr.out.below hb1
          obtain ⟨F, hF⟩ : ∃ F, wr.heap.size = F := ⟨_, rfl⟩
          rw [hF] at hF1
          have HG : Hid (∀ V, Below X1.heap.size X1 V → V.cell? ⟨gp, i * 3, none⟩ = some (.string ⟨y.nm.toArray⟩) ∧ V.cell? ⟨F, 0, none⟩ = some (.string ⟨fn.toArray⟩) ∧ V.cell? ⟨F, 1, none⟩ = some (.int .i64 ar) ∧ V.cell? ⟨F, 2, none⟩ = some (.slice ta t.length tc)) := fun V hV => by
            obtain ⟨z0, z1, z2, _⟩ := threeR hV (lt_of_block hF1) hF1
            exact ⟨(HPy.out.below (st1.below hV).b).1, z0, z1, z2⟩
          have HCp : Hid (∀ V, Below X1.heap.size X1 V → Calls Tryz.prog 51 #[.slice ta t.length tc] V fun e w' => ∃ ca cc, e = .returned (.slice ca (compiledV t).length cc) ∧ w'.ownsRow V.heap.size 56 5 (.slice ca (compiledV t).length cc) (compiledV t).length (insV (compiledV t)) ∧ Below V.heap.size V w') := fun V hV => by
            refine (specCompiled13 ta tc t V ((hnin.below hb1).below hV) hsmt.short htb).mono ?_
            rintro e w' ⟨v, rfl, ho, hb⟩
            obtain ⟨ca, cc, rfl⟩ := own_any12 ho
            exact ⟨ca, cc, rfl, ho, hb⟩
          have hc121 := (compiled_law htb).2.2.1
          have HSm : Hid (AllI (compiledV t) ∧ (compiledV t).length ≤ 121) := ⟨compiled_all htb hsmt, hc121⟩
          have hadd1 : ∀ V : World, (Op.stringOp .add ⟨y.nm.toArray⟩ ⟨#[46]⟩).run Tryz.prog V = .ok (.string ⟨(y.nm ++ [46]).toArray⟩) V := fun V => run_string_add_lists (P := Tryz.prog) V y.nm [46] (by omega) (by simp)
          have hadd2 : ∀ V : World, (Op.stringOp .add ⟨(y.nm ++ [46]).toArray⟩ ⟨fn.toArray⟩).run Tryz.prog V = .ok (.string ⟨(y.nm ++ [46] ++ fn).toArray⟩) V := fun V => run_string_add_lists (P := Tryz.prog) V (y.nm ++ [46]) fn (by simp; omega) (by omega)
          have HNl : Hid ((y.nm ++ [46] ++ fn).length ≤ 100) := by exact (by simp; omega : (y.nm ++ [46] ++ fn).length ≤ 100)
          have S1 : Hid (Im14 w1 X1 g c xs) := st1
          have HAr : Hid (-10 ≤ ar ∧ ar ≤ 10) := har
          have hbw1 : w1.heap.size ≤ X1.heap.size := st1.b.size
          generalize compiledV t = code at HCp HSm
          obtain ⟨cl, hcl⟩ : ∃ cl, code.length = cl := ⟨_, rfl⟩
          have HCl : Hid (code.length = cl) := hcl
          rw [hcl] at HCp
          obtain ⟨nx, hnx⟩ : ∃ nx, xs.length = nx := ⟨_, rfl⟩
          have HNx : Hid (xs.length = nx) := hnx
          rw [hnx] at hxl hx1 ⊢
          rw [hfa] at q2
          have hkmi : (k : Int) < (m : Int) := hkm
          generalize y.nm ++ [46] ++ fn = nmA at hadd2 HNl
          generalize y.nm ++ [46] = nmB at hadd1 hadd2
          clear hsmt htb hc121 har hb1 hF1 st1 sr hnin hfx hfe hkx hcl hnx hynm ht100 hfn9 har0 har3 hfi
          go_wp2_with fail
          refine wp_region_held_drew (S := fun V => Below X1.heap.size X1 V) (by kernel_rfl) ⟨rfl, rfl, rfl, Nat.le_refl _, fun _ _ => rfl⟩ (fun hHeld => ?_)
          refine wpAnyH_take (i := 0) (oi := ⟨some 38, _, _, _, _, _⟩) (v := ?v1) rfl (by kernel_rfl) (by kernel_rfl) (by kernel_rfl) (fun _ _ _ h => h) (Or.inl ⟨by rfl, ?hy1⟩) (by assumption) ?rest1
          case hy1 => (intro wq hSw; have e0 := (HG.out wq hSw).1; have e1 := (HG.out wq hSw).2.1; have e2 := (HG.out wq hSw).2.2.1; have e3 := (HG.out wq hSw).2.2.2; clear hSw; first | (go_simp; done) | (go_simp; with_reducible rfl))
          simp only [Act.put, List.setIfInBounds_toArray, List.set_cons_zero, List.set_cons_succ]
          refine wpAnyH_take (i := 1) (oi := ⟨some 39, _, _, _, _, _⟩) (v := ?v2) rfl (by kernel_rfl) (by kernel_rfl) (by kernel_rfl) (fun _ _ _ h => h) (Or.inl ⟨by rfl, ?hy2⟩) (by assumption) ?rest2
          case hy2 => (intro wq hSw; have e0 := (HG.out wq hSw).1; have e1 := (HG.out wq hSw).2.1; have e2 := (HG.out wq hSw).2.2.1; have e3 := (HG.out wq hSw).2.2.2; clear hSw; first | (go_simp; done) | (go_simp; with_reducible rfl))
          simp only [Act.put, List.setIfInBounds_toArray, List.set_cons_zero, List.set_cons_succ]
          refine wpAnyH_take (i := 2) (oi := ⟨some 40, _, _, _, _, _⟩) (v := ?v3) rfl (by kernel_rfl) (by kernel_rfl) (by kernel_rfl) (fun _ _ _ h => h) (Or.inl ⟨by rfl, ?hy3⟩) (by assumption) ?rest3
          case hy3 => (intro wq hSw; have e0 := (HG.out wq hSw).1; have e1 := (HG.out wq hSw).2.1; have e2 := (HG.out wq hSw).2.2.1; have e3 := (HG.out wq hSw).2.2.2; clear hSw; first | (go_simp; done) | (go_simp; with_reducible rfl))
          simp only [Act.put, List.setIfInBounds_toArray, List.set_cons_zero, List.set_cons_succ]
          refine wpAnyH_take (i := 3) (oi := ⟨some 41, _, _, _, _, _⟩) (v := ?v4) rfl (by kernel_rfl) (by kernel_rfl) (by kernel_rfl) (fun _ _ _ h => h) (Or.inl ⟨by rfl, ?hy4⟩) (by assumption) ?rest4
          case hy4 => (intro wq hSw; have e0 := (HG.out wq hSw).1; have e1 := (HG.out wq hSw).2.1; have e2 := (HG.out wq hSw).2.2.1; have e3 := (HG.out wq hSw).2.2.2; clear hSw; first | (go_simp; done) | (go_simp; with_reducible rfl))
          simp only [Act.put, List.setIfInBounds_toArray, List.set_cons_zero, List.set_cons_succ]
          refine wpAnyH_take (i := 4) (oi := ⟨some 42, _, _, _, _, _⟩) (v := ?v5) rfl (by kernel_rfl) (by kernel_rfl) (by kernel_rfl) (fun _ _ _ h => h) (Or.inl ⟨by rfl, ?hy5⟩) (by assumption) ?rest5
          case hy5 => (intro wq hSw; have e0 := (HG.out wq hSw).1; have e1 := (HG.out wq hSw).2.1; have e2 := (HG.out wq hSw).2.2.1; have e3 := (HG.out wq hSw).2.2.2; clear hSw; first | (go_simp; done) | (go_simp; with_reducible rfl))
          simp only [Act.put, List.setIfInBounds_toArray, List.set_cons_zero, List.set_cons_succ]
          refine wpAnyH_take (i := 5) (oi := ⟨some 43, _, _, _, _, _⟩) (v := ?v6) rfl (by kernel_rfl) (by kernel_rfl) (by kernel_rfl) (fun _ _ _ h => h) (Or.inl ⟨by rfl, ?hy6⟩) (by assumption) ?rest6
          case hy6 => (intro wq hSw; have e0 := (HG.out wq hSw).1; have e1 := (HG.out wq hSw).2.1; have e2 := (HG.out wq hSw).2.2.1; have e3 := (HG.out wq hSw).2.2.2; clear hSw; first | (go_simp; done) | (go_simp; with_reducible rfl))
          simp only [Act.put, List.setIfInBounds_toArray, List.set_cons_zero, List.set_cons_succ]
          refine wpAnyH_take (i := 6) (oi := ⟨some 44, _, _, _, _, _⟩) (v := ?v7) rfl (by kernel_rfl) (by kernel_rfl) (by kernel_rfl) (fun _ _ _ h => h) (Or.inl ⟨by rfl, ?hy7⟩) (by assumption) ?rest7
          case hy7 => (intro wq hSw; have e0 := (HG.out wq hSw).1; have e1 := (HG.out wq hSw).2.1; have e2 := (HG.out wq hSw).2.2.1; have e3 := (HG.out wq hSw).2.2.2; clear hSw; first | (go_simp; done) | (go_simp; with_reducible rfl))
          simp only [Act.put, List.setIfInBounds_toArray, List.set_cons_zero, List.set_cons_succ]
          refine wpAnyH_take (i := 7) (oi := ⟨some 45, _, _, _, _, _⟩) (v := ?v8) rfl (by kernel_rfl) (by kernel_rfl) (by kernel_rfl) (fun _ _ _ h => h) (Or.inl ⟨by rfl, ?hy8⟩) (by assumption) ?rest8
          case hy8 => (intro wq hSw; have e0 := (HG.out wq hSw).1; have e1 := (HG.out wq hSw).2.1; have e2 := (HG.out wq hSw).2.2.1; have e3 := (HG.out wq hSw).2.2.2; clear hSw; first | (go_simp; done) | (go_simp; with_reducible rfl))
          simp only [Act.put, List.setIfInBounds_toArray, List.set_cons_zero, List.set_cons_succ]
          refine wpAnyH_take (i := 8) (oi := ⟨some 46, _, _, _, _, _⟩) (v := ?v9) rfl (by kernel_rfl) (by kernel_rfl) (by kernel_rfl) (fun _ _ _ h => h) (Or.inl ⟨by rfl, ?hy9⟩) (by assumption) ?rest9
          case hy9 => (intro wq hSw; have e0 := (HG.out wq hSw).1; have e1 := (HG.out wq hSw).2.1; have e2 := (HG.out wq hSw).2.2.1; have e3 := (HG.out wq hSw).2.2.2; clear hSw; first | (go_simp; done) | (go_simp; with_reducible rfl))
          simp only [Act.put, List.setIfInBounds_toArray, List.set_cons_zero, List.set_cons_succ]
          refine wpAnyH_take (i := 9) (oi := ⟨some 47, _, _, _, _, _⟩) (v := ?v10) rfl (by kernel_rfl) (by kernel_rfl) (by kernel_rfl) (fun _ _ _ h => h) (Or.inl ⟨by rfl, ?hy10⟩) (by assumption) ?rest10
          case hy10 => (intro wq hSw; have e0 := (HG.out wq hSw).1; have e1 := (HG.out wq hSw).2.1; have e2 := (HG.out wq hSw).2.2.1; have e3 := (HG.out wq hSw).2.2.2; clear hSw; first | (go_simp; done) | (go_simp; with_reducible rfl))
          simp only [Act.put, List.setIfInBounds_toArray, List.set_cons_zero, List.set_cons_succ]
          refine wpAnyH_take (i := 10) (oi := ⟨some 48, _, _, _, _, _⟩) (v := ?v11) rfl (by kernel_rfl) (by kernel_rfl) (by kernel_rfl) (fun _ _ _ h => h) (Or.inl ⟨by rfl, ?hy11⟩) (by assumption) ?rest11
          case hy11 => (intro wq hSw; have e0 := (HG.out wq hSw).1; have e1 := (HG.out wq hSw).2.1; have e2 := (HG.out wq hSw).2.2.1; have e3 := (HG.out wq hSw).2.2.2; clear hSw; first | (go_simp; done) | (go_simp; with_reducible rfl))
          simp only [Act.put, List.setIfInBounds_toArray, List.set_cons_zero, List.set_cons_succ]
          refine wpAnyH_take (i := 11) (oi := ⟨some 49, _, _, _, _, _⟩) (v := ?v12) rfl (by kernel_rfl) (by kernel_rfl) (by kernel_rfl) (fun _ _ _ h => h) (Or.inl ⟨by rfl, ?hy12⟩) (by assumption) ?rest12
          case hy12 => (intro wq hSw; have e0 := (HG.out wq hSw).1; have e1 := (HG.out wq hSw).2.1; have e2 := (HG.out wq hSw).2.2.1; have e3 := (HG.out wq hSw).2.2.2; clear hSw; first | (go_simp; done) | (go_simp; with_reducible rfl))
          simp only [Act.put, List.setIfInBounds_toArray, List.set_cons_zero, List.set_cons_succ]
          refine wpAnyH_take (i := 12) (oi := ⟨some 50, _, _, _, _, _⟩) (v := ?v13) rfl (by kernel_rfl) (by kernel_rfl) (by kernel_rfl) (fun _ _ _ h => h) (Or.inl ⟨by rfl, ?hy13⟩) (by assumption) ?rest13
          case hy13 => (intro wq hSw; have e0 := (HG.out wq hSw).1; have e1 := (HG.out wq hSw).2.1; have e2 := (HG.out wq hSw).2.2.1; have e3 := (HG.out wq hSw).2.2.2; clear hSw; first | (go_simp; done) | (go_simp; with_reducible rfl))
          simp only [Act.put, List.setIfInBounds_toArray, List.set_cons_zero, List.set_cons_succ]
          apply join_rt (F := fun V gn ca cc => Ir2 w1 V g c gn xs ((nmA, ar, code), ca, cc))
          case main =>
            intro key
            refine wpAnyH_ready (rs := [13, 15]) (by kernel_rfl) (by simp) ?_
            refine AllReadyH.cons rfl (fun K hK => ?_) (AllReadyH.cons rfl (fun K hK => ?_) AllReadyH.nil)
            ·
              go_simp
              refine Calls.mono (HCp.out _ hHeld) ?_
              rintro e W1 ⟨ca, cc, rfl, hcv, hbc⟩
              dsimp only
              have hWs : X1.heap.size ≤ W1.heap.size := Nat.le_trans hHeld.size hbc.size
              have hVs := hHeld.size
              refine hK.out _ _ (by exact hHeld.trans (hbc.mono hHeld.size)) (fun hHeld => ?_)
              clear hK K
              (try simp only [Act.put, List.setIfInBounds_toArray, List.set_cons_zero, List.set_cons_succ])
              refine wpAnyH_take (i := 14) (oi := ⟨some 52, _, _, _, _, _⟩) (v := ?v14) rfl (by kernel_rfl) (by kernel_rfl) (by kernel_rfl) (fun _ _ _ h => h) (Or.inl ⟨by rfl, ?hy14⟩) (by assumption) ?rest14
              case hy14 => (intro wq hSw; clear hSw; first | (go_simp; done) | (go_simp; with_reducible rfl))
              simp only [Act.put, List.setIfInBounds_toArray, List.set_cons_zero, List.set_cons_succ]
              refine wpAnyH_ready (rs := [15]) (by kernel_rfl) (by simp) ?_
              refine AllReadyH.cons rfl (fun K hK => ?_) AllReadyH.nil
              refine step_of_wp rfl (wp_alloc_rt14 rfl 8 rfl (fun Y2 gn hR2 hB2 hG2 => ?_))
              have hlo : X1.heap.size ≤ gn := Nat.le_trans hWs hG2
              refine hK.out _ _ (by exact hHeld.trans (hB2.mono hHeld.size)) (fun hHeld => ?_)
              clear hK K
              (try simp only [Act.put, List.setIfInBounds_toArray, List.set_cons_zero, List.set_cons_succ])
              refine wpAnyH_ready (rs := [16]) (by kernel_rfl) (by simp) ?_
              refine AllReadyH.cons rfl (fun K hK => ?_) AllReadyH.nil
              refine step_of_wp rfl (wp_store_rt14 _ _ rfl gn nmA ar ca cl cc rfl rfl hR2 (fun Y3 hR3 hG3 => ?_))
              refine hK.out _ _ (by exact hHeld.grown hG3 hHeld.size (fun q e => by injection e with e; omega)) (fun hHeld => ?_)
              clear hK K
              (try simp only [Act.put])
              have HI2 : Ir2 w1 Y3 g c gn xs ((nmA, ar, code), ca, cc) := by
                have hrv : rvT ((nmA, ar, code), ca, cc) = .slice ca cl cc := by unfold rvT; rw [HCl.out]
                refine ⟨S1.out.below hHeld, hR3.c0, hR3.c1, by rw [hrv]; exact hR3.c2, ?_, ⟨HNl.out, HAr.out, by have := HSm.out.2; show code.length ≤ 300; omega, HSm.out.1⟩, hR3.l⟩
                rw [hrv]
                show Y3.ownsRow w1.heap.size 56 5 (.slice ca cl cc) code.length (insV code)
                rw [HCl.out]
                exact own_base (own_below hcv (hB2.grown hG3 hB2.size (fun q e => by injection e with e; omega))) (by have := hHeld.size; omega)
              refine wpAnyH_done (by kernel_rfl) ?_ _
              exact key Y3 gn ca cc HI2
            ·
              refine step_of_wp rfl (wp_alloc_rt14 rfl 8 rfl (fun Y2 gn hR2 hB2 hG2 => ?_))
              have hlo : X1.heap.size ≤ gn := Nat.le_trans hHeld.size hG2
              refine hK.out _ _ (by exact hHeld.trans (hB2.mono hHeld.size)) (fun hHeld => ?_)
              clear hK K
              (try simp only [Act.put, List.setIfInBounds_toArray, List.set_cons_zero, List.set_cons_succ])
              refine wpAnyH_ready (rs := [13]) (by kernel_rfl) (by simp) ?_
              refine AllReadyH.cons rfl (fun K hK => ?_) AllReadyH.nil
              go_simp
              refine Calls.mono (HCp.out _ hHeld) ?_
              rintro e W1 ⟨ca, cc, rfl, hcv, hbc⟩
              dsimp only
              have hVs := hHeld.size
              have hgl := hR2.l
              replace hR2 := hR2.below hbc
              refine hK.out _ _ (by exact hHeld.trans (hbc.mono hHeld.size)) (fun hHeld => ?_)
              clear hK K
              (try simp only [Act.put, List.setIfInBounds_toArray, List.set_cons_zero, List.set_cons_succ])
              refine wpAnyH_take (i := 14) (oi := ⟨some 52, _, _, _, _, _⟩) (v := ?v15) rfl (by kernel_rfl) (by kernel_rfl) (by kernel_rfl) (fun _ _ _ h => h) (Or.inl ⟨by rfl, ?hy15⟩) (by assumption) ?rest15
              case hy15 => (intro wq hSw; clear hSw; first | (go_simp; done) | (go_simp; with_reducible rfl))
              simp only [Act.put, List.setIfInBounds_toArray, List.set_cons_zero, List.set_cons_succ]
              refine wpAnyH_ready (rs := [16]) (by kernel_rfl) (by simp) ?_
              refine AllReadyH.cons rfl (fun K hK => ?_) AllReadyH.nil
              refine step_of_wp rfl (wp_store_rt14 _ _ rfl gn nmA ar ca cl cc rfl rfl hR2 (fun Y3 hR3 hG3 => ?_))
              refine hK.out _ _ (by exact hHeld.grown hG3 hHeld.size (fun q e => by injection e with e; omega)) (fun hHeld => ?_)
              clear hK K
              (try simp only [Act.put])
              have HI2 : Ir2 w1 Y3 g c gn xs ((nmA, ar, code), ca, cc) := by
                have hrv : rvT ((nmA, ar, code), ca, cc) = .slice ca cl cc := by unfold rvT; rw [HCl.out]
                refine ⟨S1.out.below hHeld, hR3.c0, hR3.c1, by rw [hrv]; exact hR3.c2, ?_, ⟨HNl.out, HAr.out, by have := HSm.out.2; show code.length ≤ 300; omega, HSm.out.1⟩, hR3.l⟩
                rw [hrv]
                show Y3.ownsRow w1.heap.size 56 5 (.slice ca cl cc) code.length (insV code)
                rw [HCl.out]
                exact own_base (hcv.kept hG3 (own_offR hcv (by omega))) (by have := hHeld.size; omega)
              refine wpAnyH_done (by kernel_rfl) ?_ _
              exact key Y3 gn ca cc HI2
          case rest =>
            clear hHeld
            intro Y3 gn ca cc HF
            have HI2 : Hid (Ir2 w1 Y3 g c gn xs ((nmA, ar, code), ca, cc)) := HF
            obtain ⟨y2, hy2⟩ : ∃ y2 : RV, ((nmA, ar, code), ca, cc) = y2 := ⟨_, rfl⟩
            rw [hy2] at HI2
            clear HF HCp HG HSm HNl HAr S1 hadd1 hadd2 hy2 HCl
            go_wp2
            go_loopw [9] (fun nv wx => ∃ q : Nat, nv = .int .i64 (q : Int) ∧ q ≤ nx ∧ Hid (Ir2 w1 wx g c gn xs y2)) (fun nv _ => nx - (intOf nv).toNat)
            case atStart => exact ⟨0, rfl, Nat.zero_le _, HI2⟩
            case round =>
              obtain ⟨q, rfl, hq, s2⟩ := hrel
              clear HI2
              replace s2 : Hid (Ir2 w1 wr.drew g c gn xs y2) := s2.out.drew
              go_wp2_with fail
              by_cases hql : (q : Int) < (nx : Int)
              ·
                have hcs := (s2.out.o.fo.cells (k := q) (by rw [HNx.out]; omega)).1
                have hr0 := s2.out.r0
                generalize (xs.getD q rv0).1.1 = nq at hcs
                refine wp_region_held_drew (S := fun V => V.cell? ⟨g, q * 3, none⟩ = some (.string ⟨nq.toArray⟩) ∧ V.cell? ⟨gn, 0, none⟩ = some (.string ⟨y2.1.1.toArray⟩)) (by kernel_rfl) ⟨hcs, hr0⟩ (fun hHeld => ?_)
                refine wpAnyH_take (i := 0) (oi := ⟨some 53, _, _, _, _, _⟩) (v := ?v16) rfl (by kernel_rfl) (by kernel_rfl) (by kernel_rfl) (fun _ _ _ h => h) (Or.inl ⟨by rfl, ?hy16⟩) (by assumption) ?rest16
                case hy16 => (intro wq hSw; have e0 := hSw.1; have e1 := hSw.2; clear hSw; first | (go_simp; done) | (go_simp; with_reducible rfl))
                simp only [Act.put, List.setIfInBounds_toArray, List.set_cons_zero, List.set_cons_succ]
                refine wpAnyH_take (i := 1) (oi := ⟨some 54, _, _, _, _, _⟩) (v := ?v17) rfl (by kernel_rfl) (by kernel_rfl) (by kernel_rfl) (fun _ _ _ h => h) (Or.inl ⟨by rfl, ?hy17⟩) (by assumption) ?rest17
                case hy17 => (intro wq hSw; have e0 := hSw.1; have e1 := hSw.2; clear hSw; first | (go_simp; done) | (go_simp; with_reducible rfl))
                simp only [Act.put, List.setIfInBounds_toArray, List.set_cons_zero, List.set_cons_succ]
                refine wpAnyH_take (i := 2) (oi := ⟨some 55, _, _, _, _, _⟩) (v := ?v18) rfl (by kernel_rfl) (by kernel_rfl) (by kernel_rfl) (fun _ _ _ h => h) (Or.inl ⟨by rfl, ?hy18⟩) (by assumption) ?rest18
                case hy18 => (intro wq hSw; have e0 := hSw.1; have e1 := hSw.2; clear hSw; first | (go_simp; done) | (go_simp; with_reducible rfl))
                simp only [Act.put, List.setIfInBounds_toArray, List.set_cons_zero, List.set_cons_succ]
                refine wpAnyH_take (i := 3) (oi := ⟨some 56, _, _, _, _, _⟩) (v := ?v19) rfl (by kernel_rfl) (by kernel_rfl) (by kernel_rfl) (fun _ _ _ h => h) (Or.inl ⟨by rfl, ?hy19⟩) (by assumption) ?rest19
                case hy19 => (intro wq hSw; have e0 := hSw.1; have e1 := hSw.2; clear hSw; first | (go_simp; done) | (go_simp; with_reducible rfl))
                simp only [Act.put, List.setIfInBounds_toArray, List.set_cons_zero, List.set_cons_succ]
                refine wpAnyH_take (i := 4) (oi := ⟨some 57, _, _, _, _, _⟩) (v := ?v20) rfl (by kernel_rfl) (by kernel_rfl) (by kernel_rfl) (fun _ _ _ h => h) (Or.inl ⟨by rfl, ?hy20⟩) (by assumption) ?rest20
                case hy20 => (intro wq hSw; have e0 := hSw.1; have e1 := hSw.2; clear hSw; first | (go_simp; done) | (go_simp; with_reducible rfl))
                simp only [Act.put, List.setIfInBounds_toArray, List.set_cons_zero, List.set_cons_succ]
                refine wpAnyH_take (i := 5) (oi := ⟨some 58, _, _, _, _, _⟩) (v := ?v21) rfl (by kernel_rfl) (by kernel_rfl) (by kernel_rfl) (fun _ _ _ h => h) (Or.inl ⟨by rfl, ?hy21⟩) (by assumption) ?rest21
                case hy21 => (intro wq hSw; have e0 := hSw.1; have e1 := hSw.2; clear hSw; first | (go_simp; done) | (go_simp; with_reducible rfl))
                simp only [Act.put, List.setIfInBounds_toArray, List.set_cons_zero, List.set_cons_succ]
                refine wpAnyH_take (i := 6) (oi := ⟨some 59, _, _, _, _, _⟩) (v := ?v22) rfl (by kernel_rfl) (by kernel_rfl) (by kernel_rfl) (fun _ _ _ h => h) (Or.inl ⟨by rfl, ?hy22⟩) (by assumption) ?rest22
                case hy22 => (intro wq hSw; have e0 := hSw.1; have e1 := hSw.2; clear hSw; first | (go_simp; done) | (go_simp; with_reducible rfl))
                simp only [Act.put, List.setIfInBounds_toArray, List.set_cons_zero, List.set_cons_succ]
                refine wpAnyH_take (i := 7) (oi := ⟨some 60, _, _, _, _, _⟩) (v := ?v23) rfl (by kernel_rfl) (by kernel_rfl) (by kernel_rfl) (fun _ _ _ h => h) (Or.inl ⟨by rfl, ?hy23⟩) (by assumption) ?rest23
                case hy23 => (intro wq hSw; have e0 := hSw.1; have e1 := hSw.2; clear hSw; first | (go_simp; done) | (go_simp; with_reducible rfl))
                simp only [Act.put, List.setIfInBounds_toArray, List.set_cons_zero, List.set_cons_succ]
                refine wpAnyH_take (i := 8) (oi := ⟨some 61, _, _, _, _, _⟩) (v := ?v24) rfl (by kernel_rfl) (by kernel_rfl) (by kernel_rfl) (fun _ _ _ h => h) (Or.inl ⟨by rfl, ?hy24⟩) (by assumption) ?rest24
                case hy24 => (intro wq hSw; have e0 := hSw.1; have e1 := hSw.2; clear hSw; first | (go_simp; done) | (go_simp; with_reducible rfl))
                simp only [Act.put, List.setIfInBounds_toArray, List.set_cons_zero, List.set_cons_succ]
                refine wpAnyH_take (i := 9) (oi := ⟨some 62, _, _, _, _, _⟩) (v := ?v25) rfl (by kernel_rfl) (by kernel_rfl) (by kernel_rfl) (fun _ _ _ h => h) (Or.inl ⟨by rfl, ?hy25⟩) (by assumption) ?rest25
                case hy25 => (intro wq hSw; have e0 := hSw.1; have e1 := hSw.2; clear hSw; first | (go_simp; done) | (go_simp; with_reducible rfl))
                simp only [Act.put, List.setIfInBounds_toArray, List.set_cons_zero, List.set_cons_succ]
                refine wpAnyH_take (i := 10) (oi := ⟨some 63, _, _, _, _, _⟩) (v := ?v26) rfl (by kernel_rfl) (by kernel_rfl) (by kernel_rfl) (fun _ _ _ h => h) (Or.inl ⟨by rfl, ?hy26⟩) (by assumption) ?rest26
                case hy26 => (intro wq hSw; have e0 := hSw.1; have e1 := hSw.2; clear hSw; first | (go_simp; done) | (go_simp; with_reducible rfl))
                simp only [Act.put, List.setIfInBounds_toArray, List.set_cons_zero, List.set_cons_succ]
                refine wpAnyH_take (i := 11) (oi := ⟨some 64, _, _, _, _, _⟩) (v := ?v27) rfl (by kernel_rfl) (by kernel_rfl) (by kernel_rfl) (fun _ _ _ h => h) (Or.inl ⟨by rfl, ?hy27⟩) (by assumption) ?rest27
                case hy27 => (intro wq hSw; have e0 := hSw.1; have e1 := hSw.2; clear hSw; first | (go_simp; done) | (go_simp; with_reducible rfl))
                simp only [Act.put, List.setIfInBounds_toArray, List.set_cons_zero, List.set_cons_succ]
                refine wpAnyH_take (i := 12) (oi := ⟨some 65, _, _, _, _, _⟩) (v := ?v28) rfl (by kernel_rfl) (by kernel_rfl) (by kernel_rfl) (fun _ _ _ h => h) (Or.inl ⟨by rfl, ?hy28⟩) (by assumption) ?rest28
                case hy28 => (intro wq hSw; have e0 := hSw.1; have e1 := hSw.2; clear hSw; first | (go_simp; done) | (go_simp; with_reducible rfl))
                simp only [Act.put, List.setIfInBounds_toArray, List.set_cons_zero, List.set_cons_succ]
                refine wpAnyH_take (i := 13) (oi := ⟨some 66, _, _, _, _, _⟩) (v := ?v29) rfl (by kernel_rfl) (by kernel_rfl) (by kernel_rfl) (fun _ _ _ h => h) (Or.inl ⟨by rfl, ?hy29⟩) (by assumption) ?rest29
                case hy29 => (intro wq hSw; have e0 := hSw.1; have e1 := hSw.2; clear hSw; first | (go_simp; done) | (go_simp; with_reducible rfl))
                simp only [Act.put, List.setIfInBounds_toArray, List.set_cons_zero, List.set_cons_succ]
                refine wpAnyH_done (by kernel_rfl) ?_ _
                clear hHeld hcs hr0
                generalize wr.drew = V1 at s2 ⊢
                rcases hlt : Op.bytesLess nq y2.1.1 with _ | _
                ·
                  obtain ⟨g1, c1, Y1, hrun1, s3, hrest⟩ := s2.out.rest (k := q) (by rw [HNx.out]; omega) (by rw [HNx.out]; omega)
                  rw [HNx.out] at hrun1
                  have hcq : ¬ c = q := by have := (own_capR s3.o.fo.row).1; have := HNx.out; omega
                  rw [if_neg hcq] at hrun1
                  have hcqi : ¬ (c : Int) = (q : Int) := by omega
                  have S3 : Hid (Ir2 w1 Y1 g c gn xs y2) := s3
                  have HRe : Hid (∀ V, Below Y1.heap.size Y1 V → RtsOwn V w1.heap.size (.slice (some ⟨g1, 0, none⟩) (xs.drop q).length c1) (xs.drop q)) := fun V hV => hrest.below hV
                  have HR3 : Hid (∀ V, Below Y1.heap.size Y1 V → V.cell? ⟨gn, 0, none⟩ = some (.string ⟨y2.1.1.toArray⟩) ∧ V.cell? ⟨gn, 1, none⟩ = some (.int .i64 y2.1.2.1) ∧ V.cell? ⟨gn, 2, none⟩ = some (rvT y2)) := fun V hV => ⟨(s3.below hV).r0, (s3.below hV).r1, (s3.below hV).r2⟩
                  have HCc : Hid (xs.length ≤ c) := (own_capR s3.o.fo.row).1
                  have hqc : (q : Int) ≤ (c : Int) := by have := HCc.out; have := HNx.out; omega
                  have hqx : (q : Int) ≤ (nx : Int) := by omega
                  have HLq : Hid ((xs.take q).length = q) := by exact (by rw [List.length_take, HNx.out]; omega : (xs.take q).length = q)
                  clear s3 hrest s2
                  go_wp2_with (at_builtin; refine wpList_append_run rfl (.tmp 69) (.tmp 72) 24 rfl _ _ _ rfl rfl hrun1 ?_; clear hrun1)
                  refine wp_region_held_drew (S := fun V => Below Y1.heap.size Y1 V) (by kernel_rfl) ⟨rfl, rfl, rfl, Nat.le_refl _, fun _ _ => rfl⟩ (fun hHeld => ?_)
                  generalize Y1.drew = V2 at hHeld ⊢
                  refine wpAnyH_take (i := 1) (oi := ⟨some 75, _, _, _, _, _⟩) (v := ?v30) rfl (by kernel_rfl) (by kernel_rfl) (by kernel_rfl) (fun _ _ _ h => h) (Or.inl ⟨by rfl, ?hy30⟩) (by assumption) ?rest30
                  case hy30 => (intro wq hSw; clear hSw; first | (go_simp; done) | (go_simp; with_reducible rfl))
                  simp only [Act.put, List.setIfInBounds_toArray, List.set_cons_zero, List.set_cons_succ]
                  refine wpAnyH_take (i := 2) (oi := ⟨some 76, _, _, _, _, _⟩) (v := ?v31) rfl (by kernel_rfl) (by kernel_rfl) (by kernel_rfl) (fun _ _ _ h => h) (Or.inl ⟨by rfl, ?hy31⟩) (by assumption) ?rest31
                  case hy31 => (intro wq hSw; clear hSw; first | (go_simp; done) | (go_simp; with_reducible rfl))
                  simp only [Act.put, List.setIfInBounds_toArray, List.set_cons_zero, List.set_cons_succ]
                  refine wpAnyH_take (i := 3) (oi := ⟨some 77, _, _, _, _, _⟩) (v := ?v32) rfl (by kernel_rfl) (by kernel_rfl) (by kernel_rfl) (fun _ _ _ h => h) (Or.inl ⟨by rfl, ?hy32⟩) (by assumption) ?rest32
                  case hy32 => (intro wq hSw; clear hSw; first | (go_simp; done) | (go_simp; with_reducible rfl))
                  simp only [Act.put, List.setIfInBounds_toArray, List.set_cons_zero, List.set_cons_succ]
                  refine wpAnyH_take (i := 5) (oi := ⟨some 79, _, _, _, _, _⟩) (v := ?v33) rfl (by kernel_rfl) (by kernel_rfl) (by kernel_rfl) (fun _ _ _ h => h) (Or.inl ⟨by rfl, ?hy33⟩) (by assumption) ?rest33
                  case hy33 => (intro wq hSw; have e0 := (HR3.out wq hSw).1; have e1 := (HR3.out wq hSw).2.1; have e2 := (HR3.out wq hSw).2.2; clear hSw; first | (go_simp; done) | (go_simp; with_reducible rfl))
                  simp only [Act.put, List.setIfInBounds_toArray, List.set_cons_zero, List.set_cons_succ]
                  refine wpAnyH_take (i := 8) (oi := ⟨some 82, _, _, _, _, _⟩) (v := ?v34) rfl (by kernel_rfl) (by kernel_rfl) (by kernel_rfl) (fun _ _ _ h => h) (Or.inl ⟨by rfl, ?hy34⟩) (by assumption) ?rest34
                  case hy34 => (intro wq hSw; clear hSw; first | (go_simp; done) | (go_simp; with_reducible rfl))
                  simp only [Act.put, List.setIfInBounds_toArray, List.set_cons_zero, List.set_cons_succ]
                  apply join_rows (F := fun V _ go gh ch => Below Y1.heap.size Y1 V ∧ RtsOwn V w1.heap.size (.slice (some ⟨gh, 0, none⟩) (xs.take q).length ch) (xs.take q) ∧ RtsOwn V w1.heap.size (.slice (some ⟨go, 0, none⟩) [y2].length 1) [y2] ∧ Y1.heap.size ≤ gh)
                  case main =>
                    intro key
                    refine wpAnyH_ready (rs := [0, 6]) (by kernel_rfl) (by simp) ?_
                    refine AllReadyH.cons rfl (fun K hK => ?_) (AllReadyH.cons rfl (fun K hK => ?_) AllReadyH.nil)
                    ·
                      go_simp
                      have hz0 : w1.heap.size ≤ V2.heap.size := Nat.le_trans S3.out.o.b.size hHeld.size
                      have hz1 := hHeld.size
                      have he := empty14 (Bs := w1.heap.size) V2 hz0
                      obtain ⟨g0, hg0⟩ : ∃ g0, V2.heap.size = g0 := ⟨_, rfl⟩
                      have hbz : Below V2.heap.size V2 (V2.alloc (.cells #[] 50)) := (Below.refl _ _).alloc (Nat.le_refl _) _
                      refine hK.out _ _ (by exact hHeld.alloc hHeld.size _) (fun hHeld => ?_)
                      clear hK K
                      (try simp only [Act.put, List.setIfInBounds_toArray, List.set_cons_zero, List.set_cons_succ])
                      obtain ⟨V3, hV3⟩ : ∃ V, V2.alloc (.cells #[] 50) = V := ⟨_, rfl⟩
                      have hsn : Hid (V3.heap.size = g0 + 1) := by exact (by rw [← hV3]; simp [hg0] : V3.heap.size = g0 + 1)
                      rw [hV3] at hHeld he hbz ⊢
                      rw [hg0] at he ⊢
                      have hg0y : Y1.heap.size ≤ g0 := by omega
                      refine wpAnyH_ready (rs := [4, 6]) (by kernel_rfl) (by simp) ?_
                      refine AllReadyH.cons rfl (fun K hK => ?_) (AllReadyH.cons rfl (fun K hK => ?_) AllReadyH.nil)
                      ·
                        have s5 := S3.out.below hHeld
                        obtain ⟨gh, ch, V4, hr5, hh, hgr5, hat5⟩ := app14 (cz := c) he (take14 s5.o.fo (k := q) (by rw [HNx.out]; omega)) (fun z hz => s5.o.fo.trees z (List.mem_of_mem_take hz)) s5.o.b.size (by rw [HLq.out]; simp; omega)
                        rw [List.nil_append] at hh
                        rw [HLq.out, List.length_nil, Nat.zero_add] at hr5
                        have hghy : Y1.heap.size ≤ gh := by have := hHeld.size; rcases hat5 with e | e <;> omega
                        refine step_append_run (by rfl) (.tmp 74) (.tmp 77) 24 (by rfl) _ _ _ (by rfl) (by rfl) hr5 ?_
                        refine hK.out _ _ (by exact hHeld.grown hgr5 hHeld.size (fun k e => by injection e with e; omega)) (fun hHeld => ?_)
                        clear hK K
                        (try simp only [Act.put, List.setIfInBounds_toArray])
                        clear hr5 s5
                        refine wpAnyH_ready (rs := [6]) (by kernel_rfl) (by simp) ?_
                        refine AllReadyH.cons rfl (fun K hK => ?_) AllReadyH.nil
                        go_simp
                        have hw0 : w1.heap.size ≤ V4.heap.size := Nat.le_trans S3.out.o.b.size hHeld.size
                        have ho := one14 (w1 := w1) V4 y2 hw0 (S3.out.below hHeld).yo
                        obtain ⟨go_, hgo0⟩ : ∃ g0, V4.heap.size = g0 := ⟨_, rfl⟩
                        have hby : Below V4.heap.size V4 (V4.alloc (.cells #[.string ⟨y2.1.1.toArray⟩, .int .i64 y2.1.2.1, rvT y2] 50)) := (Below.refl _ _).alloc (Nat.le_refl _) _
                        refine hK.out _ _ (by exact hHeld.alloc hHeld.size _) (fun hHeld => ?_)
                        clear hK K
                        (try simp only [Act.put, List.setIfInBounds_toArray, List.set_cons_zero, List.set_cons_succ])
                        obtain ⟨V5, hV5⟩ : ∃ V, V4.alloc (.cells #[.string ⟨y2.1.1.toArray⟩, .int .i64 y2.1.2.1, rvT y2] 50) = V := ⟨_, rfl⟩
                        rw [hV5] at hHeld ho hby ⊢
                        rw [hgo0] at ho ⊢
                        replace hh := hh.below hby
                        have hgo : go_ < V5.heap.size := (ho.row.lt go_ rfl).2
                        (try simp only [List.set_cons_zero, List.set_cons_succ])
                        exact key V5 g0 go_ gh ch ⟨hHeld, hh, ho, hghy⟩
                      ·
                        go_simp
                        have hw0 : w1.heap.size ≤ V3.heap.size := Nat.le_trans S3.out.o.b.size hHeld.size
                        have ho := one14 (w1 := w1) V3 y2 hw0 (S3.out.below hHeld).yo
                        obtain ⟨go_, hgo0⟩ : ∃ g0, V3.heap.size = g0 := ⟨_, rfl⟩
                        have hby : Below V3.heap.size V3 (V3.alloc (.cells #[.string ⟨y2.1.1.toArray⟩, .int .i64 y2.1.2.1, rvT y2] 50)) := (Below.refl _ _).alloc (Nat.le_refl _) _
                        refine hK.out _ _ (by exact hHeld.alloc hHeld.size _) (fun hHeld => ?_)
                        clear hK K
                        (try simp only [Act.put, List.setIfInBounds_toArray, List.set_cons_zero, List.set_cons_succ])
                        obtain ⟨V4, hV4⟩ : ∃ V, V3.alloc (.cells #[.string ⟨y2.1.1.toArray⟩, .int .i64 y2.1.2.1, rvT y2] 50) = V := ⟨_, rfl⟩
                        rw [hV4] at hHeld ho hby ⊢
                        rw [hgo0] at ho ⊢
                        replace he := he.below hby
                        have hne0 : go_ ≠ g0 := by have := hsn.out; omega
                        have hgo : go_ < V4.heap.size := (ho.row.lt go_ rfl).2
                        refine wpAnyH_ready (rs := [4]) (by kernel_rfl) (by simp) ?_
                        refine AllReadyH.cons rfl (fun K hK => ?_) AllReadyH.nil
                        have s5 := S3.out.below hHeld
                        obtain ⟨gh, ch, V5, hr5, hh, hgr5, hat5⟩ := app14 (cz := c) he (take14 s5.o.fo (k := q) (by rw [HNx.out]; omega)) (fun z hz => s5.o.fo.trees z (List.mem_of_mem_take hz)) s5.o.b.size (by rw [HLq.out]; simp; omega)
                        rw [List.nil_append] at hh
                        rw [HLq.out, List.length_nil, Nat.zero_add] at hr5
                        have hghy : Y1.heap.size ≤ gh := by have := hHeld.size; rcases hat5 with e | e <;> omega
                        refine step_append_run (by rfl) (.tmp 74) (.tmp 77) 24 (by rfl) _ _ _ (by rfl) (by rfl) hr5 ?_
                        refine hK.out _ _ (by exact hHeld.grown hgr5 hHeld.size (fun k e => by injection e with e; omega)) (fun hHeld => ?_)
                        clear hK K
                        (try simp only [Act.put, List.setIfInBounds_toArray])
                        replace ho := ho.kept hgr5 (Or.inr (by intro e; injection e with e; exact hne0 e)) (fun z hz => own_typesR (ho.trees z hz) he.row (by decide))
                        clear hr5 s5
                        (try simp only [List.set_cons_zero, List.set_cons_succ])
                        exact key V5 g0 go_ gh ch ⟨hHeld, hh, ho, hghy⟩
                    ·
                      go_simp
                      have hw0 : w1.heap.size ≤ V2.heap.size := Nat.le_trans S3.out.o.b.size hHeld.size
                      have ho := one14 (w1 := w1) V2 y2 hw0 (S3.out.below hHeld).yo
                      obtain ⟨go_, hgo0⟩ : ∃ g0, V2.heap.size = g0 := ⟨_, rfl⟩
                      have hby : Below V2.heap.size V2 (V2.alloc (.cells #[.string ⟨y2.1.1.toArray⟩, .int .i64 y2.1.2.1, rvT y2] 50)) := (Below.refl _ _).alloc (Nat.le_refl _) _
                      refine hK.out _ _ (by exact hHeld.alloc hHeld.size _) (fun hHeld => ?_)
                      clear hK K
                      (try simp only [Act.put, List.setIfInBounds_toArray, List.set_cons_zero, List.set_cons_succ])
                      obtain ⟨V3, hV3⟩ : ∃ V, V2.alloc (.cells #[.string ⟨y2.1.1.toArray⟩, .int .i64 y2.1.2.1, rvT y2] 50) = V := ⟨_, rfl⟩
                      rw [hV3] at hHeld ho hby ⊢
                      rw [hgo0] at ho ⊢
                      have hgo : go_ < V3.heap.size := (ho.row.lt go_ rfl).2
                      refine wpAnyH_ready (rs := [0]) (by kernel_rfl) (by simp) ?_
                      refine AllReadyH.cons rfl (fun K hK => ?_) AllReadyH.nil
                      go_simp
                      have hz0 : w1.heap.size ≤ V3.heap.size := Nat.le_trans S3.out.o.b.size hHeld.size
                      have hz1 := hHeld.size
                      have he := empty14 (Bs := w1.heap.size) V3 hz0
                      obtain ⟨g0, hg0⟩ : ∃ g0, V3.heap.size = g0 := ⟨_, rfl⟩
                      have hbz : Below V3.heap.size V3 (V3.alloc (.cells #[] 50)) := (Below.refl _ _).alloc (Nat.le_refl _) _
                      refine hK.out _ _ (by exact hHeld.alloc hHeld.size _) (fun hHeld => ?_)
                      clear hK K
                      (try simp only [Act.put, List.setIfInBounds_toArray, List.set_cons_zero, List.set_cons_succ])
                      obtain ⟨V4, hV4⟩ : ∃ V, V3.alloc (.cells #[] 50) = V := ⟨_, rfl⟩
                      have hsn : Hid (V4.heap.size = g0 + 1) := by exact (by rw [← hV4]; simp [hg0] : V4.heap.size = g0 + 1)
                      rw [hV4] at hHeld he hbz ⊢
                      rw [hg0] at he ⊢
                      replace ho := ho.below hbz
                      have hne0 : go_ ≠ g0 := by have := hgo; omega
                      have hg0y : Y1.heap.size ≤ g0 := by omega
                      refine wpAnyH_ready (rs := [4]) (by kernel_rfl) (by simp) ?_
                      refine AllReadyH.cons rfl (fun K hK => ?_) AllReadyH.nil
                      have s5 := S3.out.below hHeld
                      obtain ⟨gh, ch, V5, hr5, hh, hgr5, hat5⟩ := app14 (cz := c) he (take14 s5.o.fo (k := q) (by rw [HNx.out]; omega)) (fun z hz => s5.o.fo.trees z (List.mem_of_mem_take hz)) s5.o.b.size (by rw [HLq.out]; simp; omega)
                      rw [List.nil_append] at hh
                      rw [HLq.out, List.length_nil, Nat.zero_add] at hr5
                      have hghy : Y1.heap.size ≤ gh := by have := hHeld.size; rcases hat5 with e | e <;> omega
                      refine step_append_run (by rfl) (.tmp 74) (.tmp 77) 24 (by rfl) _ _ _ (by rfl) (by rfl) hr5 ?_
                      refine hK.out _ _ (by exact hHeld.grown hgr5 hHeld.size (fun k e => by injection e with e; omega)) (fun hHeld => ?_)
                      clear hK K
                      (try simp only [Act.put, List.setIfInBounds_toArray])
                      replace ho := ho.kept hgr5 (Or.inr (by intro e; injection e with e; exact hne0 e)) (fun z hz => own_typesR (ho.trees z hz) he.row (by decide))
                      clear hr5 s5
                      (try simp only [List.set_cons_zero, List.set_cons_succ])
                      exact key V5 g0 go_ gh ch ⟨hHeld, hh, ho, hghy⟩
                  case rest =>
                    clear hHeld
                    intro V5 g0 go_ gh ch hF
                    obtain ⟨hHeld, hh, ho, hghy⟩ := hF
                    have s7 := S3.out.below hHeld
                    obtain ⟨g7, c7, V7, hr7, ho7, hgr7, hat7⟩ := s7.join (k := q) hh ho (by rw [HNx.out]; omega)
                    rw [HLq.out] at hr7
                    have hg7y : Y1.heap.size ≤ g7 := by have := hHeld.size; rcases hat7 with e | e <;> omega
                    refine wpAnyH_ready (rs := [7]) (by kernel_rfl) (by simp) ?_
                    refine AllReadyH.cons rfl (fun K hK => ?_) AllReadyH.nil
                    refine step_append_run (by rfl) (.tmp 78) (.tmp 80) 24 (by rfl) _ _ _ (by rfl) (by rfl) hr7 ?_
                    refine hK.out _ _ (by exact hHeld.grown hgr7 hHeld.size (fun k e => by injection e with e; omega)) (fun hHeld => ?_)
                    clear hK K
                    (try simp only [Act.put, List.setIfInBounds_toArray])
                    have hre := HRe.out _ hHeld
                    have s8 := S3.out.below hHeld
                    have hl8 : (xs.take q ++ [y2]).length = q + 1 := by rw [List.length_append, HLq.out]; rfl
                    have hl9 : (xs.drop q).length = nx - q := by rw [List.length_drop, HNx.out]
                    obtain ⟨g9, c9, V9, hr9, ho9, hgr9, _⟩ := app14 (cz := c1) ho7 (all14 hre) (fun z hz => hre.trees z hz) s8.o.b.size (by rw [hl8, hl9]; omega)
                    have hlA : (xs.take q ++ [y2] ++ xs.drop q).length = nx + 1 := by rw [List.length_append, hl8, hl9]; omega
                    rw [hl8, hl9, show q + 1 + (nx - q) = nx + 1 by omega] at hr9
                    refine wpAnyH_ready (rs := [9]) (by kernel_rfl) (by simp) ?_
                    refine AllReadyH.cons rfl (fun K hK => ?_) AllReadyH.nil
                    refine step_append_run (by rfl) (.tmp 81) (.tmp 82) 24 (by rfl) _ _ _ (by rfl) (by rfl) hr9 ?_
                    refine hK.out _ _ (by exact hHeld.grown hgr9 hHeld.size (fun k e => by injection e with e; omega)) (fun hHeld => ?_)
                    clear hK K
                    (try simp only [Act.put])
                    refine wpAnyH_take (i := 10) (oi := ⟨some 4, _, _, _, _, _⟩) (v := ?v35) rfl (by kernel_rfl) (by kernel_rfl) (by kernel_rfl) (fun _ _ _ h => h) (Or.inl ⟨by rfl, ?hy35⟩) (by assumption) ?rest35
                    case hy35 => (intro wq hSw; clear hSw; first | (go_simp; done) | (go_simp; with_reducible rfl))
                    simp only [Act.put]
                    have HS9 : Hid (Im14 w1 V9 g9 c9 (xs.take q ++ [y2] ++ xs.drop q)) := by
                      refine ⟨ho9, fun z hz => ?_, S3.out.o.b.trans (hHeld.mono S3.out.o.b.size)⟩
                      rcases List.mem_append.1 hz with e | e
                      · rcases List.mem_append.1 e with e | e
                        · exact S3.out.o.sm z (List.mem_of_mem_take e)
                        · rw [List.mem_singleton.1 e]; exact S3.out.ys
                      · exact S3.out.o.sm z (List.mem_of_mem_drop e)
                    have HLA : Hid ((xs.take q ++ [y2] ++ xs.drop q).length = nx + 1) := hlA
                    generalize xs.take q ++ [y2] ++ xs.drop q = zs at HS9 HLA
                    refine wpAnyH_done (by kernel_rfl) ?_ _
                    clear hHeld hre s8 s7 hl8 hl9 hlA ho9 hgr9 hr9 hr7 ho7 hgr7 S3 HRe HR3 hh ho
                    go_wp2
                    go_roundw
                    case rel => exact ⟨k + 1, g9, c9, zs, by go_num, by omega, by rw [HLA.out], by rw [HLA.out]; omega, by rw [HLA.out]; omega, HS9⟩
                    case measure => simp [intOf]; omega
                ·
                  go_wp2
                  go_roundw
                  case rel => exact ⟨q + 1, by go_num, by omega, s2⟩
                  case measure => simp [intOf]; omega
              ·
                obtain rfl : q = nx := by omega
                refine wp_region_held_drew (S := fun _ => True) (by kernel_rfl) trivial (fun hHeld => ?_)
                refine wpAnyH_take (i := 0) (oi := ⟨some 53, _, _, _, _, _⟩) (v := ?v36) rfl (by kernel_rfl) (by kernel_rfl) (by kernel_rfl) (fun _ _ _ h => h) (Or.inl ⟨by rfl, ?hy36⟩) (by assumption) ?rest36
                case hy36 => (intro wq hSw; clear hSw; first | (go_simp; done) | (go_simp; with_reducible rfl))
                simp only [Act.put, List.setIfInBounds_toArray, List.set_cons_zero, List.set_cons_succ]
                refine wpAnyH_take (i := 1) (oi := ⟨some 54, _, _, _, _, _⟩) (v := ?v37) rfl (by kernel_rfl) (by kernel_rfl) (by kernel_rfl) (fun _ _ _ h => h) (Or.inl ⟨by rfl, ?hy37⟩) (by assumption) ?rest37
                case hy37 => (intro wq hSw; clear hSw; first | (go_simp; done) | (go_simp; with_reducible rfl))
                simp only [Act.put, List.setIfInBounds_toArray, List.set_cons_zero, List.set_cons_succ]
                refine wpAnyH_take (i := 2) (oi := ⟨some 55, _, _, _, _, _⟩) (v := ?v38) rfl (by kernel_rfl) (by kernel_rfl) (by kernel_rfl) (fun _ _ _ h => h) (Or.inl ⟨by rfl, ?hy38⟩) (by assumption) ?rest38
                case hy38 => (intro wq hSw; clear hSw; first | (go_simp; done) | (go_simp; with_reducible rfl))
                simp only [Act.put, List.setIfInBounds_toArray, List.set_cons_zero, List.set_cons_succ]
                refine wpAnyH_take (i := 3) (oi := ⟨some 56, _, _, _, _, _⟩) (v := ?v39) rfl (by kernel_rfl) (by kernel_rfl) (by kernel_rfl) (fun _ _ _ h => h) (Or.inl ⟨by rfl, ?hy39⟩) (by assumption) ?rest39
                case hy39 => (intro wq hSw; clear hSw; first | (go_simp; done) | (go_simp; with_reducible rfl))
                simp only [Act.put, List.setIfInBounds_toArray, List.set_cons_zero, List.set_cons_succ]
                refine wpAnyH_take (i := 4) (oi := ⟨some 57, _, _, _, _, _⟩) (v := ?v40) rfl (by kernel_rfl) (by kernel_rfl) (by kernel_rfl) (fun _ _ _ h => h) (Or.inl ⟨by rfl, ?hy40⟩) (by assumption) ?rest40
                case hy40 => (intro wq hSw; clear hSw; first | (go_simp; done) | (go_simp; with_reducible rfl))
                simp only [Act.put, List.setIfInBounds_toArray, List.set_cons_zero, List.set_cons_succ]
                refine wpAnyH_take (i := 5) (oi := ⟨some 58, _, _, _, _, _⟩) (v := undef) rfl (by kernel_rfl) (by kernel_rfl) (by kernel_rfl) (fun _ _ _ h => h) (Or.inr ⟨by rfl, rfl⟩) (by assumption) ?_
                simp only [Act.put, List.setIfInBounds_toArray, List.set_cons_zero, List.set_cons_succ]
                refine wpAnyH_take (i := 6) (oi := ⟨some 59, _, _, _, _, _⟩) (v := undef) rfl (by kernel_rfl) (by kernel_rfl) (by kernel_rfl) (fun _ _ _ h => h) (Or.inr ⟨by rfl, rfl⟩) (by assumption) ?_
                simp only [Act.put, List.setIfInBounds_toArray, List.set_cons_zero, List.set_cons_succ]
                refine wpAnyH_take (i := 7) (oi := ⟨some 60, _, _, _, _, _⟩) (v := undef) rfl (by kernel_rfl) (by kernel_rfl) (by kernel_rfl) (fun _ _ _ h => h) (Or.inr ⟨by rfl, rfl⟩) (by assumption) ?_
                simp only [Act.put, List.setIfInBounds_toArray, List.set_cons_zero, List.set_cons_succ]
                refine wpAnyH_take (i := 8) (oi := ⟨some 61, _, _, _, _, _⟩) (v := undef) rfl (by kernel_rfl) (by kernel_rfl) (by kernel_rfl) (fun _ _ _ h => h) (Or.inr ⟨by rfl, rfl⟩) (by assumption) ?_
                simp only [Act.put, List.setIfInBounds_toArray, List.set_cons_zero, List.set_cons_succ]
                refine wpAnyH_take (i := 9) (oi := ⟨some 62, _, _, _, _, _⟩) (v := undef) rfl (by kernel_rfl) (by kernel_rfl) (by kernel_rfl) (fun _ _ _ h => h) (Or.inr ⟨by rfl, rfl⟩) (by assumption) ?_
                simp only [Act.put, List.setIfInBounds_toArray, List.set_cons_zero, List.set_cons_succ]
                refine wpAnyH_take (i := 10) (oi := ⟨some 63, _, _, _, _, _⟩) (v := undef) rfl (by kernel_rfl) (by kernel_rfl) (by kernel_rfl) (fun _ _ _ h => h) (Or.inr ⟨by rfl, rfl⟩) (by assumption) ?_
                simp only [Act.put, List.setIfInBounds_toArray, List.set_cons_zero, List.set_cons_succ]
                refine wpAnyH_take (i := 11) (oi := ⟨some 64, _, _, _, _, _⟩) (v := undef) rfl (by kernel_rfl) (by kernel_rfl) (by kernel_rfl) (fun _ _ _ h => h) (Or.inr ⟨by rfl, rfl⟩) (by assumption) ?_
                simp only [Act.put, List.setIfInBounds_toArray, List.set_cons_zero, List.set_cons_succ]
                refine wpAnyH_take (i := 12) (oi := ⟨some 65, _, _, _, _, _⟩) (v := undef) rfl (by kernel_rfl) (by kernel_rfl) (by kernel_rfl) (fun _ _ _ h => h) (Or.inr ⟨by rfl, rfl⟩) (by assumption) ?_
                simp only [Act.put, List.setIfInBounds_toArray, List.set_cons_zero, List.set_cons_succ]
                refine wpAnyH_take (i := 13) (oi := ⟨some 66, _, _, _, _, _⟩) (v := ?v49) rfl (by kernel_rfl) (by kernel_rfl) (by kernel_rfl) (fun _ _ _ h => h) (Or.inl ⟨by rfl, ?hy49⟩) (by assumption) ?rest49
                case hy49 => (intro wq hSw; clear hSw; first | (go_simp; done) | (go_simp; with_reducible rfl))
                simp only [Act.put, List.setIfInBounds_toArray, List.set_cons_zero, List.set_cons_succ]
                refine wpAnyH_done (by kernel_rfl) ?_ _
                clear hHeld
                generalize wr.drew = V1 at s2 ⊢
                by_cases hcl : c = q
                ·
                  subst hcl
                  obtain ⟨g1, c1, Y1, hrun1, s3, hrest⟩ := s2.out.rest (k := c) (by rw [HNx.out]; omega) (by rw [HNx.out]; omega)
                  rw [HNx.out] at hrun1
                  rw [if_pos rfl, Nat.sub_self] at hrun1
                  have S3 : Hid (Ir2 w1 Y1 g c gn xs y2) := s3
                  have HRe : Hid (∀ V, Below Y1.heap.size Y1 V → RtsOwn V w1.heap.size (.slice (some ⟨g1, 0, none⟩) (xs.drop c).length c1) (xs.drop c)) := fun V hV => hrest.below hV
                  have HR3 : Hid (∀ V, Below Y1.heap.size Y1 V → V.cell? ⟨gn, 0, none⟩ = some (.string ⟨y2.1.1.toArray⟩) ∧ V.cell? ⟨gn, 1, none⟩ = some (.int .i64 y2.1.2.1) ∧ V.cell? ⟨gn, 2, none⟩ = some (rvT y2)) := fun V hV => ⟨(s3.below hV).r0, (s3.below hV).r1, (s3.below hV).r2⟩
                  have HCc : Hid (xs.length ≤ c) := (own_capR s3.o.fo.row).1
                  have hqc : (c : Int) ≤ (c : Int) := by have := HCc.out; have := HNx.out; omega
                  have hqx : (c : Int) ≤ (c : Int) := by omega
                  have HLq : Hid ((xs.take c).length = c) := by exact (by rw [List.length_take, HNx.out]; omega : (xs.take c).length = c)
                  clear s3 hrest s2
                  go_wp2_with (at_builtin; refine wpList_append_run rfl (.tmp 69) (.tmp 72) 24 rfl _ _ _ rfl rfl hrun1 ?_; clear hrun1)
                  refine wp_region_held_drew (S := fun V => Below Y1.heap.size Y1 V) (by kernel_rfl) ⟨rfl, rfl, rfl, Nat.le_refl _, fun _ _ => rfl⟩ (fun hHeld => ?_)
                  generalize Y1.drew = V2 at hHeld ⊢
                  refine wpAnyH_take (i := 1) (oi := ⟨some 75, _, _, _, _, _⟩) (v := ?v50) rfl (by kernel_rfl) (by kernel_rfl) (by kernel_rfl) (fun _ _ _ h => h) (Or.inl ⟨by rfl, ?hy50⟩) (by assumption) ?rest50
                  case hy50 => (intro wq hSw; clear hSw; first | (go_simp; done) | (go_simp; with_reducible rfl))
                  simp only [Act.put, List.setIfInBounds_toArray, List.set_cons_zero, List.set_cons_succ]
                  refine wpAnyH_take (i := 2) (oi := ⟨some 76, _, _, _, _, _⟩) (v := ?v51) rfl (by kernel_rfl) (by kernel_rfl) (by kernel_rfl) (fun _ _ _ h => h) (Or.inl ⟨by rfl, ?hy51⟩) (by assumption) ?rest51
                  case hy51 => (intro wq hSw; clear hSw; first | (go_simp; done) | (go_simp; with_reducible rfl))
                  simp only [Act.put, List.setIfInBounds_toArray, List.set_cons_zero, List.set_cons_succ]
                  refine wpAnyH_take (i := 3) (oi := ⟨some 77, _, _, _, _, _⟩) (v := ?v52) rfl (by kernel_rfl) (by kernel_rfl) (by kernel_rfl) (fun _ _ _ h => h) (Or.inl ⟨by rfl, ?hy52⟩) (by assumption) ?rest52
                  case hy52 => (intro wq hSw; clear hSw; first | (go_simp; done) | (go_simp; with_reducible rfl))
                  simp only [Act.put, List.setIfInBounds_toArray, List.set_cons_zero, List.set_cons_succ]
                  refine wpAnyH_take (i := 5) (oi := ⟨some 79, _, _, _, _, _⟩) (v := ?v53) rfl (by kernel_rfl) (by kernel_rfl) (by kernel_rfl) (fun _ _ _ h => h) (Or.inl ⟨by rfl, ?hy53⟩) (by assumption) ?rest53
                  case hy53 => (intro wq hSw; have e0 := (HR3.out wq hSw).1; have e1 := (HR3.out wq hSw).2.1; have e2 := (HR3.out wq hSw).2.2; clear hSw; first | (go_simp; done) | (go_simp; with_reducible rfl))
                  simp only [Act.put, List.setIfInBounds_toArray, List.set_cons_zero, List.set_cons_succ]
                  refine wpAnyH_take (i := 8) (oi := ⟨some 82, _, _, _, _, _⟩) (v := ?v54) rfl (by kernel_rfl) (by kernel_rfl) (by kernel_rfl) (fun _ _ _ h => h) (Or.inl ⟨by rfl, ?hy54⟩) (by assumption) ?rest54
                  case hy54 => (intro wq hSw; clear hSw; first | (go_simp; done) | (go_simp; with_reducible rfl))
                  simp only [Act.put, List.setIfInBounds_toArray, List.set_cons_zero, List.set_cons_succ]
                  apply join_rows (F := fun V _ go gh ch => Below Y1.heap.size Y1 V ∧ RtsOwn V w1.heap.size (.slice (some ⟨gh, 0, none⟩) (xs.take c).length ch) (xs.take c) ∧ RtsOwn V w1.heap.size (.slice (some ⟨go, 0, none⟩) [y2].length 1) [y2] ∧ Y1.heap.size ≤ gh)
                  case main =>
                    intro key
                    refine wpAnyH_ready (rs := [0, 6]) (by kernel_rfl) (by simp) ?_
                    refine AllReadyH.cons rfl (fun K hK => ?_) (AllReadyH.cons rfl (fun K hK => ?_) AllReadyH.nil)
                    ·
                      go_simp
                      have hz0 : w1.heap.size ≤ V2.heap.size := Nat.le_trans S3.out.o.b.size hHeld.size
                      have hz1 := hHeld.size
                      have he := empty14 (Bs := w1.heap.size) V2 hz0
                      obtain ⟨g0, hg0⟩ : ∃ g0, V2.heap.size = g0 := ⟨_, rfl⟩
                      have hbz : Below V2.heap.size V2 (V2.alloc (.cells #[] 50)) := (Below.refl _ _).alloc (Nat.le_refl _) _
                      refine hK.out _ _ (by exact hHeld.alloc hHeld.size _) (fun hHeld => ?_)
                      clear hK K
                      (try simp only [Act.put, List.setIfInBounds_toArray, List.set_cons_zero, List.set_cons_succ])
                      obtain ⟨V3, hV3⟩ : ∃ V, V2.alloc (.cells #[] 50) = V := ⟨_, rfl⟩
                      have hsn : Hid (V3.heap.size = g0 + 1) := by exact (by rw [← hV3]; simp [hg0] : V3.heap.size = g0 + 1)
                      rw [hV3] at hHeld he hbz ⊢
                      rw [hg0] at he ⊢
                      have hg0y : Y1.heap.size ≤ g0 := by omega
                      refine wpAnyH_ready (rs := [4, 6]) (by kernel_rfl) (by simp) ?_
                      refine AllReadyH.cons rfl (fun K hK => ?_) (AllReadyH.cons rfl (fun K hK => ?_) AllReadyH.nil)
                      ·
                        have s5 := S3.out.below hHeld
                        obtain ⟨gh, ch, V4, hr5, hh, hgr5, hat5⟩ := app14 (cz := c) he (take14 s5.o.fo (k := c) (by rw [HNx.out]; omega)) (fun z hz => s5.o.fo.trees z (List.mem_of_mem_take hz)) s5.o.b.size (by rw [HLq.out]; simp; omega)
                        rw [List.nil_append] at hh
                        rw [HLq.out, List.length_nil, Nat.zero_add] at hr5
                        have hghy : Y1.heap.size ≤ gh := by have := hHeld.size; rcases hat5 with e | e <;> omega
                        refine step_append_run (by rfl) (.tmp 74) (.tmp 77) 24 (by rfl) _ _ _ (by rfl) (by rfl) hr5 ?_
                        refine hK.out _ _ (by exact hHeld.grown hgr5 hHeld.size (fun k e => by injection e with e; omega)) (fun hHeld => ?_)
                        clear hK K
                        (try simp only [Act.put, List.setIfInBounds_toArray])
                        clear hr5 s5
                        refine wpAnyH_ready (rs := [6]) (by kernel_rfl) (by simp) ?_
                        refine AllReadyH.cons rfl (fun K hK => ?_) AllReadyH.nil
                        go_simp
                        have hw0 : w1.heap.size ≤ V4.heap.size := Nat.le_trans S3.out.o.b.size hHeld.size
                        have ho := one14 (w1 := w1) V4 y2 hw0 (S3.out.below hHeld).yo
                        obtain ⟨go_, hgo0⟩ : ∃ g0, V4.heap.size = g0 := ⟨_, rfl⟩
                        have hby : Below V4.heap.size V4 (V4.alloc (.cells #[.string ⟨y2.1.1.toArray⟩, .int .i64 y2.1.2.1, rvT y2] 50)) := (Below.refl _ _).alloc (Nat.le_refl _) _
                        refine hK.out _ _ (by exact hHeld.alloc hHeld.size _) (fun hHeld => ?_)
                        clear hK K
                        (try simp only [Act.put, List.setIfInBounds_toArray, List.set_cons_zero, List.set_cons_succ])
                        obtain ⟨V5, hV5⟩ : ∃ V, V4.alloc (.cells #[.string ⟨y2.1.1.toArray⟩, .int .i64 y2.1.2.1, rvT y2] 50) = V := ⟨_, rfl⟩
                        rw [hV5] at hHeld ho hby ⊢
                        rw [hgo0] at ho ⊢
                        replace hh := hh.below hby
                        have hgo : go_ < V5.heap.size := (ho.row.lt go_ rfl).2
                        (try simp only [List.set_cons_zero, List.set_cons_succ])
                        exact key V5 g0 go_ gh ch ⟨hHeld, hh, ho, hghy⟩
                      ·
                        go_simp
                        have hw0 : w1.heap.size ≤ V3.heap.size := Nat.le_trans S3.out.o.b.size hHeld.size
                        have ho := one14 (w1 := w1) V3 y2 hw0 (S3.out.below hHeld).yo
                        obtain ⟨go_, hgo0⟩ : ∃ g0, V3.heap.size = g0 := ⟨_, rfl⟩
                        have hby : Below V3.heap.size V3 (V3.alloc (.cells #[.string ⟨y2.1.1.toArray⟩, .int .i64 y2.1.2.1, rvT y2] 50)) := (Below.refl _ _).alloc (Nat.le_refl _) _
                        refine hK.out _ _ (by exact hHeld.alloc hHeld.size _) (fun hHeld => ?_)
                        clear hK K
                        (try simp only [Act.put, List.setIfInBounds_toArray, List.set_cons_zero, List.set_cons_succ])
                        obtain ⟨V4, hV4⟩ : ∃ V, V3.alloc (.cells #[.string ⟨y2.1.1.toArray⟩, .int .i64 y2.1.2.1, rvT y2] 50) = V := ⟨_, rfl⟩
                        rw [hV4] at hHeld ho hby ⊢
                        rw [hgo0] at ho ⊢
                        replace he := he.below hby
                        have hne0 : go_ ≠ g0 := by have := hsn.out; omega
                        have hgo : go_ < V4.heap.size := (ho.row.lt go_ rfl).2
                        refine wpAnyH_ready (rs := [4]) (by kernel_rfl) (by simp) ?_
                        refine AllReadyH.cons rfl (fun K hK => ?_) AllReadyH.nil
                        have s5 := S3.out.below hHeld
                        obtain ⟨gh, ch, V5, hr5, hh, hgr5, hat5⟩ := app14 (cz := c) he (take14 s5.o.fo (k := c) (by rw [HNx.out]; omega)) (fun z hz => s5.o.fo.trees z (List.mem_of_mem_take hz)) s5.o.b.size (by rw [HLq.out]; simp; omega)
                        rw [List.nil_append] at hh
                        rw [HLq.out, List.length_nil, Nat.zero_add] at hr5
                        have hghy : Y1.heap.size ≤ gh := by have := hHeld.size; rcases hat5 with e | e <;> omega
                        refine step_append_run (by rfl) (.tmp 74) (.tmp 77) 24 (by rfl) _ _ _ (by rfl) (by rfl) hr5 ?_
                        refine hK.out _ _ (by exact hHeld.grown hgr5 hHeld.size (fun k e => by injection e with e; omega)) (fun hHeld => ?_)
                        clear hK K
                        (try simp only [Act.put, List.setIfInBounds_toArray])
                        replace ho := ho.kept hgr5 (Or.inr (by intro e; injection e with e; exact hne0 e)) (fun z hz => own_typesR (ho.trees z hz) he.row (by decide))
                        clear hr5 s5
                        (try simp only [List.set_cons_zero, List.set_cons_succ])
                        exact key V5 g0 go_ gh ch ⟨hHeld, hh, ho, hghy⟩
                    ·
                      go_simp
                      have hw0 : w1.heap.size ≤ V2.heap.size := Nat.le_trans S3.out.o.b.size hHeld.size
                      have ho := one14 (w1 := w1) V2 y2 hw0 (S3.out.below hHeld).yo
                      obtain ⟨go_, hgo0⟩ : ∃ g0, V2.heap.size = g0 := ⟨_, rfl⟩
                      have hby : Below V2.heap.size V2 (V2.alloc (.cells #[.string ⟨y2.1.1.toArray⟩, .int .i64 y2.1.2.1, rvT y2] 50)) := (Below.refl _ _).alloc (Nat.le_refl _) _
                      refine hK.out _ _ (by exact hHeld.alloc hHeld.size _) (fun hHeld => ?_)
                      clear hK K
                      (try simp only [Act.put, List.setIfInBounds_toArray, List.set_cons_zero, List.set_cons_succ])
                      obtain ⟨V3, hV3⟩ : ∃ V, V2.alloc (.cells #[.string ⟨y2.1.1.toArray⟩, .int .i64 y2.1.2.1, rvT y2] 50) = V := ⟨_, rfl⟩
                      rw [hV3] at hHeld ho hby ⊢
                      rw [hgo0] at ho ⊢
                      have hgo : go_ < V3.heap.size := (ho.row.lt go_ rfl).2
                      refine wpAnyH_ready (rs := [0]) (by kernel_rfl) (by simp) ?_
                      refine AllReadyH.cons rfl (fun K hK => ?_) AllReadyH.nil
                      go_simp
                      have hz0 : w1.heap.size ≤ V3.heap.size := Nat.le_trans S3.out.o.b.size hHeld.size
                      have hz1 := hHeld.size
                      have he := empty14 (Bs := w1.heap.size) V3 hz0
                      obtain ⟨g0, hg0⟩ : ∃ g0, V3.heap.size = g0 := ⟨_, rfl⟩
                      have hbz : Below V3.heap.size V3 (V3.alloc (.cells #[] 50)) := (Below.refl _ _).alloc (Nat.le_refl _) _
                      refine hK.out _ _ (by exact hHeld.alloc hHeld.size _) (fun hHeld => ?_)
                      clear hK K
                      (try simp only [Act.put, List.setIfInBounds_toArray, List.set_cons_zero, List.set_cons_succ])
                      obtain ⟨V4, hV4⟩ : ∃ V, V3.alloc (.cells #[] 50) = V := ⟨_, rfl⟩
                      have hsn : Hid (V4.heap.size = g0 + 1) := by exact (by rw [← hV4]; simp [hg0] : V4.heap.size = g0 + 1)
                      rw [hV4] at hHeld he hbz ⊢
                      rw [hg0] at he ⊢
                      replace ho := ho.below hbz
                      have hne0 : go_ ≠ g0 := by have := hgo; omega
                      have hg0y : Y1.heap.size ≤ g0 := by omega
                      refine wpAnyH_ready (rs := [4]) (by kernel_rfl) (by simp) ?_
                      refine AllReadyH.cons rfl (fun K hK => ?_) AllReadyH.nil
                      have s5 := S3.out.below hHeld
                      obtain ⟨gh, ch, V5, hr5, hh, hgr5, hat5⟩ := app14 (cz := c) he (take14 s5.o.fo (k := c) (by rw [HNx.out]; omega)) (fun z hz => s5.o.fo.trees z (List.mem_of_mem_take hz)) s5.o.b.size (by rw [HLq.out]; simp; omega)
                      rw [List.nil_append] at hh
                      rw [HLq.out, List.length_nil, Nat.zero_add] at hr5
                      have hghy : Y1.heap.size ≤ gh := by have := hHeld.size; rcases hat5 with e | e <;> omega
                      refine step_append_run (by rfl) (.tmp 74) (.tmp 77) 24 (by rfl) _ _ _ (by rfl) (by rfl) hr5 ?_
                      refine hK.out _ _ (by exact hHeld.grown hgr5 hHeld.size (fun k e => by injection e with e; omega)) (fun hHeld => ?_)
                      clear hK K
                      (try simp only [Act.put, List.setIfInBounds_toArray])
                      replace ho := ho.kept hgr5 (Or.inr (by intro e; injection e with e; exact hne0 e)) (fun z hz => own_typesR (ho.trees z hz) he.row (by decide))
                      clear hr5 s5
                      (try simp only [List.set_cons_zero, List.set_cons_succ])
                      exact key V5 g0 go_ gh ch ⟨hHeld, hh, ho, hghy⟩
                  case rest =>
                    clear hHeld
                    intro V5 g0 go_ gh ch hF
                    obtain ⟨hHeld, hh, ho, hghy⟩ := hF
                    have s7 := S3.out.below hHeld
                    obtain ⟨g7, c7, V7, hr7, ho7, hgr7, hat7⟩ := s7.join (k := c) hh ho (by rw [HNx.out]; omega)
                    rw [HLq.out] at hr7
                    have hg7y : Y1.heap.size ≤ g7 := by have := hHeld.size; rcases hat7 with e | e <;> omega
                    refine wpAnyH_ready (rs := [7]) (by kernel_rfl) (by simp) ?_
                    refine AllReadyH.cons rfl (fun K hK => ?_) AllReadyH.nil
                    refine step_append_run (by rfl) (.tmp 78) (.tmp 80) 24 (by rfl) _ _ _ (by rfl) (by rfl) hr7 ?_
                    refine hK.out _ _ (by exact hHeld.grown hgr7 hHeld.size (fun k e => by injection e with e; omega)) (fun hHeld => ?_)
                    clear hK K
                    (try simp only [Act.put, List.setIfInBounds_toArray])
                    have hre := HRe.out _ hHeld
                    have s8 := S3.out.below hHeld
                    have hl8 : (xs.take c ++ [y2]).length = c + 1 := by rw [List.length_append, HLq.out]; rfl
                    have hl9 : (xs.drop c).length = c - c := by rw [List.length_drop, HNx.out]
                    obtain ⟨g9, c9, V9, hr9, ho9, hgr9, _⟩ := app14 (cz := c1) ho7 (all14 hre) (fun z hz => hre.trees z hz) s8.o.b.size (by rw [hl8, hl9]; omega)
                    have hlA : (xs.take c ++ [y2] ++ xs.drop c).length = c + 1 := by rw [List.length_append, hl8, hl9]; omega
                    rw [hl8, hl9, show c + 1 + (c - c) = c + 1 by omega] at hr9
                    rw [Nat.sub_self] at hr9
                    refine wpAnyH_ready (rs := [9]) (by kernel_rfl) (by simp) ?_
                    refine AllReadyH.cons rfl (fun K hK => ?_) AllReadyH.nil
                    refine step_append_run (by rfl) (.tmp 81) (.tmp 82) 24 (by rfl) _ _ _ (by rfl) (by rfl) hr9 ?_
                    refine hK.out _ _ (by exact hHeld.grown hgr9 hHeld.size (fun k e => by injection e with e; omega)) (fun hHeld => ?_)
                    clear hK K
                    (try simp only [Act.put])
                    refine wpAnyH_take (i := 10) (oi := ⟨some 4, _, _, _, _, _⟩) (v := ?v55) rfl (by kernel_rfl) (by kernel_rfl) (by kernel_rfl) (fun _ _ _ h => h) (Or.inl ⟨by rfl, ?hy55⟩) (by assumption) ?rest55
                    case hy55 => (intro wq hSw; clear hSw; first | (go_simp; done) | (go_simp; with_reducible rfl))
                    simp only [Act.put]
                    have HS9 : Hid (Im14 w1 V9 g9 c9 (xs.take c ++ [y2] ++ xs.drop c)) := by
                      refine ⟨ho9, fun z hz => ?_, S3.out.o.b.trans (hHeld.mono S3.out.o.b.size)⟩
                      rcases List.mem_append.1 hz with e | e
                      · rcases List.mem_append.1 e with e | e
                        · exact S3.out.o.sm z (List.mem_of_mem_take e)
                        · rw [List.mem_singleton.1 e]; exact S3.out.ys
                      · exact S3.out.o.sm z (List.mem_of_mem_drop e)
                    have HLA : Hid ((xs.take c ++ [y2] ++ xs.drop c).length = c + 1) := hlA
                    generalize xs.take c ++ [y2] ++ xs.drop c = zs at HS9 HLA
                    refine wpAnyH_done (by kernel_rfl) ?_ _
                    clear hHeld hre s8 s7 hl8 hl9 hlA ho9 hgr9 hr9 hr7 ho7 hgr7 S3 HRe HR3 hh ho
                    go_wp2
                    go_roundw
                    case rel => exact ⟨k + 1, g9, c9, zs, by go_num, by omega, by rw [HLA.out], by rw [HLA.out]; omega, by rw [HLA.out]; omega, HS9⟩
                    case measure => simp [intOf]; omega
                ·
                  obtain ⟨g1, c1, Y1, hrun1, s3, hrest⟩ := s2.out.rest (k := q) (by rw [HNx.out]; omega) (by rw [HNx.out]; omega)
                  rw [HNx.out] at hrun1
                  rw [if_neg hcl, Nat.sub_self] at hrun1
                  have hcqi : ¬ (c : Int) = (q : Int) := by omega
                  have S3 : Hid (Ir2 w1 Y1 g c gn xs y2) := s3
                  have HRe : Hid (∀ V, Below Y1.heap.size Y1 V → RtsOwn V w1.heap.size (.slice (some ⟨g1, 0, none⟩) (xs.drop q).length c1) (xs.drop q)) := fun V hV => hrest.below hV
                  have HR3 : Hid (∀ V, Below Y1.heap.size Y1 V → V.cell? ⟨gn, 0, none⟩ = some (.string ⟨y2.1.1.toArray⟩) ∧ V.cell? ⟨gn, 1, none⟩ = some (.int .i64 y2.1.2.1) ∧ V.cell? ⟨gn, 2, none⟩ = some (rvT y2)) := fun V hV => ⟨(s3.below hV).r0, (s3.below hV).r1, (s3.below hV).r2⟩
                  have HCc : Hid (xs.length ≤ c) := (own_capR s3.o.fo.row).1
                  have hqc : (q : Int) ≤ (c : Int) := by have := HCc.out; have := HNx.out; omega
                  have hqx : (q : Int) ≤ (q : Int) := by omega
                  have HLq : Hid ((xs.take q).length = q) := by exact (by rw [List.length_take, HNx.out]; omega : (xs.take q).length = q)
                  clear s3 hrest s2
                  go_wp2_with (at_builtin; refine wpList_append_run rfl (.tmp 69) (.tmp 72) 24 rfl _ _ _ rfl rfl hrun1 ?_; clear hrun1)
                  refine wp_region_held_drew (S := fun V => Below Y1.heap.size Y1 V) (by kernel_rfl) ⟨rfl, rfl, rfl, Nat.le_refl _, fun _ _ => rfl⟩ (fun hHeld => ?_)
                  generalize Y1.drew = V2 at hHeld ⊢
                  refine wpAnyH_take (i := 1) (oi := ⟨some 75, _, _, _, _, _⟩) (v := ?v56) rfl (by kernel_rfl) (by kernel_rfl) (by kernel_rfl) (fun _ _ _ h => h) (Or.inl ⟨by rfl, ?hy56⟩) (by assumption) ?rest56
                  case hy56 => (intro wq hSw; clear hSw; first | (go_simp; done) | (go_simp; with_reducible rfl))
                  simp only [Act.put, List.setIfInBounds_toArray, List.set_cons_zero, List.set_cons_succ]
                  refine wpAnyH_take (i := 2) (oi := ⟨some 76, _, _, _, _, _⟩) (v := ?v57) rfl (by kernel_rfl) (by kernel_rfl) (by kernel_rfl) (fun _ _ _ h => h) (Or.inl ⟨by rfl, ?hy57⟩) (by assumption) ?rest57
                  case hy57 => (intro wq hSw; clear hSw; first | (go_simp; done) | (go_simp; with_reducible rfl))
                  simp only [Act.put, List.setIfInBounds_toArray, List.set_cons_zero, List.set_cons_succ]
                  refine wpAnyH_take (i := 3) (oi := ⟨some 77, _, _, _, _, _⟩) (v := ?v58) rfl (by kernel_rfl) (by kernel_rfl) (by kernel_rfl) (fun _ _ _ h => h) (Or.inl ⟨by rfl, ?hy58⟩) (by assumption) ?rest58
                  case hy58 => (intro wq hSw; clear hSw; first | (go_simp; done) | (go_simp; with_reducible rfl))
                  simp only [Act.put, List.setIfInBounds_toArray, List.set_cons_zero, List.set_cons_succ]
                  refine wpAnyH_take (i := 5) (oi := ⟨some 79, _, _, _, _, _⟩) (v := ?v59) rfl (by kernel_rfl) (by kernel_rfl) (by kernel_rfl) (fun _ _ _ h => h) (Or.inl ⟨by rfl, ?hy59⟩) (by assumption) ?rest59
                  case hy59 => (intro wq hSw; have e0 := (HR3.out wq hSw).1; have e1 := (HR3.out wq hSw).2.1; have e2 := (HR3.out wq hSw).2.2; clear hSw; first | (go_simp; done) | (go_simp; with_reducible rfl))
                  simp only [Act.put, List.setIfInBounds_toArray, List.set_cons_zero, List.set_cons_succ]
                  refine wpAnyH_take (i := 8) (oi := ⟨some 82, _, _, _, _, _⟩) (v := ?v60) rfl (by kernel_rfl) (by kernel_rfl) (by kernel_rfl) (fun _ _ _ h => h) (Or.inl ⟨by rfl, ?hy60⟩) (by assumption) ?rest60
                  case hy60 => (intro wq hSw; clear hSw; first | (go_simp; done) | (go_simp; with_reducible rfl))
                  simp only [Act.put, List.setIfInBounds_toArray, List.set_cons_zero, List.set_cons_succ]
                  apply join_rows (F := fun V _ go gh ch => Below Y1.heap.size Y1 V ∧ RtsOwn V w1.heap.size (.slice (some ⟨gh, 0, none⟩) (xs.take q).length ch) (xs.take q) ∧ RtsOwn V w1.heap.size (.slice (some ⟨go, 0, none⟩) [y2].length 1) [y2] ∧ Y1.heap.size ≤ gh)
                  case main =>
                    intro key
                    refine wpAnyH_ready (rs := [0, 6]) (by kernel_rfl) (by simp) ?_
                    refine AllReadyH.cons rfl (fun K hK => ?_) (AllReadyH.cons rfl (fun K hK => ?_) AllReadyH.nil)
                    ·
                      go_simp
                      have hz0 : w1.heap.size ≤ V2.heap.size := Nat.le_trans S3.out.o.b.size hHeld.size
                      have hz1 := hHeld.size
                      have he := empty14 (Bs := w1.heap.size) V2 hz0
                      obtain ⟨g0, hg0⟩ : ∃ g0, V2.heap.size = g0 := ⟨_, rfl⟩
                      have hbz : Below V2.heap.size V2 (V2.alloc (.cells #[] 50)) := (Below.refl _ _).alloc (Nat.le_refl _) _
                      refine hK.out _ _ (by exact hHeld.alloc hHeld.size _) (fun hHeld => ?_)
                      clear hK K
                      (try simp only [Act.put, List.setIfInBounds_toArray, List.set_cons_zero, List.set_cons_succ])
                      obtain ⟨V3, hV3⟩ : ∃ V, V2.alloc (.cells #[] 50) = V := ⟨_, rfl⟩
                      have hsn : Hid (V3.heap.size = g0 + 1) := by exact (by rw [← hV3]; simp [hg0] : V3.heap.size = g0 + 1)
                      rw [hV3] at hHeld he hbz ⊢
                      rw [hg0] at he ⊢
                      have hg0y : Y1.heap.size ≤ g0 := by omega
                      refine wpAnyH_ready (rs := [4, 6]) (by kernel_rfl) (by simp) ?_
                      refine AllReadyH.cons rfl (fun K hK => ?_) (AllReadyH.cons rfl (fun K hK => ?_) AllReadyH.nil)
                      ·
                        have s5 := S3.out.below hHeld
                        obtain ⟨gh, ch, V4, hr5, hh, hgr5, hat5⟩ := app14 (cz := c) he (take14 s5.o.fo (k := q) (by rw [HNx.out]; omega)) (fun z hz => s5.o.fo.trees z (List.mem_of_mem_take hz)) s5.o.b.size (by rw [HLq.out]; simp; omega)
                        rw [List.nil_append] at hh
                        rw [HLq.out, List.length_nil, Nat.zero_add] at hr5
                        have hghy : Y1.heap.size ≤ gh := by have := hHeld.size; rcases hat5 with e | e <;> omega
                        refine step_append_run (by rfl) (.tmp 74) (.tmp 77) 24 (by rfl) _ _ _ (by rfl) (by rfl) hr5 ?_
                        refine hK.out _ _ (by exact hHeld.grown hgr5 hHeld.size (fun k e => by injection e with e; omega)) (fun hHeld => ?_)
                        clear hK K
                        (try simp only [Act.put, List.setIfInBounds_toArray])
                        clear hr5 s5
                        refine wpAnyH_ready (rs := [6]) (by kernel_rfl) (by simp) ?_
                        refine AllReadyH.cons rfl (fun K hK => ?_) AllReadyH.nil
                        go_simp
                        have hw0 : w1.heap.size ≤ V4.heap.size := Nat.le_trans S3.out.o.b.size hHeld.size
                        have ho := one14 (w1 := w1) V4 y2 hw0 (S3.out.below hHeld).yo
                        obtain ⟨go_, hgo0⟩ : ∃ g0, V4.heap.size = g0 := ⟨_, rfl⟩
                        have hby : Below V4.heap.size V4 (V4.alloc (.cells #[.string ⟨y2.1.1.toArray⟩, .int .i64 y2.1.2.1, rvT y2] 50)) := (Below.refl _ _).alloc (Nat.le_refl _) _
                        refine hK.out _ _ (by exact hHeld.alloc hHeld.size _) (fun hHeld => ?_)
                        clear hK K
                        (try simp only [Act.put, List.setIfInBounds_toArray, List.set_cons_zero, List.set_cons_succ])
                        obtain ⟨V5, hV5⟩ : ∃ V, V4.alloc (.cells #[.string ⟨y2.1.1.toArray⟩, .int .i64 y2.1.2.1, rvT y2] 50) = V := ⟨_, rfl⟩
                        rw [hV5] at hHeld ho hby ⊢
                        rw [hgo0] at ho ⊢
                        replace hh := hh.below hby
                        have hgo : go_ < V5.heap.size := (ho.row.lt go_ rfl).2
                        (try simp only [List.set_cons_zero, List.set_cons_succ])
                        exact key V5 g0 go_ gh ch ⟨hHeld, hh, ho, hghy⟩
                      ·
                        go_simp
                        have hw0 : w1.heap.size ≤ V3.heap.size := Nat.le_trans S3.out.o.b.size hHeld.size
                        have ho := one14 (w1 := w1) V3 y2 hw0 (S3.out.below hHeld).yo
                        obtain ⟨go_, hgo0⟩ : ∃ g0, V3.heap.size = g0 := ⟨_, rfl⟩
                        have hby : Below V3.heap.size V3 (V3.alloc (.cells #[.string ⟨y2.1.1.toArray⟩, .int .i64 y2.1.2.1, rvT y2] 50)) := (Below.refl _ _).alloc (Nat.le_refl _) _
                        refine hK.out _ _ (by exact hHeld.alloc hHeld.size _) (fun hHeld => ?_)
                        clear hK K
                        (try simp only [Act.put, List.setIfInBounds_toArray, List.set_cons_zero, List.set_cons_succ])
                        obtain ⟨V4, hV4⟩ : ∃ V, V3.alloc (.cells #[.string ⟨y2.1.1.toArray⟩, .int .i64 y2.1.2.1, rvT y2] 50) = V := ⟨_, rfl⟩
                        rw [hV4] at hHeld ho hby ⊢
                        rw [hgo0] at ho ⊢
                        replace he := he.below hby
                        have hne0 : go_ ≠ g0 := by have := hsn.out; omega
                        have hgo : go_ < V4.heap.size := (ho.row.lt go_ rfl).2
                        refine wpAnyH_ready (rs := [4]) (by kernel_rfl) (by simp) ?_
                        refine AllReadyH.cons rfl (fun K hK => ?_) AllReadyH.nil
                        have s5 := S3.out.below hHeld
                        obtain ⟨gh, ch, V5, hr5, hh, hgr5, hat5⟩ := app14 (cz := c) he (take14 s5.o.fo (k := q) (by rw [HNx.out]; omega)) (fun z hz => s5.o.fo.trees z (List.mem_of_mem_take hz)) s5.o.b.size (by rw [HLq.out]; simp; omega)
                        rw [List.nil_append] at hh
                        rw [HLq.out, List.length_nil, Nat.zero_add] at hr5
                        have hghy : Y1.heap.size ≤ gh := by have := hHeld.size; rcases hat5 with e | e <;> omega
                        refine step_append_run (by rfl) (.tmp 74) (.tmp 77) 24 (by rfl) _ _ _ (by rfl) (by rfl) hr5 ?_
                        refine hK.out _ _ (by exact hHeld.grown hgr5 hHeld.size (fun k e => by injection e with e; omega)) (fun hHeld => ?_)
                        clear hK K
                        (try simp only [Act.put, List.setIfInBounds_toArray])
                        replace ho := ho.kept hgr5 (Or.inr (by intro e; injection e with e; exact hne0 e)) (fun z hz => own_typesR (ho.trees z hz) he.row (by decide))
                        clear hr5 s5
                        (try simp only [List.set_cons_zero, List.set_cons_succ])
                        exact key V5 g0 go_ gh ch ⟨hHeld, hh, ho, hghy⟩
                    ·
                      go_simp
                      have hw0 : w1.heap.size ≤ V2.heap.size := Nat.le_trans S3.out.o.b.size hHeld.size
                      have ho := one14 (w1 := w1) V2 y2 hw0 (S3.out.below hHeld).yo
                      obtain ⟨go_, hgo0⟩ : ∃ g0, V2.heap.size = g0 := ⟨_, rfl⟩
                      have hby : Below V2.heap.size V2 (V2.alloc (.cells #[.string ⟨y2.1.1.toArray⟩, .int .i64 y2.1.2.1, rvT y2] 50)) := (Below.refl _ _).alloc (Nat.le_refl _) _
                      refine hK.out _ _ (by exact hHeld.alloc hHeld.size _) (fun hHeld => ?_)
                      clear hK K
                      (try simp only [Act.put, List.setIfInBounds_toArray, List.set_cons_zero, List.set_cons_succ])
                      obtain ⟨V3, hV3⟩ : ∃ V, V2.alloc (.cells #[.string ⟨y2.1.1.toArray⟩, .int .i64 y2.1.2.1, rvT y2] 50) = V := ⟨_, rfl⟩
                      rw [hV3] at hHeld ho hby ⊢
                      rw [hgo0] at ho ⊢
                      have hgo : go_ < V3.heap.size := (ho.row.lt go_ rfl).2
                      refine wpAnyH_ready (rs := [0]) (by kernel_rfl) (by simp) ?_
                      refine AllReadyH.cons rfl (fun K hK => ?_) AllReadyH.nil
                      go_simp
                      have hz0 : w1.heap.size ≤ V3.heap.size := Nat.le_trans S3.out.o.b.size hHeld.size
                      have hz1 := hHeld.size
                      have he := empty14 (Bs := w1.heap.size) V3 hz0
                      obtain ⟨g0, hg0⟩ : ∃ g0, V3.heap.size = g0 := ⟨_, rfl⟩
                      have hbz : Below V3.heap.size V3 (V3.alloc (.cells #[] 50)) := (Below.refl _ _).alloc (Nat.le_refl _) _
                      refine hK.out _ _ (by exact hHeld.alloc hHeld.size _) (fun hHeld => ?_)
                      clear hK K
                      (try simp only [Act.put, List.setIfInBounds_toArray, List.set_cons_zero, List.set_cons_succ])
                      obtain ⟨V4, hV4⟩ : ∃ V, V3.alloc (.cells #[] 50) = V := ⟨_, rfl⟩
                      have hsn : Hid (V4.heap.size = g0 + 1) := by exact (by rw [← hV4]; simp [hg0] : V4.heap.size = g0 + 1)
                      rw [hV4] at hHeld he hbz ⊢
                      rw [hg0] at he ⊢
                      replace ho := ho.below hbz
                      have hne0 : go_ ≠ g0 := by have := hgo; omega
                      have hg0y : Y1.heap.size ≤ g0 := by omega
                      refine wpAnyH_ready (rs := [4]) (by kernel_rfl) (by simp) ?_
                      refine AllReadyH.cons rfl (fun K hK => ?_) AllReadyH.nil
                      have s5 := S3.out.below hHeld
                      obtain ⟨gh, ch, V5, hr5, hh, hgr5, hat5⟩ := app14 (cz := c) he (take14 s5.o.fo (k := q) (by rw [HNx.out]; omega)) (fun z hz => s5.o.fo.trees z (List.mem_of_mem_take hz)) s5.o.b.size (by rw [HLq.out]; simp; omega)
                      rw [List.nil_append] at hh
                      rw [HLq.out, List.length_nil, Nat.zero_add] at hr5
                      have hghy : Y1.heap.size ≤ gh := by have := hHeld.size; rcases hat5 with e | e <;> omega
                      refine step_append_run (by rfl) (.tmp 74) (.tmp 77) 24 (by rfl) _ _ _ (by rfl) (by rfl) hr5 ?_
                      refine hK.out _ _ (by exact hHeld.grown hgr5 hHeld.size (fun k e => by injection e with e; omega)) (fun hHeld => ?_)
                      clear hK K
                      (try simp only [Act.put, List.setIfInBounds_toArray])
                      replace ho := ho.kept hgr5 (Or.inr (by intro e; injection e with e; exact hne0 e)) (fun z hz => own_typesR (ho.trees z hz) he.row (by decide))
                      clear hr5 s5
                      (try simp only [List.set_cons_zero, List.set_cons_succ])
                      exact key V5 g0 go_ gh ch ⟨hHeld, hh, ho, hghy⟩
                  case rest =>
                    clear hHeld
                    intro V5 g0 go_ gh ch hF
                    obtain ⟨hHeld, hh, ho, hghy⟩ := hF
                    have s7 := S3.out.below hHeld
                    obtain ⟨g7, c7, V7, hr7, ho7, hgr7, hat7⟩ := s7.join (k := q) hh ho (by rw [HNx.out]; omega)
                    rw [HLq.out] at hr7
                    have hg7y : Y1.heap.size ≤ g7 := by have := hHeld.size; rcases hat7 with e | e <;> omega
                    refine wpAnyH_ready (rs := [7]) (by kernel_rfl) (by simp) ?_
                    refine AllReadyH.cons rfl (fun K hK => ?_) AllReadyH.nil
                    refine step_append_run (by rfl) (.tmp 78) (.tmp 80) 24 (by rfl) _ _ _ (by rfl) (by rfl) hr7 ?_
                    refine hK.out _ _ (by exact hHeld.grown hgr7 hHeld.size (fun k e => by injection e with e; omega)) (fun hHeld => ?_)
                    clear hK K
                    (try simp only [Act.put, List.setIfInBounds_toArray])
                    have hre := HRe.out _ hHeld
                    have s8 := S3.out.below hHeld
                    have hl8 : (xs.take q ++ [y2]).length = q + 1 := by rw [List.length_append, HLq.out]; rfl
                    have hl9 : (xs.drop q).length = q - q := by rw [List.length_drop, HNx.out]
                    obtain ⟨g9, c9, V9, hr9, ho9, hgr9, _⟩ := app14 (cz := c1) ho7 (all14 hre) (fun z hz => hre.trees z hz) s8.o.b.size (by rw [hl8, hl9]; omega)
                    have hlA : (xs.take q ++ [y2] ++ xs.drop q).length = q + 1 := by rw [List.length_append, hl8, hl9]; omega
                    rw [hl8, hl9, show q + 1 + (q - q) = q + 1 by omega] at hr9
                    rw [Nat.sub_self] at hr9
                    refine wpAnyH_ready (rs := [9]) (by kernel_rfl) (by simp) ?_
                    refine AllReadyH.cons rfl (fun K hK => ?_) AllReadyH.nil
                    refine step_append_run (by rfl) (.tmp 81) (.tmp 82) 24 (by rfl) _ _ _ (by rfl) (by rfl) hr9 ?_
                    refine hK.out _ _ (by exact hHeld.grown hgr9 hHeld.size (fun k e => by injection e with e; omega)) (fun hHeld => ?_)
                    clear hK K
                    (try simp only [Act.put])
                    refine wpAnyH_take (i := 10) (oi := ⟨some 4, _, _, _, _, _⟩) (v := ?v61) rfl (by kernel_rfl) (by kernel_rfl) (by kernel_rfl) (fun _ _ _ h => h) (Or.inl ⟨by rfl, ?hy61⟩) (by assumption) ?rest61
                    case hy61 => (intro wq hSw; clear hSw; first | (go_simp; done) | (go_simp; with_reducible rfl))
                    simp only [Act.put]
                    have HS9 : Hid (Im14 w1 V9 g9 c9 (xs.take q ++ [y2] ++ xs.drop q)) := by
                      refine ⟨ho9, fun z hz => ?_, S3.out.o.b.trans (hHeld.mono S3.out.o.b.size)⟩
                      rcases List.mem_append.1 hz with e | e
                      · rcases List.mem_append.1 e with e | e
                        · exact S3.out.o.sm z (List.mem_of_mem_take e)
                        · rw [List.mem_singleton.1 e]; exact S3.out.ys
                      · exact S3.out.o.sm z (List.mem_of_mem_drop e)
                    have HLA : Hid ((xs.take q ++ [y2] ++ xs.drop q).length = q + 1) := hlA
                    generalize xs.take q ++ [y2] ++ xs.drop q = zs at HS9 HLA
                    refine wpAnyH_done (by kernel_rfl) ?_ _
                    clear hHeld hre s8 s7 hl8 hl9 hlA ho9 hgr9 hr9 hr7 ho7 hgr7 S3 HRe HR3 hh ho
                    go_wp2
                    go_roundw
                    case rel => exact ⟨k + 1, g9, c9, zs, by go_num, by omega, by rw [HLA.out], by rw [HLA.out]; omega, by rw [HLA.out]; omega, HS9⟩
                    case measure => simp [intOf]; omega
        · obtain rfl : k = m := by omega
          go_wp2
          go_roundw
          case rel => exact ⟨i + 1, g, c, xs, by go_num, by omega, rfl, by omega, by omega, sr⟩
          case measure => simp [intOf]; omega
    · obtain rfl : i = ny := by omega
      have hDw : wr.heap[D]? = some (.cells #[.slice none 0 0] 26 (0, 0)) := by
        have hsz := HC1.out.2.size
        rw [sr.out.b.block D (by omega), HC1.out.2.block D (by omega) (by intro e; injection e with e; have := HA0.out.2.2; omega)]
        exact HA0.out.1
      have d0 : wr.cell? ⟨D, 0, none⟩ = some (.slice none 0 0) := by rw [cell_of_row _ _ _ _ _ _ hDw]; rfl
      have df : wr.frozen? ⟨D, 0, none⟩ = false := frozen_of_row _ _ _ _ _ hDw
      have k0 : (wr.setCell ⟨D, 0, none⟩ (.slice (some ⟨g, 0, none⟩) xs.length c)).cell? ⟨D, 0, none⟩ = some (.slice (some ⟨g, 0, none⟩) xs.length c) := World.cell?_setCell_same _ _ _ d0
      have HO : Hid (Dr14 w B a len cap (.returned (.agg #[.slice (some ⟨g, 0, none⟩) xs.length c])) (wr.setCell ⟨D, 0, none⟩ (.slice (some ⟨g, 0, none⟩) xs.length c))) := by
        have hsz := HC1.out.2.size
        have hsb := sr.out.b.size
        have hBD := HA0.out.2.2
        have hg1 : w.grownBy W (some B) := below_grown HA0.out.2.1 _
        have hg2 : W.grownBy wr (some B) := HC1.out.2.trans (below_grown sr.out.b _)
        have hgs := grown_set wr D 0 (.slice (some ⟨g, 0, none⟩) xs.length c)
        refine ⟨g, c, xs, rfl, (sr.out.fo.kept hgs (own_offR sr.out.fo.row (by omega)) (fun z hz => own_offR (sr.out.fo.trees z hz) (by omega))).base (by omega), sr.out.sm, by omega, by omega, (HC1.out.1.below sr.out.b).kept hgs (fun q e => by injection e with e; omega), ?_⟩
        have hg3 := hg1.trans hg2
        exact ⟨hgs.os.trans hg3.os, hgs.tape.trans hg3.tape, hgs.output.trans hg3.output, Nat.le_trans hg3.size hgs.size, fun q hq hne => (hgs.block q (by have := hg3.size; omega) (by intro e; injection e with e; omega)).trans (hg3.block q hq hne)⟩
      obtain ⟨Y, hY⟩ : ∃ Y, wr.setCell ⟨D, 0, none⟩ (.slice (some ⟨g, 0, none⟩) xs.length c) = Y := ⟨_, rfl⟩
      rw [hY] at HO k0
      generalize xs.length = nx at HO k0 hY ⊢
      clear sr hDw HC1 HA0
      go_wp2
      refine bodyPost_ret (v := .agg #[.slice (some ⟨g, 0, none⟩) nx c]) (by simp [results, Tryz.results33, go_sem, k0]) rfl ?_
      exact HO.out

end Go.Proofs.YtogobeegibngiaaGreatDoor
