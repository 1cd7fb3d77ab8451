/-
  Parts of one proof, one behind the other: WrC, WrD.
-/
import Derived.Test.YtnpbckgaeaameaaGreatP29
import Derived.Test.YtnpbckgaeaameaaGreatP17

/-! Contracts of chapter 13's landed code: ifInto. -/
namespace Go.Proofs.YtnpbckgaeaameaaGreat
open Go.RowKit

theorem Wr13.put {B w X : World} {g base n c : Nat} {a : Option Addr} {tv nw v0 : Value} {zs : List In13} (h : Wr13 B w X g base tv nw v0 (.slice a n c) zs) (hn : zs.length = n) (j : Nat) (hj : j < n) (k : Int) :
    ∃ gr, a = some ⟨gr, 0, none⟩ ∧ (∃ u, X.cell? ⟨gr, j * 5 + 2, none⟩ = some u) ∧ X.frozen? ⟨gr, j * 5 + 2, none⟩ = false ∧ Wr13 B w (X.setCell ⟨gr, j * 5 + 2, none⟩ (.int .i64 k)) g base tv nw v0 (.slice a n c) (setA zs j k) := by
  have hrow := h.row
  rw [hn] at hrow
  obtain ⟨gr, cp, e⟩ := own_some hrow (by omega)
  injection e with e1 _ e2
  subst e1 e2
  have hlen : (insV zs).length = n * 5 := by rw [insV_len, hn]
  have hgr := hrow.lt gr rfl
  refine ⟨gr, rfl, ?_, hrow.frozenAt (j * 5 + 2), h.trans ?_⟩
  · rw [hrow.cellAt (j * 5 + 2) (by omega), List.getElem?_eq_getElem (by omega)]
    exact ⟨_, rfl⟩
  · have hs := hrow.stored (j * 5 + 2) (.int .i64 k)
    rw [insV_setA] at hs
    have hgb := h.gb
    have hBg := h.Bg
    refine ⟨by rw [setA_len, hn]; exact hs.1, ?_, h.bB.grown hs.2 h.bB.size (fun q e => by injection e with e; omega), hs.2.size, fun q hq _ hne => hs.2.block q hq (fun e => hne e.symm), Or.inl rfl, Nat.le_trans h.lh h.sz, h.gb, h.Bg⟩
    rw [hs.2.block g h.lt (by intro e; injection e with e; omega)]
    exact h.blk

set_option maxHeartbeats 8000000 in
set_option maxRecDepth 100000 in
theorem implIf (B : World) (ta : Option Addr) (tc : Nat) (t : List Nd) (gN g base d : Nat) (htb : treeB t = true) (ih : IntW B ta tc t gN g base d) (w : World) (r : Int) (v : Value) (xs : List In13) (hw : Wr13 B w w g base (.slice ta t.length tc) (.slice (some ⟨gN, 0, none⟩) t.length t.length) v v xs)
    (gp po pc p0 p1 p2 : Nat) (c0 : w.cell? ⟨gp, po, none⟩ = some (.int .i64 (p0 : Int))) (c1 : w.cell? ⟨gp, po + 1, none⟩ = some (.int .i64 (p1 : Int))) (c2 : w.cell? ⟨gp, po + 2, none⟩ = some (.int .i64 (p2 : Int))) (hgp : gp ≠ g) (hgv : v.ownBlock ≠ some gp)
    (he0 : 0 ≤ endV t (p0 : Int)) (he1 : 0 ≤ endV t (p1 : Int)) (he2 : 0 ≤ endV t (p2 : Int)) (hd0 : t.length ≤ p0 + d) (hd1 : t.length ≤ p1 + d) (hd2 : t.length ≤ p2 + d) (hl0 : p0 < t.length) (hl1 : p1 < t.length) (hl2 : p2 < t.length) (hr0 : 0 ≤ r) (hr1 : r + 3 * ((d + 1 : Nat) : Int) ≤ 1000) (hx : xs.length + 400 * (d + 1) ≤ 100000)
    (res : List In13) (hres : ∀ x y z : List In13, into13 d t (p0 : Int) r (xs.length : Int) = x → into13 d t (p1 : Int) r ((xs.length : Int) + x.length + 1) = y → into13 d t (p2 : Int) r ((xs.length : Int) + x.length + 1 + y.length + 1) = z → res = x ++ (7, r, (xs.length : Int) + x.length + 1 + y.length + 1, 0, []) :: (y ++ (8, 0, (xs.length : Int) + x.length + 1 + y.length + 1 + z.length, 0, []) :: z)) :
    Calls Tryz.prog 44 #[.pointer (some ⟨g, 0, none⟩), .int .i64 r, .slice (some ⟨gp, po, none⟩) 3 pc] w fun e w' => e = .returned (.tuple #[]) ∧ ∃ u, Wr13 B w w' g base (.slice ta t.length tc) (.slice (some ⟨gN, 0, none⟩) t.length t.length) v u (xs ++ res) := by
  have hxl : (into13 d t (p0 : Int) r (xs.length : Int)).length ≤ 119 := into_len htb hl0 (by omega) r _ hr0
  obtain ⟨x, hxe⟩ : ∃ x, into13 d t (p0 : Int) r (xs.length : Int) = x := ⟨_, rfl⟩
  rw [hxe] at hxl
  have hyl : (into13 d t (p1 : Int) r ((xs.length : Int) + x.length + 1)).length ≤ 119 := into_len htb hl1 (by omega) r _ hr0
  obtain ⟨y, hye⟩ : ∃ y, into13 d t (p1 : Int) r ((xs.length : Int) + x.length + 1) = y := ⟨_, rfl⟩
  rw [hye] at hyl
  have hzl : (into13 d t (p2 : Int) r ((xs.length : Int) + x.length + 1 + y.length + 1)).length ≤ 119 := into_len htb hl2 (by omega) r _ hr0
  obtain ⟨z, hze⟩ : ∃ z, into13 d t (p2 : Int) r ((xs.length : Int) + x.length + 1 + y.length + 1) = z := ⟨_, rfl⟩
  rw [hze] at hzl
  have hr := hres x y z hxe hye hze
  rw [hr]
  obtain ⟨n1, hn1⟩ : ∃ n1, (xs ++ x).length = n1 := ⟨_, rfl⟩
  obtain ⟨n2, hn2⟩ : ∃ n2, n2 = n1 + 1 := ⟨_, rfl⟩
  obtain ⟨n3, hn3⟩ : ∃ n3, (xs ++ x ++ [((7, r, 0, 0, []) : In13)] ++ y).length = n3 := ⟨_, rfl⟩
  obtain ⟨n4, hn4⟩ : ∃ n4, n4 = n3 + 1 := ⟨_, rfl⟩
  obtain ⟨n6, hn6⟩ : ∃ n6, (setA (xs ++ x ++ [((7, r, 0, 0, []) : In13)] ++ y ++ [((8, 0, 0, 0, []) : In13)]) n1 (n4 : Int) ++ z).length = n6 := ⟨_, rfl⟩
  have hz1 : n1 = xs.length + x.length := by rw [← hn1, List.length_append]
  have hz3 : n3 = xs.length + x.length + 1 + y.length := by rw [← hn3]; simp; omega
  have hz6 : n6 = xs.length + x.length + 1 + y.length + 1 + z.length := by rw [← hn6, List.length_append, setA_len]; simp; omega
  have HA : Hid (setA (setA (xs ++ x ++ [((7, r, 0, 0, []) : In13)] ++ y ++ [((8, 0, 0, 0, []) : In13)]) n1 (n4 : Int) ++ z) n3 (n6 : Int) = xs ++ (x ++ (7, r, (xs.length : Int) + x.length + 1 + y.length + 1, 0, []) :: (y ++ (8, 0, (xs.length : Int) + x.length + 1 + y.length + 1 + z.length, 0, []) :: z))) := by
    have e1 : (n4 : Int) = (xs.length : Int) + x.length + 1 + y.length + 1 := by omega
    have e2 : (n6 : Int) = (xs.length : Int) + x.length + 1 + y.length + 1 + z.length := by omega
    have h := if_list xs x y z r (n4 : Int) (n6 : Int) n1 n3 hn1 hn3
    rw [e1, e2] at h
    rw [e1, e2]
    exact h
  have HI : Hid (∀ X q u zs, Wr13 B X X g base (.slice ta t.length tc) (.slice (some ⟨gN, 0, none⟩) t.length t.length) u u zs → (q = p0 ∨ q = p1 ∨ q = p2) → zs.length ≤ xs.length + 390 → Calls Tryz.prog 22 #[.pointer (some ⟨g, 0, none⟩), .int .i64 r, .int .i64 (q : Int)] X fun e w' => e = .returned (.tuple #[]) ∧ ∃ u2, Wr13 B X w' g base (.slice ta t.length tc) (.slice (some ⟨gN, 0, none⟩) t.length t.length) u u2 (zs ++ into13 d t (q : Int) r (zs.length : Int))) := fun X q u zs h1 h2 h3 => by
    rcases h2 with rfl | rfl | rfl
    · exact ih X _ _ u zs h1 (by omega) (by omega) (by omega) (by omega) (by omega)
    · exact ih X _ _ u zs h1 (by omega) (by omega) (by omega) (by omega) (by omega)
    · exact ih X _ _ u zs h1 (by omega) (by omega) (by omega) (by omega) (by omega)
  have HX : Hid (into13 d t (p0 : Int) r (xs.length : Int) = x ∧ into13 d t (p1 : Int) r (n2 : Int) = y ∧ into13 d t (p2 : Int) r (n4 : Int) = z) := ⟨hxe, by rw [show (n2 : Int) = (xs.length : Int) + x.length + 1 by omega]; exact hye, by rw [show (n4 : Int) = (xs.length : Int) + x.length + 1 + y.length + 1 by omega]; exact hze⟩
  have HL : Hid ((xs ++ x).length = n1 ∧ (xs ++ x ++ [((7, r, 0, 0, []) : In13)]).length = n2 ∧ (xs ++ x ++ [((7, r, 0, 0, []) : In13)] ++ y).length = n3 ∧ (xs ++ x ++ [((7, r, 0, 0, []) : In13)] ++ y ++ [((8, 0, 0, 0, []) : In13)]).length = n4 ∧ (setA (xs ++ x ++ [((7, r, 0, 0, []) : In13)] ++ y ++ [((8, 0, 0, 0, []) : In13)]) n1 (n4 : Int)).length = n4 ∧ (setA (xs ++ x ++ [((7, r, 0, 0, []) : In13)] ++ y ++ [((8, 0, 0, 0, []) : In13)]) n1 (n4 : Int) ++ z).length = n6) := ⟨hn1, by rw [List.length_append, hn1, hn2]; rfl, hn3, by rw [List.length_append, hn3, hn4]; rfl, by rw [setA_len, List.length_append, hn3, hn4]; rfl, hn6⟩
  have HN : Hid (n1 ≤ xs.length + 390 ∧ n2 ≤ xs.length + 390 ∧ n3 ≤ xs.length + 390 ∧ n4 ≤ xs.length + 390 ∧ n1 < n4 ∧ n3 < n6 ∧ xs.length ≤ 100000) := ⟨by omega, by omega, by omega, by omega, by omega, by omega, by omega⟩
  have h14 : (n1 : Int) < (n4 : Int) := by omega
  have h36 : (n3 : Int) < (n6 : Int) := by omega
  have hn1b : n1 ≤ 100500 := by omega
  have hn3b : n3 ≤ 100500 := by omega
  have hn4b : n4 ≤ 100500 := by omega
  have hn6b : n6 ≤ 100500 := by omega
  have hgpl : gp < w.heap.size := World.block_lt_of_cell? w ⟨gp, po, none⟩ c0
  have st : Hid (Ct13 B w w w g base (.slice ta t.length tc) (.slice (some ⟨gN, 0, none⟩) t.length t.length) v v xs [gp]) := ⟨hw, fun b hb => by
    simp only [List.mem_cons, List.not_mem_nil, or_false] at hb
    subst hb
    exact ⟨rfl, hgpl, hgp, hgv⟩⟩
  have HC0 : Hid (w.cell? ⟨gp, po, none⟩ = some (.int .i64 (p0 : Int)) ∧ w.cell? ⟨gp, po + 1, none⟩ = some (.int .i64 (p1 : Int)) ∧ w.cell? ⟨gp, po + 2, none⟩ = some (.int .i64 (p2 : Int))) := ⟨c0, c1, c2⟩
  have hr2 : r ≤ 997 := by omega
  generalize (Value.slice ta t.length tc) = tv at *
  generalize (Value.slice (some ⟨gN, 0, none⟩) t.length t.length) = nw at *
  clear hxe hye hze hr hres ih hgpl hw c1 c2 he0 he1 he2 hd0 hd1 hd2 hl0 hl1 hl2 hx htb hgp hgv hxl hyl hzl hz1 hz3 hz6 hn1 hn2 hn3 hn4 hn6 hr1
  go_enter Tryz.func44, Tryz.ntmps44
  go_wp2_with fail
  refine Calls.mono (HI.out _ p0 _ xs st.out.w.here (Or.inl rfl) (by omega)) ?_
  rintro e W1 ⟨rfl, v1, hw1⟩
  rw [HX.out.1] at hw1
  have s1 : Hid (Ct13 B w w W1 g base tv nw v v1 (xs ++ x) [gp]) := st.out.step hw1
  have HW1 : Hid (Calls Tryz.prog 23 #[.pointer (some ⟨g, 0, none⟩), .agg #[.int .i64 7, .int .i64 r, .int .i64 0, .int .i64 0, .string ⟨#[]⟩]] W1 fun e w' => e = .returned (.int .i64 (n1 : Int)) ∧ ∃ u, Wr13 B W1 w' g base tv nw v1 u (xs ++ x ++ [(7, r, 0, 0, [])])) := by
    have h := implWrite B W1 g base tv nw v1 (xs ++ x) (7, r, 0, 0, []) s1.out.w.here (by rw [HL.out.1]; omega)
    rw [HL.out.1] at h
    exact h
  clear hw1 st c0
  go_wp2_with fail
  refine Calls.mono HW1.out ?_
  rintro e W2 ⟨rfl, v2, hw2⟩
  have s2 : Hid (Ct13 B w w W2 g base tv nw v v2 (xs ++ x ++ [(7, r, 0, 0, [])]) [gp]) := s1.out.step hw2
  have k1 := s2.out.cell (by simp) HC0.out.2.1
  clear hw2 s1 HW1
  go_wp2_with fail
  refine Calls.mono (HI.out _ p1 _ (xs ++ x ++ [(7, r, 0, 0, [])]) s2.out.w.here (Or.inr (Or.inl rfl)) (by rw [HL.out.2.1]; exact HN.out.2.1)) ?_
  rintro e W3 ⟨rfl, v3, hw3⟩
  rw [HL.out.2.1, HX.out.2.1] at hw3
  have s3 : Hid (Ct13 B w w W3 g base tv nw v v3 (xs ++ x ++ [(7, r, 0, 0, [])] ++ y) [gp]) := s2.out.step hw3
  have HW3 : Hid (Calls Tryz.prog 23 #[.pointer (some ⟨g, 0, none⟩), .agg #[.int .i64 8, .int .i64 0, .int .i64 0, .int .i64 0, .string ⟨#[]⟩]] W3 fun e w' => e = .returned (.int .i64 (n3 : Int)) ∧ ∃ u, Wr13 B W3 w' g base tv nw v3 u (xs ++ x ++ [(7, r, 0, 0, [])] ++ y ++ [(8, 0, 0, 0, [])])) := by
    have h := implWrite B W3 g base tv nw v3 (xs ++ x ++ [(7, r, 0, 0, [])] ++ y) (8, 0, 0, 0, []) s3.out.w.here (by rw [HL.out.2.2.1]; omega)
    rw [HL.out.2.2.1] at h
    exact h
  clear hw3 s2 k1
  go_wp2_with fail
  refine Calls.mono HW3.out ?_
  rintro e W4 ⟨rfl, v4, hw4⟩
  have s4 : Hid (Ct13 B w w W4.drew g base tv nw v v4 (xs ++ x ++ [(7, r, 0, 0, [])] ++ y ++ [(8, 0, 0, 0, [])]) [gp]) := (s3.out.step hw4).below ⟨rfl, rfl, rfl, Nat.le_refl _, fun _ _ => rfl⟩
  clear hw4 s3 HW3
  obtain ⟨a4, cc4, hv4⟩ := s4.out.w.val
  rw [HL.out.2.2.2.1] at hv4
  subst hv4
  obtain ⟨gr4, rfl, ⟨u4, y4⟩, yf4, hp4⟩ := s4.out.w.here.put HL.out.2.2.2.1 n1 (by have := HN.out; omega) (n4 : Int)
  have s5 : Hid (Ct13 B w w (W4.drew.setCell ⟨gr4, n1 * 5 + 2, none⟩ (.int .i64 (n4 : Int))) g base tv nw v (.slice (some ⟨gr4, 0, none⟩) n4 cc4) (setA (xs ++ x ++ [((7, r, 0, 0, []) : In13)] ++ y ++ [((8, 0, 0, 0, []) : In13)]) n1 (n4 : Int)) [gp]) := s4.out.step hp4
  have HSv4 : Hid (W4.drew.cell? ⟨g, 2, none⟩ = some (.slice (some ⟨gr4, 0, none⟩) n4 cc4)) := s4.out.w.c2
  have HBe4 : Hid (_) := implBehind g n4 (some ⟨gr4, 0, none⟩) cc4 W4.drew HSv4.out (by omega)
  obtain ⟨X5, hX5⟩ : ∃ X5, W4.drew.setCell ⟨gr4, n1 * 5 + 2, none⟩ (.int .i64 (n4 : Int)) = X5 := ⟨_, rfl⟩
  rw [hX5] at s5
  clear hp4 s4
  go_wp2
  refine Till.region (S := fun X => X.cell? ⟨g, 2, none⟩ = some (.slice (some ⟨gr4, 0, none⟩) n4 cc4)) (E := [9]) (by kernel_rfl) HSv4.out (fun hHeld hSh => ?_)
  refine Till.take (i := 0) (o := ⟨some 27, _, _, _, _, _⟩) (v := ?va0) (d := 30) rfl (by kernel_rfl) (by kernel_rfl) (by kernel_rfl) (by kernel_rfl) (fun _ _ _ h => h) (Or.inl ⟨by rfl, ?hya0⟩) (by assumption) hSh (fun hSh2 => ?resta0)
  case hya0 => (intro wq hSw; have q2 := hSw; clear hSw; first | (go_simp; done) | (go_simp; with_reducible rfl))
  clear hSh; rename Shut11 _ _ _ => hSh
  simp only [Act.put, List.setIfInBounds_toArray, List.set_cons_zero, List.set_cons_succ]
  refine Till.take (i := 1) (o := ⟨some 28, _, _, _, _, _⟩) (v := ?va1) (d := 30) rfl (by kernel_rfl) (by kernel_rfl) (by kernel_rfl) (by kernel_rfl) (fun _ _ _ h => h) (Or.inl ⟨by rfl, ?hya1⟩) (by assumption) hSh (fun hSh2 => ?resta1)
  case hya1 => (intro wq hSw; have q2 := hSw; clear hSw; first | (go_simp; done) | (go_simp; with_reducible rfl))
  clear hSh; rename Shut11 _ _ _ => hSh
  simp only [Act.put, List.setIfInBounds_toArray, List.set_cons_zero, List.set_cons_succ]
  refine Till.take (i := 2) (o := ⟨some 29, _, _, _, _, _⟩) (v := ?va2) (d := 30) rfl (by kernel_rfl) (by kernel_rfl) (by kernel_rfl) (by kernel_rfl) (fun _ _ _ h => h) (Or.inl ⟨by rfl, ?hya2⟩) (by assumption) hSh (fun hSh2 => ?resta2)
  case hya2 => (intro wq hSw; have q2 := hSw; clear hSw; first | (go_simp; done) | (go_simp; with_reducible rfl))
  clear hSh; rename Shut11 _ _ _ => hSh
  simp only [Act.put, List.setIfInBounds_toArray, List.set_cons_zero, List.set_cons_succ]
  refine Till.take (i := 3) (o := ⟨some 30, _, _, _, _, _⟩) (v := ?va3) (d := 30) rfl (by kernel_rfl) (by kernel_rfl) (by kernel_rfl) (by kernel_rfl) (fun _ _ _ h => h) (Or.inl ⟨by rfl, ?hya3⟩) (by assumption) hSh (fun hSh2 => ?resta3)
  case hya3 => (intro wq hSw; have q2 := hSw; clear hSw; first | (go_simp; done) | (go_simp; with_reducible rfl))
  clear hSh; rename Shut11 _ _ _ => hSh
  simp only [Act.put, List.setIfInBounds_toArray, List.set_cons_zero, List.set_cons_succ]
  refine Till.take (i := 4) (o := ⟨some 31, _, _, _, _, _⟩) (v := ?va4) (d := 30) rfl (by kernel_rfl) (by kernel_rfl) (by kernel_rfl) (by kernel_rfl) (fun _ _ _ h => h) (Or.inl ⟨by rfl, ?hya4⟩) (by assumption) hSh (fun hSh2 => ?resta4)
  case hya4 => (intro wq hSw; have q2 := hSw; clear hSw; first | (go_simp; done) | (go_simp; with_reducible rfl))
  clear hSh; rename Shut11 _ _ _ => hSh
  simp only [Act.put, List.setIfInBounds_toArray, List.set_cons_zero, List.set_cons_succ]
  refine Till.take (i := 5) (o := ⟨some 32, _, _, _, _, _⟩) (v := ?va5) (d := 30) rfl (by kernel_rfl) (by kernel_rfl) (by kernel_rfl) (by kernel_rfl) (fun _ _ _ h => h) (Or.inl ⟨by rfl, ?hya5⟩) (by assumption) hSh (fun hSh2 => ?resta5)
  case hya5 => (intro wq hSw; have q2 := hSw; clear hSw; first | (go_simp; done) | (go_simp; with_reducible rfl))
  clear hSh; rename Shut11 _ _ _ => hSh
  simp only [Act.put, List.setIfInBounds_toArray, List.set_cons_zero, List.set_cons_succ]
  refine Till.one (i := 6) (by kernel_rfl) rfl hSh (fun K hK => ?_)
  clear hSh
  go_simp
  refine Calls.mono HBe4.out ?_
  rintro e w3 ⟨rfl, rfl⟩
  dsimp only
  refine hK.out _ _ (by exact hHeld) (fun hHeld hSh => ?_)
  clear hK K
  (try simp only [Act.put, List.setIfInBounds_toArray, List.set_cons_zero, List.set_cons_succ])
  refine Till.take (i := 7) (o := ⟨some 34, _, _, _, _, _⟩) (v := ?va7) (d := 30) rfl (by kernel_rfl) (by kernel_rfl) (by kernel_rfl) (by kernel_rfl) (fun _ _ _ h => h) (Or.inl ⟨by rfl, ?hya7⟩) (by assumption) hSh (fun hSh2 => ?resta7)
  case hya7 => (intro wq hSw; have q2 := hSw; clear hSw; first | (go_simp; done) | (go_simp; with_reducible rfl))
  clear hSh; rename Shut11 _ _ _ => hSh
  simp only [Act.put, List.setIfInBounds_toArray, List.set_cons_zero, List.set_cons_succ]
  refine Till.take (i := 8) (o := ⟨some 35, _, _, _, _, _⟩) (v := ?va8) (d := 30) rfl (by kernel_rfl) (by kernel_rfl) (by kernel_rfl) (by kernel_rfl) (fun _ _ _ h => h) (Or.inl ⟨by rfl, ?hya8⟩) (by assumption) hSh (fun hSh2 => ?resta8)
  case hya8 => (intro wq hSw; have q2 := hSw; clear hSw; first | (go_simp; done) | (go_simp; with_reducible rfl))
  clear hSh; rename Shut11 _ _ _ => hSh
  simp only [Act.put, List.setIfInBounds_toArray, List.set_cons_zero, List.set_cons_succ]
  refine Till.last (i := 9) (by kernel_rfl) rfl (by decide) (fun K hK => ?_)
  go_simp
  refine hK.out _ _ ?_
  clear hK K
  refine Till.done (by kernel_rfl) ?_ _
  clear hHeld hSh HSv4 HBe4 y4 yf4 hX5
  have k2 := s5.out.cell (by simp) HC0.out.2.2
  go_wp2_with fail
  refine Calls.mono (HI.out _ p2 _ (setA (xs ++ x ++ [((7, r, 0, 0, []) : In13)] ++ y ++ [((8, 0, 0, 0, []) : In13)]) n1 (n4 : Int)) s5.out.w.here (Or.inr (Or.inr rfl)) (by rw [HL.out.2.2.2.2.1]; exact HN.out.2.2.2.1)) ?_
  rintro e W6 ⟨rfl, v6, hw6⟩
  rw [HL.out.2.2.2.2.1, HX.out.2.2] at hw6
  have s6 : Hid (Ct13 B w w W6.drew g base tv nw v v6 (setA (xs ++ x ++ [((7, r, 0, 0, []) : In13)] ++ y ++ [((8, 0, 0, 0, []) : In13)]) n1 (n4 : Int) ++ z) [gp]) := (s5.out.step hw6).below ⟨rfl, rfl, rfl, Nat.le_refl _, fun _ _ => rfl⟩
  clear hw6 s5 k2
  obtain ⟨a6, cc6, hv6⟩ := s6.out.w.val
  rw [HL.out.2.2.2.2.2] at hv6
  subst hv6
  obtain ⟨gr6, rfl, ⟨u6, y6⟩, yf6, hp6⟩ := s6.out.w.here.put HL.out.2.2.2.2.2 n3 (by have := HN.out; omega) (n6 : Int)
  have s7 : Hid (Ct13 B w w (W6.drew.setCell ⟨gr6, n3 * 5 + 2, none⟩ (.int .i64 (n6 : Int))) g base tv nw v (.slice (some ⟨gr6, 0, none⟩) n6 cc6) (setA (setA (xs ++ x ++ [((7, r, 0, 0, []) : In13)] ++ y ++ [((8, 0, 0, 0, []) : In13)]) n1 (n4 : Int) ++ z) n3 (n6 : Int)) [gp]) := s6.out.step hp6
  rw [HA.out] at s7
  have HSv6 : Hid (W6.drew.cell? ⟨g, 2, none⟩ = some (.slice (some ⟨gr6, 0, none⟩) n6 cc6)) := s6.out.w.c2
  have HBe6 : Hid (_) := implBehind g n6 (some ⟨gr6, 0, none⟩) cc6 W6.drew HSv6.out (by omega)
  obtain ⟨X7, hX7⟩ : ∃ X7, W6.drew.setCell ⟨gr6, n3 * 5 + 2, none⟩ (.int .i64 (n6 : Int)) = X7 := ⟨_, rfl⟩
  rw [hX7] at s7
  clear hp6 s6
  go_wp2
  refine Till.region (S := fun X => X.cell? ⟨g, 2, none⟩ = some (.slice (some ⟨gr6, 0, none⟩) n6 cc6)) (E := [9]) (by kernel_rfl) HSv6.out (fun hHeld hSh => ?_)
  refine Till.take (i := 0) (o := ⟨some 42, _, _, _, _, _⟩) (v := ?vb0) (d := 30) rfl (by kernel_rfl) (by kernel_rfl) (by kernel_rfl) (by kernel_rfl) (fun _ _ _ h => h) (Or.inl ⟨by rfl, ?hyb0⟩) (by assumption) hSh (fun hSh2 => ?restb0)
  case hyb0 => (intro wq hSw; have q2 := hSw; clear hSw; first | (go_simp; done) | (go_simp; with_reducible rfl))
  clear hSh; rename Shut11 _ _ _ => hSh
  simp only [Act.put, List.setIfInBounds_toArray, List.set_cons_zero, List.set_cons_succ]
  refine Till.take (i := 1) (o := ⟨some 43, _, _, _, _, _⟩) (v := ?vb1) (d := 30) rfl (by kernel_rfl) (by kernel_rfl) (by kernel_rfl) (by kernel_rfl) (fun _ _ _ h => h) (Or.inl ⟨by rfl, ?hyb1⟩) (by assumption) hSh (fun hSh2 => ?restb1)
  case hyb1 => (intro wq hSw; have q2 := hSw; clear hSw; first | (go_simp; done) | (go_simp; with_reducible rfl))
  clear hSh; rename Shut11 _ _ _ => hSh
  simp only [Act.put, List.setIfInBounds_toArray, List.set_cons_zero, List.set_cons_succ]
  refine Till.take (i := 2) (o := ⟨some 44, _, _, _, _, _⟩) (v := ?vb2) (d := 30) rfl (by kernel_rfl) (by kernel_rfl) (by kernel_rfl) (by kernel_rfl) (fun _ _ _ h => h) (Or.inl ⟨by rfl, ?hyb2⟩) (by assumption) hSh (fun hSh2 => ?restb2)
  case hyb2 => (intro wq hSw; have q2 := hSw; clear hSw; first | (go_simp; done) | (go_simp; with_reducible rfl))
  clear hSh; rename Shut11 _ _ _ => hSh
  simp only [Act.put, List.setIfInBounds_toArray, List.set_cons_zero, List.set_cons_succ]
  refine Till.take (i := 3) (o := ⟨some 45, _, _, _, _, _⟩) (v := ?vb3) (d := 30) rfl (by kernel_rfl) (by kernel_rfl) (by kernel_rfl) (by kernel_rfl) (fun _ _ _ h => h) (Or.inl ⟨by rfl, ?hyb3⟩) (by assumption) hSh (fun hSh2 => ?restb3)
  case hyb3 => (intro wq hSw; have q2 := hSw; clear hSw; first | (go_simp; done) | (go_simp; with_reducible rfl))
  clear hSh; rename Shut11 _ _ _ => hSh
  simp only [Act.put, List.setIfInBounds_toArray, List.set_cons_zero, List.set_cons_succ]
  refine Till.take (i := 4) (o := ⟨some 46, _, _, _, _, _⟩) (v := ?vb4) (d := 30) rfl (by kernel_rfl) (by kernel_rfl) (by kernel_rfl) (by kernel_rfl) (fun _ _ _ h => h) (Or.inl ⟨by rfl, ?hyb4⟩) (by assumption) hSh (fun hSh2 => ?restb4)
  case hyb4 => (intro wq hSw; have q2 := hSw; clear hSw; first | (go_simp; done) | (go_simp; with_reducible rfl))
  clear hSh; rename Shut11 _ _ _ => hSh
  simp only [Act.put, List.setIfInBounds_toArray, List.set_cons_zero, List.set_cons_succ]
  refine Till.take (i := 5) (o := ⟨some 47, _, _, _, _, _⟩) (v := ?vb5) (d := 30) rfl (by kernel_rfl) (by kernel_rfl) (by kernel_rfl) (by kernel_rfl) (fun _ _ _ h => h) (Or.inl ⟨by rfl, ?hyb5⟩) (by assumption) hSh (fun hSh2 => ?restb5)
  case hyb5 => (intro wq hSw; have q2 := hSw; clear hSw; first | (go_simp; done) | (go_simp; with_reducible rfl))
  clear hSh; rename Shut11 _ _ _ => hSh
  simp only [Act.put, List.setIfInBounds_toArray, List.set_cons_zero, List.set_cons_succ]
  refine Till.one (i := 6) (by kernel_rfl) rfl hSh (fun K hK => ?_)
  clear hSh
  go_simp
  refine Calls.mono HBe6.out ?_
  rintro e w3 ⟨rfl, rfl⟩
  dsimp only
  refine hK.out _ _ (by exact hHeld) (fun hHeld hSh => ?_)
  clear hK K
  (try simp only [Act.put, List.setIfInBounds_toArray, List.set_cons_zero, List.set_cons_succ])
  refine Till.take (i := 7) (o := ⟨some 49, _, _, _, _, _⟩) (v := ?vb7) (d := 30) rfl (by kernel_rfl) (by kernel_rfl) (by kernel_rfl) (by kernel_rfl) (fun _ _ _ h => h) (Or.inl ⟨by rfl, ?hyb7⟩) (by assumption) hSh (fun hSh2 => ?restb7)
  case hyb7 => (intro wq hSw; have q2 := hSw; clear hSw; first | (go_simp; done) | (go_simp; with_reducible rfl))
  clear hSh; rename Shut11 _ _ _ => hSh
  simp only [Act.put, List.setIfInBounds_toArray, List.set_cons_zero, List.set_cons_succ]
  refine Till.take (i := 8) (o := ⟨some 50, _, _, _, _, _⟩) (v := ?vb8) (d := 30) rfl (by kernel_rfl) (by kernel_rfl) (by kernel_rfl) (by kernel_rfl) (fun _ _ _ h => h) (Or.inl ⟨by rfl, ?hyb8⟩) (by assumption) hSh (fun hSh2 => ?restb8)
  case hyb8 => (intro wq hSw; have q2 := hSw; clear hSw; first | (go_simp; done) | (go_simp; with_reducible rfl))
  clear hSh; rename Shut11 _ _ _ => hSh
  simp only [Act.put, List.setIfInBounds_toArray, List.set_cons_zero, List.set_cons_succ]
  refine Till.last (i := 9) (by kernel_rfl) rfl (by decide) (fun K hK => ?_)
  go_simp
  refine hK.out _ _ ?_
  clear hK K
  refine Till.done (by kernel_rfl) ?_ _
  clear hHeld hSh HSv6 HBe6 y6 yf6 hX7
  go_wp2
  go_end0
  exact ⟨rfl, _, s7.out.w⟩

end Go.Proofs.YtnpbckgaeaameaaGreat

/-! Contracts of chapter 13's landed code: callInto. -/
namespace Go.Proofs.YtnpbckgaeaameaaGreat
open Go.RowKit

set_option maxHeartbeats 8000000 in
set_option maxRecDepth 100000 in
theorem implCall13 (B : World) (ta : Option Addr) (tc : Nat) (t : List Nd) (gN g base d : Nat) (htb : treeB t = true) (ih : IntW B ta tc t gN g base d) (w : World) (r : Int) (v : Value) (xs : List In13) (hw : Wr13 B w w g base (.slice ta t.length tc) (.slice (some ⟨gN, 0, none⟩) t.length t.length) v v xs)
    (kk nA : Int) (np nf : List UInt8) (hs1 : np.length ≤ 1048576) (hs2 : nf.length ≤ 1048576) (pa : Option Addr) (gp po m pc : Nat) (ps : List Int) (hpl : ps.length = m) (hm3 : m ≤ 3) (hpa : 0 < m → pa = some ⟨gp, po, none⟩) (hcs : ∀ j, j < m → w.cell? ⟨gp, po + j, none⟩ = some (.int .i64 (ps.getD j 0))) (hgl : gp < w.heap.size) (hgp : gp ≠ g) (hgv : v.ownBlock ≠ some gp)
    (hpp : ∀ i, i < m → ∃ p : Nat, ps.getD i 0 = (p : Int) ∧ 0 ≤ endV t (p : Int) ∧ p < t.length ∧ t.length ≤ p + d) (hr0 : 0 ≤ r) (hr1 : r + 3 * ((d + 1 : Nat) : Int) ≤ 1000) (hx : xs.length + 400 * (d + 1) ≤ 100000) :
    Calls Tryz.prog 45 #[.pointer (some ⟨g, 0, none⟩), .int .i64 r, .agg #[.int .i64 kk, .int .i64 nA, .string ⟨np.toArray⟩, .string ⟨nf.toArray⟩], .slice pa m pc] w fun e w' => e = .returned (.tuple #[]) ∧ ∃ u, Wr13 B w w' g base (.slice ta t.length tc) (.slice (some ⟨gN, 0, none⟩) t.length t.length) v u (xs ++ (args13 (into13 d t) ps r (xs.length : Int) ++ [(9, r, nA, 0, np ++ 46 :: nf)])) := by
  obtain ⟨⟨m0, m1, m2, m3⟩, hbg⟩ := node_new12 w (.int .i64 kk) (.int .i64 nA) (.string ⟨np.toArray⟩) (.string ⟨nf.toArray⟩) 70
  obtain ⟨W0, hW0⟩ : ∃ W0, w.alloc (.cells #[.int .i64 kk, .int .i64 nA, .string ⟨np.toArray⟩, .string ⟨nf.toArray⟩] 70) = W0 := ⟨_, rfl⟩
  obtain ⟨N, hN⟩ : ∃ N, w.heap.size = N := ⟨_, rfl⟩
  rw [hW0] at m0 m1 m2 m3 hbg
  rw [hN] at m0 m1 m2 m3
  have hNl : N < W0.heap.size := World.block_lt_of_cell? W0 ⟨N, 0, none⟩ m0
  have st : Hid (Ct13 B w W0 W0 g base (.slice ta t.length tc) (.slice (some ⟨gN, 0, none⟩) t.length t.length) v v xs [gp, N]) := ⟨hw.below hbg, fun b hb => by
    simp only [List.mem_cons, List.not_mem_nil, or_false] at hb
    rcases hb with rfl | rfl
    · exact ⟨rfl, Nat.lt_of_lt_of_le hgl hbg.size, hgp, hgv⟩
    · exact ⟨rfl, hNl, fun e => by have := hw.lt; omega, fun e => by have := (hw.row.lt _ e).2; omega⟩⟩
  have HC0 : Hid (∀ j, j < m → W0.cell? ⟨gp, po + j, none⟩ = some (.int .i64 (ps.getD j 0))) := fun j hj => (hbg.cell (p := ⟨gp, po + j, none⟩) hgl).trans (hcs j hj)
  have HCN : Hid (W0.cell? ⟨N, 1, none⟩ = some (.int .i64 nA) ∧ W0.cell? ⟨N, 2, none⟩ = some (.string ⟨np.toArray⟩) ∧ W0.cell? ⟨N, 3, none⟩ = some (.string ⟨nf.toArray⟩)) := ⟨m1, m2, m3⟩
  have HI : Hid (∀ X (q : Nat) (ρ : Int) u zs, Wr13 B X X g base (.slice ta t.length tc) (.slice (some ⟨gN, 0, none⟩) t.length t.length) u u zs → 0 ≤ endV t (q : Int) → t.length ≤ q + d → 0 ≤ ρ → ρ ≤ r + 2 → zs.length ≤ xs.length + 390 → Calls Tryz.prog 22 #[.pointer (some ⟨g, 0, none⟩), .int .i64 ρ, .int .i64 (q : Int)] X fun e w' => e = .returned (.tuple #[]) ∧ ∃ u2, Wr13 B X w' g base (.slice ta t.length tc) (.slice (some ⟨gN, 0, none⟩) t.length t.length) u u2 (zs ++ into13 d t (q : Int) ρ (zs.length : Int))) := fun X q ρ u zs h1 h2 h3 h4 h5 h6 => ih X q ρ u zs h1 h2 h3 h4 (by omega) (by omega)
  have HIl : Hid (∀ (p : Nat) (q c : Int), p < t.length → t.length ≤ p + d → 0 ≤ q → (into13 d t (p : Int) q c).length ≤ 119) := fun p q c h1 h2 h3 => into_len htb h1 h2 q c h3
  have HPp : Hid (∀ i, i < m → ∃ p : Nat, ps.getD i 0 = (p : Int) ∧ 0 ≤ endV t (p : Int) ∧ p < t.length ∧ t.length ≤ p + d) := hpp
  have HPn : Hid (ps.length = m) := hpl
  have HLa : Hid (0 < m → pa = some ⟨gp, po, none⟩) := hpa
  have hadd1 : ∀ W : World, (Op.stringOp .add ⟨np.toArray⟩ ⟨#[46]⟩).run Tryz.prog W = .ok (.string ⟨(np ++ [46]).toArray⟩) W := fun W => run_string_add_lists (P := Tryz.prog) W np [46] (by omega) (by simp)
  have hadd2 : ∀ W : World, (Op.stringOp .add ⟨(np ++ [46]).toArray⟩ ⟨nf.toArray⟩).run Tryz.prog W = .ok (.string ⟨(np ++ 46 :: nf).toArray⟩) W := fun W => by
    have h := run_string_add_lists (P := Tryz.prog) W (np ++ [46]) nf (by simp; omega) (by omega)
    rw [List.append_assoc] at h
    exact h
  have hr2 : r ≤ 997 := by omega
  have hxb : xs.length ≤ 99600 := by omega
  generalize (Value.slice ta t.length tc) = tv at *
  generalize (Value.slice (some ⟨gN, 0, none⟩) t.length t.length) = nw at *
  clear ih hw htb hpl hpa hcs hgl hgp hgv hpp hr1 hx hNl m0 m1 m2 m3 hbg hs1 hs2
  obtain ⟨nx, hnx⟩ : ∃ nx, xs.length = nx := ⟨_, rfl⟩
  rw [hnx] at HI hxb ⊢
  have HXl : Hid (xs.length = nx) := hnx
  clear hnx
  go_enter Tryz.func45, Tryz.ntmps45
  go_wp2
  go_loopw [12] (fun iv wx => ∃ (i : Nat), iv = .int .i64 (i : Int) ∧ i ≤ m ∧ Hid (∃ u, Ct13 B w W0 wx g base tv nw v u (xs ++ args13 (into13 d t) (ps.take i) r (nx : Int)) [gp, N] ∧ (xs ++ args13 (into13 d t) (ps.take i) r (nx : Int)).length ≤ nx + 119 * i)) (fun iv _ => m - (intOf iv).toNat)
  case atStart => exact ⟨0, rfl, Nat.zero_le _, v, by rw [List.take_zero]; exact (by rw [show xs ++ args13 (into13 d t) [] r (nx : Int) = xs by simp [args13]]; exact ⟨st.out, by rw [HXl.out]; omega⟩)⟩
  case round =>
    obtain ⟨i, rfl, hi, sr0⟩ := hrel
    obtain ⟨u, sr1, hk1⟩ := sr0.out
    have sr : Hid (Ct13 B w W0 wr g base tv nw v u (xs ++ args13 (into13 d t) (ps.take i) r (nx : Int)) [gp, N]) := sr1
    have HK : Hid ((xs ++ args13 (into13 d t) (ps.take i) r (nx : Int)).length ≤ nx + 119 * i) := hk1
    clear st sr0 sr1 hk1
    by_cases hlt : (i : Int) < (m : Int)
    · obtain ⟨p, hpp, hpe, hpt, hpd⟩ := HPp.out i (by omega)
      obtain rfl := HLa.out (by omega)
      have ci := sr.out.cell (by simp) (HC0.out i (by omega))
      rw [hpp] at ci
      have HC : Hid (_) := HI.out wr p (r + (i : Int)) u _ sr.out.w.here hpe hpd (by omega) (by omega) (by have := HK.out; omega)
      have HSn : Hid (xs ++ args13 (into13 d t) (ps.take (i + 1)) r (nx : Int) = xs ++ args13 (into13 d t) (ps.take i) r (nx : Int) ++ into13 d t (p : Int) (r + (i : Int)) (((xs ++ args13 (into13 d t) (ps.take i) r (nx : Int)).length : Nat) : Int)) := by
        have hil : i < ps.length := by rw [HPn.out]; omega
        have hgd : ps.getD i 0 = ps[i] := by simp [List.getD, hil]
        exact (by rw [List.take_succ_eq_append_getElem hil, args_snoc, ← hgd, hpp, List.append_assoc, List.length_take, Nat.min_eq_left (by omega), List.length_append, HXl.out]; rfl : xs ++ args13 (into13 d t) (ps.take (i + 1)) r (nx : Int) = xs ++ args13 (into13 d t) (ps.take i) r (nx : Int) ++ into13 d t (p : Int) (r + (i : Int)) (((xs ++ args13 (into13 d t) (ps.take i) r (nx : Int)).length : Nat) : Int))
      have HK2 : Hid ((xs ++ args13 (into13 d t) (ps.take (i + 1)) r (nx : Int)).length ≤ nx + 119 * (i + 1)) := by
        have h1 := HIl.out p (r + (i : Int)) (((xs ++ args13 (into13 d t) (ps.take i) r (nx : Int)).length : Nat) : Int) hpt hpd (by omega)
        have h2 := HK.out
        exact (by rw [HSn.out, List.length_append]; omega : (xs ++ args13 (into13 d t) (ps.take (i + 1)) r (nx : Int)).length ≤ nx + 119 * (i + 1))
      clear hpp hpe hpt hpd
      go_wp2_with fail
      refine Calls.mono HC.out ?_
      rintro e W1 ⟨rfl, u1, hw1⟩
      rw [← HSn.out] at hw1
      have S1 : Hid (∃ u, Ct13 B w W0 W1 g base tv nw v u (xs ++ args13 (into13 d t) (ps.take (i + 1)) r (nx : Int)) [gp, N] ∧ (xs ++ args13 (into13 d t) (ps.take (i + 1)) r (nx : Int)).length ≤ nx + 119 * (i + 1)) := ⟨u1, sr.out.step hw1, HK2.out⟩
      clear hw1 ci sr HC HSn HK HK2
      go_wp2
      go_roundw
      case rel => exact ⟨i + 1, by go_num, by omega, S1⟩
      case measure => simp [intOf]; omega
    · have HIm : Hid (ps.take i = ps) := by exact (List.take_of_length_le (by rw [HPn.out]; omega) : ps.take i = ps)
      rw [HIm.out] at sr HK
      have y1 := sr.out.cell (by simp) HCN.out.1
      have y2 := sr.out.cell (by simp) HCN.out.2.1
      have y3 := sr.out.cell (by simp) HCN.out.2.2
      have HWr : Hid (_) := implWrite B wr g base _ _ u (xs ++ args13 (into13 d t) ps r (nx : Int)) (9, r, nA, 0, np ++ 46 :: nf) sr.out.w.here (by have := HK.out; omega)
      unfold insVal at HWr
      dsimp only at HWr
      go_wp2_with fail
      refine Calls.mono HWr.out ?_
      rintro e W2 ⟨rfl, u2, hw2⟩
      have HF : Hid (_) := (sr.out.step hw2).w
      clear hw2 sr HWr y1 y2 y3
      go_wp2
      go_end0
      exact ⟨rfl, u2, by have h := HF.out; simpa [List.append_assoc] using h⟩

end Go.Proofs.YtnpbckgaeaameaaGreat
