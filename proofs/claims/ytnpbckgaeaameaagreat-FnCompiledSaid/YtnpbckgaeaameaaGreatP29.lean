/-
  Parts of one proof, one behind the other: WrB.
-/
import Derived.Test.YtnpbckgaeaameaaGreatP28
import Derived.Test.YtnpbckgaeaameaaGreatP27

/-! Contracts of chapter 13's landed code: pairInto. -/
namespace Go.Proofs.YtnpbckgaeaameaaGreat
open Go.RowKit

/-- A writing, and blocks that lie as they lay in W. -/
structure Ct13 (B w W X : World) (g base : Nat) (tv nw v0 v : Value) (xs : List In13) (bs : List Nat) : Prop where
  w : Wr13 B w X g base tv nw v0 v xs
  k : ∀ b ∈ bs, X.heap[b]? = W.heap[b]? ∧ b < X.heap.size ∧ b ≠ g ∧ v.ownBlock ≠ some b
section
variable {B w W X Y : World} {g base : Nat} {tv nw v0 v u : Value} {xs ys : List In13} {bs : List Nat}
theorem Ct13.step (h : Ct13 B w W X g base tv nw v0 v xs bs) (h2 : Wr13 B X Y g base tv nw v u ys) : Ct13 B w W Y g base tv nw v0 u ys bs := by
  refine ⟨h.w.trans h2, fun b hb => ?_⟩
  obtain ⟨k1, k2, k3, k4⟩ := h.k b hb
  obtain ⟨e1, e2⟩ := h2.keep k2 k3 k4
  exact ⟨e1.trans k1, Nat.lt_of_lt_of_le k2 h2.sz, k3, e2⟩
theorem Ct13.below (h : Ct13 B w W X g base tv nw v0 v xs bs) (hb : Below X.heap.size X Y) : Ct13 B w W Y g base tv nw v0 v xs bs := by
  refine ⟨h.w.below hb, fun b hbb => ?_⟩
  obtain ⟨k1, k2, k3, k4⟩ := h.k b hbb
  exact ⟨(hb.block b k2).trans k1, Nat.lt_of_lt_of_le k2 hb.size, k3, k4⟩
theorem Ct13.cell (h : Ct13 B w W X g base tv nw v0 v xs bs) {b o : Nat} {c : Value} (hb : b ∈ bs) (hc : W.cell? ⟨b, o, none⟩ = some c) : X.cell? ⟨b, o, none⟩ = some c := (World.cell?_of_block (a := ⟨b, o, none⟩) (h.k b hb).1).trans hc
end
/-- What is asked of into at a depth. -/
def IntW (B : World) (ta : Option Addr) (tc : Nat) (t : List Nd) (gN g base : Nat) (d : Nat) : Prop := ∀ (w : World) (a : Nat) (r : Int) (v : Value) (xs : List In13),
  Wr13 B w w g base (.slice ta t.length tc) (.slice (some ⟨gN, 0, none⟩) t.length t.length) v v xs → 0 ≤ endV t (a : Int) → t.length ≤ a + d → 0 ≤ r → r + 3 * d ≤ 1000 → xs.length + 400 * d ≤ 100000 →
  Calls Tryz.prog 22 #[.pointer (some ⟨g, 0, none⟩), .int .i64 r, .int .i64 (a : Int)] w fun e w' => e = .returned (.tuple #[]) ∧ ∃ u, Wr13 B w w' g base (.slice ta t.length tc) (.slice (some ⟨gN, 0, none⟩) t.length t.length) v u (xs ++ into13 d t (a : Int) r (xs.length : Int))
/-- The needs of a tree's nodes. -/
def NdIn (B : World) (gN : Nat) (t : List Nd) : Prop := gN < B.heap.size ∧ ∀ q, q < t.length → B.rangeAt gN (q * 60) (nvL (nd12 t [] q))

set_option maxHeartbeats 8000000 in
set_option maxRecDepth 100000 in
theorem implPair0 (B : World) (ta : Option Addr) (tc : Nat) (t : List Nd) (gN g base d : Nat) (hnd : NdIn B gN t) (htb : treeB t = true) (ih : IntW B ta tc t gN g base d) (w : World) (r : Int) (v : Value) (xs : List In13) (hw : Wr13 B w w g base (.slice ta t.length tc) (.slice (some ⟨gN, 0, none⟩) t.length t.length) v v xs)
    (kk nA : Int) (np nf : List UInt8) (gp po pc p0 p1 : Nat) (c0 : w.cell? ⟨gp, po, none⟩ = some (.int .i64 (p0 : Int))) (c1 : w.cell? ⟨gp, po + 1, none⟩ = some (.int .i64 (p1 : Int))) (hgp : gp ≠ g) (hgv : v.ownBlock ≠ some gp)
    (he0 : 0 ≤ endV t (p0 : Int)) (he1 : 0 ≤ endV t (p1 : Int)) (hd0 : t.length ≤ p0 + d) (hd1 : t.length ≤ p1 + d) (hl0 : p0 < t.length) (hl1 : p1 < t.length) (hr0 : 0 ≤ r) (hr1 : r + 3 * ((d + 1 : Nat) : Int) ≤ 1000) (hx : xs.length + 400 * (d + 1) ≤ 100000) (hF : fo13 (nd12 t [] p0) (nd12 t [] p1) = 0) :
    Calls Tryz.prog 46 #[.pointer (some ⟨g, 0, none⟩), .int .i64 r, .agg #[.int .i64 kk, .int .i64 nA, .string ⟨np.toArray⟩, .string ⟨nf.toArray⟩], .slice (some ⟨gp, po, none⟩) 2 pc] w fun e w' => e = .returned (.tuple #[]) ∧ ∃ u, Wr13 B w w' g base (.slice ta t.length tc) (.slice (some ⟨gN, 0, none⟩) t.length t.length) v u (xs ++ (into13 d t (p0 : Int) r (xs.length : Int) ++ into13 d t (p1 : Int) (r + 1) ((xs.length : Int) + (into13 d t (p0 : Int) r (xs.length : Int)).length) ++ [(kk, r, r, r + 1, [])])) := by
  have hxa : (into13 d t (p0 : Int) r (xs.length : Int)).length ≤ 119 := into_len htb (by omega) (by omega) r _ hr0
  obtain ⟨x, hxe⟩ : ∃ x, into13 d t (p0 : Int) r (xs.length : Int) = x := ⟨_, rfl⟩
  rw [hxe] at hxa
  have hya : (into13 d t (p1 : Int) (r + 1) ((xs.length : Int) + x.length)).length ≤ 119 := into_len htb (by omega) (by omega) (r + 1) _ (by omega)
  obtain ⟨y, hye⟩ : ∃ y, into13 d t (p1 : Int) (r + 1) ((xs.length : Int) + x.length) = y := ⟨_, rfl⟩
  rw [hye] at hya
  rw [hxe, hye]
  have r0 := nd_range (os := []) htb hl0
  have r1 := nd_range (os := []) htb hl1
  have HO : Hid (∀ X, Calls Tryz.prog 78 #[.agg (nv (nd12 t [] p0)), .agg (nv (nd12 t [] p1))] X fun e w' => e = .returned (.int .i64 0) ∧ Below X.heap.size X w') := fun X => by
    have h := implFirstOf (nd12 t [] p0) (nd12 t [] p1) X r0.2.1 r1.2.1
    rw [hF] at h
    exact h
  obtain ⟨⟨m0, m1, m2, m3⟩, hbg⟩ := node_new12 w (.int .i64 kk) (.int .i64 nA) (.string ⟨np.toArray⟩) (.string ⟨nf.toArray⟩) 70
  obtain ⟨W0, hW0⟩ : ∃ W0, w.alloc (.cells #[.int .i64 kk, .int .i64 nA, .string ⟨np.toArray⟩, .string ⟨nf.toArray⟩] 70) = W0 := ⟨_, rfl⟩
  obtain ⟨N, hN⟩ : ∃ N, w.heap.size = N := ⟨_, rfl⟩
  rw [hW0] at m0 m1 m2 m3 hbg
  rw [hN] at m0 m1 m2 m3
  have hNl : N < W0.heap.size := World.block_lt_of_cell? W0 ⟨N, 0, none⟩ m0
  have hgpl : gp < w.heap.size := World.block_lt_of_cell? w ⟨gp, po, none⟩ c0
  have hw0 := hw.below hbg
  have e0 := (hbg.cell (p := ⟨gp, po, none⟩) hgpl).trans c0
  have e1 := (hbg.cell (p := ⟨gp, po + 1, none⟩) hgpl).trans c1
  have HC0 : Hid (W0.cell? ⟨gp, po, none⟩ = some (.int .i64 (p0 : Int)) ∧ W0.cell? ⟨gp, po + 1, none⟩ = some (.int .i64 (p1 : Int)) ∧ W0.cell? ⟨N, 0, none⟩ = some (.int .i64 kk)) := ⟨e0, e1, m0⟩
  have st : Hid (Ct13 B w W0 W0 g base (.slice ta t.length tc) (.slice (some ⟨gN, 0, none⟩) t.length t.length) v v xs [gp, N]) := ⟨hw0, fun b hb => by
    simp only [List.mem_cons, List.not_mem_nil, or_false] at hb
    rcases hb with rfl | rfl
    · exact ⟨rfl, Nat.lt_of_lt_of_le hgpl hbg.size, hgp, hgv⟩
    · exact ⟨rfl, hNl, fun e => by have := hw.lt; omega, fun e => by have := (hw.row.lt _ e).2; omega⟩⟩
  have HG : Hid (∀ X, Below W0.heap.size W0 X → X.cell? ⟨g, 1, none⟩ = some (.slice (some ⟨gN, 0, none⟩) t.length t.length) ∧ X.cell? ⟨gp, po, none⟩ = some (.int .i64 (p0 : Int)) ∧ X.cell? ⟨gp, po + 1, none⟩ = some (.int .i64 (p1 : Int)) ∧ X.rangeAt gN (p0 * 60) (nvL (nd12 t [] p0)) ∧ X.rangeAt gN (p1 * 60) (nvL (nd12 t [] p1))) := fun X hb => by
    have s := st.out.below hb
    have hBX := s.w.bB.block gN hnd.1
    exact ⟨s.w.c1, s.cell (by simp) e0, s.cell (by simp) e1, range_block (hnd.2 p0 hl0) hBX, range_block (hnd.2 p1 hl1) hBX⟩
  have HI : Hid (∀ X q ρ u zs, Wr13 B X X g base (.slice ta t.length tc) (.slice (some ⟨gN, 0, none⟩) t.length t.length) u u zs → (q = p0 ∧ ρ = r ∨ q = p1 ∧ ρ = r + 1) → zs.length ≤ xs.length + 300 → Calls Tryz.prog 22 #[.pointer (some ⟨g, 0, none⟩), .int .i64 ρ, .int .i64 (q : Int)] X fun e w' => e = .returned (.tuple #[]) ∧ ∃ u2, Wr13 B X w' g base (.slice ta t.length tc) (.slice (some ⟨gN, 0, none⟩) t.length t.length) u u2 (zs ++ into13 d t (q : Int) ρ (zs.length : Int))) := fun X q ρ u zs h1 h2 h3 => by
    rcases h2 with ⟨rfl, rfl⟩ | ⟨rfl, rfl⟩
    · exact ih X _ _ u zs h1 (by omega) (by omega) (by omega) (by omega) (by omega)
    · exact ih X _ _ u zs h1 (by omega) (by omega) (by omega) (by omega) (by omega)
  have HXa : Hid (into13 d t (p0 : Int) r (xs.length : Int) = x ∧ into13 d t (p1 : Int) (r + 1) (((xs ++ x).length : Nat) : Int) = y) := ⟨hxe, by rw [List.length_append]; rw [← hye]; congr 1⟩
  have HLn : Hid ((xs ++ x).length ≤ xs.length + 119 ∧ (xs ++ x ++ y).length ≤ 1000000) := ⟨by rw [List.length_append]; omega, by rw [List.length_append, List.length_append]; omega⟩
  have hpn0 : (p0 : Int) < (t.length : Int) := by omega
  have hpn1 : (p1 : Int) < (t.length : Int) := by omega
  have hr2 : r ≤ 997 := by omega
  generalize hfq : nd12 t [] = f at *
  generalize (Value.slice ta t.length tc) = tv at *
  obtain ⟨n, hn⟩ : ∃ n, t.length = n := ⟨_, rfl⟩
  rw [hn] at hpn0 hpn1 hl0 hl1 HG HI st hw ⊢
  clear r0 r1 hF hfq ih hnd htb hw hn hNl hgpl hw0 e0 e1 m0 m1 m2 m3 hbg c0 c1 he0 he1 hd0 hd1 hx hxe hye hxa hya hgp hgv hr1
  go_enter Tryz.func46, Tryz.ntmps46
  go_wp2
  refine wp_region_held_drew (S := fun X => Below W0.heap.size W0 X) (by kernel_rfl) ⟨rfl, rfl, rfl, Nat.le_refl _, fun _ _ => rfl⟩ (fun hHeld => ?_)
  refine wpAnyH_take (i := 0) (oi := ⟨some 10, _, _, _, _, _⟩) (v := ?v1) rfl (by kernel_rfl) (by kernel_rfl) (by kernel_rfl) (fun _ _ _ h => h) (Or.inl ⟨by rfl, ?hy1⟩) (by assumption) ?rest1
  case hy1 => (intro wq hSw; have q0 := (HG.out wq hSw).1; have q1 := (HG.out wq hSw).2.1; have q2 := (HG.out wq hSw).2.2.1; clear hSw; first | (go_simp; done) | (go_simp; with_reducible rfl))
  simp only [Act.put, List.setIfInBounds_toArray, List.set_cons_zero, List.set_cons_succ]
  refine wpAnyH_take (i := 1) (oi := ⟨some 11, _, _, _, _, _⟩) (v := ?v2) rfl (by kernel_rfl) (by kernel_rfl) (by kernel_rfl) (fun _ _ _ h => h) (Or.inl ⟨by rfl, ?hy2⟩) (by assumption) ?rest2
  case hy2 => (intro wq hSw; have q0 := (HG.out wq hSw).1; have q1 := (HG.out wq hSw).2.1; have q2 := (HG.out wq hSw).2.2.1; clear hSw; first | (go_simp; done) | (go_simp; with_reducible rfl))
  simp only [Act.put, List.setIfInBounds_toArray, List.set_cons_zero, List.set_cons_succ]
  refine wpAnyH_take (i := 2) (oi := ⟨some 12, _, _, _, _, _⟩) (v := ?v3) rfl (by kernel_rfl) (by kernel_rfl) (by kernel_rfl) (fun _ _ _ h => h) (Or.inl ⟨by rfl, ?hy3⟩) (by assumption) ?rest3
  case hy3 => (intro wq hSw; have q0 := (HG.out wq hSw).1; have q1 := (HG.out wq hSw).2.1; have q2 := (HG.out wq hSw).2.2.1; clear hSw; first | (go_simp; done) | (go_simp; with_reducible rfl))
  simp only [Act.put, List.setIfInBounds_toArray, List.set_cons_zero, List.set_cons_succ]
  refine wpAnyH_take (i := 3) (oi := ⟨some 13, _, _, _, _, _⟩) (v := ?v4) rfl (by kernel_rfl) (by kernel_rfl) (by kernel_rfl) (fun _ _ _ h => h) (Or.inl ⟨by rfl, ?hy4⟩) (by assumption) ?rest4
  case hy4 => (intro wq hSw; have q0 := (HG.out wq hSw).1; have q1 := (HG.out wq hSw).2.1; have q2 := (HG.out wq hSw).2.2.1; clear hSw; first | (go_simp; done) | (go_simp; with_reducible rfl))
  simp only [Act.put, List.setIfInBounds_toArray, List.set_cons_zero, List.set_cons_succ]
  refine wpAnyH_take (i := 4) (oi := ⟨some 14, _, _, _, _, _⟩) (v := ?v5) rfl (by kernel_rfl) (by kernel_rfl) (by kernel_rfl) (fun _ _ _ h => h) (Or.inl ⟨by rfl, ?hy5⟩) (by assumption) ?rest5
  case hy5 => (intro wq hSw; have q0 := (HG.out wq hSw).1; have q1 := (HG.out wq hSw).2.1; have q2 := (HG.out wq hSw).2.2.1; clear hSw; first | (go_simp; done) | (go_simp; with_reducible rfl))
  simp only [Act.put, List.setIfInBounds_toArray, List.set_cons_zero, List.set_cons_succ]
  refine wpAnyH_take (i := 5) (oi := ⟨some 15, _, _, _, _, _⟩) (v := ?v6) rfl (by kernel_rfl) (by kernel_rfl) (by kernel_rfl) (fun _ _ _ h => h) (Or.inl ⟨by rfl, ?hy6⟩) (by assumption) ?rest6
  case hy6 => (intro wq hSw; have q0 := (HG.out wq hSw).1; have q1 := (HG.out wq hSw).2.1; have q2 := (HG.out wq hSw).2.2.1; clear hSw; first | (go_simp; done) | (go_simp; with_reducible rfl))
  simp only [Act.put, List.setIfInBounds_toArray, List.set_cons_zero, List.set_cons_succ]
  refine wpAnyH_take (i := 6) (oi := ⟨some 16, _, _, _, _, _⟩) (v := ?v7) rfl (by kernel_rfl) (by kernel_rfl) (by kernel_rfl) (fun _ _ _ h => h) (Or.inl ⟨by rfl, ?hy7⟩) (by assumption) ?rest7
  case hy7 => (intro wq hSw; have q0 := (HG.out wq hSw).1; have q1 := (HG.out wq hSw).2.1; have q2 := (HG.out wq hSw).2.2.1; clear hSw; first | (go_simp; done) | (go_simp; with_reducible rfl))
  simp only [Act.put, List.setIfInBounds_toArray, List.set_cons_zero, List.set_cons_succ]
  refine wpAnyH_take (i := 7) (oi := ⟨some 17, _, _, _, _, _⟩) (v := ?v8) rfl (by kernel_rfl) (by kernel_rfl) (by kernel_rfl) (fun _ _ _ h => h) (Or.inl ⟨by rfl, ?hy8⟩) (by assumption) ?rest8
  case hy8 => (intro wq hSw; have q0 := (HG.out wq hSw).1; have q1 := (HG.out wq hSw).2.1; have q2 := (HG.out wq hSw).2.2.1; clear hSw; first | (go_simp; done) | (go_simp; with_reducible rfl))
  simp only [Act.put, List.setIfInBounds_toArray, List.set_cons_zero, List.set_cons_succ]
  refine wpAnyH_take (i := 8) (oi := ⟨some 18, _, _, _, _, _⟩) (v := .agg (nv (f p0))) rfl (by kernel_rfl) (by kernel_rfl) (by kernel_rfl) (fun _ _ _ h => h) (yields_load_nv (by rfl) _ rfl gN (p0 * 60) (f p0) rfl (fun v h => (HG.out v h).2.2.2.1)) (by assumption) ?_
  simp only [Act.put, List.setIfInBounds_toArray, List.set_cons_zero, List.set_cons_succ]
  refine wpAnyH_take (i := 9) (oi := ⟨some 19, _, _, _, _, _⟩) (v := ?v9) rfl (by kernel_rfl) (by kernel_rfl) (by kernel_rfl) (fun _ _ _ h => h) (Or.inl ⟨by rfl, ?hy9⟩) (by assumption) ?rest9
  case hy9 => (intro wq hSw; have q0 := (HG.out wq hSw).1; have q1 := (HG.out wq hSw).2.1; have q2 := (HG.out wq hSw).2.2.1; clear hSw; first | (go_simp; done) | (go_simp; with_reducible rfl))
  simp only [Act.put, List.setIfInBounds_toArray, List.set_cons_zero, List.set_cons_succ]
  refine wpAnyH_take (i := 10) (oi := ⟨some 20, _, _, _, _, _⟩) (v := ?v10) rfl (by kernel_rfl) (by kernel_rfl) (by kernel_rfl) (fun _ _ _ h => h) (Or.inl ⟨by rfl, ?hy10⟩) (by assumption) ?rest10
  case hy10 => (intro wq hSw; have q0 := (HG.out wq hSw).1; have q1 := (HG.out wq hSw).2.1; have q2 := (HG.out wq hSw).2.2.1; clear hSw; first | (go_simp; done) | (go_simp; with_reducible rfl))
  simp only [Act.put, List.setIfInBounds_toArray, List.set_cons_zero, List.set_cons_succ]
  refine wpAnyH_take (i := 11) (oi := ⟨some 21, _, _, _, _, _⟩) (v := ?v11) rfl (by kernel_rfl) (by kernel_rfl) (by kernel_rfl) (fun _ _ _ h => h) (Or.inl ⟨by rfl, ?hy11⟩) (by assumption) ?rest11
  case hy11 => (intro wq hSw; have q0 := (HG.out wq hSw).1; have q1 := (HG.out wq hSw).2.1; have q2 := (HG.out wq hSw).2.2.1; clear hSw; first | (go_simp; done) | (go_simp; with_reducible rfl))
  simp only [Act.put, List.setIfInBounds_toArray, List.set_cons_zero, List.set_cons_succ]
  refine wpAnyH_take (i := 12) (oi := ⟨some 22, _, _, _, _, _⟩) (v := ?v12) rfl (by kernel_rfl) (by kernel_rfl) (by kernel_rfl) (fun _ _ _ h => h) (Or.inl ⟨by rfl, ?hy12⟩) (by assumption) ?rest12
  case hy12 => (intro wq hSw; have q0 := (HG.out wq hSw).1; have q1 := (HG.out wq hSw).2.1; have q2 := (HG.out wq hSw).2.2.1; clear hSw; first | (go_simp; done) | (go_simp; with_reducible rfl))
  simp only [Act.put, List.setIfInBounds_toArray, List.set_cons_zero, List.set_cons_succ]
  refine wpAnyH_take (i := 13) (oi := ⟨some 23, _, _, _, _, _⟩) (v := ?v13) rfl (by kernel_rfl) (by kernel_rfl) (by kernel_rfl) (fun _ _ _ h => h) (Or.inl ⟨by rfl, ?hy13⟩) (by assumption) ?rest13
  case hy13 => (intro wq hSw; have q0 := (HG.out wq hSw).1; have q1 := (HG.out wq hSw).2.1; have q2 := (HG.out wq hSw).2.2.1; clear hSw; first | (go_simp; done) | (go_simp; with_reducible rfl))
  simp only [Act.put, List.setIfInBounds_toArray, List.set_cons_zero, List.set_cons_succ]
  refine wpAnyH_take (i := 14) (oi := ⟨some 24, _, _, _, _, _⟩) (v := ?v14) rfl (by kernel_rfl) (by kernel_rfl) (by kernel_rfl) (fun _ _ _ h => h) (Or.inl ⟨by rfl, ?hy14⟩) (by assumption) ?rest14
  case hy14 => (intro wq hSw; have q0 := (HG.out wq hSw).1; have q1 := (HG.out wq hSw).2.1; have q2 := (HG.out wq hSw).2.2.1; clear hSw; first | (go_simp; done) | (go_simp; with_reducible rfl))
  simp only [Act.put, List.setIfInBounds_toArray, List.set_cons_zero, List.set_cons_succ]
  refine wpAnyH_take (i := 15) (oi := ⟨some 25, _, _, _, _, _⟩) (v := ?v15) rfl (by kernel_rfl) (by kernel_rfl) (by kernel_rfl) (fun _ _ _ h => h) (Or.inl ⟨by rfl, ?hy15⟩) (by assumption) ?rest15
  case hy15 => (intro wq hSw; have q0 := (HG.out wq hSw).1; have q1 := (HG.out wq hSw).2.1; have q2 := (HG.out wq hSw).2.2.1; clear hSw; first | (go_simp; done) | (go_simp; with_reducible rfl))
  simp only [Act.put, List.setIfInBounds_toArray, List.set_cons_zero, List.set_cons_succ]
  refine wpAnyH_take (i := 16) (oi := ⟨some 26, _, _, _, _, _⟩) (v := ?v16) rfl (by kernel_rfl) (by kernel_rfl) (by kernel_rfl) (fun _ _ _ h => h) (Or.inl ⟨by rfl, ?hy16⟩) (by assumption) ?rest16
  case hy16 => (intro wq hSw; have q0 := (HG.out wq hSw).1; have q1 := (HG.out wq hSw).2.1; have q2 := (HG.out wq hSw).2.2.1; clear hSw; first | (go_simp; done) | (go_simp; with_reducible rfl))
  simp only [Act.put, List.setIfInBounds_toArray, List.set_cons_zero, List.set_cons_succ]
  refine wpAnyH_take (i := 17) (oi := ⟨some 27, _, _, _, _, _⟩) (v := .agg (nv (f p1))) rfl (by kernel_rfl) (by kernel_rfl) (by kernel_rfl) (fun _ _ _ h => h) (yields_load_nv (by rfl) _ rfl gN (p1 * 60) (f p1) rfl (fun v h => (HG.out v h).2.2.2.2)) (by assumption) ?_
  simp only [Act.put, List.setIfInBounds_toArray, List.set_cons_zero, List.set_cons_succ]
  refine wpAnyH_ready (rs := [18]) (by kernel_rfl) (by simp) ?_
  refine AllReadyH.cons rfl (fun K hK => ?_) AllReadyH.nil
  go_simp
  refine Calls.mono (HO.out _) ?_
  rintro e W4 ⟨rfl, hb4⟩
  dsimp only
  refine hK.out _ _ (by exact hHeld.trans (hb4.mono hHeld.size)) (fun hHeld => ?_)
  clear hK K
  (try simp only [Act.put, List.setIfInBounds_toArray, List.set_cons_zero, List.set_cons_succ])
  refine wpAnyH_take (i := 19) (oi := ⟨some 8, _, _, _, _, _⟩) (v := ?v17) rfl (by kernel_rfl) (by kernel_rfl) (by kernel_rfl) (fun _ _ _ h => h) (Or.inl ⟨by rfl, ?hy17⟩) (by assumption) ?rest17
  case hy17 => (intro wq hSw; clear hSw; first | (go_simp; done) | (go_simp; with_reducible rfl))
  simp only [Act.put, List.setIfInBounds_toArray, List.set_cons_zero, List.set_cons_succ]
  have s4 : Hid (_) := st.out.below hHeld
  refine wpAnyH_done (by kernel_rfl) ?_ _
  have k0 := s4.out.cell (by simp) HC0.out.1
  have k1 := s4.out.cell (by simp) HC0.out.2.1
  clear hHeld hb4 HG HO st
  go_wp2_with fail
  refine Calls.mono (HI.out _ p0 r _ xs s4.out.w.here (Or.inl ⟨rfl, rfl⟩) (by omega)) ?_
  rintro e W5 ⟨rfl, u1, hw5⟩
  rw [HXa.out.1] at hw5
  have s5 : Hid (_) := s4.out.step hw5
  replace k0 := s5.out.cell (by simp) HC0.out.1
  replace k1 := s5.out.cell (by simp) HC0.out.2.1
  clear hw5 s4
  go_wp2_with fail
  refine Calls.mono (HI.out _ p1 (r + 1) _ (xs ++ x) s5.out.w.here (Or.inr ⟨rfl, rfl⟩) (by have := HLn.out.1; omega)) ?_
  rintro e W6 ⟨rfl, u2, hw6⟩
  rw [HXa.out.2] at hw6
  have s6 : Hid (_) := s5.out.step hw6
  have k2 := s6.out.cell (by simp) HC0.out.2.2
  have HWr : Hid (_) := implWrite B W6 g base _ _ u2 (xs ++ x ++ y) (kk, r, r, r + 1, []) s6.out.w.here HLn.out.2
  unfold insVal at HWr
  dsimp only at HWr
  clear hw6 s5 k0 k1
  go_wp2_with fail
  refine Calls.mono HWr.out ?_
  rintro e W7 ⟨rfl, u3, hw7⟩
  have HF : Hid (_) := (s6.out.step hw7).w
  clear hw7 s6 HWr k2
  go_wp2
  go_end0
  exact ⟨rfl, u3, by have h := HF.out; simpa [List.append_assoc] using h⟩
set_option maxHeartbeats 8000000 in
set_option maxRecDepth 100000 in
theorem implPair1 (B : World) (ta : Option Addr) (tc : Nat) (t : List Nd) (gN g base d : Nat) (hnd : NdIn B gN t) (htb : treeB t = true) (ih : IntW B ta tc t gN g base d) (w : World) (r : Int) (v : Value) (xs : List In13) (hw : Wr13 B w w g base (.slice ta t.length tc) (.slice (some ⟨gN, 0, none⟩) t.length t.length) v v xs)
    (kk nA : Int) (np nf : List UInt8) (gp po pc p0 p1 : Nat) (c0 : w.cell? ⟨gp, po, none⟩ = some (.int .i64 (p0 : Int))) (c1 : w.cell? ⟨gp, po + 1, none⟩ = some (.int .i64 (p1 : Int))) (hgp : gp ≠ g) (hgv : v.ownBlock ≠ some gp)
    (he0 : 0 ≤ endV t (p0 : Int)) (he1 : 0 ≤ endV t (p1 : Int)) (hd0 : t.length ≤ p0 + d) (hd1 : t.length ≤ p1 + d) (hl0 : p0 < t.length) (hl1 : p1 < t.length) (hr0 : 0 ≤ r) (hr1 : r + 3 * ((d + 1 : Nat) : Int) ≤ 1000) (hx : xs.length + 400 * (d + 1) ≤ 100000) (hF : fo13 (nd12 t [] p0) (nd12 t [] p1) = 1) :
    Calls Tryz.prog 46 #[.pointer (some ⟨g, 0, none⟩), .int .i64 r, .agg #[.int .i64 kk, .int .i64 nA, .string ⟨np.toArray⟩, .string ⟨nf.toArray⟩], .slice (some ⟨gp, po, none⟩) 2 pc] w fun e w' => e = .returned (.tuple #[]) ∧ ∃ u, Wr13 B w w' g base (.slice ta t.length tc) (.slice (some ⟨gN, 0, none⟩) t.length t.length) v u (xs ++ (into13 d t (p1 : Int) r (xs.length : Int) ++ into13 d t (p0 : Int) (r + 1) ((xs.length : Int) + (into13 d t (p1 : Int) r (xs.length : Int)).length) ++ [(kk, r, r + 1, r, [])])) := by
  have hxa : (into13 d t (p1 : Int) r (xs.length : Int)).length ≤ 119 := into_len htb (by omega) (by omega) r _ hr0
  obtain ⟨x, hxe⟩ : ∃ x, into13 d t (p1 : Int) r (xs.length : Int) = x := ⟨_, rfl⟩
  rw [hxe] at hxa
  have hya : (into13 d t (p0 : Int) (r + 1) ((xs.length : Int) + x.length)).length ≤ 119 := into_len htb (by omega) (by omega) (r + 1) _ (by omega)
  obtain ⟨y, hye⟩ : ∃ y, into13 d t (p0 : Int) (r + 1) ((xs.length : Int) + x.length) = y := ⟨_, rfl⟩
  rw [hye] at hya
  rw [hxe, hye]
  have r0 := nd_range (os := []) htb hl0
  have r1 := nd_range (os := []) htb hl1
  have HO : Hid (∀ X, Calls Tryz.prog 78 #[.agg (nv (nd12 t [] p0)), .agg (nv (nd12 t [] p1))] X fun e w' => e = .returned (.int .i64 1) ∧ Below X.heap.size X w') := fun X => by
    have h := implFirstOf (nd12 t [] p0) (nd12 t [] p1) X r0.2.1 r1.2.1
    rw [hF] at h
    exact h
  obtain ⟨⟨m0, m1, m2, m3⟩, hbg⟩ := node_new12 w (.int .i64 kk) (.int .i64 nA) (.string ⟨np.toArray⟩) (.string ⟨nf.toArray⟩) 70
  obtain ⟨W0, hW0⟩ : ∃ W0, w.alloc (.cells #[.int .i64 kk, .int .i64 nA, .string ⟨np.toArray⟩, .string ⟨nf.toArray⟩] 70) = W0 := ⟨_, rfl⟩
  obtain ⟨N, hN⟩ : ∃ N, w.heap.size = N := ⟨_, rfl⟩
  rw [hW0] at m0 m1 m2 m3 hbg
  rw [hN] at m0 m1 m2 m3
  have hNl : N < W0.heap.size := World.block_lt_of_cell? W0 ⟨N, 0, none⟩ m0
  have hgpl : gp < w.heap.size := World.block_lt_of_cell? w ⟨gp, po, none⟩ c0
  have hw0 := hw.below hbg
  have e0 := (hbg.cell (p := ⟨gp, po, none⟩) hgpl).trans c0
  have e1 := (hbg.cell (p := ⟨gp, po + 1, none⟩) hgpl).trans c1
  have HC0 : Hid (W0.cell? ⟨gp, po, none⟩ = some (.int .i64 (p0 : Int)) ∧ W0.cell? ⟨gp, po + 1, none⟩ = some (.int .i64 (p1 : Int)) ∧ W0.cell? ⟨N, 0, none⟩ = some (.int .i64 kk)) := ⟨e0, e1, m0⟩
  have st : Hid (Ct13 B w W0 W0 g base (.slice ta t.length tc) (.slice (some ⟨gN, 0, none⟩) t.length t.length) v v xs [gp, N]) := ⟨hw0, fun b hb => by
    simp only [List.mem_cons, List.not_mem_nil, or_false] at hb
    rcases hb with rfl | rfl
    · exact ⟨rfl, Nat.lt_of_lt_of_le hgpl hbg.size, hgp, hgv⟩
    · exact ⟨rfl, hNl, fun e => by have := hw.lt; omega, fun e => by have := (hw.row.lt _ e).2; omega⟩⟩
  have HG : Hid (∀ X, Below W0.heap.size W0 X → X.cell? ⟨g, 1, none⟩ = some (.slice (some ⟨gN, 0, none⟩) t.length t.length) ∧ X.cell? ⟨gp, po, none⟩ = some (.int .i64 (p0 : Int)) ∧ X.cell? ⟨gp, po + 1, none⟩ = some (.int .i64 (p1 : Int)) ∧ X.rangeAt gN (p0 * 60) (nvL (nd12 t [] p0)) ∧ X.rangeAt gN (p1 * 60) (nvL (nd12 t [] p1))) := fun X hb => by
    have s := st.out.below hb
    have hBX := s.w.bB.block gN hnd.1
    exact ⟨s.w.c1, s.cell (by simp) e0, s.cell (by simp) e1, range_block (hnd.2 p0 hl0) hBX, range_block (hnd.2 p1 hl1) hBX⟩
  have HI : Hid (∀ X q ρ u zs, Wr13 B X X g base (.slice ta t.length tc) (.slice (some ⟨gN, 0, none⟩) t.length t.length) u u zs → (q = p1 ∧ ρ = r ∨ q = p0 ∧ ρ = r + 1) → zs.length ≤ xs.length + 300 → Calls Tryz.prog 22 #[.pointer (some ⟨g, 0, none⟩), .int .i64 ρ, .int .i64 (q : Int)] X fun e w' => e = .returned (.tuple #[]) ∧ ∃ u2, Wr13 B X w' g base (.slice ta t.length tc) (.slice (some ⟨gN, 0, none⟩) t.length t.length) u u2 (zs ++ into13 d t (q : Int) ρ (zs.length : Int))) := fun X q ρ u zs h1 h2 h3 => by
    rcases h2 with ⟨rfl, rfl⟩ | ⟨rfl, rfl⟩
    · exact ih X _ _ u zs h1 (by omega) (by omega) (by omega) (by omega) (by omega)
    · exact ih X _ _ u zs h1 (by omega) (by omega) (by omega) (by omega) (by omega)
  have HXa : Hid (into13 d t (p1 : Int) r (xs.length : Int) = x ∧ into13 d t (p0 : Int) (r + 1) (((xs ++ x).length : Nat) : Int) = y) := ⟨hxe, by rw [List.length_append]; rw [← hye]; congr 1⟩
  have HLn : Hid ((xs ++ x).length ≤ xs.length + 119 ∧ (xs ++ x ++ y).length ≤ 1000000) := ⟨by rw [List.length_append]; omega, by rw [List.length_append, List.length_append]; omega⟩
  have hpn0 : (p0 : Int) < (t.length : Int) := by omega
  have hpn1 : (p1 : Int) < (t.length : Int) := by omega
  have hr2 : r ≤ 997 := by omega
  generalize hfq : nd12 t [] = f at *
  generalize (Value.slice ta t.length tc) = tv at *
  obtain ⟨n, hn⟩ : ∃ n, t.length = n := ⟨_, rfl⟩
  rw [hn] at hpn0 hpn1 hl0 hl1 HG HI st hw ⊢
  clear r0 r1 hF hfq ih hnd htb hw hn hNl hgpl hw0 e0 e1 m0 m1 m2 m3 hbg c0 c1 he0 he1 hd0 hd1 hx hxe hye hxa hya hgp hgv hr1
  go_enter Tryz.func46, Tryz.ntmps46
  go_wp2
  refine wp_region_held_drew (S := fun X => Below W0.heap.size W0 X) (by kernel_rfl) ⟨rfl, rfl, rfl, Nat.le_refl _, fun _ _ => rfl⟩ (fun hHeld => ?_)
  refine wpAnyH_take (i := 0) (oi := ⟨some 10, _, _, _, _, _⟩) (v := ?v18) rfl (by kernel_rfl) (by kernel_rfl) (by kernel_rfl) (fun _ _ _ h => h) (Or.inl ⟨by rfl, ?hy18⟩) (by assumption) ?rest18
  case hy18 => (intro wq hSw; have q0 := (HG.out wq hSw).1; have q1 := (HG.out wq hSw).2.1; have q2 := (HG.out wq hSw).2.2.1; clear hSw; first | (go_simp; done) | (go_simp; with_reducible rfl))
  simp only [Act.put, List.setIfInBounds_toArray, List.set_cons_zero, List.set_cons_succ]
  refine wpAnyH_take (i := 1) (oi := ⟨some 11, _, _, _, _, _⟩) (v := ?v19) rfl (by kernel_rfl) (by kernel_rfl) (by kernel_rfl) (fun _ _ _ h => h) (Or.inl ⟨by rfl, ?hy19⟩) (by assumption) ?rest19
  case hy19 => (intro wq hSw; have q0 := (HG.out wq hSw).1; have q1 := (HG.out wq hSw).2.1; have q2 := (HG.out wq hSw).2.2.1; clear hSw; first | (go_simp; done) | (go_simp; with_reducible rfl))
  simp only [Act.put, List.setIfInBounds_toArray, List.set_cons_zero, List.set_cons_succ]
  refine wpAnyH_take (i := 2) (oi := ⟨some 12, _, _, _, _, _⟩) (v := ?v20) rfl (by kernel_rfl) (by kernel_rfl) (by kernel_rfl) (fun _ _ _ h => h) (Or.inl ⟨by rfl, ?hy20⟩) (by assumption) ?rest20
  case hy20 => (intro wq hSw; have q0 := (HG.out wq hSw).1; have q1 := (HG.out wq hSw).2.1; have q2 := (HG.out wq hSw).2.2.1; clear hSw; first | (go_simp; done) | (go_simp; with_reducible rfl))
  simp only [Act.put, List.setIfInBounds_toArray, List.set_cons_zero, List.set_cons_succ]
  refine wpAnyH_take (i := 3) (oi := ⟨some 13, _, _, _, _, _⟩) (v := ?v21) rfl (by kernel_rfl) (by kernel_rfl) (by kernel_rfl) (fun _ _ _ h => h) (Or.inl ⟨by rfl, ?hy21⟩) (by assumption) ?rest21
  case hy21 => (intro wq hSw; have q0 := (HG.out wq hSw).1; have q1 := (HG.out wq hSw).2.1; have q2 := (HG.out wq hSw).2.2.1; clear hSw; first | (go_simp; done) | (go_simp; with_reducible rfl))
  simp only [Act.put, List.setIfInBounds_toArray, List.set_cons_zero, List.set_cons_succ]
  refine wpAnyH_take (i := 4) (oi := ⟨some 14, _, _, _, _, _⟩) (v := ?v22) rfl (by kernel_rfl) (by kernel_rfl) (by kernel_rfl) (fun _ _ _ h => h) (Or.inl ⟨by rfl, ?hy22⟩) (by assumption) ?rest22
  case hy22 => (intro wq hSw; have q0 := (HG.out wq hSw).1; have q1 := (HG.out wq hSw).2.1; have q2 := (HG.out wq hSw).2.2.1; clear hSw; first | (go_simp; done) | (go_simp; with_reducible rfl))
  simp only [Act.put, List.setIfInBounds_toArray, List.set_cons_zero, List.set_cons_succ]
  refine wpAnyH_take (i := 5) (oi := ⟨some 15, _, _, _, _, _⟩) (v := ?v23) rfl (by kernel_rfl) (by kernel_rfl) (by kernel_rfl) (fun _ _ _ h => h) (Or.inl ⟨by rfl, ?hy23⟩) (by assumption) ?rest23
  case hy23 => (intro wq hSw; have q0 := (HG.out wq hSw).1; have q1 := (HG.out wq hSw).2.1; have q2 := (HG.out wq hSw).2.2.1; clear hSw; first | (go_simp; done) | (go_simp; with_reducible rfl))
  simp only [Act.put, List.setIfInBounds_toArray, List.set_cons_zero, List.set_cons_succ]
  refine wpAnyH_take (i := 6) (oi := ⟨some 16, _, _, _, _, _⟩) (v := ?v24) rfl (by kernel_rfl) (by kernel_rfl) (by kernel_rfl) (fun _ _ _ h => h) (Or.inl ⟨by rfl, ?hy24⟩) (by assumption) ?rest24
  case hy24 => (intro wq hSw; have q0 := (HG.out wq hSw).1; have q1 := (HG.out wq hSw).2.1; have q2 := (HG.out wq hSw).2.2.1; clear hSw; first | (go_simp; done) | (go_simp; with_reducible rfl))
  simp only [Act.put, List.setIfInBounds_toArray, List.set_cons_zero, List.set_cons_succ]
  refine wpAnyH_take (i := 7) (oi := ⟨some 17, _, _, _, _, _⟩) (v := ?v25) rfl (by kernel_rfl) (by kernel_rfl) (by kernel_rfl) (fun _ _ _ h => h) (Or.inl ⟨by rfl, ?hy25⟩) (by assumption) ?rest25
  case hy25 => (intro wq hSw; have q0 := (HG.out wq hSw).1; have q1 := (HG.out wq hSw).2.1; have q2 := (HG.out wq hSw).2.2.1; clear hSw; first | (go_simp; done) | (go_simp; with_reducible rfl))
  simp only [Act.put, List.setIfInBounds_toArray, List.set_cons_zero, List.set_cons_succ]
  refine wpAnyH_take (i := 8) (oi := ⟨some 18, _, _, _, _, _⟩) (v := .agg (nv (f p0))) rfl (by kernel_rfl) (by kernel_rfl) (by kernel_rfl) (fun _ _ _ h => h) (yields_load_nv (by rfl) _ rfl gN (p0 * 60) (f p0) rfl (fun v h => (HG.out v h).2.2.2.1)) (by assumption) ?_
  simp only [Act.put, List.setIfInBounds_toArray, List.set_cons_zero, List.set_cons_succ]
  refine wpAnyH_take (i := 9) (oi := ⟨some 19, _, _, _, _, _⟩) (v := ?v26) rfl (by kernel_rfl) (by kernel_rfl) (by kernel_rfl) (fun _ _ _ h => h) (Or.inl ⟨by rfl, ?hy26⟩) (by assumption) ?rest26
  case hy26 => (intro wq hSw; have q0 := (HG.out wq hSw).1; have q1 := (HG.out wq hSw).2.1; have q2 := (HG.out wq hSw).2.2.1; clear hSw; first | (go_simp; done) | (go_simp; with_reducible rfl))
  simp only [Act.put, List.setIfInBounds_toArray, List.set_cons_zero, List.set_cons_succ]
  refine wpAnyH_take (i := 10) (oi := ⟨some 20, _, _, _, _, _⟩) (v := ?v27) rfl (by kernel_rfl) (by kernel_rfl) (by kernel_rfl) (fun _ _ _ h => h) (Or.inl ⟨by rfl, ?hy27⟩) (by assumption) ?rest27
  case hy27 => (intro wq hSw; have q0 := (HG.out wq hSw).1; have q1 := (HG.out wq hSw).2.1; have q2 := (HG.out wq hSw).2.2.1; clear hSw; first | (go_simp; done) | (go_simp; with_reducible rfl))
  simp only [Act.put, List.setIfInBounds_toArray, List.set_cons_zero, List.set_cons_succ]
  refine wpAnyH_take (i := 11) (oi := ⟨some 21, _, _, _, _, _⟩) (v := ?v28) rfl (by kernel_rfl) (by kernel_rfl) (by kernel_rfl) (fun _ _ _ h => h) (Or.inl ⟨by rfl, ?hy28⟩) (by assumption) ?rest28
  case hy28 => (intro wq hSw; have q0 := (HG.out wq hSw).1; have q1 := (HG.out wq hSw).2.1; have q2 := (HG.out wq hSw).2.2.1; clear hSw; first | (go_simp; done) | (go_simp; with_reducible rfl))
  simp only [Act.put, List.setIfInBounds_toArray, List.set_cons_zero, List.set_cons_succ]
  refine wpAnyH_take (i := 12) (oi := ⟨some 22, _, _, _, _, _⟩) (v := ?v29) rfl (by kernel_rfl) (by kernel_rfl) (by kernel_rfl) (fun _ _ _ h => h) (Or.inl ⟨by rfl, ?hy29⟩) (by assumption) ?rest29
  case hy29 => (intro wq hSw; have q0 := (HG.out wq hSw).1; have q1 := (HG.out wq hSw).2.1; have q2 := (HG.out wq hSw).2.2.1; clear hSw; first | (go_simp; done) | (go_simp; with_reducible rfl))
  simp only [Act.put, List.setIfInBounds_toArray, List.set_cons_zero, List.set_cons_succ]
  refine wpAnyH_take (i := 13) (oi := ⟨some 23, _, _, _, _, _⟩) (v := ?v30) rfl (by kernel_rfl) (by kernel_rfl) (by kernel_rfl) (fun _ _ _ h => h) (Or.inl ⟨by rfl, ?hy30⟩) (by assumption) ?rest30
  case hy30 => (intro wq hSw; have q0 := (HG.out wq hSw).1; have q1 := (HG.out wq hSw).2.1; have q2 := (HG.out wq hSw).2.2.1; clear hSw; first | (go_simp; done) | (go_simp; with_reducible rfl))
  simp only [Act.put, List.setIfInBounds_toArray, List.set_cons_zero, List.set_cons_succ]
  refine wpAnyH_take (i := 14) (oi := ⟨some 24, _, _, _, _, _⟩) (v := ?v31) rfl (by kernel_rfl) (by kernel_rfl) (by kernel_rfl) (fun _ _ _ h => h) (Or.inl ⟨by rfl, ?hy31⟩) (by assumption) ?rest31
  case hy31 => (intro wq hSw; have q0 := (HG.out wq hSw).1; have q1 := (HG.out wq hSw).2.1; have q2 := (HG.out wq hSw).2.2.1; clear hSw; first | (go_simp; done) | (go_simp; with_reducible rfl))
  simp only [Act.put, List.setIfInBounds_toArray, List.set_cons_zero, List.set_cons_succ]
  refine wpAnyH_take (i := 15) (oi := ⟨some 25, _, _, _, _, _⟩) (v := ?v32) rfl (by kernel_rfl) (by kernel_rfl) (by kernel_rfl) (fun _ _ _ h => h) (Or.inl ⟨by rfl, ?hy32⟩) (by assumption) ?rest32
  case hy32 => (intro wq hSw; have q0 := (HG.out wq hSw).1; have q1 := (HG.out wq hSw).2.1; have q2 := (HG.out wq hSw).2.2.1; clear hSw; first | (go_simp; done) | (go_simp; with_reducible rfl))
  simp only [Act.put, List.setIfInBounds_toArray, List.set_cons_zero, List.set_cons_succ]
  refine wpAnyH_take (i := 16) (oi := ⟨some 26, _, _, _, _, _⟩) (v := ?v33) rfl (by kernel_rfl) (by kernel_rfl) (by kernel_rfl) (fun _ _ _ h => h) (Or.inl ⟨by rfl, ?hy33⟩) (by assumption) ?rest33
  case hy33 => (intro wq hSw; have q0 := (HG.out wq hSw).1; have q1 := (HG.out wq hSw).2.1; have q2 := (HG.out wq hSw).2.2.1; clear hSw; first | (go_simp; done) | (go_simp; with_reducible rfl))
  simp only [Act.put, List.setIfInBounds_toArray, List.set_cons_zero, List.set_cons_succ]
  refine wpAnyH_take (i := 17) (oi := ⟨some 27, _, _, _, _, _⟩) (v := .agg (nv (f p1))) rfl (by kernel_rfl) (by kernel_rfl) (by kernel_rfl) (fun _ _ _ h => h) (yields_load_nv (by rfl) _ rfl gN (p1 * 60) (f p1) rfl (fun v h => (HG.out v h).2.2.2.2)) (by assumption) ?_
  simp only [Act.put, List.setIfInBounds_toArray, List.set_cons_zero, List.set_cons_succ]
  refine wpAnyH_ready (rs := [18]) (by kernel_rfl) (by simp) ?_
  refine AllReadyH.cons rfl (fun K hK => ?_) AllReadyH.nil
  go_simp
  refine Calls.mono (HO.out _) ?_
  rintro e W4 ⟨rfl, hb4⟩
  dsimp only
  refine hK.out _ _ (by exact hHeld.trans (hb4.mono hHeld.size)) (fun hHeld => ?_)
  clear hK K
  (try simp only [Act.put, List.setIfInBounds_toArray, List.set_cons_zero, List.set_cons_succ])
  refine wpAnyH_take (i := 19) (oi := ⟨some 8, _, _, _, _, _⟩) (v := ?v34) rfl (by kernel_rfl) (by kernel_rfl) (by kernel_rfl) (fun _ _ _ h => h) (Or.inl ⟨by rfl, ?hy34⟩) (by assumption) ?rest34
  case hy34 => (intro wq hSw; clear hSw; first | (go_simp; done) | (go_simp; with_reducible rfl))
  simp only [Act.put, List.setIfInBounds_toArray, List.set_cons_zero, List.set_cons_succ]
  have s4 : Hid (_) := st.out.below hHeld
  refine wpAnyH_done (by kernel_rfl) ?_ _
  have k0 := s4.out.cell (by simp) HC0.out.1
  have k1 := s4.out.cell (by simp) HC0.out.2.1
  clear hHeld hb4 HG HO st
  go_wp2_with fail
  refine Calls.mono (HI.out _ p1 r _ xs s4.out.w.here (Or.inl ⟨rfl, rfl⟩) (by omega)) ?_
  rintro e W5 ⟨rfl, u1, hw5⟩
  rw [HXa.out.1] at hw5
  have s5 : Hid (_) := s4.out.step hw5
  replace k0 := s5.out.cell (by simp) HC0.out.1
  replace k1 := s5.out.cell (by simp) HC0.out.2.1
  clear hw5 s4
  go_wp2_with fail
  refine Calls.mono (HI.out _ p0 (r + 1) _ (xs ++ x) s5.out.w.here (Or.inr ⟨rfl, rfl⟩) (by have := HLn.out.1; omega)) ?_
  rintro e W6 ⟨rfl, u2, hw6⟩
  rw [HXa.out.2] at hw6
  have s6 : Hid (_) := s5.out.step hw6
  have k2 := s6.out.cell (by simp) HC0.out.2.2
  have HWr : Hid (_) := implWrite B W6 g base _ _ u2 (xs ++ x ++ y) (kk, r, r + 1, r, []) s6.out.w.here HLn.out.2
  unfold insVal at HWr
  dsimp only at HWr
  clear hw6 s5 k0 k1
  go_wp2_with fail
  refine Calls.mono HWr.out ?_
  rintro e W7 ⟨rfl, u3, hw7⟩
  have HF : Hid (_) := (s6.out.step hw7).w
  clear hw7 s6 HWr k2
  go_wp2
  go_end0
  exact ⟨rfl, u3, by have h := HF.out; simpa [List.append_assoc] using h⟩

end Go.Proofs.YtnpbckgaeaameaaGreat
