/-
  Parts of one proof, one behind the other: WrB, IntoS4, WrC.
-/
import Derived.Test.YtkpdoedpkncboaaGreatP18
import Derived.Test.YtkpdoedpkncboaaGreatP17
namespace Go.Proofs.YtkpdoedpkncboaaGreat
open Go.RowKit
structure Ct13 (B w W X : World) (g base : Nat) (tv nw v0 v : Value) (xs : List In13) (bs : List Nat) : Prop where
 w : Wr13 B w X g base tv nw v0 v xs
 k : ∀ b ∈ bs, X.heap[b]? = W.heap[b]? ∧ b < X.heap.size ∧ b ≠ g ∧ v.ownBlock ≠ some b
section
variable {B w W X Y : World} {g base : Nat} {tv nw v0 v u : Value} {xs ys : List In13} {bs : List Nat}
theorem Ct13.step (h : Ct13 B w W X g base tv nw v0 v xs bs) (h2 : Wr13 B X Y g base tv nw v u ys) : Ct13 B w W Y g base tv nw v0 u ys bs := by
 refine ⟨h.w.trans h2, fun b hb => ?_⟩
 obtain ⟨k1, k2, k3, k4⟩ := h.k b hb
 obtain ⟨e1, e2⟩ := h2.keep k2 k3 k4
 exact ⟨e1.trans k1, Nat.lt_of_lt_of_le k2 h2.sz, k3, e2⟩
theorem Ct13.below (h : Ct13 B w W X g base tv nw v0 v xs bs) (hb : Below X.heap.size X Y) : Ct13 B w W Y g base tv nw v0 v xs bs := by
 refine ⟨h.w.below hb, fun b hbb => ?_⟩
 obtain ⟨k1, k2, k3, k4⟩ := h.k b hbb
 exact ⟨(hb.block b k2).trans k1, Nat.lt_of_lt_of_le k2 hb.size, k3, k4⟩
theorem Ct13.cell (h : Ct13 B w W X g base tv nw v0 v xs bs) {b o : Nat} {c : Value} (hb : b ∈ bs) (hc : W.cell? ⟨b, o, none⟩ = some c) : X.cell? ⟨b, o, none⟩ = some c := (World.cell?_of_block (a := ⟨b, o, none⟩) (h.k b hb).1).trans hc
end
def IntW (B : World) (ta : Option Addr) (tc : Nat) (t : List Nd) (gN g base : Nat) (d : Nat) : Prop := ∀ (w : World) (a : Nat) (r : Int) (v : Value) (xs : List In13),
 Wr13 B w w g base (.slice ta t.length tc) (.slice (some ⟨gN, 0, none⟩) t.length t.length) v v xs → 0 ≤ endV t (a : Int) → t.length ≤ a + d → 0 ≤ r → r + 3 * d ≤ 1000 → xs.length + 400 * d ≤ 100000 →
 Calls Tryz.prog 80 #[.pointer (some ⟨g, 0, none⟩), .int .i64 r, .int .i64 (a : Int)] w fun e w' => e = .returned (.tuple #[]) ∧ ∃ u, Wr13 B w w' g base (.slice ta t.length tc) (.slice (some ⟨gN, 0, none⟩) t.length t.length) v u (xs ++ za3 d t (a : Int) r (xs.length : Int))
def NdIn (B : World) (gN : Nat) (t : List Nd) : Prop := gN < B.heap.size ∧ ∀ q, q < t.length → B.rangeAt gN (q * 60) (nvL (nd12 t [] q))
set_option maxHeartbeats 8000000 in
set_option maxRecDepth 100000 in
theorem zlu (B : World) (ta : Option Addr) (tc : Nat) (t : List Nd) (gN g base d : Nat) (hnd : NdIn B gN t) (htb : zaI t = true) (ih : IntW B ta tc t gN g base d) (w : World) (r : Int) (v : Value) (xs : List In13) (hw : Wr13 B w w g base (.slice ta t.length tc) (.slice (some ⟨gN, 0, none⟩) t.length t.length) v v xs)
 (kk nA : Int) (np nf : List UInt8) (gp po pc p0 p1 : Nat) (c0 : w.cell? ⟨gp, po, none⟩ = some (.int .i64 (p0 : Int))) (c1 : w.cell? ⟨gp, po + 1, none⟩ = some (.int .i64 (p1 : Int))) (hgp : gp ≠ g) (hgv : v.ownBlock ≠ some gp)
 (he0 : 0 ≤ endV t (p0 : Int)) (he1 : 0 ≤ endV t (p1 : Int)) (hd0 : t.length ≤ p0 + d) (hd1 : t.length ≤ p1 + d) (hl0 : p0 < t.length) (hl1 : p1 < t.length) (hr0 : 0 ≤ r) (hr1 : r + 3 * ((d + 1 : Nat) : Int) ≤ 1000) (hx : xs.length + 400 * (d + 1) ≤ 100000) (hF : fo13 (nd12 t [] p0) (nd12 t [] p1) = 0) :
 Calls Tryz.prog 116 #[.pointer (some ⟨g, 0, none⟩), .int .i64 r, .agg #[.int .i64 kk, .int .i64 nA, .string ⟨np.toArray⟩, .string ⟨nf.toArray⟩], .slice (some ⟨gp, po, none⟩) 2 pc] w fun e w' => e = .returned (.tuple #[]) ∧ ∃ u, Wr13 B w w' g base (.slice ta t.length tc) (.slice (some ⟨gN, 0, none⟩) t.length t.length) v u (xs ++ (za3 d t (p0 : Int) r (xs.length : Int) ++ za3 d t (p1 : Int) (r + 1) ((xs.length : Int) + (za3 d t (p0 : Int) r (xs.length : Int)).length) ++ [(kk, r, r, r + 1, [])])) := by
 have hxa : (za3 d t (p0 : Int) r (xs.length : Int)).length ≤ 119 := zbc htb (by omega) (by omega) r _ hr0
 obtain ⟨x, hxe⟩ : ∃ x, za3 d t (p0 : Int) r (xs.length : Int) = x := ⟨_, rfl⟩
 rw [hxe] at hxa
 have hya : (za3 d t (p1 : Int) (r + 1) ((xs.length : Int) + x.length)).length ≤ 119 := zbc htb (by omega) (by omega) (r + 1) _ (by omega)
 obtain ⟨y, hye⟩ : ∃ y, za3 d t (p1 : Int) (r + 1) ((xs.length : Int) + x.length) = y := ⟨_, rfl⟩
 rw [hye] at hya
 rw [hxe, hye]
 have r0 := zcI (os := []) htb hl0
 have r1 := zcI (os := []) htb hl1
 have HO : Hid (∀ X, Calls Tryz.prog 148 #[.agg (nv (nd12 t [] p0)), .agg (nv (nd12 t [] p1))] X fun e w' => e = .returned (.int .i64 0) ∧ Below X.heap.size X w') := fun X => by
  have h := zeM (nd12 t [] p0) (nd12 t [] p1) X r0.2.1 r1.2.1
  rw [hF] at h
  exact h
 obtain ⟨⟨m0, m1, m2, m3⟩, hbg⟩ := zaW w (.int .i64 kk) (.int .i64 nA) (.string ⟨np.toArray⟩) (.string ⟨nf.toArray⟩) 90
 obtain ⟨W0, hW0⟩ : ∃ W0, w.alloc (.cells #[.int .i64 kk, .int .i64 nA, .string ⟨np.toArray⟩, .string ⟨nf.toArray⟩] 90) = W0 := ⟨_, rfl⟩
 obtain ⟨N, hN⟩ : ∃ N, w.heap.size = N := ⟨_, rfl⟩
 rw [hW0] at m0 m1 m2 m3 hbg
 rw [hN] at m0 m1 m2 m3
 have hNl : N < W0.heap.size := World.block_lt_of_cell? W0 ⟨N, 0, none⟩ m0
 have hgpl : gp < w.heap.size := World.block_lt_of_cell? w ⟨gp, po, none⟩ c0
 have hw0 := hw.below hbg
 have e0 := (hbg.cell (p := ⟨gp, po, none⟩) hgpl).trans c0
 have e1 := (hbg.cell (p := ⟨gp, po + 1, none⟩) hgpl).trans c1
 have HC0 : Hid (W0.cell? ⟨gp, po, none⟩ = some (.int .i64 (p0 : Int)) ∧ W0.cell? ⟨gp, po + 1, none⟩ = some (.int .i64 (p1 : Int)) ∧ W0.cell? ⟨N, 0, none⟩ = some (.int .i64 kk)) := ⟨e0, e1, m0⟩
 have st : Hid (Ct13 B w W0 W0 g base (.slice ta t.length tc) (.slice (some ⟨gN, 0, none⟩) t.length t.length) v v xs [gp, N]) := ⟨hw0, fun b hb => by
  simp only [List.mem_cons, List.not_mem_nil, or_false] at hb
  rcases hb with rfl | rfl
  ·
   exact ⟨rfl, Nat.lt_of_lt_of_le hgpl hbg.size, hgp, hgv⟩
  ·
   exact ⟨rfl, hNl, fun e => by have := hw.lt; omega, fun e => by have := (hw.row.lt _ e).2; omega⟩⟩
 have HG : Hid (∀ X, Below W0.heap.size W0 X → X.cell? ⟨g, 1, none⟩ = some (.slice (some ⟨gN, 0, none⟩) t.length t.length) ∧ X.cell? ⟨gp, po, none⟩ = some (.int .i64 (p0 : Int)) ∧ X.cell? ⟨gp, po + 1, none⟩ = some (.int .i64 (p1 : Int)) ∧ X.rangeAt gN (p0 * 60) (nvL (nd12 t [] p0)) ∧ X.rangeAt gN (p1 * 60) (nvL (nd12 t [] p1))) := fun X hb => by
  have s := st.out.below hb
  have hBX := s.w.bB.block gN hnd.1
  exact ⟨s.w.c1, s.cell (by simp) e0, s.cell (by simp) e1, zbN (hnd.2 p0 hl0) hBX, zbN (hnd.2 p1 hl1) hBX⟩
 have HI : Hid (∀ X q ρ u zs, Wr13 B X X g base (.slice ta t.length tc) (.slice (some ⟨gN, 0, none⟩) t.length t.length) u u zs → (q = p0 ∧ ρ = r ∨ q = p1 ∧ ρ = r + 1) → zs.length ≤ xs.length + 300 → Calls Tryz.prog 80 #[.pointer (some ⟨g, 0, none⟩), .int .i64 ρ, .int .i64 (q : Int)] X fun e w' => e = .returned (.tuple #[]) ∧ ∃ u2, Wr13 B X w' g base (.slice ta t.length tc) (.slice (some ⟨gN, 0, none⟩) t.length t.length) u u2 (zs ++ za3 d t (q : Int) ρ (zs.length : Int))) := fun X q ρ u zs h1 h2 h3 => by
  rcases h2 with ⟨rfl, rfl⟩ | ⟨rfl, rfl⟩
  ·
   exact ih X _ _ u zs h1 (by omega) (by omega) (by omega) (by omega) (by omega)
  ·
   exact ih X _ _ u zs h1 (by omega) (by omega) (by omega) (by omega) (by omega)
 have HXa : Hid (za3 d t (p0 : Int) r (xs.length : Int) = x ∧ za3 d t (p1 : Int) (r + 1) (((xs ++ x).length : Nat) : Int) = y) := ⟨hxe, by rw [List.length_append]; rw [← hye]; congr 1⟩
 have HLn : Hid ((xs ++ x).length ≤ xs.length + 119 ∧ (xs ++ x ++ y).length ≤ 1000000) := ⟨by rw [List.length_append]; omega, by rw [List.length_append, List.length_append]; omega⟩
 have hpn0 : (p0 : Int) < (t.length : Int) := by omega
 have hpn1 : (p1 : Int) < (t.length : Int) := by omega
 have hr2 : r ≤ 997 := by omega
 generalize hfq : nd12 t [] = f at *
 generalize (Value.slice ta t.length tc) = tv at *
 obtain ⟨n, hn⟩ : ∃ n, t.length = n := ⟨_, rfl⟩
 rw [hn] at hpn0 hpn1 hl0 hl1 HG HI st hw ⊢
 clear r0 r1 hF hfq ih hnd htb hw hn hNl hgpl hw0 e0 e1 m0 m1 m2 m3 hbg c0 c1 he0 he1 hd0 hd1 hx hxe hye hxa hya hgp hgv hr1
 go_enter Tryz.func116, Tryz.ntmps116
 go_wp2
 refine wp_region_held_drew (S := fun X => Below W0.heap.size W0 X) (by kernel_rfl) ⟨rfl, rfl, rfl, Nat.le_refl _, fun _ _ => rfl⟩ (fun hHeld => ?_)
 refine tkO [(0, 10), (1, 11), (2, 12), (3, 13), (4, 14), (5, 15), (6, 16), (7, 17)] ?_
 repeat (refine tkY ?_ rfl (by rfl) ?_ ?_; rotate_left; (focus (intro wq hSw; have q0 := (HG.out wq hSw).1; have q1 := (HG.out wq hSw).2.1; have q2 := (HG.out wq hSw).2.2.1; clear hSw; first | (go_simp; done) | (go_simp; with_reducible rfl))); simp only [zP])
 refine tkZ ?_
 refine wpAnyH_take (i := 8) (oi := ⟨some 18, _, _, _, _, _⟩) (v := .agg (nv (f p0))) rfl (by kernel_rfl) (by kernel_rfl) (by kernel_rfl) (fun _ _ _ h => h) (zaH (by rfl) _ rfl gN (p0 * 60) (f p0) rfl (fun v h => (HG.out v h).2.2.2.1)) (by assumption) ?_
 simp only [zP]
 refine tkO [(9, 19), (10, 20), (11, 21), (12, 22), (13, 23), (14, 24), (15, 25), (16, 26)] ?_
 repeat (refine tkY ?_ rfl (by rfl) ?_ ?_; rotate_left; (focus (intro wq hSw; have q0 := (HG.out wq hSw).1; have q1 := (HG.out wq hSw).2.1; have q2 := (HG.out wq hSw).2.2.1; clear hSw; first | (go_simp; done) | (go_simp; with_reducible rfl))); simp only [zP])
 refine tkZ ?_
 refine wpAnyH_take (i := 17) (oi := ⟨some 27, _, _, _, _, _⟩) (v := .agg (nv (f p1))) rfl (by kernel_rfl) (by kernel_rfl) (by kernel_rfl) (fun _ _ _ h => h) (zaH (by rfl) _ rfl gN (p1 * 60) (f p1) rfl (fun v h => (HG.out v h).2.2.2.2)) (by assumption) ?_
 simp only [zP]
 refine zR 18 rfl (fun K hK => ?_)
 go_simp
 refine Calls.mono (HO.out _) ?_
 rintro e W4 ⟨rfl, hb4⟩
 dsimp only
 refine hK.out _ _ (by exact hHeld.trans (hb4.mono hHeld.size)) (fun hHeld => ?_)
 clear hK K
 (try simp only [zP])
 refine tkO [(19, 8)] ?_
 repeat (refine tkY ?_ rfl (by rfl) ?_ ?_; rotate_left; (focus (intro wq hSw; clear hSw; first | (go_simp; done) | (go_simp; with_reducible rfl))); simp only [zP])
 refine tkZ ?_
 have s4 : Hid (_) := st.out.below hHeld
 refine wpAnyH_done (by kernel_rfl) ?_ _
 have k0 := s4.out.cell (by simp) HC0.out.1
 have k1 := s4.out.cell (by simp) HC0.out.2.1
 clear hHeld hb4 HG HO st
 go_wp2_with fail
 refine Calls.mono (HI.out _ p0 r _ xs s4.out.w.here (Or.inl ⟨rfl, rfl⟩) (by omega)) ?_
 rintro e W5 ⟨rfl, u1, hw5⟩
 rw [HXa.out.1] at hw5
 have s5 : Hid (_) := s4.out.step hw5
 replace k0 := s5.out.cell (by simp) HC0.out.1
 replace k1 := s5.out.cell (by simp) HC0.out.2.1
 clear hw5 s4
 go_wp2_with fail
 refine Calls.mono (HI.out _ p1 (r + 1) _ (xs ++ x) s5.out.w.here (Or.inr ⟨rfl, rfl⟩) (by have := HLn.out.1; omega)) ?_
 rintro e W6 ⟨rfl, u2, hw6⟩
 rw [HXa.out.2] at hw6
 have s6 : Hid (_) := s5.out.step hw6
 have k2 := s6.out.cell (by simp) HC0.out.2.2
 have HWr : Hid (_) := zc0 B W6 g base _ _ u2 (xs ++ x ++ y) (kk, r, r, r + 1, []) s6.out.w.here HLn.out.2
 unfold zay at HWr
 dsimp only at HWr
 clear hw6 s5 k0 k1
 go_wp2_with fail
 refine Calls.mono HWr.out ?_
 rintro e W7 ⟨rfl, u3, hw7⟩
 have HF : Hid (_) := (s6.out.step hw7).w
 clear hw7 s6 HWr k2
 go_wp2
 go_end0
 exact ⟨rfl, u3, by have h := HF.out; simpa [List.append_assoc] using h⟩
set_option maxHeartbeats 8000000 in
set_option maxRecDepth 100000 in
theorem zlt (B : World) (ta : Option Addr) (tc : Nat) (t : List Nd) (gN g base d : Nat) (hnd : NdIn B gN t) (htb : zaI t = true) (ih : IntW B ta tc t gN g base d) (w : World) (r : Int) (v : Value) (xs : List In13) (hw : Wr13 B w w g base (.slice ta t.length tc) (.slice (some ⟨gN, 0, none⟩) t.length t.length) v v xs)
 (kk nA : Int) (np nf : List UInt8) (gp po pc p0 p1 : Nat) (c0 : w.cell? ⟨gp, po, none⟩ = some (.int .i64 (p0 : Int))) (c1 : w.cell? ⟨gp, po + 1, none⟩ = some (.int .i64 (p1 : Int))) (hgp : gp ≠ g) (hgv : v.ownBlock ≠ some gp)
 (he0 : 0 ≤ endV t (p0 : Int)) (he1 : 0 ≤ endV t (p1 : Int)) (hd0 : t.length ≤ p0 + d) (hd1 : t.length ≤ p1 + d) (hl0 : p0 < t.length) (hl1 : p1 < t.length) (hr0 : 0 ≤ r) (hr1 : r + 3 * ((d + 1 : Nat) : Int) ≤ 1000) (hx : xs.length + 400 * (d + 1) ≤ 100000) (hF : fo13 (nd12 t [] p0) (nd12 t [] p1) = 1) :
 Calls Tryz.prog 116 #[.pointer (some ⟨g, 0, none⟩), .int .i64 r, .agg #[.int .i64 kk, .int .i64 nA, .string ⟨np.toArray⟩, .string ⟨nf.toArray⟩], .slice (some ⟨gp, po, none⟩) 2 pc] w fun e w' => e = .returned (.tuple #[]) ∧ ∃ u, Wr13 B w w' g base (.slice ta t.length tc) (.slice (some ⟨gN, 0, none⟩) t.length t.length) v u (xs ++ (za3 d t (p1 : Int) r (xs.length : Int) ++ za3 d t (p0 : Int) (r + 1) ((xs.length : Int) + (za3 d t (p1 : Int) r (xs.length : Int)).length) ++ [(kk, r, r + 1, r, [])])) := by
 have hxa : (za3 d t (p1 : Int) r (xs.length : Int)).length ≤ 119 := zbc htb (by omega) (by omega) r _ hr0
 obtain ⟨x, hxe⟩ : ∃ x, za3 d t (p1 : Int) r (xs.length : Int) = x := ⟨_, rfl⟩
 rw [hxe] at hxa
 have hya : (za3 d t (p0 : Int) (r + 1) ((xs.length : Int) + x.length)).length ≤ 119 := zbc htb (by omega) (by omega) (r + 1) _ (by omega)
 obtain ⟨y, hye⟩ : ∃ y, za3 d t (p0 : Int) (r + 1) ((xs.length : Int) + x.length) = y := ⟨_, rfl⟩
 rw [hye] at hya
 rw [hxe, hye]
 have r0 := zcI (os := []) htb hl0
 have r1 := zcI (os := []) htb hl1
 have HO : Hid (∀ X, Calls Tryz.prog 148 #[.agg (nv (nd12 t [] p0)), .agg (nv (nd12 t [] p1))] X fun e w' => e = .returned (.int .i64 1) ∧ Below X.heap.size X w') := fun X => by
  have h := zeM (nd12 t [] p0) (nd12 t [] p1) X r0.2.1 r1.2.1
  rw [hF] at h
  exact h
 obtain ⟨⟨m0, m1, m2, m3⟩, hbg⟩ := zaW w (.int .i64 kk) (.int .i64 nA) (.string ⟨np.toArray⟩) (.string ⟨nf.toArray⟩) 90
 obtain ⟨W0, hW0⟩ : ∃ W0, w.alloc (.cells #[.int .i64 kk, .int .i64 nA, .string ⟨np.toArray⟩, .string ⟨nf.toArray⟩] 90) = W0 := ⟨_, rfl⟩
 obtain ⟨N, hN⟩ : ∃ N, w.heap.size = N := ⟨_, rfl⟩
 rw [hW0] at m0 m1 m2 m3 hbg
 rw [hN] at m0 m1 m2 m3
 have hNl : N < W0.heap.size := World.block_lt_of_cell? W0 ⟨N, 0, none⟩ m0
 have hgpl : gp < w.heap.size := World.block_lt_of_cell? w ⟨gp, po, none⟩ c0
 have hw0 := hw.below hbg
 have e0 := (hbg.cell (p := ⟨gp, po, none⟩) hgpl).trans c0
 have e1 := (hbg.cell (p := ⟨gp, po + 1, none⟩) hgpl).trans c1
 have HC0 : Hid (W0.cell? ⟨gp, po, none⟩ = some (.int .i64 (p0 : Int)) ∧ W0.cell? ⟨gp, po + 1, none⟩ = some (.int .i64 (p1 : Int)) ∧ W0.cell? ⟨N, 0, none⟩ = some (.int .i64 kk)) := ⟨e0, e1, m0⟩
 have st : Hid (Ct13 B w W0 W0 g base (.slice ta t.length tc) (.slice (some ⟨gN, 0, none⟩) t.length t.length) v v xs [gp, N]) := ⟨hw0, fun b hb => by
  simp only [List.mem_cons, List.not_mem_nil, or_false] at hb
  rcases hb with rfl | rfl
  ·
   exact ⟨rfl, Nat.lt_of_lt_of_le hgpl hbg.size, hgp, hgv⟩
  ·
   exact ⟨rfl, hNl, fun e => by have := hw.lt; omega, fun e => by have := (hw.row.lt _ e).2; omega⟩⟩
 have HG : Hid (∀ X, Below W0.heap.size W0 X → X.cell? ⟨g, 1, none⟩ = some (.slice (some ⟨gN, 0, none⟩) t.length t.length) ∧ X.cell? ⟨gp, po, none⟩ = some (.int .i64 (p0 : Int)) ∧ X.cell? ⟨gp, po + 1, none⟩ = some (.int .i64 (p1 : Int)) ∧ X.rangeAt gN (p0 * 60) (nvL (nd12 t [] p0)) ∧ X.rangeAt gN (p1 * 60) (nvL (nd12 t [] p1))) := fun X hb => by
  have s := st.out.below hb
  have hBX := s.w.bB.block gN hnd.1
  exact ⟨s.w.c1, s.cell (by simp) e0, s.cell (by simp) e1, zbN (hnd.2 p0 hl0) hBX, zbN (hnd.2 p1 hl1) hBX⟩
 have HI : Hid (∀ X q ρ u zs, Wr13 B X X g base (.slice ta t.length tc) (.slice (some ⟨gN, 0, none⟩) t.length t.length) u u zs → (q = p1 ∧ ρ = r ∨ q = p0 ∧ ρ = r + 1) → zs.length ≤ xs.length + 300 → Calls Tryz.prog 80 #[.pointer (some ⟨g, 0, none⟩), .int .i64 ρ, .int .i64 (q : Int)] X fun e w' => e = .returned (.tuple #[]) ∧ ∃ u2, Wr13 B X w' g base (.slice ta t.length tc) (.slice (some ⟨gN, 0, none⟩) t.length t.length) u u2 (zs ++ za3 d t (q : Int) ρ (zs.length : Int))) := fun X q ρ u zs h1 h2 h3 => by
  rcases h2 with ⟨rfl, rfl⟩ | ⟨rfl, rfl⟩
  ·
   exact ih X _ _ u zs h1 (by omega) (by omega) (by omega) (by omega) (by omega)
  ·
   exact ih X _ _ u zs h1 (by omega) (by omega) (by omega) (by omega) (by omega)
 have HXa : Hid (za3 d t (p1 : Int) r (xs.length : Int) = x ∧ za3 d t (p0 : Int) (r + 1) (((xs ++ x).length : Nat) : Int) = y) := ⟨hxe, by rw [List.length_append]; rw [← hye]; congr 1⟩
 have HLn : Hid ((xs ++ x).length ≤ xs.length + 119 ∧ (xs ++ x ++ y).length ≤ 1000000) := ⟨by rw [List.length_append]; omega, by rw [List.length_append, List.length_append]; omega⟩
 have hpn0 : (p0 : Int) < (t.length : Int) := by omega
 have hpn1 : (p1 : Int) < (t.length : Int) := by omega
 have hr2 : r ≤ 997 := by omega
 generalize hfq : nd12 t [] = f at *
 generalize (Value.slice ta t.length tc) = tv at *
 obtain ⟨n, hn⟩ : ∃ n, t.length = n := ⟨_, rfl⟩
 rw [hn] at hpn0 hpn1 hl0 hl1 HG HI st hw ⊢
 clear r0 r1 hF hfq ih hnd htb hw hn hNl hgpl hw0 e0 e1 m0 m1 m2 m3 hbg c0 c1 he0 he1 hd0 hd1 hx hxe hye hxa hya hgp hgv hr1
 go_enter Tryz.func116, Tryz.ntmps116
 go_wp2
 refine wp_region_held_drew (S := fun X => Below W0.heap.size W0 X) (by kernel_rfl) ⟨rfl, rfl, rfl, Nat.le_refl _, fun _ _ => rfl⟩ (fun hHeld => ?_)
 refine tkO [(0, 10), (1, 11), (2, 12), (3, 13), (4, 14), (5, 15), (6, 16), (7, 17)] ?_
 repeat (refine tkY ?_ rfl (by rfl) ?_ ?_; rotate_left; (focus (intro wq hSw; have q0 := (HG.out wq hSw).1; have q1 := (HG.out wq hSw).2.1; have q2 := (HG.out wq hSw).2.2.1; clear hSw; first | (go_simp; done) | (go_simp; with_reducible rfl))); simp only [zP])
 refine tkZ ?_
 refine wpAnyH_take (i := 8) (oi := ⟨some 18, _, _, _, _, _⟩) (v := .agg (nv (f p0))) rfl (by kernel_rfl) (by kernel_rfl) (by kernel_rfl) (fun _ _ _ h => h) (zaH (by rfl) _ rfl gN (p0 * 60) (f p0) rfl (fun v h => (HG.out v h).2.2.2.1)) (by assumption) ?_
 simp only [zP]
 refine tkO [(9, 19), (10, 20), (11, 21), (12, 22), (13, 23), (14, 24), (15, 25), (16, 26)] ?_
 repeat (refine tkY ?_ rfl (by rfl) ?_ ?_; rotate_left; (focus (intro wq hSw; have q0 := (HG.out wq hSw).1; have q1 := (HG.out wq hSw).2.1; have q2 := (HG.out wq hSw).2.2.1; clear hSw; first | (go_simp; done) | (go_simp; with_reducible rfl))); simp only [zP])
 refine tkZ ?_
 refine wpAnyH_take (i := 17) (oi := ⟨some 27, _, _, _, _, _⟩) (v := .agg (nv (f p1))) rfl (by kernel_rfl) (by kernel_rfl) (by kernel_rfl) (fun _ _ _ h => h) (zaH (by rfl) _ rfl gN (p1 * 60) (f p1) rfl (fun v h => (HG.out v h).2.2.2.2)) (by assumption) ?_
 simp only [zP]
 refine zR 18 rfl (fun K hK => ?_)
 go_simp
 refine Calls.mono (HO.out _) ?_
 rintro e W4 ⟨rfl, hb4⟩
 dsimp only
 refine hK.out _ _ (by exact hHeld.trans (hb4.mono hHeld.size)) (fun hHeld => ?_)
 clear hK K
 (try simp only [zP])
 refine tkO [(19, 8)] ?_
 repeat (refine tkY ?_ rfl (by rfl) ?_ ?_; rotate_left; (focus (intro wq hSw; clear hSw; first | (go_simp; done) | (go_simp; with_reducible rfl))); simp only [zP])
 refine tkZ ?_
 have s4 : Hid (_) := st.out.below hHeld
 refine wpAnyH_done (by kernel_rfl) ?_ _
 have k0 := s4.out.cell (by simp) HC0.out.1
 have k1 := s4.out.cell (by simp) HC0.out.2.1
 clear hHeld hb4 HG HO st
 go_wp2_with fail
 refine Calls.mono (HI.out _ p1 r _ xs s4.out.w.here (Or.inl ⟨rfl, rfl⟩) (by omega)) ?_
 rintro e W5 ⟨rfl, u1, hw5⟩
 rw [HXa.out.1] at hw5
 have s5 : Hid (_) := s4.out.step hw5
 replace k0 := s5.out.cell (by simp) HC0.out.1
 replace k1 := s5.out.cell (by simp) HC0.out.2.1
 clear hw5 s4
 go_wp2_with fail
 refine Calls.mono (HI.out _ p0 (r + 1) _ (xs ++ x) s5.out.w.here (Or.inr ⟨rfl, rfl⟩) (by have := HLn.out.1; omega)) ?_
 rintro e W6 ⟨rfl, u2, hw6⟩
 rw [HXa.out.2] at hw6
 have s6 : Hid (_) := s5.out.step hw6
 have k2 := s6.out.cell (by simp) HC0.out.2.2
 have HWr : Hid (_) := zc0 B W6 g base _ _ u2 (xs ++ x ++ y) (kk, r, r + 1, r, []) s6.out.w.here HLn.out.2
 unfold zay at HWr
 dsimp only at HWr
 clear hw6 s5 k0 k1
 go_wp2_with fail
 refine Calls.mono HWr.out ?_
 rintro e W7 ⟨rfl, u3, hw7⟩
 have HF : Hid (_) := (s6.out.step hw7).w
 clear hw7 s6 HWr k2
 go_wp2
 go_end0
 exact ⟨rfl, u3, by have h := HF.out; simpa [List.append_assoc] using h⟩
def upA (i : In13) (k : Int) : In13 := (i.1, i.2.1, k, i.2.2.2.1, i.2.2.2.2)
def setA (zs : List In13) (j : Nat) (k : Int) : List In13 := zs.set j (upA (zs.getD j in0) k)
theorem zd0 (zs : List In13) (j : Nat) (k : Int) : (setA zs j k).length = zs.length := by simp [setA]
theorem zim (l r : List In13) (i : In13) (k : Int) : setA (l ++ i :: r) l.length k = l ++ upA i k :: r := by
 unfold setA
 have hg : (l ++ i :: r).getD l.length in0 = i := by simp [List.getD]
 rw [hg]
 simp
theorem zh4 (zs : List In13) (j : Nat) (k : Int) : (insV zs).set (j * 5 + 2) (.int .i64 k) = insV (setA zs j k) := by
 unfold setA
 induction zs generalizing j with
 | nil => simp [insV]
 | cons i l ih =>
  cases j with
  | zero => simp [insV, upA]
  | succ j =>
   have h := ih j
   rw [show (j + 1) * 5 + 2 = j * 5 + 2 + 1 + 1 + 1 + 1 + 1 by omega]
   simp only [insV, zC, h, List.getD_cons_succ]
structure If13 (B w X : World) (base : Nat) (v0 v : Value) (zs : List In13) (n gp p0 p1 p2 : Nat) : Prop where
 co : Co13 w X base v0 v zs
 ln : zs.length = n
 bB : Below B.heap.size B X
 c0 : X.cell? ⟨gp, 0, none⟩ = some (.int .i64 (p0 : Int))
 c1 : X.cell? ⟨gp, 1, none⟩ = some (.int .i64 (p1 : Int))
 c2 : X.cell? ⟨gp, 2, none⟩ = some (.int .i64 (p2 : Int))
 ne : v.ownBlock ≠ some gp
 hb : B.heap.size ≤ base
section
variable {B w X Y : World} {base : Nat} {v0 v u : Value} {zs ys : List In13} {n gp p0 p1 p2 : Nat}
theorem If13.bX (s : If13 B w X base v0 v zs n gp p0 p1 p2) : base ≤ X.heap.size := Nat.le_trans s.co.lh s.co.g.size
theorem If13.val (s : If13 B w X base v0 v zs n gp p0 p1 p2) : ∃ a c, v = .slice a n c := by
 obtain ⟨a, c, e⟩ := zaE s.co.row
 rw [s.ln] at e
 exact ⟨a, c, e⟩
theorem If13.step (s : If13 B w X base v0 v zs n gp p0 p1 p2) (h2 : Co13 X Y base v u ys) {m : Nat} (hm : ys.length = m) : If13 B w Y base v0 u ys m gp p0 p1 p2 := by
 have hl : gp < X.heap.size := World.block_lt_of_cell? X ⟨gp, 0, none⟩ s.c0
 obtain ⟨k1, u1⟩ := h2.keep hl s.ne
 have hc : ∀ j, Y.cell? ⟨gp, j, none⟩ = X.cell? ⟨gp, j, none⟩ := fun j => World.cell?_of_block (a := ⟨gp, j, none⟩) k1
 exact ⟨s.co.trans h2, hm, s.bB.grown h2.g s.bB.size (fun k e => by have := (s.co.row.lt k e).1; have := s.hb; omega), (hc 0).trans s.c0, (hc 1).trans s.c1, (hc 2).trans s.c2, u1, s.hb⟩
theorem If13.push (s : If13 B w X base v0 v zs n gp p0 p1 p2) (x : In13) (hn : n ≤ 1000000) (m : Nat) (hm : m = n + 1) :
 ∃ a' c' Y, (Builtin.append_ #[49, 49] 49 #[v, .slice (some ⟨X.heap.size, 0, none⟩) 1 1]).run Tryz.prog (X.alloc (.cells #[.int .i64 x.1, .int .i64 x.2.1, .int .i64 x.2.2.1, .int .i64 x.2.2.2.1, .string ⟨x.2.2.2.2.toArray⟩] 88)) = .ok (.slice a' m c') Y ∧ If13 B w Y base v0 (.slice a' m c') (zs ++ [x]) m gp p0 p1 p2 := by
 obtain ⟨a', c', Y, hr, hc⟩ := (Co13.new s.co.row s.bX).push x (by rw [s.ln]; omega)
 rw [s.ln, ← hm] at hr hc
 exact ⟨a', c', Y, hr, s.step hc (by rw [List.length_append, s.ln, hm]; rfl)⟩
theorem If13.put {a : Option Addr} {c : Nat} (s : If13 B w X base v0 (.slice a n c) zs n gp p0 p1 p2) (j : Nat) (hj : j < n) (k : Int) :
 ∃ g, a = some ⟨g, 0, none⟩ ∧ (∃ u, X.cell? ⟨g, j * 5 + 2, none⟩ = some u) ∧ X.frozen? ⟨g, j * 5 + 2, none⟩ = false ∧ If13 B w (X.setCell ⟨g, j * 5 + 2, none⟩ (.int .i64 k)) base v0 (.slice a n c) (setA zs j k) n gp p0 p1 p2 := by
 have hrow := s.co.row
 rw [s.ln] at hrow
 obtain ⟨g, cp, e⟩ := zag hrow (by omega)
 injection e with e1 _ e2
 subst e1 e2
 have hlen : (insV zs).length = n * 5 := by rw [zgo, s.ln]
 refine ⟨g, rfl, ?_, hrow.frozenAt (j * 5 + 2), s.step ?_ (by rw [zd0, s.ln])⟩
 ·
  rw [hrow.cellAt (j * 5 + 2) (by omega), List.getElem?_eq_getElem (by omega)]
  exact ⟨_, rfl⟩
 ·
  have hs := hrow.stored (j * 5 + 2) (.int .i64 k)
  rw [zh4] at hs
  exact ⟨by rw [zd0, s.ln]; exact hs.1, hs.2, Or.inl rfl, s.bX⟩
end
theorem zlG (xs x y z : List In13) (r A E : Int) (n1 n3 : Nat) (h1 : (xs ++ x).length = n1) (h3 : (xs ++ x ++ [((7, r, 0, 0, []) : In13)] ++ y).length = n3) :
 setA (setA (xs ++ x ++ [((7, r, 0, 0, []) : In13)] ++ y ++ [((8, 0, 0, 0, []) : In13)]) n1 A ++ z) n3 E = xs ++ (x ++ (7, r, A, 0, []) :: (y ++ (8, 0, E, 0, []) :: z)) := by
 have e1 : xs ++ x ++ [((7, r, 0, 0, []) : In13)] ++ y ++ [((8, 0, 0, 0, []) : In13)] = (xs ++ x) ++ (7, r, 0, 0, []) :: (y ++ [(8, 0, 0, 0, [])]) := by simp
 rw [e1, ← h1, zim]
 have e2 : (xs ++ x ++ upA ((7, r, 0, 0, []) : In13) A :: (y ++ [((8, 0, 0, 0, []) : In13)])) ++ z = (xs ++ x ++ ((7, r, A, 0, []) : In13) :: y) ++ (8, 0, 0, 0, []) :: z := by simp [upA]
 have e3 : (xs ++ x ++ ((7, r, A, 0, []) : In13) :: y).length = n3 := by rw [← h3]; simp
 rw [e2, ← e3, zim]
 simp [upA]
set_option maxHeartbeats 8000000 in
set_option maxRecDepth 100000 in
theorem zkc (B : World) (ta : Option Addr) (tc : Nat) (t : List Nd) (hin : za4 B ta t.length t) (hsh : zam t) (hgood : zb5 t) (hlen : t.length ≤ 60) (htb : zaI t = true) (d : Nat) (ih : Int13 B ta tc t d) (w : World) (a : Nat) (r : Int) (base : Nat) (v : Value) (xs : List In13) (hB : Below B.heap.size B w) (hrow : w.ownsRow base 88 5 v xs.length (insV xs)) (hbase : base ≤ w.heap.size) (hbb : B.heap.size ≤ base) (hp : 0 ≤ endV t (a : Int)) (hd : t.length ≤ a + (d + 1)) (hr0 : 0 ≤ r) (hr1 : r + 3 * ((d + 1 : Nat) : Int) ≤ 1000) (hx : xs.length + 400 * (d + 1) ≤ 100000) (h7 : (t.getD a nd0).1 = 7) :
 Calls Tryz.prog 63 #[v, .slice ta t.length tc, .int .i64 (a : Int), .int .i64 r] w fun e w' => ∃ v', e = .returned v' ∧ Co13 w w' base v v' (xs ++ za3 (d + 1) t (a : Int) r (xs.length : Int)) := by
 obtain ⟨hal, _, _, _, _⟩ := zac hp
 have hmem : t.getD a nd0 ∈ t := by simp [List.getD, hal]
 have hnb := hgood _ hmem
 have hk3 : za7 (t.getD a nd0) = 3 := zbn h7
 have hpl : (za1 t (a : Int)).length = 3 := by rw [zb0, hk3]
 obtain ⟨p0, hp0, hap0, hpe0⟩ := zaw hp (i := 0) (by omega)
 obtain ⟨p1, hp1, hap1, hpe1⟩ := zaw hp (i := 1) (by omega)
 obtain ⟨p2, hp2, hap2, hpe2⟩ := zaw hp (i := 2) (by omega)
 have hl0 : p0 < t.length := (zac hpe0).1
 have hl1 : p1 < t.length := (zac hpe1).1
 have hl2 : p2 < t.length := (zac hpe2).1
 have hpe2x : zad t (za7 (t.getD a nd0)) ((a : Int) + 1) = za1 t (a : Int) := by unfold za1; rw [Int.toNat_natCast]
 have hxl : (za3 d t (p0 : Int) r (xs.length : Int)).length ≤ 119 := zbc htb hl0 (by omega) r _ hr0
 have hr : za3 (d + 1) t (a : Int) r (xs.length : Int) =
  za3 d t (p0 : Int) r (xs.length : Int) ++ (7, r, (xs.length : Int) + (za3 d t (p0 : Int) r (xs.length : Int)).length + 1 + (za3 d t (p1 : Int) r ((xs.length : Int) + (za3 d t (p0 : Int) r (xs.length : Int)).length + 1)).length + 1, 0, []) :: (za3 d t (p1 : Int) r ((xs.length : Int) + (za3 d t (p0 : Int) r (xs.length : Int)).length + 1) ++ (8, 0, (xs.length : Int) + (za3 d t (p0 : Int) r (xs.length : Int)).length + 1 + (za3 d t (p1 : Int) r ((xs.length : Int) + (za3 d t (p0 : Int) r (xs.length : Int)).length + 1)).length + 1 + (za3 d t (p2 : Int) r ((xs.length : Int) + (za3 d t (p0 : Int) r (xs.length : Int)).length + 1 + (za3 d t (p1 : Int) r ((xs.length : Int) + (za3 d t (p0 : Int) r (xs.length : Int)).length + 1)).length + 1)).length, 0, []) :: za3 d t (p2 : Int) r ((xs.length : Int) + (za3 d t (p0 : Int) r (xs.length : Int)).length + 1 + (za3 d t (p1 : Int) r ((xs.length : Int) + (za3 d t (p0 : Int) r (xs.length : Int)).length + 1)).length + 1)) := by
  rw [za3, Int.toNat_natCast]
  simp only
  rw [if_neg (by omega), if_neg (by omega), if_pos h7, hp0, hp1, hp2]
 obtain ⟨x, hxe⟩ : ∃ x, za3 d t (p0 : Int) r (xs.length : Int) = x := ⟨_, rfl⟩
 rw [hxe] at hr hxl
 have hyl : (za3 d t (p1 : Int) r ((xs.length : Int) + x.length + 1)).length ≤ 119 := zbc htb hl1 (by omega) r _ hr0
 obtain ⟨y, hye⟩ : ∃ y, za3 d t (p1 : Int) r ((xs.length : Int) + x.length + 1) = y := ⟨_, rfl⟩
 rw [hye] at hr hyl
 have hzl : (za3 d t (p2 : Int) r ((xs.length : Int) + x.length + 1 + y.length + 1)).length ≤ 119 := zbc htb hl2 (by omega) r _ hr0
 obtain ⟨z, hze⟩ : ∃ z, za3 d t (p2 : Int) r ((xs.length : Int) + x.length + 1 + y.length + 1) = z := ⟨_, rfl⟩
 rw [hze] at hr hzl
 rw [hr]
 obtain ⟨n1, hn1⟩ : ∃ n1, (xs ++ x).length = n1 := ⟨_, rfl⟩
 obtain ⟨n2, hn2⟩ : ∃ n2, n2 = n1 + 1 := ⟨_, rfl⟩
 obtain ⟨n3, hn3⟩ : ∃ n3, (xs ++ x ++ [((7, r, 0, 0, []) : In13)] ++ y).length = n3 := ⟨_, rfl⟩
 obtain ⟨n4, hn4⟩ : ∃ n4, n4 = n3 + 1 := ⟨_, rfl⟩
 obtain ⟨n6, hn6⟩ : ∃ n6, (setA (xs ++ x ++ [((7, r, 0, 0, []) : In13)] ++ y ++ [((8, 0, 0, 0, []) : In13)]) n1 (n4 : Int) ++ z).length = n6 := ⟨_, rfl⟩
 have hz1 : n1 = xs.length + x.length := by rw [← hn1, List.length_append]
 have hz3 : n3 = xs.length + x.length + 1 + y.length := by rw [← hn3]; simp; omega
 have hz6 : n6 = xs.length + x.length + 1 + y.length + 1 + z.length := by rw [← hn6, List.length_append, zd0]; simp; omega
 have HA : Hid (setA (setA (xs ++ x ++ [((7, r, 0, 0, []) : In13)] ++ y ++ [((8, 0, 0, 0, []) : In13)]) n1 (n4 : Int) ++ z) n3 (n6 : Int) = xs ++ (x ++ (7, r, (xs.length : Int) + x.length + 1 + y.length + 1, 0, []) :: (y ++ (8, 0, (xs.length : Int) + x.length + 1 + y.length + 1 + z.length, 0, []) :: z))) := by
  have e1 : (n4 : Int) = (xs.length : Int) + x.length + 1 + y.length + 1 := by omega
  have e2 : (n6 : Int) = (xs.length : Int) + x.length + 1 + y.length + 1 + z.length := by omega
  have h := zlG xs x y z r (n4 : Int) (n6 : Int) n1 n3 hn1 hn3
  rw [e1, e2] at h
  rw [e1, e2]
  exact h
 obtain ⟨bt, ot, rfl, hbt, q0, q1, q2, q3⟩ := (hin.below hB).2 a hal
 obtain ⟨va, vc, rfl⟩ := zaE hrow
 have hvN : ∀ k, w.heap.size ≤ k → (Value.slice va xs.length vc).ownBlock ≠ some k := fun k hk e => by have := (hrow.lt k e).2; omega
 obtain ⟨n, hn⟩ : ∃ n, t.getD a nd0 = n := ⟨_, rfl⟩
 rw [hn] at q0 q1 q2 q3 h7
 obtain ⟨kd, nA, np, nf⟩ := n
 simp only at q0 q1 q2 q3 h7
 subst h7
 obtain ⟨⟨m0, m1, m2, m3⟩, hbg⟩ := zaW w (.int .i64 7) (.int .i64 nA) (.string ⟨np.toArray⟩) (.string ⟨nf.toArray⟩) 90
 obtain ⟨X, hX⟩ : ∃ X, w.alloc (.cells #[.int .i64 7, .int .i64 nA, .string ⟨np.toArray⟩, .string ⟨nf.toArray⟩] 90) = X := ⟨_, rfl⟩
 obtain ⟨N, hN⟩ : ∃ N, w.heap.size = N := ⟨_, rfl⟩
 rw [hX] at m0 m1 m2 m3 hbg
 rw [hN] at m0 m1 m2 m3
 have hNX : N < X.heap.size := World.block_lt_of_cell? X ⟨N, 0, none⟩ m0
 have hBX : Below B.heap.size B X := hB.trans (hbg.mono hB.size)
 have HPt : Hid (_) := zaU (some ⟨bt, ot, none⟩) tc t a X (hin.below hBX) hsh (by omega) hal hnb
 rw [hpe2x, hk3] at HPt
 have HCo : Hid (Co13 w X base (.slice va xs.length vc) (.slice va xs.length vc) xs) := (Co13.new hrow hbase).below hbg
 have Hn0 : Hid (∀ Y, Below X.heap.size X Y → Y.cell? ⟨N, 0, none⟩ = some (.int .i64 7)) := fun Y hy => (hy.cell (p := ⟨N, 0, none⟩) hNX).trans m0
 have HC : Hid (∀ (Y : World) (u : Value) (zs : List In13) (m p : Nat) (c : Int), 0 ≤ endV t (p : Int) → t.length ≤ p + d → c = (m : Int) → m ≤ xs.length + 400 → If13 B w Y base (.slice va xs.length vc) u zs m 0 0 0 0 ∨ (Y.ownsRow base 88 5 u m (insV zs) ∧ zs.length = m ∧ base ≤ Y.heap.size ∧ Below B.heap.size B Y) → Calls Tryz.prog 63 #[u, .slice (some ⟨bt, ot, none⟩) t.length tc, .int .i64 (p : Int), .int .i64 r] Y fun e w' => ∃ v', e = .returned v' ∧ Co13 Y w' base u v' (zs ++ za3 d t (p : Int) r c)) := fun Y u zs m p c h1 h2 h3 h4 h5 => by
  rcases h5 with h5 | ⟨h5, h6, h7, h8⟩
  ·
   have := ih Y p r base u zs h5.bB h5.co.row h5.bX hbb h1 h2 hr0 (by omega) (by rw [h5.ln]; omega)
   rw [h5.ln, ← h3] at this
   exact this
  ·
   have := ih Y p r base u zs h8 (by rw [h6]; exact h5) h7 hbb h1 h2 hr0 (by omega) (by rw [h6]; omega)
   rw [h6, ← h3] at this
   exact this
 have HI : Hid (∀ (Y : World) (u : Value) (zs : List In13) (m gp a0 a1 a2 p : Nat) (c : Int), 0 ≤ endV t (p : Int) → t.length ≤ p + d → c = (m : Int) → m ≤ xs.length + 400 → If13 B w Y base (.slice va xs.length vc) u zs m gp a0 a1 a2 → Calls Tryz.prog 63 #[u, .slice (some ⟨bt, ot, none⟩) t.length tc, .int .i64 (p : Int), .int .i64 r] Y fun e w' => ∃ v', e = .returned v' ∧ Co13 Y w' base u v' (zs ++ za3 d t (p : Int) r c)) := fun Y u zs m gp a0 a1 a2 p c h1 h2 h3 h4 h5 => HC.out Y u zs m p c h1 h2 h3 h4 (Or.inr ⟨by have := h5.co.row; rw [h5.ln] at this; exact this, h5.ln, h5.bX, h5.bB⟩)
 have HvN : Hid (∀ k, N ≤ k → (Value.slice va xs.length vc).ownBlock ≠ some k) := hN ▸ hvN
 have HBX : Hid (Below B.heap.size B X) := hBX
 have HNX : Hid (N < X.heap.size) := hNX
 have hal2 : (a : Int) < (t.length : Int) := by omega
 have hr2 : r ≤ 997 := by omega
 have HPc : Hid ((za1 t (a : Int)).length = 3 ∧ (za1 t (a : Int)).getD 0 0 = (p0 : Int) ∧ (za1 t (a : Int)).getD 1 0 = (p1 : Int) ∧ (za1 t (a : Int)).getD 2 0 = (p2 : Int)) := ⟨hpl, hp0, hp1, hp2⟩
 generalize za1 t (a : Int) = pts at HPt HPc
 have HE0 : Hid (0 ≤ endV t (p0 : Int) ∧ 0 ≤ endV t (p1 : Int) ∧ 0 ≤ endV t (p2 : Int) ∧ t.length ≤ p0 + d ∧ t.length ≤ p1 + d ∧ t.length ≤ p2 + d) := ⟨hpe0, hpe1, hpe2, by omega, by omega, by omega⟩
 have HX : Hid (za3 d t (p0 : Int) r (xs.length : Int) = x ∧ za3 d t (p1 : Int) r (n2 : Int) = y ∧ za3 d t (p2 : Int) r (n4 : Int) = z) := ⟨hxe, by rw [show (n2 : Int) = (xs.length : Int) + x.length + 1 by omega]; exact hye, by rw [show (n4 : Int) = (xs.length : Int) + x.length + 1 + y.length + 1 by omega]; exact hze⟩
 have hn1b : n1 ≤ 100000 := by omega
 have hn3b : n3 ≤ 100000 := by omega
 have hn6b : n6 ≤ 100000 := by omega
 have HN : Hid (n1 ≤ xs.length + 400 ∧ n2 ≤ xs.length + 400 ∧ n3 ≤ xs.length + 400 ∧ n4 ≤ xs.length + 400 ∧ n1 < n4 ∧ n3 < n6 ∧ n2 = n1 + 1 ∧ n4 = n3 + 1) := ⟨by omega, by omega, by omega, by omega, by omega, by omega, hn2, hn4⟩
 have HL : Hid ((xs ++ x).length = n1 ∧ (xs ++ x ++ [((7, r, 0, 0, []) : In13)] ++ y).length = n3 ∧ (setA (xs ++ x ++ [((7, r, 0, 0, []) : In13)] ++ y ++ [((8, 0, 0, 0, []) : In13)]) n1 (n4 : Int) ++ z).length = n6) := ⟨hn1, hn3, hn6⟩
 have h14 : (n1 : Int) < (n4 : Int) := by omega
 have h36 : (n3 : Int) < (n6 : Int) := by omega
 have hbb2 := hbb
 have HNb : Hid (base ≤ N ∧ B.heap.size ≤ base) := ⟨hN ▸ hbase, hbb⟩
 clear hxe hye hze hr ih hpl hp0 hp1 hp2 hn hvN hNX hBX hrow hbase hB hin hsh hgood hlen htb hbb hp hd hx hmem hnb hk3 hpe0 hpe1 hpe2 hl0 hl1 hl2 hpe2x hbg m0 m1 m2 m3 hap0 hap1 hap2 hr1 HC hn1 hn2 hn3 hn4 hn6 hz1 hz3 hz6 hxl hyl hzl
 obtain ⟨nx, hnx⟩ : ∃ nx, xs.length = nx := ⟨_, rfl⟩
 rw [hnx] at HCo HI HvN HX HN HA ⊢
 have HXl : Hid (xs.length = nx) := hnx
 clear hnx
 go_enter Tryz.func63, Tryz.ntmps63
 go_wp2_with fail
 refine Calls.mono HPt.out ?_
 rintro e V ⟨pv, rfl, hpv, hbV⟩
 obtain ⟨gp, cp, rfl⟩ := zag hpv (by omega)
 have c0 : V.cell? ⟨gp, 0, none⟩ = some (.int .i64 (p0 : Int)) := by rw [← HPc.out.2.1]; exact zaB hpv 0 (by have := HPc.out.1; omega)
 have c1 : V.cell? ⟨gp, 1, none⟩ = some (.int .i64 (p1 : Int)) := by rw [← HPc.out.2.2.1]; exact zaB hpv 1 (by have := HPc.out.1; omega)
 have c2 : V.cell? ⟨gp, 2, none⟩ = some (.int .i64 (p2 : Int)) := by rw [← HPc.out.2.2.2]; exact zaB hpv 2 (by have := HPc.out.1; omega)
 have hgp := hpv.lt gp rfl
 have m0 := Hn0.out V hbV
 have st : Hid (If13 B w V base (.slice va nx vc) (.slice va nx vc) xs nx gp p0 p1 p2) := ⟨HCo.out.below hbV, HXl.out, HBX.out.trans (hbV.mono HBX.out.size), c0, c1, c2, HvN.out gp (Nat.le_trans (Nat.le_of_lt HNX.out) hgp.1), HNb.out.2⟩
 clear hpv hbV HPt hgp Hn0 q0 q1 q2 q3 HPc c1 c2 HCo
 go_wp2_with fail
 refine Calls.mono (HI.out V _ xs nx gp p0 p1 p2 p0 _ HE0.out.1 HE0.out.2.2.2.1 rfl (by omega) st.out) ?_
 rintro e W1 ⟨v1, rfl, hco1⟩
 rw [HX.out.1] at hco1
 have s1 : Hid (If13 B w W1 base (.slice va nx vc) v1 (xs ++ x) n1 gp p0 p1 p2) := st.out.step hco1 HL.out.1
 obtain ⟨a1, cc1, rfl⟩ := s1.out.val
 obtain ⟨a2, cc2, W2, hrun2, s2x⟩ := s1.out.push (7, r, 0, 0, []) (by omega) n2 HN.out.2.2.2.2.2.2.1
 have s2 : Hid (If13 B w W2 base (.slice va nx vc) (.slice a2 n2 cc2) (xs ++ x ++ [(7, r, 0, 0, [])]) n2 gp p0 p1 p2) := s2x
 have d1 := s2x.c1
 clear hco1 st c0 m0 s2x s1
 go_wp2_with (at_builtin; refine wpList_append_run rfl (.tmp 53) (.tmp 56) 49 rfl _ _ _ rfl rfl hrun2 ?_; clear hrun2)
 refine Calls.mono (HI.out W2 _ _ n2 gp p0 p1 p2 p1 _ HE0.out.2.1 HE0.out.2.2.2.2.1 rfl HN.out.2.1 s2.out) ?_
 rintro e W3 ⟨v3, rfl, hco3⟩
 rw [HX.out.2.1] at hco3
 have s3 : Hid (If13 B w W3 base (.slice va nx vc) v3 (xs ++ x ++ [(7, r, 0, 0, [])] ++ y) n3 gp p0 p1 p2) := s2.out.step hco3 HL.out.2.1
 obtain ⟨a3, cc3, rfl⟩ := s3.out.val
 obtain ⟨a4, cc4, W4, hrun4, s4x⟩ := s3.out.push (8, 0, 0, 0, []) (by omega) n4 HN.out.2.2.2.2.2.2.2
 obtain ⟨g4, rfl, ⟨u4, hu4⟩, hf4, s5x⟩ := s4x.put n1 HN.out.2.2.2.2.1 (n4 : Int)
 have s5 : Hid (If13 B w (W4.setCell ⟨g4, n1 * 5 + 2, none⟩ (.int .i64 (n4 : Int))) base (.slice va nx vc) (.slice (some ⟨g4, 0, none⟩) n4 cc4) (setA (xs ++ x ++ [(7, r, 0, 0, [])] ++ y ++ [(8, 0, 0, 0, [])]) n1 (n4 : Int)) n4 gp p0 p1 p2) := s5x
 have d2 := s5x.c2
 clear hco3 d1 s2 s3 s4x s5x
 go_wp2_with (at_builtin; refine wpList_append_run rfl (.tmp 67) (.tmp 69) 49 rfl _ _ _ rfl rfl hrun4 ?_; clear hrun4)
 refine Calls.mono (HI.out _ _ _ n4 gp p0 p1 p2 p2 _ HE0.out.2.2.1 HE0.out.2.2.2.2.2 rfl HN.out.2.2.2.1 s5.out) ?_
 rintro e W6 ⟨v6, rfl, hco6⟩
 rw [HX.out.2.2] at hco6
 have s6 := s5.out.step hco6 HL.out.2.2
 obtain ⟨a6, cc6, rfl⟩ := s6.val
 obtain ⟨g6, rfl, ⟨u6, hu6⟩, hf6, s7x⟩ := s6.put n3 HN.out.2.2.2.2.2.1 (n6 : Int)
 have s7 : Hid (Co13 w (W6.setCell ⟨g6, n3 * 5 + 2, none⟩ (.int .i64 (n6 : Int))) base (.slice va nx vc) (.slice (some ⟨g6, 0, none⟩) n6 cc6) (xs ++ (x ++ (7, r, (nx : Int) + x.length + 1 + y.length + 1, 0, []) :: (y ++ (8, 0, (nx : Int) + x.length + 1 + y.length + 1 + z.length, 0, []) :: z)))) := by
  rw [← HA.out]
  exact s7x.co
 clear hco6 d2 s5 s6 s7x HA
 go_wp2
 go_ret
 exact ⟨_, rfl, s7.out⟩
theorem Wr13.put {B w X : World} {g base n c : Nat} {a : Option Addr} {tv nw v0 : Value} {zs : List In13} (h : Wr13 B w X g base tv nw v0 (.slice a n c) zs) (hn : zs.length = n) (j : Nat) (hj : j < n) (k : Int) :
 ∃ gr, a = some ⟨gr, 0, none⟩ ∧ (∃ u, X.cell? ⟨gr, j * 5 + 2, none⟩ = some u) ∧ X.frozen? ⟨gr, j * 5 + 2, none⟩ = false ∧ Wr13 B w (X.setCell ⟨gr, j * 5 + 2, none⟩ (.int .i64 k)) g base tv nw v0 (.slice a n c) (setA zs j k) := by
 have hrow := h.row
 rw [hn] at hrow
 obtain ⟨gr, cp, e⟩ := zag hrow (by omega)
 injection e with e1 _ e2
 subst e1 e2
 have hlen : (insV zs).length = n * 5 := by rw [zgo, hn]
 have hgr := hrow.lt gr rfl
 refine ⟨gr, rfl, ?_, hrow.frozenAt (j * 5 + 2), h.trans ?_⟩
 ·
  rw [hrow.cellAt (j * 5 + 2) (by omega), List.getElem?_eq_getElem (by omega)]
  exact ⟨_, rfl⟩
 ·
  have hs := hrow.stored (j * 5 + 2) (.int .i64 k)
  rw [zh4] at hs
  have hgb := h.gb
  have hBg := h.Bg
  refine ⟨by rw [zd0, hn]; exact hs.1, ?_, h.bB.grown hs.2 h.bB.size (fun q e => by injection e with e; omega), hs.2.size, fun q hq _ hne => hs.2.block q hq (fun e => hne e.symm), Or.inl rfl, Nat.le_trans h.lh h.sz, h.gb, h.Bg⟩
  rw [hs.2.block g h.lt (by intro e; injection e with e; omega)]
  exact h.blk
set_option maxHeartbeats 8000000 in
set_option maxRecDepth 100000 in
theorem implIf (B : World) (ta : Option Addr) (tc : Nat) (t : List Nd) (gN g base d : Nat) (htb : zaI t = true) (ih : IntW B ta tc t gN g base d) (w : World) (r : Int) (v : Value) (xs : List In13) (hw : Wr13 B w w g base (.slice ta t.length tc) (.slice (some ⟨gN, 0, none⟩) t.length t.length) v v xs)
 (gp po pc p0 p1 p2 : Nat) (c0 : w.cell? ⟨gp, po, none⟩ = some (.int .i64 (p0 : Int))) (c1 : w.cell? ⟨gp, po + 1, none⟩ = some (.int .i64 (p1 : Int))) (c2 : w.cell? ⟨gp, po + 2, none⟩ = some (.int .i64 (p2 : Int))) (hgp : gp ≠ g) (hgv : v.ownBlock ≠ some gp)
 (he0 : 0 ≤ endV t (p0 : Int)) (he1 : 0 ≤ endV t (p1 : Int)) (he2 : 0 ≤ endV t (p2 : Int)) (hd0 : t.length ≤ p0 + d) (hd1 : t.length ≤ p1 + d) (hd2 : t.length ≤ p2 + d) (hl0 : p0 < t.length) (hl1 : p1 < t.length) (hl2 : p2 < t.length) (hr0 : 0 ≤ r) (hr1 : r + 3 * ((d + 1 : Nat) : Int) ≤ 1000) (hx : xs.length + 400 * (d + 1) ≤ 100000)
 (res : List In13) (hres : ∀ x y z : List In13, za3 d t (p0 : Int) r (xs.length : Int) = x → za3 d t (p1 : Int) r ((xs.length : Int) + x.length + 1) = y → za3 d t (p2 : Int) r ((xs.length : Int) + x.length + 1 + y.length + 1) = z → res = x ++ (7, r, (xs.length : Int) + x.length + 1 + y.length + 1, 0, []) :: (y ++ (8, 0, (xs.length : Int) + x.length + 1 + y.length + 1 + z.length, 0, []) :: z)) :
 Calls Tryz.prog 114 #[.pointer (some ⟨g, 0, none⟩), .int .i64 r, .slice (some ⟨gp, po, none⟩) 3 pc] w fun e w' => e = .returned (.tuple #[]) ∧ ∃ u, Wr13 B w w' g base (.slice ta t.length tc) (.slice (some ⟨gN, 0, none⟩) t.length t.length) v u (xs ++ res) := by
 have hxl : (za3 d t (p0 : Int) r (xs.length : Int)).length ≤ 119 := zbc htb hl0 (by omega) r _ hr0
 obtain ⟨x, hxe⟩ : ∃ x, za3 d t (p0 : Int) r (xs.length : Int) = x := ⟨_, rfl⟩
 rw [hxe] at hxl
 have hyl : (za3 d t (p1 : Int) r ((xs.length : Int) + x.length + 1)).length ≤ 119 := zbc htb hl1 (by omega) r _ hr0
 obtain ⟨y, hye⟩ : ∃ y, za3 d t (p1 : Int) r ((xs.length : Int) + x.length + 1) = y := ⟨_, rfl⟩
 rw [hye] at hyl
 have hzl : (za3 d t (p2 : Int) r ((xs.length : Int) + x.length + 1 + y.length + 1)).length ≤ 119 := zbc htb hl2 (by omega) r _ hr0
 obtain ⟨z, hze⟩ : ∃ z, za3 d t (p2 : Int) r ((xs.length : Int) + x.length + 1 + y.length + 1) = z := ⟨_, rfl⟩
 rw [hze] at hzl
 have hr := hres x y z hxe hye hze
 rw [hr]
 obtain ⟨n1, hn1⟩ : ∃ n1, (xs ++ x).length = n1 := ⟨_, rfl⟩
 obtain ⟨n2, hn2⟩ : ∃ n2, n2 = n1 + 1 := ⟨_, rfl⟩
 obtain ⟨n3, hn3⟩ : ∃ n3, (xs ++ x ++ [((7, r, 0, 0, []) : In13)] ++ y).length = n3 := ⟨_, rfl⟩
 obtain ⟨n4, hn4⟩ : ∃ n4, n4 = n3 + 1 := ⟨_, rfl⟩
 obtain ⟨n6, hn6⟩ : ∃ n6, (setA (xs ++ x ++ [((7, r, 0, 0, []) : In13)] ++ y ++ [((8, 0, 0, 0, []) : In13)]) n1 (n4 : Int) ++ z).length = n6 := ⟨_, rfl⟩
 have hz1 : n1 = xs.length + x.length := by rw [← hn1, List.length_append]
 have hz3 : n3 = xs.length + x.length + 1 + y.length := by rw [← hn3]; simp; omega
 have hz6 : n6 = xs.length + x.length + 1 + y.length + 1 + z.length := by rw [← hn6, List.length_append, zd0]; simp; omega
 have HA : Hid (setA (setA (xs ++ x ++ [((7, r, 0, 0, []) : In13)] ++ y ++ [((8, 0, 0, 0, []) : In13)]) n1 (n4 : Int) ++ z) n3 (n6 : Int) = xs ++ (x ++ (7, r, (xs.length : Int) + x.length + 1 + y.length + 1, 0, []) :: (y ++ (8, 0, (xs.length : Int) + x.length + 1 + y.length + 1 + z.length, 0, []) :: z))) := by
  have e1 : (n4 : Int) = (xs.length : Int) + x.length + 1 + y.length + 1 := by omega
  have e2 : (n6 : Int) = (xs.length : Int) + x.length + 1 + y.length + 1 + z.length := by omega
  have h := zlG xs x y z r (n4 : Int) (n6 : Int) n1 n3 hn1 hn3
  rw [e1, e2] at h
  rw [e1, e2]
  exact h
 have HI : Hid (∀ X q u zs, Wr13 B X X g base (.slice ta t.length tc) (.slice (some ⟨gN, 0, none⟩) t.length t.length) u u zs → (q = p0 ∨ q = p1 ∨ q = p2) → zs.length ≤ xs.length + 390 → Calls Tryz.prog 80 #[.pointer (some ⟨g, 0, none⟩), .int .i64 r, .int .i64 (q : Int)] X fun e w' => e = .returned (.tuple #[]) ∧ ∃ u2, Wr13 B X w' g base (.slice ta t.length tc) (.slice (some ⟨gN, 0, none⟩) t.length t.length) u u2 (zs ++ za3 d t (q : Int) r (zs.length : Int))) := fun X q u zs h1 h2 h3 => by
  rcases h2 with rfl | rfl | rfl
  ·
   exact ih X _ _ u zs h1 (by omega) (by omega) (by omega) (by omega) (by omega)
  ·
   exact ih X _ _ u zs h1 (by omega) (by omega) (by omega) (by omega) (by omega)
  ·
   exact ih X _ _ u zs h1 (by omega) (by omega) (by omega) (by omega) (by omega)
 have HX : Hid (za3 d t (p0 : Int) r (xs.length : Int) = x ∧ za3 d t (p1 : Int) r (n2 : Int) = y ∧ za3 d t (p2 : Int) r (n4 : Int) = z) := ⟨hxe, by rw [show (n2 : Int) = (xs.length : Int) + x.length + 1 by omega]; exact hye, by rw [show (n4 : Int) = (xs.length : Int) + x.length + 1 + y.length + 1 by omega]; exact hze⟩
 have HL : Hid ((xs ++ x).length = n1 ∧ (xs ++ x ++ [((7, r, 0, 0, []) : In13)]).length = n2 ∧ (xs ++ x ++ [((7, r, 0, 0, []) : In13)] ++ y).length = n3 ∧ (xs ++ x ++ [((7, r, 0, 0, []) : In13)] ++ y ++ [((8, 0, 0, 0, []) : In13)]).length = n4 ∧ (setA (xs ++ x ++ [((7, r, 0, 0, []) : In13)] ++ y ++ [((8, 0, 0, 0, []) : In13)]) n1 (n4 : Int)).length = n4 ∧ (setA (xs ++ x ++ [((7, r, 0, 0, []) : In13)] ++ y ++ [((8, 0, 0, 0, []) : In13)]) n1 (n4 : Int) ++ z).length = n6) := ⟨hn1, by rw [List.length_append, hn1, hn2]; rfl, hn3, by rw [List.length_append, hn3, hn4]; rfl, by rw [zd0, List.length_append, hn3, hn4]; rfl, hn6⟩
 have HN : Hid (n1 ≤ xs.length + 390 ∧ n2 ≤ xs.length + 390 ∧ n3 ≤ xs.length + 390 ∧ n4 ≤ xs.length + 390 ∧ n1 < n4 ∧ n3 < n6 ∧ xs.length ≤ 100000) := ⟨by omega, by omega, by omega, by omega, by omega, by omega, by omega⟩
 have h14 : (n1 : Int) < (n4 : Int) := by omega
 have h36 : (n3 : Int) < (n6 : Int) := by omega
 have hn1b : n1 ≤ 100500 := by omega
 have hn3b : n3 ≤ 100500 := by omega
 have hn4b : n4 ≤ 100500 := by omega
 have hn6b : n6 ≤ 100500 := by omega
 have hgpl : gp < w.heap.size := World.block_lt_of_cell? w ⟨gp, po, none⟩ c0
 have st : Hid (Ct13 B w w w g base (.slice ta t.length tc) (.slice (some ⟨gN, 0, none⟩) t.length t.length) v v xs [gp]) := ⟨hw, fun b hb => by
  simp only [List.mem_cons, List.not_mem_nil, or_false] at hb
  subst hb
  exact ⟨rfl, hgpl, hgp, hgv⟩⟩
 have HC0 : Hid (w.cell? ⟨gp, po, none⟩ = some (.int .i64 (p0 : Int)) ∧ w.cell? ⟨gp, po + 1, none⟩ = some (.int .i64 (p1 : Int)) ∧ w.cell? ⟨gp, po + 2, none⟩ = some (.int .i64 (p2 : Int))) := ⟨c0, c1, c2⟩
 have hr2 : r ≤ 997 := by omega
 generalize (Value.slice ta t.length tc) = tv at *
 generalize (Value.slice (some ⟨gN, 0, none⟩) t.length t.length) = nw at *
 clear hxe hye hze hr hres ih hgpl hw c1 c2 he0 he1 he2 hd0 hd1 hd2 hl0 hl1 hl2 hx htb hgp hgv hxl hyl hzl hz1 hz3 hz6 hn1 hn2 hn3 hn4 hn6 hr1
 go_enter Tryz.func114, Tryz.ntmps114
 go_wp2_with fail
 refine Calls.mono (HI.out _ p0 _ xs st.out.w.here (Or.inl rfl) (by omega)) ?_
 rintro e W1 ⟨rfl, v1, hw1⟩
 rw [HX.out.1] at hw1
 have s1 : Hid (Ct13 B w w W1 g base tv nw v v1 (xs ++ x) [gp]) := st.out.step hw1
 have HW1 : Hid (Calls Tryz.prog 81 #[.pointer (some ⟨g, 0, none⟩), .agg #[.int .i64 7, .int .i64 r, .int .i64 0, .int .i64 0, .string ⟨#[]⟩]] W1 fun e w' => e = .returned (.int .i64 (n1 : Int)) ∧ ∃ u, Wr13 B W1 w' g base tv nw v1 u (xs ++ x ++ [(7, r, 0, 0, [])])) := by
  have h := zc0 B W1 g base tv nw v1 (xs ++ x) (7, r, 0, 0, []) s1.out.w.here (by rw [HL.out.1]; omega)
  rw [HL.out.1] at h
  exact h
 clear hw1 st c0
 go_wp2_with fail
 refine Calls.mono HW1.out ?_
 rintro e W2 ⟨rfl, v2, hw2⟩
 have s2 : Hid (Ct13 B w w W2 g base tv nw v v2 (xs ++ x ++ [(7, r, 0, 0, [])]) [gp]) := s1.out.step hw2
 have k1 := s2.out.cell (by simp) HC0.out.2.1
 clear hw2 s1 HW1
 go_wp2_with fail
 refine Calls.mono (HI.out _ p1 _ (xs ++ x ++ [(7, r, 0, 0, [])]) s2.out.w.here (Or.inr (Or.inl rfl)) (by rw [HL.out.2.1]; exact HN.out.2.1)) ?_
 rintro e W3 ⟨rfl, v3, hw3⟩
 rw [HL.out.2.1, HX.out.2.1] at hw3
 have s3 : Hid (Ct13 B w w W3 g base tv nw v v3 (xs ++ x ++ [(7, r, 0, 0, [])] ++ y) [gp]) := s2.out.step hw3
 have HW3 : Hid (Calls Tryz.prog 81 #[.pointer (some ⟨g, 0, none⟩), .agg #[.int .i64 8, .int .i64 0, .int .i64 0, .int .i64 0, .string ⟨#[]⟩]] W3 fun e w' => e = .returned (.int .i64 (n3 : Int)) ∧ ∃ u, Wr13 B W3 w' g base tv nw v3 u (xs ++ x ++ [(7, r, 0, 0, [])] ++ y ++ [(8, 0, 0, 0, [])])) := by
  have h := zc0 B W3 g base tv nw v3 (xs ++ x ++ [(7, r, 0, 0, [])] ++ y) (8, 0, 0, 0, []) s3.out.w.here (by rw [HL.out.2.2.1]; omega)
  rw [HL.out.2.2.1] at h
  exact h
 clear hw3 s2 k1
 go_wp2_with fail
 refine Calls.mono HW3.out ?_
 rintro e W4 ⟨rfl, v4, hw4⟩
 have s4 : Hid (Ct13 B w w W4.drew g base tv nw v v4 (xs ++ x ++ [(7, r, 0, 0, [])] ++ y ++ [(8, 0, 0, 0, [])]) [gp]) := (s3.out.step hw4).below ⟨rfl, rfl, rfl, Nat.le_refl _, fun _ _ => rfl⟩
 clear hw4 s3 HW3
 obtain ⟨a4, cc4, hv4⟩ := s4.out.w.val
 rw [HL.out.2.2.2.1] at hv4
 subst hv4
 obtain ⟨gr4, rfl, ⟨u4, y4⟩, yf4, hp4⟩ := s4.out.w.here.put HL.out.2.2.2.1 n1 (by have := HN.out; omega) (n4 : Int)
 have s5 : Hid (Ct13 B w w (W4.drew.setCell ⟨gr4, n1 * 5 + 2, none⟩ (.int .i64 (n4 : Int))) g base tv nw v (.slice (some ⟨gr4, 0, none⟩) n4 cc4) (setA (xs ++ x ++ [((7, r, 0, 0, []) : In13)] ++ y ++ [((8, 0, 0, 0, []) : In13)]) n1 (n4 : Int)) [gp]) := s4.out.step hp4
 have HSv4 : Hid (W4.drew.cell? ⟨g, 2, none⟩ = some (.slice (some ⟨gr4, 0, none⟩) n4 cc4)) := s4.out.w.c2
 have HBe4 : Hid (_) := zdb g n4 (some ⟨gr4, 0, none⟩) cc4 W4.drew HSv4.out (by omega)
 obtain ⟨X5, hX5⟩ : ∃ X5, W4.drew.setCell ⟨gr4, n1 * 5 + 2, none⟩ (.int .i64 (n4 : Int)) = X5 := ⟨_, rfl⟩
 rw [hX5] at s5
 clear hp4 s4
 go_wp2
 refine Till.region (S := fun X => X.cell? ⟨g, 2, none⟩ = some (.slice (some ⟨gr4, 0, none⟩) n4 cc4)) (E := [9]) (by kernel_rfl) HSv4.out (fun hHeld hSh => ?_)
 refine tkO [(0, 27), (1, 28), (2, 29), (3, 30), (4, 31), (5, 32)] ?_
 repeat (refine tlY ?_ rfl (by rfl) ?_ (fun hSh2 => ?_); rotate_left; (focus (intro wq hSw; have q2 := hSw; clear hSw; first | (go_simp; done) | (go_simp; with_reducible rfl))); clear hSh; rename zaJ _ _ _ => hSh; simp only [zP])
 refine tkZ ?_
 refine Till.one (i := 6) (by kernel_rfl) rfl hSh (fun K hK => ?_)
 clear hSh
 go_simp
 refine Calls.mono HBe4.out ?_
 rintro e w3 ⟨rfl, rfl⟩
 dsimp only
 refine hK.out _ _ (by exact hHeld) (fun hHeld hSh => ?_)
 clear hK K
 (try simp only [zP])
 refine tkO [(7, 34), (8, 35)] ?_
 repeat (refine tlY ?_ rfl (by rfl) ?_ (fun hSh2 => ?_); rotate_left; (focus (intro wq hSw; have q2 := hSw; clear hSw; first | (go_simp; done) | (go_simp; with_reducible rfl))); clear hSh; rename zaJ _ _ _ => hSh; simp only [zP])
 refine tkZ ?_
 refine Till.last (i := 9) (by kernel_rfl) rfl (by decide) (fun K hK => ?_)
 go_simp
 refine hK.out _ _ ?_
 clear hK K
 refine Till.done (by kernel_rfl) ?_ _
 clear hHeld hSh HSv4 HBe4 y4 yf4 hX5
 have k2 := s5.out.cell (by simp) HC0.out.2.2
 go_wp2_with fail
 refine Calls.mono (HI.out _ p2 _ (setA (xs ++ x ++ [((7, r, 0, 0, []) : In13)] ++ y ++ [((8, 0, 0, 0, []) : In13)]) n1 (n4 : Int)) s5.out.w.here (Or.inr (Or.inr rfl)) (by rw [HL.out.2.2.2.2.1]; exact HN.out.2.2.2.1)) ?_
 rintro e W6 ⟨rfl, v6, hw6⟩
 rw [HL.out.2.2.2.2.1, HX.out.2.2] at hw6
 have s6 : Hid (Ct13 B w w W6.drew g base tv nw v v6 (setA (xs ++ x ++ [((7, r, 0, 0, []) : In13)] ++ y ++ [((8, 0, 0, 0, []) : In13)]) n1 (n4 : Int) ++ z) [gp]) := (s5.out.step hw6).below ⟨rfl, rfl, rfl, Nat.le_refl _, fun _ _ => rfl⟩
 clear hw6 s5 k2
 obtain ⟨a6, cc6, hv6⟩ := s6.out.w.val
 rw [HL.out.2.2.2.2.2] at hv6
 subst hv6
 obtain ⟨gr6, rfl, ⟨u6, y6⟩, yf6, hp6⟩ := s6.out.w.here.put HL.out.2.2.2.2.2 n3 (by have := HN.out; omega) (n6 : Int)
 have s7 : Hid (Ct13 B w w (W6.drew.setCell ⟨gr6, n3 * 5 + 2, none⟩ (.int .i64 (n6 : Int))) g base tv nw v (.slice (some ⟨gr6, 0, none⟩) n6 cc6) (setA (setA (xs ++ x ++ [((7, r, 0, 0, []) : In13)] ++ y ++ [((8, 0, 0, 0, []) : In13)]) n1 (n4 : Int) ++ z) n3 (n6 : Int)) [gp]) := s6.out.step hp6
 rw [HA.out] at s7
 have HSv6 : Hid (W6.drew.cell? ⟨g, 2, none⟩ = some (.slice (some ⟨gr6, 0, none⟩) n6 cc6)) := s6.out.w.c2
 have HBe6 : Hid (_) := zdb g n6 (some ⟨gr6, 0, none⟩) cc6 W6.drew HSv6.out (by omega)
 obtain ⟨X7, hX7⟩ : ∃ X7, W6.drew.setCell ⟨gr6, n3 * 5 + 2, none⟩ (.int .i64 (n6 : Int)) = X7 := ⟨_, rfl⟩
 rw [hX7] at s7
 clear hp6 s6
 go_wp2
 refine Till.region (S := fun X => X.cell? ⟨g, 2, none⟩ = some (.slice (some ⟨gr6, 0, none⟩) n6 cc6)) (E := [9]) (by kernel_rfl) HSv6.out (fun hHeld hSh => ?_)
 refine tkO [(0, 42), (1, 43), (2, 44), (3, 45), (4, 46), (5, 47)] ?_
 repeat (refine tlY ?_ rfl (by rfl) ?_ (fun hSh2 => ?_); rotate_left; (focus (intro wq hSw; have q2 := hSw; clear hSw; first | (go_simp; done) | (go_simp; with_reducible rfl))); clear hSh; rename zaJ _ _ _ => hSh; simp only [zP])
 refine tkZ ?_
 refine Till.one (i := 6) (by kernel_rfl) rfl hSh (fun K hK => ?_)
 clear hSh
 go_simp
 refine Calls.mono HBe6.out ?_
 rintro e w3 ⟨rfl, rfl⟩
 dsimp only
 refine hK.out _ _ (by exact hHeld) (fun hHeld hSh => ?_)
 clear hK K
 (try simp only [zP])
 refine tkO [(7, 49), (8, 50)] ?_
 repeat (refine tlY ?_ rfl (by rfl) ?_ (fun hSh2 => ?_); rotate_left; (focus (intro wq hSw; have q2 := hSw; clear hSw; first | (go_simp; done) | (go_simp; with_reducible rfl))); clear hSh; rename zaJ _ _ _ => hSh; simp only [zP])
 refine tkZ ?_
 refine Till.last (i := 9) (by kernel_rfl) rfl (by decide) (fun K hK => ?_)
 go_simp
 refine hK.out _ _ ?_
 clear hK K
 refine Till.done (by kernel_rfl) ?_ _
 clear hHeld hSh HSv6 HBe6 y6 yf6 hX7
 go_wp2
 go_end0
 exact ⟨rfl, _, s7.out.w⟩
end Go.Proofs.YtkpdoedpkncboaaGreat
