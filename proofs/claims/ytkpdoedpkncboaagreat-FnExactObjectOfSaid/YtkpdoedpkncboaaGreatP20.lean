/-
  Parts of one proof, one behind the other: IntoS5, WrD.
-/
import Derived.Test.YtkpdoedpkncboaaGreatP19
namespace Go.Proofs.YtkpdoedpkncboaaGreat
open Go.RowKit
theorem zfl (f : Int → Int → Int → List In13) : ∀ (ps : List Int) (p r c : Int), zat f (ps ++ [p]) r c = zat f ps r c ++ f p (r + ps.length) (c + (zat f ps r c).length)
 | [], p, r, c => by simp [zat]
 | q :: ps, p, r, c => by
  rw [List.cons_append, zat, zat, zfl f ps p (r + 1) _, List.append_assoc]
  congr 3
  ·
   simp only [List.length_cons]; omega
  ·
   simp only [List.length_append]; omega
structure Ca13 (B w X : World) (base : Nat) (v0 v : Value) (zs : List In13) (n gp N m : Nat) (pts : List Int) (nA : Int) (np nf : List UInt8) : Prop where
 co : Co13 w X base v0 v zs
 ln : zs.length = n
 bB : Below B.heap.size B X
 cs : ∀ j, j < m → X.cell? ⟨gp, j, none⟩ = some (.int .i64 (pts.getD j 0))
 gl : gp < X.heap.size
 c1 : X.cell? ⟨N, 1, none⟩ = some (.int .i64 nA)
 c2 : X.cell? ⟨N, 2, none⟩ = some (.string ⟨np.toArray⟩)
 c3 : X.cell? ⟨N, 3, none⟩ = some (.string ⟨nf.toArray⟩)
 ne : v.ownBlock ≠ some gp
 nN : v.ownBlock ≠ some N
 hb : B.heap.size ≤ base
section
variable {B w X Y : World} {base : Nat} {v0 v u : Value} {zs ys : List In13} {n gp N m : Nat} {pts : List Int} {nA : Int} {np nf : List UInt8}
theorem Ca13.bX (s : Ca13 B w X base v0 v zs n gp N m pts nA np nf) : base ≤ X.heap.size := Nat.le_trans s.co.lh s.co.g.size
theorem Ca13.val (s : Ca13 B w X base v0 v zs n gp N m pts nA np nf) : ∃ a c, v = .slice a n c := by
 obtain ⟨a, c, e⟩ := zaE s.co.row
 rw [s.ln] at e
 exact ⟨a, c, e⟩
theorem Ca13.step (s : Ca13 B w X base v0 v zs n gp N m pts nA np nf) (h2 : Co13 X Y base v u ys) {k : Nat} (hm : ys.length = k) : Ca13 B w Y base v0 u ys k gp N m pts nA np nf := by
 obtain ⟨k1, u1⟩ := h2.keep s.gl s.ne
 obtain ⟨k2, u2⟩ := h2.keep (World.block_lt_of_cell? X ⟨N, 1, none⟩ s.c1) s.nN
 have hN : ∀ j, Y.cell? ⟨N, j, none⟩ = X.cell? ⟨N, j, none⟩ := fun j => World.cell?_of_block (a := ⟨N, j, none⟩) k2
 exact ⟨s.co.trans h2, hm, s.bB.grown h2.g s.bB.size (fun k e => by have := (s.co.row.lt k e).1; have := s.hb; omega), fun j hj => (World.cell?_of_block (a := ⟨gp, j, none⟩) k1).trans (s.cs j hj), Nat.lt_of_lt_of_le s.gl h2.g.size, (hN 1).trans s.c1, (hN 2).trans s.c2, (hN 3).trans s.c3, u1, u2, s.hb⟩
end
set_option maxHeartbeats 8000000 in
set_option maxRecDepth 100000 in
theorem zkb (B : World) (ta : Option Addr) (tc : Nat) (t : List Nd) (hin : za4 B ta t.length t) (hsh : zam t) (hgood : zb5 t) (hlen : t.length ≤ 60) (htb : zaI t = true) (d : Nat) (ih : Int13 B ta tc t d) (w : World) (a : Nat) (r : Int) (base : Nat) (v : Value) (xs : List In13) (hB : Below B.heap.size B w) (hrow : w.ownsRow base 88 5 v xs.length (insV xs)) (hbase : base ≤ w.heap.size) (hbb : B.heap.size ≤ base) (hp : 0 ≤ endV t (a : Int)) (hd : t.length ≤ a + (d + 1)) (hr0 : 0 ≤ r) (hr1 : r + 3 * ((d + 1 : Nat) : Int) ≤ 1000) (hx : xs.length + 400 * (d + 1) ≤ 100000) (h8 : (t.getD a nd0).1 = 8) :
 Calls Tryz.prog 63 #[v, .slice ta t.length tc, .int .i64 (a : Int), .int .i64 r] w fun e w' => ∃ v', e = .returned v' ∧ Co13 w w' base v v' (xs ++ za3 (d + 1) t (a : Int) r (xs.length : Int)) := by
 obtain ⟨hal, -, -, -, -⟩ := zac hp
 have hmem : t.getD a nd0 ∈ t := by simp [List.getD, hal]
 have hnb := hgood _ hmem
 have hk3 : za7 (t.getD a nd0) ≤ 3 := (zaT hnb).2
 have hpl : (za1 t (a : Int)).length = za7 (t.getD a nd0) := zb0 t a
 have HPl : Hid (∀ i, i < za7 (t.getD a nd0) → ∃ p : Nat, (za1 t (a : Int)).getD i 0 = (p : Int) ∧ 0 ≤ endV t (p : Int) ∧ p < t.length ∧ t.length ≤ p + d) := fun i hi => by
  obtain ⟨p, h1, h2, h3⟩ := zaw hp hi
  exact ⟨p, h1, h3, (zac h3).1, by omega⟩
 have hpe : zad t (za7 (t.getD a nd0)) ((a : Int) + 1) = za1 t (a : Int) := by unfold za1; rw [Int.toNat_natCast]
 have hr : za3 (d + 1) t (a : Int) r (xs.length : Int) = zat (za3 d t) (za1 t (a : Int)) r (xs.length : Int) ++ [(9, r, (t.getD a nd0).2.1, 0, (t.getD a nd0).2.2.1 ++ 46 :: (t.getD a nd0).2.2.2)] := by
  rw [za3, Int.toNat_natCast]
  simp only
  rw [if_neg (by omega), if_neg (by omega), if_neg (by omega), if_pos h8]
 rw [hr]
 have hs1 := (hsh a).1
 have hs2 := (hsh a).2
 obtain ⟨bt, ot, rfl, hbt, q0, q1, q2, q3⟩ := (hin.below hB).2 a hal
 obtain ⟨va, vc, rfl⟩ := zaE hrow
 have hvN : ∀ k, w.heap.size ≤ k → (Value.slice va xs.length vc).ownBlock ≠ some k := fun k hk e => by have := (hrow.lt k e).2; omega
 obtain ⟨n, hn⟩ : ∃ n, t.getD a nd0 = n := ⟨_, rfl⟩
 have hnb2 := hnb
 rw [hn] at q0 q1 q2 q3 h8 hs1 hs2 hk3 hpl HPl hpe ⊢
 obtain ⟨kd, nA, np, nf⟩ := n
 simp only at q0 q1 q2 q3 h8 hs1 hs2 ⊢
 subst h8
 obtain ⟨m, hm⟩ : ∃ m, za7 ((8, nA, np, nf) : Nd) = m := ⟨_, rfl⟩
 rw [hm] at hk3 hpl HPl
 obtain ⟨⟨m0, m1, m2, m3⟩, hbg⟩ := zaW w (.int .i64 8) (.int .i64 nA) (.string ⟨np.toArray⟩) (.string ⟨nf.toArray⟩) 90
 obtain ⟨X, hX⟩ : ∃ X, w.alloc (.cells #[.int .i64 8, .int .i64 nA, .string ⟨np.toArray⟩, .string ⟨nf.toArray⟩] 90) = X := ⟨_, rfl⟩
 obtain ⟨N, hN⟩ : ∃ N, w.heap.size = N := ⟨_, rfl⟩
 rw [hX] at m0 m1 m2 m3 hbg
 rw [hN] at m0 m1 m2 m3
 have hNX : N < X.heap.size := World.block_lt_of_cell? X ⟨N, 0, none⟩ m0
 have hBX : Below B.heap.size B X := hB.trans (hbg.mono hB.size)
 have HPt : Hid (_) := zaU (some ⟨bt, ot, none⟩) tc t a X (hin.below hBX) hsh (by omega) hal hnb2
 rw [hn, hpe, hm] at HPt
 have HCo : Hid (Co13 w X base (.slice va xs.length vc) (.slice va xs.length vc) xs) := (Co13.new hrow hbase).below hbg
 have Hn0 : Hid (∀ Y, Below X.heap.size X Y → Y.cell? ⟨N, 0, none⟩ = some (.int .i64 8) ∧ Y.cell? ⟨N, 1, none⟩ = some (.int .i64 nA) ∧ Y.cell? ⟨N, 2, none⟩ = some (.string ⟨np.toArray⟩) ∧ Y.cell? ⟨N, 3, none⟩ = some (.string ⟨nf.toArray⟩)) := fun Y hy => ⟨(hy.cell (p := ⟨N, 0, none⟩) hNX).trans m0, (hy.cell (p := ⟨N, 1, none⟩) hNX).trans m1, (hy.cell (p := ⟨N, 2, none⟩) hNX).trans m2, (hy.cell (p := ⟨N, 3, none⟩) hNX).trans m3⟩
 have HIl : Hid (∀ (p : Nat) (q c : Int), p < t.length → t.length ≤ p + d → 0 ≤ q → (za3 d t (p : Int) q c).length ≤ 119) := fun p q c h1 h2 h3 => zbc htb h1 h2 q c h3
 have HI : Hid (∀ (Y : World) (u : Value) (zs : List In13) (k gp p : Nat) (q : Int) (pts : List Int), 0 ≤ endV t (p : Int) → t.length ≤ p + d → k ≤ xs.length + 400 → 0 ≤ q → q ≤ r + 2 → Ca13 B w Y base (.slice va xs.length vc) u zs k gp N m pts nA np nf → Calls Tryz.prog 63 #[u, .slice (some ⟨bt, ot, none⟩) t.length tc, .int .i64 (p : Int), .int .i64 q] Y fun e w' => ∃ v', e = .returned v' ∧ Co13 Y w' base u v' (zs ++ za3 d t (p : Int) q (k : Int))) := fun Y u zs k gp p q pts h1 h2 h4 h6 h7 h5 => by
  have := ih Y p q base u zs h5.bB h5.co.row h5.bX hbb h1 h2 h6 (by omega) (by rw [h5.ln]; omega)
  rw [h5.ln] at this
  exact this
 have HvN : Hid (∀ k, N ≤ k → (Value.slice va xs.length vc).ownBlock ≠ some k) := hN ▸ hvN
 have HBX : Hid (Below B.heap.size B X) := hBX
 have HNX : Hid (N < X.heap.size) := hNX
 have hal2 : (a : Int) < (t.length : Int) := by omega
 have hr2 : r ≤ 997 := by omega
 have hadd1 : ∀ W : World, (Op.stringOp .add ⟨np.toArray⟩ ⟨#[46]⟩).run Tryz.prog W = .ok (.string ⟨(np ++ [46]).toArray⟩) W := fun W => run_string_add_lists (P := Tryz.prog) W np [46] (by omega) (by simp)
 have hadd2 : ∀ W : World, (Op.stringOp .add ⟨(np ++ [46]).toArray⟩ ⟨nf.toArray⟩).run Tryz.prog W = .ok (.string ⟨(np ++ 46 :: nf).toArray⟩) W := fun W => by
  have h := run_string_add_lists (P := Tryz.prog) W (np ++ [46]) nf (by simp; omega) (by omega)
  rw [List.append_assoc] at h
  exact h
 generalize za1 t (a : Int) = pts at HPt HPl hpl ⊢
 have HPn : Hid (pts.length = m) := hpl
 have HNb : Hid (base ≤ N ∧ B.heap.size ≤ base) := ⟨hN ▸ hbase, hbb⟩
 clear hr ih hpl hn hvN hNX hBX hrow hbase hB hin hsh hgood hlen htb hbb hp hd hmem hnb hnb2 hpe hbg m0 m1 m2 m3 hr1 hm
 obtain ⟨nx, hnx⟩ : ∃ nx, xs.length = nx := ⟨_, rfl⟩
 rw [hnx] at HCo HI HvN hx ⊢
 have HXl : Hid (xs.length = nx) := hnx
 clear hnx
 have hnx5 : nx ≤ 100000 := by omega
 clear hx
 go_enter Tryz.func63, Tryz.ntmps63
 go_wp2_with fail
 refine Calls.mono HPt.out ?_
 rintro e V ⟨pv, rfl, hpv, hbV⟩
 obtain ⟨la, lc, rfl⟩ := zaE hpv
 obtain ⟨y0, y1, y2, y3⟩ := Hn0.out V hbV
 have hst : ∃ gp, (0 < m → la = some ⟨gp, 0, none⟩) ∧ Ca13 B w V base (.slice va nx vc) (.slice va nx vc) xs nx gp N m pts nA np nf := by
  have hNV : N < V.heap.size := World.block_lt_of_cell? V ⟨N, 0, none⟩ y0
  have hbBV := HBX.out.trans (hbV.mono HBX.out.size)
  by_cases hm0 : 0 < m
  ·
   obtain ⟨gp, cp, e⟩ := zag hpv (by omega)
   injection e with e1 _ e2
   subst e1 e2
   have hgp := hpv.lt gp rfl
   exact ⟨gp, fun _ => rfl, HCo.out.below hbV, HXl.out, hbBV, fun j hj => zaB hpv j (by rw [HPn.out]; exact hj), hgp.2, y1, y2, y3, HvN.out gp (Nat.le_trans (Nat.le_of_lt HNX.out) hgp.1), HvN.out N (Nat.le_refl _), HNb.out.2⟩
  ·
   exact ⟨N, fun h => absurd h hm0, HCo.out.below hbV, HXl.out, hbBV, fun j hj => by omega, hNV, y1, y2, y3, HvN.out N (Nat.le_refl _), HvN.out N (Nat.le_refl _), HNb.out.2⟩
 obtain ⟨gp, hla, st0⟩ := hst
 have st : Hid (Ca13 B w V base (.slice va nx vc) (.slice va nx vc) xs nx gp N m pts nA np nf) := st0
 have HLa : Hid (0 < m → la = some ⟨gp, 0, none⟩) := hla
 clear hpv hbV HPt Hn0 q0 q1 q2 q3 HCo hla st0 y1 y2 y3
 go_wp2
 go_loopw [0, 13] (fun v iv wx => ∃ (i k : Nat) (a' : Option Addr) (c' : Nat), iv = .int .i64 (i : Int) ∧ v = .slice a' k c' ∧ i ≤ m ∧ k ≤ nx + 119 * i ∧ Hid (Ca13 B w wx base (.slice va nx vc) (.slice a' k c') (xs ++ zat (za3 d t) (pts.take i) r (nx : Int)) k gp N m pts nA np nf)) (fun _ iv _ => m - (intOf iv).toNat)
 case atStart => exact ⟨0, nx, va, vc, rfl, rfl, Nat.zero_le _, by omega, by rw [List.take_zero]; exact (by rw [show xs ++ zat (za3 d t) [] r (nx : Int) = xs by simp [zat]]; exact st)⟩
 case round =>
  obtain ⟨i, k, a', c', rfl, rfl, hi, hk, sr⟩ := hrel
  clear st y0
  by_cases hlt : (i : Int) < (m : Int)
  ·
   obtain ⟨p, hpp, hpe, hpt, hpd⟩ := HPl.out i (by omega)
   obtain rfl := HLa.out (by omega)
   have ci := sr.out.cs i (by omega)
   rw [hpp] at ci
   have HC : Hid (_) := HI.out wr _ _ k gp p (r + (i : Int)) pts hpe hpd (by omega) (by omega) (by omega) sr.out
   have HIp : Hid (_) := HIl.out p (r + (i : Int)) (k : Int) hpt hpd (by omega)
   have HSn : Hid (xs ++ zat (za3 d t) (pts.take (i + 1)) r (nx : Int) = xs ++ zat (za3 d t) (pts.take i) r (nx : Int) ++ za3 d t (p : Int) (r + (i : Int)) (k : Int)) := by
    have hil : i < pts.length := by rw [HPn.out]; omega
    have hgd : pts.getD i 0 = pts[i] := by simp [List.getD, hil]
    have hkl := sr.out.ln
    rw [List.length_append, HXl.out] at hkl
    exact (by rw [List.take_succ_eq_append_getElem hil, zfl, ← hgd, hpp, List.append_assoc, List.length_take, Nat.min_eq_left (by omega), show (nx : Int) + ((zat (za3 d t) (pts.take i) r (nx : Int)).length : Int) = (k : Int) by omega] : xs ++ zat (za3 d t) (pts.take (i + 1)) r (nx : Int) = xs ++ zat (za3 d t) (pts.take i) r (nx : Int) ++ za3 d t (p : Int) (r + (i : Int)) (k : Int))
   clear hpp hpe hpt hpd
   go_wp2_with fail
   refine Calls.mono HC.out ?_
   rintro e W1 ⟨v1, rfl, hco1⟩
   rw [← HSn.out] at hco1
   obtain ⟨k2, hk2⟩ : ∃ k2, (xs ++ zat (za3 d t) (pts.take (i + 1)) r (nx : Int)).length = k2 := ⟨_, rfl⟩
   have hk3' : k2 ≤ k + 119 := by
    have h1 := HIp.out
    rw [← hk2, HSn.out, List.length_append, sr.out.ln]
    omega
   have s1 := sr.out.step hco1 hk2
   obtain ⟨a1, cc1, rfl⟩ := s1.val
   have S1 : Hid (Ca13 B w W1 base (.slice va nx vc) (.slice a1 k2 cc1) (xs ++ zat (za3 d t) (pts.take (i + 1)) r (nx : Int)) k2 gp N m pts nA np nf) := s1
   clear hco1 s1 hk2 ci sr HC HSn HIp
   go_wp2
   go_roundw
   case rel => exact ⟨i + 1, k2, a1, cc1, by go_num, rfl, by omega, by omega, S1⟩
   case measure => simp [intOf]; omega
  ·
   have HIm : Hid (pts.take i = pts) := by exact (List.take_of_length_le (by rw [HPn.out]; omega) : pts.take i = pts)
   rw [HIm.out] at sr
   obtain ⟨a2, cc2, W2, hrun, hco⟩ := (Co13.new sr.out.co.row sr.out.bX).push (9, r, nA, 0, np ++ 46 :: nf) (by rw [sr.out.ln]; omega)
   rw [sr.out.ln] at hrun hco
   have hcf := sr.out.co.trans hco
   have HF : Hid (Co13 w W2 base (.slice va nx vc) (.slice a2 (k + 1) cc2) (xs ++ (zat (za3 d t) pts r (nx : Int) ++ [(9, r, nA, 0, np ++ 46 :: nf)]))) := by
    rw [← List.append_assoc]
    exact hcf
   have y1 := sr.out.c1
   have y2 := sr.out.c2
   have y3 := sr.out.c3
   clear hco hcf sr
   go_wp2_with (at_builtin; refine wpList_append_run rfl (.tmp 109) (.tmp 120) 49 rfl _ _ _ rfl rfl hrun ?_; clear hrun)
   go_ret
   exact ⟨_, rfl, HF.out⟩
theorem zih (B : World) (ta : Option Addr) (tc : Nat) (t : List Nd) (hin : za4 B ta t.length t) (hsh : zam t) (hgood : zb5 t) (hlen : t.length ≤ 60) (htb : zaI t = true) : ∀ d, Int13 B ta tc t d
 | 0 => fun w a r base v xs _ _ _ _ hp hd _ _ _ => by
  have := (zac hp).1
  omega
 | d + 1 => fun w a r base v xs hB hrow hbase hbb hp hd hr0 hr1 hx => by
  have ih := zih B ta tc t hin hsh hgood hlen htb d
  have hal := (zac hp).1
  have hmem : t.getD a nd0 ∈ t := by simp [List.getD, hal]
  have hk := zaV.1 (hgood _ hmem)
  unfold zbC at hk
  by_cases h12 : (t.getD a nd0).1 = 1 ∨ (t.getD a nd0).1 = 2
  ·
   exact zke B ta tc t hin hsh hgood hlen d w a r base v xs hB hrow hbase hp (by omega) h12
  by_cases h7 : (t.getD a nd0).1 = 7
  ·
   exact zkc B ta tc t hin hsh hgood hlen htb d ih w a r base v xs hB hrow hbase hbb hp hd hr0 hr1 hx h7
  by_cases h8 : (t.getD a nd0).1 = 8
  ·
   exact zkb B ta tc t hin hsh hgood hlen htb d ih w a r base v xs hB hrow hbase hbb hp hd hr0 hr1 hx h8
  ·
   exact zkd B ta tc t hin hsh hgood hlen htb d ih w a r base v xs hB hrow hbase hbb hp hd hr0 hr1 hx (by omega)
set_option maxHeartbeats 8000000 in
set_option maxRecDepth 100000 in
theorem zjF (B : World) (ta : Option Addr) (tc : Nat) (t : List Nd) (gN g base d : Nat) (htb : zaI t = true) (ih : IntW B ta tc t gN g base d) (w : World) (r : Int) (v : Value) (xs : List In13) (hw : Wr13 B w w g base (.slice ta t.length tc) (.slice (some ⟨gN, 0, none⟩) t.length t.length) v v xs)
 (kk nA : Int) (np nf : List UInt8) (hs1 : np.length ≤ 1048576) (hs2 : nf.length ≤ 1048576) (pa : Option Addr) (gp po m pc : Nat) (ps : List Int) (hpl : ps.length = m) (hm3 : m ≤ 3) (hpa : 0 < m → pa = some ⟨gp, po, none⟩) (hcs : ∀ j, j < m → w.cell? ⟨gp, po + j, none⟩ = some (.int .i64 (ps.getD j 0))) (hgl : gp < w.heap.size) (hgp : gp ≠ g) (hgv : v.ownBlock ≠ some gp)
 (hpp : ∀ i, i < m → ∃ p : Nat, ps.getD i 0 = (p : Int) ∧ 0 ≤ endV t (p : Int) ∧ p < t.length ∧ t.length ≤ p + d) (hr0 : 0 ≤ r) (hr1 : r + 3 * ((d + 1 : Nat) : Int) ≤ 1000) (hx : xs.length + 400 * (d + 1) ≤ 100000) :
 Calls Tryz.prog 115 #[.pointer (some ⟨g, 0, none⟩), .int .i64 r, .agg #[.int .i64 kk, .int .i64 nA, .string ⟨np.toArray⟩, .string ⟨nf.toArray⟩], .slice pa m pc] w fun e w' => e = .returned (.tuple #[]) ∧ ∃ u, Wr13 B w w' g base (.slice ta t.length tc) (.slice (some ⟨gN, 0, none⟩) t.length t.length) v u (xs ++ (zat (za3 d t) ps r (xs.length : Int) ++ [(9, r, nA, 0, np ++ 46 :: nf)])) := by
 obtain ⟨⟨m0, m1, m2, m3⟩, hbg⟩ := zaW w (.int .i64 kk) (.int .i64 nA) (.string ⟨np.toArray⟩) (.string ⟨nf.toArray⟩) 90
 obtain ⟨W0, hW0⟩ : ∃ W0, w.alloc (.cells #[.int .i64 kk, .int .i64 nA, .string ⟨np.toArray⟩, .string ⟨nf.toArray⟩] 90) = W0 := ⟨_, rfl⟩
 obtain ⟨N, hN⟩ : ∃ N, w.heap.size = N := ⟨_, rfl⟩
 rw [hW0] at m0 m1 m2 m3 hbg
 rw [hN] at m0 m1 m2 m3
 have hNl : N < W0.heap.size := World.block_lt_of_cell? W0 ⟨N, 0, none⟩ m0
 have st : Hid (Ct13 B w W0 W0 g base (.slice ta t.length tc) (.slice (some ⟨gN, 0, none⟩) t.length t.length) v v xs [gp, N]) := ⟨hw.below hbg, fun b hb => by
  simp only [List.mem_cons, List.not_mem_nil, or_false] at hb
  rcases hb with rfl | rfl
  ·
   exact ⟨rfl, Nat.lt_of_lt_of_le hgl hbg.size, hgp, hgv⟩
  ·
   exact ⟨rfl, hNl, fun e => by have := hw.lt; omega, fun e => by have := (hw.row.lt _ e).2; omega⟩⟩
 have HC0 : Hid (∀ j, j < m → W0.cell? ⟨gp, po + j, none⟩ = some (.int .i64 (ps.getD j 0))) := fun j hj => (hbg.cell (p := ⟨gp, po + j, none⟩) hgl).trans (hcs j hj)
 have HCN : Hid (W0.cell? ⟨N, 1, none⟩ = some (.int .i64 nA) ∧ W0.cell? ⟨N, 2, none⟩ = some (.string ⟨np.toArray⟩) ∧ W0.cell? ⟨N, 3, none⟩ = some (.string ⟨nf.toArray⟩)) := ⟨m1, m2, m3⟩
 have HI : Hid (∀ X (q : Nat) (ρ : Int) u zs, Wr13 B X X g base (.slice ta t.length tc) (.slice (some ⟨gN, 0, none⟩) t.length t.length) u u zs → 0 ≤ endV t (q : Int) → t.length ≤ q + d → 0 ≤ ρ → ρ ≤ r + 2 → zs.length ≤ xs.length + 390 → Calls Tryz.prog 80 #[.pointer (some ⟨g, 0, none⟩), .int .i64 ρ, .int .i64 (q : Int)] X fun e w' => e = .returned (.tuple #[]) ∧ ∃ u2, Wr13 B X w' g base (.slice ta t.length tc) (.slice (some ⟨gN, 0, none⟩) t.length t.length) u u2 (zs ++ za3 d t (q : Int) ρ (zs.length : Int))) := fun X q ρ u zs h1 h2 h3 h4 h5 h6 => ih X q ρ u zs h1 h2 h3 h4 (by omega) (by omega)
 have HIl : Hid (∀ (p : Nat) (q c : Int), p < t.length → t.length ≤ p + d → 0 ≤ q → (za3 d t (p : Int) q c).length ≤ 119) := fun p q c h1 h2 h3 => zbc htb h1 h2 q c h3
 have HPp : Hid (∀ i, i < m → ∃ p : Nat, ps.getD i 0 = (p : Int) ∧ 0 ≤ endV t (p : Int) ∧ p < t.length ∧ t.length ≤ p + d) := hpp
 have HPn : Hid (ps.length = m) := hpl
 have HLa : Hid (0 < m → pa = some ⟨gp, po, none⟩) := hpa
 have hadd1 : ∀ W : World, (Op.stringOp .add ⟨np.toArray⟩ ⟨#[46]⟩).run Tryz.prog W = .ok (.string ⟨(np ++ [46]).toArray⟩) W := fun W => run_string_add_lists (P := Tryz.prog) W np [46] (by omega) (by simp)
 have hadd2 : ∀ W : World, (Op.stringOp .add ⟨(np ++ [46]).toArray⟩ ⟨nf.toArray⟩).run Tryz.prog W = .ok (.string ⟨(np ++ 46 :: nf).toArray⟩) W := fun W => by
  have h := run_string_add_lists (P := Tryz.prog) W (np ++ [46]) nf (by simp; omega) (by omega)
  rw [List.append_assoc] at h
  exact h
 have hr2 : r ≤ 997 := by omega
 have hxb : xs.length ≤ 99600 := by omega
 generalize (Value.slice ta t.length tc) = tv at *
 generalize (Value.slice (some ⟨gN, 0, none⟩) t.length t.length) = nw at *
 clear ih hw htb hpl hpa hcs hgl hgp hgv hpp hr1 hx hNl m0 m1 m2 m3 hbg hs1 hs2
 obtain ⟨nx, hnx⟩ : ∃ nx, xs.length = nx := ⟨_, rfl⟩
 rw [hnx] at HI hxb ⊢
 have HXl : Hid (xs.length = nx) := hnx
 clear hnx
 go_enter Tryz.func115, Tryz.ntmps115
 go_wp2
 go_loopw [12] (fun iv wx => ∃ (i : Nat), iv = .int .i64 (i : Int) ∧ i ≤ m ∧ Hid (∃ u, Ct13 B w W0 wx g base tv nw v u (xs ++ zat (za3 d t) (ps.take i) r (nx : Int)) [gp, N] ∧ (xs ++ zat (za3 d t) (ps.take i) r (nx : Int)).length ≤ nx + 119 * i)) (fun iv _ => m - (intOf iv).toNat)
 case atStart => exact ⟨0, rfl, Nat.zero_le _, v, by rw [List.take_zero]; exact (by rw [show xs ++ zat (za3 d t) [] r (nx : Int) = xs by simp [zat]]; exact ⟨st.out, by rw [HXl.out]; omega⟩)⟩
 case round =>
  obtain ⟨i, rfl, hi, sr0⟩ := hrel
  obtain ⟨u, sr1, hk1⟩ := sr0.out
  have sr : Hid (Ct13 B w W0 wr g base tv nw v u (xs ++ zat (za3 d t) (ps.take i) r (nx : Int)) [gp, N]) := sr1
  have HK : Hid ((xs ++ zat (za3 d t) (ps.take i) r (nx : Int)).length ≤ nx + 119 * i) := hk1
  clear st sr0 sr1 hk1
  by_cases hlt : (i : Int) < (m : Int)
  ·
   obtain ⟨p, hpp, hpe, hpt, hpd⟩ := HPp.out i (by omega)
   obtain rfl := HLa.out (by omega)
   have ci := sr.out.cell (by simp) (HC0.out i (by omega))
   rw [hpp] at ci
   have HC : Hid (_) := HI.out wr p (r + (i : Int)) u _ sr.out.w.here hpe hpd (by omega) (by omega) (by have := HK.out; omega)
   have HSn : Hid (xs ++ zat (za3 d t) (ps.take (i + 1)) r (nx : Int) = xs ++ zat (za3 d t) (ps.take i) r (nx : Int) ++ za3 d t (p : Int) (r + (i : Int)) (((xs ++ zat (za3 d t) (ps.take i) r (nx : Int)).length : Nat) : Int)) := by
    have hil : i < ps.length := by rw [HPn.out]; omega
    have hgd : ps.getD i 0 = ps[i] := by simp [List.getD, hil]
    exact (by rw [List.take_succ_eq_append_getElem hil, zfl, ← hgd, hpp, List.append_assoc, List.length_take, Nat.min_eq_left (by omega), List.length_append, HXl.out]; rfl : xs ++ zat (za3 d t) (ps.take (i + 1)) r (nx : Int) = xs ++ zat (za3 d t) (ps.take i) r (nx : Int) ++ za3 d t (p : Int) (r + (i : Int)) (((xs ++ zat (za3 d t) (ps.take i) r (nx : Int)).length : Nat) : Int))
   have HK2 : Hid ((xs ++ zat (za3 d t) (ps.take (i + 1)) r (nx : Int)).length ≤ nx + 119 * (i + 1)) := by
    have h1 := HIl.out p (r + (i : Int)) (((xs ++ zat (za3 d t) (ps.take i) r (nx : Int)).length : Nat) : Int) hpt hpd (by omega)
    have h2 := HK.out
    exact (by rw [HSn.out, List.length_append]; omega : (xs ++ zat (za3 d t) (ps.take (i + 1)) r (nx : Int)).length ≤ nx + 119 * (i + 1))
   clear hpp hpe hpt hpd
   go_wp2_with fail
   refine Calls.mono HC.out ?_
   rintro e W1 ⟨rfl, u1, hw1⟩
   rw [← HSn.out] at hw1
   have S1 : Hid (∃ u, Ct13 B w W0 W1 g base tv nw v u (xs ++ zat (za3 d t) (ps.take (i + 1)) r (nx : Int)) [gp, N] ∧ (xs ++ zat (za3 d t) (ps.take (i + 1)) r (nx : Int)).length ≤ nx + 119 * (i + 1)) := ⟨u1, sr.out.step hw1, HK2.out⟩
   clear hw1 ci sr HC HSn HK HK2
   go_wp2
   go_roundw
   case rel => exact ⟨i + 1, by go_num, by omega, S1⟩
   case measure => simp [intOf]; omega
  ·
   have HIm : Hid (ps.take i = ps) := by exact (List.take_of_length_le (by rw [HPn.out]; omega) : ps.take i = ps)
   rw [HIm.out] at sr HK
   have y1 := sr.out.cell (by simp) HCN.out.1
   have y2 := sr.out.cell (by simp) HCN.out.2.1
   have y3 := sr.out.cell (by simp) HCN.out.2.2
   have HWr : Hid (_) := zc0 B wr g base _ _ u (xs ++ zat (za3 d t) ps r (nx : Int)) (9, r, nA, 0, np ++ 46 :: nf) sr.out.w.here (by have := HK.out; omega)
   unfold zay at HWr
   dsimp only at HWr
   go_wp2_with fail
   refine Calls.mono HWr.out ?_
   rintro e W2 ⟨rfl, u2, hw2⟩
   have HF : Hid (_) := (sr.out.step hw2).w
   clear hw2 sr HWr y1 y2 y3
   go_wp2
   go_end0
   exact ⟨rfl, u2, by have h := HF.out; simpa [List.append_assoc] using h⟩
end Go.Proofs.YtkpdoedpkncboaaGreat
