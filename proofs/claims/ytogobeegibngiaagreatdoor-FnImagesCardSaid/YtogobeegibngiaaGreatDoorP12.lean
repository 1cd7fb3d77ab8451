/-
  Parts of one proof, one behind the other: IntoS4, IntoS5, CompS.
-/
import Derived.Test.YtogobeegibngiaaGreatDoorP11

/-! l13Into of a test: three parts, two places that are told later. -/
namespace Go.Proofs.YtogobeegibngiaaGreatDoor
open Go.RowKit

/-- An instruction with another A. -/
def upA (i : In13) (k : Int) : In13 := (i.1, i.2.1, k, i.2.2.2.1, i.2.2.2.2)
def setA (zs : List In13) (j : Nat) (k : Int) : List In13 := zs.set j (upA (zs.getD j in0) k)
theorem setA_len (zs : List In13) (j : Nat) (k : Int) : (setA zs j k).length = zs.length := by simp [setA]
theorem setA_mid (l r : List In13) (i : In13) (k : Int) : setA (l ++ i :: r) l.length k = l ++ upA i k :: r := by
  unfold setA
  have hg : (l ++ i :: r).getD l.length in0 = i := by simp [List.getD]
  rw [hg]
  simp
theorem insV_setA (zs : List In13) (j : Nat) (k : Int) : (insV zs).set (j * 5 + 2) (.int .i64 k) = insV (setA zs j k) := by
  unfold setA
  induction zs generalizing j with
  | nil => simp [insV]
  | cons i l ih =>
    cases j with
    | zero => simp [insV, upA]
    | succ j =>
      have h := ih j
      rw [show (j + 1) * 5 + 2 = j * 5 + 2 + 1 + 1 + 1 + 1 + 1 by omega]
      simp only [insV, List.set_cons_succ, h, List.getD_cons_succ]

/-- What l13Into of a test holds: the code so far, the places of the parts. -/
structure If13 (B w X : World) (base : Nat) (v0 v : Value) (zs : List In13) (n gp p0 p1 p2 : Nat) : Prop where
  co : Co13 w X base v0 v zs
  ln : zs.length = n
  bB : Below B.heap.size B X
  c0 : X.cell? ⟨gp, 0, none⟩ = some (.int .i64 (p0 : Int))
  c1 : X.cell? ⟨gp, 1, none⟩ = some (.int .i64 (p1 : Int))
  c2 : X.cell? ⟨gp, 2, none⟩ = some (.int .i64 (p2 : Int))
  ne : v.ownBlock ≠ some gp
  hb : B.heap.size ≤ base
section
variable {B w X Y : World} {base : Nat} {v0 v u : Value} {zs ys : List In13} {n gp p0 p1 p2 : Nat}
theorem If13.bX (s : If13 B w X base v0 v zs n gp p0 p1 p2) : base ≤ X.heap.size := Nat.le_trans s.co.lh s.co.g.size
theorem If13.val (s : If13 B w X base v0 v zs n gp p0 p1 p2) : ∃ a c, v = .slice a n c := by
  obtain ⟨a, c, e⟩ := own_any12 s.co.row
  rw [s.ln] at e
  exact ⟨a, c, e⟩
theorem If13.step (s : If13 B w X base v0 v zs n gp p0 p1 p2) (h2 : Co13 X Y base v u ys) {m : Nat} (hm : ys.length = m) : If13 B w Y base v0 u ys m gp p0 p1 p2 := by
  have hl : gp < X.heap.size := World.block_lt_of_cell? X ⟨gp, 0, none⟩ s.c0
  obtain ⟨k1, u1⟩ := h2.keep hl s.ne
  have hc : ∀ j, Y.cell? ⟨gp, j, none⟩ = X.cell? ⟨gp, j, none⟩ := fun j => World.cell?_of_block (a := ⟨gp, j, none⟩) k1
  exact ⟨s.co.trans h2, hm, s.bB.grown h2.g s.bB.size (fun k e => by have := (s.co.row.lt k e).1; have := s.hb; omega), (hc 0).trans s.c0, (hc 1).trans s.c1, (hc 2).trans s.c2, u1, s.hb⟩
theorem If13.push (s : If13 B w X base v0 v zs n gp p0 p1 p2) (x : In13) (hn : n ≤ 1000000) (m : Nat) (hm : m = n + 1) :
    ∃ a' c' Y, (Builtin.append_ #[48, 48] 48 #[v, .slice (some ⟨X.heap.size, 0, none⟩) 1 1]).run Tryz.prog (X.alloc (.cells #[.int .i64 x.1, .int .i64 x.2.1, .int .i64 x.2.2.1, .int .i64 x.2.2.2.1, .string ⟨x.2.2.2.2.toArray⟩] 56)) = .ok (.slice a' m c') Y ∧ If13 B w Y base v0 (.slice a' m c') (zs ++ [x]) m gp p0 p1 p2 := by
  obtain ⟨a', c', Y, hr, hc⟩ := (Co13.new s.co.row s.bX).push x (by rw [s.ln]; omega)
  rw [s.ln, ← hm] at hr hc
  exact ⟨a', c', Y, hr, s.step hc (by rw [List.length_append, s.ln, hm]; rfl)⟩
theorem If13.put {a : Option Addr} {c : Nat} (s : If13 B w X base v0 (.slice a n c) zs n gp p0 p1 p2) (j : Nat) (hj : j < n) (k : Int) :
    ∃ g, a = some ⟨g, 0, none⟩ ∧ (∃ u, X.cell? ⟨g, j * 5 + 2, none⟩ = some u) ∧ X.frozen? ⟨g, j * 5 + 2, none⟩ = false ∧ If13 B w (X.setCell ⟨g, j * 5 + 2, none⟩ (.int .i64 k)) base v0 (.slice a n c) (setA zs j k) n gp p0 p1 p2 := by
  have hrow := s.co.row
  rw [s.ln] at hrow
  obtain ⟨g, cp, e⟩ := own_some hrow (by omega)
  injection e with e1 _ e2
  subst e1 e2
  have hlen : (insV zs).length = n * 5 := by rw [insV_len, s.ln]
  refine ⟨g, rfl, ?_, hrow.frozenAt (j * 5 + 2), s.step ?_ (by rw [setA_len, s.ln])⟩
  · rw [hrow.cellAt (j * 5 + 2) (by omega), List.getElem?_eq_getElem (by omega)]
    exact ⟨_, rfl⟩
  · have hs := hrow.stored (j * 5 + 2) (.int .i64 k)
    rw [insV_setA] at hs
    exact ⟨by rw [setA_len, s.ln]; exact hs.1, hs.2, Or.inl rfl, s.bX⟩
end
theorem if_list (xs x y z : List In13) (r A E : Int) (n1 n3 : Nat) (h1 : (xs ++ x).length = n1) (h3 : (xs ++ x ++ [((7, r, 0, 0, []) : In13)] ++ y).length = n3) :
    setA (setA (xs ++ x ++ [((7, r, 0, 0, []) : In13)] ++ y ++ [((8, 0, 0, 0, []) : In13)]) n1 A ++ z) n3 E = xs ++ (x ++ (7, r, A, 0, []) :: (y ++ (8, 0, E, 0, []) :: z)) := by
  have e1 : xs ++ x ++ [((7, r, 0, 0, []) : In13)] ++ y ++ [((8, 0, 0, 0, []) : In13)] = (xs ++ x) ++ (7, r, 0, 0, []) :: (y ++ [(8, 0, 0, 0, [])]) := by simp
  rw [e1, ← h1, setA_mid]
  have e2 : (xs ++ x ++ upA ((7, r, 0, 0, []) : In13) A :: (y ++ [((8, 0, 0, 0, []) : In13)])) ++ z = (xs ++ x ++ ((7, r, A, 0, []) : In13) :: y) ++ (8, 0, 0, 0, []) :: z := by simp [upA]
  have e3 : (xs ++ x ++ ((7, r, A, 0, []) : In13) :: y).length = n3 := by rw [← h3]; simp
  rw [e2, ← e3, setA_mid]
  simp [upA]

set_option maxHeartbeats 8000000 in
set_option maxRecDepth 100000 in
theorem specInto7 (B : World) (ta : Option Addr) (tc : Nat) (t : List Nd) (hin : NodesIn B ta t.length t) (hsh : ShortT t) (hgood : Good10 t) (hlen : t.length ≤ 60) (htb : treeB t = true) (d : Nat) (ih : Int13 B ta tc t d) (w : World) (a : Nat) (r : Int) (base : Nat) (v : Value) (xs : List In13) (hB : Below B.heap.size B w) (hrow : w.ownsRow base 56 5 v xs.length (insV xs)) (hbase : base ≤ w.heap.size) (hbb : B.heap.size ≤ base) (hp : 0 ≤ endV t (a : Int)) (hd : t.length ≤ a + (d + 1)) (hr0 : 0 ≤ r) (hr1 : r + 3 * ((d + 1 : Nat) : Int) ≤ 1000) (hx : xs.length + 400 * (d + 1) ≤ 100000) (h7 : (t.getD a nd0).1 = 7) :
    Calls Tryz.prog 73 #[v, .slice ta t.length tc, .int .i64 (a : Int), .int .i64 r] w fun e w' => ∃ v', e = .returned v' ∧ Co13 w w' base v v' (xs ++ into13 (d + 1) t (a : Int) r (xs.length : Int)) := by
  obtain ⟨hal, _, _, _, _⟩ := end_parts hp
  have hmem : t.getD a nd0 ∈ t := by simp [List.getD, hal]
  have hnb := hgood _ hmem
  have hk3 : kidsN (t.getD a nd0) = 3 := kids_seven h7
  have hpl : (pts10 t (a : Int)).length = 3 := by rw [pts_len, hk3]
  obtain ⟨p0, hp0, hap0, hpe0⟩ := need_place hp (i := 0) (by omega)
  obtain ⟨p1, hp1, hap1, hpe1⟩ := need_place hp (i := 1) (by omega)
  obtain ⟨p2, hp2, hap2, hpe2⟩ := need_place hp (i := 2) (by omega)
  have hl0 : p0 < t.length := (end_parts hpe0).1
  have hl1 : p1 < t.length := (end_parts hpe1).1
  have hl2 : p2 < t.length := (end_parts hpe2).1
  have hpe2x : partsGo t (kidsN (t.getD a nd0)) ((a : Int) + 1) = pts10 t (a : Int) := by unfold pts10; rw [Int.toNat_natCast]
  have hxl : (into13 d t (p0 : Int) r (xs.length : Int)).length ≤ 119 := into_len htb hl0 (by omega) r _ hr0
  have hr : into13 (d + 1) t (a : Int) r (xs.length : Int) =
      into13 d t (p0 : Int) r (xs.length : Int) ++ (7, r, (xs.length : Int) + (into13 d t (p0 : Int) r (xs.length : Int)).length + 1 + (into13 d t (p1 : Int) r ((xs.length : Int) + (into13 d t (p0 : Int) r (xs.length : Int)).length + 1)).length + 1, 0, []) :: (into13 d t (p1 : Int) r ((xs.length : Int) + (into13 d t (p0 : Int) r (xs.length : Int)).length + 1) ++ (8, 0, (xs.length : Int) + (into13 d t (p0 : Int) r (xs.length : Int)).length + 1 + (into13 d t (p1 : Int) r ((xs.length : Int) + (into13 d t (p0 : Int) r (xs.length : Int)).length + 1)).length + 1 + (into13 d t (p2 : Int) r ((xs.length : Int) + (into13 d t (p0 : Int) r (xs.length : Int)).length + 1 + (into13 d t (p1 : Int) r ((xs.length : Int) + (into13 d t (p0 : Int) r (xs.length : Int)).length + 1)).length + 1)).length, 0, []) :: into13 d t (p2 : Int) r ((xs.length : Int) + (into13 d t (p0 : Int) r (xs.length : Int)).length + 1 + (into13 d t (p1 : Int) r ((xs.length : Int) + (into13 d t (p0 : Int) r (xs.length : Int)).length + 1)).length + 1)) := by
    rw [into13, Int.toNat_natCast]
    simp only
    rw [if_neg (by omega), if_neg (by omega), if_pos h7, hp0, hp1, hp2]
  obtain ⟨x, hxe⟩ : ∃ x, into13 d t (p0 : Int) r (xs.length : Int) = x := ⟨_, rfl⟩
  rw [hxe] at hr hxl
  have hyl : (into13 d t (p1 : Int) r ((xs.length : Int) + x.length + 1)).length ≤ 119 := into_len htb hl1 (by omega) r _ hr0
  obtain ⟨y, hye⟩ : ∃ y, into13 d t (p1 : Int) r ((xs.length : Int) + x.length + 1) = y := ⟨_, rfl⟩
  rw [hye] at hr hyl
  have hzl : (into13 d t (p2 : Int) r ((xs.length : Int) + x.length + 1 + y.length + 1)).length ≤ 119 := into_len htb hl2 (by omega) r _ hr0
  obtain ⟨z, hze⟩ : ∃ z, into13 d t (p2 : Int) r ((xs.length : Int) + x.length + 1 + y.length + 1) = z := ⟨_, rfl⟩
  rw [hze] at hr hzl
  rw [hr]
  obtain ⟨n1, hn1⟩ : ∃ n1, (xs ++ x).length = n1 := ⟨_, rfl⟩
  obtain ⟨n2, hn2⟩ : ∃ n2, n2 = n1 + 1 := ⟨_, rfl⟩
  obtain ⟨n3, hn3⟩ : ∃ n3, (xs ++ x ++ [((7, r, 0, 0, []) : In13)] ++ y).length = n3 := ⟨_, rfl⟩
  obtain ⟨n4, hn4⟩ : ∃ n4, n4 = n3 + 1 := ⟨_, rfl⟩
  obtain ⟨n6, hn6⟩ : ∃ n6, (setA (xs ++ x ++ [((7, r, 0, 0, []) : In13)] ++ y ++ [((8, 0, 0, 0, []) : In13)]) n1 (n4 : Int) ++ z).length = n6 := ⟨_, rfl⟩
  have hz1 : n1 = xs.length + x.length := by rw [← hn1, List.length_append]
  have hz3 : n3 = xs.length + x.length + 1 + y.length := by rw [← hn3]; simp; omega
  have hz6 : n6 = xs.length + x.length + 1 + y.length + 1 + z.length := by rw [← hn6, List.length_append, setA_len]; simp; omega
  have HA : Hid (setA (setA (xs ++ x ++ [((7, r, 0, 0, []) : In13)] ++ y ++ [((8, 0, 0, 0, []) : In13)]) n1 (n4 : Int) ++ z) n3 (n6 : Int) = xs ++ (x ++ (7, r, (xs.length : Int) + x.length + 1 + y.length + 1, 0, []) :: (y ++ (8, 0, (xs.length : Int) + x.length + 1 + y.length + 1 + z.length, 0, []) :: z))) := by
    have e1 : (n4 : Int) = (xs.length : Int) + x.length + 1 + y.length + 1 := by omega
    have e2 : (n6 : Int) = (xs.length : Int) + x.length + 1 + y.length + 1 + z.length := by omega
    have h := if_list xs x y z r (n4 : Int) (n6 : Int) n1 n3 hn1 hn3
    rw [e1, e2] at h
    rw [e1, e2]
    exact h
  obtain ⟨bt, ot, rfl, hbt, q0, q1, q2, q3⟩ := (hin.below hB).2 a hal
  obtain ⟨va, vc, rfl⟩ := own_any12 hrow
  have hvN : ∀ k, w.heap.size ≤ k → (Value.slice va xs.length vc).ownBlock ≠ some k := fun k hk e => by have := (hrow.lt k e).2; omega
  obtain ⟨n, hn⟩ : ∃ n, t.getD a nd0 = n := ⟨_, rfl⟩
  rw [hn] at q0 q1 q2 q3 h7
  obtain ⟨kd, nA, np, nf⟩ := n
  simp only at q0 q1 q2 q3 h7
  subst h7
  obtain ⟨⟨m0, m1, m2, m3⟩, hbg⟩ := node_new12 w (.int .i64 7) (.int .i64 nA) (.string ⟨np.toArray⟩) (.string ⟨nf.toArray⟩) 91
  obtain ⟨X, hX⟩ : ∃ X, w.alloc (.cells #[.int .i64 7, .int .i64 nA, .string ⟨np.toArray⟩, .string ⟨nf.toArray⟩] 91) = X := ⟨_, rfl⟩
  obtain ⟨N, hN⟩ : ∃ N, w.heap.size = N := ⟨_, rfl⟩
  rw [hX] at m0 m1 m2 m3 hbg
  rw [hN] at m0 m1 m2 m3
  have hNX : N < X.heap.size := World.block_lt_of_cell? X ⟨N, 0, none⟩ m0
  have hBX : Below B.heap.size B X := hB.trans (hbg.mono hB.size)
  have HPt : Hid (_) := specParts (some ⟨bt, ot, none⟩) tc t a X (hin.below hBX) hsh (by omega) hal hnb
  rw [hpe2x, hk3] at HPt
  have HCo : Hid (Co13 w X base (.slice va xs.length vc) (.slice va xs.length vc) xs) := (Co13.new hrow hbase).below hbg
  have Hn0 : Hid (∀ Y, Below X.heap.size X Y → Y.cell? ⟨N, 0, none⟩ = some (.int .i64 7)) := fun Y hy => (hy.cell (p := ⟨N, 0, none⟩) hNX).trans m0
  have HC : Hid (∀ (Y : World) (u : Value) (zs : List In13) (m p : Nat) (c : Int), 0 ≤ endV t (p : Int) → t.length ≤ p + d → c = (m : Int) → m ≤ xs.length + 400 → If13 B w Y base (.slice va xs.length vc) u zs m 0 0 0 0 ∨ (Y.ownsRow base 56 5 u m (insV zs) ∧ zs.length = m ∧ base ≤ Y.heap.size ∧ Below B.heap.size B Y) → Calls Tryz.prog 73 #[u, .slice (some ⟨bt, ot, none⟩) t.length tc, .int .i64 (p : Int), .int .i64 r] Y fun e w' => ∃ v', e = .returned v' ∧ Co13 Y w' base u v' (zs ++ into13 d t (p : Int) r c)) := fun Y u zs m p c h1 h2 h3 h4 h5 => by
    rcases h5 with h5 | ⟨h5, h6, h7, h8⟩
    · have := ih Y p r base u zs h5.bB h5.co.row h5.bX hbb h1 h2 hr0 (by omega) (by rw [h5.ln]; omega)
      rw [h5.ln, ← h3] at this
      exact this
    · have := ih Y p r base u zs h8 (by rw [h6]; exact h5) h7 hbb h1 h2 hr0 (by omega) (by rw [h6]; omega)
      rw [h6, ← h3] at this
      exact this
  have HI : Hid (∀ (Y : World) (u : Value) (zs : List In13) (m gp a0 a1 a2 p : Nat) (c : Int), 0 ≤ endV t (p : Int) → t.length ≤ p + d → c = (m : Int) → m ≤ xs.length + 400 → If13 B w Y base (.slice va xs.length vc) u zs m gp a0 a1 a2 → Calls Tryz.prog 73 #[u, .slice (some ⟨bt, ot, none⟩) t.length tc, .int .i64 (p : Int), .int .i64 r] Y fun e w' => ∃ v', e = .returned v' ∧ Co13 Y w' base u v' (zs ++ into13 d t (p : Int) r c)) := fun Y u zs m gp a0 a1 a2 p c h1 h2 h3 h4 h5 => HC.out Y u zs m p c h1 h2 h3 h4 (Or.inr ⟨by have := h5.co.row; rw [h5.ln] at this; exact this, h5.ln, h5.bX, h5.bB⟩)
  have HvN : Hid (∀ k, N ≤ k → (Value.slice va xs.length vc).ownBlock ≠ some k) := hN ▸ hvN
  have HBX : Hid (Below B.heap.size B X) := hBX
  have HNX : Hid (N < X.heap.size) := hNX
  have hal2 : (a : Int) < (t.length : Int) := by omega
  have hr2 : r ≤ 997 := by omega
  have HPc : Hid ((pts10 t (a : Int)).length = 3 ∧ (pts10 t (a : Int)).getD 0 0 = (p0 : Int) ∧ (pts10 t (a : Int)).getD 1 0 = (p1 : Int) ∧ (pts10 t (a : Int)).getD 2 0 = (p2 : Int)) := ⟨hpl, hp0, hp1, hp2⟩
  generalize pts10 t (a : Int) = pts at HPt HPc
  have HE0 : Hid (0 ≤ endV t (p0 : Int) ∧ 0 ≤ endV t (p1 : Int) ∧ 0 ≤ endV t (p2 : Int) ∧ t.length ≤ p0 + d ∧ t.length ≤ p1 + d ∧ t.length ≤ p2 + d) := ⟨hpe0, hpe1, hpe2, by omega, by omega, by omega⟩
  have HX : Hid (into13 d t (p0 : Int) r (xs.length : Int) = x ∧ into13 d t (p1 : Int) r (n2 : Int) = y ∧ into13 d t (p2 : Int) r (n4 : Int) = z) := ⟨hxe, by rw [show (n2 : Int) = (xs.length : Int) + x.length + 1 by omega]; exact hye, by rw [show (n4 : Int) = (xs.length : Int) + x.length + 1 + y.length + 1 by omega]; exact hze⟩
  have hn1b : n1 ≤ 100000 := by omega
  have hn3b : n3 ≤ 100000 := by omega
  have hn6b : n6 ≤ 100000 := by omega
  have HN : Hid (n1 ≤ xs.length + 400 ∧ n2 ≤ xs.length + 400 ∧ n3 ≤ xs.length + 400 ∧ n4 ≤ xs.length + 400 ∧ n1 < n4 ∧ n3 < n6 ∧ n2 = n1 + 1 ∧ n4 = n3 + 1) := ⟨by omega, by omega, by omega, by omega, by omega, by omega, hn2, hn4⟩
  have HL : Hid ((xs ++ x).length = n1 ∧ (xs ++ x ++ [((7, r, 0, 0, []) : In13)] ++ y).length = n3 ∧ (setA (xs ++ x ++ [((7, r, 0, 0, []) : In13)] ++ y ++ [((8, 0, 0, 0, []) : In13)]) n1 (n4 : Int) ++ z).length = n6) := ⟨hn1, hn3, hn6⟩
  have h14 : (n1 : Int) < (n4 : Int) := by omega
  have h36 : (n3 : Int) < (n6 : Int) := by omega
  have hbb2 := hbb
  have HNb : Hid (base ≤ N ∧ B.heap.size ≤ base) := ⟨hN ▸ hbase, hbb⟩
  clear hxe hye hze hr ih hpl hp0 hp1 hp2 hn hvN hNX hBX hrow hbase hB hin hsh hgood hlen htb hbb hp hd hx hmem hnb hk3 hpe0 hpe1 hpe2 hl0 hl1 hl2 hpe2x hbg m0 m1 m2 m3 hap0 hap1 hap2 hr1 HC hn1 hn2 hn3 hn4 hn6 hz1 hz3 hz6 hxl hyl hzl
  obtain ⟨nx, hnx⟩ : ∃ nx, xs.length = nx := ⟨_, rfl⟩
  rw [hnx] at HCo HI HvN HX HN HA ⊢
  have HXl : Hid (xs.length = nx) := hnx
  clear hnx
  go_enter Tryz.func73, Tryz.ntmps73
  go_wp2_with fail
  refine Calls.mono HPt.out ?_
  rintro e V ⟨pv, rfl, hpv, hbV⟩
  obtain ⟨gp, cp, rfl⟩ := own_some hpv (by omega)
  have c0 : V.cell? ⟨gp, 0, none⟩ = some (.int .i64 (p0 : Int)) := by rw [← HPc.out.2.1]; exact ints_cell hpv 0 (by have := HPc.out.1; omega)
  have c1 : V.cell? ⟨gp, 1, none⟩ = some (.int .i64 (p1 : Int)) := by rw [← HPc.out.2.2.1]; exact ints_cell hpv 1 (by have := HPc.out.1; omega)
  have c2 : V.cell? ⟨gp, 2, none⟩ = some (.int .i64 (p2 : Int)) := by rw [← HPc.out.2.2.2]; exact ints_cell hpv 2 (by have := HPc.out.1; omega)
  have hgp := hpv.lt gp rfl
  have m0 := Hn0.out V hbV
  have st : Hid (If13 B w V base (.slice va nx vc) (.slice va nx vc) xs nx gp p0 p1 p2) := ⟨HCo.out.below hbV, HXl.out, HBX.out.trans (hbV.mono HBX.out.size), c0, c1, c2, HvN.out gp (Nat.le_trans (Nat.le_of_lt HNX.out) hgp.1), HNb.out.2⟩
  clear hpv hbV HPt hgp Hn0 q0 q1 q2 q3 HPc c1 c2 HCo
  go_wp2_with fail
  refine Calls.mono (HI.out V _ xs nx gp p0 p1 p2 p0 _ HE0.out.1 HE0.out.2.2.2.1 rfl (by omega) st.out) ?_
  rintro e W1 ⟨v1, rfl, hco1⟩
  rw [HX.out.1] at hco1
  have s1 : Hid (If13 B w W1 base (.slice va nx vc) v1 (xs ++ x) n1 gp p0 p1 p2) := st.out.step hco1 HL.out.1
  obtain ⟨a1, cc1, rfl⟩ := s1.out.val
  obtain ⟨a2, cc2, W2, hrun2, s2x⟩ := s1.out.push (7, r, 0, 0, []) (by omega) n2 HN.out.2.2.2.2.2.2.1
  have s2 : Hid (If13 B w W2 base (.slice va nx vc) (.slice a2 n2 cc2) (xs ++ x ++ [(7, r, 0, 0, [])]) n2 gp p0 p1 p2) := s2x
  have d1 := s2x.c1
  clear hco1 st c0 m0 s2x s1
  go_wp2_with (at_builtin; refine wpList_append_run rfl (.tmp 53) (.tmp 56) 48 rfl _ _ _ rfl rfl hrun2 ?_; clear hrun2)
  refine Calls.mono (HI.out W2 _ _ n2 gp p0 p1 p2 p1 _ HE0.out.2.1 HE0.out.2.2.2.2.1 rfl HN.out.2.1 s2.out) ?_
  rintro e W3 ⟨v3, rfl, hco3⟩
  rw [HX.out.2.1] at hco3
  have s3 : Hid (If13 B w W3 base (.slice va nx vc) v3 (xs ++ x ++ [(7, r, 0, 0, [])] ++ y) n3 gp p0 p1 p2) := s2.out.step hco3 HL.out.2.1
  obtain ⟨a3, cc3, rfl⟩ := s3.out.val
  obtain ⟨a4, cc4, W4, hrun4, s4x⟩ := s3.out.push (8, 0, 0, 0, []) (by omega) n4 HN.out.2.2.2.2.2.2.2
  obtain ⟨g4, rfl, ⟨u4, hu4⟩, hf4, s5x⟩ := s4x.put n1 HN.out.2.2.2.2.1 (n4 : Int)
  have s5 : Hid (If13 B w (W4.setCell ⟨g4, n1 * 5 + 2, none⟩ (.int .i64 (n4 : Int))) base (.slice va nx vc) (.slice (some ⟨g4, 0, none⟩) n4 cc4) (setA (xs ++ x ++ [(7, r, 0, 0, [])] ++ y ++ [(8, 0, 0, 0, [])]) n1 (n4 : Int)) n4 gp p0 p1 p2) := s5x
  have d2 := s5x.c2
  clear hco3 d1 s2 s3 s4x s5x
  go_wp2_with (at_builtin; refine wpList_append_run rfl (.tmp 67) (.tmp 69) 48 rfl _ _ _ rfl rfl hrun4 ?_; clear hrun4)
  refine Calls.mono (HI.out _ _ _ n4 gp p0 p1 p2 p2 _ HE0.out.2.2.1 HE0.out.2.2.2.2.2 rfl HN.out.2.2.2.1 s5.out) ?_
  rintro e W6 ⟨v6, rfl, hco6⟩
  rw [HX.out.2.2] at hco6
  have s6 := s5.out.step hco6 HL.out.2.2
  obtain ⟨a6, cc6, rfl⟩ := s6.val
  obtain ⟨g6, rfl, ⟨u6, hu6⟩, hf6, s7x⟩ := s6.put n3 HN.out.2.2.2.2.2.1 (n6 : Int)
  have s7 : Hid (Co13 w (W6.setCell ⟨g6, n3 * 5 + 2, none⟩ (.int .i64 (n6 : Int))) base (.slice va nx vc) (.slice (some ⟨g6, 0, none⟩) n6 cc6) (xs ++ (x ++ (7, r, (nx : Int) + x.length + 1 + y.length + 1, 0, []) :: (y ++ (8, 0, (nx : Int) + x.length + 1 + y.length + 1 + z.length, 0, []) :: z)))) := by
    rw [← HA.out]
    exact s7x.co
  clear hco6 d2 s5 s6 s7x HA
  go_wp2
  go_ret
  exact ⟨_, rfl, s7.out⟩

end Go.Proofs.YtogobeegibngiaaGreatDoor

/-! l13Into of a call: its parts one register behind the other; then l13Into of every node. -/
namespace Go.Proofs.YtogobeegibngiaaGreatDoor
open Go.RowKit

theorem args_snoc (f : Int → Int → Int → List In13) : ∀ (ps : List Int) (p r c : Int), args13 f (ps ++ [p]) r c = args13 f ps r c ++ f p (r + ps.length) (c + (args13 f ps r c).length)
  | [], p, r, c => by simp [args13]
  | q :: ps, p, r, c => by
    rw [List.cons_append, args13, args13, args_snoc f ps p (r + 1) _, List.append_assoc]
    congr 3
    · simp only [List.length_cons]; omega
    · simp only [List.length_append]; omega
/-- What l13Into of a call holds: the code so far, the places of the parts, the node. -/
structure Ca13 (B w X : World) (base : Nat) (v0 v : Value) (zs : List In13) (n gp N m : Nat) (pts : List Int) (nA : Int) (np nf : List UInt8) : Prop where
  co : Co13 w X base v0 v zs
  ln : zs.length = n
  bB : Below B.heap.size B X
  cs : ∀ j, j < m → X.cell? ⟨gp, j, none⟩ = some (.int .i64 (pts.getD j 0))
  gl : gp < X.heap.size
  c1 : X.cell? ⟨N, 1, none⟩ = some (.int .i64 nA)
  c2 : X.cell? ⟨N, 2, none⟩ = some (.string ⟨np.toArray⟩)
  c3 : X.cell? ⟨N, 3, none⟩ = some (.string ⟨nf.toArray⟩)
  ne : v.ownBlock ≠ some gp
  nN : v.ownBlock ≠ some N
  hb : B.heap.size ≤ base
section
variable {B w X Y : World} {base : Nat} {v0 v u : Value} {zs ys : List In13} {n gp N m : Nat} {pts : List Int} {nA : Int} {np nf : List UInt8}
theorem Ca13.bX (s : Ca13 B w X base v0 v zs n gp N m pts nA np nf) : base ≤ X.heap.size := Nat.le_trans s.co.lh s.co.g.size
theorem Ca13.val (s : Ca13 B w X base v0 v zs n gp N m pts nA np nf) : ∃ a c, v = .slice a n c := by
  obtain ⟨a, c, e⟩ := own_any12 s.co.row
  rw [s.ln] at e
  exact ⟨a, c, e⟩
theorem Ca13.step (s : Ca13 B w X base v0 v zs n gp N m pts nA np nf) (h2 : Co13 X Y base v u ys) {k : Nat} (hm : ys.length = k) : Ca13 B w Y base v0 u ys k gp N m pts nA np nf := by
  obtain ⟨k1, u1⟩ := h2.keep s.gl s.ne
  obtain ⟨k2, u2⟩ := h2.keep (World.block_lt_of_cell? X ⟨N, 1, none⟩ s.c1) s.nN
  have hN : ∀ j, Y.cell? ⟨N, j, none⟩ = X.cell? ⟨N, j, none⟩ := fun j => World.cell?_of_block (a := ⟨N, j, none⟩) k2
  exact ⟨s.co.trans h2, hm, s.bB.grown h2.g s.bB.size (fun k e => by have := (s.co.row.lt k e).1; have := s.hb; omega), fun j hj => (World.cell?_of_block (a := ⟨gp, j, none⟩) k1).trans (s.cs j hj), Nat.lt_of_lt_of_le s.gl h2.g.size, (hN 1).trans s.c1, (hN 2).trans s.c2, (hN 3).trans s.c3, u1, u2, s.hb⟩
end
set_option maxHeartbeats 8000000 in
set_option maxRecDepth 100000 in
theorem specInto8 (B : World) (ta : Option Addr) (tc : Nat) (t : List Nd) (hin : NodesIn B ta t.length t) (hsh : ShortT t) (hgood : Good10 t) (hlen : t.length ≤ 60) (htb : treeB t = true) (d : Nat) (ih : Int13 B ta tc t d) (w : World) (a : Nat) (r : Int) (base : Nat) (v : Value) (xs : List In13) (hB : Below B.heap.size B w) (hrow : w.ownsRow base 56 5 v xs.length (insV xs)) (hbase : base ≤ w.heap.size) (hbb : B.heap.size ≤ base) (hp : 0 ≤ endV t (a : Int)) (hd : t.length ≤ a + (d + 1)) (hr0 : 0 ≤ r) (hr1 : r + 3 * ((d + 1 : Nat) : Int) ≤ 1000) (hx : xs.length + 400 * (d + 1) ≤ 100000) (h8 : (t.getD a nd0).1 = 8) :
    Calls Tryz.prog 73 #[v, .slice ta t.length tc, .int .i64 (a : Int), .int .i64 r] w fun e w' => ∃ v', e = .returned v' ∧ Co13 w w' base v v' (xs ++ into13 (d + 1) t (a : Int) r (xs.length : Int)) := by
  obtain ⟨hal, -, -, -, -⟩ := end_parts hp
  have hmem : t.getD a nd0 ∈ t := by simp [List.getD, hal]
  have hnb := hgood _ hmem
  have hk3 : kidsN (t.getD a nd0) ≤ 3 := (kidsV_ok hnb).2
  have hpl : (pts10 t (a : Int)).length = kidsN (t.getD a nd0) := pts_len t a
  have HPl : Hid (∀ i, i < kidsN (t.getD a nd0) → ∃ p : Nat, (pts10 t (a : Int)).getD i 0 = (p : Int) ∧ 0 ≤ endV t (p : Int) ∧ p < t.length ∧ t.length ≤ p + d) := fun i hi => by
    obtain ⟨p, h1, h2, h3⟩ := need_place hp hi
    exact ⟨p, h1, h3, (end_parts h3).1, by omega⟩
  have hpe : partsGo t (kidsN (t.getD a nd0)) ((a : Int) + 1) = pts10 t (a : Int) := by unfold pts10; rw [Int.toNat_natCast]
  have hr : into13 (d + 1) t (a : Int) r (xs.length : Int) = args13 (into13 d t) (pts10 t (a : Int)) r (xs.length : Int) ++ [(9, r, (t.getD a nd0).2.1, 0, (t.getD a nd0).2.2.1 ++ 46 :: (t.getD a nd0).2.2.2)] := by
    rw [into13, Int.toNat_natCast]
    simp only
    rw [if_neg (by omega), if_neg (by omega), if_neg (by omega), if_pos h8]
  rw [hr]
  have hs1 := (hsh a).1
  have hs2 := (hsh a).2
  obtain ⟨bt, ot, rfl, hbt, q0, q1, q2, q3⟩ := (hin.below hB).2 a hal
  obtain ⟨va, vc, rfl⟩ := own_any12 hrow
  have hvN : ∀ k, w.heap.size ≤ k → (Value.slice va xs.length vc).ownBlock ≠ some k := fun k hk e => by have := (hrow.lt k e).2; omega
  obtain ⟨n, hn⟩ : ∃ n, t.getD a nd0 = n := ⟨_, rfl⟩
  have hnb2 := hnb
  rw [hn] at q0 q1 q2 q3 h8 hs1 hs2 hk3 hpl HPl hpe ⊢
  obtain ⟨kd, nA, np, nf⟩ := n
  simp only at q0 q1 q2 q3 h8 hs1 hs2 ⊢
  subst h8
  obtain ⟨m, hm⟩ : ∃ m, kidsN ((8, nA, np, nf) : Nd) = m := ⟨_, rfl⟩
  rw [hm] at hk3 hpl HPl
  obtain ⟨⟨m0, m1, m2, m3⟩, hbg⟩ := node_new12 w (.int .i64 8) (.int .i64 nA) (.string ⟨np.toArray⟩) (.string ⟨nf.toArray⟩) 91
  obtain ⟨X, hX⟩ : ∃ X, w.alloc (.cells #[.int .i64 8, .int .i64 nA, .string ⟨np.toArray⟩, .string ⟨nf.toArray⟩] 91) = X := ⟨_, rfl⟩
  obtain ⟨N, hN⟩ : ∃ N, w.heap.size = N := ⟨_, rfl⟩
  rw [hX] at m0 m1 m2 m3 hbg
  rw [hN] at m0 m1 m2 m3
  have hNX : N < X.heap.size := World.block_lt_of_cell? X ⟨N, 0, none⟩ m0
  have hBX : Below B.heap.size B X := hB.trans (hbg.mono hB.size)
  have HPt : Hid (_) := specParts (some ⟨bt, ot, none⟩) tc t a X (hin.below hBX) hsh (by omega) hal hnb2
  rw [hn, hpe, hm] at HPt
  have HCo : Hid (Co13 w X base (.slice va xs.length vc) (.slice va xs.length vc) xs) := (Co13.new hrow hbase).below hbg
  have Hn0 : Hid (∀ Y, Below X.heap.size X Y → Y.cell? ⟨N, 0, none⟩ = some (.int .i64 8) ∧ Y.cell? ⟨N, 1, none⟩ = some (.int .i64 nA) ∧ Y.cell? ⟨N, 2, none⟩ = some (.string ⟨np.toArray⟩) ∧ Y.cell? ⟨N, 3, none⟩ = some (.string ⟨nf.toArray⟩)) := fun Y hy => ⟨(hy.cell (p := ⟨N, 0, none⟩) hNX).trans m0, (hy.cell (p := ⟨N, 1, none⟩) hNX).trans m1, (hy.cell (p := ⟨N, 2, none⟩) hNX).trans m2, (hy.cell (p := ⟨N, 3, none⟩) hNX).trans m3⟩
  have HIl : Hid (∀ (p : Nat) (q c : Int), p < t.length → t.length ≤ p + d → 0 ≤ q → (into13 d t (p : Int) q c).length ≤ 119) := fun p q c h1 h2 h3 => into_len htb h1 h2 q c h3
  have HI : Hid (∀ (Y : World) (u : Value) (zs : List In13) (k gp p : Nat) (q : Int) (pts : List Int), 0 ≤ endV t (p : Int) → t.length ≤ p + d → k ≤ xs.length + 400 → 0 ≤ q → q ≤ r + 2 → Ca13 B w Y base (.slice va xs.length vc) u zs k gp N m pts nA np nf → Calls Tryz.prog 73 #[u, .slice (some ⟨bt, ot, none⟩) t.length tc, .int .i64 (p : Int), .int .i64 q] Y fun e w' => ∃ v', e = .returned v' ∧ Co13 Y w' base u v' (zs ++ into13 d t (p : Int) q (k : Int))) := fun Y u zs k gp p q pts h1 h2 h4 h6 h7 h5 => by
    have := ih Y p q base u zs h5.bB h5.co.row h5.bX hbb h1 h2 h6 (by omega) (by rw [h5.ln]; omega)
    rw [h5.ln] at this
    exact this
  have HvN : Hid (∀ k, N ≤ k → (Value.slice va xs.length vc).ownBlock ≠ some k) := hN ▸ hvN
  have HBX : Hid (Below B.heap.size B X) := hBX
  have HNX : Hid (N < X.heap.size) := hNX
  have hal2 : (a : Int) < (t.length : Int) := by omega
  have hr2 : r ≤ 997 := by omega
  have hadd1 : ∀ W : World, (Op.stringOp .add ⟨np.toArray⟩ ⟨#[46]⟩).run Tryz.prog W = .ok (.string ⟨(np ++ [46]).toArray⟩) W := fun W => run_string_add_lists (P := Tryz.prog) W np [46] (by omega) (by simp)
  have hadd2 : ∀ W : World, (Op.stringOp .add ⟨(np ++ [46]).toArray⟩ ⟨nf.toArray⟩).run Tryz.prog W = .ok (.string ⟨(np ++ 46 :: nf).toArray⟩) W := fun W => by
    have h := run_string_add_lists (P := Tryz.prog) W (np ++ [46]) nf (by simp; omega) (by omega)
    rw [List.append_assoc] at h
    exact h
  generalize pts10 t (a : Int) = pts at HPt HPl hpl ⊢
  have HPn : Hid (pts.length = m) := hpl
  have HNb : Hid (base ≤ N ∧ B.heap.size ≤ base) := ⟨hN ▸ hbase, hbb⟩
  clear hr ih hpl hn hvN hNX hBX hrow hbase hB hin hsh hgood hlen htb hbb hp hd hmem hnb hnb2 hpe hbg m0 m1 m2 m3 hr1 hm
  obtain ⟨nx, hnx⟩ : ∃ nx, xs.length = nx := ⟨_, rfl⟩
  rw [hnx] at HCo HI HvN hx ⊢
  have HXl : Hid (xs.length = nx) := hnx
  clear hnx
  have hnx5 : nx ≤ 100000 := by omega
  clear hx
  go_enter Tryz.func73, Tryz.ntmps73
  go_wp2_with fail
  refine Calls.mono HPt.out ?_
  rintro e V ⟨pv, rfl, hpv, hbV⟩
  obtain ⟨la, lc, rfl⟩ := own_any12 hpv
  obtain ⟨y0, y1, y2, y3⟩ := Hn0.out V hbV
  have hst : ∃ gp, (0 < m → la = some ⟨gp, 0, none⟩) ∧ Ca13 B w V base (.slice va nx vc) (.slice va nx vc) xs nx gp N m pts nA np nf := by
    have hNV : N < V.heap.size := World.block_lt_of_cell? V ⟨N, 0, none⟩ y0
    have hbBV := HBX.out.trans (hbV.mono HBX.out.size)
    by_cases hm0 : 0 < m
    · obtain ⟨gp, cp, e⟩ := own_some hpv (by omega)
      injection e with e1 _ e2
      subst e1 e2
      have hgp := hpv.lt gp rfl
      exact ⟨gp, fun _ => rfl, HCo.out.below hbV, HXl.out, hbBV, fun j hj => ints_cell hpv j (by rw [HPn.out]; exact hj), hgp.2, y1, y2, y3, HvN.out gp (Nat.le_trans (Nat.le_of_lt HNX.out) hgp.1), HvN.out N (Nat.le_refl _), HNb.out.2⟩
    · exact ⟨N, fun h => absurd h hm0, HCo.out.below hbV, HXl.out, hbBV, fun j hj => by omega, hNV, y1, y2, y3, HvN.out N (Nat.le_refl _), HvN.out N (Nat.le_refl _), HNb.out.2⟩
  obtain ⟨gp, hla, st0⟩ := hst
  have st : Hid (Ca13 B w V base (.slice va nx vc) (.slice va nx vc) xs nx gp N m pts nA np nf) := st0
  have HLa : Hid (0 < m → la = some ⟨gp, 0, none⟩) := hla
  clear hpv hbV HPt Hn0 q0 q1 q2 q3 HCo hla st0 y1 y2 y3
  go_wp2
  go_loopw [0, 13] (fun v iv wx => ∃ (i k : Nat) (a' : Option Addr) (c' : Nat), iv = .int .i64 (i : Int) ∧ v = .slice a' k c' ∧ i ≤ m ∧ k ≤ nx + 119 * i ∧ Hid (Ca13 B w wx base (.slice va nx vc) (.slice a' k c') (xs ++ args13 (into13 d t) (pts.take i) r (nx : Int)) k gp N m pts nA np nf)) (fun _ iv _ => m - (intOf iv).toNat)
  case atStart => exact ⟨0, nx, va, vc, rfl, rfl, Nat.zero_le _, by omega, by rw [List.take_zero]; exact (by rw [show xs ++ args13 (into13 d t) [] r (nx : Int) = xs by simp [args13]]; exact st)⟩
  case round =>
    obtain ⟨i, k, a', c', rfl, rfl, hi, hk, sr⟩ := hrel
    clear st y0
    by_cases hlt : (i : Int) < (m : Int)
    · obtain ⟨p, hpp, hpe, hpt, hpd⟩ := HPl.out i (by omega)
      obtain rfl := HLa.out (by omega)
      have ci := sr.out.cs i (by omega)
      rw [hpp] at ci
      have HC : Hid (_) := HI.out wr _ _ k gp p (r + (i : Int)) pts hpe hpd (by omega) (by omega) (by omega) sr.out
      have HIp : Hid (_) := HIl.out p (r + (i : Int)) (k : Int) hpt hpd (by omega)
      have HSn : Hid (xs ++ args13 (into13 d t) (pts.take (i + 1)) r (nx : Int) = xs ++ args13 (into13 d t) (pts.take i) r (nx : Int) ++ into13 d t (p : Int) (r + (i : Int)) (k : Int)) := by
        have hil : i < pts.length := by rw [HPn.out]; omega
        have hgd : pts.getD i 0 = pts[i] := by simp [List.getD, hil]
        have hkl := sr.out.ln
        rw [List.length_append, HXl.out] at hkl
        exact (by rw [List.take_succ_eq_append_getElem hil, args_snoc, ← hgd, hpp, List.append_assoc, List.length_take, Nat.min_eq_left (by omega), show (nx : Int) + ((args13 (into13 d t) (pts.take i) r (nx : Int)).length : Int) = (k : Int) by omega] : xs ++ args13 (into13 d t) (pts.take (i + 1)) r (nx : Int) = xs ++ args13 (into13 d t) (pts.take i) r (nx : Int) ++ into13 d t (p : Int) (r + (i : Int)) (k : Int))
      clear hpp hpe hpt hpd
      go_wp2_with fail
      refine Calls.mono HC.out ?_
      rintro e W1 ⟨v1, rfl, hco1⟩
      rw [← HSn.out] at hco1
      obtain ⟨k2, hk2⟩ : ∃ k2, (xs ++ args13 (into13 d t) (pts.take (i + 1)) r (nx : Int)).length = k2 := ⟨_, rfl⟩
      have hk3' : k2 ≤ k + 119 := by
        have h1 := HIp.out
        rw [← hk2, HSn.out, List.length_append, sr.out.ln]
        omega
      have s1 := sr.out.step hco1 hk2
      obtain ⟨a1, cc1, rfl⟩ := s1.val
      have S1 : Hid (Ca13 B w W1 base (.slice va nx vc) (.slice a1 k2 cc1) (xs ++ args13 (into13 d t) (pts.take (i + 1)) r (nx : Int)) k2 gp N m pts nA np nf) := s1
      clear hco1 s1 hk2 ci sr HC HSn HIp
      go_wp2
      go_roundw
      case rel => exact ⟨i + 1, k2, a1, cc1, by go_num, rfl, by omega, by omega, S1⟩
      case measure => simp [intOf]; omega
    · have HIm : Hid (pts.take i = pts) := by exact (List.take_of_length_le (by rw [HPn.out]; omega) : pts.take i = pts)
      rw [HIm.out] at sr
      obtain ⟨a2, cc2, W2, hrun, hco⟩ := (Co13.new sr.out.co.row sr.out.bX).push (9, r, nA, 0, np ++ 46 :: nf) (by rw [sr.out.ln]; omega)
      rw [sr.out.ln] at hrun hco
      have hcf := sr.out.co.trans hco
      have HF : Hid (Co13 w W2 base (.slice va nx vc) (.slice a2 (k + 1) cc2) (xs ++ (args13 (into13 d t) pts r (nx : Int) ++ [(9, r, nA, 0, np ++ 46 :: nf)]))) := by
        rw [← List.append_assoc]
        exact hcf
      have y1 := sr.out.c1
      have y2 := sr.out.c2
      have y3 := sr.out.c3
      clear hco hcf sr
      go_wp2_with (at_builtin; refine wpList_append_run rfl (.tmp 109) (.tmp 120) 48 rfl _ _ _ rfl rfl hrun ?_; clear hrun)
      go_ret
      exact ⟨_, rfl, HF.out⟩

/-- l13Into at every depth. -/
theorem specInto (B : World) (ta : Option Addr) (tc : Nat) (t : List Nd) (hin : NodesIn B ta t.length t) (hsh : ShortT t) (hgood : Good10 t) (hlen : t.length ≤ 60) (htb : treeB t = true) : ∀ d, Int13 B ta tc t d
  | 0 => fun w a r base v xs _ _ _ _ hp hd _ _ _ => by
    have := (end_parts hp).1
    omega
  | d + 1 => fun w a r base v xs hB hrow hbase hbb hp hd hr0 hr1 hx => by
    have ih := specInto B ta tc t hin hsh hgood hlen htb d
    have hal := (end_parts hp).1
    have hmem : t.getD a nd0 ∈ t := by simp [List.getD, hal]
    have hk := nodeB_iff.1 (hgood _ hmem)
    unfold nodeP at hk
    by_cases h12 : (t.getD a nd0).1 = 1 ∨ (t.getD a nd0).1 = 2
    · exact specInto1 B ta tc t hin hsh hgood hlen d w a r base v xs hB hrow hbase hp (by omega) h12
    by_cases h7 : (t.getD a nd0).1 = 7
    · exact specInto7 B ta tc t hin hsh hgood hlen htb d ih w a r base v xs hB hrow hbase hbb hp hd hr0 hr1 hx h7
    by_cases h8 : (t.getD a nd0).1 = 8
    · exact specInto8 B ta tc t hin hsh hgood hlen htb d ih w a r base v xs hB hrow hbase hbb hp hd hr0 hr1 hx h8
    · exact specInto3 B ta tc t hin hsh hgood hlen htb d ih w a r base v xs hB hrow hbase hbb hp hd hr0 hr1 hx (by omega)

end Go.Proofs.YtogobeegibngiaaGreatDoor

/-! The contracts of chapter 13's specification: l13Compiled, Compiled. -/
namespace Go.Proofs.YtogobeegibngiaaGreatDoor
open Go.RowKit

set_option maxHeartbeats 2000000 in
set_option maxRecDepth 100000 in
theorem specCompiled13 (ta : Option Addr) (tc : Nat) (t : List Nd) (w : World) (hin : NodesIn w ta t.length t) (hsh : ShortT t) (htb : treeB t = true) :
    Calls Tryz.prog 51 #[.slice ta t.length tc] w fun e w' => ∃ v, e = .returned v ∧ w'.ownsRow w.heap.size 56 5 v (compiledV t).length (insV (compiledV t)) ∧ Below w.heap.size w w' := by
  obtain ⟨h60, hone⟩ := treeB_one.1 htb
  have hcl := (compiled_law htb).2.2.1
  obtain ⟨D, hD⟩ : ∃ D : Nat, D = 60 := ⟨60, rfl⟩
  have hcv : compiledV t = into13 D t 0 0 0 ++ [(10, 0, 0, 0, [])] := by rw [hD]; unfold compiledV; rw [if_pos htb]
  have hb0 : Below w.heap.size w (w.alloc (.cells #[] 56)) := (Below.refl _ _).alloc (Nat.le_refl _) _
  have hP0 : (w.alloc (.cells #[] 56)).ownsRow w.heap.size 56 5 (.slice (some ⟨w.heap.size, 0, none⟩) 0 0) 0 [] := World.ownsRow_lit w #[] 0 (Nat.le_refl _) (by decide) rfl
  have HC : Hid (Calls Tryz.prog 73 #[.slice (some ⟨w.heap.size, 0, none⟩) 0 0, .slice ta t.length tc, .int .i64 0, .int .i64 0] (w.alloc (.cells #[] 56)) fun e w' => ∃ v', e = .returned v' ∧ Co13 (w.alloc (.cells #[] 56)) w' w.heap.size (.slice (some ⟨w.heap.size, 0, none⟩) 0 0) v' (into13 D t 0 0 0)) :=
    specInto w ta tc t hin hsh hone.good12 h60 htb D (w.alloc (.cells #[] 56)) 0 0 w.heap.size (.slice (some ⟨w.heap.size, 0, none⟩) 0 0) [] hb0 hP0 hb0.size (Nat.le_refl _) (end_zero hone) (by omega) (by omega) (by omega) (by rw [hD]; simp)
  rw [hcv] at hcl ⊢
  obtain ⟨xs, hxs⟩ : ∃ xs, into13 D t 0 0 0 = xs := ⟨_, rfl⟩
  rw [hxs] at HC hcl ⊢
  have HB0 : Hid (Below w.heap.size w (w.alloc (.cells #[] 56))) := hb0
  have hnl : xs.length ≤ 120 := by rw [List.length_append] at hcl; simp at hcl; omega
  clear hcv hxs hD hb0 hP0 hin hsh htb h60 hone hcl
  go_enter Tryz.func51, Tryz.ntmps51
  go_wp2_with fail
  refine Calls.mono HC.out ?_
  rintro e W1 ⟨v1, rfl, hco⟩
  obtain ⟨a2, c2, W2, hrun, hco2⟩ := (Co13.new hco.row (Nat.le_trans hco.lh hco.g.size)).push (10, 0, 0, 0, []) (by omega)
  have hc3 := hco.trans hco2
  have HF : Hid (W2.ownsRow w.heap.size 56 5 (.slice a2 (xs.length + 1) c2) (xs ++ [(10, 0, 0, 0, [])]).length (insV (xs ++ [(10, 0, 0, 0, [])])) ∧ Below w.heap.size w W2) := ⟨hc3.row, HB0.out.grown hc3.g HB0.out.size (fun k e => by have e2 : w.heap.size = k := (by simpa [Value.ownBlock] using e); omega)⟩
  obtain ⟨nx, hnx⟩ : ∃ nx, xs.length = nx := ⟨_, rfl⟩
  obtain ⟨a1, c1, rfl⟩ := own_any12 hco.row
  rw [hnx] at hrun HF hnl ⊢
  have hn2 : ¬ ((nx : Int) + 1 > 200) := by omega
  have hn3 : (nx : Int) + 1 ≤ 200 := by omega
  clear hco hco2 hc3 HC hnx
  go_wp2_with (at_builtin; refine wpList_append_run rfl (.tmp 6) (.tmp 8) 48 rfl _ _ _ rfl rfl hrun ?_; clear hrun)
  go_ret
  exact ⟨_, rfl, HF.out.1, HF.out.2⟩

end Go.Proofs.YtogobeegibngiaaGreatDoor
