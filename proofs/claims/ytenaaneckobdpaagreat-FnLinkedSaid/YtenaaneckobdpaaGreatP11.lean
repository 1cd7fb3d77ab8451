/-
  Parts of one proof, one behind the other: DrawI2, IntoS.
-/
import Derived.Test.YtenaaneckobdpaaGreatP10
import Derived.Maps.AppendAt
namespace Go.Proofs.YtenaaneckobdpaaGreat
open Go.RowKit
set_option maxHeartbeats 20000000 in
set_option maxRecDepth 100000 in
theorem ziL (w : World) (B : Nat) (a : Option Addr) (len cap : Nat) (h : Cur w B a len cap) :
 Calls Tryz.prog 109 #[.pointer (some ⟨B, 0, none⟩)] w fun e w' => ∃ i : In13, e = .returned (zak i) ∧ SmI i ∧ Cur w' B a len cap ∧ w.grownBy w' (some B) := by
 go_enter Tryz.func109, Tryz.ntmps109
 go_wp2_with (guard_target = wpList _ _ _ _ _ _; (refine zav rfl rfl 2 rfl (fun W1 R hN1 hB1 hG1 => ?_)))
 have hc1 := h.below hB1
 have hlB := h.lt
 refine (zkf _ B a len cap 9 (by omega) (by omega) hc1).mono ?_
 rintro e W2 ⟨⟨k, r, aa, b, s⟩, rfl, hsm, hc2, hg2⟩
 have hN2 := hN1.kept hg2 (by simp; omega)
 have hw2 : w.grownBy W2 (some B) := ⟨hg2.os.trans hB1.os, hg2.tape.trans hB1.tape, hg2.output.trans hB1.output, Nat.le_trans hB1.size hg2.size, fun q hq hne => (hg2.block q (Nat.lt_of_lt_of_le hq hB1.size) hne).trans (hB1.block q hq)⟩
 have hRl := hN2.lt
 obtain ⟨hm0, hm1, hm2, hm3, hm4⟩ := hsm
 simp only at hm0 hm1 hm2 hm3 hm4
 clear hc1 hg2 hN1 hB1
 go_wp2_with (guard_target = wpList _ _ _ _ _ _; first | (refine zav rfl rfl 3 rfl (fun W4 D hN4 hB4 hG4 => ?_)) | (refine zab rfl _ _ rfl _ k r aa b s rfl rfl hN4 (fun W5 hN5 hg5 _ _ _ => ?_)))
 have s0 : Di w W5 B a len cap R D k r aa b s := Di.at (k := 0) (r := 0) (a := 0) (b := 0) (s := []) ⟨hc2.below hB4, ⟨hB4.os.trans hw2.os, hB4.tape.trans hw2.tape, hB4.output.trans hw2.output, Nat.le_trans hw2.size hB4.size, fun q hq hne => (hB4.block q (Nat.lt_of_lt_of_le hq hw2.size)).trans (hw2.block q hq hne)⟩, hN2.keep (hB4.block R hRl), hN4, by omega, hG1, by omega⟩ hg5 hN5
 clear hN2 hN4 hB4 hG4 hN5 hg5 hw2 hc2
 refine (zbe _ B a len cap 6 (by omega) (by omega) s0.cur).mono ?_
 rintro e W6 ⟨o, rfl, hc6, hg6⟩
 have s1 := s0.draw hc6 hg6
 clear hc6 hg6 s0
 rcases o with _ | _
 ·
  go_wp2_with (guard_target = wpList _ _ _ _ _ _; first | (refine zat rfl _ rfl 42 rfl _ k r aa b s rfl (by exact s1.d) ?_) | (refine zab rfl _ _ rfl _ k r aa b s rfl rfl (by exact s1.rs) (fun Z hZ hgZ _ _ _ => ?_)))
  refine bodyPost_ret (v := zak (k, r, aa, b, s)) (zaG Tryz.results109 _ _ R k r aa b s rfl hZ) rfl ?_
  exact ⟨_, rfl, by unfold SmI; refine ⟨?_, ?_, ?_, ?_, ?_⟩ <;> (try simp only) <;> omega, (s1.done hgZ).1, (s1.done hgZ).2⟩
 ·
  go_wp2_with fail
  refine (zaf _ B a len cap 4 (by omega) (by omega) s1.cur).mono ?_
  rintro e W7 ⟨x, rfl, hx0, hx1, hcx, hgx⟩
  have s2 := s1.draw hcx hgx
  clear hcx hgx s1
  have HK : Hid (x = 0 ∨ x = 1 ∨ x = 2 ∨ x = 3) := by exact (by omega : x = 0 ∨ x = 1 ∨ x = 2 ∨ x = 3)
  clear hx0 hx1
  rcases HK.out with rfl | rfl | rfl | rfl
  ·
   clear HK
   have s3 := s2.alloc (.cells (([0, 11, -1, 9] : List Int).map (Value.int .i64)).toArray 2)
   go_wp2_with fail
   refine (zaf _ B a len cap 4 (by omega) (by omega) s3.cur).mono ?_
   rintro e W8 ⟨u, rfl, hu0, hu1, hcu, hgu⟩
   have s4 := s3.draw hcu hgu
   have hcx := hgu.cell (zdr [0, 11, -1, 9] u hu0 hu1 W7 2) (by have := s2.cur.lt; simp; omega)
   have hpi := zfs [0, 11, -1, 9] u (-1) 11 hu0 hu1 (by simp)
   generalize pick [0, 11, -1, 9] u = z at hcx hpi
   have y0 := s4.d.c0
   have y1 := s4.d.c1
   have y2 := s4.d.c2
   have y3 := s4.d.c3
   have y4 := s4.d.c4
   have yf := s4.d.fr
   have s5 := s4.setK z
   clear hcu hgu s2 s3
   go_wp2_with (guard_target = wpList _ _ _ _ _ _; first | (refine zat rfl _ rfl 42 rfl _ z r aa b s rfl (by exact s5.d) ?_) | (refine zab rfl _ _ rfl _ z r aa b s rfl rfl (by exact s5.rs) (fun Z hZ hgZ _ _ _ => ?_)))
   refine bodyPost_ret (v := zak (z, r, aa, b, s)) (zaG Tryz.results109 _ _ R z r aa b s rfl hZ) rfl ?_
   exact ⟨_, rfl, by unfold SmI; refine ⟨?_, ?_, ?_, ?_, ?_⟩ <;> (try simp only) <;> omega, (s5.done hgZ).1, (s5.done hgZ).2⟩
  ·
   clear HK
   have s3 := s2.alloc (.cells (([-1, 61, 62, 63, 64] : List Int).map (Value.int .i64)).toArray 2)
   go_wp2_with fail
   refine (zaf _ B a len cap 5 (by omega) (by omega) s3.cur).mono ?_
   rintro e W8 ⟨u, rfl, hu0, hu1, hcu, hgu⟩
   have s4 := s3.draw hcu hgu
   have hcx := hgu.cell (zdr [-1, 61, 62, 63, 64] u hu0 hu1 W7 2) (by have := s2.cur.lt; simp; omega)
   have hpi := zfs [-1, 61, 62, 63, 64] u (-1) 64 hu0 hu1 (by simp)
   generalize pick [-1, 61, 62, 63, 64] u = z at hcx hpi
   have y0 := s4.d.c0
   have y1 := s4.d.c1
   have y2 := s4.d.c2
   have y3 := s4.d.c3
   have y4 := s4.d.c4
   have yf := s4.d.fr
   have s5 := s4.setR z
   clear hcu hgu s2 s3
   go_wp2_with (guard_target = wpList _ _ _ _ _ _; first | (refine zat rfl _ rfl 42 rfl _ k z aa b s rfl (by exact s5.d) ?_) | (refine zab rfl _ _ rfl _ k z aa b s rfl rfl (by exact s5.rs) (fun Z hZ hgZ _ _ _ => ?_)))
   refine bodyPost_ret (v := zak (k, z, aa, b, s)) (zaG Tryz.results109 _ _ R k z aa b s rfl hZ) rfl ?_
   exact ⟨_, rfl, by unfold SmI; refine ⟨?_, ?_, ?_, ?_, ?_⟩ <;> (try simp only) <;> omega, (s5.done hgZ).1, (s5.done hgZ).2⟩
  ·
   clear HK
   have s3 := s2.alloc (.cells (([-1, 3, 4, 63, 64, 199, 200] : List Int).map (Value.int .i64)).toArray 2)
   go_wp2_with fail
   refine (zaf _ B a len cap 7 (by omega) (by omega) s3.cur).mono ?_
   rintro e W8 ⟨u, rfl, hu0, hu1, hcu, hgu⟩
   have s4 := s3.draw hcu hgu
   have hcx := hgu.cell (zdr [-1, 3, 4, 63, 64, 199, 200] u hu0 hu1 W7 2) (by have := s2.cur.lt; simp; omega)
   have hpi := zfs [-1, 3, 4, 63, 64, 199, 200] u (-1) 200 hu0 hu1 (by simp)
   generalize pick [-1, 3, 4, 63, 64, 199, 200] u = z at hcx hpi
   have y0 := s4.d.c0
   have y1 := s4.d.c1
   have y2 := s4.d.c2
   have y3 := s4.d.c3
   have y4 := s4.d.c4
   have yf := s4.d.fr
   have s5 := s4.setA z
   clear hcu hgu s2 s3
   go_wp2_with (guard_target = wpList _ _ _ _ _ _; first | (refine zat rfl _ rfl 42 rfl _ k r z b s rfl (by exact s5.d) ?_) | (refine zab rfl _ _ rfl _ k r z b s rfl rfl (by exact s5.rs) (fun Z hZ hgZ _ _ _ => ?_)))
   refine bodyPost_ret (v := zak (k, r, z, b, s)) (zaG Tryz.results109 _ _ R k r z b s rfl hZ) rfl ?_
   exact ⟨_, rfl, by unfold SmI; refine ⟨?_, ?_, ?_, ?_, ?_⟩ <;> (try simp only) <;> omega, (s5.done hgZ).1, (s5.done hgZ).2⟩
  ·
   clear HK
   have s3 := s2.alloc (.cells (strV [[], [108, 105, 98], [108, 105, 98, 46], [97, 46, 98, 46, 99], [108, 105, 98, 46, 102]]).toArray 9)
   go_wp2_with fail
   refine (zaf _ B a len cap 5 (by omega) (by omega) s3.cur).mono ?_
   rintro e W8 ⟨u, rfl, hu0, hu1, hcu, hgu⟩
   have s4 := s3.draw hcu hgu
   have hcx := hgu.cell (zeY [[], [108, 105, 98], [108, 105, 98, 46], [97, 46, 98, 46, 99], [108, 105, 98, 46, 102]] u hu0 hu1 W7 9) (by have := s2.cur.lt; simp; omega)
   have hpl := zg2 [[], [108, 105, 98], [108, 105, 98, 46], [97, 46, 98, 46, 99], [108, 105, 98, 46, 102]] u 9 (by simp)
   generalize zim [[], [108, 105, 98], [108, 105, 98, 46], [97, 46, 98, 46, 99], [108, 105, 98, 46, 102]] u = nm at hcx hpl
   have y0 := s4.d.c0
   have y1 := s4.d.c1
   have y2 := s4.d.c2
   have y3 := s4.d.c3
   have y4 := s4.d.c4
   have yf := s4.d.fr
   have s5 := s4.setS nm
   clear hcu hgu s2 s3
   go_wp2_with (guard_target = wpList _ _ _ _ _ _; first | (refine zat rfl _ rfl 42 rfl _ k r aa b nm rfl (by exact s5.d) ?_) | (refine zab rfl _ _ rfl _ k r aa b nm rfl rfl (by exact s5.rs) (fun Z hZ hgZ _ _ _ => ?_)))
   refine bodyPost_ret (v := zak (k, r, aa, b, nm)) (zaG Tryz.results109 _ _ R k r aa b nm rfl hZ) rfl ?_
   exact ⟨_, rfl, by unfold SmI; refine ⟨?_, ?_, ?_, ?_, ?_⟩ <;> (try simp only) <;> omega, (s5.done hgZ).1, (s5.done hgZ).2⟩
structure Co13 (w X : World) (base : Nat) (v0 v : Value) (xs : List In13) : Prop where
 row : X.ownsRow base 58 5 v xs.length (insV xs)
 g : w.grownBy X v0.ownBlock
 loc : v.ownBlock = v0.ownBlock ∨ ∃ k, v.ownBlock = some k ∧ w.heap.size ≤ k
 lh : base ≤ w.heap.size
section
variable {w X Y : World} {base : Nat} {v0 v u : Value} {xs ys : List In13}
theorem Co13.new (h : w.ownsRow base 58 5 v xs.length (insV xs)) (hb : base ≤ w.heap.size) : Co13 w w base v v xs := ⟨h, World.grownBy.refl _ _, Or.inl rfl, hb⟩
theorem Co13.below (h : Co13 w X base v0 v xs) (hb : Below X.heap.size X Y) : Co13 w Y base v0 v xs :=
 ⟨za6 h.row hb, ⟨hb.os.trans h.g.os, hb.tape.trans h.g.tape, hb.output.trans h.g.output, Nat.le_trans h.g.size hb.size, fun k hk hne => (hb.block k (Nat.lt_of_lt_of_le hk h.g.size)).trans (h.g.block k hk hne)⟩, h.loc, h.lh⟩
theorem Co13.trans (h : Co13 w X base v0 v xs) (h2 : Co13 X Y base v u ys) : Co13 w Y base v0 u ys := by
 refine ⟨h2.row, ⟨h2.g.os.trans h.g.os, h2.g.tape.trans h.g.tape, h2.g.output.trans h.g.output, Nat.le_trans h.g.size h2.g.size, fun k hk hne => ?_⟩, ?_, h.lh⟩
 ·
  refine (h2.g.block k (Nat.lt_of_lt_of_le hk h.g.size) (fun e => ?_)).trans (h.g.block k hk hne)
  rcases h.loc with hl | ⟨q, hq, hqw⟩
  ·
   exact hne (e.trans hl)
  ·
   rw [hq] at e
   injection e with e
   omega
 ·
  rcases h2.loc with e2 | ⟨q, hq, hqw⟩
  ·
   rcases h.loc with e1 | ⟨q, hq, hqw⟩
   ·
    exact Or.inl (e2.trans e1)
   ·
    exact Or.inr ⟨q, e2.trans hq, hqw⟩
  ·
   exact Or.inr ⟨q, hq, Nat.le_trans h.g.size hqw⟩
theorem Co13.push (h : Co13 w X base v0 v xs) (x : In13) (hn : xs.length ≤ 1048576) :
 ∃ a' c' Y, (Builtin.append_ #[39, 39] 39 #[v, .slice (some ⟨X.heap.size, 0, none⟩) 1 1]).run Tryz.prog (X.alloc (.cells #[.int .i64 x.1, .int .i64 x.2.1, .int .i64 x.2.2.1, .int .i64 x.2.2.2.1, .string ⟨x.2.2.2.2.toArray⟩] 58)) = .ok (.slice a' (xs.length + 1) c') Y ∧ Co13 w Y base v0 (.slice a' (xs.length + 1) c') (xs ++ [x]) := by
 obtain ⟨i0, hi, hz0, hz1, hz2⟩ := info_parts zhb
 have hbX : base ≤ X.heap.size := Nat.le_trans h.lh h.g.size
 have hb0 : Below X.heap.size X (X.alloc (.cells #[.int .i64 x.1, .int .i64 x.2.1, .int .i64 x.2.2.1, .int .i64 x.2.2.2.1, .string ⟨x.2.2.2.2.toArray⟩] 58)) := (Below.refl _ _).alloc (Nat.le_refl _) _
 have h1 := h.below hb0
 obtain ⟨v', Y, hrun, hown, hg, _, hloc⟩ := run_append_own_at (P := Tryz.prog) (X.alloc (.cells #[.int .i64 x.1, .int .i64 x.2.1, .int .i64 x.2.2.1, .int .i64 x.2.2.2.1, .string ⟨x.2.2.2.2.toArray⟩] 58)) base 39 39 58 i0 _ 5 48 Tryz.underlying39 hi hz0 hz1 hz2 rfl (by decide) v xs.length (insV xs) h1.row ⟨X.heap.size, 0, none⟩ 1 1 (insV [x]) rfl (zjB X x) (zfF _) (by unfold maxLen; omega) (by omega) (by simp; omega)
 obtain ⟨a', c', rfl⟩ := zaO hown
 have e1 : (xs ++ [x]).length = xs.length + 1 := by simp
 refine ⟨a', c', Y, hrun, h1.trans ⟨?_, hg, ?_, Nat.le_trans hbX hb0.size⟩⟩
 ·
  rw [e1, zey]; exact hown
 ·
  rcases hloc with e | e
  ·
   exact Or.inl e
  ·
   exact Or.inr ⟨_, e, Nat.le_refl _⟩
end
def Int13 (B : World) (ta : Option Addr) (tc : Nat) (t : List Nd) (d : Nat) : Prop := ∀ (w : World) (a : Nat) (r : Int) (base : Nat) (v : Value) (xs : List In13), Below B.heap.size B w → w.ownsRow base 58 5 v xs.length (insV xs) → base ≤ w.heap.size → B.heap.size ≤ base → 0 ≤ endV t (a : Int) → t.length ≤ a + d → 0 ≤ r → r + 3 * d ≤ 1000 → xs.length + 400 * d ≤ 100000 →
 Calls Tryz.prog 103 #[v, .slice ta t.length tc, .int .i64 (a : Int), .int .i64 r] w fun e w' => ∃ v', e = .returned v' ∧ Co13 w w' base v v' (xs ++ zad d t (a : Int) r (xs.length : Int))
end Go.Proofs.YtenaaneckobdpaaGreat
