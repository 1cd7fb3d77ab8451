/-
  Parts of one proof, one behind the other: WrE, CompS.
-/
import Derived.Test.YtkpdoedpkncboaaGreatP20
namespace Go.Proofs.YtkpdoedpkncboaaGreat
open Go.RowKit
section
variable {op : Oper} {a : Act} {w : World} {Q : Exit → Act → World → Prop} {K : Act → World → Prop}
theorem sizeNd : (Tryz.prog.info? 90).map (·.size) = some 4 := by kernel_rfl
def ndL (k A : Int) (p f : List UInt8) : List Value := [.int .i64 k, .int .i64 A, .string ⟨p.toArray⟩, .string ⟨f.toArray⟩]
theorem zb7 (ho : op.op = .alloc 90) (d : Nat) (hd : op.dst = some d) (h : ∀ Y g, Rb Y g 0 (ndL 0 0 [] []) → Below w.heap.size w Y → w.heap.size ≤ g → K (a.put (some d) (.pointer (some ⟨g, 0, none⟩))) Y) : op.wp Tryz.prog a w K Q := by
 unfold Oper.wp execOp
 simp only [ho, Instr.alloc, Sem.run_bind, Tryz.zeroValue90, Result.andThen_ok, newVar, newRow, run_newObj_alloc, Sem.run_pure, Value.cells]
 have h2 := h _ _ (Rb.new w #[.int .i64 0, .int .i64 0, .string ⟨#[]⟩, .string ⟨#[]⟩] 90) ((Below.refl _ _).alloc (Nat.le_refl _) _) (Nat.le_refl _)
 rw [← hd] at h2
 exact h2
theorem zb6 (x y : Operand) (ho : op.op = .store 90 x y) (b : Nat) (k A : Int) (p f : List UInt8) (hx : a.eval x = .pointer (some ⟨b, 0, none⟩)) (hy : a.eval y = .agg #[.int .i64 k, .int .i64 A, .string ⟨p.toArray⟩, .string ⟨f.toArray⟩]) (ht : Rb w b 0 (ndL 0 0 [] []))
 (h : ∀ Y, Rb Y b 0 (ndL k A p f) → w.grownBy Y (some b) → K (a.put op.dst undef) Y) : op.wp Tryz.prog a w K Q := by
 refine wp_store_mid _ x y ho b 0 #[.int .i64 k, .int .i64 A, .string ⟨p.toArray⟩, .string ⟨f.toArray⟩] hx hy ht.ok sizeNd (all_oneCell_toArray (by intro v hv; simp only [List.mem_cons, List.not_mem_nil, or_false] at hv; rcases hv with rfl | rfl | rfl | rfl <;> rfl)) ?_
 exact h _ (Rb.store (vs := ndL k A p f) ht.ok ht.lt) (zbs b _ 0 w)
end
structure Pp13 (w X : World) (pa : Option Addr) (gp m : Nat) (ps : List Int) : Prop where
 pa : 0 < m → pa = some ⟨gp, 0, none⟩
 cs : ∀ j, j < m → X.cell? ⟨gp, j, none⟩ = some (.int .i64 (ps.getD j 0))
 lt : 0 < m → gp < X.heap.size
 lo : 0 < m → w.heap.size ≤ gp
theorem Pp13.low {w w2 X : World} {pa : Option Addr} {gp m : Nat} {ps : List Int} (h : Pp13 w2 X pa gp m ps) (hb : w.heap.size ≤ w2.heap.size) : Pp13 w X pa gp m ps := ⟨h.pa, h.cs, h.lt, fun hm => Nat.le_trans hb (h.lo hm)⟩
theorem Pp13.of {w X : World} {B m : Nat} {v : Value} {ps : List Int} (h : X.ownsRow B 2 1 v m (zaF ps)) (hl : ps.length = m) (hb : w.heap.size ≤ B) : ∃ pa pc gp, v = .slice pa m pc ∧ Pp13 w X pa gp m ps := by
 by_cases hm : 0 < m
 ·
  obtain ⟨gp, cp, rfl⟩ := zag h (by omega)
  have hg := h.lt gp rfl
  exact ⟨_, cp, gp, rfl, fun _ => rfl, fun j hj => zaB h j (by omega), fun _ => hg.2, fun _ => Nat.le_trans hb hg.1⟩
 ·
  obtain ⟨a, c, rfl⟩ := zaE h
  exact ⟨a, c, 0, rfl, fun h => absurd h hm, fun j hj => by omega, fun h => absurd h hm, fun h => absurd h hm⟩
theorem Pp13.keep {w X Y : World} {pa : Option Addr} {gp m : Nat} {ps : List Int} (h : Pp13 w X pa gp m ps) (hb : 0 < m → Y.heap[gp]? = X.heap[gp]?) (hs : X.heap.size ≤ Y.heap.size) : Pp13 w Y pa gp m ps :=
 ⟨h.pa, fun j hj => (World.cell?_of_block (a := ⟨gp, j, none⟩) (hb (by omega))).trans (h.cs j hj), fun hm => Nat.lt_of_lt_of_le (h.lt hm) hs, h.lo⟩
theorem Pp13.below {w X Y : World} {pa : Option Addr} {gp m : Nat} {ps : List Int} (h : Pp13 w X pa gp m ps) (hb : Below X.heap.size X Y) : Pp13 w Y pa gp m ps := h.keep (fun hm => hb.block gp (h.lt hm)) hb.size
structure It13 (w X : World) (gn : Nat) (k A : Int) (p f : List UInt8) (pa : Option Addr) (gp m : Nat) (ps : List Int) : Prop where
 b : Below w.heap.size w X
 n : Rb X gn 0 (ndL k A p f)
 lo : w.heap.size ≤ gn
 pp : Pp13 w X pa gp m ps
set_option maxHeartbeats 8000000 in
set_option maxRecDepth 100000 in
theorem zlB (B : World) (ta : Option Addr) (tc : Nat) (t : List Nd) (gN g base d : Nat) (hin : za4 B ta t.length t) (hint : IntT t) (hsh : zam t) (hlen : t.length ≤ 60) (htb : zaI t = true) (w : World) (a : Nat) (r : Int) (v : Value) (xs : List In13) (hw : Wr13 B w w g base (.slice ta t.length tc) (.slice (some ⟨gN, 0, none⟩) t.length t.length) v v xs) (hp : 0 ≤ endV t (a : Int)) (hx : xs.length + 400 * (d + 1) ≤ 100000) (hk : (t.getD a nd0).1 = 1) :
 Calls Tryz.prog 80 #[.pointer (some ⟨g, 0, none⟩), .int .i64 r, .int .i64 (a : Int)] w fun e w' => e = .returned (.tuple #[]) ∧ ∃ u, Wr13 B w w' g base (.slice ta t.length tc) (.slice (some ⟨gN, 0, none⟩) t.length t.length) v u (xs ++ za3 (d + 1) t (a : Int) r (xs.length : Int)) := by
 obtain ⟨hal, -, -, -, -⟩ := zac hp
 have hpl : (za1 t (a : Int)).length = za7 (t.getD a nd0) := zb0 t a
 have HPo : Hid (∀ X, Below w.heap.size w X → Calls Tryz.prog 113 #[.slice ta t.length tc, .int .i64 (a : Int)] X fun e w' => ∃ pa pc gp, e = .returned (.slice pa (za7 (t.getD a nd0)) pc) ∧ Pp13 X w' pa gp (za7 (t.getD a nd0)) (za1 t (a : Int)) ∧ Below X.heap.size X w') := fun X hb => by
  have hBX : Below B.heap.size B X := (hw.below hb).bB
  have h := zbS ta t.length tc t (a : Int) X (hin.below hBX) hint hsh (by omega) (by omega)
  rw [zd1 htb hal, hpl] at h
  refine h.mono ?_
  rintro e w' ⟨pv, rfl, hpv, hb2⟩
  obtain ⟨pa, pc, gp, rfl, hpp⟩ := Pp13.of (w := X) hpv hpl (Nat.le_refl _)
  exact ⟨pa, pc, gp, rfl, hpp, hb2⟩
 have hs1 := (hsh a).1
 have hs2 := (hsh a).2
 have HGN : Hid (∀ b, w.heap.size ≤ b → b ≠ g ∧ v.ownBlock ≠ some b) := fun b hb => ⟨fun e => by have := hw.lt; omega, fun e => by have := (hw.row.lt b e).2; omega⟩
 have hr : za3 (d + 1) t (a : Int) r (xs.length : Int) = [(1, r, (t.getD a nd0).2.1, 0, [])] := by
  rw [za3, Int.toNat_natCast]
  simp only
  rw [if_pos hk]
 have HT : Hid (∀ X, Below w.heap.size w X → Calls Tryz.prog 81 #[.pointer (some ⟨g, 0, none⟩), .agg #[.int .i64 1, .int .i64 r, .int .i64 (t.getD a nd0).2.1, .int .i64 0, .string ⟨#[]⟩]] X fun e w' => e = .returned (.int .i64 (xs.length : Int)) ∧ ∃ u, Wr13 B X w' g base (.slice ta t.length tc) (.slice (some ⟨gN, 0, none⟩) t.length t.length) v u (xs ++ za3 (d + 1) t (a : Int) r (xs.length : Int))) := fun X hb => by
  rw [hr]
  exact zc0 B X g base _ _ v xs (1, r, (t.getD a nd0).2.1, 0, []) (hw.below hb).here (by omega)
 clear hr
 obtain ⟨bt, ot, rfl, hbt, q0, q1, q2, q3⟩ := (hin.below hw.bB).2 a hal
 obtain ⟨res, hres⟩ : ∃ res, za3 (d + 1) t (a : Int) r (xs.length : Int) = res := ⟨_, rfl⟩
 rw [hres] at HT ⊢
 obtain ⟨n, hn⟩ : ∃ n, t.getD a nd0 = n := ⟨_, rfl⟩
 rw [hn] at q0 q1 q2 q3 hk HPo
 (try rw [hn] at HT)
 obtain ⟨kd, nA, np, nf⟩ := n
 dsimp only at q0 q1 q2 q3 hk
 (try dsimp only at HT)
 subst hk
 have HG : Hid (∀ X, Below w.heap.size w X → X.cell? ⟨g, 0, none⟩ = some (.slice (some ⟨bt, ot, none⟩) t.length tc) ∧ X.cell? ⟨bt, ot + a * 4, none⟩ = some (.int .i64 1) ∧ X.cell? ⟨bt, ot + a * 4 + 1, none⟩ = some (.int .i64 nA) ∧ X.cell? ⟨bt, ot + a * 4 + 2, none⟩ = some (.string ⟨np.toArray⟩) ∧ X.cell? ⟨bt, ot + a * 4 + 3, none⟩ = some (.string ⟨nf.toArray⟩)) := fun X hb =>
  ⟨(hw.below hb).c0, (hb.cell (p := ⟨bt, ot + a * 4, none⟩) hbt).trans q0, (hb.cell (p := ⟨bt, ot + a * 4 + 1, none⟩) hbt).trans q1, (hb.cell (p := ⟨bt, ot + a * 4 + 2, none⟩) hbt).trans q2, (hb.cell (p := ⟨bt, ot + a * 4 + 3, none⟩) hbt).trans q3⟩
 have HW : Hid (Wr13 B w w g base (.slice (some ⟨bt, ot, none⟩) t.length tc) (.slice (some ⟨gN, 0, none⟩) t.length t.length) v v xs) := hw
 have hal2 : (a : Int) < (t.length : Int) := by omega
 generalize za7 (1, nA, np, nf) = m at *
 generalize za1 t (a : Int) = ps at *
 clear hw hin hint hsh hlen htb hp hal hpl hx hs1 hs2 hbt hres hn q0 q1 q2 q3
 go_enter Tryz.func80, Tryz.ntmps80
 go_wp2
 refine wp_region_held_drew (S := fun X => Below w.heap.size w X) (by kernel_rfl) ⟨rfl, rfl, rfl, Nat.le_refl _, fun _ _ => rfl⟩ (fun hHeld => ?_)
 refine tkO [(0, 8), (1, 9), (2, 10), (3, 11), (4, 12), (5, 13), (6, 14), (7, 15), (8, 16), (9, 17), (10, 18), (11, 19)] ?_
 repeat (refine tkY ?_ rfl (by rfl) ?_ ?_; rotate_left; (focus (intro wq hSw; have e0 := (HG.out wq hSw).1; have e1 := (HG.out wq hSw).2.1; have e2 := (HG.out wq hSw).2.2.1; have e3 := (HG.out wq hSw).2.2.2.1; have e4 := (HG.out wq hSw).2.2.2.2; clear hSw; first | (go_simp; done) | (go_simp; with_reducible rfl))); simp only [zP])
 refine tkZ ?_
 refine wpAnyH_ready (rs := [12, 13]) (by kernel_rfl) (by simp) ?_
 refine AllReadyH.cons rfl (fun K hK => ?_) (AllReadyH.cons rfl (fun K hK => ?_) AllReadyH.nil)
 ·
  have hlw := hHeld.size
  go_simp
  refine Calls.mono (HPo.out _ hHeld) ?_
  rintro e W1 ⟨pa, pc, gp, rfl, hpp, hb1⟩
  dsimp only
  refine hK.out _ _ (by exact hHeld.trans (hb1.mono hHeld.size)) (fun hHeld => ?_)
  clear hK K
  (try simp only [zP])
  refine zR 13 rfl (fun K hK => ?_)
  refine zaf rfl (zb7 rfl 6 rfl (fun Y2 gn hR2 hB2 hG2 => ?_))
  have hlo : w.heap.size ≤ gn := Nat.le_trans hHeld.size hG2
  have hne : 0 < m → gp ≠ gn := fun hm => by have := hpp.lt hm; omega
  replace hpp := (hpp.below hB2).low (w := w) hlw
  refine hK.out _ _ (by exact hHeld.trans (hB2.mono hHeld.size)) (fun hHeld => ?_)
  clear hK K
  (try simp only [zP])
  refine zR 14 rfl (fun K hK => ?_)
  refine zaf rfl (zb6 _ _ rfl gn 1 nA np nf rfl rfl hR2 (fun Y3 hR3 hG3 => ?_))
  refine hK.out _ _ (by exact hHeld.grown hG3 hHeld.size (fun q e => by injection e with e; omega)) (fun hHeld => ?_)
  clear hK K
  (try simp only [Act.put])
  replace hpp := hpp.keep (fun hm => hG3.block gp (hpp.lt hm) (by intro e; injection e with e; exact absurd e (hne hm))) hG3.size
  refine wpAnyH_take (i := 15) (oi := ⟨some 7, _, _, _, _, _⟩) (v := ?v13) rfl (by kernel_rfl) (by kernel_rfl) (by kernel_rfl) (fun _ _ _ h => h) (Or.inl ⟨by rfl, ?hy13⟩) (by assumption) ?rest13
  case hy13 => (intro wq hSw; clear hSw; first | (go_simp; done) | (go_simp; with_reducible rfl))
  simp only [Act.put, zA]
  have it : Hid (It13 w Y3 gn 1 nA np nf pa gp m ps) := ⟨hHeld, hR3, hlo, hpp⟩
  refine wpAnyH_done (by kernel_rfl) ?_ _
  clear hHeld hR2 hR3 hG3 hpp hB2 hG2 hb1 hne hlo hlw HPo HG
  have k0 : Y3.cell? ⟨gn, 0, none⟩ = some (.int .i64 1) := it.out.n.cell 0 _ rfl
  have k1 : Y3.cell? ⟨gn, 1, none⟩ = some (.int .i64 nA) := it.out.n.cell 1 _ rfl
  go_wp2_with fail
  refine Calls.mono (HT.out _ it.out.b) ?_
  rintro e W5 ⟨rfl, u, hw5⟩
  have HF : Hid (_) := (HW.out.below it.out.b).trans hw5
  clear hw5 it HT k0 k1
  go_wp2
  go_end0
  exact ⟨rfl, u, HF.out⟩
 ·
  refine zaf rfl (zb7 rfl 6 rfl (fun Y2 gn hR2 hB2 hG2 => ?_))
  have hlo : w.heap.size ≤ gn := Nat.le_trans hHeld.size hG2
  refine hK.out _ _ (by exact hHeld.trans (hB2.mono hHeld.size)) (fun hHeld => ?_)
  clear hK K
  (try simp only [zP])
  refine zR 12 rfl (fun K hK => ?_)
  have hlw := hHeld.size
  go_simp
  refine Calls.mono (HPo.out _ hHeld) ?_
  rintro e W1 ⟨pa, pc, gp, rfl, hpp, hb1⟩
  dsimp only
  have hne : 0 < m → gp ≠ gn := fun hm e => by have h1 := hpp.lo hm; have h2 := hR2.lt; omega
  replace hR2 := hR2.below hb1
  replace hpp := hpp.low (w := w) hlw
  refine hK.out _ _ (by exact hHeld.trans (hb1.mono hHeld.size)) (fun hHeld => ?_)
  clear hK K
  (try simp only [zP])
  refine zR 14 rfl (fun K hK => ?_)
  refine zaf rfl (zb6 _ _ rfl gn 1 nA np nf rfl rfl hR2 (fun Y3 hR3 hG3 => ?_))
  refine hK.out _ _ (by exact hHeld.grown hG3 hHeld.size (fun q e => by injection e with e; omega)) (fun hHeld => ?_)
  clear hK K
  (try simp only [Act.put])
  replace hpp := hpp.keep (fun hm => hG3.block gp (hpp.lt hm) (by intro e; injection e with e; exact absurd e (hne hm))) hG3.size
  refine wpAnyH_take (i := 15) (oi := ⟨some 7, _, _, _, _, _⟩) (v := ?v14) rfl (by kernel_rfl) (by kernel_rfl) (by kernel_rfl) (fun _ _ _ h => h) (Or.inl ⟨by rfl, ?hy14⟩) (by assumption) ?rest14
  case hy14 => (intro wq hSw; clear hSw; first | (go_simp; done) | (go_simp; with_reducible rfl))
  simp only [Act.put, zA]
  have it : Hid (It13 w Y3 gn 1 nA np nf pa gp m ps) := ⟨hHeld, hR3, hlo, hpp⟩
  refine wpAnyH_done (by kernel_rfl) ?_ _
  clear hHeld hR2 hR3 hG3 hpp hB2 hG2 hb1 hne hlo hlw HPo HG
  have k0 : Y3.cell? ⟨gn, 0, none⟩ = some (.int .i64 1) := it.out.n.cell 0 _ rfl
  have k1 : Y3.cell? ⟨gn, 1, none⟩ = some (.int .i64 nA) := it.out.n.cell 1 _ rfl
  go_wp2_with fail
  refine Calls.mono (HT.out _ it.out.b) ?_
  rintro e W5 ⟨rfl, u, hw5⟩
  have HF : Hid (_) := (HW.out.below it.out.b).trans hw5
  clear hw5 it HT k0 k1
  go_wp2
  go_end0
  exact ⟨rfl, u, HF.out⟩
set_option maxHeartbeats 8000000 in
set_option maxRecDepth 100000 in
theorem zlA (B : World) (ta : Option Addr) (tc : Nat) (t : List Nd) (gN g base d : Nat) (hin : za4 B ta t.length t) (hint : IntT t) (hsh : zam t) (hlen : t.length ≤ 60) (htb : zaI t = true) (w : World) (a : Nat) (r : Int) (v : Value) (xs : List In13) (hw : Wr13 B w w g base (.slice ta t.length tc) (.slice (some ⟨gN, 0, none⟩) t.length t.length) v v xs) (hp : 0 ≤ endV t (a : Int)) (hx : xs.length + 400 * (d + 1) ≤ 100000) (hk : (t.getD a nd0).1 = 2) :
 Calls Tryz.prog 80 #[.pointer (some ⟨g, 0, none⟩), .int .i64 r, .int .i64 (a : Int)] w fun e w' => e = .returned (.tuple #[]) ∧ ∃ u, Wr13 B w w' g base (.slice ta t.length tc) (.slice (some ⟨gN, 0, none⟩) t.length t.length) v u (xs ++ za3 (d + 1) t (a : Int) r (xs.length : Int)) := by
 obtain ⟨hal, -, -, -, -⟩ := zac hp
 have hpl : (za1 t (a : Int)).length = za7 (t.getD a nd0) := zb0 t a
 have HPo : Hid (∀ X, Below w.heap.size w X → Calls Tryz.prog 113 #[.slice ta t.length tc, .int .i64 (a : Int)] X fun e w' => ∃ pa pc gp, e = .returned (.slice pa (za7 (t.getD a nd0)) pc) ∧ Pp13 X w' pa gp (za7 (t.getD a nd0)) (za1 t (a : Int)) ∧ Below X.heap.size X w') := fun X hb => by
  have hBX : Below B.heap.size B X := (hw.below hb).bB
  have h := zbS ta t.length tc t (a : Int) X (hin.below hBX) hint hsh (by omega) (by omega)
  rw [zd1 htb hal, hpl] at h
  refine h.mono ?_
  rintro e w' ⟨pv, rfl, hpv, hb2⟩
  obtain ⟨pa, pc, gp, rfl, hpp⟩ := Pp13.of (w := X) hpv hpl (Nat.le_refl _)
  exact ⟨pa, pc, gp, rfl, hpp, hb2⟩
 have hs1 := (hsh a).1
 have hs2 := (hsh a).2
 have HGN : Hid (∀ b, w.heap.size ≤ b → b ≠ g ∧ v.ownBlock ≠ some b) := fun b hb => ⟨fun e => by have := hw.lt; omega, fun e => by have := (hw.row.lt b e).2; omega⟩
 have hr : za3 (d + 1) t (a : Int) r (xs.length : Int) = [(2, r, (t.getD a nd0).2.1, 0, [])] := by
  rw [za3, Int.toNat_natCast]
  simp only
  rw [if_neg (by omega), if_pos hk]
 have HT : Hid (∀ X, Below w.heap.size w X → Calls Tryz.prog 81 #[.pointer (some ⟨g, 0, none⟩), .agg #[.int .i64 2, .int .i64 r, .int .i64 (t.getD a nd0).2.1, .int .i64 0, .string ⟨#[]⟩]] X fun e w' => e = .returned (.int .i64 (xs.length : Int)) ∧ ∃ u, Wr13 B X w' g base (.slice ta t.length tc) (.slice (some ⟨gN, 0, none⟩) t.length t.length) v u (xs ++ za3 (d + 1) t (a : Int) r (xs.length : Int))) := fun X hb => by
  rw [hr]
  exact zc0 B X g base _ _ v xs (2, r, (t.getD a nd0).2.1, 0, []) (hw.below hb).here (by omega)
 clear hr
 obtain ⟨bt, ot, rfl, hbt, q0, q1, q2, q3⟩ := (hin.below hw.bB).2 a hal
 obtain ⟨res, hres⟩ : ∃ res, za3 (d + 1) t (a : Int) r (xs.length : Int) = res := ⟨_, rfl⟩
 rw [hres] at HT ⊢
 obtain ⟨n, hn⟩ : ∃ n, t.getD a nd0 = n := ⟨_, rfl⟩
 rw [hn] at q0 q1 q2 q3 hk HPo
 (try rw [hn] at HT)
 obtain ⟨kd, nA, np, nf⟩ := n
 dsimp only at q0 q1 q2 q3 hk
 (try dsimp only at HT)
 subst hk
 have HG : Hid (∀ X, Below w.heap.size w X → X.cell? ⟨g, 0, none⟩ = some (.slice (some ⟨bt, ot, none⟩) t.length tc) ∧ X.cell? ⟨bt, ot + a * 4, none⟩ = some (.int .i64 2) ∧ X.cell? ⟨bt, ot + a * 4 + 1, none⟩ = some (.int .i64 nA) ∧ X.cell? ⟨bt, ot + a * 4 + 2, none⟩ = some (.string ⟨np.toArray⟩) ∧ X.cell? ⟨bt, ot + a * 4 + 3, none⟩ = some (.string ⟨nf.toArray⟩)) := fun X hb =>
  ⟨(hw.below hb).c0, (hb.cell (p := ⟨bt, ot + a * 4, none⟩) hbt).trans q0, (hb.cell (p := ⟨bt, ot + a * 4 + 1, none⟩) hbt).trans q1, (hb.cell (p := ⟨bt, ot + a * 4 + 2, none⟩) hbt).trans q2, (hb.cell (p := ⟨bt, ot + a * 4 + 3, none⟩) hbt).trans q3⟩
 have HW : Hid (Wr13 B w w g base (.slice (some ⟨bt, ot, none⟩) t.length tc) (.slice (some ⟨gN, 0, none⟩) t.length t.length) v v xs) := hw
 have hal2 : (a : Int) < (t.length : Int) := by omega
 generalize za7 (2, nA, np, nf) = m at *
 generalize za1 t (a : Int) = ps at *
 clear hw hin hint hsh hlen htb hp hal hpl hx hs1 hs2 hbt hres hn q0 q1 q2 q3
 go_enter Tryz.func80, Tryz.ntmps80
 go_wp2
 refine wp_region_held_drew (S := fun X => Below w.heap.size w X) (by kernel_rfl) ⟨rfl, rfl, rfl, Nat.le_refl _, fun _ _ => rfl⟩ (fun hHeld => ?_)
 refine tkO [(0, 8), (1, 9), (2, 10), (3, 11), (4, 12), (5, 13), (6, 14), (7, 15), (8, 16), (9, 17), (10, 18), (11, 19)] ?_
 repeat (refine tkY ?_ rfl (by rfl) ?_ ?_; rotate_left; (focus (intro wq hSw; have e0 := (HG.out wq hSw).1; have e1 := (HG.out wq hSw).2.1; have e2 := (HG.out wq hSw).2.2.1; have e3 := (HG.out wq hSw).2.2.2.1; have e4 := (HG.out wq hSw).2.2.2.2; clear hSw; first | (go_simp; done) | (go_simp; with_reducible rfl))); simp only [zP])
 refine tkZ ?_
 refine wpAnyH_ready (rs := [12, 13]) (by kernel_rfl) (by simp) ?_
 refine AllReadyH.cons rfl (fun K hK => ?_) (AllReadyH.cons rfl (fun K hK => ?_) AllReadyH.nil)
 ·
  have hlw := hHeld.size
  go_simp
  refine Calls.mono (HPo.out _ hHeld) ?_
  rintro e W1 ⟨pa, pc, gp, rfl, hpp, hb1⟩
  dsimp only
  refine hK.out _ _ (by exact hHeld.trans (hb1.mono hHeld.size)) (fun hHeld => ?_)
  clear hK K
  (try simp only [zP])
  refine zR 13 rfl (fun K hK => ?_)
  refine zaf rfl (zb7 rfl 6 rfl (fun Y2 gn hR2 hB2 hG2 => ?_))
  have hlo : w.heap.size ≤ gn := Nat.le_trans hHeld.size hG2
  have hne : 0 < m → gp ≠ gn := fun hm => by have := hpp.lt hm; omega
  replace hpp := (hpp.below hB2).low (w := w) hlw
  refine hK.out _ _ (by exact hHeld.trans (hB2.mono hHeld.size)) (fun hHeld => ?_)
  clear hK K
  (try simp only [zP])
  refine zR 14 rfl (fun K hK => ?_)
  refine zaf rfl (zb6 _ _ rfl gn 2 nA np nf rfl rfl hR2 (fun Y3 hR3 hG3 => ?_))
  refine hK.out _ _ (by exact hHeld.grown hG3 hHeld.size (fun q e => by injection e with e; omega)) (fun hHeld => ?_)
  clear hK K
  (try simp only [Act.put])
  replace hpp := hpp.keep (fun hm => hG3.block gp (hpp.lt hm) (by intro e; injection e with e; exact absurd e (hne hm))) hG3.size
  refine wpAnyH_take (i := 15) (oi := ⟨some 7, _, _, _, _, _⟩) (v := ?v27) rfl (by kernel_rfl) (by kernel_rfl) (by kernel_rfl) (fun _ _ _ h => h) (Or.inl ⟨by rfl, ?hy27⟩) (by assumption) ?rest27
  case hy27 => (intro wq hSw; clear hSw; first | (go_simp; done) | (go_simp; with_reducible rfl))
  simp only [Act.put, zA]
  have it : Hid (It13 w Y3 gn 2 nA np nf pa gp m ps) := ⟨hHeld, hR3, hlo, hpp⟩
  refine wpAnyH_done (by kernel_rfl) ?_ _
  clear hHeld hR2 hR3 hG3 hpp hB2 hG2 hb1 hne hlo hlw HPo HG
  have k0 : Y3.cell? ⟨gn, 0, none⟩ = some (.int .i64 2) := it.out.n.cell 0 _ rfl
  have k1 : Y3.cell? ⟨gn, 1, none⟩ = some (.int .i64 nA) := it.out.n.cell 1 _ rfl
  go_wp2_with fail
  refine Calls.mono (HT.out _ it.out.b) ?_
  rintro e W5 ⟨rfl, u, hw5⟩
  have HF : Hid (_) := (HW.out.below it.out.b).trans hw5
  clear hw5 it HT k0 k1
  go_wp2
  go_end0
  exact ⟨rfl, u, HF.out⟩
 ·
  refine zaf rfl (zb7 rfl 6 rfl (fun Y2 gn hR2 hB2 hG2 => ?_))
  have hlo : w.heap.size ≤ gn := Nat.le_trans hHeld.size hG2
  refine hK.out _ _ (by exact hHeld.trans (hB2.mono hHeld.size)) (fun hHeld => ?_)
  clear hK K
  (try simp only [zP])
  refine zR 12 rfl (fun K hK => ?_)
  have hlw := hHeld.size
  go_simp
  refine Calls.mono (HPo.out _ hHeld) ?_
  rintro e W1 ⟨pa, pc, gp, rfl, hpp, hb1⟩
  dsimp only
  have hne : 0 < m → gp ≠ gn := fun hm e => by have h1 := hpp.lo hm; have h2 := hR2.lt; omega
  replace hR2 := hR2.below hb1
  replace hpp := hpp.low (w := w) hlw
  refine hK.out _ _ (by exact hHeld.trans (hb1.mono hHeld.size)) (fun hHeld => ?_)
  clear hK K
  (try simp only [zP])
  refine zR 14 rfl (fun K hK => ?_)
  refine zaf rfl (zb6 _ _ rfl gn 2 nA np nf rfl rfl hR2 (fun Y3 hR3 hG3 => ?_))
  refine hK.out _ _ (by exact hHeld.grown hG3 hHeld.size (fun q e => by injection e with e; omega)) (fun hHeld => ?_)
  clear hK K
  (try simp only [Act.put])
  replace hpp := hpp.keep (fun hm => hG3.block gp (hpp.lt hm) (by intro e; injection e with e; exact absurd e (hne hm))) hG3.size
  refine wpAnyH_take (i := 15) (oi := ⟨some 7, _, _, _, _, _⟩) (v := ?v28) rfl (by kernel_rfl) (by kernel_rfl) (by kernel_rfl) (fun _ _ _ h => h) (Or.inl ⟨by rfl, ?hy28⟩) (by assumption) ?rest28
  case hy28 => (intro wq hSw; clear hSw; first | (go_simp; done) | (go_simp; with_reducible rfl))
  simp only [Act.put, zA]
  have it : Hid (It13 w Y3 gn 2 nA np nf pa gp m ps) := ⟨hHeld, hR3, hlo, hpp⟩
  refine wpAnyH_done (by kernel_rfl) ?_ _
  clear hHeld hR2 hR3 hG3 hpp hB2 hG2 hb1 hne hlo hlw HPo HG
  have k0 : Y3.cell? ⟨gn, 0, none⟩ = some (.int .i64 2) := it.out.n.cell 0 _ rfl
  have k1 : Y3.cell? ⟨gn, 1, none⟩ = some (.int .i64 nA) := it.out.n.cell 1 _ rfl
  go_wp2_with fail
  refine Calls.mono (HT.out _ it.out.b) ?_
  rintro e W5 ⟨rfl, u, hw5⟩
  have HF : Hid (_) := (HW.out.below it.out.b).trans hw5
  clear hw5 it HT k0 k1
  go_wp2
  go_end0
  exact ⟨rfl, u, HF.out⟩
set_option maxHeartbeats 8000000 in
set_option maxRecDepth 100000 in
theorem zly (B : World) (ta : Option Addr) (tc : Nat) (t : List Nd) (gN g base d : Nat) (hin : za4 B ta t.length t) (hint : IntT t) (hsh : zam t) (hlen : t.length ≤ 60) (htb : zaI t = true) (ih : IntW B ta tc t gN g base d) (w : World) (a : Nat) (r : Int) (v : Value) (xs : List In13) (hw : Wr13 B w w g base (.slice ta t.length tc) (.slice (some ⟨gN, 0, none⟩) t.length t.length) v v xs) (hp : 0 ≤ endV t (a : Int)) (hd : t.length ≤ a + (d + 1)) (hr0 : 0 ≤ r) (hr1 : r + 3 * ((d + 1 : Nat) : Int) ≤ 1000) (hx : xs.length + 400 * (d + 1) ≤ 100000) (hk : (t.getD a nd0).1 = 7) :
 Calls Tryz.prog 80 #[.pointer (some ⟨g, 0, none⟩), .int .i64 r, .int .i64 (a : Int)] w fun e w' => e = .returned (.tuple #[]) ∧ ∃ u, Wr13 B w w' g base (.slice ta t.length tc) (.slice (some ⟨gN, 0, none⟩) t.length t.length) v u (xs ++ za3 (d + 1) t (a : Int) r (xs.length : Int)) := by
 obtain ⟨hal, -, -, -, -⟩ := zac hp
 have hpl : (za1 t (a : Int)).length = za7 (t.getD a nd0) := zb0 t a
 have HPo : Hid (∀ X, Below w.heap.size w X → Calls Tryz.prog 113 #[.slice ta t.length tc, .int .i64 (a : Int)] X fun e w' => ∃ pa pc gp, e = .returned (.slice pa (za7 (t.getD a nd0)) pc) ∧ Pp13 X w' pa gp (za7 (t.getD a nd0)) (za1 t (a : Int)) ∧ Below X.heap.size X w') := fun X hb => by
  have hBX : Below B.heap.size B X := (hw.below hb).bB
  have h := zbS ta t.length tc t (a : Int) X (hin.below hBX) hint hsh (by omega) (by omega)
  rw [zd1 htb hal, hpl] at h
  refine h.mono ?_
  rintro e w' ⟨pv, rfl, hpv, hb2⟩
  obtain ⟨pa, pc, gp, rfl, hpp⟩ := Pp13.of (w := X) hpv hpl (Nat.le_refl _)
  exact ⟨pa, pc, gp, rfl, hpp, hb2⟩
 have hs1 := (hsh a).1
 have hs2 := (hsh a).2
 have HGN : Hid (∀ b, w.heap.size ≤ b → b ≠ g ∧ v.ownBlock ≠ some b) := fun b hb => ⟨fun e => by have := hw.lt; omega, fun e => by have := (hw.row.lt b e).2; omega⟩
 have hk3 : za7 (t.getD a nd0) = 3 := zbn hk
 obtain ⟨p0, hp0, hap0, hpe0⟩ := zaw hp (i := 0) (by omega)
 obtain ⟨p1, hp1, hap1, hpe1⟩ := zaw hp (i := 1) (by omega)
 obtain ⟨p2, hp2, hap2, hpe2⟩ := zaw hp (i := 2) (by omega)
 have hl0 : p0 < t.length := (zac hpe0).1
 have hl1 : p1 < t.length := (zac hpe1).1
 have hl2 : p2 < t.length := (zac hpe2).1
 have HT : Hid (∀ X gp pc, Below w.heap.size w X → w.heap.size ≤ gp → X.cell? ⟨gp, 0, none⟩ = some (.int .i64 ((za1 t (a : Int)).getD 0 0)) → X.cell? ⟨gp, 1, none⟩ = some (.int .i64 ((za1 t (a : Int)).getD 1 0)) → X.cell? ⟨gp, 2, none⟩ = some (.int .i64 ((za1 t (a : Int)).getD 2 0)) → Calls Tryz.prog 114 #[.pointer (some ⟨g, 0, none⟩), .int .i64 r, .slice (some ⟨gp, 0, none⟩) 3 pc] X fun e w' => e = .returned (.tuple #[]) ∧ ∃ u, Wr13 B X w' g base (.slice ta t.length tc) (.slice (some ⟨gN, 0, none⟩) t.length t.length) v u (xs ++ za3 (d + 1) t (a : Int) r (xs.length : Int))) := fun X gp pc hb hlo h0 h1 h2 => by
  rw [hp0] at h0
  rw [hp1] at h1
  rw [hp2] at h2
  refine implIf B ta tc t gN g base d htb ih X r v xs (hw.below hb).here gp 0 pc p0 p1 p2 h0 h1 h2 (HGN.out gp hlo).1 (HGN.out gp hlo).2 hpe0 hpe1 hpe2 (by omega) (by omega) (by omega) hl0 hl1 hl2 hr0 hr1 hx _ (fun x y z ex ey ez => ?_)
  rw [za3, Int.toNat_natCast]
  simp only
  rw [if_neg (by omega), if_neg (by omega), if_pos hk, hp0, hp1, hp2, ex, ey, ez]
 clear hp0 hp1 hp2 hpe0 hpe1 hpe2 hl0 hl1 hl2 hap0 hap1 hap2 hk3 ih
 obtain ⟨bt, ot, rfl, hbt, q0, q1, q2, q3⟩ := (hin.below hw.bB).2 a hal
 obtain ⟨res, hres⟩ : ∃ res, za3 (d + 1) t (a : Int) r (xs.length : Int) = res := ⟨_, rfl⟩
 rw [hres] at HT ⊢
 obtain ⟨n, hn⟩ : ∃ n, t.getD a nd0 = n := ⟨_, rfl⟩
 rw [hn] at q0 q1 q2 q3 hk HPo
 (try rw [hn] at HT)
 obtain ⟨kd, nA, np, nf⟩ := n
 dsimp only at q0 q1 q2 q3 hk
 (try dsimp only at HT)
 subst hk
 have HG : Hid (∀ X, Below w.heap.size w X → X.cell? ⟨g, 0, none⟩ = some (.slice (some ⟨bt, ot, none⟩) t.length tc) ∧ X.cell? ⟨bt, ot + a * 4, none⟩ = some (.int .i64 7) ∧ X.cell? ⟨bt, ot + a * 4 + 1, none⟩ = some (.int .i64 nA) ∧ X.cell? ⟨bt, ot + a * 4 + 2, none⟩ = some (.string ⟨np.toArray⟩) ∧ X.cell? ⟨bt, ot + a * 4 + 3, none⟩ = some (.string ⟨nf.toArray⟩)) := fun X hb =>
  ⟨(hw.below hb).c0, (hb.cell (p := ⟨bt, ot + a * 4, none⟩) hbt).trans q0, (hb.cell (p := ⟨bt, ot + a * 4 + 1, none⟩) hbt).trans q1, (hb.cell (p := ⟨bt, ot + a * 4 + 2, none⟩) hbt).trans q2, (hb.cell (p := ⟨bt, ot + a * 4 + 3, none⟩) hbt).trans q3⟩
 have HW : Hid (Wr13 B w w g base (.slice (some ⟨bt, ot, none⟩) t.length tc) (.slice (some ⟨gN, 0, none⟩) t.length t.length) v v xs) := hw
 have hal2 : (a : Int) < (t.length : Int) := by omega
 rw [show za7 (7, nA, np, nf) = 3 from zbn rfl] at HPo
 generalize za1 t (a : Int) = ps at *
 clear hw hin hint hsh hlen htb hp hal hpl hx hs1 hs2 hbt hres hn q0 q1 q2 q3 hd hr0 hr1
 go_enter Tryz.func80, Tryz.ntmps80
 go_wp2
 refine wp_region_held_drew (S := fun X => Below w.heap.size w X) (by kernel_rfl) ⟨rfl, rfl, rfl, Nat.le_refl _, fun _ _ => rfl⟩ (fun hHeld => ?_)
 refine tkO [(0, 8), (1, 9), (2, 10), (3, 11), (4, 12), (5, 13), (6, 14), (7, 15), (8, 16), (9, 17), (10, 18), (11, 19)] ?_
 repeat (refine tkY ?_ rfl (by rfl) ?_ ?_; rotate_left; (focus (intro wq hSw; have e0 := (HG.out wq hSw).1; have e1 := (HG.out wq hSw).2.1; have e2 := (HG.out wq hSw).2.2.1; have e3 := (HG.out wq hSw).2.2.2.1; have e4 := (HG.out wq hSw).2.2.2.2; clear hSw; first | (go_simp; done) | (go_simp; with_reducible rfl))); simp only [zP])
 refine tkZ ?_
 refine wpAnyH_ready (rs := [12, 13]) (by kernel_rfl) (by simp) ?_
 refine AllReadyH.cons rfl (fun K hK => ?_) (AllReadyH.cons rfl (fun K hK => ?_) AllReadyH.nil)
 ·
  have hlw := hHeld.size
  go_simp
  refine Calls.mono (HPo.out _ hHeld) ?_
  rintro e W1 ⟨pa, pc, gp, rfl, hpp, hb1⟩
  dsimp only
  refine hK.out _ _ (by exact hHeld.trans (hb1.mono hHeld.size)) (fun hHeld => ?_)
  clear hK K
  (try simp only [zP])
  refine zR 13 rfl (fun K hK => ?_)
  refine zaf rfl (zb7 rfl 6 rfl (fun Y2 gn hR2 hB2 hG2 => ?_))
  have hlo : w.heap.size ≤ gn := Nat.le_trans hHeld.size hG2
  have hne : 0 < 3 → gp ≠ gn := fun hm => by have := hpp.lt hm; omega
  replace hpp := (hpp.below hB2).low (w := w) hlw
  refine hK.out _ _ (by exact hHeld.trans (hB2.mono hHeld.size)) (fun hHeld => ?_)
  clear hK K
  (try simp only [zP])
  refine zR 14 rfl (fun K hK => ?_)
  refine zaf rfl (zb6 _ _ rfl gn 7 nA np nf rfl rfl hR2 (fun Y3 hR3 hG3 => ?_))
  refine hK.out _ _ (by exact hHeld.grown hG3 hHeld.size (fun q e => by injection e with e; omega)) (fun hHeld => ?_)
  clear hK K
  (try simp only [Act.put])
  replace hpp := hpp.keep (fun hm => hG3.block gp (hpp.lt hm) (by intro e; injection e with e; exact absurd e (hne hm))) hG3.size
  refine wpAnyH_take (i := 15) (oi := ⟨some 7, _, _, _, _, _⟩) (v := ?v41) rfl (by kernel_rfl) (by kernel_rfl) (by kernel_rfl) (fun _ _ _ h => h) (Or.inl ⟨by rfl, ?hy41⟩) (by assumption) ?rest41
  case hy41 => (intro wq hSw; clear hSw; first | (go_simp; done) | (go_simp; with_reducible rfl))
  simp only [Act.put, zA]
  have it : Hid (It13 w Y3 gn 7 nA np nf pa gp 3 ps) := ⟨hHeld, hR3, hlo, hpp⟩
  refine wpAnyH_done (by kernel_rfl) ?_ _
  clear hHeld hR2 hR3 hG3 hpp hB2 hG2 hb1 hne hlo hlw HPo HG
  have k0 : Y3.cell? ⟨gn, 0, none⟩ = some (.int .i64 7) := it.out.n.cell 0 _ rfl
  obtain rfl := it.out.pp.pa (by omega)
  have HC : Hid (_) := HT.out Y3 gp pc it.out.b (it.out.pp.lo (by omega)) (it.out.pp.cs 0 (by omega)) (it.out.pp.cs 1 (by omega)) (it.out.pp.cs 2 (by omega))
  go_wp2_with fail
  refine Calls.mono HC.out ?_
  rintro e W5 ⟨rfl, u, hw5⟩
  have HF : Hid (_) := (HW.out.below it.out.b).trans hw5
  clear hw5 it HT k0 HC
  go_wp2
  go_end0
  exact ⟨rfl, u, HF.out⟩
 ·
  refine zaf rfl (zb7 rfl 6 rfl (fun Y2 gn hR2 hB2 hG2 => ?_))
  have hlo : w.heap.size ≤ gn := Nat.le_trans hHeld.size hG2
  refine hK.out _ _ (by exact hHeld.trans (hB2.mono hHeld.size)) (fun hHeld => ?_)
  clear hK K
  (try simp only [zP])
  refine zR 12 rfl (fun K hK => ?_)
  have hlw := hHeld.size
  go_simp
  refine Calls.mono (HPo.out _ hHeld) ?_
  rintro e W1 ⟨pa, pc, gp, rfl, hpp, hb1⟩
  dsimp only
  have hne : 0 < 3 → gp ≠ gn := fun hm e => by have h1 := hpp.lo hm; have h2 := hR2.lt; omega
  replace hR2 := hR2.below hb1
  replace hpp := hpp.low (w := w) hlw
  refine hK.out _ _ (by exact hHeld.trans (hb1.mono hHeld.size)) (fun hHeld => ?_)
  clear hK K
  (try simp only [zP])
  refine zR 14 rfl (fun K hK => ?_)
  refine zaf rfl (zb6 _ _ rfl gn 7 nA np nf rfl rfl hR2 (fun Y3 hR3 hG3 => ?_))
  refine hK.out _ _ (by exact hHeld.grown hG3 hHeld.size (fun q e => by injection e with e; omega)) (fun hHeld => ?_)
  clear hK K
  (try simp only [Act.put])
  replace hpp := hpp.keep (fun hm => hG3.block gp (hpp.lt hm) (by intro e; injection e with e; exact absurd e (hne hm))) hG3.size
  refine wpAnyH_take (i := 15) (oi := ⟨some 7, _, _, _, _, _⟩) (v := ?v42) rfl (by kernel_rfl) (by kernel_rfl) (by kernel_rfl) (fun _ _ _ h => h) (Or.inl ⟨by rfl, ?hy42⟩) (by assumption) ?rest42
  case hy42 => (intro wq hSw; clear hSw; first | (go_simp; done) | (go_simp; with_reducible rfl))
  simp only [Act.put, zA]
  have it : Hid (It13 w Y3 gn 7 nA np nf pa gp 3 ps) := ⟨hHeld, hR3, hlo, hpp⟩
  refine wpAnyH_done (by kernel_rfl) ?_ _
  clear hHeld hR2 hR3 hG3 hpp hB2 hG2 hb1 hne hlo hlw HPo HG
  have k0 : Y3.cell? ⟨gn, 0, none⟩ = some (.int .i64 7) := it.out.n.cell 0 _ rfl
  obtain rfl := it.out.pp.pa (by omega)
  have HC : Hid (_) := HT.out Y3 gp pc it.out.b (it.out.pp.lo (by omega)) (it.out.pp.cs 0 (by omega)) (it.out.pp.cs 1 (by omega)) (it.out.pp.cs 2 (by omega))
  go_wp2_with fail
  refine Calls.mono HC.out ?_
  rintro e W5 ⟨rfl, u, hw5⟩
  have HF : Hid (_) := (HW.out.below it.out.b).trans hw5
  clear hw5 it HT k0 HC
  go_wp2
  go_end0
  exact ⟨rfl, u, HF.out⟩
set_option maxHeartbeats 8000000 in
set_option maxRecDepth 100000 in
theorem zlx (B : World) (ta : Option Addr) (tc : Nat) (t : List Nd) (gN g base d : Nat) (hin : za4 B ta t.length t) (hint : IntT t) (hsh : zam t) (hlen : t.length ≤ 60) (htb : zaI t = true) (ih : IntW B ta tc t gN g base d) (w : World) (a : Nat) (r : Int) (v : Value) (xs : List In13) (hw : Wr13 B w w g base (.slice ta t.length tc) (.slice (some ⟨gN, 0, none⟩) t.length t.length) v v xs) (hp : 0 ≤ endV t (a : Int)) (hd : t.length ≤ a + (d + 1)) (hr0 : 0 ≤ r) (hr1 : r + 3 * ((d + 1 : Nat) : Int) ≤ 1000) (hx : xs.length + 400 * (d + 1) ≤ 100000) (hk : (t.getD a nd0).1 = 8) :
 Calls Tryz.prog 80 #[.pointer (some ⟨g, 0, none⟩), .int .i64 r, .int .i64 (a : Int)] w fun e w' => e = .returned (.tuple #[]) ∧ ∃ u, Wr13 B w w' g base (.slice ta t.length tc) (.slice (some ⟨gN, 0, none⟩) t.length t.length) v u (xs ++ za3 (d + 1) t (a : Int) r (xs.length : Int)) := by
 obtain ⟨hal, -, -, -, -⟩ := zac hp
 have hpl : (za1 t (a : Int)).length = za7 (t.getD a nd0) := zb0 t a
 have HPo : Hid (∀ X, Below w.heap.size w X → Calls Tryz.prog 113 #[.slice ta t.length tc, .int .i64 (a : Int)] X fun e w' => ∃ pa pc gp, e = .returned (.slice pa (za7 (t.getD a nd0)) pc) ∧ Pp13 X w' pa gp (za7 (t.getD a nd0)) (za1 t (a : Int)) ∧ Below X.heap.size X w') := fun X hb => by
  have hBX : Below B.heap.size B X := (hw.below hb).bB
  have h := zbS ta t.length tc t (a : Int) X (hin.below hBX) hint hsh (by omega) (by omega)
  rw [zd1 htb hal, hpl] at h
  refine h.mono ?_
  rintro e w' ⟨pv, rfl, hpv, hb2⟩
  obtain ⟨pa, pc, gp, rfl, hpp⟩ := Pp13.of (w := X) hpv hpl (Nat.le_refl _)
  exact ⟨pa, pc, gp, rfl, hpp, hb2⟩
 have hs1 := (hsh a).1
 have hs2 := (hsh a).2
 have HGN : Hid (∀ b, w.heap.size ≤ b → b ≠ g ∧ v.ownBlock ≠ some b) := fun b hb => ⟨fun e => by have := hw.lt; omega, fun e => by have := (hw.row.lt b e).2; omega⟩
 have hmem : t.getD a nd0 ∈ t := by simp [List.getD, hal]
 have hk3 : za7 (t.getD a nd0) ≤ 3 := (zaT ((zaM.1 htb).2.good12 _ hmem)).2
 have HT : Hid (∀ X pa gp pc, Below w.heap.size w X → w.heap.size ≤ gp → gp < X.heap.size → (0 < za7 (t.getD a nd0) → pa = some ⟨gp, 0, none⟩) → (∀ j, j < za7 (t.getD a nd0) → X.cell? ⟨gp, j, none⟩ = some (.int .i64 ((za1 t (a : Int)).getD j 0))) → Calls Tryz.prog 115 #[.pointer (some ⟨g, 0, none⟩), .int .i64 r, .agg #[.int .i64 8, .int .i64 (t.getD a nd0).2.1, .string ⟨(t.getD a nd0).2.2.1.toArray⟩, .string ⟨(t.getD a nd0).2.2.2.toArray⟩], .slice pa (za7 (t.getD a nd0)) pc] X fun e w' => e = .returned (.tuple #[]) ∧ ∃ u, Wr13 B X w' g base (.slice ta t.length tc) (.slice (some ⟨gN, 0, none⟩) t.length t.length) v u (xs ++ za3 (d + 1) t (a : Int) r (xs.length : Int))) := fun X pa gp pc hb hlo hlt hpa hcs => by
  have hr : za3 (d + 1) t (a : Int) r (xs.length : Int) = zat (za3 d t) (za1 t (a : Int)) r (xs.length : Int) ++ [(9, r, (t.getD a nd0).2.1, 0, (t.getD a nd0).2.2.1 ++ 46 :: (t.getD a nd0).2.2.2)] := by
   rw [za3, Int.toNat_natCast]
   simp only
   rw [if_neg (by omega), if_neg (by omega), if_neg (by omega), if_pos hk]
  rw [hr]
  exact zjF B ta tc t gN g base d htb ih X r v xs (hw.below hb).here 8 (t.getD a nd0).2.1 (t.getD a nd0).2.2.1 (t.getD a nd0).2.2.2 hs1 hs2 pa gp 0 (za7 (t.getD a nd0)) pc (za1 t (a : Int)) hpl hk3 hpa (fun j hj => by rw [Nat.zero_add]; exact hcs j hj) hlt (HGN.out gp hlo).1 (HGN.out gp hlo).2 (fun i hi => by
   obtain ⟨p, h1, h2, h3⟩ := zaw hp hi
   exact ⟨p, h1, h3, (zac h3).1, by omega⟩) hr0 hr1 hx
 clear ih hk3 hmem
 obtain ⟨bt, ot, rfl, hbt, q0, q1, q2, q3⟩ := (hin.below hw.bB).2 a hal
 obtain ⟨res, hres⟩ : ∃ res, za3 (d + 1) t (a : Int) r (xs.length : Int) = res := ⟨_, rfl⟩
 rw [hres] at HT ⊢
 obtain ⟨n, hn⟩ : ∃ n, t.getD a nd0 = n := ⟨_, rfl⟩
 rw [hn] at q0 q1 q2 q3 hk HPo
 (try rw [hn] at HT)
 obtain ⟨kd, nA, np, nf⟩ := n
 dsimp only at q0 q1 q2 q3 hk
 (try dsimp only at HT)
 subst hk
 have HG : Hid (∀ X, Below w.heap.size w X → X.cell? ⟨g, 0, none⟩ = some (.slice (some ⟨bt, ot, none⟩) t.length tc) ∧ X.cell? ⟨bt, ot + a * 4, none⟩ = some (.int .i64 8) ∧ X.cell? ⟨bt, ot + a * 4 + 1, none⟩ = some (.int .i64 nA) ∧ X.cell? ⟨bt, ot + a * 4 + 2, none⟩ = some (.string ⟨np.toArray⟩) ∧ X.cell? ⟨bt, ot + a * 4 + 3, none⟩ = some (.string ⟨nf.toArray⟩)) := fun X hb =>
  ⟨(hw.below hb).c0, (hb.cell (p := ⟨bt, ot + a * 4, none⟩) hbt).trans q0, (hb.cell (p := ⟨bt, ot + a * 4 + 1, none⟩) hbt).trans q1, (hb.cell (p := ⟨bt, ot + a * 4 + 2, none⟩) hbt).trans q2, (hb.cell (p := ⟨bt, ot + a * 4 + 3, none⟩) hbt).trans q3⟩
 have HW : Hid (Wr13 B w w g base (.slice (some ⟨bt, ot, none⟩) t.length tc) (.slice (some ⟨gN, 0, none⟩) t.length t.length) v v xs) := hw
 have hal2 : (a : Int) < (t.length : Int) := by omega
 generalize za7 (8, nA, np, nf) = m at *
 generalize za1 t (a : Int) = ps at *
 clear hw hin hint hsh hlen htb hp hal hpl hx hs1 hs2 hbt hres hn q0 q1 q2 q3 hd hr0 hr1
 go_enter Tryz.func80, Tryz.ntmps80
 go_wp2
 refine wp_region_held_drew (S := fun X => Below w.heap.size w X) (by kernel_rfl) ⟨rfl, rfl, rfl, Nat.le_refl _, fun _ _ => rfl⟩ (fun hHeld => ?_)
 refine tkO [(0, 8), (1, 9), (2, 10), (3, 11), (4, 12), (5, 13), (6, 14), (7, 15), (8, 16), (9, 17), (10, 18), (11, 19)] ?_
 repeat (refine tkY ?_ rfl (by rfl) ?_ ?_; rotate_left; (focus (intro wq hSw; have e0 := (HG.out wq hSw).1; have e1 := (HG.out wq hSw).2.1; have e2 := (HG.out wq hSw).2.2.1; have e3 := (HG.out wq hSw).2.2.2.1; have e4 := (HG.out wq hSw).2.2.2.2; clear hSw; first | (go_simp; done) | (go_simp; with_reducible rfl))); simp only [zP])
 refine tkZ ?_
 refine wpAnyH_ready (rs := [12, 13]) (by kernel_rfl) (by simp) ?_
 refine AllReadyH.cons rfl (fun K hK => ?_) (AllReadyH.cons rfl (fun K hK => ?_) AllReadyH.nil)
 ·
  have hlw := hHeld.size
  go_simp
  refine Calls.mono (HPo.out _ hHeld) ?_
  rintro e W1 ⟨pa, pc, gp, rfl, hpp, hb1⟩
  dsimp only
  refine hK.out _ _ (by exact hHeld.trans (hb1.mono hHeld.size)) (fun hHeld => ?_)
  clear hK K
  (try simp only [zP])
  refine zR 13 rfl (fun K hK => ?_)
  refine zaf rfl (zb7 rfl 6 rfl (fun Y2 gn hR2 hB2 hG2 => ?_))
  have hlo : w.heap.size ≤ gn := Nat.le_trans hHeld.size hG2
  have hne : 0 < m → gp ≠ gn := fun hm => by have := hpp.lt hm; omega
  replace hpp := (hpp.below hB2).low (w := w) hlw
  refine hK.out _ _ (by exact hHeld.trans (hB2.mono hHeld.size)) (fun hHeld => ?_)
  clear hK K
  (try simp only [zP])
  refine zR 14 rfl (fun K hK => ?_)
  refine zaf rfl (zb6 _ _ rfl gn 8 nA np nf rfl rfl hR2 (fun Y3 hR3 hG3 => ?_))
  refine hK.out _ _ (by exact hHeld.grown hG3 hHeld.size (fun q e => by injection e with e; omega)) (fun hHeld => ?_)
  clear hK K
  (try simp only [Act.put])
  replace hpp := hpp.keep (fun hm => hG3.block gp (hpp.lt hm) (by intro e; injection e with e; exact absurd e (hne hm))) hG3.size
  refine wpAnyH_take (i := 15) (oi := ⟨some 7, _, _, _, _, _⟩) (v := ?v55) rfl (by kernel_rfl) (by kernel_rfl) (by kernel_rfl) (fun _ _ _ h => h) (Or.inl ⟨by rfl, ?hy55⟩) (by assumption) ?rest55
  case hy55 => (intro wq hSw; clear hSw; first | (go_simp; done) | (go_simp; with_reducible rfl))
  simp only [Act.put, zA]
  have it : Hid (It13 w Y3 gn 8 nA np nf pa gp m ps) := ⟨hHeld, hR3, hlo, hpp⟩
  refine wpAnyH_done (by kernel_rfl) ?_ _
  clear hHeld hR2 hR3 hG3 hpp hB2 hG2 hb1 hne hlo hlw HPo HG
  have k0 : Y3.cell? ⟨gn, 0, none⟩ = some (.int .i64 8) := it.out.n.cell 0 _ rfl
  have k1 : Y3.cell? ⟨gn, 1, none⟩ = some (.int .i64 nA) := it.out.n.cell 1 _ rfl
  have k2 : Y3.cell? ⟨gn, 2, none⟩ = some (.string ⟨np.toArray⟩) := it.out.n.cell 2 _ rfl
  have k3 : Y3.cell? ⟨gn, 3, none⟩ = some (.string ⟨nf.toArray⟩) := it.out.n.cell 3 _ rfl
  have HC : Hid (Calls Tryz.prog 115 #[.pointer (some ⟨g, 0, none⟩), .int .i64 r, .agg #[.int .i64 8, .int .i64 nA, .string ⟨np.toArray⟩, .string ⟨nf.toArray⟩], .slice pa m pc] Y3 fun e w' => e = .returned (.tuple #[]) ∧ ∃ u, Wr13 B Y3 w' g base (.slice (some ⟨bt, ot, none⟩) t.length tc) (.slice (some ⟨gN, 0, none⟩) t.length t.length) v u (xs ++ res)) := by
   by_cases hm0 : 0 < m
   ·
    exact HT.out Y3 pa gp pc it.out.b (it.out.pp.lo hm0) (it.out.pp.lt hm0) it.out.pp.pa it.out.pp.cs
   ·
    exact HT.out Y3 pa gn pc it.out.b it.out.lo it.out.n.lt (fun h => absurd h hm0) (fun j hj => by omega)
  go_wp2_with fail
  refine Calls.mono HC.out ?_
  rintro e W5 ⟨rfl, u, hw5⟩
  have HF : Hid (_) := (HW.out.below it.out.b).trans hw5
  clear hw5 it HT k0 k1 k2 k3 HC
  go_wp2
  go_end0
  exact ⟨rfl, u, HF.out⟩
 ·
  refine zaf rfl (zb7 rfl 6 rfl (fun Y2 gn hR2 hB2 hG2 => ?_))
  have hlo : w.heap.size ≤ gn := Nat.le_trans hHeld.size hG2
  refine hK.out _ _ (by exact hHeld.trans (hB2.mono hHeld.size)) (fun hHeld => ?_)
  clear hK K
  (try simp only [zP])
  refine zR 12 rfl (fun K hK => ?_)
  have hlw := hHeld.size
  go_simp
  refine Calls.mono (HPo.out _ hHeld) ?_
  rintro e W1 ⟨pa, pc, gp, rfl, hpp, hb1⟩
  dsimp only
  have hne : 0 < m → gp ≠ gn := fun hm e => by have h1 := hpp.lo hm; have h2 := hR2.lt; omega
  replace hR2 := hR2.below hb1
  replace hpp := hpp.low (w := w) hlw
  refine hK.out _ _ (by exact hHeld.trans (hb1.mono hHeld.size)) (fun hHeld => ?_)
  clear hK K
  (try simp only [zP])
  refine zR 14 rfl (fun K hK => ?_)
  refine zaf rfl (zb6 _ _ rfl gn 8 nA np nf rfl rfl hR2 (fun Y3 hR3 hG3 => ?_))
  refine hK.out _ _ (by exact hHeld.grown hG3 hHeld.size (fun q e => by injection e with e; omega)) (fun hHeld => ?_)
  clear hK K
  (try simp only [Act.put])
  replace hpp := hpp.keep (fun hm => hG3.block gp (hpp.lt hm) (by intro e; injection e with e; exact absurd e (hne hm))) hG3.size
  refine wpAnyH_take (i := 15) (oi := ⟨some 7, _, _, _, _, _⟩) (v := ?v56) rfl (by kernel_rfl) (by kernel_rfl) (by kernel_rfl) (fun _ _ _ h => h) (Or.inl ⟨by rfl, ?hy56⟩) (by assumption) ?rest56
  case hy56 => (intro wq hSw; clear hSw; first | (go_simp; done) | (go_simp; with_reducible rfl))
  simp only [Act.put, zA]
  have it : Hid (It13 w Y3 gn 8 nA np nf pa gp m ps) := ⟨hHeld, hR3, hlo, hpp⟩
  refine wpAnyH_done (by kernel_rfl) ?_ _
  clear hHeld hR2 hR3 hG3 hpp hB2 hG2 hb1 hne hlo hlw HPo HG
  have k0 : Y3.cell? ⟨gn, 0, none⟩ = some (.int .i64 8) := it.out.n.cell 0 _ rfl
  have k1 : Y3.cell? ⟨gn, 1, none⟩ = some (.int .i64 nA) := it.out.n.cell 1 _ rfl
  have k2 : Y3.cell? ⟨gn, 2, none⟩ = some (.string ⟨np.toArray⟩) := it.out.n.cell 2 _ rfl
  have k3 : Y3.cell? ⟨gn, 3, none⟩ = some (.string ⟨nf.toArray⟩) := it.out.n.cell 3 _ rfl
  have HC : Hid (Calls Tryz.prog 115 #[.pointer (some ⟨g, 0, none⟩), .int .i64 r, .agg #[.int .i64 8, .int .i64 nA, .string ⟨np.toArray⟩, .string ⟨nf.toArray⟩], .slice pa m pc] Y3 fun e w' => e = .returned (.tuple #[]) ∧ ∃ u, Wr13 B Y3 w' g base (.slice (some ⟨bt, ot, none⟩) t.length tc) (.slice (some ⟨gN, 0, none⟩) t.length t.length) v u (xs ++ res)) := by
   by_cases hm0 : 0 < m
   ·
    exact HT.out Y3 pa gp pc it.out.b (it.out.pp.lo hm0) (it.out.pp.lt hm0) it.out.pp.pa it.out.pp.cs
   ·
    exact HT.out Y3 pa gn pc it.out.b it.out.lo it.out.n.lt (fun h => absurd h hm0) (fun j hj => by omega)
  go_wp2_with fail
  refine Calls.mono HC.out ?_
  rintro e W5 ⟨rfl, u, hw5⟩
  have HF : Hid (_) := (HW.out.below it.out.b).trans hw5
  clear hw5 it HT k0 k1 k2 k3 HC
  go_wp2
  go_end0
  exact ⟨rfl, u, HF.out⟩
set_option maxHeartbeats 8000000 in
set_option maxRecDepth 100000 in
theorem zlz (B : World) (ta : Option Addr) (tc : Nat) (t : List Nd) (gN g base d : Nat) (hin : za4 B ta t.length t) (hint : IntT t) (hsh : zam t) (hlen : t.length ≤ 60) (htb : zaI t = true) (hnd : NdIn B gN t) (ih : IntW B ta tc t gN g base d) (w : World) (a : Nat) (r : Int) (v : Value) (xs : List In13) (hw : Wr13 B w w g base (.slice ta t.length tc) (.slice (some ⟨gN, 0, none⟩) t.length t.length) v v xs) (hp : 0 ≤ endV t (a : Int)) (hd : t.length ≤ a + (d + 1)) (hr0 : 0 ≤ r) (hr1 : r + 3 * ((d + 1 : Nat) : Int) ≤ 1000) (hx : xs.length + 400 * (d + 1) ≤ 100000) (hk : 3 ≤ (t.getD a nd0).1 ∧ (t.getD a nd0).1 ≤ 6) :
 Calls Tryz.prog 80 #[.pointer (some ⟨g, 0, none⟩), .int .i64 r, .int .i64 (a : Int)] w fun e w' => e = .returned (.tuple #[]) ∧ ∃ u, Wr13 B w w' g base (.slice ta t.length tc) (.slice (some ⟨gN, 0, none⟩) t.length t.length) v u (xs ++ za3 (d + 1) t (a : Int) r (xs.length : Int)) := by
 obtain ⟨hal, -, -, -, -⟩ := zac hp
 have hpl : (za1 t (a : Int)).length = za7 (t.getD a nd0) := zb0 t a
 have HPo : Hid (∀ X, Below w.heap.size w X → Calls Tryz.prog 113 #[.slice ta t.length tc, .int .i64 (a : Int)] X fun e w' => ∃ pa pc gp, e = .returned (.slice pa (za7 (t.getD a nd0)) pc) ∧ Pp13 X w' pa gp (za7 (t.getD a nd0)) (za1 t (a : Int)) ∧ Below X.heap.size X w') := fun X hb => by
  have hBX : Below B.heap.size B X := (hw.below hb).bB
  have h := zbS ta t.length tc t (a : Int) X (hin.below hBX) hint hsh (by omega) (by omega)
  rw [zd1 htb hal, hpl] at h
  refine h.mono ?_
  rintro e w' ⟨pv, rfl, hpv, hb2⟩
  obtain ⟨pa, pc, gp, rfl, hpp⟩ := Pp13.of (w := X) hpv hpl (Nat.le_refl _)
  exact ⟨pa, pc, gp, rfl, hpp, hb2⟩
 have hs1 := (hsh a).1
 have hs2 := (hsh a).2
 have HGN : Hid (∀ b, w.heap.size ≤ b → b ≠ g ∧ v.ownBlock ≠ some b) := fun b hb => ⟨fun e => by have := hw.lt; omega, fun e => by have := (hw.row.lt b e).2; omega⟩
 have hk2 : za7 (t.getD a nd0) = 2 := zaX hk
 obtain ⟨p0, hp0, hap0, hpe0⟩ := zaw hp (i := 0) (by omega)
 obtain ⟨p1, hp1, hap1, hpe1⟩ := zaw hp (i := 1) (by omega)
 have hl0 : p0 < t.length := (zac hpe0).1
 have hl1 : p1 < t.length := (zac hpe1).1
 have r0 := zcI (os := []) htb hl0
 have r1 := zcI (os := []) htb hl1
 have HT : Hid (∀ X gp pc, Below w.heap.size w X → w.heap.size ≤ gp → X.cell? ⟨gp, 0, none⟩ = some (.int .i64 ((za1 t (a : Int)).getD 0 0)) → X.cell? ⟨gp, 1, none⟩ = some (.int .i64 ((za1 t (a : Int)).getD 1 0)) → Calls Tryz.prog 116 #[.pointer (some ⟨g, 0, none⟩), .int .i64 r, .agg #[.int .i64 (t.getD a nd0).1, .int .i64 (t.getD a nd0).2.1, .string ⟨(t.getD a nd0).2.2.1.toArray⟩, .string ⟨(t.getD a nd0).2.2.2.toArray⟩], .slice (some ⟨gp, 0, none⟩) 2 pc] X fun e w' => e = .returned (.tuple #[]) ∧ ∃ u, Wr13 B X w' g base (.slice ta t.length tc) (.slice (some ⟨gN, 0, none⟩) t.length t.length) v u (xs ++ za3 (d + 1) t (a : Int) r (xs.length : Int))) := fun X gp pc hb hlo h0 h1 => by
  rw [hp0] at h0
  rw [hp1] at h1
  rw [za3, Int.toNat_natCast]
  simp only
  rw [if_neg (by omega), if_neg (by omega), if_neg (by omega), if_neg (by omega), hp0, hp1, ← r0.2.2, ← r1.2.2]
  by_cases hc : nd12 t [] p1 ≤ nd12 t [] p0
  ·
   rw [if_pos (by omega)]
   exact zlu B ta tc t gN g base d hnd htb ih X r v xs (hw.below hb).here (t.getD a nd0).1 (t.getD a nd0).2.1 (t.getD a nd0).2.2.1 (t.getD a nd0).2.2.2 gp 0 pc p0 p1 h0 h1 (HGN.out gp hlo).1 (HGN.out gp hlo).2 hpe0 hpe1 (by omega) (by omega) hl0 hl1 hr0 hr1 hx (by unfold fo13; rw [if_pos (decide_eq_true ((ziJ r0.1).2 hc))])
  ·
   rw [if_neg (by omega)]
   exact zlt B ta tc t gN g base d hnd htb ih X r v xs (hw.below hb).here (t.getD a nd0).1 (t.getD a nd0).2.1 (t.getD a nd0).2.2.1 (t.getD a nd0).2.2.2 gp 0 pc p0 p1 h0 h1 (HGN.out gp hlo).1 (HGN.out gp hlo).2 hpe0 hpe1 (by omega) (by omega) hl0 hl1 hr0 hr1 hx (by unfold fo13; rw [if_neg (fun e => hc ((ziJ r0.1).1 (of_decide_eq_true e)))])
 clear hp0 hp1 hpe0 hpe1 hl0 hl1 hap0 hap1 r0 r1 hk2 ih hnd
 obtain ⟨bt, ot, rfl, hbt, q0, q1, q2, q3⟩ := (hin.below hw.bB).2 a hal
 obtain ⟨res, hres⟩ : ∃ res, za3 (d + 1) t (a : Int) r (xs.length : Int) = res := ⟨_, rfl⟩
 rw [hres] at HT ⊢
 obtain ⟨n, hn⟩ : ∃ n, t.getD a nd0 = n := ⟨_, rfl⟩
 rw [hn] at q0 q1 q2 q3 hk HPo
 (try rw [hn] at HT)
 obtain ⟨kd, nA, np, nf⟩ := n
 dsimp only at q0 q1 q2 q3 hk
 (try dsimp only at HT)
 have HG : Hid (∀ X, Below w.heap.size w X → X.cell? ⟨g, 0, none⟩ = some (.slice (some ⟨bt, ot, none⟩) t.length tc) ∧ X.cell? ⟨bt, ot + a * 4, none⟩ = some (.int .i64 kd) ∧ X.cell? ⟨bt, ot + a * 4 + 1, none⟩ = some (.int .i64 nA) ∧ X.cell? ⟨bt, ot + a * 4 + 2, none⟩ = some (.string ⟨np.toArray⟩) ∧ X.cell? ⟨bt, ot + a * 4 + 3, none⟩ = some (.string ⟨nf.toArray⟩)) := fun X hb =>
  ⟨(hw.below hb).c0, (hb.cell (p := ⟨bt, ot + a * 4, none⟩) hbt).trans q0, (hb.cell (p := ⟨bt, ot + a * 4 + 1, none⟩) hbt).trans q1, (hb.cell (p := ⟨bt, ot + a * 4 + 2, none⟩) hbt).trans q2, (hb.cell (p := ⟨bt, ot + a * 4 + 3, none⟩) hbt).trans q3⟩
 have HW : Hid (Wr13 B w w g base (.slice (some ⟨bt, ot, none⟩) t.length tc) (.slice (some ⟨gN, 0, none⟩) t.length t.length) v v xs) := hw
 have hal2 : (a : Int) < (t.length : Int) := by omega
 rw [show za7 (kd, nA, np, nf) = 2 from zaX hk] at HPo
 have d1 : (kd == 1) = false := beq_eq_false_iff_ne.2 (by omega)
 have d2 : (kd == 2) = false := beq_eq_false_iff_ne.2 (by omega)
 have d7 : (kd == 7) = false := beq_eq_false_iff_ne.2 (by omega)
 have d8 : (kd == 8) = false := beq_eq_false_iff_ne.2 (by omega)
 generalize za1 t (a : Int) = ps at *
 clear hw hin hint hsh hlen htb hp hal hpl hx hs1 hs2 hbt hres hn q0 q1 q2 q3 hd hr0 hr1 hk
 go_enter Tryz.func80, Tryz.ntmps80
 go_wp2
 refine wp_region_held_drew (S := fun X => Below w.heap.size w X) (by kernel_rfl) ⟨rfl, rfl, rfl, Nat.le_refl _, fun _ _ => rfl⟩ (fun hHeld => ?_)
 refine tkO [(0, 8), (1, 9), (2, 10), (3, 11), (4, 12), (5, 13), (6, 14), (7, 15), (8, 16), (9, 17), (10, 18), (11, 19)] ?_
 repeat (refine tkY ?_ rfl (by rfl) ?_ ?_; rotate_left; (focus (intro wq hSw; have e0 := (HG.out wq hSw).1; have e1 := (HG.out wq hSw).2.1; have e2 := (HG.out wq hSw).2.2.1; have e3 := (HG.out wq hSw).2.2.2.1; have e4 := (HG.out wq hSw).2.2.2.2; clear hSw; first | (go_simp; done) | (go_simp; with_reducible rfl))); simp only [zP])
 refine tkZ ?_
 refine wpAnyH_ready (rs := [12, 13]) (by kernel_rfl) (by simp) ?_
 refine AllReadyH.cons rfl (fun K hK => ?_) (AllReadyH.cons rfl (fun K hK => ?_) AllReadyH.nil)
 ·
  have hlw := hHeld.size
  go_simp
  refine Calls.mono (HPo.out _ hHeld) ?_
  rintro e W1 ⟨pa, pc, gp, rfl, hpp, hb1⟩
  dsimp only
  refine hK.out _ _ (by exact hHeld.trans (hb1.mono hHeld.size)) (fun hHeld => ?_)
  clear hK K
  (try simp only [zP])
  refine zR 13 rfl (fun K hK => ?_)
  refine zaf rfl (zb7 rfl 6 rfl (fun Y2 gn hR2 hB2 hG2 => ?_))
  have hlo : w.heap.size ≤ gn := Nat.le_trans hHeld.size hG2
  have hne : 0 < 2 → gp ≠ gn := fun hm => by have := hpp.lt hm; omega
  replace hpp := (hpp.below hB2).low (w := w) hlw
  refine hK.out _ _ (by exact hHeld.trans (hB2.mono hHeld.size)) (fun hHeld => ?_)
  clear hK K
  (try simp only [zP])
  refine zR 14 rfl (fun K hK => ?_)
  refine zaf rfl (zb6 _ _ rfl gn kd nA np nf rfl rfl hR2 (fun Y3 hR3 hG3 => ?_))
  refine hK.out _ _ (by exact hHeld.grown hG3 hHeld.size (fun q e => by injection e with e; omega)) (fun hHeld => ?_)
  clear hK K
  (try simp only [Act.put])
  replace hpp := hpp.keep (fun hm => hG3.block gp (hpp.lt hm) (by intro e; injection e with e; exact absurd e (hne hm))) hG3.size
  refine wpAnyH_take (i := 15) (oi := ⟨some 7, _, _, _, _, _⟩) (v := ?v69) rfl (by kernel_rfl) (by kernel_rfl) (by kernel_rfl) (fun _ _ _ h => h) (Or.inl ⟨by rfl, ?hy69⟩) (by assumption) ?rest69
  case hy69 => (intro wq hSw; clear hSw; first | (go_simp; done) | (go_simp; with_reducible rfl))
  simp only [Act.put, zA]
  have it : Hid (It13 w Y3 gn kd nA np nf pa gp 2 ps) := ⟨hHeld, hR3, hlo, hpp⟩
  refine wpAnyH_done (by kernel_rfl) ?_ _
  clear hHeld hR2 hR3 hG3 hpp hB2 hG2 hb1 hne hlo hlw HPo HG
  have k0 : Y3.cell? ⟨gn, 0, none⟩ = some (.int .i64 kd) := it.out.n.cell 0 _ rfl
  have k1 : Y3.cell? ⟨gn, 1, none⟩ = some (.int .i64 nA) := it.out.n.cell 1 _ rfl
  have k2 : Y3.cell? ⟨gn, 2, none⟩ = some (.string ⟨np.toArray⟩) := it.out.n.cell 2 _ rfl
  have k3 : Y3.cell? ⟨gn, 3, none⟩ = some (.string ⟨nf.toArray⟩) := it.out.n.cell 3 _ rfl
  obtain rfl := it.out.pp.pa (by omega)
  have HC : Hid (_) := HT.out Y3 gp pc it.out.b (it.out.pp.lo (by omega)) (it.out.pp.cs 0 (by omega)) (it.out.pp.cs 1 (by omega))
  go_wp2_with fail
  refine Calls.mono HC.out ?_
  rintro e W5 ⟨rfl, u, hw5⟩
  have HF : Hid (_) := (HW.out.below it.out.b).trans hw5
  clear hw5 it HT k0 k1 k2 k3 HC
  go_wp2
  go_end0
  exact ⟨rfl, u, HF.out⟩
 ·
  refine zaf rfl (zb7 rfl 6 rfl (fun Y2 gn hR2 hB2 hG2 => ?_))
  have hlo : w.heap.size ≤ gn := Nat.le_trans hHeld.size hG2
  refine hK.out _ _ (by exact hHeld.trans (hB2.mono hHeld.size)) (fun hHeld => ?_)
  clear hK K
  (try simp only [zP])
  refine zR 12 rfl (fun K hK => ?_)
  have hlw := hHeld.size
  go_simp
  refine Calls.mono (HPo.out _ hHeld) ?_
  rintro e W1 ⟨pa, pc, gp, rfl, hpp, hb1⟩
  dsimp only
  have hne : 0 < 2 → gp ≠ gn := fun hm e => by have h1 := hpp.lo hm; have h2 := hR2.lt; omega
  replace hR2 := hR2.below hb1
  replace hpp := hpp.low (w := w) hlw
  refine hK.out _ _ (by exact hHeld.trans (hb1.mono hHeld.size)) (fun hHeld => ?_)
  clear hK K
  (try simp only [zP])
  refine zR 14 rfl (fun K hK => ?_)
  refine zaf rfl (zb6 _ _ rfl gn kd nA np nf rfl rfl hR2 (fun Y3 hR3 hG3 => ?_))
  refine hK.out _ _ (by exact hHeld.grown hG3 hHeld.size (fun q e => by injection e with e; omega)) (fun hHeld => ?_)
  clear hK K
  (try simp only [Act.put])
  replace hpp := hpp.keep (fun hm => hG3.block gp (hpp.lt hm) (by intro e; injection e with e; exact absurd e (hne hm))) hG3.size
  refine wpAnyH_take (i := 15) (oi := ⟨some 7, _, _, _, _, _⟩) (v := ?v70) rfl (by kernel_rfl) (by kernel_rfl) (by kernel_rfl) (fun _ _ _ h => h) (Or.inl ⟨by rfl, ?hy70⟩) (by assumption) ?rest70
  case hy70 => (intro wq hSw; clear hSw; first | (go_simp; done) | (go_simp; with_reducible rfl))
  simp only [Act.put, zA]
  have it : Hid (It13 w Y3 gn kd nA np nf pa gp 2 ps) := ⟨hHeld, hR3, hlo, hpp⟩
  refine wpAnyH_done (by kernel_rfl) ?_ _
  clear hHeld hR2 hR3 hG3 hpp hB2 hG2 hb1 hne hlo hlw HPo HG
  have k0 : Y3.cell? ⟨gn, 0, none⟩ = some (.int .i64 kd) := it.out.n.cell 0 _ rfl
  have k1 : Y3.cell? ⟨gn, 1, none⟩ = some (.int .i64 nA) := it.out.n.cell 1 _ rfl
  have k2 : Y3.cell? ⟨gn, 2, none⟩ = some (.string ⟨np.toArray⟩) := it.out.n.cell 2 _ rfl
  have k3 : Y3.cell? ⟨gn, 3, none⟩ = some (.string ⟨nf.toArray⟩) := it.out.n.cell 3 _ rfl
  obtain rfl := it.out.pp.pa (by omega)
  have HC : Hid (_) := HT.out Y3 gp pc it.out.b (it.out.pp.lo (by omega)) (it.out.pp.cs 0 (by omega)) (it.out.pp.cs 1 (by omega))
  go_wp2_with fail
  refine Calls.mono HC.out ?_
  rintro e W5 ⟨rfl, u, hw5⟩
  have HF : Hid (_) := (HW.out.below it.out.b).trans hw5
  clear hw5 it HT k0 k1 k2 k3 HC
  go_wp2
  go_end0
  exact ⟨rfl, u, HF.out⟩
theorem ziG (B : World) (ta : Option Addr) (tc : Nat) (t : List Nd) (gN g base : Nat) (hin : za4 B ta t.length t) (hint : IntT t) (hsh : zam t) (hlen : t.length ≤ 60) (htb : zaI t = true) (hnd : NdIn B gN t) : ∀ d, IntW B ta tc t gN g base d
 | 0 => fun w a r v xs _ hp hd _ _ _ => by
  have := (zac hp).1
  omega
 | d + 1 => fun w a r v xs hw hp hd hr0 hr1 hx => by
  have ih := ziG B ta tc t gN g base hin hint hsh hlen htb hnd d
  have hal := (zac hp).1
  have hmem : t.getD a nd0 ∈ t := by simp [List.getD, hal]
  have hk := zaV.1 ((zaM.1 htb).2.good12 _ hmem)
  unfold zbC at hk
  by_cases h1 : (t.getD a nd0).1 = 1
  ·
   exact zlB B ta tc t gN g base d hin hint hsh hlen htb w a r v xs hw hp hx h1
  by_cases h2 : (t.getD a nd0).1 = 2
  ·
   exact zlA B ta tc t gN g base d hin hint hsh hlen htb w a r v xs hw hp hx h2
  by_cases h7 : (t.getD a nd0).1 = 7
  ·
   exact zly B ta tc t gN g base d hin hint hsh hlen htb ih w a r v xs hw hp hd hr0 hr1 hx h7
  by_cases h8 : (t.getD a nd0).1 = 8
  ·
   exact zlx B ta tc t gN g base d hin hint hsh hlen htb ih w a r v xs hw hp hd hr0 hr1 hx h8
  ·
   exact zlz B ta tc t gN g base d hin hint hsh hlen htb hnd ih w a r v xs hw hp hd hr0 hr1 hx (by omega)
set_option maxHeartbeats 2000000 in
set_option maxRecDepth 100000 in
theorem zfo (ta : Option Addr) (tc : Nat) (t : List Nd) (w : World) (hin : za4 w ta t.length t) (hsh : zam t) (htb : zaI t = true) :
 Calls Tryz.prog 38 #[.slice ta t.length tc] w fun e w' => ∃ v, e = .returned v ∧ w'.ownsRow w.heap.size 88 5 v (za9 t).length (insV (za9 t)) ∧ Below w.heap.size w w' := by
 obtain ⟨h60, hone⟩ := zaM.1 htb
 have hcl := (zc4 htb).2.2.1
 obtain ⟨D, hD⟩ : ∃ D : Nat, D = 60 := ⟨60, rfl⟩
 have hcv : za9 t = za3 D t 0 0 0 ++ [(10, 0, 0, 0, [])] := by rw [hD]; unfold za9; rw [if_pos htb]
 have hb0 : Below w.heap.size w (w.alloc (.cells #[] 88)) := (Below.refl _ _).alloc (Nat.le_refl _) _
 have hP0 : (w.alloc (.cells #[] 88)).ownsRow w.heap.size 88 5 (.slice (some ⟨w.heap.size, 0, none⟩) 0 0) 0 [] := World.ownsRow_lit w #[] 0 (Nat.le_refl _) (by decide) rfl
 have HC : Hid (Calls Tryz.prog 63 #[.slice (some ⟨w.heap.size, 0, none⟩) 0 0, .slice ta t.length tc, .int .i64 0, .int .i64 0] (w.alloc (.cells #[] 88)) fun e w' => ∃ v', e = .returned v' ∧ Co13 (w.alloc (.cells #[] 88)) w' w.heap.size (.slice (some ⟨w.heap.size, 0, none⟩) 0 0) v' (za3 D t 0 0 0)) :=
  zih w ta tc t hin hsh hone.good12 h60 htb D (w.alloc (.cells #[] 88)) 0 0 w.heap.size (.slice (some ⟨w.heap.size, 0, none⟩) 0 0) [] hb0 hP0 hb0.size (Nat.le_refl _) (ziM hone) (by omega) (by omega) (by omega) (by rw [hD]; simp)
 rw [hcv] at hcl ⊢
 obtain ⟨xs, hxs⟩ : ∃ xs, za3 D t 0 0 0 = xs := ⟨_, rfl⟩
 rw [hxs] at HC hcl ⊢
 have HB0 : Hid (Below w.heap.size w (w.alloc (.cells #[] 88))) := hb0
 have hnl : xs.length ≤ 120 := by rw [List.length_append] at hcl; simp at hcl; omega
 clear hcv hxs hD hb0 hP0 hin hsh htb h60 hone hcl
 go_enter Tryz.func38, Tryz.ntmps38
 go_wp2_with fail
 refine Calls.mono HC.out ?_
 rintro e W1 ⟨v1, rfl, hco⟩
 obtain ⟨a2, c2, W2, hrun, hco2⟩ := (Co13.new hco.row (Nat.le_trans hco.lh hco.g.size)).push (10, 0, 0, 0, []) (by omega)
 have hc3 := hco.trans hco2
 have HF : Hid (W2.ownsRow w.heap.size 88 5 (.slice a2 (xs.length + 1) c2) (xs ++ [(10, 0, 0, 0, [])]).length (insV (xs ++ [(10, 0, 0, 0, [])])) ∧ Below w.heap.size w W2) := ⟨hc3.row, HB0.out.grown hc3.g HB0.out.size (fun k e => by have e2 : w.heap.size = k := (by simpa [Value.ownBlock] using e); omega)⟩
 obtain ⟨nx, hnx⟩ : ∃ nx, xs.length = nx := ⟨_, rfl⟩
 obtain ⟨a1, c1, rfl⟩ := zaE hco.row
 rw [hnx] at hrun HF hnl ⊢
 have hn2 : ¬ ((nx : Int) + 1 > 200) := by omega
 have hn3 : (nx : Int) + 1 ≤ 200 := by omega
 clear hco hco2 hc3 HC hnx
 go_wp2_with (at_builtin; refine wpList_append_run rfl (.tmp 6) (.tmp 8) 49 rfl _ _ _ rfl rfl hrun ?_; clear hrun)
 go_ret
 exact ⟨_, rfl, HF.out.1, HF.out.2⟩
end Go.Proofs.YtkpdoedpkncboaaGreat
