/-
  Parts of one proof, one behind the other: WrE.
-/
import Derived.Test.YtnpbckgaeaameaaGreatP30

/-! Contracts of chapter 13's landed code: into. -/
namespace Go.Proofs.YtnpbckgaeaameaaGreat
open Go.RowKit

section
variable {op : Oper} {a : Act} {w : World} {Q : Exit → Act → World → Prop} {K : Act → World → Prop}
theorem sizeNd : (Tryz.prog.info? 70).map (·.size) = some 4 := by kernel_rfl
def ndL (k A : Int) (p f : List UInt8) : List Value := [.int .i64 k, .int .i64 A, .string ⟨p.toArray⟩, .string ⟨f.toArray⟩]
theorem wp_alloc_nd (ho : op.op = .alloc 70) (d : Nat) (hd : op.dst = some d) (h : ∀ Y g, Rb Y g 0 (ndL 0 0 [] []) → Below w.heap.size w Y → w.heap.size ≤ g → K (a.put (some d) (.pointer (some ⟨g, 0, none⟩))) Y) : op.wp Tryz.prog a w K Q := by
  unfold Oper.wp execOp
  simp only [ho, Instr.alloc, Sem.run_bind, Tryz.zeroValue70, Result.andThen_ok, newVar, newRow, run_newObj_alloc, Sem.run_pure, Value.cells]
  have h2 := h _ _ (Rb.new w #[.int .i64 0, .int .i64 0, .string ⟨#[]⟩, .string ⟨#[]⟩] 70) ((Below.refl _ _).alloc (Nat.le_refl _) _) (Nat.le_refl _)
  rw [← hd] at h2
  exact h2
theorem wp_store_nd (x y : Operand) (ho : op.op = .store 70 x y) (b : Nat) (k A : Int) (p f : List UInt8) (hx : a.eval x = .pointer (some ⟨b, 0, none⟩)) (hy : a.eval y = .agg #[.int .i64 k, .int .i64 A, .string ⟨p.toArray⟩, .string ⟨f.toArray⟩]) (ht : Rb w b 0 (ndL 0 0 [] []))
    (h : ∀ Y, Rb Y b 0 (ndL k A p f) → w.grownBy Y (some b) → K (a.put op.dst undef) Y) : op.wp Tryz.prog a w K Q := by
  refine wp_store_mid _ x y ho b 0 #[.int .i64 k, .int .i64 A, .string ⟨p.toArray⟩, .string ⟨f.toArray⟩] hx hy ht.ok sizeNd (all_oneCell_toArray (by intro v hv; simp only [List.mem_cons, List.not_mem_nil, or_false] at hv; rcases hv with rfl | rfl | rfl | rfl <;> rfl)) ?_
  exact h _ (Rb.store (vs := ndL k A p f) ht.ok ht.lt) (grown_setNv b _ 0 w)
end
/-- The parts of a node, in new memory. -/
structure Pp13 (w X : World) (pa : Option Addr) (gp m : Nat) (ps : List Int) : Prop where
  pa : 0 < m → pa = some ⟨gp, 0, none⟩
  cs : ∀ j, j < m → X.cell? ⟨gp, j, none⟩ = some (.int .i64 (ps.getD j 0))
  lt : 0 < m → gp < X.heap.size
  lo : 0 < m → w.heap.size ≤ gp
theorem Pp13.low {w w2 X : World} {pa : Option Addr} {gp m : Nat} {ps : List Int} (h : Pp13 w2 X pa gp m ps) (hb : w.heap.size ≤ w2.heap.size) : Pp13 w X pa gp m ps := ⟨h.pa, h.cs, h.lt, fun hm => Nat.le_trans hb (h.lo hm)⟩
theorem Pp13.of {w X : World} {B m : Nat} {v : Value} {ps : List Int} (h : X.ownsRow B 2 1 v m (intsV ps)) (hl : ps.length = m) (hb : w.heap.size ≤ B) : ∃ pa pc gp, v = .slice pa m pc ∧ Pp13 w X pa gp m ps := by
  by_cases hm : 0 < m
  · obtain ⟨gp, cp, rfl⟩ := own_some h (by omega)
    have hg := h.lt gp rfl
    exact ⟨_, cp, gp, rfl, fun _ => rfl, fun j hj => ints_cell h j (by omega), fun _ => hg.2, fun _ => Nat.le_trans hb hg.1⟩
  · obtain ⟨a, c, rfl⟩ := own_any12 h
    exact ⟨a, c, 0, rfl, fun h => absurd h hm, fun j hj => by omega, fun h => absurd h hm, fun h => absurd h hm⟩
theorem Pp13.keep {w X Y : World} {pa : Option Addr} {gp m : Nat} {ps : List Int} (h : Pp13 w X pa gp m ps) (hb : 0 < m → Y.heap[gp]? = X.heap[gp]?) (hs : X.heap.size ≤ Y.heap.size) : Pp13 w Y pa gp m ps :=
  ⟨h.pa, fun j hj => (World.cell?_of_block (a := ⟨gp, j, none⟩) (hb (by omega))).trans (h.cs j hj), fun hm => Nat.lt_of_lt_of_le (h.lt hm) hs, h.lo⟩
theorem Pp13.below {w X Y : World} {pa : Option Addr} {gp m : Nat} {ps : List Int} (h : Pp13 w X pa gp m ps) (hb : Below X.heap.size X Y) : Pp13 w Y pa gp m ps := h.keep (fun hm => hb.block gp (h.lt hm)) hb.size
/-- What into holds behind its first row: the node, its parts, all of it new. -/
structure It13 (w X : World) (gn : Nat) (k A : Int) (p f : List UInt8) (pa : Option Addr) (gp m : Nat) (ps : List Int) : Prop where
  b : Below w.heap.size w X
  n : Rb X gn 0 (ndL k A p f)
  lo : w.heap.size ≤ gn
  pp : Pp13 w X pa gp m ps
set_option maxHeartbeats 8000000 in
set_option maxRecDepth 100000 in
theorem implInto1 (B : World) (ta : Option Addr) (tc : Nat) (t : List Nd) (gN g base d : Nat) (hin : NodesIn B ta t.length t) (hint : IntT t) (hsh : ShortT t) (hlen : t.length ≤ 60) (htb : treeB t = true) (w : World) (a : Nat) (r : Int) (v : Value) (xs : List In13) (hw : Wr13 B w w g base (.slice ta t.length tc) (.slice (some ⟨gN, 0, none⟩) t.length t.length) v v xs) (hp : 0 ≤ endV t (a : Int)) (hx : xs.length + 400 * (d + 1) ≤ 100000) (hk : (t.getD a nd0).1 = 1) :
    Calls Tryz.prog 22 #[.pointer (some ⟨g, 0, none⟩), .int .i64 r, .int .i64 (a : Int)] w fun e w' => e = .returned (.tuple #[]) ∧ ∃ u, Wr13 B w w' g base (.slice ta t.length tc) (.slice (some ⟨gN, 0, none⟩) t.length t.length) v u (xs ++ into13 (d + 1) t (a : Int) r (xs.length : Int)) := by
  obtain ⟨hal, -, -, -, -⟩ := end_parts hp
  have hpl : (pts10 t (a : Int)).length = kidsN (t.getD a nd0) := pts_len t a
  have HPo : Hid (∀ X, Below w.heap.size w X → Calls Tryz.prog 43 #[.slice ta t.length tc, .int .i64 (a : Int)] X fun e w' => ∃ pa pc gp, e = .returned (.slice pa (kidsN (t.getD a nd0)) pc) ∧ Pp13 X w' pa gp (kidsN (t.getD a nd0)) (pts10 t (a : Int)) ∧ Below X.heap.size X w') := fun X hb => by
    have hBX : Below B.heap.size B X := (hw.below hb).bB
    have h := implPartsOf ta t.length tc t (a : Int) X (hin.below hBX) hint hsh (by omega) (by omega)
    rw [parts_at htb hal, hpl] at h
    refine h.mono ?_
    rintro e w' ⟨pv, rfl, hpv, hb2⟩
    obtain ⟨pa, pc, gp, rfl, hpp⟩ := Pp13.of (w := X) hpv hpl (Nat.le_refl _)
    exact ⟨pa, pc, gp, rfl, hpp, hb2⟩
  have hs1 := (hsh a).1
  have hs2 := (hsh a).2
  have HGN : Hid (∀ b, w.heap.size ≤ b → b ≠ g ∧ v.ownBlock ≠ some b) := fun b hb => ⟨fun e => by have := hw.lt; omega, fun e => by have := (hw.row.lt b e).2; omega⟩
  have hr : into13 (d + 1) t (a : Int) r (xs.length : Int) = [(1, r, (t.getD a nd0).2.1, 0, [])] := by
    rw [into13, Int.toNat_natCast]
    simp only
    rw [if_pos hk]
  have HT : Hid (∀ X, Below w.heap.size w X → Calls Tryz.prog 23 #[.pointer (some ⟨g, 0, none⟩), .agg #[.int .i64 1, .int .i64 r, .int .i64 (t.getD a nd0).2.1, .int .i64 0, .string ⟨#[]⟩]] X fun e w' => e = .returned (.int .i64 (xs.length : Int)) ∧ ∃ u, Wr13 B X w' g base (.slice ta t.length tc) (.slice (some ⟨gN, 0, none⟩) t.length t.length) v u (xs ++ into13 (d + 1) t (a : Int) r (xs.length : Int))) := fun X hb => by
    rw [hr]
    exact implWrite B X g base _ _ v xs (1, r, (t.getD a nd0).2.1, 0, []) (hw.below hb).here (by omega)
  clear hr
  obtain ⟨bt, ot, rfl, hbt, q0, q1, q2, q3⟩ := (hin.below hw.bB).2 a hal
  obtain ⟨res, hres⟩ : ∃ res, into13 (d + 1) t (a : Int) r (xs.length : Int) = res := ⟨_, rfl⟩
  rw [hres] at HT ⊢
  obtain ⟨n, hn⟩ : ∃ n, t.getD a nd0 = n := ⟨_, rfl⟩
  rw [hn] at q0 q1 q2 q3 hk HPo
  (try rw [hn] at HT)
  obtain ⟨kd, nA, np, nf⟩ := n
  dsimp only at q0 q1 q2 q3 hk
  (try dsimp only at HT)
  subst hk
  have HG : Hid (∀ X, Below w.heap.size w X → X.cell? ⟨g, 0, none⟩ = some (.slice (some ⟨bt, ot, none⟩) t.length tc) ∧ X.cell? ⟨bt, ot + a * 4, none⟩ = some (.int .i64 1) ∧ X.cell? ⟨bt, ot + a * 4 + 1, none⟩ = some (.int .i64 nA) ∧ X.cell? ⟨bt, ot + a * 4 + 2, none⟩ = some (.string ⟨np.toArray⟩) ∧ X.cell? ⟨bt, ot + a * 4 + 3, none⟩ = some (.string ⟨nf.toArray⟩)) := fun X hb =>
    ⟨(hw.below hb).c0, (hb.cell (p := ⟨bt, ot + a * 4, none⟩) hbt).trans q0, (hb.cell (p := ⟨bt, ot + a * 4 + 1, none⟩) hbt).trans q1, (hb.cell (p := ⟨bt, ot + a * 4 + 2, none⟩) hbt).trans q2, (hb.cell (p := ⟨bt, ot + a * 4 + 3, none⟩) hbt).trans q3⟩
  have HW : Hid (Wr13 B w w g base (.slice (some ⟨bt, ot, none⟩) t.length tc) (.slice (some ⟨gN, 0, none⟩) t.length t.length) v v xs) := hw
  have hal2 : (a : Int) < (t.length : Int) := by omega
  generalize kidsN (1, nA, np, nf) = m at *
  generalize pts10 t (a : Int) = ps at *
  clear hw hin hint hsh hlen htb hp hal hpl hx hs1 hs2 hbt hres hn q0 q1 q2 q3
  go_enter Tryz.func22, Tryz.ntmps22
  go_wp2
  refine wp_region_held_drew (S := fun X => Below w.heap.size w X) (by kernel_rfl) ⟨rfl, rfl, rfl, Nat.le_refl _, fun _ _ => rfl⟩ (fun hHeld => ?_)
  refine wpAnyH_take (i := 0) (oi := ⟨some 8, _, _, _, _, _⟩) (v := ?v1) rfl (by kernel_rfl) (by kernel_rfl) (by kernel_rfl) (fun _ _ _ h => h) (Or.inl ⟨by rfl, ?hy1⟩) (by assumption) ?rest1
  case hy1 => (intro wq hSw; have e0 := (HG.out wq hSw).1; have e1 := (HG.out wq hSw).2.1; have e2 := (HG.out wq hSw).2.2.1; have e3 := (HG.out wq hSw).2.2.2.1; have e4 := (HG.out wq hSw).2.2.2.2; clear hSw; first | (go_simp; done) | (go_simp; with_reducible rfl))
  simp only [Act.put, List.setIfInBounds_toArray, List.set_cons_zero, List.set_cons_succ]
  refine wpAnyH_take (i := 1) (oi := ⟨some 9, _, _, _, _, _⟩) (v := ?v2) rfl (by kernel_rfl) (by kernel_rfl) (by kernel_rfl) (fun _ _ _ h => h) (Or.inl ⟨by rfl, ?hy2⟩) (by assumption) ?rest2
  case hy2 => (intro wq hSw; have e0 := (HG.out wq hSw).1; have e1 := (HG.out wq hSw).2.1; have e2 := (HG.out wq hSw).2.2.1; have e3 := (HG.out wq hSw).2.2.2.1; have e4 := (HG.out wq hSw).2.2.2.2; clear hSw; first | (go_simp; done) | (go_simp; with_reducible rfl))
  simp only [Act.put, List.setIfInBounds_toArray, List.set_cons_zero, List.set_cons_succ]
  refine wpAnyH_take (i := 2) (oi := ⟨some 10, _, _, _, _, _⟩) (v := ?v3) rfl (by kernel_rfl) (by kernel_rfl) (by kernel_rfl) (fun _ _ _ h => h) (Or.inl ⟨by rfl, ?hy3⟩) (by assumption) ?rest3
  case hy3 => (intro wq hSw; have e0 := (HG.out wq hSw).1; have e1 := (HG.out wq hSw).2.1; have e2 := (HG.out wq hSw).2.2.1; have e3 := (HG.out wq hSw).2.2.2.1; have e4 := (HG.out wq hSw).2.2.2.2; clear hSw; first | (go_simp; done) | (go_simp; with_reducible rfl))
  simp only [Act.put, List.setIfInBounds_toArray, List.set_cons_zero, List.set_cons_succ]
  refine wpAnyH_take (i := 3) (oi := ⟨some 11, _, _, _, _, _⟩) (v := ?v4) rfl (by kernel_rfl) (by kernel_rfl) (by kernel_rfl) (fun _ _ _ h => h) (Or.inl ⟨by rfl, ?hy4⟩) (by assumption) ?rest4
  case hy4 => (intro wq hSw; have e0 := (HG.out wq hSw).1; have e1 := (HG.out wq hSw).2.1; have e2 := (HG.out wq hSw).2.2.1; have e3 := (HG.out wq hSw).2.2.2.1; have e4 := (HG.out wq hSw).2.2.2.2; clear hSw; first | (go_simp; done) | (go_simp; with_reducible rfl))
  simp only [Act.put, List.setIfInBounds_toArray, List.set_cons_zero, List.set_cons_succ]
  refine wpAnyH_take (i := 4) (oi := ⟨some 12, _, _, _, _, _⟩) (v := ?v5) rfl (by kernel_rfl) (by kernel_rfl) (by kernel_rfl) (fun _ _ _ h => h) (Or.inl ⟨by rfl, ?hy5⟩) (by assumption) ?rest5
  case hy5 => (intro wq hSw; have e0 := (HG.out wq hSw).1; have e1 := (HG.out wq hSw).2.1; have e2 := (HG.out wq hSw).2.2.1; have e3 := (HG.out wq hSw).2.2.2.1; have e4 := (HG.out wq hSw).2.2.2.2; clear hSw; first | (go_simp; done) | (go_simp; with_reducible rfl))
  simp only [Act.put, List.setIfInBounds_toArray, List.set_cons_zero, List.set_cons_succ]
  refine wpAnyH_take (i := 5) (oi := ⟨some 13, _, _, _, _, _⟩) (v := ?v6) rfl (by kernel_rfl) (by kernel_rfl) (by kernel_rfl) (fun _ _ _ h => h) (Or.inl ⟨by rfl, ?hy6⟩) (by assumption) ?rest6
  case hy6 => (intro wq hSw; have e0 := (HG.out wq hSw).1; have e1 := (HG.out wq hSw).2.1; have e2 := (HG.out wq hSw).2.2.1; have e3 := (HG.out wq hSw).2.2.2.1; have e4 := (HG.out wq hSw).2.2.2.2; clear hSw; first | (go_simp; done) | (go_simp; with_reducible rfl))
  simp only [Act.put, List.setIfInBounds_toArray, List.set_cons_zero, List.set_cons_succ]
  refine wpAnyH_take (i := 6) (oi := ⟨some 14, _, _, _, _, _⟩) (v := ?v7) rfl (by kernel_rfl) (by kernel_rfl) (by kernel_rfl) (fun _ _ _ h => h) (Or.inl ⟨by rfl, ?hy7⟩) (by assumption) ?rest7
  case hy7 => (intro wq hSw; have e0 := (HG.out wq hSw).1; have e1 := (HG.out wq hSw).2.1; have e2 := (HG.out wq hSw).2.2.1; have e3 := (HG.out wq hSw).2.2.2.1; have e4 := (HG.out wq hSw).2.2.2.2; clear hSw; first | (go_simp; done) | (go_simp; with_reducible rfl))
  simp only [Act.put, List.setIfInBounds_toArray, List.set_cons_zero, List.set_cons_succ]
  refine wpAnyH_take (i := 7) (oi := ⟨some 15, _, _, _, _, _⟩) (v := ?v8) rfl (by kernel_rfl) (by kernel_rfl) (by kernel_rfl) (fun _ _ _ h => h) (Or.inl ⟨by rfl, ?hy8⟩) (by assumption) ?rest8
  case hy8 => (intro wq hSw; have e0 := (HG.out wq hSw).1; have e1 := (HG.out wq hSw).2.1; have e2 := (HG.out wq hSw).2.2.1; have e3 := (HG.out wq hSw).2.2.2.1; have e4 := (HG.out wq hSw).2.2.2.2; clear hSw; first | (go_simp; done) | (go_simp; with_reducible rfl))
  simp only [Act.put, List.setIfInBounds_toArray, List.set_cons_zero, List.set_cons_succ]
  refine wpAnyH_take (i := 8) (oi := ⟨some 16, _, _, _, _, _⟩) (v := ?v9) rfl (by kernel_rfl) (by kernel_rfl) (by kernel_rfl) (fun _ _ _ h => h) (Or.inl ⟨by rfl, ?hy9⟩) (by assumption) ?rest9
  case hy9 => (intro wq hSw; have e0 := (HG.out wq hSw).1; have e1 := (HG.out wq hSw).2.1; have e2 := (HG.out wq hSw).2.2.1; have e3 := (HG.out wq hSw).2.2.2.1; have e4 := (HG.out wq hSw).2.2.2.2; clear hSw; first | (go_simp; done) | (go_simp; with_reducible rfl))
  simp only [Act.put, List.setIfInBounds_toArray, List.set_cons_zero, List.set_cons_succ]
  refine wpAnyH_take (i := 9) (oi := ⟨some 17, _, _, _, _, _⟩) (v := ?v10) rfl (by kernel_rfl) (by kernel_rfl) (by kernel_rfl) (fun _ _ _ h => h) (Or.inl ⟨by rfl, ?hy10⟩) (by assumption) ?rest10
  case hy10 => (intro wq hSw; have e0 := (HG.out wq hSw).1; have e1 := (HG.out wq hSw).2.1; have e2 := (HG.out wq hSw).2.2.1; have e3 := (HG.out wq hSw).2.2.2.1; have e4 := (HG.out wq hSw).2.2.2.2; clear hSw; first | (go_simp; done) | (go_simp; with_reducible rfl))
  simp only [Act.put, List.setIfInBounds_toArray, List.set_cons_zero, List.set_cons_succ]
  refine wpAnyH_take (i := 10) (oi := ⟨some 18, _, _, _, _, _⟩) (v := ?v11) rfl (by kernel_rfl) (by kernel_rfl) (by kernel_rfl) (fun _ _ _ h => h) (Or.inl ⟨by rfl, ?hy11⟩) (by assumption) ?rest11
  case hy11 => (intro wq hSw; have e0 := (HG.out wq hSw).1; have e1 := (HG.out wq hSw).2.1; have e2 := (HG.out wq hSw).2.2.1; have e3 := (HG.out wq hSw).2.2.2.1; have e4 := (HG.out wq hSw).2.2.2.2; clear hSw; first | (go_simp; done) | (go_simp; with_reducible rfl))
  simp only [Act.put, List.setIfInBounds_toArray, List.set_cons_zero, List.set_cons_succ]
  refine wpAnyH_take (i := 11) (oi := ⟨some 19, _, _, _, _, _⟩) (v := ?v12) rfl (by kernel_rfl) (by kernel_rfl) (by kernel_rfl) (fun _ _ _ h => h) (Or.inl ⟨by rfl, ?hy12⟩) (by assumption) ?rest12
  case hy12 => (intro wq hSw; have e0 := (HG.out wq hSw).1; have e1 := (HG.out wq hSw).2.1; have e2 := (HG.out wq hSw).2.2.1; have e3 := (HG.out wq hSw).2.2.2.1; have e4 := (HG.out wq hSw).2.2.2.2; clear hSw; first | (go_simp; done) | (go_simp; with_reducible rfl))
  simp only [Act.put, List.setIfInBounds_toArray, List.set_cons_zero, List.set_cons_succ]
  refine wpAnyH_ready (rs := [12, 13]) (by kernel_rfl) (by simp) ?_
  refine AllReadyH.cons rfl (fun K hK => ?_) (AllReadyH.cons rfl (fun K hK => ?_) AllReadyH.nil)
  ·
    have hlw := hHeld.size
    go_simp
    refine Calls.mono (HPo.out _ hHeld) ?_
    rintro e W1 ⟨pa, pc, gp, rfl, hpp, hb1⟩
    dsimp only
    refine hK.out _ _ (by exact hHeld.trans (hb1.mono hHeld.size)) (fun hHeld => ?_)
    clear hK K
    (try simp only [Act.put, List.setIfInBounds_toArray, List.set_cons_zero, List.set_cons_succ])
    refine wpAnyH_ready (rs := [13]) (by kernel_rfl) (by simp) ?_
    refine AllReadyH.cons rfl (fun K hK => ?_) AllReadyH.nil
    refine step_of_wp rfl (wp_alloc_nd rfl 6 rfl (fun Y2 gn hR2 hB2 hG2 => ?_))
    have hlo : w.heap.size ≤ gn := Nat.le_trans hHeld.size hG2
    have hne : 0 < m → gp ≠ gn := fun hm => by have := hpp.lt hm; omega
    replace hpp := (hpp.below hB2).low (w := w) hlw
    refine hK.out _ _ (by exact hHeld.trans (hB2.mono hHeld.size)) (fun hHeld => ?_)
    clear hK K
    (try simp only [Act.put, List.setIfInBounds_toArray, List.set_cons_zero, List.set_cons_succ])
    refine wpAnyH_ready (rs := [14]) (by kernel_rfl) (by simp) ?_
    refine AllReadyH.cons rfl (fun K hK => ?_) AllReadyH.nil
    refine step_of_wp rfl (wp_store_nd _ _ rfl gn 1 nA np nf rfl rfl hR2 (fun Y3 hR3 hG3 => ?_))
    refine hK.out _ _ (by exact hHeld.grown hG3 hHeld.size (fun q e => by injection e with e; omega)) (fun hHeld => ?_)
    clear hK K
    (try simp only [Act.put])
    replace hpp := hpp.keep (fun hm => hG3.block gp (hpp.lt hm) (by intro e; injection e with e; exact absurd e (hne hm))) hG3.size
    refine wpAnyH_take (i := 15) (oi := ⟨some 7, _, _, _, _, _⟩) (v := ?v13) rfl (by kernel_rfl) (by kernel_rfl) (by kernel_rfl) (fun _ _ _ h => h) (Or.inl ⟨by rfl, ?hy13⟩) (by assumption) ?rest13
    case hy13 => (intro wq hSw; clear hSw; first | (go_simp; done) | (go_simp; with_reducible rfl))
    simp only [Act.put, List.setIfInBounds_toArray]
    have it : Hid (It13 w Y3 gn 1 nA np nf pa gp m ps) := ⟨hHeld, hR3, hlo, hpp⟩
    refine wpAnyH_done (by kernel_rfl) ?_ _
    clear hHeld hR2 hR3 hG3 hpp hB2 hG2 hb1 hne hlo hlw HPo HG
    have k0 : Y3.cell? ⟨gn, 0, none⟩ = some (.int .i64 1) := it.out.n.cell 0 _ rfl
    have k1 : Y3.cell? ⟨gn, 1, none⟩ = some (.int .i64 nA) := it.out.n.cell 1 _ rfl
    go_wp2_with fail
    refine Calls.mono (HT.out _ it.out.b) ?_
    rintro e W5 ⟨rfl, u, hw5⟩
    have HF : Hid (_) := (HW.out.below it.out.b).trans hw5
    clear hw5 it HT k0 k1
    go_wp2
    go_end0
    exact ⟨rfl, u, HF.out⟩
  ·
    refine step_of_wp rfl (wp_alloc_nd rfl 6 rfl (fun Y2 gn hR2 hB2 hG2 => ?_))
    have hlo : w.heap.size ≤ gn := Nat.le_trans hHeld.size hG2
    refine hK.out _ _ (by exact hHeld.trans (hB2.mono hHeld.size)) (fun hHeld => ?_)
    clear hK K
    (try simp only [Act.put, List.setIfInBounds_toArray, List.set_cons_zero, List.set_cons_succ])
    refine wpAnyH_ready (rs := [12]) (by kernel_rfl) (by simp) ?_
    refine AllReadyH.cons rfl (fun K hK => ?_) AllReadyH.nil
    have hlw := hHeld.size
    go_simp
    refine Calls.mono (HPo.out _ hHeld) ?_
    rintro e W1 ⟨pa, pc, gp, rfl, hpp, hb1⟩
    dsimp only
    have hne : 0 < m → gp ≠ gn := fun hm e => by have h1 := hpp.lo hm; have h2 := hR2.lt; omega
    replace hR2 := hR2.below hb1
    replace hpp := hpp.low (w := w) hlw
    refine hK.out _ _ (by exact hHeld.trans (hb1.mono hHeld.size)) (fun hHeld => ?_)
    clear hK K
    (try simp only [Act.put, List.setIfInBounds_toArray, List.set_cons_zero, List.set_cons_succ])
    refine wpAnyH_ready (rs := [14]) (by kernel_rfl) (by simp) ?_
    refine AllReadyH.cons rfl (fun K hK => ?_) AllReadyH.nil
    refine step_of_wp rfl (wp_store_nd _ _ rfl gn 1 nA np nf rfl rfl hR2 (fun Y3 hR3 hG3 => ?_))
    refine hK.out _ _ (by exact hHeld.grown hG3 hHeld.size (fun q e => by injection e with e; omega)) (fun hHeld => ?_)
    clear hK K
    (try simp only [Act.put])
    replace hpp := hpp.keep (fun hm => hG3.block gp (hpp.lt hm) (by intro e; injection e with e; exact absurd e (hne hm))) hG3.size
    refine wpAnyH_take (i := 15) (oi := ⟨some 7, _, _, _, _, _⟩) (v := ?v14) rfl (by kernel_rfl) (by kernel_rfl) (by kernel_rfl) (fun _ _ _ h => h) (Or.inl ⟨by rfl, ?hy14⟩) (by assumption) ?rest14
    case hy14 => (intro wq hSw; clear hSw; first | (go_simp; done) | (go_simp; with_reducible rfl))
    simp only [Act.put, List.setIfInBounds_toArray]
    have it : Hid (It13 w Y3 gn 1 nA np nf pa gp m ps) := ⟨hHeld, hR3, hlo, hpp⟩
    refine wpAnyH_done (by kernel_rfl) ?_ _
    clear hHeld hR2 hR3 hG3 hpp hB2 hG2 hb1 hne hlo hlw HPo HG
    have k0 : Y3.cell? ⟨gn, 0, none⟩ = some (.int .i64 1) := it.out.n.cell 0 _ rfl
    have k1 : Y3.cell? ⟨gn, 1, none⟩ = some (.int .i64 nA) := it.out.n.cell 1 _ rfl
    go_wp2_with fail
    refine Calls.mono (HT.out _ it.out.b) ?_
    rintro e W5 ⟨rfl, u, hw5⟩
    have HF : Hid (_) := (HW.out.below it.out.b).trans hw5
    clear hw5 it HT k0 k1
    go_wp2
    go_end0
    exact ⟨rfl, u, HF.out⟩
set_option maxHeartbeats 8000000 in
set_option maxRecDepth 100000 in
theorem implInto2 (B : World) (ta : Option Addr) (tc : Nat) (t : List Nd) (gN g base d : Nat) (hin : NodesIn B ta t.length t) (hint : IntT t) (hsh : ShortT t) (hlen : t.length ≤ 60) (htb : treeB t = true) (w : World) (a : Nat) (r : Int) (v : Value) (xs : List In13) (hw : Wr13 B w w g base (.slice ta t.length tc) (.slice (some ⟨gN, 0, none⟩) t.length t.length) v v xs) (hp : 0 ≤ endV t (a : Int)) (hx : xs.length + 400 * (d + 1) ≤ 100000) (hk : (t.getD a nd0).1 = 2) :
    Calls Tryz.prog 22 #[.pointer (some ⟨g, 0, none⟩), .int .i64 r, .int .i64 (a : Int)] w fun e w' => e = .returned (.tuple #[]) ∧ ∃ u, Wr13 B w w' g base (.slice ta t.length tc) (.slice (some ⟨gN, 0, none⟩) t.length t.length) v u (xs ++ into13 (d + 1) t (a : Int) r (xs.length : Int)) := by
  obtain ⟨hal, -, -, -, -⟩ := end_parts hp
  have hpl : (pts10 t (a : Int)).length = kidsN (t.getD a nd0) := pts_len t a
  have HPo : Hid (∀ X, Below w.heap.size w X → Calls Tryz.prog 43 #[.slice ta t.length tc, .int .i64 (a : Int)] X fun e w' => ∃ pa pc gp, e = .returned (.slice pa (kidsN (t.getD a nd0)) pc) ∧ Pp13 X w' pa gp (kidsN (t.getD a nd0)) (pts10 t (a : Int)) ∧ Below X.heap.size X w') := fun X hb => by
    have hBX : Below B.heap.size B X := (hw.below hb).bB
    have h := implPartsOf ta t.length tc t (a : Int) X (hin.below hBX) hint hsh (by omega) (by omega)
    rw [parts_at htb hal, hpl] at h
    refine h.mono ?_
    rintro e w' ⟨pv, rfl, hpv, hb2⟩
    obtain ⟨pa, pc, gp, rfl, hpp⟩ := Pp13.of (w := X) hpv hpl (Nat.le_refl _)
    exact ⟨pa, pc, gp, rfl, hpp, hb2⟩
  have hs1 := (hsh a).1
  have hs2 := (hsh a).2
  have HGN : Hid (∀ b, w.heap.size ≤ b → b ≠ g ∧ v.ownBlock ≠ some b) := fun b hb => ⟨fun e => by have := hw.lt; omega, fun e => by have := (hw.row.lt b e).2; omega⟩
  have hr : into13 (d + 1) t (a : Int) r (xs.length : Int) = [(2, r, (t.getD a nd0).2.1, 0, [])] := by
    rw [into13, Int.toNat_natCast]
    simp only
    rw [if_neg (by omega), if_pos hk]
  have HT : Hid (∀ X, Below w.heap.size w X → Calls Tryz.prog 23 #[.pointer (some ⟨g, 0, none⟩), .agg #[.int .i64 2, .int .i64 r, .int .i64 (t.getD a nd0).2.1, .int .i64 0, .string ⟨#[]⟩]] X fun e w' => e = .returned (.int .i64 (xs.length : Int)) ∧ ∃ u, Wr13 B X w' g base (.slice ta t.length tc) (.slice (some ⟨gN, 0, none⟩) t.length t.length) v u (xs ++ into13 (d + 1) t (a : Int) r (xs.length : Int))) := fun X hb => by
    rw [hr]
    exact implWrite B X g base _ _ v xs (2, r, (t.getD a nd0).2.1, 0, []) (hw.below hb).here (by omega)
  clear hr
  obtain ⟨bt, ot, rfl, hbt, q0, q1, q2, q3⟩ := (hin.below hw.bB).2 a hal
  obtain ⟨res, hres⟩ : ∃ res, into13 (d + 1) t (a : Int) r (xs.length : Int) = res := ⟨_, rfl⟩
  rw [hres] at HT ⊢
  obtain ⟨n, hn⟩ : ∃ n, t.getD a nd0 = n := ⟨_, rfl⟩
  rw [hn] at q0 q1 q2 q3 hk HPo
  (try rw [hn] at HT)
  obtain ⟨kd, nA, np, nf⟩ := n
  dsimp only at q0 q1 q2 q3 hk
  (try dsimp only at HT)
  subst hk
  have HG : Hid (∀ X, Below w.heap.size w X → X.cell? ⟨g, 0, none⟩ = some (.slice (some ⟨bt, ot, none⟩) t.length tc) ∧ X.cell? ⟨bt, ot + a * 4, none⟩ = some (.int .i64 2) ∧ X.cell? ⟨bt, ot + a * 4 + 1, none⟩ = some (.int .i64 nA) ∧ X.cell? ⟨bt, ot + a * 4 + 2, none⟩ = some (.string ⟨np.toArray⟩) ∧ X.cell? ⟨bt, ot + a * 4 + 3, none⟩ = some (.string ⟨nf.toArray⟩)) := fun X hb =>
    ⟨(hw.below hb).c0, (hb.cell (p := ⟨bt, ot + a * 4, none⟩) hbt).trans q0, (hb.cell (p := ⟨bt, ot + a * 4 + 1, none⟩) hbt).trans q1, (hb.cell (p := ⟨bt, ot + a * 4 + 2, none⟩) hbt).trans q2, (hb.cell (p := ⟨bt, ot + a * 4 + 3, none⟩) hbt).trans q3⟩
  have HW : Hid (Wr13 B w w g base (.slice (some ⟨bt, ot, none⟩) t.length tc) (.slice (some ⟨gN, 0, none⟩) t.length t.length) v v xs) := hw
  have hal2 : (a : Int) < (t.length : Int) := by omega
  generalize kidsN (2, nA, np, nf) = m at *
  generalize pts10 t (a : Int) = ps at *
  clear hw hin hint hsh hlen htb hp hal hpl hx hs1 hs2 hbt hres hn q0 q1 q2 q3
  go_enter Tryz.func22, Tryz.ntmps22
  go_wp2
  refine wp_region_held_drew (S := fun X => Below w.heap.size w X) (by kernel_rfl) ⟨rfl, rfl, rfl, Nat.le_refl _, fun _ _ => rfl⟩ (fun hHeld => ?_)
  refine wpAnyH_take (i := 0) (oi := ⟨some 8, _, _, _, _, _⟩) (v := ?v15) rfl (by kernel_rfl) (by kernel_rfl) (by kernel_rfl) (fun _ _ _ h => h) (Or.inl ⟨by rfl, ?hy15⟩) (by assumption) ?rest15
  case hy15 => (intro wq hSw; have e0 := (HG.out wq hSw).1; have e1 := (HG.out wq hSw).2.1; have e2 := (HG.out wq hSw).2.2.1; have e3 := (HG.out wq hSw).2.2.2.1; have e4 := (HG.out wq hSw).2.2.2.2; clear hSw; first | (go_simp; done) | (go_simp; with_reducible rfl))
  simp only [Act.put, List.setIfInBounds_toArray, List.set_cons_zero, List.set_cons_succ]
  refine wpAnyH_take (i := 1) (oi := ⟨some 9, _, _, _, _, _⟩) (v := ?v16) rfl (by kernel_rfl) (by kernel_rfl) (by kernel_rfl) (fun _ _ _ h => h) (Or.inl ⟨by rfl, ?hy16⟩) (by assumption) ?rest16
  case hy16 => (intro wq hSw; have e0 := (HG.out wq hSw).1; have e1 := (HG.out wq hSw).2.1; have e2 := (HG.out wq hSw).2.2.1; have e3 := (HG.out wq hSw).2.2.2.1; have e4 := (HG.out wq hSw).2.2.2.2; clear hSw; first | (go_simp; done) | (go_simp; with_reducible rfl))
  simp only [Act.put, List.setIfInBounds_toArray, List.set_cons_zero, List.set_cons_succ]
  refine wpAnyH_take (i := 2) (oi := ⟨some 10, _, _, _, _, _⟩) (v := ?v17) rfl (by kernel_rfl) (by kernel_rfl) (by kernel_rfl) (fun _ _ _ h => h) (Or.inl ⟨by rfl, ?hy17⟩) (by assumption) ?rest17
  case hy17 => (intro wq hSw; have e0 := (HG.out wq hSw).1; have e1 := (HG.out wq hSw).2.1; have e2 := (HG.out wq hSw).2.2.1; have e3 := (HG.out wq hSw).2.2.2.1; have e4 := (HG.out wq hSw).2.2.2.2; clear hSw; first | (go_simp; done) | (go_simp; with_reducible rfl))
  simp only [Act.put, List.setIfInBounds_toArray, List.set_cons_zero, List.set_cons_succ]
  refine wpAnyH_take (i := 3) (oi := ⟨some 11, _, _, _, _, _⟩) (v := ?v18) rfl (by kernel_rfl) (by kernel_rfl) (by kernel_rfl) (fun _ _ _ h => h) (Or.inl ⟨by rfl, ?hy18⟩) (by assumption) ?rest18
  case hy18 => (intro wq hSw; have e0 := (HG.out wq hSw).1; have e1 := (HG.out wq hSw).2.1; have e2 := (HG.out wq hSw).2.2.1; have e3 := (HG.out wq hSw).2.2.2.1; have e4 := (HG.out wq hSw).2.2.2.2; clear hSw; first | (go_simp; done) | (go_simp; with_reducible rfl))
  simp only [Act.put, List.setIfInBounds_toArray, List.set_cons_zero, List.set_cons_succ]
  refine wpAnyH_take (i := 4) (oi := ⟨some 12, _, _, _, _, _⟩) (v := ?v19) rfl (by kernel_rfl) (by kernel_rfl) (by kernel_rfl) (fun _ _ _ h => h) (Or.inl ⟨by rfl, ?hy19⟩) (by assumption) ?rest19
  case hy19 => (intro wq hSw; have e0 := (HG.out wq hSw).1; have e1 := (HG.out wq hSw).2.1; have e2 := (HG.out wq hSw).2.2.1; have e3 := (HG.out wq hSw).2.2.2.1; have e4 := (HG.out wq hSw).2.2.2.2; clear hSw; first | (go_simp; done) | (go_simp; with_reducible rfl))
  simp only [Act.put, List.setIfInBounds_toArray, List.set_cons_zero, List.set_cons_succ]
  refine wpAnyH_take (i := 5) (oi := ⟨some 13, _, _, _, _, _⟩) (v := ?v20) rfl (by kernel_rfl) (by kernel_rfl) (by kernel_rfl) (fun _ _ _ h => h) (Or.inl ⟨by rfl, ?hy20⟩) (by assumption) ?rest20
  case hy20 => (intro wq hSw; have e0 := (HG.out wq hSw).1; have e1 := (HG.out wq hSw).2.1; have e2 := (HG.out wq hSw).2.2.1; have e3 := (HG.out wq hSw).2.2.2.1; have e4 := (HG.out wq hSw).2.2.2.2; clear hSw; first | (go_simp; done) | (go_simp; with_reducible rfl))
  simp only [Act.put, List.setIfInBounds_toArray, List.set_cons_zero, List.set_cons_succ]
  refine wpAnyH_take (i := 6) (oi := ⟨some 14, _, _, _, _, _⟩) (v := ?v21) rfl (by kernel_rfl) (by kernel_rfl) (by kernel_rfl) (fun _ _ _ h => h) (Or.inl ⟨by rfl, ?hy21⟩) (by assumption) ?rest21
  case hy21 => (intro wq hSw; have e0 := (HG.out wq hSw).1; have e1 := (HG.out wq hSw).2.1; have e2 := (HG.out wq hSw).2.2.1; have e3 := (HG.out wq hSw).2.2.2.1; have e4 := (HG.out wq hSw).2.2.2.2; clear hSw; first | (go_simp; done) | (go_simp; with_reducible rfl))
  simp only [Act.put, List.setIfInBounds_toArray, List.set_cons_zero, List.set_cons_succ]
  refine wpAnyH_take (i := 7) (oi := ⟨some 15, _, _, _, _, _⟩) (v := ?v22) rfl (by kernel_rfl) (by kernel_rfl) (by kernel_rfl) (fun _ _ _ h => h) (Or.inl ⟨by rfl, ?hy22⟩) (by assumption) ?rest22
  case hy22 => (intro wq hSw; have e0 := (HG.out wq hSw).1; have e1 := (HG.out wq hSw).2.1; have e2 := (HG.out wq hSw).2.2.1; have e3 := (HG.out wq hSw).2.2.2.1; have e4 := (HG.out wq hSw).2.2.2.2; clear hSw; first | (go_simp; done) | (go_simp; with_reducible rfl))
  simp only [Act.put, List.setIfInBounds_toArray, List.set_cons_zero, List.set_cons_succ]
  refine wpAnyH_take (i := 8) (oi := ⟨some 16, _, _, _, _, _⟩) (v := ?v23) rfl (by kernel_rfl) (by kernel_rfl) (by kernel_rfl) (fun _ _ _ h => h) (Or.inl ⟨by rfl, ?hy23⟩) (by assumption) ?rest23
  case hy23 => (intro wq hSw; have e0 := (HG.out wq hSw).1; have e1 := (HG.out wq hSw).2.1; have e2 := (HG.out wq hSw).2.2.1; have e3 := (HG.out wq hSw).2.2.2.1; have e4 := (HG.out wq hSw).2.2.2.2; clear hSw; first | (go_simp; done) | (go_simp; with_reducible rfl))
  simp only [Act.put, List.setIfInBounds_toArray, List.set_cons_zero, List.set_cons_succ]
  refine wpAnyH_take (i := 9) (oi := ⟨some 17, _, _, _, _, _⟩) (v := ?v24) rfl (by kernel_rfl) (by kernel_rfl) (by kernel_rfl) (fun _ _ _ h => h) (Or.inl ⟨by rfl, ?hy24⟩) (by assumption) ?rest24
  case hy24 => (intro wq hSw; have e0 := (HG.out wq hSw).1; have e1 := (HG.out wq hSw).2.1; have e2 := (HG.out wq hSw).2.2.1; have e3 := (HG.out wq hSw).2.2.2.1; have e4 := (HG.out wq hSw).2.2.2.2; clear hSw; first | (go_simp; done) | (go_simp; with_reducible rfl))
  simp only [Act.put, List.setIfInBounds_toArray, List.set_cons_zero, List.set_cons_succ]
  refine wpAnyH_take (i := 10) (oi := ⟨some 18, _, _, _, _, _⟩) (v := ?v25) rfl (by kernel_rfl) (by kernel_rfl) (by kernel_rfl) (fun _ _ _ h => h) (Or.inl ⟨by rfl, ?hy25⟩) (by assumption) ?rest25
  case hy25 => (intro wq hSw; have e0 := (HG.out wq hSw).1; have e1 := (HG.out wq hSw).2.1; have e2 := (HG.out wq hSw).2.2.1; have e3 := (HG.out wq hSw).2.2.2.1; have e4 := (HG.out wq hSw).2.2.2.2; clear hSw; first | (go_simp; done) | (go_simp; with_reducible rfl))
  simp only [Act.put, List.setIfInBounds_toArray, List.set_cons_zero, List.set_cons_succ]
  refine wpAnyH_take (i := 11) (oi := ⟨some 19, _, _, _, _, _⟩) (v := ?v26) rfl (by kernel_rfl) (by kernel_rfl) (by kernel_rfl) (fun _ _ _ h => h) (Or.inl ⟨by rfl, ?hy26⟩) (by assumption) ?rest26
  case hy26 => (intro wq hSw; have e0 := (HG.out wq hSw).1; have e1 := (HG.out wq hSw).2.1; have e2 := (HG.out wq hSw).2.2.1; have e3 := (HG.out wq hSw).2.2.2.1; have e4 := (HG.out wq hSw).2.2.2.2; clear hSw; first | (go_simp; done) | (go_simp; with_reducible rfl))
  simp only [Act.put, List.setIfInBounds_toArray, List.set_cons_zero, List.set_cons_succ]
  refine wpAnyH_ready (rs := [12, 13]) (by kernel_rfl) (by simp) ?_
  refine AllReadyH.cons rfl (fun K hK => ?_) (AllReadyH.cons rfl (fun K hK => ?_) AllReadyH.nil)
  ·
    have hlw := hHeld.size
    go_simp
    refine Calls.mono (HPo.out _ hHeld) ?_
    rintro e W1 ⟨pa, pc, gp, rfl, hpp, hb1⟩
    dsimp only
    refine hK.out _ _ (by exact hHeld.trans (hb1.mono hHeld.size)) (fun hHeld => ?_)
    clear hK K
    (try simp only [Act.put, List.setIfInBounds_toArray, List.set_cons_zero, List.set_cons_succ])
    refine wpAnyH_ready (rs := [13]) (by kernel_rfl) (by simp) ?_
    refine AllReadyH.cons rfl (fun K hK => ?_) AllReadyH.nil
    refine step_of_wp rfl (wp_alloc_nd rfl 6 rfl (fun Y2 gn hR2 hB2 hG2 => ?_))
    have hlo : w.heap.size ≤ gn := Nat.le_trans hHeld.size hG2
    have hne : 0 < m → gp ≠ gn := fun hm => by have := hpp.lt hm; omega
    replace hpp := (hpp.below hB2).low (w := w) hlw
    refine hK.out _ _ (by exact hHeld.trans (hB2.mono hHeld.size)) (fun hHeld => ?_)
    clear hK K
    (try simp only [Act.put, List.setIfInBounds_toArray, List.set_cons_zero, List.set_cons_succ])
    refine wpAnyH_ready (rs := [14]) (by kernel_rfl) (by simp) ?_
    refine AllReadyH.cons rfl (fun K hK => ?_) AllReadyH.nil
    refine step_of_wp rfl (wp_store_nd _ _ rfl gn 2 nA np nf rfl rfl hR2 (fun Y3 hR3 hG3 => ?_))
    refine hK.out _ _ (by exact hHeld.grown hG3 hHeld.size (fun q e => by injection e with e; omega)) (fun hHeld => ?_)
    clear hK K
    (try simp only [Act.put])
    replace hpp := hpp.keep (fun hm => hG3.block gp (hpp.lt hm) (by intro e; injection e with e; exact absurd e (hne hm))) hG3.size
    refine wpAnyH_take (i := 15) (oi := ⟨some 7, _, _, _, _, _⟩) (v := ?v27) rfl (by kernel_rfl) (by kernel_rfl) (by kernel_rfl) (fun _ _ _ h => h) (Or.inl ⟨by rfl, ?hy27⟩) (by assumption) ?rest27
    case hy27 => (intro wq hSw; clear hSw; first | (go_simp; done) | (go_simp; with_reducible rfl))
    simp only [Act.put, List.setIfInBounds_toArray]
    have it : Hid (It13 w Y3 gn 2 nA np nf pa gp m ps) := ⟨hHeld, hR3, hlo, hpp⟩
    refine wpAnyH_done (by kernel_rfl) ?_ _
    clear hHeld hR2 hR3 hG3 hpp hB2 hG2 hb1 hne hlo hlw HPo HG
    have k0 : Y3.cell? ⟨gn, 0, none⟩ = some (.int .i64 2) := it.out.n.cell 0 _ rfl
    have k1 : Y3.cell? ⟨gn, 1, none⟩ = some (.int .i64 nA) := it.out.n.cell 1 _ rfl
    go_wp2_with fail
    refine Calls.mono (HT.out _ it.out.b) ?_
    rintro e W5 ⟨rfl, u, hw5⟩
    have HF : Hid (_) := (HW.out.below it.out.b).trans hw5
    clear hw5 it HT k0 k1
    go_wp2
    go_end0
    exact ⟨rfl, u, HF.out⟩
  ·
    refine step_of_wp rfl (wp_alloc_nd rfl 6 rfl (fun Y2 gn hR2 hB2 hG2 => ?_))
    have hlo : w.heap.size ≤ gn := Nat.le_trans hHeld.size hG2
    refine hK.out _ _ (by exact hHeld.trans (hB2.mono hHeld.size)) (fun hHeld => ?_)
    clear hK K
    (try simp only [Act.put, List.setIfInBounds_toArray, List.set_cons_zero, List.set_cons_succ])
    refine wpAnyH_ready (rs := [12]) (by kernel_rfl) (by simp) ?_
    refine AllReadyH.cons rfl (fun K hK => ?_) AllReadyH.nil
    have hlw := hHeld.size
    go_simp
    refine Calls.mono (HPo.out _ hHeld) ?_
    rintro e W1 ⟨pa, pc, gp, rfl, hpp, hb1⟩
    dsimp only
    have hne : 0 < m → gp ≠ gn := fun hm e => by have h1 := hpp.lo hm; have h2 := hR2.lt; omega
    replace hR2 := hR2.below hb1
    replace hpp := hpp.low (w := w) hlw
    refine hK.out _ _ (by exact hHeld.trans (hb1.mono hHeld.size)) (fun hHeld => ?_)
    clear hK K
    (try simp only [Act.put, List.setIfInBounds_toArray, List.set_cons_zero, List.set_cons_succ])
    refine wpAnyH_ready (rs := [14]) (by kernel_rfl) (by simp) ?_
    refine AllReadyH.cons rfl (fun K hK => ?_) AllReadyH.nil
    refine step_of_wp rfl (wp_store_nd _ _ rfl gn 2 nA np nf rfl rfl hR2 (fun Y3 hR3 hG3 => ?_))
    refine hK.out _ _ (by exact hHeld.grown hG3 hHeld.size (fun q e => by injection e with e; omega)) (fun hHeld => ?_)
    clear hK K
    (try simp only [Act.put])
    replace hpp := hpp.keep (fun hm => hG3.block gp (hpp.lt hm) (by intro e; injection e with e; exact absurd e (hne hm))) hG3.size
    refine wpAnyH_take (i := 15) (oi := ⟨some 7, _, _, _, _, _⟩) (v := ?v28) rfl (by kernel_rfl) (by kernel_rfl) (by kernel_rfl) (fun _ _ _ h => h) (Or.inl ⟨by rfl, ?hy28⟩) (by assumption) ?rest28
    case hy28 => (intro wq hSw; clear hSw; first | (go_simp; done) | (go_simp; with_reducible rfl))
    simp only [Act.put, List.setIfInBounds_toArray]
    have it : Hid (It13 w Y3 gn 2 nA np nf pa gp m ps) := ⟨hHeld, hR3, hlo, hpp⟩
    refine wpAnyH_done (by kernel_rfl) ?_ _
    clear hHeld hR2 hR3 hG3 hpp hB2 hG2 hb1 hne hlo hlw HPo HG
    have k0 : Y3.cell? ⟨gn, 0, none⟩ = some (.int .i64 2) := it.out.n.cell 0 _ rfl
    have k1 : Y3.cell? ⟨gn, 1, none⟩ = some (.int .i64 nA) := it.out.n.cell 1 _ rfl
    go_wp2_with fail
    refine Calls.mono (HT.out _ it.out.b) ?_
    rintro e W5 ⟨rfl, u, hw5⟩
    have HF : Hid (_) := (HW.out.below it.out.b).trans hw5
    clear hw5 it HT k0 k1
    go_wp2
    go_end0
    exact ⟨rfl, u, HF.out⟩
set_option maxHeartbeats 8000000 in
set_option maxRecDepth 100000 in
theorem implInto7 (B : World) (ta : Option Addr) (tc : Nat) (t : List Nd) (gN g base d : Nat) (hin : NodesIn B ta t.length t) (hint : IntT t) (hsh : ShortT t) (hlen : t.length ≤ 60) (htb : treeB t = true) (ih : IntW B ta tc t gN g base d) (w : World) (a : Nat) (r : Int) (v : Value) (xs : List In13) (hw : Wr13 B w w g base (.slice ta t.length tc) (.slice (some ⟨gN, 0, none⟩) t.length t.length) v v xs) (hp : 0 ≤ endV t (a : Int)) (hd : t.length ≤ a + (d + 1)) (hr0 : 0 ≤ r) (hr1 : r + 3 * ((d + 1 : Nat) : Int) ≤ 1000) (hx : xs.length + 400 * (d + 1) ≤ 100000) (hk : (t.getD a nd0).1 = 7) :
    Calls Tryz.prog 22 #[.pointer (some ⟨g, 0, none⟩), .int .i64 r, .int .i64 (a : Int)] w fun e w' => e = .returned (.tuple #[]) ∧ ∃ u, Wr13 B w w' g base (.slice ta t.length tc) (.slice (some ⟨gN, 0, none⟩) t.length t.length) v u (xs ++ into13 (d + 1) t (a : Int) r (xs.length : Int)) := by
  obtain ⟨hal, -, -, -, -⟩ := end_parts hp
  have hpl : (pts10 t (a : Int)).length = kidsN (t.getD a nd0) := pts_len t a
  have HPo : Hid (∀ X, Below w.heap.size w X → Calls Tryz.prog 43 #[.slice ta t.length tc, .int .i64 (a : Int)] X fun e w' => ∃ pa pc gp, e = .returned (.slice pa (kidsN (t.getD a nd0)) pc) ∧ Pp13 X w' pa gp (kidsN (t.getD a nd0)) (pts10 t (a : Int)) ∧ Below X.heap.size X w') := fun X hb => by
    have hBX : Below B.heap.size B X := (hw.below hb).bB
    have h := implPartsOf ta t.length tc t (a : Int) X (hin.below hBX) hint hsh (by omega) (by omega)
    rw [parts_at htb hal, hpl] at h
    refine h.mono ?_
    rintro e w' ⟨pv, rfl, hpv, hb2⟩
    obtain ⟨pa, pc, gp, rfl, hpp⟩ := Pp13.of (w := X) hpv hpl (Nat.le_refl _)
    exact ⟨pa, pc, gp, rfl, hpp, hb2⟩
  have hs1 := (hsh a).1
  have hs2 := (hsh a).2
  have HGN : Hid (∀ b, w.heap.size ≤ b → b ≠ g ∧ v.ownBlock ≠ some b) := fun b hb => ⟨fun e => by have := hw.lt; omega, fun e => by have := (hw.row.lt b e).2; omega⟩
  have hk3 : kidsN (t.getD a nd0) = 3 := kids_seven hk
  obtain ⟨p0, hp0, hap0, hpe0⟩ := need_place hp (i := 0) (by omega)
  obtain ⟨p1, hp1, hap1, hpe1⟩ := need_place hp (i := 1) (by omega)
  obtain ⟨p2, hp2, hap2, hpe2⟩ := need_place hp (i := 2) (by omega)
  have hl0 : p0 < t.length := (end_parts hpe0).1
  have hl1 : p1 < t.length := (end_parts hpe1).1
  have hl2 : p2 < t.length := (end_parts hpe2).1
  have HT : Hid (∀ X gp pc, Below w.heap.size w X → w.heap.size ≤ gp → X.cell? ⟨gp, 0, none⟩ = some (.int .i64 ((pts10 t (a : Int)).getD 0 0)) → X.cell? ⟨gp, 1, none⟩ = some (.int .i64 ((pts10 t (a : Int)).getD 1 0)) → X.cell? ⟨gp, 2, none⟩ = some (.int .i64 ((pts10 t (a : Int)).getD 2 0)) → Calls Tryz.prog 44 #[.pointer (some ⟨g, 0, none⟩), .int .i64 r, .slice (some ⟨gp, 0, none⟩) 3 pc] X fun e w' => e = .returned (.tuple #[]) ∧ ∃ u, Wr13 B X w' g base (.slice ta t.length tc) (.slice (some ⟨gN, 0, none⟩) t.length t.length) v u (xs ++ into13 (d + 1) t (a : Int) r (xs.length : Int))) := fun X gp pc hb hlo h0 h1 h2 => by
    rw [hp0] at h0
    rw [hp1] at h1
    rw [hp2] at h2
    refine implIf B ta tc t gN g base d htb ih X r v xs (hw.below hb).here gp 0 pc p0 p1 p2 h0 h1 h2 (HGN.out gp hlo).1 (HGN.out gp hlo).2 hpe0 hpe1 hpe2 (by omega) (by omega) (by omega) hl0 hl1 hl2 hr0 hr1 hx _ (fun x y z ex ey ez => ?_)
    rw [into13, Int.toNat_natCast]
    simp only
    rw [if_neg (by omega), if_neg (by omega), if_pos hk, hp0, hp1, hp2, ex, ey, ez]
  clear hp0 hp1 hp2 hpe0 hpe1 hpe2 hl0 hl1 hl2 hap0 hap1 hap2 hk3 ih
  obtain ⟨bt, ot, rfl, hbt, q0, q1, q2, q3⟩ := (hin.below hw.bB).2 a hal
  obtain ⟨res, hres⟩ : ∃ res, into13 (d + 1) t (a : Int) r (xs.length : Int) = res := ⟨_, rfl⟩
  rw [hres] at HT ⊢
  obtain ⟨n, hn⟩ : ∃ n, t.getD a nd0 = n := ⟨_, rfl⟩
  rw [hn] at q0 q1 q2 q3 hk HPo
  (try rw [hn] at HT)
  obtain ⟨kd, nA, np, nf⟩ := n
  dsimp only at q0 q1 q2 q3 hk
  (try dsimp only at HT)
  subst hk
  have HG : Hid (∀ X, Below w.heap.size w X → X.cell? ⟨g, 0, none⟩ = some (.slice (some ⟨bt, ot, none⟩) t.length tc) ∧ X.cell? ⟨bt, ot + a * 4, none⟩ = some (.int .i64 7) ∧ X.cell? ⟨bt, ot + a * 4 + 1, none⟩ = some (.int .i64 nA) ∧ X.cell? ⟨bt, ot + a * 4 + 2, none⟩ = some (.string ⟨np.toArray⟩) ∧ X.cell? ⟨bt, ot + a * 4 + 3, none⟩ = some (.string ⟨nf.toArray⟩)) := fun X hb =>
    ⟨(hw.below hb).c0, (hb.cell (p := ⟨bt, ot + a * 4, none⟩) hbt).trans q0, (hb.cell (p := ⟨bt, ot + a * 4 + 1, none⟩) hbt).trans q1, (hb.cell (p := ⟨bt, ot + a * 4 + 2, none⟩) hbt).trans q2, (hb.cell (p := ⟨bt, ot + a * 4 + 3, none⟩) hbt).trans q3⟩
  have HW : Hid (Wr13 B w w g base (.slice (some ⟨bt, ot, none⟩) t.length tc) (.slice (some ⟨gN, 0, none⟩) t.length t.length) v v xs) := hw
  have hal2 : (a : Int) < (t.length : Int) := by omega
  rw [show kidsN (7, nA, np, nf) = 3 from kids_seven rfl] at HPo
  generalize pts10 t (a : Int) = ps at *
  clear hw hin hint hsh hlen htb hp hal hpl hx hs1 hs2 hbt hres hn q0 q1 q2 q3 hd hr0 hr1
  go_enter Tryz.func22, Tryz.ntmps22
  go_wp2
  refine wp_region_held_drew (S := fun X => Below w.heap.size w X) (by kernel_rfl) ⟨rfl, rfl, rfl, Nat.le_refl _, fun _ _ => rfl⟩ (fun hHeld => ?_)
  refine wpAnyH_take (i := 0) (oi := ⟨some 8, _, _, _, _, _⟩) (v := ?v29) rfl (by kernel_rfl) (by kernel_rfl) (by kernel_rfl) (fun _ _ _ h => h) (Or.inl ⟨by rfl, ?hy29⟩) (by assumption) ?rest29
  case hy29 => (intro wq hSw; have e0 := (HG.out wq hSw).1; have e1 := (HG.out wq hSw).2.1; have e2 := (HG.out wq hSw).2.2.1; have e3 := (HG.out wq hSw).2.2.2.1; have e4 := (HG.out wq hSw).2.2.2.2; clear hSw; first | (go_simp; done) | (go_simp; with_reducible rfl))
  simp only [Act.put, List.setIfInBounds_toArray, List.set_cons_zero, List.set_cons_succ]
  refine wpAnyH_take (i := 1) (oi := ⟨some 9, _, _, _, _, _⟩) (v := ?v30) rfl (by kernel_rfl) (by kernel_rfl) (by kernel_rfl) (fun _ _ _ h => h) (Or.inl ⟨by rfl, ?hy30⟩) (by assumption) ?rest30
  case hy30 => (intro wq hSw; have e0 := (HG.out wq hSw).1; have e1 := (HG.out wq hSw).2.1; have e2 := (HG.out wq hSw).2.2.1; have e3 := (HG.out wq hSw).2.2.2.1; have e4 := (HG.out wq hSw).2.2.2.2; clear hSw; first | (go_simp; done) | (go_simp; with_reducible rfl))
  simp only [Act.put, List.setIfInBounds_toArray, List.set_cons_zero, List.set_cons_succ]
  refine wpAnyH_take (i := 2) (oi := ⟨some 10, _, _, _, _, _⟩) (v := ?v31) rfl (by kernel_rfl) (by kernel_rfl) (by kernel_rfl) (fun _ _ _ h => h) (Or.inl ⟨by rfl, ?hy31⟩) (by assumption) ?rest31
  case hy31 => (intro wq hSw; have e0 := (HG.out wq hSw).1; have e1 := (HG.out wq hSw).2.1; have e2 := (HG.out wq hSw).2.2.1; have e3 := (HG.out wq hSw).2.2.2.1; have e4 := (HG.out wq hSw).2.2.2.2; clear hSw; first | (go_simp; done) | (go_simp; with_reducible rfl))
  simp only [Act.put, List.setIfInBounds_toArray, List.set_cons_zero, List.set_cons_succ]
  refine wpAnyH_take (i := 3) (oi := ⟨some 11, _, _, _, _, _⟩) (v := ?v32) rfl (by kernel_rfl) (by kernel_rfl) (by kernel_rfl) (fun _ _ _ h => h) (Or.inl ⟨by rfl, ?hy32⟩) (by assumption) ?rest32
  case hy32 => (intro wq hSw; have e0 := (HG.out wq hSw).1; have e1 := (HG.out wq hSw).2.1; have e2 := (HG.out wq hSw).2.2.1; have e3 := (HG.out wq hSw).2.2.2.1; have e4 := (HG.out wq hSw).2.2.2.2; clear hSw; first | (go_simp; done) | (go_simp; with_reducible rfl))
  simp only [Act.put, List.setIfInBounds_toArray, List.set_cons_zero, List.set_cons_succ]
  refine wpAnyH_take (i := 4) (oi := ⟨some 12, _, _, _, _, _⟩) (v := ?v33) rfl (by kernel_rfl) (by kernel_rfl) (by kernel_rfl) (fun _ _ _ h => h) (Or.inl ⟨by rfl, ?hy33⟩) (by assumption) ?rest33
  case hy33 => (intro wq hSw; have e0 := (HG.out wq hSw).1; have e1 := (HG.out wq hSw).2.1; have e2 := (HG.out wq hSw).2.2.1; have e3 := (HG.out wq hSw).2.2.2.1; have e4 := (HG.out wq hSw).2.2.2.2; clear hSw; first | (go_simp; done) | (go_simp; with_reducible rfl))
  simp only [Act.put, List.setIfInBounds_toArray, List.set_cons_zero, List.set_cons_succ]
  refine wpAnyH_take (i := 5) (oi := ⟨some 13, _, _, _, _, _⟩) (v := ?v34) rfl (by kernel_rfl) (by kernel_rfl) (by kernel_rfl) (fun _ _ _ h => h) (Or.inl ⟨by rfl, ?hy34⟩) (by assumption) ?rest34
  case hy34 => (intro wq hSw; have e0 := (HG.out wq hSw).1; have e1 := (HG.out wq hSw).2.1; have e2 := (HG.out wq hSw).2.2.1; have e3 := (HG.out wq hSw).2.2.2.1; have e4 := (HG.out wq hSw).2.2.2.2; clear hSw; first | (go_simp; done) | (go_simp; with_reducible rfl))
  simp only [Act.put, List.setIfInBounds_toArray, List.set_cons_zero, List.set_cons_succ]
  refine wpAnyH_take (i := 6) (oi := ⟨some 14, _, _, _, _, _⟩) (v := ?v35) rfl (by kernel_rfl) (by kernel_rfl) (by kernel_rfl) (fun _ _ _ h => h) (Or.inl ⟨by rfl, ?hy35⟩) (by assumption) ?rest35
  case hy35 => (intro wq hSw; have e0 := (HG.out wq hSw).1; have e1 := (HG.out wq hSw).2.1; have e2 := (HG.out wq hSw).2.2.1; have e3 := (HG.out wq hSw).2.2.2.1; have e4 := (HG.out wq hSw).2.2.2.2; clear hSw; first | (go_simp; done) | (go_simp; with_reducible rfl))
  simp only [Act.put, List.setIfInBounds_toArray, List.set_cons_zero, List.set_cons_succ]
  refine wpAnyH_take (i := 7) (oi := ⟨some 15, _, _, _, _, _⟩) (v := ?v36) rfl (by kernel_rfl) (by kernel_rfl) (by kernel_rfl) (fun _ _ _ h => h) (Or.inl ⟨by rfl, ?hy36⟩) (by assumption) ?rest36
  case hy36 => (intro wq hSw; have e0 := (HG.out wq hSw).1; have e1 := (HG.out wq hSw).2.1; have e2 := (HG.out wq hSw).2.2.1; have e3 := (HG.out wq hSw).2.2.2.1; have e4 := (HG.out wq hSw).2.2.2.2; clear hSw; first | (go_simp; done) | (go_simp; with_reducible rfl))
  simp only [Act.put, List.setIfInBounds_toArray, List.set_cons_zero, List.set_cons_succ]
  refine wpAnyH_take (i := 8) (oi := ⟨some 16, _, _, _, _, _⟩) (v := ?v37) rfl (by kernel_rfl) (by kernel_rfl) (by kernel_rfl) (fun _ _ _ h => h) (Or.inl ⟨by rfl, ?hy37⟩) (by assumption) ?rest37
  case hy37 => (intro wq hSw; have e0 := (HG.out wq hSw).1; have e1 := (HG.out wq hSw).2.1; have e2 := (HG.out wq hSw).2.2.1; have e3 := (HG.out wq hSw).2.2.2.1; have e4 := (HG.out wq hSw).2.2.2.2; clear hSw; first | (go_simp; done) | (go_simp; with_reducible rfl))
  simp only [Act.put, List.setIfInBounds_toArray, List.set_cons_zero, List.set_cons_succ]
  refine wpAnyH_take (i := 9) (oi := ⟨some 17, _, _, _, _, _⟩) (v := ?v38) rfl (by kernel_rfl) (by kernel_rfl) (by kernel_rfl) (fun _ _ _ h => h) (Or.inl ⟨by rfl, ?hy38⟩) (by assumption) ?rest38
  case hy38 => (intro wq hSw; have e0 := (HG.out wq hSw).1; have e1 := (HG.out wq hSw).2.1; have e2 := (HG.out wq hSw).2.2.1; have e3 := (HG.out wq hSw).2.2.2.1; have e4 := (HG.out wq hSw).2.2.2.2; clear hSw; first | (go_simp; done) | (go_simp; with_reducible rfl))
  simp only [Act.put, List.setIfInBounds_toArray, List.set_cons_zero, List.set_cons_succ]
  refine wpAnyH_take (i := 10) (oi := ⟨some 18, _, _, _, _, _⟩) (v := ?v39) rfl (by kernel_rfl) (by kernel_rfl) (by kernel_rfl) (fun _ _ _ h => h) (Or.inl ⟨by rfl, ?hy39⟩) (by assumption) ?rest39
  case hy39 => (intro wq hSw; have e0 := (HG.out wq hSw).1; have e1 := (HG.out wq hSw).2.1; have e2 := (HG.out wq hSw).2.2.1; have e3 := (HG.out wq hSw).2.2.2.1; have e4 := (HG.out wq hSw).2.2.2.2; clear hSw; first | (go_simp; done) | (go_simp; with_reducible rfl))
  simp only [Act.put, List.setIfInBounds_toArray, List.set_cons_zero, List.set_cons_succ]
  refine wpAnyH_take (i := 11) (oi := ⟨some 19, _, _, _, _, _⟩) (v := ?v40) rfl (by kernel_rfl) (by kernel_rfl) (by kernel_rfl) (fun _ _ _ h => h) (Or.inl ⟨by rfl, ?hy40⟩) (by assumption) ?rest40
  case hy40 => (intro wq hSw; have e0 := (HG.out wq hSw).1; have e1 := (HG.out wq hSw).2.1; have e2 := (HG.out wq hSw).2.2.1; have e3 := (HG.out wq hSw).2.2.2.1; have e4 := (HG.out wq hSw).2.2.2.2; clear hSw; first | (go_simp; done) | (go_simp; with_reducible rfl))
  simp only [Act.put, List.setIfInBounds_toArray, List.set_cons_zero, List.set_cons_succ]
  refine wpAnyH_ready (rs := [12, 13]) (by kernel_rfl) (by simp) ?_
  refine AllReadyH.cons rfl (fun K hK => ?_) (AllReadyH.cons rfl (fun K hK => ?_) AllReadyH.nil)
  ·
    have hlw := hHeld.size
    go_simp
    refine Calls.mono (HPo.out _ hHeld) ?_
    rintro e W1 ⟨pa, pc, gp, rfl, hpp, hb1⟩
    dsimp only
    refine hK.out _ _ (by exact hHeld.trans (hb1.mono hHeld.size)) (fun hHeld => ?_)
    clear hK K
    (try simp only [Act.put, List.setIfInBounds_toArray, List.set_cons_zero, List.set_cons_succ])
    refine wpAnyH_ready (rs := [13]) (by kernel_rfl) (by simp) ?_
    refine AllReadyH.cons rfl (fun K hK => ?_) AllReadyH.nil
    refine step_of_wp rfl (wp_alloc_nd rfl 6 rfl (fun Y2 gn hR2 hB2 hG2 => ?_))
    have hlo : w.heap.size ≤ gn := Nat.le_trans hHeld.size hG2
    have hne : 0 < 3 → gp ≠ gn := fun hm => by have := hpp.lt hm; omega
    replace hpp := (hpp.below hB2).low (w := w) hlw
    refine hK.out _ _ (by exact hHeld.trans (hB2.mono hHeld.size)) (fun hHeld => ?_)
    clear hK K
    (try simp only [Act.put, List.setIfInBounds_toArray, List.set_cons_zero, List.set_cons_succ])
    refine wpAnyH_ready (rs := [14]) (by kernel_rfl) (by simp) ?_
    refine AllReadyH.cons rfl (fun K hK => ?_) AllReadyH.nil
    refine step_of_wp rfl (wp_store_nd _ _ rfl gn 7 nA np nf rfl rfl hR2 (fun Y3 hR3 hG3 => ?_))
    refine hK.out _ _ (by exact hHeld.grown hG3 hHeld.size (fun q e => by injection e with e; omega)) (fun hHeld => ?_)
    clear hK K
    (try simp only [Act.put])
    replace hpp := hpp.keep (fun hm => hG3.block gp (hpp.lt hm) (by intro e; injection e with e; exact absurd e (hne hm))) hG3.size
    refine wpAnyH_take (i := 15) (oi := ⟨some 7, _, _, _, _, _⟩) (v := ?v41) rfl (by kernel_rfl) (by kernel_rfl) (by kernel_rfl) (fun _ _ _ h => h) (Or.inl ⟨by rfl, ?hy41⟩) (by assumption) ?rest41
    case hy41 => (intro wq hSw; clear hSw; first | (go_simp; done) | (go_simp; with_reducible rfl))
    simp only [Act.put, List.setIfInBounds_toArray]
    have it : Hid (It13 w Y3 gn 7 nA np nf pa gp 3 ps) := ⟨hHeld, hR3, hlo, hpp⟩
    refine wpAnyH_done (by kernel_rfl) ?_ _
    clear hHeld hR2 hR3 hG3 hpp hB2 hG2 hb1 hne hlo hlw HPo HG
    have k0 : Y3.cell? ⟨gn, 0, none⟩ = some (.int .i64 7) := it.out.n.cell 0 _ rfl
    obtain rfl := it.out.pp.pa (by omega)
    have HC : Hid (_) := HT.out Y3 gp pc it.out.b (it.out.pp.lo (by omega)) (it.out.pp.cs 0 (by omega)) (it.out.pp.cs 1 (by omega)) (it.out.pp.cs 2 (by omega))
    go_wp2_with fail
    refine Calls.mono HC.out ?_
    rintro e W5 ⟨rfl, u, hw5⟩
    have HF : Hid (_) := (HW.out.below it.out.b).trans hw5
    clear hw5 it HT k0 HC
    go_wp2
    go_end0
    exact ⟨rfl, u, HF.out⟩
  ·
    refine step_of_wp rfl (wp_alloc_nd rfl 6 rfl (fun Y2 gn hR2 hB2 hG2 => ?_))
    have hlo : w.heap.size ≤ gn := Nat.le_trans hHeld.size hG2
    refine hK.out _ _ (by exact hHeld.trans (hB2.mono hHeld.size)) (fun hHeld => ?_)
    clear hK K
    (try simp only [Act.put, List.setIfInBounds_toArray, List.set_cons_zero, List.set_cons_succ])
    refine wpAnyH_ready (rs := [12]) (by kernel_rfl) (by simp) ?_
    refine AllReadyH.cons rfl (fun K hK => ?_) AllReadyH.nil
    have hlw := hHeld.size
    go_simp
    refine Calls.mono (HPo.out _ hHeld) ?_
    rintro e W1 ⟨pa, pc, gp, rfl, hpp, hb1⟩
    dsimp only
    have hne : 0 < 3 → gp ≠ gn := fun hm e => by have h1 := hpp.lo hm; have h2 := hR2.lt; omega
    replace hR2 := hR2.below hb1
    replace hpp := hpp.low (w := w) hlw
    refine hK.out _ _ (by exact hHeld.trans (hb1.mono hHeld.size)) (fun hHeld => ?_)
    clear hK K
    (try simp only [Act.put, List.setIfInBounds_toArray, List.set_cons_zero, List.set_cons_succ])
    refine wpAnyH_ready (rs := [14]) (by kernel_rfl) (by simp) ?_
    refine AllReadyH.cons rfl (fun K hK => ?_) AllReadyH.nil
    refine step_of_wp rfl (wp_store_nd _ _ rfl gn 7 nA np nf rfl rfl hR2 (fun Y3 hR3 hG3 => ?_))
    refine hK.out _ _ (by exact hHeld.grown hG3 hHeld.size (fun q e => by injection e with e; omega)) (fun hHeld => ?_)
    clear hK K
    (try simp only [Act.put])
    replace hpp := hpp.keep (fun hm => hG3.block gp (hpp.lt hm) (by intro e; injection e with e; exact absurd e (hne hm))) hG3.size
    refine wpAnyH_take (i := 15) (oi := ⟨some 7, _, _, _, _, _⟩) (v := ?v42) rfl (by kernel_rfl) (by kernel_rfl) (by kernel_rfl) (fun _ _ _ h => h) (Or.inl ⟨by rfl, ?hy42⟩) (by assumption) ?rest42
    case hy42 => (intro wq hSw; clear hSw; first | (go_simp; done) | (go_simp; with_reducible rfl))
    simp only [Act.put, List.setIfInBounds_toArray]
    have it : Hid (It13 w Y3 gn 7 nA np nf pa gp 3 ps) := ⟨hHeld, hR3, hlo, hpp⟩
    refine wpAnyH_done (by kernel_rfl) ?_ _
    clear hHeld hR2 hR3 hG3 hpp hB2 hG2 hb1 hne hlo hlw HPo HG
    have k0 : Y3.cell? ⟨gn, 0, none⟩ = some (.int .i64 7) := it.out.n.cell 0 _ rfl
    obtain rfl := it.out.pp.pa (by omega)
    have HC : Hid (_) := HT.out Y3 gp pc it.out.b (it.out.pp.lo (by omega)) (it.out.pp.cs 0 (by omega)) (it.out.pp.cs 1 (by omega)) (it.out.pp.cs 2 (by omega))
    go_wp2_with fail
    refine Calls.mono HC.out ?_
    rintro e W5 ⟨rfl, u, hw5⟩
    have HF : Hid (_) := (HW.out.below it.out.b).trans hw5
    clear hw5 it HT k0 HC
    go_wp2
    go_end0
    exact ⟨rfl, u, HF.out⟩
set_option maxHeartbeats 8000000 in
set_option maxRecDepth 100000 in
theorem implInto8 (B : World) (ta : Option Addr) (tc : Nat) (t : List Nd) (gN g base d : Nat) (hin : NodesIn B ta t.length t) (hint : IntT t) (hsh : ShortT t) (hlen : t.length ≤ 60) (htb : treeB t = true) (ih : IntW B ta tc t gN g base d) (w : World) (a : Nat) (r : Int) (v : Value) (xs : List In13) (hw : Wr13 B w w g base (.slice ta t.length tc) (.slice (some ⟨gN, 0, none⟩) t.length t.length) v v xs) (hp : 0 ≤ endV t (a : Int)) (hd : t.length ≤ a + (d + 1)) (hr0 : 0 ≤ r) (hr1 : r + 3 * ((d + 1 : Nat) : Int) ≤ 1000) (hx : xs.length + 400 * (d + 1) ≤ 100000) (hk : (t.getD a nd0).1 = 8) :
    Calls Tryz.prog 22 #[.pointer (some ⟨g, 0, none⟩), .int .i64 r, .int .i64 (a : Int)] w fun e w' => e = .returned (.tuple #[]) ∧ ∃ u, Wr13 B w w' g base (.slice ta t.length tc) (.slice (some ⟨gN, 0, none⟩) t.length t.length) v u (xs ++ into13 (d + 1) t (a : Int) r (xs.length : Int)) := by
  obtain ⟨hal, -, -, -, -⟩ := end_parts hp
  have hpl : (pts10 t (a : Int)).length = kidsN (t.getD a nd0) := pts_len t a
  have HPo : Hid (∀ X, Below w.heap.size w X → Calls Tryz.prog 43 #[.slice ta t.length tc, .int .i64 (a : Int)] X fun e w' => ∃ pa pc gp, e = .returned (.slice pa (kidsN (t.getD a nd0)) pc) ∧ Pp13 X w' pa gp (kidsN (t.getD a nd0)) (pts10 t (a : Int)) ∧ Below X.heap.size X w') := fun X hb => by
    have hBX : Below B.heap.size B X := (hw.below hb).bB
    have h := implPartsOf ta t.length tc t (a : Int) X (hin.below hBX) hint hsh (by omega) (by omega)
    rw [parts_at htb hal, hpl] at h
    refine h.mono ?_
    rintro e w' ⟨pv, rfl, hpv, hb2⟩
    obtain ⟨pa, pc, gp, rfl, hpp⟩ := Pp13.of (w := X) hpv hpl (Nat.le_refl _)
    exact ⟨pa, pc, gp, rfl, hpp, hb2⟩
  have hs1 := (hsh a).1
  have hs2 := (hsh a).2
  have HGN : Hid (∀ b, w.heap.size ≤ b → b ≠ g ∧ v.ownBlock ≠ some b) := fun b hb => ⟨fun e => by have := hw.lt; omega, fun e => by have := (hw.row.lt b e).2; omega⟩
  have hmem : t.getD a nd0 ∈ t := by simp [List.getD, hal]
  have hk3 : kidsN (t.getD a nd0) ≤ 3 := (kidsV_ok ((treeB_one.1 htb).2.good12 _ hmem)).2
  have HT : Hid (∀ X pa gp pc, Below w.heap.size w X → w.heap.size ≤ gp → gp < X.heap.size → (0 < kidsN (t.getD a nd0) → pa = some ⟨gp, 0, none⟩) → (∀ j, j < kidsN (t.getD a nd0) → X.cell? ⟨gp, j, none⟩ = some (.int .i64 ((pts10 t (a : Int)).getD j 0))) → Calls Tryz.prog 45 #[.pointer (some ⟨g, 0, none⟩), .int .i64 r, .agg #[.int .i64 8, .int .i64 (t.getD a nd0).2.1, .string ⟨(t.getD a nd0).2.2.1.toArray⟩, .string ⟨(t.getD a nd0).2.2.2.toArray⟩], .slice pa (kidsN (t.getD a nd0)) pc] X fun e w' => e = .returned (.tuple #[]) ∧ ∃ u, Wr13 B X w' g base (.slice ta t.length tc) (.slice (some ⟨gN, 0, none⟩) t.length t.length) v u (xs ++ into13 (d + 1) t (a : Int) r (xs.length : Int))) := fun X pa gp pc hb hlo hlt hpa hcs => by
    have hr : into13 (d + 1) t (a : Int) r (xs.length : Int) = args13 (into13 d t) (pts10 t (a : Int)) r (xs.length : Int) ++ [(9, r, (t.getD a nd0).2.1, 0, (t.getD a nd0).2.2.1 ++ 46 :: (t.getD a nd0).2.2.2)] := by
      rw [into13, Int.toNat_natCast]
      simp only
      rw [if_neg (by omega), if_neg (by omega), if_neg (by omega), if_pos hk]
    rw [hr]
    exact implCall13 B ta tc t gN g base d htb ih X r v xs (hw.below hb).here 8 (t.getD a nd0).2.1 (t.getD a nd0).2.2.1 (t.getD a nd0).2.2.2 hs1 hs2 pa gp 0 (kidsN (t.getD a nd0)) pc (pts10 t (a : Int)) hpl hk3 hpa (fun j hj => by rw [Nat.zero_add]; exact hcs j hj) hlt (HGN.out gp hlo).1 (HGN.out gp hlo).2 (fun i hi => by
      obtain ⟨p, h1, h2, h3⟩ := need_place hp hi
      exact ⟨p, h1, h3, (end_parts h3).1, by omega⟩) hr0 hr1 hx
  clear ih hk3 hmem
  obtain ⟨bt, ot, rfl, hbt, q0, q1, q2, q3⟩ := (hin.below hw.bB).2 a hal
  obtain ⟨res, hres⟩ : ∃ res, into13 (d + 1) t (a : Int) r (xs.length : Int) = res := ⟨_, rfl⟩
  rw [hres] at HT ⊢
  obtain ⟨n, hn⟩ : ∃ n, t.getD a nd0 = n := ⟨_, rfl⟩
  rw [hn] at q0 q1 q2 q3 hk HPo
  (try rw [hn] at HT)
  obtain ⟨kd, nA, np, nf⟩ := n
  dsimp only at q0 q1 q2 q3 hk
  (try dsimp only at HT)
  subst hk
  have HG : Hid (∀ X, Below w.heap.size w X → X.cell? ⟨g, 0, none⟩ = some (.slice (some ⟨bt, ot, none⟩) t.length tc) ∧ X.cell? ⟨bt, ot + a * 4, none⟩ = some (.int .i64 8) ∧ X.cell? ⟨bt, ot + a * 4 + 1, none⟩ = some (.int .i64 nA) ∧ X.cell? ⟨bt, ot + a * 4 + 2, none⟩ = some (.string ⟨np.toArray⟩) ∧ X.cell? ⟨bt, ot + a * 4 + 3, none⟩ = some (.string ⟨nf.toArray⟩)) := fun X hb =>
    ⟨(hw.below hb).c0, (hb.cell (p := ⟨bt, ot + a * 4, none⟩) hbt).trans q0, (hb.cell (p := ⟨bt, ot + a * 4 + 1, none⟩) hbt).trans q1, (hb.cell (p := ⟨bt, ot + a * 4 + 2, none⟩) hbt).trans q2, (hb.cell (p := ⟨bt, ot + a * 4 + 3, none⟩) hbt).trans q3⟩
  have HW : Hid (Wr13 B w w g base (.slice (some ⟨bt, ot, none⟩) t.length tc) (.slice (some ⟨gN, 0, none⟩) t.length t.length) v v xs) := hw
  have hal2 : (a : Int) < (t.length : Int) := by omega
  generalize kidsN (8, nA, np, nf) = m at *
  generalize pts10 t (a : Int) = ps at *
  clear hw hin hint hsh hlen htb hp hal hpl hx hs1 hs2 hbt hres hn q0 q1 q2 q3 hd hr0 hr1
  go_enter Tryz.func22, Tryz.ntmps22
  go_wp2
  refine wp_region_held_drew (S := fun X => Below w.heap.size w X) (by kernel_rfl) ⟨rfl, rfl, rfl, Nat.le_refl _, fun _ _ => rfl⟩ (fun hHeld => ?_)
  refine wpAnyH_take (i := 0) (oi := ⟨some 8, _, _, _, _, _⟩) (v := ?v43) rfl (by kernel_rfl) (by kernel_rfl) (by kernel_rfl) (fun _ _ _ h => h) (Or.inl ⟨by rfl, ?hy43⟩) (by assumption) ?rest43
  case hy43 => (intro wq hSw; have e0 := (HG.out wq hSw).1; have e1 := (HG.out wq hSw).2.1; have e2 := (HG.out wq hSw).2.2.1; have e3 := (HG.out wq hSw).2.2.2.1; have e4 := (HG.out wq hSw).2.2.2.2; clear hSw; first | (go_simp; done) | (go_simp; with_reducible rfl))
  simp only [Act.put, List.setIfInBounds_toArray, List.set_cons_zero, List.set_cons_succ]
  refine wpAnyH_take (i := 1) (oi := ⟨some 9, _, _, _, _, _⟩) (v := ?v44) rfl (by kernel_rfl) (by kernel_rfl) (by kernel_rfl) (fun _ _ _ h => h) (Or.inl ⟨by rfl, ?hy44⟩) (by assumption) ?rest44
  case hy44 => (intro wq hSw; have e0 := (HG.out wq hSw).1; have e1 := (HG.out wq hSw).2.1; have e2 := (HG.out wq hSw).2.2.1; have e3 := (HG.out wq hSw).2.2.2.1; have e4 := (HG.out wq hSw).2.2.2.2; clear hSw; first | (go_simp; done) | (go_simp; with_reducible rfl))
  simp only [Act.put, List.setIfInBounds_toArray, List.set_cons_zero, List.set_cons_succ]
  refine wpAnyH_take (i := 2) (oi := ⟨some 10, _, _, _, _, _⟩) (v := ?v45) rfl (by kernel_rfl) (by kernel_rfl) (by kernel_rfl) (fun _ _ _ h => h) (Or.inl ⟨by rfl, ?hy45⟩) (by assumption) ?rest45
  case hy45 => (intro wq hSw; have e0 := (HG.out wq hSw).1; have e1 := (HG.out wq hSw).2.1; have e2 := (HG.out wq hSw).2.2.1; have e3 := (HG.out wq hSw).2.2.2.1; have e4 := (HG.out wq hSw).2.2.2.2; clear hSw; first | (go_simp; done) | (go_simp; with_reducible rfl))
  simp only [Act.put, List.setIfInBounds_toArray, List.set_cons_zero, List.set_cons_succ]
  refine wpAnyH_take (i := 3) (oi := ⟨some 11, _, _, _, _, _⟩) (v := ?v46) rfl (by kernel_rfl) (by kernel_rfl) (by kernel_rfl) (fun _ _ _ h => h) (Or.inl ⟨by rfl, ?hy46⟩) (by assumption) ?rest46
  case hy46 => (intro wq hSw; have e0 := (HG.out wq hSw).1; have e1 := (HG.out wq hSw).2.1; have e2 := (HG.out wq hSw).2.2.1; have e3 := (HG.out wq hSw).2.2.2.1; have e4 := (HG.out wq hSw).2.2.2.2; clear hSw; first | (go_simp; done) | (go_simp; with_reducible rfl))
  simp only [Act.put, List.setIfInBounds_toArray, List.set_cons_zero, List.set_cons_succ]
  refine wpAnyH_take (i := 4) (oi := ⟨some 12, _, _, _, _, _⟩) (v := ?v47) rfl (by kernel_rfl) (by kernel_rfl) (by kernel_rfl) (fun _ _ _ h => h) (Or.inl ⟨by rfl, ?hy47⟩) (by assumption) ?rest47
  case hy47 => (intro wq hSw; have e0 := (HG.out wq hSw).1; have e1 := (HG.out wq hSw).2.1; have e2 := (HG.out wq hSw).2.2.1; have e3 := (HG.out wq hSw).2.2.2.1; have e4 := (HG.out wq hSw).2.2.2.2; clear hSw; first | (go_simp; done) | (go_simp; with_reducible rfl))
  simp only [Act.put, List.setIfInBounds_toArray, List.set_cons_zero, List.set_cons_succ]
  refine wpAnyH_take (i := 5) (oi := ⟨some 13, _, _, _, _, _⟩) (v := ?v48) rfl (by kernel_rfl) (by kernel_rfl) (by kernel_rfl) (fun _ _ _ h => h) (Or.inl ⟨by rfl, ?hy48⟩) (by assumption) ?rest48
  case hy48 => (intro wq hSw; have e0 := (HG.out wq hSw).1; have e1 := (HG.out wq hSw).2.1; have e2 := (HG.out wq hSw).2.2.1; have e3 := (HG.out wq hSw).2.2.2.1; have e4 := (HG.out wq hSw).2.2.2.2; clear hSw; first | (go_simp; done) | (go_simp; with_reducible rfl))
  simp only [Act.put, List.setIfInBounds_toArray, List.set_cons_zero, List.set_cons_succ]
  refine wpAnyH_take (i := 6) (oi := ⟨some 14, _, _, _, _, _⟩) (v := ?v49) rfl (by kernel_rfl) (by kernel_rfl) (by kernel_rfl) (fun _ _ _ h => h) (Or.inl ⟨by rfl, ?hy49⟩) (by assumption) ?rest49
  case hy49 => (intro wq hSw; have e0 := (HG.out wq hSw).1; have e1 := (HG.out wq hSw).2.1; have e2 := (HG.out wq hSw).2.2.1; have e3 := (HG.out wq hSw).2.2.2.1; have e4 := (HG.out wq hSw).2.2.2.2; clear hSw; first | (go_simp; done) | (go_simp; with_reducible rfl))
  simp only [Act.put, List.setIfInBounds_toArray, List.set_cons_zero, List.set_cons_succ]
  refine wpAnyH_take (i := 7) (oi := ⟨some 15, _, _, _, _, _⟩) (v := ?v50) rfl (by kernel_rfl) (by kernel_rfl) (by kernel_rfl) (fun _ _ _ h => h) (Or.inl ⟨by rfl, ?hy50⟩) (by assumption) ?rest50
  case hy50 => (intro wq hSw; have e0 := (HG.out wq hSw).1; have e1 := (HG.out wq hSw).2.1; have e2 := (HG.out wq hSw).2.2.1; have e3 := (HG.out wq hSw).2.2.2.1; have e4 := (HG.out wq hSw).2.2.2.2; clear hSw; first | (go_simp; done) | (go_simp; with_reducible rfl))
  simp only [Act.put, List.setIfInBounds_toArray, List.set_cons_zero, List.set_cons_succ]
  refine wpAnyH_take (i := 8) (oi := ⟨some 16, _, _, _, _, _⟩) (v := ?v51) rfl (by kernel_rfl) (by kernel_rfl) (by kernel_rfl) (fun _ _ _ h => h) (Or.inl ⟨by rfl, ?hy51⟩) (by assumption) ?rest51
  case hy51 => (intro wq hSw; have e0 := (HG.out wq hSw).1; have e1 := (HG.out wq hSw).2.1; have e2 := (HG.out wq hSw).2.2.1; have e3 := (HG.out wq hSw).2.2.2.1; have e4 := (HG.out wq hSw).2.2.2.2; clear hSw; first | (go_simp; done) | (go_simp; with_reducible rfl))
  simp only [Act.put, List.setIfInBounds_toArray, List.set_cons_zero, List.set_cons_succ]
  refine wpAnyH_take (i := 9) (oi := ⟨some 17, _, _, _, _, _⟩) (v := ?v52) rfl (by kernel_rfl) (by kernel_rfl) (by kernel_rfl) (fun _ _ _ h => h) (Or.inl ⟨by rfl, ?hy52⟩) (by assumption) ?rest52
  case hy52 => (intro wq hSw; have e0 := (HG.out wq hSw).1; have e1 := (HG.out wq hSw).2.1; have e2 := (HG.out wq hSw).2.2.1; have e3 := (HG.out wq hSw).2.2.2.1; have e4 := (HG.out wq hSw).2.2.2.2; clear hSw; first | (go_simp; done) | (go_simp; with_reducible rfl))
  simp only [Act.put, List.setIfInBounds_toArray, List.set_cons_zero, List.set_cons_succ]
  refine wpAnyH_take (i := 10) (oi := ⟨some 18, _, _, _, _, _⟩) (v := ?v53) rfl (by kernel_rfl) (by kernel_rfl) (by kernel_rfl) (fun _ _ _ h => h) (Or.inl ⟨by rfl, ?hy53⟩) (by assumption) ?rest53
  case hy53 => (intro wq hSw; have e0 := (HG.out wq hSw).1; have e1 := (HG.out wq hSw).2.1; have e2 := (HG.out wq hSw).2.2.1; have e3 := (HG.out wq hSw).2.2.2.1; have e4 := (HG.out wq hSw).2.2.2.2; clear hSw; first | (go_simp; done) | (go_simp; with_reducible rfl))
  simp only [Act.put, List.setIfInBounds_toArray, List.set_cons_zero, List.set_cons_succ]
  refine wpAnyH_take (i := 11) (oi := ⟨some 19, _, _, _, _, _⟩) (v := ?v54) rfl (by kernel_rfl) (by kernel_rfl) (by kernel_rfl) (fun _ _ _ h => h) (Or.inl ⟨by rfl, ?hy54⟩) (by assumption) ?rest54
  case hy54 => (intro wq hSw; have e0 := (HG.out wq hSw).1; have e1 := (HG.out wq hSw).2.1; have e2 := (HG.out wq hSw).2.2.1; have e3 := (HG.out wq hSw).2.2.2.1; have e4 := (HG.out wq hSw).2.2.2.2; clear hSw; first | (go_simp; done) | (go_simp; with_reducible rfl))
  simp only [Act.put, List.setIfInBounds_toArray, List.set_cons_zero, List.set_cons_succ]
  refine wpAnyH_ready (rs := [12, 13]) (by kernel_rfl) (by simp) ?_
  refine AllReadyH.cons rfl (fun K hK => ?_) (AllReadyH.cons rfl (fun K hK => ?_) AllReadyH.nil)
  ·
    have hlw := hHeld.size
    go_simp
    refine Calls.mono (HPo.out _ hHeld) ?_
    rintro e W1 ⟨pa, pc, gp, rfl, hpp, hb1⟩
    dsimp only
    refine hK.out _ _ (by exact hHeld.trans (hb1.mono hHeld.size)) (fun hHeld => ?_)
    clear hK K
    (try simp only [Act.put, List.setIfInBounds_toArray, List.set_cons_zero, List.set_cons_succ])
    refine wpAnyH_ready (rs := [13]) (by kernel_rfl) (by simp) ?_
    refine AllReadyH.cons rfl (fun K hK => ?_) AllReadyH.nil
    refine step_of_wp rfl (wp_alloc_nd rfl 6 rfl (fun Y2 gn hR2 hB2 hG2 => ?_))
    have hlo : w.heap.size ≤ gn := Nat.le_trans hHeld.size hG2
    have hne : 0 < m → gp ≠ gn := fun hm => by have := hpp.lt hm; omega
    replace hpp := (hpp.below hB2).low (w := w) hlw
    refine hK.out _ _ (by exact hHeld.trans (hB2.mono hHeld.size)) (fun hHeld => ?_)
    clear hK K
    (try simp only [Act.put, List.setIfInBounds_toArray, List.set_cons_zero, List.set_cons_succ])
    refine wpAnyH_ready (rs := [14]) (by kernel_rfl) (by simp) ?_
    refine AllReadyH.cons rfl (fun K hK => ?_) AllReadyH.nil
    refine step_of_wp rfl (wp_store_nd _ _ rfl gn 8 nA np nf rfl rfl hR2 (fun Y3 hR3 hG3 => ?_))
    refine hK.out _ _ (by exact hHeld.grown hG3 hHeld.size (fun q e => by injection e with e; omega)) (fun hHeld => ?_)
    clear hK K
    (try simp only [Act.put])
    replace hpp := hpp.keep (fun hm => hG3.block gp (hpp.lt hm) (by intro e; injection e with e; exact absurd e (hne hm))) hG3.size
    refine wpAnyH_take (i := 15) (oi := ⟨some 7, _, _, _, _, _⟩) (v := ?v55) rfl (by kernel_rfl) (by kernel_rfl) (by kernel_rfl) (fun _ _ _ h => h) (Or.inl ⟨by rfl, ?hy55⟩) (by assumption) ?rest55
    case hy55 => (intro wq hSw; clear hSw; first | (go_simp; done) | (go_simp; with_reducible rfl))
    simp only [Act.put, List.setIfInBounds_toArray]
    have it : Hid (It13 w Y3 gn 8 nA np nf pa gp m ps) := ⟨hHeld, hR3, hlo, hpp⟩
    refine wpAnyH_done (by kernel_rfl) ?_ _
    clear hHeld hR2 hR3 hG3 hpp hB2 hG2 hb1 hne hlo hlw HPo HG
    have k0 : Y3.cell? ⟨gn, 0, none⟩ = some (.int .i64 8) := it.out.n.cell 0 _ rfl
    have k1 : Y3.cell? ⟨gn, 1, none⟩ = some (.int .i64 nA) := it.out.n.cell 1 _ rfl
    have k2 : Y3.cell? ⟨gn, 2, none⟩ = some (.string ⟨np.toArray⟩) := it.out.n.cell 2 _ rfl
    have k3 : Y3.cell? ⟨gn, 3, none⟩ = some (.string ⟨nf.toArray⟩) := it.out.n.cell 3 _ rfl
    have HC : Hid (Calls Tryz.prog 45 #[.pointer (some ⟨g, 0, none⟩), .int .i64 r, .agg #[.int .i64 8, .int .i64 nA, .string ⟨np.toArray⟩, .string ⟨nf.toArray⟩], .slice pa m pc] Y3 fun e w' => e = .returned (.tuple #[]) ∧ ∃ u, Wr13 B Y3 w' g base (.slice (some ⟨bt, ot, none⟩) t.length tc) (.slice (some ⟨gN, 0, none⟩) t.length t.length) v u (xs ++ res)) := by
      by_cases hm0 : 0 < m
      · exact HT.out Y3 pa gp pc it.out.b (it.out.pp.lo hm0) (it.out.pp.lt hm0) it.out.pp.pa it.out.pp.cs
      · exact HT.out Y3 pa gn pc it.out.b it.out.lo it.out.n.lt (fun h => absurd h hm0) (fun j hj => by omega)
    go_wp2_with fail
    refine Calls.mono HC.out ?_
    rintro e W5 ⟨rfl, u, hw5⟩
    have HF : Hid (_) := (HW.out.below it.out.b).trans hw5
    clear hw5 it HT k0 k1 k2 k3 HC
    go_wp2
    go_end0
    exact ⟨rfl, u, HF.out⟩
  ·
    refine step_of_wp rfl (wp_alloc_nd rfl 6 rfl (fun Y2 gn hR2 hB2 hG2 => ?_))
    have hlo : w.heap.size ≤ gn := Nat.le_trans hHeld.size hG2
    refine hK.out _ _ (by exact hHeld.trans (hB2.mono hHeld.size)) (fun hHeld => ?_)
    clear hK K
    (try simp only [Act.put, List.setIfInBounds_toArray, List.set_cons_zero, List.set_cons_succ])
    refine wpAnyH_ready (rs := [12]) (by kernel_rfl) (by simp) ?_
    refine AllReadyH.cons rfl (fun K hK => ?_) AllReadyH.nil
    have hlw := hHeld.size
    go_simp
    refine Calls.mono (HPo.out _ hHeld) ?_
    rintro e W1 ⟨pa, pc, gp, rfl, hpp, hb1⟩
    dsimp only
    have hne : 0 < m → gp ≠ gn := fun hm e => by have h1 := hpp.lo hm; have h2 := hR2.lt; omega
    replace hR2 := hR2.below hb1
    replace hpp := hpp.low (w := w) hlw
    refine hK.out _ _ (by exact hHeld.trans (hb1.mono hHeld.size)) (fun hHeld => ?_)
    clear hK K
    (try simp only [Act.put, List.setIfInBounds_toArray, List.set_cons_zero, List.set_cons_succ])
    refine wpAnyH_ready (rs := [14]) (by kernel_rfl) (by simp) ?_
    refine AllReadyH.cons rfl (fun K hK => ?_) AllReadyH.nil
    refine step_of_wp rfl (wp_store_nd _ _ rfl gn 8 nA np nf rfl rfl hR2 (fun Y3 hR3 hG3 => ?_))
    refine hK.out _ _ (by exact hHeld.grown hG3 hHeld.size (fun q e => by injection e with e; omega)) (fun hHeld => ?_)
    clear hK K
    (try simp only [Act.put])
    replace hpp := hpp.keep (fun hm => hG3.block gp (hpp.lt hm) (by intro e; injection e with e; exact absurd e (hne hm))) hG3.size
    refine wpAnyH_take (i := 15) (oi := ⟨some 7, _, _, _, _, _⟩) (v := ?v56) rfl (by kernel_rfl) (by kernel_rfl) (by kernel_rfl) (fun _ _ _ h => h) (Or.inl ⟨by rfl, ?hy56⟩) (by assumption) ?rest56
    case hy56 => (intro wq hSw; clear hSw; first | (go_simp; done) | (go_simp; with_reducible rfl))
    simp only [Act.put, List.setIfInBounds_toArray]
    have it : Hid (It13 w Y3 gn 8 nA np nf pa gp m ps) := ⟨hHeld, hR3, hlo, hpp⟩
    refine wpAnyH_done (by kernel_rfl) ?_ _
    clear hHeld hR2 hR3 hG3 hpp hB2 hG2 hb1 hne hlo hlw HPo HG
    have k0 : Y3.cell? ⟨gn, 0, none⟩ = some (.int .i64 8) := it.out.n.cell 0 _ rfl
    have k1 : Y3.cell? ⟨gn, 1, none⟩ = some (.int .i64 nA) := it.out.n.cell 1 _ rfl
    have k2 : Y3.cell? ⟨gn, 2, none⟩ = some (.string ⟨np.toArray⟩) := it.out.n.cell 2 _ rfl
    have k3 : Y3.cell? ⟨gn, 3, none⟩ = some (.string ⟨nf.toArray⟩) := it.out.n.cell 3 _ rfl
    have HC : Hid (Calls Tryz.prog 45 #[.pointer (some ⟨g, 0, none⟩), .int .i64 r, .agg #[.int .i64 8, .int .i64 nA, .string ⟨np.toArray⟩, .string ⟨nf.toArray⟩], .slice pa m pc] Y3 fun e w' => e = .returned (.tuple #[]) ∧ ∃ u, Wr13 B Y3 w' g base (.slice (some ⟨bt, ot, none⟩) t.length tc) (.slice (some ⟨gN, 0, none⟩) t.length t.length) v u (xs ++ res)) := by
      by_cases hm0 : 0 < m
      · exact HT.out Y3 pa gp pc it.out.b (it.out.pp.lo hm0) (it.out.pp.lt hm0) it.out.pp.pa it.out.pp.cs
      · exact HT.out Y3 pa gn pc it.out.b it.out.lo it.out.n.lt (fun h => absurd h hm0) (fun j hj => by omega)
    go_wp2_with fail
    refine Calls.mono HC.out ?_
    rintro e W5 ⟨rfl, u, hw5⟩
    have HF : Hid (_) := (HW.out.below it.out.b).trans hw5
    clear hw5 it HT k0 k1 k2 k3 HC
    go_wp2
    go_end0
    exact ⟨rfl, u, HF.out⟩
set_option maxHeartbeats 8000000 in
set_option maxRecDepth 100000 in
theorem implInto3 (B : World) (ta : Option Addr) (tc : Nat) (t : List Nd) (gN g base d : Nat) (hin : NodesIn B ta t.length t) (hint : IntT t) (hsh : ShortT t) (hlen : t.length ≤ 60) (htb : treeB t = true) (hnd : NdIn B gN t) (ih : IntW B ta tc t gN g base d) (w : World) (a : Nat) (r : Int) (v : Value) (xs : List In13) (hw : Wr13 B w w g base (.slice ta t.length tc) (.slice (some ⟨gN, 0, none⟩) t.length t.length) v v xs) (hp : 0 ≤ endV t (a : Int)) (hd : t.length ≤ a + (d + 1)) (hr0 : 0 ≤ r) (hr1 : r + 3 * ((d + 1 : Nat) : Int) ≤ 1000) (hx : xs.length + 400 * (d + 1) ≤ 100000) (hk : 3 ≤ (t.getD a nd0).1 ∧ (t.getD a nd0).1 ≤ 6) :
    Calls Tryz.prog 22 #[.pointer (some ⟨g, 0, none⟩), .int .i64 r, .int .i64 (a : Int)] w fun e w' => e = .returned (.tuple #[]) ∧ ∃ u, Wr13 B w w' g base (.slice ta t.length tc) (.slice (some ⟨gN, 0, none⟩) t.length t.length) v u (xs ++ into13 (d + 1) t (a : Int) r (xs.length : Int)) := by
  obtain ⟨hal, -, -, -, -⟩ := end_parts hp
  have hpl : (pts10 t (a : Int)).length = kidsN (t.getD a nd0) := pts_len t a
  have HPo : Hid (∀ X, Below w.heap.size w X → Calls Tryz.prog 43 #[.slice ta t.length tc, .int .i64 (a : Int)] X fun e w' => ∃ pa pc gp, e = .returned (.slice pa (kidsN (t.getD a nd0)) pc) ∧ Pp13 X w' pa gp (kidsN (t.getD a nd0)) (pts10 t (a : Int)) ∧ Below X.heap.size X w') := fun X hb => by
    have hBX : Below B.heap.size B X := (hw.below hb).bB
    have h := implPartsOf ta t.length tc t (a : Int) X (hin.below hBX) hint hsh (by omega) (by omega)
    rw [parts_at htb hal, hpl] at h
    refine h.mono ?_
    rintro e w' ⟨pv, rfl, hpv, hb2⟩
    obtain ⟨pa, pc, gp, rfl, hpp⟩ := Pp13.of (w := X) hpv hpl (Nat.le_refl _)
    exact ⟨pa, pc, gp, rfl, hpp, hb2⟩
  have hs1 := (hsh a).1
  have hs2 := (hsh a).2
  have HGN : Hid (∀ b, w.heap.size ≤ b → b ≠ g ∧ v.ownBlock ≠ some b) := fun b hb => ⟨fun e => by have := hw.lt; omega, fun e => by have := (hw.row.lt b e).2; omega⟩
  have hk2 : kidsN (t.getD a nd0) = 2 := kids_four hk
  obtain ⟨p0, hp0, hap0, hpe0⟩ := need_place hp (i := 0) (by omega)
  obtain ⟨p1, hp1, hap1, hpe1⟩ := need_place hp (i := 1) (by omega)
  have hl0 : p0 < t.length := (end_parts hpe0).1
  have hl1 : p1 < t.length := (end_parts hpe1).1
  have r0 := nd_range (os := []) htb hl0
  have r1 := nd_range (os := []) htb hl1
  have HT : Hid (∀ X gp pc, Below w.heap.size w X → w.heap.size ≤ gp → X.cell? ⟨gp, 0, none⟩ = some (.int .i64 ((pts10 t (a : Int)).getD 0 0)) → X.cell? ⟨gp, 1, none⟩ = some (.int .i64 ((pts10 t (a : Int)).getD 1 0)) → Calls Tryz.prog 46 #[.pointer (some ⟨g, 0, none⟩), .int .i64 r, .agg #[.int .i64 (t.getD a nd0).1, .int .i64 (t.getD a nd0).2.1, .string ⟨(t.getD a nd0).2.2.1.toArray⟩, .string ⟨(t.getD a nd0).2.2.2.toArray⟩], .slice (some ⟨gp, 0, none⟩) 2 pc] X fun e w' => e = .returned (.tuple #[]) ∧ ∃ u, Wr13 B X w' g base (.slice ta t.length tc) (.slice (some ⟨gN, 0, none⟩) t.length t.length) v u (xs ++ into13 (d + 1) t (a : Int) r (xs.length : Int))) := fun X gp pc hb hlo h0 h1 => by
    rw [hp0] at h0
    rw [hp1] at h1
    rw [into13, Int.toNat_natCast]
    simp only
    rw [if_neg (by omega), if_neg (by omega), if_neg (by omega), if_neg (by omega), hp0, hp1, ← r0.2.2, ← r1.2.2]
    by_cases hc : nd12 t [] p1 ≤ nd12 t [] p0
    · rw [if_pos (by omega)]
      exact implPair0 B ta tc t gN g base d hnd htb ih X r v xs (hw.below hb).here (t.getD a nd0).1 (t.getD a nd0).2.1 (t.getD a nd0).2.2.1 (t.getD a nd0).2.2.2 gp 0 pc p0 p1 h0 h1 (HGN.out gp hlo).1 (HGN.out gp hlo).2 hpe0 hpe1 (by omega) (by omega) hl0 hl1 hr0 hr1 hx (by unfold fo13; rw [if_pos (decide_eq_true ((first_gr r0.1).2 hc))])
    · rw [if_neg (by omega)]
      exact implPair1 B ta tc t gN g base d hnd htb ih X r v xs (hw.below hb).here (t.getD a nd0).1 (t.getD a nd0).2.1 (t.getD a nd0).2.2.1 (t.getD a nd0).2.2.2 gp 0 pc p0 p1 h0 h1 (HGN.out gp hlo).1 (HGN.out gp hlo).2 hpe0 hpe1 (by omega) (by omega) hl0 hl1 hr0 hr1 hx (by unfold fo13; rw [if_neg (fun e => hc ((first_gr r0.1).1 (of_decide_eq_true e)))])
  clear hp0 hp1 hpe0 hpe1 hl0 hl1 hap0 hap1 r0 r1 hk2 ih hnd
  obtain ⟨bt, ot, rfl, hbt, q0, q1, q2, q3⟩ := (hin.below hw.bB).2 a hal
  obtain ⟨res, hres⟩ : ∃ res, into13 (d + 1) t (a : Int) r (xs.length : Int) = res := ⟨_, rfl⟩
  rw [hres] at HT ⊢
  obtain ⟨n, hn⟩ : ∃ n, t.getD a nd0 = n := ⟨_, rfl⟩
  rw [hn] at q0 q1 q2 q3 hk HPo
  (try rw [hn] at HT)
  obtain ⟨kd, nA, np, nf⟩ := n
  dsimp only at q0 q1 q2 q3 hk
  (try dsimp only at HT)
  have HG : Hid (∀ X, Below w.heap.size w X → X.cell? ⟨g, 0, none⟩ = some (.slice (some ⟨bt, ot, none⟩) t.length tc) ∧ X.cell? ⟨bt, ot + a * 4, none⟩ = some (.int .i64 kd) ∧ X.cell? ⟨bt, ot + a * 4 + 1, none⟩ = some (.int .i64 nA) ∧ X.cell? ⟨bt, ot + a * 4 + 2, none⟩ = some (.string ⟨np.toArray⟩) ∧ X.cell? ⟨bt, ot + a * 4 + 3, none⟩ = some (.string ⟨nf.toArray⟩)) := fun X hb =>
    ⟨(hw.below hb).c0, (hb.cell (p := ⟨bt, ot + a * 4, none⟩) hbt).trans q0, (hb.cell (p := ⟨bt, ot + a * 4 + 1, none⟩) hbt).trans q1, (hb.cell (p := ⟨bt, ot + a * 4 + 2, none⟩) hbt).trans q2, (hb.cell (p := ⟨bt, ot + a * 4 + 3, none⟩) hbt).trans q3⟩
  have HW : Hid (Wr13 B w w g base (.slice (some ⟨bt, ot, none⟩) t.length tc) (.slice (some ⟨gN, 0, none⟩) t.length t.length) v v xs) := hw
  have hal2 : (a : Int) < (t.length : Int) := by omega
  rw [show kidsN (kd, nA, np, nf) = 2 from kids_four hk] at HPo
  have d1 : (kd == 1) = false := beq_eq_false_iff_ne.2 (by omega)
  have d2 : (kd == 2) = false := beq_eq_false_iff_ne.2 (by omega)
  have d7 : (kd == 7) = false := beq_eq_false_iff_ne.2 (by omega)
  have d8 : (kd == 8) = false := beq_eq_false_iff_ne.2 (by omega)
  generalize pts10 t (a : Int) = ps at *
  clear hw hin hint hsh hlen htb hp hal hpl hx hs1 hs2 hbt hres hn q0 q1 q2 q3 hd hr0 hr1 hk
  go_enter Tryz.func22, Tryz.ntmps22
  go_wp2
  refine wp_region_held_drew (S := fun X => Below w.heap.size w X) (by kernel_rfl) ⟨rfl, rfl, rfl, Nat.le_refl _, fun _ _ => rfl⟩ (fun hHeld => ?_)
  refine wpAnyH_take (i := 0) (oi := ⟨some 8, _, _, _, _, _⟩) (v := ?v57) rfl (by kernel_rfl) (by kernel_rfl) (by kernel_rfl) (fun _ _ _ h => h) (Or.inl ⟨by rfl, ?hy57⟩) (by assumption) ?rest57
  case hy57 => (intro wq hSw; have e0 := (HG.out wq hSw).1; have e1 := (HG.out wq hSw).2.1; have e2 := (HG.out wq hSw).2.2.1; have e3 := (HG.out wq hSw).2.2.2.1; have e4 := (HG.out wq hSw).2.2.2.2; clear hSw; first | (go_simp; done) | (go_simp; with_reducible rfl))
  simp only [Act.put, List.setIfInBounds_toArray, List.set_cons_zero, List.set_cons_succ]
  refine wpAnyH_take (i := 1) (oi := ⟨some 9, _, _, _, _, _⟩) (v := ?v58) rfl (by kernel_rfl) (by kernel_rfl) (by kernel_rfl) (fun _ _ _ h => h) (Or.inl ⟨by rfl, ?hy58⟩) (by assumption) ?rest58
  case hy58 => (intro wq hSw; have e0 := (HG.out wq hSw).1; have e1 := (HG.out wq hSw).2.1; have e2 := (HG.out wq hSw).2.2.1; have e3 := (HG.out wq hSw).2.2.2.1; have e4 := (HG.out wq hSw).2.2.2.2; clear hSw; first | (go_simp; done) | (go_simp; with_reducible rfl))
  simp only [Act.put, List.setIfInBounds_toArray, List.set_cons_zero, List.set_cons_succ]
  refine wpAnyH_take (i := 2) (oi := ⟨some 10, _, _, _, _, _⟩) (v := ?v59) rfl (by kernel_rfl) (by kernel_rfl) (by kernel_rfl) (fun _ _ _ h => h) (Or.inl ⟨by rfl, ?hy59⟩) (by assumption) ?rest59
  case hy59 => (intro wq hSw; have e0 := (HG.out wq hSw).1; have e1 := (HG.out wq hSw).2.1; have e2 := (HG.out wq hSw).2.2.1; have e3 := (HG.out wq hSw).2.2.2.1; have e4 := (HG.out wq hSw).2.2.2.2; clear hSw; first | (go_simp; done) | (go_simp; with_reducible rfl))
  simp only [Act.put, List.setIfInBounds_toArray, List.set_cons_zero, List.set_cons_succ]
  refine wpAnyH_take (i := 3) (oi := ⟨some 11, _, _, _, _, _⟩) (v := ?v60) rfl (by kernel_rfl) (by kernel_rfl) (by kernel_rfl) (fun _ _ _ h => h) (Or.inl ⟨by rfl, ?hy60⟩) (by assumption) ?rest60
  case hy60 => (intro wq hSw; have e0 := (HG.out wq hSw).1; have e1 := (HG.out wq hSw).2.1; have e2 := (HG.out wq hSw).2.2.1; have e3 := (HG.out wq hSw).2.2.2.1; have e4 := (HG.out wq hSw).2.2.2.2; clear hSw; first | (go_simp; done) | (go_simp; with_reducible rfl))
  simp only [Act.put, List.setIfInBounds_toArray, List.set_cons_zero, List.set_cons_succ]
  refine wpAnyH_take (i := 4) (oi := ⟨some 12, _, _, _, _, _⟩) (v := ?v61) rfl (by kernel_rfl) (by kernel_rfl) (by kernel_rfl) (fun _ _ _ h => h) (Or.inl ⟨by rfl, ?hy61⟩) (by assumption) ?rest61
  case hy61 => (intro wq hSw; have e0 := (HG.out wq hSw).1; have e1 := (HG.out wq hSw).2.1; have e2 := (HG.out wq hSw).2.2.1; have e3 := (HG.out wq hSw).2.2.2.1; have e4 := (HG.out wq hSw).2.2.2.2; clear hSw; first | (go_simp; done) | (go_simp; with_reducible rfl))
  simp only [Act.put, List.setIfInBounds_toArray, List.set_cons_zero, List.set_cons_succ]
  refine wpAnyH_take (i := 5) (oi := ⟨some 13, _, _, _, _, _⟩) (v := ?v62) rfl (by kernel_rfl) (by kernel_rfl) (by kernel_rfl) (fun _ _ _ h => h) (Or.inl ⟨by rfl, ?hy62⟩) (by assumption) ?rest62
  case hy62 => (intro wq hSw; have e0 := (HG.out wq hSw).1; have e1 := (HG.out wq hSw).2.1; have e2 := (HG.out wq hSw).2.2.1; have e3 := (HG.out wq hSw).2.2.2.1; have e4 := (HG.out wq hSw).2.2.2.2; clear hSw; first | (go_simp; done) | (go_simp; with_reducible rfl))
  simp only [Act.put, List.setIfInBounds_toArray, List.set_cons_zero, List.set_cons_succ]
  refine wpAnyH_take (i := 6) (oi := ⟨some 14, _, _, _, _, _⟩) (v := ?v63) rfl (by kernel_rfl) (by kernel_rfl) (by kernel_rfl) (fun _ _ _ h => h) (Or.inl ⟨by rfl, ?hy63⟩) (by assumption) ?rest63
  case hy63 => (intro wq hSw; have e0 := (HG.out wq hSw).1; have e1 := (HG.out wq hSw).2.1; have e2 := (HG.out wq hSw).2.2.1; have e3 := (HG.out wq hSw).2.2.2.1; have e4 := (HG.out wq hSw).2.2.2.2; clear hSw; first | (go_simp; done) | (go_simp; with_reducible rfl))
  simp only [Act.put, List.setIfInBounds_toArray, List.set_cons_zero, List.set_cons_succ]
  refine wpAnyH_take (i := 7) (oi := ⟨some 15, _, _, _, _, _⟩) (v := ?v64) rfl (by kernel_rfl) (by kernel_rfl) (by kernel_rfl) (fun _ _ _ h => h) (Or.inl ⟨by rfl, ?hy64⟩) (by assumption) ?rest64
  case hy64 => (intro wq hSw; have e0 := (HG.out wq hSw).1; have e1 := (HG.out wq hSw).2.1; have e2 := (HG.out wq hSw).2.2.1; have e3 := (HG.out wq hSw).2.2.2.1; have e4 := (HG.out wq hSw).2.2.2.2; clear hSw; first | (go_simp; done) | (go_simp; with_reducible rfl))
  simp only [Act.put, List.setIfInBounds_toArray, List.set_cons_zero, List.set_cons_succ]
  refine wpAnyH_take (i := 8) (oi := ⟨some 16, _, _, _, _, _⟩) (v := ?v65) rfl (by kernel_rfl) (by kernel_rfl) (by kernel_rfl) (fun _ _ _ h => h) (Or.inl ⟨by rfl, ?hy65⟩) (by assumption) ?rest65
  case hy65 => (intro wq hSw; have e0 := (HG.out wq hSw).1; have e1 := (HG.out wq hSw).2.1; have e2 := (HG.out wq hSw).2.2.1; have e3 := (HG.out wq hSw).2.2.2.1; have e4 := (HG.out wq hSw).2.2.2.2; clear hSw; first | (go_simp; done) | (go_simp; with_reducible rfl))
  simp only [Act.put, List.setIfInBounds_toArray, List.set_cons_zero, List.set_cons_succ]
  refine wpAnyH_take (i := 9) (oi := ⟨some 17, _, _, _, _, _⟩) (v := ?v66) rfl (by kernel_rfl) (by kernel_rfl) (by kernel_rfl) (fun _ _ _ h => h) (Or.inl ⟨by rfl, ?hy66⟩) (by assumption) ?rest66
  case hy66 => (intro wq hSw; have e0 := (HG.out wq hSw).1; have e1 := (HG.out wq hSw).2.1; have e2 := (HG.out wq hSw).2.2.1; have e3 := (HG.out wq hSw).2.2.2.1; have e4 := (HG.out wq hSw).2.2.2.2; clear hSw; first | (go_simp; done) | (go_simp; with_reducible rfl))
  simp only [Act.put, List.setIfInBounds_toArray, List.set_cons_zero, List.set_cons_succ]
  refine wpAnyH_take (i := 10) (oi := ⟨some 18, _, _, _, _, _⟩) (v := ?v67) rfl (by kernel_rfl) (by kernel_rfl) (by kernel_rfl) (fun _ _ _ h => h) (Or.inl ⟨by rfl, ?hy67⟩) (by assumption) ?rest67
  case hy67 => (intro wq hSw; have e0 := (HG.out wq hSw).1; have e1 := (HG.out wq hSw).2.1; have e2 := (HG.out wq hSw).2.2.1; have e3 := (HG.out wq hSw).2.2.2.1; have e4 := (HG.out wq hSw).2.2.2.2; clear hSw; first | (go_simp; done) | (go_simp; with_reducible rfl))
  simp only [Act.put, List.setIfInBounds_toArray, List.set_cons_zero, List.set_cons_succ]
  refine wpAnyH_take (i := 11) (oi := ⟨some 19, _, _, _, _, _⟩) (v := ?v68) rfl (by kernel_rfl) (by kernel_rfl) (by kernel_rfl) (fun _ _ _ h => h) (Or.inl ⟨by rfl, ?hy68⟩) (by assumption) ?rest68
  case hy68 => (intro wq hSw; have e0 := (HG.out wq hSw).1; have e1 := (HG.out wq hSw).2.1; have e2 := (HG.out wq hSw).2.2.1; have e3 := (HG.out wq hSw).2.2.2.1; have e4 := (HG.out wq hSw).2.2.2.2; clear hSw; first | (go_simp; done) | (go_simp; with_reducible rfl))
  simp only [Act.put, List.setIfInBounds_toArray, List.set_cons_zero, List.set_cons_succ]
  refine wpAnyH_ready (rs := [12, 13]) (by kernel_rfl) (by simp) ?_
  refine AllReadyH.cons rfl (fun K hK => ?_) (AllReadyH.cons rfl (fun K hK => ?_) AllReadyH.nil)
  ·
    have hlw := hHeld.size
    go_simp
    refine Calls.mono (HPo.out _ hHeld) ?_
    rintro e W1 ⟨pa, pc, gp, rfl, hpp, hb1⟩
    dsimp only
    refine hK.out _ _ (by exact hHeld.trans (hb1.mono hHeld.size)) (fun hHeld => ?_)
    clear hK K
    (try simp only [Act.put, List.setIfInBounds_toArray, List.set_cons_zero, List.set_cons_succ])
    refine wpAnyH_ready (rs := [13]) (by kernel_rfl) (by simp) ?_
    refine AllReadyH.cons rfl (fun K hK => ?_) AllReadyH.nil
    refine step_of_wp rfl (wp_alloc_nd rfl 6 rfl (fun Y2 gn hR2 hB2 hG2 => ?_))
    have hlo : w.heap.size ≤ gn := Nat.le_trans hHeld.size hG2
    have hne : 0 < 2 → gp ≠ gn := fun hm => by have := hpp.lt hm; omega
    replace hpp := (hpp.below hB2).low (w := w) hlw
    refine hK.out _ _ (by exact hHeld.trans (hB2.mono hHeld.size)) (fun hHeld => ?_)
    clear hK K
    (try simp only [Act.put, List.setIfInBounds_toArray, List.set_cons_zero, List.set_cons_succ])
    refine wpAnyH_ready (rs := [14]) (by kernel_rfl) (by simp) ?_
    refine AllReadyH.cons rfl (fun K hK => ?_) AllReadyH.nil
    refine step_of_wp rfl (wp_store_nd _ _ rfl gn kd nA np nf rfl rfl hR2 (fun Y3 hR3 hG3 => ?_))
    refine hK.out _ _ (by exact hHeld.grown hG3 hHeld.size (fun q e => by injection e with e; omega)) (fun hHeld => ?_)
    clear hK K
    (try simp only [Act.put])
    replace hpp := hpp.keep (fun hm => hG3.block gp (hpp.lt hm) (by intro e; injection e with e; exact absurd e (hne hm))) hG3.size
    refine wpAnyH_take (i := 15) (oi := ⟨some 7, _, _, _, _, _⟩) (v := ?v69) rfl (by kernel_rfl) (by kernel_rfl) (by kernel_rfl) (fun _ _ _ h => h) (Or.inl ⟨by rfl, ?hy69⟩) (by assumption) ?rest69
    case hy69 => (intro wq hSw; clear hSw; first | (go_simp; done) | (go_simp; with_reducible rfl))
    simp only [Act.put, List.setIfInBounds_toArray]
    have it : Hid (It13 w Y3 gn kd nA np nf pa gp 2 ps) := ⟨hHeld, hR3, hlo, hpp⟩
    refine wpAnyH_done (by kernel_rfl) ?_ _
    clear hHeld hR2 hR3 hG3 hpp hB2 hG2 hb1 hne hlo hlw HPo HG
    have k0 : Y3.cell? ⟨gn, 0, none⟩ = some (.int .i64 kd) := it.out.n.cell 0 _ rfl
    have k1 : Y3.cell? ⟨gn, 1, none⟩ = some (.int .i64 nA) := it.out.n.cell 1 _ rfl
    have k2 : Y3.cell? ⟨gn, 2, none⟩ = some (.string ⟨np.toArray⟩) := it.out.n.cell 2 _ rfl
    have k3 : Y3.cell? ⟨gn, 3, none⟩ = some (.string ⟨nf.toArray⟩) := it.out.n.cell 3 _ rfl
    obtain rfl := it.out.pp.pa (by omega)
    have HC : Hid (_) := HT.out Y3 gp pc it.out.b (it.out.pp.lo (by omega)) (it.out.pp.cs 0 (by omega)) (it.out.pp.cs 1 (by omega))
    go_wp2_with fail
    refine Calls.mono HC.out ?_
    rintro e W5 ⟨rfl, u, hw5⟩
    have HF : Hid (_) := (HW.out.below it.out.b).trans hw5
    clear hw5 it HT k0 k1 k2 k3 HC
    go_wp2
    go_end0
    exact ⟨rfl, u, HF.out⟩
  ·
    refine step_of_wp rfl (wp_alloc_nd rfl 6 rfl (fun Y2 gn hR2 hB2 hG2 => ?_))
    have hlo : w.heap.size ≤ gn := Nat.le_trans hHeld.size hG2
    refine hK.out _ _ (by exact hHeld.trans (hB2.mono hHeld.size)) (fun hHeld => ?_)
    clear hK K
    (try simp only [Act.put, List.setIfInBounds_toArray, List.set_cons_zero, List.set_cons_succ])
    refine wpAnyH_ready (rs := [12]) (by kernel_rfl) (by simp) ?_
    refine AllReadyH.cons rfl (fun K hK => ?_) AllReadyH.nil
    have hlw := hHeld.size
    go_simp
    refine Calls.mono (HPo.out _ hHeld) ?_
    rintro e W1 ⟨pa, pc, gp, rfl, hpp, hb1⟩
    dsimp only
    have hne : 0 < 2 → gp ≠ gn := fun hm e => by have h1 := hpp.lo hm; have h2 := hR2.lt; omega
    replace hR2 := hR2.below hb1
    replace hpp := hpp.low (w := w) hlw
    refine hK.out _ _ (by exact hHeld.trans (hb1.mono hHeld.size)) (fun hHeld => ?_)
    clear hK K
    (try simp only [Act.put, List.setIfInBounds_toArray, List.set_cons_zero, List.set_cons_succ])
    refine wpAnyH_ready (rs := [14]) (by kernel_rfl) (by simp) ?_
    refine AllReadyH.cons rfl (fun K hK => ?_) AllReadyH.nil
    refine step_of_wp rfl (wp_store_nd _ _ rfl gn kd nA np nf rfl rfl hR2 (fun Y3 hR3 hG3 => ?_))
    refine hK.out _ _ (by exact hHeld.grown hG3 hHeld.size (fun q e => by injection e with e; omega)) (fun hHeld => ?_)
    clear hK K
    (try simp only [Act.put])
    replace hpp := hpp.keep (fun hm => hG3.block gp (hpp.lt hm) (by intro e; injection e with e; exact absurd e (hne hm))) hG3.size
    refine wpAnyH_take (i := 15) (oi := ⟨some 7, _, _, _, _, _⟩) (v := ?v70) rfl (by kernel_rfl) (by kernel_rfl) (by kernel_rfl) (fun _ _ _ h => h) (Or.inl ⟨by rfl, ?hy70⟩) (by assumption) ?rest70
    case hy70 => (intro wq hSw; clear hSw; first | (go_simp; done) | (go_simp; with_reducible rfl))
    simp only [Act.put, List.setIfInBounds_toArray]
    have it : Hid (It13 w Y3 gn kd nA np nf pa gp 2 ps) := ⟨hHeld, hR3, hlo, hpp⟩
    refine wpAnyH_done (by kernel_rfl) ?_ _
    clear hHeld hR2 hR3 hG3 hpp hB2 hG2 hb1 hne hlo hlw HPo HG
    have k0 : Y3.cell? ⟨gn, 0, none⟩ = some (.int .i64 kd) := it.out.n.cell 0 _ rfl
    have k1 : Y3.cell? ⟨gn, 1, none⟩ = some (.int .i64 nA) := it.out.n.cell 1 _ rfl
    have k2 : Y3.cell? ⟨gn, 2, none⟩ = some (.string ⟨np.toArray⟩) := it.out.n.cell 2 _ rfl
    have k3 : Y3.cell? ⟨gn, 3, none⟩ = some (.string ⟨nf.toArray⟩) := it.out.n.cell 3 _ rfl
    obtain rfl := it.out.pp.pa (by omega)
    have HC : Hid (_) := HT.out Y3 gp pc it.out.b (it.out.pp.lo (by omega)) (it.out.pp.cs 0 (by omega)) (it.out.pp.cs 1 (by omega))
    go_wp2_with fail
    refine Calls.mono HC.out ?_
    rintro e W5 ⟨rfl, u, hw5⟩
    have HF : Hid (_) := (HW.out.below it.out.b).trans hw5
    clear hw5 it HT k0 k1 k2 k3 HC
    go_wp2
    go_end0
    exact ⟨rfl, u, HF.out⟩
/-- into at every depth. -/
theorem implInto (B : World) (ta : Option Addr) (tc : Nat) (t : List Nd) (gN g base : Nat) (hin : NodesIn B ta t.length t) (hint : IntT t) (hsh : ShortT t) (hlen : t.length ≤ 60) (htb : treeB t = true) (hnd : NdIn B gN t) : ∀ d, IntW B ta tc t gN g base d
  | 0 => fun w a r v xs _ hp hd _ _ _ => by
    have := (end_parts hp).1
    omega
  | d + 1 => fun w a r v xs hw hp hd hr0 hr1 hx => by
    have ih := implInto B ta tc t gN g base hin hint hsh hlen htb hnd d
    have hal := (end_parts hp).1
    have hmem : t.getD a nd0 ∈ t := by simp [List.getD, hal]
    have hk := nodeB_iff.1 ((treeB_one.1 htb).2.good12 _ hmem)
    unfold nodeP at hk
    by_cases h1 : (t.getD a nd0).1 = 1
    · exact implInto1 B ta tc t gN g base d hin hint hsh hlen htb w a r v xs hw hp hx h1
    by_cases h2 : (t.getD a nd0).1 = 2
    · exact implInto2 B ta tc t gN g base d hin hint hsh hlen htb w a r v xs hw hp hx h2
    by_cases h7 : (t.getD a nd0).1 = 7
    · exact implInto7 B ta tc t gN g base d hin hint hsh hlen htb ih w a r v xs hw hp hd hr0 hr1 hx h7
    by_cases h8 : (t.getD a nd0).1 = 8
    · exact implInto8 B ta tc t gN g base d hin hint hsh hlen htb ih w a r v xs hw hp hd hr0 hr1 hx h8
    · exact implInto3 B ta tc t gN g base d hin hint hsh hlen htb hnd ih w a r v xs hw hp hd hr0 hr1 hx (by omega)

end Go.Proofs.YtnpbckgaeaameaaGreat
