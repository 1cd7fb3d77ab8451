/-
  Parts of one proof, one behind the other: DrawI, DrawI2.
-/
import Derived.Test.YtogobeegibngiaaGreatDoorP7
import Derived.Test.YtogobeegibngiaaGreatDoorP5
import Derived.Test.YtogobeegibngiaaGreatDoorP6
import Derived.Deep.MidRow

/-! An instruction is drawn: l13DrawIns, l13DrawAny. -/
namespace Go.Proofs.YtogobeegibngiaaGreatDoor
open Go.RowKit

def insL (k r a b : Int) (s : List UInt8) : List Value := [.int .i64 k, .int .i64 r, .int .i64 a, .int .i64 b, .string ⟨s.toArray⟩]
theorem sizeIns : (Tryz.prog.info? 56).map (·.size) = some 5 := by kernel_rfl
/-- An instruction lies in block D. -/
structure Bi (X : World) (D : Nat) (k r a b : Int) (s : List UInt8) : Prop where
  c0 : X.cell? ⟨D, 0, none⟩ = some (.int .i64 k)
  c1 : X.cell? ⟨D, 1, none⟩ = some (.int .i64 r)
  c2 : X.cell? ⟨D, 2, none⟩ = some (.int .i64 a)
  c3 : X.cell? ⟨D, 3, none⟩ = some (.int .i64 b)
  c4 : X.cell? ⟨D, 4, none⟩ = some (.string ⟨s.toArray⟩)
  fr : ∀ j, X.frozen? ⟨D, j, none⟩ = false
section
variable {X Y : World} {D : Nat} {k r a b : Int} {s : List UInt8}
theorem Bi.lt (h : Bi X D k r a b s) : D < X.heap.size := World.block_lt_of_cell? X ⟨D, 0, none⟩ h.c0
theorem Bi.keep (h : Bi X D k r a b s) (hb : Y.heap[D]? = X.heap[D]?) : Bi Y D k r a b s := by
  have hc : ∀ j, Y.cell? ⟨D, j, none⟩ = X.cell? ⟨D, j, none⟩ := fun j => World.cell?_of_block (a := ⟨D, j, none⟩) hb
  exact ⟨(hc 0).trans h.c0, (hc 1).trans h.c1, (hc 2).trans h.c2, (hc 3).trans h.c3, (hc 4).trans h.c4, fun j => (World.frozen?_of_block (a := ⟨D, j, none⟩) hb).trans (h.fr j)⟩
theorem Bi.kept {row : Option Nat} (h : Bi X D k r a b s) (hg : X.grownBy Y row) (hne : some D ≠ row) : Bi Y D k r a b s := h.keep (hg.block D h.lt hne)
theorem Bi.range (h : Bi X D k r a b s) : X.rangeAt D 0 (insL k r a b s) := fun j v hv => by
  rw [Nat.zero_add]
  match j, hv with
  | 0, hv => injection hv with hv; rw [← hv]; exact h.c0
  | 1, hv => injection hv with hv; rw [← hv]; exact h.c1
  | 2, hv => injection hv with hv; rw [← hv]; exact h.c2
  | 3, hv => injection hv with hv; rw [← hv]; exact h.c3
  | 4, hv => injection hv with hv; rw [← hv]; exact h.c4
  | j + 5, hv => cases hv
theorem Bi.there (h : Bi X D k r a b s) : X.there D 0 5 := fun j hj => by
  rw [Nat.zero_add]
  refine ⟨?_, h.fr j⟩
  have : j = 0 ∨ j = 1 ∨ j = 2 ∨ j = 3 ∨ j = 4 := by omega
  rcases this with rfl | rfl | rfl | rfl | rfl
  · rw [h.c0]; rfl
  · rw [h.c1]; rfl
  · rw [h.c2]; rfl
  · rw [h.c3]; rfl
  · rw [h.c4]; rfl
theorem Bi.of (h : X.rangeAt D 0 (insL k r a b s)) (hf : ∀ j, X.frozen? ⟨D, j, none⟩ = false) : Bi X D k r a b s := by
  have hc : ∀ j v, (insL k r a b s)[j]? = some v → X.cell? ⟨D, j, none⟩ = some v := fun j v hv => by have := h j v hv; rw [Nat.zero_add] at this; exact this
  exact ⟨hc 0 _ rfl, hc 1 _ rfl, hc 2 _ rfl, hc 3 _ rfl, hc 4 _ rfl, hf⟩
theorem Bi.new (w : World) : Bi (w.alloc (.cells #[.int .i64 0, .int .i64 0, .int .i64 0, .int .i64 0, .string ⟨#[]⟩] 56)) w.heap.size 0 0 0 0 [] := by
  have hA := heap_alloc_new w (.cells #[.int .i64 0, .int .i64 0, .int .i64 0, .int .i64 0, .string ⟨#[]⟩] 56)
  refine ⟨?_, ?_, ?_, ?_, ?_, fun j => frozen_of_row _ _ _ _ _ hA⟩ <;> (rw [cell_of_row _ _ _ _ _ _ hA]; rfl)
theorem Bi.setK (h : Bi X D k r a b s) (z : Int) : Bi (X.setCell ⟨D, 0, none⟩ (.int .i64 z)) D z r a b s :=
  ⟨World.cell?_setCell_same _ _ _ h.c0, (World.cell?_setCell_other _ _ _ _ (by simp)).trans h.c1, (World.cell?_setCell_other _ _ _ _ (by simp)).trans h.c2, (World.cell?_setCell_other _ _ _ _ (by simp)).trans h.c3, (World.cell?_setCell_other _ _ _ _ (by simp)).trans h.c4, fun j => by rw [World.frozen?_setCell]; exact h.fr j⟩
theorem Bi.setR (h : Bi X D k r a b s) (z : Int) : Bi (X.setCell ⟨D, 1, none⟩ (.int .i64 z)) D k z a b s :=
  ⟨(World.cell?_setCell_other _ _ _ _ (by simp)).trans h.c0, World.cell?_setCell_same _ _ _ h.c1, (World.cell?_setCell_other _ _ _ _ (by simp)).trans h.c2, (World.cell?_setCell_other _ _ _ _ (by simp)).trans h.c3, (World.cell?_setCell_other _ _ _ _ (by simp)).trans h.c4, fun j => by rw [World.frozen?_setCell]; exact h.fr j⟩
theorem Bi.setA (h : Bi X D k r a b s) (z : Int) : Bi (X.setCell ⟨D, 2, none⟩ (.int .i64 z)) D k r z b s :=
  ⟨(World.cell?_setCell_other _ _ _ _ (by simp)).trans h.c0, (World.cell?_setCell_other _ _ _ _ (by simp)).trans h.c1, World.cell?_setCell_same _ _ _ h.c2, (World.cell?_setCell_other _ _ _ _ (by simp)).trans h.c3, (World.cell?_setCell_other _ _ _ _ (by simp)).trans h.c4, fun j => by rw [World.frozen?_setCell]; exact h.fr j⟩
theorem Bi.setB (h : Bi X D k r a b s) (z : Int) : Bi (X.setCell ⟨D, 3, none⟩ (.int .i64 z)) D k r a z s :=
  ⟨(World.cell?_setCell_other _ _ _ _ (by simp)).trans h.c0, (World.cell?_setCell_other _ _ _ _ (by simp)).trans h.c1, (World.cell?_setCell_other _ _ _ _ (by simp)).trans h.c2, World.cell?_setCell_same _ _ _ h.c3, (World.cell?_setCell_other _ _ _ _ (by simp)).trans h.c4, fun j => by rw [World.frozen?_setCell]; exact h.fr j⟩
theorem Bi.setS (h : Bi X D k r a b s) (z : List UInt8) : Bi (X.setCell ⟨D, 4, none⟩ (.string ⟨z.toArray⟩)) D k r a b z :=
  ⟨(World.cell?_setCell_other _ _ _ _ (by simp)).trans h.c0, (World.cell?_setCell_other _ _ _ _ (by simp)).trans h.c1, (World.cell?_setCell_other _ _ _ _ (by simp)).trans h.c2, (World.cell?_setCell_other _ _ _ _ (by simp)).trans h.c3, World.cell?_setCell_same _ _ _ h.c4, fun j => by rw [World.frozen?_setCell]; exact h.fr j⟩
end
section
variable {ops : Array Oper} {rest : List Oper} {op : Oper} {a : Act} {w : World} {Q : Exit → Act → World → Prop}
theorem list_alloc_ins (hgd : op.guard = none) (ho : op.op = .alloc 56) (d : Nat) (hd : op.dst = some d) (h : ∀ Y g, Bi Y g 0 0 0 0 [] → Below w.heap.size w Y → w.heap.size ≤ g → wpList Tryz.prog ops Q rest (a.put (some d) (.pointer (some ⟨g, 0, none⟩))) Y) : wpList Tryz.prog ops Q (op :: rest) a w := by
  refine wpList_plain hgd fun K hK => ?_
  unfold Oper.wp execOp
  simp only [ho, Instr.alloc, Sem.run_bind, Tryz.zeroValue56, Result.andThen_ok, newVar, newRow, run_newObj_alloc, Sem.run_pure, Value.cells]
  have := hK (a.put (some d) _) _ (h _ _ (Bi.new w) ((Below.refl _ _).alloc (Nat.le_refl _) _) (Nat.le_refl _))
  rw [← hd] at this
  exact this
theorem list_load_ins (hgd : op.guard = none) (x : Operand) (ho : op.op = .load 56 x) (d : Nat) (hd : op.dst = some d) (D : Nat) (k r aa b : Int) (s : List UInt8) (hx : a.eval x = .pointer (some ⟨D, 0, none⟩)) (hc : Bi w D k r aa b s) (h : wpList Tryz.prog ops Q rest (a.put (some d) (insVal (k, r, aa, b, s))) w) : wpList Tryz.prog ops Q (op :: rest) a w :=
  wpList_load_mid hgd _ x ho D 0 hx (insL k r aa b s) _ hc.range Tryz.underlying56 rfl sizeIns (by rw [hd]; exact h)
theorem list_store_ins (hgd : op.guard = none) (x y : Operand) (ho : op.op = .store 56 x y) (D : Nat) (k r aa b : Int) (s : List UInt8) {k0 r0 a0 b0 : Int} {s0 : List UInt8} (hx : a.eval x = .pointer (some ⟨D, 0, none⟩)) (hy : a.eval y = insVal (k, r, aa, b, s)) (hc : Bi w D k0 r0 a0 b0 s0)
    (h : ∀ Y, Bi Y D k r aa b s → w.grownBy Y (some D) → Y.cell? ⟨D, 0, none⟩ = some (.int .i64 k) → Y.cell? ⟨D, 1, none⟩ = some (.int .i64 r) → (∀ j, Y.frozen? ⟨D, j, none⟩ = false) → wpList Tryz.prog ops Q rest (a.put op.dst undef) Y) : wpList Tryz.prog ops Q (op :: rest) a w := by
  refine wpList_store_mid hgd _ x y ho D 0 (insL k r aa b s).toArray hx hy hc.there sizeIns (all_oneCell_toArray (fun v hv => by simp [insL] at hv; rcases hv with rfl | rfl | rfl | rfl | rfl <;> rfl)) ?_
  have hB : Bi (w.setCells D 0 (insL k r aa b s)) D k r aa b s := Bi.of (World.rangeAt_setCells_same w D 0 (insL k r aa b s) hc.there) (fun j => by rw [World.frozen?_setCells]; exact hc.fr j)
  have hg : ∀ (vs : List Value) (o : Nat) (X : World), X.grownBy (X.setCells D o vs) (some D) := fun vs => by
    induction vs with
    | nil => exact fun o X => World.grownBy.refl X _
    | cons v l ih => exact fun o X => (grown_set X D o v).trans (ih (o + 1) _)
  exact h _ hB (hg _ _ _) hB.c0 hB.c1 hB.fr
end
theorem results_ins {fn : Func} {p : Tmp} (h : fn.results = #[.cell p 56]) (tmps : Array Value) (w : World) (D : Nat) (k r a b : Int) (s : List UInt8) (hp : tmps.getD p undef = .pointer (some ⟨D, 0, none⟩)) (hc : Bi w D k r a b s) : (results fn tmps).run Tryz.prog w = .ok (insVal (k, r, a, b, s)) w := by
  have hp' : tmps[p]?.getD undef = .pointer (some ⟨D, 0, none⟩) := by simpa using hp
  have hl : (loadVar 56 ⟨D, 0, none⟩).run Tryz.prog w = .ok (insVal (k, r, a, b, s)) w := run_loadVar_mid (P := Tryz.prog) w D 0 56 (insL k r a b s) _ hc.range Tryz.underlying56 rfl sizeIns
  simp [results, h, hp', asAddr, hl]

/-- What is held while an instruction is drawn. -/
structure Di (w X : World) (B : Nat) (c : Option Addr) (len cap R D : Nat) (k r a b : Int) (s : List UInt8) : Prop where
  cur : Cur X B c len cap
  g : w.grownBy X (some B)
  rs : Bi X R 0 0 0 0 []
  d : Bi X D k r a b s
  br : B < R
  wr : w.heap.size ≤ R
  rd : R < D
section
variable {w X Y : World} {B : Nat} {c : Option Addr} {len cap R D : Nat} {k r a b : Int} {s : List UInt8}
theorem Di.draw (h : Di w X B c len cap R D k r a b s) (hc : Cur Y B c len cap) (hg : X.grownBy Y (some B)) : Di w Y B c len cap R D k r a b s := by
  have := h.br; have := h.rd
  exact ⟨hc, h.g.trans hg, h.rs.kept hg (by simp; omega), h.d.kept hg (by simp; omega), h.br, h.wr, h.rd⟩
theorem Di.alloc (h : Di w X B c len cap R D k r a b s) (o : Obj) : Di w (X.alloc o) B c len cap R D k r a b s := by
  have hg := World.grownBy_alloc X o none
  exact ⟨h.cur.kept hg (by simp), h.g.trans (World.grownBy_alloc X o _), h.rs.kept hg (by simp), h.d.kept hg (by simp), h.br, h.wr, h.rd⟩
theorem Di.at (h : Di w X B c len cap R D k r a b s) {k2 r2 a2 b2 : Int} {s2 : List UInt8} (hg : X.grownBy Y (some D)) (hd : Bi Y D k2 r2 a2 b2 s2) : Di w Y B c len cap R D k2 r2 a2 b2 s2 := by
  have := h.br; have := h.rd; have := h.wr
  have hl := h.g.size
  refine ⟨h.cur.kept hg (fun q e => by injection e with e; omega), ?_, h.rs.kept hg (by simp; omega), hd, h.br, h.wr, h.rd⟩
  exact ⟨hg.os.trans h.g.os, hg.tape.trans h.g.tape, hg.output.trans h.g.output, Nat.le_trans hl hg.size, fun q hq hne => (hg.block q (by omega) (fun e => by injection e with e; omega)).trans (h.g.block q hq hne)⟩
theorem Di.setR (h : Di w X B c len cap R D k r a b s) (z : Int) : Di w (X.setCell ⟨D, 1, none⟩ (.int .i64 z)) B c len cap R D k z a b s := h.at (grown_set _ _ _ _) (h.d.setR z)
theorem Di.setK (h : Di w X B c len cap R D k r a b s) (z : Int) : Di w (X.setCell ⟨D, 0, none⟩ (.int .i64 z)) B c len cap R D z r a b s := h.at (grown_set _ _ _ _) (h.d.setK z)
theorem Di.setA (h : Di w X B c len cap R D k r a b s) (z : Int) : Di w (X.setCell ⟨D, 2, none⟩ (.int .i64 z)) B c len cap R D k r z b s := h.at (grown_set _ _ _ _) (h.d.setA z)
theorem Di.setB (h : Di w X B c len cap R D k r a b s) (z : Int) : Di w (X.setCell ⟨D, 3, none⟩ (.int .i64 z)) B c len cap R D k r a z s := h.at (grown_set _ _ _ _) (h.d.setB z)
theorem Di.setS (h : Di w X B c len cap R D k r a b s) (z : List UInt8) : Di w (X.setCell ⟨D, 4, none⟩ (.string ⟨z.toArray⟩)) B c len cap R D k r a b z := h.at (grown_set _ _ _ _) (h.d.setS z)
/-- The answer is written. -/
theorem Di.done (h : Di w X B c len cap R D k r a b s) (hg : X.grownBy Y (some R)) : Cur Y B c len cap ∧ w.grownBy Y (some B) := by
  have := h.br; have := h.wr
  have hl := h.g.size
  exact ⟨h.cur.kept hg (fun q e => by injection e with e; omega), hg.os.trans h.g.os, hg.tape.trans h.g.tape, hg.output.trans h.g.output, Nat.le_trans hl hg.size, fun q hq hne => (hg.block q (by omega) (fun e => by injection e with e; omega)).trans (h.g.block q hq hne)⟩
end
def SmI (i : In13) : Prop := (-9223372036854775808 ≤ i.1 ∧ i.1 ≤ 1000) ∧ (-1 ≤ i.2.1 ∧ i.2.1 ≤ 64) ∧ (-2147483648 ≤ i.2.2.1 ∧ i.2.2.1 ≤ 2147483647) ∧ (-1 ≤ i.2.2.2.1 ∧ i.2.2.2.1 ≤ 64) ∧ i.2.2.2.2.length ≤ 1000

set_option maxHeartbeats 20000000 in
set_option maxRecDepth 100000 in
theorem drawIns (w : World) (B : Nat) (a : Option Addr) (len cap : Nat) (n : Int) (hn : 0 < n) (hn' : n ≤ 1000) (h : Cur w B a len cap) :
    Calls Tryz.prog 54 #[.pointer (some ⟨B, 0, none⟩), .int .i64 n] w fun e w' => ∃ i : In13, e = .returned (insVal i) ∧ SmI i ∧ Cur w' B a len cap ∧ w.grownBy w' (some B) := by
  go_enter Tryz.func54, Tryz.ntmps54
  go_wp2_with (guard_target = wpList _ _ _ _ _ _; (refine list_alloc_ins rfl rfl 4 rfl (fun W1 R hN1 hB1 hG1 => ?_)))
  have hc1 := h.below hB1
  have hlB := h.lt
  refine (drawBelow _ B a len cap 10 (by omega) (by omega) hc1).mono ?_
  rintro e W2 ⟨x, rfl, hx0, hx1, hc2, hg2⟩
  have hN2 := hN1.kept hg2 (by simp; omega)
  have hw2 : w.grownBy W2 (some B) := ⟨hg2.os.trans hB1.os, hg2.tape.trans hB1.tape, hg2.output.trans hB1.output, Nat.le_trans hB1.size hg2.size, fun q hq hne => (hg2.block q (Nat.lt_of_lt_of_le hq hB1.size) hne).trans (hB1.block q hq)⟩
  clear hc1 hg2 hN1 hB1
  go_wp2_with fail
  refine (drawBelow _ B a len cap 3 (by omega) (by omega) hc2).mono ?_
  rintro e W3 ⟨r, rfl, hr0, hr1, hc3, hg3⟩
  have hN3 := hN2.kept hg3 (by simp; omega)
  have hw3 := hw2.trans hg3
  have hRl := hN3.lt
  clear hc2 hg3 hN2 hw2
  have HK : Hid (x = 0 ∨ x = 1 ∨ x = 2 ∨ x = 3 ∨ x = 4 ∨ x = 5 ∨ x = 6 ∨ x = 7 ∨ x = 8 ∨ x = 9) := by exact (by omega : x = 0 ∨ x = 1 ∨ x = 2 ∨ x = 3 ∨ x = 4 ∨ x = 5 ∨ x = 6 ∨ x = 7 ∨ x = 8 ∨ x = 9)
  clear hx0 hx1
  rcases HK.out with rfl | rfl | rfl | rfl | rfl | rfl | rfl | rfl | rfl | rfl
  · clear HK
    go_wp2_with (guard_target = wpList _ _ _ _ _ _; first | (refine list_alloc_ins rfl rfl 5 rfl (fun W4 D hN4 hB4 hG4 => ?_)) | (refine list_store_ins rfl _ _ rfl _ 1 r 0 0 [] rfl rfl hN4 (fun W5 hN5 hg5 y0 y1 yf => ?_)))
    have s0 : Di w W5 B a len cap R D 1 r 0 0 [] := Di.at (k := 0) (r := 0) (a := 0) (b := 0) (s := []) ⟨hc3.below hB4, ⟨hB4.os.trans hw3.os, hB4.tape.trans hw3.tape, hB4.output.trans hw3.output, Nat.le_trans hw3.size hB4.size, fun q hq hne => (hB4.block q (Nat.lt_of_lt_of_le hq hw3.size)).trans (hw3.block q hq hne)⟩, hN3.keep (hB4.block R hRl), hN4, by omega, hG1, by omega⟩ hg5 hN5
    clear hN3 hN4 hB4 hG4 hN5 hg5 hw3 hc3 y0 y1 yf
    refine (drawWord _ B a len cap s0.cur).mono ?_
    rintro e W6 ⟨z, rfl, hz0, hz1, hcz, hgz⟩
    have s1 := s0.draw hcz hgz
    have y0 := s1.d.c0
    have y1 := s1.d.c1
    have y2 := s1.d.c2
    have y3 := s1.d.c3
    have y4 := s1.d.c4
    have yf := s1.d.fr
    have s2 := s1.setA z
    clear hcz hgz s0
    go_wp2_with (guard_target = wpList _ _ _ _ _ _; first | (refine list_load_ins rfl _ rfl 59 rfl _ 1 r z 0 [] rfl (by exact s2.d) ?_) | (refine list_store_ins rfl _ _ rfl _ 1 r z 0 [] rfl rfl (by exact s2.rs) (fun Z hZ hgZ _ _ _ => ?_)))
    refine bodyPost_ret (v := insVal (1, r, z, 0, [])) (results_ins Tryz.results54 _ _ R 1 r z 0 [] rfl hZ) rfl ?_
    exact ⟨_, rfl, by unfold SmI; refine ⟨?_, ?_, ?_, ?_, ?_⟩ <;> (try simp only) <;> first | omega | simp, (s2.done hgZ).1, (s2.done hgZ).2⟩
  · clear HK
    go_wp2_with (guard_target = wpList _ _ _ _ _ _; first | (refine list_alloc_ins rfl rfl 5 rfl (fun W4 D hN4 hB4 hG4 => ?_)) | (refine list_store_ins rfl _ _ rfl _ 2 r 0 0 [] rfl rfl hN4 (fun W5 hN5 hg5 y0 y1 yf => ?_)))
    have s0 : Di w W5 B a len cap R D 2 r 0 0 [] := Di.at (k := 0) (r := 0) (a := 0) (b := 0) (s := []) ⟨hc3.below hB4, ⟨hB4.os.trans hw3.os, hB4.tape.trans hw3.tape, hB4.output.trans hw3.output, Nat.le_trans hw3.size hB4.size, fun q hq hne => (hB4.block q (Nat.lt_of_lt_of_le hq hw3.size)).trans (hw3.block q hq hne)⟩, hN3.keep (hB4.block R hRl), hN4, by omega, hG1, by omega⟩ hg5 hN5
    clear hN3 hN4 hB4 hG4 hN5 hg5 hw3 hc3 y0 y1 yf
    refine (drawBelow _ B a len cap 2 (by omega) (by omega) s0.cur).mono ?_
    rintro e W6 ⟨z, rfl, hz0, hz1, hcz, hgz⟩
    have s1 := s0.draw hcz hgz
    have y0 := s1.d.c0
    have y1 := s1.d.c1
    have y2 := s1.d.c2
    have y3 := s1.d.c3
    have y4 := s1.d.c4
    have yf := s1.d.fr
    have s2 := s1.setA z
    clear hcz hgz s0
    go_wp2_with (guard_target = wpList _ _ _ _ _ _; first | (refine list_load_ins rfl _ rfl 59 rfl _ 2 r z 0 [] rfl (by exact s2.d) ?_) | (refine list_store_ins rfl _ _ rfl _ 2 r z 0 [] rfl rfl (by exact s2.rs) (fun Z hZ hgZ _ _ _ => ?_)))
    refine bodyPost_ret (v := insVal (2, r, z, 0, [])) (results_ins Tryz.results54 _ _ R 2 r z 0 [] rfl hZ) rfl ?_
    exact ⟨_, rfl, by unfold SmI; refine ⟨?_, ?_, ?_, ?_, ?_⟩ <;> (try simp only) <;> first | omega | simp, (s2.done hgZ).1, (s2.done hgZ).2⟩
  · clear HK
    go_wp2_with (guard_target = wpList _ _ _ _ _ _; first | (refine list_alloc_ins rfl rfl 5 rfl (fun W4 D hN4 hB4 hG4 => ?_)) | (refine list_store_ins rfl _ _ rfl _ 3 r 0 0 [] rfl rfl hN4 (fun W5 hN5 hg5 y0 y1 yf => ?_)))
    have s0 : Di w W5 B a len cap R D 3 r 0 0 [] := Di.at (k := 0) (r := 0) (a := 0) (b := 0) (s := []) ⟨hc3.below hB4, ⟨hB4.os.trans hw3.os, hB4.tape.trans hw3.tape, hB4.output.trans hw3.output, Nat.le_trans hw3.size hB4.size, fun q hq hne => (hB4.block q (Nat.lt_of_lt_of_le hq hw3.size)).trans (hw3.block q hq hne)⟩, hN3.keep (hB4.block R hRl), hN4, by omega, hG1, by omega⟩ hg5 hN5
    clear hN3 hN4 hB4 hG4 hN5 hg5 hw3 hc3 y0 y1 yf
    refine (drawBelow _ B a len cap 3 (by omega) (by omega) s0.cur).mono ?_
    rintro e W6 ⟨z, rfl, hz0, hz1, hcz, hgz⟩
    have s1 := s0.draw hcz hgz
    have y0 := s1.d.c0
    have y1 := s1.d.c1
    have y2 := s1.d.c2
    have y3 := s1.d.c3
    have y4 := s1.d.c4
    have yf := s1.d.fr
    have s2 := s1.setA z
    clear hcz hgz s0
    go_wp2_with fail
    refine (drawBelow _ B a len cap 3 (by omega) (by omega) s2.cur).mono ?_
    rintro e W7 ⟨u, rfl, hu0, hu1, hcu, hgu⟩
    have s3 := s2.draw hcu hgu
    clear y0 y1 y2 y3 y4 yf
    have y0 := s3.d.c0
    have y1 := s3.d.c1
    have y2 := s3.d.c2
    have y3 := s3.d.c3
    have y4 := s3.d.c4
    have yf := s3.d.fr
    have s4 := s3.setB u
    clear hcu hgu s1 s2
    go_wp2_with (guard_target = wpList _ _ _ _ _ _; first | (refine list_load_ins rfl _ rfl 59 rfl _ 3 r z u [] rfl (by exact s4.d) ?_) | (refine list_store_ins rfl _ _ rfl _ 3 r z u [] rfl rfl (by exact s4.rs) (fun Z hZ hgZ _ _ _ => ?_)))
    refine bodyPost_ret (v := insVal (3, r, z, u, [])) (results_ins Tryz.results54 _ _ R 3 r z u [] rfl hZ) rfl ?_
    exact ⟨_, rfl, by unfold SmI; refine ⟨?_, ?_, ?_, ?_, ?_⟩ <;> (try simp only) <;> first | omega | simp, (s4.done hgZ).1, (s4.done hgZ).2⟩
  · clear HK
    go_wp2_with (guard_target = wpList _ _ _ _ _ _; first | (refine list_alloc_ins rfl rfl 5 rfl (fun W4 D hN4 hB4 hG4 => ?_)) | (refine list_store_ins rfl _ _ rfl _ 4 r 0 0 [] rfl rfl hN4 (fun W5 hN5 hg5 y0 y1 yf => ?_)))
    have s0 : Di w W5 B a len cap R D 4 r 0 0 [] := Di.at (k := 0) (r := 0) (a := 0) (b := 0) (s := []) ⟨hc3.below hB4, ⟨hB4.os.trans hw3.os, hB4.tape.trans hw3.tape, hB4.output.trans hw3.output, Nat.le_trans hw3.size hB4.size, fun q hq hne => (hB4.block q (Nat.lt_of_lt_of_le hq hw3.size)).trans (hw3.block q hq hne)⟩, hN3.keep (hB4.block R hRl), hN4, by omega, hG1, by omega⟩ hg5 hN5
    clear hN3 hN4 hB4 hG4 hN5 hg5 hw3 hc3 y0 y1 yf
    refine (drawBelow _ B a len cap 3 (by omega) (by omega) s0.cur).mono ?_
    rintro e W6 ⟨z, rfl, hz0, hz1, hcz, hgz⟩
    have s1 := s0.draw hcz hgz
    have y0 := s1.d.c0
    have y1 := s1.d.c1
    have y2 := s1.d.c2
    have y3 := s1.d.c3
    have y4 := s1.d.c4
    have yf := s1.d.fr
    have s2 := s1.setA z
    clear hcz hgz s0
    go_wp2_with fail
    refine (drawBelow _ B a len cap 3 (by omega) (by omega) s2.cur).mono ?_
    rintro e W7 ⟨u, rfl, hu0, hu1, hcu, hgu⟩
    have s3 := s2.draw hcu hgu
    clear y0 y1 y2 y3 y4 yf
    have y0 := s3.d.c0
    have y1 := s3.d.c1
    have y2 := s3.d.c2
    have y3 := s3.d.c3
    have y4 := s3.d.c4
    have yf := s3.d.fr
    have s4 := s3.setB u
    clear hcu hgu s1 s2
    go_wp2_with (guard_target = wpList _ _ _ _ _ _; first | (refine list_load_ins rfl _ rfl 59 rfl _ 4 r z u [] rfl (by exact s4.d) ?_) | (refine list_store_ins rfl _ _ rfl _ 4 r z u [] rfl rfl (by exact s4.rs) (fun Z hZ hgZ _ _ _ => ?_)))
    refine bodyPost_ret (v := insVal (4, r, z, u, [])) (results_ins Tryz.results54 _ _ R 4 r z u [] rfl hZ) rfl ?_
    exact ⟨_, rfl, by unfold SmI; refine ⟨?_, ?_, ?_, ?_, ?_⟩ <;> (try simp only) <;> first | omega | simp, (s4.done hgZ).1, (s4.done hgZ).2⟩
  · clear HK
    go_wp2_with (guard_target = wpList _ _ _ _ _ _; first | (refine list_alloc_ins rfl rfl 5 rfl (fun W4 D hN4 hB4 hG4 => ?_)) | (refine list_store_ins rfl _ _ rfl _ 5 r 0 0 [] rfl rfl hN4 (fun W5 hN5 hg5 y0 y1 yf => ?_)))
    have s0 : Di w W5 B a len cap R D 5 r 0 0 [] := Di.at (k := 0) (r := 0) (a := 0) (b := 0) (s := []) ⟨hc3.below hB4, ⟨hB4.os.trans hw3.os, hB4.tape.trans hw3.tape, hB4.output.trans hw3.output, Nat.le_trans hw3.size hB4.size, fun q hq hne => (hB4.block q (Nat.lt_of_lt_of_le hq hw3.size)).trans (hw3.block q hq hne)⟩, hN3.keep (hB4.block R hRl), hN4, by omega, hG1, by omega⟩ hg5 hN5
    clear hN3 hN4 hB4 hG4 hN5 hg5 hw3 hc3 y0 y1 yf
    refine (drawBelow _ B a len cap 3 (by omega) (by omega) s0.cur).mono ?_
    rintro e W6 ⟨z, rfl, hz0, hz1, hcz, hgz⟩
    have s1 := s0.draw hcz hgz
    have y0 := s1.d.c0
    have y1 := s1.d.c1
    have y2 := s1.d.c2
    have y3 := s1.d.c3
    have y4 := s1.d.c4
    have yf := s1.d.fr
    have s2 := s1.setA z
    clear hcz hgz s0
    go_wp2_with fail
    refine (drawBelow _ B a len cap 3 (by omega) (by omega) s2.cur).mono ?_
    rintro e W7 ⟨u, rfl, hu0, hu1, hcu, hgu⟩
    have s3 := s2.draw hcu hgu
    clear y0 y1 y2 y3 y4 yf
    have y0 := s3.d.c0
    have y1 := s3.d.c1
    have y2 := s3.d.c2
    have y3 := s3.d.c3
    have y4 := s3.d.c4
    have yf := s3.d.fr
    have s4 := s3.setB u
    clear hcu hgu s1 s2
    go_wp2_with (guard_target = wpList _ _ _ _ _ _; first | (refine list_load_ins rfl _ rfl 59 rfl _ 5 r z u [] rfl (by exact s4.d) ?_) | (refine list_store_ins rfl _ _ rfl _ 5 r z u [] rfl rfl (by exact s4.rs) (fun Z hZ hgZ _ _ _ => ?_)))
    refine bodyPost_ret (v := insVal (5, r, z, u, [])) (results_ins Tryz.results54 _ _ R 5 r z u [] rfl hZ) rfl ?_
    exact ⟨_, rfl, by unfold SmI; refine ⟨?_, ?_, ?_, ?_, ?_⟩ <;> (try simp only) <;> first | omega | simp, (s4.done hgZ).1, (s4.done hgZ).2⟩
  · clear HK
    go_wp2_with (guard_target = wpList _ _ _ _ _ _; first | (refine list_alloc_ins rfl rfl 5 rfl (fun W4 D hN4 hB4 hG4 => ?_)) | (refine list_store_ins rfl _ _ rfl _ 6 r 0 0 [] rfl rfl hN4 (fun W5 hN5 hg5 y0 y1 yf => ?_)))
    have s0 : Di w W5 B a len cap R D 6 r 0 0 [] := Di.at (k := 0) (r := 0) (a := 0) (b := 0) (s := []) ⟨hc3.below hB4, ⟨hB4.os.trans hw3.os, hB4.tape.trans hw3.tape, hB4.output.trans hw3.output, Nat.le_trans hw3.size hB4.size, fun q hq hne => (hB4.block q (Nat.lt_of_lt_of_le hq hw3.size)).trans (hw3.block q hq hne)⟩, hN3.keep (hB4.block R hRl), hN4, by omega, hG1, by omega⟩ hg5 hN5
    clear hN3 hN4 hB4 hG4 hN5 hg5 hw3 hc3 y0 y1 yf
    refine (drawBelow _ B a len cap 3 (by omega) (by omega) s0.cur).mono ?_
    rintro e W6 ⟨z, rfl, hz0, hz1, hcz, hgz⟩
    have s1 := s0.draw hcz hgz
    have y0 := s1.d.c0
    have y1 := s1.d.c1
    have y2 := s1.d.c2
    have y3 := s1.d.c3
    have y4 := s1.d.c4
    have yf := s1.d.fr
    have s2 := s1.setA z
    clear hcz hgz s0
    go_wp2_with fail
    refine (drawBelow _ B a len cap 3 (by omega) (by omega) s2.cur).mono ?_
    rintro e W7 ⟨u, rfl, hu0, hu1, hcu, hgu⟩
    have s3 := s2.draw hcu hgu
    clear y0 y1 y2 y3 y4 yf
    have y0 := s3.d.c0
    have y1 := s3.d.c1
    have y2 := s3.d.c2
    have y3 := s3.d.c3
    have y4 := s3.d.c4
    have yf := s3.d.fr
    have s4 := s3.setB u
    clear hcu hgu s1 s2
    go_wp2_with (guard_target = wpList _ _ _ _ _ _; first | (refine list_load_ins rfl _ rfl 59 rfl _ 6 r z u [] rfl (by exact s4.d) ?_) | (refine list_store_ins rfl _ _ rfl _ 6 r z u [] rfl rfl (by exact s4.rs) (fun Z hZ hgZ _ _ _ => ?_)))
    refine bodyPost_ret (v := insVal (6, r, z, u, [])) (results_ins Tryz.results54 _ _ R 6 r z u [] rfl hZ) rfl ?_
    exact ⟨_, rfl, by unfold SmI; refine ⟨?_, ?_, ?_, ?_, ?_⟩ <;> (try simp only) <;> first | omega | simp, (s4.done hgZ).1, (s4.done hgZ).2⟩
  · clear HK
    go_wp2_with (guard_target = wpList _ _ _ _ _ _; first | (refine list_alloc_ins rfl rfl 5 rfl (fun W4 D hN4 hB4 hG4 => ?_)) | (refine list_store_ins rfl _ _ rfl _ 7 r 0 0 [] rfl rfl hN4 (fun W5 hN5 hg5 y0 y1 yf => ?_)))
    have s0 : Di w W5 B a len cap R D 7 r 0 0 [] := Di.at (k := 0) (r := 0) (a := 0) (b := 0) (s := []) ⟨hc3.below hB4, ⟨hB4.os.trans hw3.os, hB4.tape.trans hw3.tape, hB4.output.trans hw3.output, Nat.le_trans hw3.size hB4.size, fun q hq hne => (hB4.block q (Nat.lt_of_lt_of_le hq hw3.size)).trans (hw3.block q hq hne)⟩, hN3.keep (hB4.block R hRl), hN4, by omega, hG1, by omega⟩ hg5 hN5
    clear hN3 hN4 hB4 hG4 hN5 hg5 hw3 hc3 y0 y1 yf
    refine (drawBelow _ B a len cap n (by omega) (by omega) s0.cur).mono ?_
    rintro e W6 ⟨z, rfl, hz0, hz1, hcz, hgz⟩
    have s1 := s0.draw hcz hgz
    have y0 := s1.d.c0
    have y1 := s1.d.c1
    have y2 := s1.d.c2
    have y3 := s1.d.c3
    have y4 := s1.d.c4
    have yf := s1.d.fr
    have s2 := s1.setA z
    clear hcz hgz s0
    go_wp2_with (guard_target = wpList _ _ _ _ _ _; first | (refine list_load_ins rfl _ rfl 59 rfl _ 7 r z 0 [] rfl (by exact s2.d) ?_) | (refine list_store_ins rfl _ _ rfl _ 7 r z 0 [] rfl rfl (by exact s2.rs) (fun Z hZ hgZ _ _ _ => ?_)))
    refine bodyPost_ret (v := insVal (7, r, z, 0, [])) (results_ins Tryz.results54 _ _ R 7 r z 0 [] rfl hZ) rfl ?_
    exact ⟨_, rfl, by unfold SmI; refine ⟨?_, ?_, ?_, ?_, ?_⟩ <;> (try simp only) <;> first | omega | simp, (s2.done hgZ).1, (s2.done hgZ).2⟩
  · clear HK
    go_wp2_with (guard_target = wpList _ _ _ _ _ _; first | (refine list_alloc_ins rfl rfl 5 rfl (fun W4 D hN4 hB4 hG4 => ?_)) | (refine list_store_ins rfl _ _ rfl _ 8 r 0 0 [] rfl rfl hN4 (fun W5 hN5 hg5 y0 y1 yf => ?_)))
    have s0 : Di w W5 B a len cap R D 8 r 0 0 [] := Di.at (k := 0) (r := 0) (a := 0) (b := 0) (s := []) ⟨hc3.below hB4, ⟨hB4.os.trans hw3.os, hB4.tape.trans hw3.tape, hB4.output.trans hw3.output, Nat.le_trans hw3.size hB4.size, fun q hq hne => (hB4.block q (Nat.lt_of_lt_of_le hq hw3.size)).trans (hw3.block q hq hne)⟩, hN3.keep (hB4.block R hRl), hN4, by omega, hG1, by omega⟩ hg5 hN5
    clear hN3 hN4 hB4 hG4 hN5 hg5 hw3 hc3 y0 y1 yf
    have s1 := s0.setR 0
    refine (drawBelow _ B a len cap n (by omega) (by omega) s1.cur).mono ?_
    rintro e W6 ⟨z, rfl, hz0, hz1, hcz, hgz⟩
    have s2 := s1.draw hcz hgz
    have y0 := s2.d.c0
    have y1 := s2.d.c1
    have y2 := s2.d.c2
    have y3 := s2.d.c3
    have y4 := s2.d.c4
    have yf := s2.d.fr
    have s3 := s2.setA z
    clear hcz hgz s0 s1
    go_wp2_with (guard_target = wpList _ _ _ _ _ _; first | (refine list_load_ins rfl _ rfl 59 rfl _ 8 0 z 0 [] rfl (by exact s3.d) ?_) | (refine list_store_ins rfl _ _ rfl _ 8 0 z 0 [] rfl rfl (by exact s3.rs) (fun Z hZ hgZ _ _ _ => ?_)))
    refine bodyPost_ret (v := insVal (8, 0, z, 0, [])) (results_ins Tryz.results54 _ _ R 8 0 z 0 [] rfl hZ) rfl ?_
    exact ⟨_, rfl, by unfold SmI; refine ⟨?_, ?_, ?_, ?_, ?_⟩ <;> (try simp only) <;> first | omega | simp, (s3.done hgZ).1, (s3.done hgZ).2⟩
  · clear HK
    go_wp2_with (guard_target = wpList _ _ _ _ _ _; first | (refine list_alloc_ins rfl rfl 5 rfl (fun W4 D hN4 hB4 hG4 => ?_)) | (refine list_store_ins rfl _ _ rfl _ 9 r 0 0 [] rfl rfl hN4 (fun W5 hN5 hg5 y0 y1 yf => ?_)))
    have s0 : Di w W5 B a len cap R D 9 r 0 0 [] := Di.at (k := 0) (r := 0) (a := 0) (b := 0) (s := []) ⟨hc3.below hB4, ⟨hB4.os.trans hw3.os, hB4.tape.trans hw3.tape, hB4.output.trans hw3.output, Nat.le_trans hw3.size hB4.size, fun q hq hne => (hB4.block q (Nat.lt_of_lt_of_le hq hw3.size)).trans (hw3.block q hq hne)⟩, hN3.keep (hB4.block R hRl), hN4, by omega, hG1, by omega⟩ hg5 hN5
    clear hN3 hN4 hB4 hG4 hN5 hg5 hw3 hc3 y0 y1 yf
    refine (drawBelow _ B a len cap 3 (by omega) (by omega) s0.cur).mono ?_
    rintro e W6 ⟨z, rfl, hz0, hz1, hcz, hgz⟩
    have s1 := s0.draw hcz hgz
    have y0 := s1.d.c0
    have y1 := s1.d.c1
    have y2 := s1.d.c2
    have y3 := s1.d.c3
    have y4 := s1.d.c4
    have yf := s1.d.fr
    have s2 := s1.setA z
    clear hcz hgz s0
    obtain ⟨V, hV⟩ : ∃ V, W6.setCell ⟨D, 2, none⟩ (.int .i64 z) = V := ⟨_, rfl⟩
    rw [hV] at s2
    have s3 := s2.alloc (.cells (strV [[108, 105, 98, 46, 102], [108, 105, 98, 46, 103], [97, 46, 102]]).toArray 9)
    go_wp2_with fail
    refine (drawBelow _ B a len cap 3 (by omega) (by omega) s3.cur).mono ?_
    rintro e W7 ⟨u, rfl, hu0, hu1, hcu, hgu⟩
    have s4 := s3.draw hcu hgu
    have hcx := hgu.cell (pickT_cell [[108, 105, 98, 46, 102], [108, 105, 98, 46, 103], [97, 46, 102]] u hu0 hu1 V 9) (by have := s2.cur.lt; simp; omega)
    have hpl := pickT_len [[108, 105, 98, 46, 102], [108, 105, 98, 46, 103], [97, 46, 102]] u 9 (by simp)
    generalize pickT [[108, 105, 98, 46, 102], [108, 105, 98, 46, 103], [97, 46, 102]] u = nm at hcx hpl
    clear y0 y1 y2 y3 y4 yf
    have y0 := s4.d.c0
    have y1 := s4.d.c1
    have y2 := s4.d.c2
    have y3 := s4.d.c3
    have y4 := s4.d.c4
    have yf := s4.d.fr
    have s5 := s4.setS nm
    clear hcu hgu s1 s2 s3
    go_wp2_with (guard_target = wpList _ _ _ _ _ _; first | (refine list_load_ins rfl _ rfl 59 rfl _ 9 r z 0 nm rfl (by exact s5.d) ?_) | (refine list_store_ins rfl _ _ rfl _ 9 r z 0 nm rfl rfl (by exact s5.rs) (fun Z hZ hgZ _ _ _ => ?_)))
    refine bodyPost_ret (v := insVal (9, r, z, 0, nm)) (results_ins Tryz.results54 _ _ R 9 r z 0 nm rfl hZ) rfl ?_
    exact ⟨_, rfl, by unfold SmI; refine ⟨?_, ?_, ?_, ?_, ?_⟩ <;> (try simp only) <;> first | omega | simp, (s5.done hgZ).1, (s5.done hgZ).2⟩
  · clear HK
    go_wp2_with (guard_target = wpList _ _ _ _ _ _; first | (refine list_alloc_ins rfl rfl 5 rfl (fun W4 D hN4 hB4 hG4 => ?_)) | (refine list_load_ins rfl _ rfl 59 rfl _ 10 r 0 0 [] rfl (by exact s0.d) ?_) | (refine list_store_ins rfl _ _ rfl R 10 r 0 0 [] rfl rfl (by exact s0.rs) (fun Z hZ hgZ _ _ _ => ?_)) | (refine list_store_ins rfl _ _ rfl D 10 r 0 0 [] rfl rfl hN4 (fun W5 hN5 hg5 y0 y1 yf => ?_); have s0 : Di w W5 B a len cap R D 10 r 0 0 [] := Di.at (k := 0) (r := 0) (a := 0) (b := 0) (s := []) ⟨hc3.below hB4, ⟨hB4.os.trans hw3.os, hB4.tape.trans hw3.tape, hB4.output.trans hw3.output, Nat.le_trans hw3.size hB4.size, fun q hq hne => (hB4.block q (Nat.lt_of_lt_of_le hq hw3.size)).trans (hw3.block q hq hne)⟩, hN3.keep (hB4.block R hRl), hN4, by omega, hG1, by omega⟩ hg5 hN5))
    refine bodyPost_ret (v := insVal (10, r, 0, 0, [])) (results_ins Tryz.results54 _ _ R 10 r 0 0 [] rfl hZ) rfl ?_
    exact ⟨_, rfl, by unfold SmI; refine ⟨?_, ?_, ?_, ?_, ?_⟩ <;> (try simp only) <;> first | omega | simp, (s0.done hgZ).1, (s0.done hgZ).2⟩

end Go.Proofs.YtogobeegibngiaaGreatDoor

/-! An instruction is drawn, one field of which may be changed: l13DrawAny; DrawInsOk. -/
namespace Go.Proofs.YtogobeegibngiaaGreatDoor
open Go.RowKit

set_option maxHeartbeats 20000000 in
set_option maxRecDepth 100000 in
theorem drawAnyIns (w : World) (B : Nat) (a : Option Addr) (len cap : Nat) (h : Cur w B a len cap) :
    Calls Tryz.prog 55 #[.pointer (some ⟨B, 0, none⟩)] w fun e w' => ∃ i : In13, e = .returned (insVal i) ∧ SmI i ∧ Cur w' B a len cap ∧ w.grownBy w' (some B) := by
  go_enter Tryz.func55, Tryz.ntmps55
  go_wp2_with (guard_target = wpList _ _ _ _ _ _; (refine list_alloc_ins rfl rfl 2 rfl (fun W1 R hN1 hB1 hG1 => ?_)))
  have hc1 := h.below hB1
  have hlB := h.lt
  refine (drawIns _ B a len cap 9 (by omega) (by omega) hc1).mono ?_
  rintro e W2 ⟨⟨k, r, aa, b, s⟩, rfl, hsm, hc2, hg2⟩
  have hN2 := hN1.kept hg2 (by simp; omega)
  have hw2 : w.grownBy W2 (some B) := ⟨hg2.os.trans hB1.os, hg2.tape.trans hB1.tape, hg2.output.trans hB1.output, Nat.le_trans hB1.size hg2.size, fun q hq hne => (hg2.block q (Nat.lt_of_lt_of_le hq hB1.size) hne).trans (hB1.block q hq)⟩
  have hRl := hN2.lt
  obtain ⟨hm0, hm1, hm2, hm3, hm4⟩ := hsm
  simp only at hm0 hm1 hm2 hm3 hm4
  clear hc1 hg2 hN1 hB1
  go_wp2_with (guard_target = wpList _ _ _ _ _ _; first | (refine list_alloc_ins rfl rfl 3 rfl (fun W4 D hN4 hB4 hG4 => ?_)) | (refine list_store_ins rfl _ _ rfl _ k r aa b s rfl rfl hN4 (fun W5 hN5 hg5 _ _ _ => ?_)))
  have s0 : Di w W5 B a len cap R D k r aa b s := Di.at (k := 0) (r := 0) (a := 0) (b := 0) (s := []) ⟨hc2.below hB4, ⟨hB4.os.trans hw2.os, hB4.tape.trans hw2.tape, hB4.output.trans hw2.output, Nat.le_trans hw2.size hB4.size, fun q hq hne => (hB4.block q (Nat.lt_of_lt_of_le hq hw2.size)).trans (hw2.block q hq hne)⟩, hN2.keep (hB4.block R hRl), hN4, by omega, hG1, by omega⟩ hg5 hN5
  clear hN2 hN4 hB4 hG4 hN5 hg5 hw2 hc2
  refine (drawOnce _ B a len cap 6 (by omega) (by omega) s0.cur).mono ?_
  rintro e W6 ⟨o, rfl, hc6, hg6⟩
  have s1 := s0.draw hc6 hg6
  clear hc6 hg6 s0
  rcases o with _ | _
  · go_wp2_with (guard_target = wpList _ _ _ _ _ _; first | (refine list_load_ins rfl _ rfl 42 rfl _ k r aa b s rfl (by exact s1.d) ?_) | (refine list_store_ins rfl _ _ rfl _ k r aa b s rfl rfl (by exact s1.rs) (fun Z hZ hgZ _ _ _ => ?_)))
    refine bodyPost_ret (v := insVal (k, r, aa, b, s)) (results_ins Tryz.results55 _ _ R k r aa b s rfl hZ) rfl ?_
    exact ⟨_, rfl, by unfold SmI; refine ⟨?_, ?_, ?_, ?_, ?_⟩ <;> (try simp only) <;> omega, (s1.done hgZ).1, (s1.done hgZ).2⟩
  · go_wp2_with fail
    refine (drawBelow _ B a len cap 4 (by omega) (by omega) s1.cur).mono ?_
    rintro e W7 ⟨x, rfl, hx0, hx1, hcx, hgx⟩
    have s2 := s1.draw hcx hgx
    clear hcx hgx s1
    have HK : Hid (x = 0 ∨ x = 1 ∨ x = 2 ∨ x = 3) := by exact (by omega : x = 0 ∨ x = 1 ∨ x = 2 ∨ x = 3)
    clear hx0 hx1
    rcases HK.out with rfl | rfl | rfl | rfl
    · clear HK
      have s3 := s2.alloc (.cells (([0, 11, -1, 9] : List Int).map (Value.int .i64)).toArray 2)
      go_wp2_with fail
      refine (drawBelow _ B a len cap 4 (by omega) (by omega) s3.cur).mono ?_
      rintro e W8 ⟨u, rfl, hu0, hu1, hcu, hgu⟩
      have s4 := s3.draw hcu hgu
      have hcx := hgu.cell (pick_cell [0, 11, -1, 9] u hu0 hu1 W7 2) (by have := s2.cur.lt; simp; omega)
      have hpi := pick_in [0, 11, -1, 9] u (-1) 11 hu0 hu1 (by simp)
      generalize pick [0, 11, -1, 9] u = z at hcx hpi
      have y0 := s4.d.c0
      have y1 := s4.d.c1
      have y2 := s4.d.c2
      have y3 := s4.d.c3
      have y4 := s4.d.c4
      have yf := s4.d.fr
      have s5 := s4.setK z
      clear hcu hgu s2 s3
      go_wp2_with (guard_target = wpList _ _ _ _ _ _; first | (refine list_load_ins rfl _ rfl 42 rfl _ z r aa b s rfl (by exact s5.d) ?_) | (refine list_store_ins rfl _ _ rfl _ z r aa b s rfl rfl (by exact s5.rs) (fun Z hZ hgZ _ _ _ => ?_)))
      refine bodyPost_ret (v := insVal (z, r, aa, b, s)) (results_ins Tryz.results55 _ _ R z r aa b s rfl hZ) rfl ?_
      exact ⟨_, rfl, by unfold SmI; refine ⟨?_, ?_, ?_, ?_, ?_⟩ <;> (try simp only) <;> omega, (s5.done hgZ).1, (s5.done hgZ).2⟩
    · clear HK
      have s3 := s2.alloc (.cells (([-1, 61, 62, 63, 64] : List Int).map (Value.int .i64)).toArray 2)
      go_wp2_with fail
      refine (drawBelow _ B a len cap 5 (by omega) (by omega) s3.cur).mono ?_
      rintro e W8 ⟨u, rfl, hu0, hu1, hcu, hgu⟩
      have s4 := s3.draw hcu hgu
      have hcx := hgu.cell (pick_cell [-1, 61, 62, 63, 64] u hu0 hu1 W7 2) (by have := s2.cur.lt; simp; omega)
      have hpi := pick_in [-1, 61, 62, 63, 64] u (-1) 64 hu0 hu1 (by simp)
      generalize pick [-1, 61, 62, 63, 64] u = z at hcx hpi
      have y0 := s4.d.c0
      have y1 := s4.d.c1
      have y2 := s4.d.c2
      have y3 := s4.d.c3
      have y4 := s4.d.c4
      have yf := s4.d.fr
      have s5 := s4.setR z
      clear hcu hgu s2 s3
      go_wp2_with (guard_target = wpList _ _ _ _ _ _; first | (refine list_load_ins rfl _ rfl 42 rfl _ k z aa b s rfl (by exact s5.d) ?_) | (refine list_store_ins rfl _ _ rfl _ k z aa b s rfl rfl (by exact s5.rs) (fun Z hZ hgZ _ _ _ => ?_)))
      refine bodyPost_ret (v := insVal (k, z, aa, b, s)) (results_ins Tryz.results55 _ _ R k z aa b s rfl hZ) rfl ?_
      exact ⟨_, rfl, by unfold SmI; refine ⟨?_, ?_, ?_, ?_, ?_⟩ <;> (try simp only) <;> omega, (s5.done hgZ).1, (s5.done hgZ).2⟩
    · clear HK
      have s3 := s2.alloc (.cells (([-1, 3, 4, 63, 64, 199, 200] : List Int).map (Value.int .i64)).toArray 2)
      go_wp2_with fail
      refine (drawBelow _ B a len cap 7 (by omega) (by omega) s3.cur).mono ?_
      rintro e W8 ⟨u, rfl, hu0, hu1, hcu, hgu⟩
      have s4 := s3.draw hcu hgu
      have hcx := hgu.cell (pick_cell [-1, 3, 4, 63, 64, 199, 200] u hu0 hu1 W7 2) (by have := s2.cur.lt; simp; omega)
      have hpi := pick_in [-1, 3, 4, 63, 64, 199, 200] u (-1) 200 hu0 hu1 (by simp)
      generalize pick [-1, 3, 4, 63, 64, 199, 200] u = z at hcx hpi
      have y0 := s4.d.c0
      have y1 := s4.d.c1
      have y2 := s4.d.c2
      have y3 := s4.d.c3
      have y4 := s4.d.c4
      have yf := s4.d.fr
      have s5 := s4.setA z
      clear hcu hgu s2 s3
      go_wp2_with (guard_target = wpList _ _ _ _ _ _; first | (refine list_load_ins rfl _ rfl 42 rfl _ k r z b s rfl (by exact s5.d) ?_) | (refine list_store_ins rfl _ _ rfl _ k r z b s rfl rfl (by exact s5.rs) (fun Z hZ hgZ _ _ _ => ?_)))
      refine bodyPost_ret (v := insVal (k, r, z, b, s)) (results_ins Tryz.results55 _ _ R k r z b s rfl hZ) rfl ?_
      exact ⟨_, rfl, by unfold SmI; refine ⟨?_, ?_, ?_, ?_, ?_⟩ <;> (try simp only) <;> omega, (s5.done hgZ).1, (s5.done hgZ).2⟩
    · clear HK
      have s3 := s2.alloc (.cells (strV [[], [108, 105, 98], [108, 105, 98, 46], [97, 46, 98, 46, 99], [108, 105, 98, 46, 102]]).toArray 9)
      go_wp2_with fail
      refine (drawBelow _ B a len cap 5 (by omega) (by omega) s3.cur).mono ?_
      rintro e W8 ⟨u, rfl, hu0, hu1, hcu, hgu⟩
      have s4 := s3.draw hcu hgu
      have hcx := hgu.cell (pickT_cell [[], [108, 105, 98], [108, 105, 98, 46], [97, 46, 98, 46, 99], [108, 105, 98, 46, 102]] u hu0 hu1 W7 9) (by have := s2.cur.lt; simp; omega)
      have hpl := pickT_len [[], [108, 105, 98], [108, 105, 98, 46], [97, 46, 98, 46, 99], [108, 105, 98, 46, 102]] u 9 (by simp)
      generalize pickT [[], [108, 105, 98], [108, 105, 98, 46], [97, 46, 98, 46, 99], [108, 105, 98, 46, 102]] u = nm at hcx hpl
      have y0 := s4.d.c0
      have y1 := s4.d.c1
      have y2 := s4.d.c2
      have y3 := s4.d.c3
      have y4 := s4.d.c4
      have yf := s4.d.fr
      have s5 := s4.setS nm
      clear hcu hgu s2 s3
      go_wp2_with (guard_target = wpList _ _ _ _ _ _; first | (refine list_load_ins rfl _ rfl 42 rfl _ k r aa b nm rfl (by exact s5.d) ?_) | (refine list_store_ins rfl _ _ rfl _ k r aa b nm rfl rfl (by exact s5.rs) (fun Z hZ hgZ _ _ _ => ?_)))
      refine bodyPost_ret (v := insVal (k, r, aa, b, nm)) (results_ins Tryz.results55 _ _ R k r aa b nm rfl hZ) rfl ?_
      exact ⟨_, rfl, by unfold SmI; refine ⟨?_, ?_, ?_, ?_, ?_⟩ <;> (try simp only) <;> omega, (s5.done hgZ).1, (s5.done hgZ).2⟩


end Go.Proofs.YtogobeegibngiaaGreatDoor
