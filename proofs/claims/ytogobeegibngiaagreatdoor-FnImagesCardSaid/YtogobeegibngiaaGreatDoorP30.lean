/-
  Parts of one proof, one behind the other: StepB.
-/
import Derived.Test.YtogobeegibngiaaGreatDoorP29
import Derived.Laws.EntriesVeiled

/-! Contracts of chapter 13's landed code: the table of steps. -/
namespace Go.Proofs.YtogobeegibngiaaGreatDoor
open Go.RowKit

def fv (f : Nat) : Value := .func (.func f) #[] #[]
/-- What a kind's step is. -/
def st13 (k : Nat) : List Value :=
  if k = 1 then [fv 117, fv 118, fv 119]
  else if k = 2 then [fv 117, fv 118, fv 120]
  else if k = 3 ∨ k = 4 ∨ k = 5 ∨ k = 6 then [fv 114, fv 115, fv 116]
  else if k = 7 then [fv 117, fv 118, fv 121]
  else if k = 8 then [fv 122, fv 123, fv 121]
  else if k = 9 then [fv 124, fv 125, fv 126]
  else if k = 10 then [fv 127, fv 118, fv 116]
  else [.nilFunc, .nilFunc, .nilFunc]
def tbL : List Value := (List.range 11).flatMap st13
def tb : Array Value := tbL.toArray
def tz : Array Value := (List.replicate 33 Value.nilFunc).toArray
theorem tbL_len : tbL.length = 33 := by decide +kernel
theorem tbL_one : ∀ v ∈ tbL, v.oneCell' = true := by
  intro v hv
  have h : tbL.all (fun v => v.oneCell') = true := by kernel_rfl
  exact List.all_eq_true.1 h v hv

/-- A row of cells lies in block b from o on, and may be written. -/
structure Rb (X : World) (b o : Nat) (vs : List Value) : Prop where
  cs : X.rangeAt b o vs
  ok : X.there b o vs.length
  lt : b < X.heap.size
section
variable {X Y : World} {b o : Nat} {vs : List Value}
theorem Rb.keep (h : Rb X b o vs) (hb : Y.heap[b]? = X.heap[b]?) (hs : X.heap.size ≤ Y.heap.size) : Rb Y b o vs :=
  ⟨fun j v hv => (World.cell?_of_block (a := ⟨b, o + j, none⟩) hb).trans (h.cs j v hv), fun j hj => by rw [World.cell?_of_block (a := ⟨b, o + j, none⟩) hb, World.frozen?_of_block (a := ⟨b, o + j, none⟩) hb]; exact h.ok j hj, Nat.lt_of_lt_of_le h.lt hs⟩
theorem Rb.below (h : Rb X b o vs) (hb : Below X.heap.size X Y) : Rb Y b o vs := h.keep (hb.block b h.lt) hb.size
theorem Rb.kept {row : Option Nat} (h : Rb X b o vs) (hg : X.grownBy Y row) (hne : some b ≠ row) : Rb Y b o vs := h.keep (hg.block b h.lt hne) hg.size
theorem Rb.cell (h : Rb X b o vs) (j : Nat) (v : Value) (hv : vs[j]? = some v) : X.cell? ⟨b, o + j, none⟩ = some v := h.cs j v hv
theorem Rb.new (w : World) (vs : Array Value) (t : TypeId) : Rb (w.alloc (.cells vs t)) w.heap.size 0 vs.toList := by
  have hA := heap_alloc_new w (.cells vs t)
  refine ⟨fun j v hv => ?_, fun j hj => ?_, by simp⟩
  · rw [cell_of_row _ _ _ _ _ _ hA, Nat.zero_add]
    simpa using hv
  · rw [cell_of_row _ _ _ _ _ _ hA, frozen_of_row _ _ _ _ _ hA, Nat.zero_add]
    refine ⟨?_, rfl⟩
    have : j < vs.size := by simpa using hj
    simp [this]
theorem Rb.store (h : X.there b o vs.length) (hl : b < X.heap.size) : Rb (X.setCells b o vs) b o vs :=
  ⟨World.rangeAt_setCells_same X b o vs h, World.there_setCells h b o _, by have := (grown_setNv b vs o X).size; omega⟩
end

section
variable {ops : Array Oper} {rest : List Oper} {op : Oper} {a : Act} {w : World} {Q : Exit → Act → World → Prop} {K : Act → World → Prop}
theorem run_zero85 (w : World) : (zeroValue 137).run Tryz.prog w = .ok (.agg tz) w := Tryz.zeroValue137 w
theorem size85 : (Tryz.prog.info? 137).map (·.size) = some 33 := by kernel_rfl
theorem wp_alloc_tb (ho : op.op = .alloc 137) (h : ∀ Y g, Rb Y g 0 tz.toList → Below w.heap.size w Y → w.heap.size ≤ g → K (a.put op.dst (.pointer (some ⟨g, 0, none⟩))) Y) : op.wp Tryz.prog a w K Q := by
  unfold Oper.wp execOp
  simp only [ho, Instr.alloc, Sem.run_bind, run_zero85, Result.andThen_ok, newVar, newRow, run_newObj_alloc, Sem.run_pure, Value.cells]
  exact h _ _ (Rb.new w tz _) ((Below.refl _ _).alloc (Nat.le_refl _) _) (Nat.le_refl _)
theorem list_alloc_tb (hgd : op.guard = none) (ho : op.op = .alloc 137) (d : Nat) (hd : op.dst = some d) (h : ∀ Y g, Rb Y g 0 tz.toList → Below w.heap.size w Y → w.heap.size ≤ g → wpList Tryz.prog ops Q rest (a.put (some d) (.pointer (some ⟨g, 0, none⟩))) Y) : wpList Tryz.prog ops Q (op :: rest) a w :=
  wpList_plain hgd fun _ hK => wp_alloc_tb ho (fun Y g h1 h2 h3 => by rw [hd]; exact hK _ _ (h Y g h1 h2 h3))
theorem tz_len : tz.toList.length = 33 := by simp [tz]
theorem wp_store_tb (x y : Operand) (ho : op.op = .store 137 x y) (b : Nat) (hx : a.eval x = .pointer (some ⟨b, 0, none⟩)) (hy : a.eval y = .agg tb) (ht : Rb w b 0 tz.toList)
    (h : ∀ Y, Rb Y b 0 tbL → w.grownBy Y (some b) → K (a.put op.dst undef) Y) : op.wp Tryz.prog a w K Q := by
  have hth : w.there b 0 33 := by have := ht.ok; rw [tz_len] at this; exact this
  have hsz : tb.size = 33 := tbL_len
  refine wp_store_mid _ x y ho b 0 tb hx hy (by rw [hsz]; exact hth) (by rw [hsz]; exact size85) (all_oneCell_toArray tbL_one) ?_
  exact h _ (Rb.store (vs := tbL) (by rw [tbL_len]; exact hth) ht.lt) (grown_setNv b _ 0 w)
theorem list_store_tb (hgd : op.guard = none) (x y : Operand) (ho : op.op = .store 137 x y) (b : Nat) (hx : a.eval x = .pointer (some ⟨b, 0, none⟩)) (hy : a.eval y = .agg tb) (ht : Rb w b 0 tz.toList)
    (h : ∀ Y, Rb Y b 0 tbL → w.grownBy Y (some b) → wpList Tryz.prog ops Q rest (a.put op.dst undef) Y) : wpList Tryz.prog ops Q (op :: rest) a w :=
  wpList_plain hgd fun _ hK => wp_store_tb x y ho b hx hy ht (fun Y h1 h2 => hK _ _ (h Y h1 h2))
theorem results_tb {fn : Func} {p : Tmp} (h : fn.results = #[.cell p 137]) (tmps : Array Value) (w : World) (b : Nat) (hp : tmps.getD p undef = .pointer (some ⟨b, 0, none⟩)) (hc : w.rangeAt b 0 tbL) : (results fn tmps).run Tryz.prog w = .ok (.agg tb) w := by
  have hp' : tmps[p]?.getD undef = .pointer (some ⟨b, 0, none⟩) := by simpa using hp
  have hl := run_loadVar_mid (P := Tryz.prog) w b 0 137 tbL _ hc Tryz.underlying137 rfl (by rw [tbL_len]; exact size85)
  simp [results, h, hp', asAddr, hl, tb]
theorem built_tb : Tryz.prog.built 137 [(1, .agg (st13 1).toArray), (2, .agg (st13 2).toArray), (3, .agg (st13 3).toArray), (4, .agg (st13 4).toArray), (5, .agg (st13 5).toArray), (6, .agg (st13 6).toArray), (7, .agg (st13 7).toArray), (8, .agg (st13 8).toArray), (9, .agg (st13 9).toArray), (10, .agg (st13 10).toArray)] = some tb := by kernel_rfl
end
/-! The steps of the table. -/
theorem index_tb1 (W : World) : (Instr.index 137 (.agg tb) (.int .i64 1)).run Tryz.prog W = .ok (.agg #[fv 117, fv 118, fv 119]) W := by kernel_rfl
theorem index_tb2 (W : World) : (Instr.index 137 (.agg tb) (.int .i64 2)).run Tryz.prog W = .ok (.agg #[fv 117, fv 118, fv 120]) W := by kernel_rfl
theorem index_tb3 (W : World) : (Instr.index 137 (.agg tb) (.int .i64 3)).run Tryz.prog W = .ok (.agg #[fv 114, fv 115, fv 116]) W := by kernel_rfl
theorem index_tb4 (W : World) : (Instr.index 137 (.agg tb) (.int .i64 4)).run Tryz.prog W = .ok (.agg #[fv 114, fv 115, fv 116]) W := by kernel_rfl
theorem index_tb5 (W : World) : (Instr.index 137 (.agg tb) (.int .i64 5)).run Tryz.prog W = .ok (.agg #[fv 114, fv 115, fv 116]) W := by kernel_rfl
theorem index_tb6 (W : World) : (Instr.index 137 (.agg tb) (.int .i64 6)).run Tryz.prog W = .ok (.agg #[fv 114, fv 115, fv 116]) W := by kernel_rfl
theorem index_tb7 (W : World) : (Instr.index 137 (.agg tb) (.int .i64 7)).run Tryz.prog W = .ok (.agg #[fv 117, fv 118, fv 121]) W := by kernel_rfl
theorem index_tb8 (W : World) : (Instr.index 137 (.agg tb) (.int .i64 8)).run Tryz.prog W = .ok (.agg #[fv 122, fv 123, fv 121]) W := by kernel_rfl
theorem index_tb9 (W : World) : (Instr.index 137 (.agg tb) (.int .i64 9)).run Tryz.prog W = .ok (.agg #[fv 124, fv 125, fv 126]) W := by kernel_rfl
theorem index_tb10 (W : World) : (Instr.index 137 (.agg tb) (.int .i64 10)).run Tryz.prog W = .ok (.agg #[fv 127, fv 118, fv 116]) W := by kernel_rfl

set_option maxHeartbeats 4000000 in
set_option maxRecDepth 100000 in
theorem implSteps (w : World) : Calls Tryz.prog 100 #[] w fun e w' => e = .returned (.agg tb) ∧ Below w.heap.size w w' := by
  go_enter Tryz.func100, Tryz.ntmps100
  go_wp2_with (guard_target = wpList _ _ _ _ _ _; first | (refine list_alloc_tb rfl rfl 0 rfl (fun Y1 g1 hN1 hB1 hG1 => ?_)) | (refine wpList_buildTo rfl _ _ (op := ⟨some 13, _, _, _, _, _⟩) rfl _ rfl tb (by exact built_tb) ?_) | (refine list_store_tb rfl _ _ rfl g1 rfl rfl ?_ (fun Y2 hN2 hG2 => ?_)))
  · exact hN1.below ((Below.refl _ _).alloc (Nat.le_refl _) _)
  · have hb2 : Below w.heap.size w (Y1.alloc (.cells #[fv 114, fv 115, fv 116] 136)) := hB1.alloc hB1.size _
    refine bodyPost_ret (v := .agg tb) (results_tb Tryz.results100 _ _ g1 rfl hN2.cs) rfl ⟨rfl, ?_⟩
    exact hb2.grown hG2 hb2.size (fun q e => by injection e with e; omega)

end Go.Proofs.YtogobeegibngiaaGreatDoor
