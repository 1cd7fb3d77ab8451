/-
  Parts of one proof, one behind the other: R3B.
-/
import Derived.Test.YtenaaneckobdpaaGreatP22
import Derived.Test.YtenaaneckobdpaaGreatP16
import Derived.Test.YtenaaneckobdpaaGreatP15
import Derived.Test.YtenaaneckobdpaaGreatP1
namespace Go.Proofs.YtenaaneckobdpaaGreat
open Go.RowKit
section
variable {op : Oper} {a : Act} {w : World} {Q : Exit → Act → World → Prop} {K : Act → World → Prop}
theorem sizeRt14 : (Tryz.prog.info? 41).map (·.size) = some 3 := by kernel_rfl
structure R3 (X : World) (b : Nat) (u0 u1 u2 : Value) : Prop where
 c0 : X.cell? ⟨b, 0, none⟩ = some u0
 c1 : X.cell? ⟨b, 1, none⟩ = some u1
 c2 : X.cell? ⟨b, 2, none⟩ = some u2
 f : ∀ j, X.frozen? ⟨b, j, none⟩ = false
 l : b < X.heap.size
theorem R3.below {X Y : World} {b : Nat} {u0 u1 u2 : Value} (h : R3 X b u0 u1 u2) (hb : Below X.heap.size X Y) : R3 Y b u0 u1 u2 :=
 ⟨(hb.cell (p := ⟨b, 0, none⟩) h.l).trans h.c0, (hb.cell (p := ⟨b, 1, none⟩) h.l).trans h.c1, (hb.cell (p := ⟨b, 2, none⟩) h.l).trans h.c2, fun j => (hb.frozen (p := ⟨b, j, none⟩) h.l).trans (h.f j), Nat.lt_of_lt_of_le h.l hb.size⟩
theorem zcx (ho : op.op = .alloc 41) (d : Nat) (hd : op.dst = some d) (h : ∀ Y g, R3 Y g (.string ⟨#[]⟩) (.int .i64 0) (.slice none 0 0) → Below w.heap.size w Y → w.heap.size ≤ g → K (a.put (some d) (.pointer (some ⟨g, 0, none⟩))) Y) : op.wp Tryz.prog a w K Q := by
 unfold Oper.wp execOp
 simp only [ho, Instr.alloc, Sem.run_bind, Tryz.zeroValue41, Result.andThen_ok, newVar, newRow, run_newObj_alloc, Sem.run_pure, Value.cells]
 have hA := heap_alloc_new w (.cells #[.string ⟨#[]⟩, .int .i64 0, .slice none 0 0] 41)
 have h2 := h _ _ ⟨by rw [cell_of_row _ _ _ _ _ _ hA]; rfl, by rw [cell_of_row _ _ _ _ _ _ hA]; rfl, by rw [cell_of_row _ _ _ _ _ _ hA]; rfl, fun j => frozen_of_row _ _ _ _ _ hA, lt_of_block hA⟩ ((Below.refl _ _).alloc (Nat.le_refl _) _) (Nat.le_refl _)
 rw [← hd] at h2
 exact h2
theorem zcw (x y : Operand) (ho : op.op = .store 41 x y) (b : Nat) (n : List UInt8) (A : Int) (ca : Option Addr) (cl cc : Nat) {u0 u1 u2 : Value} (hx : a.eval x = .pointer (some ⟨b, 0, none⟩)) (hy : a.eval y = .agg #[.string ⟨n.toArray⟩, .int .i64 A, .slice ca cl cc]) (ht : R3 w b u0 u1 u2)
 (h : ∀ Y, R3 Y b (.string ⟨n.toArray⟩) (.int .i64 A) (.slice ca cl cc) → w.grownBy Y (some b) → K (a.put op.dst undef) Y) : op.wp Tryz.prog a w K Q := by
 have hth : w.there b 0 3 := fun j hj => by
  refine ⟨?_, ht.f _⟩
  match j, hj with
  | 0, _ => rw [ht.c0]; rfl
  | 1, _ => rw [ht.c1]; rfl
  | 2, _ => rw [ht.c2]; rfl
 refine wp_store_mid _ x y ho b 0 #[.string ⟨n.toArray⟩, .int .i64 A, .slice ca cl cc] hx hy hth sizeRt14 (all_oneCell_toArray (by intro v hv; simp only [List.mem_cons, List.not_mem_nil, or_false] at hv; rcases hv with rfl | rfl | rfl <;> rfl)) ?_
 obtain ⟨Y, hY, y0, y1, y2, hg⟩ := set3R (.string ⟨n.toArray⟩) (.int .i64 A) (.slice ca cl cc) ht.c0 ht.c1 ht.c2
 refine h _ ?_ ?_
 ·
  show R3 (((w.setCell ⟨b, 0, none⟩ _).setCell ⟨b, 1, none⟩ _).setCell ⟨b, 2, none⟩ _) b _ _ _
  rw [hY]
  exact ⟨y0, y1, y2, fun j => by rw [← hY]; simpa using ht.f j, by have := hg.size; have := ht.l; omega⟩
 ·
  show w.grownBy (((w.setCell ⟨b, 0, none⟩ _).setCell ⟨b, 1, none⟩ _).setCell ⟨b, 2, none⟩ _) (some b)
  rw [hY]
  exact hg
end
theorem zcH {Bs : Nat} (X : World) (y : RV) (hB : Bs ≤ X.heap.size) (hy : X.ownsRow Bs 58 5 (rvT y) y.1.2.2.length (insV y.1.2.2)) : za7 (X.alloc (.cells #[.string ⟨y.1.1.toArray⟩, .int .i64 y.1.2.1, rvT y] 41)) Bs (.slice (some ⟨X.heap.size, 0, none⟩) [y].length 1) [y] :=
 ⟨World.ownsRow_lit X #[.string ⟨y.1.1.toArray⟩, .int .i64 y.1.2.1, rvT y] 1 hB (by decide) rfl, fun x hx => by
  rw [List.mem_singleton] at hx
  subst hx
  exact za6 hy ((Below.refl _ _).alloc (Nat.le_refl _) _)⟩
end Go.Proofs.YtenaaneckobdpaaGreat
