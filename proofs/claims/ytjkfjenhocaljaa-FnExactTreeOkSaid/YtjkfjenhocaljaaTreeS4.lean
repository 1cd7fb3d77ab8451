/-
  The contract of chapter 6's specification: the node of a word.
-/
import Derived.Test.YtjkfjenhocaljaaTreeS3
import Derived.Deep.RegionWith
namespace Go.Proofs.Ytjkfjenhocaljaa
open Go.RowKit

theorem part_le (ws : List (List UInt8)) (j : Nat) : (ws.getD j []).length ≤ ws.flatten.length := by
  induction ws generalizing j with
  | nil => simp
  | cons x r ih =>
    cases j with
    | zero => simp
    | succ j => have := ih j; simp only [List.getD_cons_succ, List.flatten_cons, List.length_append]; omega

/-- Four cells of one block are written. -/
theorem four_set (w : World) (b : Nat) (n : Nd) {u0 u1 u2 u3 : Value} (r0 : w.cell? ⟨b, 0, none⟩ = some u0) (r1 : w.cell? ⟨b, 1, none⟩ = some u1) (r2 : w.cell? ⟨b, 2, none⟩ = some u2) (r3 : w.cell? ⟨b, 3, none⟩ = some u3) :
    let X := ((((w.setCell ⟨b, 0, none⟩ (.int .i64 n.1)).setCell ⟨b, 1, none⟩ (.int .i64 n.2.1)).setCell ⟨b, 2, none⟩ (.string ⟨n.2.2.1.toArray⟩)).setCell ⟨b, 3, none⟩ (.string ⟨n.2.2.2.toArray⟩))
    X.cell? ⟨b, 0, none⟩ = some (.int .i64 n.1) ∧ X.cell? ⟨b, 1, none⟩ = some (.int .i64 n.2.1) ∧ X.cell? ⟨b, 2, none⟩ = some (.string ⟨n.2.2.1.toArray⟩) ∧ X.cell? ⟨b, 3, none⟩ = some (.string ⟨n.2.2.2.toArray⟩) := by
  intro X
  have o : ∀ (W : World) (i j : Nat) (v : Value), i ≠ j → (W.setCell ⟨b, i, none⟩ v).cell? ⟨b, j, none⟩ = W.cell? ⟨b, j, none⟩ := fun W i j v h => World.cell?_setCell_other _ _ _ _ (by intro e; injection e with _ e; omega)
  refine ⟨?_, ?_, ?_, ?_⟩
  · exact (o _ 3 0 _ (by omega)).trans ((o _ 2 0 _ (by omega)).trans ((o _ 1 0 _ (by omega)).trans (World.cell?_setCell_same _ _ _ r0)))
  · exact (o _ 3 1 _ (by omega)).trans ((o _ 2 1 _ (by omega)).trans (World.cell?_setCell_same _ _ _ ((o _ 0 1 _ (by omega)).trans r1)))
  · exact (o _ 3 2 _ (by omega)).trans (World.cell?_setCell_same _ _ _ ((o _ 1 2 _ (by omega)).trans ((o _ 0 2 _ (by omega)).trans r2)))
  · exact World.cell?_setCell_same _ _ _ ((o _ 2 3 _ (by omega)).trans ((o _ 1 3 _ (by omega)).trans ((o _ 0 3 _ (by omega)).trans r3)))

theorem four_below {w W : World} (h : Below w.heap.size w W) (u0 u1 u2 u3 : Value) : Below w.heap.size w ((((W.setCell ⟨w.heap.size, 0, none⟩ u0).setCell ⟨w.heap.size, 1, none⟩ u1).setCell ⟨w.heap.size, 2, none⟩ u2).setCell ⟨w.heap.size, 3, none⟩ u3) :=
  (((h.setCell (p := ⟨w.heap.size, 0, none⟩) (Nat.le_refl _) _).setCell (p := ⟨w.heap.size, 1, none⟩) (Nat.le_refl _) _).setCell (p := ⟨w.heap.size, 2, none⟩) (Nat.le_refl _) _).setCell (p := ⟨w.heap.size, 3, none⟩) (Nat.le_refl _) _


end Go.Proofs.Ytjkfjenhocaljaa
