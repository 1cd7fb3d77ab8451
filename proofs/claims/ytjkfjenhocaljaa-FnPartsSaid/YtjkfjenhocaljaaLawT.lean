/-
  What FnTrees and FnParts hold; plain facts of reading and showing.
-/
import Derived.Test.YtjkfjenhocaljaaDrawTr4
import Derived.Test.YtjkfjenhocaljaaNodeK
import Derived.Test.YtjkfjenhocaljaaIntsL
import Derived.Test.YtjkfjenhocaljaaTreeI3
import Derived.Test.YtjkfjenhocaljaaTreeX
namespace Go.Proofs.Ytjkfjenhocaljaa
open Go.RowKit

structure Hold6 (W : World) (D : Nat) (n : Nd) (aT : Option Addr) (T : List Nd) (aX : Option Addr) (X : List Nd) (aY : Option Addr) : Prop where
  c0 : W.cell? ⟨D, 0, none⟩ = some (.int .i64 n.1)
  c1 : W.cell? ⟨D, 1, none⟩ = some (.int .i64 n.2.1)
  c2 : W.cell? ⟨D, 2, none⟩ = some (.string ⟨n.2.2.1.toArray⟩)
  c3 : W.cell? ⟨D, 3, none⟩ = some (.string ⟨n.2.2.2.toArray⟩)
  t : NodesIn W aT T.length T
  x : NodesIn W aX X.length X
  y : NodesIn W aY X.length X

theorem Hold6.below {W W' : World} {D : Nat} {n : Nd} {aT : Option Addr} {T : List Nd} {aX : Option Addr} {X : List Nd} {aY : Option Addr} (h : Hold6 W D n aT T aX X aY) (hb : Below W.heap.size W W') : Hold6 W' D n aT T aX X aY :=
  have hl : D < W.heap.size := World.block_lt_of_cell? W ⟨D, 0, none⟩ h.c0
  ⟨(hb.cell (p := ⟨D, 0, none⟩) hl).trans h.c0, (hb.cell (p := ⟨D, 1, none⟩) hl).trans h.c1, (hb.cell (p := ⟨D, 2, none⟩) hl).trans h.c2, (hb.cell (p := ⟨D, 3, none⟩) hl).trans h.c3, h.t.below hb, h.x.below hb, h.y.below hb⟩

theorem Hold6.drew {W : World} {D : Nat} {n : Nd} {aT : Option Addr} {T : List Nd} {aX : Option Addr} {X : List Nd} {aY : Option Addr} (h : Hold6 W D n aT T aX X aY) : Hold6 W.drew D n aT T aX X aY := ⟨h.c0, h.c1, h.c2, h.c3, h.t, h.x, h.y⟩

theorem nodeB_small {n : Nd} (h : nodeB n = true) : SmallN n := by
  obtain ⟨k, a, p, f⟩ := n
  have hp := nodeB_iff.1 h
  unfold nodeP at hp
  simp only at hp
  unfold SmallN IntN
  simp only
  rcases hp with ⟨rfl, ⟨h0, h1⟩, rfl, rfl⟩ | ⟨rfl, ⟨h0, h1⟩, rfl, rfl⟩ | ⟨hk, rfl, rfl, rfl⟩ | ⟨rfl, ⟨h0, h1⟩, hpn, hfn⟩
  · exact ⟨⟨⟨by omega, by omega⟩, by omega, by omega⟩, by simp, by simp⟩
  · exact ⟨⟨⟨by omega, by omega⟩, by omega, by omega⟩, by simp, by simp⟩
  · exact ⟨⟨⟨by omega, by omega⟩, by omega, by omega⟩, by simp, by simp⟩
  · have := (name_letters hpn).1
    have := (name_letters hfn).1
    exact ⟨⟨⟨by omega, by omega⟩, by omega, by omega⟩, by omega, by omega⟩

theorem tree_small {ns : List Nd} (h : treeB ns = true) : SmallT ns := fun n hn => nodeB_small (tree_nodes h n hn)

theorem read_tv (s : List UInt8) : (readOk s = true ∧ treeB (readTV s) = true ∧ showT (readTV s) = s) ∨ (readOk s = false ∧ readTV s = []) := by
  rcases h : readOk s with _ | _
  · exact Or.inr ⟨rfl, by unfold readTV; rw [if_neg (by rw [h]; simp)]⟩
  · have hv : readTV s = readT s := by unfold readTV; rw [if_pos h]
    unfold readOk at h
    simp only [Bool.and_eq_true, decide_eq_true_eq, beq_iff_eq] at h
    refine Or.inl ⟨rfl, by rw [hv]; exact h.2.1, ?_⟩
    rw [hv]; unfold showT; rw [if_pos h.2.1]; exact h.2.2

theorem read_tv_small (s : List UInt8) : SmallT (readTV s) ∧ (readTV s).length ≤ 60 := by
  rcases read_tv s with ⟨_, h, _⟩ | ⟨_, h⟩
  · exact ⟨tree_small h, (tree_end h).1.2⟩
  · rw [h]; exact ⟨(fun n hn => by cases hn), by simp⟩

theorem tree_back {ns : List Nd} (h : treeB ns = true) : showT ns ≠ [] ∧ readOk (showT ns) = true ∧ readTV (showT ns) = ns := by
  have hs : showT ns = showL ns := by unfold showT; rw [if_pos h]
  have hr := readT_show ns h
  have hok : readOk (showL ns) = true := by
    unfold readOk
    rw [hr]
    have h1 := showL_len ns (tree_nodes h)
    have h2 := (tree_end h).1.2
    simp only [Bool.and_eq_true, decide_eq_true_eq, beq_iff_eq]
    exact ⟨by omega, h, trivial⟩
  refine ⟨?_, by rw [hs]; exact hok, by rw [hs]; unfold readTV; rw [if_pos hok]; exact hr⟩
  intro e
  rw [hs] at e
  rw [e] at hr
  have h0 : readT [] = [nd0] := by rfl
  rw [h0] at hr
  rw [← hr] at h
  exact absurd h (by decide)

theorem tree_not {ns : List Nd} (h : treeB ns = false) : showT ns = [] := by unfold showT; rw [if_neg (by rw [h]; simp)]

theorem kids_facts (n : Nd) : (nodeB n = true ∧ 0 ≤ kidsOfV n) ∨ (nodeB n = false ∧ kidsOfV n = -1) := by
  rcases h : nodeB n with _ | _
  · exact Or.inr ⟨rfl, by unfold kidsOfV; rw [if_neg (by rw [h]; simp)]⟩
  · exact Or.inl ⟨rfl, by unfold kidsOfV; rw [if_pos h, (kidsV_ok h).1]; omega⟩

end Go.Proofs.Ytjkfjenhocaljaa
