/-
  Plain facts for FnParts.
-/
import Derived.Test.YtjkfjenhocaljaaLawT
namespace Go.Proofs.Ytjkfjenhocaljaa
open Go.RowKit

theorem endV_bd (l : List Nd) (a : Int) : -1 ≤ endV l a ∧ endV l a ≤ l.length := by
  unfold endV endN
  split
  · omega
  · split
    · split
      · rename_i d h
        have := endGo_le _ _ _ h
        rw [List.length_drop] at this
        omega
      · omega
    · omega

theorem chain_succ (l : List Nd) : ∀ (k : Nat) (a : Int), chain l (k + 1) a = endV l (chain l k a)
  | 0, a => rfl
  | k + 1, a => by
    show chain l (k + 1) (endV l a) = endV l (chain l k (endV l a))
    exact chain_succ l k (endV l a)

theorem chain_bd (l : List Nd) (k : Nat) (a : Int) (h0 : -1 ≤ a) (h1 : a ≤ 100) (hl : l.length ≤ 100) : -1 ≤ chain l k a ∧ chain l k a ≤ 100 := by
  cases k with
  | zero => exact ⟨h0, h1⟩
  | succ k => rw [chain_succ]; have := endV_bd l (chain l k a); omega

theorem partsGo_at (l : List Nd) : ∀ (q i : Nat) (a : Int), i < q → (partsGo l q a)[i]? = some (chain l i a)
  | 0, _, _, h => by omega
  | q + 1, 0, a, _ => by simp [partsGo, chain]
  | q + 1, i + 1, a, h => by
    rw [partsGo, List.getElem?_cons_succ, partsGo_at l q i _ (by omega)]; rfl

theorem nodes_sub {w : World} {g off len : Nat} {ns : List Nd} (h : NodesIn w (some ⟨g, off, none⟩) len ns) (k m : Nat) (hk : k + m ≤ len) : NodesIn w (some ⟨g, off + k * 4, none⟩) m ((ns.drop k).take m) := by
  refine ⟨by rw [List.length_take, List.length_drop, h.1]; omega, fun j hj => ?_⟩
  obtain ⟨b, o, e, hlt, c0, c1, c2, c3⟩ := h.2 (k + j) (by omega)
  simp only [Option.some.injEq, Addr.mk.injEq, and_true] at e
  obtain ⟨rfl, rfl⟩ := e
  have hg : ((ns.drop k).take m).getD j nd0 = ns.getD (k + j) nd0 := by
    simp only [List.getD_eq_getElem?_getD, List.getElem?_take, if_pos hj, List.getElem?_drop]
  rw [hg]
  have e0 : off + k * 4 + j * 4 = off + (k + j) * 4 := by omega
  exact ⟨g, off + k * 4, rfl, hlt, by rw [e0]; exact c0, by rw [e0]; exact c1, by rw [e0]; exact c2, by rw [e0]; exact c3⟩

/-- What FnParts asks, of a drawn list at a place with a tree. -/
theorem parts_facts {T : List Nd} {x : Int} (h : 0 ≤ endV T x) (he : EndsOk T) : ∃ k q : Nat, x = (k : Int) ∧ k < T.length ∧ q ≤ 3 ∧ partsV T x = partsGo T q (x + 1) ∧ kidsOfV (T.getD k nd0) = (q : Int) ∧ chain T q (x + 1) = endV T x ∧ x < endV T x ∧ endV T x ≤ T.length ∧ treeB ((T.drop k).take (endV T x - k).toNat) = true := by
  have hx : 0 ≤ x := by
    rcases Int.lt_or_le x 0 with h' | h'
    · rw [endV_out T x (Or.inl h')] at h; omega
    · exact h'
  obtain ⟨k, rfl⟩ : ∃ k : Nat, x = (k : Int) := Int.eq_ofNat_of_zero_le hx
  obtain ⟨h1, h2, h3, h4, h5⟩ := end_parts h
  have hk := kidsV_ok h2
  refine ⟨k, kidsN (T.getD k nd0), rfl, h1, hk.2, ?_, ?_, h3, h4, h5, cut_tree h (he k h)⟩
  · unfold partsV; rw [if_neg (by omega), Int.toNat_natCast]; rfl
  · have h2' : nodeB (T.getD k nd0) = true := h2
    unfold kidsOfV; rw [if_pos h2']; exact hk.1

end Go.Proofs.Ytjkfjenhocaljaa
