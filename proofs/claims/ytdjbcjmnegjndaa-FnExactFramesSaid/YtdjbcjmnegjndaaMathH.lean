/-
  Plain facts for FnHashes: one byte turned into another gives another hash.
-/
import Derived.Test.YtdjbcjmnegjndaaMath1
import Derived.Test.YtdjbcjmnegjndaaMathT
namespace Go.Proofs.Ytdjbcjmnegjndaa

theorem inv_mul (d m : Int) (hd : 1000003 * d = 2147483647 * m) : d = 2147483647 * (1523789695 * m - 709572 * d) := by
  have hu : 1523789695 * (1000003 * d) = 1523789695 * (2147483647 * m) := by rw [hd]
  rw [← Int.mul_assoc, ← Int.mul_assoc] at hu
  clear hd
  omega

theorem small_mul (d r : Int) (h : d = 2147483647 * r) (h0 : -2147483647 < d) (h1 : d < 2147483647) : d = 0 := by omega

theorem hashStep_inj (h1 h2 : Int) (b : UInt8) (k1 : 0 ≤ h1 ∧ h1 < 2147483647) (k2 : 0 ≤ h2 ∧ h2 < 2147483647) (h : hashStep h1 b = hashStep h2 b) : h1 = h2 := by
  unfold hashStep at h
  have h3 : (1000003 * h1 + (b.toNat : Int) + 1 - (1000003 * h2 + (b.toNat : Int) + 1)) % 2147483647 = 0 := Int.emod_eq_emod_iff_emod_sub_eq_zero.1 h
  obtain ⟨m, hm⟩ := Int.dvd_of_emod_eq_zero h3
  clear h h3
  have e : 1000003 * (h1 - h2) = 1000003 * h1 + (b.toNat : Int) + 1 - (1000003 * h2 + (b.toNat : Int) + 1) := by clear hm; omega
  have hd : 1000003 * (h1 - h2) = 2147483647 * m := e.trans hm
  have l1 : -2147483647 < h1 - h2 := by clear hm hd e; omega
  have l2 : h1 - h2 < 2147483647 := by clear hm hd e; omega
  have hq := small_mul (h1 - h2) _ (inv_mul (h1 - h2) m hd) l1 l2
  exact Int.eq_of_sub_eq_zero hq

theorem hashStep_byte (n : Int) (b c : UInt8) (h : hashStep n b = hashStep n c) : b = c := by
  have hb := b.toNat_lt
  have hc := c.toNat_lt
  unfold hashStep at h
  have e : b.toNat = c.toNat := by omega
  exact UInt8.toNat_inj.1 e

theorem fold_inj (l : List UInt8) (h1 h2 : Int) (k1 : 0 ≤ h1 ∧ h1 < 2147483647) (k2 : 0 ≤ h2 ∧ h2 < 2147483647) (h : l.foldl hashStep h1 = l.foldl hashStep h2) : h1 = h2 := by
  induction l generalizing h1 h2 with
  | nil => exact h
  | cons b r ih => exact hashStep_inj h1 h2 b k1 k2 (ih _ _ (hashStep_bd h1 b) (hashStep_bd h2 b) h)

theorem hash_set (l : List UInt8) (k : Nat) (c : UInt8) (h : hashL (l.set k c) = hashL l) : l.set k c = l := by
  by_cases hk : k < l.length
  · have e1 : l.set k c = l.take k ++ c :: l.drop (k + 1) := by rw [List.set_eq_take_append_cons_drop, if_pos hk]
    have e2 : l = l.take k ++ l[k] :: l.drop (k + 1) := by rw [← List.drop_eq_getElem_cons hk, List.take_append_drop]
    have e3 : hashL l = (l.drop (k + 1)).foldl hashStep (hashStep (hashL (l.take k)) l[k]) := by
      conv => lhs; rw [e2]
      unfold hashL; rw [List.foldl_append]; rfl
    have e4 : hashL (l.set k c) = (l.drop (k + 1)).foldl hashStep (hashStep (hashL (l.take k)) c) := by
      rw [e1]; unfold hashL; rw [List.foldl_append]; rfl
    rw [e3, e4] at h
    have e5 := hashStep_byte _ _ _ (fold_inj _ _ _ (hashStep_bd _ _) (hashStep_bd _ _) h)
    rw [e5]; exact List.set_getElem_self hk
  · exact List.set_eq_of_length_le (by omega)

theorem hash_turned (l : List UInt8) (p q : Int) : (hashL (turnedL l p q) == hashL l) = (turnedL l p q == l) := by
  rw [Bool.eq_iff_iff, beq_iff_eq, beq_iff_eq]
  constructor
  · intro h
    unfold turnedL at h ⊢
    split at h
    · rename_i hc; rw [if_pos hc]; exact hash_set l _ _ h
    · rename_i hc; rw [if_neg hc]
  · intro h; rw [h]

theorem turned_len (l : List UInt8) (p q : Int) : (turnedL l p q).length = l.length := by
  unfold turnedL; split <;> simp

theorem hash_xy (l : List UInt8) : (hashL (l ++ [120]) != hashL (l ++ [121])) = true := by
  rw [bne_iff_ne, hashL_snoc, hashL_snoc]
  intro h
  exact absurd (hashStep_byte _ _ _ h) (by decide)

end Go.Proofs.Ytdjbcjmnegjndaa
