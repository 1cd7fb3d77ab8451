/-
  Plain facts for FnFrames: what is framed is read as its text; cut, or with one byte turned, it is no frame.
-/
import Derived.Test.YtdjbcjmnegjndaaMath2
namespace Go.Proofs.Ytdjbcjmnegjndaa

theorem hexL_len (n : Nat) : (hexL n).length = 8 := rfl
theorem framedL_len (l : List UInt8) : (framedL l).length = 16 + l.length := by
  unfold framedL; rw [List.length_append, List.length_append, hexL_len, hexL_len]

theorem framed_8 (l : List UInt8) : (framedL l).take 8 = hexL l.length := by
  unfold framedL
  rw [List.append_assoc]
  exact List.take_left' (hexL_len _)
theorem framed_16 (l : List UInt8) : ((framedL l).drop 8).take 8 = hexL (hashL l).toNat := by
  unfold framedL
  rw [List.append_assoc, List.drop_left' (hexL_len _)]
  exact List.take_left' (hexL_len _)
theorem framed_rest (l : List UInt8) : (framedL l).drop 16 = l := by
  unfold framedL
  exact List.drop_left' (by rw [List.length_append, hexL_len, hexL_len])

theorem hexL_read (n : Nat) (h : n ≤ 4294967295) : fromB (hexL n) = true ∧ fromN (hexL n) = (n : Int) := by
  have e := from_hexL n h
  have hne : fromL (hexL n) ≠ -1 := by rw [e]; omega
  have hy := from_yes (hexL n) (hexL_len n) hne
  exact ⟨hy.1, by rw [hy.2, e]⟩

theorem hexL_inj (m n : Nat) (hm : m ≤ 4294967295) (hn : n ≤ 4294967295) (h : hexL m = hexL n) : m = n := by
  have e1 := from_hexL m hm
  have e2 := from_hexL n hn
  rw [h, e2] at e1
  omega

theorem hash_nat (l : List UInt8) : (hashL l).toNat ≤ 4294967295 ∧ ((hashL l).toNat : Int) = hashL l := by
  have := hashL_bd l
  omega

/-- A frame is read. -/
theorem first_framed (l : List UInt8) (hl : l.length ≤ 20000) (r : List UInt8) : firstB (framedL l ++ r) = true ∧ firstT (framedL l ++ r) = l ∧ firstN (framedL l ++ r) = 16 + (l.length : Int) := by
  have hlen := framedL_len l
  have t8 : (framedL l ++ r).take 8 = hexL l.length := by
    rw [List.take_append_of_le_length (by omega)]; exact framed_8 l
  have t16 : ((framedL l ++ r).drop 8).take 8 = hexL (hashL l).toNat := by
    rw [List.drop_append_of_le_length (by omega), List.take_append_of_le_length (by rw [List.length_drop]; omega)]; exact framed_16 l
  have tr : (framedL l ++ r).drop 16 = l ++ r := by
    rw [List.drop_append_of_le_length (by omega), framed_rest]
  have h1 := hexL_read l.length (by omega)
  have hn := hash_nat l
  have h2 := hexL_read (hashL l).toNat hn.1
  have hy := firstB_yes (framedL l ++ r) (by
    rw [t8, t16, tr, h1.1, h1.2, h2.1, h2.2, List.length_append, hlen]
    refine ⟨by omega, rfl, rfl, by omega, by omega, ?_⟩
    rw [Int.toNat_natCast, List.take_left' rfl, hn.2])
  refine ⟨hy.2.2, ?_, ?_⟩
  · rw [hy.1, t8, tr, h1.2, Int.toNat_natCast, List.take_left' rfl]
  · rw [hy.2.1, t8, h1.2]

/-- What is read is a frame of its text. -/
theorem first_is (t : List UInt8) (h : firstB t = true) : (firstT t).length ≤ 20000 ∧ firstN t = 16 + ((firstT t).length : Int) ∧ t = framedL (firstT t) ++ t.drop (16 + (firstT t).length) := by
  have hp := of_decide_eq_true h
  have hy := firstB_yes t hp
  obtain ⟨h16, b1, b2, hn, hle, hh⟩ := hp
  have nb := fromN_bd (t.take 8)
  have e1 := hexS_from _ b1
  have e2 := hexS_from _ b2
  rw [hexS_yes _ nb.1 nb.2] at e1
  have hb := fromN_bd ((t.drop 8).take 8)
  rw [hexS_yes _ hb.1 hb.2] at e2
  obtain ⟨k, hk⟩ := Int.eq_ofNat_of_zero_le nb.1
  rw [hk] at e1 hn hle hh
  have hyT := hy.1
  have hyN := hy.2.1
  rw [hk] at hyT hyN
  rw [Int.toNat_natCast] at hyT e1 hh
  have hlen : (firstT t).length = k := by rw [hyT, List.length_take, List.length_drop]; omega
  refine ⟨by omega, by rw [hyN, hlen], ?_⟩
  have e3 : t = t.take 8 ++ ((t.drop 8).take 8 ++ ((t.drop 16).take k ++ t.drop (16 + k))) := by
    have d16 : t.drop 16 = (t.drop 8).drop 8 := by rw [List.drop_drop]
    have dk : t.drop (16 + k) = (t.drop 16).drop k := by rw [List.drop_drop]
    rw [dk, List.take_append_drop, d16, List.take_append_drop, List.take_append_drop]
  have hh2 : (hashL (firstT t)).toNat = (fromN ((t.drop 8).take 8)).toNat := by rw [hyT, hh]
  unfold framedL
  rw [hlen, hh2, e1, e2, hyT, List.append_assoc, List.append_assoc]
  exact e3

theorem unframed_framed (l : List UInt8) (hl : l.length ≤ 20000) : unframedB (framedL l) = true ∧ unframedT (framedL l) = l := by
  have h := first_framed l hl []
  rw [List.append_nil] at h
  have hy := unframed_yes (framedL l) h.1 (by rw [h.2.2, framedL_len]; omega)
  exact ⟨hy.2, by rw [hy.1, h.2.1]⟩

theorem unframed_is (t : List UInt8) (h : unframedB t = true) : (unframedT t).length ≤ 20000 ∧ framedL (unframedT t) = t := by
  have hb : firstB t = true := by unfold unframedB at h; simp at h; exact h.1
  have hn : firstN t = (t.length : Int) := by unfold unframedB at h; simp at h; exact h.2
  have hy := unframed_yes t hb hn
  have hf := first_is t hb
  have hz : t.drop (16 + (firstT t).length) = [] := by
    apply List.drop_eq_nil_of_le
    have := hf.2.1
    omega
  rw [hz, List.append_nil] at hf
  rw [hy.1]
  exact ⟨hf.1, hf.2.2.symm⟩

theorem unframed_back (t : List UInt8) (h : unframedB t = true) : framedS (unframedT t) = t := by
  have hu := unframed_is t h
  rw [framedS_yes _ hu.1]
  exact hu.2

/-- Cut, it is none. -/
theorem unframed_cut (l : List UInt8) (hl : l.length ≤ 20000) (k : Nat) (hk : k < 16 + l.length) : unframedB ((framedL l).take k) = false := by
  rcases hb : unframedB ((framedL l).take k) with _ | _
  · rfl
  · have hu := unframed_is _ hb
    have hlen := framedL_len l
    have e1 : ((framedL l).take k).length = k := by rw [List.length_take]; omega
    have e2 := framedL_len (unframedT ((framedL l).take k))
    rw [hu.2, e1] at e2
    have e3 : ((framedL l).take k).take 8 = hexL l.length := by
      rw [List.take_take, Nat.min_eq_left (by omega)]; exact framed_8 l
    have e4 := framed_8 (unframedT ((framedL l).take k))
    rw [hu.2, e3] at e4
    have := hexL_inj _ _ (by omega) (by omega) e4
    omega

/-- With one byte turned, it is none. -/
theorem unframed_set (l : List UInt8) (k : Nat) (c : UInt8) (h : unframedB ((framedL l).set k c) = true) : (framedL l).set k c = framedL l := by
  have hu := unframed_is _ h
  have hlen := framedL_len l
  have e2 := framedL_len (unframedT ((framedL l).set k c))
  rw [hu.2, List.length_set, hlen] at e2
  by_cases hk : k < 16
  · have e3 := framed_rest (unframedT ((framedL l).set k c))
    rw [hu.2, List.drop_set_of_lt hk, framed_rest] at e3
    rw [← hu.2, ← e3]
  · have e3 := framed_rest (unframedT ((framedL l).set k c))
    have e4 := framed_16 (unframedT ((framedL l).set k c))
    rw [hu.2] at e3 e4
    have e5 : (((framedL l).set k c).drop 8).take 8 = hexL (hashL l).toNat := by
      rw [List.drop_set, if_neg (by omega), List.take_set_of_le (by omega)]
      exact framed_16 l
    rw [e5] at e4
    have e6 : ((framedL l).set k c).drop 16 = l.set (k - 16) c := by
      rw [List.drop_set, if_neg (by omega), framed_rest]
    rw [e6] at e3
    rw [← e3] at e4
    have h1 := hash_nat l
    have h2 := hash_nat (l.set (k - 16) c)
    have e7 := hexL_inj _ _ h1.1 h2.1 e4
    have e8 : hashL (l.set (k - 16) c) = hashL l := by rw [← h2.2, ← h1.2, e7]
    have e9 := hash_set l (k - 16) c e8
    rw [← hu.2, ← e3, e9]

theorem unframed_turned (l : List UInt8) (hl : l.length ≤ 20000) (p q : Int) : unframedB (turnedL (framedL l) p q) = (turnedL (framedL l) p q == framedL l) := by
  rw [Bool.eq_iff_iff, beq_iff_eq]
  constructor
  · intro h
    unfold turnedL at h ⊢
    split at h
    · rename_i hc; rw [if_pos hc]; exact unframed_set l _ _ h
    · rename_i hc; rw [if_neg hc]
  · intro h; rw [h]; exact (unframed_framed l hl).1

end Go.Proofs.Ytdjbcjmnegjndaa
