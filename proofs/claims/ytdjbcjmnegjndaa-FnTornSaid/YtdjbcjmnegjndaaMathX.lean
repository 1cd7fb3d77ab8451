/-
  Plain facts for FnHex: eight signs are read as the number that they were made of, and what is read is made again.
-/
import Derived.Test.YtdjbcjmnegjndaaMathF
namespace Go.Proofs.Ytdjbcjmnegjndaa

theorem hv_hexD (d : Nat) (h : d < 16) : hv (hexD d) = (d : Int) := by
  have key : ∀ d : Nat, d < 16 → hv (hexD d) = (d : Int) := by decide +kernel
  exact key d h

theorem hexD_hvN : ∀ n : Nat, n < 256 → hvN n = -1 ∨ hexD (hvN n).toNat = UInt8.ofNat n := by decide +kernel

theorem hexD_hv (c : UInt8) (h : 0 ≤ hv c) : hexD (hv c).toNat = c := by
  rcases hexD_hvN c.toNat c.toNat_lt with e | e
  · unfold hv at h; omega
  · unfold hv; rw [e]; simp

theorem hexStep_ok (n : Int) (c : UInt8) (d : Nat) (h0 : 0 ≤ n) (h : hv c = (d : Int)) : hexStep n c = 16 * n + d := by
  unfold hexStep; rw [if_neg (by omega), h]

theorem fold_digits (ds : List Nat) (n : Int) (h0 : 0 ≤ n) (h : ∀ d ∈ ds, d < 16) : (ds.map hexD).foldl hexStep n = ds.foldl (fun (m : Int) (d : Nat) => 16 * m + (d : Int)) n := by
  induction ds generalizing n with
  | nil => rfl
  | cons d r ih =>
    rw [List.map_cons, List.foldl_cons, List.foldl_cons, hexStep_ok n _ d h0 (hv_hexD d (h d List.mem_cons_self))]
    exact ih _ (by omega) (fun x hx => h x (List.mem_cons_of_mem _ hx))

theorem from_hexL (n : Nat) (h : n ≤ 4294967295) : fromL (hexL n) = (n : Int) := by
  have e := fold_digits [n / 268435456 % 16, n / 16777216 % 16, n / 1048576 % 16, n / 65536 % 16, n / 4096 % 16, n / 256 % 16, n / 16 % 16, n % 16] 0 (by omega) (by
    intro d hd
    simp only [List.mem_cons, List.not_mem_nil, or_false] at hd
    omega)
  show ([n / 268435456 % 16, n / 16777216 % 16, n / 1048576 % 16, n / 65536 % 16, n / 4096 % 16, n / 256 % 16, n / 16 % 16, n % 16].map hexD).foldl hexStep 0 = _
  rw [e]
  simp only [List.foldl_cons, List.foldl_nil]
  omega

theorem hexStep_inv (n : Int) (c : UInt8) (h : hexStep n c ≠ -1) : n ≠ -1 ∧ 0 ≤ hv c ∧ hexStep n c = 16 * n + hv c := by
  unfold hexStep at h ⊢
  split at h
  · exact absurd rfl h
  · rename_i hc
    rw [if_neg hc]
    exact ⟨fun e => hc (Or.inl e), by omega, rfl⟩

theorem hexL_from (l : List UInt8) (h8 : l.length = 8) (h : fromL l ≠ -1) : hexL (fromL l).toNat = l ∧ 0 ≤ fromL l ∧ fromL l ≤ 4294967295 := by
  match l, h8 with
  | [a, b, c, d, e, f, g, i], _ =>
    unfold fromL at h ⊢
    simp only [List.foldl_cons, List.foldl_nil] at h ⊢
    obtain ⟨h7, v7, e7⟩ := hexStep_inv _ _ h
    obtain ⟨h6, v6, e6⟩ := hexStep_inv _ _ h7
    obtain ⟨h5, v5, e5⟩ := hexStep_inv _ _ h6
    obtain ⟨h4, v4, e4⟩ := hexStep_inv _ _ h5
    obtain ⟨h3, v3, e3⟩ := hexStep_inv _ _ h4
    obtain ⟨h2, v2, e2⟩ := hexStep_inv _ _ h3
    obtain ⟨h1, v1, e1⟩ := hexStep_inv _ _ h2
    obtain ⟨_, v0, e0⟩ := hexStep_inv _ _ h1
    rw [e7, e6, e5, e4, e3, e2, e1, e0]
    have b0 := (hv_bd a).2
    have b1 := (hv_bd b).2
    have b2 := (hv_bd c).2
    have b3 := (hv_bd d).2
    have b4 := (hv_bd e).2
    have b5 := (hv_bd f).2
    have b6 := (hv_bd g).2
    have b7 := (hv_bd i).2
    have k0 := hexD_hv a v0
    have k1 := hexD_hv b v1
    have k2 := hexD_hv c v2
    have k3 := hexD_hv d v3
    have k4 := hexD_hv e v4
    have k5 := hexD_hv f v5
    have k6 := hexD_hv g v6
    have k7 := hexD_hv i v7
    clear h h1 h2 h3 h4 h5 h6 h7 e0 e1 e2 e3 e4 e5 e6 e7
    refine ⟨?_, by omega, by omega⟩
    generalize hv a = x0 at *
    generalize hv b = x1 at *
    generalize hv c = x2 at *
    generalize hv d = x3 at *
    generalize hv e = x4 at *
    generalize hv f = x5 at *
    generalize hv g = x6 at *
    generalize hv i = x7 at *
    obtain ⟨y0, rfl⟩ := Int.eq_ofNat_of_zero_le v0
    obtain ⟨y1, rfl⟩ := Int.eq_ofNat_of_zero_le v1
    obtain ⟨y2, rfl⟩ := Int.eq_ofNat_of_zero_le v2
    obtain ⟨y3, rfl⟩ := Int.eq_ofNat_of_zero_le v3
    obtain ⟨y4, rfl⟩ := Int.eq_ofNat_of_zero_le v4
    obtain ⟨y5, rfl⟩ := Int.eq_ofNat_of_zero_le v5
    obtain ⟨y6, rfl⟩ := Int.eq_ofNat_of_zero_le v6
    obtain ⟨y7, rfl⟩ := Int.eq_ofNat_of_zero_le v7
    have e : (16 * (16 * (16 * (16 * (16 * (16 * (16 * (16 * (0 : Int) + y0) + y1) + y2) + y3) + y4) + y5) + y6) + y7).toNat = 16 * (16 * (16 * (16 * (16 * (16 * (16 * y0 + y1) + y2) + y3) + y4) + y5) + y6) + y7 := by omega
    rw [e]
    unfold hexL
    simp only [Int.toNat_natCast] at k0 k1 k2 k3 k4 k5 k6 k7
    generalize hN : 16 * (16 * (16 * (16 * (16 * (16 * (16 * y0 + y1) + y2) + y3) + y4) + y5) + y6) + y7 = N
    rw [show N / 268435456 % 16 = y0 by omega, show N / 16777216 % 16 = y1 by omega, show N / 1048576 % 16 = y2 by omega, show N / 65536 % 16 = y3 by omega, show N / 4096 % 16 = y4 by omega, show N / 256 % 16 = y5 by omega, show N / 16 % 16 = y6 by omega, show N % 16 = y7 by omega]
    rw [k0, k1, k2, k3, k4, k5, k6, k7]

/-- What is read is made again. -/
theorem hexS_from (l : List UInt8) (h : fromB l = true) : hexS (fromN l) = l := by
  have hp : l.length = 8 ∧ fromL l ≠ -1 := of_decide_eq_true h
  have h2 := hexL_from l hp.1 hp.2
  rw [(from_yes l hp.1 hp.2).2, hexS_yes _ h2.2.1 h2.2.2]
  exact h2.1

/-- What was made is read. -/
theorem from_hexS (n : Int) (h0 : 0 ≤ n) (h1 : n ≤ 4294967295) : fromB (hexS n) = true ∧ fromN (hexS n) = n ∧ (hexS n).length = 8 := by
  have e := from_hexL n.toNat (by omega)
  have hl : (hexL n.toNat).length = 8 := rfl
  rw [hexS_yes n h0 h1]
  have hne : fromL (hexL n.toNat) ≠ -1 := by rw [e]; omega
  have hy := from_yes _ hl hne
  exact ⟨hy.1, by rw [hy.2, e]; omega, hl⟩

end Go.Proofs.Ytdjbcjmnegjndaa
