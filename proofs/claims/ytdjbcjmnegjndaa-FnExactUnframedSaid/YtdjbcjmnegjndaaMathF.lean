/-
  Plain facts for FromHex: what a sign is worth, and what eight signs are.
-/
import Derived.Test.YtdjbcjmnegjndaaMath1
import Derived.Test.YtdjbcjmnegjndaaMathT
import Derived.Lib.Bytealg
namespace Go.Proofs.Ytdjbcjmnegjndaa

/-- What a sign is worth as a digit; -1: it is none. -/
def hvN (n : Nat) : Int := if 48 ≤ n ∧ n ≤ 57 then (n : Int) - 48 else if 97 ≤ n ∧ n ≤ 102 then (n : Int) - 87 else -1
def hv (c : UInt8) : Int := hvN c.toNat

theorem hv_all : ∀ n : Nat, n < 256 → Lib.indexByte [48, 49, 50, 51, 52, 53, 54, 55, 56, 57, 97, 98, 99, 100, 101, 102] (UInt8.ofNat n) = hvN n := by decide +kernel

theorem hv_idx (c : UInt8) : Lib.indexByte [48, 49, 50, 51, 52, 53, 54, 55, 56, 57, 97, 98, 99, 100, 101, 102] ((c.toNat : Int).toNat.toUInt8) = hv c := by
  have h := hv_all c.toNat c.toNat_lt
  simpa [hv] using h

theorem hv_bd (c : UInt8) : -1 ≤ hv c ∧ hv c ≤ 15 := by
  unfold hv hvN; split <;> (try split) <;> omega

def hexStep (n : Int) (c : UInt8) : Int := if n = -1 ∨ hv c < 0 then -1 else 16 * n + hv c

theorem hexStep_dig (n : Int) (c : UInt8) (h : 0 ≤ n) (h1 : 48 ≤ c.toNat) (h2 : c.toNat ≤ 57) : hexStep n c = 16 * n + ((c.toNat : Int) - 48) := by
  have e : hv c = (c.toNat : Int) - 48 := by unfold hv hvN; rw [if_pos ⟨h1, h2⟩]
  unfold hexStep; rw [if_neg (by omega), e]
theorem hexStep_let (n : Int) (c : UInt8) (h : 0 ≤ n) (h1 : 97 ≤ c.toNat) (h2 : c.toNat ≤ 102) : hexStep n c = 16 * n + ((c.toNat : Int) - 87) := by
  have e : hv c = (c.toNat : Int) - 87 := by unfold hv hvN; rw [if_neg (by omega), if_pos ⟨h1, h2⟩]
  unfold hexStep; rw [if_neg (by omega), e]
theorem hexStep_none (n : Int) (c : UInt8) (h : c.toNat < 48 ∨ (57 < c.toNat ∧ c.toNat < 97) ∨ 102 < c.toNat) : hexStep n c = -1 := by
  have e : hv c = -1 := by unfold hv hvN; rw [if_neg (by omega), if_neg (by omega)]
  unfold hexStep; rw [if_pos (by omega)]

def fromL (l : List UInt8) : Int := l.foldl hexStep 0

theorem hexStep_stick (c : UInt8) : hexStep (-1) c = -1 := by simp [hexStep]

theorem fold_stick (l : List UInt8) : l.foldl hexStep (-1) = -1 := by
  induction l with
  | nil => rfl
  | cons c r ih => rw [List.foldl_cons, hexStep_stick, ih]

theorem fromL_snoc (l : List UInt8) (c : UInt8) : fromL (l ++ [c]) = hexStep (fromL l) c := by
  unfold fromL; rw [List.foldl_append]; rfl

theorem fromL_take (s : ByteArray) (k : Nat) (h : k < s.size) : fromL (s.data.toList.take (k + 1)) = hexStep (fromL (s.data.toList.take k)) s[k] := by
  rw [take_snoc s k h, fromL_snoc]

theorem fold_hex_bd (l : List UInt8) (m : Nat) (n : Int) (h0 : -1 ≤ n) (h1 : n < 16 ^ m) : -1 ≤ l.foldl hexStep n ∧ l.foldl hexStep n < 16 ^ (m + l.length) := by
  induction l generalizing n m with
  | nil => exact ⟨h0, h1⟩
  | cons c r ih =>
    have hb := hv_bd c
    have e : (16 : Int) ^ (m + 1) = 16 * 16 ^ m := by rw [Int.pow_succ]; omega
    have hp : (0 : Int) < 16 ^ m := Int.pow_pos (by decide)
    have hs : -1 ≤ hexStep n c ∧ hexStep n c < 16 ^ (m + 1) := by
      unfold hexStep
      split
      · omega
      · rw [e]; omega
    have h := ih (m + 1) (hexStep n c) hs.1 hs.2
    rw [List.foldl_cons, List.length_cons, show m + (r.length + 1) = m + 1 + r.length by omega]
    exact h

theorem fromL_bd (l : List UInt8) : -1 ≤ fromL l ∧ fromL l < 16 ^ l.length := by
  have h := fold_hex_bd l 0 0 (by decide) (by decide)
  rw [Nat.zero_add] at h
  exact h

theorem fromL_le (l : List UInt8) (h : l.length ≤ 8) : -1 ≤ fromL l ∧ fromL l ≤ 4294967295 := by
  have hb := fromL_bd l
  have hn : 16 ^ l.length ≤ 16 ^ 8 := Nat.pow_le_pow_right (by decide) h
  have : (16 : Int) ^ l.length ≤ 16 ^ 8 := by exact_mod_cast hn
  omega

theorem fromL_stuck (s : ByteArray) (k : Nat) (h1 : fromL (s.data.toList.take k) = -1) : fromL s.data.toList = -1 := by
  have e : s.data.toList = s.data.toList.take k ++ s.data.toList.drop k := (List.take_append_drop k _).symm
  rw [e]; unfold fromL at *; rw [List.foldl_append, h1, fold_stick]

/-- The number that eight signs are, and whether they are any. -/
def fromB (l : List UInt8) : Bool := decide (l.length = 8 ∧ fromL l ≠ -1)
def fromN (l : List UInt8) : Int := if l.length = 8 ∧ fromL l ≠ -1 then fromL l else 0

theorem from_no (l : List UInt8) (h : l.length ≠ 8 ∨ fromL l = -1) : fromB l = false ∧ fromN l = 0 := by
  unfold fromB fromN
  have : ¬ (l.length = 8 ∧ fromL l ≠ -1) := by rcases h with h | h <;> simp [h]
  rw [if_neg this]; simp [this]

theorem from_yes (l : List UInt8) (h : l.length = 8) (h1 : fromL l ≠ -1) : fromB l = true ∧ fromN l = fromL l := by
  unfold fromB fromN
  have : l.length = 8 ∧ fromL l ≠ -1 := ⟨h, h1⟩
  rw [if_pos this]; simp [this]

theorem ret_ib {a b : Int} {c d : Bool} (h : a = b) (k : c = d) : Ending.returned (.tuple #[.int .i64 a, .bool c]) = .returned (.tuple #[.int .i64 b, .bool d]) := by rw [h, k]

end Go.Proofs.Ytdjbcjmnegjndaa
