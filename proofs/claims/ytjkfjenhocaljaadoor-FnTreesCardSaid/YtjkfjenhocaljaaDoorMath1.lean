/-
  Plain facts on lists and numbers for chapter 1 (hashes): what Hash computes, and that it stays in its range.
-/
import Derived.WalkKit
import Derived.IntWalk
import Derived.Laws.Bits128
namespace Go.Proofs.YtjkfjenhocaljaaDoor
open Go.RowKit

def hashStep (h : Int) (b : UInt8) : Int := (1000003 * h + (b.toNat : Int) + 1) % 2147483647

def hashL (l : List UInt8) : Int := l.foldl hashStep 17

theorem w64 (n : Int) (h : -9223372036854775808 ≤ n ∧ n ≤ 9223372036854775807) : wrap64 n = n := by unfold wrap64; omega

theorem stepW (h : Int) (b : UInt8) (h0 : 0 ≤ h ∧ h < 2147483647) : ((wrap64 (wrap64 (1000003 * h + wrap64 (b.toNat : Int)) + 1)).tmod 2147483647) = hashStep h b := by
  have hb := b.toNat_lt
  rw [w64 (b.toNat : Int) (by omega), w64 (1000003 * h + (b.toNat : Int)) (by omega), w64 _ (by omega), Int.tmod_eq_emod_of_nonneg (by omega)]
  rfl

theorem hashStep_bd (h : Int) (b : UInt8) : 0 ≤ hashStep h b ∧ hashStep h b < 2147483647 := by
  unfold hashStep; omega

theorem foldl_bd (l : List UInt8) (h : Int) (h0 : 0 ≤ h ∧ h < 2147483647) : 0 ≤ l.foldl hashStep h ∧ l.foldl hashStep h < 2147483647 := by
  induction l generalizing h with
  | nil => exact h0
  | cons b r ih => exact ih _ (hashStep_bd h b)

theorem hashL_bd (l : List UInt8) : 0 ≤ hashL l ∧ hashL l < 2147483647 := foldl_bd l 17 (by omega)

theorem hashL_snoc (l : List UInt8) (c : UInt8) : hashL (l ++ [c]) = hashStep (hashL l) c := by
  unfold hashL; rw [List.foldl_append]; rfl

theorem take_snoc (s : ByteArray) (k : Nat) (h : k < s.size) : s.data.toList.take (k + 1) = s.data.toList.take k ++ [s[k]] := by
  rw [List.take_succ_eq_append_getElem (by simpa using h)]; rfl

theorem hashL_take (s : ByteArray) (k : Nat) (h : k < s.size) : hashL (s.data.toList.take (k + 1)) = hashStep (hashL (s.data.toList.take k)) s[k] := by
  rw [take_snoc s k h, hashL_snoc]

theorem ret_int {k : IntKind} {a b : Int} (h : a = b) : Ending.returned (.int k a) = .returned (.int k b) := by rw [h]

def hexDs : List UInt8 := [48, 49, 50, 51, 52, 53, 54, 55, 56, 57, 97, 98, 99, 100, 101, 102]
def hexD (n : Nat) : UInt8 := hexDs.getD n 0
theorem hexD_at (m : Int) (h : m.toNat < (ByteArray.mk #[48, 49, 50, 51, 52, 53, 54, 55, 56, 57, 97, 98, 99, 100, 101, 102]).size) : (ByteArray.mk #[48, 49, 50, 51, 52, 53, 54, 55, 56, 57, 97, 98, 99, 100, 101, 102])[m.toNat] = hexD m.toNat := by
  have h' : m.toNat < 16 := h
  generalize m.toNat = k at *
  unfold hexD hexDs
  rw [List.getD_eq_getElem?_getD, List.getElem?_eq_getElem (by simpa using h')]
  rfl
def hexL (n : Nat) : List UInt8 := [hexD (n / 268435456 % 16), hexD (n / 16777216 % 16), hexD (n / 1048576 % 16), hexD (n / 65536 % 16), hexD (n / 4096 % 16), hexD (n / 256 % 16), hexD (n / 16 % 16), hexD (n % 16)]

theorem hexW (n : Int) (h0 : 0 ≤ n) : #[hexD (n / 16 / 16 / 16 / 16 / 16 / 16 / 16 % 16).toNat, hexD (n / 16 / 16 / 16 / 16 / 16 / 16 % 16).toNat, hexD (n / 16 / 16 / 16 / 16 / 16 % 16).toNat, hexD (n / 16 / 16 / 16 / 16 % 16).toNat, hexD (n / 16 / 16 / 16 % 16).toNat, hexD (n / 16 / 16 % 16).toNat, hexD (n / 16 % 16).toNat, hexD (n % 16).toNat] = (hexL n.toNat).toArray := by
  unfold hexL
  rw [show (n / 16 / 16 / 16 / 16 / 16 / 16 / 16 % 16).toNat = n.toNat / 268435456 % 16 by omega, show (n / 16 / 16 / 16 / 16 / 16 / 16 % 16).toNat = n.toNat / 16777216 % 16 by omega,
    show (n / 16 / 16 / 16 / 16 / 16 % 16).toNat = n.toNat / 1048576 % 16 by omega, show (n / 16 / 16 / 16 / 16 % 16).toNat = n.toNat / 65536 % 16 by omega,
    show (n / 16 / 16 / 16 % 16).toNat = n.toNat / 4096 % 16 by omega, show (n / 16 / 16 % 16).toNat = n.toNat / 256 % 16 by omega,
    show (n / 16 % 16).toNat = n.toNat / 16 % 16 by omega, show (n % 16).toNat = n.toNat % 16 by omega]

theorem ret_str {a b : Array UInt8} (h : a = b) : Ending.returned (.string ⟨a⟩) = .returned (.string ⟨b⟩) := by rw [h]

theorem and15 (n : Int) : bits .and .i64 n 15 = n % 16 := by
  have h15 : (BitVec.ofInt 64 15).toNat = 2 ^ 4 - 1 := by decide
  have key : (BitVec.ofInt 64 n &&& BitVec.ofInt 64 15).toNat = (n % ((2 ^ 64 : Nat) : Int)).toNat % 2 ^ 4 := by
    rw [BitVec.toNat_and, BitVec.toNat_ofInt, h15, Nat.and_two_pow_sub_one_eq_mod]
  show IntKind.i64.wrap ((BitVec.ofInt 64 n &&& BitVec.ofInt 64 15).toNat : Nat) = n % 16
  rw [key, IntKind.wrap_i64]
  omega

theorem and255 (n : Int) : bits .and .i64 n 255 = n % 256 := by
  have h15 : (BitVec.ofInt 64 255).toNat = 2 ^ 8 - 1 := by decide
  have key : (BitVec.ofInt 64 n &&& BitVec.ofInt 64 255).toNat = (n % ((2 ^ 64 : Nat) : Int)).toNat % 2 ^ 8 := by
    rw [BitVec.toNat_and, BitVec.toNat_ofInt, h15, Nat.and_two_pow_sub_one_eq_mod]
  show IntKind.i64.wrap ((BitVec.ofInt 64 n &&& BitVec.ofInt 64 255).toNat : Nat) = n % 256
  rw [key, IntKind.wrap_i64]
  omega

def hexS (n : Int) : List UInt8 := if 0 ≤ n ∧ n ≤ 4294967295 then hexL n.toNat else []
theorem hexS_yes (n : Int) (h0 : 0 ≤ n) (h1 : n ≤ 4294967295) : hexS n = hexL n.toNat := if_pos ⟨h0, h1⟩
theorem hexS_no (n : Int) (h : n < 0 ∨ 4294967295 < n) : hexS n = [] := if_neg (by omega)

def inB (x lo hi : Int) : Bool := decide (lo ≤ x ∧ x ≤ hi)
theorem inB_yes (x lo hi : Int) (h1 : lo ≤ x) (h2 : x ≤ hi) : inB x lo hi = true := decide_eq_true ⟨h1, h2⟩
theorem inB_no (x lo hi : Int) (h : x < lo ∨ hi < x) : inB x lo hi = false := decide_eq_false (by omega)

def turnedL (l : List UInt8) (at_ to : Int) : List UInt8 := if (0 ≤ at_ ∧ at_ < l.length) ∧ (0 ≤ to ∧ to ≤ 255) then l.set at_.toNat (UInt8.ofNat to.toNat) else l
theorem turnedL_yes (l : List UInt8) (at_ to : Int) (h0 : 0 ≤ at_) (h1 : at_ < l.length) (h2 : 0 ≤ to) (h3 : to ≤ 255) : turnedL l at_ to = l.set at_.toNat (UInt8.ofNat to.toNat) := if_pos ⟨⟨h0, h1⟩, h2, h3⟩
theorem turnedL_no (l : List UInt8) (at_ to : Int) (h : at_ < 0 ∨ (l.length : Int) ≤ at_ ∨ to < 0 ∨ 255 < to) : turnedL l at_ to = l := if_neg (by omega)

end Go.Proofs.YtjkfjenhocaljaaDoor
