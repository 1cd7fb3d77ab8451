/-
  Parts of one proof, one behind the other: Math1, Draw, Codes, Math4, Math5.
-/
import Derived.WalkKit
import Derived.IntWalk
import Derived.Laws.Bits128
import Derived.Test.YtnpbckgaeaameaaRows
import Derived.WalkLawsBesides
import Derived.Laws.IdiomStrings
import Derived.Laws.OwnMore
import Derived.Maps.AppendAt
import Derived.Maps.Range
import Derived.OpenShut
import Derived.Handy

/-! Plain facts on lists and numbers for chapter 1 (hashes): what Hash computes, and that it stays in its range. -/
namespace Go.Proofs.Ytnpbckgaeaameaa
open Go.RowKit

def hashStep (h : Int) (b : UInt8) : Int := (1000003 * h + (b.toNat : Int) + 1) % 2147483647

def hashL (l : List UInt8) : Int := l.foldl hashStep 17

theorem w64 (n : Int) (h : -9223372036854775808 ≤ n ∧ n ≤ 9223372036854775807) : wrap64 n = n := by unfold wrap64; omega

theorem stepW (h : Int) (b : UInt8) (h0 : 0 ≤ h ∧ h < 2147483647) : ((wrap64 (wrap64 (1000003 * h + wrap64 (b.toNat : Int)) + 1)).tmod 2147483647) = hashStep h b := by
  have hb := b.toNat_lt
  rw [w64 (b.toNat : Int) (by omega), w64 (1000003 * h + (b.toNat : Int)) (by omega), w64 _ (by omega), Int.tmod_eq_emod_of_nonneg (by omega)]
  rfl

theorem hashStep_bd (h : Int) (b : UInt8) : 0 ≤ hashStep h b ∧ hashStep h b < 2147483647 := by
  unfold hashStep; omega

theorem foldl_bd (l : List UInt8) (h : Int) (h0 : 0 ≤ h ∧ h < 2147483647) : 0 ≤ l.foldl hashStep h ∧ l.foldl hashStep h < 2147483647 := by
  induction l generalizing h with
  | nil => exact h0
  | cons b r ih => exact ih _ (hashStep_bd h b)

theorem hashL_bd (l : List UInt8) : 0 ≤ hashL l ∧ hashL l < 2147483647 := foldl_bd l 17 (by omega)

theorem hashL_snoc (l : List UInt8) (c : UInt8) : hashL (l ++ [c]) = hashStep (hashL l) c := by
  unfold hashL; rw [List.foldl_append]; rfl

theorem take_snoc (s : ByteArray) (k : Nat) (h : k < s.size) : s.data.toList.take (k + 1) = s.data.toList.take k ++ [s[k]] := by
  rw [List.take_succ_eq_append_getElem (by simpa using h)]; rfl

theorem hashL_take (s : ByteArray) (k : Nat) (h : k < s.size) : hashL (s.data.toList.take (k + 1)) = hashStep (hashL (s.data.toList.take k)) s[k] := by
  rw [take_snoc s k h, hashL_snoc]

theorem ret_int {k : IntKind} {a b : Int} (h : a = b) : Ending.returned (.int k a) = .returned (.int k b) := by rw [h]

def hexDs : List UInt8 := [48, 49, 50, 51, 52, 53, 54, 55, 56, 57, 97, 98, 99, 100, 101, 102]
def hexD (n : Nat) : UInt8 := hexDs.getD n 0
theorem hexD_at (m : Int) (h : m.toNat < (ByteArray.mk #[48, 49, 50, 51, 52, 53, 54, 55, 56, 57, 97, 98, 99, 100, 101, 102]).size) : (ByteArray.mk #[48, 49, 50, 51, 52, 53, 54, 55, 56, 57, 97, 98, 99, 100, 101, 102])[m.toNat] = hexD m.toNat := by
  have h' : m.toNat < 16 := h
  generalize m.toNat = k at *
  unfold hexD hexDs
  rw [List.getD_eq_getElem?_getD, List.getElem?_eq_getElem (by simpa using h')]
  rfl
def hexL (n : Nat) : List UInt8 := [hexD (n / 268435456 % 16), hexD (n / 16777216 % 16), hexD (n / 1048576 % 16), hexD (n / 65536 % 16), hexD (n / 4096 % 16), hexD (n / 256 % 16), hexD (n / 16 % 16), hexD (n % 16)]

theorem hexW (n : Int) (h0 : 0 ≤ n) : #[hexD (n / 16 / 16 / 16 / 16 / 16 / 16 / 16 % 16).toNat, hexD (n / 16 / 16 / 16 / 16 / 16 / 16 % 16).toNat, hexD (n / 16 / 16 / 16 / 16 / 16 % 16).toNat, hexD (n / 16 / 16 / 16 / 16 % 16).toNat, hexD (n / 16 / 16 / 16 % 16).toNat, hexD (n / 16 / 16 % 16).toNat, hexD (n / 16 % 16).toNat, hexD (n % 16).toNat] = (hexL n.toNat).toArray := by
  unfold hexL
  rw [show (n / 16 / 16 / 16 / 16 / 16 / 16 / 16 % 16).toNat = n.toNat / 268435456 % 16 by omega, show (n / 16 / 16 / 16 / 16 / 16 / 16 % 16).toNat = n.toNat / 16777216 % 16 by omega,
    show (n / 16 / 16 / 16 / 16 / 16 % 16).toNat = n.toNat / 1048576 % 16 by omega, show (n / 16 / 16 / 16 / 16 % 16).toNat = n.toNat / 65536 % 16 by omega,
    show (n / 16 / 16 / 16 % 16).toNat = n.toNat / 4096 % 16 by omega, show (n / 16 / 16 % 16).toNat = n.toNat / 256 % 16 by omega,
    show (n / 16 % 16).toNat = n.toNat / 16 % 16 by omega, show (n % 16).toNat = n.toNat % 16 by omega]

theorem ret_str {a b : Array UInt8} (h : a = b) : Ending.returned (.string ⟨a⟩) = .returned (.string ⟨b⟩) := by rw [h]

theorem and15 (n : Int) : bits .and .i64 n 15 = n % 16 := by
  have h15 : (BitVec.ofInt 64 15).toNat = 2 ^ 4 - 1 := by decide
  have key : (BitVec.ofInt 64 n &&& BitVec.ofInt 64 15).toNat = (n % ((2 ^ 64 : Nat) : Int)).toNat % 2 ^ 4 := by
    rw [BitVec.toNat_and, BitVec.toNat_ofInt, h15, Nat.and_two_pow_sub_one_eq_mod]
  show IntKind.i64.wrap ((BitVec.ofInt 64 n &&& BitVec.ofInt 64 15).toNat : Nat) = n % 16
  rw [key, IntKind.wrap_i64]
  omega

theorem and255 (n : Int) : bits .and .i64 n 255 = n % 256 := by
  have h15 : (BitVec.ofInt 64 255).toNat = 2 ^ 8 - 1 := by decide
  have key : (BitVec.ofInt 64 n &&& BitVec.ofInt 64 255).toNat = (n % ((2 ^ 64 : Nat) : Int)).toNat % 2 ^ 8 := by
    rw [BitVec.toNat_and, BitVec.toNat_ofInt, h15, Nat.and_two_pow_sub_one_eq_mod]
  show IntKind.i64.wrap ((BitVec.ofInt 64 n &&& BitVec.ofInt 64 255).toNat : Nat) = n % 256
  rw [key, IntKind.wrap_i64]
  omega

def hexS (n : Int) : List UInt8 := if 0 ≤ n ∧ n ≤ 4294967295 then hexL n.toNat else []
theorem hexS_yes (n : Int) (h0 : 0 ≤ n) (h1 : n ≤ 4294967295) : hexS n = hexL n.toNat := if_pos ⟨h0, h1⟩
theorem hexS_no (n : Int) (h : n < 0 ∨ 4294967295 < n) : hexS n = [] := if_neg (by omega)

def inB (x lo hi : Int) : Bool := decide (lo ≤ x ∧ x ≤ hi)
theorem inB_yes (x lo hi : Int) (h1 : lo ≤ x) (h2 : x ≤ hi) : inB x lo hi = true := decide_eq_true ⟨h1, h2⟩
theorem inB_no (x lo hi : Int) (h : x < lo ∨ hi < x) : inB x lo hi = false := decide_eq_false (by omega)

def turnedL (l : List UInt8) (at_ to : Int) : List UInt8 := if (0 ≤ at_ ∧ at_ < l.length) ∧ (0 ≤ to ∧ to ≤ 255) then l.set at_.toNat (UInt8.ofNat to.toNat) else l
theorem turnedL_yes (l : List UInt8) (at_ to : Int) (h0 : 0 ≤ at_) (h1 : at_ < l.length) (h2 : 0 ≤ to) (h3 : to ≤ 255) : turnedL l at_ to = l.set at_.toNat (UInt8.ofNat to.toNat) := if_pos ⟨⟨h0, h1⟩, h2, h3⟩
theorem turnedL_no (l : List UInt8) (at_ to : Int) (h : at_ < 0 ∨ (l.length : Int) ≤ at_ ∨ to < 0 ∨ 255 < to) : turnedL l at_ to = l := if_neg (by omega)

end Go.Proofs.Ytnpbckgaeaameaa

/-! The contracts of the draws that every law of chapter 1 makes: the cursor lies in one block of its own, each draw gives a number in its range, writes that block alone and makes at most new blocks. -/
namespace Go.Proofs.Ytnpbckgaeaameaa
open Go.RowKit

/-- The bytes of the code lie below block B. -/
def Code (w : World) (B : Nat) (a : Option Addr) (len : Nat) : Prop :=
  ∀ j, j < len → ∃ b off x, a = some ⟨b, off, none⟩ ∧ b < B ∧ w.cell? ⟨b, off + j, none⟩ = some (.int .u8 x) ∧ 0 ≤ x ∧ x ≤ 255

/-- The cursor lies in block B: the code, a place, a number. -/
structure Cur (w : World) (B : Nat) (a : Option Addr) (len cap : Nat) : Prop where
  code : Code w B a len
  short : len ≤ 4096
  c0 : w.cell? ⟨B, 0, none⟩ = some (.slice a len cap)
  c12 : ∃ i : Nat, ∃ h : Int, i ≤ len ∧ w.cell? ⟨B, 1, none⟩ = some (.int .i64 i) ∧ w.cell? ⟨B, 2, none⟩ = some (.int .i64 h)
  free : ∀ j, w.frozen? ⟨B, j, none⟩ = false

theorem grown_drew (w : World) (row : Option Nat) : w.grownBy w.drew row := ⟨rfl, rfl, rfl, Nat.le_refl _, fun _ _ _ => rfl⟩
theorem grown_setCell (w : World) (B o : Nat) (v : Value) : w.grownBy (w.setCell ⟨B, o, none⟩ v) (some B) :=
  ⟨rfl, rfl, rfl, by simp, fun k _ hne => Below.heap_setCell w _ v k (fun e => hne (by rw [e]))⟩

theorem Cur.kept {w w' : World} {B : Nat} {a : Option Addr} {len cap : Nat} {row : Option Nat} (h : Cur w B a len cap) (hg : w.grownBy w' row) (hne : ∀ k, row = some k → B < k) : Cur w' B a len cap := by
  have hlt : B < w.heap.size := World.block_lt_of_cell? w ⟨B, 0, none⟩ h.c0
  have hb : ∀ k, k ≤ B → w'.heap[k]? = w.heap[k]? := fun k hk => hg.block k (by omega) (fun e => by have := hne k e.symm; omega)
  have hB := hb B (Nat.le_refl _)
  refine ⟨?_, h.short, ?_, ?_, ?_⟩
  · intro j hj
    obtain ⟨b, off, x, e1, e2, e3, e0⟩ := h.code j hj
    exact ⟨b, off, x, e1, e2, (World.cell?_of_block (hb b (by omega))).trans e3, e0⟩
  · exact (World.cell?_of_block hB).trans h.c0
  · obtain ⟨i, n, hi, e1, e2⟩ := h.c12
    exact ⟨i, n, hi, (World.cell?_of_block hB).trans e1, (World.cell?_of_block hB).trans e2⟩
  · intro j
    exact (World.frozen?_of_block hB).trans (h.free j)

theorem Cur.lt {w : World} {B : Nat} {a : Option Addr} {len cap : Nat} (h : Cur w B a len cap) : B < w.heap.size := World.block_lt_of_cell? w ⟨B, 0, none⟩ h.c0

/-- A store of the place. -/
theorem Cur.set1 {w : World} {B : Nat} {a : Option Addr} {len cap : Nat} (h : Cur w B a len cap) (i : Nat) (hi : i ≤ len) : Cur (w.setCell ⟨B, 1, none⟩ (.int .i64 i)) B a len cap := by
  obtain ⟨i0, n, _, e1, e2⟩ := h.c12
  refine ⟨?_, h.short, ?_, ⟨i, n, hi, World.cell?_setCell_same _ _ _ e1, ?_⟩, ?_⟩
  · intro j hj
    obtain ⟨b, off, x, e3, e4, e5, e0⟩ := h.code j hj
    exact ⟨b, off, x, e3, e4, (World.cell?_setCell_other _ _ _ _ (by intro e; injection e with e6; omega)).trans e5, e0⟩
  · exact (World.cell?_setCell_other _ _ _ _ (by simp)).trans h.c0
  · exact (World.cell?_setCell_other _ _ _ _ (by simp)).trans e2
  · intro j; rw [World.frozen?_setCell]; exact h.free j

/-- A store of the number. -/
theorem Cur.set2 {w : World} {B : Nat} {a : Option Addr} {len cap : Nat} (h : Cur w B a len cap) (m : Int) : Cur (w.setCell ⟨B, 2, none⟩ (.int .i64 m)) B a len cap := by
  obtain ⟨i0, n, hi, e1, e2⟩ := h.c12
  refine ⟨?_, h.short, ?_, ⟨i0, m, hi, ?_, World.cell?_setCell_same _ _ _ e2⟩, ?_⟩
  · intro j hj
    obtain ⟨b, off, x, e3, e4, e5, e0⟩ := h.code j hj
    exact ⟨b, off, x, e3, e4, (World.cell?_setCell_other _ _ _ _ (by intro e; injection e with e6; omega)).trans e5, e0⟩
  · exact (World.cell?_setCell_other _ _ _ _ (by simp)).trans h.c0
  · exact (World.cell?_setCell_other _ _ _ _ (by simp)).trans e1
  · intro j; rw [World.frozen?_setCell]; exact h.free j

theorem Cur.drew {w : World} {B : Nat} {a : Option Addr} {len cap : Nat} (h : Cur w B a len cap) : Cur w.drew B a len cap := ⟨h.code, h.short, h.c0, h.c12, h.free⟩

set_option maxHeartbeats 1000000 in
set_option maxRecDepth 100000 in
theorem byteNo (w : World) (B : Nat) (a : Option Addr) (len cap i : Nat) (n : Int) (hi : len ≤ i)
    (c0 : w.cell? ⟨B, 0, none⟩ = some (.slice a len cap)) (c1 : w.cell? ⟨B, 1, none⟩ = some (.int .i64 i)) (c2 : w.cell? ⟨B, 2, none⟩ = some (.int .i64 n)) (f2 : w.frozen? ⟨B, 2, none⟩ = false) :
    Calls Try.prog 102 #[.pointer (some ⟨B, 0, none⟩)] w fun e w' => ∃ x m : Int, e = .returned (.int .i64 x) ∧ 0 ≤ x ∧ x ≤ 255 ∧ w' = (w.setCell ⟨B, 2, none⟩ (.int .i64 m)).drew.drew := by
  have hA := and255
  go_enter Try.func102, Try.ntmps102
  go_wp2
  go_region
  all_goals (try go_wp2)
  go_region
  all_goals (try go_wp2)
  go_ret
  exact ⟨_, _, rfl, by omega, by omega, rfl⟩

set_option maxHeartbeats 1000000 in
set_option maxRecDepth 100000 in
theorem byteYes (w : World) (B b off : Nat) (len cap i : Nat) (n x : Int) (hi : i < len) (hil : len ≤ 4096)
    (c0 : w.cell? ⟨B, 0, none⟩ = some (.slice (some ⟨b, off, none⟩) len cap)) (c1 : w.cell? ⟨B, 1, none⟩ = some (.int .i64 i)) (c2 : w.cell? ⟨B, 2, none⟩ = some (.int .i64 n)) (f1 : w.frozen? ⟨B, 1, none⟩ = false) (f2 : w.frozen? ⟨B, 2, none⟩ = false)
    (hbB : b ≠ B) (cx : w.cell? ⟨b, off + i, none⟩ = some (.int .u8 x)) :
    Calls Try.prog 102 #[.pointer (some ⟨B, 0, none⟩)] w fun e w' => ∃ x m : Int, e = .returned (.int .i64 x) ∧ 0 ≤ x ∧ x ≤ 255 ∧ w' = ((w.setCell ⟨B, 2, none⟩ (.int .i64 m)).setCell ⟨B, 1, none⟩ (.int .i64 ((i + 1 : Nat) : Int))).drew.drew.drew := by
  have hA := and255
  have hBb : B ≠ b := fun e => hbB e.symm
  go_enter Try.func102, Try.ntmps102
  go_wp2
  go_region
  all_goals (try go_wp2)
  go_region
  all_goals (try go_wp2)
  go_region
  all_goals (try go_wp2)
  go_ret
  exact ⟨_, _, rfl, by omega, by omega, rfl⟩

/-- One byte is drawn. -/
theorem drawByte (w : World) (B : Nat) (a : Option Addr) (len cap : Nat) (h : Cur w B a len cap) :
    Calls Try.prog 102 #[.pointer (some ⟨B, 0, none⟩)] w fun e w' => ∃ x : Int, e = .returned (.int .i64 x) ∧ 0 ≤ x ∧ x ≤ 255 ∧ Cur w' B a len cap ∧ w.grownBy w' (some B) := by
  obtain ⟨i, n, hi, c1, c2⟩ := h.c12
  have hs := h.short
  by_cases hlt : i < len
  · obtain ⟨b, off, x, rfl, hb, cx, _⟩ := h.code i hlt
    refine (byteYes w B b off len cap i n x hlt hs h.c0 c1 c2 (h.free 1) (h.free 2) (by omega) cx).mono ?_
    rintro e w' ⟨y, m, rfl, h0, h1, rfl⟩
    exact ⟨y, rfl, h0, h1, ((h.set2 m).set1 (i + 1) (by omega)).drew.drew.drew, ((((grown_setCell _ _ _ _).trans (grown_setCell _ _ _ _)).trans (grown_drew _ _)).trans (grown_drew _ _)).trans (grown_drew _ _)⟩
  · refine (byteNo w B a len cap i n (by omega) h.c0 c1 c2 (h.free 2)).mono ?_
    rintro e w' ⟨y, m, rfl, h0, h1, rfl⟩
    exact ⟨y, rfl, h0, h1, (h.set2 m).drew.drew, ((grown_setCell _ _ _ _).trans (grown_drew _ _)).trans (grown_drew _ _)⟩


set_option maxHeartbeats 1000000 in
set_option maxRecDepth 100000 in
/-- A number below n is drawn; 0 where n is not above 0. -/
theorem drawBelow (w : World) (B : Nat) (a : Option Addr) (len cap : Nat) (n : Int) (hn : 0 < n) (hn' : n ≤ 4294967296) (h : Cur w B a len cap) :
    Calls Try.prog 95 #[.pointer (some ⟨B, 0, none⟩), .int .i64 n] w fun e w' => ∃ x : Int, e = .returned (.int .i64 x) ∧ 0 ≤ x ∧ x < n ∧ Cur w' B a len cap ∧ w.grownBy w' (some B) := by
  have hz : (n == 0) = false := beq_eq_false_iff_ne.2 (by omega)
  by_cases hs : n ≤ 256
  · go_enter Try.func95, Try.ntmps95
    go_wp2_with fail
    refine (drawByte _ B a len cap h).mono ?_
    rintro e w1 ⟨x, rfl, h0, h1, hc, hg⟩
    go_wp2
    go_ret
    exact ⟨_, rfl, Int.emod_nonneg _ (by omega), Int.emod_lt_of_pos _ hn, hc, hg⟩
  · go_enter Try.func95, Try.ntmps95
    go_wp2_with fail
    refine (drawByte _ B a len cap h).mono ?_
    rintro e w1 ⟨x1, rfl, l1, u1, hc1, hg1⟩
    go_wp2_with fail
    refine (drawByte _ B a len cap hc1).mono ?_
    rintro e w2 ⟨x2, rfl, l2, u2, hc2, hg2⟩
    go_wp2_with fail
    refine (drawByte _ B a len cap hc2).mono ?_
    rintro e w3 ⟨x3, rfl, l3, u3, hc3, hg3⟩
    go_wp2_with fail
    refine (drawByte _ B a len cap hc3).mono ?_
    rintro e w4 ⟨x4, rfl, l4, u4, hc4, hg4⟩
    go_wp2
    go_ret
    exact ⟨_, rfl, Int.emod_nonneg _ (by omega), Int.emod_lt_of_pos _ hn, hc4, ((hg1.trans hg2).trans hg3).trans hg4⟩


set_option maxHeartbeats 1000000 in
set_option maxRecDepth 100000 in
theorem drawOnce (w : World) (B : Nat) (a : Option Addr) (len cap : Nat) (n : Int) (hn : 0 < n) (hn' : n ≤ 4294967296) (h : Cur w B a len cap) :
    Calls Try.prog 94 #[.pointer (some ⟨B, 0, none⟩), .int .i64 n] w fun e w' => ∃ x : Bool, e = .returned (.bool x) ∧ Cur w' B a len cap ∧ w.grownBy w' (some B) := by
  go_enter Try.func94, Try.ntmps94
  go_wp2_with fail
  refine (drawBelow _ B a len cap n hn hn' h).mono ?_
  rintro e w1 ⟨x, rfl, h0, h1, hc, hg⟩
  go_wp2
  go_ret
  exact ⟨_, rfl, hc, hg⟩


theorem cur_new (w : World) (a : Option Addr) (len cap : Nat) (m : Int) (hl : len ≤ 4096) (hc : Code w w.heap.size a len) :
    Cur (w.alloc (.cells #[.slice a len cap, .int .i64 0, .int .i64 m] 104)) w.heap.size a len cap := by
  refine ⟨?_, hl, by simp, ⟨0, m, Nat.zero_le _, by simp, by simp⟩, fun j => by simp⟩
  intro j hj
  obtain ⟨b, off, x, e1, e2, e3, e0⟩ := hc j hj
  exact ⟨b, off, x, e1, e2, (World.cell?_of_block (Below.heap_alloc _ _ _ e2)).trans e3, e0⟩

set_option maxHeartbeats 1000000 in
set_option maxRecDepth 100000 in
theorem newSome (w : World) (b off len cap : Nat) (hl : len ≤ 4096) (hc : ∀ j, j < len → ∃ x, w.cell? ⟨b, off + j, none⟩ = some (.int .u8 x)) :
    Calls Try.prog 63 #[.slice (some ⟨b, off, none⟩) len cap] w fun e w' => e = .returned (.pointer (some ⟨w.heap.size, 0, none⟩)) ∧ ∃ m : Int, w' = w.alloc (.cells #[.slice (some ⟨b, off, none⟩) len cap, .int .i64 0, .int .i64 m] 104) := by
  have HC : Hid (∀ j, j < len → ∃ x, w.cell? ⟨b, off + j, none⟩ = some (.int .u8 x)) := hc
  clear hc
  go_enter Try.func63, Try.ntmps63
  go_wp2
  go_loop [3, 4] (fun h i => ∃ k : Nat, ∃ m : Int, k ≤ len ∧ i = .int .i64 k ∧ h = .int .i64 m) (fun _ i => len - (intOf i).toNat)
  case atStart => exact ⟨0, _, Nat.zero_le _, rfl, rfl⟩
  case round =>
    obtain ⟨k, m, hk, rfl, rfl⟩ := hrel
    by_cases hlt : k < len
    · obtain ⟨x, cx⟩ := HC.out k hlt
      go_wp2
      go_round
      case rel => exact ⟨k + 1, _, by omega, by go_num, rfl⟩
      case measure => simp [intOf]; omega
    · go_wp2
      go_ret
      exact ⟨rfl, m, rfl⟩

set_option maxHeartbeats 1000000 in
set_option maxRecDepth 100000 in
theorem newNone (w : World) (a : Option Addr) (cap : Nat) :
    Calls Try.prog 63 #[.slice a 0 cap] w fun e w' => e = .returned (.pointer (some ⟨w.heap.size, 0, none⟩)) ∧ ∃ m : Int, w' = w.alloc (.cells #[.slice a 0 cap, .int .i64 0, .int .i64 m] 104) := by
  go_enter Try.func63, Try.ntmps63
  go_wp2
  refine wp_loop_rounds 1 ?_
  rw [rounds_succ]
  go_wp2
  go_ret
  exact ⟨rfl, _, rfl⟩

/-- A cursor is made: a new block. -/
theorem drawNew (w : World) (a : Option Addr) (len cap : Nat) (hl : len ≤ 4096) (hc : Code w w.heap.size a len) :
    Calls Try.prog 63 #[.slice a len cap] w fun e w' => e = .returned (.pointer (some ⟨w.heap.size, 0, none⟩)) ∧ Cur w' w.heap.size a len cap ∧ w.grownBy w' none := by
  by_cases hz : len = 0
  · subst hz
    refine (newNone w a cap).mono ?_
    rintro e w' ⟨rfl, m, rfl⟩
    exact ⟨rfl, cur_new w a 0 cap m hl hc, World.grownBy_alloc _ _ _⟩
  · obtain ⟨b, off, x, rfl, _, _⟩ := hc 0 (by omega)
    refine (newSome w b off len cap hl ?_).mono ?_
    · intro j hj
      obtain ⟨b', off', x', e1, _, e3, _⟩ := hc j hj
      injection e1 with e1
      injection e1 with e4 e5
      subst e4 e5
      exact ⟨x', e3⟩
    · rintro e w' ⟨rfl, m, rfl⟩
      exact ⟨rfl, cur_new w _ len cap m hl hc, World.grownBy_alloc _ _ _⟩


theorem info5 : (Try.prog.info? 5).map (fun i => (i.zero, i.size, i.bytes)) = some (some (.int .u8 0), 1, 1) := by kernel_rfl

/-- What a slice of bytes that the call made holds, as bytes. -/
def bytesV (l : List UInt8) : List Value := l.map (fun b => Value.int .u8 (b.toNat : Int))

theorem back_own (w : World) (B : Nat) (v : Value) (l : List UInt8) (h : w.ownsRow B 5 1 v l.length (bytesV l)) :
    (convert 22 9 v).run Try.prog w = .ok (.string ⟨l.toArray⟩) w := by
  have hh := h
  obtain ⟨_, ⟨rfl, hn⟩ | ⟨g, cap, cur, rfl, _, _⟩⟩ := hh
  · have : l = [] := List.eq_nil_of_length_eq_zero hn
    subst this
    rw [run_convert_bytes_string w 22 9 5 none 0 0 Try.underlying22 Try.underlying5 Try.underlying9]
    simp [Conv.bytesToString]
    rfl
  · refine run_convert_bytes_back (P := Try.prog) w 22 9 5 ⟨g, 0, none⟩ cap l Try.underlying22 Try.underlying5 Try.underlying9 ?_
    intro j hj
    have hx := World.ownsRow.cells h (g := g) rfl j (.int .u8 (l[j].toNat : Int)) (by simp [bytesV, List.getElem?_eq_getElem hj])
    exact hx

end Go.Proofs.Ytnpbckgaeaameaa

/-! A code that came in, as the laws' walks take it. -/
namespace Go.Proofs.Ytnpbckgaeaameaa
open Go.RowKit

theorem code_nil (w : World) : Code w w.heap.size none 0 := fun j hj => by omega

theorem code_of (w : World) (x : Addr) (len : Nat) (zs : List Int) (h : ∀ i, i < zs.length → w.cell? (x.add i) = some (.int .u8 (zs.getD i 0))) (hl : len ≤ zs.length) (hw : ∀ n ∈ zs, (Lit.int .u8 n).wf = true) : Code w w.heap.size (some x) len := by
  intro j hj
  obtain ⟨b, off, spot⟩ := x
  have hc := h j (by omega)
  have hspot : spot = none := by simpa [Addr.add] using World.cell?_spot (h 0 (by omega))
  subst hspot
  have e : (⟨b, off, none⟩ : Addr).add j = ⟨b, off + j, none⟩ := by unfold Addr.add; split <;> simp_all
  rw [e] at hc
  have hb := bounds_u8 (hw (zs.getD j 0) (by rw [List.getD_eq_getElem?_getD, List.getElem?_eq_getElem (by omega)]; exact List.getElem_mem _))
  exact ⟨b, off, _, rfl, World.block_lt_of_cell? w ⟨b, off + j, none⟩ hc, hc, hb⟩

theorem Code.later {w w' : World} {a : Option Addr} {len : Nat} (h : Code w w.heap.size a len) (hb : Below w.heap.size w w') : Code w' w'.heap.size a len := by
  intro j hj
  obtain ⟨b, off, x, e1, e2, e3, e0⟩ := h j hj
  exact ⟨b, off, x, e1, Nat.lt_of_lt_of_le e2 hb.size, (hb.cell (p := ⟨b, off + j, none⟩) e2).trans e3, e0⟩

theorem Code.kept {w w' : World} {a : Option Addr} {len : Nat} (h : Code w w.heap.size a len) (hg : w.grownBy w' none) : Code w' w'.heap.size a len :=
  h.later ⟨hg.os, hg.tape, hg.output, hg.size, fun k hk => hg.block k hk (by simp)⟩

set_option maxHeartbeats 400000 in
set_option maxRecDepth 100000 in
theorem bigB (w : World) (a : Option Addr) (len cap : Nat) :
    Calls Try.prog 9 #[.slice a len cap] w fun e w' => e = .returned (.bool (decide (4096 < (len : Int)))) ∧ w' = w := by
  go_enter Try.func9, Try.ntmps9
  go_wp2
  go_ret
  exact ⟨rfl, rfl⟩

theorem code_some {w : World} {B : Nat} {a : Option Addr} {len : Nat} (h : Code w B a len) (hz : len ≠ 0) : ∃ b off, a = some ⟨b, off, none⟩ ∧ ∀ j, j < len → ∃ x : Int, w.cell? ⟨b, off + j, none⟩ = some (.int .u8 x) ∧ 0 ≤ x ∧ x ≤ 255 := by
  obtain ⟨b, off, x, rfl, _, _⟩ := h 0 (by omega)
  refine ⟨b, off, rfl, fun j hj => ?_⟩
  obtain ⟨b', off', x', e1, _, e3, e4⟩ := h j hj
  injection e1 with e1
  injection e1 with e5 e6
  subst e5 e6
  exact ⟨x', e3, e4⟩


end Go.Proofs.Ytnpbckgaeaameaa

/-! Plain facts for chapter 4 (words): numbers that go round. -/
namespace Go.Proofs.Ytnpbckgaeaameaa
open Go.RowKit

def wrapW (n : Int) : Int := (n + 2147483648) % 4294967296 - 2147483648

theorem wrapWW (n : Int) : wrap64 (wrap32 n) = wrapW n := by unfold wrap64 wrap32 wrapW; omega

theorem mul_bd (a b : Int) (ha : -2147483648 ≤ a ∧ a ≤ 2147483647) (hb : -2147483648 ≤ b ∧ b ≤ 2147483647) : -4611686018427387904 ≤ a * b ∧ a * b ≤ 4611686018427387904 := by
  have h : (a * b).natAbs ≤ 2147483648 * 2147483648 := by
    rw [Int.natAbs_mul]
    exact Nat.mul_le_mul (by omega) (by omega)
  omega

theorem tdiv_bd (a b : Int) (ha : -2147483648 ≤ a ∧ a ≤ 2147483647) : -2147483648 ≤ a.tdiv b ∧ a.tdiv b ≤ 2147483648 := by
  have h : (a.tdiv b).natAbs ≤ a.natAbs := by
    rw [Int.natAbs_tdiv]
    exact Nat.div_le_self _ _
  omega

theorem wrapW_bd (n : Int) : -2147483648 ≤ wrapW n ∧ wrapW n ≤ 2147483647 := by unfold wrapW; omega

theorem wrapW_word (n : Int) (h0 : -2147483648 ≤ n) (h1 : n ≤ 2147483647) : wrapW n = n := by unfold wrapW; omega

theorem wrapW_diff (n : Int) : (wrap64 (n - wrapW n)).tmod 4294967296 = 0 := by
  have h : ∃ k, n - wrapW n = 4294967296 * k := ⟨(n + 2147483648) / 4294967296, by unfold wrapW; omega⟩
  obtain ⟨k, hk⟩ := h
  rw [hk]
  have h2 : ∃ j, wrap64 (4294967296 * k) = 4294967296 * j := ⟨(k + 2147483648) % 4294967296 - 2147483648, by unfold wrap64; omega⟩
  obtain ⟨j, hj⟩ := h2
  rw [hj, Int.mul_tmod_right]

theorem wrapW_back (a b : Int) (h0 : -2147483648 ≤ a) (h1 : a ≤ 2147483647) : wrapW (wrapW (a + b) - b) = a := by unfold wrapW; omega

/-- What is done of two words. -/
def doneV (kind a b : Int) : Int :=
  if (-2147483648 ≤ a ∧ a ≤ 2147483647) ∧ (-2147483648 ≤ b ∧ b ≤ 2147483647) then
    (if kind = 3 then wrapW (a + b) else if kind = 4 then wrapW (a - b) else if kind = 5 then wrapW (a * b) else if kind = 6 ∧ b ≠ 0 then wrapW (a.tdiv b) else 0)
  else 0

def doneB (kind a b : Int) : Bool :=
  decide (((-2147483648 ≤ a ∧ a ≤ 2147483647) ∧ (-2147483648 ≤ b ∧ b ≤ 2147483647)) ∧ (kind = 3 ∨ kind = 4 ∨ kind = 5 ∨ kind = 6 ∧ b ≠ 0))

theorem done_no (kind a b : Int) (h : ¬ ((-2147483648 ≤ a ∧ a ≤ 2147483647) ∧ (-2147483648 ≤ b ∧ b ≤ 2147483647))) : doneV kind a b = 0 ∧ doneB kind a b = false := by
  unfold doneV doneB
  exact ⟨if_neg h, decide_eq_false (fun e => h e.1)⟩

theorem done_in (kind a b : Int) (h : (-2147483648 ≤ a ∧ a ≤ 2147483647) ∧ (-2147483648 ≤ b ∧ b ≤ 2147483647)) :
    (kind = 3 → doneV kind a b = wrapW (a + b) ∧ doneB kind a b = true) ∧ (kind = 4 → doneV kind a b = wrapW (a - b) ∧ doneB kind a b = true) ∧ (kind = 5 → doneV kind a b = wrapW (a * b) ∧ doneB kind a b = true) ∧
    (kind = 6 → b ≠ 0 → doneV kind a b = wrapW (a.tdiv b) ∧ doneB kind a b = true) ∧ (kind ≠ 3 → kind ≠ 4 → kind ≠ 5 → ¬ (kind = 6 ∧ b ≠ 0) → doneV kind a b = 0 ∧ doneB kind a b = false) := by
  unfold doneV doneB
  rw [if_pos h]
  refine ⟨fun e => ?_, fun e => ?_, fun e => ?_, fun e hb => ?_, fun e3 e4 e5 e6 => ?_⟩
  · subst e; exact ⟨if_pos rfl, decide_eq_true ⟨h, Or.inl rfl⟩⟩
  · subst e; exact ⟨by simp, decide_eq_true ⟨h, Or.inr (Or.inl rfl)⟩⟩
  · subst e; exact ⟨by simp, decide_eq_true ⟨h, Or.inr (Or.inr (Or.inl rfl))⟩⟩
  · subst e; exact ⟨by simp [hb], decide_eq_true ⟨h, Or.inr (Or.inr (Or.inr ⟨rfl, hb⟩))⟩⟩
  · exact ⟨by rw [if_neg e3, if_neg e4, if_neg e5, if_neg e6], decide_eq_false (fun e => by rcases e.2 with h | h | h | h <;> first | exact e3 h | exact e4 h | exact e5 h | exact e6 h)⟩

/-- Where it is done, both were words. -/
theorem done_yes (kind a b : Int) (h : doneB kind a b = true) : (-2147483648 ≤ a ∧ a ≤ 2147483647) ∧ (-2147483648 ≤ b ∧ b ≤ 2147483647) := (of_decide_eq_true h).1

theorem doneV_bd (kind a b : Int) : -2147483648 ≤ doneV kind a b ∧ doneV kind a b ≤ 2147483647 := by
  unfold doneV
  split
  · repeat' split
    all_goals first | exact wrapW_bd _ | omega
  · omega

theorem doneV_not (kind a b : Int) (h : doneB kind a b = false) : doneV kind a b = 0 := by
  by_cases hw : (-2147483648 ≤ a ∧ a ≤ 2147483647) ∧ (-2147483648 ≤ b ∧ b ≤ 2147483647)
  · obtain ⟨h3, h4, h5, h6, h0⟩ := done_in kind a b hw
    refine (h0 (fun e => ?_) (fun e => ?_) (fun e => ?_) (fun e => ?_)).1
    · rw [(h3 e).2] at h; cases h
    · rw [(h4 e).2] at h; cases h
    · rw [(h5 e).2] at h; cases h
    · rw [(h6 e.1 e.2).2] at h; cases h
  · exact (done_no kind a b hw).1

theorem done_back (a b : Int) (ha : -2147483648 ≤ a ∧ a ≤ 2147483647) (hb : -2147483648 ≤ b ∧ b ≤ 2147483647) : doneV 4 (doneV 3 a b) b = a ∧ doneB 3 a b = true ∧ doneB 4 (doneV 3 a b) b = true ∧ doneB 5 a b = true ∧ doneB 5 b a = true ∧ doneV 5 a b = doneV 5 b a := by
  have h3 := (done_in 3 a b ⟨ha, hb⟩).1 rfl
  have hs := wrapW_bd (a + b)
  have h4 := (done_in 4 (wrapW (a + b)) b ⟨hs, hb⟩).2.1 rfl
  have h5 := (done_in 5 a b ⟨ha, hb⟩).2.2.1 rfl
  have h6 := (done_in 5 b a ⟨hb, ha⟩).2.2.1 rfl
  rw [h3.1]
  exact ⟨by rw [h4.1]; exact wrapW_back a b ha.1 ha.2, h3.2, h4.2, h5.2, h6.2, by rw [h5.1, h6.1, Int.mul_comm]⟩

end Go.Proofs.Ytnpbckgaeaameaa

/-! Plain facts for chapter 5 (texts): pieces between bytes, names, numbers. -/
namespace Go.Proofs.Ytnpbckgaeaameaa
open Go.RowKit

/-- The pieces between bytes b, where cur was read already. -/
def splitGo (b : UInt8) : List UInt8 → List UInt8 → List (List UInt8)
  | cur, [] => [cur]
  | cur, c :: r => if c = b then cur :: splitGo b [] r else splitGo b (cur ++ [c]) r

def splitL (b : UInt8) (l : List UInt8) : List (List UInt8) := splitGo b [] l

theorem splitGo_ne (b : UInt8) (l : List UInt8) : ∀ cur, splitGo b cur l ≠ [] := by
  induction l with
  | nil => intro cur; simp [splitGo]
  | cons c r ih => intro cur; rw [splitGo]; split <;> simp [ih]

theorem splitGo_len (b : UInt8) (l : List UInt8) : ∀ cur, (splitGo b cur l).length ≤ l.length + 1 := by
  induction l with
  | nil => intro cur; simp [splitGo]
  | cons c r ih =>
    intro cur
    rw [splitGo]
    split
    · have := ih []; simp; omega
    · have := ih (cur ++ [c]); simp; omega

theorem splitGo_flat (b : UInt8) (l : List UInt8) : ∀ cur, (splitGo b cur l).flatten.length ≤ cur.length + l.length := by
  induction l with
  | nil => intro cur; simp [splitGo]
  | cons c r ih =>
    intro cur
    rw [splitGo]
    split
    · have := ih []; rw [List.flatten_cons, List.length_append]; simp at this ⊢; omega
    · have := ih (cur ++ [c]); rw [List.length_append] at this; simp at this ⊢; omega

/-- Joined by that byte they are the text. -/
def joinBy (b : UInt8) : List (List UInt8) → List UInt8
  | [] => []
  | [x] => x
  | x :: y :: r => x ++ [b] ++ joinBy b (y :: r)

theorem joinBy_cons (b : UInt8) (x : List UInt8) (r : List (List UInt8)) (h : r ≠ []) : joinBy b (x :: r) = x ++ [b] ++ joinBy b r := by
  cases r with
  | nil => exact absurd rfl h
  | cons y q => rfl

theorem joinBy_split (b : UInt8) (l : List UInt8) : ∀ cur, joinBy b (splitGo b cur l) = cur ++ l := by
  induction l with
  | nil => intro cur; simp [splitGo, joinBy]
  | cons c r ih =>
    intro cur
    rw [splitGo]
    split
    · rename_i h
      rw [joinBy_cons b cur _ (splitGo_ne b r []), ih, h]
      simp
    · rw [ih]; simp

/-- Each with a byte 10 behind it. -/
def termJ (ls : List (List UInt8)) : List UInt8 := (ls.map (· ++ [10])).flatten

theorem termJ_snoc (ls : List (List UInt8)) (x : List UInt8) : termJ (ls ++ [x]) = termJ ls ++ x ++ [10] := by simp [termJ]

theorem joinBy_term (ls : List (List UInt8)) (x : List UInt8) : joinBy 10 (ls ++ [x]) = termJ ls ++ x := by
  induction ls with
  | nil => simp [joinBy, termJ]
  | cons y r ih =>
    rw [List.cons_append, joinBy_cons 10 y (r ++ [x]) (by simp), ih]
    simp [termJ]

def linesL (l : List UInt8) : List (List UInt8) := if (splitL 10 l).getLastD [] = [] then (splitL 10 l).dropLast else splitL 10 l

theorem lines_join (l : List UInt8) : termJ (linesL l) = l ∨ termJ (linesL l) = l ++ [10] := by
  have hne := splitGo_ne 10 l []
  have hj := joinBy_split 10 l []
  rw [List.nil_append] at hj
  have hs : splitL 10 l = (splitL 10 l).dropLast ++ [(splitL 10 l).getLastD []] := by
    have h : splitL 10 l ≠ [] := hne
    have h2 := List.dropLast_concat_getLast h
    rw [← h2]
    simp [List.getLastD_eq_getLast?]
  have hj2 : joinBy 10 (splitL 10 l) = l := hj
  rw [hs, joinBy_term] at hj2
  unfold linesL
  split
  · rename_i h
    rw [h, List.append_nil] at hj2
    exact Or.inl hj2
  · right
    rw [hs, termJ_snoc, hj2]

def wordsL (l : List UInt8) : List (List UInt8) := if l = [] then [] else splitL 32 l

theorem words_join (l : List UInt8) : joinBy 32 (wordsL l) = l := by
  unfold wordsL
  split
  · rename_i h; rw [h]; rfl
  · have := joinBy_split 32 l []; rw [List.nil_append] at this; exact this

theorem linesL_len (l : List UInt8) : (linesL l).length ≤ l.length + 1 := by
  have := splitGo_len 10 l []
  unfold linesL splitL
  split
  · rw [List.length_dropLast]; omega
  · exact this

theorem wordsL_len (l : List UInt8) : (wordsL l).length ≤ l.length + 1 := by
  have := splitGo_len 32 l []
  unfold wordsL splitL
  split
  · simp
  · exact this

/-- One step over a text, from its left. -/
theorem split_hit (b : UInt8) (l : List UInt8) (out : List (List UInt8)) (cur : List UInt8) (i : Nat) (hi : i < l.length) (he : l[i] = b) (h : out ++ splitGo b cur (l.drop i) = splitL b l) : (out ++ [cur]) ++ splitGo b [] (l.drop (i + 1)) = splitL b l := by
  rw [List.drop_eq_getElem_cons hi, splitGo, if_pos he] at h
  rw [← h]; simp

theorem split_miss (b : UInt8) (l : List UInt8) (out : List (List UInt8)) (cur : List UInt8) (i : Nat) (hi : i < l.length) (he : ¬ l[i] = b) (h : out ++ splitGo b cur (l.drop i) = splitL b l) : out ++ splitGo b (cur ++ [l[i]]) (l.drop (i + 1)) = splitL b l := by
  rw [List.drop_eq_getElem_cons hi, splitGo, if_neg he] at h
  exact h

theorem split_end (b : UInt8) (l : List UInt8) (out : List (List UInt8)) (cur : List UInt8) (h : out ++ splitGo b cur (l.drop l.length) = splitL b l) : out ++ [cur] = splitL b l := by
  rw [List.drop_length, splitGo] at h
  exact h

/-- The text between two places. -/
theorem cut_snoc (l : List UInt8) (f i : Nat) (hf : f ≤ i) (hi : i < l.length) : (l.drop f).take (i + 1 - f) = (l.drop f).take (i - f) ++ [l[i]] := by
  have hlt : i - f < (l.drop f).length := by rw [List.length_drop]; omega
  rw [show i + 1 - f = i - f + 1 by omega, List.take_succ_eq_append_getElem hlt, List.getElem_drop]
  congr 2
  congr 1
  omega

/-- Names. -/
def nameB (l : List UInt8) : Bool := decide (1 ≤ l.length ∧ l.length ≤ 8) && l.all (fun c => decide (97 ≤ c.toNat ∧ c.toNat ≤ 122))

theorem name_all (l : List UInt8) (k : Nat) (hk : k < l.length) : (l.take (k + 1)).all (fun c => decide (97 ≤ c.toNat ∧ c.toNat ≤ 122)) = ((l.take k).all (fun c => decide (97 ≤ c.toNat ∧ c.toNat ≤ 122)) && decide (97 ≤ l[k].toNat ∧ l[k].toNat ≤ 122)) := by
  rw [List.take_succ_eq_append_getElem hk, List.all_append]
  simp

theorem name_bad (l : List UInt8) (k : Nat) (hk : k < l.length) (h : ¬ (97 ≤ l[k].toNat ∧ l[k].toNat ≤ 122)) : nameB l = false := by
  unfold nameB
  have : l.all (fun c => decide (97 ≤ c.toNat ∧ c.toNat ≤ 122)) = false := by
    rw [List.all_eq_false]
    exact ⟨l[k], List.getElem_mem hk, by simpa using h⟩
  rw [this, Bool.and_false]

theorem name_good (l : List UInt8) (h : ∀ k (hk : k < l.length), 97 ≤ l[k].toNat ∧ l[k].toNat ≤ 122) : nameB l = inB (l.length : Int) 1 8 := by
  have : l.all (fun c => decide (97 ≤ c.toNat ∧ c.toNat ≤ 122)) = true := by
    rw [List.all_eq_true]
    intro c hc
    obtain ⟨k, hk, rfl⟩ := List.getElem_of_mem hc
    exact decide_eq_true (h k hk)
  unfold nameB inB
  rw [this, Bool.and_true]
  exact decide_eq_decide.2 (by omega)

end Go.Proofs.Ytnpbckgaeaameaa
