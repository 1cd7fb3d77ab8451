/-
  Parts of one proof, one behind the other: Math1, Math4, Math5, Math5N, Math5J, Math6.
-/
import Derived.WalkKit
import Derived.IntWalk
import Derived.Laws.Bits128

/-! Plain facts on lists and numbers for chapter 1 (hashes): what Hash computes, and that it stays in its range. -/
namespace Go.Proofs.YtglhbcbilepomaaDoor
open Go.RowKit

def hashStep (h : Int) (b : UInt8) : Int := (1000003 * h + (b.toNat : Int) + 1) % 2147483647

def hashL (l : List UInt8) : Int := l.foldl hashStep 17

theorem w64 (n : Int) (h : -9223372036854775808 ≤ n ∧ n ≤ 9223372036854775807) : wrap64 n = n := by unfold wrap64; omega

theorem stepW (h : Int) (b : UInt8) (h0 : 0 ≤ h ∧ h < 2147483647) : ((wrap64 (wrap64 (1000003 * h + wrap64 (b.toNat : Int)) + 1)).tmod 2147483647) = hashStep h b := by
  have hb := b.toNat_lt
  rw [w64 (b.toNat : Int) (by omega), w64 (1000003 * h + (b.toNat : Int)) (by omega), w64 _ (by omega), Int.tmod_eq_emod_of_nonneg (by omega)]
  rfl

theorem hashStep_bd (h : Int) (b : UInt8) : 0 ≤ hashStep h b ∧ hashStep h b < 2147483647 := by
  unfold hashStep; omega

theorem foldl_bd (l : List UInt8) (h : Int) (h0 : 0 ≤ h ∧ h < 2147483647) : 0 ≤ l.foldl hashStep h ∧ l.foldl hashStep h < 2147483647 := by
  induction l generalizing h with
  | nil => exact h0
  | cons b r ih => exact ih _ (hashStep_bd h b)

theorem hashL_bd (l : List UInt8) : 0 ≤ hashL l ∧ hashL l < 2147483647 := foldl_bd l 17 (by omega)

theorem hashL_snoc (l : List UInt8) (c : UInt8) : hashL (l ++ [c]) = hashStep (hashL l) c := by
  unfold hashL; rw [List.foldl_append]; rfl

theorem take_snoc (s : ByteArray) (k : Nat) (h : k < s.size) : s.data.toList.take (k + 1) = s.data.toList.take k ++ [s[k]] := by
  rw [List.take_succ_eq_append_getElem (by simpa using h)]; rfl

theorem hashL_take (s : ByteArray) (k : Nat) (h : k < s.size) : hashL (s.data.toList.take (k + 1)) = hashStep (hashL (s.data.toList.take k)) s[k] := by
  rw [take_snoc s k h, hashL_snoc]

theorem ret_int {k : IntKind} {a b : Int} (h : a = b) : Ending.returned (.int k a) = .returned (.int k b) := by rw [h]

def hexDs : List UInt8 := [48, 49, 50, 51, 52, 53, 54, 55, 56, 57, 97, 98, 99, 100, 101, 102]
def hexD (n : Nat) : UInt8 := hexDs.getD n 0
theorem hexD_at (m : Int) (h : m.toNat < (ByteArray.mk #[48, 49, 50, 51, 52, 53, 54, 55, 56, 57, 97, 98, 99, 100, 101, 102]).size) : (ByteArray.mk #[48, 49, 50, 51, 52, 53, 54, 55, 56, 57, 97, 98, 99, 100, 101, 102])[m.toNat] = hexD m.toNat := by
  have h' : m.toNat < 16 := h
  generalize m.toNat = k at *
  unfold hexD hexDs
  rw [List.getD_eq_getElem?_getD, List.getElem?_eq_getElem (by simpa using h')]
  rfl
def hexL (n : Nat) : List UInt8 := [hexD (n / 268435456 % 16), hexD (n / 16777216 % 16), hexD (n / 1048576 % 16), hexD (n / 65536 % 16), hexD (n / 4096 % 16), hexD (n / 256 % 16), hexD (n / 16 % 16), hexD (n % 16)]

theorem hexW (n : Int) (h0 : 0 ≤ n) : #[hexD (n / 16 / 16 / 16 / 16 / 16 / 16 / 16 % 16).toNat, hexD (n / 16 / 16 / 16 / 16 / 16 / 16 % 16).toNat, hexD (n / 16 / 16 / 16 / 16 / 16 % 16).toNat, hexD (n / 16 / 16 / 16 / 16 % 16).toNat, hexD (n / 16 / 16 / 16 % 16).toNat, hexD (n / 16 / 16 % 16).toNat, hexD (n / 16 % 16).toNat, hexD (n % 16).toNat] = (hexL n.toNat).toArray := by
  unfold hexL
  rw [show (n / 16 / 16 / 16 / 16 / 16 / 16 / 16 % 16).toNat = n.toNat / 268435456 % 16 by omega, show (n / 16 / 16 / 16 / 16 / 16 / 16 % 16).toNat = n.toNat / 16777216 % 16 by omega,
    show (n / 16 / 16 / 16 / 16 / 16 % 16).toNat = n.toNat / 1048576 % 16 by omega, show (n / 16 / 16 / 16 / 16 % 16).toNat = n.toNat / 65536 % 16 by omega,
    show (n / 16 / 16 / 16 % 16).toNat = n.toNat / 4096 % 16 by omega, show (n / 16 / 16 % 16).toNat = n.toNat / 256 % 16 by omega,
    show (n / 16 % 16).toNat = n.toNat / 16 % 16 by omega, show (n % 16).toNat = n.toNat % 16 by omega]

theorem ret_str {a b : Array UInt8} (h : a = b) : Ending.returned (.string ⟨a⟩) = .returned (.string ⟨b⟩) := by rw [h]

theorem and15 (n : Int) : bits .and .i64 n 15 = n % 16 := by
  have h15 : (BitVec.ofInt 64 15).toNat = 2 ^ 4 - 1 := by decide
  have key : (BitVec.ofInt 64 n &&& BitVec.ofInt 64 15).toNat = (n % ((2 ^ 64 : Nat) : Int)).toNat % 2 ^ 4 := by
    rw [BitVec.toNat_and, BitVec.toNat_ofInt, h15, Nat.and_two_pow_sub_one_eq_mod]
  show IntKind.i64.wrap ((BitVec.ofInt 64 n &&& BitVec.ofInt 64 15).toNat : Nat) = n % 16
  rw [key, IntKind.wrap_i64]
  omega

theorem and255 (n : Int) : bits .and .i64 n 255 = n % 256 := by
  have h15 : (BitVec.ofInt 64 255).toNat = 2 ^ 8 - 1 := by decide
  have key : (BitVec.ofInt 64 n &&& BitVec.ofInt 64 255).toNat = (n % ((2 ^ 64 : Nat) : Int)).toNat % 2 ^ 8 := by
    rw [BitVec.toNat_and, BitVec.toNat_ofInt, h15, Nat.and_two_pow_sub_one_eq_mod]
  show IntKind.i64.wrap ((BitVec.ofInt 64 n &&& BitVec.ofInt 64 255).toNat : Nat) = n % 256
  rw [key, IntKind.wrap_i64]
  omega

def hexS (n : Int) : List UInt8 := if 0 ≤ n ∧ n ≤ 4294967295 then hexL n.toNat else []
theorem hexS_yes (n : Int) (h0 : 0 ≤ n) (h1 : n ≤ 4294967295) : hexS n = hexL n.toNat := if_pos ⟨h0, h1⟩
theorem hexS_no (n : Int) (h : n < 0 ∨ 4294967295 < n) : hexS n = [] := if_neg (by omega)

def inB (x lo hi : Int) : Bool := decide (lo ≤ x ∧ x ≤ hi)
theorem inB_yes (x lo hi : Int) (h1 : lo ≤ x) (h2 : x ≤ hi) : inB x lo hi = true := decide_eq_true ⟨h1, h2⟩
theorem inB_no (x lo hi : Int) (h : x < lo ∨ hi < x) : inB x lo hi = false := decide_eq_false (by omega)

def turnedL (l : List UInt8) (at_ to : Int) : List UInt8 := if (0 ≤ at_ ∧ at_ < l.length) ∧ (0 ≤ to ∧ to ≤ 255) then l.set at_.toNat (UInt8.ofNat to.toNat) else l
theorem turnedL_yes (l : List UInt8) (at_ to : Int) (h0 : 0 ≤ at_) (h1 : at_ < l.length) (h2 : 0 ≤ to) (h3 : to ≤ 255) : turnedL l at_ to = l.set at_.toNat (UInt8.ofNat to.toNat) := if_pos ⟨⟨h0, h1⟩, h2, h3⟩
theorem turnedL_no (l : List UInt8) (at_ to : Int) (h : at_ < 0 ∨ (l.length : Int) ≤ at_ ∨ to < 0 ∨ 255 < to) : turnedL l at_ to = l := if_neg (by omega)

end Go.Proofs.YtglhbcbilepomaaDoor

/-! Plain facts for chapter 4 (words): numbers that go round. -/
namespace Go.Proofs.YtglhbcbilepomaaDoor
open Go.RowKit

def wrapW (n : Int) : Int := (n + 2147483648) % 4294967296 - 2147483648

theorem wrapWW (n : Int) : wrap64 (wrap32 n) = wrapW n := by unfold wrap64 wrap32 wrapW; omega

theorem mul_bd (a b : Int) (ha : -2147483648 ≤ a ∧ a ≤ 2147483647) (hb : -2147483648 ≤ b ∧ b ≤ 2147483647) : -4611686018427387904 ≤ a * b ∧ a * b ≤ 4611686018427387904 := by
  have h : (a * b).natAbs ≤ 2147483648 * 2147483648 := by
    rw [Int.natAbs_mul]
    exact Nat.mul_le_mul (by omega) (by omega)
  omega

theorem tdiv_bd (a b : Int) (ha : -2147483648 ≤ a ∧ a ≤ 2147483647) : -2147483648 ≤ a.tdiv b ∧ a.tdiv b ≤ 2147483648 := by
  have h : (a.tdiv b).natAbs ≤ a.natAbs := by
    rw [Int.natAbs_tdiv]
    exact Nat.div_le_self _ _
  omega

theorem wrapW_bd (n : Int) : -2147483648 ≤ wrapW n ∧ wrapW n ≤ 2147483647 := by unfold wrapW; omega

theorem wrapW_word (n : Int) (h0 : -2147483648 ≤ n) (h1 : n ≤ 2147483647) : wrapW n = n := by unfold wrapW; omega

theorem wrapW_diff (n : Int) : (wrap64 (n - wrapW n)).tmod 4294967296 = 0 := by
  have h : ∃ k, n - wrapW n = 4294967296 * k := ⟨(n + 2147483648) / 4294967296, by unfold wrapW; omega⟩
  obtain ⟨k, hk⟩ := h
  rw [hk]
  have h2 : ∃ j, wrap64 (4294967296 * k) = 4294967296 * j := ⟨(k + 2147483648) % 4294967296 - 2147483648, by unfold wrap64; omega⟩
  obtain ⟨j, hj⟩ := h2
  rw [hj, Int.mul_tmod_right]

theorem wrapW_back (a b : Int) (h0 : -2147483648 ≤ a) (h1 : a ≤ 2147483647) : wrapW (wrapW (a + b) - b) = a := by unfold wrapW; omega

/-- What is done of two words. -/
def doneV (kind a b : Int) : Int :=
  if (-2147483648 ≤ a ∧ a ≤ 2147483647) ∧ (-2147483648 ≤ b ∧ b ≤ 2147483647) then
    (if kind = 3 then wrapW (a + b) else if kind = 4 then wrapW (a - b) else if kind = 5 then wrapW (a * b) else if kind = 6 ∧ b ≠ 0 then wrapW (a.tdiv b) else 0)
  else 0

def doneB (kind a b : Int) : Bool :=
  decide (((-2147483648 ≤ a ∧ a ≤ 2147483647) ∧ (-2147483648 ≤ b ∧ b ≤ 2147483647)) ∧ (kind = 3 ∨ kind = 4 ∨ kind = 5 ∨ kind = 6 ∧ b ≠ 0))

theorem done_no (kind a b : Int) (h : ¬ ((-2147483648 ≤ a ∧ a ≤ 2147483647) ∧ (-2147483648 ≤ b ∧ b ≤ 2147483647))) : doneV kind a b = 0 ∧ doneB kind a b = false := by
  unfold doneV doneB
  exact ⟨if_neg h, decide_eq_false (fun e => h e.1)⟩

theorem done_in (kind a b : Int) (h : (-2147483648 ≤ a ∧ a ≤ 2147483647) ∧ (-2147483648 ≤ b ∧ b ≤ 2147483647)) :
    (kind = 3 → doneV kind a b = wrapW (a + b) ∧ doneB kind a b = true) ∧ (kind = 4 → doneV kind a b = wrapW (a - b) ∧ doneB kind a b = true) ∧ (kind = 5 → doneV kind a b = wrapW (a * b) ∧ doneB kind a b = true) ∧
    (kind = 6 → b ≠ 0 → doneV kind a b = wrapW (a.tdiv b) ∧ doneB kind a b = true) ∧ (kind ≠ 3 → kind ≠ 4 → kind ≠ 5 → ¬ (kind = 6 ∧ b ≠ 0) → doneV kind a b = 0 ∧ doneB kind a b = false) := by
  unfold doneV doneB
  rw [if_pos h]
  refine ⟨fun e => ?_, fun e => ?_, fun e => ?_, fun e hb => ?_, fun e3 e4 e5 e6 => ?_⟩
  · subst e; exact ⟨if_pos rfl, decide_eq_true ⟨h, Or.inl rfl⟩⟩
  · subst e; exact ⟨by simp, decide_eq_true ⟨h, Or.inr (Or.inl rfl)⟩⟩
  · subst e; exact ⟨by simp, decide_eq_true ⟨h, Or.inr (Or.inr (Or.inl rfl))⟩⟩
  · subst e; exact ⟨by simp [hb], decide_eq_true ⟨h, Or.inr (Or.inr (Or.inr ⟨rfl, hb⟩))⟩⟩
  · exact ⟨by rw [if_neg e3, if_neg e4, if_neg e5, if_neg e6], decide_eq_false (fun e => by rcases e.2 with h | h | h | h <;> first | exact e3 h | exact e4 h | exact e5 h | exact e6 h)⟩

/-- Where it is done, both were words. -/
theorem done_yes (kind a b : Int) (h : doneB kind a b = true) : (-2147483648 ≤ a ∧ a ≤ 2147483647) ∧ (-2147483648 ≤ b ∧ b ≤ 2147483647) := (of_decide_eq_true h).1

theorem doneV_bd (kind a b : Int) : -2147483648 ≤ doneV kind a b ∧ doneV kind a b ≤ 2147483647 := by
  unfold doneV
  split
  · repeat' split
    all_goals first | exact wrapW_bd _ | omega
  · omega

theorem doneV_not (kind a b : Int) (h : doneB kind a b = false) : doneV kind a b = 0 := by
  by_cases hw : (-2147483648 ≤ a ∧ a ≤ 2147483647) ∧ (-2147483648 ≤ b ∧ b ≤ 2147483647)
  · obtain ⟨h3, h4, h5, h6, h0⟩ := done_in kind a b hw
    refine (h0 (fun e => ?_) (fun e => ?_) (fun e => ?_) (fun e => ?_)).1
    · rw [(h3 e).2] at h; cases h
    · rw [(h4 e).2] at h; cases h
    · rw [(h5 e).2] at h; cases h
    · rw [(h6 e.1 e.2).2] at h; cases h
  · exact (done_no kind a b hw).1

theorem done_back (a b : Int) (ha : -2147483648 ≤ a ∧ a ≤ 2147483647) (hb : -2147483648 ≤ b ∧ b ≤ 2147483647) : doneV 4 (doneV 3 a b) b = a ∧ doneB 3 a b = true ∧ doneB 4 (doneV 3 a b) b = true ∧ doneB 5 a b = true ∧ doneB 5 b a = true ∧ doneV 5 a b = doneV 5 b a := by
  have h3 := (done_in 3 a b ⟨ha, hb⟩).1 rfl
  have hs := wrapW_bd (a + b)
  have h4 := (done_in 4 (wrapW (a + b)) b ⟨hs, hb⟩).2.1 rfl
  have h5 := (done_in 5 a b ⟨ha, hb⟩).2.2.1 rfl
  have h6 := (done_in 5 b a ⟨hb, ha⟩).2.2.1 rfl
  rw [h3.1]
  exact ⟨by rw [h4.1]; exact wrapW_back a b ha.1 ha.2, h3.2, h4.2, h5.2, h6.2, by rw [h5.1, h6.1, Int.mul_comm]⟩

end Go.Proofs.YtglhbcbilepomaaDoor

/-! Plain facts for chapter 5 (texts): pieces between bytes, names, numbers. -/
namespace Go.Proofs.YtglhbcbilepomaaDoor
open Go.RowKit

/-- The pieces between bytes b, where cur was read already. -/
def splitGo (b : UInt8) : List UInt8 → List UInt8 → List (List UInt8)
  | cur, [] => [cur]
  | cur, c :: r => if c = b then cur :: splitGo b [] r else splitGo b (cur ++ [c]) r

def splitL (b : UInt8) (l : List UInt8) : List (List UInt8) := splitGo b [] l

theorem splitGo_ne (b : UInt8) (l : List UInt8) : ∀ cur, splitGo b cur l ≠ [] := by
  induction l with
  | nil => intro cur; simp [splitGo]
  | cons c r ih => intro cur; rw [splitGo]; split <;> simp [ih]

theorem splitGo_len (b : UInt8) (l : List UInt8) : ∀ cur, (splitGo b cur l).length ≤ l.length + 1 := by
  induction l with
  | nil => intro cur; simp [splitGo]
  | cons c r ih =>
    intro cur
    rw [splitGo]
    split
    · have := ih []; simp; omega
    · have := ih (cur ++ [c]); simp; omega

theorem splitGo_flat (b : UInt8) (l : List UInt8) : ∀ cur, (splitGo b cur l).flatten.length ≤ cur.length + l.length := by
  induction l with
  | nil => intro cur; simp [splitGo]
  | cons c r ih =>
    intro cur
    rw [splitGo]
    split
    · have := ih []; rw [List.flatten_cons, List.length_append]; simp at this ⊢; omega
    · have := ih (cur ++ [c]); rw [List.length_append] at this; simp at this ⊢; omega

/-- Joined by that byte they are the text. -/
def joinBy (b : UInt8) : List (List UInt8) → List UInt8
  | [] => []
  | [x] => x
  | x :: y :: r => x ++ [b] ++ joinBy b (y :: r)

theorem joinBy_cons (b : UInt8) (x : List UInt8) (r : List (List UInt8)) (h : r ≠ []) : joinBy b (x :: r) = x ++ [b] ++ joinBy b r := by
  cases r with
  | nil => exact absurd rfl h
  | cons y q => rfl

theorem joinBy_split (b : UInt8) (l : List UInt8) : ∀ cur, joinBy b (splitGo b cur l) = cur ++ l := by
  induction l with
  | nil => intro cur; simp [splitGo, joinBy]
  | cons c r ih =>
    intro cur
    rw [splitGo]
    split
    · rename_i h
      rw [joinBy_cons b cur _ (splitGo_ne b r []), ih, h]
      simp
    · rw [ih]; simp

/-- Each with a byte 10 behind it. -/
def termJ (ls : List (List UInt8)) : List UInt8 := (ls.map (· ++ [10])).flatten

theorem termJ_snoc (ls : List (List UInt8)) (x : List UInt8) : termJ (ls ++ [x]) = termJ ls ++ x ++ [10] := by simp [termJ]

theorem joinBy_term (ls : List (List UInt8)) (x : List UInt8) : joinBy 10 (ls ++ [x]) = termJ ls ++ x := by
  induction ls with
  | nil => simp [joinBy, termJ]
  | cons y r ih =>
    rw [List.cons_append, joinBy_cons 10 y (r ++ [x]) (by simp), ih]
    simp [termJ]

def linesL (l : List UInt8) : List (List UInt8) := if (splitL 10 l).getLastD [] = [] then (splitL 10 l).dropLast else splitL 10 l

theorem lines_join (l : List UInt8) : termJ (linesL l) = l ∨ termJ (linesL l) = l ++ [10] := by
  have hne := splitGo_ne 10 l []
  have hj := joinBy_split 10 l []
  rw [List.nil_append] at hj
  have hs : splitL 10 l = (splitL 10 l).dropLast ++ [(splitL 10 l).getLastD []] := by
    have h : splitL 10 l ≠ [] := hne
    have h2 := List.dropLast_concat_getLast h
    rw [← h2]
    simp [List.getLastD_eq_getLast?]
  have hj2 : joinBy 10 (splitL 10 l) = l := hj
  rw [hs, joinBy_term] at hj2
  unfold linesL
  split
  · rename_i h
    rw [h, List.append_nil] at hj2
    exact Or.inl hj2
  · right
    rw [hs, termJ_snoc, hj2]

def wordsL (l : List UInt8) : List (List UInt8) := if l = [] then [] else splitL 32 l

theorem words_join (l : List UInt8) : joinBy 32 (wordsL l) = l := by
  unfold wordsL
  split
  · rename_i h; rw [h]; rfl
  · have := joinBy_split 32 l []; rw [List.nil_append] at this; exact this

theorem linesL_len (l : List UInt8) : (linesL l).length ≤ l.length + 1 := by
  have := splitGo_len 10 l []
  unfold linesL splitL
  split
  · rw [List.length_dropLast]; omega
  · exact this

theorem wordsL_len (l : List UInt8) : (wordsL l).length ≤ l.length + 1 := by
  have := splitGo_len 32 l []
  unfold wordsL splitL
  split
  · simp
  · exact this

/-- One step over a text, from its left. -/
theorem split_hit (b : UInt8) (l : List UInt8) (out : List (List UInt8)) (cur : List UInt8) (i : Nat) (hi : i < l.length) (he : l[i] = b) (h : out ++ splitGo b cur (l.drop i) = splitL b l) : (out ++ [cur]) ++ splitGo b [] (l.drop (i + 1)) = splitL b l := by
  rw [List.drop_eq_getElem_cons hi, splitGo, if_pos he] at h
  rw [← h]; simp

theorem split_miss (b : UInt8) (l : List UInt8) (out : List (List UInt8)) (cur : List UInt8) (i : Nat) (hi : i < l.length) (he : ¬ l[i] = b) (h : out ++ splitGo b cur (l.drop i) = splitL b l) : out ++ splitGo b (cur ++ [l[i]]) (l.drop (i + 1)) = splitL b l := by
  rw [List.drop_eq_getElem_cons hi, splitGo, if_neg he] at h
  exact h

theorem split_end (b : UInt8) (l : List UInt8) (out : List (List UInt8)) (cur : List UInt8) (h : out ++ splitGo b cur (l.drop l.length) = splitL b l) : out ++ [cur] = splitL b l := by
  rw [List.drop_length, splitGo] at h
  exact h

/-- The text between two places. -/
theorem cut_snoc (l : List UInt8) (f i : Nat) (hf : f ≤ i) (hi : i < l.length) : (l.drop f).take (i + 1 - f) = (l.drop f).take (i - f) ++ [l[i]] := by
  have hlt : i - f < (l.drop f).length := by rw [List.length_drop]; omega
  rw [show i + 1 - f = i - f + 1 by omega, List.take_succ_eq_append_getElem hlt, List.getElem_drop]
  congr 2
  congr 1
  omega

/-- Names. -/
def nameB (l : List UInt8) : Bool := decide (1 ≤ l.length ∧ l.length ≤ 8) && l.all (fun c => decide (97 ≤ c.toNat ∧ c.toNat ≤ 122))

theorem name_all (l : List UInt8) (k : Nat) (hk : k < l.length) : (l.take (k + 1)).all (fun c => decide (97 ≤ c.toNat ∧ c.toNat ≤ 122)) = ((l.take k).all (fun c => decide (97 ≤ c.toNat ∧ c.toNat ≤ 122)) && decide (97 ≤ l[k].toNat ∧ l[k].toNat ≤ 122)) := by
  rw [List.take_succ_eq_append_getElem hk, List.all_append]
  simp

theorem name_bad (l : List UInt8) (k : Nat) (hk : k < l.length) (h : ¬ (97 ≤ l[k].toNat ∧ l[k].toNat ≤ 122)) : nameB l = false := by
  unfold nameB
  have : l.all (fun c => decide (97 ≤ c.toNat ∧ c.toNat ≤ 122)) = false := by
    rw [List.all_eq_false]
    exact ⟨l[k], List.getElem_mem hk, by simpa using h⟩
  rw [this, Bool.and_false]

theorem name_good (l : List UInt8) (h : ∀ k (hk : k < l.length), 97 ≤ l[k].toNat ∧ l[k].toNat ≤ 122) : nameB l = inB (l.length : Int) 1 8 := by
  have : l.all (fun c => decide (97 ≤ c.toNat ∧ c.toNat ≤ 122)) = true := by
    rw [List.all_eq_true]
    intro c hc
    obtain ⟨k, hk, rfl⟩ := List.getElem_of_mem hc
    exact decide_eq_true (h k hk)
  unfold nameB inB
  rw [this, Bool.and_true]
  exact decide_eq_decide.2 (by omega)

end Go.Proofs.YtglhbcbilepomaaDoor

/-! Plain facts for chapter 5: a number, as it is written and as it is read. -/
namespace Go.Proofs.YtglhbcbilepomaaDoor
open Go.RowKit

theorem snoc_ind {motive : List UInt8 → Prop} (nil : motive []) (snoc : ∀ l c, motive l → motive (l ++ [c])) (l : List UInt8) : motive l := by
  have h : ∀ r : List UInt8, motive r.reverse := by
    intro r
    induction r with
    | nil => exact nil
    | cons c r ih => rw [List.reverse_cons]; exact snoc _ _ ih
  have := h l.reverse
  rwa [List.reverse_reverse] at this

def digit (n : Nat) : UInt8 := UInt8.ofNat (48 + n % 10)

theorem digit_nat (n : Nat) : (digit n).toNat = 48 + n % 10 := by
  unfold digit
  rw [UInt8.toNat_ofNat']
  omega

/-- The decimal digits, without noughts ahead. -/
def digL (n : Nat) : List UInt8 := if n < 10 then [digit n] else digL (n / 10) ++ [digit n]
termination_by n
decreasing_by omega

theorem digL_ne (n : Nat) : digL n ≠ [] := by
  rw [digL]
  split <;> simp

theorem digL_small {n : Nat} (h : n < 10) : digL n = [digit n] := by rw [digL, if_pos h]
theorem digL_big {n : Nat} (h : 10 ≤ n) : digL n = digL (n / 10) ++ [digit n] := by rw [digL, if_neg (by omega)]

/-- What is still to be written ahead of s. -/
def digTo (n : Nat) (s : List UInt8) : List UInt8 := if n = 0 ∧ s ≠ [] then s else digL n ++ s

theorem digTo_start (n : Nat) : digTo n [] = digL n := by simp [digTo]
theorem digTo_end {s : List UInt8} (h : s ≠ []) : digTo 0 s = s := by simp [digTo, h]
theorem digTo_step (n : Nat) (s : List UInt8) (h : s = [] ∨ n ≠ 0) : digTo (n / 10) (digit n :: s) = digTo n s := by
  unfold digTo
  rw [if_neg (c := n = 0 ∧ s ≠ []) (by rcases h with h | h <;> simp [h])]
  by_cases hn : n < 10
  · rw [if_pos ⟨by omega, by simp⟩, digL_small hn]; rfl
  · rw [if_neg (by omega), digL_big (n := n) (by omega)]; simp

theorem digL_len : ∀ (k n : Nat), n < 10 ^ (k + 1) → (digL n).length ≤ k + 1
  | 0, n, h => by rw [digL_small (by simpa using h)]; simp
  | k + 1, n, h => by
    by_cases hn : n < 10
    · rw [digL_small hn]; simp
    · rw [digL_big (by omega)]
      have := digL_len k (n / 10) (by rw [Nat.pow_succ] at h; omega)
      simp; omega

theorem digTo_len (k N : Nat) (s : List UInt8) (h : digTo k s = digL N) (hN : (N : Int) ≤ 9223372036854775808) : s.length ≤ 19 := by
  have h1 : (digL N).length ≤ 19 := digL_len 18 N (by omega)
  rw [← h] at h1
  unfold digTo at h1
  split at h1
  · exact h1
  · rw [List.length_append] at h1; omega

def isDig (c : UInt8) : Prop := 48 ≤ c.toNat ∧ c.toNat ≤ 57
instance (c : UInt8) : Decidable (isDig c) := by unfold isDig; infer_instance

/-- What digits say. -/
def valL (l : List UInt8) : Nat := l.foldl (fun v c => v * 10 + (c.toNat - 48)) 0

theorem valL_snoc (l : List UInt8) (c : UInt8) : valL (l ++ [c]) = valL l * 10 + (c.toNat - 48) := by simp [valL, List.foldl_append]

theorem valL_bd (l : List UInt8) (h : ∀ c ∈ l, isDig c) : valL l < 10 ^ l.length := by
  induction l using snoc_ind with
  | nil => simp [valL]
  | snoc l c ih =>
    have h1 := ih (fun x hx => h x (List.mem_append_left _ hx))
    have h2 := h c (by simp)
    unfold isDig at h2
    rw [valL_snoc, List.length_append, List.length_singleton, Nat.pow_succ]
    omega

theorem digit_of (c : UInt8) (h : isDig c) (v : Nat) : digit (v * 10 + (c.toNat - 48)) = c := by
  apply UInt8.toNat_inj.1
  rw [digit_nat]
  unfold isDig at h
  omega

/-- Digits without a nought ahead are written again as they were. -/
theorem digL_valL (l : List UInt8) (hl : l ≠ []) (h : ∀ c ∈ l, isDig c) (h0 : l.head? = some 48 → l.length = 1) : digL (valL l) = l ∧ (1 < l.length → 1 ≤ valL l) := by
  induction l using snoc_ind with
  | nil => exact absurd rfl hl
  | snoc l c ih =>
    have hc := h c (by simp)
    have hcb := hc
    unfold isDig at hcb
    rw [valL_snoc]
    by_cases e : l = []
    · subst e
      have : valL [] = 0 := rfl
      rw [this, Nat.zero_mul, Nat.zero_add, digL_small (by omega)]
      refine ⟨?_, by simp⟩
      have := digit_of c hc 0
      rw [Nat.zero_mul, Nat.zero_add] at this
      rw [this]; rfl
    · have hd : ∀ x ∈ l, isDig x := fun x hx => h x (List.mem_append_left _ hx)
      have hh : l.head? ≠ some 48 := fun e2 => by
        have := h0 (by rw [List.head?_append, e2]; rfl)
        rw [List.length_append, List.length_singleton] at this
        have := List.length_pos_iff.2 e
        omega
      obtain ⟨i1, i2⟩ := ih e hd (fun e2 => absurd e2 hh)
      have hv : 1 ≤ valL l := by
        by_cases hl1 : 1 < l.length
        · exact i2 hl1
        · obtain ⟨x, rfl⟩ : ∃ x, l = [x] := List.length_eq_one_iff.1 (by have := List.length_pos_iff.2 e; omega)
          have hx := hd x (by simp)
          unfold isDig at hx
          have hx2 : x.toNat ≠ 48 := fun e3 => hh (by simp; exact UInt8.toNat_inj.1 e3)
          have : valL [x] = x.toNat - 48 := by simp [valL]
          omega
      refine ⟨?_, fun _ => by omega⟩
      rw [digL_big (by omega), digit_of c hc, show (valL l * 10 + (c.toNat - 48)) / 10 = valL l by omega, i1]

/-- Is it a minus ahead? -/
def negB (t : List UInt8) : Bool := t.head? == some 45
def bodyL (t : List UInt8) : List UInt8 := if negB t = true then t.tail else t

/-- The form of a number, and the number. -/
def formP (t : List UInt8) : Prop := (1 ≤ (bodyL t).length ∧ (bodyL t).length ≤ 10) ∧ (∀ c ∈ bodyL t, isDig c) ∧ ¬ ((bodyL t).head? = some 48 ∧ 1 < t.length)
open Classical in
noncomputable def readB (t : List UInt8) : Bool := decide (formP t)
noncomputable def readV (t : List UInt8) : Int := if readB t = true then (if negB t = true then -(valL (bodyL t) : Int) else (valL (bodyL t) : Int)) else 0
theorem readB_yes {t : List UInt8} (h : formP t) : readB t = true := by simp [readB, h]
theorem readB_no {t : List UInt8} (h : ¬ formP t) : readB t = false := by simp [readB, h]
theorem readB_iff {t : List UInt8} : readB t = true ↔ formP t := by unfold readB; simp

def intL (n : Int) : List UInt8 := if n < 0 then 45 :: digL n.natAbs else digL n.natAbs

theorem readV_bd (t : List UInt8) : -10000000000 < readV t ∧ readV t < 10000000000 := by
  unfold readV
  by_cases h : readB t = true
  · rw [if_pos h]
    obtain ⟨⟨_, h2⟩, h3, _⟩ := readB_iff.1 h
    have hv := valL_bd _ h3
    have : (10 : Nat) ^ (bodyL t).length ≤ 10 ^ 10 := Nat.pow_le_pow_right (by omega) h2
    split <;> omega
  · rw [if_neg h]; omega

/-- A number that is read is written again as it was. -/
theorem read_int (t : List UInt8) (h : readB t = true) : (0 ≤ readV t → digL (readV t).natAbs = t) ∧ (readV t < 0 → (45 : UInt8) :: digL (readV t).natAbs = t) := by
  have hf := readB_iff.1 h
  obtain ⟨⟨h1, h2⟩, h3, h4⟩ := hf
  have hne : bodyL t ≠ [] := fun e => by rw [e] at h1; simp at h1
  unfold readV
  rw [if_pos h]
  by_cases hn : negB t = true
  · rw [if_pos hn]
    have hb : bodyL t = t.tail := by unfold bodyL; rw [if_pos hn]
    have ht : t = 45 :: t.tail := by
      unfold negB at hn
      cases t with
      | nil => simp at hn
      | cons x r => simp at hn; rw [hn]; rfl
    have hlen : 1 < t.length := by rw [ht, ← hb]; simp; omega
    have hd := digL_valL (bodyL t) hne h3 (fun e => absurd ⟨e, hlen⟩ h4)
    have hpos : 1 ≤ valL (bodyL t) := by
      by_cases hl1 : 1 < (bodyL t).length
      · exact hd.2 hl1
      · obtain ⟨x, hx⟩ : ∃ x, bodyL t = [x] := List.length_eq_one_iff.1 (by omega)
        rw [hx]
        have hxd := h3 x (by rw [hx]; simp)
        unfold isDig at hxd
        have hx2 : x.toNat ≠ 48 := fun e => h4 ⟨by rw [hx]; simp; exact UInt8.toNat_inj.1 e, hlen⟩
        have : valL [x] = x.toNat - 48 := by simp [valL]
        omega
    refine ⟨fun h0 => by omega, fun _ => ?_⟩
    rw [show (-(valL (bodyL t) : Int)).natAbs = valL (bodyL t) by omega, hd.1, hb, ← ht]
  · rw [if_neg hn]
    have hb : bodyL t = t := by unfold bodyL; rw [if_neg hn]
    have hd := digL_valL (bodyL t) hne h3 (fun e => by rw [hb] at e h1 ⊢; rw [hb] at h4; have : ¬ 1 < t.length := fun x => h4 ⟨e, x⟩; omega)
    refine ⟨fun _ => ?_, fun h0 => by omega⟩
    rw [show ((valL (bodyL t) : Int)).natAbs = valL (bodyL t) by omega, hd.1, hb]

noncomputable def numB (t : List UInt8) : Bool := readB t && inB (readV t) (-2147483648) 2147483647
noncomputable def numV (t : List UInt8) : Int := if numB t = true then readV t else 0

theorem num_yes {t : List UInt8} (h1 : readB t = true) (h2 : inB (readV t) (-2147483648) 2147483647 = true) : numB t = true ∧ numV t = readV t := by
  have : numB t = true := by unfold numB; rw [h1, h2]; rfl
  exact ⟨this, by unfold numV; rw [if_pos this]⟩

theorem num_no {t : List UInt8} (h : readB t = false ∨ inB (readV t) (-2147483648) 2147483647 = false) : numB t = false ∧ numV t = 0 := by
  have : numB t = false := by unfold numB; rcases h with h | h <;> rw [h] <;> simp
  exact ⟨this, by unfold numV; rw [if_neg (by rw [this]; simp)]⟩

theorem numV_bd (t : List UInt8) : -2147483648 ≤ numV t ∧ numV t ≤ 2147483647 := by
  unfold numV
  split
  · rename_i h
    unfold numB at h
    rw [Bool.and_eq_true] at h
    have := of_decide_eq_true h.2
    omega
  · omega

theorem num_int (t : List UInt8) (h : numB t = true) : (0 ≤ numV t → digL (numV t).natAbs = t) ∧ (numV t < 0 → (45 : UInt8) :: digL (numV t).natAbs = t) := by
  have h1 : readB t = true := by unfold numB at h; rw [Bool.and_eq_true] at h; exact h.1
  have hv : numV t = readV t := by unfold numV; rw [if_pos h]
  rw [hv]
  exact read_int t h1

end Go.Proofs.YtglhbcbilepomaaDoor

/-! Plain facts for chapter 5: lines and words joined, one by one. -/
namespace Go.Proofs.YtglhbcbilepomaaDoor
open Go.RowKit

theorem termJ_step (ls : List (List UInt8)) (k : Nat) (hk : k < ls.length) : termJ (ls.take (k + 1)) = termJ (ls.take k) ++ ls.getD k [] ++ [10] := by
  have hg : ls.getD k [] = ls[k] := by simp [List.getD, hk]
  rw [hg, List.take_succ_eq_append_getElem hk, termJ_snoc]

theorem termJ_append (x y : List (List UInt8)) : termJ (x ++ y) = termJ x ++ termJ y := by simp [termJ]

theorem termJ_take (ls : List (List UInt8)) (k : Nat) : (termJ (ls.take k)).length ≤ (termJ ls).length := by
  have h := congrArg (fun x => (termJ x).length) (List.take_append_drop k ls)
  simp only [termJ_append, List.length_append] at h
  omega

theorem lines_len (l : List UInt8) : (termJ (linesL l)).length ≤ l.length + 1 := by
  rcases lines_join l with h | h
  · rw [h]; omega
  · rw [h]; simp

theorem joinBy_snoc (b : UInt8) (ls : List (List UInt8)) (x : List UInt8) (h : ls ≠ []) : joinBy b (ls ++ [x]) = joinBy b ls ++ [b] ++ x := by
  induction ls with
  | nil => exact absurd rfl h
  | cons y r ih =>
    by_cases hr : r = []
    · subst hr; simp [joinBy]
    · rw [List.cons_append, joinBy_cons b y (r ++ [x]) (by simp), ih hr, joinBy_cons b y r hr]
      simp

theorem joinBy_step (b : UInt8) (ls : List (List UInt8)) (k : Nat) (hk : k < ls.length) : joinBy b (ls.take (k + 1)) = if k = 0 then ls.getD k [] else joinBy b (ls.take k) ++ [b] ++ ls.getD k [] := by
  have hg : ls.getD k [] = ls[k] := by simp [List.getD, hk]
  rw [hg, List.take_succ_eq_append_getElem hk]
  by_cases h : k = 0
  · subst h; simp [joinBy]
  · rw [if_neg h, joinBy_snoc b _ _ (fun e => by have := congrArg List.length e; rw [List.length_take, List.length_nil] at this; omega)]

theorem joinBy_take (b : UInt8) (ls : List (List UInt8)) : ∀ k, (joinBy b (ls.take k)).length ≤ (joinBy b ls).length := by
  have step : ∀ k, (joinBy b (ls.take k)).length ≤ (joinBy b (ls.take (k + 1))).length := by
    intro k
    by_cases hk : k < ls.length
    · rw [joinBy_step b ls k hk]
      split
      · rename_i h; subst h; simp [joinBy]
      · simp only [List.length_append]; omega
    · rw [List.take_of_length_le (by omega : ls.length ≤ k), List.take_of_length_le (by omega : ls.length ≤ k + 1)]
      exact Nat.le_refl _
  have far : ∀ d k, (joinBy b (ls.take k)).length ≤ (joinBy b (ls.take (k + d))).length := by
    intro d
    induction d with
    | zero => intro k; exact Nat.le_refl _
    | succ d ih => intro k; exact Nat.le_trans (ih k) (step (k + d))
  intro k
  have := far ls.length k
  rw [List.take_of_length_le (by omega : ls.length ≤ k + ls.length)] at this
  exact this

end Go.Proofs.YtglhbcbilepomaaDoor

/-! Plain facts for chapter 6 (trees): nodes, where a tree ends, how it is shown and read. -/
namespace Go.Proofs.YtglhbcbilepomaaDoor
open Go.RowKit

/-- A node: its kind, its number, its package, its function. -/
abbrev Nd := Int × Int × List UInt8 × List UInt8

def nodeP (n : Nd) : Prop :=
  (n.1 = 1 ∧ (-2147483648 ≤ n.2.1 ∧ n.2.1 ≤ 2147483647) ∧ n.2.2.1 = [] ∧ n.2.2.2 = []) ∨
  (n.1 = 2 ∧ (0 ≤ n.2.1 ∧ n.2.1 ≤ 2) ∧ n.2.2.1 = [] ∧ n.2.2.2 = []) ∨
  ((3 ≤ n.1 ∧ n.1 ≤ 7) ∧ n.2.1 = 0 ∧ n.2.2.1 = [] ∧ n.2.2.2 = []) ∨
  (n.1 = 8 ∧ (0 ≤ n.2.1 ∧ n.2.1 ≤ 3) ∧ nameB n.2.2.1 = true ∧ nameB n.2.2.2 = true)
instance (n : Nd) : Decidable (nodeP n) := by unfold nodeP; infer_instance
def nodeB (n : Nd) : Bool := decide (nodeP n)
theorem nodeB_iff {n : Nd} : nodeB n = true ↔ nodeP n := by unfold nodeB; simp
theorem nodeB_no {n : Nd} (h : ¬ nodeP n) : nodeB n = false := decide_eq_false h
theorem nodeB_yes {n : Nd} (h : nodeP n) : nodeB n = true := decide_eq_true h

/-- How many parts follow. -/
def kidsN (n : Nd) : Nat := if 3 ≤ n.1 ∧ n.1 ≤ 6 then 2 else if n.1 = 7 then 3 else if n.1 = 8 then n.2.1.toNat else 0
def kidsV (n : Nd) : Int := if 3 ≤ n.1 ∧ n.1 ≤ 6 then 2 else if n.1 = 7 then 3 else if n.1 = 8 then n.2.1 else 0
def kidsOfV (n : Nd) : Int := if nodeB n = true then kidsV n else -1

theorem kidsV_ok {n : Nd} (h : nodeB n = true) : kidsV n = (kidsN n : Int) ∧ kidsN n ≤ 3 := by
  have hp := nodeB_iff.1 h
  unfold nodeP at hp
  unfold kidsV kidsN
  rcases hp with ⟨h1, _⟩ | ⟨h1, _⟩ | ⟨h1, _⟩ | ⟨h1, h2, _⟩
  · rw [if_neg (by omega), if_neg (by omega), if_neg (by omega), if_neg (by omega), if_neg (by omega), if_neg (by omega)]; omega
  · rw [if_neg (by omega), if_neg (by omega), if_neg (by omega), if_neg (by omega), if_neg (by omega), if_neg (by omega)]; omega
  · by_cases e : n.1 = 7
    · rw [if_neg (by omega), if_pos e, if_neg (by omega), if_pos e]; omega
    · rw [if_pos (by omega), if_pos (by omega)]; omega
  · rw [if_neg (by omega), if_neg (by omega), if_pos h1, if_neg (by omega), if_neg (by omega), if_pos h1]; omega

/-- How many nodes are gone through till o are closed. -/
def endGo : List Nd → Nat → Option Nat
  | _, 0 => some 0
  | [], _ + 1 => none
  | n :: r, o + 1 => if nodeB n = true then (endGo r (o + kidsN n)).map (· + 1) else none

theorem endGo_zero (l : List Nd) : endGo l 0 = some 0 := by cases l <;> rfl
theorem endGo_nil (o : Nat) : endGo [] (o + 1) = none := rfl
theorem endGo_cons (n : Nd) (r : List Nd) (o : Nat) : endGo (n :: r) (o + 1) = if nodeB n = true then (endGo r (o + kidsN n)).map (· + 1) else none := rfl

theorem endGo_le : ∀ (l : List Nd) (o d : Nat), endGo l o = some d → d ≤ l.length
  | l, 0, d, h => by rw [endGo_zero] at h; injection h with h; omega
  | [], o + 1, d, h => by rw [endGo_nil] at h; cases h
  | n :: r, o + 1, d, h => by
    rw [endGo_cons] at h
    split at h
    · rw [Option.map_eq_some_iff] at h
      obtain ⟨e, he, rfl⟩ := h
      have := endGo_le r _ e he
      simp; omega
    · cases h

/-- Where the tree at a place ends; -1 where there is none. -/
def endN (l : List Nd) (k : Nat) : Int := if k < l.length then (match endGo (l.drop k) 1 with | some d => (k : Int) + d | none => -1) else -1
def endV (l : List Nd) (a : Int) : Int := if a < 0 then -1 else endN l a.toNat

theorem endV_nat (l : List Nd) (k : Nat) : endV l (k : Int) = endN l k := by unfold endV; rw [if_neg (by omega), Int.toNat_natCast]
theorem endV_out (l : List Nd) (a : Int) (h : a < 0 ∨ (l.length : Int) ≤ a) : endV l a = -1 := by
  unfold endV
  by_cases h0 : a < 0
  · rw [if_pos h0]
  · rw [if_neg h0]; unfold endN; rw [if_neg (by omega)]

def treeB (l : List Nd) : Bool := decide ((1 ≤ l.length ∧ l.length ≤ 60) ∧ endV l 0 = (l.length : Int))

/-- The loop: k nodes on, o still open. -/
theorem end_round {l : List Nd} {k o : Nat} (hk : k < l.length) (hn : nodeB l[k] = true) : endGo (l.drop k) (o + 1) = (endGo (l.drop (k + 1)) (o + kidsN l[k])).map (· + 1) := by
  rw [List.drop_eq_getElem_cons hk, endGo_cons, if_pos hn]
theorem end_bad {l : List Nd} {k o : Nat} (hk : k < l.length) (hn : nodeB l[k] = false) : endGo (l.drop k) (o + 1) = none := by
  rw [List.drop_eq_getElem_cons hk, endGo_cons, if_neg (by rw [hn]; simp)]
theorem end_over {l : List Nd} {k o : Nat} (hk : l.length ≤ k) : endGo (l.drop k) (o + 1) = none := by
  rw [List.drop_eq_nil_of_le hk, endGo_nil]

/-- A word for a node. -/
def showN (n : Nd) : List UInt8 :=
  if n.1 = 1 then intL n.2.1
  else if n.1 = 2 then 36 :: intL n.2.1
  else if n.1 = 3 then [43]
  else if n.1 = 4 then [45]
  else if n.1 = 5 then [42]
  else if n.1 = 6 then [47]
  else if n.1 = 7 then [63]
  else (64 :: n.2.2.1) ++ [46] ++ n.2.2.2 ++ [47] ++ intL n.2.1

def showL (l : List Nd) : List UInt8 := joinBy 32 (l.map showN)
def showT (l : List Nd) : List UInt8 := if treeB l = true then showL l else []

end Go.Proofs.YtglhbcbilepomaaDoor
