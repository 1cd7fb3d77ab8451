/-
  Parts of one proof, one behind the other: Math6I, WordI, Jumps, Clone, TextI.
-/
import Derived.Test.YtbojdcggnpdhcaaGreatDoorP17
import Derived.Test.YtbojdcggnpdhcaaGreatDoorP2
import Derived.Test.YtbojdcggnpdhcaaGreatDoorP3
import Derived.Test.YtbojdcggnpdhcaaGreatDoorP13
import Derived.Lib.ItoaNum
import Derived.Lib.Join
import Derived.Lib.Bytealg
import Derived.Scope
import Derived.WalkMore
import Derived.Lib.Strings
import Derived.Lib.Walk
import Derived.Lib.BufferWrite
import Derived.Lib.UnsafeStr
import Derived.Lib.Hide
import Derived.Laws.MakeOwn
import Derived.Test.YtbojdcggnpdhcaaGreatDoorRows
import Derived.WalkKit
import Derived.WalkLawsBesides
import Derived.OpenShut
import Derived.BigQuiet

/-! Plain facts for chapter 6's landed code: shapes, and what words are read as. -/
namespace Go.Proofs.YtbojdcggnpdhcaaGreatDoor
open Go.RowKit

/-- A shape: what a node tells by its kind. -/
inductive Sh where
  | num (a : Int)
  | arg (a : Int)
  | pair (k : Int)
  | cond
  | call (p f : List UInt8) (a : Int)
  | no

def shOf (n : Nd) : Sh :=
  if n.1 = 1 then .num n.2.1
  else if n.1 = 2 then .arg n.2.1
  else if 3 ≤ n.1 ∧ n.1 ≤ 6 then .pair n.1
  else if n.1 = 7 then .cond
  else if n.1 = 8 then .call n.2.2.1 n.2.2.2 n.2.1
  else .no

def shNode : Sh → Nd
  | .num a => (1, a, [], [])
  | .arg a => (2, a, [], [])
  | .pair k => (k, 0, [], [])
  | .cond => (7, 0, [], [])
  | .call p f a => (8, a, p, f)
  | .no => (0, 0, [], [])

def shOk : Sh → Bool
  | .num a => inB a (-2147483648) 2147483647
  | .arg a => inB a 0 2
  | .pair _ => true
  | .cond => true
  | .call p f a => inB a 0 3 && (nameB p && nameB f)
  | .no => false

def shKids : Sh → Int
  | .num _ => 0
  | .arg _ => 0
  | .pair _ => 2
  | .cond => 3
  | .call _ _ a => a
  | .no => -1

def shWord : Sh → List UInt8
  | .num a => intL a
  | .arg a => 36 :: intL a
  | .pair k => if k = 3 then [43] else if k = 4 then [45] else if k = 5 then [42] else [47]
  | .cond => [63]
  | .call p f a => (64 :: p) ++ [46] ++ f ++ [47] ++ intL a
  | .no => []

theorem shOf_kinds (n : Nd) : (n.1 = 1 ∧ shOf n = .num n.2.1) ∨ (n.1 = 2 ∧ shOf n = .arg n.2.1) ∨ ((3 ≤ n.1 ∧ n.1 ≤ 6) ∧ shOf n = .pair n.1) ∨ (n.1 = 7 ∧ shOf n = .cond) ∨ (n.1 = 8 ∧ shOf n = .call n.2.2.1 n.2.2.2 n.2.1) ∨ ((n.1 < 1 ∨ 8 < n.1) ∧ shOf n = .no) := by
  by_cases h1 : n.1 = 1
  · exact Or.inl ⟨h1, if_pos h1⟩
  by_cases h2 : n.1 = 2
  · exact Or.inr (Or.inl ⟨h2, by unfold shOf; rw [if_neg h1, if_pos h2]⟩)
  by_cases h3 : 3 ≤ n.1 ∧ n.1 ≤ 6
  · exact Or.inr (Or.inr (Or.inl ⟨h3, by unfold shOf; rw [if_neg h1, if_neg h2, if_pos h3]⟩))
  by_cases h7 : n.1 = 7
  · exact Or.inr (Or.inr (Or.inr (Or.inl ⟨h7, by unfold shOf; rw [if_neg h1, if_neg h2, if_neg h3, if_pos h7]⟩)))
  by_cases h8 : n.1 = 8
  · exact Or.inr (Or.inr (Or.inr (Or.inr (Or.inl ⟨h8, by unfold shOf; rw [if_neg h1, if_neg h2, if_neg h3, if_neg h7, if_pos h8]⟩))))
  · exact Or.inr (Or.inr (Or.inr (Or.inr (Or.inr ⟨by omega, by unfold shOf; rw [if_neg h1, if_neg h2, if_neg h3, if_neg h7, if_neg h8]⟩))))

/-- A node is right where its shape is, and it tells no more. -/
theorem node_sh (n : Nd) : nodeB n = (shOk (shOf n) && decide (shNode (shOf n) = n)) := by
  rw [Bool.eq_iff_iff, nodeB_iff, Bool.and_eq_true, decide_eq_true_iff]
  obtain ⟨k, a, p, f⟩ := n
  rcases shOf_kinds (k, a, p, f) with ⟨h, e⟩ | ⟨h, e⟩ | ⟨h, e⟩ | ⟨h, e⟩ | ⟨h, e⟩ | ⟨h, e⟩
  · rw [e]; simp only at h; subst h
    unfold nodeP shOk shNode inB
    simp [@eq_comm (List UInt8) [] p, @eq_comm (List UInt8) [] f]
  · rw [e]; simp only at h; subst h
    unfold nodeP shOk shNode inB
    simp [@eq_comm (List UInt8) [] p, @eq_comm (List UInt8) [] f]
  · rw [e]; simp only at h
    unfold nodeP shOk shNode
    simp only [Prod.mk.injEq, true_and]
    constructor
    · rintro (⟨h1, _⟩ | ⟨h1, _⟩ | ⟨_, h2, h3, h4⟩ | ⟨h1, _⟩)
      · omega
      · omega
      · exact ⟨h2.symm, h3.symm, h4.symm⟩
      · omega
    · rintro ⟨h2, h3, h4⟩
      exact Or.inr (Or.inr (Or.inl ⟨by omega, h2.symm, h3.symm, h4.symm⟩))
  · rw [e]; simp only at h; subst h
    unfold nodeP shOk shNode
    simp [@eq_comm (List UInt8) [] p, @eq_comm (List UInt8) [] f, @eq_comm Int 0 a]
  · rw [e]; simp only at h; subst h
    unfold nodeP shOk shNode inB
    simp
  · rw [e]; simp only at h
    unfold nodeP shOk shNode
    simp
    omega

theorem kids_sh {n : Nd} (h : nodeB n = true) : shKids (shOf n) = kidsV n := by
  unfold kidsV
  rcases shOf_kinds n with ⟨h, e⟩ | ⟨h, e⟩ | ⟨h, e⟩ | ⟨h, e⟩ | ⟨h, e⟩ | ⟨h1, e⟩
  · rw [e, if_neg (by omega), if_neg (by omega), if_neg (by omega)]; rfl
  · rw [e, if_neg (by omega), if_neg (by omega), if_neg (by omega)]; rfl
  · rw [e, if_pos h]; rfl
  · rw [e, if_neg (by omega), if_pos h]; rfl
  · rw [e, if_neg (by omega), if_neg (by omega), if_pos h]; rfl
  · have := nodeB_iff.1 h
    unfold nodeP at this
    omega

theorem word_sh {n : Nd} (h : nodeB n = true) : shWord (shOf n) = showN n := by
  unfold showN
  rcases shOf_kinds n with ⟨h, e⟩ | ⟨h, e⟩ | ⟨h, e⟩ | ⟨h, e⟩ | ⟨h, e⟩ | ⟨h1, e⟩
  · rw [e, if_pos h]; rfl
  · rw [e, if_neg (by omega), if_pos h]; rfl
  · rw [e, if_neg (by omega), if_neg (by omega)]
    unfold shWord
    simp only
    split
    · rfl
    · split
      · rfl
      · split
        · rfl
        · rw [if_pos (by omega)]
  · rw [e, if_neg (by omega), if_neg (by omega), if_neg (by omega), if_neg (by omega), if_neg (by omega), if_neg (by omega), if_pos h]; rfl
  · rw [e, if_neg (by omega), if_neg (by omega), if_neg (by omega), if_neg (by omega), if_neg (by omega), if_neg (by omega), if_neg (by omega)]; rfl
  · have := nodeB_iff.1 h
    unfold nodeP at this
    omega

/-- The library's numerals are ours. -/
theorem dec_digL : ∀ u : Nat, Lib.decDigits u = digL u := by
  intro u
  induction u using Nat.strongRecOn with
  | ind u ih =>
    rw [Lib.decDigits, digL]
    by_cases h : u < 10
    · rw [dif_pos h, if_pos h]; unfold digit; rw [Nat.mod_eq_of_lt h]
    · rw [dif_neg h, if_neg h, ih (u / 10) (by omega)]; rfl
theorem itoa_int (a : Int) : Lib.itoa a = intL a := by
  unfold Lib.itoa intL
  split
  · rw [dec_digL]
  · rw [dec_digL]; congr 1; omega

theorem join_by (ws : List (List UInt8)) : Lib.join ws [32] = joinBy 32 ws := by
  induction ws with
  | nil => rfl
  | cons x r ih =>
    cases r with
    | nil => rw [Lib.join_one]; rfl
    | cons y q =>
      rw [joinBy_cons 32 x (y :: q) (by simp), ← ih, Lib.join_cons, Lib.join_cons]
      simp [Lib.joinTail]

/-- A text cut at a byte: what is ahead of it, what is behind it. -/
def cutA (b : UInt8) (l : List UInt8) : List UInt8 := l.takeWhile (fun c => c != b)
def cutB (b : UInt8) (l : List UInt8) : List UInt8 := (l.dropWhile (fun c => c != b)).tail

theorem cut_one (b : UInt8) (x y : List UInt8) (h : ∀ c ∈ x, c ≠ b) : cutA b (x ++ b :: y) = x ∧ cutB b (x ++ b :: y) = y := by
  unfold cutA cutB
  induction x with
  | nil => simp
  | cons c r ih =>
    have hc : (c != b) = true := bne_iff_ne.2 (h c (by simp))
    have := ih (fun d hd => h d (by simp [hd]))
    rw [List.cons_append, List.takeWhile_cons, List.dropWhile_cons, if_pos hc, if_pos hc]
    exact ⟨by rw [this.1], this.2⟩

theorem cutA_len (b : UInt8) (l : List UInt8) : (cutA b l).length ≤ l.length := (List.takeWhile_sublist _).length_le
theorem cutB_len (b : UInt8) (l : List UInt8) : (cutB b l).length ≤ l.length := by
  have := (List.dropWhile_sublist (l := l) (fun c => c != b)).length_le
  unfold cutB
  rw [List.length_tail]
  omega

/-- Where the byte is. -/
theorem cut_at (b : UInt8) (l : List UInt8) : (Lib.indexByte l b = -1 ∧ cutA b l = l ∧ cutB b l = []) ∨ ∃ k : Nat, Lib.indexByte l b = (k : Int) ∧ k < l.length ∧ cutA b l = l.take k ∧ cutB b l = l.drop (k + 1) := by
  induction l with
  | nil => exact Or.inl ⟨rfl, rfl, rfl⟩
  | cons c r ih =>
    by_cases hc : c = b
    · subst hc
      refine Or.inr ⟨0, ?_, by simp, ?_, ?_⟩
      · unfold Lib.indexByte; simp
      · unfold cutA; simp
      · unfold cutB; simp
    · have hc2 : (c != b) = true := bne_iff_ne.2 hc
      have hc3 : (c == b) = false := beq_eq_false_iff_ne.2 hc
      have ea : cutA b (c :: r) = c :: cutA b r := by unfold cutA; rw [List.takeWhile_cons, if_pos hc2]
      have eb : cutB b (c :: r) = cutB b r := by unfold cutB; rw [List.dropWhile_cons, if_pos hc2]
      have ei : Lib.indexByte (c :: r) b = if Lib.indexByte r b == -1 then -1 else Lib.indexByte r b + 1 := by
        rw [Lib.indexByte, hc3]; rfl
      rw [ea, eb, ei]
      rcases ih with ⟨h1, h2, h3⟩ | ⟨k, h1, h2, h3, h4⟩
      · exact Or.inl ⟨by rw [h1]; rfl, by rw [h2], h3⟩
      · refine Or.inr ⟨k + 1, ?_, by simp; omega, by rw [h3]; rfl, by rw [h4]; rfl⟩
        rw [h1, if_neg (by rw [beq_iff_eq]; omega)]
        omega

/-- The shape of a word. -/
noncomputable def shIn (s : List UInt8) : Sh :=
  if numB s = true then .num (numV s)
  else if s = [63] then .cond
  else if s = [43] then .pair 3
  else if s = [45] then .pair 4
  else if s = [42] then .pair 5
  else if s = [47] then .pair 6
  else if s.head? = some 36 then .arg (numV s.tail)
  else if s.head? = some 64 then .call (cutA 46 (cutA 47 s.tail)) (cutB 46 (cutA 47 s.tail)) (numV (cutB 47 s.tail))
  else .no

theorem num_nohead {c : UInt8} {r : List UInt8} (h1 : c ≠ 45) (h2 : ¬ isDig c) : numB (c :: r) = false :=
  (num_no (Or.inl (readB_no fun hf => by
    have hneg : negB (c :: r) = false := by unfold negB; simp [h1]
    have hb : bodyL (c :: r) = c :: r := by unfold bodyL; rw [if_neg (by rw [hneg]; simp)]
    exact h2 (hf.2.1 c (by rw [hb]; simp))))).1

theorem num_minus : numB [45] = false :=
  (num_no (Or.inl (readB_no fun hf => by
    have hb : bodyL [45] = [] := by decide
    have := hf.1.1
    rw [hb] at this
    simp at this))).1

theorem num_word (a : Int) (h0 : -2147483648 ≤ a) (h1 : a ≤ 2147483647) : numB (intL a) = true ∧ numV (intL a) = a := by
  obtain ⟨e1, e2⟩ := read_of_int a h0 h1
  have := num_yes e1 (by rw [e2]; exact inB_yes _ _ _ h0 h1)
  exact ⟨this.1, by rw [this.2, e2]⟩

/-- A word that is shown of a node is read as it. -/
theorem in_show (n : Nd) (h : nodeB n = true) : shNode (shIn (showN n)) = n := by
  obtain ⟨k, a, p, f⟩ := n
  have hp := nodeB_iff.1 h
  unfold nodeP at hp
  simp only at hp
  rcases hp with ⟨rfl, ⟨h0, h1⟩, rfl, rfl⟩ | ⟨rfl, ⟨h0, h1⟩, rfl, rfl⟩ | ⟨hk, rfl, rfl, rfl⟩ | ⟨rfl, ⟨h0, h1⟩, hpn, hfn⟩
  · have hs : showN (1, a, [], []) = intL a := by unfold showN; simp
    obtain ⟨e1, e2⟩ := num_word a h0 h1
    rw [hs]
    unfold shIn
    rw [if_pos e1, e2]
    rfl
  · have hs : showN (2, a, [], []) = 36 :: intL a := by unfold showN; simp
    obtain ⟨_, e2⟩ := num_word a (by omega) (by omega)
    rw [hs]
    unfold shIn
    rw [if_neg (by rw [num_nohead (by decide) (by decide)]; simp), if_neg (by simp), if_neg (by simp), if_neg (by simp), if_neg (by simp), if_neg (by simp), if_pos (by rfl), List.tail_cons, e2]
    rfl
  · rcases (show k = 3 ∨ k = 4 ∨ k = 5 ∨ k = 6 ∨ k = 7 by omega) with rfl | rfl | rfl | rfl | rfl
    · have hs : showN (3, 0, [], []) = [43] := by unfold showN; simp
      rw [hs]; unfold shIn; rw [if_neg (by rw [num_nohead (by decide) (by decide)]; simp), if_neg (by simp), if_pos rfl]; rfl
    · have hs : showN (4, 0, [], []) = [45] := by unfold showN; simp
      rw [hs]; unfold shIn; rw [if_neg (by rw [num_minus]; simp), if_neg (by simp), if_neg (by simp), if_pos rfl]; rfl
    · have hs : showN (5, 0, [], []) = [42] := by unfold showN; simp
      rw [hs]; unfold shIn; rw [if_neg (by rw [num_nohead (by decide) (by decide)]; simp), if_neg (by simp), if_neg (by simp), if_neg (by simp), if_pos rfl]; rfl
    · have hs : showN (6, 0, [], []) = [47] := by unfold showN; simp
      rw [hs]; unfold shIn; rw [if_neg (by rw [num_nohead (by decide) (by decide)]; simp), if_neg (by simp), if_neg (by simp), if_neg (by simp), if_neg (by simp), if_pos rfl]; rfl
    · have hs : showN (7, 0, [], []) = [63] := by unfold showN; simp
      rw [hs]; unfold shIn; rw [if_neg (by rw [num_nohead (by decide) (by decide)]; simp), if_pos rfl]; rfl
  · have hs : showN (8, a, p, f) = 64 :: ((p ++ 46 :: f) ++ 47 :: intL a) := by unfold showN; simp
    obtain ⟨_, e2⟩ := num_word a (by omega) (by omega)
    obtain ⟨_, hpl⟩ := name_letters hpn
    obtain ⟨_, hfl⟩ := name_letters hfn
    obtain ⟨c1, c2⟩ := cut_one 47 (p ++ 46 :: f) (intL a) (by
      intro c hc
      rcases List.mem_append.1 hc with hc | hc
      · exact byte_ne (by have := hpl c hc; have e : (47 : UInt8).toNat = 47 := rfl; omega)
      · rcases List.mem_cons.1 hc with rfl | hc
        · decide
        · exact byte_ne (by have := hfl c hc; have e : (47 : UInt8).toNat = 47 := rfl; omega))
    obtain ⟨c3, c4⟩ := cut_one 46 p f (by intro c hc; exact byte_ne (by have := hpl c hc; have e : (46 : UInt8).toNat = 46 := rfl; omega))
    rw [hs]
    unfold shIn
    rw [if_neg (by rw [num_nohead (by decide) (by decide)]; simp), if_neg (by simp), if_neg (by simp), if_neg (by simp), if_neg (by simp), if_neg (by simp), if_neg (by simp), if_pos (by rfl), List.tail_cons, c1, c2, c3, c4, e2]
    rfl

/-- What a word is read as is small. -/
theorem in_small (s : List UInt8) : IntN (shNode (shIn s)) ∧ (shNode (shIn s)).2.2.1.length ≤ s.length ∧ (shNode (shIn s)).2.2.2.length ≤ s.length := by
  have b1 := numV_bd s
  have b2 := numV_bd s.tail
  have b3 := numV_bd (cutB 47 s.tail)
  have l1 := cutA_len 47 s.tail
  have l2 := cutA_len 46 (cutA 47 s.tail)
  have l3 := cutB_len 46 (cutA 47 s.tail)
  have l4 : s.tail.length ≤ s.length := by rw [List.length_tail]; omega
  unfold shIn
  repeat' split
  all_goals (unfold shNode IntN; simp only [List.length_nil]; omega)

/-- The landed ReadTree's list. -/
noncomputable def inT (s : List UInt8) : List Nd := (splitL 32 s).map (fun x => shNode (shIn x))

theorem showN_len (n : Nd) (h : nodeB n = true) : (showN n).length ≤ 20 := by
  obtain ⟨k, a, p, f⟩ := n
  have hp := nodeB_iff.1 h
  unfold nodeP at hp
  simp only at hp
  rcases hp with ⟨rfl, ⟨h0, h1⟩, rfl, rfl⟩ | ⟨rfl, ⟨h0, h1⟩, rfl, rfl⟩ | ⟨hk, rfl, rfl, rfl⟩ | ⟨rfl, ⟨h0, h1⟩, hpn, hfn⟩
  · have hs : showN (1, a, [], []) = intL a := by unfold showN; simp
    have := digL_len 9 a.natAbs (by omega)
    rw [hs]; unfold intL; split <;> simp <;> omega
  · have hs : showN (2, a, [], []) = 36 :: intL a := by unfold showN; simp
    have := digL_len 0 a.natAbs (by omega)
    rw [hs]; unfold intL; split <;> simp <;> omega
  · rcases (show k = 3 ∨ k = 4 ∨ k = 5 ∨ k = 6 ∨ k = 7 by omega) with rfl | rfl | rfl | rfl | rfl <;> (unfold showN; simp)
  · have hs : showN (8, a, p, f) = 64 :: ((p ++ 46 :: f) ++ 47 :: intL a) := by unfold showN; simp
    have := digL_len 0 a.natAbs (by omega)
    have e : intL a = digL a.natAbs := by unfold intL; rw [if_neg (by omega)]
    have := (name_letters hpn).1
    have := (name_letters hfn).1
    rw [hs, e]; simp; omega

end Go.Proofs.YtbojdcggnpdhcaaGreatDoor

/-! The contracts of chapter 4's landed code: WordOk, Wrap, Done. -/
namespace Go.Proofs.YtbojdcggnpdhcaaGreatDoor
open Go.RowKit

set_option maxHeartbeats 400000 in
set_option maxRecDepth 100000 in
theorem implWordOkS (n : Int) (w : World) : Calls Tryz.prog 113 #[.int .i64 n] w fun e w' => e = .returned (.bool (inB n (-2147483648) 2147483647)) ∧ w' = w := by
  by_cases h1 : -2147483648 ≤ n
  · by_cases h2 : n ≤ 2147483647
    · have hB : Hid (inB n (-2147483648) 2147483647 = true) := inB_yes _ _ _ h1 h2
      go_enter Tryz.func113, Tryz.ntmps113
      go_wp2
      go_ret
      exact ⟨by rw [hB.out]; rfl, rfl⟩
    · have hB : Hid (inB n (-2147483648) 2147483647 = false) := inB_no _ _ _ (Or.inr (by omega))
      go_enter Tryz.func113, Tryz.ntmps113
      go_wp2
      go_ret
      exact ⟨by rw [hB.out]; rfl, rfl⟩
  · have hB : Hid (inB n (-2147483648) 2147483647 = false) := inB_no _ _ _ (Or.inl (by omega))
    go_enter Tryz.func113, Tryz.ntmps113
    go_wp2
    go_ret
    exact ⟨by rw [hB.out]; rfl, rfl⟩

theorem implWordOk (n : Int) (w : World) (_h : -9223372036854775808 ≤ n ∧ n ≤ 9223372036854775807) : Calls Tryz.prog 113 #[.int .i64 n] w fun e w' => e = .returned (.bool (inB n (-2147483648) 2147483647)) ∧ Below w.heap.size w w' :=
  (implWordOkS n w).mono fun _ _ h => ⟨h.1, by rw [h.2]; exact Below.refl _ _⟩



end Go.Proofs.YtbojdcggnpdhcaaGreatDoor

/-! A scope in which the run jumps to several labels: what holds at every jump to each of them, and a measure that every pass from a label lowers. -/
namespace Go.Proofs.YtbojdcggnpdhcaaGreatDoor
open Go.RowKit

/-- As Q; by a goto to label l: J l. -/
def Hops (J : Nat → Act → World → Prop) (Q : Exit → Act → World → Prop) : Exit → Act → World → Prop
  | .goto l, a, w => J l a w
  | e, a, w => Q e a w

theorem hops_goto {J : Nat → Act → World → Prop} {Q : Exit → Act → World → Prop} {l : Nat} {a : Act} {w : World} (h : J l a w) : Hops J Q (.goto l) a w := h
theorem hops_ret {J : Nat → Act → World → Prop} {Q : Exit → Act → World → Prop} {a : Act} {w : World} (h : Q .ret a w) : Hops J Q .ret a w := h

theorem hops_mono {J J' : Nat → Act → World → Prop} {Q : Exit → Act → World → Prop} (h : ∀ l a w, J l a w → J' l a w) : ∀ e a w, Hops J Q e a w → Hops J' Q e a w := by
  intro e a w hq
  cases e with
  | goto l => exact h l a w hq
  | _ => exact hq

/-- At each label what holds there (J), and a measure (μ) that every jump lowers; a run that falls into a label from above goes on as one that jumped there. -/
theorem wp_scope_hops {P : Program} {a : Act} {w : World} {Q : Exit → Act → World → Prop} {c : Go.Code} (J : Nat → Act → World → Prop) (μ : Nat → Act → World → Nat)
    (pass : ∀ l a w, J l a w → (∀ l' a' w', J l' a' w' → μ l' a' w' < μ l a w → ∀ R, findLabel c l' = some (.seq .skip R) → R.wp P (Hops (fun l₂ a₂ w₂ => J l₂ a₂ w₂ ∧ μ l₂ a₂ w₂ < μ l a w) Q) a' w') →
      ∃ R, findLabel c l = some (.seq .skip R) ∧ R.wp P (Hops (fun l' a' w' => J l' a' w' ∧ μ l' a' w' < μ l a w) Q) a w)
    (first : (∀ l a w, J l a w → ∀ R, findLabel c l = some (.seq .skip R) → R.wp P (Hops J Q) a w) → c.wp P (Hops J Q) a w) : (Code.scope c).wp P Q a w := by
  have all : ∀ n l a w, μ l a w = n → J l a w → ∃ R, findLabel c l = some (.seq .skip R) ∧ R.wp P (Hops (fun l' a' w' => J l' a' w' ∧ μ l' a' w' < μ l a w) Q) a w := by
    intro n
    induction n using Nat.strongRecOn with
    | _ n ih =>
      intro l a w hn hJ
      refine pass l a w hJ fun l' a' w' hJ' hlt R hf => ?_
      obtain ⟨R', hf', hw⟩ := ih _ (by omega) l' a' w' rfl hJ'
      rw [hf] at hf'
      cases hf'
      exact wp_mono hw (hops_mono fun l₂ a₂ w₂ h => ⟨h.1, Nat.lt_trans h.2 hlt⟩)
  intro b k cs
  have key : ∀ n l a w, μ l a w = n → J l a w → ∃ rest, findLabel c l = some rest ∧ ∃ e a' w', Q e a' w' ∧ Arrives P (lone (b.at a (.code rest :: .inScope c :: k)) cs w) b k cs e a' w' := by
    intro n
    induction n using Nat.strongRecOn with
    | _ n ih =>
      intro l a w hn hJ
      obtain ⟨R, hf, hR⟩ := all _ l a w rfl hJ
      have hp : (Code.seq .skip R).wp P (Hops (fun l' a' w' => J l' a' w' ∧ μ l' a' w' < μ l a w) Q) a w := wp_seq (wp_skip hR)
      refine ⟨_, hf, ?_⟩
      obtain ⟨e, a₁, w₁, hq, harr⟩ := hp b (.inScope c :: k) cs
      cases e with
      | normal => exact ⟨.normal, a₁, w₁, hq, Steps.trans harr (.one step_inScope)⟩
      | exit id => exact ⟨.exit id, a₁, w₁, hq, fun k' hk => harr k' (by simp [exitTo, hk])⟩
      | goto l' =>
        obtain ⟨hJ', hlt⟩ := hq
        obtain ⟨rest', hf', e₂, a₂, w₂, hq₂, harr₂⟩ := ih _ (by omega) l' a₁ w₁ rfl hJ'
        exact ⟨e₂, a₂, w₂, hq₂, .of_steps (harr _ (by simp [gotoIn, hf'])) harr₂⟩
      | ret => exact ⟨_, a₁, w₁, hq, harr⟩
      | panic ch => exact ⟨_, a₁, w₁, hq, harr⟩
      | outgrown => exact ⟨_, a₁, w₁, hq, harr⟩
  have first' := first fun l a w hJ R hf => by
    obtain ⟨R', hf', hw⟩ := all _ l a w rfl hJ
    rw [hf] at hf'
    cases hf'
    exact wp_mono hw (hops_mono fun l₂ a₂ w₂ h => h.1)
  obtain ⟨e, a₁, w₁, hq, harr⟩ := first' b (.inScope c :: k) cs
  cases e with
  | normal => exact ⟨.normal, a₁, w₁, hq, .head step_scope (Steps.trans harr (.one step_inScope))⟩
  | exit id => exact ⟨.exit id, a₁, w₁, hq, fun k' hk => .head step_scope (harr k' (by simp [exitTo, hk]))⟩
  | goto l' =>
    obtain ⟨rest', hf', e₂, a₂, w₂, hq₂, harr₂⟩ := key _ l' a₁ w₁ rfl hq
    exact ⟨e₂, a₂, w₂, hq₂, .of_steps (.head step_scope (harr _ (by simp [gotoIn, hf']))) harr₂⟩
  | ret => exact ⟨_, a₁, w₁, hq, .of_steps (.one step_scope) harr⟩
  | panic ch => exact ⟨_, a₁, w₁, hq, .of_steps (.one step_scope) harr⟩
  | outgrown => exact ⟨_, a₁, w₁, hq, .of_steps (.one step_scope) harr⟩

end Go.Proofs.YtbojdcggnpdhcaaGreatDoor

/-! The contract of strings.Clone: the same bytes, in memory of their own. -/
namespace Go.Proofs.YtbojdcggnpdhcaaGreatDoor
open Go.RowKit

theorem infoByte : (Tryz.prog.info? 5).map (fun i => (i.zero, i.size, i.bytes)) = some (some (.int .u8 0), 1, 1) := by kernel_rfl

set_option maxHeartbeats 4000000 in
set_option maxRecDepth 100000 in
theorem liteClone (s : ByteArray) (w : World) (hlim : s.size ≤ 281474976710656) :
    Calls Tryz.prog 38 #[.string s] w fun e w' => e = .returned (.string s) ∧ Below w.heap.size w w' := by
  by_cases h0 : s.size = 0
  · have hs : s = ⟨#[]⟩ := by
      apply ByteArray.ext
      exact Array.eq_empty_of_size_eq_zero h0
    subst hs
    go_enter Tryz.func38, Tryz.ntmps38
    go_wp2
    go_ret
    exact ⟨rfl, Below.refl _ _⟩
  · obtain ⟨i0, hi, hz0, hz1, hz2⟩ := info_parts infoByte
    have hinfo : (Tryz.prog.info? 5).map (·.size) = some 1 := by rw [hi]; simp [hz1]
    have hco : Tryz.prog.cellsOf 5 = 1 := by simp [Program.cellsOf, hi, hz1]
    obtain ⟨M, hM⟩ : ∃ M, M = madeCells (Value.int .u8 0).cells (((s.size : Nat) : Int).toNat * i0.size) := ⟨_, rfl⟩
    have hMs : M.size = s.size := by rw [hM, size_madeCells, hz1]; simp
    have hmk : ∀ W : World, (Instr.makeSlice 68 (.int .i64 (s.size : Int)) (.int .i64 (s.size : Int))).run Tryz.prog W = .ok (.slice (some ⟨W.heap.size, 0, none⟩) s.size s.size) (W.alloc (.cells M 5)) := fun W => by
      have h := run_make (P := Tryz.prog) W 68 5 i0 (.int .u8 0) Tryz.underlying68 hi hz0 .i64 .i64 (s.size : Int) (s.size : Int) (by omega) (by omega) (by rw [hz2]; omega) (by omega)
      rw [← hM] at h
      simpa using h
    clear hM
    have hcp := Lib.run_copy_row_string (P := Tryz.prog) (w.alloc (.cells M 5)) 68 9 3 5 w.heap.size 0 s.size s.size s M 5 Tryz.underlying68 hinfo (heap_alloc_new w _) (Nat.le_refl _) (by omega)
    obtain ⟨Y, hY⟩ : ∃ Y, Y = (M.toList.take 0 ++ Lib.byteCells s.data.toList ++ M.toList.drop (0 + s.size)).toArray := ⟨_, rfl⟩
    rw [← hY] at hcp
    have hYl : Y.toList = Lib.byteCells s.data.toList := by
      rw [hY, List.toList_toArray, List.take_zero, List.nil_append, List.drop_of_length_le (by rw [Array.length_toList]; omega), List.append_nil]
    have hYs : Y.size = s.size := by rw [← Array.length_toList, hYl, Lib.byteCells_length, ← Lib.size_eq]
    have hgY : ((w.alloc (.cells M 5)).setRow w.heap.size Y).heap[w.heap.size]? = some (.cells Y 5 (0, 0)) := setRow_heap _ _ M _ 5 (0, 0) (heap_alloc_new w _)
    have hne : s.data.toList ≠ [] := fun e => h0 (by rw [Lib.size_eq, e]; rfl)
    have hUS := Lib.run_unsafeString_row (P := Tryz.prog) ((w.alloc (.cells M 5)).setRow w.heap.size Y) 104 3 9 5 Tryz.underlying104 hco w.heap.size Y.size (by unfold World.shape?; rw [hgY]) s.data.toList hne (by rw [← Lib.size_eq]; omega) (by rw [← Lib.size_eq]; omega)
      (fun j x hx => Lib.cells_of_row hgY Y.size j _ (by rw [List.take_of_length_le (by rw [Array.length_toList]; exact Nat.le_refl _), hYl]; simp [Lib.byteCells, hx]))
    rw [← Lib.size_eq] at hUS
    clear hY
    go_enter Tryz.func38, Tryz.ntmps38
    go_wp2
    go_ret
    have hb1 : Below w.heap.size w (w.alloc (.cells M 5)) := (Below.refl _ w).alloc (Nat.le_refl _) _
    have hb2 : Below w.heap.size (w.alloc (.cells M 5)) ((w.alloc (.cells M 5)).setRow w.heap.size Y) := ⟨rfl, rfl, rfl, by simp, fun k hk => setRow_other _ _ _ _ (by omega)⟩
    exact ⟨rfl, Lib.below_freeze (hb1.trans hb2) (p := ⟨w.heap.size, 0, none⟩) (Nat.le_refl _) _⟩

set_option maxHeartbeats 400000 in
set_option maxRecDepth 100000 in
theorem stringsClone (l : List UInt8) (w : World) (hl : l.length ≤ 1048576) :
    Calls Tryz.prog 19 #[.string ⟨l.toArray⟩] w fun e w' => e = .returned (.string ⟨l.toArray⟩) ∧ Below w.heap.size w w' := by
  go_enter Tryz.func19, Tryz.ntmps19
  go_wp2_with fail
  refine (liteClone ⟨l.toArray⟩ _ (by have : (⟨l.toArray⟩ : ByteArray).size = l.length := List.size_toArray; omega)).mono ?_
  rintro e w1 ⟨rfl, hb⟩
  go_wp2
  go_ret
  exact ⟨rfl, hb⟩

end Go.Proofs.YtbojdcggnpdhcaaGreatDoor

/-! The contracts of chapter 5's landed code: the pieces between marks (labels and gotos), Lines, Words, NameOk, NumberOf. -/
namespace Go.Proofs.YtbojdcggnpdhcaaGreatDoor
open Go.RowKit




set_option maxHeartbeats 1000000 in
set_option maxRecDepth 100000 in
theorem implNameOkS (l : List UInt8) (w : World) (hl : l.length ≤ 1048576) :
    Calls Tryz.prog 92 #[.string ⟨l.toArray⟩] w fun e w' => e = .returned (.bool (nameB l)) ∧ w' = w := by
  go_enter Tryz.func92, Tryz.ntmps92
  go_wp2
  go_loop [6] (fun ix => ∃ k : Nat, k ≤ l.length ∧ ix = .int .i64 k ∧ Hid (∀ j (hj : j < l.length), j < k → 97 ≤ l[j].toNat ∧ l[j].toNat ≤ 122)) (fun ix => l.length - (intOf ix).toNat)
  case atStart => exact ⟨0, Nat.zero_le _, rfl, (fun j _ h => by omega : ∀ j (hj : j < l.length), j < 0 → _)⟩
  case round =>
    obtain ⟨k, hk, rfl, HK⟩ := hrel
    by_cases hkl : (k : Int) < (l.length : Int)
    · have hk2 : k < l.length := by omega
      obtain ⟨x, hx⟩ : ∃ x : UInt8, l[k] = x := ⟨_, rfl⟩
      have hxb : (⟨l.toArray⟩ : ByteArray)[k]'(by show k < l.toArray.size; simpa using hk2) = x := hx
      by_cases h1 : (x.toNat : Int) < 97
      · have HF : Hid (nameB l = false) := name_bad l k hk2 (by rw [hx]; omega)
        clear hx
        go_wp2
        go_ret
        exact ⟨by rw [HF.out]; rfl, rfl⟩
      · by_cases h2 : 122 < (x.toNat : Int)
        · have HF : Hid (nameB l = false) := name_bad l k hk2 (by rw [hx]; omega)
          clear hx
          go_wp2
          go_ret
          exact ⟨by rw [HF.out]; rfl, rfl⟩
        · have HS : Hid (∀ j (hj : j < l.length), j < k + 1 → 97 ≤ l[j].toNat ∧ l[j].toNat ≤ 122) := fun j hj hjk => by
            by_cases e : j = k
            · subst e; rw [hx]; omega
            · exact HK.out j hj (by omega)
          clear hx
          go_wp2
          go_round
          case rel => exact ⟨k + 1, by omega, by go_num, HS⟩
          case measure => simp [intOf]; omega
    · have HF : Hid (nameB l = inB (l.length : Int) 1 8) := name_good l (fun j hj => HK.out j hj (by omega))
      by_cases h1 : 1 ≤ (l.length : Int)
      · by_cases h2 : (l.length : Int) ≤ 8
        · have HB : Hid (inB (l.length : Int) 1 8 = true) := inB_yes _ _ _ h1 h2
          go_wp2
          go_ret
          exact ⟨by rw [HF.out, HB.out]; rfl, rfl⟩
        · have HB : Hid (inB (l.length : Int) 1 8 = false) := inB_no _ _ _ (by omega)
          go_wp2
          go_ret
          exact ⟨by rw [HF.out, HB.out]; rfl, rfl⟩
      · have HB : Hid (inB (l.length : Int) 1 8 = false) := inB_no _ _ _ (by omega)
        go_wp2
        go_ret
        exact ⟨by rw [HF.out, HB.out]; rfl, rfl⟩

theorem implNameOk (l : List UInt8) (w : World) (hl : l.length ≤ 1048576) :
    Calls Tryz.prog 92 #[.string ⟨l.toArray⟩] w fun e w' => e = .returned (.bool (nameB l)) ∧ Below w.heap.size w w' :=
  (implNameOkS l w hl).mono fun _ _ h => ⟨h.1, by rw [h.2]; exact Below.refl _ _⟩



end Go.Proofs.YtbojdcggnpdhcaaGreatDoor
