/-
  Parts of one proof, one behind the other: Math6I, PackK, Math7L, TreeS6, WordI, Jumps.
-/
import Derived.Test.YtiekcenknniniaaGreatDoorP13
import Derived.Test.YtiekcenknniniaaGreatDoorP2
import Derived.Test.YtiekcenknniniaaGreatDoorP4
import Derived.Test.YtiekcenknniniaaGreatDoorP9
import Derived.Lib.ItoaNum
import Derived.Lib.Join
import Derived.Lib.Bytealg
import Derived.Test.YtiekcenknniniaaGreatDoorP11
import Derived.Test.YtiekcenknniniaaGreatDoorP6
import Derived.Test.YtiekcenknniniaaGreatDoorP8
import Derived.Test.YtiekcenknniniaaGreatDoorP12
import Derived.Test.YtiekcenknniniaaGreatDoorP7
import Derived.Scope
import Derived.WalkMore

/-! Plain facts for chapter 6's landed code: shapes, and what words are read as. -/
namespace Go.Proofs.YtiekcenknniniaaGreatDoor
open Go.RowKit

/-- A shape: what a node tells by its kind. -/
inductive Sh where
  | num (a : Int)
  | arg (a : Int)
  | pair (k : Int)
  | cond
  | call (p f : List UInt8) (a : Int)
  | no

def shOf (n : Nd) : Sh :=
  if n.1 = 1 then .num n.2.1
  else if n.1 = 2 then .arg n.2.1
  else if 3 ≤ n.1 ∧ n.1 ≤ 6 then .pair n.1
  else if n.1 = 7 then .cond
  else if n.1 = 8 then .call n.2.2.1 n.2.2.2 n.2.1
  else .no

def shNode : Sh → Nd
  | .num a => (1, a, [], [])
  | .arg a => (2, a, [], [])
  | .pair k => (k, 0, [], [])
  | .cond => (7, 0, [], [])
  | .call p f a => (8, a, p, f)
  | .no => (0, 0, [], [])

def shOk : Sh → Bool
  | .num a => inB a (-2147483648) 2147483647
  | .arg a => inB a 0 2
  | .pair _ => true
  | .cond => true
  | .call p f a => inB a 0 3 && (nameB p && nameB f)
  | .no => false

def shKids : Sh → Int
  | .num _ => 0
  | .arg _ => 0
  | .pair _ => 2
  | .cond => 3
  | .call _ _ a => a
  | .no => -1

def shWord : Sh → List UInt8
  | .num a => intL a
  | .arg a => 36 :: intL a
  | .pair k => if k = 3 then [43] else if k = 4 then [45] else if k = 5 then [42] else [47]
  | .cond => [63]
  | .call p f a => (64 :: p) ++ [46] ++ f ++ [47] ++ intL a
  | .no => []

theorem shOf_kinds (n : Nd) : (n.1 = 1 ∧ shOf n = .num n.2.1) ∨ (n.1 = 2 ∧ shOf n = .arg n.2.1) ∨ ((3 ≤ n.1 ∧ n.1 ≤ 6) ∧ shOf n = .pair n.1) ∨ (n.1 = 7 ∧ shOf n = .cond) ∨ (n.1 = 8 ∧ shOf n = .call n.2.2.1 n.2.2.2 n.2.1) ∨ ((n.1 < 1 ∨ 8 < n.1) ∧ shOf n = .no) := by
  by_cases h1 : n.1 = 1
  · exact Or.inl ⟨h1, if_pos h1⟩
  by_cases h2 : n.1 = 2
  · exact Or.inr (Or.inl ⟨h2, by unfold shOf; rw [if_neg h1, if_pos h2]⟩)
  by_cases h3 : 3 ≤ n.1 ∧ n.1 ≤ 6
  · exact Or.inr (Or.inr (Or.inl ⟨h3, by unfold shOf; rw [if_neg h1, if_neg h2, if_pos h3]⟩))
  by_cases h7 : n.1 = 7
  · exact Or.inr (Or.inr (Or.inr (Or.inl ⟨h7, by unfold shOf; rw [if_neg h1, if_neg h2, if_neg h3, if_pos h7]⟩)))
  by_cases h8 : n.1 = 8
  · exact Or.inr (Or.inr (Or.inr (Or.inr (Or.inl ⟨h8, by unfold shOf; rw [if_neg h1, if_neg h2, if_neg h3, if_neg h7, if_pos h8]⟩))))
  · exact Or.inr (Or.inr (Or.inr (Or.inr (Or.inr ⟨by omega, by unfold shOf; rw [if_neg h1, if_neg h2, if_neg h3, if_neg h7, if_neg h8]⟩))))

/-- A node is right where its shape is, and it tells no more. -/
theorem node_sh (n : Nd) : nodeB n = (shOk (shOf n) && decide (shNode (shOf n) = n)) := by
  rw [Bool.eq_iff_iff, nodeB_iff, Bool.and_eq_true, decide_eq_true_iff]
  obtain ⟨k, a, p, f⟩ := n
  rcases shOf_kinds (k, a, p, f) with ⟨h, e⟩ | ⟨h, e⟩ | ⟨h, e⟩ | ⟨h, e⟩ | ⟨h, e⟩ | ⟨h, e⟩
  · rw [e]; simp only at h; subst h
    unfold nodeP shOk shNode inB
    simp [@eq_comm (List UInt8) [] p, @eq_comm (List UInt8) [] f]
  · rw [e]; simp only at h; subst h
    unfold nodeP shOk shNode inB
    simp [@eq_comm (List UInt8) [] p, @eq_comm (List UInt8) [] f]
  · rw [e]; simp only at h
    unfold nodeP shOk shNode
    simp only [Prod.mk.injEq, true_and]
    constructor
    · rintro (⟨h1, _⟩ | ⟨h1, _⟩ | ⟨_, h2, h3, h4⟩ | ⟨h1, _⟩)
      · omega
      · omega
      · exact ⟨h2.symm, h3.symm, h4.symm⟩
      · omega
    · rintro ⟨h2, h3, h4⟩
      exact Or.inr (Or.inr (Or.inl ⟨by omega, h2.symm, h3.symm, h4.symm⟩))
  · rw [e]; simp only at h; subst h
    unfold nodeP shOk shNode
    simp [@eq_comm (List UInt8) [] p, @eq_comm (List UInt8) [] f, @eq_comm Int 0 a]
  · rw [e]; simp only at h; subst h
    unfold nodeP shOk shNode inB
    simp
  · rw [e]; simp only at h
    unfold nodeP shOk shNode
    simp
    omega

theorem kids_sh {n : Nd} (h : nodeB n = true) : shKids (shOf n) = kidsV n := by
  unfold kidsV
  rcases shOf_kinds n with ⟨h, e⟩ | ⟨h, e⟩ | ⟨h, e⟩ | ⟨h, e⟩ | ⟨h, e⟩ | ⟨h1, e⟩
  · rw [e, if_neg (by omega), if_neg (by omega), if_neg (by omega)]; rfl
  · rw [e, if_neg (by omega), if_neg (by omega), if_neg (by omega)]; rfl
  · rw [e, if_pos h]; rfl
  · rw [e, if_neg (by omega), if_pos h]; rfl
  · rw [e, if_neg (by omega), if_neg (by omega), if_pos h]; rfl
  · have := nodeB_iff.1 h
    unfold nodeP at this
    omega

theorem word_sh {n : Nd} (h : nodeB n = true) : shWord (shOf n) = showN n := by
  unfold showN
  rcases shOf_kinds n with ⟨h, e⟩ | ⟨h, e⟩ | ⟨h, e⟩ | ⟨h, e⟩ | ⟨h, e⟩ | ⟨h1, e⟩
  · rw [e, if_pos h]; rfl
  · rw [e, if_neg (by omega), if_pos h]; rfl
  · rw [e, if_neg (by omega), if_neg (by omega)]
    unfold shWord
    simp only
    split
    · rfl
    · split
      · rfl
      · split
        · rfl
        · rw [if_pos (by omega)]
  · rw [e, if_neg (by omega), if_neg (by omega), if_neg (by omega), if_neg (by omega), if_neg (by omega), if_neg (by omega), if_pos h]; rfl
  · rw [e, if_neg (by omega), if_neg (by omega), if_neg (by omega), if_neg (by omega), if_neg (by omega), if_neg (by omega), if_neg (by omega)]; rfl
  · have := nodeB_iff.1 h
    unfold nodeP at this
    omega

/-- The library's numerals are ours. -/
theorem dec_digL : ∀ u : Nat, Lib.decDigits u = digL u := by
  intro u
  induction u using Nat.strongRecOn with
  | ind u ih =>
    rw [Lib.decDigits, digL]
    by_cases h : u < 10
    · rw [dif_pos h, if_pos h]; unfold digit; rw [Nat.mod_eq_of_lt h]
    · rw [dif_neg h, if_neg h, ih (u / 10) (by omega)]; rfl
theorem itoa_int (a : Int) : Lib.itoa a = intL a := by
  unfold Lib.itoa intL
  split
  · rw [dec_digL]
  · rw [dec_digL]; congr 1; omega

theorem join_by (ws : List (List UInt8)) : Lib.join ws [32] = joinBy 32 ws := by
  induction ws with
  | nil => rfl
  | cons x r ih =>
    cases r with
    | nil => rw [Lib.join_one]; rfl
    | cons y q =>
      rw [joinBy_cons 32 x (y :: q) (by simp), ← ih, Lib.join_cons, Lib.join_cons]
      simp [Lib.joinTail]

/-- A text cut at a byte: what is ahead of it, what is behind it. -/
def cutA (b : UInt8) (l : List UInt8) : List UInt8 := l.takeWhile (fun c => c != b)
def cutB (b : UInt8) (l : List UInt8) : List UInt8 := (l.dropWhile (fun c => c != b)).tail

theorem cut_one (b : UInt8) (x y : List UInt8) (h : ∀ c ∈ x, c ≠ b) : cutA b (x ++ b :: y) = x ∧ cutB b (x ++ b :: y) = y := by
  unfold cutA cutB
  induction x with
  | nil => simp
  | cons c r ih =>
    have hc : (c != b) = true := bne_iff_ne.2 (h c (by simp))
    have := ih (fun d hd => h d (by simp [hd]))
    rw [List.cons_append, List.takeWhile_cons, List.dropWhile_cons, if_pos hc, if_pos hc]
    exact ⟨by rw [this.1], this.2⟩

theorem cutA_len (b : UInt8) (l : List UInt8) : (cutA b l).length ≤ l.length := (List.takeWhile_sublist _).length_le
theorem cutB_len (b : UInt8) (l : List UInt8) : (cutB b l).length ≤ l.length := by
  have := (List.dropWhile_sublist (l := l) (fun c => c != b)).length_le
  unfold cutB
  rw [List.length_tail]
  omega

/-- Where the byte is. -/
theorem cut_at (b : UInt8) (l : List UInt8) : (Lib.indexByte l b = -1 ∧ cutA b l = l ∧ cutB b l = []) ∨ ∃ k : Nat, Lib.indexByte l b = (k : Int) ∧ k < l.length ∧ cutA b l = l.take k ∧ cutB b l = l.drop (k + 1) := by
  induction l with
  | nil => exact Or.inl ⟨rfl, rfl, rfl⟩
  | cons c r ih =>
    by_cases hc : c = b
    · subst hc
      refine Or.inr ⟨0, ?_, by simp, ?_, ?_⟩
      · unfold Lib.indexByte; simp
      · unfold cutA; simp
      · unfold cutB; simp
    · have hc2 : (c != b) = true := bne_iff_ne.2 hc
      have hc3 : (c == b) = false := beq_eq_false_iff_ne.2 hc
      have ea : cutA b (c :: r) = c :: cutA b r := by unfold cutA; rw [List.takeWhile_cons, if_pos hc2]
      have eb : cutB b (c :: r) = cutB b r := by unfold cutB; rw [List.dropWhile_cons, if_pos hc2]
      have ei : Lib.indexByte (c :: r) b = if Lib.indexByte r b == -1 then -1 else Lib.indexByte r b + 1 := by
        rw [Lib.indexByte, hc3]; rfl
      rw [ea, eb, ei]
      rcases ih with ⟨h1, h2, h3⟩ | ⟨k, h1, h2, h3, h4⟩
      · exact Or.inl ⟨by rw [h1]; rfl, by rw [h2], h3⟩
      · refine Or.inr ⟨k + 1, ?_, by simp; omega, by rw [h3]; rfl, by rw [h4]; rfl⟩
        rw [h1, if_neg (by rw [beq_iff_eq]; omega)]
        omega

/-- The shape of a word. -/
noncomputable def shIn (s : List UInt8) : Sh :=
  if numB s = true then .num (numV s)
  else if s = [63] then .cond
  else if s = [43] then .pair 3
  else if s = [45] then .pair 4
  else if s = [42] then .pair 5
  else if s = [47] then .pair 6
  else if s.head? = some 36 then .arg (numV s.tail)
  else if s.head? = some 64 then .call (cutA 46 (cutA 47 s.tail)) (cutB 46 (cutA 47 s.tail)) (numV (cutB 47 s.tail))
  else .no

theorem num_nohead {c : UInt8} {r : List UInt8} (h1 : c ≠ 45) (h2 : ¬ isDig c) : numB (c :: r) = false :=
  (num_no (Or.inl (readB_no fun hf => by
    have hneg : negB (c :: r) = false := by unfold negB; simp [h1]
    have hb : bodyL (c :: r) = c :: r := by unfold bodyL; rw [if_neg (by rw [hneg]; simp)]
    exact h2 (hf.2.1 c (by rw [hb]; simp))))).1

theorem num_minus : numB [45] = false :=
  (num_no (Or.inl (readB_no fun hf => by
    have hb : bodyL [45] = [] := by decide
    have := hf.1.1
    rw [hb] at this
    simp at this))).1

theorem num_word (a : Int) (h0 : -2147483648 ≤ a) (h1 : a ≤ 2147483647) : numB (intL a) = true ∧ numV (intL a) = a := by
  obtain ⟨e1, e2⟩ := read_of_int a h0 h1
  have := num_yes e1 (by rw [e2]; exact inB_yes _ _ _ h0 h1)
  exact ⟨this.1, by rw [this.2, e2]⟩

/-- A word that is shown of a node is read as it. -/
theorem in_show (n : Nd) (h : nodeB n = true) : shNode (shIn (showN n)) = n := by
  obtain ⟨k, a, p, f⟩ := n
  have hp := nodeB_iff.1 h
  unfold nodeP at hp
  simp only at hp
  rcases hp with ⟨rfl, ⟨h0, h1⟩, rfl, rfl⟩ | ⟨rfl, ⟨h0, h1⟩, rfl, rfl⟩ | ⟨hk, rfl, rfl, rfl⟩ | ⟨rfl, ⟨h0, h1⟩, hpn, hfn⟩
  · have hs : showN (1, a, [], []) = intL a := by unfold showN; simp
    obtain ⟨e1, e2⟩ := num_word a h0 h1
    rw [hs]
    unfold shIn
    rw [if_pos e1, e2]
    rfl
  · have hs : showN (2, a, [], []) = 36 :: intL a := by unfold showN; simp
    obtain ⟨_, e2⟩ := num_word a (by omega) (by omega)
    rw [hs]
    unfold shIn
    rw [if_neg (by rw [num_nohead (by decide) (by decide)]; simp), if_neg (by simp), if_neg (by simp), if_neg (by simp), if_neg (by simp), if_neg (by simp), if_pos (by rfl), List.tail_cons, e2]
    rfl
  · rcases (show k = 3 ∨ k = 4 ∨ k = 5 ∨ k = 6 ∨ k = 7 by omega) with rfl | rfl | rfl | rfl | rfl
    · have hs : showN (3, 0, [], []) = [43] := by unfold showN; simp
      rw [hs]; unfold shIn; rw [if_neg (by rw [num_nohead (by decide) (by decide)]; simp), if_neg (by simp), if_pos rfl]; rfl
    · have hs : showN (4, 0, [], []) = [45] := by unfold showN; simp
      rw [hs]; unfold shIn; rw [if_neg (by rw [num_minus]; simp), if_neg (by simp), if_neg (by simp), if_pos rfl]; rfl
    · have hs : showN (5, 0, [], []) = [42] := by unfold showN; simp
      rw [hs]; unfold shIn; rw [if_neg (by rw [num_nohead (by decide) (by decide)]; simp), if_neg (by simp), if_neg (by simp), if_neg (by simp), if_pos rfl]; rfl
    · have hs : showN (6, 0, [], []) = [47] := by unfold showN; simp
      rw [hs]; unfold shIn; rw [if_neg (by rw [num_nohead (by decide) (by decide)]; simp), if_neg (by simp), if_neg (by simp), if_neg (by simp), if_neg (by simp), if_pos rfl]; rfl
    · have hs : showN (7, 0, [], []) = [63] := by unfold showN; simp
      rw [hs]; unfold shIn; rw [if_neg (by rw [num_nohead (by decide) (by decide)]; simp), if_pos rfl]; rfl
  · have hs : showN (8, a, p, f) = 64 :: ((p ++ 46 :: f) ++ 47 :: intL a) := by unfold showN; simp
    obtain ⟨_, e2⟩ := num_word a (by omega) (by omega)
    obtain ⟨_, hpl⟩ := name_letters hpn
    obtain ⟨_, hfl⟩ := name_letters hfn
    obtain ⟨c1, c2⟩ := cut_one 47 (p ++ 46 :: f) (intL a) (by
      intro c hc
      rcases List.mem_append.1 hc with hc | hc
      · exact byte_ne (by have := hpl c hc; have e : (47 : UInt8).toNat = 47 := rfl; omega)
      · rcases List.mem_cons.1 hc with rfl | hc
        · decide
        · exact byte_ne (by have := hfl c hc; have e : (47 : UInt8).toNat = 47 := rfl; omega))
    obtain ⟨c3, c4⟩ := cut_one 46 p f (by intro c hc; exact byte_ne (by have := hpl c hc; have e : (46 : UInt8).toNat = 46 := rfl; omega))
    rw [hs]
    unfold shIn
    rw [if_neg (by rw [num_nohead (by decide) (by decide)]; simp), if_neg (by simp), if_neg (by simp), if_neg (by simp), if_neg (by simp), if_neg (by simp), if_neg (by simp), if_pos (by rfl), List.tail_cons, c1, c2, c3, c4, e2]
    rfl

/-- What a word is read as is small. -/
theorem in_small (s : List UInt8) : IntN (shNode (shIn s)) ∧ (shNode (shIn s)).2.2.1.length ≤ s.length ∧ (shNode (shIn s)).2.2.2.length ≤ s.length := by
  have b1 := numV_bd s
  have b2 := numV_bd s.tail
  have b3 := numV_bd (cutB 47 s.tail)
  have l1 := cutA_len 47 s.tail
  have l2 := cutA_len 46 (cutA 47 s.tail)
  have l3 := cutB_len 46 (cutA 47 s.tail)
  have l4 : s.tail.length ≤ s.length := by rw [List.length_tail]; omega
  unfold shIn
  repeat' split
  all_goals (unfold shNode IntN; simp only [List.length_nil]; omega)

/-- The landed ReadTree's list. -/
noncomputable def inT (s : List UInt8) : List Nd := (splitL 32 s).map (fun x => shNode (shIn x))

theorem showN_len (n : Nd) (h : nodeB n = true) : (showN n).length ≤ 20 := by
  obtain ⟨k, a, p, f⟩ := n
  have hp := nodeB_iff.1 h
  unfold nodeP at hp
  simp only at hp
  rcases hp with ⟨rfl, ⟨h0, h1⟩, rfl, rfl⟩ | ⟨rfl, ⟨h0, h1⟩, rfl, rfl⟩ | ⟨hk, rfl, rfl, rfl⟩ | ⟨rfl, ⟨h0, h1⟩, hpn, hfn⟩
  · have hs : showN (1, a, [], []) = intL a := by unfold showN; simp
    have := digL_len 9 a.natAbs (by omega)
    rw [hs]; unfold intL; split <;> simp <;> omega
  · have hs : showN (2, a, [], []) = 36 :: intL a := by unfold showN; simp
    have := digL_len 0 a.natAbs (by omega)
    rw [hs]; unfold intL; split <;> simp <;> omega
  · rcases (show k = 3 ∨ k = 4 ∨ k = 5 ∨ k = 6 ∨ k = 7 by omega) with rfl | rfl | rfl | rfl | rfl <;> (unfold showN; simp)
  · have hs : showN (8, a, p, f) = 64 :: ((p ++ 46 :: f) ++ 47 :: intL a) := by unfold showN; simp
    have := digL_len 0 a.natAbs (by omega)
    have e : intL a = digL a.natAbs := by unfold intL; rw [if_neg (by omega)]
    have := (name_letters hpn).1
    have := (name_letters hfn).1
    rw [hs, e]; simp; omega

end Go.Proofs.YtiekcenknniniaaGreatDoor

/-! What the landed functions of chapter 7 are told of a package; what the laws hold. -/
namespace Go.Proofs.YtiekcenknniniaaGreatDoor
open Go.RowKit

def IntF (fs : List Fn) : Prop := ∀ j, (-9223372036854775808 ≤ (fs.getD j fn0).2.1 ∧ (fs.getD j fn0).2.1 ≤ 9223372036854775807) ∧ IntT (fs.getD j fn0).2.2

/-- What the landed functions are told of a package that they are handed. -/
structure PkOk (w : World) (nm : List UInt8) (ia : Option Addr) (il ic : Nat) (fa : Option Addr) (fl fc : Nat) (ims : List (List UInt8)) (fs : List Fn) : Prop where
  i : TextsIn w ia il ims
  f : FuncsIn w fa fl fs
  ic : ia = none → ic = 0
  fc : (fa = none → fc = 0) ∧ fl ≤ fc
  int : IntF fs
  il : il ≤ 1048576
  fl : fl ≤ 1048576
  nm : nm.length ≤ 1048576
  is : ∀ i, (ims.getD i []).length ≤ 1048576
  fs : ShortF fs

theorem PkOk.below {w w' : World} {nm : List UInt8} {ia : Option Addr} {il ic : Nat} {fa : Option Addr} {fl fc : Nat} {ims : List (List UInt8)} {fs : List Fn} (h : PkOk w nm ia il ic fa fl fc ims fs) (hb : Below w.heap.size w w') : PkOk w' nm ia il ic fa fl fc ims fs :=
  ⟨h.i.below hb, h.f.below hb, h.ic, h.fc, h.int, h.il, h.fl, h.nm, h.is, h.fs⟩

theorem own_texts0 {w : World} {base n : Nat} {v : Value} {ts : List (List UInt8)} (h : w.ownsRow base 9 1 v n (strV ts)) : ∃ a c, v = .slice a n c ∧ (a = none → c = 0) ∧ TextsIn w a n ts := by
  obtain ⟨_, a, c, rfl, hin⟩ := own_texts h
  refine ⟨a, c, rfl, fun e => ?_, hin⟩
  rcases own_forms h with ⟨e2, _, _⟩ | ⟨g, cp, e2⟩
  · injection e2
  · injection e2 with e3; rw [e] at e3; cases e3

/-- A package small enough: every bound. -/
theorem pk_small {nm : List UInt8} {ims : List (List UInt8)} {fs : List Fn} (h : pkSz nm ims fs ≤ 1048576) : ims.length ≤ 1048576 ∧ fs.length ≤ 1048576 ∧ nm.length ≤ 1048576 ∧ (∀ i, (ims.getD i []).length ≤ 1048576) ∧ ShortF fs := by
  unfold pkSz at h
  refine ⟨by omega, by omega, by omega, fun i => ?_, shortF_of (by omega)⟩
  have h1 := part_le ims i
  have h2 : joinN ims = ims.flatten.length := rfl
  omega

/-- The law's own argument, in a block of its own. -/
theorem PkIn.newL {w : World} {nm : List UInt8} {ia : Option Addr} {il ic : Nat} {fa : Option Addr} {fl fc : Nat} {ims : List (List UInt8)} {fs : List Fn} (t : TypeId) (hi : TextsIn w ia il ims) (hf : FuncsIn w fa fl fs) :
    PkIn (w.alloc (.cells #[.string ⟨nm.toArray⟩, .slice ia il ic, .slice fa fl fc] t)) w.heap.size nm ia il ic fa fl fc ims fs ∧ Below w.heap.size w (w.alloc (.cells #[.string ⟨nm.toArray⟩, .slice ia il ic, .slice fa fl fc] t)) := by
  have hb : Below w.heap.size w (w.alloc (.cells #[.string ⟨nm.toArray⟩, .slice ia il ic, .slice fa fl fc] t)) := (Below.refl _ _).alloc (Nat.le_refl _) _
  have hA := heap_alloc_new w (.cells #[.string ⟨nm.toArray⟩, .slice ia il ic, .slice fa fl fc] t)
  generalize w.alloc (.cells #[.string ⟨nm.toArray⟩, .slice ia il ic, .slice fa fl fc] t) = W at hb hA ⊢
  exact ⟨⟨by simp [World.cell?, hA], by simp [World.cell?, hA], by simp [World.cell?, hA], hi.below hb, hf.below hb⟩, hb⟩

/-- Three cells of a block. -/
structure Box3 (V : World) (k : Nat) (a b c : Value) : Prop where
  c0 : V.cell? ⟨k, 0, none⟩ = some a
  c1 : V.cell? ⟨k, 1, none⟩ = some b
  c2 : V.cell? ⟨k, 2, none⟩ = some c

theorem Box3.lt {V : World} {k : Nat} {a b c : Value} (h : Box3 V k a b c) : k < V.heap.size := World.block_lt_of_cell? V ⟨k, 0, none⟩ h.c0
theorem Box3.keep {V V' : World} {k : Nat} {a b c : Value} (h : Box3 V k a b c) (hb : V'.heap[k]? = V.heap[k]?) : Box3 V' k a b c :=
  ⟨(World.cell?_of_block (a := ⟨k, 0, none⟩) hb).trans h.c0, (World.cell?_of_block (a := ⟨k, 1, none⟩) hb).trans h.c1, (World.cell?_of_block (a := ⟨k, 2, none⟩) hb).trans h.c2⟩
theorem Box3.below {V V' : World} {k : Nat} {a b c : Value} (h : Box3 V k a b c) (hb : Below V.heap.size V V') : Box3 V' k a b c := h.keep (hb.block k h.lt)
theorem Box3.wrote {V V' : World} {k : Nat} {a b c : Value} {S : Nat → Prop} (h : Box3 V k a b c) (hw : Wrote V V' S) (hk : ¬ S k) : Box3 V' k a b c := h.keep (hw.block k h.lt hk)
theorem Box3.grown {V V' : World} {k : Nat} {a b c : Value} {row : Option Nat} (h : Box3 V k a b c) (hg : V.grownBy V' row) (hk : some k ≠ row) : Box3 V' k a b c := h.keep (hg.block k h.lt hk)
theorem Box3.drew {V : World} {k : Nat} {a b c : Value} (h : Box3 V k a b c) : Box3 V.drew k a b c := ⟨h.c0, h.c1, h.c2⟩
theorem Box3.new (V : World) (a b c : Value) (t : TypeId) : Box3 (V.alloc (.cells #[a, b, c] t)) V.heap.size a b c ∧ Below V.heap.size V (V.alloc (.cells #[a, b, c] t)) := by
  have hb : Below V.heap.size V (V.alloc (.cells #[a, b, c] t)) := (Below.refl _ _).alloc (Nat.le_refl _) _
  have hA := heap_alloc_new V (.cells #[a, b, c] t)
  generalize V.alloc (.cells #[a, b, c] t) = W at hb hA ⊢
  exact ⟨⟨by simp [World.cell?, hA], by simp [World.cell?, hA], by simp [World.cell?, hA]⟩, hb⟩

theorem short_mem {fs : List Fn} (h : ShortF fs) {f : Fn} (hf : f ∈ fs) : f.2.2.length ≤ 1048576 := by
  obtain ⟨j, hj, rfl⟩ := List.mem_iff_getElem.1 hf
  have := (h j).2.1
  rw [List.getD_eq_getElem?_getD, List.getElem?_eq_getElem hj] at this
  exact this

/-- A package that a call owns can be read. -/
theorem own_pk {w : World} {base : Nat} {vi vf : Value} {ims : List (List UInt8)} {xs : List FV} {fs : List Fn} (hoi : w.ownsRow base 9 1 vi ims.length (strV ims)) (hof : FnsOwn w base vf xs) (hxs : xs.map (·.1) = fs) :
    ∃ ai ci af cf, vi = .slice ai ims.length ci ∧ vf = .slice af fs.length cf ∧ (ai = none → ci = 0) ∧ ((af = none → cf = 0) ∧ fs.length ≤ cf) ∧ TextsIn w ai ims.length ims ∧ FuncsIn w af fs.length fs := by
  obtain ⟨ai, ci, rfl, hic, hit⟩ := own_texts0 hoi
  obtain ⟨af, cf, rfl, hfc, hif⟩ := hof.in
  have hl : xs.length = fs.length := by rw [← hxs, List.length_map]
  have hcp : fs.length ≤ cf := by
    rcases hof.row.2 with ⟨e, h0⟩ | ⟨g, cap, cur, e, _, _, hc, _⟩
    · rw [← hl, h0]; exact Nat.zero_le _
    · injection e with _ _ e3
      rw [e3, ← hl]; exact hc
  rw [hxs, hl] at hif
  exact ⟨ai, ci, af, cf, rfl, by rw [hl], hic, ⟨hfc, hcp⟩, hit, hif⟩

/-- A right package is small. -/
theorem pkgB_small {p : Pk} (h : pkgB p = true) : p.2.1.length ≤ 6 ∧ p.2.2.length ≤ 8 ∧ ∀ f ∈ p.2.2, f.2.2.length ≤ 60 := by
  unfold pkgB at h
  rw [Bool.and_eq_true, Bool.and_eq_true, Bool.and_eq_true] at h
  obtain ⟨⟨_, hi, hf⟩, ha⟩ := h
  unfold importsB at hi
  rw [Bool.and_eq_true, Bool.and_eq_true] at hi
  have hf2 := of_decide_eq_true hf
  refine ⟨of_decide_eq_true hi.2.1, by omega, fun f hm => ?_⟩
  obtain ⟨j, hj, rfl⟩ := List.mem_iff_getElem.1 hm
  have h1 := ((of_decide_eq_true ha) j hj).1
  have hg : p.2.2.getD j fn0 = p.2.2[j] := by simp [List.getD, hj]
  rw [hg] at h1
  unfold funcB at h1
  rw [Bool.and_eq_true, Bool.and_eq_true] at h1
  exact (tree_end h1.2.2).1.2

end Go.Proofs.YtiekcenknniniaaGreatDoor

/-! Plain facts of chapter 7: lines read loosely, as the landed code reads them. -/
namespace Go.Proofs.YtiekcenknniniaaGreatDoor
open Go.RowKit

noncomputable def loFn (s : List UInt8) : Fn := (cutA 32 s, numV (cutA 32 (cutB 32 s)), readTV (cutB 32 (cutB 32 s)))
noncomputable def loLn (p : Pk) (x : List UInt8) : Pk :=
  if cutA 32 x = kwPackage then (cutB 32 x, p.2.1, p.2.2)
  else if cutA 32 x = kwImport then (p.1, p.2.1 ++ [cutB 32 x], p.2.2)
  else if cutA 32 x = kwFunc then (p.1, p.2.1, p.2.2 ++ [loFn (cutB 32 x)])
  else p
noncomputable def loLs (p : Pk) (ls : List (List UInt8)) : Pk := ls.foldl loLn p

theorem lo_pack (p : Pk) (s : List UInt8) : loLn p (packLn s) = (s, p.2.1, p.2.2) := by
  have h := cut_one 32 kwPackage s (by decide)
  have e : packLn s = kwPackage ++ 32 :: s := by simp [packLn]
  unfold loLn
  rw [e, h.1, h.2, if_pos rfl]
theorem lo_imp (p : Pk) (s : List UInt8) : loLn p (impLn s) = (p.1, p.2.1 ++ [s], p.2.2) := by
  have h := cut_one 32 kwImport s (by decide)
  have e : impLn s = kwImport ++ 32 :: s := by simp [impLn]
  unfold loLn
  rw [e, h.1, h.2, if_neg (by decide), if_pos rfl]
theorem lo_func (p : Pk) (f : Fn) (h : funcB f = true) : loLn p (funcLn f) = (p.1, p.2.1, p.2.2 ++ [f]) := by
  obtain ⟨s, n, t⟩ := f
  unfold funcB at h
  simp only [Bool.and_eq_true] at h
  obtain ⟨hs, hn, ht⟩ := h
  have hnb : 0 ≤ n ∧ n ≤ 3 := by unfold inB at hn; exact of_decide_eq_true hn
  have h0 := cut_one 32 kwFunc (s ++ 32 :: (intL n ++ 32 :: showL t)) (by decide)
  have h1 := cut_one 32 s (intL n ++ 32 :: showL t) (name_noblank hs)
  have h2 := cut_one 32 (intL n) (showL t) (fun c hc e => by
    have := intL_bytes n (by omega) (by omega) c hc
    rw [e] at this
    simp at this)
  have e : funcLn (s, n, t) = kwFunc ++ 32 :: (s ++ 32 :: (intL n ++ 32 :: showL t)) := by simp [funcLn]
  have hf : loFn (s ++ 32 :: (intL n ++ 32 :: showL t)) = (s, n, t) := by
    unfold loFn
    rw [h1.1, h1.2, h2.1, h2.2, (num_word n (by omega) (by omega)).2, (tree_backL ht).2]
  unfold loLn
  rw [e, h0.1, h0.2, if_neg (by decide), if_neg (by decide), if_pos rfl, hf]
theorem loLs_imps (r : List (List UInt8)) : ∀ (ims : List (List UInt8)) (p : Pk), loLs p (ims.map impLn ++ r) = loLs (p.1, p.2.1 ++ ims, p.2.2) r
  | [], p => by simp
  | x :: l, p => by
    have ih := loLs_imps r l (p.1, p.2.1 ++ [x], p.2.2)
    unfold loLs at ih ⊢
    rw [List.map_cons, List.cons_append, List.foldl_cons, lo_imp, ih]
    simp
theorem loLs_funcs : ∀ (fs : List Fn) (p : Pk), (∀ f ∈ fs, funcB f = true) → loLs p (fs.map funcLn) = (p.1, p.2.1, p.2.2 ++ fs)
  | [], p, _ => by simp [loLs]
  | f :: l, p, h => by
    have ih := loLs_funcs l (p.1, p.2.1, p.2.2 ++ [f]) (fun g hg => h g (List.mem_cons_of_mem _ hg))
    unfold loLs at ih ⊢
    rw [List.map_cons, List.foldl_cons, lo_func p f (h f List.mem_cons_self), ih]
    simp
/-- What a good package is written as is read back loosely too. -/
theorem lo_lines {p : Pk} (h : pkgB p = true) : loLs pk0 (pkLines p) = p := by
  obtain ⟨_, _, _, _, hf⟩ := pkgB_parts h
  unfold pkLines
  have e : loLs pk0 (packLn p.1 :: (p.2.1.map impLn ++ p.2.2.map funcLn)) = loLs (p.1, [], []) (p.2.1.map impLn ++ p.2.2.map funcLn) := by
    unfold loLs
    rw [List.foldl_cons, lo_pack]
    rfl
  rw [e, loLs_imps, loLs_funcs _ _ hf]
  simp
theorem lo_yes {l : List UInt8} {q : Pk} (hl : l ≠ []) (hs : showPk q = l) : readPB l = true ∧ readPV l = q := by
  rcases hp : pkgB q with _ | _
  · rw [pack_not hp] at hs; exact absurd hs.symm hl
  · have h := pack_back hp
    rw [hs] at h
    exact ⟨h.2.1, h.2.2⟩
theorem lo_no {l : List UInt8} (hs : showPk (loLs pk0 (linesL l)) ≠ l) : readPB l = false ∧ readPV l = pk0 := by
  rcases read_pv l with ⟨_, h, e⟩ | h
  · refine absurd ?_ hs
    have e2 : linesL l = pkLines (readPV l) := by
      have h1 := lines_term (pkLines (readPV l)) (lines_no10 h)
      have h2 : showP (readPV l) = l := (show showP (readPV l) = showPk (readPV l) from (if_pos h).symm).trans e
      rw [show termJ (pkLines (readPV l)) = showP (readPV l) from rfl, h2] at h1
      exact h1
    rw [e2, lo_lines h]
    exact e
  · exact h
theorem lo_nil : readPB [] = false ∧ readPV [] = pk0 := by
  rcases read_pv [] with ⟨_, h, e⟩ | h
  · exact absurd e (pack_back h).1
  · exact h

/-- No more lines than bytes. -/
theorem linesL_le (l : List UInt8) : (linesL l).length ≤ l.length := by
  have hne := splitGo_ne 10 l []
  have hj := joinBy_split 10 l []
  rw [List.nil_append] at hj
  have hs : splitL 10 l = (splitL 10 l).dropLast ++ [(splitL 10 l).getLastD []] := by
    have h : splitL 10 l ≠ [] := hne
    have h2 := List.dropLast_concat_getLast h
    rw [← h2]
    simp [List.getLastD_eq_getLast?]
  have hj2 : joinBy 10 (splitL 10 l) = l := hj
  rw [hs, joinBy_term] at hj2
  have hc : ∀ ls : List (List UInt8), ls.length ≤ (termJ ls).length := fun ls => by
    induction ls with
    | nil => simp
    | cons x r ih => simp only [termJ, List.map_cons, List.flatten_cons, List.length_append, List.length_cons, List.length_nil] at ih ⊢; omega
  have h1 := hc (splitL 10 l).dropLast
  have h2 := congrArg List.length hj2
  rw [List.length_append] at h2
  unfold linesL
  split
  · omega
  · rename_i hn
    have h3 : 0 < ((splitL 10 l).getLastD []).length := List.length_pos_iff.2 hn
    have h4 := congrArg List.length hs
    rw [List.length_append, List.length_singleton] at h4
    omega
theorem loLs_take (p : Pk) (ls : List (List UInt8)) (k : Nat) (hk : k < ls.length) : loLs p (ls.take (k + 1)) = loLn (loLs p (ls.take k)) (ls.getD k []) := by
  have e : ls.getD k [] = ls[k] := by rw [List.getD_eq_getElem?_getD, List.getElem?_eq_getElem hk]; rfl
  unfold loLs
  rw [List.take_succ_eq_append_getElem hk, List.foldl_append, e]
  rfl

/-- How great what is read may be. -/
structure LoOk (p : Pk) : Prop where
  s : ShortP p.1 p.2.1 p.2.2
  i : IntF p.2.2
theorem loOk0 : LoOk pk0 := ⟨shortP0, fun j => by simp [pk0, fn0, IntT, IntN, nd0]⟩
theorem int_nodes {t : List Nd} (h : ∀ n ∈ t, nodeB n = true) : IntT t := fun j => by
  by_cases hj : j < t.length
  · have hn := h _ (getD_mem t j nd0 hj)
    generalize t.getD j nd0 = n at hn
    obtain ⟨k, a, p, f⟩ := n
    have hp := nodeB_iff.1 hn
    unfold nodeP at hp
    unfold IntN
    simp only at hp ⊢
    rcases hp with ⟨rfl, ⟨h0, h1⟩, rfl, rfl⟩ | ⟨rfl, ⟨h0, h1⟩, rfl, rfl⟩ | ⟨hk, rfl, rfl, rfl⟩ | ⟨rfl, ⟨h0, h1⟩, hpn, hfn⟩
    · exact ⟨⟨by omega, by omega⟩, by omega, by omega⟩
    · exact ⟨⟨by omega, by omega⟩, by omega, by omega⟩
    · exact ⟨⟨by omega, by omega⟩, by omega, by omega⟩
    · exact ⟨⟨by omega, by omega⟩, by omega, by omega⟩
  · rw [List.getD_eq_getElem?_getD, List.getElem?_eq_none (by omega)]; simp [nd0, IntN]
theorem readTV_int (s : List UInt8) : IntT (readTV s) := by
  unfold readTV
  split
  · rename_i h
    unfold readOk at h
    simp only [Bool.and_eq_true] at h
    exact int_nodes (tree_nodes h.2.1)
  · exact IntT.nil
theorem loFn_ok (s : List UInt8) (hs : s.length ≤ 1048576) : ((loFn s).1.length ≤ 1048576 ∧ (loFn s).2.2.length ≤ 1048576 ∧ ShortT (loFn s).2.2) ∧ (-9223372036854775808 ≤ (loFn s).2.1 ∧ (loFn s).2.1 ≤ 9223372036854775807) ∧ IntT (loFn s).2.2 := by
  have h1 := cutA_len 32 s
  have h2 := readTV_short (cutB 32 (cutB 32 s))
  have h3 := numV_bd (cutA 32 (cutB 32 s))
  exact ⟨⟨by unfold loFn; simp only; omega, h2.1, h2.2⟩, ⟨by unfold loFn; simp only; omega, by unfold loFn; simp only; omega⟩, readTV_int _⟩
theorem LoOk.step {p : Pk} (h : LoOk p) {x : List UInt8} (hx : x.length ≤ 1048576) : LoOk (loLn p x) := by
  have hb := cutB_len 32 x
  unfold loLn
  split
  · exact ⟨⟨by show (cutB 32 x).length ≤ _; omega, h.s.i, h.s.f⟩, h.i⟩
  · split
    · exact ⟨h.s.imp (by omega), h.i⟩
    · split
      · have hf := loFn_ok (cutB 32 x) (by omega)
        refine ⟨h.s.fn hf.1, fun j => ?_⟩
        show ((-9223372036854775808 ≤ ((p.2.2 ++ [loFn (cutB 32 x)]).getD j fn0).2.1 ∧ ((p.2.2 ++ [loFn (cutB 32 x)]).getD j fn0).2.1 ≤ 9223372036854775807) ∧ IntT ((p.2.2 ++ [loFn (cutB 32 x)]).getD j fn0).2.2)
        by_cases hj : j < p.2.2.length
        · rw [List.getD_eq_getElem?_getD, List.getElem?_append_left hj, ← List.getD_eq_getElem?_getD]; exact h.i j
        · rw [List.getD_eq_getElem?_getD, List.getElem?_append_right (by omega)]
          cases j - p.2.2.length with
          | zero => simpa using hf.2
          | succ m => exact ⟨by simp [fn0], by simp [fn0, IntT, IntN, nd0]⟩
      · exact h
theorem loLn_many (p : Pk) (x : List UInt8) : (loLn p x).2.1.length ≤ p.2.1.length + 1 ∧ (loLn p x).2.2.length ≤ p.2.2.length + 1 := by
  unfold loLn
  split
  · simp
  · split
    · simp
    · split
      · simp
      · simp

end Go.Proofs.YtiekcenknniniaaGreatDoor

/-! The contracts of chapter 6's specification: l6Parts, PartsOf. -/
namespace Go.Proofs.YtiekcenknniniaaGreatDoor
open Go.RowKit

/-- What a row of numbers holds. -/
def intsV (l : List Int) : List Value := l.map (fun i => Value.int .i64 i)
theorem intsV_len (l : List Int) : (intsV l).length = l.length := by simp [intsV]
theorem intsV_append (x y : List Int) : intsV (x ++ y) = intsV x ++ intsV y := by simp [intsV]
theorem intsV_one (l : List Int) : ∀ u ∈ intsV l, u.oneCell' = true := by
  intro u hu
  simp only [intsV, List.mem_map] at hu
  obtain ⟨i, _, rfl⟩ := hu
  rfl
theorem infoInt : (Tryz.prog.info? 2).map (fun i => (i.zero, i.size, i.bytes)) = some (some (.int .i64 0), 1, 8) := by kernel_rfl

theorem new_int (w : World) (n : Int) : ∀ j u, (intsV [n])[j]? = some u → (w.alloc (.cells #[.int .i64 n] 2)).cell? ((⟨w.heap.size, 0, none⟩ : Addr).add j) = some u := by
  intro j u hu
  have e : (⟨w.heap.size, 0, none⟩ : Addr).add j = ⟨w.heap.size, j, none⟩ := by unfold Addr.add; split <;> simp_all
  rw [e]
  match j, hu with
  | 0, hu => simp [intsV] at hu; subst hu; simp
  | j + 1, hu => simp [intsV] at hu

theorem endV_le (l : List Nd) (a : Int) : -1 ≤ endV l a ∧ endV l a ≤ l.length := by
  by_cases h : 0 ≤ endV l a
  · by_cases ha : a < 0 ∨ (l.length : Int) ≤ a
    · rw [endV_out l a ha] at h; omega
    · obtain ⟨k, rfl⟩ : ∃ k : Nat, a = (k : Int) := Int.eq_ofNat_of_zero_le (by omega)
      have := end_parts h
      omega
  · by_cases ha : a < 0 ∨ (l.length : Int) ≤ a
    · rw [endV_out l a ha]; omega
    · obtain ⟨k, rfl⟩ : ∃ k : Nat, a = (k : Int) := Int.eq_ofNat_of_zero_le (by omega)
      rw [endV_nat] at h ⊢
      unfold endN at h ⊢
      rw [if_pos (by omega)] at h ⊢
      cases he : endGo (l.drop k) 1 with
      | none => simp only; omega
      | some d => rw [he] at h; simp only at h; omega



end Go.Proofs.YtiekcenknniniaaGreatDoor

/-! The contracts of chapter 4's landed code: WordOk, Wrap, Done. -/
namespace Go.Proofs.YtiekcenknniniaaGreatDoor
open Go.RowKit

set_option maxHeartbeats 400000 in
set_option maxRecDepth 100000 in
theorem implWordOkS (n : Int) (w : World) : Calls Tryz.prog 144 #[.int .i64 n] w fun e w' => e = .returned (.bool (inB n (-2147483648) 2147483647)) ∧ w' = w := by
  by_cases h1 : -2147483648 ≤ n
  · by_cases h2 : n ≤ 2147483647
    · have hB : Hid (inB n (-2147483648) 2147483647 = true) := inB_yes _ _ _ h1 h2
      go_enter Tryz.func144, Tryz.ntmps144
      go_wp2
      go_ret
      exact ⟨by rw [hB.out]; rfl, rfl⟩
    · have hB : Hid (inB n (-2147483648) 2147483647 = false) := inB_no _ _ _ (Or.inr (by omega))
      go_enter Tryz.func144, Tryz.ntmps144
      go_wp2
      go_ret
      exact ⟨by rw [hB.out]; rfl, rfl⟩
  · have hB : Hid (inB n (-2147483648) 2147483647 = false) := inB_no _ _ _ (Or.inl (by omega))
    go_enter Tryz.func144, Tryz.ntmps144
    go_wp2
    go_ret
    exact ⟨by rw [hB.out]; rfl, rfl⟩

theorem implWordOk (n : Int) (w : World) (_h : -9223372036854775808 ≤ n ∧ n ≤ 9223372036854775807) : Calls Tryz.prog 144 #[.int .i64 n] w fun e w' => e = .returned (.bool (inB n (-2147483648) 2147483647)) ∧ Below w.heap.size w w' :=
  (implWordOkS n w).mono fun _ _ h => ⟨h.1, by rw [h.2]; exact Below.refl _ _⟩



end Go.Proofs.YtiekcenknniniaaGreatDoor

/-! A scope in which the run jumps to several labels: what holds at every jump to each of them, and a measure that every pass from a label lowers. -/
namespace Go.Proofs.YtiekcenknniniaaGreatDoor
open Go.RowKit

/-- As Q; by a goto to label l: J l. -/
def Hops (J : Nat → Act → World → Prop) (Q : Exit → Act → World → Prop) : Exit → Act → World → Prop
  | .goto l, a, w => J l a w
  | e, a, w => Q e a w

theorem hops_goto {J : Nat → Act → World → Prop} {Q : Exit → Act → World → Prop} {l : Nat} {a : Act} {w : World} (h : J l a w) : Hops J Q (.goto l) a w := h
theorem hops_ret {J : Nat → Act → World → Prop} {Q : Exit → Act → World → Prop} {a : Act} {w : World} (h : Q .ret a w) : Hops J Q .ret a w := h

theorem hops_mono {J J' : Nat → Act → World → Prop} {Q : Exit → Act → World → Prop} (h : ∀ l a w, J l a w → J' l a w) : ∀ e a w, Hops J Q e a w → Hops J' Q e a w := by
  intro e a w hq
  cases e with
  | goto l => exact h l a w hq
  | _ => exact hq

/-- At each label what holds there (J), and a measure (μ) that every jump lowers; a run that falls into a label from above goes on as one that jumped there. -/
theorem wp_scope_hops {P : Program} {a : Act} {w : World} {Q : Exit → Act → World → Prop} {c : Go.Code} (J : Nat → Act → World → Prop) (μ : Nat → Act → World → Nat)
    (pass : ∀ l a w, J l a w → (∀ l' a' w', J l' a' w' → μ l' a' w' < μ l a w → ∀ R, findLabel c l' = some (.seq .skip R) → R.wp P (Hops (fun l₂ a₂ w₂ => J l₂ a₂ w₂ ∧ μ l₂ a₂ w₂ < μ l a w) Q) a' w') →
      ∃ R, findLabel c l = some (.seq .skip R) ∧ R.wp P (Hops (fun l' a' w' => J l' a' w' ∧ μ l' a' w' < μ l a w) Q) a w)
    (first : (∀ l a w, J l a w → ∀ R, findLabel c l = some (.seq .skip R) → R.wp P (Hops J Q) a w) → c.wp P (Hops J Q) a w) : (Code.scope c).wp P Q a w := by
  have all : ∀ n l a w, μ l a w = n → J l a w → ∃ R, findLabel c l = some (.seq .skip R) ∧ R.wp P (Hops (fun l' a' w' => J l' a' w' ∧ μ l' a' w' < μ l a w) Q) a w := by
    intro n
    induction n using Nat.strongRecOn with
    | _ n ih =>
      intro l a w hn hJ
      refine pass l a w hJ fun l' a' w' hJ' hlt R hf => ?_
      obtain ⟨R', hf', hw⟩ := ih _ (by omega) l' a' w' rfl hJ'
      rw [hf] at hf'
      cases hf'
      exact wp_mono hw (hops_mono fun l₂ a₂ w₂ h => ⟨h.1, Nat.lt_trans h.2 hlt⟩)
  intro b k cs
  have key : ∀ n l a w, μ l a w = n → J l a w → ∃ rest, findLabel c l = some rest ∧ ∃ e a' w', Q e a' w' ∧ Arrives P (lone (b.at a (.code rest :: .inScope c :: k)) cs w) b k cs e a' w' := by
    intro n
    induction n using Nat.strongRecOn with
    | _ n ih =>
      intro l a w hn hJ
      obtain ⟨R, hf, hR⟩ := all _ l a w rfl hJ
      have hp : (Code.seq .skip R).wp P (Hops (fun l' a' w' => J l' a' w' ∧ μ l' a' w' < μ l a w) Q) a w := wp_seq (wp_skip hR)
      refine ⟨_, hf, ?_⟩
      obtain ⟨e, a₁, w₁, hq, harr⟩ := hp b (.inScope c :: k) cs
      cases e with
      | normal => exact ⟨.normal, a₁, w₁, hq, Steps.trans harr (.one step_inScope)⟩
      | exit id => exact ⟨.exit id, a₁, w₁, hq, fun k' hk => harr k' (by simp [exitTo, hk])⟩
      | goto l' =>
        obtain ⟨hJ', hlt⟩ := hq
        obtain ⟨rest', hf', e₂, a₂, w₂, hq₂, harr₂⟩ := ih _ (by omega) l' a₁ w₁ rfl hJ'
        exact ⟨e₂, a₂, w₂, hq₂, .of_steps (harr _ (by simp [gotoIn, hf'])) harr₂⟩
      | ret => exact ⟨_, a₁, w₁, hq, harr⟩
      | panic ch => exact ⟨_, a₁, w₁, hq, harr⟩
      | outgrown => exact ⟨_, a₁, w₁, hq, harr⟩
  have first' := first fun l a w hJ R hf => by
    obtain ⟨R', hf', hw⟩ := all _ l a w rfl hJ
    rw [hf] at hf'
    cases hf'
    exact wp_mono hw (hops_mono fun l₂ a₂ w₂ h => h.1)
  obtain ⟨e, a₁, w₁, hq, harr⟩ := first' b (.inScope c :: k) cs
  cases e with
  | normal => exact ⟨.normal, a₁, w₁, hq, .head step_scope (Steps.trans harr (.one step_inScope))⟩
  | exit id => exact ⟨.exit id, a₁, w₁, hq, fun k' hk => .head step_scope (harr k' (by simp [exitTo, hk]))⟩
  | goto l' =>
    obtain ⟨rest', hf', e₂, a₂, w₂, hq₂, harr₂⟩ := key _ l' a₁ w₁ rfl hq
    exact ⟨e₂, a₂, w₂, hq₂, .of_steps (.head step_scope (harr _ (by simp [gotoIn, hf']))) harr₂⟩
  | ret => exact ⟨_, a₁, w₁, hq, .of_steps (.one step_scope) harr⟩
  | panic ch => exact ⟨_, a₁, w₁, hq, .of_steps (.one step_scope) harr⟩
  | outgrown => exact ⟨_, a₁, w₁, hq, .of_steps (.one step_scope) harr⟩

end Go.Proofs.YtiekcenknniniaaGreatDoor
