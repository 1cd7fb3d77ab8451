/-
  Parts of one proof, one behind the other: Math6R, Math6P, MathT, Own, HexOf, WordS, TextS.
-/
import Derived.Test.YtglhbcbilepomaaDoorP1
import Derived.Test.YtglhbcbilepomaaDoorRows
import Derived.WalkKit
import Derived.WalkLawsBesides
import Derived.Laws.OwnMore
import Derived.Laws.IdiomStrings
import Derived.Maps.AppendAt
import Derived.OpenShut
import Derived.Handy

/-! Plain facts for chapter 6: what is shown is read. -/
namespace Go.Proofs.YtglhbcbilepomaaDoor
open Go.RowKit

theorem digit_dig (n : Nat) : isDig (digit n) := by unfold isDig; rw [digit_nat]; omega

theorem digL_dig : ∀ (k n : Nat), n < 10 ^ (k + 1) → ∀ c ∈ digL n, isDig c
  | 0, n, h, c, hc => by
    rw [digL_small (by simpa using h)] at hc
    simp at hc; subst hc; exact digit_dig n
  | k + 1, n, h, c, hc => by
    by_cases hn : n < 10
    · rw [digL_small hn] at hc; simp at hc; subst hc; exact digit_dig n
    · rw [digL_big (by omega)] at hc
      rcases List.mem_append.1 hc with hc | hc
      · exact digL_dig k (n / 10) (by rw [Nat.pow_succ] at h; omega) c hc
      · simp at hc; subst hc; exact digit_dig n

theorem valL_digL : ∀ (k n : Nat), n < 10 ^ (k + 1) → valL (digL n) = n
  | 0, n, h => by
    have h10 : n < 10 := by simpa using h
    rw [digL_small h10]
    have : valL [digit n] = (digit n).toNat - 48 := by simp [valL]
    rw [this, digit_nat]; omega
  | k + 1, n, h => by
    by_cases hn : n < 10
    · rw [digL_small hn]
      have : valL [digit n] = (digit n).toNat - 48 := by simp [valL]
      rw [this, digit_nat]; omega
    · rw [digL_big (by omega), valL_snoc, valL_digL k (n / 10) (by rw [Nat.pow_succ] at h; omega), digit_nat]; omega

theorem digL_head : ∀ (k n : Nat), n < 10 ^ (k + 1) → (digL n).head? = some 48 → n = 0
  | 0, n, h, hh => by
    have h10 : n < 10 := by simpa using h
    rw [digL_small h10] at hh
    simp at hh
    have := congrArg UInt8.toNat hh
    rw [digit_nat] at this
    have h48 : (48 : UInt8).toNat = 48 := rfl
    omega
  | k + 1, n, h, hh => by
    by_cases hn : n < 10
    · rw [digL_small hn] at hh
      simp at hh
      have := congrArg UInt8.toNat hh
      rw [digit_nat] at this
      have h48 : (48 : UInt8).toNat = 48 := rfl
      omega
    · rw [digL_big (by omega)] at hh
      have hne := digL_ne (n / 10)
      rw [List.head?_append] at hh
      cases hd : (digL (n / 10)).head? with
      | none => rw [List.head?_eq_none_iff] at hd; exact absurd hd hne
      | some x =>
        rw [hd] at hh
        have := digL_head k (n / 10) (by rw [Nat.pow_succ] at h; omega) (by rw [hd]; exact hh)
        omega

/-- A word that is written is read. -/
theorem read_of_int (a : Int) (h0 : -2147483648 ≤ a) (h1 : a ≤ 2147483647) : readB (intL a) = true ∧ readV (intL a) = a := by
  have hlt : a.natAbs < 10 ^ (9 + 1) := by omega
  have hdig := digL_dig 9 a.natAbs hlt
  have hval := valL_digL 9 a.natAbs hlt
  have hlen := digL_len 9 a.natAbs hlt
  have hne := digL_ne a.natAbs
  have hpos := List.length_pos_iff.2 hne
  have hhead := digL_head 9 a.natAbs hlt
  by_cases hn : a < 0
  · have e : intL a = 45 :: digL a.natAbs := by unfold intL; rw [if_pos hn]
    rw [e]
    have hneg : negB (45 :: digL a.natAbs) = true := rfl
    have hbody : bodyL (45 :: digL a.natAbs) = digL a.natAbs := by unfold bodyL; rw [if_pos hneg]; rfl
    have hf : formP (45 :: digL a.natAbs) := ⟨by rw [hbody]; omega, by rw [hbody]; exact hdig, by rw [hbody]; intro hx; have := hhead hx.1; omega⟩
    have hb := readB_yes hf
    refine ⟨hb, ?_⟩
    unfold readV
    rw [if_pos hb, if_pos hneg, hbody, hval]
    omega
  · have e : intL a = digL a.natAbs := by unfold intL; rw [if_neg hn]
    rw [e]
    have hneg : negB (digL a.natAbs) = false := by
      unfold negB
      rw [beq_eq_false_iff_ne]
      intro hx
      have hm : (45 : UInt8) ∈ digL a.natAbs := List.mem_of_mem_head? (by rw [hx]; rfl)
      have := hdig 45 hm
      unfold isDig at this
      have h45 : (45 : UInt8).toNat = 45 := rfl
      omega
    have hbody : bodyL (digL a.natAbs) = digL a.natAbs := by unfold bodyL; rw [if_neg (by rw [hneg]; simp)]
    have hf : formP (digL a.natAbs) := ⟨by rw [hbody]; omega, by rw [hbody]; exact hdig, by
      rw [hbody]; intro hx
      have h00 := hhead hx.1
      rw [h00, digL_small (by omega)] at hx
      simp at hx⟩
    have hb := readB_yes hf
    refine ⟨hb, ?_⟩
    unfold readV
    rw [if_pos hb, if_neg (by rw [hneg]; simp), hbody, hval]
    omega

/-- Pieces of what holds no such byte. -/
theorem split_none (b : UInt8) (l : List UInt8) : ∀ cur, (∀ c ∈ l, c ≠ b) → splitGo b cur l = [cur ++ l] := by
  induction l with
  | nil => intro cur _; simp [splitGo]
  | cons c r ih =>
    intro cur h
    rw [splitGo, if_neg (h c (by simp)), ih _ (fun x hx => h x (by simp [hx]))]
    simp

theorem split_one (b : UInt8) (x y : List UInt8) : ∀ cur, (∀ c ∈ x, c ≠ b) → splitGo b cur (x ++ b :: y) = (cur ++ x) :: splitGo b [] y := by
  induction x with
  | nil => intro cur _; simp [splitGo]
  | cons c r ih =>
    intro cur h
    rw [List.cons_append, splitGo, if_neg (h c (by simp)), ih _ (fun z hz => h z (by simp [hz]))]
    simp

theorem split_join (b : UInt8) (ws : List (List UInt8)) (hne : ws ≠ []) (h : ∀ x ∈ ws, ∀ c ∈ x, c ≠ b) : splitL b (joinBy b ws) = ws := by
  unfold splitL
  induction ws with
  | nil => exact absurd rfl hne
  | cons x r ih =>
    by_cases hr : r = []
    · subst hr
      rw [show joinBy b [x] = x from rfl, split_none b x [] (h x (by simp))]
      simp
    · rw [joinBy_cons b x r hr, List.append_assoc, List.singleton_append, split_one b x _ [] (h x (by simp)), ih hr (fun y hy => h y (by simp [hy]))]
      simp

/-- The node of a word. -/
noncomputable def readN (s : List UInt8) : Nd :=
  if s = [] then (0, 0, [], [])
  else if s.head? = some 36 then (2, readV s.tail, [], [])
  else if s.head? = some 43 then (3, 0, [], [])
  else if s.head? = some 42 then (5, 0, [], [])
  else if s.head? = some 47 then (6, 0, [], [])
  else if s.head? = some 63 then (7, 0, [], [])
  else if s.head? = some 64 then
    (if (splitL 47 s.tail).length = 2 ∧ (splitL 46 ((splitL 47 s.tail).getD 0 [])).length = 2
     then (8, readV ((splitL 47 s.tail).getD 1 []), (splitL 46 ((splitL 47 s.tail).getD 0 [])).getD 0 [], (splitL 46 ((splitL 47 s.tail).getD 0 [])).getD 1 []) else (0, 0, [], []))
  else if s = [45] then (4, 0, [], [])
  else (1, readV s, [], [])

theorem name_letters {l : List UInt8} (h : nameB l = true) : (1 ≤ l.length ∧ l.length ≤ 8) ∧ ∀ c ∈ l, 97 ≤ c.toNat ∧ c.toNat ≤ 122 := by
  unfold nameB at h
  rw [Bool.and_eq_true, List.all_eq_true] at h
  exact ⟨of_decide_eq_true h.1, fun c hc => of_decide_eq_true (h.2 c hc)⟩

theorem intL_bytes (a : Int) (h0 : -2147483648 ≤ a) (h1 : a ≤ 2147483647) : ∀ c ∈ intL a, c.toNat = 45 ∨ (48 ≤ c.toNat ∧ c.toNat ≤ 57) := by
  intro c hc
  have hdig := digL_dig 9 a.natAbs (by omega)
  unfold intL at hc
  split at hc
  · rcases List.mem_cons.1 hc with rfl | hc
    · exact Or.inl rfl
    · exact Or.inr (hdig c hc)
  · exact Or.inr (hdig c hc)

theorem intL_ne (a : Int) : intL a ≠ [] ∧ intL a ≠ [45] := by
  have hne := digL_ne a.natAbs
  unfold intL
  split
  · refine ⟨by simp, fun e => hne (by injection e)⟩
  · refine ⟨hne, fun e => ?_⟩
    by_cases h : a.natAbs < 10
    · rw [digL_small h] at e
      injection e with e
      have := congrArg UInt8.toNat e
      rw [digit_nat] at this
      have h45 : (45 : UInt8).toNat = 45 := rfl
      omega
    · rw [digL_big (by omega)] at e
      have := congrArg List.length e
      have hp := List.length_pos_iff.2 (digL_ne (a.natAbs / 10))
      simp at this
      exact absurd this (digL_ne _)

theorem byte_ne {c d : UInt8} (h : c.toNat ≠ d.toNat) : c ≠ d := fun e => h (by rw [e])

/-- What is shown of a node is read as it. -/
theorem read_show (n : Nd) (h : nodeB n = true) : readN (showN n) = n := by
  obtain ⟨k, a, p, f⟩ := n
  have hp := nodeB_iff.1 h
  unfold nodeP at hp
  simp only at hp
  rcases hp with ⟨rfl, ⟨h0, h1⟩, rfl, rfl⟩ | ⟨rfl, ⟨h0, h1⟩, rfl, rfl⟩ | ⟨hk, rfl, rfl, rfl⟩ | ⟨rfl, ⟨h0, h1⟩, hpn, hfn⟩
  · have hs : showN (1, a, [], []) = intL a := by unfold showN; simp
    rw [hs]
    obtain ⟨e1, e2⟩ := intL_ne a
    have hb := intL_bytes a h0 h1
    have hr := (read_of_int a h0 h1).2
    obtain ⟨c, r, hcr⟩ : ∃ c r, intL a = c :: r := by
      cases hi : intL a with
      | nil => exact absurd hi e1
      | cons c r => exact ⟨c, r, rfl⟩
    have hc := hb c (by rw [hcr]; simp)
    have hh : (intL a).head? = some c := by rw [hcr]; rfl
    have hn : ∀ d : UInt8, d.toNat ≠ 45 → (d.toNat < 48 ∨ 57 < d.toNat) → ¬ (intL a).head? = some d := fun d hd1 hd2 e => by
      rw [hh] at e; injection e with e; subst e; omega
    unfold readN
    rw [if_neg e1, if_neg (hn 36 (by decide) (by decide)), if_neg (hn 43 (by decide) (by decide)), if_neg (hn 42 (by decide) (by decide)), if_neg (hn 47 (by decide) (by decide)), if_neg (hn 63 (by decide) (by decide)), if_neg (hn 64 (by decide) (by decide)), if_neg e2, hr]
  · have hs : showN (2, a, [], []) = 36 :: intL a := by unfold showN; simp
    rw [hs]
    have hr := (read_of_int a (by omega) (by omega)).2
    unfold readN
    rw [if_neg (by simp), if_pos (by rfl)]
    simp [hr]
  · rcases (show k = 3 ∨ k = 4 ∨ k = 5 ∨ k = 6 ∨ k = 7 by omega) with rfl | rfl | rfl | rfl | rfl <;> (unfold showN readN; simp)
  · have hs : showN (8, a, p, f) = 64 :: ((p ++ 46 :: f) ++ 47 :: intL a) := by unfold showN; simp
    rw [hs]
    have hr := (read_of_int a (by omega) (by omega)).2
    have hib := intL_bytes a (by omega) (by omega)
    obtain ⟨_, hpl⟩ := name_letters hpn
    obtain ⟨_, hfl⟩ := name_letters hfn
    have s1 : splitL 47 ((p ++ 46 :: f) ++ 47 :: intL a) = [p ++ 46 :: f, intL a] := by
      unfold splitL
      rw [split_one 47 _ _ [] (by
        intro c hc
        rcases List.mem_append.1 hc with hc | hc
        · exact byte_ne (by have := hpl c hc; have e : (47 : UInt8).toNat = 47 := rfl; omega)
        · rcases List.mem_cons.1 hc with rfl | hc
          · decide
          · exact byte_ne (by have := hfl c hc; have e : (47 : UInt8).toNat = 47 := rfl; omega)), split_none 47 (intL a) [] (by intro c hc; exact byte_ne (by have := hib c hc; have e : (47 : UInt8).toNat = 47 := rfl; omega))]
      simp
    have s2 : splitL 46 (p ++ 46 :: f) = [p, f] := by
      unfold splitL
      rw [split_one 46 p f [] (by intro c hc; exact byte_ne (by have := hpl c hc; have e : (46 : UInt8).toNat = 46 := rfl; omega)), split_none 46 f [] (by intro c hc; exact byte_ne (by have := hfl c hc; have e : (46 : UInt8).toNat = 46 := rfl; omega))]
      simp
    have e0 : (splitL 47 ((p ++ 46 :: f) ++ 47 :: intL a)).getD 0 [] = p ++ 46 :: f := by rw [s1]; rfl
    have e1 : (splitL 47 ((p ++ 46 :: f) ++ 47 :: intL a)).getD 1 [] = intL a := by rw [s1]; rfl
    unfold readN
    rw [if_neg (by simp), if_neg (by simp), if_neg (by simp), if_neg (by simp), if_neg (by simp), if_neg (by simp), if_pos (by rfl), List.tail_cons, e0, e1, s2, s1, if_pos ⟨rfl, rfl⟩, hr]
    rfl

/-- No word has a blank. -/
theorem show_noblank (n : Nd) (h : nodeB n = true) : ∀ c ∈ showN n, c ≠ 32 := by
  obtain ⟨k, a, p, f⟩ := n
  have hp := nodeB_iff.1 h
  unfold nodeP at hp
  simp only at hp
  intro c hc
  have e32 : (32 : UInt8).toNat = 32 := rfl
  rcases hp with ⟨rfl, ⟨h0, h1⟩, rfl, rfl⟩ | ⟨rfl, ⟨h0, h1⟩, rfl, rfl⟩ | ⟨hk, rfl, rfl, rfl⟩ | ⟨rfl, ⟨h0, h1⟩, hpn, hfn⟩
  · have hs : showN (1, a, [], []) = intL a := by unfold showN; simp
    rw [hs] at hc
    exact byte_ne (by have := intL_bytes a h0 h1 c hc; omega)
  · have hs : showN (2, a, [], []) = 36 :: intL a := by unfold showN; simp
    rw [hs] at hc
    rcases List.mem_cons.1 hc with rfl | hc
    · decide
    · exact byte_ne (by have := intL_bytes a (by omega) (by omega) c hc; omega)
  · rcases (show k = 3 ∨ k = 4 ∨ k = 5 ∨ k = 6 ∨ k = 7 by omega) with rfl | rfl | rfl | rfl | rfl <;> (unfold showN at hc; simp at hc; subst hc; decide)
  · have hs : showN (8, a, p, f) = 64 :: ((p ++ 46 :: f) ++ 47 :: intL a) := by unfold showN; simp
    rw [hs] at hc
    obtain ⟨_, hpl⟩ := name_letters hpn
    obtain ⟨_, hfl⟩ := name_letters hfn
    rcases List.mem_cons.1 hc with rfl | hc
    · decide
    · rcases List.mem_append.1 hc with hc | hc
      · rcases List.mem_append.1 hc with hc | hc
        · exact byte_ne (by have := hpl c hc; omega)
        · rcases List.mem_cons.1 hc with rfl | hc
          · decide
          · exact byte_ne (by have := hfl c hc; omega)
      · rcases List.mem_cons.1 hc with rfl | hc
        · decide
        · exact byte_ne (by have := intL_bytes a (by omega) (by omega) c hc; omega)

/-- A tree that ends has right nodes alone. -/
theorem endGo_nodes : ∀ (l : List Nd) (o d : Nat), endGo l o = some d → ∀ n ∈ l.take d, nodeB n = true
  | l, 0, d, h, n, hn => by rw [endGo_zero] at h; injection h with h; subst h; simp at hn
  | [], o + 1, d, h, n, hn => by rw [endGo_nil] at h; cases h
  | m :: r, o + 1, d, h, n, hn => by
    rw [endGo_cons] at h
    split at h
    · rename_i hm
      rw [Option.map_eq_some_iff] at h
      obtain ⟨e, he, rfl⟩ := h
      rw [List.take_succ_cons] at hn
      rcases List.mem_cons.1 hn with rfl | hn
      · exact hm
      · exact endGo_nodes r _ e he n hn
    · cases h

theorem tree_end {l : List Nd} (h : treeB l = true) : (1 ≤ l.length ∧ l.length ≤ 60) ∧ endGo l 1 = some l.length := by
  obtain ⟨h1, h2⟩ := of_decide_eq_true h
  refine ⟨h1, ?_⟩
  have e := endV_nat l 0
  rw [Int.natCast_zero] at e
  rw [e] at h2
  unfold endN at h2
  rw [if_pos (by omega), List.drop_zero] at h2
  cases hg : endGo l 1 with
  | none => rw [hg] at h2; simp at h2
  | some d => rw [hg] at h2; simp at h2; congr 1; omega

theorem tree_nodes {l : List Nd} (h : treeB l = true) : ∀ n ∈ l, nodeB n = true := by
  obtain ⟨_, h2⟩ := tree_end h
  intro n hn
  exact endGo_nodes l 1 l.length h2 n (by rw [List.take_length]; exact hn)

noncomputable def readT (s : List UInt8) : List Nd := (splitL 32 s).map readN
noncomputable def readOk (s : List UInt8) : Bool := decide (s.length ≤ 2000) && (treeB (readT s) && (showL (readT s) == s))
noncomputable def readTV (s : List UInt8) : List Nd := if readOk s = true then readT s else []

/-- What is shown of a tree is read as it. -/
theorem readT_show (l : List Nd) (h : treeB l = true) : readT (showL l) = l := by
  unfold readT showL
  have hn := tree_nodes h
  have hlen := (tree_end h).1
  rw [split_join 32 (l.map showN) (fun e => by have := congrArg List.length e; simp at this; rw [this] at hlen; simp at hlen) (by
    intro x hx
    obtain ⟨n, hm, rfl⟩ := List.mem_map.1 hx
    exact show_noblank n (hn n hm)), List.map_map]
  have : l.map (readN ∘ showN) = l.map id := List.map_congr_left (fun n hm => read_show n (hn n hm))
  rw [this, List.map_id]

end Go.Proofs.YtglhbcbilepomaaDoor

/-! Plain facts for chapter 6: parts are one behind the other. -/
namespace Go.Proofs.YtglhbcbilepomaaDoor
open Go.RowKit

/-- To close a and b is to close a, and then b. -/
theorem endGo_add : ∀ (l : List Nd) (a b : Nat), endGo l (a + b) = (endGo l a).bind (fun d => (endGo (l.drop d) b).map (d + ·))
  | l, 0, b => by
    rw [Nat.zero_add, endGo_zero]
    simp
  | [], a + 1, b => by
    rw [show a + 1 + b = (a + b) + 1 by omega, endGo_nil, endGo_nil]; rfl
  | n :: r, a + 1, b => by
    rw [show a + 1 + b = (a + b) + 1 by omega, endGo_cons, endGo_cons]
    split
    · rw [show a + b + kidsN n = (a + kidsN n) + b by omega, endGo_add r (a + kidsN n) b]
      cases endGo r (a + kidsN n) with
      | none => rfl
      | some d =>
        simp only [Option.bind_some, Option.map_some, List.drop_succ_cons, Option.map_map]
        congr 1
        funext x
        simp only [Function.comp]
        omega
    · rfl

/-- Where the parts begin. -/
def partsGo (l : List Nd) : Nat → Int → List Int
  | 0, _ => []
  | k + 1, next => next :: partsGo l k (endV l next)
def partsV (l : List Nd) (a : Int) : List Int := if endV l a < 0 then [] else partsGo l (kidsN (l.getD a.toNat (0, 0, [], []))) (a + 1)

theorem partsGo_len (l : List Nd) : ∀ k next, (partsGo l k next).length = k
  | 0, _ => rfl
  | k + 1, next => by rw [partsGo, List.length_cons, partsGo_len l k]

/-- k trees one behind the other, from a place on. -/
def chain (l : List Nd) : Nat → Int → Int
  | 0, next => next
  | k + 1, next => chain l k (endV l next)

theorem endN_some {l : List Nd} {k d : Nat} (h : endGo (l.drop k) 1 = some d) (hk : k < l.length) : endN l k = (k : Int) + d := by
  unfold endN; rw [if_pos hk, h]

theorem endGo_pos {l : List Nd} {o d : Nat} (h : endGo l (o + 1) = some d) : 1 ≤ d ∧ l ≠ [] := by
  cases l with
  | nil => rw [endGo_nil] at h; cases h
  | cons n r =>
    rw [endGo_cons] at h
    split at h
    · rw [Option.map_eq_some_iff] at h
      obtain ⟨e, _, rfl⟩ := h
      exact ⟨by omega, by simp⟩
    · cases h

theorem chain_end (l : List Nd) : ∀ (o k d : Nat), endGo (l.drop k) o = some d → k + d ≤ l.length → chain l o (k : Int) = ((k + d : Nat) : Int)
  | 0, k, d, h, _ => by
    rw [endGo_zero] at h
    injection h with h
    subst h
    rfl
  | o + 1, k, d, h, hle => by
    have h2 := endGo_add (l.drop k) 1 o
    rw [show 1 + o = o + 1 by omega, h] at h2
    cases he : endGo (l.drop k) 1 with
    | none => rw [he] at h2; simp at h2
    | some e =>
      rw [he] at h2
      simp only [Option.bind_some] at h2
      cases hf : endGo ((l.drop k).drop e) o with
      | none => rw [hf] at h2; simp at h2
      | some f =>
        rw [hf] at h2
        simp only [Option.map_some, Option.some.injEq] at h2
        have hk : k < l.length := by
          have := (endGo_pos he).2
          rcases Nat.lt_or_ge k l.length with hx | hx
          · exact hx
          · exact absurd (List.drop_eq_nil_of_le hx) this
        rw [chain, endV_nat, endN_some he hk]
        have := chain_end l o (k + e) f (by rw [List.drop_drop] at hf; exact hf) (by omega)
        rw [show ((k : Int) + (e : Int)) = ((k + e : Nat) : Int) by omega, this]
        congr 1
        omega

/-- A node that ends: its parts go from behind it to its end. -/
theorem end_parts {l : List Nd} {k : Nat} (h : 0 ≤ endV l (k : Int)) : k < l.length ∧ nodeB (l.getD k (0, 0, [], [])) = true ∧ chain l (kidsN (l.getD k (0, 0, [], []))) ((k : Int) + 1) = endV l (k : Int) ∧ (k : Int) < endV l (k : Int) ∧ endV l (k : Int) ≤ l.length := by
  rw [endV_nat] at h ⊢
  unfold endN at h
  by_cases hk : k < l.length
  · rw [if_pos hk] at h
    cases he : endGo (l.drop k) 1 with
    | none => rw [he] at h; simp at h
    | some d =>
      have hd : l.drop k = l[k] :: l.drop (k + 1) := List.drop_eq_getElem_cons hk
      have hg : l.getD k (0, 0, [], []) = l[k] := by simp [List.getD, hk]
      rw [hg]
      have hle := endGo_le _ _ _ he
      rw [List.length_drop] at hle
      have he2 := he
      rw [hd, show (1 : Nat) = 0 + 1 from rfl, endGo_cons] at he2
      split at he2
      · rename_i hn
        rw [Option.map_eq_some_iff] at he2
        obtain ⟨e, hee, rfl⟩ := he2
        have hc := chain_end l (kidsN l[k]) (k + 1) e (by rw [← hee]; congr 1; omega) (by omega)
        rw [endN_some he hk]
        refine ⟨hk, hn, ?_, by omega, by omega⟩
        rw [show ((k : Int) + 1) = ((k + 1 : Nat) : Int) by omega, hc]
        omega
      · cases he2
  · rw [if_neg hk] at h; omega

/-- What is cut out of a list from a node to its end is a tree, where it isn't too long. -/
theorem endGo_take : ∀ (l : List Nd) (o d : Nat), endGo l o = some d → endGo (l.take d) o = some d
  | l, 0, d, h => by rw [endGo_zero] at h ⊢; exact h
  | [], o + 1, d, h => by rw [endGo_nil] at h; cases h
  | n :: r, o + 1, d, h => by
    rw [endGo_cons] at h
    split at h
    · rename_i hn
      rw [Option.map_eq_some_iff] at h
      obtain ⟨e, he, rfl⟩ := h
      rw [List.take_succ_cons, endGo_cons, if_pos hn, endGo_take r _ e he]
      rfl
    · cases h

theorem cut_tree {l : List Nd} {k : Nat} (h : 0 ≤ endV l (k : Int)) (h60 : endV l (k : Int) - k ≤ 60) : treeB ((l.drop k).take (endV l (k : Int) - k).toNat) = true := by
  obtain ⟨hk, _, _, h1, h2⟩ := end_parts h
  rw [endV_nat] at h h60 h1 h2 ⊢
  unfold endN at h h60 h1 h2 ⊢
  rw [if_pos hk] at h h60 h1 h2 ⊢
  cases he : endGo (l.drop k) 1 with
  | none => rw [he] at h; simp at h
  | some d =>
    rw [he] at h60 h1 h2
    simp only at h60 h1 h2 ⊢
    rw [show ((k : Int) + (d : Int) - (k : Int)).toNat = d by omega]
    have ht := endGo_take _ _ _ he
    have hl : ((l.drop k).take d).length = d := by rw [List.length_take, List.length_drop]; omega
    refine decide_eq_true ⟨by omega, ?_⟩
    have e0 := endV_nat ((l.drop k).take d) 0
    rw [Int.natCast_zero] at e0
    rw [e0, hl]
    unfold endN
    rw [if_pos (by omega), List.drop_zero, ht]
    simp

end Go.Proofs.YtglhbcbilepomaaDoor

/-! Plain facts on lists of bytes for Turned. -/
namespace Go.Proofs.YtglhbcbilepomaaDoor

theorem ret_str2 {a b : ByteArray} (h : a = b) : Ending.returned (.string a) = .returned (.string b) := by rw [h]

theorem ba_ext {a b : ByteArray} (h : a.data.toList = b.data.toList) : a = b := by
  cases a; cases b; simp_all

theorem turned_cat (s : ByteArray) (a t : Int) (h0 : 0 ≤ a) (h1 : a < s.size) (h2 : 0 ≤ t) (h3 : t ≤ 255) :
    s.extract 0 a.toNat ++ ⟨#[UInt8.ofNat t.toNat]⟩ ++ s.extract (a + 1).toNat s.size = ⟨(turnedL s.data.toList a t).toArray⟩ := by
  have hl : s.data.toList.length = s.size := by simp
  rw [turnedL_yes _ _ _ h0 (by rw [hl]; exact h1) h2 h3]
  obtain ⟨k, rfl⟩ := Int.eq_ofNat_of_zero_le h0
  apply ba_ext
  have e : ((k : Int) + 1).toNat = k + 1 := by omega
  rw [e]
  simp only [ByteArray.data_append, ByteArray.data_extract, Array.toList_append, Array.toList_extract, Int.toNat_natCast, List.extract_eq_take_drop, List.drop_zero, Nat.sub_zero]
  rw [List.set_eq_take_append_cons_drop, if_pos (by rw [hl]; omega), List.take_of_length_le (l := List.drop (k + 1) s.data.toList) (by simp)]
  simp

end Go.Proofs.YtglhbcbilepomaaDoor

/-! Facts that every chapter leans on: rows that a call owns, lists of texts, the walk's own spellings. -/
namespace Go.Proofs.YtglhbcbilepomaaDoor
open Go.RowKit

def strV (ls : List (List UInt8)) : List Value := ls.map (fun l => Value.string ⟨l.toArray⟩)

theorem strV_snoc (o : List (List UInt8)) (t : List UInt8) : strV o ++ [.string ⟨t.toArray⟩] = strV (o ++ [t]) := by simp [strV]

theorem strV_len (o : List (List UInt8)) : (strV o).length = o.length := by simp [strV]

theorem strV_at (ls : List (List UInt8)) (j : Nat) (h : j < ls.length) : (strV ls)[j]? = some (.string ⟨ls[j].toArray⟩) := by
  simp [strV, List.getElem?_eq_getElem h]

theorem strV_take (ls : List (List UInt8)) (m : Nat) : (strV ls).take m = strV (ls.take m) := by simp [strV, List.map_take]

theorem info9 : (Tryd.prog.info? 9).map (fun i => (i.zero, i.size, i.bytes)) = some (some (.string ⟨#[]⟩), 1, 16) := by kernel_rfl

theorem own_str {w1 : World} {B : Nat} {v' : Value} {o : List (List UInt8)} {t : List UInt8} (hown' : w1.ownsRow B 9 1 v' (o.length + 1) (strV o ++ [.string ⟨t.toArray⟩])) :
    w1.ownsRow B 9 1 v' (o ++ [t]).length (strV (o ++ [t])) := by
  rw [← strV_snoc, List.length_append, List.length_singleton]
  exact hown'

theorem own_shape {w : World} {base e size n : Nat} {v : Value} {xs : List Value} (h : w.ownsRow base e size v n xs) (hv : v ≠ .slice none 0 0) : ∃ g cp, v = .slice (some ⟨g, 0, none⟩) n cp := by
  obtain ⟨_, ⟨e, _⟩ | ⟨g, cap, cur, rfl, _⟩⟩ := h
  · exact absurd e hv
  · exact ⟨g, cap, rfl⟩

theorem own_none {w w' : World} {base e size n : Nat} {v : Value} {xs : List Value} (h : w.ownsRow base e size v n xs) (hg : w.grownBy w' none) : w'.ownsRow base e size v n xs := by
  refine h.kept hg ?_
  rcases hv : v.ownBlock with _ | g
  · exact Or.inl rfl
  · exact Or.inr (by simp)

theorem own_below {w w' : World} {base e size n : Nat} {v : Value} {xs : List Value} (h : w.ownsRow base e size v n xs) (hb : Below w.heap.size w w') : w'.ownsRow base e size v n xs :=
  own_none h ⟨hb.os, hb.tape, hb.output, hb.size, fun k hk _ => hb.block k hk⟩

/-- A row below block B stays as it is where a row from B on is written. -/
theorem own_apart {w w' : World} {b1 B e1 s1 n1 e2 s2 n2 : Nat} {v1 v2 : Value} {xs ys : List Value} (h1 : w.ownsRow b1 e1 s1 v1 n1 xs) (hlt : ∀ k, v1.ownBlock = some k → k < B) (h2 : w.ownsRow B e2 s2 v2 n2 ys) (hg : w.grownBy w' v2.ownBlock) : w'.ownsRow b1 e1 s1 v1 n1 xs := by
  refine h1.kept hg ?_
  rcases hv : v1.ownBlock with _ | g
  · exact Or.inl rfl
  · refine Or.inr fun e => ?_
    have a := hlt g hv
    have b := (h2.lt g e.symm).1
    omega

theorem own_other {w w' : World} {B base e size n : Nat} {v : Value} {xs : List Value} (h : w.ownsRow base e size v n xs) (hB : B < base) (hg : w.grownBy w' (some B)) : w'.ownsRow base e size v n xs := by
  refine h.kept hg ?_
  rcases hv : v.ownBlock with _ | g
  · exact Or.inl rfl
  · refine Or.inr fun e => ?_
    have := (h.lt g hv).1
    injection e with e
    omega

theorem own_forms {w : World} {base e size n : Nat} {v : Value} {xs : List Value} (h : w.ownsRow base e size v n xs) : (v = .slice none 0 0 ∧ n = 0 ∧ xs = []) ∨ ∃ g cp, v = .slice (some ⟨g, 0, none⟩) n cp := by
  have h0 := h.1
  obtain ⟨_, ⟨e, hn⟩ | ⟨g, cap, cur, rfl, _⟩⟩ := h
  · refine Or.inl ⟨e, hn, List.eq_nil_of_length_eq_zero ?_⟩
    rw [h0, hn, Nat.zero_mul]
  · exact Or.inr ⟨g, cap, rfl⟩

theorem own_cap {w : World} {base e g n cp : Nat} {xs : List Value} (h : w.ownsRow base e 1 (.slice (some ⟨g, 0, none⟩) n cp) n xs) : n ≤ cp ∧ cp ≤ maxLen := by
  rcases h.2 with ⟨h', _⟩ | ⟨g', cap', cur, h', hb, hg, hnc, hcm, hcs, htake⟩
  · simp at h'
  · simp only [Value.slice.injEq, Option.some.injEq, Addr.mk.injEq, and_true, true_and] at h'
    obtain ⟨rfl, rfl⟩ := h'
    exact ⟨hnc, hcm⟩

theorem own_some {w : World} {base e size n : Nat} {v : Value} {xs : List Value} (h : w.ownsRow base e size v n xs) (hn : n ≠ 0) : ∃ g cp, v = .slice (some ⟨g, 0, none⟩) n cp := by
  rcases own_forms h with ⟨_, h0, _⟩ | h1
  · exact absurd h0 hn
  · exact h1

/-- A row cut at its end. -/
theorem own_take {w : World} {base e g n cp : Nat} {xs : List Value} (h : w.ownsRow base e 1 (.slice (some ⟨g, 0, none⟩) n cp) n xs) (m : Nat) (hm : m ≤ n) : w.ownsRow base e 1 (.slice (some ⟨g, 0, none⟩) m cp) m (xs.take m) := by
  have h0 := h.1
  rcases h.2 with ⟨h', _⟩ | ⟨g', cap', cur, h', hb, hg, hnc, hcm, hcs, htake⟩
  · simp at h'
  · simp only [Value.slice.injEq, Option.some.injEq, Addr.mk.injEq, and_true, true_and] at h'
    obtain ⟨rfl, rfl⟩ := h'
    refine ⟨by rw [List.length_take]; omega, .inr ⟨g, cp, cur, rfl, hb, hg, by omega, hcm, hcs, ?_⟩⟩
    rw [← htake, List.take_take]
    congr 1
    omega

/-- A row of texts, as a walk reads it. -/
theorem str_cells {w : World} {base g cp : Nat} {ls : List (List UInt8)} (h : w.ownsRow base 9 1 (.slice (some ⟨g, 0, none⟩) ls.length cp) ls.length (strV ls)) (j : Nat) (hj : j < ls.length) :
    w.cell? ⟨g, j, none⟩ = some (.string ⟨ls[j].toArray⟩) := by
  rw [h.cellAt j (by omega), strV_at ls j hj]

theorem str_cellsD {w : World} {base g cp n : Nat} {ls : List (List UInt8)} (h : w.ownsRow base 9 1 (.slice (some ⟨g, 0, none⟩) n cp) n (strV ls)) (hn : ls.length = n) (j : Nat) (hj : j < n) :
    w.cell? ⟨g, j, none⟩ = some (.string ⟨(ls.getD j []).toArray⟩) := by
  rw [h.cellAt j (by omega), strV_at ls j (by omega), List.getD_eq_getElem?_getD, List.getElem?_eq_getElem (by omega)]; rfl

theorem cat_list (a b : List UInt8) : (⟨a.toArray⟩ ++ ⟨b.toArray⟩ : ByteArray) = ⟨(a ++ b).toArray⟩ := ba_ext (by simp)

theorem ext_list (l : List UInt8) (i j : Nat) : (⟨l.toArray⟩ : ByteArray).extract i j = ⟨((l.drop i).take (j - i)).toArray⟩ := by
  apply ba_ext
  rw [ByteArray.data_extract, Array.toList_extract, List.extract_eq_take_drop]

theorem ret_sib {a b : List UInt8} {m n : Int} {c d : Bool} (h : a = b) (k : m = n) (j : c = d) : Ending.returned (.tuple #[.string ⟨a.toArray⟩, .int .i64 m, .bool c]) = .returned (.tuple #[.string ⟨b.toArray⟩, .int .i64 n, .bool d]) := by rw [h, k, j]

theorem ret_sb {a b : List UInt8} {c d : Bool} (h : a = b) (j : c = d) : Ending.returned (.tuple #[.string ⟨a.toArray⟩, .bool c]) = .returned (.tuple #[.string ⟨b.toArray⟩, .bool d]) := by rw [h, j]

theorem ret_strl {a b : List UInt8} (h : a = b) : Ending.returned (.string ⟨a.toArray⟩) = .returned (.string ⟨b.toArray⟩) := by rw [h]

theorem Below.by {w w' : World} (h : Below w.heap.size w w') : w.grownBy w' none := ⟨h.os, h.tape, h.output, h.size, fun k hk _ => h.block k hk⟩

theorem own_base {w : World} {base b2 e size n : Nat} {v : Value} {xs : List Value} (h : w.ownsRow base e size v n xs) (hb : b2 ≤ base) : w.ownsRow b2 e size v n xs := by
  refine ⟨h.1, ?_⟩
  rcases h.2 with h' | ⟨g, cap, cur, hv, hg, r⟩
  · exact Or.inl h'
  · exact Or.inr ⟨g, cap, cur, hv, Nat.le_trans hb hg, r⟩

theorem grown_set (w : World) (B o : Nat) (v : Value) : w.grownBy (w.setCell ⟨B, o, none⟩ v) (some B) :=
  ⟨rfl, rfl, rfl, by simp, fun k _ hne => Below.heap_setCell w _ v k (fun e => hne (by rw [e]))⟩

/-- The values news lie at x, in m elements: what 'append' reads, whosever it is. -/
def Src (w : World) (x : Value) (m size : Nat) (news : List Value) : Prop :=
  news.length = m * size ∧ (∀ u ∈ news, u.oneCell' = true) ∧ ((x = .slice none 0 0 ∧ m = 0) ∨ ∃ ad c, x = .slice (some ad) m c ∧ ∀ j u, news[j]? = some u → w.cell? (ad.add j) = some u)

theorem run_append_src {P : Program} (w : World) (base : Nat) (t ty e : TypeId) (i : TypeInfo) (z : Value) (size bytes : Nat) (ht : P.underlying t = some (.slice e)) (hi : P.info? e = some i) (hz : i.zero = some z)
    (hsize : i.size = size) (hby : i.bytes = bytes) (hzs : z.cells.size = size) (hsz : 0 < size)
    (v : Value) (n : Nat) (xs : List Value) (hown : w.ownsRow base e size v n xs) (x : Value) (m : Nat) (news : List Value) (hsrc : Src w x m size news)
    (h63 : n + m ≤ maxLen) (hbytes : (n + m) * bytes ≤ 140737488355328) (hbase : base ≤ w.heap.size) :
    ∃ v' w', (Builtin.append_ #[t, t] ty #[v, x]).run P w = .ok v' w' ∧ w'.ownsRow base e size v' (n + m) (xs ++ news) ∧ w.grownBy w' v.ownBlock ∧ (v' = .slice none 0 0 → v = .slice none 0 0) := by
  obtain ⟨hl, h1, ⟨rfl, rfl⟩ | ⟨ad, c, rfl, hc⟩⟩ := hsrc
  · have hn : news = [] := List.eq_nil_of_length_eq_zero (by omega)
    subst hn
    exact ⟨v, w, run_append_owned_none (P := P) (w := w) base t ty e i size ht hi v n xs hown, by simpa using hown, World.grownBy.refl w _, fun h => h⟩
  · obtain ⟨v', w', hr, h2, h3, h4⟩ := run_append_own (P := P) w base t ty e i z size bytes ht hi hz hsize hby hzs hsz v n xs hown ad m c news hl hc h1 h63 hbytes hbase
    exact ⟨v', w', hr, h2, h3, fun h => (h4.1 h).1⟩

/-- 'append' at a step of a region that draws. -/
theorem step_append_run {P : Program} {w w' : World} {ops : Array Oper} {o : Oper} {a : Act} {K : Act → World → Prop} {Q : Exit → Act → World → Prop} {E : Prop} (hgd : o.guard = none) (s x : Operand) (t : TypeId)
    (ho : o.op = .call { callee := .builtin .append, args := #[s, x], argTypes := #[t, t] }) (v u v' : Value) (hs : a.eval s = v) (hx : a.eval x = u)
    (hrun : (Builtin.append_ #[t, t] o.type #[v, u]).run P w = .ok v' w') (h : K (a.put o.dst v') w') :
    if Region.wanted o (yielded ops a.tmps) = true then Oper.wp P o a w K Q else E := by
  have hw : Region.wanted o (yielded ops a.tmps) = true := by simp [Region.wanted, hgd]
  rw [if_pos hw]
  unfold Oper.wp
  simp [execOp, ho, resolve, invoke, builtin, hs, hx, hrun, Result.andThen]
  exact h

/-- 'append' in a plain region. -/
theorem wpList_append_run {P : Program} {w w' : World} {ops : Array Oper} {rest : List Oper} {o : Oper} {a : Act} {Q : Exit → Act → World → Prop} (hgd : o.guard = none) (s x : Operand) (t : TypeId)
    (ho : o.op = .call { callee := .builtin .append, args := #[s, x], argTypes := #[t, t] }) (v u v' : Value) (hs : a.eval s = v) (hx : a.eval x = u)
    (hrun : (Builtin.append_ #[t, t] o.type #[v, u]).run P w = .ok v' w') (h : wpList P ops Q rest (a.put o.dst v') w') : wpList P ops Q (o :: rest) a w := by
  refine wpList_plain hgd fun K hK => ?_
  unfold Oper.wp
  simp [execOp, ho, resolve, invoke, builtin, hs, hx, hrun, Result.andThen]
  exact hK _ _ h

end Go.Proofs.YtglhbcbilepomaaDoor

/-! The contracts of spec.HexOf and impl.HexOf. -/
namespace Go.Proofs.YtglhbcbilepomaaDoor
open Go.RowKit

theorem back8 (b0 b1 b2 b3 b4 b5 b6 b7 : UInt8) (w : World) :
    (convert 71 9 (.slice (some ⟨w.heap.size, 0, none⟩) 8 8)).run Tryd.prog (w.alloc (.cells #[.int .u8 b0.toNat, .int .u8 b1.toNat, .int .u8 b2.toNat, .int .u8 b3.toNat, .int .u8 b4.toNat, .int .u8 b5.toNat, .int .u8 b6.toNat, .int .u8 b7.toNat] 5)) =
      .ok (.string ⟨#[b0, b1, b2, b3, b4, b5, b6, b7]⟩) (w.alloc (.cells #[.int .u8 b0.toNat, .int .u8 b1.toNat, .int .u8 b2.toNat, .int .u8 b3.toNat, .int .u8 b4.toNat, .int .u8 b5.toNat, .int .u8 b6.toNat, .int .u8 b7.toNat] 5)) := by
  have h := run_convert_bytes_back (P := Tryd.prog) (w.alloc (.cells #[.int .u8 b0.toNat, .int .u8 b1.toNat, .int .u8 b2.toNat, .int .u8 b3.toNat, .int .u8 b4.toNat, .int .u8 b5.toNat, .int .u8 b6.toNat, .int .u8 b7.toNat] 5)) 71 9 5 ⟨w.heap.size, 0, none⟩ 8 [b0, b1, b2, b3, b4, b5, b6, b7] Tryd.underlying71 Tryd.underlying5 Tryd.underlying9 (by
    intro j hj
    have hj' : j < 8 := by simpa using hj
    match j, hj' with
    | 0, _ => simp [Addr.add, go_sem]
    | 1, _ => simp [Addr.add, go_sem]
    | 2, _ => simp [Addr.add, go_sem]
    | 3, _ => simp [Addr.add, go_sem]
    | 4, _ => simp [Addr.add, go_sem]
    | 5, _ => simp [Addr.add, go_sem]
    | 6, _ => simp [Addr.add, go_sem]
    | 7, _ => simp [Addr.add, go_sem])
  exact h

set_option maxHeartbeats 400000 in
set_option maxRecDepth 100000 in
theorem specL1Hex (n : Int) (w : World) (h0 : 0 ≤ n) (h1 : n ≤ 4294967295) :
    Calls Tryd.prog 52 #[.int .i64 n] w fun e w' => e = .returned (.string ⟨(hexL n.toNat).toArray⟩) ∧ Below w.heap.size w w' := by
  have hmk : ∀ w, (Instr.makeSlice 71 (.int .i64 8) (.int .i64 8)).run Tryd.prog w = .ok (.slice (some ⟨w.heap.size, 0, none⟩) 8 8) (w.alloc (.cells #[.int .u8 0, .int .u8 0, .int .u8 0, .int .u8 0, .int .u8 0, .int .u8 0, .int .u8 0, .int .u8 0] 5)) := fun _ => by kernel_rfl
  have hD : ∀ (m : Int) (h : m.toNat < (ByteArray.mk #[48, 49, 50, 51, 52, 53, 54, 55, 56, 57, 97, 98, 99, 100, 101, 102]).size), (ByteArray.mk #[48, 49, 50, 51, 52, 53, 54, 55, 56, 57, 97, 98, 99, 100, 101, 102])[m.toNat] = hexD m.toNat := hexD_at
  have hback := back8
  go_enter Tryd.func52, Tryd.ntmps52
  go_wp2
  go_rounds 9
  go_ret
  exact ⟨ret_str (hexW n h0), (Below.refl _ _).alloc (Nat.le_refl _) _⟩

set_option maxHeartbeats 400000 in
set_option maxRecDepth 100000 in
theorem implHexSign (n : Int) (p : Nat) (w : World) (h0 : 0 ≤ n) (h1 : n ≤ 4294967295) (hp : p < 8) :
    Calls Tryd.prog 69 #[.int .i64 n, .int .i64 p] w fun e w' => e = .returned (.int .u8 (hexD (n.toNat / 16 ^ p % 16)).toNat) ∧ w' = w := by
  have hD : ∀ (m : Int) (h : m.toNat < (ByteArray.mk #[48, 49, 50, 51, 52, 53, 54, 55, 56, 57, 97, 98, 99, 100, 101, 102]).size), (ByteArray.mk #[48, 49, 50, 51, 52, 53, 54, 55, 56, 57, 97, 98, 99, 100, 101, 102])[m.toNat] = hexD m.toNat := hexD_at
  have hA := and15
  match p, hp with
  | 0, _ | 1, _ | 2, _ | 3, _ | 4, _ | 5, _ | 6, _ | 7, _ =>
    go_enter Tryd.func69, Tryd.ntmps69
    go_wp2
    go_ret
    refine ⟨ret_int (congrArg (fun k : Nat => (((hexD k).toNat : Nat) : Int)) ?_), rfl⟩
    omega

theorem implHexSignI (n p : Int) (w : World) (h0 : 0 ≤ n) (h1 : n ≤ 4294967295) (hp0 : 0 ≤ p) (hp : p < 8) :
    Calls Tryd.prog 69 #[.int .i64 n, .int .i64 p] w fun e w' => e = .returned (.int .u8 (hexD (n.toNat / 16 ^ p.toNat % 16)).toNat) ∧ w' = w := by
  obtain ⟨k, rfl⟩ := Int.eq_ofNat_of_zero_le hp0
  exact implHexSign n k w h0 h1 (by omega)

set_option maxHeartbeats 1000000 in
set_option maxRecDepth 100000 in
theorem implHighest (n : Int) (w : World) (h0 : 0 ≤ n) (h1 : n ≤ 4294967295) :
    Calls Tryd.prog 68 #[.int .i64 8, .func (.func 69) #[.int .i64 n] #[]] w fun e w' => e = .returned (.string ⟨(hexL n.toNat).toArray⟩) ∧ Below w.heap.size w w' := by
  have hmk : ∀ w, (Instr.makeSlice 71 (.int .i64 8) (.int .i64 8)).run Tryd.prog w = .ok (.slice (some ⟨w.heap.size, 0, none⟩) 8 8) (w.alloc (.cells #[.int .u8 0, .int .u8 0, .int .u8 0, .int .u8 0, .int .u8 0, .int .u8 0, .int .u8 0, .int .u8 0] 5)) := fun _ => by kernel_rfl
  have hback := back8
  go_enter Tryd.func68, Tryd.ntmps68
  go_wp2
  refine wp_loop_rounds 9 ?_
  repeat (rw [rounds_succ]; go_wp2_with (go_at_call 69; refine (implHexSignI _ _ _ h0 h1 (by omega) (by omega)).mono ?_; rintro e w' ⟨rfl, rfl⟩))
  go_ret
  refine ⟨ret_str ?_, (Below.refl _ _).alloc (Nat.le_refl _) _⟩
  rfl

set_option maxHeartbeats 400000 in
set_option maxRecDepth 100000 in
theorem specIn (x lo hi : Int) (w : World) :
    Calls Tryd.prog 24 #[.int .i64 x, .int .i64 lo, .int .i64 hi] w fun e w' => e = .returned (.bool (inB x lo hi)) ∧ w' = w := by
  by_cases h1 : lo ≤ x
  · by_cases h2 : x ≤ hi
    · have hB : Hid (inB x lo hi = true) := inB_yes x lo hi h1 h2
      go_enter Tryd.func24, Tryd.ntmps24
      go_wp2
      go_ret
      exact ⟨by rw [hB.out]; rfl, rfl⟩
    · have hB : Hid (inB x lo hi = false) := inB_no x lo hi (Or.inr (by omega))
      go_enter Tryd.func24, Tryd.ntmps24
      go_wp2
      go_ret
      exact ⟨by rw [hB.out]; rfl, rfl⟩
  · have hB : Hid (inB x lo hi = false) := inB_no x lo hi (Or.inl (by omega))
    go_enter Tryd.func24, Tryd.ntmps24
    go_wp2
    go_ret
    exact ⟨by rw [hB.out]; rfl, rfl⟩


set_option maxHeartbeats 400000 in
set_option maxRecDepth 100000 in
theorem implHexOf (n : Int) (w : World) :
    Calls Tryd.prog 60 #[.int .i64 n] w fun e w' => e = .returned (.string ⟨(hexS n).toArray⟩) ∧ Below w.heap.size w w' := by
  have hmf : ∀ (fn : Fn) (first cap : Array Value) (w : World), (Instr.makeFunc fn first cap).run Tryd.prog w = .ok (.func fn first cap) w := fun _ _ _ _ => rfl
  rcases (show n < 0 ∨ 4294967295 < n ∨ (0 ≤ n ∧ n ≤ 4294967295) by omega) with h | h | ⟨h0, h1⟩
  · have hS : Hid (hexS n = []) := hexS_no n (Or.inl h)
    go_enter Tryd.func60, Tryd.ntmps60
    go_wp2
    go_ret
    exact ⟨ret_str (by rw [hS.out]), Below.refl _ _⟩
  · have hS : Hid (hexS n = []) := hexS_no n (Or.inr h)
    go_enter Tryd.func60, Tryd.ntmps60
    go_wp2
    go_ret
    exact ⟨ret_str (by rw [hS.out]), Below.refl _ _⟩
  · have hS : Hid (hexS n = hexL n.toNat) := hexS_yes n h0 h1
    go_enter Tryd.func60, Tryd.ntmps60
    go_wp2_with (go_at_call 68; refine (implHighest _ _ h0 h1).mono ?_; rintro e w' ⟨rfl, hb⟩)
    go_ret
    exact ⟨ret_str (by rw [hS.out]), by assumption⟩

end Go.Proofs.YtglhbcbilepomaaDoor

/-! The contracts of chapter 4's specification: WordOk, Wrap, Done. -/
namespace Go.Proofs.YtglhbcbilepomaaDoor
open Go.RowKit



theorem ret_ib {m n : Int} {c d : Bool} (h : m = n) (j : c = d) : Ending.returned (.tuple #[.int .i64 m, .bool c]) = .returned (.tuple #[.int .i64 n, .bool d]) := by rw [h, j]



end Go.Proofs.YtglhbcbilepomaaDoor

/-! The contracts of chapter 5's specification: pieces, Lines, Words, NameOk. -/
namespace Go.Proofs.YtglhbcbilepomaaDoor
open Go.RowKit


end Go.Proofs.YtglhbcbilepomaaDoor
