/-
  Plain facts for chapter 6: what is shown is read.
-/
import Derived.Test.YtjkfjenhocaljaaDoorMath6
namespace Go.Proofs.YtjkfjenhocaljaaDoor
open Go.RowKit

theorem digit_dig (n : Nat) : isDig (digit n) := by unfold isDig; rw [digit_nat]; omega

theorem digL_dig : ∀ (k n : Nat), n < 10 ^ (k + 1) → ∀ c ∈ digL n, isDig c
  | 0, n, h, c, hc => by
    rw [digL_small (by simpa using h)] at hc
    simp at hc; subst hc; exact digit_dig n
  | k + 1, n, h, c, hc => by
    by_cases hn : n < 10
    · rw [digL_small hn] at hc; simp at hc; subst hc; exact digit_dig n
    · rw [digL_big (by omega)] at hc
      rcases List.mem_append.1 hc with hc | hc
      · exact digL_dig k (n / 10) (by rw [Nat.pow_succ] at h; omega) c hc
      · simp at hc; subst hc; exact digit_dig n

theorem valL_digL : ∀ (k n : Nat), n < 10 ^ (k + 1) → valL (digL n) = n
  | 0, n, h => by
    have h10 : n < 10 := by simpa using h
    rw [digL_small h10]
    have : valL [digit n] = (digit n).toNat - 48 := by simp [valL]
    rw [this, digit_nat]; omega
  | k + 1, n, h => by
    by_cases hn : n < 10
    · rw [digL_small hn]
      have : valL [digit n] = (digit n).toNat - 48 := by simp [valL]
      rw [this, digit_nat]; omega
    · rw [digL_big (by omega), valL_snoc, valL_digL k (n / 10) (by rw [Nat.pow_succ] at h; omega), digit_nat]; omega

theorem digL_head : ∀ (k n : Nat), n < 10 ^ (k + 1) → (digL n).head? = some 48 → n = 0
  | 0, n, h, hh => by
    have h10 : n < 10 := by simpa using h
    rw [digL_small h10] at hh
    simp at hh
    have := congrArg UInt8.toNat hh
    rw [digit_nat] at this
    have h48 : (48 : UInt8).toNat = 48 := rfl
    omega
  | k + 1, n, h, hh => by
    by_cases hn : n < 10
    · rw [digL_small hn] at hh
      simp at hh
      have := congrArg UInt8.toNat hh
      rw [digit_nat] at this
      have h48 : (48 : UInt8).toNat = 48 := rfl
      omega
    · rw [digL_big (by omega)] at hh
      have hne := digL_ne (n / 10)
      rw [List.head?_append] at hh
      cases hd : (digL (n / 10)).head? with
      | none => rw [List.head?_eq_none_iff] at hd; exact absurd hd hne
      | some x =>
        rw [hd] at hh
        have := digL_head k (n / 10) (by rw [Nat.pow_succ] at h; omega) (by rw [hd]; exact hh)
        omega

/-- A word that is written is read. -/
theorem read_of_int (a : Int) (h0 : -2147483648 ≤ a) (h1 : a ≤ 2147483647) : readB (intL a) = true ∧ readV (intL a) = a := by
  have hlt : a.natAbs < 10 ^ (9 + 1) := by omega
  have hdig := digL_dig 9 a.natAbs hlt
  have hval := valL_digL 9 a.natAbs hlt
  have hlen := digL_len 9 a.natAbs hlt
  have hne := digL_ne a.natAbs
  have hpos := List.length_pos_iff.2 hne
  have hhead := digL_head 9 a.natAbs hlt
  by_cases hn : a < 0
  · have e : intL a = 45 :: digL a.natAbs := by unfold intL; rw [if_pos hn]
    rw [e]
    have hneg : negB (45 :: digL a.natAbs) = true := rfl
    have hbody : bodyL (45 :: digL a.natAbs) = digL a.natAbs := by unfold bodyL; rw [if_pos hneg]; rfl
    have hf : formP (45 :: digL a.natAbs) := ⟨by rw [hbody]; omega, by rw [hbody]; exact hdig, by rw [hbody]; intro hx; have := hhead hx.1; omega⟩
    have hb := readB_yes hf
    refine ⟨hb, ?_⟩
    unfold readV
    rw [if_pos hb, if_pos hneg, hbody, hval]
    omega
  · have e : intL a = digL a.natAbs := by unfold intL; rw [if_neg hn]
    rw [e]
    have hneg : negB (digL a.natAbs) = false := by
      unfold negB
      rw [beq_eq_false_iff_ne]
      intro hx
      have hm : (45 : UInt8) ∈ digL a.natAbs := List.mem_of_mem_head? (by rw [hx]; rfl)
      have := hdig 45 hm
      unfold isDig at this
      have h45 : (45 : UInt8).toNat = 45 := rfl
      omega
    have hbody : bodyL (digL a.natAbs) = digL a.natAbs := by unfold bodyL; rw [if_neg (by rw [hneg]; simp)]
    have hf : formP (digL a.natAbs) := ⟨by rw [hbody]; omega, by rw [hbody]; exact hdig, by
      rw [hbody]; intro hx
      have h00 := hhead hx.1
      rw [h00, digL_small (by omega)] at hx
      simp at hx⟩
    have hb := readB_yes hf
    refine ⟨hb, ?_⟩
    unfold readV
    rw [if_pos hb, if_neg (by rw [hneg]; simp), hbody, hval]
    omega

/-- Pieces of what holds no such byte. -/
theorem split_none (b : UInt8) (l : List UInt8) : ∀ cur, (∀ c ∈ l, c ≠ b) → splitGo b cur l = [cur ++ l] := by
  induction l with
  | nil => intro cur _; simp [splitGo]
  | cons c r ih =>
    intro cur h
    rw [splitGo, if_neg (h c (by simp)), ih _ (fun x hx => h x (by simp [hx]))]
    simp

theorem split_one (b : UInt8) (x y : List UInt8) : ∀ cur, (∀ c ∈ x, c ≠ b) → splitGo b cur (x ++ b :: y) = (cur ++ x) :: splitGo b [] y := by
  induction x with
  | nil => intro cur _; simp [splitGo]
  | cons c r ih =>
    intro cur h
    rw [List.cons_append, splitGo, if_neg (h c (by simp)), ih _ (fun z hz => h z (by simp [hz]))]
    simp

theorem split_join (b : UInt8) (ws : List (List UInt8)) (hne : ws ≠ []) (h : ∀ x ∈ ws, ∀ c ∈ x, c ≠ b) : splitL b (joinBy b ws) = ws := by
  unfold splitL
  induction ws with
  | nil => exact absurd rfl hne
  | cons x r ih =>
    by_cases hr : r = []
    · subst hr
      rw [show joinBy b [x] = x from rfl, split_none b x [] (h x (by simp))]
      simp
    · rw [joinBy_cons b x r hr, List.append_assoc, List.singleton_append, split_one b x _ [] (h x (by simp)), ih hr (fun y hy => h y (by simp [hy]))]
      simp

/-- The node of a word. -/
noncomputable def readN (s : List UInt8) : Nd :=
  if s = [] then (0, 0, [], [])
  else if s.head? = some 36 then (2, readV s.tail, [], [])
  else if s.head? = some 43 then (3, 0, [], [])
  else if s.head? = some 42 then (5, 0, [], [])
  else if s.head? = some 47 then (6, 0, [], [])
  else if s.head? = some 63 then (7, 0, [], [])
  else if s.head? = some 64 then
    (if (splitL 47 s.tail).length = 2 ∧ (splitL 46 ((splitL 47 s.tail).getD 0 [])).length = 2
     then (8, readV ((splitL 47 s.tail).getD 1 []), (splitL 46 ((splitL 47 s.tail).getD 0 [])).getD 0 [], (splitL 46 ((splitL 47 s.tail).getD 0 [])).getD 1 []) else (0, 0, [], []))
  else if s = [45] then (4, 0, [], [])
  else (1, readV s, [], [])

theorem name_letters {l : List UInt8} (h : nameB l = true) : (1 ≤ l.length ∧ l.length ≤ 8) ∧ ∀ c ∈ l, 97 ≤ c.toNat ∧ c.toNat ≤ 122 := by
  unfold nameB at h
  rw [Bool.and_eq_true, List.all_eq_true] at h
  exact ⟨of_decide_eq_true h.1, fun c hc => of_decide_eq_true (h.2 c hc)⟩

theorem intL_bytes (a : Int) (h0 : -2147483648 ≤ a) (h1 : a ≤ 2147483647) : ∀ c ∈ intL a, c.toNat = 45 ∨ (48 ≤ c.toNat ∧ c.toNat ≤ 57) := by
  intro c hc
  have hdig := digL_dig 9 a.natAbs (by omega)
  unfold intL at hc
  split at hc
  · rcases List.mem_cons.1 hc with rfl | hc
    · exact Or.inl rfl
    · exact Or.inr (hdig c hc)
  · exact Or.inr (hdig c hc)

theorem intL_ne (a : Int) : intL a ≠ [] ∧ intL a ≠ [45] := by
  have hne := digL_ne a.natAbs
  unfold intL
  split
  · refine ⟨by simp, fun e => hne (by injection e)⟩
  · refine ⟨hne, fun e => ?_⟩
    by_cases h : a.natAbs < 10
    · rw [digL_small h] at e
      injection e with e
      have := congrArg UInt8.toNat e
      rw [digit_nat] at this
      have h45 : (45 : UInt8).toNat = 45 := rfl
      omega
    · rw [digL_big (by omega)] at e
      have := congrArg List.length e
      have hp := List.length_pos_iff.2 (digL_ne (a.natAbs / 10))
      simp at this
      exact absurd this (digL_ne _)

theorem byte_ne {c d : UInt8} (h : c.toNat ≠ d.toNat) : c ≠ d := fun e => h (by rw [e])

/-- What is shown of a node is read as it. -/
theorem read_show (n : Nd) (h : nodeB n = true) : readN (showN n) = n := by
  obtain ⟨k, a, p, f⟩ := n
  have hp := nodeB_iff.1 h
  unfold nodeP at hp
  simp only at hp
  rcases hp with ⟨rfl, ⟨h0, h1⟩, rfl, rfl⟩ | ⟨rfl, ⟨h0, h1⟩, rfl, rfl⟩ | ⟨hk, rfl, rfl, rfl⟩ | ⟨rfl, ⟨h0, h1⟩, hpn, hfn⟩
  · have hs : showN (1, a, [], []) = intL a := by unfold showN; simp
    rw [hs]
    obtain ⟨e1, e2⟩ := intL_ne a
    have hb := intL_bytes a h0 h1
    have hr := (read_of_int a h0 h1).2
    obtain ⟨c, r, hcr⟩ : ∃ c r, intL a = c :: r := by
      cases hi : intL a with
      | nil => exact absurd hi e1
      | cons c r => exact ⟨c, r, rfl⟩
    have hc := hb c (by rw [hcr]; simp)
    have hh : (intL a).head? = some c := by rw [hcr]; rfl
    have hn : ∀ d : UInt8, d.toNat ≠ 45 → (d.toNat < 48 ∨ 57 < d.toNat) → ¬ (intL a).head? = some d := fun d hd1 hd2 e => by
      rw [hh] at e; injection e with e; subst e; omega
    unfold readN
    rw [if_neg e1, if_neg (hn 36 (by decide) (by decide)), if_neg (hn 43 (by decide) (by decide)), if_neg (hn 42 (by decide) (by decide)), if_neg (hn 47 (by decide) (by decide)), if_neg (hn 63 (by decide) (by decide)), if_neg (hn 64 (by decide) (by decide)), if_neg e2, hr]
  · have hs : showN (2, a, [], []) = 36 :: intL a := by unfold showN; simp
    rw [hs]
    have hr := (read_of_int a (by omega) (by omega)).2
    unfold readN
    rw [if_neg (by simp), if_pos (by rfl)]
    simp [hr]
  · rcases (show k = 3 ∨ k = 4 ∨ k = 5 ∨ k = 6 ∨ k = 7 by omega) with rfl | rfl | rfl | rfl | rfl <;> (unfold showN readN; simp)
  · have hs : showN (8, a, p, f) = 64 :: ((p ++ 46 :: f) ++ 47 :: intL a) := by unfold showN; simp
    rw [hs]
    have hr := (read_of_int a (by omega) (by omega)).2
    have hib := intL_bytes a (by omega) (by omega)
    obtain ⟨_, hpl⟩ := name_letters hpn
    obtain ⟨_, hfl⟩ := name_letters hfn
    have s1 : splitL 47 ((p ++ 46 :: f) ++ 47 :: intL a) = [p ++ 46 :: f, intL a] := by
      unfold splitL
      rw [split_one 47 _ _ [] (by
        intro c hc
        rcases List.mem_append.1 hc with hc | hc
        · exact byte_ne (by have := hpl c hc; have e : (47 : UInt8).toNat = 47 := rfl; omega)
        · rcases List.mem_cons.1 hc with rfl | hc
          · decide
          · exact byte_ne (by have := hfl c hc; have e : (47 : UInt8).toNat = 47 := rfl; omega)), split_none 47 (intL a) [] (by intro c hc; exact byte_ne (by have := hib c hc; have e : (47 : UInt8).toNat = 47 := rfl; omega))]
      simp
    have s2 : splitL 46 (p ++ 46 :: f) = [p, f] := by
      unfold splitL
      rw [split_one 46 p f [] (by intro c hc; exact byte_ne (by have := hpl c hc; have e : (46 : UInt8).toNat = 46 := rfl; omega)), split_none 46 f [] (by intro c hc; exact byte_ne (by have := hfl c hc; have e : (46 : UInt8).toNat = 46 := rfl; omega))]
      simp
    have e0 : (splitL 47 ((p ++ 46 :: f) ++ 47 :: intL a)).getD 0 [] = p ++ 46 :: f := by rw [s1]; rfl
    have e1 : (splitL 47 ((p ++ 46 :: f) ++ 47 :: intL a)).getD 1 [] = intL a := by rw [s1]; rfl
    unfold readN
    rw [if_neg (by simp), if_neg (by simp), if_neg (by simp), if_neg (by simp), if_neg (by simp), if_neg (by simp), if_pos (by rfl), List.tail_cons, e0, e1, s2, s1, if_pos ⟨rfl, rfl⟩, hr]
    rfl

/-- No word has a blank. -/
theorem show_noblank (n : Nd) (h : nodeB n = true) : ∀ c ∈ showN n, c ≠ 32 := by
  obtain ⟨k, a, p, f⟩ := n
  have hp := nodeB_iff.1 h
  unfold nodeP at hp
  simp only at hp
  intro c hc
  have e32 : (32 : UInt8).toNat = 32 := rfl
  rcases hp with ⟨rfl, ⟨h0, h1⟩, rfl, rfl⟩ | ⟨rfl, ⟨h0, h1⟩, rfl, rfl⟩ | ⟨hk, rfl, rfl, rfl⟩ | ⟨rfl, ⟨h0, h1⟩, hpn, hfn⟩
  · have hs : showN (1, a, [], []) = intL a := by unfold showN; simp
    rw [hs] at hc
    exact byte_ne (by have := intL_bytes a h0 h1 c hc; omega)
  · have hs : showN (2, a, [], []) = 36 :: intL a := by unfold showN; simp
    rw [hs] at hc
    rcases List.mem_cons.1 hc with rfl | hc
    · decide
    · exact byte_ne (by have := intL_bytes a (by omega) (by omega) c hc; omega)
  · rcases (show k = 3 ∨ k = 4 ∨ k = 5 ∨ k = 6 ∨ k = 7 by omega) with rfl | rfl | rfl | rfl | rfl <;> (unfold showN at hc; simp at hc; subst hc; decide)
  · have hs : showN (8, a, p, f) = 64 :: ((p ++ 46 :: f) ++ 47 :: intL a) := by unfold showN; simp
    rw [hs] at hc
    obtain ⟨_, hpl⟩ := name_letters hpn
    obtain ⟨_, hfl⟩ := name_letters hfn
    rcases List.mem_cons.1 hc with rfl | hc
    · decide
    · rcases List.mem_append.1 hc with hc | hc
      · rcases List.mem_append.1 hc with hc | hc
        · exact byte_ne (by have := hpl c hc; omega)
        · rcases List.mem_cons.1 hc with rfl | hc
          · decide
          · exact byte_ne (by have := hfl c hc; omega)
      · rcases List.mem_cons.1 hc with rfl | hc
        · decide
        · exact byte_ne (by have := intL_bytes a (by omega) (by omega) c hc; omega)

/-- A tree that ends has right nodes alone. -/
theorem endGo_nodes : ∀ (l : List Nd) (o d : Nat), endGo l o = some d → ∀ n ∈ l.take d, nodeB n = true
  | l, 0, d, h, n, hn => by rw [endGo_zero] at h; injection h with h; subst h; simp at hn
  | [], o + 1, d, h, n, hn => by rw [endGo_nil] at h; cases h
  | m :: r, o + 1, d, h, n, hn => by
    rw [endGo_cons] at h
    split at h
    · rename_i hm
      rw [Option.map_eq_some_iff] at h
      obtain ⟨e, he, rfl⟩ := h
      rw [List.take_succ_cons] at hn
      rcases List.mem_cons.1 hn with rfl | hn
      · exact hm
      · exact endGo_nodes r _ e he n hn
    · cases h

theorem tree_end {l : List Nd} (h : treeB l = true) : (1 ≤ l.length ∧ l.length ≤ 60) ∧ endGo l 1 = some l.length := by
  obtain ⟨h1, h2⟩ := of_decide_eq_true h
  refine ⟨h1, ?_⟩
  have e := endV_nat l 0
  rw [Int.natCast_zero] at e
  rw [e] at h2
  unfold endN at h2
  rw [if_pos (by omega), List.drop_zero] at h2
  cases hg : endGo l 1 with
  | none => rw [hg] at h2; simp at h2
  | some d => rw [hg] at h2; simp at h2; congr 1; omega

theorem tree_nodes {l : List Nd} (h : treeB l = true) : ∀ n ∈ l, nodeB n = true := by
  obtain ⟨_, h2⟩ := tree_end h
  intro n hn
  exact endGo_nodes l 1 l.length h2 n (by rw [List.take_length]; exact hn)

noncomputable def readT (s : List UInt8) : List Nd := (splitL 32 s).map readN
noncomputable def readOk (s : List UInt8) : Bool := decide (s.length ≤ 2000) && (treeB (readT s) && (showL (readT s) == s))
noncomputable def readTV (s : List UInt8) : List Nd := if readOk s = true then readT s else []

/-- What is shown of a tree is read as it. -/
theorem readT_show (l : List Nd) (h : treeB l = true) : readT (showL l) = l := by
  unfold readT showL
  have hn := tree_nodes h
  have hlen := (tree_end h).1
  rw [split_join 32 (l.map showN) (fun e => by have := congrArg List.length e; simp at this; rw [this] at hlen; simp at hlen) (by
    intro x hx
    obtain ⟨n, hm, rfl⟩ := List.mem_map.1 hx
    exact show_noblank n (hn n hm)), List.map_map]
  have : l.map (readN ∘ showN) = l.map id := List.map_congr_left (fun n hm => read_show n (hn n hm))
  rw [this, List.map_id]

end Go.Proofs.YtjkfjenhocaljaaDoor
