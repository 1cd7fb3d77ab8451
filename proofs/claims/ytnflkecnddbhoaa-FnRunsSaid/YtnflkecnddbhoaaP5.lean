/-
  Parts of one proof, one behind the other: Math10T, Math6D, Math11, Math11F, Math12, Math11T, Math12L.
-/
import Derived.Test.YtnflkecnddbhoaaP4
import Derived.Test.YtnflkecnddbhoaaP1
import Derived.Test.YtnflkecnddbhoaaP2

/-! Plain facts of chapter 10: where nothing is wrong, what a walk meets in a tree. -/
namespace Go.Proofs.Ytnflkecnddbhoaa
open Go.RowKit

/-! Parts. -/
theorem endV_neg (l : List Nd) {a : Int} (h : a < 0) : endV l a = -1 := if_pos h
theorem endV_ge (l : List Nd) (a : Int) : -1 ≤ endV l a := by
  unfold endV
  split
  · omega
  · unfold endN
    split
    · split <;> omega
    · omega
theorem chain_neg10 (l : List Nd) : ∀ k, chain l k (-1) = -1
  | 0 => rfl
  | k + 1 => by rw [chain, endV_neg l (by decide), chain_neg10 l k]
theorem parts_in (l : List Nd) : ∀ (k : Nat) (next : Int), 0 ≤ chain l k next → ∀ i, i < k → 0 ≤ endV l ((partsGo l k next).getD i 0)
  | 0, _, _, i, hi => absurd hi (Nat.not_lt_zero _)
  | k + 1, next, h, i, hi => by
    rw [chain] at h
    have h0 : 0 ≤ endV l next := by
      rcases Int.lt_or_le (endV l next) 0 with h1 | h1
      · have e : endV l next = -1 := by have := endV_ge l next; omega
        rw [e, chain_neg10] at h
        omega
      · exact h1
    rw [partsGo]
    rcases i with _ | i
    · exact h0
    · exact parts_in l k _ h i (by omega)
theorem endV_place {l : List Nd} {a : Int} (h : 0 ≤ endV l a) : ∃ q : Nat, a = (q : Int) ∧ q < l.length := by
  rcases Int.lt_or_le a 0 with h1 | h1
  · rw [endV_neg l h1] at h; omega
  · obtain ⟨q, rfl⟩ : ∃ q : Nat, a = (q : Int) := ⟨a.toNat, by omega⟩
    exact ⟨q, rfl, (end_parts h).1⟩
/-- A part of a node that stands in a tree is a place in the tree. -/
theorem part_place {t : List Nd} {a : Nat} (h : 0 ≤ endV t (a : Int)) {i : Nat} (hi : i < kidsN (t.getD a nd0)) : ∃ q : Nat, (pts10 t (a : Int)).getD i 0 = (q : Int) ∧ q < t.length ∧ 0 ≤ endV t (q : Int) := by
  obtain ⟨_, _, hc, h1, _⟩ := end_parts h
  have hc2 : chain t (kidsN (t.getD a nd0)) ((a : Int) + 1) = endV t (a : Int) := hc
  have hp := parts_in t (kidsN (t.getD a nd0)) ((a : Int) + 1) (by rw [hc2]; exact h) i hi
  have e : (pts10 t (a : Int)).getD i 0 = (partsGo t (kidsN (t.getD a nd0)) ((a : Int) + 1)).getD i 0 := rfl
  rw [← e] at hp
  obtain ⟨q, hq, hl⟩ := endV_place hp
  rw [hq] at hp
  exact ⟨q, hq, hl, hp⟩
theorem pts_len (t : List Nd) (a : Nat) : (pts10 t (a : Int)).length = kidsN (t.getD a nd0) := by
  unfold pts10
  rw [partsGo_len, Int.toNat_natCast]

/-! A tree of a function of a project without fault. -/
structure Tr10 (ps : List Pk) (t : List Nd) (m : Int) : Prop where
  good : Good10 t
  root : 0 ≤ endV t 0
  arg : ∀ n ∈ t, n.1 = 2 → 0 ≤ n.2.1 ∧ n.2.1 < m
  call : ∀ n ∈ t, n.1 = 8 → 0 ≤ at8 ps n.2.2.1 ∧ 0 ≤ atV (pkOf ps n.2.2.1).2.2 n.2.2.2 ∧ (fnOf10 ps n.2.2.1 n.2.2.2).2.1 = n.2.1
end Go.Proofs.Ytnflkecnddbhoaa

/-! Plain facts of drawn trees: no tree at a place of a drawn list has more than 60 nodes. -/
namespace Go.Proofs.Ytnflkecnddbhoaa
open Go.RowKit

def EndsOk (ns : List Nd) : Prop := ∀ k : Nat, 0 ≤ endV ns (k : Int) → endV ns (k : Int) - k ≤ 60

def ndAdd : Nd := (3, 0, [], [])
def ndNum : Nd := (1, 0, [], [])

def pairsL : Nat → List Nd
  | 0 => []
  | j + 1 => ndAdd :: ndNum :: pairsL j

end Go.Proofs.Ytnflkecnddbhoaa

/-! Plain facts of chapter 11: a tree is a node and its parts; what is made of it. -/
namespace Go.Proofs.Ytnflkecnddbhoaa
open Go.RowKit

/-- One whole tree: a node, and its parts one behind the other. -/
inductive One : List Nd → Prop
  | mk (n : Nd) (ks : List (List Nd)) : nodeB n = true → ks.length = kidsN n → (∀ k ∈ ks, One k) → One (n :: ks.flatten)
theorem One.pos {s : List Nd} (h : One s) : 0 < s.length := by cases h; simp
theorem ones_end : ∀ (ks : List (List Nd)) (post : List Nd), (∀ k ∈ ks, ∀ post, endGo (k ++ post) 1 = some k.length) → endGo (ks.flatten ++ post) ks.length = some ks.flatten.length
  | [], post, _ => by simp [endGo_zero]
  | k :: r, post, h => by
    have h1 := h k List.mem_cons_self (r.flatten ++ post)
    have h2 := ones_end r post (fun x hx => h x (List.mem_cons_of_mem _ hx))
    rw [List.flatten_cons, List.append_assoc, List.length_cons, Nat.add_comm, endGo_add, h1]
    simp only [Option.bind_some, List.drop_left, h2, Option.map_some, List.length_append]
theorem One.end_ {s : List Nd} (h : One s) : ∀ post, endGo (s ++ post) 1 = some s.length := by
  induction h with
  | mk n ks hn hk _ ih =>
    intro post
    have h2 := ones_end ks post ih
    rw [List.cons_append, endGo_cons, if_pos hn, Nat.zero_add, ← hk, h2]
    simp
/-- What is left open is so many trees. -/
theorem parse : ∀ (l : List Nd) (o d : Nat), endGo l o = some d → ∃ ks : List (List Nd), ks.length = o ∧ (∀ k ∈ ks, One k) ∧ l.take d = ks.flatten
  | l, 0, d, h => by
    rw [endGo_zero] at h
    injection h with h
    subst h
    exact ⟨[], rfl, (fun k hk => by cases hk), by simp⟩
  | [], o + 1, d, h => by rw [endGo_nil] at h; cases h
  | n :: r, o + 1, d, h => by
    rw [endGo_cons] at h
    split at h
    · rename_i hn
      cases he : endGo r (o + kidsN n) with
      | none => rw [he] at h; cases h
      | some e =>
        rw [he] at h
        simp only [Option.map_some, Option.some.injEq] at h
        subst h
        obtain ⟨ks, hl, ho, hf⟩ := parse r (o + kidsN n) e he
        refine ⟨(n :: (ks.take (kidsN n)).flatten) :: ks.drop (kidsN n), by simp; omega, fun k hk => ?_, ?_⟩
        · rcases List.mem_cons.1 hk with e1 | e1
          · rw [e1]
            exact One.mk n _ hn (by simp; omega) (fun k hk => ho k (List.mem_of_mem_take hk))
          · exact ho k (List.mem_of_mem_drop e1)
        · rw [List.take_succ_cons, hf, List.flatten_cons, List.cons_append, ← List.flatten_append, List.take_append_drop]
    · cases h
theorem one_of_end {l : List Nd} {d : Nat} (h : endGo l 1 = some d) : One (l.take d) := by
  obtain ⟨ks, hl, ho, hf⟩ := parse l 1 d h
  obtain ⟨k, rfl⟩ : ∃ k, ks = [k] := List.length_eq_one_iff.1 hl
  rw [hf]
  simpa using ho k (by simp)
theorem One.pre {a b x y : List Nd} (ha : One a) (hb : One b) (h : a ++ x = b ++ y) : a = b ∧ x = y := by
  have h1 := ha.end_ x
  rw [h, hb.end_ y] at h1
  injection h1 with h1
  exact List.append_inj h h1.symm
theorem ones_inj : ∀ {ks js : List (List Nd)}, (∀ k ∈ ks, One k) → (∀ k ∈ js, One k) → ks.length = js.length → ks.flatten = js.flatten → ks = js
  | [], [], _, _, _, _ => rfl
  | [], _ :: _, _, _, h, _ => by cases h
  | _ :: _, [], _, _, h, _ => by cases h
  | a :: r, b :: t, ha, hb, hl, hf => by
    rw [List.flatten_cons, List.flatten_cons] at hf
    obtain ⟨rfl, h2⟩ := (ha a List.mem_cons_self).pre (hb b List.mem_cons_self) hf
    rw [ones_inj (fun k hk => ha k (List.mem_cons_of_mem _ hk)) (fun k hk => hb k (List.mem_cons_of_mem _ hk)) (by simpa using hl) h2]

/-! Trees in a list. -/
theorem endV_sub {t s post : List Nd} {a : Nat} (h : t.drop a = s ++ post) (hs : One s) : endV t (a : Int) = ((a + s.length : Nat) : Int) := by
  have ha : a < t.length := by
    rcases Nat.lt_or_ge a t.length with h1 | h1
    · exact h1
    · rw [List.drop_eq_nil_of_le h1] at h
      have := hs.pos
      have h2 := congrArg List.length h
      simp at h2
      omega
  rw [endV_nat]
  unfold endN
  rw [if_pos ha, h, hs.end_ post]
  simp
theorem sub_of {t : List Nd} {a : Nat} (h : 0 ≤ endV t (a : Int)) : ∃ s post, t.drop a = s ++ post ∧ One s := by
  rw [endV_nat] at h
  unfold endN at h
  split at h
  · cases he : endGo (t.drop a) 1 with
    | none => rw [he] at h; simp at h
    | some d => exact ⟨_, _, (List.take_append_drop d (t.drop a)).symm, one_of_end he⟩
  · omega
theorem treeB_one {t : List Nd} : treeB t = true ↔ (t.length ≤ 60 ∧ One t) := by
  constructor
  · intro h
    have h1 := of_decide_eq_true h
    refine ⟨h1.1.2, ?_⟩
    obtain ⟨s, post, e, hs⟩ := sub_of (t := t) (a := 0) (by rw [show ((0 : Nat) : Int) = 0 from rfl, h1.2]; omega)
    have h2 := endV_sub e hs
    rw [show ((0 : Nat) : Int) = 0 from rfl, h1.2] at h2
    rw [List.drop_zero] at e
    have h3 := congrArg List.length e
    rw [List.length_append] at h3
    have h4 : post = [] := List.eq_nil_of_length_eq_zero (by omega)
    rw [e, h4, List.append_nil]
    exact hs
  · rintro ⟨h1, h2⟩
    have h3 := endV_sub (t := t) (a := 0) (post := []) (by simp) h2
    refine decide_eq_true ⟨⟨h2.pos, h1⟩, ?_⟩
    rw [show (0 : Int) = ((0 : Nat) : Int) from rfl, h3]
    simp
theorem chain_succ11 (l : List Nd) : ∀ (k : Nat) (q : Int), chain l (k + 1) q = endV l (chain l k q)
  | 0, _ => rfl
  | k + 1, q => by rw [chain, chain_succ11 l k]; rfl
/-- The parts of a node lie one behind the other. -/
theorem chain_sub {t post : List Nd} {a : Nat} {n : Nd} {ks : List (List Nd)} (h : t.drop a = (n :: ks.flatten) ++ post) (ho : ∀ k ∈ ks, One k) : ∀ i, i ≤ ks.length → chain t i ((a + 1 : Nat) : Int) = ((a + 1 + (ks.take i).flatten.length : Nat) : Int) ∧ t.drop (a + 1 + (ks.take i).flatten.length) = (ks.drop i).flatten ++ post
  | 0, _ => by
    refine ⟨by simp [chain], ?_⟩
    have h1 : t.drop (a + 1) = ks.flatten ++ post := by rw [← List.drop_drop, h]; rfl
    simpa using h1
  | i + 1, hi => by
    obtain ⟨e1, e2⟩ := chain_sub h ho i (by omega)
    have hi2 : i < ks.length := by omega
    have hd : (ks.drop i).flatten = ks[i] ++ (ks.drop (i + 1)).flatten := by rw [List.drop_eq_getElem_cons hi2, List.flatten_cons]
    have ht : (ks.take (i + 1)).flatten.length = (ks.take i).flatten.length + ks[i].length := by
      rw [List.take_succ_eq_append_getElem hi2, List.flatten_append, List.length_append]
      simp
    rw [hd, List.append_assoc] at e2
    have h3 := endV_sub e2 (ho _ (List.getElem_mem hi2))
    refine ⟨by rw [chain_succ11, e1, h3, ht]; omega, ?_⟩
    rw [ht, ← Nat.add_assoc, ← List.drop_drop, e2, List.drop_left]

end Go.Proofs.Ytnflkecnddbhoaa

/-! Plain facts of chapter 11: folding. -/
namespace Go.Proofs.Ytnflkecnddbhoaa
open Go.RowKit

def isOne11 (t : List Nd) : Bool := decide (t.length = 1 ∧ (t.getD 0 nd0).1 = 1)
def isNum11 (t : List Nd) (v : Int) : Bool := isOne11 t && decide ((t.getD 0 nd0).2.1 = v)
/-- What is made of a node and of what its parts have become. -/
def mk11 (n : Nd) (rs : List (List Nd)) : List Nd :=
  if 3 ≤ n.1 ∧ n.1 ≤ 6 then
    if (isOne11 (rs.getD 0 []) && isOne11 (rs.getD 1 [])) = true then
      if doneB n.1 ((rs.getD 0 []).getD 0 nd0).2.1 ((rs.getD 1 []).getD 0 nd0).2.1 = true then [(1, doneV n.1 ((rs.getD 0 []).getD 0 nd0).2.1 ((rs.getD 1 []).getD 0 nd0).2.1, [], [])] else n :: rs.flatten
    else if (decide (n.1 ≤ 4) && isNum11 (rs.getD 1 []) 0 || decide (5 ≤ n.1) && isNum11 (rs.getD 1 []) 1) = true then rs.getD 0 []
    else if (decide (n.1 = 3) && isNum11 (rs.getD 0 []) 0 || decide (n.1 = 5) && isNum11 (rs.getD 0 []) 1) = true then rs.getD 1 []
    else n :: rs.flatten
  else if n.1 = 7 then
    if isOne11 (rs.getD 0 []) = true then (if isNum11 (rs.getD 0 []) 0 = true then rs.getD 2 [] else rs.getD 1 []) else n :: rs.flatten
  else n :: rs.flatten
/-- What mk11 gives: all of it; one number; or one of the parts. -/
theorem mk11_cases (n : Nd) (rs : List (List Nd)) : mk11 n rs = n :: rs.flatten ∨ (3 ≤ n.1 ∧ n.1 ≤ 6 ∧ ∃ v, -2147483648 ≤ v ∧ v ≤ 2147483647 ∧ mk11 n rs = [(1, v, [], [])]) ∨ (3 ≤ n.1 ∧ n.1 ≤ 6 ∧ (mk11 n rs = rs.getD 0 [] ∨ mk11 n rs = rs.getD 1 [])) ∨ (n.1 = 7 ∧ (mk11 n rs = rs.getD 1 [] ∨ mk11 n rs = rs.getD 2 [])) := by
  unfold mk11
  split
  · rename_i h
    split
    · split
      · exact Or.inr (Or.inl ⟨h.1, h.2, _, (doneV_bd _ _ _).1, (doneV_bd _ _ _).2, rfl⟩)
      · exact Or.inl rfl
    · split
      · exact Or.inr (Or.inr (Or.inl ⟨h.1, h.2, Or.inl rfl⟩))
      · split
        · exact Or.inr (Or.inr (Or.inl ⟨h.1, h.2, Or.inr rfl⟩))
        · exact Or.inl rfl
  · split
    · rename_i h7
      split
      · split
        · exact Or.inr (Or.inr (Or.inr ⟨h7, Or.inr rfl⟩))
        · exact Or.inr (Or.inr (Or.inr ⟨h7, Or.inl rfl⟩))
      · exact Or.inl rfl
    · exact Or.inl rfl

/-- What a tree becomes. -/
inductive Fo : List Nd → List Nd → Prop
  | mk (n : Nd) (ks rs : List (List Nd)) : nodeB n = true → ks.length = kidsN n → rs.length = ks.length → (∀ k ∈ ks, One k) → (∀ i, i < ks.length → Fo (ks.getD i []) (rs.getD i [])) → Fo (n :: ks.flatten) (mk11 n rs)
theorem Fo.one {s r : List Nd} (h : Fo s r) : One s := by
  cases h with
  | mk n ks rs hn hk hr ho hf => exact One.mk n ks hn hk ho
theorem mem_getD {α : Type} {l : List α} {x d : α} (h : x ∈ l) : ∃ i, i < l.length ∧ l.getD i d = x := by
  obtain ⟨i, hi, e⟩ := List.mem_iff_getElem.1 h
  exact ⟨i, hi, by simp [List.getD, hi, e]⟩
theorem getD_mem11 {α : Type} {l : List α} {i : Nat} {d : α} (h : i < l.length) : l.getD i d ∈ l := by
  simp [List.getD, h]
theorem num_one {v : Int} (h0 : -2147483648 ≤ v) (h1 : v ≤ 2147483647) : One [((1, v, [], []) : Nd)] := by
  have hn : nodeB ((1, v, [], []) : Nd) = true := decide_eq_true (Or.inl ⟨rfl, ⟨h0, h1⟩, rfl, rfl⟩)
  exact One.mk (1, v, [], []) [] hn rfl (fun k hk => by cases hk)
theorem kids_four {n : Nd} (h : 3 ≤ n.1 ∧ n.1 ≤ 6) : kidsN n = 2 := if_pos h
theorem kids_seven {n : Nd} (h : n.1 = 7) : kidsN n = 3 := by unfold kidsN; rw [if_neg (by omega), if_pos h]
/-- What it becomes is one tree, has no more nodes, and each is one of its own or a number. -/
theorem Fo.res {s r : List Nd} (h : Fo s r) : One r ∧ r.length ≤ s.length ∧ ∀ n ∈ r, n ∈ s ∨ n.1 = 1 := by
  induction h with
  | mk n ks rs hn hk hr ho _ ih =>
    have hall : One (n :: rs.flatten) := One.mk n rs hn (by omega) (fun x hx => by
      obtain ⟨i, hi, e⟩ := mem_getD (d := []) hx
      rw [← e]; exact (ih i (by omega)).1)
    have hlen : rs.flatten.length ≤ ks.flatten.length := by
      have key : ∀ (a b : List (List Nd)), a.length = b.length → (∀ i, i < b.length → (a.getD i []).length ≤ (b.getD i []).length) → a.flatten.length ≤ b.flatten.length := by
        intro a
        induction a with
        | nil => intro b _ _; simp
        | cons x a iha =>
          intro b hb hl
          cases b with
          | nil => cases hb
          | cons y b =>
            have h0 := hl 0 (by simp)
            have h1 := iha b (by simpa using hb) (fun i hi => by have := hl (i + 1) (by simpa using hi); simpa using this)
            simp only [List.flatten_cons, List.length_append]
            simp at h0
            omega
      exact key rs ks hr (fun i hi => (ih i hi).2.1)
    have hpart : ∀ i, i < ks.length → One (rs.getD i []) ∧ (rs.getD i []).length ≤ (n :: ks.flatten).length ∧ ∀ m ∈ rs.getD i [], m ∈ n :: ks.flatten ∨ m.1 = 1 := fun i hi => by
      obtain ⟨h1, h2, h3⟩ := ih i hi
      have hmem : ks.getD i [] ∈ ks := getD_mem11 hi
      refine ⟨h1, ?_, fun m hm => ?_⟩
      · have : (ks.getD i []).length ≤ ks.flatten.length := (List.sublist_flatten_of_mem hmem).length_le
        simp only [List.length_cons]
        omega
      · rcases h3 m hm with h4 | h4
        · exact Or.inl (List.mem_cons_of_mem _ (List.mem_flatten.2 ⟨_, hmem, h4⟩))
        · exact Or.inr h4
    rcases mk11_cases n rs with e | ⟨_, _, v, h0, h1, e⟩ | ⟨h3, h6, e⟩ | ⟨h7, e⟩
    · rw [e]
      refine ⟨hall, by simp only [List.length_cons]; omega, fun m hm => ?_⟩
      rcases List.mem_cons.1 hm with h4 | h4
      · exact Or.inl (by rw [h4]; exact List.mem_cons_self)
      · obtain ⟨x, hx, h5⟩ := List.mem_flatten.1 h4
        obtain ⟨i, hi, e2⟩ := mem_getD (d := []) hx
        rw [← e2] at h5
        exact (hpart i (by omega)).2.2 m h5
    · rw [e]
      exact ⟨num_one h0 h1, by simp, fun m hm => Or.inr (by rw [List.mem_singleton.1 hm])⟩
    · have hk2 := kids_four ⟨h3, h6⟩
      rcases e with e | e
      · rw [e]; exact hpart 0 (by omega)
      · rw [e]; exact hpart 1 (by omega)
    · have hk3 := kids_seven h7
      rcases e with e | e
      · rw [e]; exact hpart 1 (by omega)
      · rw [e]; exact hpart 2 (by omega)
/-- It becomes but one tree. -/
theorem Fo.uniq {s r : List Nd} (h : Fo s r) : ∀ {r' : List Nd}, Fo s r' → r = r' := by
  induction h with
  | mk n ks rs hn hk hr ho _ ih =>
    intro r' h'
    generalize hs : n :: ks.flatten = s at h'
    cases h' with
    | mk m js qs hm hj hq hoj hfj =>
      injection hs with e1 e2
      subst e1
      obtain rfl := ones_inj ho hoj (by omega) e2
      have : rs = qs := by
        refine List.ext_getElem (by omega) (fun i h1 h2 => ?_)
        have h3 := ih i (by omega) (hfj i (by omega))
        simpa [List.getD, h1, h2] using h3
      rw [this]
/-- By places, as the code does it. -/
def fold11 : Nat → List Nd → Int → List Nd
  | 0, _, _ => []
  | d + 1, t, a => mk11 (t.getD a.toNat nd0) ((pts10 t a).map (fold11 d t))
theorem pts_sub {t post : List Nd} {a : Nat} {n : Nd} {ks : List (List Nd)} (h : t.drop a = (n :: ks.flatten) ++ post) (hk : ks.length = kidsN n) (ho : ∀ k ∈ ks, One k) : t.getD a nd0 = n ∧ (pts10 t (a : Int)).length = ks.length ∧ ∀ i, i < ks.length → ∃ post', (pts10 t (a : Int)).getD i 0 = ((a + 1 + (ks.take i).flatten.length : Nat) : Int) ∧ t.drop (a + 1 + (ks.take i).flatten.length) = ks.getD i [] ++ post' := by
  have ha : t.getD a nd0 = n := by
    have h1 := congrArg (fun l => l.getD 0 nd0) h
    simp only [List.cons_append] at h1
    rw [show (n :: (ks.flatten ++ post)).getD 0 nd0 = n from rfl] at h1
    rw [← h1]
    simp [List.getD, List.getElem?_drop]
  refine ⟨ha, by rw [pts_len, ha, hk], fun i hi => ?_⟩
  obtain ⟨e1, e2⟩ := chain_sub h ho i (by omega)
  refine ⟨(ks.drop (i + 1)).flatten ++ post, ?_, ?_⟩
  · have hc : (pts10 t (a : Int)).getD i 0 = chain t i ((a + 1 : Nat) : Int) := by
      have key : ∀ (k : Nat) (q : Int) (i : Nat), i < k → (partsGo t k q).getD i 0 = chain t i q := by
        intro k
        induction k with
        | zero => intro q i hi; omega
        | succ k ihk =>
          intro q i hi
          cases i with
          | zero => rfl
          | succ i => rw [partsGo]; exact ihk (endV t q) i (by omega)
      unfold pts10
      rw [Int.toNat_natCast, ha]
      exact key (kidsN n) ((a : Int) + 1) i (by omega)
    rw [hc, e1]
  · rw [e2, List.drop_eq_getElem_cons hi, List.flatten_cons, List.append_assoc]
    simp [List.getD, hi]
/-- FoldedTree. -/
def foldT (t : List Nd) : List Nd := if treeB t = true then fold11 60 t 0 else []
end Go.Proofs.Ytnflkecnddbhoaa

/-! Plain facts of chapter 12: how many registers a tree takes. -/
namespace Go.Proofs.Ytnflkecnddbhoaa
open Go.RowKit

/-- What is made of a node's own number and of its parts' (o: nothing told, or the order there). -/
def most12 : List Int → Int → Int → Int
  | [], _, m => m
  | x :: r, i, m => most12 r (i + 1) (max m (x + i))
def pair12 (o : Option Int) (x y : Int) : Int :=
  match o with
  | none => if x = y then x + 1 else max x y
  | some v => if v = 0 then max x (y + 1) else max y (x + 1)
def mk12 (o : Option Int) (n : Nd) (ks : List Int) : Int :=
  if 3 ≤ n.1 ∧ n.1 ≤ 6 then pair12 o (ks.getD 0 0) (ks.getD 1 0)
  else if n.1 = 7 then max (ks.getD 0 0) (max (ks.getD 1 0) (ks.getD 2 0))
  else most12 ks 0 1
def ord12 (os : List Int) (a : Int) : Option Int := if os = [] then none else some (os.getD a.toNat 0)
def need12 : Nat → List Nd → List Int → Int → Int
  | 0, _, _, _ => 0
  | d + 1, t, os, a => mk12 (ord12 os a) (t.getD a.toNat nd0) ((pts10 t a).map (need12 d t os))
def needT (t : List Nd) : Int := if treeB t = true then need12 60 t [] 0 else 0
def needByT (t : List Nd) (os : List Int) : Int := if treeB t = true ∧ os.length = t.length then need12 60 t os 0 else 0
def firstT (t : List Nd) (a : Int) : Int :=
  if treeB t = true ∧ 0 ≤ a ∧ a < t.length ∧ 3 ≤ (t.getD a.toNat nd0).1 ∧ (t.getD a.toNat nd0).1 ≤ 6 then
    (if need12 60 t [] ((pts10 t a).getD 1 0) ≤ need12 60 t [] ((pts10 t a).getD 0 0) then 0 else 1)
  else -1

theorem most12_ge : ∀ (ks : List Int) (i m : Int), m ≤ most12 ks i m
  | [], _, m => Int.le_refl m
  | _ :: r, i, _ => Int.le_trans (Int.le_max_left _ _) (most12_ge r (i + 1) _)
/-- What a tree takes, wherever it lies. -/
inductive Nu : List Nd → Int → Prop
  | mk (n : Nd) (ks : List (List Nd)) (rs : List Int) : nodeB n = true → ks.length = kidsN n → rs.length = ks.length → (∀ k ∈ ks, One k) → (∀ i, i < ks.length → Nu (ks.getD i []) (rs.getD i 0)) → Nu (n :: ks.flatten) (mk12 none n rs)
theorem Nu.uniq {s : List Nd} {r : Int} (h : Nu s r) : ∀ {r' : Int}, Nu s r' → r = r' := by
  induction h with
  | mk n ks rs hn hk hr ho _ ih =>
    intro r' h'
    generalize hs : n :: ks.flatten = s at h'
    cases h' with
    | mk m js qs hm hj hq hoj hfj =>
      injection hs with e1 e2
      subst e1
      obtain rfl := ones_inj ho hoj (by omega) e2
      have : rs = qs := by
        refine List.ext_getElem (by omega) (fun i h1 h2 => ?_)
        have h3 := ih i (by omega) (hfj i (by omega))
        simpa [List.getD, h1, h2] using h3
      rw [this]
theorem need_nu {s : List Nd} (h : One s) : ∀ (d : Nat) (t post : List Nd) (a : Nat), s.length ≤ d → t.drop a = s ++ post → Nu s (need12 d t [] (a : Int)) := by
  induction h with
  | mk n ks hn hk ho ih =>
    intro d t post a hd ht
    rcases d with _ | d
    · simp at hd
    · obtain ⟨e1, e2, e3⟩ := pts_sub ht hk ho
      rw [need12, Int.toNat_natCast, e1]
      refine Nu.mk n ks _ hn hk (by rw [List.length_map, e2]) ho (fun i hi => ?_)
      obtain ⟨post', e4, e5⟩ := e3 i hi
      have e6 : ((pts10 t (a : Int)).map (need12 d t [])).getD i 0 = need12 d t [] ((a + 1 + (ks.take i).flatten.length : Nat) : Int) := by
        rw [← e4]
        simp [List.getD, e2, hi]
      rw [e6]
      have hm : ks.getD i [] ∈ ks := getD_mem11 hi
      refine ih _ hm d t post' _ ?_ e5
      have h1 : (ks.getD i []).length ≤ ks.flatten.length := (List.sublist_flatten_of_mem hm).length_le
      simp only [List.length_cons] at hd
      omega

theorem map_getD12 {d : Nat} {t : List Nd} {os : List Int} {l : List Int} {i : Nat} (hi : i < l.length) : (l.map (need12 d t os)).getD i 0 = need12 d t os (l.getD i 0) := by
  simp [List.getD, hi]
theorem need_fuel {s : List Nd} (h : One s) {d d' : Nat} {t post : List Nd} {a : Nat} (h1 : s.length ≤ d) (h2 : s.length ≤ d') (ht : t.drop a = s ++ post) : need12 d t [] (a : Int) = need12 d' t [] (a : Int) := (need_nu h d t post a h1 ht).uniq (need_nu h d' t post a h2 ht)
theorem most12_bd : ∀ (ks : List Int) (i m : Int) (N : Int), m ≤ N → (∀ j, j < ks.length → ks.getD j 0 + i + j ≤ N) → most12 ks i m ≤ N
  | [], _, _, _, h, _ => h
  | x :: r, i, m, N, h, hk => by
    have h0 : x + i ≤ N := by have := hk 0 (by simp); simpa using this
    refine most12_bd r (i + 1) _ N (by omega) (fun j hj => ?_)
    have := hk (j + 1) (by simpa using hj)
    simp at this
    simp
    omega
/-- A tree takes one at least, and no more than it has nodes. -/
theorem need_bd {s : List Nd} (h : One s) (os : List Int) : ∀ (d : Nat) (t post : List Nd) (a : Nat), s.length ≤ d → t.drop a = s ++ post → 1 ≤ need12 d t os (a : Int) ∧ need12 d t os (a : Int) ≤ s.length := by
  induction h with
  | mk n ks hn hk ho ih =>
    intro d t post a hd ht
    rcases d with _ | d
    · simp at hd
    · obtain ⟨e1, e2, e3⟩ := pts_sub ht hk ho
      have hb : ∀ i, i < ks.length → 1 ≤ need12 d t os ((pts10 t (a : Int)).getD i 0) ∧ need12 d t os ((pts10 t (a : Int)).getD i 0) ≤ (ks.getD i []).length := fun i hi => by
        obtain ⟨post', e4, e5⟩ := e3 i hi
        rw [e4]
        have hm : ks.getD i [] ∈ ks := getD_mem11 hi
        have h1 : (ks.getD i []).length ≤ ks.flatten.length := (List.sublist_flatten_of_mem hm).length_le
        exact ih _ hm d t post' _ (by simp only [List.length_cons] at hd; omega) e5
      have hpos : ∀ i, i < ks.length → 0 < (ks.getD i []).length := fun i hi => (ho _ (getD_mem11 hi)).pos
      rw [need12, Int.toNat_natCast, e1]
      unfold mk12
      by_cases h36 : 3 ≤ n.1 ∧ n.1 ≤ 6
      · have hk2 : ks.length = 2 := by rw [hk]; exact kids_four h36
        obtain ⟨k1, k2, rfl⟩ : ∃ x y, ks = [x, y] := by
          match ks, hk2 with
          | [x, y], _ => exact ⟨x, y, rfl⟩
        rw [if_pos h36, map_getD12 (by omega), map_getD12 (by omega)]
        have h0 := hb 0 (by simp)
        have h1 := hb 1 (by simp)
        have q0 := hpos 0 (by simp)
        have q1 := hpos 1 (by simp)
        simp only [show ([k1, k2] : List (List Nd)).getD 0 [] = k1 from rfl, show ([k1, k2] : List (List Nd)).getD 1 [] = k2 from rfl] at h0 h1 q0 q1
        have hl : (n :: [k1, k2].flatten).length = k1.length + k2.length + 1 := by simp
        rw [hl]
        generalize need12 d t os ((pts10 t (a : Int)).getD 0 0) = x at h0 ⊢
        generalize need12 d t os ((pts10 t (a : Int)).getD 1 0) = y at h1 ⊢
        unfold pair12
        split
        · split <;> omega
        · split <;> omega
      · rw [if_neg h36]
        by_cases h7 : n.1 = 7
        · have hk2 : ks.length = 3 := by rw [hk]; exact kids_seven h7
          obtain ⟨k1, k2, k3, rfl⟩ : ∃ x y z, ks = [x, y, z] := by
            match ks, hk2 with
            | [x, y, z], _ => exact ⟨x, y, z, rfl⟩
          rw [if_pos h7, map_getD12 (by omega), map_getD12 (by omega), map_getD12 (by omega)]
          have h0 := hb 0 (by simp)
          have h1 := hb 1 (by simp)
          have h2 := hb 2 (by simp)
          simp only [show ([k1, k2, k3] : List (List Nd)).getD 0 [] = k1 from rfl, show ([k1, k2, k3] : List (List Nd)).getD 1 [] = k2 from rfl, show ([k1, k2, k3] : List (List Nd)).getD 2 [] = k3 from rfl] at h0 h1 h2
          have hl : (n :: [k1, k2, k3].flatten).length = k1.length + (k2.length + k3.length) + 1 := by simp
          rw [hl]
          omega
        · rw [if_neg h7]
          refine ⟨most12_ge _ _ _, most12_bd _ _ _ _ (by simp only [List.length_cons]; omega) (fun j hj => ?_)⟩
          rw [List.length_map] at hj
          rw [map_getD12 hj]
          have h0 := hb j (by omega)
          have key : ∀ (l : List (List Nd)) (j : Nat), j < l.length → (∀ i, i < l.length → 0 < (l.getD i []).length) → (l.getD j []).length + j ≤ l.flatten.length := by
            intro l
            induction l with
            | nil => intro j hj; simp at hj
            | cons x r ihl =>
              intro j hj hp
              cases j with
              | zero => simp
              | succ j =>
                have h1 := ihl j (by simpa using hj) (fun i hi => by have := hp (i + 1) (by simpa using hi); simpa using this)
                have h2 := hp 0 (by simp)
                simp at h1 h2 ⊢
                omega
          have h3 := key ks j (by omega) hpos
          simp only [List.length_cons]
          omega

end Go.Proofs.Ytnflkecnddbhoaa

/-! Plain facts: every node of a tree has an end. -/
namespace Go.Proofs.Ytnflkecnddbhoaa
open Go.RowKit

theorem endGo_tail : ∀ (l : List Nd) (o : Nat), endGo l o = some l.length → ∀ j, j < l.length → ∃ d, endGo (l.drop j) 1 = some d
  | [], _, _, j, hj => by simp at hj
  | n :: r, 0, h, _, _ => by rw [endGo_zero] at h; simp at h
  | n :: r, o + 1, h, 0, _ => by
    rw [show o + 1 = 1 + o by omega, endGo_add] at h
    rw [List.drop_zero]
    cases he : endGo (n :: r) 1 with
    | none => rw [he] at h; cases h
    | some d => exact ⟨d, rfl⟩
  | n :: r, o + 1, h, j + 1, hj => by
    rw [endGo_cons] at h
    split at h
    · cases he : endGo r (o + kidsN n) with
      | none => rw [he] at h; cases h
      | some e =>
        rw [he] at h
        simp only [Option.map_some, Option.some.injEq, List.length_cons] at h
        have e1 : e = r.length := by omega
        rw [e1] at he
        rw [List.drop_succ_cons]
        exact endGo_tail r _ he j (by simpa using hj)
    · cases h
/-- Every node of a tree has an end. -/
theorem tree_ends {t : List Nd} (h : One t) {i : Nat} (hi : i < t.length) : 0 ≤ endV t (i : Int) := by
  have h1 := h.end_ []
  rw [List.append_nil] at h1
  obtain ⟨d, hd⟩ := endGo_tail t 1 h1 i hi
  rw [endV_nat, endN_some hd hi]
  omega

end Go.Proofs.Ytnflkecnddbhoaa

/-! Plain facts of chapter 12: what FnSethi and FnFirst ask. -/
namespace Go.Proofs.Ytnflkecnddbhoaa
open Go.RowKit

theorem treeB_sub {t : List Nd} (h : treeB t = true) {a : Nat} (ha : a < t.length) : ∃ s post, t.drop a = s ++ post ∧ One s ∧ s.length ≤ 60 := by
  obtain ⟨hl, ho⟩ := treeB_one.1 h
  obtain ⟨s, post, e, hs⟩ := sub_of (tree_ends ho ha)
  refine ⟨s, post, e, hs, ?_⟩
  have h2 := congrArg List.length e
  rw [List.length_drop, List.length_append] at h2
  omega
end Go.Proofs.Ytnflkecnddbhoaa
