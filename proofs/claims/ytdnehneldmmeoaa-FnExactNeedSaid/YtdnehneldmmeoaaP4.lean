/-
  Parts of one proof, one behind the other: Math11, Math11F, Math12, Math11T, Math12L, TreeS4, TreeS5, TreeS6, IntsL, Marks, Marks2, Marks3, TextsL.
-/
import Derived.Test.YtdnehneldmmeoaaP3
import Derived.Test.YtdnehneldmmeoaaP2
import Derived.Deep.RegionWith
import Derived.Test.YtdnehneldmmeoaaP1
import Derived.SliceStrings
import Derived.ProofKit
import Derived.OpenShut
import Derived.ShutString
import Derived.ChangeOld
import Derived.Below

/-! Plain facts of chapter 11: a tree is a node and its parts; what is made of it. -/
namespace Go.Proofs.Ytdnehneldmmeoaa
open Go.RowKit

/-- One whole tree: a node, and its parts one behind the other. -/
inductive One : List Nd → Prop
  | mk (n : Nd) (ks : List (List Nd)) : nodeB n = true → ks.length = kidsN n → (∀ k ∈ ks, One k) → One (n :: ks.flatten)
theorem One.pos {s : List Nd} (h : One s) : 0 < s.length := by cases h; simp
theorem ones_end : ∀ (ks : List (List Nd)) (post : List Nd), (∀ k ∈ ks, ∀ post, endGo (k ++ post) 1 = some k.length) → endGo (ks.flatten ++ post) ks.length = some ks.flatten.length
  | [], post, _ => by simp [endGo_zero]
  | k :: r, post, h => by
    have h1 := h k List.mem_cons_self (r.flatten ++ post)
    have h2 := ones_end r post (fun x hx => h x (List.mem_cons_of_mem _ hx))
    rw [List.flatten_cons, List.append_assoc, List.length_cons, Nat.add_comm, endGo_add, h1]
    simp only [Option.bind_some, List.drop_left, h2, Option.map_some, List.length_append]
theorem One.end_ {s : List Nd} (h : One s) : ∀ post, endGo (s ++ post) 1 = some s.length := by
  induction h with
  | mk n ks hn hk _ ih =>
    intro post
    have h2 := ones_end ks post ih
    rw [List.cons_append, endGo_cons, if_pos hn, Nat.zero_add, ← hk, h2]
    simp
/-- What is left open is so many trees. -/
theorem parse : ∀ (l : List Nd) (o d : Nat), endGo l o = some d → ∃ ks : List (List Nd), ks.length = o ∧ (∀ k ∈ ks, One k) ∧ l.take d = ks.flatten
  | l, 0, d, h => by
    rw [endGo_zero] at h
    injection h with h
    subst h
    exact ⟨[], rfl, (fun k hk => by cases hk), by simp⟩
  | [], o + 1, d, h => by rw [endGo_nil] at h; cases h
  | n :: r, o + 1, d, h => by
    rw [endGo_cons] at h
    split at h
    · rename_i hn
      cases he : endGo r (o + kidsN n) with
      | none => rw [he] at h; cases h
      | some e =>
        rw [he] at h
        simp only [Option.map_some, Option.some.injEq] at h
        subst h
        obtain ⟨ks, hl, ho, hf⟩ := parse r (o + kidsN n) e he
        refine ⟨(n :: (ks.take (kidsN n)).flatten) :: ks.drop (kidsN n), by simp; omega, fun k hk => ?_, ?_⟩
        · rcases List.mem_cons.1 hk with e1 | e1
          · rw [e1]
            exact One.mk n _ hn (by simp; omega) (fun k hk => ho k (List.mem_of_mem_take hk))
          · exact ho k (List.mem_of_mem_drop e1)
        · rw [List.take_succ_cons, hf, List.flatten_cons, List.cons_append, ← List.flatten_append, List.take_append_drop]
    · cases h
theorem one_of_end {l : List Nd} {d : Nat} (h : endGo l 1 = some d) : One (l.take d) := by
  obtain ⟨ks, hl, ho, hf⟩ := parse l 1 d h
  obtain ⟨k, rfl⟩ : ∃ k, ks = [k] := List.length_eq_one_iff.1 hl
  rw [hf]
  simpa using ho k (by simp)
/-! Trees in a list. -/
theorem endV_sub {t s post : List Nd} {a : Nat} (h : t.drop a = s ++ post) (hs : One s) : endV t (a : Int) = ((a + s.length : Nat) : Int) := by
  have ha : a < t.length := by
    rcases Nat.lt_or_ge a t.length with h1 | h1
    · exact h1
    · rw [List.drop_eq_nil_of_le h1] at h
      have := hs.pos
      have h2 := congrArg List.length h
      simp at h2
      omega
  rw [endV_nat]
  unfold endN
  rw [if_pos ha, h, hs.end_ post]
  simp
theorem sub_of {t : List Nd} {a : Nat} (h : 0 ≤ endV t (a : Int)) : ∃ s post, t.drop a = s ++ post ∧ One s := by
  rw [endV_nat] at h
  unfold endN at h
  split at h
  · cases he : endGo (t.drop a) 1 with
    | none => rw [he] at h; simp at h
    | some d => exact ⟨_, _, (List.take_append_drop d (t.drop a)).symm, one_of_end he⟩
  · omega
theorem treeB_one {t : List Nd} : treeB t = true ↔ (t.length ≤ 60 ∧ One t) := by
  constructor
  · intro h
    have h1 := of_decide_eq_true h
    refine ⟨h1.1.2, ?_⟩
    obtain ⟨s, post, e, hs⟩ := sub_of (t := t) (a := 0) (by rw [show ((0 : Nat) : Int) = 0 from rfl, h1.2]; omega)
    have h2 := endV_sub e hs
    rw [show ((0 : Nat) : Int) = 0 from rfl, h1.2] at h2
    rw [List.drop_zero] at e
    have h3 := congrArg List.length e
    rw [List.length_append] at h3
    have h4 : post = [] := List.eq_nil_of_length_eq_zero (by omega)
    rw [e, h4, List.append_nil]
    exact hs
  · rintro ⟨h1, h2⟩
    have h3 := endV_sub (t := t) (a := 0) (post := []) (by simp) h2
    refine decide_eq_true ⟨⟨h2.pos, h1⟩, ?_⟩
    rw [show (0 : Int) = ((0 : Nat) : Int) from rfl, h3]
    simp
theorem chain_succ11 (l : List Nd) : ∀ (k : Nat) (q : Int), chain l (k + 1) q = endV l (chain l k q)
  | 0, _ => rfl
  | k + 1, q => by rw [chain, chain_succ11 l k]; rfl
/-- The parts of a node lie one behind the other. -/
theorem chain_sub {t post : List Nd} {a : Nat} {n : Nd} {ks : List (List Nd)} (h : t.drop a = (n :: ks.flatten) ++ post) (ho : ∀ k ∈ ks, One k) : ∀ i, i ≤ ks.length → chain t i ((a + 1 : Nat) : Int) = ((a + 1 + (ks.take i).flatten.length : Nat) : Int) ∧ t.drop (a + 1 + (ks.take i).flatten.length) = (ks.drop i).flatten ++ post
  | 0, _ => by
    refine ⟨by simp [chain], ?_⟩
    have h1 : t.drop (a + 1) = ks.flatten ++ post := by rw [← List.drop_drop, h]; rfl
    simpa using h1
  | i + 1, hi => by
    obtain ⟨e1, e2⟩ := chain_sub h ho i (by omega)
    have hi2 : i < ks.length := by omega
    have hd : (ks.drop i).flatten = ks[i] ++ (ks.drop (i + 1)).flatten := by rw [List.drop_eq_getElem_cons hi2, List.flatten_cons]
    have ht : (ks.take (i + 1)).flatten.length = (ks.take i).flatten.length + ks[i].length := by
      rw [List.take_succ_eq_append_getElem hi2, List.flatten_append, List.length_append]
      simp
    rw [hd, List.append_assoc] at e2
    have h3 := endV_sub e2 (ho _ (List.getElem_mem hi2))
    refine ⟨by rw [chain_succ11, e1, h3, ht]; omega, ?_⟩
    rw [ht, ← Nat.add_assoc, ← List.drop_drop, e2, List.drop_left]

end Go.Proofs.Ytdnehneldmmeoaa

/-! Plain facts of chapter 11: folding. -/
namespace Go.Proofs.Ytdnehneldmmeoaa
open Go.RowKit

def isOne11 (t : List Nd) : Bool := decide (t.length = 1 ∧ (t.getD 0 nd0).1 = 1)
def isNum11 (t : List Nd) (v : Int) : Bool := isOne11 t && decide ((t.getD 0 nd0).2.1 = v)
/-- What is made of a node and of what its parts have become. -/
def mk11 (n : Nd) (rs : List (List Nd)) : List Nd :=
  if 3 ≤ n.1 ∧ n.1 ≤ 6 then
    if (isOne11 (rs.getD 0 []) && isOne11 (rs.getD 1 [])) = true then
      if doneB n.1 ((rs.getD 0 []).getD 0 nd0).2.1 ((rs.getD 1 []).getD 0 nd0).2.1 = true then [(1, doneV n.1 ((rs.getD 0 []).getD 0 nd0).2.1 ((rs.getD 1 []).getD 0 nd0).2.1, [], [])] else n :: rs.flatten
    else if (decide (n.1 ≤ 4) && isNum11 (rs.getD 1 []) 0 || decide (5 ≤ n.1) && isNum11 (rs.getD 1 []) 1) = true then rs.getD 0 []
    else if (decide (n.1 = 3) && isNum11 (rs.getD 0 []) 0 || decide (n.1 = 5) && isNum11 (rs.getD 0 []) 1) = true then rs.getD 1 []
    else n :: rs.flatten
  else if n.1 = 7 then
    if isOne11 (rs.getD 0 []) = true then (if isNum11 (rs.getD 0 []) 0 = true then rs.getD 2 [] else rs.getD 1 []) else n :: rs.flatten
  else n :: rs.flatten
/-- What mk11 gives: all of it; one number; or one of the parts. -/
theorem mk11_cases (n : Nd) (rs : List (List Nd)) : mk11 n rs = n :: rs.flatten ∨ (3 ≤ n.1 ∧ n.1 ≤ 6 ∧ ∃ v, -2147483648 ≤ v ∧ v ≤ 2147483647 ∧ mk11 n rs = [(1, v, [], [])]) ∨ (3 ≤ n.1 ∧ n.1 ≤ 6 ∧ (mk11 n rs = rs.getD 0 [] ∨ mk11 n rs = rs.getD 1 [])) ∨ (n.1 = 7 ∧ (mk11 n rs = rs.getD 1 [] ∨ mk11 n rs = rs.getD 2 [])) := by
  unfold mk11
  split
  · rename_i h
    split
    · split
      · exact Or.inr (Or.inl ⟨h.1, h.2, _, (doneV_bd _ _ _).1, (doneV_bd _ _ _).2, rfl⟩)
      · exact Or.inl rfl
    · split
      · exact Or.inr (Or.inr (Or.inl ⟨h.1, h.2, Or.inl rfl⟩))
      · split
        · exact Or.inr (Or.inr (Or.inl ⟨h.1, h.2, Or.inr rfl⟩))
        · exact Or.inl rfl
  · split
    · rename_i h7
      split
      · split
        · exact Or.inr (Or.inr (Or.inr ⟨h7, Or.inr rfl⟩))
        · exact Or.inr (Or.inr (Or.inr ⟨h7, Or.inl rfl⟩))
      · exact Or.inl rfl
    · exact Or.inl rfl

/-- What a tree becomes. -/
inductive Fo : List Nd → List Nd → Prop
  | mk (n : Nd) (ks rs : List (List Nd)) : nodeB n = true → ks.length = kidsN n → rs.length = ks.length → (∀ k ∈ ks, One k) → (∀ i, i < ks.length → Fo (ks.getD i []) (rs.getD i [])) → Fo (n :: ks.flatten) (mk11 n rs)
theorem Fo.one {s r : List Nd} (h : Fo s r) : One s := by
  cases h with
  | mk n ks rs hn hk hr ho hf => exact One.mk n ks hn hk ho
theorem mem_getD {α : Type} {l : List α} {x d : α} (h : x ∈ l) : ∃ i, i < l.length ∧ l.getD i d = x := by
  obtain ⟨i, hi, e⟩ := List.mem_iff_getElem.1 h
  exact ⟨i, hi, by simp [List.getD, hi, e]⟩
theorem getD_mem11 {α : Type} {l : List α} {i : Nat} {d : α} (h : i < l.length) : l.getD i d ∈ l := by
  simp [List.getD, h]
theorem num_one {v : Int} (h0 : -2147483648 ≤ v) (h1 : v ≤ 2147483647) : One [((1, v, [], []) : Nd)] := by
  have hn : nodeB ((1, v, [], []) : Nd) = true := decide_eq_true (Or.inl ⟨rfl, ⟨h0, h1⟩, rfl, rfl⟩)
  exact One.mk (1, v, [], []) [] hn rfl (fun k hk => by cases hk)
theorem kids_four {n : Nd} (h : 3 ≤ n.1 ∧ n.1 ≤ 6) : kidsN n = 2 := if_pos h
theorem kids_seven {n : Nd} (h : n.1 = 7) : kidsN n = 3 := by unfold kidsN; rw [if_neg (by omega), if_pos h]
/-- What it becomes is one tree, has no more nodes, and each is one of its own or a number. -/
theorem Fo.res {s r : List Nd} (h : Fo s r) : One r ∧ r.length ≤ s.length ∧ ∀ n ∈ r, n ∈ s ∨ n.1 = 1 := by
  induction h with
  | mk n ks rs hn hk hr ho _ ih =>
    have hall : One (n :: rs.flatten) := One.mk n rs hn (by omega) (fun x hx => by
      obtain ⟨i, hi, e⟩ := mem_getD (d := []) hx
      rw [← e]; exact (ih i (by omega)).1)
    have hlen : rs.flatten.length ≤ ks.flatten.length := by
      have key : ∀ (a b : List (List Nd)), a.length = b.length → (∀ i, i < b.length → (a.getD i []).length ≤ (b.getD i []).length) → a.flatten.length ≤ b.flatten.length := by
        intro a
        induction a with
        | nil => intro b _ _; simp
        | cons x a iha =>
          intro b hb hl
          cases b with
          | nil => cases hb
          | cons y b =>
            have h0 := hl 0 (by simp)
            have h1 := iha b (by simpa using hb) (fun i hi => by have := hl (i + 1) (by simpa using hi); simpa using this)
            simp only [List.flatten_cons, List.length_append]
            simp at h0
            omega
      exact key rs ks hr (fun i hi => (ih i hi).2.1)
    have hpart : ∀ i, i < ks.length → One (rs.getD i []) ∧ (rs.getD i []).length ≤ (n :: ks.flatten).length ∧ ∀ m ∈ rs.getD i [], m ∈ n :: ks.flatten ∨ m.1 = 1 := fun i hi => by
      obtain ⟨h1, h2, h3⟩ := ih i hi
      have hmem : ks.getD i [] ∈ ks := getD_mem11 hi
      refine ⟨h1, ?_, fun m hm => ?_⟩
      · have : (ks.getD i []).length ≤ ks.flatten.length := (List.sublist_flatten_of_mem hmem).length_le
        simp only [List.length_cons]
        omega
      · rcases h3 m hm with h4 | h4
        · exact Or.inl (List.mem_cons_of_mem _ (List.mem_flatten.2 ⟨_, hmem, h4⟩))
        · exact Or.inr h4
    rcases mk11_cases n rs with e | ⟨_, _, v, h0, h1, e⟩ | ⟨h3, h6, e⟩ | ⟨h7, e⟩
    · rw [e]
      refine ⟨hall, by simp only [List.length_cons]; omega, fun m hm => ?_⟩
      rcases List.mem_cons.1 hm with h4 | h4
      · exact Or.inl (by rw [h4]; exact List.mem_cons_self)
      · obtain ⟨x, hx, h5⟩ := List.mem_flatten.1 h4
        obtain ⟨i, hi, e2⟩ := mem_getD (d := []) hx
        rw [← e2] at h5
        exact (hpart i (by omega)).2.2 m h5
    · rw [e]
      exact ⟨num_one h0 h1, by simp, fun m hm => Or.inr (by rw [List.mem_singleton.1 hm])⟩
    · have hk2 := kids_four ⟨h3, h6⟩
      rcases e with e | e
      · rw [e]; exact hpart 0 (by omega)
      · rw [e]; exact hpart 1 (by omega)
    · have hk3 := kids_seven h7
      rcases e with e | e
      · rw [e]; exact hpart 1 (by omega)
      · rw [e]; exact hpart 2 (by omega)
/-- By places, as the code does it. -/
def fold11 : Nat → List Nd → Int → List Nd
  | 0, _, _ => []
  | d + 1, t, a => mk11 (t.getD a.toNat nd0) ((pts10 t a).map (fold11 d t))
theorem pts_sub {t post : List Nd} {a : Nat} {n : Nd} {ks : List (List Nd)} (h : t.drop a = (n :: ks.flatten) ++ post) (hk : ks.length = kidsN n) (ho : ∀ k ∈ ks, One k) : t.getD a nd0 = n ∧ (pts10 t (a : Int)).length = ks.length ∧ ∀ i, i < ks.length → ∃ post', (pts10 t (a : Int)).getD i 0 = ((a + 1 + (ks.take i).flatten.length : Nat) : Int) ∧ t.drop (a + 1 + (ks.take i).flatten.length) = ks.getD i [] ++ post' := by
  have ha : t.getD a nd0 = n := by
    have h1 := congrArg (fun l => l.getD 0 nd0) h
    simp only [List.cons_append] at h1
    rw [show (n :: (ks.flatten ++ post)).getD 0 nd0 = n from rfl] at h1
    rw [← h1]
    simp [List.getD, List.getElem?_drop]
  refine ⟨ha, by rw [pts_len, ha, hk], fun i hi => ?_⟩
  obtain ⟨e1, e2⟩ := chain_sub h ho i (by omega)
  refine ⟨(ks.drop (i + 1)).flatten ++ post, ?_, ?_⟩
  · have hc : (pts10 t (a : Int)).getD i 0 = chain t i ((a + 1 : Nat) : Int) := by
      have key : ∀ (k : Nat) (q : Int) (i : Nat), i < k → (partsGo t k q).getD i 0 = chain t i q := by
        intro k
        induction k with
        | zero => intro q i hi; omega
        | succ k ihk =>
          intro q i hi
          cases i with
          | zero => rfl
          | succ i => rw [partsGo]; exact ihk (endV t q) i (by omega)
      unfold pts10
      rw [Int.toNat_natCast, ha]
      exact key (kidsN n) ((a : Int) + 1) i (by omega)
    rw [hc, e1]
  · rw [e2, List.drop_eq_getElem_cons hi, List.flatten_cons, List.append_assoc]
    simp [List.getD, hi]
/-- FoldedTree. -/
def foldT (t : List Nd) : List Nd := if treeB t = true then fold11 60 t 0 else []
end Go.Proofs.Ytdnehneldmmeoaa

/-! Plain facts of chapter 12: how many registers a tree takes. -/
namespace Go.Proofs.Ytdnehneldmmeoaa
open Go.RowKit

/-- What is made of a node's own number and of its parts' (o: nothing told, or the order there). -/
def most12 : List Int → Int → Int → Int
  | [], _, m => m
  | x :: r, i, m => most12 r (i + 1) (max m (x + i))
def pair12 (o : Option Int) (x y : Int) : Int :=
  match o with
  | none => if x = y then x + 1 else max x y
  | some v => if v = 0 then max x (y + 1) else max y (x + 1)
def mk12 (o : Option Int) (n : Nd) (ks : List Int) : Int :=
  if 3 ≤ n.1 ∧ n.1 ≤ 6 then pair12 o (ks.getD 0 0) (ks.getD 1 0)
  else if n.1 = 7 then max (ks.getD 0 0) (max (ks.getD 1 0) (ks.getD 2 0))
  else most12 ks 0 1
def ord12 (os : List Int) (a : Int) : Option Int := if os = [] then none else some (os.getD a.toNat 0)
def need12 : Nat → List Nd → List Int → Int → Int
  | 0, _, _, _ => 0
  | d + 1, t, os, a => mk12 (ord12 os a) (t.getD a.toNat nd0) ((pts10 t a).map (need12 d t os))
def needT (t : List Nd) : Int := if treeB t = true then need12 60 t [] 0 else 0
def needByT (t : List Nd) (os : List Int) : Int := if treeB t = true ∧ os.length = t.length then need12 60 t os 0 else 0
def firstT (t : List Nd) (a : Int) : Int :=
  if treeB t = true ∧ 0 ≤ a ∧ a < t.length ∧ 3 ≤ (t.getD a.toNat nd0).1 ∧ (t.getD a.toNat nd0).1 ≤ 6 then
    (if need12 60 t [] ((pts10 t a).getD 1 0) ≤ need12 60 t [] ((pts10 t a).getD 0 0) then 0 else 1)
  else -1

theorem most12_ge : ∀ (ks : List Int) (i m : Int), m ≤ most12 ks i m
  | [], _, m => Int.le_refl m
  | _ :: r, i, _ => Int.le_trans (Int.le_max_left _ _) (most12_ge r (i + 1) _)
/-- What a tree takes, wherever it lies. -/
inductive Nu : List Nd → Int → Prop
  | mk (n : Nd) (ks : List (List Nd)) (rs : List Int) : nodeB n = true → ks.length = kidsN n → rs.length = ks.length → (∀ k ∈ ks, One k) → (∀ i, i < ks.length → Nu (ks.getD i []) (rs.getD i 0)) → Nu (n :: ks.flatten) (mk12 none n rs)
theorem map_getD12 {d : Nat} {t : List Nd} {os : List Int} {l : List Int} {i : Nat} (hi : i < l.length) : (l.map (need12 d t os)).getD i 0 = need12 d t os (l.getD i 0) := by
  simp [List.getD, hi]
theorem most12_bd : ∀ (ks : List Int) (i m : Int) (N : Int), m ≤ N → (∀ j, j < ks.length → ks.getD j 0 + i + j ≤ N) → most12 ks i m ≤ N
  | [], _, _, _, h, _ => h
  | x :: r, i, m, N, h, hk => by
    have h0 : x + i ≤ N := by have := hk 0 (by simp); simpa using this
    refine most12_bd r (i + 1) _ N (by omega) (fun j hj => ?_)
    have := hk (j + 1) (by simpa using hj)
    simp at this
    simp
    omega
/-- A tree takes one at least, and no more than it has nodes. -/
theorem need_bd {s : List Nd} (h : One s) (os : List Int) : ∀ (d : Nat) (t post : List Nd) (a : Nat), s.length ≤ d → t.drop a = s ++ post → 1 ≤ need12 d t os (a : Int) ∧ need12 d t os (a : Int) ≤ s.length := by
  induction h with
  | mk n ks hn hk ho ih =>
    intro d t post a hd ht
    rcases d with _ | d
    · simp at hd
    · obtain ⟨e1, e2, e3⟩ := pts_sub ht hk ho
      have hb : ∀ i, i < ks.length → 1 ≤ need12 d t os ((pts10 t (a : Int)).getD i 0) ∧ need12 d t os ((pts10 t (a : Int)).getD i 0) ≤ (ks.getD i []).length := fun i hi => by
        obtain ⟨post', e4, e5⟩ := e3 i hi
        rw [e4]
        have hm : ks.getD i [] ∈ ks := getD_mem11 hi
        have h1 : (ks.getD i []).length ≤ ks.flatten.length := (List.sublist_flatten_of_mem hm).length_le
        exact ih _ hm d t post' _ (by simp only [List.length_cons] at hd; omega) e5
      have hpos : ∀ i, i < ks.length → 0 < (ks.getD i []).length := fun i hi => (ho _ (getD_mem11 hi)).pos
      rw [need12, Int.toNat_natCast, e1]
      unfold mk12
      by_cases h36 : 3 ≤ n.1 ∧ n.1 ≤ 6
      · have hk2 : ks.length = 2 := by rw [hk]; exact kids_four h36
        obtain ⟨k1, k2, rfl⟩ : ∃ x y, ks = [x, y] := by
          match ks, hk2 with
          | [x, y], _ => exact ⟨x, y, rfl⟩
        rw [if_pos h36, map_getD12 (by omega), map_getD12 (by omega)]
        have h0 := hb 0 (by simp)
        have h1 := hb 1 (by simp)
        have q0 := hpos 0 (by simp)
        have q1 := hpos 1 (by simp)
        simp only [show ([k1, k2] : List (List Nd)).getD 0 [] = k1 from rfl, show ([k1, k2] : List (List Nd)).getD 1 [] = k2 from rfl] at h0 h1 q0 q1
        have hl : (n :: [k1, k2].flatten).length = k1.length + k2.length + 1 := by simp
        rw [hl]
        generalize need12 d t os ((pts10 t (a : Int)).getD 0 0) = x at h0 ⊢
        generalize need12 d t os ((pts10 t (a : Int)).getD 1 0) = y at h1 ⊢
        unfold pair12
        split
        · split <;> omega
        · split <;> omega
      · rw [if_neg h36]
        by_cases h7 : n.1 = 7
        · have hk2 : ks.length = 3 := by rw [hk]; exact kids_seven h7
          obtain ⟨k1, k2, k3, rfl⟩ : ∃ x y z, ks = [x, y, z] := by
            match ks, hk2 with
            | [x, y, z], _ => exact ⟨x, y, z, rfl⟩
          rw [if_pos h7, map_getD12 (by omega), map_getD12 (by omega), map_getD12 (by omega)]
          have h0 := hb 0 (by simp)
          have h1 := hb 1 (by simp)
          have h2 := hb 2 (by simp)
          simp only [show ([k1, k2, k3] : List (List Nd)).getD 0 [] = k1 from rfl, show ([k1, k2, k3] : List (List Nd)).getD 1 [] = k2 from rfl, show ([k1, k2, k3] : List (List Nd)).getD 2 [] = k3 from rfl] at h0 h1 h2
          have hl : (n :: [k1, k2, k3].flatten).length = k1.length + (k2.length + k3.length) + 1 := by simp
          rw [hl]
          omega
        · rw [if_neg h7]
          refine ⟨most12_ge _ _ _, most12_bd _ _ _ _ (by simp only [List.length_cons]; omega) (fun j hj => ?_)⟩
          rw [List.length_map] at hj
          rw [map_getD12 hj]
          have h0 := hb j (by omega)
          have key : ∀ (l : List (List Nd)) (j : Nat), j < l.length → (∀ i, i < l.length → 0 < (l.getD i []).length) → (l.getD j []).length + j ≤ l.flatten.length := by
            intro l
            induction l with
            | nil => intro j hj; simp at hj
            | cons x r ihl =>
              intro j hj hp
              cases j with
              | zero => simp
              | succ j =>
                have h1 := ihl j (by simpa using hj) (fun i hi => by have := hp (i + 1) (by simpa using hi); simpa using this)
                have h2 := hp 0 (by simp)
                simp at h1 h2 ⊢
                omega
          have h3 := key ks j (by omega) hpos
          simp only [List.length_cons]
          omega

end Go.Proofs.Ytdnehneldmmeoaa

/-! Plain facts: every node of a tree has an end. -/
namespace Go.Proofs.Ytdnehneldmmeoaa
open Go.RowKit

theorem endGo_tail : ∀ (l : List Nd) (o : Nat), endGo l o = some l.length → ∀ j, j < l.length → ∃ d, endGo (l.drop j) 1 = some d
  | [], _, _, j, hj => by simp at hj
  | n :: r, 0, h, _, _ => by rw [endGo_zero] at h; simp at h
  | n :: r, o + 1, h, 0, _ => by
    rw [show o + 1 = 1 + o by omega, endGo_add] at h
    rw [List.drop_zero]
    cases he : endGo (n :: r) 1 with
    | none => rw [he] at h; cases h
    | some d => exact ⟨d, rfl⟩
  | n :: r, o + 1, h, j + 1, hj => by
    rw [endGo_cons] at h
    split at h
    · cases he : endGo r (o + kidsN n) with
      | none => rw [he] at h; cases h
      | some e =>
        rw [he] at h
        simp only [Option.map_some, Option.some.injEq, List.length_cons] at h
        have e1 : e = r.length := by omega
        rw [e1] at he
        rw [List.drop_succ_cons]
        exact endGo_tail r _ he j (by simpa using hj)
    · cases h
/-- Every node of a tree has an end. -/
theorem tree_ends {t : List Nd} (h : One t) {i : Nat} (hi : i < t.length) : 0 ≤ endV t (i : Int) := by
  have h1 := h.end_ []
  rw [List.append_nil] at h1
  obtain ⟨d, hd⟩ := endGo_tail t 1 h1 i hi
  rw [endV_nat, endN_some hd hi]
  omega

end Go.Proofs.Ytdnehneldmmeoaa

/-! Plain facts of chapter 12: what FnSethi and FnFirst ask. -/
namespace Go.Proofs.Ytdnehneldmmeoaa
open Go.RowKit

theorem need_none {t : List Nd} (h : treeB t = false) (os : List Int) : needT t = 0 ∧ needByT t os = 0 := by
  unfold needT needByT
  rw [h]
  exact ⟨rfl, if_neg (fun e => by cases e.1)⟩
end Go.Proofs.Ytdnehneldmmeoaa

/-! The contract of chapter 6's specification: the node of a word. -/
namespace Go.Proofs.Ytdnehneldmmeoaa
open Go.RowKit

end Go.Proofs.Ytdnehneldmmeoaa

/-! The contract of chapter 6's specification: ReadTree. -/
namespace Go.Proofs.Ytdnehneldmmeoaa
open Go.RowKit

/-- What a row of nodes holds. -/
def nodesV : List Nd → List Value
  | [] => []
  | n :: r => .int .i64 n.1 :: .int .i64 n.2.1 :: .string ⟨n.2.2.1.toArray⟩ :: .string ⟨n.2.2.2.toArray⟩ :: nodesV r

theorem nodesV_len (ns : List Nd) : (nodesV ns).length = ns.length * 4 := by
  induction ns with
  | nil => rfl
  | cons n r ih => simp only [nodesV, List.length_cons, ih]; omega

theorem nodesV_at (ns : List Nd) (j : Nat) (hj : j < ns.length) : (nodesV ns)[j * 4]? = some (.int .i64 (ns.getD j nd0).1) ∧ (nodesV ns)[j * 4 + 1]? = some (.int .i64 (ns.getD j nd0).2.1) ∧ (nodesV ns)[j * 4 + 2]? = some (.string ⟨(ns.getD j nd0).2.2.1.toArray⟩) ∧ (nodesV ns)[j * 4 + 3]? = some (.string ⟨(ns.getD j nd0).2.2.2.toArray⟩) := by
  induction ns generalizing j with
  | nil => simp at hj
  | cons n r ih =>
    cases j with
    | zero => simp [nodesV]
    | succ j =>
      have h := ih j (by simpa using hj)
      rw [show (j + 1) * 4 = j * 4 + 1 + 1 + 1 + 1 by omega]
      simpa [nodesV] using h

/-- A row of nodes that a call owns is a list of nodes. -/
theorem own_nodes {w : World} {base n : Nat} {v : Value} {ns : List Nd} (h : w.ownsRow base 33 4 v n (nodesV ns)) : ns.length = n ∧ ∃ a cap, v = .slice a n cap ∧ NodesIn w a n ns := by
  have hlen : ns.length = n := by have := h.1; rw [nodesV_len] at this; omega
  refine ⟨hlen, ?_⟩
  rcases own_forms h with ⟨rfl, rfl, _⟩ | ⟨g, cp, rfl⟩
  · exact ⟨none, 0, rfl, hlen, fun j hj => by omega⟩
  · refine ⟨some ⟨g, 0, none⟩, cp, rfl, hlen, fun j hj => ?_⟩
    obtain ⟨v0, v1, v2, v3⟩ := nodesV_at ns j (by omega)
    have c0 := h.cellAt (j * 4) (by omega)
    have c1 := h.cellAt (j * 4 + 1) (by omega)
    have c2 := h.cellAt (j * 4 + 2) (by omega)
    have c3 := h.cellAt (j * 4 + 3) (by omega)
    rw [v0] at c0
    rw [v1] at c1
    rw [v2] at c2
    rw [v3] at c3
    refine ⟨g, 0, rfl, (h.lt g rfl).2, ?_, ?_, ?_, ?_⟩
    · rw [Nat.zero_add]; exact c0
    · rw [Nat.zero_add]; exact c1
    · rw [Nat.zero_add]; exact c2
    · rw [Nat.zero_add]; exact c3

theorem infoNode : (Try.prog.info? 33).map (fun i => (i.zero, i.size, i.bytes)) = some (some (.agg #[.int .i64 0, .int .i64 0, .string ⟨#[]⟩, .string ⟨#[]⟩]), 4, 48) := by kernel_rfl

end Go.Proofs.Ytdnehneldmmeoaa

/-! The contracts of chapter 6's specification: l6Parts, PartsOf. -/
namespace Go.Proofs.Ytdnehneldmmeoaa
open Go.RowKit

/-- What a row of numbers holds. -/
def intsV (l : List Int) : List Value := l.map (fun i => Value.int .i64 i)
theorem intsV_len (l : List Int) : (intsV l).length = l.length := by simp [intsV]
theorem intsV_append (x y : List Int) : intsV (x ++ y) = intsV x ++ intsV y := by simp [intsV]
theorem intsV_one (l : List Int) : ∀ u ∈ intsV l, u.oneCell' = true := by
  intro u hu
  simp only [intsV, List.mem_map] at hu
  obtain ⟨i, _, rfl⟩ := hu
  rfl
theorem infoInt : (Try.prog.info? 2).map (fun i => (i.zero, i.size, i.bytes)) = some (some (.int .i64 0), 1, 8) := by kernel_rfl

theorem new_int (w : World) (n : Int) : ∀ j u, (intsV [n])[j]? = some u → (w.alloc (.cells #[.int .i64 n] 2)).cell? ((⟨w.heap.size, 0, none⟩ : Addr).add j) = some u := by
  intro j u hu
  have e : (⟨w.heap.size, 0, none⟩ : Addr).add j = ⟨w.heap.size, j, none⟩ := by unfold Addr.add; split <;> simp_all
  rw [e]
  match j, hu with
  | 0, hu => simp [intsV] at hu; subst hu; simp
  | j + 1, hu => simp [intsV] at hu

theorem endV_le (l : List Nd) (a : Int) : -1 ≤ endV l a ∧ endV l a ≤ l.length := by
  by_cases h : 0 ≤ endV l a
  · by_cases ha : a < 0 ∨ (l.length : Int) ≤ a
    · rw [endV_out l a ha] at h; omega
    · obtain ⟨k, rfl⟩ : ∃ k : Nat, a = (k : Int) := Int.eq_ofNat_of_zero_le (by omega)
      have := end_parts h
      omega
  · by_cases ha : a < 0 ∨ (l.length : Int) ≤ a
    · rw [endV_out l a ha]; omega
    · obtain ⟨k, rfl⟩ : ∃ k : Nat, a = (k : Int) := Int.eq_ofNat_of_zero_le (by omega)
      rw [endV_nat] at h ⊢
      unfold endN at h ⊢
      rw [if_pos (by omega)] at h ⊢
      cases he : endGo (l.drop k) 1 with
      | none => simp only; omega
      | some d => rw [he] at h; simp only at h; omega

set_option maxHeartbeats 2000000 in
set_option maxRecDepth 100000 in
theorem specParts (a : Option Addr) (cap : Nat) (ns : List Nd) (k0 : Nat) (w : World) (hin : NodesIn w a ns.length ns) (hsh : ShortT ns) (hlen : ns.length ≤ 1048576) (hk0 : k0 < ns.length) (hnb : nodeB (ns.getD k0 nd0) = true) :
    Calls Try.prog 44 #[.slice a ns.length cap, .int .i64 k0] w fun e w' => ∃ v, e = .returned v ∧ w'.ownsRow w.heap.size 2 1 v (kidsN (ns.getD k0 nd0)) (intsV (partsGo ns (kidsN (ns.getD k0 nd0)) ((k0 : Int) + 1))) ∧ Below w.heap.size w w' := by
  have hown0 := (World.ownsRow_lit (base := w.heap.size) (e := 2) (size := 1) w #[] 0 (Nat.le_refl _) (by decide) rfl)
  obtain ⟨i0, hi, hz0, hz1, hz2⟩ := info_parts infoInt
  obtain ⟨b, off, rfl, hbl, hcells⟩ := hin.at (by omega)
  obtain ⟨c0, c1, c2, c3⟩ := hcells k0 hk0
  obtain ⟨n, hn⟩ : ∃ n, ns.getD k0 nd0 = n := ⟨_, rfl⟩
  rw [hn] at c0 c1 c2 c3 hnb ⊢
  have HK : Hid (_) := fun W : World => specKids n W
  obtain ⟨hk1, hk3⟩ := @kidsV_ok n hnb
  have HI : Hid (NodesIn w (some ⟨b, off, none⟩) ns.length ns) := hin
  have HE : Hid (_) := fun (j : Int) (W : World) (h : NodesIn W (some ⟨b, off, none⟩) ns.length ns) => specEndOf (some ⟨b, off, none⟩) ns.length cap ns j W h hsh hlen
  have hk0i : (k0 : Int) < 1048576 := by omega
  obtain ⟨kd, aa, p, f⟩ := n
  unfold nodeVal at HK
  simp only at c0 c1 c2 c3 HK
  clear hn hcells hin hsh hnb
  go_enter Try.func44, Try.ntmps44
  go_wp2_with fail
  refine Calls.mono (HK.out _) ?_
  rintro e w1 ⟨rfl, hb1⟩
  rw [hk1]
  obtain ⟨q, hq⟩ : ∃ q, kidsN (kd, aa, p, f) = q := ⟨_, rfl⟩
  rw [hq] at hk3 ⊢
  have HQ : Hid (kidsN (kd, aa, p, f) = q) := hq
  have hB1 := below_boxed hb1
  have hown1 := own_below hown0 hb1
  clear hk1 hq hb1 hown0 HK c0 c1 c2 c3
  go_wp2
  go_loopw [5, 6, 7] (fun v nx kv wr => ∃ (ds : List Int) (r : Nat) (t : Int), kv = .int .i64 r ∧ nx = .int .i64 t ∧ ds.length + r = q ∧ -1 ≤ t ∧ t ≤ 1048576 ∧ Hid (ds ++ partsGo ns r t = partsGo ns q ((k0 : Int) + 1)) ∧ Hid (wr.ownsRow w.heap.size 2 1 v ds.length (intsV ds)) ∧ Below w.heap.size w wr) (fun _ _ kv _ => (intOf kv).toNat)
  case atStart => exact ⟨[], q, (k0 : Int) + 1, rfl, by go_num, by simp, by omega, by omega, (rfl : [] ++ partsGo ns q ((k0 : Int) + 1) = _), hown1, hB1⟩
  case round =>
    obtain ⟨ds, r, t, rfl, rfl, hr, ht0, ht1, HP, HV, hb⟩ := hrel
    clear hown1 hB1
    by_cases hrz : r = 0
    · subst hrz
      have HF : Hid (ds = partsGo ns q ((k0 : Int) + 1) ∧ ds.length = q) := by
        have h := HP.out
        rw [partsGo, List.append_nil] at h
        exact (⟨h, by omega⟩ : ds = partsGo ns q ((k0 : Int) + 1) ∧ ds.length = q)
      go_wp2
      go_ret
      exact ⟨_, rfl, by rw [HQ.out, ← HF.out.1, ← HF.out.2]; exact HV.out, hb⟩
    · obtain ⟨r', rfl⟩ : ∃ r', r = r' + 1 := ⟨r - 1, by omega⟩
      have hr1 : (0 : Int) < ((r' + 1 : Nat) : Int) := by omega
      have hnc := new_int wr t
      have hV := HV.out
      have hB0 := hb
      clear hrz HV
      go_wp2_with (at_builtin; refine wpList_append_own_at _ rfl _ _ 25 rfl w.heap.size 2 i0 _ 1 8 Try.underlying25 hi hz0 hz1 hz2 rfl (by decide) _ _ _ rfl (hV.alloc _) ⟨wr.heap.size, 0, none⟩ 1 1 (intsV [t]) rfl rfl ?c1 ?c2 ?c3 ?c4 ?c5 ?_)
      first | (case c1 => exact hnc) | skip
      first | (case c2 => exact intsV_one _) | skip
      first | (case c3 => unfold maxLen; omega) | skip
      first | (case c4 => omega) | skip
      first | (case c5 => have := hB0.size; simp; try omega) | skip
      intro v' w3 hown3 hgrow3 hnil3 hat3
      have HV3 : Hid (w3.ownsRow w.heap.size 2 1 v' (ds ++ [t]).length (intsV (ds ++ [t]))) := by
        exact (by rw [intsV_append, List.length_append]; exact hown3 : w3.ownsRow w.heap.size 2 1 v' (ds ++ [t]).length (intsV (ds ++ [t])))
      have hb3 : Below w.heap.size w w3 := (hB0.alloc hB0.size _).grown hgrow3 (by have := hB0.size; simp; omega) (fun q e => (hV.lt q e).1)
      clear hown3 hgrow3 hnil3 hat3 hV hB0 hnc hb
      have HP2 : Hid ((ds ++ [t]) ++ partsGo ns r' (endV ns t) = partsGo ns q ((k0 : Int) + 1)) := by
        exact (by rw [← HP.out, partsGo, List.append_assoc]; rfl : (ds ++ [t]) ++ partsGo ns r' (endV ns t) = partsGo ns q ((k0 : Int) + 1))
      have he := endV_le ns t
      go_wp2_with fail
      refine Calls.mono (HE.out t _ (HI.out.below hb3)) ?_
      rintro e w4 ⟨rfl, hb4⟩
      have hB4 := hb3.trans (hb4.mono hb3.size)
      have HV4 : Hid (w4.ownsRow w.heap.size 2 1 v' (ds ++ [t]).length (intsV (ds ++ [t]))) := own_below HV3.out hb4
      obtain ⟨t', htt⟩ : ∃ t', endV ns t = t' := ⟨_, rfl⟩
      rw [htt] at HP2 he ⊢
      have hdl : (ds ++ [t]).length + r' = q := by simp; omega
      clear htt hb4 hb3 HV3 HP
      go_wp2
      go_roundw
      case rel => exact ⟨ds ++ [t], r', t', by go_num, rfl, hdl, by omega, by omega, HP2, HV4, hB4⟩
      case measure => simp [intOf]

end Go.Proofs.Ytdnehneldmmeoaa

/-! The laws' own helpers over rows of numbers: eqInt64S, markInt64S, heldInt64S, likeInts. -/
namespace Go.Proofs.Ytdnehneldmmeoaa
open Go.RowKit

theorem intsV_at (l : List Int) (j : Nat) (h : j < l.length) : (intsV l)[j]? = some (.int .i64 l[j]) := by
  unfold intsV; rw [List.getElem?_map, List.getElem?_eq_getElem h]; rfl

/-- The marks from k on. -/
def marksI (k : Nat) : Nat → List Int
  | 0 => []
  | n + 1 => marksI k n ++ [((k + n : Nat) : Int)]
set_option maxHeartbeats 1000000 in
set_option maxRecDepth 100000 in
theorem eqIntC (w : World) (ba bb ga gb ca cb : Nat) (ls : List Int) (hn : ls.length ≤ 1100000)
    (ha : w.ownsRow ba 2 1 (.slice (some ⟨ga, 0, none⟩) ls.length ca) ls.length (intsV ls)) (hb : w.ownsRow bb 2 1 (.slice (some ⟨gb, 0, none⟩) ls.length cb) ls.length (intsV ls)) :
    Calls Try.prog 25 #[.slice (some ⟨ga, 0, none⟩) ls.length ca, .slice (some ⟨gb, 0, none⟩) ls.length cb] w fun e w' => e = .returned (.bool true) ∧ w.grownBy w' none := by
  have hself : ∀ n : Int, (n != n) = false := by simp
  have HA : Hid (∀ j (hj : j < ls.length), w.cell? ⟨ga, j, none⟩ = some (.int .i64 ls[j])) := fun j hj => by rw [ha.cellAt j (by omega), intsV_at ls j hj]
  have HB : Hid (∀ j (hj : j < ls.length), w.cell? ⟨gb, j, none⟩ = some (.int .i64 ls[j])) := fun j hj => by rw [hb.cellAt j (by omega), intsV_at ls j hj]
  clear ha hb
  go_enter Try.func25, Try.ntmps25
  go_wp2
  go_loopw [5] (fun i wr => ∃ k : Nat, k ≤ ls.length ∧ i = .int .i64 k ∧ w.grownBy wr none) (fun i _ => ls.length - (intOf i).toNat)
  case atStart => exact ⟨0, Nat.zero_le _, rfl, World.grownBy.refl _ _⟩
  case round =>
    obtain ⟨k, hk, rfl, hg⟩ := hrel
    by_cases hlt : k < ls.length
    · obtain ⟨t, ht⟩ : ∃ t, ls[k] = t := ⟨_, rfl⟩
      have hca : wr.cell? ⟨ga, k, none⟩ = some (.int .i64 t) := by rw [← ht]; exact hg.cell (HA.out k hlt) (by simp)
      have hcb : wr.cell? ⟨gb, k, none⟩ = some (.int .i64 t) := by rw [← ht]; exact hg.cell (HB.out k hlt) (by simp)
      clear ht
      go_wp2
      go_region
      all_goals (try go_wp2)
      go_roundw
      case rel => exact ⟨k + 1, by omega, by go_num, hg.trans (grown_drew _ _)⟩
      case measure => simp [intOf]; omega
    · go_wp2
      go_ret
      exact ⟨rfl, hg⟩

end Go.Proofs.Ytdnehneldmmeoaa

/-! The contracts of the exact laws' own helpers over lists of texts: eqStringS, markStringS, heldStringS, markText. -/
namespace Go.Proofs.Ytdnehneldmmeoaa
open Go.RowKit

/-- The digits of k ahead of acc. -/
def markGo : Nat → Nat → List UInt8 → List UInt8
  | 0, _, acc => acc
  | f + 1, k, acc => if k = 0 then acc else markGo f (k / 10) ((48 + UInt8.ofNat (k % 10)) :: acc)
def markL (k : Nat) : List UInt8 := 109 :: markGo k k []

end Go.Proofs.Ytdnehneldmmeoaa

/-! The contracts of the exact laws' own helpers over lists of texts: eqStringS, markStringS, heldStringS. -/
namespace Go.Proofs.Ytdnehneldmmeoaa
open Go.RowKit


/-- The marks from k on. -/
def marksV (k : Nat) : Nat → List Value
  | 0 => []
  | n + 1 => marksV k n ++ [.string ⟨(markL (k + n)).toArray⟩]

end Go.Proofs.Ytdnehneldmmeoaa

/-! The helpers over lists of texts, whatever the list's value: nil, empty or not. -/
namespace Go.Proofs.Ytdnehneldmmeoaa
open Go.RowKit




end Go.Proofs.Ytdnehneldmmeoaa

/-! A list of texts that came in, as the walks take it; the exact laws' helpers over such lists: szStringS, toStringS. -/
namespace Go.Proofs.Ytdnehneldmmeoaa
open Go.ChangeShapes Go.WideShapes Go.ChangeAt Go.RowKit


def szT (m n : Nat) (left : Int) : Int := if (m : Int) + (n : Int) ≤ left then left - (m : Int) - (n : Int) else -1
/-- How many bytes in all. -/
def joinN (ts : List (List UInt8)) : Nat := ts.flatten.length

end Go.Proofs.Ytdnehneldmmeoaa
