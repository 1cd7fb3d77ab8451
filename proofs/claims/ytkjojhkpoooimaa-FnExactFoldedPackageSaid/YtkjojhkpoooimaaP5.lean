/-
  Parts of one proof, one behind the other: Math11, Math11F, TreeS4, TreeS5, TreeS6, FoldS, Math11V, Math11S.
-/
import Derived.Test.YtkjojhkpoooimaaP4
import Derived.Test.YtkjojhkpoooimaaP2
import Derived.Deep.RegionWith
import Derived.Test.YtkjojhkpoooimaaP1

/-! Plain facts of chapter 11: a tree is a node and its parts; what is made of it. -/
namespace Go.Proofs.Ytkjojhkpoooimaa
open Go.RowKit

/-- One whole tree: a node, and its parts one behind the other. -/
inductive One : List Nd → Prop
  | mk (n : Nd) (ks : List (List Nd)) : nodeB n = true → ks.length = kidsN n → (∀ k ∈ ks, One k) → One (n :: ks.flatten)
theorem One.pos {s : List Nd} (h : One s) : 0 < s.length := by cases h; simp
theorem ones_end : ∀ (ks : List (List Nd)) (post : List Nd), (∀ k ∈ ks, ∀ post, endGo (k ++ post) 1 = some k.length) → endGo (ks.flatten ++ post) ks.length = some ks.flatten.length
  | [], post, _ => by simp [endGo_zero]
  | k :: r, post, h => by
    have h1 := h k List.mem_cons_self (r.flatten ++ post)
    have h2 := ones_end r post (fun x hx => h x (List.mem_cons_of_mem _ hx))
    rw [List.flatten_cons, List.append_assoc, List.length_cons, Nat.add_comm, endGo_add, h1]
    simp only [Option.bind_some, List.drop_left, h2, Option.map_some, List.length_append]
theorem One.end_ {s : List Nd} (h : One s) : ∀ post, endGo (s ++ post) 1 = some s.length := by
  induction h with
  | mk n ks hn hk _ ih =>
    intro post
    have h2 := ones_end ks post ih
    rw [List.cons_append, endGo_cons, if_pos hn, Nat.zero_add, ← hk, h2]
    simp
/-- What is left open is so many trees. -/
theorem parse : ∀ (l : List Nd) (o d : Nat), endGo l o = some d → ∃ ks : List (List Nd), ks.length = o ∧ (∀ k ∈ ks, One k) ∧ l.take d = ks.flatten
  | l, 0, d, h => by
    rw [endGo_zero] at h
    injection h with h
    subst h
    exact ⟨[], rfl, (fun k hk => by cases hk), by simp⟩
  | [], o + 1, d, h => by rw [endGo_nil] at h; cases h
  | n :: r, o + 1, d, h => by
    rw [endGo_cons] at h
    split at h
    · rename_i hn
      cases he : endGo r (o + kidsN n) with
      | none => rw [he] at h; cases h
      | some e =>
        rw [he] at h
        simp only [Option.map_some, Option.some.injEq] at h
        subst h
        obtain ⟨ks, hl, ho, hf⟩ := parse r (o + kidsN n) e he
        refine ⟨(n :: (ks.take (kidsN n)).flatten) :: ks.drop (kidsN n), by simp; omega, fun k hk => ?_, ?_⟩
        · rcases List.mem_cons.1 hk with e1 | e1
          · rw [e1]
            exact One.mk n _ hn (by simp; omega) (fun k hk => ho k (List.mem_of_mem_take hk))
          · exact ho k (List.mem_of_mem_drop e1)
        · rw [List.take_succ_cons, hf, List.flatten_cons, List.cons_append, ← List.flatten_append, List.take_append_drop]
    · cases h
theorem one_of_end {l : List Nd} {d : Nat} (h : endGo l 1 = some d) : One (l.take d) := by
  obtain ⟨ks, hl, ho, hf⟩ := parse l 1 d h
  obtain ⟨k, rfl⟩ : ∃ k, ks = [k] := List.length_eq_one_iff.1 hl
  rw [hf]
  simpa using ho k (by simp)
theorem One.pre {a b x y : List Nd} (ha : One a) (hb : One b) (h : a ++ x = b ++ y) : a = b ∧ x = y := by
  have h1 := ha.end_ x
  rw [h, hb.end_ y] at h1
  injection h1 with h1
  exact List.append_inj h h1.symm
theorem ones_inj : ∀ {ks js : List (List Nd)}, (∀ k ∈ ks, One k) → (∀ k ∈ js, One k) → ks.length = js.length → ks.flatten = js.flatten → ks = js
  | [], [], _, _, _, _ => rfl
  | [], _ :: _, _, _, h, _ => by cases h
  | _ :: _, [], _, _, h, _ => by cases h
  | a :: r, b :: t, ha, hb, hl, hf => by
    rw [List.flatten_cons, List.flatten_cons] at hf
    obtain ⟨rfl, h2⟩ := (ha a List.mem_cons_self).pre (hb b List.mem_cons_self) hf
    rw [ones_inj (fun k hk => ha k (List.mem_cons_of_mem _ hk)) (fun k hk => hb k (List.mem_cons_of_mem _ hk)) (by simpa using hl) h2]

/-! Trees in a list. -/
theorem endV_sub {t s post : List Nd} {a : Nat} (h : t.drop a = s ++ post) (hs : One s) : endV t (a : Int) = ((a + s.length : Nat) : Int) := by
  have ha : a < t.length := by
    rcases Nat.lt_or_ge a t.length with h1 | h1
    · exact h1
    · rw [List.drop_eq_nil_of_le h1] at h
      have := hs.pos
      have h2 := congrArg List.length h
      simp at h2
      omega
  rw [endV_nat]
  unfold endN
  rw [if_pos ha, h, hs.end_ post]
  simp
theorem sub_of {t : List Nd} {a : Nat} (h : 0 ≤ endV t (a : Int)) : ∃ s post, t.drop a = s ++ post ∧ One s := by
  rw [endV_nat] at h
  unfold endN at h
  split at h
  · cases he : endGo (t.drop a) 1 with
    | none => rw [he] at h; simp at h
    | some d => exact ⟨_, _, (List.take_append_drop d (t.drop a)).symm, one_of_end he⟩
  · omega
theorem treeB_one {t : List Nd} : treeB t = true ↔ (t.length ≤ 60 ∧ One t) := by
  constructor
  · intro h
    have h1 := of_decide_eq_true h
    refine ⟨h1.1.2, ?_⟩
    obtain ⟨s, post, e, hs⟩ := sub_of (t := t) (a := 0) (by rw [show ((0 : Nat) : Int) = 0 from rfl, h1.2]; omega)
    have h2 := endV_sub e hs
    rw [show ((0 : Nat) : Int) = 0 from rfl, h1.2] at h2
    rw [List.drop_zero] at e
    have h3 := congrArg List.length e
    rw [List.length_append] at h3
    have h4 : post = [] := List.eq_nil_of_length_eq_zero (by omega)
    rw [e, h4, List.append_nil]
    exact hs
  · rintro ⟨h1, h2⟩
    have h3 := endV_sub (t := t) (a := 0) (post := []) (by simp) h2
    refine decide_eq_true ⟨⟨h2.pos, h1⟩, ?_⟩
    rw [show (0 : Int) = ((0 : Nat) : Int) from rfl, h3]
    simp
theorem chain_succ11 (l : List Nd) : ∀ (k : Nat) (q : Int), chain l (k + 1) q = endV l (chain l k q)
  | 0, _ => rfl
  | k + 1, q => by rw [chain, chain_succ11 l k]; rfl
/-- The parts of a node lie one behind the other. -/
theorem chain_sub {t post : List Nd} {a : Nat} {n : Nd} {ks : List (List Nd)} (h : t.drop a = (n :: ks.flatten) ++ post) (ho : ∀ k ∈ ks, One k) : ∀ i, i ≤ ks.length → chain t i ((a + 1 : Nat) : Int) = ((a + 1 + (ks.take i).flatten.length : Nat) : Int) ∧ t.drop (a + 1 + (ks.take i).flatten.length) = (ks.drop i).flatten ++ post
  | 0, _ => by
    refine ⟨by simp [chain], ?_⟩
    have h1 : t.drop (a + 1) = ks.flatten ++ post := by rw [← List.drop_drop, h]; rfl
    simpa using h1
  | i + 1, hi => by
    obtain ⟨e1, e2⟩ := chain_sub h ho i (by omega)
    have hi2 : i < ks.length := by omega
    have hd : (ks.drop i).flatten = ks[i] ++ (ks.drop (i + 1)).flatten := by rw [List.drop_eq_getElem_cons hi2, List.flatten_cons]
    have ht : (ks.take (i + 1)).flatten.length = (ks.take i).flatten.length + ks[i].length := by
      rw [List.take_succ_eq_append_getElem hi2, List.flatten_append, List.length_append]
      simp
    rw [hd, List.append_assoc] at e2
    have h3 := endV_sub e2 (ho _ (List.getElem_mem hi2))
    refine ⟨by rw [chain_succ11, e1, h3, ht]; omega, ?_⟩
    rw [ht, ← Nat.add_assoc, ← List.drop_drop, e2, List.drop_left]

end Go.Proofs.Ytkjojhkpoooimaa

/-! Plain facts of chapter 11: folding. -/
namespace Go.Proofs.Ytkjojhkpoooimaa
open Go.RowKit

def isOne11 (t : List Nd) : Bool := decide (t.length = 1 ∧ (t.getD 0 nd0).1 = 1)
def isNum11 (t : List Nd) (v : Int) : Bool := isOne11 t && decide ((t.getD 0 nd0).2.1 = v)
/-- What is made of a node and of what its parts have become. -/
def mk11 (n : Nd) (rs : List (List Nd)) : List Nd :=
  if 3 ≤ n.1 ∧ n.1 ≤ 6 then
    if (isOne11 (rs.getD 0 []) && isOne11 (rs.getD 1 [])) = true then
      if doneB n.1 ((rs.getD 0 []).getD 0 nd0).2.1 ((rs.getD 1 []).getD 0 nd0).2.1 = true then [(1, doneV n.1 ((rs.getD 0 []).getD 0 nd0).2.1 ((rs.getD 1 []).getD 0 nd0).2.1, [], [])] else n :: rs.flatten
    else if (decide (n.1 ≤ 4) && isNum11 (rs.getD 1 []) 0 || decide (5 ≤ n.1) && isNum11 (rs.getD 1 []) 1) = true then rs.getD 0 []
    else if (decide (n.1 = 3) && isNum11 (rs.getD 0 []) 0 || decide (n.1 = 5) && isNum11 (rs.getD 0 []) 1) = true then rs.getD 1 []
    else n :: rs.flatten
  else if n.1 = 7 then
    if isOne11 (rs.getD 0 []) = true then (if isNum11 (rs.getD 0 []) 0 = true then rs.getD 2 [] else rs.getD 1 []) else n :: rs.flatten
  else n :: rs.flatten
/-- What mk11 gives: all of it; one number; or one of the parts. -/
theorem mk11_cases (n : Nd) (rs : List (List Nd)) : mk11 n rs = n :: rs.flatten ∨ (3 ≤ n.1 ∧ n.1 ≤ 6 ∧ ∃ v, -2147483648 ≤ v ∧ v ≤ 2147483647 ∧ mk11 n rs = [(1, v, [], [])]) ∨ (3 ≤ n.1 ∧ n.1 ≤ 6 ∧ (mk11 n rs = rs.getD 0 [] ∨ mk11 n rs = rs.getD 1 [])) ∨ (n.1 = 7 ∧ (mk11 n rs = rs.getD 1 [] ∨ mk11 n rs = rs.getD 2 [])) := by
  unfold mk11
  split
  · rename_i h
    split
    · split
      · exact Or.inr (Or.inl ⟨h.1, h.2, _, (doneV_bd _ _ _).1, (doneV_bd _ _ _).2, rfl⟩)
      · exact Or.inl rfl
    · split
      · exact Or.inr (Or.inr (Or.inl ⟨h.1, h.2, Or.inl rfl⟩))
      · split
        · exact Or.inr (Or.inr (Or.inl ⟨h.1, h.2, Or.inr rfl⟩))
        · exact Or.inl rfl
  · split
    · rename_i h7
      split
      · split
        · exact Or.inr (Or.inr (Or.inr ⟨h7, Or.inr rfl⟩))
        · exact Or.inr (Or.inr (Or.inr ⟨h7, Or.inl rfl⟩))
      · exact Or.inl rfl
    · exact Or.inl rfl

/-- What a tree becomes. -/
inductive Fo : List Nd → List Nd → Prop
  | mk (n : Nd) (ks rs : List (List Nd)) : nodeB n = true → ks.length = kidsN n → rs.length = ks.length → (∀ k ∈ ks, One k) → (∀ i, i < ks.length → Fo (ks.getD i []) (rs.getD i [])) → Fo (n :: ks.flatten) (mk11 n rs)
theorem Fo.one {s r : List Nd} (h : Fo s r) : One s := by
  cases h with
  | mk n ks rs hn hk hr ho hf => exact One.mk n ks hn hk ho
theorem mem_getD {α : Type} {l : List α} {x d : α} (h : x ∈ l) : ∃ i, i < l.length ∧ l.getD i d = x := by
  obtain ⟨i, hi, e⟩ := List.mem_iff_getElem.1 h
  exact ⟨i, hi, by simp [List.getD, hi, e]⟩
theorem getD_mem11 {α : Type} {l : List α} {i : Nat} {d : α} (h : i < l.length) : l.getD i d ∈ l := by
  simp [List.getD, h]
theorem num_one {v : Int} (h0 : -2147483648 ≤ v) (h1 : v ≤ 2147483647) : One [((1, v, [], []) : Nd)] := by
  have hn : nodeB ((1, v, [], []) : Nd) = true := decide_eq_true (Or.inl ⟨rfl, ⟨h0, h1⟩, rfl, rfl⟩)
  exact One.mk (1, v, [], []) [] hn rfl (fun k hk => by cases hk)
theorem kids_four {n : Nd} (h : 3 ≤ n.1 ∧ n.1 ≤ 6) : kidsN n = 2 := if_pos h
theorem kids_seven {n : Nd} (h : n.1 = 7) : kidsN n = 3 := by unfold kidsN; rw [if_neg (by omega), if_pos h]
/-- What it becomes is one tree, has no more nodes, and each is one of its own or a number. -/
theorem Fo.res {s r : List Nd} (h : Fo s r) : One r ∧ r.length ≤ s.length ∧ ∀ n ∈ r, n ∈ s ∨ n.1 = 1 := by
  induction h with
  | mk n ks rs hn hk hr ho _ ih =>
    have hall : One (n :: rs.flatten) := One.mk n rs hn (by omega) (fun x hx => by
      obtain ⟨i, hi, e⟩ := mem_getD (d := []) hx
      rw [← e]; exact (ih i (by omega)).1)
    have hlen : rs.flatten.length ≤ ks.flatten.length := by
      have key : ∀ (a b : List (List Nd)), a.length = b.length → (∀ i, i < b.length → (a.getD i []).length ≤ (b.getD i []).length) → a.flatten.length ≤ b.flatten.length := by
        intro a
        induction a with
        | nil => intro b _ _; simp
        | cons x a iha =>
          intro b hb hl
          cases b with
          | nil => cases hb
          | cons y b =>
            have h0 := hl 0 (by simp)
            have h1 := iha b (by simpa using hb) (fun i hi => by have := hl (i + 1) (by simpa using hi); simpa using this)
            simp only [List.flatten_cons, List.length_append]
            simp at h0
            omega
      exact key rs ks hr (fun i hi => (ih i hi).2.1)
    have hpart : ∀ i, i < ks.length → One (rs.getD i []) ∧ (rs.getD i []).length ≤ (n :: ks.flatten).length ∧ ∀ m ∈ rs.getD i [], m ∈ n :: ks.flatten ∨ m.1 = 1 := fun i hi => by
      obtain ⟨h1, h2, h3⟩ := ih i hi
      have hmem : ks.getD i [] ∈ ks := getD_mem11 hi
      refine ⟨h1, ?_, fun m hm => ?_⟩
      · have : (ks.getD i []).length ≤ ks.flatten.length := (List.sublist_flatten_of_mem hmem).length_le
        simp only [List.length_cons]
        omega
      · rcases h3 m hm with h4 | h4
        · exact Or.inl (List.mem_cons_of_mem _ (List.mem_flatten.2 ⟨_, hmem, h4⟩))
        · exact Or.inr h4
    rcases mk11_cases n rs with e | ⟨_, _, v, h0, h1, e⟩ | ⟨h3, h6, e⟩ | ⟨h7, e⟩
    · rw [e]
      refine ⟨hall, by simp only [List.length_cons]; omega, fun m hm => ?_⟩
      rcases List.mem_cons.1 hm with h4 | h4
      · exact Or.inl (by rw [h4]; exact List.mem_cons_self)
      · obtain ⟨x, hx, h5⟩ := List.mem_flatten.1 h4
        obtain ⟨i, hi, e2⟩ := mem_getD (d := []) hx
        rw [← e2] at h5
        exact (hpart i (by omega)).2.2 m h5
    · rw [e]
      exact ⟨num_one h0 h1, by simp, fun m hm => Or.inr (by rw [List.mem_singleton.1 hm])⟩
    · have hk2 := kids_four ⟨h3, h6⟩
      rcases e with e | e
      · rw [e]; exact hpart 0 (by omega)
      · rw [e]; exact hpart 1 (by omega)
    · have hk3 := kids_seven h7
      rcases e with e | e
      · rw [e]; exact hpart 1 (by omega)
      · rw [e]; exact hpart 2 (by omega)
/-- Again it is as it is. -/
theorem Fo.again {s r : List Nd} (h : Fo s r) : Fo r r := by
  induction h with
  | mk n ks rs hn hk hr ho hfo ih =>
    have hones : ∀ x ∈ rs, One x := fun x hx => by
      obtain ⟨i, hi, e⟩ := mem_getD (d := []) hx
      rw [← e]; exact (hfo i (by omega)).res.1
    have hnum : ∀ v : Int, -2147483648 ≤ v → v ≤ 2147483647 → Fo [((1, v, [], []) : Nd)] [((1, v, [], []) : Nd)] := fun v h0 h1 => by
      have hn : nodeB ((1, v, [], []) : Nd) = true := decide_eq_true (Or.inl ⟨rfl, ⟨h0, h1⟩, rfl, rfl⟩)
      have h := Fo.mk (1, v, [], []) [] [] hn rfl rfl (fun k hk => by cases hk) (fun i hi => absurd hi (Nat.not_lt_zero _))
      exact h
    rcases mk11_cases n rs with e | ⟨_, _, v, h0, h1, e⟩ | ⟨h3, h6, e⟩ | ⟨h7, e⟩
    · have h := Fo.mk n rs rs hn (by omega) rfl hones (fun i hi => ih i (by omega))
      rw [e] at h
      rw [e]
      exact h
    · rw [e]; exact hnum v h0 h1
    · have hk2 := kids_four ⟨h3, h6⟩
      rcases e with e | e
      · rw [e]; exact ih 0 (by omega)
      · rw [e]; exact ih 1 (by omega)
    · have hk3 := kids_seven h7
      rcases e with e | e
      · rw [e]; exact ih 1 (by omega)
      · rw [e]; exact ih 2 (by omega)
/-- It becomes but one tree. -/
theorem Fo.uniq {s r : List Nd} (h : Fo s r) : ∀ {r' : List Nd}, Fo s r' → r = r' := by
  induction h with
  | mk n ks rs hn hk hr ho _ ih =>
    intro r' h'
    generalize hs : n :: ks.flatten = s at h'
    cases h' with
    | mk m js qs hm hj hq hoj hfj =>
      injection hs with e1 e2
      subst e1
      obtain rfl := ones_inj ho hoj (by omega) e2
      have : rs = qs := by
        refine List.ext_getElem (by omega) (fun i h1 h2 => ?_)
        have h3 := ih i (by omega) (hfj i (by omega))
        simpa [List.getD, h1, h2] using h3
      rw [this]
/-- By places, as the code does it. -/
def fold11 : Nat → List Nd → Int → List Nd
  | 0, _, _ => []
  | d + 1, t, a => mk11 (t.getD a.toNat nd0) ((pts10 t a).map (fold11 d t))
theorem pts_sub {t post : List Nd} {a : Nat} {n : Nd} {ks : List (List Nd)} (h : t.drop a = (n :: ks.flatten) ++ post) (hk : ks.length = kidsN n) (ho : ∀ k ∈ ks, One k) : t.getD a nd0 = n ∧ (pts10 t (a : Int)).length = ks.length ∧ ∀ i, i < ks.length → ∃ post', (pts10 t (a : Int)).getD i 0 = ((a + 1 + (ks.take i).flatten.length : Nat) : Int) ∧ t.drop (a + 1 + (ks.take i).flatten.length) = ks.getD i [] ++ post' := by
  have ha : t.getD a nd0 = n := by
    have h1 := congrArg (fun l => l.getD 0 nd0) h
    simp only [List.cons_append] at h1
    rw [show (n :: (ks.flatten ++ post)).getD 0 nd0 = n from rfl] at h1
    rw [← h1]
    simp [List.getD, List.getElem?_drop]
  refine ⟨ha, by rw [pts_len, ha, hk], fun i hi => ?_⟩
  obtain ⟨e1, e2⟩ := chain_sub h ho i (by omega)
  refine ⟨(ks.drop (i + 1)).flatten ++ post, ?_, ?_⟩
  · have hc : (pts10 t (a : Int)).getD i 0 = chain t i ((a + 1 : Nat) : Int) := by
      have key : ∀ (k : Nat) (q : Int) (i : Nat), i < k → (partsGo t k q).getD i 0 = chain t i q := by
        intro k
        induction k with
        | zero => intro q i hi; omega
        | succ k ihk =>
          intro q i hi
          cases i with
          | zero => rfl
          | succ i => rw [partsGo]; exact ihk (endV t q) i (by omega)
      unfold pts10
      rw [Int.toNat_natCast, ha]
      exact key (kidsN n) ((a : Int) + 1) i (by omega)
    rw [hc, e1]
  · rw [e2, List.drop_eq_getElem_cons hi, List.flatten_cons, List.append_assoc]
    simp [List.getD, hi]
theorem fold_fo {s : List Nd} (h : One s) : ∀ (d : Nat) (t post : List Nd) (a : Nat), s.length ≤ d → t.drop a = s ++ post → Fo s (fold11 d t (a : Int)) := by
  induction h with
  | mk n ks hn hk ho ih =>
    intro d t post a hd ht
    rcases d with _ | d
    · simp at hd
    · obtain ⟨e1, e2, e3⟩ := pts_sub ht hk ho
      rw [fold11, Int.toNat_natCast, e1]
      refine Fo.mk n ks _ hn hk (by rw [List.length_map, e2]) ho (fun i hi => ?_)
      obtain ⟨post', e4, e5⟩ := e3 i hi
      have e6 : ((pts10 t (a : Int)).map (fold11 d t)).getD i [] = fold11 d t ((a + 1 + (ks.take i).flatten.length : Nat) : Int) := by
        rw [← e4]
        simp [List.getD, e2, hi]
      rw [e6]
      have hm : ks.getD i [] ∈ ks := getD_mem11 hi
      refine ih _ hm d t post' _ ?_ e5
      have h1 : (ks.getD i []).length ≤ ks.flatten.length := (List.sublist_flatten_of_mem hm).length_le
      simp only [List.length_cons] at hd
      omega
/-- FoldedTree. -/
def foldT (t : List Nd) : List Nd := if treeB t = true then fold11 60 t 0 else []
theorem foldT_fo {t : List Nd} (h : treeB t = true) : Fo t (foldT t) := by
  unfold foldT
  rw [if_pos h]
  obtain ⟨h1, h2⟩ := treeB_one.1 h
  exact fold_fo h2 60 t [] 0 h1 (by simp)
theorem foldT_ok {t : List Nd} (h : treeB t = true) : treeB (foldT t) = true ∧ (foldT t).length ≤ t.length ∧ foldT (foldT t) = foldT t := by
  have hf := foldT_fo h
  obtain ⟨h1, h2, _⟩ := hf.res
  have h3 : treeB (foldT t) = true := treeB_one.2 ⟨Nat.le_trans h2 (treeB_one.1 h).1, h1⟩
  exact ⟨h3, h2, (foldT_fo h3).uniq hf.again⟩

end Go.Proofs.Ytkjojhkpoooimaa

/-! The contract of chapter 6's specification: the node of a word. -/
namespace Go.Proofs.Ytkjojhkpoooimaa
open Go.RowKit

theorem part_le (ws : List (List UInt8)) (j : Nat) : (ws.getD j []).length ≤ ws.flatten.length := by
  induction ws generalizing j with
  | nil => simp
  | cons x r ih =>
    cases j with
    | zero => simp
    | succ j => have := ih j; simp only [List.getD_cons_succ, List.flatten_cons, List.length_append]; omega

end Go.Proofs.Ytkjojhkpoooimaa

/-! The contract of chapter 6's specification: ReadTree. -/
namespace Go.Proofs.Ytkjojhkpoooimaa
open Go.RowKit

/-- What a row of nodes holds. -/
def nodesV : List Nd → List Value
  | [] => []
  | n :: r => .int .i64 n.1 :: .int .i64 n.2.1 :: .string ⟨n.2.2.1.toArray⟩ :: .string ⟨n.2.2.2.toArray⟩ :: nodesV r

theorem nodesV_len (ns : List Nd) : (nodesV ns).length = ns.length * 4 := by
  induction ns with
  | nil => rfl
  | cons n r ih => simp only [nodesV, List.length_cons, ih]; omega

theorem nodesV_append (x y : List Nd) : nodesV (x ++ y) = nodesV x ++ nodesV y := by
  induction x with
  | nil => rfl
  | cons n r ih => simp only [List.cons_append, nodesV, ih]

theorem nodesV_one (ns : List Nd) : ∀ u ∈ nodesV ns, u.oneCell' = true := by
  induction ns with
  | nil => intro u hu; cases hu
  | cons n r ih =>
    intro u hu
    simp only [nodesV, List.mem_cons] at hu
    rcases hu with rfl | rfl | rfl | rfl | h
    · rfl
    · rfl
    · rfl
    · rfl
    · exact ih u h

theorem nodesV_at (ns : List Nd) (j : Nat) (hj : j < ns.length) : (nodesV ns)[j * 4]? = some (.int .i64 (ns.getD j nd0).1) ∧ (nodesV ns)[j * 4 + 1]? = some (.int .i64 (ns.getD j nd0).2.1) ∧ (nodesV ns)[j * 4 + 2]? = some (.string ⟨(ns.getD j nd0).2.2.1.toArray⟩) ∧ (nodesV ns)[j * 4 + 3]? = some (.string ⟨(ns.getD j nd0).2.2.2.toArray⟩) := by
  induction ns generalizing j with
  | nil => simp at hj
  | cons n r ih =>
    cases j with
    | zero => simp [nodesV]
    | succ j =>
      have h := ih j (by simpa using hj)
      rw [show (j + 1) * 4 = j * 4 + 1 + 1 + 1 + 1 by omega]
      simpa [nodesV] using h

/-- A row of nodes that a call owns is a list of nodes. -/
theorem own_nodes {w : World} {base n : Nat} {v : Value} {ns : List Nd} (h : w.ownsRow base 28 4 v n (nodesV ns)) : ns.length = n ∧ ∃ a cap, v = .slice a n cap ∧ NodesIn w a n ns := by
  have hlen : ns.length = n := by have := h.1; rw [nodesV_len] at this; omega
  refine ⟨hlen, ?_⟩
  rcases own_forms h with ⟨rfl, rfl, _⟩ | ⟨g, cp, rfl⟩
  · exact ⟨none, 0, rfl, hlen, fun j hj => by omega⟩
  · refine ⟨some ⟨g, 0, none⟩, cp, rfl, hlen, fun j hj => ?_⟩
    obtain ⟨v0, v1, v2, v3⟩ := nodesV_at ns j (by omega)
    have c0 := h.cellAt (j * 4) (by omega)
    have c1 := h.cellAt (j * 4 + 1) (by omega)
    have c2 := h.cellAt (j * 4 + 2) (by omega)
    have c3 := h.cellAt (j * 4 + 3) (by omega)
    rw [v0] at c0
    rw [v1] at c1
    rw [v2] at c2
    rw [v3] at c3
    refine ⟨g, 0, rfl, (h.lt g rfl).2, ?_, ?_, ?_, ?_⟩
    · rw [Nat.zero_add]; exact c0
    · rw [Nat.zero_add]; exact c1
    · rw [Nat.zero_add]; exact c2
    · rw [Nat.zero_add]; exact c3

theorem infoNode : (Try.prog.info? 28).map (fun i => (i.zero, i.size, i.bytes)) = some (some (.agg #[.int .i64 0, .int .i64 0, .string ⟨#[]⟩, .string ⟨#[]⟩]), 4, 48) := by kernel_rfl

end Go.Proofs.Ytkjojhkpoooimaa

/-! The contracts of chapter 6's specification: l6Parts, PartsOf. -/
namespace Go.Proofs.Ytkjojhkpoooimaa
open Go.RowKit

/-- What a row of numbers holds. -/
def intsV (l : List Int) : List Value := l.map (fun i => Value.int .i64 i)
theorem intsV_append (x y : List Int) : intsV (x ++ y) = intsV x ++ intsV y := by simp [intsV]
theorem intsV_one (l : List Int) : ∀ u ∈ intsV l, u.oneCell' = true := by
  intro u hu
  simp only [intsV, List.mem_map] at hu
  obtain ⟨i, _, rfl⟩ := hu
  rfl
theorem infoInt : (Try.prog.info? 2).map (fun i => (i.zero, i.size, i.bytes)) = some (some (.int .i64 0), 1, 8) := by kernel_rfl

theorem new_int (w : World) (n : Int) : ∀ j u, (intsV [n])[j]? = some u → (w.alloc (.cells #[.int .i64 n] 2)).cell? ((⟨w.heap.size, 0, none⟩ : Addr).add j) = some u := by
  intro j u hu
  have e : (⟨w.heap.size, 0, none⟩ : Addr).add j = ⟨w.heap.size, j, none⟩ := by unfold Addr.add; split <;> simp_all
  rw [e]
  match j, hu with
  | 0, hu => simp [intsV] at hu; subst hu; simp
  | j + 1, hu => simp [intsV] at hu

theorem endV_le (l : List Nd) (a : Int) : -1 ≤ endV l a ∧ endV l a ≤ l.length := by
  by_cases h : 0 ≤ endV l a
  · by_cases ha : a < 0 ∨ (l.length : Int) ≤ a
    · rw [endV_out l a ha] at h; omega
    · obtain ⟨k, rfl⟩ : ∃ k : Nat, a = (k : Int) := Int.eq_ofNat_of_zero_le (by omega)
      have := end_parts h
      omega
  · by_cases ha : a < 0 ∨ (l.length : Int) ≤ a
    · rw [endV_out l a ha]; omega
    · obtain ⟨k, rfl⟩ : ∃ k : Nat, a = (k : Int) := Int.eq_ofNat_of_zero_le (by omega)
      rw [endV_nat] at h ⊢
      unfold endN at h ⊢
      rw [if_pos (by omega)] at h ⊢
      cases he : endGo (l.drop k) 1 with
      | none => simp only; omega
      | some d => rw [he] at h; simp only at h; omega

set_option maxHeartbeats 2000000 in
set_option maxRecDepth 100000 in
theorem specParts (a : Option Addr) (cap : Nat) (ns : List Nd) (k0 : Nat) (w : World) (hin : NodesIn w a ns.length ns) (hsh : ShortT ns) (hlen : ns.length ≤ 1048576) (hk0 : k0 < ns.length) (hnb : nodeB (ns.getD k0 nd0) = true) :
    Calls Try.prog 31 #[.slice a ns.length cap, .int .i64 k0] w fun e w' => ∃ v, e = .returned v ∧ w'.ownsRow w.heap.size 2 1 v (kidsN (ns.getD k0 nd0)) (intsV (partsGo ns (kidsN (ns.getD k0 nd0)) ((k0 : Int) + 1))) ∧ Below w.heap.size w w' := by
  have hown0 := (World.ownsRow_lit (base := w.heap.size) (e := 2) (size := 1) w #[] 0 (Nat.le_refl _) (by decide) rfl)
  obtain ⟨i0, hi, hz0, hz1, hz2⟩ := info_parts infoInt
  obtain ⟨b, off, rfl, hbl, hcells⟩ := hin.at (by omega)
  obtain ⟨c0, c1, c2, c3⟩ := hcells k0 hk0
  obtain ⟨n, hn⟩ : ∃ n, ns.getD k0 nd0 = n := ⟨_, rfl⟩
  rw [hn] at c0 c1 c2 c3 hnb ⊢
  have HK : Hid (_) := fun W : World => specKids n W
  obtain ⟨hk1, hk3⟩ := @kidsV_ok n hnb
  have HI : Hid (NodesIn w (some ⟨b, off, none⟩) ns.length ns) := hin
  have HE : Hid (_) := fun (j : Int) (W : World) (h : NodesIn W (some ⟨b, off, none⟩) ns.length ns) => specEndOf (some ⟨b, off, none⟩) ns.length cap ns j W h hsh hlen
  have hk0i : (k0 : Int) < 1048576 := by omega
  obtain ⟨kd, aa, p, f⟩ := n
  unfold nodeVal at HK
  simp only at c0 c1 c2 c3 HK
  clear hn hcells hin hsh hnb
  go_enter Try.func31, Try.ntmps31
  go_wp2_with fail
  refine Calls.mono (HK.out _) ?_
  rintro e w1 ⟨rfl, hb1⟩
  rw [hk1]
  obtain ⟨q, hq⟩ : ∃ q, kidsN (kd, aa, p, f) = q := ⟨_, rfl⟩
  rw [hq] at hk3 ⊢
  have HQ : Hid (kidsN (kd, aa, p, f) = q) := hq
  have hB1 := below_boxed hb1
  have hown1 := own_below hown0 hb1
  clear hk1 hq hb1 hown0 HK c0 c1 c2 c3
  go_wp2
  go_loopw [5, 6, 7] (fun v nx kv wr => ∃ (ds : List Int) (r : Nat) (t : Int), kv = .int .i64 r ∧ nx = .int .i64 t ∧ ds.length + r = q ∧ -1 ≤ t ∧ t ≤ 1048576 ∧ Hid (ds ++ partsGo ns r t = partsGo ns q ((k0 : Int) + 1)) ∧ Hid (wr.ownsRow w.heap.size 2 1 v ds.length (intsV ds)) ∧ Below w.heap.size w wr) (fun _ _ kv _ => (intOf kv).toNat)
  case atStart => exact ⟨[], q, (k0 : Int) + 1, rfl, by go_num, by simp, by omega, by omega, (rfl : [] ++ partsGo ns q ((k0 : Int) + 1) = _), hown1, hB1⟩
  case round =>
    obtain ⟨ds, r, t, rfl, rfl, hr, ht0, ht1, HP, HV, hb⟩ := hrel
    clear hown1 hB1
    by_cases hrz : r = 0
    · subst hrz
      have HF : Hid (ds = partsGo ns q ((k0 : Int) + 1) ∧ ds.length = q) := by
        have h := HP.out
        rw [partsGo, List.append_nil] at h
        exact (⟨h, by omega⟩ : ds = partsGo ns q ((k0 : Int) + 1) ∧ ds.length = q)
      go_wp2
      go_ret
      exact ⟨_, rfl, by rw [HQ.out, ← HF.out.1, ← HF.out.2]; exact HV.out, hb⟩
    · obtain ⟨r', rfl⟩ : ∃ r', r = r' + 1 := ⟨r - 1, by omega⟩
      have hr1 : (0 : Int) < ((r' + 1 : Nat) : Int) := by omega
      have hnc := new_int wr t
      have hV := HV.out
      have hB0 := hb
      clear hrz HV
      go_wp2_with (at_builtin; refine wpList_append_own_at _ rfl _ _ 38 rfl w.heap.size 2 i0 _ 1 8 Try.underlying38 hi hz0 hz1 hz2 rfl (by decide) _ _ _ rfl (hV.alloc _) ⟨wr.heap.size, 0, none⟩ 1 1 (intsV [t]) rfl rfl ?c1 ?c2 ?c3 ?c4 ?c5 ?_)
      first | (case c1 => exact hnc) | skip
      first | (case c2 => exact intsV_one _) | skip
      first | (case c3 => unfold maxLen; omega) | skip
      first | (case c4 => omega) | skip
      first | (case c5 => have := hB0.size; simp; try omega) | skip
      intro v' w3 hown3 hgrow3 hnil3 hat3
      have HV3 : Hid (w3.ownsRow w.heap.size 2 1 v' (ds ++ [t]).length (intsV (ds ++ [t]))) := by
        exact (by rw [intsV_append, List.length_append]; exact hown3 : w3.ownsRow w.heap.size 2 1 v' (ds ++ [t]).length (intsV (ds ++ [t])))
      have hb3 : Below w.heap.size w w3 := (hB0.alloc hB0.size _).grown hgrow3 (by have := hB0.size; simp; omega) (fun q e => (hV.lt q e).1)
      clear hown3 hgrow3 hnil3 hat3 hV hB0 hnc hb
      have HP2 : Hid ((ds ++ [t]) ++ partsGo ns r' (endV ns t) = partsGo ns q ((k0 : Int) + 1)) := by
        exact (by rw [← HP.out, partsGo, List.append_assoc]; rfl : (ds ++ [t]) ++ partsGo ns r' (endV ns t) = partsGo ns q ((k0 : Int) + 1))
      have he := endV_le ns t
      go_wp2_with fail
      refine Calls.mono (HE.out t _ (HI.out.below hb3)) ?_
      rintro e w4 ⟨rfl, hb4⟩
      have hB4 := hb3.trans (hb4.mono hb3.size)
      have HV4 : Hid (w4.ownsRow w.heap.size 2 1 v' (ds ++ [t]).length (intsV (ds ++ [t]))) := own_below HV3.out hb4
      obtain ⟨t', htt⟩ : ∃ t', endV ns t = t' := ⟨_, rfl⟩
      rw [htt] at HP2 he ⊢
      have hdl : (ds ++ [t]).length + r' = q := by simp; omega
      clear htt hb4 hb3 HV3 HP
      go_wp2
      go_roundw
      case rel => exact ⟨ds ++ [t], r', t', by go_num, rfl, hdl, by omega, by omega, HP2, HV4, hB4⟩
      case measure => simp [intOf]


end Go.Proofs.Ytkjojhkpoooimaa

/-! The contracts of chapter 11's specification: is it one number? -/
namespace Go.Proofs.Ytkjojhkpoooimaa
open Go.RowKit

theorem one_no {ns : List Nd} (h : ns.length ≠ 1) : isOne11 ns = false := decide_eq_false (fun e => h e.1)
theorem one_eq (k v : Int) (p q : List UInt8) : isOne11 [((k, v, p, q) : Nd)] = (k == 1) := by
  unfold isOne11
  by_cases h : k = 1
  · simp [h]
  · simp [h]
theorem num_eq (k v u : Int) (p q : List UInt8) : isNum11 [((k, v, p, q) : Nd)] u = ((k == 1) && (v == u)) := by
  unfold isNum11
  rw [one_eq]
  by_cases h : v = u
  · simp [h]
  · simp [h]

set_option maxHeartbeats 1000000 in
set_option maxRecDepth 100000 in
theorem specOne11 (a : Option Addr) (len cap : Nat) (ns : List Nd) (w : World) (hin : NodesIn w a len ns) (hlen : len ≤ 1048576) :
    Calls Try.prog 76 #[.slice a len cap] w fun e w' => e = .returned (.bool (isOne11 ns)) ∧ w' = w := by
  obtain rfl : ns.length = len := hin.1
  by_cases hl : ns.length = 1
  · obtain ⟨n, rfl⟩ := List.length_eq_one_iff.1 hl
    obtain ⟨b, off, rfl, _, c0, _⟩ := hin.2 0 (by simp)
    obtain ⟨k, v, p, q⟩ := n
    simp at c0
    rw [one_eq]
    clear hin hl hlen
    rcases hk : (k == 1) with _ | _
    · go_enter Try.func76, Try.ntmps76
      go_wp2
      go_ret
      exact ⟨rfl, rfl⟩
    · go_enter Try.func76, Try.ntmps76
      go_wp2
      go_ret
      exact ⟨rfl, rfl⟩
  · rw [one_no hl]
    have hb : ((ns.length : Int) == 1) = false := beq_eq_false_iff_ne.2 (by omega)
    clear hin hl
    go_enter Try.func76, Try.ntmps76
    go_wp2
    go_ret
    exact ⟨rfl, rfl⟩

set_option maxHeartbeats 1000000 in
set_option maxRecDepth 100000 in
theorem specNum11 (a : Option Addr) (len cap : Nat) (ns : List Nd) (u : Int) (w : World) (hin : NodesIn w a len ns) (hlen : len ≤ 1048576) :
    Calls Try.prog 78 #[.slice a len cap, .int .i64 u] w fun e w' => e = .returned (.bool (isNum11 ns u)) ∧ w' = w := by
  obtain rfl : ns.length = len := hin.1
  by_cases hl : ns.length = 1
  · obtain ⟨n, rfl⟩ := List.length_eq_one_iff.1 hl
    obtain ⟨b, off, rfl, _, c0, c1, _⟩ := hin.2 0 (by simp)
    obtain ⟨k, v, p, q⟩ := n
    simp at c0 c1
    rw [num_eq]
    clear hin hl hlen
    rcases hk : (k == 1) with _ | _
    · go_enter Try.func78, Try.ntmps78
      go_wp2
      go_ret
      exact ⟨rfl, rfl⟩
    · rcases hv : (v == u) with _ | _
      · go_enter Try.func78, Try.ntmps78
        go_wp2
        go_ret
        exact ⟨rfl, rfl⟩
      · go_enter Try.func78, Try.ntmps78
        go_wp2
        go_ret
        exact ⟨rfl, rfl⟩
  · have hn : isNum11 ns u = false := by unfold isNum11; rw [one_no hl]; rfl
    rw [hn]
    have hb : ((ns.length : Int) == 1) = false := beq_eq_false_iff_ne.2 (by omega)
    clear hin hl hn
    go_enter Try.func78, Try.ntmps78
    go_wp2
    go_ret
    exact ⟨rfl, rfl⟩

end Go.Proofs.Ytkjojhkpoooimaa

/-! Plain facts of chapter 11: what a tree means does not ask where it lies; more depth means the same. -/
namespace Go.Proofs.Ytkjojhkpoooimaa
open Go.RowKit

def cz10 : Cmp10 := fun s => (0, s)
def argsK : List Cmp10 → List Int → (List Int → Cmp10) → Cmp10
  | [], acc, K => K acc
  | C :: r, acc, K => bind10 C (fun v => argsK r (acc ++ [v]) K)
/-- A node by what its parts mean. -/
def nodeK (ps : List Pk) (R : Rec10) (xs : List Int) (n : Nd) (cs : List Cmp10) : Cmp10 :=
  if n.1 = 1 then fin10 n.2.1 true
  else if n.1 = 2 then fin10 (xs.getD n.2.1.toNat 0) true
  else if n.1 = 7 then bind10 (cs.getD 0 cz10) (fun k => if k ≠ 0 then cs.getD 1 cz10 else cs.getD 2 cz10)
  else if n.1 = 8 then argsK cs [] (fun own => R (tree10 ps n) 0 own)
  else bind10 (cs.getD 0 cz10) (fun x => bind10 (cs.getD 1 cz10) (fun y => fin10 (doneV n.1 x y) (doneB n.1 x y)))
/-! More depth than fuel. -/
def Agr (d : Nat) (C D : Cmp10) : Prop := ∀ f, f < d → C (f, 0) = D (f, 0)
theorem Agr.bind {d : Nat} {C D : Cmp10} {E F : Int → Cmp10} (h : Agr d C D) (hC : Sk10 C) (hk : ∀ v, Agr d (E v) (F v)) (hE : ∀ v, Sk10 (E v)) (hF : ∀ v, Sk10 (F v)) : Agr d (bind10 C E) (bind10 D F) := fun f hf => by
  unfold bind10
  rw [← h f hf]
  have hl := hC.less (f, 0)
  generalize C (f, 0) = r at hl ⊢
  obtain ⟨v, l, c⟩ := r
  simp only at hl ⊢
  by_cases hc : c = 0
  · subst hc
    exact hk v l (by omega)
  · rw [(hE v).stop (l, c) hc, (hF v).stop (l, c) hc]
theorem Agr.args {d : Nat} {R S : Int → Cmp10} (h : ∀ p, Agr d (R p) (S p)) (hR : ∀ p, Sk10 (R p)) (hS : ∀ p, Sk10 (S p)) {K L : List Int → Cmp10} (hk : ∀ l, Agr d (K l) (L l)) (hK : ∀ l, Sk10 (K l)) (hL : ∀ l, Sk10 (L l)) : ∀ (pa acc : List Int), Agr d (args10 R pa acc K) (args10 S pa acc L)
  | [], acc => hk acc
  | p :: r, acc => (h p).bind (hR p) (fun v => Agr.args h hR hS hk hK hL r (acc ++ [v])) (fun _ => Sk10.args hR hK r _) (fun _ => Sk10.args hS hL r _)
end Go.Proofs.Ytkjojhkpoooimaa

/-! Plain facts of chapter 11: folded it means the same, with no more fuel. -/
namespace Go.Proofs.Ytkjojhkpoooimaa
open Go.RowKit

/-- Where the one is not stopped by fuel the other gives the same and leaves no less. -/
def Leq (d : Nat) (C D : Cmp10) : Prop := ∀ f, f < d → (C (f, 0)).2.2 ≠ 2 → (D (f, 0)).1 = (C (f, 0)).1 ∧ (D (f, 0)).2.2 = (C (f, 0)).2.2 ∧ (C (f, 0)).2.1 ≤ (D (f, 0)).2.1
theorem Leq.refl (d : Nat) (C : Cmp10) : Leq d C C := fun _ _ _ => ⟨rfl, rfl, Nat.le_refl _⟩
/-! Numbers. -/
theorem one_is {t : List Nd} (h : isOne11 t = true) : ∃ v p f, t = [((1, v, p, f) : Nd)] := by
  obtain ⟨h1, h2⟩ := of_decide_eq_true h
  obtain ⟨n, rfl⟩ := List.length_eq_one_iff.1 h1
  obtain ⟨k, v, p, f⟩ := n
  simp at h2
  subst h2
  exact ⟨v, p, f, rfl⟩
end Go.Proofs.Ytkjojhkpoooimaa
