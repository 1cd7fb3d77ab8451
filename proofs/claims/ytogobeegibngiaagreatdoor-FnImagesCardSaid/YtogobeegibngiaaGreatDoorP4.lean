/-
  Parts of one proof, one behind the other: Math8H, Math8P, Math9, Math9L, Math10, Math10L, Math10T, Math6D, Math11, Math11F, Math12, Math11T, Math12L, Math13, TreeS4.
-/
import Derived.Test.YtogobeegibngiaaGreatDoorP3
import Derived.Test.YtogobeegibngiaaGreatDoorP1
import Derived.Deep.RegionWith

/-! Plain facts: a heap of numbers in a list: one goes up, one goes down, the least is first. -/
namespace Go.Proofs.YtogobeegibngiaaGreatDoor
open Go.RowKit

end Go.Proofs.YtogobeegibngiaaGreatDoor

/-! Plain facts of chapter 8: packages by their places: who waits for how many, who is next, what is reached. -/
namespace Go.Proofs.YtogobeegibngiaaGreatDoor
open Go.RowKit

/-! What is reached. -/
end Go.Proofs.YtogobeegibngiaaGreatDoor

/-! Plain facts of chapter 9: what a call is told, what is wrong in a function, a package, a project; exports. -/
namespace Go.Proofs.YtogobeegibngiaaGreatDoor
open Go.RowKit

/-! A call. -/
def farB (ps : List Pk) (p : Pk) (q : List UInt8) : Bool := decide (q ≠ p.1 ∧ (¬ q ∈ p.2.1 ∨ at8 ps q < 0))
def ofPk (ps : List Pk) (p : Pk) (q : List UInt8) : Pk := if q = p.1 then p else ps.getD (at8 ps q).toNat pk0
def call9 (ps : List Pk) (p : Pk) (i : Int) (n : Nd) : Int :=
  if farB ps p n.2.2.1 = true then 1
  else if atV (ofPk ps p n.2.2.1).2.2 n.2.2.2 < 0 ∨ (n.2.2.1 = p.1 ∧ i ≤ atV (ofPk ps p n.2.2.1).2.2 n.2.2.2) then 2
  else if ((ofPk ps p n.2.2.1).2.2.getD (atV (ofPk ps p n.2.2.1).2.2 n.2.2.2).toNat fn0).2.1 ≠ n.2.1 then 3 else 0
/-- The package that a name is of. -/
def pkOf (ps : List Pk) (s : List UInt8) : Pk := ps.getD (at8 ps s).toNat pk0
def callB (ps : List Pk) (s : List UInt8) (i : Int) (n : Nd) : Prop := projB ps = true ∧ 0 ≤ at8 ps s ∧ nodeB n = true ∧ n.1 = 8 ∧ 0 ≤ i ∧ i < ((pkOf ps s).2.2.length : Int)
instance (ps : List Pk) (s : List UInt8) (i : Int) (n : Nd) : Decidable (callB ps s i n) := by unfold callB; infer_instance
/-! A function. -/
def arg9 (f : Fn) (n : Nd) : Prop := n.1 = 2 ∧ f.2.1 ≤ n.2.1
instance (f : Fn) (n : Nd) : Decidable (arg9 f n) := by unfold arg9; infer_instance
def bad9 (ps : List Pk) (p : Pk) (i : Nat) (n : Nd) : Prop := n.1 = 8 ∧ call9 ps p i n ≠ 0
instance (ps : List Pk) (p : Pk) (i : Nat) (n : Nd) : Decidable (bad9 ps p i n) := by unfold bad9; infer_instance
def fnGo (ps : List Pk) (p : Pk) (i : Nat) (f : Fn) : List Nd → Int → Int
  | [], c => c
  | n :: r, c => if arg9 f n then 3 else fnGo ps p i f r (if bad9 ps p i n then 4 else c)
def func9 (ps : List Pk) (p : Pk) (i : Nat) : Int := fnGo ps p i (p.2.2.getD i fn0) (p.2.2.getD i fn0).2.2 0
/-! A package, a project. -/
def miss9 (ps : List Pk) (p : Pk) : Prop := ∃ m ∈ p.2.1, at8 ps m < 0
instance (ps : List Pk) (p : Pk) : Decidable (miss9 ps p) := by unfold miss9; infer_instance
/-! Exports. -/
end Go.Proofs.YtogobeegibngiaaGreatDoor

/-! Plain facts of chapter 9: what FnFaults tests. -/
namespace Go.Proofs.YtogobeegibngiaaGreatDoor
open Go.RowKit

/-! What FnCalls looks for. -/
end Go.Proofs.YtogobeegibngiaaGreatDoor

/-! Plain facts of chapter 10: what a tree means, tree by tree; fuel. -/
namespace Go.Proofs.YtogobeegibngiaaGreatDoor
open Go.RowKit

/-! A walk: what fuel is left, and why it stopped. -/
/-- The parts of a node, and the tree of the function that a call is of. -/
def pts10 (t : List Nd) (a : Int) : List Int := partsGo t (kidsN (t.getD a.toNat nd0)) (a + 1)
/-! What every such walk keeps. -/
/-! Words. -/
def Good10 (t : List Nd) : Prop := ∀ n ∈ t, nodeB n = true
end Go.Proofs.YtogobeegibngiaaGreatDoor

/-! Plain facts of chapter 10: Meant, Burnt; what FnMeans tests. -/
namespace Go.Proofs.YtogobeegibngiaaGreatDoor
open Go.RowKit

end Go.Proofs.YtogobeegibngiaaGreatDoor

/-! Plain facts of chapter 10: where nothing is wrong, what a walk meets in a tree. -/
namespace Go.Proofs.YtogobeegibngiaaGreatDoor
open Go.RowKit

/-! Parts. -/
theorem endV_neg (l : List Nd) {a : Int} (h : a < 0) : endV l a = -1 := if_pos h
theorem endV_ge (l : List Nd) (a : Int) : -1 ≤ endV l a := by
  unfold endV
  split
  · omega
  · unfold endN
    split
    · split <;> omega
    · omega
theorem chain_neg10 (l : List Nd) : ∀ k, chain l k (-1) = -1
  | 0 => rfl
  | k + 1 => by rw [chain, endV_neg l (by decide), chain_neg10 l k]
theorem parts_in (l : List Nd) : ∀ (k : Nat) (next : Int), 0 ≤ chain l k next → ∀ i, i < k → 0 ≤ endV l ((partsGo l k next).getD i 0)
  | 0, _, _, i, hi => absurd hi (Nat.not_lt_zero _)
  | k + 1, next, h, i, hi => by
    rw [chain] at h
    have h0 : 0 ≤ endV l next := by
      rcases Int.lt_or_le (endV l next) 0 with h1 | h1
      · have e : endV l next = -1 := by have := endV_ge l next; omega
        rw [e, chain_neg10] at h
        omega
      · exact h1
    rw [partsGo]
    rcases i with _ | i
    · exact h0
    · exact parts_in l k _ h i (by omega)
theorem endV_place {l : List Nd} {a : Int} (h : 0 ≤ endV l a) : ∃ q : Nat, a = (q : Int) ∧ q < l.length := by
  rcases Int.lt_or_le a 0 with h1 | h1
  · rw [endV_neg l h1] at h; omega
  · obtain ⟨q, rfl⟩ : ∃ q : Nat, a = (q : Int) := ⟨a.toNat, by omega⟩
    exact ⟨q, rfl, (end_parts h).1⟩
/-- A part of a node that stands in a tree is a place in the tree. -/
theorem part_place {t : List Nd} {a : Nat} (h : 0 ≤ endV t (a : Int)) {i : Nat} (hi : i < kidsN (t.getD a nd0)) : ∃ q : Nat, (pts10 t (a : Int)).getD i 0 = (q : Int) ∧ q < t.length ∧ 0 ≤ endV t (q : Int) := by
  obtain ⟨_, _, hc, h1, _⟩ := end_parts h
  have hc2 : chain t (kidsN (t.getD a nd0)) ((a : Int) + 1) = endV t (a : Int) := hc
  have hp := parts_in t (kidsN (t.getD a nd0)) ((a : Int) + 1) (by rw [hc2]; exact h) i hi
  have e : (pts10 t (a : Int)).getD i 0 = (partsGo t (kidsN (t.getD a nd0)) ((a : Int) + 1)).getD i 0 := rfl
  rw [← e] at hp
  obtain ⟨q, hq, hl⟩ := endV_place hp
  rw [hq] at hp
  exact ⟨q, hq, hl, hp⟩
theorem pts_len (t : List Nd) (a : Nat) : (pts10 t (a : Int)).length = kidsN (t.getD a nd0) := by
  unfold pts10
  rw [partsGo_len, Int.toNat_natCast]

/-! A tree of a function of a project without fault. -/
end Go.Proofs.YtogobeegibngiaaGreatDoor

/-! Plain facts of drawn trees: no tree at a place of a drawn list has more than 60 nodes. -/
namespace Go.Proofs.YtogobeegibngiaaGreatDoor
open Go.RowKit

end Go.Proofs.YtogobeegibngiaaGreatDoor

/-! Plain facts of chapter 11: a tree is a node and its parts; what is made of it. -/
namespace Go.Proofs.YtogobeegibngiaaGreatDoor
open Go.RowKit

/-- One whole tree: a node, and its parts one behind the other. -/
inductive One : List Nd → Prop
  | mk (n : Nd) (ks : List (List Nd)) : nodeB n = true → ks.length = kidsN n → (∀ k ∈ ks, One k) → One (n :: ks.flatten)
theorem One.pos {s : List Nd} (h : One s) : 0 < s.length := by cases h; simp
theorem ones_end : ∀ (ks : List (List Nd)) (post : List Nd), (∀ k ∈ ks, ∀ post, endGo (k ++ post) 1 = some k.length) → endGo (ks.flatten ++ post) ks.length = some ks.flatten.length
  | [], post, _ => by simp [endGo_zero]
  | k :: r, post, h => by
    have h1 := h k List.mem_cons_self (r.flatten ++ post)
    have h2 := ones_end r post (fun x hx => h x (List.mem_cons_of_mem _ hx))
    rw [List.flatten_cons, List.append_assoc, List.length_cons, Nat.add_comm, endGo_add, h1]
    simp only [Option.bind_some, List.drop_left, h2, Option.map_some, List.length_append]
theorem One.end_ {s : List Nd} (h : One s) : ∀ post, endGo (s ++ post) 1 = some s.length := by
  induction h with
  | mk n ks hn hk _ ih =>
    intro post
    have h2 := ones_end ks post ih
    rw [List.cons_append, endGo_cons, if_pos hn, Nat.zero_add, ← hk, h2]
    simp
/-- What is left open is so many trees. -/
theorem parse : ∀ (l : List Nd) (o d : Nat), endGo l o = some d → ∃ ks : List (List Nd), ks.length = o ∧ (∀ k ∈ ks, One k) ∧ l.take d = ks.flatten
  | l, 0, d, h => by
    rw [endGo_zero] at h
    injection h with h
    subst h
    exact ⟨[], rfl, (fun k hk => by cases hk), by simp⟩
  | [], o + 1, d, h => by rw [endGo_nil] at h; cases h
  | n :: r, o + 1, d, h => by
    rw [endGo_cons] at h
    split at h
    · rename_i hn
      cases he : endGo r (o + kidsN n) with
      | none => rw [he] at h; cases h
      | some e =>
        rw [he] at h
        simp only [Option.map_some, Option.some.injEq] at h
        subst h
        obtain ⟨ks, hl, ho, hf⟩ := parse r (o + kidsN n) e he
        refine ⟨(n :: (ks.take (kidsN n)).flatten) :: ks.drop (kidsN n), by simp; omega, fun k hk => ?_, ?_⟩
        · rcases List.mem_cons.1 hk with e1 | e1
          · rw [e1]
            exact One.mk n _ hn (by simp; omega) (fun k hk => ho k (List.mem_of_mem_take hk))
          · exact ho k (List.mem_of_mem_drop e1)
        · rw [List.take_succ_cons, hf, List.flatten_cons, List.cons_append, ← List.flatten_append, List.take_append_drop]
    · cases h
theorem one_of_end {l : List Nd} {d : Nat} (h : endGo l 1 = some d) : One (l.take d) := by
  obtain ⟨ks, hl, ho, hf⟩ := parse l 1 d h
  obtain ⟨k, rfl⟩ : ∃ k, ks = [k] := List.length_eq_one_iff.1 hl
  rw [hf]
  simpa using ho k (by simp)
theorem One.pre {a b x y : List Nd} (ha : One a) (hb : One b) (h : a ++ x = b ++ y) : a = b ∧ x = y := by
  have h1 := ha.end_ x
  rw [h, hb.end_ y] at h1
  injection h1 with h1
  exact List.append_inj h h1.symm
theorem ones_inj : ∀ {ks js : List (List Nd)}, (∀ k ∈ ks, One k) → (∀ k ∈ js, One k) → ks.length = js.length → ks.flatten = js.flatten → ks = js
  | [], [], _, _, _, _ => rfl
  | [], _ :: _, _, _, h, _ => by cases h
  | _ :: _, [], _, _, h, _ => by cases h
  | a :: r, b :: t, ha, hb, hl, hf => by
    rw [List.flatten_cons, List.flatten_cons] at hf
    obtain ⟨rfl, h2⟩ := (ha a List.mem_cons_self).pre (hb b List.mem_cons_self) hf
    rw [ones_inj (fun k hk => ha k (List.mem_cons_of_mem _ hk)) (fun k hk => hb k (List.mem_cons_of_mem _ hk)) (by simpa using hl) h2]

/-! Trees in a list. -/
theorem endV_sub {t s post : List Nd} {a : Nat} (h : t.drop a = s ++ post) (hs : One s) : endV t (a : Int) = ((a + s.length : Nat) : Int) := by
  have ha : a < t.length := by
    rcases Nat.lt_or_ge a t.length with h1 | h1
    · exact h1
    · rw [List.drop_eq_nil_of_le h1] at h
      have := hs.pos
      have h2 := congrArg List.length h
      simp at h2
      omega
  rw [endV_nat]
  unfold endN
  rw [if_pos ha, h, hs.end_ post]
  simp
theorem sub_of {t : List Nd} {a : Nat} (h : 0 ≤ endV t (a : Int)) : ∃ s post, t.drop a = s ++ post ∧ One s := by
  rw [endV_nat] at h
  unfold endN at h
  split at h
  · cases he : endGo (t.drop a) 1 with
    | none => rw [he] at h; simp at h
    | some d => exact ⟨_, _, (List.take_append_drop d (t.drop a)).symm, one_of_end he⟩
  · omega
theorem treeB_one {t : List Nd} : treeB t = true ↔ (t.length ≤ 60 ∧ One t) := by
  constructor
  · intro h
    have h1 := of_decide_eq_true h
    refine ⟨h1.1.2, ?_⟩
    obtain ⟨s, post, e, hs⟩ := sub_of (t := t) (a := 0) (by rw [show ((0 : Nat) : Int) = 0 from rfl, h1.2]; omega)
    have h2 := endV_sub e hs
    rw [show ((0 : Nat) : Int) = 0 from rfl, h1.2] at h2
    rw [List.drop_zero] at e
    have h3 := congrArg List.length e
    rw [List.length_append] at h3
    have h4 : post = [] := List.eq_nil_of_length_eq_zero (by omega)
    rw [e, h4, List.append_nil]
    exact hs
  · rintro ⟨h1, h2⟩
    have h3 := endV_sub (t := t) (a := 0) (post := []) (by simp) h2
    refine decide_eq_true ⟨⟨h2.pos, h1⟩, ?_⟩
    rw [show (0 : Int) = ((0 : Nat) : Int) from rfl, h3]
    simp
theorem chain_succ11 (l : List Nd) : ∀ (k : Nat) (q : Int), chain l (k + 1) q = endV l (chain l k q)
  | 0, _ => rfl
  | k + 1, q => by rw [chain, chain_succ11 l k]; rfl
/-- The parts of a node lie one behind the other. -/
theorem chain_sub {t post : List Nd} {a : Nat} {n : Nd} {ks : List (List Nd)} (h : t.drop a = (n :: ks.flatten) ++ post) (ho : ∀ k ∈ ks, One k) : ∀ i, i ≤ ks.length → chain t i ((a + 1 : Nat) : Int) = ((a + 1 + (ks.take i).flatten.length : Nat) : Int) ∧ t.drop (a + 1 + (ks.take i).flatten.length) = (ks.drop i).flatten ++ post
  | 0, _ => by
    refine ⟨by simp [chain], ?_⟩
    have h1 : t.drop (a + 1) = ks.flatten ++ post := by rw [← List.drop_drop, h]; rfl
    simpa using h1
  | i + 1, hi => by
    obtain ⟨e1, e2⟩ := chain_sub h ho i (by omega)
    have hi2 : i < ks.length := by omega
    have hd : (ks.drop i).flatten = ks[i] ++ (ks.drop (i + 1)).flatten := by rw [List.drop_eq_getElem_cons hi2, List.flatten_cons]
    have ht : (ks.take (i + 1)).flatten.length = (ks.take i).flatten.length + ks[i].length := by
      rw [List.take_succ_eq_append_getElem hi2, List.flatten_append, List.length_append]
      simp
    rw [hd, List.append_assoc] at e2
    have h3 := endV_sub e2 (ho _ (List.getElem_mem hi2))
    refine ⟨by rw [chain_succ11, e1, h3, ht]; omega, ?_⟩
    rw [ht, ← Nat.add_assoc, ← List.drop_drop, e2, List.drop_left]

end Go.Proofs.YtogobeegibngiaaGreatDoor

/-! Plain facts of chapter 11: folding. -/
namespace Go.Proofs.YtogobeegibngiaaGreatDoor
open Go.RowKit

theorem getD_mem11 {α : Type} {l : List α} {i : Nat} {d : α} (h : i < l.length) : l.getD i d ∈ l := by
  simp [List.getD, h]
theorem kids_four {n : Nd} (h : 3 ≤ n.1 ∧ n.1 ≤ 6) : kidsN n = 2 := if_pos h
theorem kids_seven {n : Nd} (h : n.1 = 7) : kidsN n = 3 := by unfold kidsN; rw [if_neg (by omega), if_pos h]
theorem pts_sub {t post : List Nd} {a : Nat} {n : Nd} {ks : List (List Nd)} (h : t.drop a = (n :: ks.flatten) ++ post) (hk : ks.length = kidsN n) (ho : ∀ k ∈ ks, One k) : t.getD a nd0 = n ∧ (pts10 t (a : Int)).length = ks.length ∧ ∀ i, i < ks.length → ∃ post', (pts10 t (a : Int)).getD i 0 = ((a + 1 + (ks.take i).flatten.length : Nat) : Int) ∧ t.drop (a + 1 + (ks.take i).flatten.length) = ks.getD i [] ++ post' := by
  have ha : t.getD a nd0 = n := by
    have h1 := congrArg (fun l => l.getD 0 nd0) h
    simp only [List.cons_append] at h1
    rw [show (n :: (ks.flatten ++ post)).getD 0 nd0 = n from rfl] at h1
    rw [← h1]
    simp [List.getD, List.getElem?_drop]
  refine ⟨ha, by rw [pts_len, ha, hk], fun i hi => ?_⟩
  obtain ⟨e1, e2⟩ := chain_sub h ho i (by omega)
  refine ⟨(ks.drop (i + 1)).flatten ++ post, ?_, ?_⟩
  · have hc : (pts10 t (a : Int)).getD i 0 = chain t i ((a + 1 : Nat) : Int) := by
      have key : ∀ (k : Nat) (q : Int) (i : Nat), i < k → (partsGo t k q).getD i 0 = chain t i q := by
        intro k
        induction k with
        | zero => intro q i hi; omega
        | succ k ihk =>
          intro q i hi
          cases i with
          | zero => rfl
          | succ i => rw [partsGo]; exact ihk (endV t q) i (by omega)
      unfold pts10
      rw [Int.toNat_natCast, ha]
      exact key (kidsN n) ((a : Int) + 1) i (by omega)
    rw [hc, e1]
  · rw [e2, List.drop_eq_getElem_cons hi, List.flatten_cons, List.append_assoc]
    simp [List.getD, hi]
end Go.Proofs.YtogobeegibngiaaGreatDoor

/-! Plain facts of chapter 12: how many registers a tree takes. -/
namespace Go.Proofs.YtogobeegibngiaaGreatDoor
open Go.RowKit

/-- What is made of a node's own number and of its parts' (o: nothing told, or the order there). -/
def most12 : List Int → Int → Int → Int
  | [], _, m => m
  | x :: r, i, m => most12 r (i + 1) (max m (x + i))
def pair12 (o : Option Int) (x y : Int) : Int :=
  match o with
  | none => if x = y then x + 1 else max x y
  | some v => if v = 0 then max x (y + 1) else max y (x + 1)
def mk12 (o : Option Int) (n : Nd) (ks : List Int) : Int :=
  if 3 ≤ n.1 ∧ n.1 ≤ 6 then pair12 o (ks.getD 0 0) (ks.getD 1 0)
  else if n.1 = 7 then max (ks.getD 0 0) (max (ks.getD 1 0) (ks.getD 2 0))
  else most12 ks 0 1
def ord12 (os : List Int) (a : Int) : Option Int := if os = [] then none else some (os.getD a.toNat 0)
def need12 : Nat → List Nd → List Int → Int → Int
  | 0, _, _, _ => 0
  | d + 1, t, os, a => mk12 (ord12 os a) (t.getD a.toNat nd0) ((pts10 t a).map (need12 d t os))
def needT (t : List Nd) : Int := if treeB t = true then need12 60 t [] 0 else 0
def firstT (t : List Nd) (a : Int) : Int :=
  if treeB t = true ∧ 0 ≤ a ∧ a < t.length ∧ 3 ≤ (t.getD a.toNat nd0).1 ∧ (t.getD a.toNat nd0).1 ≤ 6 then
    (if need12 60 t [] ((pts10 t a).getD 1 0) ≤ need12 60 t [] ((pts10 t a).getD 0 0) then 0 else 1)
  else -1

theorem most12_ge : ∀ (ks : List Int) (i m : Int), m ≤ most12 ks i m
  | [], _, m => Int.le_refl m
  | _ :: r, i, _ => Int.le_trans (Int.le_max_left _ _) (most12_ge r (i + 1) _)
/-- What a tree takes, wherever it lies. -/
inductive Nu : List Nd → Int → Prop
  | mk (n : Nd) (ks : List (List Nd)) (rs : List Int) : nodeB n = true → ks.length = kidsN n → rs.length = ks.length → (∀ k ∈ ks, One k) → (∀ i, i < ks.length → Nu (ks.getD i []) (rs.getD i 0)) → Nu (n :: ks.flatten) (mk12 none n rs)
theorem Nu.uniq {s : List Nd} {r : Int} (h : Nu s r) : ∀ {r' : Int}, Nu s r' → r = r' := by
  induction h with
  | mk n ks rs hn hk hr ho _ ih =>
    intro r' h'
    generalize hs : n :: ks.flatten = s at h'
    cases h' with
    | mk m js qs hm hj hq hoj hfj =>
      injection hs with e1 e2
      subst e1
      obtain rfl := ones_inj ho hoj (by omega) e2
      have : rs = qs := by
        refine List.ext_getElem (by omega) (fun i h1 h2 => ?_)
        have h3 := ih i (by omega) (hfj i (by omega))
        simpa [List.getD, h1, h2] using h3
      rw [this]
theorem need_nu {s : List Nd} (h : One s) : ∀ (d : Nat) (t post : List Nd) (a : Nat), s.length ≤ d → t.drop a = s ++ post → Nu s (need12 d t [] (a : Int)) := by
  induction h with
  | mk n ks hn hk ho ih =>
    intro d t post a hd ht
    rcases d with _ | d
    · simp at hd
    · obtain ⟨e1, e2, e3⟩ := pts_sub ht hk ho
      rw [need12, Int.toNat_natCast, e1]
      refine Nu.mk n ks _ hn hk (by rw [List.length_map, e2]) ho (fun i hi => ?_)
      obtain ⟨post', e4, e5⟩ := e3 i hi
      have e6 : ((pts10 t (a : Int)).map (need12 d t [])).getD i 0 = need12 d t [] ((a + 1 + (ks.take i).flatten.length : Nat) : Int) := by
        rw [← e4]
        simp [List.getD, e2, hi]
      rw [e6]
      have hm : ks.getD i [] ∈ ks := getD_mem11 hi
      refine ih _ hm d t post' _ ?_ e5
      have h1 : (ks.getD i []).length ≤ ks.flatten.length := (List.sublist_flatten_of_mem hm).length_le
      simp only [List.length_cons] at hd
      omega

theorem map_getD12 {d : Nat} {t : List Nd} {os : List Int} {l : List Int} {i : Nat} (hi : i < l.length) : (l.map (need12 d t os)).getD i 0 = need12 d t os (l.getD i 0) := by
  simp [List.getD, hi]
theorem need_fuel {s : List Nd} (h : One s) {d d' : Nat} {t post : List Nd} {a : Nat} (h1 : s.length ≤ d) (h2 : s.length ≤ d') (ht : t.drop a = s ++ post) : need12 d t [] (a : Int) = need12 d' t [] (a : Int) := (need_nu h d t post a h1 ht).uniq (need_nu h d' t post a h2 ht)
theorem most12_bd : ∀ (ks : List Int) (i m : Int) (N : Int), m ≤ N → (∀ j, j < ks.length → ks.getD j 0 + i + j ≤ N) → most12 ks i m ≤ N
  | [], _, _, _, h, _ => h
  | x :: r, i, m, N, h, hk => by
    have h0 : x + i ≤ N := by have := hk 0 (by simp); simpa using this
    refine most12_bd r (i + 1) _ N (by omega) (fun j hj => ?_)
    have := hk (j + 1) (by simpa using hj)
    simp at this
    simp
    omega
/-- A tree takes one at least, and no more than it has nodes. -/
theorem need_bd {s : List Nd} (h : One s) (os : List Int) : ∀ (d : Nat) (t post : List Nd) (a : Nat), s.length ≤ d → t.drop a = s ++ post → 1 ≤ need12 d t os (a : Int) ∧ need12 d t os (a : Int) ≤ s.length := by
  induction h with
  | mk n ks hn hk ho ih =>
    intro d t post a hd ht
    rcases d with _ | d
    · simp at hd
    · obtain ⟨e1, e2, e3⟩ := pts_sub ht hk ho
      have hb : ∀ i, i < ks.length → 1 ≤ need12 d t os ((pts10 t (a : Int)).getD i 0) ∧ need12 d t os ((pts10 t (a : Int)).getD i 0) ≤ (ks.getD i []).length := fun i hi => by
        obtain ⟨post', e4, e5⟩ := e3 i hi
        rw [e4]
        have hm : ks.getD i [] ∈ ks := getD_mem11 hi
        have h1 : (ks.getD i []).length ≤ ks.flatten.length := (List.sublist_flatten_of_mem hm).length_le
        exact ih _ hm d t post' _ (by simp only [List.length_cons] at hd; omega) e5
      have hpos : ∀ i, i < ks.length → 0 < (ks.getD i []).length := fun i hi => (ho _ (getD_mem11 hi)).pos
      rw [need12, Int.toNat_natCast, e1]
      unfold mk12
      by_cases h36 : 3 ≤ n.1 ∧ n.1 ≤ 6
      · have hk2 : ks.length = 2 := by rw [hk]; exact kids_four h36
        obtain ⟨k1, k2, rfl⟩ : ∃ x y, ks = [x, y] := by
          match ks, hk2 with
          | [x, y], _ => exact ⟨x, y, rfl⟩
        rw [if_pos h36, map_getD12 (by omega), map_getD12 (by omega)]
        have h0 := hb 0 (by simp)
        have h1 := hb 1 (by simp)
        have q0 := hpos 0 (by simp)
        have q1 := hpos 1 (by simp)
        simp only [show ([k1, k2] : List (List Nd)).getD 0 [] = k1 from rfl, show ([k1, k2] : List (List Nd)).getD 1 [] = k2 from rfl] at h0 h1 q0 q1
        have hl : (n :: [k1, k2].flatten).length = k1.length + k2.length + 1 := by simp
        rw [hl]
        generalize need12 d t os ((pts10 t (a : Int)).getD 0 0) = x at h0 ⊢
        generalize need12 d t os ((pts10 t (a : Int)).getD 1 0) = y at h1 ⊢
        unfold pair12
        split
        · split <;> omega
        · split <;> omega
      · rw [if_neg h36]
        by_cases h7 : n.1 = 7
        · have hk2 : ks.length = 3 := by rw [hk]; exact kids_seven h7
          obtain ⟨k1, k2, k3, rfl⟩ : ∃ x y z, ks = [x, y, z] := by
            match ks, hk2 with
            | [x, y, z], _ => exact ⟨x, y, z, rfl⟩
          rw [if_pos h7, map_getD12 (by omega), map_getD12 (by omega), map_getD12 (by omega)]
          have h0 := hb 0 (by simp)
          have h1 := hb 1 (by simp)
          have h2 := hb 2 (by simp)
          simp only [show ([k1, k2, k3] : List (List Nd)).getD 0 [] = k1 from rfl, show ([k1, k2, k3] : List (List Nd)).getD 1 [] = k2 from rfl, show ([k1, k2, k3] : List (List Nd)).getD 2 [] = k3 from rfl] at h0 h1 h2
          have hl : (n :: [k1, k2, k3].flatten).length = k1.length + (k2.length + k3.length) + 1 := by simp
          rw [hl]
          omega
        · rw [if_neg h7]
          refine ⟨most12_ge _ _ _, most12_bd _ _ _ _ (by simp only [List.length_cons]; omega) (fun j hj => ?_)⟩
          rw [List.length_map] at hj
          rw [map_getD12 hj]
          have h0 := hb j (by omega)
          have key : ∀ (l : List (List Nd)) (j : Nat), j < l.length → (∀ i, i < l.length → 0 < (l.getD i []).length) → (l.getD j []).length + j ≤ l.flatten.length := by
            intro l
            induction l with
            | nil => intro j hj; simp at hj
            | cons x r ihl =>
              intro j hj hp
              cases j with
              | zero => simp
              | succ j =>
                have h1 := ihl j (by simpa using hj) (fun i hi => by have := hp (i + 1) (by simpa using hi); simpa using this)
                have h2 := hp 0 (by simp)
                simp at h1 h2 ⊢
                omega
          have h3 := key ks j (by omega) hpos
          simp only [List.length_cons]
          omega

end Go.Proofs.YtogobeegibngiaaGreatDoor

/-! Plain facts: every node of a tree has an end. -/
namespace Go.Proofs.YtogobeegibngiaaGreatDoor
open Go.RowKit

theorem endGo_tail : ∀ (l : List Nd) (o : Nat), endGo l o = some l.length → ∀ j, j < l.length → ∃ d, endGo (l.drop j) 1 = some d
  | [], _, _, j, hj => by simp at hj
  | n :: r, 0, h, _, _ => by rw [endGo_zero] at h; simp at h
  | n :: r, o + 1, h, 0, _ => by
    rw [show o + 1 = 1 + o by omega, endGo_add] at h
    rw [List.drop_zero]
    cases he : endGo (n :: r) 1 with
    | none => rw [he] at h; cases h
    | some d => exact ⟨d, rfl⟩
  | n :: r, o + 1, h, j + 1, hj => by
    rw [endGo_cons] at h
    split at h
    · cases he : endGo r (o + kidsN n) with
      | none => rw [he] at h; cases h
      | some e =>
        rw [he] at h
        simp only [Option.map_some, Option.some.injEq, List.length_cons] at h
        have e1 : e = r.length := by omega
        rw [e1] at he
        rw [List.drop_succ_cons]
        exact endGo_tail r _ he j (by simpa using hj)
    · cases h
/-- Every node of a tree has an end. -/
theorem tree_ends {t : List Nd} (h : One t) {i : Nat} (hi : i < t.length) : 0 ≤ endV t (i : Int) := by
  have h1 := h.end_ []
  rw [List.append_nil] at h1
  obtain ⟨d, hd⟩ := endGo_tail t 1 h1 i hi
  rw [endV_nat, endN_some hd hi]
  omega

end Go.Proofs.YtogobeegibngiaaGreatDoor

/-! Plain facts of chapter 12: what FnSethi and FnFirst ask. -/
namespace Go.Proofs.YtogobeegibngiaaGreatDoor
open Go.RowKit

theorem treeB_sub {t : List Nd} (h : treeB t = true) {a : Nat} (ha : a < t.length) : ∃ s post, t.drop a = s ++ post ∧ One s ∧ s.length ≤ 60 := by
  obtain ⟨hl, ho⟩ := treeB_one.1 h
  obtain ⟨s, post, e, hs⟩ := sub_of (tree_ends ho ha)
  refine ⟨s, post, e, hs, ?_⟩
  have h2 := congrArg List.length e
  rw [List.length_drop, List.length_append] at h2
  omega
end Go.Proofs.YtogobeegibngiaaGreatDoor

/-! Plain facts of chapter 13: instructions, code, what a tree becomes, registers. -/
namespace Go.Proofs.YtogobeegibngiaaGreatDoor
open Go.RowKit

abbrev In13 := Int × Int × Int × Int × List UInt8
def in0 : In13 := (0, 0, 0, 0, [])
def name13 (s : List UInt8) : Bool := (splitL 46 s).length == 2 && nameB ((splitL 46 s).getD 0 []) && nameB ((splitL 46 s).getD 1 [])
def insP (i : In13) : Prop :=
  (i.1 = 9 ∨ i.2.2.2.2 = []) ∧ ((3 ≤ i.1 ∧ i.1 ≤ 6) ∨ i.2.2.2.1 = 0) ∧
  ((i.1 = 1 ∧ (0 ≤ i.2.1 ∧ i.2.1 ≤ 63) ∧ (-2147483648 ≤ i.2.2.1 ∧ i.2.2.1 ≤ 2147483647)) ∨
   (i.1 = 2 ∧ (0 ≤ i.2.1 ∧ i.2.1 ≤ 63) ∧ (0 ≤ i.2.2.1 ∧ i.2.2.1 ≤ 2)) ∨
   ((3 ≤ i.1 ∧ i.1 ≤ 6) ∧ (0 ≤ i.2.1 ∧ i.2.1 ≤ 63) ∧ (0 ≤ i.2.2.1 ∧ i.2.2.1 ≤ 63) ∧ (0 ≤ i.2.2.2.1 ∧ i.2.2.2.1 ≤ 63)) ∨
   (i.1 = 7 ∧ (0 ≤ i.2.1 ∧ i.2.1 ≤ 63) ∧ (0 ≤ i.2.2.1 ∧ i.2.2.1 ≤ 199)) ∨
   (i.1 = 8 ∧ i.2.1 = 0 ∧ (0 ≤ i.2.2.1 ∧ i.2.2.1 ≤ 199)) ∨
   (i.1 = 9 ∧ (0 ≤ i.2.1 ∧ i.2.1 ≤ 63) ∧ (0 ≤ i.2.2.1 ∧ i.2.2.1 ≤ 3) ∧ i.2.1 + i.2.2.1 - 1 ≤ 63 ∧ name13 i.2.2.2.2 = true) ∨
   (i.1 = 10 ∧ (0 ≤ i.2.1 ∧ i.2.1 ≤ 63) ∧ i.2.2.1 = 0))
instance (i : In13) : Decidable (insP i) := by unfold insP; infer_instance
def insB (i : In13) : Bool := decide (insP i)
/-- Is it right, in code of n? -/
def insAt (n : Nat) (i : In13) : Prop := insP i ∧ ((i.1 = 7 ∨ i.1 = 8) → i.2.2.1 < (n : Int))
instance (n : Nat) (i : In13) : Decidable (insAt n i) := by unfold insAt; infer_instance
def codeB (c : List In13) : Bool := decide ((1 ≤ c.length ∧ c.length ≤ 200) ∧ (∀ i ∈ c, insAt c.length i) ∧ ((c.getD (c.length - 1) in0).1 = 10 ∨ (c.getD (c.length - 1) in0).1 = 8))
/-- How far up an instruction reaches. -/
def top13 (i : In13) : Int := if i.1 = 8 then 0 else if 3 ≤ i.1 ∧ i.1 ≤ 6 then max (max i.2.2.1 i.2.2.2.1 + 1) (i.2.1 + 1) else if i.1 = 9 then max (i.2.1 + i.2.2.1) (i.2.1 + 1) else i.2.1 + 1
def mx13 : List In13 → Int
  | [] => 0
  | i :: r => max (top13 i) (mx13 r)
theorem mx13_ge : ∀ l : List In13, 0 ≤ mx13 l
  | [] => Int.le_refl 0
  | _ :: r => Int.le_trans (mx13_ge r) (Int.le_max_right _ _)
theorem mx13_append : ∀ x y : List In13, mx13 (x ++ y) = max (mx13 x) (mx13 y)
  | [], y => by have := mx13_ge y; simp only [List.nil_append, mx13]; omega
  | i :: r, y => by simp only [List.cons_append, mx13, mx13_append r y]; omega
theorem mx13_one (i : In13) : mx13 [i] = max (top13 i) 0 := rfl
def regsV (c : List In13) : Int := if codeB c = true then mx13 c else 0

/-- A part of a tree, into register r, behind c instructions. -/
def args13 (f : Int → Int → Int → List In13) : List Int → Int → Int → List In13
  | [], _, _ => []
  | p :: ps, r, c => f p r c ++ args13 f ps (r + 1) (c + (f p r c).length)
def into13 : Nat → List Nd → Int → Int → Int → List In13
  | 0, _, _, _, _ => []
  | d + 1, t, a, r, c =>
    let n := t.getD a.toNat nd0
    let p := pts10 t a
    if n.1 = 1 then [(1, r, n.2.1, 0, [])]
    else if n.1 = 2 then [(2, r, n.2.1, 0, [])]
    else if n.1 = 7 then
      let x := into13 d t (p.getD 0 0) r c
      let y := into13 d t (p.getD 1 0) r (c + x.length + 1)
      let z := into13 d t (p.getD 2 0) r (c + x.length + 1 + y.length + 1)
      x ++ (7, r, c + x.length + 1 + y.length + 1, 0, []) :: (y ++ (8, 0, c + x.length + 1 + y.length + 1 + z.length, 0, []) :: z)
    else if n.1 = 8 then args13 (into13 d t) p r c ++ [(9, r, n.2.1, 0, n.2.2.1 ++ 46 :: n.2.2.2)]
    else if need12 60 t [] (p.getD 1 0) ≤ need12 60 t [] (p.getD 0 0) then
      let x := into13 d t (p.getD 0 0) r c
      x ++ into13 d t (p.getD 1 0) (r + 1) (c + x.length) ++ [(n.1, r, r, r + 1, [])]
    else
      let x := into13 d t (p.getD 1 0) r c
      x ++ into13 d t (p.getD 0 0) (r + 1) (c + x.length) ++ [(n.1, r, r + 1, r, [])]
def compiledV (t : List Nd) : List In13 := if treeB t = true then into13 60 t 0 0 0 ++ [(10, 0, 0, 0, [])] else []

/-- What a part's code keeps. -/
structure G13 (s : Nat) (x : List In13) (r c nd : Int) : Prop where
  len : x.length + 1 ≤ 2 * s
  pos : 1 ≤ x.length
  noEnd : ∀ i ∈ x, i.1 ≠ 10
  ok : 0 ≤ c → c + x.length ≤ 199 → r + nd ≤ 64 → ∀ i ∈ x, insP i ∧ ((i.1 = 7 ∨ i.1 = 8) → i.2.2.1 ≤ c + x.length)
  top : mx13 x = r + nd

theorem name_dot {p f : List UInt8} (hp : nameB p = true) (hf : nameB f = true) : name13 (p ++ 46 :: f) = true := by
  have hno : ∀ {l : List UInt8}, nameB l = true → ∀ c ∈ l, c ≠ 46 := fun h c hc e => by
    unfold nameB at h
    rw [Bool.and_eq_true, List.all_eq_true] at h
    have := h.2 c hc
    subst e
    simp at this
  have hs : splitL 46 (p ++ 46 :: f) = [p, f] := by
    unfold splitL
    rw [split_one 46 p f [] (hno hp), split_none 46 f [] (hno hf)]
    rfl
  unfold name13
  rw [hs]
  simp [hp, hf]

theorem into_pair {s1 s2 : Nat} {x y : List In13} {k r c m1 m2 a b : Int} (h1 : G13 s1 x r c m1) (h2 : G13 s2 y (r + 1) (c + x.length) m2) (hr : 0 ≤ r) (hk : 3 ≤ k ∧ k ≤ 6) (hm1 : 1 ≤ m1) (hm2 : 1 ≤ m2) (hab : (a = r ∧ b = r + 1) ∨ (a = r + 1 ∧ b = r)) : G13 (s1 + s2 + 1) (x ++ y ++ [(k, r, a, b, [])]) r c (max m1 (m2 + 1)) := by
  have hl : (x ++ y ++ [((k, r, a, b, []) : In13)]).length = x.length + y.length + 1 := by simp; omega
  refine ⟨?_, ?_, ?_, ?_, ?_⟩
  · rw [hl]; have := h1.len; have := h2.len; omega
  · rw [hl]; omega
  · intro i hi
    simp only [List.mem_append, List.mem_singleton] at hi
    rcases hi with (hi | hi) | hi
    · exact h1.noEnd i hi
    · exact h2.noEnd i hi
    · subst hi; simp; omega
  · intro hc hlen hn i hi
    rw [hl] at hlen ⊢
    simp only [List.mem_append, List.mem_singleton] at hi
    rcases hi with (hi | hi) | hi
    · obtain ⟨q1, q2⟩ := h1.ok hc (by omega) (by omega) i hi
      exact ⟨q1, fun e => by have := q2 e; omega⟩
    · obtain ⟨q1, q2⟩ := h2.ok (by omega) (by omega) (by omega) i hi
      exact ⟨q1, fun e => by have := q2 e; omega⟩
    · subst hi
      refine ⟨⟨Or.inr rfl, Or.inl hk, Or.inr (Or.inr (Or.inl ⟨hk, ⟨hr, by simp only; omega⟩, ⟨by simp only; omega, by simp only; omega⟩, by simp only; omega, by simp only; omega⟩))⟩, fun e => by simp only at e; omega⟩
  · rw [mx13_append, mx13_append, h1.top, h2.top, mx13_one]
    unfold top13
    simp only
    rw [if_neg (by omega), if_pos hk]
    omega

theorem into_if {s1 s2 s3 : Nat} {x y z : List In13} {r c m1 m2 m3 : Int} (h1 : G13 s1 x r c m1) (h2 : G13 s2 y r (c + x.length + 1) m2) (h3 : G13 s3 z r (c + x.length + 1 + y.length + 1) m3) (hr : 0 ≤ r) (hm1 : 1 ≤ m1) (hm2 : 1 ≤ m2) (hm3 : 1 ≤ m3) :
    G13 (s1 + s2 + s3 + 1) (x ++ (7, r, c + x.length + 1 + y.length + 1, 0, []) :: (y ++ (8, 0, c + x.length + 1 + y.length + 1 + z.length, 0, []) :: z)) r c (max m1 (max m2 m3)) := by
  obtain ⟨A, hA⟩ : ∃ A, c + x.length + 1 + y.length + 1 = A := ⟨_, rfl⟩
  obtain ⟨E, hE⟩ : ∃ E, A + z.length = E := ⟨_, rfl⟩
  rw [hA] at h3
  rw [hA, hE]
  have hl : (x ++ ((7, r, A, 0, []) : In13) :: (y ++ (8, 0, E, 0, []) :: z)).length = x.length + y.length + z.length + 2 := by simp; omega
  refine ⟨?_, ?_, ?_, ?_, ?_⟩
  · rw [hl]; have := h1.len; have := h2.len; have := h3.len; omega
  · rw [hl]; omega
  · intro i hi
    simp only [List.mem_append, List.mem_cons] at hi
    rcases hi with hi | hi | hi | hi | hi
    · exact h1.noEnd i hi
    · subst hi; simp
    · exact h2.noEnd i hi
    · subst hi; simp
    · exact h3.noEnd i hi
  · intro hc hlen hn i hi
    rw [hl] at hlen ⊢
    simp only [List.mem_append, List.mem_cons] at hi
    rcases hi with hi | hi | hi | hi | hi
    · obtain ⟨q1, q2⟩ := h1.ok hc (by omega) (by omega) i hi
      exact ⟨q1, fun e => by have := q2 e; omega⟩
    · subst hi
      exact ⟨⟨Or.inr rfl, Or.inr rfl, Or.inr (Or.inr (Or.inr (Or.inl ⟨rfl, ⟨hr, by simp only; omega⟩, by simp only; omega, by simp only; omega⟩)))⟩, fun _ => by simp only; omega⟩
    · obtain ⟨q1, q2⟩ := h2.ok (by omega) (by omega) (by omega) i hi
      exact ⟨q1, fun e => by have := q2 e; omega⟩
    · subst hi
      exact ⟨⟨Or.inr rfl, Or.inr rfl, Or.inr (Or.inr (Or.inr (Or.inr (Or.inl ⟨rfl, rfl, by simp only; omega, by simp only; omega⟩))))⟩, fun _ => by simp only; omega⟩
    · obtain ⟨q1, q2⟩ := h3.ok (by omega) (by omega) (by omega) i hi
      exact ⟨q1, fun e => by have := q2 e; omega⟩
  · have e1 : mx13 (((7, r, A, 0, []) : In13) :: (y ++ (8, 0, E, 0, []) :: z)) = max (r + 1) (mx13 (y ++ ((8, 0, E, 0, []) : In13) :: z)) := rfl
    have e2 : mx13 (((8, 0, E, 0, []) : In13) :: z) = max 0 (mx13 z) := rfl
    rw [mx13_append, e1, mx13_append, e2, h1.top, h2.top, h3.top]
    omega

/-- The parts of a call, one register behind the other. -/
theorem args_ok (f : Int → Int → Int → List In13) (g : Int → Int) (sz : Int → Nat) : ∀ (ps : List Int) (r c : Int), 0 ≤ r → (∀ p ∈ ps, 1 ≤ g p ∧ ∀ r c, 0 ≤ r → G13 (sz p) (f p r c) r c (g p)) →
    (args13 f ps r c).length + ps.length ≤ 2 * (ps.map sz).sum ∧ (∀ i ∈ args13 f ps r c, i.1 ≠ 10) ∧ (∀ m : Int, 0 ≤ c → c + (args13 f ps r c).length ≤ 199 → r + most12 (ps.map g) 0 m ≤ 64 → ∀ i ∈ args13 f ps r c, insP i ∧ ((i.1 = 7 ∨ i.1 = 8) → i.2.2.1 ≤ c + (args13 f ps r c).length)) ∧ (∀ m : Int, 0 ≤ m → max (mx13 (args13 f ps r c)) (r + m) = r + most12 (ps.map g) 0 m ∧ (ps.length : Int) ≤ most12 (ps.map g) 0 m)
  | [], r, c, hr, _ => by
    refine ⟨by simp [args13], ?_, ?_, ?_⟩
    · intro i hi; simp [args13] at hi
    · intro m _ _ _ i hi; simp [args13] at hi
    · intro m hm
      simp only [args13, mx13, List.map_nil, most12, List.length_nil]
      omega
  | p :: ps, r, c, hr, h => by
    obtain ⟨hg, hp⟩ := h p (by simp)
    have h1 := hp r c hr
    obtain ⟨i1, i2, i3, i4⟩ := args_ok f g sz ps (r + 1) (c + (f p r c).length) (by omega) (fun q hq => h q (by simp [hq]))
    have most_shift : ∀ (l : List Int) (i m : Int), most12 l (i + 1) (m + 1) = most12 l i m + 1 := by
      intro l
      induction l with
      | nil => intro i m; rfl
      | cons x l ihl => intro i m; simp only [most12]; rw [← ihl]; congr 1; omega
    have e1 : args13 f (p :: ps) r c = f p r c ++ args13 f ps (r + 1) (c + (f p r c).length) := rfl
    rw [e1]
    generalize args13 f ps (r + 1) (c + (f p r c).length) = y at i1 i2 i3 i4 ⊢
    generalize f p r c = x at h1 i3 ⊢
    have hl : (x ++ y).length = x.length + y.length := by simp
    have hm : ∀ m : Int, most12 ((p :: ps).map g) 0 m = most12 (ps.map g) 0 (max m (g p) - 1) + 1 := fun m => by
      have := most_shift (ps.map g) 0 (max m (g p) - 1)
      rw [show max m (g p) - 1 + 1 = max m (g p) by omega] at this
      rw [← this]
      simp only [List.map_cons, most12, Int.add_zero]
    refine ⟨?_, ?_, ?_, ?_⟩
    · rw [hl]
      have := h1.len
      simp only [List.map_cons, List.sum_cons, List.length_cons]
      omega
    · intro i hi
      rcases List.mem_append.1 hi with hi | hi
      · exact h1.noEnd i hi
      · exact i2 i hi
    · intro m hc hlen hn i hi
      rw [hl] at hlen ⊢
      rw [hm] at hn
      have hge := most12_ge (ps.map g) 0 (max m (g p) - 1)
      rcases List.mem_append.1 hi with hi | hi
      · obtain ⟨q1, q2⟩ := h1.ok hc (by omega) (by omega) i hi
        exact ⟨q1, fun e => by have := q2 e; omega⟩
      · obtain ⟨q1, q2⟩ := i3 (max m (g p) - 1) (by omega) (by omega) (by omega) i hi
        exact ⟨q1, fun e => by have := q2 e; omega⟩
    · intro m hm1
      rw [hm, mx13_append, h1.top, List.length_cons]
      have := i4 (max m (g p) - 1) (by omega)
      omega

theorem into_call {s : Nat} {y : List In13} {r c m k : Int} {pk fn : List UInt8} (hl : y.length ≤ 2 * s) (h2 : ∀ i ∈ y, i.1 ≠ 10) (h3 : 0 ≤ c → c + y.length ≤ 199 → r + m ≤ 64 → ∀ i ∈ y, insP i ∧ ((i.1 = 7 ∨ i.1 = 8) → i.2.2.1 ≤ c + y.length)) (h4 : max (mx13 y) (r + 1) = r + m) (hk0 : 0 ≤ k) (hk3 : k ≤ 3) (hkm : k ≤ m) (hr : 0 ≤ r) (hp : nameB pk = true) (hf : nameB fn = true) :
    G13 (s + 1) (y ++ [(9, r, k, 0, pk ++ 46 :: fn)]) r c m := by
  have hl2 : (y ++ [((9, r, k, 0, pk ++ 46 :: fn) : In13)]).length = y.length + 1 := by simp
  refine ⟨?_, ?_, ?_, ?_, ?_⟩
  · rw [hl2]; omega
  · rw [hl2]; omega
  · intro i hi
    simp only [List.mem_append, List.mem_singleton] at hi
    rcases hi with hi | hi
    · exact h2 i hi
    · subst hi; simp
  · intro hc hlen hn i hi
    rw [hl2] at hlen ⊢
    simp only [List.mem_append, List.mem_singleton] at hi
    rcases hi with hi | hi
    · obtain ⟨q1, q2⟩ := h3 hc (by omega) (by omega) i hi
      exact ⟨q1, fun e => by have := q2 e; omega⟩
    · subst hi
      exact ⟨⟨Or.inl rfl, Or.inr rfl, Or.inr (Or.inr (Or.inr (Or.inr (Or.inr (Or.inl ⟨rfl, ⟨hr, by simp only; omega⟩, ⟨hk0, hk3⟩, by simp only; omega, name_dot hp hf⟩)))))⟩, fun e => by simp only at e; omega⟩
  · have e1 : mx13 [((9, r, k, 0, pk ++ 46 :: fn) : In13)] = max (max (r + k) (r + 1)) 0 := rfl
    rw [mx13_append, e1]
    omega

end Go.Proofs.YtogobeegibngiaaGreatDoor

/-! The contract of chapter 6's specification: the node of a word. -/
namespace Go.Proofs.YtogobeegibngiaaGreatDoor
open Go.RowKit

theorem part_le (ws : List (List UInt8)) (j : Nat) : (ws.getD j []).length ≤ ws.flatten.length := by
  induction ws generalizing j with
  | nil => simp
  | cons x r ih =>
    cases j with
    | zero => simp
    | succ j => have := ih j; simp only [List.getD_cons_succ, List.flatten_cons, List.length_append]; omega

end Go.Proofs.YtogobeegibngiaaGreatDoor
