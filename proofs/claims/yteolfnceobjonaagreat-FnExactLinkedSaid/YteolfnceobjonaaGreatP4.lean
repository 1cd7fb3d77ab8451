/-
  Parts of one proof, one behind the other: Math11F, Math12, Math11T, Math12L, Math13, Math13L, Math14, Math14R, Math14S, Math14I, TreeS4, TreeS5, NodeL, Math6I, TreeS6, IntsL.
-/
import Derived.Test.YteolfnceobjonaaGreatP3
import Derived.Test.YteolfnceobjonaaGreatP1
import Derived.Test.YteolfnceobjonaaGreatP2
import Derived.Deep.RegionWith
import Derived.Lib.ItoaNum
import Derived.Lib.Join
import Derived.Lib.Bytealg

/-! Plain facts of chapter 11: folding. -/
namespace Go.Proofs.YteolfnceobjonaaGreat
open Go.RowKit

def isOne11 (t : List Nd) : Bool := decide (t.length = 1 ∧ (t.getD 0 nd0).1 = 1)
def isNum11 (t : List Nd) (v : Int) : Bool := isOne11 t && decide ((t.getD 0 nd0).2.1 = v)
/-- What is made of a node and of what its parts have become. -/
def mk11 (n : Nd) (rs : List (List Nd)) : List Nd :=
  if 3 ≤ n.1 ∧ n.1 ≤ 6 then
    if (isOne11 (rs.getD 0 []) && isOne11 (rs.getD 1 [])) = true then
      if doneB n.1 ((rs.getD 0 []).getD 0 nd0).2.1 ((rs.getD 1 []).getD 0 nd0).2.1 = true then [(1, doneV n.1 ((rs.getD 0 []).getD 0 nd0).2.1 ((rs.getD 1 []).getD 0 nd0).2.1, [], [])] else n :: rs.flatten
    else if (decide (n.1 ≤ 4) && isNum11 (rs.getD 1 []) 0 || decide (5 ≤ n.1) && isNum11 (rs.getD 1 []) 1) = true then rs.getD 0 []
    else if (decide (n.1 = 3) && isNum11 (rs.getD 0 []) 0 || decide (n.1 = 5) && isNum11 (rs.getD 0 []) 1) = true then rs.getD 1 []
    else n :: rs.flatten
  else if n.1 = 7 then
    if isOne11 (rs.getD 0 []) = true then (if isNum11 (rs.getD 0 []) 0 = true then rs.getD 2 [] else rs.getD 1 []) else n :: rs.flatten
  else n :: rs.flatten
/-- What mk11 gives: all of it; one number; or one of the parts. -/
theorem mk11_cases (n : Nd) (rs : List (List Nd)) : mk11 n rs = n :: rs.flatten ∨ (3 ≤ n.1 ∧ n.1 ≤ 6 ∧ ∃ v, -2147483648 ≤ v ∧ v ≤ 2147483647 ∧ mk11 n rs = [(1, v, [], [])]) ∨ (3 ≤ n.1 ∧ n.1 ≤ 6 ∧ (mk11 n rs = rs.getD 0 [] ∨ mk11 n rs = rs.getD 1 [])) ∨ (n.1 = 7 ∧ (mk11 n rs = rs.getD 1 [] ∨ mk11 n rs = rs.getD 2 [])) := by
  unfold mk11
  split
  · rename_i h
    split
    · split
      · exact Or.inr (Or.inl ⟨h.1, h.2, _, (doneV_bd _ _ _).1, (doneV_bd _ _ _).2, rfl⟩)
      · exact Or.inl rfl
    · split
      · exact Or.inr (Or.inr (Or.inl ⟨h.1, h.2, Or.inl rfl⟩))
      · split
        · exact Or.inr (Or.inr (Or.inl ⟨h.1, h.2, Or.inr rfl⟩))
        · exact Or.inl rfl
  · split
    · rename_i h7
      split
      · split
        · exact Or.inr (Or.inr (Or.inr ⟨h7, Or.inr rfl⟩))
        · exact Or.inr (Or.inr (Or.inr ⟨h7, Or.inl rfl⟩))
      · exact Or.inl rfl
    · exact Or.inl rfl

/-- What a tree becomes. -/
inductive Fo : List Nd → List Nd → Prop
  | mk (n : Nd) (ks rs : List (List Nd)) : nodeB n = true → ks.length = kidsN n → rs.length = ks.length → (∀ k ∈ ks, One k) → (∀ i, i < ks.length → Fo (ks.getD i []) (rs.getD i [])) → Fo (n :: ks.flatten) (mk11 n rs)
theorem Fo.one {s r : List Nd} (h : Fo s r) : One s := by
  cases h with
  | mk n ks rs hn hk hr ho hf => exact One.mk n ks hn hk ho
theorem mem_getD {α : Type} {l : List α} {x d : α} (h : x ∈ l) : ∃ i, i < l.length ∧ l.getD i d = x := by
  obtain ⟨i, hi, e⟩ := List.mem_iff_getElem.1 h
  exact ⟨i, hi, by simp [List.getD, hi, e]⟩
theorem getD_mem11 {α : Type} {l : List α} {i : Nat} {d : α} (h : i < l.length) : l.getD i d ∈ l := by
  simp [List.getD, h]
theorem num_one {v : Int} (h0 : -2147483648 ≤ v) (h1 : v ≤ 2147483647) : One [((1, v, [], []) : Nd)] := by
  have hn : nodeB ((1, v, [], []) : Nd) = true := decide_eq_true (Or.inl ⟨rfl, ⟨h0, h1⟩, rfl, rfl⟩)
  exact One.mk (1, v, [], []) [] hn rfl (fun k hk => by cases hk)
theorem kids_four {n : Nd} (h : 3 ≤ n.1 ∧ n.1 ≤ 6) : kidsN n = 2 := if_pos h
theorem kids_seven {n : Nd} (h : n.1 = 7) : kidsN n = 3 := by unfold kidsN; rw [if_neg (by omega), if_pos h]
/-- What it becomes is one tree, has no more nodes, and each is one of its own or a number. -/
theorem Fo.res {s r : List Nd} (h : Fo s r) : One r ∧ r.length ≤ s.length ∧ ∀ n ∈ r, n ∈ s ∨ n.1 = 1 := by
  induction h with
  | mk n ks rs hn hk hr ho _ ih =>
    have hall : One (n :: rs.flatten) := One.mk n rs hn (by omega) (fun x hx => by
      obtain ⟨i, hi, e⟩ := mem_getD (d := []) hx
      rw [← e]; exact (ih i (by omega)).1)
    have hlen : rs.flatten.length ≤ ks.flatten.length := by
      have key : ∀ (a b : List (List Nd)), a.length = b.length → (∀ i, i < b.length → (a.getD i []).length ≤ (b.getD i []).length) → a.flatten.length ≤ b.flatten.length := by
        intro a
        induction a with
        | nil => intro b _ _; simp
        | cons x a iha =>
          intro b hb hl
          cases b with
          | nil => cases hb
          | cons y b =>
            have h0 := hl 0 (by simp)
            have h1 := iha b (by simpa using hb) (fun i hi => by have := hl (i + 1) (by simpa using hi); simpa using this)
            simp only [List.flatten_cons, List.length_append]
            simp at h0
            omega
      exact key rs ks hr (fun i hi => (ih i hi).2.1)
    have hpart : ∀ i, i < ks.length → One (rs.getD i []) ∧ (rs.getD i []).length ≤ (n :: ks.flatten).length ∧ ∀ m ∈ rs.getD i [], m ∈ n :: ks.flatten ∨ m.1 = 1 := fun i hi => by
      obtain ⟨h1, h2, h3⟩ := ih i hi
      have hmem : ks.getD i [] ∈ ks := getD_mem11 hi
      refine ⟨h1, ?_, fun m hm => ?_⟩
      · have : (ks.getD i []).length ≤ ks.flatten.length := (List.sublist_flatten_of_mem hmem).length_le
        simp only [List.length_cons]
        omega
      · rcases h3 m hm with h4 | h4
        · exact Or.inl (List.mem_cons_of_mem _ (List.mem_flatten.2 ⟨_, hmem, h4⟩))
        · exact Or.inr h4
    rcases mk11_cases n rs with e | ⟨_, _, v, h0, h1, e⟩ | ⟨h3, h6, e⟩ | ⟨h7, e⟩
    · rw [e]
      refine ⟨hall, by simp only [List.length_cons]; omega, fun m hm => ?_⟩
      rcases List.mem_cons.1 hm with h4 | h4
      · exact Or.inl (by rw [h4]; exact List.mem_cons_self)
      · obtain ⟨x, hx, h5⟩ := List.mem_flatten.1 h4
        obtain ⟨i, hi, e2⟩ := mem_getD (d := []) hx
        rw [← e2] at h5
        exact (hpart i (by omega)).2.2 m h5
    · rw [e]
      exact ⟨num_one h0 h1, by simp, fun m hm => Or.inr (by rw [List.mem_singleton.1 hm])⟩
    · have hk2 := kids_four ⟨h3, h6⟩
      rcases e with e | e
      · rw [e]; exact hpart 0 (by omega)
      · rw [e]; exact hpart 1 (by omega)
    · have hk3 := kids_seven h7
      rcases e with e | e
      · rw [e]; exact hpart 1 (by omega)
      · rw [e]; exact hpart 2 (by omega)
/-- By places, as the code does it. -/
def fold11 : Nat → List Nd → Int → List Nd
  | 0, _, _ => []
  | d + 1, t, a => mk11 (t.getD a.toNat nd0) ((pts10 t a).map (fold11 d t))
/-- FoldedTree. -/
def foldT (t : List Nd) : List Nd := if treeB t = true then fold11 60 t 0 else []
end Go.Proofs.YteolfnceobjonaaGreat

/-! Plain facts of chapter 12: how many registers a tree takes. -/
namespace Go.Proofs.YteolfnceobjonaaGreat
open Go.RowKit

/-- What is made of a node's own number and of its parts' (o: nothing told, or the order there). -/
def most12 : List Int → Int → Int → Int
  | [], _, m => m
  | x :: r, i, m => most12 r (i + 1) (max m (x + i))
def pair12 (o : Option Int) (x y : Int) : Int :=
  match o with
  | none => if x = y then x + 1 else max x y
  | some v => if v = 0 then max x (y + 1) else max y (x + 1)
def mk12 (o : Option Int) (n : Nd) (ks : List Int) : Int :=
  if 3 ≤ n.1 ∧ n.1 ≤ 6 then pair12 o (ks.getD 0 0) (ks.getD 1 0)
  else if n.1 = 7 then max (ks.getD 0 0) (max (ks.getD 1 0) (ks.getD 2 0))
  else most12 ks 0 1
def ord12 (os : List Int) (a : Int) : Option Int := if os = [] then none else some (os.getD a.toNat 0)
def need12 : Nat → List Nd → List Int → Int → Int
  | 0, _, _, _ => 0
  | d + 1, t, os, a => mk12 (ord12 os a) (t.getD a.toNat nd0) ((pts10 t a).map (need12 d t os))
def needT (t : List Nd) : Int := if treeB t = true then need12 60 t [] 0 else 0
def needByT (t : List Nd) (os : List Int) : Int := if treeB t = true ∧ os.length = t.length then need12 60 t os 0 else 0
def firstT (t : List Nd) (a : Int) : Int :=
  if treeB t = true ∧ 0 ≤ a ∧ a < t.length ∧ 3 ≤ (t.getD a.toNat nd0).1 ∧ (t.getD a.toNat nd0).1 ≤ 6 then
    (if need12 60 t [] ((pts10 t a).getD 1 0) ≤ need12 60 t [] ((pts10 t a).getD 0 0) then 0 else 1)
  else -1

/-- What a tree takes, wherever it lies. -/
inductive Nu : List Nd → Int → Prop
  | mk (n : Nd) (ks : List (List Nd)) (rs : List Int) : nodeB n = true → ks.length = kidsN n → rs.length = ks.length → (∀ k ∈ ks, One k) → (∀ i, i < ks.length → Nu (ks.getD i []) (rs.getD i 0)) → Nu (n :: ks.flatten) (mk12 none n rs)
end Go.Proofs.YteolfnceobjonaaGreat

/-! Plain facts: every node of a tree has an end. -/
namespace Go.Proofs.YteolfnceobjonaaGreat
open Go.RowKit

end Go.Proofs.YteolfnceobjonaaGreat

/-! Plain facts of chapter 12: what FnSethi and FnFirst ask. -/
namespace Go.Proofs.YteolfnceobjonaaGreat
open Go.RowKit

end Go.Proofs.YteolfnceobjonaaGreat

/-! Plain facts of chapter 13: instructions, code, what a tree becomes, registers. -/
namespace Go.Proofs.YteolfnceobjonaaGreat
open Go.RowKit

abbrev In13 := Int × Int × Int × Int × List UInt8
def in0 : In13 := (0, 0, 0, 0, [])
def name13 (s : List UInt8) : Bool := (splitL 46 s).length == 2 && nameB ((splitL 46 s).getD 0 []) && nameB ((splitL 46 s).getD 1 [])
def insP (i : In13) : Prop :=
  (i.1 = 9 ∨ i.2.2.2.2 = []) ∧ ((3 ≤ i.1 ∧ i.1 ≤ 6) ∨ i.2.2.2.1 = 0) ∧
  ((i.1 = 1 ∧ (0 ≤ i.2.1 ∧ i.2.1 ≤ 63) ∧ (-2147483648 ≤ i.2.2.1 ∧ i.2.2.1 ≤ 2147483647)) ∨
   (i.1 = 2 ∧ (0 ≤ i.2.1 ∧ i.2.1 ≤ 63) ∧ (0 ≤ i.2.2.1 ∧ i.2.2.1 ≤ 2)) ∨
   ((3 ≤ i.1 ∧ i.1 ≤ 6) ∧ (0 ≤ i.2.1 ∧ i.2.1 ≤ 63) ∧ (0 ≤ i.2.2.1 ∧ i.2.2.1 ≤ 63) ∧ (0 ≤ i.2.2.2.1 ∧ i.2.2.2.1 ≤ 63)) ∨
   (i.1 = 7 ∧ (0 ≤ i.2.1 ∧ i.2.1 ≤ 63) ∧ (0 ≤ i.2.2.1 ∧ i.2.2.1 ≤ 199)) ∨
   (i.1 = 8 ∧ i.2.1 = 0 ∧ (0 ≤ i.2.2.1 ∧ i.2.2.1 ≤ 199)) ∨
   (i.1 = 9 ∧ (0 ≤ i.2.1 ∧ i.2.1 ≤ 63) ∧ (0 ≤ i.2.2.1 ∧ i.2.2.1 ≤ 3) ∧ i.2.1 + i.2.2.1 - 1 ≤ 63 ∧ name13 i.2.2.2.2 = true) ∨
   (i.1 = 10 ∧ (0 ≤ i.2.1 ∧ i.2.1 ≤ 63) ∧ i.2.2.1 = 0))
instance (i : In13) : Decidable (insP i) := by unfold insP; infer_instance
def insB (i : In13) : Bool := decide (insP i)
/-- Is it right, in code of n? -/
def insAt (n : Nat) (i : In13) : Prop := insP i ∧ ((i.1 = 7 ∨ i.1 = 8) → i.2.2.1 < (n : Int))
instance (n : Nat) (i : In13) : Decidable (insAt n i) := by unfold insAt; infer_instance
def codeB (c : List In13) : Bool := decide ((1 ≤ c.length ∧ c.length ≤ 200) ∧ (∀ i ∈ c, insAt c.length i) ∧ ((c.getD (c.length - 1) in0).1 = 10 ∨ (c.getD (c.length - 1) in0).1 = 8))
/-- How far up an instruction reaches. -/
def top13 (i : In13) : Int := if i.1 = 8 then 0 else if 3 ≤ i.1 ∧ i.1 ≤ 6 then max (max i.2.2.1 i.2.2.2.1 + 1) (i.2.1 + 1) else if i.1 = 9 then max (i.2.1 + i.2.2.1) (i.2.1 + 1) else i.2.1 + 1
def mx13 : List In13 → Int
  | [] => 0
  | i :: r => max (top13 i) (mx13 r)
def regsV (c : List In13) : Int := if codeB c = true then mx13 c else 0

/-- A part of a tree, into register r, behind c instructions. -/
def args13 (f : Int → Int → Int → List In13) : List Int → Int → Int → List In13
  | [], _, _ => []
  | p :: ps, r, c => f p r c ++ args13 f ps (r + 1) (c + (f p r c).length)
def into13 : Nat → List Nd → Int → Int → Int → List In13
  | 0, _, _, _, _ => []
  | d + 1, t, a, r, c =>
    let n := t.getD a.toNat nd0
    let p := pts10 t a
    if n.1 = 1 then [(1, r, n.2.1, 0, [])]
    else if n.1 = 2 then [(2, r, n.2.1, 0, [])]
    else if n.1 = 7 then
      let x := into13 d t (p.getD 0 0) r c
      let y := into13 d t (p.getD 1 0) r (c + x.length + 1)
      let z := into13 d t (p.getD 2 0) r (c + x.length + 1 + y.length + 1)
      x ++ (7, r, c + x.length + 1 + y.length + 1, 0, []) :: (y ++ (8, 0, c + x.length + 1 + y.length + 1 + z.length, 0, []) :: z)
    else if n.1 = 8 then args13 (into13 d t) p r c ++ [(9, r, n.2.1, 0, n.2.2.1 ++ 46 :: n.2.2.2)]
    else if need12 60 t [] (p.getD 1 0) ≤ need12 60 t [] (p.getD 0 0) then
      let x := into13 d t (p.getD 0 0) r c
      x ++ into13 d t (p.getD 1 0) (r + 1) (c + x.length) ++ [(n.1, r, r, r + 1, [])]
    else
      let x := into13 d t (p.getD 1 0) r c
      x ++ into13 d t (p.getD 0 0) (r + 1) (c + x.length) ++ [(n.1, r, r + 1, r, [])]
def compiledV (t : List Nd) : List In13 := if treeB t = true then into13 60 t 0 0 0 ++ [(10, 0, 0, 0, [])] else []

/-- What a part's code keeps. -/
structure G13 (s : Nat) (x : List In13) (r c nd : Int) : Prop where
  len : x.length + 1 ≤ 2 * s
  pos : 1 ≤ x.length
  noEnd : ∀ i ∈ x, i.1 ≠ 10
  ok : 0 ≤ c → c + x.length ≤ 199 → r + nd ≤ 64 → ∀ i ∈ x, insP i ∧ ((i.1 = 7 ∨ i.1 = 8) → i.2.2.1 ≤ c + x.length)
  top : mx13 x = r + nd

end Go.Proofs.YteolfnceobjonaaGreat

/-! Plain facts of chapter 13: what FnCompiled asks. -/
namespace Go.Proofs.YteolfnceobjonaaGreat
open Go.RowKit

end Go.Proofs.YteolfnceobjonaaGreat

/-! Plain facts of chapter 14: images, shown and read. -/
namespace Go.Proofs.YteolfnceobjonaaGreat
open Go.RowKit

abbrev Rt := List UInt8 × Int × List In13
def rt0 : Rt := ([], 0, [])
def at14Go (s : List UInt8) : List Rt → Nat → Int
  | [], _ => -1
  | r :: rs, k => if r.1 = s then (k : Int) else at14Go s rs (k + 1)
def at14 (rs : List Rt) (s : List UInt8) : Int := at14Go s rs 0
theorem at14Go_drop {rs : List Rt} {k : Nat} (hk : k < rs.length) (s : List UInt8) : at14Go s (rs.drop k) k = if (rs.getD k rt0).1 = s then (k : Int) else at14Go s (rs.drop (k + 1)) (k + 1) := by
  rw [List.drop_eq_getElem_cons hk, at14Go]
  have hg : rs.getD k rt0 = rs[k] := by simp [List.getD, hk]
  rw [hg]
theorem at14Go_bd (s : List UInt8) : ∀ (rs : List Rt) (k : Nat), at14Go s rs k = -1 ∨ ((k : Int) ≤ at14Go s rs k ∧ at14Go s rs k < k + rs.length)
  | [], _ => Or.inl rfl
  | r :: rs, k => by
    rw [at14Go]
    split
    · refine Or.inr ⟨Int.le_refl _, ?_⟩
      simp only [List.length_cons]; omega
    · rcases at14Go_bd s rs (k + 1) with h | h
      · exact Or.inl h
      · refine Or.inr ⟨by omega, ?_⟩
        simp only [List.length_cons]; omega
theorem at14_bd (rs : List Rt) (s : List UInt8) : -1 ≤ at14 rs s ∧ at14 rs s < rs.length := by
  unfold at14
  rcases at14Go_bd s rs 0 with h | h
  · rw [h]; omega
  · omega
/-- Is an argument asked that is there? -/
def argB (n : Int) (i : In13) : Bool := !(decide (i.1 = 2) && decide (n ≤ i.2.2.1))
def rtB (r : Rt) : Bool := (name13 r.1 && (inB r.2.1 0 3 && codeB r.2.2)) && r.2.2.all (argB r.2.1)
def clsB (rs : List Rt) (i : In13) : Bool := decide (i.1 ≠ 9) || (decide (0 ≤ at14 rs i.2.2.2.2) && decide ((rs.getD (at14 rs i.2.2.2.2).toNat rt0).2.1 = i.2.2.1))
def oneB (rs : List Rt) (j : Nat) : Prop := rtB (rs.getD j rt0) = true ∧ (0 < j → leT (rs.getD j rt0).1 (rs.getD (j - 1) rt0).1 = false) ∧ (rs.getD j rt0).2.2.all (clsB rs) = true
instance (rs : List Rt) (j : Nat) : Decidable (oneB rs j) := by unfold oneB; infer_instance
def imageB (rs : List Rt) : Bool := decide ((∀ j, j < rs.length → oneB rs j) ∧ (1 ≤ rs.length ∧ rs.length ≤ 64))
theorem image_no {rs : List Rt} {j : Nat} (hj : j < rs.length) (h : ¬ oneB rs j) : imageB rs = false := decide_eq_false (fun e => h (e.1 j hj))
theorem image_all {rs : List Rt} (h : ∀ j, j < rs.length → oneB rs j) : imageB rs = inB (rs.length : Int) 1 64 := by
  unfold imageB inB
  refine decide_eq_decide.2 ⟨fun e => by omega, fun e => ⟨h, by omega⟩⟩

def kwRt : List UInt8 := [114, 111, 117, 116, 105, 110, 101]
def nmL (s : List UInt8) : List UInt8 := if s = [] then [45] else s
def insLn (i : In13) : List UInt8 := intL i.1 ++ [32] ++ intL i.2.1 ++ [32] ++ intL i.2.2.1 ++ [32] ++ intL i.2.2.2.1 ++ [32] ++ nmL i.2.2.2.2
def rtLn (r : Rt) : List UInt8 := kwRt ++ [32] ++ r.1 ++ [32] ++ intL r.2.1 ++ [32] ++ intL (r.2.2.length : Int)
def rtLines (r : Rt) : List (List UInt8) := rtLn r :: r.2.2.map insLn
def imLines (rs : List Rt) : List (List UInt8) := rs.flatMap rtLines
def showI (rs : List Rt) : List UInt8 := termJ (imLines rs)
def showIm (rs : List Rt) : List UInt8 := if imageB rs = true then showI rs else []

/-- One more instruction of the last routine. -/
def addI (out : List Rt) (x : In13) : List Rt := out.dropLast ++ [((out.getLastD rt0).1, (out.getLastD rt0).2.1, (out.getLastD rt0).2.2 ++ [x])]
noncomputable def insRd (ws : List (List UInt8)) : In13 := (readV (ws.getD 0 []), readV (ws.getD 1 []), readV (ws.getD 2 []), readV (ws.getD 3 []), if ws.getD 4 [] = [45] then [] else ws.getD 4 [])
noncomputable def readI : List Rt → List (List UInt8) → List Rt
  | out, [] => out
  | out, l :: ls =>
    if (splitL 32 l).length = 4 ∧ (splitL 32 l).getD 0 [] = kwRt then readI (out ++ [((splitL 32 l).getD 1 [], readV ((splitL 32 l).getD 2 []), [])]) ls
    else if (splitL 32 l).length ≠ 5 ∨ out = [] then []
    else readI (addI out (insRd (splitL 32 l))) ls
noncomputable def readIB (s : List UInt8) : Bool := decide (s.length ≤ 400000) && (imageB (readI [] (linesL s)) && (showI (readI [] (linesL s)) == s))
noncomputable def readIV (s : List UInt8) : List Rt := if readIB s = true then readI [] (linesL s) else []

theorem name13_parts {s : List UInt8} (h : name13 s = true) : ∃ p f, nameB p = true ∧ nameB f = true ∧ s = p ++ 46 :: f := by
  unfold name13 at h
  rw [Bool.and_eq_true, Bool.and_eq_true, beq_iff_eq] at h
  obtain ⟨⟨h1, h2⟩, h3⟩ := h
  have hj := joinBy_split 46 s []
  rw [List.nil_append] at hj
  match hs : splitL 46 s, h1 with
  | [p, f], _ =>
    rw [hs] at h2 h3
    refine ⟨p, f, h2, h3, ?_⟩
    rw [← hj]
    have e : splitGo 46 [] s = [p, f] := hs
    rw [e]
    simp [joinBy]
theorem name13_len {s : List UInt8} (h : name13 s = true) : 3 ≤ s.length ∧ s.length ≤ 17 := by
  obtain ⟨p, f, hp, hf, rfl⟩ := name13_parts h
  have h1 := (name_letters hp).1
  have h2 := (name_letters hf).1
  simp only [List.length_append, List.length_cons]
  omega
theorem insP_words {i : In13} (h : insP i) : (-2147483648 ≤ i.1 ∧ i.1 ≤ 2147483647) ∧ (-2147483648 ≤ i.2.1 ∧ i.2.1 ≤ 2147483647) ∧ (-2147483648 ≤ i.2.2.1 ∧ i.2.2.1 ≤ 2147483647) ∧ (-2147483648 ≤ i.2.2.2.1 ∧ i.2.2.2.1 ≤ 2147483647) := by
  have h2 := h.2.1
  have h3 := h.2.2
  omega
theorem codeB_ins {c : List In13} (h : codeB c = true) : ∀ i ∈ c, insP i := fun i hi => ((of_decide_eq_true h).2.1 i hi).1
theorem codeB_len {c : List In13} (h : codeB c = true) : 1 ≤ c.length ∧ c.length ≤ 200 := (of_decide_eq_true h).1
theorem rtB_parts {r : Rt} (h : rtB r = true) : name13 r.1 = true ∧ (0 ≤ r.2.1 ∧ r.2.1 ≤ 3) ∧ codeB r.2.2 = true ∧ r.2.2.all (argB r.2.1) = true := by
  unfold rtB at h
  simp only [Bool.and_eq_true] at h
  exact ⟨h.1.1, by have := h.1.2.1; unfold inB at this; exact of_decide_eq_true this, h.1.2.2, h.2⟩
end Go.Proofs.YteolfnceobjonaaGreat

/-! Plain facts of chapter 14: an image is read from what it is shown as; what is read is shown so. -/
namespace Go.Proofs.YteolfnceobjonaaGreat
open Go.RowKit

theorem intL_to {a : Int} (k : Nat) (h0 : 0 ≤ a) (h1 : a < 10 ^ (k + 1)) : (intL a).length ≤ k + 1 := by
  unfold intL
  rw [if_neg (by omega)]
  exact digL_len k a.natAbs (by
    have e : ((a.natAbs : Nat) : Int) = a := by omega
    have h2 : ((a.natAbs : Nat) : Int) < ((10 ^ (k + 1) : Nat) : Int) := by rw [e]; push_cast; exact h1
    omega)
theorem intL_w11 {a : Int} (h0 : -2147483648 ≤ a) (h1 : a ≤ 2147483647) : (intL a).length ≤ 11 := by
  unfold intL
  have hd := digL_len 9 a.natAbs (by omega)
  split
  · simp only [List.length_cons]; omega
  · omega
theorem insLn_len {i : In13} (h : insP i) : (insLn i).length ≤ 28 := by
  obtain ⟨k, r, a, b, s⟩ := i
  have hk : 1 ≤ k ∧ k ≤ 10 := by have := h.2.2; simp only at this; omega
  have hr : 0 ≤ r ∧ r ≤ 63 := by have := h.2.2; simp only at this; omega
  have hb : 0 ≤ b ∧ b ≤ 63 := by have h1 := h.2.1; have h2 := h.2.2; simp only at h1 h2; omega
  have lk := intL_to (a := k) 1 (by omega) (by omega)
  have lr := intL_to (a := r) 1 (by omega) (by omega)
  have lb := intL_to (a := b) 1 (by omega) (by omega)
  have la : (intL a).length + (nmL s).length ≤ 18 := by
    by_cases h9 : k = 9
    · have h2 := h.2.2
      simp only at h2
      have hn : (0 ≤ a ∧ a ≤ 3) ∧ name13 s = true := by
        rcases h2 with e | e | e | e | e | e | e
        · omega
        · omega
        · omega
        · omega
        · omega
        · exact ⟨e.2.2.1, e.2.2.2.2⟩
        · omega
      have l1 := intL_to (a := a) 0 (by omega) (by omega)
      have l2 := name13_len hn.2
      unfold nmL
      split
      · simp; omega
      · omega
    · have hs : s = [] := by
        have := h.1
        simp only at this
        rcases this with e | e
        · exact absurd e h9
        · exact e
      have l1 := intL_w11 (insP_words h).2.2.1.1 (insP_words h).2.2.1.2
      simp only at l1
      unfold nmL
      rw [if_pos hs]
      simp
      omega
  unfold insLn
  simp only [List.length_append, List.length_singleton]
  omega
end Go.Proofs.YteolfnceobjonaaGreat

/-! Plain facts of chapter 14: how an image runs. -/
namespace Go.Proofs.YteolfnceobjonaaGreat
open Go.RowKit

def row14 : List Int := List.replicate 64 0
inductive St14
  | go (row : List Int) (p : Int)
  | call (k : Nat) (xs : List Int) (r : Nat)
  | stop (v c : Int)
/-- One instruction. -/
def step14 (rs : List Rt) (k : Nat) (xs row : List Int) (p : Int) : St14 :=
  let i := (rs.getD k rt0).2.2.getD p.toNat in0
  if i.1 = 1 then .go (row.set i.2.1.toNat i.2.2.1) (p + 1)
  else if i.1 = 2 then .go (row.set i.2.1.toNat (xs.getD i.2.2.1.toNat 0)) (p + 1)
  else if i.1 = 7 then .go row (if row.getD i.2.1.toNat 0 = 0 then i.2.2.1 else p + 1)
  else if i.1 = 8 then .go row i.2.2.1
  else if i.1 = 9 then .call (at14 rs i.2.2.2.2).toNat ((row.drop i.2.1.toNat).take i.2.2.1.toNat) i.2.1.toNat
  else if i.1 = 10 then .stop (row.getD i.2.1.toNat 0) 0
  else if doneB i.1 (row.getD i.2.2.1.toNat 0) (row.getD i.2.2.2.1.toNat 0) = true then .go (row.set i.2.1.toNat (doneV i.1 (row.getD i.2.2.1.toNat 0) (row.getD i.2.2.2.1.toNat 0))) (p + 1)
  else .stop 0 1
/-- A run: the word, why it stopped, the fuel that is left. -/
def run14 (rs : List Rt) : Nat → Nat → Nat → List Int → List Int → Int → Int × Int × Nat
  | 0, _, _, _, _, _ => (0, 2, 0)
  | _ + 1, 0, _, _, _, _ => (0, 2, 0)
  | d + 1, f + 1, k, xs, row, p =>
    match step14 rs k xs row p with
    | .go row2 p2 => run14 rs d f k xs row2 p2
    | .stop v c => (v, c, f)
    | .call k2 xs2 r => if (run14 rs d f k2 xs2 row14 0).2.1 = 0 then run14 rs d (run14 rs d f k2 xs2 row14 0).2.2 k xs (row.set r (run14 rs d f k2 xs2 row14 0).1) (p + 1) else (0, (run14 rs d f k2 xs2 row14 0).2.1, (run14 rs d f k2 xs2 row14 0).2.2)

def WordL (xs : List Int) : Prop := ∀ x ∈ xs, -2147483648 ≤ x ∧ x ≤ 2147483647
theorem WordL.at {xs : List Int} (h : WordL xs) (j : Nat) : -2147483648 ≤ xs.getD j 0 ∧ xs.getD j 0 ≤ 2147483647 := by
  rw [List.getD_eq_getElem?_getD]
  rcases Nat.lt_or_ge j xs.length with hj | hj
  · rw [List.getElem?_eq_getElem hj]; exact h _ (List.getElem_mem hj)
  · rw [List.getElem?_eq_none hj]; decide
theorem WordL.set {xs : List Int} (h : WordL xs) (j : Nat) {z : Int} (hz : -2147483648 ≤ z ∧ z ≤ 2147483647) : WordL (xs.set j z) := fun q hq => by
  rcases List.mem_or_eq_of_mem_set hq with e | e
  · exact h q e
  · rw [e]; exact hz
/-- What RunImage gives. -/
def runP (rs : List Rt) (nm : List UInt8) (xs : List Int) (fuel : Int) : Prop := imageB rs = true ∧ 0 ≤ at14 rs nm ∧ (xs.length : Int) = (rs.getD (at14 rs nm).toNat rt0).2.1 ∧ (0 ≤ fuel ∧ fuel ≤ 20000) ∧ WordL xs
instance (xs : List Int) : Decidable (WordL xs) := by unfold WordL; infer_instance
instance (rs : List Rt) (nm : List UInt8) (xs : List Int) (fuel : Int) : Decidable (runP rs nm xs fuel) := by unfold runP; infer_instance
def runV (rs : List Rt) (nm : List UInt8) (xs : List Int) (fuel : Int) : Int × Int :=
  if runP rs nm xs fuel then
    (if (run14 rs 20000 fuel.toNat (at14 rs nm).toNat xs row14 0).2.1 = 0 then ((run14 rs 20000 fuel.toNat (at14 rs nm).toNat xs row14 0).1, 0) else (0, (run14 rs 20000 fuel.toNat (at14 rs nm).toNat xs row14 0).2.1))
  else (0, 3)
end Go.Proofs.YteolfnceobjonaaGreat

/-! Plain facts of chapter 14 as the landed code goes about it: routines whose names rise, one found by halving. -/
namespace Go.Proofs.YteolfnceobjonaaGreat
open Go.RowKit

/-- Right routines whose names rise, at most so many. -/
def RiseR (rs : List Rt) : Prop := ∀ i j, i < j → j < rs.length → Op.bytesLess (rs.getD i rt0).1 (rs.getD j rt0).1 = true
theorem riseR_of {rs : List Rt} (h : ∀ i, i + 1 < rs.length → leT (rs.getD (i + 1) rt0).1 (rs.getD i rt0).1 = false) : RiseR rs := by
  have hd : ∀ d i, i + d + 1 < rs.length → Op.bytesLess (rs.getD i rt0).1 (rs.getD (i + d + 1) rt0).1 = true := by
    intro d
    induction d with
    | zero => intro i hi; exact leT_no.1 (h i hi)
    | succ d ih => intro i hi; exact lt8_trans (ih i (by omega)) (leT_no.1 (h (i + d + 1) (by omega)))
  intro i j hij hj
  have hh := hd (j - i - 1) i (by omega)
  rw [show i + (j - i - 1) + 1 = j by omega] at hh
  exact hh
def rtsB (rs : List Rt) (most : Int) : Bool := decide ((1 ≤ (rs.length : Int) ∧ (rs.length : Int) ≤ most) ∧ (∀ i, i < rs.length → rtB (rs.getD i rt0) = true) ∧ ∀ i, i < rs.length - 1 → leT (rs.getD (i + 1) rt0).1 (rs.getD i rt0).1 = false)
theorem rtsB_few {rs : List Rt} {m : Int} (h : (rs.length : Int) < 1 ∨ m < (rs.length : Int)) : rtsB rs m = false := decide_eq_false (fun e => by have := e.1; omega)
structure RrSt (rs : List Rt) (k : Nat) (z : List UInt8) : Prop where
  oks : ∀ i, i < k → rtB (rs.getD i rt0) = true
  rise : ∀ i, i + 1 < k → leT (rs.getD (i + 1) rt0).1 (rs.getD i rt0).1 = false
  last : (k = 0 ∧ z = []) ∨ (0 < k ∧ z = (rs.getD (k - 1) rt0).1)
theorem RrSt.start (rs : List Rt) : RrSt rs 0 [] := ⟨fun i hi => by omega, fun i hi => by omega, Or.inl ⟨rfl, rfl⟩⟩
theorem RrSt.noOk {rs : List Rt} {k : Nat} {m : Int} (hk : k < rs.length) (hn : rtB (rs.getD k rt0) = false) : rtsB rs m = false := decide_eq_false (fun g => by rw [g.2.1 k hk] at hn; cases hn)
theorem leT_nilR {x : List UInt8} (h : name13 x = true) : leT x [] = false := by
  have h1 := (name13_len h).1
  cases x with
  | nil => simp at h1
  | cons c r => simp [leT, Op.bytesLess]
theorem RrSt.noRise {rs : List Rt} {k : Nat} {z : List UInt8} {m : Int} (h : RrSt rs k z) (hk : k < rs.length) (hn : rtB (rs.getD k rt0) = true) (hl : leT (rs.getD k rt0).1 z = true) : rtsB rs m = false := by
  rcases h.last with ⟨rfl, rfl⟩ | ⟨h0, rfl⟩
  · rw [leT_nilR (rtB_parts hn).1] at hl; cases hl
  · refine decide_eq_false (fun g => ?_)
    have := g.2.2 (k - 1) (by omega)
    rw [show k - 1 + 1 = k by omega, hl] at this
    cases this
theorem RrSt.step {rs : List Rt} {k : Nat} {z : List UInt8} (h : RrSt rs k z) (hn : rtB (rs.getD k rt0) = true) (hl : leT (rs.getD k rt0).1 z = false) : RrSt rs (k + 1) (rs.getD k rt0).1 := by
  refine ⟨fun i hi => ?_, fun i hi => ?_, Or.inr ⟨by omega, by rw [Nat.add_sub_cancel]⟩⟩
  · rcases Nat.lt_or_ge i k with g | g
    · exact h.oks i g
    · obtain rfl : i = k := by omega
      exact hn
  · rcases Nat.lt_or_ge (i + 1) k with g | g
    · exact h.rise i g
    · obtain rfl : k = i + 1 := by omega
      rcases h.last with ⟨e, _⟩ | ⟨_, rfl⟩
      · omega
      · rw [Nat.add_sub_cancel] at hl; exact hl
theorem RrSt.all {rs : List Rt} {z : List UInt8} {m : Int} (h : RrSt rs rs.length z) (hl : 1 ≤ (rs.length : Int) ∧ (rs.length : Int) ≤ m) : rtsB rs m = true := decide_eq_true ⟨hl, h.oks, fun i hi => h.rise i (by omega)⟩

theorem imageB_rts (rs : List Rt) : imageB rs = (rtsB rs 64 && decide (∀ j, j < rs.length → (rs.getD j rt0).2.2.all (clsB rs) = true)) := by
  rw [Bool.eq_iff_iff]
  unfold imageB rtsB oneB
  simp only [Bool.and_eq_true, decide_eq_true_eq]
  constructor
  · rintro ⟨h, h1, h2⟩
    refine ⟨⟨⟨by omega, by omega⟩, fun i hi => (h i hi).1, fun i hi => ?_⟩, fun j hj => (h j hj).2.2⟩
    have := (h (i + 1) (by omega)).2.1 (by omega)
    rw [Nat.add_sub_cancel] at this
    exact this
  · rintro ⟨⟨h1, h2, h3⟩, h4⟩
    refine ⟨fun j hj => ⟨h2 j hj, fun h0 => ?_, h4 j hj⟩, by omega, by omega⟩
    have := h3 (j - 1) (by omega)
    rw [show j - 1 + 1 = j by omega] at this
    exact this
/-- The place of a name. -/
theorem at14Go_yes (s : List UInt8) : ∀ (rs : List Rt) (k j : Nat), j < rs.length → (rs.getD j rt0).1 = s → (∀ i, i < j → (rs.getD i rt0).1 ≠ s) → at14Go s rs k = ((k + j : Nat) : Int)
  | [], _, j, hj, _, _ => by simp at hj
  | r :: rs, k, 0, _, h, _ => by
    rw [at14Go, if_pos (by simpa using h)]; simp
  | r :: rs, k, j + 1, hj, h, hn => by
    have h0 := hn 0 (by omega)
    rw [at14Go, if_neg (by simpa using h0), at14Go_yes s rs (k + 1) j (by simpa using hj) (by simpa using h) (fun i hi => by have := hn (i + 1) (by omega); simpa using this)]
    omega
theorem at14Go_no (s : List UInt8) : ∀ (rs : List Rt) (k : Nat), (∀ i, i < rs.length → (rs.getD i rt0).1 ≠ s) → at14Go s rs k = -1
  | [], _, _ => rfl
  | r :: rs, k, hn => by
    have h0 := hn 0 (by simp)
    rw [at14Go, if_neg (by simpa using h0), at14Go_no s rs (k + 1) (fun i hi => by have := hn (i + 1) (by simpa using hi); simpa using this)]
theorem at14_yes {rs : List Rt} (hr : RiseR rs) {s : List UInt8} {j : Nat} (hj : j < rs.length) (h : (rs.getD j rt0).1 = s) : at14 rs s = (j : Int) := by
  unfold at14
  rw [at14Go_yes s rs 0 j hj h (fun i hi e => ?_), Nat.zero_add]
  have := hr i j hi hj
  rw [e, h, lt8_irr] at this
  cases this
/-- Halving: what stands ahead is less, what stands behind is not. -/
structure Half (rs : List Rt) (s : List UInt8) (lo hi : Nat) : Prop where
  a : ∀ t, t < lo → Op.bytesLess (rs.getD t rt0).1 s = true
  b : ∀ t, hi ≤ t → t < rs.length → Op.bytesLess (rs.getD t rt0).1 s = false
theorem Half.start (rs : List Rt) (s : List UInt8) : Half rs s 0 rs.length := ⟨fun t h => by omega, fun t h1 h2 => by omega⟩
theorem Half.no {rs : List Rt} {s : List UInt8} {i : Nat} (hr : RiseR rs) (h : Half rs s i i) (hn : i < rs.length → (rs.getD i rt0).1 ≠ s) : at14 rs s = -1 := by
  refine at14Go_no s rs 0 (fun t ht e => ?_)
  rcases Nat.lt_trichotomy t i with g | g | g
  · have := h.a t g; rw [e, lt8_irr] at this; cases this
  · subst g; exact hn ht e
  · have h1 := hr i t g ht
    have h2 := h.b i (Nat.le_refl _) (by omega)
    rw [e] at h1
    rw [h1] at h2
    cases h2

theorem arg_allI {n : Int} {c : List In13} : c.all (argB n) = true ↔ ∀ k, k < c.length → argB n (c.getD k in0) = true := by
  rw [List.all_eq_true]
  constructor
  · intro h k hk
    exact h _ (by rw [List.getD_eq_getElem?_getD, List.getElem?_eq_getElem hk]; exact List.getElem_mem hk)
  · intro h x hx
    obtain ⟨k, hk, rfl⟩ := List.getElem_of_mem hx
    have := h k hk
    simpa [List.getD, hk] using this
theorem arg_noI {n : Int} {c : List In13} {k : Nat} (hk : k < c.length) (h : argB n (c.getD k in0) = false) : c.all (argB n) = false := by
  rcases hx : c.all (argB n) with _ | _
  · rfl
  · rw [arg_allI.1 hx k hk] at h; cases h

end Go.Proofs.YteolfnceobjonaaGreat

/-! The contract of chapter 6's specification: the node of a word. -/
namespace Go.Proofs.YteolfnceobjonaaGreat
open Go.RowKit

theorem part_le (ws : List (List UInt8)) (j : Nat) : (ws.getD j []).length ≤ ws.flatten.length := by
  induction ws generalizing j with
  | nil => simp
  | cons x r ih =>
    cases j with
    | zero => simp
    | succ j => have := ih j; simp only [List.getD_cons_succ, List.flatten_cons, List.length_append]; omega

end Go.Proofs.YteolfnceobjonaaGreat

/-! The contract of chapter 6's specification: ReadTree. -/
namespace Go.Proofs.YteolfnceobjonaaGreat
open Go.RowKit

/-- What a row of nodes holds. -/
def nodesV : List Nd → List Value
  | [] => []
  | n :: r => .int .i64 n.1 :: .int .i64 n.2.1 :: .string ⟨n.2.2.1.toArray⟩ :: .string ⟨n.2.2.2.toArray⟩ :: nodesV r

theorem split_part (b : UInt8) (l : List UInt8) (j : Nat) : ((splitL b l).getD j []).length ≤ l.length := by
  have h1 : (splitGo b [] l).flatten.length ≤ l.length := by
    have := splitGo_flat b l []
    rw [List.length_nil, Nat.zero_add] at this
    exact this
  have h2 := part_le (splitL b l) j
  unfold splitL at h2 ⊢
  exact Nat.le_trans h2 h1

end Go.Proofs.YteolfnceobjonaaGreat

/-! The laws' own helpers over nodes and rows of nodes: szNode, szNodeS, toNode, toNodeS, eqNode, eqNodeS. -/
namespace Go.Proofs.YteolfnceobjonaaGreat
open Go.RowKit

/-- How many bytes the texts of nodes have in all. -/
def textsN : List Nd → Nat
  | [] => 0
  | n :: r => n.2.2.1.length + n.2.2.2.length + textsN r
def szN (m n : Nat) (left : Int) : Int := if (m : Int) + (n : Int) ≤ left then left - (m : Int) - (n : Int) else -1
theorem szN_yes {m n : Nat} {left : Int} (h : (m : Int) + (n : Int) ≤ left) : szN m n left = left - (m : Int) - (n : Int) := by unfold szN; rw [if_pos h]
theorem szN_no {m n : Nat} {left : Int} (h : ¬ (m : Int) + (n : Int) ≤ left) : szN m n left = -1 := by unfold szN; rw [if_neg h]

/-- A node's numbers are numbers of 64 bits. -/
def IntN (n : Nd) : Prop := (-9223372036854775808 ≤ n.1 ∧ n.1 ≤ 9223372036854775807) ∧ (-9223372036854775808 ≤ n.2.1 ∧ n.2.1 ≤ 9223372036854775807)
def IntT (ns : List Nd) : Prop := ∀ j, IntN (ns.getD j nd0)
theorem intN_nd0 : IntN nd0 := by unfold IntN nd0; decide
theorem IntT.nil : IntT [] := fun j => by rw [show ([] : List Nd).getD j nd0 = nd0 by simp]; exact intN_nd0
def LongT (ns : List Nd) : Prop := ∀ j, (ns.getD j nd0).2.2.1.length ≤ maxLen ∧ (ns.getD j nd0).2.2.2.length ≤ maxLen

end Go.Proofs.YteolfnceobjonaaGreat

/-! Plain facts for chapter 6's landed code: shapes, and what words are read as. -/
namespace Go.Proofs.YteolfnceobjonaaGreat
open Go.RowKit

/-- A shape: what a node tells by its kind. -/
inductive Sh where
  | num (a : Int)
  | arg (a : Int)
  | pair (k : Int)
  | cond
  | call (p f : List UInt8) (a : Int)
  | no

def shOf (n : Nd) : Sh :=
  if n.1 = 1 then .num n.2.1
  else if n.1 = 2 then .arg n.2.1
  else if 3 ≤ n.1 ∧ n.1 ≤ 6 then .pair n.1
  else if n.1 = 7 then .cond
  else if n.1 = 8 then .call n.2.2.1 n.2.2.2 n.2.1
  else .no

def shNode : Sh → Nd
  | .num a => (1, a, [], [])
  | .arg a => (2, a, [], [])
  | .pair k => (k, 0, [], [])
  | .cond => (7, 0, [], [])
  | .call p f a => (8, a, p, f)
  | .no => (0, 0, [], [])

def shOk : Sh → Bool
  | .num a => inB a (-2147483648) 2147483647
  | .arg a => inB a 0 2
  | .pair _ => true
  | .cond => true
  | .call p f a => inB a 0 3 && (nameB p && nameB f)
  | .no => false

def shKids : Sh → Int
  | .num _ => 0
  | .arg _ => 0
  | .pair _ => 2
  | .cond => 3
  | .call _ _ a => a
  | .no => -1

def shWord : Sh → List UInt8
  | .num a => intL a
  | .arg a => 36 :: intL a
  | .pair k => if k = 3 then [43] else if k = 4 then [45] else if k = 5 then [42] else [47]
  | .cond => [63]
  | .call p f a => (64 :: p) ++ [46] ++ f ++ [47] ++ intL a
  | .no => []

/-- A text cut at a byte: what is ahead of it, what is behind it. -/
def cutA (b : UInt8) (l : List UInt8) : List UInt8 := l.takeWhile (fun c => c != b)
def cutB (b : UInt8) (l : List UInt8) : List UInt8 := (l.dropWhile (fun c => c != b)).tail

theorem cut_one (b : UInt8) (x y : List UInt8) (h : ∀ c ∈ x, c ≠ b) : cutA b (x ++ b :: y) = x ∧ cutB b (x ++ b :: y) = y := by
  unfold cutA cutB
  induction x with
  | nil => simp
  | cons c r ih =>
    have hc : (c != b) = true := bne_iff_ne.2 (h c (by simp))
    have := ih (fun d hd => h d (by simp [hd]))
    rw [List.cons_append, List.takeWhile_cons, List.dropWhile_cons, if_pos hc, if_pos hc]
    exact ⟨by rw [this.1], this.2⟩

theorem cutA_len (b : UInt8) (l : List UInt8) : (cutA b l).length ≤ l.length := (List.takeWhile_sublist _).length_le
theorem cutB_len (b : UInt8) (l : List UInt8) : (cutB b l).length ≤ l.length := by
  have := (List.dropWhile_sublist (l := l) (fun c => c != b)).length_le
  unfold cutB
  rw [List.length_tail]
  omega

/-- Where the byte is. -/
theorem cut_at (b : UInt8) (l : List UInt8) : (Lib.indexByte l b = -1 ∧ cutA b l = l ∧ cutB b l = []) ∨ ∃ k : Nat, Lib.indexByte l b = (k : Int) ∧ k < l.length ∧ cutA b l = l.take k ∧ cutB b l = l.drop (k + 1) := by
  induction l with
  | nil => exact Or.inl ⟨rfl, rfl, rfl⟩
  | cons c r ih =>
    by_cases hc : c = b
    · subst hc
      refine Or.inr ⟨0, ?_, by simp, ?_, ?_⟩
      · unfold Lib.indexByte; simp
      · unfold cutA; simp
      · unfold cutB; simp
    · have hc2 : (c != b) = true := bne_iff_ne.2 hc
      have hc3 : (c == b) = false := beq_eq_false_iff_ne.2 hc
      have ea : cutA b (c :: r) = c :: cutA b r := by unfold cutA; rw [List.takeWhile_cons, if_pos hc2]
      have eb : cutB b (c :: r) = cutB b r := by unfold cutB; rw [List.dropWhile_cons, if_pos hc2]
      have ei : Lib.indexByte (c :: r) b = if Lib.indexByte r b == -1 then -1 else Lib.indexByte r b + 1 := by
        rw [Lib.indexByte, hc3]; rfl
      rw [ea, eb, ei]
      rcases ih with ⟨h1, h2, h3⟩ | ⟨k, h1, h2, h3, h4⟩
      · exact Or.inl ⟨by rw [h1]; rfl, by rw [h2], h3⟩
      · refine Or.inr ⟨k + 1, ?_, by simp; omega, by rw [h3]; rfl, by rw [h4]; rfl⟩
        rw [h1, if_neg (by rw [beq_iff_eq]; omega)]
        omega

/-- The shape of a word. -/
noncomputable def shIn (s : List UInt8) : Sh :=
  if numB s = true then .num (numV s)
  else if s = [63] then .cond
  else if s = [43] then .pair 3
  else if s = [45] then .pair 4
  else if s = [42] then .pair 5
  else if s = [47] then .pair 6
  else if s.head? = some 36 then .arg (numV s.tail)
  else if s.head? = some 64 then .call (cutA 46 (cutA 47 s.tail)) (cutB 46 (cutA 47 s.tail)) (numV (cutB 47 s.tail))
  else .no

/-- The landed ReadTree's list. -/
noncomputable def inT (s : List UInt8) : List Nd := (splitL 32 s).map (fun x => shNode (shIn x))

end Go.Proofs.YteolfnceobjonaaGreat

/-! The contracts of chapter 6's specification: l6Parts, PartsOf. -/
namespace Go.Proofs.YteolfnceobjonaaGreat
open Go.RowKit

/-- What a row of numbers holds. -/
def intsV (l : List Int) : List Value := l.map (fun i => Value.int .i64 i)
end Go.Proofs.YteolfnceobjonaaGreat

/-! The laws' own helpers over rows of numbers: eqInt64S, markInt64S, heldInt64S, likeInts. -/
namespace Go.Proofs.YteolfnceobjonaaGreat
open Go.RowKit

/-- The marks from k on. -/
def marksI (k : Nat) : Nat → List Int
  | 0 => []
  | n + 1 => marksI k n ++ [((k + n : Nat) : Int)]
end Go.Proofs.YteolfnceobjonaaGreat
