/-
  Parts of one proof, one behind the other: Math13, TreeS4, TreeS5, TreeS6, IntsL, Marks, Marks2, Marks3, TextsL, NumsL, NodeL, Draw3, DrawW, DrawT, Bend1, Bend2, DrawX, DrawN.
-/
import Derived.Test.YtnflkecnddbhoaaP5
import Derived.Test.YtnflkecnddbhoaaP1
import Derived.Test.YtnflkecnddbhoaaP3
import Derived.Deep.RegionWith
import Derived.Test.YtnflkecnddbhoaaP2
import Derived.SliceStrings
import Derived.ProofKit
import Derived.OpenShut
import Derived.ShutString
import Derived.ChangeOld
import Derived.Below
import Derived.Deep.RegionHeld3
import Derived.Deep.RegionLaw
import Derived.Deep.DrawnRows

/-! Plain facts of chapter 13: instructions, code, what a tree becomes, registers. -/
namespace Go.Proofs.Ytnflkecnddbhoaa
open Go.RowKit

abbrev In13 := Int × Int × Int × Int × List UInt8
def in0 : In13 := (0, 0, 0, 0, [])
def name13 (s : List UInt8) : Bool := (splitL 46 s).length == 2 && nameB ((splitL 46 s).getD 0 []) && nameB ((splitL 46 s).getD 1 [])
def insP (i : In13) : Prop :=
  (i.1 = 9 ∨ i.2.2.2.2 = []) ∧ ((3 ≤ i.1 ∧ i.1 ≤ 6) ∨ i.2.2.2.1 = 0) ∧
  ((i.1 = 1 ∧ (0 ≤ i.2.1 ∧ i.2.1 ≤ 63) ∧ (-2147483648 ≤ i.2.2.1 ∧ i.2.2.1 ≤ 2147483647)) ∨
   (i.1 = 2 ∧ (0 ≤ i.2.1 ∧ i.2.1 ≤ 63) ∧ (0 ≤ i.2.2.1 ∧ i.2.2.1 ≤ 2)) ∨
   ((3 ≤ i.1 ∧ i.1 ≤ 6) ∧ (0 ≤ i.2.1 ∧ i.2.1 ≤ 63) ∧ (0 ≤ i.2.2.1 ∧ i.2.2.1 ≤ 63) ∧ (0 ≤ i.2.2.2.1 ∧ i.2.2.2.1 ≤ 63)) ∨
   (i.1 = 7 ∧ (0 ≤ i.2.1 ∧ i.2.1 ≤ 63) ∧ (0 ≤ i.2.2.1 ∧ i.2.2.1 ≤ 199)) ∨
   (i.1 = 8 ∧ i.2.1 = 0 ∧ (0 ≤ i.2.2.1 ∧ i.2.2.1 ≤ 199)) ∨
   (i.1 = 9 ∧ (0 ≤ i.2.1 ∧ i.2.1 ≤ 63) ∧ (0 ≤ i.2.2.1 ∧ i.2.2.1 ≤ 3) ∧ i.2.1 + i.2.2.1 - 1 ≤ 63 ∧ name13 i.2.2.2.2 = true) ∨
   (i.1 = 10 ∧ (0 ≤ i.2.1 ∧ i.2.1 ≤ 63) ∧ i.2.2.1 = 0))
instance (i : In13) : Decidable (insP i) := by unfold insP; infer_instance
def insB (i : In13) : Bool := decide (insP i)
/-- Is it right, in code of n? -/
def insAt (n : Nat) (i : In13) : Prop := insP i ∧ ((i.1 = 7 ∨ i.1 = 8) → i.2.2.1 < (n : Int))
instance (n : Nat) (i : In13) : Decidable (insAt n i) := by unfold insAt; infer_instance
def codeB (c : List In13) : Bool := decide ((1 ≤ c.length ∧ c.length ≤ 200) ∧ (∀ i ∈ c, insAt c.length i) ∧ ((c.getD (c.length - 1) in0).1 = 10 ∨ (c.getD (c.length - 1) in0).1 = 8))
/-- How far up an instruction reaches. -/
def top13 (i : In13) : Int := if i.1 = 8 then 0 else if 3 ≤ i.1 ∧ i.1 ≤ 6 then max (max i.2.2.1 i.2.2.2.1 + 1) (i.2.1 + 1) else if i.1 = 9 then max (i.2.1 + i.2.2.1) (i.2.1 + 1) else i.2.1 + 1
def mx13 : List In13 → Int
  | [] => 0
  | i :: r => max (top13 i) (mx13 r)
theorem mx13_ge : ∀ l : List In13, 0 ≤ mx13 l
  | [] => Int.le_refl 0
  | _ :: r => Int.le_trans (mx13_ge r) (Int.le_max_right _ _)
theorem mx13_append : ∀ x y : List In13, mx13 (x ++ y) = max (mx13 x) (mx13 y)
  | [], y => by have := mx13_ge y; simp only [List.nil_append, mx13]; omega
  | i :: r, y => by simp only [List.cons_append, mx13, mx13_append r y]; omega
theorem mx13_one (i : In13) : mx13 [i] = max (top13 i) 0 := rfl
def regsV (c : List In13) : Int := if codeB c = true then mx13 c else 0

/-- A part of a tree, into register r, behind c instructions. -/
def args13 (f : Int → Int → Int → List In13) : List Int → Int → Int → List In13
  | [], _, _ => []
  | p :: ps, r, c => f p r c ++ args13 f ps (r + 1) (c + (f p r c).length)
def into13 : Nat → List Nd → Int → Int → Int → List In13
  | 0, _, _, _, _ => []
  | d + 1, t, a, r, c =>
    let n := t.getD a.toNat nd0
    let p := pts10 t a
    if n.1 = 1 then [(1, r, n.2.1, 0, [])]
    else if n.1 = 2 then [(2, r, n.2.1, 0, [])]
    else if n.1 = 7 then
      let x := into13 d t (p.getD 0 0) r c
      let y := into13 d t (p.getD 1 0) r (c + x.length + 1)
      let z := into13 d t (p.getD 2 0) r (c + x.length + 1 + y.length + 1)
      x ++ (7, r, c + x.length + 1 + y.length + 1, 0, []) :: (y ++ (8, 0, c + x.length + 1 + y.length + 1 + z.length, 0, []) :: z)
    else if n.1 = 8 then args13 (into13 d t) p r c ++ [(9, r, n.2.1, 0, n.2.2.1 ++ 46 :: n.2.2.2)]
    else if need12 60 t [] (p.getD 1 0) ≤ need12 60 t [] (p.getD 0 0) then
      let x := into13 d t (p.getD 0 0) r c
      x ++ into13 d t (p.getD 1 0) (r + 1) (c + x.length) ++ [(n.1, r, r, r + 1, [])]
    else
      let x := into13 d t (p.getD 1 0) r c
      x ++ into13 d t (p.getD 0 0) (r + 1) (c + x.length) ++ [(n.1, r, r + 1, r, [])]
def compiledV (t : List Nd) : List In13 := if treeB t = true then into13 60 t 0 0 0 ++ [(10, 0, 0, 0, [])] else []

/-- What a part's code keeps. -/
structure G13 (s : Nat) (x : List In13) (r c nd : Int) : Prop where
  len : x.length + 1 ≤ 2 * s
  pos : 1 ≤ x.length
  noEnd : ∀ i ∈ x, i.1 ≠ 10
  ok : 0 ≤ c → c + x.length ≤ 199 → r + nd ≤ 64 → ∀ i ∈ x, insP i ∧ ((i.1 = 7 ∨ i.1 = 8) → i.2.2.1 ≤ c + x.length)
  top : mx13 x = r + nd

theorem name_dot {p f : List UInt8} (hp : nameB p = true) (hf : nameB f = true) : name13 (p ++ 46 :: f) = true := by
  have hno : ∀ {l : List UInt8}, nameB l = true → ∀ c ∈ l, c ≠ 46 := fun h c hc e => by
    unfold nameB at h
    rw [Bool.and_eq_true, List.all_eq_true] at h
    have := h.2 c hc
    subst e
    simp at this
  have hs : splitL 46 (p ++ 46 :: f) = [p, f] := by
    unfold splitL
    rw [split_one 46 p f [] (hno hp), split_none 46 f [] (hno hf)]
    rfl
  unfold name13
  rw [hs]
  simp [hp, hf]

theorem into_pair {s1 s2 : Nat} {x y : List In13} {k r c m1 m2 a b : Int} (h1 : G13 s1 x r c m1) (h2 : G13 s2 y (r + 1) (c + x.length) m2) (hr : 0 ≤ r) (hk : 3 ≤ k ∧ k ≤ 6) (hm1 : 1 ≤ m1) (hm2 : 1 ≤ m2) (hab : (a = r ∧ b = r + 1) ∨ (a = r + 1 ∧ b = r)) : G13 (s1 + s2 + 1) (x ++ y ++ [(k, r, a, b, [])]) r c (max m1 (m2 + 1)) := by
  have hl : (x ++ y ++ [((k, r, a, b, []) : In13)]).length = x.length + y.length + 1 := by simp; omega
  refine ⟨?_, ?_, ?_, ?_, ?_⟩
  · rw [hl]; have := h1.len; have := h2.len; omega
  · rw [hl]; omega
  · intro i hi
    simp only [List.mem_append, List.mem_singleton] at hi
    rcases hi with (hi | hi) | hi
    · exact h1.noEnd i hi
    · exact h2.noEnd i hi
    · subst hi; simp; omega
  · intro hc hlen hn i hi
    rw [hl] at hlen ⊢
    simp only [List.mem_append, List.mem_singleton] at hi
    rcases hi with (hi | hi) | hi
    · obtain ⟨q1, q2⟩ := h1.ok hc (by omega) (by omega) i hi
      exact ⟨q1, fun e => by have := q2 e; omega⟩
    · obtain ⟨q1, q2⟩ := h2.ok (by omega) (by omega) (by omega) i hi
      exact ⟨q1, fun e => by have := q2 e; omega⟩
    · subst hi
      refine ⟨⟨Or.inr rfl, Or.inl hk, Or.inr (Or.inr (Or.inl ⟨hk, ⟨hr, by simp only; omega⟩, ⟨by simp only; omega, by simp only; omega⟩, by simp only; omega, by simp only; omega⟩))⟩, fun e => by simp only at e; omega⟩
  · rw [mx13_append, mx13_append, h1.top, h2.top, mx13_one]
    unfold top13
    simp only
    rw [if_neg (by omega), if_pos hk]
    omega

theorem into_if {s1 s2 s3 : Nat} {x y z : List In13} {r c m1 m2 m3 : Int} (h1 : G13 s1 x r c m1) (h2 : G13 s2 y r (c + x.length + 1) m2) (h3 : G13 s3 z r (c + x.length + 1 + y.length + 1) m3) (hr : 0 ≤ r) (hm1 : 1 ≤ m1) (hm2 : 1 ≤ m2) (hm3 : 1 ≤ m3) :
    G13 (s1 + s2 + s3 + 1) (x ++ (7, r, c + x.length + 1 + y.length + 1, 0, []) :: (y ++ (8, 0, c + x.length + 1 + y.length + 1 + z.length, 0, []) :: z)) r c (max m1 (max m2 m3)) := by
  obtain ⟨A, hA⟩ : ∃ A, c + x.length + 1 + y.length + 1 = A := ⟨_, rfl⟩
  obtain ⟨E, hE⟩ : ∃ E, A + z.length = E := ⟨_, rfl⟩
  rw [hA] at h3
  rw [hA, hE]
  have hl : (x ++ ((7, r, A, 0, []) : In13) :: (y ++ (8, 0, E, 0, []) :: z)).length = x.length + y.length + z.length + 2 := by simp; omega
  refine ⟨?_, ?_, ?_, ?_, ?_⟩
  · rw [hl]; have := h1.len; have := h2.len; have := h3.len; omega
  · rw [hl]; omega
  · intro i hi
    simp only [List.mem_append, List.mem_cons] at hi
    rcases hi with hi | hi | hi | hi | hi
    · exact h1.noEnd i hi
    · subst hi; simp
    · exact h2.noEnd i hi
    · subst hi; simp
    · exact h3.noEnd i hi
  · intro hc hlen hn i hi
    rw [hl] at hlen ⊢
    simp only [List.mem_append, List.mem_cons] at hi
    rcases hi with hi | hi | hi | hi | hi
    · obtain ⟨q1, q2⟩ := h1.ok hc (by omega) (by omega) i hi
      exact ⟨q1, fun e => by have := q2 e; omega⟩
    · subst hi
      exact ⟨⟨Or.inr rfl, Or.inr rfl, Or.inr (Or.inr (Or.inr (Or.inl ⟨rfl, ⟨hr, by simp only; omega⟩, by simp only; omega, by simp only; omega⟩)))⟩, fun _ => by simp only; omega⟩
    · obtain ⟨q1, q2⟩ := h2.ok (by omega) (by omega) (by omega) i hi
      exact ⟨q1, fun e => by have := q2 e; omega⟩
    · subst hi
      exact ⟨⟨Or.inr rfl, Or.inr rfl, Or.inr (Or.inr (Or.inr (Or.inr (Or.inl ⟨rfl, rfl, by simp only; omega, by simp only; omega⟩))))⟩, fun _ => by simp only; omega⟩
    · obtain ⟨q1, q2⟩ := h3.ok (by omega) (by omega) (by omega) i hi
      exact ⟨q1, fun e => by have := q2 e; omega⟩
  · have e1 : mx13 (((7, r, A, 0, []) : In13) :: (y ++ (8, 0, E, 0, []) :: z)) = max (r + 1) (mx13 (y ++ ((8, 0, E, 0, []) : In13) :: z)) := rfl
    have e2 : mx13 (((8, 0, E, 0, []) : In13) :: z) = max 0 (mx13 z) := rfl
    rw [mx13_append, e1, mx13_append, e2, h1.top, h2.top, h3.top]
    omega

/-- The parts of a call, one register behind the other. -/
theorem args_ok (f : Int → Int → Int → List In13) (g : Int → Int) (sz : Int → Nat) : ∀ (ps : List Int) (r c : Int), 0 ≤ r → (∀ p ∈ ps, 1 ≤ g p ∧ ∀ r c, 0 ≤ r → G13 (sz p) (f p r c) r c (g p)) →
    (args13 f ps r c).length + ps.length ≤ 2 * (ps.map sz).sum ∧ (∀ i ∈ args13 f ps r c, i.1 ≠ 10) ∧ (∀ m : Int, 0 ≤ c → c + (args13 f ps r c).length ≤ 199 → r + most12 (ps.map g) 0 m ≤ 64 → ∀ i ∈ args13 f ps r c, insP i ∧ ((i.1 = 7 ∨ i.1 = 8) → i.2.2.1 ≤ c + (args13 f ps r c).length)) ∧ (∀ m : Int, 0 ≤ m → max (mx13 (args13 f ps r c)) (r + m) = r + most12 (ps.map g) 0 m ∧ (ps.length : Int) ≤ most12 (ps.map g) 0 m)
  | [], r, c, hr, _ => by
    refine ⟨by simp [args13], ?_, ?_, ?_⟩
    · intro i hi; simp [args13] at hi
    · intro m _ _ _ i hi; simp [args13] at hi
    · intro m hm
      simp only [args13, mx13, List.map_nil, most12, List.length_nil]
      omega
  | p :: ps, r, c, hr, h => by
    obtain ⟨hg, hp⟩ := h p (by simp)
    have h1 := hp r c hr
    obtain ⟨i1, i2, i3, i4⟩ := args_ok f g sz ps (r + 1) (c + (f p r c).length) (by omega) (fun q hq => h q (by simp [hq]))
    have most_shift : ∀ (l : List Int) (i m : Int), most12 l (i + 1) (m + 1) = most12 l i m + 1 := by
      intro l
      induction l with
      | nil => intro i m; rfl
      | cons x l ihl => intro i m; simp only [most12]; rw [← ihl]; congr 1; omega
    have e1 : args13 f (p :: ps) r c = f p r c ++ args13 f ps (r + 1) (c + (f p r c).length) := rfl
    rw [e1]
    generalize args13 f ps (r + 1) (c + (f p r c).length) = y at i1 i2 i3 i4 ⊢
    generalize f p r c = x at h1 i3 ⊢
    have hl : (x ++ y).length = x.length + y.length := by simp
    have hm : ∀ m : Int, most12 ((p :: ps).map g) 0 m = most12 (ps.map g) 0 (max m (g p) - 1) + 1 := fun m => by
      have := most_shift (ps.map g) 0 (max m (g p) - 1)
      rw [show max m (g p) - 1 + 1 = max m (g p) by omega] at this
      rw [← this]
      simp only [List.map_cons, most12, Int.add_zero]
    refine ⟨?_, ?_, ?_, ?_⟩
    · rw [hl]
      have := h1.len
      simp only [List.map_cons, List.sum_cons, List.length_cons]
      omega
    · intro i hi
      rcases List.mem_append.1 hi with hi | hi
      · exact h1.noEnd i hi
      · exact i2 i hi
    · intro m hc hlen hn i hi
      rw [hl] at hlen ⊢
      rw [hm] at hn
      have hge := most12_ge (ps.map g) 0 (max m (g p) - 1)
      rcases List.mem_append.1 hi with hi | hi
      · obtain ⟨q1, q2⟩ := h1.ok hc (by omega) (by omega) i hi
        exact ⟨q1, fun e => by have := q2 e; omega⟩
      · obtain ⟨q1, q2⟩ := i3 (max m (g p) - 1) (by omega) (by omega) (by omega) i hi
        exact ⟨q1, fun e => by have := q2 e; omega⟩
    · intro m hm1
      rw [hm, mx13_append, h1.top, List.length_cons]
      have := i4 (max m (g p) - 1) (by omega)
      omega

theorem into_call {s : Nat} {y : List In13} {r c m k : Int} {pk fn : List UInt8} (hl : y.length ≤ 2 * s) (h2 : ∀ i ∈ y, i.1 ≠ 10) (h3 : 0 ≤ c → c + y.length ≤ 199 → r + m ≤ 64 → ∀ i ∈ y, insP i ∧ ((i.1 = 7 ∨ i.1 = 8) → i.2.2.1 ≤ c + y.length)) (h4 : max (mx13 y) (r + 1) = r + m) (hk0 : 0 ≤ k) (hk3 : k ≤ 3) (hkm : k ≤ m) (hr : 0 ≤ r) (hp : nameB pk = true) (hf : nameB fn = true) :
    G13 (s + 1) (y ++ [(9, r, k, 0, pk ++ 46 :: fn)]) r c m := by
  have hl2 : (y ++ [((9, r, k, 0, pk ++ 46 :: fn) : In13)]).length = y.length + 1 := by simp
  refine ⟨?_, ?_, ?_, ?_, ?_⟩
  · rw [hl2]; omega
  · rw [hl2]; omega
  · intro i hi
    simp only [List.mem_append, List.mem_singleton] at hi
    rcases hi with hi | hi
    · exact h2 i hi
    · subst hi; simp
  · intro hc hlen hn i hi
    rw [hl2] at hlen ⊢
    simp only [List.mem_append, List.mem_singleton] at hi
    rcases hi with hi | hi
    · obtain ⟨q1, q2⟩ := h3 hc (by omega) (by omega) i hi
      exact ⟨q1, fun e => by have := q2 e; omega⟩
    · subst hi
      exact ⟨⟨Or.inl rfl, Or.inr rfl, Or.inr (Or.inr (Or.inr (Or.inr (Or.inr (Or.inl ⟨rfl, ⟨hr, by simp only; omega⟩, ⟨hk0, hk3⟩, by simp only; omega, name_dot hp hf⟩)))))⟩, fun e => by simp only at e; omega⟩
  · have e1 : mx13 [((9, r, k, 0, pk ++ 46 :: fn) : In13)] = max (max (r + k) (r + 1)) 0 := rfl
    rw [mx13_append, e1]
    omega

end Go.Proofs.Ytnflkecnddbhoaa

/-! The contract of chapter 6's specification: the node of a word. -/
namespace Go.Proofs.Ytnflkecnddbhoaa
open Go.RowKit

end Go.Proofs.Ytnflkecnddbhoaa

/-! The contract of chapter 6's specification: ReadTree. -/
namespace Go.Proofs.Ytnflkecnddbhoaa
open Go.RowKit

/-- What a row of nodes holds. -/
def nodesV : List Nd → List Value
  | [] => []
  | n :: r => .int .i64 n.1 :: .int .i64 n.2.1 :: .string ⟨n.2.2.1.toArray⟩ :: .string ⟨n.2.2.2.toArray⟩ :: nodesV r

theorem nodesV_len (ns : List Nd) : (nodesV ns).length = ns.length * 4 := by
  induction ns with
  | nil => rfl
  | cons n r ih => simp only [nodesV, List.length_cons, ih]; omega

theorem nodesV_append (x y : List Nd) : nodesV (x ++ y) = nodesV x ++ nodesV y := by
  induction x with
  | nil => rfl
  | cons n r ih => simp only [List.cons_append, nodesV, ih]

theorem nodesV_one (ns : List Nd) : ∀ u ∈ nodesV ns, u.oneCell' = true := by
  induction ns with
  | nil => intro u hu; cases hu
  | cons n r ih =>
    intro u hu
    simp only [nodesV, List.mem_cons] at hu
    rcases hu with rfl | rfl | rfl | rfl | h
    · rfl
    · rfl
    · rfl
    · rfl
    · exact ih u h

theorem nodesV_at (ns : List Nd) (j : Nat) (hj : j < ns.length) : (nodesV ns)[j * 4]? = some (.int .i64 (ns.getD j nd0).1) ∧ (nodesV ns)[j * 4 + 1]? = some (.int .i64 (ns.getD j nd0).2.1) ∧ (nodesV ns)[j * 4 + 2]? = some (.string ⟨(ns.getD j nd0).2.2.1.toArray⟩) ∧ (nodesV ns)[j * 4 + 3]? = some (.string ⟨(ns.getD j nd0).2.2.2.toArray⟩) := by
  induction ns generalizing j with
  | nil => simp at hj
  | cons n r ih =>
    cases j with
    | zero => simp [nodesV]
    | succ j =>
      have h := ih j (by simpa using hj)
      rw [show (j + 1) * 4 = j * 4 + 1 + 1 + 1 + 1 by omega]
      simpa [nodesV] using h

/-- A row of nodes that a call owns is a list of nodes. -/
theorem own_nodes {w : World} {base n : Nat} {v : Value} {ns : List Nd} (h : w.ownsRow base 124 4 v n (nodesV ns)) : ns.length = n ∧ ∃ a cap, v = .slice a n cap ∧ NodesIn w a n ns := by
  have hlen : ns.length = n := by have := h.1; rw [nodesV_len] at this; omega
  refine ⟨hlen, ?_⟩
  rcases own_forms h with ⟨rfl, rfl, _⟩ | ⟨g, cp, rfl⟩
  · exact ⟨none, 0, rfl, hlen, fun j hj => by omega⟩
  · refine ⟨some ⟨g, 0, none⟩, cp, rfl, hlen, fun j hj => ?_⟩
    obtain ⟨v0, v1, v2, v3⟩ := nodesV_at ns j (by omega)
    have c0 := h.cellAt (j * 4) (by omega)
    have c1 := h.cellAt (j * 4 + 1) (by omega)
    have c2 := h.cellAt (j * 4 + 2) (by omega)
    have c3 := h.cellAt (j * 4 + 3) (by omega)
    rw [v0] at c0
    rw [v1] at c1
    rw [v2] at c2
    rw [v3] at c3
    refine ⟨g, 0, rfl, (h.lt g rfl).2, ?_, ?_, ?_, ?_⟩
    · rw [Nat.zero_add]; exact c0
    · rw [Nat.zero_add]; exact c1
    · rw [Nat.zero_add]; exact c2
    · rw [Nat.zero_add]; exact c3

theorem infoNode : (Try.prog.info? 124).map (fun i => (i.zero, i.size, i.bytes)) = some (some (.agg #[.int .i64 0, .int .i64 0, .string ⟨#[]⟩, .string ⟨#[]⟩]), 4, 48) := by kernel_rfl

theorem new_node (w : World) (n : Nd) : ∀ j u, (nodesV [n])[j]? = some u → (w.alloc (.cells #[.int .i64 n.1, .int .i64 n.2.1, .string ⟨n.2.2.1.toArray⟩, .string ⟨n.2.2.2.toArray⟩] 124)).cell? ((⟨w.heap.size, 0, none⟩ : Addr).add j) = some u := by
  intro j u hu
  have e : (⟨w.heap.size, 0, none⟩ : Addr).add j = ⟨w.heap.size, j, none⟩ := by unfold Addr.add; split <;> simp_all
  rw [e]
  match j, hu with
  | 0, hu => simp [nodesV] at hu; subst hu; simp
  | 1, hu => simp [nodesV] at hu; subst hu; simp
  | 2, hu => simp [nodesV] at hu; subst hu; simp
  | 3, hu => simp [nodesV] at hu; subst hu; simp
  | j + 4, hu => simp [nodesV] at hu

end Go.Proofs.Ytnflkecnddbhoaa

/-! The contracts of chapter 6's specification: l6Parts, PartsOf. -/
namespace Go.Proofs.Ytnflkecnddbhoaa
open Go.RowKit

/-- What a row of numbers holds. -/
def intsV (l : List Int) : List Value := l.map (fun i => Value.int .i64 i)
theorem intsV_len (l : List Int) : (intsV l).length = l.length := by simp [intsV]
theorem intsV_append (x y : List Int) : intsV (x ++ y) = intsV x ++ intsV y := by simp [intsV]
theorem intsV_one (l : List Int) : ∀ u ∈ intsV l, u.oneCell' = true := by
  intro u hu
  simp only [intsV, List.mem_map] at hu
  obtain ⟨i, _, rfl⟩ := hu
  rfl
theorem infoInt : (Try.prog.info? 2).map (fun i => (i.zero, i.size, i.bytes)) = some (some (.int .i64 0), 1, 8) := by kernel_rfl

theorem new_int (w : World) (n : Int) : ∀ j u, (intsV [n])[j]? = some u → (w.alloc (.cells #[.int .i64 n] 2)).cell? ((⟨w.heap.size, 0, none⟩ : Addr).add j) = some u := by
  intro j u hu
  have e : (⟨w.heap.size, 0, none⟩ : Addr).add j = ⟨w.heap.size, j, none⟩ := by unfold Addr.add; split <;> simp_all
  rw [e]
  match j, hu with
  | 0, hu => simp [intsV] at hu; subst hu; simp
  | j + 1, hu => simp [intsV] at hu

theorem endV_le (l : List Nd) (a : Int) : -1 ≤ endV l a ∧ endV l a ≤ l.length := by
  by_cases h : 0 ≤ endV l a
  · by_cases ha : a < 0 ∨ (l.length : Int) ≤ a
    · rw [endV_out l a ha] at h; omega
    · obtain ⟨k, rfl⟩ : ∃ k : Nat, a = (k : Int) := Int.eq_ofNat_of_zero_le (by omega)
      have := end_parts h
      omega
  · by_cases ha : a < 0 ∨ (l.length : Int) ≤ a
    · rw [endV_out l a ha]; omega
    · obtain ⟨k, rfl⟩ : ∃ k : Nat, a = (k : Int) := Int.eq_ofNat_of_zero_le (by omega)
      rw [endV_nat] at h ⊢
      unfold endN at h ⊢
      rw [if_pos (by omega)] at h ⊢
      cases he : endGo (l.drop k) 1 with
      | none => simp only; omega
      | some d => rw [he] at h; simp only at h; omega

set_option maxHeartbeats 2000000 in
set_option maxRecDepth 100000 in
theorem specParts (a : Option Addr) (cap : Nat) (ns : List Nd) (k0 : Nat) (w : World) (hin : NodesIn w a ns.length ns) (hsh : ShortT ns) (hlen : ns.length ≤ 1048576) (hk0 : k0 < ns.length) (hnb : nodeB (ns.getD k0 nd0) = true) :
    Calls Try.prog 101 #[.slice a ns.length cap, .int .i64 k0] w fun e w' => ∃ v, e = .returned v ∧ w'.ownsRow w.heap.size 2 1 v (kidsN (ns.getD k0 nd0)) (intsV (partsGo ns (kidsN (ns.getD k0 nd0)) ((k0 : Int) + 1))) ∧ Below w.heap.size w w' := by
  have hown0 := (World.ownsRow_lit (base := w.heap.size) (e := 2) (size := 1) w #[] 0 (Nat.le_refl _) (by decide) rfl)
  obtain ⟨i0, hi, hz0, hz1, hz2⟩ := info_parts infoInt
  obtain ⟨b, off, rfl, hbl, hcells⟩ := hin.at (by omega)
  obtain ⟨c0, c1, c2, c3⟩ := hcells k0 hk0
  obtain ⟨n, hn⟩ : ∃ n, ns.getD k0 nd0 = n := ⟨_, rfl⟩
  rw [hn] at c0 c1 c2 c3 hnb ⊢
  have HK : Hid (_) := fun W : World => specKids n W
  obtain ⟨hk1, hk3⟩ := @kidsV_ok n hnb
  have HI : Hid (NodesIn w (some ⟨b, off, none⟩) ns.length ns) := hin
  have HE : Hid (_) := fun (j : Int) (W : World) (h : NodesIn W (some ⟨b, off, none⟩) ns.length ns) => specEndOf (some ⟨b, off, none⟩) ns.length cap ns j W h hsh hlen
  have hk0i : (k0 : Int) < 1048576 := by omega
  obtain ⟨kd, aa, p, f⟩ := n
  unfold nodeVal at HK
  simp only at c0 c1 c2 c3 HK
  clear hn hcells hin hsh hnb
  go_enter Try.func101, Try.ntmps101
  go_wp2_with fail
  refine Calls.mono (HK.out _) ?_
  rintro e w1 ⟨rfl, hb1⟩
  rw [hk1]
  obtain ⟨q, hq⟩ : ∃ q, kidsN (kd, aa, p, f) = q := ⟨_, rfl⟩
  rw [hq] at hk3 ⊢
  have HQ : Hid (kidsN (kd, aa, p, f) = q) := hq
  have hB1 := below_boxed hb1
  have hown1 := own_below hown0 hb1
  clear hk1 hq hb1 hown0 HK c0 c1 c2 c3
  go_wp2
  go_loopw [5, 6, 7] (fun v nx kv wr => ∃ (ds : List Int) (r : Nat) (t : Int), kv = .int .i64 r ∧ nx = .int .i64 t ∧ ds.length + r = q ∧ -1 ≤ t ∧ t ≤ 1048576 ∧ Hid (ds ++ partsGo ns r t = partsGo ns q ((k0 : Int) + 1)) ∧ Hid (wr.ownsRow w.heap.size 2 1 v ds.length (intsV ds)) ∧ Below w.heap.size w wr) (fun _ _ kv _ => (intOf kv).toNat)
  case atStart => exact ⟨[], q, (k0 : Int) + 1, rfl, by go_num, by simp, by omega, by omega, (rfl : [] ++ partsGo ns q ((k0 : Int) + 1) = _), hown1, hB1⟩
  case round =>
    obtain ⟨ds, r, t, rfl, rfl, hr, ht0, ht1, HP, HV, hb⟩ := hrel
    clear hown1 hB1
    by_cases hrz : r = 0
    · subst hrz
      have HF : Hid (ds = partsGo ns q ((k0 : Int) + 1) ∧ ds.length = q) := by
        have h := HP.out
        rw [partsGo, List.append_nil] at h
        exact (⟨h, by omega⟩ : ds = partsGo ns q ((k0 : Int) + 1) ∧ ds.length = q)
      go_wp2
      go_ret
      exact ⟨_, rfl, by rw [HQ.out, ← HF.out.1, ← HF.out.2]; exact HV.out, hb⟩
    · obtain ⟨r', rfl⟩ : ∃ r', r = r' + 1 := ⟨r - 1, by omega⟩
      have hr1 : (0 : Int) < ((r' + 1 : Nat) : Int) := by omega
      have hnc := new_int wr t
      have hV := HV.out
      have hB0 := hb
      clear hrz HV
      go_wp2_with (at_builtin; refine wpList_append_own_at _ rfl _ _ 27 rfl w.heap.size 2 i0 _ 1 8 Try.underlying27 hi hz0 hz1 hz2 rfl (by decide) _ _ _ rfl (hV.alloc _) ⟨wr.heap.size, 0, none⟩ 1 1 (intsV [t]) rfl rfl ?c1 ?c2 ?c3 ?c4 ?c5 ?_)
      first | (case c1 => exact hnc) | skip
      first | (case c2 => exact intsV_one _) | skip
      first | (case c3 => unfold maxLen; omega) | skip
      first | (case c4 => omega) | skip
      first | (case c5 => have := hB0.size; simp; try omega) | skip
      intro v' w3 hown3 hgrow3 hnil3 hat3
      have HV3 : Hid (w3.ownsRow w.heap.size 2 1 v' (ds ++ [t]).length (intsV (ds ++ [t]))) := by
        exact (by rw [intsV_append, List.length_append]; exact hown3 : w3.ownsRow w.heap.size 2 1 v' (ds ++ [t]).length (intsV (ds ++ [t])))
      have hb3 : Below w.heap.size w w3 := (hB0.alloc hB0.size _).grown hgrow3 (by have := hB0.size; simp; omega) (fun q e => (hV.lt q e).1)
      clear hown3 hgrow3 hnil3 hat3 hV hB0 hnc hb
      have HP2 : Hid ((ds ++ [t]) ++ partsGo ns r' (endV ns t) = partsGo ns q ((k0 : Int) + 1)) := by
        exact (by rw [← HP.out, partsGo, List.append_assoc]; rfl : (ds ++ [t]) ++ partsGo ns r' (endV ns t) = partsGo ns q ((k0 : Int) + 1))
      have he := endV_le ns t
      go_wp2_with fail
      refine Calls.mono (HE.out t _ (HI.out.below hb3)) ?_
      rintro e w4 ⟨rfl, hb4⟩
      have hB4 := hb3.trans (hb4.mono hb3.size)
      have HV4 : Hid (w4.ownsRow w.heap.size 2 1 v' (ds ++ [t]).length (intsV (ds ++ [t]))) := own_below HV3.out hb4
      obtain ⟨t', htt⟩ : ∃ t', endV ns t = t' := ⟨_, rfl⟩
      rw [htt] at HP2 he ⊢
      have hdl : (ds ++ [t]).length + r' = q := by simp; omega
      clear htt hb4 hb3 HV3 HP
      go_wp2
      go_roundw
      case rel => exact ⟨ds ++ [t], r', t', by go_num, rfl, hdl, by omega, by omega, HP2, HV4, hB4⟩
      case measure => simp [intOf]


end Go.Proofs.Ytnflkecnddbhoaa

/-! The laws' own helpers over rows of numbers: eqInt64S, markInt64S, heldInt64S, likeInts. -/
namespace Go.Proofs.Ytnflkecnddbhoaa
open Go.RowKit

theorem intsV_at (l : List Int) (j : Nat) (h : j < l.length) : (intsV l)[j]? = some (.int .i64 l[j]) := by
  unfold intsV; rw [List.getElem?_map, List.getElem?_eq_getElem h]; rfl

/-- The marks from k on. -/
def marksI (k : Nat) : Nat → List Int
  | 0 => []
  | n + 1 => marksI k n ++ [((k + n : Nat) : Int)]
end Go.Proofs.Ytnflkecnddbhoaa

/-! The contracts of the exact laws' own helpers over lists of texts: eqStringS, markStringS, heldStringS, markText. -/
namespace Go.Proofs.Ytnflkecnddbhoaa
open Go.RowKit

/-- The digits of k ahead of acc. -/
def markGo : Nat → Nat → List UInt8 → List UInt8
  | 0, _, acc => acc
  | f + 1, k, acc => if k = 0 then acc else markGo f (k / 10) ((48 + UInt8.ofNat (k % 10)) :: acc)
def markL (k : Nat) : List UInt8 := 109 :: markGo k k []

end Go.Proofs.Ytnflkecnddbhoaa

/-! The contracts of the exact laws' own helpers over lists of texts: eqStringS, markStringS, heldStringS. -/
namespace Go.Proofs.Ytnflkecnddbhoaa
open Go.RowKit

/-- The marks from k on. -/
def marksV (k : Nat) : Nat → List Value
  | 0 => []
  | n + 1 => marksV k n ++ [.string ⟨(markL (k + n)).toArray⟩]

end Go.Proofs.Ytnflkecnddbhoaa

/-! The helpers over lists of texts, whatever the list's value: nil, empty or not. -/
namespace Go.Proofs.Ytnflkecnddbhoaa
open Go.RowKit

end Go.Proofs.Ytnflkecnddbhoaa

/-! A list of texts that came in, as the walks take it; the exact laws' helpers over such lists: szStringS, toStringS. -/
namespace Go.Proofs.Ytnflkecnddbhoaa
open Go.ChangeShapes Go.WideShapes Go.ChangeAt Go.RowKit

def szT (m n : Nat) (left : Int) : Int := if (m : Int) + (n : Int) ≤ left then left - (m : Int) - (n : Int) else -1
/-- How many bytes in all. -/
def joinN (ts : List (List UInt8)) : Nat := ts.flatten.length

end Go.Proofs.Ytnflkecnddbhoaa

/-! Numbers that came in, as the walks of chapter 10's laws take them; the exact laws' helper over such rows: toInt64S. -/
namespace Go.Proofs.Ytnflkecnddbhoaa
open Go.ChangeShapes Go.WideShapes Go.ChangeAt Go.RowKit

/-- Numbers that can be read. -/
def AsIn (w : World) (a : Option Addr) (xs : List Int) : Prop := ∀ j, j < xs.length → ∃ b off, a = some ⟨b, off, none⟩ ∧ b < w.heap.size ∧ w.cell? ⟨b, off + j, none⟩ = some (.int .i64 (xs.getD j 0))
theorem AsIn.below {w w' : World} {a : Option Addr} {xs : List Int} (h : AsIn w a xs) (hb : Below w.heap.size w w') : AsIn w' a xs := fun j hj => by
  obtain ⟨b, off, e, hl, hc⟩ := h j hj
  exact ⟨b, off, e, Nat.lt_of_lt_of_le hl hb.size, (hb.cell (p := ⟨b, off + j, none⟩) hl).trans hc⟩

theorem info2 : (Try.prog.info? 2).map (fun i => (i.zero, i.size, i.bytes)) = some (some (.int .i64 0), 1, 8) := by kernel_rfl

/-- A row of numbers that a call owns is one that can be handed on. -/
theorem nums_as {w : World} {B g n cp : Nat} {xs : List Int} (h : w.ownsRow B 2 1 (.slice (some ⟨g, 0, none⟩) n cp) n (intsV xs)) (hn : xs.length = n) : AsIn w (some ⟨g, 0, none⟩) xs := fun j hj => by
  have hc := h.cellAt j (by omega)
  rw [intsV_at xs j hj] at hc
  refine ⟨g, 0, rfl, World.block_lt_of_cell? w ⟨g, j, none⟩ hc, ?_⟩
  rw [Nat.zero_add, hc]
  simp [List.getD, hj]


end Go.Proofs.Ytnflkecnddbhoaa

/-! The laws' own helpers over nodes and rows of nodes: szNode, szNodeS, toNode, toNodeS, eqNode, eqNodeS. -/
namespace Go.Proofs.Ytnflkecnddbhoaa
open Go.RowKit

/-- How many bytes the texts of nodes have in all. -/
def textsN : List Nd → Nat
  | [] => 0
  | n :: r => n.2.2.1.length + n.2.2.2.length + textsN r
def szN (m n : Nat) (left : Int) : Int := if (m : Int) + (n : Int) ≤ left then left - (m : Int) - (n : Int) else -1
/-- A node's numbers are numbers of 64 bits. -/
def IntN (n : Nd) : Prop := (-9223372036854775808 ≤ n.1 ∧ n.1 ≤ 9223372036854775807) ∧ (-9223372036854775808 ≤ n.2.1 ∧ n.2.1 ≤ 9223372036854775807)
def IntT (ns : List Nd) : Prop := ∀ j, IntN (ns.getD j nd0)
theorem intN_nd0 : IntN nd0 := by unfold IntN nd0; decide
theorem IntT.nil : IntT [] := fun j => by rw [show ([] : List Nd).getD j nd0 = nd0 by simp]; exact intN_nd0
def LongT (ns : List Nd) : Prop := ∀ j, (ns.getD j nd0).2.2.1.length ≤ maxLen ∧ (ns.getD j nd0).2.2.2.length ≤ maxLen




end Go.Proofs.Ytnflkecnddbhoaa

/-! The contracts of DrawHash and DrawTurned. -/
namespace Go.Proofs.Ytnflkecnddbhoaa
open Go.RowKit


def pick (l : List Int) (x : Int) : Int := l.getD x.toNat 0

theorem pick_cell (l : List Int) (x : Int) (h0 : 0 ≤ x) (h1 : x < l.length) (W : World) (e : TypeId) :
    (W.alloc (.cells (l.map (Value.int .i64)).toArray e)).cell? ⟨W.heap.size, x.toNat, none⟩ = some (.int .i64 (pick l x)) := by
  have hx : x.toNat < l.length := by omega
  rw [World.cell?_alloc_mark]
  simp [pick, hx]


end Go.Proofs.Ytnflkecnddbhoaa

/-! Words, and numbers that are none, are drawn. -/
namespace Go.Proofs.Ytnflkecnddbhoaa
open Go.RowKit

theorem pick_in (l : List Int) (x lo hi : Int) (h0 : 0 ≤ x) (h1 : x < l.length) (h : ∀ y ∈ l, lo ≤ y ∧ y ≤ hi) : lo ≤ pick l x ∧ pick l x ≤ hi := by
  have hx : x.toNat < l.length := by omega
  have : pick l x = l[x.toNat] := by simp [pick, List.getD, hx]
  rw [this]
  exact h _ (List.getElem_mem hx)

set_option maxHeartbeats 1000000 in
set_option maxRecDepth 100000 in
theorem drawFromG (w : World) (B : Nat) (a : Option Addr) (len cap : Nat) (lo hi : Int) (h0 : -1000000 ≤ lo) (h1 : lo ≤ hi) (h2 : hi ≤ 1000000) (h : Cur w B a len cap) :
    Calls Try.prog 47 #[.pointer (some ⟨B, 0, none⟩), .int .i64 lo, .int .i64 hi] w fun e w' => ∃ x : Int, e = .returned (.int .i64 x) ∧ lo ≤ x ∧ x ≤ hi ∧ Cur w' B a len cap ∧ w.grownBy w' (some B) := by
  go_enter Try.func47, Try.ntmps47
  go_wp2_with fail
  refine (drawBelow _ B a len cap (hi - lo + 1) (by omega) (by omega) h).mono ?_
  rintro e w1 ⟨x, rfl, hx0, hx1, hc, hg⟩
  go_wp2
  go_ret
  exact ⟨_, rfl, by omega, by omega, hc, hg⟩

set_option maxHeartbeats 1000000 in
set_option maxRecDepth 100000 in
theorem drawWord (w : World) (B : Nat) (a : Option Addr) (len cap : Nat) (h : Cur w B a len cap) :
    Calls Try.prog 21 #[.pointer (some ⟨B, 0, none⟩)] w fun e w' => ∃ x : Int, e = .returned (.int .i64 x) ∧ -2147483648 ≤ x ∧ x ≤ 2147483647 ∧ Cur w' B a len cap ∧ w.grownBy w' (some B) := by
  go_enter Try.func21, Try.ntmps21
  go_wp2_with fail
  refine (drawOnce _ B a len cap 6 (by omega) (by omega) h).mono ?_
  rintro e w1 ⟨o, rfl, hc1, hg1⟩
  have hB := hc1.lt
  rcases o with _ | _
  · go_wp2_with fail
    refine (drawBelow _ B a len cap 12 (by omega) (by omega) hc1).mono ?_
    rintro e w2 ⟨x, rfl, hx0, hx1, hc2, hg2⟩
    go_wp2
    go_ret
    exact ⟨_, rfl, by omega, by omega, hc2, hg1.trans hg2⟩
  · go_wp2_with fail
    refine (drawBelow _ B a len cap 4 (by omega) (by omega) (hc1.kept (World.grownBy_alloc _ _ none) (by simp))).mono ?_
    rintro e w2 ⟨x, rfl, hx0, hx1, hc2, hg2⟩
    have hcx := hg2.cell (pick_cell [2147483647, -2147483648, 65536, -1] x hx0 hx1 w1 2) (by simp; omega)
    have hpi := pick_in [2147483647, -2147483648, 65536, -1] x (-2147483648) 2147483647 hx0 hx1 (by simp)
    generalize pick [2147483647, -2147483648, 65536, -1] x = y at hcx hpi
    have hg := (hg1.trans (World.grownBy_alloc _ _ _)).trans hg2
    clear hc1 hg1 hg2
    go_wp2
    go_ret
    exact ⟨_, rfl, hpi.1, hpi.2, hc2, hg⟩

set_option maxHeartbeats 1000000 in
set_option maxRecDepth 100000 in
theorem drawAny (w : World) (B : Nat) (a : Option Addr) (len cap : Nat) (h : Cur w B a len cap) :
    Calls Try.prog 17 #[.pointer (some ⟨B, 0, none⟩)] w fun e w' => ∃ x : Int, e = .returned (.int .i64 x) ∧ -9223372036854775808 ≤ x ∧ x ≤ 9223372036854775807 ∧ Cur w' B a len cap ∧ w.grownBy w' (some B) := by
  go_enter Try.func17, Try.ntmps17
  go_wp2_with fail
  refine (drawOnce _ B a len cap 10 (by omega) (by omega) h).mono ?_
  rintro e w1 ⟨o, rfl, hc1, hg1⟩
  have hB := hc1.lt
  rcases o with _ | _
  · go_wp2_with fail
    refine (drawWord _ B a len cap hc1).mono ?_
    rintro e w2 ⟨x, rfl, hx0, hx1, hc2, hg2⟩
    go_wp2
    go_ret
    exact ⟨_, rfl, by omega, by omega, hc2, hg1.trans hg2⟩
  · go_wp2_with fail
    refine (drawBelow _ B a len cap 4 (by omega) (by omega) (hc1.kept (World.grownBy_alloc _ _ none) (by simp))).mono ?_
    rintro e w2 ⟨x, rfl, hx0, hx1, hc2, hg2⟩
    have hcx := hg2.cell (pick_cell [2147483648, -2147483649, 4611686018427387904, -9223372036854775808] x hx0 hx1 w1 2) (by simp; omega)
    have hpi := pick_in [2147483648, -2147483649, 4611686018427387904, -9223372036854775808] x (-9223372036854775808) 9223372036854775807 hx0 hx1 (by simp)
    generalize pick [2147483648, -2147483649, 4611686018427387904, -9223372036854775808] x = y at hcx hpi
    have hg := (hg1.trans (World.grownBy_alloc _ _ _)).trans hg2
    clear hc1 hg1 hg2
    go_wp2
    go_ret
    exact ⟨_, rfl, hpi.1, hpi.2, hc2, hg⟩



end Go.Proofs.Ytnflkecnddbhoaa

/-! A text is drawn. -/
namespace Go.Proofs.Ytnflkecnddbhoaa
open Go.RowKit


end Go.Proofs.Ytnflkecnddbhoaa

/-! What the bending of a text needs: a slice of bytes at the head of a block that is new since the call began, and an append's law at a step of a region that draws its order. -/
namespace Go.Proofs.Ytnflkecnddbhoaa
open Go.RowKit

/-- Block g, new since 'base', holds the bytes l from its head on, and they may be written. -/
structure RowB (w : World) (base g cap : Nat) (l : List UInt8) : Prop where
  new : base ≤ g
  there : g < w.heap.size
  room : l.length ≤ cap
  most : cap ≤ maxLen
  cells : ∀ j (hj : j < l.length), w.cell? ⟨g, j, none⟩ = some (.int .u8 (l[j].toNat : Int))
  free : ∀ j, j < l.length → w.frozen? ⟨g, j, none⟩ = false

theorem RowB.kept {w w' : World} {base g cap : Nat} {l : List UInt8} {row : Option Nat} (h : RowB w base g cap l) (hg : w.grownBy w' row) (hne : some g ≠ row) : RowB w' base g cap l := by
  have hb := hg.block g h.there hne
  exact ⟨h.new, Nat.lt_of_lt_of_le h.there hg.size, h.room, h.most, fun j hj => (World.cell?_of_block hb).trans (h.cells j hj), fun j hj => (World.frozen?_of_block hb).trans (h.free j hj)⟩

theorem RowB.base {w : World} {base base' g cap : Nat} {l : List UInt8} (h : RowB w base g cap l) (hb : base' ≤ base) : RowB w base' g cap l := ⟨Nat.le_trans hb h.new, h.there, h.room, h.most, h.cells, h.free⟩

theorem RowB.store {w : World} {base g cap : Nat} {l : List UInt8} (h : RowB w base g cap l) (k : Nat) (hk : k < l.length) (x : UInt8) : RowB (w.setCell ⟨g, k, none⟩ (.int .u8 (x.toNat : Int))) base g cap (l.set k x) := by
  refine ⟨h.new, by simpa using h.there, by simpa using h.room, h.most, ?_, ?_⟩
  · intro j hj
    have hj' : j < l.length := by simpa using hj
    by_cases e : j = k
    · subst e
      rw [World.cell?_setCell_same _ _ _ (h.cells j hj')]
      simp
    · rw [World.cell?_setCell_other _ _ _ _ (by intro e2; injection e2 with _ e3; exact e e3.symm), h.cells j hj', List.getElem_set_ne (fun e2 => e e2.symm)]
  · intro j hj
    rw [World.frozen?_setCell]; exact h.free j (by simpa using hj)

theorem RowB.drew {w : World} {base g cap : Nat} {l : List UInt8} (h : RowB w base g cap l) : RowB w.drew base g cap l := ⟨h.new, h.there, h.room, h.most, h.cells, h.free⟩

/-- '[]byte(s)': the new block. -/
theorem RowB.made (w : World) (l : List UInt8) (hl : l.length ≤ maxLen) :
    RowB (w.drew.alloc (.cells (bytesRow ⟨l.toArray⟩ (grownCap w l.length 0 5)) 5 ((bytesRow ⟨l.toArray⟩ (grownCap w l.length 0 5)).size, (bytesRow ⟨l.toArray⟩ (grownCap w l.length 0 5)).size + 1))) w.heap.size w.heap.size (grownCap w l.length 0 5) l := by
  have hsz : l.length ≤ (bytesRow ⟨l.toArray⟩ (grownCap w l.length 0 5)).size := by simp [bytesRow]
  refine ⟨Nat.le_refl _, by simp, grownCap_ge _ _ _ _, grownCap_le_maxLen _ _ _ _ hl, ?_, ?_⟩
  · intro j hj
    show (w.alloc _).cell? ⟨w.heap.size, j, none⟩ = _
    rw [World.cell?_alloc_mark, bytesRow_at ⟨l.toArray⟩ _ j (by simpa using hj)]
    simp
  · intro j hj
    show (w.alloc _).frozen? ⟨w.heap.size, j, none⟩ = _
    rw [World.frozen?_alloc_mark]
    simp; omega

theorem bytesV_at (l : List UInt8) (j : Nat) (u : Value) (h : (bytesV l)[j]? = some u) : ∃ hj : j < l.length, u = .int .u8 (l[j].toNat : Int) := by
  unfold bytesV at h
  rw [List.getElem?_map] at h
  rcases hx : l[j]? with _ | x
  · rw [hx] at h; cases h
  · rw [hx] at h
    obtain ⟨hj, e⟩ := List.getElem?_eq_some_iff.1 hx
    injection h with h
    exact ⟨hj, by rw [e]; exact h.symm⟩

theorem add_plain (b off j : Nat) : (⟨b, off, none⟩ : Addr).add j = ⟨b, off + j, none⟩ := by unfold Addr.add; split <;> simp_all

/-- The cells of b[k:], as an append takes them. -/
theorem RowB.tail {w : World} {base g cap : Nat} {l : List UInt8} (h : RowB w base g cap l) (k : Nat) : ∀ j u, (bytesV (l.drop k))[j]? = some u → w.cell? ((⟨g, k, none⟩ : Addr).add j) = some u := by
  intro j u hu
  obtain ⟨hj, rfl⟩ := bytesV_at _ _ _ hu
  have hj' : k + j < l.length := by rw [List.length_drop] at hj; omega
  rw [add_plain, h.cells (k + j) hj']
  simp

end Go.Proofs.Ytnflkecnddbhoaa

/-! The contract of l1Bend: a text that is bent at most twice. -/
namespace Go.Proofs.Ytnflkecnddbhoaa
open Go.RowKit


end Go.Proofs.Ytnflkecnddbhoaa

/-! The contracts of DrawLines, DrawWords, DrawNameOk, DrawNumberOf. -/
namespace Go.Proofs.Ytnflkecnddbhoaa
open Go.RowKit



def pickT (l : List (List UInt8)) (x : Int) : List UInt8 := l.getD x.toNat []

theorem pickT_cell (l : List (List UInt8)) (x : Int) (h0 : 0 ≤ x) (h1 : x < l.length) (W : World) (e : TypeId) :
    (W.alloc (.cells (strV l).toArray e)).cell? ⟨W.heap.size, x.toNat, none⟩ = some (.string ⟨(pickT l x).toArray⟩) := by
  have hx : x.toNat < l.length := by omega
  rw [World.cell?_alloc_mark]
  simp [pickT, strV, hx]

theorem pickT_len (l : List (List UInt8)) (x : Int) (n : Nat) (h : ∀ y ∈ l, y.length ≤ n) : (pickT l x).length ≤ n := by
  unfold pickT
  by_cases hx : x.toNat < l.length
  · have : l.getD x.toNat [] = l[x.toNat] := by simp [List.getD, hx]
    rw [this]; exact h _ (List.getElem_mem hx)
  · have : l.getD x.toNat [] = [] := by simp [List.getD, hx]
    rw [this]; simp



end Go.Proofs.Ytnflkecnddbhoaa

/-! A node is drawn. -/
namespace Go.Proofs.Ytnflkecnddbhoaa
open Go.RowKit

theorem Code.alloc {w : World} {B : Nat} {a : Option Addr} {len : Nat} (h : Code w B a len) (hB : B ≤ w.heap.size) (o : Obj) : Code (w.alloc o) (B + 1) a len := by
  intro j hj
  obtain ⟨b, off, x, e1, e2, e3, e0⟩ := h j hj
  exact ⟨b, off, x, e1, by omega, (World.cell?_of_block (a := ⟨b, off + j, none⟩) (Below.heap_alloc _ _ _ (by show b < _; omega))).trans e3, e0⟩

end Go.Proofs.Ytnflkecnddbhoaa
