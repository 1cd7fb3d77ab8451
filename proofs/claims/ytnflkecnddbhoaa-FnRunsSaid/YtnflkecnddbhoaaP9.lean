/-
  Parts of one proof, one behind the other: Math12L, Math13, TreeS4, TreeS5, TreeS6, IntsL, Marks, Marks2, Marks3.
-/
import Derived.Test.YtnflkecnddbhoaaP8
import Derived.Test.YtnflkecnddbhoaaP2
import Derived.Test.YtnflkecnddbhoaaP4
import Derived.Deep.RegionWith
import Derived.Test.YtnflkecnddbhoaaP3

/-! Plain facts of chapter 12: what FnSethi and FnFirst ask. -/
namespace Go.Proofs.Ytnflkecnddbhoaa
open Go.RowKit

theorem treeB_sub {t : List Nd} (h : treeB t = true) {a : Nat} (ha : a < t.length) : ∃ s post, t.drop a = s ++ post ∧ One s ∧ s.length ≤ 60 := by
  obtain ⟨hl, ho⟩ := treeB_one.1 h
  obtain ⟨s, post, e, hs⟩ := sub_of (tree_ends ho ha)
  refine ⟨s, post, e, hs, ?_⟩
  have h2 := congrArg List.length e
  rw [List.length_drop, List.length_append] at h2
  omega
/-- A part, cut out, takes what it took there. -/
theorem need_cut {t s post : List Nd} {a : Nat} (hs : One s) (hl : s.length ≤ 60) (ht : t.drop a = s ++ post) : needT s = need12 60 t [] (a : Int) := by
  unfold needT
  rw [if_pos (treeB_one.2 ⟨hl, hs⟩)]
  exact (need_nu hs 60 s [] 0 hl (by simp)).uniq (need_nu hs 60 t post a hl ht)
theorem need_none {t : List Nd} (h : treeB t = false) (os : List Int) : needT t = 0 ∧ needByT t os = 0 := by
  unfold needT needByT
  rw [h]
  exact ⟨rfl, if_neg (fun e => by cases e.1)⟩
theorem need_range {t : List Nd} (os : List Int) : 0 ≤ needT t ∧ needT t ≤ 60 ∧ 0 ≤ needByT t os ∧ needByT t os ≤ 60 := by
  have key : ∀ os, treeB t = true → 1 ≤ need12 60 t os 0 ∧ need12 60 t os 0 ≤ 60 := fun os h => by
    obtain ⟨hl, ho⟩ := treeB_one.1 h
    have := need_bd ho os 60 t [] 0 hl (by simp)
    rw [show ((0 : Nat) : Int) = 0 from rfl] at this
    omega
  unfold needT needByT
  refine ⟨?_, ?_, ?_, ?_⟩
  · split
    · rename_i h; have := key [] h; omega
    · omega
  · split
    · rename_i h; exact (key [] h).2
    · omega
  · split
    · rename_i h; have := key os h.1; omega
    · omega
  · split
    · rename_i h; exact (key os h.1).2
    · omega
/-- No order takes fewer than Need. -/
theorem sethi_ge {t : List Nd} (h : treeB t = true) {os : List Int} (hl : os.length = t.length) : needT t ≤ needByT t os := by
  obtain ⟨h60, ho⟩ := treeB_one.1 h
  unfold needT needByT
  rw [if_pos h, if_pos ⟨h, hl⟩]
  exact by_ge ho os 60 t [] 0 h60 (by simp)
/-- By the greater part first it is just that. -/
theorem sethi_best {t : List Nd} (h : treeB t = true) {os : List Int} (hl : os.length = t.length) (hb : ∀ i : Nat, i < t.length → 3 ≤ (t.getD i nd0).1 → (t.getD i nd0).1 ≤ 6 → os.getD i 0 = firstT t (i : Int)) : needByT t os = needT t := by
  obtain ⟨h60, ho⟩ := treeB_one.1 h
  unfold needT needByT
  rw [if_pos h, if_pos ⟨h, hl⟩]
  refine best_eq ho os (fun e => ?_) 60 t [] 0 h60 h60 (by simp) (fun i hi h3 h6 => ?_)
  · have := ho.pos
    rw [e] at hl
    simp at hl
    omega
  · rw [hb i hi h3 h6]
    unfold firstT
    rw [Int.toNat_natCast, if_pos ⟨h, by omega, by omega, h3, h6⟩]
    constructor
    · intro e
      split at e
      · assumption
      · cases e
    · intro e
      rw [if_pos e]
/-- The parts of a node of two, cut out. -/
theorem first_law {t : List Nd} (h : treeB t = true) {a : Nat} (ha : a < t.length) (h36 : 3 ≤ (t.getD a nd0).1 ∧ (t.getD a nd0).1 ≤ 6) :
    ∃ p q e : Nat, pts10 t (a : Int) = [(p : Int), (q : Int)] ∧ endV t (a : Int) = (e : Int) ∧ p < q ∧ q < e ∧ e ≤ t.length ∧ needT ((t.drop p).take (q - p)) = need12 60 t [] (p : Int) ∧ needT ((t.drop q).take (e - q)) = need12 60 t [] (q : Int) := by
  obtain ⟨s, post, es, hs, hl⟩ := treeB_sub h ha
  have hend := endV_sub es hs
  have hlen := congrArg List.length es
  rw [List.length_drop, List.length_append] at hlen
  cases hs with
  | mk n ks hn hk ho =>
    obtain ⟨e1, e2, e3⟩ := pts_sub es hk ho
    rw [e1] at h36
    have hk2 : ks.length = 2 := by rw [hk]; exact kids_four h36
    obtain ⟨k1, k2, rfl⟩ : ∃ x y, ks = [x, y] := by
      match ks, hk2 with
      | [x, y], _ => exact ⟨x, y, rfl⟩
    obtain ⟨post1, f1, g1⟩ := e3 0 (by simp)
    obtain ⟨post2, f2, g2⟩ := e3 1 (by simp)
    simp at f1 g1 f2 g2
    have o1 := ho k1 (by simp)
    have o2 := ho k2 (by simp)
    have hsl : (n :: [k1, k2].flatten).length = k1.length + k2.length + 1 := by simp
    rw [hsl] at hl hend hlen
    have p1 := o1.pos
    have p2 := o2.pos
    refine ⟨a + 1, a + 1 + k1.length, a + (k1.length + k2.length + 1), ?_, hend, by omega, by omega, by omega, ?_, ?_⟩
    · refine List.ext_getElem (by rw [e2]; rfl) (fun i h1 h2 => ?_)
      match i, h2 with
      | 0, _ => simpa [h1] using f1
      | 1, _ => simpa [h1] using f2
    · have hc : (t.drop (a + 1)).take (a + 1 + k1.length - (a + 1)) = k1 := by
        rw [g1, show a + 1 + k1.length - (a + 1) = k1.length by omega, List.take_left]
      rw [hc]
      exact need_cut o1 (by omega) g1
    · have hc : (t.drop (a + 1 + k1.length)).take (a + (k1.length + k2.length + 1) - (a + 1 + k1.length)) = k2 := by
        rw [g2, show a + (k1.length + k2.length + 1) - (a + 1 + k1.length) = k2.length by omega, List.take_left]
      rw [hc]
      exact need_cut o2 (by omega) g2

end Go.Proofs.Ytnflkecnddbhoaa

/-! Plain facts of chapter 13: instructions, code, what a tree becomes, registers. -/
namespace Go.Proofs.Ytnflkecnddbhoaa
open Go.RowKit

abbrev In13 := Int × Int × Int × Int × List UInt8
def in0 : In13 := (0, 0, 0, 0, [])
def name13 (s : List UInt8) : Bool := (splitL 46 s).length == 2 && nameB ((splitL 46 s).getD 0 []) && nameB ((splitL 46 s).getD 1 [])
def insP (i : In13) : Prop :=
  (i.1 = 9 ∨ i.2.2.2.2 = []) ∧ ((3 ≤ i.1 ∧ i.1 ≤ 6) ∨ i.2.2.2.1 = 0) ∧
  ((i.1 = 1 ∧ (0 ≤ i.2.1 ∧ i.2.1 ≤ 63) ∧ (-2147483648 ≤ i.2.2.1 ∧ i.2.2.1 ≤ 2147483647)) ∨
   (i.1 = 2 ∧ (0 ≤ i.2.1 ∧ i.2.1 ≤ 63) ∧ (0 ≤ i.2.2.1 ∧ i.2.2.1 ≤ 2)) ∨
   ((3 ≤ i.1 ∧ i.1 ≤ 6) ∧ (0 ≤ i.2.1 ∧ i.2.1 ≤ 63) ∧ (0 ≤ i.2.2.1 ∧ i.2.2.1 ≤ 63) ∧ (0 ≤ i.2.2.2.1 ∧ i.2.2.2.1 ≤ 63)) ∨
   (i.1 = 7 ∧ (0 ≤ i.2.1 ∧ i.2.1 ≤ 63) ∧ (0 ≤ i.2.2.1 ∧ i.2.2.1 ≤ 199)) ∨
   (i.1 = 8 ∧ i.2.1 = 0 ∧ (0 ≤ i.2.2.1 ∧ i.2.2.1 ≤ 199)) ∨
   (i.1 = 9 ∧ (0 ≤ i.2.1 ∧ i.2.1 ≤ 63) ∧ (0 ≤ i.2.2.1 ∧ i.2.2.1 ≤ 3) ∧ i.2.1 + i.2.2.1 - 1 ≤ 63 ∧ name13 i.2.2.2.2 = true) ∨
   (i.1 = 10 ∧ (0 ≤ i.2.1 ∧ i.2.1 ≤ 63) ∧ i.2.2.1 = 0))
instance (i : In13) : Decidable (insP i) := by unfold insP; infer_instance
def insB (i : In13) : Bool := decide (insP i)
/-- Is it right, in code of n? -/
def insAt (n : Nat) (i : In13) : Prop := insP i ∧ ((i.1 = 7 ∨ i.1 = 8) → i.2.2.1 < (n : Int))
instance (n : Nat) (i : In13) : Decidable (insAt n i) := by unfold insAt; infer_instance
def codeB (c : List In13) : Bool := decide ((1 ≤ c.length ∧ c.length ≤ 200) ∧ (∀ i ∈ c, insAt c.length i) ∧ ((c.getD (c.length - 1) in0).1 = 10 ∨ (c.getD (c.length - 1) in0).1 = 8))
/-- How far up an instruction reaches. -/
def top13 (i : In13) : Int := if i.1 = 8 then 0 else if 3 ≤ i.1 ∧ i.1 ≤ 6 then max (max i.2.2.1 i.2.2.2.1 + 1) (i.2.1 + 1) else if i.1 = 9 then max (i.2.1 + i.2.2.1) (i.2.1 + 1) else i.2.1 + 1
def mx13 : List In13 → Int
  | [] => 0
  | i :: r => max (top13 i) (mx13 r)
theorem mx13_ge : ∀ l : List In13, 0 ≤ mx13 l
  | [] => Int.le_refl 0
  | _ :: r => Int.le_trans (mx13_ge r) (Int.le_max_right _ _)
theorem mx13_append : ∀ x y : List In13, mx13 (x ++ y) = max (mx13 x) (mx13 y)
  | [], y => by have := mx13_ge y; simp only [List.nil_append, mx13]; omega
  | i :: r, y => by simp only [List.cons_append, mx13, mx13_append r y]; omega
theorem mx13_one (i : In13) : mx13 [i] = max (top13 i) 0 := rfl
def regsV (c : List In13) : Int := if codeB c = true then mx13 c else 0

/-- A part of a tree, into register r, behind c instructions. -/
def args13 (f : Int → Int → Int → List In13) : List Int → Int → Int → List In13
  | [], _, _ => []
  | p :: ps, r, c => f p r c ++ args13 f ps (r + 1) (c + (f p r c).length)
def into13 : Nat → List Nd → Int → Int → Int → List In13
  | 0, _, _, _, _ => []
  | d + 1, t, a, r, c =>
    let n := t.getD a.toNat nd0
    let p := pts10 t a
    if n.1 = 1 then [(1, r, n.2.1, 0, [])]
    else if n.1 = 2 then [(2, r, n.2.1, 0, [])]
    else if n.1 = 7 then
      let x := into13 d t (p.getD 0 0) r c
      let y := into13 d t (p.getD 1 0) r (c + x.length + 1)
      let z := into13 d t (p.getD 2 0) r (c + x.length + 1 + y.length + 1)
      x ++ (7, r, c + x.length + 1 + y.length + 1, 0, []) :: (y ++ (8, 0, c + x.length + 1 + y.length + 1 + z.length, 0, []) :: z)
    else if n.1 = 8 then args13 (into13 d t) p r c ++ [(9, r, n.2.1, 0, n.2.2.1 ++ 46 :: n.2.2.2)]
    else if need12 60 t [] (p.getD 1 0) ≤ need12 60 t [] (p.getD 0 0) then
      let x := into13 d t (p.getD 0 0) r c
      x ++ into13 d t (p.getD 1 0) (r + 1) (c + x.length) ++ [(n.1, r, r, r + 1, [])]
    else
      let x := into13 d t (p.getD 1 0) r c
      x ++ into13 d t (p.getD 0 0) (r + 1) (c + x.length) ++ [(n.1, r, r + 1, r, [])]
def compiledV (t : List Nd) : List In13 := if treeB t = true then into13 60 t 0 0 0 ++ [(10, 0, 0, 0, [])] else []

/-- What a part's code keeps. -/
structure G13 (s : Nat) (x : List In13) (r c nd : Int) : Prop where
  len : x.length + 1 ≤ 2 * s
  pos : 1 ≤ x.length
  noEnd : ∀ i ∈ x, i.1 ≠ 10
  ok : 0 ≤ c → c + x.length ≤ 199 → r + nd ≤ 64 → ∀ i ∈ x, insP i ∧ ((i.1 = 7 ∨ i.1 = 8) → i.2.2.1 ≤ c + x.length)
  top : mx13 x = r + nd

theorem name_dot {p f : List UInt8} (hp : nameB p = true) (hf : nameB f = true) : name13 (p ++ 46 :: f) = true := by
  have hno : ∀ {l : List UInt8}, nameB l = true → ∀ c ∈ l, c ≠ 46 := fun h c hc e => by
    unfold nameB at h
    rw [Bool.and_eq_true, List.all_eq_true] at h
    have := h.2 c hc
    subst e
    simp at this
  have hs : splitL 46 (p ++ 46 :: f) = [p, f] := by
    unfold splitL
    rw [split_one 46 p f [] (hno hp), split_none 46 f [] (hno hf)]
    rfl
  unfold name13
  rw [hs]
  simp [hp, hf]

theorem into_pair {s1 s2 : Nat} {x y : List In13} {k r c m1 m2 a b : Int} (h1 : G13 s1 x r c m1) (h2 : G13 s2 y (r + 1) (c + x.length) m2) (hr : 0 ≤ r) (hk : 3 ≤ k ∧ k ≤ 6) (hm1 : 1 ≤ m1) (hm2 : 1 ≤ m2) (hab : (a = r ∧ b = r + 1) ∨ (a = r + 1 ∧ b = r)) : G13 (s1 + s2 + 1) (x ++ y ++ [(k, r, a, b, [])]) r c (max m1 (m2 + 1)) := by
  have hl : (x ++ y ++ [((k, r, a, b, []) : In13)]).length = x.length + y.length + 1 := by simp; omega
  refine ⟨?_, ?_, ?_, ?_, ?_⟩
  · rw [hl]; have := h1.len; have := h2.len; omega
  · rw [hl]; omega
  · intro i hi
    simp only [List.mem_append, List.mem_singleton] at hi
    rcases hi with (hi | hi) | hi
    · exact h1.noEnd i hi
    · exact h2.noEnd i hi
    · subst hi; simp; omega
  · intro hc hlen hn i hi
    rw [hl] at hlen ⊢
    simp only [List.mem_append, List.mem_singleton] at hi
    rcases hi with (hi | hi) | hi
    · obtain ⟨q1, q2⟩ := h1.ok hc (by omega) (by omega) i hi
      exact ⟨q1, fun e => by have := q2 e; omega⟩
    · obtain ⟨q1, q2⟩ := h2.ok (by omega) (by omega) (by omega) i hi
      exact ⟨q1, fun e => by have := q2 e; omega⟩
    · subst hi
      refine ⟨⟨Or.inr rfl, Or.inl hk, Or.inr (Or.inr (Or.inl ⟨hk, ⟨hr, by simp only; omega⟩, ⟨by simp only; omega, by simp only; omega⟩, by simp only; omega, by simp only; omega⟩))⟩, fun e => by simp only at e; omega⟩
  · rw [mx13_append, mx13_append, h1.top, h2.top, mx13_one]
    unfold top13
    simp only
    rw [if_neg (by omega), if_pos hk]
    omega

theorem into_if {s1 s2 s3 : Nat} {x y z : List In13} {r c m1 m2 m3 : Int} (h1 : G13 s1 x r c m1) (h2 : G13 s2 y r (c + x.length + 1) m2) (h3 : G13 s3 z r (c + x.length + 1 + y.length + 1) m3) (hr : 0 ≤ r) (hm1 : 1 ≤ m1) (hm2 : 1 ≤ m2) (hm3 : 1 ≤ m3) :
    G13 (s1 + s2 + s3 + 1) (x ++ (7, r, c + x.length + 1 + y.length + 1, 0, []) :: (y ++ (8, 0, c + x.length + 1 + y.length + 1 + z.length, 0, []) :: z)) r c (max m1 (max m2 m3)) := by
  obtain ⟨A, hA⟩ : ∃ A, c + x.length + 1 + y.length + 1 = A := ⟨_, rfl⟩
  obtain ⟨E, hE⟩ : ∃ E, A + z.length = E := ⟨_, rfl⟩
  rw [hA] at h3
  rw [hA, hE]
  have hl : (x ++ ((7, r, A, 0, []) : In13) :: (y ++ (8, 0, E, 0, []) :: z)).length = x.length + y.length + z.length + 2 := by simp; omega
  refine ⟨?_, ?_, ?_, ?_, ?_⟩
  · rw [hl]; have := h1.len; have := h2.len; have := h3.len; omega
  · rw [hl]; omega
  · intro i hi
    simp only [List.mem_append, List.mem_cons] at hi
    rcases hi with hi | hi | hi | hi | hi
    · exact h1.noEnd i hi
    · subst hi; simp
    · exact h2.noEnd i hi
    · subst hi; simp
    · exact h3.noEnd i hi
  · intro hc hlen hn i hi
    rw [hl] at hlen ⊢
    simp only [List.mem_append, List.mem_cons] at hi
    rcases hi with hi | hi | hi | hi | hi
    · obtain ⟨q1, q2⟩ := h1.ok hc (by omega) (by omega) i hi
      exact ⟨q1, fun e => by have := q2 e; omega⟩
    · subst hi
      exact ⟨⟨Or.inr rfl, Or.inr rfl, Or.inr (Or.inr (Or.inr (Or.inl ⟨rfl, ⟨hr, by simp only; omega⟩, by simp only; omega, by simp only; omega⟩)))⟩, fun _ => by simp only; omega⟩
    · obtain ⟨q1, q2⟩ := h2.ok (by omega) (by omega) (by omega) i hi
      exact ⟨q1, fun e => by have := q2 e; omega⟩
    · subst hi
      exact ⟨⟨Or.inr rfl, Or.inr rfl, Or.inr (Or.inr (Or.inr (Or.inr (Or.inl ⟨rfl, rfl, by simp only; omega, by simp only; omega⟩))))⟩, fun _ => by simp only; omega⟩
    · obtain ⟨q1, q2⟩ := h3.ok (by omega) (by omega) (by omega) i hi
      exact ⟨q1, fun e => by have := q2 e; omega⟩
  · have e1 : mx13 (((7, r, A, 0, []) : In13) :: (y ++ (8, 0, E, 0, []) :: z)) = max (r + 1) (mx13 (y ++ ((8, 0, E, 0, []) : In13) :: z)) := rfl
    have e2 : mx13 (((8, 0, E, 0, []) : In13) :: z) = max 0 (mx13 z) := rfl
    rw [mx13_append, e1, mx13_append, e2, h1.top, h2.top, h3.top]
    omega

/-- The parts of a call, one register behind the other. -/
theorem args_ok (f : Int → Int → Int → List In13) (g : Int → Int) (sz : Int → Nat) : ∀ (ps : List Int) (r c : Int), 0 ≤ r → (∀ p ∈ ps, 1 ≤ g p ∧ ∀ r c, 0 ≤ r → G13 (sz p) (f p r c) r c (g p)) →
    (args13 f ps r c).length + ps.length ≤ 2 * (ps.map sz).sum ∧ (∀ i ∈ args13 f ps r c, i.1 ≠ 10) ∧ (∀ m : Int, 0 ≤ c → c + (args13 f ps r c).length ≤ 199 → r + most12 (ps.map g) 0 m ≤ 64 → ∀ i ∈ args13 f ps r c, insP i ∧ ((i.1 = 7 ∨ i.1 = 8) → i.2.2.1 ≤ c + (args13 f ps r c).length)) ∧ (∀ m : Int, 0 ≤ m → max (mx13 (args13 f ps r c)) (r + m) = r + most12 (ps.map g) 0 m ∧ (ps.length : Int) ≤ most12 (ps.map g) 0 m)
  | [], r, c, hr, _ => by
    refine ⟨by simp [args13], ?_, ?_, ?_⟩
    · intro i hi; simp [args13] at hi
    · intro m _ _ _ i hi; simp [args13] at hi
    · intro m hm
      simp only [args13, mx13, List.map_nil, most12, List.length_nil]
      omega
  | p :: ps, r, c, hr, h => by
    obtain ⟨hg, hp⟩ := h p (by simp)
    have h1 := hp r c hr
    obtain ⟨i1, i2, i3, i4⟩ := args_ok f g sz ps (r + 1) (c + (f p r c).length) (by omega) (fun q hq => h q (by simp [hq]))
    have most_shift : ∀ (l : List Int) (i m : Int), most12 l (i + 1) (m + 1) = most12 l i m + 1 := by
      intro l
      induction l with
      | nil => intro i m; rfl
      | cons x l ihl => intro i m; simp only [most12]; rw [← ihl]; congr 1; omega
    have e1 : args13 f (p :: ps) r c = f p r c ++ args13 f ps (r + 1) (c + (f p r c).length) := rfl
    rw [e1]
    generalize args13 f ps (r + 1) (c + (f p r c).length) = y at i1 i2 i3 i4 ⊢
    generalize f p r c = x at h1 i3 ⊢
    have hl : (x ++ y).length = x.length + y.length := by simp
    have hm : ∀ m : Int, most12 ((p :: ps).map g) 0 m = most12 (ps.map g) 0 (max m (g p) - 1) + 1 := fun m => by
      have := most_shift (ps.map g) 0 (max m (g p) - 1)
      rw [show max m (g p) - 1 + 1 = max m (g p) by omega] at this
      rw [← this]
      simp only [List.map_cons, most12, Int.add_zero]
    refine ⟨?_, ?_, ?_, ?_⟩
    · rw [hl]
      have := h1.len
      simp only [List.map_cons, List.sum_cons, List.length_cons]
      omega
    · intro i hi
      rcases List.mem_append.1 hi with hi | hi
      · exact h1.noEnd i hi
      · exact i2 i hi
    · intro m hc hlen hn i hi
      rw [hl] at hlen ⊢
      rw [hm] at hn
      have hge := most12_ge (ps.map g) 0 (max m (g p) - 1)
      rcases List.mem_append.1 hi with hi | hi
      · obtain ⟨q1, q2⟩ := h1.ok hc (by omega) (by omega) i hi
        exact ⟨q1, fun e => by have := q2 e; omega⟩
      · obtain ⟨q1, q2⟩ := i3 (max m (g p) - 1) (by omega) (by omega) (by omega) i hi
        exact ⟨q1, fun e => by have := q2 e; omega⟩
    · intro m hm1
      rw [hm, mx13_append, h1.top, List.length_cons]
      have := i4 (max m (g p) - 1) (by omega)
      omega

theorem into_call {s : Nat} {y : List In13} {r c m k : Int} {pk fn : List UInt8} (hl : y.length ≤ 2 * s) (h2 : ∀ i ∈ y, i.1 ≠ 10) (h3 : 0 ≤ c → c + y.length ≤ 199 → r + m ≤ 64 → ∀ i ∈ y, insP i ∧ ((i.1 = 7 ∨ i.1 = 8) → i.2.2.1 ≤ c + y.length)) (h4 : max (mx13 y) (r + 1) = r + m) (hk0 : 0 ≤ k) (hk3 : k ≤ 3) (hkm : k ≤ m) (hr : 0 ≤ r) (hp : nameB pk = true) (hf : nameB fn = true) :
    G13 (s + 1) (y ++ [(9, r, k, 0, pk ++ 46 :: fn)]) r c m := by
  have hl2 : (y ++ [((9, r, k, 0, pk ++ 46 :: fn) : In13)]).length = y.length + 1 := by simp
  refine ⟨?_, ?_, ?_, ?_, ?_⟩
  · rw [hl2]; omega
  · rw [hl2]; omega
  · intro i hi
    simp only [List.mem_append, List.mem_singleton] at hi
    rcases hi with hi | hi
    · exact h2 i hi
    · subst hi; simp
  · intro hc hlen hn i hi
    rw [hl2] at hlen ⊢
    simp only [List.mem_append, List.mem_singleton] at hi
    rcases hi with hi | hi
    · obtain ⟨q1, q2⟩ := h3 hc (by omega) (by omega) i hi
      exact ⟨q1, fun e => by have := q2 e; omega⟩
    · subst hi
      exact ⟨⟨Or.inl rfl, Or.inr rfl, Or.inr (Or.inr (Or.inr (Or.inr (Or.inr (Or.inl ⟨rfl, ⟨hr, by simp only; omega⟩, ⟨hk0, hk3⟩, by simp only; omega, name_dot hp hf⟩)))))⟩, fun e => by simp only at e; omega⟩
  · have e1 : mx13 [((9, r, k, 0, pk ++ 46 :: fn) : In13)] = max (max (r + k) (r + 1)) 0 := rfl
    rw [mx13_append, e1]
    omega

end Go.Proofs.Ytnflkecnddbhoaa

/-! The contract of chapter 6's specification: the node of a word. -/
namespace Go.Proofs.Ytnflkecnddbhoaa
open Go.RowKit

theorem part_le (ws : List (List UInt8)) (j : Nat) : (ws.getD j []).length ≤ ws.flatten.length := by
  induction ws generalizing j with
  | nil => simp
  | cons x r ih =>
    cases j with
    | zero => simp
    | succ j => have := ih j; simp only [List.getD_cons_succ, List.flatten_cons, List.length_append]; omega

/-- Four cells of one block are written. -/
theorem four_set (w : World) (b : Nat) (n : Nd) {u0 u1 u2 u3 : Value} (r0 : w.cell? ⟨b, 0, none⟩ = some u0) (r1 : w.cell? ⟨b, 1, none⟩ = some u1) (r2 : w.cell? ⟨b, 2, none⟩ = some u2) (r3 : w.cell? ⟨b, 3, none⟩ = some u3) :
    let X := ((((w.setCell ⟨b, 0, none⟩ (.int .i64 n.1)).setCell ⟨b, 1, none⟩ (.int .i64 n.2.1)).setCell ⟨b, 2, none⟩ (.string ⟨n.2.2.1.toArray⟩)).setCell ⟨b, 3, none⟩ (.string ⟨n.2.2.2.toArray⟩))
    X.cell? ⟨b, 0, none⟩ = some (.int .i64 n.1) ∧ X.cell? ⟨b, 1, none⟩ = some (.int .i64 n.2.1) ∧ X.cell? ⟨b, 2, none⟩ = some (.string ⟨n.2.2.1.toArray⟩) ∧ X.cell? ⟨b, 3, none⟩ = some (.string ⟨n.2.2.2.toArray⟩) := by
  intro X
  have o : ∀ (W : World) (i j : Nat) (v : Value), i ≠ j → (W.setCell ⟨b, i, none⟩ v).cell? ⟨b, j, none⟩ = W.cell? ⟨b, j, none⟩ := fun W i j v h => World.cell?_setCell_other _ _ _ _ (by intro e; injection e with _ e; omega)
  refine ⟨?_, ?_, ?_, ?_⟩
  · exact (o _ 3 0 _ (by omega)).trans ((o _ 2 0 _ (by omega)).trans ((o _ 1 0 _ (by omega)).trans (World.cell?_setCell_same _ _ _ r0)))
  · exact (o _ 3 1 _ (by omega)).trans ((o _ 2 1 _ (by omega)).trans (World.cell?_setCell_same _ _ _ ((o _ 0 1 _ (by omega)).trans r1)))
  · exact (o _ 3 2 _ (by omega)).trans (World.cell?_setCell_same _ _ _ ((o _ 1 2 _ (by omega)).trans ((o _ 0 2 _ (by omega)).trans r2)))
  · exact World.cell?_setCell_same _ _ _ ((o _ 2 3 _ (by omega)).trans ((o _ 1 3 _ (by omega)).trans ((o _ 0 3 _ (by omega)).trans r3)))

theorem four_below {w W : World} (h : Below w.heap.size w W) (u0 u1 u2 u3 : Value) : Below w.heap.size w ((((W.setCell ⟨w.heap.size, 0, none⟩ u0).setCell ⟨w.heap.size, 1, none⟩ u1).setCell ⟨w.heap.size, 2, none⟩ u2).setCell ⟨w.heap.size, 3, none⟩ u3) :=
  (((h.setCell (p := ⟨w.heap.size, 0, none⟩) (Nat.le_refl _) _).setCell (p := ⟨w.heap.size, 1, none⟩) (Nat.le_refl _) _).setCell (p := ⟨w.heap.size, 2, none⟩) (Nat.le_refl _) _).setCell (p := ⟨w.heap.size, 3, none⟩) (Nat.le_refl _) _


end Go.Proofs.Ytnflkecnddbhoaa

/-! The contract of chapter 6's specification: ReadTree. -/
namespace Go.Proofs.Ytnflkecnddbhoaa
open Go.RowKit

/-- What a row of nodes holds. -/
def nodesV : List Nd → List Value
  | [] => []
  | n :: r => .int .i64 n.1 :: .int .i64 n.2.1 :: .string ⟨n.2.2.1.toArray⟩ :: .string ⟨n.2.2.2.toArray⟩ :: nodesV r

theorem nodesV_len (ns : List Nd) : (nodesV ns).length = ns.length * 4 := by
  induction ns with
  | nil => rfl
  | cons n r ih => simp only [nodesV, List.length_cons, ih]; omega

theorem nodesV_append (x y : List Nd) : nodesV (x ++ y) = nodesV x ++ nodesV y := by
  induction x with
  | nil => rfl
  | cons n r ih => simp only [List.cons_append, nodesV, ih]

theorem nodesV_one (ns : List Nd) : ∀ u ∈ nodesV ns, u.oneCell' = true := by
  induction ns with
  | nil => intro u hu; cases hu
  | cons n r ih =>
    intro u hu
    simp only [nodesV, List.mem_cons] at hu
    rcases hu with rfl | rfl | rfl | rfl | h
    · rfl
    · rfl
    · rfl
    · rfl
    · exact ih u h

theorem nodesV_at (ns : List Nd) (j : Nat) (hj : j < ns.length) : (nodesV ns)[j * 4]? = some (.int .i64 (ns.getD j nd0).1) ∧ (nodesV ns)[j * 4 + 1]? = some (.int .i64 (ns.getD j nd0).2.1) ∧ (nodesV ns)[j * 4 + 2]? = some (.string ⟨(ns.getD j nd0).2.2.1.toArray⟩) ∧ (nodesV ns)[j * 4 + 3]? = some (.string ⟨(ns.getD j nd0).2.2.2.toArray⟩) := by
  induction ns generalizing j with
  | nil => simp at hj
  | cons n r ih =>
    cases j with
    | zero => simp [nodesV]
    | succ j =>
      have h := ih j (by simpa using hj)
      rw [show (j + 1) * 4 = j * 4 + 1 + 1 + 1 + 1 by omega]
      simpa [nodesV] using h

/-- A row of nodes that a call owns is a list of nodes. -/
theorem own_nodes {w : World} {base n : Nat} {v : Value} {ns : List Nd} (h : w.ownsRow base 124 4 v n (nodesV ns)) : ns.length = n ∧ ∃ a cap, v = .slice a n cap ∧ NodesIn w a n ns := by
  have hlen : ns.length = n := by have := h.1; rw [nodesV_len] at this; omega
  refine ⟨hlen, ?_⟩
  rcases own_forms h with ⟨rfl, rfl, _⟩ | ⟨g, cp, rfl⟩
  · exact ⟨none, 0, rfl, hlen, fun j hj => by omega⟩
  · refine ⟨some ⟨g, 0, none⟩, cp, rfl, hlen, fun j hj => ?_⟩
    obtain ⟨v0, v1, v2, v3⟩ := nodesV_at ns j (by omega)
    have c0 := h.cellAt (j * 4) (by omega)
    have c1 := h.cellAt (j * 4 + 1) (by omega)
    have c2 := h.cellAt (j * 4 + 2) (by omega)
    have c3 := h.cellAt (j * 4 + 3) (by omega)
    rw [v0] at c0
    rw [v1] at c1
    rw [v2] at c2
    rw [v3] at c3
    refine ⟨g, 0, rfl, (h.lt g rfl).2, ?_, ?_, ?_, ?_⟩
    · rw [Nat.zero_add]; exact c0
    · rw [Nat.zero_add]; exact c1
    · rw [Nat.zero_add]; exact c2
    · rw [Nat.zero_add]; exact c3

theorem infoNode : (Try.prog.info? 124).map (fun i => (i.zero, i.size, i.bytes)) = some (some (.agg #[.int .i64 0, .int .i64 0, .string ⟨#[]⟩, .string ⟨#[]⟩]), 4, 48) := by kernel_rfl

theorem new_node (w : World) (n : Nd) : ∀ j u, (nodesV [n])[j]? = some u → (w.alloc (.cells #[.int .i64 n.1, .int .i64 n.2.1, .string ⟨n.2.2.1.toArray⟩, .string ⟨n.2.2.2.toArray⟩] 124)).cell? ((⟨w.heap.size, 0, none⟩ : Addr).add j) = some u := by
  intro j u hu
  have e : (⟨w.heap.size, 0, none⟩ : Addr).add j = ⟨w.heap.size, j, none⟩ := by unfold Addr.add; split <;> simp_all
  rw [e]
  match j, hu with
  | 0, hu => simp [nodesV] at hu; subst hu; simp
  | 1, hu => simp [nodesV] at hu; subst hu; simp
  | 2, hu => simp [nodesV] at hu; subst hu; simp
  | 3, hu => simp [nodesV] at hu; subst hu; simp
  | j + 4, hu => simp [nodesV] at hu

theorem split_part (b : UInt8) (l : List UInt8) (j : Nat) : ((splitL b l).getD j []).length ≤ l.length := by
  have h1 : (splitGo b [] l).flatten.length ≤ l.length := by
    have := splitGo_flat b l []
    rw [List.length_nil, Nat.zero_add] at this
    exact this
  have h2 := part_le (splitL b l) j
  unfold splitL at h2 ⊢
  exact Nat.le_trans h2 h1

theorem readN_short (s : List UInt8) : (readN s).2.2.1.length ≤ s.length ∧ (readN s).2.2.2.length ≤ s.length := by
  unfold readN
  split
  · simp
  split
  · simp
  split
  · simp
  split
  · simp
  split
  · simp
  split
  · simp
  split
  · split
    · have h1 := split_part 47 s.tail 0
      have h2 := split_part 46 ((splitL 47 s.tail).getD 0 []) 0
      have h3 := split_part 46 ((splitL 47 s.tail).getD 0 []) 1
      have h4 : s.tail.length ≤ s.length := by rw [List.length_tail]; omega
      constructor
      · show ((splitL 46 ((splitL 47 s.tail).getD 0 [])).getD 0 []).length ≤ _; omega
      · show ((splitL 46 ((splitL 47 s.tail).getD 0 [])).getD 1 []).length ≤ _; omega
    · simp
  split
  · simp
  · simp

theorem readT_short (s : List UInt8) (h : s.length ≤ 2000) : ShortT (readT s) := by
  intro j
  unfold readT
  by_cases hj : j < (splitL 32 s).length
  · have hg : ((splitL 32 s).map readN).getD j nd0 = readN ((splitL 32 s).getD j []) := by simp [List.getD, hj]
    rw [hg]
    have h1 := readN_short ((splitL 32 s).getD j [])
    have h2 := split_part 32 s j
    omega
  · have hg : ((splitL 32 s).map readN).getD j nd0 = nd0 := by simp [List.getD, hj]
    rw [hg]; simp [nd0]

theorem map_step2 (ws : List (List UInt8)) (k : Nat) (hk : k < ws.length) : (ws.map readN).take (k + 1) = (ws.map readN).take k ++ [readN (ws.getD k [])] := by
  rw [← List.map_take, ← List.map_take]
  have hg : ws.getD k [] = ws[k] := by simp [List.getD, hk]
  rw [hg, List.take_succ_eq_append_getElem hk, List.map_append]; rfl


end Go.Proofs.Ytnflkecnddbhoaa

/-! The contracts of chapter 6's specification: l6Parts, PartsOf. -/
namespace Go.Proofs.Ytnflkecnddbhoaa
open Go.RowKit

/-- What a row of numbers holds. -/
def intsV (l : List Int) : List Value := l.map (fun i => Value.int .i64 i)
theorem intsV_len (l : List Int) : (intsV l).length = l.length := by simp [intsV]
theorem intsV_append (x y : List Int) : intsV (x ++ y) = intsV x ++ intsV y := by simp [intsV]
theorem intsV_one (l : List Int) : ∀ u ∈ intsV l, u.oneCell' = true := by
  intro u hu
  simp only [intsV, List.mem_map] at hu
  obtain ⟨i, _, rfl⟩ := hu
  rfl
theorem infoInt : (Try.prog.info? 2).map (fun i => (i.zero, i.size, i.bytes)) = some (some (.int .i64 0), 1, 8) := by kernel_rfl

theorem new_int (w : World) (n : Int) : ∀ j u, (intsV [n])[j]? = some u → (w.alloc (.cells #[.int .i64 n] 2)).cell? ((⟨w.heap.size, 0, none⟩ : Addr).add j) = some u := by
  intro j u hu
  have e : (⟨w.heap.size, 0, none⟩ : Addr).add j = ⟨w.heap.size, j, none⟩ := by unfold Addr.add; split <;> simp_all
  rw [e]
  match j, hu with
  | 0, hu => simp [intsV] at hu; subst hu; simp
  | j + 1, hu => simp [intsV] at hu

theorem endV_le (l : List Nd) (a : Int) : -1 ≤ endV l a ∧ endV l a ≤ l.length := by
  by_cases h : 0 ≤ endV l a
  · by_cases ha : a < 0 ∨ (l.length : Int) ≤ a
    · rw [endV_out l a ha] at h; omega
    · obtain ⟨k, rfl⟩ : ∃ k : Nat, a = (k : Int) := Int.eq_ofNat_of_zero_le (by omega)
      have := end_parts h
      omega
  · by_cases ha : a < 0 ∨ (l.length : Int) ≤ a
    · rw [endV_out l a ha]; omega
    · obtain ⟨k, rfl⟩ : ∃ k : Nat, a = (k : Int) := Int.eq_ofNat_of_zero_le (by omega)
      rw [endV_nat] at h ⊢
      unfold endN at h ⊢
      rw [if_pos (by omega)] at h ⊢
      cases he : endGo (l.drop k) 1 with
      | none => simp only; omega
      | some d => rw [he] at h; simp only at h; omega

set_option maxHeartbeats 2000000 in
set_option maxRecDepth 100000 in
theorem specParts (a : Option Addr) (cap : Nat) (ns : List Nd) (k0 : Nat) (w : World) (hin : NodesIn w a ns.length ns) (hsh : ShortT ns) (hlen : ns.length ≤ 1048576) (hk0 : k0 < ns.length) (hnb : nodeB (ns.getD k0 nd0) = true) :
    Calls Try.prog 101 #[.slice a ns.length cap, .int .i64 k0] w fun e w' => ∃ v, e = .returned v ∧ w'.ownsRow w.heap.size 2 1 v (kidsN (ns.getD k0 nd0)) (intsV (partsGo ns (kidsN (ns.getD k0 nd0)) ((k0 : Int) + 1))) ∧ Below w.heap.size w w' := by
  have hown0 := (World.ownsRow_lit (base := w.heap.size) (e := 2) (size := 1) w #[] 0 (Nat.le_refl _) (by decide) rfl)
  obtain ⟨i0, hi, hz0, hz1, hz2⟩ := info_parts infoInt
  obtain ⟨b, off, rfl, hbl, hcells⟩ := hin.at (by omega)
  obtain ⟨c0, c1, c2, c3⟩ := hcells k0 hk0
  obtain ⟨n, hn⟩ : ∃ n, ns.getD k0 nd0 = n := ⟨_, rfl⟩
  rw [hn] at c0 c1 c2 c3 hnb ⊢
  have HK : Hid (_) := fun W : World => specKids n W
  obtain ⟨hk1, hk3⟩ := @kidsV_ok n hnb
  have HI : Hid (NodesIn w (some ⟨b, off, none⟩) ns.length ns) := hin
  have HE : Hid (_) := fun (j : Int) (W : World) (h : NodesIn W (some ⟨b, off, none⟩) ns.length ns) => specEndOf (some ⟨b, off, none⟩) ns.length cap ns j W h hsh hlen
  have hk0i : (k0 : Int) < 1048576 := by omega
  obtain ⟨kd, aa, p, f⟩ := n
  unfold nodeVal at HK
  simp only at c0 c1 c2 c3 HK
  clear hn hcells hin hsh hnb
  go_enter Try.func101, Try.ntmps101
  go_wp2_with fail
  refine Calls.mono (HK.out _) ?_
  rintro e w1 ⟨rfl, hb1⟩
  rw [hk1]
  obtain ⟨q, hq⟩ : ∃ q, kidsN (kd, aa, p, f) = q := ⟨_, rfl⟩
  rw [hq] at hk3 ⊢
  have HQ : Hid (kidsN (kd, aa, p, f) = q) := hq
  have hB1 := below_boxed hb1
  have hown1 := own_below hown0 hb1
  clear hk1 hq hb1 hown0 HK c0 c1 c2 c3
  go_wp2
  go_loopw [5, 6, 7] (fun v nx kv wr => ∃ (ds : List Int) (r : Nat) (t : Int), kv = .int .i64 r ∧ nx = .int .i64 t ∧ ds.length + r = q ∧ -1 ≤ t ∧ t ≤ 1048576 ∧ Hid (ds ++ partsGo ns r t = partsGo ns q ((k0 : Int) + 1)) ∧ Hid (wr.ownsRow w.heap.size 2 1 v ds.length (intsV ds)) ∧ Below w.heap.size w wr) (fun _ _ kv _ => (intOf kv).toNat)
  case atStart => exact ⟨[], q, (k0 : Int) + 1, rfl, by go_num, by simp, by omega, by omega, (rfl : [] ++ partsGo ns q ((k0 : Int) + 1) = _), hown1, hB1⟩
  case round =>
    obtain ⟨ds, r, t, rfl, rfl, hr, ht0, ht1, HP, HV, hb⟩ := hrel
    clear hown1 hB1
    by_cases hrz : r = 0
    · subst hrz
      have HF : Hid (ds = partsGo ns q ((k0 : Int) + 1) ∧ ds.length = q) := by
        have h := HP.out
        rw [partsGo, List.append_nil] at h
        exact (⟨h, by omega⟩ : ds = partsGo ns q ((k0 : Int) + 1) ∧ ds.length = q)
      go_wp2
      go_ret
      exact ⟨_, rfl, by rw [HQ.out, ← HF.out.1, ← HF.out.2]; exact HV.out, hb⟩
    · obtain ⟨r', rfl⟩ : ∃ r', r = r' + 1 := ⟨r - 1, by omega⟩
      have hr1 : (0 : Int) < ((r' + 1 : Nat) : Int) := by omega
      have hnc := new_int wr t
      have hV := HV.out
      have hB0 := hb
      clear hrz HV
      go_wp2_with (at_builtin; refine wpList_append_own_at _ rfl _ _ 27 rfl w.heap.size 2 i0 _ 1 8 Try.underlying27 hi hz0 hz1 hz2 rfl (by decide) _ _ _ rfl (hV.alloc _) ⟨wr.heap.size, 0, none⟩ 1 1 (intsV [t]) rfl rfl ?c1 ?c2 ?c3 ?c4 ?c5 ?_)
      first | (case c1 => exact hnc) | skip
      first | (case c2 => exact intsV_one _) | skip
      first | (case c3 => unfold maxLen; omega) | skip
      first | (case c4 => omega) | skip
      first | (case c5 => have := hB0.size; simp; try omega) | skip
      intro v' w3 hown3 hgrow3 hnil3 hat3
      have HV3 : Hid (w3.ownsRow w.heap.size 2 1 v' (ds ++ [t]).length (intsV (ds ++ [t]))) := by
        exact (by rw [intsV_append, List.length_append]; exact hown3 : w3.ownsRow w.heap.size 2 1 v' (ds ++ [t]).length (intsV (ds ++ [t])))
      have hb3 : Below w.heap.size w w3 := (hB0.alloc hB0.size _).grown hgrow3 (by have := hB0.size; simp; omega) (fun q e => (hV.lt q e).1)
      clear hown3 hgrow3 hnil3 hat3 hV hB0 hnc hb
      have HP2 : Hid ((ds ++ [t]) ++ partsGo ns r' (endV ns t) = partsGo ns q ((k0 : Int) + 1)) := by
        exact (by rw [← HP.out, partsGo, List.append_assoc]; rfl : (ds ++ [t]) ++ partsGo ns r' (endV ns t) = partsGo ns q ((k0 : Int) + 1))
      have he := endV_le ns t
      go_wp2_with fail
      refine Calls.mono (HE.out t _ (HI.out.below hb3)) ?_
      rintro e w4 ⟨rfl, hb4⟩
      have hB4 := hb3.trans (hb4.mono hb3.size)
      have HV4 : Hid (w4.ownsRow w.heap.size 2 1 v' (ds ++ [t]).length (intsV (ds ++ [t]))) := own_below HV3.out hb4
      obtain ⟨t', htt⟩ : ∃ t', endV ns t = t' := ⟨_, rfl⟩
      rw [htt] at HP2 he ⊢
      have hdl : (ds ++ [t]).length + r' = q := by simp; omega
      clear htt hb4 hb3 HV3 HP
      go_wp2
      go_roundw
      case rel => exact ⟨ds ++ [t], r', t', by go_num, rfl, hdl, by omega, by omega, HP2, HV4, hB4⟩
      case measure => simp [intOf]


end Go.Proofs.Ytnflkecnddbhoaa

/-! The laws' own helpers over rows of numbers: eqInt64S, markInt64S, heldInt64S, likeInts. -/
namespace Go.Proofs.Ytnflkecnddbhoaa
open Go.RowKit

theorem intsV_at (l : List Int) (j : Nat) (h : j < l.length) : (intsV l)[j]? = some (.int .i64 l[j]) := by
  unfold intsV; rw [List.getElem?_map, List.getElem?_eq_getElem h]; rfl

/-- The marks from k on. -/
def marksI (k : Nat) : Nat → List Int
  | 0 => []
  | n + 1 => marksI k n ++ [((k + n : Nat) : Int)]
theorem marksI_len (k n : Nat) : (marksI k n).length = n := by
  induction n with
  | zero => rfl
  | succ n ih => simp [marksI, ih]
theorem marksI_at (k n j : Nat) (h : j < n) : (intsV (marksI k n))[j]? = some (.int .i64 ((k + j : Nat) : Int)) := by
  induction n with
  | zero => omega
  | succ n ih =>
    unfold marksI
    rw [intsV_append]
    by_cases hj : j < n
    · rw [List.getElem?_append_left (by rw [intsV_len, marksI_len]; exact hj)]; exact ih hj
    · obtain rfl : j = n := by omega
      rw [List.getElem?_append_right (by rw [intsV_len, marksI_len]; omega), intsV_len, marksI_len]
      simp [intsV]
theorem marksI_set (k i : Nat) (xs : List Value) (h : i < xs.length) : (intsV (marksI k i) ++ xs.drop i).set i (.int .i64 ((k + i : Nat) : Int)) = intsV (marksI k (i + 1)) ++ xs.drop (i + 1) := by
  rw [List.set_append, if_neg (by rw [intsV_len, marksI_len]; omega), intsV_len, marksI_len, Nat.sub_self]
  rw [List.drop_eq_getElem_cons h, List.set_cons_zero]
  conv => rhs; unfold marksI
  rw [intsV_append, List.append_assoc]; rfl





end Go.Proofs.Ytnflkecnddbhoaa

/-! The contracts of the exact laws' own helpers over lists of texts: eqStringS, markStringS, heldStringS, markText. -/
namespace Go.Proofs.Ytnflkecnddbhoaa
open Go.RowKit

/-- The digits of k ahead of acc. -/
def markGo : Nat → Nat → List UInt8 → List UInt8
  | 0, _, acc => acc
  | f + 1, k, acc => if k = 0 then acc else markGo f (k / 10) ((48 + UInt8.ofNat (k % 10)) :: acc)
def markL (k : Nat) : List UInt8 := 109 :: markGo k k []

theorem markGo_zero (f : Nat) (acc : List UInt8) : markGo f 0 acc = acc := by
  cases f with
  | zero => rfl
  | succ f => simp [markGo]

theorem markGo_step (f k : Nat) (acc : List UInt8) (h : k ≤ f) (hk : 0 < k) : ∃ f', k / 10 ≤ f' ∧ markGo f k acc = markGo f' (k / 10) ((48 + UInt8.ofNat (k % 10)) :: acc) := by
  obtain ⟨f', rfl⟩ : ∃ f', f = f' + 1 := ⟨f - 1, by omega⟩
  refine ⟨f', by omega, ?_⟩
  conv => lhs; unfold markGo
  rw [if_neg (by omega)]


end Go.Proofs.Ytnflkecnddbhoaa

/-! The contracts of the exact laws' own helpers over lists of texts: eqStringS, markStringS, heldStringS. -/
namespace Go.Proofs.Ytnflkecnddbhoaa
open Go.RowKit

set_option maxHeartbeats 1000000 in
set_option maxRecDepth 100000 in
theorem eqStrC (w : World) (ba bb ga gb ca cb : Nat) (ls : List (List UInt8)) (hn : ls.length ≤ 1100000)
    (ha : w.ownsRow ba 9 1 (.slice (some ⟨ga, 0, none⟩) ls.length ca) ls.length (strV ls)) (hb : w.ownsRow bb 9 1 (.slice (some ⟨gb, 0, none⟩) ls.length cb) ls.length (strV ls)) :
    Calls Try.prog 44 #[.slice (some ⟨ga, 0, none⟩) ls.length ca, .slice (some ⟨gb, 0, none⟩) ls.length cb] w fun e w' => e = .returned (.bool true) ∧ w.grownBy w' none := by
  have hne : ((ls.length : Int) != (ls.length : Int)) = false := by simp
  have hself : ∀ l : List UInt8, (l != l) = false := by simp
  have HA : Hid (∀ j (hj : j < ls.length), w.cell? ⟨ga, j, none⟩ = some (.string ⟨ls[j].toArray⟩)) := fun j hj => str_cells ha j hj
  have HB : Hid (∀ j (hj : j < ls.length), w.cell? ⟨gb, j, none⟩ = some (.string ⟨ls[j].toArray⟩)) := fun j hj => str_cells hb j hj
  clear ha hb
  go_enter Try.func44, Try.ntmps44
  go_wp2
  go_loopw [5] (fun i wr => ∃ k : Nat, k ≤ ls.length ∧ i = .int .i64 k ∧ w.grownBy wr none) (fun i _ => ls.length - (intOf i).toNat)
  case atStart => exact ⟨0, Nat.zero_le _, rfl, World.grownBy.refl _ _⟩
  case round =>
    obtain ⟨k, hk, rfl, hg⟩ := hrel
    by_cases hlt : k < ls.length
    · obtain ⟨t, ht⟩ : ∃ t, ls[k] = t := ⟨_, rfl⟩
      have hca : wr.cell? ⟨ga, k, none⟩ = some (.string ⟨t.toArray⟩) := by rw [← ht]; exact hg.cell (HA.out k hlt) (by simp)
      have hcb : wr.cell? ⟨gb, k, none⟩ = some (.string ⟨t.toArray⟩) := by rw [← ht]; exact hg.cell (HB.out k hlt) (by simp)
      clear ht
      go_wp2
      go_region
      all_goals (try go_wp2)
      go_roundw
      case rel => exact ⟨k + 1, by omega, by go_num, hg.trans (grown_drew _ _)⟩
      case measure => simp [intOf]; omega
    · go_wp2
      go_ret
      exact ⟨rfl, hg⟩

/-- The marks from k on. -/
def marksV (k : Nat) : Nat → List Value
  | 0 => []
  | n + 1 => marksV k n ++ [.string ⟨(markL (k + n)).toArray⟩]

theorem marksV_len (k n : Nat) : (marksV k n).length = n := by
  induction n with
  | zero => rfl
  | succ n ih => simp [marksV, ih]

theorem marksV_at (k n j : Nat) (h : j < n) : (marksV k n)[j]? = some (.string ⟨(markL (k + j)).toArray⟩) := by
  induction n with
  | zero => omega
  | succ n ih =>
    unfold marksV
    by_cases hj : j < n
    · rw [List.getElem?_append_left (by rw [marksV_len]; exact hj)]; exact ih hj
    · obtain rfl : j = n := by omega
      rw [List.getElem?_append_right (by rw [marksV_len]; omega), marksV_len]
      simp

theorem marks_set (k i : Nat) (xs : List Value) (h : i < xs.length) : (marksV k i ++ xs.drop i).set i (.string ⟨(markL (k + i)).toArray⟩) = marksV k (i + 1) ++ xs.drop (i + 1) := by
  rw [List.set_append, if_neg (by rw [marksV_len]; omega), marksV_len, Nat.sub_self]
  rw [List.drop_eq_getElem_cons h, List.set_cons_zero]
  conv => rhs; unfold marksV
  rw [List.append_assoc]; rfl



end Go.Proofs.Ytnflkecnddbhoaa

/-! The helpers over lists of texts, whatever the list's value: nil, empty or not. -/
namespace Go.Proofs.Ytnflkecnddbhoaa
open Go.RowKit

set_option maxHeartbeats 400000 in
set_option maxRecDepth 100000 in
theorem eqStrEmpty (w : World) (aa ab : Option Addr) (ca cb : Nat) :
    Calls Try.prog 44 #[.slice aa 0 ca, .slice ab 0 cb] w fun e w' => e = .returned (.bool true) ∧ w.grownBy w' none := by
  go_enter Try.func44, Try.ntmps44
  go_wp2
  refine wp_loop_rounds 1 ?_
  rw [rounds_succ]
  go_wp2
  go_ret
  exact ⟨rfl, World.grownBy.refl _ _⟩

theorem eqStrV (w : World) (ba bb : Nat) (va vb : Value) (ls : List (List UInt8)) (hn : ls.length ≤ 1100000)
    (ha : w.ownsRow ba 9 1 va ls.length (strV ls)) (hb : w.ownsRow bb 9 1 vb ls.length (strV ls)) :
    Calls Try.prog 44 #[va, vb] w fun e w' => e = .returned (.bool true) ∧ w.grownBy w' none := by
  rcases own_forms ha with ⟨rfl, h0, _⟩ | ⟨ga, ca, rfl⟩
  · rcases own_forms hb with ⟨rfl, _, _⟩ | ⟨gb, cb, rfl⟩
    · exact eqStrEmpty w none none 0 0
    · rw [h0]; exact eqStrEmpty w none (some ⟨gb, 0, none⟩) 0 cb
  · rcases own_forms hb with ⟨rfl, h0, _⟩ | ⟨gb, cb, rfl⟩
    · rw [h0]; exact eqStrEmpty w (some ⟨ga, 0, none⟩) none ca 0
    · exact eqStrC w ba bb ga gb ca cb ls hn ha hb



end Go.Proofs.Ytnflkecnddbhoaa
