/-
  Parts of one proof, one behind the other: Math12L, Math13, Math13L.
-/
import Derived.Test.YtnflkecnddbhoaaP8
import Derived.Test.YtnflkecnddbhoaaP2

/-! Plain facts of chapter 12: what FnSethi and FnFirst ask. -/
namespace Go.Proofs.Ytnflkecnddbhoaa
open Go.RowKit

theorem treeB_sub {t : List Nd} (h : treeB t = true) {a : Nat} (ha : a < t.length) : ∃ s post, t.drop a = s ++ post ∧ One s ∧ s.length ≤ 60 := by
  obtain ⟨hl, ho⟩ := treeB_one.1 h
  obtain ⟨s, post, e, hs⟩ := sub_of (tree_ends ho ha)
  refine ⟨s, post, e, hs, ?_⟩
  have h2 := congrArg List.length e
  rw [List.length_drop, List.length_append] at h2
  omega
/-- A part, cut out, takes what it took there. -/
theorem need_cut {t s post : List Nd} {a : Nat} (hs : One s) (hl : s.length ≤ 60) (ht : t.drop a = s ++ post) : needT s = need12 60 t [] (a : Int) := by
  unfold needT
  rw [if_pos (treeB_one.2 ⟨hl, hs⟩)]
  exact (need_nu hs 60 s [] 0 hl (by simp)).uniq (need_nu hs 60 t post a hl ht)
theorem need_none {t : List Nd} (h : treeB t = false) (os : List Int) : needT t = 0 ∧ needByT t os = 0 := by
  unfold needT needByT
  rw [h]
  exact ⟨rfl, if_neg (fun e => by cases e.1)⟩
theorem need_range {t : List Nd} (os : List Int) : 0 ≤ needT t ∧ needT t ≤ 60 ∧ 0 ≤ needByT t os ∧ needByT t os ≤ 60 := by
  have key : ∀ os, treeB t = true → 1 ≤ need12 60 t os 0 ∧ need12 60 t os 0 ≤ 60 := fun os h => by
    obtain ⟨hl, ho⟩ := treeB_one.1 h
    have := need_bd ho os 60 t [] 0 hl (by simp)
    rw [show ((0 : Nat) : Int) = 0 from rfl] at this
    omega
  unfold needT needByT
  refine ⟨?_, ?_, ?_, ?_⟩
  · split
    · rename_i h; have := key [] h; omega
    · omega
  · split
    · rename_i h; exact (key [] h).2
    · omega
  · split
    · rename_i h; have := key os h.1; omega
    · omega
  · split
    · rename_i h; exact (key os h.1).2
    · omega
/-- No order takes fewer than Need. -/
theorem sethi_ge {t : List Nd} (h : treeB t = true) {os : List Int} (hl : os.length = t.length) : needT t ≤ needByT t os := by
  obtain ⟨h60, ho⟩ := treeB_one.1 h
  unfold needT needByT
  rw [if_pos h, if_pos ⟨h, hl⟩]
  exact by_ge ho os 60 t [] 0 h60 (by simp)
/-- By the greater part first it is just that. -/
theorem sethi_best {t : List Nd} (h : treeB t = true) {os : List Int} (hl : os.length = t.length) (hb : ∀ i : Nat, i < t.length → 3 ≤ (t.getD i nd0).1 → (t.getD i nd0).1 ≤ 6 → os.getD i 0 = firstT t (i : Int)) : needByT t os = needT t := by
  obtain ⟨h60, ho⟩ := treeB_one.1 h
  unfold needT needByT
  rw [if_pos h, if_pos ⟨h, hl⟩]
  refine best_eq ho os (fun e => ?_) 60 t [] 0 h60 h60 (by simp) (fun i hi h3 h6 => ?_)
  · have := ho.pos
    rw [e] at hl
    simp at hl
    omega
  · rw [hb i hi h3 h6]
    unfold firstT
    rw [Int.toNat_natCast, if_pos ⟨h, by omega, by omega, h3, h6⟩]
    constructor
    · intro e
      split at e
      · assumption
      · cases e
    · intro e
      rw [if_pos e]
/-- The parts of a node of two, cut out. -/
theorem first_law {t : List Nd} (h : treeB t = true) {a : Nat} (ha : a < t.length) (h36 : 3 ≤ (t.getD a nd0).1 ∧ (t.getD a nd0).1 ≤ 6) :
    ∃ p q e : Nat, pts10 t (a : Int) = [(p : Int), (q : Int)] ∧ endV t (a : Int) = (e : Int) ∧ p < q ∧ q < e ∧ e ≤ t.length ∧ needT ((t.drop p).take (q - p)) = need12 60 t [] (p : Int) ∧ needT ((t.drop q).take (e - q)) = need12 60 t [] (q : Int) := by
  obtain ⟨s, post, es, hs, hl⟩ := treeB_sub h ha
  have hend := endV_sub es hs
  have hlen := congrArg List.length es
  rw [List.length_drop, List.length_append] at hlen
  cases hs with
  | mk n ks hn hk ho =>
    obtain ⟨e1, e2, e3⟩ := pts_sub es hk ho
    rw [e1] at h36
    have hk2 : ks.length = 2 := by rw [hk]; exact kids_four h36
    obtain ⟨k1, k2, rfl⟩ : ∃ x y, ks = [x, y] := by
      match ks, hk2 with
      | [x, y], _ => exact ⟨x, y, rfl⟩
    obtain ⟨post1, f1, g1⟩ := e3 0 (by simp)
    obtain ⟨post2, f2, g2⟩ := e3 1 (by simp)
    simp at f1 g1 f2 g2
    have o1 := ho k1 (by simp)
    have o2 := ho k2 (by simp)
    have hsl : (n :: [k1, k2].flatten).length = k1.length + k2.length + 1 := by simp
    rw [hsl] at hl hend hlen
    have p1 := o1.pos
    have p2 := o2.pos
    refine ⟨a + 1, a + 1 + k1.length, a + (k1.length + k2.length + 1), ?_, hend, by omega, by omega, by omega, ?_, ?_⟩
    · refine List.ext_getElem (by rw [e2]; rfl) (fun i h1 h2 => ?_)
      match i, h2 with
      | 0, _ => simpa [h1] using f1
      | 1, _ => simpa [h1] using f2
    · have hc : (t.drop (a + 1)).take (a + 1 + k1.length - (a + 1)) = k1 := by
        rw [g1, show a + 1 + k1.length - (a + 1) = k1.length by omega, List.take_left]
      rw [hc]
      exact need_cut o1 (by omega) g1
    · have hc : (t.drop (a + 1 + k1.length)).take (a + (k1.length + k2.length + 1) - (a + 1 + k1.length)) = k2 := by
        rw [g2, show a + (k1.length + k2.length + 1) - (a + 1 + k1.length) = k2.length by omega, List.take_left]
      rw [hc]
      exact need_cut o2 (by omega) g2

end Go.Proofs.Ytnflkecnddbhoaa

/-! Plain facts of chapter 13: instructions, code, what a tree becomes, registers. -/
namespace Go.Proofs.Ytnflkecnddbhoaa
open Go.RowKit

abbrev In13 := Int × Int × Int × Int × List UInt8
def in0 : In13 := (0, 0, 0, 0, [])
def name13 (s : List UInt8) : Bool := (splitL 46 s).length == 2 && nameB ((splitL 46 s).getD 0 []) && nameB ((splitL 46 s).getD 1 [])
def insP (i : In13) : Prop :=
  (i.1 = 9 ∨ i.2.2.2.2 = []) ∧ ((3 ≤ i.1 ∧ i.1 ≤ 6) ∨ i.2.2.2.1 = 0) ∧
  ((i.1 = 1 ∧ (0 ≤ i.2.1 ∧ i.2.1 ≤ 63) ∧ (-2147483648 ≤ i.2.2.1 ∧ i.2.2.1 ≤ 2147483647)) ∨
   (i.1 = 2 ∧ (0 ≤ i.2.1 ∧ i.2.1 ≤ 63) ∧ (0 ≤ i.2.2.1 ∧ i.2.2.1 ≤ 2)) ∨
   ((3 ≤ i.1 ∧ i.1 ≤ 6) ∧ (0 ≤ i.2.1 ∧ i.2.1 ≤ 63) ∧ (0 ≤ i.2.2.1 ∧ i.2.2.1 ≤ 63) ∧ (0 ≤ i.2.2.2.1 ∧ i.2.2.2.1 ≤ 63)) ∨
   (i.1 = 7 ∧ (0 ≤ i.2.1 ∧ i.2.1 ≤ 63) ∧ (0 ≤ i.2.2.1 ∧ i.2.2.1 ≤ 199)) ∨
   (i.1 = 8 ∧ i.2.1 = 0 ∧ (0 ≤ i.2.2.1 ∧ i.2.2.1 ≤ 199)) ∨
   (i.1 = 9 ∧ (0 ≤ i.2.1 ∧ i.2.1 ≤ 63) ∧ (0 ≤ i.2.2.1 ∧ i.2.2.1 ≤ 3) ∧ i.2.1 + i.2.2.1 - 1 ≤ 63 ∧ name13 i.2.2.2.2 = true) ∨
   (i.1 = 10 ∧ (0 ≤ i.2.1 ∧ i.2.1 ≤ 63) ∧ i.2.2.1 = 0))
instance (i : In13) : Decidable (insP i) := by unfold insP; infer_instance
def insB (i : In13) : Bool := decide (insP i)
/-- Is it right, in code of n? -/
def insAt (n : Nat) (i : In13) : Prop := insP i ∧ ((i.1 = 7 ∨ i.1 = 8) → i.2.2.1 < (n : Int))
instance (n : Nat) (i : In13) : Decidable (insAt n i) := by unfold insAt; infer_instance
def codeB (c : List In13) : Bool := decide ((1 ≤ c.length ∧ c.length ≤ 200) ∧ (∀ i ∈ c, insAt c.length i) ∧ ((c.getD (c.length - 1) in0).1 = 10 ∨ (c.getD (c.length - 1) in0).1 = 8))
/-- How far up an instruction reaches. -/
def top13 (i : In13) : Int := if i.1 = 8 then 0 else if 3 ≤ i.1 ∧ i.1 ≤ 6 then max (max i.2.2.1 i.2.2.2.1 + 1) (i.2.1 + 1) else if i.1 = 9 then max (i.2.1 + i.2.2.1) (i.2.1 + 1) else i.2.1 + 1
def mx13 : List In13 → Int
  | [] => 0
  | i :: r => max (top13 i) (mx13 r)
theorem mx13_ge : ∀ l : List In13, 0 ≤ mx13 l
  | [] => Int.le_refl 0
  | _ :: r => Int.le_trans (mx13_ge r) (Int.le_max_right _ _)
theorem mx13_append : ∀ x y : List In13, mx13 (x ++ y) = max (mx13 x) (mx13 y)
  | [], y => by have := mx13_ge y; simp only [List.nil_append, mx13]; omega
  | i :: r, y => by simp only [List.cons_append, mx13, mx13_append r y]; omega
theorem mx13_one (i : In13) : mx13 [i] = max (top13 i) 0 := rfl
def regsV (c : List In13) : Int := if codeB c = true then mx13 c else 0

/-- A part of a tree, into register r, behind c instructions. -/
def args13 (f : Int → Int → Int → List In13) : List Int → Int → Int → List In13
  | [], _, _ => []
  | p :: ps, r, c => f p r c ++ args13 f ps (r + 1) (c + (f p r c).length)
def into13 : Nat → List Nd → Int → Int → Int → List In13
  | 0, _, _, _, _ => []
  | d + 1, t, a, r, c =>
    let n := t.getD a.toNat nd0
    let p := pts10 t a
    if n.1 = 1 then [(1, r, n.2.1, 0, [])]
    else if n.1 = 2 then [(2, r, n.2.1, 0, [])]
    else if n.1 = 7 then
      let x := into13 d t (p.getD 0 0) r c
      let y := into13 d t (p.getD 1 0) r (c + x.length + 1)
      let z := into13 d t (p.getD 2 0) r (c + x.length + 1 + y.length + 1)
      x ++ (7, r, c + x.length + 1 + y.length + 1, 0, []) :: (y ++ (8, 0, c + x.length + 1 + y.length + 1 + z.length, 0, []) :: z)
    else if n.1 = 8 then args13 (into13 d t) p r c ++ [(9, r, n.2.1, 0, n.2.2.1 ++ 46 :: n.2.2.2)]
    else if need12 60 t [] (p.getD 1 0) ≤ need12 60 t [] (p.getD 0 0) then
      let x := into13 d t (p.getD 0 0) r c
      x ++ into13 d t (p.getD 1 0) (r + 1) (c + x.length) ++ [(n.1, r, r, r + 1, [])]
    else
      let x := into13 d t (p.getD 1 0) r c
      x ++ into13 d t (p.getD 0 0) (r + 1) (c + x.length) ++ [(n.1, r, r + 1, r, [])]
def compiledV (t : List Nd) : List In13 := if treeB t = true then into13 60 t 0 0 0 ++ [(10, 0, 0, 0, [])] else []

/-- What a part's code keeps. -/
structure G13 (s : Nat) (x : List In13) (r c nd : Int) : Prop where
  len : x.length + 1 ≤ 2 * s
  pos : 1 ≤ x.length
  noEnd : ∀ i ∈ x, i.1 ≠ 10
  ok : 0 ≤ c → c + x.length ≤ 199 → r + nd ≤ 64 → ∀ i ∈ x, insP i ∧ ((i.1 = 7 ∨ i.1 = 8) → i.2.2.1 ≤ c + x.length)
  top : mx13 x = r + nd

theorem name_dot {p f : List UInt8} (hp : nameB p = true) (hf : nameB f = true) : name13 (p ++ 46 :: f) = true := by
  have hno : ∀ {l : List UInt8}, nameB l = true → ∀ c ∈ l, c ≠ 46 := fun h c hc e => by
    unfold nameB at h
    rw [Bool.and_eq_true, List.all_eq_true] at h
    have := h.2 c hc
    subst e
    simp at this
  have hs : splitL 46 (p ++ 46 :: f) = [p, f] := by
    unfold splitL
    rw [split_one 46 p f [] (hno hp), split_none 46 f [] (hno hf)]
    rfl
  unfold name13
  rw [hs]
  simp [hp, hf]

theorem into_pair {s1 s2 : Nat} {x y : List In13} {k r c m1 m2 a b : Int} (h1 : G13 s1 x r c m1) (h2 : G13 s2 y (r + 1) (c + x.length) m2) (hr : 0 ≤ r) (hk : 3 ≤ k ∧ k ≤ 6) (hm1 : 1 ≤ m1) (hm2 : 1 ≤ m2) (hab : (a = r ∧ b = r + 1) ∨ (a = r + 1 ∧ b = r)) : G13 (s1 + s2 + 1) (x ++ y ++ [(k, r, a, b, [])]) r c (max m1 (m2 + 1)) := by
  have hl : (x ++ y ++ [((k, r, a, b, []) : In13)]).length = x.length + y.length + 1 := by simp; omega
  refine ⟨?_, ?_, ?_, ?_, ?_⟩
  · rw [hl]; have := h1.len; have := h2.len; omega
  · rw [hl]; omega
  · intro i hi
    simp only [List.mem_append, List.mem_singleton] at hi
    rcases hi with (hi | hi) | hi
    · exact h1.noEnd i hi
    · exact h2.noEnd i hi
    · subst hi; simp; omega
  · intro hc hlen hn i hi
    rw [hl] at hlen ⊢
    simp only [List.mem_append, List.mem_singleton] at hi
    rcases hi with (hi | hi) | hi
    · obtain ⟨q1, q2⟩ := h1.ok hc (by omega) (by omega) i hi
      exact ⟨q1, fun e => by have := q2 e; omega⟩
    · obtain ⟨q1, q2⟩ := h2.ok (by omega) (by omega) (by omega) i hi
      exact ⟨q1, fun e => by have := q2 e; omega⟩
    · subst hi
      refine ⟨⟨Or.inr rfl, Or.inl hk, Or.inr (Or.inr (Or.inl ⟨hk, ⟨hr, by simp only; omega⟩, ⟨by simp only; omega, by simp only; omega⟩, by simp only; omega, by simp only; omega⟩))⟩, fun e => by simp only at e; omega⟩
  · rw [mx13_append, mx13_append, h1.top, h2.top, mx13_one]
    unfold top13
    simp only
    rw [if_neg (by omega), if_pos hk]
    omega

theorem into_if {s1 s2 s3 : Nat} {x y z : List In13} {r c m1 m2 m3 : Int} (h1 : G13 s1 x r c m1) (h2 : G13 s2 y r (c + x.length + 1) m2) (h3 : G13 s3 z r (c + x.length + 1 + y.length + 1) m3) (hr : 0 ≤ r) (hm1 : 1 ≤ m1) (hm2 : 1 ≤ m2) (hm3 : 1 ≤ m3) :
    G13 (s1 + s2 + s3 + 1) (x ++ (7, r, c + x.length + 1 + y.length + 1, 0, []) :: (y ++ (8, 0, c + x.length + 1 + y.length + 1 + z.length, 0, []) :: z)) r c (max m1 (max m2 m3)) := by
  obtain ⟨A, hA⟩ : ∃ A, c + x.length + 1 + y.length + 1 = A := ⟨_, rfl⟩
  obtain ⟨E, hE⟩ : ∃ E, A + z.length = E := ⟨_, rfl⟩
  rw [hA] at h3
  rw [hA, hE]
  have hl : (x ++ ((7, r, A, 0, []) : In13) :: (y ++ (8, 0, E, 0, []) :: z)).length = x.length + y.length + z.length + 2 := by simp; omega
  refine ⟨?_, ?_, ?_, ?_, ?_⟩
  · rw [hl]; have := h1.len; have := h2.len; have := h3.len; omega
  · rw [hl]; omega
  · intro i hi
    simp only [List.mem_append, List.mem_cons] at hi
    rcases hi with hi | hi | hi | hi | hi
    · exact h1.noEnd i hi
    · subst hi; simp
    · exact h2.noEnd i hi
    · subst hi; simp
    · exact h3.noEnd i hi
  · intro hc hlen hn i hi
    rw [hl] at hlen ⊢
    simp only [List.mem_append, List.mem_cons] at hi
    rcases hi with hi | hi | hi | hi | hi
    · obtain ⟨q1, q2⟩ := h1.ok hc (by omega) (by omega) i hi
      exact ⟨q1, fun e => by have := q2 e; omega⟩
    · subst hi
      exact ⟨⟨Or.inr rfl, Or.inr rfl, Or.inr (Or.inr (Or.inr (Or.inl ⟨rfl, ⟨hr, by simp only; omega⟩, by simp only; omega, by simp only; omega⟩)))⟩, fun _ => by simp only; omega⟩
    · obtain ⟨q1, q2⟩ := h2.ok (by omega) (by omega) (by omega) i hi
      exact ⟨q1, fun e => by have := q2 e; omega⟩
    · subst hi
      exact ⟨⟨Or.inr rfl, Or.inr rfl, Or.inr (Or.inr (Or.inr (Or.inr (Or.inl ⟨rfl, rfl, by simp only; omega, by simp only; omega⟩))))⟩, fun _ => by simp only; omega⟩
    · obtain ⟨q1, q2⟩ := h3.ok (by omega) (by omega) (by omega) i hi
      exact ⟨q1, fun e => by have := q2 e; omega⟩
  · have e1 : mx13 (((7, r, A, 0, []) : In13) :: (y ++ (8, 0, E, 0, []) :: z)) = max (r + 1) (mx13 (y ++ ((8, 0, E, 0, []) : In13) :: z)) := rfl
    have e2 : mx13 (((8, 0, E, 0, []) : In13) :: z) = max 0 (mx13 z) := rfl
    rw [mx13_append, e1, mx13_append, e2, h1.top, h2.top, h3.top]
    omega

/-- The parts of a call, one register behind the other. -/
theorem args_ok (f : Int → Int → Int → List In13) (g : Int → Int) (sz : Int → Nat) : ∀ (ps : List Int) (r c : Int), 0 ≤ r → (∀ p ∈ ps, 1 ≤ g p ∧ ∀ r c, 0 ≤ r → G13 (sz p) (f p r c) r c (g p)) →
    (args13 f ps r c).length + ps.length ≤ 2 * (ps.map sz).sum ∧ (∀ i ∈ args13 f ps r c, i.1 ≠ 10) ∧ (∀ m : Int, 0 ≤ c → c + (args13 f ps r c).length ≤ 199 → r + most12 (ps.map g) 0 m ≤ 64 → ∀ i ∈ args13 f ps r c, insP i ∧ ((i.1 = 7 ∨ i.1 = 8) → i.2.2.1 ≤ c + (args13 f ps r c).length)) ∧ (∀ m : Int, 0 ≤ m → max (mx13 (args13 f ps r c)) (r + m) = r + most12 (ps.map g) 0 m ∧ (ps.length : Int) ≤ most12 (ps.map g) 0 m)
  | [], r, c, hr, _ => by
    refine ⟨by simp [args13], ?_, ?_, ?_⟩
    · intro i hi; simp [args13] at hi
    · intro m _ _ _ i hi; simp [args13] at hi
    · intro m hm
      simp only [args13, mx13, List.map_nil, most12, List.length_nil]
      omega
  | p :: ps, r, c, hr, h => by
    obtain ⟨hg, hp⟩ := h p (by simp)
    have h1 := hp r c hr
    obtain ⟨i1, i2, i3, i4⟩ := args_ok f g sz ps (r + 1) (c + (f p r c).length) (by omega) (fun q hq => h q (by simp [hq]))
    have most_shift : ∀ (l : List Int) (i m : Int), most12 l (i + 1) (m + 1) = most12 l i m + 1 := by
      intro l
      induction l with
      | nil => intro i m; rfl
      | cons x l ihl => intro i m; simp only [most12]; rw [← ihl]; congr 1; omega
    have e1 : args13 f (p :: ps) r c = f p r c ++ args13 f ps (r + 1) (c + (f p r c).length) := rfl
    rw [e1]
    generalize args13 f ps (r + 1) (c + (f p r c).length) = y at i1 i2 i3 i4 ⊢
    generalize f p r c = x at h1 i3 ⊢
    have hl : (x ++ y).length = x.length + y.length := by simp
    have hm : ∀ m : Int, most12 ((p :: ps).map g) 0 m = most12 (ps.map g) 0 (max m (g p) - 1) + 1 := fun m => by
      have := most_shift (ps.map g) 0 (max m (g p) - 1)
      rw [show max m (g p) - 1 + 1 = max m (g p) by omega] at this
      rw [← this]
      simp only [List.map_cons, most12, Int.add_zero]
    refine ⟨?_, ?_, ?_, ?_⟩
    · rw [hl]
      have := h1.len
      simp only [List.map_cons, List.sum_cons, List.length_cons]
      omega
    · intro i hi
      rcases List.mem_append.1 hi with hi | hi
      · exact h1.noEnd i hi
      · exact i2 i hi
    · intro m hc hlen hn i hi
      rw [hl] at hlen ⊢
      rw [hm] at hn
      have hge := most12_ge (ps.map g) 0 (max m (g p) - 1)
      rcases List.mem_append.1 hi with hi | hi
      · obtain ⟨q1, q2⟩ := h1.ok hc (by omega) (by omega) i hi
        exact ⟨q1, fun e => by have := q2 e; omega⟩
      · obtain ⟨q1, q2⟩ := i3 (max m (g p) - 1) (by omega) (by omega) (by omega) i hi
        exact ⟨q1, fun e => by have := q2 e; omega⟩
    · intro m hm1
      rw [hm, mx13_append, h1.top, List.length_cons]
      have := i4 (max m (g p) - 1) (by omega)
      omega

theorem into_call {s : Nat} {y : List In13} {r c m k : Int} {pk fn : List UInt8} (hl : y.length ≤ 2 * s) (h2 : ∀ i ∈ y, i.1 ≠ 10) (h3 : 0 ≤ c → c + y.length ≤ 199 → r + m ≤ 64 → ∀ i ∈ y, insP i ∧ ((i.1 = 7 ∨ i.1 = 8) → i.2.2.1 ≤ c + y.length)) (h4 : max (mx13 y) (r + 1) = r + m) (hk0 : 0 ≤ k) (hk3 : k ≤ 3) (hkm : k ≤ m) (hr : 0 ≤ r) (hp : nameB pk = true) (hf : nameB fn = true) :
    G13 (s + 1) (y ++ [(9, r, k, 0, pk ++ 46 :: fn)]) r c m := by
  have hl2 : (y ++ [((9, r, k, 0, pk ++ 46 :: fn) : In13)]).length = y.length + 1 := by simp
  refine ⟨?_, ?_, ?_, ?_, ?_⟩
  · rw [hl2]; omega
  · rw [hl2]; omega
  · intro i hi
    simp only [List.mem_append, List.mem_singleton] at hi
    rcases hi with hi | hi
    · exact h2 i hi
    · subst hi; simp
  · intro hc hlen hn i hi
    rw [hl2] at hlen ⊢
    simp only [List.mem_append, List.mem_singleton] at hi
    rcases hi with hi | hi
    · obtain ⟨q1, q2⟩ := h3 hc (by omega) (by omega) i hi
      exact ⟨q1, fun e => by have := q2 e; omega⟩
    · subst hi
      exact ⟨⟨Or.inl rfl, Or.inr rfl, Or.inr (Or.inr (Or.inr (Or.inr (Or.inr (Or.inl ⟨rfl, ⟨hr, by simp only; omega⟩, ⟨hk0, hk3⟩, by simp only; omega, name_dot hp hf⟩)))))⟩, fun e => by simp only at e; omega⟩
  · have e1 : mx13 [((9, r, k, 0, pk ++ 46 :: fn) : In13)] = max (max (r + k) (r + 1)) 0 := rfl
    rw [mx13_append, e1]
    omega

end Go.Proofs.Ytnflkecnddbhoaa

/-! Plain facts of chapter 13: what FnCompiled asks. -/
namespace Go.Proofs.Ytnflkecnddbhoaa
open Go.RowKit

theorem into_leaf {r c k v : Int} (hk : (k = 1 ∧ -2147483648 ≤ v ∧ v ≤ 2147483647) ∨ (k = 2 ∧ 0 ≤ v ∧ v ≤ 2)) (hr : 0 ≤ r) : G13 1 [(k, r, v, 0, [])] r c 1 := by
  refine ⟨by simp, by simp, ?_, ?_, ?_⟩
  · intro i hi
    rw [List.mem_singleton] at hi
    subst hi
    simp only
    omega
  · intro hc hlen hn i hi
    rw [List.mem_singleton] at hi
    subst hi
    refine ⟨⟨Or.inr rfl, Or.inr rfl, ?_⟩, fun e => by simp only at e; omega⟩
    rcases hk with ⟨h1, h2, h3⟩ | ⟨h1, h2, h3⟩
    · exact Or.inl ⟨h1, ⟨hr, by simp only; omega⟩, h2, h3⟩
    · exact Or.inr (Or.inl ⟨h1, ⟨hr, by simp only; omega⟩, h2, h3⟩)
  · rw [mx13_one]
    unfold top13
    simp only
    rw [if_neg (by omega), if_neg (by omega), if_neg (by omega)]
    omega

theorem sum_flat (ks : List (List Nd)) : ks.flatten.length = (ks.map List.length).sum := by simp [List.length_flatten]

theorem into_ok {s : List Nd} (h : One s) : ∀ (d : Nat) (t post : List Nd) (a : Nat) (r c : Int), s.length ≤ 60 → s.length ≤ d → t.drop a = s ++ post → 0 ≤ r → G13 s.length (into13 d t (a : Int) r c) r c (need12 60 t [] (a : Int)) := by
  induction h with
  | mk n ks hn hk ho ih =>
    intro d t post a r c h60 hd ht hr
    rcases d with _ | d
    · simp at hd
    obtain ⟨e1, e2, e3⟩ := pts_sub ht hk ho
    have hfl : ∀ k ∈ ks, k.length ≤ ks.flatten.length := fun k hm => (List.sublist_flatten_of_mem hm).length_le
    simp only [List.length_cons] at h60 hd
    have hb : ∀ i, i < ks.length → 1 ≤ need12 60 t [] ((pts10 t (a : Int)).getD i 0) ∧ (∀ r c, 0 ≤ r → G13 (ks.getD i []).length (into13 d t ((pts10 t (a : Int)).getD i 0) r c) r c (need12 60 t [] ((pts10 t (a : Int)).getD i 0))) ∧ need12 59 t [] ((pts10 t (a : Int)).getD i 0) = need12 60 t [] ((pts10 t (a : Int)).getD i 0) := fun i hi => by
      obtain ⟨post', e4, e5⟩ := e3 i hi
      have hm : ks.getD i [] ∈ ks := getD_mem11 hi
      have h1 := hfl _ hm
      rw [e4]
      exact ⟨(need_bd (ho _ hm) [] 60 t post' _ (by omega) e5).1, fun r c hr => ih _ hm d t post' _ r c (by omega) (by omega) e5 hr, need_fuel (ho _ hm) (by omega) (by omega) e5⟩
    have hN : need12 60 t [] (a : Int) = mk12 none n ((pts10 t (a : Int)).map (need12 60 t [])) := by
      show need12 (59 + 1) t [] (a : Int) = _
      rw [need12, Int.toNat_natCast, e1]
      have hm : (pts10 t (a : Int)).map (need12 59 t []) = (pts10 t (a : Int)).map (need12 60 t []) := by
        refine List.map_congr_left (fun p hp => ?_)
        obtain ⟨i, hi, rfl⟩ := List.getElem_of_mem hp
        have := (hb i (by omega)).2.2
        simpa [List.getD, hi] using this
      rw [hm]
      rfl
    rw [hN, into13, Int.toNat_natCast, e1]
    simp only
    have hkd := nodeB_iff.1 hn
    have hpl : (pts10 t (a : Int)).length = ks.length := e2
    rcases hkd with ⟨h1, h2, h3, h4⟩ | ⟨h1, h2, h3, h4⟩ | ⟨h1, h2, h3, h4⟩ | ⟨h1, h2, h3, h4⟩
    · have hz : ks = [] := by
        have : kidsN n = 0 := by unfold kidsN; rw [if_neg (by omega), if_neg (by omega), if_neg (by omega)]
        exact List.eq_nil_of_length_eq_zero (by omega)
      subst hz
      have hp0 : pts10 t (a : Int) = [] := List.eq_nil_of_length_eq_zero hpl
      rw [if_pos h1, hp0]
      unfold mk12
      rw [if_neg (by omega), if_neg (by omega)]
      exact into_leaf (k := 1) (Or.inl ⟨rfl, h2.1, h2.2⟩) hr
    · have hz : ks = [] := by
        have : kidsN n = 0 := by unfold kidsN; rw [if_neg (by omega), if_neg (by omega), if_neg (by omega)]
        exact List.eq_nil_of_length_eq_zero (by omega)
      subst hz
      have hp0 : pts10 t (a : Int) = [] := List.eq_nil_of_length_eq_zero hpl
      rw [if_neg (by omega), if_pos h1, hp0]
      unfold mk12
      rw [if_neg (by omega), if_neg (by omega)]
      exact into_leaf (k := 2) (Or.inr ⟨rfl, h2.1, h2.2⟩) hr
    · rw [if_neg (by omega), if_neg (by omega)]
      by_cases h7 : n.1 = 7
      · have hk2 : ks.length = 3 := by rw [hk]; exact kids_seven h7
        obtain ⟨k1, k2, k3, rfl⟩ : ∃ x y z, ks = [x, y, z] := by
          match ks, hk2 with
          | [x, y, z], _ => exact ⟨x, y, z, rfl⟩
        rw [if_pos h7]
        unfold mk12
        rw [if_neg (by omega), if_pos h7, map_getD12 (by omega), map_getD12 (by omega), map_getD12 (by omega)]
        obtain ⟨b0, g0, _⟩ := hb 0 (by simp)
        obtain ⟨b1, g1, _⟩ := hb 1 (by simp)
        obtain ⟨b2, g2, _⟩ := hb 2 (by simp)
        have hl : (n :: [k1, k2, k3].flatten).length = k1.length + k2.length + k3.length + 1 := by simp; omega
        rw [hl]
        exact into_if (g0 r c hr) (g1 r _ hr) (g2 r _ hr) hr b0 b1 b2
      · have h36 : 3 ≤ n.1 ∧ n.1 ≤ 6 := by omega
        have hk2 : ks.length = 2 := by rw [hk]; exact kids_four h36
        obtain ⟨k1, k2, rfl⟩ : ∃ x y, ks = [x, y] := by
          match ks, hk2 with
          | [x, y], _ => exact ⟨x, y, rfl⟩
        rw [if_neg h7, if_neg (by omega)]
        unfold mk12
        rw [if_pos h36, map_getD12 (by omega), map_getD12 (by omega)]
        obtain ⟨b0, g0, _⟩ := hb 0 (by simp)
        obtain ⟨b1, g1, _⟩ := hb 1 (by simp)
        have hl : (n :: [k1, k2].flatten).length = k1.length + k2.length + 1 := by simp
        have hl' : (n :: [k1, k2].flatten).length = k2.length + k1.length + 1 := by rw [hl]; omega
        simp only [show ([k1, k2] : List (List Nd)).getD 0 [] = k1 from rfl, show ([k1, k2] : List (List Nd)).getD 1 [] = k2 from rfl] at g0 g1
        unfold pair12
        simp only
        generalize need12 60 t [] ((pts10 t (a : Int)).getD 0 0) = x at b0 g0 ⊢
        generalize need12 60 t [] ((pts10 t (a : Int)).getD 1 0) = y at b1 g1 ⊢
        by_cases hyx : y ≤ x
        · rw [if_pos hyx, hl]
          have hg := into_pair (g0 r c hr) (g1 (r + 1) _ (by omega)) hr h36 b0 b1 (Or.inl ⟨rfl, rfl⟩)
          have hmx : (if x = y then x + 1 else max x y) = max x (y + 1) := by split <;> omega
          rw [hmx]
          exact hg
        · rw [if_neg hyx, hl']
          have hg := into_pair (g1 r c hr) (g0 (r + 1) _ (by omega)) hr h36 b1 b0 (Or.inr ⟨rfl, rfl⟩)
          have hmx : (if x = y then x + 1 else max x y) = max y (x + 1) := by split <;> omega
          rw [hmx]
          exact hg
    · rw [if_neg (by omega), if_neg (by omega), if_neg (by omega), if_pos h1]
      unfold mk12
      rw [if_neg (by omega), if_neg (by omega)]
      have hsz : (pts10 t (a : Int)).map (fun p => (endV t p - p).toNat) = ks.map List.length := by
        refine List.ext_getElem (by simp [hpl]) (fun i q1 q2 => ?_)
        rw [List.length_map] at q1 q2
        obtain ⟨post', e4, e5⟩ := e3 i q2
        have hm : ks.getD i [] ∈ ks := getD_mem11 q2
        have he := endV_sub e5 (ho _ hm)
        have hg : (pts10 t (a : Int))[i] = (pts10 t (a : Int)).getD i 0 := by simp [List.getD, q1]
        have hg2 : ks.getD i [] = ks[i] := by simp [List.getD, q2]
        rw [List.getElem_map, List.getElem_map, hg, e4, he, ← hg2]
        omega
      have hall : ∀ p ∈ pts10 t (a : Int), 1 ≤ need12 60 t [] p ∧ ∀ r c, 0 ≤ r → G13 ((fun p => (endV t p - p).toNat) p) (into13 d t p r c) r c (need12 60 t [] p) := fun p hp => by
        obtain ⟨i, hi, rfl⟩ := List.getElem_of_mem hp
        have hi2 : i < ks.length := by omega
        obtain ⟨b, g, _⟩ := hb i hi2
        have hg : (pts10 t (a : Int)).getD i 0 = (pts10 t (a : Int))[i] := by simp [List.getD, hi]
        have hs : (endV t (pts10 t (a : Int))[i] - (pts10 t (a : Int))[i]).toNat = (ks.getD i []).length := by
          have hq := congrArg (fun l => l.getD i 0) hsz
          have q1 : ((pts10 t (a : Int)).map (fun p => (endV t p - p).toNat)).getD i 0 = (endV t (pts10 t (a : Int))[i] - (pts10 t (a : Int))[i]).toNat := by simp [List.getD, hi]
          have q2 : (ks.map List.length).getD i 0 = (ks.getD i []).length := by simp [List.getD, hi2]
          rw [← q1, ← q2]
          exact hq
        rw [hg] at b g
        simp only
        rw [hs]
        exact ⟨b, g⟩
      obtain ⟨i1, i2, i3, i4⟩ := args_ok (into13 d t) (need12 60 t []) (fun p => (endV t p - p).toNat) (pts10 t (a : Int)) r c hr hall
      rw [hsz, ← sum_flat] at i1
      have hkn : (kidsN n : Int) = n.2.1 := by
        unfold kidsN
        rw [if_neg (by omega), if_neg (by omega), if_pos h1]
        omega
      have h4' := i4 1 (by omega)
      exact into_call (s := ks.flatten.length) (by omega) i2 (i3 1) h4'.1 h2.1 h2.2 (by omega) hr h3 h4

/-- What FnCompiled asks of code that a right tree became. -/
theorem compiled_law {t : List Nd} (h : treeB t = true) : codeB (compiledV t) = true ∧ regsV (compiledV t) = needT t ∧ (compiledV t).length ≤ 121 ∧ 1 ≤ (compiledV t).length ∧ (compiledV t).countP (fun i => i.1 == 10) = 1 := by
  obtain ⟨h60, ho⟩ := treeB_one.1 h
  have hg := into_ok ho 60 t [] 0 0 0 h60 h60 (by simp) (Int.le_refl 0)
  have hb := need_bd ho [] 60 t [] 0 h60 (by simp)
  rw [show ((0 : Nat) : Int) = 0 from rfl] at hg hb
  have hc : compiledV t = into13 60 t 0 0 0 ++ [(10, 0, 0, 0, [])] := by unfold compiledV; rw [if_pos h]
  have hn : needT t = need12 60 t [] 0 := by unfold needT; rw [if_pos h]
  rw [hc, hn]
  generalize into13 60 t 0 0 0 = x at hg ⊢
  generalize need12 60 t [] 0 = m at hg hb ⊢
  have hl : (x ++ [((10, 0, 0, 0, []) : In13)]).length = x.length + 1 := by simp
  have hlen := hg.len
  have hcode : codeB (x ++ [((10, 0, 0, 0, []) : In13)]) = true := by
    unfold codeB
    refine decide_eq_true ⟨by rw [hl]; omega, fun i hi => ?_, Or.inl ?_⟩
    · rw [hl]
      rcases List.mem_append.1 hi with hi | hi
      · obtain ⟨q1, q2⟩ := hg.ok (Int.le_refl 0) (by omega) (by omega) i hi
        exact ⟨q1, fun e => by have := q2 e; omega⟩
      · rw [List.mem_singleton] at hi
        subst hi
        exact ⟨by decide, fun e => by simp at e⟩
    · rw [hl]; simp [List.getD]
  refine ⟨hcode, ?_, by rw [hl]; omega, by rw [hl]; omega, ?_⟩
  · unfold regsV
    rw [if_pos hcode, mx13_append, hg.top]
    have e1 : mx13 [((10, 0, 0, 0, []) : In13)] = 1 := by decide
    rw [e1]
    omega
  · rw [List.countP_append]
    have : x.countP (fun i => i.1 == 10) = 0 := by
      rw [List.countP_eq_zero]
      intro i hi
      have := hg.noEnd i hi
      simpa using this
    rw [this]
    rfl
theorem compiled_none {t : List Nd} (h : treeB t = false) : compiledV t = [] := by unfold compiledV; rw [h]; rfl

/-- Right code: some register, or nothing but jumps. -/
theorem regs_pos {c : List In13} (h : codeB c = true) : 0 < regsV c ∨ ∀ i ∈ c, i.1 = 8 := by
  by_cases hall : ∀ i ∈ c, i.1 = 8
  · exact Or.inr hall
  · refine Or.inl ?_
    unfold regsV
    rw [if_pos h]
    have hc := of_decide_eq_true h
    obtain ⟨i, hi, hne⟩ : ∃ i ∈ c, i.1 ≠ 8 := by
      simpa using hall
    have hp := (hc.2.1 i hi).1
    have key : ∀ (l : List In13) (i : In13), i ∈ l → top13 i ≤ mx13 l := by
      intro l
      induction l with
      | nil => intro i hi; cases hi
      | cons x r ihl =>
        intro i hi
        rcases List.mem_cons.1 hi with rfl | hi
        · exact Int.le_max_left _ _
        · exact Int.le_trans (ihl i hi) (Int.le_max_right _ _)
    have hk := key c i hi
    have ht : 1 ≤ top13 i := by
      unfold top13
      unfold insP at hp
      rw [if_neg hne]
      split
      · omega
      · split <;> omega
    omega
theorem regs_jumps {c : List In13} (h : ∀ i ∈ c, i.1 = 8) : regsV c = 0 := by
  unfold regsV
  split
  · have key : ∀ l : List In13, (∀ i ∈ l, i.1 = 8) → mx13 l = 0 := by
      intro l
      induction l with
      | nil => intro _; rfl
      | cons x r ihl =>
        intro hl
        have h1 := hl x (by simp)
        have h2 := ihl (fun i hi => hl i (by simp [hi]))
        unfold mx13 top13
        rw [if_pos h1, h2]
        rfl
    exact key c h
  · rfl

end Go.Proofs.Ytnflkecnddbhoaa
