/-
  Parts of one proof, one behind the other: Math18, TreeS4, TreeS5, TreeS6, IntsL, Marks, Marks2, Marks3, TextsL.
-/
import Derived.Test.YtglhbcbilepomaaDoorP5
import Derived.Test.YtglhbcbilepomaaDoorP1
import Derived.Test.YtglhbcbilepomaaDoorP4
import Derived.Deep.RegionWith
import Derived.Test.YtglhbcbilepomaaDoorP2
import Derived.Test.YtglhbcbilepomaaDoorP3
import Derived.SliceStrings
import Derived.ProofKit
import Derived.OpenShut
import Derived.ShutString
import Derived.ChangeOld
import Derived.Below

/-! Plain facts of chapter 18: tasks, desks, what is done to them. -/
namespace Go.Proofs.YtglhbcbilepomaaDoor
open Go.RowKit

/-! A task: name, needs, state, worker, until, key. A desk: tasks, epoch, now, journal. -/
abbrev Ta := List UInt8 × List Int × Int × Int × Int × Int
abbrev Dk := List Ta × Int × Int × List UInt8
def ta0 : Ta := ([], [], 0, 0, 0, 0)
def dk0 : Dk := ([], 0, 0, [])
def key18 (k : Int) : Bool := inB k 0 2147483646
def need18 (own : Int) (ns : List Int) (i : Nat) : Prop := 0 ≤ ns.getD i 0 ∧ ns.getD i 0 < own ∧ (0 < i → ns.getD (i - 1) 0 < ns.getD i 0)
instance (own : Int) (ns : List Int) (i : Nat) : Decidable (need18 own ns i) := by unfold need18; infer_instance
def needsB (own : Int) (ns : List Int) : Bool := decide (∀ i, i < ns.length → need18 own ns i)
def stateB (t : Ta) : Bool :=
  if t.2.2.1 = 0 then decide (t.2.2.2.1 = 0 ∧ t.2.2.2.2.1 = 0 ∧ t.2.2.2.2.2 = 0)
  else if t.2.2.1 = 1 then inB t.2.2.2.1 0 3 && inB t.2.2.2.2.1 0 1000000 && decide (t.2.2.2.2.2 = 0)
  else if t.2.2.1 = 2 then decide (t.2.2.2.1 = 0 ∧ t.2.2.2.2.1 = 0) && key18 t.2.2.2.2.2
  else false
def taskB (own : Int) (t : Ta) : Bool := needsB own t.2.1 && stateB t
def one18 (ts : List Ta) (i : Nat) : Prop := nameB (ts.getD i ta0).1 = true ∧ taskB (i : Int) (ts.getD i ta0) = true ∧ ∀ k, k < i → (ts.getD k ta0).1 ≠ (ts.getD i ta0).1
instance (ts : List Ta) (i : Nat) : Decidable (one18 ts i) := by unfold one18; infer_instance
def deskB (d : Dk) : Bool := decide (1 ≤ d.1.length ∧ d.1.length ≤ 8) && inB d.2.1 1 1000 && inB d.2.2.1 0 1000000 && decide (d.2.2.2.length ≤ 60000) && decide (∀ i, i < d.1.length → one18 d.1 i)

structure DeskP (d : Dk) : Prop where
  n : 1 ≤ d.1.length ∧ d.1.length ≤ 8
  e : 1 ≤ d.2.1 ∧ d.2.1 ≤ 1000
  t : 0 ≤ d.2.2.1 ∧ d.2.2.1 ≤ 1000000
  j : d.2.2.2.length ≤ 60000
  one : ∀ i, i < d.1.length → one18 d.1 i
theorem deskB_iff {d : Dk} : deskB d = true ↔ DeskP d := by
  unfold deskB inB
  simp only [Bool.and_eq_true, decide_eq_true_eq]
  exact ⟨fun ⟨⟨⟨⟨h1, h2⟩, h3⟩, h4⟩, h5⟩ => ⟨h1, h2, h3, h4, h5⟩, fun h => ⟨⟨⟨⟨h.n, h.e⟩, h.t⟩, h.j⟩, h.one⟩⟩
theorem needsB_no {own : Int} {ns : List Int} {i : Nat} (hi : i < ns.length) (h : ¬ need18 own ns i) : needsB own ns = false := decide_eq_false (fun e => h (e i hi))
theorem needsB_yes {own : Int} {ns : List Int} (h : ∀ i, i < ns.length → need18 own ns i) : needsB own ns = true := decide_eq_true h

/-! Are all needs of a task done? -/
def free18 (ts : List Ta) (t : Ta) : Bool := decide (∀ i, i < t.2.1.length → (ts.getD (t.2.1.getD i 0).toNat ta0).2.2.1 = 2)
theorem free18_no {ts : List Ta} {t : Ta} {i : Nat} (hi : i < t.2.1.length) (h : (ts.getD (t.2.1.getD i 0).toNat ta0).2.2.1 ≠ 2) : free18 ts t = false := decide_eq_false (fun e => h (e i hi))
theorem free18_yes {ts : List Ta} {t : Ta} (h : ∀ i, i < t.2.1.length → (ts.getD (t.2.1.getD i 0).toNat ta0).2.2.1 = 2) : free18 ts t = true := decide_eq_true h

/-! Lent: the first that can be. -/
def can18 (d : Dk) (i : Nat) : Prop := (d.1.getD i ta0).2.2.1 ≠ 2 ∧ free18 d.1 (d.1.getD i ta0) = true ∧ ¬ ((d.1.getD i ta0).2.2.1 = 1 ∧ d.2.2.1 < (d.1.getD i ta0).2.2.2.2.1)
instance (d : Dk) (i : Nat) : Decidable (can18 d i) := by unfold can18; infer_instance
def lendGo (d : Dk) : Nat → Nat → Option Nat
  | 0, _ => none
  | k + 1, i => if can18 d i then some i else lendGo d k (i + 1)
def lendAt (d : Dk) : Option Nat := lendGo d d.1.length 0
def leased18 (d : Dk) (worker : Int) (t : Ta) : Ta := (t.1, t.2.1, 1, worker, (if d.2.2.1 + 10 ≤ 1000000 then d.2.2.1 + 10 else 1000000), t.2.2.2.2.2)
def lend18 (d : Dk) (worker : Int) : Dk × Int :=
  if inB worker 0 3 = true then
    match lendAt d with
    | some i => ((d.1.set i (leased18 d worker (d.1.getD i ta0)), d.2), (i : Int))
    | none => (d, -1)
  else (d, -1)
def lentV (d : Dk) (worker : Int) : Dk × Int := if deskB d = true then lend18 d worker else (dk0, -1)
theorem lendGo_some {d : Dk} : ∀ {k i j : Nat}, lendGo d k i = some j → i ≤ j ∧ j < i + k ∧ can18 d j ∧ ∀ q, i ≤ q → q < j → ¬ can18 d q
  | 0, _, _, h => by cases h
  | k + 1, i, j, h => by
    unfold lendGo at h
    split at h
    · rename_i hc
      injection h with h
      subst h
      exact ⟨Nat.le_refl _, by omega, hc, fun q h1 h2 => by omega⟩
    · rename_i hc
      obtain ⟨h1, h2, h3, h4⟩ := lendGo_some h
      refine ⟨by omega, by omega, h3, fun q hq hqj => ?_⟩
      rcases Nat.lt_or_ge i q with g | g
      · exact h4 q (by omega) hqj
      · obtain rfl : q = i := by omega
        exact hc
theorem lendGo_none {d : Dk} : ∀ {k i : Nat}, lendGo d k i = none → ∀ q, i ≤ q → q < i + k → ¬ can18 d q
  | 0, _, _, q, h1, h2 => by omega
  | k + 1, i, h, q, h1, h2 => by
    unfold lendGo at h
    split at h
    · cases h
    · rename_i hc
      rcases Nat.lt_or_ge i q with g | g
      · exact lendGo_none h q (by omega) (by omega)
      · obtain rfl : q = i := by omega
        exact hc
theorem lendGo_to {d : Dk} : ∀ {k i j : Nat}, i ≤ j → j < i + k → can18 d j → (∀ q, i ≤ q → q < j → ¬ can18 d q) → lendGo d k i = some j
  | 0, _, _, h1, h2, _, _ => by omega
  | k + 1, i, j, h1, h2, h3, h4 => by
    unfold lendGo
    rcases Nat.lt_or_ge i j with g | g
    · rw [if_neg (h4 i (Nat.le_refl _) g)]
      exact lendGo_to (by omega) (by omega) h3 (fun q a b => h4 q (by omega) b)
    · obtain rfl : j = i := by omega
      rw [if_pos h3]
theorem lendGo_to_none {d : Dk} : ∀ {k i : Nat}, (∀ q, i ≤ q → q < i + k → ¬ can18 d q) → lendGo d k i = none
  | 0, _, _ => rfl
  | k + 1, i, h => by
    unfold lendGo
    rw [if_neg (h i (Nat.le_refl _) (by omega))]
    exact lendGo_to_none (fun q a b => h q (by omega) (by omega))

/-! Ticked, AllDone. -/
def tickedV (d : Dk) (n : Int) : Dk × Bool := if deskB d = true then (if inB n 0 (1000000 - d.2.2.1) = true then ((d.1, d.2.1, d.2.2.1 + n, d.2.2.2), true) else (d, false)) else (dk0, false)
def doneD (d : Dk) : Bool := decide (∀ i, i < d.1.length → (d.1.getD i ta0).2.2.1 = 2)
def allDoneV (d : Dk) : Bool := deskB d && doneD d

/-! A right desk stays right. -/
theorem getD_set18 (ts : List Ta) (i k : Nat) (t : Ta) (hi : i < ts.length) : (ts.set i t).getD k ta0 = if k = i then t else ts.getD k ta0 := by
  simp only [List.getD_eq_getElem?_getD, List.getElem?_set]
  by_cases h : i = k
  · subst h; simp [hi]
  · rw [if_neg h, if_neg (fun e => h e.symm)]
theorem desk_set {d : Dk} (h : DeskP d) {i : Nat} (hi : i < d.1.length) {t : Ta} (hn : t.1 = (d.1.getD i ta0).1) (hne : t.2.1 = (d.1.getD i ta0).2.1) (hs : stateB t = true) {e n : Int} {j : List UInt8} (he : 1 ≤ e ∧ e ≤ 1000) (ht : 0 ≤ n ∧ n ≤ 1000000) (hj : j.length ≤ 60000) : DeskP (d.1.set i t, e, n, j) := by
  refine ⟨by simp only [List.length_set]; exact h.n, he, ht, hj, fun k hk => ?_⟩
  simp only [List.length_set] at hk
  obtain ⟨h1, h2, h3⟩ := h.one k hk
  have hnm : ∀ q, ((d.1.set i t).getD q ta0).1 = (d.1.getD q ta0).1 := fun q => by
    rw [getD_set18 _ _ _ _ hi]
    split
    · rename_i e; rw [e]; exact hn
    · rfl
  refine ⟨by rw [hnm]; exact h1, ?_, fun q hq => by rw [hnm, hnm]; exact h3 q hq⟩
  rw [getD_set18 _ _ _ _ hi]
  split
  · rename_i e
    subst e
    unfold taskB at h2 ⊢
    rw [Bool.and_eq_true] at h2 ⊢
    rw [hne]
    exact ⟨h2.1, hs⟩
  · exact h2
theorem lent_ok {d : Dk} {worker : Int} (h : deskB d = true) : deskB (lentV d worker).1 = true := by
  unfold lentV
  rw [if_pos h]
  unfold lend18
  split
  · rename_i hw
    have hp := deskB_iff.1 h
    split
    · rename_i i hi
      obtain ⟨_, h2, h3, _⟩ := lendGo_some hi
      rw [Nat.zero_add] at h2
      obtain ⟨ho, hk, _⟩ := hp.one i h2
      unfold taskB at hk
      rw [Bool.and_eq_true] at hk
      have hst := hk.2
      suffices hs : stateB (leased18 d worker (d.1.getD i ta0)) = true by
        exact deskB_iff.2 (desk_set (e := d.2.1) (n := d.2.2.1) (j := d.2.2.2) hp h2 (t := leased18 d worker (d.1.getD i ta0)) rfl rfl hs hp.e hp.t hp.j)
      have hnow := hp.t
      unfold stateB leased18 at *
      simp only at hst ⊢
      rw [if_neg (by omega), if_pos trivial]
      have hkey : (d.1.getD i ta0).2.2.2.2.2 = 0 := by
        unfold can18 at h3
        split at hst
        · exact (of_decide_eq_true hst).2.2
        · split at hst
          · rw [Bool.and_eq_true] at hst; exact of_decide_eq_true hst.2
          · split at hst
            · rename_i e; exact absurd e h3.1
            · cases hst
      rw [Bool.and_eq_true, Bool.and_eq_true]
      refine ⟨⟨hw, ?_⟩, decide_eq_true hkey⟩
      unfold inB
      rw [decide_eq_true_eq]
      split <;> omega
    · exact h
  · exact h
theorem ticked_ok {d : Dk} {n : Int} (h : deskB d = true) : deskB (tickedV d n).1 = true ∧ ((tickedV d n).2 = true → (tickedV d n).1.2.2.1 = d.2.2.1 + n) := by
  unfold tickedV
  rw [if_pos h]
  have hp := deskB_iff.1 h
  have hnow := hp.t
  split
  · rename_i hn
    unfold inB at hn
    have hn := of_decide_eq_true hn
    exact ⟨deskB_iff.2 ⟨hp.n, hp.e, ⟨by show 0 ≤ d.2.2.1 + n; omega, by show d.2.2.1 + n ≤ 1000000; omega⟩, hp.j, hp.one⟩, fun _ => rfl⟩
  · exact ⟨h, fun e => by cases e⟩

end Go.Proofs.YtglhbcbilepomaaDoor

/-! The contract of chapter 6's specification: the node of a word. -/
namespace Go.Proofs.YtglhbcbilepomaaDoor
open Go.RowKit

theorem part_le (ws : List (List UInt8)) (j : Nat) : (ws.getD j []).length ≤ ws.flatten.length := by
  induction ws generalizing j with
  | nil => simp
  | cons x r ih =>
    cases j with
    | zero => simp
    | succ j => have := ih j; simp only [List.getD_cons_succ, List.flatten_cons, List.length_append]; omega

/-- Four cells of one block are written. -/
theorem four_set (w : World) (b : Nat) (n : Nd) {u0 u1 u2 u3 : Value} (r0 : w.cell? ⟨b, 0, none⟩ = some u0) (r1 : w.cell? ⟨b, 1, none⟩ = some u1) (r2 : w.cell? ⟨b, 2, none⟩ = some u2) (r3 : w.cell? ⟨b, 3, none⟩ = some u3) :
    let X := ((((w.setCell ⟨b, 0, none⟩ (.int .i64 n.1)).setCell ⟨b, 1, none⟩ (.int .i64 n.2.1)).setCell ⟨b, 2, none⟩ (.string ⟨n.2.2.1.toArray⟩)).setCell ⟨b, 3, none⟩ (.string ⟨n.2.2.2.toArray⟩))
    X.cell? ⟨b, 0, none⟩ = some (.int .i64 n.1) ∧ X.cell? ⟨b, 1, none⟩ = some (.int .i64 n.2.1) ∧ X.cell? ⟨b, 2, none⟩ = some (.string ⟨n.2.2.1.toArray⟩) ∧ X.cell? ⟨b, 3, none⟩ = some (.string ⟨n.2.2.2.toArray⟩) := by
  intro X
  have o : ∀ (W : World) (i j : Nat) (v : Value), i ≠ j → (W.setCell ⟨b, i, none⟩ v).cell? ⟨b, j, none⟩ = W.cell? ⟨b, j, none⟩ := fun W i j v h => World.cell?_setCell_other _ _ _ _ (by intro e; injection e with _ e; omega)
  refine ⟨?_, ?_, ?_, ?_⟩
  · exact (o _ 3 0 _ (by omega)).trans ((o _ 2 0 _ (by omega)).trans ((o _ 1 0 _ (by omega)).trans (World.cell?_setCell_same _ _ _ r0)))
  · exact (o _ 3 1 _ (by omega)).trans ((o _ 2 1 _ (by omega)).trans (World.cell?_setCell_same _ _ _ ((o _ 0 1 _ (by omega)).trans r1)))
  · exact (o _ 3 2 _ (by omega)).trans (World.cell?_setCell_same _ _ _ ((o _ 1 2 _ (by omega)).trans ((o _ 0 2 _ (by omega)).trans r2)))
  · exact World.cell?_setCell_same _ _ _ ((o _ 2 3 _ (by omega)).trans ((o _ 1 3 _ (by omega)).trans ((o _ 0 3 _ (by omega)).trans r3)))

theorem four_below {w W : World} (h : Below w.heap.size w W) (u0 u1 u2 u3 : Value) : Below w.heap.size w ((((W.setCell ⟨w.heap.size, 0, none⟩ u0).setCell ⟨w.heap.size, 1, none⟩ u1).setCell ⟨w.heap.size, 2, none⟩ u2).setCell ⟨w.heap.size, 3, none⟩ u3) :=
  (((h.setCell (p := ⟨w.heap.size, 0, none⟩) (Nat.le_refl _) _).setCell (p := ⟨w.heap.size, 1, none⟩) (Nat.le_refl _) _).setCell (p := ⟨w.heap.size, 2, none⟩) (Nat.le_refl _) _).setCell (p := ⟨w.heap.size, 3, none⟩) (Nat.le_refl _) _


end Go.Proofs.YtglhbcbilepomaaDoor

/-! The contract of chapter 6's specification: ReadTree. -/
namespace Go.Proofs.YtglhbcbilepomaaDoor
open Go.RowKit

/-- What a row of nodes holds. -/
def nodesV : List Nd → List Value
  | [] => []
  | n :: r => .int .i64 n.1 :: .int .i64 n.2.1 :: .string ⟨n.2.2.1.toArray⟩ :: .string ⟨n.2.2.2.toArray⟩ :: nodesV r

theorem nodesV_len (ns : List Nd) : (nodesV ns).length = ns.length * 4 := by
  induction ns with
  | nil => rfl
  | cons n r ih => simp only [nodesV, List.length_cons, ih]; omega

theorem nodesV_append (x y : List Nd) : nodesV (x ++ y) = nodesV x ++ nodesV y := by
  induction x with
  | nil => rfl
  | cons n r ih => simp only [List.cons_append, nodesV, ih]

theorem nodesV_one (ns : List Nd) : ∀ u ∈ nodesV ns, u.oneCell' = true := by
  induction ns with
  | nil => intro u hu; cases hu
  | cons n r ih =>
    intro u hu
    simp only [nodesV, List.mem_cons] at hu
    rcases hu with rfl | rfl | rfl | rfl | h
    · rfl
    · rfl
    · rfl
    · rfl
    · exact ih u h

theorem nodesV_at (ns : List Nd) (j : Nat) (hj : j < ns.length) : (nodesV ns)[j * 4]? = some (.int .i64 (ns.getD j nd0).1) ∧ (nodesV ns)[j * 4 + 1]? = some (.int .i64 (ns.getD j nd0).2.1) ∧ (nodesV ns)[j * 4 + 2]? = some (.string ⟨(ns.getD j nd0).2.2.1.toArray⟩) ∧ (nodesV ns)[j * 4 + 3]? = some (.string ⟨(ns.getD j nd0).2.2.2.toArray⟩) := by
  induction ns generalizing j with
  | nil => simp at hj
  | cons n r ih =>
    cases j with
    | zero => simp [nodesV]
    | succ j =>
      have h := ih j (by simpa using hj)
      rw [show (j + 1) * 4 = j * 4 + 1 + 1 + 1 + 1 by omega]
      simpa [nodesV] using h

/-- A row of nodes that a call owns is a list of nodes. -/
theorem split_part (b : UInt8) (l : List UInt8) (j : Nat) : ((splitL b l).getD j []).length ≤ l.length := by
  have h1 : (splitGo b [] l).flatten.length ≤ l.length := by
    have := splitGo_flat b l []
    rw [List.length_nil, Nat.zero_add] at this
    exact this
  have h2 := part_le (splitL b l) j
  unfold splitL at h2 ⊢
  exact Nat.le_trans h2 h1

theorem readN_short (s : List UInt8) : (readN s).2.2.1.length ≤ s.length ∧ (readN s).2.2.2.length ≤ s.length := by
  unfold readN
  split
  · simp
  split
  · simp
  split
  · simp
  split
  · simp
  split
  · simp
  split
  · simp
  split
  · split
    · have h1 := split_part 47 s.tail 0
      have h2 := split_part 46 ((splitL 47 s.tail).getD 0 []) 0
      have h3 := split_part 46 ((splitL 47 s.tail).getD 0 []) 1
      have h4 : s.tail.length ≤ s.length := by rw [List.length_tail]; omega
      constructor
      · show ((splitL 46 ((splitL 47 s.tail).getD 0 [])).getD 0 []).length ≤ _; omega
      · show ((splitL 46 ((splitL 47 s.tail).getD 0 [])).getD 1 []).length ≤ _; omega
    · simp
  split
  · simp
  · simp

theorem readT_short (s : List UInt8) (h : s.length ≤ 2000) : ShortT (readT s) := by
  intro j
  unfold readT
  by_cases hj : j < (splitL 32 s).length
  · have hg : ((splitL 32 s).map readN).getD j nd0 = readN ((splitL 32 s).getD j []) := by simp [List.getD, hj]
    rw [hg]
    have h1 := readN_short ((splitL 32 s).getD j [])
    have h2 := split_part 32 s j
    omega
  · have hg : ((splitL 32 s).map readN).getD j nd0 = nd0 := by simp [List.getD, hj]
    rw [hg]; simp [nd0]

theorem map_step2 (ws : List (List UInt8)) (k : Nat) (hk : k < ws.length) : (ws.map readN).take (k + 1) = (ws.map readN).take k ++ [readN (ws.getD k [])] := by
  rw [← List.map_take, ← List.map_take]
  have hg : ws.getD k [] = ws[k] := by simp [List.getD, hk]
  rw [hg, List.take_succ_eq_append_getElem hk, List.map_append]; rfl


end Go.Proofs.YtglhbcbilepomaaDoor

/-! The contracts of chapter 6's specification: l6Parts, PartsOf. -/
namespace Go.Proofs.YtglhbcbilepomaaDoor
open Go.RowKit

/-- What a row of numbers holds. -/
def intsV (l : List Int) : List Value := l.map (fun i => Value.int .i64 i)
theorem intsV_len (l : List Int) : (intsV l).length = l.length := by simp [intsV]
theorem intsV_append (x y : List Int) : intsV (x ++ y) = intsV x ++ intsV y := by simp [intsV]
theorem intsV_one (l : List Int) : ∀ u ∈ intsV l, u.oneCell' = true := by
  intro u hu
  simp only [intsV, List.mem_map] at hu
  obtain ⟨i, _, rfl⟩ := hu
  rfl
theorem infoInt : (Tryd.prog.info? 2).map (fun i => (i.zero, i.size, i.bytes)) = some (some (.int .i64 0), 1, 8) := by kernel_rfl

theorem new_int (w : World) (n : Int) : ∀ j u, (intsV [n])[j]? = some u → (w.alloc (.cells #[.int .i64 n] 2)).cell? ((⟨w.heap.size, 0, none⟩ : Addr).add j) = some u := by
  intro j u hu
  have e : (⟨w.heap.size, 0, none⟩ : Addr).add j = ⟨w.heap.size, j, none⟩ := by unfold Addr.add; split <;> simp_all
  rw [e]
  match j, hu with
  | 0, hu => simp [intsV] at hu; subst hu; simp
  | j + 1, hu => simp [intsV] at hu

theorem endV_le (l : List Nd) (a : Int) : -1 ≤ endV l a ∧ endV l a ≤ l.length := by
  by_cases h : 0 ≤ endV l a
  · by_cases ha : a < 0 ∨ (l.length : Int) ≤ a
    · rw [endV_out l a ha] at h; omega
    · obtain ⟨k, rfl⟩ : ∃ k : Nat, a = (k : Int) := Int.eq_ofNat_of_zero_le (by omega)
      have := end_parts h
      omega
  · by_cases ha : a < 0 ∨ (l.length : Int) ≤ a
    · rw [endV_out l a ha]; omega
    · obtain ⟨k, rfl⟩ : ∃ k : Nat, a = (k : Int) := Int.eq_ofNat_of_zero_le (by omega)
      rw [endV_nat] at h ⊢
      unfold endN at h ⊢
      rw [if_pos (by omega)] at h ⊢
      cases he : endGo (l.drop k) 1 with
      | none => simp only; omega
      | some d => rw [he] at h; simp only at h; omega



end Go.Proofs.YtglhbcbilepomaaDoor

/-! The laws' own helpers over rows of numbers: eqInt64S, markInt64S, heldInt64S, likeInts. -/
namespace Go.Proofs.YtglhbcbilepomaaDoor
open Go.RowKit

theorem intsV_at (l : List Int) (j : Nat) (h : j < l.length) : (intsV l)[j]? = some (.int .i64 l[j]) := by
  unfold intsV; rw [List.getElem?_map, List.getElem?_eq_getElem h]; rfl

/-- The marks from k on. -/
def marksI (k : Nat) : Nat → List Int
  | 0 => []
  | n + 1 => marksI k n ++ [((k + n : Nat) : Int)]
theorem marksI_len (k n : Nat) : (marksI k n).length = n := by
  induction n with
  | zero => rfl
  | succ n ih => simp [marksI, ih]
theorem marksI_at (k n j : Nat) (h : j < n) : (intsV (marksI k n))[j]? = some (.int .i64 ((k + j : Nat) : Int)) := by
  induction n with
  | zero => omega
  | succ n ih =>
    unfold marksI
    rw [intsV_append]
    by_cases hj : j < n
    · rw [List.getElem?_append_left (by rw [intsV_len, marksI_len]; exact hj)]; exact ih hj
    · obtain rfl : j = n := by omega
      rw [List.getElem?_append_right (by rw [intsV_len, marksI_len]; omega), intsV_len, marksI_len]
      simp [intsV]
theorem marksI_set (k i : Nat) (xs : List Value) (h : i < xs.length) : (intsV (marksI k i) ++ xs.drop i).set i (.int .i64 ((k + i : Nat) : Int)) = intsV (marksI k (i + 1)) ++ xs.drop (i + 1) := by
  rw [List.set_append, if_neg (by rw [intsV_len, marksI_len]; omega), intsV_len, marksI_len, Nat.sub_self]
  rw [List.drop_eq_getElem_cons h, List.set_cons_zero]
  conv => rhs; unfold marksI
  rw [intsV_append, List.append_assoc]; rfl

set_option maxHeartbeats 1000000 in
set_option maxRecDepth 100000 in
theorem eqIntC (w : World) (ba bb ga gb ca cb : Nat) (ls : List Int) (hn : ls.length ≤ 1100000)
    (ha : w.ownsRow ba 2 1 (.slice (some ⟨ga, 0, none⟩) ls.length ca) ls.length (intsV ls)) (hb : w.ownsRow bb 2 1 (.slice (some ⟨gb, 0, none⟩) ls.length cb) ls.length (intsV ls)) :
    Calls Tryd.prog 64 #[.slice (some ⟨ga, 0, none⟩) ls.length ca, .slice (some ⟨gb, 0, none⟩) ls.length cb] w fun e w' => e = .returned (.bool true) ∧ w.grownBy w' none := by
  have hself : ∀ n : Int, (n != n) = false := by simp
  have HA : Hid (∀ j (hj : j < ls.length), w.cell? ⟨ga, j, none⟩ = some (.int .i64 ls[j])) := fun j hj => by rw [ha.cellAt j (by omega), intsV_at ls j hj]
  have HB : Hid (∀ j (hj : j < ls.length), w.cell? ⟨gb, j, none⟩ = some (.int .i64 ls[j])) := fun j hj => by rw [hb.cellAt j (by omega), intsV_at ls j hj]
  clear ha hb
  go_enter Tryd.func64, Tryd.ntmps64
  go_wp2
  go_loopw [5] (fun i wr => ∃ k : Nat, k ≤ ls.length ∧ i = .int .i64 k ∧ w.grownBy wr none) (fun i _ => ls.length - (intOf i).toNat)
  case atStart => exact ⟨0, Nat.zero_le _, rfl, World.grownBy.refl _ _⟩
  case round =>
    obtain ⟨k, hk, rfl, hg⟩ := hrel
    by_cases hlt : k < ls.length
    · obtain ⟨t, ht⟩ : ∃ t, ls[k] = t := ⟨_, rfl⟩
      have hca : wr.cell? ⟨ga, k, none⟩ = some (.int .i64 t) := by rw [← ht]; exact hg.cell (HA.out k hlt) (by simp)
      have hcb : wr.cell? ⟨gb, k, none⟩ = some (.int .i64 t) := by rw [← ht]; exact hg.cell (HB.out k hlt) (by simp)
      clear ht
      go_wp2
      go_region
      all_goals (try go_wp2)
      go_roundw
      case rel => exact ⟨k + 1, by omega, by go_num, hg.trans (grown_drew _ _)⟩
      case measure => simp [intOf]; omega
    · go_wp2
      go_ret
      exact ⟨rfl, hg⟩

set_option maxHeartbeats 400000 in
set_option maxRecDepth 100000 in
theorem eqIntEmpty (w : World) (aa ab : Option Addr) (ca cb : Nat) :
    Calls Tryd.prog 64 #[.slice aa 0 ca, .slice ab 0 cb] w fun e w' => e = .returned (.bool true) ∧ w.grownBy w' none := by
  go_enter Tryd.func64, Tryd.ntmps64
  go_wp2
  refine wp_loop_rounds 1 ?_
  rw [rounds_succ]
  go_wp2
  go_ret
  exact ⟨rfl, World.grownBy.refl _ _⟩

theorem eqIntV (w : World) (ba bb : Nat) (va vb : Value) (ls : List Int) (hn : ls.length ≤ 1100000)
    (ha : w.ownsRow ba 2 1 va ls.length (intsV ls)) (hb : w.ownsRow bb 2 1 vb ls.length (intsV ls)) :
    Calls Tryd.prog 64 #[va, vb] w fun e w' => e = .returned (.bool true) ∧ w.grownBy w' none := by
  rcases own_forms ha with ⟨rfl, h0, _⟩ | ⟨ga, ca, rfl⟩
  · rcases own_forms hb with ⟨rfl, _, _⟩ | ⟨gb, cb, rfl⟩
    · exact eqIntEmpty w none none 0 0
    · rw [h0]; exact eqIntEmpty w none (some ⟨gb, 0, none⟩) 0 cb
  · rcases own_forms hb with ⟨rfl, h0, _⟩ | ⟨gb, cb, rfl⟩
    · rw [h0]; exact eqIntEmpty w (some ⟨ga, 0, none⟩) none ca 0
    · exact eqIntC w ba bb ga gb ca cb ls hn ha hb

set_option maxHeartbeats 1000000 in
set_option maxRecDepth 100000 in
theorem markIntC (w : World) (base g cp n k0 : Nat) (xs : List Value) (hn : n ≤ 1100000) (hk1 : k0 ≤ 30000000)
    (h : w.ownsRow base 2 1 (.slice (some ⟨g, 0, none⟩) n cp) n xs) :
    Calls Tryd.prog 49 #[.slice (some ⟨g, 0, none⟩) n cp, .int .i64 k0] w fun e w' => e = .returned (.int .i64 ((k0 + n : Nat) : Int)) ∧ w'.ownsRow base 2 1 (.slice (some ⟨g, 0, none⟩) n cp) n (intsV (marksI k0 n)) ∧ w.grownBy w' (some g) := by
  have hxl : Hid (xs.length = n) := by exact (by have := h.1; omega : xs.length = n)
  have hgl : g < w.heap.size := (h.lt g rfl).2
  go_enter Tryd.func49, Tryd.ntmps49
  go_wp2
  go_loopw [1, 5] (fun k i wr => ∃ m : Nat, m ≤ n ∧ i = .int .i64 m ∧ k = .int .i64 ((k0 + m : Nat) : Int) ∧ wr.ownsRow base 2 1 (.slice (some ⟨g, 0, none⟩) n cp) n (intsV (marksI k0 m) ++ xs.drop m) ∧ w.grownBy wr (some g)) (fun _ i _ => n - (intOf i).toNat)
  case atStart => exact ⟨0, Nat.zero_le _, rfl, rfl, h, World.grownBy.refl _ _⟩
  case round =>
    obtain ⟨m, hm, rfl, rfl, hown, hg⟩ := hrel
    by_cases hlt : m < n
    · have hc1 : ∃ u, wr.cell? ⟨g, m, none⟩ = some u := by
        rw [hown.cellAt m (by omega)]
        have hl : m < (intsV (marksI k0 m) ++ xs.drop m).length := by rw [List.length_append, intsV_len, marksI_len, List.length_drop]; have := hxl.out; omega
        exact ⟨_, List.getElem?_eq_getElem hl⟩
      obtain ⟨u, hc1⟩ := hc1
      have hf1 := hown.frozenAt m
      have hst := hown.stored m (.int .i64 ((k0 + m : Nat) : Int))
      rw [marksI_set k0 m xs (by have := hxl.out; omega)] at hst
      have hst2 := hg.trans hst.2
      have hst1 := hst.1
      clear hown hst hg
      go_wp2
      go_roundw
      case rel => exact ⟨m + 1, by omega, by go_num, by go_num, hst1, hst2⟩
      case measure => simp [intOf]; omega
    · obtain rfl : m = n := by omega
      have hd : xs.drop m = [] := List.drop_eq_nil_of_le (by have := hxl.out; omega)
      rw [hd, List.append_nil] at hown
      clear hd
      go_wp2
      go_ret
      exact ⟨rfl, hown, hg⟩

set_option maxHeartbeats 400000 in
set_option maxRecDepth 100000 in
theorem markIntNil (w : World) (k0 : Nat) :
    Calls Tryd.prog 49 #[.slice none 0 0, .int .i64 k0] w fun e w' => e = .returned (.int .i64 (k0 : Int)) ∧ w' = w := by
  go_enter Tryd.func49, Tryd.ntmps49
  go_wp2
  refine wp_loop_rounds 1 ?_
  rw [rounds_succ]
  go_wp2
  go_ret
  exact ⟨rfl, rfl⟩

theorem markIntV (w : World) (base n k0 : Nat) (v : Value) (xs : List Value) (hn : n ≤ 1100000) (hk1 : k0 ≤ 30000000) (h : w.ownsRow base 2 1 v n xs) :
    Calls Tryd.prog 49 #[v, .int .i64 k0] w fun e w' => e = .returned (.int .i64 ((k0 + n : Nat) : Int)) ∧ w'.ownsRow base 2 1 v n (intsV (marksI k0 n)) ∧ w.grownBy w' v.ownBlock := by
  rcases own_forms h with ⟨rfl, rfl, rfl⟩ | ⟨g, cp, rfl⟩
  · refine (markIntNil w k0).mono ?_
    rintro e w' ⟨rfl, rfl⟩
    exact ⟨rfl, h, World.grownBy.refl _ _⟩
  · exact markIntC w base g cp n k0 xs hn hk1 h

set_option maxHeartbeats 1000000 in
set_option maxRecDepth 100000 in
theorem heldIntC (w : World) (base g cp n k0 : Nat) (hn : n ≤ 1100000) (hk1 : k0 ≤ 30000000)
    (h : w.ownsRow base 2 1 (.slice (some ⟨g, 0, none⟩) n cp) n (intsV (marksI k0 n))) :
    Calls Tryd.prog 50 #[.slice (some ⟨g, 0, none⟩) n cp, .int .i64 k0] w fun e w' => e = .returned (.int .i64 ((k0 + n : Nat) : Int)) ∧ w.grownBy w' none := by
  have hself : ∀ n : Int, (n != n) = false := by simp
  have HA : Hid (∀ j, j < n → w.cell? ⟨g, j, none⟩ = some (.int .i64 ((k0 + j : Nat) : Int))) := fun j hj => by rw [h.cellAt j (by omega), marksI_at k0 n j hj]
  clear h
  go_enter Tryd.func50, Tryd.ntmps50
  go_wp2
  go_loopw [1, 5] (fun k i wr => ∃ m : Nat, m ≤ n ∧ i = .int .i64 m ∧ k = .int .i64 ((k0 + m : Nat) : Int) ∧ w.grownBy wr none) (fun _ i _ => n - (intOf i).toNat)
  case atStart => exact ⟨0, Nat.zero_le _, rfl, rfl, World.grownBy.refl _ _⟩
  case round =>
    obtain ⟨m, hm, rfl, rfl, hg⟩ := hrel
    by_cases hlt : m < n
    · have hca : wr.cell? ⟨g, m, none⟩ = some (.int .i64 ((k0 + m : Nat) : Int)) := hg.cell (HA.out m hlt) (by simp)
      obtain ⟨q, hq⟩ : ∃ q : Nat, k0 + m = q := ⟨_, rfl⟩
      have hq2 : q ≤ 31200000 := by omega
      have HQ : Hid (k0 + (m + 1) = q + 1) := by exact (by omega : k0 + (m + 1) = q + 1)
      rw [hq] at hca ⊢
      clear hq
      go_wp2
      go_roundw
      case rel => exact ⟨m + 1, by omega, by go_num, by rw [HQ.out]; go_num, hg⟩
      case measure => simp [intOf]; omega
    · obtain rfl : m = n := by omega
      go_wp2
      go_ret
      exact ⟨rfl, hg⟩

set_option maxHeartbeats 400000 in
set_option maxRecDepth 100000 in
theorem heldIntNil (w : World) (k0 : Nat) :
    Calls Tryd.prog 50 #[.slice none 0 0, .int .i64 k0] w fun e w' => e = .returned (.int .i64 (k0 : Int)) ∧ w' = w := by
  go_enter Tryd.func50, Tryd.ntmps50
  go_wp2
  refine wp_loop_rounds 1 ?_
  rw [rounds_succ]
  go_wp2
  go_ret
  exact ⟨rfl, rfl⟩

theorem heldIntV (w : World) (base n k0 : Nat) (v : Value) (hn : n ≤ 1100000) (hk1 : k0 ≤ 30000000) (h : w.ownsRow base 2 1 v n (intsV (marksI k0 n))) :
    Calls Tryd.prog 50 #[v, .int .i64 k0] w fun e w' => e = .returned (.int .i64 ((k0 + n : Nat) : Int)) ∧ w.grownBy w' none := by
  rcases own_forms h with ⟨rfl, rfl, _⟩ | ⟨g, cp, rfl⟩
  · refine (heldIntNil w k0).mono ?_
    rintro e w' ⟨rfl, rfl⟩
    exact ⟨rfl, World.grownBy.refl _ _⟩
  · exact heldIntC w base g cp n k0 hn hk1 h


end Go.Proofs.YtglhbcbilepomaaDoor

/-! The contracts of the exact laws' own helpers over lists of texts: eqStringS, markStringS, heldStringS, markText. -/
namespace Go.Proofs.YtglhbcbilepomaaDoor
open Go.RowKit

/-- The digits of k ahead of acc. -/
def markGo : Nat → Nat → List UInt8 → List UInt8
  | 0, _, acc => acc
  | f + 1, k, acc => if k = 0 then acc else markGo f (k / 10) ((48 + UInt8.ofNat (k % 10)) :: acc)
def markL (k : Nat) : List UInt8 := 109 :: markGo k k []

theorem markGo_zero (f : Nat) (acc : List UInt8) : markGo f 0 acc = acc := by
  cases f with
  | zero => rfl
  | succ f => simp [markGo]

theorem markGo_step (f k : Nat) (acc : List UInt8) (h : k ≤ f) (hk : 0 < k) : ∃ f', k / 10 ≤ f' ∧ markGo f k acc = markGo f' (k / 10) ((48 + UInt8.ofNat (k % 10)) :: acc) := by
  obtain ⟨f', rfl⟩ : ∃ f', f = f' + 1 := ⟨f - 1, by omega⟩
  refine ⟨f', by omega, ?_⟩
  conv => lhs; unfold markGo
  rw [if_neg (by omega)]

theorem back1d (t : Int) (h2 : 0 ≤ t) (h3 : t ≤ 255) (W : World) :
    (convert 71 9 (.slice (some ⟨W.heap.size, 0, none⟩) 1 1)).run Tryd.prog (W.alloc (.cells #[.int .u8 t] 5)) = .ok (.string ⟨[UInt8.ofNat t.toNat].toArray⟩) (W.alloc (.cells #[.int .u8 t] 5)) := by
  have ht : ((UInt8.ofNat t.toNat).toNat : Int) = t := by
    rw [UInt8.toNat_ofNat']; omega
  have h := run_convert_bytes_back (P := Tryd.prog) (W.alloc (.cells #[.int .u8 t] 5)) 71 9 5 ⟨W.heap.size, 0, none⟩ 1 [UInt8.ofNat t.toNat] Tryd.underlying71 Tryd.underlying5 Tryd.underlying9 (by
    intro j hj
    have hj' : j < 1 := by simpa using hj
    match j, hj' with
    | 0, _ => simp only [List.getElem_cons_zero, ht]; simp [Addr.add, go_sem])
  exact h

set_option maxHeartbeats 1000000 in
set_option maxRecDepth 100000 in
theorem markTextC (k : Nat) (w : World) (h0 : 0 < k) (h1 : k ≤ 40000000) :
    Calls Tryd.prog 48 #[.int .i64 k] w fun e w' => e = .returned (.string ⟨(markL k).toArray⟩) ∧ w.grownBy w' none := by
  have hcat := cat_list
  go_enter Tryd.func48, Tryd.ntmps48
  go_wp2_with fail
  go_loopw [0, 3] (fun i v wr => ∃ f m : Nat, ∃ o : List UInt8, m ≤ f ∧ m ≤ k ∧ o.length + m ≤ k ∧ i = .int .i64 m ∧ v = .string ⟨o.toArray⟩ ∧ markGo f m o = markGo k k [] ∧ w.grownBy wr none) (fun i _ _ => (intOf i).toNat)
  case atStart => exact ⟨k, k, [], Nat.le_refl _, Nat.le_refl _, by simp, rfl, rfl, rfl, World.grownBy.refl _ _⟩
  case round =>
    obtain ⟨f, m, o, hf, hm, hol, rfl, rfl, hgo, hg⟩ := hrel
    by_cases hlt : 0 < m
    · obtain ⟨f', hf', hst⟩ := markGo_step f m o hf hlt
      have HS : Hid (markGo f' (m / 10) ((48 + UInt8.ofNat (m % 10)) :: o) = markGo k k []) := by
        have := hst.symm.trans hgo
        exact this
      clear hst hgo
      have hbk := back1d (48 + (m : Int) % 10) (by omega) (by omega)
      go_wp2
      go_roundw
      case rel =>
        exact ⟨f', m / 10, (48 + UInt8.ofNat (m % 10)) :: o, hf', by omega, by rw [List.length_cons]; omega, by go_num, rfl, HS.out, hg.trans (World.grownBy_alloc _ _ _)⟩
      case measure => simp [intOf]; omega
    · obtain rfl : m = 0 := by omega
      have HE : Hid (o = markGo k k []) := (markGo_zero f o).symm.trans hgo
      go_wp2
      go_ret
      exact ⟨ret_strl (by unfold markL; rw [← HE.out]), hg⟩

end Go.Proofs.YtglhbcbilepomaaDoor

/-! The contracts of the exact laws' own helpers over lists of texts: eqStringS, markStringS, heldStringS. -/
namespace Go.Proofs.YtglhbcbilepomaaDoor
open Go.RowKit


/-- The marks from k on. -/
def marksV (k : Nat) : Nat → List Value
  | 0 => []
  | n + 1 => marksV k n ++ [.string ⟨(markL (k + n)).toArray⟩]

theorem marksV_len (k n : Nat) : (marksV k n).length = n := by
  induction n with
  | zero => rfl
  | succ n ih => simp [marksV, ih]

theorem marksV_at (k n j : Nat) (h : j < n) : (marksV k n)[j]? = some (.string ⟨(markL (k + j)).toArray⟩) := by
  induction n with
  | zero => omega
  | succ n ih =>
    unfold marksV
    by_cases hj : j < n
    · rw [List.getElem?_append_left (by rw [marksV_len]; exact hj)]; exact ih hj
    · obtain rfl : j = n := by omega
      rw [List.getElem?_append_right (by rw [marksV_len]; omega), marksV_len]
      simp

theorem marks_set (k i : Nat) (xs : List Value) (h : i < xs.length) : (marksV k i ++ xs.drop i).set i (.string ⟨(markL (k + i)).toArray⟩) = marksV k (i + 1) ++ xs.drop (i + 1) := by
  rw [List.set_append, if_neg (by rw [marksV_len]; omega), marksV_len, Nat.sub_self]
  rw [List.drop_eq_getElem_cons h, List.set_cons_zero]
  conv => rhs; unfold marksV
  rw [List.append_assoc]; rfl



end Go.Proofs.YtglhbcbilepomaaDoor

/-! The helpers over lists of texts, whatever the list's value: nil, empty or not. -/
namespace Go.Proofs.YtglhbcbilepomaaDoor
open Go.RowKit




end Go.Proofs.YtglhbcbilepomaaDoor

/-! A list of texts that came in, as the walks take it; the exact laws' helpers over such lists: szStringS, toStringS. -/
namespace Go.Proofs.YtglhbcbilepomaaDoor
open Go.ChangeShapes Go.WideShapes Go.ChangeAt Go.RowKit


def szT (m n : Nat) (left : Int) : Int := if (m : Int) + (n : Int) ≤ left then left - (m : Int) - (n : Int) else -1
theorem szT_yes {m n : Nat} {left : Int} (h : (m : Int) + (n : Int) ≤ left) : szT m n left = left - (m : Int) - (n : Int) := by unfold szT; rw [if_pos h]
theorem szT_no {m n : Nat} {left : Int} (h : ¬ (m : Int) + (n : Int) ≤ left) : szT m n left = -1 := by unfold szT; rw [if_neg h]

/-- How many bytes in all. -/
def joinN (ts : List (List UInt8)) : Nat := ts.flatten.length

theorem joinN_snoc (ts : List (List UInt8)) (k : Nat) (hk : k < ts.length) : joinN (ts.take (k + 1)) = joinN (ts.take k) + (ts.getD k []).length := by
  have := congrArg List.length (flat_snoc ts k hk)
  rw [List.length_append] at this
  exact this

theorem joinN_take (ts : List (List UInt8)) (k : Nat) : joinN (ts.take k) ≤ joinN ts := flat_take ts k


theorem made_texts (n : Nat) : (madeCells (Value.cells (.string ⟨#[]⟩)) (n * 1)).toList = strV (List.replicate n []) := by
  have hc : Value.cells (.string ⟨#[]⟩) = #[.string ⟨#[]⟩] := rfl
  rw [hc, Nat.mul_one]
  apply List.ext_getElem?
  intro j
  by_cases hj : j < n
  · rw [strV_at _ j (by simpa using hj)]
    simp [madeCells, hj, Nat.mod_one]
  · rw [List.getElem?_eq_none (by simp [madeCells]; omega), List.getElem?_eq_none (by rw [strV_len]; simp; omega)]

theorem fill_text (ts : List (List UInt8)) (k : Nat) (hk : k < ts.length) : (strV (ts.take k ++ List.replicate (ts.length - k) [])).set k (.string ⟨(ts.getD k []).toArray⟩) = strV (ts.take (k + 1) ++ List.replicate (ts.length - (k + 1)) []) := by
  have hg : ts.getD k [] = ts[k] := by simp [List.getD, hk]
  have e : (ts.take k ++ List.replicate (ts.length - k) []).set k ts[k] = ts.take (k + 1) ++ List.replicate (ts.length - (k + 1)) [] := by
    rw [List.set_append_right _ _ (by rw [List.length_take]; omega), List.length_take, Nat.min_eq_left (by omega), Nat.sub_self, show ts.length - k = (ts.length - (k + 1)) + 1 by omega, List.replicate_succ, List.set_cons_zero, List.take_succ_eq_append_getElem hk, List.append_assoc]
    rfl
  rw [hg, ← e]
  unfold strV
  rw [List.map_set]


end Go.Proofs.YtglhbcbilepomaaDoor
