/-
  Parts of one proof, one behind the other: Math18, Math8H, Math8P, Math9.
-/
import Derived.Test.YtaioedcaopbgkaaP4
import Derived.Test.YtaioedcaopbgkaaP1

/-! Plain facts of chapter 18: tasks, desks, what is done to them. -/
namespace Go.Proofs.Ytaioedcaopbgkaa
open Go.RowKit

/-! A task: name, needs, state, worker, until, key. A desk: tasks, epoch, now, journal. -/
abbrev Ta := List UInt8 × List Int × Int × Int × Int × Int
abbrev Dk := List Ta × Int × Int × List UInt8
def ta0 : Ta := ([], [], 0, 0, 0, 0)
def dk0 : Dk := ([], 0, 0, [])
def key18 (k : Int) : Bool := inB k 0 2147483646
def need18 (own : Int) (ns : List Int) (i : Nat) : Prop := 0 ≤ ns.getD i 0 ∧ ns.getD i 0 < own ∧ (0 < i → ns.getD (i - 1) 0 < ns.getD i 0)
instance (own : Int) (ns : List Int) (i : Nat) : Decidable (need18 own ns i) := by unfold need18; infer_instance
def needsB (own : Int) (ns : List Int) : Bool := decide (∀ i, i < ns.length → need18 own ns i)
def stateB (t : Ta) : Bool :=
 if t.2.2.1 = 0 then decide (t.2.2.2.1 = 0 ∧ t.2.2.2.2.1 = 0 ∧ t.2.2.2.2.2 = 0)
 else if t.2.2.1 = 1 then inB t.2.2.2.1 0 3 && inB t.2.2.2.2.1 0 1000000 && decide (t.2.2.2.2.2 = 0)
 else if t.2.2.1 = 2 then decide (t.2.2.2.1 = 0 ∧ t.2.2.2.2.1 = 0) && key18 t.2.2.2.2.2
 else false
def taskB (own : Int) (t : Ta) : Bool := needsB own t.2.1 && stateB t
def one18 (ts : List Ta) (i : Nat) : Prop := nameB (ts.getD i ta0).1 = true ∧ taskB (i : Int) (ts.getD i ta0) = true ∧ ∀ k, k < i → (ts.getD k ta0).1 ≠ (ts.getD i ta0).1
instance (ts : List Ta) (i : Nat) : Decidable (one18 ts i) := by unfold one18; infer_instance
def deskB (d : Dk) : Bool := decide (1 ≤ d.1.length ∧ d.1.length ≤ 8) && inB d.2.1 1 1000 && inB d.2.2.1 0 1000000 && decide (d.2.2.2.length ≤ 60000) && decide (∀ i, i < d.1.length → one18 d.1 i)

structure DeskP (d : Dk) : Prop where
 n : 1 ≤ d.1.length ∧ d.1.length ≤ 8
 e : 1 ≤ d.2.1 ∧ d.2.1 ≤ 1000
 t : 0 ≤ d.2.2.1 ∧ d.2.2.1 ≤ 1000000
 j : d.2.2.2.length ≤ 60000
 one : ∀ i, i < d.1.length → one18 d.1 i
theorem deskB_iff {d : Dk} : deskB d = true ↔ DeskP d := by
 unfold deskB inB
 simp only [Bool.and_eq_true, decide_eq_true_eq]
 exact ⟨fun ⟨⟨⟨⟨h1, h2⟩, h3⟩, h4⟩, h5⟩ => ⟨h1, h2, h3, h4, h5⟩, fun h => ⟨⟨⟨⟨h.n, h.e⟩, h.t⟩, h.j⟩, h.one⟩⟩
theorem needsB_no {own : Int} {ns : List Int} {i : Nat} (hi : i < ns.length) (h : ¬ need18 own ns i) : needsB own ns = false := decide_eq_false (fun e => h (e i hi))
theorem needsB_yes {own : Int} {ns : List Int} (h : ∀ i, i < ns.length → need18 own ns i) : needsB own ns = true := decide_eq_true h

/-! Are all needs of a task done? -/
def free18 (ts : List Ta) (t : Ta) : Bool := decide (∀ i, i < t.2.1.length → (ts.getD (t.2.1.getD i 0).toNat ta0).2.2.1 = 2)
theorem free18_no {ts : List Ta} {t : Ta} {i : Nat} (hi : i < t.2.1.length) (h : (ts.getD (t.2.1.getD i 0).toNat ta0).2.2.1 ≠ 2) : free18 ts t = false := decide_eq_false (fun e => h (e i hi))
theorem free18_yes {ts : List Ta} {t : Ta} (h : ∀ i, i < t.2.1.length → (ts.getD (t.2.1.getD i 0).toNat ta0).2.2.1 = 2) : free18 ts t = true := decide_eq_true h

/-! Lent: the first that can be. -/
def can18 (d : Dk) (i : Nat) : Prop := (d.1.getD i ta0).2.2.1 ≠ 2 ∧ free18 d.1 (d.1.getD i ta0) = true ∧ ¬ ((d.1.getD i ta0).2.2.1 = 1 ∧ d.2.2.1 < (d.1.getD i ta0).2.2.2.2.1)
instance (d : Dk) (i : Nat) : Decidable (can18 d i) := by unfold can18; infer_instance
def lendGo (d : Dk) : Nat → Nat → Option Nat
 | 0, _ => none
 | k + 1, i => if can18 d i then some i else lendGo d k (i + 1)
def lendAt (d : Dk) : Option Nat := lendGo d d.1.length 0
def leased18 (d : Dk) (worker : Int) (t : Ta) : Ta := (t.1, t.2.1, 1, worker, (if d.2.2.1 + 10 ≤ 1000000 then d.2.2.1 + 10 else 1000000), t.2.2.2.2.2)
def lend18 (d : Dk) (worker : Int) : Dk × Int :=
 if inB worker 0 3 = true then
  match lendAt d with
  | some i => ((d.1.set i (leased18 d worker (d.1.getD i ta0)), d.2), (i : Int))
  | none => (d, -1)
 else (d, -1)
def lentV (d : Dk) (worker : Int) : Dk × Int := if deskB d = true then lend18 d worker else (dk0, -1)
theorem lendGo_some {d : Dk} : ∀ {k i j : Nat}, lendGo d k i = some j → i ≤ j ∧ j < i + k ∧ can18 d j ∧ ∀ q, i ≤ q → q < j → ¬ can18 d q
 | 0, _, _, h => by cases h
 | k + 1, i, j, h => by
  unfold lendGo at h
  split at h
  ·
   rename_i hc
   injection h with h
   subst h
   exact ⟨Nat.le_refl _, by omega, hc, fun q h1 h2 => by omega⟩
  ·
   rename_i hc
   obtain ⟨h1, h2, h3, h4⟩ := lendGo_some h
   refine ⟨by omega, by omega, h3, fun q hq hqj => ?_⟩
   rcases Nat.lt_or_ge i q with g | g
   ·
    exact h4 q (by omega) hqj
   ·
    obtain rfl : q = i := by omega
    exact hc
theorem lendGo_none {d : Dk} : ∀ {k i : Nat}, lendGo d k i = none → ∀ q, i ≤ q → q < i + k → ¬ can18 d q
 | 0, _, _, q, h1, h2 => by omega
 | k + 1, i, h, q, h1, h2 => by
  unfold lendGo at h
  split at h
  ·
   cases h
  ·
   rename_i hc
   rcases Nat.lt_or_ge i q with g | g
   ·
    exact lendGo_none h q (by omega) (by omega)
   ·
    obtain rfl : q = i := by omega
    exact hc
theorem lendGo_to {d : Dk} : ∀ {k i j : Nat}, i ≤ j → j < i + k → can18 d j → (∀ q, i ≤ q → q < j → ¬ can18 d q) → lendGo d k i = some j
 | 0, _, _, h1, h2, _, _ => by omega
 | k + 1, i, j, h1, h2, h3, h4 => by
  unfold lendGo
  rcases Nat.lt_or_ge i j with g | g
  ·
   rw [if_neg (h4 i (Nat.le_refl _) g)]
   exact lendGo_to (by omega) (by omega) h3 (fun q a b => h4 q (by omega) b)
  ·
   obtain rfl : j = i := by omega
   rw [if_pos h3]
theorem lendGo_to_none {d : Dk} : ∀ {k i : Nat}, (∀ q, i ≤ q → q < i + k → ¬ can18 d q) → lendGo d k i = none
 | 0, _, _ => rfl
 | k + 1, i, h => by
  unfold lendGo
  rw [if_neg (h i (Nat.le_refl _) (by omega))]
  exact lendGo_to_none (fun q a b => h q (by omega) (by omega))

/-! Ticked, AllDone. -/
def tickedV (d : Dk) (n : Int) : Dk × Bool := if deskB d = true then (if inB n 0 (1000000 - d.2.2.1) = true then ((d.1, d.2.1, d.2.2.1 + n, d.2.2.2), true) else (d, false)) else (dk0, false)
def doneD (d : Dk) : Bool := decide (∀ i, i < d.1.length → (d.1.getD i ta0).2.2.1 = 2)
def allDoneV (d : Dk) : Bool := deskB d && doneD d

/-! A right desk stays right. -/
theorem getD_set18 (ts : List Ta) (i k : Nat) (t : Ta) (hi : i < ts.length) : (ts.set i t).getD k ta0 = if k = i then t else ts.getD k ta0 := by
 simp only [List.getD_eq_getElem?_getD, List.getElem?_set]
 by_cases h : i = k
 ·
  subst h; simp [hi]
 ·
  rw [if_neg h, if_neg (fun e => h e.symm)]
theorem desk_set {d : Dk} (h : DeskP d) {i : Nat} (hi : i < d.1.length) {t : Ta} (hn : t.1 = (d.1.getD i ta0).1) (hne : t.2.1 = (d.1.getD i ta0).2.1) (hs : stateB t = true) {e n : Int} {j : List UInt8} (he : 1 ≤ e ∧ e ≤ 1000) (ht : 0 ≤ n ∧ n ≤ 1000000) (hj : j.length ≤ 60000) : DeskP (d.1.set i t, e, n, j) := by
 refine ⟨by simp only [List.length_set]; exact h.n, he, ht, hj, fun k hk => ?_⟩
 simp only [List.length_set] at hk
 obtain ⟨h1, h2, h3⟩ := h.one k hk
 have hnm : ∀ q, ((d.1.set i t).getD q ta0).1 = (d.1.getD q ta0).1 := fun q => by
  rw [getD_set18 _ _ _ _ hi]
  split
  ·
   rename_i e; rw [e]; exact hn
  ·
   rfl
 refine ⟨by rw [hnm]; exact h1, ?_, fun q hq => by rw [hnm, hnm]; exact h3 q hq⟩
 rw [getD_set18 _ _ _ _ hi]
 split
 ·
  rename_i e
  subst e
  unfold taskB at h2 ⊢
  rw [Bool.and_eq_true] at h2 ⊢
  rw [hne]
  exact ⟨h2.1, hs⟩
 ·
  exact h2
theorem lent_ok {d : Dk} {worker : Int} (h : deskB d = true) : deskB (lentV d worker).1 = true := by
 unfold lentV
 rw [if_pos h]
 unfold lend18
 split
 ·
  rename_i hw
  have hp := deskB_iff.1 h
  split
  ·
   rename_i i hi
   obtain ⟨_, h2, h3, _⟩ := lendGo_some hi
   rw [Nat.zero_add] at h2
   obtain ⟨ho, hk, _⟩ := hp.one i h2
   unfold taskB at hk
   rw [Bool.and_eq_true] at hk
   have hst := hk.2
   suffices hs : stateB (leased18 d worker (d.1.getD i ta0)) = true by
    exact deskB_iff.2 (desk_set (e := d.2.1) (n := d.2.2.1) (j := d.2.2.2) hp h2 (t := leased18 d worker (d.1.getD i ta0)) rfl rfl hs hp.e hp.t hp.j)
   have hnow := hp.t
   unfold stateB leased18 at *
   simp only at hst ⊢
   rw [if_neg (by omega), if_pos trivial]
   have hkey : (d.1.getD i ta0).2.2.2.2.2 = 0 := by
    unfold can18 at h3
    split at hst
    ·
     exact (of_decide_eq_true hst).2.2
    ·
     split at hst
     ·
      rw [Bool.and_eq_true] at hst; exact of_decide_eq_true hst.2
     ·
      split at hst
      ·
       rename_i e; exact absurd e h3.1
      ·
       cases hst
   rw [Bool.and_eq_true, Bool.and_eq_true]
   refine ⟨⟨hw, ?_⟩, decide_eq_true hkey⟩
   unfold inB
   rw [decide_eq_true_eq]
   split <;> omega
  ·
   exact h
 ·
  exact h
end Go.Proofs.Ytaioedcaopbgkaa

/-! Plain facts: a heap of numbers in a list: one goes up, one goes down, the least is first. -/
namespace Go.Proofs.Ytaioedcaopbgkaa
open Go.RowKit

/-- The first n are a heap. -/
def HpN (l : List Nat) (n : Nat) : Prop := ∀ k, 0 < k → k < n → l.getD ((k - 1) / 2) 0 ≤ l.getD k 0
def sw (l : List Nat) (i j : Nat) : List Nat := (l.set i (l.getD j 0)).set j (l.getD i 0)
/-- All but the one at j stand right. -/
def HpUp (l : List Nat) (j : Nat) : Prop := (∀ k, 0 < k → k < l.length → k ≠ j → l.getD ((k - 1) / 2) 0 ≤ l.getD k 0) ∧ (∀ k, 0 < k → k < l.length → (k - 1) / 2 = j → 0 < j → l.getD ((j - 1) / 2) 0 ≤ l.getD k 0)
/-- All but what is below i stand right. -/
def HpDn (l : List Nat) (i n : Nat) : Prop := (∀ k, 0 < k → k < n → (k - 1) / 2 ≠ i → l.getD ((k - 1) / 2) 0 ≤ l.getD k 0) ∧ (∀ k, 0 < k → k < n → (k - 1) / 2 = i → 0 < i → l.getD ((i - 1) / 2) 0 ≤ l.getD k 0)
end Go.Proofs.Ytaioedcaopbgkaa

/-! Plain facts of chapter 8: packages by their places: who waits for how many, who is next, what is reached. -/
namespace Go.Proofs.Ytaioedcaopbgkaa
open Go.RowKit

def nmAt (ps : List Pk) (i : Nat) : List UInt8 := (ps.getD i pk0).1
def imsAt (ps : List Pk) (i : Nat) : List (List UInt8) := (ps.getD i pk0).2.1
def nmsAt (ps : List Pk) (o : List Nat) : List (List UInt8) := o.map (nmAt ps)
theorem getD_mem_pk {ps : List Pk} {i : Nat} (hi : i < ps.length) : ps.getD i pk0 ∈ ps := by simp [List.getD, hi]
theorem nmAt_mem {ps : List Pk} {i : Nat} (hi : i < ps.length) : nmAt ps i ∈ names8 ps := List.mem_map.2 ⟨_, getD_mem_pk hi, rfl⟩
theorem nmAt_el {ps : List Pk} {i : Nat} (hi : i < ps.length) : (names8 ps)[i]'(by simpa [names8] using hi) = nmAt ps i := by simp [names8, nmAt, List.getD, hi]
theorem nmAt_inj {ps : List Pk} (hn : (names8 ps).Nodup) {i j : Nat} (hi : i < ps.length) (hj : j < ps.length) (e : nmAt ps i = nmAt ps j) : i = j := by
 rw [← nmAt_el hi, ← nmAt_el hj] at e
 exact (List.getElem_inj hn).1 e
theorem mem_nms {ps : List Pk} {o : List Nat} {x : List UInt8} : x ∈ nmsAt ps o ↔ ∃ i ∈ o, nmAt ps i = x := List.mem_map
theorem nm_in {ps : List Pk} (hn : (names8 ps).Nodup) {o : List Nat} (ho : ∀ x ∈ o, x < ps.length) {i : Nat} (hi : i < ps.length) : nmAt ps i ∈ nmsAt ps o ↔ i ∈ o := by
 rw [mem_nms]
 constructor
 ·
  rintro ⟨j, hj, e⟩
  have := nmAt_inj hn (ho j hj) hi e
  subst this; exact hj
 ·
  exact fun h => ⟨i, h, rfl⟩
/-- Where one of a name is. -/
theorem at8Go_is (s : List UInt8) : ∀ (ps : List Pk) (k : Nat), at8Go s ps k = -1 ∨ ∃ i, i < ps.length ∧ at8Go s ps k = ((k + i : Nat) : Int) ∧ nmAt ps i = s
 | [], k => Or.inl rfl
 | p :: r, k => by
  rw [at8Go]
  by_cases h : p.1 = s
  ·
   rw [if_pos h]; exact Or.inr ⟨0, by simp, by simp, by simpa [nmAt] using h⟩
  ·
   rw [if_neg h]
   rcases at8Go_is s r (k + 1) with e | ⟨i, hi, e, hn⟩
   ·
    exact Or.inl e
   ·
    exact Or.inr ⟨i + 1, by simpa using hi, by rw [e]; congr 1; omega, by simpa [nmAt] using hn⟩
theorem at8_is (ps : List Pk) (s : List UInt8) : (at8 ps s = -1 ∧ ¬ s ∈ names8 ps) ∨ ∃ i, i < ps.length ∧ at8 ps s = (i : Int) ∧ nmAt ps i = s ∧ s ∈ names8 ps := by
 rcases at8Go_is s ps 0 with e | ⟨i, hi, e, hn⟩
 ·
  refine Or.inl ⟨e, fun h => ?_⟩
  have := (at8_mem ps s).2 h
  unfold at8 at this
  omega
 ·
  refine Or.inr ⟨i, hi, by unfold at8; rw [e]; congr 1; omega, hn, ?_⟩
  rw [← hn]; exact nmAt_mem hi

/-- The places of those that are there. -/
def plc (ps : List Pk) (ms : List (List UInt8)) : List Nat := ms.filterMap (fun m => if 0 ≤ at8 ps m then some (at8 ps m).toNat else none)
theorem plc_mem {ps : List Pk} (hn : (names8 ps).Nodup) {ms : List (List UInt8)} {x : Nat} : x ∈ plc ps ms ↔ x < ps.length ∧ nmAt ps x ∈ ms := by
 unfold plc
 rw [List.mem_filterMap]
 constructor
 ·
  rintro ⟨m, hm, he⟩
  rcases at8_is ps m with ⟨e, _⟩ | ⟨i, hi, e, hnm, _⟩
  ·
   rw [e] at he; simp at he
  ·
   rw [e] at he
   simp at he
   subst he
   exact ⟨hi, by rw [hnm]; exact hm⟩
 ·
  rintro ⟨hx, hm⟩
  refine ⟨nmAt ps x, hm, ?_⟩
  rcases at8_is ps (nmAt ps x) with ⟨_, e⟩ | ⟨i, hi, e, hnm, _⟩
  ·
   exact absurd (nmAt_mem hx) e
  ·
   rw [e]
   have := nmAt_inj hn hi hx hnm
   subst this
   simp

/-- For how many one waits. -/
def wt8 (ps : List Pk) (out : List (List UInt8)) (i : Nat) : Nat := ((imsAt ps i).filter (fun m => decide (m ∈ names8 ps ∧ ¬ m ∈ out))).length
theorem wt8_zero {ps : List Pk} {out : List (List UInt8)} {i : Nat} : wt8 ps out i = 0 ↔ ∀ m ∈ imsAt ps i, m ∈ names8 ps → m ∈ out := by
 unfold wt8
 rw [List.length_eq_zero_iff, List.filter_eq_nil_iff]
 constructor
 ·
  intro h m hm hn
  have := h m hm
  rw [decide_eq_true_eq] at this
  exact Decidable.byContradiction fun e => this ⟨hn, e⟩
 ·
  intro h m hm
  rw [decide_eq_true_eq]
  rintro ⟨h1, h2⟩
  exact h2 (h m hm h1)
theorem wt8_le (ps : List Pk) (out : List (List UInt8)) (i : Nat) : wt8 ps out i ≤ (imsAt ps i).length := List.length_filter_le _ _
theorem free_iff {ps : List Pk} {out : List (List UInt8)} {i : Nat} : free8 ps out (ps.getD i pk0) ↔ ¬ nmAt ps i ∈ out ∧ wt8 ps out i = 0 := by
 unfold free8
 rw [wt8_zero]
 rfl
theorem filter_less {N out : List (List UInt8)} {x : List UInt8} (hx : x ∈ N) (ho : ¬ x ∈ out) : ∀ L : List (List UInt8), L.Nodup →
 (L.filter (fun m => decide (m ∈ N ∧ ¬ m ∈ out))).length = (L.filter (fun m => decide (m ∈ N ∧ ¬ m ∈ out ++ [x]))).length + if x ∈ L then 1 else 0
 | [], _ => by simp
 | a :: r, h => by
  have hr := List.nodup_cons.1 h
  have ih := filter_less hx ho r hr.2
  rw [List.filter_cons, List.filter_cons]
  by_cases hax : a = x
  ·
   subst hax
   rw [if_neg hr.1] at ih
   rw [if_pos (by simp [hx, ho]), if_neg (by simp), if_pos (by simp)]
   simp only [List.length_cons]
   omega
  ·
   by_cases hc : a ∈ N ∧ ¬ a ∈ out
   ·
    rw [if_pos (by simpa using hc), if_pos (by simpa [hax] using hc)]
    simp only [List.length_cons, List.mem_cons]
    by_cases hxr : x ∈ r
    ·
     rw [if_pos hxr] at ih; rw [if_pos (Or.inr hxr)]; omega
    ·
     rw [if_neg hxr] at ih; rw [if_neg (by rintro (e | e); exact hax e.symm; exact hxr e)]; omega
   ·
    rw [if_neg (by simpa using hc), if_neg (by intro e; apply hc; simp only [decide_eq_true_eq, List.mem_append, List.mem_singleton, not_or] at e; exact ⟨e.1, e.2.1⟩)]
    simp only [List.mem_cons]
    by_cases hxr : x ∈ r
    ·
     rw [if_pos hxr] at ih; rw [if_pos (Or.inr hxr)]; omega
    ·
     rw [if_neg hxr] at ih; rw [if_neg (by rintro (e | e); exact hax e.symm; exact hxr e)]; omega
theorem wt8_step {ps : List Pk} {out : List (List UInt8)} {x : List UInt8} (hx : x ∈ names8 ps) (ho : ¬ x ∈ out) {i : Nat} (hnd : (imsAt ps i).Nodup) : wt8 ps out i = wt8 ps (out ++ [x]) i + if x ∈ imsAt ps i then 1 else 0 := filter_less hx ho _ hnd
theorem ims_nodup {ps : List Pk} (h : projB ps = true) {i : Nat} (hi : i < ps.length) : (imsAt ps i).Nodup ∧ (imsAt ps i).length ≤ 6 := by
 have h1 := (projB_parts h).2.2 _ (getD_mem_pk hi)
 unfold pkgB at h1
 rw [Bool.and_eq_true, Bool.and_eq_true, Bool.and_eq_true] at h1
 have h2 := h1.1.2.1
 unfold importsB at h2
 rw [Bool.and_eq_true, Bool.and_eq_true, decide_eq_true_eq] at h2
 exact ⟨(rise_of h2.2.2).nodup, of_decide_eq_true h2.2.1⟩

/-- What is held ahead of each that is taken: who is in order, how many each waits for, who is up next. -/
structure Ka8 (ps : List Pk) (out ws hl : List Nat) : Prop where
 lt : ∀ x ∈ out, x < ps.length
 or : Or8 ps (nmsAt ps out)
 more : ∃ n, order8 ps = orderGo ps n (nmsAt ps out) ∧ ps.length < n + out.length
 wl : ws.length = ps.length
 w : ∀ i, i < ps.length → ws.getD i 0 = wt8 ps (nmsAt ps out) i
 h : ∀ x, x ∈ hl ↔ x < ps.length ∧ free8 ps (nmsAt ps out) (ps.getD x pk0)
 nd : hl.Nodup
theorem nodup_sub_len {l : List Nat} (h : l.Nodup) {n : Nat} (hl : ∀ x ∈ l, x < n) : l.length ≤ n := by
 have := h.length_le_of_subset (l₂ := List.range n) (fun x hx => List.mem_range.2 (hl x hx))
 simpa using this
theorem Ka8.hlen {ps : List Pk} {out ws hl : List Nat} (k : Ka8 ps out ws hl) : hl.length ≤ ps.length := nodup_sub_len k.nd (fun x hx => ((k.h x).1 hx).1)
theorem Ka8.done {ps : List Pk} {out ws : List Nat} (k : Ka8 ps out ws []) : nmsAt ps out = order8 ps := by
 obtain ⟨n, h1, _⟩ := k.more
 rw [h1, orderGo_none]
 unfold next8
 rw [List.find?_eq_none]
 intro p hp
 rw [decide_eq_true_eq]
 intro hf
 obtain ⟨i, hi, rfl⟩ := List.mem_iff_getElem.1 hp
 have e : ps.getD i pk0 = ps[i] := by simp [List.getD, hi]
 have := (k.h i).2 ⟨hi, by rw [e]; exact hf⟩
 simp at this
/-- The least that is up next is the next by name. -/
theorem Ka8.next {ps : List Pk} {out ws hl : List Nat} (k : Ka8 ps out ws hl) {f : Nat} (hf : f ∈ hl) (hmin : ∀ x ∈ hl, f ≤ x) : next8 ps (nmsAt ps out) = some (ps.getD f pk0) := by
 obtain ⟨hfl, hff⟩ := (k.h f).1 hf
 unfold next8
 rw [List.find?_eq_some_iff_getElem]
 refine ⟨decide_eq_true hff, f, hfl, by simp [List.getD, hfl], fun j hj => ?_⟩
 have hjl : j < ps.length := by omega
 have e : ps.getD j pk0 = ps[j] := by simp [List.getD, hjl]
 rw [← e]
 simp only [Bool.not_eq_true', decide_eq_false_iff_not]
 intro h
 have := hmin j ((k.h j).2 ⟨hjl, h⟩)
 omega
/-- At the start, as far as k. -/
structure Ks8 (ps : List Pk) (k : Nat) (ws hl : List Nat) : Prop where
 wl : ws.length = ps.length
 w : ∀ i, i < k → ws.getD i 0 = wt8 ps [] i
 h : ∀ x, x ∈ hl ↔ x < k ∧ free8 ps [] (ps.getD x pk0)
 nd : hl.Nodup
theorem Ks8.zero (ps : List Pk) {ws : List Nat} (h : ws.length = ps.length) : Ks8 ps 0 ws [] := ⟨h, fun i hi => by omega, fun x => by simp, List.nodup_nil⟩
theorem getD_set {l : List Nat} {i : Nat} (hi : i < l.length) (v k : Nat) : (l.set i v).getD k 0 = if k = i then v else l.getD k 0 := by
 rw [List.getD_eq_getElem?_getD, List.getElem?_set]
 by_cases h : i = k
 ·
  subst h; rw [if_pos rfl, if_pos hi, if_pos rfl]; rfl
 ·
  rw [if_neg h, if_neg (fun e => h e.symm), List.getD_eq_getElem?_getD]
theorem Ks8.push {ps : List Pk} {k : Nat} {ws hl hl2 : List Nat} (s : Ks8 ps k ws hl) (hk : k < ps.length) (h0 : wt8 ps [] k = 0) (hp : hl2.Perm (k :: hl)) : Ks8 ps (k + 1) (ws.set k (wt8 ps [] k)) hl2 := by
 refine ⟨by rw [List.length_set]; exact s.wl, fun i hi => ?_, fun x => ?_, ?_⟩
 ·
  rw [getD_set (by rw [s.wl]; exact hk)]
  by_cases e : i = k
  ·
   subst e; rw [if_pos rfl]
  ·
   rw [if_neg e]; exact s.w i (by omega)
 ·
  rw [hp.mem_iff, List.mem_cons, s.h]
  constructor
  ·
   rintro (e | ⟨e1, e2⟩)
   ·
    subst e; exact ⟨by omega, free_iff.2 ⟨by simp, h0⟩⟩
   ·
    exact ⟨by omega, e2⟩
  ·
   rintro ⟨e1, e2⟩
   by_cases e : x = k
   ·
    exact Or.inl e
   ·
    exact Or.inr ⟨by omega, e2⟩
 ·
  refine hp.symm.nodup (List.nodup_cons.2 ⟨fun e => ?_, s.nd⟩)
  have := ((s.h k).1 e).1
  omega
theorem Ks8.start {ps : List Pk} {ws hl : List Nat} (s : Ks8 ps ps.length ws hl) : Ka8 ps [] ws hl :=
 ⟨by simp, or8_nil ps, ⟨ps.length + 1, rfl, by simp⟩, s.wl, s.w, s.h, s.nd⟩

/-- One has been taken; those as far as k have been told. -/
structure Kb8 (ps : List Pk) (out : List Nat) (f k : Nat) (ws hl : List Nat) : Prop where
 wl : ws.length = ps.length
 w1 : ∀ i, i < k → ws.getD i 0 = wt8 ps (nmsAt ps out ++ [nmAt ps f]) i
 w2 : ∀ i, k ≤ i → i < ps.length → ws.getD i 0 = wt8 ps (nmsAt ps out) i
 h : ∀ x, x ∈ hl ↔ x < ps.length ∧ x ≠ f ∧ (free8 ps (nmsAt ps out) (ps.getD x pk0) ∨ (x < k ∧ free8 ps (nmsAt ps out ++ [nmAt ps f]) (ps.getD x pk0)))
 nd : hl.Nodup
/-- What is told of the one that was taken. -/
structure Kf8 (ps : List Pk) (out : List Nat) (f : Nat) : Prop where
 pj : projB ps = true
 lt : ∀ x ∈ out, x < ps.length
 or : Or8 ps (nmsAt ps out)
 more : ∃ n, order8 ps = orderGo ps n (nmsAt ps out) ∧ ps.length < n + out.length
 fl : f < ps.length
 nx : next8 ps (nmsAt ps out) = some (ps.getD f pk0)
theorem Ka8.take {ps : List Pk} {out ws hl hl2 : List Nat} (hpj : projB ps = true) (k : Ka8 ps out ws hl) {f : Nat} (hp : (f :: hl2).Perm hl) (hmin : ∀ x ∈ hl, f ≤ x) : Kf8 ps out f ∧ Kb8 ps out f 0 ws hl2 := by
 have hf : f ∈ hl := hp.mem_iff.1 List.mem_cons_self
 have hnd : (f :: hl2).Nodup := hp.symm.nodup k.nd
 refine ⟨⟨hpj, k.lt, k.or, k.more, ((k.h f).1 hf).1, k.next hf hmin⟩, ⟨k.wl, fun i hi => by omega, fun i _ hi => k.w i hi, fun x => ?_, (List.nodup_cons.1 hnd).2⟩⟩
 constructor
 ·
  intro hx
  obtain ⟨h1, h2⟩ := (k.h x).1 (hp.mem_iff.1 (List.mem_cons_of_mem _ hx))
  exact ⟨h1, fun e => (List.nodup_cons.1 hnd).1 (by rw [← e]; exact hx), Or.inl h2⟩
 ·
  rintro ⟨h1, h2, h3 | ⟨h3, _⟩⟩
  ·
   rcases List.mem_cons.1 (hp.mem_iff.2 ((k.h x).2 ⟨h1, h3⟩)) with e | e
   ·
    exact absurd e h2
   ·
    exact e
  ·
   omega
theorem Kf8.free {ps : List Pk} {out : List Nat} {f : Nat} (g : Kf8 ps out f) : ¬ nmAt ps f ∈ nmsAt ps out ∧ nmAt ps f ∈ names8 ps ∧ ¬ nmAt ps f ∈ imsAt ps f := by
 obtain ⟨_, h1, h2⟩ := next8_some g.nx
 exact ⟨h1, nmAt_mem g.fl, fun e => h1 (h2 _ e (nmAt_mem g.fl))⟩
/-- One that waits for it is not in order, and was not up next. -/
theorem Kf8.waits {ps : List Pk} {out : List Nat} {f i : Nat} (g : Kf8 ps out f) (hi : i < ps.length) (hm : nmAt ps f ∈ imsAt ps i) : ¬ nmAt ps i ∈ nmsAt ps out ∧ i ≠ f ∧ 0 < wt8 ps (nmsAt ps out) i ∧ wt8 ps (nmsAt ps out) i = wt8 ps (nmsAt ps out ++ [nmAt ps f]) i + 1 := by
 obtain ⟨h1, h2, h3⟩ := g.free
 have hs := wt8_step (i := i) h2 h1 (ims_nodup g.pj hi).1
 rw [if_pos hm] at hs
 refine ⟨fun e => ?_, fun e => h3 (by rw [← e]; rw [← e] at hm; exact hm), by omega, hs⟩
 have := g.or.need _ (getD_mem_pk hi) e _ hm h2
 exact h1 ((List.takeWhile_sublist _).subset this)
theorem Kf8.free_more {ps : List Pk} {out : List Nat} {f x : Nat} (g : Kf8 ps out f) (hx : x < ps.length) (hne : x ≠ f) (h : free8 ps (nmsAt ps out) (ps.getD x pk0)) : free8 ps (nmsAt ps out ++ [nmAt ps f]) (ps.getD x pk0) := by
 refine ⟨fun e => ?_, fun m hm hn => List.mem_append_left _ (h.2 m hm hn)⟩
 rw [List.mem_append, List.mem_singleton] at e
 rcases e with e | e
 ·
  exact h.1 e
 ·
  exact hne (nmAt_inj (projB_parts g.pj).1.nodup hx g.fl e)
theorem Kb8.skip {ps : List Pk} {out : List Nat} {f k : Nat} {ws hl : List Nat} (g : Kf8 ps out f) (s : Kb8 ps out f k ws hl) (hk : k < ps.length) (hm : ¬ nmAt ps f ∈ imsAt ps k) : Kb8 ps out f (k + 1) ws hl := by
 obtain ⟨h1, h2, h3⟩ := g.free
 have hs := wt8_step (i := k) h2 h1 (ims_nodup g.pj hk).1
 rw [if_neg hm] at hs
 refine ⟨s.wl, fun i hi => ?_, fun i hi hil => s.w2 i (by omega) hil, fun x => ?_, s.nd⟩
 ·
  by_cases e : i = k
  ·
   subst e; rw [s.w2 i (by omega) hk]; omega
  ·
   exact s.w1 i (by omega)
 ·
  rw [s.h]
  constructor
  ·
   rintro ⟨e1, e2, e3 | ⟨e3, e4⟩⟩
   ·
    exact ⟨e1, e2, Or.inl e3⟩
   ·
    exact ⟨e1, e2, Or.inr ⟨by omega, e4⟩⟩
  ·
   rintro ⟨e1, e2, e3 | ⟨e3, e4⟩⟩
   ·
    exact ⟨e1, e2, Or.inl e3⟩
   ·
    refine ⟨e1, e2, ?_⟩
    by_cases e : x = k
    ·
     subst e
     refine Or.inl (free_iff.2 ⟨fun e => (free_iff.1 e4).1 (List.mem_append_left _ e), ?_⟩)
     have := (free_iff.1 e4).2
     omega
    ·
     exact Or.inr ⟨by omega, e4⟩
theorem Kb8.less {ps : List Pk} {out : List Nat} {f k : Nat} {ws hl : List Nat} (g : Kf8 ps out f) (s : Kb8 ps out f k ws hl) (hk : k < ps.length) (hm : nmAt ps f ∈ imsAt ps k) : 0 < ws.getD k 0 ∧ ws.getD k 0 ≤ 6 ∧ ws.getD k 0 - 1 = wt8 ps (nmsAt ps out ++ [nmAt ps f]) k := by
 obtain ⟨_, _, h3, h4⟩ := g.waits hk hm
 have := wt8_le ps (nmsAt ps out) k
 have := (ims_nodup g.pj hk).2
 rw [s.w2 k (Nat.le_refl _) hk]
 omega
theorem Kb8.push {ps : List Pk} {out : List Nat} {f k : Nat} {ws hl hl2 : List Nat} (g : Kf8 ps out f) (s : Kb8 ps out f k ws hl) (hk : k < ps.length) (hm : nmAt ps f ∈ imsAt ps k) (h0 : ws.getD k 0 - 1 = 0) (hp : hl2.Perm (k :: hl)) : Kb8 ps out f (k + 1) (ws.set k (ws.getD k 0 - 1)) hl2 := by
 obtain ⟨h1, h2, h3, h4⟩ := g.waits hk hm
 have h5 := s.less g hk hm
 refine ⟨by rw [List.length_set]; exact s.wl, fun i hi => ?_, fun i hi hil => ?_, fun x => ?_, ?_⟩
 ·
  rw [getD_set (by rw [s.wl]; exact hk)]
  by_cases e : i = k
  ·
   subst e; rw [if_pos rfl]; exact h5.2.2
  ·
   rw [if_neg e]; exact s.w1 i (by omega)
 ·
  rw [getD_set (by rw [s.wl]; exact hk), if_neg (by omega)]; exact s.w2 i (by omega) hil
 ·
  rw [hp.mem_iff, List.mem_cons, s.h]
  constructor
  ·
   rintro (e | ⟨e1, e2, e3 | ⟨e3, e4⟩⟩)
   ·
    subst e
    refine ⟨hk, h2, Or.inr ⟨by omega, free_iff.2 ⟨fun e => ?_, by omega⟩⟩⟩
    rw [List.mem_append, List.mem_singleton] at e
    rcases e with e | e
    ·
     exact h1 e
    ·
     exact h2 (nmAt_inj (projB_parts g.pj).1.nodup hk g.fl e)
   ·
    exact ⟨e1, e2, Or.inl e3⟩
   ·
    exact ⟨e1, e2, Or.inr ⟨by omega, e4⟩⟩
  ·
   rintro ⟨e1, e2, e3 | ⟨e3, e4⟩⟩
   ·
    exact Or.inr ⟨e1, e2, Or.inl e3⟩
   ·
    by_cases e : x = k
    ·
     exact Or.inl e
    ·
     exact Or.inr ⟨e1, e2, Or.inr ⟨by omega, e4⟩⟩
 ·
  refine hp.symm.nodup (List.nodup_cons.2 ⟨fun e => ?_, s.nd⟩)
  obtain ⟨_, _, e3 | ⟨e3, _⟩⟩ := (s.h k).1 e
  ·
   have := (free_iff.1 e3).2; omega
  ·
   omega
theorem Kb8.hlen {ps : List Pk} {out : List Nat} {f k : Nat} {ws hl : List Nat} (s : Kb8 ps out f k ws hl) : hl.length ≤ ps.length := nodup_sub_len s.nd (fun x hx => ((s.h x).1 hx).1)
theorem Ks8.hlen {ps : List Pk} {k : Nat} {ws hl : List Nat} (s : Ks8 ps k ws hl) (hk : k ≤ ps.length) : hl.length ≤ ps.length := nodup_sub_len s.nd (fun x hx => by have := ((s.h x).1 hx).1; omega)
theorem nms_snoc (ps : List Pk) (out : List Nat) (f : Nat) : nmsAt ps (out ++ [f]) = nmsAt ps out ++ [nmAt ps f] := by simp [nmsAt]
theorem Kb8.out {ps : List Pk} {out : List Nat} {f : Nat} {ws hl : List Nat} (g : Kf8 ps out f) (s : Kb8 ps out f ps.length ws hl) : Ka8 ps (out ++ [f]) ws hl := by
 obtain ⟨n, hn, hl2⟩ := g.more
 have hor := g.or.step (projB_parts g.pj).1.nodup g.nx
 refine ⟨fun x hx => ?_, by rw [nms_snoc]; exact hor, ?_, s.wl, fun i hi => by rw [nms_snoc]; exact s.w1 i hi, fun x => ?_, s.nd⟩
 ·
  rw [List.mem_append, List.mem_singleton] at hx
  rcases hx with hx | hx
  ·
   exact g.lt x hx
  ·
   subst hx; exact g.fl
 ·
  have hle : out.length ≤ ps.length := by have := g.or.len; simpa [nmsAt] using this
  obtain ⟨m, rfl⟩ : ∃ m, n = m + 1 := ⟨n - 1, by
   have := hor.len
   simp [nmsAt] at this
   omega⟩
  exact ⟨m, by rw [nms_snoc, hn, orderGo_some m g.nx]; rfl, by rw [List.length_append, List.length_singleton]; omega⟩
 ·
  rw [nms_snoc, s.h]
  constructor
  ·
   rintro ⟨e1, e2, e3 | ⟨_, e4⟩⟩
   ·
    exact ⟨e1, g.free_more e1 e2 e3⟩
   ·
    exact ⟨e1, e4⟩
  ·
   rintro ⟨e1, e2⟩
   refine ⟨e1, fun e => ?_, Or.inr ⟨e1, e2⟩⟩
   subst e
   exact (free_iff.1 e2).1 (by simp)

/-! What is reached. -/
theorem in8_least {C : List UInt8 → Prop} {ps : List Pk} {o : List (List UInt8)} {m : List UInt8} (ho : ∀ x ∈ o, C x) (hm : m ∈ names8 ps → C m) : ∀ x ∈ in8 ps o m, C x := fun x hx => by
 unfold in8 at hx
 split at hx
 ·
  rename_i h
  rcases put8_mem.1 hx with rfl | hx
  ·
   exact hm h
  ·
   exact ho x hx
 ·
  exact ho x hx
theorem inner8_least {C : List UInt8 → Prop} {ps : List Pk} : ∀ (ms o : List (List UInt8)), (∀ x ∈ o, C x) → (∀ m ∈ ms, m ∈ names8 ps → C m) → ∀ x ∈ inner8 ps o ms, C x
 | [], _, ho, _ => ho
 | m :: r, o, ho, hm => inner8_least r (in8 ps o m) (in8_least ho (hm m List.mem_cons_self)) (fun y hy => hm y (List.mem_cons_of_mem _ hy))
theorem pass8_least {C : List UInt8 → Prop} {ps : List Pk} (hC : ∀ p ∈ ps, C p.1 → ∀ m ∈ p.2.1, m ∈ names8 ps → C m) {o : List (List UInt8)} (ho : ∀ x ∈ o, C x) {p : Pk} (hp : p ∈ ps) : ∀ x ∈ pass8 ps o p, C x := by
 unfold pass8
 split
 ·
  rename_i h
  exact inner8_least _ _ ho (hC p hp (ho _ h))
 ·
  exact ho
theorem step8_least {C : List UInt8 → Prop} {ps : List Pk} (hC : ∀ p ∈ ps, C p.1 → ∀ m ∈ p.2.1, m ∈ names8 ps → C m) : ∀ (qs : List Pk) (o : List (List UInt8)), (∀ q ∈ qs, q ∈ ps) → (∀ x ∈ o, C x) → ∀ x ∈ step8 ps qs o, C x
 | [], _, _, ho => ho
 | q :: r, o, hq, ho => step8_least hC r (pass8 ps o q) (fun y hy => hq y (List.mem_cons_of_mem _ hy)) (pass8_least hC ho (hq q List.mem_cons_self))
theorem reachGo_least {C : List UInt8 → Prop} {ps : List Pk} (hC : ∀ p ∈ ps, C p.1 → ∀ m ∈ p.2.1, m ∈ names8 ps → C m) : ∀ (n : Nat) (o : List (List UInt8)), (∀ x ∈ o, C x) → ∀ x ∈ reachGo ps n o, C x
 | 0, _, ho => ho
 | n + 1, o, ho => by
  rw [reachGo]
  have h := step8_least hC ps o (fun q hq => hq) ho
  split
  ·
   exact h
  ·
   exact reachGo_least hC n _ h
theorem reach8_least {C : List UInt8 → Prop} {ps : List Pk} {s : List UInt8} (hC : ∀ p ∈ ps, C p.1 → ∀ m ∈ p.2.1, m ∈ names8 ps → C m) (hs : C s) : ∀ x ∈ reach8 ps s, C x := reachGo_least hC _ _ (fun x hx => by rw [List.mem_singleton] at hx; rw [hx]; exact hs)

/-- What is held of the places that are reached, while those as far as i have been looked at. -/
structure Rp8 (ps : List Pk) (f : Nat) (re : List Nat) : Prop where
 pj : projB ps = true
 fl : f < ps.length
 nd : re.Nodup
 lt : ∀ x ∈ re, x < ps.length
 self : f ∈ re
 sub : ∀ x ∈ re, nmAt ps x ∈ reach8 ps (nmAt ps f)
def RpTo (ps : List Pk) (re : List Nat) (i : Nat) : Prop := ∀ j, j < i → ∀ y ∈ plc ps (imsAt ps (re.getD j 0)), y ∈ re
theorem Rp8.one {ps : List Pk} (h : projB ps = true) {f : Nat} (hf : f < ps.length) : Rp8 ps f [f] :=
 ⟨h, hf, by simp, fun x hx => by rw [List.mem_singleton] at hx; rw [hx]; exact hf, by simp, fun x hx => by rw [List.mem_singleton] at hx; rw [hx]; exact (reach8_end (nmAt_mem hf)).1.self⟩
theorem Rp8.len {ps : List Pk} {f : Nat} {re : List Nat} (r : Rp8 ps f re) : re.length ≤ ps.length := nodup_sub_len r.nd r.lt
theorem Rp8.add {ps : List Pk} {f : Nat} {re : List Nat} (r : Rp8 ps f re) {x y : Nat} (hx : x ∈ re) (hy : y ∈ plc ps (imsAt ps x)) (hn : ¬ y ∈ re) : Rp8 ps f (re ++ [y]) := by
 obtain ⟨hyl, hym⟩ := (plc_mem (projB_parts r.pj).1.nodup).1 hy
 refine ⟨r.pj, r.fl, List.nodup_append.2 ⟨r.nd, by simp, fun a ha b hb => by rw [List.mem_singleton] at hb; subst hb; intro e; subst e; exact hn ha⟩, fun z hz => ?_, List.mem_append_left _ r.self, fun z hz => ?_⟩
 ·
  rw [List.mem_append, List.mem_singleton] at hz
  rcases hz with hz | rfl
  ·
   exact r.lt z hz
  ·
   exact hyl
 ·
  rw [List.mem_append, List.mem_singleton] at hz
  rcases hz with hz | rfl
  ·
   exact r.sub z hz
  ·
   exact (reach8_end (nmAt_mem r.fl)).2 _ (getD_mem_pk (r.lt x hx)) (r.sub x hx) _ hym (nmAt_mem hyl)
theorem RpTo.add {ps : List Pk} {re : List Nat} {i y : Nat} (h : RpTo ps re i) (hi : i ≤ re.length) : RpTo ps (re ++ [y]) i := fun j hj z hz => by
 have e : (re ++ [y]).getD j 0 = re.getD j 0 := by simp [List.getD, List.getElem?_append_left (show j < re.length by omega)]
 rw [e] at hz
 exact List.mem_append_left _ (h j hj z hz)
theorem RpTo.next {ps : List Pk} {re : List Nat} {i : Nat} (h : RpTo ps re i) (hn : ∀ y ∈ plc ps (imsAt ps (re.getD i 0)), y ∈ re) : RpTo ps re (i + 1) := fun j hj => by
 by_cases e : j = i
 ·
  subst e; exact hn
 ·
  exact h j (by omega)
theorem Rp8.all {ps : List Pk} {f : Nat} {re : List Nat} (r : Rp8 ps f re) (hc : RpTo ps re re.length) {x : List UInt8} : x ∈ nmsAt ps re ↔ x ∈ reach8 ps (nmAt ps f) := by
 have hn := (projB_parts r.pj).1.nodup
 constructor
 ·
  intro h
  obtain ⟨i, hi, rfl⟩ := mem_nms.1 h
  exact r.sub i hi
 ·
  intro h
  refine reach8_least (C := fun x => x ∈ nmsAt ps re) (fun p hp hpo m hm hmn => ?_) (mem_nms.2 ⟨f, r.self, rfl⟩) x h
  obtain ⟨i, hi, rfl⟩ := List.mem_iff_getElem.1 hp
  have ep : ps.getD i pk0 = ps[i] := by simp [List.getD, hi]
  have hpo2 : nmAt ps i ∈ nmsAt ps re := by unfold nmAt; rw [ep]; exact hpo
  have hir := (nm_in hn r.lt hi).1 hpo2
  obtain ⟨j, hj, he⟩ := List.mem_iff_getElem.1 hir
  rcases at8_is ps m with ⟨_, e⟩ | ⟨y, hy, e, hym, _⟩
  ·
   exact absurd hmn e
  ·
   have hyr : y ∈ re := hc j hj y (by
    rw [show re.getD j 0 = i by simp [List.getD, hj, he]]
    refine (plc_mem hn).2 ⟨hy, ?_⟩
    rw [hym]; unfold imsAt; rw [ep]; exact hm)
   exact mem_nms.2 ⟨y, hyr, hym⟩
end Go.Proofs.Ytaioedcaopbgkaa

/-! Plain facts of chapter 9: what a call is told, what is wrong in a function, a package, a project; exports. -/
namespace Go.Proofs.Ytaioedcaopbgkaa
open Go.RowKit

/-! A call. -/
def farB (ps : List Pk) (p : Pk) (q : List UInt8) : Bool := decide (q ≠ p.1 ∧ (¬ q ∈ p.2.1 ∨ at8 ps q < 0))
def ofPk (ps : List Pk) (p : Pk) (q : List UInt8) : Pk := if q = p.1 then p else ps.getD (at8 ps q).toNat pk0
def call9 (ps : List Pk) (p : Pk) (i : Int) (n : Nd) : Int :=
 if farB ps p n.2.2.1 = true then 1
 else if atV (ofPk ps p n.2.2.1).2.2 n.2.2.2 < 0 ∨ (n.2.2.1 = p.1 ∧ i ≤ atV (ofPk ps p n.2.2.1).2.2 n.2.2.2) then 2
 else if ((ofPk ps p n.2.2.1).2.2.getD (atV (ofPk ps p n.2.2.1).2.2 n.2.2.2).toNat fn0).2.1 ≠ n.2.1 then 3 else 0
/-- The package that a name is of. -/
def pkOf (ps : List Pk) (s : List UInt8) : Pk := ps.getD (at8 ps s).toNat pk0
def callB (ps : List Pk) (s : List UInt8) (i : Int) (n : Nd) : Prop := projB ps = true ∧ 0 ≤ at8 ps s ∧ nodeB n = true ∧ n.1 = 8 ∧ 0 ≤ i ∧ i < ((pkOf ps s).2.2.length : Int)
instance (ps : List Pk) (s : List UInt8) (i : Int) (n : Nd) : Decidable (callB ps s i n) := by unfold callB; infer_instance
def callV (ps : List Pk) (s : List UInt8) (i : Int) (n : Nd) : Int := if callB ps s i n then call9 ps (pkOf ps s) i n else -1
/-! A function. -/
def arg9 (f : Fn) (n : Nd) : Prop := n.1 = 2 ∧ f.2.1 ≤ n.2.1
instance (f : Fn) (n : Nd) : Decidable (arg9 f n) := by unfold arg9; infer_instance
def bad9 (ps : List Pk) (p : Pk) (i : Nat) (n : Nd) : Prop := n.1 = 8 ∧ call9 ps p i n ≠ 0
instance (ps : List Pk) (p : Pk) (i : Nat) (n : Nd) : Decidable (bad9 ps p i n) := by unfold bad9; infer_instance
def fnGo (ps : List Pk) (p : Pk) (i : Nat) (f : Fn) : List Nd → Int → Int
 | [], c => c
 | n :: r, c => if arg9 f n then 3 else fnGo ps p i f r (if bad9 ps p i n then 4 else c)
def func9 (ps : List Pk) (p : Pk) (i : Nat) : Int := fnGo ps p i (p.2.2.getD i fn0) (p.2.2.getD i fn0).2.2 0
theorem fnGo_drop {ps : List Pk} {p : Pk} {i : Nat} {f : Fn} {t : List Nd} {j : Nat} (hj : j < t.length) (c : Int) : fnGo ps p i f (t.drop j) c = if arg9 f (t.getD j nd0) then 3 else fnGo ps p i f (t.drop (j + 1)) (if bad9 ps p i (t.getD j nd0) then 4 else c) := by
 rw [List.drop_eq_getElem_cons hj, fnGo]
 have e : t.getD j nd0 = t[j] := by simp [List.getD, hj]
 rw [e]
theorem fnGo_val (ps : List Pk) (p : Pk) (i : Nat) (f : Fn) : ∀ (t : List Nd) (c : Int), (c = 0 ∨ c = 4) →
 (fnGo ps p i f t c = 0 ∨ fnGo ps p i f t c = 3 ∨ fnGo ps p i f t c = 4) ∧ (fnGo ps p i f t c = 0 ↔ c = 0 ∧ ∀ n ∈ t, ¬ arg9 f n ∧ ¬ bad9 ps p i n)
 | [], c, hc => by
  refine ⟨by rcases hc with e | e <;> simp [fnGo, e], by simp [fnGo]⟩
 | n :: r, c, hc => by
  rw [fnGo]
  by_cases ha : arg9 f n
  ·
   rw [if_pos ha]
   exact ⟨by omega, ⟨fun h => by omega, fun h => absurd ha (h.2 n List.mem_cons_self).1⟩⟩
  ·
   rw [if_neg ha]
   by_cases hb : bad9 ps p i n
   ·
    rw [if_pos hb]
    obtain ⟨h1, h2⟩ := fnGo_val ps p i f r 4 (Or.inr rfl)
    exact ⟨h1, ⟨fun h => by have := (h2.1 h).1; omega, fun h => absurd hb (h.2 n List.mem_cons_self).2⟩⟩
   ·
    rw [if_neg hb]
    obtain ⟨h1, h2⟩ := fnGo_val ps p i f r c hc
    refine ⟨h1, h2.trans ⟨fun h => ⟨h.1, fun m hm => ?_⟩, fun h => ⟨h.1, fun m hm => h.2 m (List.mem_cons_of_mem _ hm)⟩⟩⟩
    rcases List.mem_cons.1 hm with e | e
    ·
     rw [e]; exact ⟨ha, hb⟩
    ·
     exact h.2 m e
theorem func9_val (ps : List Pk) (p : Pk) (i : Nat) : func9 ps p i = 0 ∨ func9 ps p i = 3 ∨ func9 ps p i = 4 := (fnGo_val ps p i _ _ 0 (Or.inl rfl)).1
/-! A package, a project. -/
abbrev Flt := Int × List UInt8 × List UInt8
def miss9 (ps : List Pk) (p : Pk) : Prop := ∃ m ∈ p.2.1, at8 ps m < 0
instance (ps : List Pk) (p : Pk) : Decidable (miss9 ps p) := by unfold miss9; infer_instance
def fnsGo (ps : List Pk) (p : Pk) : List Fn → Nat → Option Flt
 | [], _ => none
 | f :: r, k => if func9 ps p k ≠ 0 then some (func9 ps p k, p.1, f.1) else fnsGo ps p r (k + 1)
theorem fnsGo_drop {ps : List Pk} {p : Pk} {k : Nat} (hk : k < p.2.2.length) : fnsGo ps p (p.2.2.drop k) k = if func9 ps p k ≠ 0 then some (func9 ps p k, p.1, (p.2.2.getD k fn0).1) else fnsGo ps p (p.2.2.drop (k + 1)) (k + 1) := by
 rw [List.drop_eq_getElem_cons hk, fnsGo]
 have e : p.2.2.getD k fn0 = p.2.2[k] := by simp [List.getD, hk]
 rw [e]
def pk9 (ps : List Pk) (done i : Nat) (p : Pk) : Option Flt := if miss9 ps p then some (1, p.1, []) else if done ≤ i then some (2, p.1, []) else fnsGo ps p p.2.2 0
def fltGo (ps : List Pk) (done : Nat) : List (List UInt8) → Nat → Option Flt
 | [], _ => none
 | x :: r, i => match pk9 ps done i (pkOf ps x) with
  | some f => some f
  | none => fltGo ps done r (i + 1)
theorem fltGo_drop {ps : List Pk} {done : Nat} {l : List (List UInt8)} {i : Nat} (hi : i < l.length) : fltGo ps done (l.drop i) i = match pk9 ps done i (pkOf ps (l.getD i [])) with
 | some f => some f
 | none => fltGo ps done (l.drop (i + 1)) (i + 1) := by
 rw [List.drop_eq_getElem_cons hi, fltGo]
 have e : l.getD i [] = l[i] := by simp [List.getD, hi]
 rw [e]
def ord9 (ps : List Pk) : List (List UInt8) := order8 ps ++ (names8 ps).filter (fun x => decide (¬ x ∈ order8 ps))
def mainT : List UInt8 := [109, 97, 105, 110]
def main9 (ps : List Pk) : Flt := if 0 ≤ at8 ps mainT ∧ 0 ≤ atV (pkOf ps mainT).2.2 mainT ∧ ((pkOf ps mainT).2.2.getD (atV (pkOf ps mainT).2.2 mainT).toNat fn0).2.1 = 1 then (0, [], []) else (5, mainT, mainT)
def fault9 (ps : List Pk) : Flt := match fltGo ps (order8 ps).length (ord9 ps) 0 with
 | some f => f
 | none => main9 ps
def faultV (ps : List Pk) : Flt := if projB ps = true then fault9 ps else (6, [], [])

/-! Exports. -/
def exp9 (f : Fn) : List UInt8 := f.1 ++ [47] ++ intL f.2.1
def exports9 (fs : List Fn) : List (List UInt8) := fs.map exp9
def exportsV (p : Pk) : List (List UInt8) := if pkgB p = true then exports9 p.2.2 else []

end Go.Proofs.Ytaioedcaopbgkaa
