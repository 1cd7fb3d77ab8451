/-
  Parts of one proof, one behind the other: Math9L, Math10, Math10L, Math10T, Math11.
-/
import Derived.Test.YtkjojhkpoooimaaGreatP11
import Derived.Test.YtkjojhkpoooimaaGreatP3

/-! Plain facts of chapter 9: what FnFaults tests. -/
namespace Go.Proofs.YtkjojhkpoooimaaGreat
open Go.RowKit

theorem pkOf_nm {ps : List Pk} (hn : (names8 ps).Nodup) {i : Nat} (hi : i < ps.length) : pkOf ps (nmAt ps i) = ps.getD i pk0 := by
  unfold pkOf
  rcases at8_is ps (nmAt ps i) with ⟨_, e⟩ | ⟨j, hj, e, hnm, _⟩
  · exact absurd (nmAt_mem hi) e
  · rw [e]
    have := nmAt_inj hn hj hi hnm
    subst this
    rfl
theorem pkOf_mem {ps : List Pk} {x : List UInt8} (hx : x ∈ names8 ps) : pkOf ps x ∈ ps ∧ (pkOf ps x).1 = x := by
  rcases at8_is ps x with ⟨_, e⟩ | ⟨j, hj, e, hnm, _⟩
  · exact absurd hx e
  · unfold pkOf
    rw [e]
    exact ⟨getD_mem_pk hj, hnm⟩
theorem pkOf_self {ps : List Pk} (hn : (names8 ps).Nodup) {p : Pk} (hp : p ∈ ps) : pkOf ps p.1 = p := by
  obtain ⟨i, hi, rfl⟩ := List.mem_iff_getElem.1 hp
  have e : ps.getD i pk0 = ps[i] := by simp [List.getD, hi]
  have := pkOf_nm hn hi
  unfold nmAt at this
  rw [e] at this
  exact this
theorem ord9_mem {ps : List Pk} (h : projB ps = true) {x : List UInt8} : x ∈ ord9 ps ↔ x ∈ names8 ps := by
  unfold ord9
  rw [List.mem_append, List.mem_filter, decide_eq_true_eq]
  constructor
  · rintro (e | e)
    · exact (order8_end h).1.sub x e
    · exact e.1
  · intro e
    rcases Decidable.em (x ∈ order8 ps) with h1 | h1
    · exact Or.inl h1
    · exact Or.inr ⟨e, h1⟩
/-- What a fault says of itself. -/
structure Flt9 (ps : List Pk) (f : Flt) : Prop where
  lo : 1 ≤ f.1
  hi : f.1 ≤ 4
  fn : f.2.2 ≠ [] ↔ 3 ≤ f.1
theorem name_ne {x : List UInt8} (h : nameB x = true) : x ≠ [] := fun e => by
  have := (name_letters h).1.1
  rw [e] at this
  simp at this
theorem fnsGo_val {ps : List Pk} {p : Pk} : ∀ (fs : List Fn) (k : Nat), (∀ f ∈ fs, f.1 ≠ []) → ∀ f, fnsGo ps p fs k = some f → Flt9 ps f
  | [], _, _, f, h => by simp [fnsGo] at h
  | g :: r, k, hf, f, h => by
    rw [fnsGo] at h
    split at h
    · rename_i h0
      injection h with h
      subst h
      have := func9_val ps p k
      exact ⟨by simp only; omega, by simp only; omega, ⟨fun _ => by simp only; omega, fun _ => hf g List.mem_cons_self⟩⟩
    · exact fnsGo_val r (k + 1) (fun q hq => hf q (List.mem_cons_of_mem _ hq)) f h
theorem fnsGo_none {ps : List Pk} {p : Pk} : ∀ (fs : List Fn) (k : Nat), fnsGo ps p fs k = none → ∀ i, i < fs.length → func9 ps p (k + i) = 0
  | [], _, _, i, hi => by simp at hi
  | g :: r, k, h, i, hi => by
    rw [fnsGo] at h
    split at h
    · simp at h
    · rename_i h0
      cases i with
      | zero => simpa using h0
      | succ i =>
        have := fnsGo_none r (k + 1) h i (by simpa using hi)
        rw [show k + (i + 1) = k + 1 + i by omega]
        exact this
theorem pk9_val {ps : List Pk} {done i : Nat} {p : Pk} (hp : ∀ f ∈ p.2.2, f.1 ≠ []) {f : Flt} (h : pk9 ps done i p = some f) : Flt9 ps f := by
  unfold pk9 at h
  split at h
  · injection h with h; subst h; exact ⟨by simp, by simp, by simp⟩
  · split at h
    · injection h with h; subst h; exact ⟨by simp, by simp, by simp⟩
    · exact fnsGo_val _ _ hp f h
theorem fltGo_val {ps : List Pk} {done : Nat} (hp : ∀ p ∈ ps, ∀ f ∈ p.2.2, f.1 ≠ []) : ∀ (l : List (List UInt8)) (i : Nat), (∀ x ∈ l, x ∈ names8 ps) → ∀ f, fltGo ps done l i = some f → Flt9 ps f
  | [], _, _, f, h => by simp [fltGo] at h
  | x :: r, i, hl, f, h => by
    rw [fltGo] at h
    rcases hk : pk9 ps done i (pkOf ps x) with _ | g
    · rw [hk] at h
      exact fltGo_val hp r (i + 1) (fun y hy => hl y (List.mem_cons_of_mem _ hy)) f h
    · rw [hk] at h
      injection h with h
      subst h
      exact pk9_val (hp _ (pkOf_mem (hl x List.mem_cons_self)).1) hk
theorem fltGo_none {ps : List Pk} {done : Nat} : ∀ (l : List (List UInt8)) (i : Nat), fltGo ps done l i = none → ∀ k, k < l.length → pk9 ps done (i + k) (pkOf ps (l.getD k [])) = none
  | [], _, _, k, hk => by simp at hk
  | x :: r, i, h, k, hk => by
    rw [fltGo] at h
    rcases hp : pk9 ps done i (pkOf ps x) with _ | g
    · rw [hp] at h
      cases k with
      | zero => simpa using hp
      | succ k =>
        have := fltGo_none r (i + 1) h k (by simpa using hk)
        rw [show i + (k + 1) = i + 1 + k by omega]
        simpa using this
    · rw [hp] at h; simp at h
theorem names_ne {ps : List Pk} (h : projB ps = true) : ∀ p ∈ ps, ∀ f ∈ p.2.2, f.1 ≠ [] := fun p hp f hf => by
  have h1 := (pkgB_parts ((projB_parts h).2.2 p hp)).2.2.2.2 f hf
  unfold funcB at h1
  rw [Bool.and_eq_true] at h1
  exact name_ne h1.1
theorem node_of9 {ps : List Pk} (h : projB ps = true) {p : Pk} (hp : p ∈ ps) {k : Nat} (hk : k < p.2.2.length) {n : Nd} (hn : n ∈ (p.2.2.getD k fn0).2.2) : nodeB n = true := by
  have hm : p.2.2.getD k fn0 ∈ p.2.2 := by simp [List.getD, hk]
  have h1 := (pkgB_parts ((projB_parts h).2.2 p hp)).2.2.2.2 _ hm
  unfold funcB at h1
  rw [Bool.and_eq_true, Bool.and_eq_true] at h1
  exact tree_nodes h1.2.2 n hn

/-- Where nothing is wrong. -/
theorem faultV_zero {ps : List Pk} (h0 : (faultV ps).1 = 0) : faultV ps = (0, [], []) ∧ projB ps = true ∧ (order8 ps).length = ps.length ∧ (∀ p ∈ ps, ∀ m ∈ p.2.1, m ∈ names8 ps) ∧ (∀ p ∈ ps, ∀ k, k < p.2.2.length → func9 ps p k = 0) ∧
    (0 ≤ at8 ps mainT ∧ 0 ≤ atV (pkOf ps mainT).2.2 mainT ∧ ((pkOf ps mainT).2.2.getD (atV (pkOf ps mainT).2.2 mainT).toNat fn0).2.1 = 1) := by
  unfold faultV at h0 ⊢
  rcases hp : projB ps with _ | _
  · rw [hp, if_neg (by simp)] at h0; simp at h0
  · rw [hp, if_pos rfl] at h0
    rw [if_pos rfl]
    unfold fault9 at h0 ⊢
    rcases hf : fltGo ps (order8 ps).length (ord9 ps) 0 with _ | f
    · rw [hf] at h0
      simp only at h0 ⊢
      have hm : 0 ≤ at8 ps mainT ∧ 0 ≤ atV (pkOf ps mainT).2.2 mainT ∧ ((pkOf ps mainT).2.2.getD (atV (pkOf ps mainT).2.2 mainT).toNat fn0).2.1 = 1 := by
        unfold main9 at h0
        exact Decidable.byContradiction fun e => by rw [if_neg e] at h0; simp at h0
      have hnone := fltGo_none _ _ hf
      have hnd := (projB_parts hp).1.nodup
      have hlen : (ord9 ps).length ≤ (order8 ps).length := by
        rcases Nat.lt_or_ge (order8 ps).length (ord9 ps).length with hl | hl
        · have := hnone (order8 ps).length hl
          unfold pk9 at this
          split at this
          · simp at this
          · rw [if_pos (by omega)] at this; simp at this
        · exact hl
      have hall : ∀ x ∈ names8 ps, x ∈ order8 ps := fun x hx => by
        have he : (names8 ps).filter (fun x => decide (¬ x ∈ order8 ps)) = [] := by
          apply List.eq_nil_of_length_eq_zero
          unfold ord9 at hlen
          rw [List.length_append] at hlen
          omega
        rw [List.filter_eq_nil_iff] at he
        have := he x hx
        rw [decide_eq_true_eq] at this
        exact Decidable.byContradiction this
      have hpk : ∀ p ∈ ps, ¬ miss9 ps p ∧ fnsGo ps p p.2.2 0 = none := fun p hpm => by
        have hx : p.1 ∈ names8 ps := List.mem_map.2 ⟨p, hpm, rfl⟩
        obtain ⟨k, hk, e⟩ := List.mem_iff_getElem.1 ((ord9_mem hp).2 hx)
        have h1 := hnone k hk
        rw [show (ord9 ps).getD k [] = p.1 by simp [List.getD, hk, e], pkOf_self hnd hpm] at h1
        unfold pk9 at h1
        split at h1
        · simp at h1
        · rename_i hm
          split at h1
          · simp at h1
          · exact ⟨hm, h1⟩
      refine ⟨by unfold main9; rw [if_pos hm], trivial, ?_, fun p hpm m hmm => ?_, fun p hpm k hk => ?_, hm⟩
      · have h1 := (order8_end hp).1.len
        have h2 := hnd.length_le_of_subset (fun x hx => hall x hx)
        have h3 : (names8 ps).length = ps.length := by simp [names8]
        omega
      · refine (at8_mem ps m).1 ?_
        have h1 := (hpk p hpm).1
        unfold miss9 at h1
        rcases Int.lt_or_le (at8 ps m) 0 with h2 | h2
        · exact absurd ⟨m, hmm, h2⟩ h1
        · exact h2
      · have := fnsGo_none _ _ (hpk p hpm).2 k hk
        simpa using this
    · rw [hf] at h0
      have := (fltGo_val (names_ne hp) _ _ (fun x hx => (ord9_mem hp).1 hx) f hf).lo
      simp only at h0
      omega
/-- A call that the law asks of each node. -/
theorem callV_of {ps : List Pk} (h : projB ps = true) {p : Pk} (hp : p ∈ ps) {k : Nat} (hk : k < p.2.2.length) {n : Nd} (hn : n ∈ (p.2.2.getD k fn0).2.2) (hf : func9 ps p k = 0) : ¬ arg9 (p.2.2.getD k fn0) n ∧ (n.1 = 8 → callV ps p.1 (k : Int) n = 0) := by
  obtain ⟨h1, h2⟩ := func9_zero hf n hn
  refine ⟨h1, fun h8 => ?_⟩
  have hc : call9 ps p (k : Int) n = 0 := Decidable.byContradiction fun e => h2 ⟨h8, e⟩
  have hnd := (projB_parts h).1.nodup
  have hpo := pkOf_self hnd hp
  unfold callV
  rw [if_pos ⟨h, (at8_mem ps p.1).2 (List.mem_map.2 ⟨p, hp, rfl⟩), node_of9 h hp hk hn, h8, by omega, by rw [hpo]; omega⟩, hpo]
  exact hc

/-! What FnCalls looks for. -/
theorem at7Go_is (s : List UInt8) : ∀ (fs : List Fn) (k : Nat), atGo s fs k = -1 ∨ ∃ i, i < fs.length ∧ atGo s fs k = ((k + i : Nat) : Int) ∧ (fs.getD i fn0).1 = s
  | [], k => Or.inl rfl
  | p :: r, k => by
    rw [atGo]
    by_cases h : p.1 = s
    · rw [if_pos h]; exact Or.inr ⟨0, by simp, by simp, by simpa using h⟩
    · rw [if_neg h]
      rcases at7Go_is s r (k + 1) with e | ⟨i, hi, e, hn⟩
      · exact Or.inl e
      · exact Or.inr ⟨i + 1, by simpa using hi, by rw [e]; congr 1; omega, by simpa using hn⟩
theorem at7_is (fs : List Fn) (s : List UInt8) : atV fs s = -1 ∨ ∃ i, i < fs.length ∧ atV fs s = (i : Int) ∧ (fs.getD i fn0).1 = s := by
  rcases at7Go_is s fs 0 with e | ⟨i, hi, e, hn⟩
  · exact Or.inl e
  · exact Or.inr ⟨i, hi, by unfold atV; rw [e]; congr 1; omega, hn⟩
/-- A function that the law finds. -/
def hit9 (ps : List Pk) (s : List UInt8) (at_ : Int) (n : Nd) (j m : Nat) : Prop := nmAt ps j = n.2.2.1 ∧ ((ps.getD j pk0).2.2.getD m fn0).1 = n.2.2.2 ∧ ((ps.getD j pk0).2.2.getD m fn0).2.1 = n.2.1 ∧ (n.2.2.1 ≠ s ∨ (m : Int) < at_)
def ok9 (ps : List Pk) (s : List UInt8) (n : Nd) (i : Nat) : Prop := n.2.2.1 = s ∨ n.2.2.1 ∈ imsAt ps i
def found9 (ps : List Pk) (s : List UInt8) (at_ : Int) (n : Nd) : Prop := ∃ i, i < ps.length ∧ nmAt ps i = s ∧ ok9 ps s n i ∧ ∃ j, j < ps.length ∧ ∃ m, m < (ps.getD j pk0).2.2.length ∧ hit9 ps s at_ n j m
end Go.Proofs.YtkjojhkpoooimaaGreat

/-! Plain facts of chapter 10: what a tree means, tree by tree; fuel. -/
namespace Go.Proofs.YtkjojhkpoooimaaGreat
open Go.RowKit

/-! A walk: what fuel is left, and why it stopped. -/
abbrev St10 := Nat × Int
abbrev Cmp10 := St10 → Int × St10
def bind10 (C : Cmp10) (D : Int → Cmp10) : Cmp10 := fun s => D (C s).1 (C s).2
def fin10 (v : Int) (ok : Bool) : Cmp10 := fun s => if s.2 ≠ 0 then (0, s) else if ok = true then (v, s) else (0, (s.1, 1))
def tick10 (C : Cmp10) : Cmp10 := fun s => if s.2 ≠ 0 then (0, s) else if s.1 = 0 then (0, (0, 2)) else C (s.1 - 1, s.2)
def args10 (R : Int → Cmp10) : List Int → List Int → (List Int → Cmp10) → Cmp10
  | [], acc, K => K acc
  | p :: r, acc, K => bind10 (R p) (fun v => args10 R r (acc ++ [v]) K)
abbrev Rec10 := List Nd → Int → List Int → Cmp10
/-- The parts of a node, and the tree of the function that a call is of. -/
def pts10 (t : List Nd) (a : Int) : List Int := partsGo t (kidsN (t.getD a.toNat nd0)) (a + 1)
def tree10 (ps : List Pk) (n : Nd) : List Nd := ((pkOf ps n.2.2.1).2.2.getD (atV (pkOf ps n.2.2.1).2.2 n.2.2.2).toNat fn0).2.2
def node10 (ps : List Pk) (R : Rec10) (t : List Nd) (a : Int) (xs : List Int) (n : Nd) : Cmp10 :=
  if n.1 = 1 then fin10 n.2.1 true
  else if n.1 = 2 then fin10 (xs.getD n.2.1.toNat 0) true
  else if n.1 = 7 then bind10 (R t ((pts10 t a).getD 0 0) xs) (fun k => if k ≠ 0 then R t ((pts10 t a).getD 1 0) xs else R t ((pts10 t a).getD 2 0) xs)
  else if n.1 = 8 then args10 (fun p => R t p xs) (pts10 t a) [] (fun own => R (tree10 ps n) 0 own)
  else bind10 (R t ((pts10 t a).getD 0 0) xs) (fun x => bind10 (R t ((pts10 t a).getD 1 0) xs) (fun y => fin10 (doneV n.1 x y) (doneB n.1 x y)))
def step10 (ps : List Pk) (R : Rec10) : Rec10 := fun t a xs => tick10 (node10 ps R t a xs (t.getD a.toNat nd0))
def val10 (ps : List Pk) : Nat → Rec10
  | 0 => fun _ _ _ s => (0, s)
  | d + 1 => step10 ps (val10 ps d)

/-! What every such walk keeps. -/
structure Sk10 (C : Cmp10) : Prop where
  stop : ∀ s : St10, s.2 ≠ 0 → C s = (0, s)
  less : ∀ s, (C s).2.1 ≤ s.1
  zero : ∀ s, (C s).2.2 ≠ 0 → (C s).1 = 0
  dry : ∀ s : St10, s.2 = 0 → (C s).2.2 = 2 → (C s).2.1 = 0
  code : ∀ s : St10, s.2 = 0 → (C s).2.2 = 0 ∨ (C s).2.2 = 1 ∨ (C s).2.2 = 2
  more : ∀ f k, k ≤ (C (f + k, 0)).2.1 → C (f, 0) = ((C (f + k, 0)).1, ((C (f + k, 0)).2.1 - k, (C (f + k, 0)).2.2))
  fall : ∀ f k, (C (f + k, 0)).2.1 < k → C (f, 0) = (0, (0, 2))
theorem Sk10.bind {C : Cmp10} {D : Int → Cmp10} (hC : Sk10 C) (hD : ∀ v, Sk10 (D v)) : Sk10 (bind10 C D) where
  stop s h := by unfold bind10; rw [hC.stop s h]; exact (hD 0).stop s h
  less s := Nat.le_trans ((hD _).less _) (hC.less s)
  zero s h := (hD _).zero _ h
  dry s h h2 := by
    unfold bind10 at h2 ⊢
    by_cases hc : (C s).2.2 = 0
    · exact (hD _).dry _ hc h2
    · rw [(hD _).stop _ hc] at h2 ⊢
      exact hC.dry s h h2
  code s h := by
    unfold bind10
    by_cases hc : (C s).2.2 = 0
    · exact (hD _).code _ hc
    · rw [(hD _).stop _ hc]
      exact hC.code s h
  more f k h := by
    unfold bind10 at h ⊢
    have h1 : k ≤ (C (f + k, 0)).2.1 := Nat.le_trans h ((hD _).less _)
    rw [hC.more f k h1]
    generalize C (f + k, 0) = r at h h1 ⊢
    obtain ⟨v, l, c⟩ := r
    simp only at h h1 ⊢
    by_cases hc : c = 0
    · subst hc
      obtain ⟨m, rfl⟩ : ∃ m, l = m + k := ⟨l - k, by omega⟩
      rw [Nat.add_sub_cancel]
      exact (hD v).more m k h
    · rw [(hD v).stop (l, c) hc, (hD v).stop (l - k, c) hc]
  fall f k h := by
    unfold bind10 at h ⊢
    by_cases h1 : k ≤ (C (f + k, 0)).2.1
    · rw [hC.more f k h1]
      generalize C (f + k, 0) = r at h h1 ⊢
      obtain ⟨v, l, c⟩ := r
      simp only at h h1 ⊢
      by_cases hc : c = 0
      · subst hc
        obtain ⟨m, rfl⟩ : ∃ m, l = m + k := ⟨l - k, by omega⟩
        rw [Nat.add_sub_cancel]
        exact (hD v).fall m k h
      · rw [(hD v).stop (l, c) hc] at h
        simp only at h
        omega
    · rw [hC.fall f k (by omega)]
      exact (hD 0).stop (0, 2) (by decide)
theorem Sk10.fin (v : Int) (ok : Bool) : Sk10 (fin10 v ok) where
  stop s h := by unfold fin10; rw [if_pos h]
  less s := by
    unfold fin10
    split
    · exact Nat.le_refl _
    · split <;> exact Nat.le_refl _
  zero s h := by
    unfold fin10 at h ⊢
    split
    · rfl
    · rename_i h1
      rw [if_neg h1] at h
      split
      · rename_i h2; rw [if_pos h2] at h; exact absurd h h1
      · rfl
  dry s h h2 := by
    unfold fin10 at h2
    rw [if_neg (fun e => e h)] at h2
    split at h2
    · rw [h] at h2; cases h2
    · cases h2
  code s h := by
    unfold fin10
    rw [if_neg (fun e => e h)]
    split
    · exact Or.inl h
    · exact Or.inr (Or.inl rfl)
  more f k h := by
    unfold fin10 at h ⊢
    cases ok <;> simp
  fall f k h := by
    have e : (fin10 v ok (f + k, 0)).2.1 = f + k := by unfold fin10; cases ok <;> simp
    rw [e] at h
    omega
theorem Sk10.tick {C : Cmp10} (hC : Sk10 C) : Sk10 (tick10 C) where
  stop s h := by unfold tick10; rw [if_pos h]
  less s := by
    unfold tick10
    split
    · exact Nat.le_refl _
    · split
      · exact Nat.zero_le _
      · exact Nat.le_trans (hC.less _) (Nat.sub_le _ _)
  zero s h := by
    unfold tick10 at h ⊢
    split
    · rfl
    · rename_i h1
      rw [if_neg h1] at h
      split
      · rfl
      · rename_i h2; rw [if_neg h2] at h; exact hC.zero _ h
  dry s h h2 := by
    unfold tick10 at h2 ⊢
    rw [if_neg (fun e => e h)] at h2 ⊢
    split
    · rfl
    · rename_i h3; rw [if_neg h3] at h2; exact hC.dry _ h h2
  code s h := by
    unfold tick10
    rw [if_neg (fun e => e h)]
    split
    · exact Or.inr (Or.inr rfl)
    · exact hC.code _ h
  more f k h := by
    unfold tick10 at h ⊢
    simp only [ne_eq, not_true_eq_false, if_false] at h ⊢
    by_cases hf : f = 0
    · subst hf
      by_cases hk : k = 0
      · subst hk; simp
      · rw [if_neg (by omega)] at h
        have := hC.less (0 + k - 1, 0)
        simp only at this
        omega
    · rw [if_neg (by omega)] at h
      rw [if_neg hf, if_neg (by omega)]
      rw [show f + k - 1 = (f - 1) + k by omega] at h ⊢
      exact hC.more (f - 1) k h
  fall f k h := by
    unfold tick10 at h ⊢
    simp only [ne_eq, not_true_eq_false, if_false] at h ⊢
    by_cases hf : f = 0
    · rw [if_pos hf]
    · rw [if_neg (by omega)] at h
      rw [if_neg hf]
      rw [show f + k - 1 = (f - 1) + k by omega] at h
      exact hC.fall (f - 1) k h
theorem Sk10.args {R : Int → Cmp10} (hR : ∀ p, Sk10 (R p)) {K : List Int → Cmp10} (hK : ∀ l, Sk10 (K l)) : ∀ (pa acc : List Int), Sk10 (args10 R pa acc K)
  | [], acc => hK acc
  | p :: r, acc => (hR p).bind (fun v => Sk10.args hR hK r (acc ++ [v]))
theorem Sk10.node {ps : List Pk} {R : Rec10} (hR : ∀ t a xs, Sk10 (R t a xs)) (t : List Nd) (a : Int) (xs : List Int) (n : Nd) : Sk10 (node10 ps R t a xs n) := by
  unfold node10
  split
  · exact Sk10.fin _ _
  · split
    · exact Sk10.fin _ _
    · split
      · refine (hR _ _ _).bind (fun k => ?_)
        split
        · exact hR _ _ _
        · exact hR _ _ _
      · split
        · exact Sk10.args (fun p => hR _ _ _) (fun l => hR _ _ _) _ _
        · exact (hR _ _ _).bind (fun x => (hR _ _ _).bind (fun y => Sk10.fin _ _))
theorem Sk10.val (ps : List Pk) : ∀ (d : Nat) (t : List Nd) (a : Int) (xs : List Int), Sk10 (val10 ps d t a xs)
  | 0, t, a, xs => ⟨(fun s _ => rfl), (fun s => Nat.le_refl _), (fun s _ => rfl), (fun s h h2 => by have e : s.2 = 2 := h2; rw [h] at e; cases e), (fun s h => Or.inl h), (fun f k _ => by simp [val10]), (fun f k h => by have e : f + k < k := h; omega)⟩
  | d + 1, t, a, xs => Sk10.tick (Sk10.node (fun t a xs => Sk10.val ps d t a xs) t a xs _)

/-! Words. -/
def Word10 (v : Int) : Prop := -2147483648 ≤ v ∧ v ≤ 2147483647
theorem word_zero : Word10 0 := ⟨by decide, by decide⟩
def Good10 (t : List Nd) : Prop := ∀ n ∈ t, nodeB n = true
theorem getD_word {xs : List Int} (h : ∀ x ∈ xs, Word10 x) (i : Nat) : Word10 (xs.getD i 0) := by
  by_cases hi : i < xs.length
  · have e : xs.getD i 0 = xs[i] := by simp [List.getD, hi]
    rw [e]; exact h _ (List.getElem_mem hi)
  · have e : xs.getD i 0 = 0 := by simp [List.getD, List.getElem?_eq_none (Nat.le_of_not_lt hi)]
    rw [e]; exact ⟨by decide, by decide⟩
theorem fin_word {v : Int} {ok : Bool} (h : Word10 v) (s : St10) : Word10 (fin10 v ok s).1 := by
  unfold fin10
  split
  · exact word_zero
  · split
    · exact h
    · exact word_zero
theorem args_word {R : Int → Cmp10} (hR : ∀ p s, Word10 (R p s).1) {K : List Int → Cmp10} (hK : ∀ l, (∀ x ∈ l, Word10 x) → ∀ s, Word10 (K l s).1) : ∀ (pa acc : List Int), (∀ x ∈ acc, Word10 x) → ∀ s, Word10 (args10 R pa acc K s).1
  | [], acc, ha, s => hK acc ha s
  | p :: r, acc, ha, s => args_word hR hK r (acc ++ [(R p s).1]) (fun x hx => by rcases List.mem_append.1 hx with h | h; exact ha x h; rw [List.mem_singleton.1 h]; exact hR p s) _
theorem val_word {ps : List Pk} (hg : ∀ n, Good10 (tree10 ps n)) : ∀ (d : Nat) (t : List Nd) (a : Int) (xs : List Int), Good10 t → (∀ x ∈ xs, Word10 x) → ∀ s, Word10 (val10 ps d t a xs s).1
  | 0, _, _, _, _, _, _ => word_zero
  | d + 1, t, a, xs, ht, hx, s => by
    have ih := val_word hg d
    show Word10 (tick10 (node10 ps (val10 ps d) t a xs (t.getD a.toNat nd0)) s).1
    have hn : t.getD a.toNat nd0 ∈ t ∨ t.getD a.toNat nd0 = nd0 := by
      by_cases hi : a.toNat < t.length
      · left; have e : t.getD a.toNat nd0 = t[a.toNat] := by simp [List.getD, hi]
        rw [e]; exact List.getElem_mem hi
      · right; simp [List.getD, List.getElem?_eq_none (Nat.le_of_not_lt hi)]
    generalize t.getD a.toNat nd0 = n at hn ⊢
    unfold tick10
    split
    · exact word_zero
    · split
      · exact word_zero
      · generalize (s.1 - 1, s.2) = s1
        unfold node10
        split
        · rename_i h1
          refine fin_word ?_ _
          rcases hn with hn | hn
          · have h2 := nodeB_iff.1 (ht n hn)
            unfold nodeP at h2
            rcases h2 with h2 | h2 | h2 | h2
            · exact h2.2.1
            · omega
            · omega
            · omega
          · rw [hn] at h1; cases h1
        · split
          · exact fin_word (getD_word hx _) _
          · split
            · unfold bind10
              dsimp only
              by_cases hk : (val10 ps d t ((pts10 t a).getD 0 0) xs s1).1 ≠ 0
              · rw [if_pos hk]; exact ih _ _ _ ht hx _
              · rw [if_neg hk]; exact ih _ _ _ ht hx _
            · split
              · exact args_word (fun p s => ih _ _ _ ht hx s) (fun l hl s => ih _ _ _ (hg n) hl s) _ _ (fun x hx => by cases hx) _
              · unfold bind10
                exact fin_word (doneV_bd _ _ _) _

end Go.Proofs.YtkjojhkpoooimaaGreat

/-! Plain facts of chapter 10: Meant, Burnt; what FnMeans tests. -/
namespace Go.Proofs.YtkjojhkpoooimaaGreat
open Go.RowKit

def fnOf10 (ps : List Pk) (nm fn : List UInt8) : Fn := (pkOf ps nm).2.2.getD (atV (pkOf ps nm).2.2 fn).toNat fn0
structure Ok10 (ps : List Pk) (nm fn : List UInt8) (xs : List Int) (fuel : Int) : Prop where
  flt : faultV ps = (0, [], [])
  at8 : 0 ≤ at8 ps nm
  fuel0 : 0 ≤ fuel
  fuel1 : fuel ≤ 20000
  at7 : 0 ≤ atV (pkOf ps nm).2.2 fn
  len : (xs.length : Int) = (fnOf10 ps nm fn).2.1
  word : ∀ x ∈ xs, Word10 x
noncomputable def run10 (ps : List Pk) (nm fn : List UInt8) (xs : List Int) (fuel : Nat) : Int × St10 := val10 ps 20001 (fnOf10 ps nm fn).2.2 0 xs (fuel, 0)
open Classical in
noncomputable def meantV (ps : List Pk) (nm fn : List UInt8) (xs : List Int) (fuel : Int) : Int × Int := if Ok10 ps nm fn xs fuel then ((run10 ps nm fn xs fuel.toNat).1, (run10 ps nm fn xs fuel.toNat).2.2) else (0, 3)
open Classical in
noncomputable def burntV (ps : List Pk) (nm fn : List UInt8) (xs : List Int) (fuel : Int) : Int := if Ok10 ps nm fn xs fuel then fuel - ((run10 ps nm fn xs fuel.toNat).2.1 : Int) else -1
theorem meant_yes {ps : List Pk} {nm fn : List UInt8} {xs : List Int} {fuel : Int} (h : Ok10 ps nm fn xs fuel) : meantV ps nm fn xs fuel = ((run10 ps nm fn xs fuel.toNat).1, (run10 ps nm fn xs fuel.toNat).2.2) ∧ burntV ps nm fn xs fuel = fuel - ((run10 ps nm fn xs fuel.toNat).2.1 : Int) := ⟨if_pos h, if_pos h⟩
theorem meant_no {ps : List Pk} {nm fn : List UInt8} {xs : List Int} {fuel : Int} (h : ¬ Ok10 ps nm fn xs fuel) : meantV ps nm fn xs fuel = (0, 3) ∧ burntV ps nm fn xs fuel = -1 := ⟨if_neg h, if_neg h⟩

theorem good_of {ps : List Pk} (h : projB ps = true) (q : List UInt8) (k : Nat) : Good10 ((pkOf ps q).2.2.getD k fn0).2.2 := fun n hn => by
  by_cases hk : k < (pkOf ps q).2.2.length
  · by_cases hq : (at8 ps q).toNat < ps.length
    · have hp : pkOf ps q ∈ ps := by unfold pkOf; exact getD_mem_pk hq
      exact node_of9 h hp hk hn
    · have e : pkOf ps q = pk0 := by unfold pkOf; rw [List.getD, List.getElem?_eq_none (Nat.le_of_not_lt hq)]; rfl
      rw [e] at hk
      exact absurd hk (by simp [pk0])
  · have e : (pkOf ps q).2.2.getD k fn0 = fn0 := by rw [List.getD, List.getElem?_eq_none (Nat.le_of_not_lt hk)]; rfl
    rw [e] at hn
    cases hn
end Go.Proofs.YtkjojhkpoooimaaGreat

/-! Plain facts of chapter 10: where nothing is wrong, what a walk meets in a tree. -/
namespace Go.Proofs.YtkjojhkpoooimaaGreat
open Go.RowKit

/-! Parts. -/
theorem endV_neg (l : List Nd) {a : Int} (h : a < 0) : endV l a = -1 := if_pos h
theorem endV_ge (l : List Nd) (a : Int) : -1 ≤ endV l a := by
  unfold endV
  split
  · omega
  · unfold endN
    split
    · split <;> omega
    · omega
theorem chain_neg10 (l : List Nd) : ∀ k, chain l k (-1) = -1
  | 0 => rfl
  | k + 1 => by rw [chain, endV_neg l (by decide), chain_neg10 l k]
theorem parts_in (l : List Nd) : ∀ (k : Nat) (next : Int), 0 ≤ chain l k next → ∀ i, i < k → 0 ≤ endV l ((partsGo l k next).getD i 0)
  | 0, _, _, i, hi => absurd hi (Nat.not_lt_zero _)
  | k + 1, next, h, i, hi => by
    rw [chain] at h
    have h0 : 0 ≤ endV l next := by
      rcases Int.lt_or_le (endV l next) 0 with h1 | h1
      · have e : endV l next = -1 := by have := endV_ge l next; omega
        rw [e, chain_neg10] at h
        omega
      · exact h1
    rw [partsGo]
    rcases i with _ | i
    · exact h0
    · exact parts_in l k _ h i (by omega)
theorem endV_place {l : List Nd} {a : Int} (h : 0 ≤ endV l a) : ∃ q : Nat, a = (q : Int) ∧ q < l.length := by
  rcases Int.lt_or_le a 0 with h1 | h1
  · rw [endV_neg l h1] at h; omega
  · obtain ⟨q, rfl⟩ : ∃ q : Nat, a = (q : Int) := ⟨a.toNat, by omega⟩
    exact ⟨q, rfl, (end_parts h).1⟩
/-- A part of a node that stands in a tree is a place in the tree. -/
theorem part_place {t : List Nd} {a : Nat} (h : 0 ≤ endV t (a : Int)) {i : Nat} (hi : i < kidsN (t.getD a nd0)) : ∃ q : Nat, (pts10 t (a : Int)).getD i 0 = (q : Int) ∧ q < t.length ∧ 0 ≤ endV t (q : Int) := by
  obtain ⟨_, _, hc, h1, _⟩ := end_parts h
  have hc2 : chain t (kidsN (t.getD a nd0)) ((a : Int) + 1) = endV t (a : Int) := hc
  have hp := parts_in t (kidsN (t.getD a nd0)) ((a : Int) + 1) (by rw [hc2]; exact h) i hi
  have e : (pts10 t (a : Int)).getD i 0 = (partsGo t (kidsN (t.getD a nd0)) ((a : Int) + 1)).getD i 0 := rfl
  rw [← e] at hp
  obtain ⟨q, hq, hl⟩ := endV_place hp
  rw [hq] at hp
  exact ⟨q, hq, hl, hp⟩
theorem pts_len (t : List Nd) (a : Nat) : (pts10 t (a : Int)).length = kidsN (t.getD a nd0) := by
  unfold pts10
  rw [partsGo_len, Int.toNat_natCast]

/-! A tree of a function of a project without fault. -/
structure Tr10 (ps : List Pk) (t : List Nd) (m : Int) : Prop where
  good : Good10 t
  root : 0 ≤ endV t 0
  arg : ∀ n ∈ t, n.1 = 2 → 0 ≤ n.2.1 ∧ n.2.1 < m
  call : ∀ n ∈ t, n.1 = 8 → 0 ≤ at8 ps n.2.2.1 ∧ 0 ≤ atV (pkOf ps n.2.2.1).2.2 n.2.2.2 ∧ (fnOf10 ps n.2.2.1 n.2.2.2).2.1 = n.2.1
theorem tr_of {ps : List Pk} (h : faultV ps = (0, [], [])) {q fn : List UInt8} (h8 : 0 ≤ at8 ps q) (h7 : 0 ≤ atV (pkOf ps q).2.2 fn) : Tr10 ps (fnOf10 ps q fn).2.2 (fnOf10 ps q fn).2.1 := by
  have hz := faultV_zero (by rw [h])
  have hpj := hz.2.1
  have hq : pkOf ps q ∈ ps ∧ (pkOf ps q).1 = q := by
    rcases at8_is ps q with ⟨e, _⟩ | ⟨i, _, _, _, hm⟩
    · omega
    · exact pkOf_mem hm
  have hk : (atV (pkOf ps q).2.2 fn).toNat < (pkOf ps q).2.2.length := by
    rcases at7_is (pkOf ps q).2.2 fn with e | ⟨i, hi, e, _⟩
    · omega
    · rw [e, Int.toNat_natCast]; exact hi
  have hf := hz.2.2.2.2.1 (pkOf ps q) hq.1 _ hk
  have hpk := (projB_parts hpj).2.2 _ hq.1
  have hfb : funcB (fnOf10 ps q fn) = true := by
    refine (pkgB_parts hpk).2.2.2.2 _ ?_
    unfold fnOf10
    rw [List.getD_eq_getElem?_getD, List.getElem?_eq_getElem hk]
    exact List.getElem_mem hk
  unfold funcB at hfb
  rw [Bool.and_eq_true, Bool.and_eq_true] at hfb
  have ht := of_decide_eq_true hfb.2.2
  refine ⟨good_of hpj _ _, by rw [ht.2]; omega, fun n hn h2 => ?_, fun n hn h8 => ?_⟩
  · have hc := (callV_of hpj hq.1 hk hn hf).1
    have hb := nodeB_iff.1 (good_of hpj q _ n hn)
    unfold nodeP at hb
    have h0 : 0 ≤ n.2.1 := by rcases hb with h | h | h | h <;> omega
    refine ⟨h0, ?_⟩
    rcases Int.lt_or_le n.2.1 (fnOf10 ps q fn).2.1 with h | h
    · exact h
    · exact absurd ⟨h2, h⟩ hc
  · have hc : call9 ps (pkOf ps q) ((atV (pkOf ps q).2.2 fn).toNat : Int) n = 0 := Decidable.byContradiction fun e => (func9_zero hf n hn).2 ⟨h8, e⟩
    have hof : ofPk ps (pkOf ps q) n.2.2.1 = pkOf ps n.2.2.1 := by
      unfold ofPk
      split
      · rename_i e; rw [e, hq.2]
      · rfl
    unfold call9 at hc
    rw [hof] at hc
    split at hc
    · cases hc
    · rename_i hfar
      split at hc
      · cases hc
      · rename_i h2
        split at hc
        · cases hc
        · rename_i h3
          refine ⟨?_, ?_, Decidable.byContradiction h3⟩
          · rcases Int.lt_or_le (at8 ps n.2.2.1) 0 with h | h
            · by_cases e : n.2.2.1 = (pkOf ps q).1
              · rw [e, hq.2] at h; omega
              · exact absurd (decide_eq_true ⟨e, Or.inr h⟩) hfar
            · exact h
          · rcases Int.lt_or_le (atV (pkOf ps n.2.2.1).2.2 n.2.2.2) 0 with h | h
            · exact absurd (Or.inl h) h2
            · exact h

end Go.Proofs.YtkjojhkpoooimaaGreat

/-! Plain facts of chapter 11: a tree is a node and its parts; what is made of it. -/
namespace Go.Proofs.YtkjojhkpoooimaaGreat
open Go.RowKit

/-- One whole tree: a node, and its parts one behind the other. -/
inductive One : List Nd → Prop
  | mk (n : Nd) (ks : List (List Nd)) : nodeB n = true → ks.length = kidsN n → (∀ k ∈ ks, One k) → One (n :: ks.flatten)
theorem One.pos {s : List Nd} (h : One s) : 0 < s.length := by cases h; simp
theorem ones_end : ∀ (ks : List (List Nd)) (post : List Nd), (∀ k ∈ ks, ∀ post, endGo (k ++ post) 1 = some k.length) → endGo (ks.flatten ++ post) ks.length = some ks.flatten.length
  | [], post, _ => by simp [endGo_zero]
  | k :: r, post, h => by
    have h1 := h k List.mem_cons_self (r.flatten ++ post)
    have h2 := ones_end r post (fun x hx => h x (List.mem_cons_of_mem _ hx))
    rw [List.flatten_cons, List.append_assoc, List.length_cons, Nat.add_comm, endGo_add, h1]
    simp only [Option.bind_some, List.drop_left, h2, Option.map_some, List.length_append]
theorem One.end_ {s : List Nd} (h : One s) : ∀ post, endGo (s ++ post) 1 = some s.length := by
  induction h with
  | mk n ks hn hk _ ih =>
    intro post
    have h2 := ones_end ks post ih
    rw [List.cons_append, endGo_cons, if_pos hn, Nat.zero_add, ← hk, h2]
    simp
/-- What is left open is so many trees. -/
theorem parse : ∀ (l : List Nd) (o d : Nat), endGo l o = some d → ∃ ks : List (List Nd), ks.length = o ∧ (∀ k ∈ ks, One k) ∧ l.take d = ks.flatten
  | l, 0, d, h => by
    rw [endGo_zero] at h
    injection h with h
    subst h
    exact ⟨[], rfl, (fun k hk => by cases hk), by simp⟩
  | [], o + 1, d, h => by rw [endGo_nil] at h; cases h
  | n :: r, o + 1, d, h => by
    rw [endGo_cons] at h
    split at h
    · rename_i hn
      cases he : endGo r (o + kidsN n) with
      | none => rw [he] at h; cases h
      | some e =>
        rw [he] at h
        simp only [Option.map_some, Option.some.injEq] at h
        subst h
        obtain ⟨ks, hl, ho, hf⟩ := parse r (o + kidsN n) e he
        refine ⟨(n :: (ks.take (kidsN n)).flatten) :: ks.drop (kidsN n), by simp; omega, fun k hk => ?_, ?_⟩
        · rcases List.mem_cons.1 hk with e1 | e1
          · rw [e1]
            exact One.mk n _ hn (by simp; omega) (fun k hk => ho k (List.mem_of_mem_take hk))
          · exact ho k (List.mem_of_mem_drop e1)
        · rw [List.take_succ_cons, hf, List.flatten_cons, List.cons_append, ← List.flatten_append, List.take_append_drop]
    · cases h
theorem one_of_end {l : List Nd} {d : Nat} (h : endGo l 1 = some d) : One (l.take d) := by
  obtain ⟨ks, hl, ho, hf⟩ := parse l 1 d h
  obtain ⟨k, rfl⟩ : ∃ k, ks = [k] := List.length_eq_one_iff.1 hl
  rw [hf]
  simpa using ho k (by simp)
theorem One.pre {a b x y : List Nd} (ha : One a) (hb : One b) (h : a ++ x = b ++ y) : a = b ∧ x = y := by
  have h1 := ha.end_ x
  rw [h, hb.end_ y] at h1
  injection h1 with h1
  exact List.append_inj h h1.symm
theorem ones_inj : ∀ {ks js : List (List Nd)}, (∀ k ∈ ks, One k) → (∀ k ∈ js, One k) → ks.length = js.length → ks.flatten = js.flatten → ks = js
  | [], [], _, _, _, _ => rfl
  | [], _ :: _, _, _, h, _ => by cases h
  | _ :: _, [], _, _, h, _ => by cases h
  | a :: r, b :: t, ha, hb, hl, hf => by
    rw [List.flatten_cons, List.flatten_cons] at hf
    obtain ⟨rfl, h2⟩ := (ha a List.mem_cons_self).pre (hb b List.mem_cons_self) hf
    rw [ones_inj (fun k hk => ha k (List.mem_cons_of_mem _ hk)) (fun k hk => hb k (List.mem_cons_of_mem _ hk)) (by simpa using hl) h2]

/-! Trees in a list. -/
theorem endV_sub {t s post : List Nd} {a : Nat} (h : t.drop a = s ++ post) (hs : One s) : endV t (a : Int) = ((a + s.length : Nat) : Int) := by
  have ha : a < t.length := by
    rcases Nat.lt_or_ge a t.length with h1 | h1
    · exact h1
    · rw [List.drop_eq_nil_of_le h1] at h
      have := hs.pos
      have h2 := congrArg List.length h
      simp at h2
      omega
  rw [endV_nat]
  unfold endN
  rw [if_pos ha, h, hs.end_ post]
  simp
theorem sub_of {t : List Nd} {a : Nat} (h : 0 ≤ endV t (a : Int)) : ∃ s post, t.drop a = s ++ post ∧ One s := by
  rw [endV_nat] at h
  unfold endN at h
  split at h
  · cases he : endGo (t.drop a) 1 with
    | none => rw [he] at h; simp at h
    | some d => exact ⟨_, _, (List.take_append_drop d (t.drop a)).symm, one_of_end he⟩
  · omega
theorem treeB_one {t : List Nd} : treeB t = true ↔ (t.length ≤ 60 ∧ One t) := by
  constructor
  · intro h
    have h1 := of_decide_eq_true h
    refine ⟨h1.1.2, ?_⟩
    obtain ⟨s, post, e, hs⟩ := sub_of (t := t) (a := 0) (by rw [show ((0 : Nat) : Int) = 0 from rfl, h1.2]; omega)
    have h2 := endV_sub e hs
    rw [show ((0 : Nat) : Int) = 0 from rfl, h1.2] at h2
    rw [List.drop_zero] at e
    have h3 := congrArg List.length e
    rw [List.length_append] at h3
    have h4 : post = [] := List.eq_nil_of_length_eq_zero (by omega)
    rw [e, h4, List.append_nil]
    exact hs
  · rintro ⟨h1, h2⟩
    have h3 := endV_sub (t := t) (a := 0) (post := []) (by simp) h2
    refine decide_eq_true ⟨⟨h2.pos, h1⟩, ?_⟩
    rw [show (0 : Int) = ((0 : Nat) : Int) from rfl, h3]
    simp
theorem chain_succ11 (l : List Nd) : ∀ (k : Nat) (q : Int), chain l (k + 1) q = endV l (chain l k q)
  | 0, _ => rfl
  | k + 1, q => by rw [chain, chain_succ11 l k]; rfl
/-- The parts of a node lie one behind the other. -/
theorem chain_sub {t post : List Nd} {a : Nat} {n : Nd} {ks : List (List Nd)} (h : t.drop a = (n :: ks.flatten) ++ post) (ho : ∀ k ∈ ks, One k) : ∀ i, i ≤ ks.length → chain t i ((a + 1 : Nat) : Int) = ((a + 1 + (ks.take i).flatten.length : Nat) : Int) ∧ t.drop (a + 1 + (ks.take i).flatten.length) = (ks.drop i).flatten ++ post
  | 0, _ => by
    refine ⟨by simp [chain], ?_⟩
    have h1 : t.drop (a + 1) = ks.flatten ++ post := by rw [← List.drop_drop, h]; rfl
    simpa using h1
  | i + 1, hi => by
    obtain ⟨e1, e2⟩ := chain_sub h ho i (by omega)
    have hi2 : i < ks.length := by omega
    have hd : (ks.drop i).flatten = ks[i] ++ (ks.drop (i + 1)).flatten := by rw [List.drop_eq_getElem_cons hi2, List.flatten_cons]
    have ht : (ks.take (i + 1)).flatten.length = (ks.take i).flatten.length + ks[i].length := by
      rw [List.take_succ_eq_append_getElem hi2, List.flatten_append, List.length_append]
      simp
    rw [hd, List.append_assoc] at e2
    have h3 := endV_sub e2 (ho _ (List.getElem_mem hi2))
    refine ⟨by rw [chain_succ11, e1, h3, ht]; omega, ?_⟩
    rw [ht, ← Nat.add_assoc, ← List.drop_drop, e2, List.drop_left]

end Go.Proofs.YtkjojhkpoooimaaGreat
