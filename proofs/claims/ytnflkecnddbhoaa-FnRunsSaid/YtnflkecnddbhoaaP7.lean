/-
  Parts of one proof, one behind the other: Math9L, Math10, Math10L, Math10T.
-/
import Derived.Test.YtnflkecnddbhoaaP6

/-! Plain facts of chapter 9: what FnFaults tests. -/
namespace Go.Proofs.Ytnflkecnddbhoaa
open Go.RowKit

theorem pkOf_nm {ps : List Pk} (hn : (names8 ps).Nodup) {i : Nat} (hi : i < ps.length) : pkOf ps (nmAt ps i) = ps.getD i pk0 := by
  unfold pkOf
  rcases at8_is ps (nmAt ps i) with ⟨_, e⟩ | ⟨j, hj, e, hnm, _⟩
  · exact absurd (nmAt_mem hi) e
  · rw [e]
    have := nmAt_inj hn hj hi hnm
    subst this
    rfl
theorem pkOf_mem {ps : List Pk} {x : List UInt8} (hx : x ∈ names8 ps) : pkOf ps x ∈ ps ∧ (pkOf ps x).1 = x := by
  rcases at8_is ps x with ⟨_, e⟩ | ⟨j, hj, e, hnm, _⟩
  · exact absurd hx e
  · unfold pkOf
    rw [e]
    exact ⟨getD_mem_pk hj, hnm⟩
theorem pkOf_self {ps : List Pk} (hn : (names8 ps).Nodup) {p : Pk} (hp : p ∈ ps) : pkOf ps p.1 = p := by
  obtain ⟨i, hi, rfl⟩ := List.mem_iff_getElem.1 hp
  have e : ps.getD i pk0 = ps[i] := by simp [List.getD, hi]
  have := pkOf_nm hn hi
  unfold nmAt at this
  rw [e] at this
  exact this
theorem ord9_mem {ps : List Pk} (h : projB ps = true) {x : List UInt8} : x ∈ ord9 ps ↔ x ∈ names8 ps := by
  unfold ord9
  rw [List.mem_append, List.mem_filter, decide_eq_true_eq]
  constructor
  · rintro (e | e)
    · exact (order8_end h).1.sub x e
    · exact e.1
  · intro e
    rcases Decidable.em (x ∈ order8 ps) with h1 | h1
    · exact Or.inl h1
    · exact Or.inr ⟨e, h1⟩
/-- What a fault says of itself. -/
structure Flt9 (ps : List Pk) (f : Flt) : Prop where
  lo : 1 ≤ f.1
  hi : f.1 ≤ 4
  fn : f.2.2 ≠ [] ↔ 3 ≤ f.1
theorem name_ne {x : List UInt8} (h : nameB x = true) : x ≠ [] := fun e => by
  have := (name_letters h).1.1
  rw [e] at this
  simp at this
theorem fnsGo_val {ps : List Pk} {p : Pk} : ∀ (fs : List Fn) (k : Nat), (∀ f ∈ fs, f.1 ≠ []) → ∀ f, fnsGo ps p fs k = some f → Flt9 ps f
  | [], _, _, f, h => by simp [fnsGo] at h
  | g :: r, k, hf, f, h => by
    rw [fnsGo] at h
    split at h
    · rename_i h0
      injection h with h
      subst h
      have := func9_val ps p k
      exact ⟨by simp only; omega, by simp only; omega, ⟨fun _ => by simp only; omega, fun _ => hf g List.mem_cons_self⟩⟩
    · exact fnsGo_val r (k + 1) (fun q hq => hf q (List.mem_cons_of_mem _ hq)) f h
theorem fnsGo_none {ps : List Pk} {p : Pk} : ∀ (fs : List Fn) (k : Nat), fnsGo ps p fs k = none → ∀ i, i < fs.length → func9 ps p (k + i) = 0
  | [], _, _, i, hi => by simp at hi
  | g :: r, k, h, i, hi => by
    rw [fnsGo] at h
    split at h
    · simp at h
    · rename_i h0
      cases i with
      | zero => simpa using h0
      | succ i =>
        have := fnsGo_none r (k + 1) h i (by simpa using hi)
        rw [show k + (i + 1) = k + 1 + i by omega]
        exact this
theorem pk9_val {ps : List Pk} {done i : Nat} {p : Pk} (hp : ∀ f ∈ p.2.2, f.1 ≠ []) {f : Flt} (h : pk9 ps done i p = some f) : Flt9 ps f := by
  unfold pk9 at h
  split at h
  · injection h with h; subst h; exact ⟨by simp, by simp, by simp⟩
  · split at h
    · injection h with h; subst h; exact ⟨by simp, by simp, by simp⟩
    · exact fnsGo_val _ _ hp f h
theorem fltGo_val {ps : List Pk} {done : Nat} (hp : ∀ p ∈ ps, ∀ f ∈ p.2.2, f.1 ≠ []) : ∀ (l : List (List UInt8)) (i : Nat), (∀ x ∈ l, x ∈ names8 ps) → ∀ f, fltGo ps done l i = some f → Flt9 ps f
  | [], _, _, f, h => by simp [fltGo] at h
  | x :: r, i, hl, f, h => by
    rw [fltGo] at h
    rcases hk : pk9 ps done i (pkOf ps x) with _ | g
    · rw [hk] at h
      exact fltGo_val hp r (i + 1) (fun y hy => hl y (List.mem_cons_of_mem _ hy)) f h
    · rw [hk] at h
      injection h with h
      subst h
      exact pk9_val (hp _ (pkOf_mem (hl x List.mem_cons_self)).1) hk
theorem fltGo_none {ps : List Pk} {done : Nat} : ∀ (l : List (List UInt8)) (i : Nat), fltGo ps done l i = none → ∀ k, k < l.length → pk9 ps done (i + k) (pkOf ps (l.getD k [])) = none
  | [], _, _, k, hk => by simp at hk
  | x :: r, i, h, k, hk => by
    rw [fltGo] at h
    rcases hp : pk9 ps done i (pkOf ps x) with _ | g
    · rw [hp] at h
      cases k with
      | zero => simpa using hp
      | succ k =>
        have := fltGo_none r (i + 1) h k (by simpa using hk)
        rw [show i + (k + 1) = i + 1 + k by omega]
        simpa using this
    · rw [hp] at h; simp at h
theorem names_ne {ps : List Pk} (h : projB ps = true) : ∀ p ∈ ps, ∀ f ∈ p.2.2, f.1 ≠ [] := fun p hp f hf => by
  have h1 := (pkgB_parts ((projB_parts h).2.2 p hp)).2.2.2.2 f hf
  unfold funcB at h1
  rw [Bool.and_eq_true] at h1
  exact name_ne h1.1
theorem node_of9 {ps : List Pk} (h : projB ps = true) {p : Pk} (hp : p ∈ ps) {k : Nat} (hk : k < p.2.2.length) {n : Nd} (hn : n ∈ (p.2.2.getD k fn0).2.2) : nodeB n = true := by
  have hm : p.2.2.getD k fn0 ∈ p.2.2 := by simp [List.getD, hk]
  have h1 := (pkgB_parts ((projB_parts h).2.2 p hp)).2.2.2.2 _ hm
  unfold funcB at h1
  rw [Bool.and_eq_true, Bool.and_eq_true] at h1
  exact tree_nodes h1.2.2 n hn

/-- A fault's number tells what it is. -/
theorem faultV_law (ps : List Pk) (h0 : (faultV ps).1 ≠ 0) : 1 ≤ (faultV ps).1 ∧ (faultV ps).1 ≤ 6 ∧ ((faultV ps).1 = 6 ↔ projB ps = false) ∧ ((faultV ps).2.2 ≠ [] ↔ 3 ≤ (faultV ps).1 ∧ (faultV ps).1 ≤ 5) := by
  unfold faultV at h0 ⊢
  rcases hp : projB ps with _ | _
  · rw [if_neg (by simp)]; simp
  · rw [hp, if_pos rfl] at h0
    rw [if_pos rfl]
    unfold fault9 at h0 ⊢
    rcases hf : fltGo ps (order8 ps).length (ord9 ps) 0 with _ | f
    · rw [hf] at h0
      simp only at h0 ⊢
      unfold main9 at h0 ⊢
      split
      · rename_i hm; rw [if_pos hm] at h0; simp at h0
      · simp [mainT]
    · have := fltGo_val (names_ne hp) _ _ (fun x hx => (ord9_mem hp).1 hx) f hf
      have h1 := this.lo
      have h2 := this.hi
      have h3 := this.fn
      simp only
      refine ⟨h1, by omega, ⟨fun e => by omega, fun e => by simp at e⟩, h3.trans ⟨fun e => ⟨e, by omega⟩, fun e => e.1⟩⟩
/-- Where nothing is wrong. -/
theorem faultV_zero {ps : List Pk} (h0 : (faultV ps).1 = 0) : faultV ps = (0, [], []) ∧ projB ps = true ∧ (order8 ps).length = ps.length ∧ (∀ p ∈ ps, ∀ m ∈ p.2.1, m ∈ names8 ps) ∧ (∀ p ∈ ps, ∀ k, k < p.2.2.length → func9 ps p k = 0) ∧
    (0 ≤ at8 ps mainT ∧ 0 ≤ atV (pkOf ps mainT).2.2 mainT ∧ ((pkOf ps mainT).2.2.getD (atV (pkOf ps mainT).2.2 mainT).toNat fn0).2.1 = 1) := by
  unfold faultV at h0 ⊢
  rcases hp : projB ps with _ | _
  · rw [hp, if_neg (by simp)] at h0; simp at h0
  · rw [hp, if_pos rfl] at h0
    rw [if_pos rfl]
    unfold fault9 at h0 ⊢
    rcases hf : fltGo ps (order8 ps).length (ord9 ps) 0 with _ | f
    · rw [hf] at h0
      simp only at h0 ⊢
      have hm : 0 ≤ at8 ps mainT ∧ 0 ≤ atV (pkOf ps mainT).2.2 mainT ∧ ((pkOf ps mainT).2.2.getD (atV (pkOf ps mainT).2.2 mainT).toNat fn0).2.1 = 1 := by
        unfold main9 at h0
        exact Decidable.byContradiction fun e => by rw [if_neg e] at h0; simp at h0
      have hnone := fltGo_none _ _ hf
      have hnd := (projB_parts hp).1.nodup
      have hlen : (ord9 ps).length ≤ (order8 ps).length := by
        rcases Nat.lt_or_ge (order8 ps).length (ord9 ps).length with hl | hl
        · have := hnone (order8 ps).length hl
          unfold pk9 at this
          split at this
          · simp at this
          · rw [if_pos (by omega)] at this; simp at this
        · exact hl
      have hall : ∀ x ∈ names8 ps, x ∈ order8 ps := fun x hx => by
        have he : (names8 ps).filter (fun x => decide (¬ x ∈ order8 ps)) = [] := by
          apply List.eq_nil_of_length_eq_zero
          unfold ord9 at hlen
          rw [List.length_append] at hlen
          omega
        rw [List.filter_eq_nil_iff] at he
        have := he x hx
        rw [decide_eq_true_eq] at this
        exact Decidable.byContradiction this
      have hpk : ∀ p ∈ ps, ¬ miss9 ps p ∧ fnsGo ps p p.2.2 0 = none := fun p hpm => by
        have hx : p.1 ∈ names8 ps := List.mem_map.2 ⟨p, hpm, rfl⟩
        obtain ⟨k, hk, e⟩ := List.mem_iff_getElem.1 ((ord9_mem hp).2 hx)
        have h1 := hnone k hk
        rw [show (ord9 ps).getD k [] = p.1 by simp [List.getD, hk, e], pkOf_self hnd hpm] at h1
        unfold pk9 at h1
        split at h1
        · simp at h1
        · rename_i hm
          split at h1
          · simp at h1
          · exact ⟨hm, h1⟩
      refine ⟨by unfold main9; rw [if_pos hm], trivial, ?_, fun p hpm m hmm => ?_, fun p hpm k hk => ?_, hm⟩
      · have h1 := (order8_end hp).1.len
        have h2 := hnd.length_le_of_subset (fun x hx => hall x hx)
        have h3 : (names8 ps).length = ps.length := by simp [names8]
        omega
      · refine (at8_mem ps m).1 ?_
        have h1 := (hpk p hpm).1
        unfold miss9 at h1
        rcases Int.lt_or_le (at8 ps m) 0 with h2 | h2
        · exact absurd ⟨m, hmm, h2⟩ h1
        · exact h2
      · have := fnsGo_none _ _ (hpk p hpm).2 k hk
        simpa using this
    · rw [hf] at h0
      have := (fltGo_val (names_ne hp) _ _ (fun x hx => (ord9_mem hp).1 hx) f hf).lo
      simp only at h0
      omega
/-- A call that the law asks of each node. -/
theorem callV_of {ps : List Pk} (h : projB ps = true) {p : Pk} (hp : p ∈ ps) {k : Nat} (hk : k < p.2.2.length) {n : Nd} (hn : n ∈ (p.2.2.getD k fn0).2.2) (hf : func9 ps p k = 0) : ¬ arg9 (p.2.2.getD k fn0) n ∧ (n.1 = 8 → callV ps p.1 (k : Int) n = 0) := by
  obtain ⟨h1, h2⟩ := func9_zero hf n hn
  refine ⟨h1, fun h8 => ?_⟩
  have hc : call9 ps p (k : Int) n = 0 := Decidable.byContradiction fun e => h2 ⟨h8, e⟩
  have hnd := (projB_parts h).1.nodup
  have hpo := pkOf_self hnd hp
  unfold callV
  rw [if_pos ⟨h, (at8_mem ps p.1).2 (List.mem_map.2 ⟨p, hp, rfl⟩), node_of9 h hp hk hn, h8, by omega, by rw [hpo]; omega⟩, hpo]
  exact hc

/-! What FnCalls looks for. -/
theorem at7Go_is (s : List UInt8) : ∀ (fs : List Fn) (k : Nat), atGo s fs k = -1 ∨ ∃ i, i < fs.length ∧ atGo s fs k = ((k + i : Nat) : Int) ∧ (fs.getD i fn0).1 = s
  | [], k => Or.inl rfl
  | p :: r, k => by
    rw [atGo]
    by_cases h : p.1 = s
    · rw [if_pos h]; exact Or.inr ⟨0, by simp, by simp, by simpa using h⟩
    · rw [if_neg h]
      rcases at7Go_is s r (k + 1) with e | ⟨i, hi, e, hn⟩
      · exact Or.inl e
      · exact Or.inr ⟨i + 1, by simpa using hi, by rw [e]; congr 1; omega, by simpa using hn⟩
theorem at7_is (fs : List Fn) (s : List UInt8) : atV fs s = -1 ∨ ∃ i, i < fs.length ∧ atV fs s = (i : Int) ∧ (fs.getD i fn0).1 = s := by
  rcases at7Go_is s fs 0 with e | ⟨i, hi, e, hn⟩
  · exact Or.inl e
  · exact Or.inr ⟨i, hi, by unfold atV; rw [e]; congr 1; omega, hn⟩
theorem pk_at {p : Pk} (h : pkgB p = true) {i : Nat} (hi : i < p.2.2.length) : atV p.2.2 (p.2.2.getD i fn0).1 = (i : Int) := by
  unfold pkgB at h
  rw [Bool.and_eq_true, decide_eq_true_eq] at h
  exact (h.2 i hi).2
/-- A function that the law finds. -/
def hit9 (ps : List Pk) (s : List UInt8) (at_ : Int) (n : Nd) (j m : Nat) : Prop := nmAt ps j = n.2.2.1 ∧ ((ps.getD j pk0).2.2.getD m fn0).1 = n.2.2.2 ∧ ((ps.getD j pk0).2.2.getD m fn0).2.1 = n.2.1 ∧ (n.2.2.1 ≠ s ∨ (m : Int) < at_)
def ok9 (ps : List Pk) (s : List UInt8) (n : Nd) (i : Nat) : Prop := n.2.2.1 = s ∨ n.2.2.1 ∈ imsAt ps i
def found9 (ps : List Pk) (s : List UInt8) (at_ : Int) (n : Nd) : Prop := ∃ i, i < ps.length ∧ nmAt ps i = s ∧ ok9 ps s n i ∧ ∃ j, j < ps.length ∧ ∃ m, m < (ps.getD j pk0).2.2.length ∧ hit9 ps s at_ n j m
theorem found9_law {ps : List Pk} {s : List UInt8} {at_ : Int} {n : Nd} (h : callB ps s at_ n) : found9 ps s at_ n ↔ callV ps s at_ n = 0 := by
  obtain ⟨hp, hs, _, _, _, _⟩ := id h
  have hnd := (projB_parts hp).1.nodup
  have hsn := (at8_mem ps s).1 hs
  obtain ⟨hpm, hp1⟩ := pkOf_mem hsn
  unfold callV
  rw [if_pos h]
  obtain ⟨p, hpe⟩ : ∃ p, pkOf ps s = p := ⟨_, rfl⟩
  rw [hpe] at hpm hp1 ⊢
  -- the package that a place of the name n's is
  have hq : ∀ j, j < ps.length → nmAt ps j = n.2.2.1 → ofPk ps p n.2.2.1 = ps.getD j pk0 := fun j hj e => by
    unfold ofPk
    rw [← e]
    by_cases h1 : nmAt ps j = p.1
    · rw [if_pos h1]
      have := pkOf_nm hnd hj
      rw [h1, pkOf_self hnd hpm] at this
      exact this
    · rw [if_neg h1]
      exact pkOf_nm hnd hj
  have hi0 : ∀ i, i < ps.length → nmAt ps i = s → ps.getD i pk0 = p := fun i hi e => by
    have := pkOf_nm hnd hi
    rw [e, hpe] at this
    exact this.symm
  constructor
  · rintro ⟨i, hi, hnm, hok, j, hj, m, hm, h1, h2, h3, h4⟩
    have hqj := hq j hj h1
    have hip := hi0 i hi hnm
    have hpg := (projB_parts hp).2.2 _ (getD_mem_pk hj)
    have hat := pk_at hpg hm
    rw [h2] at hat
    unfold call9
    rw [hqj, hat, Int.toNat_natCast, if_neg, if_neg, if_neg]
    · exact fun e => e h3
    · rintro (e | ⟨e1, e2⟩)
      · omega
      · rcases h4 with h4 | h4
        · exact h4 (by rw [e1, hp1])
        · omega
    · unfold farB
      rw [decide_eq_true_eq]
      rintro ⟨e1, e2⟩
      rcases hok with hok | hok
      · exact e1 (by rw [hp1]; exact hok)
      · rcases e2 with e2 | e2
        · unfold imsAt at hok; rw [hip] at hok; exact e2 hok
        · have := (at8_mem ps n.2.2.1).2 (by rw [← h1]; exact nmAt_mem hj); omega
  · intro h0
    unfold call9 at h0
    split at h0
    · omega
    · rename_i hfar
      split at h0
      · omega
      · rename_i hk
        split at h0
        · omega
        · rename_i ha
          have hfar2 : n.2.2.1 = p.1 ∨ (n.2.2.1 ∈ p.2.1 ∧ 0 ≤ at8 ps n.2.2.1) := by
            unfold farB at hfar
            rw [decide_eq_true_eq] at hfar
            by_cases e : n.2.2.1 = p.1
            · exact Or.inl e
            · refine Or.inr ⟨Decidable.byContradiction fun e2 => hfar ⟨e, Or.inl e2⟩, ?_⟩
              rcases Int.lt_or_le (at8 ps n.2.2.1) 0 with e3 | e3
              · exact absurd ⟨e, Or.inr e3⟩ hfar
              · exact e3
          have hnn : n.2.2.1 ∈ names8 ps := by
            rcases hfar2 with e | ⟨_, e⟩
            · rw [e, hp1]; exact hsn
            · exact (at8_mem ps _).1 e
          obtain ⟨j, hj, hjn⟩ : ∃ j, j < ps.length ∧ nmAt ps j = n.2.2.1 := by
            rcases at8_is ps n.2.2.1 with ⟨_, e⟩ | ⟨j, hj, _, e, _⟩
            · exact absurd hnn e
            · exact ⟨j, hj, e⟩
          obtain ⟨i, hi, hin⟩ : ∃ i, i < ps.length ∧ nmAt ps i = s := by
            rcases at8_is ps s with ⟨_, e⟩ | ⟨i, hi, _, e, _⟩
            · exact absurd hsn e
            · exact ⟨i, hi, e⟩
          have hqj := hq j hj hjn
          have hip := hi0 i hi hin
          rw [hqj] at hk ha
          rcases at7_is (ps.getD j pk0).2.2 n.2.2.2 with e | ⟨m, hm, e, hmn⟩
          · rw [e] at hk; omega
          · rw [e] at hk ha
            rw [Int.toNat_natCast] at ha
            refine ⟨i, hi, hin, ?_, j, hj, m, hm, hjn, hmn, Decidable.byContradiction fun e3 => ha e3, ?_⟩
            · rcases hfar2 with e2 | ⟨e2, _⟩
              · exact Or.inl (by rw [e2, hp1])
              · exact Or.inr (by unfold imsAt; rw [hip]; exact e2)
            · by_cases e2 : n.2.2.1 = s
              · right
                rcases Int.lt_or_le (m : Int) at_ with e3 | e3
                · exact e3
                · exact absurd (Or.inr ⟨by rw [hp1]; exact e2, e3⟩) hk
              · exact Or.inl e2

end Go.Proofs.Ytnflkecnddbhoaa

/-! Plain facts of chapter 10: what a tree means, tree by tree; fuel. -/
namespace Go.Proofs.Ytnflkecnddbhoaa
open Go.RowKit

/-! A walk: what fuel is left, and why it stopped. -/
abbrev St10 := Nat × Int
abbrev Cmp10 := St10 → Int × St10
def bind10 (C : Cmp10) (D : Int → Cmp10) : Cmp10 := fun s => D (C s).1 (C s).2
def fin10 (v : Int) (ok : Bool) : Cmp10 := fun s => if s.2 ≠ 0 then (0, s) else if ok = true then (v, s) else (0, (s.1, 1))
def tick10 (C : Cmp10) : Cmp10 := fun s => if s.2 ≠ 0 then (0, s) else if s.1 = 0 then (0, (0, 2)) else C (s.1 - 1, s.2)
def args10 (R : Int → Cmp10) : List Int → List Int → (List Int → Cmp10) → Cmp10
  | [], acc, K => K acc
  | p :: r, acc, K => bind10 (R p) (fun v => args10 R r (acc ++ [v]) K)
abbrev Rec10 := List Nd → Int → List Int → Cmp10
/-- The parts of a node, and the tree of the function that a call is of. -/
def pts10 (t : List Nd) (a : Int) : List Int := partsGo t (kidsN (t.getD a.toNat nd0)) (a + 1)
def tree10 (ps : List Pk) (n : Nd) : List Nd := ((pkOf ps n.2.2.1).2.2.getD (atV (pkOf ps n.2.2.1).2.2 n.2.2.2).toNat fn0).2.2
def node10 (ps : List Pk) (R : Rec10) (t : List Nd) (a : Int) (xs : List Int) (n : Nd) : Cmp10 :=
  if n.1 = 1 then fin10 n.2.1 true
  else if n.1 = 2 then fin10 (xs.getD n.2.1.toNat 0) true
  else if n.1 = 7 then bind10 (R t ((pts10 t a).getD 0 0) xs) (fun k => if k ≠ 0 then R t ((pts10 t a).getD 1 0) xs else R t ((pts10 t a).getD 2 0) xs)
  else if n.1 = 8 then args10 (fun p => R t p xs) (pts10 t a) [] (fun own => R (tree10 ps n) 0 own)
  else bind10 (R t ((pts10 t a).getD 0 0) xs) (fun x => bind10 (R t ((pts10 t a).getD 1 0) xs) (fun y => fin10 (doneV n.1 x y) (doneB n.1 x y)))
def step10 (ps : List Pk) (R : Rec10) : Rec10 := fun t a xs => tick10 (node10 ps R t a xs (t.getD a.toNat nd0))
def val10 (ps : List Pk) : Nat → Rec10
  | 0 => fun _ _ _ s => (0, s)
  | d + 1 => step10 ps (val10 ps d)

/-! What every such walk keeps. -/
structure Sk10 (C : Cmp10) : Prop where
  stop : ∀ s : St10, s.2 ≠ 0 → C s = (0, s)
  less : ∀ s, (C s).2.1 ≤ s.1
  zero : ∀ s, (C s).2.2 ≠ 0 → (C s).1 = 0
  dry : ∀ s : St10, s.2 = 0 → (C s).2.2 = 2 → (C s).2.1 = 0
  code : ∀ s : St10, s.2 = 0 → (C s).2.2 = 0 ∨ (C s).2.2 = 1 ∨ (C s).2.2 = 2
  more : ∀ f k, k ≤ (C (f + k, 0)).2.1 → C (f, 0) = ((C (f + k, 0)).1, ((C (f + k, 0)).2.1 - k, (C (f + k, 0)).2.2))
  fall : ∀ f k, (C (f + k, 0)).2.1 < k → C (f, 0) = (0, (0, 2))
theorem Sk10.bind {C : Cmp10} {D : Int → Cmp10} (hC : Sk10 C) (hD : ∀ v, Sk10 (D v)) : Sk10 (bind10 C D) where
  stop s h := by unfold bind10; rw [hC.stop s h]; exact (hD 0).stop s h
  less s := Nat.le_trans ((hD _).less _) (hC.less s)
  zero s h := (hD _).zero _ h
  dry s h h2 := by
    unfold bind10 at h2 ⊢
    by_cases hc : (C s).2.2 = 0
    · exact (hD _).dry _ hc h2
    · rw [(hD _).stop _ hc] at h2 ⊢
      exact hC.dry s h h2
  code s h := by
    unfold bind10
    by_cases hc : (C s).2.2 = 0
    · exact (hD _).code _ hc
    · rw [(hD _).stop _ hc]
      exact hC.code s h
  more f k h := by
    unfold bind10 at h ⊢
    have h1 : k ≤ (C (f + k, 0)).2.1 := Nat.le_trans h ((hD _).less _)
    rw [hC.more f k h1]
    generalize C (f + k, 0) = r at h h1 ⊢
    obtain ⟨v, l, c⟩ := r
    simp only at h h1 ⊢
    by_cases hc : c = 0
    · subst hc
      obtain ⟨m, rfl⟩ : ∃ m, l = m + k := ⟨l - k, by omega⟩
      rw [Nat.add_sub_cancel]
      exact (hD v).more m k h
    · rw [(hD v).stop (l, c) hc, (hD v).stop (l - k, c) hc]
  fall f k h := by
    unfold bind10 at h ⊢
    by_cases h1 : k ≤ (C (f + k, 0)).2.1
    · rw [hC.more f k h1]
      generalize C (f + k, 0) = r at h h1 ⊢
      obtain ⟨v, l, c⟩ := r
      simp only at h h1 ⊢
      by_cases hc : c = 0
      · subst hc
        obtain ⟨m, rfl⟩ : ∃ m, l = m + k := ⟨l - k, by omega⟩
        rw [Nat.add_sub_cancel]
        exact (hD v).fall m k h
      · rw [(hD v).stop (l, c) hc] at h
        simp only at h
        omega
    · rw [hC.fall f k (by omega)]
      exact (hD 0).stop (0, 2) (by decide)
theorem Sk10.fin (v : Int) (ok : Bool) : Sk10 (fin10 v ok) where
  stop s h := by unfold fin10; rw [if_pos h]
  less s := by
    unfold fin10
    split
    · exact Nat.le_refl _
    · split <;> exact Nat.le_refl _
  zero s h := by
    unfold fin10 at h ⊢
    split
    · rfl
    · rename_i h1
      rw [if_neg h1] at h
      split
      · rename_i h2; rw [if_pos h2] at h; exact absurd h h1
      · rfl
  dry s h h2 := by
    unfold fin10 at h2
    rw [if_neg (fun e => e h)] at h2
    split at h2
    · rw [h] at h2; cases h2
    · cases h2
  code s h := by
    unfold fin10
    rw [if_neg (fun e => e h)]
    split
    · exact Or.inl h
    · exact Or.inr (Or.inl rfl)
  more f k h := by
    unfold fin10 at h ⊢
    cases ok <;> simp
  fall f k h := by
    have e : (fin10 v ok (f + k, 0)).2.1 = f + k := by unfold fin10; cases ok <;> simp
    rw [e] at h
    omega
theorem Sk10.tick {C : Cmp10} (hC : Sk10 C) : Sk10 (tick10 C) where
  stop s h := by unfold tick10; rw [if_pos h]
  less s := by
    unfold tick10
    split
    · exact Nat.le_refl _
    · split
      · exact Nat.zero_le _
      · exact Nat.le_trans (hC.less _) (Nat.sub_le _ _)
  zero s h := by
    unfold tick10 at h ⊢
    split
    · rfl
    · rename_i h1
      rw [if_neg h1] at h
      split
      · rfl
      · rename_i h2; rw [if_neg h2] at h; exact hC.zero _ h
  dry s h h2 := by
    unfold tick10 at h2 ⊢
    rw [if_neg (fun e => e h)] at h2 ⊢
    split
    · rfl
    · rename_i h3; rw [if_neg h3] at h2; exact hC.dry _ h h2
  code s h := by
    unfold tick10
    rw [if_neg (fun e => e h)]
    split
    · exact Or.inr (Or.inr rfl)
    · exact hC.code _ h
  more f k h := by
    unfold tick10 at h ⊢
    simp only [ne_eq, not_true_eq_false, if_false] at h ⊢
    by_cases hf : f = 0
    · subst hf
      by_cases hk : k = 0
      · subst hk; simp
      · rw [if_neg (by omega)] at h
        have := hC.less (0 + k - 1, 0)
        simp only at this
        omega
    · rw [if_neg (by omega)] at h
      rw [if_neg hf, if_neg (by omega)]
      rw [show f + k - 1 = (f - 1) + k by omega] at h ⊢
      exact hC.more (f - 1) k h
  fall f k h := by
    unfold tick10 at h ⊢
    simp only [ne_eq, not_true_eq_false, if_false] at h ⊢
    by_cases hf : f = 0
    · rw [if_pos hf]
    · rw [if_neg (by omega)] at h
      rw [if_neg hf]
      rw [show f + k - 1 = (f - 1) + k by omega] at h
      exact hC.fall (f - 1) k h
theorem Sk10.args {R : Int → Cmp10} (hR : ∀ p, Sk10 (R p)) {K : List Int → Cmp10} (hK : ∀ l, Sk10 (K l)) : ∀ (pa acc : List Int), Sk10 (args10 R pa acc K)
  | [], acc => hK acc
  | p :: r, acc => (hR p).bind (fun v => Sk10.args hR hK r (acc ++ [v]))
theorem Sk10.node {ps : List Pk} {R : Rec10} (hR : ∀ t a xs, Sk10 (R t a xs)) (t : List Nd) (a : Int) (xs : List Int) (n : Nd) : Sk10 (node10 ps R t a xs n) := by
  unfold node10
  split
  · exact Sk10.fin _ _
  · split
    · exact Sk10.fin _ _
    · split
      · refine (hR _ _ _).bind (fun k => ?_)
        split
        · exact hR _ _ _
        · exact hR _ _ _
      · split
        · exact Sk10.args (fun p => hR _ _ _) (fun l => hR _ _ _) _ _
        · exact (hR _ _ _).bind (fun x => (hR _ _ _).bind (fun y => Sk10.fin _ _))
theorem Sk10.val (ps : List Pk) : ∀ (d : Nat) (t : List Nd) (a : Int) (xs : List Int), Sk10 (val10 ps d t a xs)
  | 0, t, a, xs => ⟨(fun s _ => rfl), (fun s => Nat.le_refl _), (fun s _ => rfl), (fun s h h2 => by have e : s.2 = 2 := h2; rw [h] at e; cases e), (fun s h => Or.inl h), (fun f k _ => by simp [val10]), (fun f k h => by have e : f + k < k := h; omega)⟩
  | d + 1, t, a, xs => Sk10.tick (Sk10.node (fun t a xs => Sk10.val ps d t a xs) t a xs _)

/-! Words. -/
def Word10 (v : Int) : Prop := -2147483648 ≤ v ∧ v ≤ 2147483647
theorem word_zero : Word10 0 := ⟨by decide, by decide⟩
def Good10 (t : List Nd) : Prop := ∀ n ∈ t, nodeB n = true
theorem getD_word {xs : List Int} (h : ∀ x ∈ xs, Word10 x) (i : Nat) : Word10 (xs.getD i 0) := by
  by_cases hi : i < xs.length
  · have e : xs.getD i 0 = xs[i] := by simp [List.getD, hi]
    rw [e]; exact h _ (List.getElem_mem hi)
  · have e : xs.getD i 0 = 0 := by simp [List.getD, List.getElem?_eq_none (Nat.le_of_not_lt hi)]
    rw [e]; exact ⟨by decide, by decide⟩
theorem fin_word {v : Int} {ok : Bool} (h : Word10 v) (s : St10) : Word10 (fin10 v ok s).1 := by
  unfold fin10
  split
  · exact word_zero
  · split
    · exact h
    · exact word_zero
theorem args_word {R : Int → Cmp10} (hR : ∀ p s, Word10 (R p s).1) {K : List Int → Cmp10} (hK : ∀ l, (∀ x ∈ l, Word10 x) → ∀ s, Word10 (K l s).1) : ∀ (pa acc : List Int), (∀ x ∈ acc, Word10 x) → ∀ s, Word10 (args10 R pa acc K s).1
  | [], acc, ha, s => hK acc ha s
  | p :: r, acc, ha, s => args_word hR hK r (acc ++ [(R p s).1]) (fun x hx => by rcases List.mem_append.1 hx with h | h; exact ha x h; rw [List.mem_singleton.1 h]; exact hR p s) _
theorem val_word {ps : List Pk} (hg : ∀ n, Good10 (tree10 ps n)) : ∀ (d : Nat) (t : List Nd) (a : Int) (xs : List Int), Good10 t → (∀ x ∈ xs, Word10 x) → ∀ s, Word10 (val10 ps d t a xs s).1
  | 0, _, _, _, _, _, _ => word_zero
  | d + 1, t, a, xs, ht, hx, s => by
    have ih := val_word hg d
    show Word10 (tick10 (node10 ps (val10 ps d) t a xs (t.getD a.toNat nd0)) s).1
    have hn : t.getD a.toNat nd0 ∈ t ∨ t.getD a.toNat nd0 = nd0 := by
      by_cases hi : a.toNat < t.length
      · left; have e : t.getD a.toNat nd0 = t[a.toNat] := by simp [List.getD, hi]
        rw [e]; exact List.getElem_mem hi
      · right; simp [List.getD, List.getElem?_eq_none (Nat.le_of_not_lt hi)]
    generalize t.getD a.toNat nd0 = n at hn ⊢
    unfold tick10
    split
    · exact word_zero
    · split
      · exact word_zero
      · generalize (s.1 - 1, s.2) = s1
        unfold node10
        split
        · rename_i h1
          refine fin_word ?_ _
          rcases hn with hn | hn
          · have h2 := nodeB_iff.1 (ht n hn)
            unfold nodeP at h2
            rcases h2 with h2 | h2 | h2 | h2
            · exact h2.2.1
            · omega
            · omega
            · omega
          · rw [hn] at h1; cases h1
        · split
          · exact fin_word (getD_word hx _) _
          · split
            · unfold bind10
              dsimp only
              by_cases hk : (val10 ps d t ((pts10 t a).getD 0 0) xs s1).1 ≠ 0
              · rw [if_pos hk]; exact ih _ _ _ ht hx _
              · rw [if_neg hk]; exact ih _ _ _ ht hx _
            · split
              · exact args_word (fun p s => ih _ _ _ ht hx s) (fun l hl s => ih _ _ _ (hg n) hl s) _ _ (fun x hx => by cases hx) _
              · unfold bind10
                exact fin_word (doneV_bd _ _ _) _

end Go.Proofs.Ytnflkecnddbhoaa

/-! Plain facts of chapter 10: Meant, Burnt; what FnMeans tests. -/
namespace Go.Proofs.Ytnflkecnddbhoaa
open Go.RowKit

def fnOf10 (ps : List Pk) (nm fn : List UInt8) : Fn := (pkOf ps nm).2.2.getD (atV (pkOf ps nm).2.2 fn).toNat fn0
structure Ok10 (ps : List Pk) (nm fn : List UInt8) (xs : List Int) (fuel : Int) : Prop where
  flt : faultV ps = (0, [], [])
  at8 : 0 ≤ at8 ps nm
  fuel0 : 0 ≤ fuel
  fuel1 : fuel ≤ 20000
  at7 : 0 ≤ atV (pkOf ps nm).2.2 fn
  len : (xs.length : Int) = (fnOf10 ps nm fn).2.1
  word : ∀ x ∈ xs, Word10 x
noncomputable def run10 (ps : List Pk) (nm fn : List UInt8) (xs : List Int) (fuel : Nat) : Int × St10 := val10 ps 20001 (fnOf10 ps nm fn).2.2 0 xs (fuel, 0)
open Classical in
noncomputable def meantV (ps : List Pk) (nm fn : List UInt8) (xs : List Int) (fuel : Int) : Int × Int := if Ok10 ps nm fn xs fuel then ((run10 ps nm fn xs fuel.toNat).1, (run10 ps nm fn xs fuel.toNat).2.2) else (0, 3)
open Classical in
noncomputable def burntV (ps : List Pk) (nm fn : List UInt8) (xs : List Int) (fuel : Int) : Int := if Ok10 ps nm fn xs fuel then fuel - ((run10 ps nm fn xs fuel.toNat).2.1 : Int) else -1
theorem meant_yes {ps : List Pk} {nm fn : List UInt8} {xs : List Int} {fuel : Int} (h : Ok10 ps nm fn xs fuel) : meantV ps nm fn xs fuel = ((run10 ps nm fn xs fuel.toNat).1, (run10 ps nm fn xs fuel.toNat).2.2) ∧ burntV ps nm fn xs fuel = fuel - ((run10 ps nm fn xs fuel.toNat).2.1 : Int) := ⟨if_pos h, if_pos h⟩
theorem meant_no {ps : List Pk} {nm fn : List UInt8} {xs : List Int} {fuel : Int} (h : ¬ Ok10 ps nm fn xs fuel) : meantV ps nm fn xs fuel = (0, 3) ∧ burntV ps nm fn xs fuel = -1 := ⟨if_neg h, if_neg h⟩

theorem good_of {ps : List Pk} (h : projB ps = true) (q : List UInt8) (k : Nat) : Good10 ((pkOf ps q).2.2.getD k fn0).2.2 := fun n hn => by
  by_cases hk : k < (pkOf ps q).2.2.length
  · by_cases hq : (at8 ps q).toNat < ps.length
    · have hp : pkOf ps q ∈ ps := by unfold pkOf; exact getD_mem_pk hq
      exact node_of9 h hp hk hn
    · have e : pkOf ps q = pk0 := by unfold pkOf; rw [List.getD, List.getElem?_eq_none (Nat.le_of_not_lt hq)]; rfl
      rw [e] at hk
      exact absurd hk (by simp [pk0])
  · have e : (pkOf ps q).2.2.getD k fn0 = fn0 := by rw [List.getD, List.getElem?_eq_none (Nat.le_of_not_lt hk)]; rfl
    rw [e] at hn
    cases hn
theorem run_word {ps : List Pk} {nm fn : List UInt8} {xs : List Int} {fuel : Int} (h : Ok10 ps nm fn xs fuel) : Word10 (run10 ps nm fn xs fuel.toNat).1 := by
  have hp : projB ps = true := (faultV_zero (by rw [h.flt])).2.1
  exact val_word (fun n => good_of hp _ _) 20001 _ 0 xs (good_of hp _ _) h.word _
theorem Ok10.other {ps : List Pk} {nm fn : List UInt8} {xs : List Int} {fuel : Int} (h : Ok10 ps nm fn xs fuel) {f : Int} (h0 : 0 ≤ f) (h1 : f ≤ 20000) : Ok10 ps nm fn xs f := ⟨h.flt, h.at8, h0, h1, h.at7, h.len, h.word⟩

/-- What FnMeans tests. -/
theorem means_law (ps : List Pk) (nm fn : List UInt8) (xs : List Int) (fuel : Int) :
    ((meantV ps nm fn xs fuel).2 = 3 → (meantV ps nm fn xs fuel).1 = 0 ∧ burntV ps nm fn xs fuel = -1) ∧
    ((meantV ps nm fn xs fuel).2 ≠ 3 → (0 ≤ burntV ps nm fn xs fuel ∧ burntV ps nm fn xs fuel ≤ fuel) ∧ fuel ≤ 20000 ∧ Word10 (meantV ps nm fn xs fuel).1 ∧ ((meantV ps nm fn xs fuel).2 = 0 ∨ (meantV ps nm fn xs fuel).2 = 1 ∨ (meantV ps nm fn xs fuel).2 = 2) ∧
      ((meantV ps nm fn xs fuel).2 = 2 → burntV ps nm fn xs fuel = fuel ∧ (meantV ps nm fn xs fuel).1 = 0) ∧
      ((meantV ps nm fn xs fuel).2 ≠ 2 → meantV ps nm fn xs (burntV ps nm fn xs fuel) = meantV ps nm fn xs fuel ∧ meantV ps nm fn xs 20000 = meantV ps nm fn xs fuel ∧ (meantV ps nm fn xs (burntV ps nm fn xs fuel - 1)).2 ≠ 0)) := by
  by_cases hok : Ok10 ps nm fn xs fuel
  · obtain ⟨em, eb⟩ := meant_yes hok
    have hsh := Sk10.val ps 20001 (fnOf10 ps nm fn).2.2 0 xs
    have hw := run_word hok
    obtain ⟨F, rfl⟩ : ∃ F : Nat, fuel = (F : Int) := ⟨fuel.toNat, by have := hok.fuel0; omega⟩
    have hF := hok.fuel1
    rw [Int.toNat_natCast] at em eb hw
    rw [em, eb]
    have hr : ∀ f : Nat, run10 ps nm fn xs f = val10 ps 20001 (fnOf10 ps nm fn).2.2 0 xs (f, 0) := fun f => rfl
    rw [hr] at hw ⊢
    generalize hC : val10 ps 20001 (fnOf10 ps nm fn).2.2 0 xs = C at hsh hw hr ⊢
    have h1 := hsh.less (F, 0)
    have h2 := hsh.code (F, 0) rfl
    have h3 := hsh.dry (F, 0) rfl
    have h4 := hsh.zero (F, 0)
    simp only at h1
    refine ⟨fun h => ?_, fun _ => ⟨⟨by omega, by omega⟩, by omega, hw, h2, fun h => ⟨?_, ?_⟩, fun h => ?_⟩⟩
    · simp only at h; omega
    · simp only at h; rw [h3 h]; simp
    · simp only at h ⊢; exact h4 (by rw [h]; decide)
    · simp only at h
      obtain ⟨l, hl⟩ : ∃ l, (C (F, 0)).2.1 = l := ⟨_, rfl⟩
      rw [hl] at h1
      obtain ⟨b, rfl⟩ : ∃ b, F = b + l := ⟨F - l, by omega⟩
      rw [hl, show (((b + l : Nat) : Int) - (l : Int)) = (b : Int) by omega]
      refine ⟨?_, ?_, ?_⟩
      · rw [(meant_yes (hok.other (f := (b : Int)) (by omega) (by omega))).1, Int.toNat_natCast, hr, hsh.more b l (by omega)]
      · rw [(meant_yes (hok.other (f := 20000) (by omega) (by omega))).1, hr]
        have e2 : (20000 : Int).toNat = (b + l) + (20000 - (b + l)) := by omega
        rw [e2]
        rcases Nat.lt_or_ge (C ((b + l) + (20000 - (b + l)), 0)).2.1 (20000 - (b + l)) with hx | hx
        · have := hsh.fall (b + l) (20000 - (b + l)) hx
          rw [this] at h
          exact absurd rfl h
        · rw [hsh.more (b + l) (20000 - (b + l)) hx]
      · rcases Nat.eq_zero_or_pos b with hb | hb
        · subst hb
          rw [(meant_no (fun e => by have := e.fuel0; omega)).1]
          decide
        · rw [(meant_yes (hok.other (f := (b : Int) - 1) (by omega) (by omega))).1, hr, show ((b : Int) - 1).toNat = b - 1 by omega]
          have e3 : b + l = (b - 1) + (l + 1) := by omega
          rw [e3] at hl
          rw [hsh.fall (b - 1) (l + 1) (by omega)]
          decide
  · obtain ⟨em, eb⟩ := meant_no hok
    rw [em, eb]
    exact ⟨fun _ => ⟨rfl, rfl⟩, fun h => absurd rfl h⟩

end Go.Proofs.Ytnflkecnddbhoaa

/-! Plain facts of chapter 10: where nothing is wrong, what a walk meets in a tree. -/
namespace Go.Proofs.Ytnflkecnddbhoaa
open Go.RowKit

/-! Parts. -/
theorem endV_neg (l : List Nd) {a : Int} (h : a < 0) : endV l a = -1 := if_pos h
theorem endV_ge (l : List Nd) (a : Int) : -1 ≤ endV l a := by
  unfold endV
  split
  · omega
  · unfold endN
    split
    · split <;> omega
    · omega
theorem chain_neg10 (l : List Nd) : ∀ k, chain l k (-1) = -1
  | 0 => rfl
  | k + 1 => by rw [chain, endV_neg l (by decide), chain_neg10 l k]
theorem parts_in (l : List Nd) : ∀ (k : Nat) (next : Int), 0 ≤ chain l k next → ∀ i, i < k → 0 ≤ endV l ((partsGo l k next).getD i 0)
  | 0, _, _, i, hi => absurd hi (Nat.not_lt_zero _)
  | k + 1, next, h, i, hi => by
    rw [chain] at h
    have h0 : 0 ≤ endV l next := by
      rcases Int.lt_or_le (endV l next) 0 with h1 | h1
      · have e : endV l next = -1 := by have := endV_ge l next; omega
        rw [e, chain_neg10] at h
        omega
      · exact h1
    rw [partsGo]
    rcases i with _ | i
    · exact h0
    · exact parts_in l k _ h i (by omega)
theorem endV_place {l : List Nd} {a : Int} (h : 0 ≤ endV l a) : ∃ q : Nat, a = (q : Int) ∧ q < l.length := by
  rcases Int.lt_or_le a 0 with h1 | h1
  · rw [endV_neg l h1] at h; omega
  · obtain ⟨q, rfl⟩ : ∃ q : Nat, a = (q : Int) := ⟨a.toNat, by omega⟩
    exact ⟨q, rfl, (end_parts h).1⟩
/-- A part of a node that stands in a tree is a place in the tree. -/
theorem part_place {t : List Nd} {a : Nat} (h : 0 ≤ endV t (a : Int)) {i : Nat} (hi : i < kidsN (t.getD a nd0)) : ∃ q : Nat, (pts10 t (a : Int)).getD i 0 = (q : Int) ∧ q < t.length ∧ 0 ≤ endV t (q : Int) := by
  obtain ⟨_, _, hc, h1, _⟩ := end_parts h
  have hc2 : chain t (kidsN (t.getD a nd0)) ((a : Int) + 1) = endV t (a : Int) := hc
  have hp := parts_in t (kidsN (t.getD a nd0)) ((a : Int) + 1) (by rw [hc2]; exact h) i hi
  have e : (pts10 t (a : Int)).getD i 0 = (partsGo t (kidsN (t.getD a nd0)) ((a : Int) + 1)).getD i 0 := rfl
  rw [← e] at hp
  obtain ⟨q, hq, hl⟩ := endV_place hp
  rw [hq] at hp
  exact ⟨q, hq, hl, hp⟩
theorem pts_len (t : List Nd) (a : Nat) : (pts10 t (a : Int)).length = kidsN (t.getD a nd0) := by
  unfold pts10
  rw [partsGo_len, Int.toNat_natCast]

/-! A tree of a function of a project without fault. -/
structure Tr10 (ps : List Pk) (t : List Nd) (m : Int) : Prop where
  good : Good10 t
  root : 0 ≤ endV t 0
  arg : ∀ n ∈ t, n.1 = 2 → 0 ≤ n.2.1 ∧ n.2.1 < m
  call : ∀ n ∈ t, n.1 = 8 → 0 ≤ at8 ps n.2.2.1 ∧ 0 ≤ atV (pkOf ps n.2.2.1).2.2 n.2.2.2 ∧ (fnOf10 ps n.2.2.1 n.2.2.2).2.1 = n.2.1
theorem tr_of {ps : List Pk} (h : faultV ps = (0, [], [])) {q fn : List UInt8} (h8 : 0 ≤ at8 ps q) (h7 : 0 ≤ atV (pkOf ps q).2.2 fn) : Tr10 ps (fnOf10 ps q fn).2.2 (fnOf10 ps q fn).2.1 := by
  have hz := faultV_zero (by rw [h])
  have hpj := hz.2.1
  have hq : pkOf ps q ∈ ps ∧ (pkOf ps q).1 = q := by
    rcases at8_is ps q with ⟨e, _⟩ | ⟨i, _, _, _, hm⟩
    · omega
    · exact pkOf_mem hm
  have hk : (atV (pkOf ps q).2.2 fn).toNat < (pkOf ps q).2.2.length := by
    rcases at7_is (pkOf ps q).2.2 fn with e | ⟨i, hi, e, _⟩
    · omega
    · rw [e, Int.toNat_natCast]; exact hi
  have hf := hz.2.2.2.2.1 (pkOf ps q) hq.1 _ hk
  have hpk := (projB_parts hpj).2.2 _ hq.1
  have hfb : funcB (fnOf10 ps q fn) = true := by
    refine (pkgB_parts hpk).2.2.2.2 _ ?_
    unfold fnOf10
    rw [List.getD_eq_getElem?_getD, List.getElem?_eq_getElem hk]
    exact List.getElem_mem hk
  unfold funcB at hfb
  rw [Bool.and_eq_true, Bool.and_eq_true] at hfb
  have ht := of_decide_eq_true hfb.2.2
  refine ⟨good_of hpj _ _, by rw [ht.2]; omega, fun n hn h2 => ?_, fun n hn h8 => ?_⟩
  · have hc := (callV_of hpj hq.1 hk hn hf).1
    have hb := nodeB_iff.1 (good_of hpj q _ n hn)
    unfold nodeP at hb
    have h0 : 0 ≤ n.2.1 := by rcases hb with h | h | h | h <;> omega
    refine ⟨h0, ?_⟩
    rcases Int.lt_or_le n.2.1 (fnOf10 ps q fn).2.1 with h | h
    · exact h
    · exact absurd ⟨h2, h⟩ hc
  · have hc : call9 ps (pkOf ps q) ((atV (pkOf ps q).2.2 fn).toNat : Int) n = 0 := Decidable.byContradiction fun e => (func9_zero hf n hn).2 ⟨h8, e⟩
    have hof : ofPk ps (pkOf ps q) n.2.2.1 = pkOf ps n.2.2.1 := by
      unfold ofPk
      split
      · rename_i e; rw [e, hq.2]
      · rfl
    unfold call9 at hc
    rw [hof] at hc
    split at hc
    · cases hc
    · rename_i hfar
      split at hc
      · cases hc
      · rename_i h2
        split at hc
        · cases hc
        · rename_i h3
          refine ⟨?_, ?_, Decidable.byContradiction h3⟩
          · rcases Int.lt_or_le (at8 ps n.2.2.1) 0 with h | h
            · by_cases e : n.2.2.1 = (pkOf ps q).1
              · rw [e, hq.2] at h; omega
              · exact absurd (decide_eq_true ⟨e, Or.inr h⟩) hfar
            · exact h
          · rcases Int.lt_or_le (atV (pkOf ps n.2.2.1).2.2 n.2.2.2) 0 with h | h
            · exact absurd (Or.inl h) h2
            · exact h

end Go.Proofs.Ytnflkecnddbhoaa
