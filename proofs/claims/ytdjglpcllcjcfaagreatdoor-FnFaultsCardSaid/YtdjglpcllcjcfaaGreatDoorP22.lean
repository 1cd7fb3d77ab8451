/-
  Parts of one proof, one behind the other: Math9L, CheckS, TreeS6.
-/
import Derived.Test.YtdjglpcllcjcfaaGreatDoorP21
import Derived.Test.YtdjglpcllcjcfaaGreatDoorP15
import Derived.Test.YtdjglpcllcjcfaaGreatDoorP10
import Derived.Test.YtdjglpcllcjcfaaGreatDoorP4
import Derived.Test.YtdjglpcllcjcfaaGreatDoorP2

/-! Plain facts of chapter 9: what FnFaults tests. -/
namespace Go.Proofs.YtdjglpcllcjcfaaGreatDoor
open Go.RowKit

theorem pkOf_nm {ps : List Pk} (hn : (names8 ps).Nodup) {i : Nat} (hi : i < ps.length) : pkOf ps (nmAt ps i) = ps.getD i pk0 := by
  unfold pkOf
  rcases at8_is ps (nmAt ps i) with ⟨_, e⟩ | ⟨j, hj, e, hnm, _⟩
  · exact absurd (nmAt_mem hi) e
  · rw [e]
    have := nmAt_inj hn hj hi hnm
    subst this
    rfl
theorem pkOf_mem {ps : List Pk} {x : List UInt8} (hx : x ∈ names8 ps) : pkOf ps x ∈ ps ∧ (pkOf ps x).1 = x := by
  rcases at8_is ps x with ⟨_, e⟩ | ⟨j, hj, e, hnm, _⟩
  · exact absurd hx e
  · unfold pkOf
    rw [e]
    exact ⟨getD_mem_pk hj, hnm⟩
theorem pkOf_self {ps : List Pk} (hn : (names8 ps).Nodup) {p : Pk} (hp : p ∈ ps) : pkOf ps p.1 = p := by
  obtain ⟨i, hi, rfl⟩ := List.mem_iff_getElem.1 hp
  have e : ps.getD i pk0 = ps[i] := by simp [List.getD, hi]
  have := pkOf_nm hn hi
  unfold nmAt at this
  rw [e] at this
  exact this
theorem ord9_mem {ps : List Pk} (h : projB ps = true) {x : List UInt8} : x ∈ ord9 ps ↔ x ∈ names8 ps := by
  unfold ord9
  rw [List.mem_append, List.mem_filter, decide_eq_true_eq]
  constructor
  · rintro (e | e)
    · exact (order8_end h).1.sub x e
    · exact e.1
  · intro e
    rcases Decidable.em (x ∈ order8 ps) with h1 | h1
    · exact Or.inl h1
    · exact Or.inr ⟨e, h1⟩
/-- What a fault says of itself. -/
structure Flt9 (ps : List Pk) (f : Flt) : Prop where
  lo : 1 ≤ f.1
  hi : f.1 ≤ 4
  fn : f.2.2 ≠ [] ↔ 3 ≤ f.1
theorem name_ne {x : List UInt8} (h : nameB x = true) : x ≠ [] := fun e => by
  have := (name_letters h).1.1
  rw [e] at this
  simp at this
theorem fnsGo_val {ps : List Pk} {p : Pk} : ∀ (fs : List Fn) (k : Nat), (∀ f ∈ fs, f.1 ≠ []) → ∀ f, fnsGo ps p fs k = some f → Flt9 ps f
  | [], _, _, f, h => by simp [fnsGo] at h
  | g :: r, k, hf, f, h => by
    rw [fnsGo] at h
    split at h
    · rename_i h0
      injection h with h
      subst h
      have := func9_val ps p k
      exact ⟨by simp only; omega, by simp only; omega, ⟨fun _ => by simp only; omega, fun _ => hf g List.mem_cons_self⟩⟩
    · exact fnsGo_val r (k + 1) (fun q hq => hf q (List.mem_cons_of_mem _ hq)) f h
theorem fnsGo_none {ps : List Pk} {p : Pk} : ∀ (fs : List Fn) (k : Nat), fnsGo ps p fs k = none → ∀ i, i < fs.length → func9 ps p (k + i) = 0
  | [], _, _, i, hi => by simp at hi
  | g :: r, k, h, i, hi => by
    rw [fnsGo] at h
    split at h
    · simp at h
    · rename_i h0
      cases i with
      | zero => simpa using h0
      | succ i =>
        have := fnsGo_none r (k + 1) h i (by simpa using hi)
        rw [show k + (i + 1) = k + 1 + i by omega]
        exact this
theorem pk9_val {ps : List Pk} {done i : Nat} {p : Pk} (hp : ∀ f ∈ p.2.2, f.1 ≠ []) {f : Flt} (h : pk9 ps done i p = some f) : Flt9 ps f := by
  unfold pk9 at h
  split at h
  · injection h with h; subst h; exact ⟨by simp, by simp, by simp⟩
  · split at h
    · injection h with h; subst h; exact ⟨by simp, by simp, by simp⟩
    · exact fnsGo_val _ _ hp f h
theorem fltGo_val {ps : List Pk} {done : Nat} (hp : ∀ p ∈ ps, ∀ f ∈ p.2.2, f.1 ≠ []) : ∀ (l : List (List UInt8)) (i : Nat), (∀ x ∈ l, x ∈ names8 ps) → ∀ f, fltGo ps done l i = some f → Flt9 ps f
  | [], _, _, f, h => by simp [fltGo] at h
  | x :: r, i, hl, f, h => by
    rw [fltGo] at h
    rcases hk : pk9 ps done i (pkOf ps x) with _ | g
    · rw [hk] at h
      exact fltGo_val hp r (i + 1) (fun y hy => hl y (List.mem_cons_of_mem _ hy)) f h
    · rw [hk] at h
      injection h with h
      subst h
      exact pk9_val (hp _ (pkOf_mem (hl x List.mem_cons_self)).1) hk
theorem fltGo_none {ps : List Pk} {done : Nat} : ∀ (l : List (List UInt8)) (i : Nat), fltGo ps done l i = none → ∀ k, k < l.length → pk9 ps done (i + k) (pkOf ps (l.getD k [])) = none
  | [], _, _, k, hk => by simp at hk
  | x :: r, i, h, k, hk => by
    rw [fltGo] at h
    rcases hp : pk9 ps done i (pkOf ps x) with _ | g
    · rw [hp] at h
      cases k with
      | zero => simpa using hp
      | succ k =>
        have := fltGo_none r (i + 1) h k (by simpa using hk)
        rw [show i + (k + 1) = i + 1 + k by omega]
        simpa using this
    · rw [hp] at h; simp at h
theorem names_ne {ps : List Pk} (h : projB ps = true) : ∀ p ∈ ps, ∀ f ∈ p.2.2, f.1 ≠ [] := fun p hp f hf => by
  have h1 := (pkgB_parts ((projB_parts h).2.2 p hp)).2.2.2.2 f hf
  unfold funcB at h1
  rw [Bool.and_eq_true] at h1
  exact name_ne h1.1
theorem node_of9 {ps : List Pk} (h : projB ps = true) {p : Pk} (hp : p ∈ ps) {k : Nat} (hk : k < p.2.2.length) {n : Nd} (hn : n ∈ (p.2.2.getD k fn0).2.2) : nodeB n = true := by
  have hm : p.2.2.getD k fn0 ∈ p.2.2 := by simp [List.getD, hk]
  have h1 := (pkgB_parts ((projB_parts h).2.2 p hp)).2.2.2.2 _ hm
  unfold funcB at h1
  rw [Bool.and_eq_true, Bool.and_eq_true] at h1
  exact tree_nodes h1.2.2 n hn

/-- A fault's number tells what it is. -/
theorem faultV_law (ps : List Pk) (h0 : (faultV ps).1 ≠ 0) : 1 ≤ (faultV ps).1 ∧ (faultV ps).1 ≤ 6 ∧ ((faultV ps).1 = 6 ↔ projB ps = false) ∧ ((faultV ps).2.2 ≠ [] ↔ 3 ≤ (faultV ps).1 ∧ (faultV ps).1 ≤ 5) := by
  unfold faultV at h0 ⊢
  rcases hp : projB ps with _ | _
  · rw [if_neg (by simp)]; simp
  · rw [hp, if_pos rfl] at h0
    rw [if_pos rfl]
    unfold fault9 at h0 ⊢
    rcases hf : fltGo ps (order8 ps).length (ord9 ps) 0 with _ | f
    · rw [hf] at h0
      simp only at h0 ⊢
      unfold main9 at h0 ⊢
      split
      · rename_i hm; rw [if_pos hm] at h0; simp at h0
      · simp [mainT]
    · have := fltGo_val (names_ne hp) _ _ (fun x hx => (ord9_mem hp).1 hx) f hf
      have h1 := this.lo
      have h2 := this.hi
      have h3 := this.fn
      simp only
      refine ⟨h1, by omega, ⟨fun e => by omega, fun e => by simp at e⟩, h3.trans ⟨fun e => ⟨e, by omega⟩, fun e => e.1⟩⟩
/-- Where nothing is wrong. -/
theorem faultV_zero {ps : List Pk} (h0 : (faultV ps).1 = 0) : faultV ps = (0, [], []) ∧ projB ps = true ∧ (order8 ps).length = ps.length ∧ (∀ p ∈ ps, ∀ m ∈ p.2.1, m ∈ names8 ps) ∧ (∀ p ∈ ps, ∀ k, k < p.2.2.length → func9 ps p k = 0) ∧
    (0 ≤ at8 ps mainT ∧ 0 ≤ atV (pkOf ps mainT).2.2 mainT ∧ ((pkOf ps mainT).2.2.getD (atV (pkOf ps mainT).2.2 mainT).toNat fn0).2.1 = 1) := by
  unfold faultV at h0 ⊢
  rcases hp : projB ps with _ | _
  · rw [hp, if_neg (by simp)] at h0; simp at h0
  · rw [hp, if_pos rfl] at h0
    rw [if_pos rfl]
    unfold fault9 at h0 ⊢
    rcases hf : fltGo ps (order8 ps).length (ord9 ps) 0 with _ | f
    · rw [hf] at h0
      simp only at h0 ⊢
      have hm : 0 ≤ at8 ps mainT ∧ 0 ≤ atV (pkOf ps mainT).2.2 mainT ∧ ((pkOf ps mainT).2.2.getD (atV (pkOf ps mainT).2.2 mainT).toNat fn0).2.1 = 1 := by
        unfold main9 at h0
        exact Decidable.byContradiction fun e => by rw [if_neg e] at h0; simp at h0
      have hnone := fltGo_none _ _ hf
      have hnd := (projB_parts hp).1.nodup
      have hlen : (ord9 ps).length ≤ (order8 ps).length := by
        rcases Nat.lt_or_ge (order8 ps).length (ord9 ps).length with hl | hl
        · have := hnone (order8 ps).length hl
          unfold pk9 at this
          split at this
          · simp at this
          · rw [if_pos (by omega)] at this; simp at this
        · exact hl
      have hall : ∀ x ∈ names8 ps, x ∈ order8 ps := fun x hx => by
        have he : (names8 ps).filter (fun x => decide (¬ x ∈ order8 ps)) = [] := by
          apply List.eq_nil_of_length_eq_zero
          unfold ord9 at hlen
          rw [List.length_append] at hlen
          omega
        rw [List.filter_eq_nil_iff] at he
        have := he x hx
        rw [decide_eq_true_eq] at this
        exact Decidable.byContradiction this
      have hpk : ∀ p ∈ ps, ¬ miss9 ps p ∧ fnsGo ps p p.2.2 0 = none := fun p hpm => by
        have hx : p.1 ∈ names8 ps := List.mem_map.2 ⟨p, hpm, rfl⟩
        obtain ⟨k, hk, e⟩ := List.mem_iff_getElem.1 ((ord9_mem hp).2 hx)
        have h1 := hnone k hk
        rw [show (ord9 ps).getD k [] = p.1 by simp [List.getD, hk, e], pkOf_self hnd hpm] at h1
        unfold pk9 at h1
        split at h1
        · simp at h1
        · rename_i hm
          split at h1
          · simp at h1
          · exact ⟨hm, h1⟩
      refine ⟨by unfold main9; rw [if_pos hm], trivial, ?_, fun p hpm m hmm => ?_, fun p hpm k hk => ?_, hm⟩
      · have h1 := (order8_end hp).1.len
        have h2 := hnd.length_le_of_subset (fun x hx => hall x hx)
        have h3 : (names8 ps).length = ps.length := by simp [names8]
        omega
      · refine (at8_mem ps m).1 ?_
        have h1 := (hpk p hpm).1
        unfold miss9 at h1
        rcases Int.lt_or_le (at8 ps m) 0 with h2 | h2
        · exact absurd ⟨m, hmm, h2⟩ h1
        · exact h2
      · have := fnsGo_none _ _ (hpk p hpm).2 k hk
        simpa using this
    · rw [hf] at h0
      have := (fltGo_val (names_ne hp) _ _ (fun x hx => (ord9_mem hp).1 hx) f hf).lo
      simp only at h0
      omega
/-- A call that the law asks of each node. -/
theorem callV_of {ps : List Pk} (h : projB ps = true) {p : Pk} (hp : p ∈ ps) {k : Nat} (hk : k < p.2.2.length) {n : Nd} (hn : n ∈ (p.2.2.getD k fn0).2.2) (hf : func9 ps p k = 0) : ¬ arg9 (p.2.2.getD k fn0) n ∧ (n.1 = 8 → callV ps p.1 (k : Int) n = 0) := by
  obtain ⟨h1, h2⟩ := func9_zero hf n hn
  refine ⟨h1, fun h8 => ?_⟩
  have hc : call9 ps p (k : Int) n = 0 := Decidable.byContradiction fun e => h2 ⟨h8, e⟩
  have hnd := (projB_parts h).1.nodup
  have hpo := pkOf_self hnd hp
  unfold callV
  rw [if_pos ⟨h, (at8_mem ps p.1).2 (List.mem_map.2 ⟨p, hp, rfl⟩), node_of9 h hp hk hn, h8, by omega, by rw [hpo]; omega⟩, hpo]
  exact hc

/-! What FnCalls looks for. -/
theorem at7Go_is (s : List UInt8) : ∀ (fs : List Fn) (k : Nat), atGo s fs k = -1 ∨ ∃ i, i < fs.length ∧ atGo s fs k = ((k + i : Nat) : Int) ∧ (fs.getD i fn0).1 = s
  | [], k => Or.inl rfl
  | p :: r, k => by
    rw [atGo]
    by_cases h : p.1 = s
    · rw [if_pos h]; exact Or.inr ⟨0, by simp, by simp, by simpa using h⟩
    · rw [if_neg h]
      rcases at7Go_is s r (k + 1) with e | ⟨i, hi, e, hn⟩
      · exact Or.inl e
      · exact Or.inr ⟨i + 1, by simpa using hi, by rw [e]; congr 1; omega, by simpa using hn⟩
theorem at7_is (fs : List Fn) (s : List UInt8) : atV fs s = -1 ∨ ∃ i, i < fs.length ∧ atV fs s = (i : Int) ∧ (fs.getD i fn0).1 = s := by
  rcases at7Go_is s fs 0 with e | ⟨i, hi, e, hn⟩
  · exact Or.inl e
  · exact Or.inr ⟨i, hi, by unfold atV; rw [e]; congr 1; omega, hn⟩
theorem pk_at {p : Pk} (h : pkgB p = true) {i : Nat} (hi : i < p.2.2.length) : atV p.2.2 (p.2.2.getD i fn0).1 = (i : Int) := by
  unfold pkgB at h
  rw [Bool.and_eq_true, decide_eq_true_eq] at h
  exact (h.2 i hi).2
/-- A function that the law finds. -/
def hit9 (ps : List Pk) (s : List UInt8) (at_ : Int) (n : Nd) (j m : Nat) : Prop := nmAt ps j = n.2.2.1 ∧ ((ps.getD j pk0).2.2.getD m fn0).1 = n.2.2.2 ∧ ((ps.getD j pk0).2.2.getD m fn0).2.1 = n.2.1 ∧ (n.2.2.1 ≠ s ∨ (m : Int) < at_)
def ok9 (ps : List Pk) (s : List UInt8) (n : Nd) (i : Nat) : Prop := n.2.2.1 = s ∨ n.2.2.1 ∈ imsAt ps i
def found9 (ps : List Pk) (s : List UInt8) (at_ : Int) (n : Nd) : Prop := ∃ i, i < ps.length ∧ nmAt ps i = s ∧ ok9 ps s n i ∧ ∃ j, j < ps.length ∧ ∃ m, m < (ps.getD j pk0).2.2.length ∧ hit9 ps s at_ n j m
theorem found9_law {ps : List Pk} {s : List UInt8} {at_ : Int} {n : Nd} (h : callB ps s at_ n) : found9 ps s at_ n ↔ callV ps s at_ n = 0 := by
  obtain ⟨hp, hs, _, _, _, _⟩ := id h
  have hnd := (projB_parts hp).1.nodup
  have hsn := (at8_mem ps s).1 hs
  obtain ⟨hpm, hp1⟩ := pkOf_mem hsn
  unfold callV
  rw [if_pos h]
  obtain ⟨p, hpe⟩ : ∃ p, pkOf ps s = p := ⟨_, rfl⟩
  rw [hpe] at hpm hp1 ⊢
  -- the package that a place of the name n's is
  have hq : ∀ j, j < ps.length → nmAt ps j = n.2.2.1 → ofPk ps p n.2.2.1 = ps.getD j pk0 := fun j hj e => by
    unfold ofPk
    rw [← e]
    by_cases h1 : nmAt ps j = p.1
    · rw [if_pos h1]
      have := pkOf_nm hnd hj
      rw [h1, pkOf_self hnd hpm] at this
      exact this
    · rw [if_neg h1]
      exact pkOf_nm hnd hj
  have hi0 : ∀ i, i < ps.length → nmAt ps i = s → ps.getD i pk0 = p := fun i hi e => by
    have := pkOf_nm hnd hi
    rw [e, hpe] at this
    exact this.symm
  constructor
  · rintro ⟨i, hi, hnm, hok, j, hj, m, hm, h1, h2, h3, h4⟩
    have hqj := hq j hj h1
    have hip := hi0 i hi hnm
    have hpg := (projB_parts hp).2.2 _ (getD_mem_pk hj)
    have hat := pk_at hpg hm
    rw [h2] at hat
    unfold call9
    rw [hqj, hat, Int.toNat_natCast, if_neg, if_neg, if_neg]
    · exact fun e => e h3
    · rintro (e | ⟨e1, e2⟩)
      · omega
      · rcases h4 with h4 | h4
        · exact h4 (by rw [e1, hp1])
        · omega
    · unfold farB
      rw [decide_eq_true_eq]
      rintro ⟨e1, e2⟩
      rcases hok with hok | hok
      · exact e1 (by rw [hp1]; exact hok)
      · rcases e2 with e2 | e2
        · unfold imsAt at hok; rw [hip] at hok; exact e2 hok
        · have := (at8_mem ps n.2.2.1).2 (by rw [← h1]; exact nmAt_mem hj); omega
  · intro h0
    unfold call9 at h0
    split at h0
    · omega
    · rename_i hfar
      split at h0
      · omega
      · rename_i hk
        split at h0
        · omega
        · rename_i ha
          have hfar2 : n.2.2.1 = p.1 ∨ (n.2.2.1 ∈ p.2.1 ∧ 0 ≤ at8 ps n.2.2.1) := by
            unfold farB at hfar
            rw [decide_eq_true_eq] at hfar
            by_cases e : n.2.2.1 = p.1
            · exact Or.inl e
            · refine Or.inr ⟨Decidable.byContradiction fun e2 => hfar ⟨e, Or.inl e2⟩, ?_⟩
              rcases Int.lt_or_le (at8 ps n.2.2.1) 0 with e3 | e3
              · exact absurd ⟨e, Or.inr e3⟩ hfar
              · exact e3
          have hnn : n.2.2.1 ∈ names8 ps := by
            rcases hfar2 with e | ⟨_, e⟩
            · rw [e, hp1]; exact hsn
            · exact (at8_mem ps _).1 e
          obtain ⟨j, hj, hjn⟩ : ∃ j, j < ps.length ∧ nmAt ps j = n.2.2.1 := by
            rcases at8_is ps n.2.2.1 with ⟨_, e⟩ | ⟨j, hj, _, e, _⟩
            · exact absurd hnn e
            · exact ⟨j, hj, e⟩
          obtain ⟨i, hi, hin⟩ : ∃ i, i < ps.length ∧ nmAt ps i = s := by
            rcases at8_is ps s with ⟨_, e⟩ | ⟨i, hi, _, e, _⟩
            · exact absurd hsn e
            · exact ⟨i, hi, e⟩
          have hqj := hq j hj hjn
          have hip := hi0 i hi hin
          rw [hqj] at hk ha
          rcases at7_is (ps.getD j pk0).2.2 n.2.2.2 with e | ⟨m, hm, e, hmn⟩
          · rw [e] at hk; omega
          · rw [e] at hk ha
            rw [Int.toNat_natCast] at ha
            refine ⟨i, hi, hin, ?_, j, hj, m, hm, hjn, hmn, Decidable.byContradiction fun e3 => ha e3, ?_⟩
            · rcases hfar2 with e2 | ⟨e2, _⟩
              · exact Or.inl (by rw [e2, hp1])
              · exact Or.inr (by unfold imsAt; rw [hip]; exact e2)
            · by_cases e2 : n.2.2.1 = s
              · right
                rcases Int.lt_or_le (m : Int) at_ with e3 | e3
                · exact e3
                · exact absurd (Or.inr ⟨by rw [hp1]; exact e2, e3⟩) hk
              · exact Or.inl e2

end Go.Proofs.YtdjglpcllcjcfaaGreatDoor

/-! The contracts of chapter 9's specification: what a call is told. -/
namespace Go.Proofs.YtdjglpcllcjcfaaGreatDoor
open Go.RowKit

theorem node_new (V : World) (a b c d : Value) (t : TypeId) : ((V.alloc (.cells #[a, b, c, d] t)).cell? ⟨V.heap.size, 0, none⟩ = some a ∧ (V.alloc (.cells #[a, b, c, d] t)).cell? ⟨V.heap.size, 1, none⟩ = some b ∧ (V.alloc (.cells #[a, b, c, d] t)).cell? ⟨V.heap.size, 2, none⟩ = some c ∧ (V.alloc (.cells #[a, b, c, d] t)).cell? ⟨V.heap.size, 3, none⟩ = some d) ∧ Below V.heap.size V (V.alloc (.cells #[a, b, c, d] t)) := by
  have hb : Below V.heap.size V (V.alloc (.cells #[a, b, c, d] t)) := (Below.refl _ _).alloc (Nat.le_refl _) _
  have hA := heap_alloc_new V (.cells #[a, b, c, d] t)
  generalize V.alloc (.cells #[a, b, c, d] t) = W at hb hA ⊢
  exact ⟨⟨by simp [World.cell?, hA], by simp [World.cell?, hA], by simp [World.cell?, hA], by simp [World.cell?, hA]⟩, hb⟩

set_option maxHeartbeats 8000000 in
set_option maxRecDepth 100000 in
theorem specCall9 (a : Option Addr) (len cap : Nat) (ps : List Pk) (nm : List UInt8) (ia : Option Addr) (il ic : Nat) (fa : Option Addr) (fl fc : Nat) (ims : List (List UInt8)) (fs : List Fn) (at_ : Int) (n : Nd) (w : World)
    (hl : PkgsIn w a len ps) (hi : TextsIn w ia il ims) (hf : FuncsIn w fa fl fs) (hlen : len ≤ 1048576) (hil : il ≤ 1048576) (hfl : fl ≤ 1048576) (hsh : ShortPs ps) :
    Calls Tryz.prog 104 #[.slice a len cap, .agg #[.string ⟨nm.toArray⟩, .slice ia il ic, .slice fa fl fc], .int .i64 at_, nodeVal n] w fun e w' => e = .returned (.int .i64 (call9 ps (nm, ims, fs) at_ n)) ∧ Below w.heap.size w w' := by
  obtain ⟨k, A, x, fn⟩ := n
  unfold nodeVal
  simp only
  obtain ⟨bx, hbx⟩ := Box3.new w (.string ⟨nm.toArray⟩) (.slice ia il ic) (.slice fa fl fc) 32
  obtain ⟨W1, hW1⟩ : ∃ W1, w.alloc (.cells #[.string ⟨nm.toArray⟩, .slice ia il ic, .slice fa fl fc] 32) = W1 := ⟨_, rfl⟩
  have hs1 : W1.heap.size = w.heap.size + 1 := by rw [← hW1]; simp
  rw [hW1] at bx hbx
  obtain ⟨⟨n0, n1, n2, n3⟩, hb2⟩ := node_new W1 (.int .i64 k) (.int .i64 A) (.string ⟨x.toArray⟩) (.string ⟨fn.toArray⟩) 44
  obtain ⟨W2, hW2⟩ : ∃ W2, W1.alloc (.cells #[.int .i64 k, .int .i64 A, .string ⟨x.toArray⟩, .string ⟨fn.toArray⟩] 44) = W2 := ⟨_, rfl⟩
  have hs2 : W2.heap.size = w.heap.size + 1 + 1 := by rw [← hW2]; simp [hs1]
  rw [hW2, hs1] at n0 n1 n2 n3
  rw [hW2] at hb2
  have bx2 := bx.below hb2
  have hbw : Below w.heap.size w W2 := hbx.trans (hb2.mono (by omega))
  have p0 := bx2.c0
  have p1 := bx2.c1
  have p2 := bx2.c2
  have HI2 : Hid (TextsIn W2 ia il ims) := hi.below hbw
  have HF2 : Hid (FuncsIn W2 fa fl fs) := hf.below hbw
  have HP2 : Hid (PkgsIn W2 a len ps) := hl.below hbw
  have HB2 : Hid (Below w.heap.size w W2) := hbw
  have HBp2 : Hid (Box3 W2 w.heap.size (.string ⟨nm.toArray⟩) (.slice ia il ic) (.slice fa fl fc)) := bx2
  clear bx hbx bx2 hb2 hbw hi hf
  by_cases hxn : x = nm
  · subst hxn
    have hself : (x == x) = true := by simp
    have hselfn : (x != x) = false := by simp
    have HV : Hid (call9 ps (x, ims, fs) at_ (k, A, x, fn) = if atV fs fn < 0 ∨ (x = x ∧ at_ ≤ atV fs fn) then 2 else if (fs.getD (atV fs fn).toNat fn0).2.1 ≠ A then 3 else 0) := by exact (by
      unfold call9
      have h1 : farB ps (x, ims, fs) x = false := by unfold farB; exact decide_eq_false (fun h => h.1 rfl)
      have h2 : ofPk ps (x, ims, fs) x = (x, ims, fs) := by unfold ofPk; rw [if_pos rfl]
      simp only
      rw [h1, h2, if_neg (by simp)] : call9 ps (x, ims, fs) at_ (k, A, x, fn) = if atV fs fn < 0 ∨ (x = x ∧ at_ ≤ atV fs fn) then 2 else if (fs.getD (atV fs fn).toNat fn0).2.1 ≠ A then 3 else 0)
    obtain ⟨bq, hbq⟩ := Box3.new W2 (.string ⟨x.toArray⟩) (.slice ia il ic) (.slice fa fl fc) 32
    obtain ⟨W3, hW3⟩ : ∃ W3, W2.alloc (.cells #[.string ⟨x.toArray⟩, .slice ia il ic, .slice fa fl fc] 32) = W3 := ⟨_, rfl⟩
    rw [hW3] at bq hbq
    rw [hs2] at bq
    have HBq : Hid (Box3 W3 (w.heap.size + 1 + 1) (.string ⟨x.toArray⟩) (.slice ia il ic) (.slice fa fl fc)) := bq
    have HBp : Hid (Box3 W3 w.heap.size (.string ⟨x.toArray⟩) (.slice ia il ic) (.slice fa fl fc)) := HBp2.out.below hbq
    have HGn : Hid (w.heap.size + 1 < W3.heap.size) := by have := hbq.size; exact (by omega : w.heap.size + 1 < W3.heap.size)
    have HN2 : Hid (W3.cell? ⟨w.heap.size + 1, 2, none⟩ = some (.string ⟨x.toArray⟩)) := (hbq.cell (p := ⟨w.heap.size + 1, 2, none⟩) (by rw [hs2]; simp)).trans n2
    have HN1 : Hid (W3.cell? ⟨w.heap.size + 1, 1, none⟩ = some (.int .i64 A)) := (hbq.cell (p := ⟨w.heap.size + 1, 1, none⟩) (by rw [hs2]; simp)).trans n1
    have e3 := (hbq.cell (p := ⟨w.heap.size + 1, 3, none⟩) (by rw [hs2]; simp)).trans n3
    have e2 := HN2.out
    have q0 := bq.c0
    have q1 := bq.c1
    have q2 := bq.c2
    have pp0 := HBp.out.c0
    have HBW : Hid (Below w.heap.size w W3) := HB2.out.trans (hbq.mono HB2.out.size)
    have hqf := HF2.out.below hbq
    have HAt : Hid (_) := specAt x fn ia il ic fa fl fc fs W3 hqf hfl
    clear bq hbq
    go_enter Tryz.func104, Tryz.ntmps104
    obtain ⟨qfa, hqfa⟩ : ∃ qfa, qfa = fa := ⟨_, rfl⟩
    obtain ⟨qfl, hqfl⟩ : ∃ qfl, qfl = fl := ⟨_, rfl⟩
    obtain ⟨qfs, hqfs⟩ : ∃ qfs, qfs = fs := ⟨_, rfl⟩
    subst hqfa
    subst hqfl
    subst hqfs
    have HQ : Hid (FuncsIn W3 qfa qfl qfs) := hqf
    rcases at7_is qfs fn with eK | ⟨j, hj, eK, hjn⟩
    · have HR : Hid (call9 ps (x, ims, qfs) at_ (k, A, x, fn) = 2) := by exact (by rw [HV.out, eK, if_pos (Or.inl (by omega))] : call9 ps (x, ims, qfs) at_ (k, A, x, fn) = 2)
      rw [eK] at HAt
      go_wp2_with fail
      refine Calls.mono HAt.out ?_
      rintro e w5 ⟨rfl, hb5⟩
      have HB5 : Hid (Below w.heap.size w w5) := HBW.out.trans (hb5.mono HBW.out.size)
      have g0 := (HBq.out.below hb5).c0
      have g1 := (HBq.out.below hb5).c1
      have g2 := (HBq.out.below hb5).c2
      have m0 := (HBp.out.below hb5).c0
      have m2 := (hb5.cell (p := ⟨w.heap.size + 1, 2, none⟩) HGn.out).trans HN2.out
      have m1 := (hb5.cell (p := ⟨w.heap.size + 1, 1, none⟩) HGn.out).trans HN1.out
      clear hb5 hqf eK
      go_wp2
      go_ret
      exact ⟨by rw [HR.out]; rfl, HB5.out⟩
    · rw [eK] at HAt
      have hj0 : ¬ (j : Int) < 0 := by omega
      have hjl : j < qfl := by rw [← HQ.out.1]; exact hj
      have hjz : (j : Int) < (qfl : Int) := by omega
      by_cases hat : at_ ≤ (j : Int)
      · have HR : Hid (call9 ps (x, ims, qfs) at_ (k, A, x, fn) = 2) := by exact (by rw [HV.out, eK, if_pos (Or.inr ⟨rfl, hat⟩)] : call9 ps (x, ims, qfs) at_ (k, A, x, fn) = 2)
        go_wp2_with fail
        refine Calls.mono HAt.out ?_
        rintro e w5 ⟨rfl, hb5⟩
        have HB5 : Hid (Below w.heap.size w w5) := HBW.out.trans (hb5.mono HBW.out.size)
        have g0 := (HBq.out.below hb5).c0
        have g1 := (HBq.out.below hb5).c1
        have g2 := (HBq.out.below hb5).c2
        have m0 := (HBp.out.below hb5).c0
        have m2 := (hb5.cell (p := ⟨w.heap.size + 1, 2, none⟩) HGn.out).trans HN2.out
        have m1 := (hb5.cell (p := ⟨w.heap.size + 1, 1, none⟩) HGn.out).trans HN1.out
        clear hb5 hqf eK
        go_wp2
        go_ret
        exact ⟨by rw [HR.out]; rfl, HB5.out⟩
      · have HC7 : Hid (¬ ((j : Int) < 0 ∨ (x = x ∧ at_ ≤ (j : Int)))) := fun h => h.elim hj0 (fun h => hat h.2)
        go_wp2_with fail
        refine Calls.mono HAt.out ?_
        rintro e w5 ⟨rfl, hb5⟩
        have HB5 : Hid (Below w.heap.size w w5) := HBW.out.trans (hb5.mono HBW.out.size)
        have g0 := (HBq.out.below hb5).c0
        have g1 := (HBq.out.below hb5).c1
        have g2 := (HBq.out.below hb5).c2
        have m0 := (HBp.out.below hb5).c0
        have m2 := (hb5.cell (p := ⟨w.heap.size + 1, 2, none⟩) HGn.out).trans HN2.out
        have m1 := (hb5.cell (p := ⟨w.heap.size + 1, 1, none⟩) HGn.out).trans HN1.out
        have hq5 := HQ.out.below hb5
        obtain ⟨bq, oq, rfl, _, _, r1, _⟩ := hq5.2 j hjl
        obtain ⟨B, hB⟩ : ∃ B, (qfs.getD j fn0).2.1 = B := ⟨_, rfl⟩
        rw [hB] at r1
        clear hb5 hqf hq5
        by_cases hBA : B = A
        · have HR : Hid (call9 ps (x, ims, qfs) at_ (k, A, x, fn) = 0) := by exact (by rw [HV.out, eK, if_neg HC7.out, Int.toNat_natCast, hB, if_neg (by simpa using hBA)] : call9 ps (x, ims, qfs) at_ (k, A, x, fn) = 0)
          have hne : (B != A) = false := by simp [hBA]
          subst hBA
          have hne2 : (B == B) = true := by simp
          clear eK hB
          go_wp2_with fail
          go_quiet (fail)
          go_wp2
          go_ret
          exact ⟨by rw [HR.out]; rfl, HB5.out.trans ⟨rfl, rfl, rfl, Nat.le_refl _, fun _ _ => rfl⟩⟩
        · have HR : Hid (call9 ps (x, ims, qfs) at_ (k, A, x, fn) = 3) := by exact (by rw [HV.out, eK, if_neg HC7.out, Int.toNat_natCast, hB, if_pos hBA] : call9 ps (x, ims, qfs) at_ (k, A, x, fn) = 3)
          have hne : (B != A) = true := by rw [bne_iff_ne]; exact hBA
          have hne2 : (B == A) = false := beq_eq_false_iff_ne.2 hBA
          have hne3 : ¬ B = A := hBA
          clear eK hB
          go_wp2_with fail
          go_quiet (fail)
          go_wp2
          go_ret
          exact ⟨by rw [HR.out]; rfl, HB5.out.trans ⟨rfl, rfl, rfl, Nat.le_refl _, fun _ _ => rfl⟩⟩
  · have hne : (x != nm) = true := by rw [bne_iff_ne]; exact hxn
    have hne2 : (x == nm) = false := beq_eq_false_iff_ne.2 hxn
    by_cases hin : x ∈ ims
    · have HH : Hid (_) := specHas ia il ic ims x W2 HI2.out (by omega)
      rw [decide_eq_true hin] at HH
      have HA8 : Hid (∀ W, PkgsIn W a len ps → Calls Tryz.prog 38 #[.slice a len cap, .string ⟨x.toArray⟩] W fun e w' => e = .returned (.int .i64 (at8 ps x)) ∧ w' = W) := fun W hW => specAt8 a len cap ps x W hW hlen
      rcases at8_is ps x with ⟨e8, _⟩ | ⟨j0, hj0, e8, hjn, _⟩
      · have HR : Hid (call9 ps (nm, ims, fs) at_ (k, A, x, fn) = 1) := by exact (by
          unfold call9
          rw [if_pos (by unfold farB; exact decide_eq_true ⟨hxn, Or.inr (by show at8 ps x < 0; omega)⟩)] : call9 ps (nm, ims, fs) at_ (k, A, x, fn) = 1)
        rw [e8] at HA8
        clear e8 hin
        go_enter Tryz.func104, Tryz.ntmps104
        go_wp2_with fail
        refine Calls.mono HH.out ?_
        rintro e w5 ⟨rfl, hw5⟩
        obtain rfl := hw5.symm
        go_wp2_with fail
        refine Calls.mono (HA8.out W2 HP2.out) ?_
        rintro e w5 ⟨rfl, hw5⟩
        obtain rfl := hw5.symm
        go_wp2
        go_ret
        exact ⟨by rw [HR.out]; rfl, HB2.out⟩
      · rw [e8] at HA8
        have hjz0 : ¬ (j0 : Int) < 0 := by omega
        have hl0 : ps.length = len := hl.1
        have hjlen : (j0 : Int) < (len : Int) := by omega
        obtain ⟨b, off, rfl, hbl, c0, qia, qil, qic, qfa, qfl, qfc, c1, c2, _, hqf2⟩ := HP2.out.2 j0 (by omega)
        have hqsh := (hsh j0).2.2.2.1
        have hqfl : qfl ≤ 1048576 := by rw [← hqf2.1]; exact hqsh
        obtain ⟨q, hq⟩ : ∃ q, ps.getD j0 pk0 = q := ⟨_, rfl⟩
        have HV : Hid (call9 ps (nm, ims, fs) at_ (k, A, x, fn) = if atV q.2.2 fn < 0 ∨ (x = nm ∧ at_ ≤ atV q.2.2 fn) then 2 else if (q.2.2.getD (atV q.2.2 fn).toNat fn0).2.1 ≠ A then 3 else 0) := by exact (by
          unfold call9
          have h1 : farB ps (nm, ims, fs) x = false := by unfold farB; exact decide_eq_false (fun h => h.2.elim (fun e => e hin) (fun e => by omega))
          have h2 : ofPk ps (nm, ims, fs) x = q := by unfold ofPk; rw [if_neg hxn, e8, Int.toNat_natCast, hq]
          simp only
          rw [h1, h2, if_neg (by simp)] : call9 ps (nm, ims, fs) at_ (k, A, x, fn) = if atV q.2.2 fn < 0 ∨ (x = nm ∧ at_ ≤ atV q.2.2 fn) then 2 else if (q.2.2.getD (atV q.2.2 fn).toNat fn0).2.1 ≠ A then 3 else 0)
        rw [hq] at c0 hqf2
        obtain ⟨qn, qims, qfs⟩ := q
        simp only at c0 hqf2
        -- q, first as p is, then as the one that is called
        obtain ⟨bq, hbq⟩ := Box3.new W2 (.string ⟨nm.toArray⟩) (.slice ia il ic) (.slice fa fl fc) 32
        obtain ⟨W3, hW3⟩ : ∃ W3, W2.alloc (.cells #[.string ⟨nm.toArray⟩, .slice ia il ic, .slice fa fl fc] 32) = W3 := ⟨_, rfl⟩
        rw [hW3] at bq hbq
        rw [hs2] at bq
        have hfz : ∀ i, W3.frozen? ⟨w.heap.size + 1 + 1, i, none⟩ = false := fun i => by rw [← hW3, ← hs2]; exact World.frozen?_alloc_at _ _ _ _ rfl
        obtain ⟨W4, hW4, q0, q1, q2, hg4⟩ := set3 (.string ⟨qn.toArray⟩) (.slice qia qil qic) (.slice qfa qfl qfc) bq.c0 bq.c1 bq.c2
        have hb24 : Below W2.heap.size W2 W4 := hbq.grown hg4 hbq.size (fun q e => by injection e with e; have e5 : w.heap.size + 1 + 1 = q := e; omega)
        have HBq : Hid (Box3 W4 (w.heap.size + 1 + 1) (.string ⟨qn.toArray⟩) (.slice qia qil qic) (.slice qfa qfl qfc)) := ⟨q0, q1, q2⟩
        have HBp : Hid (Box3 W4 w.heap.size (.string ⟨nm.toArray⟩) (.slice ia il ic) (.slice fa fl fc)) := HBp2.out.below hb24
        have HGn : Hid (w.heap.size + 1 < W4.heap.size) := by have := hb24.size; exact (by omega : w.heap.size + 1 < W4.heap.size)
        have HN2 : Hid (W4.cell? ⟨w.heap.size + 1, 2, none⟩ = some (.string ⟨x.toArray⟩)) := (hb24.cell (p := ⟨w.heap.size + 1, 2, none⟩) (by rw [hs2]; simp)).trans n2
        have HN1 : Hid (W4.cell? ⟨w.heap.size + 1, 1, none⟩ = some (.int .i64 A)) := (hb24.cell (p := ⟨w.heap.size + 1, 1, none⟩) (by rw [hs2]; simp)).trans n1
        have e3 := (hb24.cell (p := ⟨w.heap.size + 1, 3, none⟩) (by rw [hs2]; simp)).trans n3
        have b30 := bq.c0
        have b31 := bq.c1
        have b32 := bq.c2
        have n32 := (hbq.cell (p := ⟨w.heap.size + 1, 2, none⟩) (by rw [hs2]; simp)).trans n2
        have pp0 := (HBp2.out.below hbq).c0
        have d0 := (hbq.cell (p := ⟨b, off + j0 * 3, none⟩) hbl).trans c0
        have d1 := (hbq.cell (p := ⟨b, off + j0 * 3 + 1, none⟩) hbl).trans c1
        have d2 := (hbq.cell (p := ⟨b, off + j0 * 3 + 2, none⟩) hbl).trans c2
        have hz0 := hfz 0
        have hz1 := hfz 1
        have hz2 := hfz 2
        have HBW : Hid (Below w.heap.size w W4) := HB2.out.trans (hb24.mono HB2.out.size)
        have HP3 : Hid (PkgsIn W3 (some ⟨b, off, none⟩) len ps) := HP2.out.below hbq
        have hqf := hqf2.below hb24
        have HAt : Hid (_) := specAt qn fn qia qil qic qfa qfl qfc qfs W4 hqf hqfl
        simp only at HV
        clear bq hbq hb24 hfz hq hqf2 e8 hin hg4 hsh hqsh hl
        go_enter Tryz.func104, Tryz.ntmps104
        go_wp2_with fail
        refine Calls.mono HH.out ?_
        rintro e w5 ⟨rfl, hw5⟩
        obtain rfl := hw5.symm
        go_wp2_with fail
        refine Calls.mono (HA8.out W2 HP2.out) ?_
        rintro e w5 ⟨rfl, hw5⟩
        obtain rfl := hw5.symm
        go_wp2_with fail
        refine Calls.mono (HA8.out W3 HP3.out) ?_
        rintro e w5 ⟨rfl, hw5⟩
        obtain rfl := hw5.symm
        have HQ : Hid (FuncsIn W4 qfa qfl qfs) := hqf
        rcases at7_is qfs fn with eK | ⟨j, hj, eK, hjn⟩
        · have HR : Hid (call9 ps (nm, ims, fs) at_ (k, A, x, fn) = 2) := by exact (by rw [HV.out, eK, if_pos (Or.inl (by omega))] : call9 ps (nm, ims, fs) at_ (k, A, x, fn) = 2)
          rw [eK] at HAt
          go_wp2_with fail
          refine Calls.mono HAt.out ?_
          rintro e w5 ⟨rfl, hb5⟩
          have HB5 : Hid (Below w.heap.size w w5) := HBW.out.trans (hb5.mono HBW.out.size)
          have g0 := (HBq.out.below hb5).c0
          have g1 := (HBq.out.below hb5).c1
          have g2 := (HBq.out.below hb5).c2
          have m0 := (HBp.out.below hb5).c0
          have m2 := (hb5.cell (p := ⟨w.heap.size + 1, 2, none⟩) HGn.out).trans HN2.out
          have m1 := (hb5.cell (p := ⟨w.heap.size + 1, 1, none⟩) HGn.out).trans HN1.out
          clear hb5 hqf eK
          go_wp2
          go_ret
          exact ⟨by rw [HR.out]; rfl, HB5.out⟩
        · rw [eK] at HAt
          have hj0 : ¬ (j : Int) < 0 := by omega
          have hjl : j < qfl := by rw [← HQ.out.1]; exact hj
          have hjz : (j : Int) < (qfl : Int) := by omega
          have HC7 : Hid (¬ ((j : Int) < 0 ∨ (x = nm ∧ at_ ≤ (j : Int)))) := fun h => h.elim hj0 (fun h => hxn h.1)
          go_wp2_with fail
          refine Calls.mono HAt.out ?_
          rintro e w5 ⟨rfl, hb5⟩
          have HB5 : Hid (Below w.heap.size w w5) := HBW.out.trans (hb5.mono HBW.out.size)
          have g0 := (HBq.out.below hb5).c0
          have g1 := (HBq.out.below hb5).c1
          have g2 := (HBq.out.below hb5).c2
          have m0 := (HBp.out.below hb5).c0
          have m2 := (hb5.cell (p := ⟨w.heap.size + 1, 2, none⟩) HGn.out).trans HN2.out
          have m1 := (hb5.cell (p := ⟨w.heap.size + 1, 1, none⟩) HGn.out).trans HN1.out
          have hq5 := HQ.out.below hb5
          obtain ⟨bq, oq, rfl, _, _, r1, _⟩ := hq5.2 j hjl
          obtain ⟨B, hB⟩ : ∃ B, (qfs.getD j fn0).2.1 = B := ⟨_, rfl⟩
          rw [hB] at r1
          clear hb5 hqf hq5
          by_cases hBA : B = A
          · have HR : Hid (call9 ps (nm, ims, fs) at_ (k, A, x, fn) = 0) := by exact (by rw [HV.out, eK, if_neg HC7.out, Int.toNat_natCast, hB, if_neg (by simpa using hBA)] : call9 ps (nm, ims, fs) at_ (k, A, x, fn) = 0)
            have hne : (B != A) = false := by simp [hBA]
            subst hBA
            have hne2 : (B == B) = true := by simp
            clear eK hB
            go_wp2_with fail
            go_quiet (fail)
            go_wp2
            go_ret
            exact ⟨by rw [HR.out]; rfl, HB5.out.trans ⟨rfl, rfl, rfl, Nat.le_refl _, fun _ _ => rfl⟩⟩
          · have HR : Hid (call9 ps (nm, ims, fs) at_ (k, A, x, fn) = 3) := by exact (by rw [HV.out, eK, if_neg HC7.out, Int.toNat_natCast, hB, if_pos hBA] : call9 ps (nm, ims, fs) at_ (k, A, x, fn) = 3)
            have hne : (B != A) = true := by rw [bne_iff_ne]; exact hBA
            have hne2 : (B == A) = false := beq_eq_false_iff_ne.2 hBA
            have hne3 : ¬ B = A := hBA
            clear eK hB
            go_wp2_with fail
            go_quiet (fail)
            go_wp2
            go_ret
            exact ⟨by rw [HR.out]; rfl, HB5.out.trans ⟨rfl, rfl, rfl, Nat.le_refl _, fun _ _ => rfl⟩⟩
    · have HH : Hid (_) := specHas ia il ic ims x W2 HI2.out (by omega)
      rw [decide_eq_false hin] at HH
      have HR : Hid (call9 ps (nm, ims, fs) at_ (k, A, x, fn) = 1) := by exact (by
        unfold call9
        rw [if_pos (by unfold farB; exact decide_eq_true ⟨hxn, Or.inl hin⟩)] : call9 ps (nm, ims, fs) at_ (k, A, x, fn) = 1)
      clear hin
      go_enter Tryz.func104, Tryz.ntmps104
      go_wp2_with (go_at_call 63; refine Calls.mono HH.out ?_; rintro e w5 ⟨rfl, hw5⟩; obtain rfl := hw5.symm)
      go_ret
      exact ⟨by rw [HR.out]; rfl, HB2.out⟩

end Go.Proofs.YtdjglpcllcjcfaaGreatDoor

/-! The contracts of chapter 6's specification: l6Parts, PartsOf. -/
namespace Go.Proofs.YtdjglpcllcjcfaaGreatDoor
open Go.RowKit

/-- What a row of numbers holds. -/
def intsV (l : List Int) : List Value := l.map (fun i => Value.int .i64 i)
theorem intsV_len (l : List Int) : (intsV l).length = l.length := by simp [intsV]
theorem intsV_append (x y : List Int) : intsV (x ++ y) = intsV x ++ intsV y := by simp [intsV]
theorem intsV_one (l : List Int) : ∀ u ∈ intsV l, u.oneCell' = true := by
  intro u hu
  simp only [intsV, List.mem_map] at hu
  obtain ⟨i, _, rfl⟩ := hu
  rfl
theorem infoInt : (Tryz.prog.info? 2).map (fun i => (i.zero, i.size, i.bytes)) = some (some (.int .i64 0), 1, 8) := by kernel_rfl

theorem new_int (w : World) (n : Int) : ∀ j u, (intsV [n])[j]? = some u → (w.alloc (.cells #[.int .i64 n] 2)).cell? ((⟨w.heap.size, 0, none⟩ : Addr).add j) = some u := by
  intro j u hu
  have e : (⟨w.heap.size, 0, none⟩ : Addr).add j = ⟨w.heap.size, j, none⟩ := by unfold Addr.add; split <;> simp_all
  rw [e]
  match j, hu with
  | 0, hu => simp [intsV] at hu; subst hu; simp
  | j + 1, hu => simp [intsV] at hu

theorem endV_le (l : List Nd) (a : Int) : -1 ≤ endV l a ∧ endV l a ≤ l.length := by
  by_cases h : 0 ≤ endV l a
  · by_cases ha : a < 0 ∨ (l.length : Int) ≤ a
    · rw [endV_out l a ha] at h; omega
    · obtain ⟨k, rfl⟩ : ∃ k : Nat, a = (k : Int) := Int.eq_ofNat_of_zero_le (by omega)
      have := end_parts h
      omega
  · by_cases ha : a < 0 ∨ (l.length : Int) ≤ a
    · rw [endV_out l a ha]; omega
    · obtain ⟨k, rfl⟩ : ∃ k : Nat, a = (k : Int) := Int.eq_ofNat_of_zero_le (by omega)
      rw [endV_nat] at h ⊢
      unfold endN at h ⊢
      rw [if_pos (by omega)] at h ⊢
      cases he : endGo (l.drop k) 1 with
      | none => simp only; omega
      | some d => rw [he] at h; simp only at h; omega



end Go.Proofs.YtdjglpcllcjcfaaGreatDoor
