/-
  Parts of one proof, one behind the other: Math9L, ProjS.
-/
import Derived.Test.YtdjglpcllcjcfaaDoorP15
import Derived.Test.YtdjglpcllcjcfaaDoorP14
import Derived.Test.YtdjglpcllcjcfaaDoorP9
import Derived.Deep.RegionHeld3
import Derived.Deep.Cut

/-! Plain facts of chapter 9: what FnFaults tests. -/
namespace Go.Proofs.YtdjglpcllcjcfaaDoor
open Go.RowKit

theorem pkOf_nm {ps : List Pk} (hn : (names8 ps).Nodup) {i : Nat} (hi : i < ps.length) : pkOf ps (nmAt ps i) = ps.getD i pk0 := by
  unfold pkOf
  rcases at8_is ps (nmAt ps i) with ⟨_, e⟩ | ⟨j, hj, e, hnm, _⟩
  · exact absurd (nmAt_mem hi) e
  · rw [e]
    have := nmAt_inj hn hj hi hnm
    subst this
    rfl
theorem pkOf_mem {ps : List Pk} {x : List UInt8} (hx : x ∈ names8 ps) : pkOf ps x ∈ ps ∧ (pkOf ps x).1 = x := by
  rcases at8_is ps x with ⟨_, e⟩ | ⟨j, hj, e, hnm, _⟩
  · exact absurd hx e
  · unfold pkOf
    rw [e]
    exact ⟨getD_mem_pk hj, hnm⟩
theorem pkOf_self {ps : List Pk} (hn : (names8 ps).Nodup) {p : Pk} (hp : p ∈ ps) : pkOf ps p.1 = p := by
  obtain ⟨i, hi, rfl⟩ := List.mem_iff_getElem.1 hp
  have e : ps.getD i pk0 = ps[i] := by simp [List.getD, hi]
  have := pkOf_nm hn hi
  unfold nmAt at this
  rw [e] at this
  exact this
theorem ord9_mem {ps : List Pk} (h : projB ps = true) {x : List UInt8} : x ∈ ord9 ps ↔ x ∈ names8 ps := by
  unfold ord9
  rw [List.mem_append, List.mem_filter, decide_eq_true_eq]
  constructor
  · rintro (e | e)
    · exact (order8_end h).1.sub x e
    · exact e.1
  · intro e
    rcases Decidable.em (x ∈ order8 ps) with h1 | h1
    · exact Or.inl h1
    · exact Or.inr ⟨e, h1⟩
/-- What a fault says of itself. -/
structure Flt9 (ps : List Pk) (f : Flt) : Prop where
  lo : 1 ≤ f.1
  hi : f.1 ≤ 4
  fn : f.2.2 ≠ [] ↔ 3 ≤ f.1
theorem name_ne {x : List UInt8} (h : nameB x = true) : x ≠ [] := fun e => by
  have := (name_letters h).1.1
  rw [e] at this
  simp at this
theorem fnsGo_val {ps : List Pk} {p : Pk} : ∀ (fs : List Fn) (k : Nat), (∀ f ∈ fs, f.1 ≠ []) → ∀ f, fnsGo ps p fs k = some f → Flt9 ps f
  | [], _, _, f, h => by simp [fnsGo] at h
  | g :: r, k, hf, f, h => by
    rw [fnsGo] at h
    split at h
    · rename_i h0
      injection h with h
      subst h
      have := func9_val ps p k
      exact ⟨by simp only; omega, by simp only; omega, ⟨fun _ => by simp only; omega, fun _ => hf g List.mem_cons_self⟩⟩
    · exact fnsGo_val r (k + 1) (fun q hq => hf q (List.mem_cons_of_mem _ hq)) f h
theorem fnsGo_none {ps : List Pk} {p : Pk} : ∀ (fs : List Fn) (k : Nat), fnsGo ps p fs k = none → ∀ i, i < fs.length → func9 ps p (k + i) = 0
  | [], _, _, i, hi => by simp at hi
  | g :: r, k, h, i, hi => by
    rw [fnsGo] at h
    split at h
    · simp at h
    · rename_i h0
      cases i with
      | zero => simpa using h0
      | succ i =>
        have := fnsGo_none r (k + 1) h i (by simpa using hi)
        rw [show k + (i + 1) = k + 1 + i by omega]
        exact this
theorem pk9_val {ps : List Pk} {done i : Nat} {p : Pk} (hp : ∀ f ∈ p.2.2, f.1 ≠ []) {f : Flt} (h : pk9 ps done i p = some f) : Flt9 ps f := by
  unfold pk9 at h
  split at h
  · injection h with h; subst h; exact ⟨by simp, by simp, by simp⟩
  · split at h
    · injection h with h; subst h; exact ⟨by simp, by simp, by simp⟩
    · exact fnsGo_val _ _ hp f h
theorem fltGo_val {ps : List Pk} {done : Nat} (hp : ∀ p ∈ ps, ∀ f ∈ p.2.2, f.1 ≠ []) : ∀ (l : List (List UInt8)) (i : Nat), (∀ x ∈ l, x ∈ names8 ps) → ∀ f, fltGo ps done l i = some f → Flt9 ps f
  | [], _, _, f, h => by simp [fltGo] at h
  | x :: r, i, hl, f, h => by
    rw [fltGo] at h
    rcases hk : pk9 ps done i (pkOf ps x) with _ | g
    · rw [hk] at h
      exact fltGo_val hp r (i + 1) (fun y hy => hl y (List.mem_cons_of_mem _ hy)) f h
    · rw [hk] at h
      injection h with h
      subst h
      exact pk9_val (hp _ (pkOf_mem (hl x List.mem_cons_self)).1) hk
theorem fltGo_none {ps : List Pk} {done : Nat} : ∀ (l : List (List UInt8)) (i : Nat), fltGo ps done l i = none → ∀ k, k < l.length → pk9 ps done (i + k) (pkOf ps (l.getD k [])) = none
  | [], _, _, k, hk => by simp at hk
  | x :: r, i, h, k, hk => by
    rw [fltGo] at h
    rcases hp : pk9 ps done i (pkOf ps x) with _ | g
    · rw [hp] at h
      cases k with
      | zero => simpa using hp
      | succ k =>
        have := fltGo_none r (i + 1) h k (by simpa using hk)
        rw [show i + (k + 1) = i + 1 + k by omega]
        simpa using this
    · rw [hp] at h; simp at h
theorem names_ne {ps : List Pk} (h : projB ps = true) : ∀ p ∈ ps, ∀ f ∈ p.2.2, f.1 ≠ [] := fun p hp f hf => by
  have h1 := (pkgB_parts ((projB_parts h).2.2 p hp)).2.2.2.2 f hf
  unfold funcB at h1
  rw [Bool.and_eq_true] at h1
  exact name_ne h1.1
theorem node_of9 {ps : List Pk} (h : projB ps = true) {p : Pk} (hp : p ∈ ps) {k : Nat} (hk : k < p.2.2.length) {n : Nd} (hn : n ∈ (p.2.2.getD k fn0).2.2) : nodeB n = true := by
  have hm : p.2.2.getD k fn0 ∈ p.2.2 := by simp [List.getD, hk]
  have h1 := (pkgB_parts ((projB_parts h).2.2 p hp)).2.2.2.2 _ hm
  unfold funcB at h1
  rw [Bool.and_eq_true, Bool.and_eq_true] at h1
  exact tree_nodes h1.2.2 n hn

/-- A fault's number tells what it is. -/
theorem faultV_law (ps : List Pk) (h0 : (faultV ps).1 ≠ 0) : 1 ≤ (faultV ps).1 ∧ (faultV ps).1 ≤ 6 ∧ ((faultV ps).1 = 6 ↔ projB ps = false) ∧ ((faultV ps).2.2 ≠ [] ↔ 3 ≤ (faultV ps).1 ∧ (faultV ps).1 ≤ 5) := by
  unfold faultV at h0 ⊢
  rcases hp : projB ps with _ | _
  · rw [if_neg (by simp)]; simp
  · rw [hp, if_pos rfl] at h0
    rw [if_pos rfl]
    unfold fault9 at h0 ⊢
    rcases hf : fltGo ps (order8 ps).length (ord9 ps) 0 with _ | f
    · rw [hf] at h0
      simp only at h0 ⊢
      unfold main9 at h0 ⊢
      split
      · rename_i hm; rw [if_pos hm] at h0; simp at h0
      · simp [mainT]
    · have := fltGo_val (names_ne hp) _ _ (fun x hx => (ord9_mem hp).1 hx) f hf
      have h1 := this.lo
      have h2 := this.hi
      have h3 := this.fn
      simp only
      refine ⟨h1, by omega, ⟨fun e => by omega, fun e => by simp at e⟩, h3.trans ⟨fun e => ⟨e, by omega⟩, fun e => e.1⟩⟩
/-- Where nothing is wrong. -/
theorem faultV_zero {ps : List Pk} (h0 : (faultV ps).1 = 0) : faultV ps = (0, [], []) ∧ projB ps = true ∧ (order8 ps).length = ps.length ∧ (∀ p ∈ ps, ∀ m ∈ p.2.1, m ∈ names8 ps) ∧ (∀ p ∈ ps, ∀ k, k < p.2.2.length → func9 ps p k = 0) ∧
    (0 ≤ at8 ps mainT ∧ 0 ≤ atV (pkOf ps mainT).2.2 mainT ∧ ((pkOf ps mainT).2.2.getD (atV (pkOf ps mainT).2.2 mainT).toNat fn0).2.1 = 1) := by
  unfold faultV at h0 ⊢
  rcases hp : projB ps with _ | _
  · rw [hp, if_neg (by simp)] at h0; simp at h0
  · rw [hp, if_pos rfl] at h0
    rw [if_pos rfl]
    unfold fault9 at h0 ⊢
    rcases hf : fltGo ps (order8 ps).length (ord9 ps) 0 with _ | f
    · rw [hf] at h0
      simp only at h0 ⊢
      have hm : 0 ≤ at8 ps mainT ∧ 0 ≤ atV (pkOf ps mainT).2.2 mainT ∧ ((pkOf ps mainT).2.2.getD (atV (pkOf ps mainT).2.2 mainT).toNat fn0).2.1 = 1 := by
        unfold main9 at h0
        exact Decidable.byContradiction fun e => by rw [if_neg e] at h0; simp at h0
      have hnone := fltGo_none _ _ hf
      have hnd := (projB_parts hp).1.nodup
      have hlen : (ord9 ps).length ≤ (order8 ps).length := by
        rcases Nat.lt_or_ge (order8 ps).length (ord9 ps).length with hl | hl
        · have := hnone (order8 ps).length hl
          unfold pk9 at this
          split at this
          · simp at this
          · rw [if_pos (by omega)] at this; simp at this
        · exact hl
      have hall : ∀ x ∈ names8 ps, x ∈ order8 ps := fun x hx => by
        have he : (names8 ps).filter (fun x => decide (¬ x ∈ order8 ps)) = [] := by
          apply List.eq_nil_of_length_eq_zero
          unfold ord9 at hlen
          rw [List.length_append] at hlen
          omega
        rw [List.filter_eq_nil_iff] at he
        have := he x hx
        rw [decide_eq_true_eq] at this
        exact Decidable.byContradiction this
      have hpk : ∀ p ∈ ps, ¬ miss9 ps p ∧ fnsGo ps p p.2.2 0 = none := fun p hpm => by
        have hx : p.1 ∈ names8 ps := List.mem_map.2 ⟨p, hpm, rfl⟩
        obtain ⟨k, hk, e⟩ := List.mem_iff_getElem.1 ((ord9_mem hp).2 hx)
        have h1 := hnone k hk
        rw [show (ord9 ps).getD k [] = p.1 by simp [List.getD, hk, e], pkOf_self hnd hpm] at h1
        unfold pk9 at h1
        split at h1
        · simp at h1
        · rename_i hm
          split at h1
          · simp at h1
          · exact ⟨hm, h1⟩
      refine ⟨by unfold main9; rw [if_pos hm], trivial, ?_, fun p hpm m hmm => ?_, fun p hpm k hk => ?_, hm⟩
      · have h1 := (order8_end hp).1.len
        have h2 := hnd.length_le_of_subset (fun x hx => hall x hx)
        have h3 : (names8 ps).length = ps.length := by simp [names8]
        omega
      · refine (at8_mem ps m).1 ?_
        have h1 := (hpk p hpm).1
        unfold miss9 at h1
        rcases Int.lt_or_le (at8 ps m) 0 with h2 | h2
        · exact absurd ⟨m, hmm, h2⟩ h1
        · exact h2
      · have := fnsGo_none _ _ (hpk p hpm).2 k hk
        simpa using this
    · rw [hf] at h0
      have := (fltGo_val (names_ne hp) _ _ (fun x hx => (ord9_mem hp).1 hx) f hf).lo
      simp only at h0
      omega
/-- A call that the law asks of each node. -/
theorem callV_of {ps : List Pk} (h : projB ps = true) {p : Pk} (hp : p ∈ ps) {k : Nat} (hk : k < p.2.2.length) {n : Nd} (hn : n ∈ (p.2.2.getD k fn0).2.2) (hf : func9 ps p k = 0) : ¬ arg9 (p.2.2.getD k fn0) n ∧ (n.1 = 8 → callV ps p.1 (k : Int) n = 0) := by
  obtain ⟨h1, h2⟩ := func9_zero hf n hn
  refine ⟨h1, fun h8 => ?_⟩
  have hc : call9 ps p (k : Int) n = 0 := Decidable.byContradiction fun e => h2 ⟨h8, e⟩
  have hnd := (projB_parts h).1.nodup
  have hpo := pkOf_self hnd hp
  unfold callV
  rw [if_pos ⟨h, (at8_mem ps p.1).2 (List.mem_map.2 ⟨p, hp, rfl⟩), node_of9 h hp hk hn, h8, by omega, by rw [hpo]; omega⟩, hpo]
  exact hc

/-! What FnCalls looks for. -/
theorem at7Go_is (s : List UInt8) : ∀ (fs : List Fn) (k : Nat), atGo s fs k = -1 ∨ ∃ i, i < fs.length ∧ atGo s fs k = ((k + i : Nat) : Int) ∧ (fs.getD i fn0).1 = s
  | [], k => Or.inl rfl
  | p :: r, k => by
    rw [atGo]
    by_cases h : p.1 = s
    · rw [if_pos h]; exact Or.inr ⟨0, by simp, by simp, by simpa using h⟩
    · rw [if_neg h]
      rcases at7Go_is s r (k + 1) with e | ⟨i, hi, e, hn⟩
      · exact Or.inl e
      · exact Or.inr ⟨i + 1, by simpa using hi, by rw [e]; congr 1; omega, by simpa using hn⟩
theorem at7_is (fs : List Fn) (s : List UInt8) : atV fs s = -1 ∨ ∃ i, i < fs.length ∧ atV fs s = (i : Int) ∧ (fs.getD i fn0).1 = s := by
  rcases at7Go_is s fs 0 with e | ⟨i, hi, e, hn⟩
  · exact Or.inl e
  · exact Or.inr ⟨i, hi, by unfold atV; rw [e]; congr 1; omega, hn⟩
theorem pk_at {p : Pk} (h : pkgB p = true) {i : Nat} (hi : i < p.2.2.length) : atV p.2.2 (p.2.2.getD i fn0).1 = (i : Int) := by
  unfold pkgB at h
  rw [Bool.and_eq_true, decide_eq_true_eq] at h
  exact (h.2 i hi).2
/-- A function that the law finds. -/
def hit9 (ps : List Pk) (s : List UInt8) (at_ : Int) (n : Nd) (j m : Nat) : Prop := nmAt ps j = n.2.2.1 ∧ ((ps.getD j pk0).2.2.getD m fn0).1 = n.2.2.2 ∧ ((ps.getD j pk0).2.2.getD m fn0).2.1 = n.2.1 ∧ (n.2.2.1 ≠ s ∨ (m : Int) < at_)
def ok9 (ps : List Pk) (s : List UInt8) (n : Nd) (i : Nat) : Prop := n.2.2.1 = s ∨ n.2.2.1 ∈ imsAt ps i
def found9 (ps : List Pk) (s : List UInt8) (at_ : Int) (n : Nd) : Prop := ∃ i, i < ps.length ∧ nmAt ps i = s ∧ ok9 ps s n i ∧ ∃ j, j < ps.length ∧ ∃ m, m < (ps.getD j pk0).2.2.length ∧ hit9 ps s at_ n j m
theorem found9_law {ps : List Pk} {s : List UInt8} {at_ : Int} {n : Nd} (h : callB ps s at_ n) : found9 ps s at_ n ↔ callV ps s at_ n = 0 := by
  obtain ⟨hp, hs, _, _, _, _⟩ := id h
  have hnd := (projB_parts hp).1.nodup
  have hsn := (at8_mem ps s).1 hs
  obtain ⟨hpm, hp1⟩ := pkOf_mem hsn
  unfold callV
  rw [if_pos h]
  obtain ⟨p, hpe⟩ : ∃ p, pkOf ps s = p := ⟨_, rfl⟩
  rw [hpe] at hpm hp1 ⊢
  -- the package that a place of the name n's is
  have hq : ∀ j, j < ps.length → nmAt ps j = n.2.2.1 → ofPk ps p n.2.2.1 = ps.getD j pk0 := fun j hj e => by
    unfold ofPk
    rw [← e]
    by_cases h1 : nmAt ps j = p.1
    · rw [if_pos h1]
      have := pkOf_nm hnd hj
      rw [h1, pkOf_self hnd hpm] at this
      exact this
    · rw [if_neg h1]
      exact pkOf_nm hnd hj
  have hi0 : ∀ i, i < ps.length → nmAt ps i = s → ps.getD i pk0 = p := fun i hi e => by
    have := pkOf_nm hnd hi
    rw [e, hpe] at this
    exact this.symm
  constructor
  · rintro ⟨i, hi, hnm, hok, j, hj, m, hm, h1, h2, h3, h4⟩
    have hqj := hq j hj h1
    have hip := hi0 i hi hnm
    have hpg := (projB_parts hp).2.2 _ (getD_mem_pk hj)
    have hat := pk_at hpg hm
    rw [h2] at hat
    unfold call9
    rw [hqj, hat, Int.toNat_natCast, if_neg, if_neg, if_neg]
    · exact fun e => e h3
    · rintro (e | ⟨e1, e2⟩)
      · omega
      · rcases h4 with h4 | h4
        · exact h4 (by rw [e1, hp1])
        · omega
    · unfold farB
      rw [decide_eq_true_eq]
      rintro ⟨e1, e2⟩
      rcases hok with hok | hok
      · exact e1 (by rw [hp1]; exact hok)
      · rcases e2 with e2 | e2
        · unfold imsAt at hok; rw [hip] at hok; exact e2 hok
        · have := (at8_mem ps n.2.2.1).2 (by rw [← h1]; exact nmAt_mem hj); omega
  · intro h0
    unfold call9 at h0
    split at h0
    · omega
    · rename_i hfar
      split at h0
      · omega
      · rename_i hk
        split at h0
        · omega
        · rename_i ha
          have hfar2 : n.2.2.1 = p.1 ∨ (n.2.2.1 ∈ p.2.1 ∧ 0 ≤ at8 ps n.2.2.1) := by
            unfold farB at hfar
            rw [decide_eq_true_eq] at hfar
            by_cases e : n.2.2.1 = p.1
            · exact Or.inl e
            · refine Or.inr ⟨Decidable.byContradiction fun e2 => hfar ⟨e, Or.inl e2⟩, ?_⟩
              rcases Int.lt_or_le (at8 ps n.2.2.1) 0 with e3 | e3
              · exact absurd ⟨e, Or.inr e3⟩ hfar
              · exact e3
          have hnn : n.2.2.1 ∈ names8 ps := by
            rcases hfar2 with e | ⟨_, e⟩
            · rw [e, hp1]; exact hsn
            · exact (at8_mem ps _).1 e
          obtain ⟨j, hj, hjn⟩ : ∃ j, j < ps.length ∧ nmAt ps j = n.2.2.1 := by
            rcases at8_is ps n.2.2.1 with ⟨_, e⟩ | ⟨j, hj, _, e, _⟩
            · exact absurd hnn e
            · exact ⟨j, hj, e⟩
          obtain ⟨i, hi, hin⟩ : ∃ i, i < ps.length ∧ nmAt ps i = s := by
            rcases at8_is ps s with ⟨_, e⟩ | ⟨i, hi, _, e, _⟩
            · exact absurd hsn e
            · exact ⟨i, hi, e⟩
          have hqj := hq j hj hjn
          have hip := hi0 i hi hin
          rw [hqj] at hk ha
          rcases at7_is (ps.getD j pk0).2.2 n.2.2.2 with e | ⟨m, hm, e, hmn⟩
          · rw [e] at hk; omega
          · rw [e] at hk ha
            rw [Int.toNat_natCast] at ha
            refine ⟨i, hi, hin, ?_, j, hj, m, hm, hjn, hmn, Decidable.byContradiction fun e3 => ha e3, ?_⟩
            · rcases hfar2 with e2 | ⟨e2, _⟩
              · exact Or.inl (by rw [e2, hp1])
              · exact Or.inr (by unfold imsAt; rw [hip]; exact e2)
            · by_cases e2 : n.2.2.1 = s
              · right
                rcases Int.lt_or_le (m : Int) at_ with e3 | e3
                · exact e3
                · exact absurd (Or.inr ⟨by rw [hp1]; exact e2, e3⟩) hk
              · exact Or.inl e2

end Go.Proofs.YtdjglpcllcjcfaaDoor

/-! The contracts of chapter 8's specification: l1Has, l8At. -/
namespace Go.Proofs.YtdjglpcllcjcfaaDoor
open Go.RowKit

/-- The packages ps lie at a, three cells each, their lists where those say. -/
def PkgsIn (w : World) (a : Option Addr) (len : Nat) (ps : List Pk) : Prop :=
  ps.length = len ∧ ∀ j, j < len → ∃ b off, a = some ⟨b, off, none⟩ ∧ b < w.heap.size ∧ w.cell? ⟨b, off + j * 3, none⟩ = some (.string ⟨(ps.getD j pk0).1.toArray⟩) ∧
    ∃ ia il ic fa fl fc, w.cell? ⟨b, off + j * 3 + 1, none⟩ = some (.slice ia il ic) ∧ w.cell? ⟨b, off + j * 3 + 2, none⟩ = some (.slice fa fl fc) ∧ TextsIn w ia il (ps.getD j pk0).2.1 ∧ FuncsIn w fa fl (ps.getD j pk0).2.2
theorem PkgsIn.below {w w' : World} {a : Option Addr} {len : Nat} {ps : List Pk} (h : PkgsIn w a len ps) (hb : Below w.heap.size w w') : PkgsIn w' a len ps := by
  refine ⟨h.1, fun j hj => ?_⟩
  obtain ⟨b, off, e, hlt, c0, ia, il, ic, fa, fl, fc, c1, c2, hi, hf⟩ := h.2 j hj
  exact ⟨b, off, e, Nat.lt_of_lt_of_le hlt hb.size, (hb.cell (p := ⟨b, off + j * 3, none⟩) hlt).trans c0, ia, il, ic, fa, fl, fc, (hb.cell (p := ⟨b, off + j * 3 + 1, none⟩) hlt).trans c1, (hb.cell (p := ⟨b, off + j * 3 + 2, none⟩) hlt).trans c2, hi.below hb, hf.below hb⟩

/-- How long the parts of a project may be. -/
def ShortPs (ps : List Pk) : Prop := ∀ j, (ps.getD j pk0).1.length ≤ 1048576 ∧ (ps.getD j pk0).2.1.length ≤ 1048576 ∧ (∀ i, ((ps.getD j pk0).2.1.getD i []).length ≤ 1048576) ∧ (ps.getD j pk0).2.2.length ≤ 1048576 ∧ ShortF (ps.getD j pk0).2.2

theorem mem_take_step {ts : List (List UInt8)} {s : List UInt8} {k : Nat} (h : ∀ i, i < k → ts.getD i [] ≠ s) (hk : ts.length ≤ k) : ¬ s ∈ ts := fun hm => by
  obtain ⟨i, hi, rfl⟩ := List.mem_iff_getElem.1 hm
  exact h i (by omega) (by simp [List.getD, hi])
theorem getD_mem8 {ts : List (List UInt8)} {k : Nat} (hk : k < ts.length) : ts.getD k [] ∈ ts := by
  rw [List.getD_eq_getElem?_getD, List.getElem?_eq_getElem hk]; exact List.getElem_mem hk

set_option maxHeartbeats 1000000 in
set_option maxRecDepth 100000 in
theorem specHas (a : Option Addr) (len cap : Nat) (ts : List (List UInt8)) (s : List UInt8) (w : World) (hin : TextsIn w a len ts) (hlen : len ≤ 4194304) :
    Calls Tryd.prog 60 #[.slice a len cap, .string ⟨s.toArray⟩] w fun e w' => e = .returned (.bool (decide (s ∈ ts))) ∧ w' = w := by
  obtain rfl : ts.length = len := hin.1
  have HI : Hid (TextsIn w a ts.length ts) := hin
  clear hin
  go_enter Tryd.func60, Tryd.ntmps60
  go_wp2
  go_loopw [5] (fun iv wr => ∃ k : Nat, iv = .int .i64 (k : Int) ∧ k ≤ ts.length ∧ Hid (∀ i, i < k → ts.getD i [] ≠ s) ∧ wr = w) (fun iv _ => ts.length - (intOf iv).toNat)
  case atStart => exact ⟨0, rfl, by omega, (fun i hi => by omega), rfl⟩
  case round =>
    obtain ⟨k, rfl, hk, HA, rfl⟩ := hrel
    by_cases hlt : (k : Int) < (ts.length : Int)
    · have hk2 : k < ts.length := by omega
      obtain ⟨b, off, rfl, hbl, c0⟩ := HI.out.2 k hk2
      have hmem := getD_mem8 hk2
      obtain ⟨x, hx⟩ : ∃ x, ts.getD k [] = x := ⟨_, rfl⟩
      rw [hx] at c0 hmem
      by_cases hxs : x = s
      · subst hxs
        have HR : Hid (decide (x ∈ ts) = true) := decide_eq_true hmem
        have hself : (x == x) = true := by simp
        clear HA hx hmem
        go_wp2
        go_ret
        exact ⟨by rw [HR.out]; rfl, rfl⟩
      · have HA2 : Hid (∀ i, i < k + 1 → ts.getD i [] ≠ s) := fun i hi => by
          rcases Nat.lt_or_ge i k with h | h
          · exact HA.out i h
          · obtain rfl : i = k := by omega
            rw [hx]; exact hxs
        have hne : (x == s) = false := by rw [beq_eq_false_iff_ne]; exact hxs
        clear HA hx hmem
        go_wp2
        go_roundw
        case rel => exact ⟨k + 1, by go_num, by omega, HA2, trivial⟩
        case measure => simp [intOf]; omega
    · have HR : Hid (decide (s ∈ ts) = false) := decide_eq_false (mem_take_step HA.out (by omega))
      go_wp2
      go_ret
      exact ⟨by rw [HR.out]; rfl, rfl⟩

set_option maxHeartbeats 1000000 in
set_option maxRecDepth 100000 in
theorem specAt8 (a : Option Addr) (len cap : Nat) (ps : List Pk) (s : List UInt8) (w : World) (hin : PkgsIn w a len ps) (hlen : len ≤ 1048576) :
    Calls Tryd.prog 34 #[.slice a len cap, .string ⟨s.toArray⟩] w fun e w' => e = .returned (.int .i64 (at8 ps s)) ∧ w' = w := by
  obtain rfl : ps.length = len := hin.1
  have HI : Hid (PkgsIn w a ps.length ps) := hin
  clear hin
  go_enter Tryd.func34, Tryd.ntmps34
  go_wp2
  go_loopw [5] (fun iv wr => ∃ j : Nat, iv = .int .i64 (j : Int) ∧ j ≤ ps.length ∧ Hid (at8 ps s = at8Go s (ps.drop j) j) ∧ wr = w) (fun iv _ => ps.length - (intOf iv).toNat)
  case atStart => exact ⟨0, rfl, by omega, (rfl : at8 ps s = at8Go s (ps.drop 0) 0), rfl⟩
  case round =>
    obtain ⟨j, rfl, hj, HA, rfl⟩ := hrel
    by_cases hlt : (j : Int) < (ps.length : Int)
    · obtain ⟨b, off, rfl, hbl, c0, _⟩ := HI.out.2 j (by omega)
      have hg := at8Go_drop (ps := ps) (k := j) (by omega) s
      obtain ⟨x, hx⟩ : ∃ x, (ps.getD j pk0).1 = x := ⟨_, rfl⟩
      rw [hx] at c0 hg
      by_cases hxs : x = s
      · subst hxs
        have HR : Hid (at8 ps x = (j : Int)) := by exact (by rw [HA.out, hg, if_pos rfl] : at8 ps x = (j : Int))
        have hself : (x == x) = true := by simp
        clear HA hg hx
        go_wp2
        go_ret
        exact ⟨by rw [HR.out]; rfl, rfl⟩
      · have HR : Hid (at8 ps s = at8Go s (ps.drop (j + 1)) (j + 1)) := by exact (by rw [HA.out, hg, if_neg hxs] : at8 ps s = at8Go s (ps.drop (j + 1)) (j + 1))
        have hne : (x == s) = false := by rw [beq_eq_false_iff_ne]; exact hxs
        clear HA hg hx
        go_wp2
        go_roundw
        case rel => exact ⟨j + 1, by go_num, by omega, HR, trivial⟩
        case measure => simp [intOf]; omega
    · have HR : Hid (at8 ps s = -1) := by exact (by rw [HA.out, List.drop_of_length_le (by omega)]; rfl : at8 ps s = -1)
      go_wp2
      go_ret
      exact ⟨by rw [HR.out]; rfl, rfl⟩

end Go.Proofs.YtdjglpcllcjcfaaDoor
