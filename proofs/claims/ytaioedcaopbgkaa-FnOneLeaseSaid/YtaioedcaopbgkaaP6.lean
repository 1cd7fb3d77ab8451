/-
  Parts of one proof, one behind the other: Math9L, Math8L, Math18N, Math2G, Math18B, Math18R, HasS.
-/
import Derived.Test.YtaioedcaopbgkaaP5
import Derived.Test.YtaioedcaopbgkaaP4
import Derived.Test.YtaioedcaopbgkaaP1
import Derived.Test.YtaioedcaopbgkaaP3

/-! Plain facts of chapter 9: what FnFaults tests. -/
namespace Go.Proofs.Ytaioedcaopbgkaa
open Go.RowKit

theorem pkOf_nm {ps : List Pk} (hn : (names8 ps).Nodup) {i : Nat} (hi : i < ps.length) : pkOf ps (nmAt ps i) = ps.getD i pk0 := by
 unfold pkOf
 rcases at8_is ps (nmAt ps i) with ⟨_, e⟩ | ⟨j, hj, e, hnm, _⟩
 ·
  exact absurd (nmAt_mem hi) e
 ·
  rw [e]
  have := nmAt_inj hn hj hi hnm
  subst this
  rfl
theorem pkOf_mem {ps : List Pk} {x : List UInt8} (hx : x ∈ names8 ps) : pkOf ps x ∈ ps ∧ (pkOf ps x).1 = x := by
 rcases at8_is ps x with ⟨_, e⟩ | ⟨j, hj, e, hnm, _⟩
 ·
  exact absurd hx e
 ·
  unfold pkOf
  rw [e]
  exact ⟨getD_mem_pk hj, hnm⟩
theorem pkOf_self {ps : List Pk} (hn : (names8 ps).Nodup) {p : Pk} (hp : p ∈ ps) : pkOf ps p.1 = p := by
 obtain ⟨i, hi, rfl⟩ := List.mem_iff_getElem.1 hp
 have e : ps.getD i pk0 = ps[i] := by simp [List.getD, hi]
 have := pkOf_nm hn hi
 unfold nmAt at this
 rw [e] at this
 exact this
theorem ord9_mem {ps : List Pk} (h : projB ps = true) {x : List UInt8} : x ∈ ord9 ps ↔ x ∈ names8 ps := by
 unfold ord9
 rw [List.mem_append, List.mem_filter, decide_eq_true_eq]
 constructor
 ·
  rintro (e | e)
  ·
   exact (order8_end h).1.sub x e
  ·
   exact e.1
 ·
  intro e
  rcases Decidable.em (x ∈ order8 ps) with h1 | h1
  ·
   exact Or.inl h1
  ·
   exact Or.inr ⟨e, h1⟩
/-- What a fault says of itself. -/
structure Flt9 (ps : List Pk) (f : Flt) : Prop where
 lo : 1 ≤ f.1
 hi : f.1 ≤ 4
 fn : f.2.2 ≠ [] ↔ 3 ≤ f.1
theorem name_ne {x : List UInt8} (h : nameB x = true) : x ≠ [] := fun e => by
 have := (name_letters h).1.1
 rw [e] at this
 simp at this
theorem fnsGo_val {ps : List Pk} {p : Pk} : ∀ (fs : List Fn) (k : Nat), (∀ f ∈ fs, f.1 ≠ []) → ∀ f, fnsGo ps p fs k = some f → Flt9 ps f
 | [], _, _, f, h => by simp [fnsGo] at h
 | g :: r, k, hf, f, h => by
  rw [fnsGo] at h
  split at h
  ·
   rename_i h0
   injection h with h
   subst h
   have := func9_val ps p k
   exact ⟨by simp only; omega, by simp only; omega, ⟨fun _ => by simp only; omega, fun _ => hf g List.mem_cons_self⟩⟩
  ·
   exact fnsGo_val r (k + 1) (fun q hq => hf q (List.mem_cons_of_mem _ hq)) f h
theorem fnsGo_none {ps : List Pk} {p : Pk} : ∀ (fs : List Fn) (k : Nat), fnsGo ps p fs k = none → ∀ i, i < fs.length → func9 ps p (k + i) = 0
 | [], _, _, i, hi => by simp at hi
 | g :: r, k, h, i, hi => by
  rw [fnsGo] at h
  split at h
  ·
   simp at h
  ·
   rename_i h0
   cases i with
   | zero => simpa using h0
   | succ i =>
    have := fnsGo_none r (k + 1) h i (by simpa using hi)
    rw [show k + (i + 1) = k + 1 + i by omega]
    exact this
theorem pk9_val {ps : List Pk} {done i : Nat} {p : Pk} (hp : ∀ f ∈ p.2.2, f.1 ≠ []) {f : Flt} (h : pk9 ps done i p = some f) : Flt9 ps f := by
 unfold pk9 at h
 split at h
 ·
  injection h with h; subst h; exact ⟨by simp, by simp, by simp⟩
 ·
  split at h
  ·
   injection h with h; subst h; exact ⟨by simp, by simp, by simp⟩
  ·
   exact fnsGo_val _ _ hp f h
theorem fltGo_val {ps : List Pk} {done : Nat} (hp : ∀ p ∈ ps, ∀ f ∈ p.2.2, f.1 ≠ []) : ∀ (l : List (List UInt8)) (i : Nat), (∀ x ∈ l, x ∈ names8 ps) → ∀ f, fltGo ps done l i = some f → Flt9 ps f
 | [], _, _, f, h => by simp [fltGo] at h
 | x :: r, i, hl, f, h => by
  rw [fltGo] at h
  rcases hk : pk9 ps done i (pkOf ps x) with _ | g
  ·
   rw [hk] at h
   exact fltGo_val hp r (i + 1) (fun y hy => hl y (List.mem_cons_of_mem _ hy)) f h
  ·
   rw [hk] at h
   injection h with h
   subst h
   exact pk9_val (hp _ (pkOf_mem (hl x List.mem_cons_self)).1) hk
theorem fltGo_none {ps : List Pk} {done : Nat} : ∀ (l : List (List UInt8)) (i : Nat), fltGo ps done l i = none → ∀ k, k < l.length → pk9 ps done (i + k) (pkOf ps (l.getD k [])) = none
 | [], _, _, k, hk => by simp at hk
 | x :: r, i, h, k, hk => by
  rw [fltGo] at h
  rcases hp : pk9 ps done i (pkOf ps x) with _ | g
  ·
   rw [hp] at h
   cases k with
   | zero => simpa using hp
   | succ k =>
    have := fltGo_none r (i + 1) h k (by simpa using hk)
    rw [show i + (k + 1) = i + 1 + k by omega]
    simpa using this
  ·
   rw [hp] at h; simp at h
theorem names_ne {ps : List Pk} (h : projB ps = true) : ∀ p ∈ ps, ∀ f ∈ p.2.2, f.1 ≠ [] := fun p hp f hf => by
 have h1 := (pkgB_parts ((projB_parts h).2.2 p hp)).2.2.2.2 f hf
 unfold funcB at h1
 rw [Bool.and_eq_true] at h1
 exact name_ne h1.1
/-- Where nothing is wrong. -/
theorem faultV_zero {ps : List Pk} (h0 : (faultV ps).1 = 0) : faultV ps = (0, [], []) ∧ projB ps = true ∧ (order8 ps).length = ps.length ∧ (∀ p ∈ ps, ∀ m ∈ p.2.1, m ∈ names8 ps) ∧ (∀ p ∈ ps, ∀ k, k < p.2.2.length → func9 ps p k = 0) ∧
 (0 ≤ at8 ps mainT ∧ 0 ≤ atV (pkOf ps mainT).2.2 mainT ∧ ((pkOf ps mainT).2.2.getD (atV (pkOf ps mainT).2.2 mainT).toNat fn0).2.1 = 1) := by
 unfold faultV at h0 ⊢
 rcases hp : projB ps with _ | _
 ·
  rw [hp, if_neg (by simp)] at h0; simp at h0
 ·
  rw [hp, if_pos rfl] at h0
  rw [if_pos rfl]
  unfold fault9 at h0 ⊢
  rcases hf : fltGo ps (order8 ps).length (ord9 ps) 0 with _ | f
  ·
   rw [hf] at h0
   simp only at h0 ⊢
   have hm : 0 ≤ at8 ps mainT ∧ 0 ≤ atV (pkOf ps mainT).2.2 mainT ∧ ((pkOf ps mainT).2.2.getD (atV (pkOf ps mainT).2.2 mainT).toNat fn0).2.1 = 1 := by
    unfold main9 at h0
    exact Decidable.byContradiction fun e => by rw [if_neg e] at h0; simp at h0
   have hnone := fltGo_none _ _ hf
   have hnd := (projB_parts hp).1.nodup
   have hlen : (ord9 ps).length ≤ (order8 ps).length := by
    rcases Nat.lt_or_ge (order8 ps).length (ord9 ps).length with hl | hl
    ·
     have := hnone (order8 ps).length hl
     unfold pk9 at this
     split at this
     ·
      simp at this
     ·
      rw [if_pos (by omega)] at this; simp at this
    ·
     exact hl
   have hall : ∀ x ∈ names8 ps, x ∈ order8 ps := fun x hx => by
    have he : (names8 ps).filter (fun x => decide (¬ x ∈ order8 ps)) = [] := by
     apply List.eq_nil_of_length_eq_zero
     unfold ord9 at hlen
     rw [List.length_append] at hlen
     omega
    rw [List.filter_eq_nil_iff] at he
    have := he x hx
    rw [decide_eq_true_eq] at this
    exact Decidable.byContradiction this
   have hpk : ∀ p ∈ ps, ¬ miss9 ps p ∧ fnsGo ps p p.2.2 0 = none := fun p hpm => by
    have hx : p.1 ∈ names8 ps := List.mem_map.2 ⟨p, hpm, rfl⟩
    obtain ⟨k, hk, e⟩ := List.mem_iff_getElem.1 ((ord9_mem hp).2 hx)
    have h1 := hnone k hk
    rw [show (ord9 ps).getD k [] = p.1 by simp [List.getD, hk, e], pkOf_self hnd hpm] at h1
    unfold pk9 at h1
    split at h1
    ·
     simp at h1
    ·
     rename_i hm
     split at h1
     ·
      simp at h1
     ·
      exact ⟨hm, h1⟩
   refine ⟨by unfold main9; rw [if_pos hm], trivial, ?_, fun p hpm m hmm => ?_, fun p hpm k hk => ?_, hm⟩
   ·
    have h1 := (order8_end hp).1.len
    have h2 := hnd.length_le_of_subset (fun x hx => hall x hx)
    have h3 : (names8 ps).length = ps.length := by simp [names8]
    omega
   ·
    refine (at8_mem ps m).1 ?_
    have h1 := (hpk p hpm).1
    unfold miss9 at h1
    rcases Int.lt_or_le (at8 ps m) 0 with h2 | h2
    ·
     exact absurd ⟨m, hmm, h2⟩ h1
    ·
     exact h2
   ·
    have := fnsGo_none _ _ (hpk p hpm).2 k hk
    simpa using this
  ·
   rw [hf] at h0
   have := (fltGo_val (names_ne hp) _ _ (fun x hx => (ord9_mem hp).1 hx) f hf).lo
   simp only at h0
   omega
/-! What FnCalls looks for. -/
theorem at7Go_is (s : List UInt8) : ∀ (fs : List Fn) (k : Nat), atGo s fs k = -1 ∨ ∃ i, i < fs.length ∧ atGo s fs k = ((k + i : Nat) : Int) ∧ (fs.getD i fn0).1 = s
 | [], k => Or.inl rfl
 | p :: r, k => by
  rw [atGo]
  by_cases h : p.1 = s
  ·
   rw [if_pos h]; exact Or.inr ⟨0, by simp, by simp, by simpa using h⟩
  ·
   rw [if_neg h]
   rcases at7Go_is s r (k + 1) with e | ⟨i, hi, e, hn⟩
   ·
    exact Or.inl e
   ·
    exact Or.inr ⟨i + 1, by simpa using hi, by rw [e]; congr 1; omega, by simpa using hn⟩
theorem at7_is (fs : List Fn) (s : List UInt8) : atV fs s = -1 ∨ ∃ i, i < fs.length ∧ atV fs s = (i : Int) ∧ (fs.getD i fn0).1 = s := by
 rcases at7Go_is s fs 0 with e | ⟨i, hi, e, hn⟩
 ·
  exact Or.inl e
 ·
  exact Or.inr ⟨i, hi, by unfold atV; rw [e]; congr 1; omega, hn⟩
/-- A function that the law finds. -/
def hit9 (ps : List Pk) (s : List UInt8) (at_ : Int) (n : Nd) (j m : Nat) : Prop := nmAt ps j = n.2.2.1 ∧ ((ps.getD j pk0).2.2.getD m fn0).1 = n.2.2.2 ∧ ((ps.getD j pk0).2.2.getD m fn0).2.1 = n.2.1 ∧ (n.2.2.1 ≠ s ∨ (m : Int) < at_)
def ok9 (ps : List Pk) (s : List UInt8) (n : Nd) (i : Nat) : Prop := n.2.2.1 = s ∨ n.2.2.1 ∈ imsAt ps i
def found9 (ps : List Pk) (s : List UInt8) (at_ : Int) (n : Nd) : Prop := ∃ i, i < ps.length ∧ nmAt ps i = s ∧ ok9 ps s n i ∧ ∃ j, j < ps.length ∧ ∃ m, m < (ps.getD j pk0).2.2.length ∧ hit9 ps s at_ n j m
end Go.Proofs.Ytaioedcaopbgkaa

/-! Plain facts of chapter 8: what FnOrder and FnReaches test. -/
namespace Go.Proofs.Ytaioedcaopbgkaa
open Go.RowKit

/-- A package is in the order just where what it needs stands ahead of it. -/
theorem order8_law {ps : List Pk} (h : projB ps = true) {p : Pk} (hp : p ∈ ps) : p.1 ∈ order8 ps ↔ ∀ m ∈ p.2.1, m ∈ names8 ps → m ∈ (order8 ps).takeWhile (fun x => decide (x ≠ p.1)) := by
 obtain ⟨ho, hn⟩ := order8_end h
 refine ⟨fun h1 => ho.need p hp h1, fun h1 => ?_⟩
 rcases Decidable.em (p.1 ∈ order8 ps) with h2 | h2
 ·
  exact h2
 ·
  rw [takeW_no h2] at h1
  exact absurd ⟨h2, h1⟩ (next8_none hn p hp)
/-- What FnReaches looks for in the answer. -/
def Seed8 (ps : List Pk) (o : List (List UInt8)) (s x : List UInt8) : Prop := x = s ∨ ∃ p ∈ ps, p.1 ∈ o ∧ x ∈ p.2.1 ∧ x ∈ names8 ps
end Go.Proofs.Ytaioedcaopbgkaa

/-! Plain facts of chapter 18: the tasks of a project in which nothing is wrong; the new desk. -/
namespace Go.Proofs.Ytaioedcaopbgkaa
open Go.RowKit

/-! Each is behind all that it imports. -/
def ord18 (ps : List Pk) (x : List UInt8) : Nat := (order8 ps).idxOf x
theorem takeW_idx {out : List (List UInt8)} {m x : List UInt8} : m ∈ out.takeWhile (fun y => decide (y ≠ x)) → out.idxOf m < out.idxOf x := by
 induction out with
 | nil => intro h; simp at h
 | cons a r ih =>
  intro h
  rw [List.takeWhile_cons] at h
  by_cases ha : a = x
  ·
   rw [if_neg (by simpa using ha)] at h; simp at h
  ·
   rw [if_pos (by simpa using ha)] at h
   rw [List.idxOf_cons, List.idxOf_cons]
   have hax : (a == x) = false := beq_eq_false_iff_ne.2 ha
   rw [hax]
   rcases List.mem_cons.1 h with e | h
   ·
    subst e; simp
   ·
    by_cases hm : a = m
    ·
     subst hm; simp
    ·
     have hmm : (a == m) = false := beq_eq_false_iff_ne.2 hm
     rw [hmm]
     have := ih h
     simp only [cond_false]
     omega
theorem idx_pair {out : List (List UInt8)} (h : out.Nodup) : out.Pairwise (fun a b => out.idxOf a < out.idxOf b) := by
 rw [List.pairwise_iff_getElem]
 intro i j hi hj hij
 rw [List.Nodup.idxOf_getElem h i hi, List.Nodup.idxOf_getElem h j hj]
 exact hij
structure Clean18 (ps : List Pk) : Prop where
 p : projB ps = true
 len : (order8 ps).length = ps.length
 here : ∀ p ∈ ps, ∀ m ∈ p.2.1, m ∈ names8 ps
 main : mainT ∈ names8 ps
theorem clean18_of {ps : List Pk} (h0 : (faultV ps).1 = 0) : Clean18 ps := by
 obtain ⟨_, hp, hl, hh, _, hm, _⟩ := faultV_zero h0
 exact ⟨hp, hl, hh, (at8_mem ps mainT).1 hm⟩
section
variable {ps : List Pk} (C : Clean18 ps)
include C
theorem Clean18.all (x : List UInt8) (hx : x ∈ names8 ps) : x ∈ order8 ps := by
 have ho := (order8_end C.p).1
 have hn := (projB_parts C.p).1.nodup
 exact same_mem ho.nd (fun y hy => ho.sub y hy) (by rw [C.len]; simp [names8]) x hx
theorem Clean18.ahead {p : Pk} (hp : p ∈ ps) {m : List UInt8} (hm : m ∈ p.2.1) : ord18 ps m < ord18 ps p.1 := by
 have h1 := C.all p.1 (List.mem_map_of_mem hp)
 exact takeW_idx ((order8_law C.p hp).1 h1 m hm (C.here p hp m hm))
theorem Clean18.last : ∀ (n : Nat) (x : List UInt8), x ∈ reach8 ps mainT → (order8 ps).length - ord18 ps x < n → x = mainT ∨ ord18 ps x < ord18 ps mainT
 | 0, _, _, h => absurd h (Nat.not_lt_zero _)
 | n + 1, x, hx, h => by
  have hr := (reach8_end C.main).1
  rcases hr.why x hx with e | ⟨p, hp, hpo, hxp⟩
  ·
   exact Or.inl e
  ·
   have ha := C.ahead hp hxp
   have hb : ord18 ps p.1 < (order8 ps).length := List.idxOf_lt_length_of_mem (C.all p.1 (List.mem_map_of_mem hp))
   rcases Clean18.last n p.1 hpo (by omega) with e | e
   ·
    rw [e] at ha; exact Or.inr ha
   ·
    exact Or.inr (by omega)
end
def parts18 (ps : List Pk) : List (List UInt8) := need8 ps mainT ++ [mainT]
theorem parts18_pair {ps : List Pk} (C : Clean18 ps) : (parts18 ps).Pairwise (fun a b => ord18 ps a < ord18 ps b) := by
 have ho := (order8_end C.p).1
 unfold parts18
 rw [List.pairwise_append]
 refine ⟨(idx_pair ho.nd).sublist List.filter_sublist, List.pairwise_singleton _ _, fun a ha b hb => ?_⟩
 rw [List.mem_singleton] at hb
 subst hb
 unfold need8 at ha
 rw [List.mem_filter, decide_eq_true_eq] at ha
 rcases C.last _ a ha.2.2 (Nat.lt_succ_self _) with e | e
 ·
  exact absurd e ha.2.1
 ·
  exact e
theorem parts18_sub {ps : List Pk} (C : Clean18 ps) : ∀ x ∈ parts18 ps, x ∈ names8 ps := fun x hx => by
 unfold parts18 at hx
 rcases List.mem_append.1 hx with h | h
 ·
  unfold need8 at h
  exact (order8_end C.p).1.sub x (List.mem_filter.1 h).1
 ·
  rw [List.mem_singleton] at h; rw [h]; exact C.main
theorem parts18_nodup {ps : List Pk} (C : Clean18 ps) : (parts18 ps).Nodup := (parts18_pair C).imp (fun {a b} h e => by subst e; omega)
theorem parts18_len {ps : List Pk} (C : Clean18 ps) : 1 ≤ (parts18 ps).length ∧ (parts18 ps).length ≤ 8 := by
 have h1 := (parts18_nodup C).length_le_of_subset (fun x hx => parts18_sub C x hx)
 have h2 := (projB_parts C.p).2.1
 simp only [names8, List.length_map] at h1
 refine ⟨by unfold parts18; simp, by omega⟩
theorem pkOf_name {ps : List Pk} {s : List UInt8} (hs : s ∈ names8 ps) : pkOf ps s ∈ ps ∧ (pkOf ps s).1 = s := by
 have h := (at8_mem ps s).2 hs
 unfold pkOf at8 at *
 have key : ∀ (l : List Pk) (k : Nat), 0 ≤ at8Go s l k → (k : Int) ≤ at8Go s l k ∧ at8Go s l k < k + l.length ∧ (l.getD ((at8Go s l k).toNat - k) pk0).1 = s := by
  intro l
  induction l with
  | nil => intro k h; simp [at8Go] at h
  | cons a r ih =>
   intro k h
   unfold at8Go at h ⊢
   split
   ·
    rename_i e
    exact ⟨by omega, by simp; omega, by simp [e]⟩
   ·
    rename_i e
    rw [if_neg e] at h
    obtain ⟨h1, h2, h3⟩ := ih (k + 1) h
    refine ⟨by omega, by simp; omega, ?_⟩
    have e2 : (at8Go s r (k + 1)).toNat - k = ((at8Go s r (k + 1)).toNat - (k + 1)) + 1 := by omega
    rw [e2, List.getD_cons_succ]
    exact h3
 obtain ⟨h1, h2, h3⟩ := key ps 0 h
 rw [Nat.sub_zero] at h3
 refine ⟨?_, h3⟩
 rw [List.getD_eq_getElem?_getD, List.getElem?_eq_getElem (by omega)]
 exact List.getElem_mem (by omega)

/-! What a part needs. -/
def nums18 (os ims : List (List UInt8)) (n : Nat) : List Int := ((List.range n).filter (fun k : Nat => decide (os.getD k [] ∈ ims))).map (fun k : Nat => ((k : Nat) : Int))
theorem nums18_ok (os ims : List (List UInt8)) (i : Nat) : needsB (i : Int) (nums18 os ims i) = true := by
 refine needsB_yes (fun j hj => ?_)
 have hp : (nums18 os ims i).Pairwise (fun a b => a < b) := by
  unfold nums18
  rw [List.pairwise_map]
  exact (List.pairwise_lt_range.sublist List.filter_sublist).imp (fun h => by omega)
 have hm : ∀ x ∈ nums18 os ims i, 0 ≤ x ∧ x < (i : Int) := fun x hx => by
  obtain ⟨k, hk, rfl⟩ := List.mem_map.1 hx
  have := List.mem_range.1 (List.mem_filter.1 hk).1
  omega
 have hg : ∀ k (hk : k < (nums18 os ims i).length), (nums18 os ims i).getD k 0 = (nums18 os ims i)[k] := fun k hk => by simp [List.getD, hk]
 unfold need18
 rw [hg j hj]
 obtain ⟨h0, h1⟩ := hm _ (List.getElem_mem hj)
 refine ⟨h0, h1, fun h => ?_⟩
 rw [hg (j - 1) (by omega)]
 exact List.pairwise_iff_getElem.1 hp (j - 1) j (by omega) hj (by omega)

/-! The new desk. -/
def startL (n : Int) : List UInt8 := framedS ([115, 116, 97, 114, 116, 32] ++ intL n)
def task18N (ps : List Pk) (i : Nat) : Ta := ((parts18 ps).getD i [], nums18 (parts18 ps) (pkOf ps ((parts18 ps).getD i [])).2.1 i, 0, 0, 0, 0)
def tasks18 (ps : List Pk) : List Ta := (List.range (parts18 ps).length).map (task18N ps)
def newV (ps : List Pk) : Dk × Bool := if (faultV ps).1 = 0 then ((tasks18 ps, 1, 0, startL 1), true) else (dk0, false)
theorem tasks18_at {ps : List Pk} {i : Nat} (hi : i < (parts18 ps).length) : (tasks18 ps).getD i ta0 = task18N ps i := by
 unfold tasks18; simp [List.getD, hi]
theorem startL_len {n : Int} (h0 : -9223372036854775808 ≤ n) (h1 : n ≤ 9223372036854775807) : (startL n).length ≤ 1000 := by
 have h := digL_len 19 n.natAbs (by omega)
 have hi : (intL n).length ≤ 21 := by
  unfold intL
  split
  ·
   simp only [List.length_cons]; omega
  ·
   omega
 unfold startL
 rw [framedS_yes _ (by simp only [List.length_append, List.length_cons, List.length_nil]; omega)]
 have h8 : ∀ n, (hexL n).length = 8 := fun _ => rfl
 unfold framedL
 simp only [List.length_append, List.length_cons, List.length_nil, h8]
 omega
theorem new18_ok {ps : List Pk} (h0 : (faultV ps).1 = 0) : deskB (tasks18 ps, 1, 0, startL 1) = true := by
 have C := clean18_of h0
 have hl : (tasks18 ps).length = (parts18 ps).length := by unfold tasks18; simp
 have h8 := parts18_len C
 have hj := startL_len (n := 1) (by omega) (by omega)
 refine deskB_iff.2 ⟨by show 1 ≤ (tasks18 ps).length ∧ (tasks18 ps).length ≤ 8; omega, by show (1 : Int) ≤ 1 ∧ (1 : Int) ≤ 1000; omega, by show (0 : Int) ≤ 0 ∧ (0 : Int) ≤ 1000000; omega, by show (startL 1).length ≤ 60000; omega, fun i hi => ?_⟩
 have hi : i < (parts18 ps).length := by rw [← hl]; exact hi
 have hgi : ∀ k (hk : k < (parts18 ps).length), (parts18 ps).getD k [] = (parts18 ps)[k] := fun k hk => by simp [List.getD, hk]
 unfold one18
 show nameB ((tasks18 ps).getD i ta0).1 = true ∧ taskB (i : Int) ((tasks18 ps).getD i ta0) = true ∧ ∀ k, k < i → ((tasks18 ps).getD k ta0).1 ≠ ((tasks18 ps).getD i ta0).1
 rw [tasks18_at hi]
 refine ⟨?_, ?_, fun k hk => ?_⟩
 ·
  show nameB ((parts18 ps).getD i []) = true
  rw [hgi i hi]
  obtain ⟨hp, hn⟩ := pkOf_name (parts18_sub C _ (List.getElem_mem hi))
  have := (projB_parts C.p).2.2 _ hp
  rw [← hn]
  exact (pkgB_parts this).1
 ·
  unfold taskB
  rw [Bool.and_eq_true]
  exact ⟨nums18_ok _ _ i, rfl⟩
 ·
  rw [tasks18_at (by omega)]
  show (parts18 ps).getD k [] ≠ (parts18 ps).getD i []
  rw [hgi k (by omega), hgi i hi]
  intro e
  have := List.pairwise_iff_getElem.1 (parts18_pair C) k i (by omega) hi hk
  rw [e] at this
  omega

end Go.Proofs.Ytaioedcaopbgkaa

/-! Plain facts for Frames: frames one right behind the other. -/
namespace Go.Proofs.Ytaioedcaopbgkaa

def framesGo : Nat → List UInt8 → List (List UInt8)
 | 0, _ => []
 | k + 1, l => if firstB l = true then firstT l :: framesGo k (l.drop (16 + (firstT l).length)) else []

def framesU : List (List UInt8) → Nat
 | [] => 0
 | t :: r => 16 + t.length + framesU r

def framesL (l : List UInt8) : List (List UInt8) := framesGo 400 l

theorem framesGo_no (k : Nat) (l : List UInt8) (h : firstB l = false) : framesGo k l = [] := by
 cases k with
 | zero => rfl
 | succ k => unfold framesGo; rw [h]; rfl

theorem framesGo_yes (k : Nat) (l : List UInt8) (h : firstB l = true) : framesGo (k + 1) l = firstT l :: framesGo k (l.drop (16 + (firstT l).length)) := by
 conv => lhs; unfold framesGo
 rw [if_pos h]

theorem framesU_snoc (o : List (List UInt8)) (t : List UInt8) : framesU (o ++ [t]) = framesU o + (16 + t.length) := by
 induction o with
 | nil => simp [framesU]
 | cons a r ih => simp only [List.cons_append, framesU, ih]; omega

theorem first_fits (t : List UInt8) (h : firstB t = true) : 16 + (firstT t).length ≤ t.length := by
 have hf := first_is t h
 have e := congrArg List.length hf.2.2
 rw [List.length_append, framedL_len] at e
 omega

/-- One round of the loop. -/
theorem frames_step (l : List UInt8) (o : List (List UInt8)) (u : Nat) (ho : o.length < 400) (hu : u = framesU o) (hle : u ≤ l.length) (h : o ++ framesGo (400 - o.length) (l.drop u) = framesL l) (hb : firstB (l.drop u) = true) :
 (o ++ [firstT (l.drop u)]) ++ framesGo (400 - (o ++ [firstT (l.drop u)]).length) (l.drop (u + (16 + (firstT (l.drop u)).length))) = framesL l ∧ u + (16 + (firstT (l.drop u)).length) = framesU (o ++ [firstT (l.drop u)]) ∧ u + (16 + (firstT (l.drop u)).length) ≤ l.length := by
 have hfit := first_fits _ hb
 rw [List.length_drop] at hfit
 refine ⟨?_, by rw [framesU_snoc, ← hu], by omega⟩
 rw [← h, List.append_assoc, List.length_append, List.length_singleton]
 obtain ⟨k, hk⟩ : ∃ k, 400 - o.length = k + 1 := ⟨400 - o.length - 1, by omega⟩
 rw [hk, framesGo_yes k _ hb, List.drop_drop, show 400 - (o.length + 1) = k by omega]
 rfl

theorem framesGo_len (k : Nat) (l : List UInt8) : (framesGo k l).length ≤ k := by
 induction k generalizing l with
 | zero => exact Nat.le_refl _
 | succ k ih =>
  unfold framesGo
  split
  ·
   rw [List.length_cons]; have := ih (l.drop (16 + (firstT l).length)); omega
  ·
   exact Nat.zero_le _
theorem framesL_len (l : List UInt8) : (framesL l).length ≤ 400 := framesGo_len 400 l

end Go.Proofs.Ytaioedcaopbgkaa

/-! Plain facts of chapter 18: a journal is done again. -/
namespace Go.Proofs.Ytaioedcaopbgkaa

/-- What lies ahead of the place where some frames end is these frames. -/
theorem framesGo_pre : ∀ (n : Nat) (l : List UInt8) (j : Nat), l.take (framesU ((framesGo n l).take j)) = (((framesGo n l).take j).map framedL).flatten
 | 0, l, j => by simp [framesGo, framesU]
 | n + 1, l, 0 => by simp [framesU]
 | n + 1, l, j + 1 => by
  rcases hb : firstB l with _ | _
  ·
   rw [framesGo_no _ _ hb]; simp [framesU]
  ·
   rw [framesGo_yes _ _ hb, List.take_succ_cons, List.map_cons, List.flatten_cons, framesU]
   have hf := first_is l hb
   have ih := framesGo_pre n (l.drop (16 + (firstT l).length)) j
   have hl := framedL_len (firstT l)
   rw [← ih]
   generalize framesU ((framesGo n (l.drop (16 + (firstT l).length))).take j) = u
   have he := hf.2.2
   clear hf ih hb
   generalize firstT l = t at he hl ⊢
   generalize hr : l.drop (16 + t.length) = r at he ⊢
   rw [he, List.take_append, hl, List.take_of_length_le (by rw [hl]; omega), show 16 + t.length + u - (16 + t.length) = u by omega]
theorem frames_pre (l : List UInt8) (j : Nat) : l.take (framesU ((framesL l).take j)) = (((framesL l).take j).map framedL).flatten := framesGo_pre 400 l j

/-- A number that is written has no blank. -/
theorem intL_noblank {a : Int} (h0 : -2147483648 ≤ a) (h1 : a ≤ 2147483647) : ∀ c ∈ intL a, c ≠ 32 := by
 have h := (readB_iff.1 (read_of_int a h0 h1).1).2.1
 intro c hc e
 subst e
 unfold bodyL at h
 split at h
 ·
  rename_i hn
  unfold negB at hn
  rcases hi : intL a with _ | ⟨d, r⟩
  ·
   rw [hi] at hc; cases hc
  ·
   rw [hi] at hc hn h
   rcases List.mem_cons.1 hc with e | e
   ·
    subst e
    simp at hn
   ·
    have := h 32 e
    unfold isDig at this
    revert this; decide
 ·
  have := h 32 hc
  unfold isDig at this
  revert this; decide
def startW : List UInt8 := [115, 116, 97, 114, 116]
def doneW : List UInt8 := [100, 111, 110, 101]
/-- The text of a start, read word by word. -/
def isStart (f : List UInt8) (n : Int) : Prop := ∃ w, splitL 32 f = [startW, w] ∧ readB w = true ∧ readV w = n
theorem isStart_iff {f : List UInt8} {n : Int} (h0 : -2147483648 ≤ n) (h1 : n ≤ 2147483647) : isStart f n ↔ f = startW ++ 32 :: intL n := by
 constructor
 ·
  rintro ⟨w, hs, hb, hv⟩
  have hj := joinBy_split 32 f []
  rw [show splitGo 32 [] f = [startW, w] from hs] at hj
  have hi : intL n = w := by
   rw [← hv]
   have hr := read_int w hb
   unfold intL
   split
   ·
    rename_i h; exact hr.2 h
   ·
    rename_i h; exact hr.1 (by omega)
  rw [joinBy_cons _ _ _ (by simp)] at hj
  rw [hi]
  simpa [joinBy] using hj.symm
 ·
  intro e
  obtain ⟨hb, hv⟩ := read_of_int n h0 h1
  refine ⟨intL n, ?_, hb, hv⟩
  rw [e, show startW ++ 32 :: intL n = joinBy 32 [startW, intL n] by rw [joinBy_cons _ _ _ (by simp)]; simp [joinBy]]
  refine split_join 32 _ (by simp) (fun x hx => ?_)
  simp only [List.mem_cons, List.not_mem_nil, or_false] at hx
  rcases hx with rfl | rfl
  ·
   decide
  ·
   exact intL_noblank h0 h1
/-- The text of a task that is done, read word by word. -/
def isDone (f : List UInt8) (k key : Int) : Prop := ∃ w u, splitL 32 f = [doneW, w, u] ∧ (readB w = true ∧ readV w = k) ∧ (readB u = true ∧ readV u = key)
theorem isDone_iff {f : List UInt8} {k key : Int} (h0 : -2147483648 ≤ k) (h1 : k ≤ 2147483647) (h2 : -2147483648 ≤ key) (h3 : key ≤ 2147483647) : isDone f k key ↔ f = doneW ++ 32 :: (intL k ++ 32 :: intL key) := by
 have hread : ∀ (w : List UInt8) (n : Int), readB w = true → readV w = n → intL n = w := by
  intro w n hb hv
  rw [← hv]
  have hr := read_int w hb
  unfold intL
  split
  ·
   rename_i h; exact hr.2 h
  ·
   rename_i h; exact hr.1 (by omega)
 constructor
 ·
  rintro ⟨w, u, hs, ⟨hb, hv⟩, ⟨hc, hu⟩⟩
  have hj := joinBy_split 32 f []
  rw [show splitGo 32 [] f = [doneW, w, u] from hs] at hj
  rw [joinBy_cons _ _ _ (by simp), joinBy_cons _ _ _ (by simp)] at hj
  rw [hread w k hb hv, hread u key hc hu]
  simpa [joinBy] using hj.symm
 ·
  intro e
  obtain ⟨hb, hv⟩ := read_of_int k h0 h1
  obtain ⟨hc, hu⟩ := read_of_int key h2 h3
  refine ⟨intL k, intL key, ?_, ⟨hb, hv⟩, ⟨hc, hu⟩⟩
  rw [e, show doneW ++ 32 :: (intL k ++ 32 :: intL key) = joinBy 32 [doneW, intL k, intL key] by rw [joinBy_cons _ _ _ (by simp), joinBy_cons _ _ _ (by simp)]; simp [joinBy]]
  refine split_join 32 _ (by simp) (fun x hx => ?_)
  simp only [List.mem_cons, List.not_mem_nil, or_false] at hx
  rcases hx with rfl | rfl | rfl
  ·
   decide
  ·
   exact intL_noblank h0 h1
  ·
   exact intL_noblank h2 h3

end Go.Proofs.Ytaioedcaopbgkaa

/-! Plain facts of chapter 18: what came back (Returned). -/
namespace Go.Proofs.Ytaioedcaopbgkaa
open Go.RowKit

/-- 'done', the task's number, its key. -/
def doneT (k key : Int) : List UInt8 := (([100, 111, 110, 101, 32] ++ intL k) ++ [32]) ++ intL key
def lineR (k key : Int) : List UInt8 := framedS (doneT k key)
theorem intL_len64 {n : Int} (h0 : -9223372036854775808 ≤ n) (h1 : n ≤ 9223372036854775807) : (intL n).length ≤ 21 := by
 have h := digL_len 19 n.natAbs (by omega)
 unfold intL
 split
 ·
  simp only [List.length_cons]; omega
 ·
  omega
theorem doneT_len {k key : Int} (h0 : -9223372036854775808 ≤ k) (h1 : k ≤ 9223372036854775807) (h2 : -9223372036854775808 ≤ key) (h3 : key ≤ 9223372036854775807) : (doneT k key).length ≤ 100 := by
 have a := intL_len64 h0 h1
 have b := intL_len64 h2 h3
 unfold doneT
 simp only [List.length_append, List.length_cons, List.length_nil]
 omega
theorem lineR_len {k key : Int} (h0 : -9223372036854775808 ≤ k) (h1 : k ≤ 9223372036854775807) (h2 : -9223372036854775808 ≤ key) (h3 : key ≤ 9223372036854775807) : (lineR k key).length ≤ 1000 := by
 have a := doneT_len h0 h1 h2 h3
 unfold lineR
 rw [framedS_yes _ (by omega)]
 have h8 : ∀ n, (hexL n).length = 8 := fun _ => rfl
 unfold framedL
 simp only [List.length_append, h8]
 omega
def retCode (d : Dk) (k e key : Int) : Int :=
 if (k < 0 ∨ (d.1.length : Int) ≤ k) ∨ key18 key = false then 3
 else if 60000 < d.2.2.2.length + (lineR k key).length then 3
 else if e ≠ d.2.1 then 1
 else if (d.1.getD k.toNat ta0).2.2.1 = 2 then 2
 else if free18 d.1 (d.1.getD k.toNat ta0) = false then 4 else 0
def done18 (t : Ta) (key : Int) : Ta := (t.1, t.2.1, 2, 0, 0, key)
def ret18 (d : Dk) (k e key : Int) : Dk × Int :=
 if retCode d k e key = 0 then ((d.1.set k.toNat (done18 (d.1.getD k.toNat ta0) key), d.2.1, d.2.2.1, d.2.2.2 ++ lineR k key), 0) else (d, retCode d k e key)
def returnedV (d : Dk) (k e key : Int) : Dk × Int := if deskB d = true then ret18 d k e key else (dk0, 3)
theorem ret_bad {d : Dk} {k e key : Int} (h : (k < 0 ∨ (d.1.length : Int) ≤ k) ∨ key18 key = false) : retCode d k e key = 3 := by unfold retCode; rw [if_pos h]
theorem ret_room {d : Dk} {k e key : Int} (h : ¬ ((k < 0 ∨ (d.1.length : Int) ≤ k) ∨ key18 key = false)) (h2 : 60000 < d.2.2.2.length + (lineR k key).length) : retCode d k e key = 3 := by unfold retCode; rw [if_neg h, if_pos h2]
theorem ret_old {d : Dk} {k e key : Int} (h : ¬ ((k < 0 ∨ (d.1.length : Int) ≤ k) ∨ key18 key = false)) (h2 : ¬ 60000 < d.2.2.2.length + (lineR k key).length) (h3 : e ≠ d.2.1) : retCode d k e key = 1 := by unfold retCode; rw [if_neg h, if_neg h2, if_pos h3]
theorem ret_again {d : Dk} {k e key : Int} (h : ¬ ((k < 0 ∨ (d.1.length : Int) ≤ k) ∨ key18 key = false)) (h2 : ¬ 60000 < d.2.2.2.length + (lineR k key).length) (h3 : e = d.2.1) (h4 : (d.1.getD k.toNat ta0).2.2.1 = 2) : retCode d k e key = 2 := by unfold retCode; rw [if_neg h, if_neg h2, if_neg (fun x => x h3), if_pos h4]
theorem ret_open {d : Dk} {k e key : Int} (h : ¬ ((k < 0 ∨ (d.1.length : Int) ≤ k) ∨ key18 key = false)) (h2 : ¬ 60000 < d.2.2.2.length + (lineR k key).length) (h3 : e = d.2.1) (h4 : (d.1.getD k.toNat ta0).2.2.1 ≠ 2) (h5 : free18 d.1 (d.1.getD k.toNat ta0) = false) : retCode d k e key = 4 := by unfold retCode; rw [if_neg h, if_neg h2, if_neg (fun x => x h3), if_neg h4, if_pos h5]
theorem ret_ok {d : Dk} {k e key : Int} (h : ¬ ((k < 0 ∨ (d.1.length : Int) ≤ k) ∨ key18 key = false)) (h2 : ¬ 60000 < d.2.2.2.length + (lineR k key).length) (h3 : e = d.2.1) (h4 : (d.1.getD k.toNat ta0).2.2.1 ≠ 2) (h5 : free18 d.1 (d.1.getD k.toNat ta0) = true) : retCode d k e key = 0 := by unfold retCode; rw [if_neg h, if_neg h2, if_neg (fun x => x h3), if_neg h4, if_neg (by rw [h5]; simp)]
theorem ret18_no {d : Dk} {k e key c : Int} (h : retCode d k e key = c) (hc : c ≠ 0) : ret18 d k e key = (d, c) := by unfold ret18; rw [h, if_neg hc]
theorem ret18_ok {d : Dk} {k e key : Int} (h : retCode d k e key = 0) : ret18 d k e key = ((d.1.set k.toNat (done18 (d.1.getD k.toNat ta0) key), d.2.1, d.2.2.1, d.2.2.2 ++ lineR k key), 0) := by unfold ret18; rw [if_pos h]
theorem ret18_rest {d : Dk} {k e key : Int} : (ret18 d k e key).1.2.1 = d.2.1 ∧ (ret18 d k e key).1.2.2.1 = d.2.2.1 ∧ (ret18 d k e key).1.1.length = d.1.length := by
 unfold ret18
 split
 ·
  exact ⟨rfl, rfl, by simp⟩
 ·
  exact ⟨rfl, rfl, rfl⟩
end Go.Proofs.Ytaioedcaopbgkaa

/-! The contract of the specification's l1Has. -/
namespace Go.Proofs.Ytaioedcaopbgkaa
open Go.RowKit

theorem mem_take_step {ts : List (List UInt8)} {s : List UInt8} {k : Nat} (h : ∀ i, i < k → ts.getD i [] ≠ s) (hk : ts.length ≤ k) : ¬ s ∈ ts := fun hm => by
 obtain ⟨i, hi, rfl⟩ := List.mem_iff_getElem.1 hm
 exact h i (by omega) (by simp [List.getD, hi])
theorem getD_mem8 {ts : List (List UInt8)} {k : Nat} (hk : k < ts.length) : ts.getD k [] ∈ ts := by
 rw [List.getD_eq_getElem?_getD, List.getElem?_eq_getElem hk]; exact List.getElem_mem hk

set_option maxHeartbeats 1000000 in
set_option maxRecDepth 100000 in
theorem specHas (a : Option Addr) (len cap : Nat) (ts : List (List UInt8)) (s : List UInt8) (w : World) (hin : TextsIn w a len ts) (hlen : len ≤ 4194304) :
 Calls Try.prog 61 #[.slice a len cap, .string ⟨s.toArray⟩] w fun e w' => e = .returned (.bool (decide (s ∈ ts))) ∧ w' = w := by
 obtain rfl : ts.length = len := hin.1
 have HI : Hid (TextsIn w a ts.length ts) := hin
 clear hin
 go_enter Try.func61, Try.ntmps61
 go_wp2
 go_loopw [5] (fun iv wr => ∃ k : Nat, iv = .int .i64 (k : Int) ∧ k ≤ ts.length ∧ Hid (∀ i, i < k → ts.getD i [] ≠ s) ∧ wr = w) (fun iv _ => ts.length - (intOf iv).toNat)
 case atStart => exact ⟨0, rfl, by omega, (fun i hi => by omega), rfl⟩
 case round =>
  obtain ⟨k, rfl, hk, HA, rfl⟩ := hrel
  by_cases hlt : (k : Int) < (ts.length : Int)
  ·
   have hk2 : k < ts.length := by omega
   obtain ⟨b, off, rfl, hbl, c0⟩ := HI.out.2 k hk2
   have hmem := getD_mem8 hk2
   obtain ⟨x, hx⟩ : ∃ x, ts.getD k [] = x := ⟨_, rfl⟩
   rw [hx] at c0 hmem
   by_cases hxs : x = s
   ·
    subst hxs
    have HR : Hid (decide (x ∈ ts) = true) := decide_eq_true hmem
    have hself : (x == x) = true := by simp
    clear HA hx hmem
    go_wp2
    go_ret
    exact ⟨by rw [HR.out]; rfl, rfl⟩
   ·
    have HA2 : Hid (∀ i, i < k + 1 → ts.getD i [] ≠ s) := fun i hi => by
     rcases Nat.lt_or_ge i k with h | h
     ·
      exact HA.out i h
     ·
      obtain rfl : i = k := by omega
      rw [hx]; exact hxs
    have hne : (x == s) = false := by rw [beq_eq_false_iff_ne]; exact hxs
    clear HA hx hmem
    go_wp2
    go_roundw
    case rel => exact ⟨k + 1, by go_num, by omega, HA2, trivial⟩
    case measure => simp [intOf]; omega
  ·
   have HR : Hid (decide (s ∈ ts) = false) := decide_eq_false (mem_take_step HA.out (by omega))
   go_wp2
   go_ret
   exact ⟨by rw [HR.out]; rfl, rfl⟩

end Go.Proofs.Ytaioedcaopbgkaa
