/-
  Parts of one proof, one behind the other: Math9, Math9L, PackS, PackS2.
-/
import Derived.Test.YtaidhjjpdkkmcaaGreatDoorP5
import Derived.Test.YtaidhjjpdkkmcaaGreatDoorP4
import Derived.BigQuiet
import Derived.Deep.RegionHeld3
import Derived.Deep.Cut

/-! Plain facts of chapter 9: what a call is told, what is wrong in a function, a package, a project; exports. -/
namespace Go.Proofs.YtaidhjjpdkkmcaaGreatDoor
open Go.RowKit

/-! A call. -/
def farB (ps : List Pk) (p : Pk) (q : List UInt8) : Bool := decide (q ≠ p.1 ∧ (¬ q ∈ p.2.1 ∨ at8 ps q < 0))
def ofPk (ps : List Pk) (p : Pk) (q : List UInt8) : Pk := if q = p.1 then p else ps.getD (at8 ps q).toNat pk0
def call9 (ps : List Pk) (p : Pk) (i : Int) (n : Nd) : Int :=
 if farB ps p n.2.2.1 = true then 1
 else if atV (ofPk ps p n.2.2.1).2.2 n.2.2.2 < 0 ∨ (n.2.2.1 = p.1 ∧ i ≤ atV (ofPk ps p n.2.2.1).2.2 n.2.2.2) then 2
 else if ((ofPk ps p n.2.2.1).2.2.getD (atV (ofPk ps p n.2.2.1).2.2 n.2.2.2).toNat fn0).2.1 ≠ n.2.1 then 3 else 0
theorem call9_bd (ps : List Pk) (p : Pk) (i : Int) (n : Nd) : 0 ≤ call9 ps p i n ∧ call9 ps p i n ≤ 3 := by
 unfold call9
 split
 ·
  omega
 ·
  split
  ·
   omega
  ·
   split <;> omega
/-- The package that a name is of. -/
def pkOf (ps : List Pk) (s : List UInt8) : Pk := ps.getD (at8 ps s).toNat pk0
def callB (ps : List Pk) (s : List UInt8) (i : Int) (n : Nd) : Prop := projB ps = true ∧ 0 ≤ at8 ps s ∧ nodeB n = true ∧ n.1 = 8 ∧ 0 ≤ i ∧ i < ((pkOf ps s).2.2.length : Int)
instance (ps : List Pk) (s : List UInt8) (i : Int) (n : Nd) : Decidable (callB ps s i n) := by unfold callB; infer_instance
def callV (ps : List Pk) (s : List UInt8) (i : Int) (n : Nd) : Int := if callB ps s i n then call9 ps (pkOf ps s) i n else -1
/-! A function. -/
def arg9 (f : Fn) (n : Nd) : Prop := n.1 = 2 ∧ f.2.1 ≤ n.2.1
instance (f : Fn) (n : Nd) : Decidable (arg9 f n) := by unfold arg9; infer_instance
def bad9 (ps : List Pk) (p : Pk) (i : Nat) (n : Nd) : Prop := n.1 = 8 ∧ call9 ps p i n ≠ 0
instance (ps : List Pk) (p : Pk) (i : Nat) (n : Nd) : Decidable (bad9 ps p i n) := by unfold bad9; infer_instance
def fnGo (ps : List Pk) (p : Pk) (i : Nat) (f : Fn) : List Nd → Int → Int
 | [], c => c
 | n :: r, c => if arg9 f n then 3 else fnGo ps p i f r (if bad9 ps p i n then 4 else c)
def func9 (ps : List Pk) (p : Pk) (i : Nat) : Int := fnGo ps p i (p.2.2.getD i fn0) (p.2.2.getD i fn0).2.2 0
theorem fnGo_drop {ps : List Pk} {p : Pk} {i : Nat} {f : Fn} {t : List Nd} {j : Nat} (hj : j < t.length) (c : Int) : fnGo ps p i f (t.drop j) c = if arg9 f (t.getD j nd0) then 3 else fnGo ps p i f (t.drop (j + 1)) (if bad9 ps p i (t.getD j nd0) then 4 else c) := by
 rw [List.drop_eq_getElem_cons hj, fnGo]
 have e : t.getD j nd0 = t[j] := by simp [List.getD, hj]
 rw [e]
theorem fnGo_val (ps : List Pk) (p : Pk) (i : Nat) (f : Fn) : ∀ (t : List Nd) (c : Int), (c = 0 ∨ c = 4) →
 (fnGo ps p i f t c = 0 ∨ fnGo ps p i f t c = 3 ∨ fnGo ps p i f t c = 4) ∧ (fnGo ps p i f t c = 0 ↔ c = 0 ∧ ∀ n ∈ t, ¬ arg9 f n ∧ ¬ bad9 ps p i n)
 | [], c, hc => by
  refine ⟨by rcases hc with e | e <;> simp [fnGo, e], by simp [fnGo]⟩
 | n :: r, c, hc => by
  rw [fnGo]
  by_cases ha : arg9 f n
  ·
   rw [if_pos ha]
   exact ⟨by omega, ⟨fun h => by omega, fun h => absurd ha (h.2 n List.mem_cons_self).1⟩⟩
  ·
   rw [if_neg ha]
   by_cases hb : bad9 ps p i n
   ·
    rw [if_pos hb]
    obtain ⟨h1, h2⟩ := fnGo_val ps p i f r 4 (Or.inr rfl)
    exact ⟨h1, ⟨fun h => by have := (h2.1 h).1; omega, fun h => absurd hb (h.2 n List.mem_cons_self).2⟩⟩
   ·
    rw [if_neg hb]
    obtain ⟨h1, h2⟩ := fnGo_val ps p i f r c hc
    refine ⟨h1, h2.trans ⟨fun h => ⟨h.1, fun m hm => ?_⟩, fun h => ⟨h.1, fun m hm => h.2 m (List.mem_cons_of_mem _ hm)⟩⟩⟩
    rcases List.mem_cons.1 hm with e | e
    ·
     rw [e]; exact ⟨ha, hb⟩
    ·
     exact h.2 m e
theorem func9_val (ps : List Pk) (p : Pk) (i : Nat) : func9 ps p i = 0 ∨ func9 ps p i = 3 ∨ func9 ps p i = 4 := (fnGo_val ps p i _ _ 0 (Or.inl rfl)).1
/-! A package, a project. -/
abbrev Flt := Int × List UInt8 × List UInt8
def miss9 (ps : List Pk) (p : Pk) : Prop := ∃ m ∈ p.2.1, at8 ps m < 0
instance (ps : List Pk) (p : Pk) : Decidable (miss9 ps p) := by unfold miss9; infer_instance
def fnsGo (ps : List Pk) (p : Pk) : List Fn → Nat → Option Flt
 | [], _ => none
 | f :: r, k => if func9 ps p k ≠ 0 then some (func9 ps p k, p.1, f.1) else fnsGo ps p r (k + 1)
theorem fnsGo_drop {ps : List Pk} {p : Pk} {k : Nat} (hk : k < p.2.2.length) : fnsGo ps p (p.2.2.drop k) k = if func9 ps p k ≠ 0 then some (func9 ps p k, p.1, (p.2.2.getD k fn0).1) else fnsGo ps p (p.2.2.drop (k + 1)) (k + 1) := by
 rw [List.drop_eq_getElem_cons hk, fnsGo]
 have e : p.2.2.getD k fn0 = p.2.2[k] := by simp [List.getD, hk]
 rw [e]
def pk9 (ps : List Pk) (done i : Nat) (p : Pk) : Option Flt := if miss9 ps p then some (1, p.1, []) else if done ≤ i then some (2, p.1, []) else fnsGo ps p p.2.2 0
def fltGo (ps : List Pk) (done : Nat) : List (List UInt8) → Nat → Option Flt
 | [], _ => none
 | x :: r, i => match pk9 ps done i (pkOf ps x) with
  | some f => some f
  | none => fltGo ps done r (i + 1)
theorem fltGo_drop {ps : List Pk} {done : Nat} {l : List (List UInt8)} {i : Nat} (hi : i < l.length) : fltGo ps done (l.drop i) i = match pk9 ps done i (pkOf ps (l.getD i [])) with
 | some f => some f
 | none => fltGo ps done (l.drop (i + 1)) (i + 1) := by
 rw [List.drop_eq_getElem_cons hi, fltGo]
 have e : l.getD i [] = l[i] := by simp [List.getD, hi]
 rw [e]
def ord9 (ps : List Pk) : List (List UInt8) := order8 ps ++ (names8 ps).filter (fun x => decide (¬ x ∈ order8 ps))
def mainT : List UInt8 := [109, 97, 105, 110]
def main9 (ps : List Pk) : Flt := if 0 ≤ at8 ps mainT ∧ 0 ≤ atV (pkOf ps mainT).2.2 mainT ∧ ((pkOf ps mainT).2.2.getD (atV (pkOf ps mainT).2.2 mainT).toNat fn0).2.1 = 1 then (0, [], []) else (5, mainT, mainT)
def fault9 (ps : List Pk) : Flt := match fltGo ps (order8 ps).length (ord9 ps) 0 with
 | some f => f
 | none => main9 ps
def faultV (ps : List Pk) : Flt := if projB ps = true then fault9 ps else (6, [], [])

/-! Exports. -/
def exp9 (f : Fn) : List UInt8 := f.1 ++ [47] ++ intL f.2.1
def exports9 (fs : List Fn) : List (List UInt8) := fs.map exp9
def exportsV (p : Pk) : List (List UInt8) := if pkgB p = true then exports9 p.2.2 else []

end Go.Proofs.YtaidhjjpdkkmcaaGreatDoor

/-! Plain facts of chapter 9: what FnFaults tests. -/
namespace Go.Proofs.YtaidhjjpdkkmcaaGreatDoor
open Go.RowKit

theorem pkOf_nm {ps : List Pk} (hn : (names8 ps).Nodup) {i : Nat} (hi : i < ps.length) : pkOf ps (nmAt ps i) = ps.getD i pk0 := by
 unfold pkOf
 rcases at8_is ps (nmAt ps i) with ⟨_, e⟩ | ⟨j, hj, e, hnm, _⟩
 ·
  exact absurd (nmAt_mem hi) e
 ·
  rw [e]
  have := nmAt_inj hn hj hi hnm
  subst this
  rfl
theorem pkOf_mem {ps : List Pk} {x : List UInt8} (hx : x ∈ names8 ps) : pkOf ps x ∈ ps ∧ (pkOf ps x).1 = x := by
 rcases at8_is ps x with ⟨_, e⟩ | ⟨j, hj, e, hnm, _⟩
 ·
  exact absurd hx e
 ·
  unfold pkOf
  rw [e]
  exact ⟨getD_mem_pk hj, hnm⟩
theorem pkOf_self {ps : List Pk} (hn : (names8 ps).Nodup) {p : Pk} (hp : p ∈ ps) : pkOf ps p.1 = p := by
 obtain ⟨i, hi, rfl⟩ := List.mem_iff_getElem.1 hp
 have e : ps.getD i pk0 = ps[i] := by simp [List.getD, hi]
 have := pkOf_nm hn hi
 unfold nmAt at this
 rw [e] at this
 exact this
theorem ord9_mem {ps : List Pk} (h : projB ps = true) {x : List UInt8} : x ∈ ord9 ps ↔ x ∈ names8 ps := by
 unfold ord9
 rw [List.mem_append, List.mem_filter, decide_eq_true_eq]
 constructor
 ·
  rintro (e | e)
  ·
   exact (order8_end h).1.sub x e
  ·
   exact e.1
 ·
  intro e
  rcases Decidable.em (x ∈ order8 ps) with h1 | h1
  ·
   exact Or.inl h1
  ·
   exact Or.inr ⟨e, h1⟩
/-- What a fault says of itself. -/
structure Flt9 (ps : List Pk) (f : Flt) : Prop where
 lo : 1 ≤ f.1
 hi : f.1 ≤ 4
 fn : f.2.2 ≠ [] ↔ 3 ≤ f.1
theorem name_ne {x : List UInt8} (h : nameB x = true) : x ≠ [] := fun e => by
 have := (name_letters h).1.1
 rw [e] at this
 simp at this
theorem fnsGo_val {ps : List Pk} {p : Pk} : ∀ (fs : List Fn) (k : Nat), (∀ f ∈ fs, f.1 ≠ []) → ∀ f, fnsGo ps p fs k = some f → Flt9 ps f
 | [], _, _, f, h => by simp [fnsGo] at h
 | g :: r, k, hf, f, h => by
  rw [fnsGo] at h
  split at h
  ·
   rename_i h0
   injection h with h
   subst h
   have := func9_val ps p k
   exact ⟨by simp only; omega, by simp only; omega, ⟨fun _ => by simp only; omega, fun _ => hf g List.mem_cons_self⟩⟩
  ·
   exact fnsGo_val r (k + 1) (fun q hq => hf q (List.mem_cons_of_mem _ hq)) f h
theorem fnsGo_none {ps : List Pk} {p : Pk} : ∀ (fs : List Fn) (k : Nat), fnsGo ps p fs k = none → ∀ i, i < fs.length → func9 ps p (k + i) = 0
 | [], _, _, i, hi => by simp at hi
 | g :: r, k, h, i, hi => by
  rw [fnsGo] at h
  split at h
  ·
   simp at h
  ·
   rename_i h0
   cases i with
   | zero => simpa using h0
   | succ i =>
    have := fnsGo_none r (k + 1) h i (by simpa using hi)
    rw [show k + (i + 1) = k + 1 + i by omega]
    exact this
theorem pk9_val {ps : List Pk} {done i : Nat} {p : Pk} (hp : ∀ f ∈ p.2.2, f.1 ≠ []) {f : Flt} (h : pk9 ps done i p = some f) : Flt9 ps f := by
 unfold pk9 at h
 split at h
 ·
  injection h with h; subst h; exact ⟨by simp, by simp, by simp⟩
 ·
  split at h
  ·
   injection h with h; subst h; exact ⟨by simp, by simp, by simp⟩
  ·
   exact fnsGo_val _ _ hp f h
theorem fltGo_val {ps : List Pk} {done : Nat} (hp : ∀ p ∈ ps, ∀ f ∈ p.2.2, f.1 ≠ []) : ∀ (l : List (List UInt8)) (i : Nat), (∀ x ∈ l, x ∈ names8 ps) → ∀ f, fltGo ps done l i = some f → Flt9 ps f
 | [], _, _, f, h => by simp [fltGo] at h
 | x :: r, i, hl, f, h => by
  rw [fltGo] at h
  rcases hk : pk9 ps done i (pkOf ps x) with _ | g
  ·
   rw [hk] at h
   exact fltGo_val hp r (i + 1) (fun y hy => hl y (List.mem_cons_of_mem _ hy)) f h
  ·
   rw [hk] at h
   injection h with h
   subst h
   exact pk9_val (hp _ (pkOf_mem (hl x List.mem_cons_self)).1) hk
theorem fltGo_none {ps : List Pk} {done : Nat} : ∀ (l : List (List UInt8)) (i : Nat), fltGo ps done l i = none → ∀ k, k < l.length → pk9 ps done (i + k) (pkOf ps (l.getD k [])) = none
 | [], _, _, k, hk => by simp at hk
 | x :: r, i, h, k, hk => by
  rw [fltGo] at h
  rcases hp : pk9 ps done i (pkOf ps x) with _ | g
  ·
   rw [hp] at h
   cases k with
   | zero => simpa using hp
   | succ k =>
    have := fltGo_none r (i + 1) h k (by simpa using hk)
    rw [show i + (k + 1) = i + 1 + k by omega]
    simpa using this
  ·
   rw [hp] at h; simp at h
theorem names_ne {ps : List Pk} (h : projB ps = true) : ∀ p ∈ ps, ∀ f ∈ p.2.2, f.1 ≠ [] := fun p hp f hf => by
 have h1 := (pkgB_parts ((projB_parts h).2.2 p hp)).2.2.2.2 f hf
 unfold funcB at h1
 rw [Bool.and_eq_true] at h1
 exact name_ne h1.1
/-- Where nothing is wrong. -/
theorem faultV_zero {ps : List Pk} (h0 : (faultV ps).1 = 0) : faultV ps = (0, [], []) ∧ projB ps = true ∧ (order8 ps).length = ps.length ∧ (∀ p ∈ ps, ∀ m ∈ p.2.1, m ∈ names8 ps) ∧ (∀ p ∈ ps, ∀ k, k < p.2.2.length → func9 ps p k = 0) ∧
 (0 ≤ at8 ps mainT ∧ 0 ≤ atV (pkOf ps mainT).2.2 mainT ∧ ((pkOf ps mainT).2.2.getD (atV (pkOf ps mainT).2.2 mainT).toNat fn0).2.1 = 1) := by
 unfold faultV at h0 ⊢
 rcases hp : projB ps with _ | _
 ·
  rw [hp, if_neg (by simp)] at h0; simp at h0
 ·
  rw [hp, if_pos rfl] at h0
  rw [if_pos rfl]
  unfold fault9 at h0 ⊢
  rcases hf : fltGo ps (order8 ps).length (ord9 ps) 0 with _ | f
  ·
   rw [hf] at h0
   simp only at h0 ⊢
   have hm : 0 ≤ at8 ps mainT ∧ 0 ≤ atV (pkOf ps mainT).2.2 mainT ∧ ((pkOf ps mainT).2.2.getD (atV (pkOf ps mainT).2.2 mainT).toNat fn0).2.1 = 1 := by
    unfold main9 at h0
    exact Decidable.byContradiction fun e => by rw [if_neg e] at h0; simp at h0
   have hnone := fltGo_none _ _ hf
   have hnd := (projB_parts hp).1.nodup
   have hlen : (ord9 ps).length ≤ (order8 ps).length := by
    rcases Nat.lt_or_ge (order8 ps).length (ord9 ps).length with hl | hl
    ·
     have := hnone (order8 ps).length hl
     unfold pk9 at this
     split at this
     ·
      simp at this
     ·
      rw [if_pos (by omega)] at this; simp at this
    ·
     exact hl
   have hall : ∀ x ∈ names8 ps, x ∈ order8 ps := fun x hx => by
    have he : (names8 ps).filter (fun x => decide (¬ x ∈ order8 ps)) = [] := by
     apply List.eq_nil_of_length_eq_zero
     unfold ord9 at hlen
     rw [List.length_append] at hlen
     omega
    rw [List.filter_eq_nil_iff] at he
    have := he x hx
    rw [decide_eq_true_eq] at this
    exact Decidable.byContradiction this
   have hpk : ∀ p ∈ ps, ¬ miss9 ps p ∧ fnsGo ps p p.2.2 0 = none := fun p hpm => by
    have hx : p.1 ∈ names8 ps := List.mem_map.2 ⟨p, hpm, rfl⟩
    obtain ⟨k, hk, e⟩ := List.mem_iff_getElem.1 ((ord9_mem hp).2 hx)
    have h1 := hnone k hk
    rw [show (ord9 ps).getD k [] = p.1 by simp [List.getD, hk, e], pkOf_self hnd hpm] at h1
    unfold pk9 at h1
    split at h1
    ·
     simp at h1
    ·
     rename_i hm
     split at h1
     ·
      simp at h1
     ·
      exact ⟨hm, h1⟩
   refine ⟨by unfold main9; rw [if_pos hm], trivial, ?_, fun p hpm m hmm => ?_, fun p hpm k hk => ?_, hm⟩
   ·
    have h1 := (order8_end hp).1.len
    have h2 := hnd.length_le_of_subset (fun x hx => hall x hx)
    have h3 : (names8 ps).length = ps.length := by simp [names8]
    omega
   ·
    refine (at8_mem ps m).1 ?_
    have h1 := (hpk p hpm).1
    unfold miss9 at h1
    rcases Int.lt_or_le (at8 ps m) 0 with h2 | h2
    ·
     exact absurd ⟨m, hmm, h2⟩ h1
    ·
     exact h2
   ·
    have := fnsGo_none _ _ (hpk p hpm).2 k hk
    simpa using this
  ·
   rw [hf] at h0
   have := (fltGo_val (names_ne hp) _ _ (fun x hx => (ord9_mem hp).1 hx) f hf).lo
   simp only at h0
   omega
/-! What FnCalls looks for. -/
theorem at7Go_is (s : List UInt8) : ∀ (fs : List Fn) (k : Nat), atGo s fs k = -1 ∨ ∃ i, i < fs.length ∧ atGo s fs k = ((k + i : Nat) : Int) ∧ (fs.getD i fn0).1 = s
 | [], k => Or.inl rfl
 | p :: r, k => by
  rw [atGo]
  by_cases h : p.1 = s
  ·
   rw [if_pos h]; exact Or.inr ⟨0, by simp, by simp, by simpa using h⟩
  ·
   rw [if_neg h]
   rcases at7Go_is s r (k + 1) with e | ⟨i, hi, e, hn⟩
   ·
    exact Or.inl e
   ·
    exact Or.inr ⟨i + 1, by simpa using hi, by rw [e]; congr 1; omega, by simpa using hn⟩
theorem at7_is (fs : List Fn) (s : List UInt8) : atV fs s = -1 ∨ ∃ i, i < fs.length ∧ atV fs s = (i : Int) ∧ (fs.getD i fn0).1 = s := by
 rcases at7Go_is s fs 0 with e | ⟨i, hi, e, hn⟩
 ·
  exact Or.inl e
 ·
  exact Or.inr ⟨i, hi, by unfold atV; rw [e]; congr 1; omega, hn⟩
/-- A function that the law finds. -/
def hit9 (ps : List Pk) (s : List UInt8) (at_ : Int) (n : Nd) (j m : Nat) : Prop := nmAt ps j = n.2.2.1 ∧ ((ps.getD j pk0).2.2.getD m fn0).1 = n.2.2.2 ∧ ((ps.getD j pk0).2.2.getD m fn0).2.1 = n.2.1 ∧ (n.2.2.1 ≠ s ∨ (m : Int) < at_)
def ok9 (ps : List Pk) (s : List UInt8) (n : Nd) (i : Nat) : Prop := n.2.2.1 = s ∨ n.2.2.1 ∈ imsAt ps i
def found9 (ps : List Pk) (s : List UInt8) (at_ : Int) (n : Nd) : Prop := ∃ i, i < ps.length ∧ nmAt ps i = s ∧ ok9 ps s n i ∧ ∃ j, j < ps.length ∧ ∃ m, m < (ps.getD j pk0).2.2.length ∧ hit9 ps s at_ n j m
end Go.Proofs.YtaidhjjpdkkmcaaGreatDoor

/-! The contracts of chapter 7's specification: l1Rise, l7Imports, l7Func. -/
namespace Go.Proofs.YtaidhjjpdkkmcaaGreatDoor
open Go.RowKit

set_option maxHeartbeats 2000000 in
set_option maxRecDepth 100000 in
theorem specRise (a : Option Addr) (len cap : Nat) (ts : List (List UInt8)) (w : World) (hin : TextsIn w a len ts) (hlen : len ≤ 1048576) :
 Calls Tryz.prog 176 #[.slice a len cap] w fun e w' => e = .returned (.bool (riseB ts)) ∧ Below w.heap.size w w' := by
 obtain rfl : ts.length = len := hin.1
 have HI : Hid (TextsIn w a ts.length ts) := hin
 clear hin
 go_enter Tryz.func176, Tryz.ntmps176
 go_wp2
 go_loopw [3] (fun iv wr => ∃ j : Nat, iv = .int .i64 ((j : Int) + 1) ∧ j ≤ ts.length ∧ Hid (∀ i, i < j → leT (ts.getD (i + 1) []) (ts.getD i []) = false) ∧ Hid (TextsIn wr a ts.length ts) ∧ Hid (Below w.heap.size w wr)) (fun iv _ => ts.length + 1 - (intOf iv).toNat)
 case atStart => exact ⟨0, rfl, by omega, (fun i hi => by omega), HI, Below.refl _ _⟩
 case round =>
  obtain ⟨j, rfl, hj, HA, HT, HB⟩ := hrel
  clear HI
  by_cases hlt : (j : Int) + 1 < (ts.length : Int)
  ·
   obtain ⟨b, off, rfl, hbl, c0⟩ := HT.out.2 j (by omega)
   obtain ⟨b', off', he, _, c1⟩ := HT.out.2 (j + 1) (by omega)
   simp only [Option.some.injEq, Addr.mk.injEq, and_true] at he
   obtain ⟨rfl, rfl⟩ := he
   obtain ⟨x, hx⟩ : ∃ x, ts.getD j [] = x := ⟨_, rfl⟩
   obtain ⟨y, hy⟩ : ∃ y, ts.getD (j + 1) [] = y := ⟨_, rfl⟩
   rw [hx] at c0
   rw [hy] at c1
   rcases hle : leT y x with _ | _
   ·
    have HA2 : Hid (∀ i, i < j + 1 → leT (ts.getD (i + 1) []) (ts.getD i []) = false) := fun i hi => by
     rcases Nat.lt_or_ge i j with h | h
     ·
      exact HA.out i h
     ·
      obtain rfl : i = j := by omega
      rw [hx, hy]; exact hle
    have HT2 : Hid (TextsIn wr (some ⟨b, off, none⟩) ts.length ts) := HT.out
    unfold leT at hle
    clear HA HT hx hy
    go_wp2_with fail
    go_quiet (fail)
    go_wp2
    go_roundw
    case rel => exact ⟨j + 1, by go_num, by omega, HA2, HT2, HB.out.trans ⟨rfl, rfl, rfl, Nat.le_refl _, fun _ _ => rfl⟩⟩
    case measure => simp [intOf]; omega
   ·
    have HR : Hid (riseB ts = false) := riseB_no (j := j) (by omega) (by rw [hx, hy]; exact hle)
    unfold leT at hle
    clear HA HT hx hy
    go_wp2_with fail
    go_quiet (fail)
    go_wp2
    go_ret
    exact ⟨by rw [HR.out]; rfl, HB.out.trans ⟨rfl, rfl, rfl, Nat.le_refl _, fun _ _ => rfl⟩⟩
  ·
   have HR : Hid (riseB ts = true) := riseB_yes (j := j) (by omega) HA.out
   go_wp2
   go_ret
   exact ⟨by rw [HR.out]; rfl, HB.out⟩

set_option maxHeartbeats 2000000 in
set_option maxRecDepth 100000 in
theorem specImports (a : Option Addr) (len cap : Nat) (ts : List (List UInt8)) (w : World) (hin : TextsIn w a len ts) (hlen : len ≤ 1048576) (hs : ∀ i, (ts.getD i []).length ≤ 1048576) :
 Calls Tryz.prog 156 #[.slice a len cap] w fun e w' => e = .returned (.bool (importsB ts)) ∧ Below w.heap.size w w' := by
 obtain rfl : ts.length = len := hin.1
 have HI : Hid (TextsIn w a ts.length ts) := hin
 have HS : Hid (∀ i, (ts.getD i []).length ≤ 1048576) := hs
 clear hin hs
 go_enter Tryz.func156, Tryz.ntmps156
 go_wp2
 go_loopw [3] (fun iv wr => ∃ j : Nat, iv = .int .i64 (j : Int) ∧ j ≤ ts.length ∧ Hid (∀ i, i < j → nameB (ts.getD i []) = true) ∧ Hid (TextsIn wr a ts.length ts) ∧ Hid (Below w.heap.size w wr)) (fun iv _ => ts.length - (intOf iv).toNat)
 case atStart => exact ⟨0, rfl, by omega, (fun i hi => by omega), HI, Below.refl _ _⟩
 case round =>
  obtain ⟨j, rfl, hj, HA, HT, HB⟩ := hrel
  clear HI
  by_cases hlt : (j : Int) < (ts.length : Int)
  ·
   obtain ⟨b, off, rfl, hbl, c0⟩ := HT.out.2 j (by omega)
   have hxl := HS.out j
   obtain ⟨x, hx⟩ : ∃ x, ts.getD j [] = x := ⟨_, rfl⟩
   rw [hx] at c0 hxl
   have hC : Hid (_) := specNameOk x wr hxl
   rcases hnb : nameB x with _ | _
   ·
    have HR : Hid (importsB ts = false) := importsB_no (j := j) (by omega) (by rw [hx]; exact hnb)
    rw [hnb] at hC
    clear HA HT hx hnb
    go_wp2_with (go_at_call 45; refine Calls.mono hC.out ?_; rintro e w1 ⟨rfl, rfl⟩)
    go_ret
    exact ⟨by rw [HR.out]; rfl, HB.out⟩
   ·
    have HA2 : Hid (∀ i, i < j + 1 → nameB (ts.getD i []) = true) := fun i hi => by
     rcases Nat.lt_or_ge i j with h | h
     ·
      exact HA.out i h
     ·
      obtain rfl : i = j := by omega
      rw [hx]; exact hnb
    rw [hnb] at hC
    clear HA hx hnb
    go_wp2_with (go_at_call 45; refine Calls.mono hC.out ?_; rintro e w1 ⟨rfl, rfl⟩)
    go_roundw
    case rel => exact ⟨j + 1, by go_num, by omega, HA2, HT, HB⟩
    case measure => simp [intOf]; omega
  ·
   have hall := importsB_all (l := ts) (fun i hi => HA.out i (by omega))
   by_cases h6 : (ts.length : Int) ≤ 6
   ·
    have HR : Hid (importsB ts = riseB ts) := by
     exact (by rw [hall, decide_eq_true (show ts.length ≤ 6 by omega)]; rfl : importsB ts = riseB ts)
    have hC : Hid (_) := specRise a ts.length cap ts wr HT.out hlen
    clear hall HA HT
    go_wp2_with (go_at_call 176; refine Calls.mono hC.out ?_; rintro e w1 ⟨rfl, hb1⟩)
    go_ret
    exact ⟨by rw [HR.out]; rfl, HB.out.trans (hb1.mono HB.out.size)⟩
   ·
    have HR : Hid (importsB ts = false) := by
     exact (by rw [hall, decide_eq_false (show ¬ ts.length ≤ 6 by omega)]; rfl : importsB ts = false)
    clear hall HA HT
    go_wp2
    go_ret
    exact ⟨by rw [HR.out]; rfl, HB.out⟩

/-- A function, as a value. -/
def FnVal (f : Fn) (ta : Option Addr) (tl tc : Nat) : Value := .agg #[.string ⟨f.1.toArray⟩, .int .i64 f.2.1, .slice ta tl tc]

set_option maxHeartbeats 2000000 in
set_option maxRecDepth 100000 in
theorem specFuncOk (f : Fn) (ta : Option Addr) (tl tc : Nat) (w : World) (hin : NodesIn w ta tl f.2.2) (hsh : ShortT f.2.2) (hlen : tl ≤ 1048576) (hn : f.1.length ≤ 1048576) :
 Calls Tryz.prog 157 #[.agg #[.string ⟨f.1.toArray⟩, .int .i64 f.2.1, .slice ta tl tc]] w fun e w' => e = .returned (.bool (funcB f)) ∧ Below w.heap.size w w' := by
 obtain ⟨s, n, t⟩ := f
 simp only at hin hsh hn ⊢
 obtain ⟨W, hW⟩ : ∃ W, w.alloc (.cells #[.string ⟨s.toArray⟩, .int .i64 n, .slice ta tl tc] 98) = W := ⟨_, rfl⟩
 have hbW : Below w.heap.size w W := by rw [← hW]; exact (Below.refl _ _).alloc (Nat.le_refl _) _
 have hA : W.heap[w.heap.size]? = some (.cells #[.string ⟨s.toArray⟩, .int .i64 n, .slice ta tl tc] 98) := by rw [← hW]; exact heap_alloc_new w _
 have c0 : W.cell? ⟨w.heap.size, 0, none⟩ = some (.string ⟨s.toArray⟩) := by simp [World.cell?, hA]
 have c1 : W.cell? ⟨w.heap.size, 1, none⟩ = some (.int .i64 n) := by simp [World.cell?, hA]
 have c2 : W.cell? ⟨w.heap.size, 2, none⟩ = some (.slice ta tl tc) := by simp [World.cell?, hA]
 have hC1 : Hid (_) := specNameOk s W hn
 have hC2 : Hid (_) := specIn n 0 3 W
 have hC3 : Hid (_) := specTreeOk ta tl tc t W (hin.below hbW) hsh hlen
 have HF : Hid (funcB (s, n, t) = (nameB s && (inB n 0 3 && treeB t))) := rfl
 generalize nameB s = nb at hC1 HF
 generalize inB n 0 3 = ib at hC2 HF
 generalize treeB t = tb at hC3 HF
 clear hin hsh hA
 go_enter Tryz.func157, Tryz.ntmps157
 rcases nb with _ | _
 ·
  go_wp2_with (go_at_call 45; refine Calls.mono hC1.out ?_; rintro e w1 ⟨rfl, rfl⟩)
  go_ret
  exact ⟨by rw [HF.out]; rfl, hbW⟩
 ·
  rcases ib with _ | _
  ·
   go_wp2_with (first | (go_at_call 45; refine Calls.mono hC1.out ?_; rintro e w1 ⟨rfl, rfl⟩) | (go_at_call 43; refine Calls.mono hC2.out ?_; rintro e w1 ⟨rfl, rfl⟩))
   go_ret
   exact ⟨by rw [HF.out]; rfl, hbW⟩
  ·
   go_wp2_with (first | (go_at_call 45; refine Calls.mono hC1.out ?_; rintro e w1 ⟨rfl, rfl⟩) | (go_at_call 43; refine Calls.mono hC2.out ?_; rintro e w1 ⟨rfl, rfl⟩) | (go_at_call 177; refine Calls.mono hC3.out ?_; rintro e w2 ⟨rfl, hb2⟩))
   go_ret
   exact ⟨by rw [HF.out]; rfl, hbW.trans (hb2.mono hbW.size)⟩

end Go.Proofs.YtaidhjjpdkkmcaaGreatDoor

/-! The contracts of chapter 7's specification: l7At, PackageOk. -/
namespace Go.Proofs.YtaidhjjpdkkmcaaGreatDoor
open Go.RowKit

/-- The functions fs lie at a, three cells each, their trees where those say. -/
def FuncsIn (w : World) (a : Option Addr) (len : Nat) (fs : List Fn) : Prop :=
 fs.length = len ∧ ∀ j, j < len → ∃ b off, a = some ⟨b, off, none⟩ ∧ b < w.heap.size ∧ w.cell? ⟨b, off + j * 3, none⟩ = some (.string ⟨(fs.getD j fn0).1.toArray⟩) ∧ w.cell? ⟨b, off + j * 3 + 1, none⟩ = some (.int .i64 (fs.getD j fn0).2.1) ∧
  ∃ ta tl tc, w.cell? ⟨b, off + j * 3 + 2, none⟩ = some (.slice ta tl tc) ∧ (ta = none → tc = 0) ∧ NodesIn w ta tl (fs.getD j fn0).2.2

theorem FuncsIn.below {w w' : World} {a : Option Addr} {len : Nat} {fs : List Fn} (h : FuncsIn w a len fs) (hb : Below w.heap.size w w') : FuncsIn w' a len fs := by
 refine ⟨h.1, fun j hj => ?_⟩
 obtain ⟨b, off, e, hlt, c0, c1, ta, tl, tc, c2, hnc, hn⟩ := h.2 j hj
 exact ⟨b, off, e, Nat.lt_of_lt_of_le hlt hb.size, (hb.cell (p := ⟨b, off + j * 3, none⟩) hlt).trans c0, (hb.cell (p := ⟨b, off + j * 3 + 1, none⟩) hlt).trans c1, ta, tl, tc, (hb.cell (p := ⟨b, off + j * 3 + 2, none⟩) hlt).trans c2, hnc, hn.below hb⟩

/-- No name, no tree is longer than a law lets them be. -/
def ShortF (fs : List Fn) : Prop := ∀ j, (fs.getD j fn0).1.length ≤ 1048576 ∧ (fs.getD j fn0).2.2.length ≤ 1048576 ∧ ShortT (fs.getD j fn0).2.2

set_option maxHeartbeats 2000000 in
set_option maxRecDepth 100000 in
theorem specAt (nm s : List UInt8) (ia : Option Addr) (il ic : Nat) (fa : Option Addr) (fl fc : Nat) (fs : List Fn) (w : World) (hin : FuncsIn w fa fl fs) (hlen : fl ≤ 1048576) :
 Calls Tryz.prog 130 #[.agg #[.string ⟨nm.toArray⟩, .slice ia il ic, .slice fa fl fc], .string ⟨s.toArray⟩] w fun e w' => e = .returned (.int .i64 (atV fs s)) ∧ Below w.heap.size w w' := by
 obtain rfl : fs.length = fl := hin.1
 obtain ⟨W, hW⟩ : ∃ W, w.alloc (.cells #[.string ⟨nm.toArray⟩, .slice ia il ic, .slice fa fs.length fc] 51) = W := ⟨_, rfl⟩
 have hbW : Below w.heap.size w W := by rw [← hW]; exact (Below.refl _ _).alloc (Nat.le_refl _) _
 have hA : W.heap[w.heap.size]? = some (.cells #[.string ⟨nm.toArray⟩, .slice ia il ic, .slice fa fs.length fc] 51) := by rw [← hW]; exact heap_alloc_new w _
 have k2 : W.cell? ⟨w.heap.size, 2, none⟩ = some (.slice fa fs.length fc) := by simp [World.cell?, hA]
 have HI : Hid (FuncsIn W fa fs.length fs) := hin.below hbW
 clear hin hA
 go_enter Tryz.func130, Tryz.ntmps130
 go_wp2
 go_loopw [5] (fun iv wr => ∃ j : Nat, iv = .int .i64 (j : Int) ∧ j ≤ fs.length ∧ Hid (atV fs s = atGo s (fs.drop j) j) ∧ wr = W) (fun iv _ => fs.length - (intOf iv).toNat)
 case atStart => exact ⟨0, rfl, by omega, (rfl : atV fs s = atGo s (fs.drop 0) 0), rfl⟩
 case round =>
  obtain ⟨j, rfl, hj, HA, rfl⟩ := hrel
  by_cases hlt : (j : Int) < (fs.length : Int)
  ·
   obtain ⟨b, off, rfl, hbl, c0, _⟩ := HI.out.2 j (by omega)
   have hg := atGo_drop (fs := fs) (k := j) (by omega) s
   obtain ⟨x, hx⟩ : ∃ x, (fs.getD j fn0).1 = x := ⟨_, rfl⟩
   rw [hx] at c0 hg
   by_cases hxs : x = s
   ·
    subst hxs
    have HR : Hid (atV fs x = (j : Int)) := by exact (by rw [HA.out, hg, if_pos rfl] : atV fs x = (j : Int))
    have hself : (x == x) = true := by simp
    clear HA hg hx
    go_wp2
    go_ret
    exact ⟨by rw [HR.out]; rfl, hbW⟩
   ·
    have HR : Hid (atV fs s = atGo s (fs.drop (j + 1)) (j + 1)) := by exact (by rw [HA.out, hg, if_neg hxs] : atV fs s = atGo s (fs.drop (j + 1)) (j + 1))
    have hne : (x == s) = false := by rw [beq_eq_false_iff_ne]; exact hxs
    clear HA hg hx
    go_wp2
    go_roundw
    case rel => exact ⟨j + 1, by go_num, by omega, HR, trivial⟩
    case measure => simp [intOf]; omega
  ·
   have HR : Hid (atV fs s = -1) := by exact (by rw [HA.out, List.drop_of_length_le (by omega)]; rfl : atV fs s = -1)
   go_wp2
   go_ret
   exact ⟨by rw [HR.out]; rfl, hbW⟩

end Go.Proofs.YtaidhjjpdkkmcaaGreatDoor
