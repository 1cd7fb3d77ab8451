/-
  Parts of one proof, one behind the other: Math9L, PackS, PackS2.
-/
import Derived.Test.YtdoghjpjepolbaaGreatDoorP4
import Derived.Test.YtdoghjpjepolbaaGreatDoorP2
import Derived.BigQuiet
import Derived.Deep.RegionHeld3
import Derived.Deep.Cut

/-! Plain facts of chapter 9: what FnFaults tests. -/
namespace Go.Proofs.YtdoghjpjepolbaaGreatDoor
open Go.RowKit

theorem pkOf_nm {ps : List Pk} (hn : (names8 ps).Nodup) {i : Nat} (hi : i < ps.length) : pkOf ps (nmAt ps i) = ps.getD i pk0 := by
 unfold pkOf
 rcases at8_is ps (nmAt ps i) with ⟨_, e⟩ | ⟨j, hj, e, hnm, _⟩
 ·
  exact absurd (nmAt_mem hi) e
 ·
  rw [e]
  have := nmAt_inj hn hj hi hnm
  subst this
  rfl
theorem pkOf_mem {ps : List Pk} {x : List UInt8} (hx : x ∈ names8 ps) : pkOf ps x ∈ ps ∧ (pkOf ps x).1 = x := by
 rcases at8_is ps x with ⟨_, e⟩ | ⟨j, hj, e, hnm, _⟩
 ·
  exact absurd hx e
 ·
  unfold pkOf
  rw [e]
  exact ⟨getD_mem_pk hj, hnm⟩
theorem pkOf_self {ps : List Pk} (hn : (names8 ps).Nodup) {p : Pk} (hp : p ∈ ps) : pkOf ps p.1 = p := by
 obtain ⟨i, hi, rfl⟩ := List.mem_iff_getElem.1 hp
 have e : ps.getD i pk0 = ps[i] := by simp [List.getD, hi]
 have := pkOf_nm hn hi
 unfold nmAt at this
 rw [e] at this
 exact this
theorem ord9_mem {ps : List Pk} (h : projB ps = true) {x : List UInt8} : x ∈ ord9 ps ↔ x ∈ names8 ps := by
 unfold ord9
 rw [List.mem_append, List.mem_filter, decide_eq_true_eq]
 constructor
 ·
  rintro (e | e)
  ·
   exact (order8_end h).1.sub x e
  ·
   exact e.1
 ·
  intro e
  rcases Decidable.em (x ∈ order8 ps) with h1 | h1
  ·
   exact Or.inl h1
  ·
   exact Or.inr ⟨e, h1⟩
/-- What a fault says of itself. -/
structure Flt9 (ps : List Pk) (f : Flt) : Prop where
 lo : 1 ≤ f.1
 hi : f.1 ≤ 4
 fn : f.2.2 ≠ [] ↔ 3 ≤ f.1
theorem name_ne {x : List UInt8} (h : nameB x = true) : x ≠ [] := fun e => by
 have := (name_letters h).1.1
 rw [e] at this
 simp at this
theorem fnsGo_val {ps : List Pk} {p : Pk} : ∀ (fs : List Fn) (k : Nat), (∀ f ∈ fs, f.1 ≠ []) → ∀ f, fnsGo ps p fs k = some f → Flt9 ps f
 | [], _, _, f, h => by simp [fnsGo] at h
 | g :: r, k, hf, f, h => by
  rw [fnsGo] at h
  split at h
  ·
   rename_i h0
   injection h with h
   subst h
   have := func9_val ps p k
   exact ⟨by simp only; omega, by simp only; omega, ⟨fun _ => by simp only; omega, fun _ => hf g List.mem_cons_self⟩⟩
  ·
   exact fnsGo_val r (k + 1) (fun q hq => hf q (List.mem_cons_of_mem _ hq)) f h
theorem fnsGo_none {ps : List Pk} {p : Pk} : ∀ (fs : List Fn) (k : Nat), fnsGo ps p fs k = none → ∀ i, i < fs.length → func9 ps p (k + i) = 0
 | [], _, _, i, hi => by simp at hi
 | g :: r, k, h, i, hi => by
  rw [fnsGo] at h
  split at h
  ·
   simp at h
  ·
   rename_i h0
   cases i with
   | zero => simpa using h0
   | succ i =>
    have := fnsGo_none r (k + 1) h i (by simpa using hi)
    rw [show k + (i + 1) = k + 1 + i by omega]
    exact this
theorem pk9_val {ps : List Pk} {done i : Nat} {p : Pk} (hp : ∀ f ∈ p.2.2, f.1 ≠ []) {f : Flt} (h : pk9 ps done i p = some f) : Flt9 ps f := by
 unfold pk9 at h
 split at h
 ·
  injection h with h; subst h; exact ⟨by simp, by simp, by simp⟩
 ·
  split at h
  ·
   injection h with h; subst h; exact ⟨by simp, by simp, by simp⟩
  ·
   exact fnsGo_val _ _ hp f h
theorem fltGo_val {ps : List Pk} {done : Nat} (hp : ∀ p ∈ ps, ∀ f ∈ p.2.2, f.1 ≠ []) : ∀ (l : List (List UInt8)) (i : Nat), (∀ x ∈ l, x ∈ names8 ps) → ∀ f, fltGo ps done l i = some f → Flt9 ps f
 | [], _, _, f, h => by simp [fltGo] at h
 | x :: r, i, hl, f, h => by
  rw [fltGo] at h
  rcases hk : pk9 ps done i (pkOf ps x) with _ | g
  ·
   rw [hk] at h
   exact fltGo_val hp r (i + 1) (fun y hy => hl y (List.mem_cons_of_mem _ hy)) f h
  ·
   rw [hk] at h
   injection h with h
   subst h
   exact pk9_val (hp _ (pkOf_mem (hl x List.mem_cons_self)).1) hk
theorem fltGo_none {ps : List Pk} {done : Nat} : ∀ (l : List (List UInt8)) (i : Nat), fltGo ps done l i = none → ∀ k, k < l.length → pk9 ps done (i + k) (pkOf ps (l.getD k [])) = none
 | [], _, _, k, hk => by simp at hk
 | x :: r, i, h, k, hk => by
  rw [fltGo] at h
  rcases hp : pk9 ps done i (pkOf ps x) with _ | g
  ·
   rw [hp] at h
   cases k with
   | zero => simpa using hp
   | succ k =>
    have := fltGo_none r (i + 1) h k (by simpa using hk)
    rw [show i + (k + 1) = i + 1 + k by omega]
    simpa using this
  ·
   rw [hp] at h; simp at h
theorem names_ne {ps : List Pk} (h : projB ps = true) : ∀ p ∈ ps, ∀ f ∈ p.2.2, f.1 ≠ [] := fun p hp f hf => by
 have h1 := (pkgB_parts ((projB_parts h).2.2 p hp)).2.2.2.2 f hf
 unfold funcB at h1
 rw [Bool.and_eq_true] at h1
 exact name_ne h1.1
/-- Where nothing is wrong. -/
theorem faultV_zero {ps : List Pk} (h0 : (faultV ps).1 = 0) : faultV ps = (0, [], []) ∧ projB ps = true ∧ (order8 ps).length = ps.length ∧ (∀ p ∈ ps, ∀ m ∈ p.2.1, m ∈ names8 ps) ∧ (∀ p ∈ ps, ∀ k, k < p.2.2.length → func9 ps p k = 0) ∧
 (0 ≤ at8 ps mainT ∧ 0 ≤ atV (pkOf ps mainT).2.2 mainT ∧ ((pkOf ps mainT).2.2.getD (atV (pkOf ps mainT).2.2 mainT).toNat fn0).2.1 = 1) := by
 unfold faultV at h0 ⊢
 rcases hp : projB ps with _ | _
 ·
  rw [hp, if_neg (by simp)] at h0; simp at h0
 ·
  rw [hp, if_pos rfl] at h0
  rw [if_pos rfl]
  unfold fault9 at h0 ⊢
  rcases hf : fltGo ps (order8 ps).length (ord9 ps) 0 with _ | f
  ·
   rw [hf] at h0
   simp only at h0 ⊢
   have hm : 0 ≤ at8 ps mainT ∧ 0 ≤ atV (pkOf ps mainT).2.2 mainT ∧ ((pkOf ps mainT).2.2.getD (atV (pkOf ps mainT).2.2 mainT).toNat fn0).2.1 = 1 := by
    unfold main9 at h0
    exact Decidable.byContradiction fun e => by rw [if_neg e] at h0; simp at h0
   have hnone := fltGo_none _ _ hf
   have hnd := (projB_parts hp).1.nodup
   have hlen : (ord9 ps).length ≤ (order8 ps).length := by
    rcases Nat.lt_or_ge (order8 ps).length (ord9 ps).length with hl | hl
    ·
     have := hnone (order8 ps).length hl
     unfold pk9 at this
     split at this
     ·
      simp at this
     ·
      rw [if_pos (by omega)] at this; simp at this
    ·
     exact hl
   have hall : ∀ x ∈ names8 ps, x ∈ order8 ps := fun x hx => by
    have he : (names8 ps).filter (fun x => decide (¬ x ∈ order8 ps)) = [] := by
     apply List.eq_nil_of_length_eq_zero
     unfold ord9 at hlen
     rw [List.length_append] at hlen
     omega
    rw [List.filter_eq_nil_iff] at he
    have := he x hx
    rw [decide_eq_true_eq] at this
    exact Decidable.byContradiction this
   have hpk : ∀ p ∈ ps, ¬ miss9 ps p ∧ fnsGo ps p p.2.2 0 = none := fun p hpm => by
    have hx : p.1 ∈ names8 ps := List.mem_map.2 ⟨p, hpm, rfl⟩
    obtain ⟨k, hk, e⟩ := List.mem_iff_getElem.1 ((ord9_mem hp).2 hx)
    have h1 := hnone k hk
    rw [show (ord9 ps).getD k [] = p.1 by simp [List.getD, hk, e], pkOf_self hnd hpm] at h1
    unfold pk9 at h1
    split at h1
    ·
     simp at h1
    ·
     rename_i hm
     split at h1
     ·
      simp at h1
     ·
      exact ⟨hm, h1⟩
   refine ⟨by unfold main9; rw [if_pos hm], trivial, ?_, fun p hpm m hmm => ?_, fun p hpm k hk => ?_, hm⟩
   ·
    have h1 := (order8_end hp).1.len
    have h2 := hnd.length_le_of_subset (fun x hx => hall x hx)
    have h3 : (names8 ps).length = ps.length := by simp [names8]
    omega
   ·
    refine (at8_mem ps m).1 ?_
    have h1 := (hpk p hpm).1
    unfold miss9 at h1
    rcases Int.lt_or_le (at8 ps m) 0 with h2 | h2
    ·
     exact absurd ⟨m, hmm, h2⟩ h1
    ·
     exact h2
   ·
    have := fnsGo_none _ _ (hpk p hpm).2 k hk
    simpa using this
  ·
   rw [hf] at h0
   have := (fltGo_val (names_ne hp) _ _ (fun x hx => (ord9_mem hp).1 hx) f hf).lo
   simp only at h0
   omega
/-! What FnCalls looks for. -/
theorem at7Go_is (s : List UInt8) : ∀ (fs : List Fn) (k : Nat), atGo s fs k = -1 ∨ ∃ i, i < fs.length ∧ atGo s fs k = ((k + i : Nat) : Int) ∧ (fs.getD i fn0).1 = s
 | [], k => Or.inl rfl
 | p :: r, k => by
  rw [atGo]
  by_cases h : p.1 = s
  ·
   rw [if_pos h]; exact Or.inr ⟨0, by simp, by simp, by simpa using h⟩
  ·
   rw [if_neg h]
   rcases at7Go_is s r (k + 1) with e | ⟨i, hi, e, hn⟩
   ·
    exact Or.inl e
   ·
    exact Or.inr ⟨i + 1, by simpa using hi, by rw [e]; congr 1; omega, by simpa using hn⟩
theorem at7_is (fs : List Fn) (s : List UInt8) : atV fs s = -1 ∨ ∃ i, i < fs.length ∧ atV fs s = (i : Int) ∧ (fs.getD i fn0).1 = s := by
 rcases at7Go_is s fs 0 with e | ⟨i, hi, e, hn⟩
 ·
  exact Or.inl e
 ·
  exact Or.inr ⟨i, hi, by unfold atV; rw [e]; congr 1; omega, hn⟩
/-- A function that the law finds. -/
def hit9 (ps : List Pk) (s : List UInt8) (at_ : Int) (n : Nd) (j m : Nat) : Prop := nmAt ps j = n.2.2.1 ∧ ((ps.getD j pk0).2.2.getD m fn0).1 = n.2.2.2 ∧ ((ps.getD j pk0).2.2.getD m fn0).2.1 = n.2.1 ∧ (n.2.2.1 ≠ s ∨ (m : Int) < at_)
def ok9 (ps : List Pk) (s : List UInt8) (n : Nd) (i : Nat) : Prop := n.2.2.1 = s ∨ n.2.2.1 ∈ imsAt ps i
def found9 (ps : List Pk) (s : List UInt8) (at_ : Int) (n : Nd) : Prop := ∃ i, i < ps.length ∧ nmAt ps i = s ∧ ok9 ps s n i ∧ ∃ j, j < ps.length ∧ ∃ m, m < (ps.getD j pk0).2.2.length ∧ hit9 ps s at_ n j m
end Go.Proofs.YtdoghjpjepolbaaGreatDoor

/-! The contracts of chapter 7's specification: l1Rise, l7Imports, l7Func. -/
namespace Go.Proofs.YtdoghjpjepolbaaGreatDoor
open Go.RowKit

set_option maxHeartbeats 2000000 in
set_option maxRecDepth 100000 in
theorem specRise (a : Option Addr) (len cap : Nat) (ts : List (List UInt8)) (w : World) (hin : TextsIn w a len ts) (hlen : len ≤ 1048576) :
 Calls Tryz.prog 162 #[.slice a len cap] w fun e w' => e = .returned (.bool (riseB ts)) ∧ Below w.heap.size w w' := by
 obtain rfl : ts.length = len := hin.1
 have HI : Hid (TextsIn w a ts.length ts) := hin
 clear hin
 go_enter Tryz.func162, Tryz.ntmps162
 go_wp2
 go_loopw [3] (fun iv wr => ∃ j : Nat, iv = .int .i64 ((j : Int) + 1) ∧ j ≤ ts.length ∧ Hid (∀ i, i < j → leT (ts.getD (i + 1) []) (ts.getD i []) = false) ∧ Hid (TextsIn wr a ts.length ts) ∧ Hid (Below w.heap.size w wr)) (fun iv _ => ts.length + 1 - (intOf iv).toNat)
 case atStart => exact ⟨0, rfl, by omega, (fun i hi => by omega), HI, Below.refl _ _⟩
 case round =>
  obtain ⟨j, rfl, hj, HA, HT, HB⟩ := hrel
  clear HI
  by_cases hlt : (j : Int) + 1 < (ts.length : Int)
  ·
   obtain ⟨b, off, rfl, hbl, c0⟩ := HT.out.2 j (by omega)
   obtain ⟨b', off', he, _, c1⟩ := HT.out.2 (j + 1) (by omega)
   simp only [Option.some.injEq, Addr.mk.injEq, and_true] at he
   obtain ⟨rfl, rfl⟩ := he
   obtain ⟨x, hx⟩ : ∃ x, ts.getD j [] = x := ⟨_, rfl⟩
   obtain ⟨y, hy⟩ : ∃ y, ts.getD (j + 1) [] = y := ⟨_, rfl⟩
   rw [hx] at c0
   rw [hy] at c1
   rcases hle : leT y x with _ | _
   ·
    have HA2 : Hid (∀ i, i < j + 1 → leT (ts.getD (i + 1) []) (ts.getD i []) = false) := fun i hi => by
     rcases Nat.lt_or_ge i j with h | h
     ·
      exact HA.out i h
     ·
      obtain rfl : i = j := by omega
      rw [hx, hy]; exact hle
    have HT2 : Hid (TextsIn wr (some ⟨b, off, none⟩) ts.length ts) := HT.out
    unfold leT at hle
    clear HA HT hx hy
    go_wp2_with fail
    go_quiet (fail)
    go_wp2
    go_roundw
    case rel => exact ⟨j + 1, by go_num, by omega, HA2, HT2, HB.out.trans ⟨rfl, rfl, rfl, Nat.le_refl _, fun _ _ => rfl⟩⟩
    case measure => simp [intOf]; omega
   ·
    have HR : Hid (riseB ts = false) := riseB_no (j := j) (by omega) (by rw [hx, hy]; exact hle)
    unfold leT at hle
    clear HA HT hx hy
    go_wp2_with fail
    go_quiet (fail)
    go_wp2
    go_ret
    exact ⟨by rw [HR.out]; rfl, HB.out.trans ⟨rfl, rfl, rfl, Nat.le_refl _, fun _ _ => rfl⟩⟩
  ·
   have HR : Hid (riseB ts = true) := riseB_yes (j := j) (by omega) HA.out
   go_wp2
   go_ret
   exact ⟨by rw [HR.out]; rfl, HB.out⟩

set_option maxHeartbeats 2000000 in
set_option maxRecDepth 100000 in
theorem specImports (a : Option Addr) (len cap : Nat) (ts : List (List UInt8)) (w : World) (hin : TextsIn w a len ts) (hlen : len ≤ 1048576) (hs : ∀ i, (ts.getD i []).length ≤ 1048576) :
 Calls Tryz.prog 134 #[.slice a len cap] w fun e w' => e = .returned (.bool (importsB ts)) ∧ Below w.heap.size w w' := by
 obtain rfl : ts.length = len := hin.1
 have HI : Hid (TextsIn w a ts.length ts) := hin
 have HS : Hid (∀ i, (ts.getD i []).length ≤ 1048576) := hs
 clear hin hs
 go_enter Tryz.func134, Tryz.ntmps134
 go_wp2
 go_loopw [3] (fun iv wr => ∃ j : Nat, iv = .int .i64 (j : Int) ∧ j ≤ ts.length ∧ Hid (∀ i, i < j → nameB (ts.getD i []) = true) ∧ Hid (TextsIn wr a ts.length ts) ∧ Hid (Below w.heap.size w wr)) (fun iv _ => ts.length - (intOf iv).toNat)
 case atStart => exact ⟨0, rfl, by omega, (fun i hi => by omega), HI, Below.refl _ _⟩
 case round =>
  obtain ⟨j, rfl, hj, HA, HT, HB⟩ := hrel
  clear HI
  by_cases hlt : (j : Int) < (ts.length : Int)
  ·
   obtain ⟨b, off, rfl, hbl, c0⟩ := HT.out.2 j (by omega)
   have hxl := HS.out j
   obtain ⟨x, hx⟩ : ∃ x, ts.getD j [] = x := ⟨_, rfl⟩
   rw [hx] at c0 hxl
   have hC : Hid (_) := specNameOk x wr hxl
   rcases hnb : nameB x with _ | _
   ·
    have HR : Hid (importsB ts = false) := importsB_no (j := j) (by omega) (by rw [hx]; exact hnb)
    rw [hnb] at hC
    clear HA HT hx hnb
    go_wp2_with (go_at_call 59; refine Calls.mono hC.out ?_; rintro e w1 ⟨rfl, rfl⟩)
    go_ret
    exact ⟨by rw [HR.out]; rfl, HB.out⟩
   ·
    have HA2 : Hid (∀ i, i < j + 1 → nameB (ts.getD i []) = true) := fun i hi => by
     rcases Nat.lt_or_ge i j with h | h
     ·
      exact HA.out i h
     ·
      obtain rfl : i = j := by omega
      rw [hx]; exact hnb
    rw [hnb] at hC
    clear HA hx hnb
    go_wp2_with (go_at_call 59; refine Calls.mono hC.out ?_; rintro e w1 ⟨rfl, rfl⟩)
    go_roundw
    case rel => exact ⟨j + 1, by go_num, by omega, HA2, HT, HB⟩
    case measure => simp [intOf]; omega
  ·
   have hall := importsB_all (l := ts) (fun i hi => HA.out i (by omega))
   by_cases h6 : (ts.length : Int) ≤ 6
   ·
    have HR : Hid (importsB ts = riseB ts) := by
     exact (by rw [hall, decide_eq_true (show ts.length ≤ 6 by omega)]; rfl : importsB ts = riseB ts)
    have hC : Hid (_) := specRise a ts.length cap ts wr HT.out hlen
    clear hall HA HT
    go_wp2_with (go_at_call 162; refine Calls.mono hC.out ?_; rintro e w1 ⟨rfl, hb1⟩)
    go_ret
    exact ⟨by rw [HR.out]; rfl, HB.out.trans (hb1.mono HB.out.size)⟩
   ·
    have HR : Hid (importsB ts = false) := by
     exact (by rw [hall, decide_eq_false (show ¬ ts.length ≤ 6 by omega)]; rfl : importsB ts = false)
    clear hall HA HT
    go_wp2
    go_ret
    exact ⟨by rw [HR.out]; rfl, HB.out⟩

/-- A function, as a value. -/
def FnVal (f : Fn) (ta : Option Addr) (tl tc : Nat) : Value := .agg #[.string ⟨f.1.toArray⟩, .int .i64 f.2.1, .slice ta tl tc]

set_option maxHeartbeats 2000000 in
set_option maxRecDepth 100000 in
theorem specFuncOk (f : Fn) (ta : Option Addr) (tl tc : Nat) (w : World) (hin : NodesIn w ta tl f.2.2) (hsh : ShortT f.2.2) (hlen : tl ≤ 1048576) (hn : f.1.length ≤ 1048576) :
 Calls Tryz.prog 135 #[.agg #[.string ⟨f.1.toArray⟩, .int .i64 f.2.1, .slice ta tl tc]] w fun e w' => e = .returned (.bool (funcB f)) ∧ Below w.heap.size w w' := by
 obtain ⟨s, n, t⟩ := f
 simp only at hin hsh hn ⊢
 obtain ⟨W, hW⟩ : ∃ W, w.alloc (.cells #[.string ⟨s.toArray⟩, .int .i64 n, .slice ta tl tc] 82) = W := ⟨_, rfl⟩
 have hbW : Below w.heap.size w W := by rw [← hW]; exact (Below.refl _ _).alloc (Nat.le_refl _) _
 have hA : W.heap[w.heap.size]? = some (.cells #[.string ⟨s.toArray⟩, .int .i64 n, .slice ta tl tc] 82) := by rw [← hW]; exact heap_alloc_new w _
 have c0 : W.cell? ⟨w.heap.size, 0, none⟩ = some (.string ⟨s.toArray⟩) := by simp [World.cell?, hA]
 have c1 : W.cell? ⟨w.heap.size, 1, none⟩ = some (.int .i64 n) := by simp [World.cell?, hA]
 have c2 : W.cell? ⟨w.heap.size, 2, none⟩ = some (.slice ta tl tc) := by simp [World.cell?, hA]
 have hC1 : Hid (_) := specNameOk s W hn
 have hC2 : Hid (_) := specIn n 0 3 W
 have hC3 : Hid (_) := specTreeOk ta tl tc t W (hin.below hbW) hsh hlen
 have HF : Hid (funcB (s, n, t) = (nameB s && (inB n 0 3 && treeB t))) := rfl
 generalize nameB s = nb at hC1 HF
 generalize inB n 0 3 = ib at hC2 HF
 generalize treeB t = tb at hC3 HF
 clear hin hsh hA
 go_enter Tryz.func135, Tryz.ntmps135
 rcases nb with _ | _
 ·
  go_wp2_with (go_at_call 59; refine Calls.mono hC1.out ?_; rintro e w1 ⟨rfl, rfl⟩)
  go_ret
  exact ⟨by rw [HF.out]; rfl, hbW⟩
 ·
  rcases ib with _ | _
  ·
   go_wp2_with (first | (go_at_call 59; refine Calls.mono hC1.out ?_; rintro e w1 ⟨rfl, rfl⟩) | (go_at_call 57; refine Calls.mono hC2.out ?_; rintro e w1 ⟨rfl, rfl⟩))
   go_ret
   exact ⟨by rw [HF.out]; rfl, hbW⟩
  ·
   go_wp2_with (first | (go_at_call 59; refine Calls.mono hC1.out ?_; rintro e w1 ⟨rfl, rfl⟩) | (go_at_call 57; refine Calls.mono hC2.out ?_; rintro e w1 ⟨rfl, rfl⟩) | (go_at_call 163; refine Calls.mono hC3.out ?_; rintro e w2 ⟨rfl, hb2⟩))
   go_ret
   exact ⟨by rw [HF.out]; rfl, hbW.trans (hb2.mono hbW.size)⟩

end Go.Proofs.YtdoghjpjepolbaaGreatDoor

/-! The contracts of chapter 7's specification: l7At, PackageOk. -/
namespace Go.Proofs.YtdoghjpjepolbaaGreatDoor
open Go.RowKit

/-- The functions fs lie at a, three cells each, their trees where those say. -/
def FuncsIn (w : World) (a : Option Addr) (len : Nat) (fs : List Fn) : Prop :=
 fs.length = len ∧ ∀ j, j < len → ∃ b off, a = some ⟨b, off, none⟩ ∧ b < w.heap.size ∧ w.cell? ⟨b, off + j * 3, none⟩ = some (.string ⟨(fs.getD j fn0).1.toArray⟩) ∧ w.cell? ⟨b, off + j * 3 + 1, none⟩ = some (.int .i64 (fs.getD j fn0).2.1) ∧
  ∃ ta tl tc, w.cell? ⟨b, off + j * 3 + 2, none⟩ = some (.slice ta tl tc) ∧ (ta = none → tc = 0) ∧ NodesIn w ta tl (fs.getD j fn0).2.2

theorem FuncsIn.below {w w' : World} {a : Option Addr} {len : Nat} {fs : List Fn} (h : FuncsIn w a len fs) (hb : Below w.heap.size w w') : FuncsIn w' a len fs := by
 refine ⟨h.1, fun j hj => ?_⟩
 obtain ⟨b, off, e, hlt, c0, c1, ta, tl, tc, c2, hnc, hn⟩ := h.2 j hj
 exact ⟨b, off, e, Nat.lt_of_lt_of_le hlt hb.size, (hb.cell (p := ⟨b, off + j * 3, none⟩) hlt).trans c0, (hb.cell (p := ⟨b, off + j * 3 + 1, none⟩) hlt).trans c1, ta, tl, tc, (hb.cell (p := ⟨b, off + j * 3 + 2, none⟩) hlt).trans c2, hnc, hn.below hb⟩

/-- No name, no tree is longer than a law lets them be. -/
def ShortF (fs : List Fn) : Prop := ∀ j, (fs.getD j fn0).1.length ≤ 1048576 ∧ (fs.getD j fn0).2.2.length ≤ 1048576 ∧ ShortT (fs.getD j fn0).2.2

set_option maxHeartbeats 2000000 in
set_option maxRecDepth 100000 in
theorem specAt (nm s : List UInt8) (ia : Option Addr) (il ic : Nat) (fa : Option Addr) (fl fc : Nat) (fs : List Fn) (w : World) (hin : FuncsIn w fa fl fs) (hlen : fl ≤ 1048576) :
 Calls Tryz.prog 109 #[.agg #[.string ⟨nm.toArray⟩, .slice ia il ic, .slice fa fl fc], .string ⟨s.toArray⟩] w fun e w' => e = .returned (.int .i64 (atV fs s)) ∧ Below w.heap.size w w' := by
 obtain rfl : fs.length = fl := hin.1
 obtain ⟨W, hW⟩ : ∃ W, w.alloc (.cells #[.string ⟨nm.toArray⟩, .slice ia il ic, .slice fa fs.length fc] 48) = W := ⟨_, rfl⟩
 have hbW : Below w.heap.size w W := by rw [← hW]; exact (Below.refl _ _).alloc (Nat.le_refl _) _
 have hA : W.heap[w.heap.size]? = some (.cells #[.string ⟨nm.toArray⟩, .slice ia il ic, .slice fa fs.length fc] 48) := by rw [← hW]; exact heap_alloc_new w _
 have k2 : W.cell? ⟨w.heap.size, 2, none⟩ = some (.slice fa fs.length fc) := by simp [World.cell?, hA]
 have HI : Hid (FuncsIn W fa fs.length fs) := hin.below hbW
 clear hin hA
 go_enter Tryz.func109, Tryz.ntmps109
 go_wp2
 go_loopw [5] (fun iv wr => ∃ j : Nat, iv = .int .i64 (j : Int) ∧ j ≤ fs.length ∧ Hid (atV fs s = atGo s (fs.drop j) j) ∧ wr = W) (fun iv _ => fs.length - (intOf iv).toNat)
 case atStart => exact ⟨0, rfl, by omega, (rfl : atV fs s = atGo s (fs.drop 0) 0), rfl⟩
 case round =>
  obtain ⟨j, rfl, hj, HA, rfl⟩ := hrel
  by_cases hlt : (j : Int) < (fs.length : Int)
  ·
   obtain ⟨b, off, rfl, hbl, c0, _⟩ := HI.out.2 j (by omega)
   have hg := atGo_drop (fs := fs) (k := j) (by omega) s
   obtain ⟨x, hx⟩ : ∃ x, (fs.getD j fn0).1 = x := ⟨_, rfl⟩
   rw [hx] at c0 hg
   by_cases hxs : x = s
   ·
    subst hxs
    have HR : Hid (atV fs x = (j : Int)) := by exact (by rw [HA.out, hg, if_pos rfl] : atV fs x = (j : Int))
    have hself : (x == x) = true := by simp
    clear HA hg hx
    go_wp2
    go_ret
    exact ⟨by rw [HR.out]; rfl, hbW⟩
   ·
    have HR : Hid (atV fs s = atGo s (fs.drop (j + 1)) (j + 1)) := by exact (by rw [HA.out, hg, if_neg hxs] : atV fs s = atGo s (fs.drop (j + 1)) (j + 1))
    have hne : (x == s) = false := by rw [beq_eq_false_iff_ne]; exact hxs
    clear HA hg hx
    go_wp2
    go_roundw
    case rel => exact ⟨j + 1, by go_num, by omega, HR, trivial⟩
    case measure => simp [intOf]; omega
  ·
   have HR : Hid (atV fs s = -1) := by exact (by rw [HA.out, List.drop_of_length_le (by omega)]; rfl : atV fs s = -1)
   go_wp2
   go_ret
   exact ⟨by rw [HR.out]; rfl, hbW⟩

end Go.Proofs.YtdoghjpjepolbaaGreatDoor
