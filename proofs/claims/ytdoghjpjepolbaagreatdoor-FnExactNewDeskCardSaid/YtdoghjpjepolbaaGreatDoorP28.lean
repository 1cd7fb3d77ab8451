/-
  Parts of one proof, one behind the other: Math18N, IntsL, NumsL, TaskS2, RtU, TkO, TkL, TkT.
-/
import Derived.Test.YtdoghjpjepolbaaGreatDoorP27
import Derived.Test.YtdoghjpjepolbaaGreatDoorP5
import Derived.Test.YtdoghjpjepolbaaGreatDoorP1
import Derived.Test.YtdoghjpjepolbaaGreatDoorP13
import Derived.Test.YtdoghjpjepolbaaGreatDoorP11
import Derived.Deep.RegionHeld3
import Derived.Deep.Cut
import Derived.BigQuiet

/-! Plain facts of chapter 18: the tasks of a project in which nothing is wrong; the new desk. -/
namespace Go.Proofs.YtdoghjpjepolbaaGreatDoor
open Go.RowKit

/-! Each is behind all that it imports. -/
def ord18 (ps : List Pk) (x : List UInt8) : Nat := (order8 ps).idxOf x
theorem takeW_idx {out : List (List UInt8)} {m x : List UInt8} : m ∈ out.takeWhile (fun y => decide (y ≠ x)) → out.idxOf m < out.idxOf x := by
 induction out with
 | nil => intro h; simp at h
 | cons a r ih =>
  intro h
  rw [List.takeWhile_cons] at h
  by_cases ha : a = x
  ·
   rw [if_neg (by simpa using ha)] at h; simp at h
  ·
   rw [if_pos (by simpa using ha)] at h
   rw [List.idxOf_cons, List.idxOf_cons]
   have hax : (a == x) = false := beq_eq_false_iff_ne.2 ha
   rw [hax]
   rcases List.mem_cons.1 h with e | h
   ·
    subst e; simp
   ·
    by_cases hm : a = m
    ·
     subst hm; simp
    ·
     have hmm : (a == m) = false := beq_eq_false_iff_ne.2 hm
     rw [hmm]
     have := ih h
     simp only [cond_false]
     omega
theorem idx_pair {out : List (List UInt8)} (h : out.Nodup) : out.Pairwise (fun a b => out.idxOf a < out.idxOf b) := by
 rw [List.pairwise_iff_getElem]
 intro i j hi hj hij
 rw [List.Nodup.idxOf_getElem h i hi, List.Nodup.idxOf_getElem h j hj]
 exact hij
structure Clean18 (ps : List Pk) : Prop where
 p : projB ps = true
 len : (order8 ps).length = ps.length
 here : ∀ p ∈ ps, ∀ m ∈ p.2.1, m ∈ names8 ps
 main : mainT ∈ names8 ps
theorem clean18_of {ps : List Pk} (h0 : (faultV ps).1 = 0) : Clean18 ps := by
 obtain ⟨_, hp, hl, hh, _, hm, _⟩ := faultV_zero h0
 exact ⟨hp, hl, hh, (at8_mem ps mainT).1 hm⟩
section
variable {ps : List Pk} (C : Clean18 ps)
include C
theorem Clean18.all (x : List UInt8) (hx : x ∈ names8 ps) : x ∈ order8 ps := by
 have ho := (order8_end C.p).1
 have hn := (projB_parts C.p).1.nodup
 exact same_mem ho.nd (fun y hy => ho.sub y hy) (by rw [C.len]; simp [names8]) x hx
theorem Clean18.ahead {p : Pk} (hp : p ∈ ps) {m : List UInt8} (hm : m ∈ p.2.1) : ord18 ps m < ord18 ps p.1 := by
 have h1 := C.all p.1 (List.mem_map_of_mem hp)
 exact takeW_idx ((order8_law C.p hp).1 h1 m hm (C.here p hp m hm))
theorem Clean18.last : ∀ (n : Nat) (x : List UInt8), x ∈ reach8 ps mainT → (order8 ps).length - ord18 ps x < n → x = mainT ∨ ord18 ps x < ord18 ps mainT
 | 0, _, _, h => absurd h (Nat.not_lt_zero _)
 | n + 1, x, hx, h => by
  have hr := (reach8_end C.main).1
  rcases hr.why x hx with e | ⟨p, hp, hpo, hxp⟩
  ·
   exact Or.inl e
  ·
   have ha := C.ahead hp hxp
   have hb : ord18 ps p.1 < (order8 ps).length := List.idxOf_lt_length_of_mem (C.all p.1 (List.mem_map_of_mem hp))
   rcases Clean18.last n p.1 hpo (by omega) with e | e
   ·
    rw [e] at ha; exact Or.inr ha
   ·
    exact Or.inr (by omega)
end
def parts18 (ps : List Pk) : List (List UInt8) := need8 ps mainT ++ [mainT]
theorem parts18_pair {ps : List Pk} (C : Clean18 ps) : (parts18 ps).Pairwise (fun a b => ord18 ps a < ord18 ps b) := by
 have ho := (order8_end C.p).1
 unfold parts18
 rw [List.pairwise_append]
 refine ⟨(idx_pair ho.nd).sublist List.filter_sublist, List.pairwise_singleton _ _, fun a ha b hb => ?_⟩
 rw [List.mem_singleton] at hb
 subst hb
 unfold need8 at ha
 rw [List.mem_filter, decide_eq_true_eq] at ha
 rcases C.last _ a ha.2.2 (Nat.lt_succ_self _) with e | e
 ·
  exact absurd e ha.2.1
 ·
  exact e
theorem parts18_sub {ps : List Pk} (C : Clean18 ps) : ∀ x ∈ parts18 ps, x ∈ names8 ps := fun x hx => by
 unfold parts18 at hx
 rcases List.mem_append.1 hx with h | h
 ·
  unfold need8 at h
  exact (order8_end C.p).1.sub x (List.mem_filter.1 h).1
 ·
  rw [List.mem_singleton] at h; rw [h]; exact C.main
theorem parts18_nodup {ps : List Pk} (C : Clean18 ps) : (parts18 ps).Nodup := (parts18_pair C).imp (fun {a b} h e => by subst e; omega)
theorem parts18_len {ps : List Pk} (C : Clean18 ps) : 1 ≤ (parts18 ps).length ∧ (parts18 ps).length ≤ 8 := by
 have h1 := (parts18_nodup C).length_le_of_subset (fun x hx => parts18_sub C x hx)
 have h2 := (projB_parts C.p).2.1
 simp only [names8, List.length_map] at h1
 refine ⟨by unfold parts18; simp, by omega⟩
theorem pkOf_name {ps : List Pk} {s : List UInt8} (hs : s ∈ names8 ps) : pkOf ps s ∈ ps ∧ (pkOf ps s).1 = s := by
 have h := (at8_mem ps s).2 hs
 unfold pkOf at8 at *
 have key : ∀ (l : List Pk) (k : Nat), 0 ≤ at8Go s l k → (k : Int) ≤ at8Go s l k ∧ at8Go s l k < k + l.length ∧ (l.getD ((at8Go s l k).toNat - k) pk0).1 = s := by
  intro l
  induction l with
  | nil => intro k h; simp [at8Go] at h
  | cons a r ih =>
   intro k h
   unfold at8Go at h ⊢
   split
   ·
    rename_i e
    exact ⟨by omega, by simp; omega, by simp [e]⟩
   ·
    rename_i e
    rw [if_neg e] at h
    obtain ⟨h1, h2, h3⟩ := ih (k + 1) h
    refine ⟨by omega, by simp; omega, ?_⟩
    have e2 : (at8Go s r (k + 1)).toNat - k = ((at8Go s r (k + 1)).toNat - (k + 1)) + 1 := by omega
    rw [e2, List.getD_cons_succ]
    exact h3
 obtain ⟨h1, h2, h3⟩ := key ps 0 h
 rw [Nat.sub_zero] at h3
 refine ⟨?_, h3⟩
 rw [List.getD_eq_getElem?_getD, List.getElem?_eq_getElem (by omega)]
 exact List.getElem_mem (by omega)

/-! What a part needs. -/
def nums18 (os ims : List (List UInt8)) (n : Nat) : List Int := ((List.range n).filter (fun k : Nat => decide (os.getD k [] ∈ ims))).map (fun k : Nat => ((k : Nat) : Int))
theorem nums18_all {ps : List Pk} (C : Clean18 ps) {i : Nat} (hi : i < (parts18 ps).length) : nums18 (parts18 ps) (pkOf ps ((parts18 ps).getD i [])).2.1 (parts18 ps).length = nums18 (parts18 ps) (pkOf ps ((parts18 ps).getD i [])).2.1 i := by
 obtain ⟨d, hd⟩ : ∃ d, (parts18 ps).length = i + d := ⟨_, (Nat.add_sub_cancel' (Nat.le_of_lt hi)).symm⟩
 unfold nums18
 rw [hd, List.range_add, List.filter_append, List.map_append]
 have hn : ((List.range d).map (fun x => i + x)).filter (fun k => decide ((parts18 ps).getD k [] ∈ (pkOf ps ((parts18 ps).getD i [])).2.1)) = [] := by
  rw [List.filter_eq_nil_iff]
  intro k hk
  obtain ⟨j, hj, rfl⟩ := List.mem_map.1 hk
  rw [List.mem_range] at hj
  rw [decide_eq_true_eq]
  intro hm
  have hgi : (parts18 ps).getD i [] = (parts18 ps)[i] := by simp [List.getD, hi]
  have hgk : (parts18 ps).getD (i + j) [] = (parts18 ps)[i + j]'(by omega) := by simp [List.getD, show i + j < (parts18 ps).length by omega]
  obtain ⟨hp, hpn⟩ := pkOf_name (parts18_sub C _ (List.getElem_mem hi))
  rw [hgi] at hm
  have ha := C.ahead hp hm
  rw [hpn, hgk] at ha
  rcases Nat.eq_zero_or_pos j with e | e
  ·
   subst e; simp at ha
  ·
   have := List.pairwise_iff_getElem.1 (parts18_pair C) i (i + j) hi (by omega) (by omega)
   omega
 rw [hn]
 simp
theorem nums18_ok (os ims : List (List UInt8)) (i : Nat) : needsB (i : Int) (nums18 os ims i) = true := by
 refine needsB_yes (fun j hj => ?_)
 have hp : (nums18 os ims i).Pairwise (fun a b => a < b) := by
  unfold nums18
  rw [List.pairwise_map]
  exact (List.pairwise_lt_range.sublist List.filter_sublist).imp (fun h => by omega)
 have hm : ∀ x ∈ nums18 os ims i, 0 ≤ x ∧ x < (i : Int) := fun x hx => by
  obtain ⟨k, hk, rfl⟩ := List.mem_map.1 hx
  have := List.mem_range.1 (List.mem_filter.1 hk).1
  omega
 have hg : ∀ k (hk : k < (nums18 os ims i).length), (nums18 os ims i).getD k 0 = (nums18 os ims i)[k] := fun k hk => by simp [List.getD, hk]
 unfold need18
 rw [hg j hj]
 obtain ⟨h0, h1⟩ := hm _ (List.getElem_mem hj)
 refine ⟨h0, h1, fun h => ?_⟩
 rw [hg (j - 1) (by omega)]
 exact List.pairwise_iff_getElem.1 hp (j - 1) j (by omega) hj (by omega)

/-! The new desk. -/
def startL (n : Int) : List UInt8 := framedS ([115, 116, 97, 114, 116, 32] ++ intL n)
def task18N (ps : List Pk) (i : Nat) : Ta := ((parts18 ps).getD i [], nums18 (parts18 ps) (pkOf ps ((parts18 ps).getD i [])).2.1 i, 0, 0, 0, 0)
def tasks18 (ps : List Pk) : List Ta := (List.range (parts18 ps).length).map (task18N ps)
def newV (ps : List Pk) : Dk × Bool := if (faultV ps).1 = 0 then ((tasks18 ps, 1, 0, startL 1), true) else (dk0, false)
theorem tasks18_at {ps : List Pk} {i : Nat} (hi : i < (parts18 ps).length) : (tasks18 ps).getD i ta0 = task18N ps i := by
 unfold tasks18; simp [List.getD, hi]
theorem startL_len {n : Int} (h0 : -9223372036854775808 ≤ n) (h1 : n ≤ 9223372036854775807) : (startL n).length ≤ 1000 := by
 have h := digL_len 19 n.natAbs (by omega)
 have hi : (intL n).length ≤ 21 := by
  unfold intL
  split
  ·
   simp only [List.length_cons]; omega
  ·
   omega
 unfold startL
 rw [framedS_yes _ (by simp only [List.length_append, List.length_cons, List.length_nil]; omega)]
 have h8 : ∀ n, (hexL n).length = 8 := fun _ => rfl
 unfold framedL
 simp only [List.length_append, List.length_cons, List.length_nil, h8]
 omega
theorem new18_ok {ps : List Pk} (h0 : (faultV ps).1 = 0) : deskB (tasks18 ps, 1, 0, startL 1) = true := by
 have C := clean18_of h0
 have hl : (tasks18 ps).length = (parts18 ps).length := by unfold tasks18; simp
 have h8 := parts18_len C
 have hj := startL_len (n := 1) (by omega) (by omega)
 refine deskB_iff.2 ⟨by show 1 ≤ (tasks18 ps).length ∧ (tasks18 ps).length ≤ 8; omega, by show (1 : Int) ≤ 1 ∧ (1 : Int) ≤ 1000; omega, by show (0 : Int) ≤ 0 ∧ (0 : Int) ≤ 1000000; omega, by show (startL 1).length ≤ 60000; omega, fun i hi => ?_⟩
 have hi : i < (parts18 ps).length := by rw [← hl]; exact hi
 have hgi : ∀ k (hk : k < (parts18 ps).length), (parts18 ps).getD k [] = (parts18 ps)[k] := fun k hk => by simp [List.getD, hk]
 unfold one18
 show nameB ((tasks18 ps).getD i ta0).1 = true ∧ taskB (i : Int) ((tasks18 ps).getD i ta0) = true ∧ ∀ k, k < i → ((tasks18 ps).getD k ta0).1 ≠ ((tasks18 ps).getD i ta0).1
 rw [tasks18_at hi]
 refine ⟨?_, ?_, fun k hk => ?_⟩
 ·
  show nameB ((parts18 ps).getD i []) = true
  rw [hgi i hi]
  obtain ⟨hp, hn⟩ := pkOf_name (parts18_sub C _ (List.getElem_mem hi))
  have := (projB_parts C.p).2.2 _ hp
  rw [← hn]
  exact (pkgB_parts this).1
 ·
  unfold taskB
  rw [Bool.and_eq_true]
  exact ⟨nums18_ok _ _ i, rfl⟩
 ·
  rw [tasks18_at (by omega)]
  show (parts18 ps).getD k [] ≠ (parts18 ps).getD i []
  rw [hgi k (by omega), hgi i hi]
  intro e
  have := List.pairwise_iff_getElem.1 (parts18_pair C) k i (by omega) hi hk
  rw [e] at this
  omega

end Go.Proofs.YtdoghjpjepolbaaGreatDoor

/-! The laws' own helpers over rows of numbers: eqInt64S, markInt64S, heldInt64S, likeInts. -/
namespace Go.Proofs.YtdoghjpjepolbaaGreatDoor
open Go.RowKit

theorem intsV_at (l : List Int) (j : Nat) (h : j < l.length) : (intsV l)[j]? = some (.int .i64 l[j]) := by
 unfold intsV; rw [List.getElem?_map, List.getElem?_eq_getElem h]; rfl

/-- The marks from k on. -/
def marksI (k : Nat) : Nat → List Int
 | 0 => []
 | n + 1 => marksI k n ++ [((k + n : Nat) : Int)]
theorem marksI_len (k n : Nat) : (marksI k n).length = n := by
 induction n with
 | zero => rfl
 | succ n ih => simp [marksI, ih]
theorem marksI_at (k n j : Nat) (h : j < n) : (intsV (marksI k n))[j]? = some (.int .i64 ((k + j : Nat) : Int)) := by
 induction n with
 | zero => omega
 | succ n ih =>
  unfold marksI
  rw [intsV_append]
  by_cases hj : j < n
  ·
   rw [List.getElem?_append_left (by rw [intsV_len, marksI_len]; exact hj)]; exact ih hj
  ·
   obtain rfl : j = n := by omega
   rw [List.getElem?_append_right (by rw [intsV_len, marksI_len]; omega), intsV_len, marksI_len]
   simp [intsV]
theorem marksI_set (k i : Nat) (xs : List Value) (h : i < xs.length) : (intsV (marksI k i) ++ xs.drop i).set i (.int .i64 ((k + i : Nat) : Int)) = intsV (marksI k (i + 1)) ++ xs.drop (i + 1) := by
 rw [List.set_append, if_neg (by rw [intsV_len, marksI_len]; omega), intsV_len, marksI_len, Nat.sub_self]
 rw [List.drop_eq_getElem_cons h, List.set_cons_zero]
 conv => rhs; unfold marksI
 rw [intsV_append, List.append_assoc]; rfl

set_option maxHeartbeats 1000000 in
set_option maxRecDepth 100000 in
theorem markIntC (w : World) (base g cp n k0 : Nat) (xs : List Value) (hn : n ≤ 1100000) (hk1 : k0 ≤ 30000000)
 (h : w.ownsRow base 2 1 (.slice (some ⟨g, 0, none⟩) n cp) n xs) :
 Calls Tryz.prog 50 #[.slice (some ⟨g, 0, none⟩) n cp, .int .i64 k0] w fun e w' => e = .returned (.int .i64 ((k0 + n : Nat) : Int)) ∧ w'.ownsRow base 2 1 (.slice (some ⟨g, 0, none⟩) n cp) n (intsV (marksI k0 n)) ∧ w.grownBy w' (some g) := by
 have hxl : Hid (xs.length = n) := by exact (by have := h.1; omega : xs.length = n)
 have hgl : g < w.heap.size := (h.lt g rfl).2
 go_enter Tryz.func50, Tryz.ntmps50
 go_wp2
 go_loopw [1, 5] (fun k i wr => ∃ m : Nat, m ≤ n ∧ i = .int .i64 m ∧ k = .int .i64 ((k0 + m : Nat) : Int) ∧ wr.ownsRow base 2 1 (.slice (some ⟨g, 0, none⟩) n cp) n (intsV (marksI k0 m) ++ xs.drop m) ∧ w.grownBy wr (some g)) (fun _ i _ => n - (intOf i).toNat)
 case atStart => exact ⟨0, Nat.zero_le _, rfl, rfl, h, World.grownBy.refl _ _⟩
 case round =>
  obtain ⟨m, hm, rfl, rfl, hown, hg⟩ := hrel
  by_cases hlt : m < n
  ·
   have hc1 : ∃ u, wr.cell? ⟨g, m, none⟩ = some u := by
    rw [hown.cellAt m (by omega)]
    have hl : m < (intsV (marksI k0 m) ++ xs.drop m).length := by rw [List.length_append, intsV_len, marksI_len, List.length_drop]; have := hxl.out; omega
    exact ⟨_, List.getElem?_eq_getElem hl⟩
   obtain ⟨u, hc1⟩ := hc1
   have hf1 := hown.frozenAt m
   have hst := hown.stored m (.int .i64 ((k0 + m : Nat) : Int))
   rw [marksI_set k0 m xs (by have := hxl.out; omega)] at hst
   have hst2 := hg.trans hst.2
   have hst1 := hst.1
   clear hown hst hg
   go_wp2
   go_roundw
   case rel => exact ⟨m + 1, by omega, by go_num, by go_num, hst1, hst2⟩
   case measure => simp [intOf]; omega
  ·
   obtain rfl : m = n := by omega
   have hd : xs.drop m = [] := List.drop_eq_nil_of_le (by have := hxl.out; omega)
   rw [hd, List.append_nil] at hown
   clear hd
   go_wp2
   go_ret
   exact ⟨rfl, hown, hg⟩

set_option maxHeartbeats 400000 in
set_option maxRecDepth 100000 in
theorem markIntNil (w : World) (k0 : Nat) :
 Calls Tryz.prog 50 #[.slice none 0 0, .int .i64 k0] w fun e w' => e = .returned (.int .i64 (k0 : Int)) ∧ w' = w := by
 go_enter Tryz.func50, Tryz.ntmps50
 go_wp2
 refine wp_loop_rounds 1 ?_
 rw [rounds_succ]
 go_wp2
 go_ret
 exact ⟨rfl, rfl⟩

theorem markIntV (w : World) (base n k0 : Nat) (v : Value) (xs : List Value) (hn : n ≤ 1100000) (hk1 : k0 ≤ 30000000) (h : w.ownsRow base 2 1 v n xs) :
 Calls Tryz.prog 50 #[v, .int .i64 k0] w fun e w' => e = .returned (.int .i64 ((k0 + n : Nat) : Int)) ∧ w'.ownsRow base 2 1 v n (intsV (marksI k0 n)) ∧ w.grownBy w' v.ownBlock := by
 rcases own_forms h with ⟨rfl, rfl, rfl⟩ | ⟨g, cp, rfl⟩
 ·
  refine (markIntNil w k0).mono ?_
  rintro e w' ⟨rfl, rfl⟩
  exact ⟨rfl, h, World.grownBy.refl _ _⟩
 ·
  exact markIntC w base g cp n k0 xs hn hk1 h

set_option maxHeartbeats 1000000 in
set_option maxRecDepth 100000 in
theorem heldIntC (w : World) (base g cp n k0 : Nat) (hn : n ≤ 1100000) (hk1 : k0 ≤ 30000000)
 (h : w.ownsRow base 2 1 (.slice (some ⟨g, 0, none⟩) n cp) n (intsV (marksI k0 n))) :
 Calls Tryz.prog 51 #[.slice (some ⟨g, 0, none⟩) n cp, .int .i64 k0] w fun e w' => e = .returned (.int .i64 ((k0 + n : Nat) : Int)) ∧ w.grownBy w' none := by
 have hself : ∀ n : Int, (n != n) = false := by simp
 have HA : Hid (∀ j, j < n → w.cell? ⟨g, j, none⟩ = some (.int .i64 ((k0 + j : Nat) : Int))) := fun j hj => by rw [h.cellAt j (by omega), marksI_at k0 n j hj]
 clear h
 go_enter Tryz.func51, Tryz.ntmps51
 go_wp2
 go_loopw [1, 5] (fun k i wr => ∃ m : Nat, m ≤ n ∧ i = .int .i64 m ∧ k = .int .i64 ((k0 + m : Nat) : Int) ∧ w.grownBy wr none) (fun _ i _ => n - (intOf i).toNat)
 case atStart => exact ⟨0, Nat.zero_le _, rfl, rfl, World.grownBy.refl _ _⟩
 case round =>
  obtain ⟨m, hm, rfl, rfl, hg⟩ := hrel
  by_cases hlt : m < n
  ·
   have hca : wr.cell? ⟨g, m, none⟩ = some (.int .i64 ((k0 + m : Nat) : Int)) := hg.cell (HA.out m hlt) (by simp)
   obtain ⟨q, hq⟩ : ∃ q : Nat, k0 + m = q := ⟨_, rfl⟩
   have hq2 : q ≤ 31200000 := by omega
   have HQ : Hid (k0 + (m + 1) = q + 1) := by exact (by omega : k0 + (m + 1) = q + 1)
   rw [hq] at hca ⊢
   clear hq
   go_wp2
   go_roundw
   case rel => exact ⟨m + 1, by omega, by go_num, by rw [HQ.out]; go_num, hg⟩
   case measure => simp [intOf]; omega
  ·
   obtain rfl : m = n := by omega
   go_wp2
   go_ret
   exact ⟨rfl, hg⟩

set_option maxHeartbeats 400000 in
set_option maxRecDepth 100000 in
theorem heldIntNil (w : World) (k0 : Nat) :
 Calls Tryz.prog 51 #[.slice none 0 0, .int .i64 k0] w fun e w' => e = .returned (.int .i64 (k0 : Int)) ∧ w' = w := by
 go_enter Tryz.func51, Tryz.ntmps51
 go_wp2
 refine wp_loop_rounds 1 ?_
 rw [rounds_succ]
 go_wp2
 go_ret
 exact ⟨rfl, rfl⟩

theorem heldIntV (w : World) (base n k0 : Nat) (v : Value) (hn : n ≤ 1100000) (hk1 : k0 ≤ 30000000) (h : w.ownsRow base 2 1 v n (intsV (marksI k0 n))) :
 Calls Tryz.prog 51 #[v, .int .i64 k0] w fun e w' => e = .returned (.int .i64 ((k0 + n : Nat) : Int)) ∧ w.grownBy w' none := by
 rcases own_forms h with ⟨rfl, rfl, _⟩ | ⟨g, cp, rfl⟩
 ·
  refine (heldIntNil w k0).mono ?_
  rintro e w' ⟨rfl, rfl⟩
  exact ⟨rfl, World.grownBy.refl _ _⟩
 ·
  exact heldIntC w base g cp n k0 hn hk1 h


end Go.Proofs.YtdoghjpjepolbaaGreatDoor

/-! Numbers that came in, as the walks of chapter 10's laws take them; the exact laws' helper over such rows: toInt64S. -/
namespace Go.Proofs.YtdoghjpjepolbaaGreatDoor
open Go.ChangeShapes Go.WideShapes Go.ChangeAt Go.RowKit

/-- Numbers that can be read. -/
def AsIn (w : World) (a : Option Addr) (xs : List Int) : Prop := ∀ j, j < xs.length → ∃ b off, a = some ⟨b, off, none⟩ ∧ b < w.heap.size ∧ w.cell? ⟨b, off + j, none⟩ = some (.int .i64 (xs.getD j 0))
theorem AsIn.below {w w' : World} {a : Option Addr} {xs : List Int} (h : AsIn w a xs) (hb : Below w.heap.size w w') : AsIn w' a xs := fun j hj => by
 obtain ⟨b, off, e, hl, hc⟩ := h j hj
 exact ⟨b, off, e, Nat.lt_of_lt_of_le hl hb.size, (hb.cell (p := ⟨b, off + j, none⟩) hl).trans hc⟩

theorem info2 : (Tryz.prog.info? 2).map (fun i => (i.zero, i.size, i.bytes)) = some (some (.int .i64 0), 1, 8) := by kernel_rfl

/-- A row of numbers that a call owns is one that can be handed on. -/
theorem nums_as {w : World} {B g n cp : Nat} {xs : List Int} (h : w.ownsRow B 2 1 (.slice (some ⟨g, 0, none⟩) n cp) n (intsV xs)) (hn : xs.length = n) : AsIn w (some ⟨g, 0, none⟩) xs := fun j hj => by
 have hc := h.cellAt j (by omega)
 rw [intsV_at xs j hj] at hc
 refine ⟨g, 0, rfl, World.block_lt_of_cell? w ⟨g, j, none⟩ hc, ?_⟩
 rw [Nat.zero_add, hc]
 simp [List.getD, hj]


end Go.Proofs.YtdoghjpjepolbaaGreatDoor

/-! Contracts of chapter 18's specification: l18Time, l18Key, l18Task. -/
namespace Go.Proofs.YtdoghjpjepolbaaGreatDoor
open Go.RowKit

/-- The tasks ts lie at a, six cells each, their needs where those say. -/
def TasksIn (w : World) (a : Option Addr) (len : Nat) (ts : List Ta) : Prop :=
 ts.length = len ∧ ∀ j, j < len → ∃ b off, a = some ⟨b, off, none⟩ ∧ b < w.heap.size ∧ w.cell? ⟨b, off + j * 6, none⟩ = some (.string ⟨(ts.getD j ta0).1.toArray⟩) ∧
  (∃ na nc, w.cell? ⟨b, off + j * 6 + 1, none⟩ = some (.slice na (ts.getD j ta0).2.1.length nc) ∧ AsIn w na (ts.getD j ta0).2.1) ∧
  w.cell? ⟨b, off + j * 6 + 2, none⟩ = some (.int .i64 (ts.getD j ta0).2.2.1) ∧ w.cell? ⟨b, off + j * 6 + 3, none⟩ = some (.int .i64 (ts.getD j ta0).2.2.2.1) ∧
  w.cell? ⟨b, off + j * 6 + 4, none⟩ = some (.int .i64 (ts.getD j ta0).2.2.2.2.1) ∧ w.cell? ⟨b, off + j * 6 + 5, none⟩ = some (.int .i64 (ts.getD j ta0).2.2.2.2.2)
theorem TasksIn.below {w w' : World} {a : Option Addr} {len : Nat} {ts : List Ta} (h : TasksIn w a len ts) (hb : Below w.heap.size w w') : TasksIn w' a len ts := by
 refine ⟨h.1, fun j hj => ?_⟩
 obtain ⟨b, off, e, hlt, c0, ⟨na, nc, c1, hn⟩, c2, c3, c4, c5⟩ := h.2 j hj
 exact ⟨b, off, e, Nat.lt_of_lt_of_le hlt hb.size, (hb.cell (p := ⟨b, off + j * 6, none⟩) hlt).trans c0, ⟨na, nc, (hb.cell (p := ⟨b, off + j * 6 + 1, none⟩) hlt).trans c1, hn.below hb⟩,
  (hb.cell (p := ⟨b, off + j * 6 + 2, none⟩) hlt).trans c2, (hb.cell (p := ⟨b, off + j * 6 + 3, none⟩) hlt).trans c3, (hb.cell (p := ⟨b, off + j * 6 + 4, none⟩) hlt).trans c4, (hb.cell (p := ⟨b, off + j * 6 + 5, none⟩) hlt).trans c5⟩
/-- No name, no row of needs is longer than a law lets them be. -/
def ShortTa (ts : List Ta) : Prop := ∀ j, (ts.getD j ta0).1.length ≤ 1048576 ∧ (ts.getD j ta0).2.1.length ≤ 1048576

end Go.Proofs.YtdoghjpjepolbaaGreatDoor

/-! What the writing of several blocks leaves; rows that lie apart; blocks of three cells. -/
namespace Go.Proofs.YtdoghjpjepolbaaGreatDoor
open Go.RowKit

/-- Of what was there nothing but the blocks of S was written. -/
structure WroteR (w w' : World) (S : Nat → Prop) : Prop where
 os : w'.os = w.os
 tape : w'.tape = w.tape
 output : w'.output = w.output
 size : w.heap.size ≤ w'.heap.size
 block : ∀ k, k < w.heap.size → ¬ S k → w'.heap[k]? = w.heap[k]?

theorem WroteR.refl (w : World) (S : Nat → Prop) : WroteR w w S := ⟨rfl, rfl, rfl, Nat.le_refl _, fun _ _ _ => rfl⟩
theorem WroteR.trans {a b c : World} {S : Nat → Prop} (h : WroteR a b S) (k : WroteR b c S) : WroteR a c S :=
 ⟨k.os.trans h.os, k.tape.trans h.tape, k.output.trans h.output, Nat.le_trans h.size k.size, fun i hi hs => (k.block i (Nat.lt_of_lt_of_le hi h.size) hs).trans (h.block i hi hs)⟩
theorem WroteR.mono {w w' : World} {S T : Nat → Prop} (h : WroteR w w' S) (hs : ∀ k, S k → T k) : WroteR w w' T := ⟨h.os, h.tape, h.output, h.size, fun k hk hn => h.block k hk (fun e => hn (hs k e))⟩
theorem WroteR.of_grown {w w' : World} {row : Option Nat} {S : Nat → Prop} (h : w.grownBy w' row) (hs : ∀ k, row = some k → S k) : WroteR w w' S :=
 ⟨h.os, h.tape, h.output, h.size, fun k hk hn => h.block k hk (fun e => hn (hs k e.symm))⟩
theorem WroteR.of_below {w w' : World} {S : Nat → Prop} (h : Below w.heap.size w w') : WroteR w w' S := ⟨h.os, h.tape, h.output, h.size, fun k hk _ => h.block k hk⟩
theorem WroteR.below {w w' : World} {S : Nat → Prop} {B : Nat} (h : WroteR w w' S) (hB : B ≤ w.heap.size) (hs : ∀ k, S k → B ≤ k) : Below B w w' :=
 ⟨h.os, h.tape, h.output, h.size, fun k hk => h.block k (Nat.lt_of_lt_of_le hk hB) (fun e => by have := hs k e; omega)⟩
/-- The trees lie apart, one by one. -/
def ApartR (vs : List Value) : Prop := vs.Pairwise (fun a b => a.ownBlock = none ∨ a.ownBlock ≠ b.ownBlock)
theorem ApartR.ne {vs : List Value} (h : ApartR vs) {i j : Nat} (hi : i < vs.length) (hj : j < vs.length) (hij : i ≠ j) : vs[i].ownBlock = none ∨ vs[i].ownBlock ≠ vs[j].ownBlock := by
 rcases Nat.lt_or_gt_of_ne hij with hl | hl
 ·
  exact List.pairwise_iff_getElem.1 h i j hi hj hl
 ·
  rcases List.pairwise_iff_getElem.1 h j i hj hi hl with e | e
  ·
   rw [e]; cases vs[i].ownBlock <;> simp
  ·
   exact Or.inr (fun e2 => e e2.symm)

theorem ApartR.nil : ApartR [] := List.Pairwise.nil
theorem ApartR.snoc {vs : List Value} {u : Value} (h : ApartR vs) (hu : ∀ v ∈ vs, v.ownBlock = none ∨ v.ownBlock ≠ u.ownBlock) : ApartR (vs ++ [u]) :=
 List.pairwise_append.2 ⟨h, List.pairwise_singleton _ _, fun a ha b hb => by rw [List.mem_singleton] at hb; subst hb; exact hu a ha⟩
/-- A row that is owned above a block does not lie in it. -/
theorem own_offR {w : World} {base e size n R : Nat} {v : Value} {xs : List Value} (h : w.ownsRow base e size v n xs) (hR : R < base) : v.ownBlock = none ∨ v.ownBlock ≠ some R := by
 rcases hv : v.ownBlock with _ | k
 ·
  exact Or.inl rfl
 ·
  refine Or.inr (fun e => ?_)
  have := (h.lt k hv).1
  injection e with e
  omega

/-- Rows of elements of two types lie in two blocks. -/
theorem own_typesR {w : World} {b1 b2 e1 e2 s1 s2 n1 n2 : Nat} {v1 v2 : Value} {xs ys : List Value} (h1 : w.ownsRow b1 e1 s1 v1 n1 xs) (h2 : w.ownsRow b2 e2 s2 v2 n2 ys) (he : e1 ≠ e2) : v1.ownBlock = none ∨ v1.ownBlock ≠ v2.ownBlock := by
 rcases h1.2 with ⟨rfl, _⟩ | ⟨g, c, cur, rfl, _, hg, _⟩
 ·
  exact Or.inl rfl
 ·
  rcases h2.2 with ⟨rfl, _⟩ | ⟨g2, c2, cur2, rfl, _, hg2, _⟩
  ·
   exact Or.inr (by simp [Value.ownBlock])
  ·
   refine Or.inr (fun e => ?_)
   simp only [Value.ownBlock, Option.some.injEq] at e
   subst e
   rw [hg] at hg2
   simp only [Option.some.injEq, Obj.cells.injEq] at hg2
   exact he hg2.2.1

theorem add_plainR (b off i : Nat) : (⟨b, off, none⟩ : Addr).add i = ⟨b, off + i, none⟩ := by unfold Addr.add; split <;> simp_all

end Go.Proofs.YtdoghjpjepolbaaGreatDoor

/-! Tasks that a call has made: each with its needs in a row of its own. -/
namespace Go.Proofs.YtdoghjpjepolbaaGreatDoor
open Go.RowKit

/-- A task, and where its needs lie. -/
abbrev TV := Ta × Option Addr × Nat
def tvT (x : TV) : Value := .slice x.2.1 x.1.2.1.length x.2.2
def tkV (x : TV) : List Value := [.string ⟨x.1.1.toArray⟩, tvT x, .int .i64 x.1.2.2.1, .int .i64 x.1.2.2.2.1, .int .i64 x.1.2.2.2.2.1, .int .i64 x.1.2.2.2.2.2]
def tksV : List TV → List Value
 | [] => []
 | x :: r => .string ⟨x.1.1.toArray⟩ :: tvT x :: .int .i64 x.1.2.2.1 :: .int .i64 x.1.2.2.2.1 :: .int .i64 x.1.2.2.2.2.1 :: .int .i64 x.1.2.2.2.2.2 :: tksV r
def tv0 : TV := (ta0, none, 0)

theorem tksV_append (x y : List TV) : tksV (x ++ y) = tksV x ++ tksV y := by
 induction x with
 | nil => rfl
 | cons n r ih => simp [tksV, ih]
theorem tksV_one (xs : List TV) : ∀ u ∈ tksV xs, u.oneCell' = true := by
 induction xs with
 | nil => intro u hu; cases hu
 | cons n r ih =>
  intro u hu
  simp only [tksV, List.mem_cons] at hu
  rcases hu with rfl | rfl | rfl | rfl | rfl | rfl | h
  ·
   rfl
  ·
   rfl
  ·
   rfl
  ·
   rfl
  ·
   rfl
  ·
   rfl
  ·
   exact ih u h
theorem tksV_at (xs : List TV) (j : Nat) (hj : j < xs.length) : (tksV xs)[j * 6]? = some (.string ⟨(xs.getD j tv0).1.1.toArray⟩) ∧ (tksV xs)[j * 6 + 1]? = some (tvT (xs.getD j tv0)) ∧ (tksV xs)[j * 6 + 2]? = some (.int .i64 (xs.getD j tv0).1.2.2.1) ∧ (tksV xs)[j * 6 + 3]? = some (.int .i64 (xs.getD j tv0).1.2.2.2.1) ∧ (tksV xs)[j * 6 + 4]? = some (.int .i64 (xs.getD j tv0).1.2.2.2.2.1) ∧ (tksV xs)[j * 6 + 5]? = some (.int .i64 (xs.getD j tv0).1.2.2.2.2.2) := by
 induction xs generalizing j with
 | nil => simp at hj
 | cons n r ih =>
  cases j with
  | zero => simp [tksV]
  | succ j =>
   obtain ⟨h0, h1, h2, h3, h4, h5⟩ := ih j (by simpa using hj)
   have e : ∀ i, (j + 1) * 6 + i = (j * 6 + i) + 1 + 1 + 1 + 1 + 1 + 1 := fun i => by omega
   refine ⟨?_, ?_, ?_, ?_, ?_, ?_⟩
   ·
    have := e 0; rw [Nat.add_zero, Nat.add_zero] at this; rw [this]; simpa [tksV] using h0
   ·
    rw [e 1]; simpa [tksV] using h1
   ·
    rw [e 2]; simpa [tksV] using h2
   ·
    rw [e 3]; simpa [tksV] using h3
   ·
    rw [e 4]; simpa [tksV] using h4
   ·
    rw [e 5]; simpa [tksV] using h5
theorem tksV_set (xs : List TV) (j : Nat) (y : TV) : ((((((tksV xs).set (j * 6) (.string ⟨y.1.1.toArray⟩)).set (j * 6 + 1) (tvT y)).set (j * 6 + 2) (.int .i64 y.1.2.2.1)).set (j * 6 + 3) (.int .i64 y.1.2.2.2.1)).set (j * 6 + 4) (.int .i64 y.1.2.2.2.2.1)).set (j * 6 + 5) (.int .i64 y.1.2.2.2.2.2) = tksV (xs.set j y) := by
 induction xs generalizing j with
 | nil => simp [tksV]
 | cons b r ih =>
  cases j with
  | zero => simp [tksV]
  | succ j => rw [show (j + 1) * 6 = j * 6 + 1 + 1 + 1 + 1 + 1 + 1 by omega]; simp [tksV, ih]

structure TksOwn (w : World) (base : Nat) (v : Value) (xs : List TV) : Prop where
 row : w.ownsRow base 70 6 v xs.length (tksV xs)
 trees : ∀ x ∈ xs, w.ownsRow base 2 1 (tvT x) x.1.2.1.length (intsV x.1.2.1)
theorem TksOwn.below {w w' : World} {base : Nat} {v : Value} {xs : List TV} (h : TksOwn w base v xs) (hb : Below w.heap.size w w') : TksOwn w' base v xs := ⟨own_below h.row hb, fun x hx => own_below (h.trees x hx) hb⟩
theorem TksOwn.kept {w w' : World} {base : Nat} {v : Value} {xs : List TV} {row : Option Nat} (h : TksOwn w base v xs) (hg : w.grownBy w' row) (h1 : v.ownBlock = none ∨ v.ownBlock ≠ row) (h2 : ∀ x ∈ xs, (tvT x).ownBlock = none ∨ (tvT x).ownBlock ≠ row) : TksOwn w' base v xs :=
 ⟨h.row.kept hg h1, fun x hx => (h.trees x hx).kept hg (h2 x hx)⟩
theorem TksOwn.base {w : World} {base b2 : Nat} {v : Value} {xs : List TV} (h : TksOwn w base v xs) (hb : b2 ≤ base) : TksOwn w b2 v xs := ⟨own_base h.row hb, fun x hx => own_base (h.trees x hx) hb⟩
theorem TksOwn.nil (w : World) (base : Nat) : TksOwn w base (.slice none 0 0) [] := ⟨World.ownsRow_nil w _ _ _, fun x hx => by cases hx⟩
theorem TksOwn.still {w w' : World} {base : Nat} {v : Value} {xs : List TV} (h : TksOwn w base v xs) (hg : w.grownBy w' none) : TksOwn w' base v xs :=
 h.kept hg (by cases hv : v.ownBlock with | none => exact Or.inl rfl | some k => exact Or.inr (by simp)) (fun x _ => by cases hv : (tvT x).ownBlock with | none => exact Or.inl rfl | some k => exact Or.inr (by simp))
theorem getD_map_tk (xs : List TV) (j : Nat) : (xs.map (·.1)).getD j ta0 = (xs.getD j tv0).1 := by
 rw [List.getD_eq_getElem?_getD, List.getD_eq_getElem?_getD, List.getElem?_map]
 cases xs[j]? <;> rfl
/-- Numbers that are owned can be read. -/
theorem own_as {w : World} {B n c : Nat} {a : Option Addr} {xs : List Int} (h : w.ownsRow B 2 1 (.slice a n c) n (intsV xs)) (hn : xs.length = n) : AsIn w a xs ∧ (a = none → c = 0) ∧ n ≤ c := by
 rcases h.2 with ⟨h', h0, _⟩ | ⟨g, cp, cur, h', _, _, hnc, _⟩
 ·
  simp only [Value.slice.injEq] at h'
  obtain ⟨rfl, _, rfl⟩ := h'
  exact ⟨fun j hj => absurd hj (by omega), fun _ => rfl, Nat.le_refl _⟩
 ·
  injection h' with h1 h2 h3
  subst h1 h3
  exact ⟨nums_as h hn, (fun e => by cases e), hnc⟩

/-- What the landed functions are told of tasks: a row that is nil has no room. -/
def TasksOk (w : World) (a : Option Addr) (len cap : Nat) (ts : List Ta) : Prop :=
 ts.length = len ∧ (a = none → cap = 0) ∧ ∀ j, j < len → ∃ b off, a = some ⟨b, off, none⟩ ∧ b < w.heap.size ∧ w.cell? ⟨b, off + j * 6, none⟩ = some (.string ⟨(ts.getD j ta0).1.toArray⟩) ∧
  (∃ na nc, w.cell? ⟨b, off + j * 6 + 1, none⟩ = some (.slice na (ts.getD j ta0).2.1.length nc) ∧ AsIn w na (ts.getD j ta0).2.1 ∧ (na = none → nc = 0)) ∧
  w.cell? ⟨b, off + j * 6 + 2, none⟩ = some (.int .i64 (ts.getD j ta0).2.2.1) ∧ w.cell? ⟨b, off + j * 6 + 3, none⟩ = some (.int .i64 (ts.getD j ta0).2.2.2.1) ∧
  w.cell? ⟨b, off + j * 6 + 4, none⟩ = some (.int .i64 (ts.getD j ta0).2.2.2.2.1) ∧ w.cell? ⟨b, off + j * 6 + 5, none⟩ = some (.int .i64 (ts.getD j ta0).2.2.2.2.2)
theorem TasksOk.in {w : World} {a : Option Addr} {len cap : Nat} {ts : List Ta} (h : TasksOk w a len cap ts) : TasksIn w a len ts := by
 refine ⟨h.1, fun j hj => ?_⟩
 obtain ⟨b, off, e, hlt, c0, ⟨na, nc, c1, hn, _⟩, c2, c3, c4, c5⟩ := h.2.2 j hj
 exact ⟨b, off, e, hlt, c0, ⟨na, nc, c1, hn⟩, c2, c3, c4, c5⟩
theorem TasksOk.below {w w' : World} {a : Option Addr} {len cap : Nat} {ts : List Ta} (h : TasksOk w a len cap ts) (hb : Below w.heap.size w w') : TasksOk w' a len cap ts := by
 refine ⟨h.1, h.2.1, fun j hj => ?_⟩
 obtain ⟨b, off, e, hlt, c0, ⟨na, nc, c1, hn, hz⟩, c2, c3, c4, c5⟩ := h.2.2 j hj
 exact ⟨b, off, e, Nat.lt_of_lt_of_le hlt hb.size, (hb.cell (p := ⟨b, off + j * 6, none⟩) hlt).trans c0, ⟨na, nc, (hb.cell (p := ⟨b, off + j * 6 + 1, none⟩) hlt).trans c1, hn.below hb, hz⟩,
  (hb.cell (p := ⟨b, off + j * 6 + 2, none⟩) hlt).trans c2, (hb.cell (p := ⟨b, off + j * 6 + 3, none⟩) hlt).trans c3, (hb.cell (p := ⟨b, off + j * 6 + 4, none⟩) hlt).trans c4, (hb.cell (p := ⟨b, off + j * 6 + 5, none⟩) hlt).trans c5⟩
/-- What is owned can be read. -/
theorem TksOwn.ok {w : World} {base : Nat} {v : Value} {xs : List TV} (h : TksOwn w base v xs) : ∃ a cap, v = .slice a xs.length cap ∧ TasksOk w a xs.length cap (xs.map (·.1)) := by
 rcases own_forms h.row with ⟨rfl, h0, _⟩ | ⟨g, cp, rfl⟩
 ·
  exact ⟨none, 0, by rw [h0], by simp, fun _ => rfl, fun j hj => by omega⟩
 ·
  refine ⟨some ⟨g, 0, none⟩, cp, rfl, by simp, (fun e => by cases e), fun j hj => ?_⟩
  obtain ⟨v0, v1, v2, v3, v4, v5⟩ := tksV_at xs j hj
  have hc := fun k (hk : k < xs.length * 6) => World.ownsRow.cellAt h.row k hk
  have hmem : xs.getD j tv0 ∈ xs := by rw [List.getD_eq_getElem?_getD, List.getElem?_eq_getElem hj]; exact List.getElem_mem hj
  obtain ⟨hi, hz, _⟩ := own_as (h.trees _ hmem) rfl
  rw [getD_map_tk]
  refine ⟨g, 0, rfl, (h.row.lt g rfl).2, ?_, ⟨(xs.getD j tv0).2.1, (xs.getD j tv0).2.2, ?_, hi, hz⟩, ?_, ?_, ?_, ?_⟩
  ·
   rw [Nat.zero_add, hc _ (by omega), v0]
  ·
   rw [Nat.zero_add, hc _ (by omega), v1]; rfl
  ·
   rw [Nat.zero_add, hc _ (by omega), v2]
  ·
   rw [Nat.zero_add, hc _ (by omega), v3]
  ·
   rw [Nat.zero_add, hc _ (by omega), v4]
  ·
   rw [Nat.zero_add, hc _ (by omega), v5]

theorem infoTask : (Tryz.prog.info? 70).map (fun i => (i.zero, i.size, i.bytes)) = some (some (.agg #[.string ⟨#[]⟩, .slice none 0 0, .int .i64 0, .int .i64 0, .int .i64 0, .int .i64 0]), 6, 72) := by kernel_rfl
end Go.Proofs.YtdoghjpjepolbaaGreatDoor

/-! The laws' own helpers over tasks: szInt64S, szTask, szTaskS, szDesk; eqInt64S at numbers that can be read, eqTask, eqTaskS, eqDesk. -/
namespace Go.Proofs.YtdoghjpjepolbaaGreatDoor
open Go.RowKit

def szD (m : Nat) (left : Int) : Int := if (m : Int) ≤ left then left - (m : Int) else -1
def taSz (t : Ta) : Nat := t.1.length + t.2.1.length
def tasSz : List Ta → Nat
 | [] => 0
 | f :: r => taSz f + tasSz r
def LongTa (fs : List Ta) : Prop := ∀ j, (fs.getD j ta0).1.length ≤ maxLen ∧ (fs.getD j ta0).2.1.length ≤ maxLen
end Go.Proofs.YtdoghjpjepolbaaGreatDoor

/-! The laws' own helpers over tasks: toTask, toTaskS, toDesk. -/
namespace Go.Proofs.YtdoghjpjepolbaaGreatDoor
open Go.RowKit

theorem setO {X : World} {R i j : Nat} {v a : Value} (h : j ≠ i) (e : X.cell? ⟨R, j, none⟩ = some a) : (X.setCell ⟨R, i, none⟩ v).cell? ⟨R, j, none⟩ = some a :=
 (World.cell?_setCell_other _ _ _ _ (by simp)).trans e
theorem setS {X : World} {R i : Nat} {v a : Value} (e : X.cell? ⟨R, i, none⟩ = some a) : (X.setCell ⟨R, i, none⟩ v).cell? ⟨R, i, none⟩ = some v := World.cell?_setCell_same _ _ _ e
/-- Four cells of a block are written. -/
theorem set4 {X : World} {R : Nat} {a0 a1 a2 a3 : Value} (u0 u1 u2 u3 : Value) (r0 : X.cell? ⟨R, 0, none⟩ = some a0) (r1 : X.cell? ⟨R, 1, none⟩ = some a1) (r2 : X.cell? ⟨R, 2, none⟩ = some a2) (r3 : X.cell? ⟨R, 3, none⟩ = some a3) :
 ∃ Y, (((X.setCell ⟨R, 0, none⟩ u0).setCell ⟨R, 1, none⟩ u1).setCell ⟨R, 2, none⟩ u2).setCell ⟨R, 3, none⟩ u3 = Y ∧ Y.cell? ⟨R, 0, none⟩ = some u0 ∧ Y.cell? ⟨R, 1, none⟩ = some u1 ∧ Y.cell? ⟨R, 2, none⟩ = some u2 ∧ Y.cell? ⟨R, 3, none⟩ = some u3 ∧ X.grownBy Y (some R) :=
 ⟨_, rfl, setO (by decide) (setO (by decide) (setO (by decide) (setS (r0)))), setO (by decide) (setO (by decide) (setS (setO (by decide) (r1)))), setO (by decide) (setS (setO (by decide) (setO (by decide) (r2)))), setS (setO (by decide) (setO (by decide) (setO (by decide) (r3)))), (((grown_set _ _ _ _).trans (grown_set _ _ _ _)).trans (grown_set _ _ _ _)).trans (grown_set _ _ _ _)⟩

/-- The cells of a block of six, and of four, that lies as it was made. -/
theorem sixF {X W : World} {R : Nat} {u0 u1 u2 u3 u4 u5 : Value} {T : TypeId} (hX : Below W.heap.size W X) (hlt : R < W.heap.size) (hR : W.heap[R]? = some (.cells #[u0, u1, u2, u3, u4, u5] T)) :
 (X.cell? ⟨R, 0, none⟩ = some u0 ∧ X.cell? ⟨R, 1, none⟩ = some u1 ∧ X.cell? ⟨R, 2, none⟩ = some u2 ∧ X.cell? ⟨R, 3, none⟩ = some u3 ∧ X.cell? ⟨R, 4, none⟩ = some u4 ∧ X.cell? ⟨R, 5, none⟩ = some u5) ∧ ∀ j, X.frozen? ⟨R, j, none⟩ = false := by
 have e := (hX.block R hlt).trans hR
 clear hX hR
 exact ⟨⟨by simp [World.cell?, e], by simp [World.cell?, e], by simp [World.cell?, e], by simp [World.cell?, e], by simp [World.cell?, e], by simp [World.cell?, e]⟩, fun j => by simp [World.frozen?, e]⟩
theorem fourF {X W : World} {R : Nat} {u0 u1 u2 u3 : Value} {T : TypeId} (hX : Below W.heap.size W X) (hlt : R < W.heap.size) (hR : W.heap[R]? = some (.cells #[u0, u1, u2, u3] T)) :
 (X.cell? ⟨R, 0, none⟩ = some u0 ∧ X.cell? ⟨R, 1, none⟩ = some u1 ∧ X.cell? ⟨R, 2, none⟩ = some u2 ∧ X.cell? ⟨R, 3, none⟩ = some u3) ∧ ∀ j, X.frozen? ⟨R, j, none⟩ = false := by
 have e := (hX.block R hlt).trans hR
 clear hX hR
 exact ⟨⟨by simp [World.cell?, e], by simp [World.cell?, e], by simp [World.cell?, e], by simp [World.cell?, e]⟩, fun j => by simp [World.frozen?, e]⟩




end Go.Proofs.YtdoghjpjepolbaaGreatDoor
