/-
  Parts of one proof, one behind the other: Math18N, IntsL, NumsL.
-/
import Derived.Test.YtaidhjjpdkkmcaaGreatDoorP28
import Derived.Test.YtaidhjjpdkkmcaaGreatDoorP6
import Derived.Test.YtaidhjjpdkkmcaaGreatDoorP1
import Derived.Test.YtaidhjjpdkkmcaaGreatDoorP13
import Derived.Test.YtaidhjjpdkkmcaaGreatDoorP11

/-! Plain facts of chapter 18: the tasks of a project in which nothing is wrong; the new desk. -/
namespace Go.Proofs.YtaidhjjpdkkmcaaGreatDoor
open Go.RowKit

/-! Each is behind all that it imports. -/
def ord18 (ps : List Pk) (x : List UInt8) : Nat := (order8 ps).idxOf x
theorem takeW_idx {out : List (List UInt8)} {m x : List UInt8} : m ∈ out.takeWhile (fun y => decide (y ≠ x)) → out.idxOf m < out.idxOf x := by
 induction out with
 | nil => intro h; simp at h
 | cons a r ih =>
  intro h
  rw [List.takeWhile_cons] at h
  by_cases ha : a = x
  ·
   rw [if_neg (by simpa using ha)] at h; simp at h
  ·
   rw [if_pos (by simpa using ha)] at h
   rw [List.idxOf_cons, List.idxOf_cons]
   have hax : (a == x) = false := beq_eq_false_iff_ne.2 ha
   rw [hax]
   rcases List.mem_cons.1 h with e | h
   ·
    subst e; simp
   ·
    by_cases hm : a = m
    ·
     subst hm; simp
    ·
     have hmm : (a == m) = false := beq_eq_false_iff_ne.2 hm
     rw [hmm]
     have := ih h
     simp only [cond_false]
     omega
theorem idx_pair {out : List (List UInt8)} (h : out.Nodup) : out.Pairwise (fun a b => out.idxOf a < out.idxOf b) := by
 rw [List.pairwise_iff_getElem]
 intro i j hi hj hij
 rw [List.Nodup.idxOf_getElem h i hi, List.Nodup.idxOf_getElem h j hj]
 exact hij
structure Clean18 (ps : List Pk) : Prop where
 p : projB ps = true
 len : (order8 ps).length = ps.length
 here : ∀ p ∈ ps, ∀ m ∈ p.2.1, m ∈ names8 ps
 main : mainT ∈ names8 ps
theorem clean18_of {ps : List Pk} (h0 : (faultV ps).1 = 0) : Clean18 ps := by
 obtain ⟨_, hp, hl, hh, _, hm, _⟩ := faultV_zero h0
 exact ⟨hp, hl, hh, (at8_mem ps mainT).1 hm⟩
section
variable {ps : List Pk} (C : Clean18 ps)
include C
theorem Clean18.all (x : List UInt8) (hx : x ∈ names8 ps) : x ∈ order8 ps := by
 have ho := (order8_end C.p).1
 have hn := (projB_parts C.p).1.nodup
 exact same_mem ho.nd (fun y hy => ho.sub y hy) (by rw [C.len]; simp [names8]) x hx
theorem Clean18.ahead {p : Pk} (hp : p ∈ ps) {m : List UInt8} (hm : m ∈ p.2.1) : ord18 ps m < ord18 ps p.1 := by
 have h1 := C.all p.1 (List.mem_map_of_mem hp)
 exact takeW_idx ((order8_law C.p hp).1 h1 m hm (C.here p hp m hm))
theorem Clean18.last : ∀ (n : Nat) (x : List UInt8), x ∈ reach8 ps mainT → (order8 ps).length - ord18 ps x < n → x = mainT ∨ ord18 ps x < ord18 ps mainT
 | 0, _, _, h => absurd h (Nat.not_lt_zero _)
 | n + 1, x, hx, h => by
  have hr := (reach8_end C.main).1
  rcases hr.why x hx with e | ⟨p, hp, hpo, hxp⟩
  ·
   exact Or.inl e
  ·
   have ha := C.ahead hp hxp
   have hb : ord18 ps p.1 < (order8 ps).length := List.idxOf_lt_length_of_mem (C.all p.1 (List.mem_map_of_mem hp))
   rcases Clean18.last n p.1 hpo (by omega) with e | e
   ·
    rw [e] at ha; exact Or.inr ha
   ·
    exact Or.inr (by omega)
end
def parts18 (ps : List Pk) : List (List UInt8) := need8 ps mainT ++ [mainT]
theorem parts18_pair {ps : List Pk} (C : Clean18 ps) : (parts18 ps).Pairwise (fun a b => ord18 ps a < ord18 ps b) := by
 have ho := (order8_end C.p).1
 unfold parts18
 rw [List.pairwise_append]
 refine ⟨(idx_pair ho.nd).sublist List.filter_sublist, List.pairwise_singleton _ _, fun a ha b hb => ?_⟩
 rw [List.mem_singleton] at hb
 subst hb
 unfold need8 at ha
 rw [List.mem_filter, decide_eq_true_eq] at ha
 rcases C.last _ a ha.2.2 (Nat.lt_succ_self _) with e | e
 ·
  exact absurd e ha.2.1
 ·
  exact e
theorem parts18_sub {ps : List Pk} (C : Clean18 ps) : ∀ x ∈ parts18 ps, x ∈ names8 ps := fun x hx => by
 unfold parts18 at hx
 rcases List.mem_append.1 hx with h | h
 ·
  unfold need8 at h
  exact (order8_end C.p).1.sub x (List.mem_filter.1 h).1
 ·
  rw [List.mem_singleton] at h; rw [h]; exact C.main
theorem parts18_nodup {ps : List Pk} (C : Clean18 ps) : (parts18 ps).Nodup := (parts18_pair C).imp (fun {a b} h e => by subst e; omega)
theorem parts18_len {ps : List Pk} (C : Clean18 ps) : 1 ≤ (parts18 ps).length ∧ (parts18 ps).length ≤ 8 := by
 have h1 := (parts18_nodup C).length_le_of_subset (fun x hx => parts18_sub C x hx)
 have h2 := (projB_parts C.p).2.1
 simp only [names8, List.length_map] at h1
 refine ⟨by unfold parts18; simp, by omega⟩
theorem pkOf_name {ps : List Pk} {s : List UInt8} (hs : s ∈ names8 ps) : pkOf ps s ∈ ps ∧ (pkOf ps s).1 = s := by
 have h := (at8_mem ps s).2 hs
 unfold pkOf at8 at *
 have key : ∀ (l : List Pk) (k : Nat), 0 ≤ at8Go s l k → (k : Int) ≤ at8Go s l k ∧ at8Go s l k < k + l.length ∧ (l.getD ((at8Go s l k).toNat - k) pk0).1 = s := by
  intro l
  induction l with
  | nil => intro k h; simp [at8Go] at h
  | cons a r ih =>
   intro k h
   unfold at8Go at h ⊢
   split
   ·
    rename_i e
    exact ⟨by omega, by simp; omega, by simp [e]⟩
   ·
    rename_i e
    rw [if_neg e] at h
    obtain ⟨h1, h2, h3⟩ := ih (k + 1) h
    refine ⟨by omega, by simp; omega, ?_⟩
    have e2 : (at8Go s r (k + 1)).toNat - k = ((at8Go s r (k + 1)).toNat - (k + 1)) + 1 := by omega
    rw [e2, List.getD_cons_succ]
    exact h3
 obtain ⟨h1, h2, h3⟩ := key ps 0 h
 rw [Nat.sub_zero] at h3
 refine ⟨?_, h3⟩
 rw [List.getD_eq_getElem?_getD, List.getElem?_eq_getElem (by omega)]
 exact List.getElem_mem (by omega)

/-! What a part needs. -/
def nums18 (os ims : List (List UInt8)) (n : Nat) : List Int := ((List.range n).filter (fun k : Nat => decide (os.getD k [] ∈ ims))).map (fun k : Nat => ((k : Nat) : Int))
theorem nums18_all {ps : List Pk} (C : Clean18 ps) {i : Nat} (hi : i < (parts18 ps).length) : nums18 (parts18 ps) (pkOf ps ((parts18 ps).getD i [])).2.1 (parts18 ps).length = nums18 (parts18 ps) (pkOf ps ((parts18 ps).getD i [])).2.1 i := by
 obtain ⟨d, hd⟩ : ∃ d, (parts18 ps).length = i + d := ⟨_, (Nat.add_sub_cancel' (Nat.le_of_lt hi)).symm⟩
 unfold nums18
 rw [hd, List.range_add, List.filter_append, List.map_append]
 have hn : ((List.range d).map (fun x => i + x)).filter (fun k => decide ((parts18 ps).getD k [] ∈ (pkOf ps ((parts18 ps).getD i [])).2.1)) = [] := by
  rw [List.filter_eq_nil_iff]
  intro k hk
  obtain ⟨j, hj, rfl⟩ := List.mem_map.1 hk
  rw [List.mem_range] at hj
  rw [decide_eq_true_eq]
  intro hm
  have hgi : (parts18 ps).getD i [] = (parts18 ps)[i] := by simp [List.getD, hi]
  have hgk : (parts18 ps).getD (i + j) [] = (parts18 ps)[i + j]'(by omega) := by simp [List.getD, show i + j < (parts18 ps).length by omega]
  obtain ⟨hp, hpn⟩ := pkOf_name (parts18_sub C _ (List.getElem_mem hi))
  rw [hgi] at hm
  have ha := C.ahead hp hm
  rw [hpn, hgk] at ha
  rcases Nat.eq_zero_or_pos j with e | e
  ·
   subst e; simp at ha
  ·
   have := List.pairwise_iff_getElem.1 (parts18_pair C) i (i + j) hi (by omega) (by omega)
   omega
 rw [hn]
 simp
theorem nums18_ok (os ims : List (List UInt8)) (i : Nat) : needsB (i : Int) (nums18 os ims i) = true := by
 refine needsB_yes (fun j hj => ?_)
 have hp : (nums18 os ims i).Pairwise (fun a b => a < b) := by
  unfold nums18
  rw [List.pairwise_map]
  exact (List.pairwise_lt_range.sublist List.filter_sublist).imp (fun h => by omega)
 have hm : ∀ x ∈ nums18 os ims i, 0 ≤ x ∧ x < (i : Int) := fun x hx => by
  obtain ⟨k, hk, rfl⟩ := List.mem_map.1 hx
  have := List.mem_range.1 (List.mem_filter.1 hk).1
  omega
 have hg : ∀ k (hk : k < (nums18 os ims i).length), (nums18 os ims i).getD k 0 = (nums18 os ims i)[k] := fun k hk => by simp [List.getD, hk]
 unfold need18
 rw [hg j hj]
 obtain ⟨h0, h1⟩ := hm _ (List.getElem_mem hj)
 refine ⟨h0, h1, fun h => ?_⟩
 rw [hg (j - 1) (by omega)]
 exact List.pairwise_iff_getElem.1 hp (j - 1) j (by omega) hj (by omega)

/-! The new desk. -/
def startL (n : Int) : List UInt8 := framedS ([115, 116, 97, 114, 116, 32] ++ intL n)
def task18N (ps : List Pk) (i : Nat) : Ta := ((parts18 ps).getD i [], nums18 (parts18 ps) (pkOf ps ((parts18 ps).getD i [])).2.1 i, 0, 0, 0, 0)
def tasks18 (ps : List Pk) : List Ta := (List.range (parts18 ps).length).map (task18N ps)
def newV (ps : List Pk) : Dk × Bool := if (faultV ps).1 = 0 then ((tasks18 ps, 1, 0, startL 1), true) else (dk0, false)
theorem tasks18_at {ps : List Pk} {i : Nat} (hi : i < (parts18 ps).length) : (tasks18 ps).getD i ta0 = task18N ps i := by
 unfold tasks18; simp [List.getD, hi]
theorem startL_len {n : Int} (h0 : -9223372036854775808 ≤ n) (h1 : n ≤ 9223372036854775807) : (startL n).length ≤ 1000 := by
 have h := digL_len 19 n.natAbs (by omega)
 have hi : (intL n).length ≤ 21 := by
  unfold intL
  split
  ·
   simp only [List.length_cons]; omega
  ·
   omega
 unfold startL
 rw [framedS_yes _ (by simp only [List.length_append, List.length_cons, List.length_nil]; omega)]
 have h8 : ∀ n, (hexL n).length = 8 := fun _ => rfl
 unfold framedL
 simp only [List.length_append, List.length_cons, List.length_nil, h8]
 omega
theorem new18_ok {ps : List Pk} (h0 : (faultV ps).1 = 0) : deskB (tasks18 ps, 1, 0, startL 1) = true := by
 have C := clean18_of h0
 have hl : (tasks18 ps).length = (parts18 ps).length := by unfold tasks18; simp
 have h8 := parts18_len C
 have hj := startL_len (n := 1) (by omega) (by omega)
 refine deskB_iff.2 ⟨by show 1 ≤ (tasks18 ps).length ∧ (tasks18 ps).length ≤ 8; omega, by show (1 : Int) ≤ 1 ∧ (1 : Int) ≤ 1000; omega, by show (0 : Int) ≤ 0 ∧ (0 : Int) ≤ 1000000; omega, by show (startL 1).length ≤ 60000; omega, fun i hi => ?_⟩
 have hi : i < (parts18 ps).length := by rw [← hl]; exact hi
 have hgi : ∀ k (hk : k < (parts18 ps).length), (parts18 ps).getD k [] = (parts18 ps)[k] := fun k hk => by simp [List.getD, hk]
 unfold one18
 show nameB ((tasks18 ps).getD i ta0).1 = true ∧ taskB (i : Int) ((tasks18 ps).getD i ta0) = true ∧ ∀ k, k < i → ((tasks18 ps).getD k ta0).1 ≠ ((tasks18 ps).getD i ta0).1
 rw [tasks18_at hi]
 refine ⟨?_, ?_, fun k hk => ?_⟩
 ·
  show nameB ((parts18 ps).getD i []) = true
  rw [hgi i hi]
  obtain ⟨hp, hn⟩ := pkOf_name (parts18_sub C _ (List.getElem_mem hi))
  have := (projB_parts C.p).2.2 _ hp
  rw [← hn]
  exact (pkgB_parts this).1
 ·
  unfold taskB
  rw [Bool.and_eq_true]
  exact ⟨nums18_ok _ _ i, rfl⟩
 ·
  rw [tasks18_at (by omega)]
  show (parts18 ps).getD k [] ≠ (parts18 ps).getD i []
  rw [hgi k (by omega), hgi i hi]
  intro e
  have := List.pairwise_iff_getElem.1 (parts18_pair C) k i (by omega) hi hk
  rw [e] at this
  omega

end Go.Proofs.YtaidhjjpdkkmcaaGreatDoor

/-! The laws' own helpers over rows of numbers: eqInt64S, markInt64S, heldInt64S, likeInts. -/
namespace Go.Proofs.YtaidhjjpdkkmcaaGreatDoor
open Go.RowKit

theorem intsV_at (l : List Int) (j : Nat) (h : j < l.length) : (intsV l)[j]? = some (.int .i64 l[j]) := by
 unfold intsV; rw [List.getElem?_map, List.getElem?_eq_getElem h]; rfl

/-- The marks from k on. -/
def marksI (k : Nat) : Nat → List Int
 | 0 => []
 | n + 1 => marksI k n ++ [((k + n : Nat) : Int)]
theorem marksI_len (k n : Nat) : (marksI k n).length = n := by
 induction n with
 | zero => rfl
 | succ n ih => simp [marksI, ih]
theorem marksI_at (k n j : Nat) (h : j < n) : (intsV (marksI k n))[j]? = some (.int .i64 ((k + j : Nat) : Int)) := by
 induction n with
 | zero => omega
 | succ n ih =>
  unfold marksI
  rw [intsV_append]
  by_cases hj : j < n
  ·
   rw [List.getElem?_append_left (by rw [intsV_len, marksI_len]; exact hj)]; exact ih hj
  ·
   obtain rfl : j = n := by omega
   rw [List.getElem?_append_right (by rw [intsV_len, marksI_len]; omega), intsV_len, marksI_len]
   simp [intsV]
theorem marksI_set (k i : Nat) (xs : List Value) (h : i < xs.length) : (intsV (marksI k i) ++ xs.drop i).set i (.int .i64 ((k + i : Nat) : Int)) = intsV (marksI k (i + 1)) ++ xs.drop (i + 1) := by
 rw [List.set_append, if_neg (by rw [intsV_len, marksI_len]; omega), intsV_len, marksI_len, Nat.sub_self]
 rw [List.drop_eq_getElem_cons h, zB]
 conv => rhs; unfold marksI
 rw [intsV_append, List.append_assoc]; rfl

set_option maxHeartbeats 1000000 in
set_option maxRecDepth 100000 in
theorem markIntC (w : World) (base g cp n k0 : Nat) (xs : List Value) (hn : n ≤ 1100000) (hk1 : k0 ≤ 30000000)
 (h : w.ownsRow base 2 1 (.slice (some ⟨g, 0, none⟩) n cp) n xs) :
 Calls Tryz.prog 69 #[.slice (some ⟨g, 0, none⟩) n cp, .int .i64 k0] w fun e w' => e = .returned (.int .i64 ((k0 + n : Nat) : Int)) ∧ w'.ownsRow base 2 1 (.slice (some ⟨g, 0, none⟩) n cp) n (intsV (marksI k0 n)) ∧ w.grownBy w' (some g) := by
 have hxl : Hid (xs.length = n) := by exact (by have := h.1; omega : xs.length = n)
 have hgl : g < w.heap.size := (h.lt g rfl).2
 go_enter Tryz.func69, Tryz.ntmps69
 go_wp2
 go_loopw [1, 5] (fun k i wr => ∃ m : Nat, m ≤ n ∧ i = .int .i64 m ∧ k = .int .i64 ((k0 + m : Nat) : Int) ∧ wr.ownsRow base 2 1 (.slice (some ⟨g, 0, none⟩) n cp) n (intsV (marksI k0 m) ++ xs.drop m) ∧ w.grownBy wr (some g)) (fun _ i _ => n - (intOf i).toNat)
 case atStart => exact ⟨0, Nat.zero_le _, rfl, rfl, h, World.grownBy.refl _ _⟩
 case round =>
  obtain ⟨m, hm, rfl, rfl, hown, hg⟩ := hrel
  by_cases hlt : m < n
  ·
   have hc1 : ∃ u, wr.cell? ⟨g, m, none⟩ = some u := by
    rw [hown.cellAt m (by omega)]
    have hl : m < (intsV (marksI k0 m) ++ xs.drop m).length := by rw [List.length_append, intsV_len, marksI_len, List.length_drop]; have := hxl.out; omega
    exact ⟨_, List.getElem?_eq_getElem hl⟩
   obtain ⟨u, hc1⟩ := hc1
   have hf1 := hown.frozenAt m
   have hst := hown.stored m (.int .i64 ((k0 + m : Nat) : Int))
   rw [marksI_set k0 m xs (by have := hxl.out; omega)] at hst
   have hst2 := hg.trans hst.2
   have hst1 := hst.1
   clear hown hst hg
   go_wp2
   go_roundw
   case rel => exact ⟨m + 1, by omega, by go_num, by go_num, hst1, hst2⟩
   case measure => simp [intOf]; omega
  ·
   obtain rfl : m = n := by omega
   have hd : xs.drop m = [] := List.drop_eq_nil_of_le (by have := hxl.out; omega)
   rw [hd, List.append_nil] at hown
   clear hd
   go_wp2
   go_ret
   exact ⟨rfl, hown, hg⟩

set_option maxHeartbeats 400000 in
set_option maxRecDepth 100000 in
theorem markIntNil (w : World) (k0 : Nat) :
 Calls Tryz.prog 69 #[.slice none 0 0, .int .i64 k0] w fun e w' => e = .returned (.int .i64 (k0 : Int)) ∧ w' = w := by
 go_enter Tryz.func69, Tryz.ntmps69
 go_wp2
 refine wp_loop_rounds 1 ?_
 rw [rounds_succ]
 go_wp2
 go_ret
 exact ⟨rfl, rfl⟩

theorem markIntV (w : World) (base n k0 : Nat) (v : Value) (xs : List Value) (hn : n ≤ 1100000) (hk1 : k0 ≤ 30000000) (h : w.ownsRow base 2 1 v n xs) :
 Calls Tryz.prog 69 #[v, .int .i64 k0] w fun e w' => e = .returned (.int .i64 ((k0 + n : Nat) : Int)) ∧ w'.ownsRow base 2 1 v n (intsV (marksI k0 n)) ∧ w.grownBy w' v.ownBlock := by
 rcases own_forms h with ⟨rfl, rfl, rfl⟩ | ⟨g, cp, rfl⟩
 ·
  refine (markIntNil w k0).mono ?_
  rintro e w' ⟨rfl, rfl⟩
  exact ⟨rfl, h, World.grownBy.refl _ _⟩
 ·
  exact markIntC w base g cp n k0 xs hn hk1 h

set_option maxHeartbeats 1000000 in
set_option maxRecDepth 100000 in
theorem heldIntC (w : World) (base g cp n k0 : Nat) (hn : n ≤ 1100000) (hk1 : k0 ≤ 30000000)
 (h : w.ownsRow base 2 1 (.slice (some ⟨g, 0, none⟩) n cp) n (intsV (marksI k0 n))) :
 Calls Tryz.prog 70 #[.slice (some ⟨g, 0, none⟩) n cp, .int .i64 k0] w fun e w' => e = .returned (.int .i64 ((k0 + n : Nat) : Int)) ∧ w.grownBy w' none := by
 have hself : ∀ n : Int, (n != n) = false := by simp
 have HA : Hid (∀ j, j < n → w.cell? ⟨g, j, none⟩ = some (.int .i64 ((k0 + j : Nat) : Int))) := fun j hj => by rw [h.cellAt j (by omega), marksI_at k0 n j hj]
 clear h
 go_enter Tryz.func70, Tryz.ntmps70
 go_wp2
 go_loopw [1, 5] (fun k i wr => ∃ m : Nat, m ≤ n ∧ i = .int .i64 m ∧ k = .int .i64 ((k0 + m : Nat) : Int) ∧ w.grownBy wr none) (fun _ i _ => n - (intOf i).toNat)
 case atStart => exact ⟨0, Nat.zero_le _, rfl, rfl, World.grownBy.refl _ _⟩
 case round =>
  obtain ⟨m, hm, rfl, rfl, hg⟩ := hrel
  by_cases hlt : m < n
  ·
   have hca : wr.cell? ⟨g, m, none⟩ = some (.int .i64 ((k0 + m : Nat) : Int)) := hg.cell (HA.out m hlt) (by simp)
   obtain ⟨q, hq⟩ : ∃ q : Nat, k0 + m = q := ⟨_, rfl⟩
   have hq2 : q ≤ 31200000 := by omega
   have HQ : Hid (k0 + (m + 1) = q + 1) := by exact (by omega : k0 + (m + 1) = q + 1)
   rw [hq] at hca ⊢
   clear hq
   go_wp2
   go_roundw
   case rel => exact ⟨m + 1, by omega, by go_num, by rw [HQ.out]; go_num, hg⟩
   case measure => simp [intOf]; omega
  ·
   obtain rfl : m = n := by omega
   go_wp2
   go_ret
   exact ⟨rfl, hg⟩

set_option maxHeartbeats 400000 in
set_option maxRecDepth 100000 in
theorem heldIntNil (w : World) (k0 : Nat) :
 Calls Tryz.prog 70 #[.slice none 0 0, .int .i64 k0] w fun e w' => e = .returned (.int .i64 (k0 : Int)) ∧ w' = w := by
 go_enter Tryz.func70, Tryz.ntmps70
 go_wp2
 refine wp_loop_rounds 1 ?_
 rw [rounds_succ]
 go_wp2
 go_ret
 exact ⟨rfl, rfl⟩

theorem heldIntV (w : World) (base n k0 : Nat) (v : Value) (hn : n ≤ 1100000) (hk1 : k0 ≤ 30000000) (h : w.ownsRow base 2 1 v n (intsV (marksI k0 n))) :
 Calls Tryz.prog 70 #[v, .int .i64 k0] w fun e w' => e = .returned (.int .i64 ((k0 + n : Nat) : Int)) ∧ w.grownBy w' none := by
 rcases own_forms h with ⟨rfl, rfl, _⟩ | ⟨g, cp, rfl⟩
 ·
  refine (heldIntNil w k0).mono ?_
  rintro e w' ⟨rfl, rfl⟩
  exact ⟨rfl, World.grownBy.refl _ _⟩
 ·
  exact heldIntC w base g cp n k0 hn hk1 h


end Go.Proofs.YtaidhjjpdkkmcaaGreatDoor

/-! Numbers that came in, as the walks of chapter 10's laws take them; the exact laws' helper over such rows: toInt64S. -/
namespace Go.Proofs.YtaidhjjpdkkmcaaGreatDoor
open Go.ChangeShapes Go.WideShapes Go.ChangeAt Go.RowKit

/-- Numbers that can be read. -/
def AsIn (w : World) (a : Option Addr) (xs : List Int) : Prop := ∀ j, j < xs.length → ∃ b off, a = some ⟨b, off, none⟩ ∧ b < w.heap.size ∧ w.cell? ⟨b, off + j, none⟩ = some (.int .i64 (xs.getD j 0))
theorem AsIn.below {w w' : World} {a : Option Addr} {xs : List Int} (h : AsIn w a xs) (hb : Below w.heap.size w w') : AsIn w' a xs := fun j hj => by
 obtain ⟨b, off, e, hl, hc⟩ := h j hj
 exact ⟨b, off, e, Nat.lt_of_lt_of_le hl hb.size, (hb.cell (p := ⟨b, off + j, none⟩) hl).trans hc⟩

theorem info2 : (Tryz.prog.info? 2).map (fun i => (i.zero, i.size, i.bytes)) = some (some (.int .i64 0), 1, 8) := by kernel_rfl

/-- A row of numbers that a call owns is one that can be handed on. -/
theorem nums_as {w : World} {B g n cp : Nat} {xs : List Int} (h : w.ownsRow B 2 1 (.slice (some ⟨g, 0, none⟩) n cp) n (intsV xs)) (hn : xs.length = n) : AsIn w (some ⟨g, 0, none⟩) xs := fun j hj => by
 have hc := h.cellAt j (by omega)
 rw [intsV_at xs j hj] at hc
 refine ⟨g, 0, rfl, World.block_lt_of_cell? w ⟨g, j, none⟩ hc, ?_⟩
 rw [Nat.zero_add, hc]
 simp [List.getD, hj]


end Go.Proofs.YtaidhjjpdkkmcaaGreatDoor
