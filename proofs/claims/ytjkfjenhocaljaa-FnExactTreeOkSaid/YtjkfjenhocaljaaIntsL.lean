/-
  The laws' own helpers over rows of numbers: eqInt64S, markInt64S, heldInt64S, likeInts.
-/
import Derived.Test.YtjkfjenhocaljaaTreeS6
import Derived.Test.YtjkfjenhocaljaaOwn
namespace Go.Proofs.Ytjkfjenhocaljaa
open Go.RowKit

theorem intsV_at (l : List Int) (j : Nat) (h : j < l.length) : (intsV l)[j]? = some (.int .i64 l[j]) := by
  unfold intsV; rw [List.getElem?_map, List.getElem?_eq_getElem h]; rfl

/-- The marks from k on. -/
def marksI (k : Nat) : Nat → List Int
  | 0 => []
  | n + 1 => marksI k n ++ [((k + n : Nat) : Int)]
theorem marksI_len (k n : Nat) : (marksI k n).length = n := by
  induction n with
  | zero => rfl
  | succ n ih => simp [marksI, ih]
theorem marksI_at (k n j : Nat) (h : j < n) : (intsV (marksI k n))[j]? = some (.int .i64 ((k + j : Nat) : Int)) := by
  induction n with
  | zero => omega
  | succ n ih =>
    unfold marksI
    rw [intsV_append]
    by_cases hj : j < n
    · rw [List.getElem?_append_left (by rw [intsV_len, marksI_len]; exact hj)]; exact ih hj
    · obtain rfl : j = n := by omega
      rw [List.getElem?_append_right (by rw [intsV_len, marksI_len]; omega), intsV_len, marksI_len]
      simp [intsV]
theorem marksI_set (k i : Nat) (xs : List Value) (h : i < xs.length) : (intsV (marksI k i) ++ xs.drop i).set i (.int .i64 ((k + i : Nat) : Int)) = intsV (marksI k (i + 1)) ++ xs.drop (i + 1) := by
  rw [List.set_append, if_neg (by rw [intsV_len, marksI_len]; omega), intsV_len, marksI_len, Nat.sub_self]
  rw [List.drop_eq_getElem_cons h, List.set_cons_zero]
  conv => rhs; unfold marksI
  rw [intsV_append, List.append_assoc]; rfl

set_option maxHeartbeats 1000000 in
set_option maxRecDepth 100000 in
theorem eqIntC (w : World) (ba bb ga gb ca cb : Nat) (ls : List Int) (hn : ls.length ≤ 1100000)
    (ha : w.ownsRow ba 2 1 (.slice (some ⟨ga, 0, none⟩) ls.length ca) ls.length (intsV ls)) (hb : w.ownsRow bb 2 1 (.slice (some ⟨gb, 0, none⟩) ls.length cb) ls.length (intsV ls)) :
    Calls Try.prog 27 #[.slice (some ⟨ga, 0, none⟩) ls.length ca, .slice (some ⟨gb, 0, none⟩) ls.length cb] w fun e w' => e = .returned (.bool true) ∧ w.grownBy w' none := by
  have hself : ∀ n : Int, (n != n) = false := by simp
  have HA : Hid (∀ j (hj : j < ls.length), w.cell? ⟨ga, j, none⟩ = some (.int .i64 ls[j])) := fun j hj => by rw [ha.cellAt j (by omega), intsV_at ls j hj]
  have HB : Hid (∀ j (hj : j < ls.length), w.cell? ⟨gb, j, none⟩ = some (.int .i64 ls[j])) := fun j hj => by rw [hb.cellAt j (by omega), intsV_at ls j hj]
  clear ha hb
  go_enter Try.func27, Try.ntmps27
  go_wp2
  go_loopw [5] (fun i wr => ∃ k : Nat, k ≤ ls.length ∧ i = .int .i64 k ∧ w.grownBy wr none) (fun i _ => ls.length - (intOf i).toNat)
  case atStart => exact ⟨0, Nat.zero_le _, rfl, World.grownBy.refl _ _⟩
  case round =>
    obtain ⟨k, hk, rfl, hg⟩ := hrel
    by_cases hlt : k < ls.length
    · obtain ⟨t, ht⟩ : ∃ t, ls[k] = t := ⟨_, rfl⟩
      have hca : wr.cell? ⟨ga, k, none⟩ = some (.int .i64 t) := by rw [← ht]; exact hg.cell (HA.out k hlt) (by simp)
      have hcb : wr.cell? ⟨gb, k, none⟩ = some (.int .i64 t) := by rw [← ht]; exact hg.cell (HB.out k hlt) (by simp)
      clear ht
      go_wp2
      go_region
      all_goals (try go_wp2)
      go_roundw
      case rel => exact ⟨k + 1, by omega, by go_num, hg.trans (grown_drew _ _)⟩
      case measure => simp [intOf]; omega
    · go_wp2
      go_ret
      exact ⟨rfl, hg⟩

set_option maxHeartbeats 400000 in
set_option maxRecDepth 100000 in
theorem eqIntEmpty (w : World) (aa ab : Option Addr) (ca cb : Nat) :
    Calls Try.prog 27 #[.slice aa 0 ca, .slice ab 0 cb] w fun e w' => e = .returned (.bool true) ∧ w.grownBy w' none := by
  go_enter Try.func27, Try.ntmps27
  go_wp2
  refine wp_loop_rounds 1 ?_
  rw [rounds_succ]
  go_wp2
  go_ret
  exact ⟨rfl, World.grownBy.refl _ _⟩

theorem eqIntV (w : World) (ba bb : Nat) (va vb : Value) (ls : List Int) (hn : ls.length ≤ 1100000)
    (ha : w.ownsRow ba 2 1 va ls.length (intsV ls)) (hb : w.ownsRow bb 2 1 vb ls.length (intsV ls)) :
    Calls Try.prog 27 #[va, vb] w fun e w' => e = .returned (.bool true) ∧ w.grownBy w' none := by
  rcases own_forms ha with ⟨rfl, h0, _⟩ | ⟨ga, ca, rfl⟩
  · rcases own_forms hb with ⟨rfl, _, _⟩ | ⟨gb, cb, rfl⟩
    · exact eqIntEmpty w none none 0 0
    · rw [h0]; exact eqIntEmpty w none (some ⟨gb, 0, none⟩) 0 cb
  · rcases own_forms hb with ⟨rfl, h0, _⟩ | ⟨gb, cb, rfl⟩
    · rw [h0]; exact eqIntEmpty w (some ⟨ga, 0, none⟩) none ca 0
    · exact eqIntC w ba bb ga gb ca cb ls hn ha hb

set_option maxHeartbeats 1000000 in
set_option maxRecDepth 100000 in
theorem markIntC (w : World) (base g cp n k0 : Nat) (xs : List Value) (hn : n ≤ 1100000) (hk1 : k0 ≤ 800000)
    (h : w.ownsRow base 2 1 (.slice (some ⟨g, 0, none⟩) n cp) n xs) :
    Calls Try.prog 29 #[.slice (some ⟨g, 0, none⟩) n cp, .int .i64 k0] w fun e w' => e = .returned (.int .i64 ((k0 + n : Nat) : Int)) ∧ w'.ownsRow base 2 1 (.slice (some ⟨g, 0, none⟩) n cp) n (intsV (marksI k0 n)) ∧ w.grownBy w' (some g) := by
  have hxl : Hid (xs.length = n) := by exact (by have := h.1; omega : xs.length = n)
  have hgl : g < w.heap.size := (h.lt g rfl).2
  go_enter Try.func29, Try.ntmps29
  go_wp2
  go_loopw [1, 5] (fun k i wr => ∃ m : Nat, m ≤ n ∧ i = .int .i64 m ∧ k = .int .i64 ((k0 + m : Nat) : Int) ∧ wr.ownsRow base 2 1 (.slice (some ⟨g, 0, none⟩) n cp) n (intsV (marksI k0 m) ++ xs.drop m) ∧ w.grownBy wr (some g)) (fun _ i _ => n - (intOf i).toNat)
  case atStart => exact ⟨0, Nat.zero_le _, rfl, rfl, h, World.grownBy.refl _ _⟩
  case round =>
    obtain ⟨m, hm, rfl, rfl, hown, hg⟩ := hrel
    by_cases hlt : m < n
    · have hc1 : ∃ u, wr.cell? ⟨g, m, none⟩ = some u := by
        rw [hown.cellAt m (by omega)]
        have hl : m < (intsV (marksI k0 m) ++ xs.drop m).length := by rw [List.length_append, intsV_len, marksI_len, List.length_drop]; have := hxl.out; omega
        exact ⟨_, List.getElem?_eq_getElem hl⟩
      obtain ⟨u, hc1⟩ := hc1
      have hf1 := hown.frozenAt m
      have hst := hown.stored m (.int .i64 ((k0 + m : Nat) : Int))
      rw [marksI_set k0 m xs (by have := hxl.out; omega)] at hst
      have hst2 := hg.trans hst.2
      have hst1 := hst.1
      clear hown hst hg
      go_wp2
      go_roundw
      case rel => exact ⟨m + 1, by omega, by go_num, by go_num, hst1, hst2⟩
      case measure => simp [intOf]; omega
    · obtain rfl : m = n := by omega
      have hd : xs.drop m = [] := List.drop_eq_nil_of_le (by have := hxl.out; omega)
      rw [hd, List.append_nil] at hown
      clear hd
      go_wp2
      go_ret
      exact ⟨rfl, hown, hg⟩

set_option maxHeartbeats 400000 in
set_option maxRecDepth 100000 in
theorem markIntNil (w : World) (k0 : Nat) :
    Calls Try.prog 29 #[.slice none 0 0, .int .i64 k0] w fun e w' => e = .returned (.int .i64 (k0 : Int)) ∧ w' = w := by
  go_enter Try.func29, Try.ntmps29
  go_wp2
  refine wp_loop_rounds 1 ?_
  rw [rounds_succ]
  go_wp2
  go_ret
  exact ⟨rfl, rfl⟩

theorem markIntV (w : World) (base n k0 : Nat) (v : Value) (xs : List Value) (hn : n ≤ 1100000) (hk1 : k0 ≤ 800000) (h : w.ownsRow base 2 1 v n xs) :
    Calls Try.prog 29 #[v, .int .i64 k0] w fun e w' => e = .returned (.int .i64 ((k0 + n : Nat) : Int)) ∧ w'.ownsRow base 2 1 v n (intsV (marksI k0 n)) ∧ w.grownBy w' v.ownBlock := by
  rcases own_forms h with ⟨rfl, rfl, rfl⟩ | ⟨g, cp, rfl⟩
  · refine (markIntNil w k0).mono ?_
    rintro e w' ⟨rfl, rfl⟩
    exact ⟨rfl, h, World.grownBy.refl _ _⟩
  · exact markIntC w base g cp n k0 xs hn hk1 h

set_option maxHeartbeats 1000000 in
set_option maxRecDepth 100000 in
theorem heldIntC (w : World) (base g cp n k0 : Nat) (hn : n ≤ 1100000) (hk1 : k0 ≤ 800000)
    (h : w.ownsRow base 2 1 (.slice (some ⟨g, 0, none⟩) n cp) n (intsV (marksI k0 n))) :
    Calls Try.prog 30 #[.slice (some ⟨g, 0, none⟩) n cp, .int .i64 k0] w fun e w' => e = .returned (.int .i64 ((k0 + n : Nat) : Int)) ∧ w.grownBy w' none := by
  have hself : ∀ n : Int, (n != n) = false := by simp
  have HA : Hid (∀ j, j < n → w.cell? ⟨g, j, none⟩ = some (.int .i64 ((k0 + j : Nat) : Int))) := fun j hj => by rw [h.cellAt j (by omega), marksI_at k0 n j hj]
  clear h
  go_enter Try.func30, Try.ntmps30
  go_wp2
  go_loopw [1, 5] (fun k i wr => ∃ m : Nat, m ≤ n ∧ i = .int .i64 m ∧ k = .int .i64 ((k0 + m : Nat) : Int) ∧ w.grownBy wr none) (fun _ i _ => n - (intOf i).toNat)
  case atStart => exact ⟨0, Nat.zero_le _, rfl, rfl, World.grownBy.refl _ _⟩
  case round =>
    obtain ⟨m, hm, rfl, rfl, hg⟩ := hrel
    by_cases hlt : m < n
    · have hca : wr.cell? ⟨g, m, none⟩ = some (.int .i64 ((k0 + m : Nat) : Int)) := hg.cell (HA.out m hlt) (by simp)
      obtain ⟨q, hq⟩ : ∃ q : Nat, k0 + m = q := ⟨_, rfl⟩
      have hq2 : q ≤ 1900000 := by omega
      have HQ : Hid (k0 + (m + 1) = q + 1) := by exact (by omega : k0 + (m + 1) = q + 1)
      rw [hq] at hca ⊢
      clear hq
      go_wp2
      go_roundw
      case rel => exact ⟨m + 1, by omega, by go_num, by rw [HQ.out]; go_num, hg⟩
      case measure => simp [intOf]; omega
    · obtain rfl : m = n := by omega
      go_wp2
      go_ret
      exact ⟨rfl, hg⟩

set_option maxHeartbeats 400000 in
set_option maxRecDepth 100000 in
theorem heldIntNil (w : World) (k0 : Nat) :
    Calls Try.prog 30 #[.slice none 0 0, .int .i64 k0] w fun e w' => e = .returned (.int .i64 (k0 : Int)) ∧ w' = w := by
  go_enter Try.func30, Try.ntmps30
  go_wp2
  refine wp_loop_rounds 1 ?_
  rw [rounds_succ]
  go_wp2
  go_ret
  exact ⟨rfl, rfl⟩

theorem heldIntV (w : World) (base n k0 : Nat) (v : Value) (hn : n ≤ 1100000) (hk1 : k0 ≤ 800000) (h : w.ownsRow base 2 1 v n (intsV (marksI k0 n))) :
    Calls Try.prog 30 #[v, .int .i64 k0] w fun e w' => e = .returned (.int .i64 ((k0 + n : Nat) : Int)) ∧ w.grownBy w' none := by
  rcases own_forms h with ⟨rfl, rfl, _⟩ | ⟨g, cp, rfl⟩
  · refine (heldIntNil w k0).mono ?_
    rintro e w' ⟨rfl, rfl⟩
    exact ⟨rfl, World.grownBy.refl _ _⟩
  · exact heldIntC w base g cp n k0 hn hk1 h

set_option maxHeartbeats 1000000 in
set_option maxRecDepth 100000 in
theorem likeIntC (w : World) (ba bb ga gb ca cb : Nat) (ls : List Int) (hn : ls.length ≤ 1100000)
    (ha : w.ownsRow ba 2 1 (.slice (some ⟨ga, 0, none⟩) ls.length ca) ls.length (intsV ls)) (hb : w.ownsRow bb 2 1 (.slice (some ⟨gb, 0, none⟩) ls.length cb) ls.length (intsV ls)) :
    Calls Try.prog 13 #[.slice (some ⟨ga, 0, none⟩) ls.length ca, .slice (some ⟨gb, 0, none⟩) ls.length cb] w fun e w' => e = .returned (.bool true) ∧ w.grownBy w' none := by
  have hself : ∀ n : Int, (n != n) = false := by simp
  have HA : Hid (∀ j (hj : j < ls.length), w.cell? ⟨ga, j, none⟩ = some (.int .i64 ls[j])) := fun j hj => by rw [ha.cellAt j (by omega), intsV_at ls j hj]
  have HB : Hid (∀ j (hj : j < ls.length), w.cell? ⟨gb, j, none⟩ = some (.int .i64 ls[j])) := fun j hj => by rw [hb.cellAt j (by omega), intsV_at ls j hj]
  clear ha hb
  go_enter Try.func13, Try.ntmps13
  go_wp2
  go_loopw [5] (fun i wr => ∃ k : Nat, k ≤ ls.length ∧ i = .int .i64 k ∧ w.grownBy wr none) (fun i _ => ls.length - (intOf i).toNat)
  case atStart => exact ⟨0, Nat.zero_le _, rfl, World.grownBy.refl _ _⟩
  case round =>
    obtain ⟨k, hk, rfl, hg⟩ := hrel
    by_cases hlt : k < ls.length
    · obtain ⟨t, ht⟩ : ∃ t, ls[k] = t := ⟨_, rfl⟩
      have hca : wr.cell? ⟨ga, k, none⟩ = some (.int .i64 t) := by rw [← ht]; exact hg.cell (HA.out k hlt) (by simp)
      have hcb : wr.cell? ⟨gb, k, none⟩ = some (.int .i64 t) := by rw [← ht]; exact hg.cell (HB.out k hlt) (by simp)
      clear ht
      go_wp2
      go_region
      all_goals (try go_wp2)
      go_roundw
      case rel => exact ⟨k + 1, by omega, by go_num, hg.trans (grown_drew _ _)⟩
      case measure => simp [intOf]; omega
    · go_wp2
      go_ret
      exact ⟨rfl, hg⟩

set_option maxHeartbeats 400000 in
set_option maxRecDepth 100000 in
theorem likeIntEmpty (w : World) (aa ab : Option Addr) (ca cb : Nat) :
    Calls Try.prog 13 #[.slice aa 0 ca, .slice ab 0 cb] w fun e w' => e = .returned (.bool true) ∧ w.grownBy w' none := by
  go_enter Try.func13, Try.ntmps13
  go_wp2
  refine wp_loop_rounds 1 ?_
  rw [rounds_succ]
  go_wp2
  go_ret
  exact ⟨rfl, World.grownBy.refl _ _⟩

theorem likeIntV (w : World) (ba bb : Nat) (va vb : Value) (ls : List Int) (hn : ls.length ≤ 1100000)
    (ha : w.ownsRow ba 2 1 va ls.length (intsV ls)) (hb : w.ownsRow bb 2 1 vb ls.length (intsV ls)) :
    Calls Try.prog 13 #[va, vb] w fun e w' => e = .returned (.bool true) ∧ w.grownBy w' none := by
  rcases own_forms ha with ⟨rfl, h0, _⟩ | ⟨ga, ca, rfl⟩
  · rcases own_forms hb with ⟨rfl, _, _⟩ | ⟨gb, cb, rfl⟩
    · exact likeIntEmpty w none none 0 0
    · rw [h0]; exact likeIntEmpty w none (some ⟨gb, 0, none⟩) 0 cb
  · rcases own_forms hb with ⟨rfl, h0, _⟩ | ⟨gb, cb, rfl⟩
    · rw [h0]; exact likeIntEmpty w (some ⟨ga, 0, none⟩) none ca 0
    · exact likeIntC w ba bb ga gb ca cb ls hn ha hb

end Go.Proofs.Ytjkfjenhocaljaa
