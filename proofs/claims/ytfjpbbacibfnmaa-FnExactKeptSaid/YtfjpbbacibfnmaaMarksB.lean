/-
  The contracts of the exact laws' own helpers over stores: markStore, heldStore.
-/
import Derived.Test.YtfjpbbacibfnmaaStoreM
import Derived.Test.YtfjpbbacibfnmaaMarks
import Derived.Deep.RegionWith
namespace Go.Proofs.Ytfjpbbacibfnmaa
open Go.RowKit

theorem own_in {w : World} {base n : Nat} {a : Option Addr} {cap : Nat} {bs : List Bl} (h : w.ownsRow base 39 2 (.slice a n cap) n (blobV bs)) : BlobsIn w a n cap bs := by
  obtain ⟨_, a', cap', e, hin⟩ := own_blobs h
  simp only [Value.slice.injEq, true_and] at e
  obtain ⟨rfl, rfl⟩ := e
  exact hin

theorem own_ne2 {w : World} {base e size n : Nat} {v v2 : Value} {xs : List Value} (_h : w.ownsRow base e size v n xs) (hd : ∀ q, v.ownBlock = some q → v2.ownBlock = some q → False) : v.ownBlock = none ∨ v.ownBlock ≠ v2.ownBlock := by
  rcases hv : v.ownBlock with _ | q
  · exact Or.inl rfl
  · exact Or.inr (fun e => hd q hv e.symm)

theorem keptB_len (room : Int) (bs : List Bl) (t : List UInt8) : (keptB room bs t).length ≤ bs.length + 1 := by
  unfold keptB
  split
  · unfold keepB
    simp only []
    split
    · omega
    · split
      · omega
      · rw [List.length_append, List.length_append, List.length_take, List.length_drop]; simp; omega
  · simp

/-- The marks of m blobs, from k on. -/
def marksB (k : Nat) : Nat → List Bl
  | 0 => []
  | m + 1 => marksB k m ++ [(((k + 2 * m : Nat) : Int), markL (k + 2 * m + 1))]

theorem marksB_len (k m : Nat) : (marksB k m).length = m := by
  induction m with
  | zero => rfl
  | succ m ih => simp [marksB, ih]

theorem marksB_at (k m j : Nat) (h : j < m) : (marksB k m).getD j (0, []) = (((k + 2 * j : Nat) : Int), markL (k + 2 * j + 1)) := by
  induction m with
  | zero => omega
  | succ m ih =>
    unfold marksB
    by_cases hj : j < m
    · rw [← ih hj]
      simp [List.getD, List.getElem?_append, marksB_len, hj]
    · obtain rfl : j = m := by omega
      simp [List.getD, marksB_len]

theorem marksB_set (k i : Nat) (bs : List Bl) (h : i < bs.length) : (marksB k i ++ bs.drop i).set i (((k + 2 * i : Nat) : Int), markL (k + 2 * i + 1)) = marksB k (i + 1) ++ bs.drop (i + 1) := by
  rw [List.set_append_right _ _ (by rw [marksB_len]; omega), marksB_len, Nat.sub_self, List.drop_eq_getElem_cons h, List.set_cons_zero]
  conv => rhs; unfold marksB
  rw [List.append_assoc]; rfl

set_option maxHeartbeats 2000000 in
theorem markBlobSC (w : World) (base g cp n k0 : Nat) (bs : List Bl) (hn : n ≤ 1100000) (hk0 : 0 < k0) (hk1 : k0 ≤ 1000)
    (h : w.ownsRow base 39 2 (.slice (some ⟨g, 0, none⟩) n cp) n (blobV bs)) :
    Calls Try.prog 61 #[.slice (some ⟨g, 0, none⟩) n cp, .int .i64 k0] w fun e w' => e = .returned (.int .i64 ((k0 + 2 * n : Nat) : Int)) ∧ w'.ownsRow base 39 2 (.slice (some ⟨g, 0, none⟩) n cp) n (blobV (marksB k0 n)) ∧ w.grownBy w' (some g) := by
  have hbl := (own_blobs h).1
  go_enter Try.func61, Try.ntmps61
  go_wp2
  go_loopw [1, 5] (fun k i wr => ∃ m : Nat, m ≤ n ∧ i = .int .i64 m ∧ k = .int .i64 ((k0 + 2 * m : Nat) : Int) ∧ wr.ownsRow base 39 2 (.slice (some ⟨g, 0, none⟩) n cp) n (blobV (marksB k0 m ++ bs.drop m)) ∧ w.grownBy wr (some g)) (fun _ i _ => n - (intOf i).toNat)
  case atStart => exact ⟨0, Nat.zero_le _, rfl, rfl, h, World.grownBy.refl _ _⟩
  case round =>
    obtain ⟨m, hm, rfl, rfl, hown, hg⟩ := hrel
    by_cases hlt : (m : Int) < (n : Int)
    · have hl2 : (marksB k0 m ++ bs.drop m).length = n := (own_blobs hown).1
      have hset := marksB_set k0 m bs (by omega)
      obtain ⟨q, hq⟩ : ∃ q, k0 + 2 * m = q := ⟨_, rfl⟩
      have hq2 : k0 + 2 * (m + 1) = q + 1 + 1 := by omega
      have hq3 : q ≤ 2300000 := by omega
      rw [hq] at hset ⊢
      have HQ2 : Hid (k0 + 2 * (m + 1) = q + 1 + 1) := hq2
      clear hq hq2
      obtain ⟨u0, d0⟩ : ∃ u, wr.cell? ⟨g, m * 2, none⟩ = some u := by
        rw [hown.cellAt (m * 2) (by omega), (blobV_at _ m (by omega)).1]; exact ⟨_, rfl⟩
      have e0 := hown.frozenAt (m * 2)
      have hs1 := hown.stored (m * 2) (.int .i64 (q : Int))
      obtain ⟨W1, hW1⟩ : ∃ W1, wr.setCell ⟨g, m * 2, none⟩ (.int .i64 (q : Int)) = W1 := ⟨_, rfl⟩
      rw [hW1] at hs1
      have HS1 : Hid (W1.ownsRow base 39 2 (.slice (some ⟨g, 0, none⟩) n cp) n ((blobV (marksB k0 m ++ bs.drop m)).set (m * 2) (.int .i64 (q : Int)))) := hs1.1
      have HG1 : Hid (w.grownBy W1 (some g)) := hg.trans hs1.2
      clear hs1
      go_wp2_with fail
      refine (markTextC (q + 1) _ (by omega) (by omega)).mono ?_
      rintro e w2 ⟨rfl, hg2⟩
      have hown2 := own_none HS1.out hg2
      obtain ⟨u1, d1⟩ : ∃ u, w2.cell? ⟨g, m * 2 + 1, none⟩ = some u := by
        rw [hown2.cellAt (m * 2 + 1) (by omega), List.getElem?_set_ne (by omega), (blobV_at _ m (by omega)).2]; exact ⟨_, rfl⟩
      have e1 := hown2.frozenAt (m * 2 + 1)
      have hs2 := hown2.stored (m * 2 + 1) (.string ⟨(markL (q + 1)).toArray⟩)
      rw [blobV_set, hset] at hs2
      have hg3 := (HG1.out.andThen hg2 (by simp)).trans hs2.2
      have hs3 := hs2.1
      clear hown2 hs2 hown hg hg2
      go_wp2
      go_roundw
      case rel => exact ⟨m + 1, by omega, by go_num, by rw [HQ2.out]; go_num, hs3, hg3⟩
      case measure => simp [intOf]; omega
    · obtain rfl : m = n := by omega
      have hd : bs.drop m = [] := List.drop_eq_nil_of_le (by omega)
      rw [hd, List.append_nil] at hown
      clear hd
      go_wp2
      go_ret
      exact ⟨rfl, hown, hg⟩

set_option maxHeartbeats 2000000 in
theorem heldBlobSC (w : World) (a : Option Addr) (cap n k0 : Nat) (hn : n ≤ 1100000) (hk0 : 0 < k0) (hk1 : k0 ≤ 1000) (h : BlobsIn w a n cap (marksB k0 n)) :
    Calls Try.prog 62 #[.slice a n cap, .int .i64 k0] w fun e w' => e = .returned (.int .i64 ((k0 + 2 * n : Nat) : Int)) ∧ w.grownBy w' none := by
  have hself : ∀ l : List UInt8, (l != l) = false := by simp
  have HI : Hid (BlobsIn w a n cap (marksB k0 n)) := h
  clear h
  go_enter Try.func62, Try.ntmps62
  go_wp2
  go_loopw [1, 5] (fun k i wr => ∃ m : Nat, m ≤ n ∧ i = .int .i64 m ∧ k = .int .i64 ((k0 + 2 * m : Nat) : Int) ∧ w.grownBy wr none) (fun _ i _ => n - (intOf i).toNat)
  case atStart => exact ⟨0, Nat.zero_le _, rfl, rfl, World.grownBy.refl _ _⟩
  case round =>
    obtain ⟨m, hm, rfl, rfl, hg⟩ := hrel
    by_cases hlt : (m : Int) < (n : Int)
    · obtain ⟨b, off, rfl, hbl, hcells⟩ := HI.out.at (by omega)
      obtain ⟨ck0, ct0⟩ := hcells m (by omega)
      rw [marksB_at k0 n m (by omega)] at ck0 ct0
      simp only at ck0 ct0
      obtain ⟨q, hq⟩ : ∃ q, k0 + 2 * m = q := ⟨_, rfl⟩
      have HQ2 : Hid (k0 + 2 * (m + 1) = q + 1 + 1) := by exact (by omega : k0 + 2 * (m + 1) = q + 1 + 1)
      have hq3 : q ≤ 2300000 := by omega
      rw [hq] at ck0 ct0 ⊢
      clear hq
      have ck : wr.cell? ⟨b, off + m * 2, none⟩ = some (.int .i64 (q : Int)) := hg.cell ck0 (by simp)
      have ct : wr.cell? ⟨b, off + m * 2 + 1, none⟩ = some (.string ⟨(markL (q + 1)).toArray⟩) := hg.cell ct0 (by simp)
      have hne : ((q : Int) != (q : Int)) = false := by simp
      clear ck0 ct0 hcells
      go_wp2
      go_region_with (go_at_call 63; refine (markTextC (q + 1) _ (by omega) (by omega)).mono ?_; rintro e w1 ⟨rfl, hg1⟩; have ct1 := hg1.cell (a := ⟨b, off + m * 2 + 1, none⟩) ct (by simp))
      all_goals (try go_wp2)
      all_goals
        go_roundw
        case rel => exact ⟨m + 1, by omega, by go_num, by rw [HQ2.out]; go_num, by first | exact hg.trans hg1 | exact (hg.trans (grown_drew _ _)).trans hg1⟩
        case measure => simp [intOf]; omega
    · obtain rfl : m = n := by omega
      go_wp2
      go_ret
      exact ⟨rfl, hg⟩

set_option maxHeartbeats 1000000 in
theorem markBlobSNil (w : World) (k0 : Nat) :
    Calls Try.prog 61 #[.slice none 0 0, .int .i64 k0] w fun e w' => e = .returned (.int .i64 (k0 : Int)) ∧ w' = w := by
  go_enter Try.func61, Try.ntmps61
  go_wp2
  refine wp_loop_rounds 1 ?_
  rw [rounds_succ]
  go_wp2
  go_ret
  exact ⟨rfl, rfl⟩

theorem markBlobSV (w : World) (base n k0 : Nat) (v : Value) (bs : List Bl) (hn : n ≤ 1100000) (hk0 : 0 < k0) (hk1 : k0 ≤ 1000) (h : w.ownsRow base 39 2 v n (blobV bs)) :
    Calls Try.prog 61 #[v, .int .i64 k0] w fun e w' => e = .returned (.int .i64 ((k0 + 2 * n : Nat) : Int)) ∧ w'.ownsRow base 39 2 v n (blobV (marksB k0 n)) ∧ w.grownBy w' v.ownBlock := by
  rcases own_forms h with ⟨rfl, rfl, _⟩ | ⟨g, cp, rfl⟩
  · refine (markBlobSNil w k0).mono ?_
    rintro e w' ⟨rfl, rfl⟩
    exact ⟨rfl, World.ownsRow_nil _ _ _ _, World.grownBy.refl _ _⟩
  · exact markBlobSC w base g cp n k0 bs hn hk0 hk1 h

set_option maxHeartbeats 1000000 in
theorem markStoreC (w : World) (base n k0 : Nat) (room : Int) (v : Value) (bs : List Bl) (hn : n ≤ 1100000) (hk0 : 0 < k0) (hk1 : k0 ≤ 1000) (h : w.ownsRow base 39 2 v n (blobV bs)) :
    Calls Try.prog 34 #[.agg #[.int .i64 room, v], .int .i64 k0] w fun e w' => e = .returned (.int .i64 ((k0 + 2 * n : Nat) : Int)) ∧ w'.ownsRow base 39 2 v n (blobV (marksB k0 n)) ∧ w.grownBy w' v.ownBlock := by
  obtain ⟨_, a, cap, rfl, _⟩ := own_blobs h
  have h1 := h.alloc (.cells #[.int .i64 room, .slice a n cap] 26)
  obtain ⟨z, hz⟩ : ∃ z, k0 + 2 * n = z := ⟨_, rfl⟩
  have HZ : Hid (k0 + 2 * n = z) := hz
  clear hz
  go_enter Try.func34, Try.ntmps34
  go_wp2_with fail
  refine (markBlobSV _ base n k0 _ bs hn hk0 hk1 h1).mono ?_
  rintro e w1 ⟨rfl, hown1, hg1⟩
  rw [HZ.out]
  go_wp2
  go_ret
  exact ⟨by rw [HZ.out]; rfl, hown1, (World.grownBy_alloc _ _ _).trans hg1⟩

set_option maxHeartbeats 1000000 in
theorem heldStoreC (w : World) (a : Option Addr) (cap n k0 : Nat) (room : Int) (hn : n ≤ 1100000) (hk0 : 0 < k0) (hk1 : k0 ≤ 1000) (h : BlobsIn w a n cap (marksB k0 n)) :
    Calls Try.prog 35 #[.agg #[.int .i64 room, .slice a n cap], .int .i64 k0] w fun e w' => e = .returned (.int .i64 ((k0 + 2 * n : Nat) : Int)) ∧ w.grownBy w' none := by
  have h1 := h.alloc (.cells #[.int .i64 room, .slice a n cap] 26)
  obtain ⟨z, hz⟩ : ∃ z, k0 + 2 * n = z := ⟨_, rfl⟩
  have HZ : Hid (k0 + 2 * n = z) := hz
  have hz0 : (0 : Int) ≤ (z : Int) := by omega
  clear hz
  go_enter Try.func35, Try.ntmps35
  go_wp2_with fail
  refine (heldBlobSC _ a cap n k0 hn hk0 hk1 h1).mono ?_
  rintro e w1 ⟨rfl, hg1⟩
  rw [HZ.out]
  go_wp2
  go_ret
  exact ⟨by rw [HZ.out]; rfl, (World.grownBy_alloc _ _ _).trans hg1⟩

end Go.Proofs.Ytfjpbbacibfnmaa
