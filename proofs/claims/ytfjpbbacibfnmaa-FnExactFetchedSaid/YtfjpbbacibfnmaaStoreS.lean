/-
  The contracts of chapter 3's specification: how much is taken, is a store right.
-/
import Derived.Test.YtfjpbbacibfnmaaMath3
import Derived.Test.YtfjpbbacibfnmaaOwn
import Derived.Test.YtfjpbbacibfnmaaHash
import Derived.Test.YtfjpbbacibfnmaaLists
import Derived.Test.YtfjpbbacibfnmaaStoreIn
import Derived.Deep.RegionHeld3
import Derived.Deep.RegionWith
import Derived.Deep.QuietTactic
import Derived.BigQuiet
namespace Go.Proofs.Ytfjpbbacibfnmaa
open Go.RowKit

theorem BlobsIn.below {w w' : World} {a : Option Addr} {len cap : Nat} {bs : List Bl} (h : BlobsIn w a len cap bs) (hb : Below w.heap.size w w') : BlobsIn w' a len cap bs := by
  refine ⟨h.1, h.2.1, fun j hj => ?_⟩
  obtain ⟨b, off, e, hlt, c0, c1⟩ := h.2.2 j hj
  exact ⟨b, off, e, Nat.lt_of_lt_of_le hlt hb.size, (hb.cell (p := ⟨b, off + j * 2, none⟩) hlt).trans c0, (hb.cell (p := ⟨b, off + j * 2 + 1, none⟩) hlt).trans c1⟩

theorem BlobsIn.alloc {w : World} {a : Option Addr} {len cap : Nat} {bs : List Bl} (h : BlobsIn w a len cap bs) (o : Obj) : BlobsIn (w.alloc o) a len cap bs := h.below ((Below.refl _ w).alloc (Nat.le_refl _) o)

/-- A list of blobs that is not empty lies at one address. -/
theorem BlobsIn.at {w : World} {a : Option Addr} {len cap : Nat} {bs : List Bl} (h : BlobsIn w a len cap bs) (hz : 0 < len) : ∃ b off, a = some ⟨b, off, none⟩ ∧ b < w.heap.size ∧
    ∀ j, j < len → w.cell? ⟨b, off + j * 2, none⟩ = some (.int .i64 (bs.getD j (0, [])).1) ∧ w.cell? ⟨b, off + j * 2 + 1, none⟩ = some (.string ⟨(bs.getD j (0, [])).2.toArray⟩) := by
  obtain ⟨b, off, rfl, hb, _⟩ := h.2.2 0 hz
  refine ⟨b, off, rfl, hb, fun j hj => ?_⟩
  obtain ⟨b', off', e, _, c0, c1⟩ := h.2.2 j hj
  injection e with e
  injection e with e1 e2
  subst e1 e2
  exact ⟨c0, c1⟩

theorem getD_len (bs : List Bl) (k : Nat) : (bs.getD k (0, [])).2.length ≤ takenL bs := by
  by_cases h : k < bs.length
  · have : bs.getD k (0, []) = bs[k] := by simp [List.getD, h]
    rw [this]; exact takenL_le bs k h
  · have : bs.getD k (0, []) = (0, []) := by simp [List.getD, h]
    rw [this]; simp

theorem below_box {w w1 : World} {o : Obj} (h : Below (w.alloc o).drew.heap.size (w.alloc o).drew w1) : Below w.heap.size w w1 :=
  ((Below.refl _ w).alloc (Nat.le_refl _) o).trans (⟨h.os, h.tape, h.output, h.size, fun k hk => h.block k (by simp; omega)⟩ : Below w.heap.size (w.alloc o) w1)

theorem below_drewN (B : Nat) (w : World) (n : Nat) : Below B w (w.drewN n) := ⟨rfl, rfl, rfl, Nat.le_refl _, fun _ _ => rfl⟩

set_option maxHeartbeats 1000000 in
theorem specL3Taken (room : Int) (a : Option Addr) (len cap : Nat) (bs : List Bl) (w : World) (hin : BlobsIn w a len cap bs) (hl : takenL bs ≤ 4194304) (hlen : len ≤ 4194304) :
    Calls Try.prog 55 #[.agg #[.int .i64 room, .slice a len cap]] w fun e w' => e = .returned (.int .i64 (takenL bs : Nat)) ∧ Below w.heap.size w w' := by
  have hlb := hin.1
  have HI : Hid (BlobsIn w a len cap bs) := hin
  clear hin
  go_enter Try.func55, Try.ntmps55
  go_wp2
  go_loop [3, 4] (fun n i => ∃ k : Nat, k ≤ len ∧ i = .int .i64 k ∧ n = .int .i64 (takenL (bs.take k) : Nat)) (fun _ i => len - (intOf i).toNat)
  case atStart => exact ⟨0, Nat.zero_le _, rfl, rfl⟩
  case round =>
    obtain ⟨k, hk, rfl, rfl⟩ := hrel
    by_cases hlt : (k : Int) < (len : Int)
    · obtain ⟨b, off, rfl, hb, c0, c1⟩ := (HI.out.alloc (.cells #[.int .i64 room, .slice a len cap] 26)).2.2 k (by omega)
      have hklt : k < bs.length := by omega
      have hg : bs.getD k (0, []) = bs[k] := by simp [List.getD, hklt]
      rw [hg] at c0 c1
      have hst := takenL_snoc bs k hklt
      have hle := takenL_take bs (k + 1)
      have HS : Hid (takenL (bs.take (k + 1)) = takenL (bs.take k) + bs[k].2.length) := hst
      have hbd : (takenL (bs.take k) : Int) + (bs[k].2.length : Int) ≤ 4194304 := by omega
      clear hst hle hg
      go_wp2
      go_round
      case rel => exact ⟨k + 1, by omega, by go_num, by rw [HS.out]; go_num⟩
      case measure => simp [intOf]; omega
    · have HT : Hid (bs.take k = bs) := List.take_of_length_le (by omega)
      go_wp2
      go_ret
      exact ⟨by rw [HT.out]; rfl, (Below.refl _ w).alloc (Nat.le_refl _) _⟩

set_option maxHeartbeats 400000 in
theorem specL1InT (x lo hi : Int) (w : World) (h1 : lo ≤ x) (h2 : x ≤ hi) :
    Calls Try.prog 54 #[.int .i64 x, .int .i64 lo, .int .i64 hi] w fun e w' => e = .returned (.bool true) ∧ w' = w := by
  go_enter Try.func54, Try.ntmps54
  go_wp2
  go_ret
  exact ⟨rfl, rfl⟩

set_option maxHeartbeats 400000 in
theorem specL1InF (x lo hi : Int) (w : World) (h : ¬ (lo ≤ x ∧ x ≤ hi)) :
    Calls Try.prog 54 #[.int .i64 x, .int .i64 lo, .int .i64 hi] w fun e w' => e = .returned (.bool false) ∧ w' = w := by
  by_cases h1 : lo ≤ x
  · have h2 : decide (x ≤ hi) = false := decide_eq_false (by omega)
    clear h
    go_enter Try.func54, Try.ntmps54
    go_wp2
    go_ret
    exact ⟨rfl, rfl⟩
  · have h2 : x < lo := by omega
    clear h h1
    go_enter Try.func54, Try.ntmps54
    go_wp2
    go_ret
    exact ⟨rfl, rfl⟩

set_option maxHeartbeats 4000000 in
theorem specStoreOk (room : Int) (a : Option Addr) (len cap : Nat) (bs : List Bl) (w : World) (hin : BlobsIn w a len cap bs) (hl : takenL bs ≤ 1048576) (hlen : len ≤ 1048576) :
    Calls Try.prog 19 #[.agg #[.int .i64 room, .slice a len cap]] w fun e w' => e = .returned (.bool (okB room bs)) ∧ Below w.heap.size w w' := by
  have hlb := hin.1
  have HI : Hid (BlobsIn w a len cap bs) := hin
  have HI1 : Hid (BlobsIn (w.alloc (.cells #[.int .i64 room, .slice a len cap] 26)) a len cap bs) := hin.alloc _
  have HI2 : Hid (BlobsIn (w.alloc (.cells #[.int .i64 room, .slice a len cap] 26)).drew a len cap bs) := hin.alloc _
  clear hin
  by_cases hr : 0 ≤ room ∧ room ≤ 100000
  · obtain ⟨hr0, hr1⟩ := hr
    by_cases ht : (takenL bs : Int) ≤ room
    · have hd : decide (room < (takenL bs : Int)) = false := decide_eq_false (by omega)
      have HR : Hid (roomOk room bs) := ⟨hr0, hr1, ht⟩
      go_enter Try.func19, Try.ntmps19
      go_wp2
      go_region_held3 (fun w' => w'.cell? ⟨w.heap.size, 0, none⟩ = some (.int .i64 room) ∧ w'.cell? ⟨w.heap.size, 1, none⟩ = some (.slice a len cap)) (go_keep) (first | (go_at_call 55; refine (specL3Taken room a len cap bs _ HI2.out (by omega) (by omega)).mono ?_; rintro e w1 ⟨rfl, hb1⟩; have hc0 : w1.cell? ⟨w.heap.size, 0, none⟩ = some (.int .i64 room) := (hb1.cell (p := ⟨w.heap.size, 0, none⟩) (by simp)).trans (by simp); have hc1 : w1.cell? ⟨w.heap.size, 1, none⟩ = some (.slice a len cap) := (hb1.cell (p := ⟨w.heap.size, 1, none⟩) (by simp)).trans (by simp)) | (go_at_call 54; refine (specL1InT _ _ _ _ hr0 hr1).mono ?_; rintro e w1 ⟨rfl, rfl⟩))
      all_goals go_wp2
      have hB1 : Below w.heap.size w w1 := below_box hb1
      have HI3 : Hid (BlobsIn w1 a len cap bs) := HI2.out.below hb1
      have hBlt : w.heap.size < w1.heap.size := by have := hb1.size; simp at this; omega
      clear hb1
      go_loopw [3] (fun i wr => ∃ k : Nat, k ≤ len ∧ i = .int .i64 k ∧ Hid (∀ j, j < k → okAt bs j) ∧ wr.cell? ⟨w.heap.size, 1, none⟩ = some (.slice a len cap) ∧ Hid (BlobsIn wr a len cap bs) ∧ w.heap.size < wr.heap.size ∧ Below w.heap.size w wr) (fun i _ => len - (intOf i).toNat)
      case atStart => exact ⟨0, Nat.zero_le _, rfl, (fun j hj => by omega : ∀ j, j < 0 → okAt bs j), hc1, HI3, hBlt, hB1⟩
      case round =>
        obtain ⟨k, hk, rfl, HK, hcb, HB, hlt, hBw⟩ := hrel
        clear hc0 hc1 HI3 hBlt hB1
        by_cases hkl : (k : Int) < (len : Int)
        · obtain ⟨b, off, rfl, hbl, hcells⟩ := HB.out.at (by omega)
          obtain ⟨ck, ct⟩ := hcells k (by omega)
          have hlk := getD_len bs k
          obtain ⟨x, hx⟩ : ∃ x, bs.getD k (0, []) = x := ⟨_, rfl⟩
          rw [hx] at ck ct hlk
          have HX : Hid (bs.getD k (0, []) = x) := hx
          obtain ⟨key, t⟩ := x
          simp only at ck ct hlk
          clear hx
          have hlt2 : w.heap.size ≠ wr.heap.size := by omega
          have hbl2 : b ≠ wr.heap.size := by omega
          by_cases h1 : 20000 < (t.length : Int)
          · have HO : Hid (okB room bs = false) := okB_no (fun h => by have := (h.2 k (by omega)).1; rw [HX.out] at this; simp at this; omega)
            have hd1 : decide (20000 < (t.length : Int)) = true := decide_eq_true h1
            go_wp2
            go_quiet (fail)
            go_wp2
            go_ret
            exact ⟨by rw [HO.out]; rfl, (hBw.alloc (Nat.le_of_lt hlt) _).trans (below_drewN _ _ _)⟩
          · have hd1 : decide (20000 < (t.length : Int)) = false := decide_eq_false h1
            by_cases h2 : hashL t = key
            · have hd2 : (hashL t != key) = false := by rw [h2]; simp
              rcases k with _ | m
              · have HS : Hid (∀ j, j < 0 + 1 → okAt bs j) := by
                  intro j hj
                  obtain rfl : j = 0 := by omega
                  exact ⟨by rw [HX.out]; simp; omega, by rw [HX.out]; exact h2, fun h => by omega⟩
                simp only [Nat.zero_mul, Nat.add_zero] at ck ct
                go_wp2
                go_quiet (first | (go_at_call 23; exact Calls.quiet_of_same (specHashX t _ (by omega))))
                go_wp2
                go_roundw
                case rel => exact ⟨0 + 1, by omega, by go_num, HS, (World.cell?_of_block (Below.heap_alloc _ _ _ hlt)).trans hcb, (HB.out.alloc _ : BlobsIn _ _ _ _ _), by simp; omega, (hBw.alloc (Nat.le_of_lt hlt) _).trans (below_drewN _ _ _)⟩
                case measure => simp [intOf]; omega
              · obtain ⟨cm, _⟩ := hcells m (by omega)
                obtain ⟨y, hy⟩ : ∃ y, (bs.getD m (0, [])).1 = y := ⟨_, rfl⟩
                rw [hy] at cm
                have HY : Hid ((bs.getD m (0, [])).1 = y) := hy
                clear hy
                have hm1 : ((m + 1 : Nat) : Int) - 1 = (m : Int) := by omega
                have hm2 : (0 : Int) ≤ (m : Int) := by omega
                have hm3 : (m : Int) < (len : Int) := by omega
                have hm4 : decide ((0 : Int) < ((m + 1 : Nat) : Int)) = true := decide_eq_true (by omega)
                by_cases h3 : key ≤ y
                · have HO : Hid (okB room bs = false) := okB_no (fun h => by have := (h.2 (m + 1) (by omega)).2.2 (by omega); rw [HX.out, Nat.add_sub_cancel, HY.out] at this; simp at this; omega)
                  have hd3 : decide (key ≤ y) = true := decide_eq_true h3
                  go_wp2
                  go_quiet (first | (go_at_call 23; exact Calls.quiet_of_same (specHashX t _ (by omega))))
                  go_wp2
                  go_ret
                  exact ⟨by rw [HO.out]; rfl, (hBw.alloc (Nat.le_of_lt hlt) _).trans (below_drewN _ _ _)⟩
                · have hd3 : decide (key ≤ y) = false := decide_eq_false h3
                  have HS : Hid (∀ j, j < m + 1 + 1 → okAt bs j) := by
                    intro j hj
                    by_cases hj2 : j < m + 1
                    · exact HK.out j hj2
                    · obtain rfl : j = m + 1 := by omega
                      exact ⟨by rw [HX.out]; simp; omega, by rw [HX.out]; exact h2, fun h => by rw [HX.out, Nat.add_sub_cancel, HY.out]; simp; omega⟩
                  go_wp2
                  go_quiet (first | (go_at_call 23; exact Calls.quiet_of_same (specHashX t _ (by omega))))
                  go_wp2
                  go_roundw
                  case rel => exact ⟨m + 1 + 1, by omega, by go_num, HS, (World.cell?_of_block (Below.heap_alloc _ _ _ hlt)).trans hcb, (HB.out.alloc _ : BlobsIn _ _ _ _ _), by simp; omega, (hBw.alloc (Nat.le_of_lt hlt) _).trans (below_drewN _ _ _)⟩
                  case measure => simp [intOf]; omega
            · have HO : Hid (okB room bs = false) := okB_no (fun h => by have := (h.2 k (by omega)).2.1; rw [HX.out] at this; exact h2 this)
              have hd2 : (hashL t != key) = true := bne_iff_ne.2 h2
              go_wp2
              go_quiet (first | (go_at_call 23; exact Calls.quiet_of_same (specHashX t _ (by omega))))
              go_wp2
              go_ret
              exact ⟨by rw [HO.out]; rfl, (hBw.alloc (Nat.le_of_lt hlt) _).trans (below_drewN _ _ _)⟩
        · have HO : Hid (okB room bs = true) := okB_yes ⟨HR.out, fun i hi => HK.out i (by omega)⟩
          go_wp2
          go_ret
          exact ⟨by rw [HO.out]; rfl, hBw⟩
    · have HO : Hid (okB room bs = false) := okB_no (fun h => ht h.1.2.2)
      have hd : decide (room < (takenL bs : Int)) = true := decide_eq_true (by omega)
      go_enter Try.func19, Try.ntmps19
      go_wp2
      go_region_held3 (fun w' => w'.cell? ⟨w.heap.size, 0, none⟩ = some (.int .i64 room) ∧ w'.cell? ⟨w.heap.size, 1, none⟩ = some (.slice a len cap)) (go_keep) (first | (go_at_call 55; refine (specL3Taken room a len cap bs _ HI2.out (by omega) (by omega)).mono ?_; rintro e w1 ⟨rfl, hb1⟩; have hc0 : w1.cell? ⟨w.heap.size, 0, none⟩ = some (.int .i64 room) := (hb1.cell (p := ⟨w.heap.size, 0, none⟩) (by simp)).trans (by simp); have hc1 : w1.cell? ⟨w.heap.size, 1, none⟩ = some (.slice a len cap) := (hb1.cell (p := ⟨w.heap.size, 1, none⟩) (by simp)).trans (by simp)) | (go_at_call 54; refine (specL1InT _ _ _ _ hr0 hr1).mono ?_; rintro e w1 ⟨rfl, rfl⟩))
      all_goals go_wp2
      go_ret
      exact ⟨by rw [HO.out]; rfl, below_box hb1⟩
  · have HO : Hid (okB room bs = false) := okB_no (fun h => hr ⟨h.1.1, h.1.2.1⟩)
    go_enter Try.func19, Try.ntmps19
    go_wp2
    go_quiet (first | (go_at_call 54; exact Calls.quiet_of_same (specL1InF _ _ _ _ hr)))
    go_wp2
    go_ret
    exact ⟨by rw [HO.out]; rfl, ((Below.refl _ w).alloc (Nat.le_refl _) _).trans (below_drewN _ _ _)⟩

end Go.Proofs.Ytfjpbbacibfnmaa
