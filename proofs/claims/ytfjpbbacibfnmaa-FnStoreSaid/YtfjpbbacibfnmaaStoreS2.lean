/-
  The contracts of chapter 3's specification: Taken, Fetched.
-/
import Derived.Test.YtfjpbbacibfnmaaStoreS
namespace Go.Proofs.Ytfjpbbacibfnmaa
open Go.RowKit

set_option maxHeartbeats 1000000 in
theorem specTaken (room : Int) (a : Option Addr) (len cap : Nat) (bs : List Bl) (w : World) (hin : BlobsIn w a len cap bs) (hl : takenL bs ≤ 1048576) (hlen : len ≤ 1048576) :
    Calls Try.prog 21 #[.agg #[.int .i64 room, .slice a len cap]] w fun e w' => e = .returned (.int .i64 (takenI room bs)) ∧ Below w.heap.size w w' := by
  have hin1 := hin.alloc (.cells #[.int .i64 room, .slice a len cap] 26)
  obtain ⟨b, hb⟩ : ∃ b, okB room bs = b := ⟨_, rfl⟩
  have HB : Hid (okB room bs = b) := hb
  rcases b with _ | _
  · have HT : Hid (takenI room bs = -1) := by unfold takenI; rw [hb]; rfl
    clear hb
    go_enter Try.func21, Try.ntmps21
    go_wp2_with fail
    refine (specStoreOk room a len cap bs _ hin1 hl hlen).mono ?_
    rintro e w1 ⟨rfl, hb1⟩
    rw [HB.out]
    go_wp2
    go_ret
    exact ⟨by rw [HT.out]; rfl, ((Below.refl _ w).alloc (Nat.le_refl _) _).trans (hb1.mono (by simp))⟩
  · have HT : Hid (takenI room bs = (takenL bs : Nat)) := by unfold takenI; rw [hb]; rfl
    clear hb
    go_enter Try.func21, Try.ntmps21
    go_wp2_with fail
    refine (specStoreOk room a len cap bs _ hin1 hl hlen).mono ?_
    rintro e w1 ⟨rfl, hb1⟩
    rw [HB.out]
    have hc0 : w1.cell? ⟨w.heap.size, 0, none⟩ = some (.int .i64 room) := (hb1.cell (p := ⟨w.heap.size, 0, none⟩) (by simp)).trans (by simp)
    have hc1 : w1.cell? ⟨w.heap.size, 1, none⟩ = some (.slice a len cap) := (hb1.cell (p := ⟨w.heap.size, 1, none⟩) (by simp)).trans (by simp)
    go_wp2_with fail
    refine (specL3Taken room a len cap bs _ (hin1.below hb1) (by omega) (by omega)).mono ?_
    rintro e w2 ⟨rfl, hb2⟩
    go_wp2
    go_ret
    exact ⟨by rw [HT.out]; rfl, (((Below.refl _ w).alloc (Nat.le_refl _) _).trans (hb1.mono (by simp))).trans (hb2.mono (by have := hb1.size; simp at this; omega))⟩

set_option maxHeartbeats 1000000 in
theorem specL3Fetch (room key : Int) (a : Option Addr) (len cap : Nat) (bs : List Bl) (w : World) (hin : BlobsIn w a len cap bs) (hlen : len ≤ 1048576) :
    Calls Try.prog 56 #[.agg #[.int .i64 room, .slice a len cap], .int .i64 key] w fun e w' => e = .returned (.tuple #[.string ⟨(fetchT bs key).toArray⟩, .bool (fetchB bs key)]) ∧ Below w.heap.size w w' := by
  have hlb := hin.1
  have HI : Hid (BlobsIn (w.alloc (.cells #[.int .i64 room, .slice a len cap] 26)) a len cap bs) := hin.alloc _
  clear hin
  go_enter Try.func56, Try.ntmps56
  go_wp2
  go_loop [6] (fun i => ∃ k : Nat, k ≤ len ∧ i = .int .i64 k ∧ Hid (∀ j, j < k → (bs.getD j (0, [])).1 ≠ key)) (fun i => len - (intOf i).toNat)
  case atStart => exact ⟨0, Nat.zero_le _, rfl, (fun j hj => by omega : ∀ j, j < 0 → (bs.getD j (0, [])).1 ≠ key)⟩
  case round =>
    obtain ⟨k, hk, rfl, HK⟩ := hrel
    by_cases hlt : (k : Int) < (len : Int)
    · obtain ⟨b, off, rfl, hbl, hcells⟩ := HI.out.at (by omega)
      obtain ⟨ck, ct⟩ := hcells k (by omega)
      obtain ⟨x, hx⟩ : ∃ x, bs.getD k (0, []) = x := ⟨_, rfl⟩
      rw [hx] at ck ct
      have HX : Hid (bs.getD k (0, []) = x) := hx
      obtain ⟨y, t⟩ := x
      simp only at ck ct
      clear hx hcells
      by_cases he : y = key
      · have HF : Hid (fetchT bs key = t ∧ fetchB bs key = true) := by
          have := fetch_at bs key k (by omega) HK.out (by rw [HX.out]; exact he)
          rw [HX.out] at this
          exact ⟨this.2, this.1⟩
        have hd : (y == key) = true := by rw [he]; simp
        clear he
        go_wp2
        go_ret2
        exact ⟨ret_sb HF.out.1.symm HF.out.2.symm, (Below.refl _ w).alloc (Nat.le_refl _) _⟩
      · have HS : Hid (∀ j, j < k + 1 → (bs.getD j (0, [])).1 ≠ key) := by
          intro j hj
          by_cases hj2 : j < k
          · exact HK.out j hj2
          · obtain rfl : j = k := by omega
            rw [HX.out]; exact he
        have hd : (y == key) = false := beq_eq_false_iff_ne.2 he
        clear he
        go_wp2
        go_round
        case rel => exact ⟨k + 1, by omega, by go_num, HS⟩
        case measure => simp [intOf]; omega
    · have HF : Hid (fetchT bs key = [] ∧ fetchB bs key = false) := by
        have := fetch_none bs key (fun j hj => HK.out j (by omega))
        exact ⟨this.2, this.1⟩
      go_wp2
      go_ret2
      exact ⟨ret_sb HF.out.1.symm HF.out.2.symm, (Below.refl _ w).alloc (Nat.le_refl _) _⟩

set_option maxHeartbeats 1000000 in
theorem specFetched (room key : Int) (a : Option Addr) (len cap : Nat) (bs : List Bl) (w : World) (hin : BlobsIn w a len cap bs) (hl : takenL bs ≤ 1048576) (hlen : len ≤ 1048576) :
    Calls Try.prog 22 #[.agg #[.int .i64 room, .slice a len cap], .int .i64 key] w fun e w' => e = .returned (.tuple #[.string ⟨(fetchedT room bs key).toArray⟩, .bool (fetchedB room bs key)]) ∧ Below w.heap.size w w' := by
  have hin1 := hin.alloc (.cells #[.int .i64 room, .slice a len cap] 26)
  obtain ⟨b, hb⟩ : ∃ b, okB room bs = b := ⟨_, rfl⟩
  have HB : Hid (okB room bs = b) := hb
  rcases b with _ | _
  · have HT : Hid (fetchedT room bs key = [] ∧ fetchedB room bs key = false) := by unfold fetchedT fetchedB; rw [hb]; exact ⟨rfl, rfl⟩
    clear hb
    go_enter Try.func22, Try.ntmps22
    go_wp2_with fail
    refine (specStoreOk room a len cap bs _ hin1 hl hlen).mono ?_
    rintro e w1 ⟨rfl, hb1⟩
    rw [HB.out]
    go_wp2
    go_ret2
    exact ⟨ret_sb HT.out.1.symm HT.out.2.symm, ((Below.refl _ w).alloc (Nat.le_refl _) _).trans (hb1.mono (by simp))⟩
  · have HT : Hid (fetchedT room bs key = fetchT bs key ∧ fetchedB room bs key = fetchB bs key) := by unfold fetchedT fetchedB; rw [hb]; exact ⟨rfl, rfl⟩
    clear hb
    go_enter Try.func22, Try.ntmps22
    go_wp2_with fail
    refine (specStoreOk room a len cap bs _ hin1 hl hlen).mono ?_
    rintro e w1 ⟨rfl, hb1⟩
    rw [HB.out]
    have hc0 : w1.cell? ⟨w.heap.size, 0, none⟩ = some (.int .i64 room) := (hb1.cell (p := ⟨w.heap.size, 0, none⟩) (by simp)).trans (by simp)
    have hc1 : w1.cell? ⟨w.heap.size, 1, none⟩ = some (.slice a len cap) := (hb1.cell (p := ⟨w.heap.size, 1, none⟩) (by simp)).trans (by simp)
    go_wp2_with fail
    refine (specL3Fetch room key a len cap bs _ (hin1.below hb1) (by omega)).mono ?_
    rintro e w2 ⟨rfl, hb2⟩
    go_wp2
    go_ret2
    exact ⟨ret_sb HT.out.1.symm HT.out.2.symm, (((Below.refl _ w).alloc (Nat.le_refl _) _).trans (hb1.mono (by simp))).trans (hb2.mono (by have := hb1.size; simp at this; omega))⟩

end Go.Proofs.Ytfjpbbacibfnmaa
