/-
  The contracts of spec.Hash and impl.Hash: both return the hash of the text, and nothing in memory turns.
-/
import Derived.Test.YtfjpbbacibfnmaaRows
import Derived.Test.YtfjpbbacibfnmaaMath1
import Derived.WalkKit
import Derived.WalkLawsBesides
import Derived.OpenShut
namespace Go.Proofs.Ytfjpbbacibfnmaa
open Go.RowKit

set_option maxHeartbeats 400000 in
theorem specHash (s : ByteArray) (w : World) (hs : s.size ≤ maxLen) :
    Calls Try.prog 23 #[.string s] w fun e w' => e = .returned (.int .i64 (hashL s.data.toList)) ∧ w' = w := by
  unfold maxLen at hs
  go_enter Try.func23, Try.ntmps23
  go_wp2
  go_loop [3, 4] (fun h i => ∃ k : Nat, k ≤ s.size ∧ i = .int .i64 k ∧ h = .int .i64 (hashL (s.data.toList.take k))) (fun _ i => s.size - (intOf i).toNat)
  case atStart => exact ⟨0, Nat.zero_le _, rfl, rfl⟩
  case round =>
    obtain ⟨k, hk, rfl, rfl⟩ := hrel
    have hd := hashL_bd (s.data.toList.take k)
    by_cases hlt : k < s.size
    · have HS : Hid (hashL (s.data.toList.take (k + 1)) = hashStep (hashL (s.data.toList.take k)) s[k]) := hashL_take s k hlt
      go_wp2
      go_round
      case rel => exact ⟨k + 1, by omega, by go_num, by rw [HS.out, ← stepW _ _ hd]⟩
      case measure => simp [intOf]; omega
    · go_wp2
      go_ret
      exact ⟨ret_int (by rw [List.take_of_length_le (by simp; omega)]), rfl⟩

set_option maxHeartbeats 400000 in
theorem implWith (h : Int) (b : UInt8) (w : World) (hd : 0 ≤ h ∧ h < 2147483647) :
    Calls Try.prog 66 #[.int .i64 h, .int .u8 (b.toNat : Int)] w fun e w' => e = .returned (.int .i64 (hashStep h b)) ∧ w' = w := by
  have HS : Hid (_ = hashStep h b) := stepW h b hd
  go_enter Try.func66, Try.ntmps66
  go_wp2
  go_ret
  exact ⟨ret_int (by rw [← HS.out]), rfl⟩

set_option maxHeartbeats 400000 in
theorem implSteppedWith (s : ByteArray) (w : World) (hs : s.size ≤ maxLen) :
    Calls Try.prog 65 #[.int .i64 17, .string s, .func (.func 66) #[] #[]] w fun e w' => e = .returned (.int .i64 (hashL s.data.toList)) ∧ w' = w := by
  unfold maxLen at hs
  go_enter Try.func65, Try.ntmps65
  go_wp2
  go_loop [7, 12] (fun h i => ∃ k : Nat, k ≤ s.size ∧ i = .int .i64 k ∧ h = .int .i64 (hashL (s.data.toList.take k))) (fun _ i => s.size - (intOf i).toNat)
  case atStart => exact ⟨0, Nat.zero_le _, rfl, rfl⟩
  case round =>
    obtain ⟨k, hk, rfl, rfl⟩ := hrel
    have hd := hashL_bd (s.data.toList.take k)
    by_cases hlt : k < s.size
    · have HS : Hid (hashL (s.data.toList.take (k + 1)) = hashStep (hashL (s.data.toList.take k)) s[k]) := hashL_take s k hlt
      go_wp2_with (go_at_call 66; refine (implWith _ _ _ hd).mono ?_; rintro e w' ⟨rfl, rfl⟩)
      go_round
      case rel => exact ⟨k + 1, by omega, by go_num, by rw [HS.out]⟩
      case measure => simp [intOf]; omega
    · go_wp2
      go_ret
      exact ⟨ret_int (by rw [List.take_of_length_le (by simp; omega)]), rfl⟩

set_option maxHeartbeats 400000 in
theorem implHash (s : ByteArray) (w : World) (hs : s.size ≤ maxLen) :
    Calls Try.prog 45 #[.string s] w fun e w' => e = .returned (.int .i64 (hashL s.data.toList)) ∧ w' = w := by
  go_enter Try.func45, Try.ntmps45
  go_wp2_with (go_at_call 65; refine (implSteppedWith _ _ hs).mono ?_; rintro e w' ⟨rfl, rfl⟩)
  go_ret
  exact ⟨rfl, rfl⟩

end Go.Proofs.Ytfjpbbacibfnmaa
