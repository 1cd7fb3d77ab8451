/-
  The contracts of spec.FromHex and impl.FromHex.
-/
import Derived.Test.YtdjbcjmnegjndaaRows
import Derived.Test.YtdjbcjmnegjndaaMath1
import Derived.Test.YtdjbcjmnegjndaaMathF
import Derived.WalkKit
import Derived.WalkLawsBesides
import Derived.Laws.Externs
import Derived.OpenShut
import Derived.Handy
namespace Go.Proofs.Ytdjbcjmnegjndaa
open Go.RowKit

theorem externIdx (c : UInt8) (w : World) : (callFunc 52 #[.string ⟨#[48, 49, 50, 51, 52, 53, 54, 55, 56, 57, 97, 98, 99, 100, 101, 102]⟩, .int .u8 (c.toNat : Int)]).run Try.prog w = .ok (.value (.int .i64 (hv c))) w := by
  rw [run_callFunc_extern Try.func52 (by kernel_rfl) (by kernel_rfl) (by kernel_rfl) (e := Extern.BytealgIndexByte.indexByte) (by kernel_rfl), Lib.run_indexByteString, hv_idx]
  rfl

set_option maxHeartbeats 400000 in
theorem idxHex (c : UInt8) (w : World) :
    Calls Try.prog 50 #[.string ⟨#[48, 49, 50, 51, 52, 53, 54, 55, 56, 57, 97, 98, 99, 100, 101, 102]⟩, .int .u8 (c.toNat : Int)] w fun e w' => e = .returned (.int .i64 (hv c)) ∧ w' = w := by
  have hx := externIdx c
  go_enter Try.func50, Try.ntmps50
  go_wp2
  go_ret
  exact ⟨rfl, rfl⟩

set_option maxHeartbeats 400000 in
theorem implWithHex (h : Int) (b : UInt8) (w : World) (hd : -1 ≤ h ∧ h ≤ 4294967295) :
    Calls Try.prog 49 #[.int .i64 h, .int .u8 (b.toNat : Int)] w fun e w' => e = .returned (.int .i64 (hexStep h b)) ∧ w' = w := by
  have hb := hv_bd b
  by_cases h1 : h = -1
  · subst h1
    have HS : Hid (hexStep (-1) b = -1) := hexStep_stick b
    go_enter Try.func49, Try.ntmps49
    go_wp2_with (go_at_call 50; refine (idxHex _ _).mono ?_; rintro e w' ⟨rfl, rfl⟩)
    go_ret
    exact ⟨ret_int (by rw [HS.out]), rfl⟩
  · have hne : (h == -1) = false := beq_eq_false_iff_ne.2 h1
    by_cases h2 : hv b < 0
    · have HS : Hid (hexStep h b = -1) := by unfold hexStep; exact if_pos (Or.inr h2)
      clear h1
      go_enter Try.func49, Try.ntmps49
      go_wp2_with (go_at_call 50; refine (idxHex _ _).mono ?_; rintro e w' ⟨rfl, rfl⟩)
      go_ret
      exact ⟨ret_int (by rw [HS.out]), rfl⟩
    · have HS : Hid (hexStep h b = 16 * h + hv b) := by unfold hexStep; exact if_neg (by omega)
      clear h1
      go_enter Try.func49, Try.ntmps49
      go_wp2_with (go_at_call 50; refine (idxHex _ _).mono ?_; rintro e w' ⟨rfl, rfl⟩)
      go_ret
      exact ⟨ret_int (by rw [HS.out]), rfl⟩

set_option maxHeartbeats 400000 in
theorem implSteppedHex (s : ByteArray) (w : World) (hs : s.size = 8) :
    Calls Try.prog 41 #[.int .i64 0, .string s, .func (.func 49) #[] #[]] w fun e w' => e = .returned (.int .i64 (fromL s.data.toList)) ∧ w' = w := by
  have HZ : Hid (s.size = 8) := hs
  have hs' : s.size ≤ 8 := by omega
  clear hs
  go_enter Try.func41, Try.ntmps41
  go_wp2
  go_loop [7, 12] (fun h i => ∃ k : Nat, k ≤ s.size ∧ i = .int .i64 k ∧ h = .int .i64 (fromL (s.data.toList.take k))) (fun _ i => s.size - (intOf i).toNat)
  case atStart => exact ⟨0, Nat.zero_le _, rfl, rfl⟩
  case round =>
    obtain ⟨k, hk, rfl, rfl⟩ := hrel
    have hd := fromL_le (s.data.toList.take k) (by have := List.length_take_le k s.data.toList; omega)
    by_cases hlt : k < s.size
    · have HS : Hid (fromL (s.data.toList.take (k + 1)) = hexStep (fromL (s.data.toList.take k)) s[k]) := fromL_take s k hlt
      go_wp2_with (go_at_call 49; refine (implWithHex _ _ _ hd).mono ?_; rintro e w' ⟨rfl, rfl⟩)
      go_round
      case rel => exact ⟨k + 1, by omega, by go_num, by rw [HS.out]⟩
      case measure => simp [intOf]; omega
    · go_wp2
      go_ret
      exact ⟨ret_int (by rw [List.take_of_length_le (by simp; omega)]), rfl⟩

set_option maxHeartbeats 400000 in
theorem implFromHex (s : ByteArray) (w : World) :
    Calls Try.prog 45 #[.string s] w fun e w' => e = .returned (.tuple #[.int .i64 (fromN s.data.toList), .bool (fromB s.data.toList)]) ∧ w' = w := by
  have hsz : s.data.toList.length = s.size := by simp
  by_cases h8 : s.size = 8
  · have hb8 : ((s.size : Int) != 8) = false := by rw [h8]; rfl
    by_cases h1 : fromL s.data.toList = -1
    · have hn := from_no s.data.toList (Or.inr h1)
      have HB : Hid (fromB s.data.toList = false ∧ fromN s.data.toList = 0) := hn
      have hq : (fromL s.data.toList == -1) = true := beq_iff_eq.2 h1
      have H8 : Hid (s.size = 8) := h8
      clear hn hsz h8 h1
      go_enter Try.func45, Try.ntmps45
      go_wp2_with (go_at_call 41; refine (implSteppedHex _ _ H8.out).mono ?_; rintro e w' ⟨rfl, rfl⟩)
      go_ret2
      exact ⟨ret_ib HB.out.2.symm HB.out.1.symm, rfl⟩
    · have HB : Hid (fromB s.data.toList = true ∧ fromN s.data.toList = fromL s.data.toList) := from_yes s.data.toList (by omega) h1
      have hq : (fromL s.data.toList == -1) = false := beq_eq_false_iff_ne.2 h1
      have H8 : Hid (s.size = 8) := h8
      clear hsz h8 h1
      go_enter Try.func45, Try.ntmps45
      go_wp2_with (go_at_call 41; refine (implSteppedHex _ _ H8.out).mono ?_; rintro e w' ⟨rfl, rfl⟩)
      go_ret2
      exact ⟨ret_ib HB.out.2.symm HB.out.1.symm, rfl⟩
  · have hb8 : ((s.size : Int) != 8) = true := by rw [bne_iff_ne]; omega
    have HB : Hid (fromB s.data.toList = false ∧ fromN s.data.toList = 0) := from_no s.data.toList (Or.inl (by omega))
    clear hsz h8
    go_enter Try.func45, Try.ntmps45
    go_wp2
    go_ret2
    exact ⟨ret_ib HB.out.2.symm HB.out.1.symm, rfl⟩

set_option maxHeartbeats 1000000 in
theorem specFromHex (s : ByteArray) (w : World) :
    Calls Try.prog 47 #[.string s] w fun e w' => e = .returned (.tuple #[.int .i64 (fromN s.data.toList), .bool (fromB s.data.toList)]) ∧ w' = w := by
  have hsz : s.data.toList.length = s.size := by simp
  by_cases h8 : s.size = 8
  · have hb8 : ((s.size : Int) != 8) = false := by rw [h8]; rfl
    have H8 : Hid (s.size = 8) := h8
    have HZ : Hid (s.data.toList.length = s.size) := hsz
    clear hsz h8
    go_enter Try.func47, Try.ntmps47
    go_wp2
    go_loop [4, 5] (fun n i => ∃ k : Nat, k ≤ 8 ∧ i = .int .i64 k ∧ n = .int .i64 (fromL (s.data.toList.take k)) ∧ 0 ≤ fromL (s.data.toList.take k)) (fun _ i => 8 - (intOf i).toNat)
    case atStart => exact ⟨0, Nat.zero_le _, rfl, rfl, by simp [fromL]⟩
    case round =>
      obtain ⟨k, hk, rfl, rfl, hpos⟩ := hrel
      have hd := fromL_le (s.data.toList.take k) (by have := List.length_take_le k s.data.toList; omega)
      by_cases hlt : k < 8
      · have hlt' : k < s.size := by have := H8.out; omega
        have HS : Hid (fromL (s.data.toList.take (k + 1)) = hexStep (fromL (s.data.toList.take k)) s[k]) := fromL_take s k hlt'
        have HL : Hid (fromL (s.data.toList.take (k + 1)) ≤ 4294967295) := (fromL_le (s.data.toList.take (k + 1)) (by have := List.length_take_le (k + 1) s.data.toList; omega)).2
        rcases (show (48 ≤ s[k].toNat ∧ s[k].toNat ≤ 57) ∨ (97 ≤ s[k].toNat ∧ s[k].toNat ≤ 102) ∨ s[k].toNat < 48 ∨ (57 < s[k].toNat ∧ s[k].toNat < 97) ∨ 102 < s[k].toNat from by omega) with ⟨c1, c2⟩ | ⟨c1, c2⟩ | hc
        · have HV : Hid (hexStep (fromL (s.data.toList.take k)) s[k] = 16 * fromL (s.data.toList.take k) + ((s[k].toNat : Int) - 48)) := hexStep_dig _ _ hpos c1 c2
          go_wp2
          go_round
          case rel => exact ⟨k + 1, by omega, by go_num, by rw [HS.out, HV.out], by rw [HS.out, HV.out]; omega⟩
          case measure => simp [intOf]; omega
        · have HV : Hid (hexStep (fromL (s.data.toList.take k)) s[k] = 16 * fromL (s.data.toList.take k) + ((s[k].toNat : Int) - 87)) := hexStep_let _ _ hpos c1 c2
          go_wp2
          go_round
          case rel => exact ⟨k + 1, by omega, by go_num, by rw [HS.out, HV.out]; go_num, by rw [HS.out, HV.out]; omega⟩
          case measure => simp [intOf]; omega
        · have HV : Hid (hexStep (fromL (s.data.toList.take k)) s[k] = -1) := hexStep_none _ _ hc
          have HB : Hid (fromB s.data.toList = false ∧ fromN s.data.toList = 0) := from_no s.data.toList (Or.inr (fromL_stuck s (k + 1) (by rw [HS.out, HV.out])))
          rcases hc with hc | ⟨hc, hc'⟩ | hc
          all_goals
            go_wp2
            go_ret2
            exact ⟨ret_ib HB.out.2.symm HB.out.1.symm, rfl⟩
      · have e : s.data.toList.take k = s.data.toList := List.take_of_length_le (by have := H8.out; have := HZ.out; omega)
        rw [e] at hpos hd ⊢
        have HB : Hid (fromB s.data.toList = true ∧ fromN s.data.toList = fromL s.data.toList) := from_yes s.data.toList (by have := H8.out; have := HZ.out; omega) (by omega)
        clear e
        go_wp2
        go_ret2
        exact ⟨ret_ib HB.out.2.symm HB.out.1.symm, rfl⟩
  · have hb8 : ((s.size : Int) != 8) = true := by rw [bne_iff_ne]; omega
    have HB : Hid (fromB s.data.toList = false ∧ fromN s.data.toList = 0) := from_no s.data.toList (Or.inl (by omega))
    clear hsz h8
    go_enter Try.func47, Try.ntmps47
    go_wp2
    go_ret2
    exact ⟨ret_ib HB.out.2.symm HB.out.1.symm, rfl⟩

end Go.Proofs.Ytdjbcjmnegjndaa
