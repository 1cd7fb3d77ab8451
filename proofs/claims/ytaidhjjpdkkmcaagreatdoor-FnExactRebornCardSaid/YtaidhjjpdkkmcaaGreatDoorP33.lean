/-
  Parts of one proof, one behind the other: FromHex, Lists, ListsX, FrameS, NewS2, Shelf, PowI, FrameI.
-/
import Derived.Test.YtaidhjjpdkkmcaaGreatDoorP32
import Derived.Test.YtaidhjjpdkkmcaaGreatDoorRows
import Derived.Test.YtaidhjjpdkkmcaaGreatDoorP1
import Derived.Test.YtaidhjjpdkkmcaaGreatDoorP28
import Derived.WalkKit
import Derived.WalkLawsBesides
import Derived.Laws.Externs
import Derived.OpenShut
import Derived.Handy
import Derived.Test.YtaidhjjpdkkmcaaGreatDoorP3
import Derived.Test.YtaidhjjpdkkmcaaGreatDoorP2
import Derived.Shelf.Small.Strs
import Derived.Shelf.Strconv.Itoa0
import Derived.Shelf.Strconv.Itoa1
import Derived.Shelf.LaysM
import Derived.Shelf.Strconv.Itoa2
import Derived.Shelf.Strconv.Itoa3
import Derived.Shelf.Strconv.Itoa4
import Derived.Shelf.Strings.Search1
import Derived.Shelf.Strings.Prefix
import Derived.Test.YtaidhjjpdkkmcaaGreatDoorProg
import Derived.Test.YtaidhjjpdkkmcaaGreatDoorP13
import Derived.Lib.AppendIntMem
import Derived.Lib.SmallJoins
import Derived.Lib.LaidTab
import Derived.Deep.RegionHeld3
import Derived.Test.YtaidhjjpdkkmcaaGreatDoorP14

/-! The contracts of spec.FromHex and impl.FromHex. -/
namespace Go.Proofs.YtaidhjjpdkkmcaaGreatDoor
open Go.RowKit

theorem externIdx (c : UInt8) (w : World) : (callFunc 190 #[.string ⟨#[48, 49, 50, 51, 52, 53, 54, 55, 56, 57, 97, 98, 99, 100, 101, 102]⟩, .int .u8 (c.toNat : Int)]).run Tryz.prog w = .ok (.value (.int .i64 (hv c))) w := by
 rw [run_callFunc_extern Tryz.func190 (by kernel_rfl) (by kernel_rfl) (by kernel_rfl) (e := Extern.BytealgIndexByte.indexByte) (by kernel_rfl), Lib.run_indexByteString, hv_idx]
 rfl

set_option maxHeartbeats 400000 in
set_option maxRecDepth 100000 in
theorem idxHex (c : UInt8) (w : World) :
 Calls Tryz.prog 170 #[.string ⟨#[48, 49, 50, 51, 52, 53, 54, 55, 56, 57, 97, 98, 99, 100, 101, 102]⟩, .int .u8 (c.toNat : Int)] w fun e w' => e = .returned (.int .i64 (hv c)) ∧ w' = w := by
 have hx := externIdx c
 go_enter Tryz.func170, Tryz.ntmps170
 go_wp2
 go_ret
 exact ⟨rfl, rfl⟩

set_option maxHeartbeats 400000 in
set_option maxRecDepth 100000 in
theorem implWithHex (h : Int) (b : UInt8) (w : World) (hd : -1 ≤ h ∧ h ≤ 4294967295) :
 Calls Tryz.prog 148 #[.int .i64 h, .int .u8 (b.toNat : Int)] w fun e w' => e = .returned (.int .i64 (hexStep h b)) ∧ w' = w := by
 have hb := hv_bd b
 by_cases h1 : h = -1
 ·
  subst h1
  have HS : Hid (hexStep (-1) b = -1) := hexStep_stick b
  go_enter Tryz.func148, Tryz.ntmps148
  go_wp2_with (go_at_call 170; refine (idxHex _ _).mono ?_; rintro e w' ⟨rfl, rfl⟩)
  go_ret
  exact ⟨ret_int (by rw [HS.out]), rfl⟩
 ·
  have hne : (h == -1) = false := beq_eq_false_iff_ne.2 h1
  by_cases h2 : hv b < 0
  ·
   have HS : Hid (hexStep h b = -1) := by unfold hexStep; exact if_pos (Or.inr h2)
   clear h1
   go_enter Tryz.func148, Tryz.ntmps148
   go_wp2_with (go_at_call 170; refine (idxHex _ _).mono ?_; rintro e w' ⟨rfl, rfl⟩)
   go_ret
   exact ⟨ret_int (by rw [HS.out]), rfl⟩
  ·
   have HS : Hid (hexStep h b = 16 * h + hv b) := by unfold hexStep; exact if_neg (by omega)
   clear h1
   go_enter Tryz.func148, Tryz.ntmps148
   go_wp2_with (go_at_call 170; refine (idxHex _ _).mono ?_; rintro e w' ⟨rfl, rfl⟩)
   go_ret
   exact ⟨ret_int (by rw [HS.out]), rfl⟩

set_option maxHeartbeats 400000 in
set_option maxRecDepth 100000 in
theorem implSteppedHex (s : ByteArray) (w : World) (hs : s.size = 8) :
 Calls Tryz.prog 120 #[.int .i64 0, .string s, .func (.func 148) #[] #[]] w fun e w' => e = .returned (.int .i64 (fromL s.data.toList)) ∧ w' = w := by
 have HZ : Hid (s.size = 8) := hs
 have hs' : s.size ≤ 8 := by omega
 clear hs
 go_enter Tryz.func120, Tryz.ntmps120
 go_wp2
 go_loop [7, 12] (fun h i => ∃ k : Nat, k ≤ s.size ∧ i = .int .i64 k ∧ h = .int .i64 (fromL (s.data.toList.take k))) (fun _ i => s.size - (intOf i).toNat)
 case atStart => exact ⟨0, Nat.zero_le _, rfl, rfl⟩
 case round =>
  obtain ⟨k, hk, rfl, rfl⟩ := hrel
  have hd := fromL_le (s.data.toList.take k) (by have := List.length_take_le k s.data.toList; omega)
  by_cases hlt : k < s.size
  ·
   have HS : Hid (fromL (s.data.toList.take (k + 1)) = hexStep (fromL (s.data.toList.take k)) s[k]) := fromL_take s k hlt
   go_wp2_with (go_at_call 148; refine (implWithHex _ _ _ hd).mono ?_; rintro e w' ⟨rfl, rfl⟩)
   go_round
   case rel => exact ⟨k + 1, by omega, by go_num, by rw [HS.out]⟩
   case measure => simp [intOf]; omega
  ·
   go_wp2
   go_ret
   exact ⟨ret_int (by rw [List.take_of_length_le (by simp; omega)]), rfl⟩

set_option maxHeartbeats 400000 in
set_option maxRecDepth 100000 in
theorem implFromHex (s : ByteArray) (w : World) :
 Calls Tryz.prog 114 #[.string s] w fun e w' => e = .returned (.tuple #[.int .i64 (fromN s.data.toList), .bool (fromB s.data.toList)]) ∧ w' = w := by
 have hsz : s.data.toList.length = s.size := by simp
 by_cases h8 : s.size = 8
 ·
  have hb8 : ((s.size : Int) != 8) = false := by rw [h8]; rfl
  by_cases h1 : fromL s.data.toList = -1
  ·
   have hn := from_no s.data.toList (Or.inr h1)
   have HB : Hid (fromB s.data.toList = false ∧ fromN s.data.toList = 0) := hn
   have hq : (fromL s.data.toList == -1) = true := beq_iff_eq.2 h1
   have H8 : Hid (s.size = 8) := h8
   clear hn hsz h8 h1
   go_enter Tryz.func114, Tryz.ntmps114
   go_wp2_with (go_at_call 120; refine (implSteppedHex _ _ H8.out).mono ?_; rintro e w' ⟨rfl, rfl⟩)
   go_ret2
   exact ⟨ret_ib HB.out.2.symm HB.out.1.symm, rfl⟩
  ·
   have HB : Hid (fromB s.data.toList = true ∧ fromN s.data.toList = fromL s.data.toList) := from_yes s.data.toList (by omega) h1
   have hq : (fromL s.data.toList == -1) = false := beq_eq_false_iff_ne.2 h1
   have H8 : Hid (s.size = 8) := h8
   clear hsz h8 h1
   go_enter Tryz.func114, Tryz.ntmps114
   go_wp2_with (go_at_call 120; refine (implSteppedHex _ _ H8.out).mono ?_; rintro e w' ⟨rfl, rfl⟩)
   go_ret2
   exact ⟨ret_ib HB.out.2.symm HB.out.1.symm, rfl⟩
 ·
  have hb8 : ((s.size : Int) != 8) = true := by rw [bne_iff_ne]; omega
  have HB : Hid (fromB s.data.toList = false ∧ fromN s.data.toList = 0) := from_no s.data.toList (Or.inl (by omega))
  clear hsz h8
  go_enter Tryz.func114, Tryz.ntmps114
  go_wp2
  go_ret2
  exact ⟨ret_ib HB.out.2.symm HB.out.1.symm, rfl⟩

set_option maxHeartbeats 1000000 in
set_option maxRecDepth 100000 in
theorem specFromHex (s : ByteArray) (w : World) :
 Calls Tryz.prog 76 #[.string s] w fun e w' => e = .returned (.tuple #[.int .i64 (fromN s.data.toList), .bool (fromB s.data.toList)]) ∧ w' = w := by
 have hsz : s.data.toList.length = s.size := by simp
 by_cases h8 : s.size = 8
 ·
  have hb8 : ((s.size : Int) != 8) = false := by rw [h8]; rfl
  have H8 : Hid (s.size = 8) := h8
  have HZ : Hid (s.data.toList.length = s.size) := hsz
  clear hsz h8
  go_enter Tryz.func76, Tryz.ntmps76
  go_wp2
  go_loop [4, 5] (fun n i => ∃ k : Nat, k ≤ 8 ∧ i = .int .i64 k ∧ n = .int .i64 (fromL (s.data.toList.take k)) ∧ 0 ≤ fromL (s.data.toList.take k)) (fun _ i => 8 - (intOf i).toNat)
  case atStart => exact ⟨0, Nat.zero_le _, rfl, rfl, by simp [fromL]⟩
  case round =>
   obtain ⟨k, hk, rfl, rfl, hpos⟩ := hrel
   have hd := fromL_le (s.data.toList.take k) (by have := List.length_take_le k s.data.toList; omega)
   by_cases hlt : k < 8
   ·
    have hlt' : k < s.size := by have := H8.out; omega
    have HS : Hid (fromL (s.data.toList.take (k + 1)) = hexStep (fromL (s.data.toList.take k)) s[k]) := fromL_take s k hlt'
    have HL : Hid (fromL (s.data.toList.take (k + 1)) ≤ 4294967295) := (fromL_le (s.data.toList.take (k + 1)) (by have := List.length_take_le (k + 1) s.data.toList; omega)).2
    rcases (show (48 ≤ s[k].toNat ∧ s[k].toNat ≤ 57) ∨ (97 ≤ s[k].toNat ∧ s[k].toNat ≤ 102) ∨ s[k].toNat < 48 ∨ (57 < s[k].toNat ∧ s[k].toNat < 97) ∨ 102 < s[k].toNat from by omega) with ⟨c1, c2⟩ | ⟨c1, c2⟩ | hc
    ·
     have HV : Hid (hexStep (fromL (s.data.toList.take k)) s[k] = 16 * fromL (s.data.toList.take k) + ((s[k].toNat : Int) - 48)) := hexStep_dig _ _ hpos c1 c2
     go_wp2
     go_round
     case rel => exact ⟨k + 1, by omega, by go_num, by rw [HS.out, HV.out], by rw [HS.out, HV.out]; omega⟩
     case measure => simp [intOf]; omega
    ·
     have HV : Hid (hexStep (fromL (s.data.toList.take k)) s[k] = 16 * fromL (s.data.toList.take k) + ((s[k].toNat : Int) - 87)) := hexStep_let _ _ hpos c1 c2
     go_wp2
     go_round
     case rel => exact ⟨k + 1, by omega, by go_num, by rw [HS.out, HV.out]; go_num, by rw [HS.out, HV.out]; omega⟩
     case measure => simp [intOf]; omega
    ·
     have HV : Hid (hexStep (fromL (s.data.toList.take k)) s[k] = -1) := hexStep_none _ _ hc
     have HB : Hid (fromB s.data.toList = false ∧ fromN s.data.toList = 0) := from_no s.data.toList (Or.inr (fromL_stuck s (k + 1) (by rw [HS.out, HV.out])))
     rcases hc with hc | ⟨hc, hc'⟩ | hc
     all_goals
      go_wp2
      go_ret2
      exact ⟨ret_ib HB.out.2.symm HB.out.1.symm, rfl⟩
   ·
    have e : s.data.toList.take k = s.data.toList := List.take_of_length_le (by have := H8.out; have := HZ.out; omega)
    rw [e] at hpos hd ⊢
    have HB : Hid (fromB s.data.toList = true ∧ fromN s.data.toList = fromL s.data.toList) := from_yes s.data.toList (by have := H8.out; have := HZ.out; omega) (by omega)
    clear e
    go_wp2
    go_ret2
    exact ⟨ret_ib HB.out.2.symm HB.out.1.symm, rfl⟩
 ·
  have hb8 : ((s.size : Int) != 8) = true := by rw [bne_iff_ne]; omega
  have HB : Hid (fromB s.data.toList = false ∧ fromN s.data.toList = 0) := from_no s.data.toList (Or.inl (by omega))
  clear hsz h8
  go_enter Tryz.func76, Tryz.ntmps76
  go_wp2
  go_ret2
  exact ⟨ret_ib HB.out.2.symm HB.out.1.symm, rfl⟩

end Go.Proofs.YtaidhjjpdkkmcaaGreatDoor

/-! The contracts of chapter 1 at texts that are told as lists of bytes. -/
namespace Go.Proofs.YtaidhjjpdkkmcaaGreatDoor
open Go.RowKit



theorem implHashX (l : List UInt8) (w : World) (hl : l.length ≤ 1048576) :
 Calls Tryz.prog 93 #[.string ⟨l.toArray⟩] w fun e w' => e = .returned (.int .i64 (hashL l)) ∧ w' = w :=
 implHash ⟨l.toArray⟩ w (by unfold maxLen; exact Nat.le_trans hl (by decide))

theorem specHashX (l : List UInt8) (w : World) (hl : l.length ≤ 1048576) :
 Calls Tryz.prog 77 #[.string ⟨l.toArray⟩] w fun e w' => e = .returned (.int .i64 (hashL l)) ∧ w' = w :=
 specHash ⟨l.toArray⟩ w (by unfold maxLen; exact Nat.le_trans hl (by decide))

end Go.Proofs.YtaidhjjpdkkmcaaGreatDoor

/-! HexOf's and FromHex's contracts at texts that are told as lists of bytes. -/
namespace Go.Proofs.YtaidhjjpdkkmcaaGreatDoor
open Go.RowKit

theorem implHexOfX (n : Int) (s : List UInt8) (w : World) (h : hexS n = s) :
 Calls Tryz.prog 92 #[.int .i64 n] w fun e w' => e = .returned (.string ⟨s.toArray⟩) ∧ Below w.heap.size w w' := by
 subst h; exact implHexOf n w


theorem implFromHexX (t : List UInt8) (x : Int) (b : Bool) (w : World) (hx : fromN t = x) (hb : fromB t = b) :
 Calls Tryz.prog 114 #[.string ⟨t.toArray⟩] w fun e w' => e = .returned (.tuple #[.int .i64 x, .bool b]) ∧ w' = w := by
 subst hx hb; exact implFromHex ⟨t.toArray⟩ w

theorem specFromHexX (t : List UInt8) (x : Int) (b : Bool) (w : World) (hx : fromN t = x) (hb : fromB t = b) :
 Calls Tryz.prog 76 #[.string ⟨t.toArray⟩] w fun e w' => e = .returned (.tuple #[.int .i64 x, .bool b]) ∧ w' = w := by
 subst hx hb; exact specFromHex ⟨t.toArray⟩ w

end Go.Proofs.YtaidhjjpdkkmcaaGreatDoor

/-! The contracts of chapter 2's specification: Framed, the first frame of a text, Unframed. -/
namespace Go.Proofs.YtaidhjjpdkkmcaaGreatDoor
open Go.RowKit

set_option maxHeartbeats 400000 in
set_option maxRecDepth 100000 in
theorem specL2Framed (l : List UInt8) (w : World) (hl : l.length ≤ 1048576) :
 Calls Tryz.prog 41 #[.string ⟨l.toArray⟩] w fun e w' => e = .returned (.string ⟨(framedL l).toArray⟩) ∧ Below w.heap.size w w' := by
 have hd := hashL_bd l
 go_enter Tryz.func41, Tryz.ntmps41
 go_wp2_with fail
 refine (specL1Hex _ _ (by omega) (by omega)).mono ?_
 rintro e w1 ⟨rfl, hb1⟩
 go_wp2_with fail
 refine (specHashX l _ hl).mono ?_
 rintro e w2 ⟨rfl, rfl⟩
 go_wp2_with fail
 refine (specL1Hex _ _ (by omega) (by omega)).mono ?_
 rintro e w3 ⟨rfl, hb3⟩
 have h8 : ∀ n, (hexL n).length = 8 := fun _ => rfl
 have hcat := cat_list
 go_wp2
 go_ret
 exact ⟨rfl, hb1.trans (hb3.mono hb1.size)⟩


set_option maxHeartbeats 1000000 in
set_option maxRecDepth 100000 in
theorem specFirst (l : List UInt8) (w : World) (hl : l.length ≤ 1048576) :
 Calls Tryz.prog 36 #[.string ⟨l.toArray⟩] w fun e w' => e = .returned (.tuple #[.string ⟨(firstT l).toArray⟩, .int .i64 (firstN l), .bool (firstB l)]) ∧ w' = w := by
 have hext := ext_list
 by_cases h16 : (l.length : Int) < 16
 ·
  have HF : Hid (firstT l = [] ∧ firstN l = 0 ∧ firstB l = false) := firstB_no l (by omega)
  go_enter Tryz.func36, Tryz.ntmps36
  go_wp2
  go_ret3
  exact ⟨ret_sib HF.out.1.symm HF.out.2.1.symm HF.out.2.2.symm, rfl⟩
 ·
  obtain ⟨k, hk⟩ : ∃ k : Nat, fromN (l.take 8) = (k : Int) := Int.eq_ofNat_of_zero_le (fromN_bd (l.take 8)).1
  obtain ⟨h, hh⟩ : ∃ h : Int, fromN ((l.drop 8).take 8) = h := ⟨_, rfl⟩
  obtain ⟨one, hone⟩ : ∃ b : Bool, fromB (l.take 8) = b := ⟨_, rfl⟩
  obtain ⟨two, htwo⟩ : ∃ b : Bool, fromB ((l.drop 8).take 8) = b := ⟨_, rfl⟩
  have hkb : (k : Int) ≤ 4294967295 := by rw [← hk]; exact (fromN_bd (l.take 8)).2
  have HK : Hid (fromN (l.take 8) = (k : Int)) := hk
  have HH : Hid (fromN ((l.drop 8).take 8) = h) := hh
  have H1 : Hid (fromB (l.take 8) = one) := hone
  have H2 : Hid (fromB ((l.drop 8).take 8) = two) := htwo
  clear hk hh hone htwo
  go_enter Tryz.func36, Tryz.ntmps36
  go_wp2_with fail
  refine (specFromHexX (l.take 8) k one _ HK.out H1.out).mono ?_
  rintro e w1 ⟨rfl, rfl⟩
  go_wp2_with fail
  refine (specFromHexX ((l.drop 8).take 8) h two _ HH.out H2.out).mono ?_
  rintro e w2 ⟨rfl, rfl⟩
  by_cases hall : one = true ∧ two = true ∧ (k : Int) ≤ 20000 ∧ 16 + (k : Int) ≤ (l.length : Int)
  ·
   obtain ⟨rfl, rfl, hk2, hk3⟩ := hall
   have hkk : (16 + (k : Int)).toNat - 16 = k := by omega
   have hk4 : (16 : Int) ≤ 16 + (k : Int) := by omega
   have hk5 : (0 : Int) ≤ 16 + (k : Int) := by omega
   go_wp2_with fail
   refine (specHashX ((l.drop 16).take k) _ (by have := List.length_take_le k (l.drop 16); omega)).mono ?_
   rintro e w3 ⟨rfl, rfl⟩
   by_cases hq : hashL ((l.drop 16).take k) = h
   ·
    have HF : Hid (firstT l = (l.drop 16).take k ∧ firstN l = 16 + (k : Int) ∧ firstB l = true) := by
     have := firstB_yes l (by rw [HK.out, HH.out, H1.out, H2.out]; exact ⟨by omega, rfl, rfl, hk2, hk3, by simpa using hq⟩)
     rw [HK.out, Int.toNat_natCast] at this
     exact this
    have hqb : (hashL ((l.drop 16).take k) != h) = false := by rw [hq]; simp
    clear hq
    go_wp2
    go_ret3
    exact ⟨ret_sib HF.out.1.symm HF.out.2.1.symm HF.out.2.2.symm, rfl⟩
   ·
    have HF : Hid (firstT l = [] ∧ firstN l = 0 ∧ firstB l = false) := firstB_no l (by
     rw [HK.out, HH.out, H1.out, H2.out]
     rintro ⟨_, _, _, _, _, a⟩
     exact hq (by simpa using a))
    have hqb : (hashL ((l.drop 16).take k) != h) = true := bne_iff_ne.2 hq
    clear hq
    go_wp2
    go_ret3
    exact ⟨ret_sib HF.out.1.symm HF.out.2.1.symm HF.out.2.2.symm, rfl⟩
  ·
   have HF : Hid (firstT l = [] ∧ firstN l = 0 ∧ firstB l = false) := firstB_no l (by
    rw [HK.out, HH.out, H1.out, H2.out]
    rintro ⟨_, a, b, c, d, _⟩
    exact hall ⟨a, b, c, d⟩)
   rcases one with _ | _
   ·
    go_wp2
    go_ret3
    exact ⟨ret_sib HF.out.1.symm HF.out.2.1.symm HF.out.2.2.symm, rfl⟩
   ·
    rcases two with _ | _
    ·
     go_wp2
     go_ret3
     exact ⟨ret_sib HF.out.1.symm HF.out.2.1.symm HF.out.2.2.symm, rfl⟩
    ·
     by_cases hk2 : 20000 < (k : Int)
     ·
      go_wp2
      go_ret3
      exact ⟨ret_sib HF.out.1.symm HF.out.2.1.symm HF.out.2.2.symm, rfl⟩
     ·
      have hk3 : (l.length : Int) < 16 + (k : Int) := by
       by_cases h1 : (l.length : Int) < 16 + (k : Int)
       ·
        exact h1
       ·
        exact absurd ⟨rfl, rfl, by omega, by omega⟩ hall
      clear hall
      go_wp2
      go_ret3
      exact ⟨ret_sib HF.out.1.symm HF.out.2.1.symm HF.out.2.2.symm, rfl⟩


end Go.Proofs.YtaidhjjpdkkmcaaGreatDoor

/-! The contracts of chapter 18's specification: l18Start, NewDesk. -/
namespace Go.Proofs.YtaidhjjpdkkmcaaGreatDoor
open Go.RowKit

theorem intL_len18 {n : Int} (h0 : -9223372036854775808 ≤ n) (h1 : n ≤ 9223372036854775807) : (intL n).length ≤ 21 := by
 have h := digL_len 19 n.natAbs (by omega)
 unfold intL
 split
 ·
  simp only [List.length_cons]; omega
 ·
  omega
/-- The text of a start. -/
def startT (n : Int) : List UInt8 := 115 :: 116 :: 97 :: 114 :: 116 :: 32 :: intL n
theorem startT_len {n : Int} (h0 : -9223372036854775808 ≤ n) (h1 : n ≤ 9223372036854775807) : (startT n).length ≤ 27 := by
 have := intL_len18 h0 h1
 unfold startT
 simp only [List.length_cons]
 omega
theorem startL_framed {n : Int} (h0 : -9223372036854775808 ≤ n) (h1 : n ≤ 9223372036854775807) : startL n = framedL (startT n) := by
 have := startT_len h0 h1
 exact framedS_yes (startT n) (by omega)

set_option maxHeartbeats 1000000 in
set_option maxRecDepth 100000 in
theorem specStart18 (n : Int) (w : World) (h0 : -9223372036854775808 ≤ n) (h1 : n ≤ 9223372036854775807) :
 Calls Tryz.prog 17 #[.int .i64 n] w fun e w' => e = .returned (.string ⟨(startL n).toArray⟩) ∧ Below w.heap.size w w' := by
 have HI : Hid (_) := specInt n w h0 h1
 have HF : Hid (∀ Z, _) := fun Z => specL2Framed (startT n) Z (by have := startT_len h0 h1; omega)
 have HT : Hid (startT n = 115 :: 116 :: 97 :: 114 :: 116 :: 32 :: intL n) := rfl
 rw [startL_framed h0 h1]
 generalize framedL (startT n) = r at HF ⊢
 rw [HT.out] at HF
 have hcat := cat_list
 have hi := intL_len18 h0 h1
 have hd6 : (⟨#[115, 116, 97, 114, 116, 32]⟩ : ByteArray) = ⟨([115, 116, 97, 114, 116, 32] : List UInt8).toArray⟩ := rfl
 clear HT
 go_enter Tryz.func17, Tryz.ntmps17
 go_wp2_with fail
 refine Calls.mono HI.out ?_
 rintro e w1 ⟨rfl, hb1⟩
 have HB1 : Hid (Below w.heap.size w w1) := hb1
 clear hb1
 go_wp2_with fail
 refine Calls.mono (HF.out _) ?_
 rintro e w2 ⟨rfl, hb2⟩
 have HB2 : Hid (Below w.heap.size w w2) := HB1.out.trans (hb2.mono HB1.out.size)
 clear hb2
 go_wp2
 go_ret
 exact ⟨rfl, HB2.out⟩

set_option maxHeartbeats 4000000 in
set_option maxRecDepth 100000 in
theorem specNewDesk (a : Option Addr) (len cap : Nat) (ps : List Pk) (w : World) (hin : PkgsIn w a len ps) (hlen : len ≤ 1048576) (hsh : ShortPs ps) :
 Calls Tryz.prog 14 #[.slice a len cap] w fun e w' => ∃ v, e = .returned (.tuple #[v, .bool (newV ps).2]) ∧ DkOut w w' v (newV ps).1 := by
 obtain ⟨D, hD⟩ : ∃ D, w.heap.size = D := ⟨_, rfl⟩
 obtain ⟨W1, hW1⟩ : ∃ W, w.alloc (.cells #[.slice none 0 0, .int .i64 0, .int .i64 0, .string ⟨#[]⟩] 26) = W := ⟨_, rfl⟩
 have hs1 : W1.heap.size = D + 1 := by rw [← hW1, ← hD]; simp
 have hb1 : Below D w W1 := by rw [← hW1, ← hD]; exact (Below.refl _ _).alloc (Nat.le_refl _) _
 have bR := B4.new w (.slice none 0 0) (.int .i64 0) (.int .i64 0) (.string ⟨#[]⟩) 26
 rw [hW1, hD] at bR
 have HD : Hid (∀ Z, Below W1.heap.size W1 Z → B4 Z D (.slice none 0 0) (.int .i64 0) (.int .i64 0) (.string ⟨#[]⟩) ∧ PkgsIn Z a len ps ∧ Below D w Z) := fun Z hz =>
  ⟨bR.below hz, (hin.below (by rw [hD]; exact hb1)).below hz, hb1.trans (hz.mono (by omega))⟩
 have HP : Hid (_) := specPrt a len cap ps W1 (HD.out W1 (Below.refl _ _)).2.1 hlen hsh
 clear hin bR hb1
 by_cases h0 : (faultV ps).1 = 0
 ·
  have hV : newV ps = ((tasks18 ps, 1, 0, startL 1), true) := if_pos h0
  have hpv : prtV ps = parts18 ps := (prtV_ok h0).1
  have HL : Hid ((tasks18 ps).length = (parts18 ps).length) := by exact (by unfold tasks18; simp : (tasks18 ps).length = (parts18 ps).length)
  have hpl := (parts18_len (clean18_of h0)).1
  have HT : Hid (∀ Z, PkgsIn Z a len ps → _) := fun Z hz => specTasks18 a len cap ps Z hz hlen hsh h0
  have HS : Hid (∀ Z, _) := fun Z => specStart18 1 Z (by omega) (by omega)
  rw [hV]
  rw [hpv] at HP
  generalize tasks18 ps = ts at HL HT ⊢
  generalize startL 1 = sl at HS ⊢
  generalize parts18 ps = os at HP HL hpl
  obtain ⟨n, hn⟩ : ∃ n, os.length = n := ⟨_, rfl⟩
  rw [hn] at HP hpl
  have hn0 : ¬ n = 0 := by omega
  have hn1 : ¬ (n : Int) = 0 := by omega
  have hn2 : ((n : Int) == 0) = false := beq_eq_false_iff_ne.2 hn1
  clear hV hpv h0 hn HL hsh
  go_enter Tryz.func14, Tryz.ntmps14
  go_wp2_with fail
  refine Calls.mono HP.out ?_
  rintro e w2 ⟨v2, rfl, ho2, hb2⟩
  obtain ⟨a2, c2, rfl⟩ := own_slice18 ho2
  have HB2 : Hid (Below W1.heap.size W1 w2) := hb2
  have HT2 : Hid (_) := HT.out w2 (HD.out w2 hb2).2.1
  clear ho2 hb2 HP HT
  go_wp2_with fail
  refine Calls.mono HT2.out ?_
  rintro e w3 ⟨v3, xs, rfl, hx, ho3, hap, hb3⟩
  have hxl : xs.length = ts.length := by rw [← hx, List.length_map]
  obtain ⟨va, vc, rfl⟩ := own_slice18 ho3.row
  rw [hxl] at ho3
  have HB3 : Hid (Below W1.heap.size W1 w3) := HB2.out.trans (hb3.mono HB2.out.size)
  have HO3 : Hid (TksOwn w3 w2.heap.size (.slice va ts.length vc) xs ∧ xs.map (·.1) = ts ∧ ApartR (xs.map tvT)) := ⟨ho3, hx, hap⟩
  rw [hxl]
  clear ho3 hx hap hb3 HT2 hxl
  go_wp2_with fail
  refine Calls.mono (HS.out _) ?_
  rintro e w4 ⟨rfl, hb4⟩
  have HB4 : Hid (Below W1.heap.size W1 w4) := HB3.out.trans (hb4.mono HB3.out.size)
  have HO4 : Hid (TksOwn w4 w2.heap.size (.slice va ts.length vc) xs) := HO3.out.1.below hb4
  obtain ⟨br, _, hbD⟩ := HD.out w4 HB4.out
  have r0 := br.c0
  have r1 := br.c1
  have r2 := br.c2
  have r3 := br.c3
  have f0 := br.fr 0
  have f1 := br.fr 1
  have f2 := br.fr 2
  have f3 := br.fr 3
  have HBD : Hid (Below D w w4) := hbD
  clear hbD br hb4
  have hw2 : D + 1 ≤ w2.heap.size := by have := HB2.out.size; omega
  go_wp2
  obtain ⟨X, hX, y0, y1, y2, y3, hg⟩ := set4 (.slice va ts.length vc) (.int .i64 1) (.int .i64 0) (.string ⟨sl.toArray⟩) r0 r1 r2 r3
  rw [hX]
  refine bodyPost_ret (v := .tuple #[.agg #[.slice va ts.length vc, .int .i64 1, .int .i64 0, .string ⟨sl.toArray⟩], .bool true]) (by simp [results, Tryz.results14, go_sem, y0, y1, y2, y3]) rfl ?_
  have hk := HO4.out.kept hg (own_offR HO4.out.row (by omega)) (fun y hy => own_offR (HO4.out.trees y hy) (by omega))
  exact ⟨_, rfl, va, vc, xs, rfl, HO3.out.2.1, hk.base (by omega), HO3.out.2.2, by rw [hD]; exact HBD.out.grown hg (by have := HBD.out.size; omega) (fun k e => by injection e with e; omega)⟩
 ·
  have hV : newV ps = (dk0, false) := if_neg h0
  have hpv : prtV ps = [] := if_neg h0
  rw [hV]
  rw [hpv] at HP
  clear hV hpv h0 hsh
  go_enter Tryz.func14, Tryz.ntmps14
  go_wp2_with fail
  refine Calls.mono HP.out ?_
  rintro e w2 ⟨v2, rfl, ho2, hb2⟩
  obtain ⟨a2, c2, rfl⟩ := own_slice18 ho2
  obtain ⟨br, _, hbD⟩ := HD.out w2 hb2
  have r0 := br.c0
  have r1 := br.c1
  have r2 := br.c2
  have r3 := br.c3
  have f0 := br.fr 0
  have f1 := br.fr 1
  have f2 := br.fr 2
  have f3 := br.fr 3
  have HBD : Hid (Below D w w2) := hbD
  clear ho2 hb2 hbD br HP
  go_wp2
  obtain ⟨X, hX, y0, y1, y2, y3, hg⟩ := set4 (.slice none 0 0) (.int .i64 0) (.int .i64 0) (.string ⟨#[]⟩) r0 r1 r2 r3
  rw [hX]
  refine bodyPost_ret (v := .tuple #[.agg #[.slice none 0 0, .int .i64 0, .int .i64 0, .string ⟨#[]⟩], .bool false]) (by simp [results, Tryz.results14, go_sem, y0, y1, y2, y3]) rfl ?_
  exact ⟨_, rfl, DkOut.zero (by rw [hD]; exact HBD.out.grown hg (by have := HBD.out.size; omega) (fun k e => by injection e with e; omega))⟩

end Go.Proofs.YtaidhjjpdkkmcaaGreatDoor

/-! The functions of this program that are the library's are the ones that the library has contracts of: number by number, type by type; and these contracts, at this program. -/
namespace Go.Proofs
open Go.Shelf
def Tryz.laysM173_ren : Go.Shelf.Ren := ⟨fun | 173 => 86 | 246 => 115 | 283 => 149 | 284 => 150 | 285 => 151 | 286 => 152 | 129 => 172 | 317 => 171 | 318 => 173 | 319 => 174 | 320 => 175 | 337 => 184 | 338 => 185 | n => n, fun | 2 => 2 | 3 => 3 | 9 => 9 | 4 => 4 | 171 => 180 | 0 => 0 | 53 => 181 | 37 => 95 | 5 => 5 | 173 => 184 | 212 => 219 | 51 => 220 | 20 => 20 | 213 => 221 | 46 => 186 | 232 => 237 | 233 => 238 | n => n, fun | 17 => 9 | 18 => 10 | 19 => 11 | n => n⟩
theorem Tryz.laysM173 : Go.Proofs.LaysM.n173 Tryz.prog Tryz.laysM173_ren := {
 mixed := by kernel_rfl
 f129 := Tryz.func172.trans (congrArg some (by kernel_rfl))
 f173 := Tryz.func86.trans (congrArg some (by kernel_rfl))
 f246 := Tryz.func115.trans (congrArg some (by kernel_rfl))
 f283 := Tryz.func149.trans (congrArg some (by kernel_rfl))
 f284 := Tryz.func150.trans (congrArg some (by kernel_rfl))
 f285 := Tryz.func151.trans (congrArg some (by kernel_rfl))
 f286 := Tryz.func152.trans (congrArg some (by kernel_rfl))
 f317 := Tryz.func171.trans (congrArg some (by kernel_rfl))
 f318 := Tryz.func173.trans (congrArg some (by kernel_rfl))
 f319 := Tryz.func174.trans (congrArg some (by kernel_rfl))
 f320 := Tryz.func175.trans (congrArg some (by kernel_rfl))
 f337 := Tryz.func184.trans (congrArg some (by kernel_rfl))
 f338 := Tryz.func185.trans (congrArg some (by kernel_rfl))
 t0 := Tryz.underlying0
 a0 := Tryz.isAgg0
 z0 := Tryz.sizeOf0
 v0 := Tryz.zeroValue0
 t2 := Tryz.underlying2
 a2 := Tryz.isAgg2
 z2 := Tryz.sizeOf2
 v2 := Tryz.zeroValue2
 t3 := Tryz.underlying3
 a3 := Tryz.isAgg3
 z3 := Tryz.sizeOf3
 v3 := Tryz.zeroValue3
 t4 := Tryz.underlying4
 a4 := Tryz.isAgg4
 z4 := Tryz.sizeOf4
 v4 := Tryz.zeroValue4
 t5 := Tryz.underlying5
 a5 := Tryz.isAgg5
 z5 := Tryz.sizeOf5
 v5 := Tryz.zeroValue5
 t9 := Tryz.underlying9
 a9 := Tryz.isAgg9
 z9 := Tryz.sizeOf9
 v9 := Tryz.zeroValue9
 t20 := Tryz.underlying20
 a20 := Tryz.isAgg20
 z20 := Tryz.sizeOf20
 v20 := Tryz.zeroValue20
 t37 := Tryz.underlying95
 a37 := Tryz.isAgg95
 z37 := Tryz.sizeOf95
 v37 := Tryz.zeroValue95
 t46 := Tryz.underlying186
 a46 := Tryz.isAgg186
 z46 := Tryz.sizeOf186
 v46 := Tryz.zeroValue186
 t51 := Tryz.underlying220
 a51 := Tryz.isAgg220
 z51 := Tryz.sizeOf220
 v51 := Tryz.zeroValue220
 t53 := Tryz.underlying181
 a53 := Tryz.isAgg181
 z53 := Tryz.sizeOf181
 v53 := Tryz.zeroValue181
 t171 := Tryz.underlying180
 a171 := Tryz.isAgg180
 z171 := Tryz.sizeOf180
 v171 := Tryz.zeroValue180
 t173 := Tryz.underlying184
 a173 := Tryz.isAgg184
 z173 := Tryz.sizeOf184
 v173 := Tryz.zeroValue184
 t212 := Tryz.underlying219
 a212 := Tryz.isAgg219
 z212 := Tryz.sizeOf219
 v212 := Tryz.zeroValue219
 t213 := Tryz.underlying221
 a213 := Tryz.isAgg221
 z213 := Tryz.sizeOf221
 t232 := Tryz.underlying237
 a232 := Tryz.isAgg237
 z232 := Tryz.sizeOf237
 v232 := Tryz.zeroValue237
 t233 := Tryz.underlying238
 a233 := Tryz.isAgg238
 z233 := Tryz.sizeOf238
 v233 := Tryz.zeroValue238
 g17 := by kernel_rfl
 g18 := by kernel_rfl
 g19 := by kernel_rfl
 i0 := by kernel_rfl
 i2 := by kernel_rfl
 i3 := by kernel_rfl
 i4 := by kernel_rfl
 i5 := by kernel_rfl
 i9 := by kernel_rfl
 i20 := by kernel_rfl
 i37 := by kernel_rfl
 i46 := by kernel_rfl
 i51 := by kernel_rfl
 i53 := by kernel_rfl
 i171 := by kernel_rfl
 i173 := by kernel_rfl
 i212 := by kernel_rfl
 i232 := by kernel_rfl
 i233 := by kernel_rfl
 m17 := by kernel_rfl
 m18 := by kernel_rfl
 m19 := by kernel_rfl }
open Go.RowKit Go.Sort Go.Lib in
/-- strconv.FormatInt: "FormatInt returns the string representation of i in the given base": AT BASE 10: i's decimal numeral, for every int64. (LAID: no walk: one application.) -/
theorem Tryz.strconv_FormatInt_10 (n : Int) (h0 : -9223372036854775808 ≤ n) (h1 : n ≤ 9223372036854775807) (w : World) (htab : Lib.TabIs Tryz.prog w "internal/strconv.uint64pow10" .u64 Lib.pow10Tab) :
 Calls Tryz.prog 86 #[.int .i64 n, .int .i64 10] w fun e w' => e = .returned (.string ⟨(Lib.itoa n).toArray⟩) ∧ ∃ k os, w' = grow (w.drewN k) os := Any.strconv_FormatInt_10 Tryz.laysM173 n h0 h1 w htab
end Go.Proofs

/-! The landed code's numbers and texts: the library's table of powers of ten, numbers written, texts joined. -/
namespace Go.Proofs.YtaidhjjpdkkmcaaGreatDoor
open Go.RowKit

/-- The library's table of powers of ten lies as its text lays it. -/
def PowIs (w : World) : Prop := Lib.TabIs Tryz.prog w "internal/strconv.uint64pow10" .u64 Lib.pow10Tab
theorem powAt : (Tryz.prog.globalNamed "internal/strconv.uint64pow10").isSome = true := by kernel_rfl
theorem powTy : (Tryz.prog.globalNamed "internal/strconv.uint64pow10").bind (fun g => (Tryz.prog.globals[g]?).map (·.type)) = some 219 := by kernel_rfl
/-- A listed variable that reads as the table holds it. -/
theorem pow_of_cells {W : World} {g : Nat} {t : TypeId} {cs : Array Value} {fuel : Nat} {p : List MemPlace} (hg : Tryz.prog.globalNamed "internal/strconv.uint64pow10" = some g) (ht : (Tryz.prog.globals[g]?).map (·.type) = some t)
 (hv : W.var? Tryz.prog "internal/strconv.uint64pow10" = some cs) (hd : DataW.trod (fun _ => ()) Tryz.prog W 0 (fun _ => true) false fuel t cs.toList = some (Lib.tabData .u64 Lib.pow10Tab, p)) : PowIs W := by
 have h1 := powTy
 rw [hg, Option.bind_some, ht] at h1
 obtain rfl := Option.some.inj h1
 unfold PowIs Lib.TabIs
 rw [hv, ← Lib.cells_of_tab Tryz.underlying219 Tryz.underlying181 (by kernel_rfl) (by kernel_rfl) hd]
theorem PowIs.below {w w' : World} (h : PowIs w) (hb : Below w.heap.size w w') : PowIs w' := by
 obtain ⟨g, hg⟩ := Option.isSome_iff_exists.1 powAt
 exact Go.Joins.tab_stays hg h hb (Nat.le_refl _)
theorem PowIs.drew {w : World} (h : PowIs w) : PowIs w.drew := h

end Go.Proofs.YtaidhjjpdkkmcaaGreatDoor

/-! The contracts of chapter 2's implementation: Framed, the frame ahead of a text, Unframed. -/
namespace Go.Proofs.YtaidhjjpdkkmcaaGreatDoor
open Go.RowKit

set_option maxHeartbeats 400000 in
set_option maxRecDepth 100000 in
theorem implFramed (l : List UInt8) (w : World) (hl : l.length ≤ 1048576) :
 Calls Tryz.prog 60 #[.string ⟨l.toArray⟩] w fun e w' => e = .returned (.string ⟨(framedS l).toArray⟩) ∧ Below w.heap.size w w' := by
 by_cases h : 20000 < (l.length : Int)
 ·
  have HS : Hid (framedS l = []) := framedS_no l (by omega)
  go_enter Tryz.func60, Tryz.ntmps60
  go_wp2
  go_ret
  exact ⟨ret_strl (by rw [HS.out]), Below.refl _ _⟩
 ·
  have HS : Hid (framedS l = framedL l) := framedS_yes l (by omega)
  have hd := hashL_bd l
  go_enter Tryz.func60, Tryz.ntmps60
  go_wp2_with fail
  refine (implHexOfX _ (hexL l.length) _ (by rw [hexS_yes _ (by omega) (by omega), Int.toNat_natCast])).mono ?_
  rintro e w1 ⟨rfl, hb1⟩
  go_wp2_with fail
  refine (implHashX l _ hl).mono ?_
  rintro e w2 ⟨rfl, rfl⟩
  go_wp2_with fail
  refine (implHexOfX _ (hexL (hashL l).toNat) _ (hexS_yes _ (by omega) (by omega))).mono ?_
  rintro e w3 ⟨rfl, hb3⟩
  have h8 : ∀ n, (hexL n).length = 8 := fun _ => rfl
  have hcat := cat_list
  go_wp2
  go_ret
  exact ⟨ret_strl (by rw [HS.out]; rfl), hb1.trans (hb3.mono hb1.size)⟩

set_option maxHeartbeats 1000000 in
set_option maxRecDepth 100000 in
theorem implAhead (l : List UInt8) (w : World) (hl : l.length ≤ 1048576) :
 Calls Tryz.prog 84 #[.string ⟨l.toArray⟩] w fun e w' => e = .returned (.tuple #[.string ⟨(firstT l).toArray⟩, .bool (firstB l)]) ∧ w' = w := by
 have hext := ext_list
 have htk : ∀ u, List.take (l.length - u) (List.drop u l) = List.drop u l := fun u => List.take_of_length_le (by rw [List.length_drop]; omega)
 by_cases h16 : (l.length : Int) < 16
 ·
  have HF : Hid (firstT l = [] ∧ firstN l = 0 ∧ firstB l = false) := firstB_no l (by omega)
  go_enter Tryz.func84, Tryz.ntmps84
  go_wp2
  go_ret2
  exact ⟨ret_sb HF.out.1.symm HF.out.2.2.symm, rfl⟩
 ·
  obtain ⟨k, hk⟩ : ∃ k : Nat, fromN (l.take 8) = (k : Int) := Int.eq_ofNat_of_zero_le (fromN_bd (l.take 8)).1
  obtain ⟨h, hh⟩ : ∃ h : Int, fromN ((l.drop 8).take 8) = h := ⟨_, rfl⟩
  obtain ⟨one, hone⟩ : ∃ b : Bool, fromB (l.take 8) = b := ⟨_, rfl⟩
  obtain ⟨two, htwo⟩ : ∃ b : Bool, fromB ((l.drop 8).take 8) = b := ⟨_, rfl⟩
  have hkb : (k : Int) ≤ 4294967295 := by rw [← hk]; exact (fromN_bd (l.take 8)).2
  have HK : Hid (fromN (l.take 8) = (k : Int)) := hk
  have HH : Hid (fromN ((l.drop 8).take 8) = h) := hh
  have H1 : Hid (fromB (l.take 8) = one) := hone
  have H2 : Hid (fromB ((l.drop 8).take 8) = two) := htwo
  clear hk hh hone htwo
  have hdl : (l.drop 16).length = l.length - 16 := List.length_drop
  obtain ⟨r, hr⟩ : ∃ r, l.drop 16 = r := ⟨_, rfl⟩
  have hr16 := htk 16
  rw [hr] at hr16
  have HR : Hid (l.drop 16 = r) := hr
  have hrl : r.length = l.length - 16 := by rw [← hr]; exact hdl
  go_enter Tryz.func84, Tryz.ntmps84
  go_wp2_with fail
  refine (implFromHexX (l.take 8) k one _ HK.out H1.out).mono ?_
  rintro e w1 ⟨rfl, rfl⟩
  go_wp2_with fail
  refine (implFromHexX ((l.drop 8).take 8) h two _ HH.out H2.out).mono ?_
  rintro e w2 ⟨rfl, rfl⟩
  by_cases hall : one = true ∧ two = true ∧ (k : Int) ≤ 20000 ∧ 16 + (k : Int) ≤ (l.length : Int)
  ·
   obtain ⟨rfl, rfl, hk2, hk3⟩ := hall
   have hk4 : (k : Int) ≤ (r.length : Int) := by omega
   go_wp2_with fail
   refine (implHashX (r.take k) _ (by have := List.length_take_le k r; omega)).mono ?_
   rintro e w3 ⟨rfl, rfl⟩
   by_cases hq : hashL (r.take k) = h
   ·
    have HF : Hid (firstT l = r.take k ∧ firstN l = 16 + (k : Int) ∧ firstB l = true) := by
     have := firstB_yes l (by rw [HK.out, HH.out, H1.out, H2.out, HR.out]; exact ⟨by omega, rfl, rfl, hk2, hk3, by simpa using hq⟩)
     rw [HK.out, Int.toNat_natCast, HR.out] at this
     exact this
    have hqb : (hashL (r.take k) != h) = false := by rw [hq]; simp
    clear hq
    go_wp2
    go_ret2
    exact ⟨ret_sb HF.out.1.symm HF.out.2.2.symm, rfl⟩
   ·
    have HF : Hid (firstT l = [] ∧ firstN l = 0 ∧ firstB l = false) := firstB_no l (by
     rw [HK.out, HH.out, H1.out, H2.out, HR.out]
     rintro ⟨_, _, _, _, _, a⟩
     exact hq (by simpa using a))
    have hqb : (hashL (r.take k) != h) = true := bne_iff_ne.2 hq
    clear hq
    go_wp2
    go_ret2
    exact ⟨ret_sb HF.out.1.symm HF.out.2.2.symm, rfl⟩
  ·
   have HF : Hid (firstT l = [] ∧ firstN l = 0 ∧ firstB l = false) := firstB_no l (by
    rw [HK.out, HH.out, H1.out, H2.out]
    rintro ⟨_, a, b, c, d, _⟩
    exact hall ⟨a, b, c, d⟩)
   rcases one with _ | _
   ·
    go_wp2
    go_ret2
    exact ⟨ret_sb HF.out.1.symm HF.out.2.2.symm, rfl⟩
   ·
    rcases two with _ | _
    ·
     go_wp2
     go_ret2
     exact ⟨ret_sb HF.out.1.symm HF.out.2.2.symm, rfl⟩
    ·
     by_cases hk2 : 20000 < (k : Int)
     ·
      go_wp2
      go_ret2
      exact ⟨ret_sb HF.out.1.symm HF.out.2.2.symm, rfl⟩
     ·
      have hk3 : (r.length : Int) < (k : Int) := by
       by_cases h1 : (l.length : Int) < 16 + (k : Int)
       ·
        omega
       ·
        exact absurd ⟨rfl, rfl, by omega, by omega⟩ hall
      clear hall
      go_wp2
      go_ret2
      exact ⟨ret_sb HF.out.1.symm HF.out.2.2.symm, rfl⟩

theorem implAheadX (l t : List UInt8) (b : Bool) (w : World) (hl : l.length ≤ 1048576) (ht : firstT l = t) (hb : firstB l = b) :
 Calls Tryz.prog 84 #[.string ⟨l.toArray⟩] w fun e w' => e = .returned (.tuple #[.string ⟨t.toArray⟩, .bool b]) ∧ w' = w := by
 subst ht hb; exact implAhead l w hl



end Go.Proofs.YtaidhjjpdkkmcaaGreatDoor
