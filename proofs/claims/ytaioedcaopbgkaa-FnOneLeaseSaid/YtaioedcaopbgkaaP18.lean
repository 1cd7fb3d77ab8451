/-
  Parts of one proof, one behind the other: Hash, FromHex, Lists, ListsX, FrameS, NewS2, Math18C, Math18D, NewP, TkM, TkM2.
-/
import Derived.Test.YtaioedcaopbgkaaP17
import Derived.Test.YtaioedcaopbgkaaRows
import Derived.Test.YtaioedcaopbgkaaP1
import Derived.WalkKit
import Derived.WalkLawsBesides
import Derived.OpenShut
import Derived.Test.YtaioedcaopbgkaaP4
import Derived.Laws.Externs
import Derived.Handy
import Derived.Test.YtaioedcaopbgkaaP2
import Derived.Test.YtaioedcaopbgkaaP16
import Derived.Test.YtaioedcaopbgkaaP6
import Derived.Test.YtaioedcaopbgkaaP15
import Derived.Test.YtaioedcaopbgkaaP11
import Derived.Deep.RegionWith

/-! The contracts of spec.Hash and impl.Hash: both return the hash of the text, and nothing in memory turns. -/
namespace Go.Proofs.Ytaioedcaopbgkaa
open Go.RowKit

set_option maxHeartbeats 400000 in
set_option maxRecDepth 100000 in
theorem specHash (s : ByteArray) (w : World) (hs : s.size ≤ maxLen) :
 Calls Try.prog 75 #[.string s] w fun e w' => e = .returned (.int .i64 (hashL s.data.toList)) ∧ w' = w := by
 unfold maxLen at hs
 go_enter Try.func75, Try.ntmps75
 go_wp2
 go_loop [3, 4] (fun h i => ∃ k : Nat, k ≤ s.size ∧ i = .int .i64 k ∧ h = .int .i64 (hashL (s.data.toList.take k))) (fun _ i => s.size - (intOf i).toNat)
 case atStart => exact ⟨0, Nat.zero_le _, rfl, rfl⟩
 case round =>
  obtain ⟨k, hk, rfl, rfl⟩ := hrel
  have hd := hashL_bd (s.data.toList.take k)
  by_cases hlt : k < s.size
  ·
   have HS : Hid (hashL (s.data.toList.take (k + 1)) = hashStep (hashL (s.data.toList.take k)) s[k]) := hashL_take s k hlt
   go_wp2
   go_round
   case rel => exact ⟨k + 1, by omega, by go_num, by rw [HS.out, ← stepW _ _ hd]⟩
   case measure => simp [intOf]; omega
  ·
   go_wp2
   go_ret
   exact ⟨ret_int (by rw [List.take_of_length_le (by simp; omega)]), rfl⟩


end Go.Proofs.Ytaioedcaopbgkaa

/-! The contracts of spec.FromHex and impl.FromHex. -/
namespace Go.Proofs.Ytaioedcaopbgkaa
open Go.RowKit


set_option maxHeartbeats 1000000 in
set_option maxRecDepth 100000 in
theorem specFromHex (s : ByteArray) (w : World) :
 Calls Try.prog 88 #[.string s] w fun e w' => e = .returned (.tuple #[.int .i64 (fromN s.data.toList), .bool (fromB s.data.toList)]) ∧ w' = w := by
 have hsz : s.data.toList.length = s.size := by simp
 by_cases h8 : s.size = 8
 ·
  have hb8 : ((s.size : Int) != 8) = false := by rw [h8]; rfl
  have H8 : Hid (s.size = 8) := h8
  have HZ : Hid (s.data.toList.length = s.size) := hsz
  clear hsz h8
  go_enter Try.func88, Try.ntmps88
  go_wp2
  go_loop [4, 5] (fun n i => ∃ k : Nat, k ≤ 8 ∧ i = .int .i64 k ∧ n = .int .i64 (fromL (s.data.toList.take k)) ∧ 0 ≤ fromL (s.data.toList.take k)) (fun _ i => 8 - (intOf i).toNat)
  case atStart => exact ⟨0, Nat.zero_le _, rfl, rfl, by simp [fromL]⟩
  case round =>
   obtain ⟨k, hk, rfl, rfl, hpos⟩ := hrel
   have hd := fromL_le (s.data.toList.take k) (by have := List.length_take_le k s.data.toList; omega)
   by_cases hlt : k < 8
   ·
    have hlt' : k < s.size := by have := H8.out; omega
    have HS : Hid (fromL (s.data.toList.take (k + 1)) = hexStep (fromL (s.data.toList.take k)) s[k]) := fromL_take s k hlt'
    have HL : Hid (fromL (s.data.toList.take (k + 1)) ≤ 4294967295) := (fromL_le (s.data.toList.take (k + 1)) (by have := List.length_take_le (k + 1) s.data.toList; omega)).2
    rcases (show (48 ≤ s[k].toNat ∧ s[k].toNat ≤ 57) ∨ (97 ≤ s[k].toNat ∧ s[k].toNat ≤ 102) ∨ s[k].toNat < 48 ∨ (57 < s[k].toNat ∧ s[k].toNat < 97) ∨ 102 < s[k].toNat from by omega) with ⟨c1, c2⟩ | ⟨c1, c2⟩ | hc
    ·
     have HV : Hid (hexStep (fromL (s.data.toList.take k)) s[k] = 16 * fromL (s.data.toList.take k) + ((s[k].toNat : Int) - 48)) := hexStep_dig _ _ hpos c1 c2
     go_wp2
     go_round
     case rel => exact ⟨k + 1, by omega, by go_num, by rw [HS.out, HV.out], by rw [HS.out, HV.out]; omega⟩
     case measure => simp [intOf]; omega
    ·
     have HV : Hid (hexStep (fromL (s.data.toList.take k)) s[k] = 16 * fromL (s.data.toList.take k) + ((s[k].toNat : Int) - 87)) := hexStep_let _ _ hpos c1 c2
     go_wp2
     go_round
     case rel => exact ⟨k + 1, by omega, by go_num, by rw [HS.out, HV.out]; go_num, by rw [HS.out, HV.out]; omega⟩
     case measure => simp [intOf]; omega
    ·
     have HV : Hid (hexStep (fromL (s.data.toList.take k)) s[k] = -1) := hexStep_none _ _ hc
     have HB : Hid (fromB s.data.toList = false ∧ fromN s.data.toList = 0) := from_no s.data.toList (Or.inr (fromL_stuck s (k + 1) (by rw [HS.out, HV.out])))
     rcases hc with hc | ⟨hc, hc'⟩ | hc
     all_goals
      go_wp2
      go_ret2
      exact ⟨ret_ib HB.out.2.symm HB.out.1.symm, rfl⟩
   ·
    have e : s.data.toList.take k = s.data.toList := List.take_of_length_le (by have := H8.out; have := HZ.out; omega)
    rw [e] at hpos hd ⊢
    have HB : Hid (fromB s.data.toList = true ∧ fromN s.data.toList = fromL s.data.toList) := from_yes s.data.toList (by have := H8.out; have := HZ.out; omega) (by omega)
    clear e
    go_wp2
    go_ret2
    exact ⟨ret_ib HB.out.2.symm HB.out.1.symm, rfl⟩
 ·
  have hb8 : ((s.size : Int) != 8) = true := by rw [bne_iff_ne]; omega
  have HB : Hid (fromB s.data.toList = false ∧ fromN s.data.toList = 0) := from_no s.data.toList (Or.inl (by omega))
  clear hsz h8
  go_enter Try.func88, Try.ntmps88
  go_wp2
  go_ret2
  exact ⟨ret_ib HB.out.2.symm HB.out.1.symm, rfl⟩

end Go.Proofs.Ytaioedcaopbgkaa

/-! The contracts of chapter 1 at texts that are told as lists of bytes. -/
namespace Go.Proofs.Ytaioedcaopbgkaa
open Go.RowKit




theorem specHashX (l : List UInt8) (w : World) (hl : l.length ≤ 1048576) :
 Calls Try.prog 75 #[.string ⟨l.toArray⟩] w fun e w' => e = .returned (.int .i64 (hashL l)) ∧ w' = w :=
 specHash ⟨l.toArray⟩ w (by unfold maxLen; exact Nat.le_trans hl (by decide))


end Go.Proofs.Ytaioedcaopbgkaa

/-! HexOf's and FromHex's contracts at texts that are told as lists of bytes. -/
namespace Go.Proofs.Ytaioedcaopbgkaa
open Go.RowKit




theorem specFromHexX (t : List UInt8) (x : Int) (b : Bool) (w : World) (hx : fromN t = x) (hb : fromB t = b) :
 Calls Try.prog 88 #[.string ⟨t.toArray⟩] w fun e w' => e = .returned (.tuple #[.int .i64 x, .bool b]) ∧ w' = w := by
 subst hx hb; exact specFromHex ⟨t.toArray⟩ w

end Go.Proofs.Ytaioedcaopbgkaa

/-! The contracts of chapter 2's specification: Framed, the first frame of a text, Unframed. -/
namespace Go.Proofs.Ytaioedcaopbgkaa
open Go.RowKit

set_option maxHeartbeats 400000 in
set_option maxRecDepth 100000 in
theorem specL2Framed (l : List UInt8) (w : World) (hl : l.length ≤ 1048576) :
 Calls Try.prog 62 #[.string ⟨l.toArray⟩] w fun e w' => e = .returned (.string ⟨(framedL l).toArray⟩) ∧ Below w.heap.size w w' := by
 have hd := hashL_bd l
 go_enter Try.func62, Try.ntmps62
 go_wp2_with fail
 refine (specL1Hex _ _ (by omega) (by omega)).mono ?_
 rintro e w1 ⟨rfl, hb1⟩
 go_wp2_with fail
 refine (specHashX l _ hl).mono ?_
 rintro e w2 ⟨rfl, rfl⟩
 go_wp2_with fail
 refine (specL1Hex _ _ (by omega) (by omega)).mono ?_
 rintro e w3 ⟨rfl, hb3⟩
 have h8 : ∀ n, (hexL n).length = 8 := fun _ => rfl
 have hcat := cat_list
 go_wp2
 go_ret
 exact ⟨rfl, hb1.trans (hb3.mono hb1.size)⟩


set_option maxHeartbeats 1000000 in
set_option maxRecDepth 100000 in
theorem specFirst (l : List UInt8) (w : World) (hl : l.length ≤ 1048576) :
 Calls Try.prog 76 #[.string ⟨l.toArray⟩] w fun e w' => e = .returned (.tuple #[.string ⟨(firstT l).toArray⟩, .int .i64 (firstN l), .bool (firstB l)]) ∧ w' = w := by
 have hext := ext_list
 by_cases h16 : (l.length : Int) < 16
 ·
  have HF : Hid (firstT l = [] ∧ firstN l = 0 ∧ firstB l = false) := firstB_no l (by omega)
  go_enter Try.func76, Try.ntmps76
  go_wp2
  go_ret3
  exact ⟨ret_sib HF.out.1.symm HF.out.2.1.symm HF.out.2.2.symm, rfl⟩
 ·
  obtain ⟨k, hk⟩ : ∃ k : Nat, fromN (l.take 8) = (k : Int) := Int.eq_ofNat_of_zero_le (fromN_bd (l.take 8)).1
  obtain ⟨h, hh⟩ : ∃ h : Int, fromN ((l.drop 8).take 8) = h := ⟨_, rfl⟩
  obtain ⟨one, hone⟩ : ∃ b : Bool, fromB (l.take 8) = b := ⟨_, rfl⟩
  obtain ⟨two, htwo⟩ : ∃ b : Bool, fromB ((l.drop 8).take 8) = b := ⟨_, rfl⟩
  have hkb : (k : Int) ≤ 4294967295 := by rw [← hk]; exact (fromN_bd (l.take 8)).2
  have HK : Hid (fromN (l.take 8) = (k : Int)) := hk
  have HH : Hid (fromN ((l.drop 8).take 8) = h) := hh
  have H1 : Hid (fromB (l.take 8) = one) := hone
  have H2 : Hid (fromB ((l.drop 8).take 8) = two) := htwo
  clear hk hh hone htwo
  go_enter Try.func76, Try.ntmps76
  go_wp2_with fail
  refine (specFromHexX (l.take 8) k one _ HK.out H1.out).mono ?_
  rintro e w1 ⟨rfl, rfl⟩
  go_wp2_with fail
  refine (specFromHexX ((l.drop 8).take 8) h two _ HH.out H2.out).mono ?_
  rintro e w2 ⟨rfl, rfl⟩
  by_cases hall : one = true ∧ two = true ∧ (k : Int) ≤ 20000 ∧ 16 + (k : Int) ≤ (l.length : Int)
  ·
   obtain ⟨rfl, rfl, hk2, hk3⟩ := hall
   have hkk : (16 + (k : Int)).toNat - 16 = k := by omega
   have hk4 : (16 : Int) ≤ 16 + (k : Int) := by omega
   have hk5 : (0 : Int) ≤ 16 + (k : Int) := by omega
   go_wp2_with fail
   refine (specHashX ((l.drop 16).take k) _ (by have := List.length_take_le k (l.drop 16); omega)).mono ?_
   rintro e w3 ⟨rfl, rfl⟩
   by_cases hq : hashL ((l.drop 16).take k) = h
   ·
    have HF : Hid (firstT l = (l.drop 16).take k ∧ firstN l = 16 + (k : Int) ∧ firstB l = true) := by
     have := firstB_yes l (by rw [HK.out, HH.out, H1.out, H2.out]; exact ⟨by omega, rfl, rfl, hk2, hk3, by simpa using hq⟩)
     rw [HK.out, Int.toNat_natCast] at this
     exact this
    have hqb : (hashL ((l.drop 16).take k) != h) = false := by rw [hq]; simp
    clear hq
    go_wp2
    go_ret3
    exact ⟨ret_sib HF.out.1.symm HF.out.2.1.symm HF.out.2.2.symm, rfl⟩
   ·
    have HF : Hid (firstT l = [] ∧ firstN l = 0 ∧ firstB l = false) := firstB_no l (by
     rw [HK.out, HH.out, H1.out, H2.out]
     rintro ⟨_, _, _, _, _, a⟩
     exact hq (by simpa using a))
    have hqb : (hashL ((l.drop 16).take k) != h) = true := bne_iff_ne.2 hq
    clear hq
    go_wp2
    go_ret3
    exact ⟨ret_sib HF.out.1.symm HF.out.2.1.symm HF.out.2.2.symm, rfl⟩
  ·
   have HF : Hid (firstT l = [] ∧ firstN l = 0 ∧ firstB l = false) := firstB_no l (by
    rw [HK.out, HH.out, H1.out, H2.out]
    rintro ⟨_, a, b, c, d, _⟩
    exact hall ⟨a, b, c, d⟩)
   rcases one with _ | _
   ·
    go_wp2
    go_ret3
    exact ⟨ret_sib HF.out.1.symm HF.out.2.1.symm HF.out.2.2.symm, rfl⟩
   ·
    rcases two with _ | _
    ·
     go_wp2
     go_ret3
     exact ⟨ret_sib HF.out.1.symm HF.out.2.1.symm HF.out.2.2.symm, rfl⟩
    ·
     by_cases hk2 : 20000 < (k : Int)
     ·
      go_wp2
      go_ret3
      exact ⟨ret_sib HF.out.1.symm HF.out.2.1.symm HF.out.2.2.symm, rfl⟩
     ·
      have hk3 : (l.length : Int) < 16 + (k : Int) := by
       by_cases h1 : (l.length : Int) < 16 + (k : Int)
       ·
        exact h1
       ·
        exact absurd ⟨rfl, rfl, by omega, by omega⟩ hall
      clear hall
      go_wp2
      go_ret3
      exact ⟨ret_sib HF.out.1.symm HF.out.2.1.symm HF.out.2.2.symm, rfl⟩


end Go.Proofs.Ytaioedcaopbgkaa

/-! The contracts of chapter 18's specification: l18Start, NewDesk. -/
namespace Go.Proofs.Ytaioedcaopbgkaa
open Go.RowKit

theorem intL_len18 {n : Int} (h0 : -9223372036854775808 ≤ n) (h1 : n ≤ 9223372036854775807) : (intL n).length ≤ 21 := by
 have h := digL_len 19 n.natAbs (by omega)
 unfold intL
 split
 ·
  simp only [List.length_cons]; omega
 ·
  omega
/-- The text of a start. -/
def startT (n : Int) : List UInt8 := 115 :: 116 :: 97 :: 114 :: 116 :: 32 :: intL n
theorem startT_len {n : Int} (h0 : -9223372036854775808 ≤ n) (h1 : n ≤ 9223372036854775807) : (startT n).length ≤ 27 := by
 have := intL_len18 h0 h1
 unfold startT
 simp only [List.length_cons]
 omega
theorem startL_framed {n : Int} (h0 : -9223372036854775808 ≤ n) (h1 : n ≤ 9223372036854775807) : startL n = framedL (startT n) := by
 have := startT_len h0 h1
 exact framedS_yes (startT n) (by omega)

set_option maxHeartbeats 1000000 in
set_option maxRecDepth 100000 in
theorem specStart18 (n : Int) (w : World) (h0 : -9223372036854775808 ≤ n) (h1 : n ≤ 9223372036854775807) :
 Calls Try.prog 46 #[.int .i64 n] w fun e w' => e = .returned (.string ⟨(startL n).toArray⟩) ∧ Below w.heap.size w w' := by
 have HI : Hid (_) := specInt n w h0 h1
 have HF : Hid (∀ Z, _) := fun Z => specL2Framed (startT n) Z (by have := startT_len h0 h1; omega)
 have HT : Hid (startT n = 115 :: 116 :: 97 :: 114 :: 116 :: 32 :: intL n) := rfl
 rw [startL_framed h0 h1]
 generalize framedL (startT n) = r at HF ⊢
 rw [HT.out] at HF
 have hcat := cat_list
 have hi := intL_len18 h0 h1
 have hd6 : (⟨#[115, 116, 97, 114, 116, 32]⟩ : ByteArray) = ⟨([115, 116, 97, 114, 116, 32] : List UInt8).toArray⟩ := rfl
 clear HT
 go_enter Try.func46, Try.ntmps46
 go_wp2_with fail
 refine Calls.mono HI.out ?_
 rintro e w1 ⟨rfl, hb1⟩
 have HB1 : Hid (Below w.heap.size w w1) := hb1
 clear hb1
 go_wp2_with fail
 refine Calls.mono (HF.out _) ?_
 rintro e w2 ⟨rfl, hb2⟩
 have HB2 : Hid (Below w.heap.size w w2) := HB1.out.trans (hb2.mono HB1.out.size)
 clear hb2
 go_wp2
 go_ret
 exact ⟨rfl, HB2.out⟩

set_option maxHeartbeats 4000000 in
set_option maxRecDepth 100000 in
theorem specNewDesk (a : Option Addr) (len cap : Nat) (ps : List Pk) (w : World) (hin : PkgsIn w a len ps) (hlen : len ≤ 1048576) (hsh : ShortPs ps) :
 Calls Try.prog 24 #[.slice a len cap] w fun e w' => ∃ v, e = .returned (.tuple #[v, .bool (newV ps).2]) ∧ DkOut w w' v (newV ps).1 := by
 obtain ⟨D, hD⟩ : ∃ D, w.heap.size = D := ⟨_, rfl⟩
 obtain ⟨W1, hW1⟩ : ∃ W, w.alloc (.cells #[.slice none 0 0, .int .i64 0, .int .i64 0, .string ⟨#[]⟩] 26) = W := ⟨_, rfl⟩
 have hs1 : W1.heap.size = D + 1 := by rw [← hW1, ← hD]; simp
 have hb1 : Below D w W1 := by rw [← hW1, ← hD]; exact (Below.refl _ _).alloc (Nat.le_refl _) _
 have bR := B4.new w (.slice none 0 0) (.int .i64 0) (.int .i64 0) (.string ⟨#[]⟩) 26
 rw [hW1, hD] at bR
 have HD : Hid (∀ Z, Below W1.heap.size W1 Z → B4 Z D (.slice none 0 0) (.int .i64 0) (.int .i64 0) (.string ⟨#[]⟩) ∧ PkgsIn Z a len ps ∧ Below D w Z) := fun Z hz =>
  ⟨bR.below hz, (hin.below (by rw [hD]; exact hb1)).below hz, hb1.trans (hz.mono (by omega))⟩
 have HP : Hid (_) := specPrt a len cap ps W1 (HD.out W1 (Below.refl _ _)).2.1 hlen hsh
 clear hin bR hb1
 by_cases h0 : (faultV ps).1 = 0
 ·
  have hV : newV ps = ((tasks18 ps, 1, 0, startL 1), true) := if_pos h0
  have hpv : prtV ps = parts18 ps := (prtV_ok h0).1
  have HL : Hid ((tasks18 ps).length = (parts18 ps).length) := by exact (by unfold tasks18; simp : (tasks18 ps).length = (parts18 ps).length)
  have hpl := (parts18_len (clean18_of h0)).1
  have HT : Hid (∀ Z, PkgsIn Z a len ps → _) := fun Z hz => specTasks18 a len cap ps Z hz hlen hsh h0
  have HS : Hid (∀ Z, _) := fun Z => specStart18 1 Z (by omega) (by omega)
  rw [hV]
  rw [hpv] at HP
  generalize tasks18 ps = ts at HL HT ⊢
  generalize startL 1 = sl at HS ⊢
  generalize parts18 ps = os at HP HL hpl
  obtain ⟨n, hn⟩ : ∃ n, os.length = n := ⟨_, rfl⟩
  rw [hn] at HP hpl
  have hn0 : ¬ n = 0 := by omega
  have hn1 : ¬ (n : Int) = 0 := by omega
  have hn2 : ((n : Int) == 0) = false := beq_eq_false_iff_ne.2 hn1
  clear hV hpv h0 hn HL hsh
  go_enter Try.func24, Try.ntmps24
  go_wp2_with fail
  refine Calls.mono HP.out ?_
  rintro e w2 ⟨v2, rfl, ho2, hb2⟩
  obtain ⟨a2, c2, rfl⟩ := own_slice18 ho2
  have HB2 : Hid (Below W1.heap.size W1 w2) := hb2
  have HT2 : Hid (_) := HT.out w2 (HD.out w2 hb2).2.1
  clear ho2 hb2 HP HT
  go_wp2_with fail
  refine Calls.mono HT2.out ?_
  rintro e w3 ⟨v3, xs, rfl, hx, ho3, hap, hb3⟩
  have hxl : xs.length = ts.length := by rw [← hx, List.length_map]
  obtain ⟨va, vc, rfl⟩ := own_slice18 ho3.row
  rw [hxl] at ho3
  have HB3 : Hid (Below W1.heap.size W1 w3) := HB2.out.trans (hb3.mono HB2.out.size)
  have HO3 : Hid (TksOwn w3 w2.heap.size (.slice va ts.length vc) xs ∧ xs.map (·.1) = ts ∧ ApartR (xs.map tvT)) := ⟨ho3, hx, hap⟩
  rw [hxl]
  clear ho3 hx hap hb3 HT2 hxl
  go_wp2_with fail
  refine Calls.mono (HS.out _) ?_
  rintro e w4 ⟨rfl, hb4⟩
  have HB4 : Hid (Below W1.heap.size W1 w4) := HB3.out.trans (hb4.mono HB3.out.size)
  have HO4 : Hid (TksOwn w4 w2.heap.size (.slice va ts.length vc) xs) := HO3.out.1.below hb4
  obtain ⟨br, _, hbD⟩ := HD.out w4 HB4.out
  have r0 := br.c0
  have r1 := br.c1
  have r2 := br.c2
  have r3 := br.c3
  have f0 := br.fr 0
  have f1 := br.fr 1
  have f2 := br.fr 2
  have f3 := br.fr 3
  have HBD : Hid (Below D w w4) := hbD
  clear hbD br hb4
  have hw2 : D + 1 ≤ w2.heap.size := by have := HB2.out.size; omega
  go_wp2
  obtain ⟨X, hX, y0, y1, y2, y3, hg⟩ := set4 (.slice va ts.length vc) (.int .i64 1) (.int .i64 0) (.string ⟨sl.toArray⟩) r0 r1 r2 r3
  rw [hX]
  refine bodyPost_ret (v := .tuple #[.agg #[.slice va ts.length vc, .int .i64 1, .int .i64 0, .string ⟨sl.toArray⟩], .bool true]) (by simp [results, Try.results24, go_sem, y0, y1, y2, y3]) rfl ?_
  have hk := HO4.out.kept hg (own_offR HO4.out.row (by omega)) (fun y hy => own_offR (HO4.out.trees y hy) (by omega))
  exact ⟨_, rfl, va, vc, xs, rfl, HO3.out.2.1, hk.base (by omega), HO3.out.2.2, by rw [hD]; exact HBD.out.grown hg (by have := HBD.out.size; omega) (fun k e => by injection e with e; omega)⟩
 ·
  have hV : newV ps = (dk0, false) := if_neg h0
  have hpv : prtV ps = [] := if_neg h0
  rw [hV]
  rw [hpv] at HP
  clear hV hpv h0 hsh
  go_enter Try.func24, Try.ntmps24
  go_wp2_with fail
  refine Calls.mono HP.out ?_
  rintro e w2 ⟨v2, rfl, ho2, hb2⟩
  obtain ⟨a2, c2, rfl⟩ := own_slice18 ho2
  obtain ⟨br, _, hbD⟩ := HD.out w2 hb2
  have r0 := br.c0
  have r1 := br.c1
  have r2 := br.c2
  have r3 := br.c3
  have f0 := br.fr 0
  have f1 := br.fr 1
  have f2 := br.fr 2
  have f3 := br.fr 3
  have HBD : Hid (Below D w w2) := hbD
  clear ho2 hb2 hbD br HP
  go_wp2
  obtain ⟨X, hX, y0, y1, y2, y3, hg⟩ := set4 (.slice none 0 0) (.int .i64 0) (.int .i64 0) (.string ⟨#[]⟩) r0 r1 r2 r3
  rw [hX]
  refine bodyPost_ret (v := .tuple #[.agg #[.slice none 0 0, .int .i64 0, .int .i64 0, .string ⟨#[]⟩], .bool false]) (by simp [results, Try.results24, go_sem, y0, y1, y2, y3]) rfl ?_
  exact ⟨_, rfl, DkOut.zero (by rw [hD]; exact HBD.out.grown hg (by have := HBD.out.size; omega) (fun k e => by injection e with e; omega))⟩

end Go.Proofs.Ytaioedcaopbgkaa

/-! Plain facts of chapter 18: what Reborn answers. -/
namespace Go.Proofs.Ytaioedcaopbgkaa

/-- One frame of a journal, done again. -/
def okDone (ts : List Ta) (f : List UInt8) (k key : Int) : Prop :=
 f = doneT k key ∧ (0 ≤ k ∧ k < (ts.length : Int)) ∧ key18 key = true ∧ (ts.getD k.toNat ta0).2.2.1 ≠ 2 ∧ free18 ts (ts.getD k.toNat ta0) = true
instance (ts : List Ta) (f : List UInt8) (k key : Int) : Decidable (okDone ts f k key) := by unfold okDone; infer_instance
noncomputable def numAt (f : List UInt8) (i : Nat) : Int := readV ((splitL 32 f).getD i [])
noncomputable def step18 (ts : List Ta) (last : Int) (f : List UInt8) : Option (List Ta × Int) :=
 if f = startT (last + 1) then some (ts, last + 1)
 else if okDone ts f (numAt f 1) (numAt f 2) then some (ts.set (numAt f 1).toNat (done18 (ts.getD (numAt f 1).toNat ta0) (numAt f 2)), last)
 else none
theorem doneT_words (k key : Int) : doneT k key = doneW ++ 32 :: (intL k ++ 32 :: intL key) := by unfold doneT doneW; simp
theorem startT_words (n : Int) : startT n = startW ++ 32 :: intL n := by unfold startT startW; simp
/-- A done that is right is read as it was written. -/
theorem okDone_nums {ts : List Ta} {f : List UInt8} {k key : Int} (hl : ts.length ≤ 8) (h : okDone ts f k key) : numAt f 1 = k ∧ numAt f 2 = key := by
 obtain ⟨h1, h2, h3, _⟩ := h
 have hk : 0 ≤ key ∧ key ≤ 2147483646 := by unfold key18 inB at h3; exact of_decide_eq_true h3
 obtain ⟨w, u, hs, ⟨_, hv⟩, ⟨_, hu⟩⟩ := (isDone_iff (f := f) (k := k) (key := key) (by omega) (by omega) (by omega) (by omega)).2 (by rw [h1, doneT_words])
 unfold numAt
 rw [hs]
 exact ⟨hv, hu⟩
theorem start_not_done {n k key : Int} : startT n ≠ doneT k key := by
 rw [doneT_words]
 unfold startT doneW
 intro e
 simp at e
theorem step18_start {ts : List Ta} {last : Int} {f : List UInt8} (h : f = startT (last + 1)) : step18 ts last f = some (ts, last + 1) := if_pos h
theorem step18_done {ts : List Ta} {last k key : Int} {f : List UInt8} (hl : ts.length ≤ 8) (h : okDone ts f k key) : step18 ts last f = some (ts.set k.toNat (done18 (ts.getD k.toNat ta0) key), last) := by
 obtain ⟨e1, e2⟩ := okDone_nums hl h
 unfold step18
 rw [if_neg (by rw [h.1]; exact fun e => start_not_done e.symm), e1, e2, if_pos h]
theorem step18_none {ts : List Ta} {last : Int} {f : List UInt8} (h1 : f ≠ startT (last + 1)) (h2 : ∀ k key, ¬ okDone ts f k key) : step18 ts last f = none := by
 unfold step18
 rw [if_neg h1, if_neg (h2 _ _)]

/-- The frames of a journal, done again as long as they are right. -/
noncomputable def againGo : List (List UInt8) → List Ta → Int → Nat → List Ta × Int × Nat
 | [], ts, last, u => (ts, last, u)
 | f :: r, ts, last, u =>
  match step18 ts last f with
  | some p => againGo r p.1 p.2 (u + (16 + f.length))
  | none => (ts, last, u)
theorem againGo_end {fs : List (List UInt8)} {ts : List Ta} {last : Int} {u i : Nat} (hi : fs.length ≤ i) : againGo (fs.drop i) ts last u = (ts, last, u) := by
 rw [List.drop_of_length_le hi]; rfl
theorem againGo_yes {fs : List (List UInt8)} {ts ts' : List Ta} {last last' : Int} {i : Nat} (hi : i < fs.length) (h : step18 ts last (fs.getD i []) = some (ts', last')) :
 againGo (fs.drop i) ts last (framesU (fs.take i)) = againGo (fs.drop (i + 1)) ts' last' (framesU (fs.take (i + 1))) := by
 have hg : fs.getD i [] = fs[i] := by simp [List.getD, hi]
 rw [hg] at h
 rw [List.drop_eq_getElem_cons hi, againGo, h, List.take_succ_eq_append_getElem hi, framesU_snoc]
theorem againGo_no {fs : List (List UInt8)} {ts : List Ta} {last : Int} {u i : Nat} (hi : i < fs.length) (h : step18 ts last (fs.getD i []) = none) : againGo (fs.drop i) ts last u = (ts, last, u) := by
 have hg : fs.getD i [] = fs[i] := by simp [List.getD, hi]
 rw [hg] at h
 rw [List.drop_eq_getElem_cons hi, againGo, h]

/-- What Reborn answers. -/
noncomputable def rebD (ps : List Pk) (jr : List UInt8) : Dk :=
 let r := againGo (framesL jr) (newV ps).1.1 0 0
 (r.1, r.2.1 + 1, 0, jr.take r.2.2 ++ startL (r.2.1 + 1))
noncomputable def rebV (ps : List Pk) (jr : List UInt8) : Dk × Bool := if (newV ps).2 = true ∧ deskB (rebD ps jr) = true then (rebD ps jr, true) else (dk0, false)
theorem step18_len {ts ts' : List Ta} {last last' : Int} {f : List UInt8} (h : step18 ts last f = some (ts', last')) : ts'.length = ts.length ∧ last ≤ last' ∧ last' ≤ last + 1 := by
 unfold step18 at h
 split at h
 ·
  injection h with h; injection h with h1 h2; subst h1; subst h2; exact ⟨rfl, by omega, by omega⟩
 ·
  split at h
  ·
   injection h with h; injection h with h1 h2; subst h1; subst h2; exact ⟨by simp, by omega, by omega⟩
  ·
   cases h
theorem againGo_len : ∀ (fs : List (List UInt8)) (ts : List Ta) (last : Int) (u : Nat), (againGo fs ts last u).1.length = ts.length ∧ last ≤ (againGo fs ts last u).2.1 ∧ (againGo fs ts last u).2.1 ≤ last + fs.length
 | [], ts, last, u => by simp [againGo]
 | f :: r, ts, last, u => by
  rcases hs : step18 ts last f with _ | ⟨ts', l'⟩
  ·
   rw [againGo, hs]
   refine ⟨rfl, Int.le_refl _, by simp only [List.length_cons]; omega⟩
  ·
   have e : againGo (f :: r) ts last u = againGo r ts' l' (u + (16 + f.length)) := by rw [againGo, hs]
   rw [e]
   obtain ⟨h1, h2, h3⟩ := step18_len hs
   obtain ⟨g1, g2, g3⟩ := againGo_len r ts' l' (u + (16 + f.length))
   exact ⟨g1.trans h1, by omega, by simp only [List.length_cons]; omega⟩

end Go.Proofs.Ytaioedcaopbgkaa

/-! Plain facts of chapter 18: a frame of a journal done again, word by word; how long a journal of right frames is. -/
namespace Go.Proofs.Ytaioedcaopbgkaa

theorem splitL_len (c : UInt8) (l : List UInt8) : 1 ≤ (splitL c l).length := by
 have : ∀ (l acc : List UInt8), 1 ≤ (splitGo c acc l).length := by
  intro l
  induction l with
  | nil => intro acc; simp [splitGo]
  | cons a r ih =>
   intro acc
   unfold splitGo
   split
   ·
    simp
   ·
    exact ih _
 exact this l []
theorem splitL_part (c : UInt8) (l : List UInt8) (i : Nat) : ((splitL c l).getD i []).length ≤ l.length := by
 by_cases hi : i < (splitL c l).length
 ·
  have hg : (splitL c l).getD i [] = (splitL c l)[i] := by simp [List.getD, hi]
  rw [hg]
  have h1 : ((splitL c l)[i]).length ≤ (splitL c l).flatten.length := by
   have hm := List.getElem_mem hi
   generalize (splitL c l)[i] = x at hm ⊢
   generalize splitL c l = ws at hm ⊢
   clear hi hg
   induction ws with
   | nil => cases hm
   | cons a r ih =>
    rw [List.flatten_cons, List.length_append]
    rcases List.mem_cons.1 hm with e | h
    ·
     subst e; omega
    ·
     have := ih h; omega
  have h2 := splitGo_flat c l []
  have h3 : (splitL c l).flatten.length ≤ l.length := by simpa [splitL] using h2
  omega
 ·
  rw [List.getD_eq_getElem?_getD, List.getElem?_eq_none (by omega)]
  simp
theorem splitL_count (c : UInt8) (l : List UInt8) : (splitL c l).length ≤ l.length + 1 := by
 have : ∀ (l acc : List UInt8), (splitGo c acc l).length ≤ l.length + 1 := by
  intro l
  induction l with
  | nil => intro acc; simp [splitGo]
  | cons a r ih =>
   intro acc
   unfold splitGo
   split
   ·
    have := ih []
    simp only [List.length_cons]
    omega
   ·
    have := ih (acc ++ [a])
    simp only [List.length_cons]
    first | omega | exact Nat.le_succ_of_le (ih _)
 exact this l []
theorem start_read {f : List UInt8} {n : Int} (h0 : -2147483648 ≤ n) (h1 : n ≤ 2147483647) (h : f = startT n) : ∃ w, splitL 32 f = [startW, w] ∧ readB w = true ∧ readV w = n :=
 (isStart_iff h0 h1).2 (by rw [h, startT_words])
theorem done_read {f : List UInt8} {k key : Int} (h0 : -2147483648 ≤ k) (h1 : k ≤ 2147483647) (h2 : -2147483648 ≤ key) (h3 : key ≤ 2147483647) (h : f = doneT k key) : ∃ w u, splitL 32 f = [doneW, w, u] ∧ (readB w = true ∧ readV w = k) ∧ (readB u = true ∧ readV u = key) :=
 (isDone_iff h0 h1 h2 h3).2 (by rw [h, doneT_words])
theorem key18_bd {key : Int} (h : key18 key = true) : 0 ≤ key ∧ key ≤ 2147483646 := by unfold key18 inB at h; exact of_decide_eq_true h

/-- A start is right: its one number is the next. -/
theorem again_start {f : List UInt8} {last : Int} {ws : List (List UInt8)} (hw : splitL 32 f = ws) (h2 : ws.length = 2) (h0 : ws.getD 0 [] = startW) (hb : readB (ws.getD 1 []) = true) (hl0 : 0 ≤ last) (hl1 : last ≤ 1000) (hv : readV (ws.getD 1 []) = last + 1) : f = startT (last + 1) := by
 rw [startT_words]
 refine (isStart_iff (by omega) (by omega)).1 ⟨ws.getD 1 [], ?_, hb, hv⟩
 rw [hw]
 match ws, h2, h0 with
 | [a, b], _, h0 => simp at h0; rw [h0]; rfl
theorem again_done {ts : List Ta} {f : List UInt8} {ws : List (List UInt8)} {k key : Int} (hw : splitL 32 f = ws) (h3 : ws.length = 3) (h0 : ws.getD 0 [] = doneW) (hb : readB (ws.getD 1 []) = true) (hc : readB (ws.getD 2 []) = true) (hk : readV (ws.getD 1 []) = k) (hy : readV (ws.getD 2 []) = key)
 (hi : 0 ≤ k ∧ k < (ts.length : Int)) (h8 : ts.length ≤ 8) (hkey : key18 key = true) (hst : (ts.getD k.toNat ta0).2.2.1 ≠ 2) (hfr : free18 ts (ts.getD k.toNat ta0) = true) : okDone ts f k key := by
 have hkb := key18_bd hkey
 refine ⟨?_, hi, hkey, hst, hfr⟩
 rw [doneT_words]
 refine (isDone_iff (by omega) (by omega) (by omega) (by omega)).1 ⟨ws.getD 1 [], ws.getD 2 [], ?_, ⟨hb, hk⟩, ⟨hc, hy⟩⟩
 rw [hw]
 match ws, h3, h0 with
 | [a, b, c], _, h0 => simp at h0; rw [h0]; rfl
/-- What is no right start and no right done, word by word. -/
structure NotAgain (ts : List Ta) (last : Int) (ws : List (List UInt8)) : Prop where
 st : ∀ w, ws = [startW, w] → readB w = true → readV w = last + 1 → False
 dn : ∀ w u, ws = [doneW, w, u] → readB w = true → readB u = true → 0 ≤ readV w ∧ readV w < (ts.length : Int) → key18 (readV u) = true → (ts.getD (readV w).toNat ta0).2.2.1 ≠ 2 → free18 ts (ts.getD (readV w).toNat ta0) = true → False
theorem again_none {ts : List Ta} {f : List UInt8} {last : Int} {ws : List (List UInt8)} (hw : splitL 32 f = ws) (h8 : ts.length ≤ 8) (hl0 : 0 ≤ last) (hl1 : last ≤ 1000) (h : NotAgain ts last ws) : step18 ts last f = none := by
 refine step18_none (fun e => ?_) (fun k key hd => ?_)
 ·
  obtain ⟨w, h1, h2, h3⟩ := start_read (by omega) (by omega) e
  exact h.st w (hw.symm.trans h1) h2 h3
 ·
  obtain ⟨h1, h2, h3, h4, h5⟩ := hd
  have hkb := key18_bd h3
  obtain ⟨w, u, g1, ⟨g2, g3⟩, ⟨g4, g5⟩⟩ := done_read (by omega) (by omega) (by omega) (by omega) h1
  subst g3 g5
  exact h.dn w u (hw.symm.trans g1) g2 g4 h2 h3 h4 h5
theorem notAgain_num {ts : List Ta} {last : Int} {ws : List (List UInt8)} {i : Nat} (h1 : 1 ≤ i) (hi : i < ws.length) (hb : readB (ws.getD i []) = false) : NotAgain ts last ws := by
 refine ⟨fun w e h _ => ?_, fun w u e h h' _ _ _ _ => ?_⟩
 ·
  subst e
  obtain rfl : i = 1 := by simp at hi; omega
  simp at hb
  rw [h] at hb; cases hb
 ·
  subst e
  simp only [List.length_cons, List.length_nil] at hi
  obtain rfl | rfl : i = 1 ∨ i = 2 := by omega
  ·
   simp at hb; rw [h] at hb; cases hb
  ·
   simp at hb; rw [h'] at hb; cases hb
theorem startW_ne : startW ≠ doneW := by decide
theorem notAgain_start {ts : List Ta} {last : Int} {ws : List (List UInt8)} (h0 : ws.getD 0 [] = startW) (h : ws.length = 2 → readV (ws.getD 1 []) ≠ last + 1) : NotAgain ts last ws := by
 refine ⟨fun w e _ hv => ?_, fun w u e _ _ _ _ _ _ => ?_⟩
 ·
  subst e
  exact h rfl hv
 ·
  subst e
  exact startW_ne h0.symm
theorem notAgain_done {ts : List Ta} {last : Int} {ws : List (List UInt8)} (h0 : ws.getD 0 [] = doneW) (h : ws.length = 3 → 0 ≤ readV (ws.getD 1 []) ∧ readV (ws.getD 1 []) < (ts.length : Int) → key18 (readV (ws.getD 2 [])) = true → (ts.getD (readV (ws.getD 1 [])).toNat ta0).2.2.1 ≠ 2 → free18 ts (ts.getD (readV (ws.getD 1 [])).toNat ta0) = true → False) : NotAgain ts last ws := by
 refine ⟨fun w e _ hv => ?_, fun w u e _ _ h2 h3 h4 h5 => ?_⟩
 ·
  subst e
  exact startW_ne h0
 ·
  subst e
  exact h rfl h2 h3 h4 h5
theorem notAgain_word {ts : List Ta} {last : Int} {ws : List (List UInt8)} (h0 : ws.getD 0 [] ≠ startW) (h1 : ws.getD 0 [] ≠ doneW) : NotAgain ts last ws := by
 refine ⟨fun w e _ _ => ?_, fun w u e _ _ _ _ _ _ => ?_⟩
 ·
  subst e; exact h0 rfl
 ·
  subst e; exact h1 rfl

/-! What the journal's loops hold. -/
/-- The numbers of the words 1 to m. -/
noncomputable def numsW (ws : List (List UInt8)) (m : Nat) : List Int := (List.range m).map fun j => readV (ws.getD (j + 1) [])
theorem numsW_len (ws : List (List UInt8)) (m : Nat) : (numsW ws m).length = m := by simp [numsW]
theorem numsW_snoc (ws : List (List UInt8)) (m : Nat) : numsW ws (m + 1) = numsW ws m ++ [readV (ws.getD (m + 1) [])] := by
 unfold numsW
 rw [List.range_succ, List.map_append]
 rfl
theorem numsW_at (ws : List (List UInt8)) {m j : Nat} (h : j < m) : (numsW ws m).getD j 0 = readV (ws.getD (j + 1) []) := by
 unfold numsW
 rw [List.getD_eq_getElem?_getD, List.getElem?_map, List.getElem?_range h]
 rfl

theorem done18_open {t : Ta} {key : Int} (h : t.2.2.2.1 = 0 ∧ t.2.2.2.2.1 = 0) : done18 t key = (t.1, t.2.1, 2, t.2.2.2.1, t.2.2.2.2.1, key) := by unfold done18; rw [h.1, h.2]

/-- What holds of the tasks as the journal is done again: nobody has a lease; names, needs are as they were. -/
structure Again18 (ts0 ts : List Ta) : Prop where
 len : ts.length = ts0.length
 idle : ∀ j, (ts.getD j ta0).2.2.2.1 = 0 ∧ (ts.getD j ta0).2.2.2.2.1 = 0
 same : ∀ j, (ts.getD j ta0).1 = (ts0.getD j ta0).1 ∧ (ts.getD j ta0).2.1 = (ts0.getD j ta0).2.1
theorem Again18.refl {ts : List Ta} (h : ∀ j, (ts.getD j ta0).2.2.2.1 = 0 ∧ (ts.getD j ta0).2.2.2.2.1 = 0) : Again18 ts ts := ⟨rfl, h, fun _ => ⟨rfl, rfl⟩⟩
theorem Again18.set {ts0 ts : List Ta} (h : Again18 ts0 ts) {i : Nat} (hi : i < ts.length) (key : Int) : Again18 ts0 (ts.set i (done18 (ts.getD i ta0) key)) := by
 refine ⟨by rw [List.length_set]; exact h.len, fun j => ?_, fun j => ?_⟩
 ·
  rw [getD_set18 _ _ _ _ hi]
  split
  ·
   exact ⟨rfl, rfl⟩
  ·
   exact h.idle j
 ·
  rw [getD_set18 _ _ _ _ hi]
  split
  ·
   rename_i e; subst e; exact h.same _
  ·
   exact h.same j
theorem Again18.short {ts0 ts : List Ta} (h : Again18 ts0 ts) (hs : ShortTa ts0) : ShortTa ts := fun j => by
 rw [(h.same j).1, (h.same j).2]; exact hs j
theorem Again18.needs {ts0 ts : List Ta} (h : Again18 ts0 ts) (hn : ∀ p, p < ts0.length → ∀ q, q < (ts0.getD p ta0).2.1.length → 0 ≤ (ts0.getD p ta0).2.1.getD q 0 ∧ (ts0.getD p ta0).2.1.getD q 0 < ts0.length) :
 ∀ p, p < ts.length → ∀ q, q < (ts.getD p ta0).2.1.length → 0 ≤ (ts.getD p ta0).2.1.getD q 0 ∧ (ts.getD p ta0).2.1.getD q 0 < ts.length := fun p hp q hq => by
 rw [(h.same p).2] at hq ⊢
 rw [h.len] at hp ⊢
 exact hn p hp q hq

/-- What has been done again of a journal, after i frames. -/
structure AgainAt (fs : List (List UInt8)) (ts0 ts : List Ta) (last : Int) (i : Nat) : Prop where
 go : againGo fs ts0 0 0 = againGo (fs.drop i) ts last (framesU (fs.take i))
 le : i ≤ fs.length
 ag : Again18 ts0 ts
 l0 : 0 ≤ last
 l1 : last ≤ i
 used : framesU (fs.take i) ≤ 116 * i
theorem AgainAt.zero {fs : List (List UInt8)} {ts0 : List Ta} (h : ∀ j, (ts0.getD j ta0).2.2.2.1 = 0 ∧ (ts0.getD j ta0).2.2.2.2.1 = 0) : AgainAt fs ts0 ts0 0 0 :=
 ⟨by simp [framesU], Nat.zero_le _, Again18.refl h, Int.le_refl _, Int.le_refl _, by simp [framesU]⟩
theorem AgainAt.start {fs : List (List UInt8)} {ts0 ts : List Ta} {last : Int} {i : Nat} (h : AgainAt fs ts0 ts last i) (hi : i < fs.length) (h4 : fs.length ≤ 400) (hf : fs.getD i [] = startT (last + 1)) : AgainAt fs ts0 ts (last + 1) (i + 1) := by
 have h1 := h.l0
 have h2 := h.l1
 have h3 := h.used
 have hg : fs.getD i [] = fs[i] := by simp [List.getD, hi]
 have hl := startT_len (n := last + 1) (by omega) (by omega)
 rw [← hf, hg] at hl
 refine ⟨h.go.trans (againGo_yes hi (step18_start hf)), hi, h.ag, by omega, by omega, ?_⟩
 rw [List.take_succ_eq_append_getElem hi, framesU_snoc]
 omega
theorem AgainAt.done {fs : List (List UInt8)} {ts0 ts : List Ta} {last k key : Int} {i : Nat} (h : AgainAt fs ts0 ts last i) (hi : i < fs.length) (h8 : ts0.length ≤ 8) (hd : okDone ts (fs.getD i []) k key) : AgainAt fs ts0 (ts.set k.toNat (done18 (ts.getD k.toNat ta0) key)) last (i + 1) := by
 have h1 := h.l0
 have h2 := h.l1
 have h3 := h.used
 have hg : fs.getD i [] = fs[i] := by simp [List.getD, hi]
 obtain ⟨d1, d2, d3, _⟩ := id hd
 have hkb := key18_bd d3
 have hln := h.ag.len
 have hl := doneT_len (k := k) (key := key) (by omega) (by omega) (by omega) (by omega)
 rw [← d1, hg] at hl
 refine ⟨h.go.trans (againGo_yes hi (step18_done (by omega) hd)), hi, h.ag.set (by omega) key, h1, by omega, ?_⟩
 rw [List.take_succ_eq_append_getElem hi, framesU_snoc]
 omega
theorem AgainAt.no {fs : List (List UInt8)} {ts0 ts : List Ta} {last : Int} {i : Nat} (h : AgainAt fs ts0 ts last i) (hi : i < fs.length) (hs : step18 ts last (fs.getD i []) = none) : againGo fs ts0 0 0 = (ts, last, framesU (fs.take i)) := h.go.trans (againGo_no hi hs)
theorem AgainAt.stop {fs : List (List UInt8)} {ts0 ts : List Ta} {last : Int} {i : Nat} (h : AgainAt fs ts0 ts last i) (hi : fs.length ≤ i) : againGo fs ts0 0 0 = (ts, last, framesU (fs.take i)) := h.go.trans (againGo_end hi)
/-- The journal of right frames, written again. -/
def wrote18 (fs : List (List UInt8)) (i : Nat) : List UInt8 := ((fs.take i).map framedL).flatten
theorem wrote18_pre (jr : List UInt8) (i : Nat) : jr.take (framesU ((framesL jr).take i)) = wrote18 (framesL jr) i := frames_pre jr i

end Go.Proofs.Ytaioedcaopbgkaa

/-! Plain facts of chapter 18's new desk. -/
namespace Go.Proofs.Ytaioedcaopbgkaa
open Go.RowKit

theorem tasks18_prt (ps : List Pk) : (newV ps).1.1 = (List.range (prtV ps).length).map (task18N ps) := by
 by_cases h0 : (faultV ps).1 = 0
 ·
  rw [show newV ps = ((tasks18 ps, 1, 0, startL 1), true) from if_pos h0, show prtV ps = parts18 ps from (prtV_ok h0).1]
  rfl
 ·
  rw [show newV ps = (dk0, false) from if_neg h0, show prtV ps = [] from if_neg h0]
  rfl
theorem own_cap18 {w : World} {base e size n c : Nat} {a : Option Addr} {xs : List Value} (h : w.ownsRow base e size (.slice a n c) n xs) : n ≤ c := by
 rcases h.2 with ⟨h', h0, _⟩ | ⟨g, cp, cur, h', _, _, hnc, _⟩
 ·
  omega
 ·
  injection h' with _ _ h3
  omega
theorem new18_short (ps : List Pk) : ShortTa (newV ps).1.1 := by
 by_cases h0 : (faultV ps).1 = 0
 ·
  rw [show newV ps = ((tasks18 ps, 1, 0, startL 1), true) from if_pos h0]
  have hd := deskB_iff.1 (new18_ok h0)
  intro j
  show ((tasks18 ps).getD j ta0).1.length ≤ 1048576 ∧ ((tasks18 ps).getD j ta0).2.1.length ≤ 1048576
  by_cases hj : j < (tasks18 ps).length
  ·
   have h1 := (name_letters (hd.one j hj).1).1.2
   have hl : (tasks18 ps).length = (parts18 ps).length := by unfold tasks18; simp
   have h8 := (parts18_len (clean18_of h0)).2
   refine ⟨Nat.le_trans h1 (by decide), ?_⟩
   rw [tasks18_at (by omega)]
   exact Nat.le_trans (nums18_len _ _ _) (by omega)
  ·
   rw [List.getD_eq_getElem?_getD, List.getElem?_eq_none (by omega)]
   simp [ta0]
 ·
  rw [show newV ps = (dk0, false) from if_neg h0]
  intro j
  simp [dk0, ta0]
theorem new18_desk (ps : List Pk) : deskB ((newV ps).1.1, 1, 0, startL 1) = (newV ps).2 := by
 by_cases h0 : (faultV ps).1 = 0
 ·
  rw [show newV ps = ((tasks18 ps, 1, 0, startL 1), true) from if_pos h0]
  exact new18_ok h0
 ·
  rw [show newV ps = (dk0, false) from if_neg h0]
  rcases hb : deskB (dk0.1, 1, 0, startL 1) with _ | _
  ·
   rfl
  ·
   have := (deskB_iff.1 hb).n.1
   simp [dk0] at this
theorem new18_yes {ps : List Pk} (h : (newV ps).2 = true) : (newV ps).1 = ((newV ps).1.1, 1, 0, startL 1) := by
 by_cases h0 : (faultV ps).1 = 0
 ·
  rw [show newV ps = ((tasks18 ps, 1, 0, startL 1), true) from if_pos h0]
 ·
  rw [show newV ps = (dk0, false) from if_neg h0] at h
  cases h
theorem new18_no {ps : List Pk} (h : (newV ps).2 = false) : (newV ps).1 = dk0 := by
 by_cases h0 : (faultV ps).1 = 0
 ·
  rw [show newV ps = ((tasks18 ps, 1, 0, startL 1), true) from if_pos h0] at h
  cases h
 ·
  rw [show newV ps = (dk0, false) from if_neg h0]

end Go.Proofs.Ytaioedcaopbgkaa

/-! The laws' own helpers over tasks: markTaskS, heldTaskS, markDesk, heldDesk. -/
namespace Go.Proofs.Ytaioedcaopbgkaa
open Go.RowKit

/-- What a task holds when it is marked from k on, and the next mark. -/
def tmk (k : Nat) (x : TV) : TV := ((markL k, marksI (k + 1) x.1.2.1.length, ((k + 1 + x.1.2.1.length : Nat) : Int), ((k + 2 + x.1.2.1.length : Nat) : Int), ((k + 3 + x.1.2.1.length : Nat) : Int), ((k + 4 + x.1.2.1.length : Nat) : Int)), x.2)
def tmark (k : Nat) : List TV → List TV
 | [] => []
 | x :: r => tmk k x :: tmark (k + 5 + x.1.2.1.length) r
def tend (k : Nat) : List TV → Nat
 | [] => k
 | x :: r => tend (k + 5 + x.1.2.1.length) r
/-- Half way: m tasks are marked. -/
def thalf (k : Nat) (xs : List TV) (m : Nat) : List TV := tmark k (xs.take m) ++ xs.drop m
def TkBlocks (v : Value) (xs : List TV) (k : Nat) : Prop := v.ownBlock = some k ∨ ∃ x ∈ xs, (tvT x).ownBlock = some k


end Go.Proofs.Ytaioedcaopbgkaa

/-! A desk's marks, also where it has no task at all (nil). -/
namespace Go.Proofs.Ytaioedcaopbgkaa
open Go.RowKit



end Go.Proofs.Ytaioedcaopbgkaa
