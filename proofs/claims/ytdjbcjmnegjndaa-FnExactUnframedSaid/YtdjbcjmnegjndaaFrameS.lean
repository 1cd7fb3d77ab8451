/-
  The contracts of chapter 2's specification: Framed, the first frame of a text, Unframed.
-/
import Derived.Test.YtdjbcjmnegjndaaMath2
import Derived.Test.YtdjbcjmnegjndaaHash
import Derived.Test.YtdjbcjmnegjndaaHexOf
import Derived.Test.YtdjbcjmnegjndaaFromHex
import Derived.Test.YtdjbcjmnegjndaaLists
import Derived.Test.YtdjbcjmnegjndaaListsX
namespace Go.Proofs.Ytdjbcjmnegjndaa
open Go.RowKit

set_option maxHeartbeats 400000 in
theorem specL2Framed (l : List UInt8) (w : World) (hl : l.length ≤ 1048576) :
    Calls Try.prog 30 #[.string ⟨l.toArray⟩] w fun e w' => e = .returned (.string ⟨(framedL l).toArray⟩) ∧ Below w.heap.size w w' := by
  have hd := hashL_bd l
  go_enter Try.func30, Try.ntmps30
  go_wp2_with fail
  refine (specL1Hex _ _ (by omega) (by omega)).mono ?_
  rintro e w1 ⟨rfl, hb1⟩
  go_wp2_with fail
  refine (specHashX l _ hl).mono ?_
  rintro e w2 ⟨rfl, rfl⟩
  go_wp2_with fail
  refine (specL1Hex _ _ (by omega) (by omega)).mono ?_
  rintro e w3 ⟨rfl, hb3⟩
  have h8 : ∀ n, (hexL n).length = 8 := fun _ => rfl
  have hcat := cat_list
  go_wp2
  go_ret
  exact ⟨rfl, hb1.trans (hb3.mono hb1.size)⟩

set_option maxHeartbeats 400000 in
theorem specFramed (l : List UInt8) (w : World) (hl : l.length ≤ 1048576) :
    Calls Try.prog 14 #[.string ⟨l.toArray⟩] w fun e w' => e = .returned (.string ⟨(framedS l).toArray⟩) ∧ Below w.heap.size w w' := by
  by_cases h : 20000 < (l.length : Int)
  · have HS : Hid (framedS l = []) := framedS_no l (by omega)
    go_enter Try.func14, Try.ntmps14
    go_wp2
    go_ret
    exact ⟨ret_strl (by rw [HS.out]), Below.refl _ _⟩
  · have HS : Hid (framedS l = framedL l) := framedS_yes l (by omega)
    go_enter Try.func14, Try.ntmps14
    go_wp2_with fail
    refine (specL2Framed l _ hl).mono ?_
    rintro e w1 ⟨rfl, hb1⟩
    go_wp2
    go_ret
    exact ⟨ret_strl (by rw [HS.out]), hb1⟩

set_option maxHeartbeats 1000000 in
theorem specFirst (l : List UInt8) (w : World) (hl : l.length ≤ 1048576) :
    Calls Try.prog 34 #[.string ⟨l.toArray⟩] w fun e w' => e = .returned (.tuple #[.string ⟨(firstT l).toArray⟩, .int .i64 (firstN l), .bool (firstB l)]) ∧ w' = w := by
  have hext := ext_list
  by_cases h16 : (l.length : Int) < 16
  · have HF : Hid (firstT l = [] ∧ firstN l = 0 ∧ firstB l = false) := firstB_no l (by omega)
    go_enter Try.func34, Try.ntmps34
    go_wp2
    go_ret3
    exact ⟨ret_sib HF.out.1.symm HF.out.2.1.symm HF.out.2.2.symm, rfl⟩
  · obtain ⟨k, hk⟩ : ∃ k : Nat, fromN (l.take 8) = (k : Int) := Int.eq_ofNat_of_zero_le (fromN_bd (l.take 8)).1
    obtain ⟨h, hh⟩ : ∃ h : Int, fromN ((l.drop 8).take 8) = h := ⟨_, rfl⟩
    obtain ⟨one, hone⟩ : ∃ b : Bool, fromB (l.take 8) = b := ⟨_, rfl⟩
    obtain ⟨two, htwo⟩ : ∃ b : Bool, fromB ((l.drop 8).take 8) = b := ⟨_, rfl⟩
    have hkb : (k : Int) ≤ 4294967295 := by rw [← hk]; exact (fromN_bd (l.take 8)).2
    have HK : Hid (fromN (l.take 8) = (k : Int)) := hk
    have HH : Hid (fromN ((l.drop 8).take 8) = h) := hh
    have H1 : Hid (fromB (l.take 8) = one) := hone
    have H2 : Hid (fromB ((l.drop 8).take 8) = two) := htwo
    clear hk hh hone htwo
    go_enter Try.func34, Try.ntmps34
    go_wp2_with fail
    refine (specFromHexX (l.take 8) k one _ HK.out H1.out).mono ?_
    rintro e w1 ⟨rfl, rfl⟩
    go_wp2_with fail
    refine (specFromHexX ((l.drop 8).take 8) h two _ HH.out H2.out).mono ?_
    rintro e w2 ⟨rfl, rfl⟩
    by_cases hall : one = true ∧ two = true ∧ (k : Int) ≤ 20000 ∧ 16 + (k : Int) ≤ (l.length : Int)
    · obtain ⟨rfl, rfl, hk2, hk3⟩ := hall
      have hkk : (16 + (k : Int)).toNat - 16 = k := by omega
      have hk4 : (16 : Int) ≤ 16 + (k : Int) := by omega
      have hk5 : (0 : Int) ≤ 16 + (k : Int) := by omega
      go_wp2_with fail
      refine (specHashX ((l.drop 16).take k) _ (by have := List.length_take_le k (l.drop 16); omega)).mono ?_
      rintro e w3 ⟨rfl, rfl⟩
      by_cases hq : hashL ((l.drop 16).take k) = h
      · have HF : Hid (firstT l = (l.drop 16).take k ∧ firstN l = 16 + (k : Int) ∧ firstB l = true) := by
          have := firstB_yes l (by rw [HK.out, HH.out, H1.out, H2.out]; exact ⟨by omega, rfl, rfl, hk2, hk3, by simpa using hq⟩)
          rw [HK.out, Int.toNat_natCast] at this
          exact this
        have hqb : (hashL ((l.drop 16).take k) != h) = false := by rw [hq]; simp
        clear hq
        go_wp2
        go_ret3
        exact ⟨ret_sib HF.out.1.symm HF.out.2.1.symm HF.out.2.2.symm, rfl⟩
      · have HF : Hid (firstT l = [] ∧ firstN l = 0 ∧ firstB l = false) := firstB_no l (by
          rw [HK.out, HH.out, H1.out, H2.out]
          rintro ⟨_, _, _, _, _, a⟩
          exact hq (by simpa using a))
        have hqb : (hashL ((l.drop 16).take k) != h) = true := bne_iff_ne.2 hq
        clear hq
        go_wp2
        go_ret3
        exact ⟨ret_sib HF.out.1.symm HF.out.2.1.symm HF.out.2.2.symm, rfl⟩
    · have HF : Hid (firstT l = [] ∧ firstN l = 0 ∧ firstB l = false) := firstB_no l (by
        rw [HK.out, HH.out, H1.out, H2.out]
        rintro ⟨_, a, b, c, d, _⟩
        exact hall ⟨a, b, c, d⟩)
      rcases one with _ | _
      · go_wp2
        go_ret3
        exact ⟨ret_sib HF.out.1.symm HF.out.2.1.symm HF.out.2.2.symm, rfl⟩
      · rcases two with _ | _
        · go_wp2
          go_ret3
          exact ⟨ret_sib HF.out.1.symm HF.out.2.1.symm HF.out.2.2.symm, rfl⟩
        · by_cases hk2 : 20000 < (k : Int)
          · go_wp2
            go_ret3
            exact ⟨ret_sib HF.out.1.symm HF.out.2.1.symm HF.out.2.2.symm, rfl⟩
          · have hk3 : (l.length : Int) < 16 + (k : Int) := by
              by_cases h1 : (l.length : Int) < 16 + (k : Int)
              · exact h1
              · exact absurd ⟨rfl, rfl, by omega, by omega⟩ hall
            clear hall
            go_wp2
            go_ret3
            exact ⟨ret_sib HF.out.1.symm HF.out.2.1.symm HF.out.2.2.symm, rfl⟩

set_option maxHeartbeats 1000000 in
theorem specUnframed (l : List UInt8) (w : World) (hl : l.length ≤ 1048576) :
    Calls Try.prog 13 #[.string ⟨l.toArray⟩] w fun e w' => e = .returned (.tuple #[.string ⟨(unframedT l).toArray⟩, .bool (unframedB l)]) ∧ w' = w := by
  obtain ⟨b, hb⟩ : ∃ b, firstB l = b := ⟨_, rfl⟩
  rcases b with _ | _
  · have HU : Hid (unframedT l = [] ∧ unframedB l = false) := unframed_no l (Or.inl hb)
    go_enter Try.func13, Try.ntmps13
    go_wp2_with fail
    refine (specFirst l _ hl).mono ?_
    rintro e w1 ⟨rfl, rfl⟩
    go_wp2
    go_ret2
    exact ⟨ret_sb HU.out.1.symm HU.out.2.symm, rfl⟩
  · by_cases hn : firstN l = (l.length : Int)
    · have HU : Hid (unframedT l = firstT l ∧ unframedB l = true) := unframed_yes l hb hn
      have hnb : (firstN l != (l.length : Int)) = false := by rw [hn]; simp
      clear hn
      go_enter Try.func13, Try.ntmps13
      go_wp2_with fail
      refine (specFirst l _ hl).mono ?_
      rintro e w1 ⟨rfl, rfl⟩
      go_wp2
      go_ret2
      exact ⟨ret_sb HU.out.1.symm HU.out.2.symm, rfl⟩
    · have HU : Hid (unframedT l = [] ∧ unframedB l = false) := unframed_no l (Or.inr hn)
      have hnb : (firstN l != (l.length : Int)) = true := bne_iff_ne.2 hn
      clear hn
      go_enter Try.func13, Try.ntmps13
      go_wp2_with fail
      refine (specFirst l _ hl).mono ?_
      rintro e w1 ⟨rfl, rfl⟩
      go_wp2
      go_ret2
      exact ⟨ret_sb HU.out.1.symm HU.out.2.symm, rfl⟩

end Go.Proofs.Ytdjbcjmnegjndaa
