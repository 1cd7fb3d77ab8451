/-
  The contracts of chapter 2's implementation: Framed, the frame ahead of a text, Unframed.
-/
import Derived.Test.YtdjbcjmnegjndaaFrameS
import Derived.Test.YtdjbcjmnegjndaaClone
import Derived.Test.YtdjbcjmnegjndaaMath2F
namespace Go.Proofs.Ytdjbcjmnegjndaa
open Go.RowKit

set_option maxHeartbeats 400000 in
theorem implFramed (l : List UInt8) (w : World) (hl : l.length ≤ 1048576) :
    Calls Try.prog 10 #[.string ⟨l.toArray⟩] w fun e w' => e = .returned (.string ⟨(framedS l).toArray⟩) ∧ Below w.heap.size w w' := by
  by_cases h : 20000 < (l.length : Int)
  · have HS : Hid (framedS l = []) := framedS_no l (by omega)
    go_enter Try.func10, Try.ntmps10
    go_wp2
    go_ret
    exact ⟨ret_strl (by rw [HS.out]), Below.refl _ _⟩
  · have HS : Hid (framedS l = framedL l) := framedS_yes l (by omega)
    have hd := hashL_bd l
    go_enter Try.func10, Try.ntmps10
    go_wp2_with fail
    refine (implHexOfX _ (hexL l.length) _ (by rw [hexS_yes _ (by omega) (by omega), Int.toNat_natCast])).mono ?_
    rintro e w1 ⟨rfl, hb1⟩
    go_wp2_with fail
    refine (implHashX l _ hl).mono ?_
    rintro e w2 ⟨rfl, rfl⟩
    go_wp2_with fail
    refine (implHexOfX _ (hexL (hashL l).toNat) _ (hexS_yes _ (by omega) (by omega))).mono ?_
    rintro e w3 ⟨rfl, hb3⟩
    have h8 : ∀ n, (hexL n).length = 8 := fun _ => rfl
    have hcat := cat_list
    go_wp2
    go_ret
    exact ⟨ret_strl (by rw [HS.out]; rfl), hb1.trans (hb3.mono hb1.size)⟩

set_option maxHeartbeats 1000000 in
theorem implAhead (l : List UInt8) (w : World) (hl : l.length ≤ 1048576) :
    Calls Try.prog 32 #[.string ⟨l.toArray⟩] w fun e w' => e = .returned (.tuple #[.string ⟨(firstT l).toArray⟩, .bool (firstB l)]) ∧ w' = w := by
  have hext := ext_list
  have htk : ∀ u, List.take (l.length - u) (List.drop u l) = List.drop u l := fun u => List.take_of_length_le (by rw [List.length_drop]; omega)
  by_cases h16 : (l.length : Int) < 16
  · have HF : Hid (firstT l = [] ∧ firstN l = 0 ∧ firstB l = false) := firstB_no l (by omega)
    go_enter Try.func32, Try.ntmps32
    go_wp2
    go_ret2
    exact ⟨ret_sb HF.out.1.symm HF.out.2.2.symm, rfl⟩
  · obtain ⟨k, hk⟩ : ∃ k : Nat, fromN (l.take 8) = (k : Int) := Int.eq_ofNat_of_zero_le (fromN_bd (l.take 8)).1
    obtain ⟨h, hh⟩ : ∃ h : Int, fromN ((l.drop 8).take 8) = h := ⟨_, rfl⟩
    obtain ⟨one, hone⟩ : ∃ b : Bool, fromB (l.take 8) = b := ⟨_, rfl⟩
    obtain ⟨two, htwo⟩ : ∃ b : Bool, fromB ((l.drop 8).take 8) = b := ⟨_, rfl⟩
    have hkb : (k : Int) ≤ 4294967295 := by rw [← hk]; exact (fromN_bd (l.take 8)).2
    have HK : Hid (fromN (l.take 8) = (k : Int)) := hk
    have HH : Hid (fromN ((l.drop 8).take 8) = h) := hh
    have H1 : Hid (fromB (l.take 8) = one) := hone
    have H2 : Hid (fromB ((l.drop 8).take 8) = two) := htwo
    clear hk hh hone htwo
    have hdl : (l.drop 16).length = l.length - 16 := List.length_drop
    obtain ⟨r, hr⟩ : ∃ r, l.drop 16 = r := ⟨_, rfl⟩
    have hr16 := htk 16
    rw [hr] at hr16
    have HR : Hid (l.drop 16 = r) := hr
    have hrl : r.length = l.length - 16 := by rw [← hr]; exact hdl
    go_enter Try.func32, Try.ntmps32
    go_wp2_with fail
    refine (implFromHexX (l.take 8) k one _ HK.out H1.out).mono ?_
    rintro e w1 ⟨rfl, rfl⟩
    go_wp2_with fail
    refine (implFromHexX ((l.drop 8).take 8) h two _ HH.out H2.out).mono ?_
    rintro e w2 ⟨rfl, rfl⟩
    by_cases hall : one = true ∧ two = true ∧ (k : Int) ≤ 20000 ∧ 16 + (k : Int) ≤ (l.length : Int)
    · obtain ⟨rfl, rfl, hk2, hk3⟩ := hall
      have hk4 : (k : Int) ≤ (r.length : Int) := by omega
      go_wp2_with fail
      refine (implHashX (r.take k) _ (by have := List.length_take_le k r; omega)).mono ?_
      rintro e w3 ⟨rfl, rfl⟩
      by_cases hq : hashL (r.take k) = h
      · have HF : Hid (firstT l = r.take k ∧ firstN l = 16 + (k : Int) ∧ firstB l = true) := by
          have := firstB_yes l (by rw [HK.out, HH.out, H1.out, H2.out, HR.out]; exact ⟨by omega, rfl, rfl, hk2, hk3, by simpa using hq⟩)
          rw [HK.out, Int.toNat_natCast, HR.out] at this
          exact this
        have hqb : (hashL (r.take k) != h) = false := by rw [hq]; simp
        clear hq
        go_wp2
        go_ret2
        exact ⟨ret_sb HF.out.1.symm HF.out.2.2.symm, rfl⟩
      · have HF : Hid (firstT l = [] ∧ firstN l = 0 ∧ firstB l = false) := firstB_no l (by
          rw [HK.out, HH.out, H1.out, H2.out, HR.out]
          rintro ⟨_, _, _, _, _, a⟩
          exact hq (by simpa using a))
        have hqb : (hashL (r.take k) != h) = true := bne_iff_ne.2 hq
        clear hq
        go_wp2
        go_ret2
        exact ⟨ret_sb HF.out.1.symm HF.out.2.2.symm, rfl⟩
    · have HF : Hid (firstT l = [] ∧ firstN l = 0 ∧ firstB l = false) := firstB_no l (by
        rw [HK.out, HH.out, H1.out, H2.out]
        rintro ⟨_, a, b, c, d, _⟩
        exact hall ⟨a, b, c, d⟩)
      rcases one with _ | _
      · go_wp2
        go_ret2
        exact ⟨ret_sb HF.out.1.symm HF.out.2.2.symm, rfl⟩
      · rcases two with _ | _
        · go_wp2
          go_ret2
          exact ⟨ret_sb HF.out.1.symm HF.out.2.2.symm, rfl⟩
        · by_cases hk2 : 20000 < (k : Int)
          · go_wp2
            go_ret2
            exact ⟨ret_sb HF.out.1.symm HF.out.2.2.symm, rfl⟩
          · have hk3 : (r.length : Int) < (k : Int) := by
              by_cases h1 : (l.length : Int) < 16 + (k : Int)
              · omega
              · exact absurd ⟨rfl, rfl, by omega, by omega⟩ hall
            clear hall
            go_wp2
            go_ret2
            exact ⟨ret_sb HF.out.1.symm HF.out.2.2.symm, rfl⟩

theorem implAheadX (l t : List UInt8) (b : Bool) (w : World) (hl : l.length ≤ 1048576) (ht : firstT l = t) (hb : firstB l = b) :
    Calls Try.prog 32 #[.string ⟨l.toArray⟩] w fun e w' => e = .returned (.tuple #[.string ⟨t.toArray⟩, .bool b]) ∧ w' = w := by
  subst ht hb; exact implAhead l w hl

set_option maxHeartbeats 1000000 in
theorem implUnframed (l : List UInt8) (w : World) (hl : l.length ≤ 1048576) :
    Calls Try.prog 12 #[.string ⟨l.toArray⟩] w fun e w' => e = .returned (.tuple #[.string ⟨(unframedT l).toArray⟩, .bool (unframedB l)]) ∧ Below w.heap.size w w' := by
  obtain ⟨b, hb⟩ : ∃ b, firstB l = b := ⟨_, rfl⟩
  obtain ⟨t, ht⟩ : ∃ t, firstT l = t := ⟨_, rfl⟩
  rcases b with _ | _
  · have HU : Hid (unframedT l = [] ∧ unframedB l = false) := unframed_no l (Or.inl hb)
    go_enter Try.func12, Try.ntmps12
    go_wp2_with fail
    refine (implAheadX l t false _ hl ht hb).mono ?_
    rintro e w1 ⟨rfl, rfl⟩
    go_wp2
    go_ret2
    exact ⟨ret_sb HU.out.1.symm HU.out.2.symm, Below.refl _ _⟩
  · have hN := (first_is l hb).2.1
    rw [ht] at hN
    have htl : t.length ≤ 1048576 := by
      have h1 := (first_is l hb).1
      rw [ht] at h1
      omega
    by_cases hn : firstN l = (l.length : Int)
    · have HU : Hid (unframedT l = firstT l ∧ unframedB l = true) := unframed_yes l hb hn
      have hnb : ((16 + (t.length : Int)) != (l.length : Int)) = false := by rw [← hN, hn]; simp
      have HT : Hid (firstT l = t) := ht
      have HB : Hid (firstB l = true) := hb
      clear hn hN ht hb
      go_enter Try.func12, Try.ntmps12
      go_wp2_with fail
      refine (implAheadX l t true _ hl HT.out HB.out).mono ?_
      rintro e w1 ⟨rfl, rfl⟩
      go_wp2_with fail
      refine (stringsClone t _ htl).mono ?_
      rintro e w2 ⟨rfl, hb2⟩
      go_wp2
      go_ret2
      exact ⟨ret_sb (by rw [HU.out.1, HT.out]) HU.out.2.symm, hb2⟩
    · have HU : Hid (unframedT l = [] ∧ unframedB l = false) := unframed_no l (Or.inr hn)
      have hnb : ((16 + (t.length : Int)) != (l.length : Int)) = true := bne_iff_ne.2 (by rw [← hN]; exact hn)
      have HT : Hid (firstT l = t) := ht
      have HB : Hid (firstB l = true) := hb
      clear hn hN ht hb
      go_enter Try.func12, Try.ntmps12
      go_wp2_with fail
      refine (implAheadX l t true _ hl HT.out HB.out).mono ?_
      rintro e w1 ⟨rfl, rfl⟩
      go_wp2
      go_ret2
      exact ⟨ret_sb HU.out.1.symm HU.out.2.symm, Below.refl _ _⟩

end Go.Proofs.Ytdjbcjmnegjndaa
