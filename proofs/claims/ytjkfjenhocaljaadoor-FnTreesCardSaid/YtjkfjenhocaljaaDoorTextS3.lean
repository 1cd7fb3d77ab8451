/-
  The contracts of chapter 5's specification: a number is read; NumberOf.
-/
import Derived.Test.YtjkfjenhocaljaaDoorTextS2
namespace Go.Proofs.YtjkfjenhocaljaaDoor
open Go.RowKit

/-- What is read of the digits from place i on, up to place k. -/
def valTo (t : List UInt8) (i k : Nat) : Nat := valL ((t.drop i).take (k - i))

theorem valTo_start (t : List UInt8) (i : Nat) : valTo t i i = 0 := by simp [valTo, valL]

theorem valTo_step (t : List UInt8) (i k : Nat) (hi : i ≤ k) (hk : k < t.length) : valTo t i (k + 1) = valTo t i k * 10 + (t[k].toNat - 48) := by
  unfold valTo
  rw [cut_snoc t i k hi hk, valL_snoc]

theorem valTo_end (t : List UInt8) (i : Nat) : valTo t i t.length = valL (t.drop i) := by
  unfold valTo
  rw [List.take_of_length_le (by rw [List.length_drop]; omega)]

theorem valTo_bd (t : List UInt8) (i k : Nat) (hi : i ≤ k) (hk : k ≤ t.length) (h10 : t.length - i ≤ 10) (h : ∀ j (hj : j < t.length), i ≤ j → j < k → isDig t[j]) : valTo t i k < 10000000000 := by
  unfold valTo
  have hd : ∀ c ∈ (t.drop i).take (k - i), isDig c := by
    intro c hc
    obtain ⟨j, hj, rfl⟩ := List.getElem_of_mem hc
    rw [List.length_take, List.length_drop] at hj
    rw [List.getElem_take, List.getElem_drop]
    exact h (i + j) (by omega) (by omega) (by omega)
  have h1 := valL_bd _ hd
  have h2 : ((t.drop i).take (k - i)).length ≤ 10 := by rw [List.length_take, List.length_drop]; omega
  have h3 : (10 : Nat) ^ ((t.drop i).take (k - i)).length ≤ 10 ^ 10 := Nat.pow_le_pow_right (by omega) h2
  omega

theorem body_drop (t : List UInt8) (i : Nat) (hi : (negB t = true ∧ i = 1) ∨ (negB t = false ∧ i = 0)) : bodyL t = t.drop i := by
  unfold bodyL
  rcases hi with ⟨h, rfl⟩ | ⟨h, rfl⟩
  · rw [if_pos h]; simp
  · rw [if_neg (by rw [h]; simp)]; simp

/-- The four ways in which a text is no number. -/
theorem form_short {t : List UInt8} {i : Nat} (hi : bodyL t = t.drop i) (h : ¬ (1 ≤ t.length - i ∧ t.length - i ≤ 10)) : ¬ formP t := fun hf => by
  have := hf.1
  rw [hi, List.length_drop] at this
  exact h this

theorem form_digit {t : List UInt8} {i k : Nat} (hi : bodyL t = t.drop i) (hik : i ≤ k) (hk : k < t.length) (h : ¬ isDig t[k]) : ¬ formP t := fun hf => by
  refine h (hf.2.1 t[k] ?_)
  rw [hi, List.mem_iff_getElem]
  exact ⟨k - i, by rw [List.length_drop]; omega, by rw [List.getElem_drop]; congr 1; omega⟩

theorem form_head {t : List UInt8} {i : Nat} (hi : bodyL t = t.drop i) (hl : i < t.length) : (bodyL t).head? = some t[i] := by
  rw [hi, List.head?_drop, List.getElem?_eq_getElem hl]

theorem form_yes {t : List UInt8} {i : Nat} (hi : bodyL t = t.drop i) (h1 : 1 ≤ t.length - i ∧ t.length - i ≤ 10) (h2 : ∀ j (hj : j < t.length), i ≤ j → isDig t[j]) (h3 : ¬ ((bodyL t).head? = some 48 ∧ 1 < t.length)) : formP t := by
  refine ⟨by rw [hi, List.length_drop]; exact h1, ?_, h3⟩
  intro c hc
  rw [hi] at hc
  obtain ⟨j, hj, rfl⟩ := List.getElem_of_mem hc
  rw [List.length_drop] at hj
  rw [List.getElem_drop]
  exact h2 (i + j) (by omega) (by omega)

theorem readV_no {t : List UInt8} (h : ¬ formP t) : readV t = 0 ∧ readB t = false := by
  unfold readV
  rw [readB_no h]
  exact ⟨if_neg (by simp), rfl⟩

theorem readV_yes {t : List UInt8} {i : Nat} (h : formP t) (hi : bodyL t = t.drop i) : readV t = (if negB t = true then -(valTo t i t.length : Int) else (valTo t i t.length : Int)) ∧ readB t = true := by
  unfold readV
  rw [if_pos (readB_yes h), hi, valTo_end]
  exact ⟨rfl, readB_yes h⟩

set_option maxHeartbeats 4000000 in
set_option maxRecDepth 100000 in
theorem specRead (t : List UInt8) (w : World) (hl : t.length ≤ 1048576) :
    Calls Tryd.prog 66 #[.string ⟨t.toArray⟩] w fun e w' => e = .returned (.tuple #[.int .i64 (readV t), .bool (readB t)]) ∧ w' = w := by
  by_cases hte : t = []
  · subst hte
    have HO : Hid (readV ([] : List UInt8) = 0 ∧ readB ([] : List UInt8) = false) := readV_no (fun hf => by have := hf.1; simp [bodyL, negB] at this)
    go_enter Tryd.func66, Tryd.ntmps66
    go_wp2
    go_ret2
    exact ⟨by rw [HO.out.1, HO.out.2]; rfl, rfl⟩
  · have htl : 0 < t.length := List.length_pos_iff.2 hte
    have htb : t.isEmpty = false := by simp [hte]
    obtain ⟨x0, hx0⟩ : ∃ x0, t[0] = x0 := ⟨_, rfl⟩
    have hx0b : (⟨t.toArray⟩ : ByteArray)[0]'(by show 0 < t.toArray.size; simpa using htl) = x0 := hx0
    have hng : negB t = (x0 == 45) := by
      unfold negB
      cases t with
      | nil => exact absurd rfl hte
      | cons y r => simp at hx0; rw [← hx0]; simp
    have HX0 : Hid (t[0] = x0) := hx0
    clear hx0 hte
    by_cases hxm : x0 = 45
    · have hdx : ((x0.toNat : Int) == 45) = true := by rw [hxm]; rfl
      have hn : negB t = true := by rw [hng]; rw [hxm]; rfl
      have hbd := body_drop t 1 (Or.inl ⟨hn, rfl⟩)
      have HB : Hid (bodyL t = t.drop 1) := hbd
      have HNG : Hid (negB t = true) := hn
      clear hng hn hbd hxm
      by_cases hs1 : t.length = 1
      · have HO : Hid (readV t = 0 ∧ readB t = false) := readV_no (form_short HB.out (by omega))
        have hs1' : (t.length : Int) - 1 < 1 := by omega
        clear hs1
        go_enter Tryd.func66, Tryd.ntmps66
        go_wp2
        go_ret2
        exact ⟨by rw [HO.out.1, HO.out.2]; rfl, rfl⟩
      have hs1' : ¬ (t.length : Int) - 1 < 1 := by omega
      by_cases hs2 : 10 < (t.length : Int) - 1
      · have HO : Hid (readV t = 0 ∧ readB t = false) := readV_no (form_short HB.out (by omega))
        go_enter Tryd.func66, Tryd.ntmps66
        go_wp2
        go_ret2
        exact ⟨by rw [HO.out.1, HO.out.2]; rfl, rfl⟩
      go_enter Tryd.func66, Tryd.ntmps66
      go_wp2
      go_loop [6, 7] (fun nv ix => ∃ k : Nat, 1 ≤ k ∧ k ≤ t.length ∧ ix = .int .i64 k ∧ nv = .int .i64 (valTo t 1 k : Nat) ∧ Hid (∀ j (hj : j < t.length), 1 ≤ j → j < k → isDig t[j])) (fun _ ix => t.length - (intOf ix).toNat)
      case atStart => exact ⟨1, by omega, by omega, rfl, by rw [valTo_start]; rfl, (fun j hj h1 h2 => by omega : ∀ j (hj : j < t.length), 1 ≤ j → j < 1 → isDig t[j])⟩
      case round =>
        obtain ⟨k, hk0, hk1, rfl, rfl, HK⟩ := hrel
        have hvb := valTo_bd t 1 k hk0 hk1 (by omega) HK.out
        have hvb2 : (valTo t 1 k : Int) < 10000000000 := by omega
        by_cases hkl : (k : Int) < (t.length : Int)
        · have hk2 : k < t.length := by omega
          obtain ⟨x, hx⟩ : ∃ x : UInt8, t[k] = x := ⟨_, rfl⟩
          have hxb : (⟨t.toArray⟩ : ByteArray)[k]'(by show k < t.toArray.size; simpa using hk2) = x := hx
          by_cases hd1 : (x.toNat : Int) < 48
          · have HO : Hid (readV t = 0 ∧ readB t = false) := readV_no (form_digit HB.out hk0 hk2 (by rw [hx]; unfold isDig; omega))
            clear hx
            go_wp2
            go_ret2
            exact ⟨by rw [HO.out.1, HO.out.2]; rfl, rfl⟩
          · by_cases hd2 : 57 < (x.toNat : Int)
            · have HO : Hid (readV t = 0 ∧ readB t = false) := readV_no (form_digit HB.out hk0 hk2 (by rw [hx]; unfold isDig; omega))
              clear hx
              go_wp2
              go_ret2
              exact ⟨by rw [HO.out.1, HO.out.2]; rfl, rfl⟩
            · have HS : Hid (∀ j (hj : j < t.length), 1 ≤ j → j < k + 1 → isDig t[j]) := fun j hj h1 h2 => by
                by_cases e : j = k
                · subst e; rw [hx]; unfold isDig; omega
                · exact HK.out j hj h1 (by omega)
              have hst := valTo_step t 1 k hk0 hk2
              rw [hx] at hst
              have HV : Hid (valTo t 1 (k + 1) = valTo t 1 k * 10 + (x.toNat - 48)) := hst
              clear hx hst
              go_wp2
              go_round
              case rel => exact ⟨k + 1, by omega, by omega, by go_num, by rw [HV.out, show (((valTo t 1 k * 10 + (x.toNat - 48) : Nat)) : Int) = (valTo t 1 k : Int) * 10 + ((x.toNat : Int) - 48) by omega], HS⟩
              case measure => simp [intOf]; omega
        · obtain rfl : k = t.length := by omega
          have hIl : 1 < t.length := by omega
          obtain ⟨y, hy⟩ : ∃ y : UInt8, t[1] = y := ⟨_, rfl⟩
          have hyb : (⟨t.toArray⟩ : ByteArray)[1]'(by show 1 < t.toArray.size; simpa using hIl) = y := hy
          have hhd := form_head HB.out hIl
          rw [hy] at hhd
          by_cases hy0 : y = 48
          · have HO : Hid (readV t = 0 ∧ readB t = false) := readV_no (fun hf => hf.2.2 ⟨by rw [hhd, hy0], by omega⟩)
            have hdy : ((y.toNat : Int) == 48) = true := by rw [hy0]; rfl
            clear hy hy0
            clear hhd
            go_wp2
            go_ret2
            exact ⟨by rw [HO.out.1, HO.out.2]; rfl, rfl⟩
          · have hdy : ((y.toNat : Int) == 48) = false := beq_eq_false_iff_ne.2 (fun e => hy0 (UInt8.toNat_inj.1 (by have h48 : (48 : UInt8).toNat = 48 := rfl; omega)))
            have hf : formP t := form_yes HB.out (by omega) (fun j hj h1 => HK.out j hj h1 (by omega)) (fun h => hy0 (by have := h.1; rw [hhd] at this; exact Option.some.inj this))
            have hv := readV_yes hf HB.out
            rw [HNG.out] at hv
            have HV : Hid (readV t = -(valTo t 1 t.length : Int) ∧ readB t = true) := by
              exact (by simpa using hv : readV t = -(valTo t 1 t.length : Int) ∧ readB t = true)
            clear hf hv hhd
            clear hy hy0
            go_wp2
            go_ret2
            exact ⟨by rw [HV.out.1, HV.out.2]; rfl, rfl⟩
    · have hdx : ((x0.toNat : Int) == 45) = false := beq_eq_false_iff_ne.2 (fun e => hxm (UInt8.toNat_inj.1 (by have h45 : (45 : UInt8).toNat = 45 := rfl; omega)))
      have hn : negB t = false := by rw [hng]; exact beq_eq_false_iff_ne.2 hxm
      have hbd := body_drop t 0 (Or.inr ⟨hn, rfl⟩)
      have HB : Hid (bodyL t = t.drop 0) := hbd
      have HNG : Hid (negB t = false) := hn
      clear hng hn hbd hxm
      have hs1' : ¬ (t.length : Int) < 1 := by omega
      by_cases hs2 : 10 < (t.length : Int)
      · have HO : Hid (readV t = 0 ∧ readB t = false) := readV_no (form_short HB.out (by omega))
        go_enter Tryd.func66, Tryd.ntmps66
        go_wp2
        go_ret2
        exact ⟨by rw [HO.out.1, HO.out.2]; rfl, rfl⟩
      go_enter Tryd.func66, Tryd.ntmps66
      go_wp2
      go_loop [6, 7] (fun nv ix => ∃ k : Nat, 0 ≤ k ∧ k ≤ t.length ∧ ix = .int .i64 k ∧ nv = .int .i64 (valTo t 0 k : Nat) ∧ Hid (∀ j (hj : j < t.length), 0 ≤ j → j < k → isDig t[j])) (fun _ ix => t.length - (intOf ix).toNat)
      case atStart => exact ⟨0, by omega, by omega, rfl, by rw [valTo_start]; rfl, (fun j hj h1 h2 => by omega : ∀ j (hj : j < t.length), 0 ≤ j → j < 0 → isDig t[j])⟩
      case round =>
        obtain ⟨k, hk0, hk1, rfl, rfl, HK⟩ := hrel
        have hvb := valTo_bd t 0 k hk0 hk1 (by omega) HK.out
        have hvb2 : (valTo t 0 k : Int) < 10000000000 := by omega
        by_cases hkl : (k : Int) < (t.length : Int)
        · have hk2 : k < t.length := by omega
          obtain ⟨x, hx⟩ : ∃ x : UInt8, t[k] = x := ⟨_, rfl⟩
          have hxb : (⟨t.toArray⟩ : ByteArray)[k]'(by show k < t.toArray.size; simpa using hk2) = x := hx
          by_cases hd1 : (x.toNat : Int) < 48
          · have HO : Hid (readV t = 0 ∧ readB t = false) := readV_no (form_digit HB.out hk0 hk2 (by rw [hx]; unfold isDig; omega))
            clear hx
            go_wp2
            go_ret2
            exact ⟨by rw [HO.out.1, HO.out.2]; rfl, rfl⟩
          · by_cases hd2 : 57 < (x.toNat : Int)
            · have HO : Hid (readV t = 0 ∧ readB t = false) := readV_no (form_digit HB.out hk0 hk2 (by rw [hx]; unfold isDig; omega))
              clear hx
              go_wp2
              go_ret2
              exact ⟨by rw [HO.out.1, HO.out.2]; rfl, rfl⟩
            · have HS : Hid (∀ j (hj : j < t.length), 0 ≤ j → j < k + 1 → isDig t[j]) := fun j hj h1 h2 => by
                by_cases e : j = k
                · subst e; rw [hx]; unfold isDig; omega
                · exact HK.out j hj h1 (by omega)
              have hst := valTo_step t 0 k hk0 hk2
              rw [hx] at hst
              have HV : Hid (valTo t 0 (k + 1) = valTo t 0 k * 10 + (x.toNat - 48)) := hst
              clear hx hst
              go_wp2
              go_round
              case rel => exact ⟨k + 1, by omega, by omega, by go_num, by rw [HV.out, show (((valTo t 0 k * 10 + (x.toNat - 48) : Nat)) : Int) = (valTo t 0 k : Int) * 10 + ((x.toNat : Int) - 48) by omega], HS⟩
              case measure => simp [intOf]; omega
        · obtain rfl : k = t.length := by omega
          have hIl : 0 < t.length := by omega
          have hy := HX0.out
          have hhd := form_head HB.out hIl
          rw [hy] at hhd
          by_cases hy0 : x0 = 48
          · have hdy : ((x0.toNat : Int) == 48) = true := by rw [hy0]; rfl
            by_cases h1l : 1 < (t.length : Int)
            · have HO : Hid (readV t = 0 ∧ readB t = false) := readV_no (fun hf => hf.2.2 ⟨by rw [hhd, hy0], by omega⟩)
              clear hy hy0
              clear hhd
              go_wp2
              go_ret2
              exact ⟨by rw [HO.out.1, HO.out.2]; rfl, rfl⟩
            · have hf : formP t := form_yes HB.out (by omega) (fun j hj h1 => HK.out j hj h1 (by omega)) (fun h => absurd h.2 (by omega))
              have hv := readV_yes hf HB.out
              rw [HNG.out] at hv
              have HV : Hid (readV t = (valTo t 0 t.length : Int) ∧ readB t = true) := by
                exact (by simpa using hv : readV t = (valTo t 0 t.length : Int) ∧ readB t = true)
              clear hf hv hhd
              clear hy hy0
              go_wp2
              go_ret2
              exact ⟨by rw [HV.out.1, HV.out.2]; rfl, rfl⟩
          · have hdy : ((x0.toNat : Int) == 48) = false := beq_eq_false_iff_ne.2 (fun e => hy0 (UInt8.toNat_inj.1 (by have h48 : (48 : UInt8).toNat = 48 := rfl; omega)))
            have hf : formP t := form_yes HB.out (by omega) (fun j hj h1 => HK.out j hj h1 (by omega)) (fun h => hy0 (by have := h.1; rw [hhd] at this; exact Option.some.inj this))
            have hv := readV_yes hf HB.out
            rw [HNG.out] at hv
            have HV : Hid (readV t = (valTo t 0 t.length : Int) ∧ readB t = true) := by
              exact (by simpa using hv : readV t = (valTo t 0 t.length : Int) ∧ readB t = true)
            clear hf hv hhd
            clear hy hy0
            go_wp2
            go_ret2
            exact ⟨by rw [HV.out.1, HV.out.2]; rfl, rfl⟩

end Go.Proofs.YtjkfjenhocaljaaDoor
