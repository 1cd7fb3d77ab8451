/-
  Parts of one proof, one behind the other: TextS3, Turned, TextS4, TextS5, TreeS, TreeS2.
-/
import Derived.Test.YtaidhjjpdkkmcaaGreatDoorP2
import Derived.Test.YtaidhjjpdkkmcaaGreatDoorRows
import Derived.Test.YtaidhjjpdkkmcaaGreatDoorP1
import Derived.WalkKit
import Derived.WalkLawsBesides
import Derived.Laws.IdiomStrings
import Derived.Laws.Concat
import Derived.OpenShut
import Derived.Handy

/-! The contracts of chapter 5's specification: a number is read; NumberOf. -/
namespace Go.Proofs.YtaidhjjpdkkmcaaGreatDoor
open Go.RowKit

/-- What is read of the digits from place i on, up to place k. -/
def valTo (t : List UInt8) (i k : Nat) : Nat := valL ((t.drop i).take (k - i))

theorem valTo_start (t : List UInt8) (i : Nat) : valTo t i i = 0 := by simp [valTo, valL]

theorem valTo_step (t : List UInt8) (i k : Nat) (hi : i ≤ k) (hk : k < t.length) : valTo t i (k + 1) = valTo t i k * 10 + (t[k].toNat - 48) := by
 unfold valTo
 rw [cut_snoc t i k hi hk, valL_snoc]

theorem valTo_end (t : List UInt8) (i : Nat) : valTo t i t.length = valL (t.drop i) := by
 unfold valTo
 rw [List.take_of_length_le (by rw [List.length_drop]; omega)]

theorem valTo_bd (t : List UInt8) (i k : Nat) (hi : i ≤ k) (hk : k ≤ t.length) (h10 : t.length - i ≤ 10) (h : ∀ j (hj : j < t.length), i ≤ j → j < k → isDig t[j]) : valTo t i k < 10000000000 := by
 unfold valTo
 have hd : ∀ c ∈ (t.drop i).take (k - i), isDig c := by
  intro c hc
  obtain ⟨j, hj, rfl⟩ := List.getElem_of_mem hc
  rw [List.length_take, List.length_drop] at hj
  rw [List.getElem_take, List.getElem_drop]
  exact h (i + j) (by omega) (by omega) (by omega)
 have h1 := valL_bd _ hd
 have h2 : ((t.drop i).take (k - i)).length ≤ 10 := by rw [List.length_take, List.length_drop]; omega
 have h3 : (10 : Nat) ^ ((t.drop i).take (k - i)).length ≤ 10 ^ 10 := Nat.pow_le_pow_right (by omega) h2
 omega

theorem body_drop (t : List UInt8) (i : Nat) (hi : (negB t = true ∧ i = 1) ∨ (negB t = false ∧ i = 0)) : bodyL t = t.drop i := by
 unfold bodyL
 rcases hi with ⟨h, rfl⟩ | ⟨h, rfl⟩
 ·
  rw [if_pos h]; simp
 ·
  rw [if_neg (by rw [h]; simp)]; simp

/-- The four ways in which a text is no number. -/
theorem form_short {t : List UInt8} {i : Nat} (hi : bodyL t = t.drop i) (h : ¬ (1 ≤ t.length - i ∧ t.length - i ≤ 10)) : ¬ formP t := fun hf => by
 have := hf.1
 rw [hi, List.length_drop] at this
 exact h this

theorem form_digit {t : List UInt8} {i k : Nat} (hi : bodyL t = t.drop i) (hik : i ≤ k) (hk : k < t.length) (h : ¬ isDig t[k]) : ¬ formP t := fun hf => by
 refine h (hf.2.1 t[k] ?_)
 rw [hi, List.mem_iff_getElem]
 exact ⟨k - i, by rw [List.length_drop]; omega, by rw [List.getElem_drop]; congr 1; omega⟩

theorem form_head {t : List UInt8} {i : Nat} (hi : bodyL t = t.drop i) (hl : i < t.length) : (bodyL t).head? = some t[i] := by
 rw [hi, List.head?_drop, List.getElem?_eq_getElem hl]

theorem form_yes {t : List UInt8} {i : Nat} (hi : bodyL t = t.drop i) (h1 : 1 ≤ t.length - i ∧ t.length - i ≤ 10) (h2 : ∀ j (hj : j < t.length), i ≤ j → isDig t[j]) (h3 : ¬ ((bodyL t).head? = some 48 ∧ 1 < t.length)) : formP t := by
 refine ⟨by rw [hi, List.length_drop]; exact h1, ?_, h3⟩
 intro c hc
 rw [hi] at hc
 obtain ⟨j, hj, rfl⟩ := List.getElem_of_mem hc
 rw [List.length_drop] at hj
 rw [List.getElem_drop]
 exact h2 (i + j) (by omega) (by omega)

theorem readV_no {t : List UInt8} (h : ¬ formP t) : readV t = 0 ∧ readB t = false := by
 unfold readV
 rw [readB_no h]
 exact ⟨if_neg (by simp), rfl⟩

theorem readV_yes {t : List UInt8} {i : Nat} (h : formP t) (hi : bodyL t = t.drop i) : readV t = (if negB t = true then -(valTo t i t.length : Int) else (valTo t i t.length : Int)) ∧ readB t = true := by
 unfold readV
 rw [if_pos (readB_yes h), hi, valTo_end]
 exact ⟨rfl, readB_yes h⟩

set_option maxHeartbeats 4000000 in
set_option maxRecDepth 100000 in
theorem specRead (t : List UInt8) (w : World) (hl : t.length ≤ 1048576) :
 Calls Tryz.prog 38 #[.string ⟨t.toArray⟩] w fun e w' => e = .returned (.tuple #[.int .i64 (readV t), .bool (readB t)]) ∧ w' = w := by
 by_cases hte : t = []
 ·
  subst hte
  have HO : Hid (readV ([] : List UInt8) = 0 ∧ readB ([] : List UInt8) = false) := readV_no (fun hf => by have := hf.1; simp [bodyL, negB] at this)
  go_enter Tryz.func38, Tryz.ntmps38
  go_wp2
  go_ret2
  exact ⟨by rw [HO.out.1, HO.out.2]; rfl, rfl⟩
 ·
  have htl : 0 < t.length := List.length_pos_iff.2 hte
  have htb : t.isEmpty = false := by simp [hte]
  obtain ⟨x0, hx0⟩ : ∃ x0, t[0] = x0 := ⟨_, rfl⟩
  have hx0b : (⟨t.toArray⟩ : ByteArray)[0]'(by show 0 < t.toArray.size; simpa using htl) = x0 := hx0
  have hng : negB t = (x0 == 45) := by
   unfold negB
   cases t with
   | nil => exact absurd rfl hte
   | cons y r => simp at hx0; rw [← hx0]; simp
  have HX0 : Hid (t[0] = x0) := hx0
  clear hx0 hte
  by_cases hxm : x0 = 45
  ·
   have hdx : ((x0.toNat : Int) == 45) = true := by rw [hxm]; rfl
   have hn : negB t = true := by rw [hng]; rw [hxm]; rfl
   have hbd := body_drop t 1 (Or.inl ⟨hn, rfl⟩)
   have HB : Hid (bodyL t = t.drop 1) := hbd
   have HNG : Hid (negB t = true) := hn
   clear hng hn hbd hxm
   by_cases hs1 : t.length = 1
   ·
    have HO : Hid (readV t = 0 ∧ readB t = false) := readV_no (form_short HB.out (by omega))
    have hs1' : (t.length : Int) - 1 < 1 := by omega
    clear hs1
    go_enter Tryz.func38, Tryz.ntmps38
    go_wp2
    go_ret2
    exact ⟨by rw [HO.out.1, HO.out.2]; rfl, rfl⟩
   have hs1' : ¬ (t.length : Int) - 1 < 1 := by omega
   by_cases hs2 : 10 < (t.length : Int) - 1
   ·
    have HO : Hid (readV t = 0 ∧ readB t = false) := readV_no (form_short HB.out (by omega))
    go_enter Tryz.func38, Tryz.ntmps38
    go_wp2
    go_ret2
    exact ⟨by rw [HO.out.1, HO.out.2]; rfl, rfl⟩
   go_enter Tryz.func38, Tryz.ntmps38
   go_wp2
   go_loop [6, 7] (fun nv ix => ∃ k : Nat, 1 ≤ k ∧ k ≤ t.length ∧ ix = .int .i64 k ∧ nv = .int .i64 (valTo t 1 k : Nat) ∧ Hid (∀ j (hj : j < t.length), 1 ≤ j → j < k → isDig t[j])) (fun _ ix => t.length - (intOf ix).toNat)
   case atStart => exact ⟨1, by omega, by omega, rfl, by rw [valTo_start]; rfl, (fun j hj h1 h2 => by omega : ∀ j (hj : j < t.length), 1 ≤ j → j < 1 → isDig t[j])⟩
   case round =>
    obtain ⟨k, hk0, hk1, rfl, rfl, HK⟩ := hrel
    have hvb := valTo_bd t 1 k hk0 hk1 (by omega) HK.out
    have hvb2 : (valTo t 1 k : Int) < 10000000000 := by omega
    by_cases hkl : (k : Int) < (t.length : Int)
    ·
     have hk2 : k < t.length := by omega
     obtain ⟨x, hx⟩ : ∃ x : UInt8, t[k] = x := ⟨_, rfl⟩
     have hxb : (⟨t.toArray⟩ : ByteArray)[k]'(by show k < t.toArray.size; simpa using hk2) = x := hx
     by_cases hd1 : (x.toNat : Int) < 48
     ·
      have HO : Hid (readV t = 0 ∧ readB t = false) := readV_no (form_digit HB.out hk0 hk2 (by rw [hx]; unfold isDig; omega))
      clear hx
      go_wp2
      go_ret2
      exact ⟨by rw [HO.out.1, HO.out.2]; rfl, rfl⟩
     ·
      by_cases hd2 : 57 < (x.toNat : Int)
      ·
       have HO : Hid (readV t = 0 ∧ readB t = false) := readV_no (form_digit HB.out hk0 hk2 (by rw [hx]; unfold isDig; omega))
       clear hx
       go_wp2
       go_ret2
       exact ⟨by rw [HO.out.1, HO.out.2]; rfl, rfl⟩
      ·
       have HS : Hid (∀ j (hj : j < t.length), 1 ≤ j → j < k + 1 → isDig t[j]) := fun j hj h1 h2 => by
        by_cases e : j = k
        ·
         subst e; rw [hx]; unfold isDig; omega
        ·
         exact HK.out j hj h1 (by omega)
       have hst := valTo_step t 1 k hk0 hk2
       rw [hx] at hst
       have HV : Hid (valTo t 1 (k + 1) = valTo t 1 k * 10 + (x.toNat - 48)) := hst
       clear hx hst
       go_wp2
       go_round
       case rel => exact ⟨k + 1, by omega, by omega, by go_num, by rw [HV.out, show (((valTo t 1 k * 10 + (x.toNat - 48) : Nat)) : Int) = (valTo t 1 k : Int) * 10 + ((x.toNat : Int) - 48) by omega], HS⟩
       case measure => simp [intOf]; omega
    ·
     obtain rfl : k = t.length := by omega
     have hIl : 1 < t.length := by omega
     obtain ⟨y, hy⟩ : ∃ y : UInt8, t[1] = y := ⟨_, rfl⟩
     have hyb : (⟨t.toArray⟩ : ByteArray)[1]'(by show 1 < t.toArray.size; simpa using hIl) = y := hy
     have hhd := form_head HB.out hIl
     rw [hy] at hhd
     by_cases hy0 : y = 48
     ·
      have HO : Hid (readV t = 0 ∧ readB t = false) := readV_no (fun hf => hf.2.2 ⟨by rw [hhd, hy0], by omega⟩)
      have hdy : ((y.toNat : Int) == 48) = true := by rw [hy0]; rfl
      clear hy hy0
      clear hhd
      go_wp2
      go_ret2
      exact ⟨by rw [HO.out.1, HO.out.2]; rfl, rfl⟩
     ·
      have hdy : ((y.toNat : Int) == 48) = false := beq_eq_false_iff_ne.2 (fun e => hy0 (UInt8.toNat_inj.1 (by have h48 : (48 : UInt8).toNat = 48 := rfl; omega)))
      have hf : formP t := form_yes HB.out (by omega) (fun j hj h1 => HK.out j hj h1 (by omega)) (fun h => hy0 (by have := h.1; rw [hhd] at this; exact Option.some.inj this))
      have hv := readV_yes hf HB.out
      rw [HNG.out] at hv
      have HV : Hid (readV t = -(valTo t 1 t.length : Int) ∧ readB t = true) := by
       exact (by simpa using hv : readV t = -(valTo t 1 t.length : Int) ∧ readB t = true)
      clear hf hv hhd
      clear hy hy0
      go_wp2
      go_ret2
      exact ⟨by rw [HV.out.1, HV.out.2]; rfl, rfl⟩
  ·
   have hdx : ((x0.toNat : Int) == 45) = false := beq_eq_false_iff_ne.2 (fun e => hxm (UInt8.toNat_inj.1 (by have h45 : (45 : UInt8).toNat = 45 := rfl; omega)))
   have hn : negB t = false := by rw [hng]; exact beq_eq_false_iff_ne.2 hxm
   have hbd := body_drop t 0 (Or.inr ⟨hn, rfl⟩)
   have HB : Hid (bodyL t = t.drop 0) := hbd
   have HNG : Hid (negB t = false) := hn
   clear hng hn hbd hxm
   have hs1' : ¬ (t.length : Int) < 1 := by omega
   by_cases hs2 : 10 < (t.length : Int)
   ·
    have HO : Hid (readV t = 0 ∧ readB t = false) := readV_no (form_short HB.out (by omega))
    go_enter Tryz.func38, Tryz.ntmps38
    go_wp2
    go_ret2
    exact ⟨by rw [HO.out.1, HO.out.2]; rfl, rfl⟩
   go_enter Tryz.func38, Tryz.ntmps38
   go_wp2
   go_loop [6, 7] (fun nv ix => ∃ k : Nat, 0 ≤ k ∧ k ≤ t.length ∧ ix = .int .i64 k ∧ nv = .int .i64 (valTo t 0 k : Nat) ∧ Hid (∀ j (hj : j < t.length), 0 ≤ j → j < k → isDig t[j])) (fun _ ix => t.length - (intOf ix).toNat)
   case atStart => exact ⟨0, by omega, by omega, rfl, by rw [valTo_start]; rfl, (fun j hj h1 h2 => by omega : ∀ j (hj : j < t.length), 0 ≤ j → j < 0 → isDig t[j])⟩
   case round =>
    obtain ⟨k, hk0, hk1, rfl, rfl, HK⟩ := hrel
    have hvb := valTo_bd t 0 k hk0 hk1 (by omega) HK.out
    have hvb2 : (valTo t 0 k : Int) < 10000000000 := by omega
    by_cases hkl : (k : Int) < (t.length : Int)
    ·
     have hk2 : k < t.length := by omega
     obtain ⟨x, hx⟩ : ∃ x : UInt8, t[k] = x := ⟨_, rfl⟩
     have hxb : (⟨t.toArray⟩ : ByteArray)[k]'(by show k < t.toArray.size; simpa using hk2) = x := hx
     by_cases hd1 : (x.toNat : Int) < 48
     ·
      have HO : Hid (readV t = 0 ∧ readB t = false) := readV_no (form_digit HB.out hk0 hk2 (by rw [hx]; unfold isDig; omega))
      clear hx
      go_wp2
      go_ret2
      exact ⟨by rw [HO.out.1, HO.out.2]; rfl, rfl⟩
     ·
      by_cases hd2 : 57 < (x.toNat : Int)
      ·
       have HO : Hid (readV t = 0 ∧ readB t = false) := readV_no (form_digit HB.out hk0 hk2 (by rw [hx]; unfold isDig; omega))
       clear hx
       go_wp2
       go_ret2
       exact ⟨by rw [HO.out.1, HO.out.2]; rfl, rfl⟩
      ·
       have HS : Hid (∀ j (hj : j < t.length), 0 ≤ j → j < k + 1 → isDig t[j]) := fun j hj h1 h2 => by
        by_cases e : j = k
        ·
         subst e; rw [hx]; unfold isDig; omega
        ·
         exact HK.out j hj h1 (by omega)
       have hst := valTo_step t 0 k hk0 hk2
       rw [hx] at hst
       have HV : Hid (valTo t 0 (k + 1) = valTo t 0 k * 10 + (x.toNat - 48)) := hst
       clear hx hst
       go_wp2
       go_round
       case rel => exact ⟨k + 1, by omega, by omega, by go_num, by rw [HV.out, show (((valTo t 0 k * 10 + (x.toNat - 48) : Nat)) : Int) = (valTo t 0 k : Int) * 10 + ((x.toNat : Int) - 48) by omega], HS⟩
       case measure => simp [intOf]; omega
    ·
     obtain rfl : k = t.length := by omega
     have hIl : 0 < t.length := by omega
     have hy := HX0.out
     have hhd := form_head HB.out hIl
     rw [hy] at hhd
     by_cases hy0 : x0 = 48
     ·
      have hdy : ((x0.toNat : Int) == 48) = true := by rw [hy0]; rfl
      by_cases h1l : 1 < (t.length : Int)
      ·
       have HO : Hid (readV t = 0 ∧ readB t = false) := readV_no (fun hf => hf.2.2 ⟨by rw [hhd, hy0], by omega⟩)
       clear hy hy0
       clear hhd
       go_wp2
       go_ret2
       exact ⟨by rw [HO.out.1, HO.out.2]; rfl, rfl⟩
      ·
       have hf : formP t := form_yes HB.out (by omega) (fun j hj h1 => HK.out j hj h1 (by omega)) (fun h => absurd h.2 (by omega))
       have hv := readV_yes hf HB.out
       rw [HNG.out] at hv
       have HV : Hid (readV t = (valTo t 0 t.length : Int) ∧ readB t = true) := by
        exact (by simpa using hv : readV t = (valTo t 0 t.length : Int) ∧ readB t = true)
       clear hf hv hhd
       clear hy hy0
       go_wp2
       go_ret2
       exact ⟨by rw [HV.out.1, HV.out.2]; rfl, rfl⟩
     ·
      have hdy : ((x0.toNat : Int) == 48) = false := beq_eq_false_iff_ne.2 (fun e => hy0 (UInt8.toNat_inj.1 (by have h48 : (48 : UInt8).toNat = 48 := rfl; omega)))
      have hf : formP t := form_yes HB.out (by omega) (fun j hj h1 => HK.out j hj h1 (by omega)) (fun h => hy0 (by have := h.1; rw [hhd] at this; exact Option.some.inj this))
      have hv := readV_yes hf HB.out
      rw [HNG.out] at hv
      have HV : Hid (readV t = (valTo t 0 t.length : Int) ∧ readB t = true) := by
       exact (by simpa using hv : readV t = (valTo t 0 t.length : Int) ∧ readB t = true)
      clear hf hv hhd
      clear hy hy0
      go_wp2
      go_ret2
      exact ⟨by rw [HV.out.1, HV.out.2]; rfl, rfl⟩

end Go.Proofs.YtaidhjjpdkkmcaaGreatDoor

/-! The contracts of spec.Turned and impl.Turned. -/
namespace Go.Proofs.YtaidhjjpdkkmcaaGreatDoor
open Go.RowKit

end Go.Proofs.YtaidhjjpdkkmcaaGreatDoor

/-! The contracts of chapter 5's specification: NumberOf; a number is written (l1Int, digits). -/
namespace Go.Proofs.YtaidhjjpdkkmcaaGreatDoor
open Go.RowKit


theorem back1p (t : Int) (h2 : 0 ≤ t) (h3 : t ≤ 255) (W : World) :
 (convert 95 9 (.slice (some ⟨W.heap.size, 0, none⟩) 1 1)).run Tryz.prog (W.alloc (.cells #[.int .u8 t] 5)) = .ok (.string ⟨#[UInt8.ofNat t.toNat]⟩) (W.alloc (.cells #[.int .u8 t] 5)) := by
 have ht : ((UInt8.ofNat t.toNat).toNat : Int) = t := by
  rw [UInt8.toNat_ofNat']; omega
 have h := run_convert_bytes_back (P := Tryz.prog) (W.alloc (.cells #[.int .u8 t] 5)) 95 9 5 ⟨W.heap.size, 0, none⟩ 1 [UInt8.ofNat t.toNat] Tryz.underlying95 Tryz.underlying5 Tryz.underlying9 (by
  intro j hj
  have hj' : j < 1 := by simpa using hj
  match j, hj' with
  | 0, _ => simp only [List.getElem_cons_zero, ht]; simp [Addr.add, go_sem])
 exact h

theorem back_dig (k : Nat) (W : World) :
 (convert 95 9 (.slice (some ⟨W.heap.size, 0, none⟩) 1 1)).run Tryz.prog (W.alloc (.cells #[.int .u8 (48 + (k : Int) % 10)] 5)) = .ok (.string ⟨[digit k].toArray⟩) (W.alloc (.cells #[.int .u8 (48 + (k : Int) % 10)] 5)) := by
 have h := back1p (48 + (k : Int) % 10) (by omega) (by omega) W
 have e : UInt8.ofNat (48 + (k : Int) % 10).toNat = digit k := by unfold digit; congr 1
 rw [e] at h
 exact h


end Go.Proofs.YtaidhjjpdkkmcaaGreatDoor

/-! The contract of l1Int: a number is written, with a minus ahead below 0. -/
namespace Go.Proofs.YtaidhjjpdkkmcaaGreatDoor
open Go.RowKit

set_option maxHeartbeats 1000000 in
set_option maxRecDepth 100000 in
theorem specIntPos (N : Nat) (w : World) (hN : (N : Int) ≤ 9223372036854775807) :
 Calls Tryz.prog 42 #[.int .i64 (N : Int)] w fun e w' => e = .returned (.string ⟨(digL N).toArray⟩) ∧ Below w.heap.size w w' := by
 have hcat := cat_list
 have hneg : decide ((N : Int) < 0) = false := decide_eq_false (by omega)
 go_enter Tryz.func42, Tryz.ntmps42
 go_wp2
 go_loopw [0, 3] (fun nv sv wr => ∃ (k : Nat) (s : List UInt8), nv = .int .i64 k ∧ sv = .string ⟨s.toArray⟩ ∧ (k : Int) ≤ 9223372036854775807 ∧ Hid (digTo k s = digL N) ∧ Below w.heap.size w wr) (fun nv sv _ => (intOf nv).toNat + (match sv with | .string b => if b.size = 0 then 1 else 0 | _ => 0))
 case atStart => exact ⟨N, [], rfl, rfl, hN, digTo_start N, Below.refl _ _⟩
 case round =>
  obtain ⟨k, s, rfl, rfl, hk, HD, hb⟩ := hrel
  have hs19 : (s.length : Int) ≤ 19 := by have := digTo_len k N s HD.out (by omega); omega
  by_cases hc : s = [] ∨ k ≠ 0
  ·
   have hbk := back_dig k wr
   have HD2 : Hid (digTo (k / 10) (digit k :: s) = digL N) := by exact (by rw [digTo_step k s hc]; exact HD.out : digTo (k / 10) (digit k :: s) = digL N)
   have hd10 : ((k / 10 : Nat) : Int) = (k : Int) / 10 := by omega
   have hnn : ¬ (k : Int) % 10 < 0 := by omega
   rcases hc with rfl | hc
   ·
    go_wp2
    refine ⟨⟨k / 10, [digit k], by rw [hd10], rfl, by omega, HD2, hb.alloc hb.size _⟩, ?_⟩
    simp [intOf, ByteArray.size]
    omega
   ·
    have hk0 : ((k : Int) != 0) = true := bne_iff_ne.2 (by omega)
    by_cases hs : s = []
    ·
     subst hs
     go_wp2
     refine ⟨⟨k / 10, [digit k], by rw [hd10], rfl, by omega, HD2, hb.alloc hb.size _⟩, ?_⟩
     simp [intOf, ByteArray.size]
     omega
    ·
     have hse : s.isEmpty = false := by simp [hs]
     have hz : s.length ≠ 0 := by have := List.length_pos_iff.2 hs; omega
     clear hs
     go_wp2
     refine ⟨⟨k / 10, digit k :: s, by rw [hd10], rfl, by omega, HD2, hb.alloc hb.size _⟩, ?_⟩
     simp [intOf, ByteArray.size, hz]
     omega
  ·
   have hs : s ≠ [] := fun e => hc (Or.inl e)
   have hk0 : k = 0 := by
    by_cases e : k = 0
    ·
     exact e
    ·
     exact absurd (Or.inr e) hc
   subst hk0
   have hse : s.isEmpty = false := by simp [hs]
   have HF : Hid (s = digL N) := by exact (by rw [← HD.out, digTo_end hs] : s = digL N)
   clear hs hc
   go_wp2
   go_ret
   exact ⟨by rw [← HF.out]; rfl, hb⟩

theorem neg_tmod (k : Nat) : (-(k : Int)).tmod 10 = -((k : Int) % 10) := by
 rw [Int.neg_tmod, Int.tmod_eq_emod_of_nonneg (by omega)]
theorem neg_tdiv (k : Nat) : (-(k : Int)).tdiv 10 = -((k : Int) / 10) := by
 rw [Int.neg_tdiv, Int.tdiv_eq_ediv_of_nonneg (by omega)]

set_option maxHeartbeats 2000000 in
set_option maxRecDepth 100000 in
theorem specIntNeg (N : Nat) (w : World) (hN0 : 0 < N) (hN : (N : Int) ≤ 9223372036854775808) :
 Calls Tryz.prog 42 #[.int .i64 (-(N : Int))] w fun e w' => e = .returned (.string ⟨(45 :: digL N).toArray⟩) ∧ Below w.heap.size w w' := by
 have hcat := cat_list
 have hneg : decide (-(N : Int) < 0) = true := decide_eq_true (by omega)
 have hneg2 : -(N : Int) < 0 := by omega
 go_enter Tryz.func42, Tryz.ntmps42
 go_wp2
 go_loopw [0, 3] (fun nv sv wr => ∃ (k : Nat) (s : List UInt8), nv = .int .i64 (-(k : Int)) ∧ sv = .string ⟨s.toArray⟩ ∧ (k : Int) ≤ 9223372036854775808 ∧ Hid (digTo k s = digL N) ∧ Below w.heap.size w wr) (fun nv sv _ => (intOf nv).natAbs + (match sv with | .string b => if b.size = 0 then 1 else 0 | _ => 0))
 case atStart => exact ⟨N, [], rfl, rfl, hN, digTo_start N, Below.refl _ _⟩
 case round =>
  obtain ⟨k, s, rfl, rfl, hk, HD, hb⟩ := hrel
  have hs19 : (s.length : Int) ≤ 19 := by have := digTo_len k N s HD.out (by omega); omega
  have htm := neg_tmod k
  have htd := neg_tdiv k
  by_cases hc : s = [] ∨ k ≠ 0
  ·
   have hbk := back_dig k wr
   have HD2 : Hid (digTo (k / 10) (digit k :: s) = digL N) := by exact (by rw [digTo_step k s hc]; exact HD.out : digTo (k / 10) (digit k :: s) = digL N)
   have hd10 : ((k / 10 : Nat) : Int) = (k : Int) / 10 := by omega
   have hr0 : 0 ≤ (k : Int) % 10 := by omega
   have hr1 : (k : Int) % 10 < 10 := by omega
   have hc2 : s = [] ∨ (s ≠ [] ∧ k ≠ 0) := by
    by_cases e : s = []
    ·
     exact Or.inl e
    ·
     exact Or.inr ⟨e, by rcases hc with h | h; exact absurd h e; exact h⟩
   clear hc
   by_cases hr : 0 < (k : Int) % 10
   ·
    have hr2 : -((k : Int) % 10) < 0 := by omega
    rcases hc2 with rfl | ⟨hs, hc⟩
    ·
     go_wp2
     refine ⟨⟨k / 10, [digit k], by rw [hd10], rfl, by omega, HD2, hb.alloc hb.size _⟩, ?_⟩
     simp [intOf, ByteArray.size]
     omega
    ·
     have hk0 : (-(k : Int) != 0) = true := bne_iff_ne.2 (by omega)
     have hse : s.isEmpty = false := by simp [hs]
     have hz : s.length ≠ 0 := by have := List.length_pos_iff.2 hs; omega
     clear hs
     go_wp2
     refine ⟨⟨k / 10, digit k :: s, by rw [hd10], rfl, by omega, HD2, hb.alloc hb.size _⟩, ?_⟩
     simp [intOf, ByteArray.size, hz]
     omega
   ·
    have hr2 : ¬ -((k : Int) % 10) < 0 := by omega
    have hbk2 : (convert 95 9 (.slice (some ⟨wr.heap.size, 0, none⟩) 1 1)).run Tryz.prog (wr.alloc (.cells #[.int .u8 (48 + -((k : Int) % 10))] 5)) = .ok (.string ⟨[digit k].toArray⟩) (wr.alloc (.cells #[.int .u8 (48 + -((k : Int) % 10))] 5)) := by
     rw [show (48 : Int) + -((k : Int) % 10) = 48 + (k : Int) % 10 by omega]
     exact back_dig k wr
    rcases hc2 with rfl | ⟨hs, hc⟩
    ·
     go_wp2
     refine ⟨⟨k / 10, [digit k], by rw [hd10], rfl, by omega, HD2, hb.alloc hb.size _⟩, ?_⟩
     simp [intOf, ByteArray.size]
     omega
    ·
     have hk0 : (-(k : Int) != 0) = true := bne_iff_ne.2 (by omega)
     have hse : s.isEmpty = false := by simp [hs]
     have hz : s.length ≠ 0 := by have := List.length_pos_iff.2 hs; omega
     clear hs
     go_wp2
     refine ⟨⟨k / 10, digit k :: s, by rw [hd10], rfl, by omega, HD2, hb.alloc hb.size _⟩, ?_⟩
     simp [intOf, ByteArray.size, hz]
     omega
  ·
   have hs : s ≠ [] := fun e => hc (Or.inl e)
   have hk0 : k = 0 := by
    by_cases e : k = 0
    ·
     exact e
    ·
     exact absurd (Or.inr e) hc
   subst hk0
   have hse : s.isEmpty = false := by simp [hs]
   have HF : Hid (s = digL N) := by exact (by rw [← HD.out, digTo_end hs] : s = digL N)
   clear hs hc htm htd
   go_wp2
   go_ret
   exact ⟨by rw [← HF.out]; rfl, hb⟩

theorem specInt (n : Int) (w : World) (h0 : -9223372036854775808 ≤ n) (h1 : n ≤ 9223372036854775807) :
 Calls Tryz.prog 42 #[.int .i64 n] w fun e w' => e = .returned (.string ⟨(intL n).toArray⟩) ∧ Below w.heap.size w w' := by
 by_cases h : n < 0
 ·
  obtain ⟨N, rfl⟩ : ∃ N : Nat, n = -(N : Int) := ⟨n.natAbs, by omega⟩
  have e : intL (-(N : Int)) = 45 :: digL N := by unfold intL; rw [if_pos h]; congr 2; omega
  rw [e]
  exact specIntNeg N w (by omega) (by omega)
 ·
  obtain ⟨N, rfl⟩ : ∃ N : Nat, n = (N : Int) := ⟨n.natAbs, by omega⟩
  have e : intL (N : Int) = digL N := by unfold intL; rw [if_neg h]; congr 1
  rw [e]
  exact specIntPos N w (by omega)

end Go.Proofs.YtaidhjjpdkkmcaaGreatDoor

/-! The contracts of chapter 6's specification: NodeOk, how many parts, KidsOf. -/
namespace Go.Proofs.YtaidhjjpdkkmcaaGreatDoor
open Go.RowKit

def nodeVal (n : Nd) : Value := .agg #[.int .i64 n.1, .int .i64 n.2.1, .string ⟨n.2.2.1.toArray⟩, .string ⟨n.2.2.2.toArray⟩]

theorem nodeB_texts (k a : Int) (p f : List UInt8) (hk : k ≠ 8) (h : p ≠ [] ∨ f ≠ []) : nodeB (k, a, p, f) = false := nodeB_no (fun hp => by
 unfold nodeP at hp
 simp only at hp
 rcases hp with ⟨_, _, h1, h2⟩ | ⟨_, _, h1, h2⟩ | ⟨_, _, h1, h2⟩ | ⟨h1, _⟩
 ·
  rcases h with h | h; exact h h1; exact h h2
 ·
  rcases h with h | h; exact h h1; exact h h2
 ·
  rcases h with h | h; exact h h1; exact h h2
 ·
  exact hk h1)
theorem nodeB_num (a : Int) : nodeB (1, a, [], []) = inB a (-2147483648) 2147483647 := by
 unfold nodeB inB
 exact decide_eq_decide.2 (by unfold nodeP; simp)
theorem nodeB_arg (a : Int) : nodeB (2, a, [], []) = inB a 0 2 := by
 unfold nodeB inB
 exact decide_eq_decide.2 (by unfold nodeP; simp)
theorem nodeB_op (k a : Int) (h : 3 ≤ k ∧ k ≤ 7) : nodeB (k, a, [], []) = (a == 0) := by
 rw [Bool.eq_iff_iff, nodeB_iff, beq_iff_eq]
 unfold nodeP
 simp
 omega
theorem nodeB_call (a : Int) (p f : List UInt8) : nodeB (8, a, p, f) = (inB a 0 3 && (nameB p && nameB f)) := by
 rw [Bool.eq_iff_iff, nodeB_iff]
 unfold nodeP inB
 simp
theorem nodeB_other (k a : Int) (p f : List UInt8) (h : k < 1 ∨ 8 < k) : nodeB (k, a, p, f) = false := nodeB_no (fun hp => by
 unfold nodeP at hp
 simp only at hp
 omega)

set_option maxHeartbeats 2000000 in
set_option maxRecDepth 100000 in
theorem specNodeOk (n : Nd) (w : World) (hp : n.2.2.1.length ≤ 1048576) (hf : n.2.2.2.length ≤ 1048576) :
 Calls Tryz.prog 191 #[nodeVal n] w fun e w' => e = .returned (.bool (nodeB n)) ∧ Below w.heap.size w w' := by
 obtain ⟨k, a, p, f⟩ := n
 simp only at hp hf
 unfold nodeVal
 simp only
 by_cases h8 : k = 8
 ·
  subst h8
  have HN := nodeB_call a p f
  rw [HN]
  clear HN
  rcases hia : inB a 0 3 with _ | _
  ·
   have HA : Hid (inB a 0 3 = false) := hia
   clear hia
   go_enter Tryz.func191, Tryz.ntmps191
   go_wp2_with fail
   refine (specIn _ _ _ _).mono ?_
   rintro e w1 ⟨rfl, rfl⟩
   rw [HA.out]
   go_wp2
   go_ret
   exact ⟨rfl, (Below.refl _ w).alloc (Nat.le_refl _) _⟩
  ·
   have HA : Hid (inB a 0 3 = true) := hia
   clear hia
   rcases hnp : nameB p with _ | _
   ·
    have HP : Hid (nameB p = false) := hnp
    clear hnp
    go_enter Tryz.func191, Tryz.ntmps191
    go_wp2_with fail
    refine (specIn _ _ _ _).mono ?_
    rintro e w1 ⟨rfl, rfl⟩
    rw [HA.out]
    go_wp2_with fail
    refine (specNameOk p _ hp).mono ?_
    rintro e w1 ⟨rfl, rfl⟩
    rw [HP.out]
    go_wp2
    go_ret
    exact ⟨rfl, (Below.refl _ w).alloc (Nat.le_refl _) _⟩
   ·
    have HP : Hid (nameB p = true) := hnp
    clear hnp
    go_enter Tryz.func191, Tryz.ntmps191
    go_wp2_with fail
    refine (specIn _ _ _ _).mono ?_
    rintro e w1 ⟨rfl, rfl⟩
    rw [HA.out]
    go_wp2_with fail
    refine (specNameOk p _ hp).mono ?_
    rintro e w1 ⟨rfl, rfl⟩
    rw [HP.out]
    go_wp2_with fail
    refine (specNameOk f _ hf).mono ?_
    rintro e w1 ⟨rfl, rfl⟩
    go_wp2
    go_ret
    exact ⟨rfl, (Below.refl _ w).alloc (Nat.le_refl _) _⟩
 ·
  have d8 : (k != 8) = true := bne_iff_ne.2 h8
  have d8' : (k == 8) = false := beq_eq_false_iff_ne.2 h8
  by_cases hpe : p = []
  ·
   subst hpe
   by_cases hfe : f = []
   ·
    subst hfe
    by_cases h1 : k = 1
    ·
     subst h1
     have HN := nodeB_num a
     rw [HN]
     clear HN
     go_enter Tryz.func191, Tryz.ntmps191
     go_wp2_with fail
     refine (specWordOk _ _).mono ?_
     rintro e w1 ⟨rfl, rfl⟩
     go_wp2
     go_ret
     exact ⟨rfl, (Below.refl _ w).alloc (Nat.le_refl _) _⟩
    ·
     have d1 : (k == 1) = false := beq_eq_false_iff_ne.2 h1
     by_cases h2 : k = 2
     ·
      subst h2
      have HN := nodeB_arg a
      rw [HN]
      clear HN
      go_enter Tryz.func191, Tryz.ntmps191
      go_wp2_with fail
      refine (specIn _ _ _ _).mono ?_
      rintro e w1 ⟨rfl, rfl⟩
      go_wp2
      go_ret
      exact ⟨rfl, (Below.refl _ w).alloc (Nat.le_refl _) _⟩
     ·
      have d2 : (k == 2) = false := beq_eq_false_iff_ne.2 h2
      by_cases h37 : 3 ≤ k ∧ k ≤ 7
      ·
       have HN := nodeB_op k a h37
       rw [HN]
       clear HN
       rcases (show k = 3 ∨ k = 4 ∨ k = 5 ∨ k = 6 ∨ k = 7 by omega) with rfl | rfl | rfl | rfl | rfl
       all_goals
        go_enter Tryz.func191, Tryz.ntmps191
        go_wp2
        go_ret
        exact ⟨rfl, (Below.refl _ w).alloc (Nat.le_refl _) _⟩
      ·
       have HN := nodeB_other k a [] [] (by omega)
       rw [HN]
       clear HN
       have d3 : (k == 3) = false := beq_eq_false_iff_ne.2 (by omega)
       have d4 : (k == 4) = false := beq_eq_false_iff_ne.2 (by omega)
       have d5 : (k == 5) = false := beq_eq_false_iff_ne.2 (by omega)
       have d6 : (k == 6) = false := beq_eq_false_iff_ne.2 (by omega)
       have d7 : (k == 7) = false := beq_eq_false_iff_ne.2 (by omega)
       clear h37 h1 h2 h8
       go_enter Tryz.func191, Tryz.ntmps191
       go_wp2
       go_ret
       exact ⟨rfl, (Below.refl _ w).alloc (Nat.le_refl _) _⟩
   ·
    have HN := nodeB_texts k a [] f h8 (Or.inr hfe)
    rw [HN]
    have hfb : f.isEmpty = false := by simp [hfe]
    clear HN hfe h8
    go_enter Tryz.func191, Tryz.ntmps191
    go_wp2
    go_ret
    exact ⟨rfl, (Below.refl _ w).alloc (Nat.le_refl _) _⟩
  ·
   have HN := nodeB_texts k a p f h8 (Or.inl hpe)
   rw [HN]
   have hpb : p.isEmpty = false := by simp [hpe]
   clear HN hpe h8
   go_enter Tryz.func191, Tryz.ntmps191
   go_wp2
   go_ret
   exact ⟨rfl, (Below.refl _ w).alloc (Nat.le_refl _) _⟩

theorem kids_two (k a : Int) (p f : List UInt8) (h : 3 ≤ k ∧ k ≤ 6) : kidsV (k, a, p, f) = 2 := if_pos h
theorem kids_if (a : Int) (p f : List UInt8) : kidsV (7, a, p, f) = 3 := by unfold kidsV; simp
theorem kids_call (a : Int) (p f : List UInt8) : kidsV (8, a, p, f) = a := by unfold kidsV; simp
theorem kids_none (k a : Int) (p f : List UInt8) (h : k < 3 ∨ 8 < k) : kidsV (k, a, p, f) = 0 := by
 unfold kidsV
 simp only
 rw [if_neg (by omega), if_neg (by omega), if_neg (by omega)]

set_option maxHeartbeats 2000000 in
set_option maxRecDepth 100000 in
theorem specKids (n : Nd) (w : World) :
 Calls Tryz.prog 192 #[nodeVal n] w fun e w' => e = .returned (.int .i64 (kidsV n)) ∧ Below w.heap.size w w' := by
 obtain ⟨k, a, p, f⟩ := n
 unfold nodeVal
 simp only
 by_cases h36 : 3 ≤ k ∧ k ≤ 6
 ·
  rw [kids_two k a p f h36]
  rcases (show k = 3 ∨ k = 4 ∨ k = 5 ∨ k = 6 by omega) with rfl | rfl | rfl | rfl
  all_goals
   go_enter Tryz.func192, Tryz.ntmps192
   go_wp2
   go_ret
   exact ⟨rfl, (Below.refl _ w).alloc (Nat.le_refl _) _⟩
 ·
  by_cases h7 : k = 7
  ·
   subst h7
   rw [kids_if]
   go_enter Tryz.func192, Tryz.ntmps192
   go_wp2
   go_ret
   exact ⟨rfl, (Below.refl _ w).alloc (Nat.le_refl _) _⟩
  ·
   by_cases h8 : k = 8
   ·
    subst h8
    rw [kids_call]
    go_enter Tryz.func192, Tryz.ntmps192
    go_wp2
    go_ret
    exact ⟨rfl, (Below.refl _ w).alloc (Nat.le_refl _) _⟩
   ·
    rw [kids_none k a p f (by omega)]
    have d3 : (k == 3) = false := beq_eq_false_iff_ne.2 (by omega)
    have d4 : (k == 4) = false := beq_eq_false_iff_ne.2 (by omega)
    have d5 : (k == 5) = false := beq_eq_false_iff_ne.2 (by omega)
    have d6 : (k == 6) = false := beq_eq_false_iff_ne.2 (by omega)
    have d7 : (k == 7) = false := beq_eq_false_iff_ne.2 h7
    have d8 : (k == 8) = false := beq_eq_false_iff_ne.2 h8
    clear h36 h7 h8
    go_enter Tryz.func192, Tryz.ntmps192
    go_wp2
    go_ret
    exact ⟨rfl, (Below.refl _ w).alloc (Nat.le_refl _) _⟩

end Go.Proofs.YtaidhjjpdkkmcaaGreatDoor

/-! The contracts of chapter 6's specification over lists of nodes: EndOf, TreeOk. -/
namespace Go.Proofs.YtaidhjjpdkkmcaaGreatDoor
open Go.RowKit

def nd0 : Nd := (0, 0, [], [])

/-- The nodes ns lie at a, four cells each. -/
def NodesIn (w : World) (a : Option Addr) (len : Nat) (ns : List Nd) : Prop :=
 ns.length = len ∧ ∀ j, j < len → ∃ b off, a = some ⟨b, off, none⟩ ∧ b < w.heap.size ∧ w.cell? ⟨b, off + j * 4, none⟩ = some (.int .i64 (ns.getD j nd0).1) ∧ w.cell? ⟨b, off + j * 4 + 1, none⟩ = some (.int .i64 (ns.getD j nd0).2.1) ∧ w.cell? ⟨b, off + j * 4 + 2, none⟩ = some (.string ⟨(ns.getD j nd0).2.2.1.toArray⟩) ∧ w.cell? ⟨b, off + j * 4 + 3, none⟩ = some (.string ⟨(ns.getD j nd0).2.2.2.toArray⟩)

theorem NodesIn.keep {w w' : World} {a : Option Addr} {len : Nat} {ns : List Nd} (h : NodesIn w a len ns) (hs : w.heap.size ≤ w'.heap.size) (hb : ∀ b off, a = some ⟨b, off, none⟩ → b < w.heap.size → w'.heap[b]? = w.heap[b]?) : NodesIn w' a len ns := by
 refine ⟨h.1, fun j hj => ?_⟩
 obtain ⟨b, off, e, hlt, c0, c1, c2, c3⟩ := h.2 j hj
 have hk := hb b off e hlt
 exact ⟨b, off, e, Nat.lt_of_lt_of_le hlt hs, (World.cell?_of_block (a := ⟨b, off + j * 4, none⟩) hk).trans c0, (World.cell?_of_block (a := ⟨b, off + j * 4 + 1, none⟩) hk).trans c1, (World.cell?_of_block (a := ⟨b, off + j * 4 + 2, none⟩) hk).trans c2, (World.cell?_of_block (a := ⟨b, off + j * 4 + 3, none⟩) hk).trans c3⟩

theorem NodesIn.below {w w' : World} {a : Option Addr} {len : Nat} {ns : List Nd} (h : NodesIn w a len ns) (hb : Below w.heap.size w w') : NodesIn w' a len ns :=
 h.keep hb.size (fun b _ _ hlt => hb.block b hlt)

theorem NodesIn.at {w : World} {a : Option Addr} {len : Nat} {ns : List Nd} (h : NodesIn w a len ns) (hz : 0 < len) : ∃ b off, a = some ⟨b, off, none⟩ ∧ b < w.heap.size ∧
 ∀ j, j < len → w.cell? ⟨b, off + j * 4, none⟩ = some (.int .i64 (ns.getD j nd0).1) ∧ w.cell? ⟨b, off + j * 4 + 1, none⟩ = some (.int .i64 (ns.getD j nd0).2.1) ∧ w.cell? ⟨b, off + j * 4 + 2, none⟩ = some (.string ⟨(ns.getD j nd0).2.2.1.toArray⟩) ∧ w.cell? ⟨b, off + j * 4 + 3, none⟩ = some (.string ⟨(ns.getD j nd0).2.2.2.toArray⟩) := by
 obtain ⟨b, off, rfl, hb, _⟩ := h.2 0 hz
 refine ⟨b, off, rfl, hb, fun j hj => ?_⟩
 obtain ⟨b', off', e, _, c⟩ := h.2 j hj
 injection e with e
 injection e with e1 e2
 subst e1 e2
 exact c

/-- No text of a node is too long. -/
def ShortT (ns : List Nd) : Prop := ∀ j, (ns.getD j nd0).2.2.1.length ≤ 1048576 ∧ (ns.getD j nd0).2.2.2.length ≤ 1048576

/-- What is still to go, from place k on with o open. -/
def endTo (ns : List Nd) (k o : Nat) : Int := match endGo (ns.drop k) o with | some d => (k : Int) + d | none => -1

theorem endTo_start {ns : List Nd} {k : Nat} (hk : k < ns.length) : endTo ns k 1 = endV ns (k : Int) := by rw [endV_nat]; unfold endN endTo; rw [if_pos hk]; cases endGo (ns.drop k) 1 <;> rfl
theorem endTo_zero (ns : List Nd) (k : Nat) : endTo ns k 0 = (k : Int) := by unfold endTo; rw [endGo_zero]; simp
theorem endTo_over {ns : List Nd} {k o : Nat} (hk : ns.length ≤ k) : endTo ns k (o + 1) = -1 := by unfold endTo; rw [end_over hk]
theorem endTo_bad {ns : List Nd} {k o : Nat} (hk : k < ns.length) (hn : nodeB (ns.getD k nd0) = false) : endTo ns k (o + 1) = -1 := by
 have hg : ns.getD k nd0 = ns[k] := by simp [List.getD, hk]
 rw [hg] at hn
 unfold endTo
 rw [end_bad hk hn]
theorem endTo_round {ns : List Nd} {k o : Nat} (hk : k < ns.length) (hn : nodeB (ns.getD k nd0) = true) : endTo ns k (o + 1) = endTo ns (k + 1) (o + kidsN (ns.getD k nd0)) := by
 have hg : ns.getD k nd0 = ns[k] := by simp [List.getD, hk]
 rw [hg] at hn ⊢
 unfold endTo
 rw [end_round hk hn]
 cases endGo (ns.drop (k + 1)) (o + kidsN ns[k]) with
 | none => rfl
 | some d => simp only [Option.map_some]; omega

set_option maxHeartbeats 2000000 in
set_option maxRecDepth 100000 in
theorem specEndOf (a : Option Addr) (len cap : Nat) (ns : List Nd) (at_ : Int) (w : World) (hin : NodesIn w a len ns) (hsh : ShortT ns) (hlen : len ≤ 1048576) :
 Calls Tryz.prog 186 #[.slice a len cap, .int .i64 at_] w fun e w' => e = .returned (.int .i64 (endV ns at_)) ∧ Below w.heap.size w w' := by
 obtain rfl : ns.length = len := hin.1
 by_cases hout : at_ < 0 ∨ (ns.length : Int) ≤ at_
 ·
  have HE : Hid (endV ns at_ = -1) := endV_out ns at_ hout
  by_cases h0 : at_ < 0
  ·
   go_enter Tryz.func186, Tryz.ntmps186
   go_wp2
   go_ret
   exact ⟨by rw [HE.out]; rfl, Below.refl _ _⟩
  ·
   have h1 : (ns.length : Int) ≤ at_ := by omega
   clear hout
   go_enter Tryz.func186, Tryz.ntmps186
   go_wp2
   go_ret
   exact ⟨by rw [HE.out]; rfl, Below.refl _ _⟩
 ·
  obtain ⟨k0, rfl⟩ : ∃ k0 : Nat, at_ = (k0 : Int) := Int.eq_ofNat_of_zero_le (by omega)
  have hk0 : k0 < ns.length := by omega
  have h0 : ¬ (k0 : Int) < 0 := by omega
  have h1 : ¬ (ns.length : Int) ≤ (k0 : Int) := by omega
  have HE : Hid (endTo ns k0 1 = endV ns (k0 : Int)) := endTo_start hk0
  have HI : Hid (NodesIn w a ns.length ns) := hin
  have HS : Hid (ShortT ns) := hsh
  clear hout hin hsh
  go_enter Tryz.func186, Tryz.ntmps186
  go_wp2
  go_loopw [1, 5] (fun av ov wr => ∃ k o : Nat, av = .int .i64 k ∧ ov = .int .i64 o ∧ k ≤ ns.length ∧ o ≤ 1 + 3 * k ∧ Hid (endTo ns k o = endV ns (k0 : Int)) ∧ Below w.heap.size w wr) (fun av _ _ => ns.length - (intOf av).toNat)
  case atStart => exact ⟨k0, 1, rfl, rfl, by omega, by omega, HE, Below.refl _ _⟩
  case round =>
   obtain ⟨k, o, rfl, rfl, hk, ho, HT, hb⟩ := hrel
   clear HE
   by_cases hoz : o = 0
   ·
    subst hoz
    have HF : Hid ((k : Int) = endV ns (k0 : Int)) := by exact (by rw [← HT.out, endTo_zero] : (k : Int) = endV ns (k0 : Int))
    go_wp2
    go_ret
    exact ⟨by rw [← HF.out]; rfl, hb⟩
   ·
    obtain ⟨o', rfl⟩ : ∃ o', o = o' + 1 := ⟨o - 1, by omega⟩
    have ho1 : (0 : Int) < ((o' + 1 : Nat) : Int) := by omega
    by_cases hkl : (ns.length : Int) ≤ (k : Int)
    ·
     have HF : Hid (endV ns (k0 : Int) = -1) := by exact (by rw [← HT.out, endTo_over (by omega)] : endV ns (k0 : Int) = -1)
     clear hoz
     go_wp2
     go_ret
     exact ⟨by rw [HF.out]; rfl, hb⟩
    ·
     obtain ⟨b, off, rfl, hbl, hcells⟩ := (HI.out.below hb).at (by omega)
     obtain ⟨c0, c1, c2, c3⟩ := hcells k (by omega)
     have hs := HS.out k
     obtain ⟨n, hn⟩ : ∃ n, ns.getD k nd0 = n := ⟨_, rfl⟩
     rw [hn] at c0 c1 c2 c3 hs
     have HN : Hid (ns.getD k nd0 = n) := hn
     have HC : Hid (_) := fun W : World => specNodeOk n W hs.1 hs.2
     have HK : Hid (_) := fun W : World => specKids n W
     have hkv := @kidsV_ok n
     obtain ⟨kd, aa, p, f⟩ := n
     unfold nodeVal at HC HK
     simp only at c0 c1 c2 c3 hs HC HK
     clear hn hcells hoz
     go_wp2_with fail
     refine Calls.mono (HC.out _) ?_
     rintro e w1 ⟨rfl, hb1⟩
     have hB1 := hb.trans (hb1.mono hb.size)
     have bc := hb1.block b hbl
     have d0 := (World.cell?_of_block (a := ⟨b, off + k * 4, none⟩) bc).trans c0
     have d1 := (World.cell?_of_block (a := ⟨b, off + k * 4 + 1, none⟩) bc).trans c1
     have d2 := (World.cell?_of_block (a := ⟨b, off + k * 4 + 2, none⟩) bc).trans c2
     have d3 := (World.cell?_of_block (a := ⟨b, off + k * 4 + 3, none⟩) bc).trans c3
     clear c0 c1 c2 c3 hb1 hb HC bc
     rcases hnb : nodeB (kd, aa, p, f) with _ | _
     ·
      have HF : Hid (endV ns (k0 : Int) = -1) := by exact (by rw [← HT.out, endTo_bad (by omega) (by rw [HN.out]; exact hnb)] : endV ns (k0 : Int) = -1)
      clear hnb hkv
      go_wp2
      go_ret
      exact ⟨by rw [HF.out]; rfl, hB1⟩
     ·
      obtain ⟨hk1, hk3⟩ := hkv hnb
      have HT2 : Hid (endTo ns (k + 1) (o' + kidsN (kd, aa, p, f)) = endV ns (k0 : Int)) := by
       have := endTo_round (o := o') (show k < ns.length by omega) (by rw [HN.out]; exact hnb)
       rw [HN.out] at this
       exact (by rw [← this]; exact HT.out : endTo ns (k + 1) (o' + kidsN (kd, aa, p, f)) = endV ns (k0 : Int))
      clear hnb hkv
      go_wp2_with fail
      refine Calls.mono (HK.out _) ?_
      rintro e w2 ⟨rfl, hb2⟩
      rw [hk1]
      have hB2 := hB1.trans (hb2.mono hB1.size)
      obtain ⟨q, hq⟩ : ∃ q, kidsN (kd, aa, p, f) = q := ⟨_, rfl⟩
      rw [hq] at HT2 hk3 ⊢
      have hqi : (q : Int) ≤ 3 := by omega
      clear hk1 hq hb2 hB1 d0 d1 d2 d3 HK
      go_wp2
      go_roundw
      case rel => exact ⟨k + 1, o' + q, by go_num, by go_num, by omega, by omega, HT2, hB2⟩
      case measure => simp [intOf]; omega

end Go.Proofs.YtaidhjjpdkkmcaaGreatDoor
