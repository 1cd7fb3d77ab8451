/-
  Parts of one proof, one behind the other: StepD, ImgB, HasI, ObI, RtB, Math15P, RtC, SortN, LkP.
-/
import Derived.Test.YtkpdoedpkncboaaGreatP24
import Derived.Test.YtkpdoedpkncboaaGreatP22
import Derived.Test.YtkpdoedpkncboaaGreatP23
import Derived.Deep.RegionHeld3
import Derived.Test.YtkpdoedpkncboaaGreatP2
import Derived.Test.YtkpdoedpkncboaaGreatP11
import Derived.Test.YtkpdoedpkncboaaGreatP13
import Derived.Test.YtkpdoedpkncboaaGreatP14
import Derived.Test.YtkpdoedpkncboaaGreatP4
import Derived.Test.YtkpdoedpkncboaaGreatP1
import Derived.Shelf.SlSortCmp.NoneTotal
namespace Go.Proofs.YtkpdoedpkncboaaGreat
open Go.RowKit
theorem ok_eq1 (R A B : Int) (nm : List UInt8) (n : Nat) (_hn : n ≤ 200) : (decide (tlRA (1, R, A, B, nm) = (1, R, A, B, nm)) && regB (rsR (1, R, A, B, nm)) && rqW (1, R, A, B, nm) (n : Int)) = decide (zaY n (1, R, A, B, nm)) := by
 rw [Bool.eq_iff_iff]
 unfold tlRA rsR rqW zaY insP regB inB
 simp only [List.all_cons, List.all_nil, Bool.and_true, Bool.and_eq_true, decide_eq_true_eq, Prod.mk.injEq]
 grind
theorem ok_eq2 (R A B : Int) (nm : List UInt8) (n : Nat) (_hn : n ≤ 200) : (decide (tlRA (2, R, A, B, nm) = (2, R, A, B, nm)) && regB (rsR (2, R, A, B, nm)) && rqA (2, R, A, B, nm) (n : Int)) = decide (zaY n (2, R, A, B, nm)) := by
 rw [Bool.eq_iff_iff]
 unfold tlRA rsR rqA zaY insP regB inB
 simp only [List.all_cons, List.all_nil, Bool.and_true, Bool.and_eq_true, decide_eq_true_eq, Prod.mk.injEq]
 grind
theorem ok_eq3 (R A B : Int) (nm : List UInt8) (n : Nat) (_hn : n ≤ 200) : (decide (zde (3, R, A, B, nm) = (3, R, A, B, nm)) && regB (zcE (3, R, A, B, nm)) && rqY (3, R, A, B, nm) (n : Int)) = decide (zaY n (3, R, A, B, nm)) := by
 rw [Bool.eq_iff_iff]
 unfold zde zcE rqY zaY insP regB inB
 simp only [List.all_cons, List.all_nil, Bool.and_true, Bool.and_eq_true, decide_eq_true_eq, Prod.mk.injEq]
 grind
theorem ok_eq4 (R A B : Int) (nm : List UInt8) (n : Nat) (_hn : n ≤ 200) : (decide (zde (4, R, A, B, nm) = (4, R, A, B, nm)) && regB (zcE (4, R, A, B, nm)) && rqY (4, R, A, B, nm) (n : Int)) = decide (zaY n (4, R, A, B, nm)) := by
 rw [Bool.eq_iff_iff]
 unfold zde zcE rqY zaY insP regB inB
 simp only [List.all_cons, List.all_nil, Bool.and_true, Bool.and_eq_true, decide_eq_true_eq, Prod.mk.injEq]
 grind
theorem ok_eq5 (R A B : Int) (nm : List UInt8) (n : Nat) (_hn : n ≤ 200) : (decide (zde (5, R, A, B, nm) = (5, R, A, B, nm)) && regB (zcE (5, R, A, B, nm)) && rqY (5, R, A, B, nm) (n : Int)) = decide (zaY n (5, R, A, B, nm)) := by
 rw [Bool.eq_iff_iff]
 unfold zde zcE rqY zaY insP regB inB
 simp only [List.all_cons, List.all_nil, Bool.and_true, Bool.and_eq_true, decide_eq_true_eq, Prod.mk.injEq]
 grind
theorem ok_eq6 (R A B : Int) (nm : List UInt8) (n : Nat) (_hn : n ≤ 200) : (decide (zde (6, R, A, B, nm) = (6, R, A, B, nm)) && regB (zcE (6, R, A, B, nm)) && rqY (6, R, A, B, nm) (n : Int)) = decide (zaY n (6, R, A, B, nm)) := by
 rw [Bool.eq_iff_iff]
 unfold zde zcE rqY zaY insP regB inB
 simp only [List.all_cons, List.all_nil, Bool.and_true, Bool.and_eq_true, decide_eq_true_eq, Prod.mk.injEq]
 grind
theorem ok_eq7 (R A B : Int) (nm : List UInt8) (n : Nat) (_hn : n ≤ 200) : (decide (tlRA (7, R, A, B, nm) = (7, R, A, B, nm)) && regB (rsR (7, R, A, B, nm)) && rqP (7, R, A, B, nm) (n : Int)) = decide (zaY n (7, R, A, B, nm)) := by
 rw [Bool.eq_iff_iff]
 unfold tlRA rsR rqP zaY insP regB inB
 simp only [List.all_cons, List.all_nil, Bool.and_true, Bool.and_eq_true, decide_eq_true_eq, Prod.mk.injEq]
 grind
theorem ok_eq8 (R A B : Int) (nm : List UInt8) (n : Nat) (_hn : n ≤ 200) : (decide (tlA (8, R, A, B, nm) = (8, R, A, B, nm)) && regB (rsN (8, R, A, B, nm)) && rqP (8, R, A, B, nm) (n : Int)) = decide (zaY n (8, R, A, B, nm)) := by
 rw [Bool.eq_iff_iff]
 unfold tlA rsN rqP zaY insP regB
 simp only [List.all_nil, Bool.and_true, Bool.and_eq_true, decide_eq_true_eq, Prod.mk.injEq]
 grind
theorem ok_eq9 (R A B : Int) (nm : List UInt8) (n : Nat) (_hn : n ≤ 200) : (decide (zhx (9, R, A, B, nm) = (9, R, A, B, nm)) && regB (rsC (9, R, A, B, nm)) && rqC (9, R, A, B, nm) (n : Int)) = decide (zaY n (9, R, A, B, nm)) := by
 have hw : (0 ≤ R ∧ R ≤ 63) → (0 ≤ A ∧ A ≤ 3) → wrap64 (wrap64 (R + A) - 1) = R + A - 1 := fun h1 h2 => by
  rw [IntWalk.wrap64_in (R + A) (by omega), IntWalk.wrap64_in _ (by omega)]
 rw [Bool.eq_iff_iff]
 unfold zhx rsC rqC zaY insP regB inB
 simp only [List.all_cons, List.all_nil, Bool.and_true, Bool.and_eq_true, decide_eq_true_eq, Prod.mk.injEq]
 generalize wrap64 (wrap64 (R + A) - 1) = z at hw ⊢
 generalize zba nm = bn
 grind
theorem ok_eq10 (R A B : Int) (nm : List UInt8) (n : Nat) (_hn : n ≤ 200) : (decide (tlR (10, R, A, B, nm) = (10, R, A, B, nm)) && regB (rsR (10, R, A, B, nm)) && rqY (10, R, A, B, nm) (n : Int)) = decide (zaY n (10, R, A, B, nm)) := by
 rw [Bool.eq_iff_iff]
 unfold tlR rsR rqY zaY insP regB inB
 simp only [List.all_cons, List.all_nil, Bool.and_true, Bool.and_eq_true, decide_eq_true_eq, Prod.mk.injEq]
 grind
theorem ok_out {k R A B : Int} {nm : List UInt8} {n : Nat} (hk : k < 1 ∨ 10 < k) : decide (zaY n (k, R, A, B, nm)) = false := by
 refine decide_eq_false (fun h => ?_)
 have h2 := h.1.2.2
 simp only at h2
 omega
set_option maxHeartbeats 1000000 in
set_option maxRecDepth 100000 in
theorem zlD (k R A B : Int) (nm : List UInt8) (n : Int) (w : World) (hk : k < 1) : Calls Tryz.prog 154 #[zay (k, R, A, B, nm), .int .i64 n] w fun e w' => e = .returned (.bool false) ∧ Below w.heap.size w w' := by
 unfold zay
 dsimp only
 go_enter Tryz.func154, Tryz.ntmps154
 go_wp2
 go_ret
 exact ⟨rfl, (Below.refl _ w).alloc (Nat.le_refl _) _⟩
set_option maxHeartbeats 1000000 in
set_option maxRecDepth 100000 in
theorem zlC (k R A B : Int) (nm : List UInt8) (n : Int) (w : World) (hk : 10 < k) : Calls Tryz.prog 154 #[zay (k, R, A, B, nm), .int .i64 n] w fun e w' => e = .returned (.bool false) ∧ Below w.heap.size w w' := by
 unfold zay
 dsimp only
 have hk1 : ¬ k < 1 := by omega
 go_enter Tryz.func154, Tryz.ntmps154
 go_wp2
 go_ret
 exact ⟨rfl, (Below.refl _ w).alloc (Nat.le_refl _) _⟩
theorem zhZ (i : In13) (n : Nat) (w : World) (hn : n ≤ 200) (hl : i.2.2.2.2.length ≤ 1048576) : Calls Tryz.prog 154 #[zay i, .int .i64 (n : Int)] w fun e w' => e = .returned (.bool (decide (zaY n i))) ∧ Below w.heap.size w w' := by
 obtain ⟨k, R, A, B, nm⟩ := i
 dsimp only at hl
 by_cases h1 : k < 1
 ·
  rw [ok_out (Or.inl h1)]
  exact zlD k R A B nm _ w h1
 by_cases h2 : 10 < k
 ·
  rw [ok_out (Or.inr h2)]
  exact zlC k R A B nm _ w h2
 have hk : k = 1 ∨ k = 2 ∨ k = 3 ∨ k = 4 ∨ k = 5 ∨ k = 6 ∨ k = 7 ∨ k = 8 ∨ k = 9 ∨ k = 10 := by omega
 clear h1 h2
 rcases hk with rfl | rfl | rfl | rfl | rfl | rfl | rfl | rfl | rfl | rfl
 ·
  rw [← ok_eq1 R A B nm n hn]
  exact zdj 1 R A B nm 172 173 174 tlRA rsR rqW (n : Int) w ⟨by omega, by omega⟩ zlq (enters_of Tryz.func172 (by kernel_rfl) rfl) (enters_of Tryz.func173 (by kernel_rfl) rfl) (enters_of Tryz.func174 (by kernel_rfl) rfl) zdo zbW zh7 hl (by simp [rsR])
 ·
  rw [← ok_eq2 R A B nm n hn]
  exact zdj 2 R A B nm 172 173 175 tlRA rsR rqA (n : Int) w ⟨by omega, by omega⟩ zlp (enters_of Tryz.func172 (by kernel_rfl) rfl) (enters_of Tryz.func173 (by kernel_rfl) rfl) (enters_of Tryz.func175 (by kernel_rfl) rfl) zdo zbW zhX hl (by simp [rsR])
 ·
  rw [← ok_eq3 R A B nm n hn]
  exact zdj 3 R A B nm 169 170 171 zde zcE rqY (n : Int) w ⟨by omega, by omega⟩ zlo (enters_of Tryz.func169 (by kernel_rfl) rfl) (enters_of Tryz.func170 (by kernel_rfl) rfl) (enters_of Tryz.func171 (by kernel_rfl) rfl) zco zbv zbk hl (by simp [zcE])
 ·
  rw [← ok_eq4 R A B nm n hn]
  exact zdj 4 R A B nm 169 170 171 zde zcE rqY (n : Int) w ⟨by omega, by omega⟩ zln (enters_of Tryz.func169 (by kernel_rfl) rfl) (enters_of Tryz.func170 (by kernel_rfl) rfl) (enters_of Tryz.func171 (by kernel_rfl) rfl) zco zbv zbk hl (by simp [zcE])
 ·
  rw [← ok_eq5 R A B nm n hn]
  exact zdj 5 R A B nm 169 170 171 zde zcE rqY (n : Int) w ⟨by omega, by omega⟩ zlm (enters_of Tryz.func169 (by kernel_rfl) rfl) (enters_of Tryz.func170 (by kernel_rfl) rfl) (enters_of Tryz.func171 (by kernel_rfl) rfl) zco zbv zbk hl (by simp [zcE])
 ·
  rw [← ok_eq6 R A B nm n hn]
  exact zdj 6 R A B nm 169 170 171 zde zcE rqY (n : Int) w ⟨by omega, by omega⟩ zll (enters_of Tryz.func169 (by kernel_rfl) rfl) (enters_of Tryz.func170 (by kernel_rfl) rfl) (enters_of Tryz.func171 (by kernel_rfl) rfl) zco zbv zbk hl (by simp [zcE])
 ·
  rw [← ok_eq7 R A B nm n hn]
  exact zdj 7 R A B nm 172 173 176 tlRA rsR rqP (n : Int) w ⟨by omega, by omega⟩ zlk (enters_of Tryz.func172 (by kernel_rfl) rfl) (enters_of Tryz.func173 (by kernel_rfl) rfl) (enters_of Tryz.func176 (by kernel_rfl) rfl) zdo zbW zdx hl (by simp [rsR])
 ·
  rw [← ok_eq8 R A B nm n hn]
  exact zdj 8 R A B nm 177 178 176 tlA rsN rqP (n : Int) w ⟨by omega, by omega⟩ zlj (enters_of Tryz.func177 (by kernel_rfl) rfl) (enters_of Tryz.func178 (by kernel_rfl) rfl) (enters_of Tryz.func176 (by kernel_rfl) rfl) zjy zeI zdx hl (by simp [rsN])
 ·
  rw [← ok_eq9 R A B nm n hn]
  exact zdj 9 R A B nm 179 180 181 zhx rsC rqC (n : Int) w ⟨by omega, by omega⟩ zli (enters_of Tryz.func179 (by kernel_rfl) rfl) (enters_of Tryz.func180 (by kernel_rfl) rfl) (enters_of Tryz.func181 (by kernel_rfl) rfl) zeH zdf zdQ hl (by simp [rsC])
 ·
  rw [← ok_eq10 R A B nm n hn]
  exact zdj 10 R A B nm 182 173 171 tlR rsR rqY (n : Int) w ⟨by omega, by omega⟩ zjw (enters_of Tryz.func182 (by kernel_rfl) rfl) (enters_of Tryz.func173 (by kernel_rfl) rfl) (enters_of Tryz.func171 (by kernel_rfl) rfl) zjx zbW zbk hl (by simp [rsR])
set_option maxHeartbeats 4000000 in
set_option maxRecDepth 100000 in
theorem zjE (a : Option Addr) (len cap : Nat) (is : List In13) (w : World) (hin : zbD w a len is) (_hint : zia is) (hsh : zcA is) (hlen : len ≤ 1048576) (_hc : len ≤ cap) (_hm : cap ≤ maxLen) :
 Calls Tryz.prog 129 #[.slice a len cap] w fun e w' => e = .returned (.bool (zbV is)) ∧ Below w.heap.size w w' := by
 obtain rfl : is.length = len := hin.1
 have HI : Hid (zbD w a is.length is) := hin
 have HS : Hid (zcA is) := hsh
 have HL : Hid (is.length < 1 ∨ 200 < is.length → zbV is = false) := ziR
 have HNo : Hid (∀ j, j < is.length → ¬ zaY is.length (is.getD j in0) → zbV is = false) := fun j hj h => zm1 hj h
 have HEn : Hid (1 ≤ is.length → is.length ≤ 200 → (∀ j, j < is.length → zaY is.length (is.getD j in0)) → zbV is = (((is.getD (is.length - 1) in0).1 == 10) || ((is.getD (is.length - 1) in0).1 == 8))) := ziS
 obtain ⟨n, hn⟩ : ∃ n, is.length = n := ⟨_, rfl⟩
 rw [hn] at HI HL HNo HEn hlen ⊢
 generalize zbV is = res at HL HNo HEn ⊢
 clear hin hsh hn _hc _hm
 by_cases h1 : (n : Int) < 1
 ·
  have HF2 : Hid (res = false) := HL.out (Or.inl (by omega))
  clear HL HNo HEn
  go_enter Tryz.func129, Tryz.ntmps129
  go_wp2
  go_ret
  exact ⟨by rw [HF2.out]; rfl, Below.refl _ _⟩
 by_cases h2 : 200 < (n : Int)
 ·
  have HF2 : Hid (res = false) := HL.out (Or.inr (by omega))
  clear HL HNo HEn
  go_enter Tryz.func129, Tryz.ntmps129
  go_wp2
  go_ret
  exact ⟨by rw [HF2.out]; rfl, Below.refl _ _⟩
 obtain ⟨m, hm⟩ : ∃ m, n = m + 1 := ⟨n - 1, by omega⟩
 have HM : Hid (n = m + 1) := hm
 have HEn2 : Hid ((∀ j, j < n → zaY n (is.getD j in0)) → res = (((is.getD m in0).1 == 10) || ((is.getD m in0).1 == 8))) := fun h => by
  have := HEn.out (by omega) (by omega) h
  rw [show n - 1 = m by omega] at this
  exact this
 clear hm HL HEn
 go_enter Tryz.func129, Tryz.ntmps129
 go_wp2
 go_loopw [17] (fun iv wr => ∃ i : Nat, iv = .int .i64 (i : Int) ∧ i ≤ n ∧ Hid (∀ j, j < i → zaY n (is.getD j in0)) ∧ Hid (Below w.heap.size w wr)) (fun iv _ => n - (intOf iv).toNat)
 case atStart => exact ⟨0, rfl, Nat.zero_le _, fun j hj => by omega, Below.refl _ _⟩
 case round =>
  obtain ⟨i, rfl, hi, HA, HB⟩ := hrel
  by_cases hlt : (i : Int) < (n : Int)
  ·
   obtain ⟨b, off, rfl, hbl, c0, c1, c2, c3, c4⟩ := (HI.out.below HB.out).2 i (by omega)
   have HC : Hid (_) := fun W : World => zhZ (is.getD i in0) n W (by omega) (HS.out i)
   have HNx : Hid (zaY n (is.getD i in0) → ∀ j, j < i + 1 → zaY n (is.getD j in0)) := fun h j hj => by
    by_cases e : j = i
    ·
     rw [e]; exact h
    ·
     exact HA.out j (by omega)
   have HNi : Hid (¬ zaY n (is.getD i in0) → res = false) := HNo.out i (by omega)
   clear HEn2 HNo HA HS
   generalize is.getD i in0 = ii at c0 c1 c2 c3 c4 HC HNx HNi
   have HD1 : Hid (decide (zaY n ii) = true → zaY n ii) := fun h => of_decide_eq_true h
   have HD2 : Hid (decide (zaY n ii) = false → ¬ zaY n ii) := fun h => of_decide_eq_false h
   generalize decide (zaY n ii) = d at HC HD1 HD2
   obtain ⟨kd, R, A, Bq, nm⟩ := ii
   unfold zay at HC
   simp only at c0 c1 c2 c3 c4 HC
   have HB1 : Hid (Below w.heap.size w (wr.alloc (.cells #[.int .i64 kd, .int .i64 R, .int .i64 A, .int .i64 Bq, .string ⟨nm.toArray⟩] 88))) := HB.out.alloc HB.out.size _
   cases d
   ·
    have HF : Hid (res = false) := HNi.out (HD2.out rfl)
    clear HNi HNx HD1 HD2
    go_wp2_with fail
    refine Calls.mono (HC.out _) ?_
    rintro e w1 ⟨rfl, hb1⟩
    have hB1 := HB1.out.trans (hb1.mono HB1.out.size)
    clear c0 c1 c2 c3 c4 hb1 HC HB1 HB
    go_wp2
    go_ret
    exact ⟨by rw [HF.out]; rfl, hB1⟩
   ·
    have HN2 : Hid (_) := HNx.out (HD1.out rfl)
    clear HNi HNx HD1 HD2
    go_wp2_with fail
    refine Calls.mono (HC.out _) ?_
    rintro e w1 ⟨rfl, hb1⟩
    have hB1 := HB1.out.trans (hb1.mono HB1.out.size)
    clear c0 c1 c2 c3 c4 hb1 HC HB1 HB
    go_wp2
    go_roundw
    case rel => exact ⟨i + 1, by go_num, by omega, HN2, hB1⟩
    case measure => simp [intOf]; omega
  ·
   have hin2 : i = n := by omega
   have HF : Hid (_) := HEn2.out (fun j hj => HA.out j (by omega))
   have hmn : m < n := by have := HM.out; omega
   obtain ⟨b, off, rfl, hbl, c0, _⟩ := (HI.out.below HB.out).2 m hmn
   have hq : (n : Int) - 1 = (m : Int) := by have := HM.out; omega
   have hmz : (m : Int) < (n : Int) := by omega
   have HBr := HB.out
   generalize (is.getD m in0).1 = kd at c0 HF
   clear hin2 HEn2 HNo HA HS HM HI HB hmn
   rcases h10 : (kd == 10) with _ | _
   ·
    rw [h10] at HF
    go_wp2
    go_ret
    exact ⟨by rw [HF.out]; rfl, HBr⟩
   ·
    rw [h10] at HF
    go_wp2
    go_ret
    exact ⟨by rw [HF.out]; rfl, HBr⟩
set_option maxHeartbeats 2000000 in
set_option maxRecDepth 100000 in
theorem zgx (a : Option Addr) (len cap : Nat) (is : List In13) (n : Int) (w : World) (hin : zbD w a len is) (hlen : len ≤ 1048576) :
 Calls Tryz.prog 130 #[.slice a len cap, .int .i64 n] w fun e w' => e = .returned (.bool (is.all (argB n))) ∧ Below w.heap.size w w' := by
 obtain rfl : is.length = len := hin.1
 have HI : Hid (zbD w a is.length is) := hin
 have HAll : Hid ((∀ k, k < is.length → argB n (is.getD k in0) = true) → is.all (argB n) = true) := ziV.2
 have HNo : Hid (∀ k, k < is.length → argB n (is.getD k in0) = false → is.all (argB n) = false) := fun k hk h => arg_noI hk h
 have HB0 : Hid (Below w.heap.size w w) := Below.refl _ w
 obtain ⟨m, hm⟩ : ∃ m, is.length = m := ⟨_, rfl⟩
 rw [hm] at HI HAll HNo hlen ⊢
 generalize is.all (argB n) = res at HAll HNo ⊢
 clear hin hm
 go_enter Tryz.func130, Tryz.ntmps130
 go_wp2
 go_loopw [9] (fun iv wr => ∃ k : Nat, iv = .int .i64 (k : Int) ∧ k ≤ m ∧ Hid (∀ j, j < k → argB n (is.getD j in0) = true) ∧ Hid (Below w.heap.size w wr)) (fun iv _ => m - (intOf iv).toNat)
 case atStart => exact ⟨0, rfl, Nat.zero_le _, (fun j hj => absurd hj (Nat.not_lt_zero _)), HB0⟩
 case round =>
  obtain ⟨k, rfl, hk, HA, HB⟩ := hrel
  clear HB0
  by_cases hlt : (k : Int) < (m : Int)
  ·
   obtain ⟨b, off, rfl, hbl, c0, c1, c2, c3, c4⟩ := (HI.out.below HB.out).2 k (by omega)
   have hno := HNo.out k (by omega)
   have hst : argB n (is.getD k in0) = true → ∀ j, j < k + 1 → argB n (is.getD j in0) = true := fun h j hj => by
    rcases Nat.lt_or_ge j k with g | g
    ·
     exact HA.out j g
    ·
     obtain rfl : j = k := by omega
     exact h
   obtain ⟨i, hi⟩ : ∃ i, is.getD k in0 = i := ⟨_, rfl⟩
   rw [hi] at c0 c1 c2 c3 c4 hno hst
   obtain ⟨ik, iR, iA, iB, inm⟩ := i
   simp only at c0 c1 c2 c3 c4
   have HB1 : Hid (Below w.heap.size w (wr.alloc (.cells #[.int .i64 ik, .int .i64 iR, .int .i64 iA, .int .i64 iB, .string ⟨inm.toArray⟩] 88))) := HB.out.alloc HB.out.size _
   unfold argB at hno hst
   simp only at hno hst
   by_cases h2 : ik = 2
   ·
    subst h2
    by_cases hA : n ≤ iA
    ·
     have HR : Hid (res = false) := hno (by simp [hA])
     clear hno hst hi
     go_wp2
     go_ret
     exact ⟨by rw [HR.out]; rfl, HB1.out⟩
    ·
     have HS : Hid (∀ j, j < k + 1 → argB n (is.getD j in0) = true) := by unfold argB; exact hst (by simp [hA])
     clear hno hst hi
     go_wp2
     go_roundw
     case rel => exact ⟨k + 1, by go_num, by omega, HS, HB1⟩
     case measure => simp [intOf]; omega
   ·
    have HS : Hid (∀ j, j < k + 1 → argB n (is.getD j in0) = true) := by unfold argB; exact hst (by simp [h2])
    clear hno hst hi
    go_wp2
    go_roundw
    case rel => exact ⟨k + 1, by go_num, by omega, HS, HB1⟩
    case measure => simp [intOf]; omega
  ·
   obtain rfl : k = m := by omega
   have HR : Hid (res = true) := HAll.out HA.out
   go_wp2
   go_ret
   exact ⟨by rw [HR.out]; rfl, HB.out⟩
set_option maxHeartbeats 2000000 in
set_option maxRecDepth 100000 in
theorem zgs (nm : List UInt8) (ar : Int) (cd : List In13) (ca : Option Addr) (cl cc : Nat) (w : World) (hin : zbD w ca cl cd) (hint : zia cd) (hsh : zcA cd) (hlen : cl ≤ 1048576) (hc : cl ≤ cc) (hm : cc ≤ maxLen) (hn : nm.length ≤ 1048576) :
 Calls Tryz.prog 87 #[.agg #[.string ⟨nm.toArray⟩, .int .i64 ar, .slice ca cl cc]] w fun e w' => e = .returned (.bool (rtB (nm, ar, cd))) ∧ Below w.heap.size w w' := by
 obtain ⟨W, hW⟩ : ∃ W, w.alloc (.cells #[.string ⟨nm.toArray⟩, .int .i64 ar, .slice ca cl cc] 51) = W := ⟨_, rfl⟩
 have hb : Below w.heap.size w W := by rw [← hW]; exact (Below.refl _ _).alloc (Nat.le_refl _) _
 have hsW : W.heap.size = w.heap.size + 1 := by rw [← hW]; simp
 have hR : W.heap[w.heap.size]? = some (.cells #[.string ⟨nm.toArray⟩, .int .i64 ar, .slice ca cl cc] 51) := by rw [← hW]; exact heap_alloc_new w _
 have HC1 : Hid (_) := zh8 nm W hn
 have HC2 : Hid (∀ X, Below W.heap.size W X → _) := fun X (hX : Below W.heap.size W X) => zjE ca cl cc cd X ((hin.below hb).below hX) hint hsh hlen hc hm
 have HC3 : Hid (∀ X, Below W.heap.size W X → _) := fun X (hX : Below W.heap.size W X) => zgx ca cl cc cd ar X ((hin.below hb).below hX) hlen
 have HB : Hid (Below w.heap.size w W) := hb
 have HQ : Hid (rtB (nm, ar, cd) = ((zba nm && (inB ar 0 3 && zbV cd)) && cd.all (argB ar))) := rfl
 generalize rtB (nm, ar, cd) = res at HQ ⊢
 generalize zba nm = b1 at HC1 HQ
 generalize zbV cd = b2 at HC2 HQ
 generalize cd.all (argB ar) = b3 at HC3 HQ
 obtain ⟨D, hD⟩ : ∃ D, w.heap.size = D := ⟨_, rfl⟩
 rw [hD] at hR hsW HB ⊢
 obtain ⟨q0, _, _, _⟩ := zdW (Below.refl _ W) (by omega) hR
 clear hin hint hsh hb
 go_enter Tryz.func87, Tryz.ntmps87
 go_wp2_with fail
 refine Calls.mono HC1.out ?_
 rintro e w1 ⟨rfl, hb1⟩
 obtain ⟨r0, r1, r2, _⟩ := zdW hb1 (by omega) hR
 rcases b1 with _ | _
 ·
  have HR : Hid (res = false) := HQ.out
  go_wp2
  go_ret
  exact ⟨by rw [HR.out]; rfl, HB.out.trans (hb1.mono (by omega))⟩
 by_cases h0 : 0 ≤ ar
 ·
  by_cases h3 : ar ≤ 3
  ·
   go_wp2_with fail
   refine Calls.mono (HC2.out _ hb1) ?_
   rintro e w2 ⟨rfl, hb2⟩
   have hb12 := hb1.trans (hb2.mono hb1.size)
   obtain ⟨s0, s1, s2, _⟩ := zdW hb12 (by omega) hR
   rcases b2 with _ | _
   ·
    have HR : Hid (res = false) := by exact (by rw [HQ.out]; simp : res = false)
    go_wp2
    go_ret
    exact ⟨by rw [HR.out]; rfl, HB.out.trans (hb12.mono (by omega))⟩
   ·
    have HR : Hid (res = b3) := by exact (by rw [HQ.out]; unfold inB; simp [h0, h3] : res = b3)
    go_wp2_with fail
    refine Calls.mono (HC3.out _ hb12) ?_
    rintro e w3 ⟨rfl, hb3⟩
    have hb13 := hb12.trans (hb3.mono hb12.size)
    go_wp2
    go_ret
    exact ⟨by rw [HR.out]; rfl, HB.out.trans (hb13.mono (by omega))⟩
  ·
   have HR : Hid (res = false) := by exact (by rw [HQ.out]; unfold inB; simp [h3] : res = false)
   go_wp2
   go_ret
   exact ⟨by rw [HR.out]; rfl, HB.out.trans (hb1.mono (by omega))⟩
 ·
  have HR : Hid (res = false) := by exact (by rw [HQ.out]; unfold inB; simp [h0] : res = false)
  go_wp2
  go_ret
  exact ⟨by rw [HR.out]; rfl, HB.out.trans (hb1.mono (by omega))⟩
set_option maxHeartbeats 4000000 in
set_option maxRecDepth 100000 in
theorem zfx (a : Option Addr) (len cap : Nat) (rs : List Rt) (most : Int) (w : World) (h : RtOk w a len cap rs) :
 Calls Tryz.prog 51 #[.slice a len cap, .int .i64 most] w fun e w' => e = .returned (.bool (rtsB rs most)) ∧ Below w.heap.size w w' := by
 obtain rfl : rs.length = len := h.c.1
 have HI : Hid (zdD w a rs.length cap rs) := h.c
 have HInt : Hid (IntR rs) := h.i
 have HSh : Hid (zcQ rs) := h.s
 have hlen := h.l
 have HFew : Hid ((rs.length : Int) < 1 ∨ most < (rs.length : Int) → rtsB rs most = false) := rtsB_few
 have HNo : Hid (∀ k, k < rs.length → rtB (rs.getD k rt0) = false → rtsB rs most = false) := fun k hk e => RrSt.noOk hk e
 have HNr : Hid (∀ k z, k < rs.length → RrSt rs k z → rtB (rs.getD k rt0) = true → leT (rs.getD k rt0).1 z = true → rtsB rs most = false) := fun k z hk hs e1 e2 => hs.noRise hk e1 e2
 have HAll : Hid (∀ z, RrSt rs rs.length z → 1 ≤ (rs.length : Int) ∧ (rs.length : Int) ≤ most → rtsB rs most = true) := fun z hs hl => hs.all hl
 have HS0 : Hid (RrSt rs 0 []) := RrSt.start rs
 have HB0 : Hid (Below w.heap.size w w) := Below.refl _ w
 obtain ⟨n, hnn⟩ : ∃ n, rs.length = n := ⟨_, rfl⟩
 have HN : Hid (rs.length = n) := hnn
 rw [hnn] at HI HFew HNo HNr HAll hlen ⊢
 generalize rtsB rs most = res at HFew HNo HNr HAll ⊢
 clear h hnn
 by_cases h1 : (n : Int) < 1
 ·
  have HR : Hid (res = false) := HFew.out (Or.inl h1)
  go_enter Tryz.func51, Tryz.ntmps51
  go_wp2
  go_ret
  exact ⟨by rw [HR.out]; rfl, HB0.out⟩
 by_cases h2 : most < (n : Int)
 ·
  have HR : Hid (res = false) := HFew.out (Or.inr h2)
  go_enter Tryz.func51, Tryz.ntmps51
  go_wp2
  go_ret
  exact ⟨by rw [HR.out]; rfl, HB0.out⟩
 have HL : Hid (1 ≤ (n : Int) ∧ (n : Int) ≤ most) := ⟨by omega, by omega⟩
 go_enter Tryz.func51, Tryz.ntmps51
 go_wp2
 go_loopw [5, 19] (fun zv iv wr => ∃ (k : Nat) (z : List UInt8), iv = .int .i64 (k : Int) ∧ zv = .string ⟨z.toArray⟩ ∧ k ≤ n ∧ Hid (RrSt rs k z) ∧ Hid (Below w.heap.size w wr)) (fun _ iv _ => n - (intOf iv).toNat)
 case atStart => exact ⟨0, [], rfl, rfl, Nat.zero_le _, HS0, HB0⟩
 case round =>
  obtain ⟨k, z, rfl, rfl, hk, HS, HB⟩ := hrel
  clear HB0 HS0
  by_cases hlt : (k : Int) < (n : Int)
  ·
   obtain ⟨b, off, rfl, hbl, c0, c1, ca, cl, cc, c2, hin, hcc, hcm⟩ := (HI.out.below HB.out).2.2.2 k (by omega)
   have hno := HNo.out k (by omega)
   have hnr := HNr.out k z (by omega) HS.out
   have hst := HS.out.step
   have hint := (HInt.out k).2
   have hsh := HSh.out k
   obtain ⟨r, hrr⟩ : ∃ r, rs.getD k rt0 = r := ⟨_, rfl⟩
   rw [hrr] at c0 c1 hin hno hnr hst hint hsh
   obtain ⟨nm, ar, cd⟩ := r
   simp only at c0 c1 hin hno hnr hst hint hsh
   obtain ⟨Y, hY⟩ : ∃ Y, wr.alloc (.cells #[.string ⟨nm.toArray⟩, .int .i64 ar, .slice ca cl cc] 51) = Y := ⟨_, rfl⟩
   have hb : Below wr.heap.size wr Y := by rw [← hY]; exact (Below.refl _ _).alloc (Nat.le_refl _) _
   have hsY : Y.heap.size = wr.heap.size + 1 := by rw [← hY]; simp
   have hR : Y.heap[wr.heap.size]? = some (.cells #[.string ⟨nm.toArray⟩, .int .i64 ar, .slice ca cl cc] 51) := by rw [← hY]; exact heap_alloc_new wr _
   have HBY : Hid (Below w.heap.size w Y) := HB.out.trans (hb.mono HB.out.size)
   have hcl : cl ≤ 1048576 := by rw [← hin.1]; exact hsh.2.1
   have HC : Hid (_) := zgs nm ar cd ca cl cc Y (hin.below hb) hint hsh.2.2 hcl hcc hcm hsh.1
   obtain ⟨y0, y1, y2, _⟩ := zdW (Below.refl _ Y) (by omega) hR
   obtain ⟨E, hE⟩ : ∃ E, wr.heap.size = E := ⟨_, rfl⟩
   rw [hE] at hR hsY y0 y1 y2
   rcases hb1 : rtB (nm, ar, cd) with _ | _
   ·
    have HR : Hid (res = false) := hno hb1
    rw [hb1] at HC
    clear hno hnr hst hint hsh hrr hb1 hin hb HS
    go_wp2_with fail
    refine Calls.mono HC.out ?_
    rintro e w1 ⟨rfl, hb1⟩
    go_wp2
    go_ret
    exact ⟨by rw [HR.out]; rfl, HBY.out.trans (hb1.mono HBY.out.size)⟩
   ·
    rw [hb1] at HC
    rcases hle : leT nm z with _ | _
    ·
     have HS2 : Hid (RrSt rs (k + 1) nm) := hst hb1 hle
     unfold leT at hle
     clear hno hnr hst hint hsh hrr hb1 hin hb HS
     go_wp2_with fail
     refine Calls.mono HC.out ?_
     rintro e w1 ⟨rfl, hb1⟩
     obtain ⟨r0, _, _, _⟩ := zdW hb1 (by omega) hR
     have HB2 : Hid (Below w.heap.size w w1) := HBY.out.trans (hb1.mono HBY.out.size)
     clear hb1
     go_wp2
     go_roundw
     case rel => exact ⟨k + 1, nm, by go_num, rfl, by omega, HS2, HB2⟩
     case measure => simp [intOf]; omega
    ·
     have HR : Hid (res = false) := hnr hb1 hle
     unfold leT at hle
     clear hno hnr hst hint hsh hrr hb1 hin hb HS
     go_wp2_with fail
     refine Calls.mono HC.out ?_
     rintro e w1 ⟨rfl, hb1⟩
     obtain ⟨r0, _, _, _⟩ := zdW hb1 (by omega) hR
     have HB2 : Hid (Below w.heap.size w w1) := HBY.out.trans (hb1.mono HBY.out.size)
     clear hb1
     go_wp2
     go_ret
     exact ⟨by rw [HR.out]; rfl, HB2.out⟩
  ·
   obtain rfl : k = n := by omega
   have HR : Hid (res = true) := HAll.out z HS.out HL.out
   go_wp2
   go_ret
   exact ⟨by rw [HR.out]; rfl, HB.out⟩
theorem zkM {l : List (List UInt8)} {x : List UInt8} (h : ∀ i, i < l.length → l.getD i [] ≠ x) : ¬ x ∈ l := fun hm => by
 obtain ⟨i, hi, e⟩ := List.mem_iff_getElem.1 hm
 exact h i hi (by simp [List.getD, hi, e])
set_option maxHeartbeats 1000000 in
set_option maxRecDepth 100000 in
theorem indexStr (a : Option Addr) (n c : Nat) (l : List (List UInt8)) (x : List UInt8) (w : World) (hin : zae w a n l) (hn : n ≤ 1048576) :
 Calls Tryz.prog 132 #[.slice a n c, .string ⟨x.toArray⟩] w fun e w' => ∃ y : Int, e = .returned (.int .i64 y) ∧ Hid (0 ≤ y ↔ x ∈ l) ∧ w' = w := by
 obtain rfl : l.length = n := hin.1
 have HI : Hid (zae w a l.length l) := hin
 clear hin
 go_enter Tryz.func132, Tryz.ntmps132
 go_wp2
 go_loopw [8] (fun iv wr => ∃ k : Nat, iv = .int .i64 (k : Int) ∧ k ≤ l.length ∧ Hid (∀ i, i < k → l.getD i [] ≠ x) ∧ wr = w) (fun iv _ => l.length - (intOf iv).toNat)
 case atStart => exact ⟨0, rfl, by omega, (fun i hi => by omega), rfl⟩
 case round =>
  obtain ⟨k, rfl, hk, HA, hwr⟩ := hrel
  obtain rfl := hwr.symm
  by_cases hlt : (k : Int) < (l.length : Int)
  ·
   have hk2 : k < l.length := by omega
   obtain ⟨b, off, rfl, hbl, c0⟩ := HI.out.2 k hk2
   have hmem : l.getD k [] ∈ l := by simp [List.getD, hk2]
   obtain ⟨y, hy⟩ : ∃ y, l.getD k [] = y := ⟨_, rfl⟩
   rw [hy] at c0 hmem
   by_cases hxy : x = y
   ·
    subst hxy
    have HM : Hid (0 ≤ (k : Int) ↔ x ∈ l) := ⟨fun _ => hmem, fun _ => by omega⟩
    have hself : (x == x) = true := by simp
    clear HA hy hmem
    go_wp2
    go_ret
    exact ⟨_, rfl, HM, rfl⟩
   ·
    have HA2 : Hid (∀ i, i < k + 1 → l.getD i [] ≠ x) := fun i hi => by
     rcases Nat.lt_or_ge i k with h | h
     ·
      exact HA.out i h
     ·
      obtain rfl : i = k := by omega
      rw [hy]; exact fun e => hxy e.symm
    have hne : (x == y) = false := beq_eq_false_iff_ne.2 hxy
    clear HA hy hmem
    go_wp2
    go_roundw
    case rel => exact ⟨k + 1, by go_num, by omega, HA2, trivial⟩
    case measure => simp [intOf]; omega
  ·
   have HM : Hid (0 ≤ (-1 : Int) ↔ x ∈ l) := ⟨fun h => by omega, fun h => absurd h (zkM (fun i hi => HA.out i (by omega)))⟩
   go_wp2
   go_ret
   exact ⟨_, rfl, HM, rfl⟩
theorem zi6 (a : Option Addr) (n c : Nat) (l : List (List UInt8)) (x : List UInt8) (w : World) (hin : zae w a n l) (hn : n ≤ 1048576) :
 Calls Tryz.prog 89 #[.slice a n c, .string ⟨x.toArray⟩] w fun e w' => e = .returned (.bool (decide (x ∈ l))) ∧ w' = w := by
 have hI := indexStr a n c l x w hin hn
 go_enter Tryz.func89, Tryz.ntmps89
 go_wp2_with fail
 refine hI.mono ?_
 rintro e w1 ⟨y, rfl, HM, hw⟩
 obtain rfl := hw.symm
 clear hI
 go_wp2
 go_ret
 exact ⟨by rw [decide_eq_decide.2 HM.out.symm]; rfl, rfl⟩
set_option maxHeartbeats 1000000 in
set_option maxRecDepth 100000 in
theorem zdy (s : List UInt8) (w : World) (hl : s.length ≤ 1048576) :
 Calls Tryz.prog 52 #[.string ⟨s.toArray⟩] w fun e w' => e = .returned (.string ⟨(cutA 46 s).toArray⟩) ∧ Below w.heap.size w w' := by
 have HC : Hid (_) := ziQ s 46 w hl
 generalize cutA 46 s = x at HC ⊢
 generalize cutB 46 s = y at HC
 go_enter Tryz.func52, Tryz.ntmps52
 go_wp2_with fail
 refine Calls.mono HC.out ?_
 rintro e w1 ⟨g, rfl, hb1⟩
 go_wp2
 go_ret
 exact ⟨rfl, hb1⟩
set_option maxHeartbeats 4000000 in
set_option maxRecDepth 100000 in
theorem zgw (nm : List UInt8) (ia : Option Addr) (il ic : Nat) (fv : Value) (ims : List (List UInt8)) (ca : Option Addr) (cl cc : Nat) (is : List In13) (w : World) (hi : zae w ia il ims) (hil : il ≤ 1048576) (hin : zbD w ca cl is) (hsh : zcA is) (hcl : cl ≤ 1048576) :
 Calls Tryz.prog 53 #[.agg #[.string ⟨nm.toArray⟩, .slice ia il ic, fv], .slice ca cl cc] w fun e w' => e = .returned (.bool (is.all (zbw nm ims))) ∧ Below w.heap.size w w' := by
 obtain rfl : is.length = cl := hin.1
 obtain ⟨W, hW⟩ : ∃ W, w.alloc (.cells #[.string ⟨nm.toArray⟩, .slice ia il ic, fv] 29) = W := ⟨_, rfl⟩
 have hbW : Below w.heap.size w W := by rw [← hW]; exact (Below.refl _ _).alloc (Nat.le_refl _) _
 have hA : W.heap[w.heap.size]? = some (.cells #[.string ⟨nm.toArray⟩, .slice ia il ic, fv] 29) := by rw [← hW]; exact heap_alloc_new w _
 obtain ⟨D, hD⟩ : ∃ D, w.heap.size = D := ⟨_, rfl⟩
 rw [hD] at hA
 have hDl : D < W.heap.size := lt_of_block hA
 have HK : Hid (∀ Z, Below W.heap.size W Z → Z.cell? ⟨D, 0, none⟩ = some (.string ⟨nm.toArray⟩) ∧ Z.cell? ⟨D, 1, none⟩ = some (.slice ia il ic)) := fun Z hz => ⟨(hz.cell (p := ⟨D, 0, none⟩) hDl).trans (by simp [World.cell?, hA]), (hz.cell (p := ⟨D, 1, none⟩) hDl).trans (by simp [World.cell?, hA])⟩
 have HI : Hid (∀ Z, Below W.heap.size W Z → zbD Z ca is.length is) := fun Z hz => (hin.below hbW).below hz
 have HT : Hid (∀ Z, Below W.heap.size W Z → zae Z ia il ims) := fun Z hz => (hi.below hbW).below hz
 have HS : Hid (zcA is) := hsh
 have HB0 : Hid (Below w.heap.size w W) := hbW
 have HAll : Hid ((∀ k, k < is.length → zbw nm ims (is.getD k in0) = true) → is.all (zbw nm ims) = true) := zix
 have HNo : Hid (∀ k, k < is.length → zbw nm ims (is.getD k in0) = false → is.all (zbw nm ims) = false) := fun k hk h => zkV hk h
 obtain ⟨m, hm⟩ : ∃ m, is.length = m := ⟨_, rfl⟩
 rw [hm] at HI HAll HNo hcl ⊢
 generalize is.all (zbw nm ims) = res at HAll HNo ⊢
 clear hin hm hi hsh hA hbW
 go_enter Tryz.func53, Tryz.ntmps53
 go_wp2
 go_loopw [10] (fun iv wr => ∃ k : Nat, iv = .int .i64 (k : Int) ∧ k ≤ m ∧ Hid (∀ j, j < k → zbw nm ims (is.getD j in0) = true) ∧ Hid (Below W.heap.size W wr)) (fun iv _ => m - (intOf iv).toNat)
 case atStart => exact ⟨0, rfl, Nat.zero_le _, (fun j hj => absurd hj (Nat.not_lt_zero _)), Below.refl _ _⟩
 case round =>
  obtain ⟨k, rfl, hk, HA, HB⟩ := hrel
  by_cases hlt : (k : Int) < (m : Int)
  ·
   obtain ⟨b, off, rfl, hbl, c0, c1, c2, c3, c4⟩ := (HI.out _ HB.out).2 k (by omega)
   have hno := HNo.out k (by omega)
   have hst : zbw nm ims (is.getD k in0) = true → ∀ j, j < k + 1 → zbw nm ims (is.getD j in0) = true := fun h j hj => by
    rcases Nat.lt_or_ge j k with g | g
    ·
     exact HA.out j g
    ·
     obtain rfl : j = k := by omega
     exact h
   have hsk := HS.out k
   obtain ⟨i, hi⟩ : ∃ i, is.getD k in0 = i := ⟨_, rfl⟩
   rw [hi] at c0 c1 c2 c3 c4 hno hst hsk
   obtain ⟨ik, iR, iA, iB, inm⟩ := i
   simp only at c0 c1 c2 c3 c4 hsk
   obtain ⟨Y, hY⟩ : ∃ Y, wr.alloc (.cells #[.int .i64 ik, .int .i64 iR, .int .i64 iA, .int .i64 iB, .string ⟨inm.toArray⟩] 88) = Y := ⟨_, rfl⟩
   have hb : Below wr.heap.size wr Y := by rw [← hY]; exact (Below.refl _ _).alloc (Nat.le_refl _) _
   have hsY : Y.heap.size = wr.heap.size + 1 := by rw [← hY]; simp
   have hR : Y.heap[wr.heap.size]? = some (.cells #[.int .i64 ik, .int .i64 iR, .int .i64 iA, .int .i64 iB, .string ⟨inm.toArray⟩] 88) := by rw [← hY]; exact heap_alloc_new wr _
   have HBY : Hid (Below W.heap.size W Y) := HB.out.trans (hb.mono HB.out.size)
   have hcls : zbw nm ims (ik, iR, iA, iB, inm) = (decide (ik ≠ 9) || (decide (cutA 46 inm = nm) || decide (cutA 46 inm ∈ ims))) := rfl
   rw [hcls] at hno hst
   have y0 : Y.cell? ⟨wr.heap.size, 0, none⟩ = some (.int .i64 ik) := by rw [cell_of_row _ _ _ _ _ _ hR]; rfl
   have y4 : Y.cell? ⟨wr.heap.size, 4, none⟩ = some (.string ⟨inm.toArray⟩) := by rw [cell_of_row _ _ _ _ _ _ hR]; rfl
   obtain ⟨E, hE⟩ : ∃ E, wr.heap.size = E := ⟨_, rfl⟩
   rw [hE] at hR hsY y0 y4
   by_cases h9 : ik = 9
   ·
    subst h9
    have HC : Hid (_) := zdy inm Y hsk
    obtain ⟨x, hx⟩ : ∃ x, cutA 46 inm = x := ⟨_, rfl⟩
    rw [hx] at hno hst HC
    have HQ : Hid ((x = nm ∨ x ∈ ims → ∀ j, j < k + 1 → zbw nm ims (is.getD j in0) = true) ∧ (¬ (x = nm ∨ x ∈ ims) → res = false)) :=
     ⟨fun e => hst (by rcases e with e | e <;> simp [e]), fun e => hno (by simp only [not_or] at e; simp [e.1, e.2])⟩
    clear hno hst hi hcls HA hb hsk hx
    go_wp2_with fail
    refine Calls.mono HC.out ?_
    rintro e w1 ⟨rfl, hb1⟩
    have HB1 : Hid (Below W.heap.size W w1) := HBY.out.trans (hb1.mono HBY.out.size)
    obtain ⟨d0, d1⟩ := HK.out _ HB1.out
    clear hb1
    by_cases he : x = nm
    ·
     subst he
     have HS2 : Hid (∀ j, j < k + 1 → zbw x ims (is.getD j in0) = true) := HQ.out.1 (Or.inl rfl)
     have heb : (x != x) = false := by simp
     have heb2 : (x == x) = true := by simp
     clear HQ
     go_wp2
     go_roundw
     case rel => exact ⟨k + 1, by go_num, by omega, HS2, HB1⟩
     case measure => simp [intOf]; omega
    ·
     have heb : (x != nm) = true := bne_iff_ne.2 he
     have heb2 : (x == nm) = false := beq_eq_false_iff_ne.2 he
     have HCt : Hid (_) := zi6 ia il ic ims x w1 (HT.out _ HB1.out) hil
     have HQ2 : Hid ((x ∈ ims → ∀ j, j < k + 1 → zbw nm ims (is.getD j in0) = true) ∧ (¬ x ∈ ims → res = false)) := ⟨fun e => HQ.out.1 (Or.inr e), fun e => HQ.out.2 (fun g => by rcases g with g | g; exact he g; exact e g)⟩
     by_cases hm : x ∈ ims
     ·
      have HS2 := HQ2.out.1 hm
      rw [decide_eq_true hm] at HCt
      have HS2h : Hid (∀ j, j < k + 1 → zbw nm ims (is.getD j in0) = true) := HS2
      clear HQ HQ2 hm HS2 he
      go_wp2_with fail
      refine Calls.mono HCt.out ?_
      rintro e w2 ⟨rfl, hw2⟩
      obtain rfl := hw2.symm
      go_wp2
      go_roundw
      case rel => exact ⟨k + 1, by go_num, by omega, HS2h, HB1⟩
      case measure => simp [intOf]; omega
     ·
      have HR : Hid (res = false) := HQ2.out.2 hm
      rw [decide_eq_false hm] at HCt
      clear HQ HQ2 hm he
      go_wp2_with fail
      refine Calls.mono HCt.out ?_
      rintro e w2 ⟨rfl, hw2⟩
      obtain rfl := hw2.symm
      go_wp2
      go_ret
      exact ⟨by rw [HR.out]; rfl, hD ▸ HB0.out.trans (HB1.out.mono HB0.out.size)⟩
   ·
    have HS2 : Hid (∀ j, j < k + 1 → zbw nm ims (is.getD j in0) = true) := hst (by simp [h9])
    have hne : (ik != 9) = true := bne_iff_ne.2 h9
    clear hno hst hi hcls HA hb
    go_wp2
    go_roundw
    case rel => exact ⟨k + 1, by go_num, by omega, HS2, HBY⟩
    case measure => simp [intOf]; omega
  ·
   obtain rfl : k = m := by omega
   have HR : Hid (res = true) := HAll.out HA.out
   go_wp2
   go_ret
   exact ⟨by rw [HR.out]; rfl, hD ▸ HB0.out.trans (HB.out.mono HB0.out.size)⟩
set_option maxHeartbeats 4000000 in
set_option maxRecDepth 100000 in
theorem zh9 (nm : List UInt8) (ia : Option Addr) (il ic : Nat) (fa : Option Addr) (fl fc : Nat) (ims : List (List UInt8)) (rs : List Rt) (w : World) (h : ObOk w nm ia il ic fa fl fc ims rs) :
 Calls Tryz.prog 22 #[.agg #[.string ⟨nm.toArray⟩, .slice ia il ic, .slice fa fl fc]] w fun e w' => e = .returned (.bool (objB (nm, ims, rs))) ∧ Below w.heap.size w w' := by
 obtain rfl : ims.length = il := h.i.1
 obtain rfl : rs.length = fl := h.r.c.1
 obtain ⟨W, hW⟩ : ∃ W, w.alloc (.cells #[.string ⟨nm.toArray⟩, .slice ia ims.length ic, .slice fa rs.length fc] 29) = W := ⟨_, rfl⟩
 have hb : Below w.heap.size w W := by rw [← hW]; exact (Below.refl _ _).alloc (Nat.le_refl _) _
 have hsW : W.heap.size = w.heap.size + 1 := by rw [← hW]; simp
 have hA : W.heap[w.heap.size]? = some (.cells #[.string ⟨nm.toArray⟩, .slice ia ims.length ic, .slice fa rs.length fc] 29) := by rw [← hW]; exact heap_alloc_new w _
 obtain ⟨D, hD⟩ : ∃ D, w.heap.size = D := ⟨_, rfl⟩
 rw [hD] at hA hsW
 have hDl : D < W.heap.size := lt_of_block hA
 have HK : Hid (∀ Z, Below W.heap.size W Z → Z.cell? ⟨D, 0, none⟩ = some (.string ⟨nm.toArray⟩) ∧ Z.cell? ⟨D, 1, none⟩ = some (.slice ia ims.length ic) ∧ Z.cell? ⟨D, 2, none⟩ = some (.slice fa rs.length fc)) := fun Z hz => ⟨(hz.cell (p := ⟨D, 0, none⟩) hDl).trans (by simp [World.cell?, hA]), (hz.cell (p := ⟨D, 1, none⟩) hDl).trans (by simp [World.cell?, hA]), (hz.cell (p := ⟨D, 2, none⟩) hDl).trans (by simp [World.cell?, hA])⟩
 have HO : Hid (∀ Z, Below W.heap.size W Z → ObOk Z nm ia ims.length ic fa rs.length fc ims rs) := fun Z hz => (h.below hb).below hz
 have HC1 : Hid (_) := zdR nm W h.nm
 have HC2 : Hid (∀ Z, Below W.heap.size W Z → _) := fun Z (hz : Below W.heap.size W Z) => zdz ia ims.length ic ims Z (HO.out Z hz).i h.il h.is
 have HC3 : Hid (∀ Z, Below W.heap.size W Z → _) := fun Z (hz : Below W.heap.size W Z) => zfx fa rs.length fc rs 8 Z (HO.out Z hz).r
 have HBW : Hid (Below w.heap.size w W) := hb
 have HSh : Hid (zcQ rs) := h.r.s
 have hlen := h.r.l
 have hil := h.il
 have HN1 : Hid (zak nm = false → objB (nm, ims, rs) = false) := fun e => ziu (o := (nm, ims, rs)) e
 have HN2 : Hid (zal ims = false → objB (nm, ims, rs) = false) := fun e => ziv (o := (nm, ims, rs)) e
 have HN3 : Hid (rtsB rs 8 = false → objB (nm, ims, rs) = false) := fun e => objI_rts (o := (nm, ims, rs)) e
 have HYes : Hid (zak nm = true → zal ims = true → rtsB rs 8 = true → (∀ j, j < rs.length → zem (nm, ims, rs) j) → objB (nm, ims, rs) = true) := fun e1 e2 e3 e4 => objI_yes (o := (nm, ims, rs)) e1 e2 e3 e4
 have HNo : Hid (∀ j, j < rs.length → ¬ zem (nm, ims, rs) j → objB (nm, ims, rs) = false) := fun j hj e => objI_no (o := (nm, ims, rs)) hj e
 obtain ⟨n, hnn⟩ : ∃ n, rs.length = n := ⟨_, rfl⟩
 obtain ⟨q, hqq⟩ : ∃ q, ims.length = q := ⟨_, rfl⟩
 rw [hnn] at HK HO HC3 HYes HNo hlen hA hW ⊢
 rw [hqq] at HK HO HC2 hil hA hW ⊢
 generalize objB (nm, ims, rs) = res at HN1 HN2 HN3 HYes HNo ⊢
 generalize zak nm = b1 at HN1 HYes HC1
 generalize zal ims = b2 at HN2 HYes HC2
 generalize rtsB rs 8 = b3 at HN3 HYes HC3
 obtain ⟨k0, k1, k2⟩ := HK.out W (Below.refl _ _)
 clear h hb hnn hqq hA
 go_enter Tryz.func22, Tryz.ntmps22
 go_wp2_with fail
 refine Calls.mono HC1.out ?_
 rintro e w1 ⟨rfl, hb1⟩
 replace k0 := (HK.out _ hb1).1
 replace k1 := (HK.out _ hb1).2.1
 replace k2 := (HK.out _ hb1).2.2
 rcases b1 with _ | _
 ·
  have HR : Hid (res = false) := HN1.out rfl
  go_wp2
  go_ret
  exact ⟨by rw [HR.out]; rfl, hD ▸ HBW.out.trans (hb1.mono HBW.out.size)⟩
 go_wp2_with fail
 refine Calls.mono (HC2.out _ hb1) ?_
 rintro e w2 ⟨rfl, hw2⟩
 obtain rfl := hw2.symm
 rcases b2 with _ | _
 ·
  have HR : Hid (res = false) := HN2.out rfl
  go_wp2
  go_ret
  exact ⟨by rw [HR.out]; rfl, hD ▸ HBW.out.trans (hb1.mono HBW.out.size)⟩
 go_wp2_with fail
 refine Calls.mono (HC3.out _ hb1) ?_
 rintro e w3 ⟨rfl, hb3⟩
 have HB3 : Hid (Below W.heap.size W w3) := hb1.trans (hb3.mono hb1.size)
 replace k0 := (HK.out _ HB3.out).1
 replace k1 := (HK.out _ HB3.out).2.1
 replace k2 := (HK.out _ HB3.out).2.2
 clear hb1 hb3
 rcases b3 with _ | _
 ·
  have HR : Hid (res = false) := HN3.out rfl
  go_wp2
  go_ret
  exact ⟨by rw [HR.out]; rfl, hD ▸ HBW.out.trans (HB3.out.mono HBW.out.size)⟩
 have HY2 : Hid ((∀ j, j < n → zem (nm, ims, rs) j) → res = true) := HYes.out (by trivial) (by trivial) (by trivial)
 clear HYes HN1 HN2 HN3 HC1 HC2 HC3
 go_wp2
 go_loopw [24] (fun iv wr => ∃ k : Nat, iv = .int .i64 (k : Int) ∧ k ≤ n ∧ Hid (∀ j, j < k → zem (nm, ims, rs) j) ∧ Hid (Below W.heap.size W wr)) (fun iv _ => n - (intOf iv).toNat)
 case atStart => exact ⟨0, rfl, Nat.zero_le _, (fun j hj => absurd hj (Nat.not_lt_zero _)), HB3⟩
 case round =>
  obtain ⟨k, rfl, hk, HA, HB⟩ := hrel
  clear HB3 k0 k1 k2
  obtain ⟨k0, k1, k2⟩ := HK.out _ HB.out
  by_cases hlt : (k : Int) < (n : Int)
  ·
   have ho := HO.out _ HB.out
   obtain ⟨b, off, rfl, hbl, c0, c1, ca, cl, cc, c2, hin, hcc, hcm⟩ := ho.r.c.2.2.2 k (by omega)
   have hti := ho.i
   have hno := HNo.out k (by omega)
   have hsh := HSh.out k
   have hst : zem (nm, ims, rs) k → ∀ j, j < k + 1 → zem (nm, ims, rs) j := fun h j hj => by
    rcases Nat.lt_or_ge j k with g | g
    ·
     exact HA.out j g
    ·
     obtain rfl : j = k := by omega
     exact h
   have htw : zem (nm, ims, rs) k = (cutA 46 (rs.getD k rt0).1 = nm ∧ (rs.getD k rt0).2.2.all (zbw nm ims) = true) := rfl
   rw [htw] at hno hst
   obtain ⟨r, hrr⟩ : ∃ r, rs.getD k rt0 = r := ⟨_, rfl⟩
   rw [hrr] at c0 c1 hin hno hsh hst
   obtain ⟨rn, ar, cd⟩ := r
   simp only at c0 c1 hin hno hsh hst
   obtain ⟨Y, hY⟩ : ∃ Y, wr.alloc (.cells #[.string ⟨rn.toArray⟩, .int .i64 ar, .slice ca cl cc] 51) = Y := ⟨_, rfl⟩
   have hbY : Below wr.heap.size wr Y := by rw [← hY]; exact (Below.refl _ _).alloc (Nat.le_refl _) _
   have hRY : Y.heap[wr.heap.size]? = some (.cells #[.string ⟨rn.toArray⟩, .int .i64 ar, .slice ca cl cc] 51) := by rw [← hY]; exact heap_alloc_new wr _
   have hsY : Y.heap.size = wr.heap.size + 1 := by rw [← hY]; simp
   have HBY : Hid (Below W.heap.size W Y) := HB.out.trans (hbY.mono HB.out.size)
   obtain ⟨E, hE⟩ : ∃ E, wr.heap.size = E := ⟨_, rfl⟩
   rw [hE] at hRY hsY
   have hEl : E < Y.heap.size := by omega
   have HE : Hid (∀ Z, Below Y.heap.size Y Z → Z.cell? ⟨E, 0, none⟩ = some (.string ⟨rn.toArray⟩) ∧ Z.cell? ⟨E, 2, none⟩ = some (.slice ca cl cc)) := fun Z hz => ⟨(hz.cell (p := ⟨E, 0, none⟩) hEl).trans (by simp [World.cell?, hRY]), (hz.cell (p := ⟨E, 2, none⟩) hEl).trans (by simp [World.cell?, hRY])⟩
   have HP : Hid (∀ Z, Below Y.heap.size Y Z → Calls Tryz.prog 52 #[.string ⟨rn.toArray⟩] Z fun e w' => e = .returned (.string ⟨(cutA 46 rn).toArray⟩) ∧ Below Z.heap.size Z w') := fun Z _ => zdy rn Z hsh.1
   have HCn : Hid (∀ Z, Below Y.heap.size Y Z → Calls Tryz.prog 53 #[.agg #[.string ⟨nm.toArray⟩, .slice ia q ic, .slice (some ⟨b, off, none⟩) n fc], .slice ca cl cc] Z fun e w' => e = .returned (.bool (cd.all (zbw nm ims))) ∧ Below Z.heap.size Z w') := fun Z hz => zgw nm ia q ic (.slice (some ⟨b, off, none⟩) n fc) ims ca cl cc cd Z ((hti.below hbY).below hz) hil ((hin.below hbY).below hz) hsh.2.2 (by rw [← hin.1]; exact hsh.2.1)
   obtain ⟨y0, y2⟩ := HE.out Y (Below.refl _ _)
   obtain ⟨d0, d1, d2⟩ := HK.out _ HBY.out
   obtain ⟨x, hx⟩ : ∃ x, cutA 46 rn = x := ⟨_, rfl⟩
   rw [hx] at hno hst HP
   generalize cd.all (zbw nm ims) = b4 at hno hst HCn
   have HNo2 : Hid (¬ (x = nm ∧ b4 = true) → res = false) := hno
   have HSt2 : Hid (x = nm ∧ b4 = true → ∀ j, j < k + 1 → zem (nm, ims, rs) j) := hst
   have hV : Below Y.heap.size Y Y := Below.refl _ _
   clear hrr hsh hin ho hti hbY hRY hno hst htw hx HA HB k0 k1 k2
   by_cases he : x = nm
   ·
    subst he
    have heb : (x != x) = false := by simp
    have heb2 : (x == x) = true := by simp
    rcases b4 with _ | _
    ·
     have HR : Hid (res = false) := HNo2.out (fun e => by cases e.2)
     go_wp2_with fail
     replace hV := hV.drew
     go_region_held3 (fun w' => w'.cell? ⟨E, 0, none⟩ = some (.string ⟨rn.toArray⟩) ∧ w'.cell? ⟨E, 2, none⟩ = some (.slice ca cl cc) ∧ w'.cell? ⟨D, 0, none⟩ = some (.string ⟨x.toArray⟩) ∧ w'.cell? ⟨D, 1, none⟩ = some (.slice ia q ic) ∧ w'.cell? ⟨D, 2, none⟩ = some (.slice (some ⟨b, off, none⟩) n fc)) (go_keep) (first
      | (go_at_call 52; refine Calls.mono (HP.out _ hV) ?_; rintro e wn ⟨rfl, hbn⟩; replace hV := hV.trans (hbn.mono hV.size); clear hbn; replace y0 := (HE.out _ hV).1; replace y2 := (HE.out _ hV).2; replace d0 := (HK.out _ (HBY.out.trans (hV.mono HBY.out.size))).1; replace d1 := (HK.out _ (HBY.out.trans (hV.mono HBY.out.size))).2.1; replace d2 := (HK.out _ (HBY.out.trans (hV.mono HBY.out.size))).2.2)
      | (go_at_call 53; refine Calls.mono (HCn.out _ hV) ?_; rintro e wn ⟨rfl, hbn⟩; replace hV := hV.trans (hbn.mono hV.size); clear hbn; replace y0 := (HE.out _ hV).1; replace y2 := (HE.out _ hV).2; replace d0 := (HK.out _ (HBY.out.trans (hV.mono HBY.out.size))).1; replace d1 := (HK.out _ (HBY.out.trans (hV.mono HBY.out.size))).2.1; replace d2 := (HK.out _ (HBY.out.trans (hV.mono HBY.out.size))).2.2))
     all_goals
      go_wp2
      go_ret
      exact ⟨by rw [HR.out]; rfl, hD ▸ HBW.out.trans ((HBY.out.trans (hV.mono HBY.out.size)).mono HBW.out.size)⟩
    ·
     have HS : Hid (∀ j, j < k + 1 → zem (x, ims, rs) j) := HSt2.out ⟨rfl, rfl⟩
     go_wp2_with fail
     replace hV := hV.drew
     go_region_held3 (fun w' => w'.cell? ⟨E, 0, none⟩ = some (.string ⟨rn.toArray⟩) ∧ w'.cell? ⟨E, 2, none⟩ = some (.slice ca cl cc) ∧ w'.cell? ⟨D, 0, none⟩ = some (.string ⟨x.toArray⟩) ∧ w'.cell? ⟨D, 1, none⟩ = some (.slice ia q ic) ∧ w'.cell? ⟨D, 2, none⟩ = some (.slice (some ⟨b, off, none⟩) n fc)) (go_keep) (first
      | (go_at_call 52; refine Calls.mono (HP.out _ hV) ?_; rintro e wn ⟨rfl, hbn⟩; replace hV := hV.trans (hbn.mono hV.size); clear hbn; replace y0 := (HE.out _ hV).1; replace y2 := (HE.out _ hV).2; replace d0 := (HK.out _ (HBY.out.trans (hV.mono HBY.out.size))).1; replace d1 := (HK.out _ (HBY.out.trans (hV.mono HBY.out.size))).2.1; replace d2 := (HK.out _ (HBY.out.trans (hV.mono HBY.out.size))).2.2)
      | (go_at_call 53; refine Calls.mono (HCn.out _ hV) ?_; rintro e wn ⟨rfl, hbn⟩; replace hV := hV.trans (hbn.mono hV.size); clear hbn; replace y0 := (HE.out _ hV).1; replace y2 := (HE.out _ hV).2; replace d0 := (HK.out _ (HBY.out.trans (hV.mono HBY.out.size))).1; replace d1 := (HK.out _ (HBY.out.trans (hV.mono HBY.out.size))).2.1; replace d2 := (HK.out _ (HBY.out.trans (hV.mono HBY.out.size))).2.2))
     all_goals
      have HB5 : Hid (_) := HBY.out.trans (hV.mono HBY.out.size)
      go_wp2
      go_roundw
      case rel => exact ⟨k + 1, by go_num, by omega, HS, HB5⟩
      case measure => simp [intOf]; omega
   ·
    have heb : (x != nm) = true := bne_iff_ne.2 he
    have heb2 : (x == nm) = false := beq_eq_false_iff_ne.2 he
    have HR : Hid (res = false) := HNo2.out (fun e => he e.1)
    clear he hV
    go_wp2_with fail
    refine wp_region_held_drew (S := fun Z => Below Y.heap.size Y Z) (by kernel_rfl) (by exact ⟨rfl, rfl, rfl, Nat.le_refl _, fun _ _ => rfl⟩) (fun hHeld => ?_)
    refine tkO [(0, 28), (1, 29), (3, 31), (4, 32)] ?_
    repeat (refine tkY ?_ rfl (by rfl) ?_ ?_; rotate_left; (focus (intro wq hSw; obtain ⟨y0, y2⟩ := HE.out wq hSw; obtain ⟨d0, d1, d2⟩ := HK.out wq (HBY.out.trans (hSw.mono HBY.out.size)); clear hSw; first | (go_simp; done) | (go_simp; with_reducible rfl))); simp only [zP])
    refine tkZ ?_
    refine zR 2 rfl (fun K hK => ?_)
    go_simp
    refine Calls.mono (HP.out _ hHeld) ?_
    rintro e V1 ⟨rfl, hb1⟩
    dsimp only
    refine hK.out _ _ (by exact hHeld.trans (hb1.mono hHeld.size)) (fun hHeld => ?_)
    clear hK K
    (try simp only [zP])
    refine tkO [(5, 33), (6, 34), (7, 35), (8, 36), (9, 37), (10, 38), (11, 39), (12, 40)] ?_
    repeat ((first | (refine tkY ?_ rfl (by rfl) ?_ ?_; rotate_left; (focus (intro wq hSw; obtain ⟨y0, y2⟩ := HE.out wq hSw; obtain ⟨d0, d1, d2⟩ := HK.out wq (HBY.out.trans (hSw.mono HBY.out.size)); clear hSw; first | (go_simp; done) | (go_simp; with_reducible rfl)))) | refine tkN rfl (by rfl) ?_); simp only [zP])
    refine tkZ ?_
    have hV2 : Below Y.heap.size Y _ := hHeld
    refine wpAnyH_done (by kernel_rfl) ?_ _
    clear hHeld hb1
    go_wp2
    go_ret
    exact ⟨by rw [HR.out]; rfl, hD ▸ HBW.out.trans ((HBY.out.trans (hV2.mono HBY.out.size)).mono HBW.out.size)⟩
  ·
   obtain rfl : k = n := by omega
   have HR : Hid (res = true) := HY2.out HA.out
   go_wp2
   go_ret
   exact ⟨by rw [HR.out]; rfl, hD ▸ HBW.out.trans (HB.out.mono HBW.out.size)⟩

theorem zcf {α : Type} (l : List α) (d : α) {j : Nat} (hj : j < l.length) : l.getD j d ∈ l := by rw [List.getD_eq_getElem?_getD, List.getElem?_eq_getElem hj]; exact List.getElem_mem hj
theorem zcd {s : List UInt8} (h : zak s = true) : s.length ≤ 8 := (zcn h).1.2
theorem zkQ {n : Nd} (hn : zaD n = true) : IntN n ∧ (n.2.2.1.length ≤ 1048576 ∧ n.2.2.2.length ≤ 1048576) := by
 obtain ⟨k, a, p, f⟩ := n
 have hp := zaV.1 hn
 unfold zbC at hp
 unfold IntN
 simp only at hp ⊢
 rcases hp with ⟨rfl, ⟨h0, h1⟩, rfl, rfl⟩ | ⟨rfl, ⟨h0, h1⟩, rfl, rfl⟩ | ⟨hk, rfl, rfl, rfl⟩ | ⟨rfl, ⟨h0, h1⟩, hpn, hfn⟩
 ·
  exact ⟨⟨⟨by omega, by omega⟩, by omega, by omega⟩, by simp, by simp⟩
 ·
  exact ⟨⟨⟨by omega, by omega⟩, by omega, by omega⟩, by simp, by simp⟩
 ·
  exact ⟨⟨⟨by omega, by omega⟩, by omega, by omega⟩, by simp, by simp⟩
 ·
  have e1 := zcd hpn
  have e2 := zcd hfn
  exact ⟨⟨⟨by omega, by omega⟩, by omega, by omega⟩, by omega, by omega⟩
theorem zgG {t : List Nd} (h : zaI t = true) : IntT t ∧ zam t := by
 have key : ∀ j, IntN (t.getD j nd0) ∧ ((t.getD j nd0).2.2.1.length ≤ 1048576 ∧ (t.getD j nd0).2.2.2.length ≤ 1048576) := fun j => by
  by_cases hj : j < t.length
  ·
   exact zkQ (ziZ h _ (zcf t nd0 hj))
  ·
   rw [List.getD_eq_getElem?_getD, List.getElem?_eq_none (by omega)]; simp [nd0, IntN]
 exact ⟨fun j => (key j).1, fun j => (key j).2⟩
theorem zeR (p : Pk) {k : Nat} (hk : k < (zao p).2.2.length) : ((zao p).2.2.getD k fn0).1.length ≤ 8 ∧ (0 ≤ ((zao p).2.2.getD k fn0).2.1 ∧ ((zao p).2.2.getD k fn0).2.1 ≤ 3) ∧ zaI ((zao p).2.2.getD k fn0).2.2 = true := by
 unfold zao at hk ⊢
 split
 ·
  rename_i h
  rw [if_pos h] at hk
  rw [zeS] at hk
  have hq := h
  unfold pkgB at hq
  rw [Bool.and_eq_true] at hq
  have hf := ((of_decide_eq_true hq.2) k hk).1
  unfold zcW at hf
  simp only [Bool.and_eq_true] at hf
  rw [(zej p k).1, (zej p k).2]
  have hin := hf.2.1
  unfold inB at hin
  refine ⟨zcd hf.1, of_decide_eq_true hin, ?_⟩
  have hg : (zfB p).2.2.getD k fn0 = zbU (p.2.2.getD k fn0) := by
   unfold zfB
   simp only [List.getD_eq_getElem?_getD, List.getElem?_map, List.getElem?_eq_getElem hk]
   rfl
  rw [hg]
  exact (zei hf.2.2).1
 ·
  rename_i h
  rw [if_neg h] at hk
  simp at hk
theorem zhk (p : Pk) : ∀ i j, i < (zao p).2.2.length → j < (zao p).2.2.length → ((zao p).2.2.getD i fn0).1 = ((zao p).2.2.getD j fn0).1 → i = j := by
 unfold zao
 split
 ·
  rename_i h
  intro i j hi hj e
  rw [zeS] at hi hj
  rw [(zej p i).1, (zej p j).1] at e
  exact zkA h i j hi hj e
 ·
  intro i j hi
  simp at hi
theorem zeQ (p : Pk) : (zao p).1.length ≤ 8 := by
 unfold zao
 split
 ·
  rename_i h
  unfold pkgB at h
  simp only [Bool.and_eq_true] at h
  have := zcd h.1.1
  rw [foldP_1]
  omega
 ·
  simp
theorem zfT (p : Pk) : ∀ i, ((zao p).2.1.getD i []).length ≤ 8 := by
 unfold zao
 split
 ·
  rename_i h
  have hpp := zje h
  intro i
  rw [foldP_2]
  by_cases hi : i < p.2.1.length
  ·
   have hm := zcf p.2.1 [] hi
   have := zcd (hpp.2.1 _ hm)
   omega
  ·
   rw [List.getD_eq_getElem?_getD, List.getElem?_eq_none (by omega)]; simp
 ·
  intro i; simp
theorem code_ok {c : List In13} (hc : zbV c = true) : zia c ∧ zcA c := by
 have ci : ∀ k, IntI (c.getD k in0) ∧ (c.getD k in0).2.2.2.2.length ≤ 1048576 := fun k => by
  by_cases hk : k < c.length
  ·
   have hm : c.getD k in0 ∈ c := zcf c in0 hk
   have hp := zm2 hc _ hm
   have hw := zdP hp
   refine ⟨by unfold IntI; omega, ?_⟩
   have hl := zle hp
   unfold insLn at hl
   simp only [List.length_append, List.length_singleton] at hl
   have hn : (c.getD k in0).2.2.2.2.length ≤ (nmL (c.getD k in0).2.2.2.2).length := by
    unfold nmL
    split
    ·
     rename_i hz; rw [hz]; simp
    ·
     exact Nat.le_refl _
   omega
  ·
   rw [List.getD_eq_getElem?_getD, List.getElem?_eq_none (by omega)]
   exact ⟨ziE, by simp [in0]⟩
 exact ⟨fun k => (ci k).1, fun k => (ci k).2⟩
theorem rtF_ok {nm : List UInt8} {f : Fn} (hn : nm.length ≤ 9) (hf : f.1.length ≤ 9) (ha : 0 ≤ f.2.1 ∧ f.2.1 ≤ 3) (ht : zaI f.2.2 = true) :
 ((-9223372036854775808 ≤ (rtF nm f).2.1 ∧ (rtF nm f).2.1 ≤ 9223372036854775807) ∧ zia (rtF nm f).2.2) ∧ ((rtF nm f).1.length ≤ 1048576 ∧ (rtF nm f).2.2.length ≤ 1048576 ∧ zcA (rtF nm f).2.2) := by
 have hc := zc4 ht
 have hk := code_ok hc.1
 refine ⟨⟨by show -9223372036854775808 ≤ f.2.1 ∧ f.2.1 ≤ 9223372036854775807; omega, hk.1⟩, ?_, ?_, hk.2⟩
 ·
  show (nm ++ [46] ++ f.1).length ≤ 1048576
  simp; omega
 ·
  show (za9 f.2.2).length ≤ 1048576
  have := hc.2.2.1
  omega
theorem zin {rs : List Rt} (key : ∀ r ∈ rs, ((-9223372036854775808 ≤ r.2.1 ∧ r.2.1 ≤ 9223372036854775807) ∧ zia r.2.2) ∧ (r.1.length ≤ 1048576 ∧ r.2.2.length ≤ 1048576 ∧ zcA r.2.2)) : IntR rs ∧ zcQ rs := by
 have e : ∀ j, ¬ j < rs.length → rs.getD j rt0 = rt0 := fun j hj => by rw [List.getD_eq_getElem?_getD, List.getElem?_eq_none (by omega)]; rfl
 refine ⟨fun j => ?_, fun j => ?_⟩
 ·
  by_cases hj : j < rs.length
  ·
   exact (key _ (zcf rs rt0 hj)).1
  ·
   rw [e j hj]; exact ⟨by simp [rt0], zlb⟩
 ·
  by_cases hj : j < rs.length
  ·
   exact (key _ (zcf rs rt0 hj)).2
  ·
   rw [e j hj]; exact ⟨by simp [rt0], by simp [rt0], fun k => by simp [rt0, in0]⟩
theorem rtsF_ok (p : Pk) {rs : List Rt} (h : ∀ r ∈ rs, r ∈ (zao p).2.2.map (rtF (zao p).1)) : IntR rs ∧ zcQ rs := zin (fun r hr => by
 obtain ⟨f, hf, rfl⟩ := List.mem_map.1 (h r hr)
 obtain ⟨k, hk, rfl⟩ := List.mem_iff_getElem.1 hf
 have hg : (zao p).2.2.getD k fn0 = (zao p).2.2[k] := by rw [List.getD_eq_getElem?_getD, List.getElem?_eq_getElem hk]; rfl
 have h1 := zeR p hk
 rw [hg] at h1
 exact rtF_ok (Nat.le_trans (zeQ p) (by omega)) (Nat.le_trans h1.1 (by omega)) h1.2.1 h1.2.2)
structure Pg15 (nm : List UInt8) (ims : List (List UInt8)) (fs : List Fn) : Prop where
 fn : ∀ k, k < fs.length → (fs.getD k fn0).1.length ≤ 9 ∧ (0 ≤ (fs.getD k fn0).2.1 ∧ (fs.getD k fn0).2.1 ≤ 3) ∧ zaI (fs.getD k fn0).2.2 = true
 nm : nm.length ≤ 9
 fl : fs.length ≤ 8
 il : ims.length ≤ 9
 is : ∀ i, (ims.getD i []).length ≤ 9
theorem Pg15.rts {nm : List UInt8} {ims : List (List UInt8)} {fs : List Fn} (hp : Pg15 nm ims fs) {rs : List Rt} (h : ∀ r ∈ rs, r ∈ (fs.map zbU).map (rtF nm)) : IntR rs ∧ zcQ rs := zin (fun r hr => by
 obtain ⟨f, hf, rfl⟩ := List.mem_map.1 (h r hr)
 obtain ⟨g, hg, rfl⟩ := List.mem_map.1 hf
 obtain ⟨k, hk, rfl⟩ := List.mem_iff_getElem.1 hg
 have hgd : fs.getD k fn0 = fs[k] := by rw [List.getD_eq_getElem?_getD, List.getElem?_eq_getElem hk]; rfl
 have h1 := hp.fn k hk
 rw [hgd] at h1
 exact rtF_ok hp.nm h1.1 h1.2.1 (zei h1.2.2).1)
theorem Pg15.of_pkg {nm : List UInt8} {ims : List (List UInt8)} {fs : List Fn} (hp : pkgB (nm, ims, fs) = true) : Pg15 nm ims fs := by
 have hpk : zao (nm, ims, fs) = (nm, ims, fs.map zbU) := by unfold zao; rw [if_pos hp]; rfl
 refine ⟨fun k hk => ?_, ?_, ?_, ?_, fun i => ?_⟩
 ·
  have hq := hp
  unfold pkgB at hq
  rw [Bool.and_eq_true] at hq
  have hf := ((of_decide_eq_true hq.2) k hk).1
  unfold zcW at hf
  simp only [Bool.and_eq_true] at hf
  have hin := hf.2.1
  unfold inB at hin
  exact ⟨Nat.le_trans (zcd hf.1) (by omega), of_decide_eq_true hin, hf.2.2⟩
 ·
  have := zeQ (nm, ims, fs); rw [hpk] at this; exact Nat.le_trans this (by omega)
 ·
  have := (zc3 (nm, ims, fs)).2.1; rw [hpk] at this; simpa using this
 ·
  have := (zc3 (nm, ims, fs)).1; rw [hpk] at this; exact Nat.le_trans this (by omega)
 ·
  have := zfT (nm, ims, fs) i; rw [hpk] at this; exact Nat.le_trans this (by omega)
section
open Go.RowKit Go.Shelf
set_option maxHeartbeats 1000000 in
set_option maxRecDepth 100000 in
theorem zhY (w : World) :
 Calls Tryz.prog 21 #[.slice none 0 0] w fun e w' => e = .returned (.tuple #[]) ∧ w' = w := by
 have HC : Calls Tryz.prog 46 #[.slice none 0 0, .func (.func 47) #[] #[]] w fun e w' => e = .returned (.tuple #[]) ∧ w' = w := AnyF.slices_SortFunc_none Tryz.laidSortF none 0 _ w
 go_enter Tryz.func21, Tryz.ntmps21
 go_wp2_with fail
 refine Calls.mono HC ?_
 rintro e w' ⟨rfl, rfl⟩
 go_wp2
 go_end0
 exact ⟨rfl, rfl⟩
end
theorem zbm.perm {xs ys : List RV} (h : zbm (xs.map rvT)) (hp : ys.Perm xs) : zbm (ys.map rvT) := by
 refine (List.Perm.pairwise_iff (fun {a b} hab => ?_) (hp.map rvT)).2 h
 rcases ha : Value.ownBlock a with _ | p
 ·
  rcases hb : Value.ownBlock b with _ | q
  ·
   exact Or.inl rfl
  ·
   exact Or.inr (by simp)
 ·
  rcases hab with hab | hab
  ·
   rw [ha] at hab; cases hab
  ·
   rw [ha] at hab; exact Or.inr (fun e => hab e.symm)
end Go.Proofs.YtkpdoedpkncboaaGreat
