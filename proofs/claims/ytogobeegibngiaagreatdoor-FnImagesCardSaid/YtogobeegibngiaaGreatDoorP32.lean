/-
  Parts of one proof, one behind the other: StepD, ImgB, ImgC.
-/
import Derived.Test.YtogobeegibngiaaGreatDoorP31
import Derived.Test.YtogobeegibngiaaGreatDoorP7
import Derived.Test.YtogobeegibngiaaGreatDoorP27
import Derived.Deep.RegionHeld3

/-! Contracts of chapter 13's landed code: insOkIn at every instruction; InsOk, CodeOk. -/
namespace Go.Proofs.YtogobeegibngiaaGreatDoor
open Go.RowKit

theorem ok_eq1 (R A B : Int) (nm : List UInt8) (n : Nat) (_hn : n ≤ 200) : (decide (tlRA (1, R, A, B, nm) = (1, R, A, B, nm)) && regB (rsR (1, R, A, B, nm)) && rqW (1, R, A, B, nm) (n : Int)) = decide (insAt n (1, R, A, B, nm)) := by
  rw [Bool.eq_iff_iff]
  unfold tlRA rsR rqW insAt insP regB inB
  simp only [List.all_cons, List.all_nil, Bool.and_true, Bool.and_eq_true, decide_eq_true_eq, Prod.mk.injEq]
  grind
theorem ok_eq2 (R A B : Int) (nm : List UInt8) (n : Nat) (_hn : n ≤ 200) : (decide (tlRA (2, R, A, B, nm) = (2, R, A, B, nm)) && regB (rsR (2, R, A, B, nm)) && rqA (2, R, A, B, nm) (n : Int)) = decide (insAt n (2, R, A, B, nm)) := by
  rw [Bool.eq_iff_iff]
  unfold tlRA rsR rqA insAt insP regB inB
  simp only [List.all_cons, List.all_nil, Bool.and_true, Bool.and_eq_true, decide_eq_true_eq, Prod.mk.injEq]
  grind
theorem ok_eq3 (R A B : Int) (nm : List UInt8) (n : Nat) (_hn : n ≤ 200) : (decide (tlRAB (3, R, A, B, nm) = (3, R, A, B, nm)) && regB (rsRAB (3, R, A, B, nm)) && rqY (3, R, A, B, nm) (n : Int)) = decide (insAt n (3, R, A, B, nm)) := by
  rw [Bool.eq_iff_iff]
  unfold tlRAB rsRAB rqY insAt insP regB inB
  simp only [List.all_cons, List.all_nil, Bool.and_true, Bool.and_eq_true, decide_eq_true_eq, Prod.mk.injEq]
  grind
theorem ok_eq4 (R A B : Int) (nm : List UInt8) (n : Nat) (_hn : n ≤ 200) : (decide (tlRAB (4, R, A, B, nm) = (4, R, A, B, nm)) && regB (rsRAB (4, R, A, B, nm)) && rqY (4, R, A, B, nm) (n : Int)) = decide (insAt n (4, R, A, B, nm)) := by
  rw [Bool.eq_iff_iff]
  unfold tlRAB rsRAB rqY insAt insP regB inB
  simp only [List.all_cons, List.all_nil, Bool.and_true, Bool.and_eq_true, decide_eq_true_eq, Prod.mk.injEq]
  grind
theorem ok_eq5 (R A B : Int) (nm : List UInt8) (n : Nat) (_hn : n ≤ 200) : (decide (tlRAB (5, R, A, B, nm) = (5, R, A, B, nm)) && regB (rsRAB (5, R, A, B, nm)) && rqY (5, R, A, B, nm) (n : Int)) = decide (insAt n (5, R, A, B, nm)) := by
  rw [Bool.eq_iff_iff]
  unfold tlRAB rsRAB rqY insAt insP regB inB
  simp only [List.all_cons, List.all_nil, Bool.and_true, Bool.and_eq_true, decide_eq_true_eq, Prod.mk.injEq]
  grind
theorem ok_eq6 (R A B : Int) (nm : List UInt8) (n : Nat) (_hn : n ≤ 200) : (decide (tlRAB (6, R, A, B, nm) = (6, R, A, B, nm)) && regB (rsRAB (6, R, A, B, nm)) && rqY (6, R, A, B, nm) (n : Int)) = decide (insAt n (6, R, A, B, nm)) := by
  rw [Bool.eq_iff_iff]
  unfold tlRAB rsRAB rqY insAt insP regB inB
  simp only [List.all_cons, List.all_nil, Bool.and_true, Bool.and_eq_true, decide_eq_true_eq, Prod.mk.injEq]
  grind
theorem ok_eq7 (R A B : Int) (nm : List UInt8) (n : Nat) (_hn : n ≤ 200) : (decide (tlRA (7, R, A, B, nm) = (7, R, A, B, nm)) && regB (rsR (7, R, A, B, nm)) && rqP (7, R, A, B, nm) (n : Int)) = decide (insAt n (7, R, A, B, nm)) := by
  rw [Bool.eq_iff_iff]
  unfold tlRA rsR rqP insAt insP regB inB
  simp only [List.all_cons, List.all_nil, Bool.and_true, Bool.and_eq_true, decide_eq_true_eq, Prod.mk.injEq]
  grind
theorem ok_eq8 (R A B : Int) (nm : List UInt8) (n : Nat) (_hn : n ≤ 200) : (decide (tlA (8, R, A, B, nm) = (8, R, A, B, nm)) && regB (rsN (8, R, A, B, nm)) && rqP (8, R, A, B, nm) (n : Int)) = decide (insAt n (8, R, A, B, nm)) := by
  rw [Bool.eq_iff_iff]
  unfold tlA rsN rqP insAt insP regB
  simp only [List.all_nil, Bool.and_true, Bool.and_eq_true, decide_eq_true_eq, Prod.mk.injEq]
  grind
theorem ok_eq9 (R A B : Int) (nm : List UInt8) (n : Nat) (_hn : n ≤ 200) : (decide (tlRAN (9, R, A, B, nm) = (9, R, A, B, nm)) && regB (rsC (9, R, A, B, nm)) && rqC (9, R, A, B, nm) (n : Int)) = decide (insAt n (9, R, A, B, nm)) := by
  have hw : (0 ≤ R ∧ R ≤ 63) → (0 ≤ A ∧ A ≤ 3) → wrap64 (wrap64 (R + A) - 1) = R + A - 1 := fun h1 h2 => by
    rw [IntWalk.wrap64_in (R + A) (by omega), IntWalk.wrap64_in _ (by omega)]
  rw [Bool.eq_iff_iff]
  unfold tlRAN rsC rqC insAt insP regB inB
  simp only [List.all_cons, List.all_nil, Bool.and_true, Bool.and_eq_true, decide_eq_true_eq, Prod.mk.injEq]
  generalize wrap64 (wrap64 (R + A) - 1) = z at hw ⊢
  generalize name13 nm = bn
  grind
theorem ok_eq10 (R A B : Int) (nm : List UInt8) (n : Nat) (_hn : n ≤ 200) : (decide (tlR (10, R, A, B, nm) = (10, R, A, B, nm)) && regB (rsR (10, R, A, B, nm)) && rqY (10, R, A, B, nm) (n : Int)) = decide (insAt n (10, R, A, B, nm)) := by
  rw [Bool.eq_iff_iff]
  unfold tlR rsR rqY insAt insP regB inB
  simp only [List.all_cons, List.all_nil, Bool.and_true, Bool.and_eq_true, decide_eq_true_eq, Prod.mk.injEq]
  grind
theorem ok_out {k R A B : Int} {nm : List UInt8} {n : Nat} (hk : k < 1 ∨ 10 < k) : decide (insAt n (k, R, A, B, nm)) = false := by
  refine decide_eq_false (fun h => ?_)
  have h2 := h.1.2.2
  simp only at h2
  omega
set_option maxHeartbeats 1000000 in
set_option maxRecDepth 100000 in
theorem implInNo0 (k R A B : Int) (nm : List UInt8) (n : Int) (w : World) (hk : k < 1) : Calls Tryz.prog 82 #[insVal (k, R, A, B, nm), .int .i64 n] w fun e w' => e = .returned (.bool false) ∧ Below w.heap.size w w' := by
  unfold insVal
  dsimp only
  go_enter Tryz.func82, Tryz.ntmps82
  go_wp2
  go_ret
  exact ⟨rfl, (Below.refl _ w).alloc (Nat.le_refl _) _⟩
set_option maxHeartbeats 1000000 in
set_option maxRecDepth 100000 in
theorem implInNo1 (k R A B : Int) (nm : List UInt8) (n : Int) (w : World) (hk : 10 < k) : Calls Tryz.prog 82 #[insVal (k, R, A, B, nm), .int .i64 n] w fun e w' => e = .returned (.bool false) ∧ Below w.heap.size w w' := by
  unfold insVal
  dsimp only
  have hk1 : ¬ k < 1 := by omega
  go_enter Tryz.func82, Tryz.ntmps82
  go_wp2
  go_ret
  exact ⟨rfl, (Below.refl _ w).alloc (Nat.le_refl _) _⟩
theorem implInsOkIn (i : In13) (n : Nat) (w : World) (hn : n ≤ 200) (hl : i.2.2.2.2.length ≤ 1048576) : Calls Tryz.prog 82 #[insVal i, .int .i64 (n : Int)] w fun e w' => e = .returned (.bool (decide (insAt n i))) ∧ Below w.heap.size w w' := by
  obtain ⟨k, R, A, B, nm⟩ := i
  dsimp only at hl
  by_cases h1 : k < 1
  · rw [ok_out (Or.inl h1)]
    exact implInNo0 k R A B nm _ w h1
  by_cases h2 : 10 < k
  · rw [ok_out (Or.inr h2)]
    exact implInNo1 k R A B nm _ w h2
  have hk : k = 1 ∨ k = 2 ∨ k = 3 ∨ k = 4 ∨ k = 5 ∨ k = 6 ∨ k = 7 ∨ k = 8 ∨ k = 9 ∨ k = 10 := by omega
  clear h1 h2
  rcases hk with rfl | rfl | rfl | rfl | rfl | rfl | rfl | rfl | rfl | rfl
  · rw [← ok_eq1 R A B nm n hn]
    exact implIn 1 R A B nm 117 118 119 tlRA rsR rqW (n : Int) w ⟨by omega, by omega⟩ index_tb1 (enters_of Tryz.func117 (by kernel_rfl) rfl) (enters_of Tryz.func118 (by kernel_rfl) rfl) (enters_of Tryz.func119 (by kernel_rfl) rfl) impl_withRA impl_registerR impl_wordInA hl (by simp [rsR])
  · rw [← ok_eq2 R A B nm n hn]
    exact implIn 2 R A B nm 117 118 120 tlRA rsR rqA (n : Int) w ⟨by omega, by omega⟩ index_tb2 (enters_of Tryz.func117 (by kernel_rfl) rfl) (enters_of Tryz.func118 (by kernel_rfl) rfl) (enters_of Tryz.func120 (by kernel_rfl) rfl) impl_withRA impl_registerR impl_argInA hl (by simp [rsR])
  · rw [← ok_eq3 R A B nm n hn]
    exact implIn 3 R A B nm 114 115 116 tlRAB rsRAB rqY (n : Int) w ⟨by omega, by omega⟩ index_tb3 (enters_of Tryz.func114 (by kernel_rfl) rfl) (enters_of Tryz.func115 (by kernel_rfl) rfl) (enters_of Tryz.func116 (by kernel_rfl) rfl) impl_withRAB impl_registersRAB impl_nothingElse hl (by simp [rsRAB])
  · rw [← ok_eq4 R A B nm n hn]
    exact implIn 4 R A B nm 114 115 116 tlRAB rsRAB rqY (n : Int) w ⟨by omega, by omega⟩ index_tb4 (enters_of Tryz.func114 (by kernel_rfl) rfl) (enters_of Tryz.func115 (by kernel_rfl) rfl) (enters_of Tryz.func116 (by kernel_rfl) rfl) impl_withRAB impl_registersRAB impl_nothingElse hl (by simp [rsRAB])
  · rw [← ok_eq5 R A B nm n hn]
    exact implIn 5 R A B nm 114 115 116 tlRAB rsRAB rqY (n : Int) w ⟨by omega, by omega⟩ index_tb5 (enters_of Tryz.func114 (by kernel_rfl) rfl) (enters_of Tryz.func115 (by kernel_rfl) rfl) (enters_of Tryz.func116 (by kernel_rfl) rfl) impl_withRAB impl_registersRAB impl_nothingElse hl (by simp [rsRAB])
  · rw [← ok_eq6 R A B nm n hn]
    exact implIn 6 R A B nm 114 115 116 tlRAB rsRAB rqY (n : Int) w ⟨by omega, by omega⟩ index_tb6 (enters_of Tryz.func114 (by kernel_rfl) rfl) (enters_of Tryz.func115 (by kernel_rfl) rfl) (enters_of Tryz.func116 (by kernel_rfl) rfl) impl_withRAB impl_registersRAB impl_nothingElse hl (by simp [rsRAB])
  · rw [← ok_eq7 R A B nm n hn]
    exact implIn 7 R A B nm 117 118 121 tlRA rsR rqP (n : Int) w ⟨by omega, by omega⟩ index_tb7 (enters_of Tryz.func117 (by kernel_rfl) rfl) (enters_of Tryz.func118 (by kernel_rfl) rfl) (enters_of Tryz.func121 (by kernel_rfl) rfl) impl_withRA impl_registerR impl_placeInA hl (by simp [rsR])
  · rw [← ok_eq8 R A B nm n hn]
    exact implIn 8 R A B nm 122 123 121 tlA rsN rqP (n : Int) w ⟨by omega, by omega⟩ index_tb8 (enters_of Tryz.func122 (by kernel_rfl) rfl) (enters_of Tryz.func123 (by kernel_rfl) rfl) (enters_of Tryz.func121 (by kernel_rfl) rfl) impl_withA impl_noRegister impl_placeInA hl (by simp [rsN])
  · rw [← ok_eq9 R A B nm n hn]
    exact implIn 9 R A B nm 124 125 126 tlRAN rsC rqC (n : Int) w ⟨by omega, by omega⟩ index_tb9 (enters_of Tryz.func124 (by kernel_rfl) rfl) (enters_of Tryz.func125 (by kernel_rfl) rfl) (enters_of Tryz.func126 (by kernel_rfl) rfl) impl_withRAName impl_registersOfCall impl_countAndName hl (by simp [rsC])
  · rw [← ok_eq10 R A B nm n hn]
    exact implIn 10 R A B nm 127 118 116 tlR rsR rqY (n : Int) w ⟨by omega, by omega⟩ index_tb10 (enters_of Tryz.func127 (by kernel_rfl) rfl) (enters_of Tryz.func118 (by kernel_rfl) rfl) (enters_of Tryz.func116 (by kernel_rfl) rfl) impl_withR impl_registerR impl_nothingElse hl (by simp [rsR])
set_option maxHeartbeats 4000000 in
set_option maxRecDepth 100000 in
theorem implCodeOk (a : Option Addr) (len cap : Nat) (is : List In13) (w : World) (hin : InsIn w a len is) (_hint : IntIs is) (hsh : ShortI is) (hlen : len ≤ 1048576) (_hc : len ≤ cap) (_hm : cap ≤ maxLen) :
    Calls Tryz.prog 61 #[.slice a len cap] w fun e w' => e = .returned (.bool (codeB is)) ∧ Below w.heap.size w w' := by
  obtain rfl : is.length = len := hin.1
  have HI : Hid (InsIn w a is.length is) := hin
  have HS : Hid (ShortI is) := hsh
  have HL : Hid (is.length < 1 ∨ 200 < is.length → codeB is = false) := code_len
  have HNo : Hid (∀ j, j < is.length → ¬ insAt is.length (is.getD j in0) → codeB is = false) := fun j hj h => code_no hj h
  have HEn : Hid (1 ≤ is.length → is.length ≤ 200 → (∀ j, j < is.length → insAt is.length (is.getD j in0)) → codeB is = (((is.getD (is.length - 1) in0).1 == 10) || ((is.getD (is.length - 1) in0).1 == 8))) := code_end
  obtain ⟨n, hn⟩ : ∃ n, is.length = n := ⟨_, rfl⟩
  rw [hn] at HI HL HNo HEn hlen ⊢
  generalize codeB is = res at HL HNo HEn ⊢
  clear hin hsh hn _hc _hm
  by_cases h1 : (n : Int) < 1
  · have HF2 : Hid (res = false) := HL.out (Or.inl (by omega))
    clear HL HNo HEn
    go_enter Tryz.func61, Tryz.ntmps61
    go_wp2
    go_ret
    exact ⟨by rw [HF2.out]; rfl, Below.refl _ _⟩
  by_cases h2 : 200 < (n : Int)
  · have HF2 : Hid (res = false) := HL.out (Or.inr (by omega))
    clear HL HNo HEn
    go_enter Tryz.func61, Tryz.ntmps61
    go_wp2
    go_ret
    exact ⟨by rw [HF2.out]; rfl, Below.refl _ _⟩
  obtain ⟨m, hm⟩ : ∃ m, n = m + 1 := ⟨n - 1, by omega⟩
  have HM : Hid (n = m + 1) := hm
  have HEn2 : Hid ((∀ j, j < n → insAt n (is.getD j in0)) → res = (((is.getD m in0).1 == 10) || ((is.getD m in0).1 == 8))) := fun h => by
    have := HEn.out (by omega) (by omega) h
    rw [show n - 1 = m by omega] at this
    exact this
  clear hm HL HEn
  go_enter Tryz.func61, Tryz.ntmps61
  go_wp2
  go_loopw [17] (fun iv wr => ∃ i : Nat, iv = .int .i64 (i : Int) ∧ i ≤ n ∧ Hid (∀ j, j < i → insAt n (is.getD j in0)) ∧ Hid (Below w.heap.size w wr)) (fun iv _ => n - (intOf iv).toNat)
  case atStart => exact ⟨0, rfl, Nat.zero_le _, fun j hj => by omega, Below.refl _ _⟩
  case round =>
    obtain ⟨i, rfl, hi, HA, HB⟩ := hrel
    by_cases hlt : (i : Int) < (n : Int)
    · obtain ⟨b, off, rfl, hbl, c0, c1, c2, c3, c4⟩ := (HI.out.below HB.out).2 i (by omega)
      have HC : Hid (_) := fun W : World => implInsOkIn (is.getD i in0) n W (by omega) (HS.out i)
      have HNx : Hid (insAt n (is.getD i in0) → ∀ j, j < i + 1 → insAt n (is.getD j in0)) := fun h j hj => by
        by_cases e : j = i
        · rw [e]; exact h
        · exact HA.out j (by omega)
      have HNi : Hid (¬ insAt n (is.getD i in0) → res = false) := HNo.out i (by omega)
      clear HEn2 HNo HA HS
      generalize is.getD i in0 = ii at c0 c1 c2 c3 c4 HC HNx HNi
      have HD1 : Hid (decide (insAt n ii) = true → insAt n ii) := fun h => of_decide_eq_true h
      have HD2 : Hid (decide (insAt n ii) = false → ¬ insAt n ii) := fun h => of_decide_eq_false h
      generalize decide (insAt n ii) = d at HC HD1 HD2
      obtain ⟨kd, R, A, Bq, nm⟩ := ii
      unfold insVal at HC
      simp only at c0 c1 c2 c3 c4 HC
      have HB1 : Hid (Below w.heap.size w (wr.alloc (.cells #[.int .i64 kd, .int .i64 R, .int .i64 A, .int .i64 Bq, .string ⟨nm.toArray⟩] 56))) := HB.out.alloc HB.out.size _
      cases d
      · have HF : Hid (res = false) := HNi.out (HD2.out rfl)
        clear HNi HNx HD1 HD2
        go_wp2_with fail
        refine Calls.mono (HC.out _) ?_
        rintro e w1 ⟨rfl, hb1⟩
        have hB1 := HB1.out.trans (hb1.mono HB1.out.size)
        clear c0 c1 c2 c3 c4 hb1 HC HB1 HB
        go_wp2
        go_ret
        exact ⟨by rw [HF.out]; rfl, hB1⟩
      · have HN2 : Hid (_) := HNx.out (HD1.out rfl)
        clear HNi HNx HD1 HD2
        go_wp2_with fail
        refine Calls.mono (HC.out _) ?_
        rintro e w1 ⟨rfl, hb1⟩
        have hB1 := HB1.out.trans (hb1.mono HB1.out.size)
        clear c0 c1 c2 c3 c4 hb1 HC HB1 HB
        go_wp2
        go_roundw
        case rel => exact ⟨i + 1, by go_num, by omega, HN2, hB1⟩
        case measure => simp [intOf]; omega
    · have hin2 : i = n := by omega
      have HF : Hid (_) := HEn2.out (fun j hj => HA.out j (by omega))
      have hmn : m < n := by have := HM.out; omega
      obtain ⟨b, off, rfl, hbl, c0, _⟩ := (HI.out.below HB.out).2 m hmn
      have hq : (n : Int) - 1 = (m : Int) := by have := HM.out; omega
      have hmz : (m : Int) < (n : Int) := by omega
      have HBr := HB.out
      generalize (is.getD m in0).1 = kd at c0 HF
      clear hin2 HEn2 HNo HA HS HM HI HB hmn
      rcases h10 : (kd == 10) with _ | _
      · rw [h10] at HF
        go_wp2
        go_ret
        exact ⟨by rw [HF.out]; rfl, HBr⟩
      · rw [h10] at HF
        go_wp2
        go_ret
        exact ⟨by rw [HF.out]; rfl, HBr⟩

end Go.Proofs.YtogobeegibngiaaGreatDoor

/-! Contracts of chapter 14's landed code: right routines (argsBelow, routineOk, routinesOk), calls (callsOk), ImageOk. -/
namespace Go.Proofs.YtogobeegibngiaaGreatDoor
open Go.RowKit

set_option maxHeartbeats 2000000 in
set_option maxRecDepth 100000 in
theorem implArgsBelow (a : Option Addr) (len cap : Nat) (is : List In13) (n : Int) (w : World) (hin : InsIn w a len is) (hlen : len ≤ 1048576) :
    Calls Tryz.prog 62 #[.slice a len cap, .int .i64 n] w fun e w' => e = .returned (.bool (is.all (argB n))) ∧ Below w.heap.size w w' := by
  obtain rfl : is.length = len := hin.1
  have HI : Hid (InsIn w a is.length is) := hin
  have HAll : Hid ((∀ k, k < is.length → argB n (is.getD k in0) = true) → is.all (argB n) = true) := arg_allI.2
  have HNo : Hid (∀ k, k < is.length → argB n (is.getD k in0) = false → is.all (argB n) = false) := fun k hk h => arg_noI hk h
  have HB0 : Hid (Below w.heap.size w w) := Below.refl _ w
  obtain ⟨m, hm⟩ : ∃ m, is.length = m := ⟨_, rfl⟩
  rw [hm] at HI HAll HNo hlen ⊢
  generalize is.all (argB n) = res at HAll HNo ⊢
  clear hin hm
  go_enter Tryz.func62, Tryz.ntmps62
  go_wp2
  go_loopw [9] (fun iv wr => ∃ k : Nat, iv = .int .i64 (k : Int) ∧ k ≤ m ∧ Hid (∀ j, j < k → argB n (is.getD j in0) = true) ∧ Hid (Below w.heap.size w wr)) (fun iv _ => m - (intOf iv).toNat)
  case atStart => exact ⟨0, rfl, Nat.zero_le _, (fun j hj => absurd hj (Nat.not_lt_zero _)), HB0⟩
  case round =>
    obtain ⟨k, rfl, hk, HA, HB⟩ := hrel
    clear HB0
    by_cases hlt : (k : Int) < (m : Int)
    · obtain ⟨b, off, rfl, hbl, c0, c1, c2, c3, c4⟩ := (HI.out.below HB.out).2 k (by omega)
      have hno := HNo.out k (by omega)
      have hst : argB n (is.getD k in0) = true → ∀ j, j < k + 1 → argB n (is.getD j in0) = true := fun h j hj => by
        rcases Nat.lt_or_ge j k with g | g
        · exact HA.out j g
        · obtain rfl : j = k := by omega
          exact h
      obtain ⟨i, hi⟩ : ∃ i, is.getD k in0 = i := ⟨_, rfl⟩
      rw [hi] at c0 c1 c2 c3 c4 hno hst
      obtain ⟨ik, iR, iA, iB, inm⟩ := i
      simp only at c0 c1 c2 c3 c4
      have HB1 : Hid (Below w.heap.size w (wr.alloc (.cells #[.int .i64 ik, .int .i64 iR, .int .i64 iA, .int .i64 iB, .string ⟨inm.toArray⟩] 56))) := HB.out.alloc HB.out.size _
      unfold argB at hno hst
      simp only at hno hst
      by_cases h2 : ik = 2
      · subst h2
        by_cases hA : n ≤ iA
        · have HR : Hid (res = false) := hno (by simp [hA])
          clear hno hst hi
          go_wp2
          go_ret
          exact ⟨by rw [HR.out]; rfl, HB1.out⟩
        · have HS : Hid (∀ j, j < k + 1 → argB n (is.getD j in0) = true) := by unfold argB; exact hst (by simp [hA])
          clear hno hst hi
          go_wp2
          go_roundw
          case rel => exact ⟨k + 1, by go_num, by omega, HS, HB1⟩
          case measure => simp [intOf]; omega
      · have HS : Hid (∀ j, j < k + 1 → argB n (is.getD j in0) = true) := by unfold argB; exact hst (by simp [h2])
        clear hno hst hi
        go_wp2
        go_roundw
        case rel => exact ⟨k + 1, by go_num, by omega, HS, HB1⟩
        case measure => simp [intOf]; omega
    · obtain rfl : k = m := by omega
      have HR : Hid (res = true) := HAll.out HA.out
      go_wp2
      go_ret
      exact ⟨by rw [HR.out]; rfl, HB.out⟩

set_option maxHeartbeats 2000000 in
set_option maxRecDepth 100000 in
theorem implRoutineOk (nm : List UInt8) (ar : Int) (cd : List In13) (ca : Option Addr) (cl cc : Nat) (w : World) (hin : InsIn w ca cl cd) (hint : IntIs cd) (hsh : ShortI cd) (hlen : cl ≤ 1048576) (hc : cl ≤ cc) (hm : cc ≤ maxLen) (hn : nm.length ≤ 1048576) :
    Calls Tryz.prog 42 #[.agg #[.string ⟨nm.toArray⟩, .int .i64 ar, .slice ca cl cc]] w fun e w' => e = .returned (.bool (rtB (nm, ar, cd))) ∧ Below w.heap.size w w' := by
  obtain ⟨W, hW⟩ : ∃ W, w.alloc (.cells #[.string ⟨nm.toArray⟩, .int .i64 ar, .slice ca cl cc] 50) = W := ⟨_, rfl⟩
  have hb : Below w.heap.size w W := by rw [← hW]; exact (Below.refl _ _).alloc (Nat.le_refl _) _
  have hsW : W.heap.size = w.heap.size + 1 := by rw [← hW]; simp
  have hR : W.heap[w.heap.size]? = some (.cells #[.string ⟨nm.toArray⟩, .int .i64 ar, .slice ca cl cc] 50) := by rw [← hW]; exact heap_alloc_new w _
  have HC1 : Hid (_) := implWhole nm W hn
  have HC2 : Hid (∀ X, Below W.heap.size W X → _) := fun X (hX : Below W.heap.size W X) => implCodeOk ca cl cc cd X ((hin.below hb).below hX) hint hsh hlen hc hm
  have HC3 : Hid (∀ X, Below W.heap.size W X → _) := fun X (hX : Below W.heap.size W X) => implArgsBelow ca cl cc cd ar X ((hin.below hb).below hX) hlen
  have HB : Hid (Below w.heap.size w W) := hb
  have HQ : Hid (rtB (nm, ar, cd) = ((name13 nm && (inB ar 0 3 && codeB cd)) && cd.all (argB ar))) := rfl
  generalize rtB (nm, ar, cd) = res at HQ ⊢
  generalize name13 nm = b1 at HC1 HQ
  generalize codeB cd = b2 at HC2 HQ
  generalize cd.all (argB ar) = b3 at HC3 HQ
  obtain ⟨D, hD⟩ : ∃ D, w.heap.size = D := ⟨_, rfl⟩
  rw [hD] at hR hsW HB ⊢
  obtain ⟨q0, _, _, _⟩ := threeR (Below.refl _ W) (by omega) hR
  clear hin hint hsh hb
  go_enter Tryz.func42, Tryz.ntmps42
  go_wp2_with fail
  refine Calls.mono HC1.out ?_
  rintro e w1 ⟨rfl, hb1⟩
  obtain ⟨r0, r1, r2, _⟩ := threeR hb1 (by omega) hR
  rcases b1 with _ | _
  · have HR : Hid (res = false) := HQ.out
    go_wp2
    go_ret
    exact ⟨by rw [HR.out]; rfl, HB.out.trans (hb1.mono (by omega))⟩
  by_cases h0 : 0 ≤ ar
  · by_cases h3 : ar ≤ 3
    · go_wp2_with fail
      refine Calls.mono (HC2.out _ hb1) ?_
      rintro e w2 ⟨rfl, hb2⟩
      have hb12 := hb1.trans (hb2.mono hb1.size)
      obtain ⟨s0, s1, s2, _⟩ := threeR hb12 (by omega) hR
      rcases b2 with _ | _
      · have HR : Hid (res = false) := by exact (by rw [HQ.out]; simp : res = false)
        go_wp2
        go_ret
        exact ⟨by rw [HR.out]; rfl, HB.out.trans (hb12.mono (by omega))⟩
      · have HR : Hid (res = b3) := by exact (by rw [HQ.out]; unfold inB; simp [h0, h3] : res = b3)
        go_wp2_with fail
        refine Calls.mono (HC3.out _ hb12) ?_
        rintro e w3 ⟨rfl, hb3⟩
        have hb13 := hb12.trans (hb3.mono hb12.size)
        go_wp2
        go_ret
        exact ⟨by rw [HR.out]; rfl, HB.out.trans (hb13.mono (by omega))⟩
    · have HR : Hid (res = false) := by exact (by rw [HQ.out]; unfold inB; simp [h3] : res = false)
      go_wp2
      go_ret
      exact ⟨by rw [HR.out]; rfl, HB.out.trans (hb1.mono (by omega))⟩
  · have HR : Hid (res = false) := by exact (by rw [HQ.out]; unfold inB; simp [h0] : res = false)
    go_wp2
    go_ret
    exact ⟨by rw [HR.out]; rfl, HB.out.trans (hb1.mono (by omega))⟩

set_option maxHeartbeats 4000000 in
set_option maxRecDepth 100000 in
theorem implRoutinesOk (a : Option Addr) (len cap : Nat) (rs : List Rt) (most : Int) (w : World) (h : RtOk w a len cap rs) :
    Calls Tryz.prog 27 #[.slice a len cap, .int .i64 most] w fun e w' => e = .returned (.bool (rtsB rs most)) ∧ Below w.heap.size w w' := by
  obtain rfl : rs.length = len := h.c.1
  have HI : Hid (RtsCap w a rs.length cap rs) := h.c
  have HInt : Hid (IntR rs) := h.i
  have HSh : Hid (ShortR rs) := h.s
  have hlen := h.l
  have HFew : Hid ((rs.length : Int) < 1 ∨ most < (rs.length : Int) → rtsB rs most = false) := rtsB_few
  have HNo : Hid (∀ k, k < rs.length → rtB (rs.getD k rt0) = false → rtsB rs most = false) := fun k hk e => RrSt.noOk hk e
  have HNr : Hid (∀ k z, k < rs.length → RrSt rs k z → rtB (rs.getD k rt0) = true → leT (rs.getD k rt0).1 z = true → rtsB rs most = false) := fun k z hk hs e1 e2 => hs.noRise hk e1 e2
  have HAll : Hid (∀ z, RrSt rs rs.length z → 1 ≤ (rs.length : Int) ∧ (rs.length : Int) ≤ most → rtsB rs most = true) := fun z hs hl => hs.all hl
  have HS0 : Hid (RrSt rs 0 []) := RrSt.start rs
  have HB0 : Hid (Below w.heap.size w w) := Below.refl _ w
  obtain ⟨n, hnn⟩ : ∃ n, rs.length = n := ⟨_, rfl⟩
  have HN : Hid (rs.length = n) := hnn
  rw [hnn] at HI HFew HNo HNr HAll hlen ⊢
  generalize rtsB rs most = res at HFew HNo HNr HAll ⊢
  clear h hnn
  by_cases h1 : (n : Int) < 1
  · have HR : Hid (res = false) := HFew.out (Or.inl h1)
    go_enter Tryz.func27, Tryz.ntmps27
    go_wp2
    go_ret
    exact ⟨by rw [HR.out]; rfl, HB0.out⟩
  by_cases h2 : most < (n : Int)
  · have HR : Hid (res = false) := HFew.out (Or.inr h2)
    go_enter Tryz.func27, Tryz.ntmps27
    go_wp2
    go_ret
    exact ⟨by rw [HR.out]; rfl, HB0.out⟩
  have HL : Hid (1 ≤ (n : Int) ∧ (n : Int) ≤ most) := ⟨by omega, by omega⟩
  go_enter Tryz.func27, Tryz.ntmps27
  go_wp2
  go_loopw [5, 19] (fun zv iv wr => ∃ (k : Nat) (z : List UInt8), iv = .int .i64 (k : Int) ∧ zv = .string ⟨z.toArray⟩ ∧ k ≤ n ∧ Hid (RrSt rs k z) ∧ Hid (Below w.heap.size w wr)) (fun _ iv _ => n - (intOf iv).toNat)
  case atStart => exact ⟨0, [], rfl, rfl, Nat.zero_le _, HS0, HB0⟩
  case round =>
    obtain ⟨k, z, rfl, rfl, hk, HS, HB⟩ := hrel
    clear HB0 HS0
    by_cases hlt : (k : Int) < (n : Int)
    · obtain ⟨b, off, rfl, hbl, c0, c1, ca, cl, cc, c2, hin, hcc, hcm⟩ := (HI.out.below HB.out).2.2.2 k (by omega)
      have hno := HNo.out k (by omega)
      have hnr := HNr.out k z (by omega) HS.out
      have hst := HS.out.step
      have hint := (HInt.out k).2
      have hsh := HSh.out k
      obtain ⟨r, hrr⟩ : ∃ r, rs.getD k rt0 = r := ⟨_, rfl⟩
      rw [hrr] at c0 c1 hin hno hnr hst hint hsh
      obtain ⟨nm, ar, cd⟩ := r
      simp only at c0 c1 hin hno hnr hst hint hsh
      obtain ⟨Y, hY⟩ : ∃ Y, wr.alloc (.cells #[.string ⟨nm.toArray⟩, .int .i64 ar, .slice ca cl cc] 50) = Y := ⟨_, rfl⟩
      have hb : Below wr.heap.size wr Y := by rw [← hY]; exact (Below.refl _ _).alloc (Nat.le_refl _) _
      have hsY : Y.heap.size = wr.heap.size + 1 := by rw [← hY]; simp
      have hR : Y.heap[wr.heap.size]? = some (.cells #[.string ⟨nm.toArray⟩, .int .i64 ar, .slice ca cl cc] 50) := by rw [← hY]; exact heap_alloc_new wr _
      have HBY : Hid (Below w.heap.size w Y) := HB.out.trans (hb.mono HB.out.size)
      have hcl : cl ≤ 1048576 := by rw [← hin.1]; exact hsh.2.1
      have HC : Hid (_) := implRoutineOk nm ar cd ca cl cc Y (hin.below hb) hint hsh.2.2 hcl hcc hcm hsh.1
      obtain ⟨y0, y1, y2, _⟩ := threeR (Below.refl _ Y) (by omega) hR
      obtain ⟨E, hE⟩ : ∃ E, wr.heap.size = E := ⟨_, rfl⟩
      rw [hE] at hR hsY y0 y1 y2
      rcases hb1 : rtB (nm, ar, cd) with _ | _
      · have HR : Hid (res = false) := hno hb1
        rw [hb1] at HC
        clear hno hnr hst hint hsh hrr hb1 hin hb HS
        go_wp2_with fail
        refine Calls.mono HC.out ?_
        rintro e w1 ⟨rfl, hb1⟩
        go_wp2
        go_ret
        exact ⟨by rw [HR.out]; rfl, HBY.out.trans (hb1.mono HBY.out.size)⟩
      · rw [hb1] at HC
        rcases hle : leT nm z with _ | _
        · have HS2 : Hid (RrSt rs (k + 1) nm) := hst hb1 hle
          unfold leT at hle
          clear hno hnr hst hint hsh hrr hb1 hin hb HS
          go_wp2_with fail
          refine Calls.mono HC.out ?_
          rintro e w1 ⟨rfl, hb1⟩
          obtain ⟨r0, _, _, _⟩ := threeR hb1 (by omega) hR
          have HB2 : Hid (Below w.heap.size w w1) := HBY.out.trans (hb1.mono HBY.out.size)
          clear hb1
          go_wp2
          go_roundw
          case rel => exact ⟨k + 1, nm, by go_num, rfl, by omega, HS2, HB2⟩
          case measure => simp [intOf]; omega
        · have HR : Hid (res = false) := hnr hb1 hle
          unfold leT at hle
          clear hno hnr hst hint hsh hrr hb1 hin hb HS
          go_wp2_with fail
          refine Calls.mono HC.out ?_
          rintro e w1 ⟨rfl, hb1⟩
          obtain ⟨r0, _, _, _⟩ := threeR hb1 (by omega) hR
          have HB2 : Hid (Below w.heap.size w w1) := HBY.out.trans (hb1.mono HBY.out.size)
          clear hb1
          go_wp2
          go_ret
          exact ⟨by rw [HR.out]; rfl, HB2.out⟩
    · obtain rfl : k = n := by omega
      have HR : Hid (res = true) := HAll.out z HS.out HL.out
      go_wp2
      go_ret
      exact ⟨by rw [HR.out]; rfl, HB.out⟩

end Go.Proofs.YtogobeegibngiaaGreatDoor

/-! Contracts of chapter 14's landed code: calls (callsOk), ImageOk. -/
namespace Go.Proofs.YtogobeegibngiaaGreatDoor
open Go.RowKit

set_option maxHeartbeats 4000000 in
set_option maxRecDepth 100000 in
theorem implCallsOk (a : Option Addr) (cap : Nat) (rs : List Rt) (ca : Option Addr) (cl cc : Nat) (is : List In13) (w : World) (h : RtsCap w a rs.length cap rs) (hr : RiseR rs) (hn : rs.length ≤ 1048576) (hin : InsIn w ca cl is) (hcl : cl ≤ 1048576) :
    Calls Tryz.prog 28 #[.slice a rs.length cap, .slice ca cl cc] w fun e w' => e = .returned (.bool (is.all (clsB rs))) ∧ Below w.heap.size w w' := by
  obtain rfl : is.length = cl := hin.1
  have HI : Hid (InsIn w ca is.length is) := hin
  have HNm : Hid (∀ s X, Below w.heap.size w X → Calls Tryz.prog 43 #[.slice a rs.length cap, .string ⟨s.toArray⟩] X fun e w' => NdOut X a rs s e ∧ Below X.heap.size X w') := fun s X hX => implNamed a cap rs s X (h.below hX) hr hn
  have HAll : Hid ((∀ k, k < is.length → clsB rs (is.getD k in0) = true) → is.all (clsB rs) = true) := cls_allI.2
  have HNo : Hid (∀ k, k < is.length → clsB rs (is.getD k in0) = false → is.all (clsB rs) = false) := fun k hk h => cls_noI hk h
  have HB0 : Hid (Below w.heap.size w w) := Below.refl _ w
  obtain ⟨m, hm⟩ : ∃ m, is.length = m := ⟨_, rfl⟩
  rw [hm] at HI HAll HNo hcl ⊢
  generalize is.all (clsB rs) = res at HAll HNo ⊢
  obtain ⟨n, hnn⟩ : ∃ n, rs.length = n := ⟨_, rfl⟩
  rw [hnn] at HNm ⊢
  clear hin hm h hr hn hnn
  go_enter Tryz.func28, Tryz.ntmps28
  go_wp2
  go_loopw [11] (fun iv wr => ∃ k : Nat, iv = .int .i64 (k : Int) ∧ k ≤ m ∧ Hid (∀ j, j < k → clsB rs (is.getD j in0) = true) ∧ Hid (Below w.heap.size w wr)) (fun iv _ => m - (intOf iv).toNat)
  case atStart => exact ⟨0, rfl, Nat.zero_le _, (fun j hj => absurd hj (Nat.not_lt_zero _)), HB0⟩
  case round =>
    obtain ⟨k, rfl, hk, HA, HB⟩ := hrel
    clear HB0
    by_cases hlt : (k : Int) < (m : Int)
    · obtain ⟨b, off, rfl, hbl, c0, c1, c2, c3, c4⟩ := (HI.out.below HB.out).2 k (by omega)
      have hno := HNo.out k (by omega)
      have hst : clsB rs (is.getD k in0) = true → ∀ j, j < k + 1 → clsB rs (is.getD j in0) = true := fun h j hj => by
        rcases Nat.lt_or_ge j k with g | g
        · exact HA.out j g
        · obtain rfl : j = k := by omega
          exact h
      obtain ⟨i, hi⟩ : ∃ i, is.getD k in0 = i := ⟨_, rfl⟩
      rw [hi] at c0 c1 c2 c3 c4 hno hst
      obtain ⟨ik, iR, iA, iB, inm⟩ := i
      simp only at c0 c1 c2 c3 c4
      obtain ⟨Y, hY⟩ : ∃ Y, wr.alloc (.cells #[.int .i64 ik, .int .i64 iR, .int .i64 iA, .int .i64 iB, .string ⟨inm.toArray⟩] 56) = Y := ⟨_, rfl⟩
      have hb : Below wr.heap.size wr Y := by rw [← hY]; exact (Below.refl _ _).alloc (Nat.le_refl _) _
      have hsY : Y.heap.size = wr.heap.size + 1 := by rw [← hY]; simp
      have hR : Y.heap[wr.heap.size]? = some (.cells #[.int .i64 ik, .int .i64 iR, .int .i64 iA, .int .i64 iB, .string ⟨inm.toArray⟩] 56) := by rw [← hY]; exact heap_alloc_new wr _
      have HBY : Hid (Below w.heap.size w Y) := HB.out.trans (hb.mono HB.out.size)
      have hcls : clsB rs (ik, iR, iA, iB, inm) = (decide (ik ≠ 9) || (decide (0 ≤ at14 rs inm) && decide ((rs.getD (at14 rs inm).toNat rt0).2.1 = iA))) := rfl
      rw [hcls] at hno hst
      have y0 : Y.cell? ⟨wr.heap.size, 0, none⟩ = some (.int .i64 ik) := by rw [cell_of_row _ _ _ _ _ _ hR]; rfl
      have y4 : Y.cell? ⟨wr.heap.size, 4, none⟩ = some (.string ⟨inm.toArray⟩) := by rw [cell_of_row _ _ _ _ _ _ hR]; rfl
      obtain ⟨E, hE⟩ : ∃ E, wr.heap.size = E := ⟨_, rfl⟩
      rw [hE] at hR hsY y0 y4
      by_cases h9 : ik = 9
      · subst h9
        have HC : Hid (_) := HNm.out inm Y HBY.out
        have HQ : Hid ((0 ≤ at14 rs inm → (rs.getD (at14 rs inm).toNat rt0).2.1 = iA → ∀ j, j < k + 1 → clsB rs (is.getD j in0) = true) ∧ (¬ (0 ≤ at14 rs inm ∧ (rs.getD (at14 rs inm).toNat rt0).2.1 = iA) → res = false)) :=
          ⟨fun e1 e2 => hst (by rw [decide_eq_true e1, decide_eq_true e2]; rfl), fun e => hno (by
            rw [Bool.or_eq_false_iff, Bool.and_eq_false_iff]
            refine ⟨by simp, ?_⟩
            by_cases e1 : 0 ≤ at14 rs inm
            · exact Or.inr (decide_eq_false (fun e2 => e ⟨e1, e2⟩))
            · exact Or.inl (decide_eq_false e1))⟩
        clear hno hst hi hcls HA hb
        go_wp2_with fail
        refine Calls.mono HC.out ?_
        rintro e w1 ⟨hO, hb1⟩
        have z2 : w1.cell? ⟨E, 2, none⟩ = some (.int .i64 iA) := by rw [hb1.cell (p := ⟨E, 2, none⟩) (by show E < _; omega), cell_of_row _ _ _ _ _ _ hR]; rfl
        have hE1 : E < w1.heap.size := by have := hb1.size; omega
        have HB1 : Hid (Below w.heap.size w w1) := HBY.out.trans (hb1.mono HBY.out.size)
        rcases hO with ⟨hat, rfl⟩ | ⟨i, b2, off2, ca2, cl2, cc2, hi2, hat, -, -, -, -, -, rfl⟩
        · have HR : Hid (res = false) := HQ.out.2 (fun e => by rw [hat] at e; have := e.1; omega)
          have HB2 : Hid (Below w.heap.size w (w1.alloc (.cells #[.string ⟨#[]⟩, .int .i64 0, .slice none 0 0] 50))) := HB1.out.alloc HB1.out.size _
          clear hat HQ hb1
          go_wp2
          go_ret
          exact ⟨by rw [HR.out]; rfl, HB2.out⟩
        · have hq := HQ.out
          rw [hat, Int.toNat_natCast] at hq
          generalize (rs.getD i rt0).1 = nm at hq ⊢
          generalize (rs.getD i rt0).2.1 = ar at hq ⊢
          have HB2 : Hid (Below w.heap.size w (w1.alloc (.cells #[.string ⟨nm.toArray⟩, .int .i64 ar, .slice ca2 cl2 cc2] 50))) := HB1.out.alloc HB1.out.size _
          by_cases he : ar = iA
          · have HS : Hid (∀ j, j < k + 1 → clsB rs (is.getD j in0) = true) := hq.1 (by omega) he
            have heb : (ar != iA) = false := by rw [he]; simp
            clear hat HQ hb1 hq hi2 he
            go_wp2
            go_roundw
            case rel => exact ⟨k + 1, by go_num, by omega, HS, HB2⟩
            case measure => simp [intOf]; omega
          · have HR : Hid (res = false) := hq.2 (fun e => he e.2)
            have heb : (ar != iA) = true := bne_iff_ne.2 he
            clear hat HQ hb1 hq hi2 he
            go_wp2
            go_ret
            exact ⟨by rw [HR.out]; rfl, HB2.out⟩
      · have HS : Hid (∀ j, j < k + 1 → clsB rs (is.getD j in0) = true) := hst (by simp [h9])
        clear hno hst hi hcls HA hb
        go_wp2
        go_roundw
        case rel => exact ⟨k + 1, by go_num, by omega, HS, HBY⟩
        case measure => simp [intOf]; omega
    · obtain rfl : k = m := by omega
      have HR : Hid (res = true) := HAll.out HA.out
      go_wp2
      go_ret
      exact ⟨by rw [HR.out]; rfl, HB.out⟩

set_option maxHeartbeats 4000000 in
set_option maxRecDepth 100000 in
theorem implImageOk (a : Option Addr) (len cap : Nat) (rs : List Rt) (w : World) (h : RtOk w a len cap rs) :
    Calls Tryz.prog 12 #[.agg #[.slice a len cap]] w fun e w' => e = .returned (.bool (imageB rs)) ∧ Below w.heap.size w w' := by
  obtain rfl : rs.length = len := h.c.1
  obtain ⟨W, hW⟩ : ∃ W, w.alloc (.cells #[.slice a rs.length cap] 26) = W := ⟨_, rfl⟩
  have hb : Below w.heap.size w W := by rw [← hW]; exact (Below.refl _ _).alloc (Nat.le_refl _) _
  have hsW : W.heap.size = w.heap.size + 1 := by rw [← hW]; simp
  have hR : W.heap[w.heap.size]? = some (.cells #[.slice a rs.length cap] 26) := by rw [← hW]; exact heap_alloc_new w _
  have hW2 := h.below hb
  have HC1 : Hid (_) := implRoutinesOk a rs.length cap rs 64 W hW2
  have HI : Hid (RtsCap W a rs.length cap rs) := hW2.c
  have HSh : Hid (ShortR rs) := h.s
  have hlen := h.l
  have HBW : Hid (Below w.heap.size w W) := hb
  have HNoR : Hid (rtsB rs 64 = false → imageB rs = false) := image_noR
  have HYes : Hid (rtsB rs 64 = true → (∀ j, j < rs.length → (rs.getD j rt0).2.2.all (clsB rs) = true) → imageB rs = true) := image_yes
  have HNoC : Hid (∀ j, j < rs.length → (rs.getD j rt0).2.2.all (clsB rs) = false → imageB rs = false) := fun j hj e => image_noC hj e
  have HRise : Hid (rtsB rs 64 = true → RiseR rs) := rtsB_rise
  have HLn : Hid (rs.length ≤ 1048576) := hlen
  obtain ⟨n, hnn⟩ : ∃ n, rs.length = n := ⟨_, rfl⟩
  have HN : Hid (rs.length = n) := hnn
  rw [hnn] at HI HYes HNoC HC1 hlen hR hW ⊢
  obtain ⟨D, hD⟩ : ∃ D, w.heap.size = D := ⟨_, rfl⟩
  rw [hD] at hR hsW HBW ⊢
  have c0 : W.cell? ⟨D, 0, none⟩ = some (.slice a n cap) := by rw [cell_of_row _ _ _ _ _ _ hR]; rfl
  generalize imageB rs = res at HNoR HYes HNoC ⊢
  generalize rtsB rs 64 = b1 at HNoR HYes HRise HC1
  clear h hW2 hb hnn
  go_enter Tryz.func12, Tryz.ntmps12
  go_wp2_with fail
  refine Calls.mono HC1.out ?_
  rintro e w1 ⟨rfl, hb1⟩
  have d0 : w1.cell? ⟨D, 0, none⟩ = some (.slice a n cap) := (hb1.cell (p := ⟨D, 0, none⟩) (by show D < _; omega)).trans c0
  have hD1 : D < w1.heap.size := by have := hb1.size; omega
  rcases b1 with _ | _
  · have HR : Hid (res = false) := HNoR.out rfl
    go_wp2
    go_ret
    exact ⟨by rw [HR.out]; rfl, HBW.out.trans (hb1.mono (by omega))⟩
  · have HRs : Hid (RiseR rs) := HRise.out rfl
    have HY2 : Hid ((∀ j, j < n → (rs.getD j rt0).2.2.all (clsB rs) = true) → res = true) := HYes.out rfl
    have HB1 : Hid (Below W.heap.size W w1) := hb1
    clear HYes HRise HNoR hb1 c0
    go_wp2
    go_loopw [12] (fun iv wr => ∃ k : Nat, iv = .int .i64 (k : Int) ∧ k ≤ n ∧ Hid (∀ j, j < k → (rs.getD j rt0).2.2.all (clsB rs) = true) ∧ Hid (Below W.heap.size W wr)) (fun iv _ => n - (intOf iv).toNat)
    case atStart => exact ⟨0, rfl, Nat.zero_le _, (fun j hj => absurd hj (Nat.not_lt_zero _)), HB1⟩
    case round =>
      obtain ⟨k, rfl, hk, HA, HB⟩ := hrel
      clear HB1 d0 hD1
      have d0 : wr.cell? ⟨D, 0, none⟩ = some (.slice a n cap) := by rw [HB.out.cell (p := ⟨D, 0, none⟩) (by show D < _; omega), cell_of_row _ _ _ _ _ _ hR]; rfl
      have hD1 : D < wr.heap.size := by have := HB.out.size; omega
      by_cases hlt : (k : Int) < (n : Int)
      · have hc := HI.out.below HB.out
        obtain ⟨b, off, rfl, hbl, c0, c1, ca, cl, cc, c2, hin, hcc, hcm⟩ := hc.2.2.2 k (by omega)
        have hno := HNoC.out k (by omega)
        have hsh := HSh.out k
        have hst : (rs.getD k rt0).2.2.all (clsB rs) = true → ∀ j, j < k + 1 → (rs.getD j rt0).2.2.all (clsB rs) = true := fun h j hj => by
          rcases Nat.lt_or_ge j k with g | g
          · exact HA.out j g
          · obtain rfl : j = k := by omega
            exact h
        obtain ⟨r, hrr⟩ : ∃ r, rs.getD k rt0 = r := ⟨_, rfl⟩
        rw [hrr] at c0 c1 hin hno hsh hst
        obtain ⟨nm, ar, cd⟩ := r
        simp only at c0 c1 hin hno hsh hst
        obtain ⟨Y, hY⟩ : ∃ Y, wr.alloc (.cells #[.string ⟨nm.toArray⟩, .int .i64 ar, .slice ca cl cc] 50) = Y := ⟨_, rfl⟩
        have hbY : Below wr.heap.size wr Y := by rw [← hY]; exact (Below.refl _ _).alloc (Nat.le_refl _) _
        have hRY : Y.heap[wr.heap.size]? = some (.cells #[.string ⟨nm.toArray⟩, .int .i64 ar, .slice ca cl cc] 50) := by rw [← hY]; exact heap_alloc_new wr _
        have HBY : Hid (Below W.heap.size W Y) := HB.out.trans (hbY.mono HB.out.size)
        have e0 : Y.cell? ⟨D, 0, none⟩ = some (.slice (some ⟨b, off, none⟩) n cap) := (hbY.cell (p := ⟨D, 0, none⟩) hD1).trans d0
        have y2 : Y.cell? ⟨wr.heap.size, 2, none⟩ = some (.slice ca cl cc) := by rw [cell_of_row _ _ _ _ _ _ hRY]; rfl
        have HC : Hid (_) := implCallsOk (some ⟨b, off, none⟩) cap rs ca cl cc cd Y (by have := hc.below hbY; rw [HN.out]; exact this) HRs.out HLn.out (hin.below hbY) (by rw [← hin.1]; exact hsh.2.1)
        rw [HN.out] at HC
        generalize cd.all (clsB rs) = b2 at hno hst HC
        clear hrr hsh hin hc hbY hRY
        go_wp2_with fail
        refine Calls.mono HC.out ?_
        rintro e w2 ⟨rfl, hb2⟩
        have HB2 : Hid (Below W.heap.size W w2) := HBY.out.trans (hb2.mono HBY.out.size)
        rcases b2 with _ | _
        · have HR : Hid (res = false) := hno rfl
          clear hno hst HA hb2
          go_wp2
          go_ret
          exact ⟨by rw [HR.out]; rfl, HBW.out.trans (HB2.out.mono (by omega))⟩
        · have HS : Hid (∀ j, j < k + 1 → (rs.getD j rt0).2.2.all (clsB rs) = true) := hst rfl
          clear hno hst HA hb2
          go_wp2
          go_roundw
          case rel => exact ⟨k + 1, by go_num, by omega, HS, HB2⟩
          case measure => simp [intOf]; omega
      · obtain rfl : k = n := by omega
        have HR : Hid (res = true) := HY2.out HA.out
        go_wp2
        go_ret
        exact ⟨by rw [HR.out]; rfl, HBW.out.trans (HB.out.mono (by omega))⟩

end Go.Proofs.YtogobeegibngiaaGreatDoor
