/-
  Parts of one proof, one behind the other: StepD, ImgB, ImpI, HasI.
-/
import Derived.Test.YteolfnceobjonaaGreatP18
import Derived.Test.YteolfnceobjonaaGreatP8
import Derived.Test.YteolfnceobjonaaGreatP16
import Derived.Deep.RegionHeld3
import Derived.Test.YteolfnceobjonaaGreatP1
import Derived.Test.YteolfnceobjonaaGreatP2

/-! Contracts of chapter 13's landed code: insOkIn at every instruction; InsOk, CodeOk. -/
namespace Go.Proofs.YteolfnceobjonaaGreat
open Go.RowKit

theorem ok_eq1 (R A B : Int) (nm : List UInt8) (n : Nat) (_hn : n ≤ 200) : (decide (tlRA (1, R, A, B, nm) = (1, R, A, B, nm)) && regB (rsR (1, R, A, B, nm)) && rqW (1, R, A, B, nm) (n : Int)) = decide (insAt n (1, R, A, B, nm)) := by
  rw [Bool.eq_iff_iff]
  unfold tlRA rsR rqW insAt insP regB inB
  simp only [List.all_cons, List.all_nil, Bool.and_true, Bool.and_eq_true, decide_eq_true_eq, Prod.mk.injEq]
  grind
theorem ok_eq2 (R A B : Int) (nm : List UInt8) (n : Nat) (_hn : n ≤ 200) : (decide (tlRA (2, R, A, B, nm) = (2, R, A, B, nm)) && regB (rsR (2, R, A, B, nm)) && rqA (2, R, A, B, nm) (n : Int)) = decide (insAt n (2, R, A, B, nm)) := by
  rw [Bool.eq_iff_iff]
  unfold tlRA rsR rqA insAt insP regB inB
  simp only [List.all_cons, List.all_nil, Bool.and_true, Bool.and_eq_true, decide_eq_true_eq, Prod.mk.injEq]
  grind
theorem ok_eq3 (R A B : Int) (nm : List UInt8) (n : Nat) (_hn : n ≤ 200) : (decide (tlRAB (3, R, A, B, nm) = (3, R, A, B, nm)) && regB (rsRAB (3, R, A, B, nm)) && rqY (3, R, A, B, nm) (n : Int)) = decide (insAt n (3, R, A, B, nm)) := by
  rw [Bool.eq_iff_iff]
  unfold tlRAB rsRAB rqY insAt insP regB inB
  simp only [List.all_cons, List.all_nil, Bool.and_true, Bool.and_eq_true, decide_eq_true_eq, Prod.mk.injEq]
  grind
theorem ok_eq4 (R A B : Int) (nm : List UInt8) (n : Nat) (_hn : n ≤ 200) : (decide (tlRAB (4, R, A, B, nm) = (4, R, A, B, nm)) && regB (rsRAB (4, R, A, B, nm)) && rqY (4, R, A, B, nm) (n : Int)) = decide (insAt n (4, R, A, B, nm)) := by
  rw [Bool.eq_iff_iff]
  unfold tlRAB rsRAB rqY insAt insP regB inB
  simp only [List.all_cons, List.all_nil, Bool.and_true, Bool.and_eq_true, decide_eq_true_eq, Prod.mk.injEq]
  grind
theorem ok_eq5 (R A B : Int) (nm : List UInt8) (n : Nat) (_hn : n ≤ 200) : (decide (tlRAB (5, R, A, B, nm) = (5, R, A, B, nm)) && regB (rsRAB (5, R, A, B, nm)) && rqY (5, R, A, B, nm) (n : Int)) = decide (insAt n (5, R, A, B, nm)) := by
  rw [Bool.eq_iff_iff]
  unfold tlRAB rsRAB rqY insAt insP regB inB
  simp only [List.all_cons, List.all_nil, Bool.and_true, Bool.and_eq_true, decide_eq_true_eq, Prod.mk.injEq]
  grind
theorem ok_eq6 (R A B : Int) (nm : List UInt8) (n : Nat) (_hn : n ≤ 200) : (decide (tlRAB (6, R, A, B, nm) = (6, R, A, B, nm)) && regB (rsRAB (6, R, A, B, nm)) && rqY (6, R, A, B, nm) (n : Int)) = decide (insAt n (6, R, A, B, nm)) := by
  rw [Bool.eq_iff_iff]
  unfold tlRAB rsRAB rqY insAt insP regB inB
  simp only [List.all_cons, List.all_nil, Bool.and_true, Bool.and_eq_true, decide_eq_true_eq, Prod.mk.injEq]
  grind
theorem ok_eq7 (R A B : Int) (nm : List UInt8) (n : Nat) (_hn : n ≤ 200) : (decide (tlRA (7, R, A, B, nm) = (7, R, A, B, nm)) && regB (rsR (7, R, A, B, nm)) && rqP (7, R, A, B, nm) (n : Int)) = decide (insAt n (7, R, A, B, nm)) := by
  rw [Bool.eq_iff_iff]
  unfold tlRA rsR rqP insAt insP regB inB
  simp only [List.all_cons, List.all_nil, Bool.and_true, Bool.and_eq_true, decide_eq_true_eq, Prod.mk.injEq]
  grind
theorem ok_eq8 (R A B : Int) (nm : List UInt8) (n : Nat) (_hn : n ≤ 200) : (decide (tlA (8, R, A, B, nm) = (8, R, A, B, nm)) && regB (rsN (8, R, A, B, nm)) && rqP (8, R, A, B, nm) (n : Int)) = decide (insAt n (8, R, A, B, nm)) := by
  rw [Bool.eq_iff_iff]
  unfold tlA rsN rqP insAt insP regB
  simp only [List.all_nil, Bool.and_true, Bool.and_eq_true, decide_eq_true_eq, Prod.mk.injEq]
  grind
theorem ok_eq9 (R A B : Int) (nm : List UInt8) (n : Nat) (_hn : n ≤ 200) : (decide (tlRAN (9, R, A, B, nm) = (9, R, A, B, nm)) && regB (rsC (9, R, A, B, nm)) && rqC (9, R, A, B, nm) (n : Int)) = decide (insAt n (9, R, A, B, nm)) := by
  have hw : (0 ≤ R ∧ R ≤ 63) → (0 ≤ A ∧ A ≤ 3) → wrap64 (wrap64 (R + A) - 1) = R + A - 1 := fun h1 h2 => by
    rw [IntWalk.wrap64_in (R + A) (by omega), IntWalk.wrap64_in _ (by omega)]
  rw [Bool.eq_iff_iff]
  unfold tlRAN rsC rqC insAt insP regB inB
  simp only [List.all_cons, List.all_nil, Bool.and_true, Bool.and_eq_true, decide_eq_true_eq, Prod.mk.injEq]
  generalize wrap64 (wrap64 (R + A) - 1) = z at hw ⊢
  generalize name13 nm = bn
  grind
theorem ok_eq10 (R A B : Int) (nm : List UInt8) (n : Nat) (_hn : n ≤ 200) : (decide (tlR (10, R, A, B, nm) = (10, R, A, B, nm)) && regB (rsR (10, R, A, B, nm)) && rqY (10, R, A, B, nm) (n : Int)) = decide (insAt n (10, R, A, B, nm)) := by
  rw [Bool.eq_iff_iff]
  unfold tlR rsR rqY insAt insP regB inB
  simp only [List.all_cons, List.all_nil, Bool.and_true, Bool.and_eq_true, decide_eq_true_eq, Prod.mk.injEq]
  grind
theorem ok_out {k R A B : Int} {nm : List UInt8} {n : Nat} (hk : k < 1 ∨ 10 < k) : decide (insAt n (k, R, A, B, nm)) = false := by
  refine decide_eq_false (fun h => ?_)
  have h2 := h.1.2.2
  simp only at h2
  omega
set_option maxHeartbeats 1000000 in
set_option maxRecDepth 100000 in
theorem implInNo0 (k R A B : Int) (nm : List UInt8) (n : Int) (w : World) (hk : k < 1) : Calls Tryz.prog 212 #[insVal (k, R, A, B, nm), .int .i64 n] w fun e w' => e = .returned (.bool false) ∧ Below w.heap.size w w' := by
  unfold insVal
  dsimp only
  go_enter Tryz.func212, Tryz.ntmps212
  go_wp2
  go_ret
  exact ⟨rfl, (Below.refl _ w).alloc (Nat.le_refl _) _⟩
set_option maxHeartbeats 1000000 in
set_option maxRecDepth 100000 in
theorem implInNo1 (k R A B : Int) (nm : List UInt8) (n : Int) (w : World) (hk : 10 < k) : Calls Tryz.prog 212 #[insVal (k, R, A, B, nm), .int .i64 n] w fun e w' => e = .returned (.bool false) ∧ Below w.heap.size w w' := by
  unfold insVal
  dsimp only
  have hk1 : ¬ k < 1 := by omega
  go_enter Tryz.func212, Tryz.ntmps212
  go_wp2
  go_ret
  exact ⟨rfl, (Below.refl _ w).alloc (Nat.le_refl _) _⟩
theorem implInsOkIn (i : In13) (n : Nat) (w : World) (hn : n ≤ 200) (hl : i.2.2.2.2.length ≤ 1048576) : Calls Tryz.prog 212 #[insVal i, .int .i64 (n : Int)] w fun e w' => e = .returned (.bool (decide (insAt n i))) ∧ Below w.heap.size w w' := by
  obtain ⟨k, R, A, B, nm⟩ := i
  dsimp only at hl
  by_cases h1 : k < 1
  · rw [ok_out (Or.inl h1)]
    exact implInNo0 k R A B nm _ w h1
  by_cases h2 : 10 < k
  · rw [ok_out (Or.inr h2)]
    exact implInNo1 k R A B nm _ w h2
  have hk : k = 1 ∨ k = 2 ∨ k = 3 ∨ k = 4 ∨ k = 5 ∨ k = 6 ∨ k = 7 ∨ k = 8 ∨ k = 9 ∨ k = 10 := by omega
  clear h1 h2
  rcases hk with rfl | rfl | rfl | rfl | rfl | rfl | rfl | rfl | rfl | rfl
  · rw [← ok_eq1 R A B nm n hn]
    exact implIn 1 R A B nm 231 232 233 tlRA rsR rqW (n : Int) w ⟨by omega, by omega⟩ index_tb1 (enters_of Tryz.func231 (by kernel_rfl) rfl) (enters_of Tryz.func232 (by kernel_rfl) rfl) (enters_of Tryz.func233 (by kernel_rfl) rfl) impl_withRA impl_registerR impl_wordInA hl (by simp [rsR])
  · rw [← ok_eq2 R A B nm n hn]
    exact implIn 2 R A B nm 231 232 234 tlRA rsR rqA (n : Int) w ⟨by omega, by omega⟩ index_tb2 (enters_of Tryz.func231 (by kernel_rfl) rfl) (enters_of Tryz.func232 (by kernel_rfl) rfl) (enters_of Tryz.func234 (by kernel_rfl) rfl) impl_withRA impl_registerR impl_argInA hl (by simp [rsR])
  · rw [← ok_eq3 R A B nm n hn]
    exact implIn 3 R A B nm 228 229 230 tlRAB rsRAB rqY (n : Int) w ⟨by omega, by omega⟩ index_tb3 (enters_of Tryz.func228 (by kernel_rfl) rfl) (enters_of Tryz.func229 (by kernel_rfl) rfl) (enters_of Tryz.func230 (by kernel_rfl) rfl) impl_withRAB impl_registersRAB impl_nothingElse hl (by simp [rsRAB])
  · rw [← ok_eq4 R A B nm n hn]
    exact implIn 4 R A B nm 228 229 230 tlRAB rsRAB rqY (n : Int) w ⟨by omega, by omega⟩ index_tb4 (enters_of Tryz.func228 (by kernel_rfl) rfl) (enters_of Tryz.func229 (by kernel_rfl) rfl) (enters_of Tryz.func230 (by kernel_rfl) rfl) impl_withRAB impl_registersRAB impl_nothingElse hl (by simp [rsRAB])
  · rw [← ok_eq5 R A B nm n hn]
    exact implIn 5 R A B nm 228 229 230 tlRAB rsRAB rqY (n : Int) w ⟨by omega, by omega⟩ index_tb5 (enters_of Tryz.func228 (by kernel_rfl) rfl) (enters_of Tryz.func229 (by kernel_rfl) rfl) (enters_of Tryz.func230 (by kernel_rfl) rfl) impl_withRAB impl_registersRAB impl_nothingElse hl (by simp [rsRAB])
  · rw [← ok_eq6 R A B nm n hn]
    exact implIn 6 R A B nm 228 229 230 tlRAB rsRAB rqY (n : Int) w ⟨by omega, by omega⟩ index_tb6 (enters_of Tryz.func228 (by kernel_rfl) rfl) (enters_of Tryz.func229 (by kernel_rfl) rfl) (enters_of Tryz.func230 (by kernel_rfl) rfl) impl_withRAB impl_registersRAB impl_nothingElse hl (by simp [rsRAB])
  · rw [← ok_eq7 R A B nm n hn]
    exact implIn 7 R A B nm 231 232 235 tlRA rsR rqP (n : Int) w ⟨by omega, by omega⟩ index_tb7 (enters_of Tryz.func231 (by kernel_rfl) rfl) (enters_of Tryz.func232 (by kernel_rfl) rfl) (enters_of Tryz.func235 (by kernel_rfl) rfl) impl_withRA impl_registerR impl_placeInA hl (by simp [rsR])
  · rw [← ok_eq8 R A B nm n hn]
    exact implIn 8 R A B nm 236 237 235 tlA rsN rqP (n : Int) w ⟨by omega, by omega⟩ index_tb8 (enters_of Tryz.func236 (by kernel_rfl) rfl) (enters_of Tryz.func237 (by kernel_rfl) rfl) (enters_of Tryz.func235 (by kernel_rfl) rfl) impl_withA impl_noRegister impl_placeInA hl (by simp [rsN])
  · rw [← ok_eq9 R A B nm n hn]
    exact implIn 9 R A B nm 238 239 240 tlRAN rsC rqC (n : Int) w ⟨by omega, by omega⟩ index_tb9 (enters_of Tryz.func238 (by kernel_rfl) rfl) (enters_of Tryz.func239 (by kernel_rfl) rfl) (enters_of Tryz.func240 (by kernel_rfl) rfl) impl_withRAName impl_registersOfCall impl_countAndName hl (by simp [rsC])
  · rw [← ok_eq10 R A B nm n hn]
    exact implIn 10 R A B nm 241 232 230 tlR rsR rqY (n : Int) w ⟨by omega, by omega⟩ index_tb10 (enters_of Tryz.func241 (by kernel_rfl) rfl) (enters_of Tryz.func232 (by kernel_rfl) rfl) (enters_of Tryz.func230 (by kernel_rfl) rfl) impl_withR impl_registerR impl_nothingElse hl (by simp [rsR])
set_option maxHeartbeats 4000000 in
set_option maxRecDepth 100000 in
theorem implCodeOk (a : Option Addr) (len cap : Nat) (is : List In13) (w : World) (hin : InsIn w a len is) (_hint : IntIs is) (hsh : ShortI is) (hlen : len ≤ 1048576) (_hc : len ≤ cap) (_hm : cap ≤ maxLen) :
    Calls Tryz.prog 182 #[.slice a len cap] w fun e w' => e = .returned (.bool (codeB is)) ∧ Below w.heap.size w w' := by
  obtain rfl : is.length = len := hin.1
  have HI : Hid (InsIn w a is.length is) := hin
  have HS : Hid (ShortI is) := hsh
  have HL : Hid (is.length < 1 ∨ 200 < is.length → codeB is = false) := code_len
  have HNo : Hid (∀ j, j < is.length → ¬ insAt is.length (is.getD j in0) → codeB is = false) := fun j hj h => code_no hj h
  have HEn : Hid (1 ≤ is.length → is.length ≤ 200 → (∀ j, j < is.length → insAt is.length (is.getD j in0)) → codeB is = (((is.getD (is.length - 1) in0).1 == 10) || ((is.getD (is.length - 1) in0).1 == 8))) := code_end
  obtain ⟨n, hn⟩ : ∃ n, is.length = n := ⟨_, rfl⟩
  rw [hn] at HI HL HNo HEn hlen ⊢
  generalize codeB is = res at HL HNo HEn ⊢
  clear hin hsh hn _hc _hm
  by_cases h1 : (n : Int) < 1
  · have HF2 : Hid (res = false) := HL.out (Or.inl (by omega))
    clear HL HNo HEn
    go_enter Tryz.func182, Tryz.ntmps182
    go_wp2
    go_ret
    exact ⟨by rw [HF2.out]; rfl, Below.refl _ _⟩
  by_cases h2 : 200 < (n : Int)
  · have HF2 : Hid (res = false) := HL.out (Or.inr (by omega))
    clear HL HNo HEn
    go_enter Tryz.func182, Tryz.ntmps182
    go_wp2
    go_ret
    exact ⟨by rw [HF2.out]; rfl, Below.refl _ _⟩
  obtain ⟨m, hm⟩ : ∃ m, n = m + 1 := ⟨n - 1, by omega⟩
  have HM : Hid (n = m + 1) := hm
  have HEn2 : Hid ((∀ j, j < n → insAt n (is.getD j in0)) → res = (((is.getD m in0).1 == 10) || ((is.getD m in0).1 == 8))) := fun h => by
    have := HEn.out (by omega) (by omega) h
    rw [show n - 1 = m by omega] at this
    exact this
  clear hm HL HEn
  go_enter Tryz.func182, Tryz.ntmps182
  go_wp2
  go_loopw [17] (fun iv wr => ∃ i : Nat, iv = .int .i64 (i : Int) ∧ i ≤ n ∧ Hid (∀ j, j < i → insAt n (is.getD j in0)) ∧ Hid (Below w.heap.size w wr)) (fun iv _ => n - (intOf iv).toNat)
  case atStart => exact ⟨0, rfl, Nat.zero_le _, fun j hj => by omega, Below.refl _ _⟩
  case round =>
    obtain ⟨i, rfl, hi, HA, HB⟩ := hrel
    by_cases hlt : (i : Int) < (n : Int)
    · obtain ⟨b, off, rfl, hbl, c0, c1, c2, c3, c4⟩ := (HI.out.below HB.out).2 i (by omega)
      have HC : Hid (_) := fun W : World => implInsOkIn (is.getD i in0) n W (by omega) (HS.out i)
      have HNx : Hid (insAt n (is.getD i in0) → ∀ j, j < i + 1 → insAt n (is.getD j in0)) := fun h j hj => by
        by_cases e : j = i
        · rw [e]; exact h
        · exact HA.out j (by omega)
      have HNi : Hid (¬ insAt n (is.getD i in0) → res = false) := HNo.out i (by omega)
      clear HEn2 HNo HA HS
      generalize is.getD i in0 = ii at c0 c1 c2 c3 c4 HC HNx HNi
      have HD1 : Hid (decide (insAt n ii) = true → insAt n ii) := fun h => of_decide_eq_true h
      have HD2 : Hid (decide (insAt n ii) = false → ¬ insAt n ii) := fun h => of_decide_eq_false h
      generalize decide (insAt n ii) = d at HC HD1 HD2
      obtain ⟨kd, R, A, Bq, nm⟩ := ii
      unfold insVal at HC
      simp only at c0 c1 c2 c3 c4 HC
      have HB1 : Hid (Below w.heap.size w (wr.alloc (.cells #[.int .i64 kd, .int .i64 R, .int .i64 A, .int .i64 Bq, .string ⟨nm.toArray⟩] 102))) := HB.out.alloc HB.out.size _
      cases d
      · have HF : Hid (res = false) := HNi.out (HD2.out rfl)
        clear HNi HNx HD1 HD2
        go_wp2_with fail
        refine Calls.mono (HC.out _) ?_
        rintro e w1 ⟨rfl, hb1⟩
        have hB1 := HB1.out.trans (hb1.mono HB1.out.size)
        clear c0 c1 c2 c3 c4 hb1 HC HB1 HB
        go_wp2
        go_ret
        exact ⟨by rw [HF.out]; rfl, hB1⟩
      · have HN2 : Hid (_) := HNx.out (HD1.out rfl)
        clear HNi HNx HD1 HD2
        go_wp2_with fail
        refine Calls.mono (HC.out _) ?_
        rintro e w1 ⟨rfl, hb1⟩
        have hB1 := HB1.out.trans (hb1.mono HB1.out.size)
        clear c0 c1 c2 c3 c4 hb1 HC HB1 HB
        go_wp2
        go_roundw
        case rel => exact ⟨i + 1, by go_num, by omega, HN2, hB1⟩
        case measure => simp [intOf]; omega
    · have hin2 : i = n := by omega
      have HF : Hid (_) := HEn2.out (fun j hj => HA.out j (by omega))
      have hmn : m < n := by have := HM.out; omega
      obtain ⟨b, off, rfl, hbl, c0, _⟩ := (HI.out.below HB.out).2 m hmn
      have hq : (n : Int) - 1 = (m : Int) := by have := HM.out; omega
      have hmz : (m : Int) < (n : Int) := by omega
      have HBr := HB.out
      generalize (is.getD m in0).1 = kd at c0 HF
      clear hin2 HEn2 HNo HA HS HM HI HB hmn
      rcases h10 : (kd == 10) with _ | _
      · rw [h10] at HF
        go_wp2
        go_ret
        exact ⟨by rw [HF.out]; rfl, HBr⟩
      · rw [h10] at HF
        go_wp2
        go_ret
        exact ⟨by rw [HF.out]; rfl, HBr⟩

end Go.Proofs.YteolfnceobjonaaGreat

/-! Contracts of chapter 14's landed code: right routines (argsBelow, routineOk, routinesOk), calls (callsOk), ImageOk. -/
namespace Go.Proofs.YteolfnceobjonaaGreat
open Go.RowKit

set_option maxHeartbeats 2000000 in
set_option maxRecDepth 100000 in
theorem implArgsBelow (a : Option Addr) (len cap : Nat) (is : List In13) (n : Int) (w : World) (hin : InsIn w a len is) (hlen : len ≤ 1048576) :
    Calls Tryz.prog 183 #[.slice a len cap, .int .i64 n] w fun e w' => e = .returned (.bool (is.all (argB n))) ∧ Below w.heap.size w w' := by
  obtain rfl : is.length = len := hin.1
  have HI : Hid (InsIn w a is.length is) := hin
  have HAll : Hid ((∀ k, k < is.length → argB n (is.getD k in0) = true) → is.all (argB n) = true) := arg_allI.2
  have HNo : Hid (∀ k, k < is.length → argB n (is.getD k in0) = false → is.all (argB n) = false) := fun k hk h => arg_noI hk h
  have HB0 : Hid (Below w.heap.size w w) := Below.refl _ w
  obtain ⟨m, hm⟩ : ∃ m, is.length = m := ⟨_, rfl⟩
  rw [hm] at HI HAll HNo hlen ⊢
  generalize is.all (argB n) = res at HAll HNo ⊢
  clear hin hm
  go_enter Tryz.func183, Tryz.ntmps183
  go_wp2
  go_loopw [9] (fun iv wr => ∃ k : Nat, iv = .int .i64 (k : Int) ∧ k ≤ m ∧ Hid (∀ j, j < k → argB n (is.getD j in0) = true) ∧ Hid (Below w.heap.size w wr)) (fun iv _ => m - (intOf iv).toNat)
  case atStart => exact ⟨0, rfl, Nat.zero_le _, (fun j hj => absurd hj (Nat.not_lt_zero _)), HB0⟩
  case round =>
    obtain ⟨k, rfl, hk, HA, HB⟩ := hrel
    clear HB0
    by_cases hlt : (k : Int) < (m : Int)
    · obtain ⟨b, off, rfl, hbl, c0, c1, c2, c3, c4⟩ := (HI.out.below HB.out).2 k (by omega)
      have hno := HNo.out k (by omega)
      have hst : argB n (is.getD k in0) = true → ∀ j, j < k + 1 → argB n (is.getD j in0) = true := fun h j hj => by
        rcases Nat.lt_or_ge j k with g | g
        · exact HA.out j g
        · obtain rfl : j = k := by omega
          exact h
      obtain ⟨i, hi⟩ : ∃ i, is.getD k in0 = i := ⟨_, rfl⟩
      rw [hi] at c0 c1 c2 c3 c4 hno hst
      obtain ⟨ik, iR, iA, iB, inm⟩ := i
      simp only at c0 c1 c2 c3 c4
      have HB1 : Hid (Below w.heap.size w (wr.alloc (.cells #[.int .i64 ik, .int .i64 iR, .int .i64 iA, .int .i64 iB, .string ⟨inm.toArray⟩] 102))) := HB.out.alloc HB.out.size _
      unfold argB at hno hst
      simp only at hno hst
      by_cases h2 : ik = 2
      · subst h2
        by_cases hA : n ≤ iA
        · have HR : Hid (res = false) := hno (by simp [hA])
          clear hno hst hi
          go_wp2
          go_ret
          exact ⟨by rw [HR.out]; rfl, HB1.out⟩
        · have HS : Hid (∀ j, j < k + 1 → argB n (is.getD j in0) = true) := by unfold argB; exact hst (by simp [hA])
          clear hno hst hi
          go_wp2
          go_roundw
          case rel => exact ⟨k + 1, by go_num, by omega, HS, HB1⟩
          case measure => simp [intOf]; omega
      · have HS : Hid (∀ j, j < k + 1 → argB n (is.getD j in0) = true) := by unfold argB; exact hst (by simp [h2])
        clear hno hst hi
        go_wp2
        go_roundw
        case rel => exact ⟨k + 1, by go_num, by omega, HS, HB1⟩
        case measure => simp [intOf]; omega
    · obtain rfl : k = m := by omega
      have HR : Hid (res = true) := HAll.out HA.out
      go_wp2
      go_ret
      exact ⟨by rw [HR.out]; rfl, HB.out⟩

set_option maxHeartbeats 2000000 in
set_option maxRecDepth 100000 in
theorem implRoutineOk (nm : List UInt8) (ar : Int) (cd : List In13) (ca : Option Addr) (cl cc : Nat) (w : World) (hin : InsIn w ca cl cd) (hint : IntIs cd) (hsh : ShortI cd) (hlen : cl ≤ 1048576) (hc : cl ≤ cc) (hm : cc ≤ maxLen) (hn : nm.length ≤ 1048576) :
    Calls Tryz.prog 129 #[.agg #[.string ⟨nm.toArray⟩, .int .i64 ar, .slice ca cl cc]] w fun e w' => e = .returned (.bool (rtB (nm, ar, cd))) ∧ Below w.heap.size w w' := by
  obtain ⟨W, hW⟩ : ∃ W, w.alloc (.cells #[.string ⟨nm.toArray⟩, .int .i64 ar, .slice ca cl cc] 75) = W := ⟨_, rfl⟩
  have hb : Below w.heap.size w W := by rw [← hW]; exact (Below.refl _ _).alloc (Nat.le_refl _) _
  have hsW : W.heap.size = w.heap.size + 1 := by rw [← hW]; simp
  have hR : W.heap[w.heap.size]? = some (.cells #[.string ⟨nm.toArray⟩, .int .i64 ar, .slice ca cl cc] 75) := by rw [← hW]; exact heap_alloc_new w _
  have HC1 : Hid (_) := implWhole nm W hn
  have HC2 : Hid (∀ X, Below W.heap.size W X → _) := fun X (hX : Below W.heap.size W X) => implCodeOk ca cl cc cd X ((hin.below hb).below hX) hint hsh hlen hc hm
  have HC3 : Hid (∀ X, Below W.heap.size W X → _) := fun X (hX : Below W.heap.size W X) => implArgsBelow ca cl cc cd ar X ((hin.below hb).below hX) hlen
  have HB : Hid (Below w.heap.size w W) := hb
  have HQ : Hid (rtB (nm, ar, cd) = ((name13 nm && (inB ar 0 3 && codeB cd)) && cd.all (argB ar))) := rfl
  generalize rtB (nm, ar, cd) = res at HQ ⊢
  generalize name13 nm = b1 at HC1 HQ
  generalize codeB cd = b2 at HC2 HQ
  generalize cd.all (argB ar) = b3 at HC3 HQ
  obtain ⟨D, hD⟩ : ∃ D, w.heap.size = D := ⟨_, rfl⟩
  rw [hD] at hR hsW HB ⊢
  obtain ⟨q0, _, _, _⟩ := threeR (Below.refl _ W) (by omega) hR
  clear hin hint hsh hb
  go_enter Tryz.func129, Tryz.ntmps129
  go_wp2_with fail
  refine Calls.mono HC1.out ?_
  rintro e w1 ⟨rfl, hb1⟩
  obtain ⟨r0, r1, r2, _⟩ := threeR hb1 (by omega) hR
  rcases b1 with _ | _
  · have HR : Hid (res = false) := HQ.out
    go_wp2
    go_ret
    exact ⟨by rw [HR.out]; rfl, HB.out.trans (hb1.mono (by omega))⟩
  by_cases h0 : 0 ≤ ar
  · by_cases h3 : ar ≤ 3
    · go_wp2_with fail
      refine Calls.mono (HC2.out _ hb1) ?_
      rintro e w2 ⟨rfl, hb2⟩
      have hb12 := hb1.trans (hb2.mono hb1.size)
      obtain ⟨s0, s1, s2, _⟩ := threeR hb12 (by omega) hR
      rcases b2 with _ | _
      · have HR : Hid (res = false) := by exact (by rw [HQ.out]; simp : res = false)
        go_wp2
        go_ret
        exact ⟨by rw [HR.out]; rfl, HB.out.trans (hb12.mono (by omega))⟩
      · have HR : Hid (res = b3) := by exact (by rw [HQ.out]; unfold inB; simp [h0, h3] : res = b3)
        go_wp2_with fail
        refine Calls.mono (HC3.out _ hb12) ?_
        rintro e w3 ⟨rfl, hb3⟩
        have hb13 := hb12.trans (hb3.mono hb12.size)
        go_wp2
        go_ret
        exact ⟨by rw [HR.out]; rfl, HB.out.trans (hb13.mono (by omega))⟩
    · have HR : Hid (res = false) := by exact (by rw [HQ.out]; unfold inB; simp [h3] : res = false)
      go_wp2
      go_ret
      exact ⟨by rw [HR.out]; rfl, HB.out.trans (hb1.mono (by omega))⟩
  · have HR : Hid (res = false) := by exact (by rw [HQ.out]; unfold inB; simp [h0] : res = false)
    go_wp2
    go_ret
    exact ⟨by rw [HR.out]; rfl, HB.out.trans (hb1.mono (by omega))⟩

set_option maxHeartbeats 4000000 in
set_option maxRecDepth 100000 in
theorem implRoutinesOk (a : Option Addr) (len cap : Nat) (rs : List Rt) (most : Int) (w : World) (h : RtOk w a len cap rs) :
    Calls Tryz.prog 94 #[.slice a len cap, .int .i64 most] w fun e w' => e = .returned (.bool (rtsB rs most)) ∧ Below w.heap.size w w' := by
  obtain rfl : rs.length = len := h.c.1
  have HI : Hid (RtsCap w a rs.length cap rs) := h.c
  have HInt : Hid (IntR rs) := h.i
  have HSh : Hid (ShortR rs) := h.s
  have hlen := h.l
  have HFew : Hid ((rs.length : Int) < 1 ∨ most < (rs.length : Int) → rtsB rs most = false) := rtsB_few
  have HNo : Hid (∀ k, k < rs.length → rtB (rs.getD k rt0) = false → rtsB rs most = false) := fun k hk e => RrSt.noOk hk e
  have HNr : Hid (∀ k z, k < rs.length → RrSt rs k z → rtB (rs.getD k rt0) = true → leT (rs.getD k rt0).1 z = true → rtsB rs most = false) := fun k z hk hs e1 e2 => hs.noRise hk e1 e2
  have HAll : Hid (∀ z, RrSt rs rs.length z → 1 ≤ (rs.length : Int) ∧ (rs.length : Int) ≤ most → rtsB rs most = true) := fun z hs hl => hs.all hl
  have HS0 : Hid (RrSt rs 0 []) := RrSt.start rs
  have HB0 : Hid (Below w.heap.size w w) := Below.refl _ w
  obtain ⟨n, hnn⟩ : ∃ n, rs.length = n := ⟨_, rfl⟩
  have HN : Hid (rs.length = n) := hnn
  rw [hnn] at HI HFew HNo HNr HAll hlen ⊢
  generalize rtsB rs most = res at HFew HNo HNr HAll ⊢
  clear h hnn
  by_cases h1 : (n : Int) < 1
  · have HR : Hid (res = false) := HFew.out (Or.inl h1)
    go_enter Tryz.func94, Tryz.ntmps94
    go_wp2
    go_ret
    exact ⟨by rw [HR.out]; rfl, HB0.out⟩
  by_cases h2 : most < (n : Int)
  · have HR : Hid (res = false) := HFew.out (Or.inr h2)
    go_enter Tryz.func94, Tryz.ntmps94
    go_wp2
    go_ret
    exact ⟨by rw [HR.out]; rfl, HB0.out⟩
  have HL : Hid (1 ≤ (n : Int) ∧ (n : Int) ≤ most) := ⟨by omega, by omega⟩
  go_enter Tryz.func94, Tryz.ntmps94
  go_wp2
  go_loopw [5, 19] (fun zv iv wr => ∃ (k : Nat) (z : List UInt8), iv = .int .i64 (k : Int) ∧ zv = .string ⟨z.toArray⟩ ∧ k ≤ n ∧ Hid (RrSt rs k z) ∧ Hid (Below w.heap.size w wr)) (fun _ iv _ => n - (intOf iv).toNat)
  case atStart => exact ⟨0, [], rfl, rfl, Nat.zero_le _, HS0, HB0⟩
  case round =>
    obtain ⟨k, z, rfl, rfl, hk, HS, HB⟩ := hrel
    clear HB0 HS0
    by_cases hlt : (k : Int) < (n : Int)
    · obtain ⟨b, off, rfl, hbl, c0, c1, ca, cl, cc, c2, hin, hcc, hcm⟩ := (HI.out.below HB.out).2.2.2 k (by omega)
      have hno := HNo.out k (by omega)
      have hnr := HNr.out k z (by omega) HS.out
      have hst := HS.out.step
      have hint := (HInt.out k).2
      have hsh := HSh.out k
      obtain ⟨r, hrr⟩ : ∃ r, rs.getD k rt0 = r := ⟨_, rfl⟩
      rw [hrr] at c0 c1 hin hno hnr hst hint hsh
      obtain ⟨nm, ar, cd⟩ := r
      simp only at c0 c1 hin hno hnr hst hint hsh
      obtain ⟨Y, hY⟩ : ∃ Y, wr.alloc (.cells #[.string ⟨nm.toArray⟩, .int .i64 ar, .slice ca cl cc] 75) = Y := ⟨_, rfl⟩
      have hb : Below wr.heap.size wr Y := by rw [← hY]; exact (Below.refl _ _).alloc (Nat.le_refl _) _
      have hsY : Y.heap.size = wr.heap.size + 1 := by rw [← hY]; simp
      have hR : Y.heap[wr.heap.size]? = some (.cells #[.string ⟨nm.toArray⟩, .int .i64 ar, .slice ca cl cc] 75) := by rw [← hY]; exact heap_alloc_new wr _
      have HBY : Hid (Below w.heap.size w Y) := HB.out.trans (hb.mono HB.out.size)
      have hcl : cl ≤ 1048576 := by rw [← hin.1]; exact hsh.2.1
      have HC : Hid (_) := implRoutineOk nm ar cd ca cl cc Y (hin.below hb) hint hsh.2.2 hcl hcc hcm hsh.1
      obtain ⟨y0, y1, y2, _⟩ := threeR (Below.refl _ Y) (by omega) hR
      obtain ⟨E, hE⟩ : ∃ E, wr.heap.size = E := ⟨_, rfl⟩
      rw [hE] at hR hsY y0 y1 y2
      rcases hb1 : rtB (nm, ar, cd) with _ | _
      · have HR : Hid (res = false) := hno hb1
        rw [hb1] at HC
        clear hno hnr hst hint hsh hrr hb1 hin hb HS
        go_wp2_with fail
        refine Calls.mono HC.out ?_
        rintro e w1 ⟨rfl, hb1⟩
        go_wp2
        go_ret
        exact ⟨by rw [HR.out]; rfl, HBY.out.trans (hb1.mono HBY.out.size)⟩
      · rw [hb1] at HC
        rcases hle : leT nm z with _ | _
        · have HS2 : Hid (RrSt rs (k + 1) nm) := hst hb1 hle
          unfold leT at hle
          clear hno hnr hst hint hsh hrr hb1 hin hb HS
          go_wp2_with fail
          refine Calls.mono HC.out ?_
          rintro e w1 ⟨rfl, hb1⟩
          obtain ⟨r0, _, _, _⟩ := threeR hb1 (by omega) hR
          have HB2 : Hid (Below w.heap.size w w1) := HBY.out.trans (hb1.mono HBY.out.size)
          clear hb1
          go_wp2
          go_roundw
          case rel => exact ⟨k + 1, nm, by go_num, rfl, by omega, HS2, HB2⟩
          case measure => simp [intOf]; omega
        · have HR : Hid (res = false) := hnr hb1 hle
          unfold leT at hle
          clear hno hnr hst hint hsh hrr hb1 hin hb HS
          go_wp2_with fail
          refine Calls.mono HC.out ?_
          rintro e w1 ⟨rfl, hb1⟩
          obtain ⟨r0, _, _, _⟩ := threeR hb1 (by omega) hR
          have HB2 : Hid (Below w.heap.size w w1) := HBY.out.trans (hb1.mono HBY.out.size)
          clear hb1
          go_wp2
          go_ret
          exact ⟨by rw [HR.out]; rfl, HB2.out⟩
    · obtain rfl : k = n := by omega
      have HR : Hid (res = true) := HAll.out z HS.out HL.out
      go_wp2
      go_ret
      exact ⟨by rw [HR.out]; rfl, HB.out⟩

end Go.Proofs.YteolfnceobjonaaGreat

/-! The contracts of chapter 7's landed code: namesRise, importsOk. -/
namespace Go.Proofs.YteolfnceobjonaaGreat
open Go.RowKit

/-- Names, and rising. -/
def risesB (ts : List (List UInt8)) : Bool := decide (∀ i, i < ts.length → nameB (ts.getD i []) = true) && riseB ts
theorem imports_rises (ts : List (List UInt8)) : importsB ts = (decide (ts.length ≤ 6) && risesB ts) := by
  unfold importsB risesB
  cases decide (∀ i, i < ts.length → nameB (ts.getD i []) = true) <;> cases decide (ts.length ≤ 6) <;> cases riseB ts <;> rfl
structure NrSt (ts : List (List UInt8)) (k : Nat) (z : List UInt8) : Prop where
  names : ∀ i, i < k → nameB (ts.getD i []) = true
  rise : ∀ i, i + 1 < k → leT (ts.getD (i + 1) []) (ts.getD i []) = false
  last : (k = 0 ∧ z = []) ∨ (0 < k ∧ z = ts.getD (k - 1) [])
theorem NrSt.noName {ts : List (List UInt8)} {k : Nat} (hk : k < ts.length) (hn : nameB (ts.getD k []) = false) : risesB ts = false := by
  unfold risesB
  rw [decide_eq_false (fun g => by rw [g k hk] at hn; cases hn)]
  rfl
theorem leT_nil {x : List UInt8} (h : nameB x = true) : leT x [] = false := by
  have h1 := (name_letters h).1.1
  cases x with
  | nil => simp at h1
  | cons c r => simp [leT, Op.bytesLess]
theorem NrSt.noRise {ts : List (List UInt8)} {k : Nat} {z : List UInt8} (h : NrSt ts k z) (hk : k < ts.length) (hn : nameB (ts.getD k []) = true) (hl : leT (ts.getD k []) z = true) : risesB ts = false := by
  rcases h.last with ⟨rfl, rfl⟩ | ⟨h0, rfl⟩
  · rw [leT_nil hn] at hl; cases hl
  · unfold risesB
    rw [riseB_no (j := k - 1) (by omega) (by rw [show k - 1 + 1 = k by omega]; exact hl), Bool.and_false]
theorem NrSt.step {ts : List (List UInt8)} {k : Nat} {z : List UInt8} (h : NrSt ts k z) (hn : nameB (ts.getD k []) = true) (hl : leT (ts.getD k []) z = false) : NrSt ts (k + 1) (ts.getD k []) := by
  refine ⟨fun i hi => ?_, fun i hi => ?_, Or.inr ⟨by omega, by rw [Nat.add_sub_cancel]⟩⟩
  · rcases Nat.lt_or_ge i k with g | g
    · exact h.names i g
    · obtain rfl : i = k := by omega
      exact hn
  · rcases Nat.lt_or_ge (i + 1) k with g | g
    · exact h.rise i g
    · obtain rfl : k = i + 1 := by omega
      rcases h.last with ⟨e, _⟩ | ⟨_, rfl⟩
      · omega
      · rw [Nat.add_sub_cancel] at hl; exact hl
theorem NrSt.all {ts : List (List UInt8)} {z : List UInt8} (h : NrSt ts ts.length z) : risesB ts = true := by
  unfold risesB
  rw [decide_eq_true h.names, riseB_yes (j := ts.length - 1) (by omega) (fun i hi => h.rise i (by omega))]
  rfl

set_option maxHeartbeats 2000000 in
set_option maxRecDepth 100000 in
theorem implNamesRise (a : Option Addr) (len cap : Nat) (ts : List (List UInt8)) (w : World) (hin : TextsIn w a len ts) (hlen : len ≤ 1048576) (hs : ∀ i, (ts.getD i []).length ≤ 1048576) :
    Calls Tryz.prog 128 #[.slice a len cap] w fun e w' => e = .returned (.bool (risesB ts)) ∧ w' = w := by
  obtain rfl : ts.length = len := hin.1
  have HI : Hid (TextsIn w a ts.length ts) := hin
  have HS : Hid (∀ i, (ts.getD i []).length ≤ 1048576) := hs
  clear hin hs
  go_enter Tryz.func128, Tryz.ntmps128
  go_wp2
  go_loopw [3, 8] (fun lv iv wr => ∃ k : Nat, iv = .int .i64 (k : Int) ∧ k ≤ ts.length ∧ (∃ z : List UInt8, lv = .string ⟨z.toArray⟩ ∧ Hid (NrSt ts k z)) ∧ wr = w) (fun _ iv _ => ts.length - (intOf iv).toNat)
  case atStart => exact ⟨0, rfl, by omega, ⟨[], rfl, (⟨fun i hi => by omega, fun i hi => by omega, Or.inl ⟨rfl, rfl⟩⟩ : NrSt ts 0 [])⟩, rfl⟩
  case round =>
    obtain ⟨k, rfl, hk, ⟨z, rfl, HZ⟩, rfl⟩ := hrel
    by_cases hlt : (k : Int) < (ts.length : Int)
    · have hk2 : k < ts.length := by omega
      obtain ⟨b, off, rfl, hbl, c0⟩ := HI.out.2 k hk2
      have hxl := HS.out k
      obtain ⟨x, hx⟩ : ∃ x, ts.getD k [] = x := ⟨_, rfl⟩
      rw [hx] at c0 hxl
      have hC : Hid (_) := implNameOkS x wr hxl
      rcases hnb : nameB x with _ | _
      · have HR : Hid (risesB ts = false) := NrSt.noName hk2 (by rw [hx]; exact hnb)
        rw [hnb] at hC
        clear hx hnb HZ
        go_wp2_with (go_at_call 92; refine Calls.mono hC.out ?_; rintro e w1 ⟨rfl, rfl⟩)
        go_ret
        exact ⟨by rw [HR.out]; rfl, rfl⟩
      · rcases hle : leT x z with _ | _
        · have HZ2 : Hid (NrSt ts (k + 1) x) := by
            have h := HZ.out.step (by rw [hx]; exact hnb) (by rw [hx]; exact hle)
            rw [hx] at h
            exact h
          rw [hnb] at hC
          unfold leT at hle
          clear hx hnb HZ
          go_wp2_with (go_at_call 92; refine Calls.mono hC.out ?_; rintro e w1 ⟨rfl, rfl⟩)
          go_roundw
          case rel => exact ⟨k + 1, by go_num, by omega, ⟨x, rfl, HZ2⟩, trivial⟩
          case measure => simp [intOf]; omega
        · have HR : Hid (risesB ts = false) := HZ.out.noRise hk2 (by rw [hx]; exact hnb) (by rw [hx]; exact hle)
          rw [hnb] at hC
          unfold leT at hle
          clear hx hnb HZ
          go_wp2_with (go_at_call 92; refine Calls.mono hC.out ?_; rintro e w1 ⟨rfl, rfl⟩)
          go_ret
          exact ⟨by rw [HR.out]; rfl, rfl⟩
    · obtain rfl : k = ts.length := by omega
      have HR : Hid (risesB ts = true) := HZ.out.all
      go_wp2
      go_ret
      exact ⟨by rw [HR.out]; rfl, rfl⟩

set_option maxHeartbeats 1000000 in
set_option maxRecDepth 100000 in
theorem implImportsOk (a : Option Addr) (len cap : Nat) (ts : List (List UInt8)) (w : World) (hin : TextsIn w a len ts) (hlen : len ≤ 1048576) (hs : ∀ i, (ts.getD i []).length ≤ 1048576) :
    Calls Tryz.prog 93 #[.slice a len cap] w fun e w' => e = .returned (.bool (importsB ts)) ∧ w' = w := by
  have hC : Hid (_) := implNamesRise a len cap ts w hin hlen hs
  obtain rfl : ts.length = len := hin.1
  have HR : Hid (importsB ts = (decide (ts.length ≤ 6) && risesB ts)) := imports_rises ts
  clear hin hs
  go_enter Tryz.func93, Tryz.ntmps93
  by_cases h6 : (ts.length : Int) ≤ 6
  · have HD : Hid (decide (ts.length ≤ 6) = true) := decide_eq_true (by omega)
    go_wp2_with (go_at_call 128; refine Calls.mono hC.out ?_; rintro e w1 ⟨rfl, rfl⟩)
    go_ret
    exact ⟨by rw [HR.out, HD.out]; rfl, rfl⟩
  · have HD : Hid (decide (ts.length ≤ 6) = false) := decide_eq_false (by omega)
    go_wp2
    go_ret
    exact ⟨by rw [HR.out, HD.out]; rfl, rfl⟩

end Go.Proofs.YteolfnceobjonaaGreat

/-! The contract of slices.Contains at texts. -/
namespace Go.Proofs.YteolfnceobjonaaGreat
open Go.RowKit

theorem not_mem_s {l : List (List UInt8)} {x : List UInt8} (h : ∀ i, i < l.length → l.getD i [] ≠ x) : ¬ x ∈ l := fun hm => by
  obtain ⟨i, hi, e⟩ := List.mem_iff_getElem.1 hm
  exact h i hi (by simp [List.getD, hi, e])

set_option maxHeartbeats 1000000 in
set_option maxRecDepth 100000 in
theorem indexStr (a : Option Addr) (n c : Nat) (l : List (List UInt8)) (x : List UInt8) (w : World) (hin : TextsIn w a n l) (hn : n ≤ 1048576) :
    Calls Tryz.prog 185 #[.slice a n c, .string ⟨x.toArray⟩] w fun e w' => ∃ y : Int, e = .returned (.int .i64 y) ∧ Hid (0 ≤ y ↔ x ∈ l) ∧ w' = w := by
  obtain rfl : l.length = n := hin.1
  have HI : Hid (TextsIn w a l.length l) := hin
  clear hin
  go_enter Tryz.func185, Tryz.ntmps185
  go_wp2
  go_loopw [8] (fun iv wr => ∃ k : Nat, iv = .int .i64 (k : Int) ∧ k ≤ l.length ∧ Hid (∀ i, i < k → l.getD i [] ≠ x) ∧ wr = w) (fun iv _ => l.length - (intOf iv).toNat)
  case atStart => exact ⟨0, rfl, by omega, (fun i hi => by omega), rfl⟩
  case round =>
    obtain ⟨k, rfl, hk, HA, hwr⟩ := hrel
    obtain rfl := hwr.symm
    by_cases hlt : (k : Int) < (l.length : Int)
    · have hk2 : k < l.length := by omega
      obtain ⟨b, off, rfl, hbl, c0⟩ := HI.out.2 k hk2
      have hmem : l.getD k [] ∈ l := by simp [List.getD, hk2]
      obtain ⟨y, hy⟩ : ∃ y, l.getD k [] = y := ⟨_, rfl⟩
      rw [hy] at c0 hmem
      by_cases hxy : x = y
      · subst hxy
        have HM : Hid (0 ≤ (k : Int) ↔ x ∈ l) := ⟨fun _ => hmem, fun _ => by omega⟩
        have hself : (x == x) = true := by simp
        clear HA hy hmem
        go_wp2
        go_ret
        exact ⟨_, rfl, HM, rfl⟩
      · have HA2 : Hid (∀ i, i < k + 1 → l.getD i [] ≠ x) := fun i hi => by
          rcases Nat.lt_or_ge i k with h | h
          · exact HA.out i h
          · obtain rfl : i = k := by omega
            rw [hy]; exact fun e => hxy e.symm
        have hne : (x == y) = false := beq_eq_false_iff_ne.2 hxy
        clear HA hy hmem
        go_wp2
        go_roundw
        case rel => exact ⟨k + 1, by go_num, by omega, HA2, trivial⟩
        case measure => simp [intOf]; omega
    · have HM : Hid (0 ≤ (-1 : Int) ↔ x ∈ l) := ⟨fun h => by omega, fun h => absurd h (not_mem_s (fun i hi => HA.out i (by omega)))⟩
      go_wp2
      go_ret
      exact ⟨_, rfl, HM, rfl⟩
theorem containsStr (a : Option Addr) (n c : Nat) (l : List (List UInt8)) (x : List UInt8) (w : World) (hin : TextsIn w a n l) (hn : n ≤ 1048576) :
    Calls Tryz.prog 131 #[.slice a n c, .string ⟨x.toArray⟩] w fun e w' => e = .returned (.bool (decide (x ∈ l))) ∧ w' = w := by
  have hI := indexStr a n c l x w hin hn
  go_enter Tryz.func131, Tryz.ntmps131
  go_wp2_with fail
  refine hI.mono ?_
  rintro e w1 ⟨y, rfl, HM, hw⟩
  obtain rfl := hw.symm
  clear hI
  go_wp2
  go_ret
  exact ⟨by rw [decide_eq_decide.2 HM.out.symm]; rfl, rfl⟩

end Go.Proofs.YteolfnceobjonaaGreat
