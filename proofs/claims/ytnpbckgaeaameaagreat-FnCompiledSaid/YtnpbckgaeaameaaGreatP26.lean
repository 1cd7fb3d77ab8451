/-
  Parts of one proof, one behind the other: StepD, StepE.
-/
import Derived.Test.YtnpbckgaeaameaaGreatP25
import Derived.Test.YtnpbckgaeaameaaGreatP12

/-! Contracts of chapter 13's landed code: insOkIn at every instruction; InsOk, CodeOk. -/
namespace Go.Proofs.YtnpbckgaeaameaaGreat
open Go.RowKit

theorem ok_eq1 (R A B : Int) (nm : List UInt8) (n : Nat) (_hn : n ≤ 200) : (decide (tlRA (1, R, A, B, nm) = (1, R, A, B, nm)) && regB (rsR (1, R, A, B, nm)) && rqW (1, R, A, B, nm) (n : Int)) = decide (insAt n (1, R, A, B, nm)) := by
  rw [Bool.eq_iff_iff]
  unfold tlRA rsR rqW insAt insP regB inB
  simp only [List.all_cons, List.all_nil, Bool.and_true, Bool.and_eq_true, decide_eq_true_eq, Prod.mk.injEq]
  grind
theorem ok_eq2 (R A B : Int) (nm : List UInt8) (n : Nat) (_hn : n ≤ 200) : (decide (tlRA (2, R, A, B, nm) = (2, R, A, B, nm)) && regB (rsR (2, R, A, B, nm)) && rqA (2, R, A, B, nm) (n : Int)) = decide (insAt n (2, R, A, B, nm)) := by
  rw [Bool.eq_iff_iff]
  unfold tlRA rsR rqA insAt insP regB inB
  simp only [List.all_cons, List.all_nil, Bool.and_true, Bool.and_eq_true, decide_eq_true_eq, Prod.mk.injEq]
  grind
theorem ok_eq3 (R A B : Int) (nm : List UInt8) (n : Nat) (_hn : n ≤ 200) : (decide (tlRAB (3, R, A, B, nm) = (3, R, A, B, nm)) && regB (rsRAB (3, R, A, B, nm)) && rqY (3, R, A, B, nm) (n : Int)) = decide (insAt n (3, R, A, B, nm)) := by
  rw [Bool.eq_iff_iff]
  unfold tlRAB rsRAB rqY insAt insP regB inB
  simp only [List.all_cons, List.all_nil, Bool.and_true, Bool.and_eq_true, decide_eq_true_eq, Prod.mk.injEq]
  grind
theorem ok_eq4 (R A B : Int) (nm : List UInt8) (n : Nat) (_hn : n ≤ 200) : (decide (tlRAB (4, R, A, B, nm) = (4, R, A, B, nm)) && regB (rsRAB (4, R, A, B, nm)) && rqY (4, R, A, B, nm) (n : Int)) = decide (insAt n (4, R, A, B, nm)) := by
  rw [Bool.eq_iff_iff]
  unfold tlRAB rsRAB rqY insAt insP regB inB
  simp only [List.all_cons, List.all_nil, Bool.and_true, Bool.and_eq_true, decide_eq_true_eq, Prod.mk.injEq]
  grind
theorem ok_eq5 (R A B : Int) (nm : List UInt8) (n : Nat) (_hn : n ≤ 200) : (decide (tlRAB (5, R, A, B, nm) = (5, R, A, B, nm)) && regB (rsRAB (5, R, A, B, nm)) && rqY (5, R, A, B, nm) (n : Int)) = decide (insAt n (5, R, A, B, nm)) := by
  rw [Bool.eq_iff_iff]
  unfold tlRAB rsRAB rqY insAt insP regB inB
  simp only [List.all_cons, List.all_nil, Bool.and_true, Bool.and_eq_true, decide_eq_true_eq, Prod.mk.injEq]
  grind
theorem ok_eq6 (R A B : Int) (nm : List UInt8) (n : Nat) (_hn : n ≤ 200) : (decide (tlRAB (6, R, A, B, nm) = (6, R, A, B, nm)) && regB (rsRAB (6, R, A, B, nm)) && rqY (6, R, A, B, nm) (n : Int)) = decide (insAt n (6, R, A, B, nm)) := by
  rw [Bool.eq_iff_iff]
  unfold tlRAB rsRAB rqY insAt insP regB inB
  simp only [List.all_cons, List.all_nil, Bool.and_true, Bool.and_eq_true, decide_eq_true_eq, Prod.mk.injEq]
  grind
theorem ok_eq7 (R A B : Int) (nm : List UInt8) (n : Nat) (_hn : n ≤ 200) : (decide (tlRA (7, R, A, B, nm) = (7, R, A, B, nm)) && regB (rsR (7, R, A, B, nm)) && rqP (7, R, A, B, nm) (n : Int)) = decide (insAt n (7, R, A, B, nm)) := by
  rw [Bool.eq_iff_iff]
  unfold tlRA rsR rqP insAt insP regB inB
  simp only [List.all_cons, List.all_nil, Bool.and_true, Bool.and_eq_true, decide_eq_true_eq, Prod.mk.injEq]
  grind
theorem ok_eq8 (R A B : Int) (nm : List UInt8) (n : Nat) (_hn : n ≤ 200) : (decide (tlA (8, R, A, B, nm) = (8, R, A, B, nm)) && regB (rsN (8, R, A, B, nm)) && rqP (8, R, A, B, nm) (n : Int)) = decide (insAt n (8, R, A, B, nm)) := by
  rw [Bool.eq_iff_iff]
  unfold tlA rsN rqP insAt insP regB
  simp only [List.all_nil, Bool.and_true, Bool.and_eq_true, decide_eq_true_eq, Prod.mk.injEq]
  grind
theorem ok_eq9 (R A B : Int) (nm : List UInt8) (n : Nat) (_hn : n ≤ 200) : (decide (tlRAN (9, R, A, B, nm) = (9, R, A, B, nm)) && regB (rsC (9, R, A, B, nm)) && rqC (9, R, A, B, nm) (n : Int)) = decide (insAt n (9, R, A, B, nm)) := by
  have hw : (0 ≤ R ∧ R ≤ 63) → (0 ≤ A ∧ A ≤ 3) → wrap64 (wrap64 (R + A) - 1) = R + A - 1 := fun h1 h2 => by
    rw [IntWalk.wrap64_in (R + A) (by omega), IntWalk.wrap64_in _ (by omega)]
  rw [Bool.eq_iff_iff]
  unfold tlRAN rsC rqC insAt insP regB inB
  simp only [List.all_cons, List.all_nil, Bool.and_true, Bool.and_eq_true, decide_eq_true_eq, Prod.mk.injEq]
  generalize wrap64 (wrap64 (R + A) - 1) = z at hw ⊢
  generalize name13 nm = bn
  grind
theorem ok_eq10 (R A B : Int) (nm : List UInt8) (n : Nat) (_hn : n ≤ 200) : (decide (tlR (10, R, A, B, nm) = (10, R, A, B, nm)) && regB (rsR (10, R, A, B, nm)) && rqY (10, R, A, B, nm) (n : Int)) = decide (insAt n (10, R, A, B, nm)) := by
  rw [Bool.eq_iff_iff]
  unfold tlR rsR rqY insAt insP regB inB
  simp only [List.all_cons, List.all_nil, Bool.and_true, Bool.and_eq_true, decide_eq_true_eq, Prod.mk.injEq]
  grind
theorem ok_out {k R A B : Int} {nm : List UInt8} {n : Nat} (hk : k < 1 ∨ 10 < k) : decide (insAt n (k, R, A, B, nm)) = false := by
  refine decide_eq_false (fun h => ?_)
  have h2 := h.1.2.2
  simp only at h2
  omega
set_option maxHeartbeats 1000000 in
set_option maxRecDepth 100000 in
theorem implInNo0 (k R A B : Int) (nm : List UInt8) (n : Int) (w : World) (hk : k < 1) : Calls Tryz.prog 32 #[insVal (k, R, A, B, nm), .int .i64 n] w fun e w' => e = .returned (.bool false) ∧ Below w.heap.size w w' := by
  unfold insVal
  dsimp only
  go_enter Tryz.func32, Tryz.ntmps32
  go_wp2
  go_ret
  exact ⟨rfl, (Below.refl _ w).alloc (Nat.le_refl _) _⟩
set_option maxHeartbeats 1000000 in
set_option maxRecDepth 100000 in
theorem implInNo1 (k R A B : Int) (nm : List UInt8) (n : Int) (w : World) (hk : 10 < k) : Calls Tryz.prog 32 #[insVal (k, R, A, B, nm), .int .i64 n] w fun e w' => e = .returned (.bool false) ∧ Below w.heap.size w w' := by
  unfold insVal
  dsimp only
  have hk1 : ¬ k < 1 := by omega
  go_enter Tryz.func32, Tryz.ntmps32
  go_wp2
  go_ret
  exact ⟨rfl, (Below.refl _ w).alloc (Nat.le_refl _) _⟩
theorem implInsOkIn (i : In13) (n : Nat) (w : World) (hn : n ≤ 200) (hl : i.2.2.2.2.length ≤ 1048576) : Calls Tryz.prog 32 #[insVal i, .int .i64 (n : Int)] w fun e w' => e = .returned (.bool (decide (insAt n i))) ∧ Below w.heap.size w w' := by
  obtain ⟨k, R, A, B, nm⟩ := i
  dsimp only at hl
  by_cases h1 : k < 1
  · rw [ok_out (Or.inl h1)]
    exact implInNo0 k R A B nm _ w h1
  by_cases h2 : 10 < k
  · rw [ok_out (Or.inr h2)]
    exact implInNo1 k R A B nm _ w h2
  have hk : k = 1 ∨ k = 2 ∨ k = 3 ∨ k = 4 ∨ k = 5 ∨ k = 6 ∨ k = 7 ∨ k = 8 ∨ k = 9 ∨ k = 10 := by omega
  clear h1 h2
  rcases hk with rfl | rfl | rfl | rfl | rfl | rfl | rfl | rfl | rfl | rfl
  · rw [← ok_eq1 R A B nm n hn]
    exact implIn 1 R A B nm 56 57 58 tlRA rsR rqW (n : Int) w ⟨by omega, by omega⟩ index_tb1 (enters_of Tryz.func56 (by kernel_rfl) rfl) (enters_of Tryz.func57 (by kernel_rfl) rfl) (enters_of Tryz.func58 (by kernel_rfl) rfl) impl_withRA impl_registerR impl_wordInA hl (by simp [rsR])
  · rw [← ok_eq2 R A B nm n hn]
    exact implIn 2 R A B nm 56 57 59 tlRA rsR rqA (n : Int) w ⟨by omega, by omega⟩ index_tb2 (enters_of Tryz.func56 (by kernel_rfl) rfl) (enters_of Tryz.func57 (by kernel_rfl) rfl) (enters_of Tryz.func59 (by kernel_rfl) rfl) impl_withRA impl_registerR impl_argInA hl (by simp [rsR])
  · rw [← ok_eq3 R A B nm n hn]
    exact implIn 3 R A B nm 53 54 55 tlRAB rsRAB rqY (n : Int) w ⟨by omega, by omega⟩ index_tb3 (enters_of Tryz.func53 (by kernel_rfl) rfl) (enters_of Tryz.func54 (by kernel_rfl) rfl) (enters_of Tryz.func55 (by kernel_rfl) rfl) impl_withRAB impl_registersRAB impl_nothingElse hl (by simp [rsRAB])
  · rw [← ok_eq4 R A B nm n hn]
    exact implIn 4 R A B nm 53 54 55 tlRAB rsRAB rqY (n : Int) w ⟨by omega, by omega⟩ index_tb4 (enters_of Tryz.func53 (by kernel_rfl) rfl) (enters_of Tryz.func54 (by kernel_rfl) rfl) (enters_of Tryz.func55 (by kernel_rfl) rfl) impl_withRAB impl_registersRAB impl_nothingElse hl (by simp [rsRAB])
  · rw [← ok_eq5 R A B nm n hn]
    exact implIn 5 R A B nm 53 54 55 tlRAB rsRAB rqY (n : Int) w ⟨by omega, by omega⟩ index_tb5 (enters_of Tryz.func53 (by kernel_rfl) rfl) (enters_of Tryz.func54 (by kernel_rfl) rfl) (enters_of Tryz.func55 (by kernel_rfl) rfl) impl_withRAB impl_registersRAB impl_nothingElse hl (by simp [rsRAB])
  · rw [← ok_eq6 R A B nm n hn]
    exact implIn 6 R A B nm 53 54 55 tlRAB rsRAB rqY (n : Int) w ⟨by omega, by omega⟩ index_tb6 (enters_of Tryz.func53 (by kernel_rfl) rfl) (enters_of Tryz.func54 (by kernel_rfl) rfl) (enters_of Tryz.func55 (by kernel_rfl) rfl) impl_withRAB impl_registersRAB impl_nothingElse hl (by simp [rsRAB])
  · rw [← ok_eq7 R A B nm n hn]
    exact implIn 7 R A B nm 56 57 60 tlRA rsR rqP (n : Int) w ⟨by omega, by omega⟩ index_tb7 (enters_of Tryz.func56 (by kernel_rfl) rfl) (enters_of Tryz.func57 (by kernel_rfl) rfl) (enters_of Tryz.func60 (by kernel_rfl) rfl) impl_withRA impl_registerR impl_placeInA hl (by simp [rsR])
  · rw [← ok_eq8 R A B nm n hn]
    exact implIn 8 R A B nm 61 62 60 tlA rsN rqP (n : Int) w ⟨by omega, by omega⟩ index_tb8 (enters_of Tryz.func61 (by kernel_rfl) rfl) (enters_of Tryz.func62 (by kernel_rfl) rfl) (enters_of Tryz.func60 (by kernel_rfl) rfl) impl_withA impl_noRegister impl_placeInA hl (by simp [rsN])
  · rw [← ok_eq9 R A B nm n hn]
    exact implIn 9 R A B nm 63 64 65 tlRAN rsC rqC (n : Int) w ⟨by omega, by omega⟩ index_tb9 (enters_of Tryz.func63 (by kernel_rfl) rfl) (enters_of Tryz.func64 (by kernel_rfl) rfl) (enters_of Tryz.func65 (by kernel_rfl) rfl) impl_withRAName impl_registersOfCall impl_countAndName hl (by simp [rsC])
  · rw [← ok_eq10 R A B nm n hn]
    exact implIn 10 R A B nm 66 57 55 tlR rsR rqY (n : Int) w ⟨by omega, by omega⟩ index_tb10 (enters_of Tryz.func66 (by kernel_rfl) rfl) (enters_of Tryz.func57 (by kernel_rfl) rfl) (enters_of Tryz.func55 (by kernel_rfl) rfl) impl_withR impl_registerR impl_nothingElse hl (by simp [rsR])
theorem insAt_all (i : In13) : decide (insAt 200 i) = insB i := by
  unfold insB
  refine decide_eq_decide.2 ⟨fun h => h.1, fun h => ⟨h, fun e => ?_⟩⟩
  have h2 := h.2.2
  omega
set_option maxHeartbeats 1000000 in
set_option maxRecDepth 100000 in
theorem implInsOk (i : In13) (w : World) (_hint : IntI i) (hl : i.2.2.2.2.length ≤ 1048576) :
    Calls Tryz.prog 15 #[insVal i] w fun e w' => e = .returned (.bool (insB i)) ∧ Below w.heap.size w w' := by
  have HC : Hid (∀ W, Calls Tryz.prog 32 #[insVal i, .int .i64 200] W fun e w' => e = .returned (.bool (insB i)) ∧ Below W.heap.size W w') := fun W => by
    have h := implInsOkIn i 200 W (Nat.le_refl _) hl
    rw [insAt_all] at h
    exact h
  generalize insB i = b at HC ⊢
  obtain ⟨k, R, A, B, nm⟩ := i
  unfold insVal at HC ⊢
  dsimp only at HC ⊢
  have HB : Hid (Below w.heap.size w (w.alloc (.cells #[.int .i64 k, .int .i64 R, .int .i64 A, .int .i64 B, .string ⟨nm.toArray⟩] 30))) := (Below.refl _ w).alloc (Nat.le_refl _) _
  go_enter Tryz.func15, Tryz.ntmps15
  go_wp2_with fail
  refine Calls.mono (HC.out _) ?_
  rintro e w1 ⟨rfl, hb1⟩
  go_wp2
  go_ret
  exact ⟨rfl, HB.out.trans (hb1.mono HB.out.size)⟩
set_option maxHeartbeats 4000000 in
set_option maxRecDepth 100000 in
theorem implCodeOk (a : Option Addr) (len cap : Nat) (is : List In13) (w : World) (hin : InsIn w a len is) (_hint : IntIs is) (hsh : ShortI is) (hlen : len ≤ 1048576) (_hc : len ≤ cap) (_hm : cap ≤ maxLen) :
    Calls Tryz.prog 13 #[.slice a len cap] w fun e w' => e = .returned (.bool (codeB is)) ∧ Below w.heap.size w w' := by
  obtain rfl : is.length = len := hin.1
  have HI : Hid (InsIn w a is.length is) := hin
  have HS : Hid (ShortI is) := hsh
  have HL : Hid (is.length < 1 ∨ 200 < is.length → codeB is = false) := code_len
  have HNo : Hid (∀ j, j < is.length → ¬ insAt is.length (is.getD j in0) → codeB is = false) := fun j hj h => code_no hj h
  have HEn : Hid (1 ≤ is.length → is.length ≤ 200 → (∀ j, j < is.length → insAt is.length (is.getD j in0)) → codeB is = (((is.getD (is.length - 1) in0).1 == 10) || ((is.getD (is.length - 1) in0).1 == 8))) := code_end
  obtain ⟨n, hn⟩ : ∃ n, is.length = n := ⟨_, rfl⟩
  rw [hn] at HI HL HNo HEn hlen ⊢
  generalize codeB is = res at HL HNo HEn ⊢
  clear hin hsh hn _hc _hm
  by_cases h1 : (n : Int) < 1
  · have HF2 : Hid (res = false) := HL.out (Or.inl (by omega))
    clear HL HNo HEn
    go_enter Tryz.func13, Tryz.ntmps13
    go_wp2
    go_ret
    exact ⟨by rw [HF2.out]; rfl, Below.refl _ _⟩
  by_cases h2 : 200 < (n : Int)
  · have HF2 : Hid (res = false) := HL.out (Or.inr (by omega))
    clear HL HNo HEn
    go_enter Tryz.func13, Tryz.ntmps13
    go_wp2
    go_ret
    exact ⟨by rw [HF2.out]; rfl, Below.refl _ _⟩
  obtain ⟨m, hm⟩ : ∃ m, n = m + 1 := ⟨n - 1, by omega⟩
  have HM : Hid (n = m + 1) := hm
  have HEn2 : Hid ((∀ j, j < n → insAt n (is.getD j in0)) → res = (((is.getD m in0).1 == 10) || ((is.getD m in0).1 == 8))) := fun h => by
    have := HEn.out (by omega) (by omega) h
    rw [show n - 1 = m by omega] at this
    exact this
  clear hm HL HEn
  go_enter Tryz.func13, Tryz.ntmps13
  go_wp2
  go_loopw [17] (fun iv wr => ∃ i : Nat, iv = .int .i64 (i : Int) ∧ i ≤ n ∧ Hid (∀ j, j < i → insAt n (is.getD j in0)) ∧ Hid (Below w.heap.size w wr)) (fun iv _ => n - (intOf iv).toNat)
  case atStart => exact ⟨0, rfl, Nat.zero_le _, fun j hj => by omega, Below.refl _ _⟩
  case round =>
    obtain ⟨i, rfl, hi, HA, HB⟩ := hrel
    by_cases hlt : (i : Int) < (n : Int)
    · obtain ⟨b, off, rfl, hbl, c0, c1, c2, c3, c4⟩ := (HI.out.below HB.out).2 i (by omega)
      have HC : Hid (_) := fun W : World => implInsOkIn (is.getD i in0) n W (by omega) (HS.out i)
      have HNx : Hid (insAt n (is.getD i in0) → ∀ j, j < i + 1 → insAt n (is.getD j in0)) := fun h j hj => by
        by_cases e : j = i
        · rw [e]; exact h
        · exact HA.out j (by omega)
      have HNi : Hid (¬ insAt n (is.getD i in0) → res = false) := HNo.out i (by omega)
      clear HEn2 HNo HA HS
      generalize is.getD i in0 = ii at c0 c1 c2 c3 c4 HC HNx HNi
      have HD1 : Hid (decide (insAt n ii) = true → insAt n ii) := fun h => of_decide_eq_true h
      have HD2 : Hid (decide (insAt n ii) = false → ¬ insAt n ii) := fun h => of_decide_eq_false h
      generalize decide (insAt n ii) = d at HC HD1 HD2
      obtain ⟨kd, R, A, Bq, nm⟩ := ii
      unfold insVal at HC
      simp only at c0 c1 c2 c3 c4 HC
      have HB1 : Hid (Below w.heap.size w (wr.alloc (.cells #[.int .i64 kd, .int .i64 R, .int .i64 A, .int .i64 Bq, .string ⟨nm.toArray⟩] 30))) := HB.out.alloc HB.out.size _
      cases d
      · have HF : Hid (res = false) := HNi.out (HD2.out rfl)
        clear HNi HNx HD1 HD2
        go_wp2_with fail
        refine Calls.mono (HC.out _) ?_
        rintro e w1 ⟨rfl, hb1⟩
        have hB1 := HB1.out.trans (hb1.mono HB1.out.size)
        clear c0 c1 c2 c3 c4 hb1 HC HB1 HB
        go_wp2
        go_ret
        exact ⟨by rw [HF.out]; rfl, hB1⟩
      · have HN2 : Hid (_) := HNx.out (HD1.out rfl)
        clear HNi HNx HD1 HD2
        go_wp2_with fail
        refine Calls.mono (HC.out _) ?_
        rintro e w1 ⟨rfl, hb1⟩
        have hB1 := HB1.out.trans (hb1.mono HB1.out.size)
        clear c0 c1 c2 c3 c4 hb1 HC HB1 HB
        go_wp2
        go_roundw
        case rel => exact ⟨i + 1, by go_num, by omega, HN2, hB1⟩
        case measure => simp [intOf]; omega
    · have hin2 : i = n := by omega
      have HF : Hid (_) := HEn2.out (fun j hj => HA.out j (by omega))
      have hmn : m < n := by have := HM.out; omega
      obtain ⟨b, off, rfl, hbl, c0, _⟩ := (HI.out.below HB.out).2 m hmn
      have hq : (n : Int) - 1 = (m : Int) := by have := HM.out; omega
      have hmz : (m : Int) < (n : Int) := by omega
      have HBr := HB.out
      generalize (is.getD m in0).1 = kd at c0 HF
      clear hin2 HEn2 HNo HA HS HM HI HB hmn
      rcases h10 : (kd == 10) with _ | _
      · rw [h10] at HF
        go_wp2
        go_ret
        exact ⟨by rw [HF.out]; rfl, HBr⟩
      · rw [h10] at HF
        go_wp2
        go_ret
        exact ⟨by rw [HF.out]; rfl, HBr⟩

end Go.Proofs.YtnpbckgaeaameaaGreat

/-! Contracts of chapter 13's landed code: Registers. -/
namespace Go.Proofs.YtnpbckgaeaameaaGreat
open Go.RowKit

/-- The greatest of m and of one more than each. -/
def up13 (rs : List Int) (m : Int) : Int := rs.foldl (fun m r => max m (r + 1)) m
theorem up13_snoc (rs : List Int) (m : Int) (j : Nat) (hj : j < rs.length) : up13 (rs.take (j + 1)) m = max (up13 (rs.take j) m) (rs.getD j 0 + 1) := by
  have hg : rs.getD j 0 = rs[j] := by simp [List.getD, hj]
  rw [hg, List.take_succ_eq_append_getElem hj]
  unfold up13
  rw [List.foldl_append]
  rfl
/-- What an instruction's step tells of its registers. -/
structure Rg13 (i : In13) (k p f : Nat) (rs : In13 → List Int) : Prop where
  kd : i.1 = (k : Int)
  lt : k < 11
  at_ : tbL[p + 1]? = some (.func (.func f) #[] #[])
  ix : ∀ (W : World) (b : Nat), (Instr.indexAt 53 (.pointer (some ⟨b, 0, none⟩)) (.int .i64 (k : Int))).run Tryz.prog W = .ok (.pointer (some ⟨b, p, none⟩)) W
  en : ∀ args w, (callFunc f args).run Tryz.prog w = .ok (.enter f args) w
  rg : Rgs f rs
  ln : (rs i).length ≤ 10
  up : ∀ m, 0 ≤ m → up13 (rs i) m = max m (top13 i)
  bd : ∀ r ∈ rs i, 0 ≤ r ∧ r ≤ 63
theorem index_at85 (k : Nat) (hk : k < 11) (W : World) (b : Nat) : (Instr.indexAt 53 (.pointer (some ⟨b, 0, none⟩)) (.int .i64 (k : Int))).run Tryz.prog W = .ok (.pointer (some ⟨b, k * 3, none⟩)) W := by
  have hu : Tryz.prog.underlying 53 = some (.array (Tryz.prog.arrayLen 53) (Tryz.prog.elem 53)) := by kernel_rfl
  have hl : Tryz.prog.arrayLen 53 = 11 := by kernel_rfl
  have he : Tryz.prog.elem 53 = 52 := by kernel_rfl
  rw [run_indexAt_array _ _ _ _ _ hu, hl, he, if_pos ⟨by omega, by omega⟩, Tryz.sizeOf52]
  simp [Result.andThen, Addr.add_mid]
theorem rg_at1 {R A B : Int} {nm : List UInt8} (h : insP (1, R, A, B, nm)) : Rg13 (1, R, A, B, nm) 1 3 57 rsR := by
  have h2 := h.2.2
  simp only at h2
  refine ⟨rfl, by omega, by kernel_rfl, fun W b => index_at85 1 (by omega) W b, enters_of Tryz.func57 (by kernel_rfl) rfl, impl_registerR, by simp [rsR], fun m hm => ?_, ?_⟩
  · have e : top13 (1, R, A, B, nm) = R + 1 := rfl
    rw [e]
    unfold up13 rsR
    simp only [List.foldl_cons, List.foldl_nil]
  · intro r hr
    unfold rsR at hr
    simp only [List.mem_cons, List.not_mem_nil, or_false] at hr
    omega
theorem rg_at2 {R A B : Int} {nm : List UInt8} (h : insP (2, R, A, B, nm)) : Rg13 (2, R, A, B, nm) 2 6 57 rsR := by
  have h2 := h.2.2
  simp only at h2
  refine ⟨rfl, by omega, by kernel_rfl, fun W b => index_at85 2 (by omega) W b, enters_of Tryz.func57 (by kernel_rfl) rfl, impl_registerR, by simp [rsR], fun m hm => ?_, ?_⟩
  · have e : top13 (2, R, A, B, nm) = R + 1 := rfl
    rw [e]
    unfold up13 rsR
    simp only [List.foldl_cons, List.foldl_nil]
  · intro r hr
    unfold rsR at hr
    simp only [List.mem_cons, List.not_mem_nil, or_false] at hr
    omega
theorem rg_at3 {R A B : Int} {nm : List UInt8} (h : insP (3, R, A, B, nm)) : Rg13 (3, R, A, B, nm) 3 9 54 rsRAB := by
  have h2 := h.2.2
  simp only at h2
  refine ⟨rfl, by omega, by kernel_rfl, fun W b => index_at85 3 (by omega) W b, enters_of Tryz.func54 (by kernel_rfl) rfl, impl_registersRAB, by simp [rsRAB], fun m hm => ?_, ?_⟩
  · have e : top13 (3, R, A, B, nm) = max (max A B + 1) (R + 1) := rfl
    rw [e]
    unfold up13 rsRAB
    simp only [List.foldl_cons, List.foldl_nil]
    omega
  · intro r hr
    unfold rsRAB at hr
    simp only [List.mem_cons, List.not_mem_nil, or_false] at hr
    omega
theorem rg_at4 {R A B : Int} {nm : List UInt8} (h : insP (4, R, A, B, nm)) : Rg13 (4, R, A, B, nm) 4 12 54 rsRAB := by
  have h2 := h.2.2
  simp only at h2
  refine ⟨rfl, by omega, by kernel_rfl, fun W b => index_at85 4 (by omega) W b, enters_of Tryz.func54 (by kernel_rfl) rfl, impl_registersRAB, by simp [rsRAB], fun m hm => ?_, ?_⟩
  · have e : top13 (4, R, A, B, nm) = max (max A B + 1) (R + 1) := rfl
    rw [e]
    unfold up13 rsRAB
    simp only [List.foldl_cons, List.foldl_nil]
    omega
  · intro r hr
    unfold rsRAB at hr
    simp only [List.mem_cons, List.not_mem_nil, or_false] at hr
    omega
theorem rg_at5 {R A B : Int} {nm : List UInt8} (h : insP (5, R, A, B, nm)) : Rg13 (5, R, A, B, nm) 5 15 54 rsRAB := by
  have h2 := h.2.2
  simp only at h2
  refine ⟨rfl, by omega, by kernel_rfl, fun W b => index_at85 5 (by omega) W b, enters_of Tryz.func54 (by kernel_rfl) rfl, impl_registersRAB, by simp [rsRAB], fun m hm => ?_, ?_⟩
  · have e : top13 (5, R, A, B, nm) = max (max A B + 1) (R + 1) := rfl
    rw [e]
    unfold up13 rsRAB
    simp only [List.foldl_cons, List.foldl_nil]
    omega
  · intro r hr
    unfold rsRAB at hr
    simp only [List.mem_cons, List.not_mem_nil, or_false] at hr
    omega
theorem rg_at6 {R A B : Int} {nm : List UInt8} (h : insP (6, R, A, B, nm)) : Rg13 (6, R, A, B, nm) 6 18 54 rsRAB := by
  have h2 := h.2.2
  simp only at h2
  refine ⟨rfl, by omega, by kernel_rfl, fun W b => index_at85 6 (by omega) W b, enters_of Tryz.func54 (by kernel_rfl) rfl, impl_registersRAB, by simp [rsRAB], fun m hm => ?_, ?_⟩
  · have e : top13 (6, R, A, B, nm) = max (max A B + 1) (R + 1) := rfl
    rw [e]
    unfold up13 rsRAB
    simp only [List.foldl_cons, List.foldl_nil]
    omega
  · intro r hr
    unfold rsRAB at hr
    simp only [List.mem_cons, List.not_mem_nil, or_false] at hr
    omega
theorem rg_at7 {R A B : Int} {nm : List UInt8} (h : insP (7, R, A, B, nm)) : Rg13 (7, R, A, B, nm) 7 21 57 rsR := by
  have h2 := h.2.2
  simp only at h2
  refine ⟨rfl, by omega, by kernel_rfl, fun W b => index_at85 7 (by omega) W b, enters_of Tryz.func57 (by kernel_rfl) rfl, impl_registerR, by simp [rsR], fun m hm => ?_, ?_⟩
  · have e : top13 (7, R, A, B, nm) = R + 1 := rfl
    rw [e]
    unfold up13 rsR
    simp only [List.foldl_cons, List.foldl_nil]
  · intro r hr
    unfold rsR at hr
    simp only [List.mem_cons, List.not_mem_nil, or_false] at hr
    omega
theorem rg_at8 {R A B : Int} {nm : List UInt8} (h : insP (8, R, A, B, nm)) : Rg13 (8, R, A, B, nm) 8 24 62 rsN := by
  have h2 := h.2.2
  simp only at h2
  refine ⟨rfl, by omega, by kernel_rfl, fun W b => index_at85 8 (by omega) W b, enters_of Tryz.func62 (by kernel_rfl) rfl, impl_noRegister, by simp [rsN], fun m hm => ?_, ?_⟩
  · show m = max m (top13 (8, R, A, B, nm))
    have e : top13 (8, R, A, B, nm) = 0 := rfl
    rw [e]
    omega
  · intro r hr
    cases hr
theorem rg_at9 {R A B : Int} {nm : List UInt8} (h : insP (9, R, A, B, nm)) : Rg13 (9, R, A, B, nm) 9 27 64 rsC := by
  have h2 := h.2.2
  simp only at h2
  refine ⟨rfl, by omega, by kernel_rfl, fun W b => index_at85 9 (by omega) W b, enters_of Tryz.func64 (by kernel_rfl) rfl, impl_registersOfCall, by simp [rsC], fun m hm => ?_, ?_⟩
  · have hw : wrap64 (wrap64 (R + A) - 1) = R + A - 1 := by rw [IntWalk.wrap64_in (R + A) (by omega), IntWalk.wrap64_in _ (by omega)]
    have e : top13 (9, R, A, B, nm) = max (R + A) (R + 1) := rfl
    rw [e]
    unfold up13 rsC
    simp only [List.foldl_cons, List.foldl_nil, hw]
    omega
  · have hw : wrap64 (wrap64 (R + A) - 1) = R + A - 1 := by rw [IntWalk.wrap64_in (R + A) (by omega), IntWalk.wrap64_in _ (by omega)]
    intro r hr
    unfold rsC at hr
    simp only [List.mem_cons, List.not_mem_nil, or_false, hw] at hr
    omega
theorem rg_at10 {R A B : Int} {nm : List UInt8} (h : insP (10, R, A, B, nm)) : Rg13 (10, R, A, B, nm) 10 30 57 rsR := by
  have h2 := h.2.2
  simp only at h2
  refine ⟨rfl, by omega, by kernel_rfl, fun W b => index_at85 10 (by omega) W b, enters_of Tryz.func57 (by kernel_rfl) rfl, impl_registerR, by simp [rsR], fun m hm => ?_, ?_⟩
  · have e : top13 (10, R, A, B, nm) = R + 1 := rfl
    rw [e]
    unfold up13 rsR
    simp only [List.foldl_cons, List.foldl_nil]
  · intro r hr
    unfold rsR at hr
    simp only [List.mem_cons, List.not_mem_nil, or_false] at hr
    omega
theorem rg_at {i : In13} (h : insP i) : ∃ k p f rs, Rg13 i k p f rs := by
  obtain ⟨k, R, A, B, nm⟩ := i
  have h2 := h.2.2
  simp only at h2
  have hk : k = 1 ∨ k = 2 ∨ k = 3 ∨ k = 4 ∨ k = 5 ∨ k = 6 ∨ k = 7 ∨ k = 8 ∨ k = 9 ∨ k = 10 := by omega
  clear h2
  rcases hk with rfl | rfl | rfl | rfl | rfl | rfl | rfl | rfl | rfl | rfl
  · exact ⟨_, _, _, _, rg_at1 h⟩
  · exact ⟨_, _, _, _, rg_at2 h⟩
  · exact ⟨_, _, _, _, rg_at3 h⟩
  · exact ⟨_, _, _, _, rg_at4 h⟩
  · exact ⟨_, _, _, _, rg_at5 h⟩
  · exact ⟨_, _, _, _, rg_at6 h⟩
  · exact ⟨_, _, _, _, rg_at7 h⟩
  · exact ⟨_, _, _, _, rg_at8 h⟩
  · exact ⟨_, _, _, _, rg_at9 h⟩
  · exact ⟨_, _, _, _, rg_at10 h⟩
theorem mx13_snoc (is : List In13) (j : Nat) (hj : j < is.length) : mx13 (is.take (j + 1)) = max (mx13 (is.take j)) (top13 (is.getD j in0)) := by
  have hg : is.getD j in0 = is[j] := by simp [List.getD, hj]
  have h0 := mx13_ge (is.take j)
  rw [hg, List.take_succ_eq_append_getElem hj, mx13_append, mx13_one]
  omega
/-- What Registers holds: the table, and below. -/
structure Rt13 (w X : World) (g : Nat) : Prop where
  t : Rb X g 0 tbL
  b : Below w.heap.size w X
theorem Rt13.below {w X Y : World} {g : Nat} (s : Rt13 w X g) (hb : Below X.heap.size X Y) : Rt13 w Y g := ⟨s.t.below hb, s.b.trans (hb.mono s.b.size)⟩
structure Ri13 (w X : World) (gt g p f : Nat) (i : In13) : Prop where
  r : Rt13 w X gt
  i : Ib w X g i
  c : X.cell? ⟨gt, p + 1, none⟩ = some (.func (.func f) #[] #[])
theorem Ri13.below {w X Y : World} {gt g p f : Nat} {i : In13} (s : Ri13 w X gt g p f i) (hb : Below X.heap.size X Y) : Ri13 w Y gt g p f i :=
  ⟨s.r.below hb, s.i.below hb, (hb.cell (p := ⟨gt, p + 1, none⟩) s.r.t.lt).trans s.c⟩
theorem Ri13.drew {w X : World} {gt g p f : Nat} {i : In13} (s : Ri13 w X gt g p f i) : Ri13 w X.drew gt g p f i := s.below ⟨rfl, rfl, rfl, Nat.le_refl _, fun _ _ => rfl⟩

set_option maxHeartbeats 8000000 in
set_option maxRecDepth 100000 in
theorem implRegistersYes (a : Option Addr) (cap : Nat) (is : List In13) (w : World) (hin : InsIn w a is.length is) (hint : IntIs is) (hsh : ShortI is) (hlen : is.length ≤ 1048576) (hc : is.length ≤ cap) (hm : cap ≤ maxLen) (hok : codeB is = true) :
    Calls Tryz.prog 11 #[.slice a is.length cap] w fun e w' => e = .returned (.int .i64 (mx13 is)) ∧ Below w.heap.size w w' := by
  have HCk : Hid (_) := implCodeOk a is.length cap is w hin hint hsh hlen hc hm
  rw [hok] at HCk
  have HIn : Hid (∀ X, Below w.heap.size w X → InsIn X a is.length is) := fun X hb => hin.below hb
  have hP : ∀ j, j < is.length → insP (is.getD j in0) := fun j hj => ((of_decide_eq_true hok).2.1 _ (by simp [List.getD, hj])).1
  have hMx : ∀ j, 0 ≤ mx13 (is.take j) := fun j => mx13_ge _
  have HRg : Hid (∀ j, j < is.length → ∃ k p f rs, Rg13 (is.getD j in0) k p f rs ∧ mx13 (is.take (j + 1)) = up13 (rs (is.getD j in0)) (mx13 (is.take j)) ∧ 0 ≤ mx13 (is.take j)) := fun j hj => by
    obtain ⟨k, p, f, rs, h⟩ := rg_at (hP j hj)
    exact ⟨k, p, f, rs, h, by rw [mx13_snoc is j hj, h.up _ (hMx j)], hMx j⟩
  have HE : Hid (∀ j, is.length ≤ j → mx13 (is.take j) = mx13 is) := fun j hj => by rw [List.take_of_length_le hj]
  have HSt : Hid (∀ X, Calls Tryz.prog 30 #[] X fun e w' => e = .returned (.agg tb) ∧ Below X.heap.size X w') := fun X => implSteps X
  have H64 : Hid (∀ j, mx13 (is.take j) ≤ 64) := fun j => by
    have hb : ∀ l : List In13, (∀ i ∈ l, insP i) → mx13 l ≤ 64 := by
      intro l
      induction l with
      | nil => intro _; decide
      | cons i r ih =>
        intro h
        have h1 := ih (fun q hq => h q (by simp [hq]))
        have h2 := (h i (by simp)).2.2
        have h3 : top13 i ≤ 64 := by
          unfold top13
          split
          · omega
          · split
            · omega
            · split <;> omega
        simp only [mx13]
        omega
    refine hb _ (fun i hi => ?_)
    have hi2 := List.mem_of_mem_take hi
    exact ((of_decide_eq_true hok).2.1 _ hi2).1
  obtain ⟨n, hn⟩ : ∃ n, is.length = n := ⟨_, rfl⟩
  rw [hn] at HCk HIn HRg HE hlen ⊢
  have hn200 : n ≤ 200 := by have := (of_decide_eq_true hok).1.2; omega
  clear hin hint hsh hc hm hok hP hMx hn
  go_enter Tryz.func11, Tryz.ntmps11
  go_wp2_with fail
  refine Calls.mono HCk.out ?_
  rintro e w1 ⟨rfl, hb1⟩
  go_wp2_with fail
  refine Calls.mono (HSt.out _) ?_
  rintro e w2 ⟨rfl, hb2⟩
  have HB2 : Hid (Below w.heap.size w w2) := hb1.trans (hb2.mono hb1.size)
  clear hb1 hb2 HCk HSt
  go_wp2_with (guard_target = wpList _ _ _ _ _ _; first | (refine list_alloc_tb rfl rfl 3 rfl (fun Y1 gt hR1 hB1 hG1 => ?_)) | (refine list_store_tb rfl _ _ rfl gt rfl rfl hR1 (fun Y2 hR2 hG2 => ?_)))
  have HS : Hid (Rt13 w Y2 gt) := by
    have b1 := HB2.out.trans (hB1.mono HB2.out.size)
    exact ⟨hR2, b1.grown hG2 b1.size (fun q e => by injection e with e; have := HB2.out.size; omega)⟩
  clear hR1 hB1 hG1 hR2 hG2 HB2
  go_loopw [4, 15] (fun mv jv wx => ∃ j : Nat, jv = .int .i64 (j : Int) ∧ j ≤ n ∧ mv = .int .i64 (mx13 (is.take j)) ∧ Hid (Rt13 w wx gt)) (fun _ jv _ => n - (intOf jv).toNat)
  case atStart => exact ⟨0, rfl, Nat.zero_le _, rfl, HS⟩
  case round =>
    obtain ⟨j, rfl, hj, rfl, st⟩ := hrel
    clear HS
    by_cases hlt : (j : Int) < (n : Int)
    · obtain ⟨b, off, rfl, hbl, c0, c1, c2, c3, c4⟩ := (HIn.out wr st.out.b).2 j (by omega)
      obtain ⟨k, p, f, rs, hrg, hup, hm0⟩ := HRg.out j (by omega)
      have HUp : Hid (mx13 (is.take (j + 1)) = up13 (rs (is.getD j in0)) (mx13 (is.take j))) := hup
      have hm64 := H64.out j
      clear hup
      generalize mx13 (is.take j) = m at HUp hm64 hm0 ⊢
      generalize is.getD j in0 = ii at c0 c1 c2 c3 c4 hrg HUp
      obtain ⟨kd, R, A, Bq, nm⟩ := ii
      obtain rfl : kd = (k : Int) := hrg.kd
      simp only at c0 c1 c2 c3 c4
      have hix := hrg.ix
      have en := hrg.en
      have HRs : Hid (∀ X, Calls Tryz.prog f #[.agg #[.int .i64 (k : Int), .int .i64 R, .int .i64 A, .int .i64 Bq, .string ⟨nm.toArray⟩]] X fun e w' => ∃ a c, e = .returned (.slice a (rs ((k : Int), R, A, Bq, nm)).length c) ∧ AsIn w' a (rs ((k : Int), R, A, Bq, nm)) ∧ Below X.heap.size X w') := fun X => hrg.rg _ X
      have HBd : Hid (∀ q, q < (rs ((k : Int), R, A, Bq, nm)).length → 0 ≤ (rs ((k : Int), R, A, Bq, nm)).getD q 0 ∧ (rs ((k : Int), R, A, Bq, nm)).getD q 0 ≤ 63) := fun q hq => hrg.bd _ (by simp [List.getD, hq])
      have hrl := hrg.ln
      have hk11 : k < 11 := hrg.lt
      have HAt : Hid (tbL[p + 1]? = some (.func (.func f) #[] #[])) := hrg.at_
      clear hrg
      generalize rs ((k : Int), R, A, Bq, nm) = rl at HRs HBd hrl HUp
      have HI0 : Hid (_) := Ib.new wr (k : Int) R A Bq nm
      have HR0 : Hid (Rt13 w (wr.alloc (.cells #[.int .i64 (k : Int), .int .i64 R, .int .i64 A, .int .i64 Bq, .string ⟨nm.toArray⟩] 30)) gt) := st.out.below ((Below.refl _ _).alloc (Nat.le_refl _) _)
      obtain ⟨g, hg⟩ : ∃ g, wr.heap.size = g := ⟨_, rfl⟩
      obtain ⟨X0, hX0⟩ : ∃ X0, wr.alloc (.cells #[.int .i64 (k : Int), .int .i64 R, .int .i64 A, .int .i64 Bq, .string ⟨nm.toArray⟩] 30) = X0 := ⟨_, rfl⟩
      go_wp2
      rw [hX0] at HI0 HR0
      rw [hg] at HI0
      have HRi : Hid (Ri13 w X0 gt g p f ((k : Int), R, A, Bq, nm)) := ⟨HR0.out, ⟨HI0.out.c0, HI0.out.c1, HI0.out.c2, HI0.out.c3, HI0.out.c4, by have := st.out.b.size; omega, HR0.out.b⟩, by have := HR0.out.t.cell (p + 1) _ HAt.out; rw [Nat.zero_add] at this; exact this⟩
      clear HI0 HR0 hX0 c0 c1 c2 c3 c4 st hg HAt hbl
      refine wp_region_held_drew (S := fun X => Ri13 w X gt g p f ((k : Int), R, A, Bq, nm)) (by kernel_rfl) HRi.out.drew (fun hHeld => ?_)
      refine wpAnyH_take (i := 0) (oi := ⟨some 19, _, _, _, _, _⟩) (v := ?v1) rfl (by kernel_rfl) (by kernel_rfl) (by kernel_rfl) (fun _ _ _ h => h) (Or.inl ⟨by rfl, ?hy1⟩) (by assumption) ?rest1
      case hy1 => (intro wq hSw; have q0 := hSw.i.c0; have q1 := hSw.i.c1; have q2 := hSw.i.c2; have q3 := hSw.i.c3; have q4 := hSw.i.c4; have q5 := hSw.c; dsimp only at q0 q1 q2 q3 q4; clear hSw; first | (go_simp; done) | (go_simp; with_reducible rfl))
      simp only [Act.put, List.setIfInBounds_toArray, List.set_cons_zero, List.set_cons_succ]
      refine wpAnyH_take (i := 1) (oi := ⟨some 20, _, _, _, _, _⟩) (v := ?v2) rfl (by kernel_rfl) (by kernel_rfl) (by kernel_rfl) (fun _ _ _ h => h) (Or.inl ⟨by rfl, ?hy2⟩) (by assumption) ?rest2
      case hy2 => (intro wq hSw; have q0 := hSw.i.c0; have q1 := hSw.i.c1; have q2 := hSw.i.c2; have q3 := hSw.i.c3; have q4 := hSw.i.c4; have q5 := hSw.c; dsimp only at q0 q1 q2 q3 q4; clear hSw; first | (go_simp; done) | (go_simp; with_reducible rfl))
      simp only [Act.put, List.setIfInBounds_toArray, List.set_cons_zero, List.set_cons_succ]
      refine wpAnyH_take (i := 2) (oi := ⟨some 21, _, _, _, _, _⟩) (v := ?v3) rfl (by kernel_rfl) (by kernel_rfl) (by kernel_rfl) (fun _ _ _ h => h) (Or.inl ⟨by rfl, ?hy3⟩) (by assumption) ?rest3
      case hy3 => (intro wq hSw; have q0 := hSw.i.c0; have q1 := hSw.i.c1; have q2 := hSw.i.c2; have q3 := hSw.i.c3; have q4 := hSw.i.c4; have q5 := hSw.c; dsimp only at q0 q1 q2 q3 q4; clear hSw; first | (go_simp; done) | (go_simp; with_reducible rfl))
      simp only [Act.put, List.setIfInBounds_toArray, List.set_cons_zero, List.set_cons_succ]
      refine wpAnyH_take (i := 3) (oi := ⟨some 22, _, _, _, _, _⟩) (v := ?v4) rfl (by kernel_rfl) (by kernel_rfl) (by kernel_rfl) (fun _ _ _ h => h) (Or.inl ⟨by rfl, ?hy4⟩) (by assumption) ?rest4
      case hy4 => (intro wq hSw; have q0 := hSw.i.c0; have q1 := hSw.i.c1; have q2 := hSw.i.c2; have q3 := hSw.i.c3; have q4 := hSw.i.c4; have q5 := hSw.c; dsimp only at q0 q1 q2 q3 q4; clear hSw; first | (go_simp; done) | (go_simp; with_reducible rfl))
      simp only [Act.put, List.setIfInBounds_toArray, List.set_cons_zero, List.set_cons_succ]
      refine wpAnyH_take (i := 4) (oi := ⟨some 23, _, _, _, _, _⟩) (v := ?v5) rfl (by kernel_rfl) (by kernel_rfl) (by kernel_rfl) (fun _ _ _ h => h) (Or.inl ⟨by rfl, ?hy5⟩) (by assumption) ?rest5
      case hy5 => (intro wq hSw; have q0 := hSw.i.c0; have q1 := hSw.i.c1; have q2 := hSw.i.c2; have q3 := hSw.i.c3; have q4 := hSw.i.c4; have q5 := hSw.c; dsimp only at q0 q1 q2 q3 q4; clear hSw; first | (go_simp; done) | (go_simp; with_reducible rfl))
      simp only [Act.put, List.setIfInBounds_toArray, List.set_cons_zero, List.set_cons_succ]
      refine wpAnyH_take (i := 5) (oi := ⟨some 24, _, _, _, _, _⟩) (v := ?v6) rfl (by kernel_rfl) (by kernel_rfl) (by kernel_rfl) (fun _ _ _ h => h) (Or.inl ⟨by rfl, ?hy6⟩) (by assumption) ?rest6
      case hy6 => (intro wq hSw; have q0 := hSw.i.c0; have q1 := hSw.i.c1; have q2 := hSw.i.c2; have q3 := hSw.i.c3; have q4 := hSw.i.c4; have q5 := hSw.c; dsimp only at q0 q1 q2 q3 q4; clear hSw; first | (go_simp; done) | (go_simp; with_reducible rfl))
      simp only [Act.put, List.setIfInBounds_toArray, List.set_cons_zero, List.set_cons_succ]
      refine wpAnyH_take (i := 8) (oi := ⟨some 27, _, _, _, _, _⟩) (v := ?v7) rfl (by kernel_rfl) (by kernel_rfl) (by kernel_rfl) (fun _ _ _ h => h) (Or.inl ⟨by rfl, ?hy7⟩) (by assumption) ?rest7
      case hy7 => (intro wq hSw; clear hSw; first | (go_simp; done) | (go_simp; with_reducible rfl))
      simp only [Act.put, List.setIfInBounds_toArray, List.set_cons_zero, List.set_cons_succ]
      refine wpAnyH_ready (rs := [6]) (by kernel_rfl) (by simp) ?_
      refine AllReadyH.cons rfl (fun K hK => ?_) AllReadyH.nil
      go_simp
      refine Calls.mono (HRs.out _) ?_
      rintro e W4 ⟨ra, rc, rfl, hA4, hb4⟩
      dsimp only
      refine hK.out _ _ (by exact hHeld.below hb4) (fun hHeld => ?_)
      clear hK K
      (try simp only [Act.put, List.setIfInBounds_toArray, List.set_cons_zero, List.set_cons_succ])
      refine wpAnyH_take (i := 7) (oi := ⟨some 26, _, _, _, _, _⟩) (v := ?v8) rfl (by kernel_rfl) (by kernel_rfl) (by kernel_rfl) (fun _ _ _ h => h) (Or.inl ⟨by rfl, ?hy8⟩) (by assumption) ?rest8
      case hy8 => (intro wq hSw; clear hSw; first | (go_simp; done) | (go_simp; with_reducible rfl))
      simp only [Act.put, List.setIfInBounds_toArray, List.set_cons_zero, List.set_cons_succ]
      refine wpAnyH_done (by kernel_rfl) ?_ _
      have HS4 : Hid (Rt13 w W4 gt) := hHeld.r
      have HA4 : Hid (AsIn W4 ra rl) := hA4
      obtain ⟨rn, hrn⟩ : ∃ rn, rl.length = rn := ⟨_, rfl⟩
      have HRn : Hid (rl.length = rn) := hrn
      rw [hrn] at HBd hrl ⊢
      clear hHeld hA4 hb4 HRi HRs hix en hrn
      go_wp2
      go_loop [4, 27] (fun mv qv => ∃ q : Nat, qv = .int .i64 (q : Int) ∧ q ≤ rn ∧ mv = .int .i64 (up13 (rl.take q) m) ∧ Hid (0 ≤ up13 (rl.take q) m ∧ up13 (rl.take q) m ≤ 64)) (fun _ qv => rn - (intOf qv).toNat)
      case atStart => exact ⟨0, rfl, Nat.zero_le _, rfl, hm0, hm64⟩
      case round =>
        obtain ⟨q, rfl, hq, rfl, HM⟩ := hrel
        by_cases hqt : (q : Int) < (rn : Int)
        · obtain ⟨b2, off2, rfl, hbl2, hc⟩ := HA4.out q (by rw [HRn.out]; omega)
          have HU : Hid (_) := up13_snoc rl m q (by rw [HRn.out]; omega)
          have hbd := HBd.out q (by omega)
          have hm1 := HM.out.1
          have hm2 := HM.out.2
          generalize up13 (rl.take q) m = u at HU hm1 hm2 ⊢
          generalize rl.getD q 0 = r at hc HU hbd
          have hr0 := hbd.1
          have hr1 := hbd.2
          have HU2 : Hid (up13 (rl.take (q + 1)) m = max u (r + 1) ∧ 0 ≤ up13 (rl.take (q + 1)) m ∧ up13 (rl.take (q + 1)) m ≤ 64) := ⟨HU.out, by rw [HU.out]; omega, by rw [HU.out]; omega⟩
          clear HU hbd
          go_wp2
          go_round
          case rel => exact ⟨q + 1, by go_num, by omega, by rw [HU2.out.1], HU2.out.2⟩
          case measure => simp [intOf]; omega
        · have HF : Hid (up13 (rl.take q) m = mx13 (is.take (j + 1))) := by exact (by rw [HUp.out, List.take_of_length_le (by rw [HRn.out]; omega)] : up13 (rl.take q) m = mx13 (is.take (j + 1)))
          go_wp2
          go_roundw
          case rel => exact ⟨j + 1, by go_num, by omega, by rw [HF.out], HS4⟩
          case measure => simp [intOf]; omega
    · have HF : Hid (mx13 (is.take j) = mx13 is) := HE.out j (by omega)
      go_wp2
      go_ret
      exact ⟨by rw [HF.out]; rfl, st.out.b⟩
set_option maxHeartbeats 1000000 in
set_option maxRecDepth 100000 in
theorem implRegisters (a : Option Addr) (len cap : Nat) (is : List In13) (w : World) (hin : InsIn w a len is) (hint : IntIs is) (hsh : ShortI is) (hlen : len ≤ 1048576) (hc : len ≤ cap) (hm : cap ≤ maxLen) :
    Calls Tryz.prog 11 #[.slice a len cap] w fun e w' => e = .returned (.int .i64 (regsV is)) ∧ Below w.heap.size w w' := by
  obtain rfl : is.length = len := hin.1
  rcases hok : codeB is with _ | _
  · have hv : regsV is = 0 := by unfold regsV; rw [hok]; rfl
    rw [hv]
    have HCk : Hid (_) := implCodeOk a is.length cap is w hin hint hsh hlen hc hm
    rw [hok] at HCk
    clear hin hok hv
    go_enter Tryz.func11, Tryz.ntmps11
    go_wp2_with fail
    refine Calls.mono HCk.out ?_
    rintro e w1 ⟨rfl, hb1⟩
    go_wp2
    go_ret
    exact ⟨rfl, hb1⟩
  · have hv : regsV is = mx13 is := by unfold regsV; rw [if_pos hok]
    rw [hv]
    exact implRegistersYes a cap is w hin hint hsh hlen hc hm hok

end Go.Proofs.YtnpbckgaeaameaaGreat
