/-
  Parts of one proof, one behind the other: InsS4, InsL, NodeIn, InsX, InsY.
-/
import Derived.Test.YtnpbckgaeaameaaGreatP11
import Derived.Test.YtnpbckgaeaameaaGreatP10
import Derived.Test.YtnpbckgaeaameaaGreatRows
import Derived.WalkKit
import Derived.ProofKit
import Derived.OpenShut
import Derived.ShutString
import Derived.ChangeOld
import Derived.Below
import Derived.Lib.SmallJoins
import Derived.Deep.SlicePairs

/-! The contract of chapter 13's specification: Registers. -/
namespace Go.Proofs.YtnpbckgaeaameaaGreat
open Go.RowKit

theorem mx13_step (c : List In13) (k : Nat) (h : k < c.length) : mx13 (c.take (k + 1)) = max (mx13 (c.take k)) (top13 (c.getD k in0)) := by
  have hg : c.getD k in0 = c[k] := by simp [List.getD, h]
  rw [List.take_succ_eq_append_getElem h, mx13_append, mx13_one, hg]
  have := mx13_ge (c.take k)
  omega
/-- The bounds of what a right instruction names. -/
theorem ins_bd {k R A B : Int} {nm : List UInt8} (h : insP (k, R, A, B, nm)) : (0 ≤ R ∧ R ≤ 63) ∧ (3 ≤ k ∧ k ≤ 6 → (0 ≤ A ∧ A ≤ 63) ∧ (0 ≤ B ∧ B ≤ 63)) ∧ (k = 9 → 0 ≤ A ∧ A ≤ 3) := by
  unfold insP at h
  simp only at h
  omega

set_option maxHeartbeats 4000000 in
set_option maxRecDepth 100000 in
theorem specRegisters (a : Option Addr) (len cap : Nat) (is : List In13) (w : World) (hin : InsIn w a len is) (hsh : ShortI is) (hlen : len ≤ 1048576) :
    Calls Tryz.prog 12 #[.slice a len cap] w fun e w' => e = .returned (.int .i64 (regsV is)) ∧ Below w.heap.size w w' := by
  obtain rfl : is.length = len := hin.1
  have HC : Hid (_) := specCodeOk a is.length cap is w hin hsh hlen
  rcases hc : codeB is with _ | _
  · rw [hc] at HC
    have HF : Hid (regsV is = 0) := by exact (by unfold regsV; rw [hc]; rfl : regsV is = 0)
    clear hin hc
    go_enter Tryz.func12, Tryz.ntmps12
    go_wp2_with fail
    refine Calls.mono HC.out ?_
    rintro e w1 ⟨rfl, hb1⟩
    go_wp2
    go_ret
    exact ⟨by rw [HF.out]; rfl, hb1⟩
  rw [hc] at HC
  have HI : Hid (InsIn w a is.length is) := hin
  have hcd := of_decide_eq_true hc
  have HP : Hid (∀ j, j < is.length → insP (is.getD j in0)) := fun j hj => (hcd.2.1 _ (by simp [List.getD, hj])).1
  have HR : Hid (mx13 (is.take is.length) = regsV is) := by exact (by unfold regsV; rw [if_pos hc, List.take_length] : mx13 (is.take is.length) = regsV is)
  have HSt : Hid (∀ k, k < is.length → mx13 (is.take (k + 1)) = max (mx13 (is.take k)) (top13 (is.getD k in0))) := fun k h => mx13_step is k h
  obtain ⟨n, hn⟩ : ∃ n, is.length = n := ⟨_, rfl⟩
  rw [hn] at HC HI HP HR HSt hlen ⊢
  have HMx : Hid (_) := fun (x y : Int) (W : World) => specMax12 x y W
  generalize regsV is = res at HR ⊢
  clear hin hc hcd hsh hn
  go_enter Tryz.func12, Tryz.ntmps12
  go_wp2_with fail
  refine Calls.mono HC.out ?_
  rintro e w1 ⟨rfl, hb1⟩
  have HB1 : Hid (Below w.heap.size w w1) := hb1
  clear hb1 HC
  go_wp2
  go_loopw [3, 4] (fun nv iv wr => ∃ i : Nat, ∃ m : Int, nv = .int .i64 m ∧ iv = .int .i64 (i : Int) ∧ i ≤ n ∧ 0 ≤ m ∧ m ≤ 70 ∧ Hid (mx13 (is.take i) = m) ∧ Hid (Below w.heap.size w wr)) (fun _ iv _ => n - (intOf iv).toNat)
  case atStart => exact ⟨0, 0, rfl, rfl, Nat.zero_le _, by omega, by omega, rfl, HB1⟩
  case round =>
    obtain ⟨i, m, rfl, rfl, hi, hm0, hm1, HM, HB⟩ := hrel
    clear HB1
    by_cases hlt : (i : Int) < (n : Int)
    rotate_left
    · obtain rfl : i = n := by omega
      have HF : Hid (m = res) := by exact (by rw [← HM.out, HR.out] : m = res)
      have HBr := HB.out
      clear HM HR HSt HP HI HB
      go_wp2
      go_ret
      exact ⟨by rw [← HF.out]; rfl, HBr⟩
    have hil : i < n := by omega
    obtain ⟨b, off, rfl, hbl, c0, c1, c2, c3, c4⟩ := (HI.out.below HB.out).2 i hil
    have hip := HP.out i hil
    have hst := HSt.out i hil
    rw [HM.out] at hst
    generalize is.getD i in0 = ii at c0 c1 c2 c3 c4 hip hst
    obtain ⟨kd, R, A, Bq, nm⟩ := ii
    simp only at c0 c1 c2 c3 c4
    obtain ⟨⟨hR0, hR1⟩, hAB, hA9⟩ := ins_bd hip
    have HS2 : Hid (mx13 (is.take (i + 1)) = max m (top13 (kd, R, A, Bq, nm))) := hst
    obtain ⟨⟨n0, n1, n2, n3, n4⟩, hbg⟩ := ins_new13 wr (.int .i64 kd) (.int .i64 R) (.int .i64 A) (.int .i64 Bq) (.string ⟨nm.toArray⟩) 30
    have hb2 : Below w.heap.size w (wr.alloc (.cells #[.int .i64 kd, .int .i64 R, .int .i64 A, .int .i64 Bq, .string ⟨nm.toArray⟩] 30)) := HB.out.trans (hbg.mono HB.out.size)
    obtain ⟨X, hX⟩ : ∃ X, wr.alloc (.cells #[.int .i64 kd, .int .i64 R, .int .i64 A, .int .i64 Bq, .string ⟨nm.toArray⟩] 30) = X := ⟨_, rfl⟩
    obtain ⟨N, hN⟩ : ∃ N, wr.heap.size = N := ⟨_, rfl⟩
    rw [hX] at n0 n1 n2 n3 n4 hb2
    rw [hN] at n0 n1 n2 n3 n4
    have HBX : Hid (Below w.heap.size w X) := hb2
    clear hbg hb2 hip hst HM HSt HP HI HB HR
    by_cases h8 : kd = 8
    · subst h8
      have HF : Hid (mx13 (is.take (i + 1)) = m) := by exact (by rw [HS2.out]; unfold top13; rw [if_pos rfl]; omega : mx13 (is.take (i + 1)) = m)
      clear HS2 hAB hA9
      go_wp2
      go_roundw
      case rel => exact ⟨i + 1, m, rfl, by go_num, by omega, by omega, by omega, HF, HBX⟩
      case measure => simp [intOf]; omega
    have d8 : (kd == 8) = false := beq_eq_false_iff_ne.2 h8
    by_cases h3 : kd = 3
    · subst h3
      obtain ⟨⟨hA0, hA1⟩, hB0, hB1⟩ := hAB (by omega)
      obtain ⟨ab, hab⟩ : ∃ ab, max A Bq = ab := ⟨_, rfl⟩
      have hab0 : 0 ≤ ab ∧ ab ≤ 63 := by omega
      have HF : Hid (mx13 (is.take (i + 1)) = max (max m (ab + 1)) (R + 1)) := by exact (by rw [HS2.out]; unfold top13; rw [if_neg (by simp), if_pos (by simp)]; simp only; rw [hab]; omega : mx13 (is.take (i + 1)) = max (max m (ab + 1)) (R + 1))
      obtain ⟨m1, hm1e⟩ : ∃ m1, max m (ab + 1) = m1 := ⟨_, rfl⟩
      have hm1b : 0 ≤ m1 ∧ m1 ≤ 70 := by omega
      rw [hm1e] at HF
      obtain ⟨m2, hm2e⟩ : ∃ m2, max m1 (R + 1) = m2 := ⟨_, rfl⟩
      have hm2b : 0 ≤ m2 ∧ m2 ≤ 70 := by omega
      rw [hm2e] at HF
      have HE : Hid (max A Bq = ab ∧ max m (ab + 1) = m1 ∧ max m1 (R + 1) = m2) := ⟨hab, hm1e, hm2e⟩
      clear HS2 hAB hA9 hab hm1e hm2e
      go_wp2_with fail
      refine Calls.mono (HMx.out A Bq _) ?_
      rintro e wz ⟨rfl, hz⟩
      obtain rfl := hz.symm
      clear hz
      rw [HE.out.1]
      go_wp2_with fail
      refine Calls.mono (HMx.out m (ab + 1) _) ?_
      rintro e wz ⟨rfl, hz⟩
      obtain rfl := hz.symm
      clear hz
      rw [HE.out.2.1]
      go_wp2_with fail
      refine Calls.mono (HMx.out m1 (R + 1) _) ?_
      rintro e wz ⟨rfl, hz⟩
      obtain rfl := hz.symm
      clear hz
      rw [HE.out.2.2]
      go_wp2
      go_roundw
      case rel => exact ⟨i + 1, m2, rfl, by go_num, by omega, by omega, by omega, HF, HBX⟩
      case measure => simp [intOf]; omega
    have d3 : (kd == 3) = false := beq_eq_false_iff_ne.2 h3
    by_cases h4 : kd = 4
    · subst h4
      obtain ⟨⟨hA0, hA1⟩, hB0, hB1⟩ := hAB (by omega)
      obtain ⟨ab, hab⟩ : ∃ ab, max A Bq = ab := ⟨_, rfl⟩
      have hab0 : 0 ≤ ab ∧ ab ≤ 63 := by omega
      have HF : Hid (mx13 (is.take (i + 1)) = max (max m (ab + 1)) (R + 1)) := by exact (by rw [HS2.out]; unfold top13; rw [if_neg (by simp), if_pos (by simp)]; simp only; rw [hab]; omega : mx13 (is.take (i + 1)) = max (max m (ab + 1)) (R + 1))
      obtain ⟨m1, hm1e⟩ : ∃ m1, max m (ab + 1) = m1 := ⟨_, rfl⟩
      have hm1b : 0 ≤ m1 ∧ m1 ≤ 70 := by omega
      rw [hm1e] at HF
      obtain ⟨m2, hm2e⟩ : ∃ m2, max m1 (R + 1) = m2 := ⟨_, rfl⟩
      have hm2b : 0 ≤ m2 ∧ m2 ≤ 70 := by omega
      rw [hm2e] at HF
      have HE : Hid (max A Bq = ab ∧ max m (ab + 1) = m1 ∧ max m1 (R + 1) = m2) := ⟨hab, hm1e, hm2e⟩
      clear HS2 hAB hA9 hab hm1e hm2e
      go_wp2_with fail
      refine Calls.mono (HMx.out A Bq _) ?_
      rintro e wz ⟨rfl, hz⟩
      obtain rfl := hz.symm
      clear hz
      rw [HE.out.1]
      go_wp2_with fail
      refine Calls.mono (HMx.out m (ab + 1) _) ?_
      rintro e wz ⟨rfl, hz⟩
      obtain rfl := hz.symm
      clear hz
      rw [HE.out.2.1]
      go_wp2_with fail
      refine Calls.mono (HMx.out m1 (R + 1) _) ?_
      rintro e wz ⟨rfl, hz⟩
      obtain rfl := hz.symm
      clear hz
      rw [HE.out.2.2]
      go_wp2
      go_roundw
      case rel => exact ⟨i + 1, m2, rfl, by go_num, by omega, by omega, by omega, HF, HBX⟩
      case measure => simp [intOf]; omega
    have d4 : (kd == 4) = false := beq_eq_false_iff_ne.2 h4
    by_cases h5 : kd = 5
    · subst h5
      obtain ⟨⟨hA0, hA1⟩, hB0, hB1⟩ := hAB (by omega)
      obtain ⟨ab, hab⟩ : ∃ ab, max A Bq = ab := ⟨_, rfl⟩
      have hab0 : 0 ≤ ab ∧ ab ≤ 63 := by omega
      have HF : Hid (mx13 (is.take (i + 1)) = max (max m (ab + 1)) (R + 1)) := by exact (by rw [HS2.out]; unfold top13; rw [if_neg (by simp), if_pos (by simp)]; simp only; rw [hab]; omega : mx13 (is.take (i + 1)) = max (max m (ab + 1)) (R + 1))
      obtain ⟨m1, hm1e⟩ : ∃ m1, max m (ab + 1) = m1 := ⟨_, rfl⟩
      have hm1b : 0 ≤ m1 ∧ m1 ≤ 70 := by omega
      rw [hm1e] at HF
      obtain ⟨m2, hm2e⟩ : ∃ m2, max m1 (R + 1) = m2 := ⟨_, rfl⟩
      have hm2b : 0 ≤ m2 ∧ m2 ≤ 70 := by omega
      rw [hm2e] at HF
      have HE : Hid (max A Bq = ab ∧ max m (ab + 1) = m1 ∧ max m1 (R + 1) = m2) := ⟨hab, hm1e, hm2e⟩
      clear HS2 hAB hA9 hab hm1e hm2e
      go_wp2_with fail
      refine Calls.mono (HMx.out A Bq _) ?_
      rintro e wz ⟨rfl, hz⟩
      obtain rfl := hz.symm
      clear hz
      rw [HE.out.1]
      go_wp2_with fail
      refine Calls.mono (HMx.out m (ab + 1) _) ?_
      rintro e wz ⟨rfl, hz⟩
      obtain rfl := hz.symm
      clear hz
      rw [HE.out.2.1]
      go_wp2_with fail
      refine Calls.mono (HMx.out m1 (R + 1) _) ?_
      rintro e wz ⟨rfl, hz⟩
      obtain rfl := hz.symm
      clear hz
      rw [HE.out.2.2]
      go_wp2
      go_roundw
      case rel => exact ⟨i + 1, m2, rfl, by go_num, by omega, by omega, by omega, HF, HBX⟩
      case measure => simp [intOf]; omega
    have d5 : (kd == 5) = false := beq_eq_false_iff_ne.2 h5
    by_cases h6 : kd = 6
    · subst h6
      obtain ⟨⟨hA0, hA1⟩, hB0, hB1⟩ := hAB (by omega)
      obtain ⟨ab, hab⟩ : ∃ ab, max A Bq = ab := ⟨_, rfl⟩
      have hab0 : 0 ≤ ab ∧ ab ≤ 63 := by omega
      have HF : Hid (mx13 (is.take (i + 1)) = max (max m (ab + 1)) (R + 1)) := by exact (by rw [HS2.out]; unfold top13; rw [if_neg (by simp), if_pos (by simp)]; simp only; rw [hab]; omega : mx13 (is.take (i + 1)) = max (max m (ab + 1)) (R + 1))
      obtain ⟨m1, hm1e⟩ : ∃ m1, max m (ab + 1) = m1 := ⟨_, rfl⟩
      have hm1b : 0 ≤ m1 ∧ m1 ≤ 70 := by omega
      rw [hm1e] at HF
      obtain ⟨m2, hm2e⟩ : ∃ m2, max m1 (R + 1) = m2 := ⟨_, rfl⟩
      have hm2b : 0 ≤ m2 ∧ m2 ≤ 70 := by omega
      rw [hm2e] at HF
      have HE : Hid (max A Bq = ab ∧ max m (ab + 1) = m1 ∧ max m1 (R + 1) = m2) := ⟨hab, hm1e, hm2e⟩
      clear HS2 hAB hA9 hab hm1e hm2e
      go_wp2_with fail
      refine Calls.mono (HMx.out A Bq _) ?_
      rintro e wz ⟨rfl, hz⟩
      obtain rfl := hz.symm
      clear hz
      rw [HE.out.1]
      go_wp2_with fail
      refine Calls.mono (HMx.out m (ab + 1) _) ?_
      rintro e wz ⟨rfl, hz⟩
      obtain rfl := hz.symm
      clear hz
      rw [HE.out.2.1]
      go_wp2_with fail
      refine Calls.mono (HMx.out m1 (R + 1) _) ?_
      rintro e wz ⟨rfl, hz⟩
      obtain rfl := hz.symm
      clear hz
      rw [HE.out.2.2]
      go_wp2
      go_roundw
      case rel => exact ⟨i + 1, m2, rfl, by go_num, by omega, by omega, by omega, HF, HBX⟩
      case measure => simp [intOf]; omega
    have d6 : (kd == 6) = false := beq_eq_false_iff_ne.2 h6
    by_cases h9 : kd = 9
    · subst h9
      obtain ⟨hA0, hA1⟩ := hA9 rfl
      have HF : Hid (mx13 (is.take (i + 1)) = max (max m (R + A)) (R + 1)) := by exact (by rw [HS2.out]; unfold top13; rw [if_neg (by simp), if_neg (by simp), if_pos rfl]; simp only; omega : mx13 (is.take (i + 1)) = max (max m (R + A)) (R + 1))
      obtain ⟨m1, hm1e⟩ : ∃ m1, max m (R + A) = m1 := ⟨_, rfl⟩
      have hm1b : 0 ≤ m1 ∧ m1 ≤ 70 := by omega
      rw [hm1e] at HF
      obtain ⟨m2, hm2e⟩ : ∃ m2, max m1 (R + 1) = m2 := ⟨_, rfl⟩
      have hm2b : 0 ≤ m2 ∧ m2 ≤ 70 := by omega
      rw [hm2e] at HF
      have HE : Hid (max m (R + A) = m1 ∧ max m1 (R + 1) = m2) := ⟨hm1e, hm2e⟩
      clear HS2 hAB hA9 hm1e hm2e
      go_wp2_with fail
      refine Calls.mono (HMx.out m (R + A) _) ?_
      rintro e wz ⟨rfl, hz⟩
      obtain rfl := hz.symm
      clear hz
      rw [HE.out.1]
      go_wp2_with fail
      refine Calls.mono (HMx.out m1 (R + 1) _) ?_
      rintro e wz ⟨rfl, hz⟩
      obtain rfl := hz.symm
      clear hz
      rw [HE.out.2]
      go_wp2
      go_roundw
      case rel => exact ⟨i + 1, m2, rfl, by go_num, by omega, by omega, by omega, HF, HBX⟩
      case measure => simp [intOf]; omega
    have d9 : (kd == 9) = false := beq_eq_false_iff_ne.2 h9
    have HF : Hid (mx13 (is.take (i + 1)) = max m (R + 1)) := by exact (by rw [HS2.out]; unfold top13; simp only; rw [if_neg h8, if_neg (by omega), if_neg h9] : mx13 (is.take (i + 1)) = max m (R + 1))
    obtain ⟨m2, hm2e⟩ : ∃ m2, max m (R + 1) = m2 := ⟨_, rfl⟩
    have hm2b : 0 ≤ m2 ∧ m2 ≤ 70 := by omega
    rw [hm2e] at HF
    have HE : Hid (max m (R + 1) = m2) := hm2e
    clear HS2 hAB hA9 hm2e h3 h4 h5 h6 h8 h9
    go_wp2_with fail
    refine Calls.mono (HMx.out m (R + 1) _) ?_
    rintro e wz ⟨rfl, hz⟩
    obtain rfl := hz.symm
    clear hz
    rw [HE.out]
    go_wp2
    go_roundw
    case rel => exact ⟨i + 1, m2, rfl, by go_num, by omega, by omega, by omega, HF, HBX⟩
    case measure => simp [intOf]; omega

end Go.Proofs.YtnpbckgaeaameaaGreat

/-! A row of instructions. -/
namespace Go.Proofs.YtnpbckgaeaameaaGreat
open Go.RowKit

def insV : List In13 → List Value
  | [] => []
  | i :: r => .int .i64 i.1 :: .int .i64 i.2.1 :: .int .i64 i.2.2.1 :: .int .i64 i.2.2.2.1 :: .string ⟨i.2.2.2.2.toArray⟩ :: insV r
theorem insV_len (is : List In13) : (insV is).length = is.length * 5 := by
  induction is with
  | nil => rfl
  | cons n r ih => simp only [insV, List.length_cons, ih]; omega
theorem insV_append (x y : List In13) : insV (x ++ y) = insV x ++ insV y := by
  induction x with
  | nil => rfl
  | cons n r ih => simp only [List.cons_append, insV, ih]
theorem insV_one (is : List In13) : ∀ u ∈ insV is, u.oneCell' = true := by
  induction is with
  | nil => intro u hu; cases hu
  | cons n r ih =>
    intro u hu
    simp only [insV, List.mem_cons] at hu
    rcases hu with rfl | rfl | rfl | rfl | rfl | h
    · rfl
    · rfl
    · rfl
    · rfl
    · rfl
    · exact ih u h
theorem insV_at (is : List In13) (j : Nat) (hj : j < is.length) : (insV is)[j * 5]? = some (.int .i64 (is.getD j in0).1) ∧ (insV is)[j * 5 + 1]? = some (.int .i64 (is.getD j in0).2.1) ∧ (insV is)[j * 5 + 2]? = some (.int .i64 (is.getD j in0).2.2.1) ∧ (insV is)[j * 5 + 3]? = some (.int .i64 (is.getD j in0).2.2.2.1) ∧ (insV is)[j * 5 + 4]? = some (.string ⟨(is.getD j in0).2.2.2.2.toArray⟩) := by
  induction is generalizing j with
  | nil => simp at hj
  | cons n r ih =>
    cases j with
    | zero => simp [insV]
    | succ j =>
      have h := ih j (by simpa using hj)
      rw [show (j + 1) * 5 = j * 5 + 1 + 1 + 1 + 1 + 1 by omega]
      simpa [insV] using h
theorem own_ins {w : World} {base n : Nat} {v : Value} {is : List In13} (h : w.ownsRow base 30 5 v n (insV is)) : is.length = n ∧ ∃ a cap, v = .slice a n cap ∧ InsIn w a n is := by
  have hlen : is.length = n := by have := h.1; rw [insV_len] at this; omega
  refine ⟨hlen, ?_⟩
  rcases own_forms h with ⟨rfl, rfl, _⟩ | ⟨g, cp, rfl⟩
  · exact ⟨none, 0, rfl, hlen, fun j hj => by omega⟩
  · refine ⟨some ⟨g, 0, none⟩, cp, rfl, hlen, fun j hj => ?_⟩
    obtain ⟨v0, v1, v2, v3, v4⟩ := insV_at is j (by omega)
    have c0 := h.cellAt (j * 5) (by omega)
    have c1 := h.cellAt (j * 5 + 1) (by omega)
    have c2 := h.cellAt (j * 5 + 2) (by omega)
    have c3 := h.cellAt (j * 5 + 3) (by omega)
    have c4 := h.cellAt (j * 5 + 4) (by omega)
    rw [v0] at c0
    rw [v1] at c1
    rw [v2] at c2
    rw [v3] at c3
    rw [v4] at c4
    refine ⟨g, 0, rfl, (h.lt g rfl).2, ?_, ?_, ?_, ?_, ?_⟩ <;> (rw [Nat.zero_add]; assumption)
theorem infoIns : (Tryz.prog.info? 30).map (fun i => (i.zero, i.size, i.bytes)) = some (some (.agg #[.int .i64 0, .int .i64 0, .int .i64 0, .int .i64 0, .string ⟨#[]⟩]), 5, 48) := by kernel_rfl
theorem new_ins (w : World) (n : In13) : ∀ j u, (insV [n])[j]? = some u → (w.alloc (.cells #[.int .i64 n.1, .int .i64 n.2.1, .int .i64 n.2.2.1, .int .i64 n.2.2.2.1, .string ⟨n.2.2.2.2.toArray⟩] 30)).cell? ((⟨w.heap.size, 0, none⟩ : Addr).add j) = some u := by
  intro j u hu
  have e : (⟨w.heap.size, 0, none⟩ : Addr).add j = ⟨w.heap.size, j, none⟩ := by unfold Addr.add; split <;> simp_all
  rw [e]
  match j, hu with
  | 0, hu => simp [insV] at hu; subst hu; simp
  | 1, hu => simp [insV] at hu; subst hu; simp
  | 2, hu => simp [insV] at hu; subst hu; simp
  | 3, hu => simp [insV] at hu; subst hu; simp
  | 4, hu => simp [insV] at hu; subst hu; simp
  | j + 5, hu => simp [insV] at hu
theorem push_ins13 {X : World} {B n : Nat} {v : Value} {xs : List In13} (x : In13) (hv : X.ownsRow B 30 5 v n (insV xs)) (hb : B ≤ X.heap.size) (hn : n ≤ 1048576) :
    ∃ v' Y, (Builtin.append_ #[26, 26] 26 #[v, .slice (some ⟨X.heap.size, 0, none⟩) 1 1]).run Tryz.prog (X.alloc (.cells #[.int .i64 x.1, .int .i64 x.2.1, .int .i64 x.2.2.1, .int .i64 x.2.2.2.1, .string ⟨x.2.2.2.2.toArray⟩] 30)) = .ok v' Y ∧ Y.ownsRow B 30 5 v' (n + 1) (insV (xs ++ [x])) ∧ X.grownBy Y v.ownBlock := by
  obtain ⟨i0, hi, hz0, hz1, hz2⟩ := info_parts infoIns
  obtain ⟨v', Y, hrun, hown, hg, _⟩ := run_append_src (P := Tryz.prog) (X.alloc (.cells #[.int .i64 x.1, .int .i64 x.2.1, .int .i64 x.2.2.1, .int .i64 x.2.2.2.1, .string ⟨x.2.2.2.2.toArray⟩] 30)) B 26 26 30 i0 _ 5 48 Tryz.underlying26 hi hz0 hz1 hz2 rfl (by decide) _ _ _ (hv.alloc _) (.slice (some ⟨X.heap.size, 0, none⟩) 1 1) 1 (insV [x]) ⟨rfl, insV_one _, Or.inr ⟨_, 1, rfl, new_ins X x⟩⟩ (by unfold maxLen; omega) (by omega) (by simp; omega)
  refine ⟨v', Y, hrun, ?_, (World.grownBy_alloc X _ _).trans hg⟩
  rw [insV_append]
  exact hown

end Go.Proofs.YtnpbckgaeaameaaGreat

/-! A node, and a row of nodes, that came in, as the walks take them. -/
namespace Go.Proofs.YtnpbckgaeaameaaGreat
open Go.ChangeShapes Go.WideShapes Go.ChangeAt Go.RowKit Go.Joins Go.Deep


end Go.Proofs.YtnpbckgaeaameaaGreat

/-! An instruction that came in, as the walks take it; szIns, toIns. -/
namespace Go.Proofs.YtnpbckgaeaameaaGreat
open Go.ChangeShapes Go.WideShapes Go.ChangeAt Go.RowKit Go.Joins Go.Deep

/-- An instruction's numbers are numbers of 64 bits. -/
def IntI (i : In13) : Prop := (-9223372036854775808 ≤ i.1 ∧ i.1 ≤ 9223372036854775807) ∧ (-9223372036854775808 ≤ i.2.1 ∧ i.2.1 ≤ 9223372036854775807) ∧ (-9223372036854775808 ≤ i.2.2.1 ∧ i.2.2.1 ≤ 9223372036854775807) ∧ (-9223372036854775808 ≤ i.2.2.2.1 ∧ i.2.2.2.1 ≤ 9223372036854775807)

theorem five {α : Type} {cs : Array α} (h : cs.size = 5) : ∃ a b c d e, cs = #[a, b, c, d, e] := by
  obtain ⟨l⟩ := cs
  match l, h with
  | [a, b, c, d, e], _ => exact ⟨a, b, c, d, e, rfl⟩

def szI (m : Nat) (left : Int) : Int := if (m : Int) ≤ left then left - (m : Int) else -1



end Go.Proofs.YtnpbckgaeaameaaGreat

/-! The laws' own helpers over rows of instructions: szInsS, toInsS, eqIns, eqInsS; a row that came in. -/
namespace Go.Proofs.YtnpbckgaeaameaaGreat
open Go.ChangeShapes Go.WideShapes Go.ChangeAt Go.RowKit Go.Joins Go.Deep

def textsI : List In13 → Nat
  | [] => 0
  | n :: r => n.2.2.2.2.length + textsI r
theorem textsI_append (x y : List In13) : textsI (x ++ y) = textsI x + textsI y := by
  induction x with
  | nil => simp [textsI]
  | cons n r ih => simp only [List.cons_append, textsI, ih]; omega
theorem textsI_snoc (ns : List In13) (k : Nat) (hk : k < ns.length) : textsI (ns.take (k + 1)) = textsI (ns.take k) + (ns.getD k in0).2.2.2.2.length := by
  have hg : ns.getD k in0 = ns[k] := by simp [List.getD, hk]
  rw [hg, List.take_succ_eq_append_getElem hk, textsI_append]
  simp [textsI]
theorem textsI_take (ns : List In13) (k : Nat) : textsI (ns.take k) ≤ textsI ns := by
  have := textsI_append (ns.take k) (ns.drop k)
  rw [List.take_append_drop] at this
  omega
theorem textsI_at (ns : List In13) (j : Nat) : (ns.getD j in0).2.2.2.2.length ≤ textsI ns := by
  by_cases hj : j < ns.length
  · have h1 := textsI_snoc ns j hj
    have h2 := textsI_take ns (j + 1)
    omega
  · have : ns.getD j in0 = in0 := by rw [List.getD, List.getElem?_eq_none (by omega)]; rfl
    rw [this]; simp [in0]
theorem shortI_of {ns : List In13} (h : textsI ns ≤ 1048576) : ShortI ns := fun j => by have := textsI_at ns j; omega
theorem szI_yes {m : Nat} {left : Int} (h : (m : Int) ≤ left) : szI m left = left - (m : Int) := by unfold szI; rw [if_pos h]
theorem szI_no {m : Nat} {left : Int} (h : ¬ (m : Int) ≤ left) : szI m left = -1 := by unfold szI; rw [if_neg h]
def LongI (is : List In13) : Prop := ∀ j, (is.getD j in0).2.2.2.2.length ≤ maxLen
def IntIs (is : List In13) : Prop := ∀ j, IntI (is.getD j in0)
theorem intI_in0 : IntI in0 := by unfold IntI in0; decide

theorem InsIn.at {w : World} {a : Option Addr} {len : Nat} {is : List In13} (h : InsIn w a len is) (hz : 0 < len) : ∃ b off, a = some ⟨b, off, none⟩ ∧ b < w.heap.size ∧
    ∀ j, j < len → w.cell? ⟨b, off + j * 5, none⟩ = some (.int .i64 (is.getD j in0).1) ∧ w.cell? ⟨b, off + j * 5 + 1, none⟩ = some (.int .i64 (is.getD j in0).2.1) ∧ w.cell? ⟨b, off + j * 5 + 2, none⟩ = some (.int .i64 (is.getD j in0).2.2.1) ∧ w.cell? ⟨b, off + j * 5 + 3, none⟩ = some (.int .i64 (is.getD j in0).2.2.2.1) ∧ w.cell? ⟨b, off + j * 5 + 4, none⟩ = some (.string ⟨(is.getD j in0).2.2.2.2.toArray⟩) := by
  obtain ⟨b, off, rfl, hb, _⟩ := h.2 0 hz
  refine ⟨b, off, rfl, hb, fun j hj => ?_⟩
  obtain ⟨b', off', e, _, c⟩ := h.2 j hj
  simp only [Option.some.injEq, Addr.mk.injEq, and_true] at e
  obtain ⟨rfl, rfl⟩ := e
  exact c


theorem insV_set (ns : List In13) (j : Nat) (k r a b : Int) (s : List UInt8) : (((((insV ns).set (j * 5) (.int .i64 k)).set (j * 5 + 1) (.int .i64 r)).set (j * 5 + 2) (.int .i64 a)).set (j * 5 + 3) (.int .i64 b)).set (j * 5 + 4) (.string ⟨s.toArray⟩) = insV (ns.set j (k, r, a, b, s)) := by
  induction ns generalizing j with
  | nil => simp [insV]
  | cons i l ih =>
    cases j with
    | zero => simp [insV]
    | succ j => rw [show (j + 1) * 5 = j * 5 + 1 + 1 + 1 + 1 + 1 by omega]; simp [insV, ih]
theorem made_ins (n : Nat) : (madeCells (Value.agg #[.int .i64 0, .int .i64 0, .int .i64 0, .int .i64 0, .string ⟨#[]⟩]).cells (n * 5)).toList = insV (List.replicate n in0) := by
  have hc : (Value.agg #[.int .i64 0, .int .i64 0, .int .i64 0, .int .i64 0, .string ⟨#[]⟩]).cells = #[.int .i64 0, .int .i64 0, .int .i64 0, .int .i64 0, .string ⟨#[]⟩] := rfl
  rw [hc]
  apply List.ext_getElem?
  intro j
  by_cases hj : j < n * 5
  · obtain ⟨v0, v1, v2, v3, v4⟩ := insV_at (List.replicate n in0) (j / 5) (by simp; omega)
    have hg : (List.replicate n in0).getD (j / 5) in0 = in0 := by simp [List.getD, List.getElem?_replicate]; split <;> rfl
    rw [hg] at v0 v1 v2 v3 v4
    have h4 : j % 5 = 0 ∨ j % 5 = 1 ∨ j % 5 = 2 ∨ j % 5 = 3 ∨ j % 5 = 4 := by omega
    rcases h4 with h' | h' | h' | h' | h'
    · have ej : j = j / 5 * 5 := by omega
      rw [← ej] at v0
      rw [v0]
      simp [madeCells, hj, h', in0]
    · have ej : j = j / 5 * 5 + 1 := by omega
      rw [← ej] at v1
      rw [v1]
      simp [madeCells, hj, h', in0]
    · have ej : j = j / 5 * 5 + 2 := by omega
      rw [← ej] at v2
      rw [v2]
      simp [madeCells, hj, h', in0]
    · have ej : j = j / 5 * 5 + 3 := by omega
      rw [← ej] at v3
      rw [v3]
      simp [madeCells, hj, h', in0]
    · have ej : j = j / 5 * 5 + 4 := by omega
      rw [← ej] at v4
      rw [v4]
      simp [madeCells, hj, h', in0]
  · rw [List.getElem?_eq_none (by simp [madeCells]; omega), List.getElem?_eq_none (by rw [insV_len]; simp; omega)]
theorem fill_ins (ns : List In13) (k : Nat) (hk : k < ns.length) : (ns.take k ++ List.replicate (ns.length - k) in0).set k (ns.getD k in0) = ns.take (k + 1) ++ List.replicate (ns.length - (k + 1)) in0 := by
  have hg : ns.getD k in0 = ns[k] := by simp [List.getD, hk]
  rw [hg, List.set_append_right _ _ (by rw [List.length_take]; omega), List.length_take, Nat.min_eq_left (by omega), Nat.sub_self, show ns.length - k = (ns.length - (k + 1)) + 1 by omega, List.replicate_succ, List.set_cons_zero, List.take_succ_eq_append_getElem hk, List.append_assoc]
  rfl




end Go.Proofs.YtnpbckgaeaameaaGreat
