/-
  Parts of one proof, one behind the other: InsS3, InsS4, InsL, NodeIn, InsX, InsY.
-/
import Derived.Test.YtogobeegibngiaaGreatDoorP6
import Derived.Test.YtogobeegibngiaaGreatDoorP5
import Derived.Test.YtogobeegibngiaaGreatDoorRows
import Derived.WalkKit
import Derived.ProofKit
import Derived.OpenShut
import Derived.ShutString
import Derived.ChangeOld
import Derived.Below
import Derived.Lib.SmallJoins
import Derived.Deep.SlicePairs

/-! The contract of chapter 13's specification: CodeOk. -/
namespace Go.Proofs.YtogobeegibngiaaGreatDoor
open Go.RowKit

def InsIn (w : World) (a : Option Addr) (len : Nat) (is : List In13) : Prop :=
  is.length = len ∧ ∀ j, j < len → ∃ b off, a = some ⟨b, off, none⟩ ∧ b < w.heap.size ∧ w.cell? ⟨b, off + j * 5, none⟩ = some (.int .i64 (is.getD j in0).1) ∧ w.cell? ⟨b, off + j * 5 + 1, none⟩ = some (.int .i64 (is.getD j in0).2.1) ∧ w.cell? ⟨b, off + j * 5 + 2, none⟩ = some (.int .i64 (is.getD j in0).2.2.1) ∧ w.cell? ⟨b, off + j * 5 + 3, none⟩ = some (.int .i64 (is.getD j in0).2.2.2.1) ∧ w.cell? ⟨b, off + j * 5 + 4, none⟩ = some (.string ⟨(is.getD j in0).2.2.2.2.toArray⟩)
theorem InsIn.below {w w' : World} {a : Option Addr} {len : Nat} {is : List In13} (h : InsIn w a len is) (hb : Below w.heap.size w w') : InsIn w' a len is := by
  refine ⟨h.1, fun j hj => ?_⟩
  obtain ⟨b, off, e, hlt, c0, c1, c2, c3, c4⟩ := h.2 j hj
  have hk := hb.block b hlt
  exact ⟨b, off, e, Nat.lt_of_lt_of_le hlt hb.size, (World.cell?_of_block (a := ⟨b, off + j * 5, none⟩) hk).trans c0, (World.cell?_of_block (a := ⟨b, off + j * 5 + 1, none⟩) hk).trans c1, (World.cell?_of_block (a := ⟨b, off + j * 5 + 2, none⟩) hk).trans c2, (World.cell?_of_block (a := ⟨b, off + j * 5 + 3, none⟩) hk).trans c3, (World.cell?_of_block (a := ⟨b, off + j * 5 + 4, none⟩) hk).trans c4⟩
def ShortI (is : List In13) : Prop := ∀ j, (is.getD j in0).2.2.2.2.length ≤ 1048576

theorem code_len {c : List In13} (h : c.length < 1 ∨ 200 < c.length) : codeB c = false := decide_eq_false (fun e => by have := e.1; omega)
theorem code_no {c : List In13} {j : Nat} (hj : j < c.length) (h : ¬ insAt c.length (c.getD j in0)) : codeB c = false := decide_eq_false (fun e => h (e.2.1 _ (by simp [List.getD, hj])))
theorem code_end {c : List In13} (h1 : 1 ≤ c.length) (h2 : c.length ≤ 200) (h : ∀ j, j < c.length → insAt c.length (c.getD j in0)) : codeB c = (((c.getD (c.length - 1) in0).1 == 10) || ((c.getD (c.length - 1) in0).1 == 8)) := by
  have hall : ∀ i ∈ c, insAt c.length i := fun i hi => by
    obtain ⟨j, hj, rfl⟩ := List.getElem_of_mem hi
    have := h j hj
    simpa [List.getD, hj] using this
  unfold codeB
  rw [Bool.eq_iff_iff, decide_eq_true_eq, Bool.or_eq_true, beq_iff_eq, beq_iff_eq]
  exact ⟨fun e => e.2.2, fun e => ⟨⟨h1, h2⟩, hall, e⟩⟩

set_option maxHeartbeats 4000000 in
set_option maxRecDepth 100000 in
theorem specCodeOk (a : Option Addr) (len cap : Nat) (is : List In13) (w : World) (hin : InsIn w a len is) (hsh : ShortI is) (hlen : len ≤ 1048576) :
    Calls Tryz.prog 45 #[.slice a len cap] w fun e w' => e = .returned (.bool (codeB is)) ∧ Below w.heap.size w w' := by
  obtain rfl : is.length = len := hin.1
  have HI : Hid (InsIn w a is.length is) := hin
  have HS : Hid (ShortI is) := hsh
  have HL : Hid (is.length < 1 ∨ 200 < is.length → codeB is = false) := code_len
  have HNo : Hid (∀ j, j < is.length → ¬ insAt is.length (is.getD j in0) → codeB is = false) := fun j hj h => code_no hj h
  have HEn : Hid (1 ≤ is.length → is.length ≤ 200 → (∀ j, j < is.length → insAt is.length (is.getD j in0)) → codeB is = (((is.getD (is.length - 1) in0).1 == 10) || ((is.getD (is.length - 1) in0).1 == 8))) := code_end
  obtain ⟨n, hn⟩ : ∃ n, is.length = n := ⟨_, rfl⟩
  rw [hn] at HI HL HNo HEn hlen ⊢
  generalize codeB is = res at HL HNo HEn ⊢
  clear hin hsh hn
  by_cases h1 : (n : Int) < 1
  · have HF := HL.out (Or.inl (by omega))
    have HF2 : Hid (res = false) := HF
    clear HF HL HNo HEn
    go_enter Tryz.func45, Tryz.ntmps45
    go_wp2
    go_ret
    exact ⟨by rw [HF2.out]; rfl, Below.refl _ _⟩
  by_cases h2 : 200 < (n : Int)
  · have HF2 : Hid (res = false) := HL.out (Or.inr (by omega))
    clear HL HNo HEn
    go_enter Tryz.func45, Tryz.ntmps45
    go_wp2
    go_ret
    exact ⟨by rw [HF2.out]; rfl, Below.refl _ _⟩
  obtain ⟨m, hm⟩ : ∃ m, n = m + 1 := ⟨n - 1, by omega⟩
  have HM : Hid (n = m + 1) := hm
  have HEn2 : Hid ((∀ j, j < n → insAt n (is.getD j in0)) → res = (((is.getD m in0).1 == 10) || ((is.getD m in0).1 == 8))) := fun h => by
    have := HEn.out (by omega) (by omega) h
    rw [show n - 1 = m by omega] at this
    exact this
  clear hm HL HEn
  go_enter Tryz.func45, Tryz.ntmps45
  go_wp2
  go_loopw [4] (fun iv wr => ∃ i : Nat, iv = .int .i64 (i : Int) ∧ i ≤ n ∧ Hid (∀ j, j < i → insAt n (is.getD j in0)) ∧ Hid (Below w.heap.size w wr)) (fun iv _ => n - (intOf iv).toNat)
  case atStart => exact ⟨0, rfl, Nat.zero_le _, fun j hj => by omega, Below.refl _ _⟩
  case round =>
    obtain ⟨i, rfl, hi, HA, HB⟩ := hrel
    by_cases hlt : (i : Int) < (n : Int)
    · obtain ⟨b, off, rfl, hbl, c0, c1, c2, c3, c4⟩ := (HI.out.below HB.out).2 i (by omega)
      have HC : Hid (_) := fun W : World => specInsOk (is.getD i in0) W (HS.out i)
      have HNx : Hid (insAt n (is.getD i in0) → ∀ j, j < i + 1 → insAt n (is.getD j in0)) := fun h j hj => by
        by_cases e : j = i
        · rw [e]; exact h
        · exact HA.out j (by omega)
      have HNi : Hid (¬ insAt n (is.getD i in0) → res = false) := HNo.out i (by omega)
      clear HEn2 HNo HA HS
      generalize is.getD i in0 = ii at c0 c1 c2 c3 c4 HC HNx HNi
      obtain ⟨kd, R, A, Bq, nm⟩ := ii
      unfold insVal at HC
      simp only at c0 c1 c2 c3 c4 HC
      go_wp2_with fail
      refine Calls.mono (HC.out _) ?_
      rintro e w1 ⟨rfl, hb1⟩
      have hB1 := HB.out.trans (hb1.mono HB.out.size)
      have d0 := (hb1.cell (p := ⟨b, off + i * 5, none⟩) hbl).trans c0
      have d2 := (hb1.cell (p := ⟨b, off + i * 5 + 2, none⟩) hbl).trans c2
      clear c0 c1 c2 c3 c4 hb1 HC
      rcases hib : insB (kd, R, A, Bq, nm) with _ | _
      · have HF : Hid (res = false) := HNi.out (fun h => by have := decide_eq_true h.1; rw [show decide (insP (kd, R, A, Bq, nm)) = insB (kd, R, A, Bq, nm) from rfl, hib] at this; cases this)
        clear hib HNi HNx
        go_wp2
        go_ret
        exact ⟨by rw [HF.out]; rfl, hB1⟩
      have hip : insP (kd, R, A, Bq, nm) := of_decide_eq_true hib
      have HP : Hid (insP (kd, R, A, Bq, nm)) := hip
      clear hib hip
      by_cases h7 : kd = 7
      · subst h7
        by_cases hA : (n : Int) ≤ A
        · have HF : Hid (res = false) := HNi.out (fun h => by have := h.2 (Or.inl rfl); simp only at this; omega)
          clear HNi HNx HP
          go_wp2
          go_ret
          exact ⟨by rw [HF.out]; rfl, hB1⟩
        · have HN2 : Hid (_) := HNx.out ⟨HP.out, fun _ => by simp only; omega⟩
          clear HNi HNx HP
          go_wp2
          go_roundw
          case rel => exact ⟨i + 1, by go_num, by omega, HN2, hB1⟩
          case measure => simp [intOf]; omega
      have d7 : (kd == 7) = false := beq_eq_false_iff_ne.2 h7
      by_cases h8 : kd = 8
      · subst h8
        clear h7 d7
        by_cases hA : (n : Int) ≤ A
        · have HF : Hid (res = false) := HNi.out (fun h => by have := h.2 (Or.inr rfl); simp only at this; omega)
          clear HNi HNx HP
          go_wp2
          go_ret
          exact ⟨by rw [HF.out]; rfl, hB1⟩
        · have HN2 : Hid (_) := HNx.out ⟨HP.out, fun _ => by simp only; omega⟩
          clear HNi HNx HP
          go_wp2
          go_roundw
          case rel => exact ⟨i + 1, by go_num, by omega, HN2, hB1⟩
          case measure => simp [intOf]; omega
      have d8 : (kd == 8) = false := beq_eq_false_iff_ne.2 h8
      have HN2 : Hid (_) := HNx.out ⟨HP.out, fun e => by simp only at e; rcases e with e | e; exact absurd e h7; exact absurd e h8⟩
      clear HNi HNx HP h7 h8
      go_wp2
      go_roundw
      case rel => exact ⟨i + 1, by go_num, by omega, HN2, hB1⟩
      case measure => simp [intOf]; omega
    · have hin2 : i = n := by omega
      have HF : Hid (_) := HEn2.out (fun j hj => HA.out j (by omega))
      have hmn : m < n := by have := HM.out; omega
      obtain ⟨b, off, rfl, hbl, c0, _⟩ := (HI.out.below HB.out).2 m hmn
      have hq : (n : Int) - 1 = (m : Int) := by have := HM.out; omega
      have hmz : (m : Int) < (n : Int) := by omega
      have HBr := HB.out
      generalize (is.getD m in0).1 = kd at c0 HF
      clear hin2 HEn2 HNo HA HS HM HI HB hmn
      rcases h10 : (kd == 10) with _ | _
      · rw [h10] at HF
        go_wp2
        go_ret
        exact ⟨by rw [HF.out]; rfl, HBr⟩
      · rw [h10] at HF
        go_wp2
        go_ret
        exact ⟨by rw [HF.out]; rfl, HBr⟩

end Go.Proofs.YtogobeegibngiaaGreatDoor

/-! The contract of chapter 13's specification: Registers. -/
namespace Go.Proofs.YtogobeegibngiaaGreatDoor
open Go.RowKit

end Go.Proofs.YtogobeegibngiaaGreatDoor

/-! A row of instructions. -/
namespace Go.Proofs.YtogobeegibngiaaGreatDoor
open Go.RowKit

def insV : List In13 → List Value
  | [] => []
  | i :: r => .int .i64 i.1 :: .int .i64 i.2.1 :: .int .i64 i.2.2.1 :: .int .i64 i.2.2.2.1 :: .string ⟨i.2.2.2.2.toArray⟩ :: insV r
theorem insV_len (is : List In13) : (insV is).length = is.length * 5 := by
  induction is with
  | nil => rfl
  | cons n r ih => simp only [insV, List.length_cons, ih]; omega
theorem insV_append (x y : List In13) : insV (x ++ y) = insV x ++ insV y := by
  induction x with
  | nil => rfl
  | cons n r ih => simp only [List.cons_append, insV, ih]
theorem insV_one (is : List In13) : ∀ u ∈ insV is, u.oneCell' = true := by
  induction is with
  | nil => intro u hu; cases hu
  | cons n r ih =>
    intro u hu
    simp only [insV, List.mem_cons] at hu
    rcases hu with rfl | rfl | rfl | rfl | rfl | h
    · rfl
    · rfl
    · rfl
    · rfl
    · rfl
    · exact ih u h
theorem insV_at (is : List In13) (j : Nat) (hj : j < is.length) : (insV is)[j * 5]? = some (.int .i64 (is.getD j in0).1) ∧ (insV is)[j * 5 + 1]? = some (.int .i64 (is.getD j in0).2.1) ∧ (insV is)[j * 5 + 2]? = some (.int .i64 (is.getD j in0).2.2.1) ∧ (insV is)[j * 5 + 3]? = some (.int .i64 (is.getD j in0).2.2.2.1) ∧ (insV is)[j * 5 + 4]? = some (.string ⟨(is.getD j in0).2.2.2.2.toArray⟩) := by
  induction is generalizing j with
  | nil => simp at hj
  | cons n r ih =>
    cases j with
    | zero => simp [insV]
    | succ j =>
      have h := ih j (by simpa using hj)
      rw [show (j + 1) * 5 = j * 5 + 1 + 1 + 1 + 1 + 1 by omega]
      simpa [insV] using h
theorem own_ins {w : World} {base n : Nat} {v : Value} {is : List In13} (h : w.ownsRow base 56 5 v n (insV is)) : is.length = n ∧ ∃ a cap, v = .slice a n cap ∧ InsIn w a n is := by
  have hlen : is.length = n := by have := h.1; rw [insV_len] at this; omega
  refine ⟨hlen, ?_⟩
  rcases own_forms h with ⟨rfl, rfl, _⟩ | ⟨g, cp, rfl⟩
  · exact ⟨none, 0, rfl, hlen, fun j hj => by omega⟩
  · refine ⟨some ⟨g, 0, none⟩, cp, rfl, hlen, fun j hj => ?_⟩
    obtain ⟨v0, v1, v2, v3, v4⟩ := insV_at is j (by omega)
    have c0 := h.cellAt (j * 5) (by omega)
    have c1 := h.cellAt (j * 5 + 1) (by omega)
    have c2 := h.cellAt (j * 5 + 2) (by omega)
    have c3 := h.cellAt (j * 5 + 3) (by omega)
    have c4 := h.cellAt (j * 5 + 4) (by omega)
    rw [v0] at c0
    rw [v1] at c1
    rw [v2] at c2
    rw [v3] at c3
    rw [v4] at c4
    refine ⟨g, 0, rfl, (h.lt g rfl).2, ?_, ?_, ?_, ?_, ?_⟩ <;> (rw [Nat.zero_add]; assumption)
theorem infoIns : (Tryz.prog.info? 56).map (fun i => (i.zero, i.size, i.bytes)) = some (some (.agg #[.int .i64 0, .int .i64 0, .int .i64 0, .int .i64 0, .string ⟨#[]⟩]), 5, 48) := by kernel_rfl
theorem new_ins (w : World) (n : In13) : ∀ j u, (insV [n])[j]? = some u → (w.alloc (.cells #[.int .i64 n.1, .int .i64 n.2.1, .int .i64 n.2.2.1, .int .i64 n.2.2.2.1, .string ⟨n.2.2.2.2.toArray⟩] 56)).cell? ((⟨w.heap.size, 0, none⟩ : Addr).add j) = some u := by
  intro j u hu
  have e : (⟨w.heap.size, 0, none⟩ : Addr).add j = ⟨w.heap.size, j, none⟩ := by unfold Addr.add; split <;> simp_all
  rw [e]
  match j, hu with
  | 0, hu => simp [insV] at hu; subst hu; simp
  | 1, hu => simp [insV] at hu; subst hu; simp
  | 2, hu => simp [insV] at hu; subst hu; simp
  | 3, hu => simp [insV] at hu; subst hu; simp
  | 4, hu => simp [insV] at hu; subst hu; simp
  | j + 5, hu => simp [insV] at hu
theorem push_ins13 {X : World} {B n : Nat} {v : Value} {xs : List In13} (x : In13) (hv : X.ownsRow B 56 5 v n (insV xs)) (hb : B ≤ X.heap.size) (hn : n ≤ 1048576) :
    ∃ v' Y, (Builtin.append_ #[48, 48] 48 #[v, .slice (some ⟨X.heap.size, 0, none⟩) 1 1]).run Tryz.prog (X.alloc (.cells #[.int .i64 x.1, .int .i64 x.2.1, .int .i64 x.2.2.1, .int .i64 x.2.2.2.1, .string ⟨x.2.2.2.2.toArray⟩] 56)) = .ok v' Y ∧ Y.ownsRow B 56 5 v' (n + 1) (insV (xs ++ [x])) ∧ X.grownBy Y v.ownBlock := by
  obtain ⟨i0, hi, hz0, hz1, hz2⟩ := info_parts infoIns
  obtain ⟨v', Y, hrun, hown, hg, _⟩ := run_append_src (P := Tryz.prog) (X.alloc (.cells #[.int .i64 x.1, .int .i64 x.2.1, .int .i64 x.2.2.1, .int .i64 x.2.2.2.1, .string ⟨x.2.2.2.2.toArray⟩] 56)) B 48 48 56 i0 _ 5 48 Tryz.underlying48 hi hz0 hz1 hz2 rfl (by decide) _ _ _ (hv.alloc _) (.slice (some ⟨X.heap.size, 0, none⟩) 1 1) 1 (insV [x]) ⟨rfl, insV_one _, Or.inr ⟨_, 1, rfl, new_ins X x⟩⟩ (by unfold maxLen; omega) (by omega) (by simp; omega)
  refine ⟨v', Y, hrun, ?_, (World.grownBy_alloc X _ _).trans hg⟩
  rw [insV_append]
  exact hown

end Go.Proofs.YtogobeegibngiaaGreatDoor

/-! A node, and a row of nodes, that came in, as the walks take them. -/
namespace Go.Proofs.YtogobeegibngiaaGreatDoor
open Go.ChangeShapes Go.WideShapes Go.ChangeAt Go.RowKit Go.Joins Go.Deep


end Go.Proofs.YtogobeegibngiaaGreatDoor

/-! An instruction that came in, as the walks take it; szIns, toIns. -/
namespace Go.Proofs.YtogobeegibngiaaGreatDoor
open Go.ChangeShapes Go.WideShapes Go.ChangeAt Go.RowKit Go.Joins Go.Deep

/-- An instruction's numbers are numbers of 64 bits. -/
def IntI (i : In13) : Prop := (-9223372036854775808 ≤ i.1 ∧ i.1 ≤ 9223372036854775807) ∧ (-9223372036854775808 ≤ i.2.1 ∧ i.2.1 ≤ 9223372036854775807) ∧ (-9223372036854775808 ≤ i.2.2.1 ∧ i.2.2.1 ≤ 9223372036854775807) ∧ (-9223372036854775808 ≤ i.2.2.2.1 ∧ i.2.2.2.1 ≤ 9223372036854775807)

end Go.Proofs.YtogobeegibngiaaGreatDoor

/-! The laws' own helpers over rows of instructions: szInsS, toInsS, eqIns, eqInsS; a row that came in. -/
namespace Go.Proofs.YtogobeegibngiaaGreatDoor
open Go.ChangeShapes Go.WideShapes Go.ChangeAt Go.RowKit Go.Joins Go.Deep

def IntIs (is : List In13) : Prop := ∀ j, IntI (is.getD j in0)
theorem intI_in0 : IntI in0 := by unfold IntI in0; decide

theorem InsIn.at {w : World} {a : Option Addr} {len : Nat} {is : List In13} (h : InsIn w a len is) (hz : 0 < len) : ∃ b off, a = some ⟨b, off, none⟩ ∧ b < w.heap.size ∧
    ∀ j, j < len → w.cell? ⟨b, off + j * 5, none⟩ = some (.int .i64 (is.getD j in0).1) ∧ w.cell? ⟨b, off + j * 5 + 1, none⟩ = some (.int .i64 (is.getD j in0).2.1) ∧ w.cell? ⟨b, off + j * 5 + 2, none⟩ = some (.int .i64 (is.getD j in0).2.2.1) ∧ w.cell? ⟨b, off + j * 5 + 3, none⟩ = some (.int .i64 (is.getD j in0).2.2.2.1) ∧ w.cell? ⟨b, off + j * 5 + 4, none⟩ = some (.string ⟨(is.getD j in0).2.2.2.2.toArray⟩) := by
  obtain ⟨b, off, rfl, hb, _⟩ := h.2 0 hz
  refine ⟨b, off, rfl, hb, fun j hj => ?_⟩
  obtain ⟨b', off', e, _, c⟩ := h.2 j hj
  simp only [Option.some.injEq, Addr.mk.injEq, and_true] at e
  obtain ⟨rfl, rfl⟩ := e
  exact c


theorem insV_set (ns : List In13) (j : Nat) (k r a b : Int) (s : List UInt8) : (((((insV ns).set (j * 5) (.int .i64 k)).set (j * 5 + 1) (.int .i64 r)).set (j * 5 + 2) (.int .i64 a)).set (j * 5 + 3) (.int .i64 b)).set (j * 5 + 4) (.string ⟨s.toArray⟩) = insV (ns.set j (k, r, a, b, s)) := by
  induction ns generalizing j with
  | nil => simp [insV]
  | cons i l ih =>
    cases j with
    | zero => simp [insV]
    | succ j => rw [show (j + 1) * 5 = j * 5 + 1 + 1 + 1 + 1 + 1 by omega]; simp [insV, ih]
end Go.Proofs.YtogobeegibngiaaGreatDoor
