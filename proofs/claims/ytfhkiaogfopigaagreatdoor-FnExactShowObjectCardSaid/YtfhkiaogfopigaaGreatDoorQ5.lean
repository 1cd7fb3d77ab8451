/-
  Parts of one proof, one behind the other: InsS3, InsS4.
-/
import Derived.Test.YtfhkiaogfopigaaGreatDoorQ4
import Derived.Test.YtfhkiaogfopigaaGreatDoorQ3

/-! The contract of chapter 13's specification: CodeOk. -/
namespace Go.Proofs.YtfhkiaogfopigaaGreatDoor
open Go.RowKit

def InsIn (w : World) (a : Option Addr) (len : Nat) (is : List In13) : Prop :=
  is.length = len ∧ ∀ j, j < len → ∃ b off, a = some ⟨b, off, none⟩ ∧ b < w.heap.size ∧ w.cell? ⟨b, off + j * 5, none⟩ = some (.int .i64 (is.getD j in0).1) ∧ w.cell? ⟨b, off + j * 5 + 1, none⟩ = some (.int .i64 (is.getD j in0).2.1) ∧ w.cell? ⟨b, off + j * 5 + 2, none⟩ = some (.int .i64 (is.getD j in0).2.2.1) ∧ w.cell? ⟨b, off + j * 5 + 3, none⟩ = some (.int .i64 (is.getD j in0).2.2.2.1) ∧ w.cell? ⟨b, off + j * 5 + 4, none⟩ = some (.string ⟨(is.getD j in0).2.2.2.2.toArray⟩)
theorem InsIn.below {w w' : World} {a : Option Addr} {len : Nat} {is : List In13} (h : InsIn w a len is) (hb : Below w.heap.size w w') : InsIn w' a len is := by
  refine ⟨h.1, fun j hj => ?_⟩
  obtain ⟨b, off, e, hlt, c0, c1, c2, c3, c4⟩ := h.2 j hj
  have hk := hb.block b hlt
  exact ⟨b, off, e, Nat.lt_of_lt_of_le hlt hb.size, (World.cell?_of_block (a := ⟨b, off + j * 5, none⟩) hk).trans c0, (World.cell?_of_block (a := ⟨b, off + j * 5 + 1, none⟩) hk).trans c1, (World.cell?_of_block (a := ⟨b, off + j * 5 + 2, none⟩) hk).trans c2, (World.cell?_of_block (a := ⟨b, off + j * 5 + 3, none⟩) hk).trans c3, (World.cell?_of_block (a := ⟨b, off + j * 5 + 4, none⟩) hk).trans c4⟩
def ShortI (is : List In13) : Prop := ∀ j, (is.getD j in0).2.2.2.2.length ≤ 1048576

theorem code_len {c : List In13} (h : c.length < 1 ∨ 200 < c.length) : codeB c = false := decide_eq_false (fun e => by have := e.1; omega)
theorem code_no {c : List In13} {j : Nat} (hj : j < c.length) (h : ¬ insAt c.length (c.getD j in0)) : codeB c = false := decide_eq_false (fun e => h (e.2.1 _ (by simp [List.getD, hj])))
theorem code_end {c : List In13} (h1 : 1 ≤ c.length) (h2 : c.length ≤ 200) (h : ∀ j, j < c.length → insAt c.length (c.getD j in0)) : codeB c = (((c.getD (c.length - 1) in0).1 == 10) || ((c.getD (c.length - 1) in0).1 == 8)) := by
  have hall : ∀ i ∈ c, insAt c.length i := fun i hi => by
    obtain ⟨j, hj, rfl⟩ := List.getElem_of_mem hi
    have := h j hj
    simpa [List.getD, hj] using this
  unfold codeB
  rw [Bool.eq_iff_iff, decide_eq_true_eq, Bool.or_eq_true, beq_iff_eq, beq_iff_eq]
  exact ⟨fun e => e.2.2, fun e => ⟨⟨h1, h2⟩, hall, e⟩⟩

set_option maxHeartbeats 4000000 in
set_option maxRecDepth 100000 in
theorem specCodeOk (a : Option Addr) (len cap : Nat) (is : List In13) (w : World) (hin : InsIn w a len is) (hsh : ShortI is) (hlen : len ≤ 1048576) :
    Calls Tryz.prog 78 #[.slice a len cap] w fun e w' => e = .returned (.bool (codeB is)) ∧ Below w.heap.size w w' := by
  obtain rfl : is.length = len := hin.1
  have HI : Hid (InsIn w a is.length is) := hin
  have HS : Hid (ShortI is) := hsh
  have HL : Hid (is.length < 1 ∨ 200 < is.length → codeB is = false) := code_len
  have HNo : Hid (∀ j, j < is.length → ¬ insAt is.length (is.getD j in0) → codeB is = false) := fun j hj h => code_no hj h
  have HEn : Hid (1 ≤ is.length → is.length ≤ 200 → (∀ j, j < is.length → insAt is.length (is.getD j in0)) → codeB is = (((is.getD (is.length - 1) in0).1 == 10) || ((is.getD (is.length - 1) in0).1 == 8))) := code_end
  obtain ⟨n, hn⟩ : ∃ n, is.length = n := ⟨_, rfl⟩
  rw [hn] at HI HL HNo HEn hlen ⊢
  generalize codeB is = res at HL HNo HEn ⊢
  clear hin hsh hn
  by_cases h1 : (n : Int) < 1
  · have HF := HL.out (Or.inl (by omega))
    have HF2 : Hid (res = false) := HF
    clear HF HL HNo HEn
    go_enter Tryz.func78, Tryz.ntmps78
    go_wp2
    go_ret
    exact ⟨by rw [HF2.out]; rfl, Below.refl _ _⟩
  by_cases h2 : 200 < (n : Int)
  · have HF2 : Hid (res = false) := HL.out (Or.inr (by omega))
    clear HL HNo HEn
    go_enter Tryz.func78, Tryz.ntmps78
    go_wp2
    go_ret
    exact ⟨by rw [HF2.out]; rfl, Below.refl _ _⟩
  obtain ⟨m, hm⟩ : ∃ m, n = m + 1 := ⟨n - 1, by omega⟩
  have HM : Hid (n = m + 1) := hm
  have HEn2 : Hid ((∀ j, j < n → insAt n (is.getD j in0)) → res = (((is.getD m in0).1 == 10) || ((is.getD m in0).1 == 8))) := fun h => by
    have := HEn.out (by omega) (by omega) h
    rw [show n - 1 = m by omega] at this
    exact this
  clear hm HL HEn
  go_enter Tryz.func78, Tryz.ntmps78
  go_wp2
  go_loopw [4] (fun iv wr => ∃ i : Nat, iv = .int .i64 (i : Int) ∧ i ≤ n ∧ Hid (∀ j, j < i → insAt n (is.getD j in0)) ∧ Hid (Below w.heap.size w wr)) (fun iv _ => n - (intOf iv).toNat)
  case atStart => exact ⟨0, rfl, Nat.zero_le _, fun j hj => by omega, Below.refl _ _⟩
  case round =>
    obtain ⟨i, rfl, hi, HA, HB⟩ := hrel
    by_cases hlt : (i : Int) < (n : Int)
    · obtain ⟨b, off, rfl, hbl, c0, c1, c2, c3, c4⟩ := (HI.out.below HB.out).2 i (by omega)
      have HC : Hid (_) := fun W : World => specInsOk (is.getD i in0) W (HS.out i)
      have HNx : Hid (insAt n (is.getD i in0) → ∀ j, j < i + 1 → insAt n (is.getD j in0)) := fun h j hj => by
        by_cases e : j = i
        · rw [e]; exact h
        · exact HA.out j (by omega)
      have HNi : Hid (¬ insAt n (is.getD i in0) → res = false) := HNo.out i (by omega)
      clear HEn2 HNo HA HS
      generalize is.getD i in0 = ii at c0 c1 c2 c3 c4 HC HNx HNi
      obtain ⟨kd, R, A, Bq, nm⟩ := ii
      unfold insVal at HC
      simp only at c0 c1 c2 c3 c4 HC
      go_wp2_with fail
      refine Calls.mono (HC.out _) ?_
      rintro e w1 ⟨rfl, hb1⟩
      have hB1 := HB.out.trans (hb1.mono HB.out.size)
      have d0 := (hb1.cell (p := ⟨b, off + i * 5, none⟩) hbl).trans c0
      have d2 := (hb1.cell (p := ⟨b, off + i * 5 + 2, none⟩) hbl).trans c2
      clear c0 c1 c2 c3 c4 hb1 HC
      rcases hib : insB (kd, R, A, Bq, nm) with _ | _
      · have HF : Hid (res = false) := HNi.out (fun h => by have := decide_eq_true h.1; rw [show decide (insP (kd, R, A, Bq, nm)) = insB (kd, R, A, Bq, nm) from rfl, hib] at this; cases this)
        clear hib HNi HNx
        go_wp2
        go_ret
        exact ⟨by rw [HF.out]; rfl, hB1⟩
      have hip : insP (kd, R, A, Bq, nm) := of_decide_eq_true hib
      have HP : Hid (insP (kd, R, A, Bq, nm)) := hip
      clear hib hip
      by_cases h7 : kd = 7
      · subst h7
        by_cases hA : (n : Int) ≤ A
        · have HF : Hid (res = false) := HNi.out (fun h => by have := h.2 (Or.inl rfl); simp only at this; omega)
          clear HNi HNx HP
          go_wp2
          go_ret
          exact ⟨by rw [HF.out]; rfl, hB1⟩
        · have HN2 : Hid (_) := HNx.out ⟨HP.out, fun _ => by simp only; omega⟩
          clear HNi HNx HP
          go_wp2
          go_roundw
          case rel => exact ⟨i + 1, by go_num, by omega, HN2, hB1⟩
          case measure => simp [intOf]; omega
      have d7 : (kd == 7) = false := beq_eq_false_iff_ne.2 h7
      by_cases h8 : kd = 8
      · subst h8
        clear h7 d7
        by_cases hA : (n : Int) ≤ A
        · have HF : Hid (res = false) := HNi.out (fun h => by have := h.2 (Or.inr rfl); simp only at this; omega)
          clear HNi HNx HP
          go_wp2
          go_ret
          exact ⟨by rw [HF.out]; rfl, hB1⟩
        · have HN2 : Hid (_) := HNx.out ⟨HP.out, fun _ => by simp only; omega⟩
          clear HNi HNx HP
          go_wp2
          go_roundw
          case rel => exact ⟨i + 1, by go_num, by omega, HN2, hB1⟩
          case measure => simp [intOf]; omega
      have d8 : (kd == 8) = false := beq_eq_false_iff_ne.2 h8
      have HN2 : Hid (_) := HNx.out ⟨HP.out, fun e => by simp only at e; rcases e with e | e; exact absurd e h7; exact absurd e h8⟩
      clear HNi HNx HP h7 h8
      go_wp2
      go_roundw
      case rel => exact ⟨i + 1, by go_num, by omega, HN2, hB1⟩
      case measure => simp [intOf]; omega
    · have hin2 : i = n := by omega
      have HF : Hid (_) := HEn2.out (fun j hj => HA.out j (by omega))
      have hmn : m < n := by have := HM.out; omega
      obtain ⟨b, off, rfl, hbl, c0, _⟩ := (HI.out.below HB.out).2 m hmn
      have hq : (n : Int) - 1 = (m : Int) := by have := HM.out; omega
      have hmz : (m : Int) < (n : Int) := by omega
      have HBr := HB.out
      generalize (is.getD m in0).1 = kd at c0 HF
      clear hin2 HEn2 HNo HA HS HM HI HB hmn
      rcases h10 : (kd == 10) with _ | _
      · rw [h10] at HF
        go_wp2
        go_ret
        exact ⟨by rw [HF.out]; rfl, HBr⟩
      · rw [h10] at HF
        go_wp2
        go_ret
        exact ⟨by rw [HF.out]; rfl, HBr⟩

end Go.Proofs.YtfhkiaogfopigaaGreatDoor

/-! The contract of chapter 13's specification: Registers. -/
namespace Go.Proofs.YtfhkiaogfopigaaGreatDoor
open Go.RowKit

end Go.Proofs.YtfhkiaogfopigaaGreatDoor
