/-
  Plain facts for chapter 4 (words): numbers that go round.
-/
import Derived.Test.YtjkfjenhocaljaaDoorMath1
namespace Go.Proofs.YtjkfjenhocaljaaDoor
open Go.RowKit

def wrapW (n : Int) : Int := (n + 2147483648) % 4294967296 - 2147483648

theorem wrapWW (n : Int) : wrap64 (wrap32 n) = wrapW n := by unfold wrap64 wrap32 wrapW; omega

theorem mul_bd (a b : Int) (ha : -2147483648 ≤ a ∧ a ≤ 2147483647) (hb : -2147483648 ≤ b ∧ b ≤ 2147483647) : -4611686018427387904 ≤ a * b ∧ a * b ≤ 4611686018427387904 := by
  have h : (a * b).natAbs ≤ 2147483648 * 2147483648 := by
    rw [Int.natAbs_mul]
    exact Nat.mul_le_mul (by omega) (by omega)
  omega

theorem tdiv_bd (a b : Int) (ha : -2147483648 ≤ a ∧ a ≤ 2147483647) : -2147483648 ≤ a.tdiv b ∧ a.tdiv b ≤ 2147483648 := by
  have h : (a.tdiv b).natAbs ≤ a.natAbs := by
    rw [Int.natAbs_tdiv]
    exact Nat.div_le_self _ _
  omega

theorem wrapW_bd (n : Int) : -2147483648 ≤ wrapW n ∧ wrapW n ≤ 2147483647 := by unfold wrapW; omega

theorem wrapW_word (n : Int) (h0 : -2147483648 ≤ n) (h1 : n ≤ 2147483647) : wrapW n = n := by unfold wrapW; omega

theorem wrapW_diff (n : Int) : (wrap64 (n - wrapW n)).tmod 4294967296 = 0 := by
  have h : ∃ k, n - wrapW n = 4294967296 * k := ⟨(n + 2147483648) / 4294967296, by unfold wrapW; omega⟩
  obtain ⟨k, hk⟩ := h
  rw [hk]
  have h2 : ∃ j, wrap64 (4294967296 * k) = 4294967296 * j := ⟨(k + 2147483648) % 4294967296 - 2147483648, by unfold wrap64; omega⟩
  obtain ⟨j, hj⟩ := h2
  rw [hj, Int.mul_tmod_right]

theorem wrapW_back (a b : Int) (h0 : -2147483648 ≤ a) (h1 : a ≤ 2147483647) : wrapW (wrapW (a + b) - b) = a := by unfold wrapW; omega

/-- What is done of two words. -/
def doneV (kind a b : Int) : Int :=
  if (-2147483648 ≤ a ∧ a ≤ 2147483647) ∧ (-2147483648 ≤ b ∧ b ≤ 2147483647) then
    (if kind = 3 then wrapW (a + b) else if kind = 4 then wrapW (a - b) else if kind = 5 then wrapW (a * b) else if kind = 6 ∧ b ≠ 0 then wrapW (a.tdiv b) else 0)
  else 0

def doneB (kind a b : Int) : Bool :=
  decide (((-2147483648 ≤ a ∧ a ≤ 2147483647) ∧ (-2147483648 ≤ b ∧ b ≤ 2147483647)) ∧ (kind = 3 ∨ kind = 4 ∨ kind = 5 ∨ kind = 6 ∧ b ≠ 0))

theorem done_no (kind a b : Int) (h : ¬ ((-2147483648 ≤ a ∧ a ≤ 2147483647) ∧ (-2147483648 ≤ b ∧ b ≤ 2147483647))) : doneV kind a b = 0 ∧ doneB kind a b = false := by
  unfold doneV doneB
  exact ⟨if_neg h, decide_eq_false (fun e => h e.1)⟩

theorem done_in (kind a b : Int) (h : (-2147483648 ≤ a ∧ a ≤ 2147483647) ∧ (-2147483648 ≤ b ∧ b ≤ 2147483647)) :
    (kind = 3 → doneV kind a b = wrapW (a + b) ∧ doneB kind a b = true) ∧ (kind = 4 → doneV kind a b = wrapW (a - b) ∧ doneB kind a b = true) ∧ (kind = 5 → doneV kind a b = wrapW (a * b) ∧ doneB kind a b = true) ∧
    (kind = 6 → b ≠ 0 → doneV kind a b = wrapW (a.tdiv b) ∧ doneB kind a b = true) ∧ (kind ≠ 3 → kind ≠ 4 → kind ≠ 5 → ¬ (kind = 6 ∧ b ≠ 0) → doneV kind a b = 0 ∧ doneB kind a b = false) := by
  unfold doneV doneB
  rw [if_pos h]
  refine ⟨fun e => ?_, fun e => ?_, fun e => ?_, fun e hb => ?_, fun e3 e4 e5 e6 => ?_⟩
  · subst e; exact ⟨if_pos rfl, decide_eq_true ⟨h, Or.inl rfl⟩⟩
  · subst e; exact ⟨by simp, decide_eq_true ⟨h, Or.inr (Or.inl rfl)⟩⟩
  · subst e; exact ⟨by simp, decide_eq_true ⟨h, Or.inr (Or.inr (Or.inl rfl))⟩⟩
  · subst e; exact ⟨by simp [hb], decide_eq_true ⟨h, Or.inr (Or.inr (Or.inr ⟨rfl, hb⟩))⟩⟩
  · exact ⟨by rw [if_neg e3, if_neg e4, if_neg e5, if_neg e6], decide_eq_false (fun e => by rcases e.2 with h | h | h | h <;> first | exact e3 h | exact e4 h | exact e5 h | exact e6 h)⟩

/-- Where it is done, both were words. -/
theorem done_yes (kind a b : Int) (h : doneB kind a b = true) : (-2147483648 ≤ a ∧ a ≤ 2147483647) ∧ (-2147483648 ≤ b ∧ b ≤ 2147483647) := (of_decide_eq_true h).1

theorem doneV_bd (kind a b : Int) : -2147483648 ≤ doneV kind a b ∧ doneV kind a b ≤ 2147483647 := by
  unfold doneV
  split
  · repeat' split
    all_goals first | exact wrapW_bd _ | omega
  · omega

theorem doneV_not (kind a b : Int) (h : doneB kind a b = false) : doneV kind a b = 0 := by
  by_cases hw : (-2147483648 ≤ a ∧ a ≤ 2147483647) ∧ (-2147483648 ≤ b ∧ b ≤ 2147483647)
  · obtain ⟨h3, h4, h5, h6, h0⟩ := done_in kind a b hw
    refine (h0 (fun e => ?_) (fun e => ?_) (fun e => ?_) (fun e => ?_)).1
    · rw [(h3 e).2] at h; cases h
    · rw [(h4 e).2] at h; cases h
    · rw [(h5 e).2] at h; cases h
    · rw [(h6 e.1 e.2).2] at h; cases h
  · exact (done_no kind a b hw).1

theorem done_back (a b : Int) (ha : -2147483648 ≤ a ∧ a ≤ 2147483647) (hb : -2147483648 ≤ b ∧ b ≤ 2147483647) : doneV 4 (doneV 3 a b) b = a ∧ doneB 3 a b = true ∧ doneB 4 (doneV 3 a b) b = true ∧ doneB 5 a b = true ∧ doneB 5 b a = true ∧ doneV 5 a b = doneV 5 b a := by
  have h3 := (done_in 3 a b ⟨ha, hb⟩).1 rfl
  have hs := wrapW_bd (a + b)
  have h4 := (done_in 4 (wrapW (a + b)) b ⟨hs, hb⟩).2.1 rfl
  have h5 := (done_in 5 a b ⟨ha, hb⟩).2.2.1 rfl
  have h6 := (done_in 5 b a ⟨hb, ha⟩).2.2.1 rfl
  rw [h3.1]
  exact ⟨by rw [h4.1]; exact wrapW_back a b ha.1 ha.2, h3.2, h4.2, h5.2, h6.2, by rw [h5.1, h6.1, Int.mul_comm]⟩

end Go.Proofs.YtjkfjenhocaljaaDoor
