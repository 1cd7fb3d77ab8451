/-
  The contracts of the landed code of chapter 3: is a blob right; the blobs of a store by their keys.
-/
import Derived.Test.YtfjpbbacibfnmaaMapB
import Derived.Test.YtfjpbbacibfnmaaStoreM
import Derived.Test.YtfjpbbacibfnmaaLists
namespace Go.Proofs.Ytfjpbbacibfnmaa
open Go.RowKit Go.Maps

def okBl (key : Int) (t : List UInt8) : Bool := decide (t.length ≤ 20000 ∧ hashL t = key)
theorem okBl_yes {key : Int} {t : List UInt8} (h1 : t.length ≤ 20000) (h2 : hashL t = key) : okBl key t = true := decide_eq_true ⟨h1, h2⟩
theorem okBl_no {key : Int} {t : List UInt8} (h : ¬ (t.length ≤ 20000 ∧ hashL t = key)) : okBl key t = false := decide_eq_false h

set_option maxHeartbeats 1000000 in
theorem implBlobOk (key : Int) (t : List UInt8) (w : World) (hl : t.length ≤ 1048576) :
    Calls Try.prog 64 #[.agg #[.int .i64 key, .string ⟨t.toArray⟩]] w fun e w' => e = .returned (.bool (okBl key t)) ∧ Below w.heap.size w w' := by
  by_cases h1 : (t.length : Int) ≤ 20000
  · have hd1 : decide ((t.length : Int) ≤ 20000) = true := decide_eq_true h1
    by_cases h2 : hashL t = key
    · have HO : Hid (okBl key t = true) := okBl_yes (by omega) h2
      have hd2 : (key == hashL t) = true := by rw [h2]; simp
      clear h2
      go_enter Try.func64, Try.ntmps64
      go_wp2
      go_quiet (first | (go_at_call 45; exact Calls.quiet_of_same (implHashX t _ hl)))
      go_wp2
      go_ret
      exact ⟨by rw [HO.out]; rfl, ((Below.refl _ w).alloc (Nat.le_refl _) _).trans (below_drewN _ _ _)⟩
    · have HO : Hid (okBl key t = false) := okBl_no (fun h => h2 h.2)
      have hd2 : (key == hashL t) = false := beq_eq_false_iff_ne.2 (fun e => h2 e.symm)
      clear h2
      go_enter Try.func64, Try.ntmps64
      go_wp2
      go_quiet (first | (go_at_call 45; exact Calls.quiet_of_same (implHashX t _ hl)))
      go_wp2
      go_ret
      exact ⟨by rw [HO.out]; rfl, ((Below.refl _ w).alloc (Nat.le_refl _) _).trans (below_drewN _ _ _)⟩
  · have HO : Hid (okBl key t = false) := okBl_no (fun h => h1 (by omega))
    have hd1 : decide ((t.length : Int) ≤ 20000) = false := decide_eq_false h1
    clear h1
    go_enter Try.func64, Try.ntmps64
    go_wp2
    go_quiet (fail)
    go_wp2
    go_ret
    exact ⟨by rw [HO.out]; rfl, ((Below.refl _ w).alloc (Nat.le_refl _) _).trans (below_drewN _ _ _)⟩

end Go.Proofs.Ytfjpbbacibfnmaa
