/-
  The contract of laws.likeTexts.
-/
import Derived.Test.YtfeaplddbpikgaaOwn
import Derived.Test.YtfeaplddbpikgaaMarks3
namespace Go.Proofs.Ytfeaplddbpikgaa
open Go.RowKit

set_option maxHeartbeats 1000000 in
set_option maxRecDepth 100000 in
theorem likeC (w : World) (ba bb ga gb ca cb : Nat) (ls : List (List UInt8)) (hn : ls.length ≤ 1100000)
    (ha : w.ownsRow ba 9 1 (.slice (some ⟨ga, 0, none⟩) ls.length ca) ls.length (strV ls)) (hb : w.ownsRow bb 9 1 (.slice (some ⟨gb, 0, none⟩) ls.length cb) ls.length (strV ls)) :
    Calls Try.prog 17 #[.slice (some ⟨ga, 0, none⟩) ls.length ca, .slice (some ⟨gb, 0, none⟩) ls.length cb] w fun e w' => e = .returned (.bool true) ∧ w.grownBy w' none := by
  have hne : ((ls.length : Int) != (ls.length : Int)) = false := by simp
  have hself : ∀ l : List UInt8, (l != l) = false := by simp
  have HA : Hid (∀ j (hj : j < ls.length), w.cell? ⟨ga, j, none⟩ = some (.string ⟨ls[j].toArray⟩)) := fun j hj => str_cells ha j hj
  have HB : Hid (∀ j (hj : j < ls.length), w.cell? ⟨gb, j, none⟩ = some (.string ⟨ls[j].toArray⟩)) := fun j hj => str_cells hb j hj
  clear ha hb
  go_enter Try.func17, Try.ntmps17
  go_wp2
  go_loopw [5] (fun i wr => ∃ k : Nat, k ≤ ls.length ∧ i = .int .i64 k ∧ w.grownBy wr none) (fun i _ => ls.length - (intOf i).toNat)
  case atStart => exact ⟨0, Nat.zero_le _, rfl, World.grownBy.refl _ _⟩
  case round =>
    obtain ⟨k, hk, rfl, hg⟩ := hrel
    by_cases hlt : k < ls.length
    · obtain ⟨t, ht⟩ : ∃ t, ls[k] = t := ⟨_, rfl⟩
      have hca : wr.cell? ⟨ga, k, none⟩ = some (.string ⟨t.toArray⟩) := by rw [← ht]; exact hg.cell (HA.out k hlt) (by simp)
      have hcb : wr.cell? ⟨gb, k, none⟩ = some (.string ⟨t.toArray⟩) := by rw [← ht]; exact hg.cell (HB.out k hlt) (by simp)
      clear ht
      go_wp2
      go_region
      all_goals (try go_wp2)
      go_roundw
      case rel => exact ⟨k + 1, by omega, by go_num, hg.trans (grown_drew _ _)⟩
      case measure => simp [intOf]; omega
    · go_wp2
      go_ret
      exact ⟨rfl, hg⟩

set_option maxHeartbeats 400000 in
set_option maxRecDepth 100000 in
theorem likeEmpty (w : World) (aa ab : Option Addr) (ca cb : Nat) :
    Calls Try.prog 17 #[.slice aa 0 ca, .slice ab 0 cb] w fun e w' => e = .returned (.bool true) ∧ w.grownBy w' none := by
  go_enter Try.func17, Try.ntmps17
  go_wp2
  refine wp_loop_rounds 1 ?_
  rw [rounds_succ]
  go_wp2
  go_ret
  exact ⟨rfl, World.grownBy.refl _ _⟩

theorem likeV (w : World) (ba bb : Nat) (va vb : Value) (ls : List (List UInt8)) (hn : ls.length ≤ 1100000)
    (ha : w.ownsRow ba 9 1 va ls.length (strV ls)) (hb : w.ownsRow bb 9 1 vb ls.length (strV ls)) :
    Calls Try.prog 17 #[va, vb] w fun e w' => e = .returned (.bool true) ∧ w.grownBy w' none := by
  rcases own_forms ha with ⟨rfl, h0, _⟩ | ⟨ga, ca, rfl⟩
  · rcases own_forms hb with ⟨rfl, _, _⟩ | ⟨gb, cb, rfl⟩
    · exact likeEmpty w none none 0 0
    · rw [h0]; exact likeEmpty w none (some ⟨gb, 0, none⟩) 0 cb
  · rcases own_forms hb with ⟨rfl, h0, _⟩ | ⟨gb, cb, rfl⟩
    · rw [h0]; exact likeEmpty w (some ⟨ga, 0, none⟩) none ca 0
    · exact likeC w ba bb ga gb ca cb ls hn ha hb

theorem likeN (w : World) (ba bb n : Nat) (va vb : Value) (ls : List (List UInt8)) (hl : ls.length = n) (hn : n ≤ 1100000)
    (ha : w.ownsRow ba 9 1 va n (strV ls)) (hb : w.ownsRow bb 9 1 vb n (strV ls)) :
    Calls Try.prog 17 #[va, vb] w fun e w' => e = .returned (.bool true) ∧ w.grownBy w' none := by
  subst hl; exact likeV w ba bb va vb ls hn ha hb

end Go.Proofs.Ytfeaplddbpikgaa
