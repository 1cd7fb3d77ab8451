/-
  likeTree: two rows of nodes compared node by node.
-/
import Derived.Test.YtjkfjenhocaljaaDoorNodeL
import Derived.Test.YtjkfjenhocaljaaDoorDraw
namespace Go.Proofs.YtjkfjenhocaljaaDoor
open Go.RowKit

set_option maxHeartbeats 2000000 in
set_option maxRecDepth 100000 in
theorem likeTreeC (a b : Option Addr) (len ca cb : Nat) (ns : List Nd) (w : World) (ha : NodesIn w a len ns) (hb : NodesIn w b len ns) (hlen : len ≤ 4194304) :
    Calls Tryd.prog 13 #[.slice a len ca, .slice b len cb] w fun e w' => e = .returned (.bool true) ∧ Below w.heap.size w w' := by
  have hlb := ha.1
  have HA : Hid (NodesIn w a len ns) := ha
  have HB : Hid (NodesIn w b len ns) := hb
  clear ha hb
  have hi : ∀ n : Int, (n == n) = true := by simp
  have hs : ∀ l : List UInt8, (l == l) = true := by simp
  have h1 : ∀ n : Int, (n != n) = false := by simp
  go_enter Tryd.func13, Tryd.ntmps13
  go_wp2
  go_loopw [5] (fun i wr => ∃ k : Nat, k ≤ len ∧ i = .int .i64 k ∧ Below w.heap.size w wr) (fun i _ => len - (intOf i).toNat)
  case atStart => exact ⟨0, Nat.zero_le _, rfl, Below.refl _ _⟩
  case round =>
    obtain ⟨k, hk, rfl, hB⟩ := hrel
    by_cases hkl : (k : Int) < (len : Int)
    · obtain ⟨b1, o1, rfl, hb1, hc1⟩ := (HA.out.below hB).at (by omega)
      obtain ⟨b2, o2, rfl, hb2, hc2⟩ := (HB.out.below hB).at (by omega)
      obtain ⟨x0, x1, x2, x3⟩ := hc1 k (by omega)
      obtain ⟨y0, y1, y2, y3⟩ := hc2 k (by omega)
      obtain ⟨x, hx⟩ : ∃ x, ns.getD k nd0 = x := ⟨_, rfl⟩
      rw [hx] at x0 x1 x2 x3 y0 y1 y2 y3
      obtain ⟨kd, aa, p, f⟩ := x
      simp only at x0 x1 x2 x3 y0 y1 y2 y3
      clear hx hc1 hc2
      go_wp2
      go_region
      all_goals (try go_wp2)
      go_roundw
      case rel => exact ⟨k + 1, by omega, by go_num, hB.grown (grown_drew _ none) hB.size (by simp)⟩
      case measure => simp [intOf]; omega
    · go_wp2
      go_ret
      exact ⟨rfl, hB⟩

end Go.Proofs.YtjkfjenhocaljaaDoor
