/-
  Words, and numbers that are none, are drawn.
-/
import Derived.Test.YtfegekencoccdaaDraw3
import Derived.Test.YtfegekencoccdaaMath4
namespace Go.Proofs.Ytfegekencoccdaa
open Go.RowKit

theorem pick_in (l : List Int) (x lo hi : Int) (h0 : 0 ≤ x) (h1 : x < l.length) (h : ∀ y ∈ l, lo ≤ y ∧ y ≤ hi) : lo ≤ pick l x ∧ pick l x ≤ hi := by
  have hx : x.toNat < l.length := by omega
  have : pick l x = l[x.toNat] := by simp [pick, List.getD, hx]
  rw [this]
  exact h _ (List.getElem_mem hx)

set_option maxHeartbeats 1000000 in
theorem drawFromG (w : World) (B : Nat) (a : Option Addr) (len cap : Nat) (lo hi : Int) (h0 : -1000000 ≤ lo) (h1 : lo ≤ hi) (h2 : hi ≤ 1000000) (h : Cur w B a len cap) :
    Calls Try.prog 19 #[.pointer (some ⟨B, 0, none⟩), .int .i64 lo, .int .i64 hi] w fun e w' => ∃ x : Int, e = .returned (.int .i64 x) ∧ lo ≤ x ∧ x ≤ hi ∧ Cur w' B a len cap ∧ w.grownBy w' (some B) := by
  go_enter Try.func19, Try.ntmps19
  go_wp2_with fail
  refine (drawBelow _ B a len cap (hi - lo + 1) (by omega) (by omega) h).mono ?_
  rintro e w1 ⟨x, rfl, hx0, hx1, hc, hg⟩
  go_wp2
  go_ret
  exact ⟨_, rfl, by omega, by omega, hc, hg⟩

set_option maxHeartbeats 1000000 in
theorem drawWord (w : World) (B : Nat) (a : Option Addr) (len cap : Nat) (h : Cur w B a len cap) :
    Calls Try.prog 24 #[.pointer (some ⟨B, 0, none⟩)] w fun e w' => ∃ x : Int, e = .returned (.int .i64 x) ∧ -2147483648 ≤ x ∧ x ≤ 2147483647 ∧ Cur w' B a len cap ∧ w.grownBy w' (some B) := by
  go_enter Try.func24, Try.ntmps24
  go_wp2_with fail
  refine (drawOnce _ B a len cap 6 (by omega) (by omega) h).mono ?_
  rintro e w1 ⟨o, rfl, hc1, hg1⟩
  have hB := hc1.lt
  rcases o with _ | _
  · go_wp2_with fail
    refine (drawBelow _ B a len cap 12 (by omega) (by omega) hc1).mono ?_
    rintro e w2 ⟨x, rfl, hx0, hx1, hc2, hg2⟩
    go_wp2
    go_ret
    exact ⟨_, rfl, by omega, by omega, hc2, hg1.trans hg2⟩
  · go_wp2_with fail
    refine (drawBelow _ B a len cap 4 (by omega) (by omega) (hc1.kept (World.grownBy_alloc _ _ none) (by simp))).mono ?_
    rintro e w2 ⟨x, rfl, hx0, hx1, hc2, hg2⟩
    have hcx := hg2.cell (pick_cell [2147483647, -2147483648, 65536, -1] x hx0 hx1 w1 2) (by simp; omega)
    have hpi := pick_in [2147483647, -2147483648, 65536, -1] x (-2147483648) 2147483647 hx0 hx1 (by simp)
    generalize pick [2147483647, -2147483648, 65536, -1] x = y at hcx hpi
    have hg := (hg1.trans (World.grownBy_alloc _ _ _)).trans hg2
    clear hc1 hg1 hg2
    go_wp2
    go_ret
    exact ⟨_, rfl, hpi.1, hpi.2, hc2, hg⟩

set_option maxHeartbeats 1000000 in
theorem drawAny (w : World) (B : Nat) (a : Option Addr) (len cap : Nat) (h : Cur w B a len cap) :
    Calls Try.prog 20 #[.pointer (some ⟨B, 0, none⟩)] w fun e w' => ∃ x : Int, e = .returned (.int .i64 x) ∧ -9223372036854775808 ≤ x ∧ x ≤ 9223372036854775807 ∧ Cur w' B a len cap ∧ w.grownBy w' (some B) := by
  go_enter Try.func20, Try.ntmps20
  go_wp2_with fail
  refine (drawOnce _ B a len cap 10 (by omega) (by omega) h).mono ?_
  rintro e w1 ⟨o, rfl, hc1, hg1⟩
  have hB := hc1.lt
  rcases o with _ | _
  · go_wp2_with fail
    refine (drawWord _ B a len cap hc1).mono ?_
    rintro e w2 ⟨x, rfl, hx0, hx1, hc2, hg2⟩
    go_wp2
    go_ret
    exact ⟨_, rfl, by omega, by omega, hc2, hg1.trans hg2⟩
  · go_wp2_with fail
    refine (drawBelow _ B a len cap 4 (by omega) (by omega) (hc1.kept (World.grownBy_alloc _ _ none) (by simp))).mono ?_
    rintro e w2 ⟨x, rfl, hx0, hx1, hc2, hg2⟩
    have hcx := hg2.cell (pick_cell [2147483648, -2147483649, 4611686018427387904, -9223372036854775808] x hx0 hx1 w1 2) (by simp; omega)
    have hpi := pick_in [2147483648, -2147483649, 4611686018427387904, -9223372036854775808] x (-9223372036854775808) 9223372036854775807 hx0 hx1 (by simp)
    generalize pick [2147483648, -2147483649, 4611686018427387904, -9223372036854775808] x = y at hcx hpi
    have hg := (hg1.trans (World.grownBy_alloc _ _ _)).trans hg2
    clear hc1 hg1 hg2
    go_wp2
    go_ret
    exact ⟨_, rfl, hpi.1, hpi.2, hc2, hg⟩

set_option maxHeartbeats 1000000 in
theorem drawWrapN (w : World) (a : Option Addr) (len cap : Nat) (hl : len ≤ 4096) (hc : Code w w.heap.size a len) :
    Calls Try.prog 10 #[.slice a len cap] w fun e w' => ∃ n : Int, e = .returned (.int .i64 n) ∧ -9223372036854775808 ≤ n ∧ n ≤ 9223372036854775807 ∧ Below w.heap.size w w' := by
  go_enter Try.func10, Try.ntmps10
  go_wp2_with fail
  refine (drawNew _ a len cap hl hc).mono ?_
  rintro e w1 ⟨rfl, hc1, hg1⟩
  have hb1 : Below w.heap.size w w1 := (Below.refl _ _).grown hg1 (Nat.le_refl _) (by simp)
  clear hg1
  go_wp2_with fail
  refine (drawAny _ _ a len cap hc1).mono ?_
  rintro e w2 ⟨x, rfl, hx0, hx1, hc2, hg2⟩
  have hb2 : Below w.heap.size w w2 := hb1.grown hg2 hb1.size (by simp)
  clear hc1 hg2 hb1
  go_wp2_with fail
  refine (drawBelow _ _ a len cap 70000 (by omega) (by omega) hc2).mono ?_
  rintro e w3 ⟨y, rfl, hy0, hy1, hc3, hg3⟩
  have hb3 : Below w.heap.size w w3 := hb2.grown hg3 hb2.size (by simp)
  clear hc2 hg3 hb2
  go_wp2_with fail
  refine (drawBelow _ _ a len cap 9 (by omega) (by omega) hc3).mono ?_
  rintro e w4 ⟨z, rfl, hz0, hz1, hc4, hg4⟩
  have hb4 : Below w.heap.size w w4 := hb3.grown hg4 hb3.size (by simp)
  clear hc3 hg4 hb3 hc4
  go_wp2
  go_ret
  exact ⟨_, rfl, by unfold wrap64; omega, by unfold wrap64; omega, hb4⟩

set_option maxHeartbeats 1000000 in
theorem drawDoneN (w : World) (a : Option Addr) (len cap : Nat) (hl : len ≤ 4096) (hc : Code w w.heap.size a len) :
    Calls Try.prog 8 #[.slice a len cap] w fun e w' => ∃ k x y : Int, e = .returned (.tuple #[.int .i64 k, .int .i64 x, .int .i64 y]) ∧ (-9223372036854775808 ≤ k ∧ k ≤ 9223372036854775807) ∧ (-9223372036854775808 ≤ x ∧ x ≤ 9223372036854775807) ∧ (-9223372036854775808 ≤ y ∧ y ≤ 9223372036854775807) ∧ Below w.heap.size w w' := by
  go_enter Try.func8, Try.ntmps8
  go_wp2_with fail
  refine (drawNew _ a len cap hl hc).mono ?_
  rintro e w1 ⟨rfl, hc1, hg1⟩
  have hb1 : Below w.heap.size w w1 := (Below.refl _ _).grown hg1 (Nat.le_refl _) (by simp)
  clear hg1
  go_wp2_with fail
  refine (drawBelow _ _ a len cap 4 (by omega) (by omega) hc1).mono ?_
  rintro e w2 ⟨k, rfl, hk0, hk1, hc2, hg2⟩
  have hb2 : Below w.heap.size w w2 := hb1.grown hg2 hb1.size (by simp)
  clear hc1 hg2 hb1
  go_wp2_with fail
  refine (drawOnce _ _ a len cap 10 (by omega) (by omega) hc2).mono ?_
  rintro e w3 ⟨o, rfl, hc3, hg3⟩
  have hb3 : Below w.heap.size w w3 := hb2.grown hg3 hb2.size (by simp)
  clear hc2 hg3 hb2
  rcases o with _ | _
  · go_wp2_with fail
    refine (drawAny _ _ a len cap hc3).mono ?_
    rintro e w4 ⟨x, rfl, hx0, hx1, hc4, hg4⟩
    have hb4 : Below w.heap.size w w4 := hb3.grown hg4 hb3.size (by simp)
    clear hc3 hg4 hb3
    go_wp2_with fail
    refine (drawAny _ _ a len cap hc4).mono ?_
    rintro e w5 ⟨y, rfl, hy0, hy1, hc5, hg5⟩
    have hb5 : Below w.heap.size w w5 := hb4.grown hg5 hb4.size (by simp)
    clear hc4 hg5 hb4 hc5
    go_wp2
    go_ret3
    exact ⟨_, _, _, rfl, by omega, ⟨hx0, hx1⟩, ⟨hy0, hy1⟩, hb5⟩
  · go_wp2_with fail
    refine (drawFromG _ _ a len cap (-1) 11 (by omega) (by omega) (by omega) hc3).mono ?_
    rintro e w6 ⟨k6, rfl, hk60, hk61, hc6, hg6⟩
    have hb6 : Below w.heap.size w w6 := hb3.grown hg6 hb3.size (by simp)
    clear hc3 hg6 hb3
    go_wp2_with fail
    refine (drawAny _ _ a len cap hc6).mono ?_
    rintro e w4 ⟨x, rfl, hx0, hx1, hc4, hg4⟩
    have hb4 : Below w.heap.size w w4 := hb6.grown hg4 hb6.size (by simp)
    clear hc6 hg4 hb6
    go_wp2_with fail
    refine (drawAny _ _ a len cap hc4).mono ?_
    rintro e w5 ⟨y, rfl, hy0, hy1, hc5, hg5⟩
    have hb5 : Below w.heap.size w w5 := hb4.grown hg5 hb4.size (by simp)
    clear hc4 hg5 hb4 hc5
    go_wp2
    go_ret3
    exact ⟨_, _, _, rfl, by omega, ⟨hx0, hx1⟩, ⟨hy0, hy1⟩, hb5⟩

end Go.Proofs.Ytfegekencoccdaa
