/-
  The contracts of DrawLines, DrawWords, DrawNameOk, DrawNumberOf.
-/
import Derived.Test.YtfeaplddbpikgaaDrawW
import Derived.Test.YtfeaplddbpikgaaDrawT
import Derived.Test.YtfeaplddbpikgaaBend2
import Derived.Test.YtfeaplddbpikgaaTextS5
namespace Go.Proofs.Ytfeaplddbpikgaa
open Go.RowKit

set_option maxHeartbeats 1000000 in
set_option maxRecDepth 100000 in
theorem drawLines (w : World) (a : Option Addr) (len cap : Nat) (hl : len ≤ 4096) (hc : Code w w.heap.size a len) :
    Calls Try.prog 9 #[.slice a len cap] w fun e w' => ∃ t : List UInt8, e = .returned (.string ⟨t.toArray⟩) ∧ t.length ≤ 200 ∧ Below w.heap.size w w' := by
  go_enter Try.func9, Try.ntmps9
  go_wp2_with fail
  refine (drawNew _ a len cap hl hc).mono ?_
  rintro e w1 ⟨rfl, hc1, hg1⟩
  have hb1 : Below w.heap.size w w1 := (Below.refl _ _).grown hg1 (Nat.le_refl _) (by simp)
  clear hg1
  go_wp2_with fail
  refine (drawText _ _ a len cap _ 14 (by decide) (by decide) (by omega) (by omega) hc1).mono ?_
  rintro e w2 ⟨t, rfl, ht, hc2, hg2⟩
  have hb2 : Below w.heap.size w w2 := hb1.grown hg2 hb1.size (by simp)
  clear hc1 hg2 hb1
  go_wp2
  go_ret
  exact ⟨t, rfl, by omega, hb2⟩

set_option maxHeartbeats 1000000 in
set_option maxRecDepth 100000 in
theorem drawWords (w : World) (a : Option Addr) (len cap : Nat) (hl : len ≤ 4096) (hc : Code w w.heap.size a len) :
    Calls Try.prog 11 #[.slice a len cap] w fun e w' => ∃ t : List UInt8, e = .returned (.string ⟨t.toArray⟩) ∧ t.length ≤ 200 ∧ Below w.heap.size w w' := by
  go_enter Try.func11, Try.ntmps11
  go_wp2_with fail
  refine (drawLines _ a len cap hl hc).mono ?_
  rintro e w1 ⟨t, rfl, ht, hb1⟩
  go_wp2
  go_ret
  exact ⟨t, rfl, ht, hb1⟩

def pickT (l : List (List UInt8)) (x : Int) : List UInt8 := l.getD x.toNat []

theorem pickT_cell (l : List (List UInt8)) (x : Int) (h0 : 0 ≤ x) (h1 : x < l.length) (W : World) (e : TypeId) :
    (W.alloc (.cells (strV l).toArray e)).cell? ⟨W.heap.size, x.toNat, none⟩ = some (.string ⟨(pickT l x).toArray⟩) := by
  have hx : x.toNat < l.length := by omega
  rw [World.cell?_alloc_mark]
  simp [pickT, strV, hx]

theorem pickT_len (l : List (List UInt8)) (x : Int) (n : Nat) (h : ∀ y ∈ l, y.length ≤ n) : (pickT l x).length ≤ n := by
  unfold pickT
  by_cases hx : x.toNat < l.length
  · have : l.getD x.toNat [] = l[x.toNat] := by simp [List.getD, hx]
    rw [this]; exact h _ (List.getElem_mem hx)
  · have : l.getD x.toNat [] = [] := by simp [List.getD, hx]
    rw [this]; simp

set_option maxHeartbeats 1000000 in
set_option maxRecDepth 100000 in
theorem drawNameOk (w : World) (a : Option Addr) (len cap : Nat) (hl : len ≤ 4096) (hc : Code w w.heap.size a len) :
    Calls Try.prog 15 #[.slice a len cap] w fun e w' => ∃ t : List UInt8, e = .returned (.string ⟨t.toArray⟩) ∧ t.length ≤ 200 ∧ Below w.heap.size w w' := by
  go_enter Try.func15, Try.ntmps15
  go_wp2_with fail
  refine (drawNew _ a len cap hl hc).mono ?_
  rintro e w1 ⟨rfl, hc1, hg1⟩
  have hb1 : Below w.heap.size w w1 := (Below.refl _ _).grown hg1 (Nat.le_refl _) (by simp)
  clear hg1
  go_wp2_with fail
  refine (drawOnce _ _ a len cap 4 (by omega) (by omega) hc1).mono ?_
  rintro e w2 ⟨o, rfl, hc2, hg2⟩
  have hb2 : Below w.heap.size w w2 := hb1.grown hg2 hb1.size (by simp)
  have hB := hc2.lt
  clear hc1 hg2 hb1
  rcases o with _ | _
  · go_wp2_with fail
    refine (drawText _ _ a len cap _ 5 (by decide) (by decide) (by omega) (by omega) hc2).mono ?_
    rintro e w3 ⟨t, rfl, ht, hc3, hg3⟩
    have hb3 : Below w.heap.size w w3 := hb2.grown hg3 hb2.size (by simp)
    clear hc2 hg3 hb2
    go_wp2
    go_ret
    exact ⟨t, rfl, by omega, hb3⟩
  · go_wp2_with fail
    refine (drawBelow _ _ a len cap 6 (by omega) (by omega) (hc2.kept (World.grownBy_alloc _ _ none) (by simp))).mono ?_
    rintro e w3 ⟨x, rfl, hx0, hx1, hc3, hg3⟩
    have hcx := hg3.cell (pickT_cell [[], [97, 98, 99, 100, 101, 102, 103, 104], [97, 98, 99, 100, 101, 102, 103, 104, 105], [97, 49], [65], [97, 123]] x hx0 hx1 w2 9) (by simp; omega)
    have hpl := pickT_len [[], [97, 98, 99, 100, 101, 102, 103, 104], [97, 98, 99, 100, 101, 102, 103, 104, 105], [97, 49], [65], [97, 123]] x 9 (by simp)
    generalize pickT [[], [97, 98, 99, 100, 101, 102, 103, 104], [97, 98, 99, 100, 101, 102, 103, 104, 105], [97, 49], [65], [97, 123]] x = y at hcx hpl
    have hb3 : Below w.heap.size w w3 := (hb2.alloc hb2.size _).grown hg3 (by have := hb2.size; simp; omega) (by simp)
    clear hc2 hg3 hb2
    go_wp2
    go_ret
    exact ⟨y, rfl, by omega, hb3⟩

set_option maxHeartbeats 1000000 in
set_option maxRecDepth 100000 in
theorem drawNumberOf (w : World) (a : Option Addr) (len cap : Nat) (hl : len ≤ 4096) (hc : Code w w.heap.size a len) :
    Calls Try.prog 13 #[.slice a len cap] w fun e w' => ∃ t : List UInt8, e = .returned (.string ⟨t.toArray⟩) ∧ t.length ≤ 200 ∧ Below w.heap.size w w' := by
  go_enter Try.func13, Try.ntmps13
  go_wp2_with fail
  refine (drawNew _ a len cap hl hc).mono ?_
  rintro e w1 ⟨rfl, hc1, hg1⟩
  have hb1 : Below w.heap.size w w1 := (Below.refl _ _).grown hg1 (Nat.le_refl _) (by simp)
  clear hg1
  go_wp2_with fail
  refine (drawAny _ _ a len cap hc1).mono ?_
  rintro e w2 ⟨n, rfl, hn0, hn1, hc2, hg2⟩
  have hb2 : Below w.heap.size w w2 := hb1.grown hg2 hb1.size (by simp)
  clear hc1 hg2 hb1
  go_wp2_with fail
  refine (specInt n _ hn0 hn1).mono ?_
  rintro e w3 ⟨rfl, hb⟩
  have hc3 := hc2.below hb
  have hb3 : Below w.heap.size w w3 := hb2.trans (hb.mono hb2.size)
  have hlen := intL_len n hn0 hn1
  generalize intL n = s at hlen ⊢
  clear hc2 hb2 hb hn0 hn1
  go_wp2_with fail
  refine (drawOnce _ _ a len cap 3 (by omega) (by omega) hc3).mono ?_
  rintro e w4 ⟨o, rfl, hc4, hg4⟩
  have hb4 : Below w.heap.size w w4 := hb3.grown hg4 hb3.size (by simp)
  clear hc3 hg4 hb3
  rcases o with _ | _
  · go_wp2
    go_ret
    exact ⟨s, rfl, by omega, hb4⟩
  · go_wp2_with fail
    refine (drawBend _ _ a len cap s [48, 45, 49, 57, 32] hc4 (by omega) (by simp) (by simp)).mono ?_
    rintro e w5 ⟨l, rfl, hl5, hc5, hg5⟩
    have hb5 : Below w.heap.size w w5 := hb4.grown hg5 hb4.size (by simp)
    clear hc4 hg5 hb4
    go_wp2
    go_ret
    exact ⟨l, rfl, by omega, hb5⟩

end Go.Proofs.Ytfeaplddbpikgaa
