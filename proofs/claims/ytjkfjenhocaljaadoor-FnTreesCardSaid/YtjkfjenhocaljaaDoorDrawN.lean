/-
  A node is drawn.
-/
import Derived.Test.YtjkfjenhocaljaaDoorNodeL
import Derived.Test.YtjkfjenhocaljaaDoorDrawW
import Derived.Test.YtjkfjenhocaljaaDoorDrawX
namespace Go.Proofs.YtjkfjenhocaljaaDoor
open Go.RowKit

theorem Code.alloc {w : World} {B : Nat} {a : Option Addr} {len : Nat} (h : Code w B a len) (hB : B ≤ w.heap.size) (o : Obj) : Code (w.alloc o) (B + 1) a len := by
  intro j hj
  obtain ⟨b, off, x, e1, e2, e3, e0⟩ := h j hj
  exact ⟨b, off, x, e1, by omega, (World.cell?_of_block (a := ⟨b, off + j, none⟩) (Below.heap_alloc _ _ _ (by show b < _; omega))).trans e3, e0⟩

theorem put4 {w W : World} {u0 u1 u2 u3 : Value} (a b c d : Value) (r0 : W.cell? ⟨w.heap.size, 0, none⟩ = some u0) (r1 : W.cell? ⟨w.heap.size, 1, none⟩ = some u1) (r2 : W.cell? ⟨w.heap.size, 2, none⟩ = some u2) (r3 : W.cell? ⟨w.heap.size, 3, none⟩ = some u3) (hb : Below w.heap.size w W) :
    ((((W.setCell ⟨w.heap.size, 0, none⟩ a).setCell ⟨w.heap.size, 1, none⟩ b).setCell ⟨w.heap.size, 2, none⟩ c).setCell ⟨w.heap.size, 3, none⟩ d).cell? ⟨w.heap.size, 0, none⟩ = some a ∧
    ((((W.setCell ⟨w.heap.size, 0, none⟩ a).setCell ⟨w.heap.size, 1, none⟩ b).setCell ⟨w.heap.size, 2, none⟩ c).setCell ⟨w.heap.size, 3, none⟩ d).cell? ⟨w.heap.size, 1, none⟩ = some b ∧
    ((((W.setCell ⟨w.heap.size, 0, none⟩ a).setCell ⟨w.heap.size, 1, none⟩ b).setCell ⟨w.heap.size, 2, none⟩ c).setCell ⟨w.heap.size, 3, none⟩ d).cell? ⟨w.heap.size, 2, none⟩ = some c ∧
    ((((W.setCell ⟨w.heap.size, 0, none⟩ a).setCell ⟨w.heap.size, 1, none⟩ b).setCell ⟨w.heap.size, 2, none⟩ c).setCell ⟨w.heap.size, 3, none⟩ d).cell? ⟨w.heap.size, 3, none⟩ = some d ∧
    Below w.heap.size w ((((W.setCell ⟨w.heap.size, 0, none⟩ a).setCell ⟨w.heap.size, 1, none⟩ b).setCell ⟨w.heap.size, 2, none⟩ c).setCell ⟨w.heap.size, 3, none⟩ d) := by
  have s1 := (World.cell?_setCell_other W ⟨w.heap.size, 0, none⟩ ⟨w.heap.size, 1, none⟩ a (by simp)).trans r1
  refine ⟨?_, ?_, ?_, ?_, (((hb.setCell (p := ⟨w.heap.size, 0, none⟩) (Nat.le_refl _) a).setCell (p := ⟨w.heap.size, 1, none⟩) (Nat.le_refl _) b).setCell (p := ⟨w.heap.size, 2, none⟩) (Nat.le_refl _) c).setCell (p := ⟨w.heap.size, 3, none⟩) (Nat.le_refl _) d⟩
  · exact (World.cell?_setCell_other _ _ _ _ (by simp)).trans ((World.cell?_setCell_other _ _ _ _ (by simp)).trans ((World.cell?_setCell_other _ _ _ _ (by simp)).trans (World.cell?_setCell_same _ _ _ r0)))
  · exact (World.cell?_setCell_other _ _ _ _ (by simp)).trans ((World.cell?_setCell_other _ _ _ _ (by simp)).trans (World.cell?_setCell_same _ _ _ s1))
  · exact (World.cell?_setCell_other _ _ _ _ (by simp)).trans (World.cell?_setCell_same _ _ _ ((World.cell?_setCell_other _ _ _ _ (by simp)).trans ((World.cell?_setCell_other _ _ _ _ (by simp)).trans r2)))
  · exact World.cell?_setCell_same _ _ _ ((World.cell?_setCell_other _ _ _ _ (by simp)).trans ((World.cell?_setCell_other _ _ _ _ (by simp)).trans ((World.cell?_setCell_other _ _ _ _ (by simp)).trans r3)))

set_option maxHeartbeats 4000000 in
set_option maxRecDepth 100000 in
theorem drawNodeOk (w : World) (a : Option Addr) (len cap : Nat) (hl : len ≤ 4096) (hc : Code w w.heap.size a len) :
    Calls Tryd.prog 11 #[.slice a len cap] w fun e w' => ∃ n : Nd, e = .returned (nodeVal n) ∧ IntN n ∧ n.2.2.1.length ≤ 9 ∧ n.2.2.2.length ≤ 9 ∧ Below w.heap.size w w' := by
  obtain ⟨W0, hW0⟩ : ∃ W0, w.alloc (.cells #[.int .i64 0, .int .i64 0, .string ⟨#[]⟩, .string ⟨#[]⟩] 31) = W0 := ⟨_, rfl⟩
  have hs0 : W0.heap.size = w.heap.size + 1 := by rw [← hW0]; simp
  have hb0 : Below w.heap.size w W0 := by rw [← hW0]; exact (Below.refl _ _).alloc (Nat.le_refl _) _
  have hc0 : Code W0 W0.heap.size a len := by rw [hs0, ← hW0]; exact hc.alloc (Nat.le_refl _) _
  have hA : W0.heap[w.heap.size]? = some (.cells #[.int .i64 0, .int .i64 0, .string ⟨#[]⟩, .string ⟨#[]⟩] 31) := by rw [← hW0]; exact heap_alloc_new w _
  have r00 : W0.cell? ⟨w.heap.size, 0, none⟩ = some (.int .i64 0) := by simp [World.cell?, hA]
  have r10 : W0.cell? ⟨w.heap.size, 1, none⟩ = some (.int .i64 0) := by simp [World.cell?, hA]
  have r20 : W0.cell? ⟨w.heap.size, 2, none⟩ = some (.string ⟨#[]⟩) := by simp [World.cell?, hA]
  have r30 : W0.cell? ⟨w.heap.size, 3, none⟩ = some (.string ⟨#[]⟩) := by simp [World.cell?, hA]
  have f0 : ∀ j, W0.frozen? ⟨w.heap.size, j, none⟩ = false := fun j => by simp [World.frozen?, hA]
  clear hA hc
  go_enter Tryd.func11, Tryd.ntmps11
  go_wp2_with fail
  refine (drawNew _ a len cap hl hc0).mono ?_
  rintro e w1 ⟨rfl, hc1, hg1⟩
  obtain ⟨C, hC⟩ : ∃ C, W0.heap.size = C := ⟨_, rfl⟩
  rw [hC] at hc1 ⊢
  have hb1 : Below w.heap.size w w1 := hb0.grown hg1 hb0.size (by simp)
  have bk1 : w1.heap[w.heap.size]? = W0.heap[w.heap.size]? := hg1.block _ (by omega) (by simp)
  clear hc0 hg1 hb0
  go_wp2_with fail
  refine (drawFromG _ C a len cap (-1) 11 (by omega) (by omega) (by omega) hc1).mono ?_
  rintro e w2 ⟨kd, rfl, hk0, hk1, hc2, hg2⟩
  have hb2 : Below w.heap.size w w2 := hb1.grown hg2 hb1.size (by simp; omega)
  have bk2 : w2.heap[w.heap.size]? = W0.heap[w.heap.size]? := (hg2.block _ (by have := hb1.size; have := hc1.lt; omega) (by simp; omega)).trans bk1
  have hC2 := hc2.lt
  clear hc1 hg2 hb1 bk1
  go_wp2_with fail
  refine (drawBelow _ C a len cap 7 (by omega) (by omega) (hc2.kept (World.grownBy_alloc _ _ none) (by simp))).mono ?_
  rintro e w3 ⟨x, rfl, hx0, hx1, hc3, hg3⟩
  have hcx := hg3.cell (pick_cell [0, 1, 2, 3, 4, -1, 2147483648] x hx0 hx1 w2 2) (by simp; omega)
  have hpi := pick_in [0, 1, 2, 3, 4, -1, 2147483648] x (-9223372036854775808) 9223372036854775807 hx0 hx1 (by simp)
  generalize pick [0, 1, 2, 3, 4, -1, 2147483648] x = aa at hcx hpi
  have hb3 : Below w.heap.size w w3 := (hb2.alloc hb2.size _).grown hg3 (by have := hb2.size; simp; omega) (by simp; omega)
  have bk3 : w3.heap[w.heap.size]? = W0.heap[w.heap.size]? := (hg3.block _ (by simp; omega) (by simp; omega)).trans ((Below.heap_alloc _ _ _ (by omega)).trans bk2)
  have hC3 := hc3.lt
  obtain ⟨Q, hQ⟩ : ∃ Q, w3.alloc (.cells #[.int .i64 kd, .int .i64 aa, .string ⟨#[]⟩, .string ⟨#[]⟩] 31) = Q := ⟨_, rfl⟩
  obtain ⟨D, hD⟩ : ∃ D, w3.heap.size = D := ⟨_, rfl⟩
  have hAQ : Q.heap[D]? = some (.cells #[.int .i64 kd, .int .i64 aa, .string ⟨#[]⟩, .string ⟨#[]⟩] 31) := by rw [← hQ, ← hD]; exact heap_alloc_new w3 _
  have n0Q : Q.cell? ⟨D, 0, none⟩ = some (.int .i64 kd) := by simp [World.cell?, hAQ]
  have n1Q : Q.cell? ⟨D, 1, none⟩ = some (.int .i64 aa) := by simp [World.cell?, hAQ]
  have n2Q : Q.cell? ⟨D, 2, none⟩ = some (.string ⟨#[]⟩) := by simp [World.cell?, hAQ]
  have n3Q : Q.cell? ⟨D, 3, none⟩ = some (.string ⟨#[]⟩) := by simp [World.cell?, hAQ]
  have m2Q : Q.frozen? ⟨D, 2, none⟩ = false := by simp [World.frozen?, hAQ]
  have m3Q : Q.frozen? ⟨D, 3, none⟩ = false := by simp [World.frozen?, hAQ]
  have hsQ : Q.heap.size = D + 1 := by rw [← hQ, ← hD]; simp
  have hcQ : Cur Q C a len cap := by rw [← hQ]; exact hc3.kept (World.grownBy_alloc _ _ none) (by simp)
  have hbQ : Below w.heap.size w Q := by rw [← hQ]; exact hb3.alloc hb3.size _
  have bkQ : Q.heap[w.heap.size]? = W0.heap[w.heap.size]? := by rw [← hQ]; exact (Below.heap_alloc _ _ _ (by omega)).trans bk3
  obtain ⟨X, hX⟩ : ∃ X, (Q.setCell ⟨D, 2, none⟩ (.string ⟨#[]⟩)).setCell ⟨D, 3, none⟩ (.string ⟨#[]⟩) = X := ⟨_, rfl⟩
  have hgX : Q.grownBy X (some D) := by rw [← hX]; exact (grown_setCell _ _ _ _).trans (grown_setCell _ _ _ _)
  have hsX : X.heap.size = D + 1 := by rw [← hX]; simp [hsQ]
  have n0X : X.cell? ⟨D, 0, none⟩ = some (.int .i64 kd) := by rw [← hX]; exact (World.cell?_setCell_other _ _ _ _ (by simp)).trans ((World.cell?_setCell_other _ _ _ _ (by simp)).trans n0Q)
  have n1X : X.cell? ⟨D, 1, none⟩ = some (.int .i64 aa) := by rw [← hX]; exact (World.cell?_setCell_other _ _ _ _ (by simp)).trans ((World.cell?_setCell_other _ _ _ _ (by simp)).trans n1Q)
  have n2X : X.cell? ⟨D, 2, none⟩ = some (.string ⟨#[]⟩) := by rw [← hX]; exact (World.cell?_setCell_other _ _ _ _ (by simp)).trans (World.cell?_setCell_same _ _ _ n2Q)
  have n3X : X.cell? ⟨D, 3, none⟩ = some (.string ⟨#[]⟩) := by rw [← hX]; exact World.cell?_setCell_same _ _ _ ((World.cell?_setCell_other _ _ _ _ (by simp)).trans n3Q)
  have m2X : X.frozen? ⟨D, 2, none⟩ = false := by rw [← hX]; simpa using m2Q
  have m3X : X.frozen? ⟨D, 3, none⟩ = false := by rw [← hX]; simpa using m3Q
  have hcX : Cur X C a len cap := hcQ.kept hgX (by simp; omega)
  have hbX : Below w.heap.size w X := hbQ.grown hgX hbQ.size (by simp; omega)
  have bkX : X.heap[w.heap.size]? = W0.heap[w.heap.size]? := (hgX.block _ (by omega) (by simp; omega)).trans bkQ
  have hCD : C < D := by omega
  clear hAQ hc3 hb3 bk3 hg3 hc2 hb2 bk2 hcQ hbQ bkQ hgX
  by_cases h8 : kd = 8
  · have h8b : (kd == 8) = true := by simp [h8]
    clear h8
    go_wp2_with fail
    refine (drawBelow _ C a len cap 4 (by omega) (by omega) (hcX.kept (World.grownBy_alloc _ _ none) (by simp))).mono ?_
    rintro e w5 ⟨x5, rfl, h50, h51, hc5, hg5⟩
    have hcp := hg5.cell (pickT_cell [[108, 105, 98], [97], [], [65]] x5 h50 h51 X 9) (by simp; omega)
    have hpl := pickT_len [[108, 105, 98], [97], [], [65]] x5 9 (by simp)
    generalize pickT [[108, 105, 98], [97], [], [65]] x5 = p at hcp hpl
    rw [hsX] at hcp
    have n05 := hg5.cell ((World.cell?_of_block (a := ⟨D, 0, none⟩) (Below.heap_alloc _ _ _ (by show D < _; omega))).trans n0X) (by simp; omega)
    have n15 := hg5.cell ((World.cell?_of_block (a := ⟨D, 1, none⟩) (Below.heap_alloc _ _ _ (by show D < _; omega))).trans n1X) (by simp; omega)
    have n25 := hg5.cell ((World.cell?_of_block (a := ⟨D, 2, none⟩) (Below.heap_alloc _ _ _ (by show D < _; omega))).trans n2X) (by simp; omega)
    have n35 := hg5.cell ((World.cell?_of_block (a := ⟨D, 3, none⟩) (Below.heap_alloc _ _ _ (by show D < _; omega))).trans n3X) (by simp; omega)
    have m25 : w5.frozen? ⟨D, 2, none⟩ = false := (World.frozen?_of_block (a := ⟨D, 2, none⟩) ((hg5.block D (by simp; omega) (by simp; omega)).trans (Below.heap_alloc _ _ _ (by omega)))).trans m2X
    have m35 : w5.frozen? ⟨D, 3, none⟩ = false := (World.frozen?_of_block (a := ⟨D, 3, none⟩) ((hg5.block D (by simp; omega) (by simp; omega)).trans (Below.heap_alloc _ _ _ (by omega)))).trans m3X
    have hb5 : Below w.heap.size w w5 := (hbX.alloc hbX.size _).grown hg5 (by have := hbX.size; simp; omega) (by simp; omega)
    have bk5 : w5.heap[w.heap.size]? = W0.heap[w.heap.size]? := (hg5.block _ (by simp; omega) (by simp; omega)).trans ((Below.heap_alloc _ _ _ (by omega)).trans bkX)
    have hD5 : D < w5.heap.size := World.block_lt_of_cell? _ ⟨D, 0, none⟩ n05
    have hC5 := hc5.lt
    clear hg5 hcX hbX bkX n0X n1X n2X n3X m2X m3X
    obtain ⟨V, hV⟩ : ∃ V, w5.setCell ⟨D, 2, none⟩ (.string ⟨p.toArray⟩) = V := ⟨_, rfl⟩
    have hgV : w5.grownBy V (some D) := by rw [← hV]; exact grown_setCell _ _ _ _
    have n0V : V.cell? ⟨D, 0, none⟩ = some (.int .i64 kd) := by rw [← hV]; exact (World.cell?_setCell_other _ _ _ _ (by simp)).trans n05
    have n1V : V.cell? ⟨D, 1, none⟩ = some (.int .i64 aa) := by rw [← hV]; exact (World.cell?_setCell_other _ _ _ _ (by simp)).trans n15
    have n2V : V.cell? ⟨D, 2, none⟩ = some (.string ⟨p.toArray⟩) := by rw [← hV]; exact World.cell?_setCell_same _ _ _ n25
    have n3V : V.cell? ⟨D, 3, none⟩ = some (.string ⟨#[]⟩) := by rw [← hV]; exact (World.cell?_setCell_other _ _ _ _ (by simp)).trans n35
    have m3V : V.frozen? ⟨D, 3, none⟩ = false := by rw [← hV]; simpa using m35
    have hcV : Cur V C a len cap := hc5.kept hgV (by simp; omega)
    have hbV : Below w.heap.size w V := hb5.grown hgV hb5.size (by simp; omega)
    have bkV : V.heap[w.heap.size]? = W0.heap[w.heap.size]? := (hgV.block _ (by omega) (by simp; omega)).trans bk5
    have hsV : V.heap.size = w5.heap.size := by rw [← hV]; simp
    clear hgV hc5 hb5 bk5
    go_wp2_with fail
    refine (drawBelow _ C a len cap 4 (by omega) (by omega) (hcV.kept (World.grownBy_alloc _ _ none) (by simp))).mono ?_
    rintro e w6 ⟨x6, rfl, h60, h61, hc6, hg6⟩
    have hcf := hg6.cell (pickT_cell [[102], [103], [], [97, 98, 99, 100, 101, 102, 103, 104, 105]] x6 h60 h61 V 9) (by simp; omega)
    have hfl := pickT_len [[102], [103], [], [97, 98, 99, 100, 101, 102, 103, 104, 105]] x6 9 (by simp)
    generalize pickT [[102], [103], [], [97, 98, 99, 100, 101, 102, 103, 104, 105]] x6 = f at hcf hfl
    rw [hsV] at hcf
    have n06 := hg6.cell ((World.cell?_of_block (a := ⟨D, 0, none⟩) (Below.heap_alloc _ _ _ (by show D < _; omega))).trans n0V) (by simp; omega)
    have n16 := hg6.cell ((World.cell?_of_block (a := ⟨D, 1, none⟩) (Below.heap_alloc _ _ _ (by show D < _; omega))).trans n1V) (by simp; omega)
    have n26 := hg6.cell ((World.cell?_of_block (a := ⟨D, 2, none⟩) (Below.heap_alloc _ _ _ (by show D < _; omega))).trans n2V) (by simp; omega)
    have n36 := hg6.cell ((World.cell?_of_block (a := ⟨D, 3, none⟩) (Below.heap_alloc _ _ _ (by show D < _; omega))).trans n3V) (by simp; omega)
    have m36 : w6.frozen? ⟨D, 3, none⟩ = false := (World.frozen?_of_block (a := ⟨D, 3, none⟩) ((hg6.block D (by simp; omega) (by simp; omega)).trans (Below.heap_alloc _ _ _ (by omega)))).trans m3V
    have hb6 : Below w.heap.size w w6 := (hbV.alloc hbV.size _).grown hg6 (by have := hbV.size; simp; omega) (by simp; omega)
    have bk6 : w6.heap[w.heap.size]? = W0.heap[w.heap.size]? := (hg6.block _ (by simp; omega) (by simp; omega)).trans ((Below.heap_alloc _ _ _ (by omega)).trans bkV)
    have hD6 : D < w6.heap.size := World.block_lt_of_cell? _ ⟨D, 0, none⟩ n06
    clear hg6 hcV hbV bkV n0V n1V n2V n3V m3V hc6 n05 n15 n25 n35 m25 m35 hcp
    obtain ⟨U, hU⟩ : ∃ U, w6.setCell ⟨D, 3, none⟩ (.string ⟨f.toArray⟩) = U := ⟨_, rfl⟩
    have hgU : w6.grownBy U (some D) := by rw [← hU]; exact grown_setCell _ _ _ _
    have n0U : U.cell? ⟨D, 0, none⟩ = some (.int .i64 kd) := by rw [← hU]; exact (World.cell?_setCell_other _ _ _ _ (by simp)).trans n06
    have n1U : U.cell? ⟨D, 1, none⟩ = some (.int .i64 aa) := by rw [← hU]; exact (World.cell?_setCell_other _ _ _ _ (by simp)).trans n16
    have n2U : U.cell? ⟨D, 2, none⟩ = some (.string ⟨p.toArray⟩) := by rw [← hU]; exact (World.cell?_setCell_other _ _ _ _ (by simp)).trans n26
    have n3U : U.cell? ⟨D, 3, none⟩ = some (.string ⟨f.toArray⟩) := by rw [← hU]; exact World.cell?_setCell_same _ _ _ n36
    have hbU : Below w.heap.size w U := hb6.grown hgU hb6.size (by simp; omega)
    have bkU : U.heap[w.heap.size]? = W0.heap[w.heap.size]? := (hgU.block _ (by omega) (by simp; omega)).trans bk6
    clear hgU hb6 bk6
    have r0 : U.cell? ⟨w.heap.size, 0, none⟩ = some (.int .i64 0) := (World.cell?_of_block (a := ⟨w.heap.size, 0, none⟩) bkU).trans r00
    have r1 : U.cell? ⟨w.heap.size, 1, none⟩ = some (.int .i64 0) := (World.cell?_of_block (a := ⟨w.heap.size, 1, none⟩) bkU).trans r10
    have r2 : U.cell? ⟨w.heap.size, 2, none⟩ = some (.string ⟨#[]⟩) := (World.cell?_of_block (a := ⟨w.heap.size, 2, none⟩) bkU).trans r20
    have r3 : U.cell? ⟨w.heap.size, 3, none⟩ = some (.string ⟨#[]⟩) := (World.cell?_of_block (a := ⟨w.heap.size, 3, none⟩) bkU).trans r30
    have g0 : U.frozen? ⟨w.heap.size, 0, none⟩ = false := (World.frozen?_of_block (a := ⟨w.heap.size, 0, none⟩) bkU).trans (f0 0)
    have g1 : U.frozen? ⟨w.heap.size, 1, none⟩ = false := (World.frozen?_of_block (a := ⟨w.heap.size, 1, none⟩) bkU).trans (f0 1)
    have g2 : U.frozen? ⟨w.heap.size, 2, none⟩ = false := (World.frozen?_of_block (a := ⟨w.heap.size, 2, none⟩) bkU).trans (f0 2)
    have g3 : U.frozen? ⟨w.heap.size, 3, none⟩ = false := (World.frozen?_of_block (a := ⟨w.heap.size, 3, none⟩) bkU).trans (f0 3)
    go_wp2
    obtain ⟨Y, hY⟩ : ∃ Y, (((U.setCell ⟨w.heap.size, 0, none⟩ (.int .i64 kd)).setCell ⟨w.heap.size, 1, none⟩ (.int .i64 aa)).setCell ⟨w.heap.size, 2, none⟩ (.string ⟨p.toArray⟩)).setCell ⟨w.heap.size, 3, none⟩ (.string ⟨f.toArray⟩) = Y := ⟨_, rfl⟩
    obtain ⟨y0, y1, y2, y3, hby⟩ := put4 (.int .i64 kd) (.int .i64 aa) (.string ⟨p.toArray⟩) (.string ⟨f.toArray⟩) r0 r1 r2 r3 hbU
    rw [hY] at y0 y1 y2 y3 hby
    rw [hY]
    refine bodyPost_ret (v := .agg #[.int .i64 kd, .int .i64 aa, .string ⟨p.toArray⟩, .string ⟨f.toArray⟩]) (by simp [results, Tryd.results11, go_sem, y0, y1, y2, y3]) rfl ?_
    exact ⟨(kd, aa, p, f), rfl, ⟨⟨by show -9223372036854775808 ≤ kd; omega, by show kd ≤ 9223372036854775807; omega⟩, hpi⟩, hpl, hfl, hby⟩
  · have h8b : (kd == 8) = false := by simp [h8]
    go_wp2_with fail
    refine (drawOnce _ C a len cap 8 (by omega) (by omega) hcX).mono ?_
    rintro e w4 ⟨b4, rfl, hc4, hg4⟩
    have n04 := hg4.cell n0X (by simp; omega)
    have n14 := hg4.cell n1X (by simp; omega)
    have n24 := hg4.cell n2X (by simp; omega)
    have n34 := hg4.cell n3X (by simp; omega)
    have m24 : w4.frozen? ⟨D, 2, none⟩ = false := (World.frozen?_of_block (a := ⟨D, 2, none⟩) (hg4.block D (by omega) (by simp; omega))).trans m2X
    have m34 : w4.frozen? ⟨D, 3, none⟩ = false := (World.frozen?_of_block (a := ⟨D, 3, none⟩) (hg4.block D (by omega) (by simp; omega))).trans m3X
    have hb4 : Below w.heap.size w w4 := hbX.grown hg4 hbX.size (by simp; omega)
    have bk4 : w4.heap[w.heap.size]? = W0.heap[w.heap.size]? := (hg4.block _ (by omega) (by simp; omega)).trans bkX
    have hD4 : D < w4.heap.size := World.block_lt_of_cell? _ ⟨D, 0, none⟩ n04
    clear hg4 hcX hbX bkX n0X n1X n2X n3X m2X m3X
    rcases b4 with _ | _
    · have r0 : w4.cell? ⟨w.heap.size, 0, none⟩ = some (.int .i64 0) := (World.cell?_of_block (a := ⟨w.heap.size, 0, none⟩) bk4).trans r00
      have r1 : w4.cell? ⟨w.heap.size, 1, none⟩ = some (.int .i64 0) := (World.cell?_of_block (a := ⟨w.heap.size, 1, none⟩) bk4).trans r10
      have r2 : w4.cell? ⟨w.heap.size, 2, none⟩ = some (.string ⟨#[]⟩) := (World.cell?_of_block (a := ⟨w.heap.size, 2, none⟩) bk4).trans r20
      have r3 : w4.cell? ⟨w.heap.size, 3, none⟩ = some (.string ⟨#[]⟩) := (World.cell?_of_block (a := ⟨w.heap.size, 3, none⟩) bk4).trans r30
      have g0 : w4.frozen? ⟨w.heap.size, 0, none⟩ = false := (World.frozen?_of_block (a := ⟨w.heap.size, 0, none⟩) bk4).trans (f0 0)
      have g1 : w4.frozen? ⟨w.heap.size, 1, none⟩ = false := (World.frozen?_of_block (a := ⟨w.heap.size, 1, none⟩) bk4).trans (f0 1)
      have g2 : w4.frozen? ⟨w.heap.size, 2, none⟩ = false := (World.frozen?_of_block (a := ⟨w.heap.size, 2, none⟩) bk4).trans (f0 2)
      have g3 : w4.frozen? ⟨w.heap.size, 3, none⟩ = false := (World.frozen?_of_block (a := ⟨w.heap.size, 3, none⟩) bk4).trans (f0 3)
      go_wp2
      obtain ⟨Y, hY⟩ : ∃ Y, (((w4.setCell ⟨w.heap.size, 0, none⟩ (.int .i64 kd)).setCell ⟨w.heap.size, 1, none⟩ (.int .i64 aa)).setCell ⟨w.heap.size, 2, none⟩ (.string ⟨#[]⟩)).setCell ⟨w.heap.size, 3, none⟩ (.string ⟨#[]⟩) = Y := ⟨_, rfl⟩
      obtain ⟨y0, y1, y2, y3, hby⟩ := put4 (.int .i64 kd) (.int .i64 aa) (.string ⟨#[]⟩) (.string ⟨#[]⟩) r0 r1 r2 r3 hb4
      rw [hY] at y0 y1 y2 y3 hby
      rw [hY]
      refine bodyPost_ret (v := .agg #[.int .i64 kd, .int .i64 aa, .string ⟨#[]⟩, .string ⟨#[]⟩]) (by simp [results, Tryd.results11, go_sem, y0, y1, y2, y3]) rfl ?_
      exact ⟨(kd, aa, [], []), rfl, ⟨⟨by show -9223372036854775808 ≤ kd; omega, by show kd ≤ 9223372036854775807; omega⟩, hpi⟩, by simp, by simp, hby⟩
    · go_wp2_with fail
      refine (drawBelow _ C a len cap 4 (by omega) (by omega) (hc4.kept (World.grownBy_alloc _ _ none) (by simp))).mono ?_
      rintro e w5 ⟨x5, rfl, h50, h51, hc5, hg5⟩
      have hcp := hg5.cell (pickT_cell [[108, 105, 98], [97], [], [65]] x5 h50 h51 w4 9) (by simp; omega)
      have hpl := pickT_len [[108, 105, 98], [97], [], [65]] x5 9 (by simp)
      generalize pickT [[108, 105, 98], [97], [], [65]] x5 = p at hcp hpl
      have n05 := hg5.cell ((World.cell?_of_block (a := ⟨D, 0, none⟩) (Below.heap_alloc _ _ _ (by show D < _; omega))).trans n04) (by simp; omega)
      have n15 := hg5.cell ((World.cell?_of_block (a := ⟨D, 1, none⟩) (Below.heap_alloc _ _ _ (by show D < _; omega))).trans n14) (by simp; omega)
      have n25 := hg5.cell ((World.cell?_of_block (a := ⟨D, 2, none⟩) (Below.heap_alloc _ _ _ (by show D < _; omega))).trans n24) (by simp; omega)
      have n35 := hg5.cell ((World.cell?_of_block (a := ⟨D, 3, none⟩) (Below.heap_alloc _ _ _ (by show D < _; omega))).trans n34) (by simp; omega)
      have m25 : w5.frozen? ⟨D, 2, none⟩ = false := (World.frozen?_of_block (a := ⟨D, 2, none⟩) ((hg5.block D (by simp; omega) (by simp; omega)).trans (Below.heap_alloc _ _ _ (by omega)))).trans m24
      have m35 : w5.frozen? ⟨D, 3, none⟩ = false := (World.frozen?_of_block (a := ⟨D, 3, none⟩) ((hg5.block D (by simp; omega) (by simp; omega)).trans (Below.heap_alloc _ _ _ (by omega)))).trans m34
      have hb5 : Below w.heap.size w w5 := (hb4.alloc hb4.size _).grown hg5 (by have := hb4.size; simp; omega) (by simp; omega)
      have bk5 : w5.heap[w.heap.size]? = W0.heap[w.heap.size]? := (hg5.block _ (by simp; omega) (by simp; omega)).trans ((Below.heap_alloc _ _ _ (by omega)).trans bk4)
      have hD5 : D < w5.heap.size := World.block_lt_of_cell? _ ⟨D, 0, none⟩ n05
      have hC5 := hc5.lt
      clear hg5 hc4 hb4 bk4 n04 n14 n24 n34 m24 m34
      obtain ⟨V, hV⟩ : ∃ V, w5.setCell ⟨D, 2, none⟩ (.string ⟨p.toArray⟩) = V := ⟨_, rfl⟩
      have hgV : w5.grownBy V (some D) := by rw [← hV]; exact grown_setCell _ _ _ _
      have n0V : V.cell? ⟨D, 0, none⟩ = some (.int .i64 kd) := by rw [← hV]; exact (World.cell?_setCell_other _ _ _ _ (by simp)).trans n05
      have n1V : V.cell? ⟨D, 1, none⟩ = some (.int .i64 aa) := by rw [← hV]; exact (World.cell?_setCell_other _ _ _ _ (by simp)).trans n15
      have n2V : V.cell? ⟨D, 2, none⟩ = some (.string ⟨p.toArray⟩) := by rw [← hV]; exact World.cell?_setCell_same _ _ _ n25
      have n3V : V.cell? ⟨D, 3, none⟩ = some (.string ⟨#[]⟩) := by rw [← hV]; exact (World.cell?_setCell_other _ _ _ _ (by simp)).trans n35
      have m3V : V.frozen? ⟨D, 3, none⟩ = false := by rw [← hV]; simpa using m35
      have hcV : Cur V C a len cap := hc5.kept hgV (by simp; omega)
      have hbV : Below w.heap.size w V := hb5.grown hgV hb5.size (by simp; omega)
      have bkV : V.heap[w.heap.size]? = W0.heap[w.heap.size]? := (hgV.block _ (by omega) (by simp; omega)).trans bk5
      have hsV : V.heap.size = w5.heap.size := by rw [← hV]; simp
      clear hgV hc5 hb5 bk5
      go_wp2_with fail
      refine (drawBelow _ C a len cap 4 (by omega) (by omega) (hcV.kept (World.grownBy_alloc _ _ none) (by simp))).mono ?_
      rintro e w6 ⟨x6, rfl, h60, h61, hc6, hg6⟩
      have hcf := hg6.cell (pickT_cell [[102], [103], [], [97, 98, 99, 100, 101, 102, 103, 104, 105]] x6 h60 h61 V 9) (by simp; omega)
      have hfl := pickT_len [[102], [103], [], [97, 98, 99, 100, 101, 102, 103, 104, 105]] x6 9 (by simp)
      generalize pickT [[102], [103], [], [97, 98, 99, 100, 101, 102, 103, 104, 105]] x6 = f at hcf hfl
      rw [hsV] at hcf
      have n06 := hg6.cell ((World.cell?_of_block (a := ⟨D, 0, none⟩) (Below.heap_alloc _ _ _ (by show D < _; omega))).trans n0V) (by simp; omega)
      have n16 := hg6.cell ((World.cell?_of_block (a := ⟨D, 1, none⟩) (Below.heap_alloc _ _ _ (by show D < _; omega))).trans n1V) (by simp; omega)
      have n26 := hg6.cell ((World.cell?_of_block (a := ⟨D, 2, none⟩) (Below.heap_alloc _ _ _ (by show D < _; omega))).trans n2V) (by simp; omega)
      have n36 := hg6.cell ((World.cell?_of_block (a := ⟨D, 3, none⟩) (Below.heap_alloc _ _ _ (by show D < _; omega))).trans n3V) (by simp; omega)
      have m36 : w6.frozen? ⟨D, 3, none⟩ = false := (World.frozen?_of_block (a := ⟨D, 3, none⟩) ((hg6.block D (by simp; omega) (by simp; omega)).trans (Below.heap_alloc _ _ _ (by omega)))).trans m3V
      have hb6 : Below w.heap.size w w6 := (hbV.alloc hbV.size _).grown hg6 (by have := hbV.size; simp; omega) (by simp; omega)
      have bk6 : w6.heap[w.heap.size]? = W0.heap[w.heap.size]? := (hg6.block _ (by simp; omega) (by simp; omega)).trans ((Below.heap_alloc _ _ _ (by omega)).trans bkV)
      have hD6 : D < w6.heap.size := World.block_lt_of_cell? _ ⟨D, 0, none⟩ n06
      clear hg6 hcV hbV bkV n0V n1V n2V n3V m3V hc6 n05 n15 n25 n35 m25 m35 hcp
      obtain ⟨U, hU⟩ : ∃ U, w6.setCell ⟨D, 3, none⟩ (.string ⟨f.toArray⟩) = U := ⟨_, rfl⟩
      have hgU : w6.grownBy U (some D) := by rw [← hU]; exact grown_setCell _ _ _ _
      have n0U : U.cell? ⟨D, 0, none⟩ = some (.int .i64 kd) := by rw [← hU]; exact (World.cell?_setCell_other _ _ _ _ (by simp)).trans n06
      have n1U : U.cell? ⟨D, 1, none⟩ = some (.int .i64 aa) := by rw [← hU]; exact (World.cell?_setCell_other _ _ _ _ (by simp)).trans n16
      have n2U : U.cell? ⟨D, 2, none⟩ = some (.string ⟨p.toArray⟩) := by rw [← hU]; exact (World.cell?_setCell_other _ _ _ _ (by simp)).trans n26
      have n3U : U.cell? ⟨D, 3, none⟩ = some (.string ⟨f.toArray⟩) := by rw [← hU]; exact World.cell?_setCell_same _ _ _ n36
      have hbU : Below w.heap.size w U := hb6.grown hgU hb6.size (by simp; omega)
      have bkU : U.heap[w.heap.size]? = W0.heap[w.heap.size]? := (hgU.block _ (by omega) (by simp; omega)).trans bk6
      clear hgU hb6 bk6
      have r0 : U.cell? ⟨w.heap.size, 0, none⟩ = some (.int .i64 0) := (World.cell?_of_block (a := ⟨w.heap.size, 0, none⟩) bkU).trans r00
      have r1 : U.cell? ⟨w.heap.size, 1, none⟩ = some (.int .i64 0) := (World.cell?_of_block (a := ⟨w.heap.size, 1, none⟩) bkU).trans r10
      have r2 : U.cell? ⟨w.heap.size, 2, none⟩ = some (.string ⟨#[]⟩) := (World.cell?_of_block (a := ⟨w.heap.size, 2, none⟩) bkU).trans r20
      have r3 : U.cell? ⟨w.heap.size, 3, none⟩ = some (.string ⟨#[]⟩) := (World.cell?_of_block (a := ⟨w.heap.size, 3, none⟩) bkU).trans r30
      have g0 : U.frozen? ⟨w.heap.size, 0, none⟩ = false := (World.frozen?_of_block (a := ⟨w.heap.size, 0, none⟩) bkU).trans (f0 0)
      have g1 : U.frozen? ⟨w.heap.size, 1, none⟩ = false := (World.frozen?_of_block (a := ⟨w.heap.size, 1, none⟩) bkU).trans (f0 1)
      have g2 : U.frozen? ⟨w.heap.size, 2, none⟩ = false := (World.frozen?_of_block (a := ⟨w.heap.size, 2, none⟩) bkU).trans (f0 2)
      have g3 : U.frozen? ⟨w.heap.size, 3, none⟩ = false := (World.frozen?_of_block (a := ⟨w.heap.size, 3, none⟩) bkU).trans (f0 3)
      go_wp2
      obtain ⟨Y, hY⟩ : ∃ Y, (((U.setCell ⟨w.heap.size, 0, none⟩ (.int .i64 kd)).setCell ⟨w.heap.size, 1, none⟩ (.int .i64 aa)).setCell ⟨w.heap.size, 2, none⟩ (.string ⟨p.toArray⟩)).setCell ⟨w.heap.size, 3, none⟩ (.string ⟨f.toArray⟩) = Y := ⟨_, rfl⟩
      obtain ⟨y0, y1, y2, y3, hby⟩ := put4 (.int .i64 kd) (.int .i64 aa) (.string ⟨p.toArray⟩) (.string ⟨f.toArray⟩) r0 r1 r2 r3 hbU
      rw [hY] at y0 y1 y2 y3 hby
      rw [hY]
      refine bodyPost_ret (v := .agg #[.int .i64 kd, .int .i64 aa, .string ⟨p.toArray⟩, .string ⟨f.toArray⟩]) (by simp [results, Tryd.results11, go_sem, y0, y1, y2, y3]) rfl ?_
      exact ⟨(kd, aa, p, f), rfl, ⟨⟨by show -9223372036854775808 ≤ kd; omega, by show kd ≤ 9223372036854775807; omega⟩, hpi⟩, hpl, hfl, hby⟩

end Go.Proofs.YtjkfjenhocaljaaDoor
