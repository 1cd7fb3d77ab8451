/-
  The contracts of DrawHexOf and DrawFromHex.
-/
import Derived.Test.YtmkafobjfehakaaDraw3
import Derived.Test.YtmkafobjfehakaaBend2
import Derived.Test.YtmkafobjfehakaaHexOf
namespace Go.Proofs.Ytmkafobjfehakaa
open Go.RowKit

theorem below_g {w W W' : World} (h : Below w.heap.size w W) (hg : W.grownBy W' (some w.heap.size)) : Below w.heap.size w W' := h.grown hg h.size (by simp)
theorem below_a {w W : World} (h : Below w.heap.size w W) (o : Obj) : Below w.heap.size w (W.alloc o) := h.alloc h.size o

theorem hexS_len (n : Int) : (hexS n).length ≤ 8 := by
  unfold hexS; split <;> simp [hexL]

/-- A text that was made from a number, as the bend takes it. -/
theorem specHexOfG (n : Int) (w : World) (B : Nat) (a : Option Addr) (len cap : Nat) (h : Cur w B a len cap) :
    Calls Try.prog 17 #[.int .i64 n] w fun e w' => e = .returned (.string ⟨(hexS n).toArray⟩) ∧ Cur w' B a len cap ∧ Below w.heap.size w w' := by
  have hlt := h.lt
  refine (specHexOf n w).mono ?_
  rintro e w' ⟨rfl, hb⟩
  refine ⟨rfl, h.kept (row := none) ⟨hb.os, hb.tape, hb.output, hb.size, fun k hk _ => hb.block k hk⟩ (by simp), hb⟩

set_option maxHeartbeats 1000000 in
theorem drawFromHex (w : World) (a : Option Addr) (len cap : Nat) (hl : len ≤ 4096) (hc : Code w w.heap.size a len) :
    Calls Try.prog 14 #[.slice a len cap] w fun e w' => ∃ l : List UInt8, e = .returned (.string ⟨l.toArray⟩) ∧ l.length ≤ 10 ∧ Below w.heap.size w w' := by
  go_enter Try.func14, Try.ntmps14
  go_wp2_with fail
  refine (drawNew _ a len cap hl hc).mono ?_
  rintro e w1 ⟨rfl, hc1, hg1⟩
  have hb1 : Below w.heap.size w w1 := (Below.refl _ _).grown hg1 (Nat.le_refl _) (by simp)
  clear hg1
  go_wp2_with fail
  refine (drawBelow _ _ a len cap 4294967296 (by omega) (by omega) hc1).mono ?_
  rintro e w2 ⟨n, rfl, hn0, hn1, hc2, hg2⟩
  have hb2 : Below w.heap.size w w2 := hb1.grown hg2 hb1.size (by simp)
  clear hc1 hg2 hb1
  go_wp2_with fail
  refine (specHexOfG n _ _ a len cap hc2).mono ?_
  rintro e w3 ⟨rfl, hc3, hg3⟩
  have hb3 : Below w.heap.size w w3 := hb2.trans (hg3.mono hb2.size)
  have hlen := hexS_len n
  clear hc2 hg3 hb2
  generalize hexS n = s at hlen ⊢
  go_wp2_with fail
  refine (drawOnce _ _ a len cap 2 (by omega) (by omega) hc3).mono ?_
  rintro e w4 ⟨o, rfl, hc4, hg4⟩
  have hb4 : Below w.heap.size w w4 := hb3.grown hg4 hb3.size (by simp)
  clear hc3 hg4 hb3
  rcases o with _ | _
  · go_wp2
    go_ret
    exact ⟨s, rfl, by omega, hb4⟩
  · go_wp2_with fail
    refine (drawBend _ _ a len cap s [48, 102, 103, 70, 57, 97] hc4 (by omega) (by simp) (by simp)).mono ?_
    rintro e w5 ⟨l, rfl, hl5, hc5, hg5⟩
    go_wp2
    go_ret
    exact ⟨l, rfl, by omega, hb4.grown hg5 hb4.size (by simp)⟩

set_option maxHeartbeats 1000000 in
theorem drawHexOf (w : World) (a : Option Addr) (len cap : Nat) (hl : len ≤ 4096) (hc : Code w w.heap.size a len) :
    Calls Try.prog 12 #[.slice a len cap] w fun e w' => ∃ n : Int, e = .returned (.int .i64 n) ∧ Below w.heap.size w w' := by
  go_enter Try.func12, Try.ntmps12
  go_wp2_with fail
  refine (drawNew _ a len cap hl hc).mono ?_
  rintro e w4 ⟨rfl, hc4, hg4⟩
  have hb4 : Below w.heap.size w w4 := (Below.refl _ _).grown hg4 (Nat.le_refl _) (by simp)
  clear hg4
  go_wp2_with fail
  go_region_with (first | (have hc5' := hc5; go_at_call 20; refine (drawBelow _ _ a len cap 2 (by omega) (by omega) (by first | exact hc5' | exact hc5'.drew | exact (hc5'.kept (World.grownBy_alloc _ _ none) (by simp)) | exact (hc5'.kept (World.grownBy_alloc _ _ none) (by simp)).drew)).mono ?_; rintro e w6 ⟨x6, rfl, hx60, hx61, hc6, hg6⟩; first | (have hcx6 := hg6.cell hcx (by intro e; injection e with e; have := hc4.lt; simp at e; omega)) | (have hcx6 := hg6.cell (a := ⟨w5.heap.size, x5.toNat, none⟩) (hp w5) (by intro e; injection e with e; have := hc5'.lt; simp at e; omega)) | skip) | (go_at_call 20; refine (drawBelow _ _ a len cap 7 (by omega) (by omega) (by first | exact hc4 | exact hc4.drew | exact (hc4.kept (World.grownBy_alloc _ _ none) (by simp)) | exact (hc4.kept (World.grownBy_alloc _ _ none) (by simp)).drew)).mono ?_; rintro e w5 ⟨x5, rfl, hx50, hx51, hc5, hg5⟩; have hp : ∀ W : World, (W.alloc (.cells #[.int .i64 0, .int .i64 255, .int .i64 4294967295, .int .i64 4294967296, .int .i64 (-1), .int .i64 123456789, .int .i64 2147483646] 2)).cell? ⟨W.heap.size, x5.toNat, none⟩ = some (.int .i64 (pick [0, 255, 4294967295, 4294967296, -1, 123456789, 2147483646] x5)) := fun W => pick_cell [0, 255, 4294967295, 4294967296, -1, 123456789, 2147483646] x5 hx50 hx51 W 2; first | (have hcx := hg5.cell (a := ⟨w4.heap.size, x5.toNat, none⟩) (hp w4) (by intro e; injection e with e; have := hc4.lt; simp at e; omega)) | skip))
  all_goals go_wp2
  all_goals go_ret
  all_goals (refine ⟨_, rfl, ?_⟩)
  all_goals (first | exact below_g (below_g (below_a hb4 _).drew hg5) hg6 | exact below_g (below_a (below_g hb4.drew hg5) _) hg6 | exact below_a (below_g (below_g hb4.drew hg5) hg6) _)

end Go.Proofs.Ytmkafobjfehakaa
