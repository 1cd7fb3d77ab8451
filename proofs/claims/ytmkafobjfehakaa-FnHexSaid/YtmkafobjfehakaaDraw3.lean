/-
  The contracts of DrawHash and DrawTurned.
-/
import Derived.Test.YtmkafobjfehakaaDraw2
import Derived.Deep.RegionWith
namespace Go.Proofs.Ytmkafobjfehakaa
open Go.RowKit

set_option maxHeartbeats 1000000 in
theorem drawHash (w : World) (a : Option Addr) (len cap : Nat) (hl : len ≤ 4096) (hc : Code w w.heap.size a len) :
    Calls Try.prog 8 #[.slice a len cap] w fun e w' => ∃ l : List UInt8, e = .returned (.string ⟨l.toArray⟩) ∧ l.length ≤ 8 ∧ Below w.heap.size w w' := by
  go_enter Try.func8, Try.ntmps8
  go_wp2_with fail
  refine (drawNew _ a len cap hl hc).mono ?_
  rintro e w1 ⟨rfl, hc1, hg1⟩
  go_wp2_with fail
  refine (drawBytes _ _ a len cap hc1).mono ?_
  rintro e w2 ⟨l, rfl, hl2, hc2, hg2⟩
  go_wp2
  go_ret
  exact ⟨l, rfl, hl2, ((Below.refl _ _).grown hg1 (Nat.le_refl _) (by simp)).grown hg2 hg1.size (by simp)⟩

def pick (l : List Int) (x : Int) : Int := l.getD x.toNat 0

theorem pick_cell (l : List Int) (x : Int) (h0 : 0 ≤ x) (h1 : x < l.length) (W : World) (e : TypeId) :
    (W.alloc (.cells (l.map (Value.int .i64)).toArray e)).cell? ⟨W.heap.size, x.toNat, none⟩ = some (.int .i64 (pick l x)) := by
  have hx : x.toNat < l.length := by omega
  rw [World.cell?_alloc_mark]
  simp [pick, hx]

set_option maxHeartbeats 1000000 in
theorem drawTurned (w : World) (a : Option Addr) (len cap : Nat) (hl : len ≤ 4096) (hc : Code w w.heap.size a len) :
    Calls Try.prog 6 #[.slice a len cap] w fun e w' => ∃ l : List UInt8, ∃ p q : Int, e = .returned (.tuple #[.string ⟨l.toArray⟩, .int .i64 p, .int .i64 q]) ∧ l.length ≤ 8 ∧ Below w.heap.size w w' := by
  go_enter Try.func6, Try.ntmps6
  go_wp2_with fail
  refine (drawNew _ a len cap hl hc).mono ?_
  rintro e w1 ⟨rfl, hc1, hg1⟩
  have hb1 : Below w.heap.size w w1 := (Below.refl _ _).grown hg1 (Nat.le_refl _) (by simp)
  clear hg1
  go_wp2_with fail
  refine (drawBytes _ _ a len cap hc1).mono ?_
  rintro e w2 ⟨l, rfl, hl2, hc2, hg2⟩
  have hb2 : Below w.heap.size w w2 := hb1.grown hg2 hb1.size (by simp)
  clear hc1 hg2 hb1
  go_wp2_with fail
  refine (drawBelow _ _ a len cap 9 (by omega) (by omega) hc2).mono ?_
  rintro e w3 ⟨x3, rfl, hx30, hx31, hc3, hg3⟩
  have hb3 : Below w.heap.size w w3 := hb2.grown hg3 hb2.size (by simp)
  clear hc2 hg3 hb2
  go_wp2_with fail
  refine (drawOnce _ _ a len cap 10 (by omega) (by omega) hc3).mono ?_
  rintro e w4 ⟨o, rfl, hc4, hg4⟩
  have hb4 : Below w.heap.size w w4 := hb3.grown hg4 hb3.size (by simp)
  clear hc3 hg4 hb3
  rcases o with _ | _
  · go_wp2_with fail
    go_region_with (go_at_call 20; refine (drawBelow _ _ a len cap 5 (by omega) (by omega) (by first | exact hc4 | exact hc4.drew | exact (hc4.kept (World.grownBy_alloc _ _ none) (by simp)) | exact (hc4.kept (World.grownBy_alloc _ _ none) (by simp)).drew)).mono ?_; rintro e w5 ⟨x5, rfl, hx50, hx51, hc5, hg5⟩; have hp : ∀ W : World, (W.alloc (.cells #[.int .i64 0, .int .i64 7, .int .i64 255, .int .i64 256, .int .i64 (-1)] 2)).cell? ⟨W.heap.size, x5.toNat, none⟩ = some (.int .i64 (pick [0, 7, 255, 256, -1] x5)) := fun W => pick_cell [0, 7, 255, 256, -1] x5 hx50 hx51 W 2; first | (have hcx := hg5.cell (a := ⟨w4.heap.size, x5.toNat, none⟩) (hp w4) (by intro e; injection e with e; have := hc4.lt; simp at e; omega)) | skip)
    all_goals go_wp2
    all_goals go_ret3
    all_goals (refine ⟨l, _, _, rfl, hl2, ?_⟩)
    all_goals (first | exact (hb4.drew.grown hg5 hb4.size (by simp)).alloc (Nat.le_trans hb4.size hg5.size) _ | exact (hb4.alloc hb4.size _).drew.grown hg5 (by have := hb4.size; simp; omega) (by simp))
  · go_wp2_with fail
    go_region_with (go_at_call 20; refine (drawBelow _ _ a len cap 3 (by omega) (by omega) (by first | exact hc4 | exact hc4.drew | exact (hc4.kept (World.grownBy_alloc _ _ none) (by simp)) | exact (hc4.kept (World.grownBy_alloc _ _ none) (by simp)).drew)).mono ?_; rintro e w5 ⟨x5, rfl, hx50, hx51, hc5, hg5⟩; have hp : ∀ W : World, (W.alloc (.cells #[.int .i64 (-1), .int .i64 9, .int .i64 4611686018427387904] 2)).cell? ⟨W.heap.size, x5.toNat, none⟩ = some (.int .i64 (pick [-1, 9, 4611686018427387904] x5)) := fun W => pick_cell [-1, 9, 4611686018427387904] x5 hx50 hx51 W 2; first | (have hcx := hg5.cell (a := ⟨w4.heap.size, x5.toNat, none⟩) (hp w4) (by intro e; injection e with e; have := hc4.lt; simp at e; omega)) | skip)
    all_goals go_wp2
    all_goals go_ret3
    all_goals (refine ⟨l, _, _, rfl, hl2, ?_⟩)
    all_goals (first | exact (hb4.drew.grown hg5 hb4.size (by simp)).alloc (Nat.le_trans hb4.size hg5.size) _ | exact (hb4.alloc hb4.size _).drew.grown hg5 (by have := hb4.size; simp; omega) (by simp))

end Go.Proofs.Ytmkafobjfehakaa
