/-
  The contracts of DrawChunks and DrawJoined.
-/
import Derived.Test.YtfjpbbacibfnmaaDrawT
import Derived.Test.YtfjpbbacibfnmaaDraw3
import Derived.Deep.RegionWith
namespace Go.Proofs.Ytfjpbbacibfnmaa
open Go.RowKit

set_option maxHeartbeats 2000000 in
theorem drawChunks (w : World) (a : Option Addr) (len cap : Nat) (hl : len ≤ 4096) (hc : Code w w.heap.size a len) :
    Calls Try.prog 24 #[.slice a len cap] w fun e w' => ∃ (l : List UInt8) (n : Int), e = .returned (.tuple #[.string ⟨l.toArray⟩, .int .i64 n]) ∧ l.length ≤ 13 ∧ Below w.heap.size w w' := by
  go_enter Try.func24, Try.ntmps24
  go_wp2_with fail
  refine (drawNew _ a len cap hl hc).mono ?_
  rintro e w1 ⟨rfl, hc1, hg1⟩
  have hb1 : Below w.heap.size w w1 := (Below.refl _ _).grown hg1 (Nat.le_refl _) (by simp)
  clear hg1
  go_wp2_with fail
  refine (drawText _ _ a len cap _ 14 (by decide) (by decide) (by omega) (by omega) hc1).mono ?_
  rintro e w2 ⟨l, rfl, hl2, hc2, hg2⟩
  have hb2 := below_g2 hb1 hg2
  clear hc1 hg2 hb1
  go_wp2_with fail
  go_region_with (go_at_call 49; refine (drawBelow _ _ a len cap 7 (by omega) (by omega) (by first | exact hc2 | exact hc2.drew | exact (hc2.kept (World.grownBy_alloc _ _ none) (by simp)) | exact (hc2.kept (World.grownBy_alloc _ _ none) (by simp)).drew)).mono ?_; rintro e w5 ⟨x5, rfl, hx50, hx51, hc5, hg5⟩; have hp : ∀ W : World, (W.alloc (.cells #[.int .i64 (-1), .int .i64 0, .int .i64 1, .int .i64 2, .int .i64 3, .int .i64 5, .int .i64 4611686018427387904] 2)).cell? ⟨W.heap.size, x5.toNat, none⟩ = some (.int .i64 (pick [-1, 0, 1, 2, 3, 5, 4611686018427387904] x5)) := fun W => pick_cell [-1, 0, 1, 2, 3, 5, 4611686018427387904] x5 hx50 hx51 W 2; first | (have hcx := hg5.cell (a := ⟨w2.heap.size, x5.toNat, none⟩) (hp w2) (by intro e; injection e with e; have := hc2.lt; simp at e; omega)) | skip)
  all_goals go_wp2
  all_goals go_ret2
  all_goals (refine ⟨l, _, rfl, by omega, ?_⟩)
  all_goals (first | exact (hb2.drew.grown hg5 hb2.size (by simp)).alloc (Nat.le_trans hb2.size hg5.size) _ | exact (hb2.alloc hb2.size _).drew.grown hg5 (by have := hb2.size; simp; omega) (by simp))

set_option maxHeartbeats 2000000 in
theorem drawJoined (w : World) (a : Option Addr) (len cap : Nat) (hl : len ≤ 4096) (hc : Code w w.heap.size a len) :
    Calls Try.prog 26 #[.slice a len cap] w fun e w' => ∃ (v : Value) (ts : List (List UInt8)), e = .returned v ∧ w'.ownsRow w.heap.size 9 1 v ts.length (strV ts) ∧ ts.length ≤ 5 ∧ ts.flatten.length ≤ 15 ∧ Below w.heap.size w w' := by
  obtain ⟨i0, hi, hz0, hz1, hz2⟩ := info_parts info9
  go_enter Try.func26, Try.ntmps26
  go_wp2_with fail
  refine (drawNew _ a len cap hl hc).mono ?_
  rintro e w1 ⟨rfl, hc1, hg1⟩
  have hb1 : Below w.heap.size w w1 := (Below.refl _ _).grown hg1 (Nat.le_refl _) (by simp)
  have hs1 : w.heap.size < w1.heap.size := hc1.lt
  clear hg1
  go_wp2_with fail
  refine (drawBelow _ _ a len cap 6 (by omega) (by omega) (by exact hc1.kept (World.grownBy_alloc _ _ none) (by simp))).mono ?_
  rintro e w2 ⟨n, rfl, hn0, hn1, hc2, hg2⟩
  have hown2 : w2.ownsRow w1.heap.size 9 1 (.slice (some ⟨w1.heap.size, 0, none⟩) 0 0) ([] : List (List UInt8)).length (strV []) :=
    (World.ownsRow_lit (base := w1.heap.size) (e := 9) (size := 1) w1 #[] 0 (Nat.le_refl _) (by decide) rfl).kept hg2 (Or.inr (by intro e; injection e with e; simp at e; omega))
  have hb2 : Below w.heap.size w w2 := (hb1.alloc hb1.size _).grown hg2 (by simp; omega) (by simp)
  have hs2 : w1.heap.size ≤ w2.heap.size := by have := hg2.size; simp at this; omega
  clear hg2 hb1 hc1
  go_wp2_with fail
  go_loopw [4, 5] (fun v i wr => ∃ ts : List (List UInt8), ∃ k : Nat, ts.length + k ≤ 5 ∧ ts.flatten.length ≤ ts.length * 3 ∧ i = .int .i64 k ∧ wr.ownsRow w1.heap.size 9 1 v ts.length (strV ts) ∧ Cur wr w.heap.size a len cap ∧ w1.heap.size ≤ wr.heap.size ∧ Below w.heap.size w wr) (fun _ i _ => (intOf i).toNat)
  case atStart => exact ⟨[], n.toNat, by simp; omega, by simp, by rw [Int.toNat_of_nonneg hn0], hown2, hc2, hs2, hb2⟩
  case round =>
    obtain ⟨ts, k, hk, hfl, rfl, hown, hcr, hsr, hbr⟩ := hrel
    have HFL : Hid (ts.flatten.length ≤ ts.length * 3) := hfl
    clear hfl hown2 hc2 hb2
    by_cases hlt : 0 < k
    · go_wp2_with fail
      refine (drawText _ _ a len cap _ 4 (by decide) (by decide) (by omega) (by omega) hcr).mono ?_
      rintro e w3 ⟨t, rfl, ht, hc3, hg3⟩
      have hown3 := own_other hown hs1 hg3
      have hb3 := below_g2 hbr hg3
      have hs3 : wr.heap.size ≤ w3.heap.size := hg3.size
      clear hown hcr hg3 hbr
      go_wp2_with (at_builtin; refine wpList_append_own _ rfl _ _ 42 rfl w1.heap.size 9 i0 (.string ⟨#[]⟩) 1 16 Try.underlying42 hi hz0 hz1 hz2 rfl (by decide) _ _ _ rfl (hown3.alloc _) ⟨w3.heap.size, 0, none⟩ 1 1 [.string ⟨t.toArray⟩] rfl rfl ?c1 ?c2 ?c3 ?c4 ?c5 ?_)
      case c1 => exact cell_one_new _ _ _
      case c2 => first | rfl | (intro u hu; simp at hu; subst hu; rfl)
      case c3 => unfold maxLen; omega
      case c4 => omega
      case c5 => simp; omega
      intro v' w4 hown4 hgrow4 _
      have hown5 := own_str hown4
      have hrow : ∀ q, Value.ownBlock _ = some q → w1.heap.size ≤ q ∧ q < w3.heap.size := hown3.lt
      have hc4 : Cur w4 w.heap.size a len cap := (hc3.kept (World.grownBy_alloc _ _ none) (by simp)).kept hgrow4 (fun q e => by have := hrow q e; omega)
      have hb4 : Below w.heap.size w w4 := (hb3.alloc hb3.size _).grown hgrow4 (by have := hb3.size; simp; omega) (fun q e => by have := hrow q e; omega)
      have hs4 : w3.heap.size ≤ w4.heap.size := by have := hgrow4.size; simp at this; omega
      have HF2 : Hid ((ts ++ [t]).flatten.length ≤ (ts ++ [t]).length * 3) := by
        exact (by have := HFL.out; rw [List.flatten_append, List.length_append, List.length_append]; simp at this ⊢; omega : (ts ++ [t]).flatten.length ≤ (ts ++ [t]).length * 3)
      clear hown4 hown3 hgrow4 hrow hc3 hb3
      go_wp2
      go_roundw
      case rel => exact ⟨ts ++ [t], k - 1, by rw [List.length_append, List.length_singleton]; omega, HF2.out, by go_num, hown5, hc4, by omega, hb4⟩
      case measure => simp [intOf]; omega
    · go_wp2
      go_ret
      exact ⟨_, ts, rfl, own_base hown (by omega), by omega, by have := HFL.out; omega, hbr⟩

end Go.Proofs.Ytfjpbbacibfnmaa
