/-
  Parts of one proof, one behind the other: TaskS2, RtU.
-/
import Derived.Test.YtaidhjjpdkkmcaaGreatDoorP29
import Derived.Test.YtaidhjjpdkkmcaaGreatDoorP28
import Derived.Test.YtaidhjjpdkkmcaaGreatDoorP2
import Derived.Deep.RegionHeld3
import Derived.Deep.Cut
import Derived.BigQuiet
import Derived.Test.YtaidhjjpdkkmcaaGreatDoorP1

/-! Contracts of chapter 18's specification: l18Time, l18Key, l18Task. -/
namespace Go.Proofs.YtaidhjjpdkkmcaaGreatDoor
open Go.RowKit

/-- The tasks ts lie at a, six cells each, their needs where those say. -/
def TasksIn (w : World) (a : Option Addr) (len : Nat) (ts : List Ta) : Prop :=
 ts.length = len ∧ ∀ j, j < len → ∃ b off, a = some ⟨b, off, none⟩ ∧ b < w.heap.size ∧ w.cell? ⟨b, off + j * 6, none⟩ = some (.string ⟨(ts.getD j ta0).1.toArray⟩) ∧
  (∃ na nc, w.cell? ⟨b, off + j * 6 + 1, none⟩ = some (.slice na (ts.getD j ta0).2.1.length nc) ∧ AsIn w na (ts.getD j ta0).2.1) ∧
  w.cell? ⟨b, off + j * 6 + 2, none⟩ = some (.int .i64 (ts.getD j ta0).2.2.1) ∧ w.cell? ⟨b, off + j * 6 + 3, none⟩ = some (.int .i64 (ts.getD j ta0).2.2.2.1) ∧
  w.cell? ⟨b, off + j * 6 + 4, none⟩ = some (.int .i64 (ts.getD j ta0).2.2.2.2.1) ∧ w.cell? ⟨b, off + j * 6 + 5, none⟩ = some (.int .i64 (ts.getD j ta0).2.2.2.2.2)
theorem TasksIn.below {w w' : World} {a : Option Addr} {len : Nat} {ts : List Ta} (h : TasksIn w a len ts) (hb : Below w.heap.size w w') : TasksIn w' a len ts := by
 refine ⟨h.1, fun j hj => ?_⟩
 obtain ⟨b, off, e, hlt, c0, ⟨na, nc, c1, hn⟩, c2, c3, c4, c5⟩ := h.2 j hj
 exact ⟨b, off, e, Nat.lt_of_lt_of_le hlt hb.size, (hb.cell (p := ⟨b, off + j * 6, none⟩) hlt).trans c0, ⟨na, nc, (hb.cell (p := ⟨b, off + j * 6 + 1, none⟩) hlt).trans c1, hn.below hb⟩,
  (hb.cell (p := ⟨b, off + j * 6 + 2, none⟩) hlt).trans c2, (hb.cell (p := ⟨b, off + j * 6 + 3, none⟩) hlt).trans c3, (hb.cell (p := ⟨b, off + j * 6 + 4, none⟩) hlt).trans c4, (hb.cell (p := ⟨b, off + j * 6 + 5, none⟩) hlt).trans c5⟩
/-- No name, no row of needs is longer than a law lets them be. -/
def ShortTa (ts : List Ta) : Prop := ∀ j, (ts.getD j ta0).1.length ≤ 1048576 ∧ (ts.getD j ta0).2.1.length ≤ 1048576

theorem specTime (t : Int) (w : World) : Calls Tryz.prog 44 #[.int .i64 t] w fun e w' => e = .returned (.bool (inB t 0 1000000)) ∧ w' = w := by
 have HI : Hid (_) := specIn t 0 1000000 w
 generalize inB t 0 1000000 = b at HI ⊢
 go_enter Tryz.func44, Tryz.ntmps44
 go_wp2_with (go_at_call 43; refine Calls.mono HI.out ?_; rintro e w1 ⟨rfl, rfl⟩)
 go_ret
 exact ⟨rfl, rfl⟩
theorem specKey (t : Int) (w : World) : Calls Tryz.prog 39 #[.int .i64 t] w fun e w' => e = .returned (.bool (key18 t)) ∧ w' = w := by
 unfold key18
 have HI : Hid (_) := specIn t 0 2147483646 w
 generalize inB t 0 2147483646 = b at HI ⊢
 go_enter Tryz.func39, Tryz.ntmps39
 go_wp2_with (go_at_call 43; refine Calls.mono HI.out ?_; rintro e w1 ⟨rfl, rfl⟩)
 go_ret
 exact ⟨rfl, rfl⟩

set_option maxHeartbeats 4000000 in
set_option maxRecDepth 100000 in
theorem specTask (nm : List UInt8) (na : Option Addr) (nc : Nat) (ns : List Int) (st wk un ke own : Int) (w : World) (hin : AsIn w na ns) (hlen : ns.length ≤ 1048576) :
 Calls Tryz.prog 46 #[.agg #[.string ⟨nm.toArray⟩, .slice na ns.length nc, .int .i64 st, .int .i64 wk, .int .i64 un, .int .i64 ke], .int .i64 own] w
  fun e w' => e = .returned (.bool (taskB own (nm, ns, st, wk, un, ke))) ∧ Below w.heap.size w w' := by
 obtain ⟨W, hW⟩ : ∃ W, w.alloc (.cells #[.string ⟨nm.toArray⟩, .slice na ns.length nc, .int .i64 st, .int .i64 wk, .int .i64 un, .int .i64 ke] 72) = W := ⟨_, rfl⟩
 have hbW : Below w.heap.size w W := by rw [← hW]; exact (Below.refl _ _).alloc (Nat.le_refl _) _
 have hA : W.heap[w.heap.size]? = some (.cells #[.string ⟨nm.toArray⟩, .slice na ns.length nc, .int .i64 st, .int .i64 wk, .int .i64 un, .int .i64 ke] 72) := by rw [← hW]; exact heap_alloc_new w _
 obtain ⟨D, hD⟩ : ∃ D, w.heap.size = D := ⟨_, rfl⟩
 rw [hD] at hA
 have k1 : W.cell? ⟨D, 1, none⟩ = some (.slice na ns.length nc) := by simp [World.cell?, hA]
 have k2 : W.cell? ⟨D, 2, none⟩ = some (.int .i64 st) := by simp [World.cell?, hA]
 have k3 : W.cell? ⟨D, 3, none⟩ = some (.int .i64 wk) := by simp [World.cell?, hA]
 have k4 : W.cell? ⟨D, 4, none⟩ = some (.int .i64 un) := by simp [World.cell?, hA]
 have k5 : W.cell? ⟨D, 5, none⟩ = some (.int .i64 ke) := by simp [World.cell?, hA]
 have hDl : D < W.heap.size := World.block_lt_of_cell? W ⟨D, 1, none⟩ k1
 have HI : Hid (∀ Z, Below W.heap.size W Z → AsIn Z na ns) := fun Z hz => (hin.below hbW).below hz
 have HB : Hid (∀ Z, Below W.heap.size W Z → Below D w Z) := fun Z hz => hD ▸ hbW.trans (hz.mono hbW.size)
 have HC : Hid (∀ Z, Below W.heap.size W Z → Z.cell? ⟨D, 1, none⟩ = some (.slice na ns.length nc) ∧ Z.cell? ⟨D, 2, none⟩ = some (.int .i64 st) ∧ Z.cell? ⟨D, 3, none⟩ = some (.int .i64 wk) ∧ Z.cell? ⟨D, 4, none⟩ = some (.int .i64 un) ∧ Z.cell? ⟨D, 5, none⟩ = some (.int .i64 ke)) := fun Z hz =>
  ⟨(hz.cell (p := ⟨D, 1, none⟩) hDl).trans k1, (hz.cell (p := ⟨D, 2, none⟩) hDl).trans k2, (hz.cell (p := ⟨D, 3, none⟩) hDl).trans k3, (hz.cell (p := ⟨D, 4, none⟩) hDl).trans k4, (hz.cell (p := ⟨D, 5, none⟩) hDl).trans k5⟩
 have HW : Hid (∀ Z, _) := fun Z => specIn wk 0 3 Z
 have HU : Hid (∀ Z, _) := fun Z => specTime un Z
 have HK : Hid (∀ Z, _) := fun Z => specKey ke Z
 have HB0 : Hid (Below W.heap.size W W) := Below.refl _ _
 clear hin hbW hA k2 k3 k4 k5 hDl
 go_enter Tryz.func46, Tryz.ntmps46
 go_wp2
 go_loopw [5] (fun iv wr => ∃ j : Nat, iv = .int .i64 (j : Int) ∧ j ≤ ns.length ∧ Hid (∀ q, q < j → need18 own ns q) ∧ Hid (Below W.heap.size W wr)) (fun iv _ => ns.length - (intOf iv).toNat)
 case atStart => exact ⟨0, rfl, by omega, fun q hq => by omega, HB0⟩
 case round =>
  obtain ⟨j, rfl, hj, HA, HBr⟩ := hrel
  clear k1
  obtain ⟨k1, k2, k3, k4, k5⟩ := HC.out wr HBr.out
  have HBd : Hid (Below W.heap.size W wr.drew) := HBr.out.trans (by exact ⟨rfl, rfl, rfl, Nat.le_refl _, fun _ _ => rfl⟩)
  have HIr : Hid (_) := HI.out wr HBr.out
  by_cases hlt : (j : Int) < (ns.length : Int)
  ·
   obtain ⟨b, off, rfl, hbl, c0⟩ := HIr.out j (by omega)
   obtain ⟨x, hx⟩ : ∃ x, ns.getD j 0 = x := ⟨_, rfl⟩
   rw [hx] at c0
   have hgo : ¬ need18 own ns j → taskB own (nm, ns, st, wk, un, ke) = false := fun hn => by
    unfold taskB
    rw [needsB_no (by omega) hn]
    rfl
   rcases Nat.eq_zero_or_pos j with hz | hz
   ·
    subst hz
    rw [Nat.add_zero] at c0
    by_cases hok : need18 own ns 0
    ·
     have hn := hok
     unfold need18 at hn
     rw [hx] at hn
     have HR : Hid (∀ q, q < 0 + 1 → need18 own ns q) := fun q hq => by
      obtain rfl : q = 0 := by omega
      exact hok
     obtain ⟨h1, h2, _⟩ := hn
     clear HA hx hgo hok
     go_wp2
     refine wp_region_held_drew (S := fun Z => Z.cell? ⟨D, 1, none⟩ = some (.slice (some ⟨b, off, none⟩) ns.length nc) ∧ Z.cell? ⟨b, off, none⟩ = some (.int .i64 x)) (by kernel_rfl) (by exact ⟨k1, c0⟩) (fun hHeld => ?_)
     refine tkO [(0, 13), (1, 14), (2, 15), (3, 16), (4, 17)] ?_
     repeat (refine tkY ?_ rfl (by rfl) ?_ ?_; rotate_left; (focus (intro wq hSw; obtain ⟨z0, z1⟩ := hSw; first | (go_simp; done) | (go_simp; with_reducible rfl) | (go_simp; rw [if_pos (by omega)]))); simp only [zP])
     refine tkZ ?_
     refine wpAnyH_take (i := 5) (oi := ⟨some 18, _, _, _, _, _⟩) (v := .bool false) rfl (by kernel_rfl) (by kernel_rfl) (by kernel_rfl) (fun _ _ _ h => h) (Or.inl ⟨by rfl, ?hy72⟩) (by assumption) ?rest72
     case hy72 => (intro wq hSw; clear hSw; first | (go_simp; done) | (go_simp; with_reducible rfl) | (go_simp; simp only [Result.ok.injEq, Next.value.injEq, Value.bool.injEq, decide_eq_true_eq, decide_eq_false_iff_not, and_true]; omega))
     simp only [zP]
     refine tkO [(6, 19), (7, 20), (8, 21), (9, 22), (10, 23), (11, 24), (12, 25)] ?_
     repeat (refine tkY ?_ rfl (by rfl) ?_ ?_; rotate_left; (focus (intro wq hSw; obtain ⟨z0, z1⟩ := hSw; first | (go_simp; done) | (go_simp; with_reducible rfl) | (go_simp; rw [if_pos (by omega)]))); simp only [zP])
     refine tkZ ?_
     refine wpAnyH_take (i := 13) (oi := ⟨some 26, _, _, _, _, _⟩) (v := .bool false) rfl (by kernel_rfl) (by kernel_rfl) (by kernel_rfl) (fun _ _ _ h => h) (Or.inl ⟨by rfl, ?hy80⟩) (by assumption) ?rest80
     case hy80 => (intro wq hSw; clear hSw; first | (go_simp; done) | (go_simp; with_reducible rfl) | (go_simp; simp only [Result.ok.injEq, Next.value.injEq, Value.bool.injEq, decide_eq_true_eq, decide_eq_false_iff_not, and_true]; omega))
     simp only [zP]
     refine tkO [(14, 27), (15, 28), (16, 29)] ?_
     repeat (refine tkY ?_ rfl (by rfl) ?_ ?_; rotate_left; (focus (intro wq hSw; obtain ⟨z0, z1⟩ := hSw; first | (go_simp; done) | (go_simp; with_reducible rfl) | (go_simp; rw [if_pos (by omega)]))); simp only [zP])
     refine tkZ ?_
     refine wpAnyH_take (i := 17) (oi := ⟨some 30, _, _, _, _, _⟩) (v := .bool false) rfl (by kernel_rfl) (by kernel_rfl) (by kernel_rfl) (fun _ _ _ h => h) (Or.inl ⟨by rfl, ?hy84⟩) (by assumption) ?rest84
     case hy84 => (intro wq hSw; clear hSw; first | (go_simp; done) | (go_simp; with_reducible rfl) | (go_simp; simp only [Result.ok.injEq, Next.value.injEq, Value.bool.injEq, decide_eq_true_eq, decide_eq_false_iff_not, and_true]; omega))
     simp only [zP]
     refine tkO [(18, 31), (19, 32), (20, 33), (21, 34), (22, 35), (23, 36), (24, 37), (25, 38), (26, 39), (27, 40), (28, 41), (29, 42), (30, 43), (31, 44), (32, 45)] ?_
     repeat ((first | (refine tkY ?_ rfl (by rfl) ?_ ?_; rotate_left; (focus (intro wq hSw; obtain ⟨z0, z1⟩ := hSw; first | (go_simp; done) | (go_simp; with_reducible rfl) | (go_simp; rw [if_pos (by omega)])))) | refine tkN rfl (by rfl) ?_); simp only [zP])
     refine tkZ ?_
     refine wpAnyH_done (by kernel_rfl) ?_ _
     (try dsimp only)
     go_wp2
     go_roundw
     case rel => exact ⟨0 + 1, by go_num, by omega, HR, HBd⟩
     case measure => simp [intOf]; omega
    ·
     have HF : Hid (_) := hgo hok
     unfold need18 at hok
     rw [hx] at hok
     have hno : x < 0 ∨ own ≤ x := by omega
     clear HA hx hgo hok
     rcases Int.lt_or_le x 0 with h1 | h1
     ·
      go_wp2
      refine wp_region_held_drew (S := fun Z => Z.cell? ⟨D, 1, none⟩ = some (.slice (some ⟨b, off, none⟩) ns.length nc) ∧ Z.cell? ⟨b, off, none⟩ = some (.int .i64 x)) (by kernel_rfl) (by exact ⟨k1, c0⟩) (fun hHeld => ?_)
      refine tkO [(0, 13), (1, 14), (2, 15), (3, 16), (4, 17)] ?_
      repeat (refine tkY ?_ rfl (by rfl) ?_ ?_; rotate_left; (focus (intro wq hSw; obtain ⟨z0, z1⟩ := hSw; first | (go_simp; done) | (go_simp; with_reducible rfl) | (go_simp; rw [if_pos (by omega)]))); simp only [zP])
      refine tkZ ?_
      refine wpAnyH_take (i := 5) (oi := ⟨some 18, _, _, _, _, _⟩) (v := .bool true) rfl (by kernel_rfl) (by kernel_rfl) (by kernel_rfl) (fun _ _ _ h => h) (Or.inl ⟨by rfl, ?hy6⟩) (by assumption) ?rest6
      case hy6 => (intro wq hSw; clear hSw; first | (go_simp; done) | (go_simp; with_reducible rfl) | (go_simp; simp only [Result.ok.injEq, Next.value.injEq, Value.bool.injEq, decide_eq_true_eq, decide_eq_false_iff_not, and_true]; omega))
      simp only [zP]
      refine tkO [(6, 19), (7, 20), (8, 21), (9, 22), (10, 23), (11, 24), (12, 25), (13, 26), (14, 27), (15, 28), (16, 29), (17, 30), (18, 31), (19, 32), (20, 33), (21, 34), (22, 35), (23, 36), (24, 37), (25, 38), (26, 39), (27, 40), (28, 41), (29, 42), (30, 43), (31, 44), (32, 45)] ?_
      repeat ((first | (refine tkY ?_ rfl (by rfl) ?_ ?_; rotate_left; (focus (intro wq hSw; obtain ⟨z0, z1⟩ := hSw; first | (go_simp; done) | (go_simp; with_reducible rfl) | (go_simp; rw [if_pos (by omega)])))) | refine tkN rfl (by rfl) ?_); simp only [zP])
      refine tkZ ?_
      refine wpAnyH_done (by kernel_rfl) ?_ _
      (try dsimp only)
      go_wp2
      go_ret
      exact ⟨by rw [HF.out]; rfl, hD ▸ HB.out _ HBd.out⟩
     ·
      have h2 : own ≤ x := by omega
      go_wp2
      refine wp_region_held_drew (S := fun Z => Z.cell? ⟨D, 1, none⟩ = some (.slice (some ⟨b, off, none⟩) ns.length nc) ∧ Z.cell? ⟨b, off, none⟩ = some (.int .i64 x)) (by kernel_rfl) (by exact ⟨k1, c0⟩) (fun hHeld => ?_)
      refine tkO [(0, 13), (1, 14), (2, 15), (3, 16), (4, 17)] ?_
      repeat (refine tkY ?_ rfl (by rfl) ?_ ?_; rotate_left; (focus (intro wq hSw; obtain ⟨z0, z1⟩ := hSw; first | (go_simp; done) | (go_simp; with_reducible rfl) | (go_simp; rw [if_pos (by omega)]))); simp only [zP])
      refine tkZ ?_
      refine wpAnyH_take (i := 5) (oi := ⟨some 18, _, _, _, _, _⟩) (v := .bool false) rfl (by kernel_rfl) (by kernel_rfl) (by kernel_rfl) (fun _ _ _ h => h) (Or.inl ⟨by rfl, ?hy39⟩) (by assumption) ?rest39
      case hy39 => (intro wq hSw; clear hSw; first | (go_simp; done) | (go_simp; with_reducible rfl) | (go_simp; simp only [Result.ok.injEq, Next.value.injEq, Value.bool.injEq, decide_eq_true_eq, decide_eq_false_iff_not, and_true]; omega))
      simp only [zP]
      refine tkO [(6, 19), (7, 20), (8, 21), (9, 22), (10, 23), (11, 24), (12, 25)] ?_
      repeat (refine tkY ?_ rfl (by rfl) ?_ ?_; rotate_left; (focus (intro wq hSw; obtain ⟨z0, z1⟩ := hSw; first | (go_simp; done) | (go_simp; with_reducible rfl) | (go_simp; rw [if_pos (by omega)]))); simp only [zP])
      refine tkZ ?_
      refine wpAnyH_take (i := 13) (oi := ⟨some 26, _, _, _, _, _⟩) (v := .bool true) rfl (by kernel_rfl) (by kernel_rfl) (by kernel_rfl) (fun _ _ _ h => h) (Or.inl ⟨by rfl, ?hy47⟩) (by assumption) ?rest47
      case hy47 => (intro wq hSw; clear hSw; first | (go_simp; done) | (go_simp; with_reducible rfl) | (go_simp; simp only [Result.ok.injEq, Next.value.injEq, Value.bool.injEq, decide_eq_true_eq, decide_eq_false_iff_not, and_true]; omega))
      simp only [zP]
      refine tkO [(14, 27), (15, 28), (16, 29), (17, 30), (18, 31), (19, 32), (20, 33), (21, 34), (22, 35), (23, 36), (24, 37), (25, 38), (26, 39), (27, 40), (28, 41), (29, 42), (30, 43), (31, 44), (32, 45)] ?_
      repeat ((first | (refine tkY ?_ rfl (by rfl) ?_ ?_; rotate_left; (focus (intro wq hSw; obtain ⟨z0, z1⟩ := hSw; first | (go_simp; done) | (go_simp; with_reducible rfl) | (go_simp; rw [if_pos (by omega)])))) | refine tkN rfl (by rfl) ?_); simp only [zP])
      refine tkZ ?_
      refine wpAnyH_done (by kernel_rfl) ?_ _
      (try dsimp only)
      go_wp2
      go_ret
      exact ⟨by rw [HF.out]; rfl, hD ▸ HB.out _ HBd.out⟩
   ·
    obtain ⟨j, rfl⟩ : ∃ i, j = i + 1 := ⟨j - 1, by omega⟩
    obtain ⟨b2, off2, e2, hbl2, c1⟩ := HIr.out j (by omega)
    injection e2 with e2
    injection e2 with e3 e4
    subst e3 e4
    have hwj : IntKind.i64.wrap (j : Int) = (j : Int) := by rw [IntKind.wrap_i64]; omega
    obtain ⟨y, hy⟩ : ∃ y, ns.getD j 0 = y := ⟨_, rfl⟩
    rw [hy] at c1
    by_cases hok : need18 own ns (j + 1)
    ·
     have hn := hok
     unfold need18 at hn
     rw [Nat.add_sub_cancel, hx, hy] at hn
     have HR : Hid (∀ q, q < j + 1 + 1 → need18 own ns q) := fun q hq => by
      rcases Nat.lt_or_ge q (j + 1) with g | g
      ·
       exact HA.out q g
      ·
       obtain rfl : q = j + 1 := by omega
       exact hok
     obtain ⟨h1, h2, h3⟩ := hn
     have h3 := h3 (by omega)
     clear HA hx hy hgo hok
     go_wp2
     refine wp_region_held_drew (S := fun Z => Z.cell? ⟨D, 1, none⟩ = some (.slice (some ⟨b, off, none⟩) ns.length nc) ∧ Z.cell? ⟨b, off + (j + 1), none⟩ = some (.int .i64 x) ∧ Z.cell? ⟨b, off + j, none⟩ = some (.int .i64 y)) (by kernel_rfl) (by exact ⟨k1, c0, c1⟩) (fun hHeld => ?_)
     refine tkO [(0, 13), (1, 14), (2, 15), (3, 16), (4, 17)] ?_
     repeat (refine tkY ?_ rfl (by rfl) ?_ ?_; rotate_left; (focus (intro wq hSw; obtain ⟨z0, z1, z2⟩ := hSw; first | (go_simp; done) | (go_simp; with_reducible rfl) | (go_simp; rw [if_pos (by omega)]))); simp only [zP])
     refine tkZ ?_
     refine wpAnyH_take (i := 5) (oi := ⟨some 18, _, _, _, _, _⟩) (v := .bool false) rfl (by kernel_rfl) (by kernel_rfl) (by kernel_rfl) (fun _ _ _ h => h) (Or.inl ⟨by rfl, ?hy204⟩) (by assumption) ?rest204
     case hy204 => (intro wq hSw; clear hSw; first | (go_simp; done) | (go_simp; with_reducible rfl) | (go_simp; simp only [Result.ok.injEq, Next.value.injEq, Value.bool.injEq, decide_eq_true_eq, decide_eq_false_iff_not, and_true]; omega))
     simp only [zP]
     refine tkO [(6, 19), (7, 20), (8, 21), (9, 22), (10, 23), (11, 24), (12, 25)] ?_
     repeat (refine tkY ?_ rfl (by rfl) ?_ ?_; rotate_left; (focus (intro wq hSw; obtain ⟨z0, z1, z2⟩ := hSw; first | (go_simp; done) | (go_simp; with_reducible rfl) | (go_simp; rw [if_pos (by omega)]))); simp only [zP])
     refine tkZ ?_
     refine wpAnyH_take (i := 13) (oi := ⟨some 26, _, _, _, _, _⟩) (v := .bool false) rfl (by kernel_rfl) (by kernel_rfl) (by kernel_rfl) (fun _ _ _ h => h) (Or.inl ⟨by rfl, ?hy212⟩) (by assumption) ?rest212
     case hy212 => (intro wq hSw; clear hSw; first | (go_simp; done) | (go_simp; with_reducible rfl) | (go_simp; simp only [Result.ok.injEq, Next.value.injEq, Value.bool.injEq, decide_eq_true_eq, decide_eq_false_iff_not, and_true]; omega))
     simp only [zP]
     refine tkO [(14, 27), (15, 28), (16, 29)] ?_
     repeat (refine tkY ?_ rfl (by rfl) ?_ ?_; rotate_left; (focus (intro wq hSw; obtain ⟨z0, z1, z2⟩ := hSw; first | (go_simp; done) | (go_simp; with_reducible rfl) | (go_simp; rw [if_pos (by omega)]))); simp only [zP])
     refine tkZ ?_
     refine wpAnyH_take (i := 17) (oi := ⟨some 30, _, _, _, _, _⟩) (v := .bool true) rfl (by kernel_rfl) (by kernel_rfl) (by kernel_rfl) (fun _ _ _ h => h) (Or.inl ⟨by rfl, ?hy216⟩) (by assumption) ?rest216
     case hy216 => (intro wq hSw; clear hSw; first | (go_simp; done) | (go_simp; with_reducible rfl) | (go_simp; simp only [Result.ok.injEq, Next.value.injEq, Value.bool.injEq, decide_eq_true_eq, decide_eq_false_iff_not, and_true]; omega))
     simp only [zP]
     refine tkO [(18, 31), (19, 32), (20, 33), (21, 34), (22, 35), (23, 36), (24, 37), (25, 38), (26, 39), (27, 40), (28, 41), (29, 42)] ?_
     repeat (refine tkY ?_ rfl (by rfl) ?_ ?_; rotate_left; (focus (intro wq hSw; obtain ⟨z0, z1, z2⟩ := hSw; first | (go_simp; done) | (go_simp; with_reducible rfl) | (go_simp; rw [if_pos (by omega)]))); simp only [zP])
     refine tkZ ?_
     refine wpAnyH_take (i := 30) (oi := ⟨some 43, _, _, _, _, _⟩) (v := .bool false) rfl (by kernel_rfl) (by kernel_rfl) (by kernel_rfl) (fun _ _ _ h => h) (Or.inl ⟨by rfl, ?hy229⟩) (by assumption) ?rest229
     case hy229 => (intro wq hSw; clear hSw; first | (go_simp; done) | (go_simp; with_reducible rfl) | (go_simp; simp only [Result.ok.injEq, Next.value.injEq, Value.bool.injEq, decide_eq_true_eq, decide_eq_false_iff_not, and_true]; omega))
     simp only [zP]
     refine tkO [(31, 44), (32, 45)] ?_
     repeat (refine tkY ?_ rfl (by rfl) ?_ ?_; rotate_left; (focus (intro wq hSw; obtain ⟨z0, z1, z2⟩ := hSw; first | (go_simp; done) | (go_simp; with_reducible rfl) | (go_simp; rw [if_pos (by omega)]))); simp only [zP])
     refine tkZ ?_
     refine wpAnyH_done (by kernel_rfl) ?_ _
     (try dsimp only)
     go_wp2
     go_roundw
     case rel => exact ⟨j + 1 + 1, by go_num, by omega, HR, HBd⟩
     case measure => simp [intOf]; omega
    ·
     have HF : Hid (_) := hgo hok
     unfold need18 at hok
     rw [Nat.add_sub_cancel, hx, hy] at hok
     clear HA hx hy hgo
     rcases Int.lt_or_le x 0 with h1 | h1
     ·
      go_wp2
      refine wp_region_held_drew (S := fun Z => Z.cell? ⟨D, 1, none⟩ = some (.slice (some ⟨b, off, none⟩) ns.length nc) ∧ Z.cell? ⟨b, off + (j + 1), none⟩ = some (.int .i64 x) ∧ Z.cell? ⟨b, off + j, none⟩ = some (.int .i64 y)) (by kernel_rfl) (by exact ⟨k1, c0, c1⟩) (fun hHeld => ?_)
      refine tkO [(0, 13), (1, 14), (2, 15), (3, 16), (4, 17)] ?_
      repeat (refine tkY ?_ rfl (by rfl) ?_ ?_; rotate_left; (focus (intro wq hSw; obtain ⟨z0, z1, z2⟩ := hSw; first | (go_simp; done) | (go_simp; with_reducible rfl) | (go_simp; rw [if_pos (by omega)]))); simp only [zP])
      refine tkZ ?_
      refine wpAnyH_take (i := 5) (oi := ⟨some 18, _, _, _, _, _⟩) (v := .bool true) rfl (by kernel_rfl) (by kernel_rfl) (by kernel_rfl) (fun _ _ _ h => h) (Or.inl ⟨by rfl, ?hy105⟩) (by assumption) ?rest105
      case hy105 => (intro wq hSw; clear hSw; first | (go_simp; done) | (go_simp; with_reducible rfl) | (go_simp; simp only [Result.ok.injEq, Next.value.injEq, Value.bool.injEq, decide_eq_true_eq, decide_eq_false_iff_not, and_true]; omega))
      simp only [zP]
      refine tkO [(6, 19), (7, 20), (8, 21), (9, 22), (10, 23), (11, 24), (12, 25), (13, 26), (14, 27), (15, 28), (16, 29), (17, 30), (18, 31), (19, 32), (20, 33), (21, 34), (22, 35), (23, 36), (24, 37), (25, 38), (26, 39), (27, 40), (28, 41), (29, 42), (30, 43), (31, 44), (32, 45)] ?_
      repeat ((first | (refine tkY ?_ rfl (by rfl) ?_ ?_; rotate_left; (focus (intro wq hSw; obtain ⟨z0, z1, z2⟩ := hSw; first | (go_simp; done) | (go_simp; with_reducible rfl) | (go_simp; rw [if_pos (by omega)])))) | refine tkN rfl (by rfl) ?_); simp only [zP])
      refine tkZ ?_
      refine wpAnyH_done (by kernel_rfl) ?_ _
      (try dsimp only)
      go_wp2
      go_ret
      exact ⟨by rw [HF.out]; rfl, hD ▸ HB.out _ HBd.out⟩
     ·
      rcases Int.lt_or_le x own with h2 | h2
      ·
       have h3 : x ≤ y := by
        rcases Int.lt_or_le y x with g | g
        ·
         exact absurd ⟨h1, h2, fun _ => g⟩ hok
        ·
         exact g
       clear hok
       go_wp2
       refine wp_region_held_drew (S := fun Z => Z.cell? ⟨D, 1, none⟩ = some (.slice (some ⟨b, off, none⟩) ns.length nc) ∧ Z.cell? ⟨b, off + (j + 1), none⟩ = some (.int .i64 x) ∧ Z.cell? ⟨b, off + j, none⟩ = some (.int .i64 y)) (by kernel_rfl) (by exact ⟨k1, c0, c1⟩) (fun hHeld => ?_)
       refine tkO [(0, 13), (1, 14), (2, 15), (3, 16), (4, 17)] ?_
       repeat (refine tkY ?_ rfl (by rfl) ?_ ?_; rotate_left; (focus (intro wq hSw; obtain ⟨z0, z1, z2⟩ := hSw; first | (go_simp; done) | (go_simp; with_reducible rfl) | (go_simp; rw [if_pos (by omega)]))); simp only [zP])
       refine tkZ ?_
       refine wpAnyH_take (i := 5) (oi := ⟨some 18, _, _, _, _, _⟩) (v := .bool false) rfl (by kernel_rfl) (by kernel_rfl) (by kernel_rfl) (fun _ _ _ h => h) (Or.inl ⟨by rfl, ?hy171⟩) (by assumption) ?rest171
       case hy171 => (intro wq hSw; clear hSw; first | (go_simp; done) | (go_simp; with_reducible rfl) | (go_simp; simp only [Result.ok.injEq, Next.value.injEq, Value.bool.injEq, decide_eq_true_eq, decide_eq_false_iff_not, and_true]; omega))
       simp only [zP]
       refine tkO [(6, 19), (7, 20), (8, 21), (9, 22), (10, 23), (11, 24), (12, 25)] ?_
       repeat (refine tkY ?_ rfl (by rfl) ?_ ?_; rotate_left; (focus (intro wq hSw; obtain ⟨z0, z1, z2⟩ := hSw; first | (go_simp; done) | (go_simp; with_reducible rfl) | (go_simp; rw [if_pos (by omega)]))); simp only [zP])
       refine tkZ ?_
       refine wpAnyH_take (i := 13) (oi := ⟨some 26, _, _, _, _, _⟩) (v := .bool false) rfl (by kernel_rfl) (by kernel_rfl) (by kernel_rfl) (fun _ _ _ h => h) (Or.inl ⟨by rfl, ?hy179⟩) (by assumption) ?rest179
       case hy179 => (intro wq hSw; clear hSw; first | (go_simp; done) | (go_simp; with_reducible rfl) | (go_simp; simp only [Result.ok.injEq, Next.value.injEq, Value.bool.injEq, decide_eq_true_eq, decide_eq_false_iff_not, and_true]; omega))
       simp only [zP]
       refine tkO [(14, 27), (15, 28), (16, 29)] ?_
       repeat (refine tkY ?_ rfl (by rfl) ?_ ?_; rotate_left; (focus (intro wq hSw; obtain ⟨z0, z1, z2⟩ := hSw; first | (go_simp; done) | (go_simp; with_reducible rfl) | (go_simp; rw [if_pos (by omega)]))); simp only [zP])
       refine tkZ ?_
       refine wpAnyH_take (i := 17) (oi := ⟨some 30, _, _, _, _, _⟩) (v := .bool true) rfl (by kernel_rfl) (by kernel_rfl) (by kernel_rfl) (fun _ _ _ h => h) (Or.inl ⟨by rfl, ?hy183⟩) (by assumption) ?rest183
       case hy183 => (intro wq hSw; clear hSw; first | (go_simp; done) | (go_simp; with_reducible rfl) | (go_simp; simp only [Result.ok.injEq, Next.value.injEq, Value.bool.injEq, decide_eq_true_eq, decide_eq_false_iff_not, and_true]; omega))
       simp only [zP]
       refine tkO [(18, 31), (19, 32), (20, 33), (21, 34), (22, 35), (23, 36), (24, 37), (25, 38), (26, 39), (27, 40), (28, 41), (29, 42)] ?_
       repeat (refine tkY ?_ rfl (by rfl) ?_ ?_; rotate_left; (focus (intro wq hSw; obtain ⟨z0, z1, z2⟩ := hSw; first | (go_simp; done) | (go_simp; with_reducible rfl) | (go_simp; rw [if_pos (by omega)]))); simp only [zP])
       refine tkZ ?_
       refine wpAnyH_take (i := 30) (oi := ⟨some 43, _, _, _, _, _⟩) (v := .bool true) rfl (by kernel_rfl) (by kernel_rfl) (by kernel_rfl) (fun _ _ _ h => h) (Or.inl ⟨by rfl, ?hy196⟩) (by assumption) ?rest196
       case hy196 => (intro wq hSw; clear hSw; first | (go_simp; done) | (go_simp; with_reducible rfl) | (go_simp; simp only [Result.ok.injEq, Next.value.injEq, Value.bool.injEq, decide_eq_true_eq, decide_eq_false_iff_not, and_true]; omega))
       simp only [zP]
       refine tkO [(31, 44), (32, 45)] ?_
       repeat (refine tkY ?_ rfl (by rfl) ?_ ?_; rotate_left; (focus (intro wq hSw; obtain ⟨z0, z1, z2⟩ := hSw; first | (go_simp; done) | (go_simp; with_reducible rfl) | (go_simp; rw [if_pos (by omega)]))); simp only [zP])
       refine tkZ ?_
       refine wpAnyH_done (by kernel_rfl) ?_ _
       (try dsimp only)
       go_wp2
       go_ret
       exact ⟨by rw [HF.out]; rfl, hD ▸ HB.out _ HBd.out⟩
      ·
       clear hok
       go_wp2
       refine wp_region_held_drew (S := fun Z => Z.cell? ⟨D, 1, none⟩ = some (.slice (some ⟨b, off, none⟩) ns.length nc) ∧ Z.cell? ⟨b, off + (j + 1), none⟩ = some (.int .i64 x) ∧ Z.cell? ⟨b, off + j, none⟩ = some (.int .i64 y)) (by kernel_rfl) (by exact ⟨k1, c0, c1⟩) (fun hHeld => ?_)
       refine tkO [(0, 13), (1, 14), (2, 15), (3, 16), (4, 17)] ?_
       repeat (refine tkY ?_ rfl (by rfl) ?_ ?_; rotate_left; (focus (intro wq hSw; obtain ⟨z0, z1, z2⟩ := hSw; first | (go_simp; done) | (go_simp; with_reducible rfl) | (go_simp; rw [if_pos (by omega)]))); simp only [zP])
       refine tkZ ?_
       refine wpAnyH_take (i := 5) (oi := ⟨some 18, _, _, _, _, _⟩) (v := .bool false) rfl (by kernel_rfl) (by kernel_rfl) (by kernel_rfl) (fun _ _ _ h => h) (Or.inl ⟨by rfl, ?hy138⟩) (by assumption) ?rest138
       case hy138 => (intro wq hSw; clear hSw; first | (go_simp; done) | (go_simp; with_reducible rfl) | (go_simp; simp only [Result.ok.injEq, Next.value.injEq, Value.bool.injEq, decide_eq_true_eq, decide_eq_false_iff_not, and_true]; omega))
       simp only [zP]
       refine tkO [(6, 19), (7, 20), (8, 21), (9, 22), (10, 23), (11, 24), (12, 25)] ?_
       repeat (refine tkY ?_ rfl (by rfl) ?_ ?_; rotate_left; (focus (intro wq hSw; obtain ⟨z0, z1, z2⟩ := hSw; first | (go_simp; done) | (go_simp; with_reducible rfl) | (go_simp; rw [if_pos (by omega)]))); simp only [zP])
       refine tkZ ?_
       refine wpAnyH_take (i := 13) (oi := ⟨some 26, _, _, _, _, _⟩) (v := .bool true) rfl (by kernel_rfl) (by kernel_rfl) (by kernel_rfl) (fun _ _ _ h => h) (Or.inl ⟨by rfl, ?hy146⟩) (by assumption) ?rest146
       case hy146 => (intro wq hSw; clear hSw; first | (go_simp; done) | (go_simp; with_reducible rfl) | (go_simp; simp only [Result.ok.injEq, Next.value.injEq, Value.bool.injEq, decide_eq_true_eq, decide_eq_false_iff_not, and_true]; omega))
       simp only [zP]
       refine tkO [(14, 27), (15, 28), (16, 29), (17, 30), (18, 31), (19, 32), (20, 33), (21, 34), (22, 35), (23, 36), (24, 37), (25, 38), (26, 39), (27, 40), (28, 41), (29, 42), (30, 43), (31, 44), (32, 45)] ?_
       repeat ((first | (refine tkY ?_ rfl (by rfl) ?_ ?_; rotate_left; (focus (intro wq hSw; obtain ⟨z0, z1, z2⟩ := hSw; first | (go_simp; done) | (go_simp; with_reducible rfl) | (go_simp; rw [if_pos (by omega)])))) | refine tkN rfl (by rfl) ?_); simp only [zP])
       refine tkZ ?_
       refine wpAnyH_done (by kernel_rfl) ?_ _
       (try dsimp only)
       go_wp2
       go_ret
       exact ⟨by rw [HF.out]; rfl, hD ▸ HB.out _ HBd.out⟩
  ·
   have HR : Hid (needsB own ns = true) := needsB_yes (fun q hq => HA.out q (by omega))
   have HT : Hid (taskB own (nm, ns, st, wk, un, ke) = stateB (nm, ns, st, wk, un, ke)) := by
    show (needsB own ns && stateB (nm, ns, st, wk, un, ke)) = _
    rw [HR.out]
    rfl
   have hT := HT.out
   clear HA HR HT HI HIr HC
   unfold stateB at hT
   simp only at hT
   by_cases h0 : st = 0
   ·
    rw [if_pos h0] at hT
    subst h0
    by_cases h3 : wk = 0
    ·
     by_cases h4 : un = 0
     ·
      by_cases h5 : ke = 0
      ·
       have HF : Hid (taskB own (nm, ns, 0, wk, un, ke) = true) := by rw [hT]; exact decide_eq_true ⟨h3, h4, h5⟩
       clear hT
       subst h3 h4 h5
       go_wp2
       go_ret
       exact ⟨by rw [HF.out]; rfl, hD ▸ HB.out _ HBr.out⟩
      ·
       have HF : Hid (taskB own (nm, ns, 0, wk, un, ke) = false) := by rw [hT]; exact decide_eq_false (fun e => h5 e.2.2)
       clear hT
       subst h3 h4
       go_wp2
       go_ret
       exact ⟨(congrArg (fun b => Ending.returned (Value.bool b)) (decide_eq_false h5)).trans (by rw [HF.out]), hD ▸ HB.out _ HBr.out⟩
     ·
      have HF : Hid (taskB own (nm, ns, 0, wk, un, ke) = false) := by rw [hT]; exact decide_eq_false (fun e => h4 e.2.1)
      clear hT
      subst h3
      go_wp2
      go_ret
      exact ⟨by rw [HF.out]; rfl, hD ▸ HB.out _ HBr.out⟩
    ·
     have HF : Hid (taskB own (nm, ns, 0, wk, un, ke) = false) := by rw [hT]; exact decide_eq_false (fun e => h3 e.1)
     clear hT
     go_wp2
     go_ret
     exact ⟨by rw [HF.out]; rfl, hD ▸ HB.out _ HBr.out⟩
   ·
    rw [if_neg h0] at hT
    by_cases h1 : st = 1
    ·
     rw [if_pos h1] at hT
     subst h1
     have HWr : Hid (_) := HW.out wr
     have HUr : Hid (_) := HU.out wr
     generalize inB wk 0 3 = b3 at hT HWr
     generalize inB un 0 1000000 = b4 at hT HUr
     clear HW HU HK
     rcases b3 with _ | _
     ·
      have HF : Hid (taskB own (nm, ns, 1, wk, un, ke) = false) := hT
      go_wp2_with (go_at_call 43; refine Calls.mono HWr.out ?_; rintro e w1 ⟨rfl, rfl⟩)
      go_ret
      exact ⟨by rw [HF.out]; rfl, hD ▸ HB.out _ HBr.out⟩
     ·
      rcases b4 with _ | _
      ·
       have HF : Hid (taskB own (nm, ns, 1, wk, un, ke) = false) := hT
       go_wp2_with (first | (go_at_call 43; refine Calls.mono HWr.out ?_; rintro e w1 ⟨rfl, rfl⟩) | (go_at_call 44; refine Calls.mono HUr.out ?_; rintro e w1 ⟨rfl, rfl⟩))
       go_ret
       exact ⟨by rw [HF.out]; rfl, hD ▸ HB.out _ HBr.out⟩
      ·
       by_cases h5 : ke = 0
       ·
        have HF : Hid (taskB own (nm, ns, 1, wk, un, ke) = true) := by rw [hT, decide_eq_true h5]; rfl
        clear hT
        subst h5
        go_wp2_with (first | (go_at_call 43; refine Calls.mono HWr.out ?_; rintro e w1 ⟨rfl, rfl⟩) | (go_at_call 44; refine Calls.mono HUr.out ?_; rintro e w1 ⟨rfl, rfl⟩))
        go_ret
        exact ⟨by rw [HF.out]; rfl, hD ▸ HB.out _ HBr.out⟩
       ·
        have HF : Hid (taskB own (nm, ns, 1, wk, un, ke) = false) := by rw [hT, decide_eq_false h5]; rfl
        clear hT
        go_wp2_with (first | (go_at_call 43; refine Calls.mono HWr.out ?_; rintro e w1 ⟨rfl, rfl⟩) | (go_at_call 44; refine Calls.mono HUr.out ?_; rintro e w1 ⟨rfl, rfl⟩))
        go_ret
        exact ⟨(congrArg (fun b => Ending.returned (Value.bool b)) (decide_eq_false h5)).trans (by rw [HF.out]), hD ▸ HB.out _ HBr.out⟩
    ·
     rw [if_neg h1] at hT
     by_cases h2 : st = 2
     ·
      rw [if_pos h2] at hT
      subst h2
      have HKr : Hid (_) := HK.out wr
      generalize key18 ke = b5 at hT HKr
      clear HW HU HK
      by_cases h3 : wk = 0
      ·
       by_cases h4 : un = 0
       ·
        have HF : Hid (taskB own (nm, ns, 2, wk, un, ke) = b5) := by rw [hT, decide_eq_true ⟨h3, h4⟩]; rfl
        clear hT
        subst h3 h4
        go_wp2_with (go_at_call 39; refine Calls.mono HKr.out ?_; rintro e w1 ⟨rfl, rfl⟩)
        go_ret
        exact ⟨by rw [HF.out]; rfl, hD ▸ HB.out _ HBr.out⟩
       ·
        have HF : Hid (taskB own (nm, ns, 2, wk, un, ke) = false) := by rw [hT, decide_eq_false (fun e => h4 e.2)]; rfl
        clear hT
        subst h3
        go_wp2
        go_ret
        exact ⟨by rw [HF.out]; rfl, hD ▸ HB.out _ HBr.out⟩
      ·
       have HF : Hid (taskB own (nm, ns, 2, wk, un, ke) = false) := by rw [hT, decide_eq_false (fun e => h3 e.1)]; rfl
       clear hT
       go_wp2
       go_ret
       exact ⟨by rw [HF.out]; rfl, hD ▸ HB.out _ HBr.out⟩
     ·
      rw [if_neg h2] at hT
      have HF : Hid (taskB own (nm, ns, st, wk, un, ke) = false) := hT
      clear hT
      go_wp2
      go_ret
      exact ⟨by rw [HF.out]; rfl, hD ▸ HB.out _ HBr.out⟩

end Go.Proofs.YtaidhjjpdkkmcaaGreatDoor

/-! What the writing of several blocks leaves; rows that lie apart; blocks of three cells. -/
namespace Go.Proofs.YtaidhjjpdkkmcaaGreatDoor
open Go.RowKit

/-- Of what was there nothing but the blocks of S was written. -/
structure WroteR (w w' : World) (S : Nat → Prop) : Prop where
 os : w'.os = w.os
 tape : w'.tape = w.tape
 output : w'.output = w.output
 size : w.heap.size ≤ w'.heap.size
 block : ∀ k, k < w.heap.size → ¬ S k → w'.heap[k]? = w.heap[k]?

theorem WroteR.refl (w : World) (S : Nat → Prop) : WroteR w w S := ⟨rfl, rfl, rfl, Nat.le_refl _, fun _ _ _ => rfl⟩
theorem WroteR.trans {a b c : World} {S : Nat → Prop} (h : WroteR a b S) (k : WroteR b c S) : WroteR a c S :=
 ⟨k.os.trans h.os, k.tape.trans h.tape, k.output.trans h.output, Nat.le_trans h.size k.size, fun i hi hs => (k.block i (Nat.lt_of_lt_of_le hi h.size) hs).trans (h.block i hi hs)⟩
theorem WroteR.mono {w w' : World} {S T : Nat → Prop} (h : WroteR w w' S) (hs : ∀ k, S k → T k) : WroteR w w' T := ⟨h.os, h.tape, h.output, h.size, fun k hk hn => h.block k hk (fun e => hn (hs k e))⟩
theorem WroteR.of_grown {w w' : World} {row : Option Nat} {S : Nat → Prop} (h : w.grownBy w' row) (hs : ∀ k, row = some k → S k) : WroteR w w' S :=
 ⟨h.os, h.tape, h.output, h.size, fun k hk hn => h.block k hk (fun e => hn (hs k e.symm))⟩
theorem WroteR.of_below {w w' : World} {S : Nat → Prop} (h : Below w.heap.size w w') : WroteR w w' S := ⟨h.os, h.tape, h.output, h.size, fun k hk _ => h.block k hk⟩
theorem WroteR.below {w w' : World} {S : Nat → Prop} {B : Nat} (h : WroteR w w' S) (hB : B ≤ w.heap.size) (hs : ∀ k, S k → B ≤ k) : Below B w w' :=
 ⟨h.os, h.tape, h.output, h.size, fun k hk => h.block k (Nat.lt_of_lt_of_le hk hB) (fun e => by have := hs k e; omega)⟩
theorem own_wroteR {w w' : World} {base e size n : Nat} {v : Value} {xs : List Value} {S : Nat → Prop} (h : w.ownsRow base e size v n xs) (hw : WroteR w w' S) (hv : ∀ k, v.ownBlock = some k → ¬ S k) : w'.ownsRow base e size v n xs := by
 refine ⟨h.1, ?_⟩
 rcases h.2 with hn | ⟨g, cap, cur, rfl, hb, hgg, rest⟩
 ·
  exact .inl hn
 ·
  refine .inr ⟨g, cap, cur, rfl, hb, ?_, rest⟩
  rw [hw.block g (Array.getElem?_eq_some_iff.1 hgg).1 (hv g rfl)]
  exact hgg

/-- The trees lie apart, one by one. -/
def ApartR (vs : List Value) : Prop := vs.Pairwise (fun a b => a.ownBlock = none ∨ a.ownBlock ≠ b.ownBlock)
theorem ApartR.ne {vs : List Value} (h : ApartR vs) {i j : Nat} (hi : i < vs.length) (hj : j < vs.length) (hij : i ≠ j) : vs[i].ownBlock = none ∨ vs[i].ownBlock ≠ vs[j].ownBlock := by
 rcases Nat.lt_or_gt_of_ne hij with hl | hl
 ·
  exact List.pairwise_iff_getElem.1 h i j hi hj hl
 ·
  rcases List.pairwise_iff_getElem.1 h j i hj hi hl with e | e
  ·
   rw [e]; cases vs[i].ownBlock <;> simp
  ·
   exact Or.inr (fun e2 => e e2.symm)

theorem ApartR.nil : ApartR [] := List.Pairwise.nil
theorem ApartR.snoc {vs : List Value} {u : Value} (h : ApartR vs) (hu : ∀ v ∈ vs, v.ownBlock = none ∨ v.ownBlock ≠ u.ownBlock) : ApartR (vs ++ [u]) :=
 List.pairwise_append.2 ⟨h, List.pairwise_singleton _ _, fun a ha b hb => by rw [List.mem_singleton] at hb; subst hb; exact hu a ha⟩
/-- A row that is owned above a block does not lie in it. -/
theorem own_offR {w : World} {base e size n R : Nat} {v : Value} {xs : List Value} (h : w.ownsRow base e size v n xs) (hR : R < base) : v.ownBlock = none ∨ v.ownBlock ≠ some R := by
 rcases hv : v.ownBlock with _ | k
 ·
  exact Or.inl rfl
 ·
  refine Or.inr (fun e => ?_)
  have := (h.lt k hv).1
  injection e with e
  omega

/-- Rows of elements of two types lie in two blocks. -/
theorem own_typesR {w : World} {b1 b2 e1 e2 s1 s2 n1 n2 : Nat} {v1 v2 : Value} {xs ys : List Value} (h1 : w.ownsRow b1 e1 s1 v1 n1 xs) (h2 : w.ownsRow b2 e2 s2 v2 n2 ys) (he : e1 ≠ e2) : v1.ownBlock = none ∨ v1.ownBlock ≠ v2.ownBlock := by
 rcases h1.2 with ⟨rfl, _⟩ | ⟨g, c, cur, rfl, _, hg, _⟩
 ·
  exact Or.inl rfl
 ·
  rcases h2.2 with ⟨rfl, _⟩ | ⟨g2, c2, cur2, rfl, _, hg2, _⟩
  ·
   exact Or.inr (by simp [Value.ownBlock])
  ·
   refine Or.inr (fun e => ?_)
   simp only [Value.ownBlock, Option.some.injEq] at e
   subst e
   rw [hg] at hg2
   simp only [Option.some.injEq, Obj.cells.injEq] at hg2
   exact he hg2.2.1

theorem add_plainR (b off i : Nat) : (⟨b, off, none⟩ : Addr).add i = ⟨b, off + i, none⟩ := by unfold Addr.add; split <;> simp_all

end Go.Proofs.YtaidhjjpdkkmcaaGreatDoor
