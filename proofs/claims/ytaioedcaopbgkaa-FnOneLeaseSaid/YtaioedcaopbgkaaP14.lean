/-
  Parts of one proof, one behind the other: TaskS2.
-/
import Derived.Test.YtaioedcaopbgkaaP13
import Derived.Test.YtaioedcaopbgkaaP5
import Derived.Test.YtaioedcaopbgkaaP2
import Derived.Deep.RegionHeld3
import Derived.Deep.Cut
import Derived.BigQuiet

/-! Contracts of chapter 18's specification: l18Time, l18Key, l18Task. -/
namespace Go.Proofs.Ytaioedcaopbgkaa
open Go.RowKit

/-- The tasks ts lie at a, six cells each, their needs where those say. -/
def TasksIn (w : World) (a : Option Addr) (len : Nat) (ts : List Ta) : Prop :=
 ts.length = len ∧ ∀ j, j < len → ∃ b off, a = some ⟨b, off, none⟩ ∧ b < w.heap.size ∧ w.cell? ⟨b, off + j * 6, none⟩ = some (.string ⟨(ts.getD j ta0).1.toArray⟩) ∧
  (∃ na nc, w.cell? ⟨b, off + j * 6 + 1, none⟩ = some (.slice na (ts.getD j ta0).2.1.length nc) ∧ AsIn w na (ts.getD j ta0).2.1) ∧
  w.cell? ⟨b, off + j * 6 + 2, none⟩ = some (.int .i64 (ts.getD j ta0).2.2.1) ∧ w.cell? ⟨b, off + j * 6 + 3, none⟩ = some (.int .i64 (ts.getD j ta0).2.2.2.1) ∧
  w.cell? ⟨b, off + j * 6 + 4, none⟩ = some (.int .i64 (ts.getD j ta0).2.2.2.2.1) ∧ w.cell? ⟨b, off + j * 6 + 5, none⟩ = some (.int .i64 (ts.getD j ta0).2.2.2.2.2)
theorem TasksIn.below {w w' : World} {a : Option Addr} {len : Nat} {ts : List Ta} (h : TasksIn w a len ts) (hb : Below w.heap.size w w') : TasksIn w' a len ts := by
 refine ⟨h.1, fun j hj => ?_⟩
 obtain ⟨b, off, e, hlt, c0, ⟨na, nc, c1, hn⟩, c2, c3, c4, c5⟩ := h.2 j hj
 exact ⟨b, off, e, Nat.lt_of_lt_of_le hlt hb.size, (hb.cell (p := ⟨b, off + j * 6, none⟩) hlt).trans c0, ⟨na, nc, (hb.cell (p := ⟨b, off + j * 6 + 1, none⟩) hlt).trans c1, hn.below hb⟩,
  (hb.cell (p := ⟨b, off + j * 6 + 2, none⟩) hlt).trans c2, (hb.cell (p := ⟨b, off + j * 6 + 3, none⟩) hlt).trans c3, (hb.cell (p := ⟨b, off + j * 6 + 4, none⟩) hlt).trans c4, (hb.cell (p := ⟨b, off + j * 6 + 5, none⟩) hlt).trans c5⟩
/-- No name, no row of needs is longer than a law lets them be. -/
def ShortTa (ts : List Ta) : Prop := ∀ j, (ts.getD j ta0).1.length ≤ 1048576 ∧ (ts.getD j ta0).2.1.length ≤ 1048576

theorem specTime (t : Int) (w : World) : Calls Try.prog 37 #[.int .i64 t] w fun e w' => e = .returned (.bool (inB t 0 1000000)) ∧ w' = w := by
 have HI : Hid (_) := specIn t 0 1000000 w
 generalize inB t 0 1000000 = b at HI ⊢
 go_enter Try.func37, Try.ntmps37
 go_wp2_with (go_at_call 36; refine Calls.mono HI.out ?_; rintro e w1 ⟨rfl, rfl⟩)
 go_ret
 exact ⟨rfl, rfl⟩
theorem specKey (t : Int) (w : World) : Calls Try.prog 56 #[.int .i64 t] w fun e w' => e = .returned (.bool (key18 t)) ∧ w' = w := by
 unfold key18
 have HI : Hid (_) := specIn t 0 2147483646 w
 generalize inB t 0 2147483646 = b at HI ⊢
 go_enter Try.func56, Try.ntmps56
 go_wp2_with (go_at_call 36; refine Calls.mono HI.out ?_; rintro e w1 ⟨rfl, rfl⟩)
 go_ret
 exact ⟨rfl, rfl⟩

set_option maxHeartbeats 4000000 in
set_option maxRecDepth 100000 in
theorem specTask (nm : List UInt8) (na : Option Addr) (nc : Nat) (ns : List Int) (st wk un ke own : Int) (w : World) (hin : AsIn w na ns) (hlen : ns.length ≤ 1048576) :
 Calls Try.prog 39 #[.agg #[.string ⟨nm.toArray⟩, .slice na ns.length nc, .int .i64 st, .int .i64 wk, .int .i64 un, .int .i64 ke], .int .i64 own] w
  fun e w' => e = .returned (.bool (taskB own (nm, ns, st, wk, un, ke))) ∧ Below w.heap.size w w' := by
 obtain ⟨W, hW⟩ : ∃ W, w.alloc (.cells #[.string ⟨nm.toArray⟩, .slice na ns.length nc, .int .i64 st, .int .i64 wk, .int .i64 un, .int .i64 ke] 46) = W := ⟨_, rfl⟩
 have hbW : Below w.heap.size w W := by rw [← hW]; exact (Below.refl _ _).alloc (Nat.le_refl _) _
 have hA : W.heap[w.heap.size]? = some (.cells #[.string ⟨nm.toArray⟩, .slice na ns.length nc, .int .i64 st, .int .i64 wk, .int .i64 un, .int .i64 ke] 46) := by rw [← hW]; exact heap_alloc_new w _
 obtain ⟨D, hD⟩ : ∃ D, w.heap.size = D := ⟨_, rfl⟩
 rw [hD] at hA
 have k1 : W.cell? ⟨D, 1, none⟩ = some (.slice na ns.length nc) := by simp [World.cell?, hA]
 have k2 : W.cell? ⟨D, 2, none⟩ = some (.int .i64 st) := by simp [World.cell?, hA]
 have k3 : W.cell? ⟨D, 3, none⟩ = some (.int .i64 wk) := by simp [World.cell?, hA]
 have k4 : W.cell? ⟨D, 4, none⟩ = some (.int .i64 un) := by simp [World.cell?, hA]
 have k5 : W.cell? ⟨D, 5, none⟩ = some (.int .i64 ke) := by simp [World.cell?, hA]
 have hDl : D < W.heap.size := World.block_lt_of_cell? W ⟨D, 1, none⟩ k1
 have HI : Hid (∀ Z, Below W.heap.size W Z → AsIn Z na ns) := fun Z hz => (hin.below hbW).below hz
 have HB : Hid (∀ Z, Below W.heap.size W Z → Below D w Z) := fun Z hz => hD ▸ hbW.trans (hz.mono hbW.size)
 have HC : Hid (∀ Z, Below W.heap.size W Z → Z.cell? ⟨D, 1, none⟩ = some (.slice na ns.length nc) ∧ Z.cell? ⟨D, 2, none⟩ = some (.int .i64 st) ∧ Z.cell? ⟨D, 3, none⟩ = some (.int .i64 wk) ∧ Z.cell? ⟨D, 4, none⟩ = some (.int .i64 un) ∧ Z.cell? ⟨D, 5, none⟩ = some (.int .i64 ke)) := fun Z hz =>
  ⟨(hz.cell (p := ⟨D, 1, none⟩) hDl).trans k1, (hz.cell (p := ⟨D, 2, none⟩) hDl).trans k2, (hz.cell (p := ⟨D, 3, none⟩) hDl).trans k3, (hz.cell (p := ⟨D, 4, none⟩) hDl).trans k4, (hz.cell (p := ⟨D, 5, none⟩) hDl).trans k5⟩
 have HW : Hid (∀ Z, _) := fun Z => specIn wk 0 3 Z
 have HU : Hid (∀ Z, _) := fun Z => specTime un Z
 have HK : Hid (∀ Z, _) := fun Z => specKey ke Z
 have HB0 : Hid (Below W.heap.size W W) := Below.refl _ _
 clear hin hbW hA k2 k3 k4 k5 hDl
 go_enter Try.func39, Try.ntmps39
 go_wp2
 go_loopw [5] (fun iv wr => ∃ j : Nat, iv = .int .i64 (j : Int) ∧ j ≤ ns.length ∧ Hid (∀ q, q < j → need18 own ns q) ∧ Hid (Below W.heap.size W wr)) (fun iv _ => ns.length - (intOf iv).toNat)
 case atStart => exact ⟨0, rfl, by omega, fun q hq => by omega, HB0⟩
 case round =>
  obtain ⟨j, rfl, hj, HA, HBr⟩ := hrel
  clear k1
  obtain ⟨k1, k2, k3, k4, k5⟩ := HC.out wr HBr.out
  have HBd : Hid (Below W.heap.size W wr.drew) := HBr.out.trans (by exact ⟨rfl, rfl, rfl, Nat.le_refl _, fun _ _ => rfl⟩)
  have HIr : Hid (_) := HI.out wr HBr.out
  by_cases hlt : (j : Int) < (ns.length : Int)
  ·
   obtain ⟨b, off, rfl, hbl, c0⟩ := HIr.out j (by omega)
   obtain ⟨x, hx⟩ : ∃ x, ns.getD j 0 = x := ⟨_, rfl⟩
   rw [hx] at c0
   have hgo : ¬ need18 own ns j → taskB own (nm, ns, st, wk, un, ke) = false := fun hn => by
    unfold taskB
    rw [needsB_no (by omega) hn]
    rfl
   rcases Nat.eq_zero_or_pos j with hz | hz
   ·
    subst hz
    rw [Nat.add_zero] at c0
    by_cases hok : need18 own ns 0
    ·
     have hn := hok
     unfold need18 at hn
     rw [hx] at hn
     have HR : Hid (∀ q, q < 0 + 1 → need18 own ns q) := fun q hq => by
      obtain rfl : q = 0 := by omega
      exact hok
     obtain ⟨h1, h2, _⟩ := hn
     clear HA hx hgo hok
     go_wp2
     refine wp_region_held_drew (S := fun Z => Z.cell? ⟨D, 1, none⟩ = some (.slice (some ⟨b, off, none⟩) ns.length nc) ∧ Z.cell? ⟨b, off, none⟩ = some (.int .i64 x)) (by kernel_rfl) (by exact ⟨k1, c0⟩) (fun hHeld => ?_)
     refine wpAnyH_take (i := 0) (oi := ⟨some 13, _, _, _, _, _⟩) (v := ?v67) rfl (by kernel_rfl) (by kernel_rfl) (by kernel_rfl) (fun _ _ _ h => h) (Or.inl ⟨by rfl, ?hy67⟩) (by assumption) ?rest67
     case hy67 => (intro wq hSw; obtain ⟨z0, z1⟩ := hSw; first | (go_simp; done) | (go_simp; with_reducible rfl) | (go_simp; rw [if_pos (by omega)]))
     simp only [Act.put, List.setIfInBounds_toArray, List.set_cons_zero, List.set_cons_succ]
     refine wpAnyH_take (i := 1) (oi := ⟨some 14, _, _, _, _, _⟩) (v := ?v68) rfl (by kernel_rfl) (by kernel_rfl) (by kernel_rfl) (fun _ _ _ h => h) (Or.inl ⟨by rfl, ?hy68⟩) (by assumption) ?rest68
     case hy68 => (intro wq hSw; obtain ⟨z0, z1⟩ := hSw; first | (go_simp; done) | (go_simp; with_reducible rfl) | (go_simp; rw [if_pos (by omega)]))
     simp only [Act.put, List.setIfInBounds_toArray, List.set_cons_zero, List.set_cons_succ]
     refine wpAnyH_take (i := 2) (oi := ⟨some 15, _, _, _, _, _⟩) (v := ?v69) rfl (by kernel_rfl) (by kernel_rfl) (by kernel_rfl) (fun _ _ _ h => h) (Or.inl ⟨by rfl, ?hy69⟩) (by assumption) ?rest69
     case hy69 => (intro wq hSw; obtain ⟨z0, z1⟩ := hSw; first | (go_simp; done) | (go_simp; with_reducible rfl) | (go_simp; rw [if_pos (by omega)]))
     simp only [Act.put, List.setIfInBounds_toArray, List.set_cons_zero, List.set_cons_succ]
     refine wpAnyH_take (i := 3) (oi := ⟨some 16, _, _, _, _, _⟩) (v := ?v70) rfl (by kernel_rfl) (by kernel_rfl) (by kernel_rfl) (fun _ _ _ h => h) (Or.inl ⟨by rfl, ?hy70⟩) (by assumption) ?rest70
     case hy70 => (intro wq hSw; obtain ⟨z0, z1⟩ := hSw; first | (go_simp; done) | (go_simp; with_reducible rfl) | (go_simp; rw [if_pos (by omega)]))
     simp only [Act.put, List.setIfInBounds_toArray, List.set_cons_zero, List.set_cons_succ]
     refine wpAnyH_take (i := 4) (oi := ⟨some 17, _, _, _, _, _⟩) (v := ?v71) rfl (by kernel_rfl) (by kernel_rfl) (by kernel_rfl) (fun _ _ _ h => h) (Or.inl ⟨by rfl, ?hy71⟩) (by assumption) ?rest71
     case hy71 => (intro wq hSw; obtain ⟨z0, z1⟩ := hSw; first | (go_simp; done) | (go_simp; with_reducible rfl) | (go_simp; rw [if_pos (by omega)]))
     simp only [Act.put, List.setIfInBounds_toArray, List.set_cons_zero, List.set_cons_succ]
     refine wpAnyH_take (i := 5) (oi := ⟨some 18, _, _, _, _, _⟩) (v := .bool false) rfl (by kernel_rfl) (by kernel_rfl) (by kernel_rfl) (fun _ _ _ h => h) (Or.inl ⟨by rfl, ?hy72⟩) (by assumption) ?rest72
     case hy72 => (intro wq hSw; clear hSw; first | (go_simp; done) | (go_simp; with_reducible rfl) | (go_simp; simp only [Result.ok.injEq, Next.value.injEq, Value.bool.injEq, decide_eq_true_eq, decide_eq_false_iff_not, and_true]; omega))
     simp only [Act.put, List.setIfInBounds_toArray, List.set_cons_zero, List.set_cons_succ]
     refine wpAnyH_take (i := 6) (oi := ⟨some 19, _, _, _, _, _⟩) (v := ?v73) rfl (by kernel_rfl) (by kernel_rfl) (by kernel_rfl) (fun _ _ _ h => h) (Or.inl ⟨by rfl, ?hy73⟩) (by assumption) ?rest73
     case hy73 => (intro wq hSw; obtain ⟨z0, z1⟩ := hSw; first | (go_simp; done) | (go_simp; with_reducible rfl) | (go_simp; rw [if_pos (by omega)]))
     simp only [Act.put, List.setIfInBounds_toArray, List.set_cons_zero, List.set_cons_succ]
     refine wpAnyH_take (i := 7) (oi := ⟨some 20, _, _, _, _, _⟩) (v := ?v74) rfl (by kernel_rfl) (by kernel_rfl) (by kernel_rfl) (fun _ _ _ h => h) (Or.inl ⟨by rfl, ?hy74⟩) (by assumption) ?rest74
     case hy74 => (intro wq hSw; obtain ⟨z0, z1⟩ := hSw; first | (go_simp; done) | (go_simp; with_reducible rfl) | (go_simp; rw [if_pos (by omega)]))
     simp only [Act.put, List.setIfInBounds_toArray, List.set_cons_zero, List.set_cons_succ]
     refine wpAnyH_take (i := 8) (oi := ⟨some 21, _, _, _, _, _⟩) (v := ?v75) rfl (by kernel_rfl) (by kernel_rfl) (by kernel_rfl) (fun _ _ _ h => h) (Or.inl ⟨by rfl, ?hy75⟩) (by assumption) ?rest75
     case hy75 => (intro wq hSw; obtain ⟨z0, z1⟩ := hSw; first | (go_simp; done) | (go_simp; with_reducible rfl) | (go_simp; rw [if_pos (by omega)]))
     simp only [Act.put, List.setIfInBounds_toArray, List.set_cons_zero, List.set_cons_succ]
     refine wpAnyH_take (i := 9) (oi := ⟨some 22, _, _, _, _, _⟩) (v := ?v76) rfl (by kernel_rfl) (by kernel_rfl) (by kernel_rfl) (fun _ _ _ h => h) (Or.inl ⟨by rfl, ?hy76⟩) (by assumption) ?rest76
     case hy76 => (intro wq hSw; obtain ⟨z0, z1⟩ := hSw; first | (go_simp; done) | (go_simp; with_reducible rfl) | (go_simp; rw [if_pos (by omega)]))
     simp only [Act.put, List.setIfInBounds_toArray, List.set_cons_zero, List.set_cons_succ]
     refine wpAnyH_take (i := 10) (oi := ⟨some 23, _, _, _, _, _⟩) (v := ?v77) rfl (by kernel_rfl) (by kernel_rfl) (by kernel_rfl) (fun _ _ _ h => h) (Or.inl ⟨by rfl, ?hy77⟩) (by assumption) ?rest77
     case hy77 => (intro wq hSw; obtain ⟨z0, z1⟩ := hSw; first | (go_simp; done) | (go_simp; with_reducible rfl) | (go_simp; rw [if_pos (by omega)]))
     simp only [Act.put, List.setIfInBounds_toArray, List.set_cons_zero, List.set_cons_succ]
     refine wpAnyH_take (i := 11) (oi := ⟨some 24, _, _, _, _, _⟩) (v := ?v78) rfl (by kernel_rfl) (by kernel_rfl) (by kernel_rfl) (fun _ _ _ h => h) (Or.inl ⟨by rfl, ?hy78⟩) (by assumption) ?rest78
     case hy78 => (intro wq hSw; obtain ⟨z0, z1⟩ := hSw; first | (go_simp; done) | (go_simp; with_reducible rfl) | (go_simp; rw [if_pos (by omega)]))
     simp only [Act.put, List.setIfInBounds_toArray, List.set_cons_zero, List.set_cons_succ]
     refine wpAnyH_take (i := 12) (oi := ⟨some 25, _, _, _, _, _⟩) (v := ?v79) rfl (by kernel_rfl) (by kernel_rfl) (by kernel_rfl) (fun _ _ _ h => h) (Or.inl ⟨by rfl, ?hy79⟩) (by assumption) ?rest79
     case hy79 => (intro wq hSw; obtain ⟨z0, z1⟩ := hSw; first | (go_simp; done) | (go_simp; with_reducible rfl) | (go_simp; rw [if_pos (by omega)]))
     simp only [Act.put, List.setIfInBounds_toArray, List.set_cons_zero, List.set_cons_succ]
     refine wpAnyH_take (i := 13) (oi := ⟨some 26, _, _, _, _, _⟩) (v := .bool false) rfl (by kernel_rfl) (by kernel_rfl) (by kernel_rfl) (fun _ _ _ h => h) (Or.inl ⟨by rfl, ?hy80⟩) (by assumption) ?rest80
     case hy80 => (intro wq hSw; clear hSw; first | (go_simp; done) | (go_simp; with_reducible rfl) | (go_simp; simp only [Result.ok.injEq, Next.value.injEq, Value.bool.injEq, decide_eq_true_eq, decide_eq_false_iff_not, and_true]; omega))
     simp only [Act.put, List.setIfInBounds_toArray, List.set_cons_zero, List.set_cons_succ]
     refine wpAnyH_take (i := 14) (oi := ⟨some 27, _, _, _, _, _⟩) (v := ?v81) rfl (by kernel_rfl) (by kernel_rfl) (by kernel_rfl) (fun _ _ _ h => h) (Or.inl ⟨by rfl, ?hy81⟩) (by assumption) ?rest81
     case hy81 => (intro wq hSw; obtain ⟨z0, z1⟩ := hSw; first | (go_simp; done) | (go_simp; with_reducible rfl) | (go_simp; rw [if_pos (by omega)]))
     simp only [Act.put, List.setIfInBounds_toArray, List.set_cons_zero, List.set_cons_succ]
     refine wpAnyH_take (i := 15) (oi := ⟨some 28, _, _, _, _, _⟩) (v := ?v82) rfl (by kernel_rfl) (by kernel_rfl) (by kernel_rfl) (fun _ _ _ h => h) (Or.inl ⟨by rfl, ?hy82⟩) (by assumption) ?rest82
     case hy82 => (intro wq hSw; obtain ⟨z0, z1⟩ := hSw; first | (go_simp; done) | (go_simp; with_reducible rfl) | (go_simp; rw [if_pos (by omega)]))
     simp only [Act.put, List.setIfInBounds_toArray, List.set_cons_zero, List.set_cons_succ]
     refine wpAnyH_take (i := 16) (oi := ⟨some 29, _, _, _, _, _⟩) (v := ?v83) rfl (by kernel_rfl) (by kernel_rfl) (by kernel_rfl) (fun _ _ _ h => h) (Or.inl ⟨by rfl, ?hy83⟩) (by assumption) ?rest83
     case hy83 => (intro wq hSw; obtain ⟨z0, z1⟩ := hSw; first | (go_simp; done) | (go_simp; with_reducible rfl) | (go_simp; rw [if_pos (by omega)]))
     simp only [Act.put, List.setIfInBounds_toArray, List.set_cons_zero, List.set_cons_succ]
     refine wpAnyH_take (i := 17) (oi := ⟨some 30, _, _, _, _, _⟩) (v := .bool false) rfl (by kernel_rfl) (by kernel_rfl) (by kernel_rfl) (fun _ _ _ h => h) (Or.inl ⟨by rfl, ?hy84⟩) (by assumption) ?rest84
     case hy84 => (intro wq hSw; clear hSw; first | (go_simp; done) | (go_simp; with_reducible rfl) | (go_simp; simp only [Result.ok.injEq, Next.value.injEq, Value.bool.injEq, decide_eq_true_eq, decide_eq_false_iff_not, and_true]; omega))
     simp only [Act.put, List.setIfInBounds_toArray, List.set_cons_zero, List.set_cons_succ]
     refine wpAnyH_take (i := 18) (oi := ⟨some 31, _, _, _, _, _⟩) (v := ?v85) rfl (by kernel_rfl) (by kernel_rfl) (by kernel_rfl) (fun _ _ _ h => h) (Or.inl ⟨by rfl, ?hy85⟩) (by assumption) ?rest85
     case hy85 => (intro wq hSw; obtain ⟨z0, z1⟩ := hSw; first | (go_simp; done) | (go_simp; with_reducible rfl) | (go_simp; rw [if_pos (by omega)]))
     simp only [Act.put, List.setIfInBounds_toArray, List.set_cons_zero, List.set_cons_succ]
     refine wpAnyH_take (i := 19) (oi := ⟨some 32, _, _, _, _, _⟩) (v := undef) rfl (by kernel_rfl) (by kernel_rfl) (by kernel_rfl) (fun _ _ _ h => h) (Or.inr ⟨by rfl, rfl⟩) (by assumption) ?_
     simp only [Act.put, List.setIfInBounds_toArray, List.set_cons_zero, List.set_cons_succ]
     refine wpAnyH_take (i := 20) (oi := ⟨some 33, _, _, _, _, _⟩) (v := undef) rfl (by kernel_rfl) (by kernel_rfl) (by kernel_rfl) (fun _ _ _ h => h) (Or.inr ⟨by rfl, rfl⟩) (by assumption) ?_
     simp only [Act.put, List.setIfInBounds_toArray, List.set_cons_zero, List.set_cons_succ]
     refine wpAnyH_take (i := 21) (oi := ⟨some 34, _, _, _, _, _⟩) (v := undef) rfl (by kernel_rfl) (by kernel_rfl) (by kernel_rfl) (fun _ _ _ h => h) (Or.inr ⟨by rfl, rfl⟩) (by assumption) ?_
     simp only [Act.put, List.setIfInBounds_toArray, List.set_cons_zero, List.set_cons_succ]
     refine wpAnyH_take (i := 22) (oi := ⟨some 35, _, _, _, _, _⟩) (v := undef) rfl (by kernel_rfl) (by kernel_rfl) (by kernel_rfl) (fun _ _ _ h => h) (Or.inr ⟨by rfl, rfl⟩) (by assumption) ?_
     simp only [Act.put, List.setIfInBounds_toArray, List.set_cons_zero, List.set_cons_succ]
     refine wpAnyH_take (i := 23) (oi := ⟨some 36, _, _, _, _, _⟩) (v := undef) rfl (by kernel_rfl) (by kernel_rfl) (by kernel_rfl) (fun _ _ _ h => h) (Or.inr ⟨by rfl, rfl⟩) (by assumption) ?_
     simp only [Act.put, List.setIfInBounds_toArray, List.set_cons_zero, List.set_cons_succ]
     refine wpAnyH_take (i := 24) (oi := ⟨some 37, _, _, _, _, _⟩) (v := undef) rfl (by kernel_rfl) (by kernel_rfl) (by kernel_rfl) (fun _ _ _ h => h) (Or.inr ⟨by rfl, rfl⟩) (by assumption) ?_
     simp only [Act.put, List.setIfInBounds_toArray, List.set_cons_zero, List.set_cons_succ]
     refine wpAnyH_take (i := 25) (oi := ⟨some 38, _, _, _, _, _⟩) (v := undef) rfl (by kernel_rfl) (by kernel_rfl) (by kernel_rfl) (fun _ _ _ h => h) (Or.inr ⟨by rfl, rfl⟩) (by assumption) ?_
     simp only [Act.put, List.setIfInBounds_toArray, List.set_cons_zero, List.set_cons_succ]
     refine wpAnyH_take (i := 26) (oi := ⟨some 39, _, _, _, _, _⟩) (v := undef) rfl (by kernel_rfl) (by kernel_rfl) (by kernel_rfl) (fun _ _ _ h => h) (Or.inr ⟨by rfl, rfl⟩) (by assumption) ?_
     simp only [Act.put, List.setIfInBounds_toArray, List.set_cons_zero, List.set_cons_succ]
     refine wpAnyH_take (i := 27) (oi := ⟨some 40, _, _, _, _, _⟩) (v := undef) rfl (by kernel_rfl) (by kernel_rfl) (by kernel_rfl) (fun _ _ _ h => h) (Or.inr ⟨by rfl, rfl⟩) (by assumption) ?_
     simp only [Act.put, List.setIfInBounds_toArray, List.set_cons_zero, List.set_cons_succ]
     refine wpAnyH_take (i := 28) (oi := ⟨some 41, _, _, _, _, _⟩) (v := undef) rfl (by kernel_rfl) (by kernel_rfl) (by kernel_rfl) (fun _ _ _ h => h) (Or.inr ⟨by rfl, rfl⟩) (by assumption) ?_
     simp only [Act.put, List.setIfInBounds_toArray, List.set_cons_zero, List.set_cons_succ]
     refine wpAnyH_take (i := 29) (oi := ⟨some 42, _, _, _, _, _⟩) (v := undef) rfl (by kernel_rfl) (by kernel_rfl) (by kernel_rfl) (fun _ _ _ h => h) (Or.inr ⟨by rfl, rfl⟩) (by assumption) ?_
     simp only [Act.put, List.setIfInBounds_toArray, List.set_cons_zero, List.set_cons_succ]
     refine wpAnyH_take (i := 30) (oi := ⟨some 43, _, _, _, _, _⟩) (v := undef) rfl (by kernel_rfl) (by kernel_rfl) (by kernel_rfl) (fun _ _ _ h => h) (Or.inr ⟨by rfl, rfl⟩) (by assumption) ?_
     simp only [Act.put, List.setIfInBounds_toArray, List.set_cons_zero, List.set_cons_succ]
     refine wpAnyH_take (i := 31) (oi := ⟨some 44, _, _, _, _, _⟩) (v := ?v98) rfl (by kernel_rfl) (by kernel_rfl) (by kernel_rfl) (fun _ _ _ h => h) (Or.inl ⟨by rfl, ?hy98⟩) (by assumption) ?rest98
     case hy98 => (intro wq hSw; obtain ⟨z0, z1⟩ := hSw; first | (go_simp; done) | (go_simp; with_reducible rfl) | (go_simp; rw [if_pos (by omega)]))
     simp only [Act.put, List.setIfInBounds_toArray, List.set_cons_zero, List.set_cons_succ]
     refine wpAnyH_take (i := 32) (oi := ⟨some 45, _, _, _, _, _⟩) (v := ?v99) rfl (by kernel_rfl) (by kernel_rfl) (by kernel_rfl) (fun _ _ _ h => h) (Or.inl ⟨by rfl, ?hy99⟩) (by assumption) ?rest99
     case hy99 => (intro wq hSw; obtain ⟨z0, z1⟩ := hSw; first | (go_simp; done) | (go_simp; with_reducible rfl) | (go_simp; rw [if_pos (by omega)]))
     simp only [Act.put, List.setIfInBounds_toArray, List.set_cons_zero, List.set_cons_succ]
     refine wpAnyH_done (by kernel_rfl) ?_ _
     (try dsimp only)
     go_wp2
     go_roundw
     case rel => exact ⟨0 + 1, by go_num, by omega, HR, HBd⟩
     case measure => simp [intOf]; omega
    ·
     have HF : Hid (_) := hgo hok
     unfold need18 at hok
     rw [hx] at hok
     have hno : x < 0 ∨ own ≤ x := by omega
     clear HA hx hgo hok
     rcases Int.lt_or_le x 0 with h1 | h1
     ·
      go_wp2
      refine wp_region_held_drew (S := fun Z => Z.cell? ⟨D, 1, none⟩ = some (.slice (some ⟨b, off, none⟩) ns.length nc) ∧ Z.cell? ⟨b, off, none⟩ = some (.int .i64 x)) (by kernel_rfl) (by exact ⟨k1, c0⟩) (fun hHeld => ?_)
      refine wpAnyH_take (i := 0) (oi := ⟨some 13, _, _, _, _, _⟩) (v := ?v1) rfl (by kernel_rfl) (by kernel_rfl) (by kernel_rfl) (fun _ _ _ h => h) (Or.inl ⟨by rfl, ?hy1⟩) (by assumption) ?rest1
      case hy1 => (intro wq hSw; obtain ⟨z0, z1⟩ := hSw; first | (go_simp; done) | (go_simp; with_reducible rfl) | (go_simp; rw [if_pos (by omega)]))
      simp only [Act.put, List.setIfInBounds_toArray, List.set_cons_zero, List.set_cons_succ]
      refine wpAnyH_take (i := 1) (oi := ⟨some 14, _, _, _, _, _⟩) (v := ?v2) rfl (by kernel_rfl) (by kernel_rfl) (by kernel_rfl) (fun _ _ _ h => h) (Or.inl ⟨by rfl, ?hy2⟩) (by assumption) ?rest2
      case hy2 => (intro wq hSw; obtain ⟨z0, z1⟩ := hSw; first | (go_simp; done) | (go_simp; with_reducible rfl) | (go_simp; rw [if_pos (by omega)]))
      simp only [Act.put, List.setIfInBounds_toArray, List.set_cons_zero, List.set_cons_succ]
      refine wpAnyH_take (i := 2) (oi := ⟨some 15, _, _, _, _, _⟩) (v := ?v3) rfl (by kernel_rfl) (by kernel_rfl) (by kernel_rfl) (fun _ _ _ h => h) (Or.inl ⟨by rfl, ?hy3⟩) (by assumption) ?rest3
      case hy3 => (intro wq hSw; obtain ⟨z0, z1⟩ := hSw; first | (go_simp; done) | (go_simp; with_reducible rfl) | (go_simp; rw [if_pos (by omega)]))
      simp only [Act.put, List.setIfInBounds_toArray, List.set_cons_zero, List.set_cons_succ]
      refine wpAnyH_take (i := 3) (oi := ⟨some 16, _, _, _, _, _⟩) (v := ?v4) rfl (by kernel_rfl) (by kernel_rfl) (by kernel_rfl) (fun _ _ _ h => h) (Or.inl ⟨by rfl, ?hy4⟩) (by assumption) ?rest4
      case hy4 => (intro wq hSw; obtain ⟨z0, z1⟩ := hSw; first | (go_simp; done) | (go_simp; with_reducible rfl) | (go_simp; rw [if_pos (by omega)]))
      simp only [Act.put, List.setIfInBounds_toArray, List.set_cons_zero, List.set_cons_succ]
      refine wpAnyH_take (i := 4) (oi := ⟨some 17, _, _, _, _, _⟩) (v := ?v5) rfl (by kernel_rfl) (by kernel_rfl) (by kernel_rfl) (fun _ _ _ h => h) (Or.inl ⟨by rfl, ?hy5⟩) (by assumption) ?rest5
      case hy5 => (intro wq hSw; obtain ⟨z0, z1⟩ := hSw; first | (go_simp; done) | (go_simp; with_reducible rfl) | (go_simp; rw [if_pos (by omega)]))
      simp only [Act.put, List.setIfInBounds_toArray, List.set_cons_zero, List.set_cons_succ]
      refine wpAnyH_take (i := 5) (oi := ⟨some 18, _, _, _, _, _⟩) (v := .bool true) rfl (by kernel_rfl) (by kernel_rfl) (by kernel_rfl) (fun _ _ _ h => h) (Or.inl ⟨by rfl, ?hy6⟩) (by assumption) ?rest6
      case hy6 => (intro wq hSw; clear hSw; first | (go_simp; done) | (go_simp; with_reducible rfl) | (go_simp; simp only [Result.ok.injEq, Next.value.injEq, Value.bool.injEq, decide_eq_true_eq, decide_eq_false_iff_not, and_true]; omega))
      simp only [Act.put, List.setIfInBounds_toArray, List.set_cons_zero, List.set_cons_succ]
      refine wpAnyH_take (i := 6) (oi := ⟨some 19, _, _, _, _, _⟩) (v := ?v7) rfl (by kernel_rfl) (by kernel_rfl) (by kernel_rfl) (fun _ _ _ h => h) (Or.inl ⟨by rfl, ?hy7⟩) (by assumption) ?rest7
      case hy7 => (intro wq hSw; obtain ⟨z0, z1⟩ := hSw; first | (go_simp; done) | (go_simp; with_reducible rfl) | (go_simp; rw [if_pos (by omega)]))
      simp only [Act.put, List.setIfInBounds_toArray, List.set_cons_zero, List.set_cons_succ]
      refine wpAnyH_take (i := 7) (oi := ⟨some 20, _, _, _, _, _⟩) (v := undef) rfl (by kernel_rfl) (by kernel_rfl) (by kernel_rfl) (fun _ _ _ h => h) (Or.inr ⟨by rfl, rfl⟩) (by assumption) ?_
      simp only [Act.put, List.setIfInBounds_toArray, List.set_cons_zero, List.set_cons_succ]
      refine wpAnyH_take (i := 8) (oi := ⟨some 21, _, _, _, _, _⟩) (v := undef) rfl (by kernel_rfl) (by kernel_rfl) (by kernel_rfl) (fun _ _ _ h => h) (Or.inr ⟨by rfl, rfl⟩) (by assumption) ?_
      simp only [Act.put, List.setIfInBounds_toArray, List.set_cons_zero, List.set_cons_succ]
      refine wpAnyH_take (i := 9) (oi := ⟨some 22, _, _, _, _, _⟩) (v := undef) rfl (by kernel_rfl) (by kernel_rfl) (by kernel_rfl) (fun _ _ _ h => h) (Or.inr ⟨by rfl, rfl⟩) (by assumption) ?_
      simp only [Act.put, List.setIfInBounds_toArray, List.set_cons_zero, List.set_cons_succ]
      refine wpAnyH_take (i := 10) (oi := ⟨some 23, _, _, _, _, _⟩) (v := undef) rfl (by kernel_rfl) (by kernel_rfl) (by kernel_rfl) (fun _ _ _ h => h) (Or.inr ⟨by rfl, rfl⟩) (by assumption) ?_
      simp only [Act.put, List.setIfInBounds_toArray, List.set_cons_zero, List.set_cons_succ]
      refine wpAnyH_take (i := 11) (oi := ⟨some 24, _, _, _, _, _⟩) (v := undef) rfl (by kernel_rfl) (by kernel_rfl) (by kernel_rfl) (fun _ _ _ h => h) (Or.inr ⟨by rfl, rfl⟩) (by assumption) ?_
      simp only [Act.put, List.setIfInBounds_toArray, List.set_cons_zero, List.set_cons_succ]
      refine wpAnyH_take (i := 12) (oi := ⟨some 25, _, _, _, _, _⟩) (v := undef) rfl (by kernel_rfl) (by kernel_rfl) (by kernel_rfl) (fun _ _ _ h => h) (Or.inr ⟨by rfl, rfl⟩) (by assumption) ?_
      simp only [Act.put, List.setIfInBounds_toArray, List.set_cons_zero, List.set_cons_succ]
      refine wpAnyH_take (i := 13) (oi := ⟨some 26, _, _, _, _, _⟩) (v := undef) rfl (by kernel_rfl) (by kernel_rfl) (by kernel_rfl) (fun _ _ _ h => h) (Or.inr ⟨by rfl, rfl⟩) (by assumption) ?_
      simp only [Act.put, List.setIfInBounds_toArray, List.set_cons_zero, List.set_cons_succ]
      refine wpAnyH_take (i := 14) (oi := ⟨some 27, _, _, _, _, _⟩) (v := ?v15) rfl (by kernel_rfl) (by kernel_rfl) (by kernel_rfl) (fun _ _ _ h => h) (Or.inl ⟨by rfl, ?hy15⟩) (by assumption) ?rest15
      case hy15 => (intro wq hSw; obtain ⟨z0, z1⟩ := hSw; first | (go_simp; done) | (go_simp; with_reducible rfl) | (go_simp; rw [if_pos (by omega)]))
      simp only [Act.put, List.setIfInBounds_toArray, List.set_cons_zero, List.set_cons_succ]
      refine wpAnyH_take (i := 15) (oi := ⟨some 28, _, _, _, _, _⟩) (v := ?v16) rfl (by kernel_rfl) (by kernel_rfl) (by kernel_rfl) (fun _ _ _ h => h) (Or.inl ⟨by rfl, ?hy16⟩) (by assumption) ?rest16
      case hy16 => (intro wq hSw; obtain ⟨z0, z1⟩ := hSw; first | (go_simp; done) | (go_simp; with_reducible rfl) | (go_simp; rw [if_pos (by omega)]))
      simp only [Act.put, List.setIfInBounds_toArray, List.set_cons_zero, List.set_cons_succ]
      refine wpAnyH_take (i := 16) (oi := ⟨some 29, _, _, _, _, _⟩) (v := undef) rfl (by kernel_rfl) (by kernel_rfl) (by kernel_rfl) (fun _ _ _ h => h) (Or.inr ⟨by rfl, rfl⟩) (by assumption) ?_
      simp only [Act.put, List.setIfInBounds_toArray, List.set_cons_zero, List.set_cons_succ]
      refine wpAnyH_take (i := 17) (oi := ⟨some 30, _, _, _, _, _⟩) (v := undef) rfl (by kernel_rfl) (by kernel_rfl) (by kernel_rfl) (fun _ _ _ h => h) (Or.inr ⟨by rfl, rfl⟩) (by assumption) ?_
      simp only [Act.put, List.setIfInBounds_toArray, List.set_cons_zero, List.set_cons_succ]
      refine wpAnyH_take (i := 18) (oi := ⟨some 31, _, _, _, _, _⟩) (v := undef) rfl (by kernel_rfl) (by kernel_rfl) (by kernel_rfl) (fun _ _ _ h => h) (Or.inr ⟨by rfl, rfl⟩) (by assumption) ?_
      simp only [Act.put, List.setIfInBounds_toArray, List.set_cons_zero, List.set_cons_succ]
      refine wpAnyH_take (i := 19) (oi := ⟨some 32, _, _, _, _, _⟩) (v := undef) rfl (by kernel_rfl) (by kernel_rfl) (by kernel_rfl) (fun _ _ _ h => h) (Or.inr ⟨by rfl, rfl⟩) (by assumption) ?_
      simp only [Act.put, List.setIfInBounds_toArray, List.set_cons_zero, List.set_cons_succ]
      refine wpAnyH_take (i := 20) (oi := ⟨some 33, _, _, _, _, _⟩) (v := undef) rfl (by kernel_rfl) (by kernel_rfl) (by kernel_rfl) (fun _ _ _ h => h) (Or.inr ⟨by rfl, rfl⟩) (by assumption) ?_
      simp only [Act.put, List.setIfInBounds_toArray, List.set_cons_zero, List.set_cons_succ]
      refine wpAnyH_take (i := 21) (oi := ⟨some 34, _, _, _, _, _⟩) (v := undef) rfl (by kernel_rfl) (by kernel_rfl) (by kernel_rfl) (fun _ _ _ h => h) (Or.inr ⟨by rfl, rfl⟩) (by assumption) ?_
      simp only [Act.put, List.setIfInBounds_toArray, List.set_cons_zero, List.set_cons_succ]
      refine wpAnyH_take (i := 22) (oi := ⟨some 35, _, _, _, _, _⟩) (v := undef) rfl (by kernel_rfl) (by kernel_rfl) (by kernel_rfl) (fun _ _ _ h => h) (Or.inr ⟨by rfl, rfl⟩) (by assumption) ?_
      simp only [Act.put, List.setIfInBounds_toArray, List.set_cons_zero, List.set_cons_succ]
      refine wpAnyH_take (i := 23) (oi := ⟨some 36, _, _, _, _, _⟩) (v := undef) rfl (by kernel_rfl) (by kernel_rfl) (by kernel_rfl) (fun _ _ _ h => h) (Or.inr ⟨by rfl, rfl⟩) (by assumption) ?_
      simp only [Act.put, List.setIfInBounds_toArray, List.set_cons_zero, List.set_cons_succ]
      refine wpAnyH_take (i := 24) (oi := ⟨some 37, _, _, _, _, _⟩) (v := undef) rfl (by kernel_rfl) (by kernel_rfl) (by kernel_rfl) (fun _ _ _ h => h) (Or.inr ⟨by rfl, rfl⟩) (by assumption) ?_
      simp only [Act.put, List.setIfInBounds_toArray, List.set_cons_zero, List.set_cons_succ]
      refine wpAnyH_take (i := 25) (oi := ⟨some 38, _, _, _, _, _⟩) (v := undef) rfl (by kernel_rfl) (by kernel_rfl) (by kernel_rfl) (fun _ _ _ h => h) (Or.inr ⟨by rfl, rfl⟩) (by assumption) ?_
      simp only [Act.put, List.setIfInBounds_toArray, List.set_cons_zero, List.set_cons_succ]
      refine wpAnyH_take (i := 26) (oi := ⟨some 39, _, _, _, _, _⟩) (v := undef) rfl (by kernel_rfl) (by kernel_rfl) (by kernel_rfl) (fun _ _ _ h => h) (Or.inr ⟨by rfl, rfl⟩) (by assumption) ?_
      simp only [Act.put, List.setIfInBounds_toArray, List.set_cons_zero, List.set_cons_succ]
      refine wpAnyH_take (i := 27) (oi := ⟨some 40, _, _, _, _, _⟩) (v := undef) rfl (by kernel_rfl) (by kernel_rfl) (by kernel_rfl) (fun _ _ _ h => h) (Or.inr ⟨by rfl, rfl⟩) (by assumption) ?_
      simp only [Act.put, List.setIfInBounds_toArray, List.set_cons_zero, List.set_cons_succ]
      refine wpAnyH_take (i := 28) (oi := ⟨some 41, _, _, _, _, _⟩) (v := undef) rfl (by kernel_rfl) (by kernel_rfl) (by kernel_rfl) (fun _ _ _ h => h) (Or.inr ⟨by rfl, rfl⟩) (by assumption) ?_
      simp only [Act.put, List.setIfInBounds_toArray, List.set_cons_zero, List.set_cons_succ]
      refine wpAnyH_take (i := 29) (oi := ⟨some 42, _, _, _, _, _⟩) (v := undef) rfl (by kernel_rfl) (by kernel_rfl) (by kernel_rfl) (fun _ _ _ h => h) (Or.inr ⟨by rfl, rfl⟩) (by assumption) ?_
      simp only [Act.put, List.setIfInBounds_toArray, List.set_cons_zero, List.set_cons_succ]
      refine wpAnyH_take (i := 30) (oi := ⟨some 43, _, _, _, _, _⟩) (v := undef) rfl (by kernel_rfl) (by kernel_rfl) (by kernel_rfl) (fun _ _ _ h => h) (Or.inr ⟨by rfl, rfl⟩) (by assumption) ?_
      simp only [Act.put, List.setIfInBounds_toArray, List.set_cons_zero, List.set_cons_succ]
      refine wpAnyH_take (i := 31) (oi := ⟨some 44, _, _, _, _, _⟩) (v := undef) rfl (by kernel_rfl) (by kernel_rfl) (by kernel_rfl) (fun _ _ _ h => h) (Or.inr ⟨by rfl, rfl⟩) (by assumption) ?_
      simp only [Act.put, List.setIfInBounds_toArray, List.set_cons_zero, List.set_cons_succ]
      refine wpAnyH_take (i := 32) (oi := ⟨some 45, _, _, _, _, _⟩) (v := ?v33) rfl (by kernel_rfl) (by kernel_rfl) (by kernel_rfl) (fun _ _ _ h => h) (Or.inl ⟨by rfl, ?hy33⟩) (by assumption) ?rest33
      case hy33 => (intro wq hSw; obtain ⟨z0, z1⟩ := hSw; first | (go_simp; done) | (go_simp; with_reducible rfl) | (go_simp; rw [if_pos (by omega)]))
      simp only [Act.put, List.setIfInBounds_toArray, List.set_cons_zero, List.set_cons_succ]
      refine wpAnyH_done (by kernel_rfl) ?_ _
      (try dsimp only)
      go_wp2
      go_ret
      exact ⟨by rw [HF.out]; rfl, hD ▸ HB.out _ HBd.out⟩
     ·
      have h2 : own ≤ x := by omega
      go_wp2
      refine wp_region_held_drew (S := fun Z => Z.cell? ⟨D, 1, none⟩ = some (.slice (some ⟨b, off, none⟩) ns.length nc) ∧ Z.cell? ⟨b, off, none⟩ = some (.int .i64 x)) (by kernel_rfl) (by exact ⟨k1, c0⟩) (fun hHeld => ?_)
      refine wpAnyH_take (i := 0) (oi := ⟨some 13, _, _, _, _, _⟩) (v := ?v34) rfl (by kernel_rfl) (by kernel_rfl) (by kernel_rfl) (fun _ _ _ h => h) (Or.inl ⟨by rfl, ?hy34⟩) (by assumption) ?rest34
      case hy34 => (intro wq hSw; obtain ⟨z0, z1⟩ := hSw; first | (go_simp; done) | (go_simp; with_reducible rfl) | (go_simp; rw [if_pos (by omega)]))
      simp only [Act.put, List.setIfInBounds_toArray, List.set_cons_zero, List.set_cons_succ]
      refine wpAnyH_take (i := 1) (oi := ⟨some 14, _, _, _, _, _⟩) (v := ?v35) rfl (by kernel_rfl) (by kernel_rfl) (by kernel_rfl) (fun _ _ _ h => h) (Or.inl ⟨by rfl, ?hy35⟩) (by assumption) ?rest35
      case hy35 => (intro wq hSw; obtain ⟨z0, z1⟩ := hSw; first | (go_simp; done) | (go_simp; with_reducible rfl) | (go_simp; rw [if_pos (by omega)]))
      simp only [Act.put, List.setIfInBounds_toArray, List.set_cons_zero, List.set_cons_succ]
      refine wpAnyH_take (i := 2) (oi := ⟨some 15, _, _, _, _, _⟩) (v := ?v36) rfl (by kernel_rfl) (by kernel_rfl) (by kernel_rfl) (fun _ _ _ h => h) (Or.inl ⟨by rfl, ?hy36⟩) (by assumption) ?rest36
      case hy36 => (intro wq hSw; obtain ⟨z0, z1⟩ := hSw; first | (go_simp; done) | (go_simp; with_reducible rfl) | (go_simp; rw [if_pos (by omega)]))
      simp only [Act.put, List.setIfInBounds_toArray, List.set_cons_zero, List.set_cons_succ]
      refine wpAnyH_take (i := 3) (oi := ⟨some 16, _, _, _, _, _⟩) (v := ?v37) rfl (by kernel_rfl) (by kernel_rfl) (by kernel_rfl) (fun _ _ _ h => h) (Or.inl ⟨by rfl, ?hy37⟩) (by assumption) ?rest37
      case hy37 => (intro wq hSw; obtain ⟨z0, z1⟩ := hSw; first | (go_simp; done) | (go_simp; with_reducible rfl) | (go_simp; rw [if_pos (by omega)]))
      simp only [Act.put, List.setIfInBounds_toArray, List.set_cons_zero, List.set_cons_succ]
      refine wpAnyH_take (i := 4) (oi := ⟨some 17, _, _, _, _, _⟩) (v := ?v38) rfl (by kernel_rfl) (by kernel_rfl) (by kernel_rfl) (fun _ _ _ h => h) (Or.inl ⟨by rfl, ?hy38⟩) (by assumption) ?rest38
      case hy38 => (intro wq hSw; obtain ⟨z0, z1⟩ := hSw; first | (go_simp; done) | (go_simp; with_reducible rfl) | (go_simp; rw [if_pos (by omega)]))
      simp only [Act.put, List.setIfInBounds_toArray, List.set_cons_zero, List.set_cons_succ]
      refine wpAnyH_take (i := 5) (oi := ⟨some 18, _, _, _, _, _⟩) (v := .bool false) rfl (by kernel_rfl) (by kernel_rfl) (by kernel_rfl) (fun _ _ _ h => h) (Or.inl ⟨by rfl, ?hy39⟩) (by assumption) ?rest39
      case hy39 => (intro wq hSw; clear hSw; first | (go_simp; done) | (go_simp; with_reducible rfl) | (go_simp; simp only [Result.ok.injEq, Next.value.injEq, Value.bool.injEq, decide_eq_true_eq, decide_eq_false_iff_not, and_true]; omega))
      simp only [Act.put, List.setIfInBounds_toArray, List.set_cons_zero, List.set_cons_succ]
      refine wpAnyH_take (i := 6) (oi := ⟨some 19, _, _, _, _, _⟩) (v := ?v40) rfl (by kernel_rfl) (by kernel_rfl) (by kernel_rfl) (fun _ _ _ h => h) (Or.inl ⟨by rfl, ?hy40⟩) (by assumption) ?rest40
      case hy40 => (intro wq hSw; obtain ⟨z0, z1⟩ := hSw; first | (go_simp; done) | (go_simp; with_reducible rfl) | (go_simp; rw [if_pos (by omega)]))
      simp only [Act.put, List.setIfInBounds_toArray, List.set_cons_zero, List.set_cons_succ]
      refine wpAnyH_take (i := 7) (oi := ⟨some 20, _, _, _, _, _⟩) (v := ?v41) rfl (by kernel_rfl) (by kernel_rfl) (by kernel_rfl) (fun _ _ _ h => h) (Or.inl ⟨by rfl, ?hy41⟩) (by assumption) ?rest41
      case hy41 => (intro wq hSw; obtain ⟨z0, z1⟩ := hSw; first | (go_simp; done) | (go_simp; with_reducible rfl) | (go_simp; rw [if_pos (by omega)]))
      simp only [Act.put, List.setIfInBounds_toArray, List.set_cons_zero, List.set_cons_succ]
      refine wpAnyH_take (i := 8) (oi := ⟨some 21, _, _, _, _, _⟩) (v := ?v42) rfl (by kernel_rfl) (by kernel_rfl) (by kernel_rfl) (fun _ _ _ h => h) (Or.inl ⟨by rfl, ?hy42⟩) (by assumption) ?rest42
      case hy42 => (intro wq hSw; obtain ⟨z0, z1⟩ := hSw; first | (go_simp; done) | (go_simp; with_reducible rfl) | (go_simp; rw [if_pos (by omega)]))
      simp only [Act.put, List.setIfInBounds_toArray, List.set_cons_zero, List.set_cons_succ]
      refine wpAnyH_take (i := 9) (oi := ⟨some 22, _, _, _, _, _⟩) (v := ?v43) rfl (by kernel_rfl) (by kernel_rfl) (by kernel_rfl) (fun _ _ _ h => h) (Or.inl ⟨by rfl, ?hy43⟩) (by assumption) ?rest43
      case hy43 => (intro wq hSw; obtain ⟨z0, z1⟩ := hSw; first | (go_simp; done) | (go_simp; with_reducible rfl) | (go_simp; rw [if_pos (by omega)]))
      simp only [Act.put, List.setIfInBounds_toArray, List.set_cons_zero, List.set_cons_succ]
      refine wpAnyH_take (i := 10) (oi := ⟨some 23, _, _, _, _, _⟩) (v := ?v44) rfl (by kernel_rfl) (by kernel_rfl) (by kernel_rfl) (fun _ _ _ h => h) (Or.inl ⟨by rfl, ?hy44⟩) (by assumption) ?rest44
      case hy44 => (intro wq hSw; obtain ⟨z0, z1⟩ := hSw; first | (go_simp; done) | (go_simp; with_reducible rfl) | (go_simp; rw [if_pos (by omega)]))
      simp only [Act.put, List.setIfInBounds_toArray, List.set_cons_zero, List.set_cons_succ]
      refine wpAnyH_take (i := 11) (oi := ⟨some 24, _, _, _, _, _⟩) (v := ?v45) rfl (by kernel_rfl) (by kernel_rfl) (by kernel_rfl) (fun _ _ _ h => h) (Or.inl ⟨by rfl, ?hy45⟩) (by assumption) ?rest45
      case hy45 => (intro wq hSw; obtain ⟨z0, z1⟩ := hSw; first | (go_simp; done) | (go_simp; with_reducible rfl) | (go_simp; rw [if_pos (by omega)]))
      simp only [Act.put, List.setIfInBounds_toArray, List.set_cons_zero, List.set_cons_succ]
      refine wpAnyH_take (i := 12) (oi := ⟨some 25, _, _, _, _, _⟩) (v := ?v46) rfl (by kernel_rfl) (by kernel_rfl) (by kernel_rfl) (fun _ _ _ h => h) (Or.inl ⟨by rfl, ?hy46⟩) (by assumption) ?rest46
      case hy46 => (intro wq hSw; obtain ⟨z0, z1⟩ := hSw; first | (go_simp; done) | (go_simp; with_reducible rfl) | (go_simp; rw [if_pos (by omega)]))
      simp only [Act.put, List.setIfInBounds_toArray, List.set_cons_zero, List.set_cons_succ]
      refine wpAnyH_take (i := 13) (oi := ⟨some 26, _, _, _, _, _⟩) (v := .bool true) rfl (by kernel_rfl) (by kernel_rfl) (by kernel_rfl) (fun _ _ _ h => h) (Or.inl ⟨by rfl, ?hy47⟩) (by assumption) ?rest47
      case hy47 => (intro wq hSw; clear hSw; first | (go_simp; done) | (go_simp; with_reducible rfl) | (go_simp; simp only [Result.ok.injEq, Next.value.injEq, Value.bool.injEq, decide_eq_true_eq, decide_eq_false_iff_not, and_true]; omega))
      simp only [Act.put, List.setIfInBounds_toArray, List.set_cons_zero, List.set_cons_succ]
      refine wpAnyH_take (i := 14) (oi := ⟨some 27, _, _, _, _, _⟩) (v := ?v48) rfl (by kernel_rfl) (by kernel_rfl) (by kernel_rfl) (fun _ _ _ h => h) (Or.inl ⟨by rfl, ?hy48⟩) (by assumption) ?rest48
      case hy48 => (intro wq hSw; obtain ⟨z0, z1⟩ := hSw; first | (go_simp; done) | (go_simp; with_reducible rfl) | (go_simp; rw [if_pos (by omega)]))
      simp only [Act.put, List.setIfInBounds_toArray, List.set_cons_zero, List.set_cons_succ]
      refine wpAnyH_take (i := 15) (oi := ⟨some 28, _, _, _, _, _⟩) (v := ?v49) rfl (by kernel_rfl) (by kernel_rfl) (by kernel_rfl) (fun _ _ _ h => h) (Or.inl ⟨by rfl, ?hy49⟩) (by assumption) ?rest49
      case hy49 => (intro wq hSw; obtain ⟨z0, z1⟩ := hSw; first | (go_simp; done) | (go_simp; with_reducible rfl) | (go_simp; rw [if_pos (by omega)]))
      simp only [Act.put, List.setIfInBounds_toArray, List.set_cons_zero, List.set_cons_succ]
      refine wpAnyH_take (i := 16) (oi := ⟨some 29, _, _, _, _, _⟩) (v := undef) rfl (by kernel_rfl) (by kernel_rfl) (by kernel_rfl) (fun _ _ _ h => h) (Or.inr ⟨by rfl, rfl⟩) (by assumption) ?_
      simp only [Act.put, List.setIfInBounds_toArray, List.set_cons_zero, List.set_cons_succ]
      refine wpAnyH_take (i := 17) (oi := ⟨some 30, _, _, _, _, _⟩) (v := undef) rfl (by kernel_rfl) (by kernel_rfl) (by kernel_rfl) (fun _ _ _ h => h) (Or.inr ⟨by rfl, rfl⟩) (by assumption) ?_
      simp only [Act.put, List.setIfInBounds_toArray, List.set_cons_zero, List.set_cons_succ]
      refine wpAnyH_take (i := 18) (oi := ⟨some 31, _, _, _, _, _⟩) (v := undef) rfl (by kernel_rfl) (by kernel_rfl) (by kernel_rfl) (fun _ _ _ h => h) (Or.inr ⟨by rfl, rfl⟩) (by assumption) ?_
      simp only [Act.put, List.setIfInBounds_toArray, List.set_cons_zero, List.set_cons_succ]
      refine wpAnyH_take (i := 19) (oi := ⟨some 32, _, _, _, _, _⟩) (v := undef) rfl (by kernel_rfl) (by kernel_rfl) (by kernel_rfl) (fun _ _ _ h => h) (Or.inr ⟨by rfl, rfl⟩) (by assumption) ?_
      simp only [Act.put, List.setIfInBounds_toArray, List.set_cons_zero, List.set_cons_succ]
      refine wpAnyH_take (i := 20) (oi := ⟨some 33, _, _, _, _, _⟩) (v := undef) rfl (by kernel_rfl) (by kernel_rfl) (by kernel_rfl) (fun _ _ _ h => h) (Or.inr ⟨by rfl, rfl⟩) (by assumption) ?_
      simp only [Act.put, List.setIfInBounds_toArray, List.set_cons_zero, List.set_cons_succ]
      refine wpAnyH_take (i := 21) (oi := ⟨some 34, _, _, _, _, _⟩) (v := undef) rfl (by kernel_rfl) (by kernel_rfl) (by kernel_rfl) (fun _ _ _ h => h) (Or.inr ⟨by rfl, rfl⟩) (by assumption) ?_
      simp only [Act.put, List.setIfInBounds_toArray, List.set_cons_zero, List.set_cons_succ]
      refine wpAnyH_take (i := 22) (oi := ⟨some 35, _, _, _, _, _⟩) (v := undef) rfl (by kernel_rfl) (by kernel_rfl) (by kernel_rfl) (fun _ _ _ h => h) (Or.inr ⟨by rfl, rfl⟩) (by assumption) ?_
      simp only [Act.put, List.setIfInBounds_toArray, List.set_cons_zero, List.set_cons_succ]
      refine wpAnyH_take (i := 23) (oi := ⟨some 36, _, _, _, _, _⟩) (v := undef) rfl (by kernel_rfl) (by kernel_rfl) (by kernel_rfl) (fun _ _ _ h => h) (Or.inr ⟨by rfl, rfl⟩) (by assumption) ?_
      simp only [Act.put, List.setIfInBounds_toArray, List.set_cons_zero, List.set_cons_succ]
      refine wpAnyH_take (i := 24) (oi := ⟨some 37, _, _, _, _, _⟩) (v := undef) rfl (by kernel_rfl) (by kernel_rfl) (by kernel_rfl) (fun _ _ _ h => h) (Or.inr ⟨by rfl, rfl⟩) (by assumption) ?_
      simp only [Act.put, List.setIfInBounds_toArray, List.set_cons_zero, List.set_cons_succ]
      refine wpAnyH_take (i := 25) (oi := ⟨some 38, _, _, _, _, _⟩) (v := undef) rfl (by kernel_rfl) (by kernel_rfl) (by kernel_rfl) (fun _ _ _ h => h) (Or.inr ⟨by rfl, rfl⟩) (by assumption) ?_
      simp only [Act.put, List.setIfInBounds_toArray, List.set_cons_zero, List.set_cons_succ]
      refine wpAnyH_take (i := 26) (oi := ⟨some 39, _, _, _, _, _⟩) (v := undef) rfl (by kernel_rfl) (by kernel_rfl) (by kernel_rfl) (fun _ _ _ h => h) (Or.inr ⟨by rfl, rfl⟩) (by assumption) ?_
      simp only [Act.put, List.setIfInBounds_toArray, List.set_cons_zero, List.set_cons_succ]
      refine wpAnyH_take (i := 27) (oi := ⟨some 40, _, _, _, _, _⟩) (v := undef) rfl (by kernel_rfl) (by kernel_rfl) (by kernel_rfl) (fun _ _ _ h => h) (Or.inr ⟨by rfl, rfl⟩) (by assumption) ?_
      simp only [Act.put, List.setIfInBounds_toArray, List.set_cons_zero, List.set_cons_succ]
      refine wpAnyH_take (i := 28) (oi := ⟨some 41, _, _, _, _, _⟩) (v := undef) rfl (by kernel_rfl) (by kernel_rfl) (by kernel_rfl) (fun _ _ _ h => h) (Or.inr ⟨by rfl, rfl⟩) (by assumption) ?_
      simp only [Act.put, List.setIfInBounds_toArray, List.set_cons_zero, List.set_cons_succ]
      refine wpAnyH_take (i := 29) (oi := ⟨some 42, _, _, _, _, _⟩) (v := undef) rfl (by kernel_rfl) (by kernel_rfl) (by kernel_rfl) (fun _ _ _ h => h) (Or.inr ⟨by rfl, rfl⟩) (by assumption) ?_
      simp only [Act.put, List.setIfInBounds_toArray, List.set_cons_zero, List.set_cons_succ]
      refine wpAnyH_take (i := 30) (oi := ⟨some 43, _, _, _, _, _⟩) (v := undef) rfl (by kernel_rfl) (by kernel_rfl) (by kernel_rfl) (fun _ _ _ h => h) (Or.inr ⟨by rfl, rfl⟩) (by assumption) ?_
      simp only [Act.put, List.setIfInBounds_toArray, List.set_cons_zero, List.set_cons_succ]
      refine wpAnyH_take (i := 31) (oi := ⟨some 44, _, _, _, _, _⟩) (v := undef) rfl (by kernel_rfl) (by kernel_rfl) (by kernel_rfl) (fun _ _ _ h => h) (Or.inr ⟨by rfl, rfl⟩) (by assumption) ?_
      simp only [Act.put, List.setIfInBounds_toArray, List.set_cons_zero, List.set_cons_succ]
      refine wpAnyH_take (i := 32) (oi := ⟨some 45, _, _, _, _, _⟩) (v := ?v66) rfl (by kernel_rfl) (by kernel_rfl) (by kernel_rfl) (fun _ _ _ h => h) (Or.inl ⟨by rfl, ?hy66⟩) (by assumption) ?rest66
      case hy66 => (intro wq hSw; obtain ⟨z0, z1⟩ := hSw; first | (go_simp; done) | (go_simp; with_reducible rfl) | (go_simp; rw [if_pos (by omega)]))
      simp only [Act.put, List.setIfInBounds_toArray, List.set_cons_zero, List.set_cons_succ]
      refine wpAnyH_done (by kernel_rfl) ?_ _
      (try dsimp only)
      go_wp2
      go_ret
      exact ⟨by rw [HF.out]; rfl, hD ▸ HB.out _ HBd.out⟩
   ·
    obtain ⟨j, rfl⟩ : ∃ i, j = i + 1 := ⟨j - 1, by omega⟩
    obtain ⟨b2, off2, e2, hbl2, c1⟩ := HIr.out j (by omega)
    injection e2 with e2
    injection e2 with e3 e4
    subst e3 e4
    have hwj : IntKind.i64.wrap (j : Int) = (j : Int) := by rw [IntKind.wrap_i64]; omega
    obtain ⟨y, hy⟩ : ∃ y, ns.getD j 0 = y := ⟨_, rfl⟩
    rw [hy] at c1
    by_cases hok : need18 own ns (j + 1)
    ·
     have hn := hok
     unfold need18 at hn
     rw [Nat.add_sub_cancel, hx, hy] at hn
     have HR : Hid (∀ q, q < j + 1 + 1 → need18 own ns q) := fun q hq => by
      rcases Nat.lt_or_ge q (j + 1) with g | g
      ·
       exact HA.out q g
      ·
       obtain rfl : q = j + 1 := by omega
       exact hok
     obtain ⟨h1, h2, h3⟩ := hn
     have h3 := h3 (by omega)
     clear HA hx hy hgo hok
     go_wp2
     refine wp_region_held_drew (S := fun Z => Z.cell? ⟨D, 1, none⟩ = some (.slice (some ⟨b, off, none⟩) ns.length nc) ∧ Z.cell? ⟨b, off + (j + 1), none⟩ = some (.int .i64 x) ∧ Z.cell? ⟨b, off + j, none⟩ = some (.int .i64 y)) (by kernel_rfl) (by exact ⟨k1, c0, c1⟩) (fun hHeld => ?_)
     refine wpAnyH_take (i := 0) (oi := ⟨some 13, _, _, _, _, _⟩) (v := ?v199) rfl (by kernel_rfl) (by kernel_rfl) (by kernel_rfl) (fun _ _ _ h => h) (Or.inl ⟨by rfl, ?hy199⟩) (by assumption) ?rest199
     case hy199 => (intro wq hSw; obtain ⟨z0, z1, z2⟩ := hSw; first | (go_simp; done) | (go_simp; with_reducible rfl) | (go_simp; rw [if_pos (by omega)]))
     simp only [Act.put, List.setIfInBounds_toArray, List.set_cons_zero, List.set_cons_succ]
     refine wpAnyH_take (i := 1) (oi := ⟨some 14, _, _, _, _, _⟩) (v := ?v200) rfl (by kernel_rfl) (by kernel_rfl) (by kernel_rfl) (fun _ _ _ h => h) (Or.inl ⟨by rfl, ?hy200⟩) (by assumption) ?rest200
     case hy200 => (intro wq hSw; obtain ⟨z0, z1, z2⟩ := hSw; first | (go_simp; done) | (go_simp; with_reducible rfl) | (go_simp; rw [if_pos (by omega)]))
     simp only [Act.put, List.setIfInBounds_toArray, List.set_cons_zero, List.set_cons_succ]
     refine wpAnyH_take (i := 2) (oi := ⟨some 15, _, _, _, _, _⟩) (v := ?v201) rfl (by kernel_rfl) (by kernel_rfl) (by kernel_rfl) (fun _ _ _ h => h) (Or.inl ⟨by rfl, ?hy201⟩) (by assumption) ?rest201
     case hy201 => (intro wq hSw; obtain ⟨z0, z1, z2⟩ := hSw; first | (go_simp; done) | (go_simp; with_reducible rfl) | (go_simp; rw [if_pos (by omega)]))
     simp only [Act.put, List.setIfInBounds_toArray, List.set_cons_zero, List.set_cons_succ]
     refine wpAnyH_take (i := 3) (oi := ⟨some 16, _, _, _, _, _⟩) (v := ?v202) rfl (by kernel_rfl) (by kernel_rfl) (by kernel_rfl) (fun _ _ _ h => h) (Or.inl ⟨by rfl, ?hy202⟩) (by assumption) ?rest202
     case hy202 => (intro wq hSw; obtain ⟨z0, z1, z2⟩ := hSw; first | (go_simp; done) | (go_simp; with_reducible rfl) | (go_simp; rw [if_pos (by omega)]))
     simp only [Act.put, List.setIfInBounds_toArray, List.set_cons_zero, List.set_cons_succ]
     refine wpAnyH_take (i := 4) (oi := ⟨some 17, _, _, _, _, _⟩) (v := ?v203) rfl (by kernel_rfl) (by kernel_rfl) (by kernel_rfl) (fun _ _ _ h => h) (Or.inl ⟨by rfl, ?hy203⟩) (by assumption) ?rest203
     case hy203 => (intro wq hSw; obtain ⟨z0, z1, z2⟩ := hSw; first | (go_simp; done) | (go_simp; with_reducible rfl) | (go_simp; rw [if_pos (by omega)]))
     simp only [Act.put, List.setIfInBounds_toArray, List.set_cons_zero, List.set_cons_succ]
     refine wpAnyH_take (i := 5) (oi := ⟨some 18, _, _, _, _, _⟩) (v := .bool false) rfl (by kernel_rfl) (by kernel_rfl) (by kernel_rfl) (fun _ _ _ h => h) (Or.inl ⟨by rfl, ?hy204⟩) (by assumption) ?rest204
     case hy204 => (intro wq hSw; clear hSw; first | (go_simp; done) | (go_simp; with_reducible rfl) | (go_simp; simp only [Result.ok.injEq, Next.value.injEq, Value.bool.injEq, decide_eq_true_eq, decide_eq_false_iff_not, and_true]; omega))
     simp only [Act.put, List.setIfInBounds_toArray, List.set_cons_zero, List.set_cons_succ]
     refine wpAnyH_take (i := 6) (oi := ⟨some 19, _, _, _, _, _⟩) (v := ?v205) rfl (by kernel_rfl) (by kernel_rfl) (by kernel_rfl) (fun _ _ _ h => h) (Or.inl ⟨by rfl, ?hy205⟩) (by assumption) ?rest205
     case hy205 => (intro wq hSw; obtain ⟨z0, z1, z2⟩ := hSw; first | (go_simp; done) | (go_simp; with_reducible rfl) | (go_simp; rw [if_pos (by omega)]))
     simp only [Act.put, List.setIfInBounds_toArray, List.set_cons_zero, List.set_cons_succ]
     refine wpAnyH_take (i := 7) (oi := ⟨some 20, _, _, _, _, _⟩) (v := ?v206) rfl (by kernel_rfl) (by kernel_rfl) (by kernel_rfl) (fun _ _ _ h => h) (Or.inl ⟨by rfl, ?hy206⟩) (by assumption) ?rest206
     case hy206 => (intro wq hSw; obtain ⟨z0, z1, z2⟩ := hSw; first | (go_simp; done) | (go_simp; with_reducible rfl) | (go_simp; rw [if_pos (by omega)]))
     simp only [Act.put, List.setIfInBounds_toArray, List.set_cons_zero, List.set_cons_succ]
     refine wpAnyH_take (i := 8) (oi := ⟨some 21, _, _, _, _, _⟩) (v := ?v207) rfl (by kernel_rfl) (by kernel_rfl) (by kernel_rfl) (fun _ _ _ h => h) (Or.inl ⟨by rfl, ?hy207⟩) (by assumption) ?rest207
     case hy207 => (intro wq hSw; obtain ⟨z0, z1, z2⟩ := hSw; first | (go_simp; done) | (go_simp; with_reducible rfl) | (go_simp; rw [if_pos (by omega)]))
     simp only [Act.put, List.setIfInBounds_toArray, List.set_cons_zero, List.set_cons_succ]
     refine wpAnyH_take (i := 9) (oi := ⟨some 22, _, _, _, _, _⟩) (v := ?v208) rfl (by kernel_rfl) (by kernel_rfl) (by kernel_rfl) (fun _ _ _ h => h) (Or.inl ⟨by rfl, ?hy208⟩) (by assumption) ?rest208
     case hy208 => (intro wq hSw; obtain ⟨z0, z1, z2⟩ := hSw; first | (go_simp; done) | (go_simp; with_reducible rfl) | (go_simp; rw [if_pos (by omega)]))
     simp only [Act.put, List.setIfInBounds_toArray, List.set_cons_zero, List.set_cons_succ]
     refine wpAnyH_take (i := 10) (oi := ⟨some 23, _, _, _, _, _⟩) (v := ?v209) rfl (by kernel_rfl) (by kernel_rfl) (by kernel_rfl) (fun _ _ _ h => h) (Or.inl ⟨by rfl, ?hy209⟩) (by assumption) ?rest209
     case hy209 => (intro wq hSw; obtain ⟨z0, z1, z2⟩ := hSw; first | (go_simp; done) | (go_simp; with_reducible rfl) | (go_simp; rw [if_pos (by omega)]))
     simp only [Act.put, List.setIfInBounds_toArray, List.set_cons_zero, List.set_cons_succ]
     refine wpAnyH_take (i := 11) (oi := ⟨some 24, _, _, _, _, _⟩) (v := ?v210) rfl (by kernel_rfl) (by kernel_rfl) (by kernel_rfl) (fun _ _ _ h => h) (Or.inl ⟨by rfl, ?hy210⟩) (by assumption) ?rest210
     case hy210 => (intro wq hSw; obtain ⟨z0, z1, z2⟩ := hSw; first | (go_simp; done) | (go_simp; with_reducible rfl) | (go_simp; rw [if_pos (by omega)]))
     simp only [Act.put, List.setIfInBounds_toArray, List.set_cons_zero, List.set_cons_succ]
     refine wpAnyH_take (i := 12) (oi := ⟨some 25, _, _, _, _, _⟩) (v := ?v211) rfl (by kernel_rfl) (by kernel_rfl) (by kernel_rfl) (fun _ _ _ h => h) (Or.inl ⟨by rfl, ?hy211⟩) (by assumption) ?rest211
     case hy211 => (intro wq hSw; obtain ⟨z0, z1, z2⟩ := hSw; first | (go_simp; done) | (go_simp; with_reducible rfl) | (go_simp; rw [if_pos (by omega)]))
     simp only [Act.put, List.setIfInBounds_toArray, List.set_cons_zero, List.set_cons_succ]
     refine wpAnyH_take (i := 13) (oi := ⟨some 26, _, _, _, _, _⟩) (v := .bool false) rfl (by kernel_rfl) (by kernel_rfl) (by kernel_rfl) (fun _ _ _ h => h) (Or.inl ⟨by rfl, ?hy212⟩) (by assumption) ?rest212
     case hy212 => (intro wq hSw; clear hSw; first | (go_simp; done) | (go_simp; with_reducible rfl) | (go_simp; simp only [Result.ok.injEq, Next.value.injEq, Value.bool.injEq, decide_eq_true_eq, decide_eq_false_iff_not, and_true]; omega))
     simp only [Act.put, List.setIfInBounds_toArray, List.set_cons_zero, List.set_cons_succ]
     refine wpAnyH_take (i := 14) (oi := ⟨some 27, _, _, _, _, _⟩) (v := ?v213) rfl (by kernel_rfl) (by kernel_rfl) (by kernel_rfl) (fun _ _ _ h => h) (Or.inl ⟨by rfl, ?hy213⟩) (by assumption) ?rest213
     case hy213 => (intro wq hSw; obtain ⟨z0, z1, z2⟩ := hSw; first | (go_simp; done) | (go_simp; with_reducible rfl) | (go_simp; rw [if_pos (by omega)]))
     simp only [Act.put, List.setIfInBounds_toArray, List.set_cons_zero, List.set_cons_succ]
     refine wpAnyH_take (i := 15) (oi := ⟨some 28, _, _, _, _, _⟩) (v := ?v214) rfl (by kernel_rfl) (by kernel_rfl) (by kernel_rfl) (fun _ _ _ h => h) (Or.inl ⟨by rfl, ?hy214⟩) (by assumption) ?rest214
     case hy214 => (intro wq hSw; obtain ⟨z0, z1, z2⟩ := hSw; first | (go_simp; done) | (go_simp; with_reducible rfl) | (go_simp; rw [if_pos (by omega)]))
     simp only [Act.put, List.setIfInBounds_toArray, List.set_cons_zero, List.set_cons_succ]
     refine wpAnyH_take (i := 16) (oi := ⟨some 29, _, _, _, _, _⟩) (v := ?v215) rfl (by kernel_rfl) (by kernel_rfl) (by kernel_rfl) (fun _ _ _ h => h) (Or.inl ⟨by rfl, ?hy215⟩) (by assumption) ?rest215
     case hy215 => (intro wq hSw; obtain ⟨z0, z1, z2⟩ := hSw; first | (go_simp; done) | (go_simp; with_reducible rfl) | (go_simp; rw [if_pos (by omega)]))
     simp only [Act.put, List.setIfInBounds_toArray, List.set_cons_zero, List.set_cons_succ]
     refine wpAnyH_take (i := 17) (oi := ⟨some 30, _, _, _, _, _⟩) (v := .bool true) rfl (by kernel_rfl) (by kernel_rfl) (by kernel_rfl) (fun _ _ _ h => h) (Or.inl ⟨by rfl, ?hy216⟩) (by assumption) ?rest216
     case hy216 => (intro wq hSw; clear hSw; first | (go_simp; done) | (go_simp; with_reducible rfl) | (go_simp; simp only [Result.ok.injEq, Next.value.injEq, Value.bool.injEq, decide_eq_true_eq, decide_eq_false_iff_not, and_true]; omega))
     simp only [Act.put, List.setIfInBounds_toArray, List.set_cons_zero, List.set_cons_succ]
     refine wpAnyH_take (i := 18) (oi := ⟨some 31, _, _, _, _, _⟩) (v := ?v217) rfl (by kernel_rfl) (by kernel_rfl) (by kernel_rfl) (fun _ _ _ h => h) (Or.inl ⟨by rfl, ?hy217⟩) (by assumption) ?rest217
     case hy217 => (intro wq hSw; obtain ⟨z0, z1, z2⟩ := hSw; first | (go_simp; done) | (go_simp; with_reducible rfl) | (go_simp; rw [if_pos (by omega)]))
     simp only [Act.put, List.setIfInBounds_toArray, List.set_cons_zero, List.set_cons_succ]
     refine wpAnyH_take (i := 19) (oi := ⟨some 32, _, _, _, _, _⟩) (v := ?v218) rfl (by kernel_rfl) (by kernel_rfl) (by kernel_rfl) (fun _ _ _ h => h) (Or.inl ⟨by rfl, ?hy218⟩) (by assumption) ?rest218
     case hy218 => (intro wq hSw; obtain ⟨z0, z1, z2⟩ := hSw; first | (go_simp; done) | (go_simp; with_reducible rfl) | (go_simp; rw [if_pos (by omega)]))
     simp only [Act.put, List.setIfInBounds_toArray, List.set_cons_zero, List.set_cons_succ]
     refine wpAnyH_take (i := 20) (oi := ⟨some 33, _, _, _, _, _⟩) (v := ?v219) rfl (by kernel_rfl) (by kernel_rfl) (by kernel_rfl) (fun _ _ _ h => h) (Or.inl ⟨by rfl, ?hy219⟩) (by assumption) ?rest219
     case hy219 => (intro wq hSw; obtain ⟨z0, z1, z2⟩ := hSw; first | (go_simp; done) | (go_simp; with_reducible rfl) | (go_simp; rw [if_pos (by omega)]))
     simp only [Act.put, List.setIfInBounds_toArray, List.set_cons_zero, List.set_cons_succ]
     refine wpAnyH_take (i := 21) (oi := ⟨some 34, _, _, _, _, _⟩) (v := ?v220) rfl (by kernel_rfl) (by kernel_rfl) (by kernel_rfl) (fun _ _ _ h => h) (Or.inl ⟨by rfl, ?hy220⟩) (by assumption) ?rest220
     case hy220 => (intro wq hSw; obtain ⟨z0, z1, z2⟩ := hSw; first | (go_simp; done) | (go_simp; with_reducible rfl) | (go_simp; rw [if_pos (by omega)]))
     simp only [Act.put, List.setIfInBounds_toArray, List.set_cons_zero, List.set_cons_succ]
     refine wpAnyH_take (i := 22) (oi := ⟨some 35, _, _, _, _, _⟩) (v := ?v221) rfl (by kernel_rfl) (by kernel_rfl) (by kernel_rfl) (fun _ _ _ h => h) (Or.inl ⟨by rfl, ?hy221⟩) (by assumption) ?rest221
     case hy221 => (intro wq hSw; obtain ⟨z0, z1, z2⟩ := hSw; first | (go_simp; done) | (go_simp; with_reducible rfl) | (go_simp; rw [if_pos (by omega)]))
     simp only [Act.put, List.setIfInBounds_toArray, List.set_cons_zero, List.set_cons_succ]
     refine wpAnyH_take (i := 23) (oi := ⟨some 36, _, _, _, _, _⟩) (v := ?v222) rfl (by kernel_rfl) (by kernel_rfl) (by kernel_rfl) (fun _ _ _ h => h) (Or.inl ⟨by rfl, ?hy222⟩) (by assumption) ?rest222
     case hy222 => (intro wq hSw; obtain ⟨z0, z1, z2⟩ := hSw; first | (go_simp; done) | (go_simp; with_reducible rfl) | (go_simp; rw [if_pos (by omega)]))
     simp only [Act.put, List.setIfInBounds_toArray, List.set_cons_zero, List.set_cons_succ]
     refine wpAnyH_take (i := 24) (oi := ⟨some 37, _, _, _, _, _⟩) (v := ?v223) rfl (by kernel_rfl) (by kernel_rfl) (by kernel_rfl) (fun _ _ _ h => h) (Or.inl ⟨by rfl, ?hy223⟩) (by assumption) ?rest223
     case hy223 => (intro wq hSw; obtain ⟨z0, z1, z2⟩ := hSw; first | (go_simp; done) | (go_simp; with_reducible rfl) | (go_simp; rw [if_pos (by omega)]))
     simp only [Act.put, List.setIfInBounds_toArray, List.set_cons_zero, List.set_cons_succ]
     refine wpAnyH_take (i := 25) (oi := ⟨some 38, _, _, _, _, _⟩) (v := ?v224) rfl (by kernel_rfl) (by kernel_rfl) (by kernel_rfl) (fun _ _ _ h => h) (Or.inl ⟨by rfl, ?hy224⟩) (by assumption) ?rest224
     case hy224 => (intro wq hSw; obtain ⟨z0, z1, z2⟩ := hSw; first | (go_simp; done) | (go_simp; with_reducible rfl) | (go_simp; rw [if_pos (by omega)]))
     simp only [Act.put, List.setIfInBounds_toArray, List.set_cons_zero, List.set_cons_succ]
     refine wpAnyH_take (i := 26) (oi := ⟨some 39, _, _, _, _, _⟩) (v := ?v225) rfl (by kernel_rfl) (by kernel_rfl) (by kernel_rfl) (fun _ _ _ h => h) (Or.inl ⟨by rfl, ?hy225⟩) (by assumption) ?rest225
     case hy225 => (intro wq hSw; obtain ⟨z0, z1, z2⟩ := hSw; first | (go_simp; done) | (go_simp; with_reducible rfl) | (go_simp; rw [if_pos (by omega)]))
     simp only [Act.put, List.setIfInBounds_toArray, List.set_cons_zero, List.set_cons_succ]
     refine wpAnyH_take (i := 27) (oi := ⟨some 40, _, _, _, _, _⟩) (v := ?v226) rfl (by kernel_rfl) (by kernel_rfl) (by kernel_rfl) (fun _ _ _ h => h) (Or.inl ⟨by rfl, ?hy226⟩) (by assumption) ?rest226
     case hy226 => (intro wq hSw; obtain ⟨z0, z1, z2⟩ := hSw; first | (go_simp; done) | (go_simp; with_reducible rfl) | (go_simp; rw [if_pos (by omega)]))
     simp only [Act.put, List.setIfInBounds_toArray, List.set_cons_zero, List.set_cons_succ]
     refine wpAnyH_take (i := 28) (oi := ⟨some 41, _, _, _, _, _⟩) (v := ?v227) rfl (by kernel_rfl) (by kernel_rfl) (by kernel_rfl) (fun _ _ _ h => h) (Or.inl ⟨by rfl, ?hy227⟩) (by assumption) ?rest227
     case hy227 => (intro wq hSw; obtain ⟨z0, z1, z2⟩ := hSw; first | (go_simp; done) | (go_simp; with_reducible rfl) | (go_simp; rw [if_pos (by omega)]))
     simp only [Act.put, List.setIfInBounds_toArray, List.set_cons_zero, List.set_cons_succ]
     refine wpAnyH_take (i := 29) (oi := ⟨some 42, _, _, _, _, _⟩) (v := ?v228) rfl (by kernel_rfl) (by kernel_rfl) (by kernel_rfl) (fun _ _ _ h => h) (Or.inl ⟨by rfl, ?hy228⟩) (by assumption) ?rest228
     case hy228 => (intro wq hSw; obtain ⟨z0, z1, z2⟩ := hSw; first | (go_simp; done) | (go_simp; with_reducible rfl) | (go_simp; rw [if_pos (by omega)]))
     simp only [Act.put, List.setIfInBounds_toArray, List.set_cons_zero, List.set_cons_succ]
     refine wpAnyH_take (i := 30) (oi := ⟨some 43, _, _, _, _, _⟩) (v := .bool false) rfl (by kernel_rfl) (by kernel_rfl) (by kernel_rfl) (fun _ _ _ h => h) (Or.inl ⟨by rfl, ?hy229⟩) (by assumption) ?rest229
     case hy229 => (intro wq hSw; clear hSw; first | (go_simp; done) | (go_simp; with_reducible rfl) | (go_simp; simp only [Result.ok.injEq, Next.value.injEq, Value.bool.injEq, decide_eq_true_eq, decide_eq_false_iff_not, and_true]; omega))
     simp only [Act.put, List.setIfInBounds_toArray, List.set_cons_zero, List.set_cons_succ]
     refine wpAnyH_take (i := 31) (oi := ⟨some 44, _, _, _, _, _⟩) (v := ?v230) rfl (by kernel_rfl) (by kernel_rfl) (by kernel_rfl) (fun _ _ _ h => h) (Or.inl ⟨by rfl, ?hy230⟩) (by assumption) ?rest230
     case hy230 => (intro wq hSw; obtain ⟨z0, z1, z2⟩ := hSw; first | (go_simp; done) | (go_simp; with_reducible rfl) | (go_simp; rw [if_pos (by omega)]))
     simp only [Act.put, List.setIfInBounds_toArray, List.set_cons_zero, List.set_cons_succ]
     refine wpAnyH_take (i := 32) (oi := ⟨some 45, _, _, _, _, _⟩) (v := ?v231) rfl (by kernel_rfl) (by kernel_rfl) (by kernel_rfl) (fun _ _ _ h => h) (Or.inl ⟨by rfl, ?hy231⟩) (by assumption) ?rest231
     case hy231 => (intro wq hSw; obtain ⟨z0, z1, z2⟩ := hSw; first | (go_simp; done) | (go_simp; with_reducible rfl) | (go_simp; rw [if_pos (by omega)]))
     simp only [Act.put, List.setIfInBounds_toArray, List.set_cons_zero, List.set_cons_succ]
     refine wpAnyH_done (by kernel_rfl) ?_ _
     (try dsimp only)
     go_wp2
     go_roundw
     case rel => exact ⟨j + 1 + 1, by go_num, by omega, HR, HBd⟩
     case measure => simp [intOf]; omega
    ·
     have HF : Hid (_) := hgo hok
     unfold need18 at hok
     rw [Nat.add_sub_cancel, hx, hy] at hok
     clear HA hx hy hgo
     rcases Int.lt_or_le x 0 with h1 | h1
     ·
      go_wp2
      refine wp_region_held_drew (S := fun Z => Z.cell? ⟨D, 1, none⟩ = some (.slice (some ⟨b, off, none⟩) ns.length nc) ∧ Z.cell? ⟨b, off + (j + 1), none⟩ = some (.int .i64 x) ∧ Z.cell? ⟨b, off + j, none⟩ = some (.int .i64 y)) (by kernel_rfl) (by exact ⟨k1, c0, c1⟩) (fun hHeld => ?_)
      refine wpAnyH_take (i := 0) (oi := ⟨some 13, _, _, _, _, _⟩) (v := ?v100) rfl (by kernel_rfl) (by kernel_rfl) (by kernel_rfl) (fun _ _ _ h => h) (Or.inl ⟨by rfl, ?hy100⟩) (by assumption) ?rest100
      case hy100 => (intro wq hSw; obtain ⟨z0, z1, z2⟩ := hSw; first | (go_simp; done) | (go_simp; with_reducible rfl) | (go_simp; rw [if_pos (by omega)]))
      simp only [Act.put, List.setIfInBounds_toArray, List.set_cons_zero, List.set_cons_succ]
      refine wpAnyH_take (i := 1) (oi := ⟨some 14, _, _, _, _, _⟩) (v := ?v101) rfl (by kernel_rfl) (by kernel_rfl) (by kernel_rfl) (fun _ _ _ h => h) (Or.inl ⟨by rfl, ?hy101⟩) (by assumption) ?rest101
      case hy101 => (intro wq hSw; obtain ⟨z0, z1, z2⟩ := hSw; first | (go_simp; done) | (go_simp; with_reducible rfl) | (go_simp; rw [if_pos (by omega)]))
      simp only [Act.put, List.setIfInBounds_toArray, List.set_cons_zero, List.set_cons_succ]
      refine wpAnyH_take (i := 2) (oi := ⟨some 15, _, _, _, _, _⟩) (v := ?v102) rfl (by kernel_rfl) (by kernel_rfl) (by kernel_rfl) (fun _ _ _ h => h) (Or.inl ⟨by rfl, ?hy102⟩) (by assumption) ?rest102
      case hy102 => (intro wq hSw; obtain ⟨z0, z1, z2⟩ := hSw; first | (go_simp; done) | (go_simp; with_reducible rfl) | (go_simp; rw [if_pos (by omega)]))
      simp only [Act.put, List.setIfInBounds_toArray, List.set_cons_zero, List.set_cons_succ]
      refine wpAnyH_take (i := 3) (oi := ⟨some 16, _, _, _, _, _⟩) (v := ?v103) rfl (by kernel_rfl) (by kernel_rfl) (by kernel_rfl) (fun _ _ _ h => h) (Or.inl ⟨by rfl, ?hy103⟩) (by assumption) ?rest103
      case hy103 => (intro wq hSw; obtain ⟨z0, z1, z2⟩ := hSw; first | (go_simp; done) | (go_simp; with_reducible rfl) | (go_simp; rw [if_pos (by omega)]))
      simp only [Act.put, List.setIfInBounds_toArray, List.set_cons_zero, List.set_cons_succ]
      refine wpAnyH_take (i := 4) (oi := ⟨some 17, _, _, _, _, _⟩) (v := ?v104) rfl (by kernel_rfl) (by kernel_rfl) (by kernel_rfl) (fun _ _ _ h => h) (Or.inl ⟨by rfl, ?hy104⟩) (by assumption) ?rest104
      case hy104 => (intro wq hSw; obtain ⟨z0, z1, z2⟩ := hSw; first | (go_simp; done) | (go_simp; with_reducible rfl) | (go_simp; rw [if_pos (by omega)]))
      simp only [Act.put, List.setIfInBounds_toArray, List.set_cons_zero, List.set_cons_succ]
      refine wpAnyH_take (i := 5) (oi := ⟨some 18, _, _, _, _, _⟩) (v := .bool true) rfl (by kernel_rfl) (by kernel_rfl) (by kernel_rfl) (fun _ _ _ h => h) (Or.inl ⟨by rfl, ?hy105⟩) (by assumption) ?rest105
      case hy105 => (intro wq hSw; clear hSw; first | (go_simp; done) | (go_simp; with_reducible rfl) | (go_simp; simp only [Result.ok.injEq, Next.value.injEq, Value.bool.injEq, decide_eq_true_eq, decide_eq_false_iff_not, and_true]; omega))
      simp only [Act.put, List.setIfInBounds_toArray, List.set_cons_zero, List.set_cons_succ]
      refine wpAnyH_take (i := 6) (oi := ⟨some 19, _, _, _, _, _⟩) (v := ?v106) rfl (by kernel_rfl) (by kernel_rfl) (by kernel_rfl) (fun _ _ _ h => h) (Or.inl ⟨by rfl, ?hy106⟩) (by assumption) ?rest106
      case hy106 => (intro wq hSw; obtain ⟨z0, z1, z2⟩ := hSw; first | (go_simp; done) | (go_simp; with_reducible rfl) | (go_simp; rw [if_pos (by omega)]))
      simp only [Act.put, List.setIfInBounds_toArray, List.set_cons_zero, List.set_cons_succ]
      refine wpAnyH_take (i := 7) (oi := ⟨some 20, _, _, _, _, _⟩) (v := undef) rfl (by kernel_rfl) (by kernel_rfl) (by kernel_rfl) (fun _ _ _ h => h) (Or.inr ⟨by rfl, rfl⟩) (by assumption) ?_
      simp only [Act.put, List.setIfInBounds_toArray, List.set_cons_zero, List.set_cons_succ]
      refine wpAnyH_take (i := 8) (oi := ⟨some 21, _, _, _, _, _⟩) (v := undef) rfl (by kernel_rfl) (by kernel_rfl) (by kernel_rfl) (fun _ _ _ h => h) (Or.inr ⟨by rfl, rfl⟩) (by assumption) ?_
      simp only [Act.put, List.setIfInBounds_toArray, List.set_cons_zero, List.set_cons_succ]
      refine wpAnyH_take (i := 9) (oi := ⟨some 22, _, _, _, _, _⟩) (v := undef) rfl (by kernel_rfl) (by kernel_rfl) (by kernel_rfl) (fun _ _ _ h => h) (Or.inr ⟨by rfl, rfl⟩) (by assumption) ?_
      simp only [Act.put, List.setIfInBounds_toArray, List.set_cons_zero, List.set_cons_succ]
      refine wpAnyH_take (i := 10) (oi := ⟨some 23, _, _, _, _, _⟩) (v := undef) rfl (by kernel_rfl) (by kernel_rfl) (by kernel_rfl) (fun _ _ _ h => h) (Or.inr ⟨by rfl, rfl⟩) (by assumption) ?_
      simp only [Act.put, List.setIfInBounds_toArray, List.set_cons_zero, List.set_cons_succ]
      refine wpAnyH_take (i := 11) (oi := ⟨some 24, _, _, _, _, _⟩) (v := undef) rfl (by kernel_rfl) (by kernel_rfl) (by kernel_rfl) (fun _ _ _ h => h) (Or.inr ⟨by rfl, rfl⟩) (by assumption) ?_
      simp only [Act.put, List.setIfInBounds_toArray, List.set_cons_zero, List.set_cons_succ]
      refine wpAnyH_take (i := 12) (oi := ⟨some 25, _, _, _, _, _⟩) (v := undef) rfl (by kernel_rfl) (by kernel_rfl) (by kernel_rfl) (fun _ _ _ h => h) (Or.inr ⟨by rfl, rfl⟩) (by assumption) ?_
      simp only [Act.put, List.setIfInBounds_toArray, List.set_cons_zero, List.set_cons_succ]
      refine wpAnyH_take (i := 13) (oi := ⟨some 26, _, _, _, _, _⟩) (v := undef) rfl (by kernel_rfl) (by kernel_rfl) (by kernel_rfl) (fun _ _ _ h => h) (Or.inr ⟨by rfl, rfl⟩) (by assumption) ?_
      simp only [Act.put, List.setIfInBounds_toArray, List.set_cons_zero, List.set_cons_succ]
      refine wpAnyH_take (i := 14) (oi := ⟨some 27, _, _, _, _, _⟩) (v := ?v114) rfl (by kernel_rfl) (by kernel_rfl) (by kernel_rfl) (fun _ _ _ h => h) (Or.inl ⟨by rfl, ?hy114⟩) (by assumption) ?rest114
      case hy114 => (intro wq hSw; obtain ⟨z0, z1, z2⟩ := hSw; first | (go_simp; done) | (go_simp; with_reducible rfl) | (go_simp; rw [if_pos (by omega)]))
      simp only [Act.put, List.setIfInBounds_toArray, List.set_cons_zero, List.set_cons_succ]
      refine wpAnyH_take (i := 15) (oi := ⟨some 28, _, _, _, _, _⟩) (v := ?v115) rfl (by kernel_rfl) (by kernel_rfl) (by kernel_rfl) (fun _ _ _ h => h) (Or.inl ⟨by rfl, ?hy115⟩) (by assumption) ?rest115
      case hy115 => (intro wq hSw; obtain ⟨z0, z1, z2⟩ := hSw; first | (go_simp; done) | (go_simp; with_reducible rfl) | (go_simp; rw [if_pos (by omega)]))
      simp only [Act.put, List.setIfInBounds_toArray, List.set_cons_zero, List.set_cons_succ]
      refine wpAnyH_take (i := 16) (oi := ⟨some 29, _, _, _, _, _⟩) (v := undef) rfl (by kernel_rfl) (by kernel_rfl) (by kernel_rfl) (fun _ _ _ h => h) (Or.inr ⟨by rfl, rfl⟩) (by assumption) ?_
      simp only [Act.put, List.setIfInBounds_toArray, List.set_cons_zero, List.set_cons_succ]
      refine wpAnyH_take (i := 17) (oi := ⟨some 30, _, _, _, _, _⟩) (v := undef) rfl (by kernel_rfl) (by kernel_rfl) (by kernel_rfl) (fun _ _ _ h => h) (Or.inr ⟨by rfl, rfl⟩) (by assumption) ?_
      simp only [Act.put, List.setIfInBounds_toArray, List.set_cons_zero, List.set_cons_succ]
      refine wpAnyH_take (i := 18) (oi := ⟨some 31, _, _, _, _, _⟩) (v := undef) rfl (by kernel_rfl) (by kernel_rfl) (by kernel_rfl) (fun _ _ _ h => h) (Or.inr ⟨by rfl, rfl⟩) (by assumption) ?_
      simp only [Act.put, List.setIfInBounds_toArray, List.set_cons_zero, List.set_cons_succ]
      refine wpAnyH_take (i := 19) (oi := ⟨some 32, _, _, _, _, _⟩) (v := undef) rfl (by kernel_rfl) (by kernel_rfl) (by kernel_rfl) (fun _ _ _ h => h) (Or.inr ⟨by rfl, rfl⟩) (by assumption) ?_
      simp only [Act.put, List.setIfInBounds_toArray, List.set_cons_zero, List.set_cons_succ]
      refine wpAnyH_take (i := 20) (oi := ⟨some 33, _, _, _, _, _⟩) (v := undef) rfl (by kernel_rfl) (by kernel_rfl) (by kernel_rfl) (fun _ _ _ h => h) (Or.inr ⟨by rfl, rfl⟩) (by assumption) ?_
      simp only [Act.put, List.setIfInBounds_toArray, List.set_cons_zero, List.set_cons_succ]
      refine wpAnyH_take (i := 21) (oi := ⟨some 34, _, _, _, _, _⟩) (v := undef) rfl (by kernel_rfl) (by kernel_rfl) (by kernel_rfl) (fun _ _ _ h => h) (Or.inr ⟨by rfl, rfl⟩) (by assumption) ?_
      simp only [Act.put, List.setIfInBounds_toArray, List.set_cons_zero, List.set_cons_succ]
      refine wpAnyH_take (i := 22) (oi := ⟨some 35, _, _, _, _, _⟩) (v := undef) rfl (by kernel_rfl) (by kernel_rfl) (by kernel_rfl) (fun _ _ _ h => h) (Or.inr ⟨by rfl, rfl⟩) (by assumption) ?_
      simp only [Act.put, List.setIfInBounds_toArray, List.set_cons_zero, List.set_cons_succ]
      refine wpAnyH_take (i := 23) (oi := ⟨some 36, _, _, _, _, _⟩) (v := undef) rfl (by kernel_rfl) (by kernel_rfl) (by kernel_rfl) (fun _ _ _ h => h) (Or.inr ⟨by rfl, rfl⟩) (by assumption) ?_
      simp only [Act.put, List.setIfInBounds_toArray, List.set_cons_zero, List.set_cons_succ]
      refine wpAnyH_take (i := 24) (oi := ⟨some 37, _, _, _, _, _⟩) (v := undef) rfl (by kernel_rfl) (by kernel_rfl) (by kernel_rfl) (fun _ _ _ h => h) (Or.inr ⟨by rfl, rfl⟩) (by assumption) ?_
      simp only [Act.put, List.setIfInBounds_toArray, List.set_cons_zero, List.set_cons_succ]
      refine wpAnyH_take (i := 25) (oi := ⟨some 38, _, _, _, _, _⟩) (v := undef) rfl (by kernel_rfl) (by kernel_rfl) (by kernel_rfl) (fun _ _ _ h => h) (Or.inr ⟨by rfl, rfl⟩) (by assumption) ?_
      simp only [Act.put, List.setIfInBounds_toArray, List.set_cons_zero, List.set_cons_succ]
      refine wpAnyH_take (i := 26) (oi := ⟨some 39, _, _, _, _, _⟩) (v := undef) rfl (by kernel_rfl) (by kernel_rfl) (by kernel_rfl) (fun _ _ _ h => h) (Or.inr ⟨by rfl, rfl⟩) (by assumption) ?_
      simp only [Act.put, List.setIfInBounds_toArray, List.set_cons_zero, List.set_cons_succ]
      refine wpAnyH_take (i := 27) (oi := ⟨some 40, _, _, _, _, _⟩) (v := undef) rfl (by kernel_rfl) (by kernel_rfl) (by kernel_rfl) (fun _ _ _ h => h) (Or.inr ⟨by rfl, rfl⟩) (by assumption) ?_
      simp only [Act.put, List.setIfInBounds_toArray, List.set_cons_zero, List.set_cons_succ]
      refine wpAnyH_take (i := 28) (oi := ⟨some 41, _, _, _, _, _⟩) (v := undef) rfl (by kernel_rfl) (by kernel_rfl) (by kernel_rfl) (fun _ _ _ h => h) (Or.inr ⟨by rfl, rfl⟩) (by assumption) ?_
      simp only [Act.put, List.setIfInBounds_toArray, List.set_cons_zero, List.set_cons_succ]
      refine wpAnyH_take (i := 29) (oi := ⟨some 42, _, _, _, _, _⟩) (v := undef) rfl (by kernel_rfl) (by kernel_rfl) (by kernel_rfl) (fun _ _ _ h => h) (Or.inr ⟨by rfl, rfl⟩) (by assumption) ?_
      simp only [Act.put, List.setIfInBounds_toArray, List.set_cons_zero, List.set_cons_succ]
      refine wpAnyH_take (i := 30) (oi := ⟨some 43, _, _, _, _, _⟩) (v := undef) rfl (by kernel_rfl) (by kernel_rfl) (by kernel_rfl) (fun _ _ _ h => h) (Or.inr ⟨by rfl, rfl⟩) (by assumption) ?_
      simp only [Act.put, List.setIfInBounds_toArray, List.set_cons_zero, List.set_cons_succ]
      refine wpAnyH_take (i := 31) (oi := ⟨some 44, _, _, _, _, _⟩) (v := undef) rfl (by kernel_rfl) (by kernel_rfl) (by kernel_rfl) (fun _ _ _ h => h) (Or.inr ⟨by rfl, rfl⟩) (by assumption) ?_
      simp only [Act.put, List.setIfInBounds_toArray, List.set_cons_zero, List.set_cons_succ]
      refine wpAnyH_take (i := 32) (oi := ⟨some 45, _, _, _, _, _⟩) (v := ?v132) rfl (by kernel_rfl) (by kernel_rfl) (by kernel_rfl) (fun _ _ _ h => h) (Or.inl ⟨by rfl, ?hy132⟩) (by assumption) ?rest132
      case hy132 => (intro wq hSw; obtain ⟨z0, z1, z2⟩ := hSw; first | (go_simp; done) | (go_simp; with_reducible rfl) | (go_simp; rw [if_pos (by omega)]))
      simp only [Act.put, List.setIfInBounds_toArray, List.set_cons_zero, List.set_cons_succ]
      refine wpAnyH_done (by kernel_rfl) ?_ _
      (try dsimp only)
      go_wp2
      go_ret
      exact ⟨by rw [HF.out]; rfl, hD ▸ HB.out _ HBd.out⟩
     ·
      rcases Int.lt_or_le x own with h2 | h2
      ·
       have h3 : x ≤ y := by
        rcases Int.lt_or_le y x with g | g
        ·
         exact absurd ⟨h1, h2, fun _ => g⟩ hok
        ·
         exact g
       clear hok
       go_wp2
       refine wp_region_held_drew (S := fun Z => Z.cell? ⟨D, 1, none⟩ = some (.slice (some ⟨b, off, none⟩) ns.length nc) ∧ Z.cell? ⟨b, off + (j + 1), none⟩ = some (.int .i64 x) ∧ Z.cell? ⟨b, off + j, none⟩ = some (.int .i64 y)) (by kernel_rfl) (by exact ⟨k1, c0, c1⟩) (fun hHeld => ?_)
       refine wpAnyH_take (i := 0) (oi := ⟨some 13, _, _, _, _, _⟩) (v := ?v166) rfl (by kernel_rfl) (by kernel_rfl) (by kernel_rfl) (fun _ _ _ h => h) (Or.inl ⟨by rfl, ?hy166⟩) (by assumption) ?rest166
       case hy166 => (intro wq hSw; obtain ⟨z0, z1, z2⟩ := hSw; first | (go_simp; done) | (go_simp; with_reducible rfl) | (go_simp; rw [if_pos (by omega)]))
       simp only [Act.put, List.setIfInBounds_toArray, List.set_cons_zero, List.set_cons_succ]
       refine wpAnyH_take (i := 1) (oi := ⟨some 14, _, _, _, _, _⟩) (v := ?v167) rfl (by kernel_rfl) (by kernel_rfl) (by kernel_rfl) (fun _ _ _ h => h) (Or.inl ⟨by rfl, ?hy167⟩) (by assumption) ?rest167
       case hy167 => (intro wq hSw; obtain ⟨z0, z1, z2⟩ := hSw; first | (go_simp; done) | (go_simp; with_reducible rfl) | (go_simp; rw [if_pos (by omega)]))
       simp only [Act.put, List.setIfInBounds_toArray, List.set_cons_zero, List.set_cons_succ]
       refine wpAnyH_take (i := 2) (oi := ⟨some 15, _, _, _, _, _⟩) (v := ?v168) rfl (by kernel_rfl) (by kernel_rfl) (by kernel_rfl) (fun _ _ _ h => h) (Or.inl ⟨by rfl, ?hy168⟩) (by assumption) ?rest168
       case hy168 => (intro wq hSw; obtain ⟨z0, z1, z2⟩ := hSw; first | (go_simp; done) | (go_simp; with_reducible rfl) | (go_simp; rw [if_pos (by omega)]))
       simp only [Act.put, List.setIfInBounds_toArray, List.set_cons_zero, List.set_cons_succ]
       refine wpAnyH_take (i := 3) (oi := ⟨some 16, _, _, _, _, _⟩) (v := ?v169) rfl (by kernel_rfl) (by kernel_rfl) (by kernel_rfl) (fun _ _ _ h => h) (Or.inl ⟨by rfl, ?hy169⟩) (by assumption) ?rest169
       case hy169 => (intro wq hSw; obtain ⟨z0, z1, z2⟩ := hSw; first | (go_simp; done) | (go_simp; with_reducible rfl) | (go_simp; rw [if_pos (by omega)]))
       simp only [Act.put, List.setIfInBounds_toArray, List.set_cons_zero, List.set_cons_succ]
       refine wpAnyH_take (i := 4) (oi := ⟨some 17, _, _, _, _, _⟩) (v := ?v170) rfl (by kernel_rfl) (by kernel_rfl) (by kernel_rfl) (fun _ _ _ h => h) (Or.inl ⟨by rfl, ?hy170⟩) (by assumption) ?rest170
       case hy170 => (intro wq hSw; obtain ⟨z0, z1, z2⟩ := hSw; first | (go_simp; done) | (go_simp; with_reducible rfl) | (go_simp; rw [if_pos (by omega)]))
       simp only [Act.put, List.setIfInBounds_toArray, List.set_cons_zero, List.set_cons_succ]
       refine wpAnyH_take (i := 5) (oi := ⟨some 18, _, _, _, _, _⟩) (v := .bool false) rfl (by kernel_rfl) (by kernel_rfl) (by kernel_rfl) (fun _ _ _ h => h) (Or.inl ⟨by rfl, ?hy171⟩) (by assumption) ?rest171
       case hy171 => (intro wq hSw; clear hSw; first | (go_simp; done) | (go_simp; with_reducible rfl) | (go_simp; simp only [Result.ok.injEq, Next.value.injEq, Value.bool.injEq, decide_eq_true_eq, decide_eq_false_iff_not, and_true]; omega))
       simp only [Act.put, List.setIfInBounds_toArray, List.set_cons_zero, List.set_cons_succ]
       refine wpAnyH_take (i := 6) (oi := ⟨some 19, _, _, _, _, _⟩) (v := ?v172) rfl (by kernel_rfl) (by kernel_rfl) (by kernel_rfl) (fun _ _ _ h => h) (Or.inl ⟨by rfl, ?hy172⟩) (by assumption) ?rest172
       case hy172 => (intro wq hSw; obtain ⟨z0, z1, z2⟩ := hSw; first | (go_simp; done) | (go_simp; with_reducible rfl) | (go_simp; rw [if_pos (by omega)]))
       simp only [Act.put, List.setIfInBounds_toArray, List.set_cons_zero, List.set_cons_succ]
       refine wpAnyH_take (i := 7) (oi := ⟨some 20, _, _, _, _, _⟩) (v := ?v173) rfl (by kernel_rfl) (by kernel_rfl) (by kernel_rfl) (fun _ _ _ h => h) (Or.inl ⟨by rfl, ?hy173⟩) (by assumption) ?rest173
       case hy173 => (intro wq hSw; obtain ⟨z0, z1, z2⟩ := hSw; first | (go_simp; done) | (go_simp; with_reducible rfl) | (go_simp; rw [if_pos (by omega)]))
       simp only [Act.put, List.setIfInBounds_toArray, List.set_cons_zero, List.set_cons_succ]
       refine wpAnyH_take (i := 8) (oi := ⟨some 21, _, _, _, _, _⟩) (v := ?v174) rfl (by kernel_rfl) (by kernel_rfl) (by kernel_rfl) (fun _ _ _ h => h) (Or.inl ⟨by rfl, ?hy174⟩) (by assumption) ?rest174
       case hy174 => (intro wq hSw; obtain ⟨z0, z1, z2⟩ := hSw; first | (go_simp; done) | (go_simp; with_reducible rfl) | (go_simp; rw [if_pos (by omega)]))
       simp only [Act.put, List.setIfInBounds_toArray, List.set_cons_zero, List.set_cons_succ]
       refine wpAnyH_take (i := 9) (oi := ⟨some 22, _, _, _, _, _⟩) (v := ?v175) rfl (by kernel_rfl) (by kernel_rfl) (by kernel_rfl) (fun _ _ _ h => h) (Or.inl ⟨by rfl, ?hy175⟩) (by assumption) ?rest175
       case hy175 => (intro wq hSw; obtain ⟨z0, z1, z2⟩ := hSw; first | (go_simp; done) | (go_simp; with_reducible rfl) | (go_simp; rw [if_pos (by omega)]))
       simp only [Act.put, List.setIfInBounds_toArray, List.set_cons_zero, List.set_cons_succ]
       refine wpAnyH_take (i := 10) (oi := ⟨some 23, _, _, _, _, _⟩) (v := ?v176) rfl (by kernel_rfl) (by kernel_rfl) (by kernel_rfl) (fun _ _ _ h => h) (Or.inl ⟨by rfl, ?hy176⟩) (by assumption) ?rest176
       case hy176 => (intro wq hSw; obtain ⟨z0, z1, z2⟩ := hSw; first | (go_simp; done) | (go_simp; with_reducible rfl) | (go_simp; rw [if_pos (by omega)]))
       simp only [Act.put, List.setIfInBounds_toArray, List.set_cons_zero, List.set_cons_succ]
       refine wpAnyH_take (i := 11) (oi := ⟨some 24, _, _, _, _, _⟩) (v := ?v177) rfl (by kernel_rfl) (by kernel_rfl) (by kernel_rfl) (fun _ _ _ h => h) (Or.inl ⟨by rfl, ?hy177⟩) (by assumption) ?rest177
       case hy177 => (intro wq hSw; obtain ⟨z0, z1, z2⟩ := hSw; first | (go_simp; done) | (go_simp; with_reducible rfl) | (go_simp; rw [if_pos (by omega)]))
       simp only [Act.put, List.setIfInBounds_toArray, List.set_cons_zero, List.set_cons_succ]
       refine wpAnyH_take (i := 12) (oi := ⟨some 25, _, _, _, _, _⟩) (v := ?v178) rfl (by kernel_rfl) (by kernel_rfl) (by kernel_rfl) (fun _ _ _ h => h) (Or.inl ⟨by rfl, ?hy178⟩) (by assumption) ?rest178
       case hy178 => (intro wq hSw; obtain ⟨z0, z1, z2⟩ := hSw; first | (go_simp; done) | (go_simp; with_reducible rfl) | (go_simp; rw [if_pos (by omega)]))
       simp only [Act.put, List.setIfInBounds_toArray, List.set_cons_zero, List.set_cons_succ]
       refine wpAnyH_take (i := 13) (oi := ⟨some 26, _, _, _, _, _⟩) (v := .bool false) rfl (by kernel_rfl) (by kernel_rfl) (by kernel_rfl) (fun _ _ _ h => h) (Or.inl ⟨by rfl, ?hy179⟩) (by assumption) ?rest179
       case hy179 => (intro wq hSw; clear hSw; first | (go_simp; done) | (go_simp; with_reducible rfl) | (go_simp; simp only [Result.ok.injEq, Next.value.injEq, Value.bool.injEq, decide_eq_true_eq, decide_eq_false_iff_not, and_true]; omega))
       simp only [Act.put, List.setIfInBounds_toArray, List.set_cons_zero, List.set_cons_succ]
       refine wpAnyH_take (i := 14) (oi := ⟨some 27, _, _, _, _, _⟩) (v := ?v180) rfl (by kernel_rfl) (by kernel_rfl) (by kernel_rfl) (fun _ _ _ h => h) (Or.inl ⟨by rfl, ?hy180⟩) (by assumption) ?rest180
       case hy180 => (intro wq hSw; obtain ⟨z0, z1, z2⟩ := hSw; first | (go_simp; done) | (go_simp; with_reducible rfl) | (go_simp; rw [if_pos (by omega)]))
       simp only [Act.put, List.setIfInBounds_toArray, List.set_cons_zero, List.set_cons_succ]
       refine wpAnyH_take (i := 15) (oi := ⟨some 28, _, _, _, _, _⟩) (v := ?v181) rfl (by kernel_rfl) (by kernel_rfl) (by kernel_rfl) (fun _ _ _ h => h) (Or.inl ⟨by rfl, ?hy181⟩) (by assumption) ?rest181
       case hy181 => (intro wq hSw; obtain ⟨z0, z1, z2⟩ := hSw; first | (go_simp; done) | (go_simp; with_reducible rfl) | (go_simp; rw [if_pos (by omega)]))
       simp only [Act.put, List.setIfInBounds_toArray, List.set_cons_zero, List.set_cons_succ]
       refine wpAnyH_take (i := 16) (oi := ⟨some 29, _, _, _, _, _⟩) (v := ?v182) rfl (by kernel_rfl) (by kernel_rfl) (by kernel_rfl) (fun _ _ _ h => h) (Or.inl ⟨by rfl, ?hy182⟩) (by assumption) ?rest182
       case hy182 => (intro wq hSw; obtain ⟨z0, z1, z2⟩ := hSw; first | (go_simp; done) | (go_simp; with_reducible rfl) | (go_simp; rw [if_pos (by omega)]))
       simp only [Act.put, List.setIfInBounds_toArray, List.set_cons_zero, List.set_cons_succ]
       refine wpAnyH_take (i := 17) (oi := ⟨some 30, _, _, _, _, _⟩) (v := .bool true) rfl (by kernel_rfl) (by kernel_rfl) (by kernel_rfl) (fun _ _ _ h => h) (Or.inl ⟨by rfl, ?hy183⟩) (by assumption) ?rest183
       case hy183 => (intro wq hSw; clear hSw; first | (go_simp; done) | (go_simp; with_reducible rfl) | (go_simp; simp only [Result.ok.injEq, Next.value.injEq, Value.bool.injEq, decide_eq_true_eq, decide_eq_false_iff_not, and_true]; omega))
       simp only [Act.put, List.setIfInBounds_toArray, List.set_cons_zero, List.set_cons_succ]
       refine wpAnyH_take (i := 18) (oi := ⟨some 31, _, _, _, _, _⟩) (v := ?v184) rfl (by kernel_rfl) (by kernel_rfl) (by kernel_rfl) (fun _ _ _ h => h) (Or.inl ⟨by rfl, ?hy184⟩) (by assumption) ?rest184
       case hy184 => (intro wq hSw; obtain ⟨z0, z1, z2⟩ := hSw; first | (go_simp; done) | (go_simp; with_reducible rfl) | (go_simp; rw [if_pos (by omega)]))
       simp only [Act.put, List.setIfInBounds_toArray, List.set_cons_zero, List.set_cons_succ]
       refine wpAnyH_take (i := 19) (oi := ⟨some 32, _, _, _, _, _⟩) (v := ?v185) rfl (by kernel_rfl) (by kernel_rfl) (by kernel_rfl) (fun _ _ _ h => h) (Or.inl ⟨by rfl, ?hy185⟩) (by assumption) ?rest185
       case hy185 => (intro wq hSw; obtain ⟨z0, z1, z2⟩ := hSw; first | (go_simp; done) | (go_simp; with_reducible rfl) | (go_simp; rw [if_pos (by omega)]))
       simp only [Act.put, List.setIfInBounds_toArray, List.set_cons_zero, List.set_cons_succ]
       refine wpAnyH_take (i := 20) (oi := ⟨some 33, _, _, _, _, _⟩) (v := ?v186) rfl (by kernel_rfl) (by kernel_rfl) (by kernel_rfl) (fun _ _ _ h => h) (Or.inl ⟨by rfl, ?hy186⟩) (by assumption) ?rest186
       case hy186 => (intro wq hSw; obtain ⟨z0, z1, z2⟩ := hSw; first | (go_simp; done) | (go_simp; with_reducible rfl) | (go_simp; rw [if_pos (by omega)]))
       simp only [Act.put, List.setIfInBounds_toArray, List.set_cons_zero, List.set_cons_succ]
       refine wpAnyH_take (i := 21) (oi := ⟨some 34, _, _, _, _, _⟩) (v := ?v187) rfl (by kernel_rfl) (by kernel_rfl) (by kernel_rfl) (fun _ _ _ h => h) (Or.inl ⟨by rfl, ?hy187⟩) (by assumption) ?rest187
       case hy187 => (intro wq hSw; obtain ⟨z0, z1, z2⟩ := hSw; first | (go_simp; done) | (go_simp; with_reducible rfl) | (go_simp; rw [if_pos (by omega)]))
       simp only [Act.put, List.setIfInBounds_toArray, List.set_cons_zero, List.set_cons_succ]
       refine wpAnyH_take (i := 22) (oi := ⟨some 35, _, _, _, _, _⟩) (v := ?v188) rfl (by kernel_rfl) (by kernel_rfl) (by kernel_rfl) (fun _ _ _ h => h) (Or.inl ⟨by rfl, ?hy188⟩) (by assumption) ?rest188
       case hy188 => (intro wq hSw; obtain ⟨z0, z1, z2⟩ := hSw; first | (go_simp; done) | (go_simp; with_reducible rfl) | (go_simp; rw [if_pos (by omega)]))
       simp only [Act.put, List.setIfInBounds_toArray, List.set_cons_zero, List.set_cons_succ]
       refine wpAnyH_take (i := 23) (oi := ⟨some 36, _, _, _, _, _⟩) (v := ?v189) rfl (by kernel_rfl) (by kernel_rfl) (by kernel_rfl) (fun _ _ _ h => h) (Or.inl ⟨by rfl, ?hy189⟩) (by assumption) ?rest189
       case hy189 => (intro wq hSw; obtain ⟨z0, z1, z2⟩ := hSw; first | (go_simp; done) | (go_simp; with_reducible rfl) | (go_simp; rw [if_pos (by omega)]))
       simp only [Act.put, List.setIfInBounds_toArray, List.set_cons_zero, List.set_cons_succ]
       refine wpAnyH_take (i := 24) (oi := ⟨some 37, _, _, _, _, _⟩) (v := ?v190) rfl (by kernel_rfl) (by kernel_rfl) (by kernel_rfl) (fun _ _ _ h => h) (Or.inl ⟨by rfl, ?hy190⟩) (by assumption) ?rest190
       case hy190 => (intro wq hSw; obtain ⟨z0, z1, z2⟩ := hSw; first | (go_simp; done) | (go_simp; with_reducible rfl) | (go_simp; rw [if_pos (by omega)]))
       simp only [Act.put, List.setIfInBounds_toArray, List.set_cons_zero, List.set_cons_succ]
       refine wpAnyH_take (i := 25) (oi := ⟨some 38, _, _, _, _, _⟩) (v := ?v191) rfl (by kernel_rfl) (by kernel_rfl) (by kernel_rfl) (fun _ _ _ h => h) (Or.inl ⟨by rfl, ?hy191⟩) (by assumption) ?rest191
       case hy191 => (intro wq hSw; obtain ⟨z0, z1, z2⟩ := hSw; first | (go_simp; done) | (go_simp; with_reducible rfl) | (go_simp; rw [if_pos (by omega)]))
       simp only [Act.put, List.setIfInBounds_toArray, List.set_cons_zero, List.set_cons_succ]
       refine wpAnyH_take (i := 26) (oi := ⟨some 39, _, _, _, _, _⟩) (v := ?v192) rfl (by kernel_rfl) (by kernel_rfl) (by kernel_rfl) (fun _ _ _ h => h) (Or.inl ⟨by rfl, ?hy192⟩) (by assumption) ?rest192
       case hy192 => (intro wq hSw; obtain ⟨z0, z1, z2⟩ := hSw; first | (go_simp; done) | (go_simp; with_reducible rfl) | (go_simp; rw [if_pos (by omega)]))
       simp only [Act.put, List.setIfInBounds_toArray, List.set_cons_zero, List.set_cons_succ]
       refine wpAnyH_take (i := 27) (oi := ⟨some 40, _, _, _, _, _⟩) (v := ?v193) rfl (by kernel_rfl) (by kernel_rfl) (by kernel_rfl) (fun _ _ _ h => h) (Or.inl ⟨by rfl, ?hy193⟩) (by assumption) ?rest193
       case hy193 => (intro wq hSw; obtain ⟨z0, z1, z2⟩ := hSw; first | (go_simp; done) | (go_simp; with_reducible rfl) | (go_simp; rw [if_pos (by omega)]))
       simp only [Act.put, List.setIfInBounds_toArray, List.set_cons_zero, List.set_cons_succ]
       refine wpAnyH_take (i := 28) (oi := ⟨some 41, _, _, _, _, _⟩) (v := ?v194) rfl (by kernel_rfl) (by kernel_rfl) (by kernel_rfl) (fun _ _ _ h => h) (Or.inl ⟨by rfl, ?hy194⟩) (by assumption) ?rest194
       case hy194 => (intro wq hSw; obtain ⟨z0, z1, z2⟩ := hSw; first | (go_simp; done) | (go_simp; with_reducible rfl) | (go_simp; rw [if_pos (by omega)]))
       simp only [Act.put, List.setIfInBounds_toArray, List.set_cons_zero, List.set_cons_succ]
       refine wpAnyH_take (i := 29) (oi := ⟨some 42, _, _, _, _, _⟩) (v := ?v195) rfl (by kernel_rfl) (by kernel_rfl) (by kernel_rfl) (fun _ _ _ h => h) (Or.inl ⟨by rfl, ?hy195⟩) (by assumption) ?rest195
       case hy195 => (intro wq hSw; obtain ⟨z0, z1, z2⟩ := hSw; first | (go_simp; done) | (go_simp; with_reducible rfl) | (go_simp; rw [if_pos (by omega)]))
       simp only [Act.put, List.setIfInBounds_toArray, List.set_cons_zero, List.set_cons_succ]
       refine wpAnyH_take (i := 30) (oi := ⟨some 43, _, _, _, _, _⟩) (v := .bool true) rfl (by kernel_rfl) (by kernel_rfl) (by kernel_rfl) (fun _ _ _ h => h) (Or.inl ⟨by rfl, ?hy196⟩) (by assumption) ?rest196
       case hy196 => (intro wq hSw; clear hSw; first | (go_simp; done) | (go_simp; with_reducible rfl) | (go_simp; simp only [Result.ok.injEq, Next.value.injEq, Value.bool.injEq, decide_eq_true_eq, decide_eq_false_iff_not, and_true]; omega))
       simp only [Act.put, List.setIfInBounds_toArray, List.set_cons_zero, List.set_cons_succ]
       refine wpAnyH_take (i := 31) (oi := ⟨some 44, _, _, _, _, _⟩) (v := ?v197) rfl (by kernel_rfl) (by kernel_rfl) (by kernel_rfl) (fun _ _ _ h => h) (Or.inl ⟨by rfl, ?hy197⟩) (by assumption) ?rest197
       case hy197 => (intro wq hSw; obtain ⟨z0, z1, z2⟩ := hSw; first | (go_simp; done) | (go_simp; with_reducible rfl) | (go_simp; rw [if_pos (by omega)]))
       simp only [Act.put, List.setIfInBounds_toArray, List.set_cons_zero, List.set_cons_succ]
       refine wpAnyH_take (i := 32) (oi := ⟨some 45, _, _, _, _, _⟩) (v := ?v198) rfl (by kernel_rfl) (by kernel_rfl) (by kernel_rfl) (fun _ _ _ h => h) (Or.inl ⟨by rfl, ?hy198⟩) (by assumption) ?rest198
       case hy198 => (intro wq hSw; obtain ⟨z0, z1, z2⟩ := hSw; first | (go_simp; done) | (go_simp; with_reducible rfl) | (go_simp; rw [if_pos (by omega)]))
       simp only [Act.put, List.setIfInBounds_toArray, List.set_cons_zero, List.set_cons_succ]
       refine wpAnyH_done (by kernel_rfl) ?_ _
       (try dsimp only)
       go_wp2
       go_ret
       exact ⟨by rw [HF.out]; rfl, hD ▸ HB.out _ HBd.out⟩
      ·
       clear hok
       go_wp2
       refine wp_region_held_drew (S := fun Z => Z.cell? ⟨D, 1, none⟩ = some (.slice (some ⟨b, off, none⟩) ns.length nc) ∧ Z.cell? ⟨b, off + (j + 1), none⟩ = some (.int .i64 x) ∧ Z.cell? ⟨b, off + j, none⟩ = some (.int .i64 y)) (by kernel_rfl) (by exact ⟨k1, c0, c1⟩) (fun hHeld => ?_)
       refine wpAnyH_take (i := 0) (oi := ⟨some 13, _, _, _, _, _⟩) (v := ?v133) rfl (by kernel_rfl) (by kernel_rfl) (by kernel_rfl) (fun _ _ _ h => h) (Or.inl ⟨by rfl, ?hy133⟩) (by assumption) ?rest133
       case hy133 => (intro wq hSw; obtain ⟨z0, z1, z2⟩ := hSw; first | (go_simp; done) | (go_simp; with_reducible rfl) | (go_simp; rw [if_pos (by omega)]))
       simp only [Act.put, List.setIfInBounds_toArray, List.set_cons_zero, List.set_cons_succ]
       refine wpAnyH_take (i := 1) (oi := ⟨some 14, _, _, _, _, _⟩) (v := ?v134) rfl (by kernel_rfl) (by kernel_rfl) (by kernel_rfl) (fun _ _ _ h => h) (Or.inl ⟨by rfl, ?hy134⟩) (by assumption) ?rest134
       case hy134 => (intro wq hSw; obtain ⟨z0, z1, z2⟩ := hSw; first | (go_simp; done) | (go_simp; with_reducible rfl) | (go_simp; rw [if_pos (by omega)]))
       simp only [Act.put, List.setIfInBounds_toArray, List.set_cons_zero, List.set_cons_succ]
       refine wpAnyH_take (i := 2) (oi := ⟨some 15, _, _, _, _, _⟩) (v := ?v135) rfl (by kernel_rfl) (by kernel_rfl) (by kernel_rfl) (fun _ _ _ h => h) (Or.inl ⟨by rfl, ?hy135⟩) (by assumption) ?rest135
       case hy135 => (intro wq hSw; obtain ⟨z0, z1, z2⟩ := hSw; first | (go_simp; done) | (go_simp; with_reducible rfl) | (go_simp; rw [if_pos (by omega)]))
       simp only [Act.put, List.setIfInBounds_toArray, List.set_cons_zero, List.set_cons_succ]
       refine wpAnyH_take (i := 3) (oi := ⟨some 16, _, _, _, _, _⟩) (v := ?v136) rfl (by kernel_rfl) (by kernel_rfl) (by kernel_rfl) (fun _ _ _ h => h) (Or.inl ⟨by rfl, ?hy136⟩) (by assumption) ?rest136
       case hy136 => (intro wq hSw; obtain ⟨z0, z1, z2⟩ := hSw; first | (go_simp; done) | (go_simp; with_reducible rfl) | (go_simp; rw [if_pos (by omega)]))
       simp only [Act.put, List.setIfInBounds_toArray, List.set_cons_zero, List.set_cons_succ]
       refine wpAnyH_take (i := 4) (oi := ⟨some 17, _, _, _, _, _⟩) (v := ?v137) rfl (by kernel_rfl) (by kernel_rfl) (by kernel_rfl) (fun _ _ _ h => h) (Or.inl ⟨by rfl, ?hy137⟩) (by assumption) ?rest137
       case hy137 => (intro wq hSw; obtain ⟨z0, z1, z2⟩ := hSw; first | (go_simp; done) | (go_simp; with_reducible rfl) | (go_simp; rw [if_pos (by omega)]))
       simp only [Act.put, List.setIfInBounds_toArray, List.set_cons_zero, List.set_cons_succ]
       refine wpAnyH_take (i := 5) (oi := ⟨some 18, _, _, _, _, _⟩) (v := .bool false) rfl (by kernel_rfl) (by kernel_rfl) (by kernel_rfl) (fun _ _ _ h => h) (Or.inl ⟨by rfl, ?hy138⟩) (by assumption) ?rest138
       case hy138 => (intro wq hSw; clear hSw; first | (go_simp; done) | (go_simp; with_reducible rfl) | (go_simp; simp only [Result.ok.injEq, Next.value.injEq, Value.bool.injEq, decide_eq_true_eq, decide_eq_false_iff_not, and_true]; omega))
       simp only [Act.put, List.setIfInBounds_toArray, List.set_cons_zero, List.set_cons_succ]
       refine wpAnyH_take (i := 6) (oi := ⟨some 19, _, _, _, _, _⟩) (v := ?v139) rfl (by kernel_rfl) (by kernel_rfl) (by kernel_rfl) (fun _ _ _ h => h) (Or.inl ⟨by rfl, ?hy139⟩) (by assumption) ?rest139
       case hy139 => (intro wq hSw; obtain ⟨z0, z1, z2⟩ := hSw; first | (go_simp; done) | (go_simp; with_reducible rfl) | (go_simp; rw [if_pos (by omega)]))
       simp only [Act.put, List.setIfInBounds_toArray, List.set_cons_zero, List.set_cons_succ]
       refine wpAnyH_take (i := 7) (oi := ⟨some 20, _, _, _, _, _⟩) (v := ?v140) rfl (by kernel_rfl) (by kernel_rfl) (by kernel_rfl) (fun _ _ _ h => h) (Or.inl ⟨by rfl, ?hy140⟩) (by assumption) ?rest140
       case hy140 => (intro wq hSw; obtain ⟨z0, z1, z2⟩ := hSw; first | (go_simp; done) | (go_simp; with_reducible rfl) | (go_simp; rw [if_pos (by omega)]))
       simp only [Act.put, List.setIfInBounds_toArray, List.set_cons_zero, List.set_cons_succ]
       refine wpAnyH_take (i := 8) (oi := ⟨some 21, _, _, _, _, _⟩) (v := ?v141) rfl (by kernel_rfl) (by kernel_rfl) (by kernel_rfl) (fun _ _ _ h => h) (Or.inl ⟨by rfl, ?hy141⟩) (by assumption) ?rest141
       case hy141 => (intro wq hSw; obtain ⟨z0, z1, z2⟩ := hSw; first | (go_simp; done) | (go_simp; with_reducible rfl) | (go_simp; rw [if_pos (by omega)]))
       simp only [Act.put, List.setIfInBounds_toArray, List.set_cons_zero, List.set_cons_succ]
       refine wpAnyH_take (i := 9) (oi := ⟨some 22, _, _, _, _, _⟩) (v := ?v142) rfl (by kernel_rfl) (by kernel_rfl) (by kernel_rfl) (fun _ _ _ h => h) (Or.inl ⟨by rfl, ?hy142⟩) (by assumption) ?rest142
       case hy142 => (intro wq hSw; obtain ⟨z0, z1, z2⟩ := hSw; first | (go_simp; done) | (go_simp; with_reducible rfl) | (go_simp; rw [if_pos (by omega)]))
       simp only [Act.put, List.setIfInBounds_toArray, List.set_cons_zero, List.set_cons_succ]
       refine wpAnyH_take (i := 10) (oi := ⟨some 23, _, _, _, _, _⟩) (v := ?v143) rfl (by kernel_rfl) (by kernel_rfl) (by kernel_rfl) (fun _ _ _ h => h) (Or.inl ⟨by rfl, ?hy143⟩) (by assumption) ?rest143
       case hy143 => (intro wq hSw; obtain ⟨z0, z1, z2⟩ := hSw; first | (go_simp; done) | (go_simp; with_reducible rfl) | (go_simp; rw [if_pos (by omega)]))
       simp only [Act.put, List.setIfInBounds_toArray, List.set_cons_zero, List.set_cons_succ]
       refine wpAnyH_take (i := 11) (oi := ⟨some 24, _, _, _, _, _⟩) (v := ?v144) rfl (by kernel_rfl) (by kernel_rfl) (by kernel_rfl) (fun _ _ _ h => h) (Or.inl ⟨by rfl, ?hy144⟩) (by assumption) ?rest144
       case hy144 => (intro wq hSw; obtain ⟨z0, z1, z2⟩ := hSw; first | (go_simp; done) | (go_simp; with_reducible rfl) | (go_simp; rw [if_pos (by omega)]))
       simp only [Act.put, List.setIfInBounds_toArray, List.set_cons_zero, List.set_cons_succ]
       refine wpAnyH_take (i := 12) (oi := ⟨some 25, _, _, _, _, _⟩) (v := ?v145) rfl (by kernel_rfl) (by kernel_rfl) (by kernel_rfl) (fun _ _ _ h => h) (Or.inl ⟨by rfl, ?hy145⟩) (by assumption) ?rest145
       case hy145 => (intro wq hSw; obtain ⟨z0, z1, z2⟩ := hSw; first | (go_simp; done) | (go_simp; with_reducible rfl) | (go_simp; rw [if_pos (by omega)]))
       simp only [Act.put, List.setIfInBounds_toArray, List.set_cons_zero, List.set_cons_succ]
       refine wpAnyH_take (i := 13) (oi := ⟨some 26, _, _, _, _, _⟩) (v := .bool true) rfl (by kernel_rfl) (by kernel_rfl) (by kernel_rfl) (fun _ _ _ h => h) (Or.inl ⟨by rfl, ?hy146⟩) (by assumption) ?rest146
       case hy146 => (intro wq hSw; clear hSw; first | (go_simp; done) | (go_simp; with_reducible rfl) | (go_simp; simp only [Result.ok.injEq, Next.value.injEq, Value.bool.injEq, decide_eq_true_eq, decide_eq_false_iff_not, and_true]; omega))
       simp only [Act.put, List.setIfInBounds_toArray, List.set_cons_zero, List.set_cons_succ]
       refine wpAnyH_take (i := 14) (oi := ⟨some 27, _, _, _, _, _⟩) (v := ?v147) rfl (by kernel_rfl) (by kernel_rfl) (by kernel_rfl) (fun _ _ _ h => h) (Or.inl ⟨by rfl, ?hy147⟩) (by assumption) ?rest147
       case hy147 => (intro wq hSw; obtain ⟨z0, z1, z2⟩ := hSw; first | (go_simp; done) | (go_simp; with_reducible rfl) | (go_simp; rw [if_pos (by omega)]))
       simp only [Act.put, List.setIfInBounds_toArray, List.set_cons_zero, List.set_cons_succ]
       refine wpAnyH_take (i := 15) (oi := ⟨some 28, _, _, _, _, _⟩) (v := ?v148) rfl (by kernel_rfl) (by kernel_rfl) (by kernel_rfl) (fun _ _ _ h => h) (Or.inl ⟨by rfl, ?hy148⟩) (by assumption) ?rest148
       case hy148 => (intro wq hSw; obtain ⟨z0, z1, z2⟩ := hSw; first | (go_simp; done) | (go_simp; with_reducible rfl) | (go_simp; rw [if_pos (by omega)]))
       simp only [Act.put, List.setIfInBounds_toArray, List.set_cons_zero, List.set_cons_succ]
       refine wpAnyH_take (i := 16) (oi := ⟨some 29, _, _, _, _, _⟩) (v := undef) rfl (by kernel_rfl) (by kernel_rfl) (by kernel_rfl) (fun _ _ _ h => h) (Or.inr ⟨by rfl, rfl⟩) (by assumption) ?_
       simp only [Act.put, List.setIfInBounds_toArray, List.set_cons_zero, List.set_cons_succ]
       refine wpAnyH_take (i := 17) (oi := ⟨some 30, _, _, _, _, _⟩) (v := undef) rfl (by kernel_rfl) (by kernel_rfl) (by kernel_rfl) (fun _ _ _ h => h) (Or.inr ⟨by rfl, rfl⟩) (by assumption) ?_
       simp only [Act.put, List.setIfInBounds_toArray, List.set_cons_zero, List.set_cons_succ]
       refine wpAnyH_take (i := 18) (oi := ⟨some 31, _, _, _, _, _⟩) (v := undef) rfl (by kernel_rfl) (by kernel_rfl) (by kernel_rfl) (fun _ _ _ h => h) (Or.inr ⟨by rfl, rfl⟩) (by assumption) ?_
       simp only [Act.put, List.setIfInBounds_toArray, List.set_cons_zero, List.set_cons_succ]
       refine wpAnyH_take (i := 19) (oi := ⟨some 32, _, _, _, _, _⟩) (v := undef) rfl (by kernel_rfl) (by kernel_rfl) (by kernel_rfl) (fun _ _ _ h => h) (Or.inr ⟨by rfl, rfl⟩) (by assumption) ?_
       simp only [Act.put, List.setIfInBounds_toArray, List.set_cons_zero, List.set_cons_succ]
       refine wpAnyH_take (i := 20) (oi := ⟨some 33, _, _, _, _, _⟩) (v := undef) rfl (by kernel_rfl) (by kernel_rfl) (by kernel_rfl) (fun _ _ _ h => h) (Or.inr ⟨by rfl, rfl⟩) (by assumption) ?_
       simp only [Act.put, List.setIfInBounds_toArray, List.set_cons_zero, List.set_cons_succ]
       refine wpAnyH_take (i := 21) (oi := ⟨some 34, _, _, _, _, _⟩) (v := undef) rfl (by kernel_rfl) (by kernel_rfl) (by kernel_rfl) (fun _ _ _ h => h) (Or.inr ⟨by rfl, rfl⟩) (by assumption) ?_
       simp only [Act.put, List.setIfInBounds_toArray, List.set_cons_zero, List.set_cons_succ]
       refine wpAnyH_take (i := 22) (oi := ⟨some 35, _, _, _, _, _⟩) (v := undef) rfl (by kernel_rfl) (by kernel_rfl) (by kernel_rfl) (fun _ _ _ h => h) (Or.inr ⟨by rfl, rfl⟩) (by assumption) ?_
       simp only [Act.put, List.setIfInBounds_toArray, List.set_cons_zero, List.set_cons_succ]
       refine wpAnyH_take (i := 23) (oi := ⟨some 36, _, _, _, _, _⟩) (v := undef) rfl (by kernel_rfl) (by kernel_rfl) (by kernel_rfl) (fun _ _ _ h => h) (Or.inr ⟨by rfl, rfl⟩) (by assumption) ?_
       simp only [Act.put, List.setIfInBounds_toArray, List.set_cons_zero, List.set_cons_succ]
       refine wpAnyH_take (i := 24) (oi := ⟨some 37, _, _, _, _, _⟩) (v := undef) rfl (by kernel_rfl) (by kernel_rfl) (by kernel_rfl) (fun _ _ _ h => h) (Or.inr ⟨by rfl, rfl⟩) (by assumption) ?_
       simp only [Act.put, List.setIfInBounds_toArray, List.set_cons_zero, List.set_cons_succ]
       refine wpAnyH_take (i := 25) (oi := ⟨some 38, _, _, _, _, _⟩) (v := undef) rfl (by kernel_rfl) (by kernel_rfl) (by kernel_rfl) (fun _ _ _ h => h) (Or.inr ⟨by rfl, rfl⟩) (by assumption) ?_
       simp only [Act.put, List.setIfInBounds_toArray, List.set_cons_zero, List.set_cons_succ]
       refine wpAnyH_take (i := 26) (oi := ⟨some 39, _, _, _, _, _⟩) (v := undef) rfl (by kernel_rfl) (by kernel_rfl) (by kernel_rfl) (fun _ _ _ h => h) (Or.inr ⟨by rfl, rfl⟩) (by assumption) ?_
       simp only [Act.put, List.setIfInBounds_toArray, List.set_cons_zero, List.set_cons_succ]
       refine wpAnyH_take (i := 27) (oi := ⟨some 40, _, _, _, _, _⟩) (v := undef) rfl (by kernel_rfl) (by kernel_rfl) (by kernel_rfl) (fun _ _ _ h => h) (Or.inr ⟨by rfl, rfl⟩) (by assumption) ?_
       simp only [Act.put, List.setIfInBounds_toArray, List.set_cons_zero, List.set_cons_succ]
       refine wpAnyH_take (i := 28) (oi := ⟨some 41, _, _, _, _, _⟩) (v := undef) rfl (by kernel_rfl) (by kernel_rfl) (by kernel_rfl) (fun _ _ _ h => h) (Or.inr ⟨by rfl, rfl⟩) (by assumption) ?_
       simp only [Act.put, List.setIfInBounds_toArray, List.set_cons_zero, List.set_cons_succ]
       refine wpAnyH_take (i := 29) (oi := ⟨some 42, _, _, _, _, _⟩) (v := undef) rfl (by kernel_rfl) (by kernel_rfl) (by kernel_rfl) (fun _ _ _ h => h) (Or.inr ⟨by rfl, rfl⟩) (by assumption) ?_
       simp only [Act.put, List.setIfInBounds_toArray, List.set_cons_zero, List.set_cons_succ]
       refine wpAnyH_take (i := 30) (oi := ⟨some 43, _, _, _, _, _⟩) (v := undef) rfl (by kernel_rfl) (by kernel_rfl) (by kernel_rfl) (fun _ _ _ h => h) (Or.inr ⟨by rfl, rfl⟩) (by assumption) ?_
       simp only [Act.put, List.setIfInBounds_toArray, List.set_cons_zero, List.set_cons_succ]
       refine wpAnyH_take (i := 31) (oi := ⟨some 44, _, _, _, _, _⟩) (v := undef) rfl (by kernel_rfl) (by kernel_rfl) (by kernel_rfl) (fun _ _ _ h => h) (Or.inr ⟨by rfl, rfl⟩) (by assumption) ?_
       simp only [Act.put, List.setIfInBounds_toArray, List.set_cons_zero, List.set_cons_succ]
       refine wpAnyH_take (i := 32) (oi := ⟨some 45, _, _, _, _, _⟩) (v := ?v165) rfl (by kernel_rfl) (by kernel_rfl) (by kernel_rfl) (fun _ _ _ h => h) (Or.inl ⟨by rfl, ?hy165⟩) (by assumption) ?rest165
       case hy165 => (intro wq hSw; obtain ⟨z0, z1, z2⟩ := hSw; first | (go_simp; done) | (go_simp; with_reducible rfl) | (go_simp; rw [if_pos (by omega)]))
       simp only [Act.put, List.setIfInBounds_toArray, List.set_cons_zero, List.set_cons_succ]
       refine wpAnyH_done (by kernel_rfl) ?_ _
       (try dsimp only)
       go_wp2
       go_ret
       exact ⟨by rw [HF.out]; rfl, hD ▸ HB.out _ HBd.out⟩
  ·
   have HR : Hid (needsB own ns = true) := needsB_yes (fun q hq => HA.out q (by omega))
   have HT : Hid (taskB own (nm, ns, st, wk, un, ke) = stateB (nm, ns, st, wk, un, ke)) := by
    show (needsB own ns && stateB (nm, ns, st, wk, un, ke)) = _
    rw [HR.out]
    rfl
   have hT := HT.out
   clear HA HR HT HI HIr HC
   unfold stateB at hT
   simp only at hT
   by_cases h0 : st = 0
   ·
    rw [if_pos h0] at hT
    subst h0
    by_cases h3 : wk = 0
    ·
     by_cases h4 : un = 0
     ·
      by_cases h5 : ke = 0
      ·
       have HF : Hid (taskB own (nm, ns, 0, wk, un, ke) = true) := by rw [hT]; exact decide_eq_true ⟨h3, h4, h5⟩
       clear hT
       subst h3 h4 h5
       go_wp2
       go_ret
       exact ⟨by rw [HF.out]; rfl, hD ▸ HB.out _ HBr.out⟩
      ·
       have HF : Hid (taskB own (nm, ns, 0, wk, un, ke) = false) := by rw [hT]; exact decide_eq_false (fun e => h5 e.2.2)
       clear hT
       subst h3 h4
       go_wp2
       go_ret
       exact ⟨(congrArg (fun b => Ending.returned (Value.bool b)) (decide_eq_false h5)).trans (by rw [HF.out]), hD ▸ HB.out _ HBr.out⟩
     ·
      have HF : Hid (taskB own (nm, ns, 0, wk, un, ke) = false) := by rw [hT]; exact decide_eq_false (fun e => h4 e.2.1)
      clear hT
      subst h3
      go_wp2
      go_ret
      exact ⟨by rw [HF.out]; rfl, hD ▸ HB.out _ HBr.out⟩
    ·
     have HF : Hid (taskB own (nm, ns, 0, wk, un, ke) = false) := by rw [hT]; exact decide_eq_false (fun e => h3 e.1)
     clear hT
     go_wp2
     go_ret
     exact ⟨by rw [HF.out]; rfl, hD ▸ HB.out _ HBr.out⟩
   ·
    rw [if_neg h0] at hT
    by_cases h1 : st = 1
    ·
     rw [if_pos h1] at hT
     subst h1
     have HWr : Hid (_) := HW.out wr
     have HUr : Hid (_) := HU.out wr
     generalize inB wk 0 3 = b3 at hT HWr
     generalize inB un 0 1000000 = b4 at hT HUr
     clear HW HU HK
     rcases b3 with _ | _
     ·
      have HF : Hid (taskB own (nm, ns, 1, wk, un, ke) = false) := hT
      go_wp2_with (go_at_call 36; refine Calls.mono HWr.out ?_; rintro e w1 ⟨rfl, rfl⟩)
      go_ret
      exact ⟨by rw [HF.out]; rfl, hD ▸ HB.out _ HBr.out⟩
     ·
      rcases b4 with _ | _
      ·
       have HF : Hid (taskB own (nm, ns, 1, wk, un, ke) = false) := hT
       go_wp2_with (first | (go_at_call 36; refine Calls.mono HWr.out ?_; rintro e w1 ⟨rfl, rfl⟩) | (go_at_call 37; refine Calls.mono HUr.out ?_; rintro e w1 ⟨rfl, rfl⟩))
       go_ret
       exact ⟨by rw [HF.out]; rfl, hD ▸ HB.out _ HBr.out⟩
      ·
       by_cases h5 : ke = 0
       ·
        have HF : Hid (taskB own (nm, ns, 1, wk, un, ke) = true) := by rw [hT, decide_eq_true h5]; rfl
        clear hT
        subst h5
        go_wp2_with (first | (go_at_call 36; refine Calls.mono HWr.out ?_; rintro e w1 ⟨rfl, rfl⟩) | (go_at_call 37; refine Calls.mono HUr.out ?_; rintro e w1 ⟨rfl, rfl⟩))
        go_ret
        exact ⟨by rw [HF.out]; rfl, hD ▸ HB.out _ HBr.out⟩
       ·
        have HF : Hid (taskB own (nm, ns, 1, wk, un, ke) = false) := by rw [hT, decide_eq_false h5]; rfl
        clear hT
        go_wp2_with (first | (go_at_call 36; refine Calls.mono HWr.out ?_; rintro e w1 ⟨rfl, rfl⟩) | (go_at_call 37; refine Calls.mono HUr.out ?_; rintro e w1 ⟨rfl, rfl⟩))
        go_ret
        exact ⟨(congrArg (fun b => Ending.returned (Value.bool b)) (decide_eq_false h5)).trans (by rw [HF.out]), hD ▸ HB.out _ HBr.out⟩
    ·
     rw [if_neg h1] at hT
     by_cases h2 : st = 2
     ·
      rw [if_pos h2] at hT
      subst h2
      have HKr : Hid (_) := HK.out wr
      generalize key18 ke = b5 at hT HKr
      clear HW HU HK
      by_cases h3 : wk = 0
      ·
       by_cases h4 : un = 0
       ·
        have HF : Hid (taskB own (nm, ns, 2, wk, un, ke) = b5) := by rw [hT, decide_eq_true ⟨h3, h4⟩]; rfl
        clear hT
        subst h3 h4
        go_wp2_with (go_at_call 56; refine Calls.mono HKr.out ?_; rintro e w1 ⟨rfl, rfl⟩)
        go_ret
        exact ⟨by rw [HF.out]; rfl, hD ▸ HB.out _ HBr.out⟩
       ·
        have HF : Hid (taskB own (nm, ns, 2, wk, un, ke) = false) := by rw [hT, decide_eq_false (fun e => h4 e.2)]; rfl
        clear hT
        subst h3
        go_wp2
        go_ret
        exact ⟨by rw [HF.out]; rfl, hD ▸ HB.out _ HBr.out⟩
      ·
       have HF : Hid (taskB own (nm, ns, 2, wk, un, ke) = false) := by rw [hT, decide_eq_false (fun e => h3 e.1)]; rfl
       clear hT
       go_wp2
       go_ret
       exact ⟨by rw [HF.out]; rfl, hD ▸ HB.out _ HBr.out⟩
     ·
      rw [if_neg h2] at hT
      have HF : Hid (taskB own (nm, ns, st, wk, un, ke) = false) := hT
      clear hT
      go_wp2
      go_ret
      exact ⟨by rw [HF.out]; rfl, hD ▸ HB.out _ HBr.out⟩

end Go.Proofs.Ytaioedcaopbgkaa
