/-
  The contracts of chapter 6's landed code: what a shape is written as.
-/
import Derived.Test.YtjkfjenhocaljaaDoorTreeI3
import Derived.Test.YtjkfjenhocaljaaDoorShelf
import Derived.Lib.AppendIntMem
import Derived.Lib.SmallJoins
import Derived.Lib.LaidTab
import Derived.Deep.RegionHeld3
namespace Go.Proofs.YtjkfjenhocaljaaDoor
open Go.RowKit

/-- The library's table of powers of ten lies as its text lays it. -/
def PowIs (w : World) : Prop := Lib.TabIs Tryd.prog w "internal/strconv.uint64pow10" .u64 Lib.pow10Tab
theorem powAt : (Tryd.prog.globalNamed "internal/strconv.uint64pow10").isSome = true := by kernel_rfl
theorem powTy : (Tryd.prog.globalNamed "internal/strconv.uint64pow10").bind (fun g => (Tryd.prog.globals[g]?).map (·.type)) = some 121 := by kernel_rfl
/-- A listed variable that reads as the table holds it. -/
theorem pow_of_cells {W : World} {g : Nat} {t : TypeId} {cs : Array Value} {fuel : Nat} {p : List MemPlace} (hg : Tryd.prog.globalNamed "internal/strconv.uint64pow10" = some g) (ht : (Tryd.prog.globals[g]?).map (·.type) = some t)
    (hv : W.var? Tryd.prog "internal/strconv.uint64pow10" = some cs) (hd : DataW.trod (fun _ => ()) Tryd.prog W 0 (fun _ => true) false fuel t cs.toList = some (Lib.tabData .u64 Lib.pow10Tab, p)) : PowIs W := by
  have h1 := powTy
  rw [hg, Option.bind_some, ht] at h1
  obtain rfl := Option.some.inj h1
  unfold PowIs Lib.TabIs
  rw [hv, ← Lib.cells_of_tab Tryd.underlying121 Tryd.underlying110 (by kernel_rfl) (by kernel_rfl) hd]
theorem PowIs.below {w w' : World} (h : PowIs w) (hb : Below w.heap.size w w') : PowIs w' := by
  obtain ⟨g, hg⟩ := Option.isSome_iff_exists.1 powAt
  exact Go.Joins.tab_stays hg h hb (Nat.le_refl _)
theorem PowIs.drew {w : World} (h : PowIs w) : PowIs w.drew := h

theorem fmtInt (n : Int) (w : World) (ht : PowIs w) (h0 : -2147483648 ≤ n) (h1 : n ≤ 2147483647) :
    Calls Tryd.prog 53 #[.int .i64 n, .int .i64 10] w fun e w' => e = .returned (.string ⟨(intL n).toArray⟩) ∧ Below w.heap.size w w' := by
  refine (Tryd.strconv_FormatInt_10 n (by omega) (by omega) w ht).mono ?_
  rintro e w' ⟨rfl, k, os, rfl⟩
  exact ⟨by rw [itoa_int], Lib.below_grow _ w (Nat.le_refl _) k os⟩

set_option maxHeartbeats 2000000 in
set_option maxRecDepth 100000 in
theorem implWordOf (n : Nd) (w : World) (ht : PowIs w) (hn : nodeB n = true) :
    Calls Tryd.prog 27 #[shVal (shOf n)] w fun e w' => e = .returned (.string ⟨(showN n).toArray⟩) ∧ Below w.heap.size w w' := by
  obtain ⟨k, a, p, f⟩ := n
  have hcat := cat_list
  have hp := nodeB_iff.1 hn
  unfold nodeP at hp
  simp only at hp
  rcases hp with ⟨rfl, ⟨h0, h1⟩, rfl, rfl⟩ | ⟨rfl, ⟨h0, h1⟩, rfl, rfl⟩ | ⟨hk, rfl, rfl, rfl⟩ | ⟨rfl, ⟨h0, h1⟩, hpn, hfn⟩
  · have hs : showN (1, a, [], []) = intL a := by unfold showN; simp
    have hv : shVal (shOf (1, a, [], [])) = .iface 73 (.agg #[.int .i64 a]) := rfl
    rw [hs, hv]
    have ht2 : Hid (PowIs (w.alloc (.cells #[.int .i64 a] 73))) := ht.below ((Below.refl _ w).alloc (Nat.le_refl _) _)
    have q0 := as_num_num; have q1 := as_num_arg; have q2 := as_num_pair; have q3 := as_num_cond; have q4 := as_num_call
    clear hs hn hv ht
    go_enter Tryd.func27, Tryd.ntmps27
    go_wp2_with fail
    refine (fmtInt a _ ht2.out (by omega) (by omega)).mono ?_
    rintro e w1 ⟨rfl, hb1⟩
    go_wp2
    go_ret
    exact ⟨rfl, below_boxed hb1⟩
  · have hs : showN (2, a, [], []) = 36 :: intL a := by unfold showN; simp
    have hv : shVal (shOf (2, a, [], [])) = .iface 76 (.agg #[.int .i64 a]) := rfl
    rw [hs, hv]
    have ht2 : Hid (PowIs (w.alloc (.cells #[.int .i64 a] 76))) := ht.below ((Below.refl _ w).alloc (Nat.le_refl _) _)
    have q0 := as_arg_num; have q1 := as_arg_arg; have q2 := as_arg_pair; have q3 := as_arg_cond; have q4 := as_arg_call
    have hl := intL_short a (by omega) (by omega)
    clear hs hn hv ht
    go_enter Tryd.func27, Tryd.ntmps27
    go_wp2_with fail
    refine (fmtInt a _ ht2.out (by omega) (by omega)).mono ?_
    rintro e w1 ⟨rfl, hb1⟩
    have hli : ((intL a).length : Int) ≤ 11 := by omega
    go_wp2
    go_ret
    exact ⟨rfl, below_boxed hb1⟩
  · by_cases h7 : k = 7
    · subst h7
      have hv : shVal (shOf (7, 0, [], [])) = .iface 80 (.agg #[]) := rfl
      rw [hv]
      have q0 := as_cond_num; have q1 := as_cond_arg; have q2 := as_cond_pair; have q3 := as_cond_cond; have q4 := as_cond_call
      clear hn hv ht
      go_enter Tryd.func27, Tryd.ntmps27
      go_wp2
      go_ret
      exact ⟨by unfold showN; simp, (Below.refl _ w).alloc (Nat.le_refl _) _⟩
    · have q0 := as_pair_num; have q1 := as_pair_arg; have q2 := as_pair_pair; have q3 := as_pair_cond; have q4 := as_pair_call
      rcases (show k = 3 ∨ k = 4 ∨ k = 5 ∨ k = 6 by omega) with rfl | rfl | rfl | rfl
      · have hv : shVal (shOf (3, 0, [], [])) = .iface 78 (.agg #[.int .i64 3]) := rfl
        have hsw : showN (3, 0, [], []) = [43] := by unfold showN; simp
        rw [hv, hsw]
        clear hn hv ht hsw
        go_enter Tryd.func27, Tryd.ntmps27
        go_wp2
        go_ret
        exact ⟨by kernel_rfl, (Below.refl _ w).alloc (Nat.le_refl _) _⟩
      · have hv : shVal (shOf (4, 0, [], [])) = .iface 78 (.agg #[.int .i64 4]) := rfl
        have hsw : showN (4, 0, [], []) = [45] := by unfold showN; simp
        rw [hv, hsw]
        clear hn hv ht hsw
        go_enter Tryd.func27, Tryd.ntmps27
        go_wp2
        go_ret
        exact ⟨by kernel_rfl, (Below.refl _ w).alloc (Nat.le_refl _) _⟩
      · have hv : shVal (shOf (5, 0, [], [])) = .iface 78 (.agg #[.int .i64 5]) := rfl
        have hsw : showN (5, 0, [], []) = [42] := by unfold showN; simp
        rw [hv, hsw]
        clear hn hv ht hsw
        go_enter Tryd.func27, Tryd.ntmps27
        go_wp2
        go_ret
        exact ⟨by kernel_rfl, (Below.refl _ w).alloc (Nat.le_refl _) _⟩
      · have hv : shVal (shOf (6, 0, [], [])) = .iface 78 (.agg #[.int .i64 6]) := rfl
        have hsw : showN (6, 0, [], []) = [47] := by unfold showN; simp
        rw [hv, hsw]
        clear hn hv ht hsw
        go_enter Tryd.func27, Tryd.ntmps27
        go_wp2
        go_ret
        exact ⟨by kernel_rfl, (Below.refl _ w).alloc (Nat.le_refl _) _⟩
  · have HS : Hid (showN (8, a, p, f) = (64 :: p) ++ [46] ++ f ++ [47] ++ intL a) := by exact (by unfold showN; simp : showN (8, a, p, f) = (64 :: p) ++ [46] ++ f ++ [47] ++ intL a)
    have hv : shVal (shOf (8, a, p, f)) = .iface 82 (.agg #[.string ⟨p.toArray⟩, .string ⟨f.toArray⟩, .int .i64 a]) := rfl
    rw [hv]
    have q0 := as_call_num; have q1 := as_call_arg; have q2 := as_call_pair; have q3 := as_call_cond; have q4 := as_call_call
    have ht2 : Hid (PowIs (w.alloc (.cells #[.string ⟨p.toArray⟩, .string ⟨f.toArray⟩, .int .i64 a] 82)).drew) := (ht.below ((Below.refl _ w).alloc (Nat.le_refl _) _)).drew
    have hl := intL_short a (by omega) (by omega)
    have hpl := (name_letters hpn).1.2
    have hfl := (name_letters hfn).1.2
    have hli : ((intL a).length : Int) ≤ 11 := by omega
    have hpi : (p.length : Int) ≤ 8 := by omega
    have hfi : (f.length : Int) ≤ 8 := by omega
    have e1 : ∀ W : World, (Op.stringOp .add ⟨#[64]⟩ ⟨p.toArray⟩).run Tryd.prog W = .ok (.string ⟨(64 :: p).toArray⟩) W := fun W => by
      have := run_string_add_lists (P := Tryd.prog) W [64] p (by simp) (by omega)
      simpa using this
    have e2 : ∀ W : World, (Op.stringOp .add ⟨(64 :: p).toArray⟩ ⟨#[46]⟩).run Tryd.prog W = .ok (.string ⟨(64 :: (p ++ [46])).toArray⟩) W := fun W => by
      have := run_string_add_lists (P := Tryd.prog) W (64 :: p) [46] (by simp; omega) (by simp)
      simpa using this
    have e3 : ∀ W : World, (Op.stringOp .add ⟨(64 :: (p ++ [46])).toArray⟩ ⟨f.toArray⟩).run Tryd.prog W = .ok (.string ⟨(64 :: (p ++ 46 :: f)).toArray⟩) W := fun W => by
      have := run_string_add_lists (P := Tryd.prog) W (64 :: (p ++ [46])) f (by simp; omega) (by omega)
      simpa using this
    have e4 : ∀ W : World, (Op.stringOp .add ⟨(64 :: (p ++ 46 :: f)).toArray⟩ ⟨#[47]⟩).run Tryd.prog W = .ok (.string ⟨(64 :: (p ++ 46 :: (f ++ [47]))).toArray⟩) W := fun W => by
      have := run_string_add_lists (P := Tryd.prog) W (64 :: (p ++ 46 :: f)) [47] (by simp; omega) (by simp)
      simpa using this
    have e5 : ∀ W : World, (Op.stringOp .add ⟨(64 :: (p ++ 46 :: (f ++ [47]))).toArray⟩ ⟨(intL a).toArray⟩).run Tryd.prog W = .ok (.string ⟨(64 :: (p ++ 46 :: (f ++ 47 :: intL a))).toArray⟩) W := fun W => by
      have := run_string_add_lists (P := Tryd.prog) W (64 :: (p ++ 46 :: (f ++ [47]))) (intL a) (by simp; omega) (by omega)
      simpa using this
    clear hn hpn hfn hcat hv ht
    go_enter Tryd.func27, Tryd.ntmps27
    go_wp2
    go_region_held3 (fun w' => w'.cell? ⟨w.heap.size, 0, none⟩ = some (.string ⟨p.toArray⟩) ∧ w'.cell? ⟨w.heap.size, 1, none⟩ = some (.string ⟨f.toArray⟩) ∧ w'.cell? ⟨w.heap.size, 2, none⟩ = some (.int .i64 a)) (go_keep) (first | (go_at_call 53; refine (fmtInt a _ ht2.out (by omega) (by omega)).mono ?_; rintro e w1 ⟨rfl, hb1⟩; have hc0 : w1.cell? ⟨w.heap.size, 0, none⟩ = some (.string ⟨p.toArray⟩) := (hb1.cell (p := ⟨w.heap.size, 0, none⟩) (by simp)).trans (by simp); have hc1 : w1.cell? ⟨w.heap.size, 1, none⟩ = some (.string ⟨f.toArray⟩) := (hb1.cell (p := ⟨w.heap.size, 1, none⟩) (by simp)).trans (by simp); have hc2 : w1.cell? ⟨w.heap.size, 2, none⟩ = some (.int .i64 a) := (hb1.cell (p := ⟨w.heap.size, 2, none⟩) (by simp)).trans (by simp)))
    all_goals
      go_wp2
      go_ret
      exact ⟨ret_strl (by rw [HS.out]; simp), below_boxd hb1⟩

end Go.Proofs.YtjkfjenhocaljaaDoor
