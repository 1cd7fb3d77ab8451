/-
  Parts of one proof, one behind the other: TreeI, TreeI2, TreeI3, TreeX, LawT, Shelf, TreeJ, TreeJ2, TreeJ3, TreeJ4, Codes.
-/
import Derived.Test.YtjkfjenhocaljaaDoorTreeS6
import Derived.Test.YtjkfjenhocaljaaDoorNodeL
import Derived.Test.YtjkfjenhocaljaaDoorMath6I
import Derived.Test.YtjkfjenhocaljaaDoorTextI
import Derived.Laws.StructEq
import Derived.Deep.RegionHeld3
import Derived.Test.YtjkfjenhocaljaaDoorDrawTr4
import Derived.Test.YtjkfjenhocaljaaDoorNodeK
import Derived.Test.YtjkfjenhocaljaaDoorIntsL
import Derived.Shelf.Strings.Builder1
import Derived.Shelf.Strings.Builder2
import Derived.Shelf.Strings.OnBuilder
import Derived.Shelf.Strconv.Itoa0
import Derived.Shelf.Strconv.Itoa1
import Derived.Shelf.LaysM
import Derived.Shelf.Strconv.Itoa2
import Derived.Shelf.Strconv.Itoa3
import Derived.Shelf.Strconv.Itoa4
import Derived.Shelf.Strings.Search1
import Derived.Shelf.Strings.Search2
import Derived.Shelf.Strings.Search3
import Derived.Shelf.Strings.Cut
import Derived.Shelf.Strings.Shaped
import Derived.Shelf.Strings.Prefix
import Derived.Test.YtjkfjenhocaljaaDoorProg
import Derived.Lib.AppendIntMem
import Derived.Lib.SmallJoins
import Derived.Lib.LaidTab
import Derived.BigQuiet
import Derived.Test.YtjkfjenhocaljaaDoorDraw

/-! The contracts of chapter 6's landed code: shapes (told apart by type switches). -/
namespace Go.Proofs.YtjkfjenhocaljaaDoor
open Go.RowKit

/-- A shape as a value behind the interface. -/
def shVal : Sh → Value
  | .num a => .iface 73 (.agg #[.int .i64 a])
  | .arg a => .iface 76 (.agg #[.int .i64 a])
  | .pair k => .iface 78 (.agg #[.int .i64 k])
  | .cond => .iface 80 (.agg #[])
  | .call p f a => .iface 82 (.agg #[.string ⟨p.toArray⟩, .string ⟨f.toArray⟩, .int .i64 a])
  | .no => .iface 83 (.agg #[])

/-! A type assertion: the value and true where the type is its own, else the type's zero value and false. -/
theorem as_num_num (v : Value) (w : World) : (Instr.typeAssert (.iface 73 v) 46 73 true).run Tryd.prog w = .ok (.tuple #[v, .bool true]) w := by kernel_rfl
theorem as_num_arg (v : Value) (w : World) : (Instr.typeAssert (.iface 73 v) 46 76 true).run Tryd.prog w = .ok (.tuple #[.agg #[.int .i64 0], .bool false]) w := by kernel_rfl
theorem as_num_pair (v : Value) (w : World) : (Instr.typeAssert (.iface 73 v) 46 78 true).run Tryd.prog w = .ok (.tuple #[.agg #[.int .i64 0], .bool false]) w := by kernel_rfl
theorem as_num_cond (v : Value) (w : World) : (Instr.typeAssert (.iface 73 v) 46 80 true).run Tryd.prog w = .ok (.tuple #[.agg #[], .bool false]) w := by kernel_rfl
theorem as_num_call (v : Value) (w : World) : (Instr.typeAssert (.iface 73 v) 46 82 true).run Tryd.prog w = .ok (.tuple #[.agg #[.string ByteArray.empty, .string ByteArray.empty, .int .i64 0], .bool false]) w := by kernel_rfl
theorem as_arg_num (v : Value) (w : World) : (Instr.typeAssert (.iface 76 v) 46 73 true).run Tryd.prog w = .ok (.tuple #[.agg #[.int .i64 0], .bool false]) w := by kernel_rfl
theorem as_arg_arg (v : Value) (w : World) : (Instr.typeAssert (.iface 76 v) 46 76 true).run Tryd.prog w = .ok (.tuple #[v, .bool true]) w := by kernel_rfl
theorem as_arg_pair (v : Value) (w : World) : (Instr.typeAssert (.iface 76 v) 46 78 true).run Tryd.prog w = .ok (.tuple #[.agg #[.int .i64 0], .bool false]) w := by kernel_rfl
theorem as_arg_cond (v : Value) (w : World) : (Instr.typeAssert (.iface 76 v) 46 80 true).run Tryd.prog w = .ok (.tuple #[.agg #[], .bool false]) w := by kernel_rfl
theorem as_arg_call (v : Value) (w : World) : (Instr.typeAssert (.iface 76 v) 46 82 true).run Tryd.prog w = .ok (.tuple #[.agg #[.string ByteArray.empty, .string ByteArray.empty, .int .i64 0], .bool false]) w := by kernel_rfl
theorem as_pair_num (v : Value) (w : World) : (Instr.typeAssert (.iface 78 v) 46 73 true).run Tryd.prog w = .ok (.tuple #[.agg #[.int .i64 0], .bool false]) w := by kernel_rfl
theorem as_pair_arg (v : Value) (w : World) : (Instr.typeAssert (.iface 78 v) 46 76 true).run Tryd.prog w = .ok (.tuple #[.agg #[.int .i64 0], .bool false]) w := by kernel_rfl
theorem as_pair_pair (v : Value) (w : World) : (Instr.typeAssert (.iface 78 v) 46 78 true).run Tryd.prog w = .ok (.tuple #[v, .bool true]) w := by kernel_rfl
theorem as_pair_cond (v : Value) (w : World) : (Instr.typeAssert (.iface 78 v) 46 80 true).run Tryd.prog w = .ok (.tuple #[.agg #[], .bool false]) w := by kernel_rfl
theorem as_pair_call (v : Value) (w : World) : (Instr.typeAssert (.iface 78 v) 46 82 true).run Tryd.prog w = .ok (.tuple #[.agg #[.string ByteArray.empty, .string ByteArray.empty, .int .i64 0], .bool false]) w := by kernel_rfl
theorem as_cond_num (v : Value) (w : World) : (Instr.typeAssert (.iface 80 v) 46 73 true).run Tryd.prog w = .ok (.tuple #[.agg #[.int .i64 0], .bool false]) w := by kernel_rfl
theorem as_cond_arg (v : Value) (w : World) : (Instr.typeAssert (.iface 80 v) 46 76 true).run Tryd.prog w = .ok (.tuple #[.agg #[.int .i64 0], .bool false]) w := by kernel_rfl
theorem as_cond_pair (v : Value) (w : World) : (Instr.typeAssert (.iface 80 v) 46 78 true).run Tryd.prog w = .ok (.tuple #[.agg #[.int .i64 0], .bool false]) w := by kernel_rfl
theorem as_cond_cond (v : Value) (w : World) : (Instr.typeAssert (.iface 80 v) 46 80 true).run Tryd.prog w = .ok (.tuple #[v, .bool true]) w := by kernel_rfl
theorem as_cond_call (v : Value) (w : World) : (Instr.typeAssert (.iface 80 v) 46 82 true).run Tryd.prog w = .ok (.tuple #[.agg #[.string ByteArray.empty, .string ByteArray.empty, .int .i64 0], .bool false]) w := by kernel_rfl
theorem as_call_num (v : Value) (w : World) : (Instr.typeAssert (.iface 82 v) 46 73 true).run Tryd.prog w = .ok (.tuple #[.agg #[.int .i64 0], .bool false]) w := by kernel_rfl
theorem as_call_arg (v : Value) (w : World) : (Instr.typeAssert (.iface 82 v) 46 76 true).run Tryd.prog w = .ok (.tuple #[.agg #[.int .i64 0], .bool false]) w := by kernel_rfl
theorem as_call_pair (v : Value) (w : World) : (Instr.typeAssert (.iface 82 v) 46 78 true).run Tryd.prog w = .ok (.tuple #[.agg #[.int .i64 0], .bool false]) w := by kernel_rfl
theorem as_call_cond (v : Value) (w : World) : (Instr.typeAssert (.iface 82 v) 46 80 true).run Tryd.prog w = .ok (.tuple #[.agg #[], .bool false]) w := by kernel_rfl
theorem as_call_call (v : Value) (w : World) : (Instr.typeAssert (.iface 82 v) 46 82 true).run Tryd.prog w = .ok (.tuple #[v, .bool true]) w := by kernel_rfl
theorem as_no_num (v : Value) (w : World) : (Instr.typeAssert (.iface 83 v) 46 73 true).run Tryd.prog w = .ok (.tuple #[.agg #[.int .i64 0], .bool false]) w := by kernel_rfl
theorem as_no_arg (v : Value) (w : World) : (Instr.typeAssert (.iface 83 v) 46 76 true).run Tryd.prog w = .ok (.tuple #[.agg #[.int .i64 0], .bool false]) w := by kernel_rfl
theorem as_no_pair (v : Value) (w : World) : (Instr.typeAssert (.iface 83 v) 46 78 true).run Tryd.prog w = .ok (.tuple #[.agg #[.int .i64 0], .bool false]) w := by kernel_rfl
theorem as_no_cond (v : Value) (w : World) : (Instr.typeAssert (.iface 83 v) 46 80 true).run Tryd.prog w = .ok (.tuple #[.agg #[], .bool false]) w := by kernel_rfl
theorem as_no_call (v : Value) (w : World) : (Instr.typeAssert (.iface 83 v) 46 82 true).run Tryd.prog w = .ok (.tuple #[.agg #[.string ByteArray.empty, .string ByteArray.empty, .int .i64 0], .bool false]) w := by kernel_rfl

set_option maxHeartbeats 2000000 in
set_option maxRecDepth 100000 in
theorem implShapeOf (n : Nd) (w : World) : Calls Tryd.prog 28 #[nodeVal n] w fun e w' => e = .returned (shVal (shOf n)) ∧ Below w.heap.size w w' := by
  obtain ⟨k, a, p, f⟩ := n
  rcases shOf_kinds (k, a, p, f) with ⟨h, e⟩ | ⟨h, e⟩ | ⟨h, e⟩ | ⟨h, e⟩ | ⟨h, e⟩ | ⟨h, e⟩
  · rw [e]; simp only at h; subst h; clear e
    unfold nodeVal shVal; simp only
    go_enter Tryd.func28, Tryd.ntmps28
    go_wp2
    go_ret
    exact ⟨rfl, (Below.refl _ w).alloc (Nat.le_refl _) _⟩
  · rw [e]; simp only at h; subst h; clear e
    unfold nodeVal shVal; simp only
    go_enter Tryd.func28, Tryd.ntmps28
    go_wp2
    go_ret
    exact ⟨rfl, (Below.refl _ w).alloc (Nat.le_refl _) _⟩
  · rw [e]; simp only at h; clear e
    rcases (show k = 3 ∨ k = 4 ∨ k = 5 ∨ k = 6 by omega) with rfl | rfl | rfl | rfl
    all_goals
      unfold nodeVal shVal; simp only
      go_enter Tryd.func28, Tryd.ntmps28
      go_wp2
      go_ret
      exact ⟨rfl, (Below.refl _ w).alloc (Nat.le_refl _) _⟩
  · rw [e]; simp only at h; subst h; clear e
    unfold nodeVal shVal; simp only
    go_enter Tryd.func28, Tryd.ntmps28
    go_wp2
    go_ret
    exact ⟨rfl, (Below.refl _ w).alloc (Nat.le_refl _) _⟩
  · rw [e]; simp only at h; subst h; clear e
    unfold nodeVal shVal; simp only
    go_enter Tryd.func28, Tryd.ntmps28
    go_wp2
    go_ret
    exact ⟨rfl, (Below.refl _ w).alloc (Nat.le_refl _) _⟩
  · rw [e]; simp only at h; clear e
    have d1 : (k == 1) = false := beq_eq_false_iff_ne.2 (by omega)
    have d2 : (k == 2) = false := beq_eq_false_iff_ne.2 (by omega)
    have d3 : (k == 3) = false := beq_eq_false_iff_ne.2 (by omega)
    have d4 : (k == 4) = false := beq_eq_false_iff_ne.2 (by omega)
    have d5 : (k == 5) = false := beq_eq_false_iff_ne.2 (by omega)
    have d6 : (k == 6) = false := beq_eq_false_iff_ne.2 (by omega)
    have d7 : (k == 7) = false := beq_eq_false_iff_ne.2 (by omega)
    have d8 : (k == 8) = false := beq_eq_false_iff_ne.2 (by omega)
    clear h
    unfold nodeVal shVal; simp only
    go_enter Tryd.func28, Tryd.ntmps28
    go_wp2
    go_ret
    exact ⟨rfl, (Below.refl _ w).alloc (Nat.le_refl _) _⟩

set_option maxHeartbeats 2000000 in
set_option maxRecDepth 100000 in
theorem implKidsOfShape (s : Sh) (w : World) : Calls Tryd.prog 47 #[shVal s] w fun e w' => e = .returned (.int .i64 (shKids s)) ∧ Below w.heap.size w w' := by
  cases s with
  | num a =>
    unfold shVal; simp only
    have q0 := as_num_num
    have q1 := as_num_arg
    have q2 := as_num_pair
    have q3 := as_num_cond
    have q4 := as_num_call
    go_enter Tryd.func47, Tryd.ntmps47
    go_wp2
    go_ret
    exact ⟨rfl, Below.refl _ w⟩
  | arg a =>
    unfold shVal; simp only
    have q0 := as_arg_num
    have q1 := as_arg_arg
    have q2 := as_arg_pair
    have q3 := as_arg_cond
    have q4 := as_arg_call
    go_enter Tryd.func47, Tryd.ntmps47
    go_wp2
    go_ret
    exact ⟨rfl, Below.refl _ w⟩
  | pair k =>
    unfold shVal; simp only
    have q0 := as_pair_num
    have q1 := as_pair_arg
    have q2 := as_pair_pair
    have q3 := as_pair_cond
    have q4 := as_pair_call
    go_enter Tryd.func47, Tryd.ntmps47
    go_wp2
    go_ret
    exact ⟨rfl, (Below.refl _ w).alloc (Nat.le_refl _) _⟩
  | cond =>
    unfold shVal; simp only
    have q0 := as_cond_num
    have q1 := as_cond_arg
    have q2 := as_cond_pair
    have q3 := as_cond_cond
    have q4 := as_cond_call
    go_enter Tryd.func47, Tryd.ntmps47
    go_wp2
    go_ret
    exact ⟨rfl, (Below.refl _ w).alloc (Nat.le_refl _) _⟩
  | call p f a =>
    unfold shVal; simp only
    have q0 := as_call_num
    have q1 := as_call_arg
    have q2 := as_call_pair
    have q3 := as_call_cond
    have q4 := as_call_call
    go_enter Tryd.func47, Tryd.ntmps47
    go_wp2
    go_ret
    exact ⟨rfl, (Below.refl _ w).alloc (Nat.le_refl _) _⟩
  | no =>
    unfold shVal; simp only
    have q0 := as_no_num
    have q1 := as_no_arg
    have q2 := as_no_pair
    have q3 := as_no_cond
    have q4 := as_no_call
    go_enter Tryd.func47, Tryd.ntmps47
    go_wp2
    go_ret
    exact ⟨rfl, Below.refl _ w⟩

set_option maxHeartbeats 4000000 in
set_option maxRecDepth 100000 in
theorem implShapeOk (s : Sh) (w : World) (hl : ∀ p f a, s = .call p f a → p.length ≤ 1048576 ∧ f.length ≤ 1048576) : Calls Tryd.prog 44 #[shVal s] w fun e w' => e = .returned (.bool (shOk s)) ∧ Below w.heap.size w w' := by
  cases s with
  | num a =>
    unfold shVal; simp only
    have q0 := as_num_num
    have q1 := as_num_arg
    have q2 := as_num_pair
    have q3 := as_num_cond
    have q4 := as_num_call
    go_enter Tryd.func44, Tryd.ntmps44
    go_wp2_with fail
    refine (implWordOkS _ _).mono ?_
    rintro e w1 ⟨rfl, rfl⟩
    go_wp2
    go_ret
    exact ⟨rfl, (Below.refl _ w).alloc (Nat.le_refl _) _⟩
  | arg a =>
    unfold shVal; simp only
    have q0 := as_arg_num
    have q1 := as_arg_arg
    have q2 := as_arg_pair
    have q3 := as_arg_cond
    have q4 := as_arg_call
    have HO : Hid (shOk (.arg a) = inB a 0 2) := by exact (rfl : shOk (.arg a) = inB a 0 2)
    by_cases h1 : 0 ≤ a
    · by_cases h2 : a ≤ 2
      · have HB : Hid (inB a 0 2 = true) := inB_yes _ _ _ h1 h2
        go_enter Tryd.func44, Tryd.ntmps44
        go_wp2
        go_ret
        exact ⟨by rw [HO.out, HB.out]; rfl, (Below.refl _ w).alloc (Nat.le_refl _) _⟩
      · have HB : Hid (inB a 0 2 = false) := inB_no _ _ _ (by omega)
        go_enter Tryd.func44, Tryd.ntmps44
        go_wp2
        go_ret
        exact ⟨by rw [HO.out, HB.out]; rfl, (Below.refl _ w).alloc (Nat.le_refl _) _⟩
    · have HB : Hid (inB a 0 2 = false) := inB_no _ _ _ (by omega)
      go_enter Tryd.func44, Tryd.ntmps44
      go_wp2
      go_ret
      exact ⟨by rw [HO.out, HB.out]; rfl, (Below.refl _ w).alloc (Nat.le_refl _) _⟩
  | pair k =>
    unfold shVal; simp only
    have q0 := as_pair_num
    have q1 := as_pair_arg
    have q2 := as_pair_pair
    have q3 := as_pair_cond
    have q4 := as_pair_call
    go_enter Tryd.func44, Tryd.ntmps44
    go_wp2
    go_ret
    exact ⟨rfl, Below.refl _ w⟩
  | cond =>
    unfold shVal; simp only
    have q0 := as_cond_num
    have q1 := as_cond_arg
    have q2 := as_cond_pair
    have q3 := as_cond_cond
    have q4 := as_cond_call
    go_enter Tryd.func44, Tryd.ntmps44
    go_wp2
    go_ret
    exact ⟨rfl, Below.refl _ w⟩
  | call p f a =>
    unfold shVal; simp only
    have q0 := as_call_num
    have q1 := as_call_arg
    have q2 := as_call_pair
    have q3 := as_call_cond
    have q4 := as_call_call
    obtain ⟨hp, hf⟩ := hl p f a rfl
    have HO : Hid (shOk (.call p f a) = (inB a 0 3 && (nameB p && nameB f))) := by exact (rfl : shOk (.call p f a) = (inB a 0 3 && (nameB p && nameB f)))
    by_cases h1 : 0 ≤ a
    · by_cases h2 : a ≤ 3
      · have HB : Hid (inB a 0 3 = true) := inB_yes _ _ _ h1 h2
        rcases hn : nameB p with _ | _
        · have HN : Hid (nameB p = false) := hn
          clear hn
          go_enter Tryd.func44, Tryd.ntmps44
          go_wp2_with fail
          refine (implNameOkS p _ hp).mono ?_
          rintro e w1 ⟨rfl, rfl⟩
          rw [HN.out]
          go_wp2
          go_ret
          exact ⟨by rw [HO.out, HB.out, HN.out]; rfl, (Below.refl _ w).alloc (Nat.le_refl _) _⟩
        · have HN : Hid (nameB p = true) := hn
          clear hn
          go_enter Tryd.func44, Tryd.ntmps44
          go_wp2_with fail
          refine (implNameOkS p _ hp).mono ?_
          rintro e w1 ⟨rfl, rfl⟩
          rw [HN.out]
          go_wp2_with fail
          refine (implNameOkS f _ hf).mono ?_
          rintro e w1 ⟨rfl, rfl⟩
          go_wp2
          go_ret
          exact ⟨by rw [HO.out, HB.out, HN.out]; rfl, (Below.refl _ w).alloc (Nat.le_refl _) _⟩
      · have HB : Hid (inB a 0 3 = false) := inB_no _ _ _ (by omega)
        go_enter Tryd.func44, Tryd.ntmps44
        go_wp2
        go_ret
        exact ⟨by rw [HO.out, HB.out]; rfl, (Below.refl _ w).alloc (Nat.le_refl _) _⟩
    · have HB : Hid (inB a 0 3 = false) := inB_no _ _ _ (by omega)
      go_enter Tryd.func44, Tryd.ntmps44
      go_wp2
      go_ret
      exact ⟨by rw [HO.out, HB.out]; rfl, (Below.refl _ w).alloc (Nat.le_refl _) _⟩
  | no =>
    unfold shVal; simp only
    have q0 := as_no_num
    have q1 := as_no_arg
    have q2 := as_no_pair
    have q3 := as_no_cond
    have q4 := as_no_call
    go_enter Tryd.func44, Tryd.ntmps44
    go_wp2
    go_ret
    exact ⟨rfl, Below.refl _ w⟩

/-! The method node, shape by shape. -/
set_option maxHeartbeats 1000000 in
set_option maxRecDepth 100000 in
theorem node_num (a : Int) (w : World) : Calls Tryd.prog 117 #[.agg #[.int .i64 a]] w fun e w' => e = .returned (nodeVal (shNode (.num a))) ∧ Below w.heap.size w w' := by
  go_enter Tryd.func117, Tryd.ntmps117
  go_wp2
  refine bodyPost_ret (v := .agg #[.int .i64 1, .int .i64 a, .string ⟨#[]⟩, .string ⟨#[]⟩]) (by simp [results, Tryd.results117, go_sem]) rfl ?_
  exact ⟨rfl, ((Below.refl _ w).alloc (Nat.le_refl _) _).alloc (by simp) _⟩

set_option maxHeartbeats 1000000 in
set_option maxRecDepth 100000 in
theorem node_arg (a : Int) (w : World) : Calls Tryd.prog 118 #[.agg #[.int .i64 a]] w fun e w' => e = .returned (nodeVal (shNode (.arg a))) ∧ Below w.heap.size w w' := by
  go_enter Tryd.func118, Tryd.ntmps118
  go_wp2
  refine bodyPost_ret (v := .agg #[.int .i64 2, .int .i64 a, .string ⟨#[]⟩, .string ⟨#[]⟩]) (by simp [results, Tryd.results118, go_sem]) rfl ?_
  exact ⟨rfl, ((Below.refl _ w).alloc (Nat.le_refl _) _).alloc (by simp) _⟩

set_option maxHeartbeats 1000000 in
set_option maxRecDepth 100000 in
theorem node_pair (k : Int) (w : World) : Calls Tryd.prog 119 #[.agg #[.int .i64 k]] w fun e w' => e = .returned (nodeVal (shNode (.pair k))) ∧ Below w.heap.size w w' := by
  go_enter Tryd.func119, Tryd.ntmps119
  go_wp2
  refine bodyPost_ret (v := .agg #[.int .i64 k, .int .i64 0, .string ⟨#[]⟩, .string ⟨#[]⟩]) (by simp [results, Tryd.results119, go_sem]) rfl ?_
  exact ⟨rfl, ((Below.refl _ w).alloc (Nat.le_refl _) _).alloc (by simp) _⟩

set_option maxHeartbeats 1000000 in
set_option maxRecDepth 100000 in
theorem node_cond  (w : World) : Calls Tryd.prog 120 #[.agg #[]] w fun e w' => e = .returned (nodeVal (shNode (.cond))) ∧ Below w.heap.size w w' := by
  go_enter Tryd.func120, Tryd.ntmps120
  go_wp2
  refine bodyPost_ret (v := .agg #[.int .i64 7, .int .i64 0, .string ⟨#[]⟩, .string ⟨#[]⟩]) (by simp [results, Tryd.results120, go_sem]) rfl ?_
  exact ⟨rfl, ((Below.refl _ w).alloc (Nat.le_refl _) _).alloc (by simp) _⟩

set_option maxHeartbeats 1000000 in
set_option maxRecDepth 100000 in
theorem node_call (p : List UInt8) (f : List UInt8) (a : Int) (w : World) : Calls Tryd.prog 121 #[.agg #[.string ⟨p.toArray⟩, .string ⟨f.toArray⟩, .int .i64 a]] w fun e w' => e = .returned (nodeVal (shNode (.call p f a))) ∧ Below w.heap.size w w' := by
  go_enter Tryd.func121, Tryd.ntmps121
  go_wp2
  refine bodyPost_ret (v := .agg #[.int .i64 8, .int .i64 a, .string ⟨p.toArray⟩, .string ⟨f.toArray⟩]) (by simp [results, Tryd.results121, go_sem]) rfl ?_
  exact ⟨rfl, ((Below.refl _ w).alloc (Nat.le_refl _) _).alloc (by simp) _⟩

set_option maxHeartbeats 1000000 in
set_option maxRecDepth 100000 in
theorem node_no  (w : World) : Calls Tryd.prog 122 #[.agg #[]] w fun e w' => e = .returned (nodeVal (shNode (.no))) ∧ Below w.heap.size w w' := by
  go_enter Tryd.func122, Tryd.ntmps122
  go_wp2
  refine bodyPost_ret (v := .agg #[.int .i64 0, .int .i64 0, .string ⟨#[]⟩, .string ⟨#[]⟩]) (by simp [results, Tryd.results122, go_sem]) rfl ?_
  exact ⟨rfl, ((Below.refl _ w).alloc (Nat.le_refl _) _).alloc (by simp) _⟩

end Go.Proofs.YtjkfjenhocaljaaDoor

/-! The contracts of chapter 6's landed code: NodeOk, KidsOf. -/
namespace Go.Proofs.YtjkfjenhocaljaaDoor
open Go.RowKit

theorem nodes_eq (k a k2 a2 : Int) (p f p2 f2 : List UInt8) (w : World) : (binOp .eql 31 (.agg #[.int .i64 k, .int .i64 a, .string ⟨p.toArray⟩, .string ⟨f.toArray⟩]) (.agg #[.int .i64 k2, .int .i64 a2, .string ⟨p2.toArray⟩, .string ⟨f2.toArray⟩])).run Tryd.prog w = .ok (.bool (decide (((k, a, p, f) : Nd) = (k2, a2, p2, f2)))) w := by
  rw [run_eql_struct]
  simp [go_sem]
  by_cases h1 : k = k2
  · by_cases h2 : a = a2
    · by_cases h3 : p = p2
      · by_cases h4 : f = f2
        · simp [h1, h2, h3, h4]
        · simp [h1, h2, h3, h4]
      · simp [h1, h2, h3]
    · simp [h1, h2]
  · simp [h1]

/-- What NodeOk holds while it is at work. -/
structure NdAt (W : World) (D : Nat) (k a : Int) (p f : List UInt8) : Prop where
  c0 : W.cell? ⟨D, 0, none⟩ = some (.int .i64 k)
  c1 : W.cell? ⟨D, 1, none⟩ = some (.int .i64 a)
  c2 : W.cell? ⟨D, 2, none⟩ = some (.string ⟨p.toArray⟩)
  c3 : W.cell? ⟨D, 3, none⟩ = some (.string ⟨f.toArray⟩)

theorem NdAt.below {W W' : World} {D : Nat} {k a : Int} {p f : List UInt8} (h : NdAt W D k a p f) (hb : Below W.heap.size W W') : NdAt W' D k a p f :=
  have hl : D < W.heap.size := World.block_lt_of_cell? W ⟨D, 0, none⟩ h.c0
  ⟨(hb.cell (p := ⟨D, 0, none⟩) hl).trans h.c0, (hb.cell (p := ⟨D, 1, none⟩) hl).trans h.c1, (hb.cell (p := ⟨D, 2, none⟩) hl).trans h.c2, (hb.cell (p := ⟨D, 3, none⟩) hl).trans h.c3⟩
theorem NdAt.drew {W : World} {D : Nat} {k a : Int} {p f : List UInt8} (h : NdAt W D k a p f) : NdAt W.drew D k a p f := ⟨h.c0, h.c1, h.c2, h.c3⟩
theorem NdAt.new (w : World) (k a : Int) (p f : List UInt8) : NdAt (w.alloc (.cells #[.int .i64 k, .int .i64 a, .string ⟨p.toArray⟩, .string ⟨f.toArray⟩] 31)) w.heap.size k a p f := by
  have hA := heap_alloc_new w (.cells #[.int .i64 k, .int .i64 a, .string ⟨p.toArray⟩, .string ⟨f.toArray⟩] 31)
  generalize w.alloc (.cells #[.int .i64 k, .int .i64 a, .string ⟨p.toArray⟩, .string ⟨f.toArray⟩] 31) = W at hA ⊢
  exact ⟨by simp [World.cell?, hA], by simp [World.cell?, hA], by simp [World.cell?, hA], by simp [World.cell?, hA]⟩

set_option maxHeartbeats 4000000 in
set_option maxRecDepth 100000 in
theorem nodeOk_num_yes (k a : Int) (p f : List UInt8) (b : Int) (w : World) (e : shOf (k, a, p, f) = .num b) (hs : shOk (.num b) = true) :
    Calls Tryd.prog 17 #[nodeVal (k, a, p, f)] w fun e w' => e = .returned (.bool (nodeB (k, a, p, f))) ∧ Below w.heap.size w w' := by
  have HN : Hid (nodeB (k, a, p, f) = (true && decide (shNode (.num b) = (k, a, p, f)))) := by exact (by rw [node_sh, e, hs] : nodeB (k, a, p, f) = (true && decide (shNode (.num b) = (k, a, p, f))))
  have HC := implShapeOf (k, a, p, f)
  rw [e] at HC
  have HC2 : Hid (_) := HC
  have HK : Hid (_) := fun W : World => implShapeOk (.num b) W (fun _ _ _ e => by cases e)
  rw [hs] at HK
  have HV : Hid (_) := fun W : World => node_num b W
  unfold nodeVal shNode at HV
  simp only at HV
  have hEq := nodes_eq
  clear HC hs e
  unfold nodeVal shVal at HC2
  unfold shVal at HK
  unfold nodeVal
  simp only at HC2 HK ⊢
  obtain ⟨W0, hW0⟩ : ∃ W0, w.alloc (.cells #[.int .i64 k, .int .i64 a, .string ⟨p.toArray⟩, .string ⟨f.toArray⟩] 31) = W0 := ⟨_, rfl⟩
  have st := NdAt.new w k a p f
  have hB : Below w.heap.size w W0 := by rw [← hW0]; exact (Below.refl _ w).alloc (Nat.le_refl _) _
  rw [hW0] at st
  obtain ⟨D, hD0⟩ : ∃ D, w.heap.size = D := ⟨_, rfl⟩
  rw [hD0] at st hB
  have hD : Hid (w.heap.size = D) := hD0
  have c0 := st.c0
  have c1 := st.c1
  have c2 := st.c2
  have c3 := st.c3
  go_enter Tryd.func17, Tryd.ntmps17
  go_wp2_with fail
  refine Calls.mono (HC2.out _) ?_
  rintro e wn ⟨rfl, hbn⟩
  replace hB := hB.trans (hbn.mono (Nat.le_trans (Nat.le_of_eq hD.out.symm) hB.size)); replace st := st.below hbn; replace c0 := st.c0; replace c1 := st.c1; replace c2 := st.c2; replace c3 := st.c3; clear hbn
  go_wp2_with fail
  replace st := st.drew
  replace hB := hB.drew
  go_region_held3 (fun w' => w'.cell? ⟨D, 0, none⟩ = some (.int .i64 k) ∧ w'.cell? ⟨D, 1, none⟩ = some (.int .i64 a) ∧ w'.cell? ⟨D, 2, none⟩ = some (.string ⟨p.toArray⟩) ∧ w'.cell? ⟨D, 3, none⟩ = some (.string ⟨f.toArray⟩)) (go_keep) (first | (go_at_call 44; refine Calls.mono (HK.out _) ?_; rintro e wn ⟨rfl, hbn⟩; replace hB := hB.trans (hbn.mono (Nat.le_trans (Nat.le_of_eq hD.out.symm) hB.size)); replace st := st.below hbn; replace c0 := st.c0; replace c1 := st.c1; replace c2 := st.c2; replace c3 := st.c3; clear hbn) | (go_at_call 117; refine Calls.mono (HV.out _) ?_; rintro e wn ⟨rfl, hbn⟩; replace hB := hB.trans (hbn.mono (Nat.le_trans (Nat.le_of_eq hD.out.symm) hB.size)); replace st := st.below hbn; replace c0 := st.c0; replace c1 := st.c1; replace c2 := st.c2; replace c3 := st.c3; clear hbn))
  go_wp2
  go_ret
  refine ⟨?_, by rw [hD.out]; exact hB⟩
  rw [HN.out]
  simp [shNode, @eq_comm (List UInt8) [] p, @eq_comm (List UInt8) [] f]

set_option maxHeartbeats 4000000 in
set_option maxRecDepth 100000 in
theorem nodeOk_num_no (k a : Int) (p f : List UInt8) (b : Int) (w : World) (e : shOf (k, a, p, f) = .num b) (hs : shOk (.num b) = false) :
    Calls Tryd.prog 17 #[nodeVal (k, a, p, f)] w fun e w' => e = .returned (.bool (nodeB (k, a, p, f))) ∧ Below w.heap.size w w' := by
  have HN : Hid (nodeB (k, a, p, f) = (false && decide (shNode (.num b) = (k, a, p, f)))) := by exact (by rw [node_sh, e, hs] : nodeB (k, a, p, f) = (false && decide (shNode (.num b) = (k, a, p, f))))
  have HC := implShapeOf (k, a, p, f)
  rw [e] at HC
  have HC2 : Hid (_) := HC
  have HK : Hid (_) := fun W : World => implShapeOk (.num b) W (fun _ _ _ e => by cases e)
  rw [hs] at HK
  clear HC hs e
  unfold nodeVal shVal at HC2
  unfold shVal at HK
  unfold nodeVal
  simp only at HC2 HK ⊢
  obtain ⟨W0, hW0⟩ : ∃ W0, w.alloc (.cells #[.int .i64 k, .int .i64 a, .string ⟨p.toArray⟩, .string ⟨f.toArray⟩] 31) = W0 := ⟨_, rfl⟩
  have st := NdAt.new w k a p f
  have hB : Below w.heap.size w W0 := by rw [← hW0]; exact (Below.refl _ w).alloc (Nat.le_refl _) _
  rw [hW0] at st
  obtain ⟨D, hD0⟩ : ∃ D, w.heap.size = D := ⟨_, rfl⟩
  rw [hD0] at st hB
  have hD : Hid (w.heap.size = D) := hD0
  have c0 := st.c0
  have c1 := st.c1
  have c2 := st.c2
  have c3 := st.c3
  go_enter Tryd.func17, Tryd.ntmps17
  go_wp2_with fail
  refine Calls.mono (HC2.out _) ?_
  rintro e wn ⟨rfl, hbn⟩
  replace hB := hB.trans (hbn.mono (Nat.le_trans (Nat.le_of_eq hD.out.symm) hB.size)); replace st := st.below hbn; replace c0 := st.c0; replace c1 := st.c1; replace c2 := st.c2; replace c3 := st.c3; clear hbn
  go_wp2_with fail
  replace st := st.drew
  replace hB := hB.drew
  refine wp_region_held_drew (S := (fun _ => True)) (by kernel_rfl) ?_ (fun hHeld => ?_)
  · exact True.intro
  refine wpAnyH_take (i := 0) (oi := ⟨some 6, _, _, _, _, _⟩) (v := ?v0) rfl (by kernel_rfl) (by kernel_rfl) (by kernel_rfl) (fun _ _ _ h => h) (Or.inl ⟨by rfl, ?hy0⟩) (by assumption) ?rest0
  case hy0 => (intro wq hSw; (try dsimp only at hSw); first | (go_simp; done) | (go_simp; with_reducible rfl))
  simp only [Act.put, List.setIfInBounds_toArray, List.set_cons_zero, List.set_cons_succ]
  refine wpAnyH_ready (rs := [1]) (by kernel_rfl) (by simp) ?_
  refine AllReadyH.cons rfl (fun K hK => ?_) AllReadyH.nil
  go_simp
  (go_at_call 44; refine Calls.mono (HK.out _) ?_; rintro e wn ⟨rfl, hbn⟩; replace hB := hB.trans (hbn.mono (Nat.le_trans (Nat.le_of_eq hD.out.symm) hB.size)); replace st := st.below hbn; replace c0 := st.c0; replace c1 := st.c1; replace c2 := st.c2; replace c3 := st.c3; clear hbn)
  refine hK.out _ _ ?_ (fun hHeld => ?_)
  · exact True.intro
  clear hK K
  refine wpAnyH_take (i := 2) (oi := ⟨some 8, _, _, _, _, _⟩) (v := ?v2) rfl (by kernel_rfl) (by kernel_rfl) (by kernel_rfl) (fun _ _ _ h => h) (Or.inl ⟨by rfl, ?hy2⟩) (by assumption) ?rest2
  case hy2 => (intro wq hSw; (try dsimp only at hSw); first | (go_simp; done) | (go_simp; with_reducible rfl))
  simp only [Act.put, List.setIfInBounds_toArray, List.set_cons_zero, List.set_cons_succ]
  refine wpAnyH_take (i := 3) (oi := ⟨some 9, _, _, _, _, _⟩) (v := undef) rfl (by kernel_rfl) (by kernel_rfl) (by kernel_rfl) (fun _ _ _ h => h) (Or.inr ⟨by rfl, rfl⟩) (by assumption) ?_
  simp only [Act.put, List.setIfInBounds_toArray, List.set_cons_zero, List.set_cons_succ]
  refine wpAnyH_take (i := 4) (oi := ⟨some 10, _, _, _, _, _⟩) (v := undef) rfl (by kernel_rfl) (by kernel_rfl) (by kernel_rfl) (fun _ _ _ h => h) (Or.inr ⟨by rfl, rfl⟩) (by assumption) ?_
  simp only [Act.put, List.setIfInBounds_toArray, List.set_cons_zero, List.set_cons_succ]
  refine wpAnyH_take (i := 5) (oi := ⟨some 11, _, _, _, _, _⟩) (v := undef) rfl (by kernel_rfl) (by kernel_rfl) (by kernel_rfl) (fun _ _ _ h => h) (Or.inr ⟨by rfl, rfl⟩) (by assumption) ?_
  simp only [Act.put, List.setIfInBounds_toArray, List.set_cons_zero, List.set_cons_succ]
  refine wpAnyH_take (i := 6) (oi := ⟨some 12, _, _, _, _, _⟩) (v := undef) rfl (by kernel_rfl) (by kernel_rfl) (by kernel_rfl) (fun _ _ _ h => h) (Or.inr ⟨by rfl, rfl⟩) (by assumption) ?_
  simp only [Act.put, List.setIfInBounds_toArray, List.set_cons_zero, List.set_cons_succ]
  refine wpAnyH_take (i := 7) (oi := ⟨some 13, _, _, _, _, _⟩) (v := ?v7) rfl (by kernel_rfl) (by kernel_rfl) (by kernel_rfl) (fun _ _ _ h => h) (Or.inl ⟨by rfl, ?hy7⟩) (by assumption) ?rest7
  case hy7 => (intro wq hSw; (try dsimp only at hSw); first | (go_simp; done) | (go_simp; with_reducible rfl))
  simp only [Act.put, List.setIfInBounds_toArray, List.set_cons_zero, List.set_cons_succ]
  refine wpAnyH_take (i := 8) (oi := ⟨some 2, _, _, _, _, _⟩) (v := ?v8) rfl (by kernel_rfl) (by kernel_rfl) (by kernel_rfl) (fun _ _ _ h => h) (Or.inl ⟨by rfl, ?hy8⟩) (by assumption) ?rest8
  case hy8 => (intro wq hSw; (try dsimp only at hSw); first | (go_simp; done) | (go_simp; with_reducible rfl))
  simp only [Act.put, List.setIfInBounds_toArray, List.set_cons_zero, List.set_cons_succ]
  refine wpAnyH_done (by kernel_rfl) ?_ _
  go_wp2
  go_ret
  refine ⟨?_, by rw [hD.out]; exact hB⟩
  rw [HN.out]
  rfl

set_option maxHeartbeats 4000000 in
set_option maxRecDepth 100000 in
theorem nodeOk_arg_yes (k a : Int) (p f : List UInt8) (b : Int) (w : World) (e : shOf (k, a, p, f) = .arg b) (hs : shOk (.arg b) = true) :
    Calls Tryd.prog 17 #[nodeVal (k, a, p, f)] w fun e w' => e = .returned (.bool (nodeB (k, a, p, f))) ∧ Below w.heap.size w w' := by
  have HN : Hid (nodeB (k, a, p, f) = (true && decide (shNode (.arg b) = (k, a, p, f)))) := by exact (by rw [node_sh, e, hs] : nodeB (k, a, p, f) = (true && decide (shNode (.arg b) = (k, a, p, f))))
  have HC := implShapeOf (k, a, p, f)
  rw [e] at HC
  have HC2 : Hid (_) := HC
  have HK : Hid (_) := fun W : World => implShapeOk (.arg b) W (fun _ _ _ e => by cases e)
  rw [hs] at HK
  have HV : Hid (_) := fun W : World => node_arg b W
  unfold nodeVal shNode at HV
  simp only at HV
  have hEq := nodes_eq
  clear HC hs e
  unfold nodeVal shVal at HC2
  unfold shVal at HK
  unfold nodeVal
  simp only at HC2 HK ⊢
  obtain ⟨W0, hW0⟩ : ∃ W0, w.alloc (.cells #[.int .i64 k, .int .i64 a, .string ⟨p.toArray⟩, .string ⟨f.toArray⟩] 31) = W0 := ⟨_, rfl⟩
  have st := NdAt.new w k a p f
  have hB : Below w.heap.size w W0 := by rw [← hW0]; exact (Below.refl _ w).alloc (Nat.le_refl _) _
  rw [hW0] at st
  obtain ⟨D, hD0⟩ : ∃ D, w.heap.size = D := ⟨_, rfl⟩
  rw [hD0] at st hB
  have hD : Hid (w.heap.size = D) := hD0
  have c0 := st.c0
  have c1 := st.c1
  have c2 := st.c2
  have c3 := st.c3
  go_enter Tryd.func17, Tryd.ntmps17
  go_wp2_with fail
  refine Calls.mono (HC2.out _) ?_
  rintro e wn ⟨rfl, hbn⟩
  replace hB := hB.trans (hbn.mono (Nat.le_trans (Nat.le_of_eq hD.out.symm) hB.size)); replace st := st.below hbn; replace c0 := st.c0; replace c1 := st.c1; replace c2 := st.c2; replace c3 := st.c3; clear hbn
  go_wp2_with fail
  replace st := st.drew
  replace hB := hB.drew
  go_region_held3 (fun w' => w'.cell? ⟨D, 0, none⟩ = some (.int .i64 k) ∧ w'.cell? ⟨D, 1, none⟩ = some (.int .i64 a) ∧ w'.cell? ⟨D, 2, none⟩ = some (.string ⟨p.toArray⟩) ∧ w'.cell? ⟨D, 3, none⟩ = some (.string ⟨f.toArray⟩)) (go_keep) (first | (go_at_call 44; refine Calls.mono (HK.out _) ?_; rintro e wn ⟨rfl, hbn⟩; replace hB := hB.trans (hbn.mono (Nat.le_trans (Nat.le_of_eq hD.out.symm) hB.size)); replace st := st.below hbn; replace c0 := st.c0; replace c1 := st.c1; replace c2 := st.c2; replace c3 := st.c3; clear hbn) | (go_at_call 118; refine Calls.mono (HV.out _) ?_; rintro e wn ⟨rfl, hbn⟩; replace hB := hB.trans (hbn.mono (Nat.le_trans (Nat.le_of_eq hD.out.symm) hB.size)); replace st := st.below hbn; replace c0 := st.c0; replace c1 := st.c1; replace c2 := st.c2; replace c3 := st.c3; clear hbn))
  go_wp2
  go_ret
  refine ⟨?_, by rw [hD.out]; exact hB⟩
  rw [HN.out]
  simp [shNode, @eq_comm (List UInt8) [] p, @eq_comm (List UInt8) [] f]

set_option maxHeartbeats 4000000 in
set_option maxRecDepth 100000 in
theorem nodeOk_arg_no (k a : Int) (p f : List UInt8) (b : Int) (w : World) (e : shOf (k, a, p, f) = .arg b) (hs : shOk (.arg b) = false) :
    Calls Tryd.prog 17 #[nodeVal (k, a, p, f)] w fun e w' => e = .returned (.bool (nodeB (k, a, p, f))) ∧ Below w.heap.size w w' := by
  have HN : Hid (nodeB (k, a, p, f) = (false && decide (shNode (.arg b) = (k, a, p, f)))) := by exact (by rw [node_sh, e, hs] : nodeB (k, a, p, f) = (false && decide (shNode (.arg b) = (k, a, p, f))))
  have HC := implShapeOf (k, a, p, f)
  rw [e] at HC
  have HC2 : Hid (_) := HC
  have HK : Hid (_) := fun W : World => implShapeOk (.arg b) W (fun _ _ _ e => by cases e)
  rw [hs] at HK
  clear HC hs e
  unfold nodeVal shVal at HC2
  unfold shVal at HK
  unfold nodeVal
  simp only at HC2 HK ⊢
  obtain ⟨W0, hW0⟩ : ∃ W0, w.alloc (.cells #[.int .i64 k, .int .i64 a, .string ⟨p.toArray⟩, .string ⟨f.toArray⟩] 31) = W0 := ⟨_, rfl⟩
  have st := NdAt.new w k a p f
  have hB : Below w.heap.size w W0 := by rw [← hW0]; exact (Below.refl _ w).alloc (Nat.le_refl _) _
  rw [hW0] at st
  obtain ⟨D, hD0⟩ : ∃ D, w.heap.size = D := ⟨_, rfl⟩
  rw [hD0] at st hB
  have hD : Hid (w.heap.size = D) := hD0
  have c0 := st.c0
  have c1 := st.c1
  have c2 := st.c2
  have c3 := st.c3
  go_enter Tryd.func17, Tryd.ntmps17
  go_wp2_with fail
  refine Calls.mono (HC2.out _) ?_
  rintro e wn ⟨rfl, hbn⟩
  replace hB := hB.trans (hbn.mono (Nat.le_trans (Nat.le_of_eq hD.out.symm) hB.size)); replace st := st.below hbn; replace c0 := st.c0; replace c1 := st.c1; replace c2 := st.c2; replace c3 := st.c3; clear hbn
  go_wp2_with fail
  replace st := st.drew
  replace hB := hB.drew
  refine wp_region_held_drew (S := (fun _ => True)) (by kernel_rfl) ?_ (fun hHeld => ?_)
  · exact True.intro
  refine wpAnyH_take (i := 0) (oi := ⟨some 6, _, _, _, _, _⟩) (v := ?v0) rfl (by kernel_rfl) (by kernel_rfl) (by kernel_rfl) (fun _ _ _ h => h) (Or.inl ⟨by rfl, ?hy0⟩) (by assumption) ?rest0
  case hy0 => (intro wq hSw; (try dsimp only at hSw); first | (go_simp; done) | (go_simp; with_reducible rfl))
  simp only [Act.put, List.setIfInBounds_toArray, List.set_cons_zero, List.set_cons_succ]
  refine wpAnyH_ready (rs := [1]) (by kernel_rfl) (by simp) ?_
  refine AllReadyH.cons rfl (fun K hK => ?_) AllReadyH.nil
  go_simp
  (go_at_call 44; refine Calls.mono (HK.out _) ?_; rintro e wn ⟨rfl, hbn⟩; replace hB := hB.trans (hbn.mono (Nat.le_trans (Nat.le_of_eq hD.out.symm) hB.size)); replace st := st.below hbn; replace c0 := st.c0; replace c1 := st.c1; replace c2 := st.c2; replace c3 := st.c3; clear hbn)
  refine hK.out _ _ ?_ (fun hHeld => ?_)
  · exact True.intro
  clear hK K
  refine wpAnyH_take (i := 2) (oi := ⟨some 8, _, _, _, _, _⟩) (v := ?v2) rfl (by kernel_rfl) (by kernel_rfl) (by kernel_rfl) (fun _ _ _ h => h) (Or.inl ⟨by rfl, ?hy2⟩) (by assumption) ?rest2
  case hy2 => (intro wq hSw; (try dsimp only at hSw); first | (go_simp; done) | (go_simp; with_reducible rfl))
  simp only [Act.put, List.setIfInBounds_toArray, List.set_cons_zero, List.set_cons_succ]
  refine wpAnyH_take (i := 3) (oi := ⟨some 9, _, _, _, _, _⟩) (v := undef) rfl (by kernel_rfl) (by kernel_rfl) (by kernel_rfl) (fun _ _ _ h => h) (Or.inr ⟨by rfl, rfl⟩) (by assumption) ?_
  simp only [Act.put, List.setIfInBounds_toArray, List.set_cons_zero, List.set_cons_succ]
  refine wpAnyH_take (i := 4) (oi := ⟨some 10, _, _, _, _, _⟩) (v := undef) rfl (by kernel_rfl) (by kernel_rfl) (by kernel_rfl) (fun _ _ _ h => h) (Or.inr ⟨by rfl, rfl⟩) (by assumption) ?_
  simp only [Act.put, List.setIfInBounds_toArray, List.set_cons_zero, List.set_cons_succ]
  refine wpAnyH_take (i := 5) (oi := ⟨some 11, _, _, _, _, _⟩) (v := undef) rfl (by kernel_rfl) (by kernel_rfl) (by kernel_rfl) (fun _ _ _ h => h) (Or.inr ⟨by rfl, rfl⟩) (by assumption) ?_
  simp only [Act.put, List.setIfInBounds_toArray, List.set_cons_zero, List.set_cons_succ]
  refine wpAnyH_take (i := 6) (oi := ⟨some 12, _, _, _, _, _⟩) (v := undef) rfl (by kernel_rfl) (by kernel_rfl) (by kernel_rfl) (fun _ _ _ h => h) (Or.inr ⟨by rfl, rfl⟩) (by assumption) ?_
  simp only [Act.put, List.setIfInBounds_toArray, List.set_cons_zero, List.set_cons_succ]
  refine wpAnyH_take (i := 7) (oi := ⟨some 13, _, _, _, _, _⟩) (v := ?v7) rfl (by kernel_rfl) (by kernel_rfl) (by kernel_rfl) (fun _ _ _ h => h) (Or.inl ⟨by rfl, ?hy7⟩) (by assumption) ?rest7
  case hy7 => (intro wq hSw; (try dsimp only at hSw); first | (go_simp; done) | (go_simp; with_reducible rfl))
  simp only [Act.put, List.setIfInBounds_toArray, List.set_cons_zero, List.set_cons_succ]
  refine wpAnyH_take (i := 8) (oi := ⟨some 2, _, _, _, _, _⟩) (v := ?v8) rfl (by kernel_rfl) (by kernel_rfl) (by kernel_rfl) (fun _ _ _ h => h) (Or.inl ⟨by rfl, ?hy8⟩) (by assumption) ?rest8
  case hy8 => (intro wq hSw; (try dsimp only at hSw); first | (go_simp; done) | (go_simp; with_reducible rfl))
  simp only [Act.put, List.setIfInBounds_toArray, List.set_cons_zero, List.set_cons_succ]
  refine wpAnyH_done (by kernel_rfl) ?_ _
  go_wp2
  go_ret
  refine ⟨?_, by rw [hD.out]; exact hB⟩
  rw [HN.out]
  rfl

set_option maxHeartbeats 4000000 in
set_option maxRecDepth 100000 in
theorem nodeOk_pair_yes (k a : Int) (p f : List UInt8) (b : Int) (w : World) (e : shOf (k, a, p, f) = .pair b) (hs : shOk (.pair b) = true) :
    Calls Tryd.prog 17 #[nodeVal (k, a, p, f)] w fun e w' => e = .returned (.bool (nodeB (k, a, p, f))) ∧ Below w.heap.size w w' := by
  have HN : Hid (nodeB (k, a, p, f) = (true && decide (shNode (.pair b) = (k, a, p, f)))) := by exact (by rw [node_sh, e, hs] : nodeB (k, a, p, f) = (true && decide (shNode (.pair b) = (k, a, p, f))))
  have HC := implShapeOf (k, a, p, f)
  rw [e] at HC
  have HC2 : Hid (_) := HC
  have HK : Hid (_) := fun W : World => implShapeOk (.pair b) W (fun _ _ _ e => by cases e)
  rw [hs] at HK
  have HV : Hid (_) := fun W : World => node_pair b W
  unfold nodeVal shNode at HV
  simp only at HV
  have hEq := nodes_eq
  clear HC hs e
  unfold nodeVal shVal at HC2
  unfold shVal at HK
  unfold nodeVal
  simp only at HC2 HK ⊢
  obtain ⟨W0, hW0⟩ : ∃ W0, w.alloc (.cells #[.int .i64 k, .int .i64 a, .string ⟨p.toArray⟩, .string ⟨f.toArray⟩] 31) = W0 := ⟨_, rfl⟩
  have st := NdAt.new w k a p f
  have hB : Below w.heap.size w W0 := by rw [← hW0]; exact (Below.refl _ w).alloc (Nat.le_refl _) _
  rw [hW0] at st
  obtain ⟨D, hD0⟩ : ∃ D, w.heap.size = D := ⟨_, rfl⟩
  rw [hD0] at st hB
  have hD : Hid (w.heap.size = D) := hD0
  have c0 := st.c0
  have c1 := st.c1
  have c2 := st.c2
  have c3 := st.c3
  go_enter Tryd.func17, Tryd.ntmps17
  go_wp2_with fail
  refine Calls.mono (HC2.out _) ?_
  rintro e wn ⟨rfl, hbn⟩
  replace hB := hB.trans (hbn.mono (Nat.le_trans (Nat.le_of_eq hD.out.symm) hB.size)); replace st := st.below hbn; replace c0 := st.c0; replace c1 := st.c1; replace c2 := st.c2; replace c3 := st.c3; clear hbn
  go_wp2_with fail
  replace st := st.drew
  replace hB := hB.drew
  go_region_held3 (fun w' => w'.cell? ⟨D, 0, none⟩ = some (.int .i64 k) ∧ w'.cell? ⟨D, 1, none⟩ = some (.int .i64 a) ∧ w'.cell? ⟨D, 2, none⟩ = some (.string ⟨p.toArray⟩) ∧ w'.cell? ⟨D, 3, none⟩ = some (.string ⟨f.toArray⟩)) (go_keep) (first | (go_at_call 44; refine Calls.mono (HK.out _) ?_; rintro e wn ⟨rfl, hbn⟩; replace hB := hB.trans (hbn.mono (Nat.le_trans (Nat.le_of_eq hD.out.symm) hB.size)); replace st := st.below hbn; replace c0 := st.c0; replace c1 := st.c1; replace c2 := st.c2; replace c3 := st.c3; clear hbn) | (go_at_call 119; refine Calls.mono (HV.out _) ?_; rintro e wn ⟨rfl, hbn⟩; replace hB := hB.trans (hbn.mono (Nat.le_trans (Nat.le_of_eq hD.out.symm) hB.size)); replace st := st.below hbn; replace c0 := st.c0; replace c1 := st.c1; replace c2 := st.c2; replace c3 := st.c3; clear hbn))
  go_wp2
  go_ret
  refine ⟨?_, by rw [hD.out]; exact hB⟩
  rw [HN.out]
  simp [shNode, @eq_comm (List UInt8) [] p, @eq_comm (List UInt8) [] f]

set_option maxHeartbeats 4000000 in
set_option maxRecDepth 100000 in
theorem nodeOk_cond_yes (k a : Int) (p f : List UInt8)  (w : World) (e : shOf (k, a, p, f) = .cond) (hs : shOk (.cond) = true) :
    Calls Tryd.prog 17 #[nodeVal (k, a, p, f)] w fun e w' => e = .returned (.bool (nodeB (k, a, p, f))) ∧ Below w.heap.size w w' := by
  have HN : Hid (nodeB (k, a, p, f) = (true && decide (shNode (.cond) = (k, a, p, f)))) := by exact (by rw [node_sh, e, hs] : nodeB (k, a, p, f) = (true && decide (shNode (.cond) = (k, a, p, f))))
  have HC := implShapeOf (k, a, p, f)
  rw [e] at HC
  have HC2 : Hid (_) := HC
  have HK : Hid (_) := fun W : World => implShapeOk (.cond) W (fun _ _ _ e => by cases e)
  rw [hs] at HK
  have HV : Hid (_) := fun W : World => node_cond  W
  unfold nodeVal shNode at HV
  simp only at HV
  have hEq := nodes_eq
  clear HC hs e
  unfold nodeVal shVal at HC2
  unfold shVal at HK
  unfold nodeVal
  simp only at HC2 HK ⊢
  obtain ⟨W0, hW0⟩ : ∃ W0, w.alloc (.cells #[.int .i64 k, .int .i64 a, .string ⟨p.toArray⟩, .string ⟨f.toArray⟩] 31) = W0 := ⟨_, rfl⟩
  have st := NdAt.new w k a p f
  have hB : Below w.heap.size w W0 := by rw [← hW0]; exact (Below.refl _ w).alloc (Nat.le_refl _) _
  rw [hW0] at st
  obtain ⟨D, hD0⟩ : ∃ D, w.heap.size = D := ⟨_, rfl⟩
  rw [hD0] at st hB
  have hD : Hid (w.heap.size = D) := hD0
  have c0 := st.c0
  have c1 := st.c1
  have c2 := st.c2
  have c3 := st.c3
  go_enter Tryd.func17, Tryd.ntmps17
  go_wp2_with fail
  refine Calls.mono (HC2.out _) ?_
  rintro e wn ⟨rfl, hbn⟩
  replace hB := hB.trans (hbn.mono (Nat.le_trans (Nat.le_of_eq hD.out.symm) hB.size)); replace st := st.below hbn; replace c0 := st.c0; replace c1 := st.c1; replace c2 := st.c2; replace c3 := st.c3; clear hbn
  go_wp2_with fail
  replace st := st.drew
  replace hB := hB.drew
  go_region_held3 (fun w' => w'.cell? ⟨D, 0, none⟩ = some (.int .i64 k) ∧ w'.cell? ⟨D, 1, none⟩ = some (.int .i64 a) ∧ w'.cell? ⟨D, 2, none⟩ = some (.string ⟨p.toArray⟩) ∧ w'.cell? ⟨D, 3, none⟩ = some (.string ⟨f.toArray⟩)) (go_keep) (first | (go_at_call 44; refine Calls.mono (HK.out _) ?_; rintro e wn ⟨rfl, hbn⟩; replace hB := hB.trans (hbn.mono (Nat.le_trans (Nat.le_of_eq hD.out.symm) hB.size)); replace st := st.below hbn; replace c0 := st.c0; replace c1 := st.c1; replace c2 := st.c2; replace c3 := st.c3; clear hbn) | (go_at_call 120; refine Calls.mono (HV.out _) ?_; rintro e wn ⟨rfl, hbn⟩; replace hB := hB.trans (hbn.mono (Nat.le_trans (Nat.le_of_eq hD.out.symm) hB.size)); replace st := st.below hbn; replace c0 := st.c0; replace c1 := st.c1; replace c2 := st.c2; replace c3 := st.c3; clear hbn))
  go_wp2
  go_ret
  refine ⟨?_, by rw [hD.out]; exact hB⟩
  rw [HN.out]
  simp [shNode, @eq_comm (List UInt8) [] p, @eq_comm (List UInt8) [] f]

set_option maxHeartbeats 4000000 in
set_option maxRecDepth 100000 in
theorem nodeOk_call_yes (k a : Int) (p f : List UInt8) (q : List UInt8) (g : List UInt8) (b : Int) (w : World) (e : shOf (k, a, p, f) = .call q g b) (hs : shOk (.call q g b) = true) (hq : q.length ≤ 1048576) (hg : g.length ≤ 1048576) :
    Calls Tryd.prog 17 #[nodeVal (k, a, p, f)] w fun e w' => e = .returned (.bool (nodeB (k, a, p, f))) ∧ Below w.heap.size w w' := by
  have HN : Hid (nodeB (k, a, p, f) = (true && decide (shNode (.call q g b) = (k, a, p, f)))) := by exact (by rw [node_sh, e, hs] : nodeB (k, a, p, f) = (true && decide (shNode (.call q g b) = (k, a, p, f))))
  have HC := implShapeOf (k, a, p, f)
  rw [e] at HC
  have HC2 : Hid (_) := HC
  have HK : Hid (_) := fun W : World => implShapeOk (.call q g b) W (fun _ _ _ e => by injection e with e1 e2; subst e1; subst e2; exact ⟨hq, hg⟩)
  rw [hs] at HK
  have HV : Hid (_) := fun W : World => node_call q g b W
  unfold nodeVal shNode at HV
  simp only at HV
  have hEq := nodes_eq
  clear HC hs e
  unfold nodeVal shVal at HC2
  unfold shVal at HK
  unfold nodeVal
  simp only at HC2 HK ⊢
  obtain ⟨W0, hW0⟩ : ∃ W0, w.alloc (.cells #[.int .i64 k, .int .i64 a, .string ⟨p.toArray⟩, .string ⟨f.toArray⟩] 31) = W0 := ⟨_, rfl⟩
  have st := NdAt.new w k a p f
  have hB : Below w.heap.size w W0 := by rw [← hW0]; exact (Below.refl _ w).alloc (Nat.le_refl _) _
  rw [hW0] at st
  obtain ⟨D, hD0⟩ : ∃ D, w.heap.size = D := ⟨_, rfl⟩
  rw [hD0] at st hB
  have hD : Hid (w.heap.size = D) := hD0
  have c0 := st.c0
  have c1 := st.c1
  have c2 := st.c2
  have c3 := st.c3
  go_enter Tryd.func17, Tryd.ntmps17
  go_wp2_with fail
  refine Calls.mono (HC2.out _) ?_
  rintro e wn ⟨rfl, hbn⟩
  replace hB := hB.trans (hbn.mono (Nat.le_trans (Nat.le_of_eq hD.out.symm) hB.size)); replace st := st.below hbn; replace c0 := st.c0; replace c1 := st.c1; replace c2 := st.c2; replace c3 := st.c3; clear hbn
  go_wp2_with fail
  replace st := st.drew
  replace hB := hB.drew
  go_region_held3 (fun w' => w'.cell? ⟨D, 0, none⟩ = some (.int .i64 k) ∧ w'.cell? ⟨D, 1, none⟩ = some (.int .i64 a) ∧ w'.cell? ⟨D, 2, none⟩ = some (.string ⟨p.toArray⟩) ∧ w'.cell? ⟨D, 3, none⟩ = some (.string ⟨f.toArray⟩)) (go_keep) (first | (go_at_call 44; refine Calls.mono (HK.out _) ?_; rintro e wn ⟨rfl, hbn⟩; replace hB := hB.trans (hbn.mono (Nat.le_trans (Nat.le_of_eq hD.out.symm) hB.size)); replace st := st.below hbn; replace c0 := st.c0; replace c1 := st.c1; replace c2 := st.c2; replace c3 := st.c3; clear hbn) | (go_at_call 121; refine Calls.mono (HV.out _) ?_; rintro e wn ⟨rfl, hbn⟩; replace hB := hB.trans (hbn.mono (Nat.le_trans (Nat.le_of_eq hD.out.symm) hB.size)); replace st := st.below hbn; replace c0 := st.c0; replace c1 := st.c1; replace c2 := st.c2; replace c3 := st.c3; clear hbn))
  go_wp2
  go_ret
  refine ⟨?_, by rw [hD.out]; exact hB⟩
  rw [HN.out]
  simp [shNode]

set_option maxHeartbeats 4000000 in
set_option maxRecDepth 100000 in
theorem nodeOk_call_no (k a : Int) (p f : List UInt8) (q : List UInt8) (g : List UInt8) (b : Int) (w : World) (e : shOf (k, a, p, f) = .call q g b) (hs : shOk (.call q g b) = false) (hq : q.length ≤ 1048576) (hg : g.length ≤ 1048576) :
    Calls Tryd.prog 17 #[nodeVal (k, a, p, f)] w fun e w' => e = .returned (.bool (nodeB (k, a, p, f))) ∧ Below w.heap.size w w' := by
  have HN : Hid (nodeB (k, a, p, f) = (false && decide (shNode (.call q g b) = (k, a, p, f)))) := by exact (by rw [node_sh, e, hs] : nodeB (k, a, p, f) = (false && decide (shNode (.call q g b) = (k, a, p, f))))
  have HC := implShapeOf (k, a, p, f)
  rw [e] at HC
  have HC2 : Hid (_) := HC
  have HK : Hid (_) := fun W : World => implShapeOk (.call q g b) W (fun _ _ _ e => by injection e with e1 e2; subst e1; subst e2; exact ⟨hq, hg⟩)
  rw [hs] at HK
  clear HC hs e
  unfold nodeVal shVal at HC2
  unfold shVal at HK
  unfold nodeVal
  simp only at HC2 HK ⊢
  obtain ⟨W0, hW0⟩ : ∃ W0, w.alloc (.cells #[.int .i64 k, .int .i64 a, .string ⟨p.toArray⟩, .string ⟨f.toArray⟩] 31) = W0 := ⟨_, rfl⟩
  have st := NdAt.new w k a p f
  have hB : Below w.heap.size w W0 := by rw [← hW0]; exact (Below.refl _ w).alloc (Nat.le_refl _) _
  rw [hW0] at st
  obtain ⟨D, hD0⟩ : ∃ D, w.heap.size = D := ⟨_, rfl⟩
  rw [hD0] at st hB
  have hD : Hid (w.heap.size = D) := hD0
  have c0 := st.c0
  have c1 := st.c1
  have c2 := st.c2
  have c3 := st.c3
  go_enter Tryd.func17, Tryd.ntmps17
  go_wp2_with fail
  refine Calls.mono (HC2.out _) ?_
  rintro e wn ⟨rfl, hbn⟩
  replace hB := hB.trans (hbn.mono (Nat.le_trans (Nat.le_of_eq hD.out.symm) hB.size)); replace st := st.below hbn; replace c0 := st.c0; replace c1 := st.c1; replace c2 := st.c2; replace c3 := st.c3; clear hbn
  go_wp2_with fail
  replace st := st.drew
  replace hB := hB.drew
  refine wp_region_held_drew (S := (fun _ => True)) (by kernel_rfl) ?_ (fun hHeld => ?_)
  · exact True.intro
  refine wpAnyH_take (i := 0) (oi := ⟨some 6, _, _, _, _, _⟩) (v := ?v0) rfl (by kernel_rfl) (by kernel_rfl) (by kernel_rfl) (fun _ _ _ h => h) (Or.inl ⟨by rfl, ?hy0⟩) (by assumption) ?rest0
  case hy0 => (intro wq hSw; (try dsimp only at hSw); first | (go_simp; done) | (go_simp; with_reducible rfl))
  simp only [Act.put, List.setIfInBounds_toArray, List.set_cons_zero, List.set_cons_succ]
  refine wpAnyH_ready (rs := [1]) (by kernel_rfl) (by simp) ?_
  refine AllReadyH.cons rfl (fun K hK => ?_) AllReadyH.nil
  go_simp
  (go_at_call 44; refine Calls.mono (HK.out _) ?_; rintro e wn ⟨rfl, hbn⟩; replace hB := hB.trans (hbn.mono (Nat.le_trans (Nat.le_of_eq hD.out.symm) hB.size)); replace st := st.below hbn; replace c0 := st.c0; replace c1 := st.c1; replace c2 := st.c2; replace c3 := st.c3; clear hbn)
  refine hK.out _ _ ?_ (fun hHeld => ?_)
  · exact True.intro
  clear hK K
  refine wpAnyH_take (i := 2) (oi := ⟨some 8, _, _, _, _, _⟩) (v := ?v2) rfl (by kernel_rfl) (by kernel_rfl) (by kernel_rfl) (fun _ _ _ h => h) (Or.inl ⟨by rfl, ?hy2⟩) (by assumption) ?rest2
  case hy2 => (intro wq hSw; (try dsimp only at hSw); first | (go_simp; done) | (go_simp; with_reducible rfl))
  simp only [Act.put, List.setIfInBounds_toArray, List.set_cons_zero, List.set_cons_succ]
  refine wpAnyH_take (i := 3) (oi := ⟨some 9, _, _, _, _, _⟩) (v := undef) rfl (by kernel_rfl) (by kernel_rfl) (by kernel_rfl) (fun _ _ _ h => h) (Or.inr ⟨by rfl, rfl⟩) (by assumption) ?_
  simp only [Act.put, List.setIfInBounds_toArray, List.set_cons_zero, List.set_cons_succ]
  refine wpAnyH_take (i := 4) (oi := ⟨some 10, _, _, _, _, _⟩) (v := undef) rfl (by kernel_rfl) (by kernel_rfl) (by kernel_rfl) (fun _ _ _ h => h) (Or.inr ⟨by rfl, rfl⟩) (by assumption) ?_
  simp only [Act.put, List.setIfInBounds_toArray, List.set_cons_zero, List.set_cons_succ]
  refine wpAnyH_take (i := 5) (oi := ⟨some 11, _, _, _, _, _⟩) (v := undef) rfl (by kernel_rfl) (by kernel_rfl) (by kernel_rfl) (fun _ _ _ h => h) (Or.inr ⟨by rfl, rfl⟩) (by assumption) ?_
  simp only [Act.put, List.setIfInBounds_toArray, List.set_cons_zero, List.set_cons_succ]
  refine wpAnyH_take (i := 6) (oi := ⟨some 12, _, _, _, _, _⟩) (v := undef) rfl (by kernel_rfl) (by kernel_rfl) (by kernel_rfl) (fun _ _ _ h => h) (Or.inr ⟨by rfl, rfl⟩) (by assumption) ?_
  simp only [Act.put, List.setIfInBounds_toArray, List.set_cons_zero, List.set_cons_succ]
  refine wpAnyH_take (i := 7) (oi := ⟨some 13, _, _, _, _, _⟩) (v := ?v7) rfl (by kernel_rfl) (by kernel_rfl) (by kernel_rfl) (fun _ _ _ h => h) (Or.inl ⟨by rfl, ?hy7⟩) (by assumption) ?rest7
  case hy7 => (intro wq hSw; (try dsimp only at hSw); first | (go_simp; done) | (go_simp; with_reducible rfl))
  simp only [Act.put, List.setIfInBounds_toArray, List.set_cons_zero, List.set_cons_succ]
  refine wpAnyH_take (i := 8) (oi := ⟨some 2, _, _, _, _, _⟩) (v := ?v8) rfl (by kernel_rfl) (by kernel_rfl) (by kernel_rfl) (fun _ _ _ h => h) (Or.inl ⟨by rfl, ?hy8⟩) (by assumption) ?rest8
  case hy8 => (intro wq hSw; (try dsimp only at hSw); first | (go_simp; done) | (go_simp; with_reducible rfl))
  simp only [Act.put, List.setIfInBounds_toArray, List.set_cons_zero, List.set_cons_succ]
  refine wpAnyH_done (by kernel_rfl) ?_ _
  go_wp2
  go_ret
  refine ⟨?_, by rw [hD.out]; exact hB⟩
  rw [HN.out]
  rfl

set_option maxHeartbeats 4000000 in
set_option maxRecDepth 100000 in
theorem nodeOk_no_no (k a : Int) (p f : List UInt8)  (w : World) (e : shOf (k, a, p, f) = .no) (hs : shOk (.no) = false) :
    Calls Tryd.prog 17 #[nodeVal (k, a, p, f)] w fun e w' => e = .returned (.bool (nodeB (k, a, p, f))) ∧ Below w.heap.size w w' := by
  have HN : Hid (nodeB (k, a, p, f) = (false && decide (shNode (.no) = (k, a, p, f)))) := by exact (by rw [node_sh, e, hs] : nodeB (k, a, p, f) = (false && decide (shNode (.no) = (k, a, p, f))))
  have HC := implShapeOf (k, a, p, f)
  rw [e] at HC
  have HC2 : Hid (_) := HC
  have HK : Hid (_) := fun W : World => implShapeOk (.no) W (fun _ _ _ e => by cases e)
  rw [hs] at HK
  clear HC hs e
  unfold nodeVal shVal at HC2
  unfold shVal at HK
  unfold nodeVal
  simp only at HC2 HK ⊢
  obtain ⟨W0, hW0⟩ : ∃ W0, w.alloc (.cells #[.int .i64 k, .int .i64 a, .string ⟨p.toArray⟩, .string ⟨f.toArray⟩] 31) = W0 := ⟨_, rfl⟩
  have st := NdAt.new w k a p f
  have hB : Below w.heap.size w W0 := by rw [← hW0]; exact (Below.refl _ w).alloc (Nat.le_refl _) _
  rw [hW0] at st
  obtain ⟨D, hD0⟩ : ∃ D, w.heap.size = D := ⟨_, rfl⟩
  rw [hD0] at st hB
  have hD : Hid (w.heap.size = D) := hD0
  have c0 := st.c0
  have c1 := st.c1
  have c2 := st.c2
  have c3 := st.c3
  go_enter Tryd.func17, Tryd.ntmps17
  go_wp2_with fail
  refine Calls.mono (HC2.out _) ?_
  rintro e wn ⟨rfl, hbn⟩
  replace hB := hB.trans (hbn.mono (Nat.le_trans (Nat.le_of_eq hD.out.symm) hB.size)); replace st := st.below hbn; replace c0 := st.c0; replace c1 := st.c1; replace c2 := st.c2; replace c3 := st.c3; clear hbn
  go_wp2_with fail
  replace st := st.drew
  replace hB := hB.drew
  refine wp_region_held_drew (S := (fun _ => True)) (by kernel_rfl) ?_ (fun hHeld => ?_)
  · exact True.intro
  refine wpAnyH_take (i := 0) (oi := ⟨some 6, _, _, _, _, _⟩) (v := ?v0) rfl (by kernel_rfl) (by kernel_rfl) (by kernel_rfl) (fun _ _ _ h => h) (Or.inl ⟨by rfl, ?hy0⟩) (by assumption) ?rest0
  case hy0 => (intro wq hSw; (try dsimp only at hSw); first | (go_simp; done) | (go_simp; with_reducible rfl))
  simp only [Act.put, List.setIfInBounds_toArray, List.set_cons_zero, List.set_cons_succ]
  refine wpAnyH_ready (rs := [1]) (by kernel_rfl) (by simp) ?_
  refine AllReadyH.cons rfl (fun K hK => ?_) AllReadyH.nil
  go_simp
  (go_at_call 44; refine Calls.mono (HK.out _) ?_; rintro e wn ⟨rfl, hbn⟩; replace hB := hB.trans (hbn.mono (Nat.le_trans (Nat.le_of_eq hD.out.symm) hB.size)); replace st := st.below hbn; replace c0 := st.c0; replace c1 := st.c1; replace c2 := st.c2; replace c3 := st.c3; clear hbn)
  refine hK.out _ _ ?_ (fun hHeld => ?_)
  · exact True.intro
  clear hK K
  refine wpAnyH_take (i := 2) (oi := ⟨some 8, _, _, _, _, _⟩) (v := ?v2) rfl (by kernel_rfl) (by kernel_rfl) (by kernel_rfl) (fun _ _ _ h => h) (Or.inl ⟨by rfl, ?hy2⟩) (by assumption) ?rest2
  case hy2 => (intro wq hSw; (try dsimp only at hSw); first | (go_simp; done) | (go_simp; with_reducible rfl))
  simp only [Act.put, List.setIfInBounds_toArray, List.set_cons_zero, List.set_cons_succ]
  refine wpAnyH_take (i := 3) (oi := ⟨some 9, _, _, _, _, _⟩) (v := undef) rfl (by kernel_rfl) (by kernel_rfl) (by kernel_rfl) (fun _ _ _ h => h) (Or.inr ⟨by rfl, rfl⟩) (by assumption) ?_
  simp only [Act.put, List.setIfInBounds_toArray, List.set_cons_zero, List.set_cons_succ]
  refine wpAnyH_take (i := 4) (oi := ⟨some 10, _, _, _, _, _⟩) (v := undef) rfl (by kernel_rfl) (by kernel_rfl) (by kernel_rfl) (fun _ _ _ h => h) (Or.inr ⟨by rfl, rfl⟩) (by assumption) ?_
  simp only [Act.put, List.setIfInBounds_toArray, List.set_cons_zero, List.set_cons_succ]
  refine wpAnyH_take (i := 5) (oi := ⟨some 11, _, _, _, _, _⟩) (v := undef) rfl (by kernel_rfl) (by kernel_rfl) (by kernel_rfl) (fun _ _ _ h => h) (Or.inr ⟨by rfl, rfl⟩) (by assumption) ?_
  simp only [Act.put, List.setIfInBounds_toArray, List.set_cons_zero, List.set_cons_succ]
  refine wpAnyH_take (i := 6) (oi := ⟨some 12, _, _, _, _, _⟩) (v := undef) rfl (by kernel_rfl) (by kernel_rfl) (by kernel_rfl) (fun _ _ _ h => h) (Or.inr ⟨by rfl, rfl⟩) (by assumption) ?_
  simp only [Act.put, List.setIfInBounds_toArray, List.set_cons_zero, List.set_cons_succ]
  refine wpAnyH_take (i := 7) (oi := ⟨some 13, _, _, _, _, _⟩) (v := ?v7) rfl (by kernel_rfl) (by kernel_rfl) (by kernel_rfl) (fun _ _ _ h => h) (Or.inl ⟨by rfl, ?hy7⟩) (by assumption) ?rest7
  case hy7 => (intro wq hSw; (try dsimp only at hSw); first | (go_simp; done) | (go_simp; with_reducible rfl))
  simp only [Act.put, List.setIfInBounds_toArray, List.set_cons_zero, List.set_cons_succ]
  refine wpAnyH_take (i := 8) (oi := ⟨some 2, _, _, _, _, _⟩) (v := ?v8) rfl (by kernel_rfl) (by kernel_rfl) (by kernel_rfl) (fun _ _ _ h => h) (Or.inl ⟨by rfl, ?hy8⟩) (by assumption) ?rest8
  case hy8 => (intro wq hSw; (try dsimp only at hSw); first | (go_simp; done) | (go_simp; with_reducible rfl))
  simp only [Act.put, List.setIfInBounds_toArray, List.set_cons_zero, List.set_cons_succ]
  refine wpAnyH_done (by kernel_rfl) ?_ _
  go_wp2
  go_ret
  refine ⟨?_, by rw [hD.out]; exact hB⟩
  rw [HN.out]
  rfl

end Go.Proofs.YtjkfjenhocaljaaDoor

/-! The contracts of chapter 6's landed code: NodeOk, KidsOf, EndOf, TreeOk, PartsOf. -/
namespace Go.Proofs.YtjkfjenhocaljaaDoor
open Go.RowKit

theorem implNodeOk (n : Nd) (w : World) (_hi : IntN n) (hp : n.2.2.1.length ≤ 1048576) (hf : n.2.2.2.length ≤ 1048576) :
    Calls Tryd.prog 17 #[nodeVal n] w fun e w' => e = .returned (.bool (nodeB n)) ∧ Below w.heap.size w w' := by
  obtain ⟨k, a, p, f⟩ := n
  rcases shOf_kinds (k, a, p, f) with ⟨_, e⟩ | ⟨_, e⟩ | ⟨_, e⟩ | ⟨_, e⟩ | ⟨_, e⟩ | ⟨_, e⟩
  · rcases hs : shOk (.num a) with _ | _
    · exact nodeOk_num_no k a p f a w e hs
    · exact nodeOk_num_yes k a p f a w e hs
  · rcases hs : shOk (.arg a) with _ | _
    · exact nodeOk_arg_no k a p f a w e hs
    · exact nodeOk_arg_yes k a p f a w e hs
  · exact nodeOk_pair_yes k a p f k w e rfl
  · exact nodeOk_cond_yes k a p f w e rfl
  · rcases hs : shOk (.call p f a) with _ | _
    · exact nodeOk_call_no k a p f p f a w e hs hp hf
    · exact nodeOk_call_yes k a p f p f a w e hs hp hf
  · exact nodeOk_no_no k a p f w e rfl

set_option maxHeartbeats 1000000 in
set_option maxRecDepth 100000 in
theorem implKidsOf (n : Nd) (w : World) (hi : IntN n) (hp : n.2.2.1.length ≤ 1048576) (hf : n.2.2.2.length ≤ 1048576) :
    Calls Tryd.prog 19 #[nodeVal n] w fun e w' => e = .returned (.int .i64 (kidsOfV n)) ∧ Below w.heap.size w w' := by
  have HC : Hid (_) := fun W : World => implNodeOk n W hi hp hf
  have HS : Hid (_) := fun W : World => implShapeOf n W
  have HV : Hid (nodeB n = false → kidsOfV n = -1) := fun h => by unfold kidsOfV; rw [if_neg (by rw [h]; simp)]
  have HV2 : Hid (nodeB n = true → kidsOfV n = shKids (shOf n)) := fun h => by unfold kidsOfV; rw [if_pos h, kids_sh h]
  generalize nodeB n = nb at HC HV HV2
  generalize shOf n = s at HS HV2
  have HK : Hid (_) := fun W : World => implKidsOfShape s W
  obtain ⟨k, a, p, f⟩ := n
  unfold nodeVal at HC HS ⊢
  simp only at HC HS ⊢
  clear hi hp hf
  obtain ⟨W0, hW0⟩ : ∃ W0, w.alloc (.cells #[.int .i64 k, .int .i64 a, .string ⟨p.toArray⟩, .string ⟨f.toArray⟩] 31) = W0 := ⟨_, rfl⟩
  have st := NdAt.new w k a p f
  have hB : Below w.heap.size w W0 := by rw [← hW0]; exact (Below.refl _ w).alloc (Nat.le_refl _) _
  rw [hW0] at st
  obtain ⟨D, hD0⟩ : ∃ D, w.heap.size = D := ⟨_, rfl⟩
  rw [hD0] at st hB
  have hD : Hid (w.heap.size = D) := hD0
  have c0 := st.c0
  have c1 := st.c1
  have c2 := st.c2
  have c3 := st.c3
  go_enter Tryd.func19, Tryd.ntmps19
  go_wp2_with fail
  refine Calls.mono (HC.out _) ?_
  rintro e wn ⟨rfl, hbn⟩
  replace hB := hB.trans (hbn.mono (Nat.le_trans (Nat.le_of_eq hD.out.symm) hB.size))
  replace st := st.below hbn
  replace c0 := st.c0
  replace c1 := st.c1
  replace c2 := st.c2
  replace c3 := st.c3
  clear hbn
  rcases nb with _ | _
  · have HO : Hid (kidsOfV (k, a, p, f) = -1) := HV.out rfl
    go_wp2
    go_ret
    exact ⟨by rw [HO.out]; rfl, by rw [hD.out]; exact hB⟩
  · have HO : Hid (kidsOfV (k, a, p, f) = shKids s) := HV2.out rfl
    go_wp2_with fail
    refine Calls.mono (HS.out _) ?_
    rintro e wn ⟨rfl, hbn⟩
    replace hB := hB.trans (hbn.mono (Nat.le_trans (Nat.le_of_eq hD.out.symm) hB.size))
    clear hbn st c0 c1 c2 c3
    go_wp2_with fail
    refine Calls.mono (HK.out _) ?_
    rintro e wn ⟨rfl, hbn⟩
    replace hB := hB.trans (hbn.mono (Nat.le_trans (Nat.le_of_eq hD.out.symm) hB.size))
    go_wp2
    go_ret
    exact ⟨by rw [HO.out]; rfl, by rw [hD.out]; exact hB⟩

theorem kids_of (n : Nd) : (nodeB n = false ∧ kidsOfV n = -1) ∨ (nodeB n = true ∧ kidsOfV n = (kidsN n : Int) ∧ kidsN n ≤ 3) := by
  rcases h : nodeB n with _ | _
  · exact Or.inl ⟨rfl, by unfold kidsOfV; rw [if_neg (by rw [h]; simp)]⟩
  · obtain ⟨h1, h2⟩ := kidsV_ok h
    exact Or.inr ⟨rfl, by unfold kidsOfV; rw [if_pos h]; exact h1, h2⟩

set_option maxHeartbeats 2000000 in
set_option maxRecDepth 100000 in
theorem implEndOf (a : Option Addr) (len cap : Nat) (ns : List Nd) (at_ : Int) (w : World) (hin : NodesIn w a len ns) (hint : IntT ns) (hsh : ShortT ns) (hlen : len ≤ 1048576) (hat : -9223372036854775808 ≤ at_ ∧ at_ ≤ 9223372036854775807) :
    Calls Tryd.prog 41 #[.slice a len cap, .int .i64 at_] w fun e w' => e = .returned (.int .i64 (endV ns at_)) ∧ Below w.heap.size w w' := by
  obtain rfl : ns.length = len := hin.1
  by_cases h0 : at_ < 0
  · have HE : Hid (endV ns at_ = -1) := endV_out ns at_ (Or.inl h0)
    go_enter Tryd.func41, Tryd.ntmps41
    go_wp2
    go_ret
    exact ⟨by rw [HE.out]; rfl, Below.refl _ _⟩
  · obtain ⟨k0, rfl⟩ : ∃ k0 : Nat, at_ = (k0 : Int) := Int.eq_ofNat_of_zero_le (by omega)
    have h0' : ¬ (k0 : Int) < 0 := by omega
    have HE : Hid (endTo ns k0 1 = endV ns (k0 : Int)) := by
      by_cases hk : k0 < ns.length
      · exact endTo_start hk
      · exact (by rw [endTo_over (by omega), endV_out ns (k0 : Int) (Or.inr (by omega))] : endTo ns k0 1 = endV ns (k0 : Int))
    have HI : Hid (NodesIn w a ns.length ns) := hin
    have HS : Hid (ShortT ns) := hsh
    have HN0 : Hid (IntT ns) := hint
    clear hin hsh hint h0
    go_enter Tryd.func41, Tryd.ntmps41
    go_wp2
    go_loopw [1, 5] (fun av ov wr => ∃ k o : Nat, av = .int .i64 k ∧ ov = .int .i64 o ∧ (k ≤ ns.length ∨ (k = k0 ∧ o = 1)) ∧ o ≤ 1 + 3 * k ∧ Hid (endTo ns k o = endV ns (k0 : Int)) ∧ Below w.heap.size w wr) (fun av _ _ => ns.length - (intOf av).toNat)
    case atStart => exact ⟨k0, 1, rfl, rfl, Or.inr ⟨rfl, rfl⟩, by omega, HE, Below.refl _ _⟩
    case round =>
      obtain ⟨k, o, rfl, rfl, hk, ho, HT, hb⟩ := hrel
      clear HE
      by_cases hoz : o = 0
      · subst hoz
        have HF : Hid ((k : Int) = endV ns (k0 : Int)) := by exact (by rw [← HT.out, endTo_zero] : (k : Int) = endV ns (k0 : Int))
        go_wp2
        go_ret
        exact ⟨by rw [← HF.out]; rfl, hb⟩
      · obtain ⟨o', rfl⟩ : ∃ o', o = o' + 1 := ⟨o - 1, by omega⟩
        have ho1 : (0 : Int) < ((o' + 1 : Nat) : Int) := by omega
        by_cases hkl : (ns.length : Int) ≤ (k : Int)
        · have HF : Hid (endV ns (k0 : Int) = -1) := by exact (by rw [← HT.out, endTo_over (by omega)] : endV ns (k0 : Int) = -1)
          clear hoz
          go_wp2
          go_ret
          exact ⟨by rw [HF.out]; rfl, hb⟩
        · obtain ⟨b, off, rfl, hbl, hcells⟩ := (HI.out.below hb).at (by omega)
          obtain ⟨c0, c1, c2, c3⟩ := hcells k (by omega)
          have hs := HS.out k
          have hz := HN0.out k
          obtain ⟨n, hn⟩ : ∃ n, ns.getD k nd0 = n := ⟨_, rfl⟩
          rw [hn] at c0 c1 c2 c3 hs hz
          have HN : Hid (ns.getD k nd0 = n) := hn
          have HC : Hid (_) := fun W : World => implKidsOf n W hz hs.1 hs.2
          have HK : Hid (_) := kids_of n
          generalize hkn : kidsOfV n = kn at HC HK
          obtain ⟨kd, aa, p, f⟩ := n
          unfold nodeVal at HC
          simp only at c0 c1 c2 c3 HC
          clear hn hcells hoz hs hz hkn
          go_wp2_with fail
          refine Calls.mono (HC.out _) ?_
          rintro e w1 ⟨rfl, hb1⟩
          have hB1 := hb.trans (hb1.mono hb.size)
          clear c0 c1 c2 c3 hb1 hb HC
          rcases HK.out with ⟨hnb, rfl⟩ | ⟨hnb, rfl, hk3⟩
          · have HF : Hid (endV ns (k0 : Int) = -1) := by exact (by rw [← HT.out, endTo_bad (by omega) (by rw [HN.out]; exact hnb)] : endV ns (k0 : Int) = -1)
            clear hnb
            go_wp2
            go_ret
            exact ⟨by rw [HF.out]; rfl, hB1⟩
          · have HT2 : Hid (endTo ns (k + 1) (o' + kidsN (kd, aa, p, f)) = endV ns (k0 : Int)) := by
              have := endTo_round (o := o') (show k < ns.length by omega) (by rw [HN.out]; exact hnb)
              rw [HN.out] at this
              exact (by rw [← this]; exact HT.out : endTo ns (k + 1) (o' + kidsN (kd, aa, p, f)) = endV ns (k0 : Int))
            clear hnb
            generalize kidsN (kd, aa, p, f) = q at hk3 HT2 ⊢
            have hq1 : ((q : Int) == -1) = false := beq_eq_false_iff_ne.2 (by omega)
            have hkk : k ≤ ns.length := by omega
            clear hk HK
            go_wp2
            go_roundw
            case rel => exact ⟨k + 1, o' + q, by go_num, by go_num, Or.inl (by omega), by omega, HT2, hB1⟩
            case measure => simp [intOf]; omega

theorem treeB_many (ns : List Nd) (h : ¬ (1 ≤ ns.length ∧ ns.length ≤ 60)) : treeB ns = false := decide_eq_false (fun g => h g.1)
theorem treeB_end (ns : List Nd) (h : 1 ≤ ns.length ∧ ns.length ≤ 60) : treeB ns = (endV ns 0 == (ns.length : Int)) := by
  rw [Bool.eq_iff_iff, beq_iff_eq]
  unfold treeB
  rw [decide_eq_true_iff]
  exact ⟨fun g => g.2, fun g => ⟨h, g⟩⟩

set_option maxHeartbeats 1000000 in
set_option maxRecDepth 100000 in
theorem implTreeOk (a : Option Addr) (len cap : Nat) (ns : List Nd) (w : World) (hin : NodesIn w a len ns) (hint : IntT ns) (hsh : ShortT ns) (hlen : len ≤ 1048576) :
    Calls Tryd.prog 15 #[.slice a len cap] w fun e w' => e = .returned (.bool (treeB ns)) ∧ Below w.heap.size w w' := by
  obtain rfl : ns.length = len := hin.1
  have HC : Hid (_) := implEndOf a ns.length cap ns 0 w hin hint hsh hlen (by omega)
  by_cases h1 : (1 : Int) ≤ (ns.length : Int)
  · by_cases h2 : (ns.length : Int) ≤ 60
    · have HT : Hid (treeB ns = (endV ns 0 == (ns.length : Int))) := treeB_end ns (by omega)
      generalize endV ns 0 = e0 at HC HT
      clear hin hint hsh
      go_enter Tryd.func15, Tryd.ntmps15
      go_wp2_with fail
      refine Calls.mono HC.out ?_
      rintro e w1 ⟨rfl, hb1⟩
      go_wp2
      go_ret
      exact ⟨by rw [HT.out]; rfl, hb1⟩
    · have HT : Hid (treeB ns = false) := treeB_many ns (by omega)
      clear hin hint hsh
      go_enter Tryd.func15, Tryd.ntmps15
      go_wp2
      go_ret
      exact ⟨by rw [HT.out]; rfl, Below.refl _ _⟩
  · have HT : Hid (treeB ns = false) := treeB_many ns (by omega)
    clear hin hint hsh
    go_enter Tryd.func15, Tryd.ntmps15
    go_wp2
    go_ret
    exact ⟨by rw [HT.out]; rfl, Below.refl _ _⟩

/-- Parts one behind the other go up. -/
theorem chain_neg (l : List Nd) : ∀ r, chain l r (-1) = -1
  | 0 => rfl
  | r + 1 => by rw [chain, endV_out l (-1) (by omega)]; exact chain_neg l r
theorem endV_gt {l : List Nd} {t : Int} (h : 0 ≤ endV l t) : 0 ≤ t ∧ t < endV l t := by
  by_cases ht : t < 0
  · rw [endV_out l t (Or.inl ht)] at h; omega
  · obtain ⟨k, rfl⟩ : ∃ k : Nat, t = (k : Int) := Int.eq_ofNat_of_zero_le (by omega)
    exact ⟨by omega, (end_parts h).2.2.2.1⟩
theorem chain_ge (l : List Nd) : ∀ (r : Nat) (t : Int), 0 ≤ chain l r t → t ≤ chain l r t ∧ (0 < r → t < chain l r t)
  | 0, t, _ => ⟨Int.le_refl _, fun h => by omega⟩
  | r + 1, t, h => by
    rw [chain] at h ⊢
    by_cases he : 0 ≤ endV l t
    · have h1 := endV_gt he
      have h2 := (chain_ge l r (endV l t) h).1
      exact ⟨by omega, fun _ => by omega⟩
    · have h1 := (endV_le l t).1
      rw [show endV l t = -1 by omega, chain_neg] at h
      omega


end Go.Proofs.YtjkfjenhocaljaaDoor

/-! Small facts for the walks of stage 6. -/
namespace Go.Proofs.YtjkfjenhocaljaaDoor
open Go.RowKit

theorem own_ne3 {v v2 : Value} (hd : ∀ q, v.ownBlock = some q → v2.ownBlock = some q → False) : v.ownBlock = none ∨ v.ownBlock ≠ v2.ownBlock := by
  rcases hv : v.ownBlock with _ | q
  · exact Or.inl rfl
  · exact Or.inr (fun e => hd q hv e.symm)

theorem partsV_len (l : List Nd) (a : Int) : (partsV l a).length ≤ 3 := by
  unfold partsV
  split
  · simp
  · rename_i hneg
    have hin2 : ¬ (a < 0 ∨ (l.length : Int) ≤ a) := fun h => hneg (by rw [endV_out l a h]; omega)
    obtain ⟨k, rfl⟩ : ∃ k : Nat, a = (k : Int) := Int.eq_ofNat_of_zero_le (by omega)
    obtain ⟨_, hnb, _⟩ := end_parts (by omega : 0 ≤ endV l (k : Int))
    rw [partsGo_len]
    exact (@kidsV_ok _ hnb).2

theorem readTV_len (s : List UInt8) : (readTV s).length ≤ 60 := by
  unfold readTV
  split
  · rename_i h
    unfold readOk at h
    simp only [Bool.and_eq_true] at h
    exact (tree_end h.2.1).1.2
  · simp

end Go.Proofs.YtjkfjenhocaljaaDoor

/-! What FnTrees and FnParts hold; plain facts of reading and showing. -/
namespace Go.Proofs.YtjkfjenhocaljaaDoor
open Go.RowKit

structure Hold6 (W : World) (D : Nat) (n : Nd) (aT : Option Addr) (T : List Nd) (aX : Option Addr) (X : List Nd) (aY : Option Addr) : Prop where
  c0 : W.cell? ⟨D, 0, none⟩ = some (.int .i64 n.1)
  c1 : W.cell? ⟨D, 1, none⟩ = some (.int .i64 n.2.1)
  c2 : W.cell? ⟨D, 2, none⟩ = some (.string ⟨n.2.2.1.toArray⟩)
  c3 : W.cell? ⟨D, 3, none⟩ = some (.string ⟨n.2.2.2.toArray⟩)
  t : NodesIn W aT T.length T
  x : NodesIn W aX X.length X
  y : NodesIn W aY X.length X

theorem Hold6.below {W W' : World} {D : Nat} {n : Nd} {aT : Option Addr} {T : List Nd} {aX : Option Addr} {X : List Nd} {aY : Option Addr} (h : Hold6 W D n aT T aX X aY) (hb : Below W.heap.size W W') : Hold6 W' D n aT T aX X aY :=
  have hl : D < W.heap.size := World.block_lt_of_cell? W ⟨D, 0, none⟩ h.c0
  ⟨(hb.cell (p := ⟨D, 0, none⟩) hl).trans h.c0, (hb.cell (p := ⟨D, 1, none⟩) hl).trans h.c1, (hb.cell (p := ⟨D, 2, none⟩) hl).trans h.c2, (hb.cell (p := ⟨D, 3, none⟩) hl).trans h.c3, h.t.below hb, h.x.below hb, h.y.below hb⟩

theorem Hold6.drew {W : World} {D : Nat} {n : Nd} {aT : Option Addr} {T : List Nd} {aX : Option Addr} {X : List Nd} {aY : Option Addr} (h : Hold6 W D n aT T aX X aY) : Hold6 W.drew D n aT T aX X aY := ⟨h.c0, h.c1, h.c2, h.c3, h.t, h.x, h.y⟩

theorem nodeB_small {n : Nd} (h : nodeB n = true) : SmallN n := by
  obtain ⟨k, a, p, f⟩ := n
  have hp := nodeB_iff.1 h
  unfold nodeP at hp
  simp only at hp
  unfold SmallN IntN
  simp only
  rcases hp with ⟨rfl, ⟨h0, h1⟩, rfl, rfl⟩ | ⟨rfl, ⟨h0, h1⟩, rfl, rfl⟩ | ⟨hk, rfl, rfl, rfl⟩ | ⟨rfl, ⟨h0, h1⟩, hpn, hfn⟩
  · exact ⟨⟨⟨by omega, by omega⟩, by omega, by omega⟩, by simp, by simp⟩
  · exact ⟨⟨⟨by omega, by omega⟩, by omega, by omega⟩, by simp, by simp⟩
  · exact ⟨⟨⟨by omega, by omega⟩, by omega, by omega⟩, by simp, by simp⟩
  · have := (name_letters hpn).1
    have := (name_letters hfn).1
    exact ⟨⟨⟨by omega, by omega⟩, by omega, by omega⟩, by omega, by omega⟩

theorem tree_small {ns : List Nd} (h : treeB ns = true) : SmallT ns := fun n hn => nodeB_small (tree_nodes h n hn)

theorem read_tv (s : List UInt8) : (readOk s = true ∧ treeB (readTV s) = true ∧ showT (readTV s) = s) ∨ (readOk s = false ∧ readTV s = []) := by
  rcases h : readOk s with _ | _
  · exact Or.inr ⟨rfl, by unfold readTV; rw [if_neg (by rw [h]; simp)]⟩
  · have hv : readTV s = readT s := by unfold readTV; rw [if_pos h]
    unfold readOk at h
    simp only [Bool.and_eq_true, decide_eq_true_eq, beq_iff_eq] at h
    refine Or.inl ⟨rfl, by rw [hv]; exact h.2.1, ?_⟩
    rw [hv]; unfold showT; rw [if_pos h.2.1]; exact h.2.2

theorem read_tv_small (s : List UInt8) : SmallT (readTV s) ∧ (readTV s).length ≤ 60 := by
  rcases read_tv s with ⟨_, h, _⟩ | ⟨_, h⟩
  · exact ⟨tree_small h, (tree_end h).1.2⟩
  · rw [h]; exact ⟨(fun n hn => by cases hn), by simp⟩

theorem tree_back {ns : List Nd} (h : treeB ns = true) : showT ns ≠ [] ∧ readOk (showT ns) = true ∧ readTV (showT ns) = ns := by
  have hs : showT ns = showL ns := by unfold showT; rw [if_pos h]
  have hr := readT_show ns h
  have hok : readOk (showL ns) = true := by
    unfold readOk
    rw [hr]
    have h1 := showL_len ns (tree_nodes h)
    have h2 := (tree_end h).1.2
    simp only [Bool.and_eq_true, decide_eq_true_eq, beq_iff_eq]
    exact ⟨by omega, h, trivial⟩
  refine ⟨?_, by rw [hs]; exact hok, by rw [hs]; unfold readTV; rw [if_pos hok]; exact hr⟩
  intro e
  rw [hs] at e
  rw [e] at hr
  have h0 : readT [] = [nd0] := by rfl
  rw [h0] at hr
  rw [← hr] at h
  exact absurd h (by decide)

theorem tree_not {ns : List Nd} (h : treeB ns = false) : showT ns = [] := by unfold showT; rw [if_neg (by rw [h]; simp)]

theorem kids_facts (n : Nd) : (nodeB n = true ∧ 0 ≤ kidsOfV n) ∨ (nodeB n = false ∧ kidsOfV n = -1) := by
  rcases h : nodeB n with _ | _
  · exact Or.inr ⟨rfl, by unfold kidsOfV; rw [if_neg (by rw [h]; simp)]⟩
  · exact Or.inl ⟨rfl, by unfold kidsOfV; rw [if_pos h, (kidsV_ok h).1]; omega⟩

end Go.Proofs.YtjkfjenhocaljaaDoor

/-! The functions of this program that are the library's are the ones that the library has contracts of: number by number, type by type; and these contracts, at this program. -/
namespace Go.Proofs
open Go.Shelf
def Tryd.lays156_ren : Go.Shelf.Ren := ⟨fun | 156 => 29 | 165 => 54 | 166 => 55 | 169 => 56 | 240 => 71 | 241 => 72 | 276 => 84 | 277 => 85 | n => n, fun | 31 => 43 | 9 => 9 | 3 => 3 | 4 => 4 | 0 => 0 | 20 => 20 | 72 => 86 | 76 => 90 | 70 => 84 | 37 => 22 | 75 => 89 | 127 => 102 | 164 => 115 | 5 => 5 | 80 => 92 | n => n, fun | n => n⟩
theorem Tryd.lays156 : Go.Proofs.Lays.n156 Tryd.prog Tryd.lays156_ren := {
  mixed := by kernel_rfl
  f156 := Tryd.func29.trans (congrArg some (by kernel_rfl))
  f165 := Tryd.func54.trans (congrArg some (by kernel_rfl))
  f166 := Tryd.func55.trans (congrArg some (by kernel_rfl))
  f169 := Tryd.func56.trans (congrArg some (by kernel_rfl))
  f240 := Tryd.func71.trans (congrArg some (by kernel_rfl))
  f241 := Tryd.func72.trans (congrArg some (by kernel_rfl))
  f276 := Tryd.func84.trans (congrArg some (by kernel_rfl))
  f277 := Tryd.func85.trans (congrArg some (by kernel_rfl))
  t0 := Tryd.underlying0
  a0 := Tryd.isAgg0
  z0 := Tryd.sizeOf0
  v0 := Tryd.zeroValue0
  t3 := Tryd.underlying3
  a3 := Tryd.isAgg3
  z3 := Tryd.sizeOf3
  v3 := Tryd.zeroValue3
  t4 := Tryd.underlying4
  a4 := Tryd.isAgg4
  z4 := Tryd.sizeOf4
  v4 := Tryd.zeroValue4
  t9 := Tryd.underlying9
  a9 := Tryd.isAgg9
  z9 := Tryd.sizeOf9
  v9 := Tryd.zeroValue9
  t20 := Tryd.underlying20
  a20 := Tryd.isAgg20
  z20 := Tryd.sizeOf20
  v20 := Tryd.zeroValue20
  t31 := Tryd.underlying43
  a31 := Tryd.isAgg43
  z31 := Tryd.sizeOf43
  v31 := Tryd.zeroValue43
  t37 := Tryd.underlying22
  a37 := Tryd.isAgg22
  z37 := Tryd.sizeOf22
  v37 := Tryd.zeroValue22
  t70 := Tryd.underlying84
  a70 := Tryd.isAgg84
  z70 := Tryd.sizeOf84
  v70 := Tryd.zeroValue84
  t72 := Tryd.underlying86
  a72 := Tryd.isAgg86
  z72 := Tryd.sizeOf86
  v72 := Tryd.zeroValue86
  t75 := Tryd.underlying89
  a75 := Tryd.isAgg89
  z75 := Tryd.sizeOf89
  v75 := Tryd.zeroValue89
  t76 := Tryd.underlying90
  a76 := Tryd.isAgg90
  z76 := Tryd.sizeOf90
  v76 := Tryd.zeroValue90
  t127 := Tryd.underlying102
  a127 := Tryd.isAgg102
  z127 := Tryd.sizeOf102
  v127 := Tryd.zeroValue102
  t164 := Tryd.underlying115
  a164 := Tryd.isAgg115
  z164 := Tryd.sizeOf115
  v164 := Tryd.zeroValue115 }
theorem Tryd.Builder_Extra_156 : Builder.Extra Tryd.prog Tryd.lays156_ren := {
  sizeBuilder := by kernel_rfl
  liesBuilder := by kernel_rfl
  t5 := Tryd.underlying5
  a5 := Tryd.isAgg5
  z5 := Tryd.sizeOf5
  v5 := Tryd.zeroValue5
  infoByte := by kernel_rfl
  cellsByte := by kernel_rfl
  sizeByte := by kernel_rfl
  neB5 := by decide }
open Go.RowKit in
/-- No element: the empty string; the world is as it was. (Whatever the slice's address and capacity: a nil slice too.) (LAID: no walk: one application.) -/
theorem Tryd.strings_Join_none (a : Option Addr) (c : Nat) (sep : ByteArray) (w : World) :
    Calls Tryd.prog 29 #[.slice a 0 c, .string sep] w fun e w' => e = .returned (.string ⟨#[]⟩) ∧ w' = w := Any.strings_Join_none Tryd.lays156 Tryd.Builder_Extra_156 a c sep w
open Go.RowKit in
/-- strings.Join: "Join concatenates the elements of its first argument to create a single string. The separator string sep is placed between elements in the resulting string.": HOWEVER MANY ELEMENTS. Below the heap's end the world is as it was. (LAID: no walk: one application.) -/
theorem Tryd.strings_Join (bk o c : Nat) (xs : List ByteArray) (sep : ByteArray) (w : World) (hcells : ∀ (j : Nat) x, xs[j]? = some x → w.cell? ⟨bk, o + j, none⟩ = some (.string x)) (hbk : bk < w.heap.size) (hN : xs.length ≤ 140737488355328) (hcap : xs.length ≤ c) (hlen : (Lib.join (xs.map (·.data.toList)) sep.data.toList).length ≤ 140737488355328) :
    Calls Tryd.prog 29 #[.slice (some ⟨bk, o, none⟩) xs.length c, .string sep] w fun e w' => e = .returned (.string ⟨(Lib.join (xs.map (·.data.toList)) sep.data.toList).toArray⟩) ∧ Below w.heap.size w w' := Any.strings_Join Tryd.lays156 Tryd.Builder_Extra_156 bk o c xs sep w hcells hbk hN hcap hlen
def Tryd.laysM173_ren : Go.Shelf.Ren := ⟨fun | 173 => 53 | 246 => 70 | 283 => 80 | 284 => 81 | 285 => 82 | 286 => 83 | 129 => 94 | 317 => 93 | 318 => 95 | 319 => 96 | 320 => 97 | 337 => 100 | 338 => 101 | n => n, fun | 2 => 2 | 3 => 3 | 9 => 9 | 4 => 4 | 171 => 109 | 0 => 0 | 53 => 110 | 37 => 22 | 5 => 5 | 173 => 113 | 212 => 121 | 51 => 122 | 20 => 20 | 213 => 123 | 46 => 107 | 232 => 129 | 233 => 130 | n => n, fun | 17 => 1 | 18 => 2 | 19 => 3 | n => n⟩
theorem Tryd.laysM173 : Go.Proofs.LaysM.n173 Tryd.prog Tryd.laysM173_ren := {
  mixed := by kernel_rfl
  f129 := Tryd.func94.trans (congrArg some (by kernel_rfl))
  f173 := Tryd.func53.trans (congrArg some (by kernel_rfl))
  f246 := Tryd.func70.trans (congrArg some (by kernel_rfl))
  f283 := Tryd.func80.trans (congrArg some (by kernel_rfl))
  f284 := Tryd.func81.trans (congrArg some (by kernel_rfl))
  f285 := Tryd.func82.trans (congrArg some (by kernel_rfl))
  f286 := Tryd.func83.trans (congrArg some (by kernel_rfl))
  f317 := Tryd.func93.trans (congrArg some (by kernel_rfl))
  f318 := Tryd.func95.trans (congrArg some (by kernel_rfl))
  f319 := Tryd.func96.trans (congrArg some (by kernel_rfl))
  f320 := Tryd.func97.trans (congrArg some (by kernel_rfl))
  f337 := Tryd.func100.trans (congrArg some (by kernel_rfl))
  f338 := Tryd.func101.trans (congrArg some (by kernel_rfl))
  t0 := Tryd.underlying0
  a0 := Tryd.isAgg0
  z0 := Tryd.sizeOf0
  v0 := Tryd.zeroValue0
  t2 := Tryd.underlying2
  a2 := Tryd.isAgg2
  z2 := Tryd.sizeOf2
  v2 := Tryd.zeroValue2
  t3 := Tryd.underlying3
  a3 := Tryd.isAgg3
  z3 := Tryd.sizeOf3
  v3 := Tryd.zeroValue3
  t4 := Tryd.underlying4
  a4 := Tryd.isAgg4
  z4 := Tryd.sizeOf4
  v4 := Tryd.zeroValue4
  t5 := Tryd.underlying5
  a5 := Tryd.isAgg5
  z5 := Tryd.sizeOf5
  v5 := Tryd.zeroValue5
  t9 := Tryd.underlying9
  a9 := Tryd.isAgg9
  z9 := Tryd.sizeOf9
  v9 := Tryd.zeroValue9
  t20 := Tryd.underlying20
  a20 := Tryd.isAgg20
  z20 := Tryd.sizeOf20
  v20 := Tryd.zeroValue20
  t37 := Tryd.underlying22
  a37 := Tryd.isAgg22
  z37 := Tryd.sizeOf22
  v37 := Tryd.zeroValue22
  t46 := Tryd.underlying107
  a46 := Tryd.isAgg107
  z46 := Tryd.sizeOf107
  v46 := Tryd.zeroValue107
  t51 := Tryd.underlying122
  a51 := Tryd.isAgg122
  z51 := Tryd.sizeOf122
  v51 := Tryd.zeroValue122
  t53 := Tryd.underlying110
  a53 := Tryd.isAgg110
  z53 := Tryd.sizeOf110
  v53 := Tryd.zeroValue110
  t171 := Tryd.underlying109
  a171 := Tryd.isAgg109
  z171 := Tryd.sizeOf109
  v171 := Tryd.zeroValue109
  t173 := Tryd.underlying113
  a173 := Tryd.isAgg113
  z173 := Tryd.sizeOf113
  v173 := Tryd.zeroValue113
  t212 := Tryd.underlying121
  a212 := Tryd.isAgg121
  z212 := Tryd.sizeOf121
  v212 := Tryd.zeroValue121
  t213 := Tryd.underlying123
  a213 := Tryd.isAgg123
  z213 := Tryd.sizeOf123
  t232 := Tryd.underlying129
  a232 := Tryd.isAgg129
  z232 := Tryd.sizeOf129
  v232 := Tryd.zeroValue129
  t233 := Tryd.underlying130
  a233 := Tryd.isAgg130
  z233 := Tryd.sizeOf130
  v233 := Tryd.zeroValue130
  g17 := by kernel_rfl
  g18 := by kernel_rfl
  g19 := by kernel_rfl
  i0 := by kernel_rfl
  i2 := by kernel_rfl
  i3 := by kernel_rfl
  i4 := by kernel_rfl
  i5 := by kernel_rfl
  i9 := by kernel_rfl
  i20 := by kernel_rfl
  i37 := by kernel_rfl
  i46 := by kernel_rfl
  i51 := by kernel_rfl
  i53 := by kernel_rfl
  i171 := by kernel_rfl
  i173 := by kernel_rfl
  i212 := by kernel_rfl
  i232 := by kernel_rfl
  i233 := by kernel_rfl
  m17 := by kernel_rfl
  m18 := by kernel_rfl
  m19 := by kernel_rfl }
open Go.RowKit Go.Sort Go.Lib in
/-- strconv.FormatInt: "FormatInt returns the string representation of i in the given base": AT BASE 10: i's decimal numeral, for every int64. (LAID: no walk: one application.) -/
theorem Tryd.strconv_FormatInt_10 (n : Int) (h0 : -9223372036854775808 ≤ n) (h1 : n ≤ 9223372036854775807) (w : World) (htab : Lib.TabIs Tryd.prog w "internal/strconv.uint64pow10" .u64 Lib.pow10Tab) :
    Calls Tryd.prog 53 #[.int .i64 n, .int .i64 10] w fun e w' => e = .returned (.string ⟨(Lib.itoa n).toArray⟩) ∧ ∃ k os, w' = grow (w.drewN k) os := Any.strconv_FormatInt_10 Tryd.laysM173 n h0 h1 w htab
def Tryd.lays219_ren : Go.Shelf.Ren := ⟨fun | 219 => 76 | 217 => 88 | 225 => 89 | 224 => 90 | 267 => 91 | 266 => 98 | 314 => 99 | n => n, fun | 9 => 9 | 3 => 3 | 4 => 4 | 5 => 5 | 46 => 107 | 146 => 126 | 51 => 122 | n => n, fun | 1 => 0 | n => n⟩
theorem Tryd.lays219 : Go.Proofs.Lays.n219 Tryd.prog Tryd.lays219_ren := {
  mixed := by kernel_rfl
  f217 := Tryd.func88.trans (congrArg some (by kernel_rfl))
  f219 := Tryd.func76.trans (congrArg some (by kernel_rfl))
  f224 := Tryd.func90.trans (congrArg some (by kernel_rfl))
  f225 := Tryd.func89.trans (congrArg some (by kernel_rfl))
  f266 := Tryd.func98.trans (congrArg some (by kernel_rfl))
  f267 := Tryd.func91.trans (congrArg some (by kernel_rfl))
  f314 := Tryd.func99.trans (congrArg some (by kernel_rfl))
  t3 := Tryd.underlying3
  a3 := Tryd.isAgg3
  z3 := Tryd.sizeOf3
  v3 := Tryd.zeroValue3
  t4 := Tryd.underlying4
  a4 := Tryd.isAgg4
  z4 := Tryd.sizeOf4
  v4 := Tryd.zeroValue4
  t5 := Tryd.underlying5
  a5 := Tryd.isAgg5
  z5 := Tryd.sizeOf5
  v5 := Tryd.zeroValue5
  t9 := Tryd.underlying9
  a9 := Tryd.isAgg9
  z9 := Tryd.sizeOf9
  v9 := Tryd.zeroValue9
  t46 := Tryd.underlying107
  a46 := Tryd.isAgg107
  z46 := Tryd.sizeOf107
  v46 := Tryd.zeroValue107
  t51 := Tryd.underlying122
  a51 := Tryd.isAgg122
  z51 := Tryd.sizeOf122
  v51 := Tryd.zeroValue122
  t146 := Tryd.underlying126
  a146 := Tryd.isAgg126
  z146 := Tryd.sizeOf126
  v146 := Tryd.zeroValue126
  g1 := by kernel_rfl }
open Go.RowKit Go.Lib in
/-- internal/stringslite.Index (what strings.Index calls) AT A substr OF ONE BYTE c: IT RETURNS 'Lib.indexByte s c'; the world is as it was. (LAID: no walk: one application.) -/
theorem Tryd.stringslite_Index_one (s : ByteArray) (c : UInt8) (w : World) :
    Calls Tryd.prog 76 #[.string s, .string ⟨#[c]⟩] w fun e w' => e = .returned (.int .i64 (Lib.indexByte s.data.toList c)) ∧ w' = w := Any.stringslite_Index_one Tryd.lays219 s c w
def Tryd.lays143_ren : Go.Shelf.Ren := ⟨fun | 143 => 61 | 219 => 76 | 217 => 88 | 225 => 89 | 224 => 90 | 267 => 91 | 266 => 98 | 314 => 99 | n => n, fun | 9 => 9 | 3 => 3 | 4 => 4 | 5 => 5 | 46 => 107 | 146 => 126 | 51 => 122 | n => n, fun | 1 => 0 | n => n⟩
theorem Tryd.lays143 : Go.Proofs.Lays.n143 Tryd.prog Tryd.lays143_ren := {
  mixed := by kernel_rfl
  f143 := Tryd.func61.trans (congrArg some (by kernel_rfl))
  f217 := Tryd.func88.trans (congrArg some (by kernel_rfl))
  f219 := Tryd.func76.trans (congrArg some (by kernel_rfl))
  f224 := Tryd.func90.trans (congrArg some (by kernel_rfl))
  f225 := Tryd.func89.trans (congrArg some (by kernel_rfl))
  f266 := Tryd.func98.trans (congrArg some (by kernel_rfl))
  f267 := Tryd.func91.trans (congrArg some (by kernel_rfl))
  f314 := Tryd.func99.trans (congrArg some (by kernel_rfl))
  t3 := Tryd.underlying3
  a3 := Tryd.isAgg3
  z3 := Tryd.sizeOf3
  v3 := Tryd.zeroValue3
  t4 := Tryd.underlying4
  a4 := Tryd.isAgg4
  z4 := Tryd.sizeOf4
  v4 := Tryd.zeroValue4
  t5 := Tryd.underlying5
  a5 := Tryd.isAgg5
  z5 := Tryd.sizeOf5
  v5 := Tryd.zeroValue5
  t9 := Tryd.underlying9
  a9 := Tryd.isAgg9
  z9 := Tryd.sizeOf9
  v9 := Tryd.zeroValue9
  t46 := Tryd.underlying107
  a46 := Tryd.isAgg107
  z46 := Tryd.sizeOf107
  v46 := Tryd.zeroValue107
  t51 := Tryd.underlying122
  a51 := Tryd.isAgg122
  z51 := Tryd.sizeOf122
  v51 := Tryd.zeroValue122
  t146 := Tryd.underlying126
  a146 := Tryd.isAgg126
  z146 := Tryd.sizeOf126
  v146 := Tryd.zeroValue126
  g1 := by kernel_rfl }
open Go.RowKit Go.Lib in
/-- strings.Index: "Index returns the index of the first instance of substr in s, or -1 if substr is not present in s.": AT A substr OF ONE BYTE c: IT RETURNS 'Lib.indexByte s c'; the world is as it was. (LAID: no walk: one application.) -/
theorem Tryd.strings_Index_one (s : ByteArray) (c : UInt8) (w : World) :
    Calls Tryd.prog 61 #[.string s, .string ⟨#[c]⟩] w fun e w' => e = .returned (.int .i64 (Lib.indexByte s.data.toList c)) ∧ w' = w := Any.strings_Index_one Tryd.lays143 s c w
def Tryd.lays144_ren : Go.Shelf.Ren := ⟨fun | 144 => 60 | 143 => 61 | 219 => 76 | 217 => 88 | 225 => 89 | 224 => 90 | 267 => 91 | 266 => 98 | 314 => 99 | n => n, fun | 9 => 9 | 4 => 4 | 3 => 3 | 5 => 5 | 46 => 107 | 146 => 126 | 51 => 122 | n => n, fun | 1 => 0 | n => n⟩
theorem Tryd.lays144 : Go.Proofs.Lays.n144 Tryd.prog Tryd.lays144_ren := {
  mixed := by kernel_rfl
  f143 := Tryd.func61.trans (congrArg some (by kernel_rfl))
  f144 := Tryd.func60.trans (congrArg some (by kernel_rfl))
  f217 := Tryd.func88.trans (congrArg some (by kernel_rfl))
  f219 := Tryd.func76.trans (congrArg some (by kernel_rfl))
  f224 := Tryd.func90.trans (congrArg some (by kernel_rfl))
  f225 := Tryd.func89.trans (congrArg some (by kernel_rfl))
  f266 := Tryd.func98.trans (congrArg some (by kernel_rfl))
  f267 := Tryd.func91.trans (congrArg some (by kernel_rfl))
  f314 := Tryd.func99.trans (congrArg some (by kernel_rfl))
  t3 := Tryd.underlying3
  a3 := Tryd.isAgg3
  z3 := Tryd.sizeOf3
  v3 := Tryd.zeroValue3
  t4 := Tryd.underlying4
  a4 := Tryd.isAgg4
  z4 := Tryd.sizeOf4
  v4 := Tryd.zeroValue4
  t5 := Tryd.underlying5
  a5 := Tryd.isAgg5
  z5 := Tryd.sizeOf5
  v5 := Tryd.zeroValue5
  t9 := Tryd.underlying9
  a9 := Tryd.isAgg9
  z9 := Tryd.sizeOf9
  v9 := Tryd.zeroValue9
  t46 := Tryd.underlying107
  a46 := Tryd.isAgg107
  z46 := Tryd.sizeOf107
  v46 := Tryd.zeroValue107
  t51 := Tryd.underlying122
  a51 := Tryd.isAgg122
  z51 := Tryd.sizeOf122
  v51 := Tryd.zeroValue122
  t146 := Tryd.underlying126
  a146 := Tryd.isAgg126
  z146 := Tryd.sizeOf126
  v146 := Tryd.zeroValue126
  g1 := by kernel_rfl }
open Go.RowKit Go.Lib in
/-- strings.Contains: "Contains reports whether substr is within s.": AT A substr OF ONE BYTE c: IT RETURNS 'decide (0 ≤ Lib.indexByte s c)'; the world is as it was. (LAID: no walk: one application.) -/
theorem Tryd.strings_Contains_one (s : ByteArray) (c : UInt8) (w : World) :
    Calls Tryd.prog 60 #[.string s, .string ⟨#[c]⟩] w fun e w' => e = .returned (.bool (decide (0 ≤ Lib.indexByte s.data.toList c))) ∧ w' = w := Any.strings_Contains_one Tryd.lays144 s c w
def Tryd.lays99_ren : Go.Shelf.Ren := ⟨fun | 99 => 62 | 206 => 77 | n => n, fun | 9 => 9 | 4 => 4 | 3 => 3 | n => n, fun | n => n⟩
theorem Tryd.lays99 : Go.Proofs.Lays.n99 Tryd.prog Tryd.lays99_ren := {
  mixed := by kernel_rfl
  f99 := Tryd.func62.trans (congrArg some (by kernel_rfl))
  f206 := Tryd.func77.trans (congrArg some (by kernel_rfl))
  t3 := Tryd.underlying3
  a3 := Tryd.isAgg3
  z3 := Tryd.sizeOf3
  v3 := Tryd.zeroValue3
  t4 := Tryd.underlying4
  a4 := Tryd.isAgg4
  z4 := Tryd.sizeOf4
  v4 := Tryd.zeroValue4
  t9 := Tryd.underlying9
  a9 := Tryd.isAgg9
  z9 := Tryd.sizeOf9
  v9 := Tryd.zeroValue9 }
open Go.RowKit Go.Lib in
/-- strings.HasPrefix: "HasPrefix reports whether the string s begins with prefix.": IT RETURNS 'Lib.hasPrefix s prefix'; the world is as it was. (LAID: no walk: one application.) -/
theorem Tryd.strings_HasPrefix (s p : ByteArray) (w : World) :
    Calls Tryd.prog 62 #[.string s, .string p] w fun e w' => e = .returned (.bool (Lib.hasPrefix s.data.toList p.data.toList)) ∧ w' = w := Any.strings_HasPrefix Tryd.lays99 s p w
end Go.Proofs

/-! The contracts of chapter 6's landed code: what a shape is written as. -/
namespace Go.Proofs.YtjkfjenhocaljaaDoor
open Go.RowKit

/-- The library's table of powers of ten lies as its text lays it. -/
def PowIs (w : World) : Prop := Lib.TabIs Tryd.prog w "internal/strconv.uint64pow10" .u64 Lib.pow10Tab
theorem powAt : (Tryd.prog.globalNamed "internal/strconv.uint64pow10").isSome = true := by kernel_rfl
theorem powTy : (Tryd.prog.globalNamed "internal/strconv.uint64pow10").bind (fun g => (Tryd.prog.globals[g]?).map (·.type)) = some 121 := by kernel_rfl
/-- A listed variable that reads as the table holds it. -/
theorem pow_of_cells {W : World} {g : Nat} {t : TypeId} {cs : Array Value} {fuel : Nat} {p : List MemPlace} (hg : Tryd.prog.globalNamed "internal/strconv.uint64pow10" = some g) (ht : (Tryd.prog.globals[g]?).map (·.type) = some t)
    (hv : W.var? Tryd.prog "internal/strconv.uint64pow10" = some cs) (hd : DataW.trod (fun _ => ()) Tryd.prog W 0 (fun _ => true) false fuel t cs.toList = some (Lib.tabData .u64 Lib.pow10Tab, p)) : PowIs W := by
  have h1 := powTy
  rw [hg, Option.bind_some, ht] at h1
  obtain rfl := Option.some.inj h1
  unfold PowIs Lib.TabIs
  rw [hv, ← Lib.cells_of_tab Tryd.underlying121 Tryd.underlying110 (by kernel_rfl) (by kernel_rfl) hd]
theorem PowIs.below {w w' : World} (h : PowIs w) (hb : Below w.heap.size w w') : PowIs w' := by
  obtain ⟨g, hg⟩ := Option.isSome_iff_exists.1 powAt
  exact Go.Joins.tab_stays hg h hb (Nat.le_refl _)
theorem PowIs.drew {w : World} (h : PowIs w) : PowIs w.drew := h

theorem fmtInt (n : Int) (w : World) (ht : PowIs w) (h0 : -2147483648 ≤ n) (h1 : n ≤ 2147483647) :
    Calls Tryd.prog 53 #[.int .i64 n, .int .i64 10] w fun e w' => e = .returned (.string ⟨(intL n).toArray⟩) ∧ Below w.heap.size w w' := by
  refine (Tryd.strconv_FormatInt_10 n (by omega) (by omega) w ht).mono ?_
  rintro e w' ⟨rfl, k, os, rfl⟩
  exact ⟨by rw [itoa_int], Lib.below_grow _ w (Nat.le_refl _) k os⟩

set_option maxHeartbeats 2000000 in
set_option maxRecDepth 100000 in
theorem implWordOf (n : Nd) (w : World) (ht : PowIs w) (hn : nodeB n = true) :
    Calls Tryd.prog 27 #[shVal (shOf n)] w fun e w' => e = .returned (.string ⟨(showN n).toArray⟩) ∧ Below w.heap.size w w' := by
  obtain ⟨k, a, p, f⟩ := n
  have hcat := cat_list
  have hp := nodeB_iff.1 hn
  unfold nodeP at hp
  simp only at hp
  rcases hp with ⟨rfl, ⟨h0, h1⟩, rfl, rfl⟩ | ⟨rfl, ⟨h0, h1⟩, rfl, rfl⟩ | ⟨hk, rfl, rfl, rfl⟩ | ⟨rfl, ⟨h0, h1⟩, hpn, hfn⟩
  · have hs : showN (1, a, [], []) = intL a := by unfold showN; simp
    have hv : shVal (shOf (1, a, [], [])) = .iface 73 (.agg #[.int .i64 a]) := rfl
    rw [hs, hv]
    have ht2 : Hid (PowIs (w.alloc (.cells #[.int .i64 a] 73))) := ht.below ((Below.refl _ w).alloc (Nat.le_refl _) _)
    have q0 := as_num_num; have q1 := as_num_arg; have q2 := as_num_pair; have q3 := as_num_cond; have q4 := as_num_call
    clear hs hn hv ht
    go_enter Tryd.func27, Tryd.ntmps27
    go_wp2_with fail
    refine (fmtInt a _ ht2.out (by omega) (by omega)).mono ?_
    rintro e w1 ⟨rfl, hb1⟩
    go_wp2
    go_ret
    exact ⟨rfl, below_boxed hb1⟩
  · have hs : showN (2, a, [], []) = 36 :: intL a := by unfold showN; simp
    have hv : shVal (shOf (2, a, [], [])) = .iface 76 (.agg #[.int .i64 a]) := rfl
    rw [hs, hv]
    have ht2 : Hid (PowIs (w.alloc (.cells #[.int .i64 a] 76))) := ht.below ((Below.refl _ w).alloc (Nat.le_refl _) _)
    have q0 := as_arg_num; have q1 := as_arg_arg; have q2 := as_arg_pair; have q3 := as_arg_cond; have q4 := as_arg_call
    have hl := intL_short a (by omega) (by omega)
    clear hs hn hv ht
    go_enter Tryd.func27, Tryd.ntmps27
    go_wp2_with fail
    refine (fmtInt a _ ht2.out (by omega) (by omega)).mono ?_
    rintro e w1 ⟨rfl, hb1⟩
    have hli : ((intL a).length : Int) ≤ 11 := by omega
    go_wp2
    go_ret
    exact ⟨rfl, below_boxed hb1⟩
  · by_cases h7 : k = 7
    · subst h7
      have hv : shVal (shOf (7, 0, [], [])) = .iface 80 (.agg #[]) := rfl
      rw [hv]
      have q0 := as_cond_num; have q1 := as_cond_arg; have q2 := as_cond_pair; have q3 := as_cond_cond; have q4 := as_cond_call
      clear hn hv ht
      go_enter Tryd.func27, Tryd.ntmps27
      go_wp2
      go_ret
      exact ⟨by unfold showN; simp, (Below.refl _ w).alloc (Nat.le_refl _) _⟩
    · have q0 := as_pair_num; have q1 := as_pair_arg; have q2 := as_pair_pair; have q3 := as_pair_cond; have q4 := as_pair_call
      rcases (show k = 3 ∨ k = 4 ∨ k = 5 ∨ k = 6 by omega) with rfl | rfl | rfl | rfl
      · have hv : shVal (shOf (3, 0, [], [])) = .iface 78 (.agg #[.int .i64 3]) := rfl
        have hsw : showN (3, 0, [], []) = [43] := by unfold showN; simp
        rw [hv, hsw]
        clear hn hv ht hsw
        go_enter Tryd.func27, Tryd.ntmps27
        go_wp2
        go_ret
        exact ⟨by kernel_rfl, (Below.refl _ w).alloc (Nat.le_refl _) _⟩
      · have hv : shVal (shOf (4, 0, [], [])) = .iface 78 (.agg #[.int .i64 4]) := rfl
        have hsw : showN (4, 0, [], []) = [45] := by unfold showN; simp
        rw [hv, hsw]
        clear hn hv ht hsw
        go_enter Tryd.func27, Tryd.ntmps27
        go_wp2
        go_ret
        exact ⟨by kernel_rfl, (Below.refl _ w).alloc (Nat.le_refl _) _⟩
      · have hv : shVal (shOf (5, 0, [], [])) = .iface 78 (.agg #[.int .i64 5]) := rfl
        have hsw : showN (5, 0, [], []) = [42] := by unfold showN; simp
        rw [hv, hsw]
        clear hn hv ht hsw
        go_enter Tryd.func27, Tryd.ntmps27
        go_wp2
        go_ret
        exact ⟨by kernel_rfl, (Below.refl _ w).alloc (Nat.le_refl _) _⟩
      · have hv : shVal (shOf (6, 0, [], [])) = .iface 78 (.agg #[.int .i64 6]) := rfl
        have hsw : showN (6, 0, [], []) = [47] := by unfold showN; simp
        rw [hv, hsw]
        clear hn hv ht hsw
        go_enter Tryd.func27, Tryd.ntmps27
        go_wp2
        go_ret
        exact ⟨by kernel_rfl, (Below.refl _ w).alloc (Nat.le_refl _) _⟩
  · have HS : Hid (showN (8, a, p, f) = (64 :: p) ++ [46] ++ f ++ [47] ++ intL a) := by exact (by unfold showN; simp : showN (8, a, p, f) = (64 :: p) ++ [46] ++ f ++ [47] ++ intL a)
    have hv : shVal (shOf (8, a, p, f)) = .iface 82 (.agg #[.string ⟨p.toArray⟩, .string ⟨f.toArray⟩, .int .i64 a]) := rfl
    rw [hv]
    have q0 := as_call_num; have q1 := as_call_arg; have q2 := as_call_pair; have q3 := as_call_cond; have q4 := as_call_call
    have ht2 : Hid (PowIs (w.alloc (.cells #[.string ⟨p.toArray⟩, .string ⟨f.toArray⟩, .int .i64 a] 82)).drew) := (ht.below ((Below.refl _ w).alloc (Nat.le_refl _) _)).drew
    have hl := intL_short a (by omega) (by omega)
    have hpl := (name_letters hpn).1.2
    have hfl := (name_letters hfn).1.2
    have hli : ((intL a).length : Int) ≤ 11 := by omega
    have hpi : (p.length : Int) ≤ 8 := by omega
    have hfi : (f.length : Int) ≤ 8 := by omega
    have e1 : ∀ W : World, (Op.stringOp .add ⟨#[64]⟩ ⟨p.toArray⟩).run Tryd.prog W = .ok (.string ⟨(64 :: p).toArray⟩) W := fun W => by
      have := run_string_add_lists (P := Tryd.prog) W [64] p (by simp) (by omega)
      simpa using this
    have e2 : ∀ W : World, (Op.stringOp .add ⟨(64 :: p).toArray⟩ ⟨#[46]⟩).run Tryd.prog W = .ok (.string ⟨(64 :: (p ++ [46])).toArray⟩) W := fun W => by
      have := run_string_add_lists (P := Tryd.prog) W (64 :: p) [46] (by simp; omega) (by simp)
      simpa using this
    have e3 : ∀ W : World, (Op.stringOp .add ⟨(64 :: (p ++ [46])).toArray⟩ ⟨f.toArray⟩).run Tryd.prog W = .ok (.string ⟨(64 :: (p ++ 46 :: f)).toArray⟩) W := fun W => by
      have := run_string_add_lists (P := Tryd.prog) W (64 :: (p ++ [46])) f (by simp; omega) (by omega)
      simpa using this
    have e4 : ∀ W : World, (Op.stringOp .add ⟨(64 :: (p ++ 46 :: f)).toArray⟩ ⟨#[47]⟩).run Tryd.prog W = .ok (.string ⟨(64 :: (p ++ 46 :: (f ++ [47]))).toArray⟩) W := fun W => by
      have := run_string_add_lists (P := Tryd.prog) W (64 :: (p ++ 46 :: f)) [47] (by simp; omega) (by simp)
      simpa using this
    have e5 : ∀ W : World, (Op.stringOp .add ⟨(64 :: (p ++ 46 :: (f ++ [47]))).toArray⟩ ⟨(intL a).toArray⟩).run Tryd.prog W = .ok (.string ⟨(64 :: (p ++ 46 :: (f ++ 47 :: intL a))).toArray⟩) W := fun W => by
      have := run_string_add_lists (P := Tryd.prog) W (64 :: (p ++ 46 :: (f ++ [47]))) (intL a) (by simp; omega) (by omega)
      simpa using this
    clear hn hpn hfn hcat hv ht
    go_enter Tryd.func27, Tryd.ntmps27
    go_wp2
    go_region_held3 (fun w' => w'.cell? ⟨w.heap.size, 0, none⟩ = some (.string ⟨p.toArray⟩) ∧ w'.cell? ⟨w.heap.size, 1, none⟩ = some (.string ⟨f.toArray⟩) ∧ w'.cell? ⟨w.heap.size, 2, none⟩ = some (.int .i64 a)) (go_keep) (first | (go_at_call 53; refine (fmtInt a _ ht2.out (by omega) (by omega)).mono ?_; rintro e w1 ⟨rfl, hb1⟩; have hc0 : w1.cell? ⟨w.heap.size, 0, none⟩ = some (.string ⟨p.toArray⟩) := (hb1.cell (p := ⟨w.heap.size, 0, none⟩) (by simp)).trans (by simp); have hc1 : w1.cell? ⟨w.heap.size, 1, none⟩ = some (.string ⟨f.toArray⟩) := (hb1.cell (p := ⟨w.heap.size, 1, none⟩) (by simp)).trans (by simp); have hc2 : w1.cell? ⟨w.heap.size, 2, none⟩ = some (.int .i64 a) := (hb1.cell (p := ⟨w.heap.size, 2, none⟩) (by simp)).trans (by simp)))
    all_goals
      go_wp2
      go_ret
      exact ⟨ret_strl (by rw [HS.out]; simp), below_boxd hb1⟩

end Go.Proofs.YtjkfjenhocaljaaDoor

/-! The contracts of chapter 6's landed code: ShowTree. -/
namespace Go.Proofs.YtjkfjenhocaljaaDoor
open Go.RowKit

theorem joinTexts (v : Value) (ts : List (List UInt8)) (base : Nat) (w : World) (h : w.ownsRow base 9 1 v ts.length (strV ts)) (hn : ts.length ≤ 1048576) (hl : (joinBy 32 ts).length ≤ 1048576) :
    Calls Tryd.prog 29 #[v, .string ⟨#[32]⟩] w fun e w' => e = .returned (.string ⟨(joinBy 32 ts).toArray⟩) ∧ Below w.heap.size w w' := by
  rcases h.2 with ⟨rfl, h0⟩ | ⟨g, cap, cur, rfl, hb, hg, hcap, _⟩
  · obtain rfl : ts = [] := List.eq_nil_of_length_eq_zero h0
    refine (Tryd.strings_Join_none none 0 ⟨#[32]⟩ w).mono ?_
    rintro e w' ⟨rfl, rfl⟩
    exact ⟨rfl, Below.refl _ _⟩
  · have hx : (ts.map (fun l => (⟨l.toArray⟩ : ByteArray))).map (·.data.toList) = ts := by rw [List.map_map]; exact (List.map_congr_left (fun l _ => rfl)).trans (List.map_id ts)
    have hxl : (ts.map (fun l => (⟨l.toArray⟩ : ByteArray))).length = ts.length := by simp
    have hj : Lib.join ((ts.map (fun l => (⟨l.toArray⟩ : ByteArray))).map (·.data.toList)) (⟨#[32]⟩ : ByteArray).data.toList = joinBy 32 ts := by rw [hx]; exact join_by ts
    have hc := Tryd.strings_Join g 0 cap (ts.map (fun l => (⟨l.toArray⟩ : ByteArray))) ⟨#[32]⟩ w (by
      intro j x hjx
      rw [List.getElem?_map, Option.map_eq_some_iff] at hjx
      obtain ⟨l, hl1, rfl⟩ := hjx
      obtain ⟨hj2, hl2⟩ := List.getElem?_eq_some_iff.1 hl1
      have := str_cellsD h rfl j hj2
      rw [Nat.zero_add, this, List.getD_eq_getElem?_getD, hl1]
      rfl) (h.lt g rfl).2 (by rw [hxl]; omega) (by rw [hxl]; exact hcap) (by rw [hj]; omega)
    rw [hj, hxl] at hc
    exact hc

theorem show_take (ns : List Nd) (k : Nat) (hk : k < ns.length) : (ns.map showN).take (k + 1) = (ns.map showN).take k ++ [showN (ns.getD k nd0)] := by
  rw [List.take_succ_eq_append_getElem (by simpa using hk)]
  simp [List.getD, hk]

set_option maxHeartbeats 4000000 in
set_option maxRecDepth 100000 in
theorem implShowTree (a : Option Addr) (len cap : Nat) (ns : List Nd) (w : World) (hin : NodesIn w a len ns) (hint : IntT ns) (hsh : ShortT ns) (hlen : len ≤ 1048576) (ht : PowIs w) :
    Calls Tryd.prog 8 #[.slice a len cap] w fun e w' => e = .returned (.string ⟨(showT ns).toArray⟩) ∧ Below w.heap.size w w' := by
  obtain rfl : ns.length = len := hin.1
  have HC : Hid (_) := implTreeOk a ns.length cap ns w hin hint hsh hlen
  rcases htb : treeB ns with _ | _
  · have HS : Hid (showT ns = []) := by exact (by unfold showT; rw [if_neg (by rw [htb]; simp)] : showT ns = [])
    rw [htb] at HC
    clear hin hint hsh htb ht
    go_enter Tryd.func8, Tryd.ntmps8
    go_wp2_with fail
    refine Calls.mono HC.out ?_
    rintro e w1 ⟨rfl, hb1⟩
    go_wp2
    go_ret
    exact ⟨by rw [HS.out]; rfl, hb1⟩
  · have HS : Hid (showT ns = joinBy 32 (ns.map showN)) := by exact (by unfold showT; rw [if_pos htb]; rfl : showT ns = joinBy 32 (ns.map showN))
    have h60 : ns.length ≤ 60 := (tree_end htb).1.2
    have HNs : Hid (∀ n ∈ ns, nodeB n = true) := tree_nodes htb
    have HLen : Hid ((joinBy 32 (ns.map showN)).length ≤ ns.length * 31) := showL_len ns HNs.out
    have HI : Hid (NodesIn w a ns.length ns) := hin
    have HP : Hid (PowIs w) := ht
    obtain ⟨i0, hi, hz0, hz1, hz2⟩ := info_parts info9
    rw [htb] at HC
    clear hin hint hsh htb ht
    go_enter Tryd.func8, Tryd.ntmps8
    go_wp2_with fail
    refine Calls.mono HC.out ?_
    rintro e w1 ⟨rfl, hb1⟩
    have hown0 := (World.ownsRow_lit (base := w.heap.size) (e := 9) (size := 1) w1 #[] 0 hb1.size (by decide) rfl)
    have hB1 : Below w.heap.size w (w1.alloc (.cells #[] 9)) := hb1.alloc hb1.size _
    clear hb1 HC
    go_wp2
    go_loopw [3, 12] (fun v i wr => ∃ k : Nat, k ≤ ns.length ∧ i = .int .i64 k ∧ Hid (wr.ownsRow w.heap.size 9 1 v k (strV ((ns.map showN).take k))) ∧ Below w.heap.size w wr) (fun _ i _ => ns.length - (intOf i).toNat)
    case atStart => exact ⟨0, Nat.zero_le _, rfl, hown0, hB1⟩
    case round =>
      obtain ⟨k, hk, rfl, HV, hb⟩ := hrel
      clear hown0 hB1
      by_cases hkl : (k : Int) < (ns.length : Int)
      · have hk2 : k < ns.length := by omega
        have hst := show_take ns k hk2
        have hnk : nodeB (ns.getD k nd0) = true := by
          have hg : ns.getD k nd0 = ns[k] := by simp [List.getD, hk2]
          rw [hg]; exact HNs.out _ (List.getElem_mem hk2)
        obtain ⟨b, off, rfl, hbl, hcells⟩ := (HI.out.below hb).at (by omega)
        obtain ⟨c0, c1, c2, c3⟩ := hcells k hk2
        obtain ⟨n, hn⟩ : ∃ n, ns.getD k nd0 = n := ⟨_, rfl⟩
        rw [hn] at hst hnk c0 c1 c2 c3
        have HS1 : Hid (_) := fun W : World => implShapeOf n W
        have HW : Hid (_) := fun (W : World) (h : PowIs W) => implWordOf n W h hnk
        generalize shOf n = s at HS1 HW
        obtain ⟨x, hx⟩ : ∃ x, showN n = x := ⟨_, rfl⟩
        rw [hx] at hst HW
        have HST : Hid ((ns.map showN).take (k + 1) = (ns.map showN).take k ++ [x]) := hst
        have hpw := HP.out.below hb
        obtain ⟨kd, aa, p, f⟩ := n
        unfold nodeVal at HS1
        simp only at c0 c1 c2 c3 HS1
        obtain ⟨W0, hW0⟩ : ∃ W0, wr.alloc (.cells #[.int .i64 kd, .int .i64 aa, .string ⟨p.toArray⟩, .string ⟨f.toArray⟩] 31) = W0 := ⟨_, rfl⟩
        have hbW : Below wr.heap.size wr W0 := by rw [← hW0]; exact (Below.refl _ wr).alloc (Nat.le_refl _) _
        clear hn hcells hst hx hnk
        have st := NdAt.new wr kd aa p f
        rw [hW0] at st
        have d0 := st.c0
        have d1 := st.c1
        have d2 := st.c2
        have d3 := st.c3
        go_wp2_with fail
        refine Calls.mono (HS1.out _) ?_
        rintro e w2 ⟨rfl, hb2⟩
        have hB2 := hbW.trans (hb2.mono hbW.size)
        clear hb2 st d0 d1 d2 d3 c0 c1 c2 c3 HS1 hbW
        go_wp2_with fail
        refine Calls.mono (HW.out _ (hpw.below hB2)) ?_
        rintro e w3 ⟨rfl, hb3⟩
        have hB3 := hB2.trans (hb3.mono hB2.size)
        have hV3 := own_below HV.out hB3
        have hbd : Below w.heap.size w w3 := hb.trans (hB3.mono hb.size)
        have hsc : w.heap.size ≤ w3.heap.size := hbd.size
        clear hB2 hb3 hB3 HV HW hb hpw
        go_wp2_with (at_builtin; refine wpList_append_own _ rfl _ _ 43 rfl w.heap.size 9 i0 (.string ⟨#[]⟩) 1 16 Tryd.underlying43 hi hz0 hz1 hz2 rfl (by decide) _ _ _ rfl (hV3.alloc _) ⟨w3.heap.size, 0, none⟩ 1 1 [.string ⟨x.toArray⟩] rfl rfl ?c1 ?c2 ?c3 ?c4 ?c5 ?_)
        first | (case c1 => exact cell_one_new _ _ _) | skip
        first | (case c2 => first | rfl | (intro u hu; simp at hu; subst hu; rfl)) | skip
        first | (case c3 => unfold maxLen; omega) | skip
        first | (case c4 => omega) | skip
        first | (case c5 => simp; try omega) | skip
        intro v' w4 hown4 hgrow4 _
        have HV4 : Hid (w4.ownsRow w.heap.size 9 1 v' (k + 1) (strV ((ns.map showN).take (k + 1)))) := by
          exact (by rw [HST.out, ← strV_snoc]; exact hown4 : w4.ownsRow w.heap.size 9 1 v' (k + 1) (strV ((ns.map showN).take (k + 1))))
        have hb4 : Below w.heap.size w w4 := (hbd.alloc hbd.size _).grown hgrow4 (by simp; omega) (fun q e => (hV3.lt q e).1)
        clear hown4 hgrow4 hV3 hbd
        go_wp2
        go_roundw
        case rel => exact ⟨k + 1, by omega, by go_num, HV4, hb4⟩
        case measure => simp [intOf]; omega
      · obtain rfl : k = ns.length := by omega
        have hV := HV.out
        rw [List.take_of_length_le (by simp)] at hV
        have hj := joinTexts _ (ns.map showN) w.heap.size _ (by rw [List.length_map]; exact hV) (by simp; omega) (by have := HLen.out; omega)
        have HJ : Hid (_) := hj
        clear hj HV hV
        go_wp2_with fail
        refine Calls.mono HJ.out ?_
        rintro e w2 ⟨rfl, hb2⟩
        have hB2 := hb.trans (hb2.mono hb.size)
        go_wp2
        go_ret
        exact ⟨by rw [HS.out]; rfl, hB2⟩

end Go.Proofs.YtjkfjenhocaljaaDoor

/-! The contracts of chapter 6's landed code: what a word is read as. -/
namespace Go.Proofs.YtjkfjenhocaljaaDoor
open Go.RowKit

set_option maxHeartbeats 1000000 in
set_option maxRecDepth 100000 in
theorem liteCut (l : List UInt8) (b : UInt8) (w : World) (hl : l.length ≤ 1048576) :
    Calls Tryd.prog 92 #[.string ⟨l.toArray⟩, .string ⟨#[b]⟩] w fun e w' => ∃ g, e = .returned (.tuple #[.string ⟨(cutA b l).toArray⟩, .string ⟨(cutB b l).toArray⟩, .bool g]) ∧ Below w.heap.size w w' := by
  have hext := ext_list
  have HC : Hid (_) := fun W : World => Tryd.stringslite_Index_one ⟨l.toArray⟩ b W
  rcases cut_at b l with ⟨h1, h2, h3⟩ | ⟨k, h1, hk, h3, h4⟩
  · rw [h2, h3]
    rw [show (⟨l.toArray⟩ : ByteArray).data.toList = l from rfl, h1] at HC
    clear h1 h2 h3
    go_enter Tryd.func92, Tryd.ntmps92
    go_wp2_with (go_at_call 76; refine Calls.mono (HC.out _) ?_; rintro e w' ⟨rfl, rfl⟩)
    go_ret3
    exact ⟨_, rfl, Below.refl _ _⟩
  · rw [h3, h4]
    rw [show (⟨l.toArray⟩ : ByteArray).data.toList = l from rfl, h1] at HC
    have c2 : (k : Int) ≤ (l.length : Int) := by omega
    have c4 : (k : Int) + 1 ≤ (l.length : Int) := by omega
    have c5 : (l.length : Int) ≤ 1048576 := by omega
    have htk : List.take (l.length - (k + 1)) (List.drop (k + 1) l) = List.drop (k + 1) l := List.take_of_length_le (by rw [List.length_drop]; omega)
    clear h1 h3 h4
    go_enter Tryd.func92, Tryd.ntmps92
    go_wp2_with (go_at_call 76; refine Calls.mono (HC.out _) ?_; rintro e w' ⟨rfl, rfl⟩)
    go_quiet (fail)
    go_wp2
    go_ret3
    exact ⟨_, rfl, ⟨rfl, rfl, rfl, Nat.le_refl _, fun _ _ => rfl⟩⟩

set_option maxHeartbeats 1000000 in
set_option maxRecDepth 100000 in
theorem cutOne (l : List UInt8) (b : UInt8) (w : World) (hl : l.length ≤ 1048576) :
    Calls Tryd.prog 78 #[.string ⟨l.toArray⟩, .string ⟨#[b]⟩] w fun e w' => ∃ g, e = .returned (.tuple #[.string ⟨(cutA b l).toArray⟩, .string ⟨(cutB b l).toArray⟩, .bool g]) ∧ Below w.heap.size w w' := by
  have HC : Hid (_) := liteCut l b w hl
  generalize cutA b l = x at HC ⊢
  generalize cutB b l = y at HC ⊢
  go_enter Tryd.func78, Tryd.ntmps78
  go_wp2_with fail
  refine Calls.mono HC.out ?_
  rintro e w1 ⟨g, rfl, hb1⟩
  go_wp2
  go_ret3
  exact ⟨_, rfl, hb1⟩

set_option maxHeartbeats 1000000 in
set_option maxRecDepth 100000 in
theorem implArgIn (l : List UInt8) (w : World) (hl : l.length ≤ 1048576) :
    Calls Tryd.prog 63 #[.string ⟨l.toArray⟩] w fun e w' => e = .returned (shVal (.arg (numV l))) ∧ Below w.heap.size w w' := by
  have HC : Hid (_) := implNumberOf l w hl
  generalize numV l = n at HC ⊢
  generalize numB l = b at HC
  unfold shVal
  simp only
  go_enter Tryd.func63, Tryd.ntmps63
  go_wp2_with fail
  refine Calls.mono HC.out ?_
  rintro e w1 ⟨rfl, hb1⟩
  go_wp2
  go_ret
  exact ⟨rfl, hb1⟩

set_option maxHeartbeats 1000000 in
set_option maxRecDepth 100000 in
theorem implCallIn (l : List UInt8) (w : World) (hl : l.length ≤ 1048576) :
    Calls Tryd.prog 64 #[.string ⟨l.toArray⟩] w fun e w' => e = .returned (shVal (.call (cutA 46 (cutA 47 l)) (cutB 46 (cutA 47 l)) (numV (cutB 47 l)))) ∧ Below w.heap.size w w' := by
  have l1 := cutA_len 47 l
  have l2 := cutB_len 47 l
  have H1 : Hid (_) := fun W : World => cutOne l 47 W hl
  have H2 : Hid (_) := fun W : World => cutOne (cutA 47 l) 46 W (by omega)
  have H3 : Hid (_) := fun W : World => implNumberOf (cutB 47 l) W (by omega)
  generalize cutA 46 (cutA 47 l) = p at H2 ⊢
  generalize cutB 46 (cutA 47 l) = f at H2 ⊢
  generalize cutA 47 l = x at H1 H2
  generalize numV (cutB 47 l) = n at H3 ⊢
  generalize numB (cutB 47 l) = b at H3
  generalize cutB 47 l = y at H1 H3
  clear l1 l2
  unfold shVal
  simp only
  go_enter Tryd.func64, Tryd.ntmps64
  go_wp2_with fail
  refine Calls.mono (H1.out _) ?_
  rintro e w1 ⟨g1, rfl, hb1⟩
  go_wp2_with fail
  refine Calls.mono (H2.out _) ?_
  rintro e w2 ⟨g2, rfl, hb2⟩
  have hB2 := hb1.trans (hb2.mono hb1.size)
  go_wp2_with fail
  refine Calls.mono (H3.out _) ?_
  rintro e w3 ⟨rfl, hb3⟩
  have hB3 := hB2.trans (hb3.mono hB2.size)
  go_wp2
  go_ret
  exact ⟨rfl, hB3⟩

theorem idx_no {x : UInt8} (h1 : x ≠ 43) (h2 : x ≠ 45) (h3 : x ≠ 42) (h4 : x ≠ 47) : decide ((0 : Int) ≤ Lib.indexByte [43, 45, 42, 47] x) = false := by
  have e1 : ((43 : UInt8) == x) = false := beq_eq_false_iff_ne.2 (fun e => h1 e.symm)
  have e2 : ((45 : UInt8) == x) = false := beq_eq_false_iff_ne.2 (fun e => h2 e.symm)
  have e3 : ((42 : UInt8) == x) = false := beq_eq_false_iff_ne.2 (fun e => h3 e.symm)
  have e4 : ((47 : UInt8) == x) = false := beq_eq_false_iff_ne.2 (fun e => h4 e.symm)
  simp [Lib.indexByte, e1, e2, e3, e4]

theorem pre_yes (c : UInt8) (r : List UInt8) : Lib.hasPrefix (c :: r) [c] = true := by simp [Lib.hasPrefix, List.isPrefixOf]
theorem pre_no {c : UInt8} {s : List UInt8} (h : s.head? ≠ some c) : Lib.hasPrefix s [c] = false := by
  cases s with
  | nil => rfl
  | cons x r =>
    have : (c == x) = false := beq_eq_false_iff_ne.2 (fun e => h (by rw [e]; rfl))
    simp [Lib.hasPrefix, List.isPrefixOf, this]

set_option maxHeartbeats 4000000 in
set_option maxRecDepth 100000 in
theorem implShapeIn (s : List UInt8) (w : World) (hl : s.length ≤ 1048576) :
    Calls Tryd.prog 35 #[.string ⟨s.toArray⟩] w fun e w' => e = .returned (shVal (shIn s)) ∧ Below w.heap.size w w' := by
  have hext := ext_list
  have HC : Hid (_) := implNumberOf s w hl
  rcases hnb : numB s with _ | _
  · rw [hnb] at HC
    generalize numV s = nv at HC
    by_cases h63 : s = [63]
    · subst h63
      have HR : Hid (shIn [63] = .cond) := by exact (by unfold shIn; rw [if_neg (by rw [hnb]; simp), if_pos rfl] : shIn [63] = .cond)
      clear hnb
      go_enter Tryd.func35, Tryd.ntmps35
      go_wp2_with fail
      refine Calls.mono HC.out ?_
      rintro e w1 ⟨rfl, hb1⟩
      go_wp2
      go_ret
      exact ⟨by rw [HR.out]; rfl, hb1⟩
    by_cases h43 : s = [43]
    · subst h43
      have HR : Hid (shIn [43] = .pair 3) := by exact (by unfold shIn; rw [if_neg (by rw [hnb]; simp), if_neg (by simp), if_pos rfl] : shIn [43] = .pair 3)
      have H1 : Hid (_) := fun W : World => Tryd.strings_Contains_one ⟨#[43, 45, 42, 47]⟩ 43 W
      have H2 : Hid (_) := fun W : World => Tryd.strings_Index_one ⟨#[43, 45, 42, 47]⟩ 43 W
      have e1 : decide ((0 : Int) ≤ Lib.indexByte (⟨#[43, 45, 42, 47]⟩ : ByteArray).data.toList 43) = true := by decide
      have e2 : Lib.indexByte (⟨#[43, 45, 42, 47]⟩ : ByteArray).data.toList 43 = 0 := by decide
      rw [e1] at H1
      rw [e2] at H2
      clear hnb e1 e2
      go_enter Tryd.func35, Tryd.ntmps35
      go_wp2_with fail
      refine Calls.mono HC.out ?_
      rintro e w1 ⟨rfl, hb1⟩
      go_wp2_with fail
      refine Calls.mono (H1.out _) ?_
      rintro e w2 ⟨rfl, rfl⟩
      go_wp2_with fail
      refine Calls.mono (H2.out _) ?_
      rintro e w2 ⟨rfl, rfl⟩
      go_wp2
      go_ret
      exact ⟨by rw [HR.out]; rfl, hb1⟩
    by_cases h45 : s = [45]
    · subst h45
      have HR : Hid (shIn [45] = .pair 4) := by exact (by unfold shIn; rw [if_neg (by rw [hnb]; simp), if_neg (by simp), if_neg (by simp), if_pos rfl] : shIn [45] = .pair 4)
      have H1 : Hid (_) := fun W : World => Tryd.strings_Contains_one ⟨#[43, 45, 42, 47]⟩ 45 W
      have H2 : Hid (_) := fun W : World => Tryd.strings_Index_one ⟨#[43, 45, 42, 47]⟩ 45 W
      have e1 : decide ((0 : Int) ≤ Lib.indexByte (⟨#[43, 45, 42, 47]⟩ : ByteArray).data.toList 45) = true := by decide
      have e2 : Lib.indexByte (⟨#[43, 45, 42, 47]⟩ : ByteArray).data.toList 45 = 1 := by decide
      rw [e1] at H1
      rw [e2] at H2
      clear hnb e1 e2
      go_enter Tryd.func35, Tryd.ntmps35
      go_wp2_with fail
      refine Calls.mono HC.out ?_
      rintro e w1 ⟨rfl, hb1⟩
      go_wp2_with fail
      refine Calls.mono (H1.out _) ?_
      rintro e w2 ⟨rfl, rfl⟩
      go_wp2_with fail
      refine Calls.mono (H2.out _) ?_
      rintro e w2 ⟨rfl, rfl⟩
      go_wp2
      go_ret
      exact ⟨by rw [HR.out]; rfl, hb1⟩
    by_cases h42 : s = [42]
    · subst h42
      have HR : Hid (shIn [42] = .pair 5) := by exact (by unfold shIn; rw [if_neg (by rw [hnb]; simp), if_neg (by simp), if_neg (by simp), if_neg (by simp), if_pos rfl] : shIn [42] = .pair 5)
      have H1 : Hid (_) := fun W : World => Tryd.strings_Contains_one ⟨#[43, 45, 42, 47]⟩ 42 W
      have H2 : Hid (_) := fun W : World => Tryd.strings_Index_one ⟨#[43, 45, 42, 47]⟩ 42 W
      have e1 : decide ((0 : Int) ≤ Lib.indexByte (⟨#[43, 45, 42, 47]⟩ : ByteArray).data.toList 42) = true := by decide
      have e2 : Lib.indexByte (⟨#[43, 45, 42, 47]⟩ : ByteArray).data.toList 42 = 2 := by decide
      rw [e1] at H1
      rw [e2] at H2
      clear hnb e1 e2
      go_enter Tryd.func35, Tryd.ntmps35
      go_wp2_with fail
      refine Calls.mono HC.out ?_
      rintro e w1 ⟨rfl, hb1⟩
      go_wp2_with fail
      refine Calls.mono (H1.out _) ?_
      rintro e w2 ⟨rfl, rfl⟩
      go_wp2_with fail
      refine Calls.mono (H2.out _) ?_
      rintro e w2 ⟨rfl, rfl⟩
      go_wp2
      go_ret
      exact ⟨by rw [HR.out]; rfl, hb1⟩
    by_cases h47 : s = [47]
    · subst h47
      have HR : Hid (shIn [47] = .pair 6) := by exact (by unfold shIn; rw [if_neg (by rw [hnb]; simp), if_neg (by simp), if_neg (by simp), if_neg (by simp), if_neg (by simp), if_pos rfl] : shIn [47] = .pair 6)
      have H1 : Hid (_) := fun W : World => Tryd.strings_Contains_one ⟨#[43, 45, 42, 47]⟩ 47 W
      have H2 : Hid (_) := fun W : World => Tryd.strings_Index_one ⟨#[43, 45, 42, 47]⟩ 47 W
      have e1 : decide ((0 : Int) ≤ Lib.indexByte (⟨#[43, 45, 42, 47]⟩ : ByteArray).data.toList 47) = true := by decide
      have e2 : Lib.indexByte (⟨#[43, 45, 42, 47]⟩ : ByteArray).data.toList 47 = 3 := by decide
      rw [e1] at H1
      rw [e2] at H2
      clear hnb e1 e2
      go_enter Tryd.func35, Tryd.ntmps35
      go_wp2_with fail
      refine Calls.mono HC.out ?_
      rintro e w1 ⟨rfl, hb1⟩
      go_wp2_with fail
      refine Calls.mono (H1.out _) ?_
      rintro e w2 ⟨rfl, rfl⟩
      go_wp2_with fail
      refine Calls.mono (H2.out _) ?_
      rintro e w2 ⟨rfl, rfl⟩
      go_wp2
      go_ret
      exact ⟨by rw [HR.out]; rfl, hb1⟩
    have d63 : (s == [63]) = false := beq_eq_false_iff_ne.2 h63
    have HP36 : Hid (_) := fun W : World => Tryd.strings_HasPrefix ⟨s.toArray⟩ ⟨#[36]⟩ W
    have HP64 : Hid (_) := fun W : World => Tryd.strings_HasPrefix ⟨s.toArray⟩ ⟨#[64]⟩ W
    rw [show (⟨s.toArray⟩ : ByteArray).data.toList = s from rfl, show (⟨#[36]⟩ : ByteArray).data.toList = [36] from rfl] at HP36
    rw [show (⟨s.toArray⟩ : ByteArray).data.toList = s from rfl, show (⟨#[64]⟩ : ByteArray).data.toList = [64] from rfl] at HP64
    by_cases hl0 : s.length = 1
    · obtain ⟨x, rfl⟩ : ∃ x, s = [x] := List.length_eq_one_iff.1 hl0
      have H1 : Hid (_) := fun W : World => Tryd.strings_Contains_one ⟨#[43, 45, 42, 47]⟩ x W
      rw [show (⟨#[43, 45, 42, 47]⟩ : ByteArray).data.toList = [43, 45, 42, 47] from rfl, idx_no (fun e => h43 (by rw [e])) (fun e => h45 (by rw [e])) (fun e => h42 (by rw [e])) (fun e => h47 (by rw [e]))] at H1
      clear hl0
      by_cases h36 : [x].head? = some 36
      · obtain ⟨r, hr⟩ : ∃ r, [x] = 36 :: r := by
          cases hs : [x] with
          | nil => rw [hs] at h36; cases h36
          | cons y r => rw [hs] at h36; injection h36 with e; exact ⟨r, by rw [e]⟩
        obtain ⟨rfl, rfl⟩ : x = 36 ∧ r = [] := by injection hr with e1 e2; exact ⟨e1, e2.symm⟩
        have HR : Hid (shIn [36] = .arg (numV [])) := by exact (by unfold shIn; rw [if_neg (by rw [hnb]; simp), if_neg h63, if_neg h43, if_neg h45, if_neg h42, if_neg h47, if_pos h36]; rfl : shIn [36] = .arg (numV []))
        have hrl : ([] : List UInt8).length + 1 ≤ 1048576 := by simp
        have HA : Hid (_) := fun W : World => implArgIn [] W (by omega)
        rw [pre_yes] at HP36
        rw [HR.out]
        have htk : List.take 0 ([] : List UInt8) = [] := rfl
        clear hnb h63 h43 h45 h42 h47 h36 hr HP64 HR hl
        go_enter Tryd.func35, Tryd.ntmps35
        go_wp2_with fail
        refine Calls.mono HC.out ?_
        rintro e w1 ⟨rfl, hb1⟩
        go_wp2_with fail
        refine Calls.mono (H1.out _) ?_
        rintro e w2 ⟨rfl, rfl⟩
        go_wp2_with fail
        refine Calls.mono (HP36.out _) ?_
        rintro e w2 ⟨rfl, rfl⟩
        go_wp2_with fail
        refine Calls.mono (HA.out _) ?_
        rintro e w3 ⟨rfl, hb3⟩
        have hB3 := hb1.trans (hb3.mono hb1.size)
        go_wp2
        go_ret
        exact ⟨rfl, hB3⟩
      rw [pre_no h36] at HP36
      by_cases h64 : [x].head? = some 64
      · obtain ⟨r, hr⟩ : ∃ r, [x] = 64 :: r := by
          cases hs : [x] with
          | nil => rw [hs] at h64; cases h64
          | cons y r => rw [hs] at h64; injection h64 with e; exact ⟨r, by rw [e]⟩
        obtain ⟨rfl, rfl⟩ : x = 64 ∧ r = [] := by injection hr with e1 e2; exact ⟨e1, e2.symm⟩
        have HR : Hid (shIn [64] = .call (cutA 46 (cutA 47 [])) (cutB 46 (cutA 47 [])) (numV (cutB 47 []))) := by exact (by unfold shIn; rw [if_neg (by rw [hnb]; simp), if_neg h63, if_neg h43, if_neg h45, if_neg h42, if_neg h47, if_neg h36, if_pos h64]; rfl : shIn [64] = .call (cutA 46 (cutA 47 [])) (cutB 46 (cutA 47 [])) (numV (cutB 47 [])))
        have hrl : ([] : List UInt8).length + 1 ≤ 1048576 := by simp
        have HA : Hid (_) := fun W : World => implCallIn [] W (by omega)
        rw [pre_yes] at HP64
        rw [HR.out]
        have htk : List.take 0 ([] : List UInt8) = [] := rfl
        clear hnb h63 h43 h45 h42 h47 h36 h64 hr HR hl
        go_enter Tryd.func35, Tryd.ntmps35
        go_wp2_with fail
        refine Calls.mono HC.out ?_
        rintro e w1 ⟨rfl, hb1⟩
        go_wp2_with fail
        refine Calls.mono (H1.out _) ?_
        rintro e w2 ⟨rfl, rfl⟩
        go_wp2_with fail
        refine Calls.mono (HP36.out _) ?_
        rintro e w2 ⟨rfl, rfl⟩
        go_wp2_with fail
        refine Calls.mono (HP64.out _) ?_
        rintro e w2 ⟨rfl, rfl⟩
        go_wp2_with fail
        refine Calls.mono (HA.out _) ?_
        rintro e w3 ⟨rfl, hb3⟩
        have hB3 := hb1.trans (hb3.mono hb1.size)
        go_wp2
        go_ret
        exact ⟨rfl, hB3⟩
      · rw [pre_no h64] at HP64
        have HR : Hid (shIn [x] = .no) := by exact (by unfold shIn; rw [if_neg (by rw [hnb]; simp), if_neg h63, if_neg h43, if_neg h45, if_neg h42, if_neg h47, if_neg h36, if_neg h64] : shIn [x] = .no)
        rw [HR.out]
        clear hnb h63 h43 h45 h42 h47 h36 h64 HR hl
        go_enter Tryd.func35, Tryd.ntmps35
        go_wp2_with fail
        refine Calls.mono HC.out ?_
        rintro e w1 ⟨rfl, hb1⟩
        go_wp2_with fail
        refine Calls.mono (H1.out _) ?_
        rintro e w2 ⟨rfl, rfl⟩
        go_wp2_with fail
        refine Calls.mono (HP36.out _) ?_
        rintro e w2 ⟨rfl, rfl⟩
        go_wp2_with fail
        refine Calls.mono (HP64.out _) ?_
        rintro e w2 ⟨rfl, rfl⟩
        go_wp2
        go_ret
        exact ⟨rfl, hb1⟩
    · have hl1 : ((s.length : Int) == 1) = false := beq_eq_false_iff_ne.2 (by omega)
      have hl2 : s.length ≠ 1 := hl0
      clear hl0
      by_cases h36 : s.head? = some 36
      · obtain ⟨r, hr⟩ : ∃ r, s = 36 :: r := by
          cases hs : s with
          | nil => rw [hs] at h36; cases h36
          | cons y r => rw [hs] at h36; injection h36 with e; exact ⟨r, by rw [e]⟩
        have HR : Hid (shIn s = .arg (numV r)) := by exact (by unfold shIn; rw [if_neg (by rw [hnb]; simp), if_neg h63, if_neg h43, if_neg h45, if_neg h42, if_neg h47, if_pos h36, hr]; rfl : shIn s = .arg (numV r))
        have hrl : r.length + 1 ≤ 1048576 := by have h := hl; rw [hr] at h; simpa using h
        have HA : Hid (_) := fun W : World => implArgIn r W (by omega)
        rw [hr, pre_yes] at HP36
        rw [HR.out]
        rw [hr] at HC d63 hl2 ⊢
        have g1 : (((r.length : Int) + 1) == 1) = false := beq_eq_false_iff_ne.2 (by simp at hl2; intro e; apply hl2; apply List.eq_nil_of_length_eq_zero; omega)
        have g2 : (((r.length + 1 : Nat) : Int) == 1) = false := beq_eq_false_iff_ne.2 (by simp at hl2; intro e; apply hl2; apply List.eq_nil_of_length_eq_zero; omega)
        have g3 : r ≠ [] := by simpa using hl2
        clear hl1 hl2
        have htk : List.take r.length r = r := List.take_length
        clear hnb h63 h43 h45 h42 h47 h36 hr HP64 HR hl
        go_enter Tryd.func35, Tryd.ntmps35
        go_wp2_with fail
        refine Calls.mono HC.out ?_
        rintro e w1 ⟨rfl, hb1⟩
        go_wp2_with fail
        refine Calls.mono (HP36.out _) ?_
        rintro e w2 ⟨rfl, rfl⟩
        go_wp2_with fail
        refine Calls.mono (HA.out _) ?_
        rintro e w3 ⟨rfl, hb3⟩
        have hB3 := hb1.trans (hb3.mono hb1.size)
        go_wp2
        go_ret
        exact ⟨rfl, hB3⟩
      rw [pre_no h36] at HP36
      by_cases h64 : s.head? = some 64
      · obtain ⟨r, hr⟩ : ∃ r, s = 64 :: r := by
          cases hs : s with
          | nil => rw [hs] at h64; cases h64
          | cons y r => rw [hs] at h64; injection h64 with e; exact ⟨r, by rw [e]⟩
        have HR : Hid (shIn s = .call (cutA 46 (cutA 47 r)) (cutB 46 (cutA 47 r)) (numV (cutB 47 r))) := by exact (by unfold shIn; rw [if_neg (by rw [hnb]; simp), if_neg h63, if_neg h43, if_neg h45, if_neg h42, if_neg h47, if_neg h36, if_pos h64, hr]; rfl : shIn s = .call (cutA 46 (cutA 47 r)) (cutB 46 (cutA 47 r)) (numV (cutB 47 r)))
        have hrl : r.length + 1 ≤ 1048576 := by have h := hl; rw [hr] at h; simpa using h
        have HA : Hid (_) := fun W : World => implCallIn r W (by omega)
        rw [hr, pre_yes] at HP64
        rw [HR.out]
        rw [hr] at HC HP36 d63 hl2 ⊢
        have g1 : (((r.length : Int) + 1) == 1) = false := beq_eq_false_iff_ne.2 (by simp at hl2; intro e; apply hl2; apply List.eq_nil_of_length_eq_zero; omega)
        have g2 : (((r.length + 1 : Nat) : Int) == 1) = false := beq_eq_false_iff_ne.2 (by simp at hl2; intro e; apply hl2; apply List.eq_nil_of_length_eq_zero; omega)
        have g3 : r ≠ [] := by simpa using hl2
        clear hl1 hl2
        have htk : List.take r.length r = r := List.take_length
        clear hnb h63 h43 h45 h42 h47 h36 h64 hr HR hl
        go_enter Tryd.func35, Tryd.ntmps35
        go_wp2_with fail
        refine Calls.mono HC.out ?_
        rintro e w1 ⟨rfl, hb1⟩
        go_wp2_with fail
        refine Calls.mono (HP36.out _) ?_
        rintro e w2 ⟨rfl, rfl⟩
        go_wp2_with fail
        refine Calls.mono (HP64.out _) ?_
        rintro e w2 ⟨rfl, rfl⟩
        go_wp2_with fail
        refine Calls.mono (HA.out _) ?_
        rintro e w3 ⟨rfl, hb3⟩
        have hB3 := hb1.trans (hb3.mono hb1.size)
        go_wp2
        go_ret
        exact ⟨rfl, hB3⟩
      · rw [pre_no h64] at HP64
        have HR : Hid (shIn s = .no) := by exact (by unfold shIn; rw [if_neg (by rw [hnb]; simp), if_neg h63, if_neg h43, if_neg h45, if_neg h42, if_neg h47, if_neg h36, if_neg h64] : shIn s = .no)
        rw [HR.out]
        clear hnb h63 h43 h45 h42 h47 h36 h64 HR hl
        go_enter Tryd.func35, Tryd.ntmps35
        go_wp2_with fail
        refine Calls.mono HC.out ?_
        rintro e w1 ⟨rfl, hb1⟩
        go_wp2_with fail
        refine Calls.mono (HP36.out _) ?_
        rintro e w2 ⟨rfl, rfl⟩
        go_wp2_with fail
        refine Calls.mono (HP64.out _) ?_
        rintro e w2 ⟨rfl, rfl⟩
        go_wp2
        go_ret
        exact ⟨rfl, hb1⟩
  · rw [hnb] at HC
    have HR : Hid (shIn s = .num (numV s)) := by exact (by unfold shIn; rw [if_pos hnb] : shIn s = .num (numV s))
    generalize numV s = nv at HC HR
    clear hnb
    go_enter Tryd.func35, Tryd.ntmps35
    go_wp2_with fail
    refine Calls.mono HC.out ?_
    rintro e w1 ⟨rfl, hb1⟩
    go_wp2
    go_ret
    exact ⟨by rw [HR.out]; rfl, hb1⟩

end Go.Proofs.YtjkfjenhocaljaaDoor

/-! The contract of chapter 6's landed code: ReadTree. -/
namespace Go.Proofs.YtjkfjenhocaljaaDoor
open Go.RowKit

theorem inT_small (s : List UInt8) (h : s.length ≤ 1048576) : IntT (inT s) ∧ ShortT (inT s) := by
  have key : ∀ j, IntN ((inT s).getD j nd0) ∧ ((inT s).getD j nd0).2.2.1.length ≤ 1048576 ∧ ((inT s).getD j nd0).2.2.2.length ≤ 1048576 := by
    intro j
    unfold inT
    by_cases hj : j < (splitL 32 s).length
    · have hg : ((splitL 32 s).map (fun x => shNode (shIn x))).getD j nd0 = shNode (shIn ((splitL 32 s).getD j [])) := by simp [List.getD, hj]
      rw [hg]
      obtain ⟨h1, h2, h3⟩ := in_small ((splitL 32 s).getD j [])
      have h4 := split_part 32 s j
      exact ⟨h1, by omega, by omega⟩
    · have hg : ((splitL 32 s).map (fun x => shNode (shIn x))).getD j nd0 = nd0 := by simp [List.getD, hj]
      rw [hg]
      exact ⟨⟨⟨by decide, by decide⟩, by decide, by decide⟩, by simp [nd0], by simp [nd0]⟩
  exact ⟨fun j => (key j).1, fun j => (key j).2⟩

theorem readOk_nil : readOk [] = false ∧ readTV [] = [] := by
  have h0 : readT [] = [nd0] := by rfl
  have h1 : readOk [] = false := by
    unfold readOk
    rw [h0, show treeB [nd0] = false by decide]
    simp
  exact ⟨h1, by unfold readTV; rw [if_neg (by rw [h1]; simp)]⟩

theorem readOk_long {s : List UInt8} (h : 60 < (splitL 32 s).length) : readOk s = false ∧ readTV s = [] := by
  have h1 : readOk s = false := by
    unfold readOk
    rw [show treeB (readT s) = false from decide_eq_false (fun g => by have := g.1.2; unfold readT at this; rw [List.length_map] at this; omega)]
    simp
  exact ⟨h1, by unfold readTV; rw [if_neg (by rw [h1]; simp)]⟩

theorem readOk_yes {s : List UInt8} (hs : s ≠ []) (h : showT (inT s) = s) : readOk s = true ∧ readTV s = inT s := by
  have ht : treeB (inT s) = true := by
    rcases hb : treeB (inT s) with _ | _
    · unfold showT at h; rw [if_neg (by rw [hb]; simp)] at h; exact absurd h.symm hs
    · rfl
  have hl : showL (inT s) = s := by unfold showT at h; rw [if_pos ht] at h; exact h
  have hr : readT s = inT s := by
    have := readT_show (inT s) ht
    rw [hl] at this
    exact this
  have h2 := showL_len (inT s) (tree_nodes ht)
  have h3 := (tree_end ht).1.2
  rw [hl] at h2
  have hok : readOk s = true := by
    unfold readOk
    rw [hr, ht, hl, decide_eq_true (by omega)]
    simp
  exact ⟨hok, by unfold readTV; rw [if_pos hok, hr]⟩

theorem readOk_no {s : List UInt8} (h : showT (inT s) ≠ s) : readOk s = false ∧ readTV s = [] := by
  have h1 : readOk s = false := by
    rcases hok : readOk s with _ | _
    · rfl
    · exfalso
      unfold readOk at hok
      simp only [Bool.and_eq_true, decide_eq_true_eq, beq_iff_eq] at hok
      obtain ⟨_, ht, hl⟩ := hok
      have hn := tree_nodes ht
      have hlen := (tree_end ht).1
      have hsp : splitL 32 s = (readT s).map showN := by
        have := split_join 32 ((readT s).map showN) (fun e => by have := congrArg List.length e; simp at this; rw [this] at hlen; simp at hlen) (by
          intro x hx
          obtain ⟨n, hm, rfl⟩ := List.mem_map.1 hx
          exact show_noblank n (hn n hm))
        rw [show joinBy 32 ((readT s).map showN) = s from hl] at this
        exact this
      have hin : inT s = readT s := by
        unfold inT
        rw [hsp, List.map_map]
        have : (readT s).map ((fun x => shNode (shIn x)) ∘ showN) = (readT s).map id := List.map_congr_left (fun n hm => in_show n (hn n hm))
        rw [this, List.map_id]
      exact h (by rw [hin]; unfold showT; rw [if_pos ht]; exact hl)
  exact ⟨h1, by unfold readTV; rw [if_neg (by rw [h1]; simp)]⟩

theorem in_step (ws : List (List UInt8)) (k : Nat) (hk : k < ws.length) : (ws.map (fun x => shNode (shIn x))).take (k + 1) = (ws.map (fun x => shNode (shIn x))).take k ++ [shNode (shIn (ws.getD k []))] := by
  rw [← List.map_take, ← List.map_take]
  have hg : ws.getD k [] = ws[k] := by simp [List.getD, hk]
  rw [hg, List.take_succ_eq_append_getElem hk, List.map_append]; rfl

set_option maxHeartbeats 4000000 in
set_option maxRecDepth 100000 in
theorem implReadTree (s : List UInt8) (w : World) (hl : s.length ≤ 1048576) (ht : PowIs w) :
    Calls Tryd.prog 10 #[.string ⟨s.toArray⟩] w fun e w' => ∃ v, e = .returned (.tuple #[v, .bool (readOk s)]) ∧ w'.ownsRow w.heap.size 31 4 v (readTV s).length (nodesV (readTV s)) ∧ Below w.heap.size w w' := by
  have HC : Hid (_) := implWords s w hl
  by_cases hout : s = [] ∨ 60 < (splitL 32 s).length
  · have HR : Hid (readOk s = false ∧ readTV s = []) := by
      rcases hout with rfl | h
      · exact readOk_nil
      · exact readOk_long h
    have hwl : (wordsL s).length < 1 ∨ 60 < (wordsL s).length := by
      rcases hout with rfl | h
      · exact Or.inl (by simp [wordsL])
      · refine Or.inr ?_
        unfold wordsL
        split
        · rename_i e; subst e; simp [splitL, splitGo] at h
        · exact h
    generalize wordsL s = ws at HC hwl
    clear hout ht
    go_enter Tryd.func10, Tryd.ntmps10
    go_wp2_with fail
    refine Calls.mono HC.out ?_
    rintro e w1 ⟨v, rfl, hown1, hb1⟩
    obtain ⟨_, av, cv, rfl, _⟩ := own_texts hown1
    have hownE := (World.ownsRow_lit (base := w.heap.size) (e := 31) (size := 4) w1 #[] 0 hb1.size (by decide) rfl)
    clear hown1
    by_cases hw1 : ((ws.length : Int) < 1)
    · clear hwl
      go_wp2
      go_ret2
      exact ⟨_, by rw [HR.out.1]; rfl, by rw [HR.out.2]; exact hownE, hb1.alloc hb1.size _⟩
    · have hw2 : (60 : Int) < (ws.length : Int) := by omega
      clear hwl
      go_wp2
      go_ret2
      exact ⟨_, by rw [HR.out.1]; rfl, by rw [HR.out.2]; exact hownE, hb1.alloc hb1.size _⟩
  · have hse : s ≠ [] := fun e => hout (Or.inl e)
    have hw60 : (splitL 32 s).length ≤ 60 := by
      rcases Nat.lt_or_ge 60 (splitL 32 s).length with h | h
      · exact absurd (Or.inr h) hout
      · exact h
    have hw0 : 1 ≤ (splitL 32 s).length := by
      have := splitGo_ne 32 s []
      exact List.length_pos_iff.2 this
    have hww : wordsL s = splitL 32 s := if_neg hse
    rw [hww] at HC
    have HYes : Hid (showT (inT s) = s → readOk s = true ∧ readTV s = inT s) := readOk_yes hse
    have HNo : Hid (showT (inT s) ≠ s → readOk s = false ∧ readTV s = []) := readOk_no
    have HSm : Hid (IntT (inT s) ∧ ShortT (inT s)) := inT_small s hl
    have hwt : ∀ j, ((splitL 32 s).getD j []).length ≤ 1048576 := fun j => by have := split_part 32 s j; omega
    unfold inT at HYes HNo HSm
    generalize splitL 32 s = ws at HC HYes HNo HSm hwt hw60 hw0
    obtain ⟨i0, hi, hz0, hz1, hz2⟩ := info_parts infoNode
    have HP : Hid (PowIs w) := ht
    have HWT : Hid (∀ j, (ws.getD j []).length ≤ 1048576) := hwt
    have hwi : (ws.length : Int) ≤ 60 := by omega
    have hwj : ¬ (ws.length : Int) < 1 := by omega
    clear hout hse hww ht hwt
    go_enter Tryd.func10, Tryd.ntmps10
    go_wp2_with fail
    refine Calls.mono HC.out ?_
    rintro e w1 ⟨v, rfl, hown1, hb1⟩
    obtain ⟨g1, cp1, rfl⟩ := own_some hown1 (by omega)
    have hown0 := (World.ownsRow_lit (base := w.heap.size) (e := 31) (size := 4) w1 #[] 0 hb1.size (by decide) rfl)
    have hown1a := hown1.alloc (.cells #[] 31)
    have hB1 : Below w.heap.size w (w1.alloc (.cells #[] 31)) := hb1.alloc hb1.size _
    have hg1 := (hown1.lt g1 rfl).2
    clear hb1 HC hown1
    go_wp2
    go_loopw [5, 22] (fun v i wr => ∃ k : Nat, k ≤ ws.length ∧ i = .int .i64 k ∧ Hid (wr.ownsRow w.heap.size 31 4 v k (nodesV ((ws.map (fun x => shNode (shIn x))).take k)) ∧ v.ownBlock ≠ some g1) ∧ Hid (wr.ownsRow w.heap.size 9 1 (.slice (some ⟨g1, 0, none⟩) ws.length cp1) ws.length (strV ws)) ∧ Below w.heap.size w wr) (fun _ i _ => ws.length - (intOf i).toNat)
    case atStart => exact ⟨0, Nat.zero_le _, rfl, (⟨by simpa [nodesV] using hown0, by simp [Value.ownBlock]; omega⟩ : _ ∧ _), hown1a, hB1⟩
    case round =>
      obtain ⟨k, hk, rfl, HV, HS1, hb⟩ := hrel
      clear hown0 hown1a hB1 hg1
      have hg1r := (HS1.out.lt g1 rfl).2
      by_cases hkl : (k : Int) < (ws.length : Int)
      · have hk2 : k < ws.length := by omega
        have hcell := str_cellsD HS1.out rfl k hk2
        have hx := HWT.out k
        have hst := in_step ws k hk2
        obtain ⟨x, hxe⟩ : ∃ x, ws.getD k [] = x := ⟨_, rfl⟩
        rw [hxe] at hcell hx hst
        have HC : Hid (_) := fun W : World => implShapeIn x W hx
        cases hsx : shIn x with
        | num b =>
          have HN : Hid (_) := fun W : World => node_num b W
          rw [hsx] at HC hst
          unfold shVal at HC
          simp only at HC
          obtain ⟨n, hn⟩ : ∃ n, shNode (.num b) = n := ⟨_, rfl⟩
          rw [hn] at HN hst
          have HST : Hid ((ws.map (fun x => shNode (shIn x))).take (k + 1) = (ws.map (fun x => shNode (shIn x))).take k ++ [n]) := hst
          clear hst hxe hn hsx
          go_wp2_with fail
          refine Calls.mono (HC.out _) ?_
          rintro e w2 ⟨rfl, hb2⟩
          have hV2 := own_below HV.out.1 hb2
          have hS2 := own_below HS1.out hb2
          have hB2 := hb.trans (hb2.mono hb.size)
          have hg2 : g1 < w2.heap.size := Nat.lt_of_lt_of_le hg1r hb2.size
          have hvn := HV.out.2
          clear hb2 hb HV HS1 hcell HC hg1r
          go_wp2_with fail
          refine Calls.mono (HN.out _) ?_
          rintro e w3 ⟨rfl, hb3⟩
          have hV3 := own_below hV2 hb3
          have hS3 := own_below hS2 hb3
          have hB3 := hB2.trans (hb3.mono hB2.size)
          have hg3 : g1 < w3.heap.size := Nat.lt_of_lt_of_le hg2 hb3.size
          clear hb3 hV2 hS2 hB2 hg2 HN
          unfold nodeVal
          have hnc := new_node w3 n
          obtain ⟨kd, aa, p, f⟩ := n
          simp only at hnc ⊢
          go_wp2_with (at_builtin; refine wpList_append_own_at _ rfl _ _ 24 rfl w.heap.size 31 i0 _ 4 48 Tryd.underlying24 hi hz0 hz1 hz2 rfl (by decide) _ _ _ rfl (hV3.alloc _) ⟨w3.heap.size, 0, none⟩ 1 1 (nodesV [(kd, aa, p, f)]) rfl rfl ?c1 ?c2 ?c3 ?c4 ?c5 ?_)
          first | (case c1 => exact hnc) | skip
          first | (case c2 => exact nodesV_one _) | skip
          first | (case c3 => unfold maxLen; omega) | skip
          first | (case c4 => omega) | skip
          first | (case c5 => have := hB3.size; simp; try omega) | skip
          intro v' w4 hown4 hgrow4 hnil4 hat4
          have hv4 : v'.ownBlock ≠ some g1 := by
            rcases hat4 with h | h
            · rw [h]; exact hvn
            · rw [h]; simp; omega
          have HV4 : Hid (w4.ownsRow w.heap.size 31 4 v' (k + 1) (nodesV ((ws.map (fun x => shNode (shIn x))).take (k + 1))) ∧ v'.ownBlock ≠ some g1) := by
            exact (⟨by rw [HST.out, nodesV_append]; exact hown4, hv4⟩ : w4.ownsRow w.heap.size 31 4 v' (k + 1) (nodesV ((ws.map (fun x => shNode (shIn x))).take (k + 1))) ∧ v'.ownBlock ≠ some g1)
          have HS4 : Hid (w4.ownsRow w.heap.size 9 1 (.slice (some ⟨g1, 0, none⟩) ws.length cp1) ws.length (strV ws)) := (hS3.alloc _).kept hgrow4 (.inr (fun e => hvn e.symm))
          have hb4 : Below w.heap.size w w4 := (hB3.alloc hB3.size _).grown hgrow4 (by have := hB3.size; simp; omega) (fun q e => (hV3.lt q e).1)
          clear hown4 hgrow4 hnil4 hat4 hV3 hS3 hB3 hv4 hvn hnc
          go_wp2
          go_roundw
          case rel => exact ⟨k + 1, by omega, by go_num, HV4, HS4, hb4⟩
          case measure => simp [intOf]; omega
        | arg b =>
          have HN : Hid (_) := fun W : World => node_arg b W
          rw [hsx] at HC hst
          unfold shVal at HC
          simp only at HC
          obtain ⟨n, hn⟩ : ∃ n, shNode (.arg b) = n := ⟨_, rfl⟩
          rw [hn] at HN hst
          have HST : Hid ((ws.map (fun x => shNode (shIn x))).take (k + 1) = (ws.map (fun x => shNode (shIn x))).take k ++ [n]) := hst
          clear hst hxe hn hsx
          go_wp2_with fail
          refine Calls.mono (HC.out _) ?_
          rintro e w2 ⟨rfl, hb2⟩
          have hV2 := own_below HV.out.1 hb2
          have hS2 := own_below HS1.out hb2
          have hB2 := hb.trans (hb2.mono hb.size)
          have hg2 : g1 < w2.heap.size := Nat.lt_of_lt_of_le hg1r hb2.size
          have hvn := HV.out.2
          clear hb2 hb HV HS1 hcell HC hg1r
          go_wp2_with fail
          refine Calls.mono (HN.out _) ?_
          rintro e w3 ⟨rfl, hb3⟩
          have hV3 := own_below hV2 hb3
          have hS3 := own_below hS2 hb3
          have hB3 := hB2.trans (hb3.mono hB2.size)
          have hg3 : g1 < w3.heap.size := Nat.lt_of_lt_of_le hg2 hb3.size
          clear hb3 hV2 hS2 hB2 hg2 HN
          unfold nodeVal
          have hnc := new_node w3 n
          obtain ⟨kd, aa, p, f⟩ := n
          simp only at hnc ⊢
          go_wp2_with (at_builtin; refine wpList_append_own_at _ rfl _ _ 24 rfl w.heap.size 31 i0 _ 4 48 Tryd.underlying24 hi hz0 hz1 hz2 rfl (by decide) _ _ _ rfl (hV3.alloc _) ⟨w3.heap.size, 0, none⟩ 1 1 (nodesV [(kd, aa, p, f)]) rfl rfl ?c1 ?c2 ?c3 ?c4 ?c5 ?_)
          first | (case c1 => exact hnc) | skip
          first | (case c2 => exact nodesV_one _) | skip
          first | (case c3 => unfold maxLen; omega) | skip
          first | (case c4 => omega) | skip
          first | (case c5 => have := hB3.size; simp; try omega) | skip
          intro v' w4 hown4 hgrow4 hnil4 hat4
          have hv4 : v'.ownBlock ≠ some g1 := by
            rcases hat4 with h | h
            · rw [h]; exact hvn
            · rw [h]; simp; omega
          have HV4 : Hid (w4.ownsRow w.heap.size 31 4 v' (k + 1) (nodesV ((ws.map (fun x => shNode (shIn x))).take (k + 1))) ∧ v'.ownBlock ≠ some g1) := by
            exact (⟨by rw [HST.out, nodesV_append]; exact hown4, hv4⟩ : w4.ownsRow w.heap.size 31 4 v' (k + 1) (nodesV ((ws.map (fun x => shNode (shIn x))).take (k + 1))) ∧ v'.ownBlock ≠ some g1)
          have HS4 : Hid (w4.ownsRow w.heap.size 9 1 (.slice (some ⟨g1, 0, none⟩) ws.length cp1) ws.length (strV ws)) := (hS3.alloc _).kept hgrow4 (.inr (fun e => hvn e.symm))
          have hb4 : Below w.heap.size w w4 := (hB3.alloc hB3.size _).grown hgrow4 (by have := hB3.size; simp; omega) (fun q e => (hV3.lt q e).1)
          clear hown4 hgrow4 hnil4 hat4 hV3 hS3 hB3 hv4 hvn hnc
          go_wp2
          go_roundw
          case rel => exact ⟨k + 1, by omega, by go_num, HV4, HS4, hb4⟩
          case measure => simp [intOf]; omega
        | pair b =>
          have HN : Hid (_) := fun W : World => node_pair b W
          rw [hsx] at HC hst
          unfold shVal at HC
          simp only at HC
          obtain ⟨n, hn⟩ : ∃ n, shNode (.pair b) = n := ⟨_, rfl⟩
          rw [hn] at HN hst
          have HST : Hid ((ws.map (fun x => shNode (shIn x))).take (k + 1) = (ws.map (fun x => shNode (shIn x))).take k ++ [n]) := hst
          clear hst hxe hn hsx
          go_wp2_with fail
          refine Calls.mono (HC.out _) ?_
          rintro e w2 ⟨rfl, hb2⟩
          have hV2 := own_below HV.out.1 hb2
          have hS2 := own_below HS1.out hb2
          have hB2 := hb.trans (hb2.mono hb.size)
          have hg2 : g1 < w2.heap.size := Nat.lt_of_lt_of_le hg1r hb2.size
          have hvn := HV.out.2
          clear hb2 hb HV HS1 hcell HC hg1r
          go_wp2_with fail
          refine Calls.mono (HN.out _) ?_
          rintro e w3 ⟨rfl, hb3⟩
          have hV3 := own_below hV2 hb3
          have hS3 := own_below hS2 hb3
          have hB3 := hB2.trans (hb3.mono hB2.size)
          have hg3 : g1 < w3.heap.size := Nat.lt_of_lt_of_le hg2 hb3.size
          clear hb3 hV2 hS2 hB2 hg2 HN
          unfold nodeVal
          have hnc := new_node w3 n
          obtain ⟨kd, aa, p, f⟩ := n
          simp only at hnc ⊢
          go_wp2_with (at_builtin; refine wpList_append_own_at _ rfl _ _ 24 rfl w.heap.size 31 i0 _ 4 48 Tryd.underlying24 hi hz0 hz1 hz2 rfl (by decide) _ _ _ rfl (hV3.alloc _) ⟨w3.heap.size, 0, none⟩ 1 1 (nodesV [(kd, aa, p, f)]) rfl rfl ?c1 ?c2 ?c3 ?c4 ?c5 ?_)
          first | (case c1 => exact hnc) | skip
          first | (case c2 => exact nodesV_one _) | skip
          first | (case c3 => unfold maxLen; omega) | skip
          first | (case c4 => omega) | skip
          first | (case c5 => have := hB3.size; simp; try omega) | skip
          intro v' w4 hown4 hgrow4 hnil4 hat4
          have hv4 : v'.ownBlock ≠ some g1 := by
            rcases hat4 with h | h
            · rw [h]; exact hvn
            · rw [h]; simp; omega
          have HV4 : Hid (w4.ownsRow w.heap.size 31 4 v' (k + 1) (nodesV ((ws.map (fun x => shNode (shIn x))).take (k + 1))) ∧ v'.ownBlock ≠ some g1) := by
            exact (⟨by rw [HST.out, nodesV_append]; exact hown4, hv4⟩ : w4.ownsRow w.heap.size 31 4 v' (k + 1) (nodesV ((ws.map (fun x => shNode (shIn x))).take (k + 1))) ∧ v'.ownBlock ≠ some g1)
          have HS4 : Hid (w4.ownsRow w.heap.size 9 1 (.slice (some ⟨g1, 0, none⟩) ws.length cp1) ws.length (strV ws)) := (hS3.alloc _).kept hgrow4 (.inr (fun e => hvn e.symm))
          have hb4 : Below w.heap.size w w4 := (hB3.alloc hB3.size _).grown hgrow4 (by have := hB3.size; simp; omega) (fun q e => (hV3.lt q e).1)
          clear hown4 hgrow4 hnil4 hat4 hV3 hS3 hB3 hv4 hvn hnc
          go_wp2
          go_roundw
          case rel => exact ⟨k + 1, by omega, by go_num, HV4, HS4, hb4⟩
          case measure => simp [intOf]; omega
        | cond =>
          have HN : Hid (_) := fun W : World => node_cond W
          rw [hsx] at HC hst
          unfold shVal at HC
          simp only at HC
          obtain ⟨n, hn⟩ : ∃ n, shNode (.cond) = n := ⟨_, rfl⟩
          rw [hn] at HN hst
          have HST : Hid ((ws.map (fun x => shNode (shIn x))).take (k + 1) = (ws.map (fun x => shNode (shIn x))).take k ++ [n]) := hst
          clear hst hxe hn hsx
          go_wp2_with fail
          refine Calls.mono (HC.out _) ?_
          rintro e w2 ⟨rfl, hb2⟩
          have hV2 := own_below HV.out.1 hb2
          have hS2 := own_below HS1.out hb2
          have hB2 := hb.trans (hb2.mono hb.size)
          have hg2 : g1 < w2.heap.size := Nat.lt_of_lt_of_le hg1r hb2.size
          have hvn := HV.out.2
          clear hb2 hb HV HS1 hcell HC hg1r
          go_wp2_with fail
          refine Calls.mono (HN.out _) ?_
          rintro e w3 ⟨rfl, hb3⟩
          have hV3 := own_below hV2 hb3
          have hS3 := own_below hS2 hb3
          have hB3 := hB2.trans (hb3.mono hB2.size)
          have hg3 : g1 < w3.heap.size := Nat.lt_of_lt_of_le hg2 hb3.size
          clear hb3 hV2 hS2 hB2 hg2 HN
          unfold nodeVal
          have hnc := new_node w3 n
          obtain ⟨kd, aa, p, f⟩ := n
          simp only at hnc ⊢
          go_wp2_with (at_builtin; refine wpList_append_own_at _ rfl _ _ 24 rfl w.heap.size 31 i0 _ 4 48 Tryd.underlying24 hi hz0 hz1 hz2 rfl (by decide) _ _ _ rfl (hV3.alloc _) ⟨w3.heap.size, 0, none⟩ 1 1 (nodesV [(kd, aa, p, f)]) rfl rfl ?c1 ?c2 ?c3 ?c4 ?c5 ?_)
          first | (case c1 => exact hnc) | skip
          first | (case c2 => exact nodesV_one _) | skip
          first | (case c3 => unfold maxLen; omega) | skip
          first | (case c4 => omega) | skip
          first | (case c5 => have := hB3.size; simp; try omega) | skip
          intro v' w4 hown4 hgrow4 hnil4 hat4
          have hv4 : v'.ownBlock ≠ some g1 := by
            rcases hat4 with h | h
            · rw [h]; exact hvn
            · rw [h]; simp; omega
          have HV4 : Hid (w4.ownsRow w.heap.size 31 4 v' (k + 1) (nodesV ((ws.map (fun x => shNode (shIn x))).take (k + 1))) ∧ v'.ownBlock ≠ some g1) := by
            exact (⟨by rw [HST.out, nodesV_append]; exact hown4, hv4⟩ : w4.ownsRow w.heap.size 31 4 v' (k + 1) (nodesV ((ws.map (fun x => shNode (shIn x))).take (k + 1))) ∧ v'.ownBlock ≠ some g1)
          have HS4 : Hid (w4.ownsRow w.heap.size 9 1 (.slice (some ⟨g1, 0, none⟩) ws.length cp1) ws.length (strV ws)) := (hS3.alloc _).kept hgrow4 (.inr (fun e => hvn e.symm))
          have hb4 : Below w.heap.size w w4 := (hB3.alloc hB3.size _).grown hgrow4 (by have := hB3.size; simp; omega) (fun q e => (hV3.lt q e).1)
          clear hown4 hgrow4 hnil4 hat4 hV3 hS3 hB3 hv4 hvn hnc
          go_wp2
          go_roundw
          case rel => exact ⟨k + 1, by omega, by go_num, HV4, HS4, hb4⟩
          case measure => simp [intOf]; omega
        | call q g b =>
          have HN : Hid (_) := fun W : World => node_call q g b W
          rw [hsx] at HC hst
          unfold shVal at HC
          simp only at HC
          obtain ⟨n, hn⟩ : ∃ n, shNode (.call q g b) = n := ⟨_, rfl⟩
          rw [hn] at HN hst
          have HST : Hid ((ws.map (fun x => shNode (shIn x))).take (k + 1) = (ws.map (fun x => shNode (shIn x))).take k ++ [n]) := hst
          clear hst hxe hn hsx
          go_wp2_with fail
          refine Calls.mono (HC.out _) ?_
          rintro e w2 ⟨rfl, hb2⟩
          have hV2 := own_below HV.out.1 hb2
          have hS2 := own_below HS1.out hb2
          have hB2 := hb.trans (hb2.mono hb.size)
          have hg2 : g1 < w2.heap.size := Nat.lt_of_lt_of_le hg1r hb2.size
          have hvn := HV.out.2
          clear hb2 hb HV HS1 hcell HC hg1r
          go_wp2_with fail
          refine Calls.mono (HN.out _) ?_
          rintro e w3 ⟨rfl, hb3⟩
          have hV3 := own_below hV2 hb3
          have hS3 := own_below hS2 hb3
          have hB3 := hB2.trans (hb3.mono hB2.size)
          have hg3 : g1 < w3.heap.size := Nat.lt_of_lt_of_le hg2 hb3.size
          clear hb3 hV2 hS2 hB2 hg2 HN
          unfold nodeVal
          have hnc := new_node w3 n
          obtain ⟨kd, aa, p, f⟩ := n
          simp only at hnc ⊢
          go_wp2_with (at_builtin; refine wpList_append_own_at _ rfl _ _ 24 rfl w.heap.size 31 i0 _ 4 48 Tryd.underlying24 hi hz0 hz1 hz2 rfl (by decide) _ _ _ rfl (hV3.alloc _) ⟨w3.heap.size, 0, none⟩ 1 1 (nodesV [(kd, aa, p, f)]) rfl rfl ?c1 ?c2 ?c3 ?c4 ?c5 ?_)
          first | (case c1 => exact hnc) | skip
          first | (case c2 => exact nodesV_one _) | skip
          first | (case c3 => unfold maxLen; omega) | skip
          first | (case c4 => omega) | skip
          first | (case c5 => have := hB3.size; simp; try omega) | skip
          intro v' w4 hown4 hgrow4 hnil4 hat4
          have hv4 : v'.ownBlock ≠ some g1 := by
            rcases hat4 with h | h
            · rw [h]; exact hvn
            · rw [h]; simp; omega
          have HV4 : Hid (w4.ownsRow w.heap.size 31 4 v' (k + 1) (nodesV ((ws.map (fun x => shNode (shIn x))).take (k + 1))) ∧ v'.ownBlock ≠ some g1) := by
            exact (⟨by rw [HST.out, nodesV_append]; exact hown4, hv4⟩ : w4.ownsRow w.heap.size 31 4 v' (k + 1) (nodesV ((ws.map (fun x => shNode (shIn x))).take (k + 1))) ∧ v'.ownBlock ≠ some g1)
          have HS4 : Hid (w4.ownsRow w.heap.size 9 1 (.slice (some ⟨g1, 0, none⟩) ws.length cp1) ws.length (strV ws)) := (hS3.alloc _).kept hgrow4 (.inr (fun e => hvn e.symm))
          have hb4 : Below w.heap.size w w4 := (hB3.alloc hB3.size _).grown hgrow4 (by have := hB3.size; simp; omega) (fun q e => (hV3.lt q e).1)
          clear hown4 hgrow4 hnil4 hat4 hV3 hS3 hB3 hv4 hvn hnc
          go_wp2
          go_roundw
          case rel => exact ⟨k + 1, by omega, by go_num, HV4, HS4, hb4⟩
          case measure => simp [intOf]; omega
        | no =>
          have HN : Hid (_) := fun W : World => node_no W
          rw [hsx] at HC hst
          unfold shVal at HC
          simp only at HC
          obtain ⟨n, hn⟩ : ∃ n, shNode (.no) = n := ⟨_, rfl⟩
          rw [hn] at HN hst
          have HST : Hid ((ws.map (fun x => shNode (shIn x))).take (k + 1) = (ws.map (fun x => shNode (shIn x))).take k ++ [n]) := hst
          clear hst hxe hn hsx
          go_wp2_with fail
          refine Calls.mono (HC.out _) ?_
          rintro e w2 ⟨rfl, hb2⟩
          have hV2 := own_below HV.out.1 hb2
          have hS2 := own_below HS1.out hb2
          have hB2 := hb.trans (hb2.mono hb.size)
          have hg2 : g1 < w2.heap.size := Nat.lt_of_lt_of_le hg1r hb2.size
          have hvn := HV.out.2
          clear hb2 hb HV HS1 hcell HC hg1r
          go_wp2_with fail
          refine Calls.mono (HN.out _) ?_
          rintro e w3 ⟨rfl, hb3⟩
          have hV3 := own_below hV2 hb3
          have hS3 := own_below hS2 hb3
          have hB3 := hB2.trans (hb3.mono hB2.size)
          have hg3 : g1 < w3.heap.size := Nat.lt_of_lt_of_le hg2 hb3.size
          clear hb3 hV2 hS2 hB2 hg2 HN
          unfold nodeVal
          have hnc := new_node w3 n
          obtain ⟨kd, aa, p, f⟩ := n
          simp only at hnc ⊢
          go_wp2_with (at_builtin; refine wpList_append_own_at _ rfl _ _ 24 rfl w.heap.size 31 i0 _ 4 48 Tryd.underlying24 hi hz0 hz1 hz2 rfl (by decide) _ _ _ rfl (hV3.alloc _) ⟨w3.heap.size, 0, none⟩ 1 1 (nodesV [(kd, aa, p, f)]) rfl rfl ?c1 ?c2 ?c3 ?c4 ?c5 ?_)
          first | (case c1 => exact hnc) | skip
          first | (case c2 => exact nodesV_one _) | skip
          first | (case c3 => unfold maxLen; omega) | skip
          first | (case c4 => omega) | skip
          first | (case c5 => have := hB3.size; simp; try omega) | skip
          intro v' w4 hown4 hgrow4 hnil4 hat4
          have hv4 : v'.ownBlock ≠ some g1 := by
            rcases hat4 with h | h
            · rw [h]; exact hvn
            · rw [h]; simp; omega
          have HV4 : Hid (w4.ownsRow w.heap.size 31 4 v' (k + 1) (nodesV ((ws.map (fun x => shNode (shIn x))).take (k + 1))) ∧ v'.ownBlock ≠ some g1) := by
            exact (⟨by rw [HST.out, nodesV_append]; exact hown4, hv4⟩ : w4.ownsRow w.heap.size 31 4 v' (k + 1) (nodesV ((ws.map (fun x => shNode (shIn x))).take (k + 1))) ∧ v'.ownBlock ≠ some g1)
          have HS4 : Hid (w4.ownsRow w.heap.size 9 1 (.slice (some ⟨g1, 0, none⟩) ws.length cp1) ws.length (strV ws)) := (hS3.alloc _).kept hgrow4 (.inr (fun e => hvn e.symm))
          have hb4 : Below w.heap.size w w4 := (hB3.alloc hB3.size _).grown hgrow4 (by have := hB3.size; simp; omega) (fun q e => (hV3.lt q e).1)
          clear hown4 hgrow4 hnil4 hat4 hV3 hS3 hB3 hv4 hvn hnc
          go_wp2
          go_roundw
          case rel => exact ⟨k + 1, by omega, by go_num, HV4, HS4, hb4⟩
          case measure => simp [intOf]; omega
      · obtain rfl : k = ws.length := by omega
        have hV := HV.out.1
        rw [List.take_of_length_le (by rw [List.length_map]; exact Nat.le_refl _)] at hV
        obtain ⟨_, av, cv, rfl, hin⟩ := own_nodes hV
        have HT : Hid (_) := implShowTree av ws.length cv (ws.map (fun x => shNode (shIn x))) wr hin HSm.out.1 HSm.out.2 (by omega) (HP.out.below hb)
        have HVV : Hid (wr.ownsRow w.heap.size 31 4 (.slice av ws.length cv) ws.length (nodesV (ws.map (fun x => shNode (shIn x))))) := hV
        obtain ⟨S, hS⟩ : ∃ S, showT (ws.map (fun x => shNode (shIn x))) = S := ⟨_, rfl⟩
        rw [hS] at HYes HNo HT
        clear hV hin HV HS1 hS hg1r
        by_cases he : S = s
        · have HR : Hid (readOk s = true ∧ readTV s = ws.map (fun x => shNode (shIn x))) := HYes.out he
          subst he
          have hne : (S != S) = false := by simp
          clear HYes HNo
          go_wp2_with fail
          refine Calls.mono HT.out ?_
          rintro e w4 ⟨rfl, hb4⟩
          have hB4 := hb.trans (hb4.mono hb.size)
          have hV4 := own_below HVV.out hb4
          clear hb4 hb
          go_wp2
          go_ret2
          exact ⟨_, by rw [HR.out.1]; rfl, by rw [HR.out.2, List.length_map]; exact hV4, hB4⟩
        · have HR : Hid (readOk s = false ∧ readTV s = []) := HNo.out he
          have he2 : (S == s) = false := beq_eq_false_iff_ne.2 he
          have hne : (S != s) = true := by rw [bne, he2]; rfl
          clear HYes HNo he
          go_wp2_with fail
          refine Calls.mono HT.out ?_
          rintro e w4 ⟨rfl, hb4⟩
          have hB4 := hb.trans (hb4.mono hb.size)
          have hownE := (World.ownsRow_lit (base := w.heap.size) (e := 31) (size := 4) w4 #[] 0 hB4.size (by decide) rfl)
          clear hb4 hb
          go_wp2
          go_ret2
          exact ⟨_, by rw [HR.out.1]; rfl, by rw [HR.out.2]; exact hownE, hB4.alloc hB4.size _⟩

end Go.Proofs.YtjkfjenhocaljaaDoor

/-! A code that came in, as the laws' walks take it. -/
namespace Go.Proofs.YtjkfjenhocaljaaDoor
open Go.RowKit

theorem code_nil (w : World) : Code w w.heap.size none 0 := fun j hj => by omega

theorem code_of (w : World) (x : Addr) (len : Nat) (zs : List Int) (h : ∀ i, i < zs.length → w.cell? (x.add i) = some (.int .u8 (zs.getD i 0))) (hl : len ≤ zs.length) (hw : ∀ n ∈ zs, (Lit.int .u8 n).wf = true) : Code w w.heap.size (some x) len := by
  intro j hj
  obtain ⟨b, off, spot⟩ := x
  have hc := h j (by omega)
  have hspot : spot = none := by simpa [Addr.add] using World.cell?_spot (h 0 (by omega))
  subst hspot
  have e : (⟨b, off, none⟩ : Addr).add j = ⟨b, off + j, none⟩ := by unfold Addr.add; split <;> simp_all
  rw [e] at hc
  have hb := bounds_u8 (hw (zs.getD j 0) (by rw [List.getD_eq_getElem?_getD, List.getElem?_eq_getElem (by omega)]; exact List.getElem_mem _))
  exact ⟨b, off, _, rfl, World.block_lt_of_cell? w ⟨b, off + j, none⟩ hc, hc, hb⟩

theorem Code.later {w w' : World} {a : Option Addr} {len : Nat} (h : Code w w.heap.size a len) (hb : Below w.heap.size w w') : Code w' w'.heap.size a len := by
  intro j hj
  obtain ⟨b, off, x, e1, e2, e3, e0⟩ := h j hj
  exact ⟨b, off, x, e1, Nat.lt_of_lt_of_le e2 hb.size, (hb.cell (p := ⟨b, off + j, none⟩) e2).trans e3, e0⟩

theorem Code.kept {w w' : World} {a : Option Addr} {len : Nat} (h : Code w w.heap.size a len) (hg : w.grownBy w' none) : Code w' w'.heap.size a len :=
  h.later ⟨hg.os, hg.tape, hg.output, hg.size, fun k hk => hg.block k hk (by simp)⟩

set_option maxHeartbeats 400000 in
set_option maxRecDepth 100000 in
theorem bigB (w : World) (a : Option Addr) (len cap : Nat) :
    Calls Tryd.prog 6 #[.slice a len cap] w fun e w' => e = .returned (.bool (decide (4096 < (len : Int)))) ∧ w' = w := by
  go_enter Tryd.func6, Tryd.ntmps6
  go_wp2
  go_ret
  exact ⟨rfl, rfl⟩

theorem code_some {w : World} {B : Nat} {a : Option Addr} {len : Nat} (h : Code w B a len) (hz : len ≠ 0) : ∃ b off, a = some ⟨b, off, none⟩ ∧ ∀ j, j < len → ∃ x : Int, w.cell? ⟨b, off + j, none⟩ = some (.int .u8 x) ∧ 0 ≤ x ∧ x ≤ 255 := by
  obtain ⟨b, off, x, rfl, _, _⟩ := h 0 (by omega)
  refine ⟨b, off, rfl, fun j hj => ?_⟩
  obtain ⟨b', off', x', e1, _, e3, e4⟩ := h j hj
  injection e1 with e1
  injection e1 with e5 e6
  subst e5 e6
  exact ⟨x', e3, e4⟩


end Go.Proofs.YtjkfjenhocaljaaDoor
