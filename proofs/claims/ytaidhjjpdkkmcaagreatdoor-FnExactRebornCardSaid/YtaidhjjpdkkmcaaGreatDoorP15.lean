/-
  Parts of one proof, one behind the other: TreeI.
-/
import Derived.Test.YtaidhjjpdkkmcaaGreatDoorP14
import Derived.Test.YtaidhjjpdkkmcaaGreatDoorP13
import Derived.Test.YtaidhjjpdkkmcaaGreatDoorP10

/-! The contracts of chapter 6's landed code: shapes (told apart by type switches). -/
namespace Go.Proofs.YtaidhjjpdkkmcaaGreatDoor
open Go.RowKit

/-- A shape as a value behind the interface. -/
def shVal : Sh → Value
 | .num a => .iface 248 (.agg #[.int .i64 a])
 | .arg a => .iface 250 (.agg #[.int .i64 a])
 | .pair k => .iface 252 (.agg #[.int .i64 k])
 | .cond => .iface 254 (.agg #[])
 | .call p f a => .iface 256 (.agg #[.string ⟨p.toArray⟩, .string ⟨f.toArray⟩, .int .i64 a])
 | .no => .iface 257 (.agg #[])

/-! A type assertion: the value and true where the type is its own, else the type's zero value and false. -/
theorem as_num_num (v : Value) (w : World) : (Instr.typeAssert (.iface 248 v) 243 248 true).run Tryz.prog w = .ok (.tuple #[v, .bool true]) w := by kernel_rfl
theorem as_num_arg (v : Value) (w : World) : (Instr.typeAssert (.iface 248 v) 243 250 true).run Tryz.prog w = .ok (.tuple #[.agg #[.int .i64 0], .bool false]) w := by kernel_rfl
theorem as_num_pair (v : Value) (w : World) : (Instr.typeAssert (.iface 248 v) 243 252 true).run Tryz.prog w = .ok (.tuple #[.agg #[.int .i64 0], .bool false]) w := by kernel_rfl
theorem as_num_cond (v : Value) (w : World) : (Instr.typeAssert (.iface 248 v) 243 254 true).run Tryz.prog w = .ok (.tuple #[.agg #[], .bool false]) w := by kernel_rfl
theorem as_num_call (v : Value) (w : World) : (Instr.typeAssert (.iface 248 v) 243 256 true).run Tryz.prog w = .ok (.tuple #[.agg #[.string ByteArray.empty, .string ByteArray.empty, .int .i64 0], .bool false]) w := by kernel_rfl
theorem as_arg_num (v : Value) (w : World) : (Instr.typeAssert (.iface 250 v) 243 248 true).run Tryz.prog w = .ok (.tuple #[.agg #[.int .i64 0], .bool false]) w := by kernel_rfl
theorem as_arg_arg (v : Value) (w : World) : (Instr.typeAssert (.iface 250 v) 243 250 true).run Tryz.prog w = .ok (.tuple #[v, .bool true]) w := by kernel_rfl
theorem as_arg_pair (v : Value) (w : World) : (Instr.typeAssert (.iface 250 v) 243 252 true).run Tryz.prog w = .ok (.tuple #[.agg #[.int .i64 0], .bool false]) w := by kernel_rfl
theorem as_arg_cond (v : Value) (w : World) : (Instr.typeAssert (.iface 250 v) 243 254 true).run Tryz.prog w = .ok (.tuple #[.agg #[], .bool false]) w := by kernel_rfl
theorem as_arg_call (v : Value) (w : World) : (Instr.typeAssert (.iface 250 v) 243 256 true).run Tryz.prog w = .ok (.tuple #[.agg #[.string ByteArray.empty, .string ByteArray.empty, .int .i64 0], .bool false]) w := by kernel_rfl
theorem as_pair_num (v : Value) (w : World) : (Instr.typeAssert (.iface 252 v) 243 248 true).run Tryz.prog w = .ok (.tuple #[.agg #[.int .i64 0], .bool false]) w := by kernel_rfl
theorem as_pair_arg (v : Value) (w : World) : (Instr.typeAssert (.iface 252 v) 243 250 true).run Tryz.prog w = .ok (.tuple #[.agg #[.int .i64 0], .bool false]) w := by kernel_rfl
theorem as_pair_pair (v : Value) (w : World) : (Instr.typeAssert (.iface 252 v) 243 252 true).run Tryz.prog w = .ok (.tuple #[v, .bool true]) w := by kernel_rfl
theorem as_pair_cond (v : Value) (w : World) : (Instr.typeAssert (.iface 252 v) 243 254 true).run Tryz.prog w = .ok (.tuple #[.agg #[], .bool false]) w := by kernel_rfl
theorem as_pair_call (v : Value) (w : World) : (Instr.typeAssert (.iface 252 v) 243 256 true).run Tryz.prog w = .ok (.tuple #[.agg #[.string ByteArray.empty, .string ByteArray.empty, .int .i64 0], .bool false]) w := by kernel_rfl
theorem as_cond_num (v : Value) (w : World) : (Instr.typeAssert (.iface 254 v) 243 248 true).run Tryz.prog w = .ok (.tuple #[.agg #[.int .i64 0], .bool false]) w := by kernel_rfl
theorem as_cond_arg (v : Value) (w : World) : (Instr.typeAssert (.iface 254 v) 243 250 true).run Tryz.prog w = .ok (.tuple #[.agg #[.int .i64 0], .bool false]) w := by kernel_rfl
theorem as_cond_pair (v : Value) (w : World) : (Instr.typeAssert (.iface 254 v) 243 252 true).run Tryz.prog w = .ok (.tuple #[.agg #[.int .i64 0], .bool false]) w := by kernel_rfl
theorem as_cond_cond (v : Value) (w : World) : (Instr.typeAssert (.iface 254 v) 243 254 true).run Tryz.prog w = .ok (.tuple #[v, .bool true]) w := by kernel_rfl
theorem as_cond_call (v : Value) (w : World) : (Instr.typeAssert (.iface 254 v) 243 256 true).run Tryz.prog w = .ok (.tuple #[.agg #[.string ByteArray.empty, .string ByteArray.empty, .int .i64 0], .bool false]) w := by kernel_rfl
theorem as_call_num (v : Value) (w : World) : (Instr.typeAssert (.iface 256 v) 243 248 true).run Tryz.prog w = .ok (.tuple #[.agg #[.int .i64 0], .bool false]) w := by kernel_rfl
theorem as_call_arg (v : Value) (w : World) : (Instr.typeAssert (.iface 256 v) 243 250 true).run Tryz.prog w = .ok (.tuple #[.agg #[.int .i64 0], .bool false]) w := by kernel_rfl
theorem as_call_pair (v : Value) (w : World) : (Instr.typeAssert (.iface 256 v) 243 252 true).run Tryz.prog w = .ok (.tuple #[.agg #[.int .i64 0], .bool false]) w := by kernel_rfl
theorem as_call_cond (v : Value) (w : World) : (Instr.typeAssert (.iface 256 v) 243 254 true).run Tryz.prog w = .ok (.tuple #[.agg #[], .bool false]) w := by kernel_rfl
theorem as_call_call (v : Value) (w : World) : (Instr.typeAssert (.iface 256 v) 243 256 true).run Tryz.prog w = .ok (.tuple #[v, .bool true]) w := by kernel_rfl
theorem as_no_num (v : Value) (w : World) : (Instr.typeAssert (.iface 257 v) 243 248 true).run Tryz.prog w = .ok (.tuple #[.agg #[.int .i64 0], .bool false]) w := by kernel_rfl
theorem as_no_arg (v : Value) (w : World) : (Instr.typeAssert (.iface 257 v) 243 250 true).run Tryz.prog w = .ok (.tuple #[.agg #[.int .i64 0], .bool false]) w := by kernel_rfl
theorem as_no_pair (v : Value) (w : World) : (Instr.typeAssert (.iface 257 v) 243 252 true).run Tryz.prog w = .ok (.tuple #[.agg #[.int .i64 0], .bool false]) w := by kernel_rfl
theorem as_no_cond (v : Value) (w : World) : (Instr.typeAssert (.iface 257 v) 243 254 true).run Tryz.prog w = .ok (.tuple #[.agg #[], .bool false]) w := by kernel_rfl
theorem as_no_call (v : Value) (w : World) : (Instr.typeAssert (.iface 257 v) 243 256 true).run Tryz.prog w = .ok (.tuple #[.agg #[.string ByteArray.empty, .string ByteArray.empty, .int .i64 0], .bool false]) w := by kernel_rfl

set_option maxHeartbeats 2000000 in
set_option maxRecDepth 100000 in
theorem implShapeOf (n : Nd) (w : World) : Calls Tryz.prog 199 #[nodeVal n] w fun e w' => e = .returned (shVal (shOf n)) ∧ Below w.heap.size w w' := by
 obtain ⟨k, a, p, f⟩ := n
 rcases shOf_kinds (k, a, p, f) with ⟨h, e⟩ | ⟨h, e⟩ | ⟨h, e⟩ | ⟨h, e⟩ | ⟨h, e⟩ | ⟨h, e⟩
 ·
  rw [e]; simp only at h; subst h; clear e
  unfold nodeVal shVal; simp only
  go_enter Tryz.func199, Tryz.ntmps199
  go_wp2
  go_ret
  exact ⟨rfl, (Below.refl _ w).alloc (Nat.le_refl _) _⟩
 ·
  rw [e]; simp only at h; subst h; clear e
  unfold nodeVal shVal; simp only
  go_enter Tryz.func199, Tryz.ntmps199
  go_wp2
  go_ret
  exact ⟨rfl, (Below.refl _ w).alloc (Nat.le_refl _) _⟩
 ·
  rw [e]; simp only at h; clear e
  rcases (show k = 3 ∨ k = 4 ∨ k = 5 ∨ k = 6 by omega) with rfl | rfl | rfl | rfl
  all_goals
   unfold nodeVal shVal; simp only
   go_enter Tryz.func199, Tryz.ntmps199
   go_wp2
   go_ret
   exact ⟨rfl, (Below.refl _ w).alloc (Nat.le_refl _) _⟩
 ·
  rw [e]; simp only at h; subst h; clear e
  unfold nodeVal shVal; simp only
  go_enter Tryz.func199, Tryz.ntmps199
  go_wp2
  go_ret
  exact ⟨rfl, (Below.refl _ w).alloc (Nat.le_refl _) _⟩
 ·
  rw [e]; simp only at h; subst h; clear e
  unfold nodeVal shVal; simp only
  go_enter Tryz.func199, Tryz.ntmps199
  go_wp2
  go_ret
  exact ⟨rfl, (Below.refl _ w).alloc (Nat.le_refl _) _⟩
 ·
  rw [e]; simp only at h; clear e
  have d1 : (k == 1) = false := beq_eq_false_iff_ne.2 (by omega)
  have d2 : (k == 2) = false := beq_eq_false_iff_ne.2 (by omega)
  have d3 : (k == 3) = false := beq_eq_false_iff_ne.2 (by omega)
  have d4 : (k == 4) = false := beq_eq_false_iff_ne.2 (by omega)
  have d5 : (k == 5) = false := beq_eq_false_iff_ne.2 (by omega)
  have d6 : (k == 6) = false := beq_eq_false_iff_ne.2 (by omega)
  have d7 : (k == 7) = false := beq_eq_false_iff_ne.2 (by omega)
  have d8 : (k == 8) = false := beq_eq_false_iff_ne.2 (by omega)
  clear h
  unfold nodeVal shVal; simp only
  go_enter Tryz.func199, Tryz.ntmps199
  go_wp2
  go_ret
  exact ⟨rfl, (Below.refl _ w).alloc (Nat.le_refl _) _⟩

set_option maxHeartbeats 2000000 in
set_option maxRecDepth 100000 in
theorem implKidsOfShape (s : Sh) (w : World) : Calls Tryz.prog 198 #[shVal s] w fun e w' => e = .returned (.int .i64 (shKids s)) ∧ Below w.heap.size w w' := by
 cases s with
 | num a =>
  unfold shVal; simp only
  have q0 := as_num_num
  have q1 := as_num_arg
  have q2 := as_num_pair
  have q3 := as_num_cond
  have q4 := as_num_call
  go_enter Tryz.func198, Tryz.ntmps198
  go_wp2
  go_ret
  exact ⟨rfl, Below.refl _ w⟩
 | arg a =>
  unfold shVal; simp only
  have q0 := as_arg_num
  have q1 := as_arg_arg
  have q2 := as_arg_pair
  have q3 := as_arg_cond
  have q4 := as_arg_call
  go_enter Tryz.func198, Tryz.ntmps198
  go_wp2
  go_ret
  exact ⟨rfl, Below.refl _ w⟩
 | pair k =>
  unfold shVal; simp only
  have q0 := as_pair_num
  have q1 := as_pair_arg
  have q2 := as_pair_pair
  have q3 := as_pair_cond
  have q4 := as_pair_call
  go_enter Tryz.func198, Tryz.ntmps198
  go_wp2
  go_ret
  exact ⟨rfl, (Below.refl _ w).alloc (Nat.le_refl _) _⟩
 | cond =>
  unfold shVal; simp only
  have q0 := as_cond_num
  have q1 := as_cond_arg
  have q2 := as_cond_pair
  have q3 := as_cond_cond
  have q4 := as_cond_call
  go_enter Tryz.func198, Tryz.ntmps198
  go_wp2
  go_ret
  exact ⟨rfl, (Below.refl _ w).alloc (Nat.le_refl _) _⟩
 | call p f a =>
  unfold shVal; simp only
  have q0 := as_call_num
  have q1 := as_call_arg
  have q2 := as_call_pair
  have q3 := as_call_cond
  have q4 := as_call_call
  go_enter Tryz.func198, Tryz.ntmps198
  go_wp2
  go_ret
  exact ⟨rfl, (Below.refl _ w).alloc (Nat.le_refl _) _⟩
 | no =>
  unfold shVal; simp only
  have q0 := as_no_num
  have q1 := as_no_arg
  have q2 := as_no_pair
  have q3 := as_no_cond
  have q4 := as_no_call
  go_enter Tryz.func198, Tryz.ntmps198
  go_wp2
  go_ret
  exact ⟨rfl, Below.refl _ w⟩

set_option maxHeartbeats 4000000 in
set_option maxRecDepth 100000 in
theorem implShapeOk (s : Sh) (w : World) (hl : ∀ p f a, s = .call p f a → p.length ≤ 1048576 ∧ f.length ≤ 1048576) : Calls Tryz.prog 200 #[shVal s] w fun e w' => e = .returned (.bool (shOk s)) ∧ Below w.heap.size w w' := by
 cases s with
 | num a =>
  unfold shVal; simp only
  have q0 := as_num_num
  have q1 := as_num_arg
  have q2 := as_num_pair
  have q3 := as_num_cond
  have q4 := as_num_call
  go_enter Tryz.func200, Tryz.ntmps200
  go_wp2_with fail
  refine (implWordOkS _ _).mono ?_
  rintro e w1 ⟨rfl, rfl⟩
  go_wp2
  go_ret
  exact ⟨rfl, (Below.refl _ w).alloc (Nat.le_refl _) _⟩
 | arg a =>
  unfold shVal; simp only
  have q0 := as_arg_num
  have q1 := as_arg_arg
  have q2 := as_arg_pair
  have q3 := as_arg_cond
  have q4 := as_arg_call
  have HO : Hid (shOk (.arg a) = inB a 0 2) := by exact (rfl : shOk (.arg a) = inB a 0 2)
  by_cases h1 : 0 ≤ a
  ·
   by_cases h2 : a ≤ 2
   ·
    have HB : Hid (inB a 0 2 = true) := inB_yes _ _ _ h1 h2
    go_enter Tryz.func200, Tryz.ntmps200
    go_wp2
    go_ret
    exact ⟨by rw [HO.out, HB.out]; rfl, (Below.refl _ w).alloc (Nat.le_refl _) _⟩
   ·
    have HB : Hid (inB a 0 2 = false) := inB_no _ _ _ (by omega)
    go_enter Tryz.func200, Tryz.ntmps200
    go_wp2
    go_ret
    exact ⟨by rw [HO.out, HB.out]; rfl, (Below.refl _ w).alloc (Nat.le_refl _) _⟩
  ·
   have HB : Hid (inB a 0 2 = false) := inB_no _ _ _ (by omega)
   go_enter Tryz.func200, Tryz.ntmps200
   go_wp2
   go_ret
   exact ⟨by rw [HO.out, HB.out]; rfl, (Below.refl _ w).alloc (Nat.le_refl _) _⟩
 | pair k =>
  unfold shVal; simp only
  have q0 := as_pair_num
  have q1 := as_pair_arg
  have q2 := as_pair_pair
  have q3 := as_pair_cond
  have q4 := as_pair_call
  go_enter Tryz.func200, Tryz.ntmps200
  go_wp2
  go_ret
  exact ⟨rfl, Below.refl _ w⟩
 | cond =>
  unfold shVal; simp only
  have q0 := as_cond_num
  have q1 := as_cond_arg
  have q2 := as_cond_pair
  have q3 := as_cond_cond
  have q4 := as_cond_call
  go_enter Tryz.func200, Tryz.ntmps200
  go_wp2
  go_ret
  exact ⟨rfl, Below.refl _ w⟩
 | call p f a =>
  unfold shVal; simp only
  have q0 := as_call_num
  have q1 := as_call_arg
  have q2 := as_call_pair
  have q3 := as_call_cond
  have q4 := as_call_call
  obtain ⟨hp, hf⟩ := hl p f a rfl
  have HO : Hid (shOk (.call p f a) = (inB a 0 3 && (nameB p && nameB f))) := by exact (rfl : shOk (.call p f a) = (inB a 0 3 && (nameB p && nameB f)))
  by_cases h1 : 0 ≤ a
  ·
   by_cases h2 : a ≤ 3
   ·
    have HB : Hid (inB a 0 3 = true) := inB_yes _ _ _ h1 h2
    rcases hn : nameB p with _ | _
    ·
     have HN : Hid (nameB p = false) := hn
     clear hn
     go_enter Tryz.func200, Tryz.ntmps200
     go_wp2_with fail
     refine (implNameOkS p _ hp).mono ?_
     rintro e w1 ⟨rfl, rfl⟩
     rw [HN.out]
     go_wp2
     go_ret
     exact ⟨by rw [HO.out, HB.out, HN.out]; rfl, (Below.refl _ w).alloc (Nat.le_refl _) _⟩
    ·
     have HN : Hid (nameB p = true) := hn
     clear hn
     go_enter Tryz.func200, Tryz.ntmps200
     go_wp2_with fail
     refine (implNameOkS p _ hp).mono ?_
     rintro e w1 ⟨rfl, rfl⟩
     rw [HN.out]
     go_wp2_with fail
     refine (implNameOkS f _ hf).mono ?_
     rintro e w1 ⟨rfl, rfl⟩
     go_wp2
     go_ret
     exact ⟨by rw [HO.out, HB.out, HN.out]; rfl, (Below.refl _ w).alloc (Nat.le_refl _) _⟩
   ·
    have HB : Hid (inB a 0 3 = false) := inB_no _ _ _ (by omega)
    go_enter Tryz.func200, Tryz.ntmps200
    go_wp2
    go_ret
    exact ⟨by rw [HO.out, HB.out]; rfl, (Below.refl _ w).alloc (Nat.le_refl _) _⟩
  ·
   have HB : Hid (inB a 0 3 = false) := inB_no _ _ _ (by omega)
   go_enter Tryz.func200, Tryz.ntmps200
   go_wp2
   go_ret
   exact ⟨by rw [HO.out, HB.out]; rfl, (Below.refl _ w).alloc (Nat.le_refl _) _⟩
 | no =>
  unfold shVal; simp only
  have q0 := as_no_num
  have q1 := as_no_arg
  have q2 := as_no_pair
  have q3 := as_no_cond
  have q4 := as_no_call
  go_enter Tryz.func200, Tryz.ntmps200
  go_wp2
  go_ret
  exact ⟨rfl, Below.refl _ w⟩

/-! The method node, shape by shape. -/
set_option maxHeartbeats 1000000 in
set_option maxRecDepth 100000 in
theorem node_num (a : Int) (w : World) : Calls Tryz.prog 242 #[.agg #[.int .i64 a]] w fun e w' => e = .returned (nodeVal (shNode (.num a))) ∧ Below w.heap.size w w' := by
 go_enter Tryz.func242, Tryz.ntmps242
 go_wp2
 refine bodyPost_ret (v := .agg #[.int .i64 1, .int .i64 a, .string ⟨#[]⟩, .string ⟨#[]⟩]) (by simp [results, Tryz.results242, go_sem]) rfl ?_
 exact ⟨rfl, ((Below.refl _ w).alloc (Nat.le_refl _) _).alloc (by simp) _⟩

set_option maxHeartbeats 1000000 in
set_option maxRecDepth 100000 in
theorem node_arg (a : Int) (w : World) : Calls Tryz.prog 243 #[.agg #[.int .i64 a]] w fun e w' => e = .returned (nodeVal (shNode (.arg a))) ∧ Below w.heap.size w w' := by
 go_enter Tryz.func243, Tryz.ntmps243
 go_wp2
 refine bodyPost_ret (v := .agg #[.int .i64 2, .int .i64 a, .string ⟨#[]⟩, .string ⟨#[]⟩]) (by simp [results, Tryz.results243, go_sem]) rfl ?_
 exact ⟨rfl, ((Below.refl _ w).alloc (Nat.le_refl _) _).alloc (by simp) _⟩

set_option maxHeartbeats 1000000 in
set_option maxRecDepth 100000 in
theorem node_pair (k : Int) (w : World) : Calls Tryz.prog 244 #[.agg #[.int .i64 k]] w fun e w' => e = .returned (nodeVal (shNode (.pair k))) ∧ Below w.heap.size w w' := by
 go_enter Tryz.func244, Tryz.ntmps244
 go_wp2
 refine bodyPost_ret (v := .agg #[.int .i64 k, .int .i64 0, .string ⟨#[]⟩, .string ⟨#[]⟩]) (by simp [results, Tryz.results244, go_sem]) rfl ?_
 exact ⟨rfl, ((Below.refl _ w).alloc (Nat.le_refl _) _).alloc (by simp) _⟩

set_option maxHeartbeats 1000000 in
set_option maxRecDepth 100000 in
theorem node_cond  (w : World) : Calls Tryz.prog 245 #[.agg #[]] w fun e w' => e = .returned (nodeVal (shNode (.cond))) ∧ Below w.heap.size w w' := by
 go_enter Tryz.func245, Tryz.ntmps245
 go_wp2
 refine bodyPost_ret (v := .agg #[.int .i64 7, .int .i64 0, .string ⟨#[]⟩, .string ⟨#[]⟩]) (by simp [results, Tryz.results245, go_sem]) rfl ?_
 exact ⟨rfl, ((Below.refl _ w).alloc (Nat.le_refl _) _).alloc (by simp) _⟩

set_option maxHeartbeats 1000000 in
set_option maxRecDepth 100000 in
theorem node_call (p : List UInt8) (f : List UInt8) (a : Int) (w : World) : Calls Tryz.prog 246 #[.agg #[.string ⟨p.toArray⟩, .string ⟨f.toArray⟩, .int .i64 a]] w fun e w' => e = .returned (nodeVal (shNode (.call p f a))) ∧ Below w.heap.size w w' := by
 go_enter Tryz.func246, Tryz.ntmps246
 go_wp2
 refine bodyPost_ret (v := .agg #[.int .i64 8, .int .i64 a, .string ⟨p.toArray⟩, .string ⟨f.toArray⟩]) (by simp [results, Tryz.results246, go_sem]) rfl ?_
 exact ⟨rfl, ((Below.refl _ w).alloc (Nat.le_refl _) _).alloc (by simp) _⟩

end Go.Proofs.YtaidhjjpdkkmcaaGreatDoor
