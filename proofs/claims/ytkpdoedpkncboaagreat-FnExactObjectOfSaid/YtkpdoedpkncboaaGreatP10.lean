/-
  Parts of one proof, one behind the other: TreeI, TreeI2.
-/
import Derived.Test.YtkpdoedpkncboaaGreatP9
import Derived.Test.YtkpdoedpkncboaaGreatP3
import Derived.Test.YtkpdoedpkncboaaGreatP4
import Derived.Laws.StructEq
import Derived.Deep.RegionHeld3
namespace Go.Proofs.YtkpdoedpkncboaaGreat
open Go.RowKit
def zbf : Sh → Value
 | .num a => .iface 165 (.agg #[.int .i64 a])
 | .arg a => .iface 167 (.agg #[.int .i64 a])
 | .pair k => .iface 169 (.agg #[.int .i64 k])
 | .cond => .iface 171 (.agg #[])
 | .call p f a => .iface 173 (.agg #[.string ⟨p.toArray⟩, .string ⟨f.toArray⟩, .int .i64 a])
 | .no => .iface 174 (.agg #[])
theorem zg0 (v : Value) (w : World) : (Instr.typeAssert (.iface 165 v) 131 165 true).run Tryz.prog w = .ok (.tuple #[v, .bool true]) w := by kernel_rfl
theorem zg1 (v : Value) (w : World) : (Instr.typeAssert (.iface 165 v) 131 167 true).run Tryz.prog w = .ok (.tuple #[.agg #[.int .i64 0], .bool false]) w := by kernel_rfl
theorem zfb (v : Value) (w : World) : (Instr.typeAssert (.iface 165 v) 131 169 true).run Tryz.prog w = .ok (.tuple #[.agg #[.int .i64 0], .bool false]) w := by kernel_rfl
theorem zfc (v : Value) (w : World) : (Instr.typeAssert (.iface 165 v) 131 171 true).run Tryz.prog w = .ok (.tuple #[.agg #[], .bool false]) w := by kernel_rfl
theorem zfd (v : Value) (w : World) : (Instr.typeAssert (.iface 165 v) 131 173 true).run Tryz.prog w = .ok (.tuple #[.agg #[.string ByteArray.empty, .string ByteArray.empty, .int .i64 0], .bool false]) w := by kernel_rfl
theorem zg5 (v : Value) (w : World) : (Instr.typeAssert (.iface 167 v) 131 165 true).run Tryz.prog w = .ok (.tuple #[.agg #[.int .i64 0], .bool false]) w := by kernel_rfl
theorem zg6 (v : Value) (w : World) : (Instr.typeAssert (.iface 167 v) 131 167 true).run Tryz.prog w = .ok (.tuple #[v, .bool true]) w := by kernel_rfl
theorem zfi (v : Value) (w : World) : (Instr.typeAssert (.iface 167 v) 131 169 true).run Tryz.prog w = .ok (.tuple #[.agg #[.int .i64 0], .bool false]) w := by kernel_rfl
theorem zfj (v : Value) (w : World) : (Instr.typeAssert (.iface 167 v) 131 171 true).run Tryz.prog w = .ok (.tuple #[.agg #[], .bool false]) w := by kernel_rfl
theorem zfk (v : Value) (w : World) : (Instr.typeAssert (.iface 167 v) 131 173 true).run Tryz.prog w = .ok (.tuple #[.agg #[.string ByteArray.empty, .string ByteArray.empty, .int .i64 0], .bool false]) w := by kernel_rfl
theorem zf9 (v : Value) (w : World) : (Instr.typeAssert (.iface 169 v) 131 165 true).run Tryz.prog w = .ok (.tuple #[.agg #[.int .i64 0], .bool false]) w := by kernel_rfl
theorem zfa (v : Value) (w : World) : (Instr.typeAssert (.iface 169 v) 131 167 true).run Tryz.prog w = .ok (.tuple #[.agg #[.int .i64 0], .bool false]) w := by kernel_rfl
theorem ze2 (v : Value) (w : World) : (Instr.typeAssert (.iface 169 v) 131 169 true).run Tryz.prog w = .ok (.tuple #[v, .bool true]) w := by kernel_rfl
theorem ze3 (v : Value) (w : World) : (Instr.typeAssert (.iface 169 v) 131 171 true).run Tryz.prog w = .ok (.tuple #[.agg #[], .bool false]) w := by kernel_rfl
theorem ze4 (v : Value) (w : World) : (Instr.typeAssert (.iface 169 v) 131 173 true).run Tryz.prog w = .ok (.tuple #[.agg #[.string ByteArray.empty, .string ByteArray.empty, .int .i64 0], .bool false]) w := by kernel_rfl
theorem zfe (v : Value) (w : World) : (Instr.typeAssert (.iface 171 v) 131 165 true).run Tryz.prog w = .ok (.tuple #[.agg #[.int .i64 0], .bool false]) w := by kernel_rfl
theorem zff (v : Value) (w : World) : (Instr.typeAssert (.iface 171 v) 131 167 true).run Tryz.prog w = .ok (.tuple #[.agg #[.int .i64 0], .bool false]) w := by kernel_rfl
theorem ze5 (v : Value) (w : World) : (Instr.typeAssert (.iface 171 v) 131 169 true).run Tryz.prog w = .ok (.tuple #[.agg #[.int .i64 0], .bool false]) w := by kernel_rfl
theorem ze6 (v : Value) (w : World) : (Instr.typeAssert (.iface 171 v) 131 171 true).run Tryz.prog w = .ok (.tuple #[v, .bool true]) w := by kernel_rfl
theorem ze7 (v : Value) (w : World) : (Instr.typeAssert (.iface 171 v) 131 173 true).run Tryz.prog w = .ok (.tuple #[.agg #[.string ByteArray.empty, .string ByteArray.empty, .int .i64 0], .bool false]) w := by kernel_rfl
theorem zfg (v : Value) (w : World) : (Instr.typeAssert (.iface 173 v) 131 165 true).run Tryz.prog w = .ok (.tuple #[.agg #[.int .i64 0], .bool false]) w := by kernel_rfl
theorem zfh (v : Value) (w : World) : (Instr.typeAssert (.iface 173 v) 131 167 true).run Tryz.prog w = .ok (.tuple #[.agg #[.int .i64 0], .bool false]) w := by kernel_rfl
theorem ze8 (v : Value) (w : World) : (Instr.typeAssert (.iface 173 v) 131 169 true).run Tryz.prog w = .ok (.tuple #[.agg #[.int .i64 0], .bool false]) w := by kernel_rfl
theorem ze9 (v : Value) (w : World) : (Instr.typeAssert (.iface 173 v) 131 171 true).run Tryz.prog w = .ok (.tuple #[.agg #[], .bool false]) w := by kernel_rfl
theorem zea (v : Value) (w : World) : (Instr.typeAssert (.iface 173 v) 131 173 true).run Tryz.prog w = .ok (.tuple #[v, .bool true]) w := by kernel_rfl
theorem zhp (v : Value) (w : World) : (Instr.typeAssert (.iface 174 v) 131 165 true).run Tryz.prog w = .ok (.tuple #[.agg #[.int .i64 0], .bool false]) w := by kernel_rfl
theorem zhq (v : Value) (w : World) : (Instr.typeAssert (.iface 174 v) 131 167 true).run Tryz.prog w = .ok (.tuple #[.agg #[.int .i64 0], .bool false]) w := by kernel_rfl
theorem zg2 (v : Value) (w : World) : (Instr.typeAssert (.iface 174 v) 131 169 true).run Tryz.prog w = .ok (.tuple #[.agg #[.int .i64 0], .bool false]) w := by kernel_rfl
theorem zg3 (v : Value) (w : World) : (Instr.typeAssert (.iface 174 v) 131 171 true).run Tryz.prog w = .ok (.tuple #[.agg #[], .bool false]) w := by kernel_rfl
theorem zg4 (v : Value) (w : World) : (Instr.typeAssert (.iface 174 v) 131 173 true).run Tryz.prog w = .ok (.tuple #[.agg #[.string ByteArray.empty, .string ByteArray.empty, .int .i64 0], .bool false]) w := by kernel_rfl
set_option maxHeartbeats 2000000 in
set_option maxRecDepth 100000 in
theorem zb9 (n : Nd) (w : World) : Calls Tryz.prog 106 #[zaa n] w fun e w' => e = .returned (zbf (shOf n)) ∧ Below w.heap.size w w' := by
 obtain ⟨k, a, p, f⟩ := n
 rcases zcZ (k, a, p, f) with ⟨h, e⟩ | ⟨h, e⟩ | ⟨h, e⟩ | ⟨h, e⟩ | ⟨h, e⟩ | ⟨h, e⟩
 ·
  rw [e]; simp only at h; subst h; clear e
  unfold zaa zbf; simp only
  go_enter Tryz.func106, Tryz.ntmps106
  go_wp2
  go_ret
  exact ⟨rfl, (Below.refl _ w).alloc (Nat.le_refl _) _⟩
 ·
  rw [e]; simp only at h; subst h; clear e
  unfold zaa zbf; simp only
  go_enter Tryz.func106, Tryz.ntmps106
  go_wp2
  go_ret
  exact ⟨rfl, (Below.refl _ w).alloc (Nat.le_refl _) _⟩
 ·
  rw [e]; simp only at h; clear e
  rcases (show k = 3 ∨ k = 4 ∨ k = 5 ∨ k = 6 by omega) with rfl | rfl | rfl | rfl
  all_goals
   unfold zaa zbf; simp only
   go_enter Tryz.func106, Tryz.ntmps106
   go_wp2
   go_ret
   exact ⟨rfl, (Below.refl _ w).alloc (Nat.le_refl _) _⟩
 ·
  rw [e]; simp only at h; subst h; clear e
  unfold zaa zbf; simp only
  go_enter Tryz.func106, Tryz.ntmps106
  go_wp2
  go_ret
  exact ⟨rfl, (Below.refl _ w).alloc (Nat.le_refl _) _⟩
 ·
  rw [e]; simp only at h; subst h; clear e
  unfold zaa zbf; simp only
  go_enter Tryz.func106, Tryz.ntmps106
  go_wp2
  go_ret
  exact ⟨rfl, (Below.refl _ w).alloc (Nat.le_refl _) _⟩
 ·
  rw [e]; simp only at h; clear e
  have d1 : (k == 1) = false := beq_eq_false_iff_ne.2 (by omega)
  have d2 : (k == 2) = false := beq_eq_false_iff_ne.2 (by omega)
  have d3 : (k == 3) = false := beq_eq_false_iff_ne.2 (by omega)
  have d4 : (k == 4) = false := beq_eq_false_iff_ne.2 (by omega)
  have d5 : (k == 5) = false := beq_eq_false_iff_ne.2 (by omega)
  have d6 : (k == 6) = false := beq_eq_false_iff_ne.2 (by omega)
  have d7 : (k == 7) = false := beq_eq_false_iff_ne.2 (by omega)
  have d8 : (k == 8) = false := beq_eq_false_iff_ne.2 (by omega)
  clear h
  unfold zaa zbf; simp only
  go_enter Tryz.func106, Tryz.ntmps106
  go_wp2
  go_ret
  exact ⟨rfl, (Below.refl _ w).alloc (Nat.le_refl _) _⟩
set_option maxHeartbeats 2000000 in
set_option maxRecDepth 100000 in
theorem zeL (s : Sh) (w : World) : Calls Tryz.prog 105 #[zbf s] w fun e w' => e = .returned (.int .i64 (zil s)) ∧ Below w.heap.size w w' := by
 cases s with
 | num a =>
  unfold zbf; simp only
  have q0 := zg0
  have q1 := zg1
  have q2 := zfb
  have q3 := zfc
  have q4 := zfd
  go_enter Tryz.func105, Tryz.ntmps105
  go_wp2
  go_ret
  exact ⟨rfl, Below.refl _ w⟩
 | arg a =>
  unfold zbf; simp only
  have q0 := zg5
  have q1 := zg6
  have q2 := zfi
  have q3 := zfj
  have q4 := zfk
  go_enter Tryz.func105, Tryz.ntmps105
  go_wp2
  go_ret
  exact ⟨rfl, Below.refl _ w⟩
 | pair k =>
  unfold zbf; simp only
  have q0 := zf9
  have q1 := zfa
  have q2 := ze2
  have q3 := ze3
  have q4 := ze4
  go_enter Tryz.func105, Tryz.ntmps105
  go_wp2
  go_ret
  exact ⟨rfl, (Below.refl _ w).alloc (Nat.le_refl _) _⟩
 | cond =>
  unfold zbf; simp only
  have q0 := zfe
  have q1 := zff
  have q2 := ze5
  have q3 := ze6
  have q4 := ze7
  go_enter Tryz.func105, Tryz.ntmps105
  go_wp2
  go_ret
  exact ⟨rfl, (Below.refl _ w).alloc (Nat.le_refl _) _⟩
 | call p f a =>
  unfold zbf; simp only
  have q0 := zfg
  have q1 := zfh
  have q2 := ze8
  have q3 := ze9
  have q4 := zea
  go_enter Tryz.func105, Tryz.ntmps105
  go_wp2
  go_ret
  exact ⟨rfl, (Below.refl _ w).alloc (Nat.le_refl _) _⟩
 | no =>
  unfold zbf; simp only
  have q0 := zhp
  have q1 := zhq
  have q2 := zg2
  have q3 := zg3
  have q4 := zg4
  go_enter Tryz.func105, Tryz.ntmps105
  go_wp2
  go_ret
  exact ⟨rfl, Below.refl _ w⟩
set_option maxHeartbeats 4000000 in
set_option maxRecDepth 100000 in
theorem zbh (s : Sh) (w : World) (hl : ∀ p f a, s = .call p f a → p.length ≤ 1048576 ∧ f.length ≤ 1048576) : Calls Tryz.prog 138 #[zbf s] w fun e w' => e = .returned (.bool (shOk s)) ∧ Below w.heap.size w w' := by
 cases s with
 | num a =>
  unfold zbf; simp only
  have q0 := zg0
  have q1 := zg1
  have q2 := zfb
  have q3 := zfc
  have q4 := zfd
  go_enter Tryz.func138, Tryz.ntmps138
  go_wp2_with fail
  refine (zb8 _ _).mono ?_
  rintro e w1 ⟨rfl, rfl⟩
  go_wp2
  go_ret
  exact ⟨rfl, (Below.refl _ w).alloc (Nat.le_refl _) _⟩
 | arg a =>
  unfold zbf; simp only
  have q0 := zg5
  have q1 := zg6
  have q2 := zfi
  have q3 := zfj
  have q4 := zfk
  have HO : Hid (shOk (.arg a) = inB a 0 2) := by exact (rfl : shOk (.arg a) = inB a 0 2)
  by_cases h1 : 0 ≤ a
  ·
   by_cases h2 : a ≤ 2
   ·
    have HB : Hid (inB a 0 2 = true) := zc7 _ _ _ h1 h2
    go_enter Tryz.func138, Tryz.ntmps138
    go_wp2
    go_ret
    exact ⟨by rw [HO.out, HB.out]; rfl, (Below.refl _ w).alloc (Nat.le_refl _) _⟩
   ·
    have HB : Hid (inB a 0 2 = false) := zbL _ _ _ (by omega)
    go_enter Tryz.func138, Tryz.ntmps138
    go_wp2
    go_ret
    exact ⟨by rw [HO.out, HB.out]; rfl, (Below.refl _ w).alloc (Nat.le_refl _) _⟩
  ·
   have HB : Hid (inB a 0 2 = false) := zbL _ _ _ (by omega)
   go_enter Tryz.func138, Tryz.ntmps138
   go_wp2
   go_ret
   exact ⟨by rw [HO.out, HB.out]; rfl, (Below.refl _ w).alloc (Nat.le_refl _) _⟩
 | pair k =>
  unfold zbf; simp only
  have q0 := zf9
  have q1 := zfa
  have q2 := ze2
  have q3 := ze3
  have q4 := ze4
  go_enter Tryz.func138, Tryz.ntmps138
  go_wp2
  go_ret
  exact ⟨rfl, Below.refl _ w⟩
 | cond =>
  unfold zbf; simp only
  have q0 := zfe
  have q1 := zff
  have q2 := ze5
  have q3 := ze6
  have q4 := ze7
  go_enter Tryz.func138, Tryz.ntmps138
  go_wp2
  go_ret
  exact ⟨rfl, Below.refl _ w⟩
 | call p f a =>
  unfold zbf; simp only
  have q0 := zfg
  have q1 := zfh
  have q2 := ze8
  have q3 := ze9
  have q4 := zea
  obtain ⟨hp, hf⟩ := hl p f a rfl
  have HO : Hid (shOk (.call p f a) = (inB a 0 3 && (zak p && zak f))) := by exact (rfl : shOk (.call p f a) = (inB a 0 3 && (zak p && zak f)))
  by_cases h1 : 0 ≤ a
  ·
   by_cases h2 : a ≤ 3
   ·
    have HB : Hid (inB a 0 3 = true) := zc7 _ _ _ h1 h2
    rcases hn : zak p with _ | _
    ·
     have HN : Hid (zak p = false) := hn
     clear hn
     go_enter Tryz.func138, Tryz.ntmps138
     go_wp2_with fail
     refine (zby p _ hp).mono ?_
     rintro e w1 ⟨rfl, rfl⟩
     rw [HN.out]
     go_wp2
     go_ret
     exact ⟨by rw [HO.out, HB.out, HN.out]; rfl, (Below.refl _ w).alloc (Nat.le_refl _) _⟩
    ·
     have HN : Hid (zak p = true) := hn
     clear hn
     go_enter Tryz.func138, Tryz.ntmps138
     go_wp2_with fail
     refine (zby p _ hp).mono ?_
     rintro e w1 ⟨rfl, rfl⟩
     rw [HN.out]
     go_wp2_with fail
     refine (zby f _ hf).mono ?_
     rintro e w1 ⟨rfl, rfl⟩
     go_wp2
     go_ret
     exact ⟨by rw [HO.out, HB.out, HN.out]; rfl, (Below.refl _ w).alloc (Nat.le_refl _) _⟩
   ·
    have HB : Hid (inB a 0 3 = false) := zbL _ _ _ (by omega)
    go_enter Tryz.func138, Tryz.ntmps138
    go_wp2
    go_ret
    exact ⟨by rw [HO.out, HB.out]; rfl, (Below.refl _ w).alloc (Nat.le_refl _) _⟩
  ·
   have HB : Hid (inB a 0 3 = false) := zbL _ _ _ (by omega)
   go_enter Tryz.func138, Tryz.ntmps138
   go_wp2
   go_ret
   exact ⟨by rw [HO.out, HB.out]; rfl, (Below.refl _ w).alloc (Nat.le_refl _) _⟩
 | no =>
  unfold zbf; simp only
  have q0 := zhp
  have q1 := zhq
  have q2 := zg2
  have q3 := zg3
  have q4 := zg4
  go_enter Tryz.func138, Tryz.ntmps138
  go_wp2
  go_ret
  exact ⟨rfl, Below.refl _ w⟩
set_option maxHeartbeats 1000000 in
set_option maxRecDepth 100000 in
theorem node_num (a : Int) (w : World) : Calls Tryz.prog 201 #[.agg #[.int .i64 a]] w fun e w' => e = .returned (zaa (zaL (.num a))) ∧ Below w.heap.size w w' := by
 go_enter Tryz.func201, Tryz.ntmps201
 go_wp2
 refine bodyPost_ret (v := .agg #[.int .i64 1, .int .i64 a, .string ⟨#[]⟩, .string ⟨#[]⟩]) (by simp [results, Tryz.results201, go_sem]) rfl ?_
 exact ⟨rfl, ((Below.refl _ w).alloc (Nat.le_refl _) _).alloc (by simp) _⟩
set_option maxHeartbeats 1000000 in
set_option maxRecDepth 100000 in
theorem node_arg (a : Int) (w : World) : Calls Tryz.prog 202 #[.agg #[.int .i64 a]] w fun e w' => e = .returned (zaa (zaL (.arg a))) ∧ Below w.heap.size w w' := by
 go_enter Tryz.func202, Tryz.ntmps202
 go_wp2
 refine bodyPost_ret (v := .agg #[.int .i64 2, .int .i64 a, .string ⟨#[]⟩, .string ⟨#[]⟩]) (by simp [results, Tryz.results202, go_sem]) rfl ?_
 exact ⟨rfl, ((Below.refl _ w).alloc (Nat.le_refl _) _).alloc (by simp) _⟩
set_option maxHeartbeats 1000000 in
set_option maxRecDepth 100000 in
theorem zkN (k : Int) (w : World) : Calls Tryz.prog 203 #[.agg #[.int .i64 k]] w fun e w' => e = .returned (zaa (zaL (.pair k))) ∧ Below w.heap.size w w' := by
 go_enter Tryz.func203, Tryz.ntmps203
 go_wp2
 refine bodyPost_ret (v := .agg #[.int .i64 k, .int .i64 0, .string ⟨#[]⟩, .string ⟨#[]⟩]) (by simp [results, Tryz.results203, go_sem]) rfl ?_
 exact ⟨rfl, ((Below.refl _ w).alloc (Nat.le_refl _) _).alloc (by simp) _⟩
set_option maxHeartbeats 1000000 in
set_option maxRecDepth 100000 in
theorem zkO  (w : World) : Calls Tryz.prog 204 #[.agg #[]] w fun e w' => e = .returned (zaa (zaL (.cond))) ∧ Below w.heap.size w w' := by
 go_enter Tryz.func204, Tryz.ntmps204
 go_wp2
 refine bodyPost_ret (v := .agg #[.int .i64 7, .int .i64 0, .string ⟨#[]⟩, .string ⟨#[]⟩]) (by simp [results, Tryz.results204, go_sem]) rfl ?_
 exact ⟨rfl, ((Below.refl _ w).alloc (Nat.le_refl _) _).alloc (by simp) _⟩
set_option maxHeartbeats 1000000 in
set_option maxRecDepth 100000 in
theorem zkP (p : List UInt8) (f : List UInt8) (a : Int) (w : World) : Calls Tryz.prog 205 #[.agg #[.string ⟨p.toArray⟩, .string ⟨f.toArray⟩, .int .i64 a]] w fun e w' => e = .returned (zaa (zaL (.call p f a))) ∧ Below w.heap.size w w' := by
 go_enter Tryz.func205, Tryz.ntmps205
 go_wp2
 refine bodyPost_ret (v := .agg #[.int .i64 8, .int .i64 a, .string ⟨p.toArray⟩, .string ⟨f.toArray⟩]) (by simp [results, Tryz.results205, go_sem]) rfl ?_
 exact ⟨rfl, ((Below.refl _ w).alloc (Nat.le_refl _) _).alloc (by simp) _⟩
theorem zdu (k a k2 a2 : Int) (p f p2 f2 : List UInt8) (w : World) : (binOp .eql 90 (.agg #[.int .i64 k, .int .i64 a, .string ⟨p.toArray⟩, .string ⟨f.toArray⟩]) (.agg #[.int .i64 k2, .int .i64 a2, .string ⟨p2.toArray⟩, .string ⟨f2.toArray⟩])).run Tryz.prog w = .ok (.bool (decide (((k, a, p, f) : Nd) = (k2, a2, p2, f2)))) w := by
 rw [run_eql_struct]
 simp [go_sem]
 by_cases h1 : k = k2
 ·
  by_cases h2 : a = a2
  ·
   by_cases h3 : p = p2
   ·
    by_cases h4 : f = f2
    ·
     simp [h1, h2, h3, h4]
    ·
     simp [h1, h2, h3, h4]
   ·
    simp [h1, h2, h3]
  ·
   simp [h1, h2]
 ·
  simp [h1]
structure NdAt (W : World) (D : Nat) (k a : Int) (p f : List UInt8) : Prop where
 c0 : W.cell? ⟨D, 0, none⟩ = some (.int .i64 k)
 c1 : W.cell? ⟨D, 1, none⟩ = some (.int .i64 a)
 c2 : W.cell? ⟨D, 2, none⟩ = some (.string ⟨p.toArray⟩)
 c3 : W.cell? ⟨D, 3, none⟩ = some (.string ⟨f.toArray⟩)
theorem NdAt.below {W W' : World} {D : Nat} {k a : Int} {p f : List UInt8} (h : NdAt W D k a p f) (hb : Below W.heap.size W W') : NdAt W' D k a p f :=
 have hl : D < W.heap.size := World.block_lt_of_cell? W ⟨D, 0, none⟩ h.c0
 ⟨(hb.cell (p := ⟨D, 0, none⟩) hl).trans h.c0, (hb.cell (p := ⟨D, 1, none⟩) hl).trans h.c1, (hb.cell (p := ⟨D, 2, none⟩) hl).trans h.c2, (hb.cell (p := ⟨D, 3, none⟩) hl).trans h.c3⟩
theorem NdAt.drew {W : World} {D : Nat} {k a : Int} {p f : List UInt8} (h : NdAt W D k a p f) : NdAt W.drew D k a p f := ⟨h.c0, h.c1, h.c2, h.c3⟩
theorem NdAt.new (w : World) (k a : Int) (p f : List UInt8) : NdAt (w.alloc (.cells #[.int .i64 k, .int .i64 a, .string ⟨p.toArray⟩, .string ⟨f.toArray⟩] 90)) w.heap.size k a p f := by
 have hA := heap_alloc_new w (.cells #[.int .i64 k, .int .i64 a, .string ⟨p.toArray⟩, .string ⟨f.toArray⟩] 90)
 generalize w.alloc (.cells #[.int .i64 k, .int .i64 a, .string ⟨p.toArray⟩, .string ⟨f.toArray⟩] 90) = W at hA ⊢
 exact ⟨by simp [World.cell?, hA], by simp [World.cell?, hA], by simp [World.cell?, hA], by simp [World.cell?, hA]⟩
set_option maxHeartbeats 4000000 in
set_option maxRecDepth 100000 in
theorem zfr (k a : Int) (p f : List UInt8) (b : Int) (w : World) (e : shOf (k, a, p, f) = .num b) (hs : shOk (.num b) = true) :
 Calls Tryz.prog 104 #[zaa (k, a, p, f)] w fun e w' => e = .returned (.bool (zaD (k, a, p, f))) ∧ Below w.heap.size w w' := by
 have HN : Hid (zaD (k, a, p, f) = (true && decide (zaL (.num b) = (k, a, p, f)))) := by exact (by rw [zcH, e, hs] : zaD (k, a, p, f) = (true && decide (zaL (.num b) = (k, a, p, f))))
 have HC := zb9 (k, a, p, f)
 rw [e] at HC
 have HC2 : Hid (_) := HC
 have HK : Hid (_) := fun W : World => zbh (.num b) W (fun _ _ _ e => by cases e)
 rw [hs] at HK
 have HV : Hid (_) := fun W : World => node_num b W
 unfold zaa zaL at HV
 simp only at HV
 have hEq := zdu
 clear HC hs e
 unfold zaa zbf at HC2
 unfold zbf at HK
 unfold zaa
 simp only at HC2 HK ⊢
 obtain ⟨W0, hW0⟩ : ∃ W0, w.alloc (.cells #[.int .i64 k, .int .i64 a, .string ⟨p.toArray⟩, .string ⟨f.toArray⟩] 90) = W0 := ⟨_, rfl⟩
 have st := NdAt.new w k a p f
 have hB : Below w.heap.size w W0 := by rw [← hW0]; exact (Below.refl _ w).alloc (Nat.le_refl _) _
 rw [hW0] at st
 obtain ⟨D, hD0⟩ : ∃ D, w.heap.size = D := ⟨_, rfl⟩
 rw [hD0] at st hB
 have hD : Hid (w.heap.size = D) := hD0
 have c0 := st.c0
 have c1 := st.c1
 have c2 := st.c2
 have c3 := st.c3
 go_enter Tryz.func104, Tryz.ntmps104
 go_wp2_with fail
 refine Calls.mono (HC2.out _) ?_
 rintro e wn ⟨rfl, hbn⟩
 replace hB := hB.trans (hbn.mono (Nat.le_trans (Nat.le_of_eq hD.out.symm) hB.size)); replace st := st.below hbn; replace c0 := st.c0; replace c1 := st.c1; replace c2 := st.c2; replace c3 := st.c3; clear hbn
 go_wp2_with fail
 replace st := st.drew
 replace hB := hB.drew
 go_region_held3 (fun w' => w'.cell? ⟨D, 0, none⟩ = some (.int .i64 k) ∧ w'.cell? ⟨D, 1, none⟩ = some (.int .i64 a) ∧ w'.cell? ⟨D, 2, none⟩ = some (.string ⟨p.toArray⟩) ∧ w'.cell? ⟨D, 3, none⟩ = some (.string ⟨f.toArray⟩)) (go_keep) (first | (go_at_call 138; refine Calls.mono (HK.out _) ?_; rintro e wn ⟨rfl, hbn⟩; replace hB := hB.trans (hbn.mono (Nat.le_trans (Nat.le_of_eq hD.out.symm) hB.size)); replace st := st.below hbn; replace c0 := st.c0; replace c1 := st.c1; replace c2 := st.c2; replace c3 := st.c3; clear hbn) | (go_at_call 201; refine Calls.mono (HV.out _) ?_; rintro e wn ⟨rfl, hbn⟩; replace hB := hB.trans (hbn.mono (Nat.le_trans (Nat.le_of_eq hD.out.symm) hB.size)); replace st := st.below hbn; replace c0 := st.c0; replace c1 := st.c1; replace c2 := st.c2; replace c3 := st.c3; clear hbn))
 go_wp2
 go_ret
 refine ⟨?_, by rw [hD.out]; exact hB⟩
 rw [HN.out]
 simp [zaL, @eq_comm (List UInt8) [] p, @eq_comm (List UInt8) [] f]
set_option maxHeartbeats 4000000 in
set_option maxRecDepth 100000 in
theorem zge (k a : Int) (p f : List UInt8) (b : Int) (w : World) (e : shOf (k, a, p, f) = .num b) (hs : shOk (.num b) = false) :
 Calls Tryz.prog 104 #[zaa (k, a, p, f)] w fun e w' => e = .returned (.bool (zaD (k, a, p, f))) ∧ Below w.heap.size w w' := by
 have HN : Hid (zaD (k, a, p, f) = (false && decide (zaL (.num b) = (k, a, p, f)))) := by exact (by rw [zcH, e, hs] : zaD (k, a, p, f) = (false && decide (zaL (.num b) = (k, a, p, f))))
 have HC := zb9 (k, a, p, f)
 rw [e] at HC
 have HC2 : Hid (_) := HC
 have HK : Hid (_) := fun W : World => zbh (.num b) W (fun _ _ _ e => by cases e)
 rw [hs] at HK
 clear HC hs e
 unfold zaa zbf at HC2
 unfold zbf at HK
 unfold zaa
 simp only at HC2 HK ⊢
 obtain ⟨W0, hW0⟩ : ∃ W0, w.alloc (.cells #[.int .i64 k, .int .i64 a, .string ⟨p.toArray⟩, .string ⟨f.toArray⟩] 90) = W0 := ⟨_, rfl⟩
 have st := NdAt.new w k a p f
 have hB : Below w.heap.size w W0 := by rw [← hW0]; exact (Below.refl _ w).alloc (Nat.le_refl _) _
 rw [hW0] at st
 obtain ⟨D, hD0⟩ : ∃ D, w.heap.size = D := ⟨_, rfl⟩
 rw [hD0] at st hB
 have hD : Hid (w.heap.size = D) := hD0
 have c0 := st.c0
 have c1 := st.c1
 have c2 := st.c2
 have c3 := st.c3
 go_enter Tryz.func104, Tryz.ntmps104
 go_wp2_with fail
 refine Calls.mono (HC2.out _) ?_
 rintro e wn ⟨rfl, hbn⟩
 replace hB := hB.trans (hbn.mono (Nat.le_trans (Nat.le_of_eq hD.out.symm) hB.size)); replace st := st.below hbn; replace c0 := st.c0; replace c1 := st.c1; replace c2 := st.c2; replace c3 := st.c3; clear hbn
 go_wp2_with fail
 replace st := st.drew
 replace hB := hB.drew
 refine wp_region_held_drew (S := (fun _ => True)) (by kernel_rfl) ?_ (fun hHeld => ?_)
 ·
  exact True.intro
 refine tkO [(0, 6)] ?_
 repeat (refine tkY ?_ rfl (by rfl) ?_ ?_; rotate_left; (focus (intro wq hSw; (try dsimp only at hSw); first | (go_simp; done) | (go_simp; with_reducible rfl))); simp only [zP])
 refine tkZ ?_
 refine zR 1 rfl (fun K hK => ?_)
 go_simp
 (go_at_call 138; refine Calls.mono (HK.out _) ?_; rintro e wn ⟨rfl, hbn⟩; replace hB := hB.trans (hbn.mono (Nat.le_trans (Nat.le_of_eq hD.out.symm) hB.size)); replace st := st.below hbn; replace c0 := st.c0; replace c1 := st.c1; replace c2 := st.c2; replace c3 := st.c3; clear hbn)
 refine hK.out _ _ ?_ (fun hHeld => ?_)
 ·
  exact True.intro
 clear hK K
 refine tkO [(2, 8), (3, 9), (4, 10), (5, 11), (6, 12), (7, 13), (8, 2)] ?_
 repeat ((first | (refine tkY ?_ rfl (by rfl) ?_ ?_; rotate_left; (focus (intro wq hSw; (try dsimp only at hSw); first | (go_simp; done) | (go_simp; with_reducible rfl)))) | refine tkN rfl (by rfl) ?_); simp only [zP])
 refine tkZ ?_
 refine wpAnyH_done (by kernel_rfl) ?_ _
 go_wp2
 go_ret
 refine ⟨?_, by rw [hD.out]; exact hB⟩
 rw [HN.out]
 rfl
set_option maxHeartbeats 4000000 in
set_option maxRecDepth 100000 in
theorem zft (k a : Int) (p f : List UInt8) (b : Int) (w : World) (e : shOf (k, a, p, f) = .arg b) (hs : shOk (.arg b) = true) :
 Calls Tryz.prog 104 #[zaa (k, a, p, f)] w fun e w' => e = .returned (.bool (zaD (k, a, p, f))) ∧ Below w.heap.size w w' := by
 have HN : Hid (zaD (k, a, p, f) = (true && decide (zaL (.arg b) = (k, a, p, f)))) := by exact (by rw [zcH, e, hs] : zaD (k, a, p, f) = (true && decide (zaL (.arg b) = (k, a, p, f))))
 have HC := zb9 (k, a, p, f)
 rw [e] at HC
 have HC2 : Hid (_) := HC
 have HK : Hid (_) := fun W : World => zbh (.arg b) W (fun _ _ _ e => by cases e)
 rw [hs] at HK
 have HV : Hid (_) := fun W : World => node_arg b W
 unfold zaa zaL at HV
 simp only at HV
 have hEq := zdu
 clear HC hs e
 unfold zaa zbf at HC2
 unfold zbf at HK
 unfold zaa
 simp only at HC2 HK ⊢
 obtain ⟨W0, hW0⟩ : ∃ W0, w.alloc (.cells #[.int .i64 k, .int .i64 a, .string ⟨p.toArray⟩, .string ⟨f.toArray⟩] 90) = W0 := ⟨_, rfl⟩
 have st := NdAt.new w k a p f
 have hB : Below w.heap.size w W0 := by rw [← hW0]; exact (Below.refl _ w).alloc (Nat.le_refl _) _
 rw [hW0] at st
 obtain ⟨D, hD0⟩ : ∃ D, w.heap.size = D := ⟨_, rfl⟩
 rw [hD0] at st hB
 have hD : Hid (w.heap.size = D) := hD0
 have c0 := st.c0
 have c1 := st.c1
 have c2 := st.c2
 have c3 := st.c3
 go_enter Tryz.func104, Tryz.ntmps104
 go_wp2_with fail
 refine Calls.mono (HC2.out _) ?_
 rintro e wn ⟨rfl, hbn⟩
 replace hB := hB.trans (hbn.mono (Nat.le_trans (Nat.le_of_eq hD.out.symm) hB.size)); replace st := st.below hbn; replace c0 := st.c0; replace c1 := st.c1; replace c2 := st.c2; replace c3 := st.c3; clear hbn
 go_wp2_with fail
 replace st := st.drew
 replace hB := hB.drew
 go_region_held3 (fun w' => w'.cell? ⟨D, 0, none⟩ = some (.int .i64 k) ∧ w'.cell? ⟨D, 1, none⟩ = some (.int .i64 a) ∧ w'.cell? ⟨D, 2, none⟩ = some (.string ⟨p.toArray⟩) ∧ w'.cell? ⟨D, 3, none⟩ = some (.string ⟨f.toArray⟩)) (go_keep) (first | (go_at_call 138; refine Calls.mono (HK.out _) ?_; rintro e wn ⟨rfl, hbn⟩; replace hB := hB.trans (hbn.mono (Nat.le_trans (Nat.le_of_eq hD.out.symm) hB.size)); replace st := st.below hbn; replace c0 := st.c0; replace c1 := st.c1; replace c2 := st.c2; replace c3 := st.c3; clear hbn) | (go_at_call 202; refine Calls.mono (HV.out _) ?_; rintro e wn ⟨rfl, hbn⟩; replace hB := hB.trans (hbn.mono (Nat.le_trans (Nat.le_of_eq hD.out.symm) hB.size)); replace st := st.below hbn; replace c0 := st.c0; replace c1 := st.c1; replace c2 := st.c2; replace c3 := st.c3; clear hbn))
 go_wp2
 go_ret
 refine ⟨?_, by rw [hD.out]; exact hB⟩
 rw [HN.out]
 simp [zaL, @eq_comm (List UInt8) [] p, @eq_comm (List UInt8) [] f]
set_option maxHeartbeats 4000000 in
set_option maxRecDepth 100000 in
theorem zgf (k a : Int) (p f : List UInt8) (b : Int) (w : World) (e : shOf (k, a, p, f) = .arg b) (hs : shOk (.arg b) = false) :
 Calls Tryz.prog 104 #[zaa (k, a, p, f)] w fun e w' => e = .returned (.bool (zaD (k, a, p, f))) ∧ Below w.heap.size w w' := by
 have HN : Hid (zaD (k, a, p, f) = (false && decide (zaL (.arg b) = (k, a, p, f)))) := by exact (by rw [zcH, e, hs] : zaD (k, a, p, f) = (false && decide (zaL (.arg b) = (k, a, p, f))))
 have HC := zb9 (k, a, p, f)
 rw [e] at HC
 have HC2 : Hid (_) := HC
 have HK : Hid (_) := fun W : World => zbh (.arg b) W (fun _ _ _ e => by cases e)
 rw [hs] at HK
 clear HC hs e
 unfold zaa zbf at HC2
 unfold zbf at HK
 unfold zaa
 simp only at HC2 HK ⊢
 obtain ⟨W0, hW0⟩ : ∃ W0, w.alloc (.cells #[.int .i64 k, .int .i64 a, .string ⟨p.toArray⟩, .string ⟨f.toArray⟩] 90) = W0 := ⟨_, rfl⟩
 have st := NdAt.new w k a p f
 have hB : Below w.heap.size w W0 := by rw [← hW0]; exact (Below.refl _ w).alloc (Nat.le_refl _) _
 rw [hW0] at st
 obtain ⟨D, hD0⟩ : ∃ D, w.heap.size = D := ⟨_, rfl⟩
 rw [hD0] at st hB
 have hD : Hid (w.heap.size = D) := hD0
 have c0 := st.c0
 have c1 := st.c1
 have c2 := st.c2
 have c3 := st.c3
 go_enter Tryz.func104, Tryz.ntmps104
 go_wp2_with fail
 refine Calls.mono (HC2.out _) ?_
 rintro e wn ⟨rfl, hbn⟩
 replace hB := hB.trans (hbn.mono (Nat.le_trans (Nat.le_of_eq hD.out.symm) hB.size)); replace st := st.below hbn; replace c0 := st.c0; replace c1 := st.c1; replace c2 := st.c2; replace c3 := st.c3; clear hbn
 go_wp2_with fail
 replace st := st.drew
 replace hB := hB.drew
 refine wp_region_held_drew (S := (fun _ => True)) (by kernel_rfl) ?_ (fun hHeld => ?_)
 ·
  exact True.intro
 refine tkO [(0, 6)] ?_
 repeat (refine tkY ?_ rfl (by rfl) ?_ ?_; rotate_left; (focus (intro wq hSw; (try dsimp only at hSw); first | (go_simp; done) | (go_simp; with_reducible rfl))); simp only [zP])
 refine tkZ ?_
 refine zR 1 rfl (fun K hK => ?_)
 go_simp
 (go_at_call 138; refine Calls.mono (HK.out _) ?_; rintro e wn ⟨rfl, hbn⟩; replace hB := hB.trans (hbn.mono (Nat.le_trans (Nat.le_of_eq hD.out.symm) hB.size)); replace st := st.below hbn; replace c0 := st.c0; replace c1 := st.c1; replace c2 := st.c2; replace c3 := st.c3; clear hbn)
 refine hK.out _ _ ?_ (fun hHeld => ?_)
 ·
  exact True.intro
 clear hK K
 refine tkO [(2, 8), (3, 9), (4, 10), (5, 11), (6, 12), (7, 13), (8, 2)] ?_
 repeat ((first | (refine tkY ?_ rfl (by rfl) ?_ ?_; rotate_left; (focus (intro wq hSw; (try dsimp only at hSw); first | (go_simp; done) | (go_simp; with_reducible rfl)))) | refine tkN rfl (by rfl) ?_); simp only [zP])
 refine tkZ ?_
 refine wpAnyH_done (by kernel_rfl) ?_ _
 go_wp2
 go_ret
 refine ⟨?_, by rw [hD.out]; exact hB⟩
 rw [HN.out]
 rfl
set_option maxHeartbeats 4000000 in
set_option maxRecDepth 100000 in
theorem zez (k a : Int) (p f : List UInt8) (b : Int) (w : World) (e : shOf (k, a, p, f) = .pair b) (hs : shOk (.pair b) = true) :
 Calls Tryz.prog 104 #[zaa (k, a, p, f)] w fun e w' => e = .returned (.bool (zaD (k, a, p, f))) ∧ Below w.heap.size w w' := by
 have HN : Hid (zaD (k, a, p, f) = (true && decide (zaL (.pair b) = (k, a, p, f)))) := by exact (by rw [zcH, e, hs] : zaD (k, a, p, f) = (true && decide (zaL (.pair b) = (k, a, p, f))))
 have HC := zb9 (k, a, p, f)
 rw [e] at HC
 have HC2 : Hid (_) := HC
 have HK : Hid (_) := fun W : World => zbh (.pair b) W (fun _ _ _ e => by cases e)
 rw [hs] at HK
 have HV : Hid (_) := fun W : World => zkN b W
 unfold zaa zaL at HV
 simp only at HV
 have hEq := zdu
 clear HC hs e
 unfold zaa zbf at HC2
 unfold zbf at HK
 unfold zaa
 simp only at HC2 HK ⊢
 obtain ⟨W0, hW0⟩ : ∃ W0, w.alloc (.cells #[.int .i64 k, .int .i64 a, .string ⟨p.toArray⟩, .string ⟨f.toArray⟩] 90) = W0 := ⟨_, rfl⟩
 have st := NdAt.new w k a p f
 have hB : Below w.heap.size w W0 := by rw [← hW0]; exact (Below.refl _ w).alloc (Nat.le_refl _) _
 rw [hW0] at st
 obtain ⟨D, hD0⟩ : ∃ D, w.heap.size = D := ⟨_, rfl⟩
 rw [hD0] at st hB
 have hD : Hid (w.heap.size = D) := hD0
 have c0 := st.c0
 have c1 := st.c1
 have c2 := st.c2
 have c3 := st.c3
 go_enter Tryz.func104, Tryz.ntmps104
 go_wp2_with fail
 refine Calls.mono (HC2.out _) ?_
 rintro e wn ⟨rfl, hbn⟩
 replace hB := hB.trans (hbn.mono (Nat.le_trans (Nat.le_of_eq hD.out.symm) hB.size)); replace st := st.below hbn; replace c0 := st.c0; replace c1 := st.c1; replace c2 := st.c2; replace c3 := st.c3; clear hbn
 go_wp2_with fail
 replace st := st.drew
 replace hB := hB.drew
 go_region_held3 (fun w' => w'.cell? ⟨D, 0, none⟩ = some (.int .i64 k) ∧ w'.cell? ⟨D, 1, none⟩ = some (.int .i64 a) ∧ w'.cell? ⟨D, 2, none⟩ = some (.string ⟨p.toArray⟩) ∧ w'.cell? ⟨D, 3, none⟩ = some (.string ⟨f.toArray⟩)) (go_keep) (first | (go_at_call 138; refine Calls.mono (HK.out _) ?_; rintro e wn ⟨rfl, hbn⟩; replace hB := hB.trans (hbn.mono (Nat.le_trans (Nat.le_of_eq hD.out.symm) hB.size)); replace st := st.below hbn; replace c0 := st.c0; replace c1 := st.c1; replace c2 := st.c2; replace c3 := st.c3; clear hbn) | (go_at_call 203; refine Calls.mono (HV.out _) ?_; rintro e wn ⟨rfl, hbn⟩; replace hB := hB.trans (hbn.mono (Nat.le_trans (Nat.le_of_eq hD.out.symm) hB.size)); replace st := st.below hbn; replace c0 := st.c0; replace c1 := st.c1; replace c2 := st.c2; replace c3 := st.c3; clear hbn))
 go_wp2
 go_ret
 refine ⟨?_, by rw [hD.out]; exact hB⟩
 rw [HN.out]
 simp [zaL, @eq_comm (List UInt8) [] p, @eq_comm (List UInt8) [] f]
set_option maxHeartbeats 4000000 in
set_option maxRecDepth 100000 in
theorem zeA (k a : Int) (p f : List UInt8)  (w : World) (e : shOf (k, a, p, f) = .cond) (hs : shOk (.cond) = true) :
 Calls Tryz.prog 104 #[zaa (k, a, p, f)] w fun e w' => e = .returned (.bool (zaD (k, a, p, f))) ∧ Below w.heap.size w w' := by
 have HN : Hid (zaD (k, a, p, f) = (true && decide (zaL (.cond) = (k, a, p, f)))) := by exact (by rw [zcH, e, hs] : zaD (k, a, p, f) = (true && decide (zaL (.cond) = (k, a, p, f))))
 have HC := zb9 (k, a, p, f)
 rw [e] at HC
 have HC2 : Hid (_) := HC
 have HK : Hid (_) := fun W : World => zbh (.cond) W (fun _ _ _ e => by cases e)
 rw [hs] at HK
 have HV : Hid (_) := fun W : World => zkO  W
 unfold zaa zaL at HV
 simp only at HV
 have hEq := zdu
 clear HC hs e
 unfold zaa zbf at HC2
 unfold zbf at HK
 unfold zaa
 simp only at HC2 HK ⊢
 obtain ⟨W0, hW0⟩ : ∃ W0, w.alloc (.cells #[.int .i64 k, .int .i64 a, .string ⟨p.toArray⟩, .string ⟨f.toArray⟩] 90) = W0 := ⟨_, rfl⟩
 have st := NdAt.new w k a p f
 have hB : Below w.heap.size w W0 := by rw [← hW0]; exact (Below.refl _ w).alloc (Nat.le_refl _) _
 rw [hW0] at st
 obtain ⟨D, hD0⟩ : ∃ D, w.heap.size = D := ⟨_, rfl⟩
 rw [hD0] at st hB
 have hD : Hid (w.heap.size = D) := hD0
 have c0 := st.c0
 have c1 := st.c1
 have c2 := st.c2
 have c3 := st.c3
 go_enter Tryz.func104, Tryz.ntmps104
 go_wp2_with fail
 refine Calls.mono (HC2.out _) ?_
 rintro e wn ⟨rfl, hbn⟩
 replace hB := hB.trans (hbn.mono (Nat.le_trans (Nat.le_of_eq hD.out.symm) hB.size)); replace st := st.below hbn; replace c0 := st.c0; replace c1 := st.c1; replace c2 := st.c2; replace c3 := st.c3; clear hbn
 go_wp2_with fail
 replace st := st.drew
 replace hB := hB.drew
 go_region_held3 (fun w' => w'.cell? ⟨D, 0, none⟩ = some (.int .i64 k) ∧ w'.cell? ⟨D, 1, none⟩ = some (.int .i64 a) ∧ w'.cell? ⟨D, 2, none⟩ = some (.string ⟨p.toArray⟩) ∧ w'.cell? ⟨D, 3, none⟩ = some (.string ⟨f.toArray⟩)) (go_keep) (first | (go_at_call 138; refine Calls.mono (HK.out _) ?_; rintro e wn ⟨rfl, hbn⟩; replace hB := hB.trans (hbn.mono (Nat.le_trans (Nat.le_of_eq hD.out.symm) hB.size)); replace st := st.below hbn; replace c0 := st.c0; replace c1 := st.c1; replace c2 := st.c2; replace c3 := st.c3; clear hbn) | (go_at_call 204; refine Calls.mono (HV.out _) ?_; rintro e wn ⟨rfl, hbn⟩; replace hB := hB.trans (hbn.mono (Nat.le_trans (Nat.le_of_eq hD.out.symm) hB.size)); replace st := st.below hbn; replace c0 := st.c0; replace c1 := st.c1; replace c2 := st.c2; replace c3 := st.c3; clear hbn))
 go_wp2
 go_ret
 refine ⟨?_, by rw [hD.out]; exact hB⟩
 rw [HN.out]
 simp [zaL, @eq_comm (List UInt8) [] p, @eq_comm (List UInt8) [] f]
set_option maxHeartbeats 4000000 in
set_option maxRecDepth 100000 in
theorem zeB (k a : Int) (p f : List UInt8) (q : List UInt8) (g : List UInt8) (b : Int) (w : World) (e : shOf (k, a, p, f) = .call q g b) (hs : shOk (.call q g b) = true) (hq : q.length ≤ 1048576) (hg : g.length ≤ 1048576) :
 Calls Tryz.prog 104 #[zaa (k, a, p, f)] w fun e w' => e = .returned (.bool (zaD (k, a, p, f))) ∧ Below w.heap.size w w' := by
 have HN : Hid (zaD (k, a, p, f) = (true && decide (zaL (.call q g b) = (k, a, p, f)))) := by exact (by rw [zcH, e, hs] : zaD (k, a, p, f) = (true && decide (zaL (.call q g b) = (k, a, p, f))))
 have HC := zb9 (k, a, p, f)
 rw [e] at HC
 have HC2 : Hid (_) := HC
 have HK : Hid (_) := fun W : World => zbh (.call q g b) W (fun _ _ _ e => by injection e with e1 e2; subst e1; subst e2; exact ⟨hq, hg⟩)
 rw [hs] at HK
 have HV : Hid (_) := fun W : World => zkP q g b W
 unfold zaa zaL at HV
 simp only at HV
 have hEq := zdu
 clear HC hs e
 unfold zaa zbf at HC2
 unfold zbf at HK
 unfold zaa
 simp only at HC2 HK ⊢
 obtain ⟨W0, hW0⟩ : ∃ W0, w.alloc (.cells #[.int .i64 k, .int .i64 a, .string ⟨p.toArray⟩, .string ⟨f.toArray⟩] 90) = W0 := ⟨_, rfl⟩
 have st := NdAt.new w k a p f
 have hB : Below w.heap.size w W0 := by rw [← hW0]; exact (Below.refl _ w).alloc (Nat.le_refl _) _
 rw [hW0] at st
 obtain ⟨D, hD0⟩ : ∃ D, w.heap.size = D := ⟨_, rfl⟩
 rw [hD0] at st hB
 have hD : Hid (w.heap.size = D) := hD0
 have c0 := st.c0
 have c1 := st.c1
 have c2 := st.c2
 have c3 := st.c3
 go_enter Tryz.func104, Tryz.ntmps104
 go_wp2_with fail
 refine Calls.mono (HC2.out _) ?_
 rintro e wn ⟨rfl, hbn⟩
 replace hB := hB.trans (hbn.mono (Nat.le_trans (Nat.le_of_eq hD.out.symm) hB.size)); replace st := st.below hbn; replace c0 := st.c0; replace c1 := st.c1; replace c2 := st.c2; replace c3 := st.c3; clear hbn
 go_wp2_with fail
 replace st := st.drew
 replace hB := hB.drew
 go_region_held3 (fun w' => w'.cell? ⟨D, 0, none⟩ = some (.int .i64 k) ∧ w'.cell? ⟨D, 1, none⟩ = some (.int .i64 a) ∧ w'.cell? ⟨D, 2, none⟩ = some (.string ⟨p.toArray⟩) ∧ w'.cell? ⟨D, 3, none⟩ = some (.string ⟨f.toArray⟩)) (go_keep) (first | (go_at_call 138; refine Calls.mono (HK.out _) ?_; rintro e wn ⟨rfl, hbn⟩; replace hB := hB.trans (hbn.mono (Nat.le_trans (Nat.le_of_eq hD.out.symm) hB.size)); replace st := st.below hbn; replace c0 := st.c0; replace c1 := st.c1; replace c2 := st.c2; replace c3 := st.c3; clear hbn) | (go_at_call 205; refine Calls.mono (HV.out _) ?_; rintro e wn ⟨rfl, hbn⟩; replace hB := hB.trans (hbn.mono (Nat.le_trans (Nat.le_of_eq hD.out.symm) hB.size)); replace st := st.below hbn; replace c0 := st.c0; replace c1 := st.c1; replace c2 := st.c2; replace c3 := st.c3; clear hbn))
 go_wp2
 go_ret
 refine ⟨?_, by rw [hD.out]; exact hB⟩
 rw [HN.out]
 simp [zaL]
set_option maxHeartbeats 4000000 in
set_option maxRecDepth 100000 in
theorem zfs (k a : Int) (p f : List UInt8) (q : List UInt8) (g : List UInt8) (b : Int) (w : World) (e : shOf (k, a, p, f) = .call q g b) (hs : shOk (.call q g b) = false) (hq : q.length ≤ 1048576) (hg : g.length ≤ 1048576) :
 Calls Tryz.prog 104 #[zaa (k, a, p, f)] w fun e w' => e = .returned (.bool (zaD (k, a, p, f))) ∧ Below w.heap.size w w' := by
 have HN : Hid (zaD (k, a, p, f) = (false && decide (zaL (.call q g b) = (k, a, p, f)))) := by exact (by rw [zcH, e, hs] : zaD (k, a, p, f) = (false && decide (zaL (.call q g b) = (k, a, p, f))))
 have HC := zb9 (k, a, p, f)
 rw [e] at HC
 have HC2 : Hid (_) := HC
 have HK : Hid (_) := fun W : World => zbh (.call q g b) W (fun _ _ _ e => by injection e with e1 e2; subst e1; subst e2; exact ⟨hq, hg⟩)
 rw [hs] at HK
 clear HC hs e
 unfold zaa zbf at HC2
 unfold zbf at HK
 unfold zaa
 simp only at HC2 HK ⊢
 obtain ⟨W0, hW0⟩ : ∃ W0, w.alloc (.cells #[.int .i64 k, .int .i64 a, .string ⟨p.toArray⟩, .string ⟨f.toArray⟩] 90) = W0 := ⟨_, rfl⟩
 have st := NdAt.new w k a p f
 have hB : Below w.heap.size w W0 := by rw [← hW0]; exact (Below.refl _ w).alloc (Nat.le_refl _) _
 rw [hW0] at st
 obtain ⟨D, hD0⟩ : ∃ D, w.heap.size = D := ⟨_, rfl⟩
 rw [hD0] at st hB
 have hD : Hid (w.heap.size = D) := hD0
 have c0 := st.c0
 have c1 := st.c1
 have c2 := st.c2
 have c3 := st.c3
 go_enter Tryz.func104, Tryz.ntmps104
 go_wp2_with fail
 refine Calls.mono (HC2.out _) ?_
 rintro e wn ⟨rfl, hbn⟩
 replace hB := hB.trans (hbn.mono (Nat.le_trans (Nat.le_of_eq hD.out.symm) hB.size)); replace st := st.below hbn; replace c0 := st.c0; replace c1 := st.c1; replace c2 := st.c2; replace c3 := st.c3; clear hbn
 go_wp2_with fail
 replace st := st.drew
 replace hB := hB.drew
 refine wp_region_held_drew (S := (fun _ => True)) (by kernel_rfl) ?_ (fun hHeld => ?_)
 ·
  exact True.intro
 refine tkO [(0, 6)] ?_
 repeat (refine tkY ?_ rfl (by rfl) ?_ ?_; rotate_left; (focus (intro wq hSw; (try dsimp only at hSw); first | (go_simp; done) | (go_simp; with_reducible rfl))); simp only [zP])
 refine tkZ ?_
 refine zR 1 rfl (fun K hK => ?_)
 go_simp
 (go_at_call 138; refine Calls.mono (HK.out _) ?_; rintro e wn ⟨rfl, hbn⟩; replace hB := hB.trans (hbn.mono (Nat.le_trans (Nat.le_of_eq hD.out.symm) hB.size)); replace st := st.below hbn; replace c0 := st.c0; replace c1 := st.c1; replace c2 := st.c2; replace c3 := st.c3; clear hbn)
 refine hK.out _ _ ?_ (fun hHeld => ?_)
 ·
  exact True.intro
 clear hK K
 refine tkO [(2, 8), (3, 9), (4, 10), (5, 11), (6, 12), (7, 13), (8, 2)] ?_
 repeat ((first | (refine tkY ?_ rfl (by rfl) ?_ ?_; rotate_left; (focus (intro wq hSw; (try dsimp only at hSw); first | (go_simp; done) | (go_simp; with_reducible rfl)))) | refine tkN rfl (by rfl) ?_); simp only [zP])
 refine tkZ ?_
 refine wpAnyH_done (by kernel_rfl) ?_ _
 go_wp2
 go_ret
 refine ⟨?_, by rw [hD.out]; exact hB⟩
 rw [HN.out]
 rfl
set_option maxHeartbeats 4000000 in
set_option maxRecDepth 100000 in
theorem zgS (k a : Int) (p f : List UInt8)  (w : World) (e : shOf (k, a, p, f) = .no) (hs : shOk (.no) = false) :
 Calls Tryz.prog 104 #[zaa (k, a, p, f)] w fun e w' => e = .returned (.bool (zaD (k, a, p, f))) ∧ Below w.heap.size w w' := by
 have HN : Hid (zaD (k, a, p, f) = (false && decide (zaL (.no) = (k, a, p, f)))) := by exact (by rw [zcH, e, hs] : zaD (k, a, p, f) = (false && decide (zaL (.no) = (k, a, p, f))))
 have HC := zb9 (k, a, p, f)
 rw [e] at HC
 have HC2 : Hid (_) := HC
 have HK : Hid (_) := fun W : World => zbh (.no) W (fun _ _ _ e => by cases e)
 rw [hs] at HK
 clear HC hs e
 unfold zaa zbf at HC2
 unfold zbf at HK
 unfold zaa
 simp only at HC2 HK ⊢
 obtain ⟨W0, hW0⟩ : ∃ W0, w.alloc (.cells #[.int .i64 k, .int .i64 a, .string ⟨p.toArray⟩, .string ⟨f.toArray⟩] 90) = W0 := ⟨_, rfl⟩
 have st := NdAt.new w k a p f
 have hB : Below w.heap.size w W0 := by rw [← hW0]; exact (Below.refl _ w).alloc (Nat.le_refl _) _
 rw [hW0] at st
 obtain ⟨D, hD0⟩ : ∃ D, w.heap.size = D := ⟨_, rfl⟩
 rw [hD0] at st hB
 have hD : Hid (w.heap.size = D) := hD0
 have c0 := st.c0
 have c1 := st.c1
 have c2 := st.c2
 have c3 := st.c3
 go_enter Tryz.func104, Tryz.ntmps104
 go_wp2_with fail
 refine Calls.mono (HC2.out _) ?_
 rintro e wn ⟨rfl, hbn⟩
 replace hB := hB.trans (hbn.mono (Nat.le_trans (Nat.le_of_eq hD.out.symm) hB.size)); replace st := st.below hbn; replace c0 := st.c0; replace c1 := st.c1; replace c2 := st.c2; replace c3 := st.c3; clear hbn
 go_wp2_with fail
 replace st := st.drew
 replace hB := hB.drew
 refine wp_region_held_drew (S := (fun _ => True)) (by kernel_rfl) ?_ (fun hHeld => ?_)
 ·
  exact True.intro
 refine tkO [(0, 6)] ?_
 repeat (refine tkY ?_ rfl (by rfl) ?_ ?_; rotate_left; (focus (intro wq hSw; (try dsimp only at hSw); first | (go_simp; done) | (go_simp; with_reducible rfl))); simp only [zP])
 refine tkZ ?_
 refine zR 1 rfl (fun K hK => ?_)
 go_simp
 (go_at_call 138; refine Calls.mono (HK.out _) ?_; rintro e wn ⟨rfl, hbn⟩; replace hB := hB.trans (hbn.mono (Nat.le_trans (Nat.le_of_eq hD.out.symm) hB.size)); replace st := st.below hbn; replace c0 := st.c0; replace c1 := st.c1; replace c2 := st.c2; replace c3 := st.c3; clear hbn)
 refine hK.out _ _ ?_ (fun hHeld => ?_)
 ·
  exact True.intro
 clear hK K
 refine tkO [(2, 8), (3, 9), (4, 10), (5, 11), (6, 12), (7, 13), (8, 2)] ?_
 repeat ((first | (refine tkY ?_ rfl (by rfl) ?_ ?_; rotate_left; (focus (intro wq hSw; (try dsimp only at hSw); first | (go_simp; done) | (go_simp; with_reducible rfl)))) | refine tkN rfl (by rfl) ?_); simp only [zP])
 refine tkZ ?_
 refine wpAnyH_done (by kernel_rfl) ?_ _
 go_wp2
 go_ret
 refine ⟨?_, by rw [hD.out]; exact hB⟩
 rw [HN.out]
 rfl
end Go.Proofs.YtkpdoedpkncboaaGreat
