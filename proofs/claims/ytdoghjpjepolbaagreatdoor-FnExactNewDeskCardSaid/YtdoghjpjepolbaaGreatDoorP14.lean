/-
  Parts of one proof, one behind the other: Jumps, Clone, TextI, TreeI.
-/
import Derived.Test.YtdoghjpjepolbaaGreatDoorP13
import Derived.Test.YtdoghjpjepolbaaGreatDoorP1
import Derived.Scope
import Derived.WalkMore
import Derived.Lib.Strings
import Derived.Lib.Walk
import Derived.Lib.BufferWrite
import Derived.Lib.UnsafeStr
import Derived.Lib.Hide
import Derived.Laws.MakeOwn
import Derived.Test.YtdoghjpjepolbaaGreatDoorRows
import Derived.WalkKit
import Derived.WalkLawsBesides
import Derived.OpenShut
import Derived.Test.YtdoghjpjepolbaaGreatDoorP2
import Derived.BigQuiet
import Derived.Test.YtdoghjpjepolbaaGreatDoorP10

/-! A scope in which the run jumps to several labels: what holds at every jump to each of them, and a measure that every pass from a label lowers. -/
namespace Go.Proofs.YtdoghjpjepolbaaGreatDoor
open Go.RowKit

/-- As Q; by a goto to label l: J l. -/
def Hops (J : Nat → Act → World → Prop) (Q : Exit → Act → World → Prop) : Exit → Act → World → Prop
 | .goto l, a, w => J l a w
 | e, a, w => Q e a w

end Go.Proofs.YtdoghjpjepolbaaGreatDoor

/-! The contract of strings.Clone: the same bytes, in memory of their own. -/
namespace Go.Proofs.YtdoghjpjepolbaaGreatDoor
open Go.RowKit

theorem infoByte : (Tryz.prog.info? 5).map (fun i => (i.zero, i.size, i.bytes)) = some (some (.int .u8 0), 1, 1) := by kernel_rfl

set_option maxHeartbeats 4000000 in
set_option maxRecDepth 100000 in
theorem liteClone (s : ByteArray) (w : World) (hlim : s.size ≤ 281474976710656) :
 Calls Tryz.prog 92 #[.string s] w fun e w' => e = .returned (.string s) ∧ Below w.heap.size w w' := by
 by_cases h0 : s.size = 0
 ·
  have hs : s = ⟨#[]⟩ := by
   apply ByteArray.ext
   exact Array.eq_empty_of_size_eq_zero h0
  subst hs
  go_enter Tryz.func92, Tryz.ntmps92
  go_wp2
  go_ret
  exact ⟨rfl, Below.refl _ _⟩
 ·
  obtain ⟨i0, hi, hz0, hz1, hz2⟩ := info_parts infoByte
  have hinfo : (Tryz.prog.info? 5).map (·.size) = some 1 := by rw [hi]; simp [hz1]
  have hco : Tryz.prog.cellsOf 5 = 1 := by simp [Program.cellsOf, hi, hz1]
  obtain ⟨M, hM⟩ : ∃ M, M = madeCells (Value.int .u8 0).cells (((s.size : Nat) : Int).toNat * i0.size) := ⟨_, rfl⟩
  have hMs : M.size = s.size := by rw [hM, size_madeCells, hz1]; simp
  have hmk : ∀ W : World, (Instr.makeSlice 79 (.int .i64 (s.size : Int)) (.int .i64 (s.size : Int))).run Tryz.prog W = .ok (.slice (some ⟨W.heap.size, 0, none⟩) s.size s.size) (W.alloc (.cells M 5)) := fun W => by
   have h := run_make (P := Tryz.prog) W 79 5 i0 (.int .u8 0) Tryz.underlying79 hi hz0 .i64 .i64 (s.size : Int) (s.size : Int) (by omega) (by omega) (by rw [hz2]; omega) (by omega)
   rw [← hM] at h
   simpa using h
  clear hM
  have hcp := Lib.run_copy_row_string (P := Tryz.prog) (w.alloc (.cells M 5)) 79 9 3 5 w.heap.size 0 s.size s.size s M 5 Tryz.underlying79 hinfo (heap_alloc_new w _) (Nat.le_refl _) (by omega)
  obtain ⟨Y, hY⟩ : ∃ Y, Y = (M.toList.take 0 ++ Lib.byteCells s.data.toList ++ M.toList.drop (0 + s.size)).toArray := ⟨_, rfl⟩
  rw [← hY] at hcp
  have hYl : Y.toList = Lib.byteCells s.data.toList := by
   rw [hY, List.toList_toArray, List.take_zero, List.nil_append, List.drop_of_length_le (by rw [Array.length_toList]; omega), List.append_nil]
  have hYs : Y.size = s.size := by rw [← Array.length_toList, hYl, Lib.byteCells_length, ← Lib.size_eq]
  have hgY : ((w.alloc (.cells M 5)).setRow w.heap.size Y).heap[w.heap.size]? = some (.cells Y 5 (0, 0)) := setRow_heap _ _ M _ 5 (0, 0) (heap_alloc_new w _)
  have hne : s.data.toList ≠ [] := fun e => h0 (by rw [Lib.size_eq, e]; rfl)
  have hUS := Lib.run_unsafeString_row (P := Tryz.prog) ((w.alloc (.cells M 5)).setRow w.heap.size Y) 148 3 9 5 Tryz.underlying148 hco w.heap.size Y.size (by unfold World.shape?; rw [hgY]) s.data.toList hne (by rw [← Lib.size_eq]; omega) (by rw [← Lib.size_eq]; omega)
   (fun j x hx => Lib.cells_of_row hgY Y.size j _ (by rw [List.take_of_length_le (by rw [Array.length_toList]; exact Nat.le_refl _), hYl]; simp [Lib.byteCells, hx]))
  rw [← Lib.size_eq] at hUS
  clear hY
  go_enter Tryz.func92, Tryz.ntmps92
  go_wp2
  go_ret
  have hb1 : Below w.heap.size w (w.alloc (.cells M 5)) := (Below.refl _ w).alloc (Nat.le_refl _) _
  have hb2 : Below w.heap.size (w.alloc (.cells M 5)) ((w.alloc (.cells M 5)).setRow w.heap.size Y) := ⟨rfl, rfl, rfl, by simp, fun k hk => setRow_other _ _ _ _ (by omega)⟩
  exact ⟨rfl, Lib.below_freeze (hb1.trans hb2) (p := ⟨w.heap.size, 0, none⟩) (Nat.le_refl _) _⟩

set_option maxHeartbeats 400000 in
set_option maxRecDepth 100000 in
theorem stringsClone (l : List UInt8) (w : World) (hl : l.length ≤ 1048576) :
 Calls Tryz.prog 65 #[.string ⟨l.toArray⟩] w fun e w' => e = .returned (.string ⟨l.toArray⟩) ∧ Below w.heap.size w w' := by
 go_enter Tryz.func65, Tryz.ntmps65
 go_wp2_with fail
 refine (liteClone ⟨l.toArray⟩ _ (by have : (⟨l.toArray⟩ : ByteArray).size = l.length := List.size_toArray; omega)).mono ?_
 rintro e w1 ⟨rfl, hb⟩
 go_wp2
 go_ret
 exact ⟨rfl, hb⟩

end Go.Proofs.YtdoghjpjepolbaaGreatDoor

/-! The contracts of chapter 5's landed code: the pieces between marks (labels and gotos), Lines, Words, NameOk, NumberOf. -/
namespace Go.Proofs.YtdoghjpjepolbaaGreatDoor
open Go.RowKit

/-- What holds at the labels: 1 inside, 2 at a mark, 0 behind the text. -/
def BetJ (l : List UInt8) (b : UInt8) (c : Int) (w : World) (L : Nat) (a : Act) (wr : World) : Prop :=
 ∃ (o : List (List UInt8)) (f i g cp : Nat) (u2 u3 u4 u8 u9 u10 u11 u12 u13 u14 u15 u16 u17 u18 u19 u20 u21 u22 u23 u24 u25 u26 u27 u28 u29 u30 u31 u32 u33 u34 u35 u36 u37 : Value), a = { tmps := #[.string ⟨l.toArray⟩, .int .u8 c, u2, u3, u4, .slice (some ⟨g, 0, none⟩) o.length cp, .int .i64 (f : Int), .int .i64 (i : Int), u8, u9, u10, u11, u12, u13, u14, u15, u16, u17, u18, u19, u20, u21, u22, u23, u24, u25, u26, u27, u28, u29, u30, u31, u32, u33, u34, u35, u36, u37], defers := [] } ∧ o.length ≤ i ∧ i ≤ l.length ∧ f ≤ i ∧ Hid (o ++ splitGo b ((l.drop f).take (i - f)) (l.drop i) = splitL b l) ∧ wr.ownsRow w.heap.size 9 1 (.slice (some ⟨g, 0, none⟩) o.length cp) o.length (strV o) ∧ Below w.heap.size w wr ∧
  (L = 1 ∨ (L = 2 ∧ ∃ hi : i < l.length, l[i] = b) ∨ (L = 0 ∧ i = l.length))

/-- The measure: what is left of the text, in three steps a byte. -/
def betM (l : List UInt8) (L : Nat) (a : Act) (_ : World) : Nat :=
 match L with
 | 0 => 0
 | 1 => 2 * (l.length - (intOf (a.tmps.getD 7 undef)).toNat) + 2
 | _ => 2 * (l.length - (intOf (a.tmps.getD 7 undef)).toNat) + 1

set_option maxHeartbeats 1000000 in
set_option maxRecDepth 100000 in
theorem implNameOkS (l : List UInt8) (w : World) (hl : l.length ≤ 1048576) :
 Calls Tryz.prog 101 #[.string ⟨l.toArray⟩] w fun e w' => e = .returned (.bool (nameB l)) ∧ w' = w := by
 go_enter Tryz.func101, Tryz.ntmps101
 go_wp2
 go_loop [6] (fun ix => ∃ k : Nat, k ≤ l.length ∧ ix = .int .i64 k ∧ Hid (∀ j (hj : j < l.length), j < k → 97 ≤ l[j].toNat ∧ l[j].toNat ≤ 122)) (fun ix => l.length - (intOf ix).toNat)
 case atStart => exact ⟨0, Nat.zero_le _, rfl, (fun j _ h => by omega : ∀ j (hj : j < l.length), j < 0 → _)⟩
 case round =>
  obtain ⟨k, hk, rfl, HK⟩ := hrel
  by_cases hkl : (k : Int) < (l.length : Int)
  ·
   have hk2 : k < l.length := by omega
   obtain ⟨x, hx⟩ : ∃ x : UInt8, l[k] = x := ⟨_, rfl⟩
   have hxb : (⟨l.toArray⟩ : ByteArray)[k]'(by show k < l.toArray.size; simpa using hk2) = x := hx
   by_cases h1 : (x.toNat : Int) < 97
   ·
    have HF : Hid (nameB l = false) := name_bad l k hk2 (by rw [hx]; omega)
    clear hx
    go_wp2
    go_ret
    exact ⟨by rw [HF.out]; rfl, rfl⟩
   ·
    by_cases h2 : 122 < (x.toNat : Int)
    ·
     have HF : Hid (nameB l = false) := name_bad l k hk2 (by rw [hx]; omega)
     clear hx
     go_wp2
     go_ret
     exact ⟨by rw [HF.out]; rfl, rfl⟩
    ·
     have HS : Hid (∀ j (hj : j < l.length), j < k + 1 → 97 ≤ l[j].toNat ∧ l[j].toNat ≤ 122) := fun j hj hjk => by
      by_cases e : j = k
      ·
       subst e; rw [hx]; omega
      ·
       exact HK.out j hj (by omega)
     clear hx
     go_wp2
     go_round
     case rel => exact ⟨k + 1, by omega, by go_num, HS⟩
     case measure => simp [intOf]; omega
  ·
   have HF : Hid (nameB l = inB (l.length : Int) 1 8) := name_good l (fun j hj => HK.out j hj (by omega))
   by_cases h1 : 1 ≤ (l.length : Int)
   ·
    by_cases h2 : (l.length : Int) ≤ 8
    ·
     have HB : Hid (inB (l.length : Int) 1 8 = true) := inB_yes _ _ _ h1 h2
     go_wp2
     go_ret
     exact ⟨by rw [HF.out, HB.out]; rfl, rfl⟩
    ·
     have HB : Hid (inB (l.length : Int) 1 8 = false) := inB_no _ _ _ (by omega)
     go_wp2
     go_ret
     exact ⟨by rw [HF.out, HB.out]; rfl, rfl⟩
   ·
    have HB : Hid (inB (l.length : Int) 1 8 = false) := inB_no _ _ _ (by omega)
    go_wp2
    go_ret
    exact ⟨by rw [HF.out, HB.out]; rfl, rfl⟩

/-- Facts of a number's form, over its digits. -/
def sgn (t : List UInt8) : Int := if negB t = true then -1 else 1

/-- What holds at the labels: 1 ahead of the digits, 3 at a digit, 0 all read, 2 no number. -/
def NumJ (t : List UInt8) (w : World) (L : Nat) (a : Act) (wr : World) : Prop :=
 Below w.heap.size w wr ∧ ∃ (n sg : Int) (r : List UInt8) (u1 u2 u3 u7 u8 u9 u10 u11 u12 u13 u14 u15 u16 u17 u18 u19 u20 u21 u22 u23 u24 u25 u26 u27 u28 u29 u30 u31 u32 u33 u34 u35 u36 u37 u38 u39 u40 u41 u42 u43 u44 u45 u46 u47 u48 : Value), a = { tmps := #[.string ⟨t.toArray⟩, u1, u2, u3, .int .i64 n, .int .i64 sg, .string ⟨r.toArray⟩, u7, u8, u9, u10, u11, u12, u13, u14, u15, u16, u17, u18, u19, u20, u21, u22, u23, u24, u25, u26, u27, u28, u29, u30, u31, u32, u33, u34, u35, u36, u37, u38, u39, u40, u41, u42, u43, u44, u45, u46, u47, u48], defers := [] } ∧
  ((L = 1 ∧ r = bodyL t ∧ n = 0 ∧ sg = sgn t ∧ t ≠ [48]) ∨
   (L = 3 ∧ sg = sgn t ∧ ∃ p x q, r = x :: q ∧ Hid (bodyL t = p ++ x :: q) ∧ n = (valL p : Int) ∧ (bodyL t).length ≤ 10 ∧ (∀ c ∈ p, isDig c) ∧ (bodyL t).head? ≠ some 48) ∨
   (L = 0 ∧ Hid (readV t = sg * n ∧ readB t = true)) ∨
   (L = 2 ∧ Hid (readV t = 0 ∧ readB t = false)))

def lenOfT : Value → Nat | .string s => s.size | _ => 0

def numM (t : List UInt8) (L : Nat) (a : Act) (_ : World) : Nat :=
 match L with
 | 0 => 0
 | 1 => t.length + 10
 | 2 => 0
 | _ => lenOfT (a.tmps.getD 6 undef) + 1

end Go.Proofs.YtdoghjpjepolbaaGreatDoor

/-! The contracts of chapter 6's landed code: shapes (told apart by type switches). -/
namespace Go.Proofs.YtdoghjpjepolbaaGreatDoor
open Go.RowKit

/-- A shape as a value behind the interface. -/
def shVal : Sh → Value
 | .num a => .iface 249 (.agg #[.int .i64 a])
 | .arg a => .iface 251 (.agg #[.int .i64 a])
 | .pair k => .iface 253 (.agg #[.int .i64 k])
 | .cond => .iface 255 (.agg #[])
 | .call p f a => .iface 257 (.agg #[.string ⟨p.toArray⟩, .string ⟨f.toArray⟩, .int .i64 a])
 | .no => .iface 258 (.agg #[])

/-! A type assertion: the value and true where the type is its own, else the type's zero value and false. -/
theorem as_num_num (v : Value) (w : World) : (Instr.typeAssert (.iface 249 v) 244 249 true).run Tryz.prog w = .ok (.tuple #[v, .bool true]) w := by kernel_rfl
theorem as_num_arg (v : Value) (w : World) : (Instr.typeAssert (.iface 249 v) 244 251 true).run Tryz.prog w = .ok (.tuple #[.agg #[.int .i64 0], .bool false]) w := by kernel_rfl
theorem as_num_pair (v : Value) (w : World) : (Instr.typeAssert (.iface 249 v) 244 253 true).run Tryz.prog w = .ok (.tuple #[.agg #[.int .i64 0], .bool false]) w := by kernel_rfl
theorem as_num_cond (v : Value) (w : World) : (Instr.typeAssert (.iface 249 v) 244 255 true).run Tryz.prog w = .ok (.tuple #[.agg #[], .bool false]) w := by kernel_rfl
theorem as_num_call (v : Value) (w : World) : (Instr.typeAssert (.iface 249 v) 244 257 true).run Tryz.prog w = .ok (.tuple #[.agg #[.string ByteArray.empty, .string ByteArray.empty, .int .i64 0], .bool false]) w := by kernel_rfl
theorem as_arg_num (v : Value) (w : World) : (Instr.typeAssert (.iface 251 v) 244 249 true).run Tryz.prog w = .ok (.tuple #[.agg #[.int .i64 0], .bool false]) w := by kernel_rfl
theorem as_arg_arg (v : Value) (w : World) : (Instr.typeAssert (.iface 251 v) 244 251 true).run Tryz.prog w = .ok (.tuple #[v, .bool true]) w := by kernel_rfl
theorem as_arg_pair (v : Value) (w : World) : (Instr.typeAssert (.iface 251 v) 244 253 true).run Tryz.prog w = .ok (.tuple #[.agg #[.int .i64 0], .bool false]) w := by kernel_rfl
theorem as_arg_cond (v : Value) (w : World) : (Instr.typeAssert (.iface 251 v) 244 255 true).run Tryz.prog w = .ok (.tuple #[.agg #[], .bool false]) w := by kernel_rfl
theorem as_arg_call (v : Value) (w : World) : (Instr.typeAssert (.iface 251 v) 244 257 true).run Tryz.prog w = .ok (.tuple #[.agg #[.string ByteArray.empty, .string ByteArray.empty, .int .i64 0], .bool false]) w := by kernel_rfl
theorem as_pair_num (v : Value) (w : World) : (Instr.typeAssert (.iface 253 v) 244 249 true).run Tryz.prog w = .ok (.tuple #[.agg #[.int .i64 0], .bool false]) w := by kernel_rfl
theorem as_pair_arg (v : Value) (w : World) : (Instr.typeAssert (.iface 253 v) 244 251 true).run Tryz.prog w = .ok (.tuple #[.agg #[.int .i64 0], .bool false]) w := by kernel_rfl
theorem as_pair_pair (v : Value) (w : World) : (Instr.typeAssert (.iface 253 v) 244 253 true).run Tryz.prog w = .ok (.tuple #[v, .bool true]) w := by kernel_rfl
theorem as_pair_cond (v : Value) (w : World) : (Instr.typeAssert (.iface 253 v) 244 255 true).run Tryz.prog w = .ok (.tuple #[.agg #[], .bool false]) w := by kernel_rfl
theorem as_pair_call (v : Value) (w : World) : (Instr.typeAssert (.iface 253 v) 244 257 true).run Tryz.prog w = .ok (.tuple #[.agg #[.string ByteArray.empty, .string ByteArray.empty, .int .i64 0], .bool false]) w := by kernel_rfl
theorem as_cond_num (v : Value) (w : World) : (Instr.typeAssert (.iface 255 v) 244 249 true).run Tryz.prog w = .ok (.tuple #[.agg #[.int .i64 0], .bool false]) w := by kernel_rfl
theorem as_cond_arg (v : Value) (w : World) : (Instr.typeAssert (.iface 255 v) 244 251 true).run Tryz.prog w = .ok (.tuple #[.agg #[.int .i64 0], .bool false]) w := by kernel_rfl
theorem as_cond_pair (v : Value) (w : World) : (Instr.typeAssert (.iface 255 v) 244 253 true).run Tryz.prog w = .ok (.tuple #[.agg #[.int .i64 0], .bool false]) w := by kernel_rfl
theorem as_cond_cond (v : Value) (w : World) : (Instr.typeAssert (.iface 255 v) 244 255 true).run Tryz.prog w = .ok (.tuple #[v, .bool true]) w := by kernel_rfl
theorem as_cond_call (v : Value) (w : World) : (Instr.typeAssert (.iface 255 v) 244 257 true).run Tryz.prog w = .ok (.tuple #[.agg #[.string ByteArray.empty, .string ByteArray.empty, .int .i64 0], .bool false]) w := by kernel_rfl
theorem as_call_num (v : Value) (w : World) : (Instr.typeAssert (.iface 257 v) 244 249 true).run Tryz.prog w = .ok (.tuple #[.agg #[.int .i64 0], .bool false]) w := by kernel_rfl
theorem as_call_arg (v : Value) (w : World) : (Instr.typeAssert (.iface 257 v) 244 251 true).run Tryz.prog w = .ok (.tuple #[.agg #[.int .i64 0], .bool false]) w := by kernel_rfl
theorem as_call_pair (v : Value) (w : World) : (Instr.typeAssert (.iface 257 v) 244 253 true).run Tryz.prog w = .ok (.tuple #[.agg #[.int .i64 0], .bool false]) w := by kernel_rfl
theorem as_call_cond (v : Value) (w : World) : (Instr.typeAssert (.iface 257 v) 244 255 true).run Tryz.prog w = .ok (.tuple #[.agg #[], .bool false]) w := by kernel_rfl
theorem as_call_call (v : Value) (w : World) : (Instr.typeAssert (.iface 257 v) 244 257 true).run Tryz.prog w = .ok (.tuple #[v, .bool true]) w := by kernel_rfl
theorem as_no_num (v : Value) (w : World) : (Instr.typeAssert (.iface 258 v) 244 249 true).run Tryz.prog w = .ok (.tuple #[.agg #[.int .i64 0], .bool false]) w := by kernel_rfl
theorem as_no_arg (v : Value) (w : World) : (Instr.typeAssert (.iface 258 v) 244 251 true).run Tryz.prog w = .ok (.tuple #[.agg #[.int .i64 0], .bool false]) w := by kernel_rfl
theorem as_no_pair (v : Value) (w : World) : (Instr.typeAssert (.iface 258 v) 244 253 true).run Tryz.prog w = .ok (.tuple #[.agg #[.int .i64 0], .bool false]) w := by kernel_rfl
theorem as_no_cond (v : Value) (w : World) : (Instr.typeAssert (.iface 258 v) 244 255 true).run Tryz.prog w = .ok (.tuple #[.agg #[], .bool false]) w := by kernel_rfl
theorem as_no_call (v : Value) (w : World) : (Instr.typeAssert (.iface 258 v) 244 257 true).run Tryz.prog w = .ok (.tuple #[.agg #[.string ByteArray.empty, .string ByteArray.empty, .int .i64 0], .bool false]) w := by kernel_rfl

set_option maxHeartbeats 2000000 in
set_option maxRecDepth 100000 in
theorem implShapeOf (n : Nd) (w : World) : Calls Tryz.prog 201 #[nodeVal n] w fun e w' => e = .returned (shVal (shOf n)) ∧ Below w.heap.size w w' := by
 obtain ⟨k, a, p, f⟩ := n
 rcases shOf_kinds (k, a, p, f) with ⟨h, e⟩ | ⟨h, e⟩ | ⟨h, e⟩ | ⟨h, e⟩ | ⟨h, e⟩ | ⟨h, e⟩
 ·
  rw [e]; simp only at h; subst h; clear e
  unfold nodeVal shVal; simp only
  go_enter Tryz.func201, Tryz.ntmps201
  go_wp2
  go_ret
  exact ⟨rfl, (Below.refl _ w).alloc (Nat.le_refl _) _⟩
 ·
  rw [e]; simp only at h; subst h; clear e
  unfold nodeVal shVal; simp only
  go_enter Tryz.func201, Tryz.ntmps201
  go_wp2
  go_ret
  exact ⟨rfl, (Below.refl _ w).alloc (Nat.le_refl _) _⟩
 ·
  rw [e]; simp only at h; clear e
  rcases (show k = 3 ∨ k = 4 ∨ k = 5 ∨ k = 6 by omega) with rfl | rfl | rfl | rfl
  all_goals
   unfold nodeVal shVal; simp only
   go_enter Tryz.func201, Tryz.ntmps201
   go_wp2
   go_ret
   exact ⟨rfl, (Below.refl _ w).alloc (Nat.le_refl _) _⟩
 ·
  rw [e]; simp only at h; subst h; clear e
  unfold nodeVal shVal; simp only
  go_enter Tryz.func201, Tryz.ntmps201
  go_wp2
  go_ret
  exact ⟨rfl, (Below.refl _ w).alloc (Nat.le_refl _) _⟩
 ·
  rw [e]; simp only at h; subst h; clear e
  unfold nodeVal shVal; simp only
  go_enter Tryz.func201, Tryz.ntmps201
  go_wp2
  go_ret
  exact ⟨rfl, (Below.refl _ w).alloc (Nat.le_refl _) _⟩
 ·
  rw [e]; simp only at h; clear e
  have d1 : (k == 1) = false := beq_eq_false_iff_ne.2 (by omega)
  have d2 : (k == 2) = false := beq_eq_false_iff_ne.2 (by omega)
  have d3 : (k == 3) = false := beq_eq_false_iff_ne.2 (by omega)
  have d4 : (k == 4) = false := beq_eq_false_iff_ne.2 (by omega)
  have d5 : (k == 5) = false := beq_eq_false_iff_ne.2 (by omega)
  have d6 : (k == 6) = false := beq_eq_false_iff_ne.2 (by omega)
  have d7 : (k == 7) = false := beq_eq_false_iff_ne.2 (by omega)
  have d8 : (k == 8) = false := beq_eq_false_iff_ne.2 (by omega)
  clear h
  unfold nodeVal shVal; simp only
  go_enter Tryz.func201, Tryz.ntmps201
  go_wp2
  go_ret
  exact ⟨rfl, (Below.refl _ w).alloc (Nat.le_refl _) _⟩

set_option maxHeartbeats 2000000 in
set_option maxRecDepth 100000 in
theorem implKidsOfShape (s : Sh) (w : World) : Calls Tryz.prog 200 #[shVal s] w fun e w' => e = .returned (.int .i64 (shKids s)) ∧ Below w.heap.size w w' := by
 cases s with
 | num a =>
  unfold shVal; simp only
  have q0 := as_num_num
  have q1 := as_num_arg
  have q2 := as_num_pair
  have q3 := as_num_cond
  have q4 := as_num_call
  go_enter Tryz.func200, Tryz.ntmps200
  go_wp2
  go_ret
  exact ⟨rfl, Below.refl _ w⟩
 | arg a =>
  unfold shVal; simp only
  have q0 := as_arg_num
  have q1 := as_arg_arg
  have q2 := as_arg_pair
  have q3 := as_arg_cond
  have q4 := as_arg_call
  go_enter Tryz.func200, Tryz.ntmps200
  go_wp2
  go_ret
  exact ⟨rfl, Below.refl _ w⟩
 | pair k =>
  unfold shVal; simp only
  have q0 := as_pair_num
  have q1 := as_pair_arg
  have q2 := as_pair_pair
  have q3 := as_pair_cond
  have q4 := as_pair_call
  go_enter Tryz.func200, Tryz.ntmps200
  go_wp2
  go_ret
  exact ⟨rfl, (Below.refl _ w).alloc (Nat.le_refl _) _⟩
 | cond =>
  unfold shVal; simp only
  have q0 := as_cond_num
  have q1 := as_cond_arg
  have q2 := as_cond_pair
  have q3 := as_cond_cond
  have q4 := as_cond_call
  go_enter Tryz.func200, Tryz.ntmps200
  go_wp2
  go_ret
  exact ⟨rfl, (Below.refl _ w).alloc (Nat.le_refl _) _⟩
 | call p f a =>
  unfold shVal; simp only
  have q0 := as_call_num
  have q1 := as_call_arg
  have q2 := as_call_pair
  have q3 := as_call_cond
  have q4 := as_call_call
  go_enter Tryz.func200, Tryz.ntmps200
  go_wp2
  go_ret
  exact ⟨rfl, (Below.refl _ w).alloc (Nat.le_refl _) _⟩
 | no =>
  unfold shVal; simp only
  have q0 := as_no_num
  have q1 := as_no_arg
  have q2 := as_no_pair
  have q3 := as_no_cond
  have q4 := as_no_call
  go_enter Tryz.func200, Tryz.ntmps200
  go_wp2
  go_ret
  exact ⟨rfl, Below.refl _ w⟩

set_option maxHeartbeats 4000000 in
set_option maxRecDepth 100000 in
theorem implShapeOk (s : Sh) (w : World) (hl : ∀ p f a, s = .call p f a → p.length ≤ 1048576 ∧ f.length ≤ 1048576) : Calls Tryz.prog 202 #[shVal s] w fun e w' => e = .returned (.bool (shOk s)) ∧ Below w.heap.size w w' := by
 cases s with
 | num a =>
  unfold shVal; simp only
  have q0 := as_num_num
  have q1 := as_num_arg
  have q2 := as_num_pair
  have q3 := as_num_cond
  have q4 := as_num_call
  go_enter Tryz.func202, Tryz.ntmps202
  go_wp2_with fail
  refine (implWordOkS _ _).mono ?_
  rintro e w1 ⟨rfl, rfl⟩
  go_wp2
  go_ret
  exact ⟨rfl, (Below.refl _ w).alloc (Nat.le_refl _) _⟩
 | arg a =>
  unfold shVal; simp only
  have q0 := as_arg_num
  have q1 := as_arg_arg
  have q2 := as_arg_pair
  have q3 := as_arg_cond
  have q4 := as_arg_call
  have HO : Hid (shOk (.arg a) = inB a 0 2) := by exact (rfl : shOk (.arg a) = inB a 0 2)
  by_cases h1 : 0 ≤ a
  ·
   by_cases h2 : a ≤ 2
   ·
    have HB : Hid (inB a 0 2 = true) := inB_yes _ _ _ h1 h2
    go_enter Tryz.func202, Tryz.ntmps202
    go_wp2
    go_ret
    exact ⟨by rw [HO.out, HB.out]; rfl, (Below.refl _ w).alloc (Nat.le_refl _) _⟩
   ·
    have HB : Hid (inB a 0 2 = false) := inB_no _ _ _ (by omega)
    go_enter Tryz.func202, Tryz.ntmps202
    go_wp2
    go_ret
    exact ⟨by rw [HO.out, HB.out]; rfl, (Below.refl _ w).alloc (Nat.le_refl _) _⟩
  ·
   have HB : Hid (inB a 0 2 = false) := inB_no _ _ _ (by omega)
   go_enter Tryz.func202, Tryz.ntmps202
   go_wp2
   go_ret
   exact ⟨by rw [HO.out, HB.out]; rfl, (Below.refl _ w).alloc (Nat.le_refl _) _⟩
 | pair k =>
  unfold shVal; simp only
  have q0 := as_pair_num
  have q1 := as_pair_arg
  have q2 := as_pair_pair
  have q3 := as_pair_cond
  have q4 := as_pair_call
  go_enter Tryz.func202, Tryz.ntmps202
  go_wp2
  go_ret
  exact ⟨rfl, Below.refl _ w⟩
 | cond =>
  unfold shVal; simp only
  have q0 := as_cond_num
  have q1 := as_cond_arg
  have q2 := as_cond_pair
  have q3 := as_cond_cond
  have q4 := as_cond_call
  go_enter Tryz.func202, Tryz.ntmps202
  go_wp2
  go_ret
  exact ⟨rfl, Below.refl _ w⟩
 | call p f a =>
  unfold shVal; simp only
  have q0 := as_call_num
  have q1 := as_call_arg
  have q2 := as_call_pair
  have q3 := as_call_cond
  have q4 := as_call_call
  obtain ⟨hp, hf⟩ := hl p f a rfl
  have HO : Hid (shOk (.call p f a) = (inB a 0 3 && (nameB p && nameB f))) := by exact (rfl : shOk (.call p f a) = (inB a 0 3 && (nameB p && nameB f)))
  by_cases h1 : 0 ≤ a
  ·
   by_cases h2 : a ≤ 3
   ·
    have HB : Hid (inB a 0 3 = true) := inB_yes _ _ _ h1 h2
    rcases hn : nameB p with _ | _
    ·
     have HN : Hid (nameB p = false) := hn
     clear hn
     go_enter Tryz.func202, Tryz.ntmps202
     go_wp2_with fail
     refine (implNameOkS p _ hp).mono ?_
     rintro e w1 ⟨rfl, rfl⟩
     rw [HN.out]
     go_wp2
     go_ret
     exact ⟨by rw [HO.out, HB.out, HN.out]; rfl, (Below.refl _ w).alloc (Nat.le_refl _) _⟩
    ·
     have HN : Hid (nameB p = true) := hn
     clear hn
     go_enter Tryz.func202, Tryz.ntmps202
     go_wp2_with fail
     refine (implNameOkS p _ hp).mono ?_
     rintro e w1 ⟨rfl, rfl⟩
     rw [HN.out]
     go_wp2_with fail
     refine (implNameOkS f _ hf).mono ?_
     rintro e w1 ⟨rfl, rfl⟩
     go_wp2
     go_ret
     exact ⟨by rw [HO.out, HB.out, HN.out]; rfl, (Below.refl _ w).alloc (Nat.le_refl _) _⟩
   ·
    have HB : Hid (inB a 0 3 = false) := inB_no _ _ _ (by omega)
    go_enter Tryz.func202, Tryz.ntmps202
    go_wp2
    go_ret
    exact ⟨by rw [HO.out, HB.out]; rfl, (Below.refl _ w).alloc (Nat.le_refl _) _⟩
  ·
   have HB : Hid (inB a 0 3 = false) := inB_no _ _ _ (by omega)
   go_enter Tryz.func202, Tryz.ntmps202
   go_wp2
   go_ret
   exact ⟨by rw [HO.out, HB.out]; rfl, (Below.refl _ w).alloc (Nat.le_refl _) _⟩
 | no =>
  unfold shVal; simp only
  have q0 := as_no_num
  have q1 := as_no_arg
  have q2 := as_no_pair
  have q3 := as_no_cond
  have q4 := as_no_call
  go_enter Tryz.func202, Tryz.ntmps202
  go_wp2
  go_ret
  exact ⟨rfl, Below.refl _ w⟩

/-! The method node, shape by shape. -/
set_option maxHeartbeats 1000000 in
set_option maxRecDepth 100000 in
theorem node_num (a : Int) (w : World) : Calls Tryz.prog 244 #[.agg #[.int .i64 a]] w fun e w' => e = .returned (nodeVal (shNode (.num a))) ∧ Below w.heap.size w w' := by
 go_enter Tryz.func244, Tryz.ntmps244
 go_wp2
 refine bodyPost_ret (v := .agg #[.int .i64 1, .int .i64 a, .string ⟨#[]⟩, .string ⟨#[]⟩]) (by simp [results, Tryz.results244, go_sem]) rfl ?_
 exact ⟨rfl, ((Below.refl _ w).alloc (Nat.le_refl _) _).alloc (by simp) _⟩

set_option maxHeartbeats 1000000 in
set_option maxRecDepth 100000 in
theorem node_arg (a : Int) (w : World) : Calls Tryz.prog 245 #[.agg #[.int .i64 a]] w fun e w' => e = .returned (nodeVal (shNode (.arg a))) ∧ Below w.heap.size w w' := by
 go_enter Tryz.func245, Tryz.ntmps245
 go_wp2
 refine bodyPost_ret (v := .agg #[.int .i64 2, .int .i64 a, .string ⟨#[]⟩, .string ⟨#[]⟩]) (by simp [results, Tryz.results245, go_sem]) rfl ?_
 exact ⟨rfl, ((Below.refl _ w).alloc (Nat.le_refl _) _).alloc (by simp) _⟩

set_option maxHeartbeats 1000000 in
set_option maxRecDepth 100000 in
theorem node_pair (k : Int) (w : World) : Calls Tryz.prog 246 #[.agg #[.int .i64 k]] w fun e w' => e = .returned (nodeVal (shNode (.pair k))) ∧ Below w.heap.size w w' := by
 go_enter Tryz.func246, Tryz.ntmps246
 go_wp2
 refine bodyPost_ret (v := .agg #[.int .i64 k, .int .i64 0, .string ⟨#[]⟩, .string ⟨#[]⟩]) (by simp [results, Tryz.results246, go_sem]) rfl ?_
 exact ⟨rfl, ((Below.refl _ w).alloc (Nat.le_refl _) _).alloc (by simp) _⟩

set_option maxHeartbeats 1000000 in
set_option maxRecDepth 100000 in
theorem node_cond  (w : World) : Calls Tryz.prog 247 #[.agg #[]] w fun e w' => e = .returned (nodeVal (shNode (.cond))) ∧ Below w.heap.size w w' := by
 go_enter Tryz.func247, Tryz.ntmps247
 go_wp2
 refine bodyPost_ret (v := .agg #[.int .i64 7, .int .i64 0, .string ⟨#[]⟩, .string ⟨#[]⟩]) (by simp [results, Tryz.results247, go_sem]) rfl ?_
 exact ⟨rfl, ((Below.refl _ w).alloc (Nat.le_refl _) _).alloc (by simp) _⟩

set_option maxHeartbeats 1000000 in
set_option maxRecDepth 100000 in
theorem node_call (p : List UInt8) (f : List UInt8) (a : Int) (w : World) : Calls Tryz.prog 248 #[.agg #[.string ⟨p.toArray⟩, .string ⟨f.toArray⟩, .int .i64 a]] w fun e w' => e = .returned (nodeVal (shNode (.call p f a))) ∧ Below w.heap.size w w' := by
 go_enter Tryz.func248, Tryz.ntmps248
 go_wp2
 refine bodyPost_ret (v := .agg #[.int .i64 8, .int .i64 a, .string ⟨p.toArray⟩, .string ⟨f.toArray⟩]) (by simp [results, Tryz.results248, go_sem]) rfl ?_
 exact ⟨rfl, ((Below.refl _ w).alloc (Nat.le_refl _) _).alloc (by simp) _⟩

end Go.Proofs.YtdoghjpjepolbaaGreatDoor
