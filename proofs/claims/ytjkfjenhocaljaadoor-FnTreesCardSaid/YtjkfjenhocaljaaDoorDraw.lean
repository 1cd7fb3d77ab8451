/-
  The contracts of the draws that every law of chapter 1 makes: the cursor lies in one block of its own, each draw gives a number in its range, writes that block alone and makes at most new blocks.
-/
import Derived.Test.YtjkfjenhocaljaaDoorRows
import Derived.Test.YtjkfjenhocaljaaDoorMath1
import Derived.WalkKit
import Derived.WalkLawsBesides
import Derived.Laws.IdiomStrings
import Derived.Laws.OwnMore
import Derived.Maps.AppendAt
import Derived.Maps.Range
import Derived.OpenShut
import Derived.Handy
namespace Go.Proofs.YtjkfjenhocaljaaDoor
open Go.RowKit

/-- The bytes of the code lie below block B. -/
def Code (w : World) (B : Nat) (a : Option Addr) (len : Nat) : Prop :=
  ∀ j, j < len → ∃ b off x, a = some ⟨b, off, none⟩ ∧ b < B ∧ w.cell? ⟨b, off + j, none⟩ = some (.int .u8 x) ∧ 0 ≤ x ∧ x ≤ 255

/-- The cursor lies in block B: the code, a place, a number. -/
structure Cur (w : World) (B : Nat) (a : Option Addr) (len cap : Nat) : Prop where
  code : Code w B a len
  short : len ≤ 4096
  c0 : w.cell? ⟨B, 0, none⟩ = some (.slice a len cap)
  c12 : ∃ i : Nat, ∃ h : Int, i ≤ len ∧ w.cell? ⟨B, 1, none⟩ = some (.int .i64 i) ∧ w.cell? ⟨B, 2, none⟩ = some (.int .i64 h)
  free : ∀ j, w.frozen? ⟨B, j, none⟩ = false

theorem grown_drew (w : World) (row : Option Nat) : w.grownBy w.drew row := ⟨rfl, rfl, rfl, Nat.le_refl _, fun _ _ _ => rfl⟩
theorem grown_setCell (w : World) (B o : Nat) (v : Value) : w.grownBy (w.setCell ⟨B, o, none⟩ v) (some B) :=
  ⟨rfl, rfl, rfl, by simp, fun k _ hne => Below.heap_setCell w _ v k (fun e => hne (by rw [e]))⟩

theorem Cur.kept {w w' : World} {B : Nat} {a : Option Addr} {len cap : Nat} {row : Option Nat} (h : Cur w B a len cap) (hg : w.grownBy w' row) (hne : ∀ k, row = some k → B < k) : Cur w' B a len cap := by
  have hlt : B < w.heap.size := World.block_lt_of_cell? w ⟨B, 0, none⟩ h.c0
  have hb : ∀ k, k ≤ B → w'.heap[k]? = w.heap[k]? := fun k hk => hg.block k (by omega) (fun e => by have := hne k e.symm; omega)
  have hB := hb B (Nat.le_refl _)
  refine ⟨?_, h.short, ?_, ?_, ?_⟩
  · intro j hj
    obtain ⟨b, off, x, e1, e2, e3, e0⟩ := h.code j hj
    exact ⟨b, off, x, e1, e2, (World.cell?_of_block (hb b (by omega))).trans e3, e0⟩
  · exact (World.cell?_of_block hB).trans h.c0
  · obtain ⟨i, n, hi, e1, e2⟩ := h.c12
    exact ⟨i, n, hi, (World.cell?_of_block hB).trans e1, (World.cell?_of_block hB).trans e2⟩
  · intro j
    exact (World.frozen?_of_block hB).trans (h.free j)

theorem Cur.lt {w : World} {B : Nat} {a : Option Addr} {len cap : Nat} (h : Cur w B a len cap) : B < w.heap.size := World.block_lt_of_cell? w ⟨B, 0, none⟩ h.c0

/-- A store of the place. -/
theorem Cur.set1 {w : World} {B : Nat} {a : Option Addr} {len cap : Nat} (h : Cur w B a len cap) (i : Nat) (hi : i ≤ len) : Cur (w.setCell ⟨B, 1, none⟩ (.int .i64 i)) B a len cap := by
  obtain ⟨i0, n, _, e1, e2⟩ := h.c12
  refine ⟨?_, h.short, ?_, ⟨i, n, hi, World.cell?_setCell_same _ _ _ e1, ?_⟩, ?_⟩
  · intro j hj
    obtain ⟨b, off, x, e3, e4, e5, e0⟩ := h.code j hj
    exact ⟨b, off, x, e3, e4, (World.cell?_setCell_other _ _ _ _ (by intro e; injection e with e6; omega)).trans e5, e0⟩
  · exact (World.cell?_setCell_other _ _ _ _ (by simp)).trans h.c0
  · exact (World.cell?_setCell_other _ _ _ _ (by simp)).trans e2
  · intro j; rw [World.frozen?_setCell]; exact h.free j

/-- A store of the number. -/
theorem Cur.set2 {w : World} {B : Nat} {a : Option Addr} {len cap : Nat} (h : Cur w B a len cap) (m : Int) : Cur (w.setCell ⟨B, 2, none⟩ (.int .i64 m)) B a len cap := by
  obtain ⟨i0, n, hi, e1, e2⟩ := h.c12
  refine ⟨?_, h.short, ?_, ⟨i0, m, hi, ?_, World.cell?_setCell_same _ _ _ e2⟩, ?_⟩
  · intro j hj
    obtain ⟨b, off, x, e3, e4, e5, e0⟩ := h.code j hj
    exact ⟨b, off, x, e3, e4, (World.cell?_setCell_other _ _ _ _ (by intro e; injection e with e6; omega)).trans e5, e0⟩
  · exact (World.cell?_setCell_other _ _ _ _ (by simp)).trans h.c0
  · exact (World.cell?_setCell_other _ _ _ _ (by simp)).trans e1
  · intro j; rw [World.frozen?_setCell]; exact h.free j

theorem Cur.drew {w : World} {B : Nat} {a : Option Addr} {len cap : Nat} (h : Cur w B a len cap) : Cur w.drew B a len cap := ⟨h.code, h.short, h.c0, h.c12, h.free⟩

set_option maxHeartbeats 1000000 in
set_option maxRecDepth 100000 in
theorem byteNo (w : World) (B : Nat) (a : Option Addr) (len cap i : Nat) (n : Int) (hi : len ≤ i)
    (c0 : w.cell? ⟨B, 0, none⟩ = some (.slice a len cap)) (c1 : w.cell? ⟨B, 1, none⟩ = some (.int .i64 i)) (c2 : w.cell? ⟨B, 2, none⟩ = some (.int .i64 n)) (f2 : w.frozen? ⟨B, 2, none⟩ = false) :
    Calls Tryd.prog 65 #[.pointer (some ⟨B, 0, none⟩)] w fun e w' => ∃ x m : Int, e = .returned (.int .i64 x) ∧ 0 ≤ x ∧ x ≤ 255 ∧ w' = (w.setCell ⟨B, 2, none⟩ (.int .i64 m)).drew.drew := by
  have hA := and255
  go_enter Tryd.func65, Tryd.ntmps65
  go_wp2
  go_region
  all_goals (try go_wp2)
  go_region
  all_goals (try go_wp2)
  go_ret
  exact ⟨_, _, rfl, by omega, by omega, rfl⟩

set_option maxHeartbeats 1000000 in
set_option maxRecDepth 100000 in
theorem byteYes (w : World) (B b off : Nat) (len cap i : Nat) (n x : Int) (hi : i < len) (hil : len ≤ 4096)
    (c0 : w.cell? ⟨B, 0, none⟩ = some (.slice (some ⟨b, off, none⟩) len cap)) (c1 : w.cell? ⟨B, 1, none⟩ = some (.int .i64 i)) (c2 : w.cell? ⟨B, 2, none⟩ = some (.int .i64 n)) (f1 : w.frozen? ⟨B, 1, none⟩ = false) (f2 : w.frozen? ⟨B, 2, none⟩ = false)
    (hbB : b ≠ B) (cx : w.cell? ⟨b, off + i, none⟩ = some (.int .u8 x)) :
    Calls Tryd.prog 65 #[.pointer (some ⟨B, 0, none⟩)] w fun e w' => ∃ x m : Int, e = .returned (.int .i64 x) ∧ 0 ≤ x ∧ x ≤ 255 ∧ w' = ((w.setCell ⟨B, 2, none⟩ (.int .i64 m)).setCell ⟨B, 1, none⟩ (.int .i64 ((i + 1 : Nat) : Int))).drew.drew.drew := by
  have hA := and255
  have hBb : B ≠ b := fun e => hbB e.symm
  go_enter Tryd.func65, Tryd.ntmps65
  go_wp2
  go_region
  all_goals (try go_wp2)
  go_region
  all_goals (try go_wp2)
  go_region
  all_goals (try go_wp2)
  go_ret
  exact ⟨_, _, rfl, by omega, by omega, rfl⟩

/-- One byte is drawn. -/
theorem drawByte (w : World) (B : Nat) (a : Option Addr) (len cap : Nat) (h : Cur w B a len cap) :
    Calls Tryd.prog 65 #[.pointer (some ⟨B, 0, none⟩)] w fun e w' => ∃ x : Int, e = .returned (.int .i64 x) ∧ 0 ≤ x ∧ x ≤ 255 ∧ Cur w' B a len cap ∧ w.grownBy w' (some B) := by
  obtain ⟨i, n, hi, c1, c2⟩ := h.c12
  have hs := h.short
  by_cases hlt : i < len
  · obtain ⟨b, off, x, rfl, hb, cx, _⟩ := h.code i hlt
    refine (byteYes w B b off len cap i n x hlt hs h.c0 c1 c2 (h.free 1) (h.free 2) (by omega) cx).mono ?_
    rintro e w' ⟨y, m, rfl, h0, h1, rfl⟩
    exact ⟨y, rfl, h0, h1, ((h.set2 m).set1 (i + 1) (by omega)).drew.drew.drew, ((((grown_setCell _ _ _ _).trans (grown_setCell _ _ _ _)).trans (grown_drew _ _)).trans (grown_drew _ _)).trans (grown_drew _ _)⟩
  · refine (byteNo w B a len cap i n (by omega) h.c0 c1 c2 (h.free 2)).mono ?_
    rintro e w' ⟨y, m, rfl, h0, h1, rfl⟩
    exact ⟨y, rfl, h0, h1, (h.set2 m).drew.drew, ((grown_setCell _ _ _ _).trans (grown_drew _ _)).trans (grown_drew _ _)⟩

set_option maxHeartbeats 1000000 in
set_option maxRecDepth 100000 in
/-- A number below n is drawn; 0 where n is not above 0. -/
theorem drawBelow (w : World) (B : Nat) (a : Option Addr) (len cap : Nat) (n : Int) (hn : 0 < n) (hn' : n ≤ 4294967296) (h : Cur w B a len cap) :
    Calls Tryd.prog 37 #[.pointer (some ⟨B, 0, none⟩), .int .i64 n] w fun e w' => ∃ x : Int, e = .returned (.int .i64 x) ∧ 0 ≤ x ∧ x < n ∧ Cur w' B a len cap ∧ w.grownBy w' (some B) := by
  have hz : (n == 0) = false := beq_eq_false_iff_ne.2 (by omega)
  by_cases hs : n ≤ 256
  · go_enter Tryd.func37, Tryd.ntmps37
    go_wp2_with fail
    refine (drawByte _ B a len cap h).mono ?_
    rintro e w1 ⟨x, rfl, h0, h1, hc, hg⟩
    go_wp2
    go_ret
    exact ⟨_, rfl, Int.emod_nonneg _ (by omega), Int.emod_lt_of_pos _ hn, hc, hg⟩
  · go_enter Tryd.func37, Tryd.ntmps37
    go_wp2_with fail
    refine (drawByte _ B a len cap h).mono ?_
    rintro e w1 ⟨x1, rfl, l1, u1, hc1, hg1⟩
    go_wp2_with fail
    refine (drawByte _ B a len cap hc1).mono ?_
    rintro e w2 ⟨x2, rfl, l2, u2, hc2, hg2⟩
    go_wp2_with fail
    refine (drawByte _ B a len cap hc2).mono ?_
    rintro e w3 ⟨x3, rfl, l3, u3, hc3, hg3⟩
    go_wp2_with fail
    refine (drawByte _ B a len cap hc3).mono ?_
    rintro e w4 ⟨x4, rfl, l4, u4, hc4, hg4⟩
    go_wp2
    go_ret
    exact ⟨_, rfl, Int.emod_nonneg _ (by omega), Int.emod_lt_of_pos _ hn, hc4, ((hg1.trans hg2).trans hg3).trans hg4⟩

set_option maxHeartbeats 1000000 in
set_option maxRecDepth 100000 in
theorem drawOnce (w : World) (B : Nat) (a : Option Addr) (len cap : Nat) (n : Int) (hn : 0 < n) (hn' : n ≤ 4294967296) (h : Cur w B a len cap) :
    Calls Tryd.prog 32 #[.pointer (some ⟨B, 0, none⟩), .int .i64 n] w fun e w' => ∃ x : Bool, e = .returned (.bool x) ∧ Cur w' B a len cap ∧ w.grownBy w' (some B) := by
  go_enter Tryd.func32, Tryd.ntmps32
  go_wp2_with fail
  refine (drawBelow _ B a len cap n hn hn' h).mono ?_
  rintro e w1 ⟨x, rfl, h0, h1, hc, hg⟩
  go_wp2
  go_ret
  exact ⟨_, rfl, hc, hg⟩

theorem cur_new (w : World) (a : Option Addr) (len cap : Nat) (m : Int) (hl : len ≤ 4096) (hc : Code w w.heap.size a len) :
    Cur (w.alloc (.cells #[.slice a len cap, .int .i64 0, .int .i64 m] 94)) w.heap.size a len cap := by
  refine ⟨?_, hl, by simp, ⟨0, m, Nat.zero_le _, by simp, by simp⟩, fun j => by simp⟩
  intro j hj
  obtain ⟨b, off, x, e1, e2, e3, e0⟩ := hc j hj
  exact ⟨b, off, x, e1, e2, (World.cell?_of_block (Below.heap_alloc _ _ _ e2)).trans e3, e0⟩

set_option maxHeartbeats 1000000 in
set_option maxRecDepth 100000 in
theorem newSome (w : World) (b off len cap : Nat) (hl : len ≤ 4096) (hc : ∀ j, j < len → ∃ x, w.cell? ⟨b, off + j, none⟩ = some (.int .u8 x)) :
    Calls Tryd.prog 30 #[.slice (some ⟨b, off, none⟩) len cap] w fun e w' => e = .returned (.pointer (some ⟨w.heap.size, 0, none⟩)) ∧ ∃ m : Int, w' = w.alloc (.cells #[.slice (some ⟨b, off, none⟩) len cap, .int .i64 0, .int .i64 m] 94) := by
  have HC : Hid (∀ j, j < len → ∃ x, w.cell? ⟨b, off + j, none⟩ = some (.int .u8 x)) := hc
  clear hc
  go_enter Tryd.func30, Tryd.ntmps30
  go_wp2
  go_loop [3, 4] (fun h i => ∃ k : Nat, ∃ m : Int, k ≤ len ∧ i = .int .i64 k ∧ h = .int .i64 m) (fun _ i => len - (intOf i).toNat)
  case atStart => exact ⟨0, _, Nat.zero_le _, rfl, rfl⟩
  case round =>
    obtain ⟨k, m, hk, rfl, rfl⟩ := hrel
    by_cases hlt : k < len
    · obtain ⟨x, cx⟩ := HC.out k hlt
      go_wp2
      go_round
      case rel => exact ⟨k + 1, _, by omega, by go_num, rfl⟩
      case measure => simp [intOf]; omega
    · go_wp2
      go_ret
      exact ⟨rfl, m, rfl⟩

set_option maxHeartbeats 1000000 in
set_option maxRecDepth 100000 in
theorem newNone (w : World) (a : Option Addr) (cap : Nat) :
    Calls Tryd.prog 30 #[.slice a 0 cap] w fun e w' => e = .returned (.pointer (some ⟨w.heap.size, 0, none⟩)) ∧ ∃ m : Int, w' = w.alloc (.cells #[.slice a 0 cap, .int .i64 0, .int .i64 m] 94) := by
  go_enter Tryd.func30, Tryd.ntmps30
  go_wp2
  refine wp_loop_rounds 1 ?_
  rw [rounds_succ]
  go_wp2
  go_ret
  exact ⟨rfl, _, rfl⟩

/-- A cursor is made: a new block. -/
theorem drawNew (w : World) (a : Option Addr) (len cap : Nat) (hl : len ≤ 4096) (hc : Code w w.heap.size a len) :
    Calls Tryd.prog 30 #[.slice a len cap] w fun e w' => e = .returned (.pointer (some ⟨w.heap.size, 0, none⟩)) ∧ Cur w' w.heap.size a len cap ∧ w.grownBy w' none := by
  by_cases hz : len = 0
  · subst hz
    refine (newNone w a cap).mono ?_
    rintro e w' ⟨rfl, m, rfl⟩
    exact ⟨rfl, cur_new w a 0 cap m hl hc, World.grownBy_alloc _ _ _⟩
  · obtain ⟨b, off, x, rfl, _, _⟩ := hc 0 (by omega)
    refine (newSome w b off len cap hl ?_).mono ?_
    · intro j hj
      obtain ⟨b', off', x', e1, _, e3, _⟩ := hc j hj
      injection e1 with e1
      injection e1 with e4 e5
      subst e4 e5
      exact ⟨x', e3⟩
    · rintro e w' ⟨rfl, m, rfl⟩
      exact ⟨rfl, cur_new w _ len cap m hl hc, World.grownBy_alloc _ _ _⟩

theorem info5 : (Tryd.prog.info? 5).map (fun i => (i.zero, i.size, i.bytes)) = some (some (.int .u8 0), 1, 1) := by kernel_rfl

/-- What a slice of bytes that the call made holds, as bytes. -/
def bytesV (l : List UInt8) : List Value := l.map (fun b => Value.int .u8 (b.toNat : Int))

theorem back_own (w : World) (B : Nat) (v : Value) (l : List UInt8) (h : w.ownsRow B 5 1 v l.length (bytesV l)) :
    (convert 22 9 v).run Tryd.prog w = .ok (.string ⟨l.toArray⟩) w := by
  have hh := h
  obtain ⟨_, ⟨rfl, hn⟩ | ⟨g, cap, cur, rfl, _, _⟩⟩ := hh
  · have : l = [] := List.eq_nil_of_length_eq_zero hn
    subst this
    rw [run_convert_bytes_string w 22 9 5 none 0 0 Tryd.underlying22 Tryd.underlying5 Tryd.underlying9]
    simp [Conv.bytesToString]
    rfl
  · refine run_convert_bytes_back (P := Tryd.prog) w 22 9 5 ⟨g, 0, none⟩ cap l Tryd.underlying22 Tryd.underlying5 Tryd.underlying9 ?_
    intro j hj
    have hx := World.ownsRow.cells h (g := g) rfl j (.int .u8 (l[j].toNat : Int)) (by simp [bytesV, List.getElem?_eq_getElem hj])
    exact hx

end Go.Proofs.YtjkfjenhocaljaaDoor
