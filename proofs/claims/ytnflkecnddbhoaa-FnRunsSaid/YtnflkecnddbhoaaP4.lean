/-
  Parts of one proof, one behind the other: Draw, Draw2, ChunkS, TreeS3, Math7S, Math7R.
-/
import Derived.Test.YtnflkecnddbhoaaP3
import Derived.Test.YtnflkecnddbhoaaRows
import Derived.Test.YtnflkecnddbhoaaP1
import Derived.WalkKit
import Derived.WalkLawsBesides
import Derived.Laws.IdiomStrings
import Derived.Laws.OwnMore
import Derived.Maps.AppendAt
import Derived.Maps.Range
import Derived.OpenShut
import Derived.Handy
import Derived.Test.YtnflkecnddbhoaaP2
import Derived.Lib.AppendStr
import Derived.Deep.RegionHeld3

/-! The contracts of the draws that every law of chapter 1 makes: the cursor lies in one block of its own, each draw gives a number in its range, writes that block alone and makes at most new blocks. -/
namespace Go.Proofs.Ytnflkecnddbhoaa
open Go.RowKit

/-- The bytes of the code lie below block B. -/
def Code (w : World) (B : Nat) (a : Option Addr) (len : Nat) : Prop :=
  ∀ j, j < len → ∃ b off x, a = some ⟨b, off, none⟩ ∧ b < B ∧ w.cell? ⟨b, off + j, none⟩ = some (.int .u8 x) ∧ 0 ≤ x ∧ x ≤ 255

/-- The cursor lies in block B: the code, a place, a number. -/
structure Cur (w : World) (B : Nat) (a : Option Addr) (len cap : Nat) : Prop where
  code : Code w B a len
  short : len ≤ 4096
  c0 : w.cell? ⟨B, 0, none⟩ = some (.slice a len cap)
  c12 : ∃ i : Nat, ∃ h : Int, i ≤ len ∧ w.cell? ⟨B, 1, none⟩ = some (.int .i64 i) ∧ w.cell? ⟨B, 2, none⟩ = some (.int .i64 h)
  free : ∀ j, w.frozen? ⟨B, j, none⟩ = false

theorem grown_drew (w : World) (row : Option Nat) : w.grownBy w.drew row := ⟨rfl, rfl, rfl, Nat.le_refl _, fun _ _ _ => rfl⟩
theorem grown_setCell (w : World) (B o : Nat) (v : Value) : w.grownBy (w.setCell ⟨B, o, none⟩ v) (some B) :=
  ⟨rfl, rfl, rfl, by simp, fun k _ hne => Below.heap_setCell w _ v k (fun e => hne (by rw [e]))⟩

theorem Cur.kept {w w' : World} {B : Nat} {a : Option Addr} {len cap : Nat} {row : Option Nat} (h : Cur w B a len cap) (hg : w.grownBy w' row) (hne : ∀ k, row = some k → B < k) : Cur w' B a len cap := by
  have hlt : B < w.heap.size := World.block_lt_of_cell? w ⟨B, 0, none⟩ h.c0
  have hb : ∀ k, k ≤ B → w'.heap[k]? = w.heap[k]? := fun k hk => hg.block k (by omega) (fun e => by have := hne k e.symm; omega)
  have hB := hb B (Nat.le_refl _)
  refine ⟨?_, h.short, ?_, ?_, ?_⟩
  · intro j hj
    obtain ⟨b, off, x, e1, e2, e3, e0⟩ := h.code j hj
    exact ⟨b, off, x, e1, e2, (World.cell?_of_block (hb b (by omega))).trans e3, e0⟩
  · exact (World.cell?_of_block hB).trans h.c0
  · obtain ⟨i, n, hi, e1, e2⟩ := h.c12
    exact ⟨i, n, hi, (World.cell?_of_block hB).trans e1, (World.cell?_of_block hB).trans e2⟩
  · intro j
    exact (World.frozen?_of_block hB).trans (h.free j)

theorem Cur.lt {w : World} {B : Nat} {a : Option Addr} {len cap : Nat} (h : Cur w B a len cap) : B < w.heap.size := World.block_lt_of_cell? w ⟨B, 0, none⟩ h.c0

/-- A store of the place. -/
theorem Cur.set1 {w : World} {B : Nat} {a : Option Addr} {len cap : Nat} (h : Cur w B a len cap) (i : Nat) (hi : i ≤ len) : Cur (w.setCell ⟨B, 1, none⟩ (.int .i64 i)) B a len cap := by
  obtain ⟨i0, n, _, e1, e2⟩ := h.c12
  refine ⟨?_, h.short, ?_, ⟨i, n, hi, World.cell?_setCell_same _ _ _ e1, ?_⟩, ?_⟩
  · intro j hj
    obtain ⟨b, off, x, e3, e4, e5, e0⟩ := h.code j hj
    exact ⟨b, off, x, e3, e4, (World.cell?_setCell_other _ _ _ _ (by intro e; injection e with e6; omega)).trans e5, e0⟩
  · exact (World.cell?_setCell_other _ _ _ _ (by simp)).trans h.c0
  · exact (World.cell?_setCell_other _ _ _ _ (by simp)).trans e2
  · intro j; rw [World.frozen?_setCell]; exact h.free j

/-- A store of the number. -/
theorem Cur.set2 {w : World} {B : Nat} {a : Option Addr} {len cap : Nat} (h : Cur w B a len cap) (m : Int) : Cur (w.setCell ⟨B, 2, none⟩ (.int .i64 m)) B a len cap := by
  obtain ⟨i0, n, hi, e1, e2⟩ := h.c12
  refine ⟨?_, h.short, ?_, ⟨i0, m, hi, ?_, World.cell?_setCell_same _ _ _ e2⟩, ?_⟩
  · intro j hj
    obtain ⟨b, off, x, e3, e4, e5, e0⟩ := h.code j hj
    exact ⟨b, off, x, e3, e4, (World.cell?_setCell_other _ _ _ _ (by intro e; injection e with e6; omega)).trans e5, e0⟩
  · exact (World.cell?_setCell_other _ _ _ _ (by simp)).trans h.c0
  · exact (World.cell?_setCell_other _ _ _ _ (by simp)).trans e1
  · intro j; rw [World.frozen?_setCell]; exact h.free j

theorem Cur.drew {w : World} {B : Nat} {a : Option Addr} {len cap : Nat} (h : Cur w B a len cap) : Cur w.drew B a len cap := ⟨h.code, h.short, h.c0, h.c12, h.free⟩

set_option maxHeartbeats 1000000 in
set_option maxRecDepth 100000 in
theorem byteNo (w : World) (B : Nat) (a : Option Addr) (len cap i : Nat) (n : Int) (hi : len ≤ i)
    (c0 : w.cell? ⟨B, 0, none⟩ = some (.slice a len cap)) (c1 : w.cell? ⟨B, 1, none⟩ = some (.int .i64 i)) (c2 : w.cell? ⟨B, 2, none⟩ = some (.int .i64 n)) (f2 : w.frozen? ⟨B, 2, none⟩ = false) :
    Calls Try.prog 49 #[.pointer (some ⟨B, 0, none⟩)] w fun e w' => ∃ x m : Int, e = .returned (.int .i64 x) ∧ 0 ≤ x ∧ x ≤ 255 ∧ w' = (w.setCell ⟨B, 2, none⟩ (.int .i64 m)).drew.drew := by
  have hA := and255
  go_enter Try.func49, Try.ntmps49
  go_wp2
  go_region
  all_goals (try go_wp2)
  go_region
  all_goals (try go_wp2)
  go_ret
  exact ⟨_, _, rfl, by omega, by omega, rfl⟩

set_option maxHeartbeats 1000000 in
set_option maxRecDepth 100000 in
theorem byteYes (w : World) (B b off : Nat) (len cap i : Nat) (n x : Int) (hi : i < len) (hil : len ≤ 4096)
    (c0 : w.cell? ⟨B, 0, none⟩ = some (.slice (some ⟨b, off, none⟩) len cap)) (c1 : w.cell? ⟨B, 1, none⟩ = some (.int .i64 i)) (c2 : w.cell? ⟨B, 2, none⟩ = some (.int .i64 n)) (f1 : w.frozen? ⟨B, 1, none⟩ = false) (f2 : w.frozen? ⟨B, 2, none⟩ = false)
    (hbB : b ≠ B) (cx : w.cell? ⟨b, off + i, none⟩ = some (.int .u8 x)) :
    Calls Try.prog 49 #[.pointer (some ⟨B, 0, none⟩)] w fun e w' => ∃ x m : Int, e = .returned (.int .i64 x) ∧ 0 ≤ x ∧ x ≤ 255 ∧ w' = ((w.setCell ⟨B, 2, none⟩ (.int .i64 m)).setCell ⟨B, 1, none⟩ (.int .i64 ((i + 1 : Nat) : Int))).drew.drew.drew := by
  have hA := and255
  have hBb : B ≠ b := fun e => hbB e.symm
  go_enter Try.func49, Try.ntmps49
  go_wp2
  go_region
  all_goals (try go_wp2)
  go_region
  all_goals (try go_wp2)
  go_region
  all_goals (try go_wp2)
  go_ret
  exact ⟨_, _, rfl, by omega, by omega, rfl⟩

/-- One byte is drawn. -/
theorem drawByte (w : World) (B : Nat) (a : Option Addr) (len cap : Nat) (h : Cur w B a len cap) :
    Calls Try.prog 49 #[.pointer (some ⟨B, 0, none⟩)] w fun e w' => ∃ x : Int, e = .returned (.int .i64 x) ∧ 0 ≤ x ∧ x ≤ 255 ∧ Cur w' B a len cap ∧ w.grownBy w' (some B) := by
  obtain ⟨i, n, hi, c1, c2⟩ := h.c12
  have hs := h.short
  by_cases hlt : i < len
  · obtain ⟨b, off, x, rfl, hb, cx, _⟩ := h.code i hlt
    refine (byteYes w B b off len cap i n x hlt hs h.c0 c1 c2 (h.free 1) (h.free 2) (by omega) cx).mono ?_
    rintro e w' ⟨y, m, rfl, h0, h1, rfl⟩
    exact ⟨y, rfl, h0, h1, ((h.set2 m).set1 (i + 1) (by omega)).drew.drew.drew, ((((grown_setCell _ _ _ _).trans (grown_setCell _ _ _ _)).trans (grown_drew _ _)).trans (grown_drew _ _)).trans (grown_drew _ _)⟩
  · refine (byteNo w B a len cap i n (by omega) h.c0 c1 c2 (h.free 2)).mono ?_
    rintro e w' ⟨y, m, rfl, h0, h1, rfl⟩
    exact ⟨y, rfl, h0, h1, (h.set2 m).drew.drew, ((grown_setCell _ _ _ _).trans (grown_drew _ _)).trans (grown_drew _ _)⟩


set_option maxHeartbeats 1000000 in
set_option maxRecDepth 100000 in
/-- A number below n is drawn; 0 where n is not above 0. -/
theorem drawBelow (w : World) (B : Nat) (a : Option Addr) (len cap : Nat) (n : Int) (hn : 0 < n) (hn' : n ≤ 4294967296) (h : Cur w B a len cap) :
    Calls Try.prog 19 #[.pointer (some ⟨B, 0, none⟩), .int .i64 n] w fun e w' => ∃ x : Int, e = .returned (.int .i64 x) ∧ 0 ≤ x ∧ x < n ∧ Cur w' B a len cap ∧ w.grownBy w' (some B) := by
  have hz : (n == 0) = false := beq_eq_false_iff_ne.2 (by omega)
  by_cases hs : n ≤ 256
  · go_enter Try.func19, Try.ntmps19
    go_wp2_with fail
    refine (drawByte _ B a len cap h).mono ?_
    rintro e w1 ⟨x, rfl, h0, h1, hc, hg⟩
    go_wp2
    go_ret
    exact ⟨_, rfl, Int.emod_nonneg _ (by omega), Int.emod_lt_of_pos _ hn, hc, hg⟩
  · go_enter Try.func19, Try.ntmps19
    go_wp2_with fail
    refine (drawByte _ B a len cap h).mono ?_
    rintro e w1 ⟨x1, rfl, l1, u1, hc1, hg1⟩
    go_wp2_with fail
    refine (drawByte _ B a len cap hc1).mono ?_
    rintro e w2 ⟨x2, rfl, l2, u2, hc2, hg2⟩
    go_wp2_with fail
    refine (drawByte _ B a len cap hc2).mono ?_
    rintro e w3 ⟨x3, rfl, l3, u3, hc3, hg3⟩
    go_wp2_with fail
    refine (drawByte _ B a len cap hc3).mono ?_
    rintro e w4 ⟨x4, rfl, l4, u4, hc4, hg4⟩
    go_wp2
    go_ret
    exact ⟨_, rfl, Int.emod_nonneg _ (by omega), Int.emod_lt_of_pos _ hn, hc4, ((hg1.trans hg2).trans hg3).trans hg4⟩


set_option maxHeartbeats 1000000 in
set_option maxRecDepth 100000 in
theorem drawOnce (w : World) (B : Nat) (a : Option Addr) (len cap : Nat) (n : Int) (hn : 0 < n) (hn' : n ≤ 4294967296) (h : Cur w B a len cap) :
    Calls Try.prog 18 #[.pointer (some ⟨B, 0, none⟩), .int .i64 n] w fun e w' => ∃ x : Bool, e = .returned (.bool x) ∧ Cur w' B a len cap ∧ w.grownBy w' (some B) := by
  go_enter Try.func18, Try.ntmps18
  go_wp2_with fail
  refine (drawBelow _ B a len cap n hn hn' h).mono ?_
  rintro e w1 ⟨x, rfl, h0, h1, hc, hg⟩
  go_wp2
  go_ret
  exact ⟨_, rfl, hc, hg⟩


theorem cur_new (w : World) (a : Option Addr) (len cap : Nat) (m : Int) (hl : len ≤ 4096) (hc : Code w w.heap.size a len) :
    Cur (w.alloc (.cells #[.slice a len cap, .int .i64 0, .int .i64 m] 84)) w.heap.size a len cap := by
  refine ⟨?_, hl, by simp, ⟨0, m, Nat.zero_le _, by simp, by simp⟩, fun j => by simp⟩
  intro j hj
  obtain ⟨b, off, x, e1, e2, e3, e0⟩ := hc j hj
  exact ⟨b, off, x, e1, e2, (World.cell?_of_block (Below.heap_alloc _ _ _ e2)).trans e3, e0⟩

set_option maxHeartbeats 1000000 in
set_option maxRecDepth 100000 in
theorem newSome (w : World) (b off len cap : Nat) (hl : len ≤ 4096) (hc : ∀ j, j < len → ∃ x, w.cell? ⟨b, off + j, none⟩ = some (.int .u8 x)) :
    Calls Try.prog 15 #[.slice (some ⟨b, off, none⟩) len cap] w fun e w' => e = .returned (.pointer (some ⟨w.heap.size, 0, none⟩)) ∧ ∃ m : Int, w' = w.alloc (.cells #[.slice (some ⟨b, off, none⟩) len cap, .int .i64 0, .int .i64 m] 84) := by
  have HC : Hid (∀ j, j < len → ∃ x, w.cell? ⟨b, off + j, none⟩ = some (.int .u8 x)) := hc
  clear hc
  go_enter Try.func15, Try.ntmps15
  go_wp2
  go_loop [3, 4] (fun h i => ∃ k : Nat, ∃ m : Int, k ≤ len ∧ i = .int .i64 k ∧ h = .int .i64 m) (fun _ i => len - (intOf i).toNat)
  case atStart => exact ⟨0, _, Nat.zero_le _, rfl, rfl⟩
  case round =>
    obtain ⟨k, m, hk, rfl, rfl⟩ := hrel
    by_cases hlt : k < len
    · obtain ⟨x, cx⟩ := HC.out k hlt
      go_wp2
      go_round
      case rel => exact ⟨k + 1, _, by omega, by go_num, rfl⟩
      case measure => simp [intOf]; omega
    · go_wp2
      go_ret
      exact ⟨rfl, m, rfl⟩

set_option maxHeartbeats 1000000 in
set_option maxRecDepth 100000 in
theorem newNone (w : World) (a : Option Addr) (cap : Nat) :
    Calls Try.prog 15 #[.slice a 0 cap] w fun e w' => e = .returned (.pointer (some ⟨w.heap.size, 0, none⟩)) ∧ ∃ m : Int, w' = w.alloc (.cells #[.slice a 0 cap, .int .i64 0, .int .i64 m] 84) := by
  go_enter Try.func15, Try.ntmps15
  go_wp2
  refine wp_loop_rounds 1 ?_
  rw [rounds_succ]
  go_wp2
  go_ret
  exact ⟨rfl, _, rfl⟩

/-- A cursor is made: a new block. -/
theorem drawNew (w : World) (a : Option Addr) (len cap : Nat) (hl : len ≤ 4096) (hc : Code w w.heap.size a len) :
    Calls Try.prog 15 #[.slice a len cap] w fun e w' => e = .returned (.pointer (some ⟨w.heap.size, 0, none⟩)) ∧ Cur w' w.heap.size a len cap ∧ w.grownBy w' none := by
  by_cases hz : len = 0
  · subst hz
    refine (newNone w a cap).mono ?_
    rintro e w' ⟨rfl, m, rfl⟩
    exact ⟨rfl, cur_new w a 0 cap m hl hc, World.grownBy_alloc _ _ _⟩
  · obtain ⟨b, off, x, rfl, _, _⟩ := hc 0 (by omega)
    refine (newSome w b off len cap hl ?_).mono ?_
    · intro j hj
      obtain ⟨b', off', x', e1, _, e3, _⟩ := hc j hj
      injection e1 with e1
      injection e1 with e4 e5
      subst e4 e5
      exact ⟨x', e3⟩
    · rintro e w' ⟨rfl, m, rfl⟩
      exact ⟨rfl, cur_new w _ len cap m hl hc, World.grownBy_alloc _ _ _⟩


theorem info5 : (Try.prog.info? 5).map (fun i => (i.zero, i.size, i.bytes)) = some (some (.int .u8 0), 1, 1) := by kernel_rfl

/-- What a slice of bytes that the call made holds, as bytes. -/
def bytesV (l : List UInt8) : List Value := l.map (fun b => Value.int .u8 (b.toNat : Int))

theorem back_own (w : World) (B : Nat) (v : Value) (l : List UInt8) (h : w.ownsRow B 5 1 v l.length (bytesV l)) :
    (convert 22 9 v).run Try.prog w = .ok (.string ⟨l.toArray⟩) w := by
  have hh := h
  obtain ⟨_, ⟨rfl, hn⟩ | ⟨g, cap, cur, rfl, _, _⟩⟩ := hh
  · have : l = [] := List.eq_nil_of_length_eq_zero hn
    subst this
    rw [run_convert_bytes_string w 22 9 5 none 0 0 Try.underlying22 Try.underlying5 Try.underlying9]
    simp [Conv.bytesToString]
    rfl
  · refine run_convert_bytes_back (P := Try.prog) w 22 9 5 ⟨g, 0, none⟩ cap l Try.underlying22 Try.underlying5 Try.underlying9 ?_
    intro j hj
    have hx := World.ownsRow.cells h (g := g) rfl j (.int .u8 (l[j].toNat : Int)) (by simp [bytesV, List.getElem?_eq_getElem hj])
    exact hx

end Go.Proofs.Ytnflkecnddbhoaa

/-! The contract of l1DrawBytes: a text of at most eight bytes is drawn. -/
namespace Go.Proofs.Ytnflkecnddbhoaa
open Go.RowKit

theorem byte_of (x : Int) (h0 : 0 ≤ x) (h1 : x ≤ 255) : ((UInt8.ofNat x.toNat).toNat : Int) = x := by rw [UInt8.toNat_ofNat']; omega

theorem bytesV_snoc (l : List UInt8) (x : Int) (h0 : 0 ≤ x) (h1 : x ≤ 255) : bytesV l ++ [.int .u8 x] = bytesV (l ++ [UInt8.ofNat x.toNat]) := by
  unfold bytesV
  rw [List.map_append, List.map_singleton, byte_of x h0 h1]

/-- One byte more behind the own bytes. -/
theorem own_snoc {w1 : World} {B : Nat} {v' : Value} {l : List UInt8} {x : Int} (h0 : 0 ≤ x) (h1 : x ≤ 255) (hown' : w1.ownsRow B 5 1 v' (l.length + 1) (bytesV l ++ [.int .u8 x])) :
    w1.ownsRow B 5 1 v' (l ++ [UInt8.ofNat x.toNat]).length (bytesV (l ++ [UInt8.ofNat x.toNat])) := by
  rw [← bytesV_snoc l x h0 h1, List.length_append, List.length_singleton]
  exact hown'

theorem below_g2 {w W W' : World} (h : Below w.heap.size w W) (hg : W.grownBy W' (some w.heap.size)) : Below w.heap.size w W' := h.grown hg h.size (by simp)

/-- A world that has at most new blocks keeps the cursor. -/
theorem Cur.below {w w' : World} {B : Nat} {a : Option Addr} {len cap : Nat} (h : Cur w B a len cap) (hb : Below w.heap.size w w') : Cur w' B a len cap :=
  h.kept (row := none) ⟨hb.os, hb.tape, hb.output, hb.size, fun k hk _ => hb.block k hk⟩ (by simp)


end Go.Proofs.Ytnflkecnddbhoaa

/-! The contracts of chapter 3's specification: Chunks, Joined. -/
namespace Go.Proofs.Ytnflkecnddbhoaa
open Go.RowKit

/-- The texts ts lie at a, one behind the other. -/
def TextsIn (w : World) (a : Option Addr) (len : Nat) (ts : List (List UInt8)) : Prop :=
  ts.length = len ∧ ∀ j, j < len → ∃ b off, a = some ⟨b, off, none⟩ ∧ b < w.heap.size ∧ w.cell? ⟨b, off + j, none⟩ = some (.string ⟨(ts.getD j []).toArray⟩)

theorem TextsIn.below {w w' : World} {a : Option Addr} {len : Nat} {ts : List (List UInt8)} (h : TextsIn w a len ts) (hb : Below w.heap.size w w') : TextsIn w' a len ts := by
  refine ⟨h.1, fun j hj => ?_⟩
  obtain ⟨b, off, e, hlt, c⟩ := h.2 j hj
  exact ⟨b, off, e, Nat.lt_of_lt_of_le hlt hb.size, (hb.cell (p := ⟨b, off + j, none⟩) hlt).trans c⟩

theorem TextsIn.at {w : World} {a : Option Addr} {len : Nat} {ts : List (List UInt8)} (h : TextsIn w a len ts) (hz : 0 < len) : ∃ b off, a = some ⟨b, off, none⟩ ∧ b < w.heap.size ∧ ∀ j, j < len → w.cell? ⟨b, off + j, none⟩ = some (.string ⟨(ts.getD j []).toArray⟩) := by
  obtain ⟨b, off, rfl, hb, _⟩ := h.2 0 hz
  refine ⟨b, off, rfl, hb, fun j hj => ?_⟩
  obtain ⟨b', off', e, _, c⟩ := h.2 j hj
  injection e with e
  injection e with e1 e2
  subst e1 e2
  exact c

theorem own_texts {w : World} {base n : Nat} {v : Value} {ts : List (List UInt8)} (h : w.ownsRow base 9 1 v n (strV ts)) : ts.length = n ∧ ∃ a cap, v = .slice a n cap ∧ TextsIn w a n ts := by
  have hlen : ts.length = n := by have := h.1; rw [strV_len] at this; omega
  refine ⟨hlen, ?_⟩
  rcases own_forms h with ⟨rfl, rfl, _⟩ | ⟨g, cp, rfl⟩
  · exact ⟨none, 0, rfl, hlen, fun j hj => by omega⟩
  · refine ⟨some ⟨g, 0, none⟩, cp, rfl, hlen, fun j hj => ⟨g, 0, rfl, (h.lt g rfl).2, ?_⟩⟩
    rw [Nat.zero_add]; exact str_cellsD h hlen j hj

set_option maxHeartbeats 400000 in
set_option maxRecDepth 100000 in
theorem specL1Min (x y : Int) (w : World) :
    Calls Try.prog 20 #[.int .i64 x, .int .i64 y] w fun e w' => e = .returned (.int .i64 (if x < y then x else y)) ∧ w' = w := by
  by_cases h : x < y
  · go_enter Try.func20, Try.ntmps20
    go_wp2
    go_ret
    exact ⟨rfl, rfl⟩
  · go_enter Try.func20, Try.ntmps20
    go_wp2
    go_ret
    exact ⟨rfl, rfl⟩


theorem strCells_list (l : List UInt8) : Lib.strCells ⟨l.toArray⟩ = bytesV l := by simp [Lib.strCells, bytesV]

theorem flat_snoc (ts : List (List UInt8)) (k : Nat) (hk : k < ts.length) : (ts.take (k + 1)).flatten = (ts.take k).flatten ++ ts.getD k [] := by
  have hg : ts.getD k [] = ts[k] := by simp [List.getD, hk]
  rw [hg, List.take_succ_eq_append_getElem hk, List.flatten_append]; simp

theorem flat_take (ts : List (List UInt8)) (k : Nat) : (ts.take k).flatten.length ≤ ts.flatten.length := by
  have h := congrArg (fun x => x.flatten.length) (List.take_append_drop k ts)
  simp only [List.flatten_append, List.length_append] at h
  omega


end Go.Proofs.Ytnflkecnddbhoaa

/-! The contracts of chapter 6's specification: TreeOk; a node and a tree are shown. -/
namespace Go.Proofs.Ytnflkecnddbhoaa
open Go.RowKit

set_option maxHeartbeats 1000000 in
set_option maxRecDepth 100000 in
theorem specTreeOk (a : Option Addr) (len cap : Nat) (ns : List Nd) (w : World) (hin : NodesIn w a len ns) (hsh : ShortT ns) (hlen : len ≤ 1048576) :
    Calls Try.prog 91 #[.slice a len cap] w fun e w' => e = .returned (.bool (treeB ns)) ∧ Below w.heap.size w w' := by
  obtain rfl : ns.length = len := hin.1
  have HC : Hid (_) := fun W (h : NodesIn W a ns.length ns) => specEndOf a ns.length cap ns 0 W h hsh hlen
  have HI : Hid (NodesIn w a ns.length ns) := hin
  clear hin hsh
  by_cases h : 1 ≤ (ns.length : Int) ∧ (ns.length : Int) ≤ 60
  · have HB : Hid (inB (ns.length : Int) 1 60 = true) := inB_yes _ _ _ h.1 h.2
    have HT : Hid (treeB ns = (endV ns 0 == (ns.length : Int))) := by
      exact (by unfold treeB; rw [Bool.eq_iff_iff, decide_eq_true_iff, beq_iff_eq]; constructor; exact fun x => x.2; exact fun x => ⟨by omega, x⟩ : treeB ns = (endV ns 0 == (ns.length : Int)))
    go_enter Try.func91, Try.ntmps91
    go_wp2_with fail
    refine (specIn _ _ _ _).mono ?_
    rintro e w1 ⟨rfl, rfl⟩
    rw [HB.out]
    go_wp2_with fail
    refine Calls.mono (HC.out _ HI.out) ?_
    rintro e w2 ⟨rfl, hb2⟩
    go_wp2
    go_ret
    exact ⟨by rw [HT.out]; rfl, hb2⟩
  · have HB : Hid (inB (ns.length : Int) 1 60 = false) := inB_no _ _ _ (by omega)
    have HT : Hid (treeB ns = false) := by exact (decide_eq_false (fun x => h (by omega)) : treeB ns = false)
    go_enter Try.func91, Try.ntmps91
    go_wp2_with fail
    refine (specIn _ _ _ _).mono ?_
    rintro e w1 ⟨rfl, rfl⟩
    rw [HB.out]
    go_wp2
    go_ret
    exact ⟨by rw [HT.out]; rfl, Below.refl _ _⟩

theorem intL_short (a : Int) (h0 : -2147483648 ≤ a) (h1 : a ≤ 2147483647) : (intL a).length ≤ 11 := by
  have h := digL_len 9 a.natAbs (by omega)
  unfold intL
  split
  · simp; omega
  · omega


theorem show_len (n : Nd) (h : nodeB n = true) : (showN n).length ≤ 30 := by
  obtain ⟨k, a, p, f⟩ := n
  have hp := nodeB_iff.1 h
  unfold nodeP at hp
  simp only at hp
  rcases hp with ⟨rfl, ⟨h0, h1⟩, rfl, rfl⟩ | ⟨rfl, ⟨h0, h1⟩, rfl, rfl⟩ | ⟨hk, rfl, rfl, rfl⟩ | ⟨rfl, ⟨h0, h1⟩, hpn, hfn⟩
  · have hs : showN (1, a, [], []) = intL a := by unfold showN; simp
    rw [hs]; have := intL_short a h0 h1; omega
  · have hs : showN (2, a, [], []) = 36 :: intL a := by unfold showN; simp
    rw [hs]; have := intL_short a (by omega) (by omega); simp; omega
  · rcases (show k = 3 ∨ k = 4 ∨ k = 5 ∨ k = 6 ∨ k = 7 by omega) with rfl | rfl | rfl | rfl | rfl <;> (unfold showN; simp)
  · have hs : showN (8, a, p, f) = (64 :: p) ++ [46] ++ f ++ [47] ++ intL a := by unfold showN; simp
    rw [hs]
    have := intL_short a (by omega) (by omega)
    have := (name_letters hpn).1
    have := (name_letters hfn).1
    simp; omega

theorem joinBy_len (ws : List (List UInt8)) (m : Nat) (h : ∀ x ∈ ws, x.length ≤ m) : (joinBy 32 ws).length ≤ ws.length * (m + 1) := by
  induction ws with
  | nil => simp [joinBy]
  | cons x r ih =>
    have hx := h x (by simp)
    have ir := ih (fun y hy => h y (by simp [hy]))
    rw [List.length_cons, Nat.add_mul, Nat.one_mul]
    by_cases hr : r = []
    · subst hr; simp [joinBy]; omega
    · rw [joinBy_cons 32 x r hr]; simp only [List.length_append, List.length_singleton]; omega

theorem showL_len (ns : List Nd) (h : ∀ n ∈ ns, nodeB n = true) : (showL ns).length ≤ ns.length * 31 := by
  have := joinBy_len (ns.map showN) 30 (by intro x hx; obtain ⟨n, hn, rfl⟩ := List.mem_map.1 hx; exact show_len n (h n hn))
  rw [List.length_map] at this
  exact this

theorem showL_step (ns : List Nd) (k : Nat) (hk : k < ns.length) : showL (ns.take (k + 1)) = if k = 0 then showN (ns.getD k nd0) else showL (ns.take k) ++ [32] ++ showN (ns.getD k nd0) := by
  unfold showL
  have h := joinBy_step 32 (ns.map showN) k (by simpa using hk)
  rw [← List.map_take, ← List.map_take] at h
  have hg : (ns.map showN).getD k [] = showN (ns.getD k nd0) := by simp [List.getD, hk]
  rw [hg] at h
  exact h

theorem showL_take (ns : List Nd) (k : Nat) : (showL (ns.take k)).length ≤ (showL ns).length := by
  unfold showL
  have := joinBy_take 32 (ns.map showN) k
  rw [← List.map_take] at this
  exact this



end Go.Proofs.Ytnflkecnddbhoaa

/-! Plain facts for chapter 7: how a package is shown and read. -/
namespace Go.Proofs.Ytnflkecnddbhoaa
open Go.RowKit

theorem split_term (ls : List (List UInt8)) (h : ∀ x ∈ ls, ∀ c ∈ x, c ≠ 10) : splitL 10 (termJ ls) = ls ++ [[]] := by
  unfold splitL
  induction ls with
  | nil => rfl
  | cons x r ih =>
    have e : termJ (x :: r) = x ++ 10 :: termJ r := by simp [termJ]
    rw [e, split_one 10 x (termJ r) [] (h x (by simp)), ih (fun y hy => h y (by simp [hy])), List.nil_append]
    rfl

theorem lines_term (ls : List (List UInt8)) (h : ∀ x ∈ ls, ∀ c ∈ x, c ≠ 10) : linesL (termJ ls) = ls := by
  unfold linesL
  rw [split_term ls h, if_pos (by simp [List.getLastD_eq_getLast?]), List.dropLast_concat]

def kwPackage : List UInt8 := [112, 97, 99, 107, 97, 103, 101]
def kwImport : List UInt8 := [105, 109, 112, 111, 114, 116]
def kwFunc : List UInt8 := [102, 117, 110, 99]

def packLn (s : List UInt8) : List UInt8 := kwPackage ++ [32] ++ s
def impLn (s : List UInt8) : List UInt8 := kwImport ++ [32] ++ s
def funcLn (f : Fn) : List UInt8 := kwFunc ++ [32] ++ f.1 ++ [32] ++ intL f.2.1 ++ [32] ++ showL f.2.2
def pkLines (p : Pk) : List (List UInt8) := packLn p.1 :: (p.2.1.map impLn ++ p.2.2.map funcLn)
def showP (p : Pk) : List UInt8 := termJ (pkLines p)
def showPk (p : Pk) : List UInt8 := if pkgB p = true then showP p else []

/-- What a line adds. -/
noncomputable def readLn (p : Pk) (l : List UInt8) : Option Pk :=
  if (splitL 32 l).getD 0 [] = kwPackage ∧ (splitL 32 l).length = 2 then some ((splitL 32 l).getD 1 [], p.2.1, p.2.2)
  else if (splitL 32 l).getD 0 [] = kwImport ∧ (splitL 32 l).length = 2 then some (p.1, p.2.1 ++ [(splitL 32 l).getD 1 []], p.2.2)
  else if (splitL 32 l).getD 0 [] = kwFunc ∧ 3 < (splitL 32 l).length then
    (if readOk (l.drop (((splitL 32 l).getD 1 []).length + ((splitL 32 l).getD 2 []).length + 7)) = true then
      some (p.1, p.2.1, p.2.2 ++ [((splitL 32 l).getD 1 [], readV ((splitL 32 l).getD 2 []), readTV (l.drop (((splitL 32 l).getD 1 []).length + ((splitL 32 l).getD 2 []).length + 7)))])
    else none)
  else none

noncomputable def readLs : Pk → List (List UInt8) → Option Pk
  | p, [] => some p
  | p, l :: r => match readLn p l with | none => none | some q => readLs q r

theorem name_noblank {s : List UInt8} (h : nameB s = true) : ∀ c ∈ s, c ≠ 32 := fun c hc e => by
  have := (name_letters h).2 c hc
  rw [e] at this
  simp at this

theorem two_words (a b : List UInt8) (ha : ∀ c ∈ a, c ≠ 32) (hb : ∀ c ∈ b, c ≠ 32) : splitL 32 (a ++ [32] ++ b) = [a, b] := by
  have := split_join 32 [a, b] (by simp) (by intro x hx; simp at hx; rcases hx with rfl | rfl <;> assumption)
  simpa [joinBy] using this

theorem read_pack (p : Pk) (s : List UInt8) (h : nameB s = true) : readLn p (packLn s) = some (s, p.2.1, p.2.2) := by
  have hs : splitL 32 (packLn s) = [kwPackage, s] := two_words _ _ (by decide) (name_noblank h)
  unfold readLn
  rw [hs]
  simp

theorem read_imp (p : Pk) (s : List UInt8) (h : nameB s = true) : readLn p (impLn s) = some (p.1, p.2.1 ++ [s], p.2.2) := by
  have hs : splitL 32 (impLn s) = [kwImport, s] := two_words _ _ (by decide) (name_noblank h)
  unfold readLn
  rw [hs]
  rw [if_neg (by simp [kwImport, kwPackage]), if_pos (by simp)]
  simp

theorem tree_backL {ns : List Nd} (h : treeB ns = true) : readOk (showL ns) = true ∧ readTV (showL ns) = ns := by
  have hr := readT_show ns h
  have hok : readOk (showL ns) = true := by
    unfold readOk
    rw [hr]
    have h1 := showL_len ns (tree_nodes h)
    have h2 := (tree_end h).1.2
    simp only [Bool.and_eq_true, decide_eq_true_eq, beq_iff_eq]
    exact ⟨by omega, h, trivial⟩
  exact ⟨hok, by unfold readTV; rw [if_pos hok]; exact hr⟩

theorem joinBy_front (b : UInt8) (x y z : List UInt8) (r : List (List UInt8)) (hr : r ≠ []) : joinBy b (x :: y :: z :: r) = x ++ [b] ++ y ++ [b] ++ z ++ [b] ++ joinBy b r := by
  rw [joinBy_cons b x _ (by simp), joinBy_cons b y _ (by simp), joinBy_cons b z _ hr]
  simp

theorem read_func (p : Pk) (f : Fn) (h : funcB f = true) : readLn p (funcLn f) = some (p.1, p.2.1, p.2.2 ++ [f]) := by
  obtain ⟨s, n, t⟩ := f
  unfold funcB at h
  simp only [Bool.and_eq_true] at h
  obtain ⟨hs, hn, ht⟩ := h
  have hnb : 0 ≤ n ∧ n ≤ 3 := by unfold inB at hn; exact of_decide_eq_true hn
  have htl := (tree_end ht).1
  have htn : t.map showN ≠ [] := by intro e; have := congrArg List.length e; simp at this; rw [this] at htl; simp at htl
  have hrd := read_of_int n (by omega) (by omega)
  have hj : funcLn (s, n, t) = joinBy 32 (kwFunc :: s :: intL n :: t.map showN) := by
    rw [joinBy_front 32 _ _ _ _ htn]; rfl
  have hsp : splitL 32 (funcLn (s, n, t)) = kwFunc :: s :: intL n :: t.map showN := by
    rw [hj]
    refine split_join 32 _ (by simp) ?_
    intro x hx
    simp only [List.mem_cons, List.mem_map] at hx
    rcases hx with rfl | rfl | rfl | ⟨m, hm, rfl⟩
    · decide
    · exact name_noblank hs
    · intro c hc e
      have := intL_bytes n (by omega) (by omega) c hc
      rw [e] at this
      simp at this
    · exact show_noblank m (tree_nodes ht m hm)
  have hdrop : (funcLn (s, n, t)).drop (s.length + (intL n).length + 7) = showL t := by
    have e : funcLn (s, n, t) = (kwFunc ++ [32] ++ s ++ [32] ++ intL n ++ [32]) ++ showL t := rfl
    rw [e, List.drop_append_of_le_length (by simp [kwFunc]; omega)]
    rw [List.drop_of_length_le (by simp [kwFunc]; omega)]
    simp
  unfold readLn
  rw [hsp]
  rw [if_neg (by simp [kwFunc, kwPackage]), if_neg (by simp [kwFunc, kwImport]), if_pos (by simp; omega)]
  simp only [List.getD_cons_zero, List.getD_cons_succ]
  rw [hdrop, if_pos (tree_backL ht).1, (tree_backL ht).2, hrd.2]

theorem readLs_imps (r : List (List UInt8)) : ∀ (ims : List (List UInt8)) (p : Pk), (∀ x ∈ ims, nameB x = true) → readLs p (ims.map impLn ++ r) = readLs (p.1, p.2.1 ++ ims, p.2.2) r
  | [], p, _ => by simp
  | s :: ims, p, h => by
    rw [List.map_cons, List.cons_append, readLs, read_imp p s (h s (by simp))]
    simp only
    rw [readLs_imps r ims _ (fun x hx => h x (by simp [hx]))]
    simp

theorem readLs_funcs : ∀ (fs : List Fn) (p : Pk), (∀ f ∈ fs, funcB f = true) → readLs p (fs.map funcLn) = some (p.1, p.2.1, p.2.2 ++ fs)
  | [], p, _ => by simp [readLs]
  | f :: fs, p, h => by
    rw [List.map_cons, readLs, read_func p f (h f (by simp))]
    simp only
    rw [readLs_funcs fs _ (fun x hx => h x (by simp [hx]))]
    simp

theorem pkgB_parts {p : Pk} (h : pkgB p = true) : nameB p.1 = true ∧ (∀ x ∈ p.2.1, nameB x = true) ∧ p.2.1.length ≤ 6 ∧ (1 ≤ p.2.2.length ∧ p.2.2.length ≤ 8) ∧ (∀ f ∈ p.2.2, funcB f = true) := by
  unfold pkgB importsB inB at h
  simp only [Bool.and_eq_true, decide_eq_true_eq] at h
  obtain ⟨⟨h1, ⟨h2, h3, _⟩, h4⟩, h5⟩ := h
  refine ⟨h1, fun x hx => ?_, h3, by omega, fun f hf => ?_⟩
  · obtain ⟨i, hi, rfl⟩ := List.getElem_of_mem hx
    have := h2 i hi
    rwa [List.getD_eq_getElem?_getD, List.getElem?_eq_getElem hi] at this
  · obtain ⟨i, hi, rfl⟩ := List.getElem_of_mem hf
    have := (h5 i hi).1
    rwa [List.getD_eq_getElem?_getD, List.getElem?_eq_getElem hi] at this

/-- What is shown of a right package is read as it, line by line. -/
theorem read_lines {p : Pk} (h : pkgB p = true) : readLs ([], [], []) (pkLines p) = some p := by
  obtain ⟨h1, h2, _, _, h5⟩ := pkgB_parts h
  unfold pkLines
  rw [readLs, read_pack _ _ h1]
  simp only
  rw [readLs_imps _ _ _ h2, readLs_funcs _ _ h5]
  simp

end Go.Proofs.Ytnflkecnddbhoaa

/-! Plain facts for chapter 7: ReadPackage of ShowPackage is the package. -/
namespace Go.Proofs.Ytnflkecnddbhoaa
open Go.RowKit

def lineT (x : List UInt8) : List UInt8 := x ++ [10]

def pk0 : Pk := ([], [], [])

theorem name_no10 {s : List UInt8} (h : nameB s = true) : ∀ c ∈ s, c ≠ 10 := fun c hc e => by
  have := (name_letters h).2 c hc
  rw [e] at this
  simp at this

theorem int_no10 (n : Int) (h0 : -2147483648 ≤ n) (h1 : n ≤ 2147483647) : ∀ c ∈ intL n, c ≠ 10 := fun c hc e => by
  have := intL_bytes n h0 h1 c hc
  rw [e] at this
  simp at this

theorem show_no10 (n : Nd) (h : nodeB n = true) : ∀ c ∈ showN n, c ≠ 10 := by
  obtain ⟨k, a, p, f⟩ := n
  have hp := nodeB_iff.1 h
  unfold nodeP at hp
  simp only at hp
  rcases hp with ⟨rfl, ⟨h0, h1⟩, rfl, rfl⟩ | ⟨rfl, ⟨h0, h1⟩, rfl, rfl⟩ | ⟨hk, rfl, rfl, rfl⟩ | ⟨rfl, ⟨h0, h1⟩, hpn, hfn⟩
  · have hs : showN (1, a, [], []) = intL a := by unfold showN; simp
    rw [hs]; exact int_no10 a h0 h1
  · have hs : showN (2, a, [], []) = 36 :: intL a := by unfold showN; simp
    rw [hs]
    intro c hc
    rcases List.mem_cons.1 hc with rfl | hc
    · decide
    · exact int_no10 a (by omega) (by omega) c hc
  · rcases (show k = 3 ∨ k = 4 ∨ k = 5 ∨ k = 6 ∨ k = 7 by omega) with rfl | rfl | rfl | rfl | rfl <;> (unfold showN; simp)
  · have hs : showN (8, a, p, f) = (64 :: p) ++ [46] ++ f ++ [47] ++ intL a := by unfold showN; simp
    rw [hs]
    intro c hc
    simp only [List.mem_append, List.mem_cons, List.not_mem_nil, or_false] at hc
    rcases hc with ((((rfl | hc) | rfl) | hc) | rfl) | hc
    · decide
    · exact name_no10 hpn c hc
    · decide
    · exact name_no10 hfn c hc
    · decide
    · exact int_no10 a (by omega) (by omega) c hc

theorem join_no (d b : UInt8) (hd : b ≠ d) : ∀ (ws : List (List UInt8)), (∀ x ∈ ws, ∀ c ∈ x, c ≠ d) → ∀ c ∈ joinBy b ws, c ≠ d
  | [], _ => by simp [joinBy]
  | [x], h => by simpa [joinBy] using h
  | x :: y :: r, h => by
    intro c hc
    rw [joinBy_cons b x (y :: r) (by simp)] at hc
    simp only [List.mem_append, List.mem_singleton] at hc
    rcases hc with (hc | rfl) | hc
    · exact h x (by simp) c hc
    · exact hd
    · exact join_no d b hd (y :: r) (fun z hz => h z (by simp at hz ⊢; exact Or.inr hz)) c hc

theorem lines_no10 {p : Pk} (h : pkgB p = true) : ∀ x ∈ pkLines p, ∀ c ∈ x, c ≠ 10 := by
  obtain ⟨h1, h2, _, _, h5⟩ := pkgB_parts h
  intro x hx
  unfold pkLines at hx
  simp only [List.mem_cons, List.mem_append, List.mem_map] at hx
  rcases hx with rfl | ⟨s, hs, rfl⟩ | ⟨f, hf, rfl⟩
  · intro c hc
    unfold packLn kwPackage at hc
    rw [List.mem_append] at hc
    rcases hc with hc | hc
    · intro e; rw [e] at hc; revert hc; decide
    · exact name_no10 h1 c hc
  · intro c hc
    unfold impLn kwImport at hc
    rw [List.mem_append] at hc
    rcases hc with hc | hc
    · intro e; rw [e] at hc; revert hc; decide
    · exact name_no10 (h2 s hs) c hc
  · have hfb := h5 f hf
    obtain ⟨s, n, t⟩ := f
    unfold funcB at hfb
    simp only [Bool.and_eq_true] at hfb
    obtain ⟨hs, hn, ht⟩ := hfb
    have hnb : 0 ≤ n ∧ n ≤ 3 := by unfold inB at hn; exact of_decide_eq_true hn
    intro c hc
    unfold funcLn kwFunc at hc
    simp only [List.mem_append] at hc
    rcases hc with (((((hc | hc) | hc) | hc) | hc) | hc) | hc
    · intro e; rw [e] at hc; revert hc; decide
    · intro e; rw [e] at hc; revert hc; decide
    · exact name_no10 hs c hc
    · intro e; rw [e] at hc; revert hc; decide
    · exact int_no10 n (by omega) (by omega) c hc
    · intro e; rw [e] at hc; revert hc; decide
    · exact join_no 10 32 (by decide) _ (by intro y hy; obtain ⟨m, hm, rfl⟩ := List.mem_map.1 hy; exact show_no10 m (tree_nodes ht m hm)) c hc

theorem termJ_len (n : Nat) : ∀ ls : List (List UInt8), (∀ x ∈ ls, x.length ≤ n) → (termJ ls).length ≤ ls.length * (n + 1)
  | [], _ => by simp [termJ]
  | x :: r, h => by
    have e : termJ (x :: r) = x ++ 10 :: termJ r := by simp [termJ]
    have h1 := h x (by simp)
    have h2 := termJ_len n r (fun y hy => h y (by simp [hy]))
    rw [e, List.length_append, List.length_cons, List.length_cons, Nat.succ_mul]
    omega

theorem funcLn_len {f : Fn} (h : funcB f = true) : (funcLn f).length ≤ 1900 := by
  obtain ⟨s, n, t⟩ := f
  unfold funcB at h
  simp only [Bool.and_eq_true] at h
  obtain ⟨hs, hn, ht⟩ := h
  have hnb : 0 ≤ n ∧ n ≤ 3 := by unfold inB at hn; exact of_decide_eq_true hn
  have h1 := showL_len t (tree_nodes ht)
  have h2 := (tree_end ht).1.2
  have h3 := (name_letters hs).1
  have h4 := intL_short n (by omega) (by omega)
  unfold funcLn kwFunc
  simp only [List.length_append, List.length_cons, List.length_nil]
  omega

theorem showP_len {p : Pk} (h : pkgB p = true) : (showP p).length ≤ 20000 := by
  obtain ⟨h1, h2, h3, h4, h5⟩ := pkgB_parts h
  have e : showP p = termJ (packLn p.1 :: p.2.1.map impLn) ++ termJ (p.2.2.map funcLn) := by
    unfold showP pkLines
    rw [← List.cons_append]
    simp [termJ]
  have ha := termJ_len 20 (packLn p.1 :: p.2.1.map impLn) (by
    intro x hx
    simp only [List.mem_cons, List.mem_map] at hx
    rcases hx with rfl | ⟨s, hs, rfl⟩
    · have := (name_letters h1).1
      unfold packLn kwPackage; simp; omega
    · have := (name_letters (h2 s hs)).1
      unfold impLn kwImport; simp; omega)
  have hb := termJ_len 1900 (p.2.2.map funcLn) (by
    intro x hx
    obtain ⟨f, hf, rfl⟩ := List.mem_map.1 hx
    exact funcLn_len (h5 f hf))
  rw [List.length_cons, List.length_map] at ha
  rw [List.length_map] at hb
  rw [e, List.length_append]
  omega

/-- What is read of a text: the package, where there is one. -/
noncomputable def readPB (s : List UInt8) : Bool := decide (s.length ≤ 20000) && (match readLs pk0 (linesL s) with | none => false | some p => pkgB p && (showP p == s))
noncomputable def readPV (s : List UInt8) : Pk := if readPB s = true then (readLs pk0 (linesL s)).getD pk0 else pk0

theorem read_pv (s : List UInt8) : (readPB s = true ∧ pkgB (readPV s) = true ∧ showPk (readPV s) = s) ∨ (readPB s = false ∧ readPV s = pk0) := by
  rcases h : readPB s with _ | _
  · exact Or.inr ⟨rfl, by unfold readPV; rw [if_neg (by rw [h]; simp)]⟩
  · have hv : readPV s = (readLs pk0 (linesL s)).getD pk0 := by unfold readPV; rw [if_pos h]
    unfold readPB at h
    rw [Bool.and_eq_true] at h
    obtain ⟨_, h⟩ := h
    cases he : readLs pk0 (linesL s) with
    | none => rw [he] at h; cases h
    | some p =>
      rw [he] at h hv
      simp only [Bool.and_eq_true, beq_iff_eq] at h
      rw [Option.getD_some] at hv
      rw [hv]
      exact Or.inl ⟨rfl, h.1, by unfold showPk; rw [if_pos h.1]; exact h.2⟩

theorem pack_back {p : Pk} (h : pkgB p = true) : showPk p ≠ [] ∧ readPB (showPk p) = true ∧ readPV (showPk p) = p := by
  have hs : showPk p = showP p := by unfold showPk; rw [if_pos h]
  have hl : linesL (showP p) = pkLines p := lines_term _ (lines_no10 h)
  have hr : readLs pk0 (linesL (showP p)) = some p := by rw [hl]; exact read_lines h
  have hb : readPB (showP p) = true := by
    unfold readPB
    rw [hr, decide_eq_true (showP_len h)]
    simp [h]
  refine ⟨?_, by rw [hs]; exact hb, by rw [hs]; unfold readPV; rw [if_pos hb, hr, Option.getD_some]⟩
  rw [hs]
  unfold showP pkLines packLn kwPackage
  simp [termJ]

theorem pack_not {p : Pk} (h : pkgB p = false) : showPk p = [] := by unfold showPk; rw [if_neg (by rw [h]; simp)]

end Go.Proofs.Ytnflkecnddbhoaa
