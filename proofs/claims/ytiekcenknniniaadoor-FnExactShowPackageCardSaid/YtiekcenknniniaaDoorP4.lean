/-
  Parts of one proof, one behind the other: Draw, Draw2, ChunkS, TreeS3, PackS, PackS2.
-/
import Derived.Test.YtiekcenknniniaaDoorP3
import Derived.Test.YtiekcenknniniaaDoorRows
import Derived.Test.YtiekcenknniniaaDoorP1
import Derived.WalkKit
import Derived.WalkLawsBesides
import Derived.Laws.IdiomStrings
import Derived.Laws.OwnMore
import Derived.Maps.AppendAt
import Derived.Maps.Range
import Derived.OpenShut
import Derived.Handy
import Derived.Test.YtiekcenknniniaaDoorP2
import Derived.Lib.AppendStr
import Derived.Deep.RegionHeld3
import Derived.BigQuiet
import Derived.Deep.Cut

/-! The contracts of the draws that every law of chapter 1 makes: the cursor lies in one block of its own, each draw gives a number in its range, writes that block alone and makes at most new blocks. -/
namespace Go.Proofs.YtiekcenknniniaaDoor
open Go.RowKit

/-- The bytes of the code lie below block B. -/
def Code (w : World) (B : Nat) (a : Option Addr) (len : Nat) : Prop :=
  ∀ j, j < len → ∃ b off x, a = some ⟨b, off, none⟩ ∧ b < B ∧ w.cell? ⟨b, off + j, none⟩ = some (.int .u8 x) ∧ 0 ≤ x ∧ x ≤ 255

/-- The cursor lies in block B: the code, a place, a number. -/
structure Cur (w : World) (B : Nat) (a : Option Addr) (len cap : Nat) : Prop where
  code : Code w B a len
  short : len ≤ 4096
  c0 : w.cell? ⟨B, 0, none⟩ = some (.slice a len cap)
  c12 : ∃ i : Nat, ∃ h : Int, i ≤ len ∧ w.cell? ⟨B, 1, none⟩ = some (.int .i64 i) ∧ w.cell? ⟨B, 2, none⟩ = some (.int .i64 h)
  free : ∀ j, w.frozen? ⟨B, j, none⟩ = false

theorem grown_drew (w : World) (row : Option Nat) : w.grownBy w.drew row := ⟨rfl, rfl, rfl, Nat.le_refl _, fun _ _ _ => rfl⟩
theorem grown_setCell (w : World) (B o : Nat) (v : Value) : w.grownBy (w.setCell ⟨B, o, none⟩ v) (some B) :=
  ⟨rfl, rfl, rfl, by simp, fun k _ hne => Below.heap_setCell w _ v k (fun e => hne (by rw [e]))⟩

theorem Cur.kept {w w' : World} {B : Nat} {a : Option Addr} {len cap : Nat} {row : Option Nat} (h : Cur w B a len cap) (hg : w.grownBy w' row) (hne : ∀ k, row = some k → B < k) : Cur w' B a len cap := by
  have hlt : B < w.heap.size := World.block_lt_of_cell? w ⟨B, 0, none⟩ h.c0
  have hb : ∀ k, k ≤ B → w'.heap[k]? = w.heap[k]? := fun k hk => hg.block k (by omega) (fun e => by have := hne k e.symm; omega)
  have hB := hb B (Nat.le_refl _)
  refine ⟨?_, h.short, ?_, ?_, ?_⟩
  · intro j hj
    obtain ⟨b, off, x, e1, e2, e3, e0⟩ := h.code j hj
    exact ⟨b, off, x, e1, e2, (World.cell?_of_block (hb b (by omega))).trans e3, e0⟩
  · exact (World.cell?_of_block hB).trans h.c0
  · obtain ⟨i, n, hi, e1, e2⟩ := h.c12
    exact ⟨i, n, hi, (World.cell?_of_block hB).trans e1, (World.cell?_of_block hB).trans e2⟩
  · intro j
    exact (World.frozen?_of_block hB).trans (h.free j)

theorem Cur.lt {w : World} {B : Nat} {a : Option Addr} {len cap : Nat} (h : Cur w B a len cap) : B < w.heap.size := World.block_lt_of_cell? w ⟨B, 0, none⟩ h.c0

/-- A store of the place. -/
theorem Cur.set1 {w : World} {B : Nat} {a : Option Addr} {len cap : Nat} (h : Cur w B a len cap) (i : Nat) (hi : i ≤ len) : Cur (w.setCell ⟨B, 1, none⟩ (.int .i64 i)) B a len cap := by
  obtain ⟨i0, n, _, e1, e2⟩ := h.c12
  refine ⟨?_, h.short, ?_, ⟨i, n, hi, World.cell?_setCell_same _ _ _ e1, ?_⟩, ?_⟩
  · intro j hj
    obtain ⟨b, off, x, e3, e4, e5, e0⟩ := h.code j hj
    exact ⟨b, off, x, e3, e4, (World.cell?_setCell_other _ _ _ _ (by intro e; injection e with e6; omega)).trans e5, e0⟩
  · exact (World.cell?_setCell_other _ _ _ _ (by simp)).trans h.c0
  · exact (World.cell?_setCell_other _ _ _ _ (by simp)).trans e2
  · intro j; rw [World.frozen?_setCell]; exact h.free j

/-- A store of the number. -/
theorem Cur.set2 {w : World} {B : Nat} {a : Option Addr} {len cap : Nat} (h : Cur w B a len cap) (m : Int) : Cur (w.setCell ⟨B, 2, none⟩ (.int .i64 m)) B a len cap := by
  obtain ⟨i0, n, hi, e1, e2⟩ := h.c12
  refine ⟨?_, h.short, ?_, ⟨i0, m, hi, ?_, World.cell?_setCell_same _ _ _ e2⟩, ?_⟩
  · intro j hj
    obtain ⟨b, off, x, e3, e4, e5, e0⟩ := h.code j hj
    exact ⟨b, off, x, e3, e4, (World.cell?_setCell_other _ _ _ _ (by intro e; injection e with e6; omega)).trans e5, e0⟩
  · exact (World.cell?_setCell_other _ _ _ _ (by simp)).trans h.c0
  · exact (World.cell?_setCell_other _ _ _ _ (by simp)).trans e1
  · intro j; rw [World.frozen?_setCell]; exact h.free j

theorem Cur.drew {w : World} {B : Nat} {a : Option Addr} {len cap : Nat} (h : Cur w B a len cap) : Cur w.drew B a len cap := ⟨h.code, h.short, h.c0, h.c12, h.free⟩





theorem info5 : (Tryd.prog.info? 5).map (fun i => (i.zero, i.size, i.bytes)) = some (some (.int .u8 0), 1, 1) := by kernel_rfl

/-- What a slice of bytes that the call made holds, as bytes. -/
def bytesV (l : List UInt8) : List Value := l.map (fun b => Value.int .u8 (b.toNat : Int))

theorem back_own (w : World) (B : Nat) (v : Value) (l : List UInt8) (h : w.ownsRow B 5 1 v l.length (bytesV l)) :
    (convert 58 9 v).run Tryd.prog w = .ok (.string ⟨l.toArray⟩) w := by
  have hh := h
  obtain ⟨_, ⟨rfl, hn⟩ | ⟨g, cap, cur, rfl, _, _⟩⟩ := hh
  · have : l = [] := List.eq_nil_of_length_eq_zero hn
    subst this
    rw [run_convert_bytes_string w 58 9 5 none 0 0 Tryd.underlying58 Tryd.underlying5 Tryd.underlying9]
    simp [Conv.bytesToString]
    rfl
  · refine run_convert_bytes_back (P := Tryd.prog) w 58 9 5 ⟨g, 0, none⟩ cap l Tryd.underlying58 Tryd.underlying5 Tryd.underlying9 ?_
    intro j hj
    have hx := World.ownsRow.cells h (g := g) rfl j (.int .u8 (l[j].toNat : Int)) (by simp [bytesV, List.getElem?_eq_getElem hj])
    exact hx

end Go.Proofs.YtiekcenknniniaaDoor

/-! The contract of l1DrawBytes: a text of at most eight bytes is drawn. -/
namespace Go.Proofs.YtiekcenknniniaaDoor
open Go.RowKit

theorem byte_of (x : Int) (h0 : 0 ≤ x) (h1 : x ≤ 255) : ((UInt8.ofNat x.toNat).toNat : Int) = x := by rw [UInt8.toNat_ofNat']; omega

theorem bytesV_snoc (l : List UInt8) (x : Int) (h0 : 0 ≤ x) (h1 : x ≤ 255) : bytesV l ++ [.int .u8 x] = bytesV (l ++ [UInt8.ofNat x.toNat]) := by
  unfold bytesV
  rw [List.map_append, List.map_singleton, byte_of x h0 h1]

/-- One byte more behind the own bytes. -/
theorem own_snoc {w1 : World} {B : Nat} {v' : Value} {l : List UInt8} {x : Int} (h0 : 0 ≤ x) (h1 : x ≤ 255) (hown' : w1.ownsRow B 5 1 v' (l.length + 1) (bytesV l ++ [.int .u8 x])) :
    w1.ownsRow B 5 1 v' (l ++ [UInt8.ofNat x.toNat]).length (bytesV (l ++ [UInt8.ofNat x.toNat])) := by
  rw [← bytesV_snoc l x h0 h1, List.length_append, List.length_singleton]
  exact hown'

theorem below_g2 {w W W' : World} (h : Below w.heap.size w W) (hg : W.grownBy W' (some w.heap.size)) : Below w.heap.size w W' := h.grown hg h.size (by simp)

/-- A world that has at most new blocks keeps the cursor. -/
theorem Cur.below {w w' : World} {B : Nat} {a : Option Addr} {len cap : Nat} (h : Cur w B a len cap) (hb : Below w.heap.size w w') : Cur w' B a len cap :=
  h.kept (row := none) ⟨hb.os, hb.tape, hb.output, hb.size, fun k hk _ => hb.block k hk⟩ (by simp)


end Go.Proofs.YtiekcenknniniaaDoor

/-! The contracts of chapter 3's specification: Chunks, Joined. -/
namespace Go.Proofs.YtiekcenknniniaaDoor
open Go.RowKit

/-- The texts ts lie at a, one behind the other. -/
def TextsIn (w : World) (a : Option Addr) (len : Nat) (ts : List (List UInt8)) : Prop :=
  ts.length = len ∧ ∀ j, j < len → ∃ b off, a = some ⟨b, off, none⟩ ∧ b < w.heap.size ∧ w.cell? ⟨b, off + j, none⟩ = some (.string ⟨(ts.getD j []).toArray⟩)

theorem TextsIn.below {w w' : World} {a : Option Addr} {len : Nat} {ts : List (List UInt8)} (h : TextsIn w a len ts) (hb : Below w.heap.size w w') : TextsIn w' a len ts := by
  refine ⟨h.1, fun j hj => ?_⟩
  obtain ⟨b, off, e, hlt, c⟩ := h.2 j hj
  exact ⟨b, off, e, Nat.lt_of_lt_of_le hlt hb.size, (hb.cell (p := ⟨b, off + j, none⟩) hlt).trans c⟩

theorem TextsIn.at {w : World} {a : Option Addr} {len : Nat} {ts : List (List UInt8)} (h : TextsIn w a len ts) (hz : 0 < len) : ∃ b off, a = some ⟨b, off, none⟩ ∧ b < w.heap.size ∧ ∀ j, j < len → w.cell? ⟨b, off + j, none⟩ = some (.string ⟨(ts.getD j []).toArray⟩) := by
  obtain ⟨b, off, rfl, hb, _⟩ := h.2 0 hz
  refine ⟨b, off, rfl, hb, fun j hj => ?_⟩
  obtain ⟨b', off', e, _, c⟩ := h.2 j hj
  injection e with e
  injection e with e1 e2
  subst e1 e2
  exact c

theorem own_texts {w : World} {base n : Nat} {v : Value} {ts : List (List UInt8)} (h : w.ownsRow base 9 1 v n (strV ts)) : ts.length = n ∧ ∃ a cap, v = .slice a n cap ∧ TextsIn w a n ts := by
  have hlen : ts.length = n := by have := h.1; rw [strV_len] at this; omega
  refine ⟨hlen, ?_⟩
  rcases own_forms h with ⟨rfl, rfl, _⟩ | ⟨g, cp, rfl⟩
  · exact ⟨none, 0, rfl, hlen, fun j hj => by omega⟩
  · refine ⟨some ⟨g, 0, none⟩, cp, rfl, hlen, fun j hj => ⟨g, 0, rfl, (h.lt g rfl).2, ?_⟩⟩
    rw [Nat.zero_add]; exact str_cellsD h hlen j hj



theorem strCells_list (l : List UInt8) : Lib.strCells ⟨l.toArray⟩ = bytesV l := by simp [Lib.strCells, bytesV]

theorem flat_snoc (ts : List (List UInt8)) (k : Nat) (hk : k < ts.length) : (ts.take (k + 1)).flatten = (ts.take k).flatten ++ ts.getD k [] := by
  have hg : ts.getD k [] = ts[k] := by simp [List.getD, hk]
  rw [hg, List.take_succ_eq_append_getElem hk, List.flatten_append]; simp

theorem flat_take (ts : List (List UInt8)) (k : Nat) : (ts.take k).flatten.length ≤ ts.flatten.length := by
  have h := congrArg (fun x => x.flatten.length) (List.take_append_drop k ts)
  simp only [List.flatten_append, List.length_append] at h
  omega


end Go.Proofs.YtiekcenknniniaaDoor

/-! The contracts of chapter 6's specification: TreeOk; a node and a tree are shown. -/
namespace Go.Proofs.YtiekcenknniniaaDoor
open Go.RowKit

set_option maxHeartbeats 1000000 in
set_option maxRecDepth 100000 in
theorem specTreeOk (a : Option Addr) (len cap : Nat) (ns : List Nd) (w : World) (hin : NodesIn w a len ns) (hsh : ShortT ns) (hlen : len ≤ 1048576) :
    Calls Tryd.prog 43 #[.slice a len cap] w fun e w' => e = .returned (.bool (treeB ns)) ∧ Below w.heap.size w w' := by
  obtain rfl : ns.length = len := hin.1
  have HC : Hid (_) := fun W (h : NodesIn W a ns.length ns) => specEndOf a ns.length cap ns 0 W h hsh hlen
  have HI : Hid (NodesIn w a ns.length ns) := hin
  clear hin hsh
  by_cases h : 1 ≤ (ns.length : Int) ∧ (ns.length : Int) ≤ 60
  · have HB : Hid (inB (ns.length : Int) 1 60 = true) := inB_yes _ _ _ h.1 h.2
    have HT : Hid (treeB ns = (endV ns 0 == (ns.length : Int))) := by
      exact (by unfold treeB; rw [Bool.eq_iff_iff, decide_eq_true_iff, beq_iff_eq]; constructor; exact fun x => x.2; exact fun x => ⟨by omega, x⟩ : treeB ns = (endV ns 0 == (ns.length : Int)))
    go_enter Tryd.func43, Tryd.ntmps43
    go_wp2_with fail
    refine (specIn _ _ _ _).mono ?_
    rintro e w1 ⟨rfl, rfl⟩
    rw [HB.out]
    go_wp2_with fail
    refine Calls.mono (HC.out _ HI.out) ?_
    rintro e w2 ⟨rfl, hb2⟩
    go_wp2
    go_ret
    exact ⟨by rw [HT.out]; rfl, hb2⟩
  · have HB : Hid (inB (ns.length : Int) 1 60 = false) := inB_no _ _ _ (by omega)
    have HT : Hid (treeB ns = false) := by exact (decide_eq_false (fun x => h (by omega)) : treeB ns = false)
    go_enter Tryd.func43, Tryd.ntmps43
    go_wp2_with fail
    refine (specIn _ _ _ _).mono ?_
    rintro e w1 ⟨rfl, rfl⟩
    rw [HB.out]
    go_wp2
    go_ret
    exact ⟨by rw [HT.out]; rfl, Below.refl _ _⟩

theorem intL_short (a : Int) (h0 : -2147483648 ≤ a) (h1 : a ≤ 2147483647) : (intL a).length ≤ 11 := by
  have h := digL_len 9 a.natAbs (by omega)
  unfold intL
  split
  · simp; omega
  · omega

set_option maxHeartbeats 2000000 in
set_option maxRecDepth 100000 in
theorem specShow (n : Nd) (w : World) (hn : nodeB n = true) :
    Calls Tryd.prog 44 #[nodeVal n] w fun e w' => e = .returned (.string ⟨(showN n).toArray⟩) ∧ Below w.heap.size w w' := by
  obtain ⟨k, a, p, f⟩ := n
  have hcat := cat_list
  unfold nodeVal
  simp only
  have hp := nodeB_iff.1 hn
  unfold nodeP at hp
  simp only at hp
  rcases hp with ⟨rfl, ⟨h0, h1⟩, rfl, rfl⟩ | ⟨rfl, ⟨h0, h1⟩, rfl, rfl⟩ | ⟨hk, rfl, rfl, rfl⟩ | ⟨rfl, ⟨h0, h1⟩, hpn, hfn⟩
  · have hs : showN (1, a, [], []) = intL a := by unfold showN; simp
    rw [hs]
    clear hs hn
    go_enter Tryd.func44, Tryd.ntmps44
    go_wp2_with fail
    refine (specInt a _ (by omega) (by omega)).mono ?_
    rintro e w1 ⟨rfl, hb1⟩
    go_wp2
    go_ret
    exact ⟨rfl, below_boxed hb1⟩
  · have hs : showN (2, a, [], []) = 36 :: intL a := by unfold showN; simp
    rw [hs]
    have hl := intL_short a (by omega) (by omega)
    clear hs hn
    go_enter Tryd.func44, Tryd.ntmps44
    go_wp2_with fail
    refine (specInt a _ (by omega) (by omega)).mono ?_
    rintro e w1 ⟨rfl, hb1⟩
    have hli : ((intL a).length : Int) ≤ 11 := by omega
    go_wp2
    go_ret
    exact ⟨rfl, below_boxed hb1⟩
  · rcases (show k = 3 ∨ k = 4 ∨ k = 5 ∨ k = 6 ∨ k = 7 by omega) with rfl | rfl | rfl | rfl | rfl
    all_goals
      clear hn
      go_enter Tryd.func44, Tryd.ntmps44
      go_wp2
      go_ret
      exact ⟨by unfold showN; simp, (Below.refl _ w).alloc (Nat.le_refl _) _⟩
  · have HS : Hid (showN (8, a, p, f) = (64 :: p) ++ [46] ++ f ++ [47] ++ intL a) := by exact (by unfold showN; simp : showN (8, a, p, f) = (64 :: p) ++ [46] ++ f ++ [47] ++ intL a)
    have hl := intL_short a (by omega) (by omega)
    have hpl := (name_letters hpn).1.2
    have hfl := (name_letters hfn).1.2
    have hli : ((intL a).length : Int) ≤ 11 := by omega
    have hpi : (p.length : Int) ≤ 8 := by omega
    have hfi : (f.length : Int) ≤ 8 := by omega
    have e1 : ∀ W : World, (Op.stringOp .add ⟨#[64]⟩ ⟨p.toArray⟩).run Tryd.prog W = .ok (.string ⟨(64 :: p).toArray⟩) W := fun W => by
      have := run_string_add_lists (P := Tryd.prog) W [64] p (by simp) (by omega)
      simpa using this
    have e2 : ∀ W : World, (Op.stringOp .add ⟨(64 :: p).toArray⟩ ⟨#[46]⟩).run Tryd.prog W = .ok (.string ⟨(64 :: (p ++ [46])).toArray⟩) W := fun W => by
      have := run_string_add_lists (P := Tryd.prog) W (64 :: p) [46] (by simp; omega) (by simp)
      simpa using this
    have e3 : ∀ W : World, (Op.stringOp .add ⟨(64 :: (p ++ [46])).toArray⟩ ⟨f.toArray⟩).run Tryd.prog W = .ok (.string ⟨(64 :: (p ++ 46 :: f)).toArray⟩) W := fun W => by
      have := run_string_add_lists (P := Tryd.prog) W (64 :: (p ++ [46])) f (by simp; omega) (by omega)
      simpa using this
    have e4 : ∀ W : World, (Op.stringOp .add ⟨(64 :: (p ++ 46 :: f)).toArray⟩ ⟨#[47]⟩).run Tryd.prog W = .ok (.string ⟨(64 :: (p ++ 46 :: (f ++ [47]))).toArray⟩) W := fun W => by
      have := run_string_add_lists (P := Tryd.prog) W (64 :: (p ++ 46 :: f)) [47] (by simp; omega) (by simp)
      simpa using this
    have e5 : ∀ W : World, (Op.stringOp .add ⟨(64 :: (p ++ 46 :: (f ++ [47]))).toArray⟩ ⟨(intL a).toArray⟩).run Tryd.prog W = .ok (.string ⟨(64 :: (p ++ 46 :: (f ++ 47 :: intL a))).toArray⟩) W := fun W => by
      have := run_string_add_lists (P := Tryd.prog) W (64 :: (p ++ 46 :: (f ++ [47]))) (intL a) (by simp; omega) (by omega)
      simpa using this
    clear hn hpn hfn hcat
    go_enter Tryd.func44, Tryd.ntmps44
    go_wp2
    go_region_held3 (fun w' => w'.cell? ⟨w.heap.size, 1, none⟩ = some (.int .i64 a) ∧ w'.cell? ⟨w.heap.size, 2, none⟩ = some (.string ⟨p.toArray⟩) ∧ w'.cell? ⟨w.heap.size, 3, none⟩ = some (.string ⟨f.toArray⟩)) (go_keep) (first | (go_at_call 29; refine (specInt a _ (by omega) (by omega)).mono ?_; rintro e w1 ⟨rfl, hb1⟩; have hc1 : w1.cell? ⟨w.heap.size, 1, none⟩ = some (.int .i64 a) := (hb1.cell (p := ⟨w.heap.size, 1, none⟩) (by simp)).trans (by simp); have hc2 : w1.cell? ⟨w.heap.size, 2, none⟩ = some (.string ⟨p.toArray⟩) := (hb1.cell (p := ⟨w.heap.size, 2, none⟩) (by simp)).trans (by simp); have hc3 : w1.cell? ⟨w.heap.size, 3, none⟩ = some (.string ⟨f.toArray⟩) := (hb1.cell (p := ⟨w.heap.size, 3, none⟩) (by simp)).trans (by simp)))
    all_goals
      go_wp2
      go_ret
      exact ⟨ret_strl (by rw [HS.out]; simp), below_boxd hb1⟩

theorem show_len (n : Nd) (h : nodeB n = true) : (showN n).length ≤ 30 := by
  obtain ⟨k, a, p, f⟩ := n
  have hp := nodeB_iff.1 h
  unfold nodeP at hp
  simp only at hp
  rcases hp with ⟨rfl, ⟨h0, h1⟩, rfl, rfl⟩ | ⟨rfl, ⟨h0, h1⟩, rfl, rfl⟩ | ⟨hk, rfl, rfl, rfl⟩ | ⟨rfl, ⟨h0, h1⟩, hpn, hfn⟩
  · have hs : showN (1, a, [], []) = intL a := by unfold showN; simp
    rw [hs]; have := intL_short a h0 h1; omega
  · have hs : showN (2, a, [], []) = 36 :: intL a := by unfold showN; simp
    rw [hs]; have := intL_short a (by omega) (by omega); simp; omega
  · rcases (show k = 3 ∨ k = 4 ∨ k = 5 ∨ k = 6 ∨ k = 7 by omega) with rfl | rfl | rfl | rfl | rfl <;> (unfold showN; simp)
  · have hs : showN (8, a, p, f) = (64 :: p) ++ [46] ++ f ++ [47] ++ intL a := by unfold showN; simp
    rw [hs]
    have := intL_short a (by omega) (by omega)
    have := (name_letters hpn).1
    have := (name_letters hfn).1
    simp; omega

theorem joinBy_len (ws : List (List UInt8)) (m : Nat) (h : ∀ x ∈ ws, x.length ≤ m) : (joinBy 32 ws).length ≤ ws.length * (m + 1) := by
  induction ws with
  | nil => simp [joinBy]
  | cons x r ih =>
    have hx := h x (by simp)
    have ir := ih (fun y hy => h y (by simp [hy]))
    rw [List.length_cons, Nat.add_mul, Nat.one_mul]
    by_cases hr : r = []
    · subst hr; simp [joinBy]; omega
    · rw [joinBy_cons 32 x r hr]; simp only [List.length_append, List.length_singleton]; omega

theorem showL_len (ns : List Nd) (h : ∀ n ∈ ns, nodeB n = true) : (showL ns).length ≤ ns.length * 31 := by
  have := joinBy_len (ns.map showN) 30 (by intro x hx; obtain ⟨n, hn, rfl⟩ := List.mem_map.1 hx; exact show_len n (h n hn))
  rw [List.length_map] at this
  exact this

theorem showL_step (ns : List Nd) (k : Nat) (hk : k < ns.length) : showL (ns.take (k + 1)) = if k = 0 then showN (ns.getD k nd0) else showL (ns.take k) ++ [32] ++ showN (ns.getD k nd0) := by
  unfold showL
  have h := joinBy_step 32 (ns.map showN) k (by simpa using hk)
  rw [← List.map_take, ← List.map_take] at h
  have hg : (ns.map showN).getD k [] = showN (ns.getD k nd0) := by simp [List.getD, hk]
  rw [hg] at h
  exact h

theorem showL_take (ns : List Nd) (k : Nat) : (showL (ns.take k)).length ≤ (showL ns).length := by
  unfold showL
  have := joinBy_take 32 (ns.map showN) k
  rw [← List.map_take] at this
  exact this

set_option maxHeartbeats 2000000 in
set_option maxRecDepth 100000 in
theorem specShowL (a : Option Addr) (len cap : Nat) (ns : List Nd) (w : World) (hin : NodesIn w a len ns) (hn : ∀ n ∈ ns, nodeB n = true) (hlen : len ≤ 60) :
    Calls Tryd.prog 30 #[.slice a len cap] w fun e w' => e = .returned (.string ⟨(showL ns).toArray⟩) ∧ Below w.heap.size w w' := by
  obtain rfl : ns.length = len := hin.1
  obtain ⟨i0, hi, hz0, hz1, hz2⟩ := info_parts info5
  have HI : Hid (NodesIn w a ns.length ns) := hin
  have HNs : Hid (∀ n ∈ ns, nodeB n = true) := hn
  have HLen : Hid ((showL ns).length ≤ ns.length * 31) := showL_len ns hn
  clear hin hn
  have hown0 : (w.alloc (.cells #[] 5)).ownsRow w.heap.size 5 1 (.slice (some ⟨w.heap.size, 0, none⟩) 0 0) ([] : List UInt8).length (bytesV []) := (World.ownsRow_lit (base := w.heap.size) (e := 5) (size := 1) w #[] 0 (Nat.le_refl _) (by decide) rfl)
  go_enter Tryd.func30, Tryd.ntmps30
  go_wp2
  go_loopw [3, 4] (fun v i wr => ∃ k : Nat, k ≤ ns.length ∧ i = .int .i64 k ∧ wr.ownsRow w.heap.size 5 1 v (showL (ns.take k)).length (bytesV (showL (ns.take k))) ∧ Below w.heap.size w wr) (fun _ i _ => ns.length - (intOf i).toNat)
  case atStart => exact ⟨0, Nat.zero_le _, rfl, by simpa [showL, joinBy] using hown0, (Below.refl _ _).alloc (Nat.le_refl _) _⟩
  case round =>
    obtain ⟨k, hk, rfl, hown, hb⟩ := hrel
    clear hown0
    by_cases hkl : (k : Int) < (ns.length : Int)
    · have hk2 : k < ns.length := by omega
      have hst := showL_step ns k hk2
      have hbd := showL_take ns (k + 1)
      have hll := HLen.out
      have hnk : nodeB (ns.getD k nd0) = true := by
        have hg : ns.getD k nd0 = ns[k] := by simp [List.getD, hk2]
        rw [hg]; exact HNs.out _ (List.getElem_mem hk2)
      have hsl := show_len _ hnk
      obtain ⟨n, hn⟩ : ∃ n, ns.getD k nd0 = n := ⟨_, rfl⟩
      rw [hn] at hst hnk hsl
      have HN : Hid (ns.getD k nd0 = n) := hn
      have HC : Hid (_) := fun W : World => specShow n W hnk
      obtain ⟨A, hA⟩ : ∃ A, showL (ns.take k) = A := ⟨_, rfl⟩
      rw [hA] at hst hown
      obtain ⟨S, hS⟩ : ∃ S, showN n = S := ⟨_, rfl⟩
      rw [hS] at hst hsl
      have HSS : Hid (showN n = S) := hS
      have hAl : A.length ≤ 1860 := by have := showL_take ns k; rw [hA] at this; omega
      have hA0 : k = 0 → A = [] := fun e => by rw [← hA, e]; rfl
      clear hn hA hS hbd hll
      by_cases hk0 : k = 0
      · subst hk0
        rw [if_pos rfl] at hst
        have HST : Hid (showL (ns.take (0 + 1)) = S) := hst
        obtain rfl : A = [] := hA0 rfl
        clear hA0
        clear hst
        obtain ⟨b, off, rfl, hbl, hcells⟩ := (HI.out.below hb).at (by omega)
        obtain ⟨c0, c1, c2, c3⟩ := hcells 0 (by omega)
        rw [HN.out] at c0 c1 c2 c3
        unfold nodeVal at HC
        obtain ⟨kd, aa, p, f⟩ := n
        simp only at c0 c1 c2 c3 HC
        simp only [Nat.zero_mul, Nat.add_zero] at c0 c1 c2 c3
        clear hcells
        go_wp2_with fail
        refine Calls.mono (HC.out _) ?_
        rintro e w4 ⟨rfl, hb4⟩
        rw [HSS.out]
        have hown4 := own_below hown hb4
        have hB4 := hb.trans (hb4.mono hb.size)
        have hbs4 := hB4.size
        have hts : (⟨S.toArray⟩ : ByteArray).size = S.length := List.size_toArray
        clear hb4 c0 c1 c2 c3 HC
        go_wp2_with (at_builtin; refine Lib.wpList_append_own_string _ rfl _ _ 58 9 rfl w.heap.size 5 i0 Tryd.underlying58 Tryd.underlying9 hi hz0 hz1 hz2 _ _ _ rfl hown4 ⟨S.toArray⟩ rfl (by rw [hts]; unfold maxLen; simp; omega) (by rw [hts]; simp; omega) hbs4 ?_; intro v' w5 hown5 hgrow5 _)
        rw [strCells_list, hts] at hown5
        have hown6 : w5.ownsRow w.heap.size 5 1 v' (showL (ns.take (0 + 1))).length (bytesV (showL (ns.take (0 + 1)))) := by
          rw [HST.out]
          have h5 := hown5
          simp only [List.length_nil, Nat.zero_add, show bytesV [] = [] from rfl, List.nil_append] at h5
          exact h5
        have hb6 : Below w.heap.size w w5 := hB4.grown hgrow5 hB4.size (fun q e => (hown4.lt q e).1)
        clear hown5 hgrow5 hown4 hB4
        go_wp2
        go_roundw
        case rel => exact ⟨0 + 1, by omega, by go_num, hown6, hb6⟩
        case measure => simp [intOf]; omega
      · rw [if_neg hk0] at hst
        have HST : Hid (showL (ns.take (k + 1)) = A ++ [32] ++ S) := hst
        have hk1 : 0 < (k : Int) := by omega
        clear hst hk0 hA0
        go_wp2_with (at_builtin; refine wpList_append_own _ rfl _ _ 58 rfl w.heap.size 5 i0 (.int .u8 0) 1 1 Tryd.underlying58 hi hz0 hz1 hz2 rfl (by decide) _ _ _ rfl (hown.alloc _) ⟨wr.heap.size, 0, none⟩ 1 1 [.int .u8 32] rfl rfl ?c1 ?c2 ?c3 ?c4 ?c5 ?_)
        first | (case c1 => exact cell_one_new _ _ _) | skip
        first | (case c2 => first | rfl | (intro u hu; simp at hu; subst hu; rfl)) | skip
        first | (case c3 => unfold maxLen; omega) | skip
        first | (case c4 => omega) | skip
        first | (case c5 => have := hb.size; simp; try omega) | skip
        intro v3 w3 hown3' hgrow3 hnil3
        have hown3 : w3.ownsRow w.heap.size 5 1 v3 (A ++ [32]).length (bytesV (A ++ [32])) := by
          rw [List.length_append, List.length_singleton]
          have hbv : bytesV (A ++ [32]) = bytesV A ++ [.int .u8 32] := by simp [bytesV]
          rw [hbv]; exact hown3'
        have hb3 : Below w.heap.size w w3 := (hb.alloc hb.size _).grown hgrow3 (by have := hb.size; simp; omega) (fun q e => (hown.lt q e).1)
        clear hown3' hgrow3 hnil3 hown hb
        obtain ⟨b, off, rfl, hbl, hcells⟩ := (HI.out.below hb3).at (by omega)
        obtain ⟨c0, c1, c2, c3⟩ := hcells k (by omega)
        rw [HN.out] at c0 c1 c2 c3
        unfold nodeVal at HC
        obtain ⟨kd, aa, p, f⟩ := n
        simp only at c0 c1 c2 c3 HC
        clear hcells
        go_wp2_with fail
        refine Calls.mono (HC.out _) ?_
        rintro e w4 ⟨rfl, hb4⟩
        rw [HSS.out]
        have hown4 := own_below hown3 hb4
        have hB4 := hb3.trans (hb4.mono hb3.size)
        have hbs4 := hB4.size
        have hts : (⟨S.toArray⟩ : ByteArray).size = S.length := List.size_toArray
        clear hb4 c0 c1 c2 c3 HC
        go_wp2_with (at_builtin; refine Lib.wpList_append_own_string _ rfl _ _ 58 9 rfl w.heap.size 5 i0 Tryd.underlying58 Tryd.underlying9 hi hz0 hz1 hz2 _ _ _ rfl hown4 ⟨S.toArray⟩ rfl (by rw [hts]; unfold maxLen; rw [List.length_append, List.length_singleton]; omega) (by rw [hts]; rw [List.length_append, List.length_singleton]; omega) hbs4 ?_; intro v' w5 hown5 hgrow5 _)
        rw [strCells_list, hts] at hown5
        have hown6 : w5.ownsRow w.heap.size 5 1 v' (showL (ns.take (k + 1))).length (bytesV (showL (ns.take (k + 1)))) := by
          rw [HST.out, List.length_append]
          have hbv : bytesV (A ++ [32] ++ S) = bytesV (A ++ [32]) ++ bytesV S := by simp [bytesV]
          rw [hbv]; exact hown5
        have hb6 : Below w.heap.size w w5 := hB4.grown hgrow5 hB4.size (fun q e => (hown4.lt q e).1)
        clear hown5 hgrow5 hown4 hB4
        go_wp2
        go_roundw
        case rel => exact ⟨k + 1, by omega, by go_num, hown6, hb6⟩
        case measure => simp [intOf]; omega
    · have hd : ns.take k = ns := List.take_of_length_le (by omega)
      rw [hd] at hown
      clear hd
      have hbk := back_own _ _ _ _ hown
      go_wp2
      go_ret
      exact ⟨rfl, hb⟩


end Go.Proofs.YtiekcenknniniaaDoor

/-! The contracts of chapter 7's specification: l1Rise, l7Imports, l7Func. -/
namespace Go.Proofs.YtiekcenknniniaaDoor
open Go.RowKit

set_option maxHeartbeats 2000000 in
set_option maxRecDepth 100000 in
theorem specRise (a : Option Addr) (len cap : Nat) (ts : List (List UInt8)) (w : World) (hin : TextsIn w a len ts) (hlen : len ≤ 1048576) :
    Calls Tryd.prog 42 #[.slice a len cap] w fun e w' => e = .returned (.bool (riseB ts)) ∧ Below w.heap.size w w' := by
  obtain rfl : ts.length = len := hin.1
  have HI : Hid (TextsIn w a ts.length ts) := hin
  clear hin
  go_enter Tryd.func42, Tryd.ntmps42
  go_wp2
  go_loopw [3] (fun iv wr => ∃ j : Nat, iv = .int .i64 ((j : Int) + 1) ∧ j ≤ ts.length ∧ Hid (∀ i, i < j → leT (ts.getD (i + 1) []) (ts.getD i []) = false) ∧ Hid (TextsIn wr a ts.length ts) ∧ Hid (Below w.heap.size w wr)) (fun iv _ => ts.length + 1 - (intOf iv).toNat)
  case atStart => exact ⟨0, rfl, by omega, (fun i hi => by omega), HI, Below.refl _ _⟩
  case round =>
    obtain ⟨j, rfl, hj, HA, HT, HB⟩ := hrel
    clear HI
    by_cases hlt : (j : Int) + 1 < (ts.length : Int)
    · obtain ⟨b, off, rfl, hbl, c0⟩ := HT.out.2 j (by omega)
      obtain ⟨b', off', he, _, c1⟩ := HT.out.2 (j + 1) (by omega)
      simp only [Option.some.injEq, Addr.mk.injEq, and_true] at he
      obtain ⟨rfl, rfl⟩ := he
      obtain ⟨x, hx⟩ : ∃ x, ts.getD j [] = x := ⟨_, rfl⟩
      obtain ⟨y, hy⟩ : ∃ y, ts.getD (j + 1) [] = y := ⟨_, rfl⟩
      rw [hx] at c0
      rw [hy] at c1
      rcases hle : leT y x with _ | _
      · have HA2 : Hid (∀ i, i < j + 1 → leT (ts.getD (i + 1) []) (ts.getD i []) = false) := fun i hi => by
          rcases Nat.lt_or_ge i j with h | h
          · exact HA.out i h
          · obtain rfl : i = j := by omega
            rw [hx, hy]; exact hle
        have HT2 : Hid (TextsIn wr (some ⟨b, off, none⟩) ts.length ts) := HT.out
        unfold leT at hle
        clear HA HT hx hy
        go_wp2_with fail
        go_quiet (fail)
        go_wp2
        go_roundw
        case rel => exact ⟨j + 1, by go_num, by omega, HA2, HT2, HB.out.trans ⟨rfl, rfl, rfl, Nat.le_refl _, fun _ _ => rfl⟩⟩
        case measure => simp [intOf]; omega
      · have HR : Hid (riseB ts = false) := riseB_no (j := j) (by omega) (by rw [hx, hy]; exact hle)
        unfold leT at hle
        clear HA HT hx hy
        go_wp2_with fail
        go_quiet (fail)
        go_wp2
        go_ret
        exact ⟨by rw [HR.out]; rfl, HB.out.trans ⟨rfl, rfl, rfl, Nat.le_refl _, fun _ _ => rfl⟩⟩
    · have HR : Hid (riseB ts = true) := riseB_yes (j := j) (by omega) HA.out
      go_wp2
      go_ret
      exact ⟨by rw [HR.out]; rfl, HB.out⟩

set_option maxHeartbeats 2000000 in
set_option maxRecDepth 100000 in
theorem specImports (a : Option Addr) (len cap : Nat) (ts : List (List UInt8)) (w : World) (hin : TextsIn w a len ts) (hlen : len ≤ 1048576) (hs : ∀ i, (ts.getD i []).length ≤ 1048576) :
    Calls Tryd.prog 25 #[.slice a len cap] w fun e w' => e = .returned (.bool (importsB ts)) ∧ Below w.heap.size w w' := by
  obtain rfl : ts.length = len := hin.1
  have HI : Hid (TextsIn w a ts.length ts) := hin
  have HS : Hid (∀ i, (ts.getD i []).length ≤ 1048576) := hs
  clear hin hs
  go_enter Tryd.func25, Tryd.ntmps25
  go_wp2
  go_loopw [3] (fun iv wr => ∃ j : Nat, iv = .int .i64 (j : Int) ∧ j ≤ ts.length ∧ Hid (∀ i, i < j → nameB (ts.getD i []) = true) ∧ Hid (TextsIn wr a ts.length ts) ∧ Hid (Below w.heap.size w wr)) (fun iv _ => ts.length - (intOf iv).toNat)
  case atStart => exact ⟨0, rfl, by omega, (fun i hi => by omega), HI, Below.refl _ _⟩
  case round =>
    obtain ⟨j, rfl, hj, HA, HT, HB⟩ := hrel
    clear HI
    by_cases hlt : (j : Int) < (ts.length : Int)
    · obtain ⟨b, off, rfl, hbl, c0⟩ := HT.out.2 j (by omega)
      have hxl := HS.out j
      obtain ⟨x, hx⟩ : ∃ x, ts.getD j [] = x := ⟨_, rfl⟩
      rw [hx] at c0 hxl
      have hC : Hid (_) := specNameOk x wr hxl
      rcases hnb : nameB x with _ | _
      · have HR : Hid (importsB ts = false) := importsB_no (j := j) (by omega) (by rw [hx]; exact hnb)
        rw [hnb] at hC
        clear HA HT hx hnb
        go_wp2_with (go_at_call 24; refine Calls.mono hC.out ?_; rintro e w1 ⟨rfl, rfl⟩)
        go_ret
        exact ⟨by rw [HR.out]; rfl, HB.out⟩
      · have HA2 : Hid (∀ i, i < j + 1 → nameB (ts.getD i []) = true) := fun i hi => by
          rcases Nat.lt_or_ge i j with h | h
          · exact HA.out i h
          · obtain rfl : i = j := by omega
            rw [hx]; exact hnb
        rw [hnb] at hC
        clear HA hx hnb
        go_wp2_with (go_at_call 24; refine Calls.mono hC.out ?_; rintro e w1 ⟨rfl, rfl⟩)
        go_roundw
        case rel => exact ⟨j + 1, by go_num, by omega, HA2, HT, HB⟩
        case measure => simp [intOf]; omega
    · have hall := importsB_all (l := ts) (fun i hi => HA.out i (by omega))
      by_cases h6 : (ts.length : Int) ≤ 6
      · have HR : Hid (importsB ts = riseB ts) := by
          exact (by rw [hall, decide_eq_true (show ts.length ≤ 6 by omega)]; rfl : importsB ts = riseB ts)
        have hC : Hid (_) := specRise a ts.length cap ts wr HT.out hlen
        clear hall HA HT
        go_wp2_with (go_at_call 42; refine Calls.mono hC.out ?_; rintro e w1 ⟨rfl, hb1⟩)
        go_ret
        exact ⟨by rw [HR.out]; rfl, HB.out.trans (hb1.mono HB.out.size)⟩
      · have HR : Hid (importsB ts = false) := by
          exact (by rw [hall, decide_eq_false (show ¬ ts.length ≤ 6 by omega)]; rfl : importsB ts = false)
        clear hall HA HT
        go_wp2
        go_ret
        exact ⟨by rw [HR.out]; rfl, HB.out⟩

/-- A function, as a value. -/
def FnVal (f : Fn) (ta : Option Addr) (tl tc : Nat) : Value := .agg #[.string ⟨f.1.toArray⟩, .int .i64 f.2.1, .slice ta tl tc]

set_option maxHeartbeats 2000000 in
set_option maxRecDepth 100000 in
theorem specFuncOk (f : Fn) (ta : Option Addr) (tl tc : Nat) (w : World) (hin : NodesIn w ta tl f.2.2) (hsh : ShortT f.2.2) (hlen : tl ≤ 1048576) (hn : f.1.length ≤ 1048576) :
    Calls Tryd.prog 27 #[.agg #[.string ⟨f.1.toArray⟩, .int .i64 f.2.1, .slice ta tl tc]] w fun e w' => e = .returned (.bool (funcB f)) ∧ Below w.heap.size w w' := by
  obtain ⟨s, n, t⟩ := f
  simp only at hin hsh hn ⊢
  obtain ⟨W, hW⟩ : ∃ W, w.alloc (.cells #[.string ⟨s.toArray⟩, .int .i64 n, .slice ta tl tc] 42) = W := ⟨_, rfl⟩
  have hbW : Below w.heap.size w W := by rw [← hW]; exact (Below.refl _ _).alloc (Nat.le_refl _) _
  have hA : W.heap[w.heap.size]? = some (.cells #[.string ⟨s.toArray⟩, .int .i64 n, .slice ta tl tc] 42) := by rw [← hW]; exact heap_alloc_new w _
  have c0 : W.cell? ⟨w.heap.size, 0, none⟩ = some (.string ⟨s.toArray⟩) := by simp [World.cell?, hA]
  have c1 : W.cell? ⟨w.heap.size, 1, none⟩ = some (.int .i64 n) := by simp [World.cell?, hA]
  have c2 : W.cell? ⟨w.heap.size, 2, none⟩ = some (.slice ta tl tc) := by simp [World.cell?, hA]
  have hC1 : Hid (_) := specNameOk s W hn
  have hC2 : Hid (_) := specIn n 0 3 W
  have hC3 : Hid (_) := specTreeOk ta tl tc t W (hin.below hbW) hsh hlen
  have HF : Hid (funcB (s, n, t) = (nameB s && (inB n 0 3 && treeB t))) := rfl
  generalize nameB s = nb at hC1 HF
  generalize inB n 0 3 = ib at hC2 HF
  generalize treeB t = tb at hC3 HF
  clear hin hsh hA
  go_enter Tryd.func27, Tryd.ntmps27
  rcases nb with _ | _
  · go_wp2_with (go_at_call 24; refine Calls.mono hC1.out ?_; rintro e w1 ⟨rfl, rfl⟩)
    go_ret
    exact ⟨by rw [HF.out]; rfl, hbW⟩
  · rcases ib with _ | _
    · go_wp2_with (first | (go_at_call 24; refine Calls.mono hC1.out ?_; rintro e w1 ⟨rfl, rfl⟩) | (go_at_call 26; refine Calls.mono hC2.out ?_; rintro e w1 ⟨rfl, rfl⟩))
      go_ret
      exact ⟨by rw [HF.out]; rfl, hbW⟩
    · go_wp2_with (first | (go_at_call 24; refine Calls.mono hC1.out ?_; rintro e w1 ⟨rfl, rfl⟩) | (go_at_call 26; refine Calls.mono hC2.out ?_; rintro e w1 ⟨rfl, rfl⟩) | (go_at_call 43; refine Calls.mono hC3.out ?_; rintro e w2 ⟨rfl, hb2⟩))
      go_ret
      exact ⟨by rw [HF.out]; rfl, hbW.trans (hb2.mono hbW.size)⟩

end Go.Proofs.YtiekcenknniniaaDoor

/-! The contracts of chapter 7's specification: l7At, PackageOk. -/
namespace Go.Proofs.YtiekcenknniniaaDoor
open Go.RowKit

/-- The functions fs lie at a, three cells each, their trees where those say. -/
def FuncsIn (w : World) (a : Option Addr) (len : Nat) (fs : List Fn) : Prop :=
  fs.length = len ∧ ∀ j, j < len → ∃ b off, a = some ⟨b, off, none⟩ ∧ b < w.heap.size ∧ w.cell? ⟨b, off + j * 3, none⟩ = some (.string ⟨(fs.getD j fn0).1.toArray⟩) ∧ w.cell? ⟨b, off + j * 3 + 1, none⟩ = some (.int .i64 (fs.getD j fn0).2.1) ∧
    ∃ ta tl tc, w.cell? ⟨b, off + j * 3 + 2, none⟩ = some (.slice ta tl tc) ∧ (ta = none → tc = 0) ∧ NodesIn w ta tl (fs.getD j fn0).2.2

theorem FuncsIn.below {w w' : World} {a : Option Addr} {len : Nat} {fs : List Fn} (h : FuncsIn w a len fs) (hb : Below w.heap.size w w') : FuncsIn w' a len fs := by
  refine ⟨h.1, fun j hj => ?_⟩
  obtain ⟨b, off, e, hlt, c0, c1, ta, tl, tc, c2, hnc, hn⟩ := h.2 j hj
  exact ⟨b, off, e, Nat.lt_of_lt_of_le hlt hb.size, (hb.cell (p := ⟨b, off + j * 3, none⟩) hlt).trans c0, (hb.cell (p := ⟨b, off + j * 3 + 1, none⟩) hlt).trans c1, ta, tl, tc, (hb.cell (p := ⟨b, off + j * 3 + 2, none⟩) hlt).trans c2, hnc, hn.below hb⟩

/-- No name, no tree is longer than a law lets them be. -/
def ShortF (fs : List Fn) : Prop := ∀ j, (fs.getD j fn0).1.length ≤ 1048576 ∧ (fs.getD j fn0).2.2.length ≤ 1048576 ∧ ShortT (fs.getD j fn0).2.2

set_option maxHeartbeats 2000000 in
set_option maxRecDepth 100000 in
theorem specAt (nm s : List UInt8) (ia : Option Addr) (il ic : Nat) (fa : Option Addr) (fl fc : Nat) (fs : List Fn) (w : World) (hin : FuncsIn w fa fl fs) (hlen : fl ≤ 1048576) :
    Calls Tryd.prog 28 #[.agg #[.string ⟨nm.toArray⟩, .slice ia il ic, .slice fa fl fc], .string ⟨s.toArray⟩] w fun e w' => e = .returned (.int .i64 (atV fs s)) ∧ Below w.heap.size w w' := by
  obtain rfl : fs.length = fl := hin.1
  obtain ⟨W, hW⟩ : ∃ W, w.alloc (.cells #[.string ⟨nm.toArray⟩, .slice ia il ic, .slice fa fs.length fc] 30) = W := ⟨_, rfl⟩
  have hbW : Below w.heap.size w W := by rw [← hW]; exact (Below.refl _ _).alloc (Nat.le_refl _) _
  have hA : W.heap[w.heap.size]? = some (.cells #[.string ⟨nm.toArray⟩, .slice ia il ic, .slice fa fs.length fc] 30) := by rw [← hW]; exact heap_alloc_new w _
  have k2 : W.cell? ⟨w.heap.size, 2, none⟩ = some (.slice fa fs.length fc) := by simp [World.cell?, hA]
  have HI : Hid (FuncsIn W fa fs.length fs) := hin.below hbW
  clear hin hA
  go_enter Tryd.func28, Tryd.ntmps28
  go_wp2
  go_loopw [5] (fun iv wr => ∃ j : Nat, iv = .int .i64 (j : Int) ∧ j ≤ fs.length ∧ Hid (atV fs s = atGo s (fs.drop j) j) ∧ wr = W) (fun iv _ => fs.length - (intOf iv).toNat)
  case atStart => exact ⟨0, rfl, by omega, (rfl : atV fs s = atGo s (fs.drop 0) 0), rfl⟩
  case round =>
    obtain ⟨j, rfl, hj, HA, rfl⟩ := hrel
    by_cases hlt : (j : Int) < (fs.length : Int)
    · obtain ⟨b, off, rfl, hbl, c0, _⟩ := HI.out.2 j (by omega)
      have hg := atGo_drop (fs := fs) (k := j) (by omega) s
      obtain ⟨x, hx⟩ : ∃ x, (fs.getD j fn0).1 = x := ⟨_, rfl⟩
      rw [hx] at c0 hg
      by_cases hxs : x = s
      · subst hxs
        have HR : Hid (atV fs x = (j : Int)) := by exact (by rw [HA.out, hg, if_pos rfl] : atV fs x = (j : Int))
        have hself : (x == x) = true := by simp
        clear HA hg hx
        go_wp2
        go_ret
        exact ⟨by rw [HR.out]; rfl, hbW⟩
      · have HR : Hid (atV fs s = atGo s (fs.drop (j + 1)) (j + 1)) := by exact (by rw [HA.out, hg, if_neg hxs] : atV fs s = atGo s (fs.drop (j + 1)) (j + 1))
        have hne : (x == s) = false := by rw [beq_eq_false_iff_ne]; exact hxs
        clear HA hg hx
        go_wp2
        go_roundw
        case rel => exact ⟨j + 1, by go_num, by omega, HR, trivial⟩
        case measure => simp [intOf]; omega
    · have HR : Hid (atV fs s = -1) := by exact (by rw [HA.out, List.drop_of_length_le (by omega)]; rfl : atV fs s = -1)
      go_wp2
      go_ret
      exact ⟨by rw [HR.out]; rfl, hbW⟩

end Go.Proofs.YtiekcenknniniaaDoor
