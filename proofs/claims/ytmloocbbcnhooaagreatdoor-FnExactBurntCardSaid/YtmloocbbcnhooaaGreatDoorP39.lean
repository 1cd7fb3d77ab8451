/-
  Parts of one proof, one behind the other: ValO, ValP, LaidE, LaidE8, MeanS8.
-/
import Derived.Test.YtmloocbbcnhooaaGreatDoorP38
import Derived.Defers
import Derived.Recover
import Derived.BigQuiet
import Derived.Test.YtmloocbbcnhooaaGreatDoorP27
import Derived.LaidLaws
import Derived.Stop.LaidErr
import Derived.Test.YtmloocbbcnhooaaGreatDoorP28
import Derived.LaidHandle

/-! The contracts of chapter 10's landed code: giving up is made a code at the face. -/
namespace Go.Proofs.YtmloocbbcnhooaaGreatDoor
open Go.RowKit

theorem as_gu (v : Value) (w : World) : (Instr.typeAssert (.iface 82 v) 20 82 true).run Tryz.prog w = .ok (.tuple #[v, .bool true]) w := by kernel_rfl
theorem as_no (w : World) : (Instr.typeAssert .nilIface 20 82 true).run Tryz.prog w = .ok (.tuple #[.int .i64 0, .bool false]) w := by kernel_rfl
theorem frame_d (T F0 A : Nat) : (#[.pointer (some ⟨T, 0, none⟩), .pointer (some ⟨F0, 0, none⟩), .pointer (some ⟨A, 0, none⟩)] : Array Value) ++ Array.replicate (Tryz.f43.ntmps - (#[.pointer (some ⟨T, 0, none⟩), .pointer (some ⟨F0, 0, none⟩), .pointer (some ⟨A, 0, none⟩)] : Array Value).size) undef = #[.pointer (some ⟨T, 0, none⟩), .pointer (some ⟨F0, 0, none⟩), .pointer (some ⟨A, 0, none⟩), undef, undef, undef, undef, undef, undef, undef, undef, undef, undef, undef, undef, undef, undef, undef] := by
  rw [Tryz.ntmps43]
  rfl
set_option maxHeartbeats 400000 in
set_option maxRecDepth 100000 in
theorem catchP (T F0 A : Nat) (c fuel left : Int) (v0 v1 v2 : Value) (w : World) (hT : Bk w T v0 v1 v2) (hF : w.cell? ⟨F0, 0, none⟩ = some (.int .i64 fuel)) (hA : w.cell? ⟨A, 1, none⟩ = some (.int .i64 left)) (hTF : T ≠ F0) (hTA : T ≠ A) (hlo : -9223372036854775808 ≤ fuel - left) (hhi : fuel - left ≤ 9223372036854775807) :
    CallsD Tryz.prog 43 #[.pointer (some ⟨T, 0, none⟩), .pointer (some ⟨F0, 0, none⟩), .pointer (some ⟨A, 0, none⟩)] (.panicking [{ v := .iface 82 (.int .i64 c), recovered := false }]) w fun e u' w' =>
      e = .returned (.tuple #[]) ∧ u' = .panicking [{ v := .iface 82 (.int .i64 c), recovered := true }] ∧ Bk w' T v0 (.int .i64 c) (.int .i64 (fuel - left)) ∧ Wr w w' T := by
  refine callsD_of_wpS Tryz.func43 rfl fun c₀ cs hu => ?_
  rw [frame_d]
  refine wpS_seq (wpS_seq (wpS_region ?_))
  simp [wpOpsS, go_sem, recoverD, hu, as_gu, Exit.thenS]
  have k1 := hT.box.c1
  have f1 := hT.fr 1
  have hT1 : Bk (w.setCell ⟨T, 1, none⟩ (.int .i64 c)) T v0 (.int .i64 c) v2 := hT.s1 _
  have hF1 : (w.setCell ⟨T, 1, none⟩ (.int .i64 c)).cell? ⟨F0, 0, none⟩ = some (.int .i64 fuel) := (World.cell?_setCell_far w ⟨T, 1, none⟩ ⟨F0, 0, none⟩ _ hTF).trans hF
  have hA1 : (w.setCell ⟨T, 1, none⟩ (.int .i64 c)).cell? ⟨A, 1, none⟩ = some (.int .i64 left) := (World.cell?_setCell_far w ⟨T, 1, none⟩ ⟨A, 1, none⟩ _ hTA).trans hA
  have hw1 : Wr w (w.setCell ⟨T, 1, none⟩ (.int .i64 c)) T := wr_set w T 1 _
  refine wpS_of_wp ?_
  go_wp2
  simp only [Exit.thenS]
  obtain ⟨W1, hW1⟩ : ∃ W1, w.setCell ⟨T, 1, none⟩ (.int .i64 c) = W1 := ⟨_, rfl⟩
  rw [hW1] at hT1 hF1 hA1 hw1 ⊢
  have k2 := hT1.box.c2
  have f2 := hT1.fr 2
  have HT2 : Hid (Bk (W1.setCell ⟨T, 2, none⟩ (.int .i64 (fuel - left))) T v0 (.int .i64 c) (.int .i64 (fuel - left))) := hT1.s2 _
  have HW2 : Hid (Wr w (W1.setCell ⟨T, 2, none⟩ (.int .i64 (fuel - left))) T) := hw1.trans (wr_set W1 T 2 _)
  clear hT hF hA hT1 hw1 hW1 k1 f1 hu
  refine wpS_of_wp ?_
  go_wp2
  exact ⟨rfl, _, rfl, .tuple #[], by simp [results, Tryz.results43, go_sem], rfl, rfl, HT2.out, HW2.out⟩

set_option maxHeartbeats 400000 in
set_option maxRecDepth 100000 in
theorem catchR (T F0 A : Nat) (fuel left : Int) (v0 v1 v2 : Value) (w : World) (hT : Bk w T v0 v1 v2) (hF : w.cell? ⟨F0, 0, none⟩ = some (.int .i64 fuel)) (hA : w.cell? ⟨A, 1, none⟩ = some (.int .i64 left)) (hlo : -9223372036854775808 ≤ fuel - left) (hhi : fuel - left ≤ 9223372036854775807) :
    CallsD Tryz.prog 43 #[.pointer (some ⟨T, 0, none⟩), .pointer (some ⟨F0, 0, none⟩), .pointer (some ⟨A, 0, none⟩)] .returning w fun e u' w' =>
      e = .returned (.tuple #[]) ∧ u' = .returning ∧ Bk w' T v0 v1 (.int .i64 (fuel - left)) ∧ Wr w w' T := by
  refine callsD_of_wpS Tryz.func43 rfl fun c₀ cs hu => ?_
  rw [frame_d]
  refine wpS_seq (wpS_seq (wpS_region ?_))
  simp [wpOpsS, go_sem, recoverD, hu, as_no, Exit.thenS]
  have k2 := hT.box.c2
  have f2 := hT.fr 2
  have HT2 : Hid (Bk (w.setCell ⟨T, 2, none⟩ (.int .i64 (fuel - left))) T v0 v1 (.int .i64 (fuel - left))) := hT.s2 _
  have HW2 : Hid (Wr w (w.setCell ⟨T, 2, none⟩ (.int .i64 (fuel - left))) T) := wr_set w T 2 _
  have HU : Hid (c₀.mode = .returning) := hu
  clear hT hu
  refine wpS_of_wp ?_
  go_wp2
  simp only [Exit.thenS]
  refine wpS_of_wp ?_
  go_wp2
  exact ⟨rfl, c₀.mode, by cases c₀; rfl, .tuple #[], by simp [results, Tryz.results43, go_sem], rfl, HU.out, HT2.out, HW2.out⟩

theorem leaves_end {P : Program} {fn : Func} {tmps : Array Value} {R : Ending → World → Prop} {u : FrameMode} {w : World} {v : Value} (hu : settle u = .returning) (hr : (results fn tmps).run P w = .ok v w) (h : R (.returned v) w) : Leaves P fn tmps R [] (settle u) w := by
  rw [hu]
  exact ⟨v, hr, h⟩
/-- What outcomeOf hands back. -/
def OutE (ps : List Pk) (nm fn : List UInt8) (xs : List Int) (fuel : Int) (e : Ending) : Prop :=
  (Ok10 ps nm fn xs fuel ∧ e = .returned (.agg #[.int .i64 (run10 ps nm fn xs fuel.toNat).1, .int .i64 (run10 ps nm fn xs fuel.toNat).2.2, .int .i64 (fuel - ((run10 ps nm fn xs fuel.toNat).2.1 : Int))])) ∨
  (¬ Ok10 ps nm fn xs fuel ∧ e = .returned (.agg #[.int .i64 0, .int .i64 3, .int .i64 0]))

set_option maxHeartbeats 4000000 in
set_option maxRecDepth 100000 in
theorem implOutcome (a : Option Addr) (len cap : Nat) (ps : List Pk) (nm fn : List UInt8) (aa : Option Addr) (ac : Nat) (xs : List Int) (fuel : Int) (er : Nat → Addr) (w : World) (hE : Err8 w er) (h : PkgsOk w a len cap ps) (hx : AsIn w aa xs) (hxl : xs.length ≤ 1048576) :
    Calls Tryz.prog 30 #[.slice a len cap, .string ⟨nm.toArray⟩, .string ⟨fn.toArray⟩, .slice aa xs.length ac, .int .i64 fuel] w fun e w' => OutE ps nm fn xs fuel e ∧ Below w.heap.size w w' := by
  obtain rfl : ps.length = len := h.hlen
  -- the blocks: the fuel, what is told, the asking
  have hb1 : Below w.heap.size w (w.alloc (.cells #[.int .i64 fuel] 2)) := (Below.refl _ _).alloc (Nat.le_refl _) _
  have hF1 : (w.alloc (.cells #[.int .i64 fuel] 2)).cell? ⟨w.heap.size, 0, none⟩ = some (.int .i64 fuel) := by
    have hA := heap_alloc_new w (.cells #[.int .i64 fuel] 2)
    generalize w.alloc (.cells #[.int .i64 fuel] 2) = W at hA ⊢
    simp [World.cell?, hA]
  obtain ⟨W1, hW1⟩ : ∃ W1, w.alloc (.cells #[.int .i64 fuel] 2) = W1 := ⟨_, rfl⟩
  rw [hW1] at hb1 hF1
  obtain ⟨F0, hF0⟩ : ∃ F0, w.heap.size = F0 := ⟨_, rfl⟩
  have hF0l : w.heap.size < W1.heap.size := World.block_lt_of_cell? W1 ⟨w.heap.size, 0, none⟩ hF1
  obtain ⟨bT, hb2⟩ := Bk.new W1 (.int .i64 0) (.int .i64 0) (.int .i64 0) 59
  obtain ⟨W2, hW2⟩ : ∃ W2, W1.alloc (.cells #[.int .i64 0, .int .i64 0, .int .i64 0] 59) = W2 := ⟨_, rfl⟩
  rw [hW2] at bT hb2
  have hb3 : Below W2.heap.size W2 (W2.alloc (.cells #[.slice a ps.length cap, .int .i64 fuel] 81)) := (Below.refl _ _).alloc (Nat.le_refl _) _
  have hA3 : ((W2.alloc (.cells #[.slice a ps.length cap, .int .i64 fuel] 81)).cell? ⟨W2.heap.size, 0, none⟩ = some (.slice a ps.length cap) ∧ (W2.alloc (.cells #[.slice a ps.length cap, .int .i64 fuel] 81)).cell? ⟨W2.heap.size, 1, none⟩ = some (.int .i64 fuel)) ∧ ∀ j, (W2.alloc (.cells #[.slice a ps.length cap, .int .i64 fuel] 81)).frozen? ⟨W2.heap.size, j, none⟩ = false := by
    refine ⟨?_, fun j => World.frozen?_alloc_at _ _ _ _ rfl⟩
    have hA := heap_alloc_new W2 (.cells #[.slice a ps.length cap, .int .i64 fuel] 81)
    generalize W2.alloc (.cells #[.slice a ps.length cap, .int .i64 fuel] 81) = W at hA ⊢
    exact ⟨by simp [World.cell?, hA], by simp [World.cell?, hA]⟩
  obtain ⟨W3, hW3⟩ : ∃ W3, W2.alloc (.cells #[.slice a ps.length cap, .int .i64 fuel] 81) = W3 := ⟨_, rfl⟩
  rw [hW3] at hb3 hA3
  have hTl : W1.heap.size < W2.heap.size := bT.box.lt
  have hF2 := (hb2.cell (p := ⟨w.heap.size, 0, none⟩) hF0l).trans hF1
  have hF3 := (hb3.cell (p := ⟨w.heap.size, 0, none⟩) (Nat.lt_trans hF0l hTl)).trans hF2
  have bT3 := bT.below hb3
  have hb13 : Below w.heap.size w W3 := (hb1.trans (hb2.mono hb1.size)).trans (hb3.mono (hb1.trans (hb2.mono hb1.size)).size)
  obtain ⟨T, hT⟩ : ∃ T, W1.heap.size = T := ⟨_, rfl⟩
  obtain ⟨A, hA⟩ : ∃ A, W2.heap.size = A := ⟨_, rfl⟩
  rw [hT] at bT3 hTl
  rw [hA] at hA3
  rw [hF0] at hF3 hF2
  have hTF : T ≠ F0 := by omega
  have hTA : T ≠ A := by omega
  have hAw : w.heap.size ≤ A := by omega
  have hFA : F0 ≠ A := by omega
  have k1 := bT3.box.c1
  have g1 := bT3.fr 1
  have bT4 := bT3.s1 (.int .i64 3)
  have hF4 : (W3.setCell ⟨T, 1, none⟩ (.int .i64 3)).cell? ⟨F0, 0, none⟩ = some (.int .i64 fuel) := (World.cell?_setCell_far W3 ⟨T, 1, none⟩ ⟨F0, 0, none⟩ _ hTF).trans hF3
  have hA40 : (W3.setCell ⟨T, 1, none⟩ (.int .i64 3)).cell? ⟨A, 0, none⟩ = some (.slice a ps.length cap) := (World.cell?_setCell_far W3 ⟨T, 1, none⟩ ⟨A, 0, none⟩ _ hTA).trans hA3.1.1
  have hA41 : (W3.setCell ⟨T, 1, none⟩ (.int .i64 3)).cell? ⟨A, 1, none⟩ = some (.int .i64 fuel) := (World.cell?_setCell_far W3 ⟨T, 1, none⟩ ⟨A, 1, none⟩ _ hTA).trans hA3.1.2
  have hA4f : ∀ j, (W3.setCell ⟨T, 1, none⟩ (.int .i64 3)).frozen? ⟨A, j, none⟩ = false := fun j => by simpa using hA3.2 j
  have hb4 : Below w.heap.size w (W3.setCell ⟨T, 1, none⟩ (.int .i64 3)) := wr_base hb13 (by omega) (wr_set W3 T 1 _)
  obtain ⟨W4, hW4⟩ : ∃ W4, W3.setCell ⟨T, 1, none⟩ (.int .i64 3) = W4 := ⟨_, rfl⟩
  rw [hW4] at bT4 hF4 hA40 hA41 hA4f hb4
  have hFl4 : F0 < W4.heap.size := World.block_lt_of_cell? W4 ⟨F0, 0, none⟩ hF4
  have hAl4 : A < W4.heap.size := World.block_lt_of_cell? W4 ⟨A, 0, none⟩ hA40
  have HY : Hid (∀ Y, Below W4.heap.size W4 Y → (Bk Y T (.int .i64 0) (.int .i64 3) (.int .i64 0) ∧ Y.cell? ⟨F0, 0, none⟩ = some (.int .i64 fuel)) ∧ (Y.cell? ⟨A, 0, none⟩ = some (.slice a ps.length cap) ∧ Y.cell? ⟨A, 1, none⟩ = some (.int .i64 fuel) ∧ ∀ j, Y.frozen? ⟨A, j, none⟩ = false) ∧ Below w.heap.size w Y) := fun Y hy => ⟨⟨bT4.below hy, (hy.cell (p := ⟨F0, 0, none⟩) hFl4).trans hF4⟩, ⟨(hy.cell (p := ⟨A, 0, none⟩) hAl4).trans hA40, (hy.cell (p := ⟨A, 1, none⟩) hAl4).trans hA41, fun j => (hy.frozen (p := ⟨A, j, none⟩) hAl4).trans (hA4f j)⟩, hb4.trans (hy.mono hb4.size)⟩
  have HAs : Hid (_) := implAsked w W4 A a cap ps nm fn aa ac xs fuel er hb4 h hE hA40 hA41 hx hxl
  have HT3 : Hid (∀ Y Y', Below w.heap.size w Y → Wr Y Y' T → Below w.heap.size w Y') := fun Y Y' hy hw => wr_base hy (by omega) hw
  have HA3 : Hid (∀ Y Y', Below w.heap.size w Y → Wr Y Y' A → Below w.heap.size w Y') := fun Y Y' hy hw => wr_base hy hAw hw
  have HFn : Hid (∀ (Y : World) (f : Nat) (Fn : List UInt8) (Fa : Int) (ta : Option Addr) (tc : Nat) (Ft : List Nd), Ok10 ps nm fn xs fuel → Ft = (fnOf10 ps nm fn).2.2 → NodesIn w ta Ft.length Ft ∧ IntT Ft ∧ ShortT Ft ∧ Ft.length ≤ 1048576 → fuel = (f : Int) → Below w.heap.size w Y → Ak Y A (.slice a ps.length cap) f → Calls Tryz.prog 44 #[.pointer (some ⟨A, 0, none⟩), .agg #[.string ⟨Fn.toArray⟩, .int .i64 Fa, .slice ta Ft.length tc], .slice aa xs.length ac] Y (PostF Y A (.slice a ps.length cap) (run10 ps nm fn xs fuel.toNat))) := fun Y f Fn Fa ta tc Ft hok hFt hin hfu hy hak => by
    subst hFt
    have hf2 := hok.fuel1
    have e : run10 ps nm fn xs fuel.toNat = val10 ps 20001 (fnOf10 ps nm fn).2.2 0 xs (f, 0) := by rw [hfu, Int.toNat_natCast]; rfl
    rw [e]
    exact implFunc w a cap ps A 20001 (implVal w a cap ps h hok.flt A 20001 (Nat.le_refl _)) hAw Y f Fn Fa ta tc _ _ aa ac xs hin.1 (tr_of hok.flt hok.at8 hok.at7) hin.2.1 hin.2.2.1 hin.2.2.2 hok.len hok.word hy (by omega) hak (hx.off hy hAw)
  have hmf : ∀ (fn : Go.Fn) (first cap : Array Value) (w : World), (Instr.makeFunc fn first cap).run Tryz.prog w = .ok (.func fn first cap) w := fun _ _ _ _ => rfl
  clear bT bT3 bT4 hb1 hb2 hb3 hb13 hb4 hF1 hF4 hA3 hA40 hA41 hA4f hE h hx hFl4 hAl4 hF0l
  go_enter_defers Tryz.func30, Tryz.ntmps30
  go_wp2_with fail
  refine Calls.mono HAs.out ?_
  rintro e w5 ⟨hask, hb5⟩
  obtain ⟨⟨bT5, hF5⟩, ⟨hA50, hA51, hA5f⟩, hw5⟩ := HY.out w5 hb5
  rcases hask with ⟨hok, ta, tc, rfl, hin⟩ | ⟨hno, rfl⟩
  rotate_left
  · refine leaves_cons (f := 43) (args := #[.pointer (some ⟨T, 0, none⟩), .pointer (some ⟨F0, 0, none⟩), .pointer (some ⟨A, 0, none⟩)]) (by simp) (by simp [go_sem]) ?_
    refine (catchP T F0 A 3 fuel fuel (.int .i64 0) (.int .i64 3) (.int .i64 0) w5 bT5 hF5 hA51 hTF hTA (by omega) (by omega)).mono ?_
    rintro e u' w6 ⟨rfl, rfl, hb6, hw6⟩
    have y0 := hb6.box.c0
    have y1 := hb6.box.c1
    have y2 := hb6.box.c2
    rw [Int.sub_self] at y2
    exact leaves_end (v := .agg #[.int .i64 0, .int .i64 3, .int .i64 0]) rfl (by simp [results, Tryz.results30, go_sem, y0, y1, y2]) (⟨Or.inr ⟨hno, rfl⟩, HT3.out _ _ hw5 hw6⟩)
  · obtain ⟨f, hf⟩ : ∃ f : Nat, fuel = (f : Int) := ⟨fuel.toNat, by have := hok.fuel0; omega⟩
    have hf1 := hok.fuel1
    have HC : Hid (_) := HFn.out w5 f (fnOf10 ps nm fn).1 (fnOf10 ps nm fn).2.1 ta tc _ hok rfl hin hf hw5 ⟨hA50, by rw [← hf]; exact hA51, hA5f⟩
    have hle := (Sk10.val ps 20001 (fnOf10 ps nm fn).2.2 0 xs).less (fuel.toNat, 0)
    have hze := (Sk10.val ps 20001 (fnOf10 ps nm fn).2.2 0 xs).zero (fuel.toNat, 0)
    have hrr : run10 ps nm fn xs fuel.toNat = val10 ps 20001 (fnOf10 ps nm fn).2.2 0 xs (fuel.toNat, 0) := rfl
    rw [← hrr] at hle hze
    have HOk : Hid (Ok10 ps nm fn xs fuel) := hok
    obtain ⟨r, hr⟩ : ∃ r, run10 ps nm fn xs fuel.toNat = r := ⟨_, rfl⟩
    have HR : Hid (run10 ps nm fn xs fuel.toNat = r) := hr
    rw [hr] at HC hle hze
    obtain ⟨FF, hFF⟩ : ∃ FF, fnOf10 ps nm fn = FF := ⟨_, rfl⟩
    rw [hFF] at HC ⊢
    obtain ⟨Fn, Fa, Ft⟩ := FF
    obtain ⟨rv, rf, rc⟩ := r
    obtain ⟨tl, htl⟩ : ∃ tl, Ft.length = tl := ⟨_, rfl⟩
    simp only at HC hle hze ⊢
    rw [htl] at HC ⊢
    have hlo : -9223372036854775808 ≤ fuel - (rf : Int) := by omega
    have hhi : fuel - (rf : Int) ≤ 9223372036854775807 := by omega
    have HEn : Hid (∀ w', Below w.heap.size w w' → OutE ps nm fn xs fuel (.returned (.agg #[.int .i64 rv, .int .i64 rc, .int .i64 (fuel - (rf : Int))])) ∧ Below w.heap.size w w') := fun w' h => ⟨Or.inl ⟨HOk.out, by rw [HR.out]⟩, h⟩
    have HBT : Hid (Bk w5 T (.int .i64 0) (.int .i64 3) (.int .i64 0)) := bT5
    have HF5 : Hid (w5.cell? ⟨F0, 0, none⟩ = some (.int .i64 fuel)) := hF5
    have HW5 : Hid (Below w.heap.size w w5) := hw5
    clear hrr hr hFF hin hok bT5 hF5 hw5 hA50 hA51 hA5f hb5 HAs HY HFn htl
    go_wp2_with fail
    refine Calls.mono HC.out ?_
    rintro e w6 ⟨hA6, hw6, hh⟩
    have bT6 := HBT.out.wrote hw6 hTA
    have hF6 : w6.cell? ⟨F0, 0, none⟩ = some (.int .i64 fuel) := wr_cell hw6 (World.block_lt_of_cell? w5 ⟨F0, 0, none⟩ HF5.out) hFA HF5.out
    have hA61 := hA6.c1
    have hB6 := HA3.out _ _ HW5.out hw6
    simp only at hA61 hh
    rcases hh with ⟨hc, rfl⟩ | ⟨hc, rfl⟩
    rotate_left
    · obtain rfl : rv = 0 := hze hc
      refine leaves_cons (f := 43) (args := #[.pointer (some ⟨T, 0, none⟩), .pointer (some ⟨F0, 0, none⟩), .pointer (some ⟨A, 0, none⟩)]) (by simp) (by simp [go_sem]) ?_
      refine (catchP T F0 A rc fuel (rf : Int) (.int .i64 0) (.int .i64 3) (.int .i64 0) w6 bT6 hF6 hA61 hTF hTA hlo hhi).mono ?_
      rintro e u' w7 ⟨rfl, rfl, hb7, hw7⟩
      have y0 := hb7.box.c0
      have y1 := hb7.box.c1
      have y2 := hb7.box.c2
      exact leaves_end (v := .agg #[.int .i64 0, .int .i64 rc, .int .i64 (fuel - (rf : Int))]) rfl (by simp [results, Tryz.results30, go_sem, y0, y1, y2]) (HEn.out _ (HT3.out _ _ hB6 hw7))
    · subst hc
      have q0 := bT6.box.c0
      have p0 := bT6.fr 0
      have bT7 := bT6.s0 (.int .i64 rv)
      have hF7 : (w6.setCell ⟨T, 0, none⟩ (.int .i64 rv)).cell? ⟨F0, 0, none⟩ = some (.int .i64 fuel) := (World.cell?_setCell_far w6 ⟨T, 0, none⟩ ⟨F0, 0, none⟩ _ hTF).trans hF6
      have hA71 : (w6.setCell ⟨T, 0, none⟩ (.int .i64 rv)).cell? ⟨A, 1, none⟩ = some (.int .i64 (rf : Int)) := (World.cell?_setCell_far w6 ⟨T, 0, none⟩ ⟨A, 1, none⟩ _ hTA).trans hA61
      have hw7 : Wr w6 (w6.setCell ⟨T, 0, none⟩ (.int .i64 rv)) T := wr_set w6 T 0 _
      obtain ⟨W7, hW7⟩ : ∃ W7, w6.setCell ⟨T, 0, none⟩ (.int .i64 rv) = W7 := ⟨_, rfl⟩
      rw [hW7] at bT7 hF7 hA71 hw7
      have q1 := bT7.box.c1
      have p1 := bT7.fr 1
      have bT8 := bT7.s1 (.int .i64 0)
      have hF8 : (W7.setCell ⟨T, 1, none⟩ (.int .i64 0)).cell? ⟨F0, 0, none⟩ = some (.int .i64 fuel) := (World.cell?_setCell_far W7 ⟨T, 1, none⟩ ⟨F0, 0, none⟩ _ hTF).trans hF7
      have hA81 : (W7.setCell ⟨T, 1, none⟩ (.int .i64 0)).cell? ⟨A, 1, none⟩ = some (.int .i64 (rf : Int)) := (World.cell?_setCell_far W7 ⟨T, 1, none⟩ ⟨A, 1, none⟩ _ hTA).trans hA71
      have hw8 : Wr w6 (W7.setCell ⟨T, 1, none⟩ (.int .i64 0)) T := hw7.trans (wr_set W7 T 1 _)
      obtain ⟨W8, hW8⟩ : ∃ W8, W7.setCell ⟨T, 1, none⟩ (.int .i64 0) = W8 := ⟨_, rfl⟩
      rw [hW8] at bT8 hF8 hA81 hw8
      have b0 := bT8.box.c0
      have b1 := bT8.box.c1
      have b2 := bT8.box.c2
      have c0 := bT8.fr 0
      have c1 := bT8.fr 1
      have c2 := bT8.fr 2
      have bT9 := ((bT8.s0 (.int .i64 rv)).s1 (.int .i64 0)).s2 (.int .i64 0)
      obtain ⟨U, hU, u0, u1, u2, hg⟩ := set3 (.int .i64 rv) (.int .i64 0) (.int .i64 0) b0 b1 b2
      rw [hU] at bT9
      have hw9 : Wr w6 U T := hw8.trans (Wrote.of_grown hg (fun k e => by injection e with e; exact e.symm))
      have hF9 : U.cell? ⟨F0, 0, none⟩ = some (.int .i64 fuel) := wr_cell hw9 (World.block_lt_of_cell? w6 ⟨F0, 0, none⟩ hF6) hTF.symm hF6
      have hA91 : U.cell? ⟨A, 1, none⟩ = some (.int .i64 (rf : Int)) := wr_cell hw9 (World.block_lt_of_cell? w6 ⟨A, 1, none⟩ hA61) hTA.symm hA61
      have HB9 : Hid (Below w.heap.size w U) := HT3.out _ _ hB6 hw9
      have HU9 : Hid (Bk U T (.int .i64 rv) (.int .i64 0) (.int .i64 0) ∧ U.cell? ⟨F0, 0, none⟩ = some (.int .i64 fuel) ∧ U.cell? ⟨A, 1, none⟩ = some (.int .i64 (rf : Int))) := ⟨bT9, hF9, hA91⟩
      clear bT6 bT7 bT8 bT9 hF6 hF7 hF8 hF9 hA61 hA71 hA81 hA91 hw6 hw7 hw8 hw9 hA6 hB6 hg HC HBT HF5
      go_wp2
      refine leaves_cons (f := 43) (args := #[.pointer (some ⟨T, 0, none⟩), .pointer (some ⟨F0, 0, none⟩), .pointer (some ⟨A, 0, none⟩)]) (by simp) (by simp [go_sem]) ?_
      refine (catchR T F0 A fuel (rf : Int) (.int .i64 rv) (.int .i64 0) (.int .i64 0) U HU9.out.1 HU9.out.2.1 HU9.out.2.2 hlo hhi).mono ?_
      rintro e u' w7 ⟨rfl, rfl, hb7, hw7⟩
      have y0 := hb7.box.c0
      have y1 := hb7.box.c1
      have y2 := hb7.box.c2
      exact leaves_end (v := .agg #[.int .i64 rv, .int .i64 0, .int .i64 (fuel - (rf : Int))]) rfl (by simp [results, Tryz.results30, go_sem, y0, y1, y2]) (HEn.out _ (HT3.out _ _ HB9.out hw7))

end Go.Proofs.YtmloocbbcnhooaaGreatDoor

/-! The contracts of chapter 10's landed Meant and Burnt. -/
namespace Go.Proofs.YtmloocbbcnhooaaGreatDoor
open Go.RowKit

set_option maxHeartbeats 2000000 in
set_option maxRecDepth 100000 in
theorem implMeant (a : Option Addr) (len cap : Nat) (ps : List Pk) (nm fn : List UInt8) (aa : Option Addr) (ac : Nat) (xs : List Int) (fuel : Int) (er : Nat → Addr) (w : World) (hE : Err8 w er) (h : PkgsOk w a len cap ps) (hx : AsIn w aa xs) (hxl : xs.length ≤ 1048576) :
    Calls Tryz.prog 9 #[.slice a len cap, .string ⟨nm.toArray⟩, .string ⟨fn.toArray⟩, .slice aa xs.length ac, .int .i64 fuel] w fun e w' => e = .returned (.tuple #[.int .i64 (meantV ps nm fn xs fuel).1, .int .i64 (meantV ps nm fn xs fuel).2]) ∧ Below w.heap.size w w' := by
  have HO : Hid (_) := implOutcome a len cap ps nm fn aa ac xs fuel er w hE h hx hxl
  have HV : Hid (∀ e, OutE ps nm fn xs fuel e → ∃ b : Int, e = .returned (.agg #[.int .i64 (meantV ps nm fn xs fuel).1, .int .i64 (meantV ps nm fn xs fuel).2, .int .i64 b])) := fun e h => by
    rcases h with ⟨hok, rfl⟩ | ⟨hno, rfl⟩
    · exact ⟨_, by rw [(meant_yes hok).1]⟩
    · exact ⟨0, by rw [(meant_no hno).1]⟩
  obtain ⟨M, hM⟩ : ∃ M, meantV ps nm fn xs fuel = M := ⟨_, rfl⟩
  rw [hM] at HV ⊢
  obtain ⟨mv, mc⟩ := M
  simp only at HV
  clear hE h hx hM
  go_enter Tryz.func9, Tryz.ntmps9
  go_wp2_with fail
  refine Calls.mono HO.out ?_
  rintro e w1 ⟨ho, hb1⟩
  obtain ⟨b, rfl⟩ := HV.out e ho
  obtain ⟨bx, hbx⟩ := Box3.new w1 (.int .i64 mv) (.int .i64 mc) (.int .i64 b) 59
  obtain ⟨X, hX⟩ : ∃ X, w1.alloc (.cells #[.int .i64 mv, .int .i64 mc, .int .i64 b] 59) = X := ⟨_, rfl⟩
  obtain ⟨K, hK⟩ : ∃ K, w1.heap.size = K := ⟨_, rfl⟩
  rw [hX] at bx hbx
  rw [hK] at bx
  have k0 := bx.c0
  have k1 := bx.c1
  have HB : Hid (Below w.heap.size w X) := hb1.trans (hbx.mono hb1.size)
  clear bx hbx hb1 ho HO HV
  go_wp2_with fail
  go_quiet (fail)
  go_wp2
  go_ret2
  exact ⟨rfl, HB.out.trans ⟨rfl, rfl, rfl, Nat.le_refl _, fun _ _ => rfl⟩⟩

set_option maxHeartbeats 2000000 in
set_option maxRecDepth 100000 in
theorem implBurnt (a : Option Addr) (len cap : Nat) (ps : List Pk) (nm fn : List UInt8) (aa : Option Addr) (ac : Nat) (xs : List Int) (fuel : Int) (er : Nat → Addr) (w : World) (hE : Err8 w er) (h : PkgsOk w a len cap ps) (hx : AsIn w aa xs) (hxl : xs.length ≤ 1048576) :
    Calls Tryz.prog 10 #[.slice a len cap, .string ⟨nm.toArray⟩, .string ⟨fn.toArray⟩, .slice aa xs.length ac, .int .i64 fuel] w fun e w' => e = .returned (.int .i64 (burntV ps nm fn xs fuel)) ∧ Below w.heap.size w w' := by
  have HO : Hid (_) := implOutcome a len cap ps nm fn aa ac xs fuel er w hE h hx hxl
  have HV : Hid (∀ e, OutE ps nm fn xs fuel e → ∃ v c b : Int, e = .returned (.agg #[.int .i64 v, .int .i64 c, .int .i64 b]) ∧ (c = 3 ∧ burntV ps nm fn xs fuel = -1 ∨ c ≠ 3 ∧ burntV ps nm fn xs fuel = b)) := fun e h => by
    rcases h with ⟨hok, rfl⟩ | ⟨hno, rfl⟩
    · refine ⟨_, _, _, rfl, Or.inr ⟨?_, (meant_yes hok).2⟩⟩
      have hc := (Sk10.val ps 20001 (fnOf10 ps nm fn).2.2 0 xs).code (fuel.toNat, 0) rfl
      have hr : run10 ps nm fn xs fuel.toNat = val10 ps 20001 (fnOf10 ps nm fn).2.2 0 xs (fuel.toNat, 0) := rfl
      rw [← hr] at hc
      rcases hc with e | e | e <;> rw [e] <;> decide
    · exact ⟨0, 3, 0, rfl, Or.inl ⟨rfl, (meant_no hno).2⟩⟩
  obtain ⟨M, hM⟩ : ∃ M, burntV ps nm fn xs fuel = M := ⟨_, rfl⟩
  rw [hM] at HV ⊢
  clear hE h hx hM
  go_enter Tryz.func10, Tryz.ntmps10
  go_wp2_with fail
  refine Calls.mono HO.out ?_
  rintro e w1 ⟨ho, hb1⟩
  obtain ⟨v, c, b, rfl, hcb⟩ := HV.out e ho
  obtain ⟨bx, hbx⟩ := Box3.new w1 (.int .i64 v) (.int .i64 c) (.int .i64 b) 59
  obtain ⟨X, hX⟩ : ∃ X, w1.alloc (.cells #[.int .i64 v, .int .i64 c, .int .i64 b] 59) = X := ⟨_, rfl⟩
  obtain ⟨K, hK⟩ : ∃ K, w1.heap.size = K := ⟨_, rfl⟩
  rw [hX] at bx hbx
  rw [hK] at bx
  have k1 := bx.c1
  have k2 := bx.c2
  have HB : Hid (Below w.heap.size w X) := hb1.trans (hbx.mono hb1.size)
  clear bx hbx hb1 ho HO HV
  rcases hcb with ⟨rfl, rfl⟩ | ⟨hc, rfl⟩
  · go_wp2
    go_ret
    exact ⟨rfl, HB.out⟩
  · have hcf : (c == 3) = false := beq_eq_false_iff_ne.2 hc
    clear hc
    go_wp2
    go_ret
    exact ⟨rfl, HB.out⟩

end Go.Proofs.YtmloocbbcnhooaaGreatDoor

/-! What listed errors of errors.New's make give a walk: each variable's cell, and that no two are one. -/
namespace Go.Proofs.YtmloocbbcnhooaaGreatDoor
open Go.RowKit

def sentD (text : List UInt8) : DataW Unit := .iface "*errors.errorString" (.ptr (.agg [.lit (.string text)]))
noncomputable def errTy (n : String) : Bool := ((Tryz.prog.globalNamed n).bind fun g => (Tryz.prog.globals[g]?).map (·.type)) == some 127
theorem errStar : "*errors.errorString" = "*" ++ "errors.errorString" := by decide
theorem errRow (u : TypeId) (h : Tryz.prog.typeName? 3 u = some "*errors.errorString") : u = 227 :=
  typeName_ptr_named (nm := "errors.errorString") (by rw [← errStar]; kernel_rfl) (by kernel_rfl) (by decide) u (by rw [← errStar]; exact h)
set_option maxRecDepth 100000 in
theorem sents_of {W : World} : ∀ (l : List (String × List UInt8)) (ps : List MemPlace), (l.all fun x => errTy x.1) = true → DataW.LaidVars Tryz.prog W (l.map fun x => (x.1, sentD x.2)) ps → ps.Nodup →
    (∀ b off, MemPlace.cell b off ∈ ps → (∃ c t, W.heap[b]? = some (.cells c t (0, 0))) ∧ ∀ u v, W.cell? ⟨b, off, none⟩ = some (.iface u v) → Value.okWide Tryz.prog W .any 0 u v) →
    ∃ al : List Addr, al.length = l.length ∧ al.Nodup ∧ (∀ a ∈ al, MemPlace.cell a.block a.off ∈ ps) ∧ ∀ i, i < l.length → W.var? Tryz.prog (l.getD i ("", [])).1 = some #[sentV (al.getD i ⟨0, 0, none⟩)] ∧ SentAt W (al.getD i ⟨0, 0, none⟩)
  | [], ps, _, _, _, _ => ⟨[], rfl, List.nodup_nil, (fun a ha => by cases ha), (fun i hi => absurd hi (Nat.not_lt_zero _))⟩
  | x :: r, ps, hty, h, hnd, hrows => by
    obtain ⟨g, t, cs, fuel, p, q, hg, ht, hv, hd, hr, e⟩ := h
    rw [List.all_cons, Bool.and_eq_true] at hty
    have h1 := hty.1
    unfold errTy at h1
    rw [hg, Option.bind_some, ht] at h1
    obtain rfl : t = 127 := by simpa using h1
    subst e
    obtain ⟨l0⟩ := cs
    have ok : ∀ u v, l0 = [.iface u v] → Value.okWide Tryz.prog W .any 0 u v := fun u v e => by
      subst e
      exact (hrows g 0 (by simp [MemPlace.row])).2 u v (by simpa using World.var?_cell hg hv 0)
    obtain ⟨a, s, rfl, hc, hs, hz, rfl⟩ := errorString_of_trod Tryz.underlying127 errRow Tryz.underlying227 Tryz.underlying247 rfl rfl Tryz.underlying9 (by kernel_rfl) (by kernel_rfl) hd ok
    obtain ⟨al, hl, has, hin, hall⟩ := sents_of r q hty.2 hr (List.Nodup.sublist (List.sublist_append_right _ _) hnd) (fun b off hm => hrows b off (List.mem_append_right _ hm))
    have hca : MemPlace.cell a.block a.off ∈ MemPlace.row a 1 := by simp [MemPlace.row]
    refine ⟨a :: al, by simp [hl], List.nodup_cons.2 ⟨fun ha => ?_, has⟩, fun b hb => ?_, fun i hi => ?_⟩
    · have h2 := hin a ha
      rw [List.append_assoc] at hnd
      have h3 := (List.nodup_append.1 hnd).2.1
      exact (List.nodup_append.1 h3).2.2 _ hca _ h2 rfl
    · rcases List.mem_cons.1 hb with rfl | hb
      · exact List.mem_append_left _ (List.mem_append_right _ hca)
      · exact List.mem_append_right _ (hin b hb)
    · rcases i with _ | i
      · exact ⟨hv, (hrows a.block a.off (List.mem_append_left _ (List.mem_append_right _ hca))).1⟩
      · have := hall i (by simpa using hi)
        simpa using this

theorem nodup_at {al : List Addr} (h : al.Nodup) {i j : Nat} (hi : i < al.length) (hj : j < al.length) (hne : i ≠ j) : al.getD i ⟨0, 0, none⟩ ≠ al.getD j ⟨0, 0, none⟩ := by
  intro e
  have e1 : al.getD i ⟨0, 0, none⟩ = al[i] := by simp [List.getD, hi]
  have e2 : al.getD j ⟨0, 0, none⟩ = al[j] := by simp [List.getD, hj]
  rw [e1, e2] at e
  exact hne ((List.getElem_inj h).1 e)

/-- The four that CallCode asks, in the order of the list: not told, far, func, count. -/
theorem err4_of {W : World} {t0 t1 t2 t3 : List UInt8} {l : List (String × List UInt8)} (h : laidMet Tryz.prog ((("loop.example/g00346/impl.errNotTold", t0) :: ("loop.example/g00346/impl.errFar", t1) :: ("loop.example/g00346/impl.errFunc", t2) :: ("loop.example/g00346/impl.errCount", t3) :: l).map fun x => (x.1, sentD x.2)) W)
    (hty : (l.all fun x => errTy x.1) = true) :
    ∃ al : List Addr, al.length = l.length + 4 ∧ al.Nodup ∧ Err4 W (fun i => al.getD i ⟨0, 0, none⟩) ∧ ∀ i, i < l.length → W.var? Tryz.prog (l.getD i ("", [])).1 = some #[sentV (al.getD (i + 4) ⟨0, 0, none⟩)] ∧ SentAt W (al.getD (i + 4) ⟨0, 0, none⟩) := by
  obtain ⟨ps, hv, hnd, hrows⟩ := h
  have ht4 : errTy "loop.example/g00346/impl.errNotTold" = true ∧ errTy "loop.example/g00346/impl.errFar" = true ∧ errTy "loop.example/g00346/impl.errFunc" = true ∧ errTy "loop.example/g00346/impl.errCount" = true := ⟨by kernel_rfl, by kernel_rfl, by kernel_rfl, by kernel_rfl⟩
  obtain ⟨al, hl, has, _, hall⟩ := sents_of _ ps (by simp only [List.all_cons, ht4, Bool.true_and, hty]) hv hnd hrows
  have hl4 : al.length = l.length + 4 := by simpa using hl
  have c : ∀ i g n, i < 4 → (([("loop.example/g00346/impl.errNotTold", t0), ("loop.example/g00346/impl.errFar", t1), ("loop.example/g00346/impl.errFunc", t2), ("loop.example/g00346/impl.errCount", t3)] ++ l).getD i ("", [])).1 = n → Tryz.prog.globalNamed n = some g → W.cell? ⟨g, 0, none⟩ = some (sentV (al.getD i ⟨0, 0, none⟩)) := fun i g n hi hn hg => by
    have h1 := (hall i (by simp; omega)).1
    have h2 : (([("loop.example/g00346/impl.errNotTold", t0), ("loop.example/g00346/impl.errFar", t1), ("loop.example/g00346/impl.errFunc", t2), ("loop.example/g00346/impl.errCount", t3)] ++ l).getD i ("", [])).1 = n := hn
    simp only [List.cons_append, List.nil_append] at h2
    rw [h2] at h1
    simpa using World.var?_cell hg h1 0
  have at_ : ∀ i, i < 4 → SentAt W (al.getD i ⟨0, 0, none⟩) := fun i hi => (hall i (by simp; omega)).2
  have ne : ∀ i j, i < 4 → j < 4 → i ≠ j → al.getD i ⟨0, 0, none⟩ ≠ al.getD j ⟨0, 0, none⟩ := fun i j hi hj hne => nodup_at has (by omega) (by omega) hne
  refine ⟨al, hl4, has, ⟨c 0 0 _ (by decide) rfl (by kernel_rfl), c 1 6 _ (by decide) rfl (by kernel_rfl), c 2 7 _ (by decide) rfl (by kernel_rfl), c 3 8 _ (by decide) rfl (by kernel_rfl), at_ 0 (by decide), at_ 1 (by decide), at_ 2 (by decide), at_ 3 (by decide), ⟨ne 0 1 (by decide) (by decide) (by decide), ne 0 2 (by decide) (by decide) (by decide), ne 0 3 (by decide) (by decide) (by decide), ne 1 2 (by decide) (by decide) (by decide), ne 1 3 (by decide) (by decide) (by decide), ne 2 3 (by decide) (by decide) (by decide)⟩⟩, fun i hi => ?_⟩
  have h1 := hall (i + 4) (by simp; omega)
  simpa using h1

end Go.Proofs.YtmloocbbcnhooaaGreatDoor

/-! What the eight listed errors and errors.errorType give a walk. -/
namespace Go.Proofs.YtmloocbbcnhooaaGreatDoor
open Go.RowKit

theorem etyAt : Tryz.prog.globalNamed "errors.errorType" = some 5 := by kernel_rfl
theorem etyRt : (Tryz.prog.cutTypes.find? (·.1 == "internal/reflectlite.rtype")).map (·.2) = some 180 := by kernel_rfl
theorem etyRow : ((List.range 259).filter fun t => Tryz.prog.rowNamed t [101, 114, 114, 111, 114]) = [127] := by kernel_rfl
theorem etySize : Tryz.prog.types.size = 259 := by kernel_rfl
/-- The variable that holds the type error's handle. -/
theorem handle_of {W : World} (h : handlesMet Tryz.prog [("errors.errorType", .iface "internal/reflectlite.rtype" (.agg [.ptr (.lit (.string [101, 114, 114, 111, 114]))]))] W) : W.cell? ⟨5, 0, none⟩ = some (.iface 180 (.agg #[.pointer (some ⟨9, 127, none⟩)])) := by
  obtain ⟨name, u, ty, e1, e2, e3, e4, e5⟩ := h _ (List.mem_singleton.2 rfl)
  have en : name = [101, 114, 114, 111, 114] := (Option.some.inj e1).symm
  subst en
  obtain rfl := Option.some.inj (etyRt.symm.trans e2)
  have hm : ty ∈ (List.range 259).filter fun t => Tryz.prog.rowNamed t [101, 114, 114, 111, 114] := List.mem_filter.2 ⟨List.mem_range.2 (by rw [← etySize]; exact e3), e4⟩
  rw [etyRow] at hm
  obtain rfl := List.mem_singleton.1 hm
  have hh : typeHandle Tryz.prog 127 = .pointer (some ⟨9, 127, none⟩) := by kernel_rfl
  rw [hh] at e5
  simpa using World.var?_cell etyAt e5 0

theorem err8_of {W : World} {t0 t1 t2 t3 t4 t5 t6 t7 : List UInt8} (h : laidMet Tryz.prog ([("loop.example/g00346/impl.errNotTold", t0), ("loop.example/g00346/impl.errFar", t1), ("loop.example/g00346/impl.errFunc", t2), ("loop.example/g00346/impl.errCount", t3), ("loop.example/g00346/impl.errImport", t4), ("loop.example/g00346/impl.errRing", t5), ("loop.example/g00346/impl.errArg", t6), ("loop.example/g00346/impl.errMain", t7)].map fun x => (x.1, sentD x.2)) W)
    (hg : W.cell? ⟨5, 0, none⟩ = some (.iface 180 (.agg #[.pointer (some ⟨9, 127, none⟩)]))) : ∃ er, Err8 W er := by
  have ht4 : errTy "loop.example/g00346/impl.errImport" = true ∧ errTy "loop.example/g00346/impl.errRing" = true ∧ errTy "loop.example/g00346/impl.errArg" = true ∧ errTy "loop.example/g00346/impl.errMain" = true := ⟨by kernel_rfl, by kernel_rfl, by kernel_rfl, by kernel_rfl⟩
  obtain ⟨al, hl, hnd, hE, hr⟩ := err4_of (l := [("loop.example/g00346/impl.errImport", t4), ("loop.example/g00346/impl.errRing", t5), ("loop.example/g00346/impl.errArg", t6), ("loop.example/g00346/impl.errMain", t7)]) h (by simp only [List.all_cons, List.all_nil, ht4, Bool.and_true])
  have hl8 : al.length = 8 := hl
  have c : ∀ i g n, i < 4 → ([("loop.example/g00346/impl.errImport", t4), ("loop.example/g00346/impl.errRing", t5), ("loop.example/g00346/impl.errArg", t6), ("loop.example/g00346/impl.errMain", t7)].getD i ("", [])).1 = n → Tryz.prog.globalNamed n = some g → W.cell? ⟨g, 0, none⟩ = some (sentV (al.getD (i + 4) ⟨0, 0, none⟩)) := fun i g n hi hn hg => by
    have h1 := (hr i hi).1
    rw [hn] at h1
    simpa using World.var?_cell hg h1 0
  refine ⟨_, hE, c 0 2 _ (by decide) rfl (by kernel_rfl), c 1 3 _ (by decide) rfl (by kernel_rfl), c 2 4 _ (by decide) rfl (by kernel_rfl), c 3 1 _ (by decide) rfl (by kernel_rfl), fun i hi => ?_, fun i j hi hj hne => nodup_at hnd (by omega) (by omega) hne, hg⟩
  rcases (show i = 0 ∨ i = 1 ∨ i = 2 ∨ i = 3 ∨ 4 ≤ i by omega) with rfl | rfl | rfl | rfl | h4
  · exact hE.at0
  · exact hE.at1
  · exact hE.at2
  · exact hE.at3
  · obtain ⟨q, rfl⟩ : ∃ q, i = q + 4 := ⟨i - 4, by omega⟩
    exact (hr q (by simp; omega)).2

end Go.Proofs.YtmloocbbcnhooaaGreatDoor

/-! The contracts of chapter 10's specification: Meant and Burnt. -/
namespace Go.Proofs.YtmloocbbcnhooaaGreatDoor
open Go.RowKit

set_option maxHeartbeats 4000000 in
set_option maxRecDepth 100000 in
theorem specMeant (a : Option Addr) (len cap : Nat) (ps : List Pk) (nm fn : List UInt8) (aa : Option Addr) (ac : Nat) (xs : List Int) (fuel : Int) (w : World) (hP : PkgsIn w a len ps) (hlen : len ≤ 1048576) (hsh : ShortPs ps) (hx : AsIn w aa xs) (hxl : xs.length ≤ 1048576) :
    Calls Tryz.prog 11 #[.slice a len cap, .string ⟨nm.toArray⟩, .string ⟨fn.toArray⟩, .slice aa xs.length ac, .int .i64 fuel] w fun e w' => e = .returned (.tuple #[.int .i64 (meantV ps nm fn xs fuel).1, .int .i64 (meantV ps nm fn xs fuel).2]) ∧ Below w.heap.size w w' := by
  have HR : Hid (_) := specRun a len cap ps nm fn aa ac xs fuel w hP hlen hsh hx hxl
  obtain ⟨M, hM⟩ : ∃ M, meantV ps nm fn xs fuel = M := ⟨_, rfl⟩
  have HM : Hid (meantV ps nm fn xs fuel = M) := hM
  rw [hM]
  clear hM hP hsh hx
  go_enter Tryz.func11, Tryz.ntmps11
  go_wp2_with fail
  refine Calls.mono HR.out ?_
  rintro e w1 ⟨hr, hb⟩
  rcases hr with ⟨hno, rfl⟩ | ⟨hok, rfl, l, hwk⟩
  · obtain rfl : M = (0, 3) := HM.out.symm.trans (meant_no hno).1
    clear hno HM HR
    go_wp2
    go_ret2
    exact ⟨rfl, hb⟩
  · have hMe := HM.out.symm.trans (meant_yes hok).1
    obtain ⟨rr, hrr⟩ : ∃ rr, run10 ps nm fn xs fuel.toNat = rr := ⟨_, rfl⟩
    rw [hrr] at hwk hMe ⊢
    obtain ⟨rv, rf, rc⟩ := rr
    simp only at hwk hMe
    subst hMe
    have s2 := hwk.c2
    clear hok HM HR hwk hrr
    go_wp2_with fail
    go_quiet (fail)
    go_wp2
    go_ret2
    exact ⟨rfl, hb.trans ⟨rfl, rfl, rfl, Nat.le_refl _, fun _ _ => rfl⟩⟩

set_option maxHeartbeats 4000000 in
set_option maxRecDepth 100000 in
theorem specBurnt (a : Option Addr) (len cap : Nat) (ps : List Pk) (nm fn : List UInt8) (aa : Option Addr) (ac : Nat) (xs : List Int) (fuel : Int) (w : World) (hP : PkgsIn w a len ps) (hlen : len ≤ 1048576) (hsh : ShortPs ps) (hx : AsIn w aa xs) (hxl : xs.length ≤ 1048576) :
    Calls Tryz.prog 12 #[.slice a len cap, .string ⟨nm.toArray⟩, .string ⟨fn.toArray⟩, .slice aa xs.length ac, .int .i64 fuel] w fun e w' => e = .returned (.int .i64 (burntV ps nm fn xs fuel)) ∧ Below w.heap.size w w' := by
  have HR : Hid (_) := specRun a len cap ps nm fn aa ac xs fuel w hP hlen hsh hx hxl
  obtain ⟨M, hM⟩ : ∃ M, burntV ps nm fn xs fuel = M := ⟨_, rfl⟩
  have HM : Hid (burntV ps nm fn xs fuel = M) := hM
  rw [hM]
  clear hM hP hsh hx
  go_enter Tryz.func12, Tryz.ntmps12
  go_wp2_with fail
  refine Calls.mono HR.out ?_
  rintro e w1 ⟨hr, hb⟩
  rcases hr with ⟨hno, rfl⟩ | ⟨hok, rfl, l, hwk⟩
  · obtain rfl : M = -1 := HM.out.symm.trans (meant_no hno).2
    clear hno HM HR
    go_wp2
    go_ret
    exact ⟨rfl, hb⟩
  · have hle := (Sk10.val ps 20001 (fnOf10 ps nm fn).2.2 0 xs).less (fuel.toNat, 0)
    have hrr0 : run10 ps nm fn xs fuel.toNat = val10 ps 20001 (fnOf10 ps nm fn).2.2 0 xs (fuel.toNat, 0) := rfl
    rw [← hrr0] at hle
    have hf0 := hok.fuel0
    have hf1 := hok.fuel1
    have hMe : M = fuel - ((run10 ps nm fn xs fuel.toNat).2.1 : Int) := HM.out.symm.trans (meant_yes hok).2
    obtain ⟨rr, hrr⟩ : ∃ rr, run10 ps nm fn xs fuel.toNat = rr := ⟨_, rfl⟩
    rw [hrr] at hwk hle hMe ⊢
    obtain ⟨rv, rf, rc⟩ := rr
    simp only at hwk hle hMe
    have s1 := hwk.c1
    have hlo : -9223372036854775808 ≤ fuel - (rf : Int) := by omega
    have hhi : fuel - (rf : Int) ≤ 9223372036854775807 := by omega
    subst hMe
    clear hok HM HR hwk hrr hrr0
    go_wp2
    go_ret
    exact ⟨by first | rfl | (simp; done), hb⟩

end Go.Proofs.YtmloocbbcnhooaaGreatDoor
