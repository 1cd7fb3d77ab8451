/-
  Parts of one proof, one behind the other: ValO, ValP, Math6D, DrawTr2.
-/
import Derived.Test.YtmloocbbcnhooaaGreatDoorP31
import Derived.Defers
import Derived.Recover
import Derived.BigQuiet
import Derived.Test.YtmloocbbcnhooaaGreatDoorP1
import Derived.Test.YtmloocbbcnhooaaGreatDoorP2
import Derived.Test.YtmloocbbcnhooaaGreatDoorP27

/-! The contracts of chapter 10's landed code: giving up is made a code at the face. -/
namespace Go.Proofs.YtmloocbbcnhooaaGreatDoor
open Go.RowKit

theorem as_gu (v : Value) (w : World) : (Instr.typeAssert (.iface 82 v) 20 82 true).run Tryz.prog w = .ok (.tuple #[v, .bool true]) w := by kernel_rfl
theorem as_no (w : World) : (Instr.typeAssert .nilIface 20 82 true).run Tryz.prog w = .ok (.tuple #[.int .i64 0, .bool false]) w := by kernel_rfl
theorem frame_d (T F0 A : Nat) : (#[.pointer (some ⟨T, 0, none⟩), .pointer (some ⟨F0, 0, none⟩), .pointer (some ⟨A, 0, none⟩)] : Array Value) ++ Array.replicate (Tryz.f43.ntmps - (#[.pointer (some ⟨T, 0, none⟩), .pointer (some ⟨F0, 0, none⟩), .pointer (some ⟨A, 0, none⟩)] : Array Value).size) undef = #[.pointer (some ⟨T, 0, none⟩), .pointer (some ⟨F0, 0, none⟩), .pointer (some ⟨A, 0, none⟩), undef, undef, undef, undef, undef, undef, undef, undef, undef, undef, undef, undef, undef, undef, undef] := by
  rw [Tryz.ntmps43]
  rfl
set_option maxHeartbeats 400000 in
set_option maxRecDepth 100000 in
theorem catchP (T F0 A : Nat) (c fuel left : Int) (v0 v1 v2 : Value) (w : World) (hT : Bk w T v0 v1 v2) (hF : w.cell? ⟨F0, 0, none⟩ = some (.int .i64 fuel)) (hA : w.cell? ⟨A, 1, none⟩ = some (.int .i64 left)) (hTF : T ≠ F0) (hTA : T ≠ A) (hlo : -9223372036854775808 ≤ fuel - left) (hhi : fuel - left ≤ 9223372036854775807) :
    CallsD Tryz.prog 43 #[.pointer (some ⟨T, 0, none⟩), .pointer (some ⟨F0, 0, none⟩), .pointer (some ⟨A, 0, none⟩)] (.panicking [{ v := .iface 82 (.int .i64 c), recovered := false }]) w fun e u' w' =>
      e = .returned (.tuple #[]) ∧ u' = .panicking [{ v := .iface 82 (.int .i64 c), recovered := true }] ∧ Bk w' T v0 (.int .i64 c) (.int .i64 (fuel - left)) ∧ Wr w w' T := by
  refine callsD_of_wpS Tryz.func43 rfl fun c₀ cs hu => ?_
  rw [frame_d]
  refine wpS_seq (wpS_seq (wpS_region ?_))
  simp [wpOpsS, go_sem, recoverD, hu, as_gu, Exit.thenS]
  have k1 := hT.box.c1
  have f1 := hT.fr 1
  have hT1 : Bk (w.setCell ⟨T, 1, none⟩ (.int .i64 c)) T v0 (.int .i64 c) v2 := hT.s1 _
  have hF1 : (w.setCell ⟨T, 1, none⟩ (.int .i64 c)).cell? ⟨F0, 0, none⟩ = some (.int .i64 fuel) := (World.cell?_setCell_far w ⟨T, 1, none⟩ ⟨F0, 0, none⟩ _ hTF).trans hF
  have hA1 : (w.setCell ⟨T, 1, none⟩ (.int .i64 c)).cell? ⟨A, 1, none⟩ = some (.int .i64 left) := (World.cell?_setCell_far w ⟨T, 1, none⟩ ⟨A, 1, none⟩ _ hTA).trans hA
  have hw1 : Wr w (w.setCell ⟨T, 1, none⟩ (.int .i64 c)) T := wr_set w T 1 _
  refine wpS_of_wp ?_
  go_wp2
  simp only [Exit.thenS]
  obtain ⟨W1, hW1⟩ : ∃ W1, w.setCell ⟨T, 1, none⟩ (.int .i64 c) = W1 := ⟨_, rfl⟩
  rw [hW1] at hT1 hF1 hA1 hw1 ⊢
  have k2 := hT1.box.c2
  have f2 := hT1.fr 2
  have HT2 : Hid (Bk (W1.setCell ⟨T, 2, none⟩ (.int .i64 (fuel - left))) T v0 (.int .i64 c) (.int .i64 (fuel - left))) := hT1.s2 _
  have HW2 : Hid (Wr w (W1.setCell ⟨T, 2, none⟩ (.int .i64 (fuel - left))) T) := hw1.trans (wr_set W1 T 2 _)
  clear hT hF hA hT1 hw1 hW1 k1 f1 hu
  refine wpS_of_wp ?_
  go_wp2
  exact ⟨rfl, _, rfl, .tuple #[], by simp [results, Tryz.results43, go_sem], rfl, rfl, HT2.out, HW2.out⟩

set_option maxHeartbeats 400000 in
set_option maxRecDepth 100000 in
theorem catchR (T F0 A : Nat) (fuel left : Int) (v0 v1 v2 : Value) (w : World) (hT : Bk w T v0 v1 v2) (hF : w.cell? ⟨F0, 0, none⟩ = some (.int .i64 fuel)) (hA : w.cell? ⟨A, 1, none⟩ = some (.int .i64 left)) (hlo : -9223372036854775808 ≤ fuel - left) (hhi : fuel - left ≤ 9223372036854775807) :
    CallsD Tryz.prog 43 #[.pointer (some ⟨T, 0, none⟩), .pointer (some ⟨F0, 0, none⟩), .pointer (some ⟨A, 0, none⟩)] .returning w fun e u' w' =>
      e = .returned (.tuple #[]) ∧ u' = .returning ∧ Bk w' T v0 v1 (.int .i64 (fuel - left)) ∧ Wr w w' T := by
  refine callsD_of_wpS Tryz.func43 rfl fun c₀ cs hu => ?_
  rw [frame_d]
  refine wpS_seq (wpS_seq (wpS_region ?_))
  simp [wpOpsS, go_sem, recoverD, hu, as_no, Exit.thenS]
  have k2 := hT.box.c2
  have f2 := hT.fr 2
  have HT2 : Hid (Bk (w.setCell ⟨T, 2, none⟩ (.int .i64 (fuel - left))) T v0 v1 (.int .i64 (fuel - left))) := hT.s2 _
  have HW2 : Hid (Wr w (w.setCell ⟨T, 2, none⟩ (.int .i64 (fuel - left))) T) := wr_set w T 2 _
  have HU : Hid (c₀.mode = .returning) := hu
  clear hT hu
  refine wpS_of_wp ?_
  go_wp2
  simp only [Exit.thenS]
  refine wpS_of_wp ?_
  go_wp2
  exact ⟨rfl, c₀.mode, by cases c₀; rfl, .tuple #[], by simp [results, Tryz.results43, go_sem], rfl, HU.out, HT2.out, HW2.out⟩

theorem leaves_end {P : Program} {fn : Func} {tmps : Array Value} {R : Ending → World → Prop} {u : FrameMode} {w : World} {v : Value} (hu : settle u = .returning) (hr : (results fn tmps).run P w = .ok v w) (h : R (.returned v) w) : Leaves P fn tmps R [] (settle u) w := by
  rw [hu]
  exact ⟨v, hr, h⟩
/-- What outcomeOf hands back. -/
def OutE (ps : List Pk) (nm fn : List UInt8) (xs : List Int) (fuel : Int) (e : Ending) : Prop :=
  (Ok10 ps nm fn xs fuel ∧ e = .returned (.agg #[.int .i64 (run10 ps nm fn xs fuel.toNat).1, .int .i64 (run10 ps nm fn xs fuel.toNat).2.2, .int .i64 (fuel - ((run10 ps nm fn xs fuel.toNat).2.1 : Int))])) ∨
  (¬ Ok10 ps nm fn xs fuel ∧ e = .returned (.agg #[.int .i64 0, .int .i64 3, .int .i64 0]))

set_option maxHeartbeats 4000000 in
set_option maxRecDepth 100000 in
theorem implOutcome (a : Option Addr) (len cap : Nat) (ps : List Pk) (nm fn : List UInt8) (aa : Option Addr) (ac : Nat) (xs : List Int) (fuel : Int) (er : Nat → Addr) (w : World) (hE : Err8 w er) (h : PkgsOk w a len cap ps) (hx : AsIn w aa xs) (hxl : xs.length ≤ 1048576) :
    Calls Tryz.prog 30 #[.slice a len cap, .string ⟨nm.toArray⟩, .string ⟨fn.toArray⟩, .slice aa xs.length ac, .int .i64 fuel] w fun e w' => OutE ps nm fn xs fuel e ∧ Below w.heap.size w w' := by
  obtain rfl : ps.length = len := h.hlen
  -- the blocks: the fuel, what is told, the asking
  have hb1 : Below w.heap.size w (w.alloc (.cells #[.int .i64 fuel] 2)) := (Below.refl _ _).alloc (Nat.le_refl _) _
  have hF1 : (w.alloc (.cells #[.int .i64 fuel] 2)).cell? ⟨w.heap.size, 0, none⟩ = some (.int .i64 fuel) := by
    have hA := heap_alloc_new w (.cells #[.int .i64 fuel] 2)
    generalize w.alloc (.cells #[.int .i64 fuel] 2) = W at hA ⊢
    simp [World.cell?, hA]
  obtain ⟨W1, hW1⟩ : ∃ W1, w.alloc (.cells #[.int .i64 fuel] 2) = W1 := ⟨_, rfl⟩
  rw [hW1] at hb1 hF1
  obtain ⟨F0, hF0⟩ : ∃ F0, w.heap.size = F0 := ⟨_, rfl⟩
  have hF0l : w.heap.size < W1.heap.size := World.block_lt_of_cell? W1 ⟨w.heap.size, 0, none⟩ hF1
  obtain ⟨bT, hb2⟩ := Bk.new W1 (.int .i64 0) (.int .i64 0) (.int .i64 0) 59
  obtain ⟨W2, hW2⟩ : ∃ W2, W1.alloc (.cells #[.int .i64 0, .int .i64 0, .int .i64 0] 59) = W2 := ⟨_, rfl⟩
  rw [hW2] at bT hb2
  have hb3 : Below W2.heap.size W2 (W2.alloc (.cells #[.slice a ps.length cap, .int .i64 fuel] 81)) := (Below.refl _ _).alloc (Nat.le_refl _) _
  have hA3 : ((W2.alloc (.cells #[.slice a ps.length cap, .int .i64 fuel] 81)).cell? ⟨W2.heap.size, 0, none⟩ = some (.slice a ps.length cap) ∧ (W2.alloc (.cells #[.slice a ps.length cap, .int .i64 fuel] 81)).cell? ⟨W2.heap.size, 1, none⟩ = some (.int .i64 fuel)) ∧ ∀ j, (W2.alloc (.cells #[.slice a ps.length cap, .int .i64 fuel] 81)).frozen? ⟨W2.heap.size, j, none⟩ = false := by
    refine ⟨?_, fun j => World.frozen?_alloc_at _ _ _ _ rfl⟩
    have hA := heap_alloc_new W2 (.cells #[.slice a ps.length cap, .int .i64 fuel] 81)
    generalize W2.alloc (.cells #[.slice a ps.length cap, .int .i64 fuel] 81) = W at hA ⊢
    exact ⟨by simp [World.cell?, hA], by simp [World.cell?, hA]⟩
  obtain ⟨W3, hW3⟩ : ∃ W3, W2.alloc (.cells #[.slice a ps.length cap, .int .i64 fuel] 81) = W3 := ⟨_, rfl⟩
  rw [hW3] at hb3 hA3
  have hTl : W1.heap.size < W2.heap.size := bT.box.lt
  have hF2 := (hb2.cell (p := ⟨w.heap.size, 0, none⟩) hF0l).trans hF1
  have hF3 := (hb3.cell (p := ⟨w.heap.size, 0, none⟩) (Nat.lt_trans hF0l hTl)).trans hF2
  have bT3 := bT.below hb3
  have hb13 : Below w.heap.size w W3 := (hb1.trans (hb2.mono hb1.size)).trans (hb3.mono (hb1.trans (hb2.mono hb1.size)).size)
  obtain ⟨T, hT⟩ : ∃ T, W1.heap.size = T := ⟨_, rfl⟩
  obtain ⟨A, hA⟩ : ∃ A, W2.heap.size = A := ⟨_, rfl⟩
  rw [hT] at bT3 hTl
  rw [hA] at hA3
  rw [hF0] at hF3 hF2
  have hTF : T ≠ F0 := by omega
  have hTA : T ≠ A := by omega
  have hAw : w.heap.size ≤ A := by omega
  have hFA : F0 ≠ A := by omega
  have k1 := bT3.box.c1
  have g1 := bT3.fr 1
  have bT4 := bT3.s1 (.int .i64 3)
  have hF4 : (W3.setCell ⟨T, 1, none⟩ (.int .i64 3)).cell? ⟨F0, 0, none⟩ = some (.int .i64 fuel) := (World.cell?_setCell_far W3 ⟨T, 1, none⟩ ⟨F0, 0, none⟩ _ hTF).trans hF3
  have hA40 : (W3.setCell ⟨T, 1, none⟩ (.int .i64 3)).cell? ⟨A, 0, none⟩ = some (.slice a ps.length cap) := (World.cell?_setCell_far W3 ⟨T, 1, none⟩ ⟨A, 0, none⟩ _ hTA).trans hA3.1.1
  have hA41 : (W3.setCell ⟨T, 1, none⟩ (.int .i64 3)).cell? ⟨A, 1, none⟩ = some (.int .i64 fuel) := (World.cell?_setCell_far W3 ⟨T, 1, none⟩ ⟨A, 1, none⟩ _ hTA).trans hA3.1.2
  have hA4f : ∀ j, (W3.setCell ⟨T, 1, none⟩ (.int .i64 3)).frozen? ⟨A, j, none⟩ = false := fun j => by simpa using hA3.2 j
  have hb4 : Below w.heap.size w (W3.setCell ⟨T, 1, none⟩ (.int .i64 3)) := wr_base hb13 (by omega) (wr_set W3 T 1 _)
  obtain ⟨W4, hW4⟩ : ∃ W4, W3.setCell ⟨T, 1, none⟩ (.int .i64 3) = W4 := ⟨_, rfl⟩
  rw [hW4] at bT4 hF4 hA40 hA41 hA4f hb4
  have hFl4 : F0 < W4.heap.size := World.block_lt_of_cell? W4 ⟨F0, 0, none⟩ hF4
  have hAl4 : A < W4.heap.size := World.block_lt_of_cell? W4 ⟨A, 0, none⟩ hA40
  have HY : Hid (∀ Y, Below W4.heap.size W4 Y → (Bk Y T (.int .i64 0) (.int .i64 3) (.int .i64 0) ∧ Y.cell? ⟨F0, 0, none⟩ = some (.int .i64 fuel)) ∧ (Y.cell? ⟨A, 0, none⟩ = some (.slice a ps.length cap) ∧ Y.cell? ⟨A, 1, none⟩ = some (.int .i64 fuel) ∧ ∀ j, Y.frozen? ⟨A, j, none⟩ = false) ∧ Below w.heap.size w Y) := fun Y hy => ⟨⟨bT4.below hy, (hy.cell (p := ⟨F0, 0, none⟩) hFl4).trans hF4⟩, ⟨(hy.cell (p := ⟨A, 0, none⟩) hAl4).trans hA40, (hy.cell (p := ⟨A, 1, none⟩) hAl4).trans hA41, fun j => (hy.frozen (p := ⟨A, j, none⟩) hAl4).trans (hA4f j)⟩, hb4.trans (hy.mono hb4.size)⟩
  have HAs : Hid (_) := implAsked w W4 A a cap ps nm fn aa ac xs fuel er hb4 h hE hA40 hA41 hx hxl
  have HT3 : Hid (∀ Y Y', Below w.heap.size w Y → Wr Y Y' T → Below w.heap.size w Y') := fun Y Y' hy hw => wr_base hy (by omega) hw
  have HA3 : Hid (∀ Y Y', Below w.heap.size w Y → Wr Y Y' A → Below w.heap.size w Y') := fun Y Y' hy hw => wr_base hy hAw hw
  have HFn : Hid (∀ (Y : World) (f : Nat) (Fn : List UInt8) (Fa : Int) (ta : Option Addr) (tc : Nat) (Ft : List Nd), Ok10 ps nm fn xs fuel → Ft = (fnOf10 ps nm fn).2.2 → NodesIn w ta Ft.length Ft ∧ IntT Ft ∧ ShortT Ft ∧ Ft.length ≤ 1048576 → fuel = (f : Int) → Below w.heap.size w Y → Ak Y A (.slice a ps.length cap) f → Calls Tryz.prog 44 #[.pointer (some ⟨A, 0, none⟩), .agg #[.string ⟨Fn.toArray⟩, .int .i64 Fa, .slice ta Ft.length tc], .slice aa xs.length ac] Y (PostF Y A (.slice a ps.length cap) (run10 ps nm fn xs fuel.toNat))) := fun Y f Fn Fa ta tc Ft hok hFt hin hfu hy hak => by
    subst hFt
    have hf2 := hok.fuel1
    have e : run10 ps nm fn xs fuel.toNat = val10 ps 20001 (fnOf10 ps nm fn).2.2 0 xs (f, 0) := by rw [hfu, Int.toNat_natCast]; rfl
    rw [e]
    exact implFunc w a cap ps A 20001 (implVal w a cap ps h hok.flt A 20001 (Nat.le_refl _)) hAw Y f Fn Fa ta tc _ _ aa ac xs hin.1 (tr_of hok.flt hok.at8 hok.at7) hin.2.1 hin.2.2.1 hin.2.2.2 hok.len hok.word hy (by omega) hak (hx.off hy hAw)
  have hmf : ∀ (fn : Go.Fn) (first cap : Array Value) (w : World), (Instr.makeFunc fn first cap).run Tryz.prog w = .ok (.func fn first cap) w := fun _ _ _ _ => rfl
  clear bT bT3 bT4 hb1 hb2 hb3 hb13 hb4 hF1 hF4 hA3 hA40 hA41 hA4f hE h hx hFl4 hAl4 hF0l
  go_enter_defers Tryz.func30, Tryz.ntmps30
  go_wp2_with fail
  refine Calls.mono HAs.out ?_
  rintro e w5 ⟨hask, hb5⟩
  obtain ⟨⟨bT5, hF5⟩, ⟨hA50, hA51, hA5f⟩, hw5⟩ := HY.out w5 hb5
  rcases hask with ⟨hok, ta, tc, rfl, hin⟩ | ⟨hno, rfl⟩
  rotate_left
  · refine leaves_cons (f := 43) (args := #[.pointer (some ⟨T, 0, none⟩), .pointer (some ⟨F0, 0, none⟩), .pointer (some ⟨A, 0, none⟩)]) (by simp) (by simp [go_sem]) ?_
    refine (catchP T F0 A 3 fuel fuel (.int .i64 0) (.int .i64 3) (.int .i64 0) w5 bT5 hF5 hA51 hTF hTA (by omega) (by omega)).mono ?_
    rintro e u' w6 ⟨rfl, rfl, hb6, hw6⟩
    have y0 := hb6.box.c0
    have y1 := hb6.box.c1
    have y2 := hb6.box.c2
    rw [Int.sub_self] at y2
    exact leaves_end (v := .agg #[.int .i64 0, .int .i64 3, .int .i64 0]) rfl (by simp [results, Tryz.results30, go_sem, y0, y1, y2]) (⟨Or.inr ⟨hno, rfl⟩, HT3.out _ _ hw5 hw6⟩)
  · obtain ⟨f, hf⟩ : ∃ f : Nat, fuel = (f : Int) := ⟨fuel.toNat, by have := hok.fuel0; omega⟩
    have hf1 := hok.fuel1
    have HC : Hid (_) := HFn.out w5 f (fnOf10 ps nm fn).1 (fnOf10 ps nm fn).2.1 ta tc _ hok rfl hin hf hw5 ⟨hA50, by rw [← hf]; exact hA51, hA5f⟩
    have hle := (Sk10.val ps 20001 (fnOf10 ps nm fn).2.2 0 xs).less (fuel.toNat, 0)
    have hze := (Sk10.val ps 20001 (fnOf10 ps nm fn).2.2 0 xs).zero (fuel.toNat, 0)
    have hrr : run10 ps nm fn xs fuel.toNat = val10 ps 20001 (fnOf10 ps nm fn).2.2 0 xs (fuel.toNat, 0) := rfl
    rw [← hrr] at hle hze
    have HOk : Hid (Ok10 ps nm fn xs fuel) := hok
    obtain ⟨r, hr⟩ : ∃ r, run10 ps nm fn xs fuel.toNat = r := ⟨_, rfl⟩
    have HR : Hid (run10 ps nm fn xs fuel.toNat = r) := hr
    rw [hr] at HC hle hze
    obtain ⟨FF, hFF⟩ : ∃ FF, fnOf10 ps nm fn = FF := ⟨_, rfl⟩
    rw [hFF] at HC ⊢
    obtain ⟨Fn, Fa, Ft⟩ := FF
    obtain ⟨rv, rf, rc⟩ := r
    obtain ⟨tl, htl⟩ : ∃ tl, Ft.length = tl := ⟨_, rfl⟩
    simp only at HC hle hze ⊢
    rw [htl] at HC ⊢
    have hlo : -9223372036854775808 ≤ fuel - (rf : Int) := by omega
    have hhi : fuel - (rf : Int) ≤ 9223372036854775807 := by omega
    have HEn : Hid (∀ w', Below w.heap.size w w' → OutE ps nm fn xs fuel (.returned (.agg #[.int .i64 rv, .int .i64 rc, .int .i64 (fuel - (rf : Int))])) ∧ Below w.heap.size w w') := fun w' h => ⟨Or.inl ⟨HOk.out, by rw [HR.out]⟩, h⟩
    have HBT : Hid (Bk w5 T (.int .i64 0) (.int .i64 3) (.int .i64 0)) := bT5
    have HF5 : Hid (w5.cell? ⟨F0, 0, none⟩ = some (.int .i64 fuel)) := hF5
    have HW5 : Hid (Below w.heap.size w w5) := hw5
    clear hrr hr hFF hin hok bT5 hF5 hw5 hA50 hA51 hA5f hb5 HAs HY HFn htl
    go_wp2_with fail
    refine Calls.mono HC.out ?_
    rintro e w6 ⟨hA6, hw6, hh⟩
    have bT6 := HBT.out.wrote hw6 hTA
    have hF6 : w6.cell? ⟨F0, 0, none⟩ = some (.int .i64 fuel) := wr_cell hw6 (World.block_lt_of_cell? w5 ⟨F0, 0, none⟩ HF5.out) hFA HF5.out
    have hA61 := hA6.c1
    have hB6 := HA3.out _ _ HW5.out hw6
    simp only at hA61 hh
    rcases hh with ⟨hc, rfl⟩ | ⟨hc, rfl⟩
    rotate_left
    · obtain rfl : rv = 0 := hze hc
      refine leaves_cons (f := 43) (args := #[.pointer (some ⟨T, 0, none⟩), .pointer (some ⟨F0, 0, none⟩), .pointer (some ⟨A, 0, none⟩)]) (by simp) (by simp [go_sem]) ?_
      refine (catchP T F0 A rc fuel (rf : Int) (.int .i64 0) (.int .i64 3) (.int .i64 0) w6 bT6 hF6 hA61 hTF hTA hlo hhi).mono ?_
      rintro e u' w7 ⟨rfl, rfl, hb7, hw7⟩
      have y0 := hb7.box.c0
      have y1 := hb7.box.c1
      have y2 := hb7.box.c2
      exact leaves_end (v := .agg #[.int .i64 0, .int .i64 rc, .int .i64 (fuel - (rf : Int))]) rfl (by simp [results, Tryz.results30, go_sem, y0, y1, y2]) (HEn.out _ (HT3.out _ _ hB6 hw7))
    · subst hc
      have q0 := bT6.box.c0
      have p0 := bT6.fr 0
      have bT7 := bT6.s0 (.int .i64 rv)
      have hF7 : (w6.setCell ⟨T, 0, none⟩ (.int .i64 rv)).cell? ⟨F0, 0, none⟩ = some (.int .i64 fuel) := (World.cell?_setCell_far w6 ⟨T, 0, none⟩ ⟨F0, 0, none⟩ _ hTF).trans hF6
      have hA71 : (w6.setCell ⟨T, 0, none⟩ (.int .i64 rv)).cell? ⟨A, 1, none⟩ = some (.int .i64 (rf : Int)) := (World.cell?_setCell_far w6 ⟨T, 0, none⟩ ⟨A, 1, none⟩ _ hTA).trans hA61
      have hw7 : Wr w6 (w6.setCell ⟨T, 0, none⟩ (.int .i64 rv)) T := wr_set w6 T 0 _
      obtain ⟨W7, hW7⟩ : ∃ W7, w6.setCell ⟨T, 0, none⟩ (.int .i64 rv) = W7 := ⟨_, rfl⟩
      rw [hW7] at bT7 hF7 hA71 hw7
      have q1 := bT7.box.c1
      have p1 := bT7.fr 1
      have bT8 := bT7.s1 (.int .i64 0)
      have hF8 : (W7.setCell ⟨T, 1, none⟩ (.int .i64 0)).cell? ⟨F0, 0, none⟩ = some (.int .i64 fuel) := (World.cell?_setCell_far W7 ⟨T, 1, none⟩ ⟨F0, 0, none⟩ _ hTF).trans hF7
      have hA81 : (W7.setCell ⟨T, 1, none⟩ (.int .i64 0)).cell? ⟨A, 1, none⟩ = some (.int .i64 (rf : Int)) := (World.cell?_setCell_far W7 ⟨T, 1, none⟩ ⟨A, 1, none⟩ _ hTA).trans hA71
      have hw8 : Wr w6 (W7.setCell ⟨T, 1, none⟩ (.int .i64 0)) T := hw7.trans (wr_set W7 T 1 _)
      obtain ⟨W8, hW8⟩ : ∃ W8, W7.setCell ⟨T, 1, none⟩ (.int .i64 0) = W8 := ⟨_, rfl⟩
      rw [hW8] at bT8 hF8 hA81 hw8
      have b0 := bT8.box.c0
      have b1 := bT8.box.c1
      have b2 := bT8.box.c2
      have c0 := bT8.fr 0
      have c1 := bT8.fr 1
      have c2 := bT8.fr 2
      have bT9 := ((bT8.s0 (.int .i64 rv)).s1 (.int .i64 0)).s2 (.int .i64 0)
      obtain ⟨U, hU, u0, u1, u2, hg⟩ := set3 (.int .i64 rv) (.int .i64 0) (.int .i64 0) b0 b1 b2
      rw [hU] at bT9
      have hw9 : Wr w6 U T := hw8.trans (Wrote.of_grown hg (fun k e => by injection e with e; exact e.symm))
      have hF9 : U.cell? ⟨F0, 0, none⟩ = some (.int .i64 fuel) := wr_cell hw9 (World.block_lt_of_cell? w6 ⟨F0, 0, none⟩ hF6) hTF.symm hF6
      have hA91 : U.cell? ⟨A, 1, none⟩ = some (.int .i64 (rf : Int)) := wr_cell hw9 (World.block_lt_of_cell? w6 ⟨A, 1, none⟩ hA61) hTA.symm hA61
      have HB9 : Hid (Below w.heap.size w U) := HT3.out _ _ hB6 hw9
      have HU9 : Hid (Bk U T (.int .i64 rv) (.int .i64 0) (.int .i64 0) ∧ U.cell? ⟨F0, 0, none⟩ = some (.int .i64 fuel) ∧ U.cell? ⟨A, 1, none⟩ = some (.int .i64 (rf : Int))) := ⟨bT9, hF9, hA91⟩
      clear bT6 bT7 bT8 bT9 hF6 hF7 hF8 hF9 hA61 hA71 hA81 hA91 hw6 hw7 hw8 hw9 hA6 hB6 hg HC HBT HF5
      go_wp2
      refine leaves_cons (f := 43) (args := #[.pointer (some ⟨T, 0, none⟩), .pointer (some ⟨F0, 0, none⟩), .pointer (some ⟨A, 0, none⟩)]) (by simp) (by simp [go_sem]) ?_
      refine (catchR T F0 A fuel (rf : Int) (.int .i64 rv) (.int .i64 0) (.int .i64 0) U HU9.out.1 HU9.out.2.1 HU9.out.2.2 hlo hhi).mono ?_
      rintro e u' w7 ⟨rfl, rfl, hb7, hw7⟩
      have y0 := hb7.box.c0
      have y1 := hb7.box.c1
      have y2 := hb7.box.c2
      exact leaves_end (v := .agg #[.int .i64 rv, .int .i64 0, .int .i64 (fuel - (rf : Int))]) rfl (by simp [results, Tryz.results30, go_sem, y0, y1, y2]) (HEn.out _ (HT3.out _ _ HB9.out hw7))

end Go.Proofs.YtmloocbbcnhooaaGreatDoor

/-! The contracts of chapter 10's landed Meant and Burnt. -/
namespace Go.Proofs.YtmloocbbcnhooaaGreatDoor
open Go.RowKit

set_option maxHeartbeats 2000000 in
set_option maxRecDepth 100000 in
theorem implMeant (a : Option Addr) (len cap : Nat) (ps : List Pk) (nm fn : List UInt8) (aa : Option Addr) (ac : Nat) (xs : List Int) (fuel : Int) (er : Nat → Addr) (w : World) (hE : Err8 w er) (h : PkgsOk w a len cap ps) (hx : AsIn w aa xs) (hxl : xs.length ≤ 1048576) :
    Calls Tryz.prog 9 #[.slice a len cap, .string ⟨nm.toArray⟩, .string ⟨fn.toArray⟩, .slice aa xs.length ac, .int .i64 fuel] w fun e w' => e = .returned (.tuple #[.int .i64 (meantV ps nm fn xs fuel).1, .int .i64 (meantV ps nm fn xs fuel).2]) ∧ Below w.heap.size w w' := by
  have HO : Hid (_) := implOutcome a len cap ps nm fn aa ac xs fuel er w hE h hx hxl
  have HV : Hid (∀ e, OutE ps nm fn xs fuel e → ∃ b : Int, e = .returned (.agg #[.int .i64 (meantV ps nm fn xs fuel).1, .int .i64 (meantV ps nm fn xs fuel).2, .int .i64 b])) := fun e h => by
    rcases h with ⟨hok, rfl⟩ | ⟨hno, rfl⟩
    · exact ⟨_, by rw [(meant_yes hok).1]⟩
    · exact ⟨0, by rw [(meant_no hno).1]⟩
  obtain ⟨M, hM⟩ : ∃ M, meantV ps nm fn xs fuel = M := ⟨_, rfl⟩
  rw [hM] at HV ⊢
  obtain ⟨mv, mc⟩ := M
  simp only at HV
  clear hE h hx hM
  go_enter Tryz.func9, Tryz.ntmps9
  go_wp2_with fail
  refine Calls.mono HO.out ?_
  rintro e w1 ⟨ho, hb1⟩
  obtain ⟨b, rfl⟩ := HV.out e ho
  obtain ⟨bx, hbx⟩ := Box3.new w1 (.int .i64 mv) (.int .i64 mc) (.int .i64 b) 59
  obtain ⟨X, hX⟩ : ∃ X, w1.alloc (.cells #[.int .i64 mv, .int .i64 mc, .int .i64 b] 59) = X := ⟨_, rfl⟩
  obtain ⟨K, hK⟩ : ∃ K, w1.heap.size = K := ⟨_, rfl⟩
  rw [hX] at bx hbx
  rw [hK] at bx
  have k0 := bx.c0
  have k1 := bx.c1
  have HB : Hid (Below w.heap.size w X) := hb1.trans (hbx.mono hb1.size)
  clear bx hbx hb1 ho HO HV
  go_wp2_with fail
  go_quiet (fail)
  go_wp2
  go_ret2
  exact ⟨rfl, HB.out.trans ⟨rfl, rfl, rfl, Nat.le_refl _, fun _ _ => rfl⟩⟩

set_option maxHeartbeats 2000000 in
set_option maxRecDepth 100000 in
theorem implBurnt (a : Option Addr) (len cap : Nat) (ps : List Pk) (nm fn : List UInt8) (aa : Option Addr) (ac : Nat) (xs : List Int) (fuel : Int) (er : Nat → Addr) (w : World) (hE : Err8 w er) (h : PkgsOk w a len cap ps) (hx : AsIn w aa xs) (hxl : xs.length ≤ 1048576) :
    Calls Tryz.prog 10 #[.slice a len cap, .string ⟨nm.toArray⟩, .string ⟨fn.toArray⟩, .slice aa xs.length ac, .int .i64 fuel] w fun e w' => e = .returned (.int .i64 (burntV ps nm fn xs fuel)) ∧ Below w.heap.size w w' := by
  have HO : Hid (_) := implOutcome a len cap ps nm fn aa ac xs fuel er w hE h hx hxl
  have HV : Hid (∀ e, OutE ps nm fn xs fuel e → ∃ v c b : Int, e = .returned (.agg #[.int .i64 v, .int .i64 c, .int .i64 b]) ∧ (c = 3 ∧ burntV ps nm fn xs fuel = -1 ∨ c ≠ 3 ∧ burntV ps nm fn xs fuel = b)) := fun e h => by
    rcases h with ⟨hok, rfl⟩ | ⟨hno, rfl⟩
    · refine ⟨_, _, _, rfl, Or.inr ⟨?_, (meant_yes hok).2⟩⟩
      have hc := (Sk10.val ps 20001 (fnOf10 ps nm fn).2.2 0 xs).code (fuel.toNat, 0) rfl
      have hr : run10 ps nm fn xs fuel.toNat = val10 ps 20001 (fnOf10 ps nm fn).2.2 0 xs (fuel.toNat, 0) := rfl
      rw [← hr] at hc
      rcases hc with e | e | e <;> rw [e] <;> decide
    · exact ⟨0, 3, 0, rfl, Or.inl ⟨rfl, (meant_no hno).2⟩⟩
  obtain ⟨M, hM⟩ : ∃ M, burntV ps nm fn xs fuel = M := ⟨_, rfl⟩
  rw [hM] at HV ⊢
  clear hE h hx hM
  go_enter Tryz.func10, Tryz.ntmps10
  go_wp2_with fail
  refine Calls.mono HO.out ?_
  rintro e w1 ⟨ho, hb1⟩
  obtain ⟨v, c, b, rfl, hcb⟩ := HV.out e ho
  obtain ⟨bx, hbx⟩ := Box3.new w1 (.int .i64 v) (.int .i64 c) (.int .i64 b) 59
  obtain ⟨X, hX⟩ : ∃ X, w1.alloc (.cells #[.int .i64 v, .int .i64 c, .int .i64 b] 59) = X := ⟨_, rfl⟩
  obtain ⟨K, hK⟩ : ∃ K, w1.heap.size = K := ⟨_, rfl⟩
  rw [hX] at bx hbx
  rw [hK] at bx
  have k1 := bx.c1
  have k2 := bx.c2
  have HB : Hid (Below w.heap.size w X) := hb1.trans (hbx.mono hb1.size)
  clear bx hbx hb1 ho HO HV
  rcases hcb with ⟨rfl, rfl⟩ | ⟨hc, rfl⟩
  · go_wp2
    go_ret
    exact ⟨rfl, HB.out⟩
  · have hcf : (c == 3) = false := beq_eq_false_iff_ne.2 hc
    clear hc
    go_wp2
    go_ret
    exact ⟨rfl, HB.out⟩

end Go.Proofs.YtmloocbbcnhooaaGreatDoor

/-! Plain facts of drawn trees: no tree at a place of a drawn list has more than 60 nodes. -/
namespace Go.Proofs.YtmloocbbcnhooaaGreatDoor
open Go.RowKit

def EndsOk (ns : List Nd) : Prop := ∀ k : Nat, 0 ≤ endV ns (k : Int) → endV ns (k : Int) - k ≤ 60

theorem ends_len {ns : List Nd} (h : ns.length ≤ 60) : EndsOk ns := fun k hk => by
  have := (end_parts hk).2.2.2.2
  omega

theorem endGo_append : ∀ (l r : List Nd) (o d : Nat), endGo l o = some d → endGo (l ++ r) o = some d
  | l, r, 0, d, h => by rw [endGo_zero] at h ⊢; exact h
  | [], r, o + 1, d, h => by rw [endGo_nil] at h; cases h
  | n :: l, r, o + 1, d, h => by
    rw [endGo_cons] at h
    rw [List.cons_append, endGo_cons]
    split at h
    · rename_i hn
      rw [if_pos hn]
      cases he : endGo l (o + kidsN n) with
      | none => rw [he] at h; cases h
      | some q => rw [he] at h; rw [endGo_append l r _ q he]; exact h
    · cases h

theorem ends_snoc {ns : List Nd} (h : treeB ns = true) (m : Nd) : EndsOk (ns ++ [m]) := fun k hk => by
  obtain ⟨⟨h1, h2⟩, he⟩ := tree_end h
  have hb := (end_parts hk).2.2.2.2
  rw [List.length_append, List.length_singleton] at hb
  cases k with
  | zero =>
    have : endV (ns ++ [m]) ((0 : Nat) : Int) = ns.length := by
      rw [endV_nat]
      have := endN_some (l := ns ++ [m]) (k := 0) (d := ns.length) (by rw [List.drop_zero]; exact endGo_append _ _ _ _ he) (by simp)
      rw [this]; omega
    rw [this]; omega
  | succ k => omega

def ndAdd : Nd := (3, 0, [], [])
def ndNum : Nd := (1, 0, [], [])

def pairsL : Nat → List Nd
  | 0 => []
  | j + 1 => ndAdd :: ndNum :: pairsL j

theorem pairs_len : ∀ j, (pairsL j).length = 2 * j
  | 0 => rfl
  | j + 1 => by simp only [pairsL, List.length_cons, pairs_len j]; omega

theorem pairs_snoc : ∀ j, pairsL j ++ [ndAdd, ndNum] = pairsL (j + 1)
  | 0 => rfl
  | j + 1 => by
    show ndAdd :: ndNum :: (pairsL j ++ [ndAdd, ndNum]) = _
    rw [pairs_snoc j]; rfl

theorem pairs_cut (j : Nat) : (pairsL (j + 1)).take (2 * j + 1) ++ [ndNum] = pairsL (j + 1) := by
  rw [← pairs_snoc j, List.take_append, pairs_len, List.take_of_length_le (by rw [pairs_len]; omega), show 2 * j + 1 - 2 * j = 1 by omega]
  simp

theorem nodeB_add0 : nodeB ndAdd = true := by decide
theorem nodeB_num0 : nodeB ndNum = true := by decide
theorem kids_add0 : kidsN ndAdd = 2 := by decide
theorem kids_num0 : kidsN ndNum = 0 := by decide

theorem pairs_open : ∀ j o, endGo (pairsL j) (o + 1) = none
  | 0, o => endGo_nil o
  | j + 1, o => by
    show endGo (ndAdd :: ndNum :: pairsL j) (o + 1) = none
    rw [endGo_cons, if_pos nodeB_add0, kids_add0, show o + 2 = (o + 1) + 1 by omega, endGo_cons, if_pos nodeB_num0, kids_num0, Nat.add_zero, pairs_open j o]
    rfl

theorem pairs_at : ∀ j k, endGo ((pairsL j).drop k) 1 = none ∨ endGo ((pairsL j).drop k) 1 = some 1
  | 0, k => by simp [pairsL, endGo_nil]
  | j + 1, 0 => Or.inl (pairs_open (j + 1) 0)
  | j + 1, 1 => Or.inr (by
      show endGo (ndNum :: pairsL j) (0 + 1) = some 1
      rw [endGo_cons, if_pos nodeB_num0, kids_num0, endGo_zero]; rfl)
  | j + 1, k + 2 => by simpa [pairsL] using pairs_at j k

theorem ends_pairs (j : Nat) : EndsOk (pairsL j) := fun k hk => by
  have hlt := (end_parts hk).1
  rw [endV_nat] at hk ⊢
  rcases pairs_at j k with h | h
  · unfold endN at hk; rw [if_pos hlt, h] at hk; simp at hk
  · rw [endN_some h hlt]; omega

end Go.Proofs.YtmloocbbcnhooaaGreatDoor

/-! A right tree is drawn, and any list of nodes. -/
namespace Go.Proofs.YtmloocbbcnhooaaGreatDoor
open Go.RowKit

theorem small_at {ns : List Nd} (h : SmallT ns) (j : Nat) : SmallN (ns.getD j nd0) := by
  rw [List.getD_eq_getElem?_getD]
  rcases Nat.lt_or_ge j ns.length with hj | hj
  · rw [List.getElem?_eq_getElem hj]; exact h _ (List.getElem_mem hj)
  · rw [List.getElem?_eq_none hj]; exact ⟨intN_nd0, by decide, by decide⟩

theorem SmallT.short {ns : List Nd} (h : SmallT ns) : ShortT ns := fun j => ⟨Nat.le_trans (small_at h j).2.1 (by omega), Nat.le_trans (small_at h j).2.2 (by omega)⟩
theorem SmallT.int {ns : List Nd} (h : SmallT ns) : IntT ns := fun j => (small_at h j).1

set_option maxHeartbeats 2000000 in
set_option maxRecDepth 100000 in
theorem drawTreeOk (w : World) (B : Nat) (a : Option Addr) (len cap : Nat) (args : Int) (ca : Option Addr) (cl cc : Nat) (calls : List Nd) (ha0 : 0 ≤ args) (ha1 : args ≤ 1000) (hc : Cur w B a len cap) (hin : NodesIn w ca cl calls) (hcl : cl ≤ 1000) (hsm : ∀ j, SmallN (calls.getD j nd0)) (hkd : ∀ j, kidsV (calls.getD j nd0) ≤ 3) (hne : ∀ b off, ca = some ⟨b, off, none⟩ → b ≠ B) :
    Calls Tryz.prog 58 #[.pointer (some ⟨B, 0, none⟩), .int .i64 args, .slice ca cl cc] w fun e w' => ∃ v ns, e = .returned v ∧ w'.ownsRow w.heap.size 39 4 v ns.length (nodesV ns) ∧ treeB ns = true ∧ SmallT ns ∧ Cur w' B a len cap ∧ w.grownBy w' (some B) := by
  have HIN : Hid (NodesIn w ca cl calls) := hin
  have HSM : Hid (∀ j, SmallN (calls.getD j nd0)) := hsm
  have HKD : Hid (∀ j, kidsV (calls.getD j nd0) ≤ 3) := hkd
  have HNE : Hid (∀ b off, ca = some ⟨b, off, none⟩ → b ≠ B) := hne
  clear hin hsm hkd hne
  go_enter Tryz.func58, Tryz.ntmps58
  go_wp2_with fail
  refine (drawBelow _ B a len cap 3 (by omega) (by omega) hc).mono ?_
  rintro e w1 ⟨x1, rfl, h10, h11, hc1, hg1⟩
  obtain ⟨d1, rfl⟩ : ∃ d1 : Nat, x1 = (d1 : Int) := Int.eq_ofNat_of_zero_le h10
  have hin1 : NodesIn w1 ca cl calls := HIN.out.keep hg1.size (fun b off e hlt => hg1.block b hlt (fun e2 => HNE.out b off e (by injection e2)))
  have hC : Hid (_) := drawTree6 (1 + d1) w1 B a len cap args ca cl cc calls (by omega) ha0 ha1 hc1 hin1 hcl HSM.out HKD.out HNE.out
  rw [show ((1 + d1 : Nat) : Int) = 1 + (d1 : Int) by omega] at hC
  clear HIN HSM HKD HNE hin1 hc hc1
  go_wp2_with fail
  refine Calls.mono hC.out ?_
  rintro e w2 ⟨v2, ns, rfl, hown2, hl2, hs2, hc2, hg2⟩
  have hG2 := hg1.trans hg2
  obtain ⟨_, a2, c2, rfl, hin2⟩ := own_nodes hown2
  have hT : Hid (_) := specTreeOk a2 ns.length c2 ns w2 hin2 hs2.short (by omega)
  have hown3 := own_base hown2 hg1.size
  clear hC hg1 hg2 hown2 hin2
  go_wp2_with fail
  refine Calls.mono hT.out ?_
  rintro e w4 ⟨rfl, hb4⟩
  have hown4 := own_below hown3 hb4
  have hc4 := hc2.below hb4
  have hG4 : w.grownBy w4 (some B) := hG2.andThen (Below.by hb4) (by simp)
  clear hT hb4 hown3 hc2 hG2
  rcases htb : treeB ns with _ | _
  · have hown := lit1 w w4 ((1, 7, [], []) : Nd) hG4.size
    have hgz := hG4.trans (World.grownBy_alloc w4 (.cells #[.int .i64 1, .int .i64 7, .string ⟨#[]⟩, .string ⟨#[]⟩] 39) (some B))
    have hcz := hc4.kept (World.grownBy_alloc w4 (.cells #[.int .i64 1, .int .i64 7, .string ⟨#[]⟩, .string ⟨#[]⟩] 39) none) (by simp)
    simp only at hown
    go_wp2
    go_ret
    exact ⟨_, [((1, 7, [], []) : Nd)], rfl, hown, by decide, by intro m hm; rw [List.mem_singleton] at hm; subst hm; exact ⟨⟨by decide, by decide⟩, by decide, by decide⟩, hcz, hgz⟩
  · have HB : Hid (treeB ns = true) := htb
    clear htb
    go_wp2
    go_ret
    exact ⟨_, ns, rfl, hown4, HB.out, hs2, hc4, hG4⟩

end Go.Proofs.YtmloocbbcnhooaaGreatDoor
