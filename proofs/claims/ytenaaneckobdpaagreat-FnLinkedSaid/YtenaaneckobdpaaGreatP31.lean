/-
  Parts of one proof, one behind the other: LkD, Shelf2, LkE, ImgA, WordI, Jumps, Clone, TextI, Shelf.
-/
import Derived.Test.YtenaaneckobdpaaGreatP30
import Derived.Shelf.Small.Bits
import Derived.Shelf.Small.Strs
import Derived.Shelf.Strconv.Itoa0
import Derived.Shelf.LaysM
import Derived.Shelf.Strconv.Clone
import Derived.Shelf.Strings.Search1
import Derived.Shelf.Strings.Search2
import Derived.Shelf.Strings.Cut
import Derived.Shelf.Strings.Shaped
import Derived.Shelf.Sort.Plain
import Derived.Test.YtenaaneckobdpaaGreatProg
import Derived.Test.YtenaaneckobdpaaGreatP5
import Derived.Sort.OwnSorted
import Derived.Sort.MapsRangeIn
import Derived.Maps.RangeWalk
import Derived.Test.YtenaaneckobdpaaGreatP16
import Derived.Lib.Bytealg
import Derived.Laws.Externs
import Derived.Deep.RegionHeld3
import Derived.Shelf.Abstract
import Derived.Test.YtenaaneckobdpaaGreatP2
import Derived.Test.YtenaaneckobdpaaGreatP1
import Derived.Scope
import Derived.WalkMore
import Derived.Lib.Strings
import Derived.Lib.Walk
import Derived.Lib.BufferWrite
import Derived.Lib.UnsafeStr
import Derived.Lib.Hide
import Derived.Laws.MakeOwn
import Derived.Test.YtenaaneckobdpaaGreatRows
import Derived.WalkKit
import Derived.WalkLawsBesides
import Derived.OpenShut
import Derived.BigQuiet
namespace Go.Proofs.YtenaaneckobdpaaGreat
open Go.RowKit
section
open Go.RowKit Go.Maps
def outC (ns : List (List UInt8)) (cs : List Fc) : List Fc := cs.filter (fun c => decide (c.1 ∉ ns))
theorem zf5 (rs : List Rt) (cs : List Fc) : (outC (zaw rs) cs).map (fun c => c.1) = outN rs cs := by
 unfold outC outN
 rw [List.filter_map]
 rfl
theorem zjs (ns : List (List UInt8)) (cs : List Fc) (k : Nat) (hk : k < cs.length) : outC ns (cs.take (k + 1)) = if (cs.getD k fc0).1 ∈ ns then outC ns (cs.take k) else outC ns (cs.take k) ++ [cs.getD k fc0] := by
 have hg : cs.getD k fc0 = cs[k] := by rw [List.getD_eq_getElem?_getD, List.getElem?_eq_getElem hk]; rfl
 rw [List.take_succ_eq_append_getElem hk, hg]
 unfold outC
 rw [List.filter_append]
 split
 ·
  rename_i h
  simp [h]
 ·
  rename_i h
  simp [h]
theorem zgy {X : World} {B g cp : Nat} {cs : List Fc} (h : X.ownsRow B 72 2 (.slice (some ⟨g, 0, none⟩) cs.length cp) cs.length (fcV cs)) : ∀ j, j < cs.length → X.cell? ⟨g, j * 2, none⟩ = some (.string ⟨(cs.getD j fc0).1.toArray⟩) ∧ X.cell? ⟨g, j * 2 + 1, none⟩ = some (.int .i64 (cs.getD j fc0).2) := fun j hj => by
 obtain ⟨v0, v1⟩ := fcV_at cs j hj
 exact ⟨by rw [World.ownsRow.cellAt h (j * 2) (by omega), v0], by rw [World.ownsRow.cellAt h (j * 2 + 1) (by omega), v1]⟩
set_option maxHeartbeats 8000000 in
set_option maxRecDepth 100000 in
theorem zdY (b n : Nat) (D : DataW Unit) (l : List Fc) (B g cp : Nat) (cs : List Fc) (w : World) (hown : w.ownsMap Tryz.prog 9 fcR b n D) (hM : MapF D l) (hr : w.ownsRow B 72 2 (.slice (some ⟨g, 0, none⟩) cs.length cp) cs.length (fcV cs)) (hlen : cs.length ≤ 1048576000) (hsh : ∀ j, (cs.getD j fc0).1.length ≤ 1048576) :
 Calls Tryz.prog 25 #[.map (some b), .slice (some ⟨g, 0, none⟩) cs.length cp] w fun e w' => ∃ b2 n2 D2, e = .returned (.map (some b2)) ∧ w.heap.size ≤ b2 ∧ n2 ≤ cs.length ∧ w'.ownsMap Tryz.prog 9 fcR b2 n2 D2 ∧ MapF D2 (outC (l.map (fun c => c.1)) cs) ∧ Below w.heap.size w w' := by
 have hbl := hown.lt
 have hgl : g < w.heap.size := (hr.lt g rfl).2
 obtain ⟨ns, hns⟩ : ∃ ns, l.map (fun c => c.1) = ns := ⟨_, rfl⟩
 have HLk : Hid (∀ (X : World) (s : List UInt8), Below w.heap.size w X → s.length ≤ 1048576 → ∃ x : Fc, (Instr.lookup 49 (.map (some b)) (.string ⟨s.toArray⟩) true).run Tryz.prog X = .ok (.tuple #[.agg #[.string ⟨x.1.toArray⟩, .int .i64 x.2], .bool (decide (s ∈ ns))]) X) := fun X s hX hs => by
  obtain ⟨x, h1, _⟩ := zge true (hown.kept (row := none) ⟨hX.os, hX.tape, hX.output, hX.size, fun i hi _ => hX.block i hi⟩ (by simp)) hM (s := s) (by unfold maxLen; omega)
  rw [hns] at h1
  exact ⟨x, h1⟩
 rw [hns]
 have HI : Hid (∀ j, j < cs.length → w.cell? ⟨g, j * 2, none⟩ = some (.string ⟨(cs.getD j fc0).1.toArray⟩) ∧ w.cell? ⟨g, j * 2 + 1, none⟩ = some (.int .i64 (cs.getD j fc0).2)) := zgy hr
 have HSh : Hid (∀ j, (cs.getD j fc0).1.length ≤ 1048576) := hsh
 have HX0 : Hid ((w.alloc (.map #[] 0)).ownsMap Tryz.prog 9 fcR w.heap.size 0 (.map []) ∧ MapF (.map []) (outC ns (cs.take 0)) ∧ Below w.heap.size w (w.alloc (.map #[] 0))) := ⟨World.ownsMap_made w _ _ _, by simpa [outC] using MapF.empty, (Below.refl _ _).alloc (Nat.le_refl _) _⟩
 have HTk : Hid (∀ k, k < cs.length → outC ns (cs.take (k + 1)) = if (cs.getD k fc0).1 ∈ ns then outC ns (cs.take k) else outC ns (cs.take k) ++ [cs.getD k fc0]) := fun k hk => zjs ns cs k hk
 have HAll : Hid (outC ns (cs.take cs.length) = outC ns cs) := by exact (by rw [List.take_of_length_le (Nat.le_refl _)] : outC ns (cs.take cs.length) = outC ns cs)
 obtain ⟨m, hm⟩ : ∃ m, cs.length = m := ⟨_, rfl⟩
 rw [hm] at HI HTk HAll hlen ⊢
 clear hown hM hr hsh hm hns
 have hmm := @run_makeMap Tryz.prog
 go_enter Tryz.func25, Tryz.ntmps25
 go_wp2
 go_loopw [13] (fun iv wr => ∃ (k n2 : Nat) (D2 : DataW Unit), iv = .int .i64 (k : Int) ∧ k ≤ m ∧ n2 ≤ k ∧ Hid (wr.ownsMap Tryz.prog 9 fcR w.heap.size n2 D2 ∧ MapF D2 (outC ns (cs.take k)) ∧ Below w.heap.size w wr)) (fun iv _ => m - (intOf iv).toNat)
 case atStart => exact ⟨0, 0, .map [], rfl, Nat.zero_le _, Nat.zero_le _, HX0⟩
 case round =>
  obtain ⟨k, n2, D2, rfl, hk, hn2, HX⟩ := hrel
  clear HX0
  by_cases hlt : (k : Int) < (m : Int)
  ·
   obtain ⟨c0, c1⟩ := HI.out k (by omega)
   replace c0 := (HX.out.2.2.cell (p := ⟨g, k * 2, none⟩) hgl).trans c0
   replace c1 := (HX.out.2.2.cell (p := ⟨g, k * 2 + 1, none⟩) hgl).trans c1
   have hst := HTk.out k (by omega)
   have hsn := HSh.out k
   obtain ⟨r, hr⟩ : ∃ r, cs.getD k fc0 = r := ⟨_, rfl⟩
   rw [hr] at c0 c1 hst hsn
   obtain ⟨nm, ar⟩ := r
   simp only at c0 c1 hst hsn
   obtain ⟨Y, hY⟩ : ∃ Y, wr.alloc (.cells #[.string ⟨nm.toArray⟩, .int .i64 ar] 72) = Y := ⟨_, rfl⟩
   have hb : Below wr.heap.size wr Y := by rw [← hY]; exact (Below.refl _ _).alloc (Nat.le_refl _) _
   have hsY : wr.heap.size < Y.heap.size := by rw [← hY]; simp
   have hR : Y.heap[wr.heap.size]? = some (.cells #[.string ⟨nm.toArray⟩, .int .i64 ar] 72) := by rw [← hY]; exact heap_alloc_new wr _
   have hBY : Below w.heap.size w Y := HX.out.2.2.trans (hb.mono HX.out.2.2.size)
   obtain ⟨x, hlk⟩ := HLk.out Y nm hBY hsn
   obtain ⟨Z, hZ⟩ : ∃ Z, Y.alloc (.cells #[.string ⟨x.1.toArray⟩, .int .i64 x.2] 72) = Z := ⟨_, rfl⟩
   have hbZ : Below Y.heap.size Y Z := by rw [← hZ]; exact (Below.refl _ _).alloc (Nat.le_refl _) _
   have HBZ : Hid (Below w.heap.size w Z) := hBY.trans (hbZ.mono hBY.size)
   have hoZ : Z.ownsMap Tryz.prog 9 fcR w.heap.size n2 D2 := by rw [← hZ, ← hY]; exact (HX.out.1.alloc _).alloc _
   have y0 : Y.cell? ⟨wr.heap.size, 0, none⟩ = some (.string ⟨nm.toArray⟩) := by rw [cell_of_row _ _ _ _ _ _ hR]; rfl
   have y1 : Y.cell? ⟨wr.heap.size, 1, none⟩ = some (.int .i64 ar) := by rw [cell_of_row _ _ _ _ _ _ hR]; rfl
   have z0 : Z.cell? ⟨wr.heap.size, 0, none⟩ = some (.string ⟨nm.toArray⟩) := (hbZ.cell (p := ⟨wr.heap.size, 0, none⟩) hsY).trans y0
   have z1 : Z.cell? ⟨wr.heap.size, 1, none⟩ = some (.int .i64 ar) := (hbZ.cell (p := ⟨wr.heap.size, 1, none⟩) hsY).trans y1
   have HP : Hid (_) := zgs (nm, ar) w.heap.size n2 D2 (outC ns (cs.take k)) Z hoZ HX.out.2.1 (by unfold maxLen; omega) (by show nm.length ≤ maxLen; unfold maxLen; omega)
   have HK : Hid (Z.ownsMap Tryz.prog 9 fcR w.heap.size n2 D2 ∧ MapF D2 (outC ns (cs.take k)) ∧ Below w.heap.size w Z) := ⟨hoZ, HX.out.2.1, HBZ.out⟩
   obtain ⟨E, hE⟩ : ∃ E, wr.heap.size = E := ⟨_, rfl⟩
   rw [hE] at y0 y1 z0 z1
   by_cases hin : nm ∈ ns
   ·
    rw [if_pos hin] at hst
    rw [decide_eq_true hin] at hlk
    rw [← hst] at HK
    clear hst hr hb hR hBY hsn HX HP hin hbZ hoZ
    go_wp2
    go_roundw
    case rel => exact ⟨k + 1, n2, D2, by go_num, by omega, by omega, HK⟩
    case measure => simp [intOf]; omega
   ·
    rw [if_neg hin] at hst
    rw [decide_eq_false hin] at hlk
    rw [← hst] at HP
    clear hst hr hb hR hBY hsn HX HK hin hbZ hoZ
    go_wp2_with fail
    refine Calls.mono HP.out ?_
    rintro e w1 ⟨rfl, D', h1, h2, h3⟩
    have HX2 : Hid (w1.ownsMap Tryz.prog 9 fcR w.heap.size (n2 + 1) D' ∧ MapF D' (outC ns (cs.take (k + 1))) ∧ Below w.heap.size w w1) := ⟨h1, h2, HBZ.out.grown h3 HBZ.out.size (fun q e => by injection e with e; omega)⟩
    clear h1 h2 h3 HP
    go_wp2
    go_roundw
    case rel => exact ⟨k + 1, n2 + 1, D', by go_num, by omega, by omega, HX2⟩
    case measure => simp [intOf]; omega
  ·
   obtain rfl : k = m := by omega
   have hx := HX.out
   rw [HAll.out] at hx
   have HX2 : Hid (wr.ownsMap Tryz.prog 9 fcR w.heap.size n2 D2 ∧ MapF D2 (outC ns cs) ∧ Below w.heap.size w wr) := hx
   clear hx HX
   go_wp2
   go_ret
   exact ⟨w.heap.size, rfl, Nat.le_refl _, n2, by omega, D2, HX2.out⟩
set_option maxHeartbeats 8000000 in
set_option maxRecDepth 100000 in
theorem implFitF (b n : Nat) (D : DataW Unit) (l : List Fc) (B g cp : Nat) (cs : List Fc) (w : World) (hown : w.ownsMap Tryz.prog 9 fcR b n D) (hM : MapF D l) (hon : ∀ x ∈ l, ∀ y ∈ l, x.1 = y.1 → x = y) (hcl : ∀ c ∈ cs, c.1 ∈ l.map (fun c => c.1)) (hr : w.ownsRow B 72 2 (.slice (some ⟨g, 0, none⟩) cs.length cp) cs.length (fcV cs)) (hlen : cs.length ≤ 1048576000) (hsh : ∀ j, (cs.getD j fc0).1.length ≤ 1048576) :
 Calls Tryz.prog 37 #[.map (some b), .slice (some ⟨g, 0, none⟩) cs.length cp] w fun e w' => e = .returned (.bool (cs.all (fun c => decide (c ∈ l)))) ∧ Below w.heap.size w w' := by
 have hgl : g < w.heap.size := (hr.lt g rfl).2
 have HLk : Hid (∀ (X : World) (k : Nat), Below w.heap.size w X → k < cs.length → ∃ x : Fc, (Instr.lookup 49 (.map (some b)) (.string ⟨(cs.getD k fc0).1.toArray⟩) false).run Tryz.prog X = .ok (.agg #[.string ⟨x.1.toArray⟩, .int .i64 x.2]) X ∧ x.1 = (cs.getD k fc0).1 ∧ (cs.getD k fc0 ∈ l ↔ x.2 = (cs.getD k fc0).2)) := fun X k hX hk => by
  obtain ⟨x, h1, h2, _⟩ := zge false (hown.kept (row := none) ⟨hX.os, hX.tape, hX.output, hX.size, fun i hi _ => hX.block i hi⟩ (by simp)) hM (s := (cs.getD k fc0).1) (by have := hsh k; unfold maxLen; omega)
  have hmem : cs.getD k fc0 ∈ cs := by rw [List.getD_eq_getElem?_getD, List.getElem?_eq_getElem hk]; exact List.getElem_mem hk
  obtain ⟨hx, hxn⟩ := h2 (hcl _ hmem)
  refine ⟨x, h1, hxn, fun h => ?_, fun h => ?_⟩
  ·
   rw [hon x hx _ h hxn]
  ·
   have : x = cs.getD k fc0 := Prod.ext hxn h
   exact this ▸ hx
 have HI : Hid (∀ j, j < cs.length → w.cell? ⟨g, j * 2, none⟩ = some (.string ⟨(cs.getD j fc0).1.toArray⟩) ∧ w.cell? ⟨g, j * 2 + 1, none⟩ = some (.int .i64 (cs.getD j fc0).2)) := zgy hr
 have HNo : Hid (∀ k, k < cs.length → cs.getD k fc0 ∉ l → cs.all (fun c => decide (c ∈ l)) = false) := fun k hk e => by
  rw [List.all_eq_false]
  refine ⟨cs.getD k fc0, by rw [List.getD_eq_getElem?_getD, List.getElem?_eq_getElem hk]; exact List.getElem_mem hk, ?_⟩
  simpa using e
 have HYes : Hid ((∀ k, k < cs.length → cs.getD k fc0 ∈ l) → cs.all (fun c => decide (c ∈ l)) = true) := fun h => by
  rw [List.all_eq_true]
  intro c hc
  obtain ⟨j, hj, rfl⟩ := List.mem_iff_getElem.1 hc
  have := h j hj
  rw [List.getD_eq_getElem?_getD, List.getElem?_eq_getElem hj] at this
  exact decide_eq_true this
 generalize cs.all (fun c => decide (c ∈ l)) = res at HNo HYes ⊢
 have HB0 : Hid (Below w.heap.size w w) := Below.refl _ w
 obtain ⟨m, hm⟩ : ∃ m, cs.length = m := ⟨_, rfl⟩
 rw [hm] at HI HLk HNo HYes hlen ⊢
 clear hown hM hr hsh hm hon hcl
 go_enter Tryz.func37, Tryz.ntmps37
 go_wp2
 go_loopw [9] (fun iv wr => ∃ k : Nat, iv = .int .i64 (k : Int) ∧ k ≤ m ∧ Hid (∀ j, j < k → cs.getD j fc0 ∈ l) ∧ Hid (Below w.heap.size w wr)) (fun iv _ => m - (intOf iv).toNat)
 case atStart => exact ⟨0, rfl, Nat.zero_le _, (fun j hj => absurd hj (Nat.not_lt_zero _)), HB0⟩
 case round =>
  obtain ⟨k, rfl, hk, HA, HB⟩ := hrel
  clear HB0
  by_cases hlt : (k : Int) < (m : Int)
  ·
   obtain ⟨c0, c1⟩ := HI.out k (by omega)
   replace c0 := (HB.out.cell (p := ⟨g, k * 2, none⟩) hgl).trans c0
   replace c1 := (HB.out.cell (p := ⟨g, k * 2 + 1, none⟩) hgl).trans c1
   have hno := HNo.out k (by omega)
   have hst : cs.getD k fc0 ∈ l → ∀ j, j < k + 1 → cs.getD j fc0 ∈ l := fun h j hj => by
    rcases Nat.lt_or_ge j k with g | g
    ·
     exact HA.out j g
    ·
     obtain rfl : j = k := by omega
     exact h
   obtain ⟨Y, hY⟩ : ∃ Y, wr.alloc (.cells #[.string ⟨(cs.getD k fc0).1.toArray⟩, .int .i64 (cs.getD k fc0).2] 72) = Y := ⟨_, rfl⟩
   have hb : Below wr.heap.size wr Y := by rw [← hY]; exact (Below.refl _ _).alloc (Nat.le_refl _) _
   have hsY : wr.heap.size < Y.heap.size := by rw [← hY]; simp
   have hR : Y.heap[wr.heap.size]? = some (.cells #[.string ⟨(cs.getD k fc0).1.toArray⟩, .int .i64 (cs.getD k fc0).2] 72) := by rw [← hY]; exact heap_alloc_new wr _
   have HBY : Hid (Below w.heap.size w Y) := HB.out.trans (hb.mono HB.out.size)
   obtain ⟨⟨xn, xa⟩, hlk, hxn, hxa⟩ := HLk.out Y k HBY.out (by omega)
   simp only at hlk hxn hxa
   subst hxn
   obtain ⟨r, hr⟩ : ∃ r, cs.getD k fc0 = r := ⟨_, rfl⟩
   rw [hr] at c0 c1 hst hno hY hR hlk hxa
   obtain ⟨nm, ar⟩ := r
   simp only at c0 c1 hst hno hY hR hlk hxa
   have y0 : Y.cell? ⟨wr.heap.size, 0, none⟩ = some (.string ⟨nm.toArray⟩) := by rw [cell_of_row _ _ _ _ _ _ hR]; rfl
   have y1 : Y.cell? ⟨wr.heap.size, 1, none⟩ = some (.int .i64 ar) := by rw [cell_of_row _ _ _ _ _ _ hR]; rfl
   obtain ⟨E, hE⟩ : ∃ E, wr.heap.size = E := ⟨_, rfl⟩
   rw [hE] at y0 y1
   by_cases he : xa = ar
   ·
    have HS : Hid (∀ j, j < k + 1 → cs.getD j fc0 ∈ l) := hst (hxa.2 he)
    subst he
    clear hst hno hr hb hR hxa HA HB
    go_wp2
    go_roundw
    case rel => exact ⟨k + 1, by go_num, by omega, HS, HBY⟩
    case measure => simp [intOf]; omega
   ·
    have HR : Hid (res = false) := hno (fun h => he (hxa.1 h))
    have heb : (xa == ar) = false := beq_eq_false_iff_ne.2 he
    clear hst hno hr hb hR hxa HA HB
    go_wp2
    go_ret
    exact ⟨by rw [HR.out]; rfl, HBY.out⟩
  ·
   obtain rfl : k = m := by omega
   have HR : Hid (res = true) := HYes.out HA.out
   go_wp2
   go_ret
   exact ⟨by rw [HR.out]; rfl, HB.out⟩
end
end Go.Proofs.YtenaaneckobdpaaGreat
namespace Go.Proofs
open Go.Shelf
def Tryz.laysM316_ren : Go.Shelf.Ren := ⟨fun | 316 => 55 | n => n, fun | 9 => 9 | 3 => 3 | 4 => 4 | 37 => 22 | 0 => 0 | 127 => 108 | 5 => 5 | n => n, fun | n => n⟩
theorem Tryz.laysM316 : Go.Proofs.LaysM.n316 Tryz.prog Tryz.laysM316_ren := {
 mixed := by kernel_rfl
 f316 := Tryz.func55.trans (congrArg some (by kernel_rfl))
 t0 := Tryz.underlying0
 a0 := Tryz.isAgg0
 z0 := Tryz.sizeOf0
 v0 := Tryz.zeroValue0
 t3 := Tryz.underlying3
 a3 := Tryz.isAgg3
 z3 := Tryz.sizeOf3
 v3 := Tryz.zeroValue3
 t4 := Tryz.underlying4
 a4 := Tryz.isAgg4
 z4 := Tryz.sizeOf4
 v4 := Tryz.zeroValue4
 t9 := Tryz.underlying9
 a9 := Tryz.isAgg9
 z9 := Tryz.sizeOf9
 v9 := Tryz.zeroValue9
 t37 := Tryz.underlying22
 a37 := Tryz.isAgg22
 z37 := Tryz.sizeOf22
 v37 := Tryz.zeroValue22
 t127 := Tryz.underlying108
 a127 := Tryz.isAgg108
 z127 := Tryz.sizeOf108
 v127 := Tryz.zeroValue108
 t5 := Tryz.underlying5
 a5 := Tryz.isAgg5
 z5 := Tryz.sizeOf5
 v5 := Tryz.zeroValue5
 i0 := by kernel_rfl
 i3 := by kernel_rfl
 i4 := by kernel_rfl
 i5 := by kernel_rfl
 i9 := by kernel_rfl
 i37 := by kernel_rfl
 i127 := by kernel_rfl }
open Go.RowKit in
theorem Tryz.stringslite_Clone (s : ByteArray) (w : World) (hlim : s.size ≤ 281474976710656) :
 Calls Tryz.prog 55 #[.string s] w fun e w' => e = .returned (.string s) ∧ Below w.heap.size w w' := Any.stringslite_Clone Tryz.laysM316 s w hlim
def Tryz.lays190_ren : Go.Shelf.Ren := ⟨fun | 190 => 44 | 125 => 57 | 258 => 64 | 128 => 83 | 129 => 84 | 302 => 90 | 303 => 91 | 304 => 92 | 305 => 93 | 306 => 94 | 307 => 95 | 308 => 96 | 309 => 97 | 310 => 98 | 333 => 120 | 329 => 111 | 330 => 112 | 334 => 121 | 335 => 122 | 336 => 123 | 344 => 134 | n => n, fun | 31 => 31 | 9 => 9 | 3 => 3 | 46 => 91 | 0 => 0 | 51 => 118 | 53 => 120 | 4 => 4 | 183 => 111 | 182 => 110 | 131 => 115 | 5 => 5 | 218 => 141 | 222 => 145 | 228 => 155 | 229 => 156 | n => n, fun | n => n⟩
theorem Tryz.lays190 : Go.Proofs.Lays.n190 Tryz.prog Tryz.lays190_ren := {
 mixed := by kernel_rfl
 f125 := Tryz.func57.trans (congrArg some (by kernel_rfl))
 f128 := Tryz.func83.trans (congrArg some (by kernel_rfl))
 f129 := Tryz.func84.trans (congrArg some (by kernel_rfl))
 f190 := Tryz.func44.trans (congrArg some (by kernel_rfl))
 f258 := Tryz.func64.trans (congrArg some (by kernel_rfl))
 f302 := Tryz.func90.trans (congrArg some (by kernel_rfl))
 f303 := Tryz.func91.trans (congrArg some (by kernel_rfl))
 f304 := Tryz.func92.trans (congrArg some (by kernel_rfl))
 f305 := Tryz.func93.trans (congrArg some (by kernel_rfl))
 f306 := Tryz.func94.trans (congrArg some (by kernel_rfl))
 f307 := Tryz.func95.trans (congrArg some (by kernel_rfl))
 f308 := Tryz.func96.trans (congrArg some (by kernel_rfl))
 f309 := Tryz.func97.trans (congrArg some (by kernel_rfl))
 f310 := Tryz.func98.trans (congrArg some (by kernel_rfl))
 f329 := Tryz.func111.trans (congrArg some (by kernel_rfl))
 f330 := Tryz.func112.trans (congrArg some (by kernel_rfl))
 f333 := Tryz.func120.trans (congrArg some (by kernel_rfl))
 f334 := Tryz.func121.trans (congrArg some (by kernel_rfl))
 f335 := Tryz.func122.trans (congrArg some (by kernel_rfl))
 f336 := Tryz.func123.trans (congrArg some (by kernel_rfl))
 f344 := Tryz.func134.trans (congrArg some (by kernel_rfl))
 t0 := Tryz.underlying0
 a0 := Tryz.isAgg0
 z0 := Tryz.sizeOf0
 v0 := Tryz.zeroValue0
 t3 := Tryz.underlying3
 a3 := Tryz.isAgg3
 z3 := Tryz.sizeOf3
 v3 := Tryz.zeroValue3
 t4 := Tryz.underlying4
 a4 := Tryz.isAgg4
 z4 := Tryz.sizeOf4
 v4 := Tryz.zeroValue4
 t5 := Tryz.underlying5
 a5 := Tryz.isAgg5
 z5 := Tryz.sizeOf5
 v5 := Tryz.zeroValue5
 t9 := Tryz.underlying9
 a9 := Tryz.isAgg9
 z9 := Tryz.sizeOf9
 v9 := Tryz.zeroValue9
 t31 := Tryz.underlying31
 a31 := Tryz.isAgg31
 z31 := Tryz.sizeOf31
 v31 := Tryz.zeroValue31
 t46 := Tryz.underlying91
 a46 := Tryz.isAgg91
 z46 := Tryz.sizeOf91
 v46 := Tryz.zeroValue91
 t51 := Tryz.underlying118
 a51 := Tryz.isAgg118
 z51 := Tryz.sizeOf118
 v51 := Tryz.zeroValue118
 t53 := Tryz.underlying120
 a53 := Tryz.isAgg120
 z53 := Tryz.sizeOf120
 v53 := Tryz.zeroValue120
 t131 := Tryz.underlying115
 a131 := Tryz.isAgg115
 z131 := Tryz.sizeOf115
 v131 := Tryz.zeroValue115
 t182 := Tryz.underlying110
 a182 := Tryz.isAgg110
 z182 := Tryz.sizeOf110
 v182 := Tryz.zeroValue110
 t183 := Tryz.underlying111
 a183 := Tryz.isAgg111
 z183 := Tryz.sizeOf111
 v183 := Tryz.zeroValue111
 t218 := Tryz.underlying141
 a218 := Tryz.isAgg141
 z218 := Tryz.sizeOf141
 v218 := Tryz.zeroValue141
 t222 := Tryz.underlying145
 a222 := Tryz.isAgg145
 z222 := Tryz.sizeOf145
 v222 := Tryz.zeroValue145
 t228 := Tryz.underlying155
 a228 := Tryz.isAgg155
 z228 := Tryz.sizeOf155
 v228 := Tryz.zeroValue155
 t229 := Tryz.underlying156
 a229 := Tryz.isAgg156
 z229 := Tryz.sizeOf156
 v229 := Tryz.zeroValue156 }
open Go.Sort Go.RowKit in
theorem Tryz.slices_Sort_string (blk off cap : Nat) (ss : List (List UInt8)) (w : World) (hH : Holds encStr w blk off ss.toArray) (hblk : blk < w.heap.size) (hsz : ss.length < 4611686018427387904) :
 Calls Tryz.prog 44 #[.slice (some ⟨blk, off, none⟩) ss.length cap] w fun e w' =>
  e = .returned (.tuple #[]) ∧ ∃ n os, w' = grow (putRow encStr (Sort.ahead w n) blk off (ss.mergeSort fun x y => decide (x ≤ y)).toArray) os := Any.slices_Sort_string Tryz.lays190 blk off cap ss w hH hblk hsz
end Go.Proofs
namespace Go.Proofs.YtenaaneckobdpaaGreat
open Go.RowKit
section
open Go.RowKit Go.Maps Go.Sort
theorem zfB (x y : List UInt8) : decide (x ≤ y) = !Op.bytesLess y x := by
 rw [bytesLess_eq, ← decide_not]
 exact decide_eq_decide.2 Iff.rfl
theorem sorted16 (ts : List (List UInt8)) : (ts.mergeSort fun x y => decide (x ≤ y)).Perm ts ∧ (ts.mergeSort fun x y => decide (x ≤ y)).Pairwise (fun a b => Op.bytesLess b a = false) := by
 refine ⟨List.mergeSort_perm _ _, ?_⟩
 have h := List.pairwise_mergeSort (le := fun x y : List UInt8 => decide (x ≤ y)) (fun a b c h1 h2 => by
  rw [zfB, Bool.not_eq_true'] at *
  exact zdM h1 h2) (fun a b => by
  rw [zfB, zfB]
  rcases e : Op.bytesLess b a with _ | _
  ·
   rfl
  ·
   rw [zh6 e]; rfl) ts
 refine h.imp (fun {a b} hab => ?_)
 rw [zfB, Bool.not_eq_true'] at hab
 exact hab
theorem zeO {zs : List (List UInt8)} (hn : zs.Nodup) (h : zs.Pairwise (fun a b => Op.bytesLess b a = false)) : Rise zs := by
 refine (List.pairwise_and_iff.2 ⟨hn, h⟩).imp (fun {a b} hab => ?_)
 rcases e : Op.bytesLess a b with _ | _
 ·
  exact absurd (zcN e hab.2) hab.1
 ·
  rfl
set_option maxHeartbeats 1000000 in
set_option maxRecDepth 100000 in
theorem zdS (s : List UInt8) (w : World) (hs : s.length ≤ 1048576) :
 Calls Tryz.prog 38 #[.string ⟨s.toArray⟩] w fun e w' => e = .returned (.string ⟨s.toArray⟩) ∧ Below w.heap.size w w' := by
 have HC : Hid (_) := Tryz.stringslite_Clone ⟨s.toArray⟩ w (by simp [ByteArray.size]; omega)
 go_enter Tryz.func38, Tryz.ntmps38
 go_wp2_with fail
 refine Calls.mono HC.out ?_
 rintro e w' ⟨rfl, hb⟩
 have HB : Hid (Below w.heap.size w w') := hb
 clear hb HC
 go_wp2
 go_ret
 exact ⟨rfl, HB.out⟩
theorem zk3 (B g c : Nat) (ts : List (List UInt8)) (w : World) (h : w.ownsRow B 9 1 (.slice (some ⟨g, 0, none⟩) ts.length c) ts.length (strV ts)) (hl : ts.length ≤ 1048576) :
 Calls Tryz.prog 44 #[.slice (some ⟨g, 0, none⟩) ts.length c] w fun e w' => e = .returned (.tuple #[]) ∧ ∃ zs : List (List UInt8), zs.Perm ts ∧ zs.Pairwise (fun a b => Op.bytesLess b a = false) ∧ w'.ownsRow B 9 1 (.slice (some ⟨g, 0, none⟩) ts.length c) ts.length (strV zs) ∧ w.grownBy w' (some g) := by
 rcases h.2 with ⟨e, _⟩ | ⟨g', cap, cur, e, hbase, hb, h1, h2, h3, h4⟩
 ·
  cases e
 ·
  injection e with e _ e3
  injection e with e
  injection e with e _ _
  subst e e3
  refine Calls.mono (Tryz.slices_Sort_string g 0 c ts w (holds_of_block hb (by rw [show ts.map encStr = strV ts from rfl]; simpa using h4)) (Array.getElem?_eq_some_iff.1 hb).1 (by omega)) ?_
  rintro e w' ⟨rfl, n, os, rfl⟩
  obtain ⟨hp, hs⟩ := sorted16 ts
  exact ⟨rfl, _, hp, hs, ownsRow_sorted hp.length_eq hbase hb h1 h2 h3, grownBy_sorted _⟩
theorem keyS_inv {x : List UInt8} {kl : Lit} (h : keyOf Tryz.prog 9 (.string ⟨x.toArray⟩) = some kl) : kl = .string x := by
 simp [keyOf, Tryz.underlying9, mapKey] at h
 exact h.2.symm
theorem invKS : ∀ key kl, keyOf Tryz.prog 9 key = some kl → ∃ x : List UInt8, key = .string ⟨x.toArray⟩ := fun key kl h => by
 obtain ⟨s, rfl⟩ := Maps.keyOf_string_inv Tryz.underlying9 h
 exact ⟨s.data.toList, by simp⟩
theorem invVF : ∀ v y, fcR v = some y → ∃ c : Fc, v = .agg #[.string ⟨c.1.toArray⟩, .int .i64 c.2] := fun v y h => by
 obtain ⟨x, rfl, _⟩ := zk9 h
 exact ⟨x, rfl⟩
structure Nm16 (w wr : World) (b r n : Nat) (D : DataW Unit) (ns : List (List UInt8)) (left : Lit → Bool) (cnt g c : Nat) (ts : List (List UInt8)) : Prop where
 rg : wr.ranges Tryz.prog 9 fcR b r n D left cnt
 row : wr.ownsRow w.heap.size 9 1 (.slice (some ⟨g, 0, none⟩) ts.length c) ts.length (strV ts)
 nd : ts.Nodup
 mem : ∀ s, s ∈ ts ↔ (s ∈ ns ∧ left (.string s) = false)
 lf : ∀ s, left (.string s) = true → s ∈ ns
 cn : ts.length + cnt ≤ n
 bl : Below w.heap.size w wr
 rb : w.heap.size ≤ r
 bb : b < w.heap.size
theorem Nm16.step {w wr w1 w2 : World} {b r n : Nat} {D : DataW Unit} {ns : List (List UInt8)} {left : Lit → Bool} {cnt cnt1 g c : Nat} {ts : List (List UInt8)} (h : Nm16 w wr b r n D ns left cnt g c ts) {x : List UInt8} (hlx : left (.string x) = true) (hrg1 : w1.ranges Tryz.prog 9 fcR b r n D (fun z => left z && !z.sameKey (.string x)) cnt1) (hlt : cnt1 < cnt) (hg1 : wr.grownBy w1 (some r)) (hb2 : Below w1.heap.size w1 w2) (hn : n ≤ 1048576) :
 ∃ g' c' Y, (Builtin.append_ #[31, 31] 31 #[.slice (some ⟨g, 0, none⟩) ts.length c, .slice (some ⟨w2.heap.size, 0, none⟩) 1 1]).run Tryz.prog (w2.alloc (.cells #[.string ⟨x.toArray⟩] 9)) = .ok (.slice (some ⟨g', 0, none⟩) (ts.length + 1) c') Y ∧ Nm16 w Y b r n D ns (fun z => left z && !z.sameKey (.string x)) cnt1 g' c' (ts ++ [x]) := by
 have hb1 : Below w.heap.size w w1 := h.bl.grown hg1 h.bl.size (fun q e => by injection e with e; have := h.rb; omega)
 have hb12 : Below w.heap.size w w2 := hb1.trans (hb2.mono hb1.size)
 have hr1 := h.row.kept hg1 (Or.inr (fun e => row_ne_iter h.row h.rg e.symm))
 have hr2 := za6 hr1 hb2
 have hrg2 := hrg1.kept (row := none) ⟨hb2.os, hb2.tape, hb2.output, hb2.size, fun i hi _ => hb2.block i hi⟩ (by simp) (by simp)
 have hcn := h.cn
 obtain ⟨v', Y, hrun, hown, hg⟩ := zdq x hr2 hb12.size (by omega)
 obtain ⟨g', c', rfl⟩ := za9 hown (by omega)
 have hgw := (h.row.lt g rfl).1
 have hne : some b ≠ (Value.slice (some ⟨g, 0, none⟩) ts.length c).ownBlock := fun e => by
  have e2 : b = g := by simpa [Value.ownBlock] using e
  have := h.bb
  omega
 have hqe : ∀ q, (Value.slice (some ⟨g, 0, none⟩) ts.length c).ownBlock = some q → w.heap.size ≤ q := fun q e => by
  have e2 : g = q := by simpa [Value.ownBlock] using e
  omega
 refine ⟨g', c', Y, hrun, hrg2.kept hg hne (row_ne_iter hr2 hrg2), ?_, ?_, fun s => ?_, fun s hs => ?_, by rw [List.length_append, List.length_singleton]; omega, hb12.grown hg hb12.size hqe, h.rb, h.bb⟩
 ·
  rw [List.length_append, List.length_singleton]; exact hown
 ·
  refine List.nodup_append.2 ⟨h.nd, by simp, fun a ha b hb e => ?_⟩
  rw [List.mem_singleton] at hb
  subst hb e
  rw [((h.mem a).1 ha).2] at hlx
  cases hlx
 ·
  have hk : (Lit.string s).sameKey (.string x) = decide (s = x) := by
   by_cases e : s = x
   ·
    subst e; rw [WideAt.sameKey_self (zh8 s)]; simp
   ·
    rw [sameKey_ne (fun e' => e (by injection e'))]; simp [e]
  simp only [List.mem_append, List.mem_singleton, hk]
  rw [h.mem s]
  by_cases e : s = x
  ·
   subst e
   simp [h.lf s hlx]
  ·
   simp [e]
 ·
  simp only [Bool.and_eq_true] at hs
  exact h.lf s hs.1
set_option maxHeartbeats 8000000 in
set_option maxRecDepth 100000 in
theorem zeC (b n : Nat) (D : DataW Unit) (l : List Fc) (w : World) (hown : w.ownsMap Tryz.prog 9 fcR b n D) (hM : MapF D l) (hn : n ≤ 1048576) (hsh : ∀ s ∈ l.map (fun c => c.1), s.length ≤ 1048576) :
 Calls Tryz.prog 24 #[.map (some b)] w fun e w' => ∃ g c, e = .returned (.slice (some ⟨g, 0, none⟩) (zbq (l.map (fun c => c.1))).length c) ∧ w'.ownsRow w.heap.size 9 1 (.slice (some ⟨g, 0, none⟩) (zbq (l.map (fun c => c.1))).length c) (zbq (l.map (fun c => c.1))).length (strV (zbq (l.map (fun c => c.1)))) ∧ Below w.heap.size w w' := by
 have hbl := hown.lt
 have hsz := hown.size_le
 have hhas := hM.has
 obtain ⟨ns, hns⟩ : ∃ ns, l.map (fun c => c.1) = ns := ⟨_, rfl⟩
 rw [hns] at hsh hhas ⊢
 have HSh : Hid (∀ s ∈ ns, s.length ≤ 1048576) := hsh
 obtain ⟨W0, hW0⟩ : ∃ W0, w.alloc (.cells #[] 9) = W0 := ⟨_, rfl⟩
 have hown0 : W0.ownsMap Tryz.prog 9 fcR b n D := by rw [← hW0]; exact hown.alloc _
 have hrow0 : W0.ownsRow w.heap.size 9 1 (.slice (some ⟨w.heap.size, 0, none⟩) 0 0) 0 (strV []) := by rw [← hW0]; exact World.ownsRow_lit w #[] 0 (Nat.le_refl _) (by decide) rfl
 have hb0 : Below w.heap.size w W0 := by rw [← hW0]; exact (Below.refl _ _).alloc (Nat.le_refl _) _
 have HK : Hid (∀ w0 : World, w0.ranges Tryz.prog 9 fcR b W0.heap.size n D (Maps.has D) (Maps.size D) → W0.grownBy w0 none → Nm16 w w0 b W0.heap.size n D ns (Maps.has D) (Maps.size D) w.heap.size 0 []) := fun w0 h1 h2 =>
  ⟨h1, zba hrow0 h2, List.nodup_nil, fun s => by rw [hhas]; simp, fun s hs => by rw [hhas] at hs; exact of_decide_eq_true hs, by simpa using hsz, hb0.grown h2 hb0.size (fun q e => by cases e), hb0.size, hbl⟩
 have HFin : Hid (∀ (zs ts : List (List UInt8)), zs.Perm ts → zs.Pairwise (fun a b => Op.bytesLess b a = false) → ts.Nodup → (∀ s, s ∈ ts ↔ s ∈ ns) → zs = zbq ns) := fun zs ts hp hs hd hm => zhH (zeO (hp.nodup_iff.2 hd) hs) (fun a => hp.mem_iff.trans (hm a))
 clear hown hM hhas hrow0 hb0 hsh hns
 go_enter Tryz.func24, Tryz.ntmps24
 go_wp2_with (at_range; refine wpList_range_own _ rfl _ 49 rfl 9 72 keyS Tryz.underlying49 fcR b n D rfl hown0 ?_; intro w0 hrg0 hg0 hs0)
 go_frame
 have HN0 : Hid (Nm16 w w0 b W0.heap.size n D ns (Maps.has D) (Maps.size D) w.heap.size 0 []) := HK.out w0 hrg0 hg0
 clear hrg0 hg0 hs0 HK hown0
 go_loopw [3] (fun vv wr => ∃ (left : Lit → Bool) (cnt g c : Nat) (ts : List (List UInt8)), vv = .slice (some ⟨g, 0, none⟩) ts.length c ∧ Hid (Nm16 w wr b W0.heap.size n D ns left cnt g c ts)) (fun _ wr => wr.rangeLeft b W0.heap.size)
 case atStart => exact ⟨_, _, w.heap.size, 0, [], rfl, HN0⟩
 case round =>
  obtain ⟨left, cnt, g, c, ts, rfl, HN⟩ := hrel
  clear HN0
  have hrg := HN.out.rg
  go_wp2_with (at_next; refine wpList_next_ranges _ rfl _ rfl 9 keyS fcR (fun x : List UInt8 => .string ⟨x.toArray⟩) (fun c : Fc => .agg #[.string ⟨c.1.toArray⟩, .int .i64 c.2]) invKS invVF b W0.heap.size n D left cnt rfl hrg ?_ ?_)
  ·
   intro _ hl0
   have HMem : Hid (∀ s, s ∈ ts ↔ s ∈ ns) := fun s => by rw [HN.out.mem s]; simp [hl0]
   have hcn := HN.out.cn
   have HC : Hid (_) := zk3 w.heap.size g c ts wr HN.out.row (by omega)
   have HF2 : Hid (∀ zs : List (List UInt8), zs.Perm ts → zs.Pairwise (fun a b => Op.bytesLess b a = false) → zs = zbq ns) := fun zs h1 h2 => HFin.out zs ts h1 h2 HN.out.nd HMem.out
   have HBl : Hid (Below w.heap.size w wr ∧ w.heap.size ≤ g) := ⟨HN.out.bl, (HN.out.row.lt g rfl).1⟩
   obtain ⟨nt, hnt⟩ : ∃ nt, ts.length = nt := ⟨_, rfl⟩
   have HNt : Hid (ts.length = nt) := hnt
   rw [hnt] at HC ⊢
   clear hl0 hrg HN HFin HMem hnt
   go_wp2_with fail
   refine Calls.mono HC.out ?_
   rintro e w2 ⟨rfl, zs, hp, hs, hrow, hg⟩
   obtain rfl := HF2.out zs hp hs
   have HR : Hid (w2.ownsRow w.heap.size 9 1 (.slice (some ⟨g, 0, none⟩) nt c) nt (strV (zbq ns)) ∧ Below w.heap.size w w2 ∧ (zbq ns).length = nt) := ⟨hrow, HBl.out.1.grown hg HBl.out.1.size (fun q e => by injection e with e; have := HBl.out.2; omega), by rw [← HNt.out]; exact hp.length_eq⟩
   clear HC hp hs hrow hg HF2 HBl
   go_wp2
   go_ret
   exact ⟨g, c, by rw [HR.out.2.2]; rfl, by rw [HR.out.2.2]; exact HR.out.1, HR.out.2.1⟩
  ·
   intro x cn ca kl yd yp w1 cnt1 hkx hlk hy hat hrg1 hlt hg1 hs1 hen
   obtain rfl := keyS_inv hkx
   have hxl := HSh.out x (HN.out.lf x hlk)
   have HC : Hid (_) := zdS x w1 hxl
   have HSt : Hid (∀ w2, Below w1.heap.size w1 w2 → ∃ g' c' Y, (Builtin.append_ #[31, 31] 31 #[.slice (some ⟨g, 0, none⟩) ts.length c, .slice (some ⟨w2.heap.size, 0, none⟩) 1 1]).run Tryz.prog (w2.alloc (.cells #[.string ⟨x.toArray⟩] 9)) = .ok (.slice (some ⟨g', 0, none⟩) (ts.length + 1) c') Y ∧ Nm16 w Y b W0.heap.size n D ns (fun z => left z && !z.sameKey (.string x)) cnt1 g' c' (ts ++ [x])) := fun w2 hb2 => HN.out.step hlk hrg1 hlt hg1 hb2 hn
   have HM0 : Hid (wr.rangeLeft b W0.heap.size = cnt) := hrg.left_eq
   have HLen : Hid ((ts ++ [x]).length = ts.length + 1) := by exact (by simp : (ts ++ [x]).length = ts.length + 1)
   generalize ts ++ [x] = ts2 at HSt HLen
   obtain ⟨left2, hl2⟩ : ∃ left2 : Lit → Bool, (fun z => left z && !z.sameKey (.string x)) = left2 := ⟨_, rfl⟩
   rw [hl2] at HSt
   clear hkx hlk hy hat hrg1 hg1 hs1 hrg HN hxl hl2
   go_wp2_with fail
   refine Calls.mono HC.out ?_
   rintro e w2 ⟨rfl, hb2⟩
   obtain ⟨g', c', Y, hrun, hN2⟩ := HSt.out w2 hb2
   have HN2 : Hid (Nm16 w Y b W0.heap.size n D ns left2 cnt1 g' c' ts2) := hN2
   clear HC HSt hb2 hN2
   go_wp2_with (at_builtin; refine za0 rfl (.tmp 12) (.tmp 15) 31 rfl _ _ _ rfl rfl hrun ?_; clear hrun)
   go_wp2
   go_roundw
   case rel => exact ⟨left2, cnt1, g', c', ts2, by rw [HLen.out], HN2⟩
   case measure => rw [HN2.out.rg.left_eq, HM0.out]; exact hlt
end
theorem zfR : ∀ (a b : List UInt8), (Lib.compareBytes a b < 0 ↔ Op.bytesLess a b = true) ∧ (Lib.compareBytes a b = 0 ↔ a = b)
 | [], [] => by simp [Lib.compareBytes, Op.bytesLess]
 | [], _ :: _ => by simp [Lib.compareBytes, Op.bytesLess]
 | _ :: _, [] => by simp [Lib.compareBytes, Op.bytesLess]
 | a :: x, b :: y => by
  have ih := zfR x y
  unfold Lib.compareBytes Op.bytesLess
  by_cases h1 : a < b
  ·
   have hne : a ≠ b := fun e => by subst e; exact UInt8.lt_irrefl _ h1
   simp [h1, hne]
  ·
   by_cases h2 : b < a
   ·
    have hne : a ≠ b := fun e => by subst e; exact UInt8.lt_irrefl _ h2
    simp [h1, h2, hne]
   ·
    have e : a = b := by
     rw [UInt8.lt_iff_toNat_lt] at h1 h2
     exact UInt8.toNat_inj.1 (by omega)
    subst e
    simp only [h1, if_false, decide_false, Bool.false_or, beq_self_eq_true, Bool.true_and, List.cons.injEq, true_and]
    exact ih
set_option maxHeartbeats 1000000 in
set_option maxRecDepth 100000 in
theorem zgv (a b : List UInt8) (w : World) :
 Calls Tryz.prog 58 #[.string ⟨a.toArray⟩, .string ⟨b.toArray⟩] w fun e w' => e = .returned (.int .i64 (Lib.compareBytes a b)) ∧ w' = w := by
 go_enter Tryz.func58, Tryz.ntmps58
 go_wp2
 rw [run_callFunc_extern Tryz.func85 (by kernel_rfl) (by kernel_rfl) (by kernel_rfl) (e := Extern.BytealgCompare.compare) (by kernel_rfl), Lib.run_compareString]
 simp only [Result.andThen]
 rw [Oper.upon_value]
 go_wp2
 go_ret
 exact ⟨rfl, rfl⟩
set_option maxHeartbeats 1000000 in
set_option maxRecDepth 100000 in
theorem zhj (a b : List UInt8) (w : World) :
 Calls Tryz.prog 41 #[.string ⟨a.toArray⟩, .string ⟨b.toArray⟩] w fun e w' => e = .returned (.int .i64 (Lib.compareBytes a b)) ∧ w' = w := by
 go_enter Tryz.func41, Tryz.ntmps41
 go_wp2_with (go_at_call 58; refine (zgv a b _).mono ?_; rintro e w' ⟨rfl, rfl⟩)
 go_ret
 exact ⟨rfl, rfl⟩
set_option maxHeartbeats 400000 in
set_option maxRecDepth 100000 in
theorem zhe (n : Int) (w : World) : Calls Tryz.prog 160 #[.int .i64 n] w fun e w' => e = .returned (.bool (inB n (-2147483648) 2147483647)) ∧ w' = w := by
 by_cases h1 : -2147483648 ≤ n
 ·
  by_cases h2 : n ≤ 2147483647
  ·
   have hB : Hid (inB n (-2147483648) 2147483647 = true) := zdP _ _ _ h1 h2
   go_enter Tryz.func160, Tryz.ntmps160
   go_wp2
   go_ret
   exact ⟨by rw [hB.out]; rfl, rfl⟩
  ·
   have hB : Hid (inB n (-2147483648) 2147483647 = false) := zdx _ _ _ (Or.inr (by omega))
   go_enter Tryz.func160, Tryz.ntmps160
   go_wp2
   go_ret
   exact ⟨by rw [hB.out]; rfl, rfl⟩
 ·
  have hB : Hid (inB n (-2147483648) 2147483647 = false) := zdx _ _ _ (Or.inl (by omega))
  go_enter Tryz.func160, Tryz.ntmps160
  go_wp2
  go_ret
  exact ⟨by rw [hB.out]; rfl, rfl⟩


set_option maxHeartbeats 1000000 in
set_option maxRecDepth 100000 in
theorem zeD (l : List UInt8) (w : World) (hl : l.length ≤ 1048576) :
 Calls Tryz.prog 59 #[.string ⟨l.toArray⟩] w fun e w' => e = .returned (.bool (zaz l)) ∧ w' = w := by
 go_enter Tryz.func59, Tryz.ntmps59
 go_wp2
 go_loop [6] (fun ix => ∃ k : Nat, k ≤ l.length ∧ ix = .int .i64 k ∧ Hid (∀ j (hj : j < l.length), j < k → 97 ≤ l[j].toNat ∧ l[j].toNat ≤ 122)) (fun ix => l.length - (intOf ix).toNat)
 case atStart => exact ⟨0, Nat.zero_le _, rfl, (fun j _ h => by omega : ∀ j (hj : j < l.length), j < 0 → _)⟩
 case round =>
  obtain ⟨k, hk, rfl, HK⟩ := hrel
  by_cases hkl : (k : Int) < (l.length : Int)
  ·
   have hk2 : k < l.length := by omega
   obtain ⟨x, hx⟩ : ∃ x : UInt8, l[k] = x := ⟨_, rfl⟩
   have hxb : (⟨l.toArray⟩ : ByteArray)[k]'(by show k < l.toArray.size; simpa using hk2) = x := hx
   by_cases h1 : (x.toNat : Int) < 97
   ·
    have HF : Hid (zaz l = false) := zeb l k hk2 (by rw [hx]; omega)
    clear hx
    go_wp2
    go_ret
    exact ⟨by rw [HF.out]; rfl, rfl⟩
   ·
    by_cases h2 : 122 < (x.toNat : Int)
    ·
     have HF : Hid (zaz l = false) := zeb l k hk2 (by rw [hx]; omega)
     clear hx
     go_wp2
     go_ret
     exact ⟨by rw [HF.out]; rfl, rfl⟩
    ·
     have HS : Hid (∀ j (hj : j < l.length), j < k + 1 → 97 ≤ l[j].toNat ∧ l[j].toNat ≤ 122) := fun j hj hjk => by
      by_cases e : j = k
      ·
       subst e; rw [hx]; omega
      ·
       exact HK.out j hj (by omega)
     clear hx
     go_wp2
     go_round
     case rel => exact ⟨k + 1, by omega, by go_num, HS⟩
     case measure => simp [intOf]; omega
  ·
   have HF : Hid (zaz l = inB (l.length : Int) 1 8) := zga l (fun j hj => HK.out j hj (by omega))
   by_cases h1 : 1 ≤ (l.length : Int)
   ·
    by_cases h2 : (l.length : Int) ≤ 8
    ·
     have HB : Hid (inB (l.length : Int) 1 8 = true) := zdP _ _ _ h1 h2
     go_wp2
     go_ret
     exact ⟨by rw [HF.out, HB.out]; rfl, rfl⟩
    ·
     have HB : Hid (inB (l.length : Int) 1 8 = false) := zdx _ _ _ (by omega)
     go_wp2
     go_ret
     exact ⟨by rw [HF.out, HB.out]; rfl, rfl⟩
   ·
    have HB : Hid (inB (l.length : Int) 1 8 = false) := zdx _ _ _ (by omega)
    go_wp2
    go_ret
    exact ⟨by rw [HF.out, HB.out]; rfl, rfl⟩
theorem zdR (l : List UInt8) (w : World) (hl : l.length ≤ 1048576) :
 Calls Tryz.prog 59 #[.string ⟨l.toArray⟩] w fun e w' => e = .returned (.bool (zaz l)) ∧ Below w.heap.size w w' :=
 (zeD l w hl).mono fun _ _ h => ⟨h.1, by rw [h.2]; exact Below.refl _ _⟩
end Go.Proofs.YtenaaneckobdpaaGreat
namespace Go.Proofs
open Go.Shelf
def Tryz.lays219_ren : Go.Shelf.Ren := ⟨fun | 219 => 133 | 217 => 139 | 225 => 140 | 224 => 141 | 267 => 142 | 266 => 158 | 314 => 159 | n => n, fun | 9 => 9 | 3 => 3 | 4 => 4 | 5 => 5 | 46 => 91 | 146 => 172 | 51 => 118 | n => n, fun | 1 => 0 | n => n⟩
theorem Tryz.lays219 : Go.Proofs.Lays.n219 Tryz.prog Tryz.lays219_ren := {
 mixed := by kernel_rfl
 f217 := Tryz.func139.trans (congrArg some (by kernel_rfl))
 f219 := Tryz.func133.trans (congrArg some (by kernel_rfl))
 f224 := Tryz.func141.trans (congrArg some (by kernel_rfl))
 f225 := Tryz.func140.trans (congrArg some (by kernel_rfl))
 f266 := Tryz.func158.trans (congrArg some (by kernel_rfl))
 f267 := Tryz.func142.trans (congrArg some (by kernel_rfl))
 f314 := Tryz.func159.trans (congrArg some (by kernel_rfl))
 t3 := Tryz.underlying3
 a3 := Tryz.isAgg3
 z3 := Tryz.sizeOf3
 v3 := Tryz.zeroValue3
 t4 := Tryz.underlying4
 a4 := Tryz.isAgg4
 z4 := Tryz.sizeOf4
 v4 := Tryz.zeroValue4
 t5 := Tryz.underlying5
 a5 := Tryz.isAgg5
 z5 := Tryz.sizeOf5
 v5 := Tryz.zeroValue5
 t9 := Tryz.underlying9
 a9 := Tryz.isAgg9
 z9 := Tryz.sizeOf9
 v9 := Tryz.zeroValue9
 t46 := Tryz.underlying91
 a46 := Tryz.isAgg91
 z46 := Tryz.sizeOf91
 v46 := Tryz.zeroValue91
 t51 := Tryz.underlying118
 a51 := Tryz.isAgg118
 z51 := Tryz.sizeOf118
 v51 := Tryz.zeroValue118
 t146 := Tryz.underlying172
 a146 := Tryz.isAgg172
 z146 := Tryz.sizeOf172
 v146 := Tryz.zeroValue172
 g1 := by kernel_rfl }
open Go.RowKit Go.Lib in
theorem Tryz.stringslite_Index_one (s : ByteArray) (c : UInt8) (w : World) :
 Calls Tryz.prog 133 #[.string s, .string ⟨#[c]⟩] w fun e w' => e = .returned (.int .i64 (Lib.indexByte s.data.toList c)) ∧ w' = w := Any.stringslite_Index_one Tryz.lays219 s c w
end Go.Proofs
namespace Go.Proofs.YtenaaneckobdpaaGreat
open Go.RowKit
end Go.Proofs.YtenaaneckobdpaaGreat
