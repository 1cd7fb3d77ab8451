/-
  Parts of one proof, one behind the other: ArgI, ImgG, ImgG2, ImgG3, Codes.
-/
import Derived.Test.YtnflkecnddbhoaaP34
import Derived.Test.YtnflkecnddbhoaaP4
import Derived.Test.YtnflkecnddbhoaaP28
import Derived.Test.YtnflkecnddbhoaaP32
import Derived.Test.YtnflkecnddbhoaaP6
import Derived.Test.YtnflkecnddbhoaaP3

/-! The contract of the landed code's argsOk (chapter 10). -/
namespace Go.Proofs.Ytnflkecnddbhoaa
open Go.RowKit

/-- What argsOk hands back. -/
def ArgsE (xs : List Int) (many : Int) (e : Ending) : Prop := ∃ b : Bool, e = .returned (.bool b) ∧ (b = true ↔ ((xs.length : Int) = many ∧ ∀ x ∈ xs, Word10 x))
set_option maxHeartbeats 4000000 in
set_option maxRecDepth 100000 in
theorem implArgsOk (aa : Option Addr) (ac : Nat) (xs : List Int) (many : Int) (w : World) (hx : ∀ j, j < xs.length → ∃ b off, aa = some ⟨b, off, none⟩ ∧ b < w.heap.size ∧ w.cell? ⟨b, off + j, none⟩ = some (.int .i64 (xs.getD j 0))) (hxl : xs.length ≤ 1048576) :
    Calls Try.prog 24 #[.slice aa xs.length ac, .int .i64 many] w fun e w' => ArgsE xs many e ∧ Below w.heap.size w w' := by
  by_cases hm : (xs.length : Int) = many
  rotate_left
  · have hmb : ((xs.length : Int) != many) = true := by rw [bne_iff_ne]; exact hm
    have HN : Hid (¬ (xs.length : Int) = many) := hm
    clear hx hm
    go_enter Try.func24, Try.ntmps24
    go_wp2
    go_ret
    exact ⟨⟨false, rfl, ⟨(fun h => (by cases h)), (fun h => absurd h.1 HN.out)⟩⟩, Below.refl _ _⟩
  · have hmb : ((xs.length : Int) != many) = false := by rw [hm]; simp
    have HM : Hid ((xs.length : Int) = many) := hm
    have HX : Hid (_) := hx
    clear hx hm
    go_enter Try.func24, Try.ntmps24
    go_wp2
    go_loopw [13] (fun iv wr => ∃ i : Nat, iv = .int .i64 (i : Int) ∧ i ≤ xs.length ∧ Hid (∀ j, j < i → Word10 (xs.getD j 0)) ∧ Hid (Below w.heap.size w wr)) (fun iv _ => xs.length - (intOf iv).toNat)
    case atStart => exact ⟨0, rfl, by omega, (fun j hj => absurd hj (Nat.not_lt_zero _)), Below.refl _ _⟩
    case round =>
      obtain ⟨i, rfl, hi, HWs, HBr⟩ := hrel
      by_cases hlt : (i : Int) < (xs.length : Int)
      · have hi2 : i < xs.length := by omega
        obtain ⟨b, off, rfl, hb, hc0⟩ := HX.out i hi2
        have hc := (HBr.out.cell (p := ⟨b, off + i, none⟩) hb).trans hc0
        clear hc0
        have hmem : xs.getD i 0 ∈ xs := by simp [List.getD, hi2]
        have HNx : Hid (Word10 (xs.getD i 0) → ∀ j, j < i + 1 → Word10 (xs.getD j 0)) := fun h j hj => by
          rcases Nat.lt_or_ge j i with h1 | h1
          · exact HWs.out j h1
          · obtain rfl : j = i := by omega
            exact h
        generalize xs.getD i 0 = xv at hc hmem HNx
        have HC : Hid (_) := implWordOkS xv wr
        by_cases hwd : Word10 xv
        · have hib : inB xv (-2147483648) 2147483647 = true := decide_eq_true hwd
          rw [hib] at HC
          have HW2 : Hid (_) := HNx.out hwd
          clear hib hwd HNx hmem hb
          go_wp2_with fail
          refine Calls.mono HC.out ?_
          rintro e w4 ⟨rfl, hw4⟩
          obtain rfl := hw4.symm
          go_wp2
          go_roundw
          case rel => exact ⟨i + 1, by go_num, by omega, HW2, HBr⟩
          case measure => simp [intOf]; omega
        · have hib : inB xv (-2147483648) 2147483647 = false := decide_eq_false hwd
          rw [hib] at HC
          have HNo : Hid (¬ ∀ x ∈ xs, Word10 x) := fun h => hwd (h xv hmem)
          clear hib hwd HNx hmem hb
          go_wp2_with fail
          refine Calls.mono HC.out ?_
          rintro e w4 ⟨rfl, hw4⟩
          obtain rfl := hw4.symm
          go_wp2
          go_ret
          exact ⟨⟨false, rfl, ⟨(fun h => (by cases h)), (fun h => absurd h.2 HNo.out)⟩⟩, HBr.out⟩
      · have HAll : Hid (∀ x ∈ xs, Word10 x) := fun x hx => by
          obtain ⟨j, hj, rfl⟩ := List.mem_iff_getElem.1 hx
          have := HWs.out j (by omega)
          simpa [List.getD, hj] using this
        go_wp2
        go_ret
        exact ⟨⟨true, rfl, ⟨(fun _ => ⟨HM.out, HAll.out⟩), (fun _ => rfl)⟩⟩, HBr.out⟩

end Go.Proofs.Ytnflkecnddbhoaa

/-! Contracts of chapter 14's landed code: one instruction of every kind (do), what a routine gives (given), at every fuel; RunImage. -/
namespace Go.Proofs.Ytnflkecnddbhoaa
open Go.RowKit

section
variable (B : World) (rs : List Rt) (ia : Option Addr) (ic : Nat) (X : World) (Rn G : Nat) (m k p : Nat) (xs row : List Int)
set_option maxHeartbeats 4000000 in
set_option maxRecDepth 100000 in
theorem implDo9 (R A Bq : Int) (nm : List UInt8) (av : Value) (hin : RtsCap B ia rs.length ic rs) (hp : imageB rs = true) (hBX : Below B.heap.size B X) (hBR : B.heap.size ≤ Rn) (hBG : B.heap.size ≤ G) (ih : Giv14 B rs ia ic Rn m)
    (h : Rq14 X Rn G (.slice ia rs.length ic) (m : Int) row av (p : Int)) (hir : Ir14 rs k p (9, R, A, Bq, nm)) (hw : WordL row) (hpl : p ≤ 200) :
    Calls Try.prog 56 #[.pointer (some ⟨Rn, 0, none⟩), .pointer (some ⟨G, 0, none⟩), .agg #[.int .i64 9, .int .i64 R, .int .i64 A, .int .i64 Bq, .string ⟨nm.toArray⟩]] X fun e w' => DoOut rs X Rn G (.slice ia rs.length ic) m k p xs row av e w' := by
  have st := du_start h (9, R, A, Bq, nm) ((p : Int) + 1)
  have gp := (h.below ((Below.refl _ X).alloc (Nat.le_refl _) (.cells #[.int .i64 9, .int .i64 R, .int .i64 A, .int .i64 Bq, .string ⟨nm.toArray⟩] 74))).gp
  have gz := (h.below ((Below.refl _ X).alloc (Nat.le_refl _) (.cells #[.int .i64 9, .int .i64 R, .int .i64 A, .int .i64 Bq, .string ⟨nm.toArray⟩] 74))).gz 65
  obtain ⟨Y, hY⟩ : ∃ Y, X.alloc (.cells #[.int .i64 9, .int .i64 R, .int .i64 A, .int .i64 Bq, .string ⟨nm.toArray⟩] 74) = Y := ⟨_, rfl⟩
  simp only at st
  rw [hY] at st gp gz
  obtain ⟨Z, hZ⟩ : ∃ Z, Y.setCell ⟨G, 65, none⟩ (.int .i64 ((p : Int) + 1)) = Z := ⟨_, rfl⟩
  rw [hZ] at st
  have hBZ : Below B.heap.size B Z := hBX.trans (st.w.below hBX.size (fun k e => by rcases e with rfl | rfl; exact hBR; exact hBG))
  have HC : Hid (_) := implCall14 B rs ia ic Z Rn G m k p row R A Bq nm av hin hp hBZ hBR ih ((p : Int) + 1) st.r hir hw
  have hs9 := hir.s9 (xs := xs) (row := row) rfl
  simp only at hs9
  have hyw : WordL ((row.drop R.toNat).take A.toNat) := fun x hx => hw x (List.mem_of_mem_drop (List.mem_of_mem_take hx))
  have hrw := run14_words hp m m (at14 rs nm).toNat _ row14 0 hyw row14_words
  have hrl := run14_left rs m m (at14 rs nm).toNat ((row.drop R.toNat).take A.toNat) row14 0
  have hrc := run14_call (m := m) hs9
  obtain ⟨RR, hRR⟩ : ∃ RR, run14 rs m m (at14 rs nm).toNat ((row.drop R.toNat).take A.toNat) row14 0 = RR := ⟨_, rfl⟩
  rw [hRR] at HC hrw hrl hrc
  obtain ⟨v2, c2, m2⟩ := RR
  simp only at HC hrw hrl hrc
  have HF : Hid (∀ V, Rq14 V Rn G (.slice ia rs.length ic) (m2 : Int) (row.set R.toNat v2) av ((p : Int) + 1) → WroteR Z V (fun q => q = Rn ∨ q = G) → DoOut rs X Rn G (.slice ia rs.length ic) m k p xs row av (.returned (.int .i64 c2)) V) := fun V h1 h2 => by
    refine ⟨c2, _, p + 1, m2, rfl, h1, st.w.trans h2, hw.set _ hrw.1, hrl, ?_⟩
    by_cases hz : c2 = 0
    · rw [if_pos hz] at hrc
      exact Or.inl ⟨hz, hir.nx (by simp) (by simp), hrc⟩
    · rw [if_neg hz] at hrc
      exact Or.inr ⟨hz, hrc⟩
  have i0 := st.i0
  have i1 := st.i1
  have i2 := st.i2
  have i3 := st.i3
  have i4 := st.i4
  obtain ⟨N, hN⟩ : ∃ N, X.heap.size = N := ⟨_, rfl⟩
  rw [hN] at i0 i1 i2 i3 i4
  simp only at i0 i1 i2 i3 i4
  obtain ⟨nr, hnr⟩ : ∃ nr, rs.length = nr := ⟨_, rfl⟩
  rw [hnr] at HC HF ⊢
  clear h hir hw hin hp hBX hBR hBG ih st hBZ hs9 hyw hrw hrl hrc hRR hnr
  go_enter Try.func56, Try.ntmps56
  go_wp2_with fail
  refine Calls.mono HC.out ?_
  rintro e w1 ⟨rfl, h1, h2⟩
  have HO : Hid (_) := HF.out _ h1 h2
  clear h1 h2
  go_wp2
  go_ret
  exact HO.out
/-- One instruction, of whatever kind but the end. -/
theorem implDo (i : In13) (aa : Option Addr) (ac : Nat) (hin : RtsCap B ia rs.length ic rs) (hp : imageB rs = true) (hBX : Below B.heap.size B X) (hBR : B.heap.size ≤ Rn) (hBG : B.heap.size ≤ G) (ih : Giv14 B rs ia ic Rn m)
    (h : Rq14 X Rn G (.slice ia rs.length ic) (m : Int) row (.slice aa xs.length ac) (p : Int)) (hir : Ir14 rs k p i) (hw : WordL row) (hpl : p ≤ 200) (hxs : AsR X Rn G aa xs) (hxl : (xs.length : Int) = (rs.getD k rt0).2.1) (hxw : WordL xs) (h10 : i.1 ≠ 10) :
    Calls Try.prog 56 #[.pointer (some ⟨Rn, 0, none⟩), .pointer (some ⟨G, 0, none⟩), .agg #[.int .i64 i.1, .int .i64 i.2.1, .int .i64 i.2.2.1, .int .i64 i.2.2.2.1, .string ⟨i.2.2.2.2.toArray⟩]] X fun e w' => DoOut rs X Rn G (.slice ia rs.length ic) m k p xs row (.slice aa xs.length ac) e w' := by
  obtain ⟨kd, R, A, Bq, nm⟩ := i
  have hok := hir.ok.2.2
  simp only at hok h10 ⊢
  by_cases h1 : kd = 1
  · subst h1; exact implDo1 rs X Rn G _ m k p xs row R A Bq nm _ h hir hw hpl
  by_cases h2 : kd = 2
  · subst h2; exact implDo2 rs X Rn G _ m k p xs row R A Bq nm aa ac h hir hw hpl hxs hxl hxw
  by_cases h7 : kd = 7
  · subst h7; exact implDo7 rs X Rn G _ m k p xs row R A Bq nm _ h hir hw hpl
  by_cases h8 : kd = 8
  · subst h8; exact implDo8 rs X Rn G _ m k p xs row R A Bq nm _ h hir hw hpl
  by_cases h9 : kd = 9
  · subst h9; exact implDo9 B rs ia ic X Rn G m k p xs row R A Bq nm _ hin hp hBX hBR hBG ih h hir hw hpl
  · exact implDo3 rs X Rn G _ m k p xs row kd R A Bq nm _ h hir (by omega) hw hpl
end

def setAll : Array Value → Nat → List Value → Array Value
  | cs, _, [] => cs
  | cs, o, v :: r => setAll (cs.setIfInBounds o v) (o + 1) r
theorem heap_setCellsG (b : Nat) (T : TypeId) : ∀ (vs : List Value) (o : Nat) (cs : Array Value) (w : World), w.heap[b]? = some (.cells cs T (0, 0)) → (w.setCells b o vs).heap[b]? = some (.cells (setAll cs o vs) T (0, 0))
  | [], _, _, _, h => h
  | v :: r, o, cs, w, h => by
    rw [World.setCells, setAll]
    exact heap_setCellsG b T r (o + 1) _ _ (heap_setCell_same _ _ _ _ _ _ h)
theorem setAll_rg (av : Value) : setAll (rgL row14 (.slice none 0 0) 0).toArray 0 (rgL row14 av 0) = (rgL row14 av 0).toArray := by kernel_rfl
theorem zero_rg (w : World) : (zeroValue 97).run Try.prog w = .ok (.agg (rgL row14 (.slice none 0 0) 0).toArray) w := Try.zeroValue97 w
theorem size_rg : (Try.prog.info? 97).map (·.size) = some 66 := by kernel_rfl
theorem built_rg (aa : Option Addr) (n c : Nat) : Try.prog.built 97 [(1, .slice aa n c)] = some (rgL row14 (.slice aa n c) 0).toArray := by kernel_rfl
section
variable {ops : Array Oper} {rest : List Oper} {op : Oper} {a : Act} {w : World} {Q : Exit → Act → World → Prop}
theorem list_alloc_rg (hgd : op.guard = none) (ho : op.op = .alloc 97) (d : Nat) (hd : op.dst = some d) (h : ∀ Y, Y = w.alloc (.cells (rgL row14 (.slice none 0 0) 0).toArray 97) → wpList Try.prog ops Q rest (a.put (some d) (.pointer (some ⟨w.heap.size, 0, none⟩))) Y) : wpList Try.prog ops Q (op :: rest) a w := by
  refine wpList_plain hgd fun K hK => ?_
  unfold Oper.wp execOp
  simp only [ho, Instr.alloc, Sem.run_bind, zero_rg, Result.andThen_ok, newVar, newRow, run_newObj_alloc, Sem.run_pure, Value.cells]
  have := hK _ _ (h _ rfl)
  rw [← hd] at this
  exact this
theorem rgL_one (row : List Int) (av : Value) (p : Int) (h : av.oneCell' = true) : ∀ v ∈ rgL row av p, v.oneCell' = true := by
  intro v hv
  unfold rgL at hv
  rcases List.mem_append.1 hv with e | e
  · exact intsV_one _ v e
  · simp only [List.mem_cons, List.not_mem_nil, or_false] at e
    rcases e with rfl | rfl
    · exact h
    · rfl
theorem list_store_rg (hgd : op.guard = none) (x y : Operand) (ho : op.op = .store 97 x y) (b : Nat) (av : Value) (hav : av.oneCell' = true) (hx : a.eval x = .pointer (some ⟨b, 0, none⟩)) (hy : a.eval y = .agg (rgL row14 av 0).toArray)
    (ht : w.heap[b]? = some (.cells (rgL row14 (.slice none 0 0) 0).toArray 97 (0, 0)))
    (h : ∀ Y, Y.heap[b]? = some (.cells (rgL row14 av 0).toArray 97 (0, 0)) → w.grownBy Y (some b) → wpList Try.prog ops Q rest (a.put op.dst undef) Y) : wpList Try.prog ops Q (op :: rest) a w := by
  refine wpList_plain hgd fun K hK => ?_
  have hsz : (rgL row14 av 0).toArray.size = 66 := by rw [List.size_toArray]; exact rgL_len rfl
  have hsz0 : (rgL row14 (.slice none 0 0) 0).toArray.size = 66 := by rw [List.size_toArray]; exact rgL_len rfl
  refine wp_store_mid _ x y ho b 0 (rgL row14 av 0).toArray hx hy (fun j hj => ?_) (by rw [hsz]; exact size_rg) (all_oneCell_toArray (rgL_one _ _ _ hav)) ?_
  · rw [cell_of_row _ _ _ _ _ _ ht, frozen_of_row _ _ _ _ _ ht, Nat.zero_add]
    refine ⟨?_, rfl⟩
    rw [hsz] at hj
    rw [Array.getElem?_eq_getElem (by omega)]
    rfl
  · have h1 := heap_setCellsG b _ (rgL row14 av 0) 0 _ w ht
    rw [setAll_rg] at h1
    exact hK _ _ (h _ h1 (grown_setNv b _ 0 w))
end

end Go.Proofs.Ytnflkecnddbhoaa

/-! Contracts of chapter 14's landed code: what a routine gives (given), at every fuel. -/
namespace Go.Proofs.Ytnflkecnddbhoaa
open Go.RowKit

/-- What given holds as it goes round. -/
structure Gv14 (w V : World) (Rn G D : Nat) (tv : Value) (f2 : Nat) (row : List Int) (aa : Option Addr) (ac : Nat) (xs : List Int) (p : Nat) (cv : Value) : Prop where
  r : Rq14 V Rn G tv (f2 : Int) row (.slice aa xs.length ac) (p : Int)
  wr : WroteR w V (fun q => q = Rn ∨ q = G)
  d : V.cell? ⟨D, 2, none⟩ = some cv
  a : AsR V Rn G aa xs
  dl : D < V.heap.size
  dn : D ≠ Rn
  dg : D ≠ G
  gw : w.heap.size ≤ G
section
variable {w V Y : World} {Rn G D : Nat} {tv : Value} {f2 m2 : Nat} {row row2 : List Int} {aa : Option Addr} {ac : Nat} {xs : List Int} {p p2 : Nat} {cv : Value}
theorem Gv14.step (h : Gv14 w V Rn G D tv f2 row aa ac xs p cv) (hr : Rq14 Y Rn G tv (m2 : Int) row2 (.slice aa xs.length ac) (p2 : Int)) (hw : WroteR V Y (fun q => q = Rn ∨ q = G)) : Gv14 w Y Rn G D tv m2 row2 aa ac xs p2 cv :=
  ⟨hr, h.wr.trans hw, (World.cell?_of_block (a := ⟨D, 2, none⟩) (hw.block D h.dl (fun e => by rcases e with e | e; exact h.dn e; exact h.dg e))).trans h.d, h.a.wrote hw, Nat.lt_of_lt_of_le h.dl hw.size, h.dn, h.dg, h.gw⟩
theorem Gv14.below (h : Gv14 w V Rn G D tv f2 row aa ac xs p cv) (hb : Below V.heap.size V Y) : Gv14 w Y Rn G D tv f2 row aa ac xs p cv := h.step (h.r.below hb) (WroteR.of_below hb)
theorem Gv14.fuel (h : Gv14 w V Rn G D tv f2 row aa ac xs p cv) (g : Nat) : Gv14 w (V.setCell ⟨Rn, 1, none⟩ (.int .i64 (g : Int))) Rn G D tv g row aa ac xs p cv := h.step (h.r.fuel _) (wrote_set _ _ _ _ _ (Or.inl rfl))
theorem Gv14.end (h : Gv14 w V Rn G D tv f2 row aa ac xs p cv) : WroteR w V (fun q => q = Rn) ∧ V.heap[Rn]? = some (.cells #[tv, .int .i64 (f2 : Int)] 59 (0, 0)) :=
  ⟨⟨h.wr.os, h.wr.tape, h.wr.output, h.wr.size, fun k hk hn => h.wr.block k hk (fun e => by rcases e with e | e; exact hn e; have := h.gw; omega)⟩, h.r.rb⟩
end

set_option maxHeartbeats 16000000 in
set_option maxRecDepth 100000 in
theorem implGiven (B : World) (rs : List Rt) (ia : Option Addr) (ic Rn : Nat) (hin : RtsCap B ia rs.length ic rs) (hp : imageB rs = true) (f : Nat) (hf : f ≤ 20000) (ih : ∀ m, m < f → Giv14 B rs ia ic Rn m) : Giv14 B rs ia ic Rn f := by
  intro w k xs aa ac nm ar ca cl cc hblk hBw hBR hk hxl hxw hargs hins
  have hcl : (rs.getD k rt0).2.2.length = cl := hins.1
  have hrt := image_rts hp _ (by rw [List.getD_eq_getElem?_getD, List.getElem?_eq_getElem hk]; exact List.getElem_mem hk : rs.getD k rt0 ∈ rs)
  have hco := (rtB_parts hrt).2.2.1
  have hc200 := codeB_len hco
  have hlr : Rn < w.heap.size := lt_of_block hblk
  have HIr : Hid (∀ p, p < cl → Ir14 rs k p ((rs.getD k rt0).2.2.getD p in0)) := fun p hp2 => ir_of hp hk (by omega)
  -- the opening: the routine's box, the registers
  obtain ⟨W1, hW1⟩ : ∃ W, w.alloc (.cells #[.string ⟨nm.toArray⟩, .int .i64 ar, .slice ca cl cc] 51) = W := ⟨_, rfl⟩
  have hb1 : Below w.heap.size w W1 := by rw [← hW1]; exact (Below.refl _ _).alloc (Nat.le_refl _) _
  have hs1 : W1.heap.size = w.heap.size + 1 := by rw [← hW1]; simp
  have hR1 : W1.heap[w.heap.size]? = some (.cells #[.string ⟨nm.toArray⟩, .int .i64 ar, .slice ca cl cc] 51) := by rw [← hW1]; exact heap_alloc_new w _
  have hA2 := heap_alloc_new W1 (.cells (rgL row14 (.slice none 0 0) 0).toArray 97)
  have hb2 : Below W1.heap.size W1 (W1.alloc (.cells (rgL row14 (.slice none 0 0) 0).toArray 97)) := (Below.refl _ _).alloc (Nat.le_refl _) _
  have HGo : Hid (∀ Y V, Y = W1.alloc (.cells (rgL row14 (.slice none 0 0) 0).toArray 97) → V.heap[W1.heap.size]? = some (.cells (rgL row14 (.slice aa xs.length ac) 0).toArray 97 (0, 0)) → Y.grownBy V (some W1.heap.size) → Gv14 w V Rn W1.heap.size w.heap.size (.slice ia rs.length ic) f row14 aa ac xs 0 (.slice ca cl cc)) := fun Y V hY hV hg => by
    subst hY
    have hwV : WroteR w V (fun q => q = Rn ∨ q = W1.heap.size) := ((WroteR.of_below hb1).trans (WroteR.of_below hb2)).trans (WroteR.of_grown hg (fun q e => Or.inr (by injection e with e; exact e.symm)))
    have hkeep : ∀ j, j < W1.heap.size → V.heap[j]? = W1.heap[j]? := fun j hj => (hg.block j (by have := hb2.size; omega) (by intro e; injection e with e; omega)).trans (hb2.block j hj)
    refine ⟨⟨?_, hV, rfl, by omega⟩, hwV, ?_, fun j hj => ?_, ?_, by omega, by omega, by omega⟩
    · rw [hkeep Rn (by omega), hb1.block Rn hlr]; exact hblk
    · rw [World.cell?_of_block (a := ⟨w.heap.size, 2, none⟩) (hkeep w.heap.size (by omega)), cell_of_row _ _ _ _ _ _ hR1]; rfl
    · obtain ⟨b, off, e, h1, h2, h3⟩ := hargs j hj
      exact ⟨b, off, e, h1, by omega, by have := hwV.size; omega, (World.cell?_of_block (a := ⟨b, off + j, none⟩) ((hkeep b (by omega)).trans (hb1.block b h2))).trans h3⟩
    · have := hwV.size; have := hg.size; have := hb2.size; omega
  obtain ⟨RR, hRR⟩ : ∃ RR, run14 rs f f k xs row14 0 = RR := ⟨_, rfl⟩
  rw [hRR]
  have HR0 : Hid (run14 rs f f k xs row14 ((0 : Nat) : Int) = RR) := hRR
  have HDo : Hid (∀ (V : World) (m p : Nat) (row : List Int), m < f → p < cl → Gv14 w V Rn W1.heap.size w.heap.size (.slice ia rs.length ic) m row aa ac xs p (.slice ca cl cc) → WordL row → ((rs.getD k rt0).2.2.getD p in0).1 ≠ 10 →
      Calls Try.prog 56 #[.pointer (some ⟨Rn, 0, none⟩), .pointer (some ⟨W1.heap.size, 0, none⟩), .agg #[.int .i64 ((rs.getD k rt0).2.2.getD p in0).1, .int .i64 ((rs.getD k rt0).2.2.getD p in0).2.1, .int .i64 ((rs.getD k rt0).2.2.getD p in0).2.2.1, .int .i64 ((rs.getD k rt0).2.2.getD p in0).2.2.2.1, .string ⟨((rs.getD k rt0).2.2.getD p in0).2.2.2.2.toArray⟩]] V
        fun e w' => DoOut rs V Rn W1.heap.size (.slice ia rs.length ic) m k p xs row (.slice aa xs.length ac) e w') := fun V m p row hm hp2 hG hw h10 =>
    implDo B rs ia ic V Rn W1.heap.size m k p xs row _ aa ac hin hp (hBw.trans (hG.wr.below hBw.size (fun q e => by rcases e with rfl | rfl; exact hBR; have := hBw.size; omega))) hBR (by have := hBw.size; omega) (ih m hm) hG.r (HIr.out p hp2) hw (by omega) hG.a hxl hxw h10
  have HIn : Hid (∀ V p, p < cl → WroteR w V (fun q => q = Rn ∨ q = W1.heap.size) → ∃ b off, ca = some ⟨b, off, none⟩ ∧ V.cell? ⟨b, off + p * 5, none⟩ = some (.int .i64 ((rs.getD k rt0).2.2.getD p in0).1) ∧ V.cell? ⟨b, off + p * 5 + 1, none⟩ = some (.int .i64 ((rs.getD k rt0).2.2.getD p in0).2.1) ∧ V.cell? ⟨b, off + p * 5 + 2, none⟩ = some (.int .i64 ((rs.getD k rt0).2.2.getD p in0).2.2.1) ∧ V.cell? ⟨b, off + p * 5 + 3, none⟩ = some (.int .i64 ((rs.getD k rt0).2.2.getD p in0).2.2.2.1) ∧ V.cell? ⟨b, off + p * 5 + 4, none⟩ = some (.string ⟨((rs.getD k rt0).2.2.getD p in0).2.2.2.2.toArray⟩)) := fun V p hp2 hwV => by
    have hBV : Below B.heap.size B V := hBw.trans (hwV.below hBw.size (fun q e => by rcases e with rfl | rfl; exact hBR; have := hBw.size; omega))
    obtain ⟨b, off, e, _, h0, h1, h2, h3, h4⟩ := (hins.below hBV).2 p hp2
    exact ⟨b, off, e, h0, h1, h2, h3, h4⟩
  have hcl1 : 1 ≤ cl := by omega
  have hcl2 : cl ≤ 200 := by omega
  have HCl : Hid ((rs.getD k rt0).2.2.length = cl) := hcl
  obtain ⟨G, hG⟩ : ∃ G, W1.heap.size = G := ⟨_, rfl⟩
  obtain ⟨D, hD⟩ : ∃ D, w.heap.size = D := ⟨_, rfl⟩
  obtain ⟨nr, hnr⟩ : ∃ nr, rs.length = nr := ⟨_, rfl⟩
  obtain ⟨nx, hnx⟩ : ∃ nx, xs.length = nx := ⟨_, rfl⟩
  have HNx : Hid (xs.length = nx ∧ rs.length = nr ∧ W1.heap.size = G ∧ w.heap.size = D) := ⟨hnx, hnr, hG, hD⟩
  rw [hnr] at HGo HDo
  rw [hG] at HGo HDo HIn hA2
  rw [hD] at HGo HDo
  rw [hnr, hnx]
  rw [hnx] at HGo
  clear hargs hblk hBw hBR hxl hxw hins hin hp hrt hco hc200 hlr hRR ih hcl hnr hnx hk hb1 hs1 hR1 hb2
  go_enter Try.func25, Try.ntmps25
  go_wp2_with (guard_target = wpList _ _ _ _ _ _; first | (refine list_alloc_rg rfl rfl 8 rfl (fun Y1 hY1 => ?_); rw [hG]) | (refine wpList_buildTo rfl _ _ (op := ⟨some 12, _, _, _, _, _⟩) rfl _ rfl (rgL row14 (.slice aa nx ac) 0).toArray (by exact built_rg aa nx ac) ?_) | (refine list_store_rg rfl _ _ rfl G (.slice aa nx ac) rfl rfl rfl (by rw [hY1]; exact hA2) (fun Y2 hN2 hG2 => ?_)))
  have HS0 : Hid (Gv14 w Y2 Rn G D (.slice ia nr ic) f row14 aa ac xs 0 (.slice ca cl cc)) := HGo.out Y1 Y2 hY1 hN2 hG2
  clear HGo hN2 hG2 hY1 hA2
  simp only [Act.put, List.setIfInBounds_toArray, List.set_cons_zero, List.set_cons_succ]
  go_loopw [9] (fun _ wx => ∃ (f2 : Nat) (row : List Int) (p : Nat), p < cl ∧ Hid (Gv14 w wx Rn G D (.slice ia nr ic) f2 row aa ac xs p (.slice ca cl cc)) ∧ Hid (WordL row ∧ f2 ≤ f ∧ run14 rs f2 f2 k xs row (p : Int) = RR)) (fun _ wx => fuI wx Rn)
  case atStart => exact ⟨f, row14, 0, by omega, HS0, row14_words, Nat.le_refl _, HR0.out⟩
  case round =>
    obtain ⟨f2, row, p, hp, sr, HM⟩ := hrel
    clear HS0
    have c1 := sr.out.r.c1
    have fz1 := sr.out.r.fz 1
    rcases f2 with _ | m
    · have HF : Hid (RR = (0, 2, 0)) := by exact (by rw [← HM.out.2.2]; rfl : RR = (0, 2, 0))
      replace c1 : wr.cell? ⟨Rn, 1, none⟩ = some (.int .i64 0) := c1
      have HE : Hid (_) := sr.out.end
      clear sr HM
      go_wp2
      go_ret2
      rw [HF.out]
      exact ⟨rfl, HE.out.1, HE.out.2⟩
    have hfm := sr.out.r.fu
    obtain ⟨FF, hFF⟩ : ∃ FF, ((m + 1 : Nat) : Int) = FF := ⟨_, rfl⟩
    rw [hFF] at c1
    have hF0 : 0 < FF := by omega
    have hFG : FF - 1 = (m : Int) := by omega
    have hFb : FF ≤ 20001 := by have := HM.out.2.1; omega
    have HFm : Hid (fuI wr Rn = m + 1) := by exact (by rw [hfm]; rfl : fuI wr Rn = m + 1)
    have s1 := sr.out.fuel m
    obtain ⟨X1, hX1⟩ : ∃ X1, wr.setCell ⟨Rn, 1, none⟩ (.int .i64 (m : Int)) = X1 := ⟨_, rfl⟩
    rw [hX1] at s1
    obtain ⟨bc, oc, rfl, x0, x1, x2, x3, x4⟩ := HIn.out X1 p hp s1.wr
    have hir := HIr.out p hp
    have hdo := fun V (hV : Gv14 w V Rn G D (.slice ia nr ic) m row aa ac xs p (.slice (some ⟨bc, oc, none⟩) cl cc)) => HDo.out V m p row (by have := HM.out.2.1; omega) hp hV HM.out.1
    obtain ⟨i, hi⟩ : ∃ i, (rs.getD k rt0).2.2.getD p in0 = i := ⟨_, rfl⟩
    rw [hi] at x0 x1 x2 x3 x4 hir hdo
    obtain ⟨kd, R, A, Bq, nm2⟩ := i
    simp only at x0 x1 x2 x3 x4 hdo
    have d1 := s1.d
    have gp := s1.r.gp
    obtain ⟨X2, hX2⟩ : ∃ X2, X1.alloc (.cells #[.int .i64 kd, .int .i64 R, .int .i64 A, .int .i64 Bq, .string ⟨nm2.toArray⟩] 74) = X2 := ⟨_, rfl⟩
    have hb2 : Below X1.heap.size X1 X2 := by rw [← hX2]; exact (Below.refl _ _).alloc (Nat.le_refl _) _
    have hA2 : X2.heap[X1.heap.size]? = some (.cells #[.int .i64 kd, .int .i64 R, .int .i64 A, .int .i64 Bq, .string ⟨nm2.toArray⟩] 74) := by rw [← hX2]; exact heap_alloc_new X1 _
    have s2 := s1.below hb2
    obtain ⟨N, hN⟩ : ∃ N, X1.heap.size = N := ⟨_, rfl⟩
    have hN1 : wr.heap.size = N := by rw [← hN, ← hX1]; simp
    rw [hN] at hA2
    have j0 : X2.cell? ⟨N, 0, none⟩ = some (.int .i64 kd) := by rw [cell_of_row _ _ _ _ _ _ hA2]; rfl
    have j1 : X2.cell? ⟨N, 1, none⟩ = some (.int .i64 R) := by rw [cell_of_row _ _ _ _ _ _ hA2]; rfl
    have j2 : X2.cell? ⟨N, 2, none⟩ = some (.int .i64 A) := by rw [cell_of_row _ _ _ _ _ _ hA2]; rfl
    have j3 : X2.cell? ⟨N, 3, none⟩ = some (.int .i64 Bq) := by rw [cell_of_row _ _ _ _ _ _ hA2]; rfl
    have j4 : X2.cell? ⟨N, 4, none⟩ = some (.string ⟨nm2.toArray⟩) := by rw [cell_of_row _ _ _ _ _ _ hA2]; rfl
    have hok := hir.ok.2.2
    simp only at hok
    have hpc : (p : Int) < (cl : Int) := by omega
    have S2 : Hid (Gv14 w X2 Rn G D (.slice ia nr ic) m row aa ac xs p (.slice (some ⟨bc, oc, none⟩) cl cc)) := s2
    by_cases h10 : kd = 10
    · subst h10
      have hR : 0 ≤ R ∧ R < 64 := by omega
      have hs10 := run14_stop (m := m) (hir.s10 (xs := xs) (row := row) rfl)
      simp only at hs10
      have HC : Hid (_) := implHeld X2 G R (row.getD R.toNat 0) hR (s2.r.gc _ (by omega))
      have HF : Hid (RR = (row.getD R.toNat 0, 0, m)) := by exact (by rw [← HM.out.2.2, hs10] : RR = (row.getD R.toNat 0, 0, m))
      generalize row.getD R.toNat 0 = rv at HC HF
      have HE : Hid (_) := s2.end
      clear sr s1 s2 HM hir hok hdo hs10 hb2 hA2 hR hi
      go_wp2_with fail
      refine Calls.mono HC.out ?_
      rintro e w1 ⟨rfl, rfl⟩
      go_wp2
      go_ret2
      rw [HF.out]
      exact ⟨rfl, HE.out.1, HE.out.2⟩
    · have HC : Hid (_) := hdo X2 s2 h10
      have hkb : (kd == 10) = false := beq_eq_false_iff_ne.2 h10
      rw [HNx.out.1] at HC
      have HMr : Hid (run14 rs (m + 1) (m + 1) k xs row (p : Int) = RR ∧ m + 1 ≤ f) := ⟨HM.out.2.2, HM.out.2.1⟩
      clear sr s1 s2 HM hir hok hdo hb2 hA2 hi h10
      go_wp2_with fail
      refine Calls.mono HC.out ?_
      rintro e w1 ⟨c, row2, p2, m2, rfl, h1, h2, h3, h4, h5⟩
      have S3 : Hid (Gv14 w w1 Rn G D (.slice ia nr ic) m2 row2 aa ac xs p2 (.slice (some ⟨bc, oc, none⟩) cl cc)) := S2.out.step (by rw [HNx.out.1]; exact h1) h2
      rcases h5 with ⟨rfl, h6, h7⟩ | ⟨h6, h7⟩
      · have HM2 : Hid (WordL row2 ∧ m2 ≤ f ∧ run14 rs m2 m2 k xs row2 (p2 : Int) = RR) := ⟨h3, by have := HMr.out.2; omega, by rw [← h7]; exact HMr.out.1⟩
        have hp2 : p2 < cl := by rw [← HCl.out]; exact h6
        have HF2 : Hid (fuI w1 Rn < fuI wr Rn) := by exact (by rw [HFm.out, S3.out.r.fu]; omega : fuI w1 Rn < fuI wr Rn)
        clear h1 h2 h3 h6 h7 HMr S2
        go_wp2
        go_roundw
        case rel => exact ⟨m2, row2, p2, hp2, S3, HM2⟩
        case measure => exact HF2.out
      · have HF : Hid (RR = (0, c, m2)) := by exact (by rw [← HMr.out.1, h7] : RR = (0, c, m2))
        have HE : Hid (_) := S3.out.end
        have hcb : (c != 0) = true := bne_iff_ne.2 h6
        clear h1 h2 h3 h6 h7 HMr S2 S3 h4
        go_wp2
        go_ret2
        rw [HF.out]
        exact ⟨rfl, HE.out.1, HE.out.2⟩
theorem giv14 (B : World) (rs : List Rt) (ia : Option Addr) (ic Rn : Nat) (hin : RtsCap B ia rs.length ic rs) (hp : imageB rs = true) (f : Nat) : f ≤ 20000 → Giv14 B rs ia ic Rn f := by
  induction f using Nat.strongRecOn with
  | ind f ih => intro hf; exact implGiven B rs ia ic Rn hin hp f hf (fun m hm => ih m hm (by omega))

end Go.Proofs.Ytnflkecnddbhoaa

/-! Contracts of chapter 14's landed code: RunImage. -/
namespace Go.Proofs.Ytnflkecnddbhoaa
open Go.RowKit

theorem runV_notI {rs : List Rt} {nm : List UInt8} {xs : List Int} {fuel : Int} (h : ¬ runP rs nm xs fuel) : runV rs nm xs fuel = (0, 3) := if_neg h
theorem runV_yesI {rs : List Rt} {nm : List UInt8} {xs : List Int} {f k : Nat} (h : runP rs nm xs (f : Int)) (hk : at14 rs nm = (k : Int)) : runV rs nm xs (f : Int) = ((run14 rs f f k xs row14 0).1, (run14 rs f f k xs row14 0).2.1) := by
  have hf : f ≤ 20000 := by have := h.2.2.2.1; omega
  have hw := run14_words h.1 f f k xs row14 0 h.2.2.2.2 row14_words
  have hg := run14_gas rs 20000 f f k xs row14 0 hf (Nat.le_refl _)
  unfold runV
  rw [if_pos h, hk, Int.toNat_natCast, Int.toNat_natCast, hg]
  generalize run14 rs f f k xs row14 0 = RR at hw
  by_cases h0 : RR.2.1 = 0
  · rw [if_pos h0, h0]
  · rw [if_neg h0, hw.2.2 h0]

set_option maxHeartbeats 8000000 in
set_option maxRecDepth 100000 in
theorem implRunImage (a : Option Addr) (len cap : Nat) (rs : List Rt) (nm : List UInt8) (oa : Option Addr) (oc : Nat) (xs : List Int) (fuel : Int) (w : World) (h : RtOk w a len cap rs) (_hn : nm.length ≤ 1048576) (hx : AsIn w oa xs) (hxl : xs.length ≤ 1048576) (_hxc : xs.length ≤ oc) (_hxm : oc ≤ maxLen) (_hxi : ∀ x ∈ xs, (Lit.int .i64 x).wf = true) (_hf : -9223372036854775808 ≤ fuel ∧ fuel ≤ 9223372036854775807) :
    Calls Try.prog 7 #[.agg #[.slice a len cap], .string ⟨nm.toArray⟩, .slice oa xs.length oc, .int .i64 fuel] w fun e w' => e = .returned (.tuple #[.int .i64 (runV rs nm xs fuel).1, .int .i64 (runV rs nm xs fuel).2]) ∧ Below w.heap.size w w' := by
  obtain rfl : rs.length = len := h.c.1
  have HNot : Hid (¬ runP rs nm xs fuel → runV rs nm xs fuel = (0, 3)) := runV_notI
  obtain ⟨W, hW⟩ : ∃ W, w.alloc (.cells #[.slice a rs.length cap] 26) = W := ⟨_, rfl⟩
  have hb : Below w.heap.size w W := by rw [← hW]; exact (Below.refl _ _).alloc (Nat.le_refl _) _
  have hsW : W.heap.size = w.heap.size + 1 := by rw [← hW]; simp
  have hR : W.heap[w.heap.size]? = some (.cells #[.slice a rs.length cap] 26) := by rw [← hW]; exact heap_alloc_new w _
  have hW2 := h.below hb
  have HOk : Hid (RtOk W a rs.length cap rs) := hW2
  have HXs : Hid (AsIn W oa xs) := hx.below hb
  have HBW : Hid (Below w.heap.size w W) := hb
  have c0 : W.cell? ⟨w.heap.size, 0, none⟩ = some (.slice a rs.length cap) := by rw [cell_of_row _ _ _ _ _ _ hR]; rfl
  by_cases hf0 : fuel < 0
  · have HR : Hid (runV rs nm xs fuel = (0, 3)) := HNot.out (fun e => by have := e.2.2.2.1; omega)
    generalize runV rs nm xs fuel = RV at HR ⊢
    clear HNot hW2 h hx HXs HOk
    go_enter Try.func7, Try.ntmps7
    go_wp2
    go_ret2
    rw [HR.out]
    exact ⟨rfl, HBW.out⟩
  by_cases hf1 : 20000 < fuel
  · have HR : Hid (runV rs nm xs fuel = (0, 3)) := HNot.out (fun e => by have := e.2.2.2.1; omega)
    generalize runV rs nm xs fuel = RV at HR ⊢
    clear HNot hW2 h hx HXs HOk
    go_enter Try.func7, Try.ntmps7
    go_wp2
    go_ret2
    rw [HR.out]
    exact ⟨rfl, HBW.out⟩
  obtain ⟨f, hfe⟩ : ∃ f : Nat, fuel = (f : Int) := ⟨fuel.toNat, by omega⟩
  subst hfe
  have HC1 : Hid (_) := implImageOk a rs.length cap rs W hW2
  have HYes : Hid (∀ k : Nat, at14 rs nm = (k : Int) → runP rs nm xs (f : Int) → runV rs nm xs (f : Int) = ((run14 rs f f k xs row14 0).1, (run14 rs f f k xs row14 0).2.1)) := fun k hk hp => runV_yesI hp hk
  obtain ⟨nr, hnr⟩ : ∃ nr, rs.length = nr := ⟨_, rfl⟩
  have HNr : Hid (rs.length = nr) := hnr
  obtain ⟨D, hD⟩ : ∃ D, w.heap.size = D := ⟨_, rfl⟩
  rw [hnr] at HC1 HOk hW hR c0
  rw [hD] at HBW hR c0 hsW
  rw [hnr, hD]
  generalize hRV : runV rs nm xs (f : Int) = RV at HNot HYes ⊢
  clear hW2 h hx hRV hb
  rcases hib : imageB rs with _ | _
  · have HR : Hid (RV = (0, 3)) := HNot.out (fun e => by rw [e.1] at hib; cases hib)
    rw [hib] at HC1
    clear HNot HYes hib HXs HOk
    go_enter Try.func7, Try.ntmps7
    go_wp2_with fail
    refine Calls.mono HC1.out ?_
    rintro e w1 ⟨rfl, hb1⟩
    go_wp2
    go_ret2
    rw [HR.out]
    exact ⟨rfl, HBW.out.trans (hb1.mono (by omega))⟩
  have HIm : Hid (imageB rs = true) := hib
  have HNm : Hid (∀ V, Below W.heap.size W V → Calls Try.prog 23 #[.slice a nr cap, .string ⟨nm.toArray⟩] V fun e w' => NdOut V a rs nm e ∧ Below V.heap.size V w') := fun V hV => by
    have := implNamed a cap rs nm V (by have := (HOk.out.below hV).c; rw [HNr.out]; exact this) (image_rise hib) (by have := HOk.out.l; have := HNr.out; omega)
    rw [HNr.out] at this
    exact this
  have HAr : Hid (∀ V many, Below W.heap.size W V → Calls Try.prog 24 #[.slice oa xs.length oc, .int .i64 many] V fun e w' => ArgsE xs many e ∧ Below V.heap.size V w') := fun V many hV => implArgsOk oa oc xs many V (HXs.out.below hV) hxl
  rw [hib] at HC1
  clear hib
  go_enter Try.func7, Try.ntmps7
  go_wp2_with fail
  refine Calls.mono HC1.out ?_
  rintro e w1 ⟨rfl, hb1⟩
  have d0 : w1.cell? ⟨D, 0, none⟩ = some (.slice a nr cap) := (hb1.cell (p := ⟨D, 0, none⟩) (by show D < _; omega)).trans c0
  have HC2 : Hid (_) := HNm.out w1 hb1
  clear c0 HNm
  go_wp2_with fail
  refine Calls.mono HC2.out ?_
  rintro e w2 ⟨hO, hb2⟩
  have hB2 := hb1.trans (hb2.mono hb1.size)
  have e0 : w2.cell? ⟨D, 0, none⟩ = some (.slice a nr cap) := (hb2.cell (p := ⟨D, 0, none⟩) (by show D < _; have := hb1.size; omega)).trans d0
  have hD2 : D < w2.heap.size := by have := hB2.size; omega
  have HB2 : Hid (Below W.heap.size W w2) := hB2
  clear d0 hb1 hB2
  rcases hO with ⟨hat, rfl⟩ | ⟨k, b2, off2, ca, cl, cc, hk, hat, -, -, hins, -, -, rfl⟩
  · have HR : Hid (RV = (0, 3)) := HNot.out (fun e => by have := e.2.1; rw [hat] at this; omega)
    have HB3 : Hid (Below D w (w2.alloc (.cells #[.string ⟨#[]⟩, .int .i64 0, .slice none 0 0] 51))) := by
      have h1 : Below D w w2 := HBW.out.trans (HB2.out.mono (by omega))
      exact h1.alloc (by omega) _
    clear HNot HYes hat hb2
    go_wp2
    go_ret2
    rw [HR.out]
    exact ⟨rfl, HB3.out⟩
  · -- found: its arguments
    have hBA : Below w2.heap.size w2 (w2.alloc (.cells #[.string ⟨(rs.getD k rt0).1.toArray⟩, .int .i64 (rs.getD k rt0).2.1, .slice ca cl cc] 51)) := (Below.refl _ _).alloc (Nat.le_refl _) _
    have hAl := heap_alloc_new w2 (.cells #[.string ⟨(rs.getD k rt0).1.toArray⟩, .int .i64 (rs.getD k rt0).2.1, .slice ca cl cc] 51)
    have hfb : f ≤ 20000 := by omega
    have HP : Hid (((xs.length : Int) = (rs.getD k rt0).2.1 ∧ ∀ x ∈ xs, Word10 x) ↔ runP rs nm xs (f : Int)) := by
      refine ⟨fun e => ⟨HIm.out, by omega, by rw [hat, Int.toNat_natCast]; exact e.1, ⟨by omega, by omega⟩, e.2⟩, fun e => ⟨by have := e.2.2.1; rw [hat, Int.toNat_natCast] at this; exact this, e.2.2.2.2⟩⟩
    have HNo2 : Hid (¬ runP rs nm xs (f : Int) → RV = (0, 3)) := HNot.out
    have HYe2 : Hid (runP rs nm xs (f : Int) → RV = ((run14 rs f f k xs row14 0).1, (run14 rs f f k xs row14 0).2.1)) := HYes.out k hat
    have HIns : Hid (InsIn w1 ca cl (rs.getD k rt0).2.2 ∧ Below w1.heap.size w1 w2) := ⟨hins, hb2⟩
    have HGv : Hid (∀ (B V : World) (Rn : Nat) (nm' : List UInt8) (ar' : Int), Below w2.heap.size w2 B → V.heap[Rn]? = some (.cells #[.slice a nr cap, .int .i64 (f : Int)] 59 (0, 0)) → Below B.heap.size B V → B.heap.size ≤ Rn → runP rs nm xs (f : Int) →
        Calls Try.prog 25 #[.pointer (some ⟨Rn, 0, none⟩), .agg #[.string ⟨nm'.toArray⟩, .int .i64 ar', .slice ca cl cc], .slice oa xs.length oc] V fun e w' => e = .returned (.tuple #[.int .i64 (run14 rs f f k xs row14 0).1, .int .i64 (run14 rs f f k xs row14 0).2.1]) ∧ WroteR V w' (fun q => q = Rn)) := fun B V Rn nm' ar' hwB hV hBV hBR hP => by
      have hWB : Below W.heap.size W B := HB2.out.trans (hwB.mono HB2.out.size)
      have hcap : RtsCap B a rs.length cap rs := by have := (HOk.out.below hWB).c; rw [HNr.out]; exact this
      have hlx : (xs.length : Int) = (rs.getD k rt0).2.1 := by have := hP.2.2.1; rw [hat, Int.toNat_natCast] at this; exact this
      have hG := giv14 B rs a cap Rn hcap HIm.out f hfb V k xs oa oc nm' ar' ca cl cc (by rw [HNr.out]; exact hV) hBV hBR hk hlx hP.2.2.2.2 (fun j hj => by
        obtain ⟨b, off, e, h1, h2⟩ := (HXs.out.below hWB) j hj
        exact ⟨b, off, e, by omega, Nat.lt_of_lt_of_le h1 hBV.size, (hBV.cell (p := ⟨b, off + j, none⟩) h1).trans h2⟩) ((HIns.out.1.below HIns.out.2).below hwB)
      refine hG.mono ?_
      rintro e w' ⟨h1, h2, _⟩
      exact ⟨h1, h2⟩
    generalize hnm2 : (rs.getD k rt0).1 = nm2 at hBA hAl ⊢
    generalize har2 : (rs.getD k rt0).2.1 = ar2 at hBA hAl HP ⊢
    generalize (run14 rs f f k xs row14 0).1 = v9 at HYe2 HGv
    generalize (run14 rs f f k xs row14 0).2.1 = c9 at HYe2 HGv
    obtain ⟨V3, hV3⟩ : ∃ V, w2.alloc (.cells #[.string ⟨nm2.toArray⟩, .int .i64 ar2, .slice ca cl cc] 51) = V := ⟨_, rfl⟩
    rw [hV3] at hBA hAl
    have hs3 : V3.heap.size = w2.heap.size + 1 := by rw [← hV3]; simp
    obtain ⟨E, hE⟩ : ∃ E, w2.heap.size = E := ⟨_, rfl⟩
    have HBA : Hid (Below w2.heap.size w2 V3) := hBA
    rw [hE] at hAl hs3
    obtain ⟨r0, r1, r2, _⟩ := threeR (Below.refl _ V3) (by omega) hAl
    have HC4 : Hid (_) := HAr.out V3 ar2 (HB2.out.trans (hBA.mono HB2.out.size))
    have g0 : V3.cell? ⟨D, 0, none⟩ = some (.slice a nr cap) := (hBA.cell (p := ⟨D, 0, none⟩) hD2).trans e0
    have HBw2 : Hid (Below D w w2) := HBW.out.trans (HB2.out.mono (by omega))
    obtain ⟨nx, hnx⟩ : ∃ nx, xs.length = nx := ⟨_, rfl⟩
    rw [hnx] at HC4 HGv ⊢
    clear HNot HYes hat hk hins hb2 HAr hBA hnm2 har2 HIns HC2 HC1 hnx e0
    go_wp2_with fail
    refine Calls.mono HC4.out ?_
    rintro e w4 ⟨⟨bb, rfl, hbb⟩, hb4⟩
    have HB4 : Hid (Below w2.heap.size w2 w4) := HBA.out.trans (hb4.mono HBA.out.size)
    have hD4 : D < w4.heap.size := by have := HB4.out.size; omega
    have hE4 : E < w4.heap.size := by have := hb4.size; omega
    rcases bb with _ | _
    · have HR : Hid (RV = (0, 3)) := HNo2.out (fun e => by have := hbb.2 (HP.out.2 e); cases this)
      clear HNo2 HYe2 hbb hb4
      go_wp2
      go_ret2
      rw [HR.out]
      exact ⟨rfl, HBw2.out.trans (HB4.out.mono (by omega))⟩
    · have HPP : Hid (runP rs nm xs (f : Int)) := HP.out.1 (hbb.1 rfl)
      have HR : Hid (RV = (v9, c9)) := HYe2.out HPP.out
      have g4 : w4.cell? ⟨D, 0, none⟩ = some (.slice a nr cap) := (hb4.cell (p := ⟨D, 0, none⟩) (by show D < _; omega)).trans g0
      obtain ⟨t0, t1, t2, _⟩ := threeR hb4 (by omega) hAl
      have hBR : Below w4.heap.size w4 (w4.alloc (.cells #[.slice a nr cap, .int .i64 (f : Int)] 59)) := (Below.refl _ _).alloc (Nat.le_refl _) _
      have hAR := heap_alloc_new w4 (.cells #[.slice a nr cap, .int .i64 (f : Int)] 59)
      obtain ⟨V5, hV5⟩ : ∃ V, w4.alloc (.cells #[.slice a nr cap, .int .i64 (f : Int)] 59) = V := ⟨_, rfl⟩
      rw [hV5] at hBR hAR
      have u0 := (hBR.cell (p := ⟨E, 0, none⟩) hE4).trans t0
      have u1 := (hBR.cell (p := ⟨E, 1, none⟩) hE4).trans t1
      have u2 := (hBR.cell (p := ⟨E, 2, none⟩) hE4).trans t2
      have HC5 : Hid (_) := HGv.out w4 V5 w4.heap.size nm2 ar2 HB4.out hAR hBR (Nat.le_refl _) HPP.out
      have HB5 : Hid (Below w4.heap.size w4 V5) := hBR
      clear HNo2 HYe2 hbb hb4 hBR hAR HGv r0 r1 r2 g0 HC4 hAl
      go_wp2_with fail
      refine Calls.mono HC5.out ?_
      rintro e w6 ⟨rfl, hw6⟩
      have HB6 : Hid (Below D w w6) := by
        have h1 : Below D w w4 := HBw2.out.trans (HB4.out.mono (by omega))
        have h2 : Below D w V5 := h1.trans (HB5.out.mono (by omega))
        exact h2.trans (hw6.below (by have := HB5.out.size; omega) (fun k e => by subst e; omega))
      clear hw6
      go_wp2
      go_ret2
      rw [HR.out]
      exact ⟨rfl, HB6.out⟩

end Go.Proofs.Ytnflkecnddbhoaa

/-! A code that came in, as the laws' walks take it. -/
namespace Go.Proofs.Ytnflkecnddbhoaa
open Go.RowKit

theorem code_nil (w : World) : Code w w.heap.size none 0 := fun j hj => by omega

theorem code_of (w : World) (x : Addr) (len : Nat) (zs : List Int) (h : ∀ i, i < zs.length → w.cell? (x.add i) = some (.int .u8 (zs.getD i 0))) (hl : len ≤ zs.length) (hw : ∀ n ∈ zs, (Lit.int .u8 n).wf = true) : Code w w.heap.size (some x) len := by
  intro j hj
  obtain ⟨b, off, spot⟩ := x
  have hc := h j (by omega)
  have hspot : spot = none := by simpa [Addr.add] using World.cell?_spot (h 0 (by omega))
  subst hspot
  have e : (⟨b, off, none⟩ : Addr).add j = ⟨b, off + j, none⟩ := by unfold Addr.add; split <;> simp_all
  rw [e] at hc
  have hb := bounds_u8 (hw (zs.getD j 0) (by rw [List.getD_eq_getElem?_getD, List.getElem?_eq_getElem (by omega)]; exact List.getElem_mem _))
  exact ⟨b, off, _, rfl, World.block_lt_of_cell? w ⟨b, off + j, none⟩ hc, hc, hb⟩

set_option maxHeartbeats 400000 in
set_option maxRecDepth 100000 in
theorem bigB (w : World) (a : Option Addr) (len cap : Nat) :
    Calls Try.prog 5 #[.slice a len cap] w fun e w' => e = .returned (.bool (decide (4096 < (len : Int)))) ∧ w' = w := by
  go_enter Try.func5, Try.ntmps5
  go_wp2
  go_ret
  exact ⟨rfl, rfl⟩

end Go.Proofs.Ytnflkecnddbhoaa
