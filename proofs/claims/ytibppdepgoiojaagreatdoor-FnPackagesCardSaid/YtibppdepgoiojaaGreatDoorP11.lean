/-
  Parts of one proof, one behind the other: RowW, PackS4, PackC.
-/
import Derived.Test.YtibppdepgoiojaaGreatDoorP10
import Derived.Test.YtibppdepgoiojaaGreatDoorP7
import Derived.Test.YtibppdepgoiojaaGreatDoorP4
import Derived.Laws.IdiomCopy
import Derived.Test.YtibppdepgoiojaaGreatDoorP9
import Derived.Test.YtibppdepgoiojaaGreatDoorP6

/-! A row of bytes that a call has made of a string ('[]byte(s)'), and 'append(b, s...)' onto it, whether there is room or not. -/
namespace Go.Proofs.YtibppdepgoiojaaGreatDoor
open Go.RowKit

/-- Block g, new since 'base', holds the bytes l from its head on; all of its cap cells may be written. -/
structure RowW (w : World) (base g cap : Nat) (l : List UInt8) : Prop where
  row : RowB w base g cap l
  all : ∀ j, j < cap → (w.cell? ⟨g, j, none⟩).isSome = true ∧ w.frozen? ⟨g, j, none⟩ = false

theorem RowW.kept {w w' : World} {base g cap : Nat} {l : List UInt8} {row : Option Nat} (h : RowW w base g cap l) (hg : w.grownBy w' row) (hne : some g ≠ row) : RowW w' base g cap l := by
  have hb := hg.block g h.row.there hne
  exact ⟨h.row.kept hg hne, fun j hj => by rw [World.cell?_of_block (a := ⟨g, j, none⟩) hb, World.frozen?_of_block (a := ⟨g, j, none⟩) hb]; exact h.all j hj⟩

theorem RowW.below {w w' : World} {base g cap : Nat} {l : List UInt8} (h : RowW w base g cap l) (hb : Below w.heap.size w w') : RowW w' base g cap l :=
  h.kept (row := none) ⟨hb.os, hb.tape, hb.output, hb.size, fun k hk _ => hb.block k hk⟩ (by simp)

theorem RowW.drew {w : World} {base g cap : Nat} {l : List UInt8} (h : RowW w base g cap l) : RowW w.drew base g cap l :=
  h.below ⟨rfl, rfl, rfl, Nat.le_refl _, fun _ _ => rfl⟩

theorem heap_setCells (b : Nat) : ∀ (vs : List Value) (o : Nat) (w : World), (w.setCells b o vs).heap.size = w.heap.size ∧ ∀ k, k ≠ b → (w.setCells b o vs).heap[k]? = w.heap[k]?
  | [], _, _ => ⟨rfl, fun _ _ => rfl⟩
  | v :: r, o, w => by
    obtain ⟨h1, h2⟩ := heap_setCells b r (o + 1) (w.setCell ⟨b, o, none⟩ v)
    refine ⟨by rw [World.setCells, h1]; simp, fun k hk => ?_⟩
    rw [World.setCells, h2 k hk]
    exact Below.heap_setCell w _ v k (fun e => hk e)

theorem grown_setCells (b : Nat) : ∀ (vs : List Value) (o : Nat) (w : World), w.grownBy (w.setCells b o vs) (some b)
  | [], _, w => World.grownBy.refl w _
  | v :: r, o, w => by
    rw [World.setCells]
    exact (grown_set w b o v).trans (grown_setCells b r (o + 1) _)

theorem strV_bytes (s : List UInt8) : Lib.strCells ⟨s.toArray⟩ = bytesV s := strCells_list s

theorem RowW.append_at {w : World} {base g cap : Nat} {l : List UInt8} (h : RowW w base g cap l) (s : List UInt8) (hlen : l.length + s.length ≤ 4194304) (hbase : base ≤ w.heap.size) (ty : TypeId) :
    ∃ g' cap' w', (Builtin.append_ #[22, 9] ty #[.slice (some ⟨g, 0, none⟩) l.length cap, .string ⟨s.toArray⟩]).run Tryz.prog w = .ok (.slice (some ⟨g', 0, none⟩) (l ++ s).length cap') w' ∧ RowW w' base g' cap' (l ++ s) ∧ w.grownBy w' (some g) ∧ (g' = g ∨ g' = w.heap.size) := by
  obtain ⟨i0, hi, hz0, hz1, hz2⟩ := info_parts info5
  have hss : (⟨s.toArray⟩ : ByteArray).size = s.length := List.size_toArray
  have hll : (l ++ s).length = l.length + s.length := List.length_append
  by_cases hroom : l.length + s.length ≤ cap
  · have hf := Lib.run_firstCells_string (P := Tryz.prog) w 1 ⟨s.toArray⟩
    have hc : ∀ j, j < (bytesV s).length → (w.cell? ⟨g, l.length + j, none⟩).isSome = true := fun j hj => (h.all _ (by rw [bytesV_len] at hj; omega)).1
    have hfz : ∀ j, j < (bytesV s).length → w.frozen? ⟨g, l.length + j, none⟩ = false := fun j hj => (h.all _ (by rw [bytesV_len] at hj; omega)).2
    have hst := run_storeCells_cells (P := Tryz.prog) g l.length (bytesV s) 0 w (by simpa using hc) (by simpa using hfz) (bytesV_one s)
    rw [hss, strV_bytes] at hf
    refine ⟨g, cap, w.setCells g l.length (bytesV s), ?_, ?_, grown_setCells g _ _ w, Or.inl rfl⟩
    · rw [hll]
      simp [Builtin.append_, run_underlying Tryz.underlying22, run_underlying Tryz.underlying9, sizeOf, typeInfo, hi, hz1, Builtin.lenOf, hss, hroom, hf, Addr.add_lit, hst]
    · have hsz := heap_setCells g (bytesV s) l.length w
      refine ⟨⟨h.row.new, by rw [hsz.1]; exact h.row.there, by rw [hll]; exact hroom, h.row.most, ?_, ?_⟩, ?_⟩
      · intro j hj
        rw [hll] at hj
        by_cases hjl : j < l.length
        · rw [World.cell?_setCells_out g (bytesV s) l.length w _ (fun i _ => by simp; omega), h.row.cells j hjl, List.getElem_append_left hjl]
        · have hj2 : j - l.length < (bytesV s).length := by rw [bytesV_len]; omega
          have := World.cell?_setCells_in g (bytesV s) l.length w hc (j - l.length) hj2
          rw [show l.length + (j - l.length) = j by omega] at this
          rw [this, List.getElem_append_right (by omega)]
          simp [bytesV]
      · intro j hj
        rw [World.frozen?_setCells]
        exact (h.all j (by omega)).2
      · intro j hj
        rw [World.frozen?_setCells]
        refine ⟨?_, (h.all j hj).2⟩
        by_cases hin : l.length ≤ j ∧ j < l.length + s.length
        · have hj2 : j - l.length < (bytesV s).length := by rw [bytesV_len]; omega
          have := World.cell?_setCells_in g (bytesV s) l.length w hc (j - l.length) hj2
          rw [show l.length + (j - l.length) = j by omega] at this
          rw [this]; rfl
        · rw [World.cell?_setCells_out g (bytesV s) l.length w _ (fun _ _ => by rw [bytesV_len]; simp; omega)]
          exact (h.all j hj).1
  · have holds : ∀ j u, (bytesV l)[j]? = some u → w.cell? ((⟨g, 0, none⟩ : Addr).add j) = some u := by
      intro j u hu
      obtain ⟨hj, rfl⟩ := bytesV_at _ _ _ hu
      rw [show (⟨g, 0, none⟩ : Addr).add j = ⟨g, j, none⟩ by unfold Addr.add; split <;> simp_all]
      exact h.row.cells j hj
    have hr := Lib.run_append_grow_string (P := Tryz.prog) w 22 9 ty 5 i0 (.int .u8 0) Tryz.underlying22 Tryz.underlying9 hi hz0 ⟨g, 0, none⟩ l.length cap (bytesV l) (by rw [bytesV_len, hz1]; omega) holds ⟨s.toArray⟩ (by rw [hss]; omega) (by rw [hss]; omega) (by rw [hss, hz2, Nat.mul_one]; exact (by have := growslice_fits (need := l.length + s.length) (old := cap) (bytes := 1) (by omega) (by omega); simpa using this))
    rw [hss, strV_bytes] at hr
    have hge := grownCap_ge w (l.length + s.length) cap 5
    have hcm := grownCap_le_maxLen w (l.length + s.length) cap 5 (by unfold maxLen; omega)
    generalize grownCap w (l.length + s.length) cap 5 = c at hr hge hcm
    obtain ⟨C, hC⟩ : ∃ C, (bytesV l).toArray ++ (bytesV s).toArray ++ Builtin.zeroCells (Value.int .u8 0).cells (c - (l.length + s.length)) = C := ⟨_, rfl⟩
    rw [hC] at hr
    have hCs : C.size = c := by
      have hz1' : (Value.int IntKind.u8 0).cells.size = 1 := rfl
      rw [← hC]; simp only [Array.size_append, List.size_toArray, size_zeroCells, hz1', bytesV_len]; omega
    have hown : (w.drew.alloc (.cells C 5)).ownsRow base 5 1 (.slice (some ⟨w.heap.size, 0, none⟩) (l ++ s).length c) (l ++ s).length (bytesV (l ++ s)) := by
      refine ⟨by rw [bytesV_len]; omega, Or.inr ⟨w.heap.size, c, C, rfl, hbase, heap_alloc_new w.drew _, by rw [hll]; exact hge, hcm, by omega, ?_⟩⟩
      rw [← hC]
      simp only [Array.toList_append, List.append_assoc]
      rw [← List.append_assoc, bytesV_append, Nat.mul_one, ← bytesV_len (l ++ s)]
      exact List.take_left
    have hB : RowB (w.drew.alloc (.cells C 5)) base w.heap.size c (l ++ s) := by
      obtain ⟨g2, c2, e2, hrow⟩ := RowB.of_own hown (by simp)
      injection e2 with e3 _ e4
      injection e3 with e3
      injection e3 with e3
      subst e3; subst e4
      exact hrow
    refine ⟨w.heap.size, c, _, by rw [hll]; exact hr, ⟨hB, fun j hj => ?_⟩, ?_, Or.inr rfl⟩
    · have hA : (w.drew.alloc (.cells C 5)).heap[w.heap.size]? = some (.cells C 5) := heap_alloc_new w.drew _
      generalize w.drew.alloc (.cells C 5) = W at hA ⊢
      refine ⟨?_, by simp [World.frozen?, hA]⟩
      simp [World.cell?, hA]
      omega
    · exact ⟨rfl, rfl, rfl, by simp, fun k hk _ => Below.heap_alloc w.drew _ k hk⟩

theorem RowW.append {w : World} {base g cap : Nat} {l : List UInt8} (h : RowW w base g cap l) (s : List UInt8) (hlen : l.length + s.length ≤ 4194304) (hbase : base ≤ w.heap.size) (ty : TypeId) :
    ∃ g' cap' w', (Builtin.append_ #[22, 9] ty #[.slice (some ⟨g, 0, none⟩) l.length cap, .string ⟨s.toArray⟩]).run Tryz.prog w = .ok (.slice (some ⟨g', 0, none⟩) (l ++ s).length cap') w' ∧ RowW w' base g' cap' (l ++ s) ∧ w.grownBy w' (some g) := by
  obtain ⟨g', cap', w', h1, h2, h3, _⟩ := h.append_at s hlen hbase ty
  exact ⟨g', cap', w', h1, h2, h3⟩

/-- '[]byte(s)': the new block, its value and its world. -/
theorem RowW.made (w : World) (l : List UInt8) (hl : l.length ≤ 4194304) :
    ∃ cap w', (convert 9 22 (.string ⟨l.toArray⟩)).run Tryz.prog w = .ok (.slice (some ⟨w.heap.size, 0, none⟩) l.length cap) w' ∧ RowW w' w.heap.size w.heap.size cap l ∧ Below w.heap.size w w' := by
  have hconv := run_bytes_of_string (P := Tryz.prog) w 9 22 5 ⟨l.toArray⟩ Tryz.underlying9 Tryz.underlying22 Tryz.underlying5
  have hrow := RowB.made w l (by unfold maxLen; omega)
  have hszs : (⟨l.toArray⟩ : ByteArray).size = l.length := rfl
  rw [hszs] at hconv
  have hge := grownCap_ge w l.length 0 5
  have hCs : (bytesRow ⟨l.toArray⟩ (grownCap w l.length 0 5)).size = grownCap w l.length 0 5 := by simp [bytesRow]; omega
  generalize bytesRow ⟨l.toArray⟩ (grownCap w l.length 0 5) = C at hconv hrow hCs
  generalize grownCap w l.length 0 5 = cp at hconv hrow hge hCs
  refine ⟨cp, _, hconv, ⟨hrow, fun j hj => ?_⟩, ((Below.refl _ w).drew).alloc (Nat.le_refl _) _⟩
  have hA : (w.drew.alloc (.cells C 5 (C.size, C.size + 1))).heap[w.heap.size]? = some (.cells C 5 (C.size, C.size + 1)) := heap_alloc_new w.drew _
  generalize w.drew.alloc (.cells C 5 (C.size, C.size + 1)) = W at hA ⊢
  refine ⟨?_, ?_⟩
  · simp [World.cell?, hA]; omega
  · simp [World.frozen?, hA]; omega

/-- 'append(b, s...)' at a step of a region that draws. -/
theorem step_append_str {P : Program} {w w' : World} {ops : Array Oper} {o : Oper} {a : Act} {K : Act → World → Prop} {Q : Exit → Act → World → Prop} {E : Prop} (hgd : o.guard = none) (s x : Operand) (t u : TypeId)
    (ho : o.op = .call { callee := .builtin .append, args := #[s, x], argTypes := #[t, u] }) (v y v' : Value) (hs : a.eval s = v) (hx : a.eval x = y)
    (hrun : (Builtin.append_ #[t, u] o.type #[v, y]).run P w = .ok v' w') (h : K (a.put o.dst v') w') :
    if Region.wanted o (yielded ops a.tmps) = true then Oper.wp P o a w K Q else E := by
  have hw : Region.wanted o (yielded ops a.tmps) = true := by simp [Region.wanted, hgd]
  rw [if_pos hw]
  unfold Oper.wp
  simp [execOp, ho, resolve, invoke, builtin, hs, hx, hrun, Result.andThen]
  exact h

/-- 'append(b, s...)' in a plain region. -/
theorem wpList_append_str {P : Program} {w w' : World} {ops : Array Oper} {rest : List Oper} {o : Oper} {a : Act} {Q : Exit → Act → World → Prop} (hgd : o.guard = none) (s x : Operand) (t u : TypeId)
    (ho : o.op = .call { callee := .builtin .append, args := #[s, x], argTypes := #[t, u] }) (v y v' : Value) (hs : a.eval s = v) (hx : a.eval x = y)
    (hrun : (Builtin.append_ #[t, u] o.type #[v, y]).run P w = .ok v' w') (h : wpList P ops Q rest (a.put o.dst v') w') : wpList P ops Q (o :: rest) a w := by
  refine wpList_plain hgd fun K hK => ?_
  unfold Oper.wp
  simp [execOp, ho, resolve, invoke, builtin, hs, hx, hrun, Result.andThen]
  exact hK _ _ h

end Go.Proofs.YtibppdepgoiojaaGreatDoor

/-! The contracts of chapter 7's specification: l7Show, ShowPackage. -/
namespace Go.Proofs.YtibppdepgoiojaaGreatDoor
open Go.RowKit

/-- A line with its end. -/

theorem showP_head (nm : List UInt8) : showP (nm, [], []) = lineT (packLn nm) := by simp [showP, pkLines, termJ, lineT]

theorem showP_imp (nm : List UInt8) (ims : List (List UInt8)) (k : Nat) (hk : k < ims.length) : showP (nm, ims.take (k + 1), []) = showP (nm, ims.take k, []) ++ lineT (impLn (ims.getD k [])) := by
  unfold lineT
  have e : ims.getD k [] = ims[k] := by rw [List.getD_eq_getElem?_getD, List.getElem?_eq_getElem hk]; rfl
  rw [e, List.take_succ_eq_append_getElem hk]
  simp only [showP, pkLines, termJ, List.map_append, List.map_cons, List.map_nil, List.flatten_append, List.flatten_cons, List.flatten_nil, List.append_nil, List.append_assoc]

theorem showP_fn (nm : List UInt8) (ims : List (List UInt8)) (fs : List Fn) (k : Nat) (hk : k < fs.length) : showP (nm, ims, fs.take (k + 1)) = showP (nm, ims, fs.take k) ++ lineT (funcLn (fs.getD k fn0)) := by
  unfold lineT
  have e : fs.getD k fn0 = fs[k] := by rw [List.getD_eq_getElem?_getD, List.getElem?_eq_getElem hk]; rfl
  rw [e, List.take_succ_eq_append_getElem hk]
  simp only [showP, pkLines, termJ, List.map_append, List.map_cons, List.map_nil, List.flatten_append, List.flatten_cons, List.flatten_nil, List.append_nil, List.append_assoc]

theorem showP_le1 (nm : List UInt8) (ims : List (List UInt8)) (fs : List Fn) (k : Nat) : (showP (nm, ims.take k, [])).length ≤ (showP (nm, ims, fs)).length := by
  have : showP (nm, ims, fs) = showP (nm, ims.take k, []) ++ termJ ((ims.drop k).map impLn ++ fs.map funcLn) := by
    unfold showP pkLines
    rw [← termJ_append]
    congr 1
    simp only [List.map_nil, List.append_nil, List.cons_append]
    rw [← List.append_assoc, ← List.map_append, List.take_append_drop]
  rw [this, List.length_append]; omega

theorem showP_le2 (nm : List UInt8) (ims : List (List UInt8)) (fs : List Fn) (k : Nat) : (showP (nm, ims, fs.take k)).length ≤ (showP (nm, ims, fs)).length := by
  have : showP (nm, ims, fs) = showP (nm, ims, fs.take k) ++ termJ ((fs.drop k).map funcLn) := by
    unfold showP pkLines
    rw [← termJ_append]
    congr 1
    simp only [List.cons_append, List.append_assoc]
    rw [← List.map_append, List.take_append_drop]
  rw [this, List.length_append]; omega

/-- What a round of l7Show's second loop holds: the function's own block, the row that is written, the function's tree. -/
structure ShSt (X W : World) (B F g cap : Nat) (l s : List UInt8) (n : Int) (t : List Nd) (ta : Option Addr) (tl tc : Nat) : Prop where
  c0 : X.cell? ⟨F, 0, none⟩ = some (.string ⟨s.toArray⟩)
  c1 : X.cell? ⟨F, 1, none⟩ = some (.int .i64 n)
  c2 : X.cell? ⟨F, 2, none⟩ = some (.slice ta tl tc)
  ne : g ≠ F
  row : RowW X B g cap l
  nodes : NodesIn X ta tl t
  b : Below B W X
  bs : B ≤ X.heap.size

theorem ShSt.below {X Y W : World} {B F g cap : Nat} {l s : List UInt8} {n : Int} {t : List Nd} {ta : Option Addr} {tl tc : Nat} (h : ShSt X W B F g cap l s n t ta tl tc) (hb : Below X.heap.size X Y) : ShSt Y W B F g cap l s n t ta tl tc :=
  have hl : F < X.heap.size := World.block_lt_of_cell? X ⟨F, 0, none⟩ h.c0
  ⟨(hb.cell (p := ⟨F, 0, none⟩) hl).trans h.c0, (hb.cell (p := ⟨F, 1, none⟩) hl).trans h.c1, (hb.cell (p := ⟨F, 2, none⟩) hl).trans h.c2, h.ne, h.row.below hb, h.nodes.below hb, h.b.trans (hb.mono h.bs), Nat.le_trans h.bs hb.size⟩

theorem ShSt.drew {X W : World} {B F g cap : Nat} {l s : List UInt8} {n : Int} {t : List Nd} {ta : Option Addr} {tl tc : Nat} (h : ShSt X W B F g cap l s n t ta tl tc) : ShSt X.drew W B F g cap l s n t ta tl tc :=
  h.below ⟨rfl, rfl, rfl, Nat.le_refl _, fun _ _ => rfl⟩

/-- The end of such a round: the row has the line. -/
theorem ShSt.append {X W : World} {B F g cap : Nat} {l s : List UInt8} {n : Int} {t : List Nd} {ta : Option Addr} {tl tc : Nat} (h : ShSt X W B F g cap l s n t ta tl tc) (x : List UInt8) (hx : l.length + x.length ≤ 4194304) :
    ∃ g' cap' w', (Builtin.append_ #[22, 9] 22 #[.slice (some ⟨g, 0, none⟩) l.length cap, .string ⟨x.toArray⟩]).run Tryz.prog X = .ok (.slice (some ⟨g', 0, none⟩) (l ++ x).length cap') w' ∧ RowW w' B g' cap' (l ++ x) ∧ Below B W w' ∧
      w'.cell? ⟨F, 0, none⟩ = some (.string ⟨s.toArray⟩) ∧ w'.cell? ⟨F, 1, none⟩ = some (.int .i64 n) ∧ w'.cell? ⟨F, 2, none⟩ = some (.slice ta tl tc) := by
  obtain ⟨g', cap', w', hrun, hrow, hg⟩ := h.row.append x hx h.bs 22
  have hl : F < X.heap.size := World.block_lt_of_cell? X ⟨F, 0, none⟩ h.c0
  have hbk := hg.block F hl (by intro e; injection e with e; exact h.ne e.symm)
  exact ⟨g', cap', w', hrun, hrow, h.b.grown hg h.bs (fun q e => by injection e with e; rw [← e]; exact h.row.row.new), (World.cell?_of_block (a := ⟨F, 0, none⟩) hbk).trans h.c0, (World.cell?_of_block (a := ⟨F, 1, none⟩) hbk).trans h.c1, (World.cell?_of_block (a := ⟨F, 2, none⟩) hbk).trans h.c2⟩

set_option maxHeartbeats 4000000 in
set_option maxRecDepth 100000 in
theorem specShowP (nm : List UInt8) (ia : Option Addr) (il ic : Nat) (fa : Option Addr) (fl fc : Nat) (ims : List (List UInt8)) (fs : List Fn) (w : World) (hi : TextsIn w ia il ims) (hf : FuncsIn w fa fl fs) (hp : pkgB (nm, ims, fs) = true) :
    Calls Tryz.prog 37 #[.agg #[.string ⟨nm.toArray⟩, .slice ia il ic, .slice fa fl fc]] w fun e w' => e = .returned (.string ⟨(showP (nm, ims, fs)).toArray⟩) ∧ Below w.heap.size w w' := by
  obtain rfl : fs.length = fl := hf.1
  obtain rfl : ims.length = il := hi.1
  have hlen := showP_len hp
  obtain ⟨hp1, hp2, hp3, ⟨hp4, hp5⟩, hp6⟩ := pkgB_parts hp
  simp only at hp1 hp2 hp3 hp4 hp5 hp6
  obtain ⟨W, hW⟩ : ∃ W, w.alloc (.cells #[.string ⟨nm.toArray⟩, .slice ia ims.length ic, .slice fa fs.length fc] 27) = W := ⟨_, rfl⟩
  obtain ⟨st, hB⟩ := PkIn.new (w := w) (nm := nm) (ic := ic) (fc := fc) hi hf
  rw [hW] at st hB
  have hWs : W.heap.size = w.heap.size + 1 := by rw [← hW]; simp
  obtain ⟨D, hD⟩ : ∃ D, w.heap.size = D := ⟨_, rfl⟩
  rw [hD] at st hB
  clear hi hf
  have k0 := st.k0
  have k1 := st.k1
  have h1 := showP_le1 nm ims fs 0
  rw [List.take_zero, showP_head] at h1
  have hnl := (name_letters hp1).1.2
  obtain ⟨cp, w1, hconv, hrow1, hb1⟩ := RowW.made W (lineT (packLn nm)) (by omega)
  have e1 : ∀ X : World, (Op.stringOp .add ⟨#[112, 97, 99, 107, 97, 103, 101, 32]⟩ ⟨nm.toArray⟩).run Tryz.prog X = .ok (.string ⟨(packLn nm).toArray⟩) X := fun X => run_string_add_lists (P := Tryz.prog) X [112, 97, 99, 107, 97, 103, 101, 32] nm (by simp) (by omega)
  have e2 : ∀ X : World, (Op.stringOp .add ⟨(packLn nm).toArray⟩ ⟨#[10]⟩).run Tryz.prog X = .ok (.string ⟨(lineT (packLn nm)).toArray⟩) X := fun X => run_string_add_lists (P := Tryz.prog) X (packLn nm) [10] (by unfold lineT at h1; rw [List.length_append, List.length_singleton] at h1; omega) (by simp)
  rw [hD] at hWs
  rw [hWs] at hconv hrow1 hb1
  have HST : Hid (PkIn W D nm ia ims.length ic fa fs.length fc ims fs) := st
  have HB : Hid (Below D w W) := hB
  have HP2 : Hid (∀ x ∈ ims, nameB x = true) := hp2
  have HP6 : Hid (∀ f ∈ fs, funcB f = true) := hp6
  have HLen : Hid ((showP (nm, ims, fs)).length ≤ 20000) := hlen
  have HWs : Hid (W.heap.size = D + 1) := hWs
  clear hp hp1 hp2 hp6 hlen h1 hB st k1
  go_enter Tryz.func37, Tryz.ntmps37
  go_wp2
  clear hconv e1 e2 k0
  go_loopw [3, 4] (fun v i wr => ∃ (k g cap : Nat) (l : List UInt8), k ≤ ims.length ∧ i = .int .i64 k ∧ v = .slice (some ⟨g, 0, none⟩) l.length cap ∧ Hid (l = showP (nm, ims.take k, [])) ∧ Hid (RowW wr (D + 1) g cap l) ∧ Hid (Below (D + 1) W wr)) (fun _ i _ => ims.length - (intOf i).toNat)
  case atStart => exact ⟨0, D + 1, cp, lineT (packLn nm), Nat.zero_le _, rfl, rfl, (by rw [List.take_zero, showP_head] : _ = _), hrow1, hb1⟩
  case round =>
    obtain ⟨k, g, cap, l, hk, rfl, rfl, HL, HR, HBl⟩ := hrel
    clear hrow1 hb1
    have hsz : D + 1 ≤ wr.heap.size := by have := HBl.out.size; rw [HWs.out] at this; exact this
    have st := HST.out.below (by rw [HWs.out]; exact HBl.out)
    have k1 := st.k1
    have k2 := st.k2
    by_cases hkl : (k : Int) < (ims.length : Int)
    · have hk2 : k < ims.length := by omega
      obtain ⟨b, off, rfl, hbl, c0⟩ := st.i.2 k hk2
      have hst := showP_imp nm ims k hk2
      have hle := showP_le1 nm ims fs (k + 1)
      have hnk : nameB (ims.getD k []) = true := HP2.out _ (by rw [List.getD_eq_getElem?_getD, List.getElem?_eq_getElem hk2]; exact List.getElem_mem hk2)
      obtain ⟨x, hx⟩ : ∃ x, ims.getD k [] = x := ⟨_, rfl⟩
      rw [hx] at c0 hst hnk
      have hxl := (name_letters hnk).1.2
      rw [hst, List.length_append, ← HL.out] at hle
      have hlx : l.length + (lineT (impLn x)).length ≤ 20000 := Nat.le_trans hle HLen.out
      obtain ⟨g', cap', w', hrun, hrow', hg'⟩ := HR.out.append (lineT (impLn x)) (by omega) hsz 22
      have HR' : Hid (RowW w' (D + 1) g' cap' (l ++ lineT (impLn x))) := hrow'
      have HB' : Hid (Below (D + 1) W w') := HBl.out.grown hg' hsz (fun q e => by injection e with e; rw [← e]; exact HR.out.row.new)
      have HL' : Hid (l ++ lineT (impLn x) = showP (nm, ims.take (k + 1), [])) := by exact (by rw [hst, HL.out] : l ++ lineT (impLn x) = showP (nm, ims.take (k + 1), []))
      have hil : (impLn x).length ≤ 15 := by unfold impLn kwImport; simp; omega
      have e3 : ∀ X : World, (Op.stringOp .add ⟨#[105, 109, 112, 111, 114, 116, 32]⟩ ⟨x.toArray⟩).run Tryz.prog X = .ok (.string ⟨(impLn x).toArray⟩) X := fun X => run_string_add_lists (P := Tryz.prog) X [105, 109, 112, 111, 114, 116, 32] x (by simp) (by omega)
      have e4 : ∀ X : World, (Op.stringOp .add ⟨(impLn x).toArray⟩ ⟨#[10]⟩).run Tryz.prog X = .ok (.string ⟨(lineT (impLn x)).toArray⟩) X := fun X => run_string_add_lists (P := Tryz.prog) X (impLn x) [10] (by omega) (by simp)
      clear hst hle hx hnk hxl hlx hrow' hg' HL HR HBl hil k2 st
      go_wp2_with (at_builtin; refine wpList_append_str rfl (.tmp 19) (.tmp 26) 22 9 rfl _ _ _ rfl rfl hrun ?_; clear hrun)
      go_roundw
      case rel => exact ⟨k + 1, g', cap', l ++ lineT (impLn x), by omega, by go_num, by first | rfl | simp, HL', HR', HB'⟩
      case measure => simp [intOf]; omega
    · obtain rfl : k = ims.length := by omega
      have HL0 : Hid (l = showP (nm, ims, fs.take 0)) := by exact (by rw [HL.out, List.take_length, List.take_zero] : l = showP (nm, ims, fs.take 0))
      clear HL st k2 hsz hkl
      go_wp2
      clear k1
      go_loopw [3, 5] (fun v i wr => ∃ (k g cap : Nat) (l : List UInt8), k ≤ fs.length ∧ i = .int .i64 k ∧ v = .slice (some ⟨g, 0, none⟩) l.length cap ∧ Hid (l = showP (nm, ims, fs.take k)) ∧ Hid (RowW wr (D + 1) g cap l) ∧ Hid (Below (D + 1) W wr)) (fun _ i _ => fs.length - (intOf i).toNat)
      case atStart => exact ⟨0, g, cap, l, Nat.zero_le _, rfl, rfl, HL0, HR, HBl⟩
      case round =>
        clear HL0 HR HBl
        obtain ⟨k, g, cap, l, hk, rfl, rfl, HL, HR, HBl⟩ := hrel
        have hsz : D + 1 ≤ wr.heap.size := by have := HBl.out.size; rw [HWs.out] at this; exact this
        have st := HST.out.below (by rw [HWs.out]; exact HBl.out)
        have k2 := st.k2
        by_cases hkl : (k : Int) < (fs.length : Int)
        · have hk2 : k < fs.length := by omega
          obtain ⟨b, off, rfl, hbl, c0, c1, ta, tl, tc, c2, hnc, hin⟩ := st.f.2 k hk2
          have hst := showP_fn nm ims fs k hk2
          have hle := showP_le2 nm ims fs (k + 1)
          have hnk : funcB (fs.getD k fn0) = true := HP6.out _ (by rw [List.getD_eq_getElem?_getD, List.getElem?_eq_getElem hk2]; exact List.getElem_mem hk2)
          obtain ⟨f, hfe⟩ : ∃ f, fs.getD k fn0 = f := ⟨_, rfl⟩
          rw [hfe] at c0 c1 hin hst hnk
          obtain ⟨s, n, t⟩ := f
          simp only at c0 c1 hin hst hnk
          have hfl := funcLn_len hnk
          unfold funcB at hnk
          simp only [Bool.and_eq_true] at hnk
          obtain ⟨hs, hn, ht⟩ := hnk
          have hnb : 0 ≤ n ∧ n ≤ 3 := by unfold inB at hn; exact of_decide_eq_true hn
          have HTN : Hid (∀ nd ∈ t, nodeB nd = true) := tree_nodes ht
          have htl : tl ≤ 60 := by have := (tree_end ht).1.2; rw [hin.1] at this; exact this
          rw [hst, List.length_append, ← HL.out] at hle
          have hlx : l.length + (lineT (funcLn (s, n, t))).length ≤ 20000 := Nat.le_trans hle HLen.out
          have HL' : Hid (l ++ lineT (funcLn (s, n, t)) = showP (nm, ims, fs.take (k + 1))) := by exact (by rw [hst, HL.out] : l ++ lineT (funcLn (s, n, t)) = showP (nm, ims, fs.take (k + 1)))
          obtain ⟨A1, hA1⟩ : ∃ A, kwFunc ++ [32] ++ s = A := ⟨_, rfl⟩
          obtain ⟨A2, hA2⟩ : ∃ A, A1 ++ [32] = A := ⟨_, rfl⟩
          obtain ⟨A3, hA3⟩ : ∃ A, A2 ++ intL n = A := ⟨_, rfl⟩
          obtain ⟨A4, hA4⟩ : ∃ A, A3 ++ [32] = A := ⟨_, rfl⟩
          obtain ⟨A5, hA5⟩ : ∃ A, A4 ++ showL t = A := ⟨_, rfl⟩
          have hA6 : funcLn (s, n, t) = A5 := by rw [← hA5, ← hA4, ← hA3, ← hA2, ← hA1]; rfl
          have l5 : A5.length ≤ 1900 := by rw [← hA6]; exact hfl
          have l4 : A4.length + (showL t).length ≤ 1900 := by rw [← List.length_append, hA5]; exact l5
          have l3 : A3.length + 1 ≤ 1900 := by have := congrArg List.length hA4; simp at this; omega
          have l2 : A2.length + (intL n).length ≤ 1900 := by have := congrArg List.length hA3; rw [List.length_append] at this; omega
          have l1 : A1.length + 1 ≤ 1900 := by have := congrArg List.length hA2; simp at this; omega
          have l0 : s.length ≤ 8 := (name_letters hs).1.2
          have e1 : ∀ X : World, (Op.stringOp .add ⟨#[102, 117, 110, 99, 32]⟩ ⟨s.toArray⟩).run Tryz.prog X = .ok (.string ⟨A1.toArray⟩) X := fun X => by rw [← hA1]; exact run_string_add_lists (P := Tryz.prog) X [102, 117, 110, 99, 32] s (by simp) (by omega)
          have e2 : ∀ X : World, (Op.stringOp .add ⟨A1.toArray⟩ ⟨#[32]⟩).run Tryz.prog X = .ok (.string ⟨A2.toArray⟩) X := fun X => by rw [← hA2]; exact run_string_add_lists (P := Tryz.prog) X A1 [32] (by omega) (by simp)
          have e3 : ∀ X : World, (Op.stringOp .add ⟨A2.toArray⟩ ⟨(intL n).toArray⟩).run Tryz.prog X = .ok (.string ⟨A3.toArray⟩) X := fun X => by rw [← hA3]; exact run_string_add_lists (P := Tryz.prog) X A2 (intL n) (by omega) (by omega)
          have e4 : ∀ X : World, (Op.stringOp .add ⟨A3.toArray⟩ ⟨#[32]⟩).run Tryz.prog X = .ok (.string ⟨A4.toArray⟩) X := fun X => by rw [← hA4]; exact run_string_add_lists (P := Tryz.prog) X A3 [32] (by omega) (by simp)
          have e5 : ∀ X : World, (Op.stringOp .add ⟨A4.toArray⟩ ⟨(showL t).toArray⟩).run Tryz.prog X = .ok (.string ⟨A5.toArray⟩) X := fun X => by rw [← hA5]; exact run_string_add_lists (P := Tryz.prog) X A4 (showL t) (by omega) (by omega)
          have e6 : ∀ X : World, (Op.stringOp .add ⟨A5.toArray⟩ ⟨#[10]⟩).run Tryz.prog X = .ok (.string ⟨(lineT A5).toArray⟩) X := fun X => run_string_add_lists (P := Tryz.prog) X A5 [10] (by omega) (by simp)
          rw [hA6] at HL' hlx
          have hlx2 : l.length + (lineT A5).length ≤ 4194304 := by omega
          clear hst hle hs hn ht hA1 hA2 hA3 hA4 hA5 hA6 l0 l1 l2 l3 l4 l5 hfe HL hnc hlx hfl
          have hneF : g ≠ wr.heap.size := by have := HR.out.row.there; omega
          obtain ⟨V, hV⟩ : ∃ V, wr.alloc (.cells #[.string ⟨s.toArray⟩, .int .i64 n, .slice ta tl tc] 37) = V := ⟨_, rfl⟩
          have hbV : Below wr.heap.size wr V := by rw [← hV]; exact (Below.refl _ _).alloc (Nat.le_refl _) _
          have hVF : V.heap[wr.heap.size]? = some (.cells #[.string ⟨s.toArray⟩, .int .i64 n, .slice ta tl tc] 37) := by rw [← hV]; exact heap_alloc_new wr _
          have sv : ShSt V W (D + 1) wr.heap.size g cap l s n t ta tl tc := ⟨by simp [World.cell?, hVF], by simp [World.cell?, hVF], by simp [World.cell?, hVF], hneF, HR.out.below hbV, hin.below hbV, HBl.out.trans (hbV.mono hsz), Nat.le_trans hsz hbV.size⟩
          clear hVF hbV hneF HR HBl hin st
          go_wp2_with fail
          replace c0 := sv.c0
          replace c1 := sv.c1
          replace c2 := sv.c2
          clear hbl
          replace sv := sv.drew
          first | (go_region_held3 (fun w' => w'.cell? ⟨wr.heap.size, 0, none⟩ = some (.string ⟨s.toArray⟩) ∧ w'.cell? ⟨wr.heap.size, 1, none⟩ = some (.int .i64 n) ∧ w'.cell? ⟨wr.heap.size, 2, none⟩ = some (.slice ta tl tc)) (go_keep) (first | (go_at_call 67; refine (specInt n _ (by omega) (by omega)).mono ?_; rintro e wn ⟨rfl, hbn⟩; replace sv := sv.below hbn; clear hbn; replace c0 := sv.c0; replace c1 := sv.c1; replace c2 := sv.c2) | (go_at_call 66; refine (specShowL ta tl tc t _ sv.nodes HTN.out htl).mono ?_; rintro e wn ⟨rfl, hbn⟩; replace sv := sv.below hbn; clear hbn; replace c0 := sv.c0; replace c1 := sv.c1; replace c2 := sv.c2) | (obtain ⟨g', cap', wz, hrun, hrow', hbz, z0, z1, z2⟩ := sv.append (lineT A5) hlx2; refine step_append_str (by rfl) (.tmp 40) (.tmp 54) 22 9 (by rfl) _ _ _ (by rfl) (by rfl) hrun ?_; clear hrun))) | fail
          all_goals
            have HR' : Hid (RowW wz (D + 1) g' cap' (l ++ lineT A5)) := hrow'
            have HB' : Hid (Below (D + 1) W wz) := hbz
            clear hrow' hbz sv z0 z1 z2 c0 c1 c2 e1 e2 e3 e4 e5 e6
            go_wp2
            go_roundw
            case rel => exact ⟨k + 1, g', cap', l ++ lineT A5, by omega, by go_num, by first | rfl | simp, HL', HR', HB'⟩
            case measure => simp [intOf]; omega
        · obtain rfl : k = fs.length := by omega
          have HLE : Hid (l = showP (nm, ims, fs)) := by exact (by rw [HL.out, List.take_length] : l = showP (nm, ims, fs))
          have hback := HR.out.row.back
          have HBd : Hid (Below D w wr) := HB.out.trans (HBl.out.mono (by omega))
          clear HL st
          go_wp2
          go_ret
          exact ⟨by rw [← HLE.out]; rfl, by first | exact HBd.out | (rw [hD]; exact HBd.out)⟩

set_option maxHeartbeats 2000000 in
set_option maxRecDepth 100000 in
theorem specShowPackage (nm : List UInt8) (ia : Option Addr) (il ic : Nat) (fa : Option Addr) (fl fc : Nat) (ims : List (List UInt8)) (fs : List Fn) (w : World) (hi : TextsIn w ia il ims) (hf : FuncsIn w fa fl fs) (hil : il ≤ 1048576) (hfl : fl ≤ 1048576) (hnl : nm.length ≤ 1048576) (his : ∀ i, (ims.getD i []).length ≤ 1048576) (hfs : ShortF fs) :
    Calls Tryz.prog 13 #[.agg #[.string ⟨nm.toArray⟩, .slice ia il ic, .slice fa fl fc]] w fun e w' => e = .returned (.string ⟨(showPk (nm, ims, fs)).toArray⟩) ∧ Below w.heap.size w w' := by
  obtain ⟨W, hW⟩ : ∃ W, w.alloc (.cells #[.string ⟨nm.toArray⟩, .slice ia il ic, .slice fa fl fc] 27) = W := ⟨_, rfl⟩
  obtain ⟨st, hB⟩ := PkIn.new (w := w) (nm := nm) (ic := ic) (fc := fc) hi hf
  rw [hW] at st hB
  have hWs : W.heap.size = w.heap.size + 1 := by rw [← hW]; simp
  have HC := specPackageOk nm ia il ic fa fl fc ims fs W st.i st.f hil hfl hnl his hfs
  have k0 := st.k0
  have k1 := st.k1
  have k2 := st.k2
  rcases hp : pkgB (nm, ims, fs) with _ | _
  · have HP : Hid (pkgB (nm, ims, fs) = false) := hp
    have HS : Hid (showPk (nm, ims, fs) = []) := pack_not hp
    clear hp
    go_enter Tryz.func13, Tryz.ntmps13
    go_wp2_with fail
    refine HC.mono ?_
    rintro e w1 ⟨rfl, hb1⟩
    rw [HP.out]
    have hB1 : Below w.heap.size w w1 := hB.trans (hb1.mono hB.size)
    clear HC k0 k1 k2 hb1 st hB
    go_wp2
    go_ret
    exact ⟨by rw [HS.out]; rfl, hB1⟩
  · have HP : Hid (pkgB (nm, ims, fs) = true) := hp
    have HS : Hid (showPk (nm, ims, fs) = showP (nm, ims, fs)) := by exact (by unfold showPk; rw [if_pos hp] : showPk (nm, ims, fs) = showP (nm, ims, fs))
    clear hp
    go_enter Tryz.func13, Tryz.ntmps13
    go_wp2_with fail
    refine HC.mono ?_
    rintro e w1 ⟨rfl, hb1⟩
    rw [HP.out]
    have hB1 : Below w.heap.size w w1 := hB.trans (hb1.mono hB.size)
    have st1 := st.below hb1
    replace k0 := st1.k0
    replace k1 := st1.k1
    replace k2 := st1.k2
    have HC2 := specShowP nm ia il ic fa fl fc ims fs w1 st1.i st1.f HP.out
    clear HC hb1 st hB
    go_wp2_with fail
    refine HC2.mono ?_
    rintro e w2 ⟨rfl, hb2⟩
    have hB2 : Below w.heap.size w w2 := hB1.trans (hb2.mono hB1.size)
    clear HC2 k0 k1 k2 hb2 st1 hB1
    go_wp2
    go_ret
    exact ⟨by rw [HS.out]; rfl, hB2⟩

end Go.Proofs.YtibppdepgoiojaaGreatDoor

/-! Texts and trees are copied: l1Texts; rows as 'append' reads them. -/
namespace Go.Proofs.YtibppdepgoiojaaGreatDoor
open Go.RowKit


theorem TextsIn.src {w : World} {a : Option Addr} {len cap : Nat} {ts : List (List UInt8)} (h : TextsIn w a len ts) (hc : a = none → cap = 0) : Src w (.slice a len cap) len 1 (strV ts) := by
  have hl : (strV ts).length = len := by simp [strV, h.1]
  refine ⟨by rw [hl]; omega, fun u hu => ?_, ?_⟩
  · simp only [strV, List.mem_map] at hu
    obtain ⟨x, _, rfl⟩ := hu
    rfl
  rcases a with _ | ad
  · have h0 : len = 0 := by
      rcases Nat.eq_zero_or_pos len with h' | h'
      · exact h'
      · obtain ⟨b, off, e, _⟩ := h.2 0 h'
        cases e
    exact Or.inl ⟨by rw [h0, hc rfl], h0⟩
  · refine Or.inr ⟨ad, cap, rfl, fun j u hu => ?_⟩
    have hj : j < (strV ts).length := by
      rcases Nat.lt_or_ge j (strV ts).length with h' | h'
      · exact h'
      · rw [List.getElem?_eq_none h'] at hu; cases hu
    rw [hl] at hj
    obtain ⟨b, off, e, _, c0⟩ := h.2 j hj
    injection e with e
    subst e
    rw [add_plain, c0]
    rw [strV_at ts j (by rw [h.1]; exact hj)] at hu
    rw [← hu, List.getD_eq_getElem?_getD, List.getElem?_eq_getElem (by rw [h.1]; exact hj)]
    rfl

theorem NodesIn.src {w : World} {a : Option Addr} {len cap : Nat} {ns : List Nd} (h : NodesIn w a len ns) (hc : a = none → cap = 0) : Src w (.slice a len cap) len 4 (nodesV ns) := by
  refine ⟨by rw [nodesV_len, h.1], nodesV_one ns, ?_⟩
  rcases a with _ | ad
  · have h0 : len = 0 := by
      rcases Nat.eq_zero_or_pos len with h' | h'
      · exact h'
      · obtain ⟨b, off, e, _⟩ := h.2 0 h'
        cases e
    exact Or.inl ⟨by rw [h0, hc rfl], h0⟩
  · refine Or.inr ⟨ad, cap, rfl, fun j u hu => ?_⟩
    have hj : j < (nodesV ns).length := by
      rcases Nat.lt_or_ge j (nodesV ns).length with h' | h'
      · exact h'
      · rw [List.getElem?_eq_none h'] at hu; cases hu
    rw [nodesV_len, h.1] at hj
    obtain ⟨b, off, e, _, c0, c1, c2, c3⟩ := h.2 (j / 4) (by omega)
    injection e with e
    subst e
    obtain ⟨v0, v1, v2, v3⟩ := nodesV_at ns (j / 4) (by rw [h.1]; omega)
    rw [add_plain]
    rcases (show j % 4 = 0 ∨ j % 4 = 1 ∨ j % 4 = 2 ∨ j % 4 = 3 by omega) with h' | h' | h' | h'
    · rw [show j / 4 * 4 = j by omega] at v0 c0
      rw [hu] at v0
      rw [c0, v0]
    · rw [show j / 4 * 4 + 1 = j by omega] at v1
      rw [hu] at v1
      rw [show off + j = off + j / 4 * 4 + 1 by omega, c1, v1]
    · rw [show j / 4 * 4 + 2 = j by omega] at v2
      rw [hu] at v2
      rw [show off + j = off + j / 4 * 4 + 2 by omega, c2, v2]
    · rw [show j / 4 * 4 + 3 = j by omega] at v3
      rw [hu] at v3
      rw [show off + j = off + j / 4 * 4 + 3 by omega, c3, v3]

set_option maxHeartbeats 1000000 in
set_option maxRecDepth 100000 in
theorem specTexts (a : Option Addr) (len cap : Nat) (ts : List (List UInt8)) (w : World) (hin : TextsIn w a len ts) (hc : a = none → cap = 0) (hlen : len ≤ 1048576) :
    Calls Tryz.prog 55 #[.slice a len cap] w fun e w' => ∃ v, e = .returned v ∧ w'.ownsRow w.heap.size 9 1 v ts.length (strV ts) ∧ Below w.heap.size w w' := by
  obtain rfl : ts.length = len := hin.1
  obtain ⟨i0, hi, hz0, hz1, hz2⟩ := info_parts info9
  have hbA : Below w.heap.size w (w.alloc (.cells #[] 9)) := (Below.refl _ _).alloc (Nat.le_refl _) _
  have hown0 := (World.ownsRow_lit (base := w.heap.size) (e := 9) (size := 1) w #[] 0 (Nat.le_refl _) (by decide) rfl)
  obtain ⟨v', w', hrun, hown', hg, _⟩ := run_append_src (P := Tryz.prog) (w.alloc (.cells #[] 9)) w.heap.size 24 24 9 i0 _ 1 16 Tryz.underlying24 hi hz0 hz1 hz2 rfl (by decide) _ _ _ hown0 (.slice a ts.length cap) ts.length (strV ts) ((hin.below hbA).src hc) (by unfold maxLen; omega) (by omega) (by simp)
  have hb : Below w.heap.size w w' := hbA.grown hg hbA.size (fun q e => by simp [Value.ownBlock] at e; omega)
  have HO : Hid (w'.ownsRow w.heap.size 9 1 v' ts.length (strV ts)) := by
    simp only [Nat.zero_add] at hown'
    exact (by simpa using hown' : w'.ownsRow w.heap.size 9 1 v' ts.length (strV ts))
  clear hown' hg hown0 hbA hin
  go_enter Tryz.func55, Tryz.ntmps55
  go_wp2_with (at_builtin; refine wpList_append_run rfl (.tmp 3) (.tmp 4) 24 rfl _ _ _ rfl rfl hrun ?_; clear hrun)
  go_ret
  exact ⟨v', rfl, HO.out, hb⟩

end Go.Proofs.YtibppdepgoiojaaGreatDoor
