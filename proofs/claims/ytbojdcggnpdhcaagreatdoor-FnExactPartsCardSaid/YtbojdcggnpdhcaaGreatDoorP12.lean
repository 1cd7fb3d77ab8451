/-
  Parts of one proof, one behind the other: RowW, PackS4, TreeS4, TreeS5, PackC.
-/
import Derived.Test.YtbojdcggnpdhcaaGreatDoorP11
import Derived.Test.YtbojdcggnpdhcaaGreatDoorP3
import Derived.Laws.IdiomCopy
import Derived.Test.YtbojdcggnpdhcaaGreatDoorP8
import Derived.Test.YtbojdcggnpdhcaaGreatDoorP4
import Derived.Deep.RegionWith
import Derived.Test.YtbojdcggnpdhcaaGreatDoorP7

/-! A row of bytes that a call has made of a string ('[]byte(s)'), and 'append(b, s...)' onto it, whether there is room or not. -/
namespace Go.Proofs.YtbojdcggnpdhcaaGreatDoor
open Go.RowKit

/-- Block g, new since 'base', holds the bytes l from its head on; all of its cap cells may be written. -/
structure RowW (w : World) (base g cap : Nat) (l : List UInt8) : Prop where
  row : RowB w base g cap l
  all : ∀ j, j < cap → (w.cell? ⟨g, j, none⟩).isSome = true ∧ w.frozen? ⟨g, j, none⟩ = false

theorem RowW.kept {w w' : World} {base g cap : Nat} {l : List UInt8} {row : Option Nat} (h : RowW w base g cap l) (hg : w.grownBy w' row) (hne : some g ≠ row) : RowW w' base g cap l := by
  have hb := hg.block g h.row.there hne
  exact ⟨h.row.kept hg hne, fun j hj => by rw [World.cell?_of_block (a := ⟨g, j, none⟩) hb, World.frozen?_of_block (a := ⟨g, j, none⟩) hb]; exact h.all j hj⟩

theorem RowW.below {w w' : World} {base g cap : Nat} {l : List UInt8} (h : RowW w base g cap l) (hb : Below w.heap.size w w') : RowW w' base g cap l :=
  h.kept (row := none) ⟨hb.os, hb.tape, hb.output, hb.size, fun k hk _ => hb.block k hk⟩ (by simp)

theorem RowW.drew {w : World} {base g cap : Nat} {l : List UInt8} (h : RowW w base g cap l) : RowW w.drew base g cap l :=
  h.below ⟨rfl, rfl, rfl, Nat.le_refl _, fun _ _ => rfl⟩

theorem heap_setCells (b : Nat) : ∀ (vs : List Value) (o : Nat) (w : World), (w.setCells b o vs).heap.size = w.heap.size ∧ ∀ k, k ≠ b → (w.setCells b o vs).heap[k]? = w.heap[k]?
  | [], _, _ => ⟨rfl, fun _ _ => rfl⟩
  | v :: r, o, w => by
    obtain ⟨h1, h2⟩ := heap_setCells b r (o + 1) (w.setCell ⟨b, o, none⟩ v)
    refine ⟨by rw [World.setCells, h1]; simp, fun k hk => ?_⟩
    rw [World.setCells, h2 k hk]
    exact Below.heap_setCell w _ v k (fun e => hk e)

theorem grown_setCells (b : Nat) : ∀ (vs : List Value) (o : Nat) (w : World), w.grownBy (w.setCells b o vs) (some b)
  | [], _, w => World.grownBy.refl w _
  | v :: r, o, w => by
    rw [World.setCells]
    exact (grown_set w b o v).trans (grown_setCells b r (o + 1) _)

theorem strV_bytes (s : List UInt8) : Lib.strCells ⟨s.toArray⟩ = bytesV s := strCells_list s

theorem RowW.append_at {w : World} {base g cap : Nat} {l : List UInt8} (h : RowW w base g cap l) (s : List UInt8) (hlen : l.length + s.length ≤ 4194304) (hbase : base ≤ w.heap.size) (ty : TypeId) :
    ∃ g' cap' w', (Builtin.append_ #[68, 9] ty #[.slice (some ⟨g, 0, none⟩) l.length cap, .string ⟨s.toArray⟩]).run Tryz.prog w = .ok (.slice (some ⟨g', 0, none⟩) (l ++ s).length cap') w' ∧ RowW w' base g' cap' (l ++ s) ∧ w.grownBy w' (some g) ∧ (g' = g ∨ g' = w.heap.size) := by
  obtain ⟨i0, hi, hz0, hz1, hz2⟩ := info_parts info5
  have hss : (⟨s.toArray⟩ : ByteArray).size = s.length := List.size_toArray
  have hll : (l ++ s).length = l.length + s.length := List.length_append
  by_cases hroom : l.length + s.length ≤ cap
  · have hf := Lib.run_firstCells_string (P := Tryz.prog) w 1 ⟨s.toArray⟩
    have hc : ∀ j, j < (bytesV s).length → (w.cell? ⟨g, l.length + j, none⟩).isSome = true := fun j hj => (h.all _ (by rw [bytesV_len] at hj; omega)).1
    have hfz : ∀ j, j < (bytesV s).length → w.frozen? ⟨g, l.length + j, none⟩ = false := fun j hj => (h.all _ (by rw [bytesV_len] at hj; omega)).2
    have hst := run_storeCells_cells (P := Tryz.prog) g l.length (bytesV s) 0 w (by simpa using hc) (by simpa using hfz) (bytesV_one s)
    rw [hss, strV_bytes] at hf
    refine ⟨g, cap, w.setCells g l.length (bytesV s), ?_, ?_, grown_setCells g _ _ w, Or.inl rfl⟩
    · rw [hll]
      simp [Builtin.append_, run_underlying Tryz.underlying68, run_underlying Tryz.underlying9, sizeOf, typeInfo, hi, hz1, Builtin.lenOf, hss, hroom, hf, Addr.add_lit, hst]
    · have hsz := heap_setCells g (bytesV s) l.length w
      refine ⟨⟨h.row.new, by rw [hsz.1]; exact h.row.there, by rw [hll]; exact hroom, h.row.most, ?_, ?_⟩, ?_⟩
      · intro j hj
        rw [hll] at hj
        by_cases hjl : j < l.length
        · rw [World.cell?_setCells_out g (bytesV s) l.length w _ (fun i _ => by simp; omega), h.row.cells j hjl, List.getElem_append_left hjl]
        · have hj2 : j - l.length < (bytesV s).length := by rw [bytesV_len]; omega
          have := World.cell?_setCells_in g (bytesV s) l.length w hc (j - l.length) hj2
          rw [show l.length + (j - l.length) = j by omega] at this
          rw [this, List.getElem_append_right (by omega)]
          simp [bytesV]
      · intro j hj
        rw [World.frozen?_setCells]
        exact (h.all j (by omega)).2
      · intro j hj
        rw [World.frozen?_setCells]
        refine ⟨?_, (h.all j hj).2⟩
        by_cases hin : l.length ≤ j ∧ j < l.length + s.length
        · have hj2 : j - l.length < (bytesV s).length := by rw [bytesV_len]; omega
          have := World.cell?_setCells_in g (bytesV s) l.length w hc (j - l.length) hj2
          rw [show l.length + (j - l.length) = j by omega] at this
          rw [this]; rfl
        · rw [World.cell?_setCells_out g (bytesV s) l.length w _ (fun _ _ => by rw [bytesV_len]; simp; omega)]
          exact (h.all j hj).1
  · have holds : ∀ j u, (bytesV l)[j]? = some u → w.cell? ((⟨g, 0, none⟩ : Addr).add j) = some u := by
      intro j u hu
      obtain ⟨hj, rfl⟩ := bytesV_at _ _ _ hu
      rw [show (⟨g, 0, none⟩ : Addr).add j = ⟨g, j, none⟩ by unfold Addr.add; split <;> simp_all]
      exact h.row.cells j hj
    have hr := Lib.run_append_grow_string (P := Tryz.prog) w 68 9 ty 5 i0 (.int .u8 0) Tryz.underlying68 Tryz.underlying9 hi hz0 ⟨g, 0, none⟩ l.length cap (bytesV l) (by rw [bytesV_len, hz1]; omega) holds ⟨s.toArray⟩ (by rw [hss]; omega) (by rw [hss]; omega) (by rw [hss, hz2, Nat.mul_one]; exact (by have := growslice_fits (need := l.length + s.length) (old := cap) (bytes := 1) (by omega) (by omega); simpa using this))
    rw [hss, strV_bytes] at hr
    have hge := grownCap_ge w (l.length + s.length) cap 5
    have hcm := grownCap_le_maxLen w (l.length + s.length) cap 5 (by unfold maxLen; omega)
    generalize grownCap w (l.length + s.length) cap 5 = c at hr hge hcm
    obtain ⟨C, hC⟩ : ∃ C, (bytesV l).toArray ++ (bytesV s).toArray ++ Builtin.zeroCells (Value.int .u8 0).cells (c - (l.length + s.length)) = C := ⟨_, rfl⟩
    rw [hC] at hr
    have hCs : C.size = c := by
      have hz1' : (Value.int IntKind.u8 0).cells.size = 1 := rfl
      rw [← hC]; simp only [Array.size_append, List.size_toArray, size_zeroCells, hz1', bytesV_len]; omega
    have hown : (w.drew.alloc (.cells C 5)).ownsRow base 5 1 (.slice (some ⟨w.heap.size, 0, none⟩) (l ++ s).length c) (l ++ s).length (bytesV (l ++ s)) := by
      refine ⟨by rw [bytesV_len]; omega, Or.inr ⟨w.heap.size, c, C, rfl, hbase, heap_alloc_new w.drew _, by rw [hll]; exact hge, hcm, by omega, ?_⟩⟩
      rw [← hC]
      simp only [Array.toList_append, List.append_assoc]
      rw [← List.append_assoc, bytesV_append, Nat.mul_one, ← bytesV_len (l ++ s)]
      exact List.take_left
    have hB : RowB (w.drew.alloc (.cells C 5)) base w.heap.size c (l ++ s) := by
      obtain ⟨g2, c2, e2, hrow⟩ := RowB.of_own hown (by simp)
      injection e2 with e3 _ e4
      injection e3 with e3
      injection e3 with e3
      subst e3; subst e4
      exact hrow
    refine ⟨w.heap.size, c, _, by rw [hll]; exact hr, ⟨hB, fun j hj => ?_⟩, ?_, Or.inr rfl⟩
    · have hA : (w.drew.alloc (.cells C 5)).heap[w.heap.size]? = some (.cells C 5) := heap_alloc_new w.drew _
      generalize w.drew.alloc (.cells C 5) = W at hA ⊢
      refine ⟨?_, by simp [World.frozen?, hA]⟩
      simp [World.cell?, hA]
      omega
    · exact ⟨rfl, rfl, rfl, by simp, fun k hk _ => Below.heap_alloc w.drew _ k hk⟩

theorem RowW.append {w : World} {base g cap : Nat} {l : List UInt8} (h : RowW w base g cap l) (s : List UInt8) (hlen : l.length + s.length ≤ 4194304) (hbase : base ≤ w.heap.size) (ty : TypeId) :
    ∃ g' cap' w', (Builtin.append_ #[68, 9] ty #[.slice (some ⟨g, 0, none⟩) l.length cap, .string ⟨s.toArray⟩]).run Tryz.prog w = .ok (.slice (some ⟨g', 0, none⟩) (l ++ s).length cap') w' ∧ RowW w' base g' cap' (l ++ s) ∧ w.grownBy w' (some g) := by
  obtain ⟨g', cap', w', h1, h2, h3, _⟩ := h.append_at s hlen hbase ty
  exact ⟨g', cap', w', h1, h2, h3⟩

/-- '[]byte(s)': the new block, its value and its world. -/
theorem RowW.made (w : World) (l : List UInt8) (hl : l.length ≤ 4194304) :
    ∃ cap w', (convert 9 68 (.string ⟨l.toArray⟩)).run Tryz.prog w = .ok (.slice (some ⟨w.heap.size, 0, none⟩) l.length cap) w' ∧ RowW w' w.heap.size w.heap.size cap l ∧ Below w.heap.size w w' := by
  have hconv := run_bytes_of_string (P := Tryz.prog) w 9 68 5 ⟨l.toArray⟩ Tryz.underlying9 Tryz.underlying68 Tryz.underlying5
  have hrow := RowB.made w l (by unfold maxLen; omega)
  have hszs : (⟨l.toArray⟩ : ByteArray).size = l.length := rfl
  rw [hszs] at hconv
  have hge := grownCap_ge w l.length 0 5
  have hCs : (bytesRow ⟨l.toArray⟩ (grownCap w l.length 0 5)).size = grownCap w l.length 0 5 := by simp [bytesRow]; omega
  generalize bytesRow ⟨l.toArray⟩ (grownCap w l.length 0 5) = C at hconv hrow hCs
  generalize grownCap w l.length 0 5 = cp at hconv hrow hge hCs
  refine ⟨cp, _, hconv, ⟨hrow, fun j hj => ?_⟩, ((Below.refl _ w).drew).alloc (Nat.le_refl _) _⟩
  have hA : (w.drew.alloc (.cells C 5 (C.size, C.size + 1))).heap[w.heap.size]? = some (.cells C 5 (C.size, C.size + 1)) := heap_alloc_new w.drew _
  generalize w.drew.alloc (.cells C 5 (C.size, C.size + 1)) = W at hA ⊢
  refine ⟨?_, ?_⟩
  · simp [World.cell?, hA]; omega
  · simp [World.frozen?, hA]; omega

/-- 'append(b, s...)' at a step of a region that draws. -/
theorem step_append_str {P : Program} {w w' : World} {ops : Array Oper} {o : Oper} {a : Act} {K : Act → World → Prop} {Q : Exit → Act → World → Prop} {E : Prop} (hgd : o.guard = none) (s x : Operand) (t u : TypeId)
    (ho : o.op = .call { callee := .builtin .append, args := #[s, x], argTypes := #[t, u] }) (v y v' : Value) (hs : a.eval s = v) (hx : a.eval x = y)
    (hrun : (Builtin.append_ #[t, u] o.type #[v, y]).run P w = .ok v' w') (h : K (a.put o.dst v') w') :
    if Region.wanted o (yielded ops a.tmps) = true then Oper.wp P o a w K Q else E := by
  have hw : Region.wanted o (yielded ops a.tmps) = true := by simp [Region.wanted, hgd]
  rw [if_pos hw]
  unfold Oper.wp
  simp [execOp, ho, resolve, invoke, builtin, hs, hx, hrun, Result.andThen]
  exact h

/-- 'append(b, s...)' in a plain region. -/
theorem wpList_append_str {P : Program} {w w' : World} {ops : Array Oper} {rest : List Oper} {o : Oper} {a : Act} {Q : Exit → Act → World → Prop} (hgd : o.guard = none) (s x : Operand) (t u : TypeId)
    (ho : o.op = .call { callee := .builtin .append, args := #[s, x], argTypes := #[t, u] }) (v y v' : Value) (hs : a.eval s = v) (hx : a.eval x = y)
    (hrun : (Builtin.append_ #[t, u] o.type #[v, y]).run P w = .ok v' w') (h : wpList P ops Q rest (a.put o.dst v') w') : wpList P ops Q (o :: rest) a w := by
  refine wpList_plain hgd fun K hK => ?_
  unfold Oper.wp
  simp [execOp, ho, resolve, invoke, builtin, hs, hx, hrun, Result.andThen]
  exact hK _ _ h

end Go.Proofs.YtbojdcggnpdhcaaGreatDoor

/-! The contracts of chapter 7's specification: l7Show, ShowPackage. -/
namespace Go.Proofs.YtbojdcggnpdhcaaGreatDoor
open Go.RowKit

/-- A line with its end. -/

theorem showP_head (nm : List UInt8) : showP (nm, [], []) = lineT (packLn nm) := by simp [showP, pkLines, termJ, lineT]

theorem showP_imp (nm : List UInt8) (ims : List (List UInt8)) (k : Nat) (hk : k < ims.length) : showP (nm, ims.take (k + 1), []) = showP (nm, ims.take k, []) ++ lineT (impLn (ims.getD k [])) := by
  unfold lineT
  have e : ims.getD k [] = ims[k] := by rw [List.getD_eq_getElem?_getD, List.getElem?_eq_getElem hk]; rfl
  rw [e, List.take_succ_eq_append_getElem hk]
  simp only [showP, pkLines, termJ, List.map_append, List.map_cons, List.map_nil, List.flatten_append, List.flatten_cons, List.flatten_nil, List.append_nil, List.append_assoc]

theorem showP_fn (nm : List UInt8) (ims : List (List UInt8)) (fs : List Fn) (k : Nat) (hk : k < fs.length) : showP (nm, ims, fs.take (k + 1)) = showP (nm, ims, fs.take k) ++ lineT (funcLn (fs.getD k fn0)) := by
  unfold lineT
  have e : fs.getD k fn0 = fs[k] := by rw [List.getD_eq_getElem?_getD, List.getElem?_eq_getElem hk]; rfl
  rw [e, List.take_succ_eq_append_getElem hk]
  simp only [showP, pkLines, termJ, List.map_append, List.map_cons, List.map_nil, List.flatten_append, List.flatten_cons, List.flatten_nil, List.append_nil, List.append_assoc]

theorem showP_le1 (nm : List UInt8) (ims : List (List UInt8)) (fs : List Fn) (k : Nat) : (showP (nm, ims.take k, [])).length ≤ (showP (nm, ims, fs)).length := by
  have : showP (nm, ims, fs) = showP (nm, ims.take k, []) ++ termJ ((ims.drop k).map impLn ++ fs.map funcLn) := by
    unfold showP pkLines
    rw [← termJ_append]
    congr 1
    simp only [List.map_nil, List.append_nil, List.cons_append]
    rw [← List.append_assoc, ← List.map_append, List.take_append_drop]
  rw [this, List.length_append]; omega

theorem showP_le2 (nm : List UInt8) (ims : List (List UInt8)) (fs : List Fn) (k : Nat) : (showP (nm, ims, fs.take k)).length ≤ (showP (nm, ims, fs)).length := by
  have : showP (nm, ims, fs) = showP (nm, ims, fs.take k) ++ termJ ((fs.drop k).map funcLn) := by
    unfold showP pkLines
    rw [← termJ_append]
    congr 1
    simp only [List.cons_append, List.append_assoc]
    rw [← List.map_append, List.take_append_drop]
  rw [this, List.length_append]; omega

/-- What a round of l7Show's second loop holds: the function's own block, the row that is written, the function's tree. -/
structure ShSt (X W : World) (B F g cap : Nat) (l s : List UInt8) (n : Int) (t : List Nd) (ta : Option Addr) (tl tc : Nat) : Prop where
  c0 : X.cell? ⟨F, 0, none⟩ = some (.string ⟨s.toArray⟩)
  c1 : X.cell? ⟨F, 1, none⟩ = some (.int .i64 n)
  c2 : X.cell? ⟨F, 2, none⟩ = some (.slice ta tl tc)
  ne : g ≠ F
  row : RowW X B g cap l
  nodes : NodesIn X ta tl t
  b : Below B W X
  bs : B ≤ X.heap.size

theorem ShSt.below {X Y W : World} {B F g cap : Nat} {l s : List UInt8} {n : Int} {t : List Nd} {ta : Option Addr} {tl tc : Nat} (h : ShSt X W B F g cap l s n t ta tl tc) (hb : Below X.heap.size X Y) : ShSt Y W B F g cap l s n t ta tl tc :=
  have hl : F < X.heap.size := World.block_lt_of_cell? X ⟨F, 0, none⟩ h.c0
  ⟨(hb.cell (p := ⟨F, 0, none⟩) hl).trans h.c0, (hb.cell (p := ⟨F, 1, none⟩) hl).trans h.c1, (hb.cell (p := ⟨F, 2, none⟩) hl).trans h.c2, h.ne, h.row.below hb, h.nodes.below hb, h.b.trans (hb.mono h.bs), Nat.le_trans h.bs hb.size⟩

theorem ShSt.drew {X W : World} {B F g cap : Nat} {l s : List UInt8} {n : Int} {t : List Nd} {ta : Option Addr} {tl tc : Nat} (h : ShSt X W B F g cap l s n t ta tl tc) : ShSt X.drew W B F g cap l s n t ta tl tc :=
  h.below ⟨rfl, rfl, rfl, Nat.le_refl _, fun _ _ => rfl⟩

/-- The end of such a round: the row has the line. -/
theorem ShSt.append {X W : World} {B F g cap : Nat} {l s : List UInt8} {n : Int} {t : List Nd} {ta : Option Addr} {tl tc : Nat} (h : ShSt X W B F g cap l s n t ta tl tc) (x : List UInt8) (hx : l.length + x.length ≤ 4194304) :
    ∃ g' cap' w', (Builtin.append_ #[68, 9] 68 #[.slice (some ⟨g, 0, none⟩) l.length cap, .string ⟨x.toArray⟩]).run Tryz.prog X = .ok (.slice (some ⟨g', 0, none⟩) (l ++ x).length cap') w' ∧ RowW w' B g' cap' (l ++ x) ∧ Below B W w' ∧
      w'.cell? ⟨F, 0, none⟩ = some (.string ⟨s.toArray⟩) ∧ w'.cell? ⟨F, 1, none⟩ = some (.int .i64 n) ∧ w'.cell? ⟨F, 2, none⟩ = some (.slice ta tl tc) := by
  obtain ⟨g', cap', w', hrun, hrow, hg⟩ := h.row.append x hx h.bs 68
  have hl : F < X.heap.size := World.block_lt_of_cell? X ⟨F, 0, none⟩ h.c0
  have hbk := hg.block F hl (by intro e; injection e with e; exact h.ne e.symm)
  exact ⟨g', cap', w', hrun, hrow, h.b.grown hg h.bs (fun q e => by injection e with e; rw [← e]; exact h.row.row.new), (World.cell?_of_block (a := ⟨F, 0, none⟩) hbk).trans h.c0, (World.cell?_of_block (a := ⟨F, 1, none⟩) hbk).trans h.c1, (World.cell?_of_block (a := ⟨F, 2, none⟩) hbk).trans h.c2⟩



end Go.Proofs.YtbojdcggnpdhcaaGreatDoor

/-! The contract of chapter 6's specification: the node of a word. -/
namespace Go.Proofs.YtbojdcggnpdhcaaGreatDoor
open Go.RowKit

theorem part_le (ws : List (List UInt8)) (j : Nat) : (ws.getD j []).length ≤ ws.flatten.length := by
  induction ws generalizing j with
  | nil => simp
  | cons x r ih =>
    cases j with
    | zero => simp
    | succ j => have := ih j; simp only [List.getD_cons_succ, List.flatten_cons, List.length_append]; omega

/-- Four cells of one block are written. -/
theorem four_set (w : World) (b : Nat) (n : Nd) {u0 u1 u2 u3 : Value} (r0 : w.cell? ⟨b, 0, none⟩ = some u0) (r1 : w.cell? ⟨b, 1, none⟩ = some u1) (r2 : w.cell? ⟨b, 2, none⟩ = some u2) (r3 : w.cell? ⟨b, 3, none⟩ = some u3) :
    let X := ((((w.setCell ⟨b, 0, none⟩ (.int .i64 n.1)).setCell ⟨b, 1, none⟩ (.int .i64 n.2.1)).setCell ⟨b, 2, none⟩ (.string ⟨n.2.2.1.toArray⟩)).setCell ⟨b, 3, none⟩ (.string ⟨n.2.2.2.toArray⟩))
    X.cell? ⟨b, 0, none⟩ = some (.int .i64 n.1) ∧ X.cell? ⟨b, 1, none⟩ = some (.int .i64 n.2.1) ∧ X.cell? ⟨b, 2, none⟩ = some (.string ⟨n.2.2.1.toArray⟩) ∧ X.cell? ⟨b, 3, none⟩ = some (.string ⟨n.2.2.2.toArray⟩) := by
  intro X
  have o : ∀ (W : World) (i j : Nat) (v : Value), i ≠ j → (W.setCell ⟨b, i, none⟩ v).cell? ⟨b, j, none⟩ = W.cell? ⟨b, j, none⟩ := fun W i j v h => World.cell?_setCell_other _ _ _ _ (by intro e; injection e with _ e; omega)
  refine ⟨?_, ?_, ?_, ?_⟩
  · exact (o _ 3 0 _ (by omega)).trans ((o _ 2 0 _ (by omega)).trans ((o _ 1 0 _ (by omega)).trans (World.cell?_setCell_same _ _ _ r0)))
  · exact (o _ 3 1 _ (by omega)).trans ((o _ 2 1 _ (by omega)).trans (World.cell?_setCell_same _ _ _ ((o _ 0 1 _ (by omega)).trans r1)))
  · exact (o _ 3 2 _ (by omega)).trans (World.cell?_setCell_same _ _ _ ((o _ 1 2 _ (by omega)).trans ((o _ 0 2 _ (by omega)).trans r2)))
  · exact World.cell?_setCell_same _ _ _ ((o _ 2 3 _ (by omega)).trans ((o _ 1 3 _ (by omega)).trans ((o _ 0 3 _ (by omega)).trans r3)))

theorem four_below {w W : World} (h : Below w.heap.size w W) (u0 u1 u2 u3 : Value) : Below w.heap.size w ((((W.setCell ⟨w.heap.size, 0, none⟩ u0).setCell ⟨w.heap.size, 1, none⟩ u1).setCell ⟨w.heap.size, 2, none⟩ u2).setCell ⟨w.heap.size, 3, none⟩ u3) :=
  (((h.setCell (p := ⟨w.heap.size, 0, none⟩) (Nat.le_refl _) _).setCell (p := ⟨w.heap.size, 1, none⟩) (Nat.le_refl _) _).setCell (p := ⟨w.heap.size, 2, none⟩) (Nat.le_refl _) _).setCell (p := ⟨w.heap.size, 3, none⟩) (Nat.le_refl _) _


end Go.Proofs.YtbojdcggnpdhcaaGreatDoor

/-! The contract of chapter 6's specification: ReadTree. -/
namespace Go.Proofs.YtbojdcggnpdhcaaGreatDoor
open Go.RowKit

/-- What a row of nodes holds. -/
def nodesV : List Nd → List Value
  | [] => []
  | n :: r => .int .i64 n.1 :: .int .i64 n.2.1 :: .string ⟨n.2.2.1.toArray⟩ :: .string ⟨n.2.2.2.toArray⟩ :: nodesV r

theorem nodesV_len (ns : List Nd) : (nodesV ns).length = ns.length * 4 := by
  induction ns with
  | nil => rfl
  | cons n r ih => simp only [nodesV, List.length_cons, ih]; omega

theorem nodesV_append (x y : List Nd) : nodesV (x ++ y) = nodesV x ++ nodesV y := by
  induction x with
  | nil => rfl
  | cons n r ih => simp only [List.cons_append, nodesV, ih]

theorem nodesV_one (ns : List Nd) : ∀ u ∈ nodesV ns, u.oneCell' = true := by
  induction ns with
  | nil => intro u hu; cases hu
  | cons n r ih =>
    intro u hu
    simp only [nodesV, List.mem_cons] at hu
    rcases hu with rfl | rfl | rfl | rfl | h
    · rfl
    · rfl
    · rfl
    · rfl
    · exact ih u h

theorem nodesV_at (ns : List Nd) (j : Nat) (hj : j < ns.length) : (nodesV ns)[j * 4]? = some (.int .i64 (ns.getD j nd0).1) ∧ (nodesV ns)[j * 4 + 1]? = some (.int .i64 (ns.getD j nd0).2.1) ∧ (nodesV ns)[j * 4 + 2]? = some (.string ⟨(ns.getD j nd0).2.2.1.toArray⟩) ∧ (nodesV ns)[j * 4 + 3]? = some (.string ⟨(ns.getD j nd0).2.2.2.toArray⟩) := by
  induction ns generalizing j with
  | nil => simp at hj
  | cons n r ih =>
    cases j with
    | zero => simp [nodesV]
    | succ j =>
      have h := ih j (by simpa using hj)
      rw [show (j + 1) * 4 = j * 4 + 1 + 1 + 1 + 1 by omega]
      simpa [nodesV] using h

/-- A row of nodes that a call owns is a list of nodes. -/
theorem own_nodes {w : World} {base n : Nat} {v : Value} {ns : List Nd} (h : w.ownsRow base 107 4 v n (nodesV ns)) : ns.length = n ∧ ∃ a cap, v = .slice a n cap ∧ NodesIn w a n ns := by
  have hlen : ns.length = n := by have := h.1; rw [nodesV_len] at this; omega
  refine ⟨hlen, ?_⟩
  rcases own_forms h with ⟨rfl, rfl, _⟩ | ⟨g, cp, rfl⟩
  · exact ⟨none, 0, rfl, hlen, fun j hj => by omega⟩
  · refine ⟨some ⟨g, 0, none⟩, cp, rfl, hlen, fun j hj => ?_⟩
    obtain ⟨v0, v1, v2, v3⟩ := nodesV_at ns j (by omega)
    have c0 := h.cellAt (j * 4) (by omega)
    have c1 := h.cellAt (j * 4 + 1) (by omega)
    have c2 := h.cellAt (j * 4 + 2) (by omega)
    have c3 := h.cellAt (j * 4 + 3) (by omega)
    rw [v0] at c0
    rw [v1] at c1
    rw [v2] at c2
    rw [v3] at c3
    refine ⟨g, 0, rfl, (h.lt g rfl).2, ?_, ?_, ?_, ?_⟩
    · rw [Nat.zero_add]; exact c0
    · rw [Nat.zero_add]; exact c1
    · rw [Nat.zero_add]; exact c2
    · rw [Nat.zero_add]; exact c3

theorem infoNode : (Tryz.prog.info? 107).map (fun i => (i.zero, i.size, i.bytes)) = some (some (.agg #[.int .i64 0, .int .i64 0, .string ⟨#[]⟩, .string ⟨#[]⟩]), 4, 48) := by kernel_rfl

theorem new_node (w : World) (n : Nd) : ∀ j u, (nodesV [n])[j]? = some u → (w.alloc (.cells #[.int .i64 n.1, .int .i64 n.2.1, .string ⟨n.2.2.1.toArray⟩, .string ⟨n.2.2.2.toArray⟩] 107)).cell? ((⟨w.heap.size, 0, none⟩ : Addr).add j) = some u := by
  intro j u hu
  have e : (⟨w.heap.size, 0, none⟩ : Addr).add j = ⟨w.heap.size, j, none⟩ := by unfold Addr.add; split <;> simp_all
  rw [e]
  match j, hu with
  | 0, hu => simp [nodesV] at hu; subst hu; simp
  | 1, hu => simp [nodesV] at hu; subst hu; simp
  | 2, hu => simp [nodesV] at hu; subst hu; simp
  | 3, hu => simp [nodesV] at hu; subst hu; simp
  | j + 4, hu => simp [nodesV] at hu

theorem split_part (b : UInt8) (l : List UInt8) (j : Nat) : ((splitL b l).getD j []).length ≤ l.length := by
  have h1 : (splitGo b [] l).flatten.length ≤ l.length := by
    have := splitGo_flat b l []
    rw [List.length_nil, Nat.zero_add] at this
    exact this
  have h2 := part_le (splitL b l) j
  unfold splitL at h2 ⊢
  exact Nat.le_trans h2 h1

theorem readN_short (s : List UInt8) : (readN s).2.2.1.length ≤ s.length ∧ (readN s).2.2.2.length ≤ s.length := by
  unfold readN
  split
  · simp
  split
  · simp
  split
  · simp
  split
  · simp
  split
  · simp
  split
  · simp
  split
  · split
    · have h1 := split_part 47 s.tail 0
      have h2 := split_part 46 ((splitL 47 s.tail).getD 0 []) 0
      have h3 := split_part 46 ((splitL 47 s.tail).getD 0 []) 1
      have h4 : s.tail.length ≤ s.length := by rw [List.length_tail]; omega
      constructor
      · show ((splitL 46 ((splitL 47 s.tail).getD 0 [])).getD 0 []).length ≤ _; omega
      · show ((splitL 46 ((splitL 47 s.tail).getD 0 [])).getD 1 []).length ≤ _; omega
    · simp
  split
  · simp
  · simp

theorem readT_short (s : List UInt8) (h : s.length ≤ 2000) : ShortT (readT s) := by
  intro j
  unfold readT
  by_cases hj : j < (splitL 32 s).length
  · have hg : ((splitL 32 s).map readN).getD j nd0 = readN ((splitL 32 s).getD j []) := by simp [List.getD, hj]
    rw [hg]
    have h1 := readN_short ((splitL 32 s).getD j [])
    have h2 := split_part 32 s j
    omega
  · have hg : ((splitL 32 s).map readN).getD j nd0 = nd0 := by simp [List.getD, hj]
    rw [hg]; simp [nd0]

theorem map_step2 (ws : List (List UInt8)) (k : Nat) (hk : k < ws.length) : (ws.map readN).take (k + 1) = (ws.map readN).take k ++ [readN (ws.getD k [])] := by
  rw [← List.map_take, ← List.map_take]
  have hg : ws.getD k [] = ws[k] := by simp [List.getD, hk]
  rw [hg, List.take_succ_eq_append_getElem hk, List.map_append]; rfl


end Go.Proofs.YtbojdcggnpdhcaaGreatDoor

/-! Texts and trees are copied: l1Texts; rows as 'append' reads them. -/
namespace Go.Proofs.YtbojdcggnpdhcaaGreatDoor
open Go.RowKit


theorem TextsIn.src {w : World} {a : Option Addr} {len cap : Nat} {ts : List (List UInt8)} (h : TextsIn w a len ts) (hc : a = none → cap = 0) : Src w (.slice a len cap) len 1 (strV ts) := by
  have hl : (strV ts).length = len := by simp [strV, h.1]
  refine ⟨by rw [hl]; omega, fun u hu => ?_, ?_⟩
  · simp only [strV, List.mem_map] at hu
    obtain ⟨x, _, rfl⟩ := hu
    rfl
  rcases a with _ | ad
  · have h0 : len = 0 := by
      rcases Nat.eq_zero_or_pos len with h' | h'
      · exact h'
      · obtain ⟨b, off, e, _⟩ := h.2 0 h'
        cases e
    exact Or.inl ⟨by rw [h0, hc rfl], h0⟩
  · refine Or.inr ⟨ad, cap, rfl, fun j u hu => ?_⟩
    have hj : j < (strV ts).length := by
      rcases Nat.lt_or_ge j (strV ts).length with h' | h'
      · exact h'
      · rw [List.getElem?_eq_none h'] at hu; cases hu
    rw [hl] at hj
    obtain ⟨b, off, e, _, c0⟩ := h.2 j hj
    injection e with e
    subst e
    rw [add_plain, c0]
    rw [strV_at ts j (by rw [h.1]; exact hj)] at hu
    rw [← hu, List.getD_eq_getElem?_getD, List.getElem?_eq_getElem (by rw [h.1]; exact hj)]
    rfl

theorem NodesIn.src {w : World} {a : Option Addr} {len cap : Nat} {ns : List Nd} (h : NodesIn w a len ns) (hc : a = none → cap = 0) : Src w (.slice a len cap) len 4 (nodesV ns) := by
  refine ⟨by rw [nodesV_len, h.1], nodesV_one ns, ?_⟩
  rcases a with _ | ad
  · have h0 : len = 0 := by
      rcases Nat.eq_zero_or_pos len with h' | h'
      · exact h'
      · obtain ⟨b, off, e, _⟩ := h.2 0 h'
        cases e
    exact Or.inl ⟨by rw [h0, hc rfl], h0⟩
  · refine Or.inr ⟨ad, cap, rfl, fun j u hu => ?_⟩
    have hj : j < (nodesV ns).length := by
      rcases Nat.lt_or_ge j (nodesV ns).length with h' | h'
      · exact h'
      · rw [List.getElem?_eq_none h'] at hu; cases hu
    rw [nodesV_len, h.1] at hj
    obtain ⟨b, off, e, _, c0, c1, c2, c3⟩ := h.2 (j / 4) (by omega)
    injection e with e
    subst e
    obtain ⟨v0, v1, v2, v3⟩ := nodesV_at ns (j / 4) (by rw [h.1]; omega)
    rw [add_plain]
    rcases (show j % 4 = 0 ∨ j % 4 = 1 ∨ j % 4 = 2 ∨ j % 4 = 3 by omega) with h' | h' | h' | h'
    · rw [show j / 4 * 4 = j by omega] at v0 c0
      rw [hu] at v0
      rw [c0, v0]
    · rw [show j / 4 * 4 + 1 = j by omega] at v1
      rw [hu] at v1
      rw [show off + j = off + j / 4 * 4 + 1 by omega, c1, v1]
    · rw [show j / 4 * 4 + 2 = j by omega] at v2
      rw [hu] at v2
      rw [show off + j = off + j / 4 * 4 + 2 by omega, c2, v2]
    · rw [show j / 4 * 4 + 3 = j by omega] at v3
      rw [hu] at v3
      rw [show off + j = off + j / 4 * 4 + 3 by omega, c3, v3]


end Go.Proofs.YtbojdcggnpdhcaaGreatDoor
