/-
  Parts of one proof, one behind the other: RowW, PackS4, PackC, PackC2, PackS5.
-/
import Derived.Test.YtdjglpcllcjcfaaGreatDoorP7
import Derived.Test.YtdjglpcllcjcfaaGreatDoorP5
import Derived.Test.YtdjglpcllcjcfaaGreatDoorP4
import Derived.Laws.IdiomCopy
import Derived.Test.YtdjglpcllcjcfaaGreatDoorP6

/-! A row of bytes that a call has made of a string ('[]byte(s)'), and 'append(b, s...)' onto it, whether there is room or not. -/
namespace Go.Proofs.YtdjglpcllcjcfaaGreatDoor
open Go.RowKit

/-- Block g, new since 'base', holds the bytes l from its head on; all of its cap cells may be written. -/
structure RowW (w : World) (base g cap : Nat) (l : List UInt8) : Prop where
  row : RowB w base g cap l
  all : ∀ j, j < cap → (w.cell? ⟨g, j, none⟩).isSome = true ∧ w.frozen? ⟨g, j, none⟩ = false

theorem RowW.kept {w w' : World} {base g cap : Nat} {l : List UInt8} {row : Option Nat} (h : RowW w base g cap l) (hg : w.grownBy w' row) (hne : some g ≠ row) : RowW w' base g cap l := by
  have hb := hg.block g h.row.there hne
  exact ⟨h.row.kept hg hne, fun j hj => by rw [World.cell?_of_block (a := ⟨g, j, none⟩) hb, World.frozen?_of_block (a := ⟨g, j, none⟩) hb]; exact h.all j hj⟩

theorem RowW.below {w w' : World} {base g cap : Nat} {l : List UInt8} (h : RowW w base g cap l) (hb : Below w.heap.size w w') : RowW w' base g cap l :=
  h.kept (row := none) ⟨hb.os, hb.tape, hb.output, hb.size, fun k hk _ => hb.block k hk⟩ (by simp)

theorem RowW.drew {w : World} {base g cap : Nat} {l : List UInt8} (h : RowW w base g cap l) : RowW w.drew base g cap l :=
  h.below ⟨rfl, rfl, rfl, Nat.le_refl _, fun _ _ => rfl⟩

theorem heap_setCells (b : Nat) : ∀ (vs : List Value) (o : Nat) (w : World), (w.setCells b o vs).heap.size = w.heap.size ∧ ∀ k, k ≠ b → (w.setCells b o vs).heap[k]? = w.heap[k]?
  | [], _, _ => ⟨rfl, fun _ _ => rfl⟩
  | v :: r, o, w => by
    obtain ⟨h1, h2⟩ := heap_setCells b r (o + 1) (w.setCell ⟨b, o, none⟩ v)
    refine ⟨by rw [World.setCells, h1]; simp, fun k hk => ?_⟩
    rw [World.setCells, h2 k hk]
    exact Below.heap_setCell w _ v k (fun e => hk e)

theorem grown_setCells (b : Nat) : ∀ (vs : List Value) (o : Nat) (w : World), w.grownBy (w.setCells b o vs) (some b)
  | [], _, w => World.grownBy.refl w _
  | v :: r, o, w => by
    rw [World.setCells]
    exact (grown_set w b o v).trans (grown_setCells b r (o + 1) _)

theorem strV_bytes (s : List UInt8) : Lib.strCells ⟨s.toArray⟩ = bytesV s := strCells_list s

theorem RowW.append {w : World} {base g cap : Nat} {l : List UInt8} (h : RowW w base g cap l) (s : List UInt8) (hlen : l.length + s.length ≤ 4194304) (hbase : base ≤ w.heap.size) (ty : TypeId) :
    ∃ g' cap' w', (Builtin.append_ #[22, 9] ty #[.slice (some ⟨g, 0, none⟩) l.length cap, .string ⟨s.toArray⟩]).run Tryz.prog w = .ok (.slice (some ⟨g', 0, none⟩) (l ++ s).length cap') w' ∧ RowW w' base g' cap' (l ++ s) ∧ w.grownBy w' (some g) := by
  obtain ⟨i0, hi, hz0, hz1, hz2⟩ := info_parts info5
  have hss : (⟨s.toArray⟩ : ByteArray).size = s.length := List.size_toArray
  have hll : (l ++ s).length = l.length + s.length := List.length_append
  by_cases hroom : l.length + s.length ≤ cap
  · have hf := Lib.run_firstCells_string (P := Tryz.prog) w 1 ⟨s.toArray⟩
    have hc : ∀ j, j < (bytesV s).length → (w.cell? ⟨g, l.length + j, none⟩).isSome = true := fun j hj => (h.all _ (by rw [bytesV_len] at hj; omega)).1
    have hfz : ∀ j, j < (bytesV s).length → w.frozen? ⟨g, l.length + j, none⟩ = false := fun j hj => (h.all _ (by rw [bytesV_len] at hj; omega)).2
    have hst := run_storeCells_cells (P := Tryz.prog) g l.length (bytesV s) 0 w (by simpa using hc) (by simpa using hfz) (bytesV_one s)
    rw [hss, strV_bytes] at hf
    refine ⟨g, cap, w.setCells g l.length (bytesV s), ?_, ?_, grown_setCells g _ _ w⟩
    · rw [hll]
      simp [Builtin.append_, run_underlying Tryz.underlying22, run_underlying Tryz.underlying9, sizeOf, typeInfo, hi, hz1, Builtin.lenOf, hss, hroom, hf, Addr.add_lit, hst]
    · have hsz := heap_setCells g (bytesV s) l.length w
      refine ⟨⟨h.row.new, by rw [hsz.1]; exact h.row.there, by rw [hll]; exact hroom, h.row.most, ?_, ?_⟩, ?_⟩
      · intro j hj
        rw [hll] at hj
        by_cases hjl : j < l.length
        · rw [World.cell?_setCells_out g (bytesV s) l.length w _ (fun i _ => by simp; omega), h.row.cells j hjl, List.getElem_append_left hjl]
        · have hj2 : j - l.length < (bytesV s).length := by rw [bytesV_len]; omega
          have := World.cell?_setCells_in g (bytesV s) l.length w hc (j - l.length) hj2
          rw [show l.length + (j - l.length) = j by omega] at this
          rw [this, List.getElem_append_right (by omega)]
          simp [bytesV]
      · intro j hj
        rw [World.frozen?_setCells]
        exact (h.all j (by omega)).2
      · intro j hj
        rw [World.frozen?_setCells]
        refine ⟨?_, (h.all j hj).2⟩
        by_cases hin : l.length ≤ j ∧ j < l.length + s.length
        · have hj2 : j - l.length < (bytesV s).length := by rw [bytesV_len]; omega
          have := World.cell?_setCells_in g (bytesV s) l.length w hc (j - l.length) hj2
          rw [show l.length + (j - l.length) = j by omega] at this
          rw [this]; rfl
        · rw [World.cell?_setCells_out g (bytesV s) l.length w _ (fun _ _ => by rw [bytesV_len]; simp; omega)]
          exact (h.all j hj).1
  · have holds : ∀ j u, (bytesV l)[j]? = some u → w.cell? ((⟨g, 0, none⟩ : Addr).add j) = some u := by
      intro j u hu
      obtain ⟨hj, rfl⟩ := bytesV_at _ _ _ hu
      rw [show (⟨g, 0, none⟩ : Addr).add j = ⟨g, j, none⟩ by unfold Addr.add; split <;> simp_all]
      exact h.row.cells j hj
    have hr := Lib.run_append_grow_string (P := Tryz.prog) w 22 9 ty 5 i0 (.int .u8 0) Tryz.underlying22 Tryz.underlying9 hi hz0 ⟨g, 0, none⟩ l.length cap (bytesV l) (by rw [bytesV_len, hz1]; omega) holds ⟨s.toArray⟩ (by rw [hss]; omega) (by rw [hss]; omega) (by rw [hss, hz2, Nat.mul_one]; exact (by have := growslice_fits (need := l.length + s.length) (old := cap) (bytes := 1) (by omega) (by omega); simpa using this))
    rw [hss, strV_bytes] at hr
    have hge := grownCap_ge w (l.length + s.length) cap 5
    have hcm := grownCap_le_maxLen w (l.length + s.length) cap 5 (by unfold maxLen; omega)
    generalize grownCap w (l.length + s.length) cap 5 = c at hr hge hcm
    obtain ⟨C, hC⟩ : ∃ C, (bytesV l).toArray ++ (bytesV s).toArray ++ Builtin.zeroCells (Value.int .u8 0).cells (c - (l.length + s.length)) = C := ⟨_, rfl⟩
    rw [hC] at hr
    have hCs : C.size = c := by
      have hz1' : (Value.int IntKind.u8 0).cells.size = 1 := rfl
      rw [← hC]; simp only [Array.size_append, List.size_toArray, size_zeroCells, hz1', bytesV_len]; omega
    have hown : (w.drew.alloc (.cells C 5)).ownsRow base 5 1 (.slice (some ⟨w.heap.size, 0, none⟩) (l ++ s).length c) (l ++ s).length (bytesV (l ++ s)) := by
      refine ⟨by rw [bytesV_len]; omega, Or.inr ⟨w.heap.size, c, C, rfl, hbase, heap_alloc_new w.drew _, by rw [hll]; exact hge, hcm, by omega, ?_⟩⟩
      rw [← hC]
      simp only [Array.toList_append, List.append_assoc]
      rw [← List.append_assoc, bytesV_append, Nat.mul_one, ← bytesV_len (l ++ s)]
      exact List.take_left
    have hB : RowB (w.drew.alloc (.cells C 5)) base w.heap.size c (l ++ s) := by
      obtain ⟨g2, c2, e2, hrow⟩ := RowB.of_own hown (by simp)
      injection e2 with e3 _ e4
      injection e3 with e3
      injection e3 with e3
      subst e3; subst e4
      exact hrow
    refine ⟨w.heap.size, c, _, by rw [hll]; exact hr, ⟨hB, fun j hj => ?_⟩, ?_⟩
    · have hA : (w.drew.alloc (.cells C 5)).heap[w.heap.size]? = some (.cells C 5) := heap_alloc_new w.drew _
      generalize w.drew.alloc (.cells C 5) = W at hA ⊢
      refine ⟨?_, by simp [World.frozen?, hA]⟩
      simp [World.cell?, hA]
      omega
    · exact ⟨rfl, rfl, rfl, by simp, fun k hk _ => Below.heap_alloc w.drew _ k hk⟩

/-- '[]byte(s)': the new block, its value and its world. -/
theorem RowW.made (w : World) (l : List UInt8) (hl : l.length ≤ 4194304) :
    ∃ cap w', (convert 9 22 (.string ⟨l.toArray⟩)).run Tryz.prog w = .ok (.slice (some ⟨w.heap.size, 0, none⟩) l.length cap) w' ∧ RowW w' w.heap.size w.heap.size cap l ∧ Below w.heap.size w w' := by
  have hconv := run_bytes_of_string (P := Tryz.prog) w 9 22 5 ⟨l.toArray⟩ Tryz.underlying9 Tryz.underlying22 Tryz.underlying5
  have hrow := RowB.made w l (by unfold maxLen; omega)
  have hszs : (⟨l.toArray⟩ : ByteArray).size = l.length := rfl
  rw [hszs] at hconv
  have hge := grownCap_ge w l.length 0 5
  have hCs : (bytesRow ⟨l.toArray⟩ (grownCap w l.length 0 5)).size = grownCap w l.length 0 5 := by simp [bytesRow]; omega
  generalize bytesRow ⟨l.toArray⟩ (grownCap w l.length 0 5) = C at hconv hrow hCs
  generalize grownCap w l.length 0 5 = cp at hconv hrow hge hCs
  refine ⟨cp, _, hconv, ⟨hrow, fun j hj => ?_⟩, ((Below.refl _ w).drew).alloc (Nat.le_refl _) _⟩
  have hA : (w.drew.alloc (.cells C 5 (C.size, C.size + 1))).heap[w.heap.size]? = some (.cells C 5 (C.size, C.size + 1)) := heap_alloc_new w.drew _
  generalize w.drew.alloc (.cells C 5 (C.size, C.size + 1)) = W at hA ⊢
  refine ⟨?_, ?_⟩
  · simp [World.cell?, hA]; omega
  · simp [World.frozen?, hA]; omega

/-- 'append(b, s...)' at a step of a region that draws. -/
theorem step_append_str {P : Program} {w w' : World} {ops : Array Oper} {o : Oper} {a : Act} {K : Act → World → Prop} {Q : Exit → Act → World → Prop} {E : Prop} (hgd : o.guard = none) (s x : Operand) (t u : TypeId)
    (ho : o.op = .call { callee := .builtin .append, args := #[s, x], argTypes := #[t, u] }) (v y v' : Value) (hs : a.eval s = v) (hx : a.eval x = y)
    (hrun : (Builtin.append_ #[t, u] o.type #[v, y]).run P w = .ok v' w') (h : K (a.put o.dst v') w') :
    if Region.wanted o (yielded ops a.tmps) = true then Oper.wp P o a w K Q else E := by
  have hw : Region.wanted o (yielded ops a.tmps) = true := by simp [Region.wanted, hgd]
  rw [if_pos hw]
  unfold Oper.wp
  simp [execOp, ho, resolve, invoke, builtin, hs, hx, hrun, Result.andThen]
  exact h

/-- 'append(b, s...)' in a plain region. -/
theorem wpList_append_str {P : Program} {w w' : World} {ops : Array Oper} {rest : List Oper} {o : Oper} {a : Act} {Q : Exit → Act → World → Prop} (hgd : o.guard = none) (s x : Operand) (t u : TypeId)
    (ho : o.op = .call { callee := .builtin .append, args := #[s, x], argTypes := #[t, u] }) (v y v' : Value) (hs : a.eval s = v) (hx : a.eval x = y)
    (hrun : (Builtin.append_ #[t, u] o.type #[v, y]).run P w = .ok v' w') (h : wpList P ops Q rest (a.put o.dst v') w') : wpList P ops Q (o :: rest) a w := by
  refine wpList_plain hgd fun K hK => ?_
  unfold Oper.wp
  simp [execOp, ho, resolve, invoke, builtin, hs, hx, hrun, Result.andThen]
  exact hK _ _ h

end Go.Proofs.YtdjglpcllcjcfaaGreatDoor

/-! The contracts of chapter 7's specification: l7Show, ShowPackage. -/
namespace Go.Proofs.YtdjglpcllcjcfaaGreatDoor
open Go.RowKit

/-- A line with its end. -/
def lineT (x : List UInt8) : List UInt8 := x ++ [10]

theorem showP_head (nm : List UInt8) : showP (nm, [], []) = lineT (packLn nm) := by simp [showP, pkLines, termJ, lineT]

theorem showP_imp (nm : List UInt8) (ims : List (List UInt8)) (k : Nat) (hk : k < ims.length) : showP (nm, ims.take (k + 1), []) = showP (nm, ims.take k, []) ++ lineT (impLn (ims.getD k [])) := by
  unfold lineT
  have e : ims.getD k [] = ims[k] := by rw [List.getD_eq_getElem?_getD, List.getElem?_eq_getElem hk]; rfl
  rw [e, List.take_succ_eq_append_getElem hk]
  simp only [showP, pkLines, termJ, List.map_append, List.map_cons, List.map_nil, List.flatten_append, List.flatten_cons, List.flatten_nil, List.append_nil, List.append_assoc]

theorem showP_fn (nm : List UInt8) (ims : List (List UInt8)) (fs : List Fn) (k : Nat) (hk : k < fs.length) : showP (nm, ims, fs.take (k + 1)) = showP (nm, ims, fs.take k) ++ lineT (funcLn (fs.getD k fn0)) := by
  unfold lineT
  have e : fs.getD k fn0 = fs[k] := by rw [List.getD_eq_getElem?_getD, List.getElem?_eq_getElem hk]; rfl
  rw [e, List.take_succ_eq_append_getElem hk]
  simp only [showP, pkLines, termJ, List.map_append, List.map_cons, List.map_nil, List.flatten_append, List.flatten_cons, List.flatten_nil, List.append_nil, List.append_assoc]

theorem showP_le1 (nm : List UInt8) (ims : List (List UInt8)) (fs : List Fn) (k : Nat) : (showP (nm, ims.take k, [])).length ≤ (showP (nm, ims, fs)).length := by
  have : showP (nm, ims, fs) = showP (nm, ims.take k, []) ++ termJ ((ims.drop k).map impLn ++ fs.map funcLn) := by
    unfold showP pkLines
    rw [← termJ_append]
    congr 1
    simp only [List.map_nil, List.append_nil, List.cons_append]
    rw [← List.append_assoc, ← List.map_append, List.take_append_drop]
  rw [this, List.length_append]; omega

theorem showP_le2 (nm : List UInt8) (ims : List (List UInt8)) (fs : List Fn) (k : Nat) : (showP (nm, ims, fs.take k)).length ≤ (showP (nm, ims, fs)).length := by
  have : showP (nm, ims, fs) = showP (nm, ims, fs.take k) ++ termJ ((fs.drop k).map funcLn) := by
    unfold showP pkLines
    rw [← termJ_append]
    congr 1
    simp only [List.cons_append, List.append_assoc]
    rw [← List.map_append, List.take_append_drop]
  rw [this, List.length_append]; omega

/-- What a round of l7Show's second loop holds: the function's own block, the row that is written, the function's tree. -/
structure ShSt (X W : World) (B F g cap : Nat) (l s : List UInt8) (n : Int) (t : List Nd) (ta : Option Addr) (tl tc : Nat) : Prop where
  c0 : X.cell? ⟨F, 0, none⟩ = some (.string ⟨s.toArray⟩)
  c1 : X.cell? ⟨F, 1, none⟩ = some (.int .i64 n)
  c2 : X.cell? ⟨F, 2, none⟩ = some (.slice ta tl tc)
  ne : g ≠ F
  row : RowW X B g cap l
  nodes : NodesIn X ta tl t
  b : Below B W X
  bs : B ≤ X.heap.size

theorem ShSt.below {X Y W : World} {B F g cap : Nat} {l s : List UInt8} {n : Int} {t : List Nd} {ta : Option Addr} {tl tc : Nat} (h : ShSt X W B F g cap l s n t ta tl tc) (hb : Below X.heap.size X Y) : ShSt Y W B F g cap l s n t ta tl tc :=
  have hl : F < X.heap.size := World.block_lt_of_cell? X ⟨F, 0, none⟩ h.c0
  ⟨(hb.cell (p := ⟨F, 0, none⟩) hl).trans h.c0, (hb.cell (p := ⟨F, 1, none⟩) hl).trans h.c1, (hb.cell (p := ⟨F, 2, none⟩) hl).trans h.c2, h.ne, h.row.below hb, h.nodes.below hb, h.b.trans (hb.mono h.bs), Nat.le_trans h.bs hb.size⟩

theorem ShSt.drew {X W : World} {B F g cap : Nat} {l s : List UInt8} {n : Int} {t : List Nd} {ta : Option Addr} {tl tc : Nat} (h : ShSt X W B F g cap l s n t ta tl tc) : ShSt X.drew W B F g cap l s n t ta tl tc :=
  h.below ⟨rfl, rfl, rfl, Nat.le_refl _, fun _ _ => rfl⟩

/-- The end of such a round: the row has the line. -/
theorem ShSt.append {X W : World} {B F g cap : Nat} {l s : List UInt8} {n : Int} {t : List Nd} {ta : Option Addr} {tl tc : Nat} (h : ShSt X W B F g cap l s n t ta tl tc) (x : List UInt8) (hx : l.length + x.length ≤ 4194304) :
    ∃ g' cap' w', (Builtin.append_ #[22, 9] 22 #[.slice (some ⟨g, 0, none⟩) l.length cap, .string ⟨x.toArray⟩]).run Tryz.prog X = .ok (.slice (some ⟨g', 0, none⟩) (l ++ x).length cap') w' ∧ RowW w' B g' cap' (l ++ x) ∧ Below B W w' ∧
      w'.cell? ⟨F, 0, none⟩ = some (.string ⟨s.toArray⟩) ∧ w'.cell? ⟨F, 1, none⟩ = some (.int .i64 n) ∧ w'.cell? ⟨F, 2, none⟩ = some (.slice ta tl tc) := by
  obtain ⟨g', cap', w', hrun, hrow, hg⟩ := h.row.append x hx h.bs 22
  have hl : F < X.heap.size := World.block_lt_of_cell? X ⟨F, 0, none⟩ h.c0
  have hbk := hg.block F hl (by intro e; injection e with e; exact h.ne e.symm)
  exact ⟨g', cap', w', hrun, hrow, h.b.grown hg h.bs (fun q e => by injection e with e; rw [← e]; exact h.row.row.new), (World.cell?_of_block (a := ⟨F, 0, none⟩) hbk).trans h.c0, (World.cell?_of_block (a := ⟨F, 1, none⟩) hbk).trans h.c1, (World.cell?_of_block (a := ⟨F, 2, none⟩) hbk).trans h.c2⟩



end Go.Proofs.YtdjglpcllcjcfaaGreatDoor

/-! Texts and trees are copied: l1Texts; rows as 'append' reads them. -/
namespace Go.Proofs.YtdjglpcllcjcfaaGreatDoor
open Go.RowKit


theorem TextsIn.src {w : World} {a : Option Addr} {len cap : Nat} {ts : List (List UInt8)} (h : TextsIn w a len ts) (hc : a = none → cap = 0) : Src w (.slice a len cap) len 1 (strV ts) := by
  have hl : (strV ts).length = len := by simp [strV, h.1]
  refine ⟨by rw [hl]; omega, fun u hu => ?_, ?_⟩
  · simp only [strV, List.mem_map] at hu
    obtain ⟨x, _, rfl⟩ := hu
    rfl
  rcases a with _ | ad
  · have h0 : len = 0 := by
      rcases Nat.eq_zero_or_pos len with h' | h'
      · exact h'
      · obtain ⟨b, off, e, _⟩ := h.2 0 h'
        cases e
    exact Or.inl ⟨by rw [h0, hc rfl], h0⟩
  · refine Or.inr ⟨ad, cap, rfl, fun j u hu => ?_⟩
    have hj : j < (strV ts).length := by
      rcases Nat.lt_or_ge j (strV ts).length with h' | h'
      · exact h'
      · rw [List.getElem?_eq_none h'] at hu; cases hu
    rw [hl] at hj
    obtain ⟨b, off, e, _, c0⟩ := h.2 j hj
    injection e with e
    subst e
    rw [add_plain, c0]
    rw [strV_at ts j (by rw [h.1]; exact hj)] at hu
    rw [← hu, List.getD_eq_getElem?_getD, List.getElem?_eq_getElem (by rw [h.1]; exact hj)]
    rfl

theorem NodesIn.src {w : World} {a : Option Addr} {len cap : Nat} {ns : List Nd} (h : NodesIn w a len ns) (hc : a = none → cap = 0) : Src w (.slice a len cap) len 4 (nodesV ns) := by
  refine ⟨by rw [nodesV_len, h.1], nodesV_one ns, ?_⟩
  rcases a with _ | ad
  · have h0 : len = 0 := by
      rcases Nat.eq_zero_or_pos len with h' | h'
      · exact h'
      · obtain ⟨b, off, e, _⟩ := h.2 0 h'
        cases e
    exact Or.inl ⟨by rw [h0, hc rfl], h0⟩
  · refine Or.inr ⟨ad, cap, rfl, fun j u hu => ?_⟩
    have hj : j < (nodesV ns).length := by
      rcases Nat.lt_or_ge j (nodesV ns).length with h' | h'
      · exact h'
      · rw [List.getElem?_eq_none h'] at hu; cases hu
    rw [nodesV_len, h.1] at hj
    obtain ⟨b, off, e, _, c0, c1, c2, c3⟩ := h.2 (j / 4) (by omega)
    injection e with e
    subst e
    obtain ⟨v0, v1, v2, v3⟩ := nodesV_at ns (j / 4) (by rw [h.1]; omega)
    rw [add_plain]
    rcases (show j % 4 = 0 ∨ j % 4 = 1 ∨ j % 4 = 2 ∨ j % 4 = 3 by omega) with h' | h' | h' | h'
    · rw [show j / 4 * 4 = j by omega] at v0 c0
      rw [hu] at v0
      rw [c0, v0]
    · rw [show j / 4 * 4 + 1 = j by omega] at v1
      rw [hu] at v1
      rw [show off + j = off + j / 4 * 4 + 1 by omega, c1, v1]
    · rw [show j / 4 * 4 + 2 = j by omega] at v2
      rw [hu] at v2
      rw [show off + j = off + j / 4 * 4 + 2 by omega, c2, v2]
    · rw [show j / 4 * 4 + 3 = j by omega] at v3
      rw [hu] at v3
      rw [show off + j = off + j / 4 * 4 + 3 by omega, c3, v3]

set_option maxHeartbeats 1000000 in
set_option maxRecDepth 100000 in
theorem specTexts (a : Option Addr) (len cap : Nat) (ts : List (List UInt8)) (w : World) (hin : TextsIn w a len ts) (hc : a = none → cap = 0) (hlen : len ≤ 1048576) :
    Calls Tryz.prog 81 #[.slice a len cap] w fun e w' => ∃ v, e = .returned v ∧ w'.ownsRow w.heap.size 9 1 v ts.length (strV ts) ∧ Below w.heap.size w w' := by
  obtain rfl : ts.length = len := hin.1
  obtain ⟨i0, hi, hz0, hz1, hz2⟩ := info_parts info9
  have hbA : Below w.heap.size w (w.alloc (.cells #[] 9)) := (Below.refl _ _).alloc (Nat.le_refl _) _
  have hown0 := (World.ownsRow_lit (base := w.heap.size) (e := 9) (size := 1) w #[] 0 (Nat.le_refl _) (by decide) rfl)
  obtain ⟨v', w', hrun, hown', hg, _⟩ := run_append_src (P := Tryz.prog) (w.alloc (.cells #[] 9)) w.heap.size 29 29 9 i0 _ 1 16 Tryz.underlying29 hi hz0 hz1 hz2 rfl (by decide) _ _ _ hown0 (.slice a ts.length cap) ts.length (strV ts) ((hin.below hbA).src hc) (by unfold maxLen; omega) (by omega) (by simp)
  have hb : Below w.heap.size w w' := hbA.grown hg hbA.size (fun q e => by simp [Value.ownBlock] at e; omega)
  have HO : Hid (w'.ownsRow w.heap.size 9 1 v' ts.length (strV ts)) := by
    simp only [Nat.zero_add] at hown'
    exact (by simpa using hown' : w'.ownsRow w.heap.size 9 1 v' ts.length (strV ts))
  clear hown' hg hown0 hbA hin
  go_enter Tryz.func81, Tryz.ntmps81
  go_wp2_with (at_builtin; refine wpList_append_run rfl (.tmp 3) (.tmp 4) 29 rfl _ _ _ rfl rfl hrun ?_; clear hrun)
  go_ret
  exact ⟨v', rfl, HO.out, hb⟩

end Go.Proofs.YtdjglpcllcjcfaaGreatDoor

/-! A function is copied: l7CopyFunc. -/
namespace Go.Proofs.YtdjglpcllcjcfaaGreatDoor
open Go.RowKit


end Go.Proofs.YtdjglpcllcjcfaaGreatDoor

/-! The contract of chapter 7's specification: FuncOf. -/
namespace Go.Proofs.YtdjglpcllcjcfaaGreatDoor
open Go.RowKit

def foundB (p : Pk) (s : List UInt8) : Bool := pkgB p && decide (0 ≤ atV p.2.2 s)
def foundV (p : Pk) (s : List UInt8) : Fn := if foundB p s = true then p.2.2.getD (atV p.2.2 s).toNat fn0 else fn0

theorem found_short {nm : List UInt8} {ims : List (List UInt8)} {fs : List Fn} {q : List UInt8} (h : ShortF fs) : (foundV (nm, ims, fs) q).2.2.length ≤ 1048576 := by
  unfold foundV
  split
  · exact (h _).2.1
  · simp [fn0]

theorem found_no1 {p : Pk} (s : List UInt8) (h : pkgB p = false) : foundB p s = false ∧ foundV p s = fn0 := by
  have : foundB p s = false := by unfold foundB; rw [h]; rfl
  exact ⟨this, by unfold foundV; rw [if_neg (by rw [this]; simp)]⟩

theorem found_no2 {p : Pk} {s : List UInt8} (h : atV p.2.2 s < 0) : foundB p s = false ∧ foundV p s = fn0 := by
  have : foundB p s = false := by unfold foundB; rw [decide_eq_false (by omega), Bool.and_false]
  exact ⟨this, by unfold foundV; rw [if_neg (by rw [this]; simp)]⟩

theorem found_yes {p : Pk} {s : List UInt8} (h : pkgB p = true) (h0 : 0 ≤ atV p.2.2 s) : foundB p s = true ∧ foundV p s = p.2.2.getD (atV p.2.2 s).toNat fn0 := by
  have : foundB p s = true := by unfold foundB; rw [h, decide_eq_true h0]; rfl
  exact ⟨this, by unfold foundV; rw [if_pos this]⟩

theorem atGo_lt (s : List UInt8) : ∀ (fs : List Fn) (k : Nat), atGo s fs k < (k : Int) + fs.length ∧ (0 ≤ atGo s fs k → (k : Int) ≤ atGo s fs k ∧ (fs.getD (atGo s fs k - k).toNat fn0).1 = s)
  | [], k => by simp [atGo]; omega
  | f :: r, k => by
    rw [atGo]
    split
    · rename_i h
      refine ⟨by simp; omega, fun _ => ⟨by omega, ?_⟩⟩
      simpa using h
    · obtain ⟨h1, h2⟩ := atGo_lt s r (k + 1)
      refine ⟨by simp at h1 ⊢; omega, fun h0 => ?_⟩
      obtain ⟨h3, h4⟩ := h2 h0
      refine ⟨by omega, ?_⟩
      have e : (atGo s r (k + 1) - (k : Int)).toNat = (atGo s r (k + 1) - ((k + 1 : Nat) : Int)).toNat + 1 := by omega
      rw [e, List.getD_cons_succ]
      exact h4

theorem atV_lt {fs : List Fn} {s : List UInt8} (h : 0 ≤ atV fs s) : (atV fs s).toNat < fs.length ∧ (fs.getD (atV fs s).toNat fn0).1 = s := by
  obtain ⟨h1, h2⟩ := atGo_lt s fs 0
  have h3 := (h2 h).2
  unfold atV at h ⊢
  exact ⟨by omega, by simpa using h3⟩

/-- What FuncOf holds while it finds one. -/
structure FoSt (X w : World) (D : Nat) (nm : List UInt8) (ia : Option Addr) (il ic : Nat) (b off fl fc : Nat) (ims : List (List UInt8)) (fs : List Fn) (j : Nat) (s : List UInt8) (n : Int) (t : List Nd) (ta : Option Addr) (tl tc : Nat) : Prop where
  p : PkIn X D nm ia il ic (some ⟨b, off, none⟩) fl fc ims fs
  c0 : X.cell? ⟨b, off + j * 3, none⟩ = some (.string ⟨s.toArray⟩)
  c1 : X.cell? ⟨b, off + j * 3 + 1, none⟩ = some (.int .i64 n)
  c2 : X.cell? ⟨b, off + j * 3 + 2, none⟩ = some (.slice ta tl tc)
  nodes : NodesIn X ta tl t
  r0 : X.cell? ⟨D + 1, 0, none⟩ = some (.string ⟨#[]⟩)
  r1 : X.cell? ⟨D + 1, 1, none⟩ = some (.int .i64 0)
  r2 : X.cell? ⟨D + 1, 2, none⟩ = some (.slice none 0 0)
  fr : ∀ j, X.frozen? ⟨D + 1, j, none⟩ = false
  b : Below D w X
  bs : D ≤ X.heap.size

theorem FoSt.below {X Y w : World} {D : Nat} {nm : List UInt8} {ia : Option Addr} {il ic : Nat} {b off fl fc : Nat} {ims : List (List UInt8)} {fs : List Fn} {j : Nat} {s : List UInt8} {n : Int} {t : List Nd} {ta : Option Addr} {tl tc : Nat}
    (h : FoSt X w D nm ia il ic b off fl fc ims fs j s n t ta tl tc) (hb : Below X.heap.size X Y) : FoSt Y w D nm ia il ic b off fl fc ims fs j s n t ta tl tc :=
  have hl : b < X.heap.size := World.block_lt_of_cell? X ⟨b, off + j * 3, none⟩ h.c0
  have hr : D + 1 < X.heap.size := World.block_lt_of_cell? X ⟨D + 1, 0, none⟩ h.r0
  ⟨h.p.below hb, (hb.cell (p := ⟨b, off + j * 3, none⟩) hl).trans h.c0, (hb.cell (p := ⟨b, off + j * 3 + 1, none⟩) hl).trans h.c1, (hb.cell (p := ⟨b, off + j * 3 + 2, none⟩) hl).trans h.c2, h.nodes.below hb,
    (hb.cell (p := ⟨D + 1, 0, none⟩) hr).trans h.r0, (hb.cell (p := ⟨D + 1, 1, none⟩) hr).trans h.r1, (hb.cell (p := ⟨D + 1, 2, none⟩) hr).trans h.r2, fun i => (hb.frozen (p := ⟨D + 1, i, none⟩) hr).trans (h.fr i), h.b.trans (hb.mono h.bs), Nat.le_trans h.bs hb.size⟩

theorem FoSt.drew {X w : World} {D : Nat} {nm : List UInt8} {ia : Option Addr} {il ic : Nat} {b off fl fc : Nat} {ims : List (List UInt8)} {fs : List Fn} {j : Nat} {s : List UInt8} {n : Int} {t : List Nd} {ta : Option Addr} {tl tc : Nat}
    (h : FoSt X w D nm ia il ic b off fl fc ims fs j s n t ta tl tc) : FoSt X.drew w D nm ia il ic b off fl fc ims fs j s n t ta tl tc := h.below ⟨rfl, rfl, rfl, Nat.le_refl _, fun _ _ => rfl⟩

/-- Three cells of a block are written. -/
theorem set3 {X : World} {R : Nat} {a0 a1 a2 : Value} (u0 u1 u2 : Value) (r0 : X.cell? ⟨R, 0, none⟩ = some a0) (r1 : X.cell? ⟨R, 1, none⟩ = some a1) (r2 : X.cell? ⟨R, 2, none⟩ = some a2) :
    ∃ Y, ((X.setCell ⟨R, 0, none⟩ u0).setCell ⟨R, 1, none⟩ u1).setCell ⟨R, 2, none⟩ u2 = Y ∧ Y.cell? ⟨R, 0, none⟩ = some u0 ∧ Y.cell? ⟨R, 1, none⟩ = some u1 ∧ Y.cell? ⟨R, 2, none⟩ = some u2 ∧ X.grownBy Y (some R) := by
  refine ⟨_, rfl, ?_, ?_, ?_, ?_⟩
  · exact (World.cell?_setCell_other _ _ _ _ (by simp)).trans ((World.cell?_setCell_other _ _ _ _ (by simp)).trans (World.cell?_setCell_same _ _ _ r0))
  · exact (World.cell?_setCell_other _ _ _ _ (by simp)).trans (World.cell?_setCell_same _ _ _ ((World.cell?_setCell_other _ _ _ _ (by simp)).trans r1))
  · exact World.cell?_setCell_same _ _ _ ((World.cell?_setCell_other _ _ _ _ (by simp)).trans ((World.cell?_setCell_other _ _ _ _ (by simp)).trans r2))
  · exact ((grown_setCell _ _ _ _).trans (grown_setCell _ _ _ _)).trans (grown_setCell _ _ _ _)

/-- The cells of a block of three that lies as it was made. -/
theorem three {X W : World} {R : Nat} {u0 u1 u2 : Value} {T : TypeId} (hX : Below W.heap.size W X) (hlt : R < W.heap.size) (hR : W.heap[R]? = some (.cells #[u0, u1, u2] T)) :
    X.cell? ⟨R, 0, none⟩ = some u0 ∧ X.cell? ⟨R, 1, none⟩ = some u1 ∧ X.cell? ⟨R, 2, none⟩ = some u2 ∧ ∀ j, X.frozen? ⟨R, j, none⟩ = false := by
  have e := (hX.block R hlt).trans hR
  clear hX hR
  exact ⟨by simp [World.cell?, e], by simp [World.cell?, e], by simp [World.cell?, e], fun j => by simp [World.frozen?, e]⟩

/-- A row that is owned above a block does not lie in it. -/
theorem own_off {w : World} {base e size n R : Nat} {v : Value} {xs : List Value} (h : w.ownsRow base e size v n xs) (hR : R < base) : v.ownBlock = none ∨ v.ownBlock ≠ some R := by
  rcases hv : v.ownBlock with _ | k
  · exact Or.inl rfl
  · refine Or.inr (fun e => ?_)
    have := (h.lt k hv).1
    injection e with e
    omega

theorem foZero {w Y : World} {p : Pk} {q : List UInt8} (hz : foundB p q = false ∧ foundV p q = fn0) (hb : Below w.heap.size w Y) :
    ∃ v, Ending.returned (.tuple #[.agg #[.string ⟨#[]⟩, .int .i64 0, .slice none 0 0], .bool false]) = .returned (.tuple #[.agg #[.string ⟨(foundV p q).1.toArray⟩, .int .i64 (foundV p q).2.1, v], .bool (foundB p q)]) ∧ Y.ownsRow w.heap.size 44 4 v (foundV p q).2.2.length (nodesV (foundV p q).2.2) ∧ Below w.heap.size w Y :=
  ⟨.slice none 0 0, by rw [hz.1, hz.2]; rfl, by rw [hz.2]; exact World.ownsRow_nil Y _ _ _, hb⟩


end Go.Proofs.YtdjglpcllcjcfaaGreatDoor
