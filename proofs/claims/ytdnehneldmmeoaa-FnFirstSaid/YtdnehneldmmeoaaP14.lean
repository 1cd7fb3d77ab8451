/-
  Parts of one proof, one behind the other: NeedC, NeedD.
-/
import Derived.Test.YtdnehneldmmeoaaP13
import Derived.Test.YtdnehneldmmeoaaP10
import Derived.Test.YtdnehneldmmeoaaP7
import Derived.Deep.RegionHeld
import Derived.RegionTactic

/-! Contracts of chapter 12's landed code: isPair, needOfPair, needOfOrdered, needOfCall. -/
namespace Go.Proofs.Ytdnehneldmmeoaa
open Go.RowKit

theorem info55x : ∃ i, Try.prog.info? 55 = some i ∧ i.zero = some (.agg (nv 0)) ∧ i.size = 60 ∧ i.bytes = 60 := by
  have h := info55
  cases hq : Try.prog.info? 55 with
  | none => rw [hq] at h; cases h
  | some i =>
    rw [hq] at h
    injection h with h
    injection h with h1 h
    injection h with h2 h3
    exact ⟨i, rfl, h1, h2, h3⟩
theorem step_of_wp {P : Program} {ops : Array Oper} {o : Oper} {a : Act} {w : World} {K : Act → World → Prop} {Q : Exit → Act → World → Prop} {E : Prop} (hgd : o.guard = none) (h : Oper.wp P o a w K Q) :
    if Region.wanted o (yielded ops a.tmps) = true then Oper.wp P o a w K Q else E := by
  rw [if_pos (by simp [Region.wanted, hgd])]
  exact h
theorem ns_new (w : World) (x y : Nat) (t : TypeId) : NsIn (w.alloc (.cells (nvL x ++ nvL y).toArray t)) (some ⟨w.heap.size, 0, none⟩) [x, y] := by
  have hA := heap_alloc_new w (.cells (nvL x ++ nvL y).toArray t)
  have hs : w.heap.size < (w.alloc (.cells (nvL x ++ nvL y).toArray t)).heap.size := by simp
  intro j hj
  refine ⟨_, 0, rfl, hs, fun q v hv => ?_⟩
  have hq : q < 60 := by have := (List.getElem?_eq_some_iff.1 hv).1; rw [nvL_len] at this; exact this
  rw [cell_of_row _ _ _ _ _ _ hA]
  have hj2 : j = 0 ∨ j = 1 := by simp at hj; omega
  rcases hj2 with rfl | rfl
  · simp only [Nat.zero_mul, Nat.zero_add, List.getElem?_toArray]
    rw [List.getElem?_append_left (by rw [nvL_len]; exact hq)]
    exact hv
  · simp only [Nat.one_mul, Nat.zero_add, List.getElem?_toArray]
    rw [List.getElem?_append_right (by rw [nvL_len]; omega), nvL_len, Nat.add_sub_cancel_left]
    exact hv
section
variable {ops : Array Oper} {rest : List Oper} {op : Oper} {a : Act} {w : World} {Q : Exit → Act → World → Prop} {K : Act → World → Prop}
theorem wp_slice2_nv (p q : Operand) (ho : op.op = .buildSlice 52 2 #[(0, p), (1, q)]) (x y : Nat) (hp : a.eval p = .agg (nv x)) (hq : a.eval q = .agg (nv y))
    (h : ∀ Y g, NsIn Y (some ⟨g, 0, none⟩) [x, y] → Below w.heap.size w Y → w.heap.size ≤ g → K (a.put op.dst (.slice (some ⟨g, 0, none⟩) 2 2)) Y) : op.wp Try.prog a w K Q := by
  obtain ⟨i, hi, hz, hs, _⟩ := info55x
  refine wp_buildSlice _ _ 2 _ ho (nvL x ++ nvL y).toArray i _ Try.underlying52 hi hz (by rw [hs]; omega) (by rw [hs]; omega) ?_ (h _ _ (ns_new w x y _) ((Below.refl _ _).alloc (Nat.le_refl _) _) (Nat.le_refl _))
  have hf := Great.fill_whole (s := 60) (by omega) [.agg (nv x), .agg (nv y)] ((Array.range (2 * i.size)).map ((Value.agg (nv 0)).cells[· % (Value.agg (nv 0)).cells.size]!)) (fun v hv => by
    simp only [List.mem_cons, List.not_mem_nil, or_false] at hv
    rcases hv with rfl | rfl
    · exact nv_size x
    · exact nv_size y) (by simp [hs])
  have hfl : ([Value.agg (nv x), .agg (nv y)].flatMap fun v => v.cells.toList) = nvL x ++ nvL y := by simp [Value.cells, nv]
  rw [hfl] at hf
  rw [hs] at hf ⊢
  simp only [List.map_toArray, List.map_cons, List.map_nil, hp, hq]
  exact hf
theorem list_slice2_nv (hgd : op.guard = none) (p q : Operand) (ho : op.op = .buildSlice 52 2 #[(0, p), (1, q)]) (x y : Nat) (hp : a.eval p = .agg (nv x)) (hq : a.eval q = .agg (nv y))
    (h : ∀ Y g, NsIn Y (some ⟨g, 0, none⟩) [x, y] → Below w.heap.size w Y → w.heap.size ≤ g → wpList Try.prog ops Q rest (a.put op.dst (.slice (some ⟨g, 0, none⟩) 2 2)) Y) : wpList Try.prog ops Q (op :: rest) a w :=
  wpList_plain hgd fun _ hK => wp_slice2_nv p q ho x y hp hq (fun Y g h1 h2 h3 => hK _ _ (h Y g h1 h2 h3))
theorem src_new (w : World) (k : Nat) (t : TypeId) : Src (w.alloc (.cells (nv k) t)) (.slice (some ⟨w.heap.size, 0, none⟩) 1 1) 1 60 (nvL k) :=
  ⟨by rw [nvL_len], nvL_one k, Or.inr ⟨_, 1, rfl, fun j u hu => by rw [Addr.add_mid]; exact (Nb.new w k t).cs j u hu⟩⟩
theorem wp_slice1_nv (p : Operand) (ho : op.op = .buildSlice 52 1 #[(0, p)]) (k : Nat) (hp : a.eval p = .agg (nv k))
    (h : K (a.put op.dst (.slice (some ⟨w.heap.size, 0, none⟩) 1 1)) (w.alloc (.cells (nv k) 55))) : op.wp Try.prog a w K Q := by
  obtain ⟨i, hi, hz, hs, _⟩ := info55x
  refine wp_buildSlice _ _ 1 _ ho (nv k) i _ Try.underlying52 hi hz (by rw [hs]; omega) (by rw [hs]; omega) ?_ h
  have hf := Great.fill_whole (s := 60) (by omega) [.agg (nv k)] ((Array.range (1 * i.size)).map ((Value.agg (nv 0)).cells[· % (Value.agg (nv 0)).cells.size]!)) (fun v hv => by
    simp only [List.mem_cons, List.not_mem_nil, or_false] at hv
    rcases hv with rfl
    exact nv_size k) (by simp [hs])
  have hfl : ([Value.agg (nv k)].flatMap fun v => v.cells.toList) = nvL k := by simp [Value.cells, nv]
  rw [hfl] at hf
  rw [hs] at hf ⊢
  simp only [List.map_toArray, List.map_cons, List.map_nil, hp]
  exact hf
theorem list_slice1_nv (hgd : op.guard = none) (p : Operand) (ho : op.op = .buildSlice 52 1 #[(0, p)]) (k : Nat) (hp : a.eval p = .agg (nv k))
    (h : wpList Try.prog ops Q rest (a.put op.dst (.slice (some ⟨w.heap.size, 0, none⟩) 1 1)) (w.alloc (.cells (nv k) 55))) : wpList Try.prog ops Q (op :: rest) a w :=
  wpList_plain hgd fun _ hK => wp_slice1_nv p ho k hp (hK _ _ h)
end

def pairB (n : Nd) : Bool := decide (3 ≤ n.1) && decide (n.1 ≤ 6)
set_option maxHeartbeats 1000000 in
set_option maxRecDepth 100000 in
theorem implIsPair (n : Nd) (w : World) : Calls Try.prog 41 #[nodeVal n] w fun e w' => e = .returned (.bool (pairB n)) ∧ Below w.heap.size w w' := by
  obtain ⟨k, a, p, f⟩ := n
  have HP : Hid (pairB (k, a, p, f) = (decide (3 ≤ k) && decide (k ≤ 6))) := rfl
  unfold nodeVal
  simp only
  obtain ⟨W0, hW0⟩ : ∃ W0, w.alloc (.cells #[.int .i64 k, .int .i64 a, .string ⟨p.toArray⟩, .string ⟨f.toArray⟩] 33) = W0 := ⟨_, rfl⟩
  have st := NdAt.new w k a p f
  have hB : Below w.heap.size w W0 := by rw [← hW0]; exact (Below.refl _ w).alloc (Nat.le_refl _) _
  rw [hW0] at st
  have c0 := st.c0
  clear st
  by_cases h3 : 3 ≤ k
  · by_cases h6 : k ≤ 6
    · have hv : pairB (k, a, p, f) = true := by rw [HP.out, decide_eq_true h3, decide_eq_true h6]; rfl
      rw [hv]
      clear hv HP
      go_enter Try.func41, Try.ntmps41
      go_wp2
      go_ret
      exact ⟨rfl, hB⟩
    · have hv : pairB (k, a, p, f) = false := by rw [HP.out, decide_eq_true h3, decide_eq_false h6]; rfl
      rw [hv]
      clear hv HP
      go_enter Try.func41, Try.ntmps41
      go_wp2
      go_ret
      exact ⟨rfl, hB⟩
  · have hv : pairB (k, a, p, f) = false := by rw [HP.out, decide_eq_false h3]; rfl
    rw [hv]
    clear hv HP
    go_enter Try.func41, Try.ntmps41
    go_wp2
    go_ret
    exact ⟨rfl, hB⟩

/-- Two needs and the answer's place. -/
structure Tw (w X : World) (g1 g2 g3 x y : Nat) : Prop where
  a : Nb X g1 0 x
  b : Nb X g2 0 y
  r : X.there g3 0 60
  rl : g3 < X.heap.size
  h1 : g1 < g2
  h2 : g2 < g3
  h0 : w.heap.size ≤ g1
  bl : Below w.heap.size w X
section
variable {w X Y : World} {g1 g2 g3 x y k : Nat}
theorem there_block {b o n : Nat} (h : X.there b o n) (hb : Y.heap[b]? = X.heap[b]?) : Y.there b o n := fun j hj => by
  rw [World.cell?_of_block (a := ⟨b, o + j, none⟩) hb, World.frozen?_of_block (a := ⟨b, o + j, none⟩) hb]; exact h j hj
theorem Tw.below (s : Tw w X g1 g2 g3 x y) (hb : Below X.heap.size X Y) : Tw w Y g1 g2 g3 x y :=
  ⟨s.a.below hb, s.b.below hb, there_block s.r (hb.block _ s.rl), Nat.lt_of_lt_of_le s.rl hb.size, s.h1, s.h2, s.h0, s.bl.trans (hb.mono s.bl.size)⟩
theorem Tw.drew (s : Tw w X g1 g2 g3 x y) : Tw w X.drew g1 g2 g3 x y := s.below ⟨rfl, rfl, rfl, Nat.le_refl _, fun _ _ => rfl⟩
theorem Tw.kept (s : Tw w X g1 g2 g3 x y) (hg : X.grownBy Y (some g3)) (hn : Nb Y g3 0 k) : Tw w Y g1 g2 g3 x y := by
  have := s.h0; have := s.h1; have := s.h2
  exact ⟨s.a.kept hg (by simp; omega), s.b.kept hg (by simp; omega), hn.ok, hn.lt, s.h1, s.h2, s.h0, s.bl.grown hg s.bl.size (fun q e => by injection e with e; omega)⟩
theorem Tw.start {Y1 Y2 Y3 : World} (hN1 : Nb Y1 g1 0 x) (hB1 : Below w.heap.size w Y1) (hG1 : w.heap.size ≤ g1) (hN2 : Nb Y2 g2 0 y) (hB2 : Below Y1.heap.size Y1 Y2) (hG2 : Y1.heap.size ≤ g2) (hN3 : Nb Y3 g3 0 0) (hB3 : Below Y2.heap.size Y2 Y3) (hG3 : Y2.heap.size ≤ g3) : Tw w Y3 g1 g2 g3 x y := by
  have l1 := hN1.lt; have l2 := hN2.lt
  have b2 := hB1.trans (hB2.mono hB1.size)
  exact ⟨(hN1.below hB2).below hB3, hN2.below hB3, hN3.ok, hN3.lt, by omega, by omega, hG1, b2.trans (hB3.mono b2.size)⟩
end

def pairN (x y : Nat) : Nat := if x = y then x + 1 else gr [x, y]
set_option maxHeartbeats 4000000 in
set_option maxRecDepth 100000 in
theorem implNeedOfPair (x y : Nat) (w : World) (hx : x ≤ 60) (hy : y ≤ 60) :
    Calls Try.prog 58 #[.agg (nv x), .agg (nv y)] w fun e w' => e = .returned (.agg (nv (pairN x y))) ∧ Below w.heap.size w w' := by
  have heq := run_eql_nv x y hx hy
  by_cases e : x = y
  · have hv : pairN x y = x + 1 := by unfold pairN; rw [if_pos e]
    rw [hv]
    have hd : decide (x = y) = true := decide_eq_true e
    rw [hd] at heq
    clear hv hd e
    go_enter Try.func58, Try.ntmps58
    go_wp2_with (guard_target = wpList _ _ _ _ _ _; first | (refine list_box_nv rfl _ rfl 2 rfl x rfl (fun Y1 g1 hN1 hB1 hG1 => ?_)) | (refine list_box_nv rfl _ rfl 3 rfl y rfl (fun Y2 g2 hN2 hB2 hG2 => ?_)) | (refine list_alloc_nv rfl rfl 4 rfl (fun Y3 g3 hN3 hB3 hG3 => ?_)) | (refine list_load_nv rfl _ rfl 5 rfl _ _ x rfl (by exact (Tw.start hN1 hB1 hG1 hN2 hB2 hG2 hN3 hB3 hG3).a.cs) ?_) | (refine list_load_nv rfl _ rfl 6 rfl _ _ y rfl (by exact (Tw.start hN1 hB1 hG1 hN2 hB2 hG2 hN3 hB3 hG3).b.cs) ?_) | (refine list_load_nv rfl _ rfl 8 rfl _ _ x rfl (by exact (Tw.start hN1 hB1 hG1 hN2 hB2 hG2 hN3 hB3 hG3).a.cs) ?_))
    refine (implAbove x 1 _ (by omega)).mono ?_
    rintro e W5 ⟨rfl, hb5⟩
    have st := (Tw.start hN1 hB1 hG1 hN2 hB2 hG2 hN3 hB3 hG3).below hb5
    go_wp2_with (guard_target = wpList _ _ _ _ _ _; (refine list_store_nv rfl _ _ rfl _ _ (x + 1) rfl rfl st.r (fun Y6 hN6 hG6 => ?_)))
    refine bodyPost_ret (v := .agg (nv (x + 1))) (results_nv Try.results58 _ _ g3 (x + 1) rfl hN6.cs) rfl ⟨rfl, ?_⟩
    exact (st.kept hG6 hN6).bl
  · have hv : pairN x y = gr [x, y] := by unfold pairN; rw [if_neg e]
    rw [hv]
    have hd : decide (x = y) = false := decide_eq_false e
    rw [hd] at heq
    clear hv hd e
    go_enter Try.func58, Try.ntmps58
    go_wp2_with (guard_target = wpList _ _ _ _ _ _; first | (refine list_box_nv rfl _ rfl 2 rfl x rfl (fun Y1 g1 hN1 hB1 hG1 => ?_)) | (refine list_box_nv rfl _ rfl 3 rfl y rfl (fun Y2 g2 hN2 hB2 hG2 => ?_)) | (refine list_alloc_nv rfl rfl 4 rfl (fun Y3 g3 hN3 hB3 hG3 => ?_)) | (refine list_load_nv rfl _ rfl 5 rfl _ _ x rfl (by exact (Tw.start hN1 hB1 hG1 hN2 hB2 hG2 hN3 hB3 hG3).a.cs) ?_) | (refine list_load_nv rfl _ rfl 6 rfl _ _ y rfl (by exact (Tw.start hN1 hB1 hG1 hN2 hB2 hG2 hN3 hB3 hG3).b.cs) ?_) | (refine list_load_nv rfl _ rfl 10 rfl _ _ x rfl (by exact (Tw.start hN1 hB1 hG1 hN2 hB2 hG2 hN3 hB3 hG3).a.cs) ?_) | (refine list_load_nv rfl _ rfl 11 rfl _ _ y rfl (by exact (Tw.start hN1 hB1 hG1 hN2 hB2 hG2 hN3 hB3 hG3).b.cs) ?_) | (refine list_slice2_nv rfl _ _ rfl x y rfl rfl (fun Y4 g4 hN4 hB4 _ => ?_)))
    refine (implGreatest _ 2 2 [x, y] _ rfl hN4 (by omega)).mono ?_
    rintro e W5 ⟨rfl, hb5⟩
    have st := ((Tw.start hN1 hB1 hG1 hN2 hB2 hG2 hN3 hB3 hG3).below hB4).below hb5
    go_wp2_with (guard_target = wpList _ _ _ _ _ _; (refine list_store_nv rfl _ _ rfl _ _ (gr [x, y]) rfl rfl st.r (fun Y6 hN6 hG6 => ?_)))
    refine bodyPost_ret (v := .agg (nv (gr [x, y]))) (results_nv Try.results58 _ _ g3 (gr [x, y]) rfl hN6.cs) rfl ⟨rfl, ?_⟩
    exact (st.kept hG6 hN6).bl

def ordN (o : Int) (x y : Nat) : Nat := if o = 0 then gr [x, y + 1] else gr [y, x + 1]
set_option maxHeartbeats 4000000 in
set_option maxRecDepth 100000 in
theorem implNeedOfOrdered (o : Int) (x y : Nat) (w : World) :
    Calls Try.prog 33 #[.int .i64 o, .agg (nv x), .agg (nv y)] w fun e w' => e = .returned (.agg (nv (ordN o x y))) ∧ Below w.heap.size w w' := by
  by_cases e : o = 0
  · have hv : ordN o x y = gr [x, y + 1] := by unfold ordN; rw [if_pos e]
    rw [hv]
    clear hv
    subst e
    go_enter Try.func33, Try.ntmps33
    go_wp2_with (guard_target = wpList _ _ _ _ _ _; first | (refine list_box_nv rfl _ rfl 4 rfl x rfl (fun Y1 g1 hN1 hB1 hG1 => ?_)) | (refine list_box_nv rfl _ rfl 5 rfl y rfl (fun Y2 g2 hN2 hB2 hG2 => ?_)) | (refine list_alloc_nv rfl rfl 6 rfl (fun Y3 g3 hN3 hB3 hG3 => ?_)))
    have st : Hid (Tw w Y3 g1 g2 g3 x y) := Tw.start hN1 hB1 hG1 hN2 hB2 hG2 hN3 hB3 hG3
    clear hN1 hB1 hG1 hN2 hB2 hG2 hN3 hB3 hG3
    refine wp_region_held_drew (S := fun X => Tw w X g1 g2 g3 x y) (by kernel_rfl) st.out.drew (fun hHeld => ?_)
    refine wpAnyH_take (i := 0) (oi := ⟨some 9, _, _, _, _, _⟩) (v := .agg (nv x)) rfl (by kernel_rfl) (by kernel_rfl) (by kernel_rfl) (fun _ _ _ h => h) (yields_load_nv (by rfl) _ rfl g1 0 x rfl (fun v h => h.a.cs)) (by assumption) ?_
    simp only [Act.put, List.setIfInBounds_toArray, List.set_cons_zero, List.set_cons_succ]
    refine wpAnyH_take (i := 1) (oi := ⟨some 10, _, _, _, _, _⟩) (v := .agg (nv y)) rfl (by kernel_rfl) (by kernel_rfl) (by kernel_rfl) (fun _ _ _ h => h) (yields_load_nv (by rfl) _ rfl g2 0 y rfl (fun v h => h.b.cs)) (by assumption) ?_
    simp only [Act.put, List.setIfInBounds_toArray, List.set_cons_zero, List.set_cons_succ]
    refine wpAnyH_ready (rs := [2]) (by kernel_rfl) (by simp) ?_
    refine AllReadyH.cons rfl (fun K hK => ?_) AllReadyH.nil
    go_simp
    refine (implAbove y 1 _ (by omega)).mono ?_
    rintro e W2 ⟨rfl, hb2⟩
    dsimp only
    refine hK.out _ _ (by exact hHeld.below hb2) (fun hHeld => ?_)
    clear hK K
    (try simp only [Act.put, List.setIfInBounds_toArray, List.set_cons_zero, List.set_cons_succ])
    refine wpAnyH_ready (rs := [3]) (by kernel_rfl) (by simp) ?_
    refine AllReadyH.cons rfl (fun K hK => ?_) AllReadyH.nil
    refine step_of_wp rfl (wp_slice2_nv _ _ rfl x (y + 1) rfl rfl (fun W3 g4 hn3 hb3 _ => ?_))
    refine hK.out _ _ (by exact hHeld.below hb3) (fun hHeld => ?_)
    clear hK K
    (try simp only [Act.put, List.setIfInBounds_toArray])
    refine wpAnyH_ready (rs := [4]) (by kernel_rfl) (by simp) ?_
    refine AllReadyH.cons rfl (fun K hK => ?_) AllReadyH.nil
    go_simp
    refine (implGreatest _ 2 2 [x, y + 1] _ rfl hn3 (by omega)).mono ?_
    rintro e W4 ⟨rfl, hb4⟩
    dsimp only
    refine hK.out _ _ (by exact hHeld.below hb4) (fun hHeld => ?_)
    clear hK K
    (try simp only [Act.put, List.setIfInBounds_toArray, List.set_cons_zero, List.set_cons_succ])
    refine wpAnyH_ready (rs := [5]) (by kernel_rfl) (by simp) ?_
    refine AllReadyH.cons rfl (fun K hK => ?_) AllReadyH.nil
    refine step_of_wp rfl (wp_store_nv _ _ rfl g3 0 (gr [x, y + 1]) rfl rfl hHeld.r (fun W5 hn5 hg5 _ => ?_))
    have hB5 : Hid (Below w.heap.size w W5) := hHeld.bl.grown hg5 hHeld.bl.size (fun q e => by injection e with e; have := hHeld.h0; have := hHeld.h1; have := hHeld.h2; omega)
    refine hK.out _ _ (by exact hHeld.kept hg5 hn5) (fun hHeld => ?_)
    clear hK K
    (try simp only [Act.put, List.setIfInBounds_toArray])
    refine wpAnyH_done (by kernel_rfl) ?_ _
    go_wp2
    refine bodyPost_ret (v := .agg (nv (gr [x, y + 1]))) (results_nv Try.results33 _ _ g3 (gr [x, y + 1]) rfl hn5.cs) rfl ⟨rfl, ?_⟩
    exact hB5.out
  · have hv : ordN o x y = gr [y, x + 1] := by unfold ordN; rw [if_neg e]
    rw [hv]
    clear hv
    go_enter Try.func33, Try.ntmps33
    go_wp2_with (guard_target = wpList _ _ _ _ _ _; first | (refine list_box_nv rfl _ rfl 4 rfl x rfl (fun Y1 g1 hN1 hB1 hG1 => ?_)) | (refine list_box_nv rfl _ rfl 5 rfl y rfl (fun Y2 g2 hN2 hB2 hG2 => ?_)) | (refine list_alloc_nv rfl rfl 6 rfl (fun Y3 g3 hN3 hB3 hG3 => ?_)))
    have st : Hid (Tw w Y3 g1 g2 g3 x y) := Tw.start hN1 hB1 hG1 hN2 hB2 hG2 hN3 hB3 hG3
    clear hN1 hB1 hG1 hN2 hB2 hG2 hN3 hB3 hG3
    refine wp_region_held_drew (S := fun X => Tw w X g1 g2 g3 x y) (by kernel_rfl) st.out.drew (fun hHeld => ?_)
    refine wpAnyH_take (i := 0) (oi := ⟨some 14, _, _, _, _, _⟩) (v := .agg (nv y)) rfl (by kernel_rfl) (by kernel_rfl) (by kernel_rfl) (fun _ _ _ h => h) (yields_load_nv (by rfl) _ rfl g2 0 y rfl (fun v h => h.b.cs)) (by assumption) ?_
    simp only [Act.put, List.setIfInBounds_toArray, List.set_cons_zero, List.set_cons_succ]
    refine wpAnyH_take (i := 1) (oi := ⟨some 15, _, _, _, _, _⟩) (v := .agg (nv x)) rfl (by kernel_rfl) (by kernel_rfl) (by kernel_rfl) (fun _ _ _ h => h) (yields_load_nv (by rfl) _ rfl g1 0 x rfl (fun v h => h.a.cs)) (by assumption) ?_
    simp only [Act.put, List.setIfInBounds_toArray, List.set_cons_zero, List.set_cons_succ]
    refine wpAnyH_ready (rs := [2]) (by kernel_rfl) (by simp) ?_
    refine AllReadyH.cons rfl (fun K hK => ?_) AllReadyH.nil
    go_simp
    refine (implAbove x 1 _ (by omega)).mono ?_
    rintro e W2 ⟨rfl, hb2⟩
    dsimp only
    refine hK.out _ _ (by exact hHeld.below hb2) (fun hHeld => ?_)
    clear hK K
    (try simp only [Act.put, List.setIfInBounds_toArray, List.set_cons_zero, List.set_cons_succ])
    refine wpAnyH_ready (rs := [3]) (by kernel_rfl) (by simp) ?_
    refine AllReadyH.cons rfl (fun K hK => ?_) AllReadyH.nil
    refine step_of_wp rfl (wp_slice2_nv _ _ rfl y (x + 1) rfl rfl (fun W3 g4 hn3 hb3 _ => ?_))
    refine hK.out _ _ (by exact hHeld.below hb3) (fun hHeld => ?_)
    clear hK K
    (try simp only [Act.put, List.setIfInBounds_toArray])
    refine wpAnyH_ready (rs := [4]) (by kernel_rfl) (by simp) ?_
    refine AllReadyH.cons rfl (fun K hK => ?_) AllReadyH.nil
    go_simp
    refine (implGreatest _ 2 2 [y, x + 1] _ rfl hn3 (by omega)).mono ?_
    rintro e W4 ⟨rfl, hb4⟩
    dsimp only
    refine hK.out _ _ (by exact hHeld.below hb4) (fun hHeld => ?_)
    clear hK K
    (try simp only [Act.put, List.setIfInBounds_toArray, List.set_cons_zero, List.set_cons_succ])
    refine wpAnyH_ready (rs := [5]) (by kernel_rfl) (by simp) ?_
    refine AllReadyH.cons rfl (fun K hK => ?_) AllReadyH.nil
    refine step_of_wp rfl (wp_store_nv _ _ rfl g3 0 (gr [y, x + 1]) rfl rfl hHeld.r (fun W5 hn5 hg5 _ => ?_))
    have hB5 : Hid (Below w.heap.size w W5) := hHeld.bl.grown hg5 hHeld.bl.size (fun q e => by injection e with e; have := hHeld.h0; have := hHeld.h1; have := hHeld.h2; omega)
    refine hK.out _ _ (by exact hHeld.kept hg5 hn5) (fun hHeld => ?_)
    clear hK K
    (try simp only [Act.put, List.setIfInBounds_toArray])
    refine wpAnyH_done (by kernel_rfl) ?_ _
    go_wp2
    refine bodyPost_ret (v := .agg (nv (gr [y, x + 1]))) (results_nv Try.results33 _ _ g3 (gr [y, x + 1]) rfl hn5.cs) rfl ⟨rfl, ?_⟩
    exact hB5.out

end Go.Proofs.Ytdnehneldmmeoaa

/-! Contracts of chapter 12's landed code: needOfCall, and the two closures that tell what a pair takes. -/
namespace Go.Proofs.Ytdnehneldmmeoaa
open Go.RowKit

def cn (ks : List Nat) : Nat → Nat
  | 0 => 1
  | j + 1 => gr [cn ks j, ks.getD j 0 + j]
/-- What needOfCall holds in a round. -/
structure Cl (w X : World) (g2 g3 g5 m k : Nat) : Prop where
  g : Gr w X g2 g3 m
  p : Nb X g5 0 k
  h : g3 < g5
theorem Cl.below {w X Y : World} {g2 g3 g5 m k : Nat} (s : Cl w X g2 g3 g5 m k) (hb : Below X.heap.size X Y) : Cl w Y g2 g3 g5 m k := ⟨s.g.below hb, s.p.below hb, s.h⟩
theorem Cl.drew {w X : World} {g2 g3 g5 m k : Nat} (s : Cl w X g2 g3 g5 m k) : Cl w X.drew g2 g3 g5 m k := s.below ⟨rfl, rfl, rfl, Nat.le_refl _, fun _ _ => rfl⟩

set_option maxHeartbeats 4000000 in
set_option maxRecDepth 100000 in
theorem implNeedOfCall (a : Option Addr) (n c : Nat) (ks : List Nat) (w : World) (hn : ks.length = n) (hin : NsIn w a ks) (hnl : n ≤ 1000000) :
    Calls Try.prog 54 #[.slice a n c] w fun e w' => e = .returned (.agg (nv (cn ks n))) ∧ Below w.heap.size w w' := by
  have HIn : Hid (∀ X, Below w.heap.size w X → NsIn X a ks) := fun X hb => hin.below hb
  have HN : Hid (ks.length = n) := hn
  clear hin hn
  go_enter Try.func54, Try.ntmps54
  go_wp2_with (guard_target = wpList _ _ _ _ _ _; (refine list_alloc_nv rfl rfl 2 rfl (fun Y2 g2 hN2 hB2 hG2 => ?_)))
  refine (implGreatest none 0 0 [] _ rfl (fun j hj => by simp at hj) (by omega)).mono ?_
  rintro e W1 ⟨rfl, hb1⟩
  go_wp2_with (guard_target = wpList _ _ _ _ _ _; first | (refine list_alloc_nv rfl rfl 3 rfl (fun Y3 g3 hN3 hB3 hG3 => ?_)) | (refine list_store_nv rfl _ _ rfl _ _ (gr []) rfl rfl hN3.ok (fun Y4 hN4 hG4 => ?_)))
  have HS : Hid (Gr w Y4 g2 g3 (cn ks 0)) := by
    have l2 := hN2.lt; have l3 := hN3.lt
    have s1 := hb1.size
    have b2 := hB2.trans (hb1.mono hB2.size)
    have b3 := b2.trans (hB3.mono b2.size)
    exact ⟨((hN2.below hb1).below hB3).kept hG4 (by simp; omega), hN4, by omega, hG2, b3.grown hG4 b3.size (fun q e => by injection e with e; have := hB2.size; omega)⟩
  clear hN2 hB2 hG2 hN3 hB3 hG3 hN4 hG4 hb1
  go_loopw [9] (fun jv wx => ∃ j : Nat, jv = .int .i64 (j : Int) ∧ j ≤ n ∧ Hid (Gr w wx g2 g3 (cn ks j))) (fun jv _ => n - (intOf jv).toNat)
  case atStart => exact ⟨0, rfl, Nat.zero_le _, HS⟩
  case round =>
    obtain ⟨j, rfl, hj, st⟩ := hrel
    clear HS
    by_cases hlt : (j : Int) < (n : Int)
    · obtain ⟨b, off, rfl, hbl, hrg⟩ := HIn.out wr st.out.b j (by rw [HN.out]; omega)
      have HSn : Hid (cn ks (j + 1) = gr [cn ks j, ks.getD j 0 + j]) := by exact (rfl : cn ks (j + 1) = gr [cn ks j, ks.getD j 0 + j])
      obtain ⟨k, hk⟩ : ∃ k, ks.getD j 0 = k := ⟨_, rfl⟩
      obtain ⟨m, hm⟩ : ∃ m, cn ks j = m := ⟨_, rfl⟩
      rw [hk] at hrg HSn
      rw [hm] at st HSn
      clear hk hm
      go_wp2_with (guard_target = wpList _ _ _ _ _ _; first | (refine list_load_nv rfl _ rfl 13 rfl _ _ k rfl (by exact hrg) ?_) | (refine list_alloc_nv rfl rfl 5 rfl (fun Y5 g5 hN5 hB5 hG5 => ?_)) | (refine list_store_nv rfl _ _ rfl _ _ k rfl rfl hN5.ok (fun Y6 hN6 hG6 => ?_)))
      have sc : Hid (Cl w Y6 g2 g3 g5 m k) := ⟨(st.out.below hB5).kept hG6 (by have := st.out.n.lt; omega), hN6, by have := st.out.n.lt; omega⟩
      clear hN5 hB5 hG5 hN6 hG6 hrg st
      refine Till.region (S := fun X => Cl w X g2 g3 g5 m k) (E := [6]) (by kernel_rfl) sc.out.drew (fun hHeld hSh => ?_)
      refine Till.take (i := 0) (o := ⟨some 14, _, _, _, _, _⟩) (v := .agg (nv m)) (d := 30) rfl (by kernel_rfl) (by kernel_rfl) (by kernel_rfl) (by kernel_rfl) (fun _ _ _ h => h) (yields_load_nv (by rfl) _ rfl g3 0 m rfl (fun v h => h.g.n.cs)) (by assumption) hSh (fun hSh2 => ?_)
      clear hSh; rename Shut11 _ _ _ => hSh
      simp only [Act.put, List.setIfInBounds_toArray, List.set_cons_zero, List.set_cons_succ]
      refine Till.take (i := 1) (o := ⟨some 15, _, _, _, _, _⟩) (v := .agg (nv k)) (d := 30) rfl (by kernel_rfl) (by kernel_rfl) (by kernel_rfl) (by kernel_rfl) (fun _ _ _ h => h) (yields_load_nv (by rfl) _ rfl g5 0 k rfl (fun v h => h.p.cs)) (by assumption) hSh (fun hSh2 => ?_)
      clear hSh; rename Shut11 _ _ _ => hSh
      simp only [Act.put, List.setIfInBounds_toArray, List.set_cons_zero, List.set_cons_succ]
      refine Till.take (i := 2) (o := ⟨some 16, _, _, _, _, _⟩) (v := ?v2) (d := 30) rfl (by kernel_rfl) (by kernel_rfl) (by kernel_rfl) (by kernel_rfl) (fun _ _ _ h => h) (Or.inl ⟨by rfl, ?hy2⟩) (by assumption) hSh (fun hSh2 => ?rest2)
      case hy2 => (intro wq hSw; first | (go_simp; done) | (go_simp; with_reducible rfl))
      clear hSh; rename Shut11 _ _ _ => hSh
      simp only [Act.put, List.setIfInBounds_toArray, List.set_cons_zero, List.set_cons_succ]
      refine Till.one (i := 3) (by kernel_rfl) rfl hSh (fun K hK => ?_)
      clear hSh
      go_simp
      refine (implAbove k j _ (by omega)).mono ?_
      rintro e W2 ⟨rfl, hb2⟩
      dsimp only
      refine hK.out _ _ (by exact hHeld.below hb2) (fun hHeld hSh => ?_)
      clear hK K
      (try simp only [Act.put, List.setIfInBounds_toArray, List.set_cons_zero, List.set_cons_succ])
      refine Till.one (i := 4) (by kernel_rfl) rfl hSh (fun K hK => ?_)
      clear hSh
      refine step_of_wp rfl (wp_slice2_nv _ _ rfl m (k + j) rfl rfl (fun W3 g4 hn3 hb3 _ => ?_))
      refine hK.out _ _ (by exact hHeld.below hb3) (fun hHeld hSh => ?_)
      clear hK K
      (try simp only [Act.put, List.setIfInBounds_toArray])
      refine Till.one (i := 5) (by kernel_rfl) rfl hSh (fun K hK => ?_)
      clear hSh
      go_simp
      refine (implGreatest _ 2 2 [m, k + j] _ rfl hn3 (by omega)).mono ?_
      rintro e W4 ⟨rfl, hb4⟩
      dsimp only
      refine hK.out _ _ (by exact hHeld.below hb4) (fun hHeld hSh => ?_)
      clear hK K
      (try simp only [Act.put, List.setIfInBounds_toArray, List.set_cons_zero, List.set_cons_succ])
      refine Till.last (i := 6) (by kernel_rfl) rfl (by decide) (fun K hK => ?_)
      refine step_of_wp rfl (wp_store_nv _ _ rfl g3 0 (gr [m, k + j]) rfl rfl hHeld.g.n.ok (fun W5 hn5 hg5 hE5 => ?_))
      clear hE5
      have HR : Hid (Gr w W5 g2 g3 (cn ks (j + 1))) := by
        rw [HSn.out]
        have := hHeld.g.h0; have := hHeld.g.h2
        exact ⟨hHeld.g.r.kept hg5 (by simp; omega), hn5, hHeld.g.h2, hHeld.g.h0, hHeld.g.b.grown hg5 hHeld.g.b.size (fun q e => by injection e with e; omega)⟩
      refine hK.out _ _ ?_
      clear hK K
      (try simp only [Act.put, List.setIfInBounds_toArray])
      refine Till.done (by kernel_rfl) ?_ _
      clear hHeld hSh sc hn3 hn5 hg5 hb2 hb3 hb4
      go_wp2
      go_roundw
      case rel => exact ⟨j + 1, by go_num, by omega, HR⟩
      case measure => simp [intOf]; omega
    · have HE : Hid (j = n) := by exact (by omega : j = n)
      rw [HE.out] at st
      go_wp2_with (guard_target = wpList _ _ _ _ _ _; first | (refine list_load_nv rfl _ rfl 21 rfl _ _ (cn ks n) rfl (by exact st.out.n.cs) ?_) | (refine list_store_nv rfl _ _ rfl _ _ (cn ks n) rfl rfl st.out.r.ok (fun Y5 hN5 hG5 => ?_)))
      refine bodyPost_ret (v := .agg (nv (cn ks n))) (results_nv Try.results54 _ _ g2 (cn ks n) rfl hN5.cs) rfl ⟨rfl, ?_⟩
      exact st.out.b.grown hG5 st.out.b.size (fun q e => by injection e with e; have := st.out.h0; omega)

set_option maxHeartbeats 4000000 in
set_option maxRecDepth 100000 in
theorem implLeast1 (q : Int) (x y : Nat) (w : World) (hx : x ≤ 60) (hy : y ≤ 60) :
    Calls Try.prog 57 #[.int .i64 q, .agg (nv x), .agg (nv y)] w fun e w' => e = .returned (.agg (nv (pairN x y))) ∧ Below w.heap.size w w' := by
  go_enter Try.func57, Try.ntmps57
  go_wp2_with (guard_target = wpList _ _ _ _ _ _; first | (refine list_box_nv rfl _ rfl 4 rfl x rfl (fun Y1 g1 hN1 hB1 hG1 => ?_)) | (refine list_box_nv rfl _ rfl 5 rfl y rfl (fun Y2 g2 hN2 hB2 hG2 => ?_)) | (refine list_alloc_nv rfl rfl 6 rfl (fun Y3 g3 hN3 hB3 hG3 => ?_)) | (refine list_load_nv rfl _ rfl 7 rfl _ _ x rfl (by exact (Tw.start hN1 hB1 hG1 hN2 hB2 hG2 hN3 hB3 hG3).a.cs) ?_) | (refine list_load_nv rfl _ rfl 8 rfl _ _ y rfl (by exact (Tw.start hN1 hB1 hG1 hN2 hB2 hG2 hN3 hB3 hG3).b.cs) ?_))
  refine (implNeedOfPair x y _ hx hy).mono ?_
  rintro e W5 ⟨rfl, hb5⟩
  have st := (Tw.start hN1 hB1 hG1 hN2 hB2 hG2 hN3 hB3 hG3).below hb5
  go_wp2_with (guard_target = wpList _ _ _ _ _ _; (refine list_store_nv rfl _ _ rfl _ _ (pairN x y) rfl rfl st.r (fun Y6 hN6 hG6 => ?_)))
  refine bodyPost_ret (v := .agg (nv (pairN x y))) (results_nv Try.results57 _ _ g3 (pairN x y) rfl hN6.cs) rfl ⟨rfl, ?_⟩
  exact (st.kept hG6 hN6).bl

set_option maxHeartbeats 4000000 in
set_option maxRecDepth 100000 in
theorem implBy1 (q : Nat) (x y : Nat) (go_ : Nat) (oa : Option Addr) (oc : Nat) (os : List Int) (w : World) (hgo : go_ < w.heap.size) (hc : w.cell? ⟨go_, 0, none⟩ = some (.slice oa os.length oc)) (hos : AsIn w oa os) (hq : q < os.length) :
    Calls Try.prog 32 #[.int .i64 (q : Int), .agg (nv x), .agg (nv y), .pointer (some ⟨go_, 0, none⟩)] w fun e w' => e = .returned (.agg (nv (ordN (os.getD q 0) x y))) ∧ Below w.heap.size w w' := by
  obtain ⟨b, off, rfl, hbl, hcq⟩ := hos q hq
  obtain ⟨o, ho⟩ : ∃ o, os.getD q 0 = o := ⟨_, rfl⟩
  rw [ho] at hcq ⊢
  obtain ⟨nl, hnl⟩ : ∃ nl, os.length = nl := ⟨_, rfl⟩
  rw [hnl] at hc hq
  have hq1 : (q : Int) < (nl : Int) := by omega
  have HC0 : Hid (∀ X, Below w.heap.size w X → X.cell? ⟨go_, 0, none⟩ = some (.slice (some ⟨b, off, none⟩) nl oc)) := fun X h => (h.cell (p := ⟨go_, 0, none⟩) hgo).trans hc
  have HC1 : Hid (∀ X, Below w.heap.size w X → X.cell? ⟨b, off + q, none⟩ = some (.int .i64 o)) := fun X h => (h.cell (p := ⟨b, off + q, none⟩) hbl).trans hcq
  clear hc hcq ho hnl hos hgo hbl
  go_enter Try.func32, Try.ntmps32
  go_wp2_with (guard_target = wpList _ _ _ _ _ _; first | (refine list_box_nv rfl _ rfl 5 rfl x rfl (fun Y1 g1 hN1 hB1 hG1 => ?_)) | (refine list_box_nv rfl _ rfl 6 rfl y rfl (fun Y2 g2 hN2 hB2 hG2 => ?_)) | (refine list_alloc_nv rfl rfl 7 rfl (fun Y3 g3 hN3 hB3 hG3 => ?_)))
  have st : Hid (Tw w Y3 g1 g2 g3 x y) := Tw.start hN1 hB1 hG1 hN2 hB2 hG2 hN3 hB3 hG3
  clear hN1 hB1 hG1 hN2 hB2 hG2 hN3 hB3 hG3
  refine wp_region_held_drew (S := fun X => Tw w X g1 g2 g3 x y) (by kernel_rfl) st.out.drew (fun hHeld => ?_)
  refine wpAnyH_take (i := 0) (oi := ⟨some 8, _, _, _, _, _⟩) (v := ?v0) rfl (by kernel_rfl) (by kernel_rfl) (by kernel_rfl) (fun _ _ _ h => h) (Or.inl ⟨by rfl, ?hy0⟩) (by assumption) ?rest0
  case hy0 => (intro wq hSw; have e0 := HC0.out wq hSw.bl; have e1 := HC1.out wq hSw.bl; first | (go_simp; done) | (go_simp; with_reducible rfl))
  simp only [Act.put, List.setIfInBounds_toArray, List.set_cons_zero, List.set_cons_succ]
  refine wpAnyH_take (i := 1) (oi := ⟨some 9, _, _, _, _, _⟩) (v := ?v1) rfl (by kernel_rfl) (by kernel_rfl) (by kernel_rfl) (fun _ _ _ h => h) (Or.inl ⟨by rfl, ?hy1⟩) (by assumption) ?rest1
  case hy1 => (intro wq hSw; have e0 := HC0.out wq hSw.bl; have e1 := HC1.out wq hSw.bl; first | (go_simp; done) | (go_simp; with_reducible rfl))
  simp only [Act.put, List.setIfInBounds_toArray, List.set_cons_zero, List.set_cons_succ]
  refine wpAnyH_take (i := 2) (oi := ⟨some 10, _, _, _, _, _⟩) (v := ?v2) rfl (by kernel_rfl) (by kernel_rfl) (by kernel_rfl) (fun _ _ _ h => h) (Or.inl ⟨by rfl, ?hy2⟩) (by assumption) ?rest2
  case hy2 => (intro wq hSw; have e0 := HC0.out wq hSw.bl; have e1 := HC1.out wq hSw.bl; first | (go_simp; done) | (go_simp; with_reducible rfl))
  simp only [Act.put, List.setIfInBounds_toArray, List.set_cons_zero, List.set_cons_succ]
  refine wpAnyH_take (i := 3) (oi := ⟨some 11, _, _, _, _, _⟩) (v := ?v3) rfl (by kernel_rfl) (by kernel_rfl) (by kernel_rfl) (fun _ _ _ h => h) (Or.inl ⟨by rfl, ?hy3⟩) (by assumption) ?rest3
  case hy3 => (intro wq hSw; have e0 := HC0.out wq hSw.bl; have e1 := HC1.out wq hSw.bl; first | (go_simp; done) | (go_simp; with_reducible rfl))
  simp only [Act.put, List.setIfInBounds_toArray, List.set_cons_zero, List.set_cons_succ]
  refine wpAnyH_take (i := 4) (oi := ⟨some 12, _, _, _, _, _⟩) (v := .agg (nv x)) rfl (by kernel_rfl) (by kernel_rfl) (by kernel_rfl) (fun _ _ _ h => h) (yields_load_nv (by rfl) _ rfl g1 0 x rfl (fun v h => h.a.cs)) (by assumption) ?_
  simp only [Act.put, List.setIfInBounds_toArray, List.set_cons_zero, List.set_cons_succ]
  refine wpAnyH_take (i := 5) (oi := ⟨some 13, _, _, _, _, _⟩) (v := .agg (nv y)) rfl (by kernel_rfl) (by kernel_rfl) (by kernel_rfl) (fun _ _ _ h => h) (yields_load_nv (by rfl) _ rfl g2 0 y rfl (fun v h => h.b.cs)) (by assumption) ?_
  simp only [Act.put, List.setIfInBounds_toArray, List.set_cons_zero, List.set_cons_succ]
  refine wpAnyH_ready (rs := [6]) (by kernel_rfl) (by simp) ?_
  refine AllReadyH.cons rfl (fun K hK => ?_) AllReadyH.nil
  go_simp
  refine (implNeedOfOrdered o x y _).mono ?_
  rintro e W4 ⟨rfl, hb4⟩
  dsimp only
  refine hK.out _ _ (by exact hHeld.below hb4) (fun hHeld => ?_)
  clear hK K
  (try simp only [Act.put, List.setIfInBounds_toArray, List.set_cons_zero, List.set_cons_succ])
  refine wpAnyH_ready (rs := [7]) (by kernel_rfl) (by simp) ?_
  refine AllReadyH.cons rfl (fun K hK => ?_) AllReadyH.nil
  refine step_of_wp rfl (wp_store_nv _ _ rfl g3 0 (ordN o x y) rfl rfl hHeld.r (fun W5 hn5 hg5 hE5 => ?_))
  clear hE5
  have hB5 : Hid (Below w.heap.size w W5) := (hHeld.kept hg5 hn5).bl
  refine hK.out _ _ (by exact hHeld.kept hg5 hn5) (fun hHeld => ?_)
  clear hK K
  (try simp only [Act.put, List.setIfInBounds_toArray])
  refine wpAnyH_done (by kernel_rfl) ?_ _
  go_wp2
  refine bodyPost_ret (v := .agg (nv (ordN o x y))) (results_nv Try.results32 _ _ g3 (ordN o x y) rfl hn5.cs) rfl ⟨rfl, ?_⟩
  exact hB5.out

end Go.Proofs.Ytdnehneldmmeoaa
