/-
  Parts of one proof, one behind the other: ImgL.
-/
import Derived.Test.YtogobeegibngiaaGreatDoorP32
import Derived.Test.YtogobeegibngiaaGreatDoorP27
import Derived.Test.YtogobeegibngiaaGreatDoorP28
import Derived.Test.YtogobeegibngiaaGreatDoorP3

/-! Contracts of chapter 14's landed code: an instruction is read (insIn). -/
namespace Go.Proofs.YtogobeegibngiaaGreatDoor
open Go.RowKit

theorem set5 {X : World} {R : Nat} {a0 a1 a2 a3 a4 : Value} (u0 u1 u2 u3 u4 : Value) (r0 : X.cell? ⟨R, 0, none⟩ = some a0) (r1 : X.cell? ⟨R, 1, none⟩ = some a1) (r2 : X.cell? ⟨R, 2, none⟩ = some a2) (r3 : X.cell? ⟨R, 3, none⟩ = some a3) (r4 : X.cell? ⟨R, 4, none⟩ = some a4) :
    ∃ Y, ((((X.setCell ⟨R, 0, none⟩ u0).setCell ⟨R, 1, none⟩ u1).setCell ⟨R, 2, none⟩ u2).setCell ⟨R, 3, none⟩ u3).setCell ⟨R, 4, none⟩ u4 = Y ∧ Y.cell? ⟨R, 0, none⟩ = some u0 ∧ Y.cell? ⟨R, 1, none⟩ = some u1 ∧ Y.cell? ⟨R, 2, none⟩ = some u2 ∧ Y.cell? ⟨R, 3, none⟩ = some u3 ∧ Y.cell? ⟨R, 4, none⟩ = some u4 ∧ X.grownBy Y (some R) := by
  have o : ∀ {Z : World} {i j : Nat} {v u : Value}, i ≠ j → Z.cell? ⟨R, i, none⟩ = some v → (Z.setCell ⟨R, j, none⟩ u).cell? ⟨R, i, none⟩ = some v := fun hij h => (World.cell?_setCell_other _ _ _ _ (fun e => hij (by injection e with _ e _; exact e.symm))).trans h
  have s : ∀ {Z : World} {i : Nat} {v u : Value}, Z.cell? ⟨R, i, none⟩ = some v → (Z.setCell ⟨R, i, none⟩ u).cell? ⟨R, i, none⟩ = some u := fun h => World.cell?_setCell_same _ _ _ h
  refine ⟨_, rfl, ?_, ?_, ?_, ?_, ?_, ?_⟩
  · exact o (by decide) (o (by decide) (o (by decide) (o (by decide) (s r0))))
  · exact o (by decide) (o (by decide) (o (by decide) (s (o (by decide) r1))))
  · exact o (by decide) (o (by decide) (s (o (by decide) (o (by decide) r2))))
  · exact o (by decide) (s (o (by decide) (o (by decide) (o (by decide) r3))))
  · exact s (o (by decide) (o (by decide) (o (by decide) (o (by decide) r4))))
  · exact ((((grown_set _ _ _ _).trans (grown_set _ _ _ _)).trans (grown_set _ _ _ _)).trans (grown_set _ _ _ _)).trans (grown_set _ _ _ _)
theorem fiveI {X W : World} {R : Nat} {u0 u1 u2 u3 u4 : Value} {T : TypeId} (hX : Below W.heap.size W X) (hR : W.heap[R]? = some (.cells #[u0, u1, u2, u3, u4] T)) :
    X.cell? ⟨R, 0, none⟩ = some u0 ∧ X.cell? ⟨R, 1, none⟩ = some u1 ∧ X.cell? ⟨R, 2, none⟩ = some u2 ∧ X.cell? ⟨R, 3, none⟩ = some u3 ∧ X.cell? ⟨R, 4, none⟩ = some u4 ∧ ∀ j, X.frozen? ⟨R, j, none⟩ = false := by
  have hb : X.heap[R]? = some (.cells #[u0, u1, u2, u3, u4] T) := (hX.block R (lt_of_block hR)).trans hR
  refine ⟨?_, ?_, ?_, ?_, ?_, fun j => frozen_of_row _ _ _ _ _ hb⟩ <;> (rw [cell_of_row _ _ _ _ _ _ hb]; rfl)

theorem keep4 {X : World} {R : Nat} {z : Value} {T : TypeId} (h : X.heap[R]? = some (.cells #[z, z, z, z] T (0, 0))) :
    ∃ Y, (((X.setCell ⟨R, 0, none⟩ z).setCell ⟨R, 1, none⟩ z).setCell ⟨R, 2, none⟩ z).setCell ⟨R, 3, none⟩ z = Y ∧ Y.heap[R]? = some (.cells #[z, z, z, z] T (0, 0)) ∧ X.grownBy Y (some R) := by
  have h0 : (X.setCell ⟨R, 0, none⟩ z).heap[R]? = some (.cells #[z, z, z, z] T (0, 0)) := heap_setCell_same _ _ _ _ _ _ h
  have h1 : ((X.setCell ⟨R, 0, none⟩ z).setCell ⟨R, 1, none⟩ z).heap[R]? = some (.cells #[z, z, z, z] T (0, 0)) := heap_setCell_same _ _ _ _ _ _ h0
  have h2 : (((X.setCell ⟨R, 0, none⟩ z).setCell ⟨R, 1, none⟩ z).setCell ⟨R, 2, none⟩ z).heap[R]? = some (.cells #[z, z, z, z] T (0, 0)) := heap_setCell_same _ _ _ _ _ _ h1
  exact ⟨_, rfl, heap_setCell_same _ _ _ _ _ _ h2, (((grown_set _ _ _ _).trans (grown_set _ _ _ _)).trans (grown_set _ _ _ _)).trans (grown_set _ _ _ _)⟩
/-- The four numbers as they are read. -/
noncomputable def flL (ws : List (List UInt8)) (k : Nat) : List Value := [.int .i64 (if 0 < k then numV (ws.getD 0 []) else 0), .int .i64 (if 1 < k then numV (ws.getD 1 []) else 0), .int .i64 (if 2 < k then numV (ws.getD 2 []) else 0), .int .i64 (if 3 < k then numV (ws.getD 3 []) else 0)]
theorem flL_set (ws : List (List UInt8)) (k : Nat) (hk : k < 4) : (flL ws k).set k (.int .i64 (numV (ws.getD k []))) = flL ws (k + 1) := by
  match k, hk with
  | 0, _ => simp [flL]
  | 1, _ => simp [flL]
  | 2, _ => simp [flL]
  | 3, _ => simp [flL]
theorem flL_at (ws : List (List UInt8)) (k j : Nat) (hj : j < 4) : ∃ v, (flL ws k)[j]? = some v := by
  have : j < (flL ws k).length := by simp [flL]; omega
  exact ⟨_, List.getElem?_eq_getElem this⟩
/-- What insIn holds: the answer's cells (at D), the numbers (at D + 1). -/
structure In14 (w X : World) (D : Nat) (ws : List (List UInt8)) (k : Nat) : Prop where
  d : X.heap[D]? = some (.cells #[.int .i64 0, .int .i64 0, .int .i64 0, .int .i64 0, .string ⟨#[]⟩] 56 (0, 0))
  f : X.heap[D + 1]? = some (.cells (flL ws k).toArray 110 (0, 0))
  h : Below w.heap.size w X
section
variable {w X Y : World} {D : Nat} {ws : List (List UInt8)} {k : Nat}
theorem In14.below (h : In14 w X D ws k) (hb : Below X.heap.size X Y) : In14 w Y D ws k := ⟨(hb.block D (lt_of_block h.d)).trans h.d, (hb.block (D + 1) (lt_of_block h.f)).trans h.f, h.h.trans (hb.mono h.h.size)⟩
theorem In14.set (h : In14 w X D ws k) (hk : k < 4) (hD : w.heap.size ≤ D) : In14 w (X.setCell ⟨D + 1, k, none⟩ (.int .i64 (numV (ws.getD k [])))) D ws (k + 1) :=
  ⟨(heap_setCell_other _ _ _ _ (by simp)).trans h.d, by rw [heap_setCell_same _ _ _ _ _ _ h.f, ← flL_set ws k hk]; simp, h.h.grown (grown_set _ _ _ _) h.h.size (fun q e => by injection e with e; omega)⟩
end

theorem index4 (W : World) (b i : Nat) (hi : (i : Int) < 4) : (Instr.indexAt 110 (.pointer (some ⟨b, 0, none⟩)) (.int .i64 (i : Int))).run Tryz.prog W = .ok (.pointer (some ⟨b, i, none⟩)) W := by
  have hu : Tryz.prog.underlying 110 = some (.array (Tryz.prog.arrayLen 110) (Tryz.prog.elem 110)) := by kernel_rfl
  have hl : Tryz.prog.arrayLen 110 = 4 := by kernel_rfl
  have he : Tryz.prog.elem 110 = 2 := by kernel_rfl
  rw [run_indexAt_array _ _ _ _ _ hu, hl, he, if_pos ⟨by omega, by omega⟩, Tryz.sizeOf2]
  simp [Result.andThen, Addr.add_mid]
set_option maxHeartbeats 4000000 in
set_option maxRecDepth 100000 in
theorem implInsIn (a : Option Addr) (n c : Nat) (ws : List (List UInt8)) (w : World) (hin : TextsIn w a n ws) (hl : ∀ j, (ws.getD j []).length ≤ 1048576) (hn : n ≤ 1048577) :
    Calls Tryz.prog 58 #[.slice a n c] w fun e w' => e = .returned (insVal (insLo ws)) ∧ Below w.heap.size w w' := by
  obtain ⟨W, hW⟩ : ∃ W, w.alloc (.cells #[.int .i64 0, .int .i64 0, .int .i64 0, .int .i64 0, .string ⟨#[]⟩] 56) = W := ⟨_, rfl⟩
  have hb : Below w.heap.size w W := by rw [← hW]; exact (Below.refl _ _).alloc (Nat.le_refl _) _
  have hsW : W.heap.size = w.heap.size + 1 := by rw [← hW]; simp
  have hR : W.heap[w.heap.size]? = some (.cells #[.int .i64 0, .int .i64 0, .int .i64 0, .int .i64 0, .string ⟨#[]⟩] 56) := by rw [← hW]; exact heap_alloc_new w _
  have hwl : ws.length = n := hin.1
  obtain ⟨D, hD⟩ : ∃ D, w.heap.size = D := ⟨_, rfl⟩
  by_cases h5 : n = 5
  · have HLo : Hid (insLo ws = (numV (ws.getD 0 []), numV (ws.getD 1 []), numV (ws.getD 2 []), numV (ws.getD 3 []), if ws.getD 4 [] = [45] then [] else ws.getD 4 [])) := by exact (by unfold insLo; rw [if_pos (by omega)] : insLo ws = _)
    subst h5
    have HI : Hid (∀ X, Below w.heap.size w X → TextsIn X a 5 ws) := fun X hX => hin.below hX
    have HL : Hid (∀ j, (ws.getD j []).length ≤ 1048576) := hl
    have hA2 := heap_alloc_new W (.cells #[.int .i64 0, .int .i64 0, .int .i64 0, .int .i64 0] 110)
    have hb2 : Below W.heap.size W (W.alloc (.cells #[.int .i64 0, .int .i64 0, .int .i64 0, .int .i64 0] 110)) := (Below.refl _ _).alloc (Nat.le_refl _) _
    obtain ⟨W2, hW2⟩ : ∃ V, W.alloc (.cells #[.int .i64 0, .int .i64 0, .int .i64 0, .int .i64 0] 110) = V := ⟨_, rfl⟩
    rw [hW2] at hA2 hb2
    rw [hD] at hR hsW
    rw [hsW] at hA2
    obtain ⟨W4, hW4, hA4, hg4⟩ := keep4 hA2
    have z0 : W2.cell? ⟨D + 1, 0, none⟩ = some (.int .i64 0) := by rw [cell_of_row _ _ _ _ _ _ hA2]; rfl
    have z1 : W2.cell? ⟨D + 1, 1, none⟩ = some (.int .i64 0) := by rw [cell_of_row _ _ _ _ _ _ hA2]; rfl
    have z2 : W2.cell? ⟨D + 1, 2, none⟩ = some (.int .i64 0) := by rw [cell_of_row _ _ _ _ _ _ hA2]; rfl
    have z3 : W2.cell? ⟨D + 1, 3, none⟩ = some (.int .i64 0) := by rw [cell_of_row _ _ _ _ _ _ hA2]; rfl
    have y0 : W2.frozen? ⟨D + 1, 0, none⟩ = false := frozen_of_row _ _ _ _ _ hA2
    have y1 : W2.frozen? ⟨D + 1, 1, none⟩ = false := frozen_of_row _ _ _ _ _ hA2
    have y2 : W2.frozen? ⟨D + 1, 2, none⟩ = false := frozen_of_row _ _ _ _ _ hA2
    have y3 : W2.frozen? ⟨D + 1, 3, none⟩ = false := frozen_of_row _ _ _ _ _ hA2
    have HS0 : Hid (In14 w W4 D ws 0) := by
      have h1 : Below w.heap.size w W2 := hb.trans (hb2.mono (by omega))
      exact ⟨(hg4.block D (by have := hb2.size; omega) (by simp)).trans ((hb2.block D (lt_of_block hR)).trans hR), hA4, h1.grown hg4 h1.size (fun q e => by injection e with e; omega)⟩
    generalize hlo : insLo ws = lo at HLo ⊢
    clear hin hl hR hb hb2 hA2 hlo hwl hA4 hg4
    go_enter Tryz.func58, Tryz.ntmps58
    go_wp2
    go_loopw [11] (fun iv wx => ∃ k : Nat, iv = .int .i64 (k : Int) ∧ k ≤ 4 ∧ Hid (In14 w wx D ws k)) (fun iv _ => 4 - (intOf iv).toNat)
    case atStart => exact ⟨0, rfl, by omega, HS0⟩
    case round =>
      obtain ⟨k, rfl, hk, sr⟩ := hrel
      clear HS0 z0 z1 z2 z3 y0 y1 y2 y3
      have hix := index4
      by_cases hlt : (k : Int) < 4
      · obtain ⟨b, off, rfl, hbl, cw⟩ := (HI.out _ sr.out.h).2 k (by omega)
        have hk5 : (k : Int) < 5 := by omega
        have hxl := HL.out k
        obtain ⟨x, hx⟩ : ∃ x, ws.getD k [] = x := ⟨_, rfl⟩
        rw [hx] at cw hxl
        have HC : Hid (_) := implNumberOf x wr hxl
        have HNV : Hid (numV (ws.getD k []) = numV x) := by rw [hx]; exact (rfl : numV x = numV x)
        generalize numV x = nv at HC HNV
        generalize numB x = nb at HC
        clear hx hxl
        go_wp2_with fail
        refine Calls.mono HC.out ?_
        rintro e w3 ⟨rfl, hb3⟩
        have s3 := sr.out.below hb3
        have s4 := s3.set (by omega) (by omega)
        rw [HNV.out] at s4
        obtain ⟨u, hu⟩ := flL_at ws k k (by omega)
        have c3 : w3.cell? ⟨D + 1, k, none⟩ = some u := by rw [cell_of_row _ _ _ _ _ _ s3.f, List.getElem?_toArray]; exact hu
        have f3 : w3.frozen? ⟨D + 1, k, none⟩ = false := frozen_of_row _ _ _ _ _ s3.f
        have HS4 : Hid (In14 w (w3.setCell ⟨D + 1, k, none⟩ (.int .i64 nv)) D ws (k + 1)) := s4
        clear s3 s4 hu hb3 sr HNV
        go_wp2
        go_roundw
        case rel => exact ⟨k + 1, by go_num, by omega, HS4⟩
        case measure => simp [intOf]; omega
      · obtain rfl : k = 4 := by omega
        obtain ⟨b, off, rfl, hbl, cw⟩ := (HI.out _ sr.out.h).2 4 (by omega)
        have p0 : wr.cell? ⟨D + 1, 0, none⟩ = some (.int .i64 (numV (ws.getD 0 []))) := by rw [cell_of_row _ _ _ _ _ _ sr.out.f]; simp [flL]
        have p1 : wr.cell? ⟨D + 1, 1, none⟩ = some (.int .i64 (numV (ws.getD 1 []))) := by rw [cell_of_row _ _ _ _ _ _ sr.out.f]; simp [flL]
        have p2 : wr.cell? ⟨D + 1, 2, none⟩ = some (.int .i64 (numV (ws.getD 2 []))) := by rw [cell_of_row _ _ _ _ _ _ sr.out.f]; simp [flL]
        have p3 : wr.cell? ⟨D + 1, 3, none⟩ = some (.int .i64 (numV (ws.getD 3 []))) := by rw [cell_of_row _ _ _ _ _ _ sr.out.f]; simp [flL]
        have hlo := HLo.out
        generalize numV (ws.getD 0 []) = n0 at p0 hlo
        generalize numV (ws.getD 1 []) = n1 at p1 hlo
        generalize numV (ws.getD 2 []) = n2 at p2 hlo
        generalize numV (ws.getD 3 []) = n3 at p3 hlo
        have hRD := sr.out.d
        have HBr : Hid (Below w.heap.size w wr) := sr.out.h
        have hdl : D < wr.heap.size := lt_of_block hRD
        have hx0 := fun W => index4 W (D + 1) 0 (by decide)
        have hx1 := fun W => index4 W (D + 1) 1 (by decide)
        have hx2 := fun W => index4 W (D + 1) 2 (by decide)
        have hx3 := fun W => index4 W (D + 1) 3 (by decide)
        generalize hx4 : ws.getD 4 [] = x at cw hlo
        have hbA : Below wr.heap.size wr (wr.alloc (.cells #[.int .i64 n0, .int .i64 n1, .int .i64 n2, .int .i64 n3, .string ⟨#[]⟩] 56)) := (Below.refl _ _).alloc (Nat.le_refl _) _
        have hAA := heap_alloc_new wr (.cells #[.int .i64 n0, .int .i64 n1, .int .i64 n2, .int .i64 n3, .string ⟨#[]⟩] 56)
        obtain ⟨V0, hV0⟩ : ∃ V, wr.alloc (.cells #[.int .i64 n0, .int .i64 n1, .int .i64 n2, .int .i64 n3, .string ⟨#[]⟩] 56) = V := ⟨_, rfl⟩
        rw [hV0] at hbA hAA
        obtain ⟨E, hE⟩ : ∃ E, wr.heap.size = E := ⟨_, rfl⟩
        rw [hE] at hAA hdl
        have v4 : V0.cell? ⟨E, 4, none⟩ = some (.string ⟨#[]⟩) := by rw [cell_of_row _ _ _ _ _ _ hAA]; rfl
        have w4 : V0.frozen? ⟨E, 4, none⟩ = false := frozen_of_row _ _ _ _ _ hAA
        have hAV : (V0.setCell ⟨E, 4, none⟩ (.string ⟨#[]⟩)).heap[E]? = some (.cells #[.int .i64 n0, .int .i64 n1, .int .i64 n2, .int .i64 n3, .string ⟨#[]⟩] 56 (0, 0)) := heap_setCell_same _ _ _ _ _ _ hAA
        have hbV : Below wr.heap.size wr (V0.setCell ⟨E, 4, none⟩ (.string ⟨#[]⟩)) := hbA.grown (grown_set _ _ _ _) hbA.size (fun q e => by injection e with e; omega)
        obtain ⟨V, hV⟩ : ∃ V, V0.setCell ⟨E, 4, none⟩ (.string ⟨#[]⟩) = V := ⟨_, rfl⟩
        rw [hV] at hAV hbV
        clear hbA hAA
        have hbA := hbV
        have hAA := hAV
        clear hbV hAV
        have cwV : V.cell? ⟨b, off + 4, none⟩ = some (.string ⟨x.toArray⟩) := (hbA.cell (p := ⟨b, off + 4, none⟩) hbl).trans cw
        have hRV : V.heap[D]? = some (.cells #[.int .i64 0, .int .i64 0, .int .i64 0, .int .i64 0, .string ⟨#[]⟩] 56 (0, 0)) := (hbA.block D (by omega)).trans hRD
        have HBV : Hid (Below w.heap.size w V) := HBr.out.trans (hbA.mono HBr.out.size)
        have hDV : D < V.heap.size := lt_of_block hRV
        obtain ⟨e0, e1, e2, e3, e4, ef⟩ := fiveI (Below.refl _ V) hAA
        by_cases hxm : x = [45]
        · rw [if_pos hxm] at hlo
          subst hlo
          have hxb : (x != [45]) = false := by rw [hxm]; decide
          have hxe : (x == [45]) = true := by rw [hxm]; decide
          obtain ⟨r0, r1, r2, r3, r4, rf⟩ := fiveI (Below.refl _ V) hRV
          have f0 := rf 0
          have f1 := rf 1
          have f2 := rf 2
          have f3 := rf 3
          have f4 := rf 4
          clear sr hRD hbA hx4 HLo HBr ef rf hAA hRV hxm
          go_wp2
          obtain ⟨Y, hY, y0, y1, y2, y3, y4, hg⟩ := set5 (.int .i64 n0) (.int .i64 n1) (.int .i64 n2) (.int .i64 n3) (.string ⟨#[]⟩) r0 r1 r2 r3 r4
          rw [hY]
          refine bodyPost_ret (v := .agg #[.int .i64 n0, .int .i64 n1, .int .i64 n2, .int .i64 n3, .string ⟨#[]⟩]) (by simp [results, Tryz.results58, go_sem, y0, y1, y2, y3, y4]) rfl ?_
          have HZ : Below w.heap.size w Y := HBV.out.grown hg HBV.out.size (fun q e => by injection e with e; omega)
          exact ⟨rfl, by first | exact HZ | (rw [← hD]; exact HZ)⟩
        · rw [if_neg hxm] at hlo
          subst hlo
          have hxb : (x != [45]) = true := bne_iff_ne.2 hxm
          have hxe : (x == [45]) = false := beq_eq_false_iff_ne.2 hxm
          have fe := ef 4
          have hAS : (V.setCell ⟨E, 4, none⟩ (.string ⟨x.toArray⟩)).heap[E]? = some (.cells #[.int .i64 n0, .int .i64 n1, .int .i64 n2, .int .i64 n3, .string ⟨x.toArray⟩] 56 (0, 0)) := heap_setCell_same _ _ _ _ _ _ hAA
          have hRS : (V.setCell ⟨E, 4, none⟩ (.string ⟨x.toArray⟩)).heap[D]? = some (.cells #[.int .i64 0, .int .i64 0, .int .i64 0, .int .i64 0, .string ⟨#[]⟩] 56 (0, 0)) := (heap_setCell_other _ _ _ _ (by show D ≠ E; omega)).trans hRV
          have HBS : Hid (Below w.heap.size w (V.setCell ⟨E, 4, none⟩ (.string ⟨x.toArray⟩))) := HBV.out.grown (grown_set _ _ _ _) HBV.out.size (fun q e => by injection e with e; omega)
          obtain ⟨U, hU⟩ : ∃ U, V.setCell ⟨E, 4, none⟩ (.string ⟨x.toArray⟩) = U := ⟨_, rfl⟩
          rw [hU] at hAS hRS HBS
          obtain ⟨g0, g1, g2, g3, g4, _⟩ := fiveI (Below.refl _ U) hAS
          obtain ⟨r0, r1, r2, r3, r4, rf⟩ := fiveI (Below.refl _ U) hRS
          have f0 := rf 0
          have f1 := rf 1
          have f2 := rf 2
          have f3 := rf 3
          have f4 := rf 4
          clear sr hRD hbA hx4 HLo HBr ef rf hAA hRV hxm hAS hRS
          go_wp2
          obtain ⟨Y, hY, y0, y1, y2, y3, y4, hg⟩ := set5 (.int .i64 n0) (.int .i64 n1) (.int .i64 n2) (.int .i64 n3) (.string ⟨x.toArray⟩) r0 r1 r2 r3 r4
          rw [hY]
          refine bodyPost_ret (v := .agg #[.int .i64 n0, .int .i64 n1, .int .i64 n2, .int .i64 n3, .string ⟨x.toArray⟩]) (by simp [results, Tryz.results58, go_sem, y0, y1, y2, y3, y4]) rfl ?_
          have HZ : Below w.heap.size w Y := HBS.out.grown hg HBS.out.size (fun q e => by injection e with e; omega)
          exact ⟨rfl, by first | exact HZ | (rw [← hD]; exact HZ)⟩
  · have HLo : Hid (insLo ws = in0) := by exact (by unfold insLo; rw [if_neg (by omega)] : insLo ws = in0)
    generalize hlo : insLo ws = lo at HLo ⊢
    rw [hD] at hR
    obtain ⟨r0, r1, r2, r3, r4, rf⟩ := fiveI (Below.refl _ W) hR
    have f0 := rf 0
    have f1 := rf 1
    have f2 := rf 2
    have f3 := rf 3
    have f4 := rf 4
    have HBW : Hid (Below w.heap.size w W) := hb
    have hnb : ((n : Int) != 5) = true := bne_iff_ne.2 (by omega)
    have hsD : D < W.heap.size := lt_of_block hR
    clear hin hl hb hlo hwl hR rf h5
    go_enter Tryz.func58, Tryz.ntmps58
    go_wp2
    obtain ⟨Y, hY, y0, y1, y2, y3, y4, hg⟩ := set5 (.int .i64 0) (.int .i64 0) (.int .i64 0) (.int .i64 0) (.string ⟨#[]⟩) r0 r1 r2 r3 r4
    rw [hY]
    refine bodyPost_ret (v := .agg #[.int .i64 0, .int .i64 0, .int .i64 0, .int .i64 0, .string ⟨#[]⟩]) (by simp [results, Tryz.results58, go_sem, y0, y1, y2, y3, y4]) rfl ?_
    rw [HLo.out]
    have HZ : Below w.heap.size w Y := HBW.out.grown hg HBW.out.size (fun q e => by injection e with e; omega)
    exact ⟨rfl, by first | exact HZ | (rw [← hD]; exact HZ)⟩

end Go.Proofs.YtogobeegibngiaaGreatDoor
