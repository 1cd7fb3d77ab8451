/-
  The contract of the landed storeOf: what a map of blobs holds, as a store of the call's own, its keys rising.
-/
import Derived.Test.YtfjpbbacibfnmaaIterC
import Derived.Test.YtfjpbbacibfnmaaStoreJ
import Derived.Test.YtfjpbbacibfnmaaStoreS4
import Derived.Deep.RegionLaw
import Derived.Deep.AppendLies
namespace Go.Proofs.Ytfjpbbacibfnmaa
open Go.RowKit Go.Maps

/-- A store of the call's own lies in block Bs; its blobs are a row of the call's own, from block base on. -/
structure OutAt (w : World) (Bs base : Nat) (room : Int) (bs : List Bl) : Prop where
  c0 : w.cell? ⟨Bs, 0, none⟩ = some (.int .i64 room)
  c1 : ∃ v, w.cell? ⟨Bs, 1, none⟩ = some v ∧ w.ownsRow base 39 2 v bs.length (blobV bs)
  free : ∀ j, w.frozen? ⟨Bs, j, none⟩ = false

theorem key_at {w : World} {base g cp : Nat} {l : List Bl} (h : w.ownsRow base 2 1 (.slice (some ⟨g, 0, none⟩) l.length cp) l.length (l.map fun x => .int .i64 x.1)) (k : Nat) (hk : k < l.length) : w.cell? ⟨g, k, none⟩ = some (.int .i64 l[k].1) := by
  rw [h.cellAt k (by omega)]
  simp [hk]

theorem new_cells2 (w : World) (key : Int) (t : List UInt8) : ∀ j u, (blobV [(key, t)])[j]? = some u → (w.alloc (.cells #[.int .i64 key, .string ⟨t.toArray⟩] 39)).cell? ((⟨w.heap.size, 0, none⟩ : Addr).add j) = some u := by
  obtain ⟨_, _, ⟨h, _⟩ | ⟨ad, c, h, hc⟩⟩ := new_blob w key t 1
  · cases h
  · simp only [Value.slice.injEq, Option.some.injEq, true_and] at h
    obtain ⟨rfl, rfl⟩ := h
    exact hc

set_option maxHeartbeats 4000000 in
set_option maxRecDepth 100000 in
theorem implStoreOf (room : Int) (m n : Nat) (D : DataW Unit) (l : List Bl) (w : World) (hown : w.ownsMap Try.prog 2 blobR m n D) (hM : MapIs D l) (hr : Rises l) (hn : n ≤ 4194304) (hl : takenL l ≤ 1048576) (hlen : l.length ≤ 4194304) :
    Calls Try.prog 47 #[.int .i64 room, .map (some m)] w fun e w' => ∃ v, e = .returned (.agg #[.int .i64 room, v]) ∧ w'.ownsRow w.heap.size 39 2 v l.length (blobV l) ∧ Below w.heap.size w w' := by
  obtain ⟨i0, hi, hz0, hz1, hz2⟩ := info_parts infoBlob
  have hmlt := hown.lt
  obtain ⟨W0, hW0⟩ : ∃ W0, ((w.alloc (.cells #[.int .i64 0, .slice none 0 0] 26)).alloc (.cells #[.int .i64 room, .slice none 0 0] 26)) = W0 := ⟨_, rfl⟩
  have hB0 : Below w.heap.size w W0 := by rw [← hW0]; exact ((Below.refl _ w).alloc (Nat.le_refl _) _).alloc (by simp) _
  have HZ : Hid (W0.heap.size = w.heap.size + 1 + 1) := by exact (by rw [← hW0]; simp : W0.heap.size = w.heap.size + 1 + 1)
  have r0 : W0.cell? ⟨w.heap.size, 0, none⟩ = some (.int .i64 0) := by rw [← hW0]; simp
  have r1 : W0.cell? ⟨w.heap.size, 1, none⟩ = some (.slice none 0 0) := by rw [← hW0]; simp
  have s0 : W0.cell? ⟨w.heap.size + 1, 0, none⟩ = some (.int .i64 room) := by rw [← hW0]; simp
  have s1 : W0.cell? ⟨w.heap.size + 1, 1, none⟩ = some (.slice none 0 0) := by rw [← hW0]; simp
  have rf : ∀ j, W0.frozen? ⟨w.heap.size, j, none⟩ = false := fun j => by rw [← hW0]; simp
  have sf : ∀ j, W0.frozen? ⟨w.heap.size + 1, j, none⟩ = false := fun j => by rw [← hW0]; simp
  have HO0 : Hid (W0.ownsMap Try.prog 2 blobR m n D) := by rw [← hW0]; exact (hown.alloc _).alloc _
  have HW : Hid (((w.alloc (.cells #[.int .i64 0, .slice none 0 0] 26)).alloc (.cells #[.int .i64 room, .slice none 0 0] 26)) = W0) := hW0
  clear hown hW0
  go_enter Try.func47, Try.ntmps47
  go_wp2_with fail
  rw [HW.out]
  refine (mapsKeys (some m) _).mono ?_
  rintro e w1 ⟨rfl, rfl⟩
  go_wp2_with fail
  refine (sortedKeys m n D l W0 HO0.out hM hr hn).mono ?_
  rintro e w4 ⟨vk, rfl, hkeys, hb4⟩
  have hz := HZ.out
  have hs4 : w.heap.size + 1 + 1 + 1 ≤ w4.heap.size := by have := hb4.size; simp at this; omega
  have hbk : ∀ q, q < W0.heap.size → w4.heap[q]? = W0.heap[q]? := fun q hq => (hb4.block q (by omega)).trans (Below.heap_alloc _ _ _ hq)
  have hB4 : Below w.heap.size w w4 := hB0.trans ⟨hb4.os, hb4.tape, hb4.output, by omega, fun q hq => hbk q (by omega)⟩
  have r04 := (World.cell?_of_block (a := ⟨w.heap.size, 0, none⟩) (hbk w.heap.size (by omega))).trans r0
  have r14 := (World.cell?_of_block (a := ⟨w.heap.size, 1, none⟩) (hbk w.heap.size (by omega))).trans r1
  have rf4 : ∀ j, w4.frozen? ⟨w.heap.size, j, none⟩ = false := fun j => (World.frozen?_of_block (a := ⟨w.heap.size, j, none⟩) (hbk w.heap.size (by omega))).trans (rf j)
  have s04 := (World.cell?_of_block (a := ⟨w.heap.size + 1, 0, none⟩) (hbk (w.heap.size + 1) (by omega))).trans s0
  have s14 := (World.cell?_of_block (a := ⟨w.heap.size + 1, 1, none⟩) (hbk (w.heap.size + 1) (by omega))).trans s1
  have sf4 : ∀ j, w4.frozen? ⟨w.heap.size + 1, j, none⟩ = false := fun j => (World.frozen?_of_block (a := ⟨w.heap.size + 1, j, none⟩) (hbk (w.heap.size + 1) (by omega))).trans (sf j)
  have HO4 : Hid (w4.ownsMap Try.prog 2 blobR m n D) := by
    obtain ⟨es, clock, hb, r⟩ := HO0.out
    exact (⟨es, clock, (hbk m (by omega)).trans hb, r⟩ : w4.ownsMap Try.prog 2 blobR m n D)
  have HOut : Hid (OutAt w4 (w.heap.size + 1) w4.heap.size room []) := (⟨s04, ⟨_, s14, World.ownsRow_nil _ _ _ _⟩, sf4⟩ : OutAt w4 (w.heap.size + 1) w4.heap.size room [])
  have HK : Hid (w4.ownsRow (w.heap.size + 1 + 1 + 1) 2 1 vk l.length (l.map fun x => .int .i64 x.1)) := by rw [hz] at hkeys; exact hkeys
  have hvk : ∃ ak ck, vk = .slice ak l.length ck := by
    rcases own_forms hkeys with ⟨h1, h2, _⟩ | ⟨g, cp, h1⟩
    · exact ⟨none, 0, by rw [h1, h2]⟩
    · exact ⟨_, _, h1⟩
  obtain ⟨ak, ck, rfl⟩ := hvk
  clear hkeys hb4 hbk r0 r1 s0 s1 rf sf s04 s14 sf4 HW HO0 hB0 hz HZ
  go_wp2
  go_loopw [14] (fun i wr => ∃ k : Nat, k ≤ l.length ∧ i = .int .i64 k ∧ Hid (OutAt wr (w.heap.size + 1) w4.heap.size room (l.take k)) ∧ Hid (w4.grownBy wr (some (w.heap.size + 1)))) (fun i _ => l.length - (Go.RowKit.intOf i).toNat)
  case atStart => exact ⟨0, Nat.zero_le _, rfl, HOut, World.grownBy.refl w4 _⟩
  case round =>
    obtain ⟨k, hk, rfl, HA, HG⟩ := hrel
    clear HOut
    by_cases hkl : (k : Int) < (l.length : Int)
    · have hkl2 : k < l.length := by omega
      obtain ⟨g, cp, hv⟩ := own_some HK.out (by omega)
      simp only [Value.slice.injEq, true_and] at hv
      obtain ⟨rfl, rfl⟩ := hv
      have hgb := HK.out.lt g rfl
      have cK : wr.cell? ⟨g, k, none⟩ = some (.int .i64 l[k].1) := HG.out.cell (key_at HK.out k hkl2) (by simp; omega)
      obtain ⟨key, t, hx⟩ : ∃ key t, l[k] = (key, t) := ⟨_, _, rfl⟩
      have hf := fetch_of_mem l hr (key, t) (by rw [← hx]; exact List.getElem_mem hkl2)
      have hom := HO4.out.kept HG.out (by simp; omega)
      have hlk := look_yes (w := wr.drew) false hom.drew hM hf.1
      rw [hf.2] at hlk
      rw [hx] at cK
      simp only [Bool.false_eq_true, if_false] at hlk cK
      have hfl : ∀ W : World, (Instr.field 39 (.agg #[.int .i64 key, .string ⟨t.toArray⟩]) 1).run Try.prog W = .ok (.string ⟨t.toArray⟩) W := fun W => by rfl
      clear hom
      have htl : t.length ≤ 1048576 := by
        have := takenL_le l k hkl2
        rw [hx] at this
        simp at this
        omega
      have HX : Hid (l[k] = (key, t)) := hx
      clear hx hf
      obtain ⟨v6, k1, k2⟩ := HA.out.c1
      obtain ⟨_, a6, c6, rfl, _⟩ := own_blobs k2
      have hlt6 : (l.take k).length = k := by rw [List.length_take]; omega
      rw [hlt6] at k1 k2
      have HK2 : Hid (wr.ownsRow w4.heap.size 39 2 (.slice a6 k c6) k (blobV (l.take k))) := k2
      have hsr : w4.heap.size ≤ wr.heap.size := HG.out.size
      clear k2 hlt6
      go_wp2
      go_region_law (first | (refine step_append_lies _ (by rfl) (.tmp 19) (.tmp 27) 24 (by rfl) w4.heap.size 39 i0 _ 2 24 Try.underlying24 hi hz0 hz1 hz2 rfl (by decide) _ _ _ (by rfl) (HK5.out.alloc _) ⟨w5.heap.size, 0, none⟩ 1 1 (blobV [(key, t)]) (by rfl) rfl (new_cells2 w5 key t) (blobV_one _) (by decide) (by unfold maxLen; omega) (by omega) (by simp; omega) _ rfl ?_; intro g8 cp8 w8 hown8 hg8 hat8 hlt8; have hne8 : some (w.heap.size + 1) ≠ (Value.slice a6 k c6).ownBlock := fun e => (by have := (HK5.out.lt _ e.symm).1; omega); have d8 : w8.cell? ⟨w.heap.size + 1, 1, none⟩ = some (.slice a6 k c6) := hg8.cell (cell_al _ k15) hne8; have hb8 : w8.heap[w.heap.size + 1]? = w5.heap[w.heap.size + 1]? := (hg8.block (w.heap.size + 1) (by simp; omega) hne8).trans (Below.heap_alloc _ _ _ (by omega)); have e8 : w8.frozen? ⟨w.heap.size + 1, 1, none⟩ = false := (World.frozen?_of_block (a := ⟨w.heap.size + 1, 1, none⟩) hb8).trans f15) | (go_simp; go_at_call 51; refine (stringsClone t _ htl).mono ?_; rintro e w5 ⟨rfl, hb5⟩; have hb5' : Below wr.heap.size wr w5 := ⟨hb5.os, hb5.tape, hb5.output, hb5.size, hb5.block⟩; have hs5 : wr.heap.size ≤ w5.heap.size := hb5'.size; have HK5 : Hid (w5.ownsRow w4.heap.size 39 2 (.slice a6 k c6) k (blobV (l.take k))) := own_below HK2.out hb5'; have k15 : w5.cell? ⟨w.heap.size + 1, 1, none⟩ = some (.slice a6 k c6) := (hb5'.cell (p := ⟨w.heap.size + 1, 1, none⟩) (show w.heap.size + 1 < wr.heap.size by omega)).trans k1; have f15 : w5.frozen? ⟨w.heap.size + 1, 1, none⟩ = false := (hb5'.frozen (p := ⟨w.heap.size + 1, 1, none⟩) (show w.heap.size + 1 < wr.heap.size by omega)).trans (HA.out.free 1); have hlt5 : w.heap.size + 1 < w5.heap.size := (by omega); have k16 : (w5.alloc (.cells #[.int .i64 key, .string ⟨t.toArray⟩] 39)).cell? ⟨w.heap.size + 1, 1, none⟩ = some (.slice a6 k c6) := cell_al _ k15; dsimp only))
      all_goals
        have HT : Hid (l.take (k + 1) = l.take k ++ [(key, t)]) := by exact (by rw [List.take_succ_eq_append_getElem hkl2, HX.out] : l.take (k + 1) = l.take k ++ [(key, t)])
        have hg8b : w4.heap.size ≤ g8 := (hown8.lt g8 rfl).1
        have hb85 : w8.heap[w.heap.size + 1]? = wr.heap[w.heap.size + 1]? := hb8.trans (hb5'.block (w.heap.size + 1) (by omega))
        have HA9 : Hid (OutAt (w8.setCell ⟨w.heap.size + 1, 1, none⟩ (.slice (some ⟨g8, 0, none⟩) (k + 1) cp8)) (w.heap.size + 1) w4.heap.size room (l.take (k + 1))) := by
          refine (⟨(World.cell?_setCell_other _ _ _ _ (by simp)).trans ((World.cell?_of_block (a := ⟨w.heap.size + 1, 0, none⟩) hb85).trans HA.out.c0), ⟨_, World.cell?_setCell_same _ _ _ d8, ?_⟩, fun j => by rw [World.frozen?_setCell]; exact (World.frozen?_of_block (a := ⟨w.heap.size + 1, j, none⟩) hb85).trans (HA.out.free j)⟩ : OutAt _ _ _ _ _)
          rw [HT.out, blobV_append, List.length_append, List.length_take, Nat.min_eq_left (Nat.le_of_lt hkl2)]
          exact hown8.kept (grown_set _ _ _ _) (.inr (by simp [Value.ownBlock]; omega))
        have HG9 : Hid (w4.grownBy (w8.setCell ⟨w.heap.size + 1, 1, none⟩ (.slice (some ⟨g8, 0, none⟩) (k + 1) cp8)) (some (w.heap.size + 1))) :=
          (((HG.out.andThen (Below.by hb5') (fun q e => by cases e)).trans (World.grownBy_alloc _ _ _)).andThen hg8 (fun q e => Or.inl (HK5.out.lt q e).1)).trans (grown_set _ _ _ _)
        clear HA HG hown8 hg8 hat8 hlt8 hne8 d8 hb8 e8 hb85 HK5 k15 k16 f15 hb5 hb5' HK2 hfl hlk hg8b
        go_wp2
        go_roundw
        case rel => exact ⟨k + 1, by omega, by go_num, HA9, HG9⟩
        case measure => simp [Go.RowKit.intOf]; omega
    · obtain rfl : k = l.length := by omega
      obtain ⟨vF, k1, k2⟩ := HA.out.c1
      rw [List.take_length] at k2
      obtain ⟨_, aF, cF, rfl, _⟩ := own_blobs k2
      have k0 := HA.out.c0
      have hbk : wr.heap[w.heap.size]? = w4.heap[w.heap.size]? := HG.out.block w.heap.size (by omega) (by simp)
      have z0 := (World.cell?_of_block (a := ⟨w.heap.size, 0, none⟩) hbk).trans r04
      have z1 := (World.cell?_of_block (a := ⟨w.heap.size, 1, none⟩) hbk).trans r14
      have y0 := (World.frozen?_of_block (a := ⟨w.heap.size, 0, none⟩) hbk).trans (rf4 0)
      have y1 := (World.frozen?_of_block (a := ⟨w.heap.size, 1, none⟩) hbk).trans (rf4 1)
      have hBr : Below w.heap.size w wr := hB4.grown HG.out hB4.size (fun q e => by injection e with e; omega)
      have HK2 : Hid (wr.ownsRow w4.heap.size 39 2 (.slice aF l.length cF) l.length (blobV l)) := k2
      clear k2
      go_wp2
      obtain ⟨X, hX⟩ : ∃ X, ((wr.setCell ⟨w.heap.size, 0, none⟩ (.int .i64 room)).setCell ⟨w.heap.size, 1, none⟩ (.slice aF l.length cF)) = X := ⟨_, rfl⟩
      have x1 : X.cell? ⟨w.heap.size, 1, none⟩ = some (.slice aF l.length cF) := by rw [← hX]; exact World.cell?_setCell_same _ _ _ ((World.cell?_setCell_other _ _ _ _ (by simp)).trans z1)
      have x0 : X.cell? ⟨w.heap.size, 0, none⟩ = some (.int .i64 room) := by rw [← hX]; exact (World.cell?_setCell_other _ _ _ _ (by simp)).trans (World.cell?_setCell_same _ _ _ z0)
      rw [hX]
      refine bodyPost_ret (v := .agg #[.int .i64 room, .slice aF l.length cF]) (by simp [results, Try.results47, go_sem, x0, x1]) rfl ?_
      rw [← hX]
      have hne : (Value.slice aF l.length cF).ownBlock ≠ some w.heap.size := fun e => by have := (HK2.out.lt _ e).1; omega
      exact ⟨.slice aF l.length cF, rfl, own_base ((HK2.out.kept (grown_set _ _ _ _) (.inr hne)).kept (grown_set _ _ _ _) (.inr hne)) (by omega), (hBr.setCell (p := ⟨w.heap.size, 0, none⟩) (Nat.le_refl _) _).setCell (p := ⟨w.heap.size, 1, none⟩) (Nat.le_refl _) _⟩

end Go.Proofs.Ytfjpbbacibfnmaa
