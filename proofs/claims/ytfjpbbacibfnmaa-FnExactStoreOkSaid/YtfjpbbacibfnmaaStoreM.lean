/-
  The contracts of the exact laws' own helpers over stores: toStore, eqStore.
-/
import Derived.Test.YtfjpbbacibfnmaaStoreL
namespace Go.Proofs.Ytfjpbbacibfnmaa
open Go.RowKit

set_option maxHeartbeats 400000 in
theorem toBlobC (key : Int) (t : List UInt8) (w : World) :
    Calls Try.prog 72 #[.agg #[.int .i64 key, .string ⟨t.toArray⟩]] w fun e w' => e = .returned (.agg #[.int .i64 key, .string ⟨t.toArray⟩]) ∧ Below w.heap.size w w' := by
  go_enter Try.func72, Try.ntmps72
  go_wp2
  refine bodyPost_ret (v := .agg #[.int .i64 key, .string ⟨t.toArray⟩]) (by simp [results, Try.results72, go_sem]) rfl ?_
  exact ⟨rfl, (((Below.refl _ w).alloc (Nat.le_refl _) _).alloc (by simp) _).alloc (by simp; omega) _⟩

theorem blobV_set (bs : List Bl) (k : Nat) (key : Int) (t : List UInt8) : ((blobV bs).set (k * 2) (.int .i64 key)).set (k * 2 + 1) (.string ⟨t.toArray⟩) = blobV (bs.set k (key, t)) := by
  induction bs generalizing k with
  | nil => simp [blobV]
  | cons b r ih =>
    cases k with
    | zero => simp [blobV]
    | succ k => rw [show (k + 1) * 2 = k * 2 + 1 + 1 by omega]; simp [blobV, ih]

theorem made_blobs (n : Nat) : (madeCells (Value.agg #[.int .i64 0, .string ⟨#[]⟩]).cells (n * 2)).toList = blobV (List.replicate n (0, [])) := by
  have hc : (Value.agg #[.int .i64 0, .string ⟨#[]⟩]).cells = #[.int .i64 0, .string ⟨#[]⟩] := rfl
  rw [hc]
  apply List.ext_getElem?
  intro j
  by_cases hj : j < n * 2
  · obtain ⟨v0, v1⟩ := blobV_at (List.replicate n (0, [])) (j / 2) (by simp; omega)
    have hg : (List.replicate n ((0, []) : Bl)).getD (j / 2) (0, []) = (0, []) := by simp [List.getD, List.getElem?_replicate]; split <;> rfl
    rw [hg] at v0 v1
    rcases Nat.mod_two_eq_zero_or_one j with h' | h'
    · have ej : j = j / 2 * 2 := by omega
      rw [← ej] at v0
      rw [v0]
      simp [madeCells, hj, h']
    · have ej : j = j / 2 * 2 + 1 := by omega
      rw [← ej] at v1
      rw [v1]
      simp [madeCells, hj, h']
  · rw [List.getElem?_eq_none (by simp [madeCells]; omega), List.getElem?_eq_none (by rw [blobV_len]; simp; omega)]

theorem fill_set (bs : List Bl) (k : Nat) (hk : k < bs.length) : (bs.take k ++ List.replicate (bs.length - k) ((0, []) : Bl)).set k (bs.getD k (0, [])) = bs.take (k + 1) ++ List.replicate (bs.length - (k + 1)) (0, []) := by
  have hg : bs.getD k (0, []) = bs[k] := by simp [List.getD, hk]
  rw [hg, List.set_append_right _ _ (by rw [List.length_take]; omega), List.length_take, Nat.min_eq_left (by omega), Nat.sub_self, show bs.length - k = (bs.length - (k + 1)) + 1 by omega, List.replicate_succ, List.set_cons_zero, List.take_succ_eq_append_getElem hk, List.append_assoc]
  rfl

set_option maxHeartbeats 2000000 in
theorem toBlobSC (a : Option Addr) (len cap : Nat) (bs : List Bl) (w : World) (hin : BlobsIn w a len cap bs) (hlen : len ≤ 1048576) :
    Calls Try.prog 59 #[.slice a len cap] w fun e w' => ∃ v, e = .returned v ∧ w'.ownsRow w.heap.size 39 2 v len (blobV bs) ∧ v ≠ .slice none 0 0 ∧ Below w.heap.size w w' := by
  obtain ⟨i0, hi, hz0, hz1, hz2⟩ := info_parts infoBlob
  have hlb := hin.1
  have HI : Hid (BlobsIn w a len cap bs) := hin
  clear hin
  go_enter Try.func59, Try.ntmps59
  go_wp2_with (at_make; refine wpList_make_full _ rfl _ _ 24 rfl w.heap.size 39 i0 _ 2 Try.underlying24 hi hz0 hz1 .i64 .i64 _ _ len rfl rfl rfl rfl (by rw [hz2]; omega) (by unfold maxLen; omega) (Nat.le_refl _) ?_; intro w1 hown1 hgrow1)
  rw [made_blobs] at hown1
  have hB1 : Below w.heap.size w w1 := (Below.refl _ _).grown hgrow1 (Nat.le_refl _) (by simp)
  clear hgrow1
  go_loopw [4] (fun i wr => ∃ k : Nat, k ≤ len ∧ i = .int .i64 k ∧ wr.ownsRow w.heap.size 39 2 (.slice (some ⟨w.heap.size, 0, none⟩) len len) len (blobV (bs.take k ++ List.replicate (bs.length - k) (0, []))) ∧ Below w.heap.size w wr) (fun i _ => len - (intOf i).toNat)
  case atStart => exact ⟨0, Nat.zero_le _, rfl, by simpa [hlb] using hown1, hB1⟩
  case round =>
    obtain ⟨k, hk, rfl, hown, hB⟩ := hrel
    clear hown1 hB1
    by_cases hkl : (k : Int) < (len : Int)
    · obtain ⟨b, off, rfl, hbl, hcells⟩ := (HI.out.below hB).at (by omega)
      obtain ⟨ck, ct⟩ := hcells k (by omega)
      have hfs := fill_set bs k (by omega)
      obtain ⟨x, hx⟩ : ∃ x, bs.getD k (0, []) = x := ⟨_, rfl⟩
      rw [hx] at ck ct hfs
      obtain ⟨key, t⟩ := x
      simp only at ck ct
      have HF : Hid ((bs.take k ++ List.replicate (bs.length - k) ((0, []) : Bl)).set k (key, t) = bs.take (k + 1) ++ List.replicate (bs.length - (k + 1)) (0, [])) := hfs
      have HOW : Hid (wr.ownsRow w.heap.size 39 2 (.slice (some ⟨w.heap.size, 0, none⟩) len len) len (blobV (bs.take k ++ List.replicate (bs.length - k) (0, [])))) := hown
      clear hx hcells hfs hown
      go_wp2_with fail
      refine (toBlobC key t _).mono ?_
      rintro e w2 ⟨rfl, hb2⟩
      have hown2 := own_below HOW.out hb2
      have hl2 : (bs.take k ++ List.replicate (bs.length - k) ((0, []) : Bl)).length = len := by rw [List.length_append, List.length_take, List.length_replicate]; omega
      obtain ⟨u0, d0⟩ : ∃ u, w2.cell? ⟨w.heap.size, k * 2, none⟩ = some u := by
        rw [hown2.cellAt (k * 2) (by omega), (blobV_at _ k (by omega)).1]; exact ⟨_, rfl⟩
      obtain ⟨u1, d1⟩ : ∃ u, w2.cell? ⟨w.heap.size, k * 2 + 1, none⟩ = some u := by
        rw [hown2.cellAt (k * 2 + 1) (by omega), (blobV_at _ k (by omega)).2]; exact ⟨_, rfl⟩
      have e0 := hown2.frozenAt (k * 2)
      have e1 := hown2.frozenAt (k * 2 + 1)
      have hs1 := hown2.stored (k * 2) (.int .i64 key)
      have hs2 := hs1.1.stored (k * 2 + 1) (.string ⟨t.toArray⟩)
      have hnew := hs2.1
      rw [blobV_set, HF.out] at hnew
      have hB2 : Below w.heap.size w w2 := hB.trans (hb2.mono hB.size)
      have hB3 := (hB2.setCell (p := ⟨w.heap.size, k * 2, none⟩) (Nat.le_refl _) (.int .i64 key)).setCell (p := ⟨w.heap.size, k * 2 + 1, none⟩) (Nat.le_refl _) (.string ⟨t.toArray⟩)
      clear hown2 hs1 hs2 hl2
      go_wp2
      go_roundw
      case rel => exact ⟨k + 1, by omega, by go_num, hnew, hB3⟩
      case measure => simp [intOf]; omega
    · have hd : bs.take k ++ List.replicate (bs.length - k) ((0, []) : Bl) = bs := by rw [List.take_of_length_le (by omega), show bs.length - k = 0 by omega]; simp
      rw [hd] at hown
      clear hd
      go_wp2
      go_ret
      exact ⟨_, rfl, hown, by simp, hB⟩

set_option maxHeartbeats 1000000 in
theorem toStoreC (room : Int) (a : Option Addr) (len cap : Nat) (bs : List Bl) (w : World) (hin : BlobsIn w a len cap bs) (hlen : len ≤ 1048576) :
    Calls Try.prog 32 #[.agg #[.int .i64 room, .slice a len cap]] w fun e w' => ∃ v, e = .returned (.agg #[.int .i64 room, v]) ∧ w'.ownsRow w.heap.size 39 2 v len (blobV bs) ∧ Below w.heap.size w w' := by
  obtain ⟨W0, hW0⟩ : ∃ W0, (((w.alloc (.cells #[.int .i64 room, .slice a len cap] 49)).alloc (.cells #[.int .i64 0, .slice none 0 0] 26)).alloc (.cells #[.int .i64 room, .slice none 0 0] 26)) = W0 := ⟨_, rfl⟩
  have hB0 : Below w.heap.size w W0 := by rw [← hW0]; exact (((Below.refl _ w).alloc (Nat.le_refl _) _).alloc (by simp) _).alloc (by simp; omega) _
  have hsz : W0.heap.size = w.heap.size + 1 + 1 + 1 := by rw [← hW0]; simp
  have hA : W0.heap[w.heap.size]? = some (.cells #[.int .i64 room, .slice a len cap] 49) := by
    rw [← hW0]; exact (Below.heap_alloc _ _ _ (by simp; omega)).trans ((Below.heap_alloc _ _ _ (by simp)).trans (heap_alloc_new w _))
  have hQ : W0.heap[w.heap.size + 1]? = some (.cells #[.int .i64 0, .slice none 0 0] 26) := by
    rw [← hW0]; refine (Below.heap_alloc _ _ _ (by simp)).trans ?_
    have := heap_alloc_new (w.alloc (.cells #[.int .i64 room, .slice a len cap] 49)) (.cells #[.int .i64 0, .slice none 0 0] 26)
    rwa [World.size_alloc] at this
  have hR : W0.heap[w.heap.size + 1 + 1]? = some (.cells #[.int .i64 room, .slice none 0 0] 26) := by
    rw [← hW0]
    have := heap_alloc_new ((w.alloc (.cells #[.int .i64 room, .slice a len cap] 49)).alloc (.cells #[.int .i64 0, .slice none 0 0] 26)) (.cells #[.int .i64 room, .slice none 0 0] 26)
    rwa [World.size_alloc, World.size_alloc] at this
  have c1 : W0.cell? ⟨w.heap.size, 1, none⟩ = some (.slice a len cap) := by simp [World.cell?, hA]
  have q0 : W0.cell? ⟨w.heap.size + 1, 0, none⟩ = some (.int .i64 0) := by simp [World.cell?, hQ]
  have q1 : W0.cell? ⟨w.heap.size + 1, 1, none⟩ = some (.slice none 0 0) := by simp [World.cell?, hQ]
  have r0 : W0.cell? ⟨w.heap.size + 1 + 1, 0, none⟩ = some (.int .i64 room) := by simp [World.cell?, hR]
  have r1 : W0.cell? ⟨w.heap.size + 1 + 1, 1, none⟩ = some (.slice none 0 0) := by simp [World.cell?, hR]
  have f0 : ∀ j, W0.frozen? ⟨w.heap.size + 1, j, none⟩ = false := fun j => by simp [World.frozen?, hQ]
  have g0 : ∀ j, W0.frozen? ⟨w.heap.size + 1 + 1, j, none⟩ = false := fun j => by simp [World.frozen?, hR]
  clear hA hQ hR
  have hin1 : BlobsIn W0 a len cap bs := hin.below hB0
  go_enter Try.func32, Try.ntmps32
  go_wp2_with fail
  refine (toBlobSC a len cap bs _ hin1 hlen).mono ?_
  rintro e w1 ⟨v, rfl, hown1, hnil1, hb1⟩
  obtain ⟨g, cp, rfl⟩ := own_shape hown1 hnil1
  have hg := (hown1.lt g rfl).1
  have q01 := (hb1.cell (p := ⟨w.heap.size + 1, 0, none⟩) (by show w.heap.size + 1 < _; omega)).trans q0
  have q11 := (hb1.cell (p := ⟨w.heap.size + 1, 1, none⟩) (by show w.heap.size + 1 < _; omega)).trans q1
  have r01 := (hb1.cell (p := ⟨w.heap.size + 1 + 1, 0, none⟩) (by show w.heap.size + 1 + 1 < _; omega)).trans r0
  have r11 := (hb1.cell (p := ⟨w.heap.size + 1 + 1, 1, none⟩) (by show w.heap.size + 1 + 1 < _; omega)).trans r1
  have f01 := (World.frozen?_of_block (a := ⟨w.heap.size + 1, 0, none⟩) (hb1.block (w.heap.size + 1) (by omega))).trans (f0 0)
  have f11 := (World.frozen?_of_block (a := ⟨w.heap.size + 1, 1, none⟩) (hb1.block (w.heap.size + 1) (by omega))).trans (f0 1)
  have g11 := (World.frozen?_of_block (a := ⟨w.heap.size + 1 + 1, 1, none⟩) (hb1.block (w.heap.size + 1 + 1) (by omega))).trans (g0 1)
  have hB1 : Below w.heap.size w w1 := hB0.trans (hb1.mono (by omega))
  have HOW : Hid (w1.ownsRow W0.heap.size 39 2 (.slice (some ⟨g, 0, none⟩) len cp) len (blobV bs)) := hown1
  clear hown1 hin hin1 hb1 f0 g0
  go_wp2
  obtain ⟨X, hX⟩ : ∃ X, (((w1.setCell ⟨w.heap.size + 1 + 1, 1, none⟩ (.slice (some ⟨g, 0, none⟩) len cp)).setCell ⟨w.heap.size + 1, 0, none⟩ (.int .i64 room)).setCell ⟨w.heap.size + 1, 1, none⟩ (.slice (some ⟨g, 0, none⟩) len cp)) = X := ⟨_, rfl⟩
  have x1 : X.cell? ⟨w.heap.size + 1, 1, none⟩ = some (.slice (some ⟨g, 0, none⟩) len cp) := by rw [← hX]; exact World.cell?_setCell_same _ _ _ ((World.cell?_setCell_other _ _ _ _ (by simp)).trans ((World.cell?_setCell_other _ _ _ _ (by simp)).trans q11))
  have x0 : X.cell? ⟨w.heap.size + 1, 0, none⟩ = some (.int .i64 room) := by rw [← hX]; exact (World.cell?_setCell_other _ _ _ _ (by simp)).trans (World.cell?_setCell_same _ _ _ ((World.cell?_setCell_other _ _ _ _ (by simp)).trans q01))
  have hBX : Below w.heap.size w X := by rw [← hX]; exact ((hB1.setCell (p := ⟨w.heap.size + 1 + 1, 1, none⟩) (by show w.heap.size ≤ w.heap.size + 1 + 1; omega) _).setCell (p := ⟨w.heap.size + 1, 0, none⟩) (by show w.heap.size ≤ w.heap.size + 1; omega) _).setCell (p := ⟨w.heap.size + 1, 1, none⟩) (by show w.heap.size ≤ w.heap.size + 1; omega) _
  have hOX : X.ownsRow w.heap.size 39 2 (.slice (some ⟨g, 0, none⟩) len cp) len (blobV bs) := by
    rw [← hX]
    exact own_base (((HOW.out.kept (grown_set _ _ _ _) (.inr (by simp [Value.ownBlock]; omega))).kept (grown_set _ _ _ _) (.inr (by simp [Value.ownBlock]; omega))).kept (grown_set _ _ _ _) (.inr (by simp [Value.ownBlock]; omega))) (by omega)
  rw [hX]
  refine bodyPost_ret (v := .agg #[.int .i64 room, .slice (some ⟨g, 0, none⟩) len cp]) (by simp [results, Try.results32, go_sem, x0, x1]) rfl ?_
  exact ⟨_, rfl, hOX, hBX⟩

set_option maxHeartbeats 400000 in
theorem eqBlobC (key : Int) (t : List UInt8) (w : World) :
    Calls Try.prog 73 #[.agg #[.int .i64 key, .string ⟨t.toArray⟩], .agg #[.int .i64 key, .string ⟨t.toArray⟩]] w fun e w' => e = .returned (.bool true) ∧ Below w.heap.size w w' := by
  have h1 : (key != key) = false := by simp
  have h2 : (t != t) = false := by simp
  go_enter Try.func73, Try.ntmps73
  go_wp2
  go_ret
  exact ⟨rfl, ((Below.refl _ w).alloc (Nat.le_refl _) _).alloc (by simp) _⟩

set_option maxHeartbeats 1000000 in
theorem eqBlobSC (a b : Option Addr) (len ca cb : Nat) (bs : List Bl) (w : World) (ha : BlobsIn w a len ca bs) (hb : BlobsIn w b len cb bs) (hlen : len ≤ 4194304) :
    Calls Try.prog 60 #[.slice a len ca, .slice b len cb] w fun e w' => e = .returned (.bool true) ∧ Below w.heap.size w w' := by
  have hlb := ha.1
  have HA : Hid (BlobsIn w a len ca bs) := ha
  have HB : Hid (BlobsIn w b len cb bs) := hb
  clear ha hb
  have h1 : ((len : Int) != (len : Int)) = false := by simp
  go_enter Try.func60, Try.ntmps60
  go_wp2
  go_loopw [5] (fun i wr => ∃ k : Nat, k ≤ len ∧ i = .int .i64 k ∧ Below w.heap.size w wr) (fun i _ => len - (intOf i).toNat)
  case atStart => exact ⟨0, Nat.zero_le _, rfl, Below.refl _ _⟩
  case round =>
    obtain ⟨k, hk, rfl, hB⟩ := hrel
    by_cases hkl : (k : Int) < (len : Int)
    · obtain ⟨b1, o1, rfl, hb1, hc1⟩ := (HA.out.below hB).at (by omega)
      obtain ⟨b2, o2, rfl, hb2, hc2⟩ := (HB.out.below hB).at (by omega)
      obtain ⟨ck1, ct1⟩ := hc1 k (by omega)
      obtain ⟨ck2, ct2⟩ := hc2 k (by omega)
      obtain ⟨x, hx⟩ : ∃ x, bs.getD k (0, []) = x := ⟨_, rfl⟩
      rw [hx] at ck1 ct1 ck2 ct2
      obtain ⟨key, t⟩ := x
      simp only at ck1 ct1 ck2 ct2
      clear hx hc1 hc2
      go_wp2
      go_region_held3 (fun w' => w'.cell? ⟨b1, o1 + k * 2, none⟩ = some (.int .i64 key) ∧ w'.cell? ⟨b1, o1 + k * 2 + 1, none⟩ = some (.string ⟨t.toArray⟩) ∧ w'.cell? ⟨b2, o2 + k * 2, none⟩ = some (.int .i64 key) ∧ w'.cell? ⟨b2, o2 + k * 2 + 1, none⟩ = some (.string ⟨t.toArray⟩)) (go_keep) (first | (go_at_call 73; refine (eqBlobC key t _).mono ?_; rintro e w1 ⟨rfl, hw1⟩; have d1 : w1.cell? ⟨b1, o1 + k * 2, none⟩ = some (.int .i64 key) := (hw1.cell (p := ⟨b1, o1 + k * 2, none⟩) hb1).trans ck1; have d2 : w1.cell? ⟨b1, o1 + k * 2 + 1, none⟩ = some (.string ⟨t.toArray⟩) := (hw1.cell (p := ⟨b1, o1 + k * 2 + 1, none⟩) hb1).trans ct1; have d3 : w1.cell? ⟨b2, o2 + k * 2, none⟩ = some (.int .i64 key) := (hw1.cell (p := ⟨b2, o2 + k * 2, none⟩) hb2).trans ck2; have d4 : w1.cell? ⟨b2, o2 + k * 2 + 1, none⟩ = some (.string ⟨t.toArray⟩) := (hw1.cell (p := ⟨b2, o2 + k * 2 + 1, none⟩) hb2).trans ct2))
      all_goals go_wp2
      go_roundw
      case rel => exact ⟨k + 1, by omega, by go_num, hB.trans ⟨hw1.os, hw1.tape, hw1.output, hw1.size, fun q hq => hw1.block q (by have := hB.size; show q < wr.heap.size; omega)⟩⟩
      case measure => simp [intOf]; omega
    · go_wp2
      go_ret
      exact ⟨rfl, hB⟩

set_option maxHeartbeats 400000 in
theorem eqStoreC (room : Int) (a b : Option Addr) (len ca cb : Nat) (bs : List Bl) (w : World) (ha : BlobsIn w a len ca bs) (hb : BlobsIn w b len cb bs) (hlen : len ≤ 4194304) :
    Calls Try.prog 33 #[.agg #[.int .i64 room, .slice a len ca], .agg #[.int .i64 room, .slice b len cb]] w fun e w' => e = .returned (.bool true) ∧ Below w.heap.size w w' := by
  have h1 : (room != room) = false := by simp
  have ha1 := (ha.alloc (.cells #[.int .i64 room, .slice a len ca] 26)).alloc (.cells #[.int .i64 room, .slice b len cb] 26)
  have hb1 := (hb.alloc (.cells #[.int .i64 room, .slice a len ca] 26)).alloc (.cells #[.int .i64 room, .slice b len cb] 26)
  go_enter Try.func33, Try.ntmps33
  go_wp2_with fail
  refine (eqBlobSC a b len ca cb bs _ ha1 hb1 hlen).mono ?_
  rintro e w1 ⟨rfl, hw1⟩
  go_wp2
  go_ret
  exact ⟨rfl, (((Below.refl _ w).alloc (Nat.le_refl _) _).alloc (by simp) _).trans (hw1.mono (by simp; omega))⟩

end Go.Proofs.Ytfjpbbacibfnmaa
