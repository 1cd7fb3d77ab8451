/-
  The contracts of chapter 3's specification: a text is kept in a store of the call's own that has none yet; Kept.
-/
import Derived.Test.YtfjpbbacibfnmaaStoreS4
namespace Go.Proofs.Ytfjpbbacibfnmaa
open Go.RowKit

theorem src_nil (w : World) : Src w (.slice none 0 0) 0 2 (blobV []) := ⟨rfl, blobV_one _, Or.inl ⟨rfl, rfl⟩⟩

set_option maxHeartbeats 8000000 in
set_option maxRecDepth 100000 in
theorem specKeepNil (B base : Nat) (room : Int) (t : List UInt8) (w : World) (c0 : w.cell? ⟨B, 0, none⟩ = some (.int .i64 room)) (c1 : w.cell? ⟨B, 1, none⟩ = some (.slice none 0 0)) (f1 : ∀ j, w.frozen? ⟨B, j, none⟩ = false)
    (hbase : base ≤ w.heap.size) (ht : t.length ≤ 1048576) :
    Calls Try.prog 53 #[.pointer (some ⟨B, 0, none⟩), .string ⟨t.toArray⟩] w fun e w' => e = .returned (.int .i64 (keepC room [] t)) ∧ KeepPost w w' B base room (keepB room [] t) := by
  obtain ⟨i0, hi, hz0, hz1, hz2⟩ := info_parts infoBlob
  have hkb := hashL_bd t
  obtain ⟨key, hkey⟩ : ∃ key, hashL t = key := ⟨_, rfl⟩
  have HK : Hid (hashL t = key) := hkey
  rw [hkey] at hkb
  clear hkey
  have HN : Hid (0 < ([] : List Bl).length → (([] : List Bl).getD 0 (0, [])).1 ≠ hashL t) := fun h => by simp at h
  go_enter Try.func53, Try.ntmps53
  go_wp2_with fail
  refine (specHashX t _ ht).mono ?_
  rintro e w0 ⟨rfl, rfl⟩
  rw [HK.out]
  go_wp2
  refine wp_loop_rounds 1 ?_
  rw [rounds_succ]
  by_cases h20 : 20000 < (t.length : Int)
  · have HC : Hid (keepB room [] t = [] ∧ keepC room [] t = 2) := keep_full room [] t 0 rfl HN.out (Or.inl (by omega))
    have hd1 : decide (20000 < (t.length : Int)) = true := decide_eq_true h20
    go_wp2
    go_quiet (fail)
    go_wp2
    go_ret
    exact ⟨by rw [HC.out.2]; rfl, by rw [HC.out.1]; exact keepPost_same c0 c1 f1 (World.ownsRow_nil _ _ _ _) (by simp [Value.ownBlock]) (below_drewN _ _ _)⟩
  · have hd1 : decide (20000 < (t.length : Int)) = false := decide_eq_false h20
    have hBlt : B < w0.heap.size := World.block_lt_of_cell? w0 ⟨B, 0, none⟩ c0
    have HI2 : Hid (BlobsIn w0.drew none 0 0 []) := ⟨rfl, fun _ => ⟨rfl, rfl⟩, fun j hj => by omega⟩
    have hsum : (takenL ([] : List Bl) : Int) + (t.length : Int) ≤ 2097152 := by simp [takenL]; omega
    by_cases hfu : room < (takenL ([] : List Bl) : Int) + (t.length : Int)
    · have HC : Hid (keepB room [] t = [] ∧ keepC room [] t = 2) := keep_full room [] t 0 rfl HN.out (Or.inr hfu)
      have hd2 : decide (room < IntKind.i64.wrap ((takenL ([] : List Bl) : Int) + (t.length : Int))) = true := decide_eq_true (by rw [wrap_sum _ _ hsum]; exact hfu)
      go_wp2
      go_region_held3 (fun w' => w'.cell? ⟨B, 0, none⟩ = some (.int .i64 room) ∧ w'.cell? ⟨B, 1, none⟩ = some (.slice none 0 0)) (go_keep) (first | (go_at_call 55; refine (specL3Taken room none 0 0 [] _ HI2.out (by simp [takenL]) (by omega)).mono ?_; rintro e w1 ⟨rfl, hb1⟩; have hc0 : w1.cell? ⟨B, 0, none⟩ = some (.int .i64 room) := (hb1.cell (p := ⟨B, 0, none⟩) hBlt).trans c0; have hc1 : w1.cell? ⟨B, 1, none⟩ = some (.slice none 0 0) := (hb1.cell (p := ⟨B, 1, none⟩) hBlt).trans c1))
      all_goals go_wp2
      go_ret
      exact ⟨by rw [HC.out.2]; rfl, by rw [HC.out.1]; exact keepPost_same c0 c1 f1 (World.ownsRow_nil _ _ _ _) (by simp [Value.ownBlock]) ⟨hb1.os, hb1.tape, hb1.output, hb1.size, hb1.block⟩⟩
    · have HC : Hid (keepB room [] t = [] ++ [(hashL t, t)] ++ [] ∧ keepC room [] t = 0) := keep_new room [] t 0 rfl HN.out (by omega)
      have hd2 : decide (room < IntKind.i64.wrap ((takenL ([] : List Bl) : Int) + (t.length : Int))) = false := decide_eq_false (by rw [wrap_sum _ _ hsum]; exact hfu)
      go_wp2
      go_region_held3 (fun w' => w'.cell? ⟨B, 0, none⟩ = some (.int .i64 room) ∧ w'.cell? ⟨B, 1, none⟩ = some (.slice none 0 0)) (go_keep) (first | (go_at_call 55; refine (specL3Taken room none 0 0 [] _ HI2.out (by simp [takenL]) (by omega)).mono ?_; rintro e w1 ⟨rfl, hb1⟩; have hc0 : w1.cell? ⟨B, 0, none⟩ = some (.int .i64 room) := (hb1.cell (p := ⟨B, 0, none⟩) hBlt).trans c0; have hc1 : w1.cell? ⟨B, 1, none⟩ = some (.slice none 0 0) := (hb1.cell (p := ⟨B, 1, none⟩) hBlt).trans c1))
      have hB1 : Below w0.heap.size w0 w1 := ⟨hb1.os, hb1.tape, hb1.output, hb1.size, hb1.block⟩
      have hs1 : w0.heap.size ≤ w1.heap.size := hb1.size
      have hc1a := cell_al (.cells #[] 39) hc1
      obtain ⟨vR, w3, hrR, hoR, hgR, hnR⟩ := run_append_src (P := Try.prog) (w1.alloc (.cells #[] 39)) w1.heap.size 24 24 39 i0 _ 2 24 Try.underlying24 hi hz0 hz1 hz2 rfl (by decide) _ _ _
        (World.ownsRow_lit (base := w1.heap.size) (e := 39) (size := 2) w1 #[] 0 (Nat.le_refl _) (by decide) rfl) (.slice none 0 0) 0 (blobV []) (src_nil _) (by unfold maxLen; omega) (by omega) (by simp)
      obtain ⟨gR, cR, rfl⟩ := own_shape hoR (fun e => by cases hnR e)
      simp only [List.nil_append, Nat.add_zero] at hoR hrR
      clear hnR
      have hB3 : Below w0.heap.size w0 w3 := (hB1.alloc hB1.size _).grown hgR (by simp; omega) (fun q e => by simp [Value.ownBlock] at e; omega)
      have hs3 : w1.heap.size + 1 ≤ w3.heap.size := by have := hgR.size; rw [World.size_alloc] at this; exact this
      have hgR2 := (hoR.lt gR rfl).2
      have HOR : Hid (w3.ownsRow w1.heap.size 39 2 (.slice (some ⟨gR, 0, none⟩) 0 cR) 0 (blobV ([]))) := hoR
      clear hoR hgR hb1 hc0
      clear hB1
      have c13 := (hB3.cell (p := ⟨B, 1, none⟩) hBlt).trans c1
      have c13a := cell_al (.cells #[] 39) c13
      obtain ⟨vT, w5, hrT, hoT, hgT, hnT⟩ := run_append_src (P := Try.prog) (w3.alloc (.cells #[] 39)) w3.heap.size 24 24 39 i0 _ 2 24 Try.underlying24 hi hz0 hz1 hz2 rfl (by decide) _ _ _
        (World.ownsRow_lit (base := w3.heap.size) (e := 39) (size := 2) w3 #[] 0 (Nat.le_refl _) (by decide) rfl) (.slice none 0 0) 0 (blobV []) (src_nil _) (by unfold maxLen; omega) (by omega) (by simp)
      obtain ⟨gT, cT, rfl⟩ := own_shape hoT (fun e => by cases hnT e)
      simp only [List.nil_append, Nat.add_zero] at hoT hrT
      clear hnT
      have hB5 : Below w0.heap.size w0 w5 := (hB3.alloc hB3.size _).grown hgT (by simp; omega) (fun q e => by simp [Value.ownBlock] at e; omega)
      have hs5 : w3.heap.size + 1 ≤ w5.heap.size := by have := hgT.size; rw [World.size_alloc] at this; exact this
      have HOR5 : Hid (w5.ownsRow w1.heap.size 39 2 (.slice (some ⟨gR, 0, none⟩) 0 cR) 0 (blobV ([]))) := (HOR.out.alloc _).kept hgT (.inr (by simp [Value.ownBlock]; omega))
      have hgT1 := (hoT.lt gT rfl).1
      have HOT : Hid (w5.ownsRow w3.heap.size 39 2 (.slice (some ⟨gT, 0, none⟩) 0 cT) 0 (blobV ([]))) := hoT
      clear hoT hgT HOR
      clear hB3
      obtain ⟨vN, w7, hrN, hoN, hgN, hnN⟩ := run_append_src (P := Try.prog) (w5.alloc (.cells #[.int .i64 key, .string ⟨t.toArray⟩] 39)) w3.heap.size 24 24 39 i0 _ 2 24 Try.underlying24 hi hz0 hz1 hz2 rfl (by decide) _ _ _
        (HOT.out.alloc _) (.slice (some ⟨w5.heap.size, 0, none⟩) 1 1) 1 (blobV [(key, t)]) (new_blob _ _ _ _) (by unfold maxLen; omega) (by omega) (by simp; omega)
      obtain ⟨gN, cN, rfl⟩ := own_shape hoN (fun e => by cases hnN e)
      rw [← blobV_append] at hoN
      clear hnN
      have hB7 : Below w0.heap.size w0 w7 := (hB5.alloc hB5.size _).grown hgN (by simp; omega) (fun q e => by have := (HOT.out.lt q e).1; omega)
      have hs7 : w5.heap.size + 1 ≤ w7.heap.size := by have := hgN.size; rw [World.size_alloc] at this; exact this
      have HOR7 : Hid (w7.ownsRow w1.heap.size 39 2 (.slice (some ⟨gR, 0, none⟩) 0 cR) 0 (blobV ([]))) := (HOR5.out.alloc _).kept hgN (.inr (by simp [Value.ownBlock]; omega))
      have HON : Hid (w7.ownsRow w3.heap.size 39 2 (.slice (some ⟨gN, 0, none⟩) (0 + 1) cN) (0 + 1) (blobV ([] ++ [(key, t)]))) := hoN
      clear hoN hgN HOR5 HOT
      clear hB5
      obtain ⟨vF, w8, hrF, hoF, hgF, hnF⟩ := run_append_src (P := Try.prog) w7 w3.heap.size 24 24 39 i0 _ 2 24 Try.underlying24 hi hz0 hz1 hz2 rfl (by decide) _ _ _
        HON.out (.slice (some ⟨gR, 0, none⟩) 0 cR) 0 (blobV ([])) (own_whole HOR7.out) (by unfold maxLen; omega) (by omega) (by omega)
      obtain ⟨gF, cF, rfl⟩ := own_shape hoF (fun e => by cases hnF e)
      rw [← blobV_append] at hoF
      clear hnF
      have hB8 : Below w0.heap.size w0 w8 := hB7.grown hgF hB7.size (fun q e => by have := (HON.out.lt q e).1; omega)
      have hs8 : w7.heap.size ≤ w8.heap.size := hgF.size
      have hgF1 := (hoF.lt gF rfl).1
      have HOF : Hid (w8.ownsRow w3.heap.size 39 2 (.slice (some ⟨gF, 0, none⟩) (0 + 1 + 0) cF) (0 + 1 + 0) (blobV ([] ++ [(key, t)] ++ []))) := hoF
      have c08 := (hB8.cell (p := ⟨B, 0, none⟩) hBlt).trans c0
      have c18 := (hB8.cell (p := ⟨B, 1, none⟩) hBlt).trans c1
      have f18 : ∀ j, w8.frozen? ⟨B, j, none⟩ = false := fun j => (World.frozen?_of_block (a := ⟨B, j, none⟩) (hB8.block B hBlt)).trans (f1 j)
      clear hoF hgF HON HOR7 hB7
      go_wp2_with (at_builtin; first | (refine wpList_append_run rfl (.tmp 77) (.tmp 83) 24 rfl _ _ _ rfl rfl hrR ?_; clear hrR hc1a hc1) | (refine wpList_append_run rfl (.tmp 86) (.tmp 92) 24 rfl _ _ _ rfl rfl hrT ?_; clear hrT c13a c13) | (refine wpList_append_run rfl (.tmp 93) (.tmp 97) 24 rfl _ _ _ rfl rfl hrN ?_; clear hrN) | (refine wpList_append_run rfl (.tmp 98) (.tmp 99) 24 rfl _ _ _ rfl rfl hrF ?_; clear hrF))
      all_goals go_ret
      all_goals exact ⟨by rw [HC.out.2]; rfl, by rw [HC.out.1, HK.out]; exact keepPost_new c08 c18 f18 HOF.out (by omega) (by omega) hB8⟩

/-- A text is kept in a store of the call's own. -/
theorem specKeep (B base len : Nat) (room : Int) (v : Value) (bs : List Bl) (t : List UInt8) (w : World) (c0 : w.cell? ⟨B, 0, none⟩ = some (.int .i64 room)) (c1 : w.cell? ⟨B, 1, none⟩ = some v) (f1 : ∀ j, w.frozen? ⟨B, j, none⟩ = false)
    (hown : w.ownsRow base 39 2 v len (blobV bs)) (hgB : v.ownBlock ≠ some B) (hbase : base ≤ w.heap.size) (hl : takenL bs ≤ 1048576) (hlen : len ≤ 1048576) (ht : t.length ≤ 1048576) :
    Calls Try.prog 53 #[.pointer (some ⟨B, 0, none⟩), .string ⟨t.toArray⟩] w fun e w' => e = .returned (.int .i64 (keepC room bs t)) ∧ KeepPost w w' B base room (keepB room bs t) := by
  rcases own_forms hown with ⟨rfl, rfl, hb⟩ | ⟨g, cp, rfl⟩
  · have hbs : bs = [] := by
      have := (own_blobs hown).1
      exact List.eq_nil_of_length_eq_zero this
    subst hbs
    exact specKeepNil B base room t w c0 c1 f1 hbase ht
  · exact specKeepSome B base g len cp room bs t w c0 c1 f1 hown (fun e => hgB (by simp [Value.ownBlock, e])) hbase hl hlen ht

set_option maxHeartbeats 2000000 in
theorem specKept (room : Int) (a : Option Addr) (len cap : Nat) (bs : List Bl) (t : List UInt8) (w : World) (hin : BlobsIn w a len cap bs) (hl : takenL bs ≤ 1048576) (hlen : len ≤ 1048576) (ht : t.length ≤ 1048576) :
    Calls Try.prog 16 #[.agg #[.int .i64 room, .slice a len cap], .string ⟨t.toArray⟩] w fun e w' => ∃ v, e = .returned (.tuple #[.agg #[.int .i64 (keptR room bs), v], .int .i64 (keptC room bs t)]) ∧ w'.ownsRow w.heap.size 39 2 v (keptB room bs t).length (blobV (keptB room bs t)) ∧ Below w.heap.size w w' := by
  obtain ⟨W0, hW0⟩ : ∃ W0, ((w.alloc (.cells #[.int .i64 room, .slice a len cap] 26)).alloc (.cells #[.int .i64 0, .slice none 0 0] 26)) = W0 := ⟨_, rfl⟩
  have hB0 : Below w.heap.size w W0 := by rw [← hW0]; exact ((Below.refl _ w).alloc (Nat.le_refl _) _).alloc (by simp) _
  have hsz : W0.heap.size = w.heap.size + 1 + 1 := by rw [← hW0]; simp
  have c0 : W0.cell? ⟨w.heap.size, 0, none⟩ = some (.int .i64 room) := by rw [← hW0]; simp
  have c1 : W0.cell? ⟨w.heap.size, 1, none⟩ = some (.slice a len cap) := by rw [← hW0]; simp
  have r0 : W0.cell? ⟨w.heap.size + 1, 0, none⟩ = some (.int .i64 0) := by rw [← hW0]; simp
  have r1 : W0.cell? ⟨w.heap.size + 1, 1, none⟩ = some (.slice none 0 0) := by rw [← hW0]; simp
  have f0 : ∀ j, W0.frozen? ⟨w.heap.size + 1, j, none⟩ = false := fun j => by rw [← hW0]; simp
  have HI : Hid (BlobsIn W0 a len cap bs) := hin.below hB0
  clear hin
  obtain ⟨b, hb⟩ : ∃ b, okB room bs = b := ⟨_, rfl⟩
  have HB : Hid (okB room bs = b) := hb
  rcases b with _ | _
  · have HT : Hid (keptR room bs = 0 ∧ keptB room bs t = [] ∧ keptC room bs t = 3) := by unfold keptR keptB keptC; rw [hb]; exact ⟨rfl, rfl, rfl⟩
    clear hb
    go_enter Try.func16, Try.ntmps16
    go_wp2_with fail
    refine (specStoreOk room a len cap bs _ HI.out hl hlen).mono ?_
    rintro e w1 ⟨rfl, hb1⟩
    rw [HB.out]
    have r01 : w1.cell? ⟨w.heap.size + 1, 0, none⟩ = some (.int .i64 0) := (hb1.cell (p := ⟨w.heap.size + 1, 0, none⟩) (by show w.heap.size + 1 < _; omega)).trans r0
    have r11 : w1.cell? ⟨w.heap.size + 1, 1, none⟩ = some (.slice none 0 0) := (hb1.cell (p := ⟨w.heap.size + 1, 1, none⟩) (by show w.heap.size + 1 < _; omega)).trans r1
    have g01 := (World.frozen?_of_block (a := ⟨w.heap.size + 1, 0, none⟩) (hb1.block (w.heap.size + 1) (by omega))).trans (f0 0)
    have g11 := (World.frozen?_of_block (a := ⟨w.heap.size + 1, 1, none⟩) (hb1.block (w.heap.size + 1) (by omega))).trans (f0 1)
    go_wp2
    obtain ⟨X, hX⟩ : ∃ X, ((w1.setCell ⟨w.heap.size + 1, 0, none⟩ (.int .i64 0)).setCell ⟨w.heap.size + 1, 1, none⟩ (.slice none 0 0)) = X := ⟨_, rfl⟩
    have x1 : X.cell? ⟨w.heap.size + 1, 1, none⟩ = some (.slice none 0 0) := by rw [← hX]; exact World.cell?_setCell_same _ _ _ ((World.cell?_setCell_other _ _ _ _ (by simp)).trans r11)
    have x0 : X.cell? ⟨w.heap.size + 1, 0, none⟩ = some (.int .i64 0) := by rw [← hX]; exact (World.cell?_setCell_other _ _ _ _ (by simp)).trans (World.cell?_setCell_same _ _ _ r01)
    have hBX : Below w.heap.size w X := by rw [← hX]; exact ((hB0.trans (hb1.mono (by omega))).setCell (p := ⟨w.heap.size + 1, 0, none⟩) (by show w.heap.size ≤ w.heap.size + 1; omega) _).setCell (p := ⟨w.heap.size + 1, 1, none⟩) (by show w.heap.size ≤ w.heap.size + 1; omega) _
    rw [hX]
    refine bodyPost_ret (v := .tuple #[.agg #[.int .i64 0, .slice none 0 0], .int .i64 3]) (by simp [results, Try.results16, go_sem, x0, x1]) rfl ?_
    refine ⟨.slice none 0 0, by rw [HT.out.1, HT.out.2.2], ?_, hBX⟩
    rw [HT.out.2.1]
    exact World.ownsRow_nil _ _ _ _
  · have HT : Hid (keptR room bs = room ∧ keptB room bs t = keepB room bs t ∧ keptC room bs t = keepC room bs t) := by unfold keptR keptB keptC; rw [hb]; exact ⟨rfl, rfl, rfl⟩
    clear hb
    go_enter Try.func16, Try.ntmps16
    go_wp2_with fail
    refine (specStoreOk room a len cap bs _ HI.out hl hlen).mono ?_
    rintro e w1 ⟨rfl, hb1⟩
    rw [HB.out]
    have c01 : w1.cell? ⟨w.heap.size, 0, none⟩ = some (.int .i64 room) := (hb1.cell (p := ⟨w.heap.size, 0, none⟩) (by show w.heap.size < _; omega)).trans c0
    have c11 : w1.cell? ⟨w.heap.size, 1, none⟩ = some (.slice a len cap) := (hb1.cell (p := ⟨w.heap.size, 1, none⟩) (by show w.heap.size < _; omega)).trans c1
    go_wp2_with fail
    refine (specL3Copy room a len cap bs _ (HI.out.below hb1) hlen).mono ?_
    rintro e w2 ⟨v2, rfl, hown2, hnil2, hb2⟩
    obtain ⟨g, cp, rfl⟩ := own_shape hown2 hnil2
    have hb2s := hb2.size
    have hb1s := hb1.size
    have hg2 := (hown2.lt g rfl).2
    have hB2 : Below w.heap.size w w2 := (hB0.trans (hb1.mono (by omega))).trans (hb2.mono (by omega))
    go_wp2_with fail
    refine (specKeep w2.heap.size w1.heap.size len room (.slice (some ⟨g, 0, none⟩) len cp) bs t _ (by simp) (by simp) (fun j => by simp) (hown2.alloc _) (by simp [Value.ownBlock]; omega) (by simp; omega) hl hlen ht).mono ?_
    rintro e w3 ⟨rfl, k0, ⟨v3, k1, hown3, hne3⟩, _, hg3⟩
    have hs3 : w2.heap.size + 1 ≤ w3.heap.size := by have := hg3.size; rw [World.size_alloc] at this; exact this
    have hbk : ∀ k, k < w2.heap.size → w3.heap[k]? = w2.heap[k]? := fun k hk => (hg3.block k (by rw [World.size_alloc]; omega) (by simp; omega)).trans (Below.heap_alloc _ _ _ hk)
    have hB3 : Below w.heap.size w w3 := hB2.trans ⟨hg3.os, hg3.tape, hg3.output, by omega, fun k hk => hbk k (by omega)⟩
    have hb12 : ∀ k, k < W0.heap.size → w3.heap[k]? = W0.heap[k]? := fun k hk => (hbk k (by omega)).trans ((hb2.block k (by omega)).trans (hb1.block k hk))
    have r03 := (World.cell?_of_block (a := ⟨w.heap.size + 1, 0, none⟩) (hb12 (w.heap.size + 1) (by omega))).trans r0
    have r13 := (World.cell?_of_block (a := ⟨w.heap.size + 1, 1, none⟩) (hb12 (w.heap.size + 1) (by omega))).trans r1
    have g03 := (World.frozen?_of_block (a := ⟨w.heap.size + 1, 0, none⟩) (hb12 (w.heap.size + 1) (by omega))).trans (f0 0)
    have g13 := (World.frozen?_of_block (a := ⟨w.heap.size + 1, 1, none⟩) (hb12 (w.heap.size + 1) (by omega))).trans (f0 1)
    obtain ⟨_, a3, cap3, rfl, _⟩ := own_blobs hown3
    clear hbk hb12 hg3
    go_wp2
    obtain ⟨X, hX⟩ : ∃ X, ((w3.setCell ⟨w.heap.size + 1, 0, none⟩ (.int .i64 room)).setCell ⟨w.heap.size + 1, 1, none⟩ (.slice a3 (keepB room bs t).length cap3)) = X := ⟨_, rfl⟩
    have x1 : X.cell? ⟨w.heap.size + 1, 1, none⟩ = some (.slice a3 (keepB room bs t).length cap3) := by rw [← hX]; exact World.cell?_setCell_same _ _ _ ((World.cell?_setCell_other _ _ _ _ (by simp)).trans r13)
    have x0 : X.cell? ⟨w.heap.size + 1, 0, none⟩ = some (.int .i64 room) := by rw [← hX]; exact (World.cell?_setCell_other _ _ _ _ (by simp)).trans (World.cell?_setCell_same _ _ _ r03)
    have hBX : Below w.heap.size w X := by rw [← hX]; exact (hB3.setCell (p := ⟨w.heap.size + 1, 0, none⟩) (by show w.heap.size ≤ w.heap.size + 1; omega) _).setCell (p := ⟨w.heap.size + 1, 1, none⟩) (by show w.heap.size ≤ w.heap.size + 1; omega) _
    have hOX : X.ownsRow w.heap.size 39 2 (.slice a3 (keepB room bs t).length cap3) (keepB room bs t).length (blobV (keepB room bs t)) := by
      rw [← hX]
      have hd : (Value.slice a3 (keepB room bs t).length cap3).ownBlock ≠ some (w.heap.size + 1) := fun e => by have := (hown3.lt _ e).1; omega
      exact own_base ((hown3.kept (grown_set _ _ _ _) (.inr hd)).kept (grown_set _ _ _ _) (.inr hd)) (by omega)
    rw [hX]
    refine bodyPost_ret (v := .tuple #[.agg #[.int .i64 room, .slice a3 (keepB room bs t).length cap3], .int .i64 (keepC room bs t)]) (by simp [results, Try.results16, go_sem, x0, x1]) rfl ?_
    exact ⟨.slice a3 (keepB room bs t).length cap3, by rw [HT.out.1, HT.out.2.2], by rw [HT.out.2.1]; exact hOX, hBX⟩

end Go.Proofs.Ytfjpbbacibfnmaa
