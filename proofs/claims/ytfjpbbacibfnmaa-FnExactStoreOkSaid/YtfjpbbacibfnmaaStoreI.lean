/-
  The contract of the landed Kept: a store with one text more, its keys rising, and the code that says why not.
-/
import Derived.Test.YtfjpbbacibfnmaaStoreOf
namespace Go.Proofs.Ytfjpbbacibfnmaa
open Go.RowKit Go.Maps

theorem not_there {l : List Bl} (h : Rises l) (key : Int) (hf : fetchB l key = false) : placeL key l < l.length → (l.getD (placeL key l) (0, [])).1 ≠ key := by
  intro h1 h2
  rw [(place_there h key).2 ⟨h1, h2⟩] at hf
  cases hf

theorem keep_code {room : Int} {bs : List Bl} (h : Rises bs) (t : List UInt8) : keepC room bs t = codeOf bs (hashL t) t (room - (takenL bs : Int)) := by
  unfold codeOf
  cases hf : fetchB bs (hashL t)
  · rw [if_neg (by simp)]
    by_cases hc : 20000 < t.length ∨ room < (takenL bs : Int) + (t.length : Int)
    · rw [(keep_full room bs t _ rfl (not_there h _ hf) hc).2, if_pos (by omega)]
    · rw [(keep_new room bs t _ rfl (not_there h _ hf) hc).2, if_neg (by omega)]
  · rw [if_pos rfl]
    exact (keep_there room bs t _ (hashL t) _ rfl rfl ((place_there h _).1 hf).1 (fetch_place h _ hf)).2

theorem keep_map {room : Int} {bs : List Bl} (h : Rises bs) (t : List UInt8) (hc : codeOf bs (hashL t) t (room - (takenL bs : Int)) = 0) :
    (∀ D, MapIs D bs → MapIs (D.put (.int .i64 (hashL t)) (blobD (hashL t, t))) (keepB room bs t)) ∧ Rises (keepB room bs t) ∧ takenL (keepB room bs t) ≤ takenL bs + 20000 ∧ (keepB room bs t).length ≤ bs.length + 1 := by
  unfold codeOf at hc
  cases hf : fetchB bs (hashL t)
  · rw [hf, if_neg (by simp)] at hc
    by_cases hq : 20000 < t.length ∨ room - (takenL bs : Int) < (t.length : Int)
    · rw [if_pos hq] at hc; omega
    · rw [(keep_new room bs t _ rfl (not_there h _ hf) (by omega)).1]
      refine ⟨fun D hM => hM.put _ _ (fun x => ⟨(fetch_put bs (hashL t) t _ hf x).1, fun _ => (fetch_put bs (hashL t) t _ hf x).2⟩), place_rises h _ t hf, ?_, ?_⟩
      · have h1 := takenL_append (bs.take (placeL (hashL t) bs)) (bs.drop (placeL (hashL t) bs))
        rw [List.take_append_drop] at h1
        rw [takenL_append, takenL_append]
        simp [takenL]
        omega
      · simp
        have := placeL_le (hashL t) bs
        omega
  · rw [hf, if_pos rfl] at hc
    have hu : fetchT bs (hashL t) = t := by
      by_cases e : fetchT bs (hashL t) = t
      · exact e
      · rw [if_neg e] at hc; omega
    rw [(keep_there room bs t _ (hashL t) _ rfl rfl ((place_there h _).1 hf).1 (fetch_place h _ hf)).1]
    refine ⟨fun D hM => ?_, h, by omega, by omega⟩
    have := hM.same (hashL t) hf
    rw [hu] at this
    exact this

theorem keep_else {room : Int} {bs : List Bl} (h : Rises bs) (t : List UInt8) (hc : codeOf bs (hashL t) t (room - (takenL bs : Int)) ≠ 0) : keepB room bs t = bs := by
  unfold codeOf at hc
  cases hf : fetchB bs (hashL t)
  · rw [hf, if_neg (by simp)] at hc
    by_cases hq : 20000 < t.length ∨ room - (takenL bs : Int) < (t.length : Int)
    · exact (keep_full room bs t _ rfl (not_there h _ hf) (by omega)).1
    · rw [if_neg hq] at hc; exact absurd rfl hc
  · exact (keep_there room bs t _ (hashL t) _ rfl rfl ((place_there h _).1 hf).1 (fetch_place h _ hf)).1

theorem kept_no {room : Int} {bs : List Bl} (t : List UInt8) (h : ¬ okP room bs) : keptR room bs = 0 ∧ keptB room bs t = [] ∧ keptC room bs t = 3 := by
  unfold keptR keptB keptC
  rw [okB_no h]
  exact ⟨if_neg (by simp), if_neg (by simp), if_neg (by simp)⟩

theorem kept_yes {room : Int} {bs : List Bl} (t : List UInt8) (h : okP room bs) : keptR room bs = room ∧ keptB room bs t = keepB room bs t ∧ keptC room bs t = codeOf bs (hashL t) t (room - (takenL bs : Int)) := by
  rw [← keep_code (rises_of_ok h) t]
  unfold keptR keptB keptC
  rw [okB_yes h]
  exact ⟨if_pos rfl, if_pos rfl, if_pos rfl⟩

set_option maxHeartbeats 4000000 in
set_option maxRecDepth 100000 in
theorem implKept (room : Int) (a : Option Addr) (len cap : Nat) (bs : List Bl) (t : List UInt8) (w : World) (hin : BlobsIn w a len cap bs) (hl : takenL bs ≤ 1048576) (hlen : len ≤ 1048576) (ht : t.length ≤ 1048576) :
    Calls Try.prog 13 #[.agg #[.int .i64 room, .slice a len cap], .string ⟨t.toArray⟩] w fun e w' => ∃ v, e = .returned (.tuple #[.agg #[.int .i64 (keptR room bs), v], .int .i64 (keptC room bs t)]) ∧ w'.ownsRow w.heap.size 39 2 v (keptB room bs t).length (blobV (keptB room bs t)) ∧ Below w.heap.size w w' := by
  obtain rfl : bs.length = len := hin.1
  obtain ⟨W0, hW0⟩ : ∃ W0, ((w.alloc (.cells #[.int .i64 room, .slice a bs.length cap] 26)).alloc (.cells #[.int .i64 0, .slice none 0 0] 26)) = W0 := ⟨_, rfl⟩
  have hB0 : Below w.heap.size w W0 := by rw [← hW0]; exact ((Below.refl _ w).alloc (Nat.le_refl _) _).alloc (by simp) _
  have HZ : Hid (W0.heap.size = w.heap.size + 1 + 1) := by exact (by rw [← hW0]; simp : W0.heap.size = w.heap.size + 1 + 1)
  have c0 : W0.cell? ⟨w.heap.size, 0, none⟩ = some (.int .i64 room) := by rw [← hW0]; simp
  have c1 : W0.cell? ⟨w.heap.size, 1, none⟩ = some (.slice a bs.length cap) := by rw [← hW0]; simp
  have r0 : W0.cell? ⟨w.heap.size + 1, 0, none⟩ = some (.int .i64 0) := by rw [← hW0]; simp
  have r1 : W0.cell? ⟨w.heap.size + 1, 1, none⟩ = some (.slice none 0 0) := by rw [← hW0]; simp
  have rf : ∀ j, W0.frozen? ⟨w.heap.size + 1, j, none⟩ = false := fun j => by rw [← hW0]; simp
  have HC := implByKeyOf room a bs.length cap bs W0 (hin.below hB0) hl hlen
  by_cases ho : okP room bs
  · obtain ⟨e1, e2⟩ := storeL_yes ho
    obtain ⟨k1, k2, k3⟩ := kept_yes t ho
    rw [e1, e2] at HC
    rw [k1, k2, k3]
    have hr := rises_of_ok ho
    have hroom := ho.1
    unfold roomOk at hroom
    obtain ⟨hr0, hr1, hr2⟩ := hroom
    have hd : ((takenL bs : Int) == -1) = false := beq_eq_false_iff_ne.2 (by omega)
    have HC2 : Hid (_) := HC
    clear HC e1 e2 k1 k2 k3 ho hin
    go_enter Try.func13, Try.ntmps13
    go_wp2_with fail
    refine Calls.mono HC2.out ?_
    rintro e w1 ⟨rfl, D, hown, hM, hb1⟩
    have hz := HZ.out
    have hs1 : w.heap.size + 1 + 1 + 1 < w1.heap.size := by have := hown.lt; omega
    have c01 : w1.cell? ⟨w.heap.size, 0, none⟩ = some (.int .i64 room) := (hb1.cell (p := ⟨w.heap.size, 0, none⟩) (show w.heap.size < W0.heap.size by omega)).trans c0
    have r01 : w1.cell? ⟨w.heap.size + 1, 0, none⟩ = some (.int .i64 0) := (hb1.cell (p := ⟨w.heap.size + 1, 0, none⟩) (show w.heap.size + 1 < W0.heap.size by omega)).trans r0
    have r11 : w1.cell? ⟨w.heap.size + 1, 1, none⟩ = some (.slice none 0 0) := (hb1.cell (p := ⟨w.heap.size + 1, 1, none⟩) (show w.heap.size + 1 < W0.heap.size by omega)).trans r1
    have rf1 : ∀ j, w1.frozen? ⟨w.heap.size + 1, j, none⟩ = false := fun j => (hb1.frozen (p := ⟨w.heap.size + 1, j, none⟩) (show w.heap.size + 1 < W0.heap.size by omega)).trans (rf j)
    have hB1 : Below w.heap.size w w1 := hB0.trans (hb1.mono (by omega))
    rw [hz] at hown ⊢
    have HO : Hid (w1.ownsMap Try.prog 2 blobR (w.heap.size + 1 + 1 + 1) bs.length D) := hown
    clear HC2 c0 c1 r0 r1 rf hb1 hz HZ hown hB0 hW0
    go_wp2_with fail
    refine (implHashX t _ ht).mono ?_
    rintro e w2 ⟨rfl, rfl⟩
    have hlt2 : w.heap.size < w2.heap.size := by omega
    have hlt3 : w.heap.size + 1 < w2.heap.size := by omega
    obtain ⟨w3, hw3⟩ : ∃ w3, w2.alloc (.cells #[.int .i64 (hashL t), .string ⟨t.toArray⟩] 39) = w3 := ⟨_, rfl⟩
    have hs3 : w3.heap.size = w2.heap.size + 1 := by rw [← hw3]; simp
    have HS3 : Hid (w3.heap.size = w2.heap.size + 1) := hs3
    have hbk3 : ∀ q, q < w2.heap.size → w3.heap[q]? = w2.heap[q]? := fun q hq => by rw [← hw3]; exact Below.heap_alloc _ _ _ hq
    have c03 : w3.cell? ⟨w.heap.size, 0, none⟩ = some (.int .i64 room) := (World.cell?_of_block (a := ⟨w.heap.size, 0, none⟩) (hbk3 _ hlt2)).trans c01
    have b03 : w3.cell? ⟨w2.heap.size, 0, none⟩ = some (.int .i64 (hashL t)) := by rw [← hw3]; simp
    have b13 : w3.cell? ⟨w2.heap.size, 1, none⟩ = some (.string ⟨t.toArray⟩) := by rw [← hw3]; simp
    have HO3 : Hid (w3.ownsMap Try.prog 2 blobR (w.heap.size + 1 + 1 + 1) bs.length D) := by rw [← hw3]; exact HO.out.alloc _
    have hB3 : Below w.heap.size w w3 := by rw [← hw3]; exact hB1.alloc (by omega) _
    have HW3 : Hid (w2.alloc (.cells #[.int .i64 (hashL t), .string ⟨t.toArray⟩] 39) = w3) := hw3
    clear hw3 hs3
    go_wp2_with fail
    rw [HW3.out]
    refine (implKeepCode (w.heap.size + 1 + 1 + 1) bs.length D bs (hashL t) (room - (takenL bs : Int)) t _ HO3.out hM ht).mono ?_
    rintro e w4 ⟨rfl, hb4⟩
    have hz3 := HS3.out
    have hs4 := hb4.size
    have c04 : w4.cell? ⟨w.heap.size, 0, none⟩ = some (.int .i64 room) := (hb4.cell (p := ⟨w.heap.size, 0, none⟩) (show w.heap.size < w3.heap.size by omega)).trans c03
    have b04 : w4.cell? ⟨w2.heap.size, 0, none⟩ = some (.int .i64 (hashL t)) := (hb4.cell (p := ⟨w2.heap.size, 0, none⟩) (show w2.heap.size < w3.heap.size by omega)).trans b03
    have b14 : w4.cell? ⟨w2.heap.size, 1, none⟩ = some (.string ⟨t.toArray⟩) := (hb4.cell (p := ⟨w2.heap.size, 1, none⟩) (show w2.heap.size < w3.heap.size by omega)).trans b13
    have r04 : w4.cell? ⟨w.heap.size + 1, 0, none⟩ = some (.int .i64 0) := (hb4.cell (p := ⟨w.heap.size + 1, 0, none⟩) (show w.heap.size + 1 < w3.heap.size by omega)).trans ((World.cell?_of_block (a := ⟨w.heap.size + 1, 0, none⟩) (hbk3 _ hlt3)).trans r01)
    have r14 : w4.cell? ⟨w.heap.size + 1, 1, none⟩ = some (.slice none 0 0) := (hb4.cell (p := ⟨w.heap.size + 1, 1, none⟩) (show w.heap.size + 1 < w3.heap.size by omega)).trans ((World.cell?_of_block (a := ⟨w.heap.size + 1, 1, none⟩) (hbk3 _ hlt3)).trans r11)
    have rf4 : ∀ j, w4.frozen? ⟨w.heap.size + 1, j, none⟩ = false := fun j => (hb4.frozen (p := ⟨w.heap.size + 1, j, none⟩) (show w.heap.size + 1 < w3.heap.size by omega)).trans ((World.frozen?_of_block (a := ⟨w.heap.size + 1, j, none⟩) (hbk3 _ hlt3)).trans (rf1 j))
    have HO4 : Hid (w4.ownsMap Try.prog 2 blobR (w.heap.size + 1 + 1 + 1) bs.length D) := HO3.out.kept (Below.by hb4) (by simp)
    have hB4 : Below w.heap.size w w4 := hB3.trans (hb4.mono (by omega))
    have hw4 : w.heap.size + 1 + 1 + 1 < w4.heap.size := HO4.out.lt
    have hw24 : w2.heap.size < w4.heap.size := by omega
    clear HO HO3 c01 c03 b03 b13 r01 r11 rf1 hb4 hB1 hB3 hbk3 HW3 HS3 hz3 hs4
    by_cases hc : codeOf bs (hashL t) t (room - (takenL bs : Int)) = 0
    · obtain ⟨hm1, hm2, hm3, hm4⟩ := keep_map hr t hc
      have HM5 : Hid (MapIs (D.put (.int .i64 (hashL t)) (blobD (hashL t, t))) (keepB room bs t)) := hm1 D hM
      have HCZ : Hid (codeOf bs (hashL t) t (room - (takenL bs : Int)) = 0) := hc
      have hh := hashL_bd t
      have hwf : (Lit.int .i64 (hashL t)).wf = true := WalkArith.wf_i64 (by omega)
      obtain ⟨w5, hrun, hown5, hg5⟩ := HO4.out.update keyLaw Try.underlying64 (by unfold maxLen; omega) (keyOf_int_mk Try.underlying2 hwf) (blobR_mk (hashL t, t))
      have hrun' : (Instr.mapUpdate 64 (.map (some (w.heap.size + 1 + 1 + 1))) (.int .i64 (hashL t)) (.agg #[.int .i64 (hashL t), .string ⟨t.toArray⟩])).run Try.prog w4 = .ok () w5 := hrun
      have hs5 := hg5.size
      have c05 : w5.cell? ⟨w.heap.size, 0, none⟩ = some (.int .i64 room) := (World.cell?_of_block (a := ⟨w.heap.size, 0, none⟩) (hg5.block w.heap.size (by omega) (by simp; omega))).trans c04
      have hbk5 := hg5.block (w.heap.size + 1) (by omega) (by simp)
      have q0 : w5.cell? ⟨w.heap.size + 1, 0, none⟩ = some (.int .i64 0) := (World.cell?_of_block (a := ⟨w.heap.size + 1, 0, none⟩) hbk5).trans r04
      have q1 : w5.cell? ⟨w.heap.size + 1, 1, none⟩ = some (.slice none 0 0) := (World.cell?_of_block (a := ⟨w.heap.size + 1, 1, none⟩) hbk5).trans r14
      have qf : ∀ j, w5.frozen? ⟨w.heap.size + 1, j, none⟩ = false := fun j => (World.frozen?_of_block (a := ⟨w.heap.size + 1, j, none⟩) hbk5).trans (rf4 j)
      have hBq : Below w.heap.size w w5 := hB4.grown hg5 hB4.size (fun q e => by injection e with e; omega)
      have HO5 : Hid (w5.ownsMap Try.prog 2 blobR (w.heap.size + 1 + 1 + 1) (bs.length + 1) (D.put (.int .i64 (hashL t)) (blobD (hashL t, t)))) := hown5
      rw [hc]
      clear hrun hown5 hg5 hbk5 r04 r14 rf4 HO4 hc hm1 hh
      go_wp2_with fail
      refine (implStoreOf room (w.heap.size + 1 + 1 + 1) (bs.length + 1) _ (keepB room bs t) _ HO5.out HM5.out hm2 (by omega) (by omega) (by omega)).mono ?_
      rintro e w6 ⟨v, rfl, hrow, hb6⟩
      obtain ⟨_, a6, c6, rfl, _⟩ := own_blobs hrow
      have hs6 := hb6.size
      have hrl : w5.heap.size ≤ w5.heap.size := Nat.le_refl _
      have r06 : w6.cell? ⟨w.heap.size + 1, 0, none⟩ = some (.int .i64 0) := (hb6.cell (p := ⟨w.heap.size + 1, 0, none⟩) (show w.heap.size + 1 < w5.heap.size by omega)).trans q0
      have r16 : w6.cell? ⟨w.heap.size + 1, 1, none⟩ = some (.slice none 0 0) := (hb6.cell (p := ⟨w.heap.size + 1, 1, none⟩) (show w.heap.size + 1 < w5.heap.size by omega)).trans q1
      have f06 : w6.frozen? ⟨w.heap.size + 1, 0, none⟩ = false := (hb6.frozen (p := ⟨w.heap.size + 1, 0, none⟩) (show w.heap.size + 1 < w5.heap.size by omega)).trans (qf 0)
      have f16 : w6.frozen? ⟨w.heap.size + 1, 1, none⟩ = false := (hb6.frozen (p := ⟨w.heap.size + 1, 1, none⟩) (show w.heap.size + 1 < w5.heap.size by omega)).trans (qf 1)
      have hB6 : Below w.heap.size w w6 := hBq.trans (hb6.mono (by have := hBq.size; omega))
      have HR : Hid (w6.ownsRow w5.heap.size 39 2 (.slice a6 ((keepB room bs t)).length c6) ((keepB room bs t)).length (blobV ((keepB room bs t)))) := hrow
      clear hrow hb6 q0 q1 qf
      go_wp2
      obtain ⟨X, hX⟩ : ∃ X, ((w6.setCell ⟨w.heap.size + 1, 0, none⟩ (.int .i64 room)).setCell ⟨w.heap.size + 1, 1, none⟩ (.slice a6 ((keepB room bs t)).length c6)) = X := ⟨_, rfl⟩
      have x1 : X.cell? ⟨w.heap.size + 1, 1, none⟩ = some (.slice a6 ((keepB room bs t)).length c6) := by rw [← hX]; exact World.cell?_setCell_same _ _ _ ((World.cell?_setCell_other _ _ _ _ (by simp)).trans r16)
      have x0 : X.cell? ⟨w.heap.size + 1, 0, none⟩ = some (.int .i64 room) := by rw [← hX]; exact (World.cell?_setCell_other _ _ _ _ (by simp)).trans (World.cell?_setCell_same _ _ _ r06)
      rw [hX]
      refine bodyPost_ret (v := .tuple #[.agg #[.int .i64 room, .slice a6 ((keepB room bs t)).length c6], .int .i64 0]) (by simp [results, Try.results13, go_sem, x0, x1]) rfl ?_
      rw [← hX]
      have hne : (Value.slice a6 ((keepB room bs t)).length c6).ownBlock ≠ some (w.heap.size + 1) := fun e => by have := (HR.out.lt _ e).1; omega
      refine ⟨.slice a6 ((keepB room bs t)).length c6, ?_, ?_, (hB6.setCell (p := ⟨w.heap.size + 1, 0, none⟩) (by show w.heap.size ≤ w.heap.size + 1; omega) _).setCell (p := ⟨w.heap.size + 1, 1, none⟩) (by show w.heap.size ≤ w.heap.size + 1; omega) _⟩
      · rw [HCZ.out]
      · exact own_base ((HR.out.kept (grown_set _ _ _ _) (.inr hne)).kept (grown_set _ _ _ _) (.inr hne)) (by have := hBq.size; omega)
    · have HK : Hid (keepB room bs t = bs) := keep_else hr t hc
      have hdc : (codeOf bs (hashL t) t (room - (takenL bs : Int)) == 0) = false := beq_eq_false_iff_ne.2 hc
      have q0 := r04
      have q1 := r14
      have qf := rf4
      have hBq := hB4
      clear hc
      go_wp2_with fail
      refine (implStoreOf room (w.heap.size + 1 + 1 + 1) bs.length _ bs _ HO4.out hM hr (by omega) (by omega) (by omega)).mono ?_
      rintro e w6 ⟨v, rfl, hrow, hb6⟩
      obtain ⟨_, a6, c6, rfl, _⟩ := own_blobs hrow
      have hs6 := hb6.size
      have hrl : w4.heap.size ≤ w4.heap.size := Nat.le_refl _
      have r06 : w6.cell? ⟨w.heap.size + 1, 0, none⟩ = some (.int .i64 0) := (hb6.cell (p := ⟨w.heap.size + 1, 0, none⟩) (show w.heap.size + 1 < w4.heap.size by omega)).trans q0
      have r16 : w6.cell? ⟨w.heap.size + 1, 1, none⟩ = some (.slice none 0 0) := (hb6.cell (p := ⟨w.heap.size + 1, 1, none⟩) (show w.heap.size + 1 < w4.heap.size by omega)).trans q1
      have f06 : w6.frozen? ⟨w.heap.size + 1, 0, none⟩ = false := (hb6.frozen (p := ⟨w.heap.size + 1, 0, none⟩) (show w.heap.size + 1 < w4.heap.size by omega)).trans (qf 0)
      have f16 : w6.frozen? ⟨w.heap.size + 1, 1, none⟩ = false := (hb6.frozen (p := ⟨w.heap.size + 1, 1, none⟩) (show w.heap.size + 1 < w4.heap.size by omega)).trans (qf 1)
      have hB6 : Below w.heap.size w w6 := hBq.trans (hb6.mono (by have := hBq.size; omega))
      have HR : Hid (w6.ownsRow w4.heap.size 39 2 (.slice a6 (bs).length c6) (bs).length (blobV (bs))) := hrow
      clear hrow hb6 q0 q1 qf
      go_wp2
      obtain ⟨X, hX⟩ : ∃ X, ((w6.setCell ⟨w.heap.size + 1, 0, none⟩ (.int .i64 room)).setCell ⟨w.heap.size + 1, 1, none⟩ (.slice a6 (bs).length c6)) = X := ⟨_, rfl⟩
      have x1 : X.cell? ⟨w.heap.size + 1, 1, none⟩ = some (.slice a6 (bs).length c6) := by rw [← hX]; exact World.cell?_setCell_same _ _ _ ((World.cell?_setCell_other _ _ _ _ (by simp)).trans r16)
      have x0 : X.cell? ⟨w.heap.size + 1, 0, none⟩ = some (.int .i64 room) := by rw [← hX]; exact (World.cell?_setCell_other _ _ _ _ (by simp)).trans (World.cell?_setCell_same _ _ _ r06)
      rw [hX]
      refine bodyPost_ret (v := .tuple #[.agg #[.int .i64 room, .slice a6 (bs).length c6], .int .i64 (codeOf bs (hashL t) t (room - (takenL bs : Int)))]) (by simp [results, Try.results13, go_sem, x0, x1]) rfl ?_
      rw [← hX]
      have hne : (Value.slice a6 (bs).length c6).ownBlock ≠ some (w.heap.size + 1) := fun e => by have := (HR.out.lt _ e).1; omega
      refine ⟨.slice a6 (bs).length c6, ?_, ?_, (hB6.setCell (p := ⟨w.heap.size + 1, 0, none⟩) (by show w.heap.size ≤ w.heap.size + 1; omega) _).setCell (p := ⟨w.heap.size + 1, 1, none⟩) (by show w.heap.size ≤ w.heap.size + 1; omega) _⟩
      · rfl
      · rw [HK.out]; exact own_base ((HR.out.kept (grown_set _ _ _ _) (.inr hne)).kept (grown_set _ _ _ _) (.inr hne)) (by have := hBq.size; omega)
  · obtain ⟨e1, e2⟩ := storeL_no ho
    obtain ⟨k1, k2, k3⟩ := kept_no t ho
    rw [e1, e2] at HC
    rw [k1, k2, k3]
    have HC2 : Hid (_) := HC
    clear HC e1 e2 k1 k2 k3 ho hin
    go_enter Try.func13, Try.ntmps13
    go_wp2_with fail
    refine Calls.mono HC2.out ?_
    rintro e w1 ⟨rfl, D, hown, hM, hb1⟩
    have hz := HZ.out
    have r01 : w1.cell? ⟨w.heap.size + 1, 0, none⟩ = some (.int .i64 0) := (hb1.cell (p := ⟨w.heap.size + 1, 0, none⟩) (show w.heap.size + 1 < W0.heap.size by omega)).trans r0
    have r11 : w1.cell? ⟨w.heap.size + 1, 1, none⟩ = some (.slice none 0 0) := (hb1.cell (p := ⟨w.heap.size + 1, 1, none⟩) (show w.heap.size + 1 < W0.heap.size by omega)).trans r1
    have rf1 : ∀ j, w1.frozen? ⟨w.heap.size + 1, j, none⟩ = false := fun j => (hb1.frozen (p := ⟨w.heap.size + 1, j, none⟩) (show w.heap.size + 1 < W0.heap.size by omega)).trans (rf j)
    have hB1 : Below w.heap.size w w1 := hB0.trans (hb1.mono (by omega))
    have rf10 := rf1 0
    have rf11 := rf1 1
    clear HC2 c0 c1 r0 r1 rf hb1 hz HZ hown hB0 hW0
    go_wp2
    obtain ⟨X, hX⟩ : ∃ X, ((w1.setCell ⟨w.heap.size + 1, 0, none⟩ (.int .i64 0)).setCell ⟨w.heap.size + 1, 1, none⟩ (.slice none 0 0)) = X := ⟨_, rfl⟩
    have x1 : X.cell? ⟨w.heap.size + 1, 1, none⟩ = some (.slice none 0 0) := by rw [← hX]; exact World.cell?_setCell_same _ _ _ ((World.cell?_setCell_other _ _ _ _ (by simp)).trans r11)
    have x0 : X.cell? ⟨w.heap.size + 1, 0, none⟩ = some (.int .i64 0) := by rw [← hX]; exact (World.cell?_setCell_other _ _ _ _ (by simp)).trans (World.cell?_setCell_same _ _ _ r01)
    rw [hX]
    refine bodyPost_ret (v := .tuple #[.agg #[.int .i64 0, .slice none 0 0], .int .i64 3]) (by simp [results, Try.results13, go_sem, x0, x1]) rfl ?_
    rw [← hX]
    exact ⟨.slice none 0 0, rfl, World.ownsRow_nil _ _ _ _, (hB1.setCell (p := ⟨w.heap.size + 1, 0, none⟩) (by show w.heap.size ≤ w.heap.size + 1; omega) _).setCell (p := ⟨w.heap.size + 1, 1, none⟩) (by show w.heap.size ≤ w.heap.size + 1; omega) _⟩

end Go.Proofs.Ytfjpbbacibfnmaa
