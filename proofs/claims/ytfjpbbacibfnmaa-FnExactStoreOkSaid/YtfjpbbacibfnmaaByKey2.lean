/-
  The contract of the landed byKeyOf: a map of the store's blobs by their keys, and how much they take; nothing of a store that is not right.
-/
import Derived.Test.YtfjpbbacibfnmaaByKey
namespace Go.Proofs.Ytfjpbbacibfnmaa
open Go.RowKit Go.Maps

def lastK (bs : List Bl) (k : Nat) : Int := if k = 0 then -1 else (bs.getD (k - 1) (0, [])).1

theorem bad_last {room : Int} {bs : List Bl} {k : Nat} {key : Int} {t : List UInt8} (hk : k < bs.length) (hx : bs.getD k (0, []) = (key, t)) (h : key ≤ lastK bs k) : ¬ okP room bs := by
  intro ho
  have h0 := ho.2 k hk
  unfold okAt at h0
  rw [hx] at h0
  unfold lastK at h
  by_cases e : k = 0
  · rw [if_pos e] at h
    have := hashL_bd t
    have h1 := h0.2.1
    simp at h1
    omega
  · rw [if_neg e] at h
    have := h0.2.2 (by omega)
    simp at this
    omega

theorem bad_room {room : Int} {bs : List Bl} {k : Nat} {key : Int} {t : List UInt8} (hk : k < bs.length) (hx : bs.getD k (0, []) = (key, t)) (h : room < (takenL (bs.take k) : Int) + (t.length : Int)) : ¬ okP room bs := by
  intro ho
  have h1 := ho.1.2.2
  have h2 := takenL_snoc bs k hk
  have h3 := takenL_take bs (k + 1)
  have hg : bs.getD k (0, []) = bs[k] := by simp [List.getD, hk]
  rw [← hg, hx] at h2
  simp at h2
  omega

theorem bad_blob {room : Int} {bs : List Bl} {k : Nat} {key : Int} {t : List UInt8} (hk : k < bs.length) (hx : bs.getD k (0, []) = (key, t)) (h : okBl key t = false) : ¬ okP room bs := by
  intro ho
  have h0 := ho.2 k hk
  unfold okAt at h0
  rw [hx] at h0
  rw [okBl_yes h0.1 h0.2.1] at h
  cases h

theorem ok_step {bs : List Bl} {k : Nat} {key : Int} {t : List UInt8} (hx : bs.getD k (0, []) = (key, t)) (h1 : ¬ key ≤ lastK bs k) (h3 : okBl key t = true) (hp : ∀ j, j < k → okAt bs j) : ∀ j, j < k + 1 → okAt bs j := by
  intro j hj
  by_cases e : j < k
  · exact hp j e
  · obtain rfl : j = k := by omega
    have h4 : t.length ≤ 20000 ∧ hashL t = key := of_decide_eq_true h3
    unfold okAt
    rw [hx]
    refine ⟨h4.1, h4.2, fun h0 => ?_⟩
    unfold lastK at h1
    rw [if_neg (by omega)] at h1
    show (bs.getD (j - 1) (0, [])).1 < key
    omega

theorem last_step {bs : List Bl} {k : Nat} {key : Int} {t : List UInt8} (hx : bs.getD k (0, []) = (key, t)) : lastK bs (k + 1) = key := by
  unfold lastK
  rw [if_neg (by omega), Nat.add_sub_cancel, hx]

theorem take_step {bs : List Bl} {k : Nat} {key : Int} {t : List UInt8} (hk : k < bs.length) (hx : bs.getD k (0, []) = (key, t)) : bs.take (k + 1) = bs.take k ++ [(key, t)] ∧ takenL (bs.take (k + 1)) = takenL (bs.take k) + t.length := by
  have hg : bs.getD k (0, []) = bs[k] := by simp [List.getD, hk]
  have h2 := takenL_snoc bs k hk
  rw [← hg, hx] at h2
  exact ⟨by rw [List.take_succ_eq_append_getElem hk, ← hg, hx], h2⟩

/-- All ahead of a blob that is right so far are below it. -/
theorem below_step {bs : List Bl} {k : Nat} {key : Int} (hk : k ≤ bs.length) (hp : ∀ j, j < k → okAt bs j) (h : ¬ key ≤ lastK bs k) : ∀ x ∈ bs.take k, x.1 < key := by
  have far : ∀ d, d < k → (bs.getD (k - 1 - d) (0, [])).1 < key := by
    intro d
    induction d with
    | zero => intro hd; unfold lastK at h; rw [if_neg (by omega)] at h; rw [Nat.sub_zero]; omega
    | succ d ih =>
      intro hd
      have h1 := ih (by omega)
      have h2 := (hp (k - 1 - d) (by omega)).2.2 (by omega)
      rw [show k - 1 - d - 1 = k - 1 - (d + 1) by omega] at h2
      omega
  intro x hx
  obtain ⟨j, hj, e⟩ := List.getElem_of_mem hx
  have hjk : j < k := by rw [List.length_take] at hj; omega
  have := far (k - 1 - j) (by omega)
  rw [show k - 1 - (k - 1 - j) = j by omega] at this
  have hjl : j < bs.length := by omega
  have hg : bs.getD j (0, []) = x := by rw [← e]; simp [List.getD, hjl]
  rw [hg] at this
  exact this

theorem map_step {D : DataW Unit} {bs : List Bl} {k : Nat} {key : Int} {t : List UInt8} (hM : MapIs D (bs.take k)) (hk : k < bs.length) (hx : bs.getD k (0, []) = (key, t)) (hp : ∀ j, j < k → okAt bs j) (h : ¬ key ≤ lastK bs k) : MapIs (D.put (.int .i64 key) (blobD (key, t))) (bs.take (k + 1)) := by
  have hn := fetch_above _ _ (below_step (Nat.le_of_lt hk) hp h)
  rw [(take_step hk hx).1]
  exact hM.put key t (fun x => ⟨(fetch_snoc _ key t hn x).1, fun _ => (fetch_snoc _ key t hn x).2⟩)

theorem storeL_yes {room : Int} {bs : List Bl} (h : okP room bs) : storeL room bs = bs ∧ takenI room bs = (takenL bs : Int) := by
  unfold storeL takenI
  rw [okB_yes h]
  exact ⟨if_pos rfl, if_pos rfl⟩

theorem storeL_no {room : Int} {bs : List Bl} (h : ¬ okP room bs) : storeL room bs = [] ∧ takenI room bs = -1 := by
  unfold storeL takenI
  rw [okB_no h]
  exact ⟨if_neg (by simp), if_neg (by simp)⟩

theorem key_wf {key : Int} {t : List UInt8} (h : okBl key t = true) : (Lit.int .i64 key).wf = true := by
  have h4 : t.length ≤ 20000 ∧ hashL t = key := of_decide_eq_true h
  have := hashL_bd t
  exact WalkArith.wf_i64 (by omega)

set_option maxHeartbeats 4000000 in
set_option maxRecDepth 100000 in
theorem implByKeyOf (room : Int) (a : Option Addr) (len cap : Nat) (bs : List Bl) (w : World) (hin : BlobsIn w a len cap bs) (hl : takenL bs ≤ 1048576) (hlen : len ≤ 1048576) :
    Calls Try.prog 44 #[.agg #[.int .i64 room, .slice a len cap]] w fun e w' => e = .returned (.tuple #[.map (some (w.heap.size + 1)), .int .i64 (takenI room bs)]) ∧ ∃ D, w'.ownsMap Try.prog 2 blobR (w.heap.size + 1) len D ∧ MapIs D (storeL room bs) ∧ Below w.heap.size w w' := by
  have hlb := hin.1
  have hmm := @run_makeMap Try.prog
  obtain ⟨W0, hW0⟩ : ∃ W0, ((w.alloc (.cells #[.int .i64 room, .slice a len cap] 26)).alloc (.map #[] 0)) = W0 := ⟨_, rfl⟩
  have hB0 : Below w.heap.size w W0 := by rw [← hW0]; exact ((Below.refl _ w).alloc (Nat.le_refl _) _).alloc (by simp) _
  have hsz : W0.heap.size = w.heap.size + 1 + 1 := by rw [← hW0]; simp
  have c0 : W0.cell? ⟨w.heap.size, 0, none⟩ = some (.int .i64 room) := by rw [← hW0]; simp
  have c1 : W0.cell? ⟨w.heap.size, 1, none⟩ = some (.slice a len cap) := by rw [← hW0]; simp
  have HO0 : Hid (W0.ownsMap Try.prog 2 blobR (w.heap.size + 1) 0 (.map [])) := by
    have := World.ownsMap_made (H := Unit) (w.alloc (.cells #[.int .i64 room, .slice a len cap] 26)) Try.prog 2 blobR
    rw [hW0, World.size_alloc] at this
    exact this
  have HI : Hid (BlobsIn W0 a len cap bs) := hin.below hB0
  clear hin
  by_cases hr : 0 ≤ room ∧ room ≤ 100000
  · obtain ⟨hr0, hr1⟩ := hr
    go_enter Try.func44, Try.ntmps44
    go_wp2
    go_loopw [5, 6, 22] (fun tk ls i wr => ∃ k : Nat, k ≤ len ∧ i = .int .i64 k ∧ tk = .int .i64 (takenL (bs.take k) : Nat) ∧ ls = .int .i64 (lastK bs k) ∧ Hid (∀ j, j < k → okAt bs j) ∧ (takenL (bs.take k) : Int) ≤ room ∧ wr.cell? ⟨w.heap.size, 0, none⟩ = some (.int .i64 room) ∧ Hid (BlobsIn wr a len cap bs) ∧ Hid (∃ D, wr.ownsMap Try.prog 2 blobR (w.heap.size + 1) k D ∧ MapIs D (bs.take k)) ∧ w.heap.size + 1 < wr.heap.size ∧ Below w.heap.size w wr) (fun _ _ i _ => len - (Go.RowKit.intOf i).toNat)
    case atStart => exact ⟨0, Nat.zero_le _, rfl, rfl, rfl, (fun j hj => by omega : ∀ j, j < 0 → okAt bs j), (by simpa [takenL] using hr0), c0, HI, (⟨_, HO0.out, MapIs.empty⟩ : ∃ D, W0.ownsMap Try.prog 2 blobR (w.heap.size + 1) 0 D ∧ MapIs D (bs.take 0)), by omega, hB0⟩
    case round =>
      obtain ⟨k, hk, rfl, rfl, rfl, HK, hkr, cr, HB, HM, hlt, hBw⟩ := hrel
      clear c0 c1 HI HO0 hB0 hsz hmm hW0
      by_cases hkl : (k : Int) < (len : Int)
      · obtain ⟨b, off, rfl, hbl, hcells⟩ := HB.out.at (by omega)
        obtain ⟨ck, ct⟩ := hcells k (by omega)
        have hlk := getD_len bs k
        obtain ⟨x, hx⟩ : ∃ x, bs.getD k (0, []) = x := ⟨_, rfl⟩
        rw [hx] at ck ct hlk
        have HX : Hid (bs.getD k (0, []) = x) := hx
        obtain ⟨key, t⟩ := x
        simp only at ck ct hlk
        clear hx hcells
        have hkb : k < bs.length := by omega
        have hst := (take_step hkb HX.out).2
        have hle := takenL_take bs (k + 1)
        have hbd : (takenL (bs.take k) : Int) + (t.length : Int) ≤ 1048576 := by omega
        have HT : Hid (takenL (bs.take (k + 1)) = takenL (bs.take k) + t.length) := hst
        clear hst hle
        obtain ⟨W1, hW1⟩ : ∃ W1, wr.alloc (.cells #[.int .i64 key, .string ⟨t.toArray⟩] 39) = W1 := ⟨_, rfl⟩
        have hs1 : W1.heap.size = wr.heap.size + 1 := by rw [← hW1]; simp
        have d0 : W1.cell? ⟨wr.heap.size, 0, none⟩ = some (.int .i64 key) := by rw [← hW1]; simp
        have d1 : W1.cell? ⟨wr.heap.size, 1, none⟩ = some (.string ⟨t.toArray⟩) := by rw [← hW1]; simp
        have d2 : W1.cell? ⟨w.heap.size, 0, none⟩ = some (.int .i64 room) := by rw [← hW1]; exact (World.cell?_of_block (a := ⟨w.heap.size, 0, none⟩) (Below.heap_alloc _ _ _ (show w.heap.size < wr.heap.size by omega))).trans cr
        have hB1 : Below w.heap.size w W1 := by rw [← hW1]; exact hBw.alloc (by omega) _
        have HB1 : Hid (BlobsIn W1 (some ⟨b, off, none⟩) len cap bs) := by rw [← hW1]; exact HB.out.alloc _
        obtain ⟨D, hown, hM⟩ := HM.out
        have HM1 : Hid (W1.ownsMap Try.prog 2 blobR (w.heap.size + 1) k D) := by rw [← hW1]; exact hown.alloc _
        have HMI : Hid (MapIs D (bs.take k)) := hM
        clear hown hM HM
        generalize hG : lastK bs k = last at *
        have HG : Hid (lastK bs k = last) := hG
        clear hG
        by_cases h1 : key ≤ last
        · have HO : Hid (¬ okP room bs) := bad_last hkb HX.out (by rw [HG.out]; exact h1)
          have hd1 : decide (key ≤ last) = true := decide_eq_true h1
          obtain ⟨W2, hrun, hown2, hg2⟩ := clear_map HM1.out 0
          go_wp2
          go_ret2
          exact ⟨by rw [(storeL_no HO.out).2]; rfl, _, hown2.mono (by omega), by rw [(storeL_no HO.out).1]; exact MapIs.empty, hB1.grown hg2 hB1.size (fun q e => by injection e with e; omega)⟩
        · have hd1 : decide (key ≤ last) = false := decide_eq_false h1
          by_cases h2 : room < (takenL (bs.take k) : Int) + (t.length : Int)
          · have HO : Hid (¬ okP room bs) := bad_room hkb HX.out h2
            have hd2 : decide (room < (takenL (bs.take k) : Int) + (t.length : Int)) = true := decide_eq_true h2
            obtain ⟨W2, hrun, hown2, hg2⟩ := clear_map HM1.out 0
            go_wp2
            go_ret2
            exact ⟨by rw [(storeL_no HO.out).2]; rfl, _, hown2.mono (by omega), by rw [(storeL_no HO.out).1]; exact MapIs.empty, hB1.grown hg2 hB1.size (fun q e => by injection e with e; omega)⟩
          · have hd2 : decide (room < (takenL (bs.take k) : Int) + (t.length : Int)) = false := decide_eq_false h2
            have hG1 : ¬ key ≤ lastK bs k := by rw [HG.out]; exact h1
            have HL1 : Hid (¬ key ≤ lastK bs k) := hG1
            clear hG1
            by_cases h3 : okBl key t = true
            · have HS : Hid (∀ j, j < k + 1 → okAt bs j) := ok_step HX.out HL1.out h3 HK.out
              have HL : Hid (lastK bs (k + 1) = key) := last_step HX.out
              have HMS : Hid (MapIs (D.put (.int .i64 key) (blobD (key, t))) (bs.take (k + 1))) := map_step HMI.out hkb HX.out HK.out HL1.out
              have HW : Hid ((Lit.int .i64 key).wf = true) := key_wf h3
              go_wp2_with fail
              refine (implBlobOk key t _ (by omega)).mono ?_
              rintro e W2 ⟨rfl, hb2⟩
              rw [h3]
              have e0 : W2.cell? ⟨wr.heap.size, 0, none⟩ = some (.int .i64 key) := (hb2.cell (p := ⟨wr.heap.size, 0, none⟩) (show wr.heap.size < W1.heap.size by omega)).trans d0
              have e1 : W2.cell? ⟨wr.heap.size, 1, none⟩ = some (.string ⟨t.toArray⟩) := (hb2.cell (p := ⟨wr.heap.size, 1, none⟩) (show wr.heap.size < W1.heap.size by omega)).trans d1
              have e2 : W2.cell? ⟨w.heap.size, 0, none⟩ = some (.int .i64 room) := (hb2.cell (p := ⟨w.heap.size, 0, none⟩) (show w.heap.size < W1.heap.size by omega)).trans d2
              obtain ⟨W3, hrun, hown3, hg3⟩ := (HM1.out.kept (Below.by hb2) (by simp)).update keyLaw Try.underlying64 (by unfold maxLen; omega) (keyOf_int_mk Try.underlying2 HW.out) (blobR_mk (key, t))
              have f0 : W3.cell? ⟨wr.heap.size, 0, none⟩ = some (.int .i64 key) := (World.cell?_of_block (a := ⟨wr.heap.size, 0, none⟩) (hg3.block wr.heap.size (by have := hb2.size; omega) (by simp; omega))).trans e0
              have f2 : W3.cell? ⟨w.heap.size, 0, none⟩ = some (.int .i64 room) := (World.cell?_of_block (a := ⟨w.heap.size, 0, none⟩) (hg3.block w.heap.size (by have := hb2.size; omega) (by simp))).trans e2
              have hrun' : (Instr.mapUpdate 64 (.map (some (w.heap.size + 1))) (.int .i64 key) (.agg #[.int .i64 key, .string ⟨t.toArray⟩])).run Try.prog W2 = .ok () W3 := hrun
              have hB2 : Below w.heap.size w W2 := hB1.trans (hb2.mono (by omega))
              have hB3 : Below w.heap.size w W3 := hB2.grown hg3 hB2.size (fun q e => by injection e with e; omega)
              have HB3 : Hid (BlobsIn W3 (some ⟨b, off, none⟩) len cap bs) := (HB1.out.below hb2).kept_map (HM1.out.kept (Below.by hb2) (by simp)) hg3
              have hs3 : w.heap.size + 1 < W3.heap.size := by have := hb2.size; have := hg3.size; omega
              clear hrun hg3 hb2
              go_wp2
              go_roundw
              case rel => exact ⟨k + 1, by omega, by go_num, by rw [HT.out]; go_num, by rw [HL.out], HS, by rw [HT.out]; omega, f2, HB3, (⟨_, hown3, HMS.out⟩ : ∃ D, W3.ownsMap Try.prog 2 blobR (w.heap.size + 1) (k + 1) D ∧ MapIs D (bs.take (k + 1))), hs3, hB3⟩
              case measure => simp [Go.RowKit.intOf]; omega
            · have h3' : okBl key t = false := by simpa using h3
              have HO : Hid (¬ okP room bs) := bad_blob hkb HX.out h3'
              go_wp2_with fail
              refine (implBlobOk key t _ (by omega)).mono ?_
              rintro e W2 ⟨rfl, hb2⟩
              rw [h3']
              have hB2 : Below w.heap.size w W2 := hB1.trans (hb2.mono (by omega))
              obtain ⟨W3, hrun, hown2, hg2⟩ := clear_map (HM1.out.kept (Below.by hb2) (by simp)) 0
              go_wp2
              go_ret2
              exact ⟨by rw [(storeL_no HO.out).2]; rfl, _, hown2.mono (by omega), by rw [(storeL_no HO.out).1]; exact MapIs.empty, hB2.grown hg2 hB2.size (fun q e => by injection e with e; omega)⟩
      · obtain rfl : k = len := by omega
        have HT : Hid (bs.take k = bs) := List.take_of_length_le (by omega)
        have HO : Hid (okP room bs) := ⟨⟨hr0, hr1, by rw [HT.out] at hkr; exact hkr⟩, fun i hi => HK.out i (by omega)⟩
        obtain ⟨D, hown, hM⟩ := HM.out
        rw [HT.out] at hM
        go_wp2
        go_ret2
        exact ⟨by rw [(storeL_yes HO.out).2, HT.out]; rfl, D, hown, by rw [(storeL_yes HO.out).1]; exact hM, hBw⟩
  · have HO : Hid (¬ okP room bs) := fun h => hr ⟨h.1.1, h.1.2.1⟩
    rcases (show room < 0 ∨ ¬ room < 0 ∧ 100000 < room by omega) with h1 | ⟨h0, h1⟩
    · have hd1 : decide (room < 0) = true := decide_eq_true h1
      go_enter Try.func44, Try.ntmps44
      go_wp2
      go_ret2
      exact ⟨by rw [(storeL_no HO.out).2]; rfl, _, HO0.out.mono (by omega), by rw [(storeL_no HO.out).1]; exact MapIs.empty, hB0⟩
    · have hd0 : decide (room < 0) = false := decide_eq_false h0
      have hd1 : decide (100000 < room) = true := decide_eq_true h1
      go_enter Try.func44, Try.ntmps44
      go_wp2
      go_ret2
      exact ⟨by rw [(storeL_no HO.out).2]; rfl, _, HO0.out.mono (by omega), by rw [(storeL_no HO.out).1]; exact MapIs.empty, hB0⟩

end Go.Proofs.Ytfjpbbacibfnmaa
