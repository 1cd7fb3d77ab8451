/-
  The contracts of chapter 3's specification: a text is kept in a store of the call's own.
-/
import Derived.Test.YtfjpbbacibfnmaaStoreS3
namespace Go.Proofs.Ytfjpbbacibfnmaa
open Go.RowKit

theorem blobV_take (bs : List Bl) (k : Nat) : (blobV bs).take (k * 2) = blobV (bs.take k) := by
  induction bs generalizing k with
  | nil => simp [blobV]
  | cons b r ih =>
    cases k with
    | zero => simp [blobV]
    | succ k => rw [show (k + 1) * 2 = k * 2 + 1 + 1 by omega]; simp [blobV, ih]

theorem blobV_drop (bs : List Bl) (k : Nat) : (blobV bs).drop (k * 2) = blobV (bs.drop k) := by
  induction bs generalizing k with
  | nil => simp [blobV]
  | cons b r ih =>
    cases k with
    | zero => simp [blobV]
    | succ k => rw [show (k + 1) * 2 = k * 2 + 1 + 1 by omega]; simp [blobV, ih]

theorem own_caps {w : World} {base e size g n cp : Nat} {xs : List Value} (h : w.ownsRow base e size (.slice (some ⟨g, 0, none⟩) n cp) n xs) : n ≤ cp ∧ cp ≤ maxLen := by
  rcases h.2 with ⟨h', _⟩ | ⟨g', cap', cur, h', hb, hg, hnc, hcm, hcs, htake⟩
  · simp at h'
  · simp only [Value.slice.injEq, Option.some.injEq, Addr.mk.injEq, and_true, true_and] at h'
    obtain ⟨rfl, rfl⟩ := h'
    exact ⟨hnc, hcm⟩

theorem add_none (b off i : Nat) : (⟨b, off, none⟩ : Addr).add i = ⟨b, off + i, none⟩ := by unfold Addr.add; split <;> simp_all

/-- The front of a row of blobs, as 'append' reads it. -/
theorem own_front {w : World} {base g n cp : Nat} {bs : List Bl} (h : w.ownsRow base 39 2 (.slice (some ⟨g, 0, none⟩) n cp) n (blobV bs)) (k : Nat) (hk : k ≤ n) (c : Nat) :
    Src w (.slice (some ⟨g, 0, none⟩) k c) k 2 (blobV (bs.take k)) := by
  have hl : bs.length = n := (own_blobs h).1
  refine ⟨by rw [blobV_len, List.length_take]; omega, blobV_one _, Or.inr ⟨_, c, rfl, fun j u hu => ?_⟩⟩
  rw [← blobV_take] at hu
  have hj : j < k * 2 := by
    rcases Nat.lt_or_ge j (k * 2) with h' | h'
    · exact h'
    · rw [List.getElem?_eq_none (by rw [List.length_take]; omega)] at hu; cases hu
  rw [List.getElem?_take_of_lt hj] at hu
  rw [add_none, Nat.zero_add, h.cellAt j (by omega), hu]

/-- The rest of a row of blobs, as 'append' reads it. -/
theorem own_rest {w : World} {base g n cp : Nat} {bs : List Bl} (h : w.ownsRow base 39 2 (.slice (some ⟨g, 0, none⟩) n cp) n (blobV bs)) (k : Nat) (hk : k ≤ n) (c : Nat) :
    Src w (.slice (some ⟨g, k * 2, none⟩) (n - k) c) (n - k) 2 (blobV (bs.drop k)) := by
  have hl : bs.length = n := (own_blobs h).1
  refine ⟨by rw [blobV_len, List.length_drop]; omega, blobV_one _, Or.inr ⟨_, c, rfl, fun j u hu => ?_⟩⟩
  rw [← blobV_drop, List.getElem?_drop] at hu
  have hj : k * 2 + j < n * 2 := by
    rcases Nat.lt_or_ge (k * 2 + j) (n * 2) with h' | h'
    · exact h'
    · rw [List.getElem?_eq_none (by rw [blobV_len]; omega)] at hu; cases hu
  rw [add_none, h.cellAt (k * 2 + j) hj, hu]

/-- The same where the row is cut at its end: the model then gives the row's own address. -/
theorem own_restI {w : World} {base g n cp : Nat} {bs : List Bl} (h : w.ownsRow base 39 2 (.slice (some ⟨g, 0, none⟩) n cp) n (blobV bs)) (k : Nat) (hk : k ≤ n) (c : Nat) :
    Src w (.slice (if cp = k then some ⟨g, 0, none⟩ else some ⟨g, k * 2, none⟩) (n - k) c) (n - k) 2 (blobV (bs.drop k)) := by
  by_cases hc : cp = k
  · rw [if_pos hc]
    have hl : bs.length = n := (own_blobs h).1
    have hcp := (own_caps h).1
    have hd : bs.drop k = [] := List.drop_eq_nil_of_le (by omega)
    rw [hd]
    refine ⟨by simp [blobV]; omega, blobV_one _, Or.inr ⟨_, c, rfl, fun j u hu => by simp [blobV] at hu⟩⟩
  · rw [if_neg hc]
    exact own_rest h k hk c

/-- A row that the call owns, whole, as 'append' reads it. -/
theorem own_whole {w : World} {base n : Nat} {v : Value} {bs : List Bl} (h : w.ownsRow base 39 2 v n (blobV bs)) : Src w v n 2 (blobV bs) := by
  obtain ⟨_, a, cap, rfl, hin⟩ := own_blobs h
  exact hin.src

theorem wrap_sum (m n : Nat) (h : (m : Int) + (n : Int) ≤ 2097152) : IntKind.i64.wrap ((m : Int) + (n : Int)) = (m : Int) + (n : Int) := by
  rw [IntKind.wrap_i64]
  omega

theorem cell_al {w : World} {a : Addr} {v : Value} (o : Obj) (h : w.cell? a = some v) : (w.alloc o).cell? a = some v :=
  (World.cell?_of_block (Below.heap_alloc _ _ _ (World.block_lt_of_cell? w a h))).trans h

/-- A new block of one blob, as 'append' reads it. -/
theorem new_blob (w : World) (key : Int) (t : List UInt8) (c : Nat) : Src (w.alloc (.cells #[.int .i64 key, .string ⟨t.toArray⟩] 39)) (.slice (some ⟨w.heap.size, 0, none⟩) 1 c) 1 2 (blobV [(key, t)]) := by
  refine ⟨rfl, blobV_one _, Or.inr ⟨_, c, rfl, fun j u hu => ?_⟩⟩
  rw [add_none, Nat.zero_add]
  match j, hu with
  | 0, hu => simp [blobV] at hu; subst hu; simp
  | 1, hu => simp [blobV] at hu; subst hu; simp
  | j + 2, hu => simp [blobV] at hu

/-- What a kept text leaves: the room stays, the blobs are a row of the call's own, and of what was there nothing but the store's own block is written. -/
def KeepPost (w w' : World) (B base : Nat) (room : Int) (bs : List Bl) : Prop :=
  w'.cell? ⟨B, 0, none⟩ = some (.int .i64 room) ∧ (∃ v', w'.cell? ⟨B, 1, none⟩ = some v' ∧ w'.ownsRow base 39 2 v' bs.length (blobV bs) ∧ v'.ownBlock ≠ some B) ∧ (∀ j, w'.frozen? ⟨B, j, none⟩ = false) ∧ w.grownBy w' (some B)

theorem keepPost_same {w w' : World} {B base len : Nat} {room : Int} {bs : List Bl} {v : Value} (c0 : w.cell? ⟨B, 0, none⟩ = some (.int .i64 room)) (c1 : w.cell? ⟨B, 1, none⟩ = some v) (f1 : ∀ j, w.frozen? ⟨B, j, none⟩ = false)
    (hown : w.ownsRow base 39 2 v len (blobV bs)) (hgB : v.ownBlock ≠ some B) (hb : Below w.heap.size w w') : KeepPost w w' B base room bs := by
  have hlt : B < w.heap.size := World.block_lt_of_cell? w ⟨B, 0, none⟩ c0
  have hl := (own_blobs hown).1
  refine ⟨(hb.cell (p := ⟨B, 0, none⟩) hlt).trans c0, ⟨v, (hb.cell (p := ⟨B, 1, none⟩) hlt).trans c1, by rw [hl]; exact own_below hown hb, hgB⟩, fun j => (World.frozen?_of_block (a := ⟨B, j, none⟩) (hb.block B hlt)).trans (f1 j), ⟨hb.os, hb.tape, hb.output, hb.size, fun k hk _ => hb.block k hk⟩⟩

theorem keepPost_new {w w8 : World} {B base b2 g n cF : Nat} {room : Int} {bs : List Bl} {v0 : Value} (c0 : w8.cell? ⟨B, 0, none⟩ = some (.int .i64 room)) (c1 : w8.cell? ⟨B, 1, none⟩ = some v0) (f1 : ∀ j, w8.frozen? ⟨B, j, none⟩ = false)
    (hown : w8.ownsRow b2 39 2 (.slice (some ⟨g, 0, none⟩) n cF) n (blobV bs)) (hb2 : base ≤ b2) (hgB : B < g) (hB : Below w.heap.size w w8) : KeepPost w (w8.setCell ⟨B, 1, none⟩ (.slice (some ⟨g, 0, none⟩) n cF)) B base room bs := by
  have hl := (own_blobs hown).1
  refine ⟨(World.cell?_setCell_other _ _ _ _ (by simp)).trans c0, ⟨_, World.cell?_setCell_same _ _ _ c1, ?_, by simp [Value.ownBlock]; omega⟩, fun j => by rw [World.frozen?_setCell]; exact f1 j, ?_⟩
  · rw [hl]
    exact own_base (hown.kept (grown_set _ _ _ _) (.inr (by simp [Value.ownBlock]; omega))) hb2
  · exact (⟨hB.os, hB.tape, hB.output, hB.size, fun k hk _ => hB.block k hk⟩ : w.grownBy w8 (some B)).trans (grown_set _ _ _ _)

set_option maxHeartbeats 8000000 in
set_option maxRecDepth 100000 in
theorem specKeepSome (B base g len cp : Nat) (room : Int) (bs : List Bl) (t : List UInt8) (w : World) (c0 : w.cell? ⟨B, 0, none⟩ = some (.int .i64 room)) (c1 : w.cell? ⟨B, 1, none⟩ = some (.slice (some ⟨g, 0, none⟩) len cp)) (f1 : ∀ j, w.frozen? ⟨B, j, none⟩ = false)
    (hown : w.ownsRow base 39 2 (.slice (some ⟨g, 0, none⟩) len cp) len (blobV bs)) (hgB : g ≠ B) (hbase : base ≤ w.heap.size) (hl : takenL bs ≤ 1048576) (hlen : len ≤ 1048576) (ht : t.length ≤ 1048576) :
    Calls Try.prog 53 #[.pointer (some ⟨B, 0, none⟩), .string ⟨t.toArray⟩] w fun e w' => e = .returned (.int .i64 (keepC room bs t)) ∧ KeepPost w w' B base room (keepB room bs t) := by
  obtain ⟨i0, hi, hz0, hz1, hz2⟩ := info_parts infoBlob
  obtain ⟨hbl, a', cap', e', hin⟩ := own_blobs hown
  simp only [Value.slice.injEq, true_and] at e'
  obtain ⟨rfl, rfl⟩ := e'
  have HI : Hid (BlobsIn w (some ⟨g, 0, none⟩) len cp bs) := hin
  have HOW : Hid (w.ownsRow base 39 2 (.slice (some ⟨g, 0, none⟩) len cp) len (blobV bs)) := hown
  have hcp := (own_caps hown).1
  have hcp2 := (own_caps hown).2
  unfold maxLen at hcp2
  have hkb := hashL_bd t
  obtain ⟨key, hkey⟩ : ∃ key, hashL t = key := ⟨_, rfl⟩
  have HK : Hid (hashL t = key) := hkey
  rw [hkey] at hkb
  clear hkey hin hown
  go_enter Try.func53, Try.ntmps53
  go_wp2_with fail
  refine (specHashX t _ ht).mono ?_
  rintro e w0 ⟨rfl, rfl⟩
  rw [HK.out]
  go_wp2
  go_loop [6] (fun i => ∃ k : Nat, k ≤ len ∧ i = .int .i64 k ∧ Hid (∀ j, j < k → (bs.getD j (0, [])).1 < key)) (fun i => len - (intOf i).toNat)
  case atStart => exact ⟨0, Nat.zero_le _, rfl, (fun j hj => by omega : ∀ j, j < 0 → (bs.getD j (0, [])).1 < key)⟩
  case round =>
    obtain ⟨k, hk, rfl, HJ⟩ := hrel
    by_cases hkl : (k : Int) < (len : Int)
    · obtain ⟨b, off, e1, hbb, hcells⟩ := HI.out.at (by omega)
      simp only [Option.some.injEq, Addr.mk.injEq, and_true] at e1
      obtain ⟨rfl, rfl⟩ := e1
      obtain ⟨ck, ct⟩ := hcells k (by omega)
      obtain ⟨x, hx⟩ : ∃ x, bs.getD k (0, []) = x := ⟨_, rfl⟩
      rw [hx, Nat.zero_add] at ck ct
      have HX : Hid (bs.getD k (0, []) = x) := hx
      obtain ⟨y, u⟩ := x
      simp only at ck ct
      clear hx hcells
      by_cases hy : y < key
      · have HS : Hid (∀ j, j < k + 1 → (bs.getD j (0, [])).1 < key) := by
          intro j hj
          by_cases hj2 : j < k
          · exact HJ.out j hj2
          · obtain rfl : j = k := by omega
            rw [HX.out]; exact hy
        go_wp2
        go_round
        case rel => exact ⟨k + 1, by omega, by go_num, HS⟩
        case measure => simp [intOf]; omega
      · have HP : Hid (placeL (hashL t) bs = k) := by
          rw [HK.out]
          exact placeL_eq key bs k (by omega) HJ.out (fun _ => by rw [HX.out]; exact hy)
        have hyd : decide (y < key) = false := decide_eq_false hy
        by_cases he : y = key
        · subst he
          by_cases hu : u = t
          · have HC : Hid (keepB room bs t = bs ∧ keepC room bs t = 0) := by
              have := keep_there room bs t u y k HK.out HP.out (by omega) HX.out
              rw [if_pos hu] at this
              exact this
            subst hu
            go_wp2
            go_ret
            exact ⟨by rw [HC.out.2]; rfl, by rw [HC.out.1]; exact keepPost_same c0 c1 f1 HOW.out (by simp [Value.ownBlock]; exact hgB) (Below.refl _ _)⟩
          · have HC : Hid (keepB room bs t = bs ∧ keepC room bs t = 1) := by
              have := keep_there room bs t u y k HK.out HP.out (by omega) HX.out
              rw [if_neg hu] at this
              exact this
            have hud : (u == t) = false := beq_eq_false_iff_ne.2 hu
            go_wp2
            go_ret
            exact ⟨by rw [HC.out.2]; rfl, by rw [HC.out.1]; exact keepPost_same c0 c1 f1 HOW.out (by simp [Value.ownBlock]; exact hgB) (Below.refl _ _)⟩
        · have hed : (y == key) = false := beq_eq_false_iff_ne.2 he
          have HN : Hid (k < bs.length → (bs.getD k (0, [])).1 ≠ hashL t) := fun _ => by rw [HX.out, HK.out]; exact he
          by_cases h20 : 20000 < (t.length : Int)
          · have HC : Hid (keepB room bs t = bs ∧ keepC room bs t = 2) := keep_full room bs t k HP.out HN.out (Or.inl (by omega))
            have hd1 : decide (20000 < (t.length : Int)) = true := decide_eq_true h20
            go_wp2
            go_quiet (fail)
            go_wp2
            go_ret
            exact ⟨by rw [HC.out.2]; rfl, by rw [HC.out.1]; exact keepPost_same c0 c1 f1 HOW.out (by simp [Value.ownBlock]; exact hgB) (below_drewN _ _ _)⟩
          · have hd1 : decide (20000 < (t.length : Int)) = false := decide_eq_false h20
            have hBlt : B < w0.heap.size := World.block_lt_of_cell? w0 ⟨B, 0, none⟩ c0
            have HI2 : Hid (BlobsIn w0.drew (some ⟨g, 0, none⟩) len cp bs) := HI.out
            have hsum : (takenL bs : Int) + (t.length : Int) ≤ 2097152 := by omega
            by_cases hfu : room < (takenL bs : Int) + (t.length : Int)
            · have HC : Hid (keepB room bs t = bs ∧ keepC room bs t = 2) := keep_full room bs t k HP.out HN.out (Or.inr hfu)
              have hd2 : decide (room < IntKind.i64.wrap ((takenL bs : Int) + (t.length : Int))) = true := decide_eq_true (by rw [wrap_sum _ _ hsum]; exact hfu)
              go_wp2
              go_region_held3 (fun w' => w'.cell? ⟨B, 0, none⟩ = some (.int .i64 room) ∧ w'.cell? ⟨B, 1, none⟩ = some (.slice (some ⟨g, 0, none⟩) len cp)) (go_keep) (first | (go_at_call 55; refine (specL3Taken room (some ⟨g, 0, none⟩) len cp bs _ HI2.out (by omega) (by omega)).mono ?_; rintro e w1 ⟨rfl, hb1⟩; have hc0 : w1.cell? ⟨B, 0, none⟩ = some (.int .i64 room) := (hb1.cell (p := ⟨B, 0, none⟩) hBlt).trans c0; have hc1 : w1.cell? ⟨B, 1, none⟩ = some (.slice (some ⟨g, 0, none⟩) len cp) := (hb1.cell (p := ⟨B, 1, none⟩) hBlt).trans c1))
              all_goals go_wp2
              go_ret
              exact ⟨by rw [HC.out.2]; rfl, by rw [HC.out.1]; exact keepPost_same c0 c1 f1 HOW.out (by simp [Value.ownBlock]; exact hgB) ⟨hb1.os, hb1.tape, hb1.output, hb1.size, hb1.block⟩⟩
            · have HC : Hid (keepB room bs t = bs.take k ++ [(hashL t, t)] ++ bs.drop k ∧ keepC room bs t = 0) := keep_new room bs t k HP.out HN.out (by omega)
              have hd2 : decide (room < IntKind.i64.wrap ((takenL bs : Int) + (t.length : Int))) = false := decide_eq_false (by rw [wrap_sum _ _ hsum]; exact hfu)
              go_wp2
              go_region_held3 (fun w' => w'.cell? ⟨B, 0, none⟩ = some (.int .i64 room) ∧ w'.cell? ⟨B, 1, none⟩ = some (.slice (some ⟨g, 0, none⟩) len cp)) (go_keep) (first | (go_at_call 55; refine (specL3Taken room (some ⟨g, 0, none⟩) len cp bs _ HI2.out (by omega) (by omega)).mono ?_; rintro e w1 ⟨rfl, hb1⟩; have hc0 : w1.cell? ⟨B, 0, none⟩ = some (.int .i64 room) := (hb1.cell (p := ⟨B, 0, none⟩) hBlt).trans c0; have hc1 : w1.cell? ⟨B, 1, none⟩ = some (.slice (some ⟨g, 0, none⟩) len cp) := (hb1.cell (p := ⟨B, 1, none⟩) hBlt).trans c1))
              have hB1 : Below w0.heap.size w0 w1 := ⟨hb1.os, hb1.tape, hb1.output, hb1.size, hb1.block⟩
              have hs1 : w0.heap.size ≤ w1.heap.size := hb1.size
              have hc1a := cell_al (.cells #[] 39) hc1
              obtain ⟨vR, w3, hrR, hoR, hgR, hnR⟩ := run_append_src (P := Try.prog) (w1.alloc (.cells #[] 39)) w1.heap.size 24 24 39 i0 _ 2 24 Try.underlying24 hi hz0 hz1 hz2 rfl (by decide) _ _ _
                (World.ownsRow_lit (base := w1.heap.size) (e := 39) (size := 2) w1 #[] 0 (Nat.le_refl _) (by decide) rfl) (.slice (some ⟨g, k * 2, none⟩) (len - k) (cp - k)) (len - k) (blobV (bs.drop k)) (own_rest ((own_below HOW.out hB1).alloc _) k (by omega) _) (by unfold maxLen; omega) (by omega) (by simp)
              obtain ⟨gR, cR, rfl⟩ := own_shape hoR (fun e => by cases hnR e)
              simp only [Nat.zero_add, List.nil_append] at hoR hrR
              clear hnR
              have hB3 : Below w0.heap.size w0 w3 := (hB1.alloc hB1.size _).grown hgR (by simp; omega) (fun q e => by simp [Value.ownBlock] at e; omega)
              have hs3 : w1.heap.size + 1 ≤ w3.heap.size := by have := hgR.size; rw [World.size_alloc] at this; exact this
              have hgR2 := (hoR.lt gR rfl).2
              have HOR : Hid (w3.ownsRow w1.heap.size 39 2 (.slice (some ⟨gR, 0, none⟩) (len - k) cR) (len - k) (blobV (bs.drop k))) := hoR
              clear hoR hgR hb1 hc0
              clear hB1
              have c13 := (hB3.cell (p := ⟨B, 1, none⟩) hBlt).trans c1
              have c13a := cell_al (.cells #[] 39) c13
              obtain ⟨vT, w5, hrT, hoT, hgT, hnT⟩ := run_append_src (P := Try.prog) (w3.alloc (.cells #[] 39)) w3.heap.size 24 24 39 i0 _ 2 24 Try.underlying24 hi hz0 hz1 hz2 rfl (by decide) _ _ _
                (World.ownsRow_lit (base := w3.heap.size) (e := 39) (size := 2) w3 #[] 0 (Nat.le_refl _) (by decide) rfl) (.slice (some ⟨g, 0, none⟩) k cp) k (blobV (bs.take k)) (own_front ((own_below HOW.out hB3).alloc _) k (by omega) _) (by unfold maxLen; omega) (by omega) (by simp)
              obtain ⟨gT, cT, rfl⟩ := own_shape hoT (fun e => by cases hnT e)
              simp only [Nat.zero_add, List.nil_append] at hoT hrT
              clear hnT
              have hB5 : Below w0.heap.size w0 w5 := (hB3.alloc hB3.size _).grown hgT (by simp; omega) (fun q e => by simp [Value.ownBlock] at e; omega)
              have hs5 : w3.heap.size + 1 ≤ w5.heap.size := by have := hgT.size; rw [World.size_alloc] at this; exact this
              have HOR5 : Hid (w5.ownsRow w1.heap.size 39 2 (.slice (some ⟨gR, 0, none⟩) (len - k) cR) (len - k) (blobV (bs.drop k))) := (HOR.out.alloc _).kept hgT (.inr (by simp [Value.ownBlock]; omega))
              have hgT1 := (hoT.lt gT rfl).1
              have HOT : Hid (w5.ownsRow w3.heap.size 39 2 (.slice (some ⟨gT, 0, none⟩) k cT) k (blobV (bs.take k))) := hoT
              clear hoT hgT HOR
              clear hB3
              obtain ⟨vN, w7, hrN, hoN, hgN, hnN⟩ := run_append_src (P := Try.prog) (w5.alloc (.cells #[.int .i64 key, .string ⟨t.toArray⟩] 39)) w3.heap.size 24 24 39 i0 _ 2 24 Try.underlying24 hi hz0 hz1 hz2 rfl (by decide) _ _ _
                (HOT.out.alloc _) (.slice (some ⟨w5.heap.size, 0, none⟩) 1 1) 1 (blobV [(key, t)]) (new_blob _ _ _ _) (by unfold maxLen; omega) (by omega) (by simp; omega)
              obtain ⟨gN, cN, rfl⟩ := own_shape hoN (fun e => by cases hnN e)
              rw [← blobV_append] at hoN
              clear hnN
              have hB7 : Below w0.heap.size w0 w7 := (hB5.alloc hB5.size _).grown hgN (by simp; omega) (fun q e => by have := (HOT.out.lt q e).1; omega)
              have hs7 : w5.heap.size + 1 ≤ w7.heap.size := by have := hgN.size; rw [World.size_alloc] at this; exact this
              have HOR7 : Hid (w7.ownsRow w1.heap.size 39 2 (.slice (some ⟨gR, 0, none⟩) (len - k) cR) (len - k) (blobV (bs.drop k))) := (HOR5.out.alloc _).kept hgN (.inr (by simp [Value.ownBlock]; omega))
              have HON : Hid (w7.ownsRow w3.heap.size 39 2 (.slice (some ⟨gN, 0, none⟩) (k + 1) cN) (k + 1) (blobV (bs.take k ++ [(key, t)]))) := hoN
              clear hoN hgN HOR5 HOT
              clear hB5
              obtain ⟨vF, w8, hrF, hoF, hgF, hnF⟩ := run_append_src (P := Try.prog) w7 w3.heap.size 24 24 39 i0 _ 2 24 Try.underlying24 hi hz0 hz1 hz2 rfl (by decide) _ _ _
                HON.out (.slice (some ⟨gR, 0, none⟩) (len - k) cR) (len - k) (blobV (bs.drop k)) (own_whole HOR7.out) (by unfold maxLen; omega) (by omega) (by omega)
              obtain ⟨gF, cF, rfl⟩ := own_shape hoF (fun e => by cases hnF e)
              rw [← blobV_append] at hoF
              clear hnF
              have hB8 : Below w0.heap.size w0 w8 := hB7.grown hgF hB7.size (fun q e => by have := (HON.out.lt q e).1; omega)
              have hs8 : w7.heap.size ≤ w8.heap.size := hgF.size
              have hgF1 := (hoF.lt gF rfl).1
              have HOF : Hid (w8.ownsRow w3.heap.size 39 2 (.slice (some ⟨gF, 0, none⟩) (k + 1 + (len - k)) cF) (k + 1 + (len - k)) (blobV (bs.take k ++ [(key, t)] ++ bs.drop k))) := hoF
              have c08 := (hB8.cell (p := ⟨B, 0, none⟩) hBlt).trans c0
              have c18 := (hB8.cell (p := ⟨B, 1, none⟩) hBlt).trans c1
              have f18 : ∀ j, w8.frozen? ⟨B, j, none⟩ = false := fun j => (World.frozen?_of_block (a := ⟨B, j, none⟩) (hB8.block B hBlt)).trans (f1 j)
              clear hoF hgF HON HOR7 hB7
              go_wp2_with (at_builtin; first | (refine wpList_append_run rfl (.tmp 77) (.tmp 83) 24 rfl _ _ _ rfl rfl hrR ?_; clear hrR hc1a hc1) | (refine wpList_append_run rfl (.tmp 86) (.tmp 92) 24 rfl _ _ _ rfl rfl hrT ?_; clear hrT c13a c13) | (refine wpList_append_run rfl (.tmp 93) (.tmp 97) 24 rfl _ _ _ rfl rfl hrN ?_; clear hrN) | (refine wpList_append_run rfl (.tmp 98) (.tmp 99) 24 rfl _ _ _ rfl rfl hrF ?_; clear hrF))
              all_goals go_ret
              all_goals exact ⟨by rw [HC.out.2]; rfl, by rw [HC.out.1, HK.out]; exact keepPost_new c08 c18 f18 HOF.out (by omega) (by omega) hB8⟩
    · have hkd : decide ((k : Int) < (len : Int)) = false := decide_eq_false hkl
      have hkc : (k : Int) ≤ (cp : Int) := by omega
      have hkc0 : (0 : Int) ≤ (k : Int) := by omega
      have hklen : (k : Int) ≤ (len : Int) := by omega
      have HP : Hid (placeL (hashL t) bs = k) := by
        rw [HK.out]
        exact placeL_eq key bs k (by omega) HJ.out (fun h => by omega)
      have HN : Hid (k < bs.length → (bs.getD k (0, [])).1 ≠ hashL t) := fun h => by omega
      by_cases h20 : 20000 < (t.length : Int)
      · have HC : Hid (keepB room bs t = bs ∧ keepC room bs t = 2) := keep_full room bs t k HP.out HN.out (Or.inl (by omega))
        have hd1 : decide (20000 < (t.length : Int)) = true := decide_eq_true h20
        go_wp2
        go_quiet (fail)
        go_wp2
        go_ret
        exact ⟨by rw [HC.out.2]; rfl, by rw [HC.out.1]; exact keepPost_same c0 c1 f1 HOW.out (by simp [Value.ownBlock]; exact hgB) (below_drewN _ _ _)⟩
      · have hd1 : decide (20000 < (t.length : Int)) = false := decide_eq_false h20
        have hBlt : B < w0.heap.size := World.block_lt_of_cell? w0 ⟨B, 0, none⟩ c0
        have HI2 : Hid (BlobsIn w0.drew (some ⟨g, 0, none⟩) len cp bs) := HI.out
        have hsum : (takenL bs : Int) + (t.length : Int) ≤ 2097152 := by omega
        by_cases hfu : room < (takenL bs : Int) + (t.length : Int)
        · have HC : Hid (keepB room bs t = bs ∧ keepC room bs t = 2) := keep_full room bs t k HP.out HN.out (Or.inr hfu)
          have hd2 : decide (room < IntKind.i64.wrap ((takenL bs : Int) + (t.length : Int))) = true := decide_eq_true (by rw [wrap_sum _ _ hsum]; exact hfu)
          go_wp2
          clear hkl hkd
          go_region_held3 (fun w' => w'.cell? ⟨B, 0, none⟩ = some (.int .i64 room) ∧ w'.cell? ⟨B, 1, none⟩ = some (.slice (some ⟨g, 0, none⟩) len cp)) (go_keep) (first | (go_at_call 55; refine (specL3Taken room (some ⟨g, 0, none⟩) len cp bs _ HI2.out (by omega) (by omega)).mono ?_; rintro e w1 ⟨rfl, hb1⟩; have hc0 : w1.cell? ⟨B, 0, none⟩ = some (.int .i64 room) := (hb1.cell (p := ⟨B, 0, none⟩) hBlt).trans c0; have hc1 : w1.cell? ⟨B, 1, none⟩ = some (.slice (some ⟨g, 0, none⟩) len cp) := (hb1.cell (p := ⟨B, 1, none⟩) hBlt).trans c1))
          all_goals go_wp2
          go_ret
          exact ⟨by rw [HC.out.2]; rfl, by rw [HC.out.1]; exact keepPost_same c0 c1 f1 HOW.out (by simp [Value.ownBlock]; exact hgB) ⟨hb1.os, hb1.tape, hb1.output, hb1.size, hb1.block⟩⟩
        · have HC : Hid (keepB room bs t = bs.take k ++ [(hashL t, t)] ++ bs.drop k ∧ keepC room bs t = 0) := keep_new room bs t k HP.out HN.out (by omega)
          have hd2 : decide (room < IntKind.i64.wrap ((takenL bs : Int) + (t.length : Int))) = false := decide_eq_false (by rw [wrap_sum _ _ hsum]; exact hfu)
          go_wp2
          clear hkl hkd
          go_region_held3 (fun w' => w'.cell? ⟨B, 0, none⟩ = some (.int .i64 room) ∧ w'.cell? ⟨B, 1, none⟩ = some (.slice (some ⟨g, 0, none⟩) len cp)) (go_keep) (first | (go_at_call 55; refine (specL3Taken room (some ⟨g, 0, none⟩) len cp bs _ HI2.out (by omega) (by omega)).mono ?_; rintro e w1 ⟨rfl, hb1⟩; have hc0 : w1.cell? ⟨B, 0, none⟩ = some (.int .i64 room) := (hb1.cell (p := ⟨B, 0, none⟩) hBlt).trans c0; have hc1 : w1.cell? ⟨B, 1, none⟩ = some (.slice (some ⟨g, 0, none⟩) len cp) := (hb1.cell (p := ⟨B, 1, none⟩) hBlt).trans c1))
          have hB1 : Below w0.heap.size w0 w1 := ⟨hb1.os, hb1.tape, hb1.output, hb1.size, hb1.block⟩
          have hs1 : w0.heap.size ≤ w1.heap.size := hb1.size
          have hc1a := cell_al (.cells #[] 39) hc1
          obtain ⟨vR, w3, hrR, hoR, hgR, hnR⟩ := run_append_src (P := Try.prog) (w1.alloc (.cells #[] 39)) w1.heap.size 24 24 39 i0 _ 2 24 Try.underlying24 hi hz0 hz1 hz2 rfl (by decide) _ _ _
            (World.ownsRow_lit (base := w1.heap.size) (e := 39) (size := 2) w1 #[] 0 (Nat.le_refl _) (by decide) rfl) (.slice (if cp = k then some ⟨g, 0, none⟩ else some ⟨g, k * 2, none⟩) (len - k) (cp - k)) (len - k) (blobV (bs.drop k)) (own_restI ((own_below HOW.out hB1).alloc _) k (by omega) _) (by unfold maxLen; omega) (by omega) (by simp)
          obtain ⟨gR, cR, rfl⟩ := own_shape hoR (fun e => by cases hnR e)
          simp only [Nat.zero_add, List.nil_append] at hoR hrR
          clear hnR
          have hB3 : Below w0.heap.size w0 w3 := (hB1.alloc hB1.size _).grown hgR (by simp; omega) (fun q e => by simp [Value.ownBlock] at e; omega)
          have hs3 : w1.heap.size + 1 ≤ w3.heap.size := by have := hgR.size; rw [World.size_alloc] at this; exact this
          have hgR2 := (hoR.lt gR rfl).2
          have HOR : Hid (w3.ownsRow w1.heap.size 39 2 (.slice (some ⟨gR, 0, none⟩) (len - k) cR) (len - k) (blobV (bs.drop k))) := hoR
          clear hoR hgR hb1 hc0
          clear hB1
          have c13 := (hB3.cell (p := ⟨B, 1, none⟩) hBlt).trans c1
          have c13a := cell_al (.cells #[] 39) c13
          obtain ⟨vT, w5, hrT, hoT, hgT, hnT⟩ := run_append_src (P := Try.prog) (w3.alloc (.cells #[] 39)) w3.heap.size 24 24 39 i0 _ 2 24 Try.underlying24 hi hz0 hz1 hz2 rfl (by decide) _ _ _
            (World.ownsRow_lit (base := w3.heap.size) (e := 39) (size := 2) w3 #[] 0 (Nat.le_refl _) (by decide) rfl) (.slice (some ⟨g, 0, none⟩) k cp) k (blobV (bs.take k)) (own_front ((own_below HOW.out hB3).alloc _) k (by omega) _) (by unfold maxLen; omega) (by omega) (by simp)
          obtain ⟨gT, cT, rfl⟩ := own_shape hoT (fun e => by cases hnT e)
          simp only [Nat.zero_add, List.nil_append] at hoT hrT
          clear hnT
          have hB5 : Below w0.heap.size w0 w5 := (hB3.alloc hB3.size _).grown hgT (by simp; omega) (fun q e => by simp [Value.ownBlock] at e; omega)
          have hs5 : w3.heap.size + 1 ≤ w5.heap.size := by have := hgT.size; rw [World.size_alloc] at this; exact this
          have HOR5 : Hid (w5.ownsRow w1.heap.size 39 2 (.slice (some ⟨gR, 0, none⟩) (len - k) cR) (len - k) (blobV (bs.drop k))) := (HOR.out.alloc _).kept hgT (.inr (by simp [Value.ownBlock]; omega))
          have hgT1 := (hoT.lt gT rfl).1
          have HOT : Hid (w5.ownsRow w3.heap.size 39 2 (.slice (some ⟨gT, 0, none⟩) k cT) k (blobV (bs.take k))) := hoT
          clear hoT hgT HOR
          clear hB3
          obtain ⟨vN, w7, hrN, hoN, hgN, hnN⟩ := run_append_src (P := Try.prog) (w5.alloc (.cells #[.int .i64 key, .string ⟨t.toArray⟩] 39)) w3.heap.size 24 24 39 i0 _ 2 24 Try.underlying24 hi hz0 hz1 hz2 rfl (by decide) _ _ _
            (HOT.out.alloc _) (.slice (some ⟨w5.heap.size, 0, none⟩) 1 1) 1 (blobV [(key, t)]) (new_blob _ _ _ _) (by unfold maxLen; omega) (by omega) (by simp; omega)
          obtain ⟨gN, cN, rfl⟩ := own_shape hoN (fun e => by cases hnN e)
          rw [← blobV_append] at hoN
          clear hnN
          have hB7 : Below w0.heap.size w0 w7 := (hB5.alloc hB5.size _).grown hgN (by simp; omega) (fun q e => by have := (HOT.out.lt q e).1; omega)
          have hs7 : w5.heap.size + 1 ≤ w7.heap.size := by have := hgN.size; rw [World.size_alloc] at this; exact this
          have HOR7 : Hid (w7.ownsRow w1.heap.size 39 2 (.slice (some ⟨gR, 0, none⟩) (len - k) cR) (len - k) (blobV (bs.drop k))) := (HOR5.out.alloc _).kept hgN (.inr (by simp [Value.ownBlock]; omega))
          have HON : Hid (w7.ownsRow w3.heap.size 39 2 (.slice (some ⟨gN, 0, none⟩) (k + 1) cN) (k + 1) (blobV (bs.take k ++ [(key, t)]))) := hoN
          clear hoN hgN HOR5 HOT
          clear hB5
          obtain ⟨vF, w8, hrF, hoF, hgF, hnF⟩ := run_append_src (P := Try.prog) w7 w3.heap.size 24 24 39 i0 _ 2 24 Try.underlying24 hi hz0 hz1 hz2 rfl (by decide) _ _ _
            HON.out (.slice (some ⟨gR, 0, none⟩) (len - k) cR) (len - k) (blobV (bs.drop k)) (own_whole HOR7.out) (by unfold maxLen; omega) (by omega) (by omega)
          obtain ⟨gF, cF, rfl⟩ := own_shape hoF (fun e => by cases hnF e)
          rw [← blobV_append] at hoF
          clear hnF
          have hB8 : Below w0.heap.size w0 w8 := hB7.grown hgF hB7.size (fun q e => by have := (HON.out.lt q e).1; omega)
          have hs8 : w7.heap.size ≤ w8.heap.size := hgF.size
          have hgF1 := (hoF.lt gF rfl).1
          have HOF : Hid (w8.ownsRow w3.heap.size 39 2 (.slice (some ⟨gF, 0, none⟩) (k + 1 + (len - k)) cF) (k + 1 + (len - k)) (blobV (bs.take k ++ [(key, t)] ++ bs.drop k))) := hoF
          have c08 := (hB8.cell (p := ⟨B, 0, none⟩) hBlt).trans c0
          have c18 := (hB8.cell (p := ⟨B, 1, none⟩) hBlt).trans c1
          have f18 : ∀ j, w8.frozen? ⟨B, j, none⟩ = false := fun j => (World.frozen?_of_block (a := ⟨B, j, none⟩) (hB8.block B hBlt)).trans (f1 j)
          clear hoF hgF HON HOR7 hB7
          go_wp2_with (at_builtin; first | (refine wpList_append_run rfl (.tmp 77) (.tmp 83) 24 rfl _ _ _ rfl rfl hrR ?_; clear hrR hc1a hc1) | (refine wpList_append_run rfl (.tmp 86) (.tmp 92) 24 rfl _ _ _ rfl rfl hrT ?_; clear hrT c13a c13) | (refine wpList_append_run rfl (.tmp 93) (.tmp 97) 24 rfl _ _ _ rfl rfl hrN ?_; clear hrN) | (refine wpList_append_run rfl (.tmp 98) (.tmp 99) 24 rfl _ _ _ rfl rfl hrF ?_; clear hrF))
          all_goals go_ret
          all_goals exact ⟨by rw [HC.out.2]; rfl, by rw [HC.out.1, HK.out]; exact keepPost_new c08 c18 f18 HOF.out (by omega) (by omega) hB8⟩

end Go.Proofs.Ytfjpbbacibfnmaa
