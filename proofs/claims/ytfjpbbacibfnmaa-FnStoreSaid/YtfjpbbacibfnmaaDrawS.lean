/-
  A store is drawn; two stores are alike.
-/
import Derived.Test.YtfjpbbacibfnmaaStoreM
import Derived.Test.YtfjpbbacibfnmaaDrawT
import Derived.Test.YtfjpbbacibfnmaaDraw3
import Derived.Deep.RegionWith
import Derived.Deep.RegionHeld3
import Derived.Deep.RegionLaw
namespace Go.Proofs.Ytfjpbbacibfnmaa
open Go.RowKit

set_option maxHeartbeats 2000000 in
theorem likeStoreC (room : Int) (a b : Option Addr) (len ca cb : Nat) (bs : List Bl) (w : World) (ha : BlobsIn w a len ca bs) (hb : BlobsIn w b len cb bs) (hlen : len ≤ 4194304) :
    Calls Try.prog 17 #[.agg #[.int .i64 room, .slice a len ca], .agg #[.int .i64 room, .slice b len cb]] w fun e w' => e = .returned (.bool true) ∧ Below w.heap.size w w' := by
  have h1 : (room != room) = false := by simp
  have h2 : ((len : Int) != (len : Int)) = false := by simp
  obtain ⟨W0, hW0⟩ : ∃ W0, (w.alloc (.cells #[.int .i64 room, .slice a len ca] 26)).alloc (.cells #[.int .i64 room, .slice b len cb] 26) = W0 := ⟨_, rfl⟩
  have hB0 : Below w.heap.size w W0 := by rw [← hW0]; exact ((Below.refl _ w).alloc (Nat.le_refl _) _).alloc (by simp) _
  have p0 : W0.cell? ⟨w.heap.size, 0, none⟩ = some (.int .i64 room) := by rw [← hW0]; simp
  have p1 : W0.cell? ⟨w.heap.size, 1, none⟩ = some (.slice a len ca) := by rw [← hW0]; simp
  have q0 : W0.cell? ⟨w.heap.size + 1, 0, none⟩ = some (.int .i64 room) := by rw [← hW0]; simp
  have q1 : W0.cell? ⟨w.heap.size + 1, 1, none⟩ = some (.slice b len cb) := by rw [← hW0]; simp
  have HA : Hid (BlobsIn W0 a len ca bs) := ha.below hB0
  have HB : Hid (BlobsIn W0 b len cb bs) := hb.below hB0
  clear ha hb
  go_enter Try.func17, Try.ntmps17
  go_wp2
  go_loopw [5] (fun i wr => ∃ k nq : Nat, k ≤ len ∧ i = .int .i64 k ∧ wr = W0.drewN nq) (fun i _ => len - (intOf i).toNat)
  case atStart => exact ⟨0, 0, Nat.zero_le _, rfl, rfl⟩
  case round =>
    obtain ⟨k, nq, hk, rfl, rfl⟩ := hrel
    by_cases hkl : (k : Int) < (len : Int)
    · obtain ⟨b1, o1, rfl, hb1, hc1⟩ := HA.out.at (by omega)
      obtain ⟨b2, o2, rfl, hb2, hc2⟩ := HB.out.at (by omega)
      obtain ⟨ck1, ct1⟩ := hc1 k (by omega)
      obtain ⟨ck2, ct2⟩ := hc2 k (by omega)
      obtain ⟨x, hx⟩ : ∃ x, bs.getD k (0, []) = x := ⟨_, rfl⟩
      rw [hx] at ck1 ct1 ck2 ct2
      obtain ⟨key, t⟩ := x
      simp only at ck1 ct1 ck2 ct2
      clear hx hc1 hc2
      go_wp2
      go_quiet (fail)
      go_wp2
      exact ⟨⟨k + 1, _, by omega, by go_num, rfl⟩, by simp [intOf]; omega⟩
    · go_wp2
      go_ret
      exact ⟨rfl, hB0.trans (below_drewN _ _ _)⟩

/-- A store of the call's own lies in block Bs; its blobs are a row of the call's own. -/
structure StoreAt (w : World) (Bs base : Nat) (room : Int) (bs : List Bl) : Prop where
  c0 : w.cell? ⟨Bs, 0, none⟩ = some (.int .i64 room)
  c1 : ∃ v, w.cell? ⟨Bs, 1, none⟩ = some v ∧ w.ownsRow base 39 2 v bs.length (blobV bs) ∧ v.ownBlock ≠ some Bs
  free : ∀ j, w.frozen? ⟨Bs, j, none⟩ = false

theorem StoreAt.lt {w : World} {Bs base : Nat} {room : Int} {bs : List Bl} (h : StoreAt w Bs base room bs) : Bs < w.heap.size := World.block_lt_of_cell? w ⟨Bs, 0, none⟩ h.c0

theorem StoreAt.kept {w w' : World} {Bs base : Nat} {room : Int} {bs : List Bl} {row : Option Nat} (h : StoreAt w Bs base room bs) (hg : w.grownBy w' row) (h1 : ∀ q, row = some q → q < Bs ∧ q < base) : StoreAt w' Bs base room bs := by
  have hne : some Bs ≠ row := fun e => by have := (h1 Bs e.symm).1; omega
  have hb := hg.block Bs h.lt hne
  obtain ⟨v, k1, k2, k3⟩ := h.c1
  refine ⟨(World.cell?_of_block (a := ⟨Bs, 0, none⟩) hb).trans h.c0, ⟨v, (World.cell?_of_block (a := ⟨Bs, 1, none⟩) hb).trans k1, k2.kept hg ?_, k3⟩, fun j => (World.frozen?_of_block (a := ⟨Bs, j, none⟩) hb).trans (h.free j)⟩
  rcases hv : v.ownBlock with _ | q
  · exact Or.inl rfl
  · refine Or.inr fun e => ?_
    have a := (k2.lt q hv).1
    have b := (h1 q e.symm).2
    omega

/-- The block of the answer, still empty. -/
structure ResAt (w : World) (h : Nat) : Prop where
  c0 : w.cell? ⟨h, 0, none⟩ = some (.int .i64 0)
  c1 : w.cell? ⟨h, 1, none⟩ = some (.slice none 0 0)
  free : ∀ j, w.frozen? ⟨h, j, none⟩ = false

theorem ResAt.kept {w w' : World} {h : Nat} {row : Option Nat} (r : ResAt w h) (hg : w.grownBy w' row) (hne : some h ≠ row) : ResAt w' h := by
  have hb := hg.block h (World.block_lt_of_cell? w ⟨h, 0, none⟩ r.c0) hne
  exact ⟨(World.cell?_of_block (a := ⟨h, 0, none⟩) hb).trans r.c0, (World.cell?_of_block (a := ⟨h, 1, none⟩) hb).trans r.c1, fun j => (World.frozen?_of_block (a := ⟨h, j, none⟩) hb).trans (r.free j)⟩

theorem fin_store {w W : World} {B Bs n : Nat} {a : Option Addr} {len cap : Nat} {room : Int} {v : Value} {bs : List Bl} (hB : B < w.heap.size) (hBs : w.heap.size < Bs) (hown : W.ownsRow Bs 39 2 v n (blobV bs)) (hR : ResAt W w.heap.size) (hc : Cur W B a len cap) (hg : w.grownBy W (some B)) :
    ((W.setCell ⟨w.heap.size, 0, none⟩ (.int .i64 room)).setCell ⟨w.heap.size, 1, none⟩ v).cell? ⟨w.heap.size, 0, none⟩ = some (.int .i64 room) ∧ ((W.setCell ⟨w.heap.size, 0, none⟩ (.int .i64 room)).setCell ⟨w.heap.size, 1, none⟩ v).cell? ⟨w.heap.size, 1, none⟩ = some v ∧
    ((W.setCell ⟨w.heap.size, 0, none⟩ (.int .i64 room)).setCell ⟨w.heap.size, 1, none⟩ v).ownsRow w.heap.size 39 2 v n (blobV bs) ∧ Cur ((W.setCell ⟨w.heap.size, 0, none⟩ (.int .i64 room)).setCell ⟨w.heap.size, 1, none⟩ v) B a len cap ∧ w.grownBy ((W.setCell ⟨w.heap.size, 0, none⟩ (.int .i64 room)).setCell ⟨w.heap.size, 1, none⟩ v) (some B) := by
  have hne : v.ownBlock ≠ some w.heap.size := fun e => by have := (hown.lt _ e).1; omega
  refine ⟨(World.cell?_setCell_other _ _ _ _ (by simp)).trans (World.cell?_setCell_same _ _ _ hR.c0), World.cell?_setCell_same _ _ _ ((World.cell?_setCell_other _ _ _ _ (by simp)).trans hR.c1), ?_, ?_, ?_⟩
  · exact own_base ((hown.kept (grown_set _ _ _ _) (.inr hne)).kept (grown_set _ _ _ _) (.inr hne)) (by omega)
  · exact (hc.kept (grown_set _ _ _ _) (fun q e => by injection e with e; omega)).kept (grown_set _ _ _ _) (fun q e => by injection e with e; omega)
  · exact (hg.andThen (grown_set _ _ _ _) (fun q e => Or.inl (by injection e with e; omega))).andThen (grown_set _ _ _ _) (fun q e => Or.inl (by injection e with e; omega))

theorem StoreAt.room {w : World} {Bs base : Nat} {room : Int} {bs : List Bl} (h : StoreAt w Bs base room bs) (r : Int) : StoreAt (w.setCell ⟨Bs, 0, none⟩ (.int .i64 r)) Bs base r bs := by
  obtain ⟨v, k1, k2, k3⟩ := h.c1
  exact ⟨World.cell?_setCell_same _ _ _ h.c0, ⟨v, (World.cell?_setCell_other _ _ _ _ (by simp)).trans k1, k2.kept (grown_set _ _ _ _) (.inr k3), k3⟩, fun j => by rw [World.frozen?_setCell]; exact h.free j⟩

theorem keepB_len (room : Int) (bs : List Bl) (t : List UInt8) : (keepB room bs t).length ≤ bs.length + 1 ∧ takenL (keepB room bs t) ≤ takenL bs + t.length := by
  unfold keepB
  simp only []
  split
  · omega
  · split
    · omega
    · have h := takenL_append (bs.take (placeL (hashL t) bs)) (bs.drop (placeL (hashL t) bs))
      rw [List.take_append_drop] at h
      rw [List.length_append, List.length_append, List.length_take, List.length_drop, takenL_append, takenL_append]
      simp [takenL]
      omega

theorem new_cells (w : World) (key : Int) (t : List UInt8) : ∀ j u, (blobV [(key, t)])[j]? = some u → (w.alloc (.cells #[.int .i64 key, .string ⟨t.toArray⟩] 39)).cell? ((⟨w.heap.size, 0, none⟩ : Addr).add j) = some u := by
  obtain ⟨_, _, ⟨h, _⟩ | ⟨ad, c, h, hc⟩⟩ := new_blob w key t 1
  · cases h
  · simp only [Value.slice.injEq, Option.some.injEq, true_and] at h
    obtain ⟨rfl, rfl⟩ := h
    exact hc

theorem set_same {xs : List Value} {i : Nat} {v : Value} (h : xs[i]? = some v) : xs.set i v = xs := by
  obtain ⟨hi, e⟩ := List.getElem?_eq_some_iff.1 h
  rw [← e]; exact List.set_getElem_self hi

theorem taken_set (bs : List Bl) (k : Nat) (x : Bl) : takenL (bs.set k x) ≤ takenL bs + x.2.length := by
  induction bs generalizing k with
  | nil => simp [takenL]
  | cons b r ih =>
    cases k with
    | zero => simp [takenL]; omega
    | succ k => have := ih k; simp [takenL]; omega

theorem ne_block {v : Value} {g n cp Bs W : Nat} (h : (Value.slice (some ⟨g, 0, none⟩) n cp).ownBlock = v.ownBlock ∨ (Value.slice (some ⟨g, 0, none⟩) n cp).ownBlock = some W) (hv : v.ownBlock ≠ some Bs) (hW : Bs < W) : g ≠ Bs := by
  intro e
  subst e
  rcases h with h | h
  · exact hv (by rw [← h]; simp [Value.ownBlock])
  · simp [Value.ownBlock] at h
    omega

theorem app_facts {w w6 w7 w8 : World} {B Bs n : Nat} {a : Option Addr} {len cap : Nat} {room : Int} {bs : List Bl} {v v8 : Value} {xs : List Value} {o : Obj} (hG : w.grownBy w6 (some B)) (hR : ResAt w6 w.heap.size) (hk : w6.ownsRow Bs 39 2 v bs.length (blobV bs)) (hS : StoreAt w7 Bs Bs room bs) (hc : Cur w7 B a len cap) (hg7 : w6.drew.grownBy w7 (some B)) (hg8 : (w7.alloc o).grownBy w8 v.ownBlock)
    (hown : w8.ownsRow Bs 39 2 v8 n xs) (hne : some Bs ≠ v.ownBlock) (hB : B < w.heap.size) (hBs : w.heap.size < Bs) :
    w8.ownsRow Bs 39 2 v8 n xs ∧ w8.cell? ⟨Bs, 0, none⟩ = some (.int .i64 room) ∧ (∀ j, w8.frozen? ⟨Bs, j, none⟩ = false) ∧ ResAt w8 w.heap.size ∧ Cur w8 B a len cap ∧ w.grownBy w8 (some B) := by
  have hb := hg8.block Bs (by simp; have := hS.lt; omega) hne
  have hb2 : w8.heap[Bs]? = w7.heap[Bs]? := hb.trans (Below.heap_alloc _ _ _ hS.lt)
  have hlt : ∀ q, v.ownBlock = some q → Bs ≤ q := fun q e => (hk.lt q e).1
  refine ⟨hown, (World.cell?_of_block (a := ⟨Bs, 0, none⟩) hb2).trans hS.c0, fun j => (World.frozen?_of_block (a := ⟨Bs, j, none⟩) hb2).trans (hS.free j), ?_, ?_, ?_⟩
  · exact (((hR.kept (grown_drew w6 none) (by simp)).kept hg7 (by simp; omega)).kept (World.grownBy_alloc _ _ none) (by simp)).kept hg8 (fun e => by have := hlt _ e.symm; omega)
  · exact (hc.kept (World.grownBy_alloc _ _ none) (by simp)).kept hg8 (fun q e => by have := hlt q e; omega)
  · exact (((hG.trans (grown_drew w6 _)).trans hg7).trans (World.grownBy_alloc _ _ _)).andThen hg8 (fun q e => Or.inl (by have := hlt q e; omega))

set_option maxHeartbeats 4000000 in
set_option maxRecDepth 100000 in
theorem drawStore (w : World) (B : Nat) (a : Option Addr) (len cap : Nat) (h : Cur w B a len cap) :
    Calls Try.prog 42 #[.pointer (some ⟨B, 0, none⟩)] w fun e w' => ∃ (room : Int) (v : Value) (bs : List Bl), e = .returned (.agg #[.int .i64 room, v]) ∧ w'.ownsRow w.heap.size 39 2 v bs.length (blobV bs) ∧ bs.length ≤ 6 ∧ takenL bs ≤ 50 ∧ Cur w' B a len cap ∧ w.grownBy w' (some B) := by
  obtain ⟨i0, hi, hz0, hz1, hz2⟩ := info_parts infoBlob
  have hBlt := h.lt
  have h01 := (h.kept (World.grownBy_alloc w (.cells #[.int .i64 0, .slice none 0 0] 26) none) (by simp)).kept (World.grownBy_alloc _ (.cells #[.int .i64 0, .int .i64 5, .int .i64 20, .int .i64 100] 2) none) (by simp)
  go_enter Try.func42, Try.ntmps42
  go_wp2_with fail
  refine (drawBelow _ B a len cap 4 (by omega) (by omega) h01).mono ?_
  rintro e w1 ⟨x, rfl, hx0, hx1, hc1, hg1⟩
  have hs1 : w.heap.size + 1 + 1 ≤ w1.heap.size := by have := hg1.size; simp at this; omega
  have hcx : w1.cell? ⟨w.heap.size + 1, x.toNat, none⟩ = some (.int .i64 (pick [0, 5, 20, 100] x)) := by
    have hp := pick_cell [0, 5, 20, 100] x hx0 hx1 (w.alloc (.cells #[.int .i64 0, .slice none 0 0] 26)) 2
    rw [World.size_alloc] at hp
    exact hg1.cell hp (by simp; omega)
  have r0 : w1.cell? ⟨w.heap.size, 0, none⟩ = some (.int .i64 0) := hg1.cell (cell_al _ (by simp)) (by simp; omega)
  have r1 : w1.cell? ⟨w.heap.size, 1, none⟩ = some (.slice none 0 0) := hg1.cell (cell_al _ (by simp)) (by simp; omega)
  obtain ⟨room, hroom⟩ : ∃ room, pick [0, 5, 20, 100] x = room := ⟨_, rfl⟩
  rw [hroom] at hcx
  -- BODY
  have hS1 : StoreAt (w1.alloc (.cells #[.int .i64 room, .slice none 0 0] 26)) w1.heap.size w1.heap.size room [] := ⟨by simp, ⟨.slice none 0 0, by simp, World.ownsRow_nil _ _ _ _, by simp [Value.ownBlock]⟩, fun j => by simp⟩
  have hf1 : ∀ j, w1.frozen? ⟨w.heap.size, j, none⟩ = false := fun j => (World.frozen?_of_block (a := ⟨w.heap.size, j, none⟩) ((hg1.block w.heap.size (by simp; omega) (by simp; omega)).trans (Below.heap_alloc _ _ _ (by simp)))).trans (by simp)
  have hR1 : ResAt (w1.alloc (.cells #[.int .i64 room, .slice none 0 0] 26)) w.heap.size := (ResAt.mk r0 r1 hf1).kept (World.grownBy_alloc _ _ none) (by simp)
  have hgA : w.grownBy (w1.alloc (.cells #[.int .i64 room, .slice none 0 0] 26)) (some B) := (((World.grownBy_alloc _ _ _).trans (World.grownBy_alloc _ _ _)).trans hg1).trans (World.grownBy_alloc _ _ _)
  have hcA : Cur (w1.alloc (.cells #[.int .i64 room, .slice none 0 0] 26)) B a len cap := hc1.kept (World.grownBy_alloc _ _ none) (by simp)
  clear h01 hg1 hroom hf1 r0 r1
  go_wp2_with fail
  refine (drawBelow _ B a len cap 6 (by omega) (by omega) hcA).mono ?_
  rintro e w2 ⟨n, rfl, hn0, hn1, hc2, hg2⟩
  have hS2 := hS1.kept hg2 (fun q e => by injection e with e; subst e; omega)
  have hR2 := hR1.kept hg2 (by simp; omega)
  have hgB := hgA.trans hg2
  have hs2 := hS2.lt
  obtain ⟨Bs, hBs⟩ : ∃ Bs, w1.heap.size = Bs := ⟨_, rfl⟩
  rw [hBs] at hS2 hs1 hs2 ⊢
  clear hS1 hR1 hgA hcA hg2 hcx hBs hc1
  go_wp2_with fail
  go_loopw [4] (fun i wr => ∃ (k : Nat) (bs : List Bl), Hid (bs.length + k ≤ 5 ∧ takenL bs + 4 * k ≤ 20) ∧ i = .int .i64 k ∧ StoreAt wr Bs Bs room bs ∧ ResAt wr w.heap.size ∧ Cur wr B a len cap ∧ w.grownBy wr (some B)) (fun i _ => (intOf i).toNat)
  case atStart => exact ⟨n.toNat, [], (by simp [takenL]; omega : ([] : List Bl).length + n.toNat ≤ 5 ∧ takenL ([] : List Bl) + 4 * n.toNat ≤ 20), by rw [Int.toNat_of_nonneg hn0], hS2, hR2, hc2, hgB⟩
  case round =>
    obtain ⟨k, bs, HL, rfl, hS, hR, hc, hg⟩ := hrel
    clear hS2 hR2 hc2 hgB hs2
    have hsr := hS.lt
    have hk5 : k ≤ 5 := by have := HL.out; omega
    by_cases hlt : 0 < k
    · go_wp2_with fail
      refine (drawText _ B a len cap _ 5 (by decide) (by decide) (by omega) (by omega) hc).mono ?_
      rintro e w3 ⟨t, rfl, ht, hc3, hg3⟩
      have hS3 := hS.kept hg3 (fun q e => by injection e with e; subst e; omega)
      have hR3 := hR.kept hg3 (by simp; omega)
      have hs3 := hS3.lt
      obtain ⟨v3, k1, k2, k3⟩ := hS3.c1
      have k0 := hS3.c0
      have kf := hS3.free
      have hg3' := hg.trans hg3
      clear hS hR hg3 hc hg
      go_wp2_with fail
      refine (specKeep Bs Bs bs.length room v3 bs t _ k0 k1 kf k2 k3 (by omega) (by have := HL.out; omega) (by have := HL.out; omega) (by omega)).mono ?_
      rintro e w4 ⟨rfl, m0, m1, m2, hg4⟩
      have hS4 : StoreAt w4 Bs Bs room (keepB room bs t) := ⟨m0, m1, m2⟩
      have hR4 := hR3.kept hg4 (by simp; omega)
      have hc4 := hc3.kept hg4 (fun q e => by injection e with e; subst e; omega)
      have hg4' : w.grownBy w4 (some B) := hg3'.andThen hg4 (fun q e => Or.inl (by injection e with e; subst e; omega))
      have HL4 : Hid ((keepB room bs t).length + (k - 1) ≤ 5 ∧ takenL (keepB room bs t) + 4 * (k - 1) ≤ 20) := by
        exact (by have := HL.out; have := keepB_len room bs t; omega : (keepB room bs t).length + (k - 1) ≤ 5 ∧ takenL (keepB room bs t) + 4 * (k - 1) ≤ 20)
      clear hS3 hR3 k1 k2 k3 k0 kf hg4 hc3 m0 m1 m2 hg3'
      go_wp2
      go_roundw
      case rel => exact ⟨k - 1, keepB room bs t, HL4, by go_num, hS4, hR4, hc4, hg4'⟩
      case measure => simp [intOf]; omega
    · have hl5 : bs.length ≤ 5 ∧ takenL bs ≤ 20 := by have := HL.out; omega
      clear HL
      go_wp2_with fail
      refine (drawOnce _ B a len cap 10 (by omega) (by omega) hc).mono ?_
      rintro e w5 ⟨o, rfl, hc5, hg5⟩
      have hS5 := hS.kept hg5 (fun q e => by injection e with e; subst e; omega)
      have hR5 := hR.kept hg5 (by simp; omega)
      have hg5' := hg.trans hg5
      have hs5 := hS5.lt
      clear hS hR hg5 hc hg
      rcases o with _ | _
      · obtain ⟨vF, k1, k2, k3⟩ := hS5.c1
        obtain ⟨_, aF, cF, rfl, _⟩ := own_blobs k2
        have k0 := hS5.c0
        have z0 := hR5.c0
        have z1 := hR5.c1
        have y0 := hR5.free 0
        have y1 := hR5.free 1
        have hfin := fin_store (room := room) hBlt (by omega) k2 hR5 hc5 hg5'
        go_wp2
        obtain ⟨X, hX⟩ : ∃ X, ((w5.setCell ⟨w.heap.size, 0, none⟩ (.int .i64 room)).setCell ⟨w.heap.size, 1, none⟩ (.slice aF bs.length cF)) = X := ⟨_, rfl⟩
        rw [hX] at hfin ⊢
        obtain ⟨f0, f1, f2, f3, f4⟩ := hfin
        refine bodyPost_ret (v := .agg #[.int .i64 room, .slice aF bs.length cF]) (by simp [results, Try.results42, go_sem, f0, f1]) rfl ?_
        first | exact ⟨_, _, _, rfl, f2, by omega, by omega, f3, f4⟩ | exact ⟨_, _, rfl, _, f2, by omega, by omega, f3, f4⟩
      · go_wp2_with fail
        refine (drawBelow _ B a len cap 3 (by omega) (by omega) hc5).mono ?_
        rintro e w6 ⟨x6, rfl, hx60, hx61, hc6, hg6⟩
        have hS6 := hS5.kept hg6 (fun q e => by injection e with e; subst e; omega)
        have hR6 := hR5.kept hg6 (by simp; omega)
        have hg6' := hg5'.trans hg6
        have hs6 := hS6.lt
        clear hS5 hR5 hg6 hc5 hg5'
        rcases (by omega : x6 = 0 ∨ x6 = 1 ∨ x6 = 2) with rfl | rfl | rfl
        · go_wp2_with fail
          refine (drawBelow _ B a len cap 4 (by omega) (by omega) (hc6.kept (World.grownBy_alloc _ _ none) (by simp))).mono ?_
          rintro e w7 ⟨x7, rfl, hx70, hx71, hc7, hg7⟩
          have hS7 := (hS6.kept (World.grownBy_alloc _ (.cells #[.int .i64 (-1), .int .i64 100000, .int .i64 100001, .int .i64 1] 2) none) (by simp)).kept hg7 (fun q e => by injection e with e; subst e; omega)
          have hR7 := (hR6.kept (World.grownBy_alloc _ (.cells #[.int .i64 (-1), .int .i64 100000, .int .i64 100001, .int .i64 1] 2) none) (by simp)).kept hg7 (by simp; omega)
          have hg7' := (hg6'.trans (World.grownBy_alloc _ _ _)).trans hg7
          have hcx : w7.cell? ⟨w6.heap.size, x7.toNat, none⟩ = some (.int .i64 (pick [-1, 100000, 100001, 1] x7)) := hg7.cell (pick_cell [-1, 100000, 100001, 1] x7 hx70 hx71 w6 2) (by simp; omega)
          obtain ⟨room7, hroom7⟩ : ∃ r, pick [-1, 100000, 100001, 1] x7 = r := ⟨_, rfl⟩
          rw [hroom7] at hcx
          have kz := hS7.free 0
          have kc := hS7.c0
          have hS8 : StoreAt (w7.setCell ⟨Bs, 0, none⟩ (.int .i64 room7)) Bs Bs room7 bs := hS7.room room7
          have hR8 := hR7.kept (grown_set w7 Bs 0 (.int .i64 room7)) (by simp; omega)
          have hc8 := hc7.kept (grown_set w7 Bs 0 (.int .i64 room7)) (fun q e => by injection e with e; subst e; omega)
          have hg8 := hg7'.andThen (grown_set w7 Bs 0 (.int .i64 room7)) (fun q e => Or.inl (by injection e with e; subst e; omega))
          obtain ⟨W8, hW8⟩ : ∃ W8, w7.setCell ⟨Bs, 0, none⟩ (.int .i64 room7) = W8 := ⟨_, rfl⟩
          rw [hW8] at hS8 hR8 hc8 hg8
          clear hS7 hR7 hc7 hg7' hS6 hR6 hc6 hg6' hroom7 hg7
          obtain ⟨vF, k1, k2, k3⟩ := hS8.c1
          obtain ⟨_, aF, cF, rfl, _⟩ := own_blobs k2
          have k0 := hS8.c0
          have z0 := hR8.c0
          have z1 := hR8.c1
          have y0 := hR8.free 0
          have y1 := hR8.free 1
          have hfin := fin_store (room := room7) hBlt (by omega) k2 hR8 hc8 hg8
          go_wp2
          obtain ⟨X, hX⟩ : ∃ X, ((W8.setCell ⟨w.heap.size, 0, none⟩ (.int .i64 room7)).setCell ⟨w.heap.size, 1, none⟩ (.slice aF bs.length cF)) = X := ⟨_, rfl⟩
          rw [hX] at hfin ⊢
          obtain ⟨f0, f1, f2, f3, f4⟩ := hfin
          refine bodyPost_ret (v := .agg #[.int .i64 room7, .slice aF bs.length cF]) (by simp [results, Try.results42, go_sem, f0, f1]) rfl ?_
          first | exact ⟨_, _, _, rfl, f2, by omega, by omega, f3, f4⟩ | exact ⟨_, _, rfl, _, f2, by omega, by omega, f3, f4⟩
        · obtain ⟨v6, k1, k2, k3⟩ := hS6.c1
          obtain ⟨_, a6, c6, rfl, _⟩ := own_blobs k2
          have HS6 : Hid (StoreAt w6 Bs Bs room bs) := hS6
          have HR6 : Hid (ResAt w6 w.heap.size) := hR6
          have HC6 : Hid (Cur w6 B a len cap) := hc6
          have HG6 : Hid (w.grownBy w6 (some B)) := hg6'
          have HK2 : Hid (w6.ownsRow Bs 39 2 (.slice a6 bs.length c6) bs.length (blobV bs) ∧ (Value.slice a6 bs.length c6).ownBlock ≠ some Bs) := ⟨k2, k3⟩
          clear hS6 hR6 hc6 hg6' k2 k3
          go_wp2
          go_region_law (first | (refine step_append_run (by rfl) (.tmp 35) (.tmp 39) 24 (by rfl) _ _ _ (by rfl) (by rfl) hr8 ?_) | (go_simp; go_at_call 49; refine (drawBelow _ B a len cap 99 (by omega) (by omega) HC6.out.drew).mono ?_; rintro e w7 ⟨x7, rfl, hx70, hx71, hc7, hg7⟩; have HS7 : Hid (StoreAt w7 Bs Bs room bs) := (HS6.out.kept (grown_drew w6 none) (by simp)).kept hg7 (fun q e => by injection e with e; subst e; omega); have hs7 := HS7.out.lt; have hsz7 : w6.heap.size ≤ w7.heap.size := hg7.size; have hown7 := own_other (own_none HK2.out.1 (grown_drew w6 none)) (by omega : B < Bs) hg7; have d7 : w7.cell? ⟨Bs, 1, none⟩ = some (.slice a6 bs.length c6) := hg7.cell (show w6.drew.cell? ⟨Bs, 1, none⟩ = some (.slice a6 bs.length c6) from k1) (by simp; omega); obtain ⟨v8, w8, hr8, hown8, hg8, _, hn8⟩ := run_append_own_at (P := Try.prog) (w7.alloc (.cells #[.int .i64 x7, .string ⟨#[120]⟩] 39)) Bs 24 24 39 i0 _ 2 24 Try.underlying24 hi hz0 hz1 hz2 rfl (by decide) _ _ _ (hown7.alloc _) ⟨w7.heap.size, 0, none⟩ 1 1 (blobV [(x7, [120])]) rfl (new_cells w7 x7 [120]) (blobV_one _) (by unfold maxLen; omega) (by omega) (by simp; omega); obtain ⟨g8, cp8, rfl⟩ := own_some hown8 (by omega); have hgs8 : g8 ≠ Bs := ne_block hn8 HK2.out.2 (by simp; omega); have hne8 : some Bs ≠ (Value.slice a6 bs.length c6).ownBlock := fun e => HK2.out.2 e.symm; have d8 : w8.cell? ⟨Bs, 1, none⟩ = some (.slice a6 bs.length c6) := hg8.cell (cell_al _ d7) hne8; have e8 : w8.frozen? ⟨Bs, 1, none⟩ = false := (World.frozen?_of_block (a := ⟨Bs, 1, none⟩) (hg8.block Bs (by simp; omega) hne8)).trans ((World.frozen?_of_block (a := ⟨Bs, 1, none⟩) (Below.heap_alloc _ _ _ hs7)).trans (HS7.out.free 1)); have HD8 : Hid (w8.ownsRow Bs 39 2 (.slice (some ⟨g8, 0, none⟩) (bs.length + 1) cp8) (bs.length + 1) (blobV bs ++ blobV [(x7, [120])]) ∧ w8.cell? ⟨Bs, 0, none⟩ = some (.int .i64 room) ∧ (∀ j, w8.frozen? ⟨Bs, j, none⟩ = false) ∧ ResAt w8 w.heap.size ∧ Cur w8 B a len cap ∧ w.grownBy w8 (some B)) := app_facts HG6.out HR6.out HK2.out.1 HS7.out hc7 hg7 hg8 hown8 hne8 (by omega) (by omega); dsimp only))
          all_goals
            obtain ⟨hD1, hD2, hD3, hD4, hD5, hD6⟩ := HD8.out
            have hS9 : StoreAt (w8.setCell ⟨Bs, 1, none⟩ (.slice (some ⟨g8, 0, none⟩) (bs.length + 1) cp8)) Bs Bs room (bs ++ [(x7, [120])]) := by
              refine ⟨(World.cell?_setCell_other _ _ _ _ (by simp)).trans hD2, ⟨_, World.cell?_setCell_same _ _ _ d8, ?_, by simp [Value.ownBlock]; exact hgs8⟩, fun j => by rw [World.frozen?_setCell]; exact hD3 j⟩
              rw [blobV_append, List.length_append]
              exact hD1.kept (grown_set _ _ _ _) (.inr (by simp [Value.ownBlock]; exact hgs8))
            have hR9 := hD4.kept (grown_set w8 Bs 1 (.slice (some ⟨g8, 0, none⟩) (bs.length + 1) cp8)) (by simp; omega)
            have hc9 := hD5.kept (grown_set w8 Bs 1 (.slice (some ⟨g8, 0, none⟩) (bs.length + 1) cp8)) (fun q e => by injection e with e; omega)
            have hg9 := hD6.andThen (grown_set w8 Bs 1 (.slice (some ⟨g8, 0, none⟩) (bs.length + 1) cp8)) (fun q e => Or.inl (by injection e with e; omega))
            have hl9 : (bs ++ [(x7, ([120] : List UInt8))]).length ≤ 6 ∧ takenL (bs ++ [(x7, ([120] : List UInt8))]) ≤ 50 := by rw [List.length_append, takenL_append]; simp [takenL]; omega
            obtain ⟨W9, hW9⟩ : ∃ W9, w8.setCell ⟨Bs, 1, none⟩ (.slice (some ⟨g8, 0, none⟩) (bs.length + 1) cp8) = W9 := ⟨_, rfl⟩
            rw [hW9] at hS9 hR9 hc9 hg9 ⊢
            obtain ⟨bs9, hbs9⟩ : ∃ b9, bs ++ [(x7, ([120] : List UInt8))] = b9 := ⟨_, rfl⟩
            rw [hbs9] at hS9 hl9
            clear hD1 hD2 hD3 hD4 hD5 hD6 hr8 hown8 hg8 hn8 d8 e8 HD8 d7 hown7 hbs9 hW9
            obtain ⟨vF, k1, k2, k3⟩ := hS9.c1
            obtain ⟨_, aF, cF, rfl, _⟩ := own_blobs k2
            have k0 := hS9.c0
            have z0 := hR9.c0
            have z1 := hR9.c1
            have y0 := hR9.free 0
            have y1 := hR9.free 1
            have hfin := fin_store (room := room) hBlt (by omega) k2 hR9 hc9 hg9
            go_wp2
            obtain ⟨X, hX⟩ : ∃ X, ((W9.setCell ⟨w.heap.size, 0, none⟩ (.int .i64 room)).setCell ⟨w.heap.size, 1, none⟩ (.slice aF bs9.length cF)) = X := ⟨_, rfl⟩
            rw [hX] at hfin ⊢
            obtain ⟨f0, f1, f2, f3, f4⟩ := hfin
            refine bodyPost_ret (v := .agg #[.int .i64 room, .slice aF bs9.length cF]) (by simp [results, Try.results42, go_sem, f0, f1]) rfl ?_
            first | exact ⟨_, _, _, rfl, f2, hl9.1, hl9.2, f3, f4⟩ | exact ⟨_, _, rfl, _, f2, hl9.1, hl9.2, f3, f4⟩
        · obtain ⟨v6, k1, k2, k3⟩ := hS6.c1
          obtain ⟨_, a6, c6, rfl, _⟩ := own_blobs k2
          by_cases hz : bs.length = 0
          · have hb0 : bs = [] := List.eq_nil_of_length_eq_zero hz
            subst hb0
            clear k1 k2 k3 hz
            obtain ⟨vF, k1, k2, k3⟩ := hS6.c1
            obtain ⟨_, aF, cF, rfl, _⟩ := own_blobs k2
            simp only [List.length_nil] at k1 k2
            have k0 := hS6.c0
            have z0 := hR6.c0
            have z1 := hR6.c1
            have y0 := hR6.free 0
            have y1 := hR6.free 1
            have hfin := fin_store (room := room) hBlt (by omega) k2 hR6 hc6 hg6'
            go_wp2
            obtain ⟨X, hX⟩ : ∃ X, ((w6.setCell ⟨w.heap.size, 0, none⟩ (.int .i64 room)).setCell ⟨w.heap.size, 1, none⟩ (.slice aF 0 cF)) = X := ⟨_, rfl⟩
            rw [hX] at hfin ⊢
            obtain ⟨f0, f1, f2, f3, f4⟩ := hfin
            refine bodyPost_ret (v := .agg #[.int .i64 room, .slice aF 0 cF]) (by simp [results, Try.results42, go_sem, f0, f1]) rfl ?_
            first | exact ⟨_, _, _, rfl, f2, by omega, by omega, f3, f4⟩ | exact ⟨_, _, rfl, _, f2, by omega, by omega, f3, f4⟩
          · obtain ⟨g, cp, e6⟩ := own_some k2 hz
            simp only [Value.slice.injEq, true_and] at e6
            obtain ⟨rfl, rfl⟩ := e6
            have hgB : g ≠ Bs := fun e => k3 (by simp [Value.ownBlock, e])
            have hg6b := (k2.lt g rfl).1
            obtain ⟨x, hx⟩ : ∃ x, bs.getD 0 (0, []) = x := ⟨_, rfl⟩
            obtain ⟨v0, v1⟩ := blobV_at bs 0 (by omega)
            rw [hx] at v1
            obtain ⟨key, t⟩ := x
            have d1 : w6.cell? ⟨g, 1, none⟩ = some (.string ⟨t.toArray⟩) := by have := k2.cellAt 1 (by omega); rw [this]; simpa using v1
            have e1 := k2.frozenAt 1
            have hst := k2.stored 1 (.string ⟨(t ++ [121]).toArray⟩)
            have hset : (blobV bs).set 1 (.string ⟨(t ++ [121]).toArray⟩) = blobV (bs.set 0 (key, t ++ [121])) := by
              have h0 : (blobV bs).set 0 (.int .i64 key) = blobV bs := by
                rw [hx] at v0
                exact set_same (by simpa using v0)
              have := blobV_set bs 0 key (t ++ [121])
              rw [Nat.zero_mul, h0] at this
              simpa using this
            rw [hset] at hst
            have htl : t.length ≤ 20 := by have := getD_len bs 0; rw [hx] at this; simp at this; omega
            have hS9 : StoreAt (w6.setCell ⟨g, 1, none⟩ (.string ⟨(t ++ [121]).toArray⟩)) Bs Bs room (bs.set 0 (key, t ++ [121])) := by
              refine ⟨(World.cell?_setCell_other _ _ _ _ (by simp)).trans hS6.c0, ⟨_, (World.cell?_setCell_other _ _ _ _ (by simp <;> omega)).trans k1, ?_, k3⟩, fun j => by rw [World.frozen?_setCell]; exact hS6.free j⟩
              rw [List.length_set]; exact hst.1
            have hR9 := hR6.kept hst.2 (by simp; omega)
            have hc9 := hc6.kept hst.2 (fun q e => by injection e with e; omega)
            have hg9 := hg6'.andThen hst.2 (fun q e => Or.inl (by injection e with e; omega))
            have hl9 : (bs.set 0 (key, t ++ [121])).length ≤ 6 ∧ takenL (bs.set 0 (key, t ++ [121])) ≤ 50 := by
              rw [List.length_set]
              have := taken_set bs 0 (key, t ++ [121])
              simp at this
              omega
            have hcat := cat_list
            have hzb : (0 : Int) < (bs.length : Int) := by omega
            obtain ⟨bs9, hbs9⟩ : ∃ b9, bs.set 0 (key, t ++ [121]) = b9 := ⟨_, rfl⟩
            have hn9 : bs9.length = bs.length := by rw [← hbs9, List.length_set]
            rw [hbs9] at hS9 hl9
            clear k2 k3 hst hset hS6 hR6 hc6 hg6' hx v0 v1 hbs9
            go_wp2
            go_region
            have hS10 := hS9.kept (grown_drew _ none) (by simp)
            have hR10 := hR9.kept (grown_drew _ none) (by simp)
            have hc10 := hc9.drew
            have hg10 := hg9.trans (grown_drew _ _)
            obtain ⟨W9, hW9⟩ : ∃ W9, (w6.setCell ⟨g, 1, none⟩ (.string ⟨(t ++ [121]).toArray⟩)).drew = W9 := ⟨_, rfl⟩
            rw [hW9] at hS10 hR10 hc10 hg10 ⊢
            clear hS9 hR9 hc9 hg9 hW9 hn9 k1 d1 e1 hcat
            obtain ⟨vF, k1, k2, k3⟩ := hS10.c1
            obtain ⟨_, aF, cF, rfl, _⟩ := own_blobs k2
            have k0 := hS10.c0
            have z0 := hR10.c0
            have z1 := hR10.c1
            have y0 := hR10.free 0
            have y1 := hR10.free 1
            have hfin := fin_store (room := room) hBlt (by omega) k2 hR10 hc10 hg10
            go_wp2
            obtain ⟨X, hX⟩ : ∃ X, ((W9.setCell ⟨w.heap.size, 0, none⟩ (.int .i64 room)).setCell ⟨w.heap.size, 1, none⟩ (.slice aF bs9.length cF)) = X := ⟨_, rfl⟩
            rw [hX] at hfin ⊢
            obtain ⟨f0, f1, f2, f3, f4⟩ := hfin
            refine bodyPost_ret (v := .agg #[.int .i64 room, .slice aF bs9.length cF]) (by simp [results, Try.results42, go_sem, f0, f1]) rfl ?_
            first | exact ⟨_, _, _, rfl, f2, hl9.1, hl9.2, f3, f4⟩ | exact ⟨_, _, rfl, _, f2, hl9.1, hl9.2, f3, f4⟩

end Go.Proofs.Ytfjpbbacibfnmaa
