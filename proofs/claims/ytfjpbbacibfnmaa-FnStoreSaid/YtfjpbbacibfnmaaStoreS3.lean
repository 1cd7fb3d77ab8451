/-
  The contracts of chapter 3's specification: a store's own copy, Kept.
-/
import Derived.Test.YtfjpbbacibfnmaaStoreS2
namespace Go.Proofs.Ytfjpbbacibfnmaa
open Go.RowKit

/-- What a row of blobs holds. -/
def blobV : List Bl → List Value
  | [] => []
  | b :: r => .int .i64 b.1 :: .string ⟨b.2.toArray⟩ :: blobV r

theorem blobV_len (bs : List Bl) : (blobV bs).length = bs.length * 2 := by
  induction bs with
  | nil => rfl
  | cons b r ih => simp only [blobV, List.length_cons, ih]; omega

theorem blobV_append (x y : List Bl) : blobV (x ++ y) = blobV x ++ blobV y := by
  induction x with
  | nil => rfl
  | cons b r ih => simp only [List.cons_append, blobV, ih]

theorem blobV_one (bs : List Bl) : ∀ u ∈ blobV bs, u.oneCell' = true := by
  induction bs with
  | nil => intro u hu; cases hu
  | cons b r ih =>
    intro u hu
    simp only [blobV, List.mem_cons] at hu
    rcases hu with rfl | rfl | h
    · rfl
    · rfl
    · exact ih u h

theorem blobV_at (bs : List Bl) (j : Nat) (hj : j < bs.length) : (blobV bs)[j * 2]? = some (.int .i64 (bs.getD j (0, [])).1) ∧ (blobV bs)[j * 2 + 1]? = some (.string ⟨(bs.getD j (0, [])).2.toArray⟩) := by
  induction bs generalizing j with
  | nil => simp at hj
  | cons b r ih =>
    cases j with
    | zero => simp [blobV]
    | succ j =>
      have h := ih j (by simpa using hj)
      rw [show (j + 1) * 2 = j * 2 + 1 + 1 by omega]
      simpa [blobV] using h

/-- What lies in a list of blobs, cell by cell. -/
theorem BlobsIn.src {w : World} {a : Option Addr} {len cap : Nat} {bs : List Bl} (h : BlobsIn w a len cap bs) : Src w (.slice a len cap) len 2 (blobV bs) := by
  refine ⟨by rw [blobV_len, h.1], blobV_one bs, ?_⟩
  rcases a with _ | ad
  · obtain ⟨h1, h2⟩ := h.2.1 rfl
    exact Or.inl ⟨by rw [h1, h2], h1⟩
  · refine Or.inr ⟨ad, cap, rfl, fun j u hu => ?_⟩
    have hj : j < (blobV bs).length := by
      rcases Nat.lt_or_ge j (blobV bs).length with h' | h'
      · exact h'
      · rw [List.getElem?_eq_none h'] at hu; cases hu
    rw [blobV_len, h.1] at hj
    obtain ⟨b, off, e, _, c0, c1⟩ := h.2.2 (j / 2) (by omega)
    injection e with e
    subst e
    obtain ⟨v0, v1⟩ := blobV_at bs (j / 2) (by rw [h.1]; omega)
    have ea : ∀ i, (⟨b, off, none⟩ : Addr).add i = ⟨b, off + i, none⟩ := fun i => by unfold Addr.add; split <;> simp_all
    rw [ea]
    rcases Nat.mod_two_eq_zero_or_one j with h' | h'
    · have ej : j = j / 2 * 2 := by omega
      rw [← ej] at v0 c0
      rw [hu] at v0
      rw [c0, v0]
    · have ej : j = j / 2 * 2 + 1 := by omega
      rw [← ej] at v1
      rw [hu] at v1
      rw [show off + j = off + j / 2 * 2 + 1 by omega, c1, v1]

/-- A row of blobs that a call owns is a list of blobs. -/
theorem own_blobs {w : World} {base n : Nat} {v : Value} {bs : List Bl} (h : w.ownsRow base 39 2 v n (blobV bs)) : bs.length = n ∧ ∃ a cap, v = .slice a n cap ∧ BlobsIn w a n cap bs := by
  have hlen : bs.length = n := by have := h.1; rw [blobV_len] at this; omega
  refine ⟨hlen, ?_⟩
  rcases own_forms h with ⟨rfl, rfl, _⟩ | ⟨g, cp, rfl⟩
  · exact ⟨none, 0, rfl, hlen, fun _ => ⟨rfl, rfl⟩, fun j hj => by omega⟩
  · refine ⟨some ⟨g, 0, none⟩, cp, rfl, hlen, fun e => (by cases e), fun j hj => ?_⟩
    obtain ⟨v0, v1⟩ := blobV_at bs j (by omega)
    have c0 := h.cellAt (j * 2) (by omega)
    have c1 := h.cellAt (j * 2 + 1) (by omega)
    rw [v0] at c0
    rw [v1] at c1
    refine ⟨g, 0, rfl, (h.lt g rfl).2, ?_, ?_⟩
    · rw [Nat.zero_add]; exact c0
    · rw [Nat.zero_add]; exact c1

theorem infoBlob : (Try.prog.info? 39).map (fun i => (i.zero, i.size, i.bytes)) = some (some (.agg #[.int .i64 0, .string ⟨#[]⟩]), 2, 24) := by kernel_rfl

set_option maxHeartbeats 1000000 in
theorem specL3Copy (room : Int) (a : Option Addr) (len cap : Nat) (bs : List Bl) (w : World) (hin : BlobsIn w a len cap bs) (hlen : len ≤ 1048576) :
    Calls Try.prog 52 #[.agg #[.int .i64 room, .slice a len cap]] w fun e w' => ∃ v, e = .returned (.agg #[.int .i64 room, v]) ∧ w'.ownsRow w.heap.size 39 2 v len (blobV bs) ∧ v ≠ .slice none 0 0 ∧ Below w.heap.size w w' := by
  obtain ⟨i0, hi, hz0, hz1, hz2⟩ := info_parts infoBlob
  obtain ⟨W0, hW0⟩ : ∃ W0, ((w.alloc (.cells #[.int .i64 room, .slice a len cap] 26)).alloc (.cells #[.int .i64 0, .slice none 0 0] 26)) = W0 := ⟨_, rfl⟩
  have hB0 : Below w.heap.size w W0 := by rw [← hW0]; exact ((Below.refl _ w).alloc (Nat.le_refl _) _).alloc (by simp) _
  have hsz : W0.heap.size = w.heap.size + 1 + 1 := by rw [← hW0]; simp
  have c0 : W0.cell? ⟨w.heap.size, 0, none⟩ = some (.int .i64 room) := by rw [← hW0]; simp
  have c1 : W0.cell? ⟨w.heap.size, 1, none⟩ = some (.slice a len cap) := by rw [← hW0]; simp
  have r0 : W0.cell? ⟨w.heap.size + 1, 0, none⟩ = some (.int .i64 0) := by rw [← hW0]; simp
  have r1 : W0.cell? ⟨w.heap.size + 1, 1, none⟩ = some (.slice none 0 0) := by rw [← hW0]; simp
  have f0 : ∀ j, W0.frozen? ⟨w.heap.size + 1, j, none⟩ = false := fun j => by rw [← hW0]; simp
  have hin1 : BlobsIn (W0.drew.alloc (.cells #[] 39)) a len cap bs := (show BlobsIn W0.drew a len cap bs from (show BlobsIn W0 a len cap bs from hin.below hB0)).alloc _
  obtain ⟨v', w3, hrun3, hown3, hgrow3, hnil3⟩ := run_append_src (P := Try.prog) (W0.drew.alloc (.cells #[] 39)) (w.heap.size + 1 + 1) 24 24 39 i0 _ 2 24 Try.underlying24 hi hz0 hz1 hz2 rfl (by decide) _ _ _
    (World.ownsRow_lit (base := w.heap.size + 1 + 1) (e := 39) (size := 2) W0.drew #[] 0 (by rw [show W0.drew.heap.size = W0.heap.size from rfl]; omega) (by decide) rfl) (.slice a len cap) len (blobV bs) hin1.src (by unfold maxLen; omega) (by omega) (by rw [World.size_alloc, show W0.drew.heap.size = W0.heap.size from rfl]; omega)
  have hv' : v' ≠ .slice none 0 0 := fun e => by have := hnil3 e; cases this
  obtain ⟨g, cp, rfl⟩ := own_shape hown3 hv'
  simp only [Nat.zero_add, List.nil_append] at hown3 hrun3
  have hsd : W0.drew.heap.size = w.heap.size + 1 + 1 := hsz
  rw [hsd] at hrun3 hgrow3
  have hbk : ∀ k, k < W0.heap.size → w3.heap[k]? = W0.heap[k]? := fun k hk => (hgrow3.block k (by rw [World.size_alloc, hsd]; omega) (by intro e; simp [Value.ownBlock] at e; omega)).trans (Below.heap_alloc _ _ _ hk)
  have c0' := (World.cell?_of_block (a := ⟨w.heap.size, 0, none⟩) (hbk w.heap.size (by omega))).trans c0
  have c1' := (World.cell?_of_block (a := ⟨w.heap.size, 1, none⟩) (hbk w.heap.size (by omega))).trans c1
  have r0' := (World.cell?_of_block (a := ⟨w.heap.size + 1, 0, none⟩) (hbk (w.heap.size + 1) (by omega))).trans r0
  have r1' := (World.cell?_of_block (a := ⟨w.heap.size + 1, 1, none⟩) (hbk (w.heap.size + 1) (by omega))).trans r1
  have f0' := (World.frozen?_of_block (a := ⟨w.heap.size + 1, 0, none⟩) (hbk (w.heap.size + 1) (by omega))).trans (f0 0)
  have f1' := (World.frozen?_of_block (a := ⟨w.heap.size + 1, 1, none⟩) (hbk (w.heap.size + 1) (by omega))).trans (f0 1)
  clear hnil3 hv' hin hin1
  go_enter Try.func52, Try.ntmps52
  go_wp2
  go_region_held3 (fun w' => w'.cell? ⟨w.heap.size, 0, none⟩ = some (.int .i64 room) ∧ w'.cell? ⟨w.heap.size, 1, none⟩ = some (.slice a len cap)) (go_keep) (first | (refine step_append_run (by rfl) (.tmp 5) (.tmp 7) 24 (by rfl) _ _ _ (by rfl) (by rfl) hrun3 ?_))
  go_wp2
  have hg := (hown3.lt g rfl).1
  obtain ⟨X, hX⟩ : ∃ X, ((w3.setCell ⟨w.heap.size + 1, 0, none⟩ (.int .i64 room)).setCell ⟨w.heap.size + 1, 1, none⟩ (.slice (some ⟨g, 0, none⟩) len cp)) = X := ⟨_, rfl⟩
  have x1 : X.cell? ⟨w.heap.size + 1, 1, none⟩ = some (.slice (some ⟨g, 0, none⟩) len cp) := by rw [← hX]; exact World.cell?_setCell_same _ _ _ ((World.cell?_setCell_other _ _ _ _ (by simp)).trans r1')
  have x0 : X.cell? ⟨w.heap.size + 1, 0, none⟩ = some (.int .i64 room) := by rw [← hX]; exact (World.cell?_setCell_other _ _ _ _ (by simp)).trans (World.cell?_setCell_same _ _ _ r0')
  rw [hX]
  refine bodyPost_ret (v := .agg #[.int .i64 room, .slice (some ⟨g, 0, none⟩) len cp]) (by simp [results, Try.results52, go_sem, x0, x1]) rfl ?_
  rw [← hX]
  refine ⟨.slice (some ⟨g, 0, none⟩) len cp, rfl, ?_, by simp, ?_⟩
  · exact own_base ((hown3.kept (grown_set _ _ _ _) (.inr (by simp [Value.ownBlock]; omega))).kept (grown_set _ _ _ _) (.inr (by simp [Value.ownBlock]; omega))) (by omega)
  · refine ((hB0.trans (⟨hgrow3.os, hgrow3.tape, hgrow3.output, by have := hgrow3.size; rw [World.size_alloc, hsd] at this; omega, fun k hk => hbk k (by omega)⟩ : Below w.heap.size W0 w3)).setCell (p := ⟨w.heap.size + 1, 0, none⟩) (by show w.heap.size ≤ w.heap.size + 1; omega) _).setCell (p := ⟨w.heap.size + 1, 1, none⟩) (by show w.heap.size ≤ w.heap.size + 1; omega) _

end Go.Proofs.Ytfjpbbacibfnmaa
