/-
  Parts of one proof, one behind the other: ImgR.
-/
import Derived.Test.YtnflkecnddbhoaaP25
import Derived.Test.YtnflkecnddbhoaaP17
import Derived.Test.YtnflkecnddbhoaaP6
import Derived.Test.YtnflkecnddbhoaaP7
import Derived.Test.YtnflkecnddbhoaaP21
import Derived.Deep.RegionHeld
import Derived.RegionTactic
import Derived.BigQuiet

/-! How an image runs, as the specification's walk holds it: the run's block, its row of registers, one instruction. -/
namespace Go.Proofs.Ytnflkecnddbhoaa
open Go.RowKit

section
variable {rs : List Rt} {m k : Nat} {xs row row2 : List Int} {p p2 : Int}
theorem run14_go (h : step14 rs k xs row p = .go row2 p2) : run14 rs (m + 1) (m + 1) k xs row p = run14 rs m m k xs row2 p2 := by rw [run14, h]
theorem run14_stop {v c : Int} (h : step14 rs k xs row p = .stop v c) : run14 rs (m + 1) (m + 1) k xs row p = (v, c, m) := by rw [run14, h]
theorem run14_call {k2 r : Nat} {xs2 : List Int} (h : step14 rs k xs row p = .call k2 xs2 r) : run14 rs (m + 1) (m + 1) k xs row p =
    if (run14 rs m m k2 xs2 row14 0).2.1 = 0 then run14 rs (run14 rs m m k2 xs2 row14 0).2.2 (run14 rs m m k2 xs2 row14 0).2.2 k xs (row.set r (run14 rs m m k2 xs2 row14 0).1) (p + 1) else (0, (run14 rs m m k2 xs2 row14 0).2.1, (run14 rs m m k2 xs2 row14 0).2.2) := by
  rw [run14, h]
  simp only
  split
  · exact run14_gas rs m _ _ k xs _ _ (run14_left rs m m k2 xs2 row14 0) (Nat.le_refl _)
  · rfl
end
theorem mem_getR {l : List In13} {p : Nat} (hp : p < l.length) : l.getD p in0 ∈ l := by rw [List.getD_eq_getElem?_getD, List.getElem?_eq_getElem hp]; exact List.getElem_mem hp
/-- What an instruction of right code asks. -/
structure Ir14 (rs : List Rt) (k p : Nat) (i : In13) : Prop where
  e : (rs.getD k rt0).2.2.getD p in0 = i
  ok : insP i
  nx : i.1 ≠ 8 → i.1 ≠ 10 → p + 1 < (rs.getD k rt0).2.2.length
  pl : i.1 = 7 ∨ i.1 = 8 → i.2.2.1 < ((rs.getD k rt0).2.2.length : Int)
  ar : i.1 = 2 → i.2.2.1 < (rs.getD k rt0).2.1
  ca : i.1 = 9 → 0 ≤ at14 rs i.2.2.2.2 ∧ at14 rs i.2.2.2.2 < rs.length ∧ (rs.getD (at14 rs i.2.2.2.2).toNat rt0).2.1 = i.2.2.1
theorem ir_of {rs : List Rt} (h : imageB rs = true) {k p : Nat} (hk : k < rs.length) (hp : p < (rs.getD k rt0).2.2.length) : Ir14 rs k p ((rs.getD k rt0).2.2.getD p in0) := by
  have h1 := (of_decide_eq_true h).1 k hk
  obtain ⟨hr, _, hc⟩ := h1
  obtain ⟨_, _, hco, har⟩ := rtB_parts hr
  have hcd := of_decide_eq_true hco
  have hm : (rs.getD k rt0).2.2.getD p in0 ∈ (rs.getD k rt0).2.2 := mem_getR hp
  refine ⟨rfl, (hcd.2.1 _ hm).1, fun h8 h10 => ?_, fun e => (hcd.2.1 _ hm).2 e, fun h2 => ?_, fun h9 => ?_⟩
  · rcases Nat.lt_or_ge (p + 1) (rs.getD k rt0).2.2.length with hl | hl
    · exact hl
    · have e : p = (rs.getD k rt0).2.2.length - 1 := by omega
      rw [e] at h8 h10
      rcases hcd.2.2 with q | q
      · exact absurd q h10
      · exact absurd q h8
  · have h3 := List.all_eq_true.1 har _ hm
    unfold argB at h3
    rw [h2] at h3
    simp at h3
    exact h3
  · have h3 := List.all_eq_true.1 hc _ hm
    unfold clsB at h3
    rw [h9] at h3
    simp only [ne_eq, not_true_eq_false, decide_false, Bool.false_or, Bool.and_eq_true, decide_eq_true_eq] at h3
    exact ⟨h3.1, (at14_bd _ _).2, h3.2⟩
section
variable {rs : List Rt} {k p : Nat} {xs row : List Int} {i : In13}
theorem Ir14.s1 (h : Ir14 rs k p i) (hk : i.1 = 1) : step14 rs k xs row (p : Int) = .go (row.set i.2.1.toNat i.2.2.1) ((p : Int) + 1) := by
  unfold step14; simp only [Int.toNat_natCast, h.e]; rw [if_pos hk]
theorem Ir14.s2 (h : Ir14 rs k p i) (hk : i.1 = 2) : step14 rs k xs row (p : Int) = .go (row.set i.2.1.toNat (xs.getD i.2.2.1.toNat 0)) ((p : Int) + 1) := by
  unfold step14; simp only [Int.toNat_natCast, h.e]; rw [if_neg (by omega), if_pos hk]
theorem Ir14.s7 (h : Ir14 rs k p i) (hk : i.1 = 7) : step14 rs k xs row (p : Int) = .go row (if row.getD i.2.1.toNat 0 = 0 then i.2.2.1 else (p : Int) + 1) := by
  unfold step14; simp only [Int.toNat_natCast, h.e]; rw [if_neg (by omega), if_neg (by omega), if_pos hk]
theorem Ir14.s8 (h : Ir14 rs k p i) (hk : i.1 = 8) : step14 rs k xs row (p : Int) = .go row i.2.2.1 := by
  unfold step14; simp only [Int.toNat_natCast, h.e]; rw [if_neg (by omega), if_neg (by omega), if_neg (by omega), if_pos hk]
theorem Ir14.s9 (h : Ir14 rs k p i) (hk : i.1 = 9) : step14 rs k xs row (p : Int) = .call (at14 rs i.2.2.2.2).toNat ((row.drop i.2.1.toNat).take i.2.2.1.toNat) i.2.1.toNat := by
  unfold step14; simp only [Int.toNat_natCast, h.e]; rw [if_neg (by omega), if_neg (by omega), if_neg (by omega), if_neg (by omega), if_pos hk]
theorem Ir14.s10 (h : Ir14 rs k p i) (hk : i.1 = 10) : step14 rs k xs row (p : Int) = .stop (row.getD i.2.1.toNat 0) 0 := by
  unfold step14; simp only [Int.toNat_natCast, h.e]; rw [if_neg (by omega), if_neg (by omega), if_neg (by omega), if_neg (by omega), if_neg (by omega), if_pos hk]
theorem Ir14.s3 (h : Ir14 rs k p i) (hk : 3 ≤ i.1 ∧ i.1 ≤ 6) : step14 rs k xs row (p : Int) = if doneB i.1 (row.getD i.2.2.1.toNat 0) (row.getD i.2.2.2.1.toNat 0) = true then .go (row.set i.2.1.toNat (doneV i.1 (row.getD i.2.2.1.toNat 0) (row.getD i.2.2.2.1.toNat 0))) ((p : Int) + 1) else .stop 0 1 := by
  unfold step14; simp only [Int.toNat_natCast, h.e]; rw [if_neg (by omega), if_neg (by omega), if_neg (by omega), if_neg (by omega), if_neg (by omega), if_neg (by omega)]
end
theorem intsV_setR (l : List Int) (j : Nat) (v : Int) : (intsV l).set j (.int .i64 v) = intsV (l.set j v) := by
  unfold intsV
  rw [List.map_set]

/-- A run: its block is gR, its registers are in gr. -/
structure Rn14 (B w X : World) (gR gr : Nat) (tv : Value) (f c : Int) (row : List Int) : Prop where
  blk : X.heap[gR]? = some (.cells #[tv, .int .i64 f, .int .i64 c] 65 (0, 0))
  rw : X.ownsRow w.heap.size 2 1 (.slice (some ⟨gr, 0, none⟩) 64 64) 64 (intsV row)
  wr : WroteR w X (fun q => q = gR)
  gl : gR < w.heap.size
  bB : Below B.heap.size B X
  Bg : B.heap.size ≤ gR
def fu14 (X : World) (gR : Nat) : Nat := match X.cell? ⟨gR, 1, none⟩ with
  | some (.int _ n) => n.toNat
  | _ => 0
section
variable {B w X Y : World} {gR gr : Nat} {tv : Value} {f c f' c' : Int} {row : List Int}
theorem Rn14.c0 (h : Rn14 B w X gR gr tv f c row) : X.cell? ⟨gR, 0, none⟩ = some tv := by rw [cell_of_row _ _ _ _ _ _ h.blk]; rfl
theorem Rn14.c1 (h : Rn14 B w X gR gr tv f c row) : X.cell? ⟨gR, 1, none⟩ = some (.int .i64 f) := by rw [cell_of_row _ _ _ _ _ _ h.blk]; rfl
theorem Rn14.c2 (h : Rn14 B w X gR gr tv f c row) : X.cell? ⟨gR, 2, none⟩ = some (.int .i64 c) := by rw [cell_of_row _ _ _ _ _ _ h.blk]; rfl
theorem Rn14.fz (h : Rn14 B w X gR gr tv f c row) (j : Nat) : X.frozen? ⟨gR, j, none⟩ = false := frozen_of_row _ _ _ _ _ h.blk
theorem Rn14.fu (h : Rn14 B w X gR gr tv f c row) : fu14 X gR = f.toNat := by unfold fu14; rw [h.c1]
theorem Rn14.len (h : Rn14 B w X gR gr tv f c row) : row.length = 64 := by have := h.rw.1; rw [intsV_len] at this; omega
theorem Rn14.gg (h : Rn14 B w X gR gr tv f c row) : gr ≠ gR := by have := (h.rw.lt gr rfl).1; have := h.gl; omega
theorem Rn14.cr (h : Rn14 B w X gR gr tv f c row) (j : Nat) (hj : j < 64) : X.cell? ⟨gr, j, none⟩ = some (.int .i64 (row.getD j 0)) := ints_cell h.rw j (by rw [h.len]; exact hj)
theorem Rn14.fr (h : Rn14 B w X gR gr tv f c row) (j : Nat) : X.frozen? ⟨gr, j, none⟩ = false := h.rw.frozenAt j
theorem Rn14.below (h : Rn14 B w X gR gr tv f c row) (hb : Below X.heap.size X Y) : Rn14 B w Y gR gr tv f c row :=
  ⟨(hb.block gR (Nat.lt_of_lt_of_le h.gl h.wr.size)).trans h.blk, own_below h.rw hb, h.wr.trans (WroteR.of_below hb), h.gl, h.bB.trans (hb.mono h.bB.size), h.Bg⟩
theorem Rn14.drew (h : Rn14 B w X gR gr tv f c row) : Rn14 B w X.drew gR gr tv f c row := h.below ⟨rfl, rfl, rfl, Nat.le_refl _, fun _ _ => rfl⟩
/-- The run's block is written, by whomever. -/
theorem Rn14.call (h : Rn14 B w X gR gr tv f c row) (hw : WroteR X Y (fun q => q = gR)) (hb : Y.heap[gR]? = some (.cells #[tv, .int .i64 f', .int .i64 c'] 65 (0, 0))) : Rn14 B w Y gR gr tv f' c' row :=
  ⟨hb, own_wroteR h.rw hw (fun q e1 e2 => by subst e2; have := (h.rw.lt _ e1).1; have := h.gl; omega), h.wr.trans hw, h.gl, h.bB.trans (hw.below h.bB.size (fun q e => by rw [e]; exact h.Bg)), h.Bg⟩
theorem Rn14.set (h : Rn14 B w X gR gr tv f c row) (j : Nat) (v : Value) (hv : (#[tv, .int .i64 f, .int .i64 c] : Array Value).setIfInBounds j v = #[tv, .int .i64 f', .int .i64 c']) : Rn14 B w (X.setCell ⟨gR, j, none⟩ v) gR gr tv f' c' row :=
  h.call (WroteR.of_grown (grown_set X gR j v) (fun q e => by injection e with e; exact e.symm)) (by rw [heap_setCell_same _ _ _ _ _ _ h.blk, hv])
theorem Rn14.put (h : Rn14 B w X gR gr tv f c row) (j : Nat) (v : Int) : Rn14 B w (X.setCell ⟨gr, j, none⟩ (.int .i64 v)) gR gr tv f c (row.set j v) := by
  have hs := h.rw.stored j (.int .i64 v)
  rw [intsV_setR] at hs
  have hg := h.gg
  have hl := h.rw.lt gr rfl
  refine ⟨(hs.2.block gR (Nat.lt_of_lt_of_le h.gl h.wr.size) (by intro e; injection e with e; exact hg e.symm)).trans h.blk, hs.1, ?_, h.gl, h.bB.grown hs.2 h.bB.size (fun q e => by injection e with e; have := h.gl; have := h.Bg; omega), h.Bg⟩
  exact ⟨hs.2.os.trans h.wr.os, hs.2.tape.trans h.wr.tape, hs.2.output.trans h.wr.output, Nat.le_trans h.wr.size hs.2.size, fun q hq hn => (hs.2.block q (Nat.lt_of_lt_of_le hq h.wr.size) (by intro e; injection e with e; omega)).trans (h.wr.block q hq hn)⟩
end

set_option maxHeartbeats 1000000 in
set_option maxRecDepth 100000 in
theorem specCopy14 (b off n c : Nat) (xs : List Int) (w : World) (hl : xs.length = n) (hc : ∀ j, j < n → w.cell? ⟨b, off + j, none⟩ = some (.int .i64 (xs.getD j 0))) (hn : n ≤ 1000) :
    Calls Try.prog 57 #[.slice (some ⟨b, off, none⟩) n c] w fun e w' => ∃ a' c', e = .returned (.slice a' n c') ∧ (∀ j, j < n → ∃ b' off', a' = some ⟨b', off', none⟩ ∧ w.heap.size ≤ b' ∧ b' < w'.heap.size ∧ w'.cell? ⟨b', off' + j, none⟩ = some (.int .i64 (xs.getD j 0))) ∧ Below w.heap.size w w' := by
  obtain ⟨i0, hi, hz0, hz1, hz2⟩ := info_parts info2
  have hb0 : Below w.heap.size w (w.alloc (.cells #[] 2)) := (Below.refl _ _).alloc (Nat.le_refl _) _
  have hP0 : (w.alloc (.cells #[] 2)).ownsRow w.heap.size 2 1 (.slice (some ⟨w.heap.size, 0, none⟩) 0 0) 0 [] := World.ownsRow_lit w #[] 0 (Nat.le_refl _) (by decide) rfl
  have hsrc : Src (w.alloc (.cells #[] 2)) (.slice (some ⟨b, off, none⟩) n c) n 1 (intsV xs) := by
    refine ⟨by rw [intsV_len, hl, Nat.mul_one], intsV_one _, Or.inr ⟨_, c, rfl, fun j u hu => ?_⟩⟩
    have hj : j < n := by have := (List.getElem?_eq_some_iff.1 hu).1; rw [intsV_len, hl] at this; exact this
    rw [add_plainR]
    have h1 := hc j hj
    have h2 : (intsV xs)[j]? = some (.int .i64 (xs.getD j 0)) := by simp [intsV, List.getD, show j < xs.length by omega]
    rw [h2] at hu
    injection hu with hu
    rw [← hu]
    exact cell_alwR _ h1
  obtain ⟨v', Y, hrun, hown, hg, _⟩ := run_append_src (P := Try.prog) (w.alloc (.cells #[] 2)) w.heap.size 27 27 2 i0 _ 1 8 Try.underlying27 hi hz0 hz1 hz2 rfl (by decide) _ _ _ hP0 _ n (intsV xs) hsrc (by unfold maxLen; omega) (by omega) hb0.size
  rw [Nat.zero_add, List.nil_append] at hown
  obtain ⟨a', c', rfl⟩ := own_any12 hown
  have HF : Hid ((∀ j, j < n → ∃ b' off', a' = some ⟨b', off', none⟩ ∧ w.heap.size ≤ b' ∧ b' < Y.heap.size ∧ Y.cell? ⟨b', off' + j, none⟩ = some (.int .i64 (xs.getD j 0))) ∧ Below w.heap.size w Y) := by
    refine ⟨fun j hj => ?_, hb0.grown hg hb0.size (fun q e => by have : w.heap.size = q := by simpa [Value.ownBlock] using e
                                                                 omega)⟩
    obtain ⟨g, cp, e⟩ := own_some hown (by omega)
    injection e with e1 _ e3
    subst e1 e3
    have hgl := hown.lt g rfl
    exact ⟨g, 0, rfl, hgl.1, hgl.2, by rw [Nat.zero_add]; exact ints_cell hown j (by omega)⟩
  clear hown hg hsrc hP0 hb0 hc hl
  go_enter Try.func57, Try.ntmps57
  go_wp2_with (at_builtin; refine wpList_append_run rfl (.tmp 3) (.tmp 4) 27 rfl _ _ _ rfl rfl hrun ?_; clear hrun)
  go_ret
  exact ⟨_, _, rfl, HF.out⟩

end Go.Proofs.Ytnflkecnddbhoaa
