/-
  Parts of one proof, one behind the other: ImgS4.
-/
import Derived.Test.YtnflkecnddbhoaaP26
import Derived.Test.YtnflkecnddbhoaaP1

/-! The contracts of chapter 14's specification: l14Call. -/
namespace Go.Proofs.Ytnflkecnddbhoaa
open Go.RowKit

/-- And its instruction, in a block of its own. -/
structure Ri14 (B w X : World) (gR gr N : Nat) (tv : Value) (f c : Int) (row : List Int) (i : In13) : Prop where
  r : Rn14 B w X gR gr tv f c row
  i0 : X.cell? ⟨N, 0, none⟩ = some (.int .i64 i.1)
  i1 : X.cell? ⟨N, 1, none⟩ = some (.int .i64 i.2.1)
  i2 : X.cell? ⟨N, 2, none⟩ = some (.int .i64 i.2.2.1)
  i3 : X.cell? ⟨N, 3, none⟩ = some (.int .i64 i.2.2.2.1)
  i4 : X.cell? ⟨N, 4, none⟩ = some (.string ⟨i.2.2.2.2.toArray⟩)
  ng : N ≠ gR
section
variable {B w X Y : World} {gR gr N : Nat} {tv : Value} {f c f' c' : Int} {row : List Int} {i : In13}
theorem Ri14.keep (t : Ri14 B w X gR gr N tv f c row i) (h : Rn14 B w Y gR gr tv f' c' row) (hb : Y.heap[N]? = X.heap[N]?) : Ri14 B w Y gR gr N tv f' c' row i :=
  ⟨h, (World.cell?_of_block (a := ⟨N, 0, none⟩) hb).trans t.i0, (World.cell?_of_block (a := ⟨N, 1, none⟩) hb).trans t.i1, (World.cell?_of_block (a := ⟨N, 2, none⟩) hb).trans t.i2, (World.cell?_of_block (a := ⟨N, 3, none⟩) hb).trans t.i3, (World.cell?_of_block (a := ⟨N, 4, none⟩) hb).trans t.i4, t.ng⟩
theorem Ri14.lt (t : Ri14 B w X gR gr N tv f c row i) : N < X.heap.size := World.block_lt_of_cell? X ⟨N, 0, none⟩ t.i0
theorem Ri14.below (t : Ri14 B w X gR gr N tv f c row i) (hb : Below X.heap.size X Y) : Ri14 B w Y gR gr N tv f c row i := t.keep (t.r.below hb) (hb.block N t.lt)
theorem Ri14.drew (t : Ri14 B w X gR gr N tv f c row i) : Ri14 B w X.drew gR gr N tv f c row i := t.below ⟨rfl, rfl, rfl, Nat.le_refl _, fun _ _ => rfl⟩
end
/-- What is asked of l14Call with this much fuel. -/
def Cal14 (B : World) (rs : List Rt) (ia : Option Addr) (ic gR f : Nat) : Prop := ∀ (w : World) (k : Nat) (xs : List Int) (aa : Option Addr) (ac : Nat),
  w.heap[gR]? = some (.cells #[.slice ia rs.length ic, .int .i64 (f : Int), .int .i64 0] 65 (0, 0)) → Below B.heap.size B w → B.heap.size ≤ gR → k < rs.length → (xs.length : Int) = (rs.getD k rt0).2.1 → WordL xs → (∀ j, j < xs.length → ∃ b off, aa = some ⟨b, off, none⟩ ∧ b ≠ gR ∧ b < w.heap.size ∧ w.cell? ⟨b, off + j, none⟩ = some (.int .i64 (xs.getD j 0))) →
  Calls Try.prog 29 #[.pointer (some ⟨gR, 0, none⟩), .int .i64 (k : Int), .slice aa xs.length ac] w fun e w' => e = .returned (.int .i64 (run14 rs f f k xs row14 0).1) ∧ WroteR w w' (fun q => q = gR) ∧ w'.heap[gR]? = some (.cells #[.slice ia rs.length ic, .int .i64 ((run14 rs f f k xs row14 0).2.2 : Int), .int .i64 (run14 rs f f k xs row14 0).2.1] 65 (0, 0))
theorem made14 : (madeCells (Value.int .i64 0).cells (64 * 1)).toList = intsV row14 := by kernel_rfl
theorem args_ne {w X : World} {gR : Nat} {aa : Option Addr} {xs : List Int} (h : ∀ j, j < xs.length → ∃ b off, aa = some ⟨b, off, none⟩ ∧ b ≠ gR ∧ b < w.heap.size ∧ w.cell? ⟨b, off + j, none⟩ = some (.int .i64 (xs.getD j 0))) (hw : WroteR w X (fun q => q = gR)) {j : Nat} (hj : j < xs.length) : ∃ b off, aa = some ⟨b, off, none⟩ ∧ X.cell? ⟨b, off + j, none⟩ = some (.int .i64 (xs.getD j 0)) := by
  obtain ⟨b, off, e, hne, hl, hc⟩ := h j hj
  exact ⟨b, off, e, (World.cell?_of_block (a := ⟨b, off + j, none⟩) (hw.block b hl hne)).trans hc⟩

set_option maxHeartbeats 16000000 in
set_option maxRecDepth 100000 in
theorem specCall14 (B : World) (rs : List Rt) (ia : Option Addr) (ic gR : Nat) (hin : RtsIn B ia rs.length rs) (hp : imageB rs = true) (f : Nat) (hf : f ≤ 20000) (ih : ∀ m, m < f → Cal14 B rs ia ic gR m) : Cal14 B rs ia ic gR f := by
  intro w k xs aa ac hblk hBw hBg hk hxl hxw hargs
  obtain ⟨b, off, rfl, hbl, -, -, ca, cl, cc, q2, hins⟩ := hin.2 k hk
  have HQ : Hid (∀ V, Below B.heap.size B V → V.cell? ⟨b, off + k * 3 + 2, none⟩ = some (.slice ca cl cc) ∧ InsIn V ca cl (rs.getD k rt0).2.2) := fun V hV => ⟨(hV.cell (p := ⟨b, off + k * 3 + 2, none⟩) hbl).trans q2, hins.below hV⟩
  have hcl : (rs.getD k rt0).2.2.length = cl := hins.1
  have hrt := image_rts hp _ (by rw [List.getD_eq_getElem?_getD, List.getElem?_eq_getElem hk]; exact List.getElem_mem hk : rs.getD k rt0 ∈ rs)
  have hco := (rtB_parts hrt).2.2.1
  have hn3 := (rtB_parts hrt).2.1
  have hc200 := codeB_len hco
  have HIr : Hid (∀ p, p < cl → Ir14 rs k p ((rs.getD k rt0).2.2.getD p in0)) := fun p hp2 => ir_of hp hk (by omega)
  have HAt : Hid (∀ (V : World) (s : List UInt8), Below B.heap.size B V → Calls Try.prog 26 #[.slice (some ⟨b, off, none⟩) rs.length ic, .string ⟨s.toArray⟩] V fun e w' => e = .returned (.int .i64 (at14 rs s)) ∧ w' = V) := fun V s hV => specAt14 (some ⟨b, off, none⟩) rs.length ic rs s V (hin.below hV) (by have := (of_decide_eq_true hp).2; omega)
  have hgl : gR < w.heap.size := lt_of_block hblk
  obtain ⟨i0, hi0, hz0, hz1, hz2⟩ := info_parts info2
  obtain ⟨gr, hgr⟩ : ∃ gr, w.heap.size = gr := ⟨_, rfl⟩
  have HS0 : Hid (∀ W1, W1.ownsRow w.heap.size 2 1 (.slice (some ⟨w.heap.size, 0, none⟩) 64 64) 64 (madeCells (Value.int .i64 0).cells (64 * 1)).toList → w.grownBy W1 none → Rn14 B w W1 gR gr (.slice (some ⟨b, off, none⟩) rs.length ic) (f : Int) 0 row14) := fun W1 ho1 hg1 => by
    rw [made14] at ho1
    have hB1 : Below w.heap.size w W1 := (Below.refl _ _).grown hg1 (Nat.le_refl _) (by simp)
    subst hgr
    exact ⟨(hB1.block gR hgl).trans hblk, ho1, WroteR.of_below hB1, hgl, hBw.trans (hB1.mono hBw.size), hBg⟩
  have c0 : w.cell? ⟨gR, 0, none⟩ = some (.slice (some ⟨b, off, none⟩) rs.length ic) := by rw [cell_of_row _ _ _ _ _ _ hblk]; rfl
  have q2w := (HQ.out w hBw).1
  obtain ⟨RR, hRR⟩ : ∃ RR, run14 rs f f k xs row14 0 = RR := ⟨_, rfl⟩
  rw [hRR]
  have HR0 : Hid (run14 rs f f k xs row14 0 = RR) := hRR
  have HAr : Hid (∀ X, WroteR w X (fun q => q = gR) → ∀ j, j < xs.length → ∃ b off, aa = some ⟨b, off, none⟩ ∧ X.cell? ⟨b, off + j, none⟩ = some (.int .i64 (xs.getD j 0))) := fun X hX j hj => args_ne hargs hX hj
  have HX : Hid (WordL xs ∧ (xs.length : Int) = (rs.getD k rt0).2.1) := ⟨hxw, hxl⟩
  have HIh : Hid (∀ m, m < f → Cal14 B rs (some ⟨b, off, none⟩) ic gR m) := ih
  have HRf : Hid (∀ row, WordL row → ∀ j, -2147483648 ≤ row.getD j 0 ∧ row.getD j 0 ≤ 2147483647) := fun row hr j => hr.at j
  have HWs : Hid (∀ (m k2 : Nat) (ys : List Int), WordL ys → (-2147483648 ≤ (run14 rs m m k2 ys row14 0).1 ∧ (run14 rs m m k2 ys row14 0).1 ≤ 2147483647)) := fun m k2 ys hy => (run14_words hp m m k2 ys row14 0 hy row14_words).1
  have HLf : Hid (∀ (m k2 : Nat) (ys : List Int), (run14 rs m m k2 ys row14 0).2.2 ≤ m) := fun m k2 ys => run14_left rs m m k2 ys row14 0
  have hn64 : rs.length ≤ 64 := (of_decide_eq_true hp).2.2
  have hcl1 : 1 ≤ cl := by omega
  have hcl2 : cl ≤ 200 := by omega
  have hkl : (k : Int) < (rs.length : Int) := by omega
  have HBg : Hid (B.heap.size ≤ gR ∧ gR < w.heap.size) := ⟨hBg, hgl⟩
  have HCl : Hid ((rs.getD k rt0).2.2.length = cl) := hcl
  have hxl3 : xs.length ≤ 3 := by omega
  obtain ⟨nr, hnr⟩ : ∃ nr, rs.length = nr := ⟨_, rfl⟩
  obtain ⟨nx, hnx⟩ : ∃ nx, xs.length = nx := ⟨_, rfl⟩
  have HNr : Hid (rs.length = nr ∧ xs.length = nx) := ⟨hnr, hnx⟩
  rw [hnr] at hkl hn64 HAt HS0 c0 ⊢
  rw [hnx] at hxl3 HAr ⊢
  clear hargs hblk hBw hBg hxl hxw hins hin hp hrt hco hc200 hgl hRR ih hcl q2 hbl hnr hnx hk hn3
  go_enter Try.func29, Try.ntmps29
  go_wp2_with (at_make; refine wpList_make_full _ rfl _ _ 27 rfl w.heap.size 2 i0 _ 1 Try.underlying27 hi0 hz0 hz1 .i64 .i64 _ _ 64 rfl rfl rfl rfl (by rw [hz2]; omega) (by unfold maxLen; omega) (Nat.le_refl _) ?_; intro W1 ho1 hg1)
  replace HS0 : Hid (Rn14 B w W1 gR gr (.slice (some ⟨b, off, none⟩) nr ic) (f : Int) 0 row14) := HS0.out W1 ho1 hg1
  clear ho1 hg1 c0 q2w hi0 hz0 hz1 hz2
  go_loopw [9] (fun pv wx => ∃ (f2 : Nat) (row : List Int) (p : Nat), pv = .int .i64 (p : Int) ∧ p < cl ∧ Hid (Rn14 B w wx gR gr (.slice (some ⟨b, off, none⟩) nr ic) (f2 : Int) 0 row) ∧ Hid (WordL row ∧ f2 ≤ f ∧ run14 rs f2 f2 k xs row (p : Int) = RR)) (fun _ wx => fu14 wx gR)
  case atStart => exact ⟨f, row14, 0, rfl, by omega, HS0.out, row14_words, Nat.le_refl _, HR0.out⟩
  case round =>
    obtain ⟨f2, row, p, rfl, hp, sr, HM⟩ := hrel
    clear HS0
    have c1 := sr.out.c1
    have hfz := sr.out.fz
    have hfz1 := hfz 1
    have hfz2 := hfz 2
    clear hfz
    rcases f2 with _ | m
    · have HF : Hid (RR = (0, 2, 0)) := by exact (by rw [← HM.out.2.2]; rfl : RR = (0, 2, 0))
      have s1 : Hid (Rn14 B w (wr.setCell ⟨gR, 2, none⟩ (.int .i64 2)) gR gr (.slice (some ⟨b, off, none⟩) nr ic) 0 2 row) := sr.out.set 2 _ rfl
      replace c1 : wr.cell? ⟨gR, 1, none⟩ = some (.int .i64 0) := c1
      have c2 := sr.out.c2
      obtain ⟨X1, hX1⟩ : ∃ X1, wr.setCell ⟨gR, 2, none⟩ (.int .i64 2) = X1 := ⟨_, rfl⟩
      rw [hX1] at s1
      clear sr HM
      go_wp2
      go_ret
      rw [HF.out]
      exact ⟨rfl, s1.out.wr, s1.out.blk⟩
    have hfm := sr.out.fu
    obtain ⟨FF, hFF⟩ : ∃ FF, ((m + 1 : Nat) : Int) = FF := ⟨_, rfl⟩
    rw [hFF] at c1 sr
    have hF0 : (FF == 0) = false := beq_eq_false_iff_ne.2 (by omega)
    have hFG : FF - 1 = (m : Int) := by omega
    have hFb : FF ≤ 20001 := by have := HM.out.2.1; omega
    have hF1 : 1 ≤ FF := by omega
    have s1 : Rn14 B w (wr.setCell ⟨gR, 1, none⟩ (.int .i64 (m : Int))) gR gr (.slice (some ⟨b, off, none⟩) nr ic) (m : Int) 0 row := sr.out.set 1 _ rfl
    have HFm : Hid (fu14 wr gR = m + 1) := by exact (by rw [hfm]; rfl : fu14 wr gR = m + 1)
    obtain ⟨X1, hX1⟩ : ∃ X1, wr.setCell ⟨gR, 1, none⟩ (.int .i64 (m : Int)) = X1 := ⟨_, rfl⟩
    rw [hX1] at s1
    obtain ⟨bc, oc, rfl, hbc, x0, x1, x2, x3, x4⟩ := (HQ.out X1 s1.bB).2.2 p hp
    have hir := HIr.out p hp
    obtain ⟨i, hi⟩ : ∃ i, (rs.getD k rt0).2.2.getD p in0 = i := ⟨_, rfl⟩
    rw [hi] at x0 x1 x2 x3 x4 hir
    obtain ⟨kd, R, A, Bq, nm⟩ := i
    simp only at x0 x1 x2 x3 x4
    obtain ⟨N, hN⟩ : ∃ N, wr.heap.size = N := ⟨_, rfl⟩
    have hN1 : X1.heap.size = N := by rw [← hX1, ← hN]; simp
    have hA2 := heap_alloc_new X1 (.cells #[.int .i64 kd, .int .i64 R, .int .i64 A, .int .i64 Bq, .string ⟨nm.toArray⟩] 74)
    have hb2 : Below X1.heap.size X1 (X1.alloc (.cells #[.int .i64 kd, .int .i64 R, .int .i64 A, .int .i64 Bq, .string ⟨nm.toArray⟩] 74)) := (Below.refl _ _).alloc (Nat.le_refl _) _
    obtain ⟨X2, hX2⟩ : ∃ X2, X1.alloc (.cells #[.int .i64 kd, .int .i64 R, .int .i64 A, .int .i64 Bq, .string ⟨nm.toArray⟩] 74) = X2 := ⟨_, rfl⟩
    rw [hX2, hN1] at hA2
    rw [hX2] at hb2
    have hNg : N ≠ gR := by have := HBg.out.2; have := sr.out.wr.size; omega
    have ti : Hid (Ri14 B w X2 gR gr N (.slice (some ⟨b, off, none⟩) nr ic) (m : Int) 0 row (kd, R, A, Bq, nm)) := ⟨s1.below hb2, by simp [World.cell?, hA2], by simp [World.cell?, hA2], by simp [World.cell?, hA2], by simp [World.cell?, hA2], by simp [World.cell?, hA2], hNg⟩
    have HIR : Hid (Ir14 rs k p (kd, R, A, Bq, nm)) := hir
    have hok := hir.ok.2.2
    simp only at hok
    have j0 := ti.out.i0
    have j1 := ti.out.i1
    have j2 := ti.out.i2
    have j3 := ti.out.i3
    simp only at j0 j1 j2 j3
    have hpb : (p : Int) < (cl : Int) := by omega
    have hp200 : p ≤ 200 := by omega
    clear s1 hi hir hA2 hb2 hNg hfm sr hbc hfz2
    by_cases h1 : kd = 1
    · subst h1
      obtain ⟨ρ, rfl⟩ : ∃ ρ : Nat, R = (ρ : Int) := Int.eq_ofNat_of_zero_le (by omega)
      have hnx : p + 1 < cl := by have h := HIR.out.nx (by simp) (by simp); rw [HCl.out] at h; exact h
      have hρ : (ρ : Int) < 64 := by omega
      have e0 := ti.out.r.cr ρ (by omega)
      have e1 := ti.out.r.fr ρ
      have HN : Hid (Rn14 B w (X2.setCell ⟨gr, ρ, none⟩ (.int .i64 A)) gR gr (.slice (some ⟨b, off, none⟩) nr ic) (m : Int) 0 (row.set ρ A)) := ti.out.r.put ρ A
      have HM2 : Hid (WordL (row.set ρ A) ∧ m ≤ f ∧ run14 rs m m k xs (row.set ρ A) ((p + 1 : Nat) : Int) = RR) := ⟨HM.out.1.set _ (by omega), by have := HM.out.2.1; omega, by rw [← HM.out.2.2, run14_go (HIR.out.s1 rfl)]; rfl⟩
      clear HM ti HIR hok j3
      go_wp2
      go_roundw
      case rel => exact ⟨m, row.set ρ A, p + 1, by first | rfl | go_num, hnx, HN, HM2⟩
      case measure => rw [HFm.out]; exact Nat.lt_of_le_of_lt (Nat.le_of_eq (HN.out.fu.trans (Int.toNat_natCast _))) (by omega)
    by_cases h2 : kd = 2
    · subst h2
      obtain ⟨ρ, rfl⟩ : ∃ ρ : Nat, R = (ρ : Int) := Int.eq_ofNat_of_zero_le (by omega)
      obtain ⟨α, rfl⟩ : ∃ α : Nat, A = (α : Int) := Int.eq_ofNat_of_zero_le (by omega)
      have hnx : p + 1 < cl := by have h := HIR.out.nx (by simp) (by simp); rw [HCl.out] at h; exact h
      have hρ : (ρ : Int) < 64 := by omega
      have hal : α < nx := by have h := HIR.out.ar rfl; rw [← HX.out.2, HNr.out.2] at h; simp only at h; omega
      have hal2 : (α : Int) < (nx : Int) := by omega
      have HA3 : Hid (∀ X, WroteR w X (fun q => q = gR) → ∃ b off, aa = some ⟨b, off, none⟩ ∧ X.cell? ⟨b, off + α, none⟩ = some (.int .i64 (xs.getD α 0))) := fun X hX => HAr.out X hX α hal
      obtain ⟨ba, oa, rfl, -⟩ := HA3.out _ ti.out.r.wr
      have HA4 : Hid (∀ X, WroteR w X (fun q => q = gR) → X.cell? ⟨ba, oa + α, none⟩ = some (.int .i64 (xs.getD α 0))) := fun X hX => by
        obtain ⟨b3, o3, e, h3⟩ := HA3.out X hX
        injection e with e
        injection e with e4 e5 _
        subst e4 e5
        exact h3
      have HN : Hid (Rn14 B w (X2.drew.setCell ⟨gr, ρ, none⟩ (.int .i64 (xs.getD α 0))) gR gr (.slice (some ⟨b, off, none⟩) nr ic) (m : Int) 0 (row.set ρ (xs.getD α 0))) := ti.out.r.drew.put ρ _
      have HM2 : Hid (WordL (row.set ρ (xs.getD α 0)) ∧ m ≤ f ∧ run14 rs m m k xs (row.set ρ (xs.getD α 0)) ((p + 1 : Nat) : Int) = RR) := ⟨HM.out.1.set _ (HX.out.1.at α), by have := HM.out.2.1; omega, by rw [← HM.out.2.2, run14_go (HIR.out.s2 rfl)]; rfl⟩
      have e0 := ti.out.r.drew.cr ρ (by omega)
      have e1 := ti.out.r.drew.fr ρ
      generalize xs.getD α 0 = xa at HN HM2 HA4
      clear HM HIR hok HA3
      go_wp2
      refine Till.region (S := fun X => Ri14 B w X gR gr N (.slice (some ⟨b, off, none⟩) nr ic) (m : Int) 0 row (2, (ρ : Int), (α : Int), Bq, nm)) (E := [9]) (by kernel_rfl) ti.out.drew (fun hHeld hSh => ?_)
      refine Till.take (i := 0) (o := ⟨some 84, _, _, _, _, _⟩) (v := ?vk20) (d := 30) rfl (by kernel_rfl) (by kernel_rfl) (by kernel_rfl) (by kernel_rfl) (fun _ _ _ h => h) (Or.inl ⟨by rfl, ?hyk20⟩) (by assumption) hSh (fun hSh2 => ?restk20)
      case hyk20 => (intro wq hSw; have y1 := hSw.i1; have y2 := hSw.i2; dsimp only at y1 y2; have y3 := HA4.out _ hSw.r.wr; clear hSw; first | (go_simp; done) | (go_simp; with_reducible rfl))
      clear hSh; rename Shut11 _ _ _ => hSh
      simp only [Act.put, List.setIfInBounds_toArray, List.set_cons_zero, List.set_cons_succ]
      refine Till.take (i := 1) (o := ⟨some 85, _, _, _, _, _⟩) (v := ?vk21) (d := 30) rfl (by kernel_rfl) (by kernel_rfl) (by kernel_rfl) (by kernel_rfl) (fun _ _ _ h => h) (Or.inl ⟨by rfl, ?hyk21⟩) (by assumption) hSh (fun hSh2 => ?restk21)
      case hyk21 => (intro wq hSw; have y1 := hSw.i1; have y2 := hSw.i2; dsimp only at y1 y2; have y3 := HA4.out _ hSw.r.wr; clear hSw; first | (go_simp; done) | (go_simp; with_reducible rfl))
      clear hSh; rename Shut11 _ _ _ => hSh
      simp only [Act.put, List.setIfInBounds_toArray, List.set_cons_zero, List.set_cons_succ]
      refine Till.take (i := 2) (o := ⟨some 86, _, _, _, _, _⟩) (v := ?vk22) (d := 30) rfl (by kernel_rfl) (by kernel_rfl) (by kernel_rfl) (by kernel_rfl) (fun _ _ _ h => h) (Or.inl ⟨by rfl, ?hyk22⟩) (by assumption) hSh (fun hSh2 => ?restk22)
      case hyk22 => (intro wq hSw; have y1 := hSw.i1; have y2 := hSw.i2; dsimp only at y1 y2; have y3 := HA4.out _ hSw.r.wr; clear hSw; first | (go_simp; done) | (go_simp; with_reducible rfl))
      clear hSh; rename Shut11 _ _ _ => hSh
      simp only [Act.put, List.setIfInBounds_toArray, List.set_cons_zero, List.set_cons_succ]
      refine Till.take (i := 3) (o := ⟨some 87, _, _, _, _, _⟩) (v := ?vk23) (d := 30) rfl (by kernel_rfl) (by kernel_rfl) (by kernel_rfl) (by kernel_rfl) (fun _ _ _ h => h) (Or.inl ⟨by rfl, ?hyk23⟩) (by assumption) hSh (fun hSh2 => ?restk23)
      case hyk23 => (intro wq hSw; have y1 := hSw.i1; have y2 := hSw.i2; dsimp only at y1 y2; have y3 := HA4.out _ hSw.r.wr; clear hSw; first | (go_simp; done) | (go_simp; with_reducible rfl))
      clear hSh; rename Shut11 _ _ _ => hSh
      simp only [Act.put, List.setIfInBounds_toArray, List.set_cons_zero, List.set_cons_succ]
      refine Till.take (i := 4) (o := ⟨some 88, _, _, _, _, _⟩) (v := ?vk24) (d := 30) rfl (by kernel_rfl) (by kernel_rfl) (by kernel_rfl) (by kernel_rfl) (fun _ _ _ h => h) (Or.inl ⟨by rfl, ?hyk24⟩) (by assumption) hSh (fun hSh2 => ?restk24)
      case hyk24 => (intro wq hSw; have y1 := hSw.i1; have y2 := hSw.i2; dsimp only at y1 y2; have y3 := HA4.out _ hSw.r.wr; clear hSw; first | (go_simp; done) | (go_simp; with_reducible rfl))
      clear hSh; rename Shut11 _ _ _ => hSh
      simp only [Act.put, List.setIfInBounds_toArray, List.set_cons_zero, List.set_cons_succ]
      refine Till.take (i := 5) (o := ⟨some 89, _, _, _, _, _⟩) (v := ?vk25) (d := 30) rfl (by kernel_rfl) (by kernel_rfl) (by kernel_rfl) (by kernel_rfl) (fun _ _ _ h => h) (Or.inl ⟨by rfl, ?hyk25⟩) (by assumption) hSh (fun hSh2 => ?restk25)
      case hyk25 => (intro wq hSw; have y1 := hSw.i1; have y2 := hSw.i2; dsimp only at y1 y2; have y3 := HA4.out _ hSw.r.wr; clear hSw; first | (go_simp; done) | (go_simp; with_reducible rfl))
      clear hSh; rename Shut11 _ _ _ => hSh
      simp only [Act.put, List.setIfInBounds_toArray, List.set_cons_zero, List.set_cons_succ]
      refine Till.take (i := 6) (o := ⟨some 90, _, _, _, _, _⟩) (v := ?vk26) (d := 30) rfl (by kernel_rfl) (by kernel_rfl) (by kernel_rfl) (by kernel_rfl) (fun _ _ _ h => h) (Or.inl ⟨by rfl, ?hyk26⟩) (by assumption) hSh (fun hSh2 => ?restk26)
      case hyk26 => (intro wq hSw; have y1 := hSw.i1; have y2 := hSw.i2; dsimp only at y1 y2; have y3 := HA4.out _ hSw.r.wr; clear hSw; first | (go_simp; done) | (go_simp; with_reducible rfl))
      clear hSh; rename Shut11 _ _ _ => hSh
      simp only [Act.put, List.setIfInBounds_toArray, List.set_cons_zero, List.set_cons_succ]
      refine Till.take (i := 7) (o := ⟨some 91, _, _, _, _, _⟩) (v := ?vk27) (d := 30) rfl (by kernel_rfl) (by kernel_rfl) (by kernel_rfl) (by kernel_rfl) (fun _ _ _ h => h) (Or.inl ⟨by rfl, ?hyk27⟩) (by assumption) hSh (fun hSh2 => ?restk27)
      case hyk27 => (intro wq hSw; have y1 := hSw.i1; have y2 := hSw.i2; dsimp only at y1 y2; have y3 := HA4.out _ hSw.r.wr; clear hSw; first | (go_simp; done) | (go_simp; with_reducible rfl))
      clear hSh; rename Shut11 _ _ _ => hSh
      simp only [Act.put, List.setIfInBounds_toArray, List.set_cons_zero, List.set_cons_succ]
      refine Till.take (i := 8) (o := ⟨some 92, _, _, _, _, _⟩) (v := ?vk28) (d := 30) rfl (by kernel_rfl) (by kernel_rfl) (by kernel_rfl) (by kernel_rfl) (fun _ _ _ h => h) (Or.inl ⟨by rfl, ?hyk28⟩) (by assumption) hSh (fun hSh2 => ?restk28)
      case hyk28 => (intro wq hSw; have y1 := hSw.i1; have y2 := hSw.i2; dsimp only at y1 y2; have y3 := HA4.out _ hSw.r.wr; clear hSw; first | (go_simp; done) | (go_simp; with_reducible rfl))
      clear hSh; rename Shut11 _ _ _ => hSh
      simp only [Act.put, List.setIfInBounds_toArray, List.set_cons_zero, List.set_cons_succ]
      refine Till.last (i := 9) (by kernel_rfl) rfl (by decide) (fun K hK => ?_)
      go_simp
      refine hK.out _ _ ?_
      clear hK K
      refine Till.done (by kernel_rfl) ?_ _
      clear hHeld hSh ti
      go_wp2
      go_roundw
      case rel => exact ⟨m, row.set ρ xa, p + 1, by first | rfl | go_num, hnx, HN, HM2⟩
      case measure => rw [HFm.out]; exact Nat.lt_of_le_of_lt (Nat.le_of_eq (HN.out.fu.trans (Int.toNat_natCast _))) (by omega)
    by_cases h7 : kd = 7
    · subst h7
      obtain ⟨ρ, rfl⟩ : ∃ ρ : Nat, R = (ρ : Int) := Int.eq_ofNat_of_zero_le (by omega)
      obtain ⟨α, rfl⟩ : ∃ α : Nat, A = (α : Int) := Int.eq_ofNat_of_zero_le (by omega)
      have hρ : (ρ : Int) < 64 := by omega
      have e0 := ti.out.r.cr ρ (by omega)
      have hα : α < cl := by have h := HIR.out.pl (Or.inl rfl); rw [HCl.out] at h; simp only at h; omega
      have HN : Hid (Rn14 B w X2 gR gr (.slice (some ⟨b, off, none⟩) nr ic) (m : Int) 0 row) := ti.out.r
      have hst := HIR.out.s7 (xs := xs) (row := row) rfl
      simp only [Int.toNat_natCast] at hst
      by_cases hz : row.getD ρ 0 = 0
      · rw [if_pos hz] at hst
        rw [hz] at e0
        have HM2 : Hid (WordL row ∧ m ≤ f ∧ run14 rs m m k xs row ((α : Nat) : Int) = RR) := ⟨HM.out.1, by have := HM.out.2.1; omega, by rw [← HM.out.2.2, run14_go hst]⟩
        clear HM HIR hok hst hz j3 ti
        go_wp2
        go_roundw
        case rel => exact ⟨m, row, α, by first | rfl | go_num, hα, HN, HM2⟩
        case measure => rw [HFm.out]; exact Nat.lt_of_le_of_lt (Nat.le_of_eq (HN.out.fu.trans (Int.toNat_natCast _))) (by omega)
      · rw [if_neg hz] at hst
        have hnx : p + 1 < cl := by have h := HIR.out.nx (by simp) (by simp); rw [HCl.out] at h; exact h
        have hz2 : (row.getD ρ 0 == 0) = false := beq_eq_false_iff_ne.2 hz
        have HM2 : Hid (WordL row ∧ m ≤ f ∧ run14 rs m m k xs row ((p + 1 : Nat) : Int) = RR) := ⟨HM.out.1, by have := HM.out.2.1; omega, by rw [← HM.out.2.2, run14_go hst]; rfl⟩
        generalize row.getD ρ 0 = x at e0 hz2
        clear HM HIR hok hst hz j3 ti
        go_wp2
        go_roundw
        case rel => exact ⟨m, row, p + 1, by first | rfl | go_num, hnx, HN, HM2⟩
        case measure => rw [HFm.out]; exact Nat.lt_of_le_of_lt (Nat.le_of_eq (HN.out.fu.trans (Int.toNat_natCast _))) (by omega)
    by_cases h8 : kd = 8
    · subst h8
      obtain ⟨α, rfl⟩ : ∃ α : Nat, A = (α : Int) := Int.eq_ofNat_of_zero_le (by omega)
      have hα : α < cl := by have h := HIR.out.pl (Or.inr rfl); rw [HCl.out] at h; simp only at h; omega
      have HN : Hid (Rn14 B w X2 gR gr (.slice (some ⟨b, off, none⟩) nr ic) (m : Int) 0 row) := ti.out.r
      have HM2 : Hid (WordL row ∧ m ≤ f ∧ run14 rs m m k xs row ((α : Nat) : Int) = RR) := ⟨HM.out.1, by have := HM.out.2.1; omega, by rw [← HM.out.2.2, run14_go (HIR.out.s8 rfl)]⟩
      clear HM HIR hok j3 ti
      go_wp2
      go_roundw
      case rel => exact ⟨m, row, α, by first | rfl | go_num, hα, HN, HM2⟩
      case measure => rw [HFm.out]; exact Nat.lt_of_le_of_lt (Nat.le_of_eq (HN.out.fu.trans (Int.toNat_natCast _))) (by omega)
    by_cases h9 : kd = 9
    · subst h9
      obtain ⟨ρ, rfl⟩ : ∃ ρ : Nat, R = (ρ : Int) := Int.eq_ofNat_of_zero_le (by omega)
      obtain ⟨α, rfl⟩ : ∃ α : Nat, A = (α : Int) := Int.eq_ofNat_of_zero_le (by omega)
      have hnx : p + 1 < cl := by have h := HIR.out.nx (by simp) (by simp); rw [HCl.out] at h; exact h
      have hρ : (ρ : Int) < 64 := by omega
      have hra : (ρ : Int) + (α : Int) ≤ 64 := by omega
      obtain ⟨ha1, ha2, ha3⟩ := HIR.out.ca rfl
      simp only at ha1 ha2 ha3
      obtain ⟨κ, hκ⟩ : ∃ κ : Nat, at14 rs nm = (κ : Int) := Int.eq_ofNat_of_zero_le ha1
      rw [hκ] at ha2 ha3
      rw [Int.toNat_natCast] at ha3
      have hst := HIR.out.s9 (xs := xs) (row := row) rfl
      simp only [Int.toNat_natCast, hκ] at hst
      have hrl := ti.out.r.len
      obtain ⟨ys, hys⟩ : ∃ ys, (row.drop ρ).take α = ys := ⟨_, rfl⟩
      rw [hys] at hst
      have hyl : ys.length = α := by rw [← hys, List.length_take, List.length_drop]; omega
      have hyw : WordL ys := fun z hz => HM.out.1 z (by rw [← hys] at hz; exact List.mem_of_mem_drop (List.mem_of_mem_take hz))
      have hyc : ∀ j, j < α → row.getD (ρ + j) 0 = ys.getD j 0 := fun j hj => by rw [← hys]; simp [List.getD, hj]
      have hrn := run14_call (m := m) hst
      rw [HM.out.2.2] at hrn
      have hrv := HWs.out m κ ys hyw
      have hlf := HLf.out m κ ys
      have HAt2 : Hid (∀ V, Below B.heap.size B V → Calls Try.prog 26 #[.slice (some ⟨b, off, none⟩) nr ic, .string ⟨nm.toArray⟩] V fun e w' => e = .returned (.int .i64 (κ : Int)) ∧ w' = V) := fun V hV => by have h := HAt.out V nm hV; rw [hκ] at h; exact h
      have HCp : Hid (∀ X, Rn14 B w X gR gr (.slice (some ⟨b, off, none⟩) nr ic) (m : Int) 0 row → Calls Try.prog 57 #[.slice (some ⟨gr, ρ, none⟩) α (64 - ρ)] X fun e w' => ∃ a' c', e = .returned (.slice a' α c') ∧ (∀ j, j < α → ∃ b' off', a' = some ⟨b', off', none⟩ ∧ X.heap.size ≤ b' ∧ b' < w'.heap.size ∧ w'.cell? ⟨b', off' + j, none⟩ = some (.int .i64 (ys.getD j 0))) ∧ Below X.heap.size X w') := fun X hX => specCopy14 gr ρ α (64 - ρ) ys X hyl (fun j hj => by rw [hX.cr (ρ + j) (by omega), hyc j hj]) (by omega)
      have HCa : Hid (∀ (X : World) (a' : Option Addr) (c' : Nat), Rn14 B w X gR gr (.slice (some ⟨b, off, none⟩) nr ic) (m : Int) 0 row → (∀ j, j < α → ∃ b' off', a' = some ⟨b', off', none⟩ ∧ b' ≠ gR ∧ b' < X.heap.size ∧ X.cell? ⟨b', off' + j, none⟩ = some (.int .i64 (ys.getD j 0))) → Calls Try.prog 29 #[.pointer (some ⟨gR, 0, none⟩), .int .i64 (κ : Int), .slice a' α c'] X fun e w' => e = .returned (.int .i64 (run14 rs m m κ ys row14 0).1) ∧ WroteR X w' (fun q => q = gR) ∧ w'.heap[gR]? = some (.cells #[.slice (some ⟨b, off, none⟩) nr ic, .int .i64 ((run14 rs m m κ ys row14 0).2.2 : Int), .int .i64 (run14 rs m m κ ys row14 0).2.1] 65 (0, 0))) := fun X a' c' hX ha => by
        have h := HIh.out m (by have := HM.out.2.1; omega) X κ ys a' c' (by rw [HNr.out.1]; exact hX.blk) hX.bB hX.Bg (by omega) (by rw [hyl, ha3]) hyw (by rw [hyl]; exact ha)
        rw [hyl, HNr.out.1] at h
        exact h
      obtain ⟨R1, hR1⟩ : ∃ R1, run14 rs m m κ ys row14 0 = R1 := ⟨_, rfl⟩
      rw [hR1] at hrn hrv hlf HCa
      obtain ⟨rv, rc, rf⟩ := R1
      simp only at hrn hrv hlf HCa
      have HRN : Hid (RR = if rc = 0 then run14 rs rf rf k xs (row.set ρ rv) ((p : Int) + 1) else (0, rc, rf)) := hrn.symm.symm
      have hW : WordL row ∧ m ≤ f := ⟨HM.out.1, by have := HM.out.2.1; omega⟩
      have HWf : Hid (WordL row ∧ m ≤ f) := hW
      have hc1 : ¬ (64 = ρ) := by omega
      have hc2 : (0 : Int) ≤ (ρ : Int) := by omega
      have hc3 : (ρ : Int) ≤ (ρ : Int) + (α : Int) := by omega
      have hα3 : α ≤ 3 := by omega
      obtain ⟨σ, hσ⟩ : ∃ σ, ρ + α = σ := ⟨_, rfl⟩
      have hw9 : IntKind.i64.wrap ((ρ : Int) + (α : Int)) = (σ : Int) := by rw [IntKind.wrap_i64]; omega
      have hσ1 : (σ : Int) ≤ 64 := by omega
      have hσ2 : ρ ≤ σ := by omega
      have hsub : σ - ρ = α := by omega
      clear hσ
      have j4 := ti.out.i4
      simp only at j4
      clear HM HIR hok hst hrn hW hyc hyl hyw hys hκ ha1 ha2 ha3 hrl
      go_wp2
      refine Till.region (S := fun X => Ri14 B w X gR gr N (.slice (some ⟨b, off, none⟩) nr ic) (m : Int) 0 row (9, (ρ : Int), (α : Int), Bq, nm)) (E := [19, 20]) (by kernel_rfl) ti.out.drew (fun hHeld hSh => ?_)
      refine Till.take (i := 0) (o := ⟨some 109, _, _, _, _, _⟩) (v := ?vk90) (d := 30) rfl (by kernel_rfl) (by kernel_rfl) (by kernel_rfl) (by kernel_rfl) (fun _ _ _ h => h) (Or.inl ⟨by rfl, ?hyk90⟩) (by assumption) hSh (fun hSh2 => ?restk90)
      case hyk90 => (intro wq hSw; have y0 := hSw.r.c0; have y1 := hSw.i1; have y2 := hSw.i2; have y4 := hSw.i4; dsimp only at y1 y2 y4; clear hSw; first | (go_simp; done) | (go_simp; with_reducible rfl))
      clear hSh; rename Shut11 _ _ _ => hSh
      simp only [Act.put, List.setIfInBounds_toArray, List.set_cons_zero, List.set_cons_succ]
      refine Till.take (i := 1) (o := ⟨some 110, _, _, _, _, _⟩) (v := ?vk91) (d := 30) rfl (by kernel_rfl) (by kernel_rfl) (by kernel_rfl) (by kernel_rfl) (fun _ _ _ h => h) (Or.inl ⟨by rfl, ?hyk91⟩) (by assumption) hSh (fun hSh2 => ?restk91)
      case hyk91 => (intro wq hSw; have y0 := hSw.r.c0; have y1 := hSw.i1; have y2 := hSw.i2; have y4 := hSw.i4; dsimp only at y1 y2 y4; clear hSw; first | (go_simp; done) | (go_simp; with_reducible rfl))
      clear hSh; rename Shut11 _ _ _ => hSh
      simp only [Act.put, List.setIfInBounds_toArray, List.set_cons_zero, List.set_cons_succ]
      refine Till.take (i := 2) (o := ⟨some 111, _, _, _, _, _⟩) (v := ?vk92) (d := 30) rfl (by kernel_rfl) (by kernel_rfl) (by kernel_rfl) (by kernel_rfl) (fun _ _ _ h => h) (Or.inl ⟨by rfl, ?hyk92⟩) (by assumption) hSh (fun hSh2 => ?restk92)
      case hyk92 => (intro wq hSw; have y0 := hSw.r.c0; have y1 := hSw.i1; have y2 := hSw.i2; have y4 := hSw.i4; dsimp only at y1 y2 y4; clear hSw; first | (go_simp; done) | (go_simp; with_reducible rfl))
      clear hSh; rename Shut11 _ _ _ => hSh
      simp only [Act.put, List.setIfInBounds_toArray, List.set_cons_zero, List.set_cons_succ]
      refine Till.take (i := 3) (o := ⟨some 112, _, _, _, _, _⟩) (v := ?vk93) (d := 30) rfl (by kernel_rfl) (by kernel_rfl) (by kernel_rfl) (by kernel_rfl) (fun _ _ _ h => h) (Or.inl ⟨by rfl, ?hyk93⟩) (by assumption) hSh (fun hSh2 => ?restk93)
      case hyk93 => (intro wq hSw; have y0 := hSw.r.c0; have y1 := hSw.i1; have y2 := hSw.i2; have y4 := hSw.i4; dsimp only at y1 y2 y4; clear hSw; first | (go_simp; done) | (go_simp; with_reducible rfl))
      clear hSh; rename Shut11 _ _ _ => hSh
      simp only [Act.put, List.setIfInBounds_toArray, List.set_cons_zero, List.set_cons_succ]
      refine Till.take (i := 4) (o := ⟨some 113, _, _, _, _, _⟩) (v := ?vk94) (d := 30) rfl (by kernel_rfl) (by kernel_rfl) (by kernel_rfl) (by kernel_rfl) (fun _ _ _ h => h) (Or.inl ⟨by rfl, ?hyk94⟩) (by assumption) hSh (fun hSh2 => ?restk94)
      case hyk94 => (intro wq hSw; have y0 := hSw.r.c0; have y1 := hSw.i1; have y2 := hSw.i2; have y4 := hSw.i4; dsimp only at y1 y2 y4; clear hSw; first | (go_simp; done) | (go_simp; with_reducible rfl))
      clear hSh; rename Shut11 _ _ _ => hSh
      simp only [Act.put, List.setIfInBounds_toArray, List.set_cons_zero, List.set_cons_succ]
      refine Till.take (i := 5) (o := ⟨some 114, _, _, _, _, _⟩) (v := ?vk95) (d := 30) rfl (by kernel_rfl) (by kernel_rfl) (by kernel_rfl) (by kernel_rfl) (fun _ _ _ h => h) (Or.inl ⟨by rfl, ?hyk95⟩) (by assumption) hSh (fun hSh2 => ?restk95)
      case hyk95 => (intro wq hSw; have y0 := hSw.r.c0; have y1 := hSw.i1; have y2 := hSw.i2; have y4 := hSw.i4; dsimp only at y1 y2 y4; clear hSw; first | (go_simp; done) | (go_simp; with_reducible rfl))
      clear hSh; rename Shut11 _ _ _ => hSh
      simp only [Act.put, List.setIfInBounds_toArray, List.set_cons_zero, List.set_cons_succ]
      refine Till.take (i := 6) (o := ⟨some 115, _, _, _, _, _⟩) (v := ?vk96) (d := 30) rfl (by kernel_rfl) (by kernel_rfl) (by kernel_rfl) (by kernel_rfl) (fun _ _ _ h => h) (Or.inl ⟨by rfl, ?hyk96⟩) (by assumption) hSh (fun hSh2 => ?restk96)
      case hyk96 => (intro wq hSw; have y0 := hSw.r.c0; have y1 := hSw.i1; have y2 := hSw.i2; have y4 := hSw.i4; dsimp only at y1 y2 y4; clear hSw; first | (go_simp; done) | (go_simp; with_reducible rfl))
      clear hSh; rename Shut11 _ _ _ => hSh
      simp only [Act.put, List.setIfInBounds_toArray, List.set_cons_zero, List.set_cons_succ]
      refine Till.take (i := 7) (o := ⟨some 116, _, _, _, _, _⟩) (v := ?vk97) (d := 30) rfl (by kernel_rfl) (by kernel_rfl) (by kernel_rfl) (by kernel_rfl) (fun _ _ _ h => h) (Or.inl ⟨by rfl, ?hyk97⟩) (by assumption) hSh (fun hSh2 => ?restk97)
      case hyk97 => (intro wq hSw; have y0 := hSw.r.c0; have y1 := hSw.i1; have y2 := hSw.i2; have y4 := hSw.i4; dsimp only at y1 y2 y4; clear hSw; first | (go_simp; done) | (go_simp; with_reducible rfl))
      clear hSh; rename Shut11 _ _ _ => hSh
      simp only [Act.put, List.setIfInBounds_toArray, List.set_cons_zero, List.set_cons_succ]
      refine Till.take (i := 9) (o := ⟨some 118, _, _, _, _, _⟩) (v := ?vk99) (d := 30) rfl (by kernel_rfl) (by kernel_rfl) (by kernel_rfl) (by kernel_rfl) (fun _ _ _ h => h) (Or.inl ⟨by rfl, ?hyk99⟩) (by assumption) hSh (fun hSh2 => ?restk99)
      case hyk99 => (intro wq hSw; have y0 := hSw.r.c0; have y1 := hSw.i1; have y2 := hSw.i2; have y4 := hSw.i4; dsimp only at y1 y2 y4; clear hSw; first | (go_simp; done) | (go_simp; with_reducible rfl))
      clear hSh; rename Shut11 _ _ _ => hSh
      simp only [Act.put, List.setIfInBounds_toArray, List.set_cons_zero, List.set_cons_succ]
      refine Till.take (i := 10) (o := ⟨some 119, _, _, _, _, _⟩) (v := ?vk910) (d := 30) rfl (by kernel_rfl) (by kernel_rfl) (by kernel_rfl) (by kernel_rfl) (fun _ _ _ h => h) (Or.inl ⟨by rfl, ?hyk910⟩) (by assumption) hSh (fun hSh2 => ?restk910)
      case hyk910 => (intro wq hSw; have y0 := hSw.r.c0; have y1 := hSw.i1; have y2 := hSw.i2; have y4 := hSw.i4; dsimp only at y1 y2 y4; clear hSw; first | (go_simp; done) | (go_simp; with_reducible rfl))
      clear hSh; rename Shut11 _ _ _ => hSh
      simp only [Act.put, List.setIfInBounds_toArray, List.set_cons_zero, List.set_cons_succ]
      refine Till.take (i := 11) (o := ⟨some 120, _, _, _, _, _⟩) (v := ?vk911) (d := 30) rfl (by kernel_rfl) (by kernel_rfl) (by kernel_rfl) (by kernel_rfl) (fun _ _ _ h => h) (Or.inl ⟨by rfl, ?hyk911⟩) (by assumption) hSh (fun hSh2 => ?restk911)
      case hyk911 => (intro wq hSw; have y0 := hSw.r.c0; have y1 := hSw.i1; have y2 := hSw.i2; have y4 := hSw.i4; dsimp only at y1 y2 y4; clear hSw; first | (go_simp; done) | (go_simp; with_reducible rfl))
      clear hSh; rename Shut11 _ _ _ => hSh
      simp only [Act.put, List.setIfInBounds_toArray, List.set_cons_zero, List.set_cons_succ]
      refine Till.take (i := 12) (o := ⟨some 121, _, _, _, _, _⟩) (v := ?vk912) (d := 30) rfl (by kernel_rfl) (by kernel_rfl) (by kernel_rfl) (by kernel_rfl) (fun _ _ _ h => h) (Or.inl ⟨by rfl, ?hyk912⟩) (by assumption) hSh (fun hSh2 => ?restk912)
      case hyk912 => (intro wq hSw; have y0 := hSw.r.c0; have y1 := hSw.i1; have y2 := hSw.i2; have y4 := hSw.i4; dsimp only at y1 y2 y4; clear hSw; first | (go_simp; done) | (go_simp; with_reducible rfl))
      clear hSh; rename Shut11 _ _ _ => hSh
      simp only [Act.put, List.setIfInBounds_toArray, List.set_cons_zero, List.set_cons_succ]
      refine Till.take (i := 13) (o := ⟨some 122, _, _, _, _, _⟩) (v := ?vk913) (d := 30) rfl (by kernel_rfl) (by kernel_rfl) (by kernel_rfl) (by kernel_rfl) (fun _ _ _ h => h) (Or.inl ⟨by rfl, ?hyk913⟩) (by assumption) hSh (fun hSh2 => ?restk913)
      case hyk913 => (intro wq hSw; have y0 := hSw.r.c0; have y1 := hSw.i1; have y2 := hSw.i2; have y4 := hSw.i4; dsimp only at y1 y2 y4; clear hSw; first | (go_simp; done) | (go_simp; with_reducible rfl))
      clear hSh; rename Shut11 _ _ _ => hSh
      simp only [Act.put, List.setIfInBounds_toArray, List.set_cons_zero, List.set_cons_succ]
      refine Till.take (i := 14) (o := ⟨some 123, _, _, _, _, _⟩) (v := ?vk914) (d := 30) rfl (by kernel_rfl) (by kernel_rfl) (by kernel_rfl) (by kernel_rfl) (fun _ _ _ h => h) (Or.inl ⟨by rfl, ?hyk914⟩) (by assumption) hSh (fun hSh2 => ?restk914)
      case hyk914 => (intro wq hSw; have y0 := hSw.r.c0; have y1 := hSw.i1; have y2 := hSw.i2; have y4 := hSw.i4; dsimp only at y1 y2 y4; clear hSw; first | (go_simp; done) | (go_simp; with_reducible rfl))
      clear hSh; rename Shut11 _ _ _ => hSh
      simp only [Act.put, List.setIfInBounds_toArray, List.set_cons_zero, List.set_cons_succ]
      refine Till.take (i := 15) (o := ⟨some 124, _, _, _, _, _⟩) (v := ?vk915) (d := 30) rfl (by kernel_rfl) (by kernel_rfl) (by kernel_rfl) (by kernel_rfl) (fun _ _ _ h => h) (Or.inl ⟨by rfl, ?hyk915⟩) (by assumption) hSh (fun hSh2 => ?restk915)
      case hyk915 => (intro wq hSw; have y0 := hSw.r.c0; have y1 := hSw.i1; have y2 := hSw.i2; have y4 := hSw.i4; dsimp only at y1 y2 y4; clear hSw; first | (go_simp; done) | (go_simp; with_reducible rfl))
      clear hSh; rename Shut11 _ _ _ => hSh
      simp only [Act.put, List.setIfInBounds_toArray, List.set_cons_zero, List.set_cons_succ]
      refine Till.take (i := 16) (o := ⟨some 125, _, _, _, _, _⟩) (v := ?vk916) (d := 30) rfl (by kernel_rfl) (by kernel_rfl) (by kernel_rfl) (by kernel_rfl) (fun _ _ _ h => h) (Or.inl ⟨by rfl, ?hyk916⟩) (by assumption) hSh (fun hSh2 => ?restk916)
      case hyk916 => (intro wq hSw; have y0 := hSw.r.c0; have y1 := hSw.i1; have y2 := hSw.i2; have y4 := hSw.i4; dsimp only at y1 y2 y4; clear hSw; first | (go_simp; done) | (go_simp; with_reducible rfl))
      clear hSh; rename Shut11 _ _ _ => hSh
      simp only [Act.put, List.setIfInBounds_toArray, List.set_cons_zero, List.set_cons_succ]
      refine Till.take (i := 17) (o := ⟨some 126, _, _, _, _, _⟩) (v := ?vk917) (d := 30) rfl (by kernel_rfl) (by kernel_rfl) (by kernel_rfl) (by kernel_rfl) (fun _ _ _ h => h) (Or.inl ⟨by rfl, ?hyk917⟩) (by assumption) hSh (fun hSh2 => ?restk917)
      case hyk917 => (intro wq hSw; have y0 := hSw.r.c0; have y1 := hSw.i1; have y2 := hSw.i2; have y4 := hSw.i4; dsimp only at y1 y2 y4; clear hSw; first | (go_simp; done) | (go_simp; with_reducible rfl))
      clear hSh; rename Shut11 _ _ _ => hSh
      simp only [Act.put, List.setIfInBounds_toArray, List.set_cons_zero, List.set_cons_succ]
      refine Till.one (i := 8) (by kernel_rfl) rfl hSh (fun K hK => ?_)
      clear hSh
      go_simp
      refine Calls.mono (HAt2.out _ hHeld.r.bB) ?_
      rintro e W8 ⟨rfl, rfl⟩
      dsimp only
      refine hK.out _ _ (by exact hHeld) (fun hHeld hSh => ?_)
      clear hK K
      (try simp only [Act.put, List.setIfInBounds_toArray, List.set_cons_zero, List.set_cons_succ])
      refine Till.one (i := 18) (by kernel_rfl) rfl hSh (fun K hK => ?_)
      clear hSh
      go_simp
      refine Calls.mono (HCp.out _ hHeld.r) ?_
      rintro e W9 ⟨a9, c9, rfl, ha9, hb9⟩
      dsimp only
      have hsz := hHeld.r.wr.size
      refine hK.out _ _ (by exact hHeld.below hb9) (fun hHeld hSh => ?_)
      clear hK K
      (try simp only [Act.put, List.setIfInBounds_toArray, List.set_cons_zero, List.set_cons_succ])
      refine Till.last (i := 19) (by kernel_rfl) rfl (by decide) (fun K hK => ?_)
      go_simp
      refine Calls.mono (HCa.out _ a9 c9 hHeld.r (fun j hj => ?_)) ?_
      · obtain ⟨b3, o3, e3, h3, h4, h5⟩ := ha9 j hj
        exact ⟨b3, o3, e3, by have hdr : X2.drew.heap.size = X2.heap.size := rfl; have := HBg.out.2; simp at hsz; omega, h4, h5⟩
      rintro e W10 ⟨rfl, hw10, hbk10⟩
      dsimp only
      refine hK.out _ _ ?_
      clear hK K
      (try simp only [Act.put, List.setIfInBounds_toArray, List.set_cons_zero, List.set_cons_succ])
      have t10 : Ri14 B w W10 gR gr N (.slice (some ⟨b, off, none⟩) nr ic) (rf : Int) rc row (9, (ρ : Int), (α : Int), Bq, nm) := hHeld.keep (hHeld.r.call hw10 hbk10) (hw10.block N hHeld.lt hHeld.ng)
      refine Till.last (i := 20) (by kernel_rfl) rfl (by decide) (fun K hK => ?_)
      go_simp
      refine hK.out _ _ ?_
      clear hK K
      refine Till.done (by kernel_rfl) ?_ _
      have T10 : Hid (Ri14 B w W10 gR gr N (.slice (some ⟨b, off, none⟩) nr ic) (rf : Int) rc row (9, (ρ : Int), (α : Int), Bq, nm)) := t10
      have y1 := t10.i1
      have y2 := t10.r.c2
      simp only at y1
      clear hHeld hSh ti hw10 hbk10 ha9 hb9 hsz t10 HCa HCp HAt2
      by_cases hc : rc = 0
      · subst hc
        have HN : Hid (Rn14 B w (W10.setCell ⟨gr, ρ, none⟩ (.int .i64 rv)) gR gr (.slice (some ⟨b, off, none⟩) nr ic) (rf : Int) 0 (row.set ρ rv)) := T10.out.r.put ρ rv
        have HM2 : Hid (WordL (row.set ρ rv) ∧ rf ≤ f ∧ run14 rs rf rf k xs (row.set ρ rv) ((p + 1 : Nat) : Int) = RR) := ⟨HWf.out.1.set _ hrv, by have := HWf.out.2; omega, by rw [HRN.out, if_pos rfl]; rfl⟩
        have e0 := T10.out.r.cr ρ (by omega)
        have e1 := T10.out.r.fr ρ
        go_wp2
        go_roundw
        case rel => exact ⟨rf, row.set ρ rv, p + 1, by first | rfl | go_num, hnx, HN, HM2⟩
        case measure => rw [HFm.out]; exact Nat.lt_of_le_of_lt (Nat.le_of_eq (HN.out.fu.trans (Int.toNat_natCast _))) (by omega)
      · have HF : Hid (RR = (0, rc, rf)) := by exact (by rw [HRN.out, if_neg hc] : RR = (0, rc, rf))
        have hc5 : (rc != 0) = true := bne_iff_ne.2 hc
        go_wp2
        go_ret
        rw [HF.out]
        exact ⟨rfl, T10.out.r.wr, T10.out.r.blk⟩
    by_cases h10 : kd = 10
    · subst h10
      obtain ⟨ρ, rfl⟩ : ∃ ρ : Nat, R = (ρ : Int) := Int.eq_ofNat_of_zero_le (by omega)
      have hρ : (ρ : Int) < 64 := by omega
      have e0 := ti.out.r.cr ρ (by omega)
      have HF : Hid (RR = (row.getD ρ 0, 0, m)) := by exact (by rw [← HM.out.2.2, run14_stop (HIR.out.s10 rfl)]; rfl : RR = (row.getD ρ 0, 0, m))
      generalize row.getD ρ 0 = x at e0 HF
      clear HM HIR hok j3
      go_wp2
      go_ret
      rw [HF.out]
      exact ⟨rfl, ti.out.r.wr, ti.out.r.blk⟩
    have h36 : 3 ≤ kd ∧ kd ≤ 6 := by omega
    obtain ⟨ρ, rfl⟩ : ∃ ρ : Nat, R = (ρ : Int) := Int.eq_ofNat_of_zero_le (by omega)
    obtain ⟨α, rfl⟩ : ∃ α : Nat, A = (α : Int) := Int.eq_ofNat_of_zero_le (by omega)
    obtain ⟨β, rfl⟩ : ∃ β : Nat, Bq = (β : Int) := Int.eq_ofNat_of_zero_le (by omega)
    have hρ : (ρ : Int) < 64 := by omega
    have hα : (α : Int) < 64 := by omega
    have hβ : (β : Int) < 64 := by omega
    have hnx : p + 1 < cl := by have h := HIR.out.nx h8 h10; rw [HCl.out] at h; exact h
    have d1 : (kd == 1) = false := beq_eq_false_iff_ne.2 h1
    have d2 : (kd == 2) = false := beq_eq_false_iff_ne.2 h2
    have d7 : (kd == 7) = false := beq_eq_false_iff_ne.2 h7
    have d8 : (kd == 8) = false := beq_eq_false_iff_ne.2 h8
    have d9 : (kd == 9) = false := beq_eq_false_iff_ne.2 h9
    have d10 : (kd == 10) = false := beq_eq_false_iff_ne.2 h10
    have ea := ti.out.r.cr α (by omega)
    have eb := ti.out.r.cr β (by omega)
    have er := ti.out.r.cr ρ (by omega)
    have ef := ti.out.r.fr ρ
    have hst := HIR.out.s3 (xs := xs) (row := row) h36
    simp only [Int.toNat_natCast] at hst
    have HDn : Hid (_) := fun W : World => specL4Done kd (row.getD α 0) (row.getD β 0) W (HRf.out row HM.out.1 α) (HRf.out row HM.out.1 β)
    have hdv := doneV_bd kd (row.getD α 0) (row.getD β 0)
    generalize doneV kd (row.getD α 0) (row.getD β 0) = dv at HDn hst hdv
    generalize doneB kd (row.getD α 0) (row.getD β 0) = db at HDn hst
    generalize row.getD α 0 = xa at ea HDn
    generalize row.getD β 0 = xb at eb HDn
    cases db
    · have HF : Hid (RR = (0, 1, m)) := by exact (by rw [← HM.out.2.2, run14_stop hst] : RR = (0, 1, m))
      clear HM HIR hok hst h1 h2 h7 h8 h9 h10
      go_wp2
      go_quiet (first | (go_at_call 58; exact Calls.quiet_of_same (HDn.out _)))
      have td : ∀ q, Hid (Ri14 B w (X2.drewN q) gR gr N (.slice (some ⟨b, off, none⟩) nr ic) (m : Int) 0 row (kd, (ρ : Int), (α : Int), (β : Int), nm)) := fun q => ti.out.below ⟨rfl, rfl, rfl, Nat.le_refl _, fun _ _ => rfl⟩
      have T3 := td nq
      generalize X2.drewN nq = X3 at T3 ⊢
      have fz2 := T3.out.r.fz 2
      have c2 := T3.out.r.c2
      have s3 : Hid (Rn14 B w (X3.setCell ⟨gR, 2, none⟩ (.int .i64 1)) gR gr (.slice (some ⟨b, off, none⟩) nr ic) (m : Int) 1 row) := T3.out.r.set 2 _ rfl
      clear td ti T3 ea eb er ef j0 j1 j2 j3
      go_wp2
      go_ret
      rw [HF.out]
      exact ⟨rfl, s3.out.wr, s3.out.blk⟩
    · have HM2 : Hid (WordL (row.set ρ dv) ∧ m ≤ f ∧ run14 rs m m k xs (row.set ρ dv) ((p + 1 : Nat) : Int) = RR) := ⟨HM.out.1.set _ hdv, by have := HM.out.2.1; omega, by rw [← HM.out.2.2, run14_go hst]; rfl⟩
      clear HM HIR hok hst h1 h2 h7 h8 h9 h10
      go_wp2
      go_quiet (first | (go_at_call 58; exact Calls.quiet_of_same (HDn.out _)))
      have td : ∀ q, Hid (Ri14 B w (X2.drewN q) gR gr N (.slice (some ⟨b, off, none⟩) nr ic) (m : Int) 0 row (kd, (ρ : Int), (α : Int), (β : Int), nm)) := fun q => ti.out.below ⟨rfl, rfl, rfl, Nat.le_refl _, fun _ _ => rfl⟩
      have T3 := td nq
      generalize X2.drewN nq = X3 at T3 ⊢
      clear er ef j0 j1 j2 j3 ea eb
      have y1 := T3.out.i1
      have er := T3.out.r.cr ρ (by omega)
      have ef := T3.out.r.fr ρ
      simp only at y1
      have HN : Hid (Rn14 B w (X3.setCell ⟨gr, ρ, none⟩ (.int .i64 dv)) gR gr (.slice (some ⟨b, off, none⟩) nr ic) (m : Int) 0 (row.set ρ dv)) := T3.out.r.put ρ dv
      clear td ti T3
      go_wp2
      go_roundw
      case rel => exact ⟨m, row.set ρ dv, p + 1, by first | rfl | go_num, hnx, HN, HM2⟩
      case measure => rw [HFm.out]; exact Nat.lt_of_le_of_lt (Nat.le_of_eq (HN.out.fu.trans (Int.toNat_natCast _))) (by omega)
theorem cal14 (B : World) (rs : List Rt) (ia : Option Addr) (ic gR : Nat) (hin : RtsIn B ia rs.length rs) (hp : imageB rs = true) (f : Nat) : f ≤ 20000 → Cal14 B rs ia ic gR f := by
  induction f using Nat.strongRecOn with
  | _ f ih => exact fun hf => specCall14 B rs ia ic gR hin hp f hf (fun m hm => ih m hm (by omega))

end Go.Proofs.Ytnflkecnddbhoaa
