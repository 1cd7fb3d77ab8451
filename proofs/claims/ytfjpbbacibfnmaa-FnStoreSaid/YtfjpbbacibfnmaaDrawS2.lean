/-
  The contracts of DrawKept and DrawFetched.
-/
import Derived.Test.YtfjpbbacibfnmaaDrawS
import Derived.Test.YtfjpbbacibfnmaaCodes
namespace Go.Proofs.Ytfjpbbacibfnmaa
open Go.RowKit

/-- The answer's block is filled. -/
theorem fin_two {w W : World} {n : Nat} {room : Int} {v : Value} {bs : List Bl} {hb : Nat} (hbase : w.heap.size < hb) (hown : W.ownsRow hb 39 2 v n (blobV bs)) (hR : ResAt W w.heap.size) (hB : Below w.heap.size w W) :
    ((W.setCell ⟨w.heap.size, 0, none⟩ (.int .i64 room)).setCell ⟨w.heap.size, 1, none⟩ v).cell? ⟨w.heap.size, 0, none⟩ = some (.int .i64 room) ∧ ((W.setCell ⟨w.heap.size, 0, none⟩ (.int .i64 room)).setCell ⟨w.heap.size, 1, none⟩ v).cell? ⟨w.heap.size, 1, none⟩ = some v ∧
    ((W.setCell ⟨w.heap.size, 0, none⟩ (.int .i64 room)).setCell ⟨w.heap.size, 1, none⟩ v).ownsRow w.heap.size 39 2 v n (blobV bs) ∧ Below w.heap.size w ((W.setCell ⟨w.heap.size, 0, none⟩ (.int .i64 room)).setCell ⟨w.heap.size, 1, none⟩ v) := by
  have hne : v.ownBlock ≠ some w.heap.size := fun e => by have := (hown.lt _ e).1; omega
  refine ⟨(World.cell?_setCell_other _ _ _ _ (by simp)).trans (World.cell?_setCell_same _ _ _ hR.c0), World.cell?_setCell_same _ _ _ ((World.cell?_setCell_other _ _ _ _ (by simp)).trans hR.c1), ?_, ?_⟩
  · exact own_base ((hown.kept (grown_set _ _ _ _) (.inr hne)).kept (grown_set _ _ _ _) (.inr hne)) (by omega)
  · exact (hB.setCell (p := ⟨w.heap.size, 0, none⟩) (Nat.le_refl _) _).setCell (p := ⟨w.heap.size, 1, none⟩) (Nat.le_refl _) _

set_option maxHeartbeats 4000000 in
set_option maxRecDepth 100000 in
theorem drawKept (w : World) (a : Option Addr) (len cap : Nat) (hl : len ≤ 4096) (hc : Code w w.heap.size a len) :
    Calls Try.prog 12 #[.slice a len cap] w fun e w' => ∃ (room : Int) (v : Value) (bs : List Bl) (t : List UInt8), e = .returned (.tuple #[.agg #[.int .i64 room, v], .string ⟨t.toArray⟩]) ∧ w'.ownsRow w.heap.size 39 2 v bs.length (blobV bs) ∧ bs.length ≤ 6 ∧ takenL bs ≤ 50 ∧ t.length ≤ 6 ∧ Below w.heap.size w w' := by
  have hcode : Code (w.alloc (.cells #[.int .i64 0, .slice none 0 0] 26)) (w.alloc (.cells #[.int .i64 0, .slice none 0 0] 26)).heap.size a len := hc.kept (World.grownBy_alloc _ _ _)
  have hR0 : ResAt (w.alloc (.cells #[.int .i64 0, .slice none 0 0] 26)) w.heap.size := ⟨by simp, by simp, fun j => by simp⟩
  have hB0 : Below w.heap.size w (w.alloc (.cells #[.int .i64 0, .slice none 0 0] 26)) := (Below.refl _ w).alloc (Nat.le_refl _) _
  go_enter Try.func12, Try.ntmps12
  go_wp2_with fail
  refine (drawNew _ a len cap hl hcode).mono ?_
  rintro e w1 ⟨rfl, hc1, hg1⟩
  have hR1 := hR0.kept hg1 (by simp)
  have hB1 := hB0.grown hg1 hB0.size (fun k e => by cases e)
  rw [World.size_alloc] at hc1 ⊢
  clear hR0 hB0 hcode hg1
  have hs1 := hc1.lt
  go_wp2_with fail
  refine (drawStore _ (w.heap.size + 1) a len cap hc1).mono ?_
  rintro e w2 ⟨room, v, bs, rfl, hown2, hbl, hbt, hc2, hg2⟩
  obtain ⟨_, a2, cap2, rfl, _⟩ := own_blobs hown2
  have hR2 := hR1.kept hg2 (by simp)
  have hB2 := hB1.grown hg2 hB1.size (fun k e => by injection e with e; omega)
  have hs2 : w1.heap.size ≤ w2.heap.size := hg2.size
  obtain ⟨W3, hW3⟩ : ∃ W3, w2.alloc (.cells #[.int .i64 room, .slice a2 bs.length cap2] 26) = W3 := ⟨_, rfl⟩
  have hg3 : w2.grownBy W3 none := by rw [← hW3]; exact World.grownBy_alloc _ _ _
  have s0 : W3.cell? ⟨w2.heap.size, 0, none⟩ = some (.int .i64 room) := by rw [← hW3]; simp
  have s1 : W3.cell? ⟨w2.heap.size, 1, none⟩ = some (.slice a2 bs.length cap2) := by rw [← hW3]; simp
  have hR3 := hR2.kept hg3 (by simp)
  have hB3 := hB2.grown hg3 hB2.size (fun k e => by cases e)
  have HC3 : Hid (Cur W3.drew (w.heap.size + 1) a len cap) := (hc2.kept hg3 (fun k e => by cases e)).drew
  have HO3 : Hid (W3.drew.ownsRow w1.heap.size 39 2 (.slice a2 bs.length cap2) bs.length (blobV bs)) := own_none (own_none hown2 hg3) (grown_drew _ none)
  have HR3 : Hid (ResAt W3.drew w.heap.size) := hR3.kept (grown_drew _ none) (by simp)
  have HB3 : Hid (Below w.heap.size w W3.drew) := hB3.grown (grown_drew _ none) hB3.size (fun k e => by cases e)
  have z0 := hR3.c0
  have z1 := hR3.c1
  have y0 := hR3.free 0
  have y1 := hR3.free 1
  have hs3 : w2.heap.size ≤ W3.heap.size := hg3.size
  clear hR1 hB1 hR2 hB2 hR3 hB3 hc2 hg2 hg3 hown2 hc1
  go_wp2
  go_region_with (go_at_call 43; refine (drawText _ (w.heap.size + 1) a len cap _ 7 (by decide) (by decide) (by omega) (by omega) HC3.out).mono ?_; rintro e w4 ⟨t, rfl, ht, hc4, hg4⟩; have s04 : w4.cell? ⟨w2.heap.size, 0, none⟩ = some (.int .i64 room) := hg4.cell (show W3.drew.cell? ⟨w2.heap.size, 0, none⟩ = some (.int .i64 room) from s0) (by simp; omega); have s14 : w4.cell? ⟨w2.heap.size, 1, none⟩ = some (.slice a2 bs.length cap2) := hg4.cell (show W3.drew.cell? ⟨w2.heap.size, 1, none⟩ = some (.slice a2 bs.length cap2) from s1) (by simp; omega); have HR4 : Hid (ResAt w4 w.heap.size) := HR3.out.kept hg4 (by simp); have z04 := HR4.out.c0; have z14 := HR4.out.c1; have y04 := HR4.out.free 0; have y14 := HR4.out.free 1)
  all_goals
    have hown4 := own_other HO3.out (by omega : w.heap.size + 1 < w1.heap.size) hg4
    have hB4 := HB3.out.grown hg4 HB3.out.size (fun k e => by injection e with e; omega)
    have hfin := fin_two (room := room) (by omega : w.heap.size < w1.heap.size) hown4 HR4.out hB4
    clear hown4 hB4
    go_wp2
    obtain ⟨X, hX⟩ : ∃ X, ((w4.setCell ⟨w.heap.size, 0, none⟩ (.int .i64 room)).setCell ⟨w.heap.size, 1, none⟩ (.slice a2 bs.length cap2)) = X := ⟨_, rfl⟩
    rw [hX] at hfin ⊢
    obtain ⟨f0, f1, f2, f3⟩ := hfin
    refine bodyPost_ret (v := .tuple #[.agg #[.int .i64 room, .slice a2 bs.length cap2], .string ⟨t.toArray⟩]) (by simp [results, Try.results12, go_sem, f0, f1]) rfl ?_
    first | exact ⟨_, _, _, _, rfl, f2, hbl, hbt, by omega, f3⟩ | exact ⟨_, _, _, rfl, f2, hbl, hbt, by omega, f3⟩

set_option maxHeartbeats 1000000 in
theorem drawFrom (w : World) (B : Nat) (a : Option Addr) (len cap : Nat) (h : Cur w B a len cap) :
    Calls Try.prog 50 #[.pointer (some ⟨B, 0, none⟩), .int .i64 (-1), .int .i64 30] w fun e w' => ∃ x : Int, e = .returned (.int .i64 x) ∧ Cur w' B a len cap ∧ w.grownBy w' (some B) := by
  go_enter Try.func50, Try.ntmps50
  go_wp2_with fail
  refine (drawBelow _ B a len cap 32 (by omega) (by omega) h).mono ?_
  rintro e w1 ⟨x, rfl, h0, h1, hc, hg⟩
  go_wp2
  go_ret
  exact ⟨_, rfl, hc, hg⟩

theorem own_in2 {w : World} {base n : Nat} {a : Option Addr} {cap : Nat} {bs : List Bl} (h : w.ownsRow base 39 2 (.slice a n cap) n (blobV bs)) : BlobsIn w a n cap bs := by
  obtain ⟨_, a', cap', e, hin⟩ := own_blobs h
  simp only [Value.slice.injEq, true_and] at e
  obtain ⟨rfl, rfl⟩ := e
  exact hin

theorem own_low {w : World} {base n b off : Nat} {cap : Nat} {xs : List Value} (h : w.ownsRow base 39 2 (.slice (some ⟨b, off, none⟩) n cap) n xs) : base ≤ b := by
  rcases h.2 with ⟨h', _⟩ | ⟨g, cap', cur, h', hb, _⟩
  · cases h'
  · simp only [Value.slice.injEq, Option.some.injEq, Addr.mk.injEq, and_true, true_and] at h'
    omega

set_option maxHeartbeats 4000000 in
set_option maxRecDepth 100000 in
theorem drawFetched (w : World) (a : Option Addr) (len cap : Nat) (hl : len ≤ 4096) (hc : Code w w.heap.size a len) :
    Calls Try.prog 14 #[.slice a len cap] w fun e w' => ∃ (room : Int) (v : Value) (bs : List Bl) (key : Int), e = .returned (.tuple #[.agg #[.int .i64 room, v], .int .i64 key]) ∧ w'.ownsRow w.heap.size 39 2 v bs.length (blobV bs) ∧ bs.length ≤ 6 ∧ takenL bs ≤ 50 ∧ Below w.heap.size w w' := by
  have hcode : Code (w.alloc (.cells #[.int .i64 0, .slice none 0 0] 26)) (w.alloc (.cells #[.int .i64 0, .slice none 0 0] 26)).heap.size a len := hc.kept (World.grownBy_alloc _ _ _)
  have hR0 : ResAt (w.alloc (.cells #[.int .i64 0, .slice none 0 0] 26)) w.heap.size := ⟨by simp, by simp, fun j => by simp⟩
  have hB0 : Below w.heap.size w (w.alloc (.cells #[.int .i64 0, .slice none 0 0] 26)) := (Below.refl _ w).alloc (Nat.le_refl _) _
  go_enter Try.func14, Try.ntmps14
  go_wp2_with fail
  refine (drawNew _ a len cap hl hcode).mono ?_
  rintro e w1 ⟨rfl, hc1, hg1⟩
  have hR1 := hR0.kept hg1 (by simp)
  have hB1 := hB0.grown hg1 hB0.size (fun k e => by cases e)
  rw [World.size_alloc] at hc1 ⊢
  clear hR0 hB0 hcode hg1
  have hs1 := hc1.lt
  go_wp2_with fail
  refine (drawStore _ (w.heap.size + 1) a len cap hc1).mono ?_
  rintro e w2 ⟨room, v, bs, rfl, hown2, hbl, hbt, hc2, hg2⟩
  obtain ⟨_, a2, cap2, rfl, _⟩ := own_blobs hown2
  have hR2 := hR1.kept hg2 (by simp)
  have hB2 := hB1.grown hg2 hB1.size (fun k e => by injection e with e; omega)
  have hs2 : w1.heap.size ≤ w2.heap.size := hg2.size
  obtain ⟨W3, hW3⟩ : ∃ W3, w2.alloc (.cells #[.int .i64 room, .slice a2 bs.length cap2] 26) = W3 := ⟨_, rfl⟩
  have hg3 : w2.grownBy W3 none := by rw [← hW3]; exact World.grownBy_alloc _ _ _
  have s0 : W3.cell? ⟨w2.heap.size, 0, none⟩ = some (.int .i64 room) := by rw [← hW3]; simp
  have s1 : W3.cell? ⟨w2.heap.size, 1, none⟩ = some (.slice a2 bs.length cap2) := by rw [← hW3]; simp
  have hR3 := hR2.kept hg3 (by simp)
  have hB3 := hB2.grown hg3 hB2.size (fun k e => by cases e)
  have hc3 : Cur W3 (w.heap.size + 1) a len cap := hc2.kept hg3 (fun k e => by cases e)
  have hown3 := own_none hown2 hg3
  have hs3 : w2.heap.size ≤ W3.heap.size := hg3.size
  clear hR1 hB1 hR2 hB2 hc2 hg2 hg3 hown2 hc1
  by_cases hn : bs.length = 0
  · have hb0 : bs = [] := List.eq_nil_of_length_eq_zero hn
    subst hb0
    simp only [List.length_nil] at s1 hown3 hW3
    clear hn
    have HC : Hid (Cur W3.drew (w.heap.size + 1) a len cap) := hc3.drew
    have HO : Hid (W3.drew.ownsRow w1.heap.size 39 2 (.slice a2 0 cap2) 0 (blobV [])) := own_none hown3 (grown_drew _ none)
    have HR : Hid (ResAt W3.drew w.heap.size) := hR3.kept (grown_drew _ none) (by simp)
    have HB : Hid (Below w.heap.size w W3.drew) := hB3.grown (grown_drew _ none) hB3.size (fun k e => by cases e)
    have z0 := hR3.c0
    have z1 := hR3.c1
    have y0 := hR3.free 0
    have y1 := hR3.free 1
    clear hc3 hown3 hR3 hB3
    go_wp2
    go_region_with (go_at_call 50; refine (drawFrom _ (w.heap.size + 1) a len cap HC.out).mono ?_; rintro e w9 ⟨x9, rfl, hc9, hg9⟩; have s09 : w9.cell? ⟨w2.heap.size, 0, none⟩ = some (.int .i64 room) := hg9.cell (show W3.drew.cell? ⟨w2.heap.size, 0, none⟩ = some (.int .i64 room) from s0) (by simp; omega); have s19 : w9.cell? ⟨w2.heap.size, 1, none⟩ = some (.slice a2 0 cap2) := hg9.cell (show W3.drew.cell? ⟨w2.heap.size, 1, none⟩ = some (.slice a2 0 cap2) from s1) (by simp; omega); have HR9 : Hid (ResAt w9 w.heap.size) := HR.out.kept hg9 (by simp); have z09 := HR9.out.c0; have z19 := HR9.out.c1; have y09 := HR9.out.free 0; have y19 := HR9.out.free 1)
    all_goals
      have hown9 := own_other HO.out (by omega : w.heap.size + 1 < w1.heap.size) hg9
      have hB9 := HB.out.grown hg9 HB.out.size (fun k e => by injection e with e; omega)
      have hfin := fin_two (room := room) (by omega : w.heap.size < w1.heap.size) hown9 HR9.out hB9
      clear hown9 hB9
      go_wp2
      obtain ⟨X, hX⟩ : ∃ X, ((w9.setCell ⟨w.heap.size, 0, none⟩ (.int .i64 room)).setCell ⟨w.heap.size, 1, none⟩ (.slice a2 0 cap2)) = X := ⟨_, rfl⟩
      rw [hX] at hfin ⊢
      obtain ⟨f0, f1, f2, f3⟩ := hfin
      refine bodyPost_ret (v := .tuple #[.agg #[.int .i64 room, .slice a2 0 cap2], .int .i64 x9]) (by simp [results, Try.results14, go_sem, f0, f1]) rfl ?_
      first | exact ⟨_, _, _, _, rfl, f2, hbl, hbt, f3⟩ | exact ⟨_, _, _, rfl, f2, hbl, hbt, f3⟩
  · have hnb : (0 : Int) < (bs.length : Int) := by omega
    go_wp2_with fail
    refine (drawOnce _ (w.heap.size + 1) a len cap 3 (by omega) (by omega) hc3).mono ?_
    rintro e w4 ⟨o, rfl, hc4, hg4⟩
    have s04 := hg4.cell s0 (by simp; omega)
    have s14 := hg4.cell s1 (by simp; omega)
    have hown4 := own_other hown3 (by omega : w.heap.size + 1 < w1.heap.size) hg4
    have hR4 := hR3.kept hg4 (by simp)
    have hB4 := hB3.grown hg4 hB3.size (fun k e => by injection e with e; omega)
    have hs4 : W3.heap.size ≤ w4.heap.size := hg4.size
    clear hc3 hown3 hR3 hB3 hg4 s0 s1
    rcases o with _ | _
    · have HC : Hid (Cur w4.drew (w.heap.size + 1) a len cap) := hc4.drew
      have HO : Hid (w4.drew.ownsRow w1.heap.size 39 2 (.slice a2 bs.length cap2) bs.length (blobV bs)) := own_none hown4 (grown_drew _ none)
      have HR : Hid (ResAt w4.drew w.heap.size) := hR4.kept (grown_drew _ none) (by simp)
      have HB : Hid (Below w.heap.size w w4.drew) := hB4.grown (grown_drew _ none) hB4.size (fun k e => by cases e)
      have z0 := hR4.c0
      have z1 := hR4.c1
      have y0 := hR4.free 0
      have y1 := hR4.free 1
      obtain ⟨b, off, rfl, hbl4, hcells⟩ := (own_in2 hown4).at (by omega)
      have HCE : Hid (∀ j, j < bs.length → w4.cell? ⟨b, off + j * 2, none⟩ = some (.int .i64 (bs.getD j (0, [])).1)) := fun j hj => (hcells j hj).1
      have HBL : Hid (w1.heap.size ≤ b) := by exact (own_low hown4 : w1.heap.size ≤ b)
      have hbne : b ≠ w.heap.size := by have := HBL.out; omega
      have hbne2 : w.heap.size ≠ b := by have := HBL.out; omega
      clear hcells
      clear hc4 hown4 hR4 hB4
      go_wp2
      go_region_with (go_at_call 49; refine (drawBelow _ (w.heap.size + 1) a len cap (bs.length : Int) (by omega) (by omega) HC.out).mono ?_; rintro e w9 ⟨x9, rfl, hx0, hx1, hc9, hg9⟩; have s09 : w9.cell? ⟨w2.heap.size, 0, none⟩ = some (.int .i64 room) := hg9.cell (show w4.drew.cell? ⟨w2.heap.size, 0, none⟩ = some (.int .i64 room) from s04) (by simp; omega); have s19 : w9.cell? ⟨w2.heap.size, 1, none⟩ = some (.slice (some ⟨b, off, none⟩) bs.length cap2) := hg9.cell (show w4.drew.cell? ⟨w2.heap.size, 1, none⟩ = some (.slice (some ⟨b, off, none⟩) bs.length cap2) from s14) (by simp; omega); have HR9 : Hid (ResAt w9 w.heap.size) := HR.out.kept hg9 (by simp); have z09 := HR9.out.c0; have z19 := HR9.out.c1; have y09 := HR9.out.free 0; have y19 := HR9.out.free 1; obtain ⟨j9, rfl⟩ := Int.eq_ofNat_of_zero_le hx0; have hj9 : (j9 : Int) < (bs.length : Int) := hx1; obtain ⟨kv, k9⟩ : ∃ kv : Int, w9.cell? ⟨b, off + j9 * 2, none⟩ = some (.int .i64 kv) := ⟨_, hg9.cell (show w4.drew.cell? ⟨b, off + j9 * 2, none⟩ = _ from HCE.out j9 (by omega)) (by have := HBL.out; simp; omega)⟩; clear hx1)
      all_goals
        have hown9 := own_other HO.out (by omega : w.heap.size + 1 < w1.heap.size) hg9
        have hB9 := HB.out.grown hg9 HB.out.size (fun k e => by injection e with e; omega)
        have hfin := fin_two (room := room) (by omega : w.heap.size < w1.heap.size) hown9 HR9.out hB9
        clear hown9 hB9
        go_wp2
        obtain ⟨X, hX⟩ : ∃ X, ((w9.setCell ⟨w.heap.size, 0, none⟩ (.int .i64 room)).setCell ⟨w.heap.size, 1, none⟩ (.slice (some ⟨b, off, none⟩) bs.length cap2)) = X := ⟨_, rfl⟩
        rw [hX] at hfin ⊢
        obtain ⟨f0, f1, f2, f3⟩ := hfin
        refine bodyPost_ret (v := .tuple #[.agg #[.int .i64 room, .slice (some ⟨b, off, none⟩) bs.length cap2], .int .i64 kv]) (by simp [results, Try.results14, go_sem, f0, f1]) rfl ?_
        first | exact ⟨_, _, _, _, rfl, f2, hbl, hbt, f3⟩ | exact ⟨_, _, _, rfl, f2, hbl, hbt, f3⟩
    · have HC : Hid (Cur w4.drew (w.heap.size + 1) a len cap) := hc4.drew
      have HO : Hid (w4.drew.ownsRow w1.heap.size 39 2 (.slice a2 bs.length cap2) bs.length (blobV bs)) := own_none hown4 (grown_drew _ none)
      have HR : Hid (ResAt w4.drew w.heap.size) := hR4.kept (grown_drew _ none) (by simp)
      have HB : Hid (Below w.heap.size w w4.drew) := hB4.grown (grown_drew _ none) hB4.size (fun k e => by cases e)
      have z0 := hR4.c0
      have z1 := hR4.c1
      have y0 := hR4.free 0
      have y1 := hR4.free 1
      clear hc4 hown4 hR4 hB4
      go_wp2
      go_region_with (go_at_call 50; refine (drawFrom _ (w.heap.size + 1) a len cap HC.out).mono ?_; rintro e w9 ⟨x9, rfl, hc9, hg9⟩; have s09 : w9.cell? ⟨w2.heap.size, 0, none⟩ = some (.int .i64 room) := hg9.cell (show w4.drew.cell? ⟨w2.heap.size, 0, none⟩ = some (.int .i64 room) from s04) (by simp; omega); have s19 : w9.cell? ⟨w2.heap.size, 1, none⟩ = some (.slice a2 bs.length cap2) := hg9.cell (show w4.drew.cell? ⟨w2.heap.size, 1, none⟩ = some (.slice a2 bs.length cap2) from s14) (by simp; omega); have HR9 : Hid (ResAt w9 w.heap.size) := HR.out.kept hg9 (by simp); have z09 := HR9.out.c0; have z19 := HR9.out.c1; have y09 := HR9.out.free 0; have y19 := HR9.out.free 1)
      all_goals
        have hown9 := own_other HO.out (by omega : w.heap.size + 1 < w1.heap.size) hg9
        have hB9 := HB.out.grown hg9 HB.out.size (fun k e => by injection e with e; omega)
        have hfin := fin_two (room := room) (by omega : w.heap.size < w1.heap.size) hown9 HR9.out hB9
        clear hown9 hB9
        go_wp2
        obtain ⟨X, hX⟩ : ∃ X, ((w9.setCell ⟨w.heap.size, 0, none⟩ (.int .i64 room)).setCell ⟨w.heap.size, 1, none⟩ (.slice a2 bs.length cap2)) = X := ⟨_, rfl⟩
        rw [hX] at hfin ⊢
        obtain ⟨f0, f1, f2, f3⟩ := hfin
        refine bodyPost_ret (v := .tuple #[.agg #[.int .i64 room, .slice a2 bs.length cap2], .int .i64 x9]) (by simp [results, Try.results14, go_sem, f0, f1]) rfl ?_
        first | exact ⟨_, _, _, _, rfl, f2, hbl, hbt, f3⟩ | exact ⟨_, _, _, rfl, f2, hbl, hbt, f3⟩

end Go.Proofs.Ytfjpbbacibfnmaa
