/-
  Parts of one proof, one behind the other: LendS, DkB, LendT, LendJ, Math18R, Hash, FromHex, Lists, ListsX, FrameS, FrameI.
-/
import Derived.Test.YtglhbcbilepomaaDoorP16
import Derived.Test.YtglhbcbilepomaaDoorP14
import Derived.Test.YtglhbcbilepomaaDoorP3
import Derived.Test.YtglhbcbilepomaaDoorP13
import Derived.Deep.RegionHeld3
import Derived.Test.YtglhbcbilepomaaDoorP6
import Derived.Test.YtglhbcbilepomaaDoorP5
import Derived.Test.YtglhbcbilepomaaDoorRows
import Derived.Test.YtglhbcbilepomaaDoorP1
import Derived.WalkKit
import Derived.WalkLawsBesides
import Derived.OpenShut
import Derived.Laws.Externs
import Derived.Handy
import Derived.Test.YtglhbcbilepomaaDoorP2

/-! The contracts of chapter 18's specification: l18Free, l18Lend, Lent. -/
namespace Go.Proofs.YtglhbcbilepomaaDoor
open Go.RowKit

set_option maxHeartbeats 2000000 in
set_option maxRecDepth 100000 in
theorem specFree (a : Option Addr) (len cap : Nat) (ts : List Ta) (ep nw : Int) (jr : List UInt8) (p : Nat) (w : World) (hin : TasksIn w a len ts) (hsh : ShortTa ts) (hlen : len ≤ 1048576) (hp : p < len)
    (hnd : ∀ q, q < (ts.getD p ta0).2.1.length → 0 ≤ (ts.getD p ta0).2.1.getD q 0 ∧ (ts.getD p ta0).2.1.getD q 0 < len) :
    Calls Tryd.prog 32 #[.agg #[.slice a len cap, .int .i64 ep, .int .i64 nw, .string ⟨jr.toArray⟩], .int .i64 (p : Int)] w
      fun e w' => e = .returned (.bool (free18 ts (ts.getD p ta0))) ∧ Below w.heap.size w w' := by
  obtain rfl : ts.length = len := hin.1
  obtain ⟨W, hW⟩ : ∃ W, w.alloc (.cells #[.slice a ts.length cap, .int .i64 ep, .int .i64 nw, .string ⟨jr.toArray⟩] 28) = W := ⟨_, rfl⟩
  have hbW : Below w.heap.size w W := by rw [← hW]; exact (Below.refl _ _).alloc (Nat.le_refl _) _
  have hA : W.heap[w.heap.size]? = some (.cells #[.slice a ts.length cap, .int .i64 ep, .int .i64 nw, .string ⟨jr.toArray⟩] 28) := by rw [← hW]; exact heap_alloc_new w _
  obtain ⟨D, hD⟩ : ∃ D, w.heap.size = D := ⟨_, rfl⟩
  rw [hD] at hA
  have k0 : W.cell? ⟨D, 0, none⟩ = some (.slice a ts.length cap) := by simp [World.cell?, hA]
  have hI := hin.below hbW
  have HB : Hid (∀ Z, Below W.heap.size W Z → Below D w Z) := fun Z hz => hD ▸ hbW.trans (hz.mono hbW.size)
  have hDl : D < W.heap.size := World.block_lt_of_cell? W ⟨D, 0, none⟩ k0
  have HK : Hid (∀ Z, Below W.heap.size W Z → Z.cell? ⟨D, 0, none⟩ = some (.slice a ts.length cap)) := fun Z hz => (hz.cell (p := ⟨D, 0, none⟩) hDl).trans k0
  have HB0 : Hid (Below W.heap.size W W) := Below.refl _ _
  obtain ⟨b, off, rfl, hbl, _, ⟨na, nc, c1, hn⟩, _⟩ := hI.2 p hp
  have HC1 : Hid (∀ Z, Below W.heap.size W Z → Z.cell? ⟨b, off + p * 6 + 1, none⟩ = some (.slice na (ts.getD p ta0).2.1.length nc)) := fun Z hz => (hz.cell (p := ⟨b, off + p * 6 + 1, none⟩) hbl).trans c1
  have HI : Hid (TasksIn W (some ⟨b, off, none⟩) ts.length ts) := hI
  have HN : Hid (∀ i, i < (ts.getD p ta0).2.1.length → (ts.getD ((ts.getD p ta0).2.1.getD i 0).toNat ta0).2.2.1 ≠ 2 → free18 ts (ts.getD p ta0) = false) := fun i hi h => free18_no hi h
  have HY : Hid ((∀ i, i < (ts.getD p ta0).2.1.length → (ts.getD ((ts.getD p ta0).2.1.getD i 0).toNat ta0).2.2.1 = 2) → free18 ts (ts.getD p ta0) = true) := fun h => free18_yes h
  have hnl := (hsh p).2
  generalize free18 ts (ts.getD p ta0) = res at HN HY ⊢
  generalize (ts.getD p ta0).2.1 = ns at HN HY c1 HC1 hn hnd hnl
  have HM : Hid (AsIn W na ns) := hn
  have HD : Hid (∀ q, q < ns.length → 0 ≤ ns.getD q 0 ∧ ns.getD q 0 < ts.length) := hnd
  clear hin hsh hbW hA hI hn hnd hDl
  go_enter Tryd.func32, Tryd.ntmps32
  go_wp2
  go_loopw [5] (fun iv wr => ∃ i : Nat, iv = .int .i64 (i : Int) ∧ i ≤ ns.length ∧ Hid (∀ q, q < i → (ts.getD (ns.getD q 0).toNat ta0).2.2.1 = 2) ∧ Hid (Below W.heap.size W wr)) (fun iv _ => ns.length - (intOf iv).toNat)
  case atStart => exact ⟨0, rfl, by omega, (fun q hq => by omega), HB0⟩
  case round =>
    obtain ⟨i, rfl, hi, HA, HBr⟩ := hrel
    clear k0 c1 HB0
    have k0 := HK.out wr HBr.out
    have c1 := HC1.out wr HBr.out
    by_cases hlt : (i : Int) < (ns.length : Int)
    · obtain ⟨nb, no, rfl, _, d0⟩ := (HM.out.below HBr.out) i (by omega)
      obtain ⟨h0, h1⟩ := HD.out i (by omega)
      have HNi : Hid (_) := HN.out i (by omega)
      obtain ⟨y, hy⟩ : ∃ y, ns.getD i 0 = y := ⟨_, rfl⟩
      rw [hy] at d0 h0 h1 HNi
      obtain ⟨m, rfl⟩ : ∃ m : Nat, y = (m : Int) := ⟨y.toNat, by omega⟩
      obtain ⟨b', off', e, _, _, _, c2, _⟩ := (HI.out.below HBr.out).2 m (by omega)
      injection e with e
      injection e with e1 e2 _
      subst e1 e2
      obtain ⟨x, hx⟩ : ∃ x, (ts.getD m ta0).2.2.1 = x := ⟨_, rfl⟩
      rw [hx] at c2
      by_cases h2 : x = 2
      · have HR : Hid (∀ q, q < i + 1 → (ts.getD (ns.getD q 0).toNat ta0).2.2.1 = 2) := fun q hq => by
          rcases Nat.lt_or_ge q i with g | g
          · exact HA.out q g
          · obtain rfl : q = i := by omega
            rw [hy, Int.toNat_natCast, hx]; exact h2
        clear HA hx hy HNi
        subst h2
        have HBd : Hid (Below W.heap.size W wr.drew) := HBr.out.trans (by exact ⟨rfl, rfl, rfl, Nat.le_refl _, fun _ _ => rfl⟩)
        go_wp2
        refine wp_region_held_drew (S := (fun Z => Z.cell? ⟨D, 0, none⟩ = some (.slice (some ⟨b, off, none⟩) ts.length cap) ∧ Z.cell? ⟨b, off + p * 6 + 1, none⟩ = some (.slice (some ⟨nb, no, none⟩) ns.length nc) ∧ Z.cell? ⟨nb, no + i, none⟩ = some (.int .i64 (m : Int)) ∧ Z.cell? ⟨b, off + m * 6 + 2, none⟩ = some (.int .i64 2))) (by kernel_rfl) ?_ (fun hHeld => ?_)
        · exact ⟨k0, c1, d0, c2⟩
        refine wpAnyH_take (i := 0) (oi := ⟨some 17, _, _, _, _, _⟩) (v := ?va0) rfl (by kernel_rfl) (by kernel_rfl) (by kernel_rfl) (fun _ _ _ h => h) (Or.inl ⟨by rfl, ?hya0⟩) (by assumption) ?resta0
        case hya0 => (intro wq hSw; (try dsimp only at hSw); first | (go_simp; done) | (go_simp; with_reducible rfl))
        simp only [Act.put, List.setIfInBounds_toArray, List.set_cons_zero, List.set_cons_succ]
        refine wpAnyH_take (i := 1) (oi := ⟨some 18, _, _, _, _, _⟩) (v := ?va1) rfl (by kernel_rfl) (by kernel_rfl) (by kernel_rfl) (fun _ _ _ h => h) (Or.inl ⟨by rfl, ?hya1⟩) (by assumption) ?resta1
        case hya1 => (intro wq hSw; (try dsimp only at hSw); first | (go_simp; done) | (go_simp; with_reducible rfl))
        simp only [Act.put, List.setIfInBounds_toArray, List.set_cons_zero, List.set_cons_succ]
        refine wpAnyH_take (i := 2) (oi := ⟨some 19, _, _, _, _, _⟩) (v := ?va2) rfl (by kernel_rfl) (by kernel_rfl) (by kernel_rfl) (fun _ _ _ h => h) (Or.inl ⟨by rfl, ?hya2⟩) (by assumption) ?resta2
        case hya2 => (intro wq hSw; (try dsimp only at hSw); first | (go_simp; done) | (go_simp; with_reducible rfl))
        simp only [Act.put, List.setIfInBounds_toArray, List.set_cons_zero, List.set_cons_succ]
        refine wpAnyH_take (i := 3) (oi := ⟨some 20, _, _, _, _, _⟩) (v := ?va3) rfl (by kernel_rfl) (by kernel_rfl) (by kernel_rfl) (fun _ _ _ h => h) (Or.inl ⟨by rfl, ?hya3⟩) (by assumption) ?resta3
        case hya3 => (intro wq hSw; (try dsimp only at hSw); first | (go_simp; done) | (go_simp; with_reducible rfl))
        simp only [Act.put, List.setIfInBounds_toArray, List.set_cons_zero, List.set_cons_succ]
        refine wpAnyH_take (i := 4) (oi := ⟨some 21, _, _, _, _, _⟩) (v := ?va4) rfl (by kernel_rfl) (by kernel_rfl) (by kernel_rfl) (fun _ _ _ h => h) (Or.inl ⟨by rfl, ?hya4⟩) (by assumption) ?resta4
        case hya4 => (intro wq hSw; (try dsimp only at hSw); first | (go_simp; done) | (go_simp; with_reducible rfl))
        simp only [Act.put, List.setIfInBounds_toArray, List.set_cons_zero, List.set_cons_succ]
        refine wpAnyH_take (i := 5) (oi := ⟨some 22, _, _, _, _, _⟩) (v := ?va5) rfl (by kernel_rfl) (by kernel_rfl) (by kernel_rfl) (fun _ _ _ h => h) (Or.inl ⟨by rfl, ?hya5⟩) (by assumption) ?resta5
        case hya5 => (intro wq hSw; (try dsimp only at hSw); first | (go_simp; done) | (go_simp; with_reducible rfl))
        simp only [Act.put, List.setIfInBounds_toArray, List.set_cons_zero, List.set_cons_succ]
        refine wpAnyH_take (i := 6) (oi := ⟨some 23, _, _, _, _, _⟩) (v := ?va6) rfl (by kernel_rfl) (by kernel_rfl) (by kernel_rfl) (fun _ _ _ h => h) (Or.inl ⟨by rfl, ?hya6⟩) (by assumption) ?resta6
        case hya6 => (intro wq hSw; (try dsimp only at hSw); first | (go_simp; done) | (go_simp; with_reducible rfl))
        simp only [Act.put, List.setIfInBounds_toArray, List.set_cons_zero, List.set_cons_succ]
        refine wpAnyH_take (i := 7) (oi := ⟨some 24, _, _, _, _, _⟩) (v := ?va7) rfl (by kernel_rfl) (by kernel_rfl) (by kernel_rfl) (fun _ _ _ h => h) (Or.inl ⟨by rfl, ?hya7⟩) (by assumption) ?resta7
        case hya7 => (intro wq hSw; (try dsimp only at hSw); first | (go_simp; done) | (go_simp; with_reducible rfl))
        simp only [Act.put, List.setIfInBounds_toArray, List.set_cons_zero, List.set_cons_succ]
        refine wpAnyH_take (i := 8) (oi := ⟨some 25, _, _, _, _, _⟩) (v := ?va8) rfl (by kernel_rfl) (by kernel_rfl) (by kernel_rfl) (fun _ _ _ h => h) (Or.inl ⟨by rfl, ?hya8⟩) (by assumption) ?resta8
        case hya8 => (intro wq hSw; (try dsimp only at hSw); first | (go_simp; done) | (go_simp; with_reducible rfl))
        simp only [Act.put, List.setIfInBounds_toArray, List.set_cons_zero, List.set_cons_succ]
        refine wpAnyH_take (i := 9) (oi := ⟨some 26, _, _, _, _, _⟩) (v := ?va9) rfl (by kernel_rfl) (by kernel_rfl) (by kernel_rfl) (fun _ _ _ h => h) (Or.inl ⟨by rfl, ?hya9⟩) (by assumption) ?resta9
        case hya9 => (intro wq hSw; (try dsimp only at hSw); first | (go_simp; done) | (go_simp; with_reducible rfl))
        simp only [Act.put, List.setIfInBounds_toArray, List.set_cons_zero, List.set_cons_succ]
        refine wpAnyH_take (i := 10) (oi := ⟨some 27, _, _, _, _, _⟩) (v := ?va10) rfl (by kernel_rfl) (by kernel_rfl) (by kernel_rfl) (fun _ _ _ h => h) (Or.inl ⟨by rfl, ?hya10⟩) (by assumption) ?resta10
        case hya10 => (intro wq hSw; (try dsimp only at hSw); first | (go_simp; done) | (go_simp; with_reducible rfl))
        simp only [Act.put, List.setIfInBounds_toArray, List.set_cons_zero, List.set_cons_succ]
        refine wpAnyH_take (i := 11) (oi := ⟨some 28, _, _, _, _, _⟩) (v := ?va11) rfl (by kernel_rfl) (by kernel_rfl) (by kernel_rfl) (fun _ _ _ h => h) (Or.inl ⟨by rfl, ?hya11⟩) (by assumption) ?resta11
        case hya11 => (intro wq hSw; (try dsimp only at hSw); first | (go_simp; done) | (go_simp; with_reducible rfl))
        simp only [Act.put, List.setIfInBounds_toArray, List.set_cons_zero, List.set_cons_succ]
        refine wpAnyH_take (i := 12) (oi := ⟨some 29, _, _, _, _, _⟩) (v := ?va12) rfl (by kernel_rfl) (by kernel_rfl) (by kernel_rfl) (fun _ _ _ h => h) (Or.inl ⟨by rfl, ?hya12⟩) (by assumption) ?resta12
        case hya12 => (intro wq hSw; (try dsimp only at hSw); first | (go_simp; done) | (go_simp; with_reducible rfl))
        simp only [Act.put, List.setIfInBounds_toArray, List.set_cons_zero, List.set_cons_succ]
        refine wpAnyH_take (i := 13) (oi := ⟨some 30, _, _, _, _, _⟩) (v := ?va13) rfl (by kernel_rfl) (by kernel_rfl) (by kernel_rfl) (fun _ _ _ h => h) (Or.inl ⟨by rfl, ?hya13⟩) (by assumption) ?resta13
        case hya13 => (intro wq hSw; (try dsimp only at hSw); first | (go_simp; done) | (go_simp; with_reducible rfl))
        simp only [Act.put, List.setIfInBounds_toArray, List.set_cons_zero, List.set_cons_succ]
        refine wpAnyH_take (i := 14) (oi := ⟨some 31, _, _, _, _, _⟩) (v := ?va14) rfl (by kernel_rfl) (by kernel_rfl) (by kernel_rfl) (fun _ _ _ h => h) (Or.inl ⟨by rfl, ?hya14⟩) (by assumption) ?resta14
        case hya14 => (intro wq hSw; (try dsimp only at hSw); first | (go_simp; done) | (go_simp; with_reducible rfl))
        simp only [Act.put, List.setIfInBounds_toArray, List.set_cons_zero, List.set_cons_succ]
        refine wpAnyH_done (by kernel_rfl) ?_ _
        go_wp2
        go_roundw
        case rel => exact ⟨i + 1, by go_num, by omega, HR, HBd⟩
        case measure => simp [intOf]; omega
      · have HF : Hid (res = false) := HNi.out (by rw [Int.toNat_natCast, hx]; exact h2)
        have hxb : (x != 2) = true := by simp [h2]
        have HBd : Hid (Below W.heap.size W wr.drew) := HBr.out.trans (by exact ⟨rfl, rfl, rfl, Nat.le_refl _, fun _ _ => rfl⟩)
        clear HA hx hy HN HY HNi
        go_wp2
        refine wp_region_held_drew (S := (fun Z => Z.cell? ⟨D, 0, none⟩ = some (.slice (some ⟨b, off, none⟩) ts.length cap) ∧ Z.cell? ⟨b, off + p * 6 + 1, none⟩ = some (.slice (some ⟨nb, no, none⟩) ns.length nc) ∧ Z.cell? ⟨nb, no + i, none⟩ = some (.int .i64 (m : Int)) ∧ Z.cell? ⟨b, off + m * 6 + 2, none⟩ = some (.int .i64 x))) (by kernel_rfl) ?_ (fun hHeld => ?_)
        · exact ⟨k0, c1, d0, c2⟩
        refine wpAnyH_take (i := 0) (oi := ⟨some 17, _, _, _, _, _⟩) (v := ?vb0) rfl (by kernel_rfl) (by kernel_rfl) (by kernel_rfl) (fun _ _ _ h => h) (Or.inl ⟨by rfl, ?hyb0⟩) (by assumption) ?restb0
        case hyb0 => (intro wq hSw; (try dsimp only at hSw); first | (go_simp; done) | (go_simp; with_reducible rfl))
        simp only [Act.put, List.setIfInBounds_toArray, List.set_cons_zero, List.set_cons_succ]
        refine wpAnyH_take (i := 1) (oi := ⟨some 18, _, _, _, _, _⟩) (v := ?vb1) rfl (by kernel_rfl) (by kernel_rfl) (by kernel_rfl) (fun _ _ _ h => h) (Or.inl ⟨by rfl, ?hyb1⟩) (by assumption) ?restb1
        case hyb1 => (intro wq hSw; (try dsimp only at hSw); first | (go_simp; done) | (go_simp; with_reducible rfl))
        simp only [Act.put, List.setIfInBounds_toArray, List.set_cons_zero, List.set_cons_succ]
        refine wpAnyH_take (i := 2) (oi := ⟨some 19, _, _, _, _, _⟩) (v := ?vb2) rfl (by kernel_rfl) (by kernel_rfl) (by kernel_rfl) (fun _ _ _ h => h) (Or.inl ⟨by rfl, ?hyb2⟩) (by assumption) ?restb2
        case hyb2 => (intro wq hSw; (try dsimp only at hSw); first | (go_simp; done) | (go_simp; with_reducible rfl))
        simp only [Act.put, List.setIfInBounds_toArray, List.set_cons_zero, List.set_cons_succ]
        refine wpAnyH_take (i := 3) (oi := ⟨some 20, _, _, _, _, _⟩) (v := ?vb3) rfl (by kernel_rfl) (by kernel_rfl) (by kernel_rfl) (fun _ _ _ h => h) (Or.inl ⟨by rfl, ?hyb3⟩) (by assumption) ?restb3
        case hyb3 => (intro wq hSw; (try dsimp only at hSw); first | (go_simp; done) | (go_simp; with_reducible rfl))
        simp only [Act.put, List.setIfInBounds_toArray, List.set_cons_zero, List.set_cons_succ]
        refine wpAnyH_take (i := 4) (oi := ⟨some 21, _, _, _, _, _⟩) (v := ?vb4) rfl (by kernel_rfl) (by kernel_rfl) (by kernel_rfl) (fun _ _ _ h => h) (Or.inl ⟨by rfl, ?hyb4⟩) (by assumption) ?restb4
        case hyb4 => (intro wq hSw; (try dsimp only at hSw); first | (go_simp; done) | (go_simp; with_reducible rfl))
        simp only [Act.put, List.setIfInBounds_toArray, List.set_cons_zero, List.set_cons_succ]
        refine wpAnyH_take (i := 5) (oi := ⟨some 22, _, _, _, _, _⟩) (v := ?vb5) rfl (by kernel_rfl) (by kernel_rfl) (by kernel_rfl) (fun _ _ _ h => h) (Or.inl ⟨by rfl, ?hyb5⟩) (by assumption) ?restb5
        case hyb5 => (intro wq hSw; (try dsimp only at hSw); first | (go_simp; done) | (go_simp; with_reducible rfl))
        simp only [Act.put, List.setIfInBounds_toArray, List.set_cons_zero, List.set_cons_succ]
        refine wpAnyH_take (i := 6) (oi := ⟨some 23, _, _, _, _, _⟩) (v := ?vb6) rfl (by kernel_rfl) (by kernel_rfl) (by kernel_rfl) (fun _ _ _ h => h) (Or.inl ⟨by rfl, ?hyb6⟩) (by assumption) ?restb6
        case hyb6 => (intro wq hSw; (try dsimp only at hSw); first | (go_simp; done) | (go_simp; with_reducible rfl))
        simp only [Act.put, List.setIfInBounds_toArray, List.set_cons_zero, List.set_cons_succ]
        refine wpAnyH_take (i := 7) (oi := ⟨some 24, _, _, _, _, _⟩) (v := ?vb7) rfl (by kernel_rfl) (by kernel_rfl) (by kernel_rfl) (fun _ _ _ h => h) (Or.inl ⟨by rfl, ?hyb7⟩) (by assumption) ?restb7
        case hyb7 => (intro wq hSw; (try dsimp only at hSw); first | (go_simp; done) | (go_simp; with_reducible rfl))
        simp only [Act.put, List.setIfInBounds_toArray, List.set_cons_zero, List.set_cons_succ]
        refine wpAnyH_take (i := 8) (oi := ⟨some 25, _, _, _, _, _⟩) (v := ?vb8) rfl (by kernel_rfl) (by kernel_rfl) (by kernel_rfl) (fun _ _ _ h => h) (Or.inl ⟨by rfl, ?hyb8⟩) (by assumption) ?restb8
        case hyb8 => (intro wq hSw; (try dsimp only at hSw); first | (go_simp; done) | (go_simp; with_reducible rfl))
        simp only [Act.put, List.setIfInBounds_toArray, List.set_cons_zero, List.set_cons_succ]
        refine wpAnyH_take (i := 9) (oi := ⟨some 26, _, _, _, _, _⟩) (v := ?vb9) rfl (by kernel_rfl) (by kernel_rfl) (by kernel_rfl) (fun _ _ _ h => h) (Or.inl ⟨by rfl, ?hyb9⟩) (by assumption) ?restb9
        case hyb9 => (intro wq hSw; (try dsimp only at hSw); first | (go_simp; done) | (go_simp; with_reducible rfl))
        simp only [Act.put, List.setIfInBounds_toArray, List.set_cons_zero, List.set_cons_succ]
        refine wpAnyH_take (i := 10) (oi := ⟨some 27, _, _, _, _, _⟩) (v := ?vb10) rfl (by kernel_rfl) (by kernel_rfl) (by kernel_rfl) (fun _ _ _ h => h) (Or.inl ⟨by rfl, ?hyb10⟩) (by assumption) ?restb10
        case hyb10 => (intro wq hSw; (try dsimp only at hSw); first | (go_simp; done) | (go_simp; with_reducible rfl))
        simp only [Act.put, List.setIfInBounds_toArray, List.set_cons_zero, List.set_cons_succ]
        refine wpAnyH_take (i := 11) (oi := ⟨some 28, _, _, _, _, _⟩) (v := ?vb11) rfl (by kernel_rfl) (by kernel_rfl) (by kernel_rfl) (fun _ _ _ h => h) (Or.inl ⟨by rfl, ?hyb11⟩) (by assumption) ?restb11
        case hyb11 => (intro wq hSw; (try dsimp only at hSw); first | (go_simp; done) | (go_simp; with_reducible rfl))
        simp only [Act.put, List.setIfInBounds_toArray, List.set_cons_zero, List.set_cons_succ]
        refine wpAnyH_take (i := 12) (oi := ⟨some 29, _, _, _, _, _⟩) (v := ?vb12) rfl (by kernel_rfl) (by kernel_rfl) (by kernel_rfl) (fun _ _ _ h => h) (Or.inl ⟨by rfl, ?hyb12⟩) (by assumption) ?restb12
        case hyb12 => (intro wq hSw; (try dsimp only at hSw); first | (go_simp; done) | (go_simp; with_reducible rfl))
        simp only [Act.put, List.setIfInBounds_toArray, List.set_cons_zero, List.set_cons_succ]
        refine wpAnyH_take (i := 13) (oi := ⟨some 30, _, _, _, _, _⟩) (v := ?vb13) rfl (by kernel_rfl) (by kernel_rfl) (by kernel_rfl) (fun _ _ _ h => h) (Or.inl ⟨by rfl, ?hyb13⟩) (by assumption) ?restb13
        case hyb13 => (intro wq hSw; (try dsimp only at hSw); first | (go_simp; done) | (go_simp; with_reducible rfl))
        simp only [Act.put, List.setIfInBounds_toArray, List.set_cons_zero, List.set_cons_succ]
        refine wpAnyH_take (i := 14) (oi := ⟨some 31, _, _, _, _, _⟩) (v := ?vb14) rfl (by kernel_rfl) (by kernel_rfl) (by kernel_rfl) (fun _ _ _ h => h) (Or.inl ⟨by rfl, ?hyb14⟩) (by assumption) ?restb14
        case hyb14 => (intro wq hSw; (try dsimp only at hSw); first | (go_simp; done) | (go_simp; with_reducible rfl))
        simp only [Act.put, List.setIfInBounds_toArray, List.set_cons_zero, List.set_cons_succ]
        refine wpAnyH_done (by kernel_rfl) ?_ _
        go_wp2
        go_ret
        exact ⟨by rw [HF.out]; rfl, hD ▸ HB.out _ HBd.out⟩
    · have HF : Hid (res = true) := HY.out (fun q hq => HA.out q (by omega))
      clear HA HN HY
      go_wp2
      go_ret
      exact ⟨by rw [HF.out]; rfl, hD ▸ HB.out _ HBr.out⟩


theorem tksV_set3 (xs : List TV) (j : Nat) (hj : j < xs.length) (a b c : Int) : (((tksV xs).set (j * 6 + 2) (.int .i64 a)).set (j * 6 + 3) (.int .i64 b)).set (j * 6 + 4) (.int .i64 c) = tksV (xs.set j ((xs[j].1.1, xs[j].1.2.1, a, b, c, xs[j].1.2.2.2.2.2), xs[j].2)) := by
  induction xs generalizing j with
  | nil => simp at hj
  | cons x r ih =>
    cases j with
    | zero => simp [tksV, tvT]
    | succ j =>
      have := ih j (by simpa using hj)
      rw [show (j + 1) * 6 = j * 6 + 1 + 1 + 1 + 1 + 1 + 1 by omega]
      simp only [tksV, Nat.add_right_comm _ 1 2, List.set_cons_succ, List.getElem_cons_succ]
      rw [this]
/-- The needs of a right desk's task are tasks ahead of it. -/
theorem needs_of {d : Dk} (h : DeskP d) {p : Nat} (hp : p < d.1.length) : ∀ q, q < (d.1.getD p ta0).2.1.length → 0 ≤ (d.1.getD p ta0).2.1.getD q 0 ∧ (d.1.getD p ta0).2.1.getD q 0 < d.1.length := fun q hq => by
  obtain ⟨_, h2, _⟩ := h.one p hp
  unfold taskB needsB at h2
  rw [Bool.and_eq_true] at h2
  have h3 := of_decide_eq_true h2.1 q hq
  unfold need18 at h3
  omega
theorem short_of_desk {d : Dk} (h : DeskP d) (hs : ShortTa d.1) : d.1.length ≤ 1048576 ∧ ShortTa d.1 := ⟨by have := h.n; omega, hs⟩
theorem getD_xs {xs : List TV} {ts : List Ta} (h : xs.map (·.1) = ts) {i : Nat} (hi : i < xs.length) : xs[i].1 = ts.getD i ta0 := by
  rw [← h, getD_map_tk]; simp [List.getD, hi]


end Go.Proofs.YtglhbcbilepomaaDoor

/-! How great the desks are that chapter 18's functions hand out. -/
namespace Go.Proofs.YtglhbcbilepomaaDoor
open Go.RowKit

theorem tend_few {xs : List TV} {n : Nat} (hl : xs.length = n) (h8 : n ≤ 8) (h : ∀ x ∈ xs, x.1.2.1.length ≤ 1048576) : tend 1 xs ≤ 30000000 := by
  have key : ∀ (l : List TV) (k : Nat), (∀ x ∈ l, x.1.2.1.length ≤ 1048576) → tend k l ≤ k + l.length * 1048581 := by
    intro l
    induction l with
    | nil => intro k _; simp [tend]
    | cons x r ih =>
      intro k hk
      have h1 := hk x (List.mem_cons.2 (Or.inl rfl))
      have h2 := ih (k + 5 + x.1.2.1.length) (fun y hy => hk y (List.mem_cons.2 (Or.inr hy)))
      simp only [tend, List.length_cons]
      omega
  have := key xs 1 h
  omega
theorem ticked_small {d : Dk} {n : Int} (h : ∀ j, (d.1.getD j ta0).2.1.length ≤ 1048576) : (tickedV d n).1.1.length ≤ 8 ∧ ∀ j, ((tickedV d n).1.1.getD j ta0).2.1.length ≤ 1048576 := by
  unfold tickedV
  split
  · rename_i hd
    have h8 := (deskB_iff.1 hd).n.2
    split
    · exact ⟨h8, h⟩
    · exact ⟨h8, h⟩
  · exact ⟨by simp [dk0], fun j => by simp [dk0, ta0]⟩
theorem lent_small {d : Dk} {worker : Int} (h : ∀ j, (d.1.getD j ta0).2.1.length ≤ 1048576) : (lentV d worker).1.1.length ≤ 8 ∧ ∀ j, ((lentV d worker).1.1.getD j ta0).2.1.length ≤ 1048576 := by
  unfold lentV
  split
  · rename_i hd
    have h8 := (deskB_iff.1 hd).n.2
    unfold lend18
    split
    · split
      · rename_i i hi
        obtain ⟨_, h2, _, _⟩ := lendGo_some hi
        refine ⟨by simp only [List.length_set]; exact h8, fun j => ?_⟩
        show ((d.1.set i _).getD j ta0).2.1.length ≤ 1048576
        rw [getD_set18 _ _ _ _ (by omega)]
        split
        · exact h i
        · exact h j
      · exact ⟨h8, h⟩
    · exact ⟨h8, h⟩
  · exact ⟨by simp [dk0], fun j => by simp [dk0, ta0]⟩

end Go.Proofs.YtglhbcbilepomaaDoor

/-! The contract of chapter 18's specification: Lent. -/
namespace Go.Proofs.YtglhbcbilepomaaDoor
open Go.RowKit

theorem lend_rest {d : Dk} {worker : Int} : (lend18 d worker).1.2 = d.2 ∧ (lend18 d worker).1.1.length = d.1.length := by
  unfold lend18
  split
  · split
    · exact ⟨rfl, by simp⟩
    · exact ⟨rfl, rfl⟩
  · exact ⟨rfl, rfl⟩


end Go.Proofs.YtglhbcbilepomaaDoor

/-! The contracts of chapter 18's landed code: needsDone, firstToLend, asLeased, Lent. -/
namespace Go.Proofs.YtglhbcbilepomaaDoor
open Go.RowKit

set_option maxHeartbeats 2000000 in
set_option maxRecDepth 100000 in
theorem implNeedsDone (a na : Option Addr) (len cap nc : Nat) (ts : List Ta) (ns : List Int) (w : World) (hin : TasksIn w a len ts) (hns : AsIn w na ns) (hnl : ns.length ≤ 1048576) (hlen : len ≤ 1048576) (hnd : ∀ q, q < ns.length → 0 ≤ ns.getD q 0 ∧ ns.getD q 0 < len) :
    Calls Tryd.prog 63 #[.slice a len cap, .slice na ns.length nc] w fun e w' => e = .returned (.bool (decide (∀ i, i < ns.length → (ts.getD (ns.getD i 0).toNat ta0).2.2.1 = 2))) ∧ w' = w := by
  obtain rfl : ts.length = len := hin.1
  have HI : Hid (TasksIn w a ts.length ts) := hin
  have HM : Hid (AsIn w na ns) := hns
  have HD : Hid (∀ q, q < ns.length → 0 ≤ ns.getD q 0 ∧ ns.getD q 0 < ts.length) := hnd
  have HN : Hid (∀ i, i < ns.length → (ts.getD (ns.getD i 0).toNat ta0).2.2.1 ≠ 2 → decide (∀ i, i < ns.length → (ts.getD (ns.getD i 0).toNat ta0).2.2.1 = 2) = false) := fun i hi h => decide_eq_false (fun e => h (e i hi))
  have HY : Hid ((∀ i, i < ns.length → (ts.getD (ns.getD i 0).toNat ta0).2.2.1 = 2) → decide (∀ i, i < ns.length → (ts.getD (ns.getD i 0).toNat ta0).2.2.1 = 2) = true) := fun h => decide_eq_true h
  generalize decide (∀ i, i < ns.length → (ts.getD (ns.getD i 0).toNat ta0).2.2.1 = 2) = res at HN HY ⊢
  clear hin hns hnd
  go_enter Tryd.func63, Tryd.ntmps63
  go_wp2
  go_loopw [9] (fun iv wr => ∃ i : Nat, iv = .int .i64 (i : Int) ∧ i ≤ ns.length ∧ Hid (∀ q, q < i → (ts.getD (ns.getD q 0).toNat ta0).2.2.1 = 2) ∧ wr = w) (fun iv _ => ns.length - (intOf iv).toNat)
  case atStart => exact ⟨0, rfl, Nat.zero_le _, (fun q hq => absurd hq (Nat.not_lt_zero _)), rfl⟩
  case round =>
    obtain ⟨i, rfl, hi, HA, hwr⟩ := hrel
    obtain rfl := hwr.symm
    by_cases hlt : (i : Int) < (ns.length : Int)
    · obtain ⟨nb, no, rfl, _, d0⟩ := HM.out i (by omega)
      obtain ⟨h0, h1⟩ := HD.out i (by omega)
      have HNi : Hid (_) := HN.out i (by omega)
      obtain ⟨y, hy⟩ : ∃ y, ns.getD i 0 = y := ⟨_, rfl⟩
      rw [hy] at d0 h0 h1 HNi
      obtain ⟨m, rfl⟩ : ∃ m : Nat, y = (m : Int) := ⟨y.toNat, by omega⟩
      obtain ⟨b, off, rfl, hbl, _, _, c2, _⟩ := HI.out.2 m (by omega)
      rw [Int.toNat_natCast] at HNi
      obtain ⟨x, hx⟩ : ∃ x, (ts.getD m ta0).2.2.1 = x := ⟨_, rfl⟩
      rw [hx] at c2 HNi
      by_cases h2 : x = 2
      · have HR : Hid (∀ q, q < i + 1 → (ts.getD (ns.getD q 0).toNat ta0).2.2.1 = 2) := fun q hq => by
          rcases Nat.lt_or_ge q i with g | g
          · exact HA.out q g
          · obtain rfl : q = i := by omega
            rw [hy, Int.toNat_natCast, hx]; exact h2
        clear HA hx hy HNi
        subst h2
        go_wp2
        go_roundw
        case rel => exact ⟨i + 1, by go_num, by omega, HR, trivial⟩
        case measure => simp [intOf]; omega
      · have HF : Hid (res = false) := HNi.out h2
        have hxb : (x != 2) = true := by simp [h2]
        clear HA hx hy HN HY HNi
        go_wp2
        go_ret
        exact ⟨by rw [HF.out]; rfl, rfl⟩
    · have HF : Hid (res = true) := HY.out (fun q hq => HA.out q (by omega))
      clear HA HN HY
      go_wp2
      go_ret
      exact ⟨by rw [HF.out]; rfl, rfl⟩




end Go.Proofs.YtglhbcbilepomaaDoor

/-! Plain facts of chapter 18: what came back (Returned). -/
namespace Go.Proofs.YtglhbcbilepomaaDoor
open Go.RowKit

/-- 'done', the task's number, its key. -/
def doneT (k key : Int) : List UInt8 := (([100, 111, 110, 101, 32] ++ intL k) ++ [32]) ++ intL key
def lineR (k key : Int) : List UInt8 := framedS (doneT k key)
theorem intL_len64 {n : Int} (h0 : -9223372036854775808 ≤ n) (h1 : n ≤ 9223372036854775807) : (intL n).length ≤ 21 := by
  have h := digL_len 19 n.natAbs (by omega)
  unfold intL
  split
  · simp only [List.length_cons]; omega
  · omega
theorem doneT_len {k key : Int} (h0 : -9223372036854775808 ≤ k) (h1 : k ≤ 9223372036854775807) (h2 : -9223372036854775808 ≤ key) (h3 : key ≤ 9223372036854775807) : (doneT k key).length ≤ 100 := by
  have a := intL_len64 h0 h1
  have b := intL_len64 h2 h3
  unfold doneT
  simp only [List.length_append, List.length_cons, List.length_nil]
  omega
theorem lineR_len {k key : Int} (h0 : -9223372036854775808 ≤ k) (h1 : k ≤ 9223372036854775807) (h2 : -9223372036854775808 ≤ key) (h3 : key ≤ 9223372036854775807) : (lineR k key).length ≤ 1000 := by
  have a := doneT_len h0 h1 h2 h3
  unfold lineR
  rw [framedS_yes _ (by omega)]
  have h8 : ∀ n, (hexL n).length = 8 := fun _ => rfl
  unfold framedL
  simp only [List.length_append, h8]
  omega
def retCode (d : Dk) (k e key : Int) : Int :=
  if (k < 0 ∨ (d.1.length : Int) ≤ k) ∨ key18 key = false then 3
  else if 60000 < d.2.2.2.length + (lineR k key).length then 3
  else if e ≠ d.2.1 then 1
  else if (d.1.getD k.toNat ta0).2.2.1 = 2 then 2
  else if free18 d.1 (d.1.getD k.toNat ta0) = false then 4 else 0
def done18 (t : Ta) (key : Int) : Ta := (t.1, t.2.1, 2, 0, 0, key)
def ret18 (d : Dk) (k e key : Int) : Dk × Int :=
  if retCode d k e key = 0 then ((d.1.set k.toNat (done18 (d.1.getD k.toNat ta0) key), d.2.1, d.2.2.1, d.2.2.2 ++ lineR k key), 0) else (d, retCode d k e key)
def returnedV (d : Dk) (k e key : Int) : Dk × Int := if deskB d = true then ret18 d k e key else (dk0, 3)
theorem ret_bad {d : Dk} {k e key : Int} (h : (k < 0 ∨ (d.1.length : Int) ≤ k) ∨ key18 key = false) : retCode d k e key = 3 := by unfold retCode; rw [if_pos h]
theorem ret_room {d : Dk} {k e key : Int} (h : ¬ ((k < 0 ∨ (d.1.length : Int) ≤ k) ∨ key18 key = false)) (h2 : 60000 < d.2.2.2.length + (lineR k key).length) : retCode d k e key = 3 := by unfold retCode; rw [if_neg h, if_pos h2]
theorem ret_old {d : Dk} {k e key : Int} (h : ¬ ((k < 0 ∨ (d.1.length : Int) ≤ k) ∨ key18 key = false)) (h2 : ¬ 60000 < d.2.2.2.length + (lineR k key).length) (h3 : e ≠ d.2.1) : retCode d k e key = 1 := by unfold retCode; rw [if_neg h, if_neg h2, if_pos h3]
theorem ret_again {d : Dk} {k e key : Int} (h : ¬ ((k < 0 ∨ (d.1.length : Int) ≤ k) ∨ key18 key = false)) (h2 : ¬ 60000 < d.2.2.2.length + (lineR k key).length) (h3 : e = d.2.1) (h4 : (d.1.getD k.toNat ta0).2.2.1 = 2) : retCode d k e key = 2 := by unfold retCode; rw [if_neg h, if_neg h2, if_neg (fun x => x h3), if_pos h4]
theorem ret_open {d : Dk} {k e key : Int} (h : ¬ ((k < 0 ∨ (d.1.length : Int) ≤ k) ∨ key18 key = false)) (h2 : ¬ 60000 < d.2.2.2.length + (lineR k key).length) (h3 : e = d.2.1) (h4 : (d.1.getD k.toNat ta0).2.2.1 ≠ 2) (h5 : free18 d.1 (d.1.getD k.toNat ta0) = false) : retCode d k e key = 4 := by unfold retCode; rw [if_neg h, if_neg h2, if_neg (fun x => x h3), if_neg h4, if_pos h5]
theorem ret_ok {d : Dk} {k e key : Int} (h : ¬ ((k < 0 ∨ (d.1.length : Int) ≤ k) ∨ key18 key = false)) (h2 : ¬ 60000 < d.2.2.2.length + (lineR k key).length) (h3 : e = d.2.1) (h4 : (d.1.getD k.toNat ta0).2.2.1 ≠ 2) (h5 : free18 d.1 (d.1.getD k.toNat ta0) = true) : retCode d k e key = 0 := by unfold retCode; rw [if_neg h, if_neg h2, if_neg (fun x => x h3), if_neg h4, if_neg (by rw [h5]; simp)]
theorem ret18_no {d : Dk} {k e key c : Int} (h : retCode d k e key = c) (hc : c ≠ 0) : ret18 d k e key = (d, c) := by unfold ret18; rw [h, if_neg hc]
theorem ret18_ok {d : Dk} {k e key : Int} (h : retCode d k e key = 0) : ret18 d k e key = ((d.1.set k.toNat (done18 (d.1.getD k.toNat ta0) key), d.2.1, d.2.2.1, d.2.2.2 ++ lineR k key), 0) := by unfold ret18; rw [if_pos h]
theorem ret18_rest {d : Dk} {k e key : Int} : (ret18 d k e key).1.2.1 = d.2.1 ∧ (ret18 d k e key).1.2.2.1 = d.2.2.1 ∧ (ret18 d k e key).1.1.length = d.1.length := by
  unfold ret18
  split
  · exact ⟨rfl, rfl, by simp⟩
  · exact ⟨rfl, rfl, rfl⟩
theorem returned_small {d : Dk} {k e key : Int} (h : ∀ j, (d.1.getD j ta0).2.1.length ≤ 1048576) : (returnedV d k e key).1.1.length ≤ 8 ∧ ∀ j, ((returnedV d k e key).1.1.getD j ta0).2.1.length ≤ 1048576 := by
  unfold returnedV
  split
  · rename_i hd
    have h8 := (deskB_iff.1 hd).n.2
    unfold ret18
    split
    · rename_i hc
      have hk : ¬ ((k < 0 ∨ (d.1.length : Int) ≤ k) ∨ key18 key = false) := fun hb => by rw [ret_bad hb] at hc; cases hc
      refine ⟨by simp only [List.length_set]; exact h8, fun j => ?_⟩
      show ((d.1.set k.toNat _).getD j ta0).2.1.length ≤ 1048576
      rw [getD_set18 _ _ _ _ (by omega)]
      split
      · exact h k.toNat
      · exact h j
    · exact ⟨h8, h⟩
  · exact ⟨by simp [dk0], fun j => by simp [dk0, ta0]⟩

end Go.Proofs.YtglhbcbilepomaaDoor

/-! The contracts of spec.Hash and impl.Hash: both return the hash of the text, and nothing in memory turns. -/
namespace Go.Proofs.YtglhbcbilepomaaDoor
open Go.RowKit

set_option maxHeartbeats 400000 in
set_option maxRecDepth 100000 in
theorem specHash (s : ByteArray) (w : World) (hs : s.size ≤ maxLen) :
    Calls Tryd.prog 53 #[.string s] w fun e w' => e = .returned (.int .i64 (hashL s.data.toList)) ∧ w' = w := by
  unfold maxLen at hs
  go_enter Tryd.func53, Tryd.ntmps53
  go_wp2
  go_loop [3, 4] (fun h i => ∃ k : Nat, k ≤ s.size ∧ i = .int .i64 k ∧ h = .int .i64 (hashL (s.data.toList.take k))) (fun _ i => s.size - (intOf i).toNat)
  case atStart => exact ⟨0, Nat.zero_le _, rfl, rfl⟩
  case round =>
    obtain ⟨k, hk, rfl, rfl⟩ := hrel
    have hd := hashL_bd (s.data.toList.take k)
    by_cases hlt : k < s.size
    · have HS : Hid (hashL (s.data.toList.take (k + 1)) = hashStep (hashL (s.data.toList.take k)) s[k]) := hashL_take s k hlt
      go_wp2
      go_round
      case rel => exact ⟨k + 1, by omega, by go_num, by rw [HS.out, ← stepW _ _ hd]⟩
      case measure => simp [intOf]; omega
    · go_wp2
      go_ret
      exact ⟨ret_int (by rw [List.take_of_length_le (by simp; omega)]), rfl⟩

set_option maxHeartbeats 400000 in
set_option maxRecDepth 100000 in
theorem implWith (h : Int) (b : UInt8) (w : World) (hd : 0 ≤ h ∧ h < 2147483647) :
    Calls Tryd.prog 71 #[.int .i64 h, .int .u8 (b.toNat : Int)] w fun e w' => e = .returned (.int .i64 (hashStep h b)) ∧ w' = w := by
  have HS : Hid (_ = hashStep h b) := stepW h b hd
  go_enter Tryd.func71, Tryd.ntmps71
  go_wp2
  go_ret
  exact ⟨ret_int (by rw [← HS.out]), rfl⟩

set_option maxHeartbeats 400000 in
set_option maxRecDepth 100000 in
theorem implSteppedWith (s : ByteArray) (w : World) (hs : s.size ≤ maxLen) :
    Calls Tryd.prog 70 #[.int .i64 17, .string s, .func (.func 71) #[] #[]] w fun e w' => e = .returned (.int .i64 (hashL s.data.toList)) ∧ w' = w := by
  unfold maxLen at hs
  go_enter Tryd.func70, Tryd.ntmps70
  go_wp2
  go_loop [7, 12] (fun h i => ∃ k : Nat, k ≤ s.size ∧ i = .int .i64 k ∧ h = .int .i64 (hashL (s.data.toList.take k))) (fun _ i => s.size - (intOf i).toNat)
  case atStart => exact ⟨0, Nat.zero_le _, rfl, rfl⟩
  case round =>
    obtain ⟨k, hk, rfl, rfl⟩ := hrel
    have hd := hashL_bd (s.data.toList.take k)
    by_cases hlt : k < s.size
    · have HS : Hid (hashL (s.data.toList.take (k + 1)) = hashStep (hashL (s.data.toList.take k)) s[k]) := hashL_take s k hlt
      go_wp2_with (go_at_call 71; refine (implWith _ _ _ hd).mono ?_; rintro e w' ⟨rfl, rfl⟩)
      go_round
      case rel => exact ⟨k + 1, by omega, by go_num, by rw [HS.out]⟩
      case measure => simp [intOf]; omega
    · go_wp2
      go_ret
      exact ⟨ret_int (by rw [List.take_of_length_le (by simp; omega)]), rfl⟩

set_option maxHeartbeats 400000 in
set_option maxRecDepth 100000 in
theorem implHash (s : ByteArray) (w : World) (hs : s.size ≤ maxLen) :
    Calls Tryd.prog 61 #[.string s] w fun e w' => e = .returned (.int .i64 (hashL s.data.toList)) ∧ w' = w := by
  go_enter Tryd.func61, Tryd.ntmps61
  go_wp2_with (go_at_call 70; refine (implSteppedWith _ _ hs).mono ?_; rintro e w' ⟨rfl, rfl⟩)
  go_ret
  exact ⟨rfl, rfl⟩

end Go.Proofs.YtglhbcbilepomaaDoor

/-! The contracts of spec.FromHex and impl.FromHex. -/
namespace Go.Proofs.YtglhbcbilepomaaDoor
open Go.RowKit



end Go.Proofs.YtglhbcbilepomaaDoor

/-! The contracts of chapter 1 at texts that are told as lists of bytes. -/
namespace Go.Proofs.YtglhbcbilepomaaDoor
open Go.RowKit



theorem implHashX (l : List UInt8) (w : World) (hl : l.length ≤ 1048576) :
    Calls Tryd.prog 61 #[.string ⟨l.toArray⟩] w fun e w' => e = .returned (.int .i64 (hashL l)) ∧ w' = w :=
  implHash ⟨l.toArray⟩ w (by unfold maxLen; exact Nat.le_trans hl (by decide))

theorem specHashX (l : List UInt8) (w : World) (hl : l.length ≤ 1048576) :
    Calls Tryd.prog 53 #[.string ⟨l.toArray⟩] w fun e w' => e = .returned (.int .i64 (hashL l)) ∧ w' = w :=
  specHash ⟨l.toArray⟩ w (by unfold maxLen; exact Nat.le_trans hl (by decide))

theorem implHashC (l : List UInt8) (c : UInt8) (w : World) (hl : l.length ≤ 1048575) :
    Calls Tryd.prog 61 #[.string (⟨l.toArray⟩ ++ ⟨#[c]⟩)] w fun e w' => e = .returned (.int .i64 (hashL (l ++ [c]))) ∧ w' = w := by
  have e : (⟨l.toArray⟩ ++ ⟨#[c]⟩ : ByteArray) = ⟨(l ++ [c]).toArray⟩ := ba_ext (by simp)
  rw [e]
  exact implHashX (l ++ [c]) w (by simp; omega)

end Go.Proofs.YtglhbcbilepomaaDoor

/-! HexOf's and FromHex's contracts at texts that are told as lists of bytes. -/
namespace Go.Proofs.YtglhbcbilepomaaDoor
open Go.RowKit

theorem implHexOfX (n : Int) (s : List UInt8) (w : World) (h : hexS n = s) :
    Calls Tryd.prog 60 #[.int .i64 n] w fun e w' => e = .returned (.string ⟨s.toArray⟩) ∧ Below w.heap.size w w' := by
  subst h; exact implHexOf n w




end Go.Proofs.YtglhbcbilepomaaDoor

/-! The contracts of chapter 2's specification: Framed, the first frame of a text, Unframed. -/
namespace Go.Proofs.YtglhbcbilepomaaDoor
open Go.RowKit

set_option maxHeartbeats 400000 in
set_option maxRecDepth 100000 in
theorem specL2Framed (l : List UInt8) (w : World) (hl : l.length ≤ 1048576) :
    Calls Tryd.prog 30 #[.string ⟨l.toArray⟩] w fun e w' => e = .returned (.string ⟨(framedL l).toArray⟩) ∧ Below w.heap.size w w' := by
  have hd := hashL_bd l
  go_enter Tryd.func30, Tryd.ntmps30
  go_wp2_with fail
  refine (specL1Hex _ _ (by omega) (by omega)).mono ?_
  rintro e w1 ⟨rfl, hb1⟩
  go_wp2_with fail
  refine (specHashX l _ hl).mono ?_
  rintro e w2 ⟨rfl, rfl⟩
  go_wp2_with fail
  refine (specL1Hex _ _ (by omega) (by omega)).mono ?_
  rintro e w3 ⟨rfl, hb3⟩
  have h8 : ∀ n, (hexL n).length = 8 := fun _ => rfl
  have hcat := cat_list
  go_wp2
  go_ret
  exact ⟨rfl, hb1.trans (hb3.mono hb1.size)⟩




end Go.Proofs.YtglhbcbilepomaaDoor

/-! The contracts of chapter 2's implementation: Framed, the frame ahead of a text, Unframed. -/
namespace Go.Proofs.YtglhbcbilepomaaDoor
open Go.RowKit

set_option maxHeartbeats 400000 in
set_option maxRecDepth 100000 in
theorem implFramed (l : List UInt8) (w : World) (hl : l.length ≤ 1048576) :
    Calls Tryd.prog 41 #[.string ⟨l.toArray⟩] w fun e w' => e = .returned (.string ⟨(framedS l).toArray⟩) ∧ Below w.heap.size w w' := by
  by_cases h : 20000 < (l.length : Int)
  · have HS : Hid (framedS l = []) := framedS_no l (by omega)
    go_enter Tryd.func41, Tryd.ntmps41
    go_wp2
    go_ret
    exact ⟨ret_strl (by rw [HS.out]), Below.refl _ _⟩
  · have HS : Hid (framedS l = framedL l) := framedS_yes l (by omega)
    have hd := hashL_bd l
    go_enter Tryd.func41, Tryd.ntmps41
    go_wp2_with fail
    refine (implHexOfX _ (hexL l.length) _ (by rw [hexS_yes _ (by omega) (by omega), Int.toNat_natCast])).mono ?_
    rintro e w1 ⟨rfl, hb1⟩
    go_wp2_with fail
    refine (implHashX l _ hl).mono ?_
    rintro e w2 ⟨rfl, rfl⟩
    go_wp2_with fail
    refine (implHexOfX _ (hexL (hashL l).toNat) _ (hexS_yes _ (by omega) (by omega))).mono ?_
    rintro e w3 ⟨rfl, hb3⟩
    have h8 : ∀ n, (hexL n).length = 8 := fun _ => rfl
    have hcat := cat_list
    go_wp2
    go_ret
    exact ⟨ret_strl (by rw [HS.out]; rfl), hb1.trans (hb3.mono hb1.size)⟩



end Go.Proofs.YtglhbcbilepomaaDoor
