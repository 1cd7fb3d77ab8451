/-
  FnExactKept returns true at every store and text and leaves them as they were: impl.Kept answers as spec.Kept, in memory of its own.
-/
import Derived.Test.YtfjpbbacibfnmaaRows
import Derived.Test.YtfjpbbacibfnmaaMath1
import Derived.Test.YtfjpbbacibfnmaaMathT
import Derived.Test.YtfjpbbacibfnmaaOwn
import Derived.Test.YtfjpbbacibfnmaaHash
import Derived.Test.YtfjpbbacibfnmaaHexOf
import Derived.Test.YtfjpbbacibfnmaaTurned
import Derived.Test.YtfjpbbacibfnmaaLists
import Derived.Test.YtfjpbbacibfnmaaMath3
import Derived.Test.YtfjpbbacibfnmaaStoreIn
import Derived.Test.YtfjpbbacibfnmaaStoreS
import Derived.Test.YtfjpbbacibfnmaaStoreS2
import Derived.Test.YtfjpbbacibfnmaaStoreS3
import Derived.Test.YtfjpbbacibfnmaaStoreS4
import Derived.Test.YtfjpbbacibfnmaaStoreS5
import Derived.Test.YtfjpbbacibfnmaaStoreL
import Derived.Test.YtfjpbbacibfnmaaStoreM
import Derived.Test.YtfjpbbacibfnmaaClone
import Derived.Test.YtfjpbbacibfnmaaMath3M
import Derived.Test.YtfjpbbacibfnmaaMapB
import Derived.Test.YtfjpbbacibfnmaaIter
import Derived.Test.YtfjpbbacibfnmaaIterC
import Derived.Test.YtfjpbbacibfnmaaByKey
import Derived.Test.YtfjpbbacibfnmaaByKey2
import Derived.Test.YtfjpbbacibfnmaaStoreJ
import Derived.Test.YtfjpbbacibfnmaaStoreOf
import Derived.Test.YtfjpbbacibfnmaaStoreI
import Derived.Test.YtfjpbbacibfnmaaDraw
import Derived.Test.YtfjpbbacibfnmaaDraw2
import Derived.Test.YtfjpbbacibfnmaaMarks
import Derived.Test.YtfjpbbacibfnmaaMarksB
import Derived.WalkKit
import Derived.ProofKit
import Derived.OpenShut
import Derived.ShutString
import Derived.ChangeOld
import Derived.Below
namespace Go.Proofs.Ytfjpbbacibfnmaa.fnExactKept
open Go.ChangeShapes Go.WideShapes Go.ChangeAt Go.RowKit
open Go.ChangeMaps (open_string shut_string)
set_option linter.unusedVariables false

theorem own : ownKnob Try.prog.godebug = none := by kernel_rfl
theorem laidOut : laidOutB Try.prog = true := by kernel_rfl

/-! The walk: the law returns true and writes nothing that was there. -/
set_option maxHeartbeats 1000000 in
set_option maxRecDepth 1000000 in
theorem walk (room0 : Int) (a0 : Option Addr) (len0 cap0 : Nat) (bs0 : List (Int × List UInt8)) (a1 : ByteArray) (w : World) (w0 : BlobsIn w a0 len0 cap0 bs0) (wr0 : (Lit.int .i64 room0).wf = true) (wl0 : len0 ≤ maxLen) (wm0 : ∀ j, (bs0.getD j (0, [])).2.length ≤ maxLen) (w1 : a1.size ≤ maxLen) :
    Calls Try.prog 6 #[.agg #[.int .i64 room0, .slice a0 len0 cap0], .string a1] w fun e w' => e = .returned (.bool true) ∧ Below w.heap.size w w' := by
  obtain ⟨t, rfl⟩ : ∃ t : List UInt8, a1 = ⟨t.toArray⟩ := ⟨a1.data.toList, by cases a1; simp⟩
  have hlb := w0.1
  have hin0 := w0.alloc (.cells #[.int .i64 room0, .slice a0 len0 cap0] 49)
  by_cases htl : 1048576 < (t.length : Int)
  · have htd : decide (1048576 < (t.length : Int)) = true := decide_eq_true htl
    go_enter Try.func6, Try.ntmps6
    go_wp2
    go_ret
    exact ⟨rfl, (Below.refl _ w).alloc (Nat.le_refl _) _⟩
  · have htd : decide (1048576 < (t.length : Int)) = false := decide_eq_false htl
    by_cases hz : (len0 : Int) + (takenL bs0 : Int) ≤ 1048576
    · have HZ : Hid (szL len0 (takenL bs0) 1048576 = 1048576 - (len0 : Int) - (takenL bs0 : Int)) := szL_yes hz
      have hl : takenL bs0 ≤ 1048576 := by omega
      have hlen : len0 ≤ 1048576 := by omega
      have hge : (0 : Int) ≤ 1048576 - (len0 : Int) - (takenL bs0 : Int) := by omega
      have hself : ∀ n : Int, (n != n) = false := by simp
      obtain ⟨R, hR⟩ : ∃ R, keptR room0 bs0 = R := ⟨_, rfl⟩
      obtain ⟨C, hC⟩ : ∃ C, keptC room0 bs0 t = C := ⟨_, rfl⟩
      obtain ⟨S, hS⟩ : ∃ S, keptB room0 bs0 t = S := ⟨_, rfl⟩
      have hSl : S.length ≤ 1048577 := by rw [← hS]; have := keptB_len room0 bs0 t; omega
      obtain ⟨n, hn⟩ : ∃ n, S.length = n := ⟨_, rfl⟩
      have HR : Hid (keptR room0 bs0 = R ∧ keptC room0 bs0 t = C ∧ keptB room0 bs0 t = S ∧ S.length = n) := ⟨hR, hC, hS, hn⟩
      rw [hn] at hSl
      clear hR hC hS hn
      go_enter Try.func6, Try.ntmps6
      go_wp2_with fail
      refine (szStoreC room0 a0 len0 cap0 bs0 1048576 _ hin0 (by omega) (by omega) wl0 wm0).mono ?_
      rintro e w1 ⟨rfl, hb1⟩
      rw [HZ.out]
      have hs1 : w.heap.size + 1 ≤ w1.heap.size := by have := hb1.size; rw [World.size_alloc] at this; exact this
      have cA0_1 : w1.cell? ⟨w.heap.size, 0, none⟩ = some (.int .i64 room0) := (hb1.cell (p := ⟨w.heap.size, 0, none⟩) (by simp)).trans (by simp)
      have cA1_1 : w1.cell? ⟨w.heap.size, 1, none⟩ = some (.slice a0 len0 cap0) := (hb1.cell (p := ⟨w.heap.size, 1, none⟩) (by simp)).trans (by simp)
      have hB1 : Below w.heap.size w w1 := ((Below.refl _ w).alloc (Nat.le_refl _) _).trans (hb1.mono (by simp))
      clear hb1 hin0
      go_wp2_with fail
      refine (toStoreC room0 a0 len0 cap0 bs0 _ (w0.below hB1) hlen).mono ?_
      rintro e w2 ⟨vY, rfl, hY2, hb2⟩
      have hg2 := Below.by hb2
      have cA0_2 := hg2.cell cA0_1 (by simp)
      have cA1_2 := hg2.cell cA1_1 (by simp)
      have hB2 := hB1.grown hg2 hB1.size (fun q e => by cases e)
      have hs2 : w1.heap.size ≤ w2.heap.size := hg2.size
      obtain ⟨_, aY, capY, rfl, _⟩ := own_blobs hY2
      have HUY : Hid (∀ q, (Value.slice aY len0 capY).ownBlock = some q → w1.heap.size ≤ q ∧ q < w2.heap.size) := fun q e => hY2.lt q e
      clear hg2 hB1 cA0_1 cA1_1 hb2
      go_wp2_with fail
      refine (specKept room0 aY len0 capY bs0 t _ (own_in hY2) hl hlen (by omega)).mono ?_
      rintro e w3 ⟨vW, rfl, hW3, hb3⟩
      rw [HR.out.1, HR.out.2.1]
      rw [HR.out.2.2.1, HR.out.2.2.2] at hW3
      have hg3 := Below.by hb3
      have cA0_3 := hg3.cell cA0_2 (by simp)
      have cA1_3 := hg3.cell cA1_2 (by simp)
      have hY3 := own_none hY2 hg3
      have hB3 := hB2.grown hg3 hB2.size (fun q e => by cases e)
      have hs3 : w2.heap.size ≤ w3.heap.size := hg3.size
      obtain ⟨_, aW, capW, rfl, _⟩ := own_blobs hW3
      have HUW : Hid (∀ q, (Value.slice aW n capW).ownBlock = some q → w2.heap.size ≤ q ∧ q < w3.heap.size) := fun q e => hW3.lt q e
      clear hg3 hB2 cA0_2 cA1_2 hY2 hb3
      clear hY3
      obtain ⟨w4, hw4⟩ : ∃ W, w3.alloc (.cells #[.int .i64 R, .slice aW n capW] 26) = W := ⟨_, rfl⟩
      have hg4 : w3.grownBy w4 none := by rw [← hw4]; exact World.grownBy_alloc _ _ _
      have cW0_4 : w4.cell? ⟨w3.heap.size, 0, none⟩ = some (.int .i64 R) := by rw [← hw4]; simp
      have cW1_4 : w4.cell? ⟨w3.heap.size, 1, none⟩ = some (.slice aW n capW) := by rw [← hw4]; simp
      have hz4 : w4.heap.size = w3.heap.size + 1 := by rw [← hw4]; simp
      have cA0_4 := hg4.cell cA0_3 (by simp)
      have cA1_4 := hg4.cell cA1_3 (by simp)
      have hW4 := own_none hW3 hg4
      have hB4 := hB3.grown hg4 hB3.size (fun q e => by cases e)
      have hs4 : w3.heap.size ≤ w4.heap.size := hg4.size
      clear hB3 cA0_3 cA1_3 hW3 hg4
      go_wp2_with fail
      refine (toStoreC room0 a0 len0 cap0 bs0 _ (w0.below hB4) hlen).mono ?_
      rintro e w5 ⟨vX, rfl, hX5, hb5⟩
      have hg5 := Below.by hb5
      have cA0_5 := hg5.cell cA0_4 (by simp)
      have cA1_5 := hg5.cell cA1_4 (by simp)
      have cW0_5 := hg5.cell cW0_4 (by simp)
      have cW1_5 := hg5.cell cW1_4 (by simp)
      have hW5 := own_none hW4 hg5
      have hB5 := hB4.grown hg5 hB4.size (fun q e => by cases e)
      have hs5 : w4.heap.size ≤ w5.heap.size := hg5.size
      obtain ⟨_, aX, capX, rfl, _⟩ := own_blobs hX5
      have HUX : Hid (∀ q, (Value.slice aX len0 capX).ownBlock = some q → w4.heap.size ≤ q ∧ q < w5.heap.size) := fun q e => hX5.lt q e
      clear hg5 hB4 cA0_4 cA1_4 cW0_4 cW1_4 hW4 hb5
      obtain ⟨w6, hw6⟩ : ∃ W, w5.alloc (.cells #[.int .i64 room0, .slice aX len0 capX] 26) = W := ⟨_, rfl⟩
      have hg6 : w5.grownBy w6 none := by rw [← hw6]; exact World.grownBy_alloc _ _ _
      have cX0_6 : w6.cell? ⟨w5.heap.size, 0, none⟩ = some (.int .i64 room0) := by rw [← hw6]; simp
      have cX1_6 : w6.cell? ⟨w5.heap.size, 1, none⟩ = some (.slice aX len0 capX) := by rw [← hw6]; simp
      have hz6 : w6.heap.size = w5.heap.size + 1 := by rw [← hw6]; simp
      have cA0_6 := hg6.cell cA0_5 (by simp)
      have cA1_6 := hg6.cell cA1_5 (by simp)
      have cW0_6 := hg6.cell cW0_5 (by simp)
      have cW1_6 := hg6.cell cW1_5 (by simp)
      have hW6 := own_none hW5 hg6
      have hX6 := own_none hX5 hg6
      have hB6 := hB5.grown hg6 hB5.size (fun q e => by cases e)
      have hs6 : w5.heap.size ≤ w6.heap.size := hg6.size
      clear hB5 cA0_5 cA1_5 cW0_5 cW1_5 hW5 hX5 hg6
      go_wp2_with fail
      refine (implKept room0 aX len0 capX bs0 t _ (own_in hX6) hl hlen (by omega)).mono ?_
      rintro e w7 ⟨vG, rfl, hG7, hb7⟩
      rw [HR.out.1, HR.out.2.1]
      rw [HR.out.2.2.1, HR.out.2.2.2] at hG7
      have hg7 := Below.by hb7
      have cA0_7 := hg7.cell cA0_6 (by simp)
      have cA1_7 := hg7.cell cA1_6 (by simp)
      have cW0_7 := hg7.cell cW0_6 (by simp)
      have cW1_7 := hg7.cell cW1_6 (by simp)
      have cX0_7 := hg7.cell cX0_6 (by simp)
      have cX1_7 := hg7.cell cX1_6 (by simp)
      have hW7 := own_none hW6 hg7
      have hX7 := own_none hX6 hg7
      have hB7 := hB6.grown hg7 hB6.size (fun q e => by cases e)
      have hs7 : w6.heap.size ≤ w7.heap.size := hg7.size
      obtain ⟨_, aG, capG, rfl, _⟩ := own_blobs hG7
      have HUG : Hid (∀ q, (Value.slice aG n capG).ownBlock = some q → w6.heap.size ≤ q ∧ q < w7.heap.size) := fun q e => hG7.lt q e
      clear hg7 hB6 cA0_6 cA1_6 cW0_6 cW1_6 cX0_6 cX1_6 hW6 hX6 hb7
      obtain ⟨w8, hw8⟩ : ∃ W, w7.alloc (.cells #[.int .i64 R, .slice aG n capG] 26) = W := ⟨_, rfl⟩
      have hg8 : w7.grownBy w8 none := by rw [← hw8]; exact World.grownBy_alloc _ _ _
      have cG0_8 : w8.cell? ⟨w7.heap.size, 0, none⟩ = some (.int .i64 R) := by rw [← hw8]; simp
      have cG1_8 : w8.cell? ⟨w7.heap.size, 1, none⟩ = some (.slice aG n capG) := by rw [← hw8]; simp
      have hz8 : w8.heap.size = w7.heap.size + 1 := by rw [← hw8]; simp
      have cA0_8 := hg8.cell cA0_7 (by simp)
      have cA1_8 := hg8.cell cA1_7 (by simp)
      have cW0_8 := hg8.cell cW0_7 (by simp)
      have cW1_8 := hg8.cell cW1_7 (by simp)
      have cX0_8 := hg8.cell cX0_7 (by simp)
      have cX1_8 := hg8.cell cX1_7 (by simp)
      have hW8 := own_none hW7 hg8
      have hX8 := own_none hX7 hg8
      have hG8 := own_none hG7 hg8
      have hB8 := hB7.grown hg8 hB7.size (fun q e => by cases e)
      have hs8 : w7.heap.size ≤ w8.heap.size := hg8.size
      clear hB7 cA0_7 cA1_7 cW0_7 cW1_7 cX0_7 cX1_7 hW7 hX7 hG7 hg8
      go_wp2_with fail
      refine (eqStoreC R aG aW n capG capW S _ (own_in hG8) (own_in hW8) (by omega)).mono ?_
      rintro e w9 ⟨rfl, hb9⟩
      have hg9 := Below.by hb9
      have cA0_9 := hg9.cell cA0_8 (by simp)
      have cA1_9 := hg9.cell cA1_8 (by simp)
      have cW0_9 := hg9.cell cW0_8 (by simp)
      have cW1_9 := hg9.cell cW1_8 (by simp)
      have cX0_9 := hg9.cell cX0_8 (by simp)
      have cX1_9 := hg9.cell cX1_8 (by simp)
      have cG0_9 := hg9.cell cG0_8 (by simp)
      have cG1_9 := hg9.cell cG1_8 (by simp)
      have hW9 := own_none hW8 hg9
      have hX9 := own_none hX8 hg9
      have hG9 := own_none hG8 hg9
      have hB9 := hB8.grown hg9 hB8.size (fun q e => by cases e)
      have hs9 : w8.heap.size ≤ w9.heap.size := hg9.size
      clear hg9 hB8 cA0_8 cA1_8 cW0_8 cW1_8 cX0_8 cX1_8 cG0_8 cG1_8 hW8 hX8 hG8 hb9
      have HA9 : Hid (BlobsIn w9.drew a0 len0 cap0 bs0) := (show BlobsIn w9 a0 len0 cap0 bs0 from w0.below hB9)
      have HX9 : Hid (BlobsIn w9.drew aX len0 capX bs0) := (show BlobsIn w9 aX len0 capX bs0 from own_in hX9)
      go_wp2
      go_region_held3 (fun w' => w'.cell? ⟨w.heap.size, 0, none⟩ = some (.int .i64 room0) ∧ w'.cell? ⟨w.heap.size, 1, none⟩ = some (.slice a0 len0 cap0) ∧ w'.cell? ⟨w5.heap.size, 0, none⟩ = some (.int .i64 room0) ∧ w'.cell? ⟨w5.heap.size, 1, none⟩ = some (.slice aX len0 capX)) (go_keep) (first | (go_at_call 33; refine (eqStoreC room0 aX aZ len0 capX capZ bs0 _ HX10.out hbi10 (by omega)).mono ?_; rintro e w11 ⟨rfl, hb11⟩; have yA0 : w11.cell? ⟨w.heap.size, 0, none⟩ = some (.int .i64 room0) := (hb11.cell (p := ⟨w.heap.size, 0, none⟩) (by show w.heap.size < w10.heap.size; omega)).trans zA0; have yA1 : w11.cell? ⟨w.heap.size, 1, none⟩ = some (.slice a0 len0 cap0) := (hb11.cell (p := ⟨w.heap.size, 1, none⟩) (by show w.heap.size < w10.heap.size; omega)).trans zA1; have yX0 : w11.cell? ⟨w5.heap.size, 0, none⟩ = some (.int .i64 room0) := (hb11.cell (p := ⟨w5.heap.size, 0, none⟩) (by show w5.heap.size < w10.heap.size; omega)).trans zX0; have yX1 : w11.cell? ⟨w5.heap.size, 1, none⟩ = some (.slice aX len0 capX) := (hb11.cell (p := ⟨w5.heap.size, 1, none⟩) (by show w5.heap.size < w10.heap.size; omega)).trans zX1) | (go_at_call 32; refine (toStoreC room0 a0 len0 cap0 bs0 _ HA9.out hlen).mono ?_; rintro e w10 ⟨vZ, rfl, hown10, hb10⟩; obtain ⟨_, aZ, capZ, rfl, hbi10⟩ := own_blobs hown10; have hs10 : w9.heap.size ≤ w10.heap.size := hb10.size; have HX10 : Hid (BlobsIn w10 aX len0 capX bs0) := HX9.out.below hb10; have zA0 : w10.cell? ⟨w.heap.size, 0, none⟩ = some (.int .i64 room0) := (hb10.cell (p := ⟨w.heap.size, 0, none⟩) (by show w.heap.size < w9.heap.size; omega)).trans cA0_9; have zA1 : w10.cell? ⟨w.heap.size, 1, none⟩ = some (.slice a0 len0 cap0) := (hb10.cell (p := ⟨w.heap.size, 1, none⟩) (by show w.heap.size < w9.heap.size; omega)).trans cA1_9; have zX0 : w10.cell? ⟨w5.heap.size, 0, none⟩ = some (.int .i64 room0) := (hb10.cell (p := ⟨w5.heap.size, 0, none⟩) (by show w5.heap.size < w9.heap.size; omega)).trans cX0_9; have zX1 : w10.cell? ⟨w5.heap.size, 1, none⟩ = some (.slice aX len0 capX) := (hb10.cell (p := ⟨w5.heap.size, 1, none⟩) (by show w5.heap.size < w9.heap.size; omega)).trans cX1_9))
      have hs11a : w10.heap.size ≤ w11.heap.size := hb11.size
      have hg11 : w9.grownBy w11 none := (⟨hb10.os, hb10.tape, hb10.output, hb10.size, fun q hq _ => hb10.block q hq⟩ : w9.grownBy w10 none).trans (Below.by hb11)
      have cA0_11 := hg11.cell cA0_9 (by simp)
      have cA1_11 := hg11.cell cA1_9 (by simp)
      have cW0_11 := hg11.cell cW0_9 (by simp)
      have cW1_11 := hg11.cell cW1_9 (by simp)
      have cX0_11 := hg11.cell cX0_9 (by simp)
      have cX1_11 := hg11.cell cX1_9 (by simp)
      have cG0_11 := hg11.cell cG0_9 (by simp)
      have cG1_11 := hg11.cell cG1_9 (by simp)
      have hW11 := own_none hW9 hg11
      have hX11 := own_none hX9 hg11
      have hG11 := own_none hG9 hg11
      have hB11 := hB9.grown hg11 hB9.size (fun q e => by cases e)
      have hs11 : w9.heap.size ≤ w11.heap.size := hg11.size
      clear hg11 hB9 cA0_9 cA1_9 cW0_9 cW1_9 cX0_9 cX1_9 cG0_9 cG1_9 hW9 hX9 hG9 hb10 hb11 hbi10 hown10 yA0 yA1 yX0 yX1 zA0 zA1 zX0 zX1
      go_wp2_with fail
      refine (markStoreC _ _ len0 1 room0 _ bs0 (by omega) (by omega) (by omega) hX11).mono ?_
      rintro e w12 ⟨rfl, hX12, hg12⟩
      have cA0_12 := hg12.cell cA0_11 (by intro e; have := HUX.out _ e.symm; dsimp only at this; omega)
      have cA1_12 := hg12.cell cA1_11 (by intro e; have := HUX.out _ e.symm; dsimp only at this; omega)
      have cW0_12 := hg12.cell cW0_11 (by intro e; have := HUX.out _ e.symm; dsimp only at this; omega)
      have cW1_12 := hg12.cell cW1_11 (by intro e; have := HUX.out _ e.symm; dsimp only at this; omega)
      have cX0_12 := hg12.cell cX0_11 (by intro e; have := HUX.out _ e.symm; dsimp only at this; omega)
      have cX1_12 := hg12.cell cX1_11 (by intro e; have := HUX.out _ e.symm; dsimp only at this; omega)
      have cG0_12 := hg12.cell cG0_11 (by intro e; have := HUX.out _ e.symm; dsimp only at this; omega)
      have cG1_12 := hg12.cell cG1_11 (by intro e; have := HUX.out _ e.symm; dsimp only at this; omega)
      have hW12 := hW11.kept hg12 (own_ne2 hW11 (by intro q e1 e2; have := HUW.out q e1; have := HUX.out q e2; omega))
      have hG12 := hG11.kept hg12 (own_ne2 hG11 (by intro q e1 e2; have := HUG.out q e1; have := HUX.out q e2; omega))
      have hB12 := hB11.grown hg12 hB11.size (fun q e => by have := (HUX.out q e).1; omega)
      have hs12 : w11.heap.size ≤ w12.heap.size := hg12.size
      clear hg12 hB11 cA0_11 cA1_11 cW0_11 cW1_11 cX0_11 cX1_11 cG0_11 cG1_11 hW11 hG11 hX11
      have hm12 : (0 : Int) ≤ ((1 + 2 * len0 : Nat) : Int) := by omega
      obtain ⟨zX, hzX⟩ : ∃ zX, 1 + 2 * len0 = zX := ⟨_, rfl⟩
      rw [hzX] at hm12 ⊢
      clear hzX
      go_wp2_with fail
      refine (eqStoreC R aG aW n capG capW S _ (own_in hG12) (own_in hW12) (by omega)).mono ?_
      rintro e w13 ⟨rfl, hb13⟩
      have hg13 := Below.by hb13
      have cA0_13 := hg13.cell cA0_12 (by simp)
      have cA1_13 := hg13.cell cA1_12 (by simp)
      have cW0_13 := hg13.cell cW0_12 (by simp)
      have cW1_13 := hg13.cell cW1_12 (by simp)
      have cX0_13 := hg13.cell cX0_12 (by simp)
      have cX1_13 := hg13.cell cX1_12 (by simp)
      have cG0_13 := hg13.cell cG0_12 (by simp)
      have cG1_13 := hg13.cell cG1_12 (by simp)
      have hW13 := own_none hW12 hg13
      have hX13 := own_none hX12 hg13
      have hG13 := own_none hG12 hg13
      have hB13 := hB12.grown hg13 hB12.size (fun q e => by cases e)
      have hs13 : w12.heap.size ≤ w13.heap.size := hg13.size
      clear hg13 hB12 cA0_12 cA1_12 cW0_12 cW1_12 cX0_12 cX1_12 cG0_12 cG1_12 hW12 hX12 hG12 hb13
      go_wp2_with fail
      refine (markStoreC _ _ n 1 R _ S (by omega) (by omega) (by omega) hG13).mono ?_
      rintro e w14 ⟨rfl, hG14, hg14⟩
      have cA0_14 := hg14.cell cA0_13 (by intro e; have := HUG.out _ e.symm; dsimp only at this; omega)
      have cA1_14 := hg14.cell cA1_13 (by intro e; have := HUG.out _ e.symm; dsimp only at this; omega)
      have cW0_14 := hg14.cell cW0_13 (by intro e; have := HUG.out _ e.symm; dsimp only at this; omega)
      have cW1_14 := hg14.cell cW1_13 (by intro e; have := HUG.out _ e.symm; dsimp only at this; omega)
      have cX0_14 := hg14.cell cX0_13 (by intro e; have := HUG.out _ e.symm; dsimp only at this; omega)
      have cX1_14 := hg14.cell cX1_13 (by intro e; have := HUG.out _ e.symm; dsimp only at this; omega)
      have cG0_14 := hg14.cell cG0_13 (by intro e; have := HUG.out _ e.symm; dsimp only at this; omega)
      have cG1_14 := hg14.cell cG1_13 (by intro e; have := HUG.out _ e.symm; dsimp only at this; omega)
      have hW14 := hW13.kept hg14 (own_ne2 hW13 (by intro q e1 e2; have := HUW.out q e1; have := HUG.out q e2; omega))
      have hX14 := hX13.kept hg14 (own_ne2 hX13 (by intro q e1 e2; have := HUX.out q e1; have := HUG.out q e2; omega))
      have hB14 := hB13.grown hg14 hB13.size (fun q e => by have := (HUG.out q e).1; omega)
      have hs14 : w13.heap.size ≤ w14.heap.size := hg14.size
      clear hg14 hB13 cA0_13 cA1_13 cW0_13 cW1_13 cX0_13 cX1_13 cG0_13 cG1_13 hW13 hX13 hG13
      obtain ⟨zG, hzG⟩ : ∃ zG, 1 + 2 * n = zG := ⟨_, rfl⟩
      have hmG : (0 : Int) ≤ (zG : Int) := by omega
      have HZG : Hid (1 + 2 * n = zG) := hzG
      rw [hzG]
      clear hzG
      go_wp2_with fail
      refine (heldStoreC _ aG capG n 1 R (by omega) (by omega) (by omega) (own_in hG14)).mono ?_
      rintro e w15 ⟨rfl, hg15⟩
      rw [HZG.out]
      have cA0_15 := hg15.cell cA0_14 (by simp)
      have cA1_15 := hg15.cell cA1_14 (by simp)
      have cW0_15 := hg15.cell cW0_14 (by simp)
      have cW1_15 := hg15.cell cW1_14 (by simp)
      have cX0_15 := hg15.cell cX0_14 (by simp)
      have cX1_15 := hg15.cell cX1_14 (by simp)
      have cG0_15 := hg15.cell cG0_14 (by simp)
      have cG1_15 := hg15.cell cG1_14 (by simp)
      have hW15 := own_none hW14 hg15
      have hX15 := own_none hX14 hg15
      have hG15 := own_none hG14 hg15
      have hB15 := hB14.grown hg15 hB14.size (fun q e => by cases e)
      have hs15 : w14.heap.size ≤ w15.heap.size := hg15.size
      clear hg15 hB14 cA0_14 cA1_14 cW0_14 cW1_14 cX0_14 cX1_14 cG0_14 cG1_14 hW14 hX14 hG14
      clear hX15
      go_wp2_with fail
      refine (toStoreC room0 a0 len0 cap0 bs0 _ (w0.below hB15) hlen).mono ?_
      rintro e w16 ⟨vV, rfl, hV16, hb16⟩
      have hg16 := Below.by hb16
      have cA0_16 := hg16.cell cA0_15 (by simp)
      have cA1_16 := hg16.cell cA1_15 (by simp)
      have cW0_16 := hg16.cell cW0_15 (by simp)
      have cW1_16 := hg16.cell cW1_15 (by simp)
      have cX0_16 := hg16.cell cX0_15 (by simp)
      have cX1_16 := hg16.cell cX1_15 (by simp)
      have cG0_16 := hg16.cell cG0_15 (by simp)
      have cG1_16 := hg16.cell cG1_15 (by simp)
      have hW16 := own_none hW15 hg16
      have hG16 := own_none hG15 hg16
      have hB16 := hB15.grown hg16 hB15.size (fun q e => by cases e)
      have hs16 : w15.heap.size ≤ w16.heap.size := hg16.size
      obtain ⟨_, aV, capV, rfl, _⟩ := own_blobs hV16
      have HUV : Hid (∀ q, (Value.slice aV len0 capV).ownBlock = some q → w15.heap.size ≤ q ∧ q < w16.heap.size) := fun q e => hV16.lt q e
      clear hg16 hB15 cA0_15 cA1_15 cW0_15 cW1_15 cX0_15 cX1_15 cG0_15 cG1_15 hW15 hG15 hb16
      go_wp2_with fail
      refine (implKept room0 aV len0 capV bs0 t _ (own_in hV16) hl hlen (by omega)).mono ?_
      rintro e w17 ⟨vH, rfl, hH17, hb17⟩
      rw [HR.out.1, HR.out.2.1]
      rw [HR.out.2.2.1, HR.out.2.2.2] at hH17
      have hg17 := Below.by hb17
      have cA0_17 := hg17.cell cA0_16 (by simp)
      have cA1_17 := hg17.cell cA1_16 (by simp)
      have cW0_17 := hg17.cell cW0_16 (by simp)
      have cW1_17 := hg17.cell cW1_16 (by simp)
      have cX0_17 := hg17.cell cX0_16 (by simp)
      have cX1_17 := hg17.cell cX1_16 (by simp)
      have cG0_17 := hg17.cell cG0_16 (by simp)
      have cG1_17 := hg17.cell cG1_16 (by simp)
      have hW17 := own_none hW16 hg17
      have hG17 := own_none hG16 hg17
      have hV17 := own_none hV16 hg17
      have hB17 := hB16.grown hg17 hB16.size (fun q e => by cases e)
      have hs17 : w16.heap.size ≤ w17.heap.size := hg17.size
      obtain ⟨_, aH, capH, rfl, _⟩ := own_blobs hH17
      have HUH : Hid (∀ q, (Value.slice aH n capH).ownBlock = some q → w16.heap.size ≤ q ∧ q < w17.heap.size) := fun q e => hH17.lt q e
      clear hg17 hB16 cA0_16 cA1_16 cW0_16 cW1_16 cX0_16 cX1_16 cG0_16 cG1_16 hW16 hG16 hV16 hb17
      clear hV17
      obtain ⟨w18, hw18⟩ : ∃ W, w17.alloc (.cells #[.int .i64 R, .slice aH n capH] 26) = W := ⟨_, rfl⟩
      have hg18 : w17.grownBy w18 none := by rw [← hw18]; exact World.grownBy_alloc _ _ _
      have cH0_18 : w18.cell? ⟨w17.heap.size, 0, none⟩ = some (.int .i64 R) := by rw [← hw18]; simp
      have cH1_18 : w18.cell? ⟨w17.heap.size, 1, none⟩ = some (.slice aH n capH) := by rw [← hw18]; simp
      have hz18 : w18.heap.size = w17.heap.size + 1 := by rw [← hw18]; simp
      have cA0_18 := hg18.cell cA0_17 (by simp)
      have cA1_18 := hg18.cell cA1_17 (by simp)
      have cW0_18 := hg18.cell cW0_17 (by simp)
      have cW1_18 := hg18.cell cW1_17 (by simp)
      have cX0_18 := hg18.cell cX0_17 (by simp)
      have cX1_18 := hg18.cell cX1_17 (by simp)
      have cG0_18 := hg18.cell cG0_17 (by simp)
      have cG1_18 := hg18.cell cG1_17 (by simp)
      have hW18 := own_none hW17 hg18
      have hG18 := own_none hG17 hg18
      have hH18 := own_none hH17 hg18
      have hB18 := hB17.grown hg18 hB17.size (fun q e => by cases e)
      have hs18 : w17.heap.size ≤ w18.heap.size := hg18.size
      clear hB17 cA0_17 cA1_17 cW0_17 cW1_17 cX0_17 cX1_17 cG0_17 cG1_17 hW17 hG17 hH17 hg18
      go_wp2_with fail
      refine (eqStoreC R aH aW n capH capW S _ (own_in hH18) (own_in hW18) (by omega)).mono ?_
      rintro e w19 ⟨rfl, hb19⟩
      have hg19 := Below.by hb19
      have cA0_19 := hg19.cell cA0_18 (by simp)
      have cA1_19 := hg19.cell cA1_18 (by simp)
      have cW0_19 := hg19.cell cW0_18 (by simp)
      have cW1_19 := hg19.cell cW1_18 (by simp)
      have cX0_19 := hg19.cell cX0_18 (by simp)
      have cX1_19 := hg19.cell cX1_18 (by simp)
      have cG0_19 := hg19.cell cG0_18 (by simp)
      have cG1_19 := hg19.cell cG1_18 (by simp)
      have cH0_19 := hg19.cell cH0_18 (by simp)
      have cH1_19 := hg19.cell cH1_18 (by simp)
      have hW19 := own_none hW18 hg19
      have hG19 := own_none hG18 hg19
      have hH19 := own_none hH18 hg19
      have hB19 := hB18.grown hg19 hB18.size (fun q e => by cases e)
      have hs19 : w18.heap.size ≤ w19.heap.size := hg19.size
      clear hg19 hB18 cA0_18 cA1_18 cW0_18 cW1_18 cX0_18 cX1_18 cG0_18 cG1_18 cH0_18 cH1_18 hW18 hG18 hH18 hb19
      go_wp2_with fail
      refine (heldStoreC _ aG capG n 1 R (by omega) (by omega) (by omega) (own_in hG19)).mono ?_
      rintro e w20 ⟨rfl, hg20⟩
      rw [HZG.out]
      have cA0_20 := hg20.cell cA0_19 (by simp)
      have cA1_20 := hg20.cell cA1_19 (by simp)
      have cW0_20 := hg20.cell cW0_19 (by simp)
      have cW1_20 := hg20.cell cW1_19 (by simp)
      have cX0_20 := hg20.cell cX0_19 (by simp)
      have cX1_20 := hg20.cell cX1_19 (by simp)
      have cG0_20 := hg20.cell cG0_19 (by simp)
      have cG1_20 := hg20.cell cG1_19 (by simp)
      have cH0_20 := hg20.cell cH0_19 (by simp)
      have cH1_20 := hg20.cell cH1_19 (by simp)
      have hW20 := own_none hW19 hg20
      have hG20 := own_none hG19 hg20
      have hH20 := own_none hH19 hg20
      have hB20 := hB19.grown hg20 hB19.size (fun q e => by cases e)
      have hs20 : w19.heap.size ≤ w20.heap.size := hg20.size
      clear hg20 hB19 cA0_19 cA1_19 cW0_19 cW1_19 cX0_19 cX1_19 cG0_19 cG1_19 cH0_19 cH1_19 hW19 hG19 hH19
      go_wp2
      go_ret
      exact ⟨rfl, hB20⟩
    · have HZ : Hid (szL len0 (takenL bs0) 1048576 = -1) := szL_no hz
      go_enter Try.func6, Try.ntmps6
      go_wp2_with fail
      refine (szStoreC room0 a0 len0 cap0 bs0 1048576 _ hin0 (by omega) (by omega) wl0 wm0).mono ?_
      rintro e w1 ⟨rfl, hb1⟩
      rw [HZ.out]
      go_wp2
      go_ret
      exact ⟨rfl, ((Below.refl _ w).alloc (Nat.le_refl _) _).trans (hb1.mono (by simp))⟩

set_option maxRecDepth 100000 in
theorem lifted (os : Os) (started : os.Started) (H : Type) (enc : TypeId × Value → H) :
    ReturnsInHanded {} Try.checked os 6 .any (Rows.fnExactKeptSpec.pre6 enc Try.prog Try.f6 Rows.fnExactKeptRow.domain false) (Rows.fnExactKeptSpec.post enc Try.prog Try.f6 false true false false) := by
  refine returnsInHanded_of_change (C := Try.checked) own started (by kernel_rfl) Try.func6
    (ChangeSpec.witness6 (enc := enc) (C := Try.checked) false ⟨#[], #[.agg #[.int .i64 0, .slice none 0 0], .string ByteArray.empty], []⟩ 8 (by kernel_rfl) (by kernel_rfl) (by kernel_rfl) (by kernel_rfl)) ?_
  intro W base args ds gs before hval0 hW hcnd _
  have hval : ∀ (j : Nat) t v, Try.f6.params[j]? = some t → args[j]? = some v → Value.okWide Try.prog W .any base t v := hval0
  have hW' := hW
  obtain ⟨p, q, hA0, hV, rfl, hfz, hnd⟩ := hW
  have hA : DataW.TrodAll enc Try.prog W 0 (fun _ => true) true Try.f6.params.toList args.toList ds p := hA0
  rw [Try.params6] at hA hval
  obtain ⟨v0, vs0, d0, ds0, p0, q0, hargs, rfl, rfl, h0, r0⟩ := trodAll_cons hA
  obtain ⟨v1, vs1, d1, ds1, p1, q1, rfl, rfl, rfl, h1, r1⟩ := trodAll_cons r0
  obtain ⟨rfl, rfl, rfl⟩ := trodAll_nil r1
  obtain rfl : args = #[v0, v1] := by cases args; simp_all
  obtain ⟨rfl, rfl⟩ := trodVars_none hV
  have k0 := h0
  have lt0 : ∀ x ∈ p0, x.block < W.heap.size := by obtain ⟨m, hm⟩ := k0; exact DataW.trod_lt m _ _ _ hm
  obtain ⟨room0, a0, len0, cap0, bs0, rfl, wr0, w0, wl0, wm0⟩ := open_store (hval 0 49 v0 rfl rfl) h0
  have k1 := h1
  have lt1 : ∀ x ∈ p1, x.block < W.heap.size := by obtain ⟨m, hm⟩ := k1; exact DataW.trod_lt m _ _ _ hm
  obtain ⟨a1, rfl, _, _, w1⟩ := open_string Try.underlying9 (hval 1 9 v1 rfl rfl) h1
  clear hA0 hval0
  refine (walk room0 a0 len0 cap0 bs0 a1 W w0 wr0 wl0 wm0 w1).mono fun e W' ⟨he, bel⟩ => ?_
  subst he
  exact ⟨_, rfl, _, _, _, [], _, [], hW', trodAll_mk1 (shut_bool Try.underlying4 _), (trodAll_cons_mk (Below.trod laidOut (by kernel_rfl) (of_decide_eq_true (by kernel_rfl)) k0 bel lt0) (trodAll_cons_mk (Below.trod laidOut (by kernel_rfl) (of_decide_eq_true (by kernel_rfl)) k1 bel lt1) trodAll_mk0)), rfl, bel.frame _, fun h => by cases h⟩

theorem over : Rows.fnExactKeptRow.holds Try.pinned (OpenSpec.ofChange Rows.fnExactKeptSpec) :=
  OpenClaim.holds_of_wide 6 Try.f6 rfl rfl rfl rfl rfl rfl rfl ⟨rfl, rfl, rfl, rfl, rfl⟩ rfl rfl rfl rfl rfl (by kernel_rfl) Try.func6 (by kernel_rfl)
    (of_decide_eq_true (by kernel_rfl)) (by unfold Func.isWrapper; first | (rw [if_pos (by decide +kernel)]; kernel_rfl) | (rw [if_neg (by decide +kernel)]; exact ⟨rfl, rfl⟩))
    (fun os started H enc _ => lifted os started H enc)

theorem proved : Rows.FnExactKeptSaid :=
  over
#print axioms proved
end Go.Proofs.Ytfjpbbacibfnmaa.fnExactKept
