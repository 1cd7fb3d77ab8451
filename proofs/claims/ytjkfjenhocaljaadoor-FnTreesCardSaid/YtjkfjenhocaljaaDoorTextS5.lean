/-
  The contract of l1Int: a number is written, with a minus ahead below 0.
-/
import Derived.Test.YtjkfjenhocaljaaDoorTextS4
namespace Go.Proofs.YtjkfjenhocaljaaDoor
open Go.RowKit

set_option maxHeartbeats 1000000 in
set_option maxRecDepth 100000 in
theorem specIntPos (N : Nat) (w : World) (hN : (N : Int) ≤ 9223372036854775807) :
    Calls Tryd.prog 79 #[.int .i64 (N : Int)] w fun e w' => e = .returned (.string ⟨(digL N).toArray⟩) ∧ Below w.heap.size w w' := by
  have hcat := cat_list
  have hneg : decide ((N : Int) < 0) = false := decide_eq_false (by omega)
  go_enter Tryd.func79, Tryd.ntmps79
  go_wp2
  go_loopw [0, 3] (fun nv sv wr => ∃ (k : Nat) (s : List UInt8), nv = .int .i64 k ∧ sv = .string ⟨s.toArray⟩ ∧ (k : Int) ≤ 9223372036854775807 ∧ Hid (digTo k s = digL N) ∧ Below w.heap.size w wr) (fun nv sv _ => (intOf nv).toNat + (match sv with | .string b => if b.size = 0 then 1 else 0 | _ => 0))
  case atStart => exact ⟨N, [], rfl, rfl, hN, digTo_start N, Below.refl _ _⟩
  case round =>
    obtain ⟨k, s, rfl, rfl, hk, HD, hb⟩ := hrel
    have hs19 : (s.length : Int) ≤ 19 := by have := digTo_len k N s HD.out (by omega); omega
    by_cases hc : s = [] ∨ k ≠ 0
    · have hbk := back_dig k wr
      have HD2 : Hid (digTo (k / 10) (digit k :: s) = digL N) := by exact (by rw [digTo_step k s hc]; exact HD.out : digTo (k / 10) (digit k :: s) = digL N)
      have hd10 : ((k / 10 : Nat) : Int) = (k : Int) / 10 := by omega
      have hnn : ¬ (k : Int) % 10 < 0 := by omega
      rcases hc with rfl | hc
      · go_wp2
        refine ⟨⟨k / 10, [digit k], by rw [hd10], rfl, by omega, HD2, hb.alloc hb.size _⟩, ?_⟩
        simp [intOf, ByteArray.size]
        omega
      · have hk0 : ((k : Int) != 0) = true := bne_iff_ne.2 (by omega)
        by_cases hs : s = []
        · subst hs
          go_wp2
          refine ⟨⟨k / 10, [digit k], by rw [hd10], rfl, by omega, HD2, hb.alloc hb.size _⟩, ?_⟩
          simp [intOf, ByteArray.size]
          omega
        · have hse : s.isEmpty = false := by simp [hs]
          have hz : s.length ≠ 0 := by have := List.length_pos_iff.2 hs; omega
          clear hs
          go_wp2
          refine ⟨⟨k / 10, digit k :: s, by rw [hd10], rfl, by omega, HD2, hb.alloc hb.size _⟩, ?_⟩
          simp [intOf, ByteArray.size, hz]
          omega
    · have hs : s ≠ [] := fun e => hc (Or.inl e)
      have hk0 : k = 0 := by
        by_cases e : k = 0
        · exact e
        · exact absurd (Or.inr e) hc
      subst hk0
      have hse : s.isEmpty = false := by simp [hs]
      have HF : Hid (s = digL N) := by exact (by rw [← HD.out, digTo_end hs] : s = digL N)
      clear hs hc
      go_wp2
      go_ret
      exact ⟨by rw [← HF.out]; rfl, hb⟩

theorem neg_tmod (k : Nat) : (-(k : Int)).tmod 10 = -((k : Int) % 10) := by
  rw [Int.neg_tmod, Int.tmod_eq_emod_of_nonneg (by omega)]
theorem neg_tdiv (k : Nat) : (-(k : Int)).tdiv 10 = -((k : Int) / 10) := by
  rw [Int.neg_tdiv, Int.tdiv_eq_ediv_of_nonneg (by omega)]

set_option maxHeartbeats 2000000 in
set_option maxRecDepth 100000 in
theorem specIntNeg (N : Nat) (w : World) (hN0 : 0 < N) (hN : (N : Int) ≤ 9223372036854775808) :
    Calls Tryd.prog 79 #[.int .i64 (-(N : Int))] w fun e w' => e = .returned (.string ⟨(45 :: digL N).toArray⟩) ∧ Below w.heap.size w w' := by
  have hcat := cat_list
  have hneg : decide (-(N : Int) < 0) = true := decide_eq_true (by omega)
  have hneg2 : -(N : Int) < 0 := by omega
  go_enter Tryd.func79, Tryd.ntmps79
  go_wp2
  go_loopw [0, 3] (fun nv sv wr => ∃ (k : Nat) (s : List UInt8), nv = .int .i64 (-(k : Int)) ∧ sv = .string ⟨s.toArray⟩ ∧ (k : Int) ≤ 9223372036854775808 ∧ Hid (digTo k s = digL N) ∧ Below w.heap.size w wr) (fun nv sv _ => (intOf nv).natAbs + (match sv with | .string b => if b.size = 0 then 1 else 0 | _ => 0))
  case atStart => exact ⟨N, [], rfl, rfl, hN, digTo_start N, Below.refl _ _⟩
  case round =>
    obtain ⟨k, s, rfl, rfl, hk, HD, hb⟩ := hrel
    have hs19 : (s.length : Int) ≤ 19 := by have := digTo_len k N s HD.out (by omega); omega
    have htm := neg_tmod k
    have htd := neg_tdiv k
    by_cases hc : s = [] ∨ k ≠ 0
    · have hbk := back_dig k wr
      have HD2 : Hid (digTo (k / 10) (digit k :: s) = digL N) := by exact (by rw [digTo_step k s hc]; exact HD.out : digTo (k / 10) (digit k :: s) = digL N)
      have hd10 : ((k / 10 : Nat) : Int) = (k : Int) / 10 := by omega
      have hr0 : 0 ≤ (k : Int) % 10 := by omega
      have hr1 : (k : Int) % 10 < 10 := by omega
      have hc2 : s = [] ∨ (s ≠ [] ∧ k ≠ 0) := by
        by_cases e : s = []
        · exact Or.inl e
        · exact Or.inr ⟨e, by rcases hc with h | h; exact absurd h e; exact h⟩
      clear hc
      by_cases hr : 0 < (k : Int) % 10
      · have hr2 : -((k : Int) % 10) < 0 := by omega
        rcases hc2 with rfl | ⟨hs, hc⟩
        · go_wp2
          refine ⟨⟨k / 10, [digit k], by rw [hd10], rfl, by omega, HD2, hb.alloc hb.size _⟩, ?_⟩
          simp [intOf, ByteArray.size]
          omega
        · have hk0 : (-(k : Int) != 0) = true := bne_iff_ne.2 (by omega)
          have hse : s.isEmpty = false := by simp [hs]
          have hz : s.length ≠ 0 := by have := List.length_pos_iff.2 hs; omega
          clear hs
          go_wp2
          refine ⟨⟨k / 10, digit k :: s, by rw [hd10], rfl, by omega, HD2, hb.alloc hb.size _⟩, ?_⟩
          simp [intOf, ByteArray.size, hz]
          omega
      · have hr2 : ¬ -((k : Int) % 10) < 0 := by omega
        have hbk2 : (convert 22 9 (.slice (some ⟨wr.heap.size, 0, none⟩) 1 1)).run Tryd.prog (wr.alloc (.cells #[.int .u8 (48 + -((k : Int) % 10))] 5)) = .ok (.string ⟨[digit k].toArray⟩) (wr.alloc (.cells #[.int .u8 (48 + -((k : Int) % 10))] 5)) := by
          rw [show (48 : Int) + -((k : Int) % 10) = 48 + (k : Int) % 10 by omega]
          exact back_dig k wr
        rcases hc2 with rfl | ⟨hs, hc⟩
        · go_wp2
          refine ⟨⟨k / 10, [digit k], by rw [hd10], rfl, by omega, HD2, hb.alloc hb.size _⟩, ?_⟩
          simp [intOf, ByteArray.size]
          omega
        · have hk0 : (-(k : Int) != 0) = true := bne_iff_ne.2 (by omega)
          have hse : s.isEmpty = false := by simp [hs]
          have hz : s.length ≠ 0 := by have := List.length_pos_iff.2 hs; omega
          clear hs
          go_wp2
          refine ⟨⟨k / 10, digit k :: s, by rw [hd10], rfl, by omega, HD2, hb.alloc hb.size _⟩, ?_⟩
          simp [intOf, ByteArray.size, hz]
          omega
    · have hs : s ≠ [] := fun e => hc (Or.inl e)
      have hk0 : k = 0 := by
        by_cases e : k = 0
        · exact e
        · exact absurd (Or.inr e) hc
      subst hk0
      have hse : s.isEmpty = false := by simp [hs]
      have HF : Hid (s = digL N) := by exact (by rw [← HD.out, digTo_end hs] : s = digL N)
      clear hs hc htm htd
      go_wp2
      go_ret
      exact ⟨by rw [← HF.out]; rfl, hb⟩

theorem specInt (n : Int) (w : World) (h0 : -9223372036854775808 ≤ n) (h1 : n ≤ 9223372036854775807) :
    Calls Tryd.prog 79 #[.int .i64 n] w fun e w' => e = .returned (.string ⟨(intL n).toArray⟩) ∧ Below w.heap.size w w' := by
  by_cases h : n < 0
  · obtain ⟨N, rfl⟩ : ∃ N : Nat, n = -(N : Int) := ⟨n.natAbs, by omega⟩
    have e : intL (-(N : Int)) = 45 :: digL N := by unfold intL; rw [if_pos h]; congr 2; omega
    rw [e]
    exact specIntNeg N w (by omega) (by omega)
  · obtain ⟨N, rfl⟩ : ∃ N : Nat, n = (N : Int) := ⟨n.natAbs, by omega⟩
    have e : intL (N : Int) = digL N := by unfold intL; rw [if_neg h]; congr 1
    rw [e]
    exact specIntPos N w (by omega)

theorem intL_len (n : Int) (h0 : -9223372036854775808 ≤ n) (h1 : n ≤ 9223372036854775807) : (intL n).length ≤ 20 := by
  have h := digL_len 18 n.natAbs (by omega)
  unfold intL
  split
  · simp; omega
  · omega

end Go.Proofs.YtjkfjenhocaljaaDoor
