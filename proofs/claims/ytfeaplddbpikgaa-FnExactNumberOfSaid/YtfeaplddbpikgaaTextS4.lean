/-
  The contracts of chapter 5's specification: NumberOf; a number is written (l1Int, digits).
-/
import Derived.Test.YtfeaplddbpikgaaTextS3
import Derived.Test.YtfeaplddbpikgaaTurned
namespace Go.Proofs.Ytfeaplddbpikgaa
open Go.RowKit

set_option maxHeartbeats 1000000 in
set_option maxRecDepth 100000 in
theorem specNumberOf (t : List UInt8) (w : World) (hl : t.length ≤ 1048576) :
    Calls Try.prog 16 #[.string ⟨t.toArray⟩] w fun e w' => e = .returned (.tuple #[.int .i64 (numV t), .bool (numB t)]) ∧ w' = w := by
  rcases hr : readB t with _ | _
  · have HO : Hid (numB t = false ∧ numV t = 0) := num_no (Or.inl hr)
    have HR : Hid (readB t = false) := hr
    clear hr
    go_enter Try.func16, Try.ntmps16
    go_wp2_with fail
    refine (specRead t _ hl).mono ?_
    rintro e w1 ⟨rfl, rfl⟩
    rw [HR.out]
    generalize readV t = v
    go_wp2
    go_ret2
    exact ⟨by rw [HO.out.1, HO.out.2]; rfl, rfl⟩
  · have HR : Hid (readB t = true) := hr
    rcases hi : inB (readV t) (-2147483648) 2147483647 with _ | _
    · have HO : Hid (numB t = false ∧ numV t = 0) := num_no (Or.inr hi)
      have HI : Hid (inB (readV t) (-2147483648) 2147483647 = false) := hi
      clear hr hi
      go_enter Try.func16, Try.ntmps16
      go_wp2_with fail
      refine (specRead t _ hl).mono ?_
      rintro e w1 ⟨rfl, rfl⟩
      rw [HR.out]
      go_wp2_with fail
      refine (specWordOk _ _).mono ?_
      rintro e w2 ⟨rfl, rfl⟩
      rw [HI.out]
      go_wp2
      go_ret2
      exact ⟨by rw [HO.out.1, HO.out.2]; rfl, rfl⟩
    · have HO : Hid (numB t = true ∧ numV t = readV t) := num_yes hr hi
      have HI : Hid (inB (readV t) (-2147483648) 2147483647 = true) := hi
      clear hr hi
      go_enter Try.func16, Try.ntmps16
      go_wp2_with fail
      refine (specRead t _ hl).mono ?_
      rintro e w1 ⟨rfl, rfl⟩
      rw [HR.out]
      go_wp2_with fail
      refine (specWordOk _ _).mono ?_
      rintro e w2 ⟨rfl, rfl⟩
      rw [HI.out]
      go_wp2
      go_ret2
      exact ⟨by rw [HO.out.1, HO.out.2]; rfl, rfl⟩

theorem back1p (t : Int) (h2 : 0 ≤ t) (h3 : t ≤ 255) (W : World) :
    (convert 22 9 (.slice (some ⟨W.heap.size, 0, none⟩) 1 1)).run Try.prog (W.alloc (.cells #[.int .u8 t] 5)) = .ok (.string ⟨#[UInt8.ofNat t.toNat]⟩) (W.alloc (.cells #[.int .u8 t] 5)) := by
  have ht : ((UInt8.ofNat t.toNat).toNat : Int) = t := by
    rw [UInt8.toNat_ofNat']; omega
  have h := run_convert_bytes_back (P := Try.prog) (W.alloc (.cells #[.int .u8 t] 5)) 22 9 5 ⟨W.heap.size, 0, none⟩ 1 [UInt8.ofNat t.toNat] Try.underlying22 Try.underlying5 Try.underlying9 (by
    intro j hj
    have hj' : j < 1 := by simpa using hj
    match j, hj' with
    | 0, _ => simp only [List.getElem_cons_zero, ht]; simp [Addr.add, go_sem])
  exact h

theorem back_dig (k : Nat) (W : World) :
    (convert 22 9 (.slice (some ⟨W.heap.size, 0, none⟩) 1 1)).run Try.prog (W.alloc (.cells #[.int .u8 (48 + (k : Int) % 10)] 5)) = .ok (.string ⟨[digit k].toArray⟩) (W.alloc (.cells #[.int .u8 (48 + (k : Int) % 10)] 5)) := by
  have h := back1p (48 + (k : Int) % 10) (by omega) (by omega) W
  have e : UInt8.ofNat (48 + (k : Int) % 10).toNat = digit k := by unfold digit; congr 1
  rw [e] at h
  exact h

set_option maxHeartbeats 1000000 in
set_option maxRecDepth 100000 in
theorem lawDigits (N : Nat) (w : World) (hN : (N : Int) ≤ 9223372036854775807) :
    Calls Try.prog 22 #[.int .i64 (N : Int)] w fun e w' => e = .returned (.string ⟨(digL N).toArray⟩) ∧ Below w.heap.size w w' := by
  have hcat := cat_list
  go_enter Try.func22, Try.ntmps22
  go_wp2
  go_loopw [0, 3] (fun nv sv wr => ∃ (k : Nat) (s : List UInt8), nv = .int .i64 k ∧ sv = .string ⟨s.toArray⟩ ∧ (k : Int) ≤ 9223372036854775807 ∧ Hid (digTo k s = digL N) ∧ Below w.heap.size w wr) (fun nv sv _ => (intOf nv).toNat + (match sv with | .string b => if b.size = 0 then 1 else 0 | _ => 0))
  case atStart => exact ⟨N, [], rfl, rfl, hN, digTo_start N, Below.refl _ _⟩
  case round =>
    obtain ⟨k, s, rfl, rfl, hk, HD, hb⟩ := hrel
    have hs19 : (s.length : Int) ≤ 19 := by have := digTo_len k N s HD.out (by omega); omega
    by_cases hc : s = [] ∨ k ≠ 0
    · have hbk := back_dig k wr
      have HD2 : Hid (digTo (k / 10) (digit k :: s) = digL N) := by exact (by rw [digTo_step k s hc]; exact HD.out : digTo (k / 10) (digit k :: s) = digL N)
      have hd10 : ((k / 10 : Nat) : Int) = (k : Int) / 10 := by omega
      rcases hc with rfl | hc
      · go_wp2
        refine ⟨⟨k / 10, [digit k], by rw [hd10], rfl, by omega, HD2, hb.alloc hb.size _⟩, ?_⟩
        simp [intOf, ByteArray.size]
        omega
      · have hk0 : 0 < (k : Int) := by omega
        by_cases hs : s = []
        · subst hs
          go_wp2
          refine ⟨⟨k / 10, [digit k], by rw [hd10], rfl, by omega, HD2, hb.alloc hb.size _⟩, ?_⟩
          simp [intOf, ByteArray.size]
          omega
        · have hse : s.isEmpty = false := by simp [hs]
          have hsl : 0 < s.length := List.length_pos_iff.2 hs
          clear hs
          go_wp2
          refine ⟨⟨k / 10, digit k :: s, by rw [hd10], rfl, by omega, HD2, hb.alloc hb.size _⟩, ?_⟩
          have hz : s.length ≠ 0 := by omega
          simp [intOf, ByteArray.size, hz]
          omega
    · have hs : s ≠ [] := fun e => hc (Or.inl e)
      have hk0 : k = 0 := by
        by_cases e : k = 0
        · exact e
        · exact absurd (Or.inr e) hc
      subst hk0
      have hse : s.isEmpty = false := by simp [hs]
      have HF : Hid (s = digL N) := by exact (by rw [← HD.out, digTo_end hs] : s = digL N)
      clear hs hc
      go_wp2
      go_ret
      exact ⟨by rw [← HF.out]; rfl, hb⟩

end Go.Proofs.Ytfeaplddbpikgaa
