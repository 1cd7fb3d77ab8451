/-
  The contracts of the exact laws' own helpers over stores: szStore, toStore, eqStore.
-/
import Derived.Test.YtfjpbbacibfnmaaStoreS5
namespace Go.Proofs.Ytfjpbbacibfnmaa
open Go.RowKit

def szL (m n : Nat) (left : Int) : Int := if (m : Int) + (n : Int) ≤ left then left - (m : Int) - (n : Int) else -1

theorem szL_yes {m n : Nat} {left : Int} (h : (m : Int) + (n : Int) ≤ left) : szL m n left = left - (m : Int) - (n : Int) := by unfold szL; rw [if_pos h]
theorem szL_no {m n : Nat} {left : Int} (h : ¬ (m : Int) + (n : Int) ≤ left) : szL m n left = -1 := by unfold szL; rw [if_neg h]

set_option maxHeartbeats 400000 in
theorem szBlobC (key left : Int) (t : List UInt8) (w : World) (h0 : 0 ≤ left) (h1 : left ≤ 1048576) (ht : t.length ≤ maxLen) :
    Calls Try.prog 71 #[.agg #[.int .i64 key, .string ⟨t.toArray⟩], .int .i64 left] w fun e w' => e = .returned (.int .i64 (szL 0 t.length left)) ∧ Below w.heap.size w w' := by
  unfold maxLen at ht
  have ht2 : (t.length : Int) ≤ 9223372036854775807 := by omega
  by_cases h : (t.length : Int) ≤ left
  · have HS : Hid (szL 0 t.length left = left - (t.length : Int)) := by exact (by rw [szL_yes (by omega)]; omega : szL 0 t.length left = left - (t.length : Int))
    go_enter Try.func71, Try.ntmps71
    go_wp2
    go_ret
    exact ⟨by rw [HS.out]; rfl, (Below.refl _ w).alloc (Nat.le_refl _) _⟩
  · have HS : Hid (szL 0 t.length left = -1) := szL_no (by omega)
    go_enter Try.func71, Try.ntmps71
    go_wp2
    go_ret
    exact ⟨by rw [HS.out]; rfl, (Below.refl _ w).alloc (Nat.le_refl _) _⟩

set_option maxHeartbeats 1000000 in
theorem szBlobSC (a : Option Addr) (len cap : Nat) (bs : List Bl) (left : Int) (w : World) (hin : BlobsIn w a len cap bs) (h0 : 0 ≤ left) (h1 : left ≤ 1048576) (hl : len ≤ maxLen) (hm : ∀ j, (bs.getD j (0, [])).2.length ≤ maxLen) :
    Calls Try.prog 58 #[.slice a len cap, .int .i64 left] w fun e w' => e = .returned (.int .i64 (szL len (takenL bs) left)) ∧ Below w.heap.size w w' := by
  unfold maxLen at hl
  have hl2 : (len : Int) ≤ 9223372036854775807 := by omega
  have hlb := hin.1
  by_cases h : (len : Int) ≤ left
  · have hlen : len ≤ 1048576 := by omega
    have HI : Hid (BlobsIn w a len cap bs) := hin
    have HM : Hid (∀ j, (bs.getD j (0, [])).2.length ≤ maxLen) := hm
    clear hin hm
    go_enter Try.func58, Try.ntmps58
    go_wp2
    go_loopw [1, 5] (fun l i wr => ∃ k : Nat, k ≤ len ∧ i = .int .i64 k ∧ l = .int .i64 (left - (len : Int) - (takenL (bs.take k) : Int)) ∧ (takenL (bs.take k) : Int) ≤ left - (len : Int) ∧ Below w.heap.size w wr) (fun _ i _ => len - (intOf i).toNat)
    case atStart => exact ⟨0, Nat.zero_le _, rfl, by simp [takenL], by simp [takenL]; omega, Below.refl _ _⟩
    case round =>
      obtain ⟨k, hk, rfl, rfl, hle, hB⟩ := hrel
      by_cases hkl : (k : Int) < (len : Int)
      · obtain ⟨b, off, rfl, hbl, hcells⟩ := (HI.out.below hB).at (by omega)
        obtain ⟨ck, ct⟩ := hcells k (by omega)
        have hmk := HM.out k
        have hst := takenL_snoc bs k (by omega)
        have hgk : bs.getD k (0, []) = bs[k] := by simp [List.getD, show k < bs.length by omega]
        obtain ⟨x, hx⟩ : ∃ x, bs.getD k (0, []) = x := ⟨_, rfl⟩
        rw [hx] at ck ct hmk hgk
        rw [← hgk] at hst
        obtain ⟨key, t⟩ := x
        simp only at ck ct hmk hst
        have HS : Hid (takenL (bs.take (k + 1)) = takenL (bs.take k) + t.length) := hst
        clear hst hgk hx hcells
        have htt := takenL_take bs (k + 1)
        by_cases hfit : (t.length : Int) ≤ left - (len : Int) - (takenL (bs.take k) : Int)
        · have HZ : Hid (szL 0 t.length (left - (len : Int) - (takenL (bs.take k) : Int)) = left - (len : Int) - (takenL (bs.take (k + 1)) : Int)) := by
            exact (by rw [HS.out, szL_yes (by omega)]; omega : szL 0 t.length (left - (len : Int) - (takenL (bs.take k) : Int)) = left - (len : Int) - (takenL (bs.take (k + 1)) : Int))
          go_wp2_with fail
          refine (szBlobC key _ t _ (by omega) (by omega) hmk).mono ?_
          rintro e w1 ⟨rfl, hb1⟩
          rw [HZ.out]
          have hle2 : (takenL (bs.take (k + 1)) : Int) ≤ left - (len : Int) := by rw [HS.out]; omega
          have hge : (0 : Int) ≤ left - (len : Int) - (takenL (bs.take (k + 1)) : Int) := by omega
          go_wp2
          go_roundw
          case rel => exact ⟨k + 1, by omega, by go_num, rfl, hle2, hB.trans (hb1.mono hB.size)⟩
          case measure => simp [intOf]; omega
        · have HZ : Hid (szL 0 t.length (left - (len : Int) - (takenL (bs.take k) : Int)) = -1) := szL_no (by omega)
          have HR : Hid (szL len (takenL bs) left = -1) := szL_no (by have := HS.out; omega)
          go_wp2_with fail
          refine (szBlobC key _ t _ (by omega) (by omega) hmk).mono ?_
          rintro e w1 ⟨rfl, hb1⟩
          rw [HZ.out]
          go_wp2
          go_ret
          exact ⟨by rw [HR.out]; rfl, hB.trans (hb1.mono hB.size)⟩
      · have HT : Hid (bs.take k = bs) := List.take_of_length_le (by omega)
        have HR : Hid (szL len (takenL bs) left = left - (len : Int) - (takenL (bs.take k) : Int)) := by exact (by rw [HT.out] at hle ⊢; exact szL_yes (by omega) : szL len (takenL bs) left = left - (len : Int) - (takenL (bs.take k) : Int))
        go_wp2
        go_ret
        exact ⟨by rw [HR.out]; rfl, hB⟩
  · have HR : Hid (szL len (takenL bs) left = -1) := szL_no (by omega)
    clear hin hm
    go_enter Try.func58, Try.ntmps58
    go_wp2
    go_ret
    exact ⟨by rw [HR.out]; rfl, Below.refl _ _⟩

set_option maxHeartbeats 400000 in
theorem szStoreC (room : Int) (a : Option Addr) (len cap : Nat) (bs : List Bl) (left : Int) (w : World) (hin : BlobsIn w a len cap bs) (h0 : 0 ≤ left) (h1 : left ≤ 1048576) (hl : len ≤ maxLen) (hm : ∀ j, (bs.getD j (0, [])).2.length ≤ maxLen) :
    Calls Try.prog 31 #[.agg #[.int .i64 room, .slice a len cap], .int .i64 left] w fun e w' => e = .returned (.int .i64 (szL len (takenL bs) left)) ∧ Below w.heap.size w w' := by
  have hin1 := hin.alloc (.cells #[.int .i64 room, .slice a len cap] 49)
  obtain ⟨z, hz⟩ : ∃ z, szL len (takenL bs) left = z := ⟨_, rfl⟩
  have hz1 : z = -1 ∨ 0 ≤ z := by rw [← hz]; unfold szL; split <;> omega
  have HZ : Hid (szL len (takenL bs) left = z) := hz
  clear hz
  rcases hz1 with rfl | hz1
  · go_enter Try.func31, Try.ntmps31
    go_wp2_with fail
    refine (szBlobSC a len cap bs left _ hin1 h0 h1 hl hm).mono ?_
    rintro e w1 ⟨rfl, hb1⟩
    rw [HZ.out]
    go_wp2
    go_ret
    exact ⟨by rw [HZ.out]; rfl, ((Below.refl _ w).alloc (Nat.le_refl _) _).trans (hb1.mono (by simp))⟩
  · go_enter Try.func31, Try.ntmps31
    go_wp2_with fail
    refine (szBlobSC a len cap bs left _ hin1 h0 h1 hl hm).mono ?_
    rintro e w1 ⟨rfl, hb1⟩
    rw [HZ.out]
    go_wp2
    go_ret
    exact ⟨by rw [HZ.out]; rfl, ((Below.refl _ w).alloc (Nat.le_refl _) _).trans (hb1.mono (by simp))⟩

end Go.Proofs.Ytfjpbbacibfnmaa
