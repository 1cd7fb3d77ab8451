/-
  A list of texts that came in, as the walks take it; the exact laws' helpers over such lists: szStringS, toStringS.
-/
import Derived.Test.YtfjpbbacibfnmaaChunkS
import Derived.Test.YtfjpbbacibfnmaaMarks3
import Derived.SliceStrings
import Derived.ProofKit
import Derived.OpenShut
import Derived.ShutString
import Derived.ChangeOld
import Derived.Below
namespace Go.Proofs.Ytfjpbbacibfnmaa
open Go.ChangeShapes Go.WideShapes Go.ChangeAt Go.RowKit

set_option maxRecDepth 100000 in
theorem open_texts {H : Type} {enc : TypeId × Value → H} {W : World} {base b0 : Nat} {spare : Nat → Bool} {held : Bool} {v : Value} {d : DataW H} {p : List MemPlace}
    (hv : Value.okWide Try.prog W .any b0 42 v) (h : DataW.Trod enc Try.prog W base spare held 42 v d p) :
    ∃ a len cap ts, v = .slice a len cap ∧ TextsIn W a len ts ∧ len ≤ maxLen ∧ ∀ j, (ts.getD j []).length ≤ maxLen := by
  obtain ⟨a0, len, cap, rfl⟩ := okWide_slice Try.underlying42 hv
  obtain ⟨fuel, hf⟩ := h
  rcases open_strings Try.underlying42 Try.underlying9 (by kernel_rfl) hf with ⟨hcs, _⟩ | ⟨a, l, c, ss, hcs, _, hl, hm, hlen, _, hcell, hsz⟩
  · simp [Value.cells] at hcs
    obtain ⟨rfl, rfl, rfl⟩ := hcs
    exact ⟨none, 0, 0, [], rfl, ⟨rfl, fun j hj => by omega⟩, by decide, fun j => by simp⟩
  · simp [Value.cells] at hcs
    obtain ⟨rfl, rfl, rfl⟩ := hcs
    have hls : len ≤ ss.length := by rw [hlen]; split <;> omega
    have hgd : ∀ j, j < len → ((ss.take len).map (fun s => s.data.toList)).getD j [] = (ss.getD j ByteArray.empty).data.toList := by
      intro j hj
      have hj2 : j < ss.length := by omega
      simp [List.getD, hj, hj2]
    refine ⟨some a, len, cap, (ss.take len).map (fun s => s.data.toList), rfl, ⟨by simp; omega, fun j hj => ?_⟩, by omega, fun j => ?_⟩
    · have hc := hcell j (by omega)
      have hsp : a.spot = none := by
        have h0 := hcell 0 (by omega)
        simpa [Addr.add] using World.cell?_spot h0
      obtain ⟨b, off, spot⟩ := a
      simp at hsp
      subst hsp
      have e : ∀ i, (⟨b, off, none⟩ : Addr).add i = ⟨b, off + i, none⟩ := fun i => by unfold Addr.add; split <;> simp_all
      rw [e] at hc
      refine ⟨b, off, rfl, World.block_lt_of_cell? W ⟨b, off + j, none⟩ hc, ?_⟩
      rw [hc, hgd j hj]
    · by_cases hj : j < len
      · rw [hgd j hj]
        have hj2 : j < ss.length := by omega
        have : ss.getD j ByteArray.empty ∈ ss := by simp [List.getD, hj2]
        have hz := hsz _ this
        simpa using hz
      · have : ((ss.take len).map (fun s => s.data.toList)).getD j [] = [] := by rw [List.getD, List.getElem?_eq_none (by simp; omega)]; rfl
        rw [this]; simp

def szT (m n : Nat) (left : Int) : Int := if (m : Int) + (n : Int) ≤ left then left - (m : Int) - (n : Int) else -1
theorem szT_yes {m n : Nat} {left : Int} (h : (m : Int) + (n : Int) ≤ left) : szT m n left = left - (m : Int) - (n : Int) := by unfold szT; rw [if_pos h]
theorem szT_no {m n : Nat} {left : Int} (h : ¬ (m : Int) + (n : Int) ≤ left) : szT m n left = -1 := by unfold szT; rw [if_neg h]

/-- How many bytes in all. -/
def joinN (ts : List (List UInt8)) : Nat := ts.flatten.length

theorem joinN_snoc (ts : List (List UInt8)) (k : Nat) (hk : k < ts.length) : joinN (ts.take (k + 1)) = joinN (ts.take k) + (ts.getD k []).length := by
  have := congrArg List.length (flat_snoc ts k hk)
  rw [List.length_append] at this
  exact this

theorem joinN_take (ts : List (List UInt8)) (k : Nat) : joinN (ts.take k) ≤ joinN ts := flat_take ts k

set_option maxHeartbeats 1000000 in
theorem szStringSC (a : Option Addr) (len cap : Nat) (ts : List (List UInt8)) (left : Int) (w : World) (hin : TextsIn w a len ts) (h0 : 0 ≤ left) (h1 : left ≤ 1048576) (hl : len ≤ maxLen) (hm : ∀ j, (ts.getD j []).length ≤ maxLen) :
    Calls Try.prog 39 #[.slice a len cap, .int .i64 left] w fun e w' => e = .returned (.int .i64 (szT len (joinN ts) left)) ∧ w' = w := by
  unfold maxLen at hl
  have hl2 : (len : Int) ≤ 9223372036854775807 := by omega
  have hlb := hin.1
  by_cases h : (len : Int) ≤ left
  · have hlen : len ≤ 1048576 := by omega
    have HI : Hid (TextsIn w a len ts) := hin
    have HM : Hid (∀ j, (ts.getD j []).length ≤ maxLen) := hm
    clear hin hm
    go_enter Try.func39, Try.ntmps39
    go_wp2
    go_loop [1, 5] (fun l i => ∃ k : Nat, k ≤ len ∧ i = .int .i64 k ∧ l = .int .i64 (left - (len : Int) - (joinN (ts.take k) : Int)) ∧ (joinN (ts.take k) : Int) ≤ left - (len : Int)) (fun _ i => len - (intOf i).toNat)
    case atStart => exact ⟨0, Nat.zero_le _, rfl, by simp [joinN], by simp [joinN]; omega⟩
    case round =>
      obtain ⟨k, hk, rfl, rfl, hle⟩ := hrel
      by_cases hkl : (k : Int) < (len : Int)
      · obtain ⟨b, off, rfl, hbl, hcells⟩ := HI.out.at (by omega)
        have ck := hcells k (by omega)
        have hmk := HM.out k
        have hfs := joinN_snoc ts k (by omega)
        have hft := joinN_take ts (k + 1)
        obtain ⟨t, ht⟩ : ∃ t, ts.getD k [] = t := ⟨_, rfl⟩
        rw [ht] at ck hmk hfs
        unfold maxLen at hmk
        have hmk2 : (t.length : Int) ≤ 9223372036854775807 := by omega
        obtain ⟨m, hmm⟩ : ∃ m, joinN (ts.take k) = m := ⟨_, rfl⟩
        have HS : Hid (joinN (ts.take (k + 1)) = m + t.length) := by rw [← hmm]; exact hfs
        rw [hmm] at hle ⊢
        clear hcells ht hfs
        by_cases hfit : (t.length : Int) ≤ left - (len : Int) - (m : Int)
        · have hge : (0 : Int) ≤ left - (len : Int) - (m : Int) - (t.length : Int) := by omega
          have HR : Hid ((joinN (ts.take (k + 1)) : Int) ≤ left - (len : Int) ∧ left - (len : Int) - (joinN (ts.take (k + 1)) : Int) = left - (len : Int) - (m : Int) - (t.length : Int)) := by
            exact (by rw [HS.out]; omega : (joinN (ts.take (k + 1)) : Int) ≤ left - (len : Int) ∧ left - (len : Int) - (joinN (ts.take (k + 1)) : Int) = left - (len : Int) - (m : Int) - (t.length : Int))
          clear hmm hft
          go_wp2
          go_round
          case rel => exact ⟨k + 1, by omega, by go_num, by rw [HR.out.2], HR.out.1⟩
          case measure => simp [intOf]; omega
        · have HR : Hid (szT len (joinN ts) left = -1) := szT_no (by have := HS.out; omega)
          have hlt : left - (len : Int) - (m : Int) - (t.length : Int) < 0 := by omega
          clear hmm hft
          go_wp2
          go_ret
          exact ⟨by rw [HR.out]; rfl, rfl⟩
      · have HT : Hid (ts.take k = ts) := List.take_of_length_le (by omega)
        have HR : Hid (szT len (joinN ts) left = left - (len : Int) - (joinN (ts.take k) : Int)) := by exact (by rw [HT.out] at hle ⊢; exact szT_yes (by omega) : szT len (joinN ts) left = left - (len : Int) - (joinN (ts.take k) : Int))
        go_wp2
        go_ret
        exact ⟨by rw [HR.out]; rfl, rfl⟩
  · have HR : Hid (szT len (joinN ts) left = -1) := szT_no (by omega)
    clear hin hm
    go_enter Try.func39, Try.ntmps39
    go_wp2
    go_ret
    exact ⟨by rw [HR.out]; rfl, rfl⟩

theorem made_texts (n : Nat) : (madeCells (Value.cells (.string ⟨#[]⟩)) (n * 1)).toList = strV (List.replicate n []) := by
  have hc : Value.cells (.string ⟨#[]⟩) = #[.string ⟨#[]⟩] := rfl
  rw [hc, Nat.mul_one]
  apply List.ext_getElem?
  intro j
  by_cases hj : j < n
  · rw [strV_at _ j (by simpa using hj)]
    simp [madeCells, hj, Nat.mod_one]
  · rw [List.getElem?_eq_none (by simp [madeCells]; omega), List.getElem?_eq_none (by rw [strV_len]; simp; omega)]

theorem fill_text (ts : List (List UInt8)) (k : Nat) (hk : k < ts.length) : (strV (ts.take k ++ List.replicate (ts.length - k) [])).set k (.string ⟨(ts.getD k []).toArray⟩) = strV (ts.take (k + 1) ++ List.replicate (ts.length - (k + 1)) []) := by
  have hg : ts.getD k [] = ts[k] := by simp [List.getD, hk]
  have e : (ts.take k ++ List.replicate (ts.length - k) []).set k ts[k] = ts.take (k + 1) ++ List.replicate (ts.length - (k + 1)) [] := by
    rw [List.set_append_right _ _ (by rw [List.length_take]; omega), List.length_take, Nat.min_eq_left (by omega), Nat.sub_self, show ts.length - k = (ts.length - (k + 1)) + 1 by omega, List.replicate_succ, List.set_cons_zero, List.take_succ_eq_append_getElem hk, List.append_assoc]
    rfl
  rw [hg, ← e]
  unfold strV
  rw [List.map_set]

set_option maxHeartbeats 2000000 in
theorem toStringSC (a : Option Addr) (len cap : Nat) (ts : List (List UInt8)) (w : World) (hin : TextsIn w a len ts) (hlen : len ≤ 1048576) :
    Calls Try.prog 40 #[.slice a len cap] w fun e w' => ∃ v, e = .returned v ∧ w'.ownsRow w.heap.size 9 1 v len (strV ts) ∧ v ≠ .slice none 0 0 ∧ Below w.heap.size w w' := by
  obtain ⟨i0, hi, hz0, hz1, hz2⟩ := info_parts info9
  have hlb := hin.1
  have HI : Hid (TextsIn w a len ts) := hin
  clear hin
  go_enter Try.func40, Try.ntmps40
  go_wp2_with (at_make; refine wpList_make_full _ rfl _ _ 42 rfl w.heap.size 9 i0 _ 1 Try.underlying42 hi hz0 hz1 .i64 .i64 _ _ len rfl rfl rfl rfl (by rw [hz2]; omega) (by unfold maxLen; omega) (Nat.le_refl _) ?_; intro w1 hown1 hgrow1)
  rw [made_texts] at hown1
  have hB1 : Below w.heap.size w w1 := (Below.refl _ _).grown hgrow1 (Nat.le_refl _) (by simp)
  clear hgrow1
  go_loopw [4] (fun i wr => ∃ k : Nat, k ≤ len ∧ i = .int .i64 k ∧ wr.ownsRow w.heap.size 9 1 (.slice (some ⟨w.heap.size, 0, none⟩) len len) len (strV (ts.take k ++ List.replicate (ts.length - k) [])) ∧ Below w.heap.size w wr) (fun i _ => len - (intOf i).toNat)
  case atStart => exact ⟨0, Nat.zero_le _, rfl, by simpa [hlb] using hown1, hB1⟩
  case round =>
    obtain ⟨k, hk, rfl, hown, hB⟩ := hrel
    clear hown1 hB1
    by_cases hkl : (k : Int) < (len : Int)
    · obtain ⟨b, off, rfl, hbl, hcells⟩ := (HI.out.below hB).at (by omega)
      have ck := hcells k (by omega)
      have hst := (hown.stored k (.string ⟨(ts.getD k []).toArray⟩)).1
      rw [fill_text ts k (by omega)] at hst
      obtain ⟨u0, d0⟩ : ∃ u, wr.cell? ⟨w.heap.size, k, none⟩ = some u := by
        rw [hown.cellAt k (by omega), strV_at _ k (by rw [List.length_append, List.length_take, List.length_replicate]; omega)]; exact ⟨_, rfl⟩
      have e0 := hown.frozenAt k
      obtain ⟨t, ht⟩ : ∃ t, ts.getD k [] = t := ⟨_, rfl⟩
      rw [ht] at ck hst
      have hB3 := hB.setCell (p := ⟨w.heap.size, k, none⟩) (Nat.le_refl _) (.string ⟨t.toArray⟩)
      clear hcells ht hown
      go_wp2
      go_roundw
      case rel => exact ⟨k + 1, by omega, by go_num, hst, hB3⟩
      case measure => simp [intOf]; omega
    · have hd : ts.take k ++ List.replicate (ts.length - k) [] = ts := by rw [List.take_of_length_le (by omega), show ts.length - k = 0 by omega]; simp
      rw [hd] at hown
      clear hd
      go_wp2
      go_ret
      exact ⟨_, rfl, hown, by simp, hB⟩

end Go.Proofs.Ytfjpbbacibfnmaa
