/-
  Parts of one proof, one behind the other: Marks2, Marks3, TextsL, FnL.
-/
import Derived.Test.YtdjglpcllcjcfaaDoorP12
import Derived.Deep.RegionWith
import Derived.Test.YtdjglpcllcjcfaaDoorP2
import Derived.Test.YtdjglpcllcjcfaaDoorP4
import Derived.SliceStrings
import Derived.ProofKit
import Derived.OpenShut
import Derived.ShutString
import Derived.ChangeOld
import Derived.Below
import Derived.Test.YtdjglpcllcjcfaaDoorP11

/-! The contracts of the exact laws' own helpers over lists of texts: eqStringS, markStringS, heldStringS. -/
namespace Go.Proofs.YtdjglpcllcjcfaaDoor
open Go.RowKit

set_option maxHeartbeats 1000000 in
set_option maxRecDepth 100000 in
theorem eqStrC (w : World) (ba bb ga gb ca cb : Nat) (ls : List (List UInt8)) (hn : ls.length ≤ 1100000)
    (ha : w.ownsRow ba 9 1 (.slice (some ⟨ga, 0, none⟩) ls.length ca) ls.length (strV ls)) (hb : w.ownsRow bb 9 1 (.slice (some ⟨gb, 0, none⟩) ls.length cb) ls.length (strV ls)) :
    Calls Tryd.prog 20 #[.slice (some ⟨ga, 0, none⟩) ls.length ca, .slice (some ⟨gb, 0, none⟩) ls.length cb] w fun e w' => e = .returned (.bool true) ∧ w.grownBy w' none := by
  have hne : ((ls.length : Int) != (ls.length : Int)) = false := by simp
  have hself : ∀ l : List UInt8, (l != l) = false := by simp
  have HA : Hid (∀ j (hj : j < ls.length), w.cell? ⟨ga, j, none⟩ = some (.string ⟨ls[j].toArray⟩)) := fun j hj => str_cells ha j hj
  have HB : Hid (∀ j (hj : j < ls.length), w.cell? ⟨gb, j, none⟩ = some (.string ⟨ls[j].toArray⟩)) := fun j hj => str_cells hb j hj
  clear ha hb
  go_enter Tryd.func20, Tryd.ntmps20
  go_wp2
  go_loopw [5] (fun i wr => ∃ k : Nat, k ≤ ls.length ∧ i = .int .i64 k ∧ w.grownBy wr none) (fun i _ => ls.length - (intOf i).toNat)
  case atStart => exact ⟨0, Nat.zero_le _, rfl, World.grownBy.refl _ _⟩
  case round =>
    obtain ⟨k, hk, rfl, hg⟩ := hrel
    by_cases hlt : k < ls.length
    · obtain ⟨t, ht⟩ : ∃ t, ls[k] = t := ⟨_, rfl⟩
      have hca : wr.cell? ⟨ga, k, none⟩ = some (.string ⟨t.toArray⟩) := by rw [← ht]; exact hg.cell (HA.out k hlt) (by simp)
      have hcb : wr.cell? ⟨gb, k, none⟩ = some (.string ⟨t.toArray⟩) := by rw [← ht]; exact hg.cell (HB.out k hlt) (by simp)
      clear ht
      go_wp2
      go_region
      all_goals (try go_wp2)
      go_roundw
      case rel => exact ⟨k + 1, by omega, by go_num, hg.trans (grown_drew _ _)⟩
      case measure => simp [intOf]; omega
    · go_wp2
      go_ret
      exact ⟨rfl, hg⟩

/-- The marks from k on. -/
def marksV (k : Nat) : Nat → List Value
  | 0 => []
  | n + 1 => marksV k n ++ [.string ⟨(markL (k + n)).toArray⟩]

theorem marksV_len (k n : Nat) : (marksV k n).length = n := by
  induction n with
  | zero => rfl
  | succ n ih => simp [marksV, ih]

theorem marksV_at (k n j : Nat) (h : j < n) : (marksV k n)[j]? = some (.string ⟨(markL (k + j)).toArray⟩) := by
  induction n with
  | zero => omega
  | succ n ih =>
    unfold marksV
    by_cases hj : j < n
    · rw [List.getElem?_append_left (by rw [marksV_len]; exact hj)]; exact ih hj
    · obtain rfl : j = n := by omega
      rw [List.getElem?_append_right (by rw [marksV_len]; omega), marksV_len]
      simp

theorem marks_set (k i : Nat) (xs : List Value) (h : i < xs.length) : (marksV k i ++ xs.drop i).set i (.string ⟨(markL (k + i)).toArray⟩) = marksV k (i + 1) ++ xs.drop (i + 1) := by
  rw [List.set_append, if_neg (by rw [marksV_len]; omega), marksV_len, Nat.sub_self]
  rw [List.drop_eq_getElem_cons h, List.set_cons_zero]
  conv => rhs; unfold marksV
  rw [List.append_assoc]; rfl

set_option maxHeartbeats 1000000 in
set_option maxRecDepth 100000 in
theorem markStrC (w : World) (base g cp n k0 : Nat) (xs : List Value) (hn : n ≤ 1100000) (hk0 : 0 < k0) (hk1 : k0 ≤ 800000)
    (h : w.ownsRow base 9 1 (.slice (some ⟨g, 0, none⟩) n cp) n xs) :
    Calls Tryd.prog 23 #[.slice (some ⟨g, 0, none⟩) n cp, .int .i64 k0] w fun e w' => e = .returned (.int .i64 ((k0 + n : Nat) : Int)) ∧ w'.ownsRow base 9 1 (.slice (some ⟨g, 0, none⟩) n cp) n (marksV k0 n) ∧ w.grownBy w' (some g) := by
  have hxl : Hid (xs.length = n) := by exact (by have := h.1; omega : xs.length = n)
  have hgl : g < w.heap.size := (h.lt g rfl).2
  go_enter Tryd.func23, Tryd.ntmps23
  go_wp2
  go_loopw [1, 5] (fun k i wr => ∃ m : Nat, m ≤ n ∧ i = .int .i64 m ∧ k = .int .i64 ((k0 + m : Nat) : Int) ∧ wr.ownsRow base 9 1 (.slice (some ⟨g, 0, none⟩) n cp) n (marksV k0 m ++ xs.drop m) ∧ w.grownBy wr (some g)) (fun _ i _ => n - (intOf i).toNat)
  case atStart => exact ⟨0, Nat.zero_le _, rfl, rfl, h, World.grownBy.refl _ _⟩
  case round =>
    obtain ⟨m, hm, rfl, rfl, hown, hg⟩ := hrel
    by_cases hlt : m < n
    · go_wp2_with fail
      refine (markTextC (k0 + m) _ (by omega) (by omega)).mono ?_
      rintro e w1 ⟨rfl, hg1⟩
      have hown1 := own_none hown hg1
      have hc1 : ∃ u, w1.cell? ⟨g, m, none⟩ = some u := by
        rw [hown1.cellAt m (by omega)]
        have hl : m < (marksV k0 m ++ xs.drop m).length := by rw [List.length_append, marksV_len, List.length_drop]; have := hxl.out; omega
        exact ⟨_, List.getElem?_eq_getElem hl⟩
      obtain ⟨u, hc1⟩ := hc1
      have hf1 := hown1.frozenAt m
      have hst := hown1.stored m (.string ⟨(markL (k0 + m)).toArray⟩)
      rw [marks_set k0 m xs (by have := hxl.out; omega)] at hst
      have hg2 : w.grownBy w1 (some g) := hg.andThen hg1 (by simp)
      have hst2 := hg2.trans hst.2
      have hst1 := hst.1
      clear hown hown1 hg1 hst hg2 hg
      go_wp2
      go_roundw
      case rel => exact ⟨m + 1, by omega, by go_num, by go_num, hst1, hst2⟩
      case measure => simp [intOf]; omega
    · obtain rfl : m = n := by omega
      have hd : xs.drop m = [] := List.drop_eq_nil_of_le (by have := hxl.out; omega)
      rw [hd, List.append_nil] at hown
      clear hd
      go_wp2
      go_ret
      exact ⟨rfl, hown, hg⟩

set_option maxHeartbeats 1000000 in
set_option maxRecDepth 100000 in
theorem heldStrC (w : World) (base g cp n k0 : Nat) (hn : n ≤ 1100000) (hk0 : 0 < k0) (hk1 : k0 ≤ 800000)
    (h : w.ownsRow base 9 1 (.slice (some ⟨g, 0, none⟩) n cp) n (marksV k0 n)) :
    Calls Tryd.prog 24 #[.slice (some ⟨g, 0, none⟩) n cp, .int .i64 k0] w fun e w' => e = .returned (.int .i64 ((k0 + n : Nat) : Int)) ∧ w.grownBy w' none := by
  have hself : ∀ l : List UInt8, (l != l) = false := by simp
  have HA : Hid (∀ j, j < n → w.cell? ⟨g, j, none⟩ = some (.string ⟨(markL (k0 + j)).toArray⟩)) := fun j hj => by rw [h.cellAt j (by omega), marksV_at k0 n j hj]
  clear h
  go_enter Tryd.func24, Tryd.ntmps24
  go_wp2
  go_loopw [1, 5] (fun k i wr => ∃ m : Nat, m ≤ n ∧ i = .int .i64 m ∧ k = .int .i64 ((k0 + m : Nat) : Int) ∧ w.grownBy wr none) (fun _ i _ => n - (intOf i).toNat)
  case atStart => exact ⟨0, Nat.zero_le _, rfl, rfl, World.grownBy.refl _ _⟩
  case round =>
    obtain ⟨m, hm, rfl, rfl, hg⟩ := hrel
    by_cases hlt : m < n
    · have hca : wr.cell? ⟨g, m, none⟩ = some (.string ⟨(markL (k0 + m)).toArray⟩) := hg.cell (HA.out m hlt) (by simp)
      go_wp2
      go_region_with (go_at_call 47; refine (markTextC (k0 + m) _ (by omega) (by omega)).mono ?_; rintro e w1 ⟨rfl, hg1⟩; have hca1 := hg1.cell (a := ⟨g, m, none⟩) hca (by simp))
      all_goals (try go_wp2)
      all_goals
        go_roundw
        case rel => exact ⟨m + 1, by omega, by go_num, by go_num, by first | exact hg.trans hg1 | exact (hg.trans (grown_drew _ _)).trans hg1⟩
        case measure => simp [intOf]; omega
    · obtain rfl : m = n := by omega
      go_wp2
      go_ret
      exact ⟨rfl, hg⟩

end Go.Proofs.YtdjglpcllcjcfaaDoor

/-! The helpers over lists of texts, whatever the list's value: nil, empty or not. -/
namespace Go.Proofs.YtdjglpcllcjcfaaDoor
open Go.RowKit

set_option maxHeartbeats 400000 in
set_option maxRecDepth 100000 in
theorem eqStrEmpty (w : World) (aa ab : Option Addr) (ca cb : Nat) :
    Calls Tryd.prog 20 #[.slice aa 0 ca, .slice ab 0 cb] w fun e w' => e = .returned (.bool true) ∧ w.grownBy w' none := by
  go_enter Tryd.func20, Tryd.ntmps20
  go_wp2
  refine wp_loop_rounds 1 ?_
  rw [rounds_succ]
  go_wp2
  go_ret
  exact ⟨rfl, World.grownBy.refl _ _⟩

theorem eqStrV (w : World) (ba bb : Nat) (va vb : Value) (ls : List (List UInt8)) (hn : ls.length ≤ 1100000)
    (ha : w.ownsRow ba 9 1 va ls.length (strV ls)) (hb : w.ownsRow bb 9 1 vb ls.length (strV ls)) :
    Calls Tryd.prog 20 #[va, vb] w fun e w' => e = .returned (.bool true) ∧ w.grownBy w' none := by
  rcases own_forms ha with ⟨rfl, h0, _⟩ | ⟨ga, ca, rfl⟩
  · rcases own_forms hb with ⟨rfl, _, _⟩ | ⟨gb, cb, rfl⟩
    · exact eqStrEmpty w none none 0 0
    · rw [h0]; exact eqStrEmpty w none (some ⟨gb, 0, none⟩) 0 cb
  · rcases own_forms hb with ⟨rfl, h0, _⟩ | ⟨gb, cb, rfl⟩
    · rw [h0]; exact eqStrEmpty w (some ⟨ga, 0, none⟩) none ca 0
    · exact eqStrC w ba bb ga gb ca cb ls hn ha hb

set_option maxHeartbeats 400000 in
set_option maxRecDepth 100000 in
theorem markStrNil (w : World) (k0 : Nat) :
    Calls Tryd.prog 23 #[.slice none 0 0, .int .i64 k0] w fun e w' => e = .returned (.int .i64 (k0 : Int)) ∧ w' = w := by
  go_enter Tryd.func23, Tryd.ntmps23
  go_wp2
  refine wp_loop_rounds 1 ?_
  rw [rounds_succ]
  go_wp2
  go_ret
  exact ⟨rfl, rfl⟩

theorem markStrV (w : World) (base n k0 : Nat) (v : Value) (xs : List Value) (hn : n ≤ 1100000) (hk0 : 0 < k0) (hk1 : k0 ≤ 800000) (h : w.ownsRow base 9 1 v n xs) :
    Calls Tryd.prog 23 #[v, .int .i64 k0] w fun e w' => e = .returned (.int .i64 ((k0 + n : Nat) : Int)) ∧ w'.ownsRow base 9 1 v n (marksV k0 n) ∧ w.grownBy w' v.ownBlock := by
  rcases own_forms h with ⟨rfl, rfl, rfl⟩ | ⟨g, cp, rfl⟩
  · refine (markStrNil w k0).mono ?_
    rintro e w' ⟨rfl, rfl⟩
    exact ⟨rfl, h, World.grownBy.refl _ _⟩
  · exact markStrC w base g cp n k0 xs hn hk0 hk1 h

set_option maxHeartbeats 400000 in
set_option maxRecDepth 100000 in
theorem heldStrNil (w : World) (k0 : Nat) :
    Calls Tryd.prog 24 #[.slice none 0 0, .int .i64 k0] w fun e w' => e = .returned (.int .i64 (k0 : Int)) ∧ w' = w := by
  go_enter Tryd.func24, Tryd.ntmps24
  go_wp2
  refine wp_loop_rounds 1 ?_
  rw [rounds_succ]
  go_wp2
  go_ret
  exact ⟨rfl, rfl⟩

theorem heldStrV (w : World) (base n k0 : Nat) (v : Value) (hn : n ≤ 1100000) (hk0 : 0 < k0) (hk1 : k0 ≤ 800000) (h : w.ownsRow base 9 1 v n (marksV k0 n)) :
    Calls Tryd.prog 24 #[v, .int .i64 k0] w fun e w' => e = .returned (.int .i64 ((k0 + n : Nat) : Int)) ∧ w.grownBy w' none := by
  rcases own_forms h with ⟨rfl, rfl, _⟩ | ⟨g, cp, rfl⟩
  · refine (heldStrNil w k0).mono ?_
    rintro e w' ⟨rfl, rfl⟩
    exact ⟨rfl, World.grownBy.refl _ _⟩
  · exact heldStrC w base g cp n k0 hn hk0 hk1 h

end Go.Proofs.YtdjglpcllcjcfaaDoor

/-! A list of texts that came in, as the walks take it; the exact laws' helpers over such lists: szStringS, toStringS. -/
namespace Go.Proofs.YtdjglpcllcjcfaaDoor
open Go.ChangeShapes Go.WideShapes Go.ChangeAt Go.RowKit

set_option maxRecDepth 100000 in
theorem open_texts {H : Type} {enc : TypeId × Value → H} {W : World} {base b0 : Nat} {spare : Nat → Bool} {held : Bool} {v : Value} {d : DataW H} {p : List MemPlace}
    (hv : Value.okWide Tryd.prog W .any b0 30 v) (h : DataW.Trod enc Tryd.prog W base spare held 30 v d p) :
    ∃ a len cap ts, v = .slice a len cap ∧ TextsIn W a len ts ∧ len ≤ maxLen ∧ ∀ j, (ts.getD j []).length ≤ maxLen := by
  obtain ⟨a0, len, cap, rfl⟩ := okWide_slice Tryd.underlying30 hv
  obtain ⟨fuel, hf⟩ := h
  rcases open_strings Tryd.underlying30 Tryd.underlying9 (by kernel_rfl) hf with ⟨hcs, _⟩ | ⟨a, l, c, ss, hcs, _, hl, hm, hlen, _, hcell, hsz⟩
  · simp [Value.cells] at hcs
    obtain ⟨rfl, rfl, rfl⟩ := hcs
    exact ⟨none, 0, 0, [], rfl, ⟨rfl, fun j hj => by omega⟩, by decide, fun j => by simp⟩
  · simp [Value.cells] at hcs
    obtain ⟨rfl, rfl, rfl⟩ := hcs
    have hls : len ≤ ss.length := by rw [hlen]; split <;> omega
    have hgd : ∀ j, j < len → ((ss.take len).map (fun s => s.data.toList)).getD j [] = (ss.getD j ByteArray.empty).data.toList := by
      intro j hj
      have hj2 : j < ss.length := by omega
      simp [List.getD, hj, hj2]
    refine ⟨some a, len, cap, (ss.take len).map (fun s => s.data.toList), rfl, ⟨by simp; omega, fun j hj => ?_⟩, by omega, fun j => ?_⟩
    · have hc := hcell j (by omega)
      have hsp : a.spot = none := by
        have h0 := hcell 0 (by omega)
        simpa [Addr.add] using World.cell?_spot h0
      obtain ⟨b, off, spot⟩ := a
      simp at hsp
      subst hsp
      have e : ∀ i, (⟨b, off, none⟩ : Addr).add i = ⟨b, off + i, none⟩ := fun i => by unfold Addr.add; split <;> simp_all
      rw [e] at hc
      refine ⟨b, off, rfl, World.block_lt_of_cell? W ⟨b, off + j, none⟩ hc, ?_⟩
      rw [hc, hgd j hj]
    · by_cases hj : j < len
      · rw [hgd j hj]
        have hj2 : j < ss.length := by omega
        have : ss.getD j ByteArray.empty ∈ ss := by simp [List.getD, hj2]
        have hz := hsz _ this
        simpa using hz
      · have : ((ss.take len).map (fun s => s.data.toList)).getD j [] = [] := by rw [List.getD, List.getElem?_eq_none (by simp; omega)]; rfl
        rw [this]; simp

def szT (m n : Nat) (left : Int) : Int := if (m : Int) + (n : Int) ≤ left then left - (m : Int) - (n : Int) else -1
theorem szT_yes {m n : Nat} {left : Int} (h : (m : Int) + (n : Int) ≤ left) : szT m n left = left - (m : Int) - (n : Int) := by unfold szT; rw [if_pos h]
theorem szT_no {m n : Nat} {left : Int} (h : ¬ (m : Int) + (n : Int) ≤ left) : szT m n left = -1 := by unfold szT; rw [if_neg h]

/-- How many bytes in all. -/
def joinN (ts : List (List UInt8)) : Nat := ts.flatten.length

theorem joinN_snoc (ts : List (List UInt8)) (k : Nat) (hk : k < ts.length) : joinN (ts.take (k + 1)) = joinN (ts.take k) + (ts.getD k []).length := by
  have := congrArg List.length (flat_snoc ts k hk)
  rw [List.length_append] at this
  exact this

theorem joinN_take (ts : List (List UInt8)) (k : Nat) : joinN (ts.take k) ≤ joinN ts := flat_take ts k

set_option maxHeartbeats 1000000 in
set_option maxRecDepth 100000 in
theorem szStringSC (a : Option Addr) (len cap : Nat) (ts : List (List UInt8)) (left : Int) (w : World) (hin : TextsIn w a len ts) (h0 : 0 ≤ left) (h1 : left ≤ 1048576) (hl : len ≤ maxLen) (hm : ∀ j, (ts.getD j []).length ≤ maxLen) :
    Calls Tryd.prog 37 #[.slice a len cap, .int .i64 left] w fun e w' => e = .returned (.int .i64 (szT len (joinN ts) left)) ∧ w' = w := by
  unfold maxLen at hl
  have hl2 : (len : Int) ≤ 9223372036854775807 := by omega
  have hlb := hin.1
  by_cases h : (len : Int) ≤ left
  · have hlen : len ≤ 1048576 := by omega
    have HI : Hid (TextsIn w a len ts) := hin
    have HM : Hid (∀ j, (ts.getD j []).length ≤ maxLen) := hm
    clear hin hm
    go_enter Tryd.func37, Tryd.ntmps37
    go_wp2
    go_loop [1, 5] (fun l i => ∃ k : Nat, k ≤ len ∧ i = .int .i64 k ∧ l = .int .i64 (left - (len : Int) - (joinN (ts.take k) : Int)) ∧ (joinN (ts.take k) : Int) ≤ left - (len : Int)) (fun _ i => len - (intOf i).toNat)
    case atStart => exact ⟨0, Nat.zero_le _, rfl, by simp [joinN], by simp [joinN]; omega⟩
    case round =>
      obtain ⟨k, hk, rfl, rfl, hle⟩ := hrel
      by_cases hkl : (k : Int) < (len : Int)
      · obtain ⟨b, off, rfl, hbl, hcells⟩ := HI.out.at (by omega)
        have ck := hcells k (by omega)
        have hmk := HM.out k
        have hfs := joinN_snoc ts k (by omega)
        have hft := joinN_take ts (k + 1)
        obtain ⟨t, ht⟩ : ∃ t, ts.getD k [] = t := ⟨_, rfl⟩
        rw [ht] at ck hmk hfs
        unfold maxLen at hmk
        have hmk2 : (t.length : Int) ≤ 9223372036854775807 := by omega
        obtain ⟨m, hmm⟩ : ∃ m, joinN (ts.take k) = m := ⟨_, rfl⟩
        have HS : Hid (joinN (ts.take (k + 1)) = m + t.length) := by rw [← hmm]; exact hfs
        rw [hmm] at hle ⊢
        clear hcells ht hfs
        by_cases hfit : (t.length : Int) ≤ left - (len : Int) - (m : Int)
        · have hge : (0 : Int) ≤ left - (len : Int) - (m : Int) - (t.length : Int) := by omega
          have HR : Hid ((joinN (ts.take (k + 1)) : Int) ≤ left - (len : Int) ∧ left - (len : Int) - (joinN (ts.take (k + 1)) : Int) = left - (len : Int) - (m : Int) - (t.length : Int)) := by
            exact (by rw [HS.out]; omega : (joinN (ts.take (k + 1)) : Int) ≤ left - (len : Int) ∧ left - (len : Int) - (joinN (ts.take (k + 1)) : Int) = left - (len : Int) - (m : Int) - (t.length : Int))
          clear hmm hft
          go_wp2
          go_round
          case rel => exact ⟨k + 1, by omega, by go_num, by rw [HR.out.2], HR.out.1⟩
          case measure => simp [intOf]; omega
        · have HR : Hid (szT len (joinN ts) left = -1) := szT_no (by have := HS.out; omega)
          have hlt : left - (len : Int) - (m : Int) - (t.length : Int) < 0 := by omega
          clear hmm hft
          go_wp2
          go_ret
          exact ⟨by rw [HR.out]; rfl, rfl⟩
      · have HT : Hid (ts.take k = ts) := List.take_of_length_le (by omega)
        have HR : Hid (szT len (joinN ts) left = left - (len : Int) - (joinN (ts.take k) : Int)) := by exact (by rw [HT.out] at hle ⊢; exact szT_yes (by omega) : szT len (joinN ts) left = left - (len : Int) - (joinN (ts.take k) : Int))
        go_wp2
        go_ret
        exact ⟨by rw [HR.out]; rfl, rfl⟩
  · have HR : Hid (szT len (joinN ts) left = -1) := szT_no (by omega)
    clear hin hm
    go_enter Tryd.func37, Tryd.ntmps37
    go_wp2
    go_ret
    exact ⟨by rw [HR.out]; rfl, rfl⟩

theorem made_texts (n : Nat) : (madeCells (Value.cells (.string ⟨#[]⟩)) (n * 1)).toList = strV (List.replicate n []) := by
  have hc : Value.cells (.string ⟨#[]⟩) = #[.string ⟨#[]⟩] := rfl
  rw [hc, Nat.mul_one]
  apply List.ext_getElem?
  intro j
  by_cases hj : j < n
  · rw [strV_at _ j (by simpa using hj)]
    simp [madeCells, hj, Nat.mod_one]
  · rw [List.getElem?_eq_none (by simp [madeCells]; omega), List.getElem?_eq_none (by rw [strV_len]; simp; omega)]

theorem fill_text (ts : List (List UInt8)) (k : Nat) (hk : k < ts.length) : (strV (ts.take k ++ List.replicate (ts.length - k) [])).set k (.string ⟨(ts.getD k []).toArray⟩) = strV (ts.take (k + 1) ++ List.replicate (ts.length - (k + 1)) []) := by
  have hg : ts.getD k [] = ts[k] := by simp [List.getD, hk]
  have e : (ts.take k ++ List.replicate (ts.length - k) []).set k ts[k] = ts.take (k + 1) ++ List.replicate (ts.length - (k + 1)) [] := by
    rw [List.set_append_right _ _ (by rw [List.length_take]; omega), List.length_take, Nat.min_eq_left (by omega), Nat.sub_self, show ts.length - k = (ts.length - (k + 1)) + 1 by omega, List.replicate_succ, List.set_cons_zero, List.take_succ_eq_append_getElem hk, List.append_assoc]
    rfl
  rw [hg, ← e]
  unfold strV
  rw [List.map_set]

set_option maxHeartbeats 2000000 in
set_option maxRecDepth 100000 in
theorem toStringSC (a : Option Addr) (len cap : Nat) (ts : List (List UInt8)) (w : World) (hin : TextsIn w a len ts) (hlen : len ≤ 1048576) :
    Calls Tryd.prog 41 #[.slice a len cap] w fun e w' => ∃ v, e = .returned v ∧ w'.ownsRow w.heap.size 9 1 v len (strV ts) ∧ v ≠ .slice none 0 0 ∧ Below w.heap.size w w' := by
  obtain ⟨i0, hi, hz0, hz1, hz2⟩ := info_parts info9
  have hlb := hin.1
  have HI : Hid (TextsIn w a len ts) := hin
  clear hin
  go_enter Tryd.func41, Tryd.ntmps41
  go_wp2_with (at_make; refine wpList_make_full _ rfl _ _ 30 rfl w.heap.size 9 i0 _ 1 Tryd.underlying30 hi hz0 hz1 .i64 .i64 _ _ len rfl rfl rfl rfl (by rw [hz2]; omega) (by unfold maxLen; omega) (Nat.le_refl _) ?_; intro w1 hown1 hgrow1)
  rw [made_texts] at hown1
  have hB1 : Below w.heap.size w w1 := (Below.refl _ _).grown hgrow1 (Nat.le_refl _) (by simp)
  clear hgrow1
  go_loopw [4] (fun i wr => ∃ k : Nat, k ≤ len ∧ i = .int .i64 k ∧ wr.ownsRow w.heap.size 9 1 (.slice (some ⟨w.heap.size, 0, none⟩) len len) len (strV (ts.take k ++ List.replicate (ts.length - k) [])) ∧ Below w.heap.size w wr) (fun i _ => len - (intOf i).toNat)
  case atStart => exact ⟨0, Nat.zero_le _, rfl, by simpa [hlb] using hown1, hB1⟩
  case round =>
    obtain ⟨k, hk, rfl, hown, hB⟩ := hrel
    clear hown1 hB1
    by_cases hkl : (k : Int) < (len : Int)
    · obtain ⟨b, off, rfl, hbl, hcells⟩ := (HI.out.below hB).at (by omega)
      have ck := hcells k (by omega)
      have hst := (hown.stored k (.string ⟨(ts.getD k []).toArray⟩)).1
      rw [fill_text ts k (by omega)] at hst
      obtain ⟨u0, d0⟩ : ∃ u, wr.cell? ⟨w.heap.size, k, none⟩ = some u := by
        rw [hown.cellAt k (by omega), strV_at _ k (by rw [List.length_append, List.length_take, List.length_replicate]; omega)]; exact ⟨_, rfl⟩
      have e0 := hown.frozenAt k
      obtain ⟨t, ht⟩ : ∃ t, ts.getD k [] = t := ⟨_, rfl⟩
      rw [ht] at ck hst
      have hB3 := hB.setCell (p := ⟨w.heap.size, k, none⟩) (Nat.le_refl _) (.string ⟨t.toArray⟩)
      clear hcells ht hown
      go_wp2
      go_roundw
      case rel => exact ⟨k + 1, by omega, by go_num, hst, hB3⟩
      case measure => simp [intOf]; omega
    · have hd : ts.take k ++ List.replicate (ts.length - k) [] = ts := by rw [List.take_of_length_le (by omega), show ts.length - k = 0 by omega]; simp
      rw [hd] at hown
      clear hd
      go_wp2
      go_ret
      exact ⟨_, rfl, hown, by simp, hB⟩

end Go.Proofs.YtdjglpcllcjcfaaDoor

/-! The laws' own helpers over functions and packages: szFunc, szFuncS, szPackage, eqFunc, eqFuncS, eqStringS, eqPackage. -/
namespace Go.Proofs.YtdjglpcllcjcfaaDoor
open Go.RowKit

def szM (m : Nat) (left : Int) : Int := if (m : Int) ≤ left then left - (m : Int) else -1
theorem szM_yes {m : Nat} {left : Int} (h : (m : Int) ≤ left) : szM m left = left - (m : Int) := by unfold szM; rw [if_pos h]
theorem szM_no {m : Nat} {left : Int} (h : ¬ (m : Int) ≤ left) : szM m left = -1 := by unfold szM; rw [if_neg h]

def fnSz (f : Fn) : Nat := f.1.length + (f.2.2.length + textsN f.2.2)
def fnsSz : List Fn → Nat
  | [] => 0
  | f :: r => fnSz f + fnsSz r
theorem fnsSz_append (x y : List Fn) : fnsSz (x ++ y) = fnsSz x + fnsSz y := by
  induction x with
  | nil => simp [fnsSz]
  | cons n r ih => simp only [List.cons_append, fnsSz, ih]; omega
theorem fnsSz_snoc (fs : List Fn) (k : Nat) (hk : k < fs.length) : fnsSz (fs.take (k + 1)) = fnsSz (fs.take k) + fnSz (fs.getD k fn0) := by
  have hg : fs.getD k fn0 = fs[k] := by simp [List.getD, hk]
  rw [hg, List.take_succ_eq_append_getElem hk, fnsSz_append]
  simp [fnsSz]
theorem fnsSz_take (fs : List Fn) (k : Nat) : fnsSz (fs.take k) ≤ fnsSz fs := by
  have := fnsSz_append (fs.take k) (fs.drop k)
  rw [List.take_append_drop] at this
  omega
theorem fnsSz_at (fs : List Fn) (j : Nat) : fnSz (fs.getD j fn0) ≤ fnsSz fs := by
  by_cases hj : j < fs.length
  · have h1 := fnsSz_snoc fs j hj
    have h2 := fnsSz_take fs (j + 1)
    omega
  · have : fs.getD j fn0 = fn0 := by rw [List.getD, List.getElem?_eq_none (by omega)]; rfl
    rw [this]; simp [fn0, fnSz, textsN]

/-- How much a package has in all. -/
def pkSz (nm : List UInt8) (ims : List (List UInt8)) (fs : List Fn) : Nat := nm.length + (ims.length + joinN ims) + (fs.length + fnsSz fs)

def LongF (fs : List Fn) : Prop := ∀ j, (fs.getD j fn0).1.length ≤ maxLen ∧ (fs.getD j fn0).2.2.length ≤ maxLen ∧ LongT (fs.getD j fn0).2.2

theorem shortF_of {fs : List Fn} (h : fnsSz fs ≤ 1048576) : ShortF fs := fun j => by
  have h1 := fnsSz_at fs j
  unfold fnSz at h1
  exact ⟨by omega, by omega, short_of (by omega)⟩

set_option maxHeartbeats 1000000 in
set_option maxRecDepth 100000 in
theorem szFuncC (s : List UInt8) (n : Int) (t : List Nd) (ta : Option Addr) (tl tc : Nat) (left : Int) (w : World) (hin : NodesIn w ta tl t) (h0 : 0 ≤ left) (h1 : left ≤ 1048576) (hs : s.length ≤ maxLen) (ht : t.length ≤ maxLen) (hm : LongT t) :
    Calls Tryd.prog 62 #[.agg #[.string ⟨s.toArray⟩, .int .i64 n, .slice ta tl tc], .int .i64 left] w fun e w' => e = .returned (.int .i64 (szM (fnSz (s, n, t)) left)) ∧ Below w.heap.size w w' := by
  obtain rfl : t.length = tl := hin.1
  unfold maxLen at hs
  have hs2 : (s.length : Int) ≤ 9223372036854775807 := by omega
  obtain ⟨W, hW⟩ : ∃ W, w.alloc (.cells #[.string ⟨s.toArray⟩, .int .i64 n, .slice ta t.length tc] 96) = W := ⟨_, rfl⟩
  have hbW : Below w.heap.size w W := by rw [← hW]; exact (Below.refl _ _).alloc (Nat.le_refl _) _
  have hA : W.heap[w.heap.size]? = some (.cells #[.string ⟨s.toArray⟩, .int .i64 n, .slice ta t.length tc] 96) := by rw [← hW]; exact heap_alloc_new w _
  have k0 : W.cell? ⟨w.heap.size, 0, none⟩ = some (.string ⟨s.toArray⟩) := by simp [World.cell?, hA]
  have k2 : W.cell? ⟨w.heap.size, 2, none⟩ = some (.slice ta t.length tc) := by simp [World.cell?, hA]
  have hinW := hin.below hbW
  clear hin hA
  by_cases hfit : (s.length : Int) ≤ left
  · have HC := szNodeSC ta t.length tc t (left - (s.length : Int)) W hinW (by omega) (by omega) ht hm
    by_cases hfit2 : (t.length : Int) + (textsN t : Int) ≤ left - (s.length : Int)
    · have HZ : Hid (szN t.length (textsN t) (left - (s.length : Int)) = szM (fnSz (s, n, t)) left) := by exact (by rw [szN_yes hfit2, szM_yes (by unfold fnSz; simp only; omega)]; unfold fnSz; simp only; omega : szN t.length (textsN t) (left - (s.length : Int)) = szM (fnSz (s, n, t)) left)
      have hge : 0 ≤ szM (fnSz (s, n, t)) left := by rw [← HZ.out, szN_yes hfit2]; omega
      have hge2 : 0 ≤ left - (s.length : Int) := by omega
      rw [HZ.out] at HC
      generalize szM (fnSz (s, n, t)) left = z at HC hge ⊢
      clear HZ
      go_enter Tryd.func62, Tryd.ntmps62
      go_wp2_with fail
      refine HC.mono ?_
      rintro e w1 ⟨rfl, hb1⟩
      have hb : Below w.heap.size w w1 := hbW.trans (hb1.mono hbW.size)
      clear HC hb1
      go_wp2
      go_ret
      exact ⟨rfl, hb⟩
    · have HZ : Hid (szN t.length (textsN t) (left - (s.length : Int)) = -1) := szN_no hfit2
      have HR : Hid (szM (fnSz (s, n, t)) left = -1) := szM_no (by unfold fnSz; simp only; omega)
      have hge2 : 0 ≤ left - (s.length : Int) := by omega
      rw [HZ.out] at HC
      go_enter Tryd.func62, Tryd.ntmps62
      go_wp2_with fail
      refine HC.mono ?_
      rintro e w1 ⟨rfl, hb1⟩
      have hb : Below w.heap.size w w1 := hbW.trans (hb1.mono hbW.size)
      clear HC hb1
      go_wp2
      go_ret
      exact ⟨by rw [HR.out]; rfl, hb⟩
  · have HR : Hid (szM (fnSz (s, n, t)) left = -1) := szM_no (by unfold fnSz; simp only; omega)
    have hlt : left - (s.length : Int) < 0 := by omega
    go_enter Tryd.func62, Tryd.ntmps62
    go_wp2
    go_ret
    exact ⟨by rw [HR.out]; rfl, hbW⟩

set_option maxHeartbeats 2000000 in
set_option maxRecDepth 100000 in
theorem szFuncSC (a : Option Addr) (len cap : Nat) (fs : List Fn) (left : Int) (w : World) (hin : FuncsIn w a len fs) (h0 : 0 ≤ left) (h1 : left ≤ 1048576) (hl : len ≤ maxLen) (hm : LongF fs) :
    Calls Tryd.prog 38 #[.slice a len cap, .int .i64 left] w fun e w' => e = .returned (.int .i64 (szM (len + fnsSz fs) left)) ∧ Below w.heap.size w w' := by
  unfold maxLen at hl
  have hl2 : (len : Int) ≤ 9223372036854775807 := by omega
  have hlb := hin.1
  by_cases h : (len : Int) ≤ left
  · have hlen : len ≤ 1048576 := by omega
    have HI : Hid (FuncsIn w a len fs) := hin
    have HM : Hid (LongF fs) := hm
    clear hin hm
    go_enter Tryd.func38, Tryd.ntmps38
    go_wp2
    go_loopw [1, 5] (fun l i wr => ∃ k : Nat, k ≤ len ∧ i = .int .i64 k ∧ l = .int .i64 (left - (len : Int) - (fnsSz (fs.take k) : Int)) ∧ (fnsSz (fs.take k) : Int) ≤ left - (len : Int) ∧ Below w.heap.size w wr) (fun _ i _ => len - (intOf i).toNat)
    case atStart => exact ⟨0, Nat.zero_le _, rfl, by simp [fnsSz], by simp [fnsSz]; omega, Below.refl _ _⟩
    case round =>
      obtain ⟨k, hk, rfl, rfl, hle, hB⟩ := hrel
      by_cases hkl : (k : Int) < (len : Int)
      · obtain ⟨b, off, rfl, hbl, c0, c1, ta, tl, tc, c2, hnc, hnin⟩ := (HI.out.below hB).2 k (by omega)
        have hmk := HM.out k
        have hst := fnsSz_snoc fs k (by omega)
        have htt := fnsSz_take fs (k + 1)
        obtain ⟨f, hf⟩ : ∃ f, fs.getD k fn0 = f := ⟨_, rfl⟩
        rw [hf] at c0 c1 hmk hst hnin
        obtain ⟨s, n, t⟩ := f
        simp only at c0 c1 hmk hnin
        obtain ⟨m, hmm⟩ : ∃ m, fnsSz (fs.take k) = m := ⟨_, rfl⟩
        rw [hmm] at hle hst ⊢
        obtain ⟨z, hz⟩ : ∃ z, fnSz (s, n, t) = z := ⟨_, rfl⟩
        have HC := szFuncC s n t ta tl tc (left - (len : Int) - (m : Int)) wr hnin (by omega) (by omega) hmk.1 hmk.2.1 hmk.2.2
        rw [hz] at hst HC
        have HS : Hid (fnsSz (fs.take (k + 1)) = m + z) := hst
        clear hst hf hmm hz hnin hnc
        by_cases hfit : (z : Int) ≤ left - (len : Int) - (m : Int)
        · have HZ : Hid (szM z (left - (len : Int) - (m : Int)) = left - (len : Int) - (fnsSz (fs.take (k + 1)) : Int)) := by
            exact (by rw [HS.out, szM_yes (by omega)]; omega : szM z (left - (len : Int) - (m : Int)) = left - (len : Int) - (fnsSz (fs.take (k + 1)) : Int))
          rw [HZ.out] at HC
          go_wp2_with fail
          refine HC.mono ?_
          rintro e w1 ⟨rfl, hb1⟩
          have hle2 : (fnsSz (fs.take (k + 1)) : Int) ≤ left - (len : Int) := by rw [HS.out]; omega
          have hge : (0 : Int) ≤ left - (len : Int) - (fnsSz (fs.take (k + 1)) : Int) := by omega
          clear HC
          go_wp2
          go_roundw
          case rel => exact ⟨k + 1, by omega, by go_num, rfl, hle2, hB.trans (hb1.mono hB.size)⟩
          case measure => simp [intOf]; omega
        · have HZ : Hid (szM z (left - (len : Int) - (m : Int)) = -1) := szM_no (by omega)
          have HR : Hid (szM (len + fnsSz fs) left = -1) := szM_no (by have := HS.out; omega)
          rw [HZ.out] at HC
          go_wp2_with fail
          refine HC.mono ?_
          rintro e w1 ⟨rfl, hb1⟩
          clear HC
          go_wp2
          go_ret
          exact ⟨by rw [HR.out]; rfl, hB.trans (hb1.mono hB.size)⟩
      · have HT : Hid (fs.take k = fs) := List.take_of_length_le (by omega)
        have HR : Hid (szM (len + fnsSz fs) left = left - (len : Int) - (fnsSz (fs.take k) : Int)) := by exact (by rw [HT.out] at hle ⊢; rw [szM_yes (by omega)]; omega : szM (len + fnsSz fs) left = left - (len : Int) - (fnsSz (fs.take k) : Int))
        go_wp2
        go_ret
        exact ⟨by rw [HR.out]; rfl, hB⟩
  · have HR : Hid (szM (len + fnsSz fs) left = -1) := szM_no (by omega)
    clear hin hm
    go_enter Tryd.func38, Tryd.ntmps38
    go_wp2
    go_ret
    exact ⟨by rw [HR.out]; rfl, Below.refl _ _⟩

set_option maxHeartbeats 2000000 in
set_option maxRecDepth 100000 in
theorem szPackageC (nm : List UInt8) (ia : Option Addr) (il ic : Nat) (fa : Option Addr) (fl fc : Nat) (ims : List (List UInt8)) (fs : List Fn) (left : Int) (w : World) (hi : TextsIn w ia il ims) (hf : FuncsIn w fa fl fs) (h0 : 0 ≤ left) (h1 : left ≤ 1048576) (hnm : nm.length ≤ maxLen) (hil : il ≤ maxLen) (him : ∀ j, (ims.getD j []).length ≤ maxLen) (hfl : fl ≤ maxLen) (hfm : LongF fs) :
    Calls Tryd.prog 16 #[.agg #[.string ⟨nm.toArray⟩, .slice ia il ic, .slice fa fl fc], .int .i64 left] w fun e w' => e = .returned (.int .i64 (szM (pkSz nm ims fs) left)) ∧ Below w.heap.size w w' := by
  obtain rfl : ims.length = il := hi.1
  obtain rfl : fs.length = fl := hf.1
  unfold maxLen at hnm
  have hs2 : (nm.length : Int) ≤ 9223372036854775807 := by omega
  obtain ⟨W, hW⟩ : ∃ W, w.alloc (.cells #[.string ⟨nm.toArray⟩, .slice ia ims.length ic, .slice fa fs.length fc] 48) = W := ⟨_, rfl⟩
  have hbW : Below w.heap.size w W := by rw [← hW]; exact (Below.refl _ _).alloc (Nat.le_refl _) _
  have hA : W.heap[w.heap.size]? = some (.cells #[.string ⟨nm.toArray⟩, .slice ia ims.length ic, .slice fa fs.length fc] 48) := by rw [← hW]; exact heap_alloc_new w _
  have k0 : W.cell? ⟨w.heap.size, 0, none⟩ = some (.string ⟨nm.toArray⟩) := by simp [World.cell?, hA]
  have k1 : W.cell? ⟨w.heap.size, 1, none⟩ = some (.slice ia ims.length ic) := by simp [World.cell?, hA]
  have k2 : W.cell? ⟨w.heap.size, 2, none⟩ = some (.slice fa fs.length fc) := by simp [World.cell?, hA]
  have hlt : w.heap.size < W.heap.size := by rw [← hW]; simp
  have hiW := hi.below hbW
  have hfW := hf.below hbW
  have hpk : pkSz nm ims fs = nm.length + (ims.length + joinN ims) + (fs.length + fnsSz fs) := rfl
  clear hi hf hA
  by_cases hfit : (nm.length : Int) ≤ left
  · have hge1 : 0 ≤ left - (nm.length : Int) := by omega
    have HC := szStringSC ia ims.length ic ims (left - (nm.length : Int)) W hiW (by omega) (by omega) hil him
    by_cases hfit2 : (ims.length : Int) + (joinN ims : Int) ≤ left - (nm.length : Int)
    · rw [szT_yes hfit2] at HC
      have hge2 : 0 ≤ left - (nm.length : Int) - (ims.length : Int) - (joinN ims : Int) := by omega
      have HC2 := szFuncSC fa fs.length fc fs (left - (nm.length : Int) - (ims.length : Int) - (joinN ims : Int)) W hfW (by omega) (by omega) hfl hfm
      by_cases hfit3 : ((fs.length + fnsSz fs : Nat) : Int) ≤ left - (nm.length : Int) - (ims.length : Int) - (joinN ims : Int)
      · have HZ : Hid (szM (fs.length + fnsSz fs) (left - (nm.length : Int) - (ims.length : Int) - (joinN ims : Int)) = szM (pkSz nm ims fs) left) := by exact (by rw [szM_yes hfit3, szM_yes (by rw [hpk]; omega), hpk]; omega : szM (fs.length + fnsSz fs) (left - (nm.length : Int) - (ims.length : Int) - (joinN ims : Int)) = szM (pkSz nm ims fs) left)
        have hge : 0 ≤ szM (pkSz nm ims fs) left := by rw [← HZ.out, szM_yes hfit3]; omega
        rw [HZ.out] at HC2
        generalize szM (pkSz nm ims fs) left = z at HC2 hge ⊢
        generalize left - (nm.length : Int) - (ims.length : Int) - (joinN ims : Int) = y at HC HC2 hge2
        clear HZ hfit3 hfit2
        go_enter Tryd.func16, Tryd.ntmps16
        go_wp2_with fail
        refine HC.mono ?_
        rintro e w1 ⟨rfl, rfl⟩
        go_wp2_with fail
        refine HC2.mono ?_
        rintro e w2 ⟨rfl, hb2⟩
        have hb : Below w.heap.size w w2 := hbW.trans (hb2.mono hbW.size)
        clear HC HC2 hb2
        go_wp2
        go_ret
        exact ⟨rfl, hb⟩
      · have HR : Hid (szM (pkSz nm ims fs) left = -1) := szM_no (by rw [hpk]; omega)
        rw [szM_no hfit3] at HC2
        generalize left - (nm.length : Int) - (ims.length : Int) - (joinN ims : Int) = y at HC HC2 hge2
        clear hfit3 hfit2
        go_enter Tryd.func16, Tryd.ntmps16
        go_wp2_with fail
        refine HC.mono ?_
        rintro e w1 ⟨rfl, rfl⟩
        go_wp2_with fail
        refine HC2.mono ?_
        rintro e w2 ⟨rfl, hb2⟩
        have hb : Below w.heap.size w w2 := hbW.trans (hb2.mono hbW.size)
        clear HC HC2 hb2
        go_wp2
        go_ret
        exact ⟨by rw [HR.out]; rfl, hb⟩
    · have HR : Hid (szM (pkSz nm ims fs) left = -1) := szM_no (by rw [hpk]; omega)
      rw [szT_no hfit2] at HC
      go_enter Tryd.func16, Tryd.ntmps16
      go_wp2_with fail
      refine HC.mono ?_
      rintro e w1 ⟨rfl, rfl⟩
      clear HC
      go_wp2
      go_ret
      exact ⟨by rw [HR.out]; rfl, hbW⟩
  · have HR : Hid (szM (pkSz nm ims fs) left = -1) := szM_no (by rw [hpk]; omega)
    have hlt2 : left - (nm.length : Int) < 0 := by omega
    clear hpk
    go_enter Tryd.func16, Tryd.ntmps16
    go_wp2
    go_ret
    exact ⟨by rw [HR.out]; rfl, hbW⟩

end Go.Proofs.YtdjglpcllcjcfaaDoor
