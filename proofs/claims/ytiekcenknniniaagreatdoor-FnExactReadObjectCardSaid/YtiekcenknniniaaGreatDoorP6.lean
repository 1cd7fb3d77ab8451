/-
  Parts of one proof, one behind the other: Marks2, Marks3, TextsL, NumsL, NodeL, Draw3, DrawW, DrawT, Bend1, Bend2, DrawX, DrawN, NeedS, InsS.
-/
import Derived.Test.YtiekcenknniniaaGreatDoorP5
import Derived.Deep.RegionWith
import Derived.Test.YtiekcenknniniaaGreatDoorP1
import Derived.Test.YtiekcenknniniaaGreatDoorP3
import Derived.SliceStrings
import Derived.ProofKit
import Derived.OpenShut
import Derived.ShutString
import Derived.ChangeOld
import Derived.Below
import Derived.Deep.RegionHeld3
import Derived.Deep.RegionLaw
import Derived.Deep.DrawnRows
import Derived.Test.YtiekcenknniniaaGreatDoorP2
import Derived.Deep.Cut

/-! The contracts of the exact laws' own helpers over lists of texts: eqStringS, markStringS, heldStringS. -/
namespace Go.Proofs.YtiekcenknniniaaGreatDoor
open Go.RowKit

/-- The marks from k on. -/
def marksV (k : Nat) : Nat → List Value
  | 0 => []
  | n + 1 => marksV k n ++ [.string ⟨(markL (k + n)).toArray⟩]

theorem marksV_len (k n : Nat) : (marksV k n).length = n := by
  induction n with
  | zero => rfl
  | succ n ih => simp [marksV, ih]

theorem marksV_at (k n j : Nat) (h : j < n) : (marksV k n)[j]? = some (.string ⟨(markL (k + j)).toArray⟩) := by
  induction n with
  | zero => omega
  | succ n ih =>
    unfold marksV
    by_cases hj : j < n
    · rw [List.getElem?_append_left (by rw [marksV_len]; exact hj)]; exact ih hj
    · obtain rfl : j = n := by omega
      rw [List.getElem?_append_right (by rw [marksV_len]; omega), marksV_len]
      simp

theorem marks_set (k i : Nat) (xs : List Value) (h : i < xs.length) : (marksV k i ++ xs.drop i).set i (.string ⟨(markL (k + i)).toArray⟩) = marksV k (i + 1) ++ xs.drop (i + 1) := by
  rw [List.set_append, if_neg (by rw [marksV_len]; omega), marksV_len, Nat.sub_self]
  rw [List.drop_eq_getElem_cons h, List.set_cons_zero]
  conv => rhs; unfold marksV
  rw [List.append_assoc]; rfl

set_option maxHeartbeats 1000000 in
set_option maxRecDepth 100000 in
theorem markStrC (w : World) (base g cp n k0 : Nat) (xs : List Value) (hn : n ≤ 1100000) (hk0 : 0 < k0) (hk1 : k0 ≤ 800000)
    (h : w.ownsRow base 9 1 (.slice (some ⟨g, 0, none⟩) n cp) n xs) :
    Calls Tryz.prog 48 #[.slice (some ⟨g, 0, none⟩) n cp, .int .i64 k0] w fun e w' => e = .returned (.int .i64 ((k0 + n : Nat) : Int)) ∧ w'.ownsRow base 9 1 (.slice (some ⟨g, 0, none⟩) n cp) n (marksV k0 n) ∧ w.grownBy w' (some g) := by
  have hxl : Hid (xs.length = n) := by exact (by have := h.1; omega : xs.length = n)
  have hgl : g < w.heap.size := (h.lt g rfl).2
  go_enter Tryz.func48, Tryz.ntmps48
  go_wp2
  go_loopw [1, 5] (fun k i wr => ∃ m : Nat, m ≤ n ∧ i = .int .i64 m ∧ k = .int .i64 ((k0 + m : Nat) : Int) ∧ wr.ownsRow base 9 1 (.slice (some ⟨g, 0, none⟩) n cp) n (marksV k0 m ++ xs.drop m) ∧ w.grownBy wr (some g)) (fun _ i _ => n - (intOf i).toNat)
  case atStart => exact ⟨0, Nat.zero_le _, rfl, rfl, h, World.grownBy.refl _ _⟩
  case round =>
    obtain ⟨m, hm, rfl, rfl, hown, hg⟩ := hrel
    by_cases hlt : m < n
    · go_wp2_with fail
      refine (markTextC (k0 + m) _ (by omega) (by omega)).mono ?_
      rintro e w1 ⟨rfl, hg1⟩
      have hown1 := own_none hown hg1
      have hc1 : ∃ u, w1.cell? ⟨g, m, none⟩ = some u := by
        rw [hown1.cellAt m (by omega)]
        have hl : m < (marksV k0 m ++ xs.drop m).length := by rw [List.length_append, marksV_len, List.length_drop]; have := hxl.out; omega
        exact ⟨_, List.getElem?_eq_getElem hl⟩
      obtain ⟨u, hc1⟩ := hc1
      have hf1 := hown1.frozenAt m
      have hst := hown1.stored m (.string ⟨(markL (k0 + m)).toArray⟩)
      rw [marks_set k0 m xs (by have := hxl.out; omega)] at hst
      have hg2 : w.grownBy w1 (some g) := hg.andThen hg1 (by simp)
      have hst2 := hg2.trans hst.2
      have hst1 := hst.1
      clear hown hown1 hg1 hst hg2 hg
      go_wp2
      go_roundw
      case rel => exact ⟨m + 1, by omega, by go_num, by go_num, hst1, hst2⟩
      case measure => simp [intOf]; omega
    · obtain rfl : m = n := by omega
      have hd : xs.drop m = [] := List.drop_eq_nil_of_le (by have := hxl.out; omega)
      rw [hd, List.append_nil] at hown
      clear hd
      go_wp2
      go_ret
      exact ⟨rfl, hown, hg⟩

set_option maxHeartbeats 1000000 in
set_option maxRecDepth 100000 in
theorem heldStrC (w : World) (base g cp n k0 : Nat) (hn : n ≤ 1100000) (hk0 : 0 < k0) (hk1 : k0 ≤ 800000)
    (h : w.ownsRow base 9 1 (.slice (some ⟨g, 0, none⟩) n cp) n (marksV k0 n)) :
    Calls Tryz.prog 50 #[.slice (some ⟨g, 0, none⟩) n cp, .int .i64 k0] w fun e w' => e = .returned (.int .i64 ((k0 + n : Nat) : Int)) ∧ w.grownBy w' none := by
  have hself : ∀ l : List UInt8, (l != l) = false := by simp
  have HA : Hid (∀ j, j < n → w.cell? ⟨g, j, none⟩ = some (.string ⟨(markL (k0 + j)).toArray⟩)) := fun j hj => by rw [h.cellAt j (by omega), marksV_at k0 n j hj]
  clear h
  go_enter Tryz.func50, Tryz.ntmps50
  go_wp2
  go_loopw [1, 5] (fun k i wr => ∃ m : Nat, m ≤ n ∧ i = .int .i64 m ∧ k = .int .i64 ((k0 + m : Nat) : Int) ∧ w.grownBy wr none) (fun _ i _ => n - (intOf i).toNat)
  case atStart => exact ⟨0, Nat.zero_le _, rfl, rfl, World.grownBy.refl _ _⟩
  case round =>
    obtain ⟨m, hm, rfl, rfl, hg⟩ := hrel
    by_cases hlt : m < n
    · have hca : wr.cell? ⟨g, m, none⟩ = some (.string ⟨(markL (k0 + m)).toArray⟩) := hg.cell (HA.out m hlt) (by simp)
      go_wp2
      go_region_with (go_at_call 85; refine (markTextC (k0 + m) _ (by omega) (by omega)).mono ?_; rintro e w1 ⟨rfl, hg1⟩; have hca1 := hg1.cell (a := ⟨g, m, none⟩) hca (by simp))
      all_goals (try go_wp2)
      all_goals
        go_roundw
        case rel => exact ⟨m + 1, by omega, by go_num, by go_num, by first | exact hg.trans hg1 | exact (hg.trans (grown_drew _ _)).trans hg1⟩
        case measure => simp [intOf]; omega
    · obtain rfl : m = n := by omega
      go_wp2
      go_ret
      exact ⟨rfl, hg⟩

end Go.Proofs.YtiekcenknniniaaGreatDoor

/-! The helpers over lists of texts, whatever the list's value: nil, empty or not. -/
namespace Go.Proofs.YtiekcenknniniaaGreatDoor
open Go.RowKit

set_option maxHeartbeats 400000 in
set_option maxRecDepth 100000 in
theorem markStrNil (w : World) (k0 : Nat) :
    Calls Tryz.prog 48 #[.slice none 0 0, .int .i64 k0] w fun e w' => e = .returned (.int .i64 (k0 : Int)) ∧ w' = w := by
  go_enter Tryz.func48, Tryz.ntmps48
  go_wp2
  refine wp_loop_rounds 1 ?_
  rw [rounds_succ]
  go_wp2
  go_ret
  exact ⟨rfl, rfl⟩

theorem markStrV (w : World) (base n k0 : Nat) (v : Value) (xs : List Value) (hn : n ≤ 1100000) (hk0 : 0 < k0) (hk1 : k0 ≤ 800000) (h : w.ownsRow base 9 1 v n xs) :
    Calls Tryz.prog 48 #[v, .int .i64 k0] w fun e w' => e = .returned (.int .i64 ((k0 + n : Nat) : Int)) ∧ w'.ownsRow base 9 1 v n (marksV k0 n) ∧ w.grownBy w' v.ownBlock := by
  rcases own_forms h with ⟨rfl, rfl, rfl⟩ | ⟨g, cp, rfl⟩
  · refine (markStrNil w k0).mono ?_
    rintro e w' ⟨rfl, rfl⟩
    exact ⟨rfl, h, World.grownBy.refl _ _⟩
  · exact markStrC w base g cp n k0 xs hn hk0 hk1 h

set_option maxHeartbeats 400000 in
set_option maxRecDepth 100000 in
theorem heldStrNil (w : World) (k0 : Nat) :
    Calls Tryz.prog 50 #[.slice none 0 0, .int .i64 k0] w fun e w' => e = .returned (.int .i64 (k0 : Int)) ∧ w' = w := by
  go_enter Tryz.func50, Tryz.ntmps50
  go_wp2
  refine wp_loop_rounds 1 ?_
  rw [rounds_succ]
  go_wp2
  go_ret
  exact ⟨rfl, rfl⟩

theorem heldStrV (w : World) (base n k0 : Nat) (v : Value) (hn : n ≤ 1100000) (hk0 : 0 < k0) (hk1 : k0 ≤ 800000) (h : w.ownsRow base 9 1 v n (marksV k0 n)) :
    Calls Tryz.prog 50 #[v, .int .i64 k0] w fun e w' => e = .returned (.int .i64 ((k0 + n : Nat) : Int)) ∧ w.grownBy w' none := by
  rcases own_forms h with ⟨rfl, rfl, _⟩ | ⟨g, cp, rfl⟩
  · refine (heldStrNil w k0).mono ?_
    rintro e w' ⟨rfl, rfl⟩
    exact ⟨rfl, World.grownBy.refl _ _⟩
  · exact heldStrC w base g cp n k0 hn hk0 hk1 h

end Go.Proofs.YtiekcenknniniaaGreatDoor

/-! A list of texts that came in, as the walks take it; the exact laws' helpers over such lists: szStringS, toStringS. -/
namespace Go.Proofs.YtiekcenknniniaaGreatDoor
open Go.ChangeShapes Go.WideShapes Go.ChangeAt Go.RowKit

def szT (m n : Nat) (left : Int) : Int := if (m : Int) + (n : Int) ≤ left then left - (m : Int) - (n : Int) else -1
theorem szT_yes {m n : Nat} {left : Int} (h : (m : Int) + (n : Int) ≤ left) : szT m n left = left - (m : Int) - (n : Int) := by unfold szT; rw [if_pos h]
theorem szT_no {m n : Nat} {left : Int} (h : ¬ (m : Int) + (n : Int) ≤ left) : szT m n left = -1 := by unfold szT; rw [if_neg h]

/-- How many bytes in all. -/
def joinN (ts : List (List UInt8)) : Nat := ts.flatten.length

theorem joinN_snoc (ts : List (List UInt8)) (k : Nat) (hk : k < ts.length) : joinN (ts.take (k + 1)) = joinN (ts.take k) + (ts.getD k []).length := by
  have := congrArg List.length (flat_snoc ts k hk)
  rw [List.length_append] at this
  exact this

theorem joinN_take (ts : List (List UInt8)) (k : Nat) : joinN (ts.take k) ≤ joinN ts := flat_take ts k

set_option maxHeartbeats 1000000 in
set_option maxRecDepth 100000 in
theorem szStringSC (a : Option Addr) (len cap : Nat) (ts : List (List UInt8)) (left : Int) (w : World) (hin : TextsIn w a len ts) (h0 : 0 ≤ left) (h1 : left ≤ 1048576) (hl : len ≤ maxLen) (hm : ∀ j, (ts.getD j []).length ≤ maxLen) :
    Calls Tryz.prog 31 #[.slice a len cap, .int .i64 left] w fun e w' => e = .returned (.int .i64 (szT len (joinN ts) left)) ∧ w' = w := by
  unfold maxLen at hl
  have hl2 : (len : Int) ≤ 9223372036854775807 := by omega
  have hlb := hin.1
  by_cases h : (len : Int) ≤ left
  · have hlen : len ≤ 1048576 := by omega
    have HI : Hid (TextsIn w a len ts) := hin
    have HM : Hid (∀ j, (ts.getD j []).length ≤ maxLen) := hm
    clear hin hm
    go_enter Tryz.func31, Tryz.ntmps31
    go_wp2
    go_loop [1, 5] (fun l i => ∃ k : Nat, k ≤ len ∧ i = .int .i64 k ∧ l = .int .i64 (left - (len : Int) - (joinN (ts.take k) : Int)) ∧ (joinN (ts.take k) : Int) ≤ left - (len : Int)) (fun _ i => len - (intOf i).toNat)
    case atStart => exact ⟨0, Nat.zero_le _, rfl, by simp [joinN], by simp [joinN]; omega⟩
    case round =>
      obtain ⟨k, hk, rfl, rfl, hle⟩ := hrel
      by_cases hkl : (k : Int) < (len : Int)
      · obtain ⟨b, off, rfl, hbl, hcells⟩ := HI.out.at (by omega)
        have ck := hcells k (by omega)
        have hmk := HM.out k
        have hfs := joinN_snoc ts k (by omega)
        have hft := joinN_take ts (k + 1)
        obtain ⟨t, ht⟩ : ∃ t, ts.getD k [] = t := ⟨_, rfl⟩
        rw [ht] at ck hmk hfs
        unfold maxLen at hmk
        have hmk2 : (t.length : Int) ≤ 9223372036854775807 := by omega
        obtain ⟨m, hmm⟩ : ∃ m, joinN (ts.take k) = m := ⟨_, rfl⟩
        have HS : Hid (joinN (ts.take (k + 1)) = m + t.length) := by rw [← hmm]; exact hfs
        rw [hmm] at hle ⊢
        clear hcells ht hfs
        by_cases hfit : (t.length : Int) ≤ left - (len : Int) - (m : Int)
        · have hge : (0 : Int) ≤ left - (len : Int) - (m : Int) - (t.length : Int) := by omega
          have HR : Hid ((joinN (ts.take (k + 1)) : Int) ≤ left - (len : Int) ∧ left - (len : Int) - (joinN (ts.take (k + 1)) : Int) = left - (len : Int) - (m : Int) - (t.length : Int)) := by
            exact (by rw [HS.out]; omega : (joinN (ts.take (k + 1)) : Int) ≤ left - (len : Int) ∧ left - (len : Int) - (joinN (ts.take (k + 1)) : Int) = left - (len : Int) - (m : Int) - (t.length : Int))
          clear hmm hft
          go_wp2
          go_round
          case rel => exact ⟨k + 1, by omega, by go_num, by rw [HR.out.2], HR.out.1⟩
          case measure => simp [intOf]; omega
        · have HR : Hid (szT len (joinN ts) left = -1) := szT_no (by have := HS.out; omega)
          have hlt : left - (len : Int) - (m : Int) - (t.length : Int) < 0 := by omega
          clear hmm hft
          go_wp2
          go_ret
          exact ⟨by rw [HR.out]; rfl, rfl⟩
      · have HT : Hid (ts.take k = ts) := List.take_of_length_le (by omega)
        have HR : Hid (szT len (joinN ts) left = left - (len : Int) - (joinN (ts.take k) : Int)) := by exact (by rw [HT.out] at hle ⊢; exact szT_yes (by omega) : szT len (joinN ts) left = left - (len : Int) - (joinN (ts.take k) : Int))
        go_wp2
        go_ret
        exact ⟨by rw [HR.out]; rfl, rfl⟩
  · have HR : Hid (szT len (joinN ts) left = -1) := szT_no (by omega)
    clear hin hm
    go_enter Tryz.func31, Tryz.ntmps31
    go_wp2
    go_ret
    exact ⟨by rw [HR.out]; rfl, rfl⟩

theorem made_texts (n : Nat) : (madeCells (Value.cells (.string ⟨#[]⟩)) (n * 1)).toList = strV (List.replicate n []) := by
  have hc : Value.cells (.string ⟨#[]⟩) = #[.string ⟨#[]⟩] := rfl
  rw [hc, Nat.mul_one]
  apply List.ext_getElem?
  intro j
  by_cases hj : j < n
  · rw [strV_at _ j (by simpa using hj)]
    simp [madeCells, hj, Nat.mod_one]
  · rw [List.getElem?_eq_none (by simp [madeCells]; omega), List.getElem?_eq_none (by rw [strV_len]; simp; omega)]

theorem fill_text (ts : List (List UInt8)) (k : Nat) (hk : k < ts.length) : (strV (ts.take k ++ List.replicate (ts.length - k) [])).set k (.string ⟨(ts.getD k []).toArray⟩) = strV (ts.take (k + 1) ++ List.replicate (ts.length - (k + 1)) []) := by
  have hg : ts.getD k [] = ts[k] := by simp [List.getD, hk]
  have e : (ts.take k ++ List.replicate (ts.length - k) []).set k ts[k] = ts.take (k + 1) ++ List.replicate (ts.length - (k + 1)) [] := by
    rw [List.set_append_right _ _ (by rw [List.length_take]; omega), List.length_take, Nat.min_eq_left (by omega), Nat.sub_self, show ts.length - k = (ts.length - (k + 1)) + 1 by omega, List.replicate_succ, List.set_cons_zero, List.take_succ_eq_append_getElem hk, List.append_assoc]
    rfl
  rw [hg, ← e]
  unfold strV
  rw [List.map_set]

set_option maxHeartbeats 2000000 in
set_option maxRecDepth 100000 in
theorem toStringSC (a : Option Addr) (len cap : Nat) (ts : List (List UInt8)) (w : World) (hin : TextsIn w a len ts) (hlen : len ≤ 1048576) :
    Calls Tryz.prog 35 #[.slice a len cap] w fun e w' => ∃ v, e = .returned v ∧ w'.ownsRow w.heap.size 9 1 v len (strV ts) ∧ v ≠ .slice none 0 0 ∧ Below w.heap.size w w' := by
  obtain ⟨i0, hi, hz0, hz1, hz2⟩ := info_parts info9
  have hlb := hin.1
  have HI : Hid (TextsIn w a len ts) := hin
  clear hin
  go_enter Tryz.func35, Tryz.ntmps35
  go_wp2_with (at_make; refine wpList_make_full _ rfl _ _ 22 rfl w.heap.size 9 i0 _ 1 Tryz.underlying22 hi hz0 hz1 .i64 .i64 _ _ len rfl rfl rfl rfl (by rw [hz2]; omega) (by unfold maxLen; omega) (Nat.le_refl _) ?_; intro w1 hown1 hgrow1)
  rw [made_texts] at hown1
  have hB1 : Below w.heap.size w w1 := (Below.refl _ _).grown hgrow1 (Nat.le_refl _) (by simp)
  clear hgrow1
  go_loopw [4] (fun i wr => ∃ k : Nat, k ≤ len ∧ i = .int .i64 k ∧ wr.ownsRow w.heap.size 9 1 (.slice (some ⟨w.heap.size, 0, none⟩) len len) len (strV (ts.take k ++ List.replicate (ts.length - k) [])) ∧ Below w.heap.size w wr) (fun i _ => len - (intOf i).toNat)
  case atStart => exact ⟨0, Nat.zero_le _, rfl, by simpa [hlb] using hown1, hB1⟩
  case round =>
    obtain ⟨k, hk, rfl, hown, hB⟩ := hrel
    clear hown1 hB1
    by_cases hkl : (k : Int) < (len : Int)
    · obtain ⟨b, off, rfl, hbl, hcells⟩ := (HI.out.below hB).at (by omega)
      have ck := hcells k (by omega)
      have hst := (hown.stored k (.string ⟨(ts.getD k []).toArray⟩)).1
      rw [fill_text ts k (by omega)] at hst
      obtain ⟨u0, d0⟩ : ∃ u, wr.cell? ⟨w.heap.size, k, none⟩ = some u := by
        rw [hown.cellAt k (by omega), strV_at _ k (by rw [List.length_append, List.length_take, List.length_replicate]; omega)]; exact ⟨_, rfl⟩
      have e0 := hown.frozenAt k
      obtain ⟨t, ht⟩ : ∃ t, ts.getD k [] = t := ⟨_, rfl⟩
      rw [ht] at ck hst
      have hB3 := hB.setCell (p := ⟨w.heap.size, k, none⟩) (Nat.le_refl _) (.string ⟨t.toArray⟩)
      clear hcells ht hown
      go_wp2
      go_roundw
      case rel => exact ⟨k + 1, by omega, by go_num, hst, hB3⟩
      case measure => simp [intOf]; omega
    · have hd : ts.take k ++ List.replicate (ts.length - k) [] = ts := by rw [List.take_of_length_le (by omega), show ts.length - k = 0 by omega]; simp
      rw [hd] at hown
      clear hd
      go_wp2
      go_ret
      exact ⟨_, rfl, hown, by simp, hB⟩

end Go.Proofs.YtiekcenknniniaaGreatDoor

/-! Numbers that came in, as the walks of chapter 10's laws take them; the exact laws' helper over such rows: toInt64S. -/
namespace Go.Proofs.YtiekcenknniniaaGreatDoor
open Go.ChangeShapes Go.WideShapes Go.ChangeAt Go.RowKit

/-- Numbers that can be read. -/
def AsIn (w : World) (a : Option Addr) (xs : List Int) : Prop := ∀ j, j < xs.length → ∃ b off, a = some ⟨b, off, none⟩ ∧ b < w.heap.size ∧ w.cell? ⟨b, off + j, none⟩ = some (.int .i64 (xs.getD j 0))
theorem AsIn.below {w w' : World} {a : Option Addr} {xs : List Int} (h : AsIn w a xs) (hb : Below w.heap.size w w') : AsIn w' a xs := fun j hj => by
  obtain ⟨b, off, e, hl, hc⟩ := h j hj
  exact ⟨b, off, e, Nat.lt_of_lt_of_le hl hb.size, (hb.cell (p := ⟨b, off + j, none⟩) hl).trans hc⟩

end Go.Proofs.YtiekcenknniniaaGreatDoor

/-! The laws' own helpers over nodes and rows of nodes: szNode, szNodeS, toNode, toNodeS, eqNode, eqNodeS. -/
namespace Go.Proofs.YtiekcenknniniaaGreatDoor
open Go.RowKit

/-- How many bytes the texts of nodes have in all. -/
def textsN : List Nd → Nat
  | [] => 0
  | n :: r => n.2.2.1.length + n.2.2.2.length + textsN r
def szN (m n : Nat) (left : Int) : Int := if (m : Int) + (n : Int) ≤ left then left - (m : Int) - (n : Int) else -1
theorem szN_yes {m n : Nat} {left : Int} (h : (m : Int) + (n : Int) ≤ left) : szN m n left = left - (m : Int) - (n : Int) := by unfold szN; rw [if_pos h]
theorem szN_no {m n : Nat} {left : Int} (h : ¬ (m : Int) + (n : Int) ≤ left) : szN m n left = -1 := by unfold szN; rw [if_neg h]

/-- A node's numbers are numbers of 64 bits. -/
def IntN (n : Nd) : Prop := (-9223372036854775808 ≤ n.1 ∧ n.1 ≤ 9223372036854775807) ∧ (-9223372036854775808 ≤ n.2.1 ∧ n.2.1 ≤ 9223372036854775807)
def IntT (ns : List Nd) : Prop := ∀ j, IntN (ns.getD j nd0)
theorem intN_nd0 : IntN nd0 := by unfold IntN nd0; decide
theorem IntT.nil : IntT [] := fun j => by rw [show ([] : List Nd).getD j nd0 = nd0 by simp]; exact intN_nd0
def LongT (ns : List Nd) : Prop := ∀ j, (ns.getD j nd0).2.2.1.length ≤ maxLen ∧ (ns.getD j nd0).2.2.2.length ≤ maxLen




end Go.Proofs.YtiekcenknniniaaGreatDoor

/-! The contracts of DrawHash and DrawTurned. -/
namespace Go.Proofs.YtiekcenknniniaaGreatDoor
open Go.RowKit


def pick (l : List Int) (x : Int) : Int := l.getD x.toNat 0

end Go.Proofs.YtiekcenknniniaaGreatDoor

/-! Words, and numbers that are none, are drawn. -/
namespace Go.Proofs.YtiekcenknniniaaGreatDoor
open Go.RowKit

end Go.Proofs.YtiekcenknniniaaGreatDoor

/-! A text is drawn. -/
namespace Go.Proofs.YtiekcenknniniaaGreatDoor
open Go.RowKit


end Go.Proofs.YtiekcenknniniaaGreatDoor

/-! What the bending of a text needs: a slice of bytes at the head of a block that is new since the call began, and an append's law at a step of a region that draws its order. -/
namespace Go.Proofs.YtiekcenknniniaaGreatDoor
open Go.RowKit

/-- Block g, new since 'base', holds the bytes l from its head on, and they may be written. -/
structure RowB (w : World) (base g cap : Nat) (l : List UInt8) : Prop where
  new : base ≤ g
  there : g < w.heap.size
  room : l.length ≤ cap
  most : cap ≤ maxLen
  cells : ∀ j (hj : j < l.length), w.cell? ⟨g, j, none⟩ = some (.int .u8 (l[j].toNat : Int))
  free : ∀ j, j < l.length → w.frozen? ⟨g, j, none⟩ = false

theorem RowB.kept {w w' : World} {base g cap : Nat} {l : List UInt8} {row : Option Nat} (h : RowB w base g cap l) (hg : w.grownBy w' row) (hne : some g ≠ row) : RowB w' base g cap l := by
  have hb := hg.block g h.there hne
  exact ⟨h.new, Nat.lt_of_lt_of_le h.there hg.size, h.room, h.most, fun j hj => (World.cell?_of_block hb).trans (h.cells j hj), fun j hj => (World.frozen?_of_block hb).trans (h.free j hj)⟩

theorem RowB.base {w : World} {base base' g cap : Nat} {l : List UInt8} (h : RowB w base g cap l) (hb : base' ≤ base) : RowB w base' g cap l := ⟨Nat.le_trans hb h.new, h.there, h.room, h.most, h.cells, h.free⟩

theorem RowB.of_own {w : World} {base : Nat} {v : Value} {l : List UInt8} (h : w.ownsRow base 5 1 v l.length (bytesV l)) (hv : v ≠ .slice none 0 0) : ∃ g cap, v = .slice (some ⟨g, 0, none⟩) l.length cap ∧ RowB w base g cap l := by
  have hh := h
  obtain ⟨_, ⟨e, _⟩ | ⟨g, cap, cur, rfl, hb, hc, hn, hm, hs, ht⟩⟩ := hh
  · exact absurd e hv
  · refine ⟨g, cap, rfl, hb, (h.lt g rfl).2, hn, hm, ?_, ?_⟩
    · intro j hj
      have hx := World.ownsRow.cellAt h j (by omega)
      rw [hx]; simp [bytesV, List.getElem?_eq_getElem hj]
    · intro j hj
      exact World.ownsRow.frozenAt h j

theorem RowB.back {w : World} {base g cap : Nat} {l : List UInt8} (h : RowB w base g cap l) :
    (convert 111 9 (.slice (some ⟨g, 0, none⟩) l.length cap)).run Tryz.prog w = .ok (.string ⟨l.toArray⟩) w := by
  refine run_convert_bytes_back (P := Tryz.prog) w 111 9 5 ⟨g, 0, none⟩ cap l Tryz.underlying111 Tryz.underlying5 Tryz.underlying9 ?_
  intro j hj
  have e : (⟨g, 0, none⟩ : Addr).add j = ⟨g, j, none⟩ := by unfold Addr.add; split <;> simp_all
  rw [e]; exact h.cells j hj

theorem RowB.store {w : World} {base g cap : Nat} {l : List UInt8} (h : RowB w base g cap l) (k : Nat) (hk : k < l.length) (x : UInt8) : RowB (w.setCell ⟨g, k, none⟩ (.int .u8 (x.toNat : Int))) base g cap (l.set k x) := by
  refine ⟨h.new, by simpa using h.there, by simpa using h.room, h.most, ?_, ?_⟩
  · intro j hj
    have hj' : j < l.length := by simpa using hj
    by_cases e : j = k
    · subst e
      rw [World.cell?_setCell_same _ _ _ (h.cells j hj')]
      simp
    · rw [World.cell?_setCell_other _ _ _ _ (by intro e2; injection e2 with _ e3; exact e e3.symm), h.cells j hj', List.getElem_set_ne (fun e2 => e e2.symm)]
  · intro j hj
    rw [World.frozen?_setCell]; exact h.free j (by simpa using hj)

theorem RowB.drew {w : World} {base g cap : Nat} {l : List UInt8} (h : RowB w base g cap l) : RowB w.drew base g cap l := ⟨h.new, h.there, h.room, h.most, h.cells, h.free⟩

theorem bytesV_at (l : List UInt8) (j : Nat) (u : Value) (h : (bytesV l)[j]? = some u) : ∃ hj : j < l.length, u = .int .u8 (l[j].toNat : Int) := by
  unfold bytesV at h
  rw [List.getElem?_map] at h
  rcases hx : l[j]? with _ | x
  · rw [hx] at h; cases h
  · rw [hx] at h
    obtain ⟨hj, e⟩ := List.getElem?_eq_some_iff.1 hx
    injection h with h
    exact ⟨hj, by rw [e]; exact h.symm⟩

theorem bytesV_len (l : List UInt8) : (bytesV l).length = l.length := by simp [bytesV]

theorem bytesV_one (l : List UInt8) : ∀ u ∈ bytesV l, u.oneCell' = true := by
  intro u hu
  obtain ⟨x, _, rfl⟩ := List.mem_map.1 hu
  rfl

theorem add_plain (b off j : Nat) : (⟨b, off, none⟩ : Addr).add j = ⟨b, off + j, none⟩ := by unfold Addr.add; split <;> simp_all

/-- The cells of b[:k], as an append takes them. -/
theorem RowB.head {w : World} {base g cap : Nat} {l : List UInt8} (h : RowB w base g cap l) (k : Nat) : ∀ j u, (bytesV (l.take k))[j]? = some u → w.cell? ((⟨g, 0, none⟩ : Addr).add j) = some u := by
  intro j u hu
  obtain ⟨hj, rfl⟩ := bytesV_at _ _ _ hu
  have hl : (l.take k).length ≤ l.length := List.length_take_le' _ _
  rw [add_plain, Nat.zero_add, h.cells j (by omega)]
  simp

/-- The cells of b[k:], as an append takes them. -/
theorem RowB.tail {w : World} {base g cap : Nat} {l : List UInt8} (h : RowB w base g cap l) (k : Nat) : ∀ j u, (bytesV (l.drop k))[j]? = some u → w.cell? ((⟨g, k, none⟩ : Addr).add j) = some u := by
  intro j u hu
  obtain ⟨hj, rfl⟩ := bytesV_at _ _ _ hu
  have hj' : k + j < l.length := by rw [List.length_drop] at hj; omega
  rw [add_plain, h.cells (k + j) hj']
  simp

theorem bytesV_append (a b : List UInt8) : bytesV a ++ bytesV b = bytesV (a ++ b) := by simp [bytesV]

end Go.Proofs.YtiekcenknniniaaGreatDoor

/-! The contract of l1Bend: a text that is bent at most twice. -/
namespace Go.Proofs.YtiekcenknniniaaGreatDoor
open Go.RowKit


end Go.Proofs.YtiekcenknniniaaGreatDoor

/-! The contracts of DrawLines, DrawWords, DrawNameOk, DrawNumberOf. -/
namespace Go.Proofs.YtiekcenknniniaaGreatDoor
open Go.RowKit



def pickT (l : List (List UInt8)) (x : Int) : List UInt8 := l.getD x.toNat []

end Go.Proofs.YtiekcenknniniaaGreatDoor

/-! A node is drawn. -/
namespace Go.Proofs.YtiekcenknniniaaGreatDoor
open Go.RowKit

theorem Code.alloc {w : World} {B : Nat} {a : Option Addr} {len : Nat} (h : Code w B a len) (hB : B ≤ w.heap.size) (o : Obj) : Code (w.alloc o) (B + 1) a len := by
  intro j hj
  obtain ⟨b, off, x, e1, e2, e3, e0⟩ := h j hj
  exact ⟨b, off, x, e1, by omega, (World.cell?_of_block (a := ⟨b, off + j, none⟩) (Below.heap_alloc _ _ _ (by show b < _; omega))).trans e3, e0⟩

end Go.Proofs.YtiekcenknniniaaGreatDoor

/-! What the contracts of chapter 12's specification lean on. -/
namespace Go.Proofs.YtiekcenknniniaaGreatDoor
open Go.RowKit

theorem ints_cell {w : World} {B g c n : Nat} {xs : List Int} (h : w.ownsRow B 2 1 (.slice (some ⟨g, 0, none⟩) n c) n (intsV xs)) (j : Nat) (hj : j < xs.length) : w.cell? ⟨g, j, none⟩ = some (.int .i64 (xs.getD j 0)) := by
  have hl := h.1
  rw [intsV_len] at hl
  rw [h.cellAt j (by omega), intsV_at xs j hj]
  simp [List.getD, hj]
end Go.Proofs.YtiekcenknniniaaGreatDoor

/-! The contracts of chapter 13's specification: registers, names, one instruction. -/
namespace Go.Proofs.YtiekcenknniniaaGreatDoor
open Go.RowKit

def insVal (i : In13) : Value := .agg #[.int .i64 i.1, .int .i64 i.2.1, .int .i64 i.2.2.1, .int .i64 i.2.2.2.1, .string ⟨i.2.2.2.2.toArray⟩]
def bad13 (k B : Int) (nm : List UInt8) : Bool := (decide (k ≠ 9) && !nm.isEmpty) || (!(inB k 3 6) && decide (B ≠ 0))
def kind13 (k R A B : Int) (nm : List UInt8) : Bool :=
  if k = 1 then inB R 0 63 && inB A (-2147483648) 2147483647
  else if k = 2 then inB R 0 63 && inB A 0 2
  else if 3 ≤ k ∧ k ≤ 6 then inB R 0 63 && inB A 0 63 && inB B 0 63
  else if k = 7 then inB R 0 63 && inB A 0 199
  else if k = 8 then decide (R = 0) && inB A 0 199
  else if k = 9 then inB R 0 63 && inB A 0 3 && decide (R + A - 1 ≤ 63) && name13 nm
  else if k = 10 then inB R 0 63 && decide (A = 0)
  else false
theorem insB_two (k R A B : Int) (nm : List UInt8) : insB (k, R, A, B, nm) = (!bad13 k B nm && kind13 k R A B nm) := by
  have hnm : nm.isEmpty = decide (nm = []) := by cases nm <;> simp
  rw [Bool.eq_iff_iff]
  unfold insB insP bad13 kind13 inB
  rw [hnm]
  dsimp only
  grind

set_option maxHeartbeats 400000 in
set_option maxRecDepth 100000 in
theorem specReg13 (r : Int) (w : World) : Calls Tryz.prog 160 #[.int .i64 r] w fun e w' => e = .returned (.bool (inB r 0 63)) ∧ w' = w := by
  go_enter Tryz.func160, Tryz.ntmps160
  go_wp2_with (go_at_call 70; refine (specIn _ _ _ _).mono ?_; rintro e w' ⟨rfl, rfl⟩)
  go_ret
  exact ⟨rfl, rfl⟩

set_option maxHeartbeats 1000000 in
set_option maxRecDepth 100000 in
theorem specName13 (s : List UInt8) (w : World) (hl : s.length ≤ 1048576) : Calls Tryz.prog 105 #[.string ⟨s.toArray⟩] w fun e w' => e = .returned (.bool (name13 s)) ∧ Below w.heap.size w w' := by
  obtain ⟨ws, hws⟩ : ∃ ws, splitL 46 s = ws := ⟨_, rfl⟩
  have HW : Hid (splitL 46 s = ws) := hws
  have hfl := splitGo_flat 46 s []
  have hwl : ∀ j, (ws.getD j []).length ≤ 1048576 := fun j => by
    rw [← hws]
    by_cases hj : j < (splitL 46 s).length
    · have hm : (splitL 46 s).getD j [] ∈ splitL 46 s := by simp [List.getD, hj]
      have h1 : ((splitL 46 s).getD j []).length ≤ (splitL 46 s).flatten.length := (List.sublist_flatten_of_mem hm).length_le
      have h2 : (splitL 46 s).flatten.length ≤ 0 + s.length := hfl
      omega
    · simp [List.getD, hj]
  have hN : name13 s = (decide (ws.length = 2) && nameB (ws.getD 0 []) && nameB (ws.getD 1 [])) := by unfold name13; rw [hws]; congr 1
  rw [hN]
  by_cases h2 : ws.length = 2
  · have hd : decide (ws.length = 2) = true := decide_eq_true h2
    rw [hd]
    obtain ⟨x, hx⟩ : ∃ x, ws.getD 0 [] = x := ⟨_, rfl⟩
    obtain ⟨y, hy⟩ : ∃ y, ws.getD 1 [] = y := ⟨_, rfl⟩
    have hw0 := hwl 0
    have hw1 := hwl 1
    have HX : Hid (ws.getD 0 [] = x ∧ ws.getD 1 [] = y) := ⟨hx, hy⟩
    rw [hx] at hw0 ⊢
    rw [hy] at hw1 ⊢
    have HP : Hid (_) := fun W : World => specNameOk x W hw0
    have HQ : Hid (_) := fun W : World => specNameOk y W hw1
    obtain ⟨nx, hnx⟩ : ∃ b, nameB x = b := ⟨_, rfl⟩
    obtain ⟨ny, hny⟩ : ∃ b, nameB y = b := ⟨_, rfl⟩
    rw [hnx] at HP ⊢
    rw [hny] at HQ ⊢
    clear hx hy hnx hny
    have H2 : Hid (ws.length = 2) := h2
    clear hN hws hfl hwl h2 hd
    go_enter Tryz.func105, Tryz.ntmps105
    go_wp2_with fail
    refine (specSplit s 46 46 _ (by rfl) hl).mono ?_
    rintro e w1 ⟨g, cp, rfl, hown, hb1⟩
    rw [HW.out] at hown ⊢
    rw [H2.out] at hown ⊢
    have c0 := str_cellsD hown H2.out 0 (by omega)
    have c1 := str_cellsD hown H2.out 1 (by omega)
    rw [HX.out.1] at c0
    rw [HX.out.2] at c1
    clear hown
    rcases nx with _ | _
    · go_wp2_with fail
      refine Calls.mono (HP.out _) ?_
      rintro e w2 ⟨rfl, rfl⟩
      go_wp2
      go_ret
      exact ⟨rfl, hb1⟩
    · go_wp2_with fail
      refine Calls.mono (HP.out _) ?_
      rintro e w2 ⟨rfl, rfl⟩
      go_wp2_with fail
      refine Calls.mono (HQ.out _) ?_
      rintro e w3 ⟨rfl, rfl⟩
      go_wp2
      go_ret
      exact ⟨rfl, hb1⟩
  · have hd : decide (ws.length = 2) = false := decide_eq_false h2
    rw [hd]
    have hne : ((ws.length : Int) == 2) = false := beq_eq_false_iff_ne.2 (by omega)
    clear hN hws hfl hwl h2 hd
    go_enter Tryz.func105, Tryz.ntmps105
    go_wp2_with fail
    refine (specSplit s 46 46 _ (by rfl) hl).mono ?_
    rintro e w1 ⟨g, cp, rfl, hown, hb1⟩
    rw [HW.out]
    clear hown
    go_wp2
    go_ret
    exact ⟨rfl, hb1⟩

end Go.Proofs.YtiekcenknniniaaGreatDoor
