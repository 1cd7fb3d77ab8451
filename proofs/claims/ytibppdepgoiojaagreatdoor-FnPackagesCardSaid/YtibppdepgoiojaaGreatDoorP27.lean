/-
  Parts of one proof, one behind the other: TreeJ3.
-/
import Derived.Test.YtibppdepgoiojaaGreatDoorP26
import Derived.Test.YtibppdepgoiojaaGreatDoorP25
import Derived.BigQuiet

/-! The contracts of chapter 6's landed code: what a word is read as. -/
namespace Go.Proofs.YtibppdepgoiojaaGreatDoor
open Go.RowKit

set_option maxHeartbeats 1000000 in
set_option maxRecDepth 100000 in
theorem liteCut (l : List UInt8) (b : UInt8) (w : World) (hl : l.length ≤ 1048576) :
    Calls Tryz.prog 80 #[.string ⟨l.toArray⟩, .string ⟨#[b]⟩] w fun e w' => ∃ g, e = .returned (.tuple #[.string ⟨(cutA b l).toArray⟩, .string ⟨(cutB b l).toArray⟩, .bool g]) ∧ Below w.heap.size w w' := by
  have hext := ext_list
  have HC : Hid (_) := fun W : World => Tryz.stringslite_Index_one ⟨l.toArray⟩ b W
  rcases cut_at b l with ⟨h1, h2, h3⟩ | ⟨k, h1, hk, h3, h4⟩
  · rw [h2, h3]
    rw [show (⟨l.toArray⟩ : ByteArray).data.toList = l from rfl, h1] at HC
    clear h1 h2 h3
    go_enter Tryz.func80, Tryz.ntmps80
    go_wp2_with (go_at_call 97; refine Calls.mono (HC.out _) ?_; rintro e w' ⟨rfl, rfl⟩)
    go_ret3
    exact ⟨_, rfl, Below.refl _ _⟩
  · rw [h3, h4]
    rw [show (⟨l.toArray⟩ : ByteArray).data.toList = l from rfl, h1] at HC
    have c2 : (k : Int) ≤ (l.length : Int) := by omega
    have c4 : (k : Int) + 1 ≤ (l.length : Int) := by omega
    have c5 : (l.length : Int) ≤ 1048576 := by omega
    have htk : List.take (l.length - (k + 1)) (List.drop (k + 1) l) = List.drop (k + 1) l := List.take_of_length_le (by rw [List.length_drop]; omega)
    clear h1 h3 h4
    go_enter Tryz.func80, Tryz.ntmps80
    go_wp2_with (go_at_call 97; refine Calls.mono (HC.out _) ?_; rintro e w' ⟨rfl, rfl⟩)
    go_quiet (fail)
    go_wp2
    go_ret3
    exact ⟨_, rfl, ⟨rfl, rfl, rfl, Nat.le_refl _, fun _ _ => rfl⟩⟩

set_option maxHeartbeats 1000000 in
set_option maxRecDepth 100000 in
theorem cutOne (l : List UInt8) (b : UInt8) (w : World) (hl : l.length ≤ 1048576) :
    Calls Tryz.prog 58 #[.string ⟨l.toArray⟩, .string ⟨#[b]⟩] w fun e w' => ∃ g, e = .returned (.tuple #[.string ⟨(cutA b l).toArray⟩, .string ⟨(cutB b l).toArray⟩, .bool g]) ∧ Below w.heap.size w w' := by
  have HC : Hid (_) := liteCut l b w hl
  generalize cutA b l = x at HC ⊢
  generalize cutB b l = y at HC ⊢
  go_enter Tryz.func58, Tryz.ntmps58
  go_wp2_with fail
  refine Calls.mono HC.out ?_
  rintro e w1 ⟨g, rfl, hb1⟩
  go_wp2
  go_ret3
  exact ⟨_, rfl, hb1⟩

set_option maxHeartbeats 1000000 in
set_option maxRecDepth 100000 in
theorem implArgIn (l : List UInt8) (w : World) (hl : l.length ≤ 1048576) :
    Calls Tryz.prog 118 #[.string ⟨l.toArray⟩] w fun e w' => e = .returned (shVal (.arg (numV l))) ∧ Below w.heap.size w w' := by
  have HC : Hid (_) := implNumberOf l w hl
  generalize numV l = n at HC ⊢
  generalize numB l = b at HC
  unfold shVal
  simp only
  go_enter Tryz.func118, Tryz.ntmps118
  go_wp2_with fail
  refine Calls.mono HC.out ?_
  rintro e w1 ⟨rfl, hb1⟩
  go_wp2
  go_ret
  exact ⟨rfl, hb1⟩

set_option maxHeartbeats 1000000 in
set_option maxRecDepth 100000 in
theorem implCallIn (l : List UInt8) (w : World) (hl : l.length ≤ 1048576) :
    Calls Tryz.prog 119 #[.string ⟨l.toArray⟩] w fun e w' => e = .returned (shVal (.call (cutA 46 (cutA 47 l)) (cutB 46 (cutA 47 l)) (numV (cutB 47 l)))) ∧ Below w.heap.size w w' := by
  have l1 := cutA_len 47 l
  have l2 := cutB_len 47 l
  have H1 : Hid (_) := fun W : World => cutOne l 47 W hl
  have H2 : Hid (_) := fun W : World => cutOne (cutA 47 l) 46 W (by omega)
  have H3 : Hid (_) := fun W : World => implNumberOf (cutB 47 l) W (by omega)
  generalize cutA 46 (cutA 47 l) = p at H2 ⊢
  generalize cutB 46 (cutA 47 l) = f at H2 ⊢
  generalize cutA 47 l = x at H1 H2
  generalize numV (cutB 47 l) = n at H3 ⊢
  generalize numB (cutB 47 l) = b at H3
  generalize cutB 47 l = y at H1 H3
  clear l1 l2
  unfold shVal
  simp only
  go_enter Tryz.func119, Tryz.ntmps119
  go_wp2_with fail
  refine Calls.mono (H1.out _) ?_
  rintro e w1 ⟨g1, rfl, hb1⟩
  go_wp2_with fail
  refine Calls.mono (H2.out _) ?_
  rintro e w2 ⟨g2, rfl, hb2⟩
  have hB2 := hb1.trans (hb2.mono hb1.size)
  go_wp2_with fail
  refine Calls.mono (H3.out _) ?_
  rintro e w3 ⟨rfl, hb3⟩
  have hB3 := hB2.trans (hb3.mono hB2.size)
  go_wp2
  go_ret
  exact ⟨rfl, hB3⟩

theorem idx_no {x : UInt8} (h1 : x ≠ 43) (h2 : x ≠ 45) (h3 : x ≠ 42) (h4 : x ≠ 47) : decide ((0 : Int) ≤ Lib.indexByte [43, 45, 42, 47] x) = false := by
  have e1 : ((43 : UInt8) == x) = false := beq_eq_false_iff_ne.2 (fun e => h1 e.symm)
  have e2 : ((45 : UInt8) == x) = false := beq_eq_false_iff_ne.2 (fun e => h2 e.symm)
  have e3 : ((42 : UInt8) == x) = false := beq_eq_false_iff_ne.2 (fun e => h3 e.symm)
  have e4 : ((47 : UInt8) == x) = false := beq_eq_false_iff_ne.2 (fun e => h4 e.symm)
  simp [Lib.indexByte, e1, e2, e3, e4]

theorem pre_yes (c : UInt8) (r : List UInt8) : Lib.hasPrefix (c :: r) [c] = true := by simp [Lib.hasPrefix, List.isPrefixOf]
theorem pre_no {c : UInt8} {s : List UInt8} (h : s.head? ≠ some c) : Lib.hasPrefix s [c] = false := by
  cases s with
  | nil => rfl
  | cons x r =>
    have : (c == x) = false := beq_eq_false_iff_ne.2 (fun e => h (by rw [e]; rfl))
    simp [Lib.hasPrefix, List.isPrefixOf, this]

set_option maxHeartbeats 4000000 in
set_option maxRecDepth 100000 in
theorem implShapeIn (s : List UInt8) (w : World) (hl : s.length ≤ 1048576) :
    Calls Tryz.prog 101 #[.string ⟨s.toArray⟩] w fun e w' => e = .returned (shVal (shIn s)) ∧ Below w.heap.size w w' := by
  have hext := ext_list
  have HC : Hid (_) := implNumberOf s w hl
  rcases hnb : numB s with _ | _
  · rw [hnb] at HC
    generalize numV s = nv at HC
    by_cases h63 : s = [63]
    · subst h63
      have HR : Hid (shIn [63] = .cond) := by exact (by unfold shIn; rw [if_neg (by rw [hnb]; simp), if_pos rfl] : shIn [63] = .cond)
      clear hnb
      go_enter Tryz.func101, Tryz.ntmps101
      go_wp2_with fail
      refine Calls.mono HC.out ?_
      rintro e w1 ⟨rfl, hb1⟩
      go_wp2
      go_ret
      exact ⟨by rw [HR.out]; rfl, hb1⟩
    by_cases h43 : s = [43]
    · subst h43
      have HR : Hid (shIn [43] = .pair 3) := by exact (by unfold shIn; rw [if_neg (by rw [hnb]; simp), if_neg (by simp), if_pos rfl] : shIn [43] = .pair 3)
      have H1 : Hid (_) := fun W : World => Tryz.strings_Contains_one ⟨#[43, 45, 42, 47]⟩ 43 W
      have H2 : Hid (_) := fun W : World => Tryz.strings_Index_one ⟨#[43, 45, 42, 47]⟩ 43 W
      have e1 : decide ((0 : Int) ≤ Lib.indexByte (⟨#[43, 45, 42, 47]⟩ : ByteArray).data.toList 43) = true := by decide
      have e2 : Lib.indexByte (⟨#[43, 45, 42, 47]⟩ : ByteArray).data.toList 43 = 0 := by decide
      rw [e1] at H1
      rw [e2] at H2
      clear hnb e1 e2
      go_enter Tryz.func101, Tryz.ntmps101
      go_wp2_with fail
      refine Calls.mono HC.out ?_
      rintro e w1 ⟨rfl, hb1⟩
      go_wp2_with fail
      refine Calls.mono (H1.out _) ?_
      rintro e w2 ⟨rfl, rfl⟩
      go_wp2_with fail
      refine Calls.mono (H2.out _) ?_
      rintro e w2 ⟨rfl, rfl⟩
      go_wp2
      go_ret
      exact ⟨by rw [HR.out]; rfl, hb1⟩
    by_cases h45 : s = [45]
    · subst h45
      have HR : Hid (shIn [45] = .pair 4) := by exact (by unfold shIn; rw [if_neg (by rw [hnb]; simp), if_neg (by simp), if_neg (by simp), if_pos rfl] : shIn [45] = .pair 4)
      have H1 : Hid (_) := fun W : World => Tryz.strings_Contains_one ⟨#[43, 45, 42, 47]⟩ 45 W
      have H2 : Hid (_) := fun W : World => Tryz.strings_Index_one ⟨#[43, 45, 42, 47]⟩ 45 W
      have e1 : decide ((0 : Int) ≤ Lib.indexByte (⟨#[43, 45, 42, 47]⟩ : ByteArray).data.toList 45) = true := by decide
      have e2 : Lib.indexByte (⟨#[43, 45, 42, 47]⟩ : ByteArray).data.toList 45 = 1 := by decide
      rw [e1] at H1
      rw [e2] at H2
      clear hnb e1 e2
      go_enter Tryz.func101, Tryz.ntmps101
      go_wp2_with fail
      refine Calls.mono HC.out ?_
      rintro e w1 ⟨rfl, hb1⟩
      go_wp2_with fail
      refine Calls.mono (H1.out _) ?_
      rintro e w2 ⟨rfl, rfl⟩
      go_wp2_with fail
      refine Calls.mono (H2.out _) ?_
      rintro e w2 ⟨rfl, rfl⟩
      go_wp2
      go_ret
      exact ⟨by rw [HR.out]; rfl, hb1⟩
    by_cases h42 : s = [42]
    · subst h42
      have HR : Hid (shIn [42] = .pair 5) := by exact (by unfold shIn; rw [if_neg (by rw [hnb]; simp), if_neg (by simp), if_neg (by simp), if_neg (by simp), if_pos rfl] : shIn [42] = .pair 5)
      have H1 : Hid (_) := fun W : World => Tryz.strings_Contains_one ⟨#[43, 45, 42, 47]⟩ 42 W
      have H2 : Hid (_) := fun W : World => Tryz.strings_Index_one ⟨#[43, 45, 42, 47]⟩ 42 W
      have e1 : decide ((0 : Int) ≤ Lib.indexByte (⟨#[43, 45, 42, 47]⟩ : ByteArray).data.toList 42) = true := by decide
      have e2 : Lib.indexByte (⟨#[43, 45, 42, 47]⟩ : ByteArray).data.toList 42 = 2 := by decide
      rw [e1] at H1
      rw [e2] at H2
      clear hnb e1 e2
      go_enter Tryz.func101, Tryz.ntmps101
      go_wp2_with fail
      refine Calls.mono HC.out ?_
      rintro e w1 ⟨rfl, hb1⟩
      go_wp2_with fail
      refine Calls.mono (H1.out _) ?_
      rintro e w2 ⟨rfl, rfl⟩
      go_wp2_with fail
      refine Calls.mono (H2.out _) ?_
      rintro e w2 ⟨rfl, rfl⟩
      go_wp2
      go_ret
      exact ⟨by rw [HR.out]; rfl, hb1⟩
    by_cases h47 : s = [47]
    · subst h47
      have HR : Hid (shIn [47] = .pair 6) := by exact (by unfold shIn; rw [if_neg (by rw [hnb]; simp), if_neg (by simp), if_neg (by simp), if_neg (by simp), if_neg (by simp), if_pos rfl] : shIn [47] = .pair 6)
      have H1 : Hid (_) := fun W : World => Tryz.strings_Contains_one ⟨#[43, 45, 42, 47]⟩ 47 W
      have H2 : Hid (_) := fun W : World => Tryz.strings_Index_one ⟨#[43, 45, 42, 47]⟩ 47 W
      have e1 : decide ((0 : Int) ≤ Lib.indexByte (⟨#[43, 45, 42, 47]⟩ : ByteArray).data.toList 47) = true := by decide
      have e2 : Lib.indexByte (⟨#[43, 45, 42, 47]⟩ : ByteArray).data.toList 47 = 3 := by decide
      rw [e1] at H1
      rw [e2] at H2
      clear hnb e1 e2
      go_enter Tryz.func101, Tryz.ntmps101
      go_wp2_with fail
      refine Calls.mono HC.out ?_
      rintro e w1 ⟨rfl, hb1⟩
      go_wp2_with fail
      refine Calls.mono (H1.out _) ?_
      rintro e w2 ⟨rfl, rfl⟩
      go_wp2_with fail
      refine Calls.mono (H2.out _) ?_
      rintro e w2 ⟨rfl, rfl⟩
      go_wp2
      go_ret
      exact ⟨by rw [HR.out]; rfl, hb1⟩
    have d63 : (s == [63]) = false := beq_eq_false_iff_ne.2 h63
    have HP36 : Hid (_) := fun W : World => Tryz.strings_HasPrefix ⟨s.toArray⟩ ⟨#[36]⟩ W
    have HP64 : Hid (_) := fun W : World => Tryz.strings_HasPrefix ⟨s.toArray⟩ ⟨#[64]⟩ W
    rw [show (⟨s.toArray⟩ : ByteArray).data.toList = s from rfl, show (⟨#[36]⟩ : ByteArray).data.toList = [36] from rfl] at HP36
    rw [show (⟨s.toArray⟩ : ByteArray).data.toList = s from rfl, show (⟨#[64]⟩ : ByteArray).data.toList = [64] from rfl] at HP64
    by_cases hl0 : s.length = 1
    · obtain ⟨x, rfl⟩ : ∃ x, s = [x] := List.length_eq_one_iff.1 hl0
      have H1 : Hid (_) := fun W : World => Tryz.strings_Contains_one ⟨#[43, 45, 42, 47]⟩ x W
      rw [show (⟨#[43, 45, 42, 47]⟩ : ByteArray).data.toList = [43, 45, 42, 47] from rfl, idx_no (fun e => h43 (by rw [e])) (fun e => h45 (by rw [e])) (fun e => h42 (by rw [e])) (fun e => h47 (by rw [e]))] at H1
      clear hl0
      by_cases h36 : [x].head? = some 36
      · obtain ⟨r, hr⟩ : ∃ r, [x] = 36 :: r := by
          cases hs : [x] with
          | nil => rw [hs] at h36; cases h36
          | cons y r => rw [hs] at h36; injection h36 with e; exact ⟨r, by rw [e]⟩
        obtain ⟨rfl, rfl⟩ : x = 36 ∧ r = [] := by injection hr with e1 e2; exact ⟨e1, e2.symm⟩
        have HR : Hid (shIn [36] = .arg (numV [])) := by exact (by unfold shIn; rw [if_neg (by rw [hnb]; simp), if_neg h63, if_neg h43, if_neg h45, if_neg h42, if_neg h47, if_pos h36]; rfl : shIn [36] = .arg (numV []))
        have hrl : ([] : List UInt8).length + 1 ≤ 1048576 := by simp
        have HA : Hid (_) := fun W : World => implArgIn [] W (by omega)
        rw [pre_yes] at HP36
        rw [HR.out]
        have htk : List.take 0 ([] : List UInt8) = [] := rfl
        clear hnb h63 h43 h45 h42 h47 h36 hr HP64 HR hl
        go_enter Tryz.func101, Tryz.ntmps101
        go_wp2_with fail
        refine Calls.mono HC.out ?_
        rintro e w1 ⟨rfl, hb1⟩
        go_wp2_with fail
        refine Calls.mono (H1.out _) ?_
        rintro e w2 ⟨rfl, rfl⟩
        go_wp2_with fail
        refine Calls.mono (HP36.out _) ?_
        rintro e w2 ⟨rfl, rfl⟩
        go_wp2_with fail
        refine Calls.mono (HA.out _) ?_
        rintro e w3 ⟨rfl, hb3⟩
        have hB3 := hb1.trans (hb3.mono hb1.size)
        go_wp2
        go_ret
        exact ⟨rfl, hB3⟩
      rw [pre_no h36] at HP36
      by_cases h64 : [x].head? = some 64
      · obtain ⟨r, hr⟩ : ∃ r, [x] = 64 :: r := by
          cases hs : [x] with
          | nil => rw [hs] at h64; cases h64
          | cons y r => rw [hs] at h64; injection h64 with e; exact ⟨r, by rw [e]⟩
        obtain ⟨rfl, rfl⟩ : x = 64 ∧ r = [] := by injection hr with e1 e2; exact ⟨e1, e2.symm⟩
        have HR : Hid (shIn [64] = .call (cutA 46 (cutA 47 [])) (cutB 46 (cutA 47 [])) (numV (cutB 47 []))) := by exact (by unfold shIn; rw [if_neg (by rw [hnb]; simp), if_neg h63, if_neg h43, if_neg h45, if_neg h42, if_neg h47, if_neg h36, if_pos h64]; rfl : shIn [64] = .call (cutA 46 (cutA 47 [])) (cutB 46 (cutA 47 [])) (numV (cutB 47 [])))
        have hrl : ([] : List UInt8).length + 1 ≤ 1048576 := by simp
        have HA : Hid (_) := fun W : World => implCallIn [] W (by omega)
        rw [pre_yes] at HP64
        rw [HR.out]
        have htk : List.take 0 ([] : List UInt8) = [] := rfl
        clear hnb h63 h43 h45 h42 h47 h36 h64 hr HR hl
        go_enter Tryz.func101, Tryz.ntmps101
        go_wp2_with fail
        refine Calls.mono HC.out ?_
        rintro e w1 ⟨rfl, hb1⟩
        go_wp2_with fail
        refine Calls.mono (H1.out _) ?_
        rintro e w2 ⟨rfl, rfl⟩
        go_wp2_with fail
        refine Calls.mono (HP36.out _) ?_
        rintro e w2 ⟨rfl, rfl⟩
        go_wp2_with fail
        refine Calls.mono (HP64.out _) ?_
        rintro e w2 ⟨rfl, rfl⟩
        go_wp2_with fail
        refine Calls.mono (HA.out _) ?_
        rintro e w3 ⟨rfl, hb3⟩
        have hB3 := hb1.trans (hb3.mono hb1.size)
        go_wp2
        go_ret
        exact ⟨rfl, hB3⟩
      · rw [pre_no h64] at HP64
        have HR : Hid (shIn [x] = .no) := by exact (by unfold shIn; rw [if_neg (by rw [hnb]; simp), if_neg h63, if_neg h43, if_neg h45, if_neg h42, if_neg h47, if_neg h36, if_neg h64] : shIn [x] = .no)
        rw [HR.out]
        clear hnb h63 h43 h45 h42 h47 h36 h64 HR hl
        go_enter Tryz.func101, Tryz.ntmps101
        go_wp2_with fail
        refine Calls.mono HC.out ?_
        rintro e w1 ⟨rfl, hb1⟩
        go_wp2_with fail
        refine Calls.mono (H1.out _) ?_
        rintro e w2 ⟨rfl, rfl⟩
        go_wp2_with fail
        refine Calls.mono (HP36.out _) ?_
        rintro e w2 ⟨rfl, rfl⟩
        go_wp2_with fail
        refine Calls.mono (HP64.out _) ?_
        rintro e w2 ⟨rfl, rfl⟩
        go_wp2
        go_ret
        exact ⟨rfl, hb1⟩
    · have hl1 : ((s.length : Int) == 1) = false := beq_eq_false_iff_ne.2 (by omega)
      have hl2 : s.length ≠ 1 := hl0
      clear hl0
      by_cases h36 : s.head? = some 36
      · obtain ⟨r, hr⟩ : ∃ r, s = 36 :: r := by
          cases hs : s with
          | nil => rw [hs] at h36; cases h36
          | cons y r => rw [hs] at h36; injection h36 with e; exact ⟨r, by rw [e]⟩
        have HR : Hid (shIn s = .arg (numV r)) := by exact (by unfold shIn; rw [if_neg (by rw [hnb]; simp), if_neg h63, if_neg h43, if_neg h45, if_neg h42, if_neg h47, if_pos h36, hr]; rfl : shIn s = .arg (numV r))
        have hrl : r.length + 1 ≤ 1048576 := by have h := hl; rw [hr] at h; simpa using h
        have HA : Hid (_) := fun W : World => implArgIn r W (by omega)
        rw [hr, pre_yes] at HP36
        rw [HR.out]
        rw [hr] at HC d63 hl2 ⊢
        have g1 : (((r.length : Int) + 1) == 1) = false := beq_eq_false_iff_ne.2 (by simp at hl2; intro e; apply hl2; apply List.eq_nil_of_length_eq_zero; omega)
        have g2 : (((r.length + 1 : Nat) : Int) == 1) = false := beq_eq_false_iff_ne.2 (by simp at hl2; intro e; apply hl2; apply List.eq_nil_of_length_eq_zero; omega)
        have g3 : r ≠ [] := by simpa using hl2
        clear hl1 hl2
        have htk : List.take r.length r = r := List.take_length
        clear hnb h63 h43 h45 h42 h47 h36 hr HP64 HR hl
        go_enter Tryz.func101, Tryz.ntmps101
        go_wp2_with fail
        refine Calls.mono HC.out ?_
        rintro e w1 ⟨rfl, hb1⟩
        go_wp2_with fail
        refine Calls.mono (HP36.out _) ?_
        rintro e w2 ⟨rfl, rfl⟩
        go_wp2_with fail
        refine Calls.mono (HA.out _) ?_
        rintro e w3 ⟨rfl, hb3⟩
        have hB3 := hb1.trans (hb3.mono hb1.size)
        go_wp2
        go_ret
        exact ⟨rfl, hB3⟩
      rw [pre_no h36] at HP36
      by_cases h64 : s.head? = some 64
      · obtain ⟨r, hr⟩ : ∃ r, s = 64 :: r := by
          cases hs : s with
          | nil => rw [hs] at h64; cases h64
          | cons y r => rw [hs] at h64; injection h64 with e; exact ⟨r, by rw [e]⟩
        have HR : Hid (shIn s = .call (cutA 46 (cutA 47 r)) (cutB 46 (cutA 47 r)) (numV (cutB 47 r))) := by exact (by unfold shIn; rw [if_neg (by rw [hnb]; simp), if_neg h63, if_neg h43, if_neg h45, if_neg h42, if_neg h47, if_neg h36, if_pos h64, hr]; rfl : shIn s = .call (cutA 46 (cutA 47 r)) (cutB 46 (cutA 47 r)) (numV (cutB 47 r)))
        have hrl : r.length + 1 ≤ 1048576 := by have h := hl; rw [hr] at h; simpa using h
        have HA : Hid (_) := fun W : World => implCallIn r W (by omega)
        rw [hr, pre_yes] at HP64
        rw [HR.out]
        rw [hr] at HC HP36 d63 hl2 ⊢
        have g1 : (((r.length : Int) + 1) == 1) = false := beq_eq_false_iff_ne.2 (by simp at hl2; intro e; apply hl2; apply List.eq_nil_of_length_eq_zero; omega)
        have g2 : (((r.length + 1 : Nat) : Int) == 1) = false := beq_eq_false_iff_ne.2 (by simp at hl2; intro e; apply hl2; apply List.eq_nil_of_length_eq_zero; omega)
        have g3 : r ≠ [] := by simpa using hl2
        clear hl1 hl2
        have htk : List.take r.length r = r := List.take_length
        clear hnb h63 h43 h45 h42 h47 h36 h64 hr HR hl
        go_enter Tryz.func101, Tryz.ntmps101
        go_wp2_with fail
        refine Calls.mono HC.out ?_
        rintro e w1 ⟨rfl, hb1⟩
        go_wp2_with fail
        refine Calls.mono (HP36.out _) ?_
        rintro e w2 ⟨rfl, rfl⟩
        go_wp2_with fail
        refine Calls.mono (HP64.out _) ?_
        rintro e w2 ⟨rfl, rfl⟩
        go_wp2_with fail
        refine Calls.mono (HA.out _) ?_
        rintro e w3 ⟨rfl, hb3⟩
        have hB3 := hb1.trans (hb3.mono hb1.size)
        go_wp2
        go_ret
        exact ⟨rfl, hB3⟩
      · rw [pre_no h64] at HP64
        have HR : Hid (shIn s = .no) := by exact (by unfold shIn; rw [if_neg (by rw [hnb]; simp), if_neg h63, if_neg h43, if_neg h45, if_neg h42, if_neg h47, if_neg h36, if_neg h64] : shIn s = .no)
        rw [HR.out]
        clear hnb h63 h43 h45 h42 h47 h36 h64 HR hl
        go_enter Tryz.func101, Tryz.ntmps101
        go_wp2_with fail
        refine Calls.mono HC.out ?_
        rintro e w1 ⟨rfl, hb1⟩
        go_wp2_with fail
        refine Calls.mono (HP36.out _) ?_
        rintro e w2 ⟨rfl, rfl⟩
        go_wp2_with fail
        refine Calls.mono (HP64.out _) ?_
        rintro e w2 ⟨rfl, rfl⟩
        go_wp2
        go_ret
        exact ⟨rfl, hb1⟩
  · rw [hnb] at HC
    have HR : Hid (shIn s = .num (numV s)) := by exact (by unfold shIn; rw [if_pos hnb] : shIn s = .num (numV s))
    generalize numV s = nv at HC HR
    clear hnb
    go_enter Tryz.func101, Tryz.ntmps101
    go_wp2_with fail
    refine Calls.mono HC.out ?_
    rintro e w1 ⟨rfl, hb1⟩
    go_wp2
    go_ret
    exact ⟨by rw [HR.out]; rfl, hb1⟩

end Go.Proofs.YtibppdepgoiojaaGreatDoor
