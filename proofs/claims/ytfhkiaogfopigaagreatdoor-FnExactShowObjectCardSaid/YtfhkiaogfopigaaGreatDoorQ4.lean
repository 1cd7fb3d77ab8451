/-
  Parts of one proof, one behind the other: TextsL, NumsL, NodeL, Draw3, DrawW, DrawT, Bend1, Bend2, DrawX, DrawN, NeedS, InsS, InsS2.
-/
import Derived.Test.YtfhkiaogfopigaaGreatDoorQ3
import Derived.Test.YtfhkiaogfopigaaGreatDoorQ2
import Derived.SliceStrings
import Derived.ProofKit
import Derived.OpenShut
import Derived.ShutString
import Derived.ChangeOld
import Derived.Below
import Derived.Deep.RegionWith
import Derived.Test.YtfhkiaogfopigaaGreatDoorQ1
import Derived.Deep.RegionHeld3
import Derived.Deep.RegionLaw
import Derived.Deep.DrawnRows
import Derived.Deep.Cut

/-! A list of texts that came in, as the walks take it; the exact laws' helpers over such lists: szStringS, toStringS. -/
namespace Go.Proofs.YtfhkiaogfopigaaGreatDoor
open Go.ChangeShapes Go.WideShapes Go.ChangeAt Go.RowKit

def szT (m n : Nat) (left : Int) : Int := if (m : Int) + (n : Int) ≤ left then left - (m : Int) - (n : Int) else -1
theorem szT_yes {m n : Nat} {left : Int} (h : (m : Int) + (n : Int) ≤ left) : szT m n left = left - (m : Int) - (n : Int) := by unfold szT; rw [if_pos h]
theorem szT_no {m n : Nat} {left : Int} (h : ¬ (m : Int) + (n : Int) ≤ left) : szT m n left = -1 := by unfold szT; rw [if_neg h]

/-- How many bytes in all. -/
def joinN (ts : List (List UInt8)) : Nat := ts.flatten.length

theorem joinN_snoc (ts : List (List UInt8)) (k : Nat) (hk : k < ts.length) : joinN (ts.take (k + 1)) = joinN (ts.take k) + (ts.getD k []).length := by
  have := congrArg List.length (flat_snoc ts k hk)
  rw [List.length_append] at this
  exact this

theorem joinN_take (ts : List (List UInt8)) (k : Nat) : joinN (ts.take k) ≤ joinN ts := flat_take ts k

set_option maxHeartbeats 1000000 in
set_option maxRecDepth 100000 in
theorem szStringSC (a : Option Addr) (len cap : Nat) (ts : List (List UInt8)) (left : Int) (w : World) (hin : TextsIn w a len ts) (h0 : 0 ≤ left) (h1 : left ≤ 1048576) (hl : len ≤ maxLen) (hm : ∀ j, (ts.getD j []).length ≤ maxLen) :
    Calls Tryz.prog 39 #[.slice a len cap, .int .i64 left] w fun e w' => e = .returned (.int .i64 (szT len (joinN ts) left)) ∧ w' = w := by
  unfold maxLen at hl
  have hl2 : (len : Int) ≤ 9223372036854775807 := by omega
  have hlb := hin.1
  by_cases h : (len : Int) ≤ left
  · have hlen : len ≤ 1048576 := by omega
    have HI : Hid (TextsIn w a len ts) := hin
    have HM : Hid (∀ j, (ts.getD j []).length ≤ maxLen) := hm
    clear hin hm
    go_enter Tryz.func39, Tryz.ntmps39
    go_wp2
    go_loop [1, 5] (fun l i => ∃ k : Nat, k ≤ len ∧ i = .int .i64 k ∧ l = .int .i64 (left - (len : Int) - (joinN (ts.take k) : Int)) ∧ (joinN (ts.take k) : Int) ≤ left - (len : Int)) (fun _ i => len - (intOf i).toNat)
    case atStart => exact ⟨0, Nat.zero_le _, rfl, by simp [joinN], by simp [joinN]; omega⟩
    case round =>
      obtain ⟨k, hk, rfl, rfl, hle⟩ := hrel
      by_cases hkl : (k : Int) < (len : Int)
      · obtain ⟨b, off, rfl, hbl, hcells⟩ := HI.out.at (by omega)
        have ck := hcells k (by omega)
        have hmk := HM.out k
        have hfs := joinN_snoc ts k (by omega)
        have hft := joinN_take ts (k + 1)
        obtain ⟨t, ht⟩ : ∃ t, ts.getD k [] = t := ⟨_, rfl⟩
        rw [ht] at ck hmk hfs
        unfold maxLen at hmk
        have hmk2 : (t.length : Int) ≤ 9223372036854775807 := by omega
        obtain ⟨m, hmm⟩ : ∃ m, joinN (ts.take k) = m := ⟨_, rfl⟩
        have HS : Hid (joinN (ts.take (k + 1)) = m + t.length) := by rw [← hmm]; exact hfs
        rw [hmm] at hle ⊢
        clear hcells ht hfs
        by_cases hfit : (t.length : Int) ≤ left - (len : Int) - (m : Int)
        · have hge : (0 : Int) ≤ left - (len : Int) - (m : Int) - (t.length : Int) := by omega
          have HR : Hid ((joinN (ts.take (k + 1)) : Int) ≤ left - (len : Int) ∧ left - (len : Int) - (joinN (ts.take (k + 1)) : Int) = left - (len : Int) - (m : Int) - (t.length : Int)) := by
            exact (by rw [HS.out]; omega : (joinN (ts.take (k + 1)) : Int) ≤ left - (len : Int) ∧ left - (len : Int) - (joinN (ts.take (k + 1)) : Int) = left - (len : Int) - (m : Int) - (t.length : Int))
          clear hmm hft
          go_wp2
          go_round
          case rel => exact ⟨k + 1, by omega, by go_num, by rw [HR.out.2], HR.out.1⟩
          case measure => simp [intOf]; omega
        · have HR : Hid (szT len (joinN ts) left = -1) := szT_no (by have := HS.out; omega)
          have hlt : left - (len : Int) - (m : Int) - (t.length : Int) < 0 := by omega
          clear hmm hft
          go_wp2
          go_ret
          exact ⟨by rw [HR.out]; rfl, rfl⟩
      · have HT : Hid (ts.take k = ts) := List.take_of_length_le (by omega)
        have HR : Hid (szT len (joinN ts) left = left - (len : Int) - (joinN (ts.take k) : Int)) := by exact (by rw [HT.out] at hle ⊢; exact szT_yes (by omega) : szT len (joinN ts) left = left - (len : Int) - (joinN (ts.take k) : Int))
        go_wp2
        go_ret
        exact ⟨by rw [HR.out]; rfl, rfl⟩
  · have HR : Hid (szT len (joinN ts) left = -1) := szT_no (by omega)
    clear hin hm
    go_enter Tryz.func39, Tryz.ntmps39
    go_wp2
    go_ret
    exact ⟨by rw [HR.out]; rfl, rfl⟩

theorem made_texts (n : Nat) : (madeCells (Value.cells (.string ⟨#[]⟩)) (n * 1)).toList = strV (List.replicate n []) := by
  have hc : Value.cells (.string ⟨#[]⟩) = #[.string ⟨#[]⟩] := rfl
  rw [hc, Nat.mul_one]
  apply List.ext_getElem?
  intro j
  by_cases hj : j < n
  · rw [strV_at _ j (by simpa using hj)]
    simp [madeCells, hj, Nat.mod_one]
  · rw [List.getElem?_eq_none (by simp [madeCells]; omega), List.getElem?_eq_none (by rw [strV_len]; simp; omega)]

theorem fill_text (ts : List (List UInt8)) (k : Nat) (hk : k < ts.length) : (strV (ts.take k ++ List.replicate (ts.length - k) [])).set k (.string ⟨(ts.getD k []).toArray⟩) = strV (ts.take (k + 1) ++ List.replicate (ts.length - (k + 1)) []) := by
  have hg : ts.getD k [] = ts[k] := by simp [List.getD, hk]
  have e : (ts.take k ++ List.replicate (ts.length - k) []).set k ts[k] = ts.take (k + 1) ++ List.replicate (ts.length - (k + 1)) [] := by
    rw [List.set_append_right _ _ (by rw [List.length_take]; omega), List.length_take, Nat.min_eq_left (by omega), Nat.sub_self, show ts.length - k = (ts.length - (k + 1)) + 1 by omega, List.replicate_succ, List.set_cons_zero, List.take_succ_eq_append_getElem hk, List.append_assoc]
    rfl
  rw [hg, ← e]
  unfold strV
  rw [List.map_set]

set_option maxHeartbeats 2000000 in
set_option maxRecDepth 100000 in
theorem toStringSC (a : Option Addr) (len cap : Nat) (ts : List (List UInt8)) (w : World) (hin : TextsIn w a len ts) (hlen : len ≤ 1048576) :
    Calls Tryz.prog 42 #[.slice a len cap] w fun e w' => ∃ v, e = .returned v ∧ w'.ownsRow w.heap.size 9 1 v len (strV ts) ∧ v ≠ .slice none 0 0 ∧ Below w.heap.size w w' := by
  obtain ⟨i0, hi, hz0, hz1, hz2⟩ := info_parts info9
  have hlb := hin.1
  have HI : Hid (TextsIn w a len ts) := hin
  clear hin
  go_enter Tryz.func42, Tryz.ntmps42
  go_wp2_with (at_make; refine wpList_make_full _ rfl _ _ 37 rfl w.heap.size 9 i0 _ 1 Tryz.underlying37 hi hz0 hz1 .i64 .i64 _ _ len rfl rfl rfl rfl (by rw [hz2]; omega) (by unfold maxLen; omega) (Nat.le_refl _) ?_; intro w1 hown1 hgrow1)
  rw [made_texts] at hown1
  have hB1 : Below w.heap.size w w1 := (Below.refl _ _).grown hgrow1 (Nat.le_refl _) (by simp)
  clear hgrow1
  go_loopw [4] (fun i wr => ∃ k : Nat, k ≤ len ∧ i = .int .i64 k ∧ wr.ownsRow w.heap.size 9 1 (.slice (some ⟨w.heap.size, 0, none⟩) len len) len (strV (ts.take k ++ List.replicate (ts.length - k) [])) ∧ Below w.heap.size w wr) (fun i _ => len - (intOf i).toNat)
  case atStart => exact ⟨0, Nat.zero_le _, rfl, by simpa [hlb] using hown1, hB1⟩
  case round =>
    obtain ⟨k, hk, rfl, hown, hB⟩ := hrel
    clear hown1 hB1
    by_cases hkl : (k : Int) < (len : Int)
    · obtain ⟨b, off, rfl, hbl, hcells⟩ := (HI.out.below hB).at (by omega)
      have ck := hcells k (by omega)
      have hst := (hown.stored k (.string ⟨(ts.getD k []).toArray⟩)).1
      rw [fill_text ts k (by omega)] at hst
      obtain ⟨u0, d0⟩ : ∃ u, wr.cell? ⟨w.heap.size, k, none⟩ = some u := by
        rw [hown.cellAt k (by omega), strV_at _ k (by rw [List.length_append, List.length_take, List.length_replicate]; omega)]; exact ⟨_, rfl⟩
      have e0 := hown.frozenAt k
      obtain ⟨t, ht⟩ : ∃ t, ts.getD k [] = t := ⟨_, rfl⟩
      rw [ht] at ck hst
      have hB3 := hB.setCell (p := ⟨w.heap.size, k, none⟩) (Nat.le_refl _) (.string ⟨t.toArray⟩)
      clear hcells ht hown
      go_wp2
      go_roundw
      case rel => exact ⟨k + 1, by omega, by go_num, hst, hB3⟩
      case measure => simp [intOf]; omega
    · have hd : ts.take k ++ List.replicate (ts.length - k) [] = ts := by rw [List.take_of_length_le (by omega), show ts.length - k = 0 by omega]; simp
      rw [hd] at hown
      clear hd
      go_wp2
      go_ret
      exact ⟨_, rfl, hown, by simp, hB⟩

end Go.Proofs.YtfhkiaogfopigaaGreatDoor

/-! Numbers that came in, as the walks of chapter 10's laws take them; the exact laws' helper over such rows: toInt64S. -/
namespace Go.Proofs.YtfhkiaogfopigaaGreatDoor
open Go.ChangeShapes Go.WideShapes Go.ChangeAt Go.RowKit

/-- Numbers that can be read. -/
def AsIn (w : World) (a : Option Addr) (xs : List Int) : Prop := ∀ j, j < xs.length → ∃ b off, a = some ⟨b, off, none⟩ ∧ b < w.heap.size ∧ w.cell? ⟨b, off + j, none⟩ = some (.int .i64 (xs.getD j 0))
theorem AsIn.below {w w' : World} {a : Option Addr} {xs : List Int} (h : AsIn w a xs) (hb : Below w.heap.size w w') : AsIn w' a xs := fun j hj => by
  obtain ⟨b, off, e, hl, hc⟩ := h j hj
  exact ⟨b, off, e, Nat.lt_of_lt_of_le hl hb.size, (hb.cell (p := ⟨b, off + j, none⟩) hl).trans hc⟩

end Go.Proofs.YtfhkiaogfopigaaGreatDoor

/-! The laws' own helpers over nodes and rows of nodes: szNode, szNodeS, toNode, toNodeS, eqNode, eqNodeS. -/
namespace Go.Proofs.YtfhkiaogfopigaaGreatDoor
open Go.RowKit

def szN (m n : Nat) (left : Int) : Int := if (m : Int) + (n : Int) ≤ left then left - (m : Int) - (n : Int) else -1
theorem szN_yes {m n : Nat} {left : Int} (h : (m : Int) + (n : Int) ≤ left) : szN m n left = left - (m : Int) - (n : Int) := by unfold szN; rw [if_pos h]
theorem szN_no {m n : Nat} {left : Int} (h : ¬ (m : Int) + (n : Int) ≤ left) : szN m n left = -1 := by unfold szN; rw [if_neg h]

end Go.Proofs.YtfhkiaogfopigaaGreatDoor

/-! The contracts of DrawHash and DrawTurned. -/
namespace Go.Proofs.YtfhkiaogfopigaaGreatDoor
open Go.RowKit


end Go.Proofs.YtfhkiaogfopigaaGreatDoor

/-! Words, and numbers that are none, are drawn. -/
namespace Go.Proofs.YtfhkiaogfopigaaGreatDoor
open Go.RowKit

end Go.Proofs.YtfhkiaogfopigaaGreatDoor

/-! A text is drawn. -/
namespace Go.Proofs.YtfhkiaogfopigaaGreatDoor
open Go.RowKit


end Go.Proofs.YtfhkiaogfopigaaGreatDoor

/-! What the bending of a text needs: a slice of bytes at the head of a block that is new since the call began, and an append's law at a step of a region that draws its order. -/
namespace Go.Proofs.YtfhkiaogfopigaaGreatDoor
open Go.RowKit

/-- Block g, new since 'base', holds the bytes l from its head on, and they may be written. -/
structure RowB (w : World) (base g cap : Nat) (l : List UInt8) : Prop where
  new : base ≤ g
  there : g < w.heap.size
  room : l.length ≤ cap
  most : cap ≤ maxLen
  cells : ∀ j (hj : j < l.length), w.cell? ⟨g, j, none⟩ = some (.int .u8 (l[j].toNat : Int))
  free : ∀ j, j < l.length → w.frozen? ⟨g, j, none⟩ = false

theorem RowB.kept {w w' : World} {base g cap : Nat} {l : List UInt8} {row : Option Nat} (h : RowB w base g cap l) (hg : w.grownBy w' row) (hne : some g ≠ row) : RowB w' base g cap l := by
  have hb := hg.block g h.there hne
  exact ⟨h.new, Nat.lt_of_lt_of_le h.there hg.size, h.room, h.most, fun j hj => (World.cell?_of_block hb).trans (h.cells j hj), fun j hj => (World.frozen?_of_block hb).trans (h.free j hj)⟩

theorem RowB.base {w : World} {base base' g cap : Nat} {l : List UInt8} (h : RowB w base g cap l) (hb : base' ≤ base) : RowB w base' g cap l := ⟨Nat.le_trans hb h.new, h.there, h.room, h.most, h.cells, h.free⟩

theorem RowB.of_own {w : World} {base : Nat} {v : Value} {l : List UInt8} (h : w.ownsRow base 5 1 v l.length (bytesV l)) (hv : v ≠ .slice none 0 0) : ∃ g cap, v = .slice (some ⟨g, 0, none⟩) l.length cap ∧ RowB w base g cap l := by
  have hh := h
  obtain ⟨_, ⟨e, _⟩ | ⟨g, cap, cur, rfl, hb, hc, hn, hm, hs, ht⟩⟩ := hh
  · exact absurd e hv
  · refine ⟨g, cap, rfl, hb, (h.lt g rfl).2, hn, hm, ?_, ?_⟩
    · intro j hj
      have hx := World.ownsRow.cellAt h j (by omega)
      rw [hx]; simp [bytesV, List.getElem?_eq_getElem hj]
    · intro j hj
      exact World.ownsRow.frozenAt h j

theorem RowB.back {w : World} {base g cap : Nat} {l : List UInt8} (h : RowB w base g cap l) :
    (convert 84 9 (.slice (some ⟨g, 0, none⟩) l.length cap)).run Tryz.prog w = .ok (.string ⟨l.toArray⟩) w := by
  refine run_convert_bytes_back (P := Tryz.prog) w 84 9 5 ⟨g, 0, none⟩ cap l Tryz.underlying84 Tryz.underlying5 Tryz.underlying9 ?_
  intro j hj
  have e : (⟨g, 0, none⟩ : Addr).add j = ⟨g, j, none⟩ := by unfold Addr.add; split <;> simp_all
  rw [e]; exact h.cells j hj

theorem RowB.store {w : World} {base g cap : Nat} {l : List UInt8} (h : RowB w base g cap l) (k : Nat) (hk : k < l.length) (x : UInt8) : RowB (w.setCell ⟨g, k, none⟩ (.int .u8 (x.toNat : Int))) base g cap (l.set k x) := by
  refine ⟨h.new, by simpa using h.there, by simpa using h.room, h.most, ?_, ?_⟩
  · intro j hj
    have hj' : j < l.length := by simpa using hj
    by_cases e : j = k
    · subst e
      rw [World.cell?_setCell_same _ _ _ (h.cells j hj')]
      simp
    · rw [World.cell?_setCell_other _ _ _ _ (by intro e2; injection e2 with _ e3; exact e e3.symm), h.cells j hj', List.getElem_set_ne (fun e2 => e e2.symm)]
  · intro j hj
    rw [World.frozen?_setCell]; exact h.free j (by simpa using hj)

theorem RowB.drew {w : World} {base g cap : Nat} {l : List UInt8} (h : RowB w base g cap l) : RowB w.drew base g cap l := ⟨h.new, h.there, h.room, h.most, h.cells, h.free⟩

theorem bytesV_at (l : List UInt8) (j : Nat) (u : Value) (h : (bytesV l)[j]? = some u) : ∃ hj : j < l.length, u = .int .u8 (l[j].toNat : Int) := by
  unfold bytesV at h
  rw [List.getElem?_map] at h
  rcases hx : l[j]? with _ | x
  · rw [hx] at h; cases h
  · rw [hx] at h
    obtain ⟨hj, e⟩ := List.getElem?_eq_some_iff.1 hx
    injection h with h
    exact ⟨hj, by rw [e]; exact h.symm⟩

theorem bytesV_len (l : List UInt8) : (bytesV l).length = l.length := by simp [bytesV]

theorem bytesV_one (l : List UInt8) : ∀ u ∈ bytesV l, u.oneCell' = true := by
  intro u hu
  obtain ⟨x, _, rfl⟩ := List.mem_map.1 hu
  rfl

theorem add_plain (b off j : Nat) : (⟨b, off, none⟩ : Addr).add j = ⟨b, off + j, none⟩ := by unfold Addr.add; split <;> simp_all

/-- The cells of b[:k], as an append takes them. -/
theorem RowB.head {w : World} {base g cap : Nat} {l : List UInt8} (h : RowB w base g cap l) (k : Nat) : ∀ j u, (bytesV (l.take k))[j]? = some u → w.cell? ((⟨g, 0, none⟩ : Addr).add j) = some u := by
  intro j u hu
  obtain ⟨hj, rfl⟩ := bytesV_at _ _ _ hu
  have hl : (l.take k).length ≤ l.length := List.length_take_le' _ _
  rw [add_plain, Nat.zero_add, h.cells j (by omega)]
  simp

/-- The cells of b[k:], as an append takes them. -/
theorem RowB.tail {w : World} {base g cap : Nat} {l : List UInt8} (h : RowB w base g cap l) (k : Nat) : ∀ j u, (bytesV (l.drop k))[j]? = some u → w.cell? ((⟨g, k, none⟩ : Addr).add j) = some u := by
  intro j u hu
  obtain ⟨hj, rfl⟩ := bytesV_at _ _ _ hu
  have hj' : k + j < l.length := by rw [List.length_drop] at hj; omega
  rw [add_plain, h.cells (k + j) hj']
  simp

theorem bytesV_append (a b : List UInt8) : bytesV a ++ bytesV b = bytesV (a ++ b) := by simp [bytesV]

end Go.Proofs.YtfhkiaogfopigaaGreatDoor

/-! The contract of l1Bend: a text that is bent at most twice. -/
namespace Go.Proofs.YtfhkiaogfopigaaGreatDoor
open Go.RowKit


end Go.Proofs.YtfhkiaogfopigaaGreatDoor

/-! The contracts of DrawLines, DrawWords, DrawNameOk, DrawNumberOf. -/
namespace Go.Proofs.YtfhkiaogfopigaaGreatDoor
open Go.RowKit



end Go.Proofs.YtfhkiaogfopigaaGreatDoor

/-! A node is drawn. -/
namespace Go.Proofs.YtfhkiaogfopigaaGreatDoor
open Go.RowKit

theorem Code.alloc {w : World} {B : Nat} {a : Option Addr} {len : Nat} (h : Code w B a len) (hB : B ≤ w.heap.size) (o : Obj) : Code (w.alloc o) (B + 1) a len := by
  intro j hj
  obtain ⟨b, off, x, e1, e2, e3, e0⟩ := h j hj
  exact ⟨b, off, x, e1, by omega, (World.cell?_of_block (a := ⟨b, off + j, none⟩) (Below.heap_alloc _ _ _ (by show b < _; omega))).trans e3, e0⟩

end Go.Proofs.YtfhkiaogfopigaaGreatDoor

/-! What the contracts of chapter 12's specification lean on. -/
namespace Go.Proofs.YtfhkiaogfopigaaGreatDoor
open Go.RowKit

theorem ints_cell {w : World} {B g c n : Nat} {xs : List Int} (h : w.ownsRow B 2 1 (.slice (some ⟨g, 0, none⟩) n c) n (intsV xs)) (j : Nat) (hj : j < xs.length) : w.cell? ⟨g, j, none⟩ = some (.int .i64 (xs.getD j 0)) := by
  have hl := h.1
  rw [intsV_len] at hl
  rw [h.cellAt j (by omega), intsV_at xs j hj]
  simp [List.getD, hj]
end Go.Proofs.YtfhkiaogfopigaaGreatDoor

/-! The contracts of chapter 13's specification: registers, names, one instruction. -/
namespace Go.Proofs.YtfhkiaogfopigaaGreatDoor
open Go.RowKit

def insVal (i : In13) : Value := .agg #[.int .i64 i.1, .int .i64 i.2.1, .int .i64 i.2.2.1, .int .i64 i.2.2.2.1, .string ⟨i.2.2.2.2.toArray⟩]
def bad13 (k B : Int) (nm : List UInt8) : Bool := (decide (k ≠ 9) && !nm.isEmpty) || (!(inB k 3 6) && decide (B ≠ 0))
def kind13 (k R A B : Int) (nm : List UInt8) : Bool :=
  if k = 1 then inB R 0 63 && inB A (-2147483648) 2147483647
  else if k = 2 then inB R 0 63 && inB A 0 2
  else if 3 ≤ k ∧ k ≤ 6 then inB R 0 63 && inB A 0 63 && inB B 0 63
  else if k = 7 then inB R 0 63 && inB A 0 199
  else if k = 8 then decide (R = 0) && inB A 0 199
  else if k = 9 then inB R 0 63 && inB A 0 3 && decide (R + A - 1 ≤ 63) && name13 nm
  else if k = 10 then inB R 0 63 && decide (A = 0)
  else false
theorem insB_two (k R A B : Int) (nm : List UInt8) : insB (k, R, A, B, nm) = (!bad13 k B nm && kind13 k R A B nm) := by
  have hnm : nm.isEmpty = decide (nm = []) := by cases nm <;> simp
  rw [Bool.eq_iff_iff]
  unfold insB insP bad13 kind13 inB
  rw [hnm]
  dsimp only
  grind

set_option maxHeartbeats 400000 in
set_option maxRecDepth 100000 in
theorem specReg13 (r : Int) (w : World) : Calls Tryz.prog 116 #[.int .i64 r] w fun e w' => e = .returned (.bool (inB r 0 63)) ∧ w' = w := by
  go_enter Tryz.func116, Tryz.ntmps116
  go_wp2_with (go_at_call 54; refine (specIn _ _ _ _).mono ?_; rintro e w' ⟨rfl, rfl⟩)
  go_ret
  exact ⟨rfl, rfl⟩

set_option maxHeartbeats 1000000 in
set_option maxRecDepth 100000 in
theorem specName13 (s : List UInt8) (w : World) (hl : s.length ≤ 1048576) : Calls Tryz.prog 77 #[.string ⟨s.toArray⟩] w fun e w' => e = .returned (.bool (name13 s)) ∧ Below w.heap.size w w' := by
  obtain ⟨ws, hws⟩ : ∃ ws, splitL 46 s = ws := ⟨_, rfl⟩
  have HW : Hid (splitL 46 s = ws) := hws
  have hfl := splitGo_flat 46 s []
  have hwl : ∀ j, (ws.getD j []).length ≤ 1048576 := fun j => by
    rw [← hws]
    by_cases hj : j < (splitL 46 s).length
    · have hm : (splitL 46 s).getD j [] ∈ splitL 46 s := by simp [List.getD, hj]
      have h1 : ((splitL 46 s).getD j []).length ≤ (splitL 46 s).flatten.length := (List.sublist_flatten_of_mem hm).length_le
      have h2 : (splitL 46 s).flatten.length ≤ 0 + s.length := hfl
      omega
    · simp [List.getD, hj]
  have hN : name13 s = (decide (ws.length = 2) && nameB (ws.getD 0 []) && nameB (ws.getD 1 [])) := by unfold name13; rw [hws]; congr 1
  rw [hN]
  by_cases h2 : ws.length = 2
  · have hd : decide (ws.length = 2) = true := decide_eq_true h2
    rw [hd]
    obtain ⟨x, hx⟩ : ∃ x, ws.getD 0 [] = x := ⟨_, rfl⟩
    obtain ⟨y, hy⟩ : ∃ y, ws.getD 1 [] = y := ⟨_, rfl⟩
    have hw0 := hwl 0
    have hw1 := hwl 1
    have HX : Hid (ws.getD 0 [] = x ∧ ws.getD 1 [] = y) := ⟨hx, hy⟩
    rw [hx] at hw0 ⊢
    rw [hy] at hw1 ⊢
    have HP : Hid (_) := fun W : World => specNameOk x W hw0
    have HQ : Hid (_) := fun W : World => specNameOk y W hw1
    obtain ⟨nx, hnx⟩ : ∃ b, nameB x = b := ⟨_, rfl⟩
    obtain ⟨ny, hny⟩ : ∃ b, nameB y = b := ⟨_, rfl⟩
    rw [hnx] at HP ⊢
    rw [hny] at HQ ⊢
    clear hx hy hnx hny
    have H2 : Hid (ws.length = 2) := h2
    clear hN hws hfl hwl h2 hd
    go_enter Tryz.func77, Tryz.ntmps77
    go_wp2_with fail
    refine (specSplit s 46 46 _ (by rfl) hl).mono ?_
    rintro e w1 ⟨g, cp, rfl, hown, hb1⟩
    rw [HW.out] at hown ⊢
    rw [H2.out] at hown ⊢
    have c0 := str_cellsD hown H2.out 0 (by omega)
    have c1 := str_cellsD hown H2.out 1 (by omega)
    rw [HX.out.1] at c0
    rw [HX.out.2] at c1
    clear hown
    rcases nx with _ | _
    · go_wp2_with fail
      refine Calls.mono (HP.out _) ?_
      rintro e w2 ⟨rfl, rfl⟩
      go_wp2
      go_ret
      exact ⟨rfl, hb1⟩
    · go_wp2_with fail
      refine Calls.mono (HP.out _) ?_
      rintro e w2 ⟨rfl, rfl⟩
      go_wp2_with fail
      refine Calls.mono (HQ.out _) ?_
      rintro e w3 ⟨rfl, rfl⟩
      go_wp2
      go_ret
      exact ⟨rfl, hb1⟩
  · have hd : decide (ws.length = 2) = false := decide_eq_false h2
    rw [hd]
    have hne : ((ws.length : Int) == 2) = false := beq_eq_false_iff_ne.2 (by omega)
    clear hN hws hfl hwl h2 hd
    go_enter Tryz.func77, Tryz.ntmps77
    go_wp2_with fail
    refine (specSplit s 46 46 _ (by rfl) hl).mono ?_
    rintro e w1 ⟨g, cp, rfl, hown, hb1⟩
    rw [HW.out]
    clear hown
    go_wp2
    go_ret
    exact ⟨rfl, hb1⟩

end Go.Proofs.YtfhkiaogfopigaaGreatDoor

/-! The contract of chapter 13's specification: InsOk. -/
namespace Go.Proofs.YtfhkiaogfopigaaGreatDoor
open Go.RowKit

theorem ins_new13 (V : World) (a b c d f : Value) (t : TypeId) : ((V.alloc (.cells #[a, b, c, d, f] t)).cell? ⟨V.heap.size, 0, none⟩ = some a ∧ (V.alloc (.cells #[a, b, c, d, f] t)).cell? ⟨V.heap.size, 1, none⟩ = some b ∧ (V.alloc (.cells #[a, b, c, d, f] t)).cell? ⟨V.heap.size, 2, none⟩ = some c ∧ (V.alloc (.cells #[a, b, c, d, f] t)).cell? ⟨V.heap.size, 3, none⟩ = some d ∧ (V.alloc (.cells #[a, b, c, d, f] t)).cell? ⟨V.heap.size, 4, none⟩ = some f) ∧ Below V.heap.size V (V.alloc (.cells #[a, b, c, d, f] t)) := by
  have hb : Below V.heap.size V (V.alloc (.cells #[a, b, c, d, f] t)) := (Below.refl _ _).alloc (Nat.le_refl _) _
  have hA := heap_alloc_new V (.cells #[a, b, c, d, f] t)
  generalize V.alloc (.cells #[a, b, c, d, f] t) = W at hb hA ⊢
  exact ⟨⟨by simp [World.cell?, hA], by simp [World.cell?, hA], by simp [World.cell?, hA], by simp [World.cell?, hA], by simp [World.cell?, hA]⟩, hb⟩

theorem inB_iff13 {x lo hi : Int} : inB x lo hi = true ↔ lo ≤ x ∧ x ≤ hi := by unfold inB; simp

set_option maxHeartbeats 8000000 in
set_option maxRecDepth 100000 in
theorem specInsOk (i : In13) (w : World) (hl : i.2.2.2.2.length ≤ 1048576) :
    Calls Tryz.prog 96 #[insVal i] w fun e w' => e = .returned (.bool (insB i)) ∧ Below w.heap.size w w' := by
  obtain ⟨k, R, A, B, nm⟩ := i
  simp only at hl
  rw [insB_two]
  unfold insVal
  simp only
  obtain ⟨⟨n0, n1, n2, n3, n4⟩, hbg⟩ := ins_new13 w (.int .i64 k) (.int .i64 R) (.int .i64 A) (.int .i64 B) (.string ⟨nm.toArray⟩) 81
  obtain ⟨X, hX⟩ : ∃ X, w.alloc (.cells #[.int .i64 k, .int .i64 R, .int .i64 A, .int .i64 B, .string ⟨nm.toArray⟩] 81) = X := ⟨_, rfl⟩
  obtain ⟨N, hN⟩ : ∃ N, w.heap.size = N := ⟨_, rfl⟩
  rw [hX] at n0 n1 n2 n3 n4 hbg
  rw [hN] at n0 n1 n2 n3 n4 hbg ⊢
  have HBX : Hid (Below N w X) := hbg
  obtain ⟨bb, hbb⟩ : ∃ b, bad13 k B nm = b := ⟨_, rfl⟩
  have HBb : Hid (bad13 k B nm = bb) := hbb
  obtain ⟨res, hres⟩ : ∃ b, (!bad13 k B nm && kind13 k R A B nm) = b := ⟨_, rfl⟩
  rw [hres]
  rw [hbb] at hres
  have HR : Hid ((!bb && kind13 k R A B nm) = res) := hres
  have HRg : Hid (_) := fun (r : Int) (W : World) => specReg13 r W
  have HIn : Hid (_) := fun (x lo hi : Int) (W : World) => specIn x lo hi W
  have HWd : Hid (_) := fun (x : Int) (W : World) => specWordOk x W
  have HNm : Hid (_) := specName13 nm X hl
  clear hres hbg hbb hl
  go_enter Tryz.func96, Tryz.ntmps96
  go_wp2_with fail
  refine Calls.mono (HIn.out A 0 199 _) ?_
  rintro e wz ⟨rfl, hz⟩
  obtain rfl := hz.symm
  clear hz
  go_upto_region 2 with fail
  go_cut [25] from 7 (fun v wx => v = .bool bb ∧ wx = X)
  case first =>
    by_cases h9 : k = 9
    · subst h9
      have h3 : inB 9 3 6 = false := by decide
      have HF : Hid (bb = (B != 0)) := by exact (by rw [← HBb.out]; unfold bad13; rw [h3]; by_cases h : B = 0 <;> simp [h] : bb = (B != 0))
      clear HBb HR
      go_wp2_with fail
      refine Calls.mono (HIn.out _ _ _ _) ?_
      rintro e wz ⟨rfl, hz⟩
      obtain rfl := hz.symm
      rw [h3]
      clear hz h3
      go_wp2_with fail
      go_meet
      case rel => exact ⟨by rw [HF.out], rfl⟩
    · have d9 : (k != 9) = true := bne_iff_ne.2 h9
      rcases hnm : nm.isEmpty with _ | _
      · have HF : Hid (bb = true) := by exact (by rw [← HBb.out]; unfold bad13; simp [h9, hnm] : bb = true)
        clear HBb HR h9
        go_wp2_with fail
        go_meet
        case rel => exact ⟨by rw [HF.out], rfl⟩
      · obtain rfl : nm = [] := List.isEmpty_iff.1 hnm
        rcases h3 : inB k 3 6 with _ | _
        · have HF : Hid (bb = (B != 0)) := by exact (by rw [← HBb.out]; unfold bad13; rw [h3]; by_cases h : B = 0 <;> simp [h] : bb = (B != 0))
          clear HBb HR h9 hnm
          go_wp2_with fail
          refine Calls.mono (HIn.out _ _ _ _) ?_
          rintro e wz ⟨rfl, hz⟩
          obtain rfl := hz.symm
          rw [h3]
          clear hz h3
          go_wp2_with fail
          go_meet
          case rel => exact ⟨by rw [HF.out], rfl⟩
        · have HF : Hid (bb = false) := by exact (by rw [← HBb.out]; unfold bad13; rw [h3]; simp : bb = false)
          clear HBb HR h9 hnm
          go_wp2_with fail
          refine Calls.mono (HIn.out _ _ _ _) ?_
          rintro e wz ⟨rfl, hz⟩
          obtain rfl := hz.symm
          rw [h3]
          clear hz h3
          go_wp2_with fail
          go_meet
          case rel => exact ⟨by rw [HF.out], rfl⟩
  case rest =>
  obtain ⟨rfl, hz⟩ := hcut
  obtain rfl := hz.symm
  clear HBb hz
  rcases bb with _ | _
  rotate_left
  · have HK : Hid (res = false) := by exact (by rw [← HR.out]; rfl : res = false)
    go_wp2
    go_ret
    exact ⟨by rw [HK.out]; rfl, HBX.out⟩
  by_cases h1 : k = 1
  · subst h1
    have HK : Hid (res = (inB R 0 63 && inB A (-2147483648) 2147483647)) := by exact (by rw [← HR.out]; simp [kind13] : res = (inB R 0 63 && inB A (-2147483648) 2147483647))
    clear HR
    go_wp2_with fail
    refine Calls.mono (HRg.out R _) ?_
    rintro e wz ⟨rfl, hz⟩
    obtain rfl := hz.symm
    clear hz
    rcases hb0 : inB R 0 63 with _ | _
    · rw [hb0] at HK
      clear hb0
      go_wp2
      go_ret
      exact ⟨by rw [HK.out]; rfl, HBX.out⟩
    · rw [hb0] at HK
      clear hb0
      go_wp2_with fail
      refine Calls.mono (HWd.out A _) ?_
      rintro e wz ⟨rfl, hz⟩
      obtain rfl := hz.symm
      clear hz
      go_wp2
      go_ret
      exact ⟨by rw [HK.out]; rfl, HBX.out⟩
  have d1 : (k == 1) = false := beq_eq_false_iff_ne.2 h1
  by_cases h2 : k = 2
  · subst h2
    clear h1 d1
    have HK : Hid (res = (inB R 0 63 && inB A 0 2)) := by exact (by rw [← HR.out]; simp [kind13] : res = (inB R 0 63 && inB A 0 2))
    clear HR
    go_wp2_with fail
    refine Calls.mono (HRg.out R _) ?_
    rintro e wz ⟨rfl, hz⟩
    obtain rfl := hz.symm
    clear hz
    rcases hb0 : inB R 0 63 with _ | _
    · rw [hb0] at HK
      clear hb0
      go_wp2
      go_ret
      exact ⟨by rw [HK.out]; rfl, HBX.out⟩
    · rw [hb0] at HK
      clear hb0
      go_wp2_with fail
      refine Calls.mono (HIn.out A 0 2 _) ?_
      rintro e wz ⟨rfl, hz⟩
      obtain rfl := hz.symm
      clear hz
      go_wp2
      go_ret
      exact ⟨by rw [HK.out]; rfl, HBX.out⟩
  have d2 : (k == 2) = false := beq_eq_false_iff_ne.2 h2
  by_cases h3 : k = 3
  · subst h3
    clear h1 d1 h2 d2
    have HK : Hid (res = (inB R 0 63 && inB A 0 63 && inB B 0 63)) := by exact (by rw [← HR.out]; simp [kind13] : res = (inB R 0 63 && inB A 0 63 && inB B 0 63))
    clear HR
    go_wp2_with fail
    refine Calls.mono (HRg.out R _) ?_
    rintro e wz ⟨rfl, hz⟩
    obtain rfl := hz.symm
    clear hz
    rcases hb0 : inB R 0 63 with _ | _
    · rw [hb0] at HK
      clear hb0
      go_wp2
      go_ret
      exact ⟨by rw [HK.out]; rfl, HBX.out⟩
    · rw [hb0] at HK
      clear hb0
      go_wp2_with fail
      refine Calls.mono (HRg.out A _) ?_
      rintro e wz ⟨rfl, hz⟩
      obtain rfl := hz.symm
      clear hz
      rcases hb1 : inB A 0 63 with _ | _
      · rw [hb1] at HK
        clear hb1
        go_wp2
        go_ret
        exact ⟨by rw [HK.out]; rfl, HBX.out⟩
      · rw [hb1] at HK
        clear hb1
        go_wp2_with fail
        refine Calls.mono (HRg.out B _) ?_
        rintro e wz ⟨rfl, hz⟩
        obtain rfl := hz.symm
        clear hz
        go_wp2
        go_ret
        exact ⟨by rw [HK.out]; rfl, HBX.out⟩
  have d3 : (k == 3) = false := beq_eq_false_iff_ne.2 h3
  by_cases h4 : k = 4
  · subst h4
    clear h1 d1 h2 d2 h3 d3
    have HK : Hid (res = (inB R 0 63 && inB A 0 63 && inB B 0 63)) := by exact (by rw [← HR.out]; simp [kind13] : res = (inB R 0 63 && inB A 0 63 && inB B 0 63))
    clear HR
    go_wp2_with fail
    refine Calls.mono (HRg.out R _) ?_
    rintro e wz ⟨rfl, hz⟩
    obtain rfl := hz.symm
    clear hz
    rcases hb0 : inB R 0 63 with _ | _
    · rw [hb0] at HK
      clear hb0
      go_wp2
      go_ret
      exact ⟨by rw [HK.out]; rfl, HBX.out⟩
    · rw [hb0] at HK
      clear hb0
      go_wp2_with fail
      refine Calls.mono (HRg.out A _) ?_
      rintro e wz ⟨rfl, hz⟩
      obtain rfl := hz.symm
      clear hz
      rcases hb1 : inB A 0 63 with _ | _
      · rw [hb1] at HK
        clear hb1
        go_wp2
        go_ret
        exact ⟨by rw [HK.out]; rfl, HBX.out⟩
      · rw [hb1] at HK
        clear hb1
        go_wp2_with fail
        refine Calls.mono (HRg.out B _) ?_
        rintro e wz ⟨rfl, hz⟩
        obtain rfl := hz.symm
        clear hz
        go_wp2
        go_ret
        exact ⟨by rw [HK.out]; rfl, HBX.out⟩
  have d4 : (k == 4) = false := beq_eq_false_iff_ne.2 h4
  by_cases h5 : k = 5
  · subst h5
    clear h1 d1 h2 d2 h3 d3 h4 d4
    have HK : Hid (res = (inB R 0 63 && inB A 0 63 && inB B 0 63)) := by exact (by rw [← HR.out]; simp [kind13] : res = (inB R 0 63 && inB A 0 63 && inB B 0 63))
    clear HR
    go_wp2_with fail
    refine Calls.mono (HRg.out R _) ?_
    rintro e wz ⟨rfl, hz⟩
    obtain rfl := hz.symm
    clear hz
    rcases hb0 : inB R 0 63 with _ | _
    · rw [hb0] at HK
      clear hb0
      go_wp2
      go_ret
      exact ⟨by rw [HK.out]; rfl, HBX.out⟩
    · rw [hb0] at HK
      clear hb0
      go_wp2_with fail
      refine Calls.mono (HRg.out A _) ?_
      rintro e wz ⟨rfl, hz⟩
      obtain rfl := hz.symm
      clear hz
      rcases hb1 : inB A 0 63 with _ | _
      · rw [hb1] at HK
        clear hb1
        go_wp2
        go_ret
        exact ⟨by rw [HK.out]; rfl, HBX.out⟩
      · rw [hb1] at HK
        clear hb1
        go_wp2_with fail
        refine Calls.mono (HRg.out B _) ?_
        rintro e wz ⟨rfl, hz⟩
        obtain rfl := hz.symm
        clear hz
        go_wp2
        go_ret
        exact ⟨by rw [HK.out]; rfl, HBX.out⟩
  have d5 : (k == 5) = false := beq_eq_false_iff_ne.2 h5
  by_cases h6 : k = 6
  · subst h6
    clear h1 d1 h2 d2 h3 d3 h4 d4 h5 d5
    have HK : Hid (res = (inB R 0 63 && inB A 0 63 && inB B 0 63)) := by exact (by rw [← HR.out]; simp [kind13] : res = (inB R 0 63 && inB A 0 63 && inB B 0 63))
    clear HR
    go_wp2_with fail
    refine Calls.mono (HRg.out R _) ?_
    rintro e wz ⟨rfl, hz⟩
    obtain rfl := hz.symm
    clear hz
    rcases hb0 : inB R 0 63 with _ | _
    · rw [hb0] at HK
      clear hb0
      go_wp2
      go_ret
      exact ⟨by rw [HK.out]; rfl, HBX.out⟩
    · rw [hb0] at HK
      clear hb0
      go_wp2_with fail
      refine Calls.mono (HRg.out A _) ?_
      rintro e wz ⟨rfl, hz⟩
      obtain rfl := hz.symm
      clear hz
      rcases hb1 : inB A 0 63 with _ | _
      · rw [hb1] at HK
        clear hb1
        go_wp2
        go_ret
        exact ⟨by rw [HK.out]; rfl, HBX.out⟩
      · rw [hb1] at HK
        clear hb1
        go_wp2_with fail
        refine Calls.mono (HRg.out B _) ?_
        rintro e wz ⟨rfl, hz⟩
        obtain rfl := hz.symm
        clear hz
        go_wp2
        go_ret
        exact ⟨by rw [HK.out]; rfl, HBX.out⟩
  have d6 : (k == 6) = false := beq_eq_false_iff_ne.2 h6
  by_cases h7 : k = 7
  · subst h7
    clear h1 d1 h2 d2 h3 d3 h4 d4 h5 d5 h6 d6
    have HK : Hid (res = (inB R 0 63 && inB A 0 199)) := by exact (by rw [← HR.out]; simp [kind13] : res = (inB R 0 63 && inB A 0 199))
    clear HR
    go_wp2_with fail
    refine Calls.mono (HRg.out R _) ?_
    rintro e wz ⟨rfl, hz⟩
    obtain rfl := hz.symm
    clear hz
    rcases hb0 : inB R 0 63 with _ | _
    · rw [hb0] at HK
      clear hb0
      go_wp2
      go_ret
      exact ⟨by rw [HK.out]; rfl, HBX.out⟩
    · rw [hb0] at HK
      clear hb0
      go_wp2
      go_ret
      exact ⟨by rw [HK.out]; rfl, HBX.out⟩
  have d7 : (k == 7) = false := beq_eq_false_iff_ne.2 h7
  by_cases h8 : k = 8
  · subst h8
    clear h1 d1 h2 d2 h3 d3 h4 d4 h5 d5 h6 d6 h7 d7
    have HK : Hid (res = (decide (R = 0) && inB A 0 199)) := by exact (by rw [← HR.out]; simp [kind13] : res = (decide (R = 0) && inB A 0 199))
    clear HR
    by_cases h0 : R = 0
    · have hd : decide (R = 0) = true := decide_eq_true h0
      rw [hd] at HK
      clear hd
      have hq : (R == 0) = true := by simp [h0]
      clear h0
      go_wp2
      go_ret
      exact ⟨by rw [HK.out]; rfl, HBX.out⟩
    · have hd : decide (R = 0) = false := decide_eq_false h0
      rw [hd] at HK
      clear hd
      have hq : (R == 0) = false := beq_eq_false_iff_ne.2 h0
      clear h0
      go_wp2
      go_ret
      exact ⟨by rw [HK.out]; rfl, HBX.out⟩
  have d8 : (k == 8) = false := beq_eq_false_iff_ne.2 h8
  by_cases h9 : k = 9
  · subst h9
    clear h1 d1 h2 d2 h3 d3 h4 d4 h5 d5 h6 d6 h7 d7 h8 d8
    have HK : Hid (res = (inB R 0 63 && inB A 0 3 && decide (R + A - 1 ≤ 63) && name13 nm)) := by exact (by rw [← HR.out]; simp [kind13] : res = (inB R 0 63 && inB A 0 3 && decide (R + A - 1 ≤ 63) && name13 nm))
    clear HR
    go_wp2_with fail
    refine Calls.mono (HRg.out R _) ?_
    rintro e wz ⟨rfl, hz⟩
    obtain rfl := hz.symm
    clear hz
    rcases hb0 : inB R 0 63 with _ | _
    · rw [hb0] at HK
      clear hb0
      go_wp2
      go_ret
      exact ⟨by rw [HK.out]; rfl, HBX.out⟩
    · rw [hb0] at HK
      go_wp2_with fail
      refine Calls.mono (HIn.out A 0 3 _) ?_
      rintro e wz ⟨rfl, hz⟩
      obtain rfl := hz.symm
      clear hz
      rcases hb1 : inB A 0 3 with _ | _
      · rw [hb1] at HK
        clear hb1
        go_wp2
        go_ret
        exact ⟨by rw [HK.out]; rfl, HBX.out⟩
      · rw [hb1] at HK
        have hr := inB_iff13.1 hb0
        have ha := inB_iff13.1 hb1
        by_cases h2 : R + A - 1 ≤ 63
        · have hd : decide (R + A - 1 ≤ 63) = true := decide_eq_true h2
          rw [hd] at HK
          clear hd
          go_wp2_with fail
          refine Calls.mono HNm.out ?_
          rintro e wz ⟨rfl, hbz⟩
          have HBz := HBX.out.trans (hbz.mono (hN ▸ HBX.out.size))
          clear hbz
          go_wp2
          go_ret
          exact ⟨by rw [HK.out]; rfl, HBz⟩
        · have hd : decide (R + A - 1 ≤ 63) = false := decide_eq_false h2
          rw [hd] at HK
          clear hd
          go_wp2
          go_ret
          exact ⟨by rw [HK.out]; rfl, HBX.out⟩
  have d9 : (k == 9) = false := beq_eq_false_iff_ne.2 h9
  by_cases h10 : k = 10
  · subst h10
    clear h1 d1 h2 d2 h3 d3 h4 d4 h5 d5 h6 d6 h7 d7 h8 d8 h9 d9
    have HK : Hid (res = (inB R 0 63 && decide (A = 0))) := by exact (by rw [← HR.out]; simp [kind13] : res = (inB R 0 63 && decide (A = 0)))
    clear HR
    go_wp2_with fail
    refine Calls.mono (HRg.out R _) ?_
    rintro e wz ⟨rfl, hz⟩
    obtain rfl := hz.symm
    clear hz
    rcases hb0 : inB R 0 63 with _ | _
    · rw [hb0] at HK
      clear hb0
      go_wp2
      go_ret
      exact ⟨by rw [HK.out]; rfl, HBX.out⟩
    · rw [hb0] at HK
      clear hb0
      have he : (A == 0) = decide (A = 0) := by by_cases h : A = 0 <;> simp [h]
      rw [← he] at HK
      clear he
      go_wp2
      go_ret
      exact ⟨by rw [HK.out]; rfl, HBX.out⟩
  have d10 : (k == 10) = false := beq_eq_false_iff_ne.2 h10
  have HK : Hid (res = false) := by exact (by rw [← HR.out]; unfold kind13; rw [if_neg h1, if_neg h2, if_neg (by omega), if_neg h7, if_neg h8, if_neg h9, if_neg h10]; rfl : res = false)
  clear HR h1 h2 h3 h4 h5 h6 h7 h8 h9 h10
  go_wp2
  go_ret
  exact ⟨by rw [HK.out]; rfl, HBX.out⟩

end Go.Proofs.YtfhkiaogfopigaaGreatDoor
