/-
  Parts of one proof, one behind the other: ImgA, WordI, Jumps, Clone, TextI, Shelf.
-/
import Derived.Test.YtnflkecnddbhoaaP20
import Derived.Test.YtnflkecnddbhoaaP18
import Derived.Test.YtnflkecnddbhoaaP17
import Derived.Lib.Bytealg
import Derived.Laws.Externs
import Derived.Deep.RegionHeld3
import Derived.Shelf.Abstract
import Derived.Test.YtnflkecnddbhoaaP2
import Derived.Scope
import Derived.WalkMore
import Derived.Lib.Strings
import Derived.Lib.Walk
import Derived.Lib.BufferWrite
import Derived.Lib.UnsafeStr
import Derived.Lib.Hide
import Derived.Laws.MakeOwn
import Derived.Test.YtnflkecnddbhoaaRows
import Derived.WalkKit
import Derived.WalkLawsBesides
import Derived.OpenShut
import Derived.Test.YtnflkecnddbhoaaP3
import Derived.BigQuiet
import Derived.Shelf.Small.Strs
import Derived.Shelf.Strings.Search1
import Derived.Shelf.Strings.Search2
import Derived.Shelf.Strings.Cut
import Derived.Shelf.LaysM
import Derived.Shelf.Strings.Shaped
import Derived.Test.YtnflkecnddbhoaaProg

/-! Contracts of chapter 14's landed code: texts compared, a routine found by halving (routineNamed). -/
namespace Go.Proofs.Ytnflkecnddbhoaa
open Go.RowKit

theorem cmp_less : ∀ (a b : List UInt8), (Lib.compareBytes a b < 0 ↔ Op.bytesLess a b = true) ∧ (Lib.compareBytes a b = 0 ↔ a = b)
  | [], [] => by simp [Lib.compareBytes, Op.bytesLess]
  | [], _ :: _ => by simp [Lib.compareBytes, Op.bytesLess]
  | _ :: _, [] => by simp [Lib.compareBytes, Op.bytesLess]
  | a :: x, b :: y => by
    have ih := cmp_less x y
    unfold Lib.compareBytes Op.bytesLess
    by_cases h1 : a < b
    · have hne : a ≠ b := fun e => by subst e; exact UInt8.lt_irrefl _ h1
      simp [h1, hne]
    · by_cases h2 : b < a
      · have hne : a ≠ b := fun e => by subst e; exact UInt8.lt_irrefl _ h2
        simp [h1, h2, hne]
      · have e : a = b := by
          rw [UInt8.lt_iff_toNat_lt] at h1 h2
          exact UInt8.toNat_inj.1 (by omega)
        subst e
        simp only [h1, if_false, decide_false, Bool.false_or, beq_self_eq_true, Bool.true_and, List.cons.injEq, true_and]
        exact ih

set_option maxHeartbeats 1000000 in
set_option maxRecDepth 100000 in
theorem implCompareB (a b : List UInt8) (w : World) :
    Calls Try.prog 74 #[.string ⟨a.toArray⟩, .string ⟨b.toArray⟩] w fun e w' => e = .returned (.int .i64 (Lib.compareBytes a b)) ∧ w' = w := by
  go_enter Try.func74, Try.ntmps74
  go_wp2
  rw [run_callFunc_extern Try.func92 (by kernel_rfl) (by kernel_rfl) (by kernel_rfl) (e := Extern.BytealgCompare.compare) (by kernel_rfl), Lib.run_compareString]
  simp only [Result.andThen]
  rw [Oper.upon_value]
  go_wp2
  go_ret
  exact ⟨rfl, rfl⟩
set_option maxHeartbeats 1000000 in
set_option maxRecDepth 100000 in
theorem implCompare (a b : List UInt8) (w : World) :
    Calls Try.prog 53 #[.string ⟨a.toArray⟩, .string ⟨b.toArray⟩] w fun e w' => e = .returned (.int .i64 (Lib.compareBytes a b)) ∧ w' = w := by
  go_enter Try.func53, Try.ntmps53
  go_wp2_with (go_at_call 74; refine (implCompareB a b _).mono ?_; rintro e w' ⟨rfl, rfl⟩)
  go_ret
  exact ⟨rfl, rfl⟩
set_option maxHeartbeats 1000000 in
set_option maxRecDepth 100000 in
theorem implNamed1 (n : List UInt8) (ar : Int) (cv : Value) (s : List UInt8) (w : World) :
    Calls Try.prog 52 #[.agg #[.string ⟨n.toArray⟩, .int .i64 ar, cv], .string ⟨s.toArray⟩] w fun e w' => e = .returned (.int .i64 (Lib.compareBytes n s)) ∧ Below w.heap.size w w' := by
  have HB : Hid (Below w.heap.size w (w.alloc (.cells #[.string ⟨n.toArray⟩, .int .i64 ar, cv] 51))) := (Below.refl _ w).alloc (Nat.le_refl _) _
  go_enter Try.func52, Try.ntmps52
  go_wp2_with (go_at_call 53; refine (implCompare n s _).mono ?_; rintro e w' ⟨rfl, rfl⟩)
  go_ret
  exact ⟨rfl, HB.out⟩

/-- Where a routine is found. -/
def NmOut (rs : List Rt) (s : List UInt8) (i : Nat) (b : Bool) : Prop :=
  (b = true ∧ i < rs.length ∧ at14 rs s = (i : Int)) ∨ (b = false ∧ at14 rs s = -1)
def SrOut (w : World) (rs : List Rt) (s : List UInt8) (e : Ending) (w' : World) : Prop := ∃ (i : Nat) (b : Bool), e = .returned (.tuple #[.int .i64 (i : Int), .bool b]) ∧ NmOut rs s i b ∧ Below w.heap.size w w'
set_option maxHeartbeats 4000000 in
set_option maxRecDepth 100000 in
theorem implSearch (a : Option Addr) (cap : Nat) (rs : List Rt) (s : List UInt8) (w : World) (h : RtsCap w a rs.length cap rs) (hr : RiseR rs) (hn : rs.length ≤ 1048576) :
    Calls Try.prog 51 #[.slice a rs.length cap, .string ⟨s.toArray⟩, .func (.func 52) #[] #[]] w fun e w' => SrOut w rs s e w' := by
  have HI : Hid (RtsCap w a rs.length cap rs) := h
  have HR : Hid (RiseR rs) := hr
  have HH0 : Hid (Half rs s 0 rs.length) := Half.start rs s
  have HYes : Hid (∀ i, i < rs.length → (rs.getD i rt0).1 = s → at14 rs s = (i : Int)) := fun i hi e => at14_yes hr hi e
  have HNo : Hid (∀ i, Half rs s i i → (i < rs.length → (rs.getD i rt0).1 ≠ s) → at14 rs s = -1) := fun i h1 h2 => Half.no hr h1 h2
  have HB0 : Hid (Below w.heap.size w w) := Below.refl _ w
  obtain ⟨n, hnn⟩ : ∃ n, rs.length = n := ⟨_, rfl⟩
  have HN : Hid (rs.length = n) := hnn
  rw [hnn] at HI HH0 HYes HNo hn ⊢
  clear h hr hnn
  go_enter Try.func51, Try.ntmps51
  go_wp2
  go_loopw [9, 10] (fun iv jv wr => ∃ lo hi : Nat, iv = .int .i64 (lo : Int) ∧ jv = .int .i64 (hi : Int) ∧ lo ≤ hi ∧ hi ≤ n ∧ Hid (Half rs s lo hi) ∧ Hid (Below w.heap.size w wr)) (fun iv jv _ => (intOf jv).toNat - (intOf iv).toNat)
  case atStart => exact ⟨0, n, rfl, rfl, Nat.zero_le _, Nat.le_refl _, HH0, HB0⟩
  case round =>
    obtain ⟨lo, hi, rfl, rfl, hlh, hin, HF, HB⟩ := hrel
    clear HH0 HB0
    by_cases hlt : (lo : Int) < (hi : Int)
    · obtain ⟨m, hm⟩ : ∃ m, (lo + hi) / 2 = m := ⟨_, rfl⟩
      have hmi : ((lo : Int) + (hi : Int)) / 2 = (m : Int) := by omega
      have hm1 : lo ≤ m := by omega
      have hm2 : m < hi := by omega
      obtain ⟨b, off, rfl, hbl, c0, c1, ca, cl, cc, c2, _, _, _⟩ := (HI.out.below HB.out).2.2.2 m (by omega)
      have hF := HF.out
      have hup := hF.up (m := m) HR.out (by rw [HN.out]; omega)
      have hdn := hF.down (m := m) HR.out
      obtain ⟨r, hrr⟩ : ∃ r, rs.getD m rt0 = r := ⟨_, rfl⟩
      rw [hrr] at c0 c1 hup hdn
      obtain ⟨nm, ar, cd⟩ := r
      simp only at c0 c1 hup hdn
      have hcl := (cmp_less nm s).1
      have HC : Hid (_) := fun W => implNamed1 nm ar (.slice ca cl cc) s W
      generalize Lib.compareBytes nm s = cv at hcl HC
      have eg : ∀ args w, (callFunc 52 args).run Try.prog w = .ok (.enter 52 args) w := enters_of Try.func52 (by kernel_rfl) rfl
      by_cases hc : cv < 0
      · have HF2 : Hid (Half rs s (m + 1) hi) := hup (hcl.1 hc)
        clear hup hdn hF HF hcl hrr hm
        go_wp2_with (go_at_call 52; refine (HC.out _).mono ?_; rintro e w' ⟨rfl, hb1⟩)
        have HB2 : Hid (Below w.heap.size w w') := HB.out.trans (hb1.mono HB.out.size)
        go_roundw
        case rel => exact ⟨m + 1, hi, by go_num, rfl, by omega, hin, HF2, HB2⟩
        case measure => simp [intOf]; omega
      · have hno : Op.bytesLess nm s = false := by
          rcases hx : Op.bytesLess nm s with _ | _
          · rfl
          · exact absurd (hcl.2 hx) hc
        have HF2 : Hid (Half rs s lo m) := hdn hno
        clear hup hdn hF HF hcl hrr hm hno
        go_wp2_with (go_at_call 52; refine (HC.out _).mono ?_; rintro e w' ⟨rfl, hb1⟩)
        have HB2 : Hid (Below w.heap.size w w') := HB.out.trans (hb1.mono HB.out.size)
        go_roundw
        case rel => exact ⟨lo, m, rfl, by go_num, by omega, by omega, HF2, HB2⟩
        case measure => simp [intOf]; omega
    · obtain rfl : hi = lo := by omega
      by_cases hl : (hi : Int) < (n : Int)
      · obtain ⟨b, off, rfl, hbl, c0, c1, ca, cl, cc, c2, _, _, _⟩ := (HI.out.below HB.out).2.2.2 hi (by omega)
        have hyes := HYes.out hi (by omega)
        have hno := HNo.out hi HF.out
        obtain ⟨r, hrr⟩ : ∃ r, rs.getD hi rt0 = r := ⟨_, rfl⟩
        rw [hrr] at c0 c1 hyes hno
        obtain ⟨nm, ar, cd⟩ := r
        simp only at c0 c1 hyes hno
        have hcl := (cmp_less nm s).2
        have HC : Hid (_) := fun W => implNamed1 nm ar (.slice ca cl cc) s W
        generalize Lib.compareBytes nm s = cv at hcl HC
        have eg : ∀ args w, (callFunc 52 args).run Try.prog w = .ok (.enter 52 args) w := enters_of Try.func52 (by kernel_rfl) rfl
        by_cases hc : cv = 0
        · have HO : Hid (NmOut rs s hi true) := Or.inl ⟨rfl, by rw [HN.out]; omega, hyes (hcl.1 hc)⟩
          clear hyes hno hcl hrr
          go_wp2_with (go_at_call 52; refine (HC.out _).mono ?_; rintro e w' ⟨rfl, hb1⟩)
          go_ret2
          unfold SrOut
          exact ⟨hi, true, rfl, HO.out, HB.out.trans (hb1.mono HB.out.size)⟩
        · have HO : Hid (NmOut rs s hi false) := Or.inr ⟨rfl, hno (fun _ e => hc (hcl.2 e))⟩
          have hcb : (cv == 0) = false := beq_eq_false_iff_ne.2 hc
          clear hyes hno hcl hrr
          go_wp2_with (go_at_call 52; refine (HC.out _).mono ?_; rintro e w' ⟨rfl, hb1⟩)
          go_ret2
          unfold SrOut
          exact ⟨hi, false, rfl, HO.out, HB.out.trans (hb1.mono HB.out.size)⟩
      · have HO : Hid (NmOut rs s hi false) := Or.inr ⟨rfl, HNo.out hi HF.out (fun e => by omega)⟩
        go_wp2
        go_ret2
        unfold SrOut
        exact ⟨hi, false, rfl, HO.out, HB.out⟩

/-- What routineNamed gives. -/
def NdOut (w : World) (a : Option Addr) (rs : List Rt) (s : List UInt8) (e : Ending) : Prop :=
  (at14 rs s = -1 ∧ e = .returned (.tuple #[.agg #[.string ⟨#[]⟩, .int .i64 0, .slice none 0 0], .bool false])) ∨
  (∃ (i : Nat) (b off : Nat) (ca : Option Addr) (cl cc : Nat), i < rs.length ∧ at14 rs s = (i : Int) ∧ a = some ⟨b, off, none⟩ ∧ w.cell? ⟨b, off + i * 3 + 2, none⟩ = some (.slice ca cl cc) ∧ InsIn w ca cl (rs.getD i rt0).2.2 ∧ cl ≤ cc ∧ cc ≤ maxLen ∧
    e = .returned (.tuple #[.agg #[.string ⟨(rs.getD i rt0).1.toArray⟩, .int .i64 (rs.getD i rt0).2.1, .slice ca cl cc], .bool true]))
set_option maxHeartbeats 2000000 in
set_option maxRecDepth 100000 in
theorem implNamed (a : Option Addr) (cap : Nat) (rs : List Rt) (s : List UInt8) (w : World) (h : RtsCap w a rs.length cap rs) (hr : RiseR rs) (hn : rs.length ≤ 1048576) :
    Calls Try.prog 23 #[.slice a rs.length cap, .string ⟨s.toArray⟩] w fun e w' => NdOut w a rs s e ∧ Below w.heap.size w w' := by
  obtain ⟨W, hW⟩ : ∃ W, w.alloc (.cells #[.string ⟨#[]⟩, .int .i64 0, .slice none 0 0] 51) = W := ⟨_, rfl⟩
  have hb : Below w.heap.size w W := by rw [← hW]; exact (Below.refl _ _).alloc (Nat.le_refl _) _
  have hR : W.heap[w.heap.size]? = some (.cells #[.string ⟨#[]⟩, .int .i64 0, .slice none 0 0] 51) := by rw [← hW]; exact heap_alloc_new w _
  have hsW : W.heap.size = w.heap.size + 1 := by rw [← hW]; simp
  have HI : Hid (RtsCap w a rs.length cap rs) := h
  have HC : Hid (_) := implSearch a cap rs s W (h.below hb) hr hn
  obtain ⟨n, hnn⟩ : ∃ n, rs.length = n := ⟨_, rfl⟩
  have HN : Hid (rs.length = n) := hnn
  rw [hnn] at HI HC hn ⊢
  obtain ⟨D, hD⟩ : ∃ D, w.heap.size = D := ⟨_, rfl⟩
  rw [hD] at hR hsW hb
  clear h hr hnn
  go_enter Try.func23, Try.ntmps23
  go_wp2_with fail
  refine Calls.mono HC.out ?_
  rintro e w1 ⟨i, b, rfl, hO, hb1⟩
  obtain ⟨r0, r1, r2, fr⟩ := threeR hb1 (by omega) hR
  have f0 := fr 0
  have f1 := fr 1
  have f2 := fr 2
  have HBd : Hid (Below D w w1) := hb.trans (hb1.mono (by omega))
  have hsd : D + 1 ≤ w1.heap.size := by have := hb1.size; omega
  rcases hO with ⟨rfl, hi, hat⟩ | ⟨rfl, hat⟩
  · rw [HN.out] at hi
    have HBw : Hid (Below w.heap.size w w1) := by rw [hD]; exact HBd
    obtain ⟨b, off, rfl, hbl, c0, c1, ca, cl, cc, c2, hin, hcc, hcm⟩ := (HI.out.below HBw.out).2.2.2 i hi
    obtain ⟨b', off', e', hbl', _, _, ca', cl', cc', c2', hin', _, _⟩ := HI.out.2.2.2 i hi
    injection e' with e'
    injection e' with e1 e2 _
    subst e1 e2
    have e3 : w1.cell? ⟨b, off + i * 3 + 2, none⟩ = w.cell? ⟨b, off + i * 3 + 2, none⟩ := HBw.out.cell (p := ⟨b, off + i * 3 + 2, none⟩) hbl'
    rw [c2', c2] at e3
    injection e3 with e3
    injection e3 with e4 e5 e6
    subst e4 e5 e6
    have HO : Hid (NdOut w (some ⟨b, off, none⟩) rs s (.returned (.tuple #[.agg #[.string ⟨(rs.getD i rt0).1.toArray⟩, .int .i64 (rs.getD i rt0).2.1, .slice ca cl cc], .bool true]))) :=
      Or.inr ⟨i, b, off, ca, cl, cc, by rw [HN.out]; exact hi, hat, rfl, c2', hin', hcc, hcm, rfl⟩
    generalize (rs.getD i rt0).1 = nm at c0 HO
    generalize (rs.getD i rt0).2.1 = ar at c1 HO
    have hne : b ≠ D := by omega
    clear hin hin' hat hb1 fr hR hb HI c2'
    go_wp2
    obtain ⟨Y, hY, y0, y1, y2, hg⟩ := set3R (.string ⟨nm.toArray⟩) (.int .i64 ar) (.slice ca cl cc) r0 r1 r2
    rw [hY]
    refine bodyPost_ret (v := .tuple #[.agg #[.string ⟨nm.toArray⟩, .int .i64 ar, .slice ca cl cc], .bool true]) (by simp [results, Try.results23, go_sem, y0, y1, y2]) rfl ?_
    exact ⟨HO.out, by rw [hD]; exact HBd.out.grown hg (by omega) (fun k e => by injection e with e; omega)⟩
  · have HO : Hid (NdOut w a rs s (.returned (.tuple #[.agg #[.string ⟨#[]⟩, .int .i64 0, .slice none 0 0], .bool false]))) := Or.inl ⟨hat, rfl⟩
    clear hat hb1 fr hR hb HI
    go_wp2
    obtain ⟨Y, hY, y0, y1, y2, hg⟩ := set3R (.string ⟨#[]⟩) (.int .i64 0) (.slice none 0 0) r0 r1 r2
    rw [hY]
    refine bodyPost_ret (v := .tuple #[.agg #[.string ⟨#[]⟩, .int .i64 0, .slice none 0 0], .bool false]) (by simp [results, Try.results23, go_sem, y0, y1, y2]) rfl ?_
    exact ⟨HO.out, by rw [hD]; exact HBd.out.grown hg (by omega) (fun k e => by injection e with e; omega)⟩

end Go.Proofs.Ytnflkecnddbhoaa

/-! The contracts of chapter 4's landed code: WordOk, Wrap, Done. -/
namespace Go.Proofs.Ytnflkecnddbhoaa
open Go.RowKit

set_option maxHeartbeats 400000 in
set_option maxRecDepth 100000 in
theorem implWordOkS (n : Int) (w : World) : Calls Try.prog 54 #[.int .i64 n] w fun e w' => e = .returned (.bool (inB n (-2147483648) 2147483647)) ∧ w' = w := by
  by_cases h1 : -2147483648 ≤ n
  · by_cases h2 : n ≤ 2147483647
    · have hB : Hid (inB n (-2147483648) 2147483647 = true) := inB_yes _ _ _ h1 h2
      go_enter Try.func54, Try.ntmps54
      go_wp2
      go_ret
      exact ⟨by rw [hB.out]; rfl, rfl⟩
    · have hB : Hid (inB n (-2147483648) 2147483647 = false) := inB_no _ _ _ (Or.inr (by omega))
      go_enter Try.func54, Try.ntmps54
      go_wp2
      go_ret
      exact ⟨by rw [hB.out]; rfl, rfl⟩
  · have hB : Hid (inB n (-2147483648) 2147483647 = false) := inB_no _ _ _ (Or.inl (by omega))
    go_enter Try.func54, Try.ntmps54
    go_wp2
    go_ret
    exact ⟨by rw [hB.out]; rfl, rfl⟩

theorem implWordOk (n : Int) (w : World) (_h : -9223372036854775808 ≤ n ∧ n ≤ 9223372036854775807) : Calls Try.prog 54 #[.int .i64 n] w fun e w' => e = .returned (.bool (inB n (-2147483648) 2147483647)) ∧ Below w.heap.size w w' :=
  (implWordOkS n w).mono fun _ _ h => ⟨h.1, by rw [h.2]; exact Below.refl _ _⟩

set_option maxHeartbeats 400000 in
set_option maxRecDepth 100000 in
theorem implWrapS (n : Int) (w : World) : Calls Try.prog 106 #[.int .i64 n] w fun e w' => e = .returned (.int .i64 (wrapW n)) ∧ w' = w := by
  go_enter Try.func106, Try.ntmps106
  go_wp2
  go_ret
  exact ⟨ret_int (wrapWW n), rfl⟩

theorem implWrap (n : Int) (w : World) (_h : -9223372036854775808 ≤ n ∧ n ≤ 9223372036854775807) : Calls Try.prog 106 #[.int .i64 n] w fun e w' => e = .returned (.int .i64 (wrapW n)) ∧ Below w.heap.size w w' :=
  (implWrapS n w).mono fun _ _ h => ⟨h.1, by rw [h.2]; exact Below.refl _ _⟩

set_option maxHeartbeats 2000000 in
set_option maxRecDepth 100000 in
theorem implDoneS (kind a b : Int) (w : World) :
    Calls Try.prog 94 #[.int .i64 kind, .int .i64 a, .int .i64 b] w fun e w' => e = .returned (.tuple #[.int .i64 (doneV kind a b), .bool (doneB kind a b)]) ∧ w' = w := by
  by_cases ha : -2147483648 ≤ a ∧ a ≤ 2147483647
  · have da : inB a (-2147483648) 2147483647 = true := inB_yes _ _ _ ha.1 ha.2
    by_cases hb : -2147483648 ≤ b ∧ b ≤ 2147483647
    · have db : inB b (-2147483648) 2147483647 = true := inB_yes _ _ _ hb.1 hb.2
      obtain ⟨h3, h4, h5, h6, h0⟩ := done_in kind a b ⟨ha, hb⟩
      obtain ⟨hm1, hm2⟩ := mul_bd a b ha hb
      obtain ⟨ha1, ha2⟩ := ha
      obtain ⟨hb1, hb2⟩ := hb
      by_cases k4 : kind = 4
      · have HO : Hid (doneV kind a b = wrapW (a + -b) ∧ doneB kind a b = true) := h4 k4
        clear h3 h4 h5 h6 h0
        subst k4
        go_enter Try.func94, Try.ntmps94
        go_wp2_with (first | (go_at_call 106; refine (implWrapS _ _).mono ?_; rintro e w' ⟨rfl, rfl⟩) | (go_at_call 54; refine (implWordOkS _ _).mono ?_; rintro e w' ⟨rfl, rfl⟩))
        go_ret2
        exact ⟨by rw [HO.out.1, HO.out.2]; rfl, rfl⟩
      · have d4 : (kind == 4) = false := beq_eq_false_iff_ne.2 k4
        by_cases k3 : kind = 3
        · have HO : Hid (doneV kind a b = wrapW (a + b) ∧ doneB kind a b = true) := h3 k3
          clear h3 h4 h5 h6 h0 d4 k4
          subst k3
          go_enter Try.func94, Try.ntmps94
          go_wp2_with (first | (go_at_call 106; refine (implWrapS _ _).mono ?_; rintro e w' ⟨rfl, rfl⟩) | (go_at_call 54; refine (implWordOkS _ _).mono ?_; rintro e w' ⟨rfl, rfl⟩))
          go_ret2
          exact ⟨by rw [HO.out.1, HO.out.2]; rfl, rfl⟩
        · have d3 : (kind == 3) = false := beq_eq_false_iff_ne.2 k3
          by_cases k5 : kind = 5
          · have HO : Hid (doneV kind a b = wrapW (a * b) ∧ doneB kind a b = true) := h5 k5
            clear h3 h4 h5 h6 h0 d3 k3 d4 k4
            subst k5
            go_enter Try.func94, Try.ntmps94
            go_wp2_with (first | (go_at_call 106; refine (implWrapS _ _).mono ?_; rintro e w' ⟨rfl, rfl⟩) | (go_at_call 54; refine (implWordOkS _ _).mono ?_; rintro e w' ⟨rfl, rfl⟩))
            go_ret2
            exact ⟨by rw [HO.out.1, HO.out.2]; rfl, rfl⟩
          · have d5 : (kind == 5) = false := beq_eq_false_iff_ne.2 k5
            by_cases k6 : kind = 6
            · by_cases kb : b = 0
              · have HO : Hid (doneV kind a b = 0 ∧ doneB kind a b = false) := h0 k3 k4 k5 (fun h => h.2 kb)
                clear h3 h4 h5 h6 h0 d3 k3 d4 k4 d5 k5
                subst k6 kb
                go_enter Try.func94, Try.ntmps94
                go_wp2_with (first | (go_at_call 106; refine (implWrapS _ _).mono ?_; rintro e w' ⟨rfl, rfl⟩) | (go_at_call 54; refine (implWordOkS _ _).mono ?_; rintro e w' ⟨rfl, rfl⟩))
                go_ret2
                exact ⟨by rw [HO.out.1, HO.out.2]; rfl, rfl⟩
              · have HO : Hid (doneV kind a b = wrapW (a.tdiv b) ∧ doneB kind a b = true) := h6 k6 kb
                have dz : (b == 0) = false := beq_eq_false_iff_ne.2 kb
                have dy : (b != 0) = true := bne_iff_ne.2 kb
                obtain ⟨hq1, hq2⟩ := tdiv_bd a b ⟨ha1, ha2⟩
                clear h3 h4 h5 h6 h0 d3 k3 d4 k4 d5 k5
                subst k6
                go_enter Try.func94, Try.ntmps94
                go_wp2_with (first | (go_at_call 106; refine (implWrapS _ _).mono ?_; rintro e w' ⟨rfl, rfl⟩) | (go_at_call 54; refine (implWordOkS _ _).mono ?_; rintro e w' ⟨rfl, rfl⟩))
                go_ret2
                exact ⟨by rw [HO.out.1, HO.out.2]; rfl, rfl⟩
            · have HO : Hid (doneV kind a b = 0 ∧ doneB kind a b = false) := h0 k3 k4 k5 (fun h => k6 h.1)
              have d6 : (kind == 6) = false := beq_eq_false_iff_ne.2 k6
              clear h3 h4 h5 h6 h0 k3 k4 k5 k6
              go_enter Try.func94, Try.ntmps94
              go_wp2_with (first | (go_at_call 106; refine (implWrapS _ _).mono ?_; rintro e w' ⟨rfl, rfl⟩) | (go_at_call 54; refine (implWordOkS _ _).mono ?_; rintro e w' ⟨rfl, rfl⟩))
              go_ret2
              exact ⟨by rw [HO.out.1, HO.out.2]; rfl, rfl⟩
    · have db : inB b (-2147483648) 2147483647 = false := inB_no _ _ _ (by omega)
      have HO : Hid (doneV kind a b = 0 ∧ doneB kind a b = false) := done_no kind a b (fun h => hb h.2)
      clear ha hb
      go_enter Try.func94, Try.ntmps94
      go_wp2_with (first | (go_at_call 106; refine (implWrapS _ _).mono ?_; rintro e w' ⟨rfl, rfl⟩) | (go_at_call 54; refine (implWordOkS _ _).mono ?_; rintro e w' ⟨rfl, rfl⟩))
      go_ret2
      exact ⟨by rw [HO.out.1, HO.out.2]; rfl, rfl⟩
  · have da : inB a (-2147483648) 2147483647 = false := inB_no _ _ _ (by omega)
    have HO : Hid (doneV kind a b = 0 ∧ doneB kind a b = false) := done_no kind a b (fun h => ha h.1)
    clear ha
    go_enter Try.func94, Try.ntmps94
    go_wp2_with (first | (go_at_call 106; refine (implWrapS _ _).mono ?_; rintro e w' ⟨rfl, rfl⟩) | (go_at_call 54; refine (implWordOkS _ _).mono ?_; rintro e w' ⟨rfl, rfl⟩))
    go_ret2
    exact ⟨by rw [HO.out.1, HO.out.2]; rfl, rfl⟩

theorem implDone (kind a b : Int) (w : World) (_hk : -9223372036854775808 ≤ kind ∧ kind ≤ 9223372036854775807) (_ha : -9223372036854775808 ≤ a ∧ a ≤ 9223372036854775807) (_hb : -9223372036854775808 ≤ b ∧ b ≤ 9223372036854775807) :
    Calls Try.prog 94 #[.int .i64 kind, .int .i64 a, .int .i64 b] w fun e w' => e = .returned (.tuple #[.int .i64 (doneV kind a b), .bool (doneB kind a b)]) ∧ Below w.heap.size w w' :=
  (implDoneS kind a b w).mono fun _ _ h => ⟨h.1, by rw [h.2]; exact Below.refl _ _⟩

end Go.Proofs.Ytnflkecnddbhoaa

/-! A scope in which the run jumps to several labels: what holds at every jump to each of them, and a measure that every pass from a label lowers. -/
namespace Go.Proofs.Ytnflkecnddbhoaa
open Go.RowKit

/-- As Q; by a goto to label l: J l. -/
def Hops (J : Nat → Act → World → Prop) (Q : Exit → Act → World → Prop) : Exit → Act → World → Prop
  | .goto l, a, w => J l a w
  | e, a, w => Q e a w

theorem hops_goto {J : Nat → Act → World → Prop} {Q : Exit → Act → World → Prop} {l : Nat} {a : Act} {w : World} (h : J l a w) : Hops J Q (.goto l) a w := h
theorem hops_ret {J : Nat → Act → World → Prop} {Q : Exit → Act → World → Prop} {a : Act} {w : World} (h : Q .ret a w) : Hops J Q .ret a w := h

theorem hops_mono {J J' : Nat → Act → World → Prop} {Q : Exit → Act → World → Prop} (h : ∀ l a w, J l a w → J' l a w) : ∀ e a w, Hops J Q e a w → Hops J' Q e a w := by
  intro e a w hq
  cases e with
  | goto l => exact h l a w hq
  | _ => exact hq

/-- At each label what holds there (J), and a measure (μ) that every jump lowers; a run that falls into a label from above goes on as one that jumped there. -/
theorem wp_scope_hops {P : Program} {a : Act} {w : World} {Q : Exit → Act → World → Prop} {c : Go.Code} (J : Nat → Act → World → Prop) (μ : Nat → Act → World → Nat)
    (pass : ∀ l a w, J l a w → (∀ l' a' w', J l' a' w' → μ l' a' w' < μ l a w → ∀ R, findLabel c l' = some (.seq .skip R) → R.wp P (Hops (fun l₂ a₂ w₂ => J l₂ a₂ w₂ ∧ μ l₂ a₂ w₂ < μ l a w) Q) a' w') →
      ∃ R, findLabel c l = some (.seq .skip R) ∧ R.wp P (Hops (fun l' a' w' => J l' a' w' ∧ μ l' a' w' < μ l a w) Q) a w)
    (first : (∀ l a w, J l a w → ∀ R, findLabel c l = some (.seq .skip R) → R.wp P (Hops J Q) a w) → c.wp P (Hops J Q) a w) : (Code.scope c).wp P Q a w := by
  have all : ∀ n l a w, μ l a w = n → J l a w → ∃ R, findLabel c l = some (.seq .skip R) ∧ R.wp P (Hops (fun l' a' w' => J l' a' w' ∧ μ l' a' w' < μ l a w) Q) a w := by
    intro n
    induction n using Nat.strongRecOn with
    | _ n ih =>
      intro l a w hn hJ
      refine pass l a w hJ fun l' a' w' hJ' hlt R hf => ?_
      obtain ⟨R', hf', hw⟩ := ih _ (by omega) l' a' w' rfl hJ'
      rw [hf] at hf'
      cases hf'
      exact wp_mono hw (hops_mono fun l₂ a₂ w₂ h => ⟨h.1, Nat.lt_trans h.2 hlt⟩)
  intro b k cs
  have key : ∀ n l a w, μ l a w = n → J l a w → ∃ rest, findLabel c l = some rest ∧ ∃ e a' w', Q e a' w' ∧ Arrives P (lone (b.at a (.code rest :: .inScope c :: k)) cs w) b k cs e a' w' := by
    intro n
    induction n using Nat.strongRecOn with
    | _ n ih =>
      intro l a w hn hJ
      obtain ⟨R, hf, hR⟩ := all _ l a w rfl hJ
      have hp : (Code.seq .skip R).wp P (Hops (fun l' a' w' => J l' a' w' ∧ μ l' a' w' < μ l a w) Q) a w := wp_seq (wp_skip hR)
      refine ⟨_, hf, ?_⟩
      obtain ⟨e, a₁, w₁, hq, harr⟩ := hp b (.inScope c :: k) cs
      cases e with
      | normal => exact ⟨.normal, a₁, w₁, hq, Steps.trans harr (.one step_inScope)⟩
      | exit id => exact ⟨.exit id, a₁, w₁, hq, fun k' hk => harr k' (by simp [exitTo, hk])⟩
      | goto l' =>
        obtain ⟨hJ', hlt⟩ := hq
        obtain ⟨rest', hf', e₂, a₂, w₂, hq₂, harr₂⟩ := ih _ (by omega) l' a₁ w₁ rfl hJ'
        exact ⟨e₂, a₂, w₂, hq₂, .of_steps (harr _ (by simp [gotoIn, hf'])) harr₂⟩
      | ret => exact ⟨_, a₁, w₁, hq, harr⟩
      | panic ch => exact ⟨_, a₁, w₁, hq, harr⟩
      | outgrown => exact ⟨_, a₁, w₁, hq, harr⟩
  have first' := first fun l a w hJ R hf => by
    obtain ⟨R', hf', hw⟩ := all _ l a w rfl hJ
    rw [hf] at hf'
    cases hf'
    exact wp_mono hw (hops_mono fun l₂ a₂ w₂ h => h.1)
  obtain ⟨e, a₁, w₁, hq, harr⟩ := first' b (.inScope c :: k) cs
  cases e with
  | normal => exact ⟨.normal, a₁, w₁, hq, .head step_scope (Steps.trans harr (.one step_inScope))⟩
  | exit id => exact ⟨.exit id, a₁, w₁, hq, fun k' hk => .head step_scope (harr k' (by simp [exitTo, hk]))⟩
  | goto l' =>
    obtain ⟨rest', hf', e₂, a₂, w₂, hq₂, harr₂⟩ := key _ l' a₁ w₁ rfl hq
    exact ⟨e₂, a₂, w₂, hq₂, .of_steps (.head step_scope (harr _ (by simp [gotoIn, hf']))) harr₂⟩
  | ret => exact ⟨_, a₁, w₁, hq, .of_steps (.one step_scope) harr⟩
  | panic ch => exact ⟨_, a₁, w₁, hq, .of_steps (.one step_scope) harr⟩
  | outgrown => exact ⟨_, a₁, w₁, hq, .of_steps (.one step_scope) harr⟩

end Go.Proofs.Ytnflkecnddbhoaa

/-! The contract of strings.Clone: the same bytes, in memory of their own. -/
namespace Go.Proofs.Ytnflkecnddbhoaa
open Go.RowKit

theorem infoByte : (Try.prog.info? 5).map (fun i => (i.zero, i.size, i.bytes)) = some (some (.int .u8 0), 1, 1) := by kernel_rfl


end Go.Proofs.Ytnflkecnddbhoaa

/-! The contracts of chapter 5's landed code: the pieces between marks (labels and gotos), Lines, Words, NameOk, NumberOf. -/
namespace Go.Proofs.Ytnflkecnddbhoaa
open Go.RowKit




set_option maxHeartbeats 1000000 in
set_option maxRecDepth 100000 in
theorem implNameOkS (l : List UInt8) (w : World) (hl : l.length ≤ 1048576) :
    Calls Try.prog 39 #[.string ⟨l.toArray⟩] w fun e w' => e = .returned (.bool (nameB l)) ∧ w' = w := by
  go_enter Try.func39, Try.ntmps39
  go_wp2
  go_loop [6] (fun ix => ∃ k : Nat, k ≤ l.length ∧ ix = .int .i64 k ∧ Hid (∀ j (hj : j < l.length), j < k → 97 ≤ l[j].toNat ∧ l[j].toNat ≤ 122)) (fun ix => l.length - (intOf ix).toNat)
  case atStart => exact ⟨0, Nat.zero_le _, rfl, (fun j _ h => by omega : ∀ j (hj : j < l.length), j < 0 → _)⟩
  case round =>
    obtain ⟨k, hk, rfl, HK⟩ := hrel
    by_cases hkl : (k : Int) < (l.length : Int)
    · have hk2 : k < l.length := by omega
      obtain ⟨x, hx⟩ : ∃ x : UInt8, l[k] = x := ⟨_, rfl⟩
      have hxb : (⟨l.toArray⟩ : ByteArray)[k]'(by show k < l.toArray.size; simpa using hk2) = x := hx
      by_cases h1 : (x.toNat : Int) < 97
      · have HF : Hid (nameB l = false) := name_bad l k hk2 (by rw [hx]; omega)
        clear hx
        go_wp2
        go_ret
        exact ⟨by rw [HF.out]; rfl, rfl⟩
      · by_cases h2 : 122 < (x.toNat : Int)
        · have HF : Hid (nameB l = false) := name_bad l k hk2 (by rw [hx]; omega)
          clear hx
          go_wp2
          go_ret
          exact ⟨by rw [HF.out]; rfl, rfl⟩
        · have HS : Hid (∀ j (hj : j < l.length), j < k + 1 → 97 ≤ l[j].toNat ∧ l[j].toNat ≤ 122) := fun j hj hjk => by
            by_cases e : j = k
            · subst e; rw [hx]; omega
            · exact HK.out j hj (by omega)
          clear hx
          go_wp2
          go_round
          case rel => exact ⟨k + 1, by omega, by go_num, HS⟩
          case measure => simp [intOf]; omega
    · have HF : Hid (nameB l = inB (l.length : Int) 1 8) := name_good l (fun j hj => HK.out j hj (by omega))
      by_cases h1 : 1 ≤ (l.length : Int)
      · by_cases h2 : (l.length : Int) ≤ 8
        · have HB : Hid (inB (l.length : Int) 1 8 = true) := inB_yes _ _ _ h1 h2
          go_wp2
          go_ret
          exact ⟨by rw [HF.out, HB.out]; rfl, rfl⟩
        · have HB : Hid (inB (l.length : Int) 1 8 = false) := inB_no _ _ _ (by omega)
          go_wp2
          go_ret
          exact ⟨by rw [HF.out, HB.out]; rfl, rfl⟩
      · have HB : Hid (inB (l.length : Int) 1 8 = false) := inB_no _ _ _ (by omega)
        go_wp2
        go_ret
        exact ⟨by rw [HF.out, HB.out]; rfl, rfl⟩

theorem implNameOk (l : List UInt8) (w : World) (hl : l.length ≤ 1048576) :
    Calls Try.prog 39 #[.string ⟨l.toArray⟩] w fun e w' => e = .returned (.bool (nameB l)) ∧ Below w.heap.size w w' :=
  (implNameOkS l w hl).mono fun _ _ h => ⟨h.1, by rw [h.2]; exact Below.refl _ _⟩



end Go.Proofs.Ytnflkecnddbhoaa

/-! The functions of this program that are the library's are the ones that the library has contracts of: number by number, type by type; and these contracts, at this program. -/
namespace Go.Proofs
open Go.Shelf
def Try.lays219_ren : Go.Shelf.Ren := ⟨fun | 219 => 99 | 217 => 109 | 225 => 110 | 224 => 111 | 267 => 112 | 266 => 129 | 314 => 130 | n => n, fun | 9 => 9 | 3 => 3 | 4 => 4 | 5 => 5 | 46 => 127 | 146 => 162 | 51 => 161 | n => n, fun | 1 => 0 | n => n⟩
theorem Try.lays219 : Go.Proofs.Lays.n219 Try.prog Try.lays219_ren := {
  mixed := by kernel_rfl
  f217 := Try.func109.trans (congrArg some (by kernel_rfl))
  f219 := Try.func99.trans (congrArg some (by kernel_rfl))
  f224 := Try.func111.trans (congrArg some (by kernel_rfl))
  f225 := Try.func110.trans (congrArg some (by kernel_rfl))
  f266 := Try.func129.trans (congrArg some (by kernel_rfl))
  f267 := Try.func112.trans (congrArg some (by kernel_rfl))
  f314 := Try.func130.trans (congrArg some (by kernel_rfl))
  t3 := Try.underlying3
  a3 := Try.isAgg3
  z3 := Try.sizeOf3
  v3 := Try.zeroValue3
  t4 := Try.underlying4
  a4 := Try.isAgg4
  z4 := Try.sizeOf4
  v4 := Try.zeroValue4
  t5 := Try.underlying5
  a5 := Try.isAgg5
  z5 := Try.sizeOf5
  v5 := Try.zeroValue5
  t9 := Try.underlying9
  a9 := Try.isAgg9
  z9 := Try.sizeOf9
  v9 := Try.zeroValue9
  t46 := Try.underlying127
  a46 := Try.isAgg127
  z46 := Try.sizeOf127
  v46 := Try.zeroValue127
  t51 := Try.underlying161
  a51 := Try.isAgg161
  z51 := Try.sizeOf161
  v51 := Try.zeroValue161
  t146 := Try.underlying162
  a146 := Try.isAgg162
  z146 := Try.sizeOf162
  v146 := Try.zeroValue162
  g1 := by kernel_rfl }
open Go.RowKit Go.Lib in
/-- internal/stringslite.Index (what strings.Index calls) AT A substr OF ONE BYTE c: IT RETURNS 'Lib.indexByte s c'; the world is as it was. (LAID: no walk: one application.) -/
theorem Try.stringslite_Index_one (s : ByteArray) (c : UInt8) (w : World) :
    Calls Try.prog 99 #[.string s, .string ⟨#[c]⟩] w fun e w' => e = .returned (.int .i64 (Lib.indexByte s.data.toList c)) ∧ w' = w := Any.stringslite_Index_one Try.lays219 s c w
end Go.Proofs
