/-
  Parts of one proof, one behind the other: InsY, RtL, InsZ.
-/
import Derived.Test.YthjemelnbbpdcaaP18

/-! The laws' own helpers over rows of instructions: szInsS, toInsS, eqIns, eqInsS; a row that came in. -/
namespace Go.Proofs.Ythjemelnbbpdcaa
open Go.ChangeShapes Go.WideShapes Go.ChangeAt Go.RowKit Go.Joins Go.Deep

def textsI : List In13 → Nat
  | [] => 0
  | n :: r => n.2.2.2.2.length + textsI r
theorem textsI_append (x y : List In13) : textsI (x ++ y) = textsI x + textsI y := by
  induction x with
  | nil => simp [textsI]
  | cons n r ih => simp only [List.cons_append, textsI, ih]; omega
theorem textsI_snoc (ns : List In13) (k : Nat) (hk : k < ns.length) : textsI (ns.take (k + 1)) = textsI (ns.take k) + (ns.getD k in0).2.2.2.2.length := by
  have hg : ns.getD k in0 = ns[k] := by simp [List.getD, hk]
  rw [hg, List.take_succ_eq_append_getElem hk, textsI_append]
  simp [textsI]
theorem textsI_take (ns : List In13) (k : Nat) : textsI (ns.take k) ≤ textsI ns := by
  have := textsI_append (ns.take k) (ns.drop k)
  rw [List.take_append_drop] at this
  omega
theorem textsI_at (ns : List In13) (j : Nat) : (ns.getD j in0).2.2.2.2.length ≤ textsI ns := by
  by_cases hj : j < ns.length
  · have h1 := textsI_snoc ns j hj
    have h2 := textsI_take ns (j + 1)
    omega
  · have : ns.getD j in0 = in0 := by rw [List.getD, List.getElem?_eq_none (by omega)]; rfl
    rw [this]; simp [in0]
theorem shortI_of {ns : List In13} (h : textsI ns ≤ 1048576) : ShortI ns := fun j => by have := textsI_at ns j; omega
theorem szI_yes {m : Nat} {left : Int} (h : (m : Int) ≤ left) : szI m left = left - (m : Int) := by unfold szI; rw [if_pos h]
theorem szI_no {m : Nat} {left : Int} (h : ¬ (m : Int) ≤ left) : szI m left = -1 := by unfold szI; rw [if_neg h]
def LongI (is : List In13) : Prop := ∀ j, (is.getD j in0).2.2.2.2.length ≤ maxLen
def IntIs (is : List In13) : Prop := ∀ j, IntI (is.getD j in0)
theorem intI_in0 : IntI in0 := by unfold IntI in0; decide

theorem InsIn.at {w : World} {a : Option Addr} {len : Nat} {is : List In13} (h : InsIn w a len is) (hz : 0 < len) : ∃ b off, a = some ⟨b, off, none⟩ ∧ b < w.heap.size ∧
    ∀ j, j < len → w.cell? ⟨b, off + j * 5, none⟩ = some (.int .i64 (is.getD j in0).1) ∧ w.cell? ⟨b, off + j * 5 + 1, none⟩ = some (.int .i64 (is.getD j in0).2.1) ∧ w.cell? ⟨b, off + j * 5 + 2, none⟩ = some (.int .i64 (is.getD j in0).2.2.1) ∧ w.cell? ⟨b, off + j * 5 + 3, none⟩ = some (.int .i64 (is.getD j in0).2.2.2.1) ∧ w.cell? ⟨b, off + j * 5 + 4, none⟩ = some (.string ⟨(is.getD j in0).2.2.2.2.toArray⟩) := by
  obtain ⟨b, off, rfl, hb, _⟩ := h.2 0 hz
  refine ⟨b, off, rfl, hb, fun j hj => ?_⟩
  obtain ⟨b', off', e, _, c⟩ := h.2 j hj
  simp only [Option.some.injEq, Addr.mk.injEq, and_true] at e
  obtain ⟨rfl, rfl⟩ := e
  exact c

set_option maxHeartbeats 2000000 in
set_option maxRecDepth 100000 in
theorem szInsSC (a : Option Addr) (len cap : Nat) (ns : List In13) (left : Int) (w : World) (hin : InsIn w a len ns) (h0 : 0 ≤ left) (h1 : left ≤ 1048576) (hlm : len ≤ maxLen) (hm : LongI ns) :
    Calls Try.prog 65 #[.slice a len cap, .int .i64 left] w fun e w' => e = .returned (.int .i64 (szN len (textsI ns) left)) ∧ Below w.heap.size w w' := by
  have hlb := hin.1
  unfold maxLen at hlm
  have hl2 : (len : Int) ≤ 9223372036854775807 := by omega
  by_cases hA : (len : Int) ≤ left
  · have HI : Hid (InsIn w a len ns) := hin
    have HM : Hid (LongI ns) := hm
    clear hin hm
    go_enter Try.func65, Try.ntmps65
    go_wp2
    go_loopw [1, 5] (fun l i wr => ∃ k : Nat, k ≤ len ∧ i = .int .i64 k ∧ l = .int .i64 (left - (len : Int) - (textsI (ns.take k) : Int)) ∧ (textsI (ns.take k) : Int) ≤ left - (len : Int) ∧ Below w.heap.size w wr) (fun _ i _ => len - (intOf i).toNat)
    case atStart => exact ⟨0, Nat.zero_le _, rfl, by simp [textsI], by simp [textsI]; omega, Below.refl _ _⟩
    case round =>
      obtain ⟨k, hk, rfl, rfl, hle, hB⟩ := hrel
      by_cases hkl : (k : Int) < (len : Int)
      · obtain ⟨b, off, rfl, hbl, hcells⟩ := (HI.out.below hB).at (by omega)
        obtain ⟨c0, c1, c2, c3, c4⟩ := hcells k (by omega)
        have hmk := HM.out k
        have hst := textsI_snoc ns k (by omega)
        have htt := textsI_take ns (k + 1)
        obtain ⟨n, hn⟩ : ∃ n, ns.getD k in0 = n := ⟨_, rfl⟩
        rw [hn] at c0 c1 c2 c3 c4 hmk hst
        obtain ⟨kd, r, aa, bb, s⟩ := n
        simp only at c0 c1 c2 c3 c4 hmk hst
        obtain ⟨m, hmm⟩ : ∃ m, textsI (ns.take k) = m := ⟨_, rfl⟩
        rw [hmm] at hle hst ⊢
        have HS : Hid (textsI (ns.take (k + 1)) = m + s.length) := hst
        clear hst hn hcells hmm
        by_cases hfit : (s.length : Int) ≤ left - (len : Int) - (m : Int)
        · have HZ : Hid (szI s.length (left - (len : Int) - (m : Int)) = left - (len : Int) - (textsI (ns.take (k + 1)) : Int)) := by
            exact (by rw [HS.out, szI_yes (by omega)]; omega : szI s.length (left - (len : Int) - (m : Int)) = left - (len : Int) - (textsI (ns.take (k + 1)) : Int))
          go_wp2_with fail
          refine (szInsC kd r aa bb _ s _ (by omega) (by omega) hmk).mono ?_
          rintro e w1 ⟨rfl, hb1⟩
          rw [HZ.out]
          have hle2 : (textsI (ns.take (k + 1)) : Int) ≤ left - (len : Int) := by rw [HS.out]; omega
          have hge : (0 : Int) ≤ left - (len : Int) - (textsI (ns.take (k + 1)) : Int) := by omega
          go_wp2
          go_roundw
          case rel => exact ⟨k + 1, by omega, by go_num, rfl, hle2, hB.trans (hb1.mono hB.size)⟩
          case measure => simp [intOf]; omega
        · have HZ : Hid (szI s.length (left - (len : Int) - (m : Int)) = -1) := szI_no (by omega)
          have HR : Hid (szN len (textsI ns) left = -1) := szN_no (by have := HS.out; omega)
          go_wp2_with fail
          refine (szInsC kd r aa bb _ s _ (by omega) (by omega) hmk).mono ?_
          rintro e w1 ⟨rfl, hb1⟩
          rw [HZ.out]
          go_wp2
          go_ret
          exact ⟨by rw [HR.out]; rfl, hB.trans (hb1.mono hB.size)⟩
      · have HT : Hid (ns.take k = ns) := List.take_of_length_le (by omega)
        have HR : Hid (szN len (textsI ns) left = left - (len : Int) - (textsI (ns.take k) : Int)) := by exact (by rw [HT.out] at hle ⊢; exact szN_yes (by omega) : szN len (textsI ns) left = left - (len : Int) - (textsI (ns.take k) : Int))
        go_wp2
        go_ret
        exact ⟨by rw [HR.out]; rfl, hB⟩
  · have HR : Hid (szN len (textsI ns) left = -1) := szN_no (by omega)
    clear hin hm
    go_enter Try.func65, Try.ntmps65
    go_wp2
    go_ret
    exact ⟨by rw [HR.out]; rfl, Below.refl _ _⟩

theorem insV_set (ns : List In13) (j : Nat) (k r a b : Int) (s : List UInt8) : (((((insV ns).set (j * 5) (.int .i64 k)).set (j * 5 + 1) (.int .i64 r)).set (j * 5 + 2) (.int .i64 a)).set (j * 5 + 3) (.int .i64 b)).set (j * 5 + 4) (.string ⟨s.toArray⟩) = insV (ns.set j (k, r, a, b, s)) := by
  induction ns generalizing j with
  | nil => simp [insV]
  | cons i l ih =>
    cases j with
    | zero => simp [insV]
    | succ j => rw [show (j + 1) * 5 = j * 5 + 1 + 1 + 1 + 1 + 1 by omega]; simp [insV, ih]
theorem made_ins (n : Nat) : (madeCells (Value.agg #[.int .i64 0, .int .i64 0, .int .i64 0, .int .i64 0, .string ⟨#[]⟩]).cells (n * 5)).toList = insV (List.replicate n in0) := by
  have hc : (Value.agg #[.int .i64 0, .int .i64 0, .int .i64 0, .int .i64 0, .string ⟨#[]⟩]).cells = #[.int .i64 0, .int .i64 0, .int .i64 0, .int .i64 0, .string ⟨#[]⟩] := rfl
  rw [hc]
  apply List.ext_getElem?
  intro j
  by_cases hj : j < n * 5
  · obtain ⟨v0, v1, v2, v3, v4⟩ := insV_at (List.replicate n in0) (j / 5) (by simp; omega)
    have hg : (List.replicate n in0).getD (j / 5) in0 = in0 := by simp [List.getD, List.getElem?_replicate]; split <;> rfl
    rw [hg] at v0 v1 v2 v3 v4
    have h4 : j % 5 = 0 ∨ j % 5 = 1 ∨ j % 5 = 2 ∨ j % 5 = 3 ∨ j % 5 = 4 := by omega
    rcases h4 with h' | h' | h' | h' | h'
    · have ej : j = j / 5 * 5 := by omega
      rw [← ej] at v0
      rw [v0]
      simp [madeCells, hj, h', in0]
    · have ej : j = j / 5 * 5 + 1 := by omega
      rw [← ej] at v1
      rw [v1]
      simp [madeCells, hj, h', in0]
    · have ej : j = j / 5 * 5 + 2 := by omega
      rw [← ej] at v2
      rw [v2]
      simp [madeCells, hj, h', in0]
    · have ej : j = j / 5 * 5 + 3 := by omega
      rw [← ej] at v3
      rw [v3]
      simp [madeCells, hj, h', in0]
    · have ej : j = j / 5 * 5 + 4 := by omega
      rw [← ej] at v4
      rw [v4]
      simp [madeCells, hj, h', in0]
  · rw [List.getElem?_eq_none (by simp [madeCells]; omega), List.getElem?_eq_none (by rw [insV_len]; simp; omega)]
theorem fill_ins (ns : List In13) (k : Nat) (hk : k < ns.length) : (ns.take k ++ List.replicate (ns.length - k) in0).set k (ns.getD k in0) = ns.take (k + 1) ++ List.replicate (ns.length - (k + 1)) in0 := by
  have hg : ns.getD k in0 = ns[k] := by simp [List.getD, hk]
  rw [hg, List.set_append_right _ _ (by rw [List.length_take]; omega), List.length_take, Nat.min_eq_left (by omega), Nat.sub_self, show ns.length - k = (ns.length - (k + 1)) + 1 by omega, List.replicate_succ, List.set_cons_zero, List.take_succ_eq_append_getElem hk, List.append_assoc]
  rfl

set_option maxHeartbeats 2000000 in
set_option maxRecDepth 100000 in
theorem toInsSC (a : Option Addr) (len cap : Nat) (ns : List In13) (w : World) (hin : InsIn w a len ns) (hlen : len ≤ 1048576) :
    Calls Try.prog 69 #[.slice a len cap] w fun e w' => ∃ v, e = .returned v ∧ w'.ownsRow w.heap.size 69 5 v len (insV ns) ∧ v ≠ .slice none 0 0 ∧ Below w.heap.size w w' := by
  obtain ⟨i0, hi, hz0, hz1, hz2⟩ := info_parts infoIns
  have hlb := hin.1
  have HI : Hid (InsIn w a len ns) := hin
  clear hin
  go_enter Try.func69, Try.ntmps69
  go_wp2_with (at_make; refine wpList_make_full _ rfl _ _ 49 rfl w.heap.size 69 i0 _ 5 Try.underlying49 hi hz0 hz1 .i64 .i64 _ _ len rfl rfl rfl rfl (by rw [hz2]; omega) (by unfold maxLen; omega) (Nat.le_refl _) ?_; intro w1 hown1 hgrow1)
  rw [made_ins] at hown1
  have hB1 : Below w.heap.size w w1 := (Below.refl _ _).grown hgrow1 (Nat.le_refl _) (by simp)
  clear hgrow1
  go_loopw [4] (fun i wr => ∃ k : Nat, k ≤ len ∧ i = .int .i64 k ∧ wr.ownsRow w.heap.size 69 5 (.slice (some ⟨w.heap.size, 0, none⟩) len len) len (insV (ns.take k ++ List.replicate (ns.length - k) in0)) ∧ Below w.heap.size w wr) (fun i _ => len - (intOf i).toNat)
  case atStart => exact ⟨0, Nat.zero_le _, rfl, by simpa [hlb] using hown1, hB1⟩
  case round =>
    obtain ⟨k, hk, rfl, hown, hB⟩ := hrel
    clear hown1 hB1
    by_cases hkl : (k : Int) < (len : Int)
    · obtain ⟨b, off, rfl, hbl, hcells⟩ := (HI.out.below hB).at (by omega)
      obtain ⟨c0, c1, c2, c3, c4⟩ := hcells k (by omega)
      have hfs := fill_ins ns k (by omega)
      obtain ⟨x, hx⟩ : ∃ x, ns.getD k in0 = x := ⟨_, rfl⟩
      rw [hx] at c0 c1 c2 c3 c4 hfs
      obtain ⟨kd, r, aa, bb, s⟩ := x
      simp only at c0 c1 c2 c3 c4
      have HF : Hid ((ns.take k ++ List.replicate (ns.length - k) in0).set k (kd, r, aa, bb, s) = ns.take (k + 1) ++ List.replicate (ns.length - (k + 1)) in0) := hfs
      have HOW : Hid (wr.ownsRow w.heap.size 69 5 (.slice (some ⟨w.heap.size, 0, none⟩) len len) len (insV (ns.take k ++ List.replicate (ns.length - k) in0))) := hown
      clear hx hcells hfs hown
      go_wp2_with fail
      refine (toInsC kd r aa bb s _).mono ?_
      rintro e w2 ⟨rfl, hb2⟩
      have hown2 := own_below HOW.out hb2
      have hl2 : (ns.take k ++ List.replicate (ns.length - k) in0).length = len := by rw [List.length_append, List.length_take, List.length_replicate]; omega
      obtain ⟨v0, v1, v2, v3, v4⟩ := insV_at (ns.take k ++ List.replicate (ns.length - k) in0) k (by omega)
      obtain ⟨u0, d0⟩ : ∃ u, w2.cell? ⟨w.heap.size, k * 5, none⟩ = some u := by
        rw [hown2.cellAt (k * 5) (by omega), v0]; exact ⟨_, rfl⟩
      have e0 := hown2.frozenAt (k * 5)
      obtain ⟨u1, d1⟩ : ∃ u, w2.cell? ⟨w.heap.size, k * 5 + 1, none⟩ = some u := by
        rw [hown2.cellAt (k * 5 + 1) (by omega), v1]; exact ⟨_, rfl⟩
      have e1 := hown2.frozenAt (k * 5 + 1)
      obtain ⟨u2, d2⟩ : ∃ u, w2.cell? ⟨w.heap.size, k * 5 + 2, none⟩ = some u := by
        rw [hown2.cellAt (k * 5 + 2) (by omega), v2]; exact ⟨_, rfl⟩
      have e2 := hown2.frozenAt (k * 5 + 2)
      obtain ⟨u3, d3⟩ : ∃ u, w2.cell? ⟨w.heap.size, k * 5 + 3, none⟩ = some u := by
        rw [hown2.cellAt (k * 5 + 3) (by omega), v3]; exact ⟨_, rfl⟩
      have e3 := hown2.frozenAt (k * 5 + 3)
      obtain ⟨u4, d4⟩ : ∃ u, w2.cell? ⟨w.heap.size, k * 5 + 4, none⟩ = some u := by
        rw [hown2.cellAt (k * 5 + 4) (by omega), v4]; exact ⟨_, rfl⟩
      have e4 := hown2.frozenAt (k * 5 + 4)
      have hs1 := hown2.stored (k * 5) (.int .i64 kd)
      have hs2 := hs1.1.stored (k * 5 + 1) (.int .i64 r)
      have hs3 := hs2.1.stored (k * 5 + 2) (.int .i64 aa)
      have hs4 := hs3.1.stored (k * 5 + 3) (.int .i64 bb)
      have hs5 := hs4.1.stored (k * 5 + 4) (.string ⟨s.toArray⟩)
      have hnew := hs5.1
      rw [insV_set, HF.out] at hnew
      have hB2 : Below w.heap.size w w2 := hB.trans (hb2.mono hB.size)
      have hB3 := (((((hB2.setCell (p := ⟨w.heap.size, k * 5, none⟩) (Nat.le_refl _) (.int .i64 kd)).setCell (p := ⟨w.heap.size, k * 5 + 1, none⟩) (Nat.le_refl _) (.int .i64 r)).setCell (p := ⟨w.heap.size, k * 5 + 2, none⟩) (Nat.le_refl _) (.int .i64 aa)).setCell (p := ⟨w.heap.size, k * 5 + 3, none⟩) (Nat.le_refl _) (.int .i64 bb)).setCell (p := ⟨w.heap.size, k * 5 + 4, none⟩) (Nat.le_refl _) (.string ⟨s.toArray⟩))
      clear hown2 hs1 hs2 hs3 hs4 hs5 hl2 v0 v1 v2 v3 v4
      go_wp2
      go_roundw
      case rel => exact ⟨k + 1, by omega, by go_num, hnew, hB3⟩
      case measure => simp [intOf]; omega
    · have hd : ns.take k ++ List.replicate (ns.length - k) in0 = ns := by rw [List.take_of_length_le (by omega), show ns.length - k = 0 by omega]; simp
      rw [hd] at hown
      clear hd
      go_wp2
      go_ret
      exact ⟨_, rfl, hown, by simp, hB⟩

set_option maxHeartbeats 400000 in
set_option maxRecDepth 100000 in
theorem eqInsC (k r a b : Int) (s : List UInt8) (w : World) :
    Calls Try.prog 87 #[.agg #[.int .i64 k, .int .i64 r, .int .i64 a, .int .i64 b, .string ⟨s.toArray⟩], .agg #[.int .i64 k, .int .i64 r, .int .i64 a, .int .i64 b, .string ⟨s.toArray⟩]] w fun e w' => e = .returned (.bool true) ∧ Below w.heap.size w w' := by
  have h1 : ∀ n : Int, (n != n) = false := by simp
  have h2 : ∀ l : List UInt8, (l != l) = false := by simp
  go_enter Try.func87, Try.ntmps87
  go_wp2
  go_ret
  exact ⟨rfl, ((Below.refl _ w).alloc (Nat.le_refl _) _).alloc (by simp) _⟩

set_option maxHeartbeats 2000000 in
set_option maxRecDepth 100000 in
theorem eqInsSC (a b : Option Addr) (len ca cb : Nat) (ns : List In13) (w : World) (ha : InsIn w a len ns) (hb : InsIn w b len ns) (hlen : len ≤ 4194304) :
    Calls Try.prog 73 #[.slice a len ca, .slice b len cb] w fun e w' => e = .returned (.bool true) ∧ Below w.heap.size w w' := by
  have hlb := ha.1
  have HA : Hid (InsIn w a len ns) := ha
  have HB : Hid (InsIn w b len ns) := hb
  clear ha hb
  have h1 : ((len : Int) != (len : Int)) = false := by simp
  go_enter Try.func73, Try.ntmps73
  go_wp2
  go_loopw [5] (fun i wr => ∃ k : Nat, k ≤ len ∧ i = .int .i64 k ∧ Below w.heap.size w wr) (fun i _ => len - (intOf i).toNat)
  case atStart => exact ⟨0, Nat.zero_le _, rfl, Below.refl _ _⟩
  case round =>
    obtain ⟨k, hk, rfl, hB⟩ := hrel
    by_cases hkl : (k : Int) < (len : Int)
    · obtain ⟨b1, o1, rfl, hb1, hc1⟩ := (HA.out.below hB).at (by omega)
      obtain ⟨b2, o2, rfl, hb2, hc2⟩ := (HB.out.below hB).at (by omega)
      obtain ⟨x0, x1, x2, x3, x4⟩ := hc1 k (by omega)
      obtain ⟨y0, y1, y2, y3, y4⟩ := hc2 k (by omega)
      obtain ⟨x, hx⟩ : ∃ x, ns.getD k in0 = x := ⟨_, rfl⟩
      rw [hx] at x0 x1 x2 x3 x4 y0 y1 y2 y3 y4
      obtain ⟨kd, r, aa, bb, s⟩ := x
      simp only at x0 x1 x2 x3 x4 y0 y1 y2 y3 y4
      clear hx hc1 hc2
      go_wp2
      go_region_held3 (fun w' => w'.cell? ⟨b1, o1 + k * 5, none⟩ = some (.int .i64 kd) ∧ w'.cell? ⟨b1, o1 + k * 5 + 1, none⟩ = some (.int .i64 r) ∧ w'.cell? ⟨b1, o1 + k * 5 + 2, none⟩ = some (.int .i64 aa) ∧ w'.cell? ⟨b1, o1 + k * 5 + 3, none⟩ = some (.int .i64 bb) ∧ w'.cell? ⟨b1, o1 + k * 5 + 4, none⟩ = some (.string ⟨s.toArray⟩) ∧ w'.cell? ⟨b2, o2 + k * 5, none⟩ = some (.int .i64 kd) ∧ w'.cell? ⟨b2, o2 + k * 5 + 1, none⟩ = some (.int .i64 r) ∧ w'.cell? ⟨b2, o2 + k * 5 + 2, none⟩ = some (.int .i64 aa) ∧ w'.cell? ⟨b2, o2 + k * 5 + 3, none⟩ = some (.int .i64 bb) ∧ w'.cell? ⟨b2, o2 + k * 5 + 4, none⟩ = some (.string ⟨s.toArray⟩)) (go_keep) (first | (go_at_call 87; refine (eqInsC kd r aa bb s _).mono ?_; rintro e w1 ⟨rfl, hw1⟩; have d0 : w1.cell? ⟨b1, o1 + k * 5, none⟩ = some (.int .i64 kd) := (hw1.cell (p := ⟨b1, o1 + k * 5, none⟩) hb1).trans x0; have d1 : w1.cell? ⟨b1, o1 + k * 5 + 1, none⟩ = some (.int .i64 r) := (hw1.cell (p := ⟨b1, o1 + k * 5 + 1, none⟩) hb1).trans x1; have d2 : w1.cell? ⟨b1, o1 + k * 5 + 2, none⟩ = some (.int .i64 aa) := (hw1.cell (p := ⟨b1, o1 + k * 5 + 2, none⟩) hb1).trans x2; have d3 : w1.cell? ⟨b1, o1 + k * 5 + 3, none⟩ = some (.int .i64 bb) := (hw1.cell (p := ⟨b1, o1 + k * 5 + 3, none⟩) hb1).trans x3; have d4 : w1.cell? ⟨b1, o1 + k * 5 + 4, none⟩ = some (.string ⟨s.toArray⟩) := (hw1.cell (p := ⟨b1, o1 + k * 5 + 4, none⟩) hb1).trans x4; have e0 : w1.cell? ⟨b2, o2 + k * 5, none⟩ = some (.int .i64 kd) := (hw1.cell (p := ⟨b2, o2 + k * 5, none⟩) hb2).trans y0; have e1 : w1.cell? ⟨b2, o2 + k * 5 + 1, none⟩ = some (.int .i64 r) := (hw1.cell (p := ⟨b2, o2 + k * 5 + 1, none⟩) hb2).trans y1; have e2 : w1.cell? ⟨b2, o2 + k * 5 + 2, none⟩ = some (.int .i64 aa) := (hw1.cell (p := ⟨b2, o2 + k * 5 + 2, none⟩) hb2).trans y2; have e3 : w1.cell? ⟨b2, o2 + k * 5 + 3, none⟩ = some (.int .i64 bb) := (hw1.cell (p := ⟨b2, o2 + k * 5 + 3, none⟩) hb2).trans y3; have e4 : w1.cell? ⟨b2, o2 + k * 5 + 4, none⟩ = some (.string ⟨s.toArray⟩) := (hw1.cell (p := ⟨b2, o2 + k * 5 + 4, none⟩) hb2).trans y4))
      all_goals go_wp2
      go_roundw
      case rel => exact ⟨k + 1, by omega, by go_num, hB.trans ⟨hw1.os, hw1.tape, hw1.output, hw1.size, fun q hq => hw1.block q (by have := hB.size; show q < wr.heap.size; omega)⟩⟩
      case measure => simp [intOf]; omega
    · go_wp2
      go_ret
      exact ⟨rfl, hB⟩

end Go.Proofs.Ythjemelnbbpdcaa

/-! The laws' own helpers over routines: szRoutine, szRoutineS. -/
namespace Go.Proofs.Ythjemelnbbpdcaa
open Go.RowKit

def szR (m : Nat) (left : Int) : Int := if (m : Int) ≤ left then left - (m : Int) else -1
theorem szR_yes {m : Nat} {left : Int} (h : (m : Int) ≤ left) : szR m left = left - (m : Int) := by unfold szR; rw [if_pos h]
theorem szR_no {m : Nat} {left : Int} (h : ¬ (m : Int) ≤ left) : szR m left = -1 := by unfold szR; rw [if_neg h]

def rtSz (f : Rt) : Nat := f.1.length + (f.2.2.length + textsI f.2.2)
def rtsSz : List Rt → Nat
  | [] => 0
  | f :: r => rtSz f + rtsSz r
theorem rtsSz_append (x y : List Rt) : rtsSz (x ++ y) = rtsSz x + rtsSz y := by
  induction x with
  | nil => simp [rtsSz]
  | cons n r ih => simp only [List.cons_append, rtsSz, ih]; omega
theorem rtsSz_snoc (fs : List Rt) (k : Nat) (hk : k < fs.length) : rtsSz (fs.take (k + 1)) = rtsSz (fs.take k) + rtSz (fs.getD k rt0) := by
  have hg : fs.getD k rt0 = fs[k] := by simp [List.getD, hk]
  rw [hg, List.take_succ_eq_append_getElem hk, rtsSz_append]
  simp [rtsSz]
theorem rtsSz_take (fs : List Rt) (k : Nat) : rtsSz (fs.take k) ≤ rtsSz fs := by
  have := rtsSz_append (fs.take k) (fs.drop k)
  rw [List.take_append_drop] at this
  omega
theorem rtsSz_at (fs : List Rt) (j : Nat) : rtSz (fs.getD j rt0) ≤ rtsSz fs := by
  by_cases hj : j < fs.length
  · have h1 := rtsSz_snoc fs j hj
    have h2 := rtsSz_take fs (j + 1)
    omega
  · have : fs.getD j rt0 = rt0 := by rw [List.getD, List.getElem?_eq_none (by omega)]; rfl
    rw [this]; simp [rt0, rtSz, textsI]

def LongR (fs : List Rt) : Prop := ∀ j, (fs.getD j rt0).1.length ≤ maxLen ∧ (fs.getD j rt0).2.2.length ≤ maxLen ∧ LongI (fs.getD j rt0).2.2

theorem shortR_of {fs : List Rt} (h : rtsSz fs ≤ 1048576) : ShortR fs := fun j => by
  have h1 := rtsSz_at fs j
  unfold rtSz at h1
  exact ⟨by omega, by omega, shortI_of (by omega)⟩

set_option maxHeartbeats 1000000 in
set_option maxRecDepth 100000 in
theorem szRoutineC (s : List UInt8) (n : Int) (t : List In13) (ta : Option Addr) (tl tc : Nat) (left : Int) (w : World) (hin : InsIn w ta tl t) (h0 : 0 ≤ left) (h1 : left ≤ 1048576) (hs : s.length ≤ maxLen) (ht : t.length ≤ maxLen) (hm : LongI t) :
    Calls Try.prog 49 #[.agg #[.string ⟨s.toArray⟩, .int .i64 n, .slice ta tl tc], .int .i64 left] w fun e w' => e = .returned (.int .i64 (szR (rtSz (s, n, t)) left)) ∧ Below w.heap.size w w' := by
  obtain rfl : t.length = tl := hin.1
  unfold maxLen at hs
  have hs2 : (s.length : Int) ≤ 9223372036854775807 := by omega
  obtain ⟨W, hW⟩ : ∃ W, w.alloc (.cells #[.string ⟨s.toArray⟩, .int .i64 n, .slice ta t.length tc] 97) = W := ⟨_, rfl⟩
  have hbW : Below w.heap.size w W := by rw [← hW]; exact (Below.refl _ _).alloc (Nat.le_refl _) _
  have hA : W.heap[w.heap.size]? = some (.cells #[.string ⟨s.toArray⟩, .int .i64 n, .slice ta t.length tc] 97) := by rw [← hW]; exact heap_alloc_new w _
  have k0 : W.cell? ⟨w.heap.size, 0, none⟩ = some (.string ⟨s.toArray⟩) := by simp [World.cell?, hA]
  have k2 : W.cell? ⟨w.heap.size, 2, none⟩ = some (.slice ta t.length tc) := by simp [World.cell?, hA]
  have hinW := hin.below hbW
  clear hin hA
  by_cases hfit : (s.length : Int) ≤ left
  · have HC := szInsSC ta t.length tc t (left - (s.length : Int)) W hinW (by omega) (by omega) ht hm
    by_cases hfit2 : (t.length : Int) + (textsI t : Int) ≤ left - (s.length : Int)
    · have HZ : Hid (szN t.length (textsI t) (left - (s.length : Int)) = szR (rtSz (s, n, t)) left) := by exact (by rw [szN_yes hfit2, szR_yes (by unfold rtSz; simp only; omega)]; unfold rtSz; simp only; omega : szN t.length (textsI t) (left - (s.length : Int)) = szR (rtSz (s, n, t)) left)
      have hge : 0 ≤ szR (rtSz (s, n, t)) left := by rw [← HZ.out, szN_yes hfit2]; omega
      have hge2 : 0 ≤ left - (s.length : Int) := by omega
      rw [HZ.out] at HC
      generalize szR (rtSz (s, n, t)) left = z at HC hge ⊢
      clear HZ
      go_enter Try.func49, Try.ntmps49
      go_wp2_with fail
      refine HC.mono ?_
      rintro e w1 ⟨rfl, hb1⟩
      have hb : Below w.heap.size w w1 := hbW.trans (hb1.mono hbW.size)
      clear HC hb1
      go_wp2
      go_ret
      exact ⟨rfl, hb⟩
    · have HZ : Hid (szN t.length (textsI t) (left - (s.length : Int)) = -1) := szN_no hfit2
      have HR : Hid (szR (rtSz (s, n, t)) left = -1) := szR_no (by unfold rtSz; simp only; omega)
      have hge2 : 0 ≤ left - (s.length : Int) := by omega
      rw [HZ.out] at HC
      go_enter Try.func49, Try.ntmps49
      go_wp2_with fail
      refine HC.mono ?_
      rintro e w1 ⟨rfl, hb1⟩
      have hb : Below w.heap.size w w1 := hbW.trans (hb1.mono hbW.size)
      clear HC hb1
      go_wp2
      go_ret
      exact ⟨by rw [HR.out]; rfl, hb⟩
  · have HR : Hid (szR (rtSz (s, n, t)) left = -1) := szR_no (by unfold rtSz; simp only; omega)
    have hlt : left - (s.length : Int) < 0 := by omega
    go_enter Try.func49, Try.ntmps49
    go_wp2
    go_ret
    exact ⟨by rw [HR.out]; rfl, hbW⟩

set_option maxHeartbeats 2000000 in
set_option maxRecDepth 100000 in
theorem szRoutineSC (a : Option Addr) (len cap : Nat) (fs : List Rt) (left : Int) (w : World) (hin : RtsIn w a len fs) (h0 : 0 ≤ left) (h1 : left ≤ 1048576) (hl : len ≤ maxLen) (hm : LongR fs) :
    Calls Try.prog 31 #[.slice a len cap, .int .i64 left] w fun e w' => e = .returned (.int .i64 (szR (len + rtsSz fs) left)) ∧ Below w.heap.size w w' := by
  unfold maxLen at hl
  have hl2 : (len : Int) ≤ 9223372036854775807 := by omega
  have hlb := hin.1
  by_cases h : (len : Int) ≤ left
  · have hlen : len ≤ 1048576 := by omega
    have HI : Hid (RtsIn w a len fs) := hin
    have HM : Hid (LongR fs) := hm
    clear hin hm
    go_enter Try.func31, Try.ntmps31
    go_wp2
    go_loopw [1, 5] (fun l i wr => ∃ k : Nat, k ≤ len ∧ i = .int .i64 k ∧ l = .int .i64 (left - (len : Int) - (rtsSz (fs.take k) : Int)) ∧ (rtsSz (fs.take k) : Int) ≤ left - (len : Int) ∧ Below w.heap.size w wr) (fun _ i _ => len - (intOf i).toNat)
    case atStart => exact ⟨0, Nat.zero_le _, rfl, by simp [rtsSz], by simp [rtsSz]; omega, Below.refl _ _⟩
    case round =>
      obtain ⟨k, hk, rfl, rfl, hle, hB⟩ := hrel
      by_cases hkl : (k : Int) < (len : Int)
      · obtain ⟨b, off, rfl, hbl, c0, c1, ta, tl, tc, c2, hnin⟩ := (HI.out.below hB).2 k (by omega)
        have hmk := HM.out k
        have hst := rtsSz_snoc fs k (by omega)
        have htt := rtsSz_take fs (k + 1)
        obtain ⟨f, hf⟩ : ∃ f, fs.getD k rt0 = f := ⟨_, rfl⟩
        rw [hf] at c0 c1 hmk hst hnin
        obtain ⟨s, n, t⟩ := f
        simp only at c0 c1 hmk hnin
        obtain ⟨m, hmm⟩ : ∃ m, rtsSz (fs.take k) = m := ⟨_, rfl⟩
        rw [hmm] at hle hst ⊢
        obtain ⟨z, hz⟩ : ∃ z, rtSz (s, n, t) = z := ⟨_, rfl⟩
        have HC := szRoutineC s n t ta tl tc (left - (len : Int) - (m : Int)) wr hnin (by omega) (by omega) hmk.1 hmk.2.1 hmk.2.2
        rw [hz] at hst HC
        have HS : Hid (rtsSz (fs.take (k + 1)) = m + z) := hst
        clear hst hf hmm hz hnin
        by_cases hfit : (z : Int) ≤ left - (len : Int) - (m : Int)
        · have HZ : Hid (szR z (left - (len : Int) - (m : Int)) = left - (len : Int) - (rtsSz (fs.take (k + 1)) : Int)) := by
            exact (by rw [HS.out, szR_yes (by omega)]; omega : szR z (left - (len : Int) - (m : Int)) = left - (len : Int) - (rtsSz (fs.take (k + 1)) : Int))
          rw [HZ.out] at HC
          go_wp2_with fail
          refine HC.mono ?_
          rintro e w1 ⟨rfl, hb1⟩
          have hle2 : (rtsSz (fs.take (k + 1)) : Int) ≤ left - (len : Int) := by rw [HS.out]; omega
          have hge : (0 : Int) ≤ left - (len : Int) - (rtsSz (fs.take (k + 1)) : Int) := by omega
          clear HC
          go_wp2
          go_roundw
          case rel => exact ⟨k + 1, by omega, by go_num, rfl, hle2, hB.trans (hb1.mono hB.size)⟩
          case measure => simp [intOf]; omega
        · have HZ : Hid (szR z (left - (len : Int) - (m : Int)) = -1) := szR_no (by omega)
          have HR : Hid (szR (len + rtsSz fs) left = -1) := szR_no (by have := HS.out; omega)
          rw [HZ.out] at HC
          go_wp2_with fail
          refine HC.mono ?_
          rintro e w1 ⟨rfl, hb1⟩
          clear HC
          go_wp2
          go_ret
          exact ⟨by rw [HR.out]; rfl, hB.trans (hb1.mono hB.size)⟩
      · have HT : Hid (fs.take k = fs) := List.take_of_length_le (by omega)
        have HR : Hid (szR (len + rtsSz fs) left = left - (len : Int) - (rtsSz (fs.take k) : Int)) := by exact (by rw [HT.out] at hle ⊢; rw [szR_yes (by omega)]; omega : szR (len + rtsSz fs) left = left - (len : Int) - (rtsSz (fs.take k) : Int))
        go_wp2
        go_ret
        exact ⟨by rw [HR.out]; rfl, hB⟩
  · have HR : Hid (szR (len + rtsSz fs) left = -1) := szR_no (by omega)
    clear hin hm
    go_enter Try.func31, Try.ntmps31
    go_wp2
    go_ret
    exact ⟨by rw [HR.out]; rfl, Below.refl _ _⟩

end Go.Proofs.Ythjemelnbbpdcaa

/-! A row of instructions that came in. -/
namespace Go.Proofs.Ythjemelnbbpdcaa
open Go.ChangeShapes Go.WideShapes Go.ChangeAt Go.RowKit Go.Joins Go.Deep

set_option maxRecDepth 100000 in
theorem open_inss {H : Type} {enc : TypeId × Value → H} {W : World} {base b0 : Nat} {spare : Nat → Bool} {held : Bool} {v : Value} {d : DataW H} {p : List MemPlace}
    (hv : Value.okWide Try.prog W .any b0 95 v) (h : DataW.Trod enc Try.prog W base spare held 95 v d p) :
    ∃ a len cap ns, v = .slice a len cap ∧ InsIn W a len ns ∧ len ≤ maxLen ∧ LongI ns ∧ IntIs ns := by
  obtain ⟨a0, len, cap, rfl⟩ := okWide_slice Try.underlying95 hv
  obtain ⟨fuel, hf⟩ := h
  rcases open_slice Try.underlying95 hf with ⟨hcs, _⟩ | ⟨a, l, c, q, n, D, Pl, hcs, _, hl, hm, hq, _, hx⟩
  · simp [Value.cells] at hcs
    obtain ⟨rfl, rfl, rfl⟩ := hcs
    exact ⟨none, 0, 0, [], rfl, ⟨rfl, fun j hj => by omega⟩, by decide, (fun j => by simp [in0]), (fun j => by rw [show ([] : List In13).getD j in0 = in0 by simp]; exact intI_in0)⟩
  · simp [Value.cells] at hcs
    obtain ⟨rfl, rfl, rfl⟩ := hcs
    have hlq : len ≤ q := by rw [hq]; split <;> omega
    have each : ∀ i, i < len → ∃ x : In13, W.cell? (a.add (i * 5)) = some (.int .i64 x.1) ∧ W.cell? (a.add (i * 5 + 1)) = some (.int .i64 x.2.1) ∧ W.cell? (a.add (i * 5 + 2)) = some (.int .i64 x.2.2.1) ∧ W.cell? (a.add (i * 5 + 3)) = some (.int .i64 x.2.2.2.1) ∧ W.cell? (a.add (i * 5 + 4)) = some (.string ⟨x.2.2.2.2.toArray⟩) ∧ x.2.2.2.2.length ≤ maxLen ∧ IntI x := by
      intro i hi
      obtain ⟨cs', h1, h2⟩ := hx i (by omega)
      rw [cellsIns] at h1
      obtain ⟨_, hlen, hcell⟩ := World.cells?_some h1
      match cs', hlen with
      | [v0, v1, v2, v3, v4], _ =>
        obtain ⟨xs, k, _, _, _, hxl, hxx⟩ := DataW.trod_struct Try.underlying131 h2
        match xs, hxl with
        | [y0, y1, y2, y3, y4], _ =>
          have t0 := hxx 0 _ rfl
          have t1 := hxx 1 _ rfl
          have t2 := hxx 2 _ rfl
          have t3 := hxx 3 _ rfl
          have t4 := hxx 4 _ rfl
          obtain ⟨k0, e0, _, w0⟩ := DataW.trod_int Try.underlying2 t0
          obtain ⟨k1, e1, _, w1⟩ := DataW.trod_int Try.underlying2 t1
          obtain ⟨k2, e2, _, w2⟩ := DataW.trod_int Try.underlying2 t2
          obtain ⟨k3, e3, _, w3⟩ := DataW.trod_int Try.underlying2 t3
          obtain ⟨s4, e4, _, z4⟩ := DataW.trod_string Try.underlying9 t4
          simp [cells2] at e0 e1 e2 e3
          simp [cells9] at e4
          subst e0 e1 e2 e3 e4
          have g0 := hcell 0 (by omega)
          have g1 := hcell 1 (by omega)
          have g2 := hcell 2 (by omega)
          have g3 := hcell 3 (by omega)
          have g4 := hcell 4 (by omega)
          rw [add_add] at g0 g1 g2 g3 g4
          exact ⟨(k0, k1, k2, k3, s4.data.toList), by simpa using g0, by simpa using g1, by simpa using g2, by simpa using g3, by simpa using g4, z4, ⟨bounds_i64 w0, bounds_i64 w1, bounds_i64 w2, bounds_i64 w3⟩⟩
    obtain ⟨f, hf2⟩ := choose_lt each
    refine ⟨some a, len, cap, (List.range len).map f, rfl, ⟨by simp, fun j hj => ?_⟩, by omega, (fun j => ?_), (fun j => ?_)⟩
    rotate_left
    · by_cases hj : j < len
      · have hg : ((List.range len).map f).getD j in0 = f j := by simp [List.getD, hj]
        rw [hg]; exact (hf2 j hj).2.2.2.2.2.1
      · have hg : ((List.range len).map f).getD j in0 = in0 := by simp [List.getD, hj]
        rw [hg]; simp [in0]
    · by_cases hj : j < len
      · have hg : ((List.range len).map f).getD j in0 = f j := by simp [List.getD, hj]
        rw [hg]; exact (hf2 j hj).2.2.2.2.2.2
      · have hg : ((List.range len).map f).getD j in0 = in0 := by simp [List.getD, hj]
        rw [hg]; exact intI_in0
    obtain ⟨c0, c1, c2, c3, c4, _, _⟩ := hf2 j hj
    have hsp : a.spot = none := by
      have h0 := (hf2 0 (by omega)).1
      simpa [Addr.add] using World.cell?_spot h0
    obtain ⟨b, off, spot⟩ := a
    simp at hsp
    subst hsp
    have e : ∀ i, (⟨b, off, none⟩ : Addr).add i = ⟨b, off + i, none⟩ := fun i => by unfold Addr.add; split <;> simp_all
    rw [e] at c0 c1 c2 c3 c4
    have hg : ((List.range len).map f).getD j in0 = f j := by simp [List.getD, hj]
    rw [hg]
    exact ⟨b, off, rfl, World.block_lt_of_cell? W ⟨b, off + j * 5, none⟩ c0, c0, by rw [Nat.add_assoc]; exact c1, by rw [Nat.add_assoc]; exact c2, by rw [Nat.add_assoc]; exact c3, by rw [Nat.add_assoc]; exact c4⟩

end Go.Proofs.Ythjemelnbbpdcaa
