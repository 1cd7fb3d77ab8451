/-
  Parts of one proof, one behind the other: NumsL, NodeL, Draw3, DrawW, DrawT, Bend1, Bend2, DrawX, DrawN, NeedS.
-/
import Derived.Test.YtdnehneldmmeoaaP4
import Derived.Test.YtdnehneldmmeoaaP2
import Derived.Deep.RegionWith
import Derived.Test.YtdnehneldmmeoaaP1
import Derived.Deep.RegionHeld3
import Derived.Deep.RegionLaw
import Derived.Deep.DrawnRows

/-! Numbers that came in, as the walks of chapter 10's laws take them; the exact laws' helper over such rows: toInt64S. -/
namespace Go.Proofs.Ytdnehneldmmeoaa
open Go.ChangeShapes Go.WideShapes Go.ChangeAt Go.RowKit

/-- Numbers that can be read. -/
def AsIn (w : World) (a : Option Addr) (xs : List Int) : Prop := ∀ j, j < xs.length → ∃ b off, a = some ⟨b, off, none⟩ ∧ b < w.heap.size ∧ w.cell? ⟨b, off + j, none⟩ = some (.int .i64 (xs.getD j 0))
theorem AsIn.below {w w' : World} {a : Option Addr} {xs : List Int} (h : AsIn w a xs) (hb : Below w.heap.size w w') : AsIn w' a xs := fun j hj => by
  obtain ⟨b, off, e, hl, hc⟩ := h j hj
  exact ⟨b, off, e, Nat.lt_of_lt_of_le hl hb.size, (hb.cell (p := ⟨b, off + j, none⟩) hl).trans hc⟩

theorem info2 : (Try.prog.info? 2).map (fun i => (i.zero, i.size, i.bytes)) = some (some (.int .i64 0), 1, 8) := by kernel_rfl

set_option maxRecDepth 100000 in
theorem open_nums {H : Type} {enc : TypeId × Value → H} {W : World} {base b0 : Nat} {spare : Nat → Bool} {held : Bool} {v : Value} {d : DataW H} {p : List MemPlace}
    (hv : Value.okWide Try.prog W .any b0 25 v) (h : DataW.Trod enc Try.prog W base spare held 25 v d p) :
    ∃ a cap xs, v = .slice a (List.length xs) cap ∧ AsIn W a xs ∧ xs.length ≤ maxLen ∧ ∀ x ∈ xs, (Lit.int .i64 x).wf = true := by
  obtain ⟨a0, len, cap, rfl⟩ := okWide_slice Try.underlying25 hv
  obtain ⟨fuel, hf⟩ := h
  rcases open_ints Try.underlying25 Try.underlying2 (by kernel_rfl) hf with ⟨hcs, _⟩ | ⟨a, l, c, zs, hcs, _, hl, hm, hlen, _, hcell, hwf⟩
  · simp [Value.cells] at hcs
    obtain ⟨rfl, rfl, rfl⟩ := hcs
    exact ⟨none, 0, [], rfl, fun j hj => absurd hj (by simp), by simp, fun x hx => by cases hx⟩
  · simp [Value.cells] at hcs
    obtain ⟨rfl, rfl, rfl⟩ := hcs
    have hls : len ≤ zs.length := by rw [hlen]; split <;> omega
    have hlt : (zs.take len).length = len := by rw [List.length_take]; omega
    refine ⟨some a, cap, zs.take len, by rw [hlt], fun j hj => ?_, by omega, fun x hx => hwf x (List.mem_of_mem_take hx)⟩
    rw [hlt] at hj
    have hc := hcell j (by omega)
    have hsp : a.spot = none := by
      have h0 := hcell 0 (by omega)
      simpa [Addr.add] using World.cell?_spot h0
    obtain ⟨b, off, spot⟩ := a
    simp at hsp
    subst hsp
    have e : ∀ i, (⟨b, off, none⟩ : Addr).add i = ⟨b, off + i, none⟩ := fun i => by unfold Addr.add; split <;> simp_all
    rw [e] at hc
    refine ⟨b, off, rfl, World.block_lt_of_cell? W ⟨b, off + j, none⟩ hc, ?_⟩
    rw [hc]
    congr 2
    have hj2 : j < zs.length := by omega
    simp [List.getD, hj, hj2]

theorem made_nums (n : Nat) : (madeCells (Value.cells (.int .i64 0)) (n * 1)).toList = intsV (List.replicate n 0) := by
  have hc : Value.cells (.int .i64 0) = #[.int .i64 0] := rfl
  rw [hc, Nat.mul_one]
  apply List.ext_getElem?
  intro j
  by_cases hj : j < n
  · rw [intsV_at _ j (by simpa using hj)]
    simp [madeCells, hj, Nat.mod_one]
  · rw [List.getElem?_eq_none (by simp [madeCells]; omega), List.getElem?_eq_none (by rw [intsV_len]; simp; omega)]

theorem fill_num (ts : List Int) (k : Nat) (hk : k < ts.length) : (intsV (ts.take k ++ List.replicate (ts.length - k) 0)).set k (.int .i64 (ts.getD k 0)) = intsV (ts.take (k + 1) ++ List.replicate (ts.length - (k + 1)) 0) := by
  have hg : ts.getD k 0 = ts[k] := by simp [List.getD, hk]
  have e : (ts.take k ++ List.replicate (ts.length - k) 0).set k ts[k] = ts.take (k + 1) ++ List.replicate (ts.length - (k + 1)) 0 := by
    rw [List.set_append_right _ _ (by rw [List.length_take]; omega), List.length_take, Nat.min_eq_left (by omega), Nat.sub_self, show ts.length - k = (ts.length - (k + 1)) + 1 by omega, List.replicate_succ, List.set_cons_zero, List.take_succ_eq_append_getElem hk, List.append_assoc]
    rfl
  rw [hg, ← e]
  unfold intsV
  rw [List.map_set]

/-- A row of numbers that a call owns is one that can be handed on. -/
theorem nums_as {w : World} {B g n cp : Nat} {xs : List Int} (h : w.ownsRow B 2 1 (.slice (some ⟨g, 0, none⟩) n cp) n (intsV xs)) (hn : xs.length = n) : AsIn w (some ⟨g, 0, none⟩) xs := fun j hj => by
  have hc := h.cellAt j (by omega)
  rw [intsV_at xs j hj] at hc
  refine ⟨g, 0, rfl, World.block_lt_of_cell? w ⟨g, j, none⟩ hc, ?_⟩
  rw [Nat.zero_add, hc]
  simp [List.getD, hj]

set_option maxHeartbeats 2000000 in
set_option maxRecDepth 100000 in
theorem toInt64SC (a : Option Addr) (cap : Nat) (xs : List Int) (w : World) (hin : AsIn w a xs) (hlen : xs.length ≤ 1048576) :
    Calls Try.prog 24 #[.slice a xs.length cap] w fun e w' => e = .returned (.slice (some ⟨w.heap.size, 0, none⟩) xs.length xs.length) ∧ w'.ownsRow w.heap.size 2 1 (.slice (some ⟨w.heap.size, 0, none⟩) xs.length xs.length) xs.length (intsV xs) ∧ Below w.heap.size w w' := by
  obtain ⟨i0, hi, hz0, hz1, hz2⟩ := info_parts info2
  obtain ⟨len, hlb⟩ : ∃ len, xs.length = len := ⟨_, rfl⟩
  have HI : Hid (AsIn w a xs) := hin
  clear hin
  rw [hlb] at hlen ⊢
  go_enter Try.func24, Try.ntmps24
  go_wp2_with (at_make; refine wpList_make_full _ rfl _ _ 25 rfl w.heap.size 2 i0 _ 1 Try.underlying25 hi hz0 hz1 .i64 .i64 _ _ len rfl rfl rfl rfl (by rw [hz2]; omega) (by unfold maxLen; omega) (Nat.le_refl _) ?_; intro w1 hown1 hgrow1)
  rw [made_nums] at hown1
  have hB1 : Below w.heap.size w w1 := (Below.refl _ _).grown hgrow1 (Nat.le_refl _) (by simp)
  clear hgrow1
  go_loopw [4] (fun i wr => ∃ k : Nat, k ≤ len ∧ i = .int .i64 k ∧ wr.ownsRow w.heap.size 2 1 (.slice (some ⟨w.heap.size, 0, none⟩) len len) len (intsV (xs.take k ++ List.replicate (xs.length - k) 0)) ∧ Below w.heap.size w wr) (fun i _ => len - (intOf i).toNat)
  case atStart => exact ⟨0, Nat.zero_le _, rfl, by simpa [hlb] using hown1, hB1⟩
  case round =>
    obtain ⟨k, hk, rfl, hown, hB⟩ := hrel
    clear hown1 hB1
    by_cases hkl : (k : Int) < (len : Int)
    · obtain ⟨b, off, rfl, hbl, ck⟩ := (HI.out.below hB) k (by omega)
      have hst := (hown.stored k (.int .i64 (xs.getD k 0))).1
      rw [fill_num xs k (by omega)] at hst
      obtain ⟨u0, d0⟩ : ∃ u, wr.cell? ⟨w.heap.size, k, none⟩ = some u := by
        rw [hown.cellAt k (by omega), intsV_at _ k (by rw [List.length_append, List.length_take, List.length_replicate]; omega)]; exact ⟨_, rfl⟩
      have e0 := hown.frozenAt k
      obtain ⟨t, ht⟩ : ∃ t, xs.getD k 0 = t := ⟨_, rfl⟩
      rw [ht] at ck hst
      have hB3 := hB.setCell (p := ⟨w.heap.size, k, none⟩) (Nat.le_refl _) (.int .i64 t)
      clear ht hown
      go_wp2
      go_roundw
      case rel => exact ⟨k + 1, by omega, by go_num, hst, hB3⟩
      case measure => simp [intOf]; omega
    · have hd : xs.take k ++ List.replicate (xs.length - k) 0 = xs := by rw [List.take_of_length_le (by omega), show xs.length - k = 0 by omega]; simp
      rw [hd] at hown
      clear hd
      go_wp2
      go_ret
      exact ⟨rfl, hown, hB⟩

end Go.Proofs.Ytdnehneldmmeoaa

/-! The laws' own helpers over nodes and rows of nodes: szNode, szNodeS, toNode, toNodeS, eqNode, eqNodeS. -/
namespace Go.Proofs.Ytdnehneldmmeoaa
open Go.RowKit

/-- How many bytes the texts of nodes have in all. -/
def textsN : List Nd → Nat
  | [] => 0
  | n :: r => n.2.2.1.length + n.2.2.2.length + textsN r
theorem textsN_append (x y : List Nd) : textsN (x ++ y) = textsN x + textsN y := by
  induction x with
  | nil => simp [textsN]
  | cons n r ih => simp only [List.cons_append, textsN, ih]; omega
theorem textsN_snoc (ns : List Nd) (k : Nat) (hk : k < ns.length) : textsN (ns.take (k + 1)) = textsN (ns.take k) + ((ns.getD k nd0).2.2.1.length + (ns.getD k nd0).2.2.2.length) := by
  have hg : ns.getD k nd0 = ns[k] := by simp [List.getD, hk]
  rw [hg, List.take_succ_eq_append_getElem hk, textsN_append]
  simp [textsN]
theorem textsN_take (ns : List Nd) (k : Nat) : textsN (ns.take k) ≤ textsN ns := by
  have := textsN_append (ns.take k) (ns.drop k)
  rw [List.take_append_drop] at this
  omega
theorem textsN_at (ns : List Nd) (j : Nat) : (ns.getD j nd0).2.2.1.length + (ns.getD j nd0).2.2.2.length ≤ textsN ns := by
  by_cases hj : j < ns.length
  · have h1 := textsN_snoc ns j hj
    have h2 := textsN_take ns (j + 1)
    omega
  · have : ns.getD j nd0 = nd0 := by rw [List.getD, List.getElem?_eq_none (by omega)]; rfl
    rw [this]; simp [nd0]
theorem short_of {ns : List Nd} (h : textsN ns ≤ 1048576) : ShortT ns := fun j => by have := textsN_at ns j; omega

def szN (m n : Nat) (left : Int) : Int := if (m : Int) + (n : Int) ≤ left then left - (m : Int) - (n : Int) else -1
theorem szN_yes {m n : Nat} {left : Int} (h : (m : Int) + (n : Int) ≤ left) : szN m n left = left - (m : Int) - (n : Int) := by unfold szN; rw [if_pos h]
theorem szN_no {m n : Nat} {left : Int} (h : ¬ (m : Int) + (n : Int) ≤ left) : szN m n left = -1 := by unfold szN; rw [if_neg h]

/-- A node's numbers are numbers of 64 bits. -/
def IntN (n : Nd) : Prop := (-9223372036854775808 ≤ n.1 ∧ n.1 ≤ 9223372036854775807) ∧ (-9223372036854775808 ≤ n.2.1 ∧ n.2.1 ≤ 9223372036854775807)
def IntT (ns : List Nd) : Prop := ∀ j, IntN (ns.getD j nd0)
theorem intN_nd0 : IntN nd0 := by unfold IntN nd0; decide
theorem IntT.nil : IntT [] := fun j => by rw [show ([] : List Nd).getD j nd0 = nd0 by simp]; exact intN_nd0
def LongT (ns : List Nd) : Prop := ∀ j, (ns.getD j nd0).2.2.1.length ≤ maxLen ∧ (ns.getD j nd0).2.2.2.length ≤ maxLen

set_option maxHeartbeats 400000 in
set_option maxRecDepth 100000 in
theorem szNodeC (k a left : Int) (p f : List UInt8) (w : World) (h0 : 0 ≤ left) (h1 : left ≤ 1048576) (hp : p.length ≤ maxLen) (hf : f.length ≤ maxLen) :
    Calls Try.prog 47 #[.agg #[.int .i64 k, .int .i64 a, .string ⟨p.toArray⟩, .string ⟨f.toArray⟩], .int .i64 left] w fun e w' => e = .returned (.int .i64 (szN p.length f.length left)) ∧ Below w.heap.size w w' := by
  unfold maxLen at hp hf
  have hp2 : (p.length : Int) ≤ 9223372036854775807 := by omega
  have hf2 : (f.length : Int) ≤ 9223372036854775807 := by omega
  by_cases hA : (p.length : Int) ≤ left
  · by_cases hC : (p.length : Int) + (f.length : Int) ≤ left
    · have HS : Hid (szN p.length f.length left = left - (p.length : Int) - (f.length : Int)) := szN_yes hC
      go_enter Try.func47, Try.ntmps47
      go_wp2
      go_ret
      exact ⟨by rw [HS.out]; rfl, (Below.refl _ w).alloc (Nat.le_refl _) _⟩
    · have HS : Hid (szN p.length f.length left = -1) := szN_no hC
      go_enter Try.func47, Try.ntmps47
      go_wp2
      go_ret
      exact ⟨by rw [HS.out]; rfl, (Below.refl _ w).alloc (Nat.le_refl _) _⟩
  · have HS : Hid (szN p.length f.length left = -1) := szN_no (by omega)
    go_enter Try.func47, Try.ntmps47
    go_wp2
    go_ret
    exact ⟨by rw [HS.out]; rfl, (Below.refl _ w).alloc (Nat.le_refl _) _⟩

set_option maxHeartbeats 1000000 in
set_option maxRecDepth 100000 in
theorem szNodeSC (a : Option Addr) (len cap : Nat) (ns : List Nd) (left : Int) (w : World) (hin : NodesIn w a len ns) (h0 : 0 ≤ left) (h1 : left ≤ 1048576) (hl : len ≤ maxLen) (hm : LongT ns) :
    Calls Try.prog 21 #[.slice a len cap, .int .i64 left] w fun e w' => e = .returned (.int .i64 (szN len (textsN ns) left)) ∧ Below w.heap.size w w' := by
  unfold maxLen at hl
  have hl2 : (len : Int) ≤ 9223372036854775807 := by omega
  have hlb := hin.1
  by_cases h : (len : Int) ≤ left
  · have hlen : len ≤ 1048576 := by omega
    have HI : Hid (NodesIn w a len ns) := hin
    have HM : Hid (LongT ns) := hm
    clear hin hm
    go_enter Try.func21, Try.ntmps21
    go_wp2
    go_loopw [1, 5] (fun l i wr => ∃ k : Nat, k ≤ len ∧ i = .int .i64 k ∧ l = .int .i64 (left - (len : Int) - (textsN (ns.take k) : Int)) ∧ (textsN (ns.take k) : Int) ≤ left - (len : Int) ∧ Below w.heap.size w wr) (fun _ i _ => len - (intOf i).toNat)
    case atStart => exact ⟨0, Nat.zero_le _, rfl, by simp [textsN], by simp [textsN]; omega, Below.refl _ _⟩
    case round =>
      obtain ⟨k, hk, rfl, rfl, hle, hB⟩ := hrel
      by_cases hkl : (k : Int) < (len : Int)
      · obtain ⟨b, off, rfl, hbl, hcells⟩ := (HI.out.below hB).at (by omega)
        obtain ⟨c0, c1, c2, c3⟩ := hcells k (by omega)
        have hmk := HM.out k
        have hst := textsN_snoc ns k (by omega)
        have htt := textsN_take ns (k + 1)
        obtain ⟨n, hn⟩ : ∃ n, ns.getD k nd0 = n := ⟨_, rfl⟩
        rw [hn] at c0 c1 c2 c3 hmk hst
        obtain ⟨kd, aa, p, f⟩ := n
        simp only at c0 c1 c2 c3 hmk hst
        obtain ⟨m, hmm⟩ : ∃ m, textsN (ns.take k) = m := ⟨_, rfl⟩
        rw [hmm] at hle hst ⊢
        have HS : Hid (textsN (ns.take (k + 1)) = m + (p.length + f.length)) := hst
        clear hst hn hcells hmm
        by_cases hfit : (p.length : Int) + (f.length : Int) ≤ left - (len : Int) - (m : Int)
        · have HZ : Hid (szN p.length f.length (left - (len : Int) - (m : Int)) = left - (len : Int) - (textsN (ns.take (k + 1)) : Int)) := by
            exact (by rw [HS.out, szN_yes (by omega)]; omega : szN p.length f.length (left - (len : Int) - (m : Int)) = left - (len : Int) - (textsN (ns.take (k + 1)) : Int))
          go_wp2_with fail
          refine (szNodeC kd aa _ p f _ (by omega) (by omega) hmk.1 hmk.2).mono ?_
          rintro e w1 ⟨rfl, hb1⟩
          rw [HZ.out]
          have hle2 : (textsN (ns.take (k + 1)) : Int) ≤ left - (len : Int) := by rw [HS.out]; omega
          have hge : (0 : Int) ≤ left - (len : Int) - (textsN (ns.take (k + 1)) : Int) := by omega
          go_wp2
          go_roundw
          case rel => exact ⟨k + 1, by omega, by go_num, rfl, hle2, hB.trans (hb1.mono hB.size)⟩
          case measure => simp [intOf]; omega
        · have HZ : Hid (szN p.length f.length (left - (len : Int) - (m : Int)) = -1) := szN_no (by omega)
          have HR : Hid (szN len (textsN ns) left = -1) := szN_no (by have := HS.out; omega)
          go_wp2_with fail
          refine (szNodeC kd aa _ p f _ (by omega) (by omega) hmk.1 hmk.2).mono ?_
          rintro e w1 ⟨rfl, hb1⟩
          rw [HZ.out]
          go_wp2
          go_ret
          exact ⟨by rw [HR.out]; rfl, hB.trans (hb1.mono hB.size)⟩
      · have HT : Hid (ns.take k = ns) := List.take_of_length_le (by omega)
        have HR : Hid (szN len (textsN ns) left = left - (len : Int) - (textsN (ns.take k) : Int)) := by exact (by rw [HT.out] at hle ⊢; exact szN_yes (by omega) : szN len (textsN ns) left = left - (len : Int) - (textsN (ns.take k) : Int))
        go_wp2
        go_ret
        exact ⟨by rw [HR.out]; rfl, hB⟩
  · have HR : Hid (szN len (textsN ns) left = -1) := szN_no (by omega)
    clear hin hm
    go_enter Try.func21, Try.ntmps21
    go_wp2
    go_ret
    exact ⟨by rw [HR.out]; rfl, Below.refl _ _⟩

set_option maxHeartbeats 400000 in
set_option maxRecDepth 100000 in
theorem toNodeC (k a : Int) (p f : List UInt8) (w : World) :
    Calls Try.prog 48 #[.agg #[.int .i64 k, .int .i64 a, .string ⟨p.toArray⟩, .string ⟨f.toArray⟩]] w fun e w' => e = .returned (.agg #[.int .i64 k, .int .i64 a, .string ⟨p.toArray⟩, .string ⟨f.toArray⟩]) ∧ Below w.heap.size w w' := by
  go_enter Try.func48, Try.ntmps48
  go_wp2
  refine bodyPost_ret (v := .agg #[.int .i64 k, .int .i64 a, .string ⟨p.toArray⟩, .string ⟨f.toArray⟩]) (by simp [results, Try.results48, go_sem]) rfl ?_
  exact ⟨rfl, (((Below.refl _ w).alloc (Nat.le_refl _) _).alloc (by simp) _).alloc (by simp; omega) _⟩

theorem nodesV_set (ns : List Nd) (j : Nat) (k a : Int) (p f : List UInt8) : ((((nodesV ns).set (j * 4) (.int .i64 k)).set (j * 4 + 1) (.int .i64 a)).set (j * 4 + 2) (.string ⟨p.toArray⟩)).set (j * 4 + 3) (.string ⟨f.toArray⟩) = nodesV (ns.set j (k, a, p, f)) := by
  induction ns generalizing j with
  | nil => simp [nodesV]
  | cons b r ih =>
    cases j with
    | zero => simp [nodesV]
    | succ j => rw [show (j + 1) * 4 = j * 4 + 1 + 1 + 1 + 1 by omega]; simp [nodesV, ih]

theorem made_nodes (n : Nat) : (madeCells (Value.agg #[.int .i64 0, .int .i64 0, .string ⟨#[]⟩, .string ⟨#[]⟩]).cells (n * 4)).toList = nodesV (List.replicate n nd0) := by
  have hc : (Value.agg #[.int .i64 0, .int .i64 0, .string ⟨#[]⟩, .string ⟨#[]⟩]).cells = #[.int .i64 0, .int .i64 0, .string ⟨#[]⟩, .string ⟨#[]⟩] := rfl
  rw [hc]
  apply List.ext_getElem?
  intro j
  by_cases hj : j < n * 4
  · obtain ⟨v0, v1, v2, v3⟩ := nodesV_at (List.replicate n nd0) (j / 4) (by simp; omega)
    have hg : (List.replicate n nd0).getD (j / 4) nd0 = nd0 := by simp [List.getD, List.getElem?_replicate]; split <;> rfl
    rw [hg] at v0 v1 v2 v3
    have h4 : j % 4 = 0 ∨ j % 4 = 1 ∨ j % 4 = 2 ∨ j % 4 = 3 := by omega
    rcases h4 with h' | h' | h' | h'
    · have ej : j = j / 4 * 4 := by omega
      rw [← ej] at v0
      rw [v0]
      simp [madeCells, hj, h', nd0]
    · have ej : j = j / 4 * 4 + 1 := by omega
      rw [← ej] at v1
      rw [v1]
      simp [madeCells, hj, h', nd0]
    · have ej : j = j / 4 * 4 + 2 := by omega
      rw [← ej] at v2
      rw [v2]
      simp [madeCells, hj, h', nd0]
    · have ej : j = j / 4 * 4 + 3 := by omega
      rw [← ej] at v3
      rw [v3]
      simp [madeCells, hj, h', nd0]
  · rw [List.getElem?_eq_none (by simp [madeCells]; omega), List.getElem?_eq_none (by rw [nodesV_len]; simp; omega)]

theorem fill_node (ns : List Nd) (k : Nat) (hk : k < ns.length) : (ns.take k ++ List.replicate (ns.length - k) nd0).set k (ns.getD k nd0) = ns.take (k + 1) ++ List.replicate (ns.length - (k + 1)) nd0 := by
  have hg : ns.getD k nd0 = ns[k] := by simp [List.getD, hk]
  rw [hg, List.set_append_right _ _ (by rw [List.length_take]; omega), List.length_take, Nat.min_eq_left (by omega), Nat.sub_self, show ns.length - k = (ns.length - (k + 1)) + 1 by omega, List.replicate_succ, List.set_cons_zero, List.take_succ_eq_append_getElem hk, List.append_assoc]
  rfl

set_option maxHeartbeats 2000000 in
set_option maxRecDepth 100000 in
theorem toNodeSC (a : Option Addr) (len cap : Nat) (ns : List Nd) (w : World) (hin : NodesIn w a len ns) (hlen : len ≤ 1048576) :
    Calls Try.prog 22 #[.slice a len cap] w fun e w' => ∃ v, e = .returned v ∧ w'.ownsRow w.heap.size 33 4 v len (nodesV ns) ∧ v ≠ .slice none 0 0 ∧ Below w.heap.size w w' := by
  obtain ⟨i0, hi, hz0, hz1, hz2⟩ := info_parts infoNode
  have hlb := hin.1
  have HI : Hid (NodesIn w a len ns) := hin
  clear hin
  go_enter Try.func22, Try.ntmps22
  go_wp2_with (at_make; refine wpList_make_full _ rfl _ _ 24 rfl w.heap.size 33 i0 _ 4 Try.underlying24 hi hz0 hz1 .i64 .i64 _ _ len rfl rfl rfl rfl (by rw [hz2]; omega) (by unfold maxLen; omega) (Nat.le_refl _) ?_; intro w1 hown1 hgrow1)
  rw [made_nodes] at hown1
  have hB1 : Below w.heap.size w w1 := (Below.refl _ _).grown hgrow1 (Nat.le_refl _) (by simp)
  clear hgrow1
  go_loopw [4] (fun i wr => ∃ k : Nat, k ≤ len ∧ i = .int .i64 k ∧ wr.ownsRow w.heap.size 33 4 (.slice (some ⟨w.heap.size, 0, none⟩) len len) len (nodesV (ns.take k ++ List.replicate (ns.length - k) nd0)) ∧ Below w.heap.size w wr) (fun i _ => len - (intOf i).toNat)
  case atStart => exact ⟨0, Nat.zero_le _, rfl, by simpa [hlb] using hown1, hB1⟩
  case round =>
    obtain ⟨k, hk, rfl, hown, hB⟩ := hrel
    clear hown1 hB1
    by_cases hkl : (k : Int) < (len : Int)
    · obtain ⟨b, off, rfl, hbl, hcells⟩ := (HI.out.below hB).at (by omega)
      obtain ⟨c0, c1, c2, c3⟩ := hcells k (by omega)
      have hfs := fill_node ns k (by omega)
      obtain ⟨x, hx⟩ : ∃ x, ns.getD k nd0 = x := ⟨_, rfl⟩
      rw [hx] at c0 c1 c2 c3 hfs
      obtain ⟨kd, aa, p, f⟩ := x
      simp only at c0 c1 c2 c3
      have HF : Hid ((ns.take k ++ List.replicate (ns.length - k) nd0).set k (kd, aa, p, f) = ns.take (k + 1) ++ List.replicate (ns.length - (k + 1)) nd0) := hfs
      have HOW : Hid (wr.ownsRow w.heap.size 33 4 (.slice (some ⟨w.heap.size, 0, none⟩) len len) len (nodesV (ns.take k ++ List.replicate (ns.length - k) nd0))) := hown
      clear hx hcells hfs hown
      go_wp2_with fail
      refine (toNodeC kd aa p f _).mono ?_
      rintro e w2 ⟨rfl, hb2⟩
      have hown2 := own_below HOW.out hb2
      have hl2 : (ns.take k ++ List.replicate (ns.length - k) nd0).length = len := by rw [List.length_append, List.length_take, List.length_replicate]; omega
      obtain ⟨v0, v1, v2, v3⟩ := nodesV_at (ns.take k ++ List.replicate (ns.length - k) nd0) k (by omega)
      obtain ⟨u0, d0⟩ : ∃ u, w2.cell? ⟨w.heap.size, k * 4, none⟩ = some u := by
        rw [hown2.cellAt (k * 4) (by omega), v0]; exact ⟨_, rfl⟩
      obtain ⟨u1, d1⟩ : ∃ u, w2.cell? ⟨w.heap.size, k * 4 + 1, none⟩ = some u := by
        rw [hown2.cellAt (k * 4 + 1) (by omega), v1]; exact ⟨_, rfl⟩
      obtain ⟨u2, d2⟩ : ∃ u, w2.cell? ⟨w.heap.size, k * 4 + 2, none⟩ = some u := by
        rw [hown2.cellAt (k * 4 + 2) (by omega), v2]; exact ⟨_, rfl⟩
      obtain ⟨u3, d3⟩ : ∃ u, w2.cell? ⟨w.heap.size, k * 4 + 3, none⟩ = some u := by
        rw [hown2.cellAt (k * 4 + 3) (by omega), v3]; exact ⟨_, rfl⟩
      have e0 := hown2.frozenAt (k * 4)
      have e1 := hown2.frozenAt (k * 4 + 1)
      have e2 := hown2.frozenAt (k * 4 + 2)
      have e3 := hown2.frozenAt (k * 4 + 3)
      have hs1 := hown2.stored (k * 4) (.int .i64 kd)
      have hs2 := hs1.1.stored (k * 4 + 1) (.int .i64 aa)
      have hs3 := hs2.1.stored (k * 4 + 2) (.string ⟨p.toArray⟩)
      have hs4 := hs3.1.stored (k * 4 + 3) (.string ⟨f.toArray⟩)
      have hnew := hs4.1
      rw [nodesV_set, HF.out] at hnew
      have hB2 : Below w.heap.size w w2 := hB.trans (hb2.mono hB.size)
      have hB3 := (((hB2.setCell (p := ⟨w.heap.size, k * 4, none⟩) (Nat.le_refl _) (.int .i64 kd)).setCell (p := ⟨w.heap.size, k * 4 + 1, none⟩) (Nat.le_refl _) (.int .i64 aa)).setCell (p := ⟨w.heap.size, k * 4 + 2, none⟩) (Nat.le_refl _) (.string ⟨p.toArray⟩)).setCell (p := ⟨w.heap.size, k * 4 + 3, none⟩) (Nat.le_refl _) (.string ⟨f.toArray⟩)
      clear hown2 hs1 hs2 hs3 hs4 hl2 v0 v1 v2 v3
      go_wp2
      go_roundw
      case rel => exact ⟨k + 1, by omega, by go_num, hnew, hB3⟩
      case measure => simp [intOf]; omega
    · have hd : ns.take k ++ List.replicate (ns.length - k) nd0 = ns := by rw [List.take_of_length_le (by omega), show ns.length - k = 0 by omega]; simp
      rw [hd] at hown
      clear hd
      go_wp2
      go_ret
      exact ⟨_, rfl, hown, by simp, hB⟩

set_option maxHeartbeats 400000 in
set_option maxRecDepth 100000 in
theorem eqNodeC (k a : Int) (p f : List UInt8) (w : World) :
    Calls Try.prog 49 #[.agg #[.int .i64 k, .int .i64 a, .string ⟨p.toArray⟩, .string ⟨f.toArray⟩], .agg #[.int .i64 k, .int .i64 a, .string ⟨p.toArray⟩, .string ⟨f.toArray⟩]] w fun e w' => e = .returned (.bool true) ∧ Below w.heap.size w w' := by
  have h1 : ∀ n : Int, (n != n) = false := by simp
  have h2 : ∀ l : List UInt8, (l != l) = false := by simp
  go_enter Try.func49, Try.ntmps49
  go_wp2
  go_ret
  exact ⟨rfl, ((Below.refl _ w).alloc (Nat.le_refl _) _).alloc (by simp) _⟩

set_option maxHeartbeats 2000000 in
set_option maxRecDepth 100000 in
theorem eqNodeSC (a b : Option Addr) (len ca cb : Nat) (ns : List Nd) (w : World) (ha : NodesIn w a len ns) (hb : NodesIn w b len ns) (hlen : len ≤ 4194304) :
    Calls Try.prog 23 #[.slice a len ca, .slice b len cb] w fun e w' => e = .returned (.bool true) ∧ Below w.heap.size w w' := by
  have hlb := ha.1
  have HA : Hid (NodesIn w a len ns) := ha
  have HB : Hid (NodesIn w b len ns) := hb
  clear ha hb
  have h1 : ((len : Int) != (len : Int)) = false := by simp
  go_enter Try.func23, Try.ntmps23
  go_wp2
  go_loopw [5] (fun i wr => ∃ k : Nat, k ≤ len ∧ i = .int .i64 k ∧ Below w.heap.size w wr) (fun i _ => len - (intOf i).toNat)
  case atStart => exact ⟨0, Nat.zero_le _, rfl, Below.refl _ _⟩
  case round =>
    obtain ⟨k, hk, rfl, hB⟩ := hrel
    by_cases hkl : (k : Int) < (len : Int)
    · obtain ⟨b1, o1, rfl, hb1, hc1⟩ := (HA.out.below hB).at (by omega)
      obtain ⟨b2, o2, rfl, hb2, hc2⟩ := (HB.out.below hB).at (by omega)
      obtain ⟨x0, x1, x2, x3⟩ := hc1 k (by omega)
      obtain ⟨y0, y1, y2, y3⟩ := hc2 k (by omega)
      obtain ⟨x, hx⟩ : ∃ x, ns.getD k nd0 = x := ⟨_, rfl⟩
      rw [hx] at x0 x1 x2 x3 y0 y1 y2 y3
      obtain ⟨kd, aa, p, f⟩ := x
      simp only at x0 x1 x2 x3 y0 y1 y2 y3
      clear hx hc1 hc2
      go_wp2
      go_region_held3 (fun w' => w'.cell? ⟨b1, o1 + k * 4, none⟩ = some (.int .i64 kd) ∧ w'.cell? ⟨b1, o1 + k * 4 + 1, none⟩ = some (.int .i64 aa) ∧ w'.cell? ⟨b1, o1 + k * 4 + 2, none⟩ = some (.string ⟨p.toArray⟩) ∧ w'.cell? ⟨b1, o1 + k * 4 + 3, none⟩ = some (.string ⟨f.toArray⟩) ∧ w'.cell? ⟨b2, o2 + k * 4, none⟩ = some (.int .i64 kd) ∧ w'.cell? ⟨b2, o2 + k * 4 + 1, none⟩ = some (.int .i64 aa) ∧ w'.cell? ⟨b2, o2 + k * 4 + 2, none⟩ = some (.string ⟨p.toArray⟩) ∧ w'.cell? ⟨b2, o2 + k * 4 + 3, none⟩ = some (.string ⟨f.toArray⟩)) (go_keep) (first | (go_at_call 49; refine (eqNodeC kd aa p f _).mono ?_; rintro e w1 ⟨rfl, hw1⟩; have d0 : w1.cell? ⟨b1, o1 + k * 4, none⟩ = some (.int .i64 kd) := (hw1.cell (p := ⟨b1, o1 + k * 4, none⟩) hb1).trans x0; have d1 : w1.cell? ⟨b1, o1 + k * 4 + 1, none⟩ = some (.int .i64 aa) := (hw1.cell (p := ⟨b1, o1 + k * 4 + 1, none⟩) hb1).trans x1; have d2 : w1.cell? ⟨b1, o1 + k * 4 + 2, none⟩ = some (.string ⟨p.toArray⟩) := (hw1.cell (p := ⟨b1, o1 + k * 4 + 2, none⟩) hb1).trans x2; have d3 : w1.cell? ⟨b1, o1 + k * 4 + 3, none⟩ = some (.string ⟨f.toArray⟩) := (hw1.cell (p := ⟨b1, o1 + k * 4 + 3, none⟩) hb1).trans x3; have e0 : w1.cell? ⟨b2, o2 + k * 4, none⟩ = some (.int .i64 kd) := (hw1.cell (p := ⟨b2, o2 + k * 4, none⟩) hb2).trans y0; have e1 : w1.cell? ⟨b2, o2 + k * 4 + 1, none⟩ = some (.int .i64 aa) := (hw1.cell (p := ⟨b2, o2 + k * 4 + 1, none⟩) hb2).trans y1; have e2 : w1.cell? ⟨b2, o2 + k * 4 + 2, none⟩ = some (.string ⟨p.toArray⟩) := (hw1.cell (p := ⟨b2, o2 + k * 4 + 2, none⟩) hb2).trans y2; have e3 : w1.cell? ⟨b2, o2 + k * 4 + 3, none⟩ = some (.string ⟨f.toArray⟩) := (hw1.cell (p := ⟨b2, o2 + k * 4 + 3, none⟩) hb2).trans y3))
      all_goals go_wp2
      go_roundw
      case rel => exact ⟨k + 1, by omega, by go_num, hB.trans ⟨hw1.os, hw1.tape, hw1.output, hw1.size, fun q hq => hw1.block q (by have := hB.size; show q < wr.heap.size; omega)⟩⟩
      case measure => simp [intOf]; omega
    · go_wp2
      go_ret
      exact ⟨rfl, hB⟩

end Go.Proofs.Ytdnehneldmmeoaa

/-! The contracts of DrawHash and DrawTurned. -/
namespace Go.Proofs.Ytdnehneldmmeoaa
open Go.RowKit


def pick (l : List Int) (x : Int) : Int := l.getD x.toNat 0

end Go.Proofs.Ytdnehneldmmeoaa

/-! Words, and numbers that are none, are drawn. -/
namespace Go.Proofs.Ytdnehneldmmeoaa
open Go.RowKit

end Go.Proofs.Ytdnehneldmmeoaa

/-! A text is drawn. -/
namespace Go.Proofs.Ytdnehneldmmeoaa
open Go.RowKit


end Go.Proofs.Ytdnehneldmmeoaa

/-! What the bending of a text needs: a slice of bytes at the head of a block that is new since the call began, and an append's law at a step of a region that draws its order. -/
namespace Go.Proofs.Ytdnehneldmmeoaa
open Go.RowKit

/-- Block g, new since 'base', holds the bytes l from its head on, and they may be written. -/
structure RowB (w : World) (base g cap : Nat) (l : List UInt8) : Prop where
  new : base ≤ g
  there : g < w.heap.size
  room : l.length ≤ cap
  most : cap ≤ maxLen
  cells : ∀ j (hj : j < l.length), w.cell? ⟨g, j, none⟩ = some (.int .u8 (l[j].toNat : Int))
  free : ∀ j, j < l.length → w.frozen? ⟨g, j, none⟩ = false

theorem RowB.kept {w w' : World} {base g cap : Nat} {l : List UInt8} {row : Option Nat} (h : RowB w base g cap l) (hg : w.grownBy w' row) (hne : some g ≠ row) : RowB w' base g cap l := by
  have hb := hg.block g h.there hne
  exact ⟨h.new, Nat.lt_of_lt_of_le h.there hg.size, h.room, h.most, fun j hj => (World.cell?_of_block hb).trans (h.cells j hj), fun j hj => (World.frozen?_of_block hb).trans (h.free j hj)⟩

theorem RowB.base {w : World} {base base' g cap : Nat} {l : List UInt8} (h : RowB w base g cap l) (hb : base' ≤ base) : RowB w base' g cap l := ⟨Nat.le_trans hb h.new, h.there, h.room, h.most, h.cells, h.free⟩

theorem RowB.cut {w : World} {base g cap : Nat} {l : List UInt8} (h : RowB w base g cap l) (k : Nat) : RowB w base g cap (l.take k) := by
  have hl : (l.take k).length ≤ l.length := List.length_take_le' _ _
  refine ⟨h.new, h.there, Nat.le_trans hl h.room, h.most, ?_, ?_⟩
  · intro j hj
    rw [h.cells j (by omega)]
    simp
  · intro j hj; exact h.free j (by omega)

theorem RowB.store {w : World} {base g cap : Nat} {l : List UInt8} (h : RowB w base g cap l) (k : Nat) (hk : k < l.length) (x : UInt8) : RowB (w.setCell ⟨g, k, none⟩ (.int .u8 (x.toNat : Int))) base g cap (l.set k x) := by
  refine ⟨h.new, by simpa using h.there, by simpa using h.room, h.most, ?_, ?_⟩
  · intro j hj
    have hj' : j < l.length := by simpa using hj
    by_cases e : j = k
    · subst e
      rw [World.cell?_setCell_same _ _ _ (h.cells j hj')]
      simp
    · rw [World.cell?_setCell_other _ _ _ _ (by intro e2; injection e2 with _ e3; exact e e3.symm), h.cells j hj', List.getElem_set_ne (fun e2 => e e2.symm)]
  · intro j hj
    rw [World.frozen?_setCell]; exact h.free j (by simpa using hj)

theorem RowB.drew {w : World} {base g cap : Nat} {l : List UInt8} (h : RowB w base g cap l) : RowB w.drew base g cap l := ⟨h.new, h.there, h.room, h.most, h.cells, h.free⟩

theorem bytesV_at (l : List UInt8) (j : Nat) (u : Value) (h : (bytesV l)[j]? = some u) : ∃ hj : j < l.length, u = .int .u8 (l[j].toNat : Int) := by
  unfold bytesV at h
  rw [List.getElem?_map] at h
  rcases hx : l[j]? with _ | x
  · rw [hx] at h; cases h
  · rw [hx] at h
    obtain ⟨hj, e⟩ := List.getElem?_eq_some_iff.1 hx
    injection h with h
    exact ⟨hj, by rw [e]; exact h.symm⟩

theorem add_plain (b off j : Nat) : (⟨b, off, none⟩ : Addr).add j = ⟨b, off + j, none⟩ := by unfold Addr.add; split <;> simp_all

/-- The cells of b[k:], as an append takes them. -/
theorem RowB.tail {w : World} {base g cap : Nat} {l : List UInt8} (h : RowB w base g cap l) (k : Nat) : ∀ j u, (bytesV (l.drop k))[j]? = some u → w.cell? ((⟨g, k, none⟩ : Addr).add j) = some u := by
  intro j u hu
  obtain ⟨hj, rfl⟩ := bytesV_at _ _ _ hu
  have hj' : k + j < l.length := by rw [List.length_drop] at hj; omega
  rw [add_plain, h.cells (k + j) hj']
  simp

end Go.Proofs.Ytdnehneldmmeoaa

/-! The contract of l1Bend: a text that is bent at most twice. -/
namespace Go.Proofs.Ytdnehneldmmeoaa
open Go.RowKit


end Go.Proofs.Ytdnehneldmmeoaa

/-! The contracts of DrawLines, DrawWords, DrawNameOk, DrawNumberOf. -/
namespace Go.Proofs.Ytdnehneldmmeoaa
open Go.RowKit



def pickT (l : List (List UInt8)) (x : Int) : List UInt8 := l.getD x.toNat []

end Go.Proofs.Ytdnehneldmmeoaa

/-! A node is drawn. -/
namespace Go.Proofs.Ytdnehneldmmeoaa
open Go.RowKit

theorem Code.alloc {w : World} {B : Nat} {a : Option Addr} {len : Nat} (h : Code w B a len) (hB : B ≤ w.heap.size) (o : Obj) : Code (w.alloc o) (B + 1) a len := by
  intro j hj
  obtain ⟨b, off, x, e1, e2, e3, e0⟩ := h j hj
  exact ⟨b, off, x, e1, by omega, (World.cell?_of_block (a := ⟨b, off + j, none⟩) (Below.heap_alloc _ _ _ (by show b < _; omega))).trans e3, e0⟩

end Go.Proofs.Ytdnehneldmmeoaa

/-! What the contracts of chapter 12's specification lean on. -/
namespace Go.Proofs.Ytdnehneldmmeoaa
open Go.RowKit

set_option maxHeartbeats 400000 in
set_option maxRecDepth 100000 in
theorem specMax12 (x y : Int) (w : World) : Calls Try.prog 56 #[.int .i64 x, .int .i64 y] w fun e w' => e = .returned (.int .i64 (max x y)) ∧ w' = w := by
  by_cases h : x > y
  · have HF : Hid (max x y = x) := by exact (by omega : max x y = x)
    go_enter Try.func56, Try.ntmps56
    go_wp2
    go_ret
    exact ⟨by rw [HF.out]; rfl, rfl⟩
  · have HF : Hid (max x y = y) := by exact (by omega : max x y = y)
    go_enter Try.func56, Try.ntmps56
    go_wp2
    go_ret
    exact ⟨by rw [HF.out]; rfl, rfl⟩
theorem node_new12 (V : World) (a b c d : Value) (t : TypeId) : ((V.alloc (.cells #[a, b, c, d] t)).cell? ⟨V.heap.size, 0, none⟩ = some a ∧ (V.alloc (.cells #[a, b, c, d] t)).cell? ⟨V.heap.size, 1, none⟩ = some b ∧ (V.alloc (.cells #[a, b, c, d] t)).cell? ⟨V.heap.size, 2, none⟩ = some c ∧ (V.alloc (.cells #[a, b, c, d] t)).cell? ⟨V.heap.size, 3, none⟩ = some d) ∧ Below V.heap.size V (V.alloc (.cells #[a, b, c, d] t)) := by
  have hb : Below V.heap.size V (V.alloc (.cells #[a, b, c, d] t)) := (Below.refl _ _).alloc (Nat.le_refl _) _
  have hA := heap_alloc_new V (.cells #[a, b, c, d] t)
  generalize V.alloc (.cells #[a, b, c, d] t) = W at hb hA ⊢
  exact ⟨⟨by simp [World.cell?, hA], by simp [World.cell?, hA], by simp [World.cell?, hA], by simp [World.cell?, hA]⟩, hb⟩

theorem push_int12 {X : World} {B n : Nat} {v : Value} {xs : List Int} (x : Int) (hv : X.ownsRow B 2 1 v n (intsV xs)) (hb : B ≤ X.heap.size) (hn : n ≤ 1048576) :
    ∃ v' Y, (Builtin.append_ #[25, 25] 25 #[v, .slice (some ⟨X.heap.size, 0, none⟩) 1 1]).run Try.prog (X.alloc (.cells #[.int .i64 x] 2)) = .ok v' Y ∧ Y.ownsRow B 2 1 v' (n + 1) (intsV (xs ++ [x])) ∧ X.grownBy Y v.ownBlock := by
  obtain ⟨i0, hi, hz0, hz1, hz2⟩ := info_parts info2
  obtain ⟨v', Y, hrun, hown, hg, _⟩ := run_append_src (P := Try.prog) (X.alloc (.cells #[.int .i64 x] 2)) B 25 25 2 i0 _ 1 8 Try.underlying25 hi hz0 hz1 hz2 rfl (by decide) _ _ _ (hv.alloc _) (.slice (some ⟨X.heap.size, 0, none⟩) 1 1) 1 (intsV [x]) ⟨rfl, intsV_one _, Or.inr ⟨_, 1, rfl, new_int X x⟩⟩ (by unfold maxLen; omega) (by omega) (by simp; omega)
  refine ⟨v', Y, hrun, ?_, (World.grownBy_alloc X _ _).trans hg⟩
  rw [intsV_append]
  exact hown
theorem own_any12 {w : World} {base e size n : Nat} {v : Value} {xs : List Value} (h : w.ownsRow base e size v n xs) : ∃ a c, v = .slice a n c := by
  rcases own_forms h with ⟨rfl, rfl, _⟩ | ⟨g, cp, rfl⟩
  · exact ⟨none, 0, rfl⟩
  · exact ⟨some ⟨g, 0, none⟩, cp, rfl⟩
theorem ints_cell {w : World} {B g c n : Nat} {xs : List Int} (h : w.ownsRow B 2 1 (.slice (some ⟨g, 0, none⟩) n c) n (intsV xs)) (j : Nat) (hj : j < xs.length) : w.cell? ⟨g, j, none⟩ = some (.int .i64 (xs.getD j 0)) := by
  have hl := h.1
  rw [intsV_len] at hl
  rw [h.cellAt j (by omega), intsV_at xs j hj]
  simp [List.getD, hj]
theorem own_as {w : World} {B n : Nat} {v : Value} {xs : List Int} (h : w.ownsRow B 2 1 v n (intsV xs)) : ∃ a c, v = .slice a n c ∧ AsIn w a xs := by
  have hl := h.1
  rw [intsV_len] at hl
  rcases own_forms h with ⟨rfl, rfl, _⟩ | ⟨g, cp, rfl⟩
  · exact ⟨none, 0, rfl, fun j hj => by omega⟩
  · exact ⟨_, cp, rfl, nums_as h (by omega)⟩
theorem need_place {t : List Nd} {a : Nat} (hp : 0 ≤ endV t (a : Int)) {i : Nat} (hi : i < kidsN (t.getD a nd0)) : ∃ q : Nat, (pts10 t (a : Int)).getD i 0 = (q : Int) ∧ a < q ∧ 0 ≤ endV t (q : Int) := by
  obtain ⟨q, hq, _, hqe⟩ := part_place hp hi
  refine ⟨q, hq, ?_, hqe⟩
  obtain ⟨s, post, e, hs⟩ := sub_of hp
  cases hs with
  | mk n ks hn hk ho =>
    obtain ⟨e1, e2, e3⟩ := pts_sub e hk ho
    rw [e1] at hi
    obtain ⟨_, e4, _⟩ := e3 i (by omega)
    rw [hq] at e4
    omega
theorem need_at {t : List Nd} {os : List Int} {q d : Nat} (h : 0 ≤ endV t (q : Int)) (hd : t.length ≤ q + d) (hl : t.length ≤ 60) : 1 ≤ need12 d t os (q : Int) ∧ need12 d t os (q : Int) ≤ 60 := by
  obtain ⟨s, post, e, hs⟩ := sub_of h
  have h2 := congrArg List.length e
  rw [List.length_drop, List.length_append] at h2
  have := need_bd hs os d t post q (by omega) e
  omega
/-- What l12Need is told. -/
def Nee12 (B : World) (ta : Option Addr) (tc : Nat) (t : List Nd) (oa : Option Addr) (oc : Nat) (os : List Int) (d : Nat) : Prop := ∀ (w : World) (a : Nat), Below B.heap.size B w → 0 ≤ endV t (a : Int) → t.length ≤ a + d →
  Calls Try.prog 36 #[.slice ta t.length tc, .int .i64 (a : Int), .slice oa os.length oc] w fun e w' => e = .returned (.int .i64 (need12 d t os (a : Int))) ∧ Below w.heap.size w w'

end Go.Proofs.Ytdnehneldmmeoaa
