/-
  Parts of one proof, one behind the other: RowW, PackS4, PackC, NodeL, PackC2, PackS5.
-/
import Derived.Test.YtkjojhkpoooimaaP6
import Derived.Test.YtkjojhkpoooimaaP2
import Derived.Laws.IdiomCopy
import Derived.Test.YtkjojhkpoooimaaP5

/-! A row of bytes that a call has made of a string ('[]byte(s)'), and 'append(b, s...)' onto it, whether there is room or not. -/
namespace Go.Proofs.Ytkjojhkpoooimaa
open Go.RowKit

/-- Block g, new since 'base', holds the bytes l from its head on; all of its cap cells may be written. -/
structure RowW (w : World) (base g cap : Nat) (l : List UInt8) : Prop where
  row : RowB w base g cap l
  all : ∀ j, j < cap → (w.cell? ⟨g, j, none⟩).isSome = true ∧ w.frozen? ⟨g, j, none⟩ = false

theorem RowW.kept {w w' : World} {base g cap : Nat} {l : List UInt8} {row : Option Nat} (h : RowW w base g cap l) (hg : w.grownBy w' row) (hne : some g ≠ row) : RowW w' base g cap l := by
  have hb := hg.block g h.row.there hne
  exact ⟨h.row.kept hg hne, fun j hj => by rw [World.cell?_of_block (a := ⟨g, j, none⟩) hb, World.frozen?_of_block (a := ⟨g, j, none⟩) hb]; exact h.all j hj⟩

theorem RowW.below {w w' : World} {base g cap : Nat} {l : List UInt8} (h : RowW w base g cap l) (hb : Below w.heap.size w w') : RowW w' base g cap l :=
  h.kept (row := none) ⟨hb.os, hb.tape, hb.output, hb.size, fun k hk _ => hb.block k hk⟩ (by simp)

theorem RowW.drew {w : World} {base g cap : Nat} {l : List UInt8} (h : RowW w base g cap l) : RowW w.drew base g cap l :=
  h.below ⟨rfl, rfl, rfl, Nat.le_refl _, fun _ _ => rfl⟩

end Go.Proofs.Ytkjojhkpoooimaa

/-! The contracts of chapter 7's specification: l7Show, ShowPackage. -/
namespace Go.Proofs.Ytkjojhkpoooimaa
open Go.RowKit

/-- A line with its end. -/
def lineT (x : List UInt8) : List UInt8 := x ++ [10]

/-- What a round of l7Show's second loop holds: the function's own block, the row that is written, the function's tree. -/
structure ShSt (X W : World) (B F g cap : Nat) (l s : List UInt8) (n : Int) (t : List Nd) (ta : Option Addr) (tl tc : Nat) : Prop where
  c0 : X.cell? ⟨F, 0, none⟩ = some (.string ⟨s.toArray⟩)
  c1 : X.cell? ⟨F, 1, none⟩ = some (.int .i64 n)
  c2 : X.cell? ⟨F, 2, none⟩ = some (.slice ta tl tc)
  ne : g ≠ F
  row : RowW X B g cap l
  nodes : NodesIn X ta tl t
  b : Below B W X
  bs : B ≤ X.heap.size

theorem ShSt.below {X Y W : World} {B F g cap : Nat} {l s : List UInt8} {n : Int} {t : List Nd} {ta : Option Addr} {tl tc : Nat} (h : ShSt X W B F g cap l s n t ta tl tc) (hb : Below X.heap.size X Y) : ShSt Y W B F g cap l s n t ta tl tc :=
  have hl : F < X.heap.size := World.block_lt_of_cell? X ⟨F, 0, none⟩ h.c0
  ⟨(hb.cell (p := ⟨F, 0, none⟩) hl).trans h.c0, (hb.cell (p := ⟨F, 1, none⟩) hl).trans h.c1, (hb.cell (p := ⟨F, 2, none⟩) hl).trans h.c2, h.ne, h.row.below hb, h.nodes.below hb, h.b.trans (hb.mono h.bs), Nat.le_trans h.bs hb.size⟩

theorem ShSt.drew {X W : World} {B F g cap : Nat} {l s : List UInt8} {n : Int} {t : List Nd} {ta : Option Addr} {tl tc : Nat} (h : ShSt X W B F g cap l s n t ta tl tc) : ShSt X.drew W B F g cap l s n t ta tl tc :=
  h.below ⟨rfl, rfl, rfl, Nat.le_refl _, fun _ _ => rfl⟩

end Go.Proofs.Ytkjojhkpoooimaa

/-! Texts and trees are copied: l1Texts; rows as 'append' reads them. -/
namespace Go.Proofs.Ytkjojhkpoooimaa
open Go.RowKit


theorem TextsIn.src {w : World} {a : Option Addr} {len cap : Nat} {ts : List (List UInt8)} (h : TextsIn w a len ts) (hc : a = none → cap = 0) : Src w (.slice a len cap) len 1 (strV ts) := by
  have hl : (strV ts).length = len := by simp [strV, h.1]
  refine ⟨by rw [hl]; omega, fun u hu => ?_, ?_⟩
  · simp only [strV, List.mem_map] at hu
    obtain ⟨x, _, rfl⟩ := hu
    rfl
  rcases a with _ | ad
  · have h0 : len = 0 := by
      rcases Nat.eq_zero_or_pos len with h' | h'
      · exact h'
      · obtain ⟨b, off, e, _⟩ := h.2 0 h'
        cases e
    exact Or.inl ⟨by rw [h0, hc rfl], h0⟩
  · refine Or.inr ⟨ad, cap, rfl, fun j u hu => ?_⟩
    have hj : j < (strV ts).length := by
      rcases Nat.lt_or_ge j (strV ts).length with h' | h'
      · exact h'
      · rw [List.getElem?_eq_none h'] at hu; cases hu
    rw [hl] at hj
    obtain ⟨b, off, e, _, c0⟩ := h.2 j hj
    injection e with e
    subst e
    rw [add_plain, c0]
    rw [strV_at ts j (by rw [h.1]; exact hj)] at hu
    rw [← hu, List.getD_eq_getElem?_getD, List.getElem?_eq_getElem (by rw [h.1]; exact hj)]
    rfl

theorem NodesIn.src {w : World} {a : Option Addr} {len cap : Nat} {ns : List Nd} (h : NodesIn w a len ns) (hc : a = none → cap = 0) : Src w (.slice a len cap) len 4 (nodesV ns) := by
  refine ⟨by rw [nodesV_len, h.1], nodesV_one ns, ?_⟩
  rcases a with _ | ad
  · have h0 : len = 0 := by
      rcases Nat.eq_zero_or_pos len with h' | h'
      · exact h'
      · obtain ⟨b, off, e, _⟩ := h.2 0 h'
        cases e
    exact Or.inl ⟨by rw [h0, hc rfl], h0⟩
  · refine Or.inr ⟨ad, cap, rfl, fun j u hu => ?_⟩
    have hj : j < (nodesV ns).length := by
      rcases Nat.lt_or_ge j (nodesV ns).length with h' | h'
      · exact h'
      · rw [List.getElem?_eq_none h'] at hu; cases hu
    rw [nodesV_len, h.1] at hj
    obtain ⟨b, off, e, _, c0, c1, c2, c3⟩ := h.2 (j / 4) (by omega)
    injection e with e
    subst e
    obtain ⟨v0, v1, v2, v3⟩ := nodesV_at ns (j / 4) (by rw [h.1]; omega)
    rw [add_plain]
    rcases (show j % 4 = 0 ∨ j % 4 = 1 ∨ j % 4 = 2 ∨ j % 4 = 3 by omega) with h' | h' | h' | h'
    · rw [show j / 4 * 4 = j by omega] at v0 c0
      rw [hu] at v0
      rw [c0, v0]
    · rw [show j / 4 * 4 + 1 = j by omega] at v1
      rw [hu] at v1
      rw [show off + j = off + j / 4 * 4 + 1 by omega, c1, v1]
    · rw [show j / 4 * 4 + 2 = j by omega] at v2
      rw [hu] at v2
      rw [show off + j = off + j / 4 * 4 + 2 by omega, c2, v2]
    · rw [show j / 4 * 4 + 3 = j by omega] at v3
      rw [hu] at v3
      rw [show off + j = off + j / 4 * 4 + 3 by omega, c3, v3]

set_option maxHeartbeats 1000000 in
set_option maxRecDepth 100000 in
theorem specTexts (a : Option Addr) (len cap : Nat) (ts : List (List UInt8)) (w : World) (hin : TextsIn w a len ts) (hc : a = none → cap = 0) (hlen : len ≤ 1048576) :
    Calls Try.prog 104 #[.slice a len cap] w fun e w' => ∃ v, e = .returned v ∧ w'.ownsRow w.heap.size 9 1 v ts.length (strV ts) ∧ Below w.heap.size w w' := by
  obtain rfl : ts.length = len := hin.1
  obtain ⟨i0, hi, hz0, hz1, hz2⟩ := info_parts info9
  have hbA : Below w.heap.size w (w.alloc (.cells #[] 9)) := (Below.refl _ _).alloc (Nat.le_refl _) _
  have hown0 := (World.ownsRow_lit (base := w.heap.size) (e := 9) (size := 1) w #[] 0 (Nat.le_refl _) (by decide) rfl)
  obtain ⟨v', w', hrun, hown', hg, _⟩ := run_append_src (P := Try.prog) (w.alloc (.cells #[] 9)) w.heap.size 33 33 9 i0 _ 1 16 Try.underlying33 hi hz0 hz1 hz2 rfl (by decide) _ _ _ hown0 (.slice a ts.length cap) ts.length (strV ts) ((hin.below hbA).src hc) (by unfold maxLen; omega) (by omega) (by simp)
  have hb : Below w.heap.size w w' := hbA.grown hg hbA.size (fun q e => by simp [Value.ownBlock] at e; omega)
  have HO : Hid (w'.ownsRow w.heap.size 9 1 v' ts.length (strV ts)) := by
    simp only [Nat.zero_add] at hown'
    exact (by simpa using hown' : w'.ownsRow w.heap.size 9 1 v' ts.length (strV ts))
  clear hown' hg hown0 hbA hin
  go_enter Try.func104, Try.ntmps104
  go_wp2_with (at_builtin; refine wpList_append_run rfl (.tmp 3) (.tmp 4) 33 rfl _ _ _ rfl rfl hrun ?_; clear hrun)
  go_ret
  exact ⟨v', rfl, HO.out, hb⟩

end Go.Proofs.Ytkjojhkpoooimaa

/-! The laws' own helpers over nodes and rows of nodes: szNode, szNodeS, toNode, toNodeS, eqNode, eqNodeS. -/
namespace Go.Proofs.Ytkjojhkpoooimaa
open Go.RowKit

/-- How many bytes the texts of nodes have in all. -/
def textsN : List Nd → Nat
  | [] => 0
  | n :: r => n.2.2.1.length + n.2.2.2.length + textsN r
theorem textsN_append (x y : List Nd) : textsN (x ++ y) = textsN x + textsN y := by
  induction x with
  | nil => simp [textsN]
  | cons n r ih => simp only [List.cons_append, textsN, ih]; omega
theorem textsN_snoc (ns : List Nd) (k : Nat) (hk : k < ns.length) : textsN (ns.take (k + 1)) = textsN (ns.take k) + ((ns.getD k nd0).2.2.1.length + (ns.getD k nd0).2.2.2.length) := by
  have hg : ns.getD k nd0 = ns[k] := by simp [List.getD, hk]
  rw [hg, List.take_succ_eq_append_getElem hk, textsN_append]
  simp [textsN]
theorem textsN_take (ns : List Nd) (k : Nat) : textsN (ns.take k) ≤ textsN ns := by
  have := textsN_append (ns.take k) (ns.drop k)
  rw [List.take_append_drop] at this
  omega
theorem textsN_at (ns : List Nd) (j : Nat) : (ns.getD j nd0).2.2.1.length + (ns.getD j nd0).2.2.2.length ≤ textsN ns := by
  by_cases hj : j < ns.length
  · have h1 := textsN_snoc ns j hj
    have h2 := textsN_take ns (j + 1)
    omega
  · have : ns.getD j nd0 = nd0 := by rw [List.getD, List.getElem?_eq_none (by omega)]; rfl
    rw [this]; simp [nd0]
theorem short_of {ns : List Nd} (h : textsN ns ≤ 1048576) : ShortT ns := fun j => by have := textsN_at ns j; omega

def szN (m n : Nat) (left : Int) : Int := if (m : Int) + (n : Int) ≤ left then left - (m : Int) - (n : Int) else -1
theorem szN_yes {m n : Nat} {left : Int} (h : (m : Int) + (n : Int) ≤ left) : szN m n left = left - (m : Int) - (n : Int) := by unfold szN; rw [if_pos h]
theorem szN_no {m n : Nat} {left : Int} (h : ¬ (m : Int) + (n : Int) ≤ left) : szN m n left = -1 := by unfold szN; rw [if_neg h]

/-- A node's numbers are numbers of 64 bits. -/
def IntN (n : Nd) : Prop := (-9223372036854775808 ≤ n.1 ∧ n.1 ≤ 9223372036854775807) ∧ (-9223372036854775808 ≤ n.2.1 ∧ n.2.1 ≤ 9223372036854775807)
def IntT (ns : List Nd) : Prop := ∀ j, IntN (ns.getD j nd0)
theorem intN_nd0 : IntN nd0 := by unfold IntN nd0; decide
theorem IntT.nil : IntT [] := fun j => by rw [show ([] : List Nd).getD j nd0 = nd0 by simp]; exact intN_nd0
def LongT (ns : List Nd) : Prop := ∀ j, (ns.getD j nd0).2.2.1.length ≤ maxLen ∧ (ns.getD j nd0).2.2.2.length ≤ maxLen

set_option maxHeartbeats 400000 in
set_option maxRecDepth 100000 in
theorem szNodeC (k a left : Int) (p f : List UInt8) (w : World) (h0 : 0 ≤ left) (h1 : left ≤ 1048576) (hp : p.length ≤ maxLen) (hf : f.length ≤ maxLen) :
    Calls Try.prog 37 #[.agg #[.int .i64 k, .int .i64 a, .string ⟨p.toArray⟩, .string ⟨f.toArray⟩], .int .i64 left] w fun e w' => e = .returned (.int .i64 (szN p.length f.length left)) ∧ Below w.heap.size w w' := by
  unfold maxLen at hp hf
  have hp2 : (p.length : Int) ≤ 9223372036854775807 := by omega
  have hf2 : (f.length : Int) ≤ 9223372036854775807 := by omega
  by_cases hA : (p.length : Int) ≤ left
  · by_cases hC : (p.length : Int) + (f.length : Int) ≤ left
    · have HS : Hid (szN p.length f.length left = left - (p.length : Int) - (f.length : Int)) := szN_yes hC
      go_enter Try.func37, Try.ntmps37
      go_wp2
      go_ret
      exact ⟨by rw [HS.out]; rfl, (Below.refl _ w).alloc (Nat.le_refl _) _⟩
    · have HS : Hid (szN p.length f.length left = -1) := szN_no hC
      go_enter Try.func37, Try.ntmps37
      go_wp2
      go_ret
      exact ⟨by rw [HS.out]; rfl, (Below.refl _ w).alloc (Nat.le_refl _) _⟩
  · have HS : Hid (szN p.length f.length left = -1) := szN_no (by omega)
    go_enter Try.func37, Try.ntmps37
    go_wp2
    go_ret
    exact ⟨by rw [HS.out]; rfl, (Below.refl _ w).alloc (Nat.le_refl _) _⟩

set_option maxHeartbeats 1000000 in
set_option maxRecDepth 100000 in
theorem szNodeSC (a : Option Addr) (len cap : Nat) (ns : List Nd) (left : Int) (w : World) (hin : NodesIn w a len ns) (h0 : 0 ≤ left) (h1 : left ≤ 1048576) (hl : len ≤ maxLen) (hm : LongT ns) :
    Calls Try.prog 14 #[.slice a len cap, .int .i64 left] w fun e w' => e = .returned (.int .i64 (szN len (textsN ns) left)) ∧ Below w.heap.size w w' := by
  unfold maxLen at hl
  have hl2 : (len : Int) ≤ 9223372036854775807 := by omega
  have hlb := hin.1
  by_cases h : (len : Int) ≤ left
  · have hlen : len ≤ 1048576 := by omega
    have HI : Hid (NodesIn w a len ns) := hin
    have HM : Hid (LongT ns) := hm
    clear hin hm
    go_enter Try.func14, Try.ntmps14
    go_wp2
    go_loopw [1, 5] (fun l i wr => ∃ k : Nat, k ≤ len ∧ i = .int .i64 k ∧ l = .int .i64 (left - (len : Int) - (textsN (ns.take k) : Int)) ∧ (textsN (ns.take k) : Int) ≤ left - (len : Int) ∧ Below w.heap.size w wr) (fun _ i _ => len - (intOf i).toNat)
    case atStart => exact ⟨0, Nat.zero_le _, rfl, by simp [textsN], by simp [textsN]; omega, Below.refl _ _⟩
    case round =>
      obtain ⟨k, hk, rfl, rfl, hle, hB⟩ := hrel
      by_cases hkl : (k : Int) < (len : Int)
      · obtain ⟨b, off, rfl, hbl, hcells⟩ := (HI.out.below hB).at (by omega)
        obtain ⟨c0, c1, c2, c3⟩ := hcells k (by omega)
        have hmk := HM.out k
        have hst := textsN_snoc ns k (by omega)
        have htt := textsN_take ns (k + 1)
        obtain ⟨n, hn⟩ : ∃ n, ns.getD k nd0 = n := ⟨_, rfl⟩
        rw [hn] at c0 c1 c2 c3 hmk hst
        obtain ⟨kd, aa, p, f⟩ := n
        simp only at c0 c1 c2 c3 hmk hst
        obtain ⟨m, hmm⟩ : ∃ m, textsN (ns.take k) = m := ⟨_, rfl⟩
        rw [hmm] at hle hst ⊢
        have HS : Hid (textsN (ns.take (k + 1)) = m + (p.length + f.length)) := hst
        clear hst hn hcells hmm
        by_cases hfit : (p.length : Int) + (f.length : Int) ≤ left - (len : Int) - (m : Int)
        · have HZ : Hid (szN p.length f.length (left - (len : Int) - (m : Int)) = left - (len : Int) - (textsN (ns.take (k + 1)) : Int)) := by
            exact (by rw [HS.out, szN_yes (by omega)]; omega : szN p.length f.length (left - (len : Int) - (m : Int)) = left - (len : Int) - (textsN (ns.take (k + 1)) : Int))
          go_wp2_with fail
          refine (szNodeC kd aa _ p f _ (by omega) (by omega) hmk.1 hmk.2).mono ?_
          rintro e w1 ⟨rfl, hb1⟩
          rw [HZ.out]
          have hle2 : (textsN (ns.take (k + 1)) : Int) ≤ left - (len : Int) := by rw [HS.out]; omega
          have hge : (0 : Int) ≤ left - (len : Int) - (textsN (ns.take (k + 1)) : Int) := by omega
          go_wp2
          go_roundw
          case rel => exact ⟨k + 1, by omega, by go_num, rfl, hle2, hB.trans (hb1.mono hB.size)⟩
          case measure => simp [intOf]; omega
        · have HZ : Hid (szN p.length f.length (left - (len : Int) - (m : Int)) = -1) := szN_no (by omega)
          have HR : Hid (szN len (textsN ns) left = -1) := szN_no (by have := HS.out; omega)
          go_wp2_with fail
          refine (szNodeC kd aa _ p f _ (by omega) (by omega) hmk.1 hmk.2).mono ?_
          rintro e w1 ⟨rfl, hb1⟩
          rw [HZ.out]
          go_wp2
          go_ret
          exact ⟨by rw [HR.out]; rfl, hB.trans (hb1.mono hB.size)⟩
      · have HT : Hid (ns.take k = ns) := List.take_of_length_le (by omega)
        have HR : Hid (szN len (textsN ns) left = left - (len : Int) - (textsN (ns.take k) : Int)) := by exact (by rw [HT.out] at hle ⊢; exact szN_yes (by omega) : szN len (textsN ns) left = left - (len : Int) - (textsN (ns.take k) : Int))
        go_wp2
        go_ret
        exact ⟨by rw [HR.out]; rfl, hB⟩
  · have HR : Hid (szN len (textsN ns) left = -1) := szN_no (by omega)
    clear hin hm
    go_enter Try.func14, Try.ntmps14
    go_wp2
    go_ret
    exact ⟨by rw [HR.out]; rfl, Below.refl _ _⟩

set_option maxHeartbeats 400000 in
set_option maxRecDepth 100000 in
theorem toNodeC (k a : Int) (p f : List UInt8) (w : World) :
    Calls Try.prog 39 #[.agg #[.int .i64 k, .int .i64 a, .string ⟨p.toArray⟩, .string ⟨f.toArray⟩]] w fun e w' => e = .returned (.agg #[.int .i64 k, .int .i64 a, .string ⟨p.toArray⟩, .string ⟨f.toArray⟩]) ∧ Below w.heap.size w w' := by
  go_enter Try.func39, Try.ntmps39
  go_wp2
  refine bodyPost_ret (v := .agg #[.int .i64 k, .int .i64 a, .string ⟨p.toArray⟩, .string ⟨f.toArray⟩]) (by simp [results, Try.results39, go_sem]) rfl ?_
  exact ⟨rfl, (((Below.refl _ w).alloc (Nat.le_refl _) _).alloc (by simp) _).alloc (by simp; omega) _⟩

theorem nodesV_set (ns : List Nd) (j : Nat) (k a : Int) (p f : List UInt8) : ((((nodesV ns).set (j * 4) (.int .i64 k)).set (j * 4 + 1) (.int .i64 a)).set (j * 4 + 2) (.string ⟨p.toArray⟩)).set (j * 4 + 3) (.string ⟨f.toArray⟩) = nodesV (ns.set j (k, a, p, f)) := by
  induction ns generalizing j with
  | nil => simp [nodesV]
  | cons b r ih =>
    cases j with
    | zero => simp [nodesV]
    | succ j => rw [show (j + 1) * 4 = j * 4 + 1 + 1 + 1 + 1 by omega]; simp [nodesV, ih]

theorem made_nodes (n : Nat) : (madeCells (Value.agg #[.int .i64 0, .int .i64 0, .string ⟨#[]⟩, .string ⟨#[]⟩]).cells (n * 4)).toList = nodesV (List.replicate n nd0) := by
  have hc : (Value.agg #[.int .i64 0, .int .i64 0, .string ⟨#[]⟩, .string ⟨#[]⟩]).cells = #[.int .i64 0, .int .i64 0, .string ⟨#[]⟩, .string ⟨#[]⟩] := rfl
  rw [hc]
  apply List.ext_getElem?
  intro j
  by_cases hj : j < n * 4
  · obtain ⟨v0, v1, v2, v3⟩ := nodesV_at (List.replicate n nd0) (j / 4) (by simp; omega)
    have hg : (List.replicate n nd0).getD (j / 4) nd0 = nd0 := by simp [List.getD, List.getElem?_replicate]; split <;> rfl
    rw [hg] at v0 v1 v2 v3
    have h4 : j % 4 = 0 ∨ j % 4 = 1 ∨ j % 4 = 2 ∨ j % 4 = 3 := by omega
    rcases h4 with h' | h' | h' | h'
    · have ej : j = j / 4 * 4 := by omega
      rw [← ej] at v0
      rw [v0]
      simp [madeCells, hj, h', nd0]
    · have ej : j = j / 4 * 4 + 1 := by omega
      rw [← ej] at v1
      rw [v1]
      simp [madeCells, hj, h', nd0]
    · have ej : j = j / 4 * 4 + 2 := by omega
      rw [← ej] at v2
      rw [v2]
      simp [madeCells, hj, h', nd0]
    · have ej : j = j / 4 * 4 + 3 := by omega
      rw [← ej] at v3
      rw [v3]
      simp [madeCells, hj, h', nd0]
  · rw [List.getElem?_eq_none (by simp [madeCells]; omega), List.getElem?_eq_none (by rw [nodesV_len]; simp; omega)]

theorem fill_node (ns : List Nd) (k : Nat) (hk : k < ns.length) : (ns.take k ++ List.replicate (ns.length - k) nd0).set k (ns.getD k nd0) = ns.take (k + 1) ++ List.replicate (ns.length - (k + 1)) nd0 := by
  have hg : ns.getD k nd0 = ns[k] := by simp [List.getD, hk]
  rw [hg, List.set_append_right _ _ (by rw [List.length_take]; omega), List.length_take, Nat.min_eq_left (by omega), Nat.sub_self, show ns.length - k = (ns.length - (k + 1)) + 1 by omega, List.replicate_succ, List.set_cons_zero, List.take_succ_eq_append_getElem hk, List.append_assoc]
  rfl

set_option maxHeartbeats 2000000 in
set_option maxRecDepth 100000 in
theorem toNodeSC (a : Option Addr) (len cap : Nat) (ns : List Nd) (w : World) (hin : NodesIn w a len ns) (hlen : len ≤ 1048576) :
    Calls Try.prog 16 #[.slice a len cap] w fun e w' => ∃ v, e = .returned v ∧ w'.ownsRow w.heap.size 28 4 v len (nodesV ns) ∧ v ≠ .slice none 0 0 ∧ Below w.heap.size w w' := by
  obtain ⟨i0, hi, hz0, hz1, hz2⟩ := info_parts infoNode
  have hlb := hin.1
  have HI : Hid (NodesIn w a len ns) := hin
  clear hin
  go_enter Try.func16, Try.ntmps16
  go_wp2_with (at_make; refine wpList_make_full _ rfl _ _ 24 rfl w.heap.size 28 i0 _ 4 Try.underlying24 hi hz0 hz1 .i64 .i64 _ _ len rfl rfl rfl rfl (by rw [hz2]; omega) (by unfold maxLen; omega) (Nat.le_refl _) ?_; intro w1 hown1 hgrow1)
  rw [made_nodes] at hown1
  have hB1 : Below w.heap.size w w1 := (Below.refl _ _).grown hgrow1 (Nat.le_refl _) (by simp)
  clear hgrow1
  go_loopw [4] (fun i wr => ∃ k : Nat, k ≤ len ∧ i = .int .i64 k ∧ wr.ownsRow w.heap.size 28 4 (.slice (some ⟨w.heap.size, 0, none⟩) len len) len (nodesV (ns.take k ++ List.replicate (ns.length - k) nd0)) ∧ Below w.heap.size w wr) (fun i _ => len - (intOf i).toNat)
  case atStart => exact ⟨0, Nat.zero_le _, rfl, by simpa [hlb] using hown1, hB1⟩
  case round =>
    obtain ⟨k, hk, rfl, hown, hB⟩ := hrel
    clear hown1 hB1
    by_cases hkl : (k : Int) < (len : Int)
    · obtain ⟨b, off, rfl, hbl, hcells⟩ := (HI.out.below hB).at (by omega)
      obtain ⟨c0, c1, c2, c3⟩ := hcells k (by omega)
      have hfs := fill_node ns k (by omega)
      obtain ⟨x, hx⟩ : ∃ x, ns.getD k nd0 = x := ⟨_, rfl⟩
      rw [hx] at c0 c1 c2 c3 hfs
      obtain ⟨kd, aa, p, f⟩ := x
      simp only at c0 c1 c2 c3
      have HF : Hid ((ns.take k ++ List.replicate (ns.length - k) nd0).set k (kd, aa, p, f) = ns.take (k + 1) ++ List.replicate (ns.length - (k + 1)) nd0) := hfs
      have HOW : Hid (wr.ownsRow w.heap.size 28 4 (.slice (some ⟨w.heap.size, 0, none⟩) len len) len (nodesV (ns.take k ++ List.replicate (ns.length - k) nd0))) := hown
      clear hx hcells hfs hown
      go_wp2_with fail
      refine (toNodeC kd aa p f _).mono ?_
      rintro e w2 ⟨rfl, hb2⟩
      have hown2 := own_below HOW.out hb2
      have hl2 : (ns.take k ++ List.replicate (ns.length - k) nd0).length = len := by rw [List.length_append, List.length_take, List.length_replicate]; omega
      obtain ⟨v0, v1, v2, v3⟩ := nodesV_at (ns.take k ++ List.replicate (ns.length - k) nd0) k (by omega)
      obtain ⟨u0, d0⟩ : ∃ u, w2.cell? ⟨w.heap.size, k * 4, none⟩ = some u := by
        rw [hown2.cellAt (k * 4) (by omega), v0]; exact ⟨_, rfl⟩
      obtain ⟨u1, d1⟩ : ∃ u, w2.cell? ⟨w.heap.size, k * 4 + 1, none⟩ = some u := by
        rw [hown2.cellAt (k * 4 + 1) (by omega), v1]; exact ⟨_, rfl⟩
      obtain ⟨u2, d2⟩ : ∃ u, w2.cell? ⟨w.heap.size, k * 4 + 2, none⟩ = some u := by
        rw [hown2.cellAt (k * 4 + 2) (by omega), v2]; exact ⟨_, rfl⟩
      obtain ⟨u3, d3⟩ : ∃ u, w2.cell? ⟨w.heap.size, k * 4 + 3, none⟩ = some u := by
        rw [hown2.cellAt (k * 4 + 3) (by omega), v3]; exact ⟨_, rfl⟩
      have e0 := hown2.frozenAt (k * 4)
      have e1 := hown2.frozenAt (k * 4 + 1)
      have e2 := hown2.frozenAt (k * 4 + 2)
      have e3 := hown2.frozenAt (k * 4 + 3)
      have hs1 := hown2.stored (k * 4) (.int .i64 kd)
      have hs2 := hs1.1.stored (k * 4 + 1) (.int .i64 aa)
      have hs3 := hs2.1.stored (k * 4 + 2) (.string ⟨p.toArray⟩)
      have hs4 := hs3.1.stored (k * 4 + 3) (.string ⟨f.toArray⟩)
      have hnew := hs4.1
      rw [nodesV_set, HF.out] at hnew
      have hB2 : Below w.heap.size w w2 := hB.trans (hb2.mono hB.size)
      have hB3 := (((hB2.setCell (p := ⟨w.heap.size, k * 4, none⟩) (Nat.le_refl _) (.int .i64 kd)).setCell (p := ⟨w.heap.size, k * 4 + 1, none⟩) (Nat.le_refl _) (.int .i64 aa)).setCell (p := ⟨w.heap.size, k * 4 + 2, none⟩) (Nat.le_refl _) (.string ⟨p.toArray⟩)).setCell (p := ⟨w.heap.size, k * 4 + 3, none⟩) (Nat.le_refl _) (.string ⟨f.toArray⟩)
      clear hown2 hs1 hs2 hs3 hs4 hl2 v0 v1 v2 v3
      go_wp2
      go_roundw
      case rel => exact ⟨k + 1, by omega, by go_num, hnew, hB3⟩
      case measure => simp [intOf]; omega
    · have hd : ns.take k ++ List.replicate (ns.length - k) nd0 = ns := by rw [List.take_of_length_le (by omega), show ns.length - k = 0 by omega]; simp
      rw [hd] at hown
      clear hd
      go_wp2
      go_ret
      exact ⟨_, rfl, hown, by simp, hB⟩

set_option maxHeartbeats 400000 in
set_option maxRecDepth 100000 in
theorem eqNodeC (k a : Int) (p f : List UInt8) (w : World) :
    Calls Try.prog 40 #[.agg #[.int .i64 k, .int .i64 a, .string ⟨p.toArray⟩, .string ⟨f.toArray⟩], .agg #[.int .i64 k, .int .i64 a, .string ⟨p.toArray⟩, .string ⟨f.toArray⟩]] w fun e w' => e = .returned (.bool true) ∧ Below w.heap.size w w' := by
  have h1 : ∀ n : Int, (n != n) = false := by simp
  have h2 : ∀ l : List UInt8, (l != l) = false := by simp
  go_enter Try.func40, Try.ntmps40
  go_wp2
  go_ret
  exact ⟨rfl, ((Below.refl _ w).alloc (Nat.le_refl _) _).alloc (by simp) _⟩

set_option maxHeartbeats 2000000 in
set_option maxRecDepth 100000 in
theorem eqNodeSC (a b : Option Addr) (len ca cb : Nat) (ns : List Nd) (w : World) (ha : NodesIn w a len ns) (hb : NodesIn w b len ns) (hlen : len ≤ 4194304) :
    Calls Try.prog 17 #[.slice a len ca, .slice b len cb] w fun e w' => e = .returned (.bool true) ∧ Below w.heap.size w w' := by
  have hlb := ha.1
  have HA : Hid (NodesIn w a len ns) := ha
  have HB : Hid (NodesIn w b len ns) := hb
  clear ha hb
  have h1 : ((len : Int) != (len : Int)) = false := by simp
  go_enter Try.func17, Try.ntmps17
  go_wp2
  go_loopw [5] (fun i wr => ∃ k : Nat, k ≤ len ∧ i = .int .i64 k ∧ Below w.heap.size w wr) (fun i _ => len - (intOf i).toNat)
  case atStart => exact ⟨0, Nat.zero_le _, rfl, Below.refl _ _⟩
  case round =>
    obtain ⟨k, hk, rfl, hB⟩ := hrel
    by_cases hkl : (k : Int) < (len : Int)
    · obtain ⟨b1, o1, rfl, hb1, hc1⟩ := (HA.out.below hB).at (by omega)
      obtain ⟨b2, o2, rfl, hb2, hc2⟩ := (HB.out.below hB).at (by omega)
      obtain ⟨x0, x1, x2, x3⟩ := hc1 k (by omega)
      obtain ⟨y0, y1, y2, y3⟩ := hc2 k (by omega)
      obtain ⟨x, hx⟩ : ∃ x, ns.getD k nd0 = x := ⟨_, rfl⟩
      rw [hx] at x0 x1 x2 x3 y0 y1 y2 y3
      obtain ⟨kd, aa, p, f⟩ := x
      simp only at x0 x1 x2 x3 y0 y1 y2 y3
      clear hx hc1 hc2
      go_wp2
      go_region_held3 (fun w' => w'.cell? ⟨b1, o1 + k * 4, none⟩ = some (.int .i64 kd) ∧ w'.cell? ⟨b1, o1 + k * 4 + 1, none⟩ = some (.int .i64 aa) ∧ w'.cell? ⟨b1, o1 + k * 4 + 2, none⟩ = some (.string ⟨p.toArray⟩) ∧ w'.cell? ⟨b1, o1 + k * 4 + 3, none⟩ = some (.string ⟨f.toArray⟩) ∧ w'.cell? ⟨b2, o2 + k * 4, none⟩ = some (.int .i64 kd) ∧ w'.cell? ⟨b2, o2 + k * 4 + 1, none⟩ = some (.int .i64 aa) ∧ w'.cell? ⟨b2, o2 + k * 4 + 2, none⟩ = some (.string ⟨p.toArray⟩) ∧ w'.cell? ⟨b2, o2 + k * 4 + 3, none⟩ = some (.string ⟨f.toArray⟩)) (go_keep) (first | (go_at_call 40; refine (eqNodeC kd aa p f _).mono ?_; rintro e w1 ⟨rfl, hw1⟩; have d0 : w1.cell? ⟨b1, o1 + k * 4, none⟩ = some (.int .i64 kd) := (hw1.cell (p := ⟨b1, o1 + k * 4, none⟩) hb1).trans x0; have d1 : w1.cell? ⟨b1, o1 + k * 4 + 1, none⟩ = some (.int .i64 aa) := (hw1.cell (p := ⟨b1, o1 + k * 4 + 1, none⟩) hb1).trans x1; have d2 : w1.cell? ⟨b1, o1 + k * 4 + 2, none⟩ = some (.string ⟨p.toArray⟩) := (hw1.cell (p := ⟨b1, o1 + k * 4 + 2, none⟩) hb1).trans x2; have d3 : w1.cell? ⟨b1, o1 + k * 4 + 3, none⟩ = some (.string ⟨f.toArray⟩) := (hw1.cell (p := ⟨b1, o1 + k * 4 + 3, none⟩) hb1).trans x3; have e0 : w1.cell? ⟨b2, o2 + k * 4, none⟩ = some (.int .i64 kd) := (hw1.cell (p := ⟨b2, o2 + k * 4, none⟩) hb2).trans y0; have e1 : w1.cell? ⟨b2, o2 + k * 4 + 1, none⟩ = some (.int .i64 aa) := (hw1.cell (p := ⟨b2, o2 + k * 4 + 1, none⟩) hb2).trans y1; have e2 : w1.cell? ⟨b2, o2 + k * 4 + 2, none⟩ = some (.string ⟨p.toArray⟩) := (hw1.cell (p := ⟨b2, o2 + k * 4 + 2, none⟩) hb2).trans y2; have e3 : w1.cell? ⟨b2, o2 + k * 4 + 3, none⟩ = some (.string ⟨f.toArray⟩) := (hw1.cell (p := ⟨b2, o2 + k * 4 + 3, none⟩) hb2).trans y3))
      all_goals go_wp2
      go_roundw
      case rel => exact ⟨k + 1, by omega, by go_num, hB.trans ⟨hw1.os, hw1.tape, hw1.output, hw1.size, fun q hq => hw1.block q (by have := hB.size; show q < wr.heap.size; omega)⟩⟩
      case measure => simp [intOf]; omega
    · go_wp2
      go_ret
      exact ⟨rfl, hB⟩

end Go.Proofs.Ytkjojhkpoooimaa

/-! A function is copied: l7CopyFunc. -/
namespace Go.Proofs.Ytkjojhkpoooimaa
open Go.RowKit

set_option maxHeartbeats 2000000 in
set_option maxRecDepth 100000 in
theorem specCopyFunc (f : Fn) (ta : Option Addr) (tl tc : Nat) (w : World) (hin : NodesIn w ta tl f.2.2) (hc : ta = none → tc = 0) (hlen : tl ≤ 1048576) :
    Calls Try.prog 105 #[.agg #[.string ⟨f.1.toArray⟩, .int .i64 f.2.1, .slice ta tl tc]] w fun e w' => ∃ v, e = .returned (.agg #[.string ⟨f.1.toArray⟩, .int .i64 f.2.1, v]) ∧ w'.ownsRow w.heap.size 28 4 v f.2.2.length (nodesV f.2.2) ∧ Below w.heap.size w w' := by
  obtain ⟨s, n, t⟩ := f
  simp only at hin ⊢
  obtain rfl : t.length = tl := hin.1
  obtain ⟨i0, hi, hz0, hz1, hz2⟩ := info_parts infoNode
  obtain ⟨W1, hW1⟩ : ∃ W, w.alloc (.cells #[.string ⟨s.toArray⟩, .int .i64 n, .slice ta t.length tc] 31) = W := ⟨_, rfl⟩
  obtain ⟨W2, hW2⟩ : ∃ W, W1.alloc (.cells #[.string ⟨#[]⟩, .int .i64 0, .slice none 0 0] 31) = W := ⟨_, rfl⟩
  have hs1 : W1.heap.size = w.heap.size + 1 := by rw [← hW1]; simp
  have hs2 : W2.heap.size = w.heap.size + 2 := by rw [← hW2]; simp [hs1]
  have hb1 : Below w.heap.size w W1 := by rw [← hW1]; exact (Below.refl _ _).alloc (Nat.le_refl _) _
  have hb2 : Below w.heap.size w W2 := by rw [← hW2]; exact hb1.alloc hb1.size _
  have hA1 : W1.heap[w.heap.size]? = some (.cells #[.string ⟨s.toArray⟩, .int .i64 n, .slice ta t.length tc] 31) := by rw [← hW1]; exact heap_alloc_new w _
  have hA1' : W2.heap[w.heap.size]? = some (.cells #[.string ⟨s.toArray⟩, .int .i64 n, .slice ta t.length tc] 31) := by rw [← hW2, Below.heap_alloc _ _ _ (by omega)]; exact hA1
  have hA2 : W2.heap[w.heap.size + 1]? = some (.cells #[.string ⟨#[]⟩, .int .i64 0, .slice none 0 0] 31) := by rw [← hs1, ← hW2]; exact heap_alloc_new W1 _
  have hbA : Below W2.heap.size W2 (W2.alloc (.cells #[] 28)) := (Below.refl _ _).alloc (Nat.le_refl _) _
  have hown0 := (World.ownsRow_lit (base := W2.heap.size) (e := 28) (size := 4) W2 #[] 0 (Nat.le_refl _) (by decide) rfl)
  obtain ⟨v', w4, hrun, hown', hg, _⟩ := run_append_src (P := Try.prog) (W2.alloc (.cells #[] 28)) W2.heap.size 24 24 28 i0 _ 4 48 Try.underlying24 hi hz0 hz1 hz2 rfl (by decide) _ _ _ hown0 (.slice ta t.length tc) t.length (nodesV t) (((hin.below hb2).below hbA).src hc) (by unfold maxLen; omega) (by omega) (by simp)
  have hown4 : w4.ownsRow W2.heap.size 28 4 v' t.length (nodesV t) := by
    simp only [Nat.zero_add] at hown'
    simpa using hown'
  have hb4 : Below W2.heap.size W2 w4 := hbA.grown hg hbA.size (fun q e => by simp [Value.ownBlock] at e; omega)
  have hk1 : w4.heap[w.heap.size]? = some (.cells #[.string ⟨s.toArray⟩, .int .i64 n, .slice ta t.length tc] 31) := (hb4.block _ (by omega)).trans hA1'
  have hk2 : w4.heap[w.heap.size + 1]? = some (.cells #[.string ⟨#[]⟩, .int .i64 0, .slice none 0 0] 31) := (hb4.block _ (by omega)).trans hA2
  obtain ⟨_, a', c', rfl, _⟩ := own_nodes hown4
  have c2 : W2.cell? ⟨w.heap.size, 2, none⟩ = some (.slice ta t.length tc) := by simp [World.cell?, hA1']
  have c2a : (W2.alloc (.cells #[] 28)).cell? ⟨w.heap.size, 2, none⟩ = some (.slice ta t.length tc) := (hbA.cell (p := ⟨w.heap.size, 2, none⟩) (by show w.heap.size < _; omega)).trans c2
  have k0 : w4.cell? ⟨w.heap.size, 0, none⟩ = some (.string ⟨s.toArray⟩) := by simp [World.cell?, hk1]
  have k1 : w4.cell? ⟨w.heap.size, 1, none⟩ = some (.int .i64 n) := by simp [World.cell?, hk1]
  have k2 : w4.cell? ⟨w.heap.size, 2, none⟩ = some (.slice ta t.length tc) := by simp [World.cell?, hk1]
  have f2 : w4.frozen? ⟨w.heap.size, 2, none⟩ = false := by simp [World.frozen?, hk1]
  have r0 : w4.cell? ⟨w.heap.size + 1, 0, none⟩ = some (.string ⟨#[]⟩) := by simp [World.cell?, hk2]
  have r1 : w4.cell? ⟨w.heap.size + 1, 1, none⟩ = some (.int .i64 0) := by simp [World.cell?, hk2]
  have r2 : w4.cell? ⟨w.heap.size + 1, 2, none⟩ = some (.slice none 0 0) := by simp [World.cell?, hk2]
  have g : ∀ j, w4.frozen? ⟨w.heap.size + 1, j, none⟩ = false := fun j => by simp [World.frozen?, hk2]
  obtain ⟨V, hV⟩ : ∃ V, w4.setCell ⟨w.heap.size, 2, none⟩ (.slice a' t.length c') = V := ⟨_, rfl⟩
  have k0V : V.cell? ⟨w.heap.size, 0, none⟩ = some (.string ⟨s.toArray⟩) := by rw [← hV]; exact (World.cell?_setCell_other _ _ _ _ (by simp)).trans k0
  have k1V : V.cell? ⟨w.heap.size, 1, none⟩ = some (.int .i64 n) := by rw [← hV]; exact (World.cell?_setCell_other _ _ _ _ (by simp)).trans k1
  have k2V : V.cell? ⟨w.heap.size, 2, none⟩ = some (.slice a' t.length c') := by rw [← hV]; exact World.cell?_setCell_same _ _ _ k2
  have r0V : V.cell? ⟨w.heap.size + 1, 0, none⟩ = some (.string ⟨#[]⟩) := by rw [← hV]; exact (World.cell?_setCell_other _ _ _ _ (by simp)).trans r0
  have r1V : V.cell? ⟨w.heap.size + 1, 1, none⟩ = some (.int .i64 0) := by rw [← hV]; exact (World.cell?_setCell_other _ _ _ _ (by simp)).trans r1
  have r2V : V.cell? ⟨w.heap.size + 1, 2, none⟩ = some (.slice none 0 0) := by rw [← hV]; exact (World.cell?_setCell_other _ _ _ _ (by simp)).trans r2
  have gV : ∀ j, V.frozen? ⟨w.heap.size + 1, j, none⟩ = false := fun j => by rw [← hV]; simpa using g j
  have gV0 := gV 0
  have gV1 := gV 1
  have gV2 := gV 2
  have hgV : w4.grownBy V (some w.heap.size) := by rw [← hV]; exact grown_setCell _ _ _ _
  have hownV : V.ownsRow W2.heap.size 28 4 (.slice a' t.length c') t.length (nodesV t) := hown4.kept hgV (by
    rcases hv : (Value.slice a' t.length c').ownBlock with _ | q
    · exact Or.inl rfl
    · refine Or.inr (fun e => ?_)
      have := (hown4.lt q hv).1
      injection e with e
      omega)
  have hbV : Below w.heap.size w V := (hb2.trans (hb4.mono hb2.size)).grown hgV (by have := hb4.size; omega) (by simp)
  have HOV : Hid (V.ownsRow W2.heap.size 28 4 (.slice a' t.length c') t.length (nodesV t)) := hownV
  have HB : Hid (Below w.heap.size w V) := hbV
  clear hown' hown4 hg hown0 hbA hin hA1 hA1' hA2 hk1 hk2 hb1 hb2 hb4 k0 k1 r0 r1 r2 g gV hgV hownV hbV
  go_enter Try.func105, Try.ntmps105
  rw [hs2] at hrun
  go_wp2_with (at_builtin; refine wpList_append_run rfl (.tmp 3) (.tmp 5) 24 rfl _ _ _ rfl rfl hrun ?_; clear hrun)
  obtain ⟨Y, hY⟩ : ∃ Y, ((V.setCell ⟨w.heap.size + 1, 0, none⟩ (.string ⟨s.toArray⟩)).setCell ⟨w.heap.size + 1, 1, none⟩ (.int .i64 n)).setCell ⟨w.heap.size + 1, 2, none⟩ (.slice a' t.length c') = Y := ⟨_, rfl⟩
  have hgY : V.grownBy Y (some (w.heap.size + 1)) := by rw [← hY]; exact ((grown_setCell _ _ _ _).trans (grown_setCell _ _ _ _)).trans (grown_setCell _ _ _ _)
  have y0 : Y.cell? ⟨w.heap.size + 1, 0, none⟩ = some (.string ⟨s.toArray⟩) := by rw [← hY]; exact (World.cell?_setCell_other _ _ _ _ (by simp)).trans ((World.cell?_setCell_other _ _ _ _ (by simp)).trans (World.cell?_setCell_same _ _ _ r0V))
  have y1 : Y.cell? ⟨w.heap.size + 1, 1, none⟩ = some (.int .i64 n) := by rw [← hY]; exact (World.cell?_setCell_other _ _ _ _ (by simp)).trans (World.cell?_setCell_same _ _ _ ((World.cell?_setCell_other _ _ _ _ (by simp)).trans r1V))
  have y2 : Y.cell? ⟨w.heap.size + 1, 2, none⟩ = some (.slice a' t.length c') := by rw [← hY]; exact World.cell?_setCell_same _ _ _ ((World.cell?_setCell_other _ _ _ _ (by simp)).trans ((World.cell?_setCell_other _ _ _ _ (by simp)).trans r2V))
  have hownY : Y.ownsRow W2.heap.size 28 4 (.slice a' t.length c') t.length (nodesV t) := HOV.out.kept hgY (by
    rcases hv : (Value.slice a' t.length c').ownBlock with _ | q
    · exact Or.inl rfl
    · refine Or.inr (fun e => ?_)
      have := (HOV.out.lt q hv).1
      injection e with e
      omega)
  rw [hY]
  refine bodyPost_ret (v := .agg #[.string ⟨s.toArray⟩, .int .i64 n, .slice a' t.length c']) (by simp [results, Try.results105, go_sem, y0, y1, y2]) rfl ?_
  exact ⟨_, rfl, own_base hownY (by omega), HB.out.grown hgY HB.out.size (by simp)⟩

end Go.Proofs.Ytkjojhkpoooimaa

/-! The contract of chapter 7's specification: FuncOf. -/
namespace Go.Proofs.Ytkjojhkpoooimaa
open Go.RowKit

def foundB (p : Pk) (s : List UInt8) : Bool := pkgB p && decide (0 ≤ atV p.2.2 s)
def foundV (p : Pk) (s : List UInt8) : Fn := if foundB p s = true then p.2.2.getD (atV p.2.2 s).toNat fn0 else fn0

/-- What FuncOf holds while it finds one. -/
structure FoSt (X w : World) (D : Nat) (nm : List UInt8) (ia : Option Addr) (il ic : Nat) (b off fl fc : Nat) (ims : List (List UInt8)) (fs : List Fn) (j : Nat) (s : List UInt8) (n : Int) (t : List Nd) (ta : Option Addr) (tl tc : Nat) : Prop where
  p : PkIn X D nm ia il ic (some ⟨b, off, none⟩) fl fc ims fs
  c0 : X.cell? ⟨b, off + j * 3, none⟩ = some (.string ⟨s.toArray⟩)
  c1 : X.cell? ⟨b, off + j * 3 + 1, none⟩ = some (.int .i64 n)
  c2 : X.cell? ⟨b, off + j * 3 + 2, none⟩ = some (.slice ta tl tc)
  nodes : NodesIn X ta tl t
  r0 : X.cell? ⟨D + 1, 0, none⟩ = some (.string ⟨#[]⟩)
  r1 : X.cell? ⟨D + 1, 1, none⟩ = some (.int .i64 0)
  r2 : X.cell? ⟨D + 1, 2, none⟩ = some (.slice none 0 0)
  fr : ∀ j, X.frozen? ⟨D + 1, j, none⟩ = false
  b : Below D w X
  bs : D ≤ X.heap.size

theorem FoSt.below {X Y w : World} {D : Nat} {nm : List UInt8} {ia : Option Addr} {il ic : Nat} {b off fl fc : Nat} {ims : List (List UInt8)} {fs : List Fn} {j : Nat} {s : List UInt8} {n : Int} {t : List Nd} {ta : Option Addr} {tl tc : Nat}
    (h : FoSt X w D nm ia il ic b off fl fc ims fs j s n t ta tl tc) (hb : Below X.heap.size X Y) : FoSt Y w D nm ia il ic b off fl fc ims fs j s n t ta tl tc :=
  have hl : b < X.heap.size := World.block_lt_of_cell? X ⟨b, off + j * 3, none⟩ h.c0
  have hr : D + 1 < X.heap.size := World.block_lt_of_cell? X ⟨D + 1, 0, none⟩ h.r0
  ⟨h.p.below hb, (hb.cell (p := ⟨b, off + j * 3, none⟩) hl).trans h.c0, (hb.cell (p := ⟨b, off + j * 3 + 1, none⟩) hl).trans h.c1, (hb.cell (p := ⟨b, off + j * 3 + 2, none⟩) hl).trans h.c2, h.nodes.below hb,
    (hb.cell (p := ⟨D + 1, 0, none⟩) hr).trans h.r0, (hb.cell (p := ⟨D + 1, 1, none⟩) hr).trans h.r1, (hb.cell (p := ⟨D + 1, 2, none⟩) hr).trans h.r2, fun i => (hb.frozen (p := ⟨D + 1, i, none⟩) hr).trans (h.fr i), h.b.trans (hb.mono h.bs), Nat.le_trans h.bs hb.size⟩

theorem FoSt.drew {X w : World} {D : Nat} {nm : List UInt8} {ia : Option Addr} {il ic : Nat} {b off fl fc : Nat} {ims : List (List UInt8)} {fs : List Fn} {j : Nat} {s : List UInt8} {n : Int} {t : List Nd} {ta : Option Addr} {tl tc : Nat}
    (h : FoSt X w D nm ia il ic b off fl fc ims fs j s n t ta tl tc) : FoSt X.drew w D nm ia il ic b off fl fc ims fs j s n t ta tl tc := h.below ⟨rfl, rfl, rfl, Nat.le_refl _, fun _ _ => rfl⟩

/-- Three cells of a block are written. -/
theorem set3 {X : World} {R : Nat} {a0 a1 a2 : Value} (u0 u1 u2 : Value) (r0 : X.cell? ⟨R, 0, none⟩ = some a0) (r1 : X.cell? ⟨R, 1, none⟩ = some a1) (r2 : X.cell? ⟨R, 2, none⟩ = some a2) :
    ∃ Y, ((X.setCell ⟨R, 0, none⟩ u0).setCell ⟨R, 1, none⟩ u1).setCell ⟨R, 2, none⟩ u2 = Y ∧ Y.cell? ⟨R, 0, none⟩ = some u0 ∧ Y.cell? ⟨R, 1, none⟩ = some u1 ∧ Y.cell? ⟨R, 2, none⟩ = some u2 ∧ X.grownBy Y (some R) := by
  refine ⟨_, rfl, ?_, ?_, ?_, ?_⟩
  · exact (World.cell?_setCell_other _ _ _ _ (by simp)).trans ((World.cell?_setCell_other _ _ _ _ (by simp)).trans (World.cell?_setCell_same _ _ _ r0))
  · exact (World.cell?_setCell_other _ _ _ _ (by simp)).trans (World.cell?_setCell_same _ _ _ ((World.cell?_setCell_other _ _ _ _ (by simp)).trans r1))
  · exact World.cell?_setCell_same _ _ _ ((World.cell?_setCell_other _ _ _ _ (by simp)).trans ((World.cell?_setCell_other _ _ _ _ (by simp)).trans r2))
  · exact ((grown_setCell _ _ _ _).trans (grown_setCell _ _ _ _)).trans (grown_setCell _ _ _ _)

/-- The cells of a block of three that lies as it was made. -/
theorem three {X W : World} {R : Nat} {u0 u1 u2 : Value} {T : TypeId} (hX : Below W.heap.size W X) (hlt : R < W.heap.size) (hR : W.heap[R]? = some (.cells #[u0, u1, u2] T)) :
    X.cell? ⟨R, 0, none⟩ = some u0 ∧ X.cell? ⟨R, 1, none⟩ = some u1 ∧ X.cell? ⟨R, 2, none⟩ = some u2 ∧ ∀ j, X.frozen? ⟨R, j, none⟩ = false := by
  have e := (hX.block R hlt).trans hR
  clear hX hR
  exact ⟨by simp [World.cell?, e], by simp [World.cell?, e], by simp [World.cell?, e], fun j => by simp [World.frozen?, e]⟩

/-- A row that is owned above a block does not lie in it. -/
theorem own_off {w : World} {base e size n R : Nat} {v : Value} {xs : List Value} (h : w.ownsRow base e size v n xs) (hR : R < base) : v.ownBlock = none ∨ v.ownBlock ≠ some R := by
  rcases hv : v.ownBlock with _ | k
  · exact Or.inl rfl
  · refine Or.inr (fun e => ?_)
    have := (h.lt k hv).1
    injection e with e
    omega

end Go.Proofs.Ytkjojhkpoooimaa
