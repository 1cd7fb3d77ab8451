/-
  Parts of one proof, one behind the other: PackS3, ProjS, ProjS2, ProjS3, ProjS4, ProjS5, ProjS6, Bend1, Bend2, RowW, PackS4, PackC, NodeL, PackC2, PackS5.
-/
import Derived.Test.YtkjojhkpoooimaaP4
import Derived.Test.YtkjojhkpoooimaaP3
import Derived.Deep.RegionHeld3
import Derived.Deep.Cut
import Derived.Test.YtkjojhkpoooimaaP2
import Derived.Deep.RegionLaw
import Derived.Deep.DrawnRows
import Derived.Laws.IdiomCopy

/-! The contract of chapter 7's specification: PackageOk. -/
namespace Go.Proofs.Ytkjojhkpoooimaa
open Go.RowKit

/-- A package in a block of its own, as a walk holds it. -/
structure PkIn (W : World) (D : Nat) (nm : List UInt8) (ia : Option Addr) (il ic : Nat) (fa : Option Addr) (fl fc : Nat) (ims : List (List UInt8)) (fs : List Fn) : Prop where
  k0 : W.cell? ⟨D, 0, none⟩ = some (.string ⟨nm.toArray⟩)
  k1 : W.cell? ⟨D, 1, none⟩ = some (.slice ia il ic)
  k2 : W.cell? ⟨D, 2, none⟩ = some (.slice fa fl fc)
  i : TextsIn W ia il ims
  f : FuncsIn W fa fl fs

theorem PkIn.below {W W' : World} {D : Nat} {nm : List UInt8} {ia : Option Addr} {il ic : Nat} {fa : Option Addr} {fl fc : Nat} {ims : List (List UInt8)} {fs : List Fn} (h : PkIn W D nm ia il ic fa fl fc ims fs) (hb : Below W.heap.size W W') : PkIn W' D nm ia il ic fa fl fc ims fs :=
  have hl : D < W.heap.size := World.block_lt_of_cell? W ⟨D, 0, none⟩ h.k0
  ⟨(hb.cell (p := ⟨D, 0, none⟩) hl).trans h.k0, (hb.cell (p := ⟨D, 1, none⟩) hl).trans h.k1, (hb.cell (p := ⟨D, 2, none⟩) hl).trans h.k2, h.i.below hb, h.f.below hb⟩

theorem PkIn.drew {W : World} {D : Nat} {nm : List UInt8} {ia : Option Addr} {il ic : Nat} {fa : Option Addr} {fl fc : Nat} {ims : List (List UInt8)} {fs : List Fn} (h : PkIn W D nm ia il ic fa fl fc ims fs) : PkIn W.drew D nm ia il ic fa fl fc ims fs := ⟨h.k0, h.k1, h.k2, h.i, h.f⟩

theorem PkIn.new {w : World} {nm : List UInt8} {ia : Option Addr} {il ic : Nat} {fa : Option Addr} {fl fc : Nat} {ims : List (List UInt8)} {fs : List Fn} (hi : TextsIn w ia il ims) (hf : FuncsIn w fa fl fs) :
    PkIn (w.alloc (.cells #[.string ⟨nm.toArray⟩, .slice ia il ic, .slice fa fl fc] 35)) w.heap.size nm ia il ic fa fl fc ims fs ∧ Below w.heap.size w (w.alloc (.cells #[.string ⟨nm.toArray⟩, .slice ia il ic, .slice fa fl fc] 35)) := by
  have hb : Below w.heap.size w (w.alloc (.cells #[.string ⟨nm.toArray⟩, .slice ia il ic, .slice fa fl fc] 35)) := (Below.refl _ _).alloc (Nat.le_refl _) _
  have hA := heap_alloc_new w (.cells #[.string ⟨nm.toArray⟩, .slice ia il ic, .slice fa fl fc] 35)
  generalize w.alloc (.cells #[.string ⟨nm.toArray⟩, .slice ia il ic, .slice fa fl fc] 35) = W at hb hA ⊢
  exact ⟨⟨by simp [World.cell?, hA], by simp [World.cell?, hA], by simp [World.cell?, hA], hi.below hb, hf.below hb⟩, hb⟩

end Go.Proofs.Ytkjojhkpoooimaa

/-! The contracts of chapter 8's specification: l1Has, l8At. -/
namespace Go.Proofs.Ytkjojhkpoooimaa
open Go.RowKit

/-- The packages ps lie at a, three cells each, their lists where those say. -/
def PkgsIn (w : World) (a : Option Addr) (len : Nat) (ps : List Pk) : Prop :=
  ps.length = len ∧ ∀ j, j < len → ∃ b off, a = some ⟨b, off, none⟩ ∧ b < w.heap.size ∧ w.cell? ⟨b, off + j * 3, none⟩ = some (.string ⟨(ps.getD j pk0).1.toArray⟩) ∧
    ∃ ia il ic fa fl fc, w.cell? ⟨b, off + j * 3 + 1, none⟩ = some (.slice ia il ic) ∧ w.cell? ⟨b, off + j * 3 + 2, none⟩ = some (.slice fa fl fc) ∧ TextsIn w ia il (ps.getD j pk0).2.1 ∧ FuncsIn w fa fl (ps.getD j pk0).2.2
theorem PkgsIn.below {w w' : World} {a : Option Addr} {len : Nat} {ps : List Pk} (h : PkgsIn w a len ps) (hb : Below w.heap.size w w') : PkgsIn w' a len ps := by
  refine ⟨h.1, fun j hj => ?_⟩
  obtain ⟨b, off, e, hlt, c0, ia, il, ic, fa, fl, fc, c1, c2, hi, hf⟩ := h.2 j hj
  exact ⟨b, off, e, Nat.lt_of_lt_of_le hlt hb.size, (hb.cell (p := ⟨b, off + j * 3, none⟩) hlt).trans c0, ia, il, ic, fa, fl, fc, (hb.cell (p := ⟨b, off + j * 3 + 1, none⟩) hlt).trans c1, (hb.cell (p := ⟨b, off + j * 3 + 2, none⟩) hlt).trans c2, hi.below hb, hf.below hb⟩

/-- How long the parts of a project may be. -/
def ShortPs (ps : List Pk) : Prop := ∀ j, (ps.getD j pk0).1.length ≤ 1048576 ∧ (ps.getD j pk0).2.1.length ≤ 1048576 ∧ (∀ i, ((ps.getD j pk0).2.1.getD i []).length ≤ 1048576) ∧ (ps.getD j pk0).2.2.length ≤ 1048576 ∧ ShortF (ps.getD j pk0).2.2

end Go.Proofs.Ytkjojhkpoooimaa

/-! The contracts of chapter 8's specification: ProjectOk, l8Order. -/
namespace Go.Proofs.Ytkjojhkpoooimaa
open Go.RowKit

end Go.Proofs.Ytkjojhkpoooimaa

/-! The contracts of chapter 8's specification: l8Order. -/
namespace Go.Proofs.Ytkjojhkpoooimaa
open Go.RowKit

def lenOf (v : Value) : Nat := match v with | .slice _ n _ => n | _ => 0
/-- Free, as far as its imports were asked. -/
def freeTo (ps : List Pk) (out ims : List (List UInt8)) (k : Nat) : Bool := decide (∀ m ∈ ims.take k, m ∈ names8 ps → m ∈ out)
/-- What the inner walk of l8Order knows: none so far, or the next one. -/
structure Nx8 (ps : List Pk) (out : List (List UInt8)) (i : Nat) (nx : List UInt8) : Prop where
  no : nx = [] → ∀ j, j < i → ¬ free8 ps out (ps.getD j pk0)
  yes : nx ≠ [] → ∃ p, next8 ps out = some p ∧ nx = p.1
end Go.Proofs.Ytkjojhkpoooimaa

/-! The contracts of chapter 8's specification: l1Put. -/
namespace Go.Proofs.Ytkjojhkpoooimaa
open Go.RowKit

end Go.Proofs.Ytkjojhkpoooimaa

/-! The contracts of chapter 8's specification: l8Reaches. -/
namespace Go.Proofs.Ytkjojhkpoooimaa
open Go.RowKit

/-- What l8Reaches holds of a list of names. -/
structure Ro8 (w X : World) (ps : List Pk) (g c : Nat) (o : List (List UInt8)) : Prop where
  own : X.ownsRow w.heap.size 9 1 (.slice (some ⟨g, 0, none⟩) o.length c) o.length (strV o)
  h : Below w.heap.size w X
end Go.Proofs.Ytkjojhkpoooimaa

/-! The contracts of chapter 8's specification: l8Needs, Order, Reaches, Needs. -/
namespace Go.Proofs.Ytkjojhkpoooimaa
open Go.RowKit

def keep8 (r : List (List UInt8)) (s x : List UInt8) : Bool := decide (x ≠ s ∧ x ∈ r)
end Go.Proofs.Ytkjojhkpoooimaa

/-! What the bending of a text needs: a slice of bytes at the head of a block that is new since the call began, and an append's law at a step of a region that draws its order. -/
namespace Go.Proofs.Ytkjojhkpoooimaa
open Go.RowKit

/-- Block g, new since 'base', holds the bytes l from its head on, and they may be written. -/
structure RowB (w : World) (base g cap : Nat) (l : List UInt8) : Prop where
  new : base ≤ g
  there : g < w.heap.size
  room : l.length ≤ cap
  most : cap ≤ maxLen
  cells : ∀ j (hj : j < l.length), w.cell? ⟨g, j, none⟩ = some (.int .u8 (l[j].toNat : Int))
  free : ∀ j, j < l.length → w.frozen? ⟨g, j, none⟩ = false

theorem RowB.kept {w w' : World} {base g cap : Nat} {l : List UInt8} {row : Option Nat} (h : RowB w base g cap l) (hg : w.grownBy w' row) (hne : some g ≠ row) : RowB w' base g cap l := by
  have hb := hg.block g h.there hne
  exact ⟨h.new, Nat.lt_of_lt_of_le h.there hg.size, h.room, h.most, fun j hj => (World.cell?_of_block hb).trans (h.cells j hj), fun j hj => (World.frozen?_of_block hb).trans (h.free j hj)⟩

theorem RowB.base {w : World} {base base' g cap : Nat} {l : List UInt8} (h : RowB w base g cap l) (hb : base' ≤ base) : RowB w base' g cap l := ⟨Nat.le_trans hb h.new, h.there, h.room, h.most, h.cells, h.free⟩

theorem RowB.drew {w : World} {base g cap : Nat} {l : List UInt8} (h : RowB w base g cap l) : RowB w.drew base g cap l := ⟨h.new, h.there, h.room, h.most, h.cells, h.free⟩

theorem bytesV_at (l : List UInt8) (j : Nat) (u : Value) (h : (bytesV l)[j]? = some u) : ∃ hj : j < l.length, u = .int .u8 (l[j].toNat : Int) := by
  unfold bytesV at h
  rw [List.getElem?_map] at h
  rcases hx : l[j]? with _ | x
  · rw [hx] at h; cases h
  · rw [hx] at h
    obtain ⟨hj, e⟩ := List.getElem?_eq_some_iff.1 hx
    injection h with h
    exact ⟨hj, by rw [e]; exact h.symm⟩

theorem add_plain (b off j : Nat) : (⟨b, off, none⟩ : Addr).add j = ⟨b, off + j, none⟩ := by unfold Addr.add; split <;> simp_all

/-- The cells of b[k:], as an append takes them. -/
theorem RowB.tail {w : World} {base g cap : Nat} {l : List UInt8} (h : RowB w base g cap l) (k : Nat) : ∀ j u, (bytesV (l.drop k))[j]? = some u → w.cell? ((⟨g, k, none⟩ : Addr).add j) = some u := by
  intro j u hu
  obtain ⟨hj, rfl⟩ := bytesV_at _ _ _ hu
  have hj' : k + j < l.length := by rw [List.length_drop] at hj; omega
  rw [add_plain, h.cells (k + j) hj']
  simp

end Go.Proofs.Ytkjojhkpoooimaa

/-! The contract of l1Bend: a text that is bent at most twice. -/
namespace Go.Proofs.Ytkjojhkpoooimaa
open Go.RowKit


end Go.Proofs.Ytkjojhkpoooimaa

/-! A row of bytes that a call has made of a string ('[]byte(s)'), and 'append(b, s...)' onto it, whether there is room or not. -/
namespace Go.Proofs.Ytkjojhkpoooimaa
open Go.RowKit

/-- Block g, new since 'base', holds the bytes l from its head on; all of its cap cells may be written. -/
structure RowW (w : World) (base g cap : Nat) (l : List UInt8) : Prop where
  row : RowB w base g cap l
  all : ∀ j, j < cap → (w.cell? ⟨g, j, none⟩).isSome = true ∧ w.frozen? ⟨g, j, none⟩ = false

theorem RowW.kept {w w' : World} {base g cap : Nat} {l : List UInt8} {row : Option Nat} (h : RowW w base g cap l) (hg : w.grownBy w' row) (hne : some g ≠ row) : RowW w' base g cap l := by
  have hb := hg.block g h.row.there hne
  exact ⟨h.row.kept hg hne, fun j hj => by rw [World.cell?_of_block (a := ⟨g, j, none⟩) hb, World.frozen?_of_block (a := ⟨g, j, none⟩) hb]; exact h.all j hj⟩

theorem RowW.below {w w' : World} {base g cap : Nat} {l : List UInt8} (h : RowW w base g cap l) (hb : Below w.heap.size w w') : RowW w' base g cap l :=
  h.kept (row := none) ⟨hb.os, hb.tape, hb.output, hb.size, fun k hk _ => hb.block k hk⟩ (by simp)

theorem RowW.drew {w : World} {base g cap : Nat} {l : List UInt8} (h : RowW w base g cap l) : RowW w.drew base g cap l :=
  h.below ⟨rfl, rfl, rfl, Nat.le_refl _, fun _ _ => rfl⟩

end Go.Proofs.Ytkjojhkpoooimaa

/-! The contracts of chapter 7's specification: l7Show, ShowPackage. -/
namespace Go.Proofs.Ytkjojhkpoooimaa
open Go.RowKit

/-- A line with its end. -/
def lineT (x : List UInt8) : List UInt8 := x ++ [10]

/-- What a round of l7Show's second loop holds: the function's own block, the row that is written, the function's tree. -/
structure ShSt (X W : World) (B F g cap : Nat) (l s : List UInt8) (n : Int) (t : List Nd) (ta : Option Addr) (tl tc : Nat) : Prop where
  c0 : X.cell? ⟨F, 0, none⟩ = some (.string ⟨s.toArray⟩)
  c1 : X.cell? ⟨F, 1, none⟩ = some (.int .i64 n)
  c2 : X.cell? ⟨F, 2, none⟩ = some (.slice ta tl tc)
  ne : g ≠ F
  row : RowW X B g cap l
  nodes : NodesIn X ta tl t
  b : Below B W X
  bs : B ≤ X.heap.size

theorem ShSt.below {X Y W : World} {B F g cap : Nat} {l s : List UInt8} {n : Int} {t : List Nd} {ta : Option Addr} {tl tc : Nat} (h : ShSt X W B F g cap l s n t ta tl tc) (hb : Below X.heap.size X Y) : ShSt Y W B F g cap l s n t ta tl tc :=
  have hl : F < X.heap.size := World.block_lt_of_cell? X ⟨F, 0, none⟩ h.c0
  ⟨(hb.cell (p := ⟨F, 0, none⟩) hl).trans h.c0, (hb.cell (p := ⟨F, 1, none⟩) hl).trans h.c1, (hb.cell (p := ⟨F, 2, none⟩) hl).trans h.c2, h.ne, h.row.below hb, h.nodes.below hb, h.b.trans (hb.mono h.bs), Nat.le_trans h.bs hb.size⟩

theorem ShSt.drew {X W : World} {B F g cap : Nat} {l s : List UInt8} {n : Int} {t : List Nd} {ta : Option Addr} {tl tc : Nat} (h : ShSt X W B F g cap l s n t ta tl tc) : ShSt X.drew W B F g cap l s n t ta tl tc :=
  h.below ⟨rfl, rfl, rfl, Nat.le_refl _, fun _ _ => rfl⟩

end Go.Proofs.Ytkjojhkpoooimaa

/-! Texts and trees are copied: l1Texts; rows as 'append' reads them. -/
namespace Go.Proofs.Ytkjojhkpoooimaa
open Go.RowKit


theorem TextsIn.src {w : World} {a : Option Addr} {len cap : Nat} {ts : List (List UInt8)} (h : TextsIn w a len ts) (hc : a = none → cap = 0) : Src w (.slice a len cap) len 1 (strV ts) := by
  have hl : (strV ts).length = len := by simp [strV, h.1]
  refine ⟨by rw [hl]; omega, fun u hu => ?_, ?_⟩
  · simp only [strV, List.mem_map] at hu
    obtain ⟨x, _, rfl⟩ := hu
    rfl
  rcases a with _ | ad
  · have h0 : len = 0 := by
      rcases Nat.eq_zero_or_pos len with h' | h'
      · exact h'
      · obtain ⟨b, off, e, _⟩ := h.2 0 h'
        cases e
    exact Or.inl ⟨by rw [h0, hc rfl], h0⟩
  · refine Or.inr ⟨ad, cap, rfl, fun j u hu => ?_⟩
    have hj : j < (strV ts).length := by
      rcases Nat.lt_or_ge j (strV ts).length with h' | h'
      · exact h'
      · rw [List.getElem?_eq_none h'] at hu; cases hu
    rw [hl] at hj
    obtain ⟨b, off, e, _, c0⟩ := h.2 j hj
    injection e with e
    subst e
    rw [add_plain, c0]
    rw [strV_at ts j (by rw [h.1]; exact hj)] at hu
    rw [← hu, List.getD_eq_getElem?_getD, List.getElem?_eq_getElem (by rw [h.1]; exact hj)]
    rfl

theorem NodesIn.src {w : World} {a : Option Addr} {len cap : Nat} {ns : List Nd} (h : NodesIn w a len ns) (hc : a = none → cap = 0) : Src w (.slice a len cap) len 4 (nodesV ns) := by
  refine ⟨by rw [nodesV_len, h.1], nodesV_one ns, ?_⟩
  rcases a with _ | ad
  · have h0 : len = 0 := by
      rcases Nat.eq_zero_or_pos len with h' | h'
      · exact h'
      · obtain ⟨b, off, e, _⟩ := h.2 0 h'
        cases e
    exact Or.inl ⟨by rw [h0, hc rfl], h0⟩
  · refine Or.inr ⟨ad, cap, rfl, fun j u hu => ?_⟩
    have hj : j < (nodesV ns).length := by
      rcases Nat.lt_or_ge j (nodesV ns).length with h' | h'
      · exact h'
      · rw [List.getElem?_eq_none h'] at hu; cases hu
    rw [nodesV_len, h.1] at hj
    obtain ⟨b, off, e, _, c0, c1, c2, c3⟩ := h.2 (j / 4) (by omega)
    injection e with e
    subst e
    obtain ⟨v0, v1, v2, v3⟩ := nodesV_at ns (j / 4) (by rw [h.1]; omega)
    rw [add_plain]
    rcases (show j % 4 = 0 ∨ j % 4 = 1 ∨ j % 4 = 2 ∨ j % 4 = 3 by omega) with h' | h' | h' | h'
    · rw [show j / 4 * 4 = j by omega] at v0 c0
      rw [hu] at v0
      rw [c0, v0]
    · rw [show j / 4 * 4 + 1 = j by omega] at v1
      rw [hu] at v1
      rw [show off + j = off + j / 4 * 4 + 1 by omega, c1, v1]
    · rw [show j / 4 * 4 + 2 = j by omega] at v2
      rw [hu] at v2
      rw [show off + j = off + j / 4 * 4 + 2 by omega, c2, v2]
    · rw [show j / 4 * 4 + 3 = j by omega] at v3
      rw [hu] at v3
      rw [show off + j = off + j / 4 * 4 + 3 by omega, c3, v3]

end Go.Proofs.Ytkjojhkpoooimaa

/-! The laws' own helpers over nodes and rows of nodes: szNode, szNodeS, toNode, toNodeS, eqNode, eqNodeS. -/
namespace Go.Proofs.Ytkjojhkpoooimaa
open Go.RowKit

/-- How many bytes the texts of nodes have in all. -/
def textsN : List Nd → Nat
  | [] => 0
  | n :: r => n.2.2.1.length + n.2.2.2.length + textsN r
theorem textsN_append (x y : List Nd) : textsN (x ++ y) = textsN x + textsN y := by
  induction x with
  | nil => simp [textsN]
  | cons n r ih => simp only [List.cons_append, textsN, ih]; omega
theorem textsN_snoc (ns : List Nd) (k : Nat) (hk : k < ns.length) : textsN (ns.take (k + 1)) = textsN (ns.take k) + ((ns.getD k nd0).2.2.1.length + (ns.getD k nd0).2.2.2.length) := by
  have hg : ns.getD k nd0 = ns[k] := by simp [List.getD, hk]
  rw [hg, List.take_succ_eq_append_getElem hk, textsN_append]
  simp [textsN]
theorem textsN_take (ns : List Nd) (k : Nat) : textsN (ns.take k) ≤ textsN ns := by
  have := textsN_append (ns.take k) (ns.drop k)
  rw [List.take_append_drop] at this
  omega
theorem textsN_at (ns : List Nd) (j : Nat) : (ns.getD j nd0).2.2.1.length + (ns.getD j nd0).2.2.2.length ≤ textsN ns := by
  by_cases hj : j < ns.length
  · have h1 := textsN_snoc ns j hj
    have h2 := textsN_take ns (j + 1)
    omega
  · have : ns.getD j nd0 = nd0 := by rw [List.getD, List.getElem?_eq_none (by omega)]; rfl
    rw [this]; simp [nd0]
theorem short_of {ns : List Nd} (h : textsN ns ≤ 1048576) : ShortT ns := fun j => by have := textsN_at ns j; omega

def szN (m n : Nat) (left : Int) : Int := if (m : Int) + (n : Int) ≤ left then left - (m : Int) - (n : Int) else -1
theorem szN_yes {m n : Nat} {left : Int} (h : (m : Int) + (n : Int) ≤ left) : szN m n left = left - (m : Int) - (n : Int) := by unfold szN; rw [if_pos h]
theorem szN_no {m n : Nat} {left : Int} (h : ¬ (m : Int) + (n : Int) ≤ left) : szN m n left = -1 := by unfold szN; rw [if_neg h]

/-- A node's numbers are numbers of 64 bits. -/
def IntN (n : Nd) : Prop := (-9223372036854775808 ≤ n.1 ∧ n.1 ≤ 9223372036854775807) ∧ (-9223372036854775808 ≤ n.2.1 ∧ n.2.1 ≤ 9223372036854775807)
def IntT (ns : List Nd) : Prop := ∀ j, IntN (ns.getD j nd0)
theorem intN_nd0 : IntN nd0 := by unfold IntN nd0; decide
theorem IntT.nil : IntT [] := fun j => by rw [show ([] : List Nd).getD j nd0 = nd0 by simp]; exact intN_nd0
def LongT (ns : List Nd) : Prop := ∀ j, (ns.getD j nd0).2.2.1.length ≤ maxLen ∧ (ns.getD j nd0).2.2.2.length ≤ maxLen

set_option maxHeartbeats 400000 in
set_option maxRecDepth 100000 in
theorem szNodeC (k a left : Int) (p f : List UInt8) (w : World) (h0 : 0 ≤ left) (h1 : left ≤ 1048576) (hp : p.length ≤ maxLen) (hf : f.length ≤ maxLen) :
    Calls Try.prog 37 #[.agg #[.int .i64 k, .int .i64 a, .string ⟨p.toArray⟩, .string ⟨f.toArray⟩], .int .i64 left] w fun e w' => e = .returned (.int .i64 (szN p.length f.length left)) ∧ Below w.heap.size w w' := by
  unfold maxLen at hp hf
  have hp2 : (p.length : Int) ≤ 9223372036854775807 := by omega
  have hf2 : (f.length : Int) ≤ 9223372036854775807 := by omega
  by_cases hA : (p.length : Int) ≤ left
  · by_cases hC : (p.length : Int) + (f.length : Int) ≤ left
    · have HS : Hid (szN p.length f.length left = left - (p.length : Int) - (f.length : Int)) := szN_yes hC
      go_enter Try.func37, Try.ntmps37
      go_wp2
      go_ret
      exact ⟨by rw [HS.out]; rfl, (Below.refl _ w).alloc (Nat.le_refl _) _⟩
    · have HS : Hid (szN p.length f.length left = -1) := szN_no hC
      go_enter Try.func37, Try.ntmps37
      go_wp2
      go_ret
      exact ⟨by rw [HS.out]; rfl, (Below.refl _ w).alloc (Nat.le_refl _) _⟩
  · have HS : Hid (szN p.length f.length left = -1) := szN_no (by omega)
    go_enter Try.func37, Try.ntmps37
    go_wp2
    go_ret
    exact ⟨by rw [HS.out]; rfl, (Below.refl _ w).alloc (Nat.le_refl _) _⟩

set_option maxHeartbeats 1000000 in
set_option maxRecDepth 100000 in
theorem szNodeSC (a : Option Addr) (len cap : Nat) (ns : List Nd) (left : Int) (w : World) (hin : NodesIn w a len ns) (h0 : 0 ≤ left) (h1 : left ≤ 1048576) (hl : len ≤ maxLen) (hm : LongT ns) :
    Calls Try.prog 14 #[.slice a len cap, .int .i64 left] w fun e w' => e = .returned (.int .i64 (szN len (textsN ns) left)) ∧ Below w.heap.size w w' := by
  unfold maxLen at hl
  have hl2 : (len : Int) ≤ 9223372036854775807 := by omega
  have hlb := hin.1
  by_cases h : (len : Int) ≤ left
  · have hlen : len ≤ 1048576 := by omega
    have HI : Hid (NodesIn w a len ns) := hin
    have HM : Hid (LongT ns) := hm
    clear hin hm
    go_enter Try.func14, Try.ntmps14
    go_wp2
    go_loopw [1, 5] (fun l i wr => ∃ k : Nat, k ≤ len ∧ i = .int .i64 k ∧ l = .int .i64 (left - (len : Int) - (textsN (ns.take k) : Int)) ∧ (textsN (ns.take k) : Int) ≤ left - (len : Int) ∧ Below w.heap.size w wr) (fun _ i _ => len - (intOf i).toNat)
    case atStart => exact ⟨0, Nat.zero_le _, rfl, by simp [textsN], by simp [textsN]; omega, Below.refl _ _⟩
    case round =>
      obtain ⟨k, hk, rfl, rfl, hle, hB⟩ := hrel
      by_cases hkl : (k : Int) < (len : Int)
      · obtain ⟨b, off, rfl, hbl, hcells⟩ := (HI.out.below hB).at (by omega)
        obtain ⟨c0, c1, c2, c3⟩ := hcells k (by omega)
        have hmk := HM.out k
        have hst := textsN_snoc ns k (by omega)
        have htt := textsN_take ns (k + 1)
        obtain ⟨n, hn⟩ : ∃ n, ns.getD k nd0 = n := ⟨_, rfl⟩
        rw [hn] at c0 c1 c2 c3 hmk hst
        obtain ⟨kd, aa, p, f⟩ := n
        simp only at c0 c1 c2 c3 hmk hst
        obtain ⟨m, hmm⟩ : ∃ m, textsN (ns.take k) = m := ⟨_, rfl⟩
        rw [hmm] at hle hst ⊢
        have HS : Hid (textsN (ns.take (k + 1)) = m + (p.length + f.length)) := hst
        clear hst hn hcells hmm
        by_cases hfit : (p.length : Int) + (f.length : Int) ≤ left - (len : Int) - (m : Int)
        · have HZ : Hid (szN p.length f.length (left - (len : Int) - (m : Int)) = left - (len : Int) - (textsN (ns.take (k + 1)) : Int)) := by
            exact (by rw [HS.out, szN_yes (by omega)]; omega : szN p.length f.length (left - (len : Int) - (m : Int)) = left - (len : Int) - (textsN (ns.take (k + 1)) : Int))
          go_wp2_with fail
          refine (szNodeC kd aa _ p f _ (by omega) (by omega) hmk.1 hmk.2).mono ?_
          rintro e w1 ⟨rfl, hb1⟩
          rw [HZ.out]
          have hle2 : (textsN (ns.take (k + 1)) : Int) ≤ left - (len : Int) := by rw [HS.out]; omega
          have hge : (0 : Int) ≤ left - (len : Int) - (textsN (ns.take (k + 1)) : Int) := by omega
          go_wp2
          go_roundw
          case rel => exact ⟨k + 1, by omega, by go_num, rfl, hle2, hB.trans (hb1.mono hB.size)⟩
          case measure => simp [intOf]; omega
        · have HZ : Hid (szN p.length f.length (left - (len : Int) - (m : Int)) = -1) := szN_no (by omega)
          have HR : Hid (szN len (textsN ns) left = -1) := szN_no (by have := HS.out; omega)
          go_wp2_with fail
          refine (szNodeC kd aa _ p f _ (by omega) (by omega) hmk.1 hmk.2).mono ?_
          rintro e w1 ⟨rfl, hb1⟩
          rw [HZ.out]
          go_wp2
          go_ret
          exact ⟨by rw [HR.out]; rfl, hB.trans (hb1.mono hB.size)⟩
      · have HT : Hid (ns.take k = ns) := List.take_of_length_le (by omega)
        have HR : Hid (szN len (textsN ns) left = left - (len : Int) - (textsN (ns.take k) : Int)) := by exact (by rw [HT.out] at hle ⊢; exact szN_yes (by omega) : szN len (textsN ns) left = left - (len : Int) - (textsN (ns.take k) : Int))
        go_wp2
        go_ret
        exact ⟨by rw [HR.out]; rfl, hB⟩
  · have HR : Hid (szN len (textsN ns) left = -1) := szN_no (by omega)
    clear hin hm
    go_enter Try.func14, Try.ntmps14
    go_wp2
    go_ret
    exact ⟨by rw [HR.out]; rfl, Below.refl _ _⟩

set_option maxHeartbeats 400000 in
set_option maxRecDepth 100000 in
theorem toNodeC (k a : Int) (p f : List UInt8) (w : World) :
    Calls Try.prog 39 #[.agg #[.int .i64 k, .int .i64 a, .string ⟨p.toArray⟩, .string ⟨f.toArray⟩]] w fun e w' => e = .returned (.agg #[.int .i64 k, .int .i64 a, .string ⟨p.toArray⟩, .string ⟨f.toArray⟩]) ∧ Below w.heap.size w w' := by
  go_enter Try.func39, Try.ntmps39
  go_wp2
  refine bodyPost_ret (v := .agg #[.int .i64 k, .int .i64 a, .string ⟨p.toArray⟩, .string ⟨f.toArray⟩]) (by simp [results, Try.results39, go_sem]) rfl ?_
  exact ⟨rfl, (((Below.refl _ w).alloc (Nat.le_refl _) _).alloc (by simp) _).alloc (by simp; omega) _⟩

theorem nodesV_set (ns : List Nd) (j : Nat) (k a : Int) (p f : List UInt8) : ((((nodesV ns).set (j * 4) (.int .i64 k)).set (j * 4 + 1) (.int .i64 a)).set (j * 4 + 2) (.string ⟨p.toArray⟩)).set (j * 4 + 3) (.string ⟨f.toArray⟩) = nodesV (ns.set j (k, a, p, f)) := by
  induction ns generalizing j with
  | nil => simp [nodesV]
  | cons b r ih =>
    cases j with
    | zero => simp [nodesV]
    | succ j => rw [show (j + 1) * 4 = j * 4 + 1 + 1 + 1 + 1 by omega]; simp [nodesV, ih]

theorem made_nodes (n : Nat) : (madeCells (Value.agg #[.int .i64 0, .int .i64 0, .string ⟨#[]⟩, .string ⟨#[]⟩]).cells (n * 4)).toList = nodesV (List.replicate n nd0) := by
  have hc : (Value.agg #[.int .i64 0, .int .i64 0, .string ⟨#[]⟩, .string ⟨#[]⟩]).cells = #[.int .i64 0, .int .i64 0, .string ⟨#[]⟩, .string ⟨#[]⟩] := rfl
  rw [hc]
  apply List.ext_getElem?
  intro j
  by_cases hj : j < n * 4
  · obtain ⟨v0, v1, v2, v3⟩ := nodesV_at (List.replicate n nd0) (j / 4) (by simp; omega)
    have hg : (List.replicate n nd0).getD (j / 4) nd0 = nd0 := by simp [List.getD, List.getElem?_replicate]; split <;> rfl
    rw [hg] at v0 v1 v2 v3
    have h4 : j % 4 = 0 ∨ j % 4 = 1 ∨ j % 4 = 2 ∨ j % 4 = 3 := by omega
    rcases h4 with h' | h' | h' | h'
    · have ej : j = j / 4 * 4 := by omega
      rw [← ej] at v0
      rw [v0]
      simp [madeCells, hj, h', nd0]
    · have ej : j = j / 4 * 4 + 1 := by omega
      rw [← ej] at v1
      rw [v1]
      simp [madeCells, hj, h', nd0]
    · have ej : j = j / 4 * 4 + 2 := by omega
      rw [← ej] at v2
      rw [v2]
      simp [madeCells, hj, h', nd0]
    · have ej : j = j / 4 * 4 + 3 := by omega
      rw [← ej] at v3
      rw [v3]
      simp [madeCells, hj, h', nd0]
  · rw [List.getElem?_eq_none (by simp [madeCells]; omega), List.getElem?_eq_none (by rw [nodesV_len]; simp; omega)]

theorem fill_node (ns : List Nd) (k : Nat) (hk : k < ns.length) : (ns.take k ++ List.replicate (ns.length - k) nd0).set k (ns.getD k nd0) = ns.take (k + 1) ++ List.replicate (ns.length - (k + 1)) nd0 := by
  have hg : ns.getD k nd0 = ns[k] := by simp [List.getD, hk]
  rw [hg, List.set_append_right _ _ (by rw [List.length_take]; omega), List.length_take, Nat.min_eq_left (by omega), Nat.sub_self, show ns.length - k = (ns.length - (k + 1)) + 1 by omega, List.replicate_succ, List.set_cons_zero, List.take_succ_eq_append_getElem hk, List.append_assoc]
  rfl

set_option maxHeartbeats 2000000 in
set_option maxRecDepth 100000 in
theorem toNodeSC (a : Option Addr) (len cap : Nat) (ns : List Nd) (w : World) (hin : NodesIn w a len ns) (hlen : len ≤ 1048576) :
    Calls Try.prog 16 #[.slice a len cap] w fun e w' => ∃ v, e = .returned v ∧ w'.ownsRow w.heap.size 28 4 v len (nodesV ns) ∧ v ≠ .slice none 0 0 ∧ Below w.heap.size w w' := by
  obtain ⟨i0, hi, hz0, hz1, hz2⟩ := info_parts infoNode
  have hlb := hin.1
  have HI : Hid (NodesIn w a len ns) := hin
  clear hin
  go_enter Try.func16, Try.ntmps16
  go_wp2_with (at_make; refine wpList_make_full _ rfl _ _ 24 rfl w.heap.size 28 i0 _ 4 Try.underlying24 hi hz0 hz1 .i64 .i64 _ _ len rfl rfl rfl rfl (by rw [hz2]; omega) (by unfold maxLen; omega) (Nat.le_refl _) ?_; intro w1 hown1 hgrow1)
  rw [made_nodes] at hown1
  have hB1 : Below w.heap.size w w1 := (Below.refl _ _).grown hgrow1 (Nat.le_refl _) (by simp)
  clear hgrow1
  go_loopw [4] (fun i wr => ∃ k : Nat, k ≤ len ∧ i = .int .i64 k ∧ wr.ownsRow w.heap.size 28 4 (.slice (some ⟨w.heap.size, 0, none⟩) len len) len (nodesV (ns.take k ++ List.replicate (ns.length - k) nd0)) ∧ Below w.heap.size w wr) (fun i _ => len - (intOf i).toNat)
  case atStart => exact ⟨0, Nat.zero_le _, rfl, by simpa [hlb] using hown1, hB1⟩
  case round =>
    obtain ⟨k, hk, rfl, hown, hB⟩ := hrel
    clear hown1 hB1
    by_cases hkl : (k : Int) < (len : Int)
    · obtain ⟨b, off, rfl, hbl, hcells⟩ := (HI.out.below hB).at (by omega)
      obtain ⟨c0, c1, c2, c3⟩ := hcells k (by omega)
      have hfs := fill_node ns k (by omega)
      obtain ⟨x, hx⟩ : ∃ x, ns.getD k nd0 = x := ⟨_, rfl⟩
      rw [hx] at c0 c1 c2 c3 hfs
      obtain ⟨kd, aa, p, f⟩ := x
      simp only at c0 c1 c2 c3
      have HF : Hid ((ns.take k ++ List.replicate (ns.length - k) nd0).set k (kd, aa, p, f) = ns.take (k + 1) ++ List.replicate (ns.length - (k + 1)) nd0) := hfs
      have HOW : Hid (wr.ownsRow w.heap.size 28 4 (.slice (some ⟨w.heap.size, 0, none⟩) len len) len (nodesV (ns.take k ++ List.replicate (ns.length - k) nd0))) := hown
      clear hx hcells hfs hown
      go_wp2_with fail
      refine (toNodeC kd aa p f _).mono ?_
      rintro e w2 ⟨rfl, hb2⟩
      have hown2 := own_below HOW.out hb2
      have hl2 : (ns.take k ++ List.replicate (ns.length - k) nd0).length = len := by rw [List.length_append, List.length_take, List.length_replicate]; omega
      obtain ⟨v0, v1, v2, v3⟩ := nodesV_at (ns.take k ++ List.replicate (ns.length - k) nd0) k (by omega)
      obtain ⟨u0, d0⟩ : ∃ u, w2.cell? ⟨w.heap.size, k * 4, none⟩ = some u := by
        rw [hown2.cellAt (k * 4) (by omega), v0]; exact ⟨_, rfl⟩
      obtain ⟨u1, d1⟩ : ∃ u, w2.cell? ⟨w.heap.size, k * 4 + 1, none⟩ = some u := by
        rw [hown2.cellAt (k * 4 + 1) (by omega), v1]; exact ⟨_, rfl⟩
      obtain ⟨u2, d2⟩ : ∃ u, w2.cell? ⟨w.heap.size, k * 4 + 2, none⟩ = some u := by
        rw [hown2.cellAt (k * 4 + 2) (by omega), v2]; exact ⟨_, rfl⟩
      obtain ⟨u3, d3⟩ : ∃ u, w2.cell? ⟨w.heap.size, k * 4 + 3, none⟩ = some u := by
        rw [hown2.cellAt (k * 4 + 3) (by omega), v3]; exact ⟨_, rfl⟩
      have e0 := hown2.frozenAt (k * 4)
      have e1 := hown2.frozenAt (k * 4 + 1)
      have e2 := hown2.frozenAt (k * 4 + 2)
      have e3 := hown2.frozenAt (k * 4 + 3)
      have hs1 := hown2.stored (k * 4) (.int .i64 kd)
      have hs2 := hs1.1.stored (k * 4 + 1) (.int .i64 aa)
      have hs3 := hs2.1.stored (k * 4 + 2) (.string ⟨p.toArray⟩)
      have hs4 := hs3.1.stored (k * 4 + 3) (.string ⟨f.toArray⟩)
      have hnew := hs4.1
      rw [nodesV_set, HF.out] at hnew
      have hB2 : Below w.heap.size w w2 := hB.trans (hb2.mono hB.size)
      have hB3 := (((hB2.setCell (p := ⟨w.heap.size, k * 4, none⟩) (Nat.le_refl _) (.int .i64 kd)).setCell (p := ⟨w.heap.size, k * 4 + 1, none⟩) (Nat.le_refl _) (.int .i64 aa)).setCell (p := ⟨w.heap.size, k * 4 + 2, none⟩) (Nat.le_refl _) (.string ⟨p.toArray⟩)).setCell (p := ⟨w.heap.size, k * 4 + 3, none⟩) (Nat.le_refl _) (.string ⟨f.toArray⟩)
      clear hown2 hs1 hs2 hs3 hs4 hl2 v0 v1 v2 v3
      go_wp2
      go_roundw
      case rel => exact ⟨k + 1, by omega, by go_num, hnew, hB3⟩
      case measure => simp [intOf]; omega
    · have hd : ns.take k ++ List.replicate (ns.length - k) nd0 = ns := by rw [List.take_of_length_le (by omega), show ns.length - k = 0 by omega]; simp
      rw [hd] at hown
      clear hd
      go_wp2
      go_ret
      exact ⟨_, rfl, hown, by simp, hB⟩

set_option maxHeartbeats 400000 in
set_option maxRecDepth 100000 in
theorem eqNodeC (k a : Int) (p f : List UInt8) (w : World) :
    Calls Try.prog 40 #[.agg #[.int .i64 k, .int .i64 a, .string ⟨p.toArray⟩, .string ⟨f.toArray⟩], .agg #[.int .i64 k, .int .i64 a, .string ⟨p.toArray⟩, .string ⟨f.toArray⟩]] w fun e w' => e = .returned (.bool true) ∧ Below w.heap.size w w' := by
  have h1 : ∀ n : Int, (n != n) = false := by simp
  have h2 : ∀ l : List UInt8, (l != l) = false := by simp
  go_enter Try.func40, Try.ntmps40
  go_wp2
  go_ret
  exact ⟨rfl, ((Below.refl _ w).alloc (Nat.le_refl _) _).alloc (by simp) _⟩

set_option maxHeartbeats 2000000 in
set_option maxRecDepth 100000 in
theorem eqNodeSC (a b : Option Addr) (len ca cb : Nat) (ns : List Nd) (w : World) (ha : NodesIn w a len ns) (hb : NodesIn w b len ns) (hlen : len ≤ 4194304) :
    Calls Try.prog 17 #[.slice a len ca, .slice b len cb] w fun e w' => e = .returned (.bool true) ∧ Below w.heap.size w w' := by
  have hlb := ha.1
  have HA : Hid (NodesIn w a len ns) := ha
  have HB : Hid (NodesIn w b len ns) := hb
  clear ha hb
  have h1 : ((len : Int) != (len : Int)) = false := by simp
  go_enter Try.func17, Try.ntmps17
  go_wp2
  go_loopw [5] (fun i wr => ∃ k : Nat, k ≤ len ∧ i = .int .i64 k ∧ Below w.heap.size w wr) (fun i _ => len - (intOf i).toNat)
  case atStart => exact ⟨0, Nat.zero_le _, rfl, Below.refl _ _⟩
  case round =>
    obtain ⟨k, hk, rfl, hB⟩ := hrel
    by_cases hkl : (k : Int) < (len : Int)
    · obtain ⟨b1, o1, rfl, hb1, hc1⟩ := (HA.out.below hB).at (by omega)
      obtain ⟨b2, o2, rfl, hb2, hc2⟩ := (HB.out.below hB).at (by omega)
      obtain ⟨x0, x1, x2, x3⟩ := hc1 k (by omega)
      obtain ⟨y0, y1, y2, y3⟩ := hc2 k (by omega)
      obtain ⟨x, hx⟩ : ∃ x, ns.getD k nd0 = x := ⟨_, rfl⟩
      rw [hx] at x0 x1 x2 x3 y0 y1 y2 y3
      obtain ⟨kd, aa, p, f⟩ := x
      simp only at x0 x1 x2 x3 y0 y1 y2 y3
      clear hx hc1 hc2
      go_wp2
      go_region_held3 (fun w' => w'.cell? ⟨b1, o1 + k * 4, none⟩ = some (.int .i64 kd) ∧ w'.cell? ⟨b1, o1 + k * 4 + 1, none⟩ = some (.int .i64 aa) ∧ w'.cell? ⟨b1, o1 + k * 4 + 2, none⟩ = some (.string ⟨p.toArray⟩) ∧ w'.cell? ⟨b1, o1 + k * 4 + 3, none⟩ = some (.string ⟨f.toArray⟩) ∧ w'.cell? ⟨b2, o2 + k * 4, none⟩ = some (.int .i64 kd) ∧ w'.cell? ⟨b2, o2 + k * 4 + 1, none⟩ = some (.int .i64 aa) ∧ w'.cell? ⟨b2, o2 + k * 4 + 2, none⟩ = some (.string ⟨p.toArray⟩) ∧ w'.cell? ⟨b2, o2 + k * 4 + 3, none⟩ = some (.string ⟨f.toArray⟩)) (go_keep) (first | (go_at_call 40; refine (eqNodeC kd aa p f _).mono ?_; rintro e w1 ⟨rfl, hw1⟩; have d0 : w1.cell? ⟨b1, o1 + k * 4, none⟩ = some (.int .i64 kd) := (hw1.cell (p := ⟨b1, o1 + k * 4, none⟩) hb1).trans x0; have d1 : w1.cell? ⟨b1, o1 + k * 4 + 1, none⟩ = some (.int .i64 aa) := (hw1.cell (p := ⟨b1, o1 + k * 4 + 1, none⟩) hb1).trans x1; have d2 : w1.cell? ⟨b1, o1 + k * 4 + 2, none⟩ = some (.string ⟨p.toArray⟩) := (hw1.cell (p := ⟨b1, o1 + k * 4 + 2, none⟩) hb1).trans x2; have d3 : w1.cell? ⟨b1, o1 + k * 4 + 3, none⟩ = some (.string ⟨f.toArray⟩) := (hw1.cell (p := ⟨b1, o1 + k * 4 + 3, none⟩) hb1).trans x3; have e0 : w1.cell? ⟨b2, o2 + k * 4, none⟩ = some (.int .i64 kd) := (hw1.cell (p := ⟨b2, o2 + k * 4, none⟩) hb2).trans y0; have e1 : w1.cell? ⟨b2, o2 + k * 4 + 1, none⟩ = some (.int .i64 aa) := (hw1.cell (p := ⟨b2, o2 + k * 4 + 1, none⟩) hb2).trans y1; have e2 : w1.cell? ⟨b2, o2 + k * 4 + 2, none⟩ = some (.string ⟨p.toArray⟩) := (hw1.cell (p := ⟨b2, o2 + k * 4 + 2, none⟩) hb2).trans y2; have e3 : w1.cell? ⟨b2, o2 + k * 4 + 3, none⟩ = some (.string ⟨f.toArray⟩) := (hw1.cell (p := ⟨b2, o2 + k * 4 + 3, none⟩) hb2).trans y3))
      all_goals go_wp2
      go_roundw
      case rel => exact ⟨k + 1, by omega, by go_num, hB.trans ⟨hw1.os, hw1.tape, hw1.output, hw1.size, fun q hq => hw1.block q (by have := hB.size; show q < wr.heap.size; omega)⟩⟩
      case measure => simp [intOf]; omega
    · go_wp2
      go_ret
      exact ⟨rfl, hB⟩

end Go.Proofs.Ytkjojhkpoooimaa

/-! A function is copied: l7CopyFunc. -/
namespace Go.Proofs.Ytkjojhkpoooimaa
open Go.RowKit

end Go.Proofs.Ytkjojhkpoooimaa

/-! The contract of chapter 7's specification: FuncOf. -/
namespace Go.Proofs.Ytkjojhkpoooimaa
open Go.RowKit

def foundB (p : Pk) (s : List UInt8) : Bool := pkgB p && decide (0 ≤ atV p.2.2 s)
def foundV (p : Pk) (s : List UInt8) : Fn := if foundB p s = true then p.2.2.getD (atV p.2.2 s).toNat fn0 else fn0

/-- What FuncOf holds while it finds one. -/
structure FoSt (X w : World) (D : Nat) (nm : List UInt8) (ia : Option Addr) (il ic : Nat) (b off fl fc : Nat) (ims : List (List UInt8)) (fs : List Fn) (j : Nat) (s : List UInt8) (n : Int) (t : List Nd) (ta : Option Addr) (tl tc : Nat) : Prop where
  p : PkIn X D nm ia il ic (some ⟨b, off, none⟩) fl fc ims fs
  c0 : X.cell? ⟨b, off + j * 3, none⟩ = some (.string ⟨s.toArray⟩)
  c1 : X.cell? ⟨b, off + j * 3 + 1, none⟩ = some (.int .i64 n)
  c2 : X.cell? ⟨b, off + j * 3 + 2, none⟩ = some (.slice ta tl tc)
  nodes : NodesIn X ta tl t
  r0 : X.cell? ⟨D + 1, 0, none⟩ = some (.string ⟨#[]⟩)
  r1 : X.cell? ⟨D + 1, 1, none⟩ = some (.int .i64 0)
  r2 : X.cell? ⟨D + 1, 2, none⟩ = some (.slice none 0 0)
  fr : ∀ j, X.frozen? ⟨D + 1, j, none⟩ = false
  b : Below D w X
  bs : D ≤ X.heap.size

theorem FoSt.below {X Y w : World} {D : Nat} {nm : List UInt8} {ia : Option Addr} {il ic : Nat} {b off fl fc : Nat} {ims : List (List UInt8)} {fs : List Fn} {j : Nat} {s : List UInt8} {n : Int} {t : List Nd} {ta : Option Addr} {tl tc : Nat}
    (h : FoSt X w D nm ia il ic b off fl fc ims fs j s n t ta tl tc) (hb : Below X.heap.size X Y) : FoSt Y w D nm ia il ic b off fl fc ims fs j s n t ta tl tc :=
  have hl : b < X.heap.size := World.block_lt_of_cell? X ⟨b, off + j * 3, none⟩ h.c0
  have hr : D + 1 < X.heap.size := World.block_lt_of_cell? X ⟨D + 1, 0, none⟩ h.r0
  ⟨h.p.below hb, (hb.cell (p := ⟨b, off + j * 3, none⟩) hl).trans h.c0, (hb.cell (p := ⟨b, off + j * 3 + 1, none⟩) hl).trans h.c1, (hb.cell (p := ⟨b, off + j * 3 + 2, none⟩) hl).trans h.c2, h.nodes.below hb,
    (hb.cell (p := ⟨D + 1, 0, none⟩) hr).trans h.r0, (hb.cell (p := ⟨D + 1, 1, none⟩) hr).trans h.r1, (hb.cell (p := ⟨D + 1, 2, none⟩) hr).trans h.r2, fun i => (hb.frozen (p := ⟨D + 1, i, none⟩) hr).trans (h.fr i), h.b.trans (hb.mono h.bs), Nat.le_trans h.bs hb.size⟩

theorem FoSt.drew {X w : World} {D : Nat} {nm : List UInt8} {ia : Option Addr} {il ic : Nat} {b off fl fc : Nat} {ims : List (List UInt8)} {fs : List Fn} {j : Nat} {s : List UInt8} {n : Int} {t : List Nd} {ta : Option Addr} {tl tc : Nat}
    (h : FoSt X w D nm ia il ic b off fl fc ims fs j s n t ta tl tc) : FoSt X.drew w D nm ia il ic b off fl fc ims fs j s n t ta tl tc := h.below ⟨rfl, rfl, rfl, Nat.le_refl _, fun _ _ => rfl⟩

/-- A row that is owned above a block does not lie in it. -/
theorem own_off {w : World} {base e size n R : Nat} {v : Value} {xs : List Value} (h : w.ownsRow base e size v n xs) (hR : R < base) : v.ownBlock = none ∨ v.ownBlock ≠ some R := by
  rcases hv : v.ownBlock with _ | k
  · exact Or.inl rfl
  · refine Or.inr (fun e => ?_)
    have := (h.lt k hv).1
    injection e with e
    omega

end Go.Proofs.Ytkjojhkpoooimaa
