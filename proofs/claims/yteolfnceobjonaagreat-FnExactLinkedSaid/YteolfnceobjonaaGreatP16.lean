/-
  Parts of one proof, one behind the other: PackS2, PackS3, ProjS, ProjS2, ProjS3, Shelf2, LkE, ImgA, WordI, Jumps, Clone, TextI, Shelf.
-/
import Derived.Test.YteolfnceobjonaaGreatP15
import Derived.Deep.RegionHeld3
import Derived.Deep.Cut
import Derived.Test.YteolfnceobjonaaGreatP2
import Derived.Shelf.Small.Bits
import Derived.Shelf.Small.Strs
import Derived.Shelf.Strconv.Itoa0
import Derived.Shelf.LaysM
import Derived.Shelf.Strconv.Clone
import Derived.Shelf.Strings.Search1
import Derived.Shelf.Strings.Search2
import Derived.Shelf.Sort.Plain
import Derived.Test.YteolfnceobjonaaGreatProg
import Derived.Sort.OwnSorted
import Derived.Sort.MapsRangeIn
import Derived.Maps.RangeWalk
import Derived.Test.YteolfnceobjonaaGreatP4
import Derived.Test.YteolfnceobjonaaGreatP9
import Derived.Lib.Bytealg
import Derived.Laws.Externs
import Derived.Shelf.Abstract
import Derived.Test.YteolfnceobjonaaGreatP1
import Derived.Scope
import Derived.WalkMore
import Derived.Lib.Strings
import Derived.Lib.Walk
import Derived.Lib.BufferWrite
import Derived.Lib.UnsafeStr
import Derived.Lib.Hide
import Derived.Laws.MakeOwn
import Derived.Test.YteolfnceobjonaaGreatRows
import Derived.WalkKit
import Derived.WalkLawsBesides
import Derived.OpenShut
import Derived.BigQuiet

/-! The contracts of chapter 7's specification: l7At, PackageOk. -/
namespace Go.Proofs.YteolfnceobjonaaGreat
open Go.RowKit

/-- The functions fs lie at a, three cells each, their trees where those say. -/
def FuncsIn (w : World) (a : Option Addr) (len : Nat) (fs : List Fn) : Prop :=
  fs.length = len ∧ ∀ j, j < len → ∃ b off, a = some ⟨b, off, none⟩ ∧ b < w.heap.size ∧ w.cell? ⟨b, off + j * 3, none⟩ = some (.string ⟨(fs.getD j fn0).1.toArray⟩) ∧ w.cell? ⟨b, off + j * 3 + 1, none⟩ = some (.int .i64 (fs.getD j fn0).2.1) ∧
    ∃ ta tl tc, w.cell? ⟨b, off + j * 3 + 2, none⟩ = some (.slice ta tl tc) ∧ (ta = none → tc = 0) ∧ NodesIn w ta tl (fs.getD j fn0).2.2

theorem FuncsIn.below {w w' : World} {a : Option Addr} {len : Nat} {fs : List Fn} (h : FuncsIn w a len fs) (hb : Below w.heap.size w w') : FuncsIn w' a len fs := by
  refine ⟨h.1, fun j hj => ?_⟩
  obtain ⟨b, off, e, hlt, c0, c1, ta, tl, tc, c2, hnc, hn⟩ := h.2 j hj
  exact ⟨b, off, e, Nat.lt_of_lt_of_le hlt hb.size, (hb.cell (p := ⟨b, off + j * 3, none⟩) hlt).trans c0, (hb.cell (p := ⟨b, off + j * 3 + 1, none⟩) hlt).trans c1, ta, tl, tc, (hb.cell (p := ⟨b, off + j * 3 + 2, none⟩) hlt).trans c2, hnc, hn.below hb⟩

/-- No name, no tree is longer than a law lets them be. -/
def ShortF (fs : List Fn) : Prop := ∀ j, (fs.getD j fn0).1.length ≤ 1048576 ∧ (fs.getD j fn0).2.2.length ≤ 1048576 ∧ ShortT (fs.getD j fn0).2.2

end Go.Proofs.YteolfnceobjonaaGreat

/-! The contract of chapter 7's specification: PackageOk. -/
namespace Go.Proofs.YteolfnceobjonaaGreat
open Go.RowKit

/-- A package in a block of its own, as a walk holds it. -/
structure PkIn (W : World) (D : Nat) (nm : List UInt8) (ia : Option Addr) (il ic : Nat) (fa : Option Addr) (fl fc : Nat) (ims : List (List UInt8)) (fs : List Fn) : Prop where
  k0 : W.cell? ⟨D, 0, none⟩ = some (.string ⟨nm.toArray⟩)
  k1 : W.cell? ⟨D, 1, none⟩ = some (.slice ia il ic)
  k2 : W.cell? ⟨D, 2, none⟩ = some (.slice fa fl fc)
  i : TextsIn W ia il ims
  f : FuncsIn W fa fl fs

theorem PkIn.below {W W' : World} {D : Nat} {nm : List UInt8} {ia : Option Addr} {il ic : Nat} {fa : Option Addr} {fl fc : Nat} {ims : List (List UInt8)} {fs : List Fn} (h : PkIn W D nm ia il ic fa fl fc ims fs) (hb : Below W.heap.size W W') : PkIn W' D nm ia il ic fa fl fc ims fs :=
  have hl : D < W.heap.size := World.block_lt_of_cell? W ⟨D, 0, none⟩ h.k0
  ⟨(hb.cell (p := ⟨D, 0, none⟩) hl).trans h.k0, (hb.cell (p := ⟨D, 1, none⟩) hl).trans h.k1, (hb.cell (p := ⟨D, 2, none⟩) hl).trans h.k2, h.i.below hb, h.f.below hb⟩

theorem PkIn.drew {W : World} {D : Nat} {nm : List UInt8} {ia : Option Addr} {il ic : Nat} {fa : Option Addr} {fl fc : Nat} {ims : List (List UInt8)} {fs : List Fn} (h : PkIn W D nm ia il ic fa fl fc ims fs) : PkIn W.drew D nm ia il ic fa fl fc ims fs := ⟨h.k0, h.k1, h.k2, h.i, h.f⟩

theorem PkIn.new {w : World} {nm : List UInt8} {ia : Option Addr} {il ic : Nat} {fa : Option Addr} {fl fc : Nat} {ims : List (List UInt8)} {fs : List Fn} (hi : TextsIn w ia il ims) (hf : FuncsIn w fa fl fs) :
    PkIn (w.alloc (.cells #[.string ⟨nm.toArray⟩, .slice ia il ic, .slice fa fl fc] 49)) w.heap.size nm ia il ic fa fl fc ims fs ∧ Below w.heap.size w (w.alloc (.cells #[.string ⟨nm.toArray⟩, .slice ia il ic, .slice fa fl fc] 49)) := by
  have hb : Below w.heap.size w (w.alloc (.cells #[.string ⟨nm.toArray⟩, .slice ia il ic, .slice fa fl fc] 49)) := (Below.refl _ _).alloc (Nat.le_refl _) _
  have hA := heap_alloc_new w (.cells #[.string ⟨nm.toArray⟩, .slice ia il ic, .slice fa fl fc] 49)
  generalize w.alloc (.cells #[.string ⟨nm.toArray⟩, .slice ia il ic, .slice fa fl fc] 49) = W at hb hA ⊢
  exact ⟨⟨by simp [World.cell?, hA], by simp [World.cell?, hA], by simp [World.cell?, hA], hi.below hb, hf.below hb⟩, hb⟩

end Go.Proofs.YteolfnceobjonaaGreat

/-! The contracts of chapter 8's specification: l1Has, l8At. -/
namespace Go.Proofs.YteolfnceobjonaaGreat
open Go.RowKit

/-- The packages ps lie at a, three cells each, their lists where those say. -/
def PkgsIn (w : World) (a : Option Addr) (len : Nat) (ps : List Pk) : Prop :=
  ps.length = len ∧ ∀ j, j < len → ∃ b off, a = some ⟨b, off, none⟩ ∧ b < w.heap.size ∧ w.cell? ⟨b, off + j * 3, none⟩ = some (.string ⟨(ps.getD j pk0).1.toArray⟩) ∧
    ∃ ia il ic fa fl fc, w.cell? ⟨b, off + j * 3 + 1, none⟩ = some (.slice ia il ic) ∧ w.cell? ⟨b, off + j * 3 + 2, none⟩ = some (.slice fa fl fc) ∧ TextsIn w ia il (ps.getD j pk0).2.1 ∧ FuncsIn w fa fl (ps.getD j pk0).2.2
theorem PkgsIn.below {w w' : World} {a : Option Addr} {len : Nat} {ps : List Pk} (h : PkgsIn w a len ps) (hb : Below w.heap.size w w') : PkgsIn w' a len ps := by
  refine ⟨h.1, fun j hj => ?_⟩
  obtain ⟨b, off, e, hlt, c0, ia, il, ic, fa, fl, fc, c1, c2, hi, hf⟩ := h.2 j hj
  exact ⟨b, off, e, Nat.lt_of_lt_of_le hlt hb.size, (hb.cell (p := ⟨b, off + j * 3, none⟩) hlt).trans c0, ia, il, ic, fa, fl, fc, (hb.cell (p := ⟨b, off + j * 3 + 1, none⟩) hlt).trans c1, (hb.cell (p := ⟨b, off + j * 3 + 2, none⟩) hlt).trans c2, hi.below hb, hf.below hb⟩

/-- How long the parts of a project may be. -/
def ShortPs (ps : List Pk) : Prop := ∀ j, (ps.getD j pk0).1.length ≤ 1048576 ∧ (ps.getD j pk0).2.1.length ≤ 1048576 ∧ (∀ i, ((ps.getD j pk0).2.1.getD i []).length ≤ 1048576) ∧ (ps.getD j pk0).2.2.length ≤ 1048576 ∧ ShortF (ps.getD j pk0).2.2


end Go.Proofs.YteolfnceobjonaaGreat

/-! The contracts of chapter 8's specification: ProjectOk, l8Order. -/
namespace Go.Proofs.YteolfnceobjonaaGreat
open Go.RowKit


end Go.Proofs.YteolfnceobjonaaGreat

/-! The contracts of chapter 8's specification: l8Order. -/
namespace Go.Proofs.YteolfnceobjonaaGreat
open Go.RowKit

def lenOf (v : Value) : Nat := match v with | .slice _ n _ => n | _ => 0
/-- Free, as far as its imports were asked. -/
def freeTo (ps : List Pk) (out ims : List (List UInt8)) (k : Nat) : Bool := decide (∀ m ∈ ims.take k, m ∈ names8 ps → m ∈ out)
/-- What the inner walk of l8Order knows: none so far, or the next one. -/
structure Nx8 (ps : List Pk) (out : List (List UInt8)) (i : Nat) (nx : List UInt8) : Prop where
  no : nx = [] → ∀ j, j < i → ¬ free8 ps out (ps.getD j pk0)
  yes : nx ≠ [] → ∃ p, next8 ps out = some p ∧ nx = p.1
theorem new_str8 (w : World) (x : List UInt8) (c : Nat) : Src (w.alloc (.cells #[.string ⟨x.toArray⟩] 9)) (.slice (some ⟨w.heap.size, 0, none⟩) 1 c) 1 1 (strV [x]) := by
  refine ⟨rfl, fun u hu => ?_, Or.inr ⟨_, c, rfl, fun j u hu => ?_⟩⟩
  · simp [strV] at hu; subst hu; rfl
  · exact cell_one_new w _ 9 j u hu
theorem push_text {X : World} {B : Nat} {v : Value} {n : Nat} {ls : List (List UInt8)} (x : List UInt8) (hv : X.ownsRow B 9 1 v n (strV ls)) (hb : B ≤ X.heap.size) (hn : n ≤ 1048576) :
    ∃ v' Y, (Builtin.append_ #[24, 24] 24 #[v, .slice (some ⟨X.heap.size, 0, none⟩) 1 1]).run Tryz.prog (X.alloc (.cells #[.string ⟨x.toArray⟩] 9)) = .ok v' Y ∧ Y.ownsRow B 9 1 v' (n + 1) (strV (ls ++ [x])) ∧ X.grownBy Y v.ownBlock := by
  obtain ⟨i0, hi, hz0, hz1, hz2⟩ := info_parts info9
  obtain ⟨v', Y, hrun, hown, hg, _⟩ := run_append_src (P := Tryz.prog) (X.alloc (.cells #[.string ⟨x.toArray⟩] 9)) B 24 24 9 i0 _ 1 16 Tryz.underlying24 hi hz0 hz1 hz2 rfl (by decide) _ _ _ (hv.alloc _) _ 1 (strV [x]) (new_str8 X x 1) (by unfold maxLen; omega) (by omega) (by simp; omega)
  exact ⟨v', Y, hrun, by rw [← strV_snoc]; exact hown, (World.grownBy_alloc X _ _).trans hg⟩


end Go.Proofs.YteolfnceobjonaaGreat

/-! The functions of this program that are the library's are the ones that the library has contracts of: number by number, type by type; and these contracts, at this program. -/
namespace Go.Proofs
open Go.Shelf
def Tryz.laysM316_ren : Go.Shelf.Ren := ⟨fun | 316 => 103 | n => n, fun | 9 => 9 | 3 => 3 | 4 => 4 | 37 => 99 | 0 => 0 | 127 => 170 | 5 => 5 | n => n, fun | n => n⟩
theorem Tryz.laysM316 : Go.Proofs.LaysM.n316 Tryz.prog Tryz.laysM316_ren := {
  mixed := by kernel_rfl
  f316 := Tryz.func103.trans (congrArg some (by kernel_rfl))
  t0 := Tryz.underlying0
  a0 := Tryz.isAgg0
  z0 := Tryz.sizeOf0
  v0 := Tryz.zeroValue0
  t3 := Tryz.underlying3
  a3 := Tryz.isAgg3
  z3 := Tryz.sizeOf3
  v3 := Tryz.zeroValue3
  t4 := Tryz.underlying4
  a4 := Tryz.isAgg4
  z4 := Tryz.sizeOf4
  v4 := Tryz.zeroValue4
  t9 := Tryz.underlying9
  a9 := Tryz.isAgg9
  z9 := Tryz.sizeOf9
  v9 := Tryz.zeroValue9
  t37 := Tryz.underlying99
  a37 := Tryz.isAgg99
  z37 := Tryz.sizeOf99
  v37 := Tryz.zeroValue99
  t127 := Tryz.underlying170
  a127 := Tryz.isAgg170
  z127 := Tryz.sizeOf170
  v127 := Tryz.zeroValue170
  t5 := Tryz.underlying5
  a5 := Tryz.isAgg5
  z5 := Tryz.sizeOf5
  v5 := Tryz.zeroValue5
  i0 := by kernel_rfl
  i3 := by kernel_rfl
  i4 := by kernel_rfl
  i5 := by kernel_rfl
  i9 := by kernel_rfl
  i37 := by kernel_rfl
  i127 := by kernel_rfl }
open Go.RowKit in
/-- internal/stringslite.Clone (what strings.Clone calls): "Clone returns a fresh copy of s.": THE SAME BYTES. Of what was there nothing has turned (a new row is laid, and frozen, where s is not empty). (LAID: no walk: one application.) -/
theorem Tryz.stringslite_Clone (s : ByteArray) (w : World) (hlim : s.size ≤ 281474976710656) :
    Calls Tryz.prog 103 #[.string s] w fun e w' => e = .returned (.string s) ∧ Below w.heap.size w w' := Any.stringslite_Clone Tryz.laysM316 s w hlim
def Tryz.lays190_ren : Go.Shelf.Ren := ⟨fun | 190 => 68 | 125 => 105 | 258 => 104 | 128 => 146 | 129 => 147 | 302 => 137 | 303 => 138 | 304 => 139 | 305 => 140 | 306 => 141 | 307 => 142 | 308 => 143 | 309 => 144 | 310 => 145 | 333 => 190 | 329 => 191 | 330 => 192 | 334 => 193 | 335 => 194 | 336 => 195 | 344 => 216 | n => n, fun | 31 => 24 | 9 => 9 | 3 => 3 | 46 => 138 | 0 => 0 | 51 => 181 | 53 => 183 | 4 => 4 | 183 => 173 | 182 => 172 | 131 => 178 | 5 => 5 | 218 => 219 | 222 => 223 | 228 => 249 | 229 => 250 | n => n, fun | n => n⟩
end Go.Proofs

/-! Contracts of chapter 16's landed code: names. -/
namespace Go.Proofs.YteolfnceobjonaaGreat
open Go.RowKit Go.Maps Go.Sort

set_option maxHeartbeats 1000000 in
set_option maxRecDepth 100000 in
theorem implCloneS (s : List UInt8) (w : World) (hs : s.length ≤ 1048576) :
    Calls Tryz.prog 67 #[.string ⟨s.toArray⟩] w fun e w' => e = .returned (.string ⟨s.toArray⟩) ∧ Below w.heap.size w w' := by
  have HC : Hid (_) := Tryz.stringslite_Clone ⟨s.toArray⟩ w (by simp [ByteArray.size]; omega)
  go_enter Tryz.func67, Tryz.ntmps67
  go_wp2_with fail
  refine Calls.mono HC.out ?_
  rintro e w' ⟨rfl, hb⟩
  have HB : Hid (Below w.heap.size w w') := hb
  clear hb HC
  go_wp2
  go_ret
  exact ⟨rfl, HB.out⟩

/-- The names so far: those that are no longer to come. -/
structure Nm16 (w wr : World) (b r n : Nat) (D : DataW Unit) (ns : List (List UInt8)) (left : Lit → Bool) (cnt g c : Nat) (ts : List (List UInt8)) : Prop where
  rg : wr.ranges Tryz.prog 9 fcR b r n D left cnt
  row : wr.ownsRow w.heap.size 9 1 (.slice (some ⟨g, 0, none⟩) ts.length c) ts.length (strV ts)
  nd : ts.Nodup
  mem : ∀ s, s ∈ ts ↔ (s ∈ ns ∧ left (.string s) = false)
  lf : ∀ s, left (.string s) = true → s ∈ ns
  cn : ts.length + cnt ≤ n
  bl : Below w.heap.size w wr
  rb : w.heap.size ≤ r
  bb : b < w.heap.size
theorem Nm16.step {w wr w1 w2 : World} {b r n : Nat} {D : DataW Unit} {ns : List (List UInt8)} {left : Lit → Bool} {cnt cnt1 g c : Nat} {ts : List (List UInt8)} (h : Nm16 w wr b r n D ns left cnt g c ts) {x : List UInt8} (hlx : left (.string x) = true) (hrg1 : w1.ranges Tryz.prog 9 fcR b r n D (fun z => left z && !z.sameKey (.string x)) cnt1) (hlt : cnt1 < cnt) (hg1 : wr.grownBy w1 (some r)) (hb2 : Below w1.heap.size w1 w2) (hn : n ≤ 1048576) :
    ∃ g' c' Y, (Builtin.append_ #[24, 24] 24 #[.slice (some ⟨g, 0, none⟩) ts.length c, .slice (some ⟨w2.heap.size, 0, none⟩) 1 1]).run Tryz.prog (w2.alloc (.cells #[.string ⟨x.toArray⟩] 9)) = .ok (.slice (some ⟨g', 0, none⟩) (ts.length + 1) c') Y ∧ Nm16 w Y b r n D ns (fun z => left z && !z.sameKey (.string x)) cnt1 g' c' (ts ++ [x]) := by
  have hb1 : Below w.heap.size w w1 := h.bl.grown hg1 h.bl.size (fun q e => by injection e with e; have := h.rb; omega)
  have hb12 : Below w.heap.size w w2 := hb1.trans (hb2.mono hb1.size)
  have hr1 := h.row.kept hg1 (Or.inr (fun e => row_ne_iter h.row h.rg e.symm))
  have hr2 := own_below hr1 hb2
  have hrg2 := hrg1.kept (row := none) ⟨hb2.os, hb2.tape, hb2.output, hb2.size, fun i hi _ => hb2.block i hi⟩ (by simp) (by simp)
  have hcn := h.cn
  obtain ⟨v', Y, hrun, hown, hg⟩ := push_text x hr2 hb12.size (by omega)
  obtain ⟨g', c', rfl⟩ := own_some hown (by omega)
  have hgw := (h.row.lt g rfl).1
  have hne : some b ≠ (Value.slice (some ⟨g, 0, none⟩) ts.length c).ownBlock := fun e => by
    have e2 : b = g := by simpa [Value.ownBlock] using e
    have := h.bb
    omega
  have hqe : ∀ q, (Value.slice (some ⟨g, 0, none⟩) ts.length c).ownBlock = some q → w.heap.size ≤ q := fun q e => by
    have e2 : g = q := by simpa [Value.ownBlock] using e
    omega
  refine ⟨g', c', Y, hrun, hrg2.kept hg hne (row_ne_iter hr2 hrg2), ?_, ?_, fun s => ?_, fun s hs => ?_, by rw [List.length_append, List.length_singleton]; omega, hb12.grown hg hb12.size hqe, h.rb, h.bb⟩
  · rw [List.length_append, List.length_singleton]; exact hown
  · refine List.nodup_append.2 ⟨h.nd, by simp, fun a ha b hb e => ?_⟩
    rw [List.mem_singleton] at hb
    subst hb e
    rw [((h.mem a).1 ha).2] at hlx
    cases hlx
  · have hk : (Lit.string s).sameKey (.string x) = decide (s = x) := by
      by_cases e : s = x
      · subst e; rw [WideAt.sameKey_self (keyLitS s)]; simp
      · rw [sameKey_ne (fun e' => e (by injection e'))]; simp [e]
    simp only [List.mem_append, List.mem_singleton, hk]
    rw [h.mem s]
    by_cases e : s = x
    · subst e
      simp [h.lf s hlx]
    · simp [e]
  · simp only [Bool.and_eq_true] at hs
    exact h.lf s hs.1

end Go.Proofs.YteolfnceobjonaaGreat

/-! Contracts of chapter 14's landed code: texts compared, a routine found by halving (routineNamed). -/
namespace Go.Proofs.YteolfnceobjonaaGreat
open Go.RowKit

theorem cmp_less : ∀ (a b : List UInt8), (Lib.compareBytes a b < 0 ↔ Op.bytesLess a b = true) ∧ (Lib.compareBytes a b = 0 ↔ a = b)
  | [], [] => by simp [Lib.compareBytes, Op.bytesLess]
  | [], _ :: _ => by simp [Lib.compareBytes, Op.bytesLess]
  | _ :: _, [] => by simp [Lib.compareBytes, Op.bytesLess]
  | a :: x, b :: y => by
    have ih := cmp_less x y
    unfold Lib.compareBytes Op.bytesLess
    by_cases h1 : a < b
    · have hne : a ≠ b := fun e => by subst e; exact UInt8.lt_irrefl _ h1
      simp [h1, hne]
    · by_cases h2 : b < a
      · have hne : a ≠ b := fun e => by subst e; exact UInt8.lt_irrefl _ h2
        simp [h1, h2, hne]
      · have e : a = b := by
          rw [UInt8.lt_iff_toNat_lt] at h1 h2
          exact UInt8.toNat_inj.1 (by omega)
        subst e
        simp only [h1, if_false, decide_false, Bool.false_or, beq_self_eq_true, Bool.true_and, List.cons.injEq, true_and]
        exact ih

set_option maxHeartbeats 1000000 in
set_option maxRecDepth 100000 in
theorem implCompareB (a b : List UInt8) (w : World) :
    Calls Tryz.prog 107 #[.string ⟨a.toArray⟩, .string ⟨b.toArray⟩] w fun e w' => e = .returned (.int .i64 (Lib.compareBytes a b)) ∧ w' = w := by
  go_enter Tryz.func107, Tryz.ntmps107
  go_wp2
  rw [run_callFunc_extern Tryz.func156 (by kernel_rfl) (by kernel_rfl) (by kernel_rfl) (e := Extern.BytealgCompare.compare) (by kernel_rfl), Lib.run_compareString]
  simp only [Result.andThen]
  rw [Oper.upon_value]
  go_wp2
  go_ret
  exact ⟨rfl, rfl⟩
set_option maxHeartbeats 1000000 in
set_option maxRecDepth 100000 in
theorem implCompare (a b : List UInt8) (w : World) :
    Calls Tryz.prog 76 #[.string ⟨a.toArray⟩, .string ⟨b.toArray⟩] w fun e w' => e = .returned (.int .i64 (Lib.compareBytes a b)) ∧ w' = w := by
  go_enter Tryz.func76, Tryz.ntmps76
  go_wp2_with (go_at_call 107; refine (implCompareB a b _).mono ?_; rintro e w' ⟨rfl, rfl⟩)
  go_ret
  exact ⟨rfl, rfl⟩

end Go.Proofs.YteolfnceobjonaaGreat

/-! The contracts of chapter 4's landed code: WordOk, Wrap, Done. -/
namespace Go.Proofs.YteolfnceobjonaaGreat
open Go.RowKit

set_option maxHeartbeats 400000 in
set_option maxRecDepth 100000 in
theorem implWordOkS (n : Int) (w : World) : Calls Tryz.prog 219 #[.int .i64 n] w fun e w' => e = .returned (.bool (inB n (-2147483648) 2147483647)) ∧ w' = w := by
  by_cases h1 : -2147483648 ≤ n
  · by_cases h2 : n ≤ 2147483647
    · have hB : Hid (inB n (-2147483648) 2147483647 = true) := inB_yes _ _ _ h1 h2
      go_enter Tryz.func219, Tryz.ntmps219
      go_wp2
      go_ret
      exact ⟨by rw [hB.out]; rfl, rfl⟩
    · have hB : Hid (inB n (-2147483648) 2147483647 = false) := inB_no _ _ _ (Or.inr (by omega))
      go_enter Tryz.func219, Tryz.ntmps219
      go_wp2
      go_ret
      exact ⟨by rw [hB.out]; rfl, rfl⟩
  · have hB : Hid (inB n (-2147483648) 2147483647 = false) := inB_no _ _ _ (Or.inl (by omega))
    go_enter Tryz.func219, Tryz.ntmps219
    go_wp2
    go_ret
    exact ⟨by rw [hB.out]; rfl, rfl⟩

end Go.Proofs.YteolfnceobjonaaGreat

/-! A scope in which the run jumps to several labels: what holds at every jump to each of them, and a measure that every pass from a label lowers. -/
namespace Go.Proofs.YteolfnceobjonaaGreat
open Go.RowKit

/-- As Q; by a goto to label l: J l. -/
def Hops (J : Nat → Act → World → Prop) (Q : Exit → Act → World → Prop) : Exit → Act → World → Prop
  | .goto l, a, w => J l a w
  | e, a, w => Q e a w

end Go.Proofs.YteolfnceobjonaaGreat

/-! The contract of strings.Clone: the same bytes, in memory of their own. -/
namespace Go.Proofs.YteolfnceobjonaaGreat
open Go.RowKit

end Go.Proofs.YteolfnceobjonaaGreat

/-! The contracts of chapter 5's landed code: the pieces between marks (labels and gotos), Lines, Words, NameOk, NumberOf. -/
namespace Go.Proofs.YteolfnceobjonaaGreat
open Go.RowKit




set_option maxHeartbeats 1000000 in
set_option maxRecDepth 100000 in
theorem implNameOkS (l : List UInt8) (w : World) (hl : l.length ≤ 1048576) :
    Calls Tryz.prog 92 #[.string ⟨l.toArray⟩] w fun e w' => e = .returned (.bool (nameB l)) ∧ w' = w := by
  go_enter Tryz.func92, Tryz.ntmps92
  go_wp2
  go_loop [6] (fun ix => ∃ k : Nat, k ≤ l.length ∧ ix = .int .i64 k ∧ Hid (∀ j (hj : j < l.length), j < k → 97 ≤ l[j].toNat ∧ l[j].toNat ≤ 122)) (fun ix => l.length - (intOf ix).toNat)
  case atStart => exact ⟨0, Nat.zero_le _, rfl, (fun j _ h => by omega : ∀ j (hj : j < l.length), j < 0 → _)⟩
  case round =>
    obtain ⟨k, hk, rfl, HK⟩ := hrel
    by_cases hkl : (k : Int) < (l.length : Int)
    · have hk2 : k < l.length := by omega
      obtain ⟨x, hx⟩ : ∃ x : UInt8, l[k] = x := ⟨_, rfl⟩
      have hxb : (⟨l.toArray⟩ : ByteArray)[k]'(by show k < l.toArray.size; simpa using hk2) = x := hx
      by_cases h1 : (x.toNat : Int) < 97
      · have HF : Hid (nameB l = false) := name_bad l k hk2 (by rw [hx]; omega)
        clear hx
        go_wp2
        go_ret
        exact ⟨by rw [HF.out]; rfl, rfl⟩
      · by_cases h2 : 122 < (x.toNat : Int)
        · have HF : Hid (nameB l = false) := name_bad l k hk2 (by rw [hx]; omega)
          clear hx
          go_wp2
          go_ret
          exact ⟨by rw [HF.out]; rfl, rfl⟩
        · have HS : Hid (∀ j (hj : j < l.length), j < k + 1 → 97 ≤ l[j].toNat ∧ l[j].toNat ≤ 122) := fun j hj hjk => by
            by_cases e : j = k
            · subst e; rw [hx]; omega
            · exact HK.out j hj (by omega)
          clear hx
          go_wp2
          go_round
          case rel => exact ⟨k + 1, by omega, by go_num, HS⟩
          case measure => simp [intOf]; omega
    · have HF : Hid (nameB l = inB (l.length : Int) 1 8) := name_good l (fun j hj => HK.out j hj (by omega))
      by_cases h1 : 1 ≤ (l.length : Int)
      · by_cases h2 : (l.length : Int) ≤ 8
        · have HB : Hid (inB (l.length : Int) 1 8 = true) := inB_yes _ _ _ h1 h2
          go_wp2
          go_ret
          exact ⟨by rw [HF.out, HB.out]; rfl, rfl⟩
        · have HB : Hid (inB (l.length : Int) 1 8 = false) := inB_no _ _ _ (by omega)
          go_wp2
          go_ret
          exact ⟨by rw [HF.out, HB.out]; rfl, rfl⟩
      · have HB : Hid (inB (l.length : Int) 1 8 = false) := inB_no _ _ _ (by omega)
        go_wp2
        go_ret
        exact ⟨by rw [HF.out, HB.out]; rfl, rfl⟩

theorem implNameOk (l : List UInt8) (w : World) (hl : l.length ≤ 1048576) :
    Calls Tryz.prog 92 #[.string ⟨l.toArray⟩] w fun e w' => e = .returned (.bool (nameB l)) ∧ Below w.heap.size w w' :=
  (implNameOkS l w hl).mono fun _ _ h => ⟨h.1, by rw [h.2]; exact Below.refl _ _⟩



end Go.Proofs.YteolfnceobjonaaGreat

/-! The functions of this program that are the library's are the ones that the library has contracts of: number by number, type by type; and these contracts, at this program. -/
namespace Go.Proofs
open Go.Shelf
def Tryz.lays219_ren : Go.Shelf.Ren := ⟨fun | 219 => 213 | 217 => 224 | 225 => 225 | 224 => 226 | 267 => 227 | 266 => 242 | 314 => 243 | n => n, fun | 9 => 9 | 3 => 3 | 4 => 4 | 5 => 5 | 46 => 138 | 146 => 265 | 51 => 181 | n => n, fun | 1 => 0 | n => n⟩
theorem Tryz.lays219 : Go.Proofs.Lays.n219 Tryz.prog Tryz.lays219_ren := {
  mixed := by kernel_rfl
  f217 := Tryz.func224.trans (congrArg some (by kernel_rfl))
  f219 := Tryz.func213.trans (congrArg some (by kernel_rfl))
  f224 := Tryz.func226.trans (congrArg some (by kernel_rfl))
  f225 := Tryz.func225.trans (congrArg some (by kernel_rfl))
  f266 := Tryz.func242.trans (congrArg some (by kernel_rfl))
  f267 := Tryz.func227.trans (congrArg some (by kernel_rfl))
  f314 := Tryz.func243.trans (congrArg some (by kernel_rfl))
  t3 := Tryz.underlying3
  a3 := Tryz.isAgg3
  z3 := Tryz.sizeOf3
  v3 := Tryz.zeroValue3
  t4 := Tryz.underlying4
  a4 := Tryz.isAgg4
  z4 := Tryz.sizeOf4
  v4 := Tryz.zeroValue4
  t5 := Tryz.underlying5
  a5 := Tryz.isAgg5
  z5 := Tryz.sizeOf5
  v5 := Tryz.zeroValue5
  t9 := Tryz.underlying9
  a9 := Tryz.isAgg9
  z9 := Tryz.sizeOf9
  v9 := Tryz.zeroValue9
  t46 := Tryz.underlying138
  a46 := Tryz.isAgg138
  z46 := Tryz.sizeOf138
  v46 := Tryz.zeroValue138
  t51 := Tryz.underlying181
  a51 := Tryz.isAgg181
  z51 := Tryz.sizeOf181
  v51 := Tryz.zeroValue181
  t146 := Tryz.underlying265
  a146 := Tryz.isAgg265
  z146 := Tryz.sizeOf265
  v146 := Tryz.zeroValue265
  g1 := by kernel_rfl }
open Go.RowKit Go.Lib in
/-- internal/stringslite.Index (what strings.Index calls) AT A substr OF ONE BYTE c: IT RETURNS 'Lib.indexByte s c'; the world is as it was. (LAID: no walk: one application.) -/
theorem Tryz.stringslite_Index_one (s : ByteArray) (c : UInt8) (w : World) :
    Calls Tryz.prog 213 #[.string s, .string ⟨#[c]⟩] w fun e w' => e = .returned (.int .i64 (Lib.indexByte s.data.toList c)) ∧ w' = w := Any.stringslite_Index_one Tryz.lays219 s c w
end Go.Proofs
