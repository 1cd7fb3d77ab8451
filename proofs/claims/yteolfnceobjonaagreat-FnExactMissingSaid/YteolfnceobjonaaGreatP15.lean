/-
  Parts of one proof, one behind the other: ProjS3, Shelf2, LkE, ImgA, WordI, Jumps, Clone, TextI, Shelf.
-/
import Derived.Test.YteolfnceobjonaaGreatP14
import Derived.Shelf.Small.Bits
import Derived.Shelf.Small.Strs
import Derived.Shelf.Strconv.Itoa0
import Derived.Shelf.LaysM
import Derived.Shelf.Strconv.Clone
import Derived.Shelf.Strings.Search1
import Derived.Shelf.Strings.Search2
import Derived.Shelf.Sort.Plain
import Derived.Test.YteolfnceobjonaaGreatProg
import Derived.Sort.OwnSorted
import Derived.Sort.MapsRangeIn
import Derived.Maps.RangeWalk
import Derived.Test.YteolfnceobjonaaGreatP4
import Derived.Test.YteolfnceobjonaaGreatP9
import Derived.Lib.Bytealg
import Derived.Laws.Externs
import Derived.Deep.RegionHeld3
import Derived.Shelf.Abstract
import Derived.Test.YteolfnceobjonaaGreatP1
import Derived.Scope
import Derived.WalkMore
import Derived.Lib.Strings
import Derived.Lib.Walk
import Derived.Lib.BufferWrite
import Derived.Lib.UnsafeStr
import Derived.Lib.Hide
import Derived.Laws.MakeOwn
import Derived.Test.YteolfnceobjonaaGreatRows
import Derived.WalkKit
import Derived.WalkLawsBesides
import Derived.OpenShut
import Derived.BigQuiet

/-! The contracts of chapter 8's specification: l8Order. -/
namespace Go.Proofs.YteolfnceobjonaaGreat
open Go.RowKit

def lenOf (v : Value) : Nat := match v with | .slice _ n _ => n | _ => 0
/-- Free, as far as its imports were asked. -/
def freeTo (ps : List Pk) (out ims : List (List UInt8)) (k : Nat) : Bool := decide (∀ m ∈ ims.take k, m ∈ names8 ps → m ∈ out)
/-- What the inner walk of l8Order knows: none so far, or the next one. -/
structure Nx8 (ps : List Pk) (out : List (List UInt8)) (i : Nat) (nx : List UInt8) : Prop where
  no : nx = [] → ∀ j, j < i → ¬ free8 ps out (ps.getD j pk0)
  yes : nx ≠ [] → ∃ p, next8 ps out = some p ∧ nx = p.1
theorem new_str8 (w : World) (x : List UInt8) (c : Nat) : Src (w.alloc (.cells #[.string ⟨x.toArray⟩] 9)) (.slice (some ⟨w.heap.size, 0, none⟩) 1 c) 1 1 (strV [x]) := by
  refine ⟨rfl, fun u hu => ?_, Or.inr ⟨_, c, rfl, fun j u hu => ?_⟩⟩
  · simp [strV] at hu; subst hu; rfl
  · exact cell_one_new w _ 9 j u hu
theorem push_text {X : World} {B : Nat} {v : Value} {n : Nat} {ls : List (List UInt8)} (x : List UInt8) (hv : X.ownsRow B 9 1 v n (strV ls)) (hb : B ≤ X.heap.size) (hn : n ≤ 1048576) :
    ∃ v' Y, (Builtin.append_ #[24, 24] 24 #[v, .slice (some ⟨X.heap.size, 0, none⟩) 1 1]).run Tryz.prog (X.alloc (.cells #[.string ⟨x.toArray⟩] 9)) = .ok v' Y ∧ Y.ownsRow B 9 1 v' (n + 1) (strV (ls ++ [x])) ∧ X.grownBy Y v.ownBlock := by
  obtain ⟨i0, hi, hz0, hz1, hz2⟩ := info_parts info9
  obtain ⟨v', Y, hrun, hown, hg, _⟩ := run_append_src (P := Tryz.prog) (X.alloc (.cells #[.string ⟨x.toArray⟩] 9)) B 24 24 9 i0 _ 1 16 Tryz.underlying24 hi hz0 hz1 hz2 rfl (by decide) _ _ _ (hv.alloc _) _ 1 (strV [x]) (new_str8 X x 1) (by unfold maxLen; omega) (by omega) (by simp; omega)
  exact ⟨v', Y, hrun, by rw [← strV_snoc]; exact hown, (World.grownBy_alloc X _ _).trans hg⟩


end Go.Proofs.YteolfnceobjonaaGreat

/-! The functions of this program that are the library's are the ones that the library has contracts of: number by number, type by type; and these contracts, at this program. -/
namespace Go.Proofs
open Go.Shelf
def Tryz.laysM316_ren : Go.Shelf.Ren := ⟨fun | 316 => 103 | n => n, fun | 9 => 9 | 3 => 3 | 4 => 4 | 37 => 99 | 0 => 0 | 127 => 170 | 5 => 5 | n => n, fun | n => n⟩
theorem Tryz.laysM316 : Go.Proofs.LaysM.n316 Tryz.prog Tryz.laysM316_ren := {
  mixed := by kernel_rfl
  f316 := Tryz.func103.trans (congrArg some (by kernel_rfl))
  t0 := Tryz.underlying0
  a0 := Tryz.isAgg0
  z0 := Tryz.sizeOf0
  v0 := Tryz.zeroValue0
  t3 := Tryz.underlying3
  a3 := Tryz.isAgg3
  z3 := Tryz.sizeOf3
  v3 := Tryz.zeroValue3
  t4 := Tryz.underlying4
  a4 := Tryz.isAgg4
  z4 := Tryz.sizeOf4
  v4 := Tryz.zeroValue4
  t9 := Tryz.underlying9
  a9 := Tryz.isAgg9
  z9 := Tryz.sizeOf9
  v9 := Tryz.zeroValue9
  t37 := Tryz.underlying99
  a37 := Tryz.isAgg99
  z37 := Tryz.sizeOf99
  v37 := Tryz.zeroValue99
  t127 := Tryz.underlying170
  a127 := Tryz.isAgg170
  z127 := Tryz.sizeOf170
  v127 := Tryz.zeroValue170
  t5 := Tryz.underlying5
  a5 := Tryz.isAgg5
  z5 := Tryz.sizeOf5
  v5 := Tryz.zeroValue5
  i0 := by kernel_rfl
  i3 := by kernel_rfl
  i4 := by kernel_rfl
  i5 := by kernel_rfl
  i9 := by kernel_rfl
  i37 := by kernel_rfl
  i127 := by kernel_rfl }
open Go.RowKit in
/-- internal/stringslite.Clone (what strings.Clone calls): "Clone returns a fresh copy of s.": THE SAME BYTES. Of what was there nothing has turned (a new row is laid, and frozen, where s is not empty). (LAID: no walk: one application.) -/
theorem Tryz.stringslite_Clone (s : ByteArray) (w : World) (hlim : s.size ≤ 281474976710656) :
    Calls Tryz.prog 103 #[.string s] w fun e w' => e = .returned (.string s) ∧ Below w.heap.size w w' := Any.stringslite_Clone Tryz.laysM316 s w hlim
def Tryz.lays190_ren : Go.Shelf.Ren := ⟨fun | 190 => 68 | 125 => 105 | 258 => 104 | 128 => 146 | 129 => 147 | 302 => 137 | 303 => 138 | 304 => 139 | 305 => 140 | 306 => 141 | 307 => 142 | 308 => 143 | 309 => 144 | 310 => 145 | 333 => 190 | 329 => 191 | 330 => 192 | 334 => 193 | 335 => 194 | 336 => 195 | 344 => 216 | n => n, fun | 31 => 24 | 9 => 9 | 3 => 3 | 46 => 138 | 0 => 0 | 51 => 181 | 53 => 183 | 4 => 4 | 183 => 173 | 182 => 172 | 131 => 178 | 5 => 5 | 218 => 219 | 222 => 223 | 228 => 249 | 229 => 250 | n => n, fun | n => n⟩
theorem Tryz.lays190 : Go.Proofs.Lays.n190 Tryz.prog Tryz.lays190_ren := {
  mixed := by kernel_rfl
  f125 := Tryz.func105.trans (congrArg some (by kernel_rfl))
  f128 := Tryz.func146.trans (congrArg some (by kernel_rfl))
  f129 := Tryz.func147.trans (congrArg some (by kernel_rfl))
  f190 := Tryz.func68.trans (congrArg some (by kernel_rfl))
  f258 := Tryz.func104.trans (congrArg some (by kernel_rfl))
  f302 := Tryz.func137.trans (congrArg some (by kernel_rfl))
  f303 := Tryz.func138.trans (congrArg some (by kernel_rfl))
  f304 := Tryz.func139.trans (congrArg some (by kernel_rfl))
  f305 := Tryz.func140.trans (congrArg some (by kernel_rfl))
  f306 := Tryz.func141.trans (congrArg some (by kernel_rfl))
  f307 := Tryz.func142.trans (congrArg some (by kernel_rfl))
  f308 := Tryz.func143.trans (congrArg some (by kernel_rfl))
  f309 := Tryz.func144.trans (congrArg some (by kernel_rfl))
  f310 := Tryz.func145.trans (congrArg some (by kernel_rfl))
  f329 := Tryz.func191.trans (congrArg some (by kernel_rfl))
  f330 := Tryz.func192.trans (congrArg some (by kernel_rfl))
  f333 := Tryz.func190.trans (congrArg some (by kernel_rfl))
  f334 := Tryz.func193.trans (congrArg some (by kernel_rfl))
  f335 := Tryz.func194.trans (congrArg some (by kernel_rfl))
  f336 := Tryz.func195.trans (congrArg some (by kernel_rfl))
  f344 := Tryz.func216.trans (congrArg some (by kernel_rfl))
  t0 := Tryz.underlying0
  a0 := Tryz.isAgg0
  z0 := Tryz.sizeOf0
  v0 := Tryz.zeroValue0
  t3 := Tryz.underlying3
  a3 := Tryz.isAgg3
  z3 := Tryz.sizeOf3
  v3 := Tryz.zeroValue3
  t4 := Tryz.underlying4
  a4 := Tryz.isAgg4
  z4 := Tryz.sizeOf4
  v4 := Tryz.zeroValue4
  t5 := Tryz.underlying5
  a5 := Tryz.isAgg5
  z5 := Tryz.sizeOf5
  v5 := Tryz.zeroValue5
  t9 := Tryz.underlying9
  a9 := Tryz.isAgg9
  z9 := Tryz.sizeOf9
  v9 := Tryz.zeroValue9
  t31 := Tryz.underlying24
  a31 := Tryz.isAgg24
  z31 := Tryz.sizeOf24
  v31 := Tryz.zeroValue24
  t46 := Tryz.underlying138
  a46 := Tryz.isAgg138
  z46 := Tryz.sizeOf138
  v46 := Tryz.zeroValue138
  t51 := Tryz.underlying181
  a51 := Tryz.isAgg181
  z51 := Tryz.sizeOf181
  v51 := Tryz.zeroValue181
  t53 := Tryz.underlying183
  a53 := Tryz.isAgg183
  z53 := Tryz.sizeOf183
  v53 := Tryz.zeroValue183
  t131 := Tryz.underlying178
  a131 := Tryz.isAgg178
  z131 := Tryz.sizeOf178
  v131 := Tryz.zeroValue178
  t182 := Tryz.underlying172
  a182 := Tryz.isAgg172
  z182 := Tryz.sizeOf172
  v182 := Tryz.zeroValue172
  t183 := Tryz.underlying173
  a183 := Tryz.isAgg173
  z183 := Tryz.sizeOf173
  v183 := Tryz.zeroValue173
  t218 := Tryz.underlying219
  a218 := Tryz.isAgg219
  z218 := Tryz.sizeOf219
  v218 := Tryz.zeroValue219
  t222 := Tryz.underlying223
  a222 := Tryz.isAgg223
  z222 := Tryz.sizeOf223
  v222 := Tryz.zeroValue223
  t228 := Tryz.underlying249
  a228 := Tryz.isAgg249
  z228 := Tryz.sizeOf249
  v228 := Tryz.zeroValue249
  t229 := Tryz.underlying250
  a229 := Tryz.isAgg250
  z229 := Tryz.sizeOf250
  v229 := Tryz.zeroValue250 }
open Go.Sort Go.RowKit in
theorem Tryz.slices_Sort_string (blk off cap : Nat) (ss : List (List UInt8)) (w : World) (hH : Holds encStr w blk off ss.toArray) (hblk : blk < w.heap.size) (hsz : ss.length < 4611686018427387904) :
    Calls Tryz.prog 68 #[.slice (some ⟨blk, off, none⟩) ss.length cap] w fun e w' =>
      e = .returned (.tuple #[]) ∧ ∃ n os, w' = grow (putRow encStr (Sort.ahead w n) blk off (ss.mergeSort fun x y => decide (x ≤ y)).toArray) os := Any.slices_Sort_string Tryz.lays190 blk off cap ss w hH hblk hsz
end Go.Proofs

/-! Contracts of chapter 16's landed code: names. -/
namespace Go.Proofs.YteolfnceobjonaaGreat
open Go.RowKit Go.Maps Go.Sort

theorem le_less (x y : List UInt8) : decide (x ≤ y) = !Op.bytesLess y x := by
  rw [bytesLess_eq, ← decide_not]
  exact decide_eq_decide.2 Iff.rfl
theorem sorted16 (ts : List (List UInt8)) : (ts.mergeSort fun x y => decide (x ≤ y)).Perm ts ∧ (ts.mergeSort fun x y => decide (x ≤ y)).Pairwise (fun a b => Op.bytesLess b a = false) := by
  refine ⟨List.mergeSort_perm _ _, ?_⟩
  have h := List.pairwise_mergeSort (le := fun x y : List UInt8 => decide (x ≤ y)) (fun a b c h1 h2 => by
    rw [le_less, Bool.not_eq_true'] at *
    exact lt8_ntrans h1 h2) (fun a b => by
    rw [le_less, le_less]
    rcases e : Op.bytesLess b a with _ | _
    · rfl
    · rw [lt8_not e]; rfl) ts
  refine h.imp (fun {a b} hab => ?_)
  rw [le_less, Bool.not_eq_true'] at hab
  exact hab
theorem rise_of_sorted {zs : List (List UInt8)} (hn : zs.Nodup) (h : zs.Pairwise (fun a b => Op.bytesLess b a = false)) : Rise zs := by
  refine (List.pairwise_and_iff.2 ⟨hn, h⟩).imp (fun {a b} hab => ?_)
  rcases e : Op.bytesLess a b with _ | _
  · exact absurd (lt8_tri e hab.2) hab.1
  · rfl

set_option maxHeartbeats 1000000 in
set_option maxRecDepth 100000 in
theorem implCloneS (s : List UInt8) (w : World) (hs : s.length ≤ 1048576) :
    Calls Tryz.prog 67 #[.string ⟨s.toArray⟩] w fun e w' => e = .returned (.string ⟨s.toArray⟩) ∧ Below w.heap.size w w' := by
  have HC : Hid (_) := Tryz.stringslite_Clone ⟨s.toArray⟩ w (by simp [ByteArray.size]; omega)
  go_enter Tryz.func67, Tryz.ntmps67
  go_wp2_with fail
  refine Calls.mono HC.out ?_
  rintro e w' ⟨rfl, hb⟩
  have HB : Hid (Below w.heap.size w w') := hb
  clear hb HC
  go_wp2
  go_ret
  exact ⟨rfl, HB.out⟩

theorem implSortS (B g c : Nat) (ts : List (List UInt8)) (w : World) (h : w.ownsRow B 9 1 (.slice (some ⟨g, 0, none⟩) ts.length c) ts.length (strV ts)) (hl : ts.length ≤ 1048576) :
    Calls Tryz.prog 68 #[.slice (some ⟨g, 0, none⟩) ts.length c] w fun e w' => e = .returned (.tuple #[]) ∧ ∃ zs : List (List UInt8), zs.Perm ts ∧ zs.Pairwise (fun a b => Op.bytesLess b a = false) ∧ w'.ownsRow B 9 1 (.slice (some ⟨g, 0, none⟩) ts.length c) ts.length (strV zs) ∧ w.grownBy w' (some g) := by
  rcases h.2 with ⟨e, _⟩ | ⟨g', cap, cur, e, hbase, hb, h1, h2, h3, h4⟩
  · cases e
  · injection e with e _ e3
    injection e with e
    injection e with e _ _
    subst e e3
    refine Calls.mono (Tryz.slices_Sort_string g 0 c ts w (holds_of_block hb (by rw [show ts.map encStr = strV ts from rfl]; simpa using h4)) (Array.getElem?_eq_some_iff.1 hb).1 (by omega)) ?_
    rintro e w' ⟨rfl, n, os, rfl⟩
    obtain ⟨hp, hs⟩ := sorted16 ts
    exact ⟨rfl, _, hp, hs, ownsRow_sorted hp.length_eq hbase hb h1 h2 h3, grownBy_sorted _⟩

theorem keyS_inv {x : List UInt8} {kl : Lit} (h : keyOf Tryz.prog 9 (.string ⟨x.toArray⟩) = some kl) : kl = .string x := by
  simp [keyOf, Tryz.underlying9, mapKey] at h
  exact h.2.symm
theorem invKS : ∀ key kl, keyOf Tryz.prog 9 key = some kl → ∃ x : List UInt8, key = .string ⟨x.toArray⟩ := fun key kl h => by
  obtain ⟨s, rfl⟩ := Maps.keyOf_string_inv Tryz.underlying9 h
  exact ⟨s.data.toList, by simp⟩
theorem invVF : ∀ v y, fcR v = some y → ∃ c : Fc, v = .agg #[.string ⟨c.1.toArray⟩, .int .i64 c.2] := fun v y h => by
  obtain ⟨x, rfl, _⟩ := fcR_inv h
  exact ⟨x, rfl⟩

/-- The names so far: those that are no longer to come. -/
structure Nm16 (w wr : World) (b r n : Nat) (D : DataW Unit) (ns : List (List UInt8)) (left : Lit → Bool) (cnt g c : Nat) (ts : List (List UInt8)) : Prop where
  rg : wr.ranges Tryz.prog 9 fcR b r n D left cnt
  row : wr.ownsRow w.heap.size 9 1 (.slice (some ⟨g, 0, none⟩) ts.length c) ts.length (strV ts)
  nd : ts.Nodup
  mem : ∀ s, s ∈ ts ↔ (s ∈ ns ∧ left (.string s) = false)
  lf : ∀ s, left (.string s) = true → s ∈ ns
  cn : ts.length + cnt ≤ n
  bl : Below w.heap.size w wr
  rb : w.heap.size ≤ r
  bb : b < w.heap.size
theorem Nm16.step {w wr w1 w2 : World} {b r n : Nat} {D : DataW Unit} {ns : List (List UInt8)} {left : Lit → Bool} {cnt cnt1 g c : Nat} {ts : List (List UInt8)} (h : Nm16 w wr b r n D ns left cnt g c ts) {x : List UInt8} (hlx : left (.string x) = true) (hrg1 : w1.ranges Tryz.prog 9 fcR b r n D (fun z => left z && !z.sameKey (.string x)) cnt1) (hlt : cnt1 < cnt) (hg1 : wr.grownBy w1 (some r)) (hb2 : Below w1.heap.size w1 w2) (hn : n ≤ 1048576) :
    ∃ g' c' Y, (Builtin.append_ #[24, 24] 24 #[.slice (some ⟨g, 0, none⟩) ts.length c, .slice (some ⟨w2.heap.size, 0, none⟩) 1 1]).run Tryz.prog (w2.alloc (.cells #[.string ⟨x.toArray⟩] 9)) = .ok (.slice (some ⟨g', 0, none⟩) (ts.length + 1) c') Y ∧ Nm16 w Y b r n D ns (fun z => left z && !z.sameKey (.string x)) cnt1 g' c' (ts ++ [x]) := by
  have hb1 : Below w.heap.size w w1 := h.bl.grown hg1 h.bl.size (fun q e => by injection e with e; have := h.rb; omega)
  have hb12 : Below w.heap.size w w2 := hb1.trans (hb2.mono hb1.size)
  have hr1 := h.row.kept hg1 (Or.inr (fun e => row_ne_iter h.row h.rg e.symm))
  have hr2 := own_below hr1 hb2
  have hrg2 := hrg1.kept (row := none) ⟨hb2.os, hb2.tape, hb2.output, hb2.size, fun i hi _ => hb2.block i hi⟩ (by simp) (by simp)
  have hcn := h.cn
  obtain ⟨v', Y, hrun, hown, hg⟩ := push_text x hr2 hb12.size (by omega)
  obtain ⟨g', c', rfl⟩ := own_some hown (by omega)
  have hgw := (h.row.lt g rfl).1
  have hne : some b ≠ (Value.slice (some ⟨g, 0, none⟩) ts.length c).ownBlock := fun e => by
    have e2 : b = g := by simpa [Value.ownBlock] using e
    have := h.bb
    omega
  have hqe : ∀ q, (Value.slice (some ⟨g, 0, none⟩) ts.length c).ownBlock = some q → w.heap.size ≤ q := fun q e => by
    have e2 : g = q := by simpa [Value.ownBlock] using e
    omega
  refine ⟨g', c', Y, hrun, hrg2.kept hg hne (row_ne_iter hr2 hrg2), ?_, ?_, fun s => ?_, fun s hs => ?_, by rw [List.length_append, List.length_singleton]; omega, hb12.grown hg hb12.size hqe, h.rb, h.bb⟩
  · rw [List.length_append, List.length_singleton]; exact hown
  · refine List.nodup_append.2 ⟨h.nd, by simp, fun a ha b hb e => ?_⟩
    rw [List.mem_singleton] at hb
    subst hb e
    rw [((h.mem a).1 ha).2] at hlx
    cases hlx
  · have hk : (Lit.string s).sameKey (.string x) = decide (s = x) := by
      by_cases e : s = x
      · subst e; rw [WideAt.sameKey_self (keyLitS s)]; simp
      · rw [sameKey_ne (fun e' => e (by injection e'))]; simp [e]
    simp only [List.mem_append, List.mem_singleton, hk]
    rw [h.mem s]
    by_cases e : s = x
    · subst e
      simp [h.lf s hlx]
    · simp [e]
  · simp only [Bool.and_eq_true] at hs
    exact h.lf s hs.1

set_option maxHeartbeats 8000000 in
set_option maxRecDepth 100000 in
theorem implNames16 (b n : Nat) (D : DataW Unit) (l : List Fc) (w : World) (hown : w.ownsMap Tryz.prog 9 fcR b n D) (hM : MapF D l) (hn : n ≤ 1048576) (hsh : ∀ s ∈ l.map (fun c => c.1), s.length ≤ 1048576) :
    Calls Tryz.prog 39 #[.map (some b)] w fun e w' => ∃ g c, e = .returned (.slice (some ⟨g, 0, none⟩) (set16 (l.map (fun c => c.1))).length c) ∧ w'.ownsRow w.heap.size 9 1 (.slice (some ⟨g, 0, none⟩) (set16 (l.map (fun c => c.1))).length c) (set16 (l.map (fun c => c.1))).length (strV (set16 (l.map (fun c => c.1)))) ∧ Below w.heap.size w w' := by
  have hbl := hown.lt
  have hsz := hown.size_le
  have hhas := hM.has
  obtain ⟨ns, hns⟩ : ∃ ns, l.map (fun c => c.1) = ns := ⟨_, rfl⟩
  rw [hns] at hsh hhas ⊢
  have HSh : Hid (∀ s ∈ ns, s.length ≤ 1048576) := hsh
  obtain ⟨W0, hW0⟩ : ∃ W0, w.alloc (.cells #[] 9) = W0 := ⟨_, rfl⟩
  have hown0 : W0.ownsMap Tryz.prog 9 fcR b n D := by rw [← hW0]; exact hown.alloc _
  have hrow0 : W0.ownsRow w.heap.size 9 1 (.slice (some ⟨w.heap.size, 0, none⟩) 0 0) 0 (strV []) := by rw [← hW0]; exact World.ownsRow_lit w #[] 0 (Nat.le_refl _) (by decide) rfl
  have hb0 : Below w.heap.size w W0 := by rw [← hW0]; exact (Below.refl _ _).alloc (Nat.le_refl _) _
  have HK : Hid (∀ w0 : World, w0.ranges Tryz.prog 9 fcR b W0.heap.size n D (Maps.has D) (Maps.size D) → W0.grownBy w0 none → Nm16 w w0 b W0.heap.size n D ns (Maps.has D) (Maps.size D) w.heap.size 0 []) := fun w0 h1 h2 =>
    ⟨h1, own_none hrow0 h2, List.nodup_nil, fun s => by rw [hhas]; simp, fun s hs => by rw [hhas] at hs; exact of_decide_eq_true hs, by simpa using hsz, hb0.grown h2 hb0.size (fun q e => by cases e), hb0.size, hbl⟩
  have HFin : Hid (∀ (zs ts : List (List UInt8)), zs.Perm ts → zs.Pairwise (fun a b => Op.bytesLess b a = false) → ts.Nodup → (∀ s, s ∈ ts ↔ s ∈ ns) → zs = set16 ns) := fun zs ts hp hs hd hm => set16_eq (rise_of_sorted (hp.nodup_iff.2 hd) hs) (fun a => hp.mem_iff.trans (hm a))
  clear hown hM hhas hrow0 hb0 hsh hns
  go_enter Tryz.func39, Tryz.ntmps39
  go_wp2_with (at_range; refine wpList_range_own _ rfl _ 63 rfl 9 96 keyS Tryz.underlying63 fcR b n D rfl hown0 ?_; intro w0 hrg0 hg0 hs0)
  go_frame
  have HN0 : Hid (Nm16 w w0 b W0.heap.size n D ns (Maps.has D) (Maps.size D) w.heap.size 0 []) := HK.out w0 hrg0 hg0
  clear hrg0 hg0 hs0 HK hown0
  go_loopw [3] (fun vv wr => ∃ (left : Lit → Bool) (cnt g c : Nat) (ts : List (List UInt8)), vv = .slice (some ⟨g, 0, none⟩) ts.length c ∧ Hid (Nm16 w wr b W0.heap.size n D ns left cnt g c ts)) (fun _ wr => wr.rangeLeft b W0.heap.size)
  case atStart => exact ⟨_, _, w.heap.size, 0, [], rfl, HN0⟩
  case round =>
    obtain ⟨left, cnt, g, c, ts, rfl, HN⟩ := hrel
    clear HN0
    have hrg := HN.out.rg
    go_wp2_with (at_next; refine wpList_next_ranges _ rfl _ rfl 9 keyS fcR (fun x : List UInt8 => .string ⟨x.toArray⟩) (fun c : Fc => .agg #[.string ⟨c.1.toArray⟩, .int .i64 c.2]) invKS invVF b W0.heap.size n D left cnt rfl hrg ?_ ?_)
    · intro _ hl0
      have HMem : Hid (∀ s, s ∈ ts ↔ s ∈ ns) := fun s => by rw [HN.out.mem s]; simp [hl0]
      have hcn := HN.out.cn
      have HC : Hid (_) := implSortS w.heap.size g c ts wr HN.out.row (by omega)
      have HF2 : Hid (∀ zs : List (List UInt8), zs.Perm ts → zs.Pairwise (fun a b => Op.bytesLess b a = false) → zs = set16 ns) := fun zs h1 h2 => HFin.out zs ts h1 h2 HN.out.nd HMem.out
      have HBl : Hid (Below w.heap.size w wr ∧ w.heap.size ≤ g) := ⟨HN.out.bl, (HN.out.row.lt g rfl).1⟩
      obtain ⟨nt, hnt⟩ : ∃ nt, ts.length = nt := ⟨_, rfl⟩
      have HNt : Hid (ts.length = nt) := hnt
      rw [hnt] at HC ⊢
      clear hl0 hrg HN HFin HMem hnt
      go_wp2_with fail
      refine Calls.mono HC.out ?_
      rintro e w2 ⟨rfl, zs, hp, hs, hrow, hg⟩
      obtain rfl := HF2.out zs hp hs
      have HR : Hid (w2.ownsRow w.heap.size 9 1 (.slice (some ⟨g, 0, none⟩) nt c) nt (strV (set16 ns)) ∧ Below w.heap.size w w2 ∧ (set16 ns).length = nt) := ⟨hrow, HBl.out.1.grown hg HBl.out.1.size (fun q e => by injection e with e; have := HBl.out.2; omega), by rw [← HNt.out]; exact hp.length_eq⟩
      clear HC hp hs hrow hg HF2 HBl
      go_wp2
      go_ret
      exact ⟨g, c, by rw [HR.out.2.2]; rfl, by rw [HR.out.2.2]; exact HR.out.1, HR.out.2.1⟩
    · intro x cn ca kl yd yp w1 cnt1 hkx hlk hy hat hrg1 hlt hg1 hs1 hen
      obtain rfl := keyS_inv hkx
      have hxl := HSh.out x (HN.out.lf x hlk)
      have HC : Hid (_) := implCloneS x w1 hxl
      have HSt : Hid (∀ w2, Below w1.heap.size w1 w2 → ∃ g' c' Y, (Builtin.append_ #[24, 24] 24 #[.slice (some ⟨g, 0, none⟩) ts.length c, .slice (some ⟨w2.heap.size, 0, none⟩) 1 1]).run Tryz.prog (w2.alloc (.cells #[.string ⟨x.toArray⟩] 9)) = .ok (.slice (some ⟨g', 0, none⟩) (ts.length + 1) c') Y ∧ Nm16 w Y b W0.heap.size n D ns (fun z => left z && !z.sameKey (.string x)) cnt1 g' c' (ts ++ [x])) := fun w2 hb2 => HN.out.step hlk hrg1 hlt hg1 hb2 hn
      have HM0 : Hid (wr.rangeLeft b W0.heap.size = cnt) := hrg.left_eq
      have HLen : Hid ((ts ++ [x]).length = ts.length + 1) := by exact (by simp : (ts ++ [x]).length = ts.length + 1)
      generalize ts ++ [x] = ts2 at HSt HLen
      obtain ⟨left2, hl2⟩ : ∃ left2 : Lit → Bool, (fun z => left z && !z.sameKey (.string x)) = left2 := ⟨_, rfl⟩
      rw [hl2] at HSt
      clear hkx hlk hy hat hrg1 hg1 hs1 hrg HN hxl hl2
      go_wp2_with fail
      refine Calls.mono HC.out ?_
      rintro e w2 ⟨rfl, hb2⟩
      obtain ⟨g', c', Y, hrun, hN2⟩ := HSt.out w2 hb2
      have HN2 : Hid (Nm16 w Y b W0.heap.size n D ns left2 cnt1 g' c' ts2) := hN2
      clear HC HSt hb2 hN2
      go_wp2_with (at_builtin; refine wpList_append_run rfl (.tmp 12) (.tmp 15) 24 rfl _ _ _ rfl rfl hrun ?_; clear hrun)
      go_wp2
      go_roundw
      case rel => exact ⟨left2, cnt1, g', c', ts2, by rw [HLen.out], HN2⟩
      case measure => rw [HN2.out.rg.left_eq, HM0.out]; exact hlt

end Go.Proofs.YteolfnceobjonaaGreat

/-! Contracts of chapter 14's landed code: texts compared, a routine found by halving (routineNamed). -/
namespace Go.Proofs.YteolfnceobjonaaGreat
open Go.RowKit

end Go.Proofs.YteolfnceobjonaaGreat

/-! The contracts of chapter 4's landed code: WordOk, Wrap, Done. -/
namespace Go.Proofs.YteolfnceobjonaaGreat
open Go.RowKit

set_option maxHeartbeats 400000 in
set_option maxRecDepth 100000 in
theorem implWordOkS (n : Int) (w : World) : Calls Tryz.prog 219 #[.int .i64 n] w fun e w' => e = .returned (.bool (inB n (-2147483648) 2147483647)) ∧ w' = w := by
  by_cases h1 : -2147483648 ≤ n
  · by_cases h2 : n ≤ 2147483647
    · have hB : Hid (inB n (-2147483648) 2147483647 = true) := inB_yes _ _ _ h1 h2
      go_enter Tryz.func219, Tryz.ntmps219
      go_wp2
      go_ret
      exact ⟨by rw [hB.out]; rfl, rfl⟩
    · have hB : Hid (inB n (-2147483648) 2147483647 = false) := inB_no _ _ _ (Or.inr (by omega))
      go_enter Tryz.func219, Tryz.ntmps219
      go_wp2
      go_ret
      exact ⟨by rw [hB.out]; rfl, rfl⟩
  · have hB : Hid (inB n (-2147483648) 2147483647 = false) := inB_no _ _ _ (Or.inl (by omega))
    go_enter Tryz.func219, Tryz.ntmps219
    go_wp2
    go_ret
    exact ⟨by rw [hB.out]; rfl, rfl⟩

end Go.Proofs.YteolfnceobjonaaGreat

/-! A scope in which the run jumps to several labels: what holds at every jump to each of them, and a measure that every pass from a label lowers. -/
namespace Go.Proofs.YteolfnceobjonaaGreat
open Go.RowKit

/-- As Q; by a goto to label l: J l. -/
def Hops (J : Nat → Act → World → Prop) (Q : Exit → Act → World → Prop) : Exit → Act → World → Prop
  | .goto l, a, w => J l a w
  | e, a, w => Q e a w

end Go.Proofs.YteolfnceobjonaaGreat

/-! The contract of strings.Clone: the same bytes, in memory of their own. -/
namespace Go.Proofs.YteolfnceobjonaaGreat
open Go.RowKit

end Go.Proofs.YteolfnceobjonaaGreat

/-! The contracts of chapter 5's landed code: the pieces between marks (labels and gotos), Lines, Words, NameOk, NumberOf. -/
namespace Go.Proofs.YteolfnceobjonaaGreat
open Go.RowKit




set_option maxHeartbeats 1000000 in
set_option maxRecDepth 100000 in
theorem implNameOkS (l : List UInt8) (w : World) (hl : l.length ≤ 1048576) :
    Calls Tryz.prog 92 #[.string ⟨l.toArray⟩] w fun e w' => e = .returned (.bool (nameB l)) ∧ w' = w := by
  go_enter Tryz.func92, Tryz.ntmps92
  go_wp2
  go_loop [6] (fun ix => ∃ k : Nat, k ≤ l.length ∧ ix = .int .i64 k ∧ Hid (∀ j (hj : j < l.length), j < k → 97 ≤ l[j].toNat ∧ l[j].toNat ≤ 122)) (fun ix => l.length - (intOf ix).toNat)
  case atStart => exact ⟨0, Nat.zero_le _, rfl, (fun j _ h => by omega : ∀ j (hj : j < l.length), j < 0 → _)⟩
  case round =>
    obtain ⟨k, hk, rfl, HK⟩ := hrel
    by_cases hkl : (k : Int) < (l.length : Int)
    · have hk2 : k < l.length := by omega
      obtain ⟨x, hx⟩ : ∃ x : UInt8, l[k] = x := ⟨_, rfl⟩
      have hxb : (⟨l.toArray⟩ : ByteArray)[k]'(by show k < l.toArray.size; simpa using hk2) = x := hx
      by_cases h1 : (x.toNat : Int) < 97
      · have HF : Hid (nameB l = false) := name_bad l k hk2 (by rw [hx]; omega)
        clear hx
        go_wp2
        go_ret
        exact ⟨by rw [HF.out]; rfl, rfl⟩
      · by_cases h2 : 122 < (x.toNat : Int)
        · have HF : Hid (nameB l = false) := name_bad l k hk2 (by rw [hx]; omega)
          clear hx
          go_wp2
          go_ret
          exact ⟨by rw [HF.out]; rfl, rfl⟩
        · have HS : Hid (∀ j (hj : j < l.length), j < k + 1 → 97 ≤ l[j].toNat ∧ l[j].toNat ≤ 122) := fun j hj hjk => by
            by_cases e : j = k
            · subst e; rw [hx]; omega
            · exact HK.out j hj (by omega)
          clear hx
          go_wp2
          go_round
          case rel => exact ⟨k + 1, by omega, by go_num, HS⟩
          case measure => simp [intOf]; omega
    · have HF : Hid (nameB l = inB (l.length : Int) 1 8) := name_good l (fun j hj => HK.out j hj (by omega))
      by_cases h1 : 1 ≤ (l.length : Int)
      · by_cases h2 : (l.length : Int) ≤ 8
        · have HB : Hid (inB (l.length : Int) 1 8 = true) := inB_yes _ _ _ h1 h2
          go_wp2
          go_ret
          exact ⟨by rw [HF.out, HB.out]; rfl, rfl⟩
        · have HB : Hid (inB (l.length : Int) 1 8 = false) := inB_no _ _ _ (by omega)
          go_wp2
          go_ret
          exact ⟨by rw [HF.out, HB.out]; rfl, rfl⟩
      · have HB : Hid (inB (l.length : Int) 1 8 = false) := inB_no _ _ _ (by omega)
        go_wp2
        go_ret
        exact ⟨by rw [HF.out, HB.out]; rfl, rfl⟩

theorem implNameOk (l : List UInt8) (w : World) (hl : l.length ≤ 1048576) :
    Calls Tryz.prog 92 #[.string ⟨l.toArray⟩] w fun e w' => e = .returned (.bool (nameB l)) ∧ Below w.heap.size w w' :=
  (implNameOkS l w hl).mono fun _ _ h => ⟨h.1, by rw [h.2]; exact Below.refl _ _⟩



end Go.Proofs.YteolfnceobjonaaGreat

/-! The functions of this program that are the library's are the ones that the library has contracts of: number by number, type by type; and these contracts, at this program. -/
namespace Go.Proofs
open Go.Shelf
def Tryz.lays219_ren : Go.Shelf.Ren := ⟨fun | 219 => 213 | 217 => 224 | 225 => 225 | 224 => 226 | 267 => 227 | 266 => 242 | 314 => 243 | n => n, fun | 9 => 9 | 3 => 3 | 4 => 4 | 5 => 5 | 46 => 138 | 146 => 265 | 51 => 181 | n => n, fun | 1 => 0 | n => n⟩
theorem Tryz.lays219 : Go.Proofs.Lays.n219 Tryz.prog Tryz.lays219_ren := {
  mixed := by kernel_rfl
  f217 := Tryz.func224.trans (congrArg some (by kernel_rfl))
  f219 := Tryz.func213.trans (congrArg some (by kernel_rfl))
  f224 := Tryz.func226.trans (congrArg some (by kernel_rfl))
  f225 := Tryz.func225.trans (congrArg some (by kernel_rfl))
  f266 := Tryz.func242.trans (congrArg some (by kernel_rfl))
  f267 := Tryz.func227.trans (congrArg some (by kernel_rfl))
  f314 := Tryz.func243.trans (congrArg some (by kernel_rfl))
  t3 := Tryz.underlying3
  a3 := Tryz.isAgg3
  z3 := Tryz.sizeOf3
  v3 := Tryz.zeroValue3
  t4 := Tryz.underlying4
  a4 := Tryz.isAgg4
  z4 := Tryz.sizeOf4
  v4 := Tryz.zeroValue4
  t5 := Tryz.underlying5
  a5 := Tryz.isAgg5
  z5 := Tryz.sizeOf5
  v5 := Tryz.zeroValue5
  t9 := Tryz.underlying9
  a9 := Tryz.isAgg9
  z9 := Tryz.sizeOf9
  v9 := Tryz.zeroValue9
  t46 := Tryz.underlying138
  a46 := Tryz.isAgg138
  z46 := Tryz.sizeOf138
  v46 := Tryz.zeroValue138
  t51 := Tryz.underlying181
  a51 := Tryz.isAgg181
  z51 := Tryz.sizeOf181
  v51 := Tryz.zeroValue181
  t146 := Tryz.underlying265
  a146 := Tryz.isAgg265
  z146 := Tryz.sizeOf265
  v146 := Tryz.zeroValue265
  g1 := by kernel_rfl }
open Go.RowKit Go.Lib in
/-- internal/stringslite.Index (what strings.Index calls) AT A substr OF ONE BYTE c: IT RETURNS 'Lib.indexByte s c'; the world is as it was. (LAID: no walk: one application.) -/
theorem Tryz.stringslite_Index_one (s : ByteArray) (c : UInt8) (w : World) :
    Calls Tryz.prog 213 #[.string s, .string ⟨#[c]⟩] w fun e w' => e = .returned (.int .i64 (Lib.indexByte s.data.toList c)) ∧ w' = w := Any.stringslite_Index_one Tryz.lays219 s c w
end Go.Proofs
