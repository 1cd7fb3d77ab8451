/-
  Parts of one proof, one behind the other: PackW, PackK, ProjL, CellA, FnT, NodeM, FnMS, FnMP, ProjT, ProjM.
-/
import Derived.Test.YtfeklbnggicefaaGreatP11
import Derived.Test.YtfeklbnggicefaaGreatP6
import Derived.Test.YtfeklbnggicefaaGreatP10
import Derived.Test.YtfeklbnggicefaaGreatP9
import Derived.Deep.RegionWith

/-! What the writing of several blocks leaves; rows that lie apart. -/
namespace Go.Proofs.YtfeklbnggicefaaGreat
open Go.RowKit

/-- Of what was there nothing but the blocks of S was written. -/
structure Wrote (w w' : World) (S : Nat → Prop) : Prop where
  os : w'.os = w.os
  tape : w'.tape = w.tape
  output : w'.output = w.output
  size : w.heap.size ≤ w'.heap.size
  block : ∀ k, k < w.heap.size → ¬ S k → w'.heap[k]? = w.heap[k]?

theorem Wrote.refl (w : World) (S : Nat → Prop) : Wrote w w S := ⟨rfl, rfl, rfl, Nat.le_refl _, fun _ _ _ => rfl⟩
theorem Wrote.trans {a b c : World} {S : Nat → Prop} (h : Wrote a b S) (k : Wrote b c S) : Wrote a c S :=
  ⟨k.os.trans h.os, k.tape.trans h.tape, k.output.trans h.output, Nat.le_trans h.size k.size, fun i hi hs => (k.block i (Nat.lt_of_lt_of_le hi h.size) hs).trans (h.block i hi hs)⟩
theorem Wrote.mono {w w' : World} {S T : Nat → Prop} (h : Wrote w w' S) (hs : ∀ k, S k → T k) : Wrote w w' T := ⟨h.os, h.tape, h.output, h.size, fun k hk hn => h.block k hk (fun e => hn (hs k e))⟩
theorem Wrote.of_grown {w w' : World} {row : Option Nat} {S : Nat → Prop} (h : w.grownBy w' row) (hs : ∀ k, row = some k → S k) : Wrote w w' S :=
  ⟨h.os, h.tape, h.output, h.size, fun k hk hn => h.block k hk (fun e => hn (hs k e.symm))⟩
theorem Wrote.of_below {w w' : World} {S : Nat → Prop} (h : Below w.heap.size w w') : Wrote w w' S := ⟨h.os, h.tape, h.output, h.size, fun k hk _ => h.block k hk⟩
theorem Wrote.below {w w' : World} {S : Nat → Prop} {B : Nat} (h : Wrote w w' S) (hB : B ≤ w.heap.size) (hs : ∀ k, S k → B ≤ k) : Below B w w' :=
  ⟨h.os, h.tape, h.output, h.size, fun k hk => h.block k (Nat.lt_of_lt_of_le hk hB) (fun e => by have := hs k e; omega)⟩
theorem own_wrote {w w' : World} {base e size n : Nat} {v : Value} {xs : List Value} {S : Nat → Prop} (h : w.ownsRow base e size v n xs) (hw : Wrote w w' S) (hv : ∀ k, v.ownBlock = some k → ¬ S k) : w'.ownsRow base e size v n xs := by
  refine ⟨h.1, ?_⟩
  rcases h.2 with hn | ⟨g, cap, cur, rfl, hb, hgg, rest⟩
  · exact .inl hn
  · refine .inr ⟨g, cap, cur, rfl, hb, ?_, rest⟩
    rw [hw.block g (Array.getElem?_eq_some_iff.1 hgg).1 (hv g rfl)]
    exact hgg

/-- The trees lie apart, one by one. -/
def Apart (vs : List Value) : Prop := vs.Pairwise (fun a b => a.ownBlock = none ∨ a.ownBlock ≠ b.ownBlock)
theorem Apart.ne {vs : List Value} (h : Apart vs) {i j : Nat} (hi : i < vs.length) (hj : j < vs.length) (hij : i ≠ j) : vs[i].ownBlock = none ∨ vs[i].ownBlock ≠ vs[j].ownBlock := by
  rcases Nat.lt_or_gt_of_ne hij with hl | hl
  · exact List.pairwise_iff_getElem.1 h i j hi hj hl
  · rcases List.pairwise_iff_getElem.1 h j i hj hi hl with e | e
    · rw [e]; cases vs[i].ownBlock <;> simp
    · exact Or.inr (fun e2 => e e2.symm)

theorem Apart.nil : Apart [] := List.Pairwise.nil
theorem Apart.snoc {vs : List Value} {u : Value} (h : Apart vs) (hu : ∀ v ∈ vs, v.ownBlock = none ∨ v.ownBlock ≠ u.ownBlock) : Apart (vs ++ [u]) :=
  List.pairwise_append.2 ⟨h, List.pairwise_singleton _ _, fun a ha b hb => by rw [List.mem_singleton] at hb; subst hb; exact hu a ha⟩
/-- A row that lies ahead of a place, and one that lies behind it. -/
theorem own_ahead {w w' : World} {b1 b2 e1 e2 s1 s2 n1 n2 : Nat} {v1 v2 : Value} {xs ys : List Value} (h1 : w.ownsRow b1 e1 s1 v1 n1 xs) (h2 : w'.ownsRow b2 e2 s2 v2 n2 ys) (hb : w.heap.size ≤ b2) : v1.ownBlock = none ∨ v1.ownBlock ≠ v2.ownBlock := by
  cases hv : v1.ownBlock with
  | none => exact Or.inl rfl
  | some k =>
    refine Or.inr (fun e => ?_)
    have l1 := (h1.lt k hv).2
    have l2 := (h2.lt k e.symm).1
    omega

end Go.Proofs.YtfeklbnggicefaaGreat

/-! What the landed functions of chapter 7 are told of a package; what the laws hold. -/
namespace Go.Proofs.YtfeklbnggicefaaGreat
open Go.RowKit

def IntF (fs : List Fn) : Prop := ∀ j, (-9223372036854775808 ≤ (fs.getD j fn0).2.1 ∧ (fs.getD j fn0).2.1 ≤ 9223372036854775807) ∧ IntT (fs.getD j fn0).2.2

/-- What the landed functions are told of a package that they are handed. -/
structure PkOk (w : World) (nm : List UInt8) (ia : Option Addr) (il ic : Nat) (fa : Option Addr) (fl fc : Nat) (ims : List (List UInt8)) (fs : List Fn) : Prop where
  i : TextsIn w ia il ims
  f : FuncsIn w fa fl fs
  ic : ia = none → ic = 0
  fc : (fa = none → fc = 0) ∧ fl ≤ fc
  int : IntF fs
  il : il ≤ 1048576
  fl : fl ≤ 1048576
  nm : nm.length ≤ 1048576
  is : ∀ i, (ims.getD i []).length ≤ 1048576
  fs : ShortF fs

theorem PkOk.below {w w' : World} {nm : List UInt8} {ia : Option Addr} {il ic : Nat} {fa : Option Addr} {fl fc : Nat} {ims : List (List UInt8)} {fs : List Fn} (h : PkOk w nm ia il ic fa fl fc ims fs) (hb : Below w.heap.size w w') : PkOk w' nm ia il ic fa fl fc ims fs :=
  ⟨h.i.below hb, h.f.below hb, h.ic, h.fc, h.int, h.il, h.fl, h.nm, h.is, h.fs⟩

theorem own_texts0 {w : World} {base n : Nat} {v : Value} {ts : List (List UInt8)} (h : w.ownsRow base 9 1 v n (strV ts)) : ∃ a c, v = .slice a n c ∧ (a = none → c = 0) ∧ TextsIn w a n ts := by
  obtain ⟨_, a, c, rfl, hin⟩ := own_texts h
  refine ⟨a, c, rfl, fun e => ?_, hin⟩
  rcases own_forms h with ⟨e2, _, _⟩ | ⟨g, cp, e2⟩
  · injection e2
  · injection e2 with e3; rw [e] at e3; cases e3

/-- A package small enough: every bound. -/
theorem pk_small {nm : List UInt8} {ims : List (List UInt8)} {fs : List Fn} (h : pkSz nm ims fs ≤ 1048576) : ims.length ≤ 1048576 ∧ fs.length ≤ 1048576 ∧ nm.length ≤ 1048576 ∧ (∀ i, (ims.getD i []).length ≤ 1048576) ∧ ShortF fs := by
  unfold pkSz at h
  refine ⟨by omega, by omega, by omega, fun i => ?_, shortF_of (by omega)⟩
  have h1 := part_le ims i
  have h2 : joinN ims = ims.flatten.length := rfl
  omega

/-- The law's own argument, in a block of its own. -/
theorem PkIn.newL {w : World} {nm : List UInt8} {ia : Option Addr} {il ic : Nat} {fa : Option Addr} {fl fc : Nat} {ims : List (List UInt8)} {fs : List Fn} (t : TypeId) (hi : TextsIn w ia il ims) (hf : FuncsIn w fa fl fs) :
    PkIn (w.alloc (.cells #[.string ⟨nm.toArray⟩, .slice ia il ic, .slice fa fl fc] t)) w.heap.size nm ia il ic fa fl fc ims fs ∧ Below w.heap.size w (w.alloc (.cells #[.string ⟨nm.toArray⟩, .slice ia il ic, .slice fa fl fc] t)) := by
  have hb : Below w.heap.size w (w.alloc (.cells #[.string ⟨nm.toArray⟩, .slice ia il ic, .slice fa fl fc] t)) := (Below.refl _ _).alloc (Nat.le_refl _) _
  have hA := heap_alloc_new w (.cells #[.string ⟨nm.toArray⟩, .slice ia il ic, .slice fa fl fc] t)
  generalize w.alloc (.cells #[.string ⟨nm.toArray⟩, .slice ia il ic, .slice fa fl fc] t) = W at hb hA ⊢
  exact ⟨⟨by simp [World.cell?, hA], by simp [World.cell?, hA], by simp [World.cell?, hA], hi.below hb, hf.below hb⟩, hb⟩

/-- Three cells of a block. -/
structure Box3 (V : World) (k : Nat) (a b c : Value) : Prop where
  c0 : V.cell? ⟨k, 0, none⟩ = some a
  c1 : V.cell? ⟨k, 1, none⟩ = some b
  c2 : V.cell? ⟨k, 2, none⟩ = some c

theorem Box3.lt {V : World} {k : Nat} {a b c : Value} (h : Box3 V k a b c) : k < V.heap.size := World.block_lt_of_cell? V ⟨k, 0, none⟩ h.c0
theorem Box3.keep {V V' : World} {k : Nat} {a b c : Value} (h : Box3 V k a b c) (hb : V'.heap[k]? = V.heap[k]?) : Box3 V' k a b c :=
  ⟨(World.cell?_of_block (a := ⟨k, 0, none⟩) hb).trans h.c0, (World.cell?_of_block (a := ⟨k, 1, none⟩) hb).trans h.c1, (World.cell?_of_block (a := ⟨k, 2, none⟩) hb).trans h.c2⟩
theorem Box3.below {V V' : World} {k : Nat} {a b c : Value} (h : Box3 V k a b c) (hb : Below V.heap.size V V') : Box3 V' k a b c := h.keep (hb.block k h.lt)
theorem Box3.wrote {V V' : World} {k : Nat} {a b c : Value} {S : Nat → Prop} (h : Box3 V k a b c) (hw : Wrote V V' S) (hk : ¬ S k) : Box3 V' k a b c := h.keep (hw.block k h.lt hk)
theorem Box3.grown {V V' : World} {k : Nat} {a b c : Value} {row : Option Nat} (h : Box3 V k a b c) (hg : V.grownBy V' row) (hk : some k ≠ row) : Box3 V' k a b c := h.keep (hg.block k h.lt hk)
theorem Box3.drew {V : World} {k : Nat} {a b c : Value} (h : Box3 V k a b c) : Box3 V.drew k a b c := ⟨h.c0, h.c1, h.c2⟩
theorem Box3.new (V : World) (a b c : Value) (t : TypeId) : Box3 (V.alloc (.cells #[a, b, c] t)) V.heap.size a b c ∧ Below V.heap.size V (V.alloc (.cells #[a, b, c] t)) := by
  have hb : Below V.heap.size V (V.alloc (.cells #[a, b, c] t)) := (Below.refl _ _).alloc (Nat.le_refl _) _
  have hA := heap_alloc_new V (.cells #[a, b, c] t)
  generalize V.alloc (.cells #[a, b, c] t) = W at hb hA ⊢
  exact ⟨⟨by simp [World.cell?, hA], by simp [World.cell?, hA], by simp [World.cell?, hA]⟩, hb⟩

theorem short_mem {fs : List Fn} (h : ShortF fs) {f : Fn} (hf : f ∈ fs) : f.2.2.length ≤ 1048576 := by
  obtain ⟨j, hj, rfl⟩ := List.mem_iff_getElem.1 hf
  have := (h j).2.1
  rw [List.getD_eq_getElem?_getD, List.getElem?_eq_getElem hj] at this
  exact this

/-- A package that a call owns can be read. -/
theorem own_pk {w : World} {base : Nat} {vi vf : Value} {ims : List (List UInt8)} {xs : List FV} {fs : List Fn} (hoi : w.ownsRow base 9 1 vi ims.length (strV ims)) (hof : FnsOwn w base vf xs) (hxs : xs.map (·.1) = fs) :
    ∃ ai ci af cf, vi = .slice ai ims.length ci ∧ vf = .slice af fs.length cf ∧ (ai = none → ci = 0) ∧ ((af = none → cf = 0) ∧ fs.length ≤ cf) ∧ TextsIn w ai ims.length ims ∧ FuncsIn w af fs.length fs := by
  obtain ⟨ai, ci, rfl, hic, hit⟩ := own_texts0 hoi
  obtain ⟨af, cf, rfl, hfc, hif⟩ := hof.in
  have hl : xs.length = fs.length := by rw [← hxs, List.length_map]
  have hcp : fs.length ≤ cf := by
    rcases hof.row.2 with ⟨e, h0⟩ | ⟨g, cap, cur, e, _, _, hc, _⟩
    · rw [← hl, h0]; exact Nat.zero_le _
    · injection e with _ _ e3
      rw [e3, ← hl]; exact hc
  rw [hxs, hl] at hif
  exact ⟨ai, ci, af, cf, rfl, by rw [hl], hic, ⟨hfc, hcp⟩, hit, hif⟩

/-- A right package is small. -/
theorem pkgB_small {p : Pk} (h : pkgB p = true) : p.2.1.length ≤ 6 ∧ p.2.2.length ≤ 8 ∧ ∀ f ∈ p.2.2, f.2.2.length ≤ 60 := by
  unfold pkgB at h
  rw [Bool.and_eq_true, Bool.and_eq_true, Bool.and_eq_true] at h
  obtain ⟨⟨_, hi, hf⟩, ha⟩ := h
  unfold importsB at hi
  rw [Bool.and_eq_true, Bool.and_eq_true] at hi
  have hf2 := of_decide_eq_true hf
  refine ⟨of_decide_eq_true hi.2.1, by omega, fun f hm => ?_⟩
  obtain ⟨j, hj, rfl⟩ := List.mem_iff_getElem.1 hm
  have h1 := ((of_decide_eq_true ha) j hj).1
  have hg : p.2.2.getD j fn0 = p.2.2[j] := by simp [List.getD, hj]
  rw [hg] at h1
  unfold funcB at h1
  rw [Bool.and_eq_true, Bool.and_eq_true] at h1
  exact (tree_end h1.2.2).1.2

end Go.Proofs.YtfeklbnggicefaaGreat

/-! The laws' own helpers over projects: szPackageS, eqPackageS. -/
namespace Go.Proofs.YtfeklbnggicefaaGreat
open Go.RowKit

def pkZ (p : Pk) : Nat := pkSz p.1 p.2.1 p.2.2
def psSz : List Pk → Nat
  | [] => 0
  | p :: r => pkZ p + psSz r
theorem psSz_append (x y : List Pk) : psSz (x ++ y) = psSz x + psSz y := by
  induction x with
  | nil => simp [psSz]
  | cons n r ih => simp only [List.cons_append, psSz, ih]; omega
theorem psSz_snoc (ps : List Pk) (k : Nat) (hk : k < ps.length) : psSz (ps.take (k + 1)) = psSz (ps.take k) + pkZ (ps.getD k pk0) := by
  have hg : ps.getD k pk0 = ps[k] := by simp [List.getD, hk]
  rw [hg, List.take_succ_eq_append_getElem hk, psSz_append]
  simp [psSz]
theorem psSz_take (ps : List Pk) (k : Nat) : psSz (ps.take k) ≤ psSz ps := by
  have := psSz_append (ps.take k) (ps.drop k)
  rw [List.take_append_drop] at this
  omega
theorem psSz_at (ps : List Pk) (j : Nat) : pkZ (ps.getD j pk0) ≤ psSz ps := by
  by_cases hj : j < ps.length
  · have h1 := psSz_snoc ps j hj
    have h2 := psSz_take ps (j + 1)
    omega
  · have : ps.getD j pk0 = pk0 := by rw [List.getD, List.getElem?_eq_none (by omega)]; rfl
    rw [this]; simp [pk0, pkZ, pkSz, joinN, fnsSz]
def LongPs (ps : List Pk) : Prop := ∀ j, (ps.getD j pk0).1.length ≤ maxLen ∧ (ps.getD j pk0).2.1.length ≤ maxLen ∧ (∀ i, ((ps.getD j pk0).2.1.getD i []).length ≤ maxLen) ∧ (ps.getD j pk0).2.2.length ≤ maxLen ∧ LongF (ps.getD j pk0).2.2
def IntPs (ps : List Pk) : Prop := ∀ j, IntF (ps.getD j pk0).2.2
theorem shortPs_of {ps : List Pk} (h : psSz ps ≤ 1048576) : ShortPs ps := fun j => by
  have h1 := psSz_at ps j
  obtain ⟨a, b, c, d, e⟩ := pk_small (nm := (ps.getD j pk0).1) (ims := (ps.getD j pk0).2.1) (fs := (ps.getD j pk0).2.2) (by unfold pkZ at h1; omega)
  exact ⟨c, a, d, b, e⟩



end Go.Proofs.YtfeklbnggicefaaGreat

/-! A cell of an elder block. -/
namespace Go.Proofs.YtfeklbnggicefaaGreat
open Go.RowKit

theorem cell_alw {w : World} {a : Addr} {v : Value} (o : Obj) (h : w.cell? a = some v) : (w.alloc o).cell? a = some v :=
  (World.cell?_of_block (Below.heap_alloc _ _ _ (World.block_lt_of_cell? w a h))).trans h

end Go.Proofs.YtfeklbnggicefaaGreat

/-! The laws' own helpers over functions and packages: toFunc, toFuncS, toPackage. -/
namespace Go.Proofs.YtfeklbnggicefaaGreat
open Go.RowKit


theorem fnsV_set (xs : List FV) (j : Nat) (y : FV) : (((fnsV xs).set (j * 3) (.string ⟨y.1.1.toArray⟩)).set (j * 3 + 1) (.int .i64 y.1.2.1)).set (j * 3 + 2) (fvT y) = fnsV (xs.set j y) := by
  induction xs generalizing j with
  | nil => simp [fnsV]
  | cons b r ih =>
    cases j with
    | zero => simp [fnsV]
    | succ j => rw [show (j + 1) * 3 = j * 3 + 1 + 1 + 1 by omega]; simp [fnsV, ih]

theorem made_fns (n : Nat) : (madeCells (Value.agg #[.string ⟨#[]⟩, .int .i64 0, .slice none 0 0]).cells (n * 3)).toList = fnsV (List.replicate n fv0) := by
  have hc : (Value.agg #[.string ⟨#[]⟩, .int .i64 0, .slice none 0 0]).cells = #[.string ⟨#[]⟩, .int .i64 0, .slice none 0 0] := rfl
  rw [hc]
  apply List.ext_getElem?
  intro j
  by_cases hj : j < n * 3
  · obtain ⟨v0, v1, v2⟩ := fnsV_at (List.replicate n fv0) (j / 3) (by simp; omega)
    have hg : (List.replicate n fv0).getD (j / 3) fv0 = fv0 := by simp [List.getD, List.getElem?_replicate]; split <;> rfl
    rw [hg] at v0 v1 v2
    have h3 : j % 3 = 0 ∨ j % 3 = 1 ∨ j % 3 = 2 := by omega
    rcases h3 with h' | h' | h'
    · have ej : j = j / 3 * 3 := by omega
      rw [← ej] at v0
      rw [v0]
      simp [madeCells, hj, h', fv0, fn0]
    · have ej : j = j / 3 * 3 + 1 := by omega
      rw [← ej] at v1
      rw [v1]
      simp [madeCells, hj, h', fv0, fn0]
    · have ej : j = j / 3 * 3 + 2 := by omega
      rw [← ej] at v2
      rw [v2]
      simp [madeCells, hj, h', fv0, fn0, fvT]
  · rw [List.getElem?_eq_none (by simp [madeCells]; omega), List.getElem?_eq_none (by rw [fnsV_len]; simp; omega)]

theorem fill_fn (ys : List FV) (len k : Nat) (y : FV) (hy : ys.length = k) (hk : k < len) : (ys ++ List.replicate (len - k) fv0).set k y = (ys ++ [y]) ++ List.replicate (len - (k + 1)) fv0 := by
  rw [List.set_append_right _ _ (by omega), hy, Nat.sub_self, show len - k = (len - (k + 1)) + 1 by omega, List.replicate_succ, List.set_cons_zero, List.append_assoc]
  rfl



end Go.Proofs.YtfeklbnggicefaaGreat

/-! The laws' own helpers over rows of nodes: markNodeS, heldNodeS, likeTree. -/
namespace Go.Proofs.YtfeklbnggicefaaGreat
open Go.RowKit

/-- The marks of m nodes, from k on. -/
def marksN (k : Nat) : Nat → List Nd
  | 0 => []
  | m + 1 => marksN k m ++ [(((k + 4 * m : Nat) : Int), ((k + 4 * m + 1 : Nat) : Int), markL (k + 4 * m + 1 + 1), markL (k + 4 * m + 1 + 1 + 1))]

theorem marksN_len (k m : Nat) : (marksN k m).length = m := by
  induction m with
  | zero => rfl
  | succ m ih => simp [marksN, ih]

theorem marksN_at (k m j : Nat) (h : j < m) : (marksN k m).getD j nd0 = (((k + 4 * j : Nat) : Int), ((k + 4 * j + 1 : Nat) : Int), markL (k + 4 * j + 1 + 1), markL (k + 4 * j + 1 + 1 + 1)) := by
  induction m with
  | zero => omega
  | succ m ih =>
    unfold marksN
    by_cases hj : j < m
    · rw [← ih hj]
      simp [List.getD, List.getElem?_append, marksN_len, hj]
    · obtain rfl : j = m := by omega
      simp [List.getD, marksN_len]

theorem marksN_set (k i : Nat) (ns : List Nd) (h : i < ns.length) : (marksN k i ++ ns.drop i).set i (((k + 4 * i : Nat) : Int), ((k + 4 * i + 1 : Nat) : Int), markL (k + 4 * i + 1 + 1), markL (k + 4 * i + 1 + 1 + 1)) = marksN k (i + 1) ++ ns.drop (i + 1) := by
  rw [List.set_append_right _ _ (by rw [marksN_len]; omega), marksN_len, Nat.sub_self, List.drop_eq_getElem_cons h, List.set_cons_zero]
  conv => rhs; unfold marksN
  rw [List.append_assoc]; rfl



end Go.Proofs.YtfeklbnggicefaaGreat

/-! The laws' own helpers over lists of functions: what several blocks' writing leaves; marks of functions. -/
namespace Go.Proofs.YtfeklbnggicefaaGreat
open Go.RowKit

/-- What functions hold when they are marked from k on, and the next mark. -/
def fmk (k : Nat) (x : FV) : FV := ((markL k, ((k + 1 : Nat) : Int), marksN (k + 2) x.1.2.2.length), x.2)
def fmark (k : Nat) : List FV → List FV
  | [] => []
  | x :: r => fmk k x :: fmark (k + 2 + 4 * x.1.2.2.length) r
def fend (k : Nat) : List FV → Nat
  | [] => k
  | x :: r => fend (k + 2 + 4 * x.1.2.2.length) r

theorem fmk_T (k : Nat) (x : FV) : fvT (fmk k x) = fvT x := by unfold fvT fmk; rw [marksN_len]
theorem fmark_len (k : Nat) (xs : List FV) : (fmark k xs).length = xs.length := by
  induction xs generalizing k with
  | nil => rfl
  | cons x r ih => simp [fmark, ih]
theorem fmark_snoc (k : Nat) (xs : List FV) (x : FV) : fmark k (xs ++ [x]) = fmark k xs ++ [fmk (fend k xs) x] ∧ fend k (xs ++ [x]) = fend k xs + 2 + 4 * x.1.2.2.length := by
  induction xs generalizing k with
  | nil => exact ⟨rfl, rfl⟩
  | cons y r ih =>
    have := ih (k + 2 + 4 * y.1.2.2.length)
    exact ⟨by rw [List.cons_append, fmark, this.1]; rfl, by rw [List.cons_append, fend, this.2]; rfl⟩
theorem fend_ge (k : Nat) (xs : List FV) : k ≤ fend k xs := by
  induction xs generalizing k with
  | nil => exact Nat.le_refl _
  | cons x r ih => have := ih (k + 2 + 4 * x.1.2.2.length); unfold fend; omega
theorem fend_app (k : Nat) (xs ys : List FV) : fend k (xs ++ ys) = fend (fend k xs) ys := by
  induction xs generalizing k with
  | nil => rfl
  | cons x r ih => rw [List.cons_append, fend, ih]; rfl
theorem fend_take (k : Nat) (xs : List FV) (m : Nat) : fend k (xs.take m) ≤ fend k xs := by
  conv => rhs; rw [← List.take_append_drop m xs, fend_app]
  exact fend_ge _ _

/-- Half way: m functions are marked. -/
def fhalf (k : Nat) (xs : List FV) (m : Nat) : List FV := fmark k (xs.take m) ++ xs.drop m
theorem fhalf_len (k : Nat) (xs : List FV) (m : Nat) : (fhalf k xs m).length = xs.length := by
  unfold fhalf; rw [List.length_append, fmark_len, ← List.length_append, List.take_append_drop]
theorem fhalf_at (k : Nat) (xs : List FV) (m : Nat) (hm : m < xs.length) : (fhalf k xs m).getD m fv0 = xs[m] := by
  unfold fhalf
  have hl : (fmark k (xs.take m)).length = m := by rw [fmark_len, List.length_take]; omega
  rw [List.getD_eq_getElem?_getD, List.getElem?_append_right (by omega), hl, Nat.sub_self, List.getElem?_drop, Nat.add_zero, List.getElem?_eq_getElem hm]
  rfl
theorem fhalf_step (k : Nat) (xs : List FV) (m : Nat) (hm : m < xs.length) : (fhalf k xs m).set m (fmk (fend k (xs.take m)) xs[m]) = fhalf k xs (m + 1) ∧ fend k (xs.take (m + 1)) = fend k (xs.take m) + 2 + 4 * xs[m].1.2.2.length := by
  have h1 := fmark_snoc k (xs.take m) xs[m]
  rw [← List.take_succ_eq_append_getElem hm] at h1
  refine ⟨?_, h1.2⟩
  have hl : (fmark k (xs.take m)).length = m := by rw [fmark_len, List.length_take]; omega
  unfold fhalf
  rw [h1.1, List.set_append_right _ _ (by omega), hl, Nat.sub_self, List.drop_eq_getElem_cons hm, List.set_cons_zero, List.append_assoc]
  rfl
theorem fhalf_T (k : Nat) (xs : List FV) (m : Nat) : (fhalf k xs m).map fvT = xs.map fvT := by
  have key : ∀ (k : Nat) (l : List FV), (fmark k l).map fvT = l.map fvT := by
    intro k l
    induction l generalizing k with
    | nil => rfl
    | cons x r ih => rw [fmark, List.map_cons, List.map_cons, fmk_T, ih]
  unfold fhalf
  rw [List.map_append, key, ← List.map_append, List.take_append_drop]

theorem set_same {α : Type} {l : List α} {i : Nat} {a : α} (h : l[i]? = some a) : l.set i a = l := by
  apply List.ext_getElem?
  intro j
  rw [List.getElem?_set]
  split
  · rename_i e
    subst e
    split
    · exact h.symm
    · rename_i hl; rw [List.getElem?_eq_none (by omega)]
  · rfl

def FnBlocks (v : Value) (xs : List FV) (k : Nat) : Prop := v.ownBlock = some k ∨ ∃ x ∈ xs, (fvT x).ownBlock = some k


theorem fmark_at (k : Nat) (xs : List FV) (m : Nat) (hm : m < xs.length) : (fmark k xs).getD m fv0 = fmk (fend k (xs.take m)) xs[m] := by
  induction xs generalizing k m with
  | nil => simp at hm
  | cons x r ih =>
    cases m with
    | zero => rfl
    | succ m =>
      have := ih (k + 2 + 4 * x.1.2.2.length) m (by simpa using hm)
      rw [List.take_succ_cons, fend, List.getElem_cons_succ, ← this]
      rfl


end Go.Proofs.YtfeklbnggicefaaGreat

/-! The laws' own helpers over packages: markPackage, heldPackage. -/
namespace Go.Proofs.YtfeklbnggicefaaGreat
open Go.RowKit



theorem FnsOwn.alloc {w : World} {base : Nat} {v : Value} {xs : List FV} (h : FnsOwn w base v xs) (o : Obj) : FnsOwn (w.alloc o) base v xs := ⟨h.row.alloc o, fun x hx => (h.trees x hx).alloc o⟩
theorem FnsOwn.none {w w' : World} {base : Nat} {v : Value} {xs : List FV} (h : FnsOwn w base v xs) (hg : w.grownBy w' none) : FnsOwn w' base v xs := ⟨own_none h.row hg, fun x hx => own_none (h.trees x hx) hg⟩
/-- A row of texts, and functions: the one's writing leaves the other. -/
theorem FnsOwn.texts {w w' : World} {base b2 n : Nat} {v vi : Value} {xs : List FV} {ys : List Value} (h : FnsOwn w base v xs) (hi : w.ownsRow b2 9 1 vi n ys) (hg : w.grownBy w' vi.ownBlock) : FnsOwn w' base v xs :=
  ⟨h.row.kept hg (own_types h.row hi (by decide)), fun x hx => (h.trees x hx).kept hg (own_types (h.trees x hx) hi (by decide))⟩
theorem texts_fns {w w' : World} {base b2 n : Nat} {v vi : Value} {xs : List FV} {ys : List Value} (h : FnsOwn w base v xs) (hi : w.ownsRow b2 9 1 vi n ys) (hw : Wrote w w' (FnBlocks v xs)) : w'.ownsRow b2 9 1 vi n ys := by
  refine own_wrote hi hw (fun k hk hb => ?_)
  rcases hb with e | ⟨x, hx, e⟩
  · rcases own_types hi h.row (by decide) with e2 | e2
    · rw [hk] at e2; cases e2
    · exact e2 (by rw [hk, e])
  · rcases own_types hi (h.trees x hx) (by decide) with e2 | e2
    · rw [hk] at e2; cases e2
    · exact e2 (by rw [hk, e])

def PkBlocks (vi vf : Value) (xs : List FV) (k : Nat) : Prop := vi.ownBlock = some k ∨ FnBlocks vf xs k



theorem fend_le (k : Nat) (xs : List FV) : fend k xs ≤ k + 2 * xs.length + 4 * fnsSz (xs.map (·.1)) := by
  induction xs generalizing k with
  | nil => exact Nat.le_add_right _ _
  | cons x r ih =>
    have h := ih (k + 2 + 4 * x.1.2.2.length)
    have e : fnsSz ((x :: r).map (·.1)) = fnSz x.1 + fnsSz (r.map (·.1)) := rfl
    have e2 : x.1.2.2.length ≤ fnSz x.1 := by unfold fnSz; omega
    rw [e]
    unfold fend
    rw [List.length_cons]
    omega

theorem fend_small (k : Nat) (xs : List FV) (h : ∀ x ∈ xs, x.1.2.2.length ≤ 60) : fend k xs ≤ k + 242 * xs.length := by
  induction xs generalizing k with
  | nil => exact Nat.le_add_right _ _
  | cons x r ih =>
    have h1 := ih (k + 2 + 4 * x.1.2.2.length) (fun y hy => h y (List.mem_cons_of_mem _ hy))
    have h2 := h x (List.mem_cons_self)
    unfold fend
    rw [List.length_cons]
    omega

end Go.Proofs.YtfeklbnggicefaaGreat

/-! A project that a call has made; the laws' own helper toPackageS. -/
namespace Go.Proofs.YtfeklbnggicefaaGreat
open Go.RowKit

/-- A package, where its lists lie, and between which blocks. -/
structure PV where
  nm : List UInt8
  ims : List (List UInt8)
  xs : List FV
  ia : Option Addr
  ic : Nat
  fa : Option Addr
  fc : Nat
  lo : Nat
  hi : Nat
def pvI (y : PV) : Value := .slice y.ia y.ims.length y.ic
def pvF (y : PV) : Value := .slice y.fa y.xs.length y.fc
def pvP (y : PV) : Pk := (y.nm, y.ims, y.xs.map (·.1))
def pv0 : PV := ⟨[], [], [], none, 0, none, 0, 0, 0⟩
def pvsV : List PV → List Value
  | [] => []
  | y :: r => .string ⟨y.nm.toArray⟩ :: pvI y :: pvF y :: pvsV r
theorem pvsV_len (ys : List PV) : (pvsV ys).length = ys.length * 3 := by
  induction ys with
  | nil => rfl
  | cons n r ih => simp only [pvsV, List.length_cons, ih]; omega
theorem pvsV_at (ys : List PV) (j : Nat) (hj : j < ys.length) : (pvsV ys)[j * 3]? = some (.string ⟨(ys.getD j pv0).nm.toArray⟩) ∧ (pvsV ys)[j * 3 + 1]? = some (pvI (ys.getD j pv0)) ∧ (pvsV ys)[j * 3 + 2]? = some (pvF (ys.getD j pv0)) := by
  induction ys generalizing j with
  | nil => simp at hj
  | cons n r ih =>
    cases j with
    | zero => simp [pvsV]
    | succ j =>
      obtain ⟨h0, h1, h2⟩ := ih j (by simpa using hj)
      refine ⟨?_, ?_, ?_⟩
      · rw [show (j + 1) * 3 = j * 3 + 1 + 1 + 1 by omega]; simpa [pvsV] using h0
      · rw [show (j + 1) * 3 + 1 = j * 3 + 1 + 1 + 1 + 1 by omega]; simpa [pvsV] using h1
      · rw [show (j + 1) * 3 + 2 = j * 3 + 2 + 1 + 1 + 1 by omega]; simpa [pvsV] using h2
theorem pvsV_set (ys : List PV) (j : Nat) (y : PV) : (((pvsV ys).set (j * 3) (.string ⟨y.nm.toArray⟩)).set (j * 3 + 1) (pvI y)).set (j * 3 + 2) (pvF y) = pvsV (ys.set j y) := by
  induction ys generalizing j with
  | nil => simp [pvsV]
  | cons b r ih =>
    cases j with
    | zero => simp [pvsV]
    | succ j => rw [show (j + 1) * 3 = j * 3 + 1 + 1 + 1 by omega]; simp [pvsV, ih]
theorem fill_pv (ys : List PV) (len k : Nat) (y : PV) (hy : ys.length = k) (hk : k < len) : (ys ++ List.replicate (len - k) pv0).set k y = (ys ++ [y]) ++ List.replicate (len - (k + 1)) pv0 := by
  rw [List.set_append_right _ _ (by omega), hy, Nat.sub_self, show len - k = (len - (k + 1)) + 1 by omega, List.replicate_succ, List.set_cons_zero, List.append_assoc]
  rfl
theorem made_pvs (n : Nat) : (madeCells (Value.agg #[.string ⟨#[]⟩, .slice none 0 0, .slice none 0 0]).cells (n * 3)).toList = pvsV (List.replicate n pv0) := by
  have hc : (Value.agg #[.string ⟨#[]⟩, .slice none 0 0, .slice none 0 0]).cells = #[.string ⟨#[]⟩, .slice none 0 0, .slice none 0 0] := rfl
  rw [hc]
  apply List.ext_getElem?
  intro j
  by_cases hj : j < n * 3
  · obtain ⟨v0, v1, v2⟩ := pvsV_at (List.replicate n pv0) (j / 3) (by simp; omega)
    have hg : (List.replicate n pv0).getD (j / 3) pv0 = pv0 := by simp [List.getD, List.getElem?_replicate]; split <;> rfl
    rw [hg] at v0 v1 v2
    have h3 : j % 3 = 0 ∨ j % 3 = 1 ∨ j % 3 = 2 := by omega
    rcases h3 with h' | h' | h'
    · have ej : j = j / 3 * 3 := by omega
      rw [← ej] at v0
      rw [v0]
      simp [madeCells, hj, h', pv0]
    · have ej : j = j / 3 * 3 + 1 := by omega
      rw [← ej] at v1
      rw [v1]
      simp [madeCells, hj, h', pv0, pvI]
    · have ej : j = j / 3 * 3 + 2 := by omega
      rw [← ej] at v2
      rw [v2]
      simp [madeCells, hj, h', pv0, pvF]
  · rw [List.getElem?_eq_none (by simp [madeCells]; omega), List.getElem?_eq_none (by rw [pvsV_len]; simp; omega)]

/-- A package whose rows lie between two blocks. -/
structure PvOk (w : World) (y : PV) : Prop where
  im : w.ownsRow y.lo 9 1 (pvI y) y.ims.length (strV y.ims)
  fo : FnsOwn w y.lo (pvF y) y.xs
  ap : Apart (y.xs.map fvT)
  top : ∀ k, PkBlocks (pvI y) (pvF y) y.xs k → k < y.hi
theorem PvOk.wrote {w w' : World} {y : PV} (h : PvOk w y) {S : Nat → Prop} (hw : Wrote w w' S) (hs : ∀ k, S k → k < y.lo ∨ y.hi ≤ k) : PvOk w' y := by
  have hoff : ∀ {e size n : Nat} {v : Value} {zs : List Value}, w.ownsRow y.lo e size v n zs → (∀ k, v.ownBlock = some k → k < y.hi) → w'.ownsRow y.lo e size v n zs := fun ho ht => own_wrote ho hw (fun k hk hS => by
    have h1 := (ho.lt k hk).1
    have h2 := ht k hk
    rcases hs k hS with h3 | h3 <;> omega)
  exact ⟨hoff h.im (fun k e => h.top k (Or.inl e)), ⟨hoff h.fo.row (fun k e => h.top k (Or.inr (Or.inl e))), fun x hx => hoff (h.fo.trees x hx) (fun k e => h.top k (Or.inr (Or.inr ⟨x, hx, e⟩)))⟩, h.ap, h.top⟩
theorem PvOk.below {w w' : World} {y : PV} (h : PvOk w y) (hb : Below w.heap.size w w') : PvOk w' y := h.wrote (S := fun _ => False) (Wrote.of_below hb) (fun _ e => e.elim)

/-- A project that a call owns: its row, and its packages' lists between B and T. -/
structure PjOwn (w : World) (B T : Nat) (v : Value) (ys : List PV) : Prop where
  row : w.ownsRow B 34 3 v ys.length (pvsV ys)
  each : ∀ y ∈ ys, PvOk w y ∧ B ≤ y.lo ∧ y.hi ≤ T
  seq : ys.Pairwise (fun a b => a.hi ≤ b.lo)
  off : ∀ k, v.ownBlock = some k → k < T ∧ ∀ y ∈ ys, k < y.lo ∨ y.hi ≤ k
  sz : T ≤ w.heap.size
theorem PjOwn.below {w w' : World} {B T : Nat} {v : Value} {ys : List PV} (h : PjOwn w B T v ys) (hb : Below w.heap.size w w') : PjOwn w' B T v ys :=
  ⟨own_below h.row hb, fun y hy => ⟨(h.each y hy).1.below hb, (h.each y hy).2⟩, h.seq, h.off, Nat.le_trans h.sz hb.size⟩
theorem getD_map_pv (ys : List PV) (j : Nat) : (ys.map pvP).getD j pk0 = pvP (ys.getD j pv0) := by
  rw [List.getD_eq_getElem?_getD, List.getD_eq_getElem?_getD, List.getElem?_map]
  cases ys[j]? <;> rfl
/-- What is owned can be read. -/
theorem PjOwn.in {w : World} {B T : Nat} {v : Value} {ys : List PV} (h : PjOwn w B T v ys) : ∃ a cap, v = .slice a ys.length cap ∧ (a = none → cap = 0) ∧ PkgsIn w a ys.length (ys.map pvP) := by
  rcases own_forms h.row with ⟨rfl, h0, _⟩ | ⟨g, cp, rfl⟩
  · exact ⟨none, 0, by rw [h0], fun _ => rfl, by simp, fun j hj => by omega⟩
  · refine ⟨some ⟨g, 0, none⟩, cp, rfl, fun e => (by cases e), by simp, fun j hj => ?_⟩
    obtain ⟨v0, v1, v2⟩ := pvsV_at ys j hj
    have hc := fun k (hk : k < ys.length * 3) => World.ownsRow.cellAt h.row k hk
    have hmem : ys.getD j pv0 ∈ ys := by rw [List.getD_eq_getElem?_getD, List.getElem?_eq_getElem hj]; exact List.getElem_mem hj
    have hy := (h.each _ hmem).1
    obtain ⟨ai, ci, af, cf, e1, e2, _, _, hti, hfi⟩ := own_pk hy.im hy.fo rfl
    refine ⟨g, 0, rfl, (h.row.lt g rfl).2, ?_, ai, (ys.getD j pv0).ims.length, ci, af, ((ys.getD j pv0).xs.map (·.1)).length, cf, ?_, ?_, ?_, ?_⟩
    · rw [Nat.zero_add, hc _ (by omega), v0, getD_map_pv]; rfl
    · rw [Nat.zero_add, hc _ (by omega), v1, e1]
    · rw [Nat.zero_add, hc _ (by omega), v2, e2]
    · rw [getD_map_pv]; exact hti
    · rw [getD_map_pv]; exact hfi

theorem infoPackage : (Tryz.prog.info? 34).map (fun i => (i.zero, i.size, i.bytes)) = some (some (.agg #[.string ⟨#[]⟩, .slice none 0 0, .slice none 0 0]), 3, 64) := by kernel_rfl


end Go.Proofs.YtfeklbnggicefaaGreat

/-! The laws' own helper markPackageS. -/
namespace Go.Proofs.YtfeklbnggicefaaGreat
open Go.RowKit


/-- Where the marks end. -/
def mend (k : Nat) : List PV → Nat
  | [] => k
  | y :: r => mend (fend (k + 1 + y.ims.length) y.xs) r
theorem mend_snoc (k : Nat) (ys : List PV) (j : Nat) (hj : j < ys.length) : mend k (ys.take (j + 1)) = fend (mend k (ys.take j) + 1 + (ys.getD j pv0).ims.length) (ys.getD j pv0).xs := by
  have e : ys.getD j pv0 = ys[j] := by simp [List.getD, hj]
  have app : ∀ (x y : List PV) (k : Nat), mend k (x ++ y) = mend (mend k x) y := by
    intro x
    induction x with
    | nil => intro y k; rfl
    | cons a r ih => intro y k; simp only [List.cons_append, mend, ih]
  rw [List.take_succ_eq_append_getElem hj, app, e]
  rfl
theorem mend_ge (k : Nat) (ys : List PV) : k ≤ mend k ys := by
  induction ys generalizing k with
  | nil => exact Nat.le_refl _
  | cons y r ih =>
    have h1 := ih (fend (k + 1 + y.ims.length) y.xs)
    have h2 := fend_ge (k + 1 + y.ims.length) y.xs
    unfold mend; omega
theorem mend_take (k : Nat) (ys : List PV) (j : Nat) : mend k (ys.take j) ≤ mend k ys := by
  have app : ∀ (x y : List PV) (k : Nat), mend k (x ++ y) = mend (mend k x) y := by
    intro x
    induction x with
    | nil => intro y k; rfl
    | cons a r ih => intro y k; simp only [List.cons_append, mend, ih]
  have := app (ys.take j) (ys.drop j) k
  rw [List.take_append_drop] at this
  rw [this]
  exact mend_ge _ _
theorem pvsV_name (ys : List PV) (j : Nat) (x : List UInt8) : (pvsV ys).set (j * 3) (.string ⟨x.toArray⟩) = pvsV (ys.set j ⟨x, (ys.getD j pv0).ims, (ys.getD j pv0).xs, (ys.getD j pv0).ia, (ys.getD j pv0).ic, (ys.getD j pv0).fa, (ys.getD j pv0).fc, (ys.getD j pv0).lo, (ys.getD j pv0).hi⟩) := by
  induction ys generalizing j with
  | nil => simp [pvsV]
  | cons b r ih =>
    cases j with
    | zero => simp [pvsV, pvI, pvF]
    | succ j => rw [show (j + 1) * 3 = j * 3 + 1 + 1 + 1 by omega]; simp [pvsV, ih]
theorem PvOk.blocks {w : World} {y : PV} (h : PvOk w y) {q : Nat} (hq : PkBlocks (pvI y) (pvF y) y.xs q) : y.lo ≤ q ∧ q < y.hi := by
  refine ⟨?_, h.top q hq⟩
  rcases hq with e | e | ⟨x, hx, e⟩
  · exact (h.im.lt q e).1
  · exact (h.fo.row.lt q e).1
  · exact ((h.fo.trees x hx).lt q e).1
/-- Rows that bear the same lists. -/
def SameL (zs ys : List PV) : Prop := zs.length = ys.length ∧ ∀ i, pvI (zs.getD i pv0) = pvI (ys.getD i pv0) ∧ pvF (zs.getD i pv0) = pvF (ys.getD i pv0)
theorem SameL.name {zs ys : List PV} (h : SameL zs ys) (j : Nat) (x : List UInt8) : SameL (zs.set j ⟨x, (zs.getD j pv0).ims, (zs.getD j pv0).xs, (zs.getD j pv0).ia, (zs.getD j pv0).ic, (zs.getD j pv0).fa, (zs.getD j pv0).fc, (zs.getD j pv0).lo, (zs.getD j pv0).hi⟩) ys := by
  refine ⟨by rw [List.length_set]; exact h.1, fun i => ?_⟩
  by_cases hij : j = i
  · subst hij
    by_cases hj : j < zs.length
    · rw [show (zs.set j _).getD j pv0 = ⟨x, (zs.getD j pv0).ims, (zs.getD j pv0).xs, (zs.getD j pv0).ia, (zs.getD j pv0).ic, (zs.getD j pv0).fa, (zs.getD j pv0).fc, (zs.getD j pv0).lo, (zs.getD j pv0).hi⟩ by simp [List.getD, hj]]
      exact ⟨(h.2 j).1, (h.2 j).2⟩
    · rw [List.set_eq_of_length_le (by omega)]; exact h.2 j
  · rw [show (zs.set j _).getD i pv0 = zs.getD i pv0 by simp [List.getD, List.getElem?_set_ne hij]]
    exact h.2 i


end Go.Proofs.YtfeklbnggicefaaGreat
