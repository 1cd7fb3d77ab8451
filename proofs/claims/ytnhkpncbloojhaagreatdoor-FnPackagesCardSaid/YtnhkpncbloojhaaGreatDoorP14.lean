/-
  Parts of one proof, one behind the other: TextsL, FnL, PackK, Draw7, Draw7A.
-/
import Derived.Test.YtnhkpncbloojhaaGreatDoorP13
import Derived.Test.YtnhkpncbloojhaaGreatDoorP4
import Derived.SliceStrings
import Derived.ProofKit
import Derived.OpenShut
import Derived.ShutString
import Derived.ChangeOld
import Derived.Below
import Derived.Test.YtnhkpncbloojhaaGreatDoorP6
import Derived.Test.YtnhkpncbloojhaaGreatDoorP10
import Derived.Test.YtnhkpncbloojhaaGreatDoorP5
import Derived.Test.YtnhkpncbloojhaaGreatDoorP9
import Derived.Deep.RegionLaw
import Derived.Lib.SmallJoins

/-! A list of texts that came in, as the walks take it; the exact laws' helpers over such lists: szStringS, toStringS. -/
namespace Go.Proofs.YtnhkpncbloojhaaGreatDoor
open Go.ChangeShapes Go.WideShapes Go.ChangeAt Go.RowKit

set_option maxRecDepth 100000 in
theorem open_texts {H : Type} {enc : TypeId × Value → H} {W : World} {base b0 : Nat} {spare : Nat → Bool} {held : Bool} {v : Value} {d : DataW H} {p : List MemPlace}
    (hv : Value.okWide Tryz.prog W .any b0 24 v) (h : DataW.Trod enc Tryz.prog W base spare held 24 v d p) :
    ∃ a len cap ts, v = .slice a len cap ∧ TextsIn W a len ts ∧ len ≤ maxLen ∧ ∀ j, (ts.getD j []).length ≤ maxLen := by
  obtain ⟨a0, len, cap, rfl⟩ := okWide_slice Tryz.underlying24 hv
  obtain ⟨fuel, hf⟩ := h
  rcases open_strings Tryz.underlying24 Tryz.underlying9 (by kernel_rfl) hf with ⟨hcs, _⟩ | ⟨a, l, c, ss, hcs, _, hl, hm, hlen, _, hcell, hsz⟩
  · simp [Value.cells] at hcs
    obtain ⟨rfl, rfl, rfl⟩ := hcs
    exact ⟨none, 0, 0, [], rfl, ⟨rfl, fun j hj => by omega⟩, by decide, fun j => by simp⟩
  · simp [Value.cells] at hcs
    obtain ⟨rfl, rfl, rfl⟩ := hcs
    have hls : len ≤ ss.length := by rw [hlen]; split <;> omega
    have hgd : ∀ j, j < len → ((ss.take len).map (fun s => s.data.toList)).getD j [] = (ss.getD j ByteArray.empty).data.toList := by
      intro j hj
      have hj2 : j < ss.length := by omega
      simp [List.getD, hj, hj2]
    refine ⟨some a, len, cap, (ss.take len).map (fun s => s.data.toList), rfl, ⟨by simp; omega, fun j hj => ?_⟩, by omega, fun j => ?_⟩
    · have hc := hcell j (by omega)
      have hsp : a.spot = none := by
        have h0 := hcell 0 (by omega)
        simpa [Addr.add] using World.cell?_spot h0
      obtain ⟨b, off, spot⟩ := a
      simp at hsp
      subst hsp
      have e : ∀ i, (⟨b, off, none⟩ : Addr).add i = ⟨b, off + i, none⟩ := fun i => by unfold Addr.add; split <;> simp_all
      rw [e] at hc
      refine ⟨b, off, rfl, World.block_lt_of_cell? W ⟨b, off + j, none⟩ hc, ?_⟩
      rw [hc, hgd j hj]
    · by_cases hj : j < len
      · rw [hgd j hj]
        have hj2 : j < ss.length := by omega
        have : ss.getD j ByteArray.empty ∈ ss := by simp [List.getD, hj2]
        have hz := hsz _ this
        simpa using hz
      · have : ((ss.take len).map (fun s => s.data.toList)).getD j [] = [] := by rw [List.getD, List.getElem?_eq_none (by simp; omega)]; rfl
        rw [this]; simp

def szT (m n : Nat) (left : Int) : Int := if (m : Int) + (n : Int) ≤ left then left - (m : Int) - (n : Int) else -1
theorem szT_yes {m n : Nat} {left : Int} (h : (m : Int) + (n : Int) ≤ left) : szT m n left = left - (m : Int) - (n : Int) := by unfold szT; rw [if_pos h]
theorem szT_no {m n : Nat} {left : Int} (h : ¬ (m : Int) + (n : Int) ≤ left) : szT m n left = -1 := by unfold szT; rw [if_neg h]

/-- How many bytes in all. -/
def joinN (ts : List (List UInt8)) : Nat := ts.flatten.length

theorem joinN_snoc (ts : List (List UInt8)) (k : Nat) (hk : k < ts.length) : joinN (ts.take (k + 1)) = joinN (ts.take k) + (ts.getD k []).length := by
  have := congrArg List.length (flat_snoc ts k hk)
  rw [List.length_append] at this
  exact this

theorem joinN_take (ts : List (List UInt8)) (k : Nat) : joinN (ts.take k) ≤ joinN ts := flat_take ts k


theorem made_texts (n : Nat) : (madeCells (Value.cells (.string ⟨#[]⟩)) (n * 1)).toList = strV (List.replicate n []) := by
  have hc : Value.cells (.string ⟨#[]⟩) = #[.string ⟨#[]⟩] := rfl
  rw [hc, Nat.mul_one]
  apply List.ext_getElem?
  intro j
  by_cases hj : j < n
  · rw [strV_at _ j (by simpa using hj)]
    simp [madeCells, hj, Nat.mod_one]
  · rw [List.getElem?_eq_none (by simp [madeCells]; omega), List.getElem?_eq_none (by rw [strV_len]; simp; omega)]

theorem fill_text (ts : List (List UInt8)) (k : Nat) (hk : k < ts.length) : (strV (ts.take k ++ List.replicate (ts.length - k) [])).set k (.string ⟨(ts.getD k []).toArray⟩) = strV (ts.take (k + 1) ++ List.replicate (ts.length - (k + 1)) []) := by
  have hg : ts.getD k [] = ts[k] := by simp [List.getD, hk]
  have e : (ts.take k ++ List.replicate (ts.length - k) []).set k ts[k] = ts.take (k + 1) ++ List.replicate (ts.length - (k + 1)) [] := by
    rw [List.set_append_right _ _ (by rw [List.length_take]; omega), List.length_take, Nat.min_eq_left (by omega), Nat.sub_self, show ts.length - k = (ts.length - (k + 1)) + 1 by omega, List.replicate_succ, List.set_cons_zero, List.take_succ_eq_append_getElem hk, List.append_assoc]
    rfl
  rw [hg, ← e]
  unfold strV
  rw [List.map_set]


end Go.Proofs.YtnhkpncbloojhaaGreatDoor

/-! The laws' own helpers over functions and packages: szFunc, szFuncS, szPackage, eqFunc, eqFuncS, eqStringS, eqPackage. -/
namespace Go.Proofs.YtnhkpncbloojhaaGreatDoor
open Go.RowKit

def szM (m : Nat) (left : Int) : Int := if (m : Int) ≤ left then left - (m : Int) else -1
theorem szM_yes {m : Nat} {left : Int} (h : (m : Int) ≤ left) : szM m left = left - (m : Int) := by unfold szM; rw [if_pos h]
theorem szM_no {m : Nat} {left : Int} (h : ¬ (m : Int) ≤ left) : szM m left = -1 := by unfold szM; rw [if_neg h]

def fnSz (f : Fn) : Nat := f.1.length + (f.2.2.length + textsN f.2.2)
def fnsSz : List Fn → Nat
  | [] => 0
  | f :: r => fnSz f + fnsSz r
theorem fnsSz_append (x y : List Fn) : fnsSz (x ++ y) = fnsSz x + fnsSz y := by
  induction x with
  | nil => simp [fnsSz]
  | cons n r ih => simp only [List.cons_append, fnsSz, ih]; omega
theorem fnsSz_snoc (fs : List Fn) (k : Nat) (hk : k < fs.length) : fnsSz (fs.take (k + 1)) = fnsSz (fs.take k) + fnSz (fs.getD k fn0) := by
  have hg : fs.getD k fn0 = fs[k] := by simp [List.getD, hk]
  rw [hg, List.take_succ_eq_append_getElem hk, fnsSz_append]
  simp [fnsSz]
theorem fnsSz_take (fs : List Fn) (k : Nat) : fnsSz (fs.take k) ≤ fnsSz fs := by
  have := fnsSz_append (fs.take k) (fs.drop k)
  rw [List.take_append_drop] at this
  omega
theorem fnsSz_at (fs : List Fn) (j : Nat) : fnSz (fs.getD j fn0) ≤ fnsSz fs := by
  by_cases hj : j < fs.length
  · have h1 := fnsSz_snoc fs j hj
    have h2 := fnsSz_take fs (j + 1)
    omega
  · have : fs.getD j fn0 = fn0 := by rw [List.getD, List.getElem?_eq_none (by omega)]; rfl
    rw [this]; simp [fn0, fnSz, textsN]

/-- How much a package has in all. -/
def pkSz (nm : List UInt8) (ims : List (List UInt8)) (fs : List Fn) : Nat := nm.length + (ims.length + joinN ims) + (fs.length + fnsSz fs)

def LongF (fs : List Fn) : Prop := ∀ j, (fs.getD j fn0).1.length ≤ maxLen ∧ (fs.getD j fn0).2.2.length ≤ maxLen ∧ LongT (fs.getD j fn0).2.2

theorem shortF_of {fs : List Fn} (h : fnsSz fs ≤ 1048576) : ShortF fs := fun j => by
  have h1 := fnsSz_at fs j
  unfold fnSz at h1
  exact ⟨by omega, by omega, short_of (by omega)⟩




end Go.Proofs.YtnhkpncbloojhaaGreatDoor

/-! What the landed functions of chapter 7 are told of a package; what the laws hold. -/
namespace Go.Proofs.YtnhkpncbloojhaaGreatDoor
open Go.RowKit

def IntF (fs : List Fn) : Prop := ∀ j, (-9223372036854775808 ≤ (fs.getD j fn0).2.1 ∧ (fs.getD j fn0).2.1 ≤ 9223372036854775807) ∧ IntT (fs.getD j fn0).2.2

/-- What the landed functions are told of a package that they are handed. -/
structure PkOk (w : World) (nm : List UInt8) (ia : Option Addr) (il ic : Nat) (fa : Option Addr) (fl fc : Nat) (ims : List (List UInt8)) (fs : List Fn) : Prop where
  i : TextsIn w ia il ims
  f : FuncsIn w fa fl fs
  ic : ia = none → ic = 0
  fc : (fa = none → fc = 0) ∧ fl ≤ fc
  int : IntF fs
  il : il ≤ 1048576
  fl : fl ≤ 1048576
  nm : nm.length ≤ 1048576
  is : ∀ i, (ims.getD i []).length ≤ 1048576
  fs : ShortF fs

theorem PkOk.below {w w' : World} {nm : List UInt8} {ia : Option Addr} {il ic : Nat} {fa : Option Addr} {fl fc : Nat} {ims : List (List UInt8)} {fs : List Fn} (h : PkOk w nm ia il ic fa fl fc ims fs) (hb : Below w.heap.size w w') : PkOk w' nm ia il ic fa fl fc ims fs :=
  ⟨h.i.below hb, h.f.below hb, h.ic, h.fc, h.int, h.il, h.fl, h.nm, h.is, h.fs⟩

theorem own_texts0 {w : World} {base n : Nat} {v : Value} {ts : List (List UInt8)} (h : w.ownsRow base 9 1 v n (strV ts)) : ∃ a c, v = .slice a n c ∧ (a = none → c = 0) ∧ TextsIn w a n ts := by
  obtain ⟨_, a, c, rfl, hin⟩ := own_texts h
  refine ⟨a, c, rfl, fun e => ?_, hin⟩
  rcases own_forms h with ⟨e2, _, _⟩ | ⟨g, cp, e2⟩
  · injection e2
  · injection e2 with e3; rw [e] at e3; cases e3

/-- A package small enough: every bound. -/
theorem pk_small {nm : List UInt8} {ims : List (List UInt8)} {fs : List Fn} (h : pkSz nm ims fs ≤ 1048576) : ims.length ≤ 1048576 ∧ fs.length ≤ 1048576 ∧ nm.length ≤ 1048576 ∧ (∀ i, (ims.getD i []).length ≤ 1048576) ∧ ShortF fs := by
  unfold pkSz at h
  refine ⟨by omega, by omega, by omega, fun i => ?_, shortF_of (by omega)⟩
  have h1 := part_le ims i
  have h2 : joinN ims = ims.flatten.length := rfl
  omega

/-- The law's own argument, in a block of its own. -/
theorem PkIn.newL {w : World} {nm : List UInt8} {ia : Option Addr} {il ic : Nat} {fa : Option Addr} {fl fc : Nat} {ims : List (List UInt8)} {fs : List Fn} (t : TypeId) (hi : TextsIn w ia il ims) (hf : FuncsIn w fa fl fs) :
    PkIn (w.alloc (.cells #[.string ⟨nm.toArray⟩, .slice ia il ic, .slice fa fl fc] t)) w.heap.size nm ia il ic fa fl fc ims fs ∧ Below w.heap.size w (w.alloc (.cells #[.string ⟨nm.toArray⟩, .slice ia il ic, .slice fa fl fc] t)) := by
  have hb : Below w.heap.size w (w.alloc (.cells #[.string ⟨nm.toArray⟩, .slice ia il ic, .slice fa fl fc] t)) := (Below.refl _ _).alloc (Nat.le_refl _) _
  have hA := heap_alloc_new w (.cells #[.string ⟨nm.toArray⟩, .slice ia il ic, .slice fa fl fc] t)
  generalize w.alloc (.cells #[.string ⟨nm.toArray⟩, .slice ia il ic, .slice fa fl fc] t) = W at hb hA ⊢
  exact ⟨⟨by simp [World.cell?, hA], by simp [World.cell?, hA], by simp [World.cell?, hA], hi.below hb, hf.below hb⟩, hb⟩

/-- Three cells of a block. -/
structure Box3 (V : World) (k : Nat) (a b c : Value) : Prop where
  c0 : V.cell? ⟨k, 0, none⟩ = some a
  c1 : V.cell? ⟨k, 1, none⟩ = some b
  c2 : V.cell? ⟨k, 2, none⟩ = some c

theorem Box3.lt {V : World} {k : Nat} {a b c : Value} (h : Box3 V k a b c) : k < V.heap.size := World.block_lt_of_cell? V ⟨k, 0, none⟩ h.c0
theorem Box3.keep {V V' : World} {k : Nat} {a b c : Value} (h : Box3 V k a b c) (hb : V'.heap[k]? = V.heap[k]?) : Box3 V' k a b c :=
  ⟨(World.cell?_of_block (a := ⟨k, 0, none⟩) hb).trans h.c0, (World.cell?_of_block (a := ⟨k, 1, none⟩) hb).trans h.c1, (World.cell?_of_block (a := ⟨k, 2, none⟩) hb).trans h.c2⟩
theorem Box3.below {V V' : World} {k : Nat} {a b c : Value} (h : Box3 V k a b c) (hb : Below V.heap.size V V') : Box3 V' k a b c := h.keep (hb.block k h.lt)
theorem Box3.wrote {V V' : World} {k : Nat} {a b c : Value} {S : Nat → Prop} (h : Box3 V k a b c) (hw : Wrote V V' S) (hk : ¬ S k) : Box3 V' k a b c := h.keep (hw.block k h.lt hk)
theorem Box3.grown {V V' : World} {k : Nat} {a b c : Value} {row : Option Nat} (h : Box3 V k a b c) (hg : V.grownBy V' row) (hk : some k ≠ row) : Box3 V' k a b c := h.keep (hg.block k h.lt hk)
theorem Box3.drew {V : World} {k : Nat} {a b c : Value} (h : Box3 V k a b c) : Box3 V.drew k a b c := ⟨h.c0, h.c1, h.c2⟩
theorem Box3.new (V : World) (a b c : Value) (t : TypeId) : Box3 (V.alloc (.cells #[a, b, c] t)) V.heap.size a b c ∧ Below V.heap.size V (V.alloc (.cells #[a, b, c] t)) := by
  have hb : Below V.heap.size V (V.alloc (.cells #[a, b, c] t)) := (Below.refl _ _).alloc (Nat.le_refl _) _
  have hA := heap_alloc_new V (.cells #[a, b, c] t)
  generalize V.alloc (.cells #[a, b, c] t) = W at hb hA ⊢
  exact ⟨⟨by simp [World.cell?, hA], by simp [World.cell?, hA], by simp [World.cell?, hA]⟩, hb⟩

theorem short_mem {fs : List Fn} (h : ShortF fs) {f : Fn} (hf : f ∈ fs) : f.2.2.length ≤ 1048576 := by
  obtain ⟨j, hj, rfl⟩ := List.mem_iff_getElem.1 hf
  have := (h j).2.1
  rw [List.getD_eq_getElem?_getD, List.getElem?_eq_getElem hj] at this
  exact this

/-- A package that a call owns can be read. -/
theorem own_pk {w : World} {base : Nat} {vi vf : Value} {ims : List (List UInt8)} {xs : List FV} {fs : List Fn} (hoi : w.ownsRow base 9 1 vi ims.length (strV ims)) (hof : FnsOwn w base vf xs) (hxs : xs.map (·.1) = fs) :
    ∃ ai ci af cf, vi = .slice ai ims.length ci ∧ vf = .slice af fs.length cf ∧ (ai = none → ci = 0) ∧ ((af = none → cf = 0) ∧ fs.length ≤ cf) ∧ TextsIn w ai ims.length ims ∧ FuncsIn w af fs.length fs := by
  obtain ⟨ai, ci, rfl, hic, hit⟩ := own_texts0 hoi
  obtain ⟨af, cf, rfl, hfc, hif⟩ := hof.in
  have hl : xs.length = fs.length := by rw [← hxs, List.length_map]
  have hcp : fs.length ≤ cf := by
    rcases hof.row.2 with ⟨e, h0⟩ | ⟨g, cap, cur, e, _, _, hc, _⟩
    · rw [← hl, h0]; exact Nat.zero_le _
    · injection e with _ _ e3
      rw [e3, ← hl]; exact hc
  rw [hxs, hl] at hif
  exact ⟨ai, ci, af, cf, rfl, by rw [hl], hic, ⟨hfc, hcp⟩, hit, hif⟩

/-- A right package is small. -/
theorem pkgB_small {p : Pk} (h : pkgB p = true) : p.2.1.length ≤ 6 ∧ p.2.2.length ≤ 8 ∧ ∀ f ∈ p.2.2, f.2.2.length ≤ 60 := by
  unfold pkgB at h
  rw [Bool.and_eq_true, Bool.and_eq_true, Bool.and_eq_true] at h
  obtain ⟨⟨_, hi, hf⟩, ha⟩ := h
  unfold importsB at hi
  rw [Bool.and_eq_true, Bool.and_eq_true] at hi
  have hf2 := of_decide_eq_true hf
  refine ⟨of_decide_eq_true hi.2.1, by omega, fun f hm => ?_⟩
  obtain ⟨j, hj, rfl⟩ := List.mem_iff_getElem.1 hm
  have h1 := ((of_decide_eq_true ha) j hj).1
  have hg : p.2.2.getD j fn0 = p.2.2[j] := by simp [List.getD, hj]
  rw [hg] at h1
  unfold funcB at h1
  rw [Bool.and_eq_true, Bool.and_eq_true] at h1
  exact (tree_end h1.2.2).1.2

end Go.Proofs.YtnhkpncbloojhaaGreatDoor

/-! A package is drawn: what the drawing holds. -/
namespace Go.Proofs.YtnhkpncbloojhaaGreatDoor
open Go.RowKit

theorem FnsOwn.grown {w w' : World} {base : Nat} {v : Value} {xs : List FV} {row : Option Nat} (h : FnsOwn w base v xs) (hg : w.grownBy w' row) (hr : ∀ k, row = some k → k < base) : FnsOwn w' base v xs := by
  have off : ∀ {e size n : Nat} {u : Value} {ys : List Value}, w.ownsRow base e size u n ys → u.ownBlock = none ∨ u.ownBlock ≠ row := fun {e size n u ys} ho => by
    cases hu : u.ownBlock with
    | none => exact Or.inl rfl
    | some k => exact Or.inr (fun e2 => by have := (ho.lt k hu).1; have := hr k e2.symm; omega)
  exact ⟨h.row.kept hg (off h.row), fun x hx => (h.trees x hx).kept hg (off (h.trees x hx))⟩

theorem own_grown {w w' : World} {base e size n : Nat} {u : Value} {ys : List Value} {row : Option Nat} (h : w.ownsRow base e size u n ys) (hg : w.grownBy w' row) (hr : ∀ k, row = some k → k < base) : w'.ownsRow base e size u n ys := h.kept hg (by
  cases hu : u.ownBlock with
  | none => exact Or.inl rfl
  | some k => exact Or.inr (fun e2 => by have := (h.lt k hu).1; have := hr k e2.symm; omega))

/-- A function is put behind a row of them. -/
theorem push_fn (X : World) (base : Nat) (v : Value) (xs : List FV) (y : FV) (h : FnsOwn X base v xs) (hy : X.ownsRow base 77 4 (fvT y) y.1.2.2.length (nodesV y.1.2.2)) (hb : base ≤ X.heap.size) (hn : xs.length ≤ 1048576) :
    ∃ g' c' Y, (Builtin.append_ #[25, 25] 25 #[v, .slice (some ⟨X.heap.size, 0, none⟩) 1 1]).run Tryz.prog (X.alloc (.cells #[.string ⟨y.1.1.toArray⟩, .int .i64 y.1.2.1, fvT y] 37)) = .ok (.slice (some ⟨g', 0, none⟩) (xs.length + 1) c') Y ∧
      FnsOwn Y base (.slice (some ⟨g', 0, none⟩) (xs ++ [y]).length c') (xs ++ [y]) ∧ X.grownBy Y v.ownBlock := by
  obtain ⟨i0, hi, hz0, hz1, hz2⟩ := info_parts infoFunc
  have hX1 : Below X.heap.size X (X.alloc (.cells #[.string ⟨y.1.1.toArray⟩, .int .i64 y.1.2.1, fvT y] 37)) := (Below.refl _ _).alloc (Nat.le_refl _) _
  have h1 := h.below hX1
  have hy1 := own_below hy hX1
  obtain ⟨v', Y, hrun, hown, hg, _⟩ := run_append_src (P := Tryz.prog) (X.alloc (.cells #[.string ⟨y.1.1.toArray⟩, .int .i64 y.1.2.1, fvT y] 37)) base 25 25 37 i0 _ 3 48 Tryz.underlying25 hi hz0 hz1 hz2 rfl (by decide) _ _ _ h1.row _ 1 (fnsV [y]) (new_fn X y 1) (by unfold maxLen; omega) (by omega) (by simp; omega)
  obtain ⟨g', c', rfl⟩ := own_some hown (by omega)
  have e1 : (xs ++ [y]).length = xs.length + 1 := by simp
  have hown2 : Y.ownsRow base 37 3 (.slice (some ⟨g', 0, none⟩) (xs ++ [y]).length c') (xs ++ [y]).length (fnsV (xs ++ [y])) := by
    rw [e1, fnsV_append]; exact hown
  have htr : ∀ z ∈ xs ++ [y], Y.ownsRow base 77 4 (fvT z) z.1.2.2.length (nodesV z.1.2.2) := fun z hz => by
    rw [List.mem_append, List.mem_singleton] at hz
    rcases hz with hz | rfl
    · exact (h1.trees z hz).kept hg (own_types (h1.trees z hz) h1.row (by decide))
    · exact hy1.kept hg (own_types hy1 h1.row (by decide))
  exact ⟨g', c', Y, hrun, ⟨hown2, htr⟩, (World.grownBy_alloc X _ _).trans hg⟩

/-- What l7Draw holds: the package so far (at P), the answer's zero cells (at R), the calls that are known (vo). -/
structure DrSt (X w : World) (B : Nat) (a : Option Addr) (len cap : Nat) (R P : Nat) (nm : List UInt8) (vi : Value) (fa : Option Addr) (fc : Nat) (xs : List FV) (vo : Value) (ns : List Nd) : Prop where
  p : Box3 X P (.string ⟨nm.toArray⟩) vi (.slice fa xs.length fc)
  pf : ∀ j, X.frozen? ⟨P, j, none⟩ = false
  r : Box3 X R (.string ⟨#[]⟩) (.slice none 0 0) (.slice none 0 0)
  rf : ∀ j, X.frozen? ⟨R, j, none⟩ = false
  fo : FnsOwn X (P + 1) (.slice fa xs.length fc) xs
  ow : X.ownsRow (P + 1) 77 4 vo ns.length (nodesV ns)
  cur : Cur X B a len cap
  g : w.grownBy X (some B)
  br : B < R
  rp : R < P
  wr : w.heap.size = R
  ap : ∀ x ∈ xs, (fvT x).ownBlock = none ∨ (fvT x).ownBlock ≠ vo.ownBlock

section
variable {X Y w : World} {B : Nat} {a : Option Addr} {len cap R P : Nat} {nm : List UInt8} {vi : Value} {fa : Option Addr} {fc : Nat} {xs : List FV} {vo : Value} {ns : List Nd}

/-- The cursor went on, or something was made. -/
theorem DrSt.next (h : DrSt X w B a len cap R P nm vi fa fc xs vo ns) (hg : X.grownBy Y (some B)) (hc : Cur Y B a len cap) : DrSt Y w B a len cap R P nm vi fa fc xs vo ns :=
  have hp : some P ≠ some B := fun e => by injection e with e; have := h.br; have := h.rp; omega
  have hr : some R ≠ some B := fun e => by injection e with e; have := h.br; omega
  have hlt : ∀ k, some B = some k → k < P + 1 := fun k e => by injection e with e; have := h.br; have := h.rp; omega
  ⟨h.p.grown hg hp, fun j => (World.frozen?_of_block (a := ⟨P, j, none⟩) (hg.block P h.p.lt hp)).trans (h.pf j), h.r.grown hg hr, fun j => (World.frozen?_of_block (a := ⟨R, j, none⟩) (hg.block R h.r.lt hr)).trans (h.rf j),
   h.fo.grown hg hlt, own_grown h.ow hg hlt, hc, h.g.trans hg, h.br, h.rp, h.wr, h.ap⟩
theorem DrSt.made (h : DrSt X w B a len cap R P nm vi fa fc xs vo ns) (hg : X.grownBy Y none) : DrSt Y w B a len cap R P nm vi fa fc xs vo ns :=
  h.next ⟨hg.os, hg.tape, hg.output, hg.size, fun k hk _ => hg.block k hk (by simp)⟩ (h.cur.kept hg (by simp))
theorem DrSt.alloc (h : DrSt X w B a len cap R P nm vi fa fc xs vo ns) (o : Obj) : DrSt (X.alloc o) w B a len cap R P nm vi fa fc xs vo ns := h.made (World.grownBy_alloc X o none)
theorem DrSt.drew (h : DrSt X w B a len cap R P nm vi fa fc xs vo ns) : DrSt X.drew w B a len cap R P nm vi fa fc xs vo ns := h.made (grown_drew X none)
/-- A block of one's own, apart from all that, is written. -/
theorem DrSt.side (h : DrSt X w B a len cap R P nm vi fa fc xs vo ns) {k : Nat} (hg : X.grownBy Y (some k)) (hk : P < k) (hf : ∀ q, (Value.slice fa xs.length fc).ownBlock = some q → q ≠ k) (ht : ∀ x ∈ xs, ∀ q, (fvT x).ownBlock = some q → q ≠ k) (ho : ∀ q, vo.ownBlock = some q → q ≠ k) : DrSt Y w B a len cap R P nm vi fa fc xs vo ns := by
  have hB := h.br
  have hR := h.rp
  have hW := h.wr
  have hp : some P ≠ some k := fun e => by injection e with e; omega
  have hr : some R ≠ some k := fun e => by injection e with e; omega
  have off : ∀ {u : Value}, (∀ q, u.ownBlock = some q → q ≠ k) → u.ownBlock = none ∨ u.ownBlock ≠ some k := fun {u} hu => by
    cases hv : u.ownBlock with
    | none => exact Or.inl rfl
    | some q => exact Or.inr (fun e => by injection e with e; exact hu q hv e)
  refine ⟨h.p.grown hg hp, fun j => (World.frozen?_of_block (a := ⟨P, j, none⟩) (hg.block P h.p.lt hp)).trans (h.pf j), h.r.grown hg hr, fun j => (World.frozen?_of_block (a := ⟨R, j, none⟩) (hg.block R h.r.lt hr)).trans (h.rf j),
    h.fo.kept hg (off hf) (fun x hx => off (ht x hx)), h.ow.kept hg (off ho), h.cur.kept hg (fun q e => by injection e with e; omega), ?_, h.br, h.rp, h.wr, h.ap⟩
  exact ⟨hg.os.trans h.g.os, hg.tape.trans h.g.tape, hg.output.trans h.g.output, Nat.le_trans h.g.size hg.size, fun q hq hn => (hg.block q (Nat.lt_of_lt_of_le hq h.g.size) (fun e => by injection e with e; omega)).trans (h.g.block q hq hn)⟩
end

/-- A block of three cells that was just made, behind a draw. -/
theorem box_new {V : World} {a b c : Value} {t : TypeId} : Box3 (V.alloc (.cells #[a, b, c] t)) V.heap.size a b c ∧ ∀ j, (V.alloc (.cells #[a, b, c] t)).frozen? ⟨V.heap.size, j, none⟩ = false :=
  ⟨(Box3.new V a b c t).1, fun j => Go.Joins.unfrozen_of_block (heap_alloc_new V (.cells #[a, b, c] t)) j⟩
theorem box_on {V Y : World} {B k : Nat} {a b c : Value} (h : Box3 V k a b c ∧ ∀ j, V.frozen? ⟨k, j, none⟩ = false) (hg : V.grownBy Y (some B)) (hk : k ≠ B) : Box3 Y k a b c ∧ ∀ j, Y.frozen? ⟨k, j, none⟩ = false :=
  have hn : some k ≠ some B := fun e => by injection e with e; exact hk e
  ⟨h.1.grown hg hn, fun j => (World.frozen?_of_block (a := ⟨k, j, none⟩) (hg.block k h.1.lt hn)).trans (h.2 j)⟩
theorem box_up1 {V Y : World} {B : Nat} {a b c : Value} {t : TypeId} (hg : (V.alloc (.cells #[a, b, c] t)).drew.grownBy Y (some B)) (hB : B < V.heap.size) : Box3 Y V.heap.size a b c ∧ ∀ j, Y.frozen? ⟨V.heap.size, j, none⟩ = false :=
  box_on (V := (V.alloc (.cells #[a, b, c] t)).drew) ⟨box_new.1.drew, box_new.2⟩ hg (by omega)
theorem box_up2 {V Y : World} {B : Nat} {o : Obj} {a b c : Value} {t : TypeId} (hg : ((V.alloc o).alloc (.cells #[a, b, c] t)).drew.grownBy Y (some B)) (hB : B < V.heap.size) : Box3 Y (V.heap.size + 1) a b c ∧ ∀ j, Y.frozen? ⟨V.heap.size + 1, j, none⟩ = false := by
  have h := box_up1 (V := V.alloc o) hg (by simp; omega)
  rw [World.size_alloc] at h
  exact h
theorem box_up3 {V Y : World} {B : Nat} {o : Obj} {a b c : Value} {t : TypeId} (hg : ((V.alloc (.cells #[a, b, c] t)).alloc o).drew.grownBy Y (some B)) (hB : B < V.heap.size) : Box3 Y V.heap.size a b c ∧ ∀ j, Y.frozen? ⟨V.heap.size, j, none⟩ = false := by
  have hb : Below (V.alloc (.cells #[a, b, c] t)).heap.size (V.alloc (.cells #[a, b, c] t)) ((V.alloc (.cells #[a, b, c] t)).alloc o) := (Below.refl _ _).alloc (Nat.le_refl _) _
  have h := box_new (V := V) (a := a) (b := b) (c := c) (t := t)
  exact box_on (V := ((V.alloc (.cells #[a, b, c] t)).alloc o).drew) ⟨(h.1.below hb).drew, fun j => (hb.frozen (p := ⟨V.heap.size, j, none⟩) (by simp)).trans (h.2 j)⟩ hg (by omega)
/-- The three cells are written. -/
theorem box_set {V : World} {k : Nat} {a b c : Value} (a' b' c' : Value) (h : Box3 V k a b c ∧ ∀ j, V.frozen? ⟨k, j, none⟩ = false) :
    (Box3 (((V.setCell ⟨k, 0, none⟩ a').setCell ⟨k, 1, none⟩ b').setCell ⟨k, 2, none⟩ c') k a' b' c' ∧ ∀ j, (((V.setCell ⟨k, 0, none⟩ a').setCell ⟨k, 1, none⟩ b').setCell ⟨k, 2, none⟩ c').frozen? ⟨k, j, none⟩ = false) ∧ V.grownBy (((V.setCell ⟨k, 0, none⟩ a').setCell ⟨k, 1, none⟩ b').setCell ⟨k, 2, none⟩ c') (some k) := by
  obtain ⟨Y, hY, y0, y1, y2, hg⟩ := set3 a' b' c' h.1.c0 h.1.c1 h.1.c2
  rw [hY]
  refine ⟨⟨⟨y0, y1, y2⟩, fun j => ?_⟩, hg⟩
  rw [← hY]
  exact (World.frozen?_setCell ..).trans ((World.frozen?_setCell ..).trans ((World.frozen?_setCell ..).trans (h.2 j)))

theorem frozen_alw {w : World} {k j : Nat} (o : Obj) (hk : k < w.heap.size) (h : w.frozen? ⟨k, j, none⟩ = false) : (w.alloc o).frozen? ⟨k, j, none⟩ = false :=
  (World.frozen?_of_block (a := ⟨k, j, none⟩) (Below.heap_alloc w o k hk)).trans h

end Go.Proofs.YtnhkpncbloojhaaGreatDoor

/-! A package is drawn: what stands behind its sixth region, and a function and a call put behind their rows. -/
namespace Go.Proofs.YtnhkpncbloojhaaGreatDoor
open Go.RowKit

section
variable {V X Y w : World} {B : Nat} {a : Option Addr} {len cap R P : Nat} {nm : List UInt8} {vi : Value} {fa : Option Addr} {fc : Nat} {xs : List FV} {vo : Value} {ns : List Nd}

/-- The function's box at F: made behind V, the rows as they were. -/
def Dr12 (V w : World) (B : Nat) (a : Option Addr) (len cap R P : Nat) (nm : List UInt8) (vi : Value) (fa : Option Addr) (fc : Nat) (xs : List FV) (vo : Value) (ns : List Nd) (v : Value) (wx : World) : Prop :=
  ∃ (F : Nat) (y : Int) (fn : List UInt8), v = .pointer (some ⟨F, 0, none⟩) ∧ (0 ≤ y ∧ y ≤ 3) ∧ fn.length ≤ 9 ∧ V.heap.size ≤ F ∧ DrSt wx w B a len cap R P nm vi fa fc xs vo ns ∧ (Box3 wx F (.string ⟨fn.toArray⟩) (.int .i64 y) (.slice none 0 0) ∧ ∀ j, wx.frozen? ⟨F, j, none⟩ = false)

theorem dr_off (st : DrSt V w B a len cap R P nm vi fa fc xs vo ns) (h : DrSt X w B a len cap R P nm vi fa fc xs vo ns) {F : Nat} (hF : V.heap.size ≤ F) (hg : X.grownBy Y (some F)) : DrSt Y w B a len cap R P nm vi fa fc xs vo ns := by
  have hp := st.p.lt
  exact h.side hg (by omega) (fun q e => by have := (st.fo.row.lt q e).2; omega) (fun x hx q e => by have := ((st.fo.trees x hx).lt q e).2; omega) (fun q e => by have := (st.ow.lt q e).2; omega)

theorem dr_set (st : DrSt V w B a len cap R P nm vi fa fc xs vo ns) (h : DrSt X w B a len cap R P nm vi fa fc xs vo ns) {F : Nat} (hF : V.heap.size ≤ F) {z0 z1 z2 : Value} (hb : Box3 X F z0 z1 z2 ∧ ∀ j, X.frozen? ⟨F, j, none⟩ = false) (fn : List UInt8) (hfn : fn.length ≤ 9) {y : Int} (hy0 : 0 ≤ y) (hy1 : y ≤ 3) :
    Dr12 V w B a len cap R P nm vi fa fc xs vo ns (.pointer (some ⟨F, 0, none⟩)) (((X.setCell ⟨F, 0, none⟩ (.string ⟨fn.toArray⟩)).setCell ⟨F, 1, none⟩ (.int .i64 y)).setCell ⟨F, 2, none⟩ (.slice none 0 0)) := by
  obtain ⟨hb2, hg⟩ := box_set (.string ⟨fn.toArray⟩) (.int .i64 y) (.slice none 0 0) hb
  exact ⟨F, y, fn, rfl, ⟨hy0, hy1⟩, hfn, hF, dr_off st h hF hg, hb2⟩

theorem dr_new (h : DrSt X w B a len cap R P nm vi fa fc xs vo ns) (hF : V.heap.size ≤ X.heap.size) (fn : List UInt8) (hfn : fn.length ≤ 9) {y : Int} (hy0 : 0 ≤ y) (hy1 : y ≤ 3) :
    Dr12 V w B a len cap R P nm vi fa fc xs vo ns (.pointer (some ⟨X.heap.size, 0, none⟩)) (X.alloc (.cells #[.string ⟨fn.toArray⟩, .int .i64 y, .slice none 0 0] 37)) :=
  ⟨X.heap.size, y, fn, rfl, ⟨hy0, hy1⟩, hfn, hF, h.alloc _, box_new⟩
theorem dr_new2 (h : DrSt X w B a len cap R P nm vi fa fc xs vo ns) (hF : V.heap.size ≤ X.heap.size) (fn : List UInt8) (hfn : fn.length ≤ 9) {y : Int} (hy0 : 0 ≤ y) (hy1 : y ≤ 3) (o : Obj) :
    Dr12 V w B a len cap R P nm vi fa fc xs vo ns (.pointer (some ⟨X.heap.size + 1, 0, none⟩)) ((X.alloc o).alloc (.cells #[.string ⟨fn.toArray⟩, .int .i64 y, .slice none 0 0] 37)) := by
  have h2 := dr_new (V := V) (h.alloc o) (by rw [World.size_alloc]; omega) fn hfn hy0 hy1
  rw [World.size_alloc] at h2
  exact h2
theorem box_alw {F : Nat} {z0 z1 z2 : Value} (o : Obj) (hb : Box3 X F z0 z1 z2 ∧ ∀ j, X.frozen? ⟨F, j, none⟩ = false) : Box3 (X.alloc o) F z0 z1 z2 ∧ ∀ j, (X.alloc o).frozen? ⟨F, j, none⟩ = false :=
  ⟨hb.1.below ((Below.refl _ _).alloc (Nat.le_refl _) o), fun j => frozen_alw o hb.1.lt (hb.2 j)⟩
theorem dr_new3 (h : DrSt X w B a len cap R P nm vi fa fc xs vo ns) (hF : V.heap.size ≤ X.heap.size) (fn : List UInt8) (hfn : fn.length ≤ 9) {y : Int} (hy0 : 0 ≤ y) (hy1 : y ≤ 3) (o : Obj) :
    Dr12 V w B a len cap R P nm vi fa fc xs vo ns (.pointer (some ⟨X.heap.size, 0, none⟩)) ((X.alloc (.cells #[.string ⟨fn.toArray⟩, .int .i64 y, .slice none 0 0] 37)).alloc o) :=
  ⟨X.heap.size, y, fn, rfl, ⟨hy0, hy1⟩, hfn, hF, (h.alloc _).alloc o, box_alw o box_new⟩
theorem dr_set1 (st : DrSt V w B a len cap R P nm vi fa fc xs vo ns) (h : DrSt X w B a len cap R P nm vi fa fc xs vo ns) {F : Nat} (hF : V.heap.size ≤ F) {z0 z1 z2 : Value} (hb : Box3 X F z0 z1 z2 ∧ ∀ j, X.frozen? ⟨F, j, none⟩ = false) (fn : List UInt8) (hfn : fn.length ≤ 9) {y : Int} (hy0 : 0 ≤ y) (hy1 : y ≤ 3) (o : Obj) :
    Dr12 V w B a len cap R P nm vi fa fc xs vo ns (.pointer (some ⟨F, 0, none⟩)) ((((X.alloc o).setCell ⟨F, 0, none⟩ (.string ⟨fn.toArray⟩)).setCell ⟨F, 1, none⟩ (.int .i64 y)).setCell ⟨F, 2, none⟩ (.slice none 0 0)) :=
  dr_set st (h.alloc o) hF (box_alw o hb) fn hfn hy0 hy1

theorem sz0 {row : Option Nat} (h : V.drew.grownBy Y row) : V.heap.size ≤ Y.heap.size := h.size
theorem sz1 {row : Option Nat} {o : Obj} (h : (V.alloc o).drew.grownBy Y row) : V.heap.size ≤ Y.heap.size := by
  have h1 : (V.alloc o).heap.size ≤ Y.heap.size := h.size
  rw [World.size_alloc] at h1; omega
theorem sz2 {row : Option Nat} {o o' : Obj} (h : ((V.alloc o).alloc o').drew.grownBy Y row) : V.heap.size ≤ Y.heap.size := by
  have h1 : ((V.alloc o).alloc o').heap.size ≤ Y.heap.size := h.size
  rw [World.size_alloc, World.size_alloc] at h1; omega
end

end Go.Proofs.YtnhkpncbloojhaaGreatDoor
