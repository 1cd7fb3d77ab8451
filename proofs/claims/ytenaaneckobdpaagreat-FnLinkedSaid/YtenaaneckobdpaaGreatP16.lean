/-
  Parts of one proof, one behind the other: RtO, RtL, RtT, InsZ, RtIn, ImgK, Draw14, Draw14B, Math6I, Math14L, RtB, Math14I, Math15, Math15O, FoldS4, FoldS, Math11V, Math11S, CheckS, MeanS, MeanS2.
-/
import Derived.Test.YtenaaneckobdpaaGreatP15
import Derived.Test.YtenaaneckobdpaaGreatP10
import Derived.SliceStrings
import Derived.Maps.AppendAt
import Derived.Test.YtenaaneckobdpaaGreatP7
import Derived.Test.YtenaaneckobdpaaGreatP1
import Derived.Test.YtenaaneckobdpaaGreatP2
import Derived.Test.YtenaaneckobdpaaGreatP3
import Derived.Lib.ItoaNum
import Derived.Lib.Join
import Derived.Lib.Bytealg
import Derived.Test.YtenaaneckobdpaaGreatP5
import Derived.Test.YtenaaneckobdpaaGreatP4
import Derived.Deep.RegionHeld3
import Derived.Deep.Cut
import Derived.Deep.CutRange
import Derived.Deep.RegionLaw
import Derived.Deep.RegionWith
import Derived.Test.YtenaaneckobdpaaGreatP8
namespace Go.Proofs.YtenaaneckobdpaaGreat
open Go.RowKit
abbrev RV := Rt × Option Addr × Nat
def rvT (x : RV) : Value := .slice x.2.1 x.1.2.2.length x.2.2
def rtsV : List RV → List Value
 | [] => []
 | x :: r => .string ⟨x.1.1.toArray⟩ :: .int .i64 x.1.2.1 :: rvT x :: rtsV r
def rv0 : RV := (rt0, none, 0)
theorem zcT (xs : List RV) : (rtsV xs).length = xs.length * 3 := by
 induction xs with
 | nil => rfl
 | cons n r ih => simp only [rtsV, List.length_cons, ih]; omega
theorem zcz (x y : List RV) : rtsV (x ++ y) = rtsV x ++ rtsV y := by
 induction x with
 | nil => rfl
 | cons n r ih => simp [rtsV, ih]
theorem zdo (xs : List RV) : ∀ u ∈ rtsV xs, u.oneCell' = true := by
 induction xs with
 | nil => intro u hu; cases hu
 | cons n r ih =>
  intro u hu
  simp only [rtsV, List.mem_cons] at hu
  rcases hu with rfl | rfl | rfl | h
  ·
   rfl
  ·
   rfl
  ·
   rfl
  ·
   exact ih u h
theorem zbS (xs : List RV) (j : Nat) (hj : j < xs.length) : (rtsV xs)[j * 3]? = some (.string ⟨(xs.getD j rv0).1.1.toArray⟩) ∧ (rtsV xs)[j * 3 + 1]? = some (.int .i64 (xs.getD j rv0).1.2.1) ∧ (rtsV xs)[j * 3 + 2]? = some (rvT (xs.getD j rv0)) := by
 induction xs generalizing j with
 | nil => simp at hj
 | cons n r ih =>
  cases j with
  | zero => simp [rtsV]
  | succ j =>
   obtain ⟨h0, h1, h2⟩ := ih j (by simpa using hj)
   refine ⟨?_, ?_, ?_⟩
   ·
    rw [show (j + 1) * 3 = j * 3 + 1 + 1 + 1 by omega]; simpa [rtsV] using h0
   ·
    rw [show (j + 1) * 3 + 1 = j * 3 + 1 + 1 + 1 + 1 by omega]; simpa [rtsV] using h1
   ·
    rw [show (j + 1) * 3 + 2 = j * 3 + 2 + 1 + 1 + 1 by omega]; simpa [rtsV] using h2
structure za7 (w : World) (base : Nat) (v : Value) (xs : List RV) : Prop where
 row : w.ownsRow base 41 3 v xs.length (rtsV xs)
 trees : ∀ x ∈ xs, w.ownsRow base 58 5 (rvT x) x.1.2.2.length (insV x.1.2.2)
theorem za7.below {w w' : World} {base : Nat} {v : Value} {xs : List RV} (h : za7 w base v xs) (hb : Below w.heap.size w w') : za7 w' base v xs := ⟨za6 h.row hb, fun x hx => za6 (h.trees x hx) hb⟩
theorem za7.kept {w w' : World} {base : Nat} {v : Value} {xs : List RV} {row : Option Nat} (h : za7 w base v xs) (hg : w.grownBy w' row) (h1 : v.ownBlock = none ∨ v.ownBlock ≠ row) (h2 : ∀ x ∈ xs, (rvT x).ownBlock = none ∨ (rvT x).ownBlock ≠ row) : za7 w' base v xs :=
 ⟨h.row.kept hg h1, fun x hx => (h.trees x hx).kept hg (h2 x hx)⟩
theorem za7.base {w : World} {base b2 : Nat} {v : Value} {xs : List RV} (h : za7 w base v xs) (hb : b2 ≤ base) : za7 w b2 v xs := ⟨zai h.row hb, fun x hx => zai (h.trees x hx) hb⟩
theorem za7.nil (w : World) (base : Nat) : za7 w base (.slice none 0 0) [] := ⟨World.ownsRow_nil w _ _ _, fun x hx => by cases hx⟩
theorem zb2 (xs : List RV) (j : Nat) : (xs.map (·.1)).getD j rt0 = (xs.getD j rv0).1 := by
 rw [List.getD_eq_getElem?_getD, List.getD_eq_getElem?_getD, List.getElem?_map]
 cases xs[j]? <;> rfl
theorem za7.in {w : World} {base : Nat} {v : Value} {xs : List RV} (h : za7 w base v xs) : ∃ a cap, v = .slice a xs.length cap ∧ (a = none → cap = 0) ∧ zbp w a xs.length (xs.map (·.1)) := by
 rcases zaH h.row with ⟨rfl, h0, _⟩ | ⟨g, cp, rfl⟩
 ·
  exact ⟨none, 0, by rw [h0], fun _ => rfl, by simp, fun j hj => by omega⟩
 ·
  refine ⟨some ⟨g, 0, none⟩, cp, rfl, fun e => (by cases e), by simp, fun j hj => ?_⟩
  obtain ⟨v0, v1, v2⟩ := zbS xs j hj
  have hc := fun k (hk : k < xs.length * 3) => World.ownsRow.cellAt h.row k hk
  have hmem : xs.getD j rv0 ∈ xs := by rw [List.getD_eq_getElem?_getD, List.getElem?_eq_getElem hj]; exact List.getElem_mem hj
  obtain ⟨hl, a, cap, e, hn⟩ := own_ins (h.trees _ hmem)
  refine ⟨g, 0, rfl, (h.row.lt g rfl).2, ?_, ?_, (xs.getD j rv0).2.1, (xs.getD j rv0).1.2.2.length, (xs.getD j rv0).2.2, ?_, ?_⟩
  ·
   rw [Nat.zero_add, hc _ (by omega), v0, zb2]
  ·
   rw [Nat.zero_add, hc _ (by omega), v1, zb2]
  ·
   rw [Nat.zero_add, hc _ (by omega), v2]; rfl
  ·
   rw [zb2]
   unfold rvT at e
   injection e with e1 e2 e3
   rw [e1]; exact hn
theorem zgn : (Tryz.prog.info? 41).map (fun i => (i.zero, i.size, i.bytes)) = some (some (.agg #[.string ⟨#[]⟩, .int .i64 0, .slice none 0 0]), 3, 48) := by kernel_rfl
theorem new_rt (w : World) (x : RV) (c : Nat) : Src (w.alloc (.cells #[.string ⟨x.1.1.toArray⟩, .int .i64 x.1.2.1, rvT x] 41)) (.slice (some ⟨w.heap.size, 0, none⟩) 1 c) 1 3 (rtsV [x]) := by
 refine ⟨rfl, zdo _, Or.inr ⟨_, c, rfl, fun j u hu => ?_⟩⟩
 rw [ziM, Nat.zero_add]
 match j, hu with
 | 0, hu => simp [rtsV] at hu; subst hu; simp
 | 1, hu => simp [rtsV] at hu; subst hu; simp
 | 2, hu => simp [rtsV] at hu; subst hu; simp
 | j + 3, hu => simp [rtsV] at hu


section
open Go.ChangeShapes Go.WideShapes Go.ChangeAt Go.RowKit Go.Joins Go.Deep

end
section
open Go.ChangeShapes Go.WideShapes Go.ChangeAt Go.RowKit Go.Joins Go.Deep
def IntR (rs : List Rt) : Prop := ∀ j, (-9223372036854775808 ≤ (rs.getD j rt0).2.1 ∧ (rs.getD j rt0).2.1 ≤ 9223372036854775807) ∧ zhx (rs.getD j rt0).2.2
theorem zex : zhx [] := fun j => by rw [show ([] : List In13).getD j in0 = in0 by simp]; exact zfE
section
variable {H : Type} {enc : TypeId × Value → H} {W : World} {base : Nat} {spare : Nat → Bool} {held : Bool} {fuel : Nat} {v : Value} {x : DataW H × List MemPlace}
end
end
def ze7 (w : World) (a : Option Addr) (len cap : Nat) (rs : List Rt) : Prop :=
 rs.length = len ∧ len ≤ cap ∧ cap ≤ maxLen ∧ ∀ j, j < len → ∃ b off, a = some ⟨b, off, none⟩ ∧ b < w.heap.size ∧ w.cell? ⟨b, off + j * 3, none⟩ = some (.string ⟨(rs.getD j rt0).1.toArray⟩) ∧ w.cell? ⟨b, off + j * 3 + 1, none⟩ = some (.int .i64 (rs.getD j rt0).2.1) ∧
  ∃ ca cl cc, w.cell? ⟨b, off + j * 3 + 2, none⟩ = some (.slice ca cl cc) ∧ zb4 w ca cl (rs.getD j rt0).2.2 ∧ cl ≤ cc ∧ cc ≤ maxLen
theorem ze7.in {w : World} {a : Option Addr} {len cap : Nat} {rs : List Rt} (h : ze7 w a len cap rs) : zbp w a len rs := by
 refine ⟨h.1, fun j hj => ?_⟩
 obtain ⟨b, off, e, hl, c0, c1, ca, cl, cc, c2, hn, _, _⟩ := h.2.2.2 j hj
 exact ⟨b, off, e, hl, c0, c1, ca, cl, cc, c2, hn⟩
theorem ze7.below {w w' : World} {a : Option Addr} {len cap : Nat} {rs : List Rt} (h : ze7 w a len cap rs) (hb : Below w.heap.size w w') : ze7 w' a len cap rs := by
 refine ⟨h.1, h.2.1, h.2.2.1, fun j hj => ?_⟩
 obtain ⟨b, off, e, hlt, c0, c1, ca, cl, cc, c2, hn, h1, h2⟩ := h.2.2.2 j hj
 exact ⟨b, off, e, Nat.lt_of_lt_of_le hlt hb.size, (hb.cell (p := ⟨b, off + j * 3, none⟩) hlt).trans c0, (hb.cell (p := ⟨b, off + j * 3 + 1, none⟩) hlt).trans c1, ca, cl, cc, (hb.cell (p := ⟨b, off + j * 3 + 2, none⟩) hlt).trans c2, hn.below hb, h1, h2⟩
structure RtOk (w : World) (a : Option Addr) (len cap : Nat) (rs : List Rt) : Prop where
 c : ze7 w a len cap rs
 i : IntR rs
 s : zc0 rs
 l : len ≤ 1048576
theorem RtOk.below {w w' : World} {a : Option Addr} {len cap : Nat} {rs : List Rt} (h : RtOk w a len cap rs) (hb : Below w.heap.size w w') : RtOk w' a len cap rs := ⟨h.c.below hb, h.i, h.s, h.l⟩
theorem zcg {w : World} {base e size n c : Nat} {a : Option Addr} {xs : List Value} (h : w.ownsRow base e size (.slice a n c) n xs) : n ≤ c ∧ c ≤ maxLen := by
 rcases h.2 with ⟨h', _⟩ | ⟨g', cap', cur, h', _, _, hnc, hcm, _⟩
 ·
  injection h' with _ h1 h2
  subst h1 h2
  exact ⟨Nat.le_refl _, Nat.zero_le _⟩
 ·
  injection h' with _ _ h2
  omega
theorem za7.cap {w : World} {base n c : Nat} {a : Option Addr} {xs : List RV} {rs : List Rt} (h : za7 w base (.slice a n c) xs) (hx : xs.map (·.1) = rs) (hn : rs.length = n) : ze7 w a n c rs := by
 have hxl : xs.length = n := by rw [← hn, ← hx, List.length_map]
 obtain ⟨a', c', e, _, hin⟩ := h.in
 rw [hx, hxl] at hin
 rw [hxl] at e
 injection e with e1 _ e3
 subst e1 e3
 have hrow := h.row
 rw [hxl] at hrow
 have hc := zcg hrow
 refine ⟨hin.1, hc.1, hc.2, fun j hj => ?_⟩
 obtain ⟨b, off, e, hlt, c0, c1, ca, cl, cc, c2, hn2⟩ := hin.2 j hj
 refine ⟨b, off, e, hlt, c0, c1, ca, cl, cc, c2, hn2, ?_⟩
 subst e
 obtain ⟨g, cp, e2⟩ := za9 hrow (by omega)
 injection e2 with e3 _ _
 injection e3 with e3
 injection e3 with e4 e5 _
 subst e4 e5
 have hmem : xs.getD j rv0 ∈ xs := by rw [List.getD_eq_getElem?_getD, List.getElem?_eq_getElem (by omega)]; exact List.getElem_mem (by omega)
 have ht := h.trees _ hmem
 obtain ⟨_, _, v2⟩ := zbS xs j (by omega)
 have h2 := hrow.cellAt (j * 3 + 2) (by omega)
 rw [v2] at h2
 rw [Nat.zero_add] at c2
 rw [c2] at h2
 injection h2 with h2
 unfold rvT at h2 ht
 injection h2 with h3 h4 h5
 subst h3 h4 h5
 exact zcg ht
def SmRt (r : Rt) : Prop := r.1.length ≤ 100 ∧ (-10 ≤ r.2.1 ∧ r.2.1 ≤ 10) ∧ r.2.2.length ≤ 300 ∧ AllI r.2.2
def SmR (xs : List RV) : Prop := ∀ x ∈ xs, SmRt x.1
theorem zji (xs : List RV) (k : Nat) : rtsV (xs.take k) = (rtsV xs).take (k * 3) := by
 induction xs generalizing k with
 | nil => simp [rtsV]
 | cons x r ih =>
  cases k with
  | zero => simp [rtsV]
  | succ k =>
   rw [List.take_succ_cons, rtsV, rtsV, ih k, show (k + 1) * 3 = k * 3 + 1 + 1 + 1 by omega]
   simp
theorem zjj (xs : List RV) (k : Nat) : rtsV (xs.drop k) = (rtsV xs).drop (k * 3) := by
 induction xs generalizing k with
 | nil => simp [rtsV]
 | cons x r ih =>
  cases k with
  | zero => simp
  | succ k =>
   rw [List.drop_succ_cons, ih k, rtsV, show (k + 1) * 3 = k * 3 + 1 + 1 + 1 by omega]
   simp
def SrcR (X : World) (ad : Addr) (zs : List RV) : Prop := ∀ (j : Nat) (u : Value), (rtsV zs)[j]? = some u → X.cell? (ad.add j) = some u
section
variable {X Y : World} {Bs g c : Nat} {xs zs : List RV}
theorem app14 (hv : za7 X Bs (.slice (some ⟨g, 0, none⟩) xs.length c) xs) {ad : Addr} {cz : Nat} (hs : SrcR X ad zs) (ht : ∀ z ∈ zs, X.ownsRow Bs 58 5 (rvT z) z.1.2.2.length (insV z.1.2.2)) (hB : Bs ≤ X.heap.size) (hn : xs.length + zs.length ≤ 4000) :
 ∃ g' c' Y, (Builtin.append_ #[26, 26] 26 #[.slice (some ⟨g, 0, none⟩) xs.length c, .slice (some ad) zs.length cz]).run Tryz.prog X = .ok (.slice (some ⟨g', 0, none⟩) (xs.length + zs.length) c') Y ∧ za7 Y Bs (.slice (some ⟨g', 0, none⟩) (xs ++ zs).length c') (xs ++ zs) ∧ X.grownBy Y (some g) ∧ (g' = g ∨ g' = X.heap.size) := by
 obtain ⟨i0, hi, hz0, hz1, hz2⟩ := info_parts zgn
 obtain ⟨v', Y, hrun, hown, hg, hnn, hat⟩ := run_append_own_at (P := Tryz.prog) X Bs 26 26 41 i0 _ 3 48 Tryz.underlying26 hi hz0 hz1 hz2 rfl (by decide) _ _ _ hv.row ad zs.length cz (rtsV zs) (by rw [zcT]) hs (zdo _) (by unfold maxLen; omega) (by omega) hB
 have hl : xs.length + zs.length = (xs ++ zs).length := by simp
 rw [← zcz] at hown
 obtain ⟨g', c', rfl⟩ : ∃ g' c', v' = .slice (some ⟨g', 0, none⟩) (xs.length + zs.length) c' := by
  rcases zaH hown with ⟨e, _, _⟩ | ⟨g', cp, e⟩
  ·
   have := (hnn.1 e).1; injection this with this; cases this
  ·
   exact ⟨g', cp, e⟩
 refine ⟨g', c', Y, hrun, ⟨by rw [← hl]; exact hown, fun x hx => ?_⟩, hg, ?_⟩
 ·
  have hx2 : X.ownsRow Bs 58 5 (rvT x) x.1.2.2.length (insV x.1.2.2) := by
   rcases List.mem_append.1 hx with e | e
   ·
    exact hv.trees x e
   ·
    exact ht x e
  exact hx2.kept hg (zb5 hx2 hv.row (by decide))
 ·
  rcases hat with e | e
  ·
   exact Or.inl (by simpa [Value.ownBlock] using e)
  ·
   exact Or.inr (by simpa [Value.ownBlock] using e)
theorem zcE (X : World) (hB : Bs ≤ X.heap.size) : za7 (X.alloc (.cells #[] 41)) Bs (.slice (some ⟨X.heap.size, 0, none⟩) ([] : List RV).length 0) [] :=
 ⟨World.ownsRow_lit X #[] 0 hB (by decide) rfl, fun x hx => by cases hx⟩
theorem add14 (b o j : Nat) : (⟨b, o, none⟩ : Addr).add j = ⟨b, o + j, none⟩ := by unfold Addr.add; split <;> simp_all
theorem zhA (h : za7 X Bs (.slice (some ⟨g, 0, none⟩) xs.length c) xs) {k : Nat} (hk : k ≤ xs.length) : SrcR X ⟨g, 0, none⟩ (xs.take k) := by
 have hl : (xs.take k).length = k := by rw [List.length_take]; omega
 intro j u hu
 have hj : j < k * 3 := by have := (List.getElem?_eq_some_iff.1 hu).1; rw [zcT, hl] at this; exact this
 rw [add14, Nat.zero_add, World.ownsRow.cellAt h.row j (by omega)]
 rw [zji, List.getElem?_take, if_pos hj] at hu
 exact hu
theorem zgJ (h : za7 X Bs (.slice (some ⟨g, 0, none⟩) xs.length c) xs) : SrcR X ⟨g, 0, none⟩ xs := by
 have := zhA h (Nat.le_refl _)
 rwa [List.take_of_length_le (Nat.le_refl _)] at this
theorem zkd (h : za7 X Bs (.slice (some ⟨g, 0, none⟩) xs.length c) xs) {k : Nat} (hk : k ≤ xs.length) : SrcR X (if c = k then ⟨g, 0, none⟩ else ⟨g, k * 3, none⟩) (xs.drop k) := by
 have hcap := (zcg h.row).1
 have hl : (xs.drop k).length = xs.length - k := List.length_drop
 intro j u hu
 have hj : j < (xs.length - k) * 3 := by have := (List.getElem?_eq_some_iff.1 hu).1; rw [zcT, hl] at this; exact this
 rw [if_neg (by omega), add14, World.ownsRow.cellAt h.row (k * 3 + j) (by omega)]
 rw [zjj, List.getElem?_drop] at hu
 exact hu
theorem za7.cells (h : za7 X Bs (.slice (some ⟨g, 0, none⟩) xs.length c) xs) {k : Nat} (hk : k < xs.length) : X.cell? ⟨g, k * 3, none⟩ = some (.string ⟨(xs.getD k rv0).1.1.toArray⟩) ∧ X.cell? ⟨g, k * 3 + 1, none⟩ = some (.int .i64 (xs.getD k rv0).1.2.1) ∧ X.cell? ⟨g, k * 3 + 2, none⟩ = some (rvT (xs.getD k rv0)) := by
 obtain ⟨v0, v1, v2⟩ := zbS xs k hk
 refine ⟨?_, ?_, ?_⟩
 ·
  rw [World.ownsRow.cellAt h.row (k * 3) (by omega), v0]
 ·
  rw [World.ownsRow.cellAt h.row (k * 3 + 1) (by omega), v1]
 ·
  rw [World.ownsRow.cellAt h.row (k * 3 + 2) (by omega), v2]
end
section
variable {w1 X Y : World} {g c R : Nat} {xs : List RV} {y : RV}
end
structure Pk14 (w1 : World) (g i : Nat) (y : PV) : Prop where
 gl : g < w1.heap.size
 c0 : w1.cell? ⟨g, i * 3, none⟩ = some (.string ⟨y.nm.toArray⟩)
 c2 : w1.cell? ⟨g, i * 3 + 2, none⟩ = some (.slice y.fa y.xs.length y.fc)
 fs : zcF w1 y.fa y.xs.length (y.xs.map (·.1))
 sm : zcR y.xs
 n : 1 ≤ y.xs.length ∧ y.xs.length ≤ 3
 nm : y.nm.length ≤ 9
theorem D8.pj {X w : World} {B : Nat} {a : Option Addr} {len cap N L : Nat} {la : Option Addr} {lc : Nat} {ys : List PV} {vc : Value} {cs : List Nd} (h : D8 X w B a len cap N L la lc ys vc cs) (h1 : 1 ≤ ys.length) : ∃ g, la = some ⟨g, 0, none⟩ ∧ ∀ i, i < ys.length → Pk14 X g i (ys.getD i pv0) := by
 obtain ⟨g, cp, e⟩ := za9 h.row (by omega)
 injection e with e1 _ e3
 subst e1 e3
 refine ⟨g, rfl, fun i hi => ?_⟩
 have hm : ys.getD i pv0 ∈ ys := by rw [List.getD_eq_getElem?_getD, List.getElem?_eq_getElem hi]; exact List.getElem_mem hi
 obtain ⟨hp, _, _⟩ := h.each _ hm
 obtain ⟨v0, _, v2⟩ := zjm ys i hi
 obtain ⟨fa, fc, e4, _, hfi⟩ := hp.ok.fo.in
 unfold pvF at e4
 injection e4 with e5 _ e6
 rw [← e5] at hfi
 refine ⟨(h.row.lt g rfl).2, ?_, ?_, hfi, hp.sm, hp.n, hp.nm⟩
 ·
  rw [World.ownsRow.cellAt h.row (i * 3) (by omega), v0]
 ·
  rw [World.ownsRow.cellAt h.row (i * 3 + 2) (by omega), v2]; rfl
theorem Pk14.below {w1 X : World} {g i : Nat} {y : PV} (h : Pk14 w1 g i y) (hb : Below w1.heap.size w1 X) : X.cell? ⟨g, i * 3, none⟩ = some (.string ⟨y.nm.toArray⟩) ∧ X.cell? ⟨g, i * 3 + 2, none⟩ = some (.slice y.fa y.xs.length y.fc) ∧ zcF X y.fa y.xs.length (y.xs.map (·.1)) :=
 ⟨(hb.cell (p := ⟨g, i * 3, none⟩) h.gl).trans h.c0, (hb.cell (p := ⟨g, i * 3 + 2, none⟩) h.gl).trans h.c2, h.fs.below hb⟩
def cutA (b : UInt8) (l : List UInt8) : List UInt8 := l.takeWhile (fun c => c != b)
def cutB (b : UInt8) (l : List UInt8) : List UInt8 := (l.dropWhile (fun c => c != b)).tail
theorem cut_one (b : UInt8) (x y : List UInt8) (h : ∀ c ∈ x, c ≠ b) : cutA b (x ++ b :: y) = x ∧ cutB b (x ++ b :: y) = y := by
 unfold cutA cutB
 induction x with
 | nil => simp
 | cons c r ih =>
  have hc : (c != b) = true := bne_iff_ne.2 (h c (by simp))
  have := ih (fun d hd => h d (by simp [hd]))
  rw [List.cons_append, List.takeWhile_cons, List.dropWhile_cons, if_pos hc, if_pos hc]
  exact ⟨by rw [this.1], this.2⟩
theorem cutA_len (b : UInt8) (l : List UInt8) : (cutA b l).length ≤ l.length := (List.takeWhile_sublist _).length_le
theorem cutB_len (b : UInt8) (l : List UInt8) : (cutB b l).length ≤ l.length := by
 have := (List.dropWhile_sublist (l := l) (fun c => c != b)).length_le
 unfold cutB
 rw [List.length_tail]
 omega
theorem cut_at (b : UInt8) (l : List UInt8) : (Lib.indexByte l b = -1 ∧ cutA b l = l ∧ cutB b l = []) ∨ ∃ k : Nat, Lib.indexByte l b = (k : Int) ∧ k < l.length ∧ cutA b l = l.take k ∧ cutB b l = l.drop (k + 1) := by
 induction l with
 | nil => exact Or.inl ⟨rfl, rfl, rfl⟩
 | cons c r ih =>
  by_cases hc : c = b
  ·
   subst hc
   refine Or.inr ⟨0, ?_, by simp, ?_, ?_⟩
   ·
    unfold Lib.indexByte; simp
   ·
    unfold cutA; simp
   ·
    unfold cutB; simp
  ·
   have hc2 : (c != b) = true := bne_iff_ne.2 hc
   have hc3 : (c == b) = false := beq_eq_false_iff_ne.2 hc
   have ea : cutA b (c :: r) = c :: cutA b r := by unfold cutA; rw [List.takeWhile_cons, if_pos hc2]
   have eb : cutB b (c :: r) = cutB b r := by unfold cutB; rw [List.dropWhile_cons, if_pos hc2]
   have ei : Lib.indexByte (c :: r) b = if Lib.indexByte r b == -1 then -1 else Lib.indexByte r b + 1 := by
    rw [Lib.indexByte, hc3]; rfl
   rw [ea, eb, ei]
   rcases ih with ⟨h1, h2, h3⟩ | ⟨k, h1, h2, h3, h4⟩
   ·
    exact Or.inl ⟨by rw [h1]; rfl, by rw [h2], h3⟩
   ·
    refine Or.inr ⟨k + 1, ?_, by simp; omega, by rw [h3]; rfl, by rw [h4]; rfl⟩
    rw [h1, if_neg (by rw [beq_iff_eq]; omega)]
    omega

theorem zg0 {rs : List Rt} (h : ∀ r ∈ rs, rtB r = true) : IntR rs ∧ zc0 rs := by
 have key : ∀ j, j < rs.length → rtB (rs.getD j rt0) = true := fun j hj => h _ (by rw [List.getD_eq_getElem?_getD, List.getElem?_eq_getElem hj]; exact List.getElem_mem hj)
 have e : ∀ j, ¬ j < rs.length → rs.getD j rt0 = rt0 := fun j hj => by rw [List.getD_eq_getElem?_getD, List.getElem?_eq_none (by omega)]; rfl
 have ci : ∀ {c : List In13}, zbP c = true → ∀ k, IntI (c.getD k in0) ∧ (c.getD k in0).2.2.2.2.length ≤ 1048576 := fun {c} hc k => by
  by_cases hk : k < c.length
  ·
   have hm : c.getD k in0 ∈ c := by rw [List.getD_eq_getElem?_getD, List.getElem?_eq_getElem hk]; exact List.getElem_mem hk
   have hp := zgC hc _ hm
   have hw := zcZ hp
   refine ⟨by unfold IntI; omega, ?_⟩
   have hl := zgm hp
   unfold insLn at hl
   simp only [List.length_append, List.length_singleton] at hl
   have hn : (c.getD k in0).2.2.2.2.length ≤ (nmL (c.getD k in0).2.2.2.2).length := by
    unfold nmL
    split
    ·
     rename_i hz; rw [hz]; simp
    ·
     exact Nat.le_refl _
   omega
  ·
   rw [List.getD_eq_getElem?_getD, List.getElem?_eq_none (by omega)]
   exact ⟨zfE, by simp [in0]⟩
 refine ⟨fun j => ?_, fun j => ?_⟩
 ·
  by_cases hj : j < rs.length
  ·
   obtain ⟨_, h2, h3, _⟩ := zc7 (key j hj)
   exact ⟨by omega, fun k => (ci h3 k).1⟩
  ·
   rw [e j hj]; exact ⟨by simp [rt0], zex⟩
 ·
  by_cases hj : j < rs.length
  ·
   obtain ⟨h1, _, h3, _⟩ := zc7 (key j hj)
   exact ⟨by have := (zdL h1).2; omega, by have := (zcP h3).2; omega, fun k => (ci h3 k).2⟩
  ·
   rw [e j hj]; exact ⟨by simp [rt0], by simp [rt0], fun k => by simp [rt0, in0]⟩
def zhv (rs : List Rt) : Prop := ∀ i j, i < j → j < rs.length → Op.bytesLess (rs.getD i rt0).1 (rs.getD j rt0).1 = true
theorem riseR_of {rs : List Rt} (h : ∀ i, i + 1 < rs.length → leT (rs.getD (i + 1) rt0).1 (rs.getD i rt0).1 = false) : zhv rs := by
 have hd : ∀ d i, i + d + 1 < rs.length → Op.bytesLess (rs.getD i rt0).1 (rs.getD (i + d + 1) rt0).1 = true := by
  intro d
  induction d with
  | zero => intro i hi; exact zhV.1 (h i hi)
  | succ d ih => intro i hi; exact zbZ (ih i (by omega)) (zhV.1 (h (i + d + 1) (by omega)))
 intro i j hij hj
 have hh := hd (j - i - 1) i (by omega)
 rw [show i + (j - i - 1) + 1 = j by omega] at hh
 exact hh
def rtsB (rs : List Rt) (most : Int) : Bool := decide ((1 ≤ (rs.length : Int) ∧ (rs.length : Int) ≤ most) ∧ (∀ i, i < rs.length → rtB (rs.getD i rt0) = true) ∧ ∀ i, i < rs.length - 1 → leT (rs.getD (i + 1) rt0).1 (rs.getD i rt0).1 = false)
theorem rtsB_few {rs : List Rt} {m : Int} (h : (rs.length : Int) < 1 ∨ m < (rs.length : Int)) : rtsB rs m = false := decide_eq_false (fun e => by have := e.1; omega)
structure RrSt (rs : List Rt) (k : Nat) (z : List UInt8) : Prop where
 oks : ∀ i, i < k → rtB (rs.getD i rt0) = true
 rise : ∀ i, i + 1 < k → leT (rs.getD (i + 1) rt0).1 (rs.getD i rt0).1 = false
 last : (k = 0 ∧ z = []) ∨ (0 < k ∧ z = (rs.getD (k - 1) rt0).1)
theorem RrSt.start (rs : List Rt) : RrSt rs 0 [] := ⟨fun i hi => by omega, fun i hi => by omega, Or.inl ⟨rfl, rfl⟩⟩
theorem RrSt.noOk {rs : List Rt} {k : Nat} {m : Int} (hk : k < rs.length) (hn : rtB (rs.getD k rt0) = false) : rtsB rs m = false := decide_eq_false (fun g => by rw [g.2.1 k hk] at hn; cases hn)
theorem leT_nilR {x : List UInt8} (h : zb3 x = true) : leT x [] = false := by
 have h1 := (zdL h).1
 cases x with
 | nil => simp at h1
 | cons c r => simp [leT, Op.bytesLess]
theorem RrSt.noRise {rs : List Rt} {k : Nat} {z : List UInt8} {m : Int} (h : RrSt rs k z) (hk : k < rs.length) (hn : rtB (rs.getD k rt0) = true) (hl : leT (rs.getD k rt0).1 z = true) : rtsB rs m = false := by
 rcases h.last with ⟨rfl, rfl⟩ | ⟨h0, rfl⟩
 ·
  rw [leT_nilR (zc7 hn).1] at hl; cases hl
 ·
  refine decide_eq_false (fun g => ?_)
  have := g.2.2 (k - 1) (by omega)
  rw [show k - 1 + 1 = k by omega, hl] at this
  cases this
theorem RrSt.step {rs : List Rt} {k : Nat} {z : List UInt8} (h : RrSt rs k z) (hn : rtB (rs.getD k rt0) = true) (hl : leT (rs.getD k rt0).1 z = false) : RrSt rs (k + 1) (rs.getD k rt0).1 := by
 refine ⟨fun i hi => ?_, fun i hi => ?_, Or.inr ⟨by omega, by rw [Nat.add_sub_cancel]⟩⟩
 ·
  rcases Nat.lt_or_ge i k with g | g
  ·
   exact h.oks i g
  ·
   obtain rfl : i = k := by omega
   exact hn
 ·
  rcases Nat.lt_or_ge (i + 1) k with g | g
  ·
   exact h.rise i g
  ·
   obtain rfl : k = i + 1 := by omega
   rcases h.last with ⟨e, _⟩ | ⟨_, rfl⟩
   ·
    omega
   ·
    rw [Nat.add_sub_cancel] at hl; exact hl
theorem RrSt.all {rs : List Rt} {z : List UInt8} {m : Int} (h : RrSt rs rs.length z) (hl : 1 ≤ (rs.length : Int) ∧ (rs.length : Int) ≤ m) : rtsB rs m = true := decide_eq_true ⟨hl, h.oks, fun i hi => h.rise i (by omega)⟩
theorem ziD (rs : List Rt) : zbM rs = (rtsB rs 64 && decide (∀ j, j < rs.length → (rs.getD j rt0).2.2.all (clsB rs) = true)) := by
 rw [Bool.eq_iff_iff]
 unfold zbM rtsB oneB
 simp only [Bool.and_eq_true, decide_eq_true_eq]
 constructor
 ·
  rintro ⟨h, h1, h2⟩
  refine ⟨⟨⟨by omega, by omega⟩, fun i hi => (h i hi).1, fun i hi => ?_⟩, fun j hj => (h j hj).2.2⟩
  have := (h (i + 1) (by omega)).2.1 (by omega)
  rw [Nat.add_sub_cancel] at this
  exact this
 ·
  rintro ⟨⟨h1, h2, h3⟩, h4⟩
  refine ⟨fun j hj => ⟨h2 j hj, fun h0 => ?_, h4 j hj⟩, by omega, by omega⟩
  have := h3 (j - 1) (by omega)
  rw [show j - 1 + 1 = j by omega] at this
  exact this
theorem zfi (s : List UInt8) : ∀ (rs : List Rt) (k j : Nat), j < rs.length → (rs.getD j rt0).1 = s → (∀ i, i < j → (rs.getD i rt0).1 ≠ s) → zbQ s rs k = ((k + j : Nat) : Int)
 | [], _, j, hj, _, _ => by simp at hj
 | r :: rs, k, 0, _, h, _ => by
  rw [zbQ, if_pos (by simpa using h)]; simp
 | r :: rs, k, j + 1, hj, h, hn => by
  have h0 := hn 0 (by omega)
  rw [zbQ, if_neg (by simpa using h0), zfi s rs (k + 1) j (by simpa using hj) (by simpa using h) (fun i hi => by have := hn (i + 1) (by omega); simpa using this)]
  omega
theorem at14_yes {rs : List Rt} (hr : zhv rs) {s : List UInt8} {j : Nat} (hj : j < rs.length) (h : (rs.getD j rt0).1 = s) : at14 rs s = (j : Int) := by
 unfold at14
 rw [zfi s rs 0 j hj h (fun i hi e => ?_), Nat.zero_add]
 have := hr i j hi hj
 rw [e, h, zc9] at this
 cases this
theorem zia {n : Int} {c : List In13} : c.all (argB n) = true ↔ ∀ k, k < c.length → argB n (c.getD k in0) = true := by
 rw [List.all_eq_true]
 constructor
 ·
  intro h k hk
  exact h _ (by rw [List.getD_eq_getElem?_getD, List.getElem?_eq_getElem hk]; exact List.getElem_mem hk)
 ·
  intro h x hx
  obtain ⟨k, hk, rfl⟩ := List.getElem_of_mem hx
  have := h k hk
  simpa [List.getD, hk] using this
theorem arg_noI {n : Int} {c : List In13} {k : Nat} (hk : k < c.length) (h : argB n (c.getD k in0) = false) : c.all (argB n) = false := by
 rcases hx : c.all (argB n) with _ | _
 ·
  rfl
 ·
  rw [zia.1 hx k hk] at h; cases h
abbrev Ob := List UInt8 × List (List UInt8) × List Rt
def ob0 : Ob := ([], [], [])
theorem zdU (b : UInt8) : ∀ (l cur : List UInt8), (zas b cur l).getD 0 [] = cur ++ l.takeWhile (fun c => c != b)
 | [], cur => by simp [zas]
 | c :: r, cur => by
  rw [zas]
  by_cases h : c = b
  ·
   rw [if_pos h, List.takeWhile_cons, if_neg (by simp [h])]
   simp
  ·
   rw [if_neg h, zdU b r (cur ++ [c]), List.takeWhile_cons, if_pos (bne_iff_ne.2 h)]
   simp
theorem zgQ (b : UInt8) (l : List UInt8) : (zaD b l).getD 0 [] = cutA b l := by
 unfold zaD cutA
 rw [zdU, List.nil_append]
def zbv (nm : List UInt8) (ims : List (List UInt8)) (i : In13) : Bool := decide (i.1 ≠ 9) || (decide (cutA 46 i.2.2.2.2 = nm) || decide (cutA 46 i.2.2.2.2 ∈ ims))
def zdJ (nm : List UInt8) (ims : List (List UInt8)) (rs : List Rt) (j : Nat) : Prop :=
 (rtB (rs.getD j rt0) = true ∧ (0 < j → leT (rs.getD j rt0).1 (rs.getD (j - 1) rt0).1 = false) ∧ cutA 46 (rs.getD j rt0).1 = nm) ∧ (rs.getD j rt0).2.2.all (zbv nm ims) = true
instance (nm : List UInt8) (ims : List (List UInt8)) (rs : List Rt) (j : Nat) : Decidable (zdJ nm ims rs j) := by unfold zdJ; infer_instance
def objB (o : Ob) : Bool := (zaz o.1 && (zaE o.2.1 && decide (1 ≤ o.2.2.length ∧ o.2.2.length ≤ 8))) && decide (∀ j, j < o.2.2.length → zdJ o.1 o.2.1 o.2.2 j)
theorem zhP {o : Ob} (h : zaz o.1 = false) : objB o = false := by unfold objB; rw [h]; rfl
theorem zhQ {o : Ob} (h : zaE o.2.1 = false) : objB o = false := by unfold objB; rw [h]; simp
theorem obj_len {o : Ob} (h : ¬ (1 ≤ o.2.2.length ∧ o.2.2.length ≤ 8)) : objB o = false := by unfold objB; rw [decide_eq_false h]; simp
theorem obj_no {o : Ob} {j : Nat} (hj : j < o.2.2.length) (h : ¬ zdJ o.1 o.2.1 o.2.2 j) : objB o = false := by
 have hn : ¬ (∀ j, j < o.2.2.length → zdJ o.1 o.2.1 o.2.2 j) := fun e => h (e j hj)
 unfold objB
 rw [decide_eq_false hn, Bool.and_false]
theorem zjv {o : Ob} (h1 : zaz o.1 = true) (h2 : zaE o.2.1 = true) (h3 : 1 ≤ o.2.2.length ∧ o.2.2.length ≤ 8) (h4 : ∀ j, j < o.2.2.length → zdJ o.1 o.2.1 o.2.2 j) : objB o = true := by
 unfold objB
 rw [h1, h2, decide_eq_true h3, decide_eq_true h4]; rfl
structure ObjP (o : Ob) : Prop where
 nm : zaz o.1 = true
 im : zaE o.2.1 = true
 l : 1 ≤ o.2.2.length ∧ o.2.2.length ≤ 8
 one : ∀ j, j < o.2.2.length → zdJ o.1 o.2.1 o.2.2 j
theorem zbD {o : Ob} (h : objB o = true) : ObjP o := by
 unfold objB at h
 simp only [Bool.and_eq_true, decide_eq_true_eq] at h
 exact ⟨h.1.1, h.1.2.1, h.1.2.2, h.2⟩
theorem zhT {nm : List UInt8} {ims : List (List UInt8)} {c : List In13} (h : ∀ j, j < c.length → zbv nm ims (c.getD j in0) = true) : c.all (zbv nm ims) = true := by
 rw [List.all_eq_true]
 intro i hi
 obtain ⟨j, hj, rfl⟩ := List.getElem_of_mem hi
 have := h j hj
 simpa only [List.getD, List.getElem?_eq_getElem hj, Option.getD_some] using this
theorem zjE {nm : List UInt8} {ims : List (List UInt8)} {c : List In13} {j : Nat} (hj : j < c.length) (h : zbv nm ims (c.getD j in0) = false) : c.all (zbv nm ims) = false := by
 rw [Bool.eq_false_iff]
 intro e
 have := List.all_eq_true.1 e c[j] (List.getElem_mem hj)
 simp only [List.getD, List.getElem?_eq_getElem hj, Option.getD_some] at h
 rw [h] at this
 cases this
def zeg (o : Ob) (j : Nat) : Prop := cutA 46 (o.2.2.getD j rt0).1 = o.1 ∧ (o.2.2.getD j rt0).2.2.all (zbv o.1 o.2.1) = true
theorem objI_rts {o : Ob} (h : rtsB o.2.2 8 = false) : objB o = false := by
 rcases e : objB o with _ | _
 ·
  rfl
 ·
  have p := zbD e
  have : rtsB o.2.2 8 = true := by
   unfold rtsB
   refine decide_eq_true ⟨by have := p.l; omega, fun i hi => (p.one i hi).1.1, fun i hi => ?_⟩
   have := (p.one (i + 1) (by omega)).1.2.1 (by omega)
   rw [Nat.add_sub_cancel] at this
   exact this
  rw [this] at h
  cases h
theorem objI_no {o : Ob} {j : Nat} (hj : j < o.2.2.length) (h : ¬ zeg o j) : objB o = false := obj_no hj (fun e => h ⟨e.1.2.2, e.2⟩)
theorem objI_yes {o : Ob} (h1 : zaz o.1 = true) (h2 : zaE o.2.1 = true) (h3 : rtsB o.2.2 8 = true) (h4 : ∀ j, j < o.2.2.length → zeg o j) : objB o = true := by
 obtain ⟨q1, q2, q3⟩ := of_decide_eq_true h3
 refine zjv h1 h2 (by omega) (fun j hj => ⟨⟨q2 j hj, fun h0 => ?_, (h4 j hj).1⟩, (h4 j hj).2⟩)
 have := q3 (j - 1) (by omega)
 rw [show j - 1 + 1 = j by omega] at this
 exact this
def rtF (nm : List UInt8) (f : Fn) : Rt := (nm ++ [46] ++ f.1, f.2.1, zaq f.2.2)
def putN (r : Rt) : List Rt → Nat
 | [] => 0
 | x :: xs => if Op.bytesLess x.1 r.1 = true then putN r xs + 1 else 0
def zdb (r : Rt) (rs : List Rt) : List Rt := rs.take (putN r rs) ++ r :: rs.drop (putN r rs)
def zao (rs : List Rt) : List Rt := rs.foldl (fun z r => zdb r z) []
theorem zjn (r : Rt) : ∀ rs : List Rt, putN r rs ≤ rs.length
 | [] => Nat.le_refl _
 | x :: xs => by
  unfold putN
  split
  ·
   have := zjn r xs; simp only [List.length_cons]; omega
  ·
   exact Nat.zero_le _
theorem zgX (r : Rt) : ∀ (rs : List Rt) (j : Nat), j < putN r rs → Op.bytesLess (rs.getD j rt0).1 r.1 = true
 | [], j, h => by simp [putN] at h
 | x :: xs, j, h => by
  unfold putN at h
  split at h
  ·
   rename_i hx
   cases j with
   | zero => exact hx
   | succ j => exact zgX r xs j (by omega)
  ·
   omega
theorem zfr (r : Rt) : ∀ rs : List Rt, putN r rs < rs.length → Op.bytesLess (rs.getD (putN r rs) rt0).1 r.1 = false
 | [], h => by simp at h
 | x :: xs, h => by
  unfold putN at h ⊢
  split
  ·
   rename_i hx
   rw [if_pos hx] at h
   exact zfr r xs (by simp only [List.length_cons] at h; omega)
  ·
   rename_i hx
   exact Bool.eq_false_iff.2 hx
theorem zjo {r : Rt} {rs : List Rt} {n : Nat} (hn : n ≤ rs.length) (h1 : ∀ j, j < n → Op.bytesLess (rs.getD j rt0).1 r.1 = true) (h2 : n < rs.length → Op.bytesLess (rs.getD n rt0).1 r.1 = false) : putN r rs = n := by
 rcases Nat.lt_trichotomy (putN r rs) n with h | h | h
 ·
  have := zfr r rs (by omega)
  rw [h1 _ h] at this
  cases this
 ·
  exact h
 ·
  have := zgX r rs n h
  rw [h2 (by have := zjn r rs; omega)] at this
  cases this
theorem zil (r : Rt) (rs : List Rt) : (zdb r rs).Perm (r :: rs) := by
 unfold zdb
 refine List.perm_middle.trans ?_
 rw [List.take_append_drop]
theorem ze1 : ∀ (rs z : List Rt), (rs.foldl (fun z r => zdb r z) z).Perm (z ++ rs)
 | [], z => by simp
 | r :: rs, z => by
  refine (ze1 rs (zdb r z)).trans ?_
  refine ((zil r z).append_right rs).trans ?_
  exact List.perm_middle.symm
theorem zb0 (rs : List Rt) : (zao rs).Perm rs := ze1 rs []
theorem zeV (rs : List Rt) : (zao rs).length = rs.length := (zb0 rs).length_eq
theorem zgV (rs : List Rt) (k : Nat) (hk : k < rs.length) : zao (rs.take (k + 1)) = zdb (rs.getD k rt0) (zao (rs.take k)) := by
 unfold zao
 rw [List.take_succ_eq_append_getElem hk, List.foldl_append, List.getD_eq_getElem?_getD, List.getElem?_eq_getElem hk]
 rfl
abbrev zdE (rs : List Rt) : Prop := rs.Pairwise fun a b => Op.bytesLess b.1 a.1 = false
theorem zh6 {x y : List UInt8} (h : Op.bytesLess x y = true) : Op.bytesLess y x = false := by
 rcases e : Op.bytesLess y x with _ | _
 ·
  rfl
 ·
  have := zbZ h e
  rw [zc9] at this
  cases this
theorem zdM {x y z : List UInt8} (h1 : Op.bytesLess y x = false) (h2 : Op.bytesLess z y = false) : Op.bytesLess z x = false := by
 rcases e : Op.bytesLess z x with _ | _
 ·
  rfl
 ·
  rcases e2 : Op.bytesLess x y with _ | _
  ·
   have hxy := zcN e2 h1
   rw [hxy, h2] at e
   cases e
  ·
   rw [zbZ e e2] at h2
   cases h2
theorem zik {r : Rt} {rs : List Rt} (h : zdE rs) : zdE (zdb r rs) := by
 have ht : zdE (rs.take (putN r rs)) := h.sublist (List.take_sublist _ _)
 have hd : zdE (rs.drop (putN r rs)) := h.sublist (List.drop_sublist _ _)
 have h12 : ∀ a ∈ rs.take (putN r rs), ∀ b ∈ rs.drop (putN r rs), Op.bytesLess b.1 a.1 = false := by
  have h' := h
  rw [← List.take_append_drop (putN r rs) rs] at h'
  exact (List.pairwise_append.1 h').2.2
 have hl : ∀ a ∈ rs.take (putN r rs), Op.bytesLess a.1 r.1 = true := fun a ha => by
  obtain ⟨j, hj, rfl⟩ := List.mem_iff_getElem.1 ha
  rw [List.length_take] at hj
  have := zgX r rs j (by omega)
  rw [List.getD_eq_getElem?_getD, List.getElem?_eq_getElem (by omega)] at this
  rw [List.getElem_take]
  exact this
 have hg : ∀ b ∈ rs.drop (putN r rs), Op.bytesLess b.1 r.1 = false := fun b hb => by
  obtain ⟨j, hj, rfl⟩ := List.mem_iff_getElem.1 hb
  rw [List.length_drop] at hj
  have he := zfr r rs (by omega)
  rw [List.getElem_drop]
  rw [List.getD_eq_getElem?_getD, List.getElem?_eq_getElem (by omega)] at he
  simp only [Option.getD_some] at he
  cases j with
  | zero => exact he
  | succ j =>
   have hp := List.pairwise_iff_getElem.1 h (putN r rs) (putN r rs + (j + 1)) (by omega) (by omega) (by omega)
   exact zdM he hp
 unfold zdb
 refine List.pairwise_append.2 ⟨ht, List.pairwise_cons.2 ⟨fun b hb => hg b hb, hd⟩, fun a ha b hb => ?_⟩
 rcases List.mem_cons.1 hb with rfl | hb
 ·
  exact zh6 (hl a ha)
 ·
  exact h12 a ha b hb
theorem zdZ : ∀ (rs z : List Rt), zdE z → zdE (rs.foldl (fun z r => zdb r z) z)
 | [], _, h => h
 | r :: rs, z, h => zdZ rs (zdb r z) (zik h)
theorem zcy (rs : List Rt) : zdE (zao rs) := zdZ rs [] List.Pairwise.nil
theorem zem {rs zs : List Rt} (hn : ∀ a ∈ rs, ∀ b ∈ rs, a.1 = b.1 → a = b) (hp : zs.Perm rs) (hs : zdE zs) : zs = zao rs := by
 refine List.Perm.eq_of_pairwise (le := fun a b : Rt => Op.bytesLess b.1 a.1 = false) (fun a b ha hb h1 h2 => ?_) hs (zcy rs) (hp.trans (zb0 rs).symm)
 exact hn a (hp.mem_iff.1 ha) b ((zb0 rs).mem_iff.1 hb) (zcN h2 h1)
def obOf (q : Pk) : Ob := (q.1, q.2.1, zao (q.2.2.map (rtF q.1)))
def zeP (q : Pk) : Ob := if objB (obOf q) = true then obOf q else ob0
structure Bq (Z : World) (k : Nat) (a b c : Value) : Prop where
 box : Box3 Z k a b c
 fr : ∀ j, Z.frozen? ⟨k, j, none⟩ = false
theorem Bq.new (w : World) (a b c : Value) (t : TypeId) : Bq (w.alloc (.cells #[a, b, c] t)) w.heap.size a b c ∧ Below w.heap.size w (w.alloc (.cells #[a, b, c] t)) := by
 obtain ⟨h1, h2⟩ := Box3.new w a b c t
 exact ⟨⟨h1, fun j => World.frozen?_alloc_at _ _ _ _ rfl⟩, h2⟩
theorem Bq.keep {Z Y : World} {k : Nat} {a b c : Value} (h : Bq Z k a b c) (e : Y.heap[k]? = Z.heap[k]?) : Bq Y k a b c := ⟨h.box.keep e, fun j => by have := h.fr j; simp only [World.frozen?] at this ⊢; rw [e]; exact this⟩
theorem Bq.below {Z Y : World} {k : Nat} {a b c : Value} (h : Bq Z k a b c) (hb : Below Z.heap.size Z Y) : Bq Y k a b c := h.keep (hb.block k h.box.lt)
theorem Bq.s2 {Z : World} {k : Nat} {a b c : Value} (h : Bq Z k a b c) (v : Value) : Bq (Z.setCell ⟨k, 2, none⟩ v) k a b v :=
 ⟨⟨(World.cell?_setCell_other _ _ _ _ (by simp)).trans h.box.c0, (World.cell?_setCell_other _ _ _ _ (by simp)).trans h.box.c1, World.cell?_setCell_same _ _ _ h.box.c2⟩, fun j => by simpa using h.fr j⟩
theorem one_no {ns : List Nd} (h : ns.length ≠ 1) : zaA ns = false := decide_eq_false (fun e => h e.1)
theorem one_eq (k v : Int) (p q : List UInt8) : zaA [((k, v, p, q) : Nd)] = (k == 1) := by
 unfold zaA
 by_cases h : k = 1
 ·
  simp [h]
 ·
  simp [h]
theorem num_eq (k v u : Int) (p q : List UInt8) : zar [((k, v, p, q) : Nd)] u = ((k == 1) && (v == u)) := by
 unfold zar
 rw [one_eq]
 by_cases h : v = u
 ·
  simp [h]
 ·
  simp [h]
set_option maxHeartbeats 1000000 in
set_option maxRecDepth 100000 in
theorem zbJ (a : Option Addr) (len cap : Nat) (ns : List Nd) (w : World) (hin : zag w a len ns) (hlen : len ≤ 1048576) :
 Calls Tryz.prog 105 #[.slice a len cap] w fun e w' => e = .returned (.bool (zaA ns)) ∧ w' = w := by
 obtain rfl : ns.length = len := hin.1
 by_cases hl : ns.length = 1
 ·
  obtain ⟨n, rfl⟩ := List.length_eq_one_iff.1 hl
  obtain ⟨b, off, rfl, _, c0, _⟩ := hin.2 0 (by simp)
  obtain ⟨k, v, p, q⟩ := n
  simp at c0
  rw [one_eq]
  clear hin hl hlen
  rcases hk : (k == 1) with _ | _
  ·
   go_enter Tryz.func105, Tryz.ntmps105
   go_wp2
   go_ret
   exact ⟨rfl, rfl⟩
  ·
   go_enter Tryz.func105, Tryz.ntmps105
   go_wp2
   go_ret
   exact ⟨rfl, rfl⟩
 ·
  rw [one_no hl]
  have hb : ((ns.length : Int) == 1) = false := beq_eq_false_iff_ne.2 (by omega)
  clear hin hl
  go_enter Tryz.func105, Tryz.ntmps105
  go_wp2
  go_ret
  exact ⟨rfl, rfl⟩
set_option maxHeartbeats 1000000 in
set_option maxRecDepth 100000 in
theorem zbK (a : Option Addr) (len cap : Nat) (ns : List Nd) (u : Int) (w : World) (hin : zag w a len ns) (hlen : len ≤ 1048576) :
 Calls Tryz.prog 107 #[.slice a len cap, .int .i64 u] w fun e w' => e = .returned (.bool (zar ns u)) ∧ w' = w := by
 obtain rfl : ns.length = len := hin.1
 by_cases hl : ns.length = 1
 ·
  obtain ⟨n, rfl⟩ := List.length_eq_one_iff.1 hl
  obtain ⟨b, off, rfl, _, c0, c1, _⟩ := hin.2 0 (by simp)
  obtain ⟨k, v, p, q⟩ := n
  simp at c0 c1
  rw [num_eq]
  clear hin hl hlen
  rcases hk : (k == 1) with _ | _
  ·
   go_enter Tryz.func107, Tryz.ntmps107
   go_wp2
   go_ret
   exact ⟨rfl, rfl⟩
  ·
   rcases hv : (v == u) with _ | _
   ·
    go_enter Tryz.func107, Tryz.ntmps107
    go_wp2
    go_ret
    exact ⟨rfl, rfl⟩
   ·
    go_enter Tryz.func107, Tryz.ntmps107
    go_wp2
    go_ret
    exact ⟨rfl, rfl⟩
 ·
  have hn : zar ns u = false := by unfold zar; rw [one_no hl]; rfl
  rw [hn]
  have hb : ((ns.length : Int) == 1) = false := beq_eq_false_iff_ne.2 (by omega)
  clear hin hl hn
  go_enter Tryz.func107, Tryz.ntmps107
  go_wp2
  go_ret
  exact ⟨rfl, rfl⟩

theorem one_is {t : List Nd} (h : zaA t = true) : ∃ v p f, t = [((1, v, p, f) : Nd)] := by
 obtain ⟨h1, h2⟩ := of_decide_eq_true h
 obtain ⟨n, rfl⟩ := List.length_eq_one_iff.1 h1
 obtain ⟨k, v, p, f⟩ := n
 simp at h2
 subst h2
 exact ⟨v, p, f, rfl⟩
theorem zcX (V : World) (a b c d : Value) (t : TypeId) : ((V.alloc (.cells #[a, b, c, d] t)).cell? ⟨V.heap.size, 0, none⟩ = some a ∧ (V.alloc (.cells #[a, b, c, d] t)).cell? ⟨V.heap.size, 1, none⟩ = some b ∧ (V.alloc (.cells #[a, b, c, d] t)).cell? ⟨V.heap.size, 2, none⟩ = some c ∧ (V.alloc (.cells #[a, b, c, d] t)).cell? ⟨V.heap.size, 3, none⟩ = some d) ∧ Below V.heap.size V (V.alloc (.cells #[a, b, c, d] t)) := by
 have hb : Below V.heap.size V (V.alloc (.cells #[a, b, c, d] t)) := (Below.refl _ _).alloc (Nat.le_refl _) _
 have hA := heap_alloc_new V (.cells #[a, b, c, d] t)
 generalize V.alloc (.cells #[a, b, c, d] t) = W at hb hA ⊢
 exact ⟨⟨by simp [World.cell?, hA], by simp [World.cell?, hA], by simp [World.cell?, hA], by simp [World.cell?, hA]⟩, hb⟩
variable {Z Y B : World} {W f d : Nat} {l : Value} {c m : Int} {a aa ta la : Option Addr} {lc : Nat} {xs : List Int} {ps : List Pk} {t : List Nd}
abbrev Wr (Z Y : World) (W : Nat) : Prop := zbr Z Y (fun k => k = W)
theorem wr_cell {Z Y : World} {W : Nat} (h : Wr Z Y W) {b o : Nat} (hb : b < Z.heap.size) (hn : b ≠ W) {v : Value} (hc : Z.cell? ⟨b, o, none⟩ = some v) : Y.cell? ⟨b, o, none⟩ = some v := by
 have e := h.block b hb hn
 rw [World.cell?_of_block (a := ⟨b, o, none⟩) e]
 exact hc
def As (Z : World) (W : Nat) (a : Option Addr) (xs : List Int) : Prop := ∀ j, j < xs.length → ∃ b off, a = some ⟨b, off, none⟩ ∧ b ≠ W ∧ b < Z.heap.size ∧ Z.cell? ⟨b, off + j, none⟩ = some (.int .i64 (xs.getD j 0))
theorem As.wr (h : As Z W a xs) (hw : Wr Z Y W) : As Y W a xs := fun j hj => by
 obtain ⟨b, off, e, hn, hl, hc⟩ := h j hj
 exact ⟨b, off, e, hn, Nat.lt_of_lt_of_le hl hw.size, wr_cell hw hl hn hc⟩
theorem As.below (h : As Z W a xs) (hb : Below Z.heap.size Z Y) : As Y W a xs := h.wr (zbr.of_below hb)
theorem zfj {Z : World} {B W : Nat} {v : Value} {xs : List Int} (h : Z.ownsRow B 2 1 v xs.length (zaI xs)) (hB : W < B) : ∃ a c, v = .slice a xs.length c ∧ As Z W a xs := by
 rcases zaH h with ⟨rfl, h0, _⟩ | ⟨g, c, rfl⟩
 ·
  exact ⟨none, 0, by rw [h0], fun j hj => by omega⟩
 ·
  refine ⟨_, c, rfl, fun j hj => ⟨g, 0, rfl, ?_, (h.lt g rfl).2, ?_⟩⟩
  ·
   have := (h.lt g rfl).1; omega
  ·
   have h1 := h.cellAt j (by omega)
   rw [Nat.zero_add, h1, zfC xs j hj]
   simp [List.getD, hj]

end Go.Proofs.YtenaaneckobdpaaGreat
