/-
  Parts of one proof, one behind the other: RtO, RtL, RtT, InsZ, RtIn, ImgK, Draw14, HasS, PackS, PackS2, PackS3, ProjS, ProjS2, ProjS3, ProjS4, ProjS5, ProjS6, RowW, PackS4, PackC, PackC2, PackS5.
-/
import Derived.Test.YtogobeegibngiaaGreatDoorP15
import Derived.Test.YtogobeegibngiaaGreatDoorP7
import Derived.SliceStrings
import Derived.Test.YtogobeegibngiaaGreatDoorP14
import Derived.Maps.AppendAt
import Derived.Test.YtogobeegibngiaaGreatDoorP3
import Derived.BigQuiet
import Derived.Deep.RegionHeld3
import Derived.Deep.Cut
import Derived.Test.YtogobeegibngiaaGreatDoorP5
import Derived.Laws.IdiomCopy

/-! Routines that a call has made: each with its code in a row of its own. -/
namespace Go.Proofs.YtogobeegibngiaaGreatDoor
open Go.RowKit

/-- A function, and where its tree lies. -/
abbrev RV := Rt × Option Addr × Nat
def rvT (x : RV) : Value := .slice x.2.1 x.1.2.2.length x.2.2
def rtsV : List RV → List Value
  | [] => []
  | x :: r => .string ⟨x.1.1.toArray⟩ :: .int .i64 x.1.2.1 :: rvT x :: rtsV r

def rv0 : RV := (rt0, none, 0)

theorem rtsV_len (xs : List RV) : (rtsV xs).length = xs.length * 3 := by
  induction xs with
  | nil => rfl
  | cons n r ih => simp only [rtsV, List.length_cons, ih]; omega

theorem rtsV_append (x y : List RV) : rtsV (x ++ y) = rtsV x ++ rtsV y := by
  induction x with
  | nil => rfl
  | cons n r ih => simp [rtsV, ih]

theorem rtsV_one (xs : List RV) : ∀ u ∈ rtsV xs, u.oneCell' = true := by
  induction xs with
  | nil => intro u hu; cases hu
  | cons n r ih =>
    intro u hu
    simp only [rtsV, List.mem_cons] at hu
    rcases hu with rfl | rfl | rfl | h
    · rfl
    · rfl
    · rfl
    · exact ih u h

theorem rtsV_at (xs : List RV) (j : Nat) (hj : j < xs.length) : (rtsV xs)[j * 3]? = some (.string ⟨(xs.getD j rv0).1.1.toArray⟩) ∧ (rtsV xs)[j * 3 + 1]? = some (.int .i64 (xs.getD j rv0).1.2.1) ∧ (rtsV xs)[j * 3 + 2]? = some (rvT (xs.getD j rv0)) := by
  induction xs generalizing j with
  | nil => simp at hj
  | cons n r ih =>
    cases j with
    | zero => simp [rtsV]
    | succ j =>
      obtain ⟨h0, h1, h2⟩ := ih j (by simpa using hj)
      refine ⟨?_, ?_, ?_⟩
      · rw [show (j + 1) * 3 = j * 3 + 1 + 1 + 1 by omega]; simpa [rtsV] using h0
      · rw [show (j + 1) * 3 + 1 = j * 3 + 1 + 1 + 1 + 1 by omega]; simpa [rtsV] using h1
      · rw [show (j + 1) * 3 + 2 = j * 3 + 2 + 1 + 1 + 1 by omega]; simpa [rtsV] using h2

structure RtsOwn (w : World) (base : Nat) (v : Value) (xs : List RV) : Prop where
  row : w.ownsRow base 50 3 v xs.length (rtsV xs)
  trees : ∀ x ∈ xs, w.ownsRow base 56 5 (rvT x) x.1.2.2.length (insV x.1.2.2)

theorem RtsOwn.below {w w' : World} {base : Nat} {v : Value} {xs : List RV} (h : RtsOwn w base v xs) (hb : Below w.heap.size w w') : RtsOwn w' base v xs := ⟨own_below h.row hb, fun x hx => own_below (h.trees x hx) hb⟩

theorem RtsOwn.kept {w w' : World} {base : Nat} {v : Value} {xs : List RV} {row : Option Nat} (h : RtsOwn w base v xs) (hg : w.grownBy w' row) (h1 : v.ownBlock = none ∨ v.ownBlock ≠ row) (h2 : ∀ x ∈ xs, (rvT x).ownBlock = none ∨ (rvT x).ownBlock ≠ row) : RtsOwn w' base v xs :=
  ⟨h.row.kept hg h1, fun x hx => (h.trees x hx).kept hg (h2 x hx)⟩

theorem RtsOwn.base {w : World} {base b2 : Nat} {v : Value} {xs : List RV} (h : RtsOwn w base v xs) (hb : b2 ≤ base) : RtsOwn w b2 v xs := ⟨own_base h.row hb, fun x hx => own_base (h.trees x hx) hb⟩

theorem RtsOwn.nil (w : World) (base : Nat) : RtsOwn w base (.slice none 0 0) [] := ⟨World.ownsRow_nil w _ _ _, fun x hx => by cases hx⟩

theorem getD_map_rt (xs : List RV) (j : Nat) : (xs.map (·.1)).getD j rt0 = (xs.getD j rv0).1 := by
  rw [List.getD_eq_getElem?_getD, List.getD_eq_getElem?_getD, List.getElem?_map]
  cases xs[j]? <;> rfl

/-- What is owned can be read. -/
theorem RtsOwn.in {w : World} {base : Nat} {v : Value} {xs : List RV} (h : RtsOwn w base v xs) : ∃ a cap, v = .slice a xs.length cap ∧ (a = none → cap = 0) ∧ RtsIn w a xs.length (xs.map (·.1)) := by
  rcases own_forms h.row with ⟨rfl, h0, _⟩ | ⟨g, cp, rfl⟩
  · exact ⟨none, 0, by rw [h0], fun _ => rfl, by simp, fun j hj => by omega⟩
  · refine ⟨some ⟨g, 0, none⟩, cp, rfl, fun e => (by cases e), by simp, fun j hj => ?_⟩
    obtain ⟨v0, v1, v2⟩ := rtsV_at xs j hj
    have hc := fun k (hk : k < xs.length * 3) => World.ownsRow.cellAt h.row k hk
    have hmem : xs.getD j rv0 ∈ xs := by rw [List.getD_eq_getElem?_getD, List.getElem?_eq_getElem hj]; exact List.getElem_mem hj
    obtain ⟨hl, a, cap, e, hn⟩ := own_ins (h.trees _ hmem)
    refine ⟨g, 0, rfl, (h.row.lt g rfl).2, ?_, ?_, (xs.getD j rv0).2.1, (xs.getD j rv0).1.2.2.length, (xs.getD j rv0).2.2, ?_, ?_⟩
    · rw [Nat.zero_add, hc _ (by omega), v0, getD_map_rt]
    · rw [Nat.zero_add, hc _ (by omega), v1, getD_map_rt]
    · rw [Nat.zero_add, hc _ (by omega), v2]; rfl
    · rw [getD_map_rt]
      unfold rvT at e
      injection e with e1 e2 e3
      rw [e1]; exact hn

theorem infoRt : (Tryz.prog.info? 50).map (fun i => (i.zero, i.size, i.bytes)) = some (some (.agg #[.string ⟨#[]⟩, .int .i64 0, .slice none 0 0]), 3, 48) := by kernel_rfl

/-- A new block of one function, as 'append' reads it. -/
theorem new_rt (w : World) (x : RV) (c : Nat) : Src (w.alloc (.cells #[.string ⟨x.1.1.toArray⟩, .int .i64 x.1.2.1, rvT x] 50)) (.slice (some ⟨w.heap.size, 0, none⟩) 1 c) 1 3 (rtsV [x]) := by
  refine ⟨rfl, rtsV_one _, Or.inr ⟨_, c, rfl, fun j u hu => ?_⟩⟩
  rw [add_plainR, Nat.zero_add]
  match j, hu with
  | 0, hu => simp [rtsV] at hu; subst hu; simp
  | 1, hu => simp [rtsV] at hu; subst hu; simp
  | 2, hu => simp [rtsV] at hu; subst hu; simp
  | j + 3, hu => simp [rtsV] at hu

end Go.Proofs.YtogobeegibngiaaGreatDoor

/-! The laws' own helpers over routines: szRoutine, szRoutineS. -/
namespace Go.Proofs.YtogobeegibngiaaGreatDoor
open Go.RowKit

end Go.Proofs.YtogobeegibngiaaGreatDoor

/-! The laws' own helpers over routines: toRoutine, toRoutineS. -/
namespace Go.Proofs.YtogobeegibngiaaGreatDoor
open Go.RowKit


end Go.Proofs.YtogobeegibngiaaGreatDoor

/-! A row of instructions that came in. -/
namespace Go.Proofs.YtogobeegibngiaaGreatDoor
open Go.ChangeShapes Go.WideShapes Go.ChangeAt Go.RowKit Go.Joins Go.Deep


end Go.Proofs.YtogobeegibngiaaGreatDoor

/-! An image that came in, as the walks take it. -/
namespace Go.Proofs.YtogobeegibngiaaGreatDoor
open Go.ChangeShapes Go.WideShapes Go.ChangeAt Go.RowKit Go.Joins Go.Deep

def IntR (rs : List Rt) : Prop := ∀ j, (-9223372036854775808 ≤ (rs.getD j rt0).2.1 ∧ (rs.getD j rt0).2.1 ≤ 9223372036854775807) ∧ IntIs (rs.getD j rt0).2.2
theorem intIs_nil : IntIs [] := fun j => by rw [show ([] : List In13).getD j in0 = in0 by simp]; exact intI_in0
section
variable {H : Type} {enc : TypeId × Value → H} {W : World} {base : Nat} {spare : Nat → Bool} {held : Bool} {fuel : Nat} {v : Value} {x : DataW H × List MemPlace}
end

end Go.Proofs.YtogobeegibngiaaGreatDoor

/-! What the landed functions of chapter 14 are told of an image. -/
namespace Go.Proofs.YtogobeegibngiaaGreatDoor
open Go.RowKit

/-- The routines rs lie at a, and so does the room of each row. -/
def RtsCap (w : World) (a : Option Addr) (len cap : Nat) (rs : List Rt) : Prop :=
  rs.length = len ∧ len ≤ cap ∧ cap ≤ maxLen ∧ ∀ j, j < len → ∃ b off, a = some ⟨b, off, none⟩ ∧ b < w.heap.size ∧ w.cell? ⟨b, off + j * 3, none⟩ = some (.string ⟨(rs.getD j rt0).1.toArray⟩) ∧ w.cell? ⟨b, off + j * 3 + 1, none⟩ = some (.int .i64 (rs.getD j rt0).2.1) ∧
    ∃ ca cl cc, w.cell? ⟨b, off + j * 3 + 2, none⟩ = some (.slice ca cl cc) ∧ InsIn w ca cl (rs.getD j rt0).2.2 ∧ cl ≤ cc ∧ cc ≤ maxLen
theorem RtsCap.in {w : World} {a : Option Addr} {len cap : Nat} {rs : List Rt} (h : RtsCap w a len cap rs) : RtsIn w a len rs := by
  refine ⟨h.1, fun j hj => ?_⟩
  obtain ⟨b, off, e, hl, c0, c1, ca, cl, cc, c2, hn, _, _⟩ := h.2.2.2 j hj
  exact ⟨b, off, e, hl, c0, c1, ca, cl, cc, c2, hn⟩
theorem RtsCap.below {w w' : World} {a : Option Addr} {len cap : Nat} {rs : List Rt} (h : RtsCap w a len cap rs) (hb : Below w.heap.size w w') : RtsCap w' a len cap rs := by
  refine ⟨h.1, h.2.1, h.2.2.1, fun j hj => ?_⟩
  obtain ⟨b, off, e, hlt, c0, c1, ca, cl, cc, c2, hn, h1, h2⟩ := h.2.2.2 j hj
  exact ⟨b, off, e, Nat.lt_of_lt_of_le hlt hb.size, (hb.cell (p := ⟨b, off + j * 3, none⟩) hlt).trans c0, (hb.cell (p := ⟨b, off + j * 3 + 1, none⟩) hlt).trans c1, ca, cl, cc, (hb.cell (p := ⟨b, off + j * 3 + 2, none⟩) hlt).trans c2, hn.below hb, h1, h2⟩
structure RtOk (w : World) (a : Option Addr) (len cap : Nat) (rs : List Rt) : Prop where
  c : RtsCap w a len cap rs
  i : IntR rs
  s : ShortR rs
  l : len ≤ 1048576
theorem RtOk.below {w w' : World} {a : Option Addr} {len cap : Nat} {rs : List Rt} (h : RtOk w a len cap rs) (hb : Below w.heap.size w w') : RtOk w' a len cap rs := ⟨h.c.below hb, h.i, h.s, h.l⟩
theorem own_capR {w : World} {base e size n c : Nat} {a : Option Addr} {xs : List Value} (h : w.ownsRow base e size (.slice a n c) n xs) : n ≤ c ∧ c ≤ maxLen := by
  rcases h.2 with ⟨h', _⟩ | ⟨g', cap', cur, h', _, _, hnc, hcm, _⟩
  · injection h' with _ h1 h2
    subst h1 h2
    exact ⟨Nat.le_refl _, Nat.zero_le _⟩
  · injection h' with _ _ h2
    omega
/-- What is owned lies so. -/
theorem RtsOwn.cap {w : World} {base n c : Nat} {a : Option Addr} {xs : List RV} {rs : List Rt} (h : RtsOwn w base (.slice a n c) xs) (hx : xs.map (·.1) = rs) (hn : rs.length = n) : RtsCap w a n c rs := by
  have hxl : xs.length = n := by rw [← hn, ← hx, List.length_map]
  obtain ⟨a', c', e, _, hin⟩ := h.in
  rw [hx, hxl] at hin
  rw [hxl] at e
  injection e with e1 _ e3
  subst e1 e3
  have hrow := h.row
  rw [hxl] at hrow
  have hc := own_capR hrow
  refine ⟨hin.1, hc.1, hc.2, fun j hj => ?_⟩
  obtain ⟨b, off, e, hlt, c0, c1, ca, cl, cc, c2, hn2⟩ := hin.2 j hj
  refine ⟨b, off, e, hlt, c0, c1, ca, cl, cc, c2, hn2, ?_⟩
  subst e
  obtain ⟨g, cp, e2⟩ := own_some hrow (by omega)
  injection e2 with e3 _ _
  injection e3 with e3
  injection e3 with e4 e5 _
  subst e4 e5
  have hmem : xs.getD j rv0 ∈ xs := by rw [List.getD_eq_getElem?_getD, List.getElem?_eq_getElem (by omega)]; exact List.getElem_mem (by omega)
  have ht := h.trees _ hmem
  obtain ⟨_, _, v2⟩ := rtsV_at xs j (by omega)
  have h2 := hrow.cellAt (j * 3 + 2) (by omega)
  rw [v2] at h2
  rw [Nat.zero_add] at c2
  rw [c2] at h2
  injection h2 with h2
  unfold rvT at h2 ht
  injection h2 with h3 h4 h5
  subst h3 h4 h5
  exact own_capR ht

end Go.Proofs.YtogobeegibngiaaGreatDoor

/-! Images are drawn: rows of routines put together. -/
namespace Go.Proofs.YtogobeegibngiaaGreatDoor
open Go.RowKit

def SmRt (r : Rt) : Prop := r.1.length ≤ 100 ∧ (-10 ≤ r.2.1 ∧ r.2.1 ≤ 10) ∧ r.2.2.length ≤ 300 ∧ AllI r.2.2
def SmR (xs : List RV) : Prop := ∀ x ∈ xs, SmRt x.1

theorem rtsV_take (xs : List RV) (k : Nat) : rtsV (xs.take k) = (rtsV xs).take (k * 3) := by
  induction xs generalizing k with
  | nil => simp [rtsV]
  | cons x r ih =>
    cases k with
    | zero => simp [rtsV]
    | succ k =>
      rw [List.take_succ_cons, rtsV, rtsV, ih k, show (k + 1) * 3 = k * 3 + 1 + 1 + 1 by omega]
      simp
theorem rtsV_drop (xs : List RV) (k : Nat) : rtsV (xs.drop k) = (rtsV xs).drop (k * 3) := by
  induction xs generalizing k with
  | nil => simp [rtsV]
  | cons x r ih =>
    cases k with
    | zero => simp
    | succ k =>
      rw [List.drop_succ_cons, ih k, rtsV, show (k + 1) * 3 = k * 3 + 1 + 1 + 1 by omega]
      simp
def SrcR (X : World) (ad : Addr) (zs : List RV) : Prop := ∀ (j : Nat) (u : Value), (rtsV zs)[j]? = some u → X.cell? (ad.add j) = some u
section
variable {X Y : World} {Bs g c : Nat} {xs zs : List RV}
theorem app14 (hv : RtsOwn X Bs (.slice (some ⟨g, 0, none⟩) xs.length c) xs) {ad : Addr} {cz : Nat} (hs : SrcR X ad zs) (ht : ∀ z ∈ zs, X.ownsRow Bs 56 5 (rvT z) z.1.2.2.length (insV z.1.2.2)) (hB : Bs ≤ X.heap.size) (hn : xs.length + zs.length ≤ 4000) :
    ∃ g' c' Y, (Builtin.append_ #[24, 24] 24 #[.slice (some ⟨g, 0, none⟩) xs.length c, .slice (some ad) zs.length cz]).run Tryz.prog X = .ok (.slice (some ⟨g', 0, none⟩) (xs.length + zs.length) c') Y ∧ RtsOwn Y Bs (.slice (some ⟨g', 0, none⟩) (xs ++ zs).length c') (xs ++ zs) ∧ X.grownBy Y (some g) ∧ (g' = g ∨ g' = X.heap.size) := by
  obtain ⟨i0, hi, hz0, hz1, hz2⟩ := info_parts infoRt
  obtain ⟨v', Y, hrun, hown, hg, hnn, hat⟩ := run_append_own_at (P := Tryz.prog) X Bs 24 24 50 i0 _ 3 48 Tryz.underlying24 hi hz0 hz1 hz2 rfl (by decide) _ _ _ hv.row ad zs.length cz (rtsV zs) (by rw [rtsV_len]) hs (rtsV_one _) (by unfold maxLen; omega) (by omega) hB
  have hl : xs.length + zs.length = (xs ++ zs).length := by simp
  rw [← rtsV_append] at hown
  obtain ⟨g', c', rfl⟩ : ∃ g' c', v' = .slice (some ⟨g', 0, none⟩) (xs.length + zs.length) c' := by
    rcases own_forms hown with ⟨e, _, _⟩ | ⟨g', cp, e⟩
    · have := (hnn.1 e).1; injection this with this; cases this
    · exact ⟨g', cp, e⟩
  refine ⟨g', c', Y, hrun, ⟨by rw [← hl]; exact hown, fun x hx => ?_⟩, hg, ?_⟩
  · have hx2 : X.ownsRow Bs 56 5 (rvT x) x.1.2.2.length (insV x.1.2.2) := by
      rcases List.mem_append.1 hx with e | e
      · exact hv.trees x e
      · exact ht x e
    exact hx2.kept hg (own_typesR hx2 hv.row (by decide))
  · rcases hat with e | e
    · exact Or.inl (by simpa [Value.ownBlock] using e)
    · exact Or.inr (by simpa [Value.ownBlock] using e)
theorem empty14 (X : World) (hB : Bs ≤ X.heap.size) : RtsOwn (X.alloc (.cells #[] 50)) Bs (.slice (some ⟨X.heap.size, 0, none⟩) ([] : List RV).length 0) [] :=
  ⟨World.ownsRow_lit X #[] 0 hB (by decide) rfl, fun x hx => by cases hx⟩
theorem add14 (b o j : Nat) : (⟨b, o, none⟩ : Addr).add j = ⟨b, o + j, none⟩ := by unfold Addr.add; split <;> simp_all
theorem take14 (h : RtsOwn X Bs (.slice (some ⟨g, 0, none⟩) xs.length c) xs) {k : Nat} (hk : k ≤ xs.length) : SrcR X ⟨g, 0, none⟩ (xs.take k) := by
  have hl : (xs.take k).length = k := by rw [List.length_take]; omega
  intro j u hu
  have hj : j < k * 3 := by have := (List.getElem?_eq_some_iff.1 hu).1; rw [rtsV_len, hl] at this; exact this
  rw [add14, Nat.zero_add, World.ownsRow.cellAt h.row j (by omega)]
  rw [rtsV_take, List.getElem?_take, if_pos hj] at hu
  exact hu
theorem all14 (h : RtsOwn X Bs (.slice (some ⟨g, 0, none⟩) xs.length c) xs) : SrcR X ⟨g, 0, none⟩ xs := by
  have := take14 h (Nat.le_refl _)
  rwa [List.take_of_length_le (Nat.le_refl _)] at this
theorem drop14 (h : RtsOwn X Bs (.slice (some ⟨g, 0, none⟩) xs.length c) xs) {k : Nat} (hk : k ≤ xs.length) : SrcR X (if c = k then ⟨g, 0, none⟩ else ⟨g, k * 3, none⟩) (xs.drop k) := by
  have hcap := (own_capR h.row).1
  have hl : (xs.drop k).length = xs.length - k := List.length_drop
  intro j u hu
  have hj : j < (xs.length - k) * 3 := by have := (List.getElem?_eq_some_iff.1 hu).1; rw [rtsV_len, hl] at this; exact this
  rw [if_neg (by omega), add14, World.ownsRow.cellAt h.row (k * 3 + j) (by omega)]
  rw [rtsV_drop, List.getElem?_drop] at hu
  exact hu
theorem RtsOwn.cells (h : RtsOwn X Bs (.slice (some ⟨g, 0, none⟩) xs.length c) xs) {k : Nat} (hk : k < xs.length) : X.cell? ⟨g, k * 3, none⟩ = some (.string ⟨(xs.getD k rv0).1.1.toArray⟩) ∧ X.cell? ⟨g, k * 3 + 1, none⟩ = some (.int .i64 (xs.getD k rv0).1.2.1) ∧ X.cell? ⟨g, k * 3 + 2, none⟩ = some (rvT (xs.getD k rv0)) := by
  obtain ⟨v0, v1, v2⟩ := rtsV_at xs k hk
  refine ⟨?_, ?_, ?_⟩
  · rw [World.ownsRow.cellAt h.row (k * 3) (by omega), v0]
  · rw [World.ownsRow.cellAt h.row (k * 3 + 1) (by omega), v1]
  · rw [World.ownsRow.cellAt h.row (k * 3 + 2) (by omega), v2]
end

/-- The routines so far. -/
structure Im14 (w1 X : World) (g c : Nat) (xs : List RV) : Prop where
  fo : RtsOwn X w1.heap.size (.slice (some ⟨g, 0, none⟩) xs.length c) xs
  sm : SmR xs
  b : Below w1.heap.size w1 X
/-- The routine that is put in: its block R. -/
structure Ir2 (w1 X : World) (g c R : Nat) (xs : List RV) (y : RV) : Prop where
  o : Im14 w1 X g c xs
  r0 : X.cell? ⟨R, 0, none⟩ = some (.string ⟨y.1.1.toArray⟩)
  r1 : X.cell? ⟨R, 1, none⟩ = some (.int .i64 y.1.2.1)
  r2 : X.cell? ⟨R, 2, none⟩ = some (rvT y)
  yo : X.ownsRow w1.heap.size 56 5 (rvT y) y.1.2.2.length (insV y.1.2.2)
  ys : SmRt y.1
  rl : R < X.heap.size
section
variable {w1 X Y : World} {g c R : Nat} {xs : List RV} {y : RV}
theorem Im14.below (h : Im14 w1 X g c xs) (hb : Below X.heap.size X Y) : Im14 w1 Y g c xs := ⟨h.fo.below hb, h.sm, h.b.trans (hb.mono h.b.size)⟩
theorem Im14.drew (h : Im14 w1 X g c xs) : Im14 w1 X.drew g c xs := h.below ⟨rfl, rfl, rfl, Nat.le_refl _, fun _ _ => rfl⟩
theorem Ir2.below (h : Ir2 w1 X g c R xs y) (hb : Below X.heap.size X Y) : Ir2 w1 Y g c R xs y :=
  ⟨h.o.below hb, (hb.cell (p := ⟨R, 0, none⟩) h.rl).trans h.r0, (hb.cell (p := ⟨R, 1, none⟩) h.rl).trans h.r1, (hb.cell (p := ⟨R, 2, none⟩) h.rl).trans h.r2, own_below h.yo hb, h.ys, Nat.lt_of_lt_of_le h.rl hb.size⟩
theorem Ir2.drew (h : Ir2 w1 X g c R xs y) : Ir2 w1 X.drew g c R xs y := h.below ⟨rfl, rfl, rfl, Nat.le_refl _, fun _ _ => rfl⟩
/-- What stands behind the place, copied. -/
theorem Ir2.rest (h : Ir2 w1 X g c R xs y) {k : Nat} (hk : k ≤ xs.length) (hn : xs.length ≤ 100) :
    ∃ g1 c1 Y1, (Builtin.append_ #[24, 24] 24 #[.slice (some ⟨X.heap.size, 0, none⟩) 0 0, .slice (some (if c = k then ⟨g, 0, none⟩ else ⟨g, k * 3, none⟩)) (xs.length - k) (c - k)]).run Tryz.prog (X.alloc (.cells #[] 50)) = .ok (.slice (some ⟨g1, 0, none⟩) (xs.length - k) c1) Y1 ∧
      Ir2 w1 Y1 g c R xs y ∧ RtsOwn Y1 w1.heap.size (.slice (some ⟨g1, 0, none⟩) (xs.drop k).length c1) (xs.drop k) := by
  have hb : Below X.heap.size X (X.alloc (.cells #[] 50)) := (Below.refl _ _).alloc (Nat.le_refl _) _
  have h1 := h.below hb
  have hl : (xs.drop k).length = xs.length - k := List.length_drop
  obtain ⟨g1, c1, Y1, hrun, ho, hg, _⟩ := app14 (cz := c - k) (empty14 X h.o.b.size) (drop14 h1.o.fo hk) (fun z hz => h1.o.fo.trees z (List.mem_of_mem_drop hz)) h1.o.b.size (by simp; omega)
  rw [List.nil_append] at ho
  simp only [hl, List.length_nil, Nat.zero_add] at hrun
  exact ⟨g1, c1, Y1, hrun, h.below (hb.grown hg (Nat.le_of_lt (by simp)) (fun q e => by injection e with e; omega)), ho⟩
/-- The routine as a row of its own. -/
theorem one14 (X : World) (y : RV) (hB : w1.heap.size ≤ X.heap.size) (hy : X.ownsRow w1.heap.size 56 5 (rvT y) y.1.2.2.length (insV y.1.2.2)) : RtsOwn (X.alloc (.cells #[.string ⟨y.1.1.toArray⟩, .int .i64 y.1.2.1, rvT y] 50)) w1.heap.size (.slice (some ⟨X.heap.size, 0, none⟩) [y].length 1) [y] :=
  ⟨World.ownsRow_lit X #[.string ⟨y.1.1.toArray⟩, .int .i64 y.1.2.1, rvT y] 1 hB (by decide) rfl, fun x hx => by
    rw [List.mem_singleton] at hx
    subst hx
    exact own_below hy ((Below.refl _ _).alloc (Nat.le_refl _) _)⟩
/-- The three rows put together. -/
theorem Ir2.join (h : Ir2 w1 X g c R xs y) {k gh ch : Nat} (hh : RtsOwn X w1.heap.size (.slice (some ⟨gh, 0, none⟩) (xs.take k).length ch) (xs.take k)) {go_ co : Nat} (ho : RtsOwn X w1.heap.size (.slice (some ⟨go_, 0, none⟩) [y].length co) [y]) (hn : xs.length ≤ 100) :
    ∃ g' c' Y, (Builtin.append_ #[24, 24] 24 #[.slice (some ⟨gh, 0, none⟩) (xs.take k).length ch, .slice (some ⟨go_, 0, none⟩) 1 co]).run Tryz.prog X = .ok (.slice (some ⟨g', 0, none⟩) ((xs.take k).length + 1) c') Y ∧
      RtsOwn Y w1.heap.size (.slice (some ⟨g', 0, none⟩) (xs.take k ++ [y]).length c') (xs.take k ++ [y]) ∧ X.grownBy Y (some gh) ∧ (g' = gh ∨ g' = X.heap.size) := by
  have hl : (xs.take k).length ≤ 100 := by rw [List.length_take]; omega
  have hs : SrcR X ⟨go_, 0, none⟩ [y] := all14 ho
  have hz : (xs.take k).length + [y].length ≤ 4000 := by rw [List.length_singleton]; omega
  obtain ⟨g', c', Y, h1, h2, h3, h4⟩ := app14 (cz := co) hh hs (fun z hz => ho.trees z hz) h.o.b.size hz
  exact ⟨g', c', Y, h1, h2, h3, h4⟩
end

end Go.Proofs.YtogobeegibngiaaGreatDoor

/-! The contract of the specification's l1Has. -/
namespace Go.Proofs.YtogobeegibngiaaGreatDoor
open Go.RowKit

end Go.Proofs.YtogobeegibngiaaGreatDoor

/-! The contracts of chapter 7's specification: l1Rise, l7Imports, l7Func. -/
namespace Go.Proofs.YtogobeegibngiaaGreatDoor
open Go.RowKit



end Go.Proofs.YtogobeegibngiaaGreatDoor

/-! The contracts of chapter 7's specification: l7At, PackageOk. -/
namespace Go.Proofs.YtogobeegibngiaaGreatDoor
open Go.RowKit

/-- The functions fs lie at a, three cells each, their trees where those say. -/
def FuncsIn (w : World) (a : Option Addr) (len : Nat) (fs : List Fn) : Prop :=
  fs.length = len ∧ ∀ j, j < len → ∃ b off, a = some ⟨b, off, none⟩ ∧ b < w.heap.size ∧ w.cell? ⟨b, off + j * 3, none⟩ = some (.string ⟨(fs.getD j fn0).1.toArray⟩) ∧ w.cell? ⟨b, off + j * 3 + 1, none⟩ = some (.int .i64 (fs.getD j fn0).2.1) ∧
    ∃ ta tl tc, w.cell? ⟨b, off + j * 3 + 2, none⟩ = some (.slice ta tl tc) ∧ (ta = none → tc = 0) ∧ NodesIn w ta tl (fs.getD j fn0).2.2

theorem FuncsIn.below {w w' : World} {a : Option Addr} {len : Nat} {fs : List Fn} (h : FuncsIn w a len fs) (hb : Below w.heap.size w w') : FuncsIn w' a len fs := by
  refine ⟨h.1, fun j hj => ?_⟩
  obtain ⟨b, off, e, hlt, c0, c1, ta, tl, tc, c2, hnc, hn⟩ := h.2 j hj
  exact ⟨b, off, e, Nat.lt_of_lt_of_le hlt hb.size, (hb.cell (p := ⟨b, off + j * 3, none⟩) hlt).trans c0, (hb.cell (p := ⟨b, off + j * 3 + 1, none⟩) hlt).trans c1, ta, tl, tc, (hb.cell (p := ⟨b, off + j * 3 + 2, none⟩) hlt).trans c2, hnc, hn.below hb⟩

end Go.Proofs.YtogobeegibngiaaGreatDoor

/-! The contract of chapter 7's specification: PackageOk. -/
namespace Go.Proofs.YtogobeegibngiaaGreatDoor
open Go.RowKit

end Go.Proofs.YtogobeegibngiaaGreatDoor

/-! The contracts of chapter 8's specification: l1Has, l8At. -/
namespace Go.Proofs.YtogobeegibngiaaGreatDoor
open Go.RowKit

end Go.Proofs.YtogobeegibngiaaGreatDoor

/-! The contracts of chapter 8's specification: ProjectOk, l8Order. -/
namespace Go.Proofs.YtogobeegibngiaaGreatDoor
open Go.RowKit


end Go.Proofs.YtogobeegibngiaaGreatDoor

/-! The contracts of chapter 8's specification: l8Order. -/
namespace Go.Proofs.YtogobeegibngiaaGreatDoor
open Go.RowKit

def lenOf (v : Value) : Nat := match v with | .slice _ n _ => n | _ => 0
theorem new_str8 (w : World) (x : List UInt8) (c : Nat) : Src (w.alloc (.cells #[.string ⟨x.toArray⟩] 9)) (.slice (some ⟨w.heap.size, 0, none⟩) 1 c) 1 1 (strV [x]) := by
  refine ⟨rfl, fun u hu => ?_, Or.inr ⟨_, c, rfl, fun j u hu => ?_⟩⟩
  · simp [strV] at hu; subst hu; rfl
  · exact cell_one_new w _ 9 j u hu
theorem push_text {X : World} {B : Nat} {v : Value} {n : Nat} {ls : List (List UInt8)} (x : List UInt8) (hv : X.ownsRow B 9 1 v n (strV ls)) (hb : B ≤ X.heap.size) (hn : n ≤ 1048576) :
    ∃ v' Y, (Builtin.append_ #[35, 35] 35 #[v, .slice (some ⟨X.heap.size, 0, none⟩) 1 1]).run Tryz.prog (X.alloc (.cells #[.string ⟨x.toArray⟩] 9)) = .ok v' Y ∧ Y.ownsRow B 9 1 v' (n + 1) (strV (ls ++ [x])) ∧ X.grownBy Y v.ownBlock := by
  obtain ⟨i0, hi, hz0, hz1, hz2⟩ := info_parts info9
  obtain ⟨v', Y, hrun, hown, hg, _⟩ := run_append_src (P := Tryz.prog) (X.alloc (.cells #[.string ⟨x.toArray⟩] 9)) B 35 35 9 i0 _ 1 16 Tryz.underlying35 hi hz0 hz1 hz2 rfl (by decide) _ _ _ (hv.alloc _) _ 1 (strV [x]) (new_str8 X x 1) (by unfold maxLen; omega) (by omega) (by simp; omega)
  exact ⟨v', Y, hrun, by rw [← strV_snoc]; exact hown, (World.grownBy_alloc X _ _).trans hg⟩


end Go.Proofs.YtogobeegibngiaaGreatDoor

/-! The contracts of chapter 8's specification: l1Put. -/
namespace Go.Proofs.YtogobeegibngiaaGreatDoor
open Go.RowKit

end Go.Proofs.YtogobeegibngiaaGreatDoor

/-! The contracts of chapter 8's specification: l8Reaches. -/
namespace Go.Proofs.YtogobeegibngiaaGreatDoor
open Go.RowKit

end Go.Proofs.YtogobeegibngiaaGreatDoor

/-! The contracts of chapter 8's specification: l8Needs, Order, Reaches, Needs. -/
namespace Go.Proofs.YtogobeegibngiaaGreatDoor
open Go.RowKit

end Go.Proofs.YtogobeegibngiaaGreatDoor

/-! A row of bytes that a call has made of a string ('[]byte(s)'), and 'append(b, s...)' onto it, whether there is room or not. -/
namespace Go.Proofs.YtogobeegibngiaaGreatDoor
open Go.RowKit

/-- Block g, new since 'base', holds the bytes l from its head on; all of its cap cells may be written. -/
structure RowW (w : World) (base g cap : Nat) (l : List UInt8) : Prop where
  row : RowB w base g cap l
  all : ∀ j, j < cap → (w.cell? ⟨g, j, none⟩).isSome = true ∧ w.frozen? ⟨g, j, none⟩ = false

theorem RowW.kept {w w' : World} {base g cap : Nat} {l : List UInt8} {row : Option Nat} (h : RowW w base g cap l) (hg : w.grownBy w' row) (hne : some g ≠ row) : RowW w' base g cap l := by
  have hb := hg.block g h.row.there hne
  exact ⟨h.row.kept hg hne, fun j hj => by rw [World.cell?_of_block (a := ⟨g, j, none⟩) hb, World.frozen?_of_block (a := ⟨g, j, none⟩) hb]; exact h.all j hj⟩

theorem RowW.below {w w' : World} {base g cap : Nat} {l : List UInt8} (h : RowW w base g cap l) (hb : Below w.heap.size w w') : RowW w' base g cap l :=
  h.kept (row := none) ⟨hb.os, hb.tape, hb.output, hb.size, fun k hk _ => hb.block k hk⟩ (by simp)

theorem RowW.drew {w : World} {base g cap : Nat} {l : List UInt8} (h : RowW w base g cap l) : RowW w.drew base g cap l :=
  h.below ⟨rfl, rfl, rfl, Nat.le_refl _, fun _ _ => rfl⟩

theorem heap_setCells (b : Nat) : ∀ (vs : List Value) (o : Nat) (w : World), (w.setCells b o vs).heap.size = w.heap.size ∧ ∀ k, k ≠ b → (w.setCells b o vs).heap[k]? = w.heap[k]?
  | [], _, _ => ⟨rfl, fun _ _ => rfl⟩
  | v :: r, o, w => by
    obtain ⟨h1, h2⟩ := heap_setCells b r (o + 1) (w.setCell ⟨b, o, none⟩ v)
    refine ⟨by rw [World.setCells, h1]; simp, fun k hk => ?_⟩
    rw [World.setCells, h2 k hk]
    exact Below.heap_setCell w _ v k (fun e => hk e)

theorem grown_setCells (b : Nat) : ∀ (vs : List Value) (o : Nat) (w : World), w.grownBy (w.setCells b o vs) (some b)
  | [], _, w => World.grownBy.refl w _
  | v :: r, o, w => by
    rw [World.setCells]
    exact (grown_set w b o v).trans (grown_setCells b r (o + 1) _)

theorem strV_bytes (s : List UInt8) : Lib.strCells ⟨s.toArray⟩ = bytesV s := strCells_list s

theorem RowW.append_at {w : World} {base g cap : Nat} {l : List UInt8} (h : RowW w base g cap l) (s : List UInt8) (hlen : l.length + s.length ≤ 4194304) (hbase : base ≤ w.heap.size) (ty : TypeId) :
    ∃ g' cap' w', (Builtin.append_ #[22, 9] ty #[.slice (some ⟨g, 0, none⟩) l.length cap, .string ⟨s.toArray⟩]).run Tryz.prog w = .ok (.slice (some ⟨g', 0, none⟩) (l ++ s).length cap') w' ∧ RowW w' base g' cap' (l ++ s) ∧ w.grownBy w' (some g) ∧ (g' = g ∨ g' = w.heap.size) := by
  obtain ⟨i0, hi, hz0, hz1, hz2⟩ := info_parts info5
  have hss : (⟨s.toArray⟩ : ByteArray).size = s.length := List.size_toArray
  have hll : (l ++ s).length = l.length + s.length := List.length_append
  by_cases hroom : l.length + s.length ≤ cap
  · have hf := Lib.run_firstCells_string (P := Tryz.prog) w 1 ⟨s.toArray⟩
    have hc : ∀ j, j < (bytesV s).length → (w.cell? ⟨g, l.length + j, none⟩).isSome = true := fun j hj => (h.all _ (by rw [bytesV_len] at hj; omega)).1
    have hfz : ∀ j, j < (bytesV s).length → w.frozen? ⟨g, l.length + j, none⟩ = false := fun j hj => (h.all _ (by rw [bytesV_len] at hj; omega)).2
    have hst := run_storeCells_cells (P := Tryz.prog) g l.length (bytesV s) 0 w (by simpa using hc) (by simpa using hfz) (bytesV_one s)
    rw [hss, strV_bytes] at hf
    refine ⟨g, cap, w.setCells g l.length (bytesV s), ?_, ?_, grown_setCells g _ _ w, Or.inl rfl⟩
    · rw [hll]
      simp [Builtin.append_, run_underlying Tryz.underlying22, run_underlying Tryz.underlying9, sizeOf, typeInfo, hi, hz1, Builtin.lenOf, hss, hroom, hf, Addr.add_lit, hst]
    · have hsz := heap_setCells g (bytesV s) l.length w
      refine ⟨⟨h.row.new, by rw [hsz.1]; exact h.row.there, by rw [hll]; exact hroom, h.row.most, ?_, ?_⟩, ?_⟩
      · intro j hj
        rw [hll] at hj
        by_cases hjl : j < l.length
        · rw [World.cell?_setCells_out g (bytesV s) l.length w _ (fun i _ => by simp; omega), h.row.cells j hjl, List.getElem_append_left hjl]
        · have hj2 : j - l.length < (bytesV s).length := by rw [bytesV_len]; omega
          have := World.cell?_setCells_in g (bytesV s) l.length w hc (j - l.length) hj2
          rw [show l.length + (j - l.length) = j by omega] at this
          rw [this, List.getElem_append_right (by omega)]
          simp [bytesV]
      · intro j hj
        rw [World.frozen?_setCells]
        exact (h.all j (by omega)).2
      · intro j hj
        rw [World.frozen?_setCells]
        refine ⟨?_, (h.all j hj).2⟩
        by_cases hin : l.length ≤ j ∧ j < l.length + s.length
        · have hj2 : j - l.length < (bytesV s).length := by rw [bytesV_len]; omega
          have := World.cell?_setCells_in g (bytesV s) l.length w hc (j - l.length) hj2
          rw [show l.length + (j - l.length) = j by omega] at this
          rw [this]; rfl
        · rw [World.cell?_setCells_out g (bytesV s) l.length w _ (fun _ _ => by rw [bytesV_len]; simp; omega)]
          exact (h.all j hj).1
  · have holds : ∀ j u, (bytesV l)[j]? = some u → w.cell? ((⟨g, 0, none⟩ : Addr).add j) = some u := by
      intro j u hu
      obtain ⟨hj, rfl⟩ := bytesV_at _ _ _ hu
      rw [show (⟨g, 0, none⟩ : Addr).add j = ⟨g, j, none⟩ by unfold Addr.add; split <;> simp_all]
      exact h.row.cells j hj
    have hr := Lib.run_append_grow_string (P := Tryz.prog) w 22 9 ty 5 i0 (.int .u8 0) Tryz.underlying22 Tryz.underlying9 hi hz0 ⟨g, 0, none⟩ l.length cap (bytesV l) (by rw [bytesV_len, hz1]; omega) holds ⟨s.toArray⟩ (by rw [hss]; omega) (by rw [hss]; omega) (by rw [hss, hz2, Nat.mul_one]; exact (by have := growslice_fits (need := l.length + s.length) (old := cap) (bytes := 1) (by omega) (by omega); simpa using this))
    rw [hss, strV_bytes] at hr
    have hge := grownCap_ge w (l.length + s.length) cap 5
    have hcm := grownCap_le_maxLen w (l.length + s.length) cap 5 (by unfold maxLen; omega)
    generalize grownCap w (l.length + s.length) cap 5 = c at hr hge hcm
    obtain ⟨C, hC⟩ : ∃ C, (bytesV l).toArray ++ (bytesV s).toArray ++ Builtin.zeroCells (Value.int .u8 0).cells (c - (l.length + s.length)) = C := ⟨_, rfl⟩
    rw [hC] at hr
    have hCs : C.size = c := by
      have hz1' : (Value.int IntKind.u8 0).cells.size = 1 := rfl
      rw [← hC]; simp only [Array.size_append, List.size_toArray, size_zeroCells, hz1', bytesV_len]; omega
    have hown : (w.drew.alloc (.cells C 5)).ownsRow base 5 1 (.slice (some ⟨w.heap.size, 0, none⟩) (l ++ s).length c) (l ++ s).length (bytesV (l ++ s)) := by
      refine ⟨by rw [bytesV_len]; omega, Or.inr ⟨w.heap.size, c, C, rfl, hbase, heap_alloc_new w.drew _, by rw [hll]; exact hge, hcm, by omega, ?_⟩⟩
      rw [← hC]
      simp only [Array.toList_append, List.append_assoc]
      rw [← List.append_assoc, bytesV_append, Nat.mul_one, ← bytesV_len (l ++ s)]
      exact List.take_left
    have hB : RowB (w.drew.alloc (.cells C 5)) base w.heap.size c (l ++ s) := by
      obtain ⟨g2, c2, e2, hrow⟩ := RowB.of_own hown (by simp)
      injection e2 with e3 _ e4
      injection e3 with e3
      injection e3 with e3
      subst e3; subst e4
      exact hrow
    refine ⟨w.heap.size, c, _, by rw [hll]; exact hr, ⟨hB, fun j hj => ?_⟩, ?_, Or.inr rfl⟩
    · have hA : (w.drew.alloc (.cells C 5)).heap[w.heap.size]? = some (.cells C 5) := heap_alloc_new w.drew _
      generalize w.drew.alloc (.cells C 5) = W at hA ⊢
      refine ⟨?_, by simp [World.frozen?, hA]⟩
      simp [World.cell?, hA]
      omega
    · exact ⟨rfl, rfl, rfl, by simp, fun k hk _ => Below.heap_alloc w.drew _ k hk⟩

theorem RowW.append {w : World} {base g cap : Nat} {l : List UInt8} (h : RowW w base g cap l) (s : List UInt8) (hlen : l.length + s.length ≤ 4194304) (hbase : base ≤ w.heap.size) (ty : TypeId) :
    ∃ g' cap' w', (Builtin.append_ #[22, 9] ty #[.slice (some ⟨g, 0, none⟩) l.length cap, .string ⟨s.toArray⟩]).run Tryz.prog w = .ok (.slice (some ⟨g', 0, none⟩) (l ++ s).length cap') w' ∧ RowW w' base g' cap' (l ++ s) ∧ w.grownBy w' (some g) := by
  obtain ⟨g', cap', w', h1, h2, h3, _⟩ := h.append_at s hlen hbase ty
  exact ⟨g', cap', w', h1, h2, h3⟩

/-- '[]byte(s)': the new block, its value and its world. -/
theorem RowW.made (w : World) (l : List UInt8) (hl : l.length ≤ 4194304) :
    ∃ cap w', (convert 9 22 (.string ⟨l.toArray⟩)).run Tryz.prog w = .ok (.slice (some ⟨w.heap.size, 0, none⟩) l.length cap) w' ∧ RowW w' w.heap.size w.heap.size cap l ∧ Below w.heap.size w w' := by
  have hconv := run_bytes_of_string (P := Tryz.prog) w 9 22 5 ⟨l.toArray⟩ Tryz.underlying9 Tryz.underlying22 Tryz.underlying5
  have hrow := RowB.made w l (by unfold maxLen; omega)
  have hszs : (⟨l.toArray⟩ : ByteArray).size = l.length := rfl
  rw [hszs] at hconv
  have hge := grownCap_ge w l.length 0 5
  have hCs : (bytesRow ⟨l.toArray⟩ (grownCap w l.length 0 5)).size = grownCap w l.length 0 5 := by simp [bytesRow]; omega
  generalize bytesRow ⟨l.toArray⟩ (grownCap w l.length 0 5) = C at hconv hrow hCs
  generalize grownCap w l.length 0 5 = cp at hconv hrow hge hCs
  refine ⟨cp, _, hconv, ⟨hrow, fun j hj => ?_⟩, ((Below.refl _ w).drew).alloc (Nat.le_refl _) _⟩
  have hA : (w.drew.alloc (.cells C 5 (C.size, C.size + 1))).heap[w.heap.size]? = some (.cells C 5 (C.size, C.size + 1)) := heap_alloc_new w.drew _
  generalize w.drew.alloc (.cells C 5 (C.size, C.size + 1)) = W at hA ⊢
  refine ⟨?_, ?_⟩
  · simp [World.cell?, hA]; omega
  · simp [World.frozen?, hA]; omega

/-- 'append(b, s...)' at a step of a region that draws. -/
theorem step_append_str {P : Program} {w w' : World} {ops : Array Oper} {o : Oper} {a : Act} {K : Act → World → Prop} {Q : Exit → Act → World → Prop} {E : Prop} (hgd : o.guard = none) (s x : Operand) (t u : TypeId)
    (ho : o.op = .call { callee := .builtin .append, args := #[s, x], argTypes := #[t, u] }) (v y v' : Value) (hs : a.eval s = v) (hx : a.eval x = y)
    (hrun : (Builtin.append_ #[t, u] o.type #[v, y]).run P w = .ok v' w') (h : K (a.put o.dst v') w') :
    if Region.wanted o (yielded ops a.tmps) = true then Oper.wp P o a w K Q else E := by
  have hw : Region.wanted o (yielded ops a.tmps) = true := by simp [Region.wanted, hgd]
  rw [if_pos hw]
  unfold Oper.wp
  simp [execOp, ho, resolve, invoke, builtin, hs, hx, hrun, Result.andThen]
  exact h

end Go.Proofs.YtogobeegibngiaaGreatDoor

/-! The contracts of chapter 7's specification: l7Show, ShowPackage. -/
namespace Go.Proofs.YtogobeegibngiaaGreatDoor
open Go.RowKit

end Go.Proofs.YtogobeegibngiaaGreatDoor

/-! Texts and trees are copied: l1Texts; rows as 'append' reads them. -/
namespace Go.Proofs.YtogobeegibngiaaGreatDoor
open Go.RowKit


theorem TextsIn.src {w : World} {a : Option Addr} {len cap : Nat} {ts : List (List UInt8)} (h : TextsIn w a len ts) (hc : a = none → cap = 0) : Src w (.slice a len cap) len 1 (strV ts) := by
  have hl : (strV ts).length = len := by simp [strV, h.1]
  refine ⟨by rw [hl]; omega, fun u hu => ?_, ?_⟩
  · simp only [strV, List.mem_map] at hu
    obtain ⟨x, _, rfl⟩ := hu
    rfl
  rcases a with _ | ad
  · have h0 : len = 0 := by
      rcases Nat.eq_zero_or_pos len with h' | h'
      · exact h'
      · obtain ⟨b, off, e, _⟩ := h.2 0 h'
        cases e
    exact Or.inl ⟨by rw [h0, hc rfl], h0⟩
  · refine Or.inr ⟨ad, cap, rfl, fun j u hu => ?_⟩
    have hj : j < (strV ts).length := by
      rcases Nat.lt_or_ge j (strV ts).length with h' | h'
      · exact h'
      · rw [List.getElem?_eq_none h'] at hu; cases hu
    rw [hl] at hj
    obtain ⟨b, off, e, _, c0⟩ := h.2 j hj
    injection e with e
    subst e
    rw [add_plain, c0]
    rw [strV_at ts j (by rw [h.1]; exact hj)] at hu
    rw [← hu, List.getD_eq_getElem?_getD, List.getElem?_eq_getElem (by rw [h.1]; exact hj)]
    rfl

theorem NodesIn.src {w : World} {a : Option Addr} {len cap : Nat} {ns : List Nd} (h : NodesIn w a len ns) (hc : a = none → cap = 0) : Src w (.slice a len cap) len 4 (nodesV ns) := by
  refine ⟨by rw [nodesV_len, h.1], nodesV_one ns, ?_⟩
  rcases a with _ | ad
  · have h0 : len = 0 := by
      rcases Nat.eq_zero_or_pos len with h' | h'
      · exact h'
      · obtain ⟨b, off, e, _⟩ := h.2 0 h'
        cases e
    exact Or.inl ⟨by rw [h0, hc rfl], h0⟩
  · refine Or.inr ⟨ad, cap, rfl, fun j u hu => ?_⟩
    have hj : j < (nodesV ns).length := by
      rcases Nat.lt_or_ge j (nodesV ns).length with h' | h'
      · exact h'
      · rw [List.getElem?_eq_none h'] at hu; cases hu
    rw [nodesV_len, h.1] at hj
    obtain ⟨b, off, e, _, c0, c1, c2, c3⟩ := h.2 (j / 4) (by omega)
    injection e with e
    subst e
    obtain ⟨v0, v1, v2, v3⟩ := nodesV_at ns (j / 4) (by rw [h.1]; omega)
    rw [add_plain]
    rcases (show j % 4 = 0 ∨ j % 4 = 1 ∨ j % 4 = 2 ∨ j % 4 = 3 by omega) with h' | h' | h' | h'
    · rw [show j / 4 * 4 = j by omega] at v0 c0
      rw [hu] at v0
      rw [c0, v0]
    · rw [show j / 4 * 4 + 1 = j by omega] at v1
      rw [hu] at v1
      rw [show off + j = off + j / 4 * 4 + 1 by omega, c1, v1]
    · rw [show j / 4 * 4 + 2 = j by omega] at v2
      rw [hu] at v2
      rw [show off + j = off + j / 4 * 4 + 2 by omega, c2, v2]
    · rw [show j / 4 * 4 + 3 = j by omega] at v3
      rw [hu] at v3
      rw [show off + j = off + j / 4 * 4 + 3 by omega, c3, v3]


end Go.Proofs.YtogobeegibngiaaGreatDoor

/-! A function is copied: l7CopyFunc. -/
namespace Go.Proofs.YtogobeegibngiaaGreatDoor
open Go.RowKit


end Go.Proofs.YtogobeegibngiaaGreatDoor

/-! The contract of chapter 7's specification: FuncOf. -/
namespace Go.Proofs.YtogobeegibngiaaGreatDoor
open Go.RowKit

/-- Three cells of a block are written. -/
theorem set3 {X : World} {R : Nat} {a0 a1 a2 : Value} (u0 u1 u2 : Value) (r0 : X.cell? ⟨R, 0, none⟩ = some a0) (r1 : X.cell? ⟨R, 1, none⟩ = some a1) (r2 : X.cell? ⟨R, 2, none⟩ = some a2) :
    ∃ Y, ((X.setCell ⟨R, 0, none⟩ u0).setCell ⟨R, 1, none⟩ u1).setCell ⟨R, 2, none⟩ u2 = Y ∧ Y.cell? ⟨R, 0, none⟩ = some u0 ∧ Y.cell? ⟨R, 1, none⟩ = some u1 ∧ Y.cell? ⟨R, 2, none⟩ = some u2 ∧ X.grownBy Y (some R) := by
  refine ⟨_, rfl, ?_, ?_, ?_, ?_⟩
  · exact (World.cell?_setCell_other _ _ _ _ (by simp)).trans ((World.cell?_setCell_other _ _ _ _ (by simp)).trans (World.cell?_setCell_same _ _ _ r0))
  · exact (World.cell?_setCell_other _ _ _ _ (by simp)).trans (World.cell?_setCell_same _ _ _ ((World.cell?_setCell_other _ _ _ _ (by simp)).trans r1))
  · exact World.cell?_setCell_same _ _ _ ((World.cell?_setCell_other _ _ _ _ (by simp)).trans ((World.cell?_setCell_other _ _ _ _ (by simp)).trans r2))
  · exact ((grown_setCell _ _ _ _).trans (grown_setCell _ _ _ _)).trans (grown_setCell _ _ _ _)

end Go.Proofs.YtogobeegibngiaaGreatDoor
