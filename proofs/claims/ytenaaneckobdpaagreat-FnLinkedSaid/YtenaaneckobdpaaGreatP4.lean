/-
  Parts of one proof, one behind the other: PackS2, PackS3, Math7S, Math7R, RowW, PackS4, PackC, PackC2, PackS5, PackO, PackW, Marks, Marks2, Marks3, TextsL, FnL, PackK, Draw7, Draw7A.
-/
import Derived.Test.YtenaaneckobdpaaGreatP3
import Derived.Deep.RegionHeld3
import Derived.Deep.Cut
import Derived.Test.YtenaaneckobdpaaGreatP2
import Derived.Laws.IdiomCopy
import Derived.Test.YtenaaneckobdpaaGreatP1
import Derived.Deep.RegionWith
import Derived.SliceStrings
import Derived.ProofKit
import Derived.OpenShut
import Derived.ShutString
import Derived.ChangeOld
import Derived.Below
import Derived.Deep.RegionLaw
import Derived.Lib.SmallJoins
namespace Go.Proofs.YtenaaneckobdpaaGreat
open Go.RowKit
def zcF (w : World) (a : Option Addr) (len : Nat) (fs : List Fn) : Prop :=
 fs.length = len ∧ ∀ j, j < len → ∃ b off, a = some ⟨b, off, none⟩ ∧ b < w.heap.size ∧ w.cell? ⟨b, off + j * 3, none⟩ = some (.string ⟨(fs.getD j fn0).1.toArray⟩) ∧ w.cell? ⟨b, off + j * 3 + 1, none⟩ = some (.int .i64 (fs.getD j fn0).2.1) ∧
  ∃ ta tl tc, w.cell? ⟨b, off + j * 3 + 2, none⟩ = some (.slice ta tl tc) ∧ (ta = none → tc = 0) ∧ zag w ta tl (fs.getD j fn0).2.2
theorem zcF.below {w w' : World} {a : Option Addr} {len : Nat} {fs : List Fn} (h : zcF w a len fs) (hb : Below w.heap.size w w') : zcF w' a len fs := by
 refine ⟨h.1, fun j hj => ?_⟩
 obtain ⟨b, off, e, hlt, c0, c1, ta, tl, tc, c2, hnc, hn⟩ := h.2 j hj
 exact ⟨b, off, e, Nat.lt_of_lt_of_le hlt hb.size, (hb.cell (p := ⟨b, off + j * 3, none⟩) hlt).trans c0, (hb.cell (p := ⟨b, off + j * 3 + 1, none⟩) hlt).trans c1, ta, tl, tc, (hb.cell (p := ⟨b, off + j * 3 + 2, none⟩) hlt).trans c2, hnc, hn.below hb⟩
def zkp (fs : List Fn) : Prop := ∀ j, (fs.getD j fn0).1.length ≤ 1048576 ∧ (fs.getD j fn0).2.2.length ≤ 1048576 ∧ zaX (fs.getD j fn0).2.2


def pk0 : Pk := ([], [], [])


theorem zah.src {w : World} {a : Option Addr} {len cap : Nat} {ts : List (List UInt8)} (h : zah w a len ts) (hc : a = none → cap = 0) : Src w (.slice a len cap) len 1 (strV ts) := by
 have hl : (strV ts).length = len := by simp [strV, h.1]
 refine ⟨by rw [hl]; omega, fun u hu => ?_, ?_⟩
 ·
  simp only [strV, List.mem_map] at hu
  obtain ⟨x, _, rfl⟩ := hu
  rfl
 rcases a with _ | ad
 ·
  have h0 : len = 0 := by
   rcases Nat.eq_zero_or_pos len with h' | h'
   ·
    exact h'
   ·
    obtain ⟨b, off, e, _⟩ := h.2 0 h'
    cases e
  exact Or.inl ⟨by rw [h0, hc rfl], h0⟩
 ·
  refine Or.inr ⟨ad, cap, rfl, fun j u hu => ?_⟩
  have hj : j < (strV ts).length := by
   rcases Nat.lt_or_ge j (strV ts).length with h' | h'
   ·
    exact h'
   ·
    rw [List.getElem?_eq_none h'] at hu; cases hu
  rw [hl] at hj
  obtain ⟨b, off, e, _, c0⟩ := h.2 j hj
  injection e with e
  subst e
  rw [zcc, c0]
  rw [ziS ts j (by rw [h.1]; exact hj)] at hu
  rw [← hu, List.getD_eq_getElem?_getD, List.getElem?_eq_getElem (by rw [h.1]; exact hj)]
  rfl
theorem zag.src {w : World} {a : Option Addr} {len cap : Nat} {ns : List Nd} (h : zag w a len ns) (hc : a = none → cap = 0) : Src w (.slice a len cap) len 4 (za5 ns) := by
 refine ⟨by rw [zc5, h.1], zc4 ns, ?_⟩
 rcases a with _ | ad
 ·
  have h0 : len = 0 := by
   rcases Nat.eq_zero_or_pos len with h' | h'
   ·
    exact h'
   ·
    obtain ⟨b, off, e, _⟩ := h.2 0 h'
    cases e
  exact Or.inl ⟨by rw [h0, hc rfl], h0⟩
 ·
  refine Or.inr ⟨ad, cap, rfl, fun j u hu => ?_⟩
  have hj : j < (za5 ns).length := by
   rcases Nat.lt_or_ge j (za5 ns).length with h' | h'
   ·
    exact h'
   ·
    rw [List.getElem?_eq_none h'] at hu; cases hu
  rw [zc5, h.1] at hj
  obtain ⟨b, off, e, _, c0, c1, c2, c3⟩ := h.2 (j / 4) (by omega)
  injection e with e
  subst e
  obtain ⟨v0, v1, v2, v3⟩ := zg8 ns (j / 4) (by rw [h.1]; omega)
  rw [zcc]
  rcases (show j % 4 = 0 ∨ j % 4 = 1 ∨ j % 4 = 2 ∨ j % 4 = 3 by omega) with h' | h' | h' | h'
  ·
   rw [show j / 4 * 4 = j by omega] at v0 c0
   rw [hu] at v0
   rw [c0, v0]
  ·
   rw [show j / 4 * 4 + 1 = j by omega] at v1
   rw [hu] at v1
   rw [show off + j = off + j / 4 * 4 + 1 by omega, c1, v1]
  ·
   rw [show j / 4 * 4 + 2 = j by omega] at v2
   rw [hu] at v2
   rw [show off + j = off + j / 4 * 4 + 2 by omega, c2, v2]
  ·
   rw [show j / 4 * 4 + 3 = j by omega] at v3
   rw [hu] at v3
   rw [show off + j = off + j / 4 * 4 + 3 by omega, c3, v3]
set_option maxHeartbeats 1000000 in
set_option maxRecDepth 100000 in
theorem ziV (a : Option Addr) (len cap : Nat) (ts : List (List UInt8)) (w : World) (hin : zah w a len ts) (hc : a = none → cap = 0) (hlen : len ≤ 1048576) :
 Calls Tryz.prog 70 #[.slice a len cap] w fun e w' => ∃ v, e = .returned v ∧ w'.ownsRow w.heap.size 9 1 v ts.length (strV ts) ∧ Below w.heap.size w w' := by
 obtain rfl : ts.length = len := hin.1
 obtain ⟨i0, hi, hz0, hz1, hz2⟩ := info_parts zjS
 have hbA : Below w.heap.size w (w.alloc (.cells #[] 9)) := (Below.refl _ _).alloc (Nat.le_refl _) _
 have hown0 := (World.ownsRow_lit (base := w.heap.size) (e := 9) (size := 1) w #[] 0 (Nat.le_refl _) (by decide) rfl)
 obtain ⟨v', w', hrun, hown', hg, _⟩ := zal (P := Tryz.prog) (w.alloc (.cells #[] 9)) w.heap.size 31 31 9 i0 _ 1 16 Tryz.underlying31 hi hz0 hz1 hz2 rfl (by decide) _ _ _ hown0 (.slice a ts.length cap) ts.length (strV ts) ((hin.below hbA).src hc) (by unfold maxLen; omega) (by omega) (by simp)
 have hb : Below w.heap.size w w' := hbA.grown hg hbA.size (fun q e => by simp [Value.ownBlock] at e; omega)
 have HO : Hid (w'.ownsRow w.heap.size 9 1 v' ts.length (strV ts)) := by
  simp only [Nat.zero_add] at hown'
  exact (by simpa using hown' : w'.ownsRow w.heap.size 9 1 v' ts.length (strV ts))
 clear hown' hg hown0 hbA hin
 go_enter Tryz.func70, Tryz.ntmps70
 go_wp2_with (at_builtin; refine za0 rfl (.tmp 3) (.tmp 4) 31 rfl _ _ _ rfl rfl hrun ?_; clear hrun)
 go_ret
 exact ⟨v', rfl, HO.out, hb⟩

theorem set3 {X : World} {R : Nat} {a0 a1 a2 : Value} (u0 u1 u2 : Value) (r0 : X.cell? ⟨R, 0, none⟩ = some a0) (r1 : X.cell? ⟨R, 1, none⟩ = some a1) (r2 : X.cell? ⟨R, 2, none⟩ = some a2) :
 ∃ Y, ((X.setCell ⟨R, 0, none⟩ u0).setCell ⟨R, 1, none⟩ u1).setCell ⟨R, 2, none⟩ u2 = Y ∧ Y.cell? ⟨R, 0, none⟩ = some u0 ∧ Y.cell? ⟨R, 1, none⟩ = some u1 ∧ Y.cell? ⟨R, 2, none⟩ = some u2 ∧ X.grownBy Y (some R) := by
 refine ⟨_, rfl, ?_, ?_, ?_, ?_⟩
 ·
  exact (World.cell?_setCell_other _ _ _ _ (by simp)).trans ((World.cell?_setCell_other _ _ _ _ (by simp)).trans (World.cell?_setCell_same _ _ _ r0))
 ·
  exact (World.cell?_setCell_other _ _ _ _ (by simp)).trans (World.cell?_setCell_same _ _ _ ((World.cell?_setCell_other _ _ _ _ (by simp)).trans r1))
 ·
  exact World.cell?_setCell_same _ _ _ ((World.cell?_setCell_other _ _ _ _ (by simp)).trans ((World.cell?_setCell_other _ _ _ _ (by simp)).trans r2))
 ·
  exact ((zay _ _ _ _).trans (zay _ _ _ _)).trans (zay _ _ _ _)
abbrev FV := Fn × Option Addr × Nat
def fvT (x : FV) : Value := .slice x.2.1 x.1.2.2.length x.2.2
def fnsV : List FV → List Value
 | [] => []
 | x :: r => .string ⟨x.1.1.toArray⟩ :: .int .i64 x.1.2.1 :: fvT x :: fnsV r
def fv0 : FV := (fn0, none, 0)
theorem zho (x y : List FV) : fnsV (x ++ y) = fnsV x ++ fnsV y := by
 induction x with
 | nil => rfl
 | cons n r ih => simp [fnsV, ih]
theorem fnsV_one (xs : List FV) : ∀ u ∈ fnsV xs, u.oneCell' = true := by
 induction xs with
 | nil => intro u hu; cases hu
 | cons n r ih =>
  intro u hu
  simp only [fnsV, List.mem_cons] at hu
  rcases hu with rfl | rfl | rfl | h
  ·
   rfl
  ·
   rfl
  ·
   rfl
  ·
   exact ih u h
theorem zhn (xs : List FV) (j : Nat) (hj : j < xs.length) : (fnsV xs)[j * 3]? = some (.string ⟨(xs.getD j fv0).1.1.toArray⟩) ∧ (fnsV xs)[j * 3 + 1]? = some (.int .i64 (xs.getD j fv0).1.2.1) ∧ (fnsV xs)[j * 3 + 2]? = some (fvT (xs.getD j fv0)) := by
 induction xs generalizing j with
 | nil => simp at hj
 | cons n r ih =>
  cases j with
  | zero => simp [fnsV]
  | succ j =>
   obtain ⟨h0, h1, h2⟩ := ih j (by simpa using hj)
   refine ⟨?_, ?_, ?_⟩
   ·
    rw [show (j + 1) * 3 = j * 3 + 1 + 1 + 1 by omega]; simpa [fnsV] using h0
   ·
    rw [show (j + 1) * 3 + 1 = j * 3 + 1 + 1 + 1 + 1 by omega]; simpa [fnsV] using h1
   ·
    rw [show (j + 1) * 3 + 2 = j * 3 + 2 + 1 + 1 + 1 by omega]; simpa [fnsV] using h2
theorem za4 {w : World} {b1 b2 e1 e2 s1 s2 n1 n2 : Nat} {v1 v2 : Value} {xs ys : List Value} (h1 : w.ownsRow b1 e1 s1 v1 n1 xs) (h2 : w.ownsRow b2 e2 s2 v2 n2 ys) (he : e1 ≠ e2) : v1.ownBlock = none ∨ v1.ownBlock ≠ v2.ownBlock := by
 rcases h1.2 with ⟨rfl, _⟩ | ⟨g, c, cur, rfl, _, hg, _⟩
 ·
  exact Or.inl rfl
 ·
  rcases h2.2 with ⟨rfl, _⟩ | ⟨g2, c2, cur2, rfl, _, hg2, _⟩
  ·
   exact Or.inr (by simp [Value.ownBlock])
  ·
   refine Or.inr (fun e => ?_)
   simp only [Value.ownBlock, Option.some.injEq] at e
   subst e
   rw [hg] at hg2
   simp only [Option.some.injEq, Obj.cells.injEq] at hg2
   exact he hg2.2.1
structure zaP (w : World) (base : Nat) (v : Value) (xs : List FV) : Prop where
 row : w.ownsRow base 102 3 v xs.length (fnsV xs)
 trees : ∀ x ∈ xs, w.ownsRow base 99 4 (fvT x) x.1.2.2.length (za5 x.1.2.2)
theorem zaP.below {w w' : World} {base : Nat} {v : Value} {xs : List FV} (h : zaP w base v xs) (hb : Below w.heap.size w w') : zaP w' base v xs := ⟨za6 h.row hb, fun x hx => za6 (h.trees x hx) hb⟩
theorem zaP.kept {w w' : World} {base : Nat} {v : Value} {xs : List FV} {row : Option Nat} (h : zaP w base v xs) (hg : w.grownBy w' row) (h1 : v.ownBlock = none ∨ v.ownBlock ≠ row) (h2 : ∀ x ∈ xs, (fvT x).ownBlock = none ∨ (fvT x).ownBlock ≠ row) : zaP w' base v xs :=
 ⟨h.row.kept hg h1, fun x hx => (h.trees x hx).kept hg (h2 x hx)⟩
theorem zaP.base {w : World} {base b2 : Nat} {v : Value} {xs : List FV} (h : zaP w base v xs) (hb : b2 ≤ base) : zaP w b2 v xs := ⟨zai h.row hb, fun x hx => zai (h.trees x hx) hb⟩
theorem zaP.nil (w : World) (base : Nat) : zaP w base (.slice none 0 0) [] := ⟨World.ownsRow_nil w _ _ _, fun x hx => by cases hx⟩
theorem zdf (xs : List FV) (j : Nat) : (xs.map (·.1)).getD j fn0 = (xs.getD j fv0).1 := by
 rw [List.getD_eq_getElem?_getD, List.getD_eq_getElem?_getD, List.getElem?_map]
 cases xs[j]? <;> rfl
theorem zaP.in {w : World} {base : Nat} {v : Value} {xs : List FV} (h : zaP w base v xs) : ∃ a cap, v = .slice a xs.length cap ∧ (a = none → cap = 0) ∧ zcF w a xs.length (xs.map (·.1)) := by
 rcases zaH h.row with ⟨rfl, h0, _⟩ | ⟨g, cp, rfl⟩
 ·
  exact ⟨none, 0, by rw [h0], fun _ => rfl, by simp, fun j hj => by omega⟩
 ·
  refine ⟨some ⟨g, 0, none⟩, cp, rfl, fun e => (by cases e), by simp, fun j hj => ?_⟩
  obtain ⟨v0, v1, v2⟩ := zhn xs j hj
  have hc := fun k (hk : k < xs.length * 3) => World.ownsRow.cellAt h.row k hk
  have hmem : xs.getD j fv0 ∈ xs := by rw [List.getD_eq_getElem?_getD, List.getElem?_eq_getElem hj]; exact List.getElem_mem hj
  obtain ⟨hl, a, cap, e, hn⟩ := zaL (h.trees _ hmem)
  refine ⟨g, 0, rfl, (h.row.lt g rfl).2, ?_, ?_, (xs.getD j fv0).2.1, (xs.getD j fv0).1.2.2.length, (xs.getD j fv0).2.2, ?_, ?_, ?_⟩
  ·
   rw [Nat.zero_add, hc _ (by omega), v0, zdf]
  ·
   rw [Nat.zero_add, hc _ (by omega), v1, zdf]
  ·
   rw [Nat.zero_add, hc _ (by omega), v2]; rfl
  ·
   intro e2
   rcases zaH (h.trees _ hmem) with ⟨e3, _⟩ | ⟨g3, cp3, e3⟩
   ·
    unfold fvT at e3; injection e3
   ·
    unfold fvT at e3; rw [e2] at e3; injection e3 with e4; cases e4
  ·
   rw [zdf]
   unfold fvT at e
   injection e with e1 e2 e3
   rw [e1]; exact hn
theorem infoFunc : (Tryz.prog.info? 102).map (fun i => (i.zero, i.size, i.bytes)) = some (some (.agg #[.string ⟨#[]⟩, .int .i64 0, .slice none 0 0]), 3, 48) := by kernel_rfl
theorem new_fn (w : World) (x : FV) (c : Nat) : Src (w.alloc (.cells #[.string ⟨x.1.1.toArray⟩, .int .i64 x.1.2.1, fvT x] 102)) (.slice (some ⟨w.heap.size, 0, none⟩) 1 c) 1 3 (fnsV [x]) := by
 refine ⟨rfl, fnsV_one _, Or.inr ⟨_, c, rfl, fun j u hu => ?_⟩⟩
 rw [zcc, Nat.zero_add]
 match j, hu with
 | 0, hu => simp [fnsV] at hu; subst hu; simp
 | 1, hu => simp [fnsV] at hu; subst hu; simp
 | 2, hu => simp [fnsV] at hu; subst hu; simp
 | j + 3, hu => simp [fnsV] at hu
theorem new_str (w : World) (x : List UInt8) (c : Nat) : Src (w.alloc (.cells #[.string ⟨x.toArray⟩] 9)) (.slice (some ⟨w.heap.size, 0, none⟩) 1 c) 1 1 (strV [x]) := by
 refine ⟨rfl, fun u hu => ?_, Or.inr ⟨_, c, rfl, fun j u hu => ?_⟩⟩
 ·
  simp [strV] at hu; subst hu; rfl
 rw [zcc, Nat.zero_add]
 match j, hu with
 | 0, hu => simp [strV] at hu; subst hu; simp
 | j + 1, hu => simp [strV] at hu
section
variable {X Y w : World} {D P B gL : Nat} {ls : List (List UInt8)} {nm : List UInt8} {ims : List (List UInt8)} {xs : List FV} {ia : Option Addr} {ic : Nat} {fa : Option Addr} {fc : Nat}
end
structure zbr (w w' : World) (S : Nat → Prop) : Prop where
 os : w'.os = w.os
 tape : w'.tape = w.tape
 output : w'.output = w.output
 size : w.heap.size ≤ w'.heap.size
 block : ∀ k, k < w.heap.size → ¬ S k → w'.heap[k]? = w.heap[k]?
theorem zbr.refl (w : World) (S : Nat → Prop) : zbr w w S := ⟨rfl, rfl, rfl, Nat.le_refl _, fun _ _ _ => rfl⟩
theorem zbr.trans {a b c : World} {S : Nat → Prop} (h : zbr a b S) (k : zbr b c S) : zbr a c S :=
 ⟨k.os.trans h.os, k.tape.trans h.tape, k.output.trans h.output, Nat.le_trans h.size k.size, fun i hi hs => (k.block i (Nat.lt_of_lt_of_le hi h.size) hs).trans (h.block i hi hs)⟩
theorem zbr.mono {w w' : World} {S T : Nat → Prop} (h : zbr w w' S) (hs : ∀ k, S k → T k) : zbr w w' T := ⟨h.os, h.tape, h.output, h.size, fun k hk hn => h.block k hk (fun e => hn (hs k e))⟩
theorem zbr.of_grown {w w' : World} {row : Option Nat} {S : Nat → Prop} (h : w.grownBy w' row) (hs : ∀ k, row = some k → S k) : zbr w w' S :=
 ⟨h.os, h.tape, h.output, h.size, fun k hk hn => h.block k hk (fun e => hn (hs k e.symm))⟩
theorem zbr.of_below {w w' : World} {S : Nat → Prop} (h : Below w.heap.size w w') : zbr w w' S := ⟨h.os, h.tape, h.output, h.size, fun k hk _ => h.block k hk⟩
theorem zbr.below {w w' : World} {S : Nat → Prop} {B : Nat} (h : zbr w w' S) (hB : B ≤ w.heap.size) (hs : ∀ k, S k → B ≤ k) : Below B w w' :=
 ⟨h.os, h.tape, h.output, h.size, fun k hk => h.block k (Nat.lt_of_lt_of_le hk hB) (fun e => by have := hs k e; omega)⟩
theorem zds {w w' : World} {base e size n : Nat} {v : Value} {xs : List Value} {S : Nat → Prop} (h : w.ownsRow base e size v n xs) (hw : zbr w w' S) (hv : ∀ k, v.ownBlock = some k → ¬ S k) : w'.ownsRow base e size v n xs := by
 refine ⟨h.1, ?_⟩
 rcases h.2 with hn | ⟨g, cap, cur, rfl, hb, hgg, rest⟩
 ·
  exact .inl hn
 ·
  refine .inr ⟨g, cap, cur, rfl, hb, ?_, rest⟩
  rw [hw.block g (Array.getElem?_eq_some_iff.1 hgg).1 (hv g rfl)]
  exact hgg



section
open Go.ChangeShapes Go.WideShapes Go.ChangeAt Go.RowKit

end

def IntF (fs : List Fn) : Prop := ∀ j, (-9223372036854775808 ≤ (fs.getD j fn0).2.1 ∧ (fs.getD j fn0).2.1 ≤ 9223372036854775807) ∧ IntT (fs.getD j fn0).2.2
structure PkOk (w : World) (nm : List UInt8) (ia : Option Addr) (il ic : Nat) (fa : Option Addr) (fl fc : Nat) (ims : List (List UInt8)) (fs : List Fn) : Prop where
 i : zah w ia il ims
 f : zcF w fa fl fs
 ic : ia = none → ic = 0
 fc : (fa = none → fc = 0) ∧ fl ≤ fc
 int : IntF fs
 il : il ≤ 1048576
 fl : fl ≤ 1048576
 nm : nm.length ≤ 1048576
 is : ∀ i, (ims.getD i []).length ≤ 1048576
 fs : zkp fs
theorem PkOk.below {w w' : World} {nm : List UInt8} {ia : Option Addr} {il ic : Nat} {fa : Option Addr} {fl fc : Nat} {ims : List (List UInt8)} {fs : List Fn} (h : PkOk w nm ia il ic fa fl fc ims fs) (hb : Below w.heap.size w w') : PkOk w' nm ia il ic fa fl fc ims fs :=
 ⟨h.i.below hb, h.f.below hb, h.ic, h.fc, h.int, h.il, h.fl, h.nm, h.is, h.fs⟩
theorem zcr {w : World} {base n : Nat} {v : Value} {ts : List (List UInt8)} (h : w.ownsRow base 9 1 v n (strV ts)) : ∃ a c, v = .slice a n c ∧ (a = none → c = 0) ∧ zah w a n ts := by
 obtain ⟨_, a, c, rfl, hin⟩ := zbt h
 refine ⟨a, c, rfl, fun e => ?_, hin⟩
 rcases zaH h with ⟨e2, _, _⟩ | ⟨g, cp, e2⟩
 ·
  injection e2
 ·
  injection e2 with e3; rw [e] at e3; cases e3
structure Box3 (V : World) (k : Nat) (a b c : Value) : Prop where
 c0 : V.cell? ⟨k, 0, none⟩ = some a
 c1 : V.cell? ⟨k, 1, none⟩ = some b
 c2 : V.cell? ⟨k, 2, none⟩ = some c
theorem Box3.lt {V : World} {k : Nat} {a b c : Value} (h : Box3 V k a b c) : k < V.heap.size := World.block_lt_of_cell? V ⟨k, 0, none⟩ h.c0
theorem Box3.keep {V V' : World} {k : Nat} {a b c : Value} (h : Box3 V k a b c) (hb : V'.heap[k]? = V.heap[k]?) : Box3 V' k a b c :=
 ⟨(World.cell?_of_block (a := ⟨k, 0, none⟩) hb).trans h.c0, (World.cell?_of_block (a := ⟨k, 1, none⟩) hb).trans h.c1, (World.cell?_of_block (a := ⟨k, 2, none⟩) hb).trans h.c2⟩
theorem Box3.below {V V' : World} {k : Nat} {a b c : Value} (h : Box3 V k a b c) (hb : Below V.heap.size V V') : Box3 V' k a b c := h.keep (hb.block k h.lt)
theorem Box3.wrote {V V' : World} {k : Nat} {a b c : Value} {S : Nat → Prop} (h : Box3 V k a b c) (hw : zbr V V' S) (hk : ¬ S k) : Box3 V' k a b c := h.keep (hw.block k h.lt hk)
theorem Box3.grown {V V' : World} {k : Nat} {a b c : Value} {row : Option Nat} (h : Box3 V k a b c) (hg : V.grownBy V' row) (hk : some k ≠ row) : Box3 V' k a b c := h.keep (hg.block k h.lt hk)
theorem Box3.drew {V : World} {k : Nat} {a b c : Value} (h : Box3 V k a b c) : Box3 V.drew k a b c := ⟨h.c0, h.c1, h.c2⟩
theorem Box3.new (V : World) (a b c : Value) (t : TypeId) : Box3 (V.alloc (.cells #[a, b, c] t)) V.heap.size a b c ∧ Below V.heap.size V (V.alloc (.cells #[a, b, c] t)) := by
 have hb : Below V.heap.size V (V.alloc (.cells #[a, b, c] t)) := (Below.refl _ _).alloc (Nat.le_refl _) _
 have hA := heap_alloc_new V (.cells #[a, b, c] t)
 generalize V.alloc (.cells #[a, b, c] t) = W at hb hA ⊢
 exact ⟨⟨by simp [World.cell?, hA], by simp [World.cell?, hA], by simp [World.cell?, hA]⟩, hb⟩
theorem own_pk {w : World} {base : Nat} {vi vf : Value} {ims : List (List UInt8)} {xs : List FV} {fs : List Fn} (hoi : w.ownsRow base 9 1 vi ims.length (strV ims)) (hof : zaP w base vf xs) (hxs : xs.map (·.1) = fs) :
 ∃ ai ci af cf, vi = .slice ai ims.length ci ∧ vf = .slice af fs.length cf ∧ (ai = none → ci = 0) ∧ ((af = none → cf = 0) ∧ fs.length ≤ cf) ∧ zah w ai ims.length ims ∧ zcF w af fs.length fs := by
 obtain ⟨ai, ci, rfl, hic, hit⟩ := zcr hoi
 obtain ⟨af, cf, rfl, hfc, hif⟩ := hof.in
 have hl : xs.length = fs.length := by rw [← hxs, List.length_map]
 have hcp : fs.length ≤ cf := by
  rcases hof.row.2 with ⟨e, h0⟩ | ⟨g, cap, cur, e, _, _, hc, _⟩
  ·
   rw [← hl, h0]; exact Nat.zero_le _
  ·
   injection e with _ _ e3
   rw [e3, ← hl]; exact hc
 rw [hxs, hl] at hif
 exact ⟨ai, ci, af, cf, rfl, by rw [hl], hic, ⟨hfc, hcp⟩, hit, hif⟩
theorem zaP.grown {w w' : World} {base : Nat} {v : Value} {xs : List FV} {row : Option Nat} (h : zaP w base v xs) (hg : w.grownBy w' row) (hr : ∀ k, row = some k → k < base) : zaP w' base v xs := by
 have off : ∀ {e size n : Nat} {u : Value} {ys : List Value}, w.ownsRow base e size u n ys → u.ownBlock = Option.none ∨ u.ownBlock ≠ row := fun {e size n u ys} ho => by
  cases hu : u.ownBlock with
  | none => exact Or.inl rfl
  | some k => exact Or.inr (fun e2 => by have := (ho.lt k hu).1; have := hr k e2.symm; omega)
 exact ⟨h.row.kept hg (off h.row), fun x hx => (h.trees x hx).kept hg (off (h.trees x hx))⟩
theorem zaR {w w' : World} {base e size n : Nat} {u : Value} {ys : List Value} {row : Option Nat} (h : w.ownsRow base e size u n ys) (hg : w.grownBy w' row) (hr : ∀ k, row = some k → k < base) : w'.ownsRow base e size u n ys := h.kept hg (by
 cases hu : u.ownBlock with
 | none => exact Or.inl rfl
 | some k => exact Or.inr (fun e2 => by have := (h.lt k hu).1; have := hr k e2.symm; omega))
theorem push_fn (X : World) (base : Nat) (v : Value) (xs : List FV) (y : FV) (h : zaP X base v xs) (hy : X.ownsRow base 99 4 (fvT y) y.1.2.2.length (za5 y.1.2.2)) (hb : base ≤ X.heap.size) (hn : xs.length ≤ 1048576) :
 ∃ g' c' Y, (Builtin.append_ #[83, 83] 83 #[v, .slice (some ⟨X.heap.size, 0, none⟩) 1 1]).run Tryz.prog (X.alloc (.cells #[.string ⟨y.1.1.toArray⟩, .int .i64 y.1.2.1, fvT y] 102)) = .ok (.slice (some ⟨g', 0, none⟩) (xs.length + 1) c') Y ∧
  zaP Y base (.slice (some ⟨g', 0, none⟩) (xs ++ [y]).length c') (xs ++ [y]) ∧ X.grownBy Y v.ownBlock := by
 obtain ⟨i0, hi, hz0, hz1, hz2⟩ := info_parts infoFunc
 have hX1 : Below X.heap.size X (X.alloc (.cells #[.string ⟨y.1.1.toArray⟩, .int .i64 y.1.2.1, fvT y] 102)) := (Below.refl _ _).alloc (Nat.le_refl _) _
 have h1 := h.below hX1
 have hy1 := za6 hy hX1
 obtain ⟨v', Y, hrun, hown, hg, _⟩ := zal (P := Tryz.prog) (X.alloc (.cells #[.string ⟨y.1.1.toArray⟩, .int .i64 y.1.2.1, fvT y] 102)) base 83 83 102 i0 _ 3 48 Tryz.underlying83 hi hz0 hz1 hz2 rfl (by decide) _ _ _ h1.row _ 1 (fnsV [y]) (new_fn X y 1) (by unfold maxLen; omega) (by omega) (by simp; omega)
 obtain ⟨g', c', rfl⟩ := za9 hown (by omega)
 have e1 : (xs ++ [y]).length = xs.length + 1 := by simp
 have hown2 : Y.ownsRow base 102 3 (.slice (some ⟨g', 0, none⟩) (xs ++ [y]).length c') (xs ++ [y]).length (fnsV (xs ++ [y])) := by
  rw [e1, zho]; exact hown
 have htr : ∀ z ∈ xs ++ [y], Y.ownsRow base 99 4 (fvT z) z.1.2.2.length (za5 z.1.2.2) := fun z hz => by
  rw [List.mem_append, List.mem_singleton] at hz
  rcases hz with hz | rfl
  ·
   exact (h1.trees z hz).kept hg (za4 (h1.trees z hz) h1.row (by decide))
  ·
   exact hy1.kept hg (za4 hy1 h1.row (by decide))
 exact ⟨g', c', Y, hrun, ⟨hown2, htr⟩, (World.grownBy_alloc X _ _).trans hg⟩
structure DrSt (X w : World) (B : Nat) (a : Option Addr) (len cap : Nat) (R P : Nat) (nm : List UInt8) (vi : Value) (fa : Option Addr) (fc : Nat) (xs : List FV) (vo : Value) (ns : List Nd) : Prop where
 p : Box3 X P (.string ⟨nm.toArray⟩) vi (.slice fa xs.length fc)
 pf : ∀ j, X.frozen? ⟨P, j, none⟩ = false
 r : Box3 X R (.string ⟨#[]⟩) (.slice none 0 0) (.slice none 0 0)
 rf : ∀ j, X.frozen? ⟨R, j, none⟩ = false
 fo : zaP X (P + 1) (.slice fa xs.length fc) xs
 ow : X.ownsRow (P + 1) 99 4 vo ns.length (za5 ns)
 cur : Cur X B a len cap
 g : w.grownBy X (some B)
 br : B < R
 rp : R < P
 wr : w.heap.size = R
 ap : ∀ x ∈ xs, (fvT x).ownBlock = none ∨ (fvT x).ownBlock ≠ vo.ownBlock
section
variable {X Y w : World} {B : Nat} {a : Option Addr} {len cap R P : Nat} {nm : List UInt8} {vi : Value} {fa : Option Addr} {fc : Nat} {xs : List FV} {vo : Value} {ns : List Nd}
theorem DrSt.next (h : DrSt X w B a len cap R P nm vi fa fc xs vo ns) (hg : X.grownBy Y (some B)) (hc : Cur Y B a len cap) : DrSt Y w B a len cap R P nm vi fa fc xs vo ns :=
 have hp : some P ≠ some B := fun e => by injection e with e; have := h.br; have := h.rp; omega
 have hr : some R ≠ some B := fun e => by injection e with e; have := h.br; omega
 have hlt : ∀ k, some B = some k → k < P + 1 := fun k e => by injection e with e; have := h.br; have := h.rp; omega
 ⟨h.p.grown hg hp, fun j => (World.frozen?_of_block (a := ⟨P, j, none⟩) (hg.block P h.p.lt hp)).trans (h.pf j), h.r.grown hg hr, fun j => (World.frozen?_of_block (a := ⟨R, j, none⟩) (hg.block R h.r.lt hr)).trans (h.rf j),
  h.fo.grown hg hlt, zaR h.ow hg hlt, hc, h.g.trans hg, h.br, h.rp, h.wr, h.ap⟩
theorem DrSt.made (h : DrSt X w B a len cap R P nm vi fa fc xs vo ns) (hg : X.grownBy Y none) : DrSt Y w B a len cap R P nm vi fa fc xs vo ns :=
 h.next ⟨hg.os, hg.tape, hg.output, hg.size, fun k hk _ => hg.block k hk (by simp)⟩ (h.cur.kept hg (by simp))
theorem DrSt.alloc (h : DrSt X w B a len cap R P nm vi fa fc xs vo ns) (o : Obj) : DrSt (X.alloc o) w B a len cap R P nm vi fa fc xs vo ns := h.made (World.grownBy_alloc X o none)
theorem DrSt.drew (h : DrSt X w B a len cap R P nm vi fa fc xs vo ns) : DrSt X.drew w B a len cap R P nm vi fa fc xs vo ns := h.made (zb7 X none)
theorem DrSt.side (h : DrSt X w B a len cap R P nm vi fa fc xs vo ns) {k : Nat} (hg : X.grownBy Y (some k)) (hk : P < k) (hf : ∀ q, (Value.slice fa xs.length fc).ownBlock = some q → q ≠ k) (ht : ∀ x ∈ xs, ∀ q, (fvT x).ownBlock = some q → q ≠ k) (ho : ∀ q, vo.ownBlock = some q → q ≠ k) : DrSt Y w B a len cap R P nm vi fa fc xs vo ns := by
 have hB := h.br
 have hR := h.rp
 have hW := h.wr
 have hp : some P ≠ some k := fun e => by injection e with e; omega
 have hr : some R ≠ some k := fun e => by injection e with e; omega
 have off : ∀ {u : Value}, (∀ q, u.ownBlock = some q → q ≠ k) → u.ownBlock = none ∨ u.ownBlock ≠ some k := fun {u} hu => by
  cases hv : u.ownBlock with
  | none => exact Or.inl rfl
  | some q => exact Or.inr (fun e => by injection e with e; exact hu q hv e)
 refine ⟨h.p.grown hg hp, fun j => (World.frozen?_of_block (a := ⟨P, j, none⟩) (hg.block P h.p.lt hp)).trans (h.pf j), h.r.grown hg hr, fun j => (World.frozen?_of_block (a := ⟨R, j, none⟩) (hg.block R h.r.lt hr)).trans (h.rf j),
  h.fo.kept hg (off hf) (fun x hx => off (ht x hx)), h.ow.kept hg (off ho), h.cur.kept hg (fun q e => by injection e with e; omega), ?_, h.br, h.rp, h.wr, h.ap⟩
 exact ⟨hg.os.trans h.g.os, hg.tape.trans h.g.tape, hg.output.trans h.g.output, Nat.le_trans h.g.size hg.size, fun q hq hn => (hg.block q (Nat.lt_of_lt_of_le hq h.g.size) (fun e => by injection e with e; omega)).trans (h.g.block q hq hn)⟩
end
theorem zdj {V : World} {a b c : Value} {t : TypeId} : Box3 (V.alloc (.cells #[a, b, c] t)) V.heap.size a b c ∧ ∀ j, (V.alloc (.cells #[a, b, c] t)).frozen? ⟨V.heap.size, j, none⟩ = false :=
 ⟨(Box3.new V a b c t).1, fun j => Go.Joins.unfrozen_of_block (heap_alloc_new V (.cells #[a, b, c] t)) j⟩
theorem zgG {V Y : World} {B k : Nat} {a b c : Value} (h : Box3 V k a b c ∧ ∀ j, V.frozen? ⟨k, j, none⟩ = false) (hg : V.grownBy Y (some B)) (hk : k ≠ B) : Box3 Y k a b c ∧ ∀ j, Y.frozen? ⟨k, j, none⟩ = false :=
 have hn : some k ≠ some B := fun e => by injection e with e; exact hk e
 ⟨h.1.grown hg hn, fun j => (World.frozen?_of_block (a := ⟨k, j, none⟩) (hg.block k h.1.lt hn)).trans (h.2 j)⟩
theorem zhs {V Y : World} {B : Nat} {a b c : Value} {t : TypeId} (hg : (V.alloc (.cells #[a, b, c] t)).drew.grownBy Y (some B)) (hB : B < V.heap.size) : Box3 Y V.heap.size a b c ∧ ∀ j, Y.frozen? ⟨V.heap.size, j, none⟩ = false :=
 zgG (V := (V.alloc (.cells #[a, b, c] t)).drew) ⟨zdj.1.drew, zdj.2⟩ hg (by omega)
theorem box_up2 {V Y : World} {B : Nat} {o : Obj} {a b c : Value} {t : TypeId} (hg : ((V.alloc o).alloc (.cells #[a, b, c] t)).drew.grownBy Y (some B)) (hB : B < V.heap.size) : Box3 Y (V.heap.size + 1) a b c ∧ ∀ j, Y.frozen? ⟨V.heap.size + 1, j, none⟩ = false := by
 have h := zhs (V := V.alloc o) hg (by simp; omega)
 rw [World.size_alloc] at h
 exact h
theorem box_up3 {V Y : World} {B : Nat} {o : Obj} {a b c : Value} {t : TypeId} (hg : ((V.alloc (.cells #[a, b, c] t)).alloc o).drew.grownBy Y (some B)) (hB : B < V.heap.size) : Box3 Y V.heap.size a b c ∧ ∀ j, Y.frozen? ⟨V.heap.size, j, none⟩ = false := by
 have hb : Below (V.alloc (.cells #[a, b, c] t)).heap.size (V.alloc (.cells #[a, b, c] t)) ((V.alloc (.cells #[a, b, c] t)).alloc o) := (Below.refl _ _).alloc (Nat.le_refl _) _
 have h := zdj (V := V) (a := a) (b := b) (c := c) (t := t)
 exact zgG (V := ((V.alloc (.cells #[a, b, c] t)).alloc o).drew) ⟨(h.1.below hb).drew, fun j => (hb.frozen (p := ⟨V.heap.size, j, none⟩) (by simp)).trans (h.2 j)⟩ hg (by omega)
theorem zkm {V : World} {k : Nat} {a b c : Value} (a' b' c' : Value) (h : Box3 V k a b c ∧ ∀ j, V.frozen? ⟨k, j, none⟩ = false) :
 (Box3 (((V.setCell ⟨k, 0, none⟩ a').setCell ⟨k, 1, none⟩ b').setCell ⟨k, 2, none⟩ c') k a' b' c' ∧ ∀ j, (((V.setCell ⟨k, 0, none⟩ a').setCell ⟨k, 1, none⟩ b').setCell ⟨k, 2, none⟩ c').frozen? ⟨k, j, none⟩ = false) ∧ V.grownBy (((V.setCell ⟨k, 0, none⟩ a').setCell ⟨k, 1, none⟩ b').setCell ⟨k, 2, none⟩ c') (some k) := by
 obtain ⟨Y, hY, y0, y1, y2, hg⟩ := set3 a' b' c' h.1.c0 h.1.c1 h.1.c2
 rw [hY]
 refine ⟨⟨⟨y0, y1, y2⟩, fun j => ?_⟩, hg⟩
 rw [← hY]
 exact (World.frozen?_setCell ..).trans ((World.frozen?_setCell ..).trans ((World.frozen?_setCell ..).trans (h.2 j)))
theorem zd2 {w : World} {k j : Nat} (o : Obj) (hk : k < w.heap.size) (h : w.frozen? ⟨k, j, none⟩ = false) : (w.alloc o).frozen? ⟨k, j, none⟩ = false :=
 (World.frozen?_of_block (a := ⟨k, j, none⟩) (Below.heap_alloc w o k hk)).trans h
section
variable {V X Y w : World} {B : Nat} {a : Option Addr} {len cap R P : Nat} {nm : List UInt8} {vi : Value} {fa : Option Addr} {fc : Nat} {xs : List FV} {vo : Value} {ns : List Nd}
def Dr12 (V w : World) (B : Nat) (a : Option Addr) (len cap R P : Nat) (nm : List UInt8) (vi : Value) (fa : Option Addr) (fc : Nat) (xs : List FV) (vo : Value) (ns : List Nd) (v : Value) (wx : World) : Prop :=
 ∃ (F : Nat) (y : Int) (fn : List UInt8), v = .pointer (some ⟨F, 0, none⟩) ∧ (0 ≤ y ∧ y ≤ 3) ∧ fn.length ≤ 9 ∧ V.heap.size ≤ F ∧ DrSt wx w B a len cap R P nm vi fa fc xs vo ns ∧ (Box3 wx F (.string ⟨fn.toArray⟩) (.int .i64 y) (.slice none 0 0) ∧ ∀ j, wx.frozen? ⟨F, j, none⟩ = false)
theorem zki (st : DrSt V w B a len cap R P nm vi fa fc xs vo ns) (h : DrSt X w B a len cap R P nm vi fa fc xs vo ns) {F : Nat} (hF : V.heap.size ≤ F) (hg : X.grownBy Y (some F)) : DrSt Y w B a len cap R P nm vi fa fc xs vo ns := by
 have hp := st.p.lt
 exact h.side hg (by omega) (fun q e => by have := (st.fo.row.lt q e).2; omega) (fun x hx q e => by have := ((st.fo.trees x hx).lt q e).2; omega) (fun q e => by have := (st.ow.lt q e).2; omega)
theorem zkh (st : DrSt V w B a len cap R P nm vi fa fc xs vo ns) (h : DrSt X w B a len cap R P nm vi fa fc xs vo ns) {F : Nat} (hF : V.heap.size ≤ F) {z0 z1 z2 : Value} (hb : Box3 X F z0 z1 z2 ∧ ∀ j, X.frozen? ⟨F, j, none⟩ = false) (fn : List UInt8) (hfn : fn.length ≤ 9) {y : Int} (hy0 : 0 ≤ y) (hy1 : y ≤ 3) :
 Dr12 V w B a len cap R P nm vi fa fc xs vo ns (.pointer (some ⟨F, 0, none⟩)) (((X.setCell ⟨F, 0, none⟩ (.string ⟨fn.toArray⟩)).setCell ⟨F, 1, none⟩ (.int .i64 y)).setCell ⟨F, 2, none⟩ (.slice none 0 0)) := by
 obtain ⟨hb2, hg⟩ := zkm (.string ⟨fn.toArray⟩) (.int .i64 y) (.slice none 0 0) hb
 exact ⟨F, y, fn, rfl, ⟨hy0, hy1⟩, hfn, hF, zki st h hF hg, hb2⟩
theorem dr_new (h : DrSt X w B a len cap R P nm vi fa fc xs vo ns) (hF : V.heap.size ≤ X.heap.size) (fn : List UInt8) (hfn : fn.length ≤ 9) {y : Int} (hy0 : 0 ≤ y) (hy1 : y ≤ 3) :
 Dr12 V w B a len cap R P nm vi fa fc xs vo ns (.pointer (some ⟨X.heap.size, 0, none⟩)) (X.alloc (.cells #[.string ⟨fn.toArray⟩, .int .i64 y, .slice none 0 0] 102)) :=
 ⟨X.heap.size, y, fn, rfl, ⟨hy0, hy1⟩, hfn, hF, h.alloc _, zdj⟩
theorem dr_new2 (h : DrSt X w B a len cap R P nm vi fa fc xs vo ns) (hF : V.heap.size ≤ X.heap.size) (fn : List UInt8) (hfn : fn.length ≤ 9) {y : Int} (hy0 : 0 ≤ y) (hy1 : y ≤ 3) (o : Obj) :
 Dr12 V w B a len cap R P nm vi fa fc xs vo ns (.pointer (some ⟨X.heap.size + 1, 0, none⟩)) ((X.alloc o).alloc (.cells #[.string ⟨fn.toArray⟩, .int .i64 y, .slice none 0 0] 102)) := by
 have h2 := dr_new (V := V) (h.alloc o) (by rw [World.size_alloc]; omega) fn hfn hy0 hy1
 rw [World.size_alloc] at h2
 exact h2
theorem zkn {F : Nat} {z0 z1 z2 : Value} (o : Obj) (hb : Box3 X F z0 z1 z2 ∧ ∀ j, X.frozen? ⟨F, j, none⟩ = false) : Box3 (X.alloc o) F z0 z1 z2 ∧ ∀ j, (X.alloc o).frozen? ⟨F, j, none⟩ = false :=
 ⟨hb.1.below ((Below.refl _ _).alloc (Nat.le_refl _) o), fun j => zd2 o hb.1.lt (hb.2 j)⟩
theorem dr_new3 (h : DrSt X w B a len cap R P nm vi fa fc xs vo ns) (hF : V.heap.size ≤ X.heap.size) (fn : List UInt8) (hfn : fn.length ≤ 9) {y : Int} (hy0 : 0 ≤ y) (hy1 : y ≤ 3) (o : Obj) :
 Dr12 V w B a len cap R P nm vi fa fc xs vo ns (.pointer (some ⟨X.heap.size, 0, none⟩)) ((X.alloc (.cells #[.string ⟨fn.toArray⟩, .int .i64 y, .slice none 0 0] 102)).alloc o) :=
 ⟨X.heap.size, y, fn, rfl, ⟨hy0, hy1⟩, hfn, hF, (h.alloc _).alloc o, zkn o zdj⟩
theorem dr_set1 (st : DrSt V w B a len cap R P nm vi fa fc xs vo ns) (h : DrSt X w B a len cap R P nm vi fa fc xs vo ns) {F : Nat} (hF : V.heap.size ≤ F) {z0 z1 z2 : Value} (hb : Box3 X F z0 z1 z2 ∧ ∀ j, X.frozen? ⟨F, j, none⟩ = false) (fn : List UInt8) (hfn : fn.length ≤ 9) {y : Int} (hy0 : 0 ≤ y) (hy1 : y ≤ 3) (o : Obj) :
 Dr12 V w B a len cap R P nm vi fa fc xs vo ns (.pointer (some ⟨F, 0, none⟩)) ((((X.alloc o).setCell ⟨F, 0, none⟩ (.string ⟨fn.toArray⟩)).setCell ⟨F, 1, none⟩ (.int .i64 y)).setCell ⟨F, 2, none⟩ (.slice none 0 0)) :=
 zkh st (h.alloc o) hF (zkn o hb) fn hfn hy0 hy1
theorem sz0 {row : Option Nat} (h : V.drew.grownBy Y row) : V.heap.size ≤ Y.heap.size := h.size
theorem sz1 {row : Option Nat} {o : Obj} (h : (V.alloc o).drew.grownBy Y row) : V.heap.size ≤ Y.heap.size := by
 have h1 : (V.alloc o).heap.size ≤ Y.heap.size := h.size
 rw [World.size_alloc] at h1; omega
theorem sz2 {row : Option Nat} {o o' : Obj} (h : ((V.alloc o).alloc o').drew.grownBy Y row) : V.heap.size ≤ Y.heap.size := by
 have h1 : ((V.alloc o).alloc o').heap.size ≤ Y.heap.size := h.size
 rw [World.size_alloc, World.size_alloc] at h1; omega
end
end Go.Proofs.YtenaaneckobdpaaGreat
