/-
  Parts of one proof, one behind the other: FoldJ5, FoldX, PackL.
-/
import Derived.Test.YtkjojhkpoooimaaGreatP31
import Derived.Test.YtkjojhkpoooimaaGreatP29
import Derived.Test.YtkjojhkpoooimaaGreatP26
import Derived.Test.YtkjojhkpoooimaaGreatP24
import Derived.Deep.RegionLaw
import Derived.Test.YtkjojhkpoooimaaGreatP16
import Derived.Test.YtkjojhkpoooimaaGreatP9
import Derived.Test.YtkjojhkpoooimaaGreatP6
import Derived.Test.YtkjojhkpoooimaaGreatP7

/-! The contract of chapter 11's landed code: FoldedPackage. -/
namespace Go.Proofs.YtkjojhkpoooimaaGreat
open Go.RowKit

theorem push_text11 {X : World} {B n : Nat} {v : Value} {ts : List (List UInt8)} (s : List UInt8) (hv : X.ownsRow B 9 1 v n (strV ts)) (hb : B ≤ X.heap.size) (hn : n ≤ 1048576) :
    ∃ v' Y, (Builtin.append_ #[27, 27] 27 #[v, .slice (some ⟨X.heap.size, 0, none⟩) 1 1]).run Tryz.prog (X.alloc (.cells #[.string ⟨s.toArray⟩] 9)) = .ok v' Y ∧ Y.ownsRow B 9 1 v' (n + 1) (strV (ts ++ [s])) ∧ X.grownBy Y v.ownBlock := by
  obtain ⟨i0, hi, hz0, hz1, hz2⟩ := info_parts info9
  obtain ⟨v', Y, hrun, hown, hg, _⟩ := run_append_src (P := Tryz.prog) (X.alloc (.cells #[.string ⟨s.toArray⟩] 9)) B 27 27 9 i0 _ 1 16 Tryz.underlying27 hi hz0 hz1 hz2 rfl (by decide) _ _ _ (hv.alloc _) _ 1 (strV [s]) (new_str X s 1) (by unfold maxLen; omega) (by omega) (by simp; omega)
  refine ⟨v', Y, hrun, ?_, (World.grownBy_alloc X _ _).trans hg⟩
  rw [← strV_snoc]
  exact hown

/-- What FoldedPackage holds: the package so far, at S; all its rows lie behind S. -/
structure Sp11 (w X : World) (E S : Nat) (nm : List UInt8) (va : Option Addr) (vl vc : Nat) (ts : List (List UInt8)) (ga : Option Addr) (gl gc : Nat) (zs : List FV) : Prop where
  box : Bq X S (.string ⟨nm.toArray⟩) (.slice va vl vc) (.slice ga gl gc)
  txt : X.ownsRow (S + 1) 9 1 (.slice va vl vc) vl (strV ts)
  fns : FnsOwn X (S + 1) (.slice ga gl gc) zs
  vl : ts.length = vl
  gl : zs.length = gl
  ap : Apart (zs.map fvT)
  es : E ≤ S
  b : Below E w X
section
variable {w X Y : World} {E S : Nat} {nm : List UInt8} {va : Option Addr} {vl vc : Nat} {ts : List (List UInt8)} {ga : Option Addr} {gl gc : Nat} {zs : List FV}
theorem Sp11.below (h : Sp11 w X E S nm va vl vc ts ga gl gc zs) (hb : Below X.heap.size X Y) : Sp11 w Y E S nm va vl vc ts ga gl gc zs :=
  ⟨h.box.below hb, own_below h.txt hb, h.fns.below hb, h.vl, h.gl, h.ap, h.es, h.b.trans (hb.mono (Nat.le_trans h.es (Nat.le_of_lt h.box.box.lt)))⟩
theorem Bq.s1 {Z : World} {k : Nat} {a b c : Value} (h : Bq Z k a b c) (v : Value) : Bq (Z.setCell ⟨k, 1, none⟩ v) k a v c :=
  ⟨⟨(World.cell?_setCell_other _ _ _ _ (by simp)).trans h.box.c0, World.cell?_setCell_same _ _ _ h.box.c1, (World.cell?_setCell_other _ _ _ _ (by simp)).trans h.box.c2⟩, fun j => by simpa using h.fr j⟩
/-- One more text. -/
theorem Sp11.text (h : Sp11 w X E S nm va vl vc ts ga gl gc zs) (s : List UInt8) (hl : vl ≤ 1048576) :
    ∃ g' c' Y, (Builtin.append_ #[27, 27] 27 #[.slice va vl vc, .slice (some ⟨X.heap.size, 0, none⟩) 1 1]).run Tryz.prog (X.alloc (.cells #[.string ⟨s.toArray⟩] 9)) = .ok (.slice (some ⟨g', 0, none⟩) (vl + 1) c') Y ∧ Y.cell? ⟨S, 1, none⟩ = some (.slice va vl vc) ∧ Y.frozen? ⟨S, 1, none⟩ = false ∧ Sp11 w (Y.setCell ⟨S, 1, none⟩ (.slice (some ⟨g', 0, none⟩) (vl + 1) c')) E S nm (some ⟨g', 0, none⟩) (vl + 1) c' (ts ++ [s]) ga gl gc zs := by
  have hsl := h.box.box.lt
  obtain ⟨v', Y, hr, ho, hg⟩ := push_text11 s h.txt (by omega : S + 1 ≤ X.heap.size) hl
  obtain ⟨g', c', rfl⟩ := own_some ho (by omega)
  have hbY : Bq Y S (.string ⟨nm.toArray⟩) (.slice va vl vc) (.slice ga gl gc) := h.box.keep (hg.block S hsl (fun e => by have := (h.txt.lt S e.symm).1; omega))
  have hfY : FnsOwn Y (S + 1) (.slice ga gl gc) zs := ⟨h.fns.row.kept hg (own_types h.fns.row h.txt (by decide)), fun x hx => (h.fns.trees x hx).kept hg (own_types (h.fns.trees x hx) h.txt (by decide))⟩
  have hbb : Below E w Y := h.b.grown hg (Nat.le_trans h.es (Nat.le_of_lt hsl)) (fun k e => by have := (h.txt.lt k e).1; have := h.es; omega)
  have hg2 := grown_set Y S 1 (.slice (some ⟨g', 0, none⟩) (vl + 1) c')
  refine ⟨g', c', Y, hr, hbY.box.c1, hbY.fr 1, hbY.s1 _, own_other ho (Nat.lt_succ_self _) hg2, ⟨own_other hfY.row (Nat.lt_succ_self _) hg2, fun x hx => own_other (hfY.trees x hx) (Nat.lt_succ_self _) hg2⟩, by rw [List.length_append, h.vl]; rfl, h.gl, h.ap, h.es, hbb.grown hg2 (by have := hbY.box.lt; have := h.es; omega) (fun k e => by injection e with e; have := h.es; omega)⟩
/-- One more function. -/
theorem Sp11.func (h : Sp11 w X E S nm va vl vc ts ga gl gc zs) (x : FV) (ht : X.ownsRow (S + 1) 46 4 (fvT x) x.1.2.2.length (nodesV x.1.2.2)) (hap : ∀ z ∈ zs, (fvT z).ownBlock = none ∨ (fvT z).ownBlock ≠ (fvT x).ownBlock) (hl : gl ≤ 1048576) :
    ∃ g' c' Y, (Builtin.append_ #[28, 28] 28 #[.slice ga gl gc, .slice (some ⟨X.heap.size, 0, none⟩) 1 1]).run Tryz.prog (X.alloc (.cells #[.string ⟨x.1.1.toArray⟩, .int .i64 x.1.2.1, fvT x] 52)) = .ok (.slice (some ⟨g', 0, none⟩) (gl + 1) c') Y ∧ Y.cell? ⟨S, 2, none⟩ = some (.slice ga gl gc) ∧ Y.frozen? ⟨S, 2, none⟩ = false ∧ Sp11 w (Y.setCell ⟨S, 2, none⟩ (.slice (some ⟨g', 0, none⟩) (gl + 1) c')) E S nm va vl vc ts (some ⟨g', 0, none⟩) (gl + 1) c' (zs ++ [x]) ∧ X.grownBy Y (Value.slice ga gl gc).ownBlock := by
  have hsl := h.box.box.lt
  obtain ⟨v', Y, hr, ho, hg⟩ := push_fv h.fns x ht (by omega : S + 1 ≤ X.heap.size) (by rw [h.gl]; exact hl)
  have hlen : (zs ++ [x]).length = gl + 1 := by rw [List.length_append, h.gl]; rfl
  obtain ⟨g', c', rfl⟩ := own_some ho.row (by omega)
  rw [hlen] at hr ho
  have hrow : X.ownsRow (S + 1) 52 3 (.slice ga gl gc) gl (fnsV zs) := by have := h.fns.row; rw [h.gl] at this; exact this
  have hbY : Bq Y S (.string ⟨nm.toArray⟩) (.slice va vl vc) (.slice ga gl gc) := h.box.keep (hg.block S hsl (fun e => by have := (hrow.lt S e.symm).1; omega))
  have htY := h.txt.kept hg (own_types h.txt hrow (by decide))
  have hbb : Below E w Y := h.b.grown hg (Nat.le_trans h.es (Nat.le_of_lt hsl)) (fun k e => by have := (hrow.lt k e).1; have := h.es; omega)
  have hg2 := grown_set Y S 2 (.slice (some ⟨g', 0, none⟩) (gl + 1) c')
  refine ⟨g', c', Y, hr, hbY.box.c2, hbY.fr 2, ⟨hbY.s2 _, own_other htY (Nat.lt_succ_self _) hg2, ⟨?_, fun x hx => own_other (ho.trees x hx) (Nat.lt_succ_self _) hg2⟩, h.vl, hlen, ?_, h.es, hbb.grown hg2 (by have := hbY.box.lt; have := h.es; omega) (fun k e => by injection e with e; have := h.es; omega)⟩, hg⟩
  · exact own_other ho.row (Nat.lt_succ_self _) hg2
  · rw [List.map_append]
    refine Apart.snoc h.ap (fun v hv => ?_)
    obtain ⟨z, hz, rfl⟩ := List.mem_map.1 hv
    exact hap z hz
end

/-- What the round over the functions holds besides: the function at F, its tree. -/
structure Fq11 (w X : World) (E S F : Nat) (nm : List UInt8) (va : Option Addr) (vl vc : Nat) (ts : List (List UInt8)) (ga : Option Addr) (gl gc : Nat) (zs : List FV) (s : List UInt8) (n : Int) (ta : Option Addr) (tl tc : Nat) (tt : List Nd) : Prop where
  sp : Sp11 w X E S nm va vl vc ts ga gl gc zs
  fb : Box3 X F (.string ⟨s.toArray⟩) (.int .i64 n) (.slice ta tl tc)
  no : NodesIn X ta tl tt
theorem Fq11.below {w X Y : World} {E S F : Nat} {nm : List UInt8} {va : Option Addr} {vl vc : Nat} {ts : List (List UInt8)} {ga : Option Addr} {gl gc : Nat} {zs : List FV} {s : List UInt8} {n : Int} {ta : Option Addr} {tl tc : Nat} {tt : List Nd} (h : Fq11 w X E S F nm va vl vc ts ga gl gc zs s n ta tl tc tt) (hb : Below X.heap.size X Y) : Fq11 w Y E S F nm va vl vc ts ga gl gc zs s n ta tl tc tt :=
  ⟨h.sp.below hb, h.fb.below hb, h.no.below hb⟩

set_option maxHeartbeats 8000000 in
set_option maxRecDepth 100000 in
theorem implFoldedPackage (nm : List UInt8) (ia : Option Addr) (il ic : Nat) (fa : Option Addr) (fl fc : Nat) (ims : List (List UInt8)) (fs : List Fn) (w : World) (h : PkOk w nm ia il ic fa fl fc ims fs) :
    Calls Tryz.prog 8 #[.agg #[.string ⟨nm.toArray⟩, .slice ia il ic, .slice fa fl fc]] w fun e w' => ∃ vi vf xs, e = .returned (.agg #[.string ⟨(foldPk (nm, ims, fs)).1.toArray⟩, vi, vf]) ∧ xs.map (·.1) = (foldPk (nm, ims, fs)).2.2 ∧ w'.ownsRow w.heap.size 9 1 vi (foldPk (nm, ims, fs)).2.1.length (strV (foldPk (nm, ims, fs)).2.1) ∧ FnsOwn w' w.heap.size vf xs ∧ Apart (xs.map fvT) ∧ Below w.heap.size w w' := by
  obtain ⟨bP, hb1⟩ := Bq.new w (.string ⟨nm.toArray⟩) (.slice ia il ic) (.slice fa fl fc) 30
  obtain ⟨W1, hW1⟩ : ∃ W1, w.alloc (.cells #[.string ⟨nm.toArray⟩, .slice ia il ic, .slice fa fl fc] 30) = W1 := ⟨_, rfl⟩
  rw [hW1] at bP hb1
  obtain ⟨bR, hb2⟩ := Bq.new W1 (.string ⟨#[]⟩) (.slice none 0 0) (.slice none 0 0) 30
  obtain ⟨W2, hW2⟩ : ∃ W2, W1.alloc (.cells #[.string ⟨#[]⟩, .slice none 0 0, .slice none 0 0] 30) = W2 := ⟨_, rfl⟩
  rw [hW2] at bR hb2
  obtain ⟨P0, hP0⟩ : ∃ P0, w.heap.size = P0 := ⟨_, rfl⟩
  obtain ⟨R0, hR0⟩ : ∃ R0, W1.heap.size = R0 := ⟨_, rfl⟩
  rw [hP0] at bP
  rw [hR0] at bR
  have hPl : P0 < W1.heap.size := bP.box.lt
  have hRl : R0 < W2.heap.size := bR.box.lt
  have hPR : P0 ≤ R0 := by omega
  have hbw : Below w.heap.size w W2 := hb1.trans (hb2.mono hb1.size)
  have HZ : Hid (∀ Y, Below W2.heap.size W2 Y → Bq Y P0 (.string ⟨nm.toArray⟩) (.slice ia il ic) (.slice fa fl fc) ∧ Bq Y R0 (.string ⟨#[]⟩) (.slice none 0 0) (.slice none 0 0) ∧ Below w.heap.size w Y) := fun Y hy => ⟨(bP.below hb2).below hy, bR.below hy, hbw.trans (hy.mono hbw.size)⟩
  have HOk : Hid (_) := implPackageOk nm ia il ic fa fl fc ims fs W2 (h.below hbw)
  have HPk : Hid (∀ Y, Below W2.heap.size W2 Y → PkOk Y nm ia il ic fa fl fc ims fs) := fun Y hy => (h.below hbw).below hy
  obtain ⟨b0, _, _⟩ := HZ.out W2 (Below.refl _ _)
  have p0 := b0.box.c0
  have p1 := b0.box.c1
  have p2 := b0.box.c2
  have hwE := hbw.size
  have hnl := h.nm
  have hil := h.il
  have hfl := h.fl
  have HIl : Hid (ims.length = il) := h.i.1
  have HFl : Hid (fs.length = fl) := h.f.1
  have HIs : Hid (∀ i, (ims.getD i []).length ≤ 1048576) := h.is
  have HFs : Hid (ShortF fs) := h.fs
  have HIF : Hid (IntF fs) := h.int
  clear b0 bP bR hb1 hb2 h
  rcases hp : pkgB (nm, ims, fs) with _ | _
  · have hF : foldPk (nm, ims, fs) = ([], [], []) := by unfold foldPk; rw [hp]; rfl
    rw [hF]
    rw [hp] at HOk
    simp only
    clear hF hp hbw
    go_enter Tryz.func8, Tryz.ntmps8
    go_wp2_with fail
    refine Calls.mono HOk.out ?_
    rintro e w3 ⟨rfl, hb3⟩
    obtain ⟨_, br, hbw⟩ := HZ.out w3 hb3
    have r0 := br.box.c0
    have r1 := br.box.c1
    have r2 := br.box.c2
    have rf0 := br.fr 0
    have rf1 := br.fr 1
    have rf2 := br.fr 2
    obtain ⟨V, hV, v0, v1, v2, hgV⟩ := set3 (.string ⟨#[]⟩) (.slice none 0 0) (.slice none 0 0) r0 r1 r2
    have HR1 : Hid (V.ownsRow w.heap.size 9 1 (.slice none 0 0) 0 (strV [])) := World.ownsRow_nil V _ _ _
    have HR2 : Hid (FnsOwn V w.heap.size (.slice none 0 0) []) := FnsOwn.nil V _
    have HR3 : Hid (Below w.heap.size w V) := hbw.grown hgV hbw.size (fun k e => by injection e with e; omega)
    clear hbw hgV br hb3
    go_wp2
    refine bodyPost_ret (v := .agg #[.string ⟨#[]⟩, .slice none 0 0, .slice none 0 0]) (by simp [results, Tryz.results8, go_sem, v0, v1, v2]) rfl ?_
    have q1 := HR1.out
    have q2 := HR2.out
    have q3 := HR3.out
    first | exact ⟨_, _, _, rfl, rfl, q1, q2, Apart.nil, q3⟩ | (rw [hP0] at q1 q2 q3; exact ⟨_, _, _, rfl, rfl, q1, q2, Apart.nil, q3⟩) | (rw [hP0] at q1 q2 q3; exact ⟨_, _, rfl, [], rfl, q1, q2, Apart.nil, q3⟩)
  · have hF : foldPk (nm, ims, fs) = (nm, ims, fs.map foldF) := by unfold foldPk; rw [hp]; rfl
    rw [hF]
    rw [hp] at HOk
    simp only
    have HPp : Hid (pkgB (nm, ims, fs) = true) := hp
    clear hF hp hbw
    go_enter Tryz.func8, Tryz.ntmps8
    go_wp2_with fail
    refine Calls.mono HOk.out ?_
    rintro e w3 ⟨rfl, hb3⟩
    obtain ⟨bp, _, _⟩ := HZ.out w3 hb3
    have y0 := bp.box.c0
    have y1 := bp.box.c1
    have y2 := bp.box.c2
    have HB3 : Hid (Below W2.heap.size W2 w3) := hb3
    clear bp hb3 p0 p1 p2 HOk
    go_wp2_with fail
    refine (stringsClone nm _ hnl).mono ?_
    rintro e w4 ⟨rfl, hb4⟩
    have hb24 := HB3.out.trans (hb4.mono HB3.out.size)
    obtain ⟨bS, hb5⟩ := Bq.new w4 (.string ⟨nm.toArray⟩) (.slice none 0 0) (.slice none 0 0) 30
    obtain ⟨X, hX⟩ : ∃ X, w4.alloc (.cells #[.string ⟨nm.toArray⟩, .slice none 0 0, .slice none 0 0] 30) = X := ⟨_, rfl⟩
    rw [hX] at bS hb5
    obtain ⟨S, hS⟩ : ∃ S, w4.heap.size = S := ⟨_, rfl⟩
    rw [hS] at bS
    have z1 := bS.box.c1
    have z2 := bS.box.c2
    have zf1 := bS.fr 1
    have zf2 := bS.fr 2
    have hSl : S < X.heap.size := bS.box.lt
    have bS2 := (bS.s1 (.slice none 0 0)).s2 (.slice none 0 0)
    have hbX : Below W2.heap.size W2 X := hb24.trans (hb5.mono hb24.size)
    have hES : W2.heap.size ≤ S := by rw [← hS]; exact hb24.size
    have hg1 := grown_set X S 1 (.slice none 0 0)
    have hg2 := grown_set (X.setCell ⟨S, 1, none⟩ (.slice none 0 0)) S 2 (.slice none 0 0)
    have hbX1 := hbX.grown hg1 hbX.size (fun k e => by injection e with e; omega)
    have hbX2 := hbX1.grown hg2 hbX1.size (fun k e => by injection e with e; omega)
    obtain ⟨X2, hX2⟩ : ∃ X2, (X.setCell ⟨S, 1, none⟩ (.slice none 0 0)).setCell ⟨S, 2, none⟩ (.slice none 0 0) = X2 := ⟨_, rfl⟩
    rw [hX2] at bS2 hbX2
    have HS0 : Hid (Sp11 W2 X2 W2.heap.size S nm none 0 0 [] none 0 0 []) := ⟨bS2, World.ownsRow_nil _ _ _ _, FnsOwn.nil _ _, rfl, rfl, Apart.nil, hES, hbX2⟩
    obtain ⟨bp, _, _⟩ := HZ.out X2 HS0.out.b
    have x0 := bp.box.c0
    have x1 := bp.box.c1
    have x2 := bp.box.c2
    clear bp hb24 hb4 hb5 bS y0 y1 y2 bS2 hbX hg1 hg2 hbX1 hbX2 hSl
    go_wp2
    go_loopw [19] (fun iv wx => ∃ (i : Nat) (va : Option Addr) (vc : Nat), iv = .int .i64 (i : Int) ∧ i ≤ il ∧ Hid (Sp11 W2 wx W2.heap.size S nm va i vc (ims.take i) none 0 0 [])) (fun iv _ => il - (intOf iv).toNat)
    case atStart => exact ⟨0, none, 0, rfl, Nat.zero_le _, by exact HS0⟩
    case round =>
      obtain ⟨i, va, vc, rfl, hi, HSr⟩ := hrel
      clear HS0 x0 x1 x2 z1 z2 zf1 zf2
      by_cases hlt : (i : Int) < (il : Int)
      · obtain ⟨b, off, rfl, hbl, hcells⟩ := (HPk.out wr HSr.out.b).i.at (by omega)
        have ck := hcells i (by omega)
        have hs := HIs.out i
        have htk : ims.take (i + 1) = ims.take i ++ [ims.getD i []] := by
          have hil2 : i < ims.length := by rw [HIl.out]; omega
          have hg : ims.getD i [] = ims[i] := by simp [List.getD, hil2]
          rw [hg, List.take_succ_eq_append_getElem hil2]
        obtain ⟨s, hse⟩ : ∃ s, ims.getD i [] = s := ⟨_, rfl⟩
        rw [hse] at ck hs htk
        have HTk : Hid (ims.take (i + 1) = ims.take i ++ [s]) := htk
        have o1 := HSr.out.box.box.c1
        have hSl : S < wr.heap.size := HSr.out.box.box.lt
        have HSt : Hid (∀ w5, Below wr.heap.size wr w5 → ∃ g' c' Y, (Builtin.append_ #[27, 27] 27 #[.slice va i vc, .slice (some ⟨w5.heap.size, 0, none⟩) 1 1]).run Tryz.prog (w5.alloc (.cells #[.string ⟨s.toArray⟩] 9)) = .ok (.slice (some ⟨g', 0, none⟩) (i + 1) c') Y ∧ Y.cell? ⟨S, 1, none⟩ = some (.slice va i vc) ∧ Y.frozen? ⟨S, 1, none⟩ = false ∧ Sp11 W2 (Y.setCell ⟨S, 1, none⟩ (.slice (some ⟨g', 0, none⟩) (i + 1) c')) W2.heap.size S nm (some ⟨g', 0, none⟩) (i + 1) c' (ims.take (i + 1)) none 0 0 [] ∧ w5.cell? ⟨S, 1, none⟩ = some (.slice va i vc) ∧ (w5.alloc (.cells #[.string ⟨s.toArray⟩] 9)).cell? ⟨S, 1, none⟩ = some (.slice va i vc)) := fun w5 hb5 => by
          obtain ⟨g', c', Y, h1, h2, h3, h4⟩ := (HSr.out.below hb5).text s (by omega)
          rw [← HTk.out] at h4
          have h5 := (hb5.cell (p := ⟨S, 1, none⟩) hSl).trans o1
          exact ⟨g', c', Y, h1, h2, h3, h4, h5, (((Below.refl _ w5).alloc (Nat.le_refl _) (.cells #[.string ⟨s.toArray⟩] 9)).cell (p := ⟨S, 1, none⟩) (Nat.lt_of_lt_of_le hSl hb5.size)).trans h5⟩
        clear hcells htk hse HSr
        go_wp2_with fail
        go_region_law (first | (refine step_append_run (by rfl) (.tmp 24) (.tmp 27) 27 (by rfl) _ _ _ (by rfl) (by rfl) hr ?_) | (go_simp; go_at_call 26; refine (stringsClone s _ hs).mono ?_; rintro e w5 ⟨rfl, hb5⟩; have hb6 : Below wr.heap.size wr w5 := ⟨hb5.os, hb5.tape, hb5.output, hb5.size, hb5.block⟩; obtain ⟨g', c', Y, hr, y1, yf, hq, o15, o16⟩ := HSt.out w5 hb6; have HQ : Hid (_) := hq; clear hb5 hb6 hq; dsimp only))
        all_goals
          go_wp2
          go_roundw
          case rel => exact ⟨i + 1, some ⟨g', 0, none⟩, c', by go_num, by omega, HQ⟩
          case measure => simp [intOf]; omega
      · obtain rfl : i = il := by omega
        have htk : ims.take i = ims := List.take_of_length_le (by rw [HIl.out]; exact Nat.le_refl _)
        rw [htk] at HSr
        obtain ⟨bp, _, _⟩ := HZ.out wr HSr.out.b
        have x2 := bp.box.c2
        have HF0 : Hid (([] : List FV).map (·.1) = (fs.take 0).map foldF) := by exact (by simp : ([] : List FV).map (·.1) = (fs.take 0).map foldF)
        clear bp htk
        go_wp2
        go_loopw [34] (fun jv wx => ∃ (j : Nat) (zs : List FV) (ga : Option Addr) (gc : Nat), jv = .int .i64 (j : Int) ∧ j ≤ fl ∧ Hid (zs.map (·.1) = (fs.take j).map foldF) ∧ Hid (Sp11 W2 wx W2.heap.size S nm va i vc ims ga j gc zs)) (fun jv _ => fl - (intOf jv).toNat)
        case atStart => exact ⟨0, [], none, 0, rfl, Nat.zero_le _, HF0, HSr⟩
        case round =>
          obtain ⟨j, zs, ga, gc, rfl, hj, HM, HSq⟩ := hrel
          clear HF0 HSr x2
          obtain ⟨bp, br, hbw⟩ := HZ.out _ HSq.out.b
          by_cases hlt2 : (j : Int) < (fl : Int)
          · have hj2 : j < fl := by omega
            obtain ⟨b, off, rfl, hbl, c0, c1, ta, tl, tc, c2, htn, hno⟩ := (HPk.out _ HSq.out.b).f.2 j hj2
            have hsm := HFs.out j
            have hin := HIF.out j
            have htk : fs.take (j + 1) = fs.take j ++ [fs.getD j fn0] := by
              have hjl : j < fs.length := by rw [HFl.out]; omega
              have hg : fs.getD j fn0 = fs[j] := by simp [List.getD, hjl]
              rw [hg, List.take_succ_eq_append_getElem hjl]
            obtain ⟨f, hf⟩ : ∃ f, fs.getD j fn0 = f := ⟨_, rfl⟩
            rw [hf] at c0 c1 hno hsm htk hin
            obtain ⟨s, n, tt⟩ := f
            simp only at c0 c1 hno hsm hin
            have hs := hsm.1
            have HTk : Hid (fs.take (j + 1) = fs.take j ++ [(s, n, tt)]) := htk
            obtain ⟨bF, hbF⟩ := Box3.new wr (.string ⟨s.toArray⟩) (.int .i64 n) (.slice ta tl tc) 52
            obtain ⟨X1, hX1⟩ : ∃ X1, wr.alloc (.cells #[.string ⟨s.toArray⟩, .int .i64 n, .slice ta tl tc] 52) = X1 := ⟨_, rfl⟩
            rw [hX1] at bF hbF
            have hrF0 : ∀ k, (Value.slice ga j gc).ownBlock = some k → k < wr.heap.size := fun k e => (HSq.out.fns.row.lt k e).2
            have hSF0 : S < wr.heap.size := HSq.out.box.box.lt
            obtain ⟨F, hFe⟩ : ∃ F, wr.heap.size = F := ⟨_, rfl⟩
            rw [hFe] at bF hrF0 hSF0
            have HrF : Hid (∀ k, (Value.slice ga j gc).ownBlock = some k → k < F) := hrF0
            have st : Fq11 W2 X1 W2.heap.size S F nm va i vc ims ga j gc zs s n ta tl tc tt := ⟨HSq.out.below hbF, bF, hno.below hbF⟩
            have HFt : Hid (∀ Z, NodesIn Z ta tl tt → Calls Tryz.prog 6 #[.slice ta tl tc] Z fun e w' => ∃ v, e = .returned v ∧ w'.ownsRow Z.heap.size 46 4 v (foldT tt).length (nodesV (foldT tt)) ∧ Below Z.heap.size Z w') := fun Z hz => implFoldedTree ta tl tc tt Z hz hin.2 hsm.2.2 (by have := hz.1; have := hsm.2.1; omega)
            have HSt : Hid (∀ wm wn v, Fq11 W2 wm W2.heap.size S F nm va i vc ims ga j gc zs s n ta tl tc tt → wn.ownsRow wm.heap.size 46 4 v (foldT tt).length (nodesV (foldT tt)) → Below wm.heap.size wm wn → ∃ a' l' c' g' d' Y zs', v = .slice a' l' c' ∧ (Builtin.append_ #[28, 28] 28 #[.slice ga j gc, .slice (some ⟨wn.heap.size, 0, none⟩) 1 1]).run Tryz.prog (wn.alloc (.cells #[.string ⟨s.toArray⟩, .int .i64 n, .slice a' l' c'] 52)) = .ok (.slice (some ⟨g', 0, none⟩) (j + 1) d') Y ∧ Y.cell? ⟨S, 2, none⟩ = some (.slice ga j gc) ∧ Y.frozen? ⟨S, 2, none⟩ = false ∧ Sp11 W2 (Y.setCell ⟨S, 2, none⟩ (.slice (some ⟨g', 0, none⟩) (j + 1) d')) W2.heap.size S nm va i vc ims (some ⟨g', 0, none⟩) (j + 1) d' zs' ∧ zs'.map (·.1) = (fs.take (j + 1)).map foldF ∧ Box3 wn F (.string ⟨s.toArray⟩) (.int .i64 n) (.slice ta tl tc) ∧ Box3 Y F (.string ⟨s.toArray⟩) (.int .i64 n) (.slice ta tl tc) ∧ wn.cell? ⟨S, 2, none⟩ = some (.slice ga j gc) ∧ (wn.alloc (.cells #[.string ⟨s.toArray⟩, .int .i64 n, .slice a' l' c'] 52)).cell? ⟨S, 2, none⟩ = some (.slice ga j gc)) := fun wm wn v hq hv hb => by
              obtain ⟨_, a', c', rfl, _⟩ := own_nodes hv
              have hqn := hq.below hb
              have hsl := hq.sp.box.box.lt
              obtain ⟨g', d', Y, h1, h2, h3, h4, h5⟩ := hqn.sp.func ((s, n, foldT tt), a', c') (own_base hv hsl) (fun z hz => own_ahead (hq.sp.fns.trees z hz) hv (Nat.le_refl _)) (by omega)
              have hFl : F < wn.heap.size := hqn.fb.lt
              refine ⟨a', _, c', g', d', Y, _, rfl, h1, h2, h3, h4, ?_, hqn.fb, hqn.fb.keep (h5.block F hFl (fun e => by have := HrF.out F e.symm; omega)), hqn.sp.box.box.c2, (((Below.refl _ wn).alloc (Nat.le_refl _) _).cell (p := ⟨S, 2, none⟩) hqn.sp.box.box.lt).trans hqn.sp.box.box.c2⟩
              rw [List.map_append, HM.out, HTk.out, List.map_append]
              rfl
            have o2 := st.sp.box.box.c2
            have d0 := st.fb.c0
            have d1 := st.fb.c1
            have d2 := st.fb.c2
            have hSF : S ≠ F := by omega
            clear bp br hbw hno htn hsm hin htk hf HSq HM HTk bF hbF hrF0 hSF0
            go_wp2_with fail
            replace st : Fq11 W2 X1.drew W2.heap.size S F nm va i vc ims ga j gc zs s n ta tl tc tt := st.below ⟨rfl, rfl, rfl, Nat.le_refl _, fun _ _ => rfl⟩
            refine Till.region (S := (fun w' => w'.cell? ⟨F, 0, none⟩ = some (.string ⟨s.toArray⟩) ∧ w'.cell? ⟨F, 1, none⟩ = some (.int .i64 n) ∧ w'.cell? ⟨F, 2, none⟩ = some (.slice ta tl tc) ∧ w'.cell? ⟨S, 2, none⟩ = some (.slice ga j gc))) (E := [14]) (by kernel_rfl) ?_ (fun hHeld hSh => ?_)
            · first | (dsimp only; done) | (dsimp only; go_keep) | go_keep
            refine Till.take (i := 0) (o := ⟨some 38, _, _, _, _, _⟩) (v := ?v0) (d := 30) rfl (by kernel_rfl) (by kernel_rfl) (by kernel_rfl) (by kernel_rfl) (fun _ _ _ h => h) (Or.inl ⟨by rfl, ?hy0⟩) (by assumption) hSh (fun hSh2 => ?rest0)
            case hy0 => (intro wq hSw; (try dsimp only at hSw); first | (go_simp; done) | (go_simp; with_reducible rfl))
            clear hSh; rename Shut11 _ _ _ => hSh
            simp only [Act.put, List.setIfInBounds_toArray, List.set_cons_zero, List.set_cons_succ]
            refine Till.take (i := 1) (o := ⟨some 39, _, _, _, _, _⟩) (v := ?v1) (d := 30) rfl (by kernel_rfl) (by kernel_rfl) (by kernel_rfl) (by kernel_rfl) (fun _ _ _ h => h) (Or.inl ⟨by rfl, ?hy1⟩) (by assumption) hSh (fun hSh2 => ?rest1)
            case hy1 => (intro wq hSw; (try dsimp only at hSw); first | (go_simp; done) | (go_simp; with_reducible rfl))
            clear hSh; rename Shut11 _ _ _ => hSh
            simp only [Act.put, List.setIfInBounds_toArray, List.set_cons_zero, List.set_cons_succ]
            refine Till.take (i := 2) (o := ⟨some 40, _, _, _, _, _⟩) (v := ?v2) (d := 30) rfl (by kernel_rfl) (by kernel_rfl) (by kernel_rfl) (by kernel_rfl) (fun _ _ _ h => h) (Or.inl ⟨by rfl, ?hy2⟩) (by assumption) hSh (fun hSh2 => ?rest2)
            case hy2 => (intro wq hSw; (try dsimp only at hSw); first | (go_simp; done) | (go_simp; with_reducible rfl))
            clear hSh; rename Shut11 _ _ _ => hSh
            simp only [Act.put, List.setIfInBounds_toArray, List.set_cons_zero, List.set_cons_succ]
            refine Till.take (i := 3) (o := ⟨some 41, _, _, _, _, _⟩) (v := ?v3) (d := 30) rfl (by kernel_rfl) (by kernel_rfl) (by kernel_rfl) (by kernel_rfl) (fun _ _ _ h => h) (Or.inl ⟨by rfl, ?hy3⟩) (by assumption) hSh (fun hSh2 => ?rest3)
            case hy3 => (intro wq hSw; (try dsimp only at hSw); first | (go_simp; done) | (go_simp; with_reducible rfl))
            clear hSh; rename Shut11 _ _ _ => hSh
            simp only [Act.put, List.setIfInBounds_toArray, List.set_cons_zero, List.set_cons_succ]
            refine Till.take (i := 5) (o := ⟨some 43, _, _, _, _, _⟩) (v := ?v5) (d := 30) rfl (by kernel_rfl) (by kernel_rfl) (by kernel_rfl) (by kernel_rfl) (fun _ _ _ h => h) (Or.inl ⟨by rfl, ?hy5⟩) (by assumption) hSh (fun hSh2 => ?rest5)
            case hy5 => (intro wq hSw; (try dsimp only at hSw); first | (go_simp; done) | (go_simp; with_reducible rfl))
            clear hSh; rename Shut11 _ _ _ => hSh
            simp only [Act.put, List.setIfInBounds_toArray, List.set_cons_zero, List.set_cons_succ]
            refine Till.take (i := 6) (o := ⟨some 44, _, _, _, _, _⟩) (v := ?v6) (d := 30) rfl (by kernel_rfl) (by kernel_rfl) (by kernel_rfl) (by kernel_rfl) (fun _ _ _ h => h) (Or.inl ⟨by rfl, ?hy6⟩) (by assumption) hSh (fun hSh2 => ?rest6)
            case hy6 => (intro wq hSw; (try dsimp only at hSw); first | (go_simp; done) | (go_simp; with_reducible rfl))
            clear hSh; rename Shut11 _ _ _ => hSh
            simp only [Act.put, List.setIfInBounds_toArray, List.set_cons_zero, List.set_cons_succ]
            refine Till.take (i := 7) (o := ⟨some 45, _, _, _, _, _⟩) (v := ?v7) (d := 30) rfl (by kernel_rfl) (by kernel_rfl) (by kernel_rfl) (by kernel_rfl) (fun _ _ _ h => h) (Or.inl ⟨by rfl, ?hy7⟩) (by assumption) hSh (fun hSh2 => ?rest7)
            case hy7 => (intro wq hSw; (try dsimp only at hSw); first | (go_simp; done) | (go_simp; with_reducible rfl))
            clear hSh; rename Shut11 _ _ _ => hSh
            simp only [Act.put, List.setIfInBounds_toArray, List.set_cons_zero, List.set_cons_succ]
            refine Till.take (i := 8) (o := ⟨some 46, _, _, _, _, _⟩) (v := ?v8) (d := 30) rfl (by kernel_rfl) (by kernel_rfl) (by kernel_rfl) (by kernel_rfl) (fun _ _ _ h => h) (Or.inl ⟨by rfl, ?hy8⟩) (by assumption) hSh (fun hSh2 => ?rest8)
            case hy8 => (intro wq hSw; (try dsimp only at hSw); first | (go_simp; done) | (go_simp; with_reducible rfl))
            clear hSh; rename Shut11 _ _ _ => hSh
            simp only [Act.put, List.setIfInBounds_toArray, List.set_cons_zero, List.set_cons_succ]
            refine Till.one (i := 4) (by kernel_rfl) rfl hSh (fun K hK => ?_)
            clear hSh
            go_simp
            go_at_call 26; refine (stringsClone s _ hs).mono ?_; rintro e wm ⟨rfl, hbm⟩; replace st := st.below hbm; replace o2 := st.sp.box.box.c2; replace d0 := st.fb.c0; replace d1 := st.fb.c1; replace d2 := st.fb.c2; clear hbm; dsimp only
            refine hK.out _ _ ?_ (fun hHeld hSh => ?_)
            · first | (dsimp only; done) | (dsimp only; go_keep) | go_keep
            clear hK K
            refine Till.one (i := 9) (by kernel_rfl) rfl hSh (fun K hK => ?_)
            clear hSh
            go_simp
            go_at_call 6; refine Calls.mono (HFt.out _ st.no) ?_; rintro e wn ⟨v, rfl, hv, hbn⟩; obtain ⟨a', l', c', g', d', Y, zs', rfl, hr, y2, yf, hq, hm, fbn, fbY, o25, o26⟩ := HSt.out _ wn v st hv hbn; replace d0 := fbn.c0; replace d1 := fbn.c1; replace d2 := fbn.c2; have e0 := fbY.c0; have e1 := fbY.c1; have e2 := fbY.c2; have HQ : Hid (_) := hq; have HQm : Hid (_) := hm; clear hv hbn hq hm fbn fbY st; dsimp only
            refine hK.out _ _ ?_ (fun hHeld hSh => ?_)
            · first | (dsimp only; done) | (dsimp only; go_keep) | go_keep
            clear hK K
            refine Till.take (i := 10) (o := ⟨some 48, _, _, _, _, _⟩) (v := ?v10) (d := 30) rfl (by kernel_rfl) (by kernel_rfl) (by kernel_rfl) (by kernel_rfl) (fun _ _ _ h => h) (Or.inl ⟨by rfl, ?hy10⟩) (by assumption) hSh (fun hSh2 => ?rest10)
            case hy10 => (intro wq hSw; (try dsimp only at hSw); first | (go_simp; done) | (go_simp; with_reducible rfl))
            clear hSh; rename Shut11 _ _ _ => hSh
            simp only [Act.put, List.setIfInBounds_toArray, List.set_cons_zero, List.set_cons_succ]
            refine Till.one (i := 11) (by kernel_rfl) rfl hSh (fun K hK => ?_)
            clear hSh
            go_simp
            skip
            refine hK.out _ _ ?_ (fun hHeld hSh => ?_)
            · first | (dsimp only; done) | (dsimp only; go_keep) | go_keep
            clear hK K
            refine Till.one (i := 12) (by kernel_rfl) rfl hSh (fun K hK => ?_)
            clear hSh
            refine step_append_run (by rfl) (.tmp 39) (.tmp 49) 28 (by rfl) _ _ _ (by rfl) (by rfl) hr ?_
            refine hK.out _ _ ?_ (fun hHeld hSh => ?_)
            · first | (dsimp only; done) | (dsimp only; go_keep) | go_keep
            clear hK K
            refine Till.take (i := 13) (o := ⟨some 51, _, _, _, _, _⟩) (v := ?v13) (d := 30) rfl (by kernel_rfl) (by kernel_rfl) (by kernel_rfl) (by kernel_rfl) (fun _ _ _ h => h) (Or.inl ⟨by rfl, ?hy13⟩) (by assumption) hSh (fun hSh2 => ?rest13)
            case hy13 => (intro wq hSw; (try dsimp only at hSw); first | (go_simp; done) | (go_simp; with_reducible rfl))
            clear hSh; rename Shut11 _ _ _ => hSh
            simp only [Act.put, List.setIfInBounds_toArray]
            refine Till.last (i := 14) (by kernel_rfl) rfl (by decide) (fun K hK => ?_)
            go_simp
            refine hK.out _ _ ?_
            clear hK K
            refine Till.done (by kernel_rfl) ?_ _
            all_goals
              go_wp2
              go_roundw
              case rel => exact ⟨j + 1, zs', some ⟨g', 0, none⟩, d', by go_num, by omega, HQm, HQ⟩
              case measure => simp [intOf]; omega
          · have hje : j = fl := by omega
            have o0 := HSq.out.box.box.c0
            have o1 := HSq.out.box.box.c1
            have o2 := HSq.out.box.box.c2
            have r0 := br.box.c0
            have r1 := br.box.c1
            have r2 := br.box.c2
            have rf0 := br.fr 0
            have rf1 := br.fr 1
            have rf2 := br.fr 2
            obtain ⟨V, hV, v0, v1, v2, hgV⟩ := set3 (.string ⟨nm.toArray⟩) (.slice va i vc) (.slice ga j gc) r0 r1 r2
            have hwV : Wrote _ V (fun k => k = R0) := Wrote.of_grown hgV (fun k e => by injection e with e; exact e.symm)
            have hfx := HSq.out.fns
            have htx := HSq.out.txt
            have HR1 : Hid (V.ownsRow w.heap.size 9 1 (.slice va i vc) i (strV ims)) := own_base (own_wrote htx hwV (fun k e h => by have := (htx.lt k e).1; omega)) (by omega)
            have HR2 : Hid (FnsOwn V w.heap.size (.slice ga j gc) zs) := FnsOwn.base ⟨own_wrote hfx.row hwV (fun k e h => by have := (hfx.row.lt k e).1; omega), fun z hz => own_wrote (hfx.trees z hz) hwV (fun k e h => by have := ((hfx.trees z hz).lt k e).1; omega)⟩ (by omega)
            have HR3 : Hid (Below w.heap.size w V) := hbw.grown hgV hbw.size (fun k e => by injection e with e; omega)
            have HR4 : Hid (Apart (zs.map fvT)) := HSq.out.ap
            have HM2 : Hid (zs.map (·.1) = fs.map foldF) := by
              have h1 := HM.out
              rw [List.take_of_length_le (by rw [HFl.out]; omega)] at h1
              exact h1
            clear bp br hbw hgV hwV HSq hje hfx htx HM
            go_wp2
            refine bodyPost_ret (v := .agg #[.string ⟨nm.toArray⟩, .slice va i vc, .slice ga j gc]) (by simp [results, Tryz.results8, go_sem, v0, v1, v2]) rfl ?_
            have q1 := HR1.out
            have q2 := HR2.out
            have q3 := HR3.out
            first | exact ⟨.slice va i vc, .slice ga j gc, rfl, zs, HM2.out, by rw [HIl.out]; exact q1, q2, HR4.out, q3⟩ | (rw [hP0] at q1 q2 q3; exact ⟨.slice va i vc, .slice ga j gc, rfl, zs, HM2.out, by rw [HIl.out]; exact q1, q2, HR4.out, q3⟩)

end Go.Proofs.YtkjojhkpoooimaaGreat

/-! A package in rows of its own, as the exact law of FoldedPackage holds three of them. -/
namespace Go.Proofs.YtkjojhkpoooimaaGreat
open Go.RowKit

/-- A package whose rows lie from lo on, ahead of hi. -/
structure Pv11 (Z : World) (lo hi : Nat) (ai : Option Addr) (il ci : Nat) (af : Option Addr) (fl cf : Nat) (ims : List (List UInt8)) (fs : List Fn) (xs : List FV) : Prop where
  oi : Z.ownsRow lo 9 1 (.slice ai il ci) il (strV ims)
  of : FnsOwn Z lo (.slice af fl cf) xs
  xm : xs.map (·.1) = fs
  li : ims.length = il
  lf : fs.length = fl
  at_ : ∀ k, PkBlocks (.slice ai il ci) (.slice af fl cf) xs k → lo ≤ k ∧ k < hi
section
variable {Z Y : World} {lo hi : Nat} {ai : Option Addr} {il ci : Nat} {af : Option Addr} {fl cf : Nat} {ims : List (List UInt8)} {fs : List Fn} {xs : List FV}
theorem Pv11.below (h : Pv11 Z lo hi ai il ci af fl cf ims fs xs) (hb : Below Z.heap.size Z Y) : Pv11 Y lo hi ai il ci af fl cf ims fs xs := ⟨own_below h.oi hb, h.of.below hb, h.xm, h.li, h.lf, h.at_⟩
theorem Pv11.wrote (h : Pv11 Z lo hi ai il ci af fl cf ims fs xs) {S : Nat → Prop} (hw : Wrote Z Y S) (hs : ∀ k, S k → k < lo ∨ hi ≤ k) : Pv11 Y lo hi ai il ci af fl cf ims fs xs :=
  ⟨own_wrote h.oi hw (fun k e hk => by have := h.at_ k (Or.inl e); have := hs k hk; omega), ⟨own_wrote h.of.row hw (fun k e hk => by have := h.at_ k (Or.inr (Or.inl e)); have := hs k hk; omega), fun x hx => own_wrote (h.of.trees x hx) hw (fun k e hk => by have := h.at_ k (Or.inr (Or.inr ⟨x, hx, e⟩)); have := hs k hk; omega)⟩, h.xm, h.li, h.lf, h.at_⟩
theorem Pv11.none (h : Pv11 Z lo hi ai il ci af fl cf ims fs xs) (hg : Z.grownBy Y none) : Pv11 Y lo hi ai il ci af fl cf ims fs xs := h.wrote (S := fun _ => False) (Wrote.of_grown hg (fun k e => by cases e)) (fun k e => e.elim)
theorem Pv11.drew (h : Pv11 Z lo hi ai il ci af fl cf ims fs xs) : Pv11 Z.drew lo hi ai il ci af fl cf ims fs xs := h.below ⟨rfl, rfl, rfl, Nat.le_refl _, fun _ _ => rfl⟩
theorem Pv11.in (h : Pv11 Z lo hi ai il ci af fl cf ims fs xs) : TextsIn Z ai il ims ∧ FuncsIn Z af fl fs := by
  have hoi := h.oi
  rw [← h.li] at hoi
  obtain ⟨_, _, _, _, e1, e2, _, _, h1, h2⟩ := own_pk hoi h.of h.xm
  injection e1 with a1 _ a3
  injection e2 with b1 _ b3
  subst a1 a3 b1 b3
  rw [← h.li, ← h.lf]
  exact ⟨h1, h2⟩
theorem Pv11.len (h : Pv11 Z lo hi ai il ci af fl cf ims fs xs) : xs.length = fl := by rw [← h.lf, ← h.xm, List.length_map]
theorem Pv11.new {vi vf : Value} (hoi : Z.ownsRow lo 9 1 vi ims.length (strV ims)) (hof : FnsOwn Z lo vf xs) (hxs : xs.map (·.1) = fs) : ∃ ai ci af cf, vi = .slice ai ims.length ci ∧ vf = .slice af fs.length cf ∧ ((af = Option.none → cf = 0) ∧ fs.length ≤ cf) ∧ (ai = Option.none → ci = 0) ∧ Pv11 Z lo Z.heap.size ai ims.length ci af fs.length cf ims fs xs := by
  obtain ⟨ai, ci, af, cf, rfl, rfl, h0, h1, _, _⟩ := own_pk hoi hof hxs
  refine ⟨ai, ci, af, cf, rfl, rfl, h1, h0, hoi, hof, hxs, rfl, rfl, fun k hk => ?_⟩
  rcases hk with e | e | ⟨x, hx, e⟩
  · exact hoi.lt k e
  · exact hof.row.lt k e
  · exact (hof.trees x hx).lt k e
end

theorem foldPk_small (p : Pk) : (foldPk p).2.1.length ≤ 6 ∧ (foldPk p).2.2.length ≤ 8 ∧ ∀ f ∈ (foldPk p).2.2, f.2.2.length ≤ 60 := by
  unfold foldPk
  split
  · rename_i h
    obtain ⟨h1, h2, h3⟩ := pkgB_small h
    refine ⟨h1, by rw [foldP_len]; exact h2, fun f hf => ?_⟩
    unfold foldP at hf
    obtain ⟨g, hg, rfl⟩ := List.mem_map.1 hf
    have := (foldT_len g.2.2)
    exact this
  · exact ⟨by simp, by simp, fun f hf => by simp at hf⟩

end Go.Proofs.YtkjojhkpoooimaaGreat

/-! Plain facts for FnPackages. -/
namespace Go.Proofs.YtkjojhkpoooimaaGreat
open Go.RowKit

theorem xs_int {xs : List FV} (h : SmallXs xs) : IntF (xs.map (·.1)) := fun j =>
  have hs := xs_fn h j
  ⟨⟨by have := hs.2.1; omega, by have := hs.2.1; omega⟩, hs.2.2.2.int⟩

/-- A drawn package, as the landed functions are told of it. -/
theorem Drawn7.ok {w wx : World} {v : Value} {nm : List UInt8} {ims : List (List UInt8)} {xs : List FV} (h : Drawn7 w wx v nm ims xs) :
    ∃ ia ic fa fc, v = .agg #[.string ⟨nm.toArray⟩, .slice ia ims.length ic, .slice fa (xs.map (·.1)).length fc] ∧ PkOk wx nm ia ims.length ic fa (xs.map (·.1)).length fc ims (xs.map (·.1)) := by
  obtain ⟨ia, ic, fa, fc, rfl, h1, h2, h3, h4, ho, hf⟩ := h
  obtain ⟨ai, ci, af, cf, e1, e2, hi, hc, hti, hfi⟩ := own_pk ho hf rfl
  rw [e1, e2]
  exact ⟨ai, ci, af, cf, rfl, hti, hfi, hi, hc, xs_int h4, by omega, by rw [List.length_map]; omega, by omega, ims_short h2.2, xs_short h4⟩

theorem nodeB_small7 {n : Nd} (h : nodeB n = true) : SmallN n := by
  obtain ⟨k, a, p, f⟩ := n
  have hp := nodeB_iff.1 h
  unfold nodeP at hp
  simp only at hp
  unfold SmallN IntN
  simp only
  rcases hp with ⟨rfl, ⟨h0, h1⟩, rfl, rfl⟩ | ⟨rfl, ⟨h0, h1⟩, rfl, rfl⟩ | ⟨hk, rfl, rfl, rfl⟩ | ⟨rfl, ⟨h0, h1⟩, hpn, hfn⟩
  · exact ⟨⟨⟨by omega, by omega⟩, by omega, by omega⟩, by simp, by simp⟩
  · exact ⟨⟨⟨by omega, by omega⟩, by omega, by omega⟩, by simp, by simp⟩
  · exact ⟨⟨⟨by omega, by omega⟩, by omega, by omega⟩, by simp, by simp⟩
  · have := (name_letters hpn).1
    have := (name_letters hfn).1
    exact ⟨⟨⟨by omega, by omega⟩, by omega, by omega⟩, by omega, by omega⟩

theorem tree_small7 {ns : List Nd} (h : treeB ns = true) : SmallT ns := fun n hn => nodeB_small7 (tree_nodes h n hn)

/-- A good package is small. -/
theorem pkgB_fn {p : Pk} (h : pkgB p = true) (j : Nat) : SmallFn (p.2.2.getD j fn0) := by
  rw [List.getD_eq_getElem?_getD]
  cases hj : p.2.2[j]? with
  | none => exact ⟨by decide, ⟨by decide, by decide⟩, by decide, fun n hn => by cases hn⟩
  | some f =>
    have hb := (pkgB_parts h).2.2.2.2 f (List.mem_of_getElem? hj)
    unfold funcB at hb
    rw [Bool.and_eq_true, Bool.and_eq_true] at hb
    have h1 := (name_letters hb.1).1.2
    have h2 : 0 ≤ f.2.1 ∧ f.2.1 ≤ 3 := by have := hb.2.1; unfold inB at this; simpa using this
    have h3 := (tree_end hb.2.2).1.2
    show SmallFn f
    exact ⟨by omega, by omega, by omega, tree_small7 hb.2.2⟩
end Go.Proofs.YtkjojhkpoooimaaGreat
