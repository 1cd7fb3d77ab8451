/-
  Parts of one proof, one behind the other: ObOf.
-/
import Derived.Test.YtkpdoedpkncboaaGreatP28
import Derived.Test.YtkpdoedpkncboaaGreatP3
namespace Go.Proofs.YtkpdoedpkncboaaGreat
open Go.RowKit
set_option maxHeartbeats 4000000 in
set_option maxRecDepth 100000 in
theorem zgK (nm : List UInt8) (ia : Option Addr) (il ic : Nat) (fa : Option Addr) (fl fc : Nat) (ims : List (List UInt8)) (fs : List Fn) (w : World) (h : PkOk w nm ia il ic fa fl fc ims fs) :
 Calls Tryz.prog 5 #[.agg #[.string ⟨nm.toArray⟩, .slice ia il ic, .slice fa fl fc]] w fun e w' => ∃ vi vr xs, e = .returned (.agg #[.string ⟨(zbQ (zao (nm, ims, fs))).1.toArray⟩, vi, vr]) ∧ xs.map (·.1) = (zbQ (zao (nm, ims, fs))).2.2 ∧ w'.ownsRow w.heap.size 9 1 vi (zbQ (zao (nm, ims, fs))).2.1.length (strV (zbQ (zao (nm, ims, fs))).2.1) ∧ za6 w' w.heap.size vr xs ∧ Below w.heap.size w w' := by
 obtain ⟨bP, hb1⟩ := Bq.new w (.string ⟨nm.toArray⟩) (.slice ia il ic) (.slice fa fl fc) 33
 obtain ⟨W1, hW1⟩ : ∃ W1, w.alloc (.cells #[.string ⟨nm.toArray⟩, .slice ia il ic, .slice fa fl fc] 33) = W1 := ⟨_, rfl⟩
 rw [hW1] at bP hb1
 obtain ⟨bR, hb2⟩ := Bq.new W1 (.string ⟨#[]⟩) (.slice none 0 0) (.slice none 0 0) 29
 obtain ⟨W2, hW2⟩ : ∃ W2, W1.alloc (.cells #[.string ⟨#[]⟩, .slice none 0 0, .slice none 0 0] 29) = W2 := ⟨_, rfl⟩
 rw [hW2] at bR hb2
 obtain ⟨P0, hP0⟩ : ∃ P0, w.heap.size = P0 := ⟨_, rfl⟩
 obtain ⟨R0, hR0⟩ : ∃ R0, W1.heap.size = R0 := ⟨_, rfl⟩
 rw [hP0] at bP
 rw [hR0] at bR
 have hPl : P0 < W1.heap.size := bP.box.lt
 have hRl : R0 < W2.heap.size := bR.box.lt
 have hPR : P0 ≤ R0 := by omega
 have hbw : Below w.heap.size w W2 := hb1.trans (hb2.mono hb1.size)
 have HZ : Hid (∀ Y, Below W2.heap.size W2 Y → Bq Y P0 (.string ⟨nm.toArray⟩) (.slice ia il ic) (.slice fa fl fc) ∧ Bq Y R0 (.string ⟨#[]⟩) (.slice none 0 0) (.slice none 0 0) ∧ Below w.heap.size w Y) := fun Y hy => ⟨(bP.below hb2).below hy, bR.below hy, hbw.trans (hy.mono hbw.size)⟩
 have HOk : Hid (_) := zg8 nm ia il ic fa fl fc ims fs W2 ((h.below hbw).i) ((h.below hbw).f) h.il h.fl h.nm h.is h.fs
 have HPk : Hid (∀ Y, Below W2.heap.size W2 Y → PkOk Y nm ia il ic fa fl fc ims fs) := fun Y hy => (h.below hbw).below hy
 have HbW : Hid (w.heap.size ≤ W2.heap.size) := hbw.size
 obtain ⟨b0, _, _⟩ := HZ.out W2 (Below.refl _ _)
 have p0 := b0.box.c0
 have p1 := b0.box.c1
 have p2 := b0.box.c2
 clear b0 bP bR hb1 hb2 h hbw
 rcases hp : pkgB (nm, ims, fs) with _ | _
 ·
  have hF : zao (nm, ims, fs) = ([], [], []) := by unfold zao; rw [hp]; rfl
  rw [hF, zkI]
  rw [hp] at HOk
  clear hF hp
  go_enter Tryz.func5, Tryz.ntmps5
  go_wp2_with fail
  refine Calls.mono HOk.out ?_
  rintro e w3 ⟨rfl, hb3⟩
  obtain ⟨_, br, hbw⟩ := HZ.out w3 hb3
  have r0 := br.box.c0
  have r1 := br.box.c1
  have r2 := br.box.c2
  have rf0 := br.fr 0
  have rf1 := br.fr 1
  have rf2 := br.fr 2
  obtain ⟨V, hV, v0, v1, v2, hgV⟩ := set3 (.string ⟨#[]⟩) (.slice none 0 0) (.slice none 0 0) r0 r1 r2
  have HR3 : Hid (Below w.heap.size w V) := hbw.grown hgV hbw.size (fun k e => by injection e with e; omega)
  clear hbw hgV br hb3
  go_wp2
  refine bodyPost_ret (v := .agg #[.string ⟨#[]⟩, .slice none 0 0, .slice none 0 0]) (by simp [results, Tryz.results5, go_sem, v0, v1, v2]) rfl ?_
  have q1 : V.ownsRow w.heap.size 9 1 (.slice none 0 0) 0 (strV []) := World.ownsRow_nil V _ _ _
  have q2 : za6 V w.heap.size (.slice none 0 0) [] := za6.nil V _
  have q3 := HR3.out
  simp only [ob0]
  first | exact ⟨_, _, _, rfl, rfl, q1, q2, q3⟩ | (rw [hP0] at q1 q2 q3; exact ⟨_, _, _, rfl, rfl, q1, q2, q3⟩) | (rw [hP0] at q1 q2 q3; exact ⟨_, _, rfl, [], rfl, q1, q2, q3⟩)
 ·
  have hpk : zao (nm, ims, fs) = (nm, ims, fs.map zbU) := by unfold zao; rw [if_pos hp]; rfl
  rw [hpk]
  clear hpk
  have HOb : Hid (∀ Y, Below W2.heap.size W2 Y → _) := fun Y hy => zgL nm ia il ic fa fl fc ims fs Y (HPk.out Y hy) (Pg15.of_pkg hp)
  rw [hp] at HOk
  generalize zbQ (nm, ims, fs.map zbU) = ob at HOb ⊢
  obtain ⟨on, oi, os⟩ := ob
  simp only at HOb ⊢
  clear hp
  go_enter Tryz.func5, Tryz.ntmps5
  go_wp2_with fail
  refine Calls.mono HOk.out ?_
  rintro e w3 ⟨rfl, hb3⟩
  obtain ⟨bp, _, _⟩ := HZ.out w3 hb3
  have y0 := bp.box.c0
  have y1 := bp.box.c1
  have y2 := bp.box.c2
  have HC : Hid (_) := HOb.out w3 hb3
  have HB3 : Hid (Below W2.heap.size W2 w3) := hb3
  clear bp hb3 p0 p1 p2 HOk
  go_wp2_with fail
  refine Calls.mono HC.out ?_
  rintro e w4 ⟨vi, vr, xs, rfl, hxs, hvi, hvr, hb4⟩
  obtain ⟨av, cv, rfl⟩ := zaE hvi
  obtain ⟨ar, cr, rfl⟩ := zaE hvr.row
  have hb24 := HB3.out.trans (hb4.mono HB3.out.size)
  obtain ⟨_, br, hbw⟩ := HZ.out w4 hb24
  have r0 := br.box.c0
  have r1 := br.box.c1
  have r2 := br.box.c2
  have rf0 := br.fr 0
  have rf1 := br.fr 1
  have rf2 := br.fr 2
  have hs3 := HB3.out.size
  have hsW := HbW.out
  obtain ⟨V, hV, v0, v1, v2, hgV⟩ := set3 (.string ⟨on.toArray⟩) (.slice av oi.length cv) (.slice ar xs.length cr) r0 r1 r2
  have HR3 : Hid (Below w.heap.size w V) := hbw.grown hgV hbw.size (fun k e => by injection e with e; omega)
  have HR1 : Hid (V.ownsRow w.heap.size 9 1 (.slice av oi.length cv) oi.length (strV oi)) := zaj (zaz hvi (by omega) hgV) (by omega)
  have HR2 : Hid (za6 V w.heap.size (.slice ar xs.length cr) xs) := za6.base ⟨zaz hvr.row (by omega) hgV, fun x hx => zaz (hvr.trees x hx) (by omega) hgV⟩ (by omega)
  have HXs : Hid (xs.map (·.1) = os) := hxs
  clear hbw hgV br hb4 hb24 hvi hvr hxs HC
  generalize hgx : xs.length = nx at HR2 hV v2 ⊢
  go_wp2
  refine bodyPost_ret (v := .agg #[.string ⟨on.toArray⟩, .slice av oi.length cv, .slice ar nx cr]) (by simp [results, Tryz.results5, go_sem, v0, v1, v2]) rfl ?_
  have q1 := HR1.out
  have q2 := HR2.out
  have q3 := HR3.out
  first | exact ⟨_, _, _, rfl, HXs.out, q1, q2, q3⟩ | (rw [hP0] at q1 q2 q3; exact ⟨_, _, _, rfl, HXs.out, q1, q2, q3⟩) | (rw [hP0] at q1 q2 q3; exact ⟨_, _, rfl, xs, HXs.out, q1, q2, q3⟩)
end Go.Proofs.YtkpdoedpkncboaaGreat
