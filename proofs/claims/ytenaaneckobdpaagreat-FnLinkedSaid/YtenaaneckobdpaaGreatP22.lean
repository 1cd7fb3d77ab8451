/-
  Parts of one proof, one behind the other: ObO0, RtE, ObH, ObS, RegU, NeedA.
-/
import Derived.Test.YtenaaneckobdpaaGreatP21
import Derived.Test.YtenaaneckobdpaaGreatP16
import Derived.Test.YtenaaneckobdpaaGreatP10
import Derived.Deep.RegionHeld3
import Derived.Test.YtenaaneckobdpaaGreatP4
import Derived.Test.YtenaaneckobdpaaGreatP5
import Derived.Test.YtenaaneckobdpaaGreatP15
import Derived.Test.YtenaaneckobdpaaGreatP3
import Derived.Deep.RegionHeld
import Derived.RegionTactic
import Derived.Deep.CutRange
import Derived.Test.YtenaaneckobdpaaGreatP1
import Derived.Deep.MidRow
import Derived.Great.Walk
import Derived.Laws.StructEq
import Derived.Below
namespace Go.Proofs.YtenaaneckobdpaaGreat
open Go.RowKit
theorem SrcR.src {X : World} {ad : Addr} {zs : List RV} (h : SrcR X ad zs) {n : Nat} (hn : zs.length = n) (cz : Nat) : Src X (.slice (some ad) n cz) zs.length 3 (rtsV zs) := by
 subst hn
 exact ⟨zcT zs, zdo zs, Or.inr ⟨ad, cz, rfl, h⟩⟩
theorem zhB (X : World) : Src X (.slice none 0 0) ([] : List RV).length 3 (rtsV []) := ⟨rfl, (fun u hu => by cases hu), Or.inl ⟨rfl, rfl⟩⟩
theorem appS {X : World} {Bs g c : Nat} {xs zs : List RV} {v : Value} (hv : za7 X Bs (.slice (some ⟨g, 0, none⟩) xs.length c) xs) (hs : Src X v zs.length 3 (rtsV zs)) (ht : ∀ z ∈ zs, X.ownsRow Bs 58 5 (rvT z) z.1.2.2.length (insV z.1.2.2)) (hB : Bs ≤ X.heap.size) (hn : xs.length + zs.length ≤ 4000) :
 ∃ g' c' Y, (Builtin.append_ #[26, 26] 26 #[.slice (some ⟨g, 0, none⟩) xs.length c, v]).run Tryz.prog X = .ok (.slice (some ⟨g', 0, none⟩) (xs.length + zs.length) c') Y ∧ za7 Y Bs (.slice (some ⟨g', 0, none⟩) (xs ++ zs).length c') (xs ++ zs) ∧ X.grownBy Y (some g) ∧ (g' = g ∨ g' = X.heap.size) := by
 obtain ⟨h1, h2, ⟨rfl, h3⟩ | ⟨ad, cz, rfl, h3⟩⟩ := hs
 ·
  obtain rfl : zs = [] := List.length_eq_zero_iff.1 h3
  obtain ⟨i0, hi, hz0, hz1, hz2⟩ := info_parts zgn
  exact ⟨g, c, X, run_append_owned_none (P := Tryz.prog) (w := X) Bs 26 26 41 i0 3 Tryz.underlying26 hi _ _ _ hv.row, by rw [List.append_nil]; exact hv, World.grownBy.refl _ _, Or.inl rfl⟩
 ·
  exact app14 hv h3 ht hB hn
structure Oo15 (W2 X : World) (E0 O : Nat) (nm : List UInt8) (va : Option Addr) (nI vc : Nat) (ims : List (List UInt8)) (ra : Option Addr) (rl rc : Nat) (xs : List RV) : Prop where
 o : Bq X O (.string ⟨nm.toArray⟩) (.slice va nI vc) (.slice ra rl rc)
 rts : za7 X (O + 1) (.slice ra rl rc) xs
 gl : xs.length = rl
 im : X.ownsRow E0 9 1 (.slice va nI vc) nI (strV ims)
 ne : ∀ k, (Value.slice va nI vc).ownBlock = some k → k ≠ O
 eo : E0 ≤ O
 ee : W2.heap.size = E0
 b : Below W2.heap.size W2 X
section
variable {W2 X Y : World} {E0 O : Nat} {nm : List UInt8} {va : Option Addr} {nI vc : Nat} {ims : List (List UInt8)} {ra : Option Addr} {rl rc : Nat} {xs : List RV}
theorem Oo15.below (h : Oo15 W2 X E0 O nm va nI vc ims ra rl rc xs) (hb : Below X.heap.size X Y) : Oo15 W2 Y E0 O nm va nI vc ims ra rl rc xs :=
 ⟨h.o.below hb, h.rts.below hb, h.gl, za6 h.im hb, h.ne, h.eo, h.ee, h.b.trans (hb.mono h.b.size)⟩
theorem Oo15.ol (h : Oo15 W2 X E0 O nm va nI vc ims ra rl rc xs) : O + 1 ≤ X.heap.size := h.o.box.lt
theorem Oo15.set (h : Oo15 W2 X E0 O nm va nI vc ims ra rl rc xs) {g' c' n' : Nat} {zs : List RV} (hz : za7 X (O + 1) (.slice (some ⟨g', 0, none⟩) zs.length c') zs) (hn : zs.length = n') : Oo15 W2 (X.setCell ⟨O, 2, none⟩ (.slice (some ⟨g', 0, none⟩) n' c')) E0 O nm va nI vc ims (some ⟨g', 0, none⟩) n' c' zs := by
 have hg := zaB X O 2 (.slice (some ⟨g', 0, none⟩) n' c')
 have heo := h.eo
 have hee := h.ee
 subst hn
 refine ⟨h.o.s2 _, ⟨zaV hz.row (Nat.lt_succ_self _) hg, fun x hx => zaV (hz.trees x hx) (Nat.lt_succ_self _) hg⟩, rfl, h.im.kept hg ?_, h.ne, h.eo, h.ee, h.b.grown hg h.b.size (fun k e => by injection e with e; omega)⟩
 rcases hv : (Value.slice va nI vc).ownBlock with _ | k
 ·
  exact Or.inl rfl
 ·
  exact Or.inr (fun e => by injection e with e; exact h.ne k hv e)
structure Ir15 (W2 X : World) (E0 O : Nat) (nm : List UInt8) (va : Option Addr) (nI vc : Nat) (ims : List (List UInt8)) (ra : Option Addr) (rl rc : Nat) (xs : List RV) (R : Nat) (y : RV) : Prop where
 s : Oo15 W2 X E0 O nm va nI vc ims ra rl rc xs
 r0 : X.cell? ⟨R, 0, none⟩ = some (.string ⟨y.1.1.toArray⟩)
 r1 : X.cell? ⟨R, 1, none⟩ = some (.int .i64 y.1.2.1)
 r2 : X.cell? ⟨R, 2, none⟩ = some (rvT y)
 yo : X.ownsRow (O + 1) 58 5 (rvT y) y.1.2.2.length (insV y.1.2.2)
 lt : R < X.heap.size
variable {R : Nat} {y : RV}
theorem Ir15.below (h : Ir15 W2 X E0 O nm va nI vc ims ra rl rc xs R y) (hb : Below X.heap.size X Y) : Ir15 W2 Y E0 O nm va nI vc ims ra rl rc xs R y :=
 ⟨h.s.below hb, (hb.cell (p := ⟨R, 0, none⟩) h.lt).trans h.r0, (hb.cell (p := ⟨R, 1, none⟩) h.lt).trans h.r1, (hb.cell (p := ⟨R, 2, none⟩) h.lt).trans h.r2, za6 h.yo hb, Nat.lt_of_lt_of_le h.lt hb.size⟩
theorem Ir15.rest (h : Ir15 W2 X E0 O nm va nI vc ims ra rl rc xs R y) {v : Value} {zs : List RV} (hs : Src X v zs.length 3 (rtsV zs)) (hz : ∀ z ∈ zs, z ∈ xs) (hn : zs.length ≤ 100) :
 ∃ g1 c1 Y1, (Builtin.append_ #[26, 26] 26 #[.slice (some ⟨X.heap.size, 0, none⟩) 0 0, v]).run Tryz.prog (X.alloc (.cells #[] 41)) = .ok (.slice (some ⟨g1, 0, none⟩) zs.length c1) Y1 ∧ Ir15 W2 Y1 E0 O nm va nI vc ims ra rl rc xs R y ∧ za7 Y1 (O + 1) (.slice (some ⟨g1, 0, none⟩) zs.length c1) zs := by
 have hb : Below X.heap.size X (X.alloc (.cells #[] 41)) := (Below.refl _ _).alloc (Nat.le_refl _) _
 have h1 := h.below hb
 have hs1 : Src (X.alloc (.cells #[] 41)) v zs.length 3 (rtsV zs) := by
  obtain ⟨a1, a2, ⟨e, a3⟩ | ⟨ad, c', e, a3⟩⟩ := hs
  ·
   exact ⟨a1, a2, Or.inl ⟨e, a3⟩⟩
  ·
   exact ⟨a1, a2, Or.inr ⟨ad, c', e, fun j u hu => by
    have h4 := a3 j u hu
    rw [hb.cell (World.block_lt_of_cell? X _ h4)]; exact h4⟩⟩
 obtain ⟨g1, c1, Y1, hrun, ho, hg, _⟩ := appS (zcE X h.s.ol) hs1 (fun z hz' => h1.s.rts.trees z (hz z hz')) h1.s.ol (by simp; omega)
 rw [List.nil_append] at ho
 simp only [List.length_nil, Nat.zero_add] at hrun
 exact ⟨g1, c1, Y1, hrun, h.below (hb.grown hg (Nat.le_of_lt (by simp)) (fun q e => by injection e with e; omega)), ho⟩
end
theorem zea {r : Rt} {xs : List RV} {y : RV} {q : Nat} (hy : y.1 = r) (hq : putN r (xs.map (·.1)) = q) : (xs.take q ++ [y] ++ xs.drop q).map (·.1) = zdb r (xs.map (·.1)) := by
 unfold zdb
 rw [hq, List.map_append, List.map_append, List.map_take, List.map_drop, ← hy]
 simp
theorem join_r6 {F : World → Nat → Option Addr → Nat → Option Addr → Nat → Prop} {R : World → Nat → Option Addr → Nat → Option Addr → Nat → Prop} {G : Prop} (main : (∀ V gn ca cc na nc, F V gn ca cc na nc → R V gn ca cc na nc) → G) (rest : ∀ V gn ca cc na nc, F V gn ca cc na nc → R V gn ca cc na nc) : G := main rest
theorem zec {F : World → Nat → Nat → Nat → Nat → Prop} {R : World → Nat → Nat → Nat → Nat → Prop} {G : Prop} (main : (∀ V g0 go gh ch, F V g0 go gh ch → R V g0 go gh ch) → G) (rest : ∀ V g0 go gh ch, F V g0 go gh ch → R V g0 go gh ch) : G := main rest

structure ObIn (W : World) (D : Nat) (nm : List UInt8) (ia : Option Addr) (il ic : Nat) (fa : Option Addr) (fl fc : Nat) (ims : List (List UInt8)) (fs : List Rt) : Prop where
 k0 : W.cell? ⟨D, 0, none⟩ = some (.string ⟨nm.toArray⟩)
 k1 : W.cell? ⟨D, 1, none⟩ = some (.slice ia il ic)
 k2 : W.cell? ⟨D, 2, none⟩ = some (.slice fa fl fc)
 i : zah W ia il ims
 f : zbp W fa fl fs
theorem ObIn.below {W W' : World} {D : Nat} {nm : List UInt8} {ia : Option Addr} {il ic : Nat} {fa : Option Addr} {fl fc : Nat} {ims : List (List UInt8)} {fs : List Rt} (h : ObIn W D nm ia il ic fa fl fc ims fs) (hb : Below W.heap.size W W') : ObIn W' D nm ia il ic fa fl fc ims fs :=
 have hl : D < W.heap.size := World.block_lt_of_cell? W ⟨D, 0, none⟩ h.k0
 ⟨(hb.cell (p := ⟨D, 0, none⟩) hl).trans h.k0, (hb.cell (p := ⟨D, 1, none⟩) hl).trans h.k1, (hb.cell (p := ⟨D, 2, none⟩) hl).trans h.k2, h.i.below hb, h.f.below hb⟩
theorem ObIn.drew {W : World} {D : Nat} {nm : List UInt8} {ia : Option Addr} {il ic : Nat} {fa : Option Addr} {fl fc : Nat} {ims : List (List UInt8)} {fs : List Rt} (h : ObIn W D nm ia il ic fa fl fc ims fs) : ObIn W.drew D nm ia il ic fa fl fc ims fs := ⟨h.k0, h.k1, h.k2, h.i, h.f⟩
theorem ObIn.new {w : World} {nm : List UInt8} {ia : Option Addr} {il ic : Nat} {fa : Option Addr} {fl fc : Nat} {ims : List (List UInt8)} {fs : List Rt} (hi : zah w ia il ims) (hf : zbp w fa fl fs) :
 ObIn (w.alloc (.cells #[.string ⟨nm.toArray⟩, .slice ia il ic, .slice fa fl fc] 37)) w.heap.size nm ia il ic fa fl fc ims fs ∧ Below w.heap.size w (w.alloc (.cells #[.string ⟨nm.toArray⟩, .slice ia il ic, .slice fa fl fc] 37)) := by
 have hb : Below w.heap.size w (w.alloc (.cells #[.string ⟨nm.toArray⟩, .slice ia il ic, .slice fa fl fc] 37)) := (Below.refl _ _).alloc (Nat.le_refl _) _
 have hA := heap_alloc_new w (.cells #[.string ⟨nm.toArray⟩, .slice ia il ic, .slice fa fl fc] 37)
 generalize w.alloc (.cells #[.string ⟨nm.toArray⟩, .slice ia il ic, .slice fa fl fc] 37) = W at hb hA ⊢
 exact ⟨⟨by simp [World.cell?, hA], by simp [World.cell?, hA], by simp [World.cell?, hA], hi.below hb, hf.below hb⟩, hb⟩
theorem zhD (l : List UInt8) (w : World) (hl : l.length ≤ 1048576) :
 Calls Tryz.prog 67 #[.string ⟨l.toArray⟩, .int .u8 46] w fun e w' => ∃ g cp n, e = .returned (.slice (some ⟨g, 0, none⟩) (n + 1) cp) ∧ w'.cell? ⟨g, 0, none⟩ = some (.string ⟨(cutA 46 l).toArray⟩) ∧ Below w.heap.size w w' := by
 refine (zei l 46 46 w (by rfl) hl).mono ?_
 rintro e w' ⟨g, cp, rfl, ho, hb⟩
 have hne : zaD 46 l ≠ [] := zdG 46 l []
 obtain ⟨n, hn⟩ : ∃ n, (zaD 46 l).length = n + 1 := ⟨(zaD 46 l).length - 1, by have := List.length_pos_iff.2 hne; omega⟩
 have hc := (zbt ho).2
 obtain ⟨a, c, e1, hin⟩ := hc
 injection e1 with e1 _ _
 subst e1
 obtain ⟨b, off, e2, _, hc0⟩ := hin.2 0 (by omega)
 injection e2 with e2
 injection e2 with e3 e4 _
 subst e3 e4
 rw [zgQ] at hc0
 exact ⟨g, cp, n, by rw [hn], hc0, hb⟩
set_option maxHeartbeats 20000000 in
set_option maxRecDepth 100000 in
theorem zdV (nm : List UInt8) (ia : Option Addr) (il ic : Nat) (fa : Option Addr) (fl fc : Nat) (ims : List (List UInt8)) (rs : List Rt) (w : World) (hi : zah w ia il ims) (hf : zbp w fa fl rs) (hil : il ≤ 1048576) (hfl : fl ≤ 1048576) (hnl : nm.length ≤ 1048576) (his : ∀ i, (ims.getD i []).length ≤ 1048576) (hfs : zc0 rs) :
 Calls Tryz.prog 45 #[.agg #[.string ⟨nm.toArray⟩, .slice ia il ic, .slice fa fl fc]] w fun e w' => e = .returned (.bool (objB (nm, ims, rs))) ∧ Below w.heap.size w w' := by
 obtain rfl : rs.length = fl := hf.1
 obtain rfl : ims.length = il := hi.1
 obtain ⟨W, hW⟩ : ∃ W, w.alloc (.cells #[.string ⟨nm.toArray⟩, .slice ia ims.length ic, .slice fa rs.length fc] 37) = W := ⟨_, rfl⟩
 obtain ⟨st, hB⟩ := ObIn.new (w := w) (nm := nm) (ic := ic) (fc := fc) hi hf
 rw [hW] at st hB
 obtain ⟨D, hD⟩ : ∃ D, w.heap.size = D := ⟨_, rfl⟩
 rw [hD] at st
 have HST : Hid (∀ Z, Below W.heap.size W Z → ObIn Z D nm ia ims.length ic fa rs.length fc ims rs) := fun Z hz => st.below hz
 have HS : Hid (zc0 rs) := hfs
 have HB : Hid (Below w.heap.size w W) := hB
 have HFB : Hid (∀ Z, Below W.heap.size W Z → Below w.heap.size w Z) := fun Z hz => HB.out.trans (hz.mono HB.out.size)
 have HC1 : Hid (_) := zbR nm W hnl
 have HC2 : Hid (_) := zgS ia ims.length ic ims W st.i hil his
 have HN1 : Hid (zaz nm = false → objB (nm, ims, rs) = false) := fun e => zhP (o := (nm, ims, rs)) e
 have HN2 : Hid (zaE ims = false → objB (nm, ims, rs) = false) := fun e => zhQ (o := (nm, ims, rs)) e
 have HN3 : Hid (¬ (1 ≤ rs.length ∧ rs.length ≤ 8) → objB (nm, ims, rs) = false) := fun e => obj_len (o := (nm, ims, rs)) e
 have HYes : Hid (zaz nm = true → zaE ims = true → (1 ≤ rs.length ∧ rs.length ≤ 8) → (∀ j, j < rs.length → zdJ nm ims rs j) → objB (nm, ims, rs) = true) := fun e1 e2 e3 e4 => zjv (o := (nm, ims, rs)) e1 e2 e3 e4
 have HNo : Hid (∀ j, j < rs.length → ¬ zdJ nm ims rs j → objB (nm, ims, rs) = false) := fun j hj e => obj_no (o := (nm, ims, rs)) hj e
 obtain ⟨k0, k1, k2⟩ : W.cell? ⟨D, 0, none⟩ = some (.string ⟨nm.toArray⟩) ∧ W.cell? ⟨D, 1, none⟩ = some (.slice ia ims.length ic) ∧ W.cell? ⟨D, 2, none⟩ = some (.slice fa rs.length fc) := ⟨st.k0, st.k1, st.k2⟩
 generalize objB (nm, ims, rs) = res at HN1 HN2 HN3 HYes HNo ⊢
 generalize zaz nm = b1 at HN1 HYes HC1
 generalize zaE ims = b2 at HN2 HYes HC2
 clear hi hf hfs his st hB
 go_enter Tryz.func45, Tryz.ntmps45
 go_wp2_with fail
 refine Calls.mono HC1.out ?_
 rintro e w1 ⟨rfl, hw1⟩
 obtain rfl := hw1.symm
 rcases b1 with _ | _
 ·
  have HR : Hid (res = false) := HN1.out rfl
  go_wp2
  go_ret
  exact ⟨by rw [HR.out]; rfl, by first | exact HB.out | exact hD ▸ HB.out⟩
 go_wp2_with fail
 refine Calls.mono HC2.out ?_
 rintro e w2 ⟨rfl, hb2⟩
 replace k0 := (HST.out _ hb2).k0
 replace k1 := (HST.out _ hb2).k1
 replace k2 := (HST.out _ hb2).k2
 rcases b2 with _ | _
 ·
  have HR : Hid (res = false) := HN2.out rfl
  have HF := HFB.out _ hb2
  go_wp2
  go_ret
  exact ⟨by rw [HR.out]; rfl, by first | exact HF | exact hD ▸ HF⟩
 have HB2 : Hid (Below W.heap.size W w2) := hb2
 clear hb2
 by_cases hln : inB (rs.length : Int) 1 8 = true
 rotate_left
 ·
  have hln2 : inB (rs.length : Int) 1 8 = false := by rw [Bool.eq_false_iff]; exact hln
  have HR : Hid (res = false) := HN3.out (fun e => hln (zdP _ _ _ (by omega) (by omega)))
  have HF := HFB.out _ HB2.out
  clear hln
  go_wp2_with fail
  refine (zcf (rs.length : Int) 1 8 _).mono ?_
  rintro e w3 ⟨rfl, hw3⟩
  obtain rfl := hw3.symm
  rw [hln2]
  go_wp2
  go_ret
  exact ⟨by rw [HR.out]; rfl, by first | exact HF | exact hD ▸ HF⟩
 have HL8 : Hid (1 ≤ rs.length ∧ rs.length ≤ 8) := by
  have h : 1 ≤ (rs.length : Int) ∧ (rs.length : Int) ≤ 8 := by unfold inB at hln; exact of_decide_eq_true hln
  exact (by omega : 1 ≤ rs.length ∧ rs.length ≤ 8)
 have HY2 : Hid ((∀ j, j < rs.length → zdJ nm ims rs j) → res = true) := HYes.out (by trivial) (by trivial) HL8.out
 clear HYes HN1 HN2 HN3 HC1 HC2
 go_wp2_with fail
 refine (zcf (rs.length : Int) 1 8 _).mono ?_
 rintro e w3 ⟨rfl, hw3⟩
 obtain rfl := hw3.symm
 rw [hln]
 clear hln
 go_wp2
 go_loopw [3] (fun iv wr => ∃ j : Nat, iv = .int .i64 (j : Int) ∧ j ≤ rs.length ∧ Hid (∀ u, u < j → zdJ nm ims rs u) ∧ Hid (Below W.heap.size W wr)) (fun iv _ => rs.length - (intOf iv).toNat)
 case atStart => exact ⟨0, rfl, Nat.zero_le _, fun u hu => by omega, HB2⟩
 case round =>
  obtain ⟨j, rfl, hj, HO, HBr⟩ := hrel
  clear k0 k1 k2
  have k2 := (HST.out wr HBr.out).k2
  by_cases hlt : (j : Int) < (rs.length : Int)
  ·
   obtain ⟨b, off, rfl, hbl, c0, c1, ca, cl, cc, c2, hci⟩ := (HST.out wr HBr.out).f.2 j (by omega)
   have hshj := HS.out j
   have hnoj := HNo.out j (by omega)
   obtain ⟨x, hx⟩ : ∃ x, rs.getD j rt0 = x := ⟨_, rfl⟩
   rw [hx] at c0 c1 hci hshj
   obtain ⟨n, ar, c⟩ := x
   simp only at c0 c1 hci hshj
   have hcl : c.length = cl := hci.1
   obtain ⟨V, hV⟩ : ∃ V, wr.alloc (.cells #[.string ⟨n.toArray⟩, .int .i64 ar, .slice ca cl cc] 41) = V := ⟨_, rfl⟩
   have hbV : Below wr.heap.size wr V := by rw [← hV]; exact (Below.refl _ _).alloc (Nat.le_refl _) _
   have hA : V.heap[wr.heap.size]? = some (.cells #[.string ⟨n.toArray⟩, .int .i64 ar, .slice ca cl cc] 41) := by rw [← hV]; exact heap_alloc_new wr _
   obtain ⟨N, hN⟩ : ∃ N, wr.heap.size = N := ⟨_, rfl⟩
   rw [hN] at hA
   have n0 : V.cell? ⟨N, 0, none⟩ = some (.string ⟨n.toArray⟩) := by simp [World.cell?, hA]
   have n1 : V.cell? ⟨N, 1, none⟩ = some (.int .i64 ar) := by simp [World.cell?, hA]
   have n2 : V.cell? ⟨N, 2, none⟩ = some (.slice ca cl cc) := by simp [World.cell?, hA]
   have hNl : N < V.heap.size := World.block_lt_of_cell? V ⟨N, 0, none⟩ n0
   have hBV := HBr.out.trans (hbV.mono HBr.out.size)
   have HBV : Hid (Below W.heap.size W V) := hBV
   have HZ : Hid (∀ Z, Below V.heap.size V Z → Z.cell? ⟨N, 0, none⟩ = some (.string ⟨n.toArray⟩) ∧ Z.cell? ⟨N, 1, none⟩ = some (.int .i64 ar) ∧ Z.cell? ⟨N, 2, none⟩ = some (.slice ca cl cc) ∧ Z.cell? ⟨D, 2, none⟩ = some (.slice (some ⟨b, off, none⟩) rs.length fc) ∧ Z.cell? ⟨D, 0, none⟩ = some (.string ⟨nm.toArray⟩)) := fun Z hz => ⟨(hz.cell (p := ⟨N, 0, none⟩) hNl).trans n0, (hz.cell (p := ⟨N, 1, none⟩) hNl).trans n1, (hz.cell (p := ⟨N, 2, none⟩) hNl).trans n2, (HST.out Z (HBV.out.trans (hz.mono HBV.out.size))).k2, (HST.out Z (HBV.out.trans (hz.mono HBV.out.size))).k0⟩
   have HTx : Hid (∀ Z, Below V.heap.size V Z → Z.cell? ⟨D, 1, none⟩ = some (.slice ia ims.length ic) ∧ zah Z ia ims.length ims) := fun Z hz => ⟨(HST.out Z (HBV.out.trans (hz.mono HBV.out.size))).k1, (HST.out Z (HBV.out.trans (hz.mono HBV.out.size))).i⟩
   have HCi : Hid (∀ Z, Below V.heap.size V Z → zb4 Z ca cl c) := fun Z hz => (hci.below hbV).below hz
   have HCk : Hid (∀ Z, Below V.heap.size V Z → Calls Tryz.prog 32 #[.agg #[.string ⟨n.toArray⟩, .int .i64 ar, .slice ca cl cc]] Z fun e w' => e = .returned (.bool (rtB (n, ar, c))) ∧ Below Z.heap.size Z w') := fun Z hz => zej n ar ca cl cc c Z ((hci.below hbV).below hz) hshj.2.2 (by rw [← hcl]; exact hshj.2.1) hshj.1
   have HSp : Hid (_) := fun Z : World => zhD n Z hshj.1
   have HSh2 : Hid (zcm c) := hshj.2.2
   have HX0 : Hid (rs.getD j rt0 = (n, ar, c)) := hx
   have HCl : Hid (c.length = cl) := hcl
   have hcl2 : cl ≤ 1048576 := by rw [← hcl]; exact hshj.2.1
   have HNj : Hid (¬ zdJ nm ims rs j → res = false) := hnoj
   have HPv : Hid (∀ p, p + 1 = j → ∀ Z, Below V.heap.size V Z → Z.cell? ⟨b, off + p * 3, none⟩ = some (.string ⟨(rs.getD p rt0).1.toArray⟩)) := fun p hp Z hz => by
    obtain ⟨b', off', e, _, d0, _⟩ := (HST.out Z (HBV.out.trans (hz.mono HBV.out.size))).f.2 p (by omega)
    injection e with e
    injection e with e1 e2 _
    subst e1 e2
    exact d0
   obtain ⟨y0, hy0⟩ : ∃ y0, cutA 46 n = y0 := ⟨_, rfl⟩
   have HY0 : Hid (cutA 46 n = y0) := hy0
   rw [hy0] at HSp
   have hFV := HFB.out _ HBV.out
   have HFV : Hid (∀ Z, Below V.heap.size V Z → Below w.heap.size w Z) := fun Z hz => hFV.trans (hz.mono hFV.size)
   clear hci hbV hA n0 n1 n2 hNl hBV hx hshj hcl hnoj hy0 hFV
   rcases hrb : rtB (n, ar, c) with _ | _
   ·
    rw [hrb] at HCk
    have HR : Hid (res = false) := HNj.out (fun e => by have := e.1.1; rw [HX0.out, hrb] at this; cases this)
    clear hrb
    go_wp2
    refine wp_region_held_drew (S := fun Z => Below V.heap.size V Z) (by kernel_rfl) (by exact ⟨rfl, rfl, rfl, Nat.le_refl _, fun _ _ => rfl⟩) (fun hHeld => ?_)
    refine tkO [(0, 36)] ?_
    repeat (refine tkY ?_ rfl (by rfl) ?_ ?_; rotate_left; (focus (intro wq hSw; obtain ⟨z0, z1, z2, z3, z4⟩ := HZ.out wq hSw; clear hSw; first | (go_simp; done) | (go_simp; with_reducible rfl))); simp only [zP])
    refine tkZ ?_
    refine zR 1 rfl (fun K hK => ?_)
    go_simp
    refine Calls.mono (HCk.out _ hHeld) ?_
    rintro e V1 ⟨rfl, hb1⟩
    dsimp only
    refine hK.out _ _ (by exact hHeld.trans (hb1.mono hHeld.size)) (fun hHeld => ?_)
    clear hK K
    (try simp only [zP])
    refine tkO [(2, 38), (3, 39), (4, 40), (5, 41), (6, 42), (7, 43), (8, 44), (9, 45), (10, 46), (11, 47), (12, 48), (13, 49), (14, 50), (15, 51), (16, 52), (17, 53), (18, 54), (19, 55), (20, 56), (21, 57), (22, 58), (23, 59), (24, 60), (25, 61), (26, 62), (27, 63), (28, 64)] ?_
    repeat ((first | (refine tkY ?_ rfl (by rfl) ?_ ?_; rotate_left; (focus (intro wq hSw; obtain ⟨z0, z1, z2, z3, z4⟩ := HZ.out wq hSw; clear hSw; first | (go_simp; done) | (go_simp; with_reducible rfl)))) | refine tkN rfl (by rfl) ?_); simp only [zP])
    refine tkZ ?_
    have HV1 : Hid (Below V.heap.size V _) := hHeld
    refine wpAnyH_done (by kernel_rfl) ?_ _
    clear hHeld hb1
    go_wp2
    go_ret
    exact ⟨by rw [HR.out]; rfl, by first | exact HFV.out _ HV1.out | exact hD ▸ HFV.out _ HV1.out⟩
   rw [hrb] at HCk
   have HRb : Hid (rtB (n, ar, c) = true) := hrb
   clear hrb
   go_wp2
   go_cut [64] from 36 to 63 (fun v wx => ∃ bv : Bool, v = .bool bv ∧ Hid (Below V.heap.size V wx) ∧ Hid (bv = true → res = false) ∧ Hid (bv = false → (0 < j → leT n (rs.getD (j - 1) rt0).1 = false) ∧ cutA 46 n = nm))
   case first =>
    by_cases hj0 : j = 0
    ·
     have hj1 : ¬ ((j : Int) > 0) := by omega
     have hj3 : ¬ (0 < j) := by omega
     have HJ0 : Hid (j = 0) := hj0
     clear hj0
     by_cases hyn : y0 = nm
     ·
      have heb : (y0 != nm) = false := by rw [hyn]; simp
      have heb2 : (y0 == nm) = true := by rw [hyn]; simp
      have HYN : Hid (y0 = nm) := hyn
      clear hyn
      refine wp_region_held_drew (S := fun Z => Below V.heap.size V Z) (by kernel_rfl) (by exact ⟨rfl, rfl, rfl, Nat.le_refl _, fun _ _ => rfl⟩) (fun hHeld => ?_)
      refine tkO [(0, 36)] ?_
      repeat (refine tkY ?_ rfl (by rfl) ?_ ?_; rotate_left; (focus (intro wq hSw; obtain ⟨z0, z1, z2, z3, z4⟩ := HZ.out wq hSw; clear hSw; first | (go_simp; done) | (go_simp; with_reducible rfl))); simp only [zP])
      refine tkZ ?_
      refine zR 1 rfl (fun K hK => ?_)
      go_simp
      refine Calls.mono (HCk.out _ hHeld) ?_
      rintro e V1 ⟨rfl, hb1⟩
      dsimp only
      refine hK.out _ _ (by exact hHeld.trans (hb1.mono hHeld.size)) (fun hHeld => ?_)
      clear hK K
      (try simp only [zP])
      refine tkO [(2, 38), (3, 39), (4, 40), (5, 41), (6, 42), (7, 43), (8, 44), (9, 45), (10, 46), (11, 47), (12, 48), (13, 49), (14, 50), (15, 51), (16, 52), (17, 53), (18, 54), (19, 55), (20, 56), (21, 57), (25, 61), (26, 62)] ?_
      repeat ((first | (refine tkY ?_ rfl (by rfl) ?_ ?_; rotate_left; (focus (intro wq hSw; obtain ⟨z0, z1, z2, z3, z4⟩ := HZ.out wq hSw; clear hSw; first | (go_simp; done) | (go_simp; with_reducible rfl)))) | refine tkN rfl (by rfl) ?_); simp only [zP])
      refine tkZ ?_
      refine zR 22 rfl (fun K hK => ?_)
      go_simp
      refine Calls.mono (HSp.out _) ?_
      rintro e V2 ⟨g2, cp2, m2, rfl, hx2, hb2⟩; have hm2 : (0 : Int) < ((m2 + 1 : Nat) : Int) := (by omega)
      dsimp only
      refine hK.out _ _ (by exact hHeld.trans (hb2.mono hHeld.size)) (fun hHeld => ?_)
      clear hK K
      (try simp only [zP])
      refine zR 23 rfl (fun K hK => ?_)
      go_simp
      refine hK.out _ _ (by exact hHeld) (fun hHeld => ?_)
      clear hK K
      (try simp only [zP])
      refine zR 24 rfl (fun K hK => ?_)
      go_simp
      refine hK.out _ _ (by exact hHeld) (fun hHeld => ?_)
      clear hK K
      (try simp only [zP])
      refine tkO [(27, 63), (28, 64)] ?_
      repeat (refine tkY ?_ rfl (by rfl) ?_ ?_; rotate_left; (focus (intro wq hSw; obtain ⟨z0, z1, z2, z3, z4⟩ := HZ.out wq hSw; clear hSw; first | (go_simp; done) | (go_simp; with_reducible rfl))); simp only [zP])
      refine tkZ ?_
      have HV1 : Hid (Below V.heap.size V _) := hHeld
      refine wpAnyH_done (by kernel_rfl) ?_ _
      clear hHeld hb1 hb2 hx2
      go_wp2_with fail
      go_meet
      case rel => exact ⟨false, rfl, HV1, (fun e => by cases e), (fun _ => ⟨fun h => by have := HJ0.out; omega, HY0.out.trans HYN.out⟩)⟩
     ·
      have heb : (y0 != nm) = true := bne_iff_ne.2 hyn
      have heb2 : (y0 == nm) = false := beq_eq_false_iff_ne.2 hyn
      have HR : Hid (res = false) := HNj.out (fun e => by have := e.1.2.2; rw [HX0.out] at this; exact hyn (HY0.out.symm.trans this))
      clear hyn
      refine wp_region_held_drew (S := fun Z => Below V.heap.size V Z) (by kernel_rfl) (by exact ⟨rfl, rfl, rfl, Nat.le_refl _, fun _ _ => rfl⟩) (fun hHeld => ?_)
      refine tkO [(0, 36)] ?_
      repeat (refine tkY ?_ rfl (by rfl) ?_ ?_; rotate_left; (focus (intro wq hSw; obtain ⟨z0, z1, z2, z3, z4⟩ := HZ.out wq hSw; clear hSw; first | (go_simp; done) | (go_simp; with_reducible rfl))); simp only [zP])
      refine tkZ ?_
      refine zR 1 rfl (fun K hK => ?_)
      go_simp
      refine Calls.mono (HCk.out _ hHeld) ?_
      rintro e V1 ⟨rfl, hb1⟩
      dsimp only
      refine hK.out _ _ (by exact hHeld.trans (hb1.mono hHeld.size)) (fun hHeld => ?_)
      clear hK K
      (try simp only [zP])
      refine tkO [(2, 38), (3, 39), (4, 40), (5, 41), (6, 42), (7, 43), (8, 44), (9, 45), (10, 46), (11, 47), (12, 48), (13, 49), (14, 50), (15, 51), (16, 52), (17, 53), (18, 54), (19, 55), (20, 56), (21, 57), (25, 61), (26, 62)] ?_
      repeat ((first | (refine tkY ?_ rfl (by rfl) ?_ ?_; rotate_left; (focus (intro wq hSw; obtain ⟨z0, z1, z2, z3, z4⟩ := HZ.out wq hSw; clear hSw; first | (go_simp; done) | (go_simp; with_reducible rfl)))) | refine tkN rfl (by rfl) ?_); simp only [zP])
      refine tkZ ?_
      refine zR 22 rfl (fun K hK => ?_)
      go_simp
      refine Calls.mono (HSp.out _) ?_
      rintro e V2 ⟨g2, cp2, m2, rfl, hx2, hb2⟩; have hm2 : (0 : Int) < ((m2 + 1 : Nat) : Int) := (by omega)
      dsimp only
      refine hK.out _ _ (by exact hHeld.trans (hb2.mono hHeld.size)) (fun hHeld => ?_)
      clear hK K
      (try simp only [zP])
      refine zR 23 rfl (fun K hK => ?_)
      go_simp
      refine hK.out _ _ (by exact hHeld) (fun hHeld => ?_)
      clear hK K
      (try simp only [zP])
      refine zR 24 rfl (fun K hK => ?_)
      go_simp
      refine hK.out _ _ (by exact hHeld) (fun hHeld => ?_)
      clear hK K
      (try simp only [zP])
      refine tkO [(27, 63), (28, 64)] ?_
      repeat (refine tkY ?_ rfl (by rfl) ?_ ?_; rotate_left; (focus (intro wq hSw; obtain ⟨z0, z1, z2, z3, z4⟩ := HZ.out wq hSw; clear hSw; first | (go_simp; done) | (go_simp; with_reducible rfl))); simp only [zP])
      refine tkZ ?_
      have HV1 : Hid (Below V.heap.size V _) := hHeld
      refine wpAnyH_done (by kernel_rfl) ?_ _
      clear hHeld hb1 hb2 hx2
      go_wp2_with fail
      go_meet
      case rel => exact ⟨true, rfl, HV1, (fun _ => HR.out), (fun e => by cases e)⟩
    ·
     obtain ⟨p, hp⟩ : ∃ p, p + 1 = j := ⟨j - 1, by omega⟩
     have hj1 : (j : Int) > 0 := by omega
     have hj2 : (0 : Int) < (j : Int) := by omega
     have hj3 : 0 < j := by omega
     have hjp : (j : Int) - 1 = (p : Int) := by omega
     have hpl : (p : Int) < (rs.length : Int) := by omega
     have hpw : IntKind.i64.wrap (p : Int) = (p : Int) := by rw [IntKind.wrap_i64]; omega
     have HP : Hid (_) := HPv.out p hp
     have hpj : j - 1 = p := by omega
     obtain ⟨y, hy⟩ : ∃ y, (rs.getD p rt0).1 = y := ⟨_, rfl⟩
     rw [hy] at HP
     rcases hle : leT n y with _ | _
     ·
      have HL : Hid (leT n (rs.getD (j - 1) rt0).1 = false) := by
       show leT n (rs.getD (j - 1) rt0).1 = false
       rw [hpj, hy]
       exact hle
      unfold leT at hle
      clear hp hpj hy
      by_cases hyn : y0 = nm
      ·
       have heb : (y0 != nm) = false := by rw [hyn]; simp
       have heb2 : (y0 == nm) = true := by rw [hyn]; simp
       have HYN : Hid (y0 = nm) := hyn
       clear hyn
       refine wp_region_held_drew (S := fun Z => Below V.heap.size V Z) (by kernel_rfl) (by exact ⟨rfl, rfl, rfl, Nat.le_refl _, fun _ _ => rfl⟩) (fun hHeld => ?_)
       refine tkO [(0, 36)] ?_
       repeat (refine tkY ?_ rfl (by rfl) ?_ ?_; rotate_left; (focus (intro wq hSw; obtain ⟨z0, z1, z2, z3, z4⟩ := HZ.out wq hSw; clear hSw; first | (go_simp; done) | (go_simp; with_reducible rfl))); simp only [zP])
       refine tkZ ?_
       refine zR 1 rfl (fun K hK => ?_)
       go_simp
       refine Calls.mono (HCk.out _ hHeld) ?_
       rintro e V1 ⟨rfl, hb1⟩
       dsimp only
       refine hK.out _ _ (by exact hHeld.trans (hb1.mono hHeld.size)) (fun hHeld => ?_)
       clear hK K
       (try simp only [zP])
       refine tkO [(2, 38), (3, 39), (4, 40), (5, 41), (6, 42)] ?_
       repeat (refine tkY ?_ rfl (by rfl) ?_ ?_; rotate_left; (focus (intro wq hSw; obtain ⟨z0, z1, z2, z3, z4⟩ := HZ.out wq hSw; clear hSw; first | (go_simp; done) | (go_simp; with_reducible rfl))); simp only [zP])
       refine tkZ ?_
       refine tkO [(7, 43), (8, 44), (9, 45), (10, 46), (11, 47), (12, 48), (13, 49), (14, 50), (15, 51), (16, 52)] ?_
       repeat (refine tkY ?_ rfl (by rfl) ?_ ?_; rotate_left; (focus (intro wq hSw; obtain ⟨z0, z1, z2, z3, z4⟩ := HZ.out wq hSw; have z5 := HP.out wq hSw; clear hSw; first | (go_simp; done) | (go_simp; with_reducible rfl))); simp only [zP])
       refine tkZ ?_
       refine tkO [(17, 53), (18, 54), (19, 55), (20, 56), (21, 57), (25, 61), (26, 62)] ?_
       repeat (refine tkY ?_ rfl (by rfl) ?_ ?_; rotate_left; (focus (intro wq hSw; obtain ⟨z0, z1, z2, z3, z4⟩ := HZ.out wq hSw; clear hSw; first | (go_simp; done) | (go_simp; with_reducible rfl))); simp only [zP])
       refine tkZ ?_
       refine zR 22 rfl (fun K hK => ?_)
       go_simp
       refine Calls.mono (HSp.out _) ?_
       rintro e V2 ⟨g2, cp2, m2, rfl, hx2, hb2⟩; have hm2 : (0 : Int) < ((m2 + 1 : Nat) : Int) := (by omega)
       dsimp only
       refine hK.out _ _ (by exact hHeld.trans (hb2.mono hHeld.size)) (fun hHeld => ?_)
       clear hK K
       (try simp only [zP])
       refine zR 23 rfl (fun K hK => ?_)
       go_simp
       refine hK.out _ _ (by exact hHeld) (fun hHeld => ?_)
       clear hK K
       (try simp only [zP])
       refine zR 24 rfl (fun K hK => ?_)
       go_simp
       refine hK.out _ _ (by exact hHeld) (fun hHeld => ?_)
       clear hK K
       (try simp only [zP])
       refine tkO [(27, 63), (28, 64)] ?_
       repeat (refine tkY ?_ rfl (by rfl) ?_ ?_; rotate_left; (focus (intro wq hSw; obtain ⟨z0, z1, z2, z3, z4⟩ := HZ.out wq hSw; clear hSw; first | (go_simp; done) | (go_simp; with_reducible rfl))); simp only [zP])
       refine tkZ ?_
       have HV1 : Hid (Below V.heap.size V _) := hHeld
       refine wpAnyH_done (by kernel_rfl) ?_ _
       clear hHeld hb1 hb2 hx2
       go_wp2_with fail
       go_meet
       case rel => exact ⟨false, rfl, HV1, (fun e => by cases e), (fun _ => ⟨fun _ => HL.out, HY0.out.trans HYN.out⟩)⟩
      ·
       have heb : (y0 != nm) = true := bne_iff_ne.2 hyn
       have heb2 : (y0 == nm) = false := beq_eq_false_iff_ne.2 hyn
       have HR : Hid (res = false) := HNj.out (fun e => by have := e.1.2.2; rw [HX0.out] at this; exact hyn (HY0.out.symm.trans this))
       clear hyn
       refine wp_region_held_drew (S := fun Z => Below V.heap.size V Z) (by kernel_rfl) (by exact ⟨rfl, rfl, rfl, Nat.le_refl _, fun _ _ => rfl⟩) (fun hHeld => ?_)
       refine tkO [(0, 36)] ?_
       repeat (refine tkY ?_ rfl (by rfl) ?_ ?_; rotate_left; (focus (intro wq hSw; obtain ⟨z0, z1, z2, z3, z4⟩ := HZ.out wq hSw; clear hSw; first | (go_simp; done) | (go_simp; with_reducible rfl))); simp only [zP])
       refine tkZ ?_
       refine zR 1 rfl (fun K hK => ?_)
       go_simp
       refine Calls.mono (HCk.out _ hHeld) ?_
       rintro e V1 ⟨rfl, hb1⟩
       dsimp only
       refine hK.out _ _ (by exact hHeld.trans (hb1.mono hHeld.size)) (fun hHeld => ?_)
       clear hK K
       (try simp only [zP])
       refine tkO [(2, 38), (3, 39), (4, 40), (5, 41), (6, 42)] ?_
       repeat (refine tkY ?_ rfl (by rfl) ?_ ?_; rotate_left; (focus (intro wq hSw; obtain ⟨z0, z1, z2, z3, z4⟩ := HZ.out wq hSw; clear hSw; first | (go_simp; done) | (go_simp; with_reducible rfl))); simp only [zP])
       refine tkZ ?_
       refine tkO [(7, 43), (8, 44), (9, 45), (10, 46), (11, 47), (12, 48), (13, 49), (14, 50), (15, 51), (16, 52)] ?_
       repeat (refine tkY ?_ rfl (by rfl) ?_ ?_; rotate_left; (focus (intro wq hSw; obtain ⟨z0, z1, z2, z3, z4⟩ := HZ.out wq hSw; have z5 := HP.out wq hSw; clear hSw; first | (go_simp; done) | (go_simp; with_reducible rfl))); simp only [zP])
       refine tkZ ?_
       refine tkO [(17, 53), (18, 54), (19, 55), (20, 56), (21, 57), (25, 61), (26, 62)] ?_
       repeat (refine tkY ?_ rfl (by rfl) ?_ ?_; rotate_left; (focus (intro wq hSw; obtain ⟨z0, z1, z2, z3, z4⟩ := HZ.out wq hSw; clear hSw; first | (go_simp; done) | (go_simp; with_reducible rfl))); simp only [zP])
       refine tkZ ?_
       refine zR 22 rfl (fun K hK => ?_)
       go_simp
       refine Calls.mono (HSp.out _) ?_
       rintro e V2 ⟨g2, cp2, m2, rfl, hx2, hb2⟩; have hm2 : (0 : Int) < ((m2 + 1 : Nat) : Int) := (by omega)
       dsimp only
       refine hK.out _ _ (by exact hHeld.trans (hb2.mono hHeld.size)) (fun hHeld => ?_)
       clear hK K
       (try simp only [zP])
       refine zR 23 rfl (fun K hK => ?_)
       go_simp
       refine hK.out _ _ (by exact hHeld) (fun hHeld => ?_)
       clear hK K
       (try simp only [zP])
       refine zR 24 rfl (fun K hK => ?_)
       go_simp
       refine hK.out _ _ (by exact hHeld) (fun hHeld => ?_)
       clear hK K
       (try simp only [zP])
       refine tkO [(27, 63), (28, 64)] ?_
       repeat (refine tkY ?_ rfl (by rfl) ?_ ?_; rotate_left; (focus (intro wq hSw; obtain ⟨z0, z1, z2, z3, z4⟩ := HZ.out wq hSw; clear hSw; first | (go_simp; done) | (go_simp; with_reducible rfl))); simp only [zP])
       refine tkZ ?_
       have HV1 : Hid (Below V.heap.size V _) := hHeld
       refine wpAnyH_done (by kernel_rfl) ?_ _
       clear hHeld hb1 hb2 hx2
       go_wp2_with fail
       go_meet
       case rel => exact ⟨true, rfl, HV1, (fun _ => HR.out), (fun e => by cases e)⟩
     ·
      have HR : Hid (res = false) := HNj.out (fun e => by
       have h2 := e.1.2.1 (by omega)
       rw [hpj, HX0.out, hy] at h2
       simp only at h2
       rw [hle] at h2
       cases h2)
      unfold leT at hle
      clear hp hpj hy
      refine wp_region_held_drew (S := fun Z => Below V.heap.size V Z) (by kernel_rfl) (by exact ⟨rfl, rfl, rfl, Nat.le_refl _, fun _ _ => rfl⟩) (fun hHeld => ?_)
      refine tkO [(0, 36)] ?_
      repeat (refine tkY ?_ rfl (by rfl) ?_ ?_; rotate_left; (focus (intro wq hSw; obtain ⟨z0, z1, z2, z3, z4⟩ := HZ.out wq hSw; clear hSw; first | (go_simp; done) | (go_simp; with_reducible rfl))); simp only [zP])
      refine tkZ ?_
      refine zR 1 rfl (fun K hK => ?_)
      go_simp
      refine Calls.mono (HCk.out _ hHeld) ?_
      rintro e V1 ⟨rfl, hb1⟩
      dsimp only
      refine hK.out _ _ (by exact hHeld.trans (hb1.mono hHeld.size)) (fun hHeld => ?_)
      clear hK K
      (try simp only [zP])
      refine tkO [(2, 38), (3, 39), (4, 40), (5, 41), (6, 42)] ?_
      repeat (refine tkY ?_ rfl (by rfl) ?_ ?_; rotate_left; (focus (intro wq hSw; obtain ⟨z0, z1, z2, z3, z4⟩ := HZ.out wq hSw; clear hSw; first | (go_simp; done) | (go_simp; with_reducible rfl))); simp only [zP])
      refine tkZ ?_
      refine tkO [(7, 43), (8, 44), (9, 45), (10, 46), (11, 47), (12, 48), (13, 49), (14, 50), (15, 51), (16, 52)] ?_
      repeat (refine tkY ?_ rfl (by rfl) ?_ ?_; rotate_left; (focus (intro wq hSw; obtain ⟨z0, z1, z2, z3, z4⟩ := HZ.out wq hSw; have z5 := HP.out wq hSw; clear hSw; first | (go_simp; done) | (go_simp; with_reducible rfl))); simp only [zP])
      refine tkZ ?_
      refine tkO [(17, 53), (18, 54), (19, 55), (20, 56), (21, 57), (22, 58), (23, 59), (24, 60), (25, 61), (26, 62), (27, 63), (28, 64)] ?_
      repeat ((first | (refine tkY ?_ rfl (by rfl) ?_ ?_; rotate_left; (focus (intro wq hSw; obtain ⟨z0, z1, z2, z3, z4⟩ := HZ.out wq hSw; clear hSw; first | (go_simp; done) | (go_simp; with_reducible rfl)))) | refine tkN rfl (by rfl) ?_); simp only [zP])
      refine tkZ ?_
      have HV1 : Hid (Below V.heap.size V _) := hHeld
      refine wpAnyH_done (by kernel_rfl) ?_ _
      clear hHeld hb1
      go_wp2_with fail
      go_meet
      case rel => exact ⟨true, rfl, HV1, (fun _ => HR.out), (fun e => by cases e)⟩
   case rest =>
   obtain ⟨bv, rfl, HVc, HT, HF⟩ := hcut
   rcases bv with _ | _
   ·
    go_wp2
    go_loopw [5] (fun iv wx => ∃ k : Nat, iv = .int .i64 (k : Int) ∧ k ≤ cl ∧ Hid (∀ u, u < k → zbv nm ims (c.getD u in0) = true) ∧ Hid (Below V.heap.size V wx)) (fun iv _ => cl - (intOf iv).toNat)
    case atStart => exact ⟨0, rfl, Nat.zero_le _, fun u hu => by omega, HVc⟩
    case round =>
     obtain ⟨k, rfl, hk, HQ, HBk⟩ := hrel
     rename World => U
     obtain ⟨z0, z1, z2, z3, z4⟩ := HZ.out U HBk.out
     by_cases hkl : (k : Int) < (cl : Int)
     ·
      obtain ⟨cb, co, rfl, hcbl, x0, _, _, _, x4⟩ := (HCi.out U HBk.out).2 k (by omega)
      have hsk := HSh2.out k
      obtain ⟨i, hi⟩ : ∃ i, c.getD k in0 = i := ⟨_, rfl⟩
      rw [hi] at x0 x4 hsk
      obtain ⟨kd, r, aa, bb, s⟩ := i
      simp only at x0 x4 hsk
      by_cases h9 : kd = 9
      ·
       subst h9
       have HSs : Hid (_) := zhD s U hsk
       obtain ⟨y, hy⟩ : ∃ y, cutA 46 s = y := ⟨_, rfl⟩
       have HCb : Hid (zbv nm ims (c.getD k in0) = (decide (y = nm) || decide (y ∈ ims))) := by
        exact (by rw [hi]; unfold zbv; simp [hy] : zbv nm ims (c.getD k in0) = (decide (y = nm) || decide (y ∈ ims)))
       rw [hy] at HSs
       have HKl : Hid (k < c.length) := by exact (by have := HCl.out; omega : k < c.length)
       clear hi hy hsk
       go_wp2_with fail
       refine Calls.mono HSs.out ?_
       rintro e U2 ⟨g2, cp2, m2, rfl, hx2, hb2⟩
       have HB3 : Hid (Below V.heap.size V U2) := HBk.out.trans (hb2.mono HBk.out.size)
       obtain ⟨q0, q1, q2, q3, q4⟩ := HZ.out U2 HB3.out
       have q5 := (HTx.out U2 HB3.out).1
       have hm2 : (0 : Int) < ((m2 + 1 : Nat) : Int) := by omega
       clear hb2
       by_cases hyn : y = nm
       ·
        have HQ2 : Hid (∀ u, u < k + 1 → zbv nm ims (c.getD u in0) = true) := fun u hu => by
         by_cases e : u = k
         ·
          rw [e, HCb.out, decide_eq_true hyn]; rfl
         ·
          exact HQ.out u (by omega)
        have heb : (y != nm) = false := by rw [hyn]; simp
        have heb2 : (y == nm) = true := by rw [hyn]; simp
        clear hyn
        go_wp2
        go_roundw
        case rel => exact ⟨k + 1, by go_num, by omega, HQ2, HB3⟩
        case measure => simp [intOf]; omega
       have heb : (y != nm) = true := bne_iff_ne.2 hyn
       have heb2 : (y == nm) = false := beq_eq_false_iff_ne.2 hyn
       have HHas : Hid (_) := zj9 ia ims.length ic ims y U2 (HTx.out U2 HB3.out).2 (by omega)
       by_cases hm : y ∈ ims
       ·
        have HQ2 : Hid (∀ u, u < k + 1 → zbv nm ims (c.getD u in0) = true) := fun u hu => by
         by_cases e : u = k
         ·
          rw [e, HCb.out, decide_eq_true hm, Bool.or_true]
         ·
          exact HQ.out u (by omega)
        rw [decide_eq_true hm] at HHas
        clear hyn hm
        go_wp2_with fail
        refine Calls.mono HHas.out ?_
        rintro e U3 ⟨rfl, hu3⟩
        obtain rfl := hu3.symm
        go_wp2
        go_roundw
        case rel => exact ⟨k + 1, by go_num, by omega, HQ2, HB3⟩
        case measure => simp [intOf]; omega
       ·
        have HR : Hid (res = false) := HNj.out (fun e => by
         have h2 := e.2
         rw [HX0.out] at h2
         simp only at h2
         rw [zjE (j := k) HKl.out (by rw [HCb.out, decide_eq_false hyn, decide_eq_false hm]; rfl)] at h2
         cases h2)
        rw [decide_eq_false hm] at HHas
        clear hyn hm
        go_wp2_with fail
        refine Calls.mono HHas.out ?_
        rintro e U3 ⟨rfl, hu3⟩
        obtain rfl := hu3.symm
        go_wp2
        go_ret
        exact ⟨by rw [HR.out]; rfl, by first | exact HFV.out _ HB3.out | exact hD ▸ HFV.out _ HB3.out⟩
      ·
       have HQ2 : Hid (∀ u, u < k + 1 → zbv nm ims (c.getD u in0) = true) := fun u hu => by
        by_cases e : u = k
        ·
         rw [e, hi]; unfold zbv; simp [h9]
        ·
         exact HQ.out u (by omega)
       have hne : (kd != 9) = true := by rw [bne_iff_ne]; exact h9
       clear hi
       go_wp2
       go_roundw
       case rel => exact ⟨k + 1, by go_num, by omega, HQ2, HBk⟩
       case measure => simp [intOf]; omega
     ·
      have HO2 : Hid (∀ u, u < j + 1 → zdJ nm ims rs u) := fun u hu => by
       by_cases e : u = j
       ·
        subst e
        refine ⟨⟨by rw [HX0.out]; exact HRb.out, fun h => by rw [HX0.out]; exact (HF.out (by trivial)).1 h, by rw [HX0.out]; exact (HF.out (by trivial)).2⟩, ?_⟩
        rw [HX0.out]
        exact zhT (fun q hq => HQ.out q (by have := HCl.out; have hq2 : q < c.length := hq; omega))
       ·
        exact HO.out u (by omega)
      have HBo : Hid (Below W.heap.size W U) := HBV.out.trans (HBk.out.mono HBV.out.size)
      go_wp2
      go_roundw
      case rel => exact ⟨j + 1, by go_num, by omega, HO2, HBo⟩
      case measure => simp [intOf]; omega
   ·
    have HR : Hid (res = false) := HT.out rfl
    go_wp2
    go_ret
    exact ⟨by rw [HR.out]; rfl, by first | exact HFV.out _ HVc.out | exact hD ▸ HFV.out _ HVc.out⟩
  ·
   have HR : Hid (res = true) := HY2.out (fun u hu => HO.out u (by omega))
   have HF := HFB.out _ HBr.out
   go_wp2
   go_ret
   exact ⟨by rw [HR.out]; rfl, by first | exact HF | exact hD ▸ HF⟩
section
variable {P : Program} {ops : Array Oper} {Q : Exit → Act → World → Prop} {md : Region.Mode} {S : World → Prop} {E : List Nat}
theorem Till.two {i j : Nat} {oi oj : Oper} {k : Nat} {listed : Array Bool} {a : Act} {w : World} (hr : Region.ready md ops listed = [i, j]) (hoi : ops[i]? = some oi) (hoj : ops[j]? = some oj) (hsh : zaT md ops listed)
 (hi : ∀ K' : Act → World → Prop, Shut (∀ b v, S v → (S v → zaT md ops (listed.setIfInBounds i true) → Till P md ops Q E S k (listed.setIfInBounds i true) b v) → K' b v) → if Region.wanted oi (yielded ops a.tmps) = true then Oper.wp P oi a w K' Q else K' (a.put oi.dst undef) w)
 (hj : ∀ K' : Act → World → Prop, Shut (∀ b v, S v → (S v → zaT md ops (listed.setIfInBounds j true) → Till P md ops Q E S k (listed.setIfInBounds j true) b v) → K' b v) → if Region.wanted oj (yielded ops a.tmps) = true then Oper.wp P oj a w K' Q else K' (a.put oj.dst undef) w) : Till P md ops Q E S (k + 1) listed a w := by
 have hiM : i ∈ Region.ready md ops listed := by rw [hr]; simp
 have hjM : j ∈ Region.ready md ops listed := by rw [hr]; simp
 refine ⟨fun h0 => (by rw [h0] at hiM; cases hiM), fun m hm => ?_⟩
 rw [hr] at hm
 rcases List.mem_cons.1 hm with e | hm
 ·
  subst e
  exact wpOp_step hoi (fun K' hK => hi K' (fun b v hS hW => hK b v ⟨fun _ => hS, hW hS (hsh.set hiM)⟩))
 ·
  obtain rfl := List.mem_singleton.1 hm
  exact wpOp_step hoj (fun K' hK => hj K' (fun b v hS hW => hK b v ⟨fun _ => hS, hW hS (hsh.set hjM)⟩))
end
def nvL (k : Nat) : List Value := (List.range 60).map fun j => .bool (decide (j < k))
def nv (k : Nat) : Array Value := (nvL k).toArray
section
variable {X Y : World} {b o k : Nat}
end
theorem zcD (b : Nat) : ∀ (vs : List Value) (o : Nat) (w : World), w.grownBy (w.setCells b o vs) (some b)
 | [], _, w => World.grownBy.refl w _
 | v :: r, o, w => by
  rw [World.setCells]
  exact (zaB w b o v).trans (zcD b r (o + 1) _)
end Go.Proofs.YtenaaneckobdpaaGreat
