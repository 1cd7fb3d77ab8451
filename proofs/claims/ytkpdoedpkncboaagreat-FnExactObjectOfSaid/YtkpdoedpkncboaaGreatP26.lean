/-
  Parts of one proof, one behind the other: ObQ, ObSm, DrawI, DrawI2, DrawTr2, DrawTr3, DrawTr4, DrawI3, Draw14, ObO0.
-/
import Derived.Test.YtkpdoedpkncboaaGreatP25
import Derived.Test.YtkpdoedpkncboaaGreatP23
import Derived.Test.YtkpdoedpkncboaaGreatP24
import Derived.Test.YtkpdoedpkncboaaGreatP14
import Derived.Test.YtkpdoedpkncboaaGreatP22
import Derived.Test.YtkpdoedpkncboaaGreatP6
import Derived.Deep.MidRow
import Derived.Test.YtkpdoedpkncboaaGreatP2
import Derived.Test.YtkpdoedpkncboaaGreatP3
import Derived.Test.YtkpdoedpkncboaaGreatP21
import Derived.Deep.Cut
import Derived.Maps.AppendAt
import Derived.Test.YtkpdoedpkncboaaGreatP13
namespace Go.Proofs.YtkpdoedpkncboaaGreat
open Go.RowKit
set_option maxHeartbeats 8000000 in
set_option maxRecDepth 100000 in
theorem zha (nm : List UInt8) (ia : Option Addr) (il ic : Nat) (fa : Option Addr) (fl fc : Nat) (ims : List (List UInt8)) (fs : List Fn) (w : World) (h : PkOk w nm ia il ic fa fl fc ims fs) :
 Calls Tryz.prog 7 #[.agg #[.string ⟨nm.toArray⟩, .slice ia il ic, .slice fa fl fc]] w fun e w' => ∃ vi vr xs, e = .returned (.agg #[.string ⟨(zbQ (zao (nm, ims, fs))).1.toArray⟩, vi, vr]) ∧ xs.map (·.1) = (zbQ (zao (nm, ims, fs))).2.2 ∧ w'.ownsRow w.heap.size 9 1 vi (zbQ (zao (nm, ims, fs))).2.1.length (strV (zbQ (zao (nm, ims, fs))).2.1) ∧ za6 w' w.heap.size vr xs ∧ zbm (xs.map rvT) ∧ Below w.heap.size w w' := by
 obtain ⟨bP, hb1⟩ := Bq.new w (.string ⟨nm.toArray⟩) (.slice ia il ic) (.slice fa fl fc) 33
 obtain ⟨W1, hW1⟩ : ∃ W1, w.alloc (.cells #[.string ⟨nm.toArray⟩, .slice ia il ic, .slice fa fl fc] 33) = W1 := ⟨_, rfl⟩
 rw [hW1] at bP hb1
 obtain ⟨bR, hb2⟩ := Bq.new W1 (.string ⟨#[]⟩) (.slice none 0 0) (.slice none 0 0) 29
 obtain ⟨W2, hW2⟩ : ∃ W2, W1.alloc (.cells #[.string ⟨#[]⟩, .slice none 0 0, .slice none 0 0] 29) = W2 := ⟨_, rfl⟩
 rw [hW2] at bR hb2
 obtain ⟨P0, hP0⟩ : ∃ P0, w.heap.size = P0 := ⟨_, rfl⟩
 obtain ⟨R0, hR0⟩ : ∃ R0, W1.heap.size = R0 := ⟨_, rfl⟩
 rw [hP0] at bP
 rw [hR0] at bR
 have hPl : P0 < W1.heap.size := bP.box.lt
 have hRl : R0 < W2.heap.size := bR.box.lt
 have hPR : P0 ≤ R0 := by omega
 have hbw : Below w.heap.size w W2 := hb1.trans (hb2.mono hb1.size)
 have HZ : Hid (∀ Y, Below W2.heap.size W2 Y → Bq Y P0 (.string ⟨nm.toArray⟩) (.slice ia il ic) (.slice fa fl fc) ∧ Bq Y R0 (.string ⟨#[]⟩) (.slice none 0 0) (.slice none 0 0) ∧ Below w.heap.size w Y) := fun Y hy => ⟨(bP.below hb2).below hy, bR.below hy, hbw.trans (hy.mono hbw.size)⟩
 have HFp : Hid (_) := zdT nm ia il ic fa fl fc ims fs W2 (h.below hbw)
 obtain ⟨b0, _, _⟩ := HZ.out W2 (Below.refl _ _)
 have p0 := b0.box.c0
 have p1 := b0.box.c1
 have p2 := b0.box.c2
 clear b0 bP bR hb1 hb2 h
 obtain ⟨q, hq⟩ : ∃ q, zao (nm, ims, fs) = q := ⟨_, rfl⟩
 have HQ : Hid (zao (nm, ims, fs) = q) := hq
 have HFn : Hid (∀ k, k < q.2.2.length → (q.2.2.getD k fn0).1.length ≤ 8 ∧ (0 ≤ (q.2.2.getD k fn0).2.1 ∧ (q.2.2.getD k fn0).2.1 ≤ 3) ∧ zaI (q.2.2.getD k fn0).2.2 = true) := fun k hk => by rw [← hq] at hk ⊢; exact zeR _ hk
 have HNa : Hid (∀ i j, i < q.2.2.length → j < q.2.2.length → (q.2.2.getD i fn0).1 = (q.2.2.getD j fn0).1 → i = j) := by rw [← hq]; exact zhk _
 have HQi : Hid (∀ i, (q.2.1.getD i []).length ≤ 8) := by rw [← hq]; exact zfT _
 have HRF : Hid (∀ rs : List Rt, (∀ r ∈ rs, r ∈ q.2.2.map (rtF q.1)) → IntR rs ∧ zcQ rs) := fun rs h => by rw [← hq] at h; exact rtsF_ok _ h
 have HbW : Hid (w.heap.size ≤ W2.heap.size) := hbw.size
 have HQn : Hid (q.1.length ≤ 8 ∧ q.2.1.length ≤ 6 ∧ q.2.2.length ≤ 8) := ⟨by rw [← hq]; exact zeQ _, by rw [← hq]; exact (zc3 _).1, by rw [← hq]; exact (zc3 _).2.1⟩
 rw [hq] at HFp ⊢
 clear hq
 go_enter Tryz.func7, Tryz.ntmps7
 go_wp2_with fail
 refine Calls.mono HFp.out ?_
 rintro e w3 ⟨vi, vf, zs, rfl, hzs, hvi, hvf, hza, hb3⟩
 have hz8 : zs.length ≤ 8 := by have h1 := HQn.out.2.2; rw [← hzs, List.length_map] at h1; exact h1
 obtain ⟨va, vc, rfl⟩ := zaE hvi
 obtain ⟨ga, gc, rfl⟩ := zaE hvf.row
 obtain ⟨bS, hb4⟩ := Bq.new w3 (.string ⟨q.1.toArray⟩) (.slice va q.2.1.length vc) (.slice ga zs.length gc) 33
 obtain ⟨w4, hw4⟩ : ∃ W, w3.alloc (.cells #[.string ⟨q.1.toArray⟩, .slice va q.2.1.length vc, .slice ga zs.length gc] 33) = W := ⟨_, rfl⟩
 rw [hw4] at bS hb4
 obtain ⟨S, hS⟩ : ∃ S, w3.heap.size = S := ⟨_, rfl⟩
 rw [hS] at bS
 have s0 := bS.box.c0
 have s1 := bS.box.c1
 have s2 := bS.box.c2
 obtain ⟨bO, hb5⟩ := Bq.new w4 (.string ⟨q.1.toArray⟩) (.slice va q.2.1.length vc) (.slice none 0 0) 29
 have hSO : S < w4.heap.size := bS.box.lt
 have HS0 : Hid (So15 w3 (w4.alloc (.cells #[.string ⟨q.1.toArray⟩, .slice va q.2.1.length vc, .slice none 0 0] 29)) S w4.heap.size q.1 (.slice va q.2.1.length vc) (.slice ga zs.length gc) none 0 0 []) := ⟨bS.below hb5, bO, za6.nil _ _, zbm.nil, rfl, hSO, by omega, hb4.trans (hb5.mono hb4.size)⟩
 have HV : Hid (w3.ownsRow W2.heap.size 9 1 (.slice va q.2.1.length vc) q.2.1.length (strV q.2.1) ∧ zas w3 W2.heap.size (.slice ga zs.length gc) zs ∧ zs.map (·.1) = q.2.2 ∧ Below W2.heap.size W2 w3) := ⟨hvi, hvf, hzs, hb3⟩
 have t2 := HS0.out.s.box.c2
 have HM0 : Hid (([] : List RV).map (·.1) = (q.2.2.take 0).map (rtF q.1)) := by exact (by simp : ([] : List RV).map (·.1) = (q.2.2.take 0).map (rtF q.1))
 clear bO hb5 bS hb4 hvi hvf hza hzs hb3 HFp p0 p1 p2
 go_wp2
 go_loopw [17] (fun jv wx => ∃ (j : Nat) (ra : Option Addr) (rc : Nat) (ys : List RV), jv = .int .i64 (j : Int) ∧ j ≤ zs.length ∧ Hid (j = 0 → ra = none ∧ rc = 0) ∧ Hid (ys.map (·.1) = (q.2.2.take j).map (rtF q.1)) ∧ Hid (So15 w3 wx S w4.heap.size q.1 (.slice va q.2.1.length vc) (.slice ga zs.length gc) ra j rc ys)) (fun jv _ => zs.length - (intOf jv).toNat)
 case atStart => exact ⟨0, none, 0, [], rfl, Nat.zero_le _, (fun _ => ⟨rfl, rfl⟩), HM0, HS0⟩
 case round =>
  obtain ⟨j, ra, rc, ys, rfl, hj, HNl, HM, HSq⟩ := hrel
  clear HM0 HS0 t2 s0 s1 s2
  by_cases hlt : (j : Int) < (zs.length : Int)
  ·
   have hj2 : j < zs.length := by omega
   have hq2 : zs.length = q.2.2.length := by rw [← HV.out.2.2.1, List.length_map]
   have hfn := HFn.out j (by omega)
   have hzm := zcf zs fv0 hj2
   have htr := HV.out.2.1.trees _ hzm
   have hgd : q.2.2.getD j fn0 = (zs.getD j fv0).1 := by rw [← HV.out.2.2.1]; exact zcK zs j
   rw [hgd] at hfn
   obtain ⟨v0, v1, v2⟩ := zeT zs j hj2
   obtain ⟨gf, cf, eg⟩ := zag HV.out.2.1.row (by omega)
   injection eg with eg1 _ eg3
   subst eg1 eg3
   have hc := fun k (hk : k < zs.length * 3) => World.ownsRow.cellAt HV.out.2.1.row k hk
   have hgl := (HV.out.2.1.row.lt gf rfl).2
   have c0 := ((HSq.out.b.cell (p := ⟨gf, j * 3, none⟩) hgl).trans (hc _ (by omega))).trans v0
   have c1 := ((HSq.out.b.cell (p := ⟨gf, j * 3 + 1, none⟩) hgl).trans (hc _ (by omega))).trans v1
   have c2 := ((HSq.out.b.cell (p := ⟨gf, j * 3 + 2, none⟩) hgl).trans (hc _ (by omega))).trans v2
   have htk : q.2.2.take (j + 1) = q.2.2.take j ++ [(zs.getD j fv0).1] := by
    have hg2 : q.2.2.getD j fn0 = q.2.2[j]'(by omega) := by rw [List.getD_eq_getElem?_getD, List.getElem?_eq_getElem (by omega)]; rfl
    rw [← hgd, hg2, List.take_succ_eq_append_getElem]
   obtain ⟨z, hz⟩ : ∃ z, zs.getD j fv0 = z := ⟨_, rfl⟩
   rw [hz] at hfn htr c0 c1 c2 htk
   obtain ⟨⟨s, n, t⟩, ta, tc⟩ := z
   simp only at hfn htr c0 c1 htk
   have hcap := zcl htr
   obtain ⟨_, ta', tc', et, hnod⟩ := zaq htr
   injection et with et1 _ et3
   subst et1 et3
   have hbd := zgG hfn.2.2
   have htl : t.length ≤ 60 := (of_decide_eq_true hfn.2.2).1.2
   obtain ⟨Y, hY⟩ : ∃ Y, wr.alloc (.cells #[.string ⟨s.toArray⟩, .int .i64 n, .slice ta t.length tc] 48) = Y := ⟨_, rfl⟩
   have hb : Below wr.heap.size wr Y := by rw [← hY]; exact (Below.refl _ _).alloc (Nat.le_refl _) _
   have hsY : wr.heap.size < Y.heap.size := by rw [← hY]; simp
   have hR : Y.heap[wr.heap.size]? = some (.cells #[.string ⟨s.toArray⟩, .int .i64 n, .slice ta t.length tc] 48) := by rw [← hY]; exact heap_alloc_new wr _
   have hSY := HSq.out.below hb
   obtain ⟨y0, y1, y2, _⟩ := zdW (Below.refl _ Y) hsY hR
   have o2 := hSY.o.box.c2
   have s0 := hSY.s.box.c0
   have hOl := hSY.o.box.lt
   have HRo : Hid (∀ V, Below Y.heap.size Y V → Calls Tryz.prog 20 #[.string ⟨q.1.toArray⟩, .agg #[.string ⟨s.toArray⟩, .int .i64 n, .slice ta t.length tc]] V fun e w' => ∃ a c, e = .returned (.agg #[.string ⟨(q.1 ++ [46] ++ s).toArray⟩, .int .i64 n, .slice a (za9 t).length c]) ∧ w'.ownsRow V.heap.size 88 5 (.slice a (za9 t).length c) (za9 t).length (insV (za9 t)) ∧ Below V.heap.size V w') := fun V hV => zgt q.1 s n t ta t.length tc V (((hnod.below HSq.out.b).below hb).below hV) hbd.1 hbd.2 (by omega) hcap.1 hcap.2 (by have := HQn.out.1; omega) (by have := hfn.1; omega)
   have HSt : Hid (∀ V w5 a c, Below Y.heap.size Y V → w5.ownsRow V.heap.size 88 5 (.slice a (za9 t).length c) (za9 t).length (insV (za9 t)) → Below V.heap.size V w5 → ∃ g' c' Z, (Builtin.append_ #[27, 27] 27 #[.slice ra j rc, .slice (some ⟨w5.heap.size, 0, none⟩) 1 1]).run Tryz.prog (w5.alloc (.cells #[.string ⟨(q.1 ++ [46] ++ s).toArray⟩, .int .i64 n, .slice a (za9 t).length c] 51)) = .ok (.slice (some ⟨g', 0, none⟩) (j + 1) c') Z ∧ Z.cell? ⟨w4.heap.size, 2, none⟩ = some (.slice ra j rc) ∧ Z.frozen? ⟨w4.heap.size, 2, none⟩ = false ∧ So15 w3 (Z.setCell ⟨w4.heap.size, 2, none⟩ (.slice (some ⟨g', 0, none⟩) (j + 1) c')) S w4.heap.size q.1 (.slice va q.2.1.length vc) (.slice (some ⟨gf, 0, none⟩) zs.length gc) (some ⟨g', 0, none⟩) (j + 1) c' (ys ++ [((q.1 ++ [46] ++ s, n, za9 t), a, c)]) ∧ w5.cell? ⟨w4.heap.size, 2, none⟩ = some (.slice ra j rc) ∧ (w5.alloc (.cells #[.string ⟨(q.1 ++ [46] ++ s).toArray⟩, .int .i64 n, .slice a (za9 t).length c] 51)).cell? ⟨w4.heap.size, 2, none⟩ = some (.slice ra j rc)) := fun V w5 a c hV hcr hb5 => by
    have hSV := hSY.below hV
    have hS5 := hSV.below hb5
    have hVs := hV.size
    obtain ⟨g', c', Z, hrun, z0, zf, hS2⟩ := hS5.push ((q.1 ++ [46] ++ s, n, za9 t), a, c) (zaj hcr (by omega)) (fun z hz => zjg (hSV.rts.trees z hz) hcr (Nat.le_refl _)) (by omega)
    simp only [rvT] at hrun
    exact ⟨g', c', Z, hrun, z0, zf, hS2, hS5.o.box.c2, (hS5.o.below ((Below.refl _ _).alloc (Nat.le_refl _) _)).box.c2⟩
   have HMp : Hid (∀ (x : RV), x.1 = rtF q.1 (s, n, t) → (ys ++ [x]).map (·.1) = (q.2.2.take (j + 1)).map (rtF q.1)) := fun x hx => by
    rw [htk, List.map_append, List.map_append, HM.out]
    show _ ++ [x.1] = _ ++ [rtF q.1 (s, n, t)]
    rw [hx]
   obtain ⟨F, hF⟩ : ∃ F, wr.heap.size = F := ⟨_, rfl⟩
   rw [hF] at y0 y1 y2
   have HRf : Hid (((q.1 ++ [46] ++ s, n, za9 t) : Rt) = rtF q.1 (s, n, t)) := rfl
   generalize za9 t = cd at HRo HSt HRf
   generalize q.1 ++ [46] ++ s = rn at HRo HSt HRf
   obtain ⟨nc, hnc⟩ : ∃ nc, cd.length = nc := ⟨_, rfl⟩
   rw [hnc] at HRo HSt
   obtain ⟨tl, htlE⟩ : ∃ tl, t.length = tl := ⟨_, rfl⟩
   have c2' : wr.cell? ⟨gf, j * 3 + 2, none⟩ = some (.slice ta tl tc) := by rw [← htlE]; exact c2
   rw [htlE] at hY y2 HRo
   clear hfn hzm htr hgd v0 v1 v2 hc htk hz hcap hnod hbd htl hb hR hSY HSq HM hsY hnc c2 htlE HV hq2 HNl
   go_wp2_with fail
   go_region_law (first | (refine za8 (by rfl) (.tmp 22) (.tmp 27) 27 (by rfl) _ _ _ (by rfl) (by rfl) hr5 ?_) | (go_simp; go_at_call 20; refine Calls.mono (HRo.out _ ⟨rfl, rfl, rfl, Nat.le_refl _, fun _ _ => rfl⟩) ?_; rintro e w5 ⟨g5, c5, rfl, hcr, hb5⟩; obtain ⟨g', c', Z, hr5, z0, zf, hq, o15, o16⟩ := HSt.out Y.drew w5 g5 c5 ⟨rfl, rfl, rfl, Nat.le_refl _, fun _ _ => rfl⟩ hcr hb5; have HQ2 : Hid (_) := hq; clear hcr hb5 hq; dsimp only))
   all_goals
    go_wp2
    go_roundw
    case rel => exact ⟨j + 1, some ⟨g', 0, none⟩, c', _, by go_num, by omega, (fun e => absurd e (Nat.succ_ne_zero _)), HMp.out _ HRf.out, HQ2⟩
    case measure => simp [intOf]; omega
  ·
   obtain rfl : j = zs.length := by omega
   have hq2 : zs.length = q.2.2.length := by rw [← HV.out.2.2.1, List.length_map]
   have hmf : ys.map (·.1) = q.2.2.map (rtF q.1) := by rw [HM.out, List.take_of_length_le (by omega)]
   have hon : ∀ a ∈ q.2.2.map (rtF q.1), ∀ b ∈ q.2.2.map (rtF q.1), a.1 = b.1 → a = b := rts_once HNa.out
   have o2 := HSq.out.o.box.c2
   have hOl := HSq.out.o.box.lt
   have HSo : Hid (Calls Tryz.prog 21 #[.slice ra zs.length rc] wr fun e w' => e = .returned (.tuple #[]) ∧ ∃ ys2 : List RV, ys2.map (·.1) = zaA (q.2.2.map (rtF q.1)) ∧ zbm (ys2.map rvT) ∧ za6 w' (w4.heap.size + 1) (.slice ra zs.length rc) ys2 ∧ ys2.length = zs.length ∧ Bq w' w4.heap.size (.string ⟨q.1.toArray⟩) (.slice va q.2.1.length vc) (.slice ra zs.length rc) ∧ Below w3.heap.size w3 w') := by
    have hgl := HSq.out.gl
    by_cases hz : zs.length = 0
    ·
     obtain ⟨rfl, rfl⟩ := HNl.out hz
     rw [hz]
     rw [hz] at hgl
     have hy0 : ys = [] := List.length_eq_zero_iff.1 hgl
     refine (zhY wr).mono ?_
     rintro e w' ⟨rfl, rfl⟩
     have hm0 : q.2.2.map (rtF q.1) = [] := by rw [← hmf, hy0]; rfl
     refine ⟨rfl, [], by rw [hm0]; rfl, zbm.nil, za6.nil _ _, rfl, by have := HSq.out.o; rw [hz] at this; exact this, HSq.out.b⟩
    ·
     have hrt := HSq.out.rts
     have hrow : wr.ownsRow (w4.heap.size + 1) 51 3 (.slice ra zs.length rc) zs.length (rtsV ys) := by have := hrt.row; rw [hgl] at this; exact this
     obtain ⟨g, cp, eg⟩ := zag hrow hz
     injection eg with eg1 _ eg3
     subst eg1 eg3
     have hsb := zjz (w4.heap.size + 1) g rc ys wr (by rw [hgl]; exact hrt) (by omega)
     rw [hgl] at hsb
     refine hsb.mono ?_
     rintro e w' ⟨rfl, ys2, hp, hs, hry, hg2⟩
     have hyl : ys2.length = zs.length := by rw [hp.length_eq, hgl]
     rw [hyl] at hry
     have hgw := (hrow.lt g rfl).1
     have hes := HSq.out.es
     have hso := HSq.out.so
     have hbs := HSq.out.b
     exact ⟨rfl, ys2, zkm hon (by rw [← hmf]; exact hp.map _) hs, HSq.out.ap.perm hp, hry, hyl, HSq.out.o.keep (hg2.block _ hOl (fun e => by injection e with e; omega)), hbs.grown hg2 hbs.size (fun k e => by injection e with e; omega)⟩
   have HIR : Hid (IntR (zaA (q.2.2.map (rtF q.1))) ∧ zcQ (zaA (q.2.2.map (rtF q.1)))) := HRF.out _ (fun r hr => (zbM _).mem_iff.1 hr)
   have HSl : Hid ((zaA (q.2.2.map (rtF q.1))).length = zs.length) := by exact (by rw [zfJ, List.length_map, hq2] : (zaA (q.2.2.map (rtF q.1))).length = zs.length)
   have HOB : Hid (zbQ q = if objB (q.1, q.2.1, zaA (q.2.2.map (rtF q.1))) = true then (q.1, q.2.1, zaA (q.2.2.map (rtF q.1))) else ob0) := rfl
   have HV2 : Hid (w3.ownsRow W2.heap.size 9 1 (.slice va q.2.1.length vc) q.2.1.length (strV q.2.1) ∧ Below W2.heap.size W2 w3) := ⟨HV.out.1, HV.out.2.2.2⟩
   generalize zaA (q.2.2.map (rtF q.1)) = rs at HSo HIR HSl HOB
   have hWO : W2.heap.size ≤ w4.heap.size := by have h1 := HV.out.2.2.2.size; have h2 := HSq.out.es; have h3 := HSq.out.so; omega
   clear HM HNl hmf hon HSq HV hq2
   go_wp2_with fail
   refine Calls.mono HSo.out ?_
   rintro e w6 ⟨rfl, ys2, hys, hay, hry, hyl, hbO, hb6⟩
   have hi6 := za2 HV2.out.1 hb6
   have hbW6 : Below W2.heap.size W2 w6 := HV2.out.2.trans (hb6.mono HV2.out.2.size)
   obtain ⟨a', c', e', hn', ht'⟩ := zfM hi6
   injection e' with e1 _ e3
   subst e1 e3
   have hobk : ObOk w6 q.1 va q.2.1.length vc ra zs.length rc q.2.1 rs := ⟨ht', ⟨hry.cap hys HSl.out, HIR.out.1, HIR.out.2, by omega⟩, hn', by have := HQn.out.2.1; omega, by have := HQn.out.1; omega, fun i => by have := HQi.out i; omega⟩
   have HC : Hid (_) := zh9 q.1 va q.2.1.length vc ra zs.length rc q.2.1 rs w6 hobk
   have q0 := hbO.box.c0
   have q1 := hbO.box.c1
   have q2 := hbO.box.c2
   have HK : Hid (∀ V, Below w6.heap.size w6 V → Bq V w4.heap.size (.string ⟨q.1.toArray⟩) (.slice va q.2.1.length vc) (.slice ra zs.length rc) ∧ V.ownsRow W2.heap.size 9 1 (.slice va q.2.1.length vc) q.2.1.length (strV q.2.1) ∧ za6 V (w4.heap.size + 1) (.slice ra zs.length rc) ys2 ∧ Bq V R0 (.string ⟨#[]⟩) (.slice none 0 0) (.slice none 0 0) ∧ Below w.heap.size w V) := fun V hV => ⟨hbO.below hV, za2 hi6 hV, hry.below hV, (HZ.out V (hbW6.trans (hV.mono hbW6.size))).2.1, (HZ.out V (hbW6.trans (hV.mono hbW6.size))).2.2⟩
   have HYs : Hid (ys2.map (·.1) = rs ∧ zbm (ys2.map rvT)) := ⟨hys, hay⟩
   clear hys hay hry hyl hbO hb6 hi6 hbW6 hn' ht' hobk HSo HIR HSl o2
   rcases hob : objB (q.1, q.2.1, rs) with _ | _
   ·
    have HOb : Hid (zbQ q = ob0) := by exact (by rw [HOB.out, hob]; rfl : zbQ q = ob0)
    rw [hob] at HC
    clear hob
    go_wp2_with fail
    refine Calls.mono HC.out ?_
    rintro e w7 ⟨rfl, hb7⟩
    obtain ⟨_, _, _, bR, hbw7⟩ := HK.out w7 hb7
    have r0 := bR.box.c0
    have r1 := bR.box.c1
    have r2 := bR.box.c2
    have rf0 := bR.fr 0
    have rf1 := bR.fr 1
    have rf2 := bR.fr 2
    obtain ⟨V, hVe, v0, v1, v2, hgV⟩ := set3 (.string ⟨#[]⟩) (.slice none 0 0) (.slice none 0 0) r0 r1 r2
    have HR3 : Hid (Below w.heap.size w V) := hbw7.grown hgV hbw7.size (fun k e => by injection e with e; omega)
    clear hbw7 hgV bR hb7 HC
    go_wp2
    refine bodyPost_ret (v := .agg #[.string ⟨#[]⟩, .slice none 0 0, .slice none 0 0]) (by simp [results, Tryz.results7, go_sem, v0, v1, v2]) rfl ?_
    have q1 : V.ownsRow w.heap.size 9 1 (.slice none 0 0) 0 (strV []) := World.ownsRow_nil V _ _ _
    have q2 : za6 V w.heap.size (.slice none 0 0) [] := za6.nil V _
    have q3 := HR3.out
    simp only [HOb.out, ob0]
    first | exact ⟨_, _, _, rfl, rfl, q1, q2, zbm.nil, q3⟩ | (rw [hP0] at q1 q2 q3; exact ⟨_, _, _, rfl, rfl, q1, q2, zbm.nil, q3⟩) | (rw [hP0] at q1 q2 q3; exact ⟨_, _, rfl, [], rfl, q1, q2, zbm.nil, q3⟩)
   ·
    have HOb : Hid (zbQ q = (q.1, q.2.1, rs)) := by exact (by rw [HOB.out, hob]; rfl : zbQ q = (q.1, q.2.1, rs))
    rw [hob] at HC
    clear hob
    go_wp2_with fail
    refine Calls.mono HC.out ?_
    rintro e w7 ⟨rfl, hb7⟩
    obtain ⟨bO7, hi7, hr7, bR, hbw7⟩ := HK.out w7 hb7
    have p0 := bO7.box.c0
    have p1 := bO7.box.c1
    have p2 := bO7.box.c2
    have r0 := bR.box.c0
    have r1 := bR.box.c1
    have r2 := bR.box.c2
    have rf0 := bR.fr 0
    have rf1 := bR.fr 1
    have rf2 := bR.fr 2
    obtain ⟨V, hVe, v0, v1, v2, hgV⟩ := set3 (.string ⟨q.1.toArray⟩) (.slice va q.2.1.length vc) (.slice ra zs.length rc) r0 r1 r2
    have HR3 : Hid (Below w.heap.size w V) := hbw7.grown hgV hbw7.size (fun k e => by injection e with e; omega)
    have hwW := HbW.out
    have HR1 : Hid (V.ownsRow w.heap.size 9 1 (.slice va q.2.1.length vc) q.2.1.length (strV q.2.1)) := zaj (zaz hi7 hRl hgV) hwW
    have HR2 : Hid (za6 V w.heap.size (.slice ra zs.length rc) ys2) := za6.base ⟨zaz hr7.row (by omega) hgV, fun x hx => zaz (hr7.trees x hx) (by omega) hgV⟩ (by omega)
    clear hbw7 hgV bR hb7 HC hi7 hr7 bO7
    go_wp2
    refine bodyPost_ret (v := .agg #[.string ⟨q.1.toArray⟩, .slice va q.2.1.length vc, .slice ra zs.length rc]) (by simp [results, Tryz.results7, go_sem, v0, v1, v2]) rfl ?_
    have q1 := HR1.out
    have q2 := HR2.out
    have q3 := HR3.out
    simp only [HOb.out]
    first | exact ⟨_, _, _, rfl, HYs.out.1, q1, q2, HYs.out.2, q3⟩ | (rw [hP0] at q1 q2 q3; exact ⟨_, _, _, rfl, HYs.out.1, q1, q2, HYs.out.2, q3⟩) | (rw [hP0] at q1 q2 q3; exact ⟨_, _, rfl, ys2, HYs.out.1, q1, q2, HYs.out.2, q3⟩)
theorem zhK (p : Pk) : (zbQ (zao p)).2.1.length ≤ 6 ∧ (zbQ (zao p)).2.2.length ≤ 8 ∧ ∀ f ∈ (zbQ (zao p)).2.2, f.2.2.length ≤ 200 := by
 obtain ⟨h6, h8, _⟩ := zc3 p
 unfold zbQ
 split
 ·
  refine ⟨h6, ?_, fun r hr => ?_⟩
  ·
   show (zaA ((zao p).2.2.map (rtF (zao p).1))).length ≤ 8
   rw [zfJ, List.length_map]; exact h8
  ·
   have hr2 : r ∈ zaA ((zao p).2.2.map (rtF (zao p).1)) := hr
   obtain ⟨f, hf, rfl⟩ := List.mem_map.1 ((zbM _).mem_iff.1 hr2)
   obtain ⟨k, hk, rfl⟩ := List.mem_iff_getElem.1 hf
   have hg : (zao p).2.2.getD k fn0 = (zao p).2.2[k] := by rw [List.getD_eq_getElem?_getD, List.getElem?_eq_getElem hk]; rfl
   have h1 := zeR p hk
   rw [hg] at h1
   have hc := (zc4 h1.2.2).2.2.1
   show (za9 _).length ≤ 200
   omega
 ·
  exact ⟨by simp [ob0], by simp [ob0], fun f hf => by simp [ob0] at hf⟩
section
variable {X Y : World} {D : Nat} {k r a b : Int} {s : List UInt8}
end
section
variable {ops : Array Oper} {rest : List Oper} {op : Oper} {a : Act} {w : World} {Q : Exit → Act → World → Prop}
end
section
variable {w X Y : World} {B : Nat} {c : Option Addr} {len cap R D : Nat} {k r a b : Int} {s : List UInt8}
end




section
variable {w X Y : World} {B : Nat} {c : Option Addr} {len cap : Nat} {v : Value} {xs : List In13} {m : Nat}
end
section
variable {ops : Array Oper} {rest : List Oper} {op : Oper} {a : Act} {w : World} {Q : Exit → Act → World → Prop}
end
theorem zkq (xs : List RV) (k : Nat) : rtsV (xs.take k) = (rtsV xs).take (k * 3) := by
 induction xs generalizing k with
 | nil => simp [rtsV]
 | cons x r ih =>
  cases k with
  | zero => simp [rtsV]
  | succ k =>
   rw [List.take_succ_cons, rtsV, rtsV, ih k, show (k + 1) * 3 = k * 3 + 1 + 1 + 1 by omega]
   simp
theorem zkr (xs : List RV) (k : Nat) : rtsV (xs.drop k) = (rtsV xs).drop (k * 3) := by
 induction xs generalizing k with
 | nil => simp [rtsV]
 | cons x r ih =>
  cases k with
  | zero => simp
  | succ k =>
   rw [List.drop_succ_cons, ih k, rtsV, show (k + 1) * 3 = k * 3 + 1 + 1 + 1 by omega]
   simp
def SrcR (X : World) (ad : Addr) (zs : List RV) : Prop := ∀ (j : Nat) (u : Value), (rtsV zs)[j]? = some u → X.cell? (ad.add j) = some u
section
variable {X Y : World} {Bs g c : Nat} {xs zs : List RV}
theorem app14 (hv : za6 X Bs (.slice (some ⟨g, 0, none⟩) xs.length c) xs) {ad : Addr} {cz : Nat} (hs : SrcR X ad zs) (ht : ∀ z ∈ zs, X.ownsRow Bs 88 5 (rvT z) z.1.2.2.length (insV z.1.2.2)) (hB : Bs ≤ X.heap.size) (hn : xs.length + zs.length ≤ 4000) :
 ∃ g' c' Y, (Builtin.append_ #[27, 27] 27 #[.slice (some ⟨g, 0, none⟩) xs.length c, .slice (some ad) zs.length cz]).run Tryz.prog X = .ok (.slice (some ⟨g', 0, none⟩) (xs.length + zs.length) c') Y ∧ za6 Y Bs (.slice (some ⟨g', 0, none⟩) (xs ++ zs).length c') (xs ++ zs) ∧ X.grownBy Y (some g) ∧ (g' = g ∨ g' = X.heap.size) := by
 obtain ⟨i0, hi, hz0, hz1, hz2⟩ := info_parts zlf
 obtain ⟨v', Y, hrun, hown, hg, hnn, hat⟩ := run_append_own_at (P := Tryz.prog) X Bs 27 27 51 i0 _ 3 48 Tryz.underlying27 hi hz0 hz1 hz2 rfl (by decide) _ _ _ hv.row ad zs.length cz (rtsV zs) (by rw [zed]) hs (zga _) (by unfold maxLen; omega) (by omega) hB
 have hl : xs.length + zs.length = (xs ++ zs).length := by simp
 rw [← zeu] at hown
 obtain ⟨g', c', rfl⟩ : ∃ g' c', v' = .slice (some ⟨g', 0, none⟩) (xs.length + zs.length) c' := by
  rcases zar hown with ⟨e, _, _⟩ | ⟨g', cp, e⟩
  ·
   have := (hnn.1 e).1; injection this with this; cases this
  ·
   exact ⟨g', cp, e⟩
 refine ⟨g', c', Y, hrun, ⟨by rw [← hl]; exact hown, fun x hx => ?_⟩, hg, ?_⟩
 ·
  have hx2 : X.ownsRow Bs 88 5 (rvT x) x.1.2.2.length (insV x.1.2.2) := by
   rcases List.mem_append.1 hx with e | e
   ·
    exact hv.trees x e
   ·
    exact ht x e
  exact hx2.kept hg (zaK hx2 hv.row (by decide))
 ·
  rcases hat with e | e
  ·
   exact Or.inl (by simpa [Value.ownBlock] using e)
  ·
   exact Or.inr (by simpa [Value.ownBlock] using e)
theorem zcL (X : World) (hB : Bs ≤ X.heap.size) : za6 (X.alloc (.cells #[] 51)) Bs (.slice (some ⟨X.heap.size, 0, none⟩) ([] : List RV).length 0) [] :=
 ⟨World.ownsRow_lit X #[] 0 hB (by decide) rfl, fun x hx => by cases hx⟩
theorem add14 (b o j : Nat) : (⟨b, o, none⟩ : Addr).add j = ⟨b, o + j, none⟩ := by unfold Addr.add; split <;> simp_all
theorem zid (h : za6 X Bs (.slice (some ⟨g, 0, none⟩) xs.length c) xs) {k : Nat} (hk : k ≤ xs.length) : SrcR X ⟨g, 0, none⟩ (xs.take k) := by
 have hl : (xs.take k).length = k := by rw [List.length_take]; omega
 intro j u hu
 have hj : j < k * 3 := by have := (List.getElem?_eq_some_iff.1 hu).1; rw [zed, hl] at this; exact this
 rw [add14, Nat.zero_add, World.ownsRow.cellAt h.row j (by omega)]
 rw [zkq, List.getElem?_take, if_pos hj] at hu
 exact hu
theorem zhr (h : za6 X Bs (.slice (some ⟨g, 0, none⟩) xs.length c) xs) : SrcR X ⟨g, 0, none⟩ xs := by
 have := zid h (Nat.le_refl _)
 rwa [List.take_of_length_le (Nat.le_refl _)] at this
theorem zlY (h : za6 X Bs (.slice (some ⟨g, 0, none⟩) xs.length c) xs) {k : Nat} (hk : k ≤ xs.length) : SrcR X (if c = k then ⟨g, 0, none⟩ else ⟨g, k * 3, none⟩) (xs.drop k) := by
 have hcap := (zcl h.row).1
 have hl : (xs.drop k).length = xs.length - k := List.length_drop
 intro j u hu
 have hj : j < (xs.length - k) * 3 := by have := (List.getElem?_eq_some_iff.1 hu).1; rw [zed, hl] at this; exact this
 rw [if_neg (by omega), add14, World.ownsRow.cellAt h.row (k * 3 + j) (by omega)]
 rw [zkr, List.getElem?_drop] at hu
 exact hu
theorem za6.cells (h : za6 X Bs (.slice (some ⟨g, 0, Option.none⟩) xs.length c) xs) {k : Nat} (hk : k < xs.length) : X.cell? ⟨g, k * 3, Option.none⟩ = some (.string ⟨(xs.getD k rv0).1.1.toArray⟩) ∧ X.cell? ⟨g, k * 3 + 1, Option.none⟩ = some (.int .i64 (xs.getD k rv0).1.2.1) ∧ X.cell? ⟨g, k * 3 + 2, Option.none⟩ = some (rvT (xs.getD k rv0)) := by
 obtain ⟨v0, v1, v2⟩ := zet xs k hk
 refine ⟨?_, ?_, ?_⟩
 ·
  rw [World.ownsRow.cellAt h.row (k * 3) (by omega), v0]
 ·
  rw [World.ownsRow.cellAt h.row (k * 3 + 1) (by omega), v1]
 ·
  rw [World.ownsRow.cellAt h.row (k * 3 + 2) (by omega), v2]
end
section
variable {w1 X Y : World} {g c R : Nat} {xs : List RV} {y : RV}
end
theorem SrcR.src {X : World} {ad : Addr} {zs : List RV} (h : SrcR X ad zs) {n : Nat} (hn : zs.length = n) (cz : Nat) : Src X (.slice (some ad) n cz) zs.length 3 (rtsV zs) := by
 subst hn
 exact ⟨zed zs, zga zs, Or.inr ⟨ad, cz, rfl, h⟩⟩
theorem zif (X : World) : Src X (.slice none 0 0) ([] : List RV).length 3 (rtsV []) := ⟨rfl, (fun u hu => by cases hu), Or.inl ⟨rfl, rfl⟩⟩
theorem appS {X : World} {Bs g c : Nat} {xs zs : List RV} {v : Value} (hv : za6 X Bs (.slice (some ⟨g, 0, none⟩) xs.length c) xs) (hs : Src X v zs.length 3 (rtsV zs)) (ht : ∀ z ∈ zs, X.ownsRow Bs 88 5 (rvT z) z.1.2.2.length (insV z.1.2.2)) (hB : Bs ≤ X.heap.size) (hn : xs.length + zs.length ≤ 4000) :
 ∃ g' c' Y, (Builtin.append_ #[27, 27] 27 #[.slice (some ⟨g, 0, none⟩) xs.length c, v]).run Tryz.prog X = .ok (.slice (some ⟨g', 0, none⟩) (xs.length + zs.length) c') Y ∧ za6 Y Bs (.slice (some ⟨g', 0, none⟩) (xs ++ zs).length c') (xs ++ zs) ∧ X.grownBy Y (some g) ∧ (g' = g ∨ g' = X.heap.size) := by
 obtain ⟨h1, h2, ⟨rfl, h3⟩ | ⟨ad, cz, rfl, h3⟩⟩ := hs
 ·
  obtain rfl : zs = [] := List.length_eq_zero_iff.1 h3
  obtain ⟨i0, hi, hz0, hz1, hz2⟩ := info_parts zlf
  exact ⟨g, c, X, run_append_owned_none (P := Tryz.prog) (w := X) Bs 27 27 51 i0 3 Tryz.underlying27 hi _ _ _ hv.row, by rw [List.append_nil]; exact hv, World.grownBy.refl _ _, Or.inl rfl⟩
 ·
  exact app14 hv h3 ht hB hn
structure Oo15 (W2 X : World) (E0 O : Nat) (nm : List UInt8) (va : Option Addr) (nI vc : Nat) (ims : List (List UInt8)) (ra : Option Addr) (rl rc : Nat) (xs : List RV) : Prop where
 o : Bq X O (.string ⟨nm.toArray⟩) (.slice va nI vc) (.slice ra rl rc)
 rts : za6 X (O + 1) (.slice ra rl rc) xs
 gl : xs.length = rl
 im : X.ownsRow E0 9 1 (.slice va nI vc) nI (strV ims)
 ne : ∀ k, (Value.slice va nI vc).ownBlock = some k → k ≠ O
 eo : E0 ≤ O
 ee : W2.heap.size = E0
 b : Below W2.heap.size W2 X
section
variable {W2 X Y : World} {E0 O : Nat} {nm : List UInt8} {va : Option Addr} {nI vc : Nat} {ims : List (List UInt8)} {ra : Option Addr} {rl rc : Nat} {xs : List RV}
theorem Oo15.below (h : Oo15 W2 X E0 O nm va nI vc ims ra rl rc xs) (hb : Below X.heap.size X Y) : Oo15 W2 Y E0 O nm va nI vc ims ra rl rc xs :=
 ⟨h.o.below hb, h.rts.below hb, h.gl, za2 h.im hb, h.ne, h.eo, h.ee, h.b.trans (hb.mono h.b.size)⟩
theorem Oo15.ol (h : Oo15 W2 X E0 O nm va nI vc ims ra rl rc xs) : O + 1 ≤ X.heap.size := h.o.box.lt
theorem Oo15.set (h : Oo15 W2 X E0 O nm va nI vc ims ra rl rc xs) {g' c' n' : Nat} {zs : List RV} (hz : za6 X (O + 1) (.slice (some ⟨g', 0, none⟩) zs.length c') zs) (hn : zs.length = n') : Oo15 W2 (X.setCell ⟨O, 2, none⟩ (.slice (some ⟨g', 0, none⟩) n' c')) E0 O nm va nI vc ims (some ⟨g', 0, none⟩) n' c' zs := by
 have hg := zaC X O 2 (.slice (some ⟨g', 0, none⟩) n' c')
 have heo := h.eo
 have hee := h.ee
 subst hn
 refine ⟨h.o.s2 _, ⟨zaz hz.row (Nat.lt_succ_self _) hg, fun x hx => zaz (hz.trees x hx) (Nat.lt_succ_self _) hg⟩, rfl, h.im.kept hg ?_, h.ne, h.eo, h.ee, h.b.grown hg h.b.size (fun k e => by injection e with e; omega)⟩
 rcases hv : (Value.slice va nI vc).ownBlock with _ | k
 ·
  exact Or.inl rfl
 ·
  exact Or.inr (fun e => by injection e with e; exact h.ne k hv e)
structure Ir15 (W2 X : World) (E0 O : Nat) (nm : List UInt8) (va : Option Addr) (nI vc : Nat) (ims : List (List UInt8)) (ra : Option Addr) (rl rc : Nat) (xs : List RV) (R : Nat) (y : RV) : Prop where
 s : Oo15 W2 X E0 O nm va nI vc ims ra rl rc xs
 r0 : X.cell? ⟨R, 0, none⟩ = some (.string ⟨y.1.1.toArray⟩)
 r1 : X.cell? ⟨R, 1, none⟩ = some (.int .i64 y.1.2.1)
 r2 : X.cell? ⟨R, 2, none⟩ = some (rvT y)
 yo : X.ownsRow (O + 1) 88 5 (rvT y) y.1.2.2.length (insV y.1.2.2)
 lt : R < X.heap.size
variable {R : Nat} {y : RV}
theorem Ir15.below (h : Ir15 W2 X E0 O nm va nI vc ims ra rl rc xs R y) (hb : Below X.heap.size X Y) : Ir15 W2 Y E0 O nm va nI vc ims ra rl rc xs R y :=
 ⟨h.s.below hb, (hb.cell (p := ⟨R, 0, none⟩) h.lt).trans h.r0, (hb.cell (p := ⟨R, 1, none⟩) h.lt).trans h.r1, (hb.cell (p := ⟨R, 2, none⟩) h.lt).trans h.r2, za2 h.yo hb, Nat.lt_of_lt_of_le h.lt hb.size⟩
theorem Ir15.rest (h : Ir15 W2 X E0 O nm va nI vc ims ra rl rc xs R y) {v : Value} {zs : List RV} (hs : Src X v zs.length 3 (rtsV zs)) (hz : ∀ z ∈ zs, z ∈ xs) (hn : zs.length ≤ 100) :
 ∃ g1 c1 Y1, (Builtin.append_ #[27, 27] 27 #[.slice (some ⟨X.heap.size, 0, none⟩) 0 0, v]).run Tryz.prog (X.alloc (.cells #[] 51)) = .ok (.slice (some ⟨g1, 0, none⟩) zs.length c1) Y1 ∧ Ir15 W2 Y1 E0 O nm va nI vc ims ra rl rc xs R y ∧ za6 Y1 (O + 1) (.slice (some ⟨g1, 0, none⟩) zs.length c1) zs := by
 have hb : Below X.heap.size X (X.alloc (.cells #[] 51)) := (Below.refl _ _).alloc (Nat.le_refl _) _
 have h1 := h.below hb
 have hs1 : Src (X.alloc (.cells #[] 51)) v zs.length 3 (rtsV zs) := by
  obtain ⟨a1, a2, ⟨e, a3⟩ | ⟨ad, c', e, a3⟩⟩ := hs
  ·
   exact ⟨a1, a2, Or.inl ⟨e, a3⟩⟩
  ·
   exact ⟨a1, a2, Or.inr ⟨ad, c', e, fun j u hu => by
    have h4 := a3 j u hu
    rw [hb.cell (World.block_lt_of_cell? X _ h4)]; exact h4⟩⟩
 obtain ⟨g1, c1, Y1, hrun, ho, hg, _⟩ := appS (zcL X h.s.ol) hs1 (fun z hz' => h1.s.rts.trees z (hz z hz')) h1.s.ol (by simp; omega)
 rw [List.nil_append] at ho
 simp only [List.length_nil, Nat.zero_add] at hrun
 exact ⟨g1, c1, Y1, hrun, h.below (hb.grown hg (Nat.le_of_lt (by simp)) (fun q e => by injection e with e; omega)), ho⟩
end
theorem zee {r : Rt} {xs : List RV} {y : RV} {q : Nat} (hy : y.1 = r) (hq : putN r (xs.map (·.1)) = q) : (xs.take q ++ [y] ++ xs.drop q).map (·.1) = zdm r (xs.map (·.1)) := by
 unfold zdm
 rw [hq, List.map_append, List.map_append, List.map_take, List.map_drop, ← hy]
 simp
theorem join_r6 {F : World → Nat → Option Addr → Nat → Option Addr → Nat → Prop} {R : World → Nat → Option Addr → Nat → Option Addr → Nat → Prop} {G : Prop} (main : (∀ V gn ca cc na nc, F V gn ca cc na nc → R V gn ca cc na nc) → G) (rest : ∀ V gn ca cc na nc, F V gn ca cc na nc → R V gn ca cc na nc) : G := main rest
theorem zeh {F : World → Nat → Nat → Nat → Nat → Prop} {R : World → Nat → Nat → Nat → Nat → Prop} {G : Prop} (main : (∀ V g0 go gh ch, F V g0 go gh ch → R V g0 go gh ch) → G) (rest : ∀ V g0 go gh ch, F V g0 go gh ch → R V g0 go gh ch) : G := main rest
end Go.Proofs.YtkpdoedpkncboaaGreat
