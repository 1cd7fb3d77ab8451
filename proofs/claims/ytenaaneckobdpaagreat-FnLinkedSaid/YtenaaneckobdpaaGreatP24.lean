/-
  Parts of one proof, one behind the other: ObO.
-/
import Derived.Test.YtenaaneckobdpaaGreatP23
import Derived.Test.YtenaaneckobdpaaGreatP22
import Derived.Test.YtenaaneckobdpaaGreatP21
import Derived.Test.YtenaaneckobdpaaGreatP14
import Derived.Deep.RegionHeld3
namespace Go.Proofs.YtenaaneckobdpaaGreat
open Go.RowKit
set_option maxHeartbeats 32000000 in
set_option maxRecDepth 100000 in
theorem zdW (nm : List UInt8) (ia : Option Addr) (il ic : Nat) (fa : Option Addr) (fl fc : Nat) (ims : List (List UInt8)) (fs : List Fn) (w : World) (h : PkOk w nm ia il ic fa fl fc ims fs) (hp : Pg15 nm ims fs) :
 Calls Tryz.prog 51 #[.agg #[.string ⟨nm.toArray⟩, .slice ia il ic, .slice fa fl fc]] w fun e w' => ∃ vi vr xs, e = .returned (.agg #[.string ⟨(zeP (nm, ims, fs.map zd7)).1.toArray⟩, vi, vr]) ∧ xs.map (·.1) = (zeP (nm, ims, fs.map zd7)).2.2 ∧ w'.ownsRow w.heap.size 9 1 vi (zeP (nm, ims, fs.map zd7)).2.1.length (strV (zeP (nm, ims, fs.map zd7)).2.1) ∧ za7 w' w.heap.size vr xs ∧ Below w.heap.size w w' := by
 have HFn : Hid (∀ k, k < fs.length → (fs.getD k fn0).1.length ≤ 9 ∧ (0 ≤ (fs.getD k fn0).2.1 ∧ (fs.getD k fn0).2.1 ≤ 3) ∧ zb9 (fs.getD k fn0).2.2 = true) := hp.fn
 have hnm8 : nm.length ≤ 9 := hp.nm
 have hfl8 : fs.length ≤ 8 := hp.fl
 have him6 : ims.length ≤ 9 := hp.il
 have HIms : Hid (∀ i, (ims.getD i []).length ≤ 9) := hp.is
 have HRF : Hid (∀ rs : List Rt, (∀ r ∈ rs, r ∈ (fs.map zd7).map (rtF nm)) → IntR rs ∧ zc0 rs) := fun rs h' => hp.rts h'
 have HOB : Hid (zeP (nm, ims, fs.map zd7) = if objB (nm, ims, zao ((fs.map zd7).map (rtF nm))) = true then (nm, ims, zao ((fs.map zd7).map (rtF nm))) else ob0) := rfl
 generalize zeP (nm, ims, fs.map zd7) = ob at HOB ⊢
 obtain ⟨RS, hRS⟩ : ∃ RS, (fs.map zd7).map (rtF nm) = RS := ⟨_, rfl⟩
 rw [hRS] at HOB HRF
 have HRl : Hid (RS.length = fs.length) := by exact (by rw [← hRS, List.length_map, List.length_map] : RS.length = fs.length)
 have HRg : Hid (∀ k, k < fs.length → RS.getD k rt0 = (nm ++ [46] ++ (fs.getD k fn0).1, (fs.getD k fn0).2.1, zaq (zbI (fs.getD k fn0).2.2))) := fun k hk => by
  rw [← hRS]
  simp only [List.getD_eq_getElem?_getD, List.getElem?_map, List.getElem?_eq_getElem hk]
  rfl
 have HFo : Hid (∀ (Y : World) (i : Nat) (ta : Option Addr) (tl tc : Nat), i < fs.length → zag Y ta tl (fs.getD i fn0).2.2 → Calls Tryz.prog 72 #[.slice ta tl tc, .int .i64 0] Y fun e w' => ∃ v, e = .returned v ∧ w'.ownsRow Y.heap.size 99 4 v (zbI (fs.getD i fn0).2.2).length (za5 (zbI (fs.getD i fn0).2.2)) ∧ Below Y.heap.size Y w') := fun Y i ta tl tc hi hn => by
  have ht := (HFn.out i hi).2.2
  obtain ⟨hl, ho⟩ := zbY.1 ht
  have hf : zbI (fs.getD i fn0).2.2 = zac 60 (fs.getD i fn0).2.2 0 := by unfold zbI; rw [ht]; rfl
  obtain rfl := hn.1
  have he : 0 ≤ endV (fs.getD i fn0).2.2 ((0 : Nat) : Int) := by rw [zd4 (post := []) (by simp) ho]; omega
  rw [hf]
  exact zhE Y ta tc _ hn (h.fs i).2.2 ho.good hl 60 Y 0 (Below.refl _ _) he (by omega)
 clear hRS hp
 obtain ⟨bP, hb1⟩ := Bq.new w (.string ⟨nm.toArray⟩) (.slice ia il ic) (.slice fa fl fc) 85
 obtain ⟨W1, hW1⟩ : ∃ W1, w.alloc (.cells #[.string ⟨nm.toArray⟩, .slice ia il ic, .slice fa fl fc] 85) = W1 := ⟨_, rfl⟩
 rw [hW1] at bP hb1
 obtain ⟨bR, hb2⟩ := Bq.new W1 (.string ⟨#[]⟩) (.slice none 0 0) (.slice none 0 0) 37
 obtain ⟨W2, hW2⟩ : ∃ W2, W1.alloc (.cells #[.string ⟨#[]⟩, .slice none 0 0, .slice none 0 0] 37) = W2 := ⟨_, rfl⟩
 rw [hW2] at bR hb2
 obtain ⟨P0, hP0⟩ : ∃ P0, w.heap.size = P0 := ⟨_, rfl⟩
 obtain ⟨R0, hR0⟩ : ∃ R0, W1.heap.size = R0 := ⟨_, rfl⟩
 rw [hP0] at bP
 rw [hR0] at bR
 have hPl : P0 < W1.heap.size := bP.box.lt
 have hRl : R0 < W2.heap.size := bR.box.lt
 have hbw : Below w.heap.size w W2 := hb1.trans (hb2.mono hb1.size)
 have HZ : Hid (∀ Y, Below W2.heap.size W2 Y → Bq Y P0 (.string ⟨nm.toArray⟩) (.slice ia il ic) (.slice fa fl fc) ∧ Bq Y R0 (.string ⟨#[]⟩) (.slice none 0 0) (.slice none 0 0) ∧ Below w.heap.size w Y) := fun Y hy => ⟨(bP.below hb2).below hy, bR.below hy, hbw.trans (hy.mono hbw.size)⟩
 have HTx : Hid (∀ Y, Below w.heap.size w Y → Calls Tryz.prog 70 #[.slice ia il ic] Y fun e w' => ∃ v, e = .returned v ∧ w'.ownsRow Y.heap.size 9 1 v ims.length (strV ims) ∧ Below Y.heap.size Y w') := fun Y hy => ziV ia il ic ims Y (h.i.below hy) h.ic h.il
 have HPk : Hid (PkOk w nm ia il ic fa fl fc ims fs) := h
 have HBw : Hid (Below w.heap.size w W2) := hbw
 obtain ⟨b0, r0, _⟩ := HZ.out W2 (Below.refl _ _)
 have p0 := b0.box.c0
 have p1 := b0.box.c1
 have p2 := b0.box.c2
 -- what lies in 'out' ahead of its functions
 have hb27 : Below W2.heap.size W2 W2.drew := ⟨rfl, rfl, rfl, Nat.le_refl _, fun _ _ => rfl⟩
 obtain ⟨bz, hb28⟩ := Bq.new W2 (.string ⟨#[]⟩) (.slice none 0 0) (.slice none 0 0) 37
 obtain ⟨X8, hX8⟩ : ∃ X8, W2.alloc (.cells #[.string ⟨#[]⟩, .slice none 0 0, .slice none 0 0] 37) = X8 := ⟨_, rfl⟩
 rw [hX8] at bz hb28
 have HB27 : Hid (Below W2.heap.size W2 W2.drew) := hb27
 have HB28 : Hid (Below W2.heap.size W2 X8.drew) := ⟨hb28.os, hb28.tape, hb28.output, hb28.size, hb28.block⟩
 obtain ⟨E0, hE0⟩ : ∃ E0, W2.heap.size = E0 := ⟨_, rfl⟩
 rw [hE0] at bz
 have HZb : Hid (∀ Y, Below X8.heap.size X8 Y → Bq Y E0 (.string ⟨#[]⟩) (.slice none 0 0) (.slice none 0 0)) := fun Y hy => bz.below hy
 obtain ⟨c8, _, _⟩ := HZ.out X8 hb28
 have x80 := c8.box.c0
 have x81 := c8.box.c1
 clear hb27 hb28 bz c8 b0 r0 bP bR hb1 hb2 hbw h
 go_enter Tryz.func51, Tryz.ntmps51
 go_upto_region 1 with fail
 go_cut [3] from 9 to 14 (fun ov wx => ∃ (O : Nat) (va : Option Addr) (vc : Nat), ov = .pointer (some ⟨O, 0, none⟩) ∧ E0 ≤ O ∧ Hid (Bq wx O (.string ⟨nm.toArray⟩) (.slice va ims.length vc) (.slice none 0 0) ∧ wx.ownsRow E0 9 1 (.slice va ims.length vc) ims.length (strV ims) ∧ (∀ k, (Value.slice va ims.length vc).ownBlock = some k → k ≠ O) ∧ Below W2.heap.size W2 wx))
 case first =>
  go_region_with (first
   | (go_at_call 70; refine Calls.mono (HTx.out _ (HZ.out _ HB27.out).2.2) ?_; rintro e wn ⟨vi, rfl, hvi, hbn⟩; have HBn : Hid (Below W2.heap.size W2 wn) := HB27.out.trans (hbn.mono HB27.out.size); obtain ⟨va, vc, rfl, _, _⟩ := zcr hvi; clear p0 p1; obtain ⟨bp, _, _⟩ := HZ.out wn HBn.out; have p0 := bp.box.c0; have p1 := bp.box.c1; obtain ⟨bz, hbz⟩ := Bq.new wn (.string ⟨#[]⟩) (.slice none 0 0) (.slice none 0 0) 37; obtain ⟨Q8, hQ8⟩ : ∃ Q8, wn.alloc (.cells #[.string ⟨#[]⟩, .slice none 0 0, .slice none 0 0] 37) = Q8 := ⟨_, rfl⟩; rw [hQ8] at bz hbz; obtain ⟨O, hO⟩ : ∃ O, wn.heap.size = O := ⟨_, rfl⟩; rw [hO] at bz; have z0 := bz.box.c0; have z1 := bz.box.c1; have z2 := bz.box.c2; have zf0 := bz.fr 0; have zf1 := bz.fr 1; have zf2 := bz.fr 2; obtain ⟨U, hU, y0, y1, y2, hgU⟩ := set3 (.string ⟨nm.toArray⟩) (.slice va ims.length vc) (.slice none 0 0) z0 z1 z2; have hEO : E0 ≤ O := (by have := HBn.out.size; omega); have HBQ : Hid (Below W2.heap.size W2 Q8) := HBn.out.trans (hbz.mono HBn.out.size); have HBU : Hid (Below W2.heap.size W2 U) := HBQ.out.grown hgU HBQ.out.size (fun k e => (by injection e with e; omega)); have hvl : ∀ k, (Value.slice va ims.length vc).ownBlock = some k → k < O := (fun k e => (by have := (hvi.lt k e).2; omega)); have HR : Hid (Bq U O (.string ⟨nm.toArray⟩) (.slice va ims.length vc) (.slice none 0 0) ∧ U.ownsRow E0 9 1 (.slice va ims.length vc) ims.length (strV ims) ∧ (∀ k, (Value.slice va ims.length vc).ownBlock = some k → k ≠ O) ∧ Below W2.heap.size W2 U) := ⟨⟨⟨y0, y1, y2⟩, (fun q => (by rw [← hU]; simpa using bz.fr q))⟩, zai (zds (za6 hvi hbz) (zbr.of_grown hgU (S := fun k => k = O) (fun k e => (by injection e with e; exact e.symm))) (fun k e h => (by have := hvl k e; omega))) (by rw [← hE0]; exact HB27.out.size), (fun k e => Nat.ne_of_lt (hvl k e)), HBU.out⟩; obtain ⟨qq, _, _⟩ := HZ.out Q8 HBQ.out; have q0 := qq.box.c0; have q1 := qq.box.c1; obtain ⟨uq, _, _⟩ := HZ.out U HBU.out; have u0 := uq.box.c0; have u1 := uq.box.c1; clear hvi hbn bz hbz hgU bp uq qq hvl)
   | (go_at_call 70; refine Calls.mono (HTx.out _ (HZ.out _ HB28.out).2.2) ?_; rintro e wn ⟨vi, rfl, hvi, hbn⟩; have HBn : Hid (Below W2.heap.size W2 wn) := HB28.out.trans (hbn.mono HB28.out.size); obtain ⟨va, vc, rfl, _, _⟩ := zcr hvi; clear p0 p1; obtain ⟨bp, _, _⟩ := HZ.out wn HBn.out; have p0 := bp.box.c0; have p1 := bp.box.c1; have bz := HZb.out wn ⟨hbn.os, hbn.tape, hbn.output, hbn.size, hbn.block⟩; have z0 := bz.box.c0; have z1 := bz.box.c1; have z2 := bz.box.c2; have zf0 := bz.fr 0; have zf1 := bz.fr 1; have zf2 := bz.fr 2; obtain ⟨U, hU, y0, y1, y2, hgU⟩ := set3 (.string ⟨nm.toArray⟩) (.slice va ims.length vc) (.slice none 0 0) z0 z1 z2; have HBU : Hid (Below W2.heap.size W2 U) := HBn.out.grown hgU HBn.out.size (fun k e => (by injection e with e; omega)); have hvl : ∀ k, (Value.slice va ims.length vc).ownBlock = some k → E0 < k := (fun k e => (by have h1 := (hvi.lt k e).1; have h2 : X8.drew.heap.size = X8.heap.size := rfl; have h3 : X8.heap.size = W2.heap.size + 1 := (by rw [← hX8]; simp); omega)); have HR : Hid (Bq U E0 (.string ⟨nm.toArray⟩) (.slice va ims.length vc) (.slice none 0 0) ∧ U.ownsRow E0 9 1 (.slice va ims.length vc) ims.length (strV ims) ∧ (∀ k, (Value.slice va ims.length vc).ownBlock = some k → k ≠ E0) ∧ Below W2.heap.size W2 U) := ⟨⟨⟨y0, y1, y2⟩, (fun q => (by rw [← hU]; simpa using bz.fr q))⟩, zai (zds hvi (zbr.of_grown hgU (S := fun k => k = E0) (fun k e => (by injection e with e; exact e.symm))) (fun k e h => (by have := hvl k e; omega))) (by rw [← hE0]; exact HB28.out.size), (fun k e => Nat.ne_of_gt (hvl k e)), HBU.out⟩; obtain ⟨uq, _, _⟩ := HZ.out U HBU.out; have u0 := uq.box.c0; have u1 := uq.box.c1; clear hvi hbn bz hgU bp uq hvl))
  all_goals
   go_wp2_with fail
   go_meet
   case rel => exact ⟨_, va, vc, rfl, by omega, (by first | exact HR.out | exact ⟨HR.out.1.keep rfl, zba HR.out.2.1 ⟨rfl, rfl, rfl, Nat.le_refl _, fun _ _ _ => rfl⟩, HR.out.2.2.1, HR.out.2.2.2.trans ⟨rfl, rfl, rfl, Nat.le_refl _, fun _ _ => rfl⟩⟩)⟩
 case rest =>
  obtain ⟨O, va, vc, rfl, hEO, HR⟩ := hcut
  have HflE : Hid (fl = fs.length) := HPk.out.f.1.symm
  obtain ⟨nI, hnI⟩ : ∃ nI, ims.length = nI := ⟨_, rfl⟩
  have HnI : Hid (ims.length = nI) := hnI
  rw [hnI] at HR him6
  have HO0 : Hid (Oo15 W2 wc E0 O nm va nI vc ims none 0 0 []) := ⟨HR.out.1, za7.nil _ _, rfl, HR.out.2.1, HR.out.2.2.1, hEO, hE0, HR.out.2.2.2⟩
  have HS0 : Hid (([] : List RV).map (·.1) = zao (RS.take 0)) := by exact (by simp [zao] : ([] : List RV).map (·.1) = zao (RS.take 0))
  rw [← HflE.out] at hfl8
  clear p0 p1 p2 x80 x81 HTx HB27 HB28 HZb hnI HR
  go_wp2
  go_loopw [4] (fun iv wx => ∃ (i : Nat) (ra : Option Addr) (rc : Nat) (xs : List RV), iv = .int .i64 (i : Int) ∧ i ≤ fl ∧ Hid (i = 0 → ra = none ∧ rc = 0) ∧ Hid (xs.map (·.1) = zao (RS.take i)) ∧ Hid (Oo15 W2 wx E0 O nm va nI vc ims ra i rc xs)) (fun iv _ => fl - (intOf iv).toNat)
  case atStart => exact ⟨0, none, 0, [], rfl, Nat.zero_le _, (fun _ => ⟨rfl, rfl⟩), HS0, HO0⟩
  case round =>
   obtain ⟨i, ra, rc, xs, rfl, hi, HNl, HM, HOo⟩ := hrel
   clear HO0 HS0
   obtain ⟨bp, br, hbw⟩ := HZ.out wr HOo.out.b
   have p2 := bp.box.c2
   by_cases hlt : (i : Int) < (fl : Int)
   ·
    have hi2 : i < fl := by omega
    have hif : i < fs.length := by rw [← HflE.out]; exact hi2
    obtain ⟨b, off, hfae, hbl, c0, c1, ta, tl, tc, c2, htn, hno⟩ := (HPk.out.f.below hbw).2 i hi2
    subst hfae
    have hfn := HFn.out i hif
    have hrg := HRg.out i hif
    have hst := zgV RS i (by rw [HRl.out]; exact hif)
    have HFi : Hid (∀ V, zag V ta tl (fs.getD i fn0).2.2 → _) := fun V hV => HFo.out V i ta tl tc hif hV
    obtain ⟨f, hf⟩ : ∃ f, fs.getD i fn0 = f := ⟨_, rfl⟩
    rw [hf] at c0 c1 hno hfn hrg HFi
    obtain ⟨fn, ar, t⟩ := f
    simp only at c0 c1 hno hfn hrg
    obtain rfl : t.length = tl := hno.1
    rw [hrg] at hst
    have htf := zfM hfn.2.2
    have hcl := zbF htf.1
    have HTf : Hid (zb9 (zbI t) = true) := htf.1
    obtain ⟨X1, hX1⟩ : ∃ X, wr.alloc (.cells #[.string ⟨fn.toArray⟩, .int .i64 ar, .slice ta t.length tc] 102) = X := ⟨_, rfl⟩
    have hb1 : Below wr.heap.size wr X1 := by rw [← hX1]; exact (Below.refl _ _).alloc (Nat.le_refl _) _
    have hF1 : X1.heap[wr.heap.size]? = some (.cells #[.string ⟨fn.toArray⟩, .int .i64 ar, .slice ta t.length tc] 102) := by rw [← hX1]; exact heap_alloc_new wr _
    have st1 := HOo.out.below hb1
    have hP1 := bp.below hb1
    have hPl1 := hP1.box.lt
    obtain ⟨F, hF⟩ : ∃ F, wr.heap.size = F := ⟨_, rfl⟩
    rw [hF] at hF1
    have HG : Hid (∀ V, Below X1.heap.size X1 V → V.cell? ⟨P0, 0, none⟩ = some (.string ⟨nm.toArray⟩) ∧ V.cell? ⟨F, 0, none⟩ = some (.string ⟨fn.toArray⟩) ∧ V.cell? ⟨F, 1, none⟩ = some (.int .i64 ar) ∧ V.cell? ⟨F, 2, none⟩ = some (.slice ta t.length tc)) := fun V hV => by
     obtain ⟨z0, z1, z2, _⟩ := zcG hV (lt_of_block hF1) hF1
     exact ⟨(hP1.below hV).box.c0, z0, z1, z2⟩
    have HFd : Hid (∀ V, Below X1.heap.size X1 V → Calls Tryz.prog 72 #[.slice ta t.length tc, .int .i64 0] V fun e w' => ∃ na nc, e = .returned (.slice na (zbI t).length nc) ∧ zag w' na (zbI t).length (zbI t) ∧ Below V.heap.size V w') := fun V hV => by
     refine (HFi.out V ((hno.below hb1).below hV)).mono ?_
     rintro e w' ⟨v, rfl, ho, hb⟩
     obtain ⟨_, na, nc, rfl, hn⟩ := zaL ho
     exact ⟨na, nc, rfl, hn, hb⟩
    have HCp : Hid (∀ V na nc, zag V na (zbI t).length (zbI t) → Calls Tryz.prog 71 #[.slice na (zbI t).length nc] V fun e w' => ∃ ca cc, e = .returned (.slice ca (zaq (zbI t)).length cc) ∧ w'.ownsRow V.heap.size 58 5 (.slice ca (zaq (zbI t)).length cc) (zaq (zbI t)).length (insV (zaq (zbI t))) ∧ Below V.heap.size V w') := fun V na nc hV => by
     refine (zd9 na nc (zbI t) V hV (ziP HTf.out).2 HTf.out).mono ?_
     rintro e w' ⟨v, rfl, ho, hb⟩
     obtain ⟨ca, cc, rfl⟩ := zaO ho
     exact ⟨ca, cc, rfl, ho, hb⟩
    have hadd1 : ∀ V : World, (Op.stringOp .add ⟨nm.toArray⟩ ⟨#[46]⟩).run Tryz.prog V = .ok (.string ⟨(nm ++ [46]).toArray⟩) V := fun V => run_string_add_lists (P := Tryz.prog) V nm [46] (by omega) (by simp)
    have hadd2 : ∀ V : World, (Op.stringOp .add ⟨(nm ++ [46]).toArray⟩ ⟨fn.toArray⟩).run Tryz.prog V = .ok (.string ⟨(nm ++ [46] ++ fn).toArray⟩) V := fun V => run_string_add_lists (P := Tryz.prog) V (nm ++ [46]) fn (by simp; omega) (by omega)
    have S1 : Hid (Oo15 W2 X1 E0 O nm va nI vc ims ra i rc xs) := st1
    have hO1 : O + 1 ≤ X1.heap.size := st1.ol
    have HSt : Hid (zao (RS.take (i + 1)) = zdb (nm ++ [46] ++ fn, ar, zaq (zbI t)) (zao (RS.take i))) := hst
    generalize zaq (zbI t) = code at HCp HSt
    obtain ⟨cl, hcl2⟩ : ∃ cl, code.length = cl := ⟨_, rfl⟩
    have HCl : Hid (code.length = cl) := hcl2
    rw [hcl2] at HCp
    obtain ⟨ft, hft⟩ : ∃ ft, (zbI t).length = ft := ⟨_, rfl⟩
    generalize zbI t = tt at HFd HCp hft
    rw [hft] at HFd HCp
    generalize nm ++ [46] ++ fn = nmA at hadd2 HSt
    generalize nm ++ [46] = nmB at hadd1 hadd2
    obtain ⟨tl, htl⟩ : ∃ tl, t.length = tl := ⟨_, rfl⟩
    rw [htl] at c2 hX1 HG HFd
    clear hfn hrg hst htf hcl HTf hb1 hF1 st1 hno htn hf hcl2 hft htl HFi HOo hP1 bp br
    go_wp2_with fail
    refine wp_region_held_drew (S := fun V => Below X1.heap.size X1 V) (by kernel_rfl) ⟨rfl, rfl, rfl, Nat.le_refl _, fun _ _ => rfl⟩ (fun hHeld => ?_)
    refine tkO [(0, 27), (1, 28), (2, 29), (3, 30), (4, 31), (5, 32), (6, 33), (7, 34), (8, 35), (9, 36)] ?_
    repeat (refine tkY ?_ rfl (by rfl) ?_ ?_; rotate_left; (focus (intro wq hSw; have e0 := (HG.out wq hSw).1; have e1 := (HG.out wq hSw).2.1; have e2 := (HG.out wq hSw).2.2.1; have e3 := (HG.out wq hSw).2.2.2; clear hSw; first | (go_simp; done) | (go_simp; with_reducible rfl))); simp only [zP])
    refine tkZ ?_
    apply join_r6 (F := fun V gn ca cc _ _ => Ir15 W2 V E0 O nm va nI vc ims ra i rc xs gn ((nmA, ar, code), ca, cc))
    case main =>
     intro key
     refine wpAnyH_ready (rs := [10, 13]) (by kernel_rfl) (by simp) ?_
     refine AllReadyH.cons rfl (fun K hK => ?_) (AllReadyH.cons rfl (fun K hK => ?_) AllReadyH.nil)
     ·
      have hV0 := hHeld.size
      go_simp
      refine Calls.mono (HFd.out _ hHeld) ?_
      rintro e W1f ⟨na, nc, rfl, hnn, hbf⟩
      dsimp only
      have hV1 := hbf.size
      refine hK.out _ _ (by exact hHeld.trans (hbf.mono hHeld.size)) (fun hHeld => ?_)
      clear hK K
      (try simp only [zP])
      refine wpAnyH_ready (rs := [11, 13]) (by kernel_rfl) (by simp) ?_
      refine AllReadyH.cons rfl (fun K hK => ?_) (AllReadyH.cons rfl (fun K hK => ?_) AllReadyH.nil)
      ·
       go_simp
       refine Calls.mono (HCp.out _ na nc hnn) ?_
       rintro e W1c ⟨ca, cc, rfl, hcv, hbc⟩
       dsimp only
       have hV2 := hbc.size
       refine hK.out _ _ (by exact hHeld.trans (hbc.mono hHeld.size)) (fun hHeld => ?_)
       clear hK K
       (try simp only [zP])
       refine tkO [(12, 39)] ?_
       repeat (refine tkY ?_ rfl (by rfl) ?_ ?_; rotate_left; (focus (intro wq hSw; clear hSw; first | (go_simp; done) | (go_simp; with_reducible rfl))); simp only [zP])
       refine tkZ ?_
       refine zR 13 rfl (fun K hK => ?_)
       refine zbh rfl (zcx rfl 6 rfl (fun Y2 gn hR2 hB2 hG2 => ?_))
       have hlo : X1.heap.size ≤ gn := by omega
       refine hK.out _ _ (by exact hHeld.trans (hB2.mono hHeld.size)) (fun hHeld => ?_)
       clear hK K
       (try simp only [zP])
       refine zR 14 rfl (fun K hK => ?_)
       refine zbh rfl (zcw _ _ rfl gn nmA ar ca cl cc rfl rfl hR2 (fun Y3 hR3 hG3 => ?_))
       refine hK.out _ _ (by exact hHeld.grown hG3 hHeld.size (fun q e => by injection e with e; omega)) (fun hHeld => ?_)
       clear hK K
       (try simp only [Act.put])
       have HI2 : Ir15 W2 Y3 E0 O nm va nI vc ims ra i rc xs gn ((nmA, ar, code), ca, cc) := by
        have hrv : rvT ((nmA, ar, code), ca, cc) = .slice ca cl cc := by unfold rvT; rw [HCl.out]
        refine ⟨S1.out.below hHeld, hR3.c0, hR3.c1, by rw [hrv]; exact hR3.c2, ?_, hR3.l⟩
        rw [hrv]
        show Y3.ownsRow (O + 1) 58 5 (.slice ca cl cc) code.length (insV code)
        rw [HCl.out]
        exact zai (za6 hcv (hB2.grown hG3 hB2.size (fun q e => by injection e with e; omega))) (by omega)
       refine wpAnyH_done (by kernel_rfl) ?_ _
       exact key Y3 gn ca cc na nc HI2
      ·
       refine zbh rfl (zcx rfl 6 rfl (fun Y2 gn hR2 hB2 hG2 => ?_))
       have hlo : X1.heap.size ≤ gn := by omega
       have hnn := hnn.below hB2
       have hV2 := hB2.size
       refine hK.out _ _ (by exact hHeld.trans (hB2.mono hHeld.size)) (fun hHeld => ?_)
       clear hK K
       (try simp only [zP])
       refine zR 11 rfl (fun K hK => ?_)
       go_simp
       refine Calls.mono (HCp.out _ na nc hnn) ?_
       rintro e W1c ⟨ca, cc, rfl, hcv, hbc⟩
       dsimp only
       have hgl := hR2.l
       replace hR2 := hR2.below hbc
       refine hK.out _ _ (by exact hHeld.trans (hbc.mono hHeld.size)) (fun hHeld => ?_)
       clear hK K
       (try simp only [zP])
       refine tkO [(12, 39)] ?_
       repeat (refine tkY ?_ rfl (by rfl) ?_ ?_; rotate_left; (focus (intro wq hSw; clear hSw; first | (go_simp; done) | (go_simp; with_reducible rfl))); simp only [zP])
       refine tkZ ?_
       refine zR 14 rfl (fun K hK => ?_)
       refine zbh rfl (zcw _ _ rfl gn nmA ar ca cl cc rfl rfl hR2 (fun Y3 hR3 hG3 => ?_))
       refine hK.out _ _ (by exact hHeld.grown hG3 hHeld.size (fun q e => by injection e with e; omega)) (fun hHeld => ?_)
       clear hK K
       (try simp only [Act.put])
       have HI2 : Ir15 W2 Y3 E0 O nm va nI vc ims ra i rc xs gn ((nmA, ar, code), ca, cc) := by
        have hrv : rvT ((nmA, ar, code), ca, cc) = .slice ca cl cc := by unfold rvT; rw [HCl.out]
        refine ⟨S1.out.below hHeld, hR3.c0, hR3.c1, by rw [hrv]; exact hR3.c2, ?_, hR3.l⟩
        rw [hrv]
        show Y3.ownsRow (O + 1) 58 5 (.slice ca cl cc) code.length (insV code)
        rw [HCl.out]
        exact zai (hcv.kept hG3 (zft hcv (by omega))) (by omega)
       refine wpAnyH_done (by kernel_rfl) ?_ _
       exact key Y3 gn ca cc na nc HI2
     ·
      have hV0 := hHeld.size
      refine zbh rfl (zcx rfl 6 rfl (fun Y2 gn hR2 hB2 hG2 => ?_))
      have hlo : X1.heap.size ≤ gn := by omega
      have hV1 := hB2.size
      refine hK.out _ _ (by exact hHeld.trans (hB2.mono hHeld.size)) (fun hHeld => ?_)
      clear hK K
      (try simp only [zP])
      refine zR 10 rfl (fun K hK => ?_)
      go_simp
      refine Calls.mono (HFd.out _ hHeld) ?_
      rintro e W1f ⟨na, nc, rfl, hnn, hbf⟩
      dsimp only
      have hV2 := hbf.size
      replace hR2 := hR2.below hbf
      refine hK.out _ _ (by exact hHeld.trans (hbf.mono hHeld.size)) (fun hHeld => ?_)
      clear hK K
      (try simp only [zP])
      refine zR 11 rfl (fun K hK => ?_)
      go_simp
      refine Calls.mono (HCp.out _ na nc hnn) ?_
      rintro e W1c ⟨ca, cc, rfl, hcv, hbc⟩
      dsimp only
      have hgl := hR2.l
      replace hR2 := hR2.below hbc
      refine hK.out _ _ (by exact hHeld.trans (hbc.mono hHeld.size)) (fun hHeld => ?_)
      clear hK K
      (try simp only [zP])
      refine tkO [(12, 39)] ?_
      repeat (refine tkY ?_ rfl (by rfl) ?_ ?_; rotate_left; (focus (intro wq hSw; clear hSw; first | (go_simp; done) | (go_simp; with_reducible rfl))); simp only [zP])
      refine tkZ ?_
      refine zR 14 rfl (fun K hK => ?_)
      refine zbh rfl (zcw _ _ rfl gn nmA ar ca cl cc rfl rfl hR2 (fun Y3 hR3 hG3 => ?_))
      refine hK.out _ _ (by exact hHeld.grown hG3 hHeld.size (fun q e => by injection e with e; omega)) (fun hHeld => ?_)
      clear hK K
      (try simp only [Act.put])
      have HI2 : Ir15 W2 Y3 E0 O nm va nI vc ims ra i rc xs gn ((nmA, ar, code), ca, cc) := by
       have hrv : rvT ((nmA, ar, code), ca, cc) = .slice ca cl cc := by unfold rvT; rw [HCl.out]
       refine ⟨S1.out.below hHeld, hR3.c0, hR3.c1, by rw [hrv]; exact hR3.c2, ?_, hR3.l⟩
       rw [hrv]
       show Y3.ownsRow (O + 1) 58 5 (.slice ca cl cc) code.length (insV code)
       rw [HCl.out]
       exact zai (hcv.kept hG3 (zft hcv (by omega))) (by omega)
      refine wpAnyH_done (by kernel_rfl) ?_ _
      exact key Y3 gn ca cc na nc HI2
    case rest =>
     clear hHeld
     intro Y3 gn ca cc na nc HF
     have HI2 : Hid (Ir15 W2 Y3 E0 O nm va nI vc ims ra i rc xs gn ((nmA, ar, code), ca, cc)) := HF
     obtain ⟨y, hy⟩ : ∃ y : RV, ((nmA, ar, code), ca, cc) = y := ⟨_, rfl⟩
     rw [hy] at HI2
     have HSy : Hid (zao (RS.take (i + 1)) = zdb y.1 (zao (RS.take i))) := by exact (by rw [← hy]; exact HSt.out : zao (RS.take (i + 1)) = zdb y.1 (zao (RS.take i)))
     clear HF HCp HFd HG S1 hadd1 hadd2 hy HCl HSt c0 c1 c2 hPl1 hO1
     obtain ⟨rn, hrn⟩ : ∃ rn, y.1.1 = rn := ⟨_, rfl⟩
     have HRn : Hid (y.1.1 = rn) := hrn
     have hxl : xs.length = i := HI2.out.s.gl
     have HXl : Hid (xs.length = i) := hxl
     clear hxl hrn
     go_wp2
     go_loopw [7] (fun nv wx => ∃ q : Nat, nv = .int .i64 (q : Int) ∧ q ≤ i ∧ Hid (∀ j, j < q → Op.bytesLess (xs.getD j rv0).1.1 rn = true) ∧ Hid (Ir15 W2 wx E0 O nm va nI vc ims ra i rc xs gn y)) (fun nv _ => i - (intOf nv).toNat)
     case atStart => exact ⟨0, rfl, Nat.zero_le _, (fun j hj => absurd hj (Nat.not_lt_zero _)), HI2⟩
     case round =>
      obtain ⟨q, rfl, hq, HL, s2⟩ := hrel
      clear HI2
      replace s2 : Hid (Ir15 W2 wr.drew E0 O nm va nI vc ims ra i rc xs gn y) := s2.out.below ⟨rfl, rfl, rfl, Nat.le_refl _, fun _ _ => rfl⟩
      go_wp2_with fail
      have ho2 := s2.out.s.o.box.c2
      have hr0 := s2.out.r0
      rw [HRn.out] at hr0
      by_cases hql : (q : Int) < (i : Int)
      ·
       obtain ⟨g, cg, eg⟩ := za9 (by have := s2.out.s.rts.row; rw [HXl.out] at this; exact this) (by omega : i ≠ 0)
       injection eg with eg1 _ eg3
       subst eg1 eg3
       have hrow : za7 wr.drew (O + 1) (.slice (some ⟨g, 0, none⟩) xs.length rc) xs := by rw [HXl.out]; exact s2.out.s.rts
       have hcs := (hrow.cells (k := q) (by rw [HXl.out]; omega)).1
       obtain ⟨nq, hnq⟩ : ∃ nq, (xs.getD q rv0).1.1 = nq := ⟨_, rfl⟩
       rw [hnq] at hcs
       have HNq : Hid ((xs.getD q rv0).1.1 = nq) := hnq
       refine wp_region_held_drew (S := fun V => V.cell? ⟨O, 2, none⟩ = some (.slice (some ⟨g, 0, none⟩) i rc) ∧ V.cell? ⟨g, q * 3, none⟩ = some (.string ⟨nq.toArray⟩) ∧ V.cell? ⟨gn, 0, none⟩ = some (.string ⟨rn.toArray⟩)) (by kernel_rfl) ⟨ho2, hcs, hr0⟩ (fun hHeld => ?_)
       refine tkO [(0, 40), (1, 41), (2, 42), (3, 43), (4, 44), (5, 45), (6, 46), (7, 47), (8, 48), (9, 49), (10, 50), (11, 51), (12, 52), (13, 53), (14, 54), (15, 55)] ?_
       repeat (refine tkY ?_ rfl (by rfl) ?_ ?_; rotate_left; (focus (intro wq hSw; have e0 := hSw.1; have e1 := hSw.2.1; have e2 := hSw.2.2; clear hSw; first | (go_simp; done) | (go_simp; with_reducible rfl))); simp only [zP])
       refine tkZ ?_
       refine wpAnyH_done (by kernel_rfl) ?_ _
       clear hHeld hcs hr0 ho2 hrow hnq
       generalize wr.drew = V1 at s2 ⊢
       rcases hls : Op.bytesLess nq rn with _ | _
       ·
        have HPn : Hid (putN y.1 (xs.map (·.1)) = q) := zjo (by rw [List.length_map, HXl.out]; omega) (fun j hj => by rw [zb2, HRn.out]; exact HL.out j hj) (fun _ => by rw [zb2, HNq.out, HRn.out]; exact hls)
        clear HL HNq
        have hcl : ¬ rc = q := by
         have h1 := s2.out.s.rts.row
         rw [HXl.out] at h1
         have := (zcg h1).1
         omega
        have hcqi : ¬ (rc : Int) = (q : Int) := by omega
        have hrow : za7 V1 (O + 1) (.slice (some ⟨g, 0, none⟩) xs.length rc) xs := by rw [HXl.out]; exact s2.out.s.rts
        have hcap : i ≤ rc := by have := (zcg hrow.row).1; rw [HXl.out] at this; exact this
        have hqx : q ≤ xs.length := by rw [HXl.out]; exact hq
        have hqc : (q : Int) ≤ (rc : Int) := by omega
        have hqi : (q : Int) ≤ (i : Int) := by omega
        have HLr : Hid ((xs.drop q).length = (i - q)) := by exact (by rw [List.length_drop, HXl.out] : (xs.drop q).length = (i - q))
        have hd14 : Src V1 (.slice (some ⟨g, q * 3, none⟩) (i - q) (rc - q)) (xs.drop q).length 3 (rtsV (xs.drop q)) := by
         have h1 := (zkd hrow hqx).src HLr.out (rc - q)
         rw [if_neg hcl] at h1
         exact h1
        obtain ⟨g1, c1, Y1, hrun1, s3, hrest⟩ := s2.out.rest hd14 (fun z hz => List.mem_of_mem_drop hz) (by rw [HLr.out]; omega)
        have HLq : Hid ((xs.take q).length = q) := by exact (by rw [List.length_take, HXl.out]; omega : (xs.take q).length = q)
        rw [HLr.out] at hrun1 hrest
        have HS68 : Hid (∀ V, Below Y1.heap.size Y1 V → Src V (.slice (some ⟨g, 0, none⟩) q rc) (xs.take q).length 3 (rtsV (xs.take q))) := fun V hV => by
         have hrV : za7 V (O + 1) (.slice (some ⟨g, 0, none⟩) xs.length rc) xs := by rw [HXl.out]; exact (s3.below hV).s.rts
         exact (zhA hrV hqx).src HLq.out rc
        have HZ0 : Hid (∀ z ∈ xs.take q, z ∈ xs) := fun z hz => List.mem_of_mem_take hz
        clear hd14 hrow
        have HRe : Hid (∀ V, Below Y1.heap.size Y1 V → za7 V (O + 1) (.slice (some ⟨g1, 0, none⟩) (i - q) c1) (xs.drop q)) := fun V hV => hrest.below hV
        have HR3 : Hid (∀ V, Below Y1.heap.size Y1 V → V.cell? ⟨gn, 0, none⟩ = some (.string ⟨y.1.1.toArray⟩) ∧ V.cell? ⟨gn, 1, none⟩ = some (.int .i64 y.1.2.1) ∧ V.cell? ⟨gn, 2, none⟩ = some (rvT y) ∧ V.cell? ⟨O, 2, none⟩ = some (.slice (some ⟨g, 0, none⟩) i rc)) := fun V hV => ⟨(s3.below hV).r0, (s3.below hV).r1, (s3.below hV).r2, (s3.below hV).s.o.box.c2⟩
        have S3 : Hid (Ir15 W2 Y1 E0 O nm va nI vc ims (some ⟨g, 0, none⟩) i rc xs gn y) := s3
        have ho2 := s2.out.s.o.box.c2
        have hOw := s2.out.s.ol
        have x02 : (V1.alloc (.cells #[] 41)).cell? ⟨O, 2, none⟩ = some (.slice (some ⟨g, 0, none⟩) i rc) := (((Below.refl _ V1).alloc (Nat.le_refl _) (.cells #[] 41)).cell (p := ⟨O, 2, none⟩) (by show O < _; omega)).trans ho2
        clear s3 hrest s2
        go_wp2_with (at_builtin; refine za0 rfl (.tmp 58) (.tmp 62) 26 rfl _ _ _ rfl rfl hrun1 ?_; clear hrun1)
        refine Till.region (S := fun V => Below Y1.heap.size Y1 V) (E := [12]) (by kernel_rfl) ⟨rfl, rfl, rfl, Nat.le_refl _, fun _ _ => rfl⟩ (fun hHeld hSh => ?_)
        generalize Y1.drew = V2 at hHeld ⊢
        refine tkO [(1, 65), (2, 66), (3, 67), (4, 68), (6, 70), (9, 73)] ?_
        repeat (refine tlY ?_ rfl (by rfl) ?_ (fun hSh2 => ?_); rotate_left; (focus (intro wq hSw; have e0 := (HR3.out wq hSw).1; have e1 := (HR3.out wq hSw).2.1; have e2 := (HR3.out wq hSw).2.2.1; have e3 := (HR3.out wq hSw).2.2.2; clear hSw; first | (go_simp; done) | (go_simp; with_reducible rfl))); clear hSh; rename zaT _ _ _ => hSh; simp only [zP])
        refine tkZ ?_
        apply zec (F := fun V _ go gh ch => Below Y1.heap.size Y1 V ∧ za7 V (O + 1) (.slice (some ⟨gh, 0, none⟩) (xs.take q).length ch) (xs.take q) ∧ za7 V (O + 1) (.slice (some ⟨go, 0, none⟩) [y].length 1) [y] ∧ Y1.heap.size ≤ gh ∧ zaT _ _ _)
        case main =>
         intro key
         refine Till.two (i := 0) (j := 7) (by kernel_rfl) rfl rfl hSh (fun K hK => ?_) (fun K hK => ?_)
         ·
          go_simp
          have hz0 : O + 1 ≤ V2.heap.size := (S3.out.below hHeld).s.ol
          have hz1 := hHeld.size
          have he := zcE (Bs := O + 1) V2 hz0
          obtain ⟨g0, hg0⟩ : ∃ g0, V2.heap.size = g0 := ⟨_, rfl⟩
          have hbz : Below V2.heap.size V2 (V2.alloc (.cells #[] 41)) := (Below.refl _ _).alloc (Nat.le_refl _) _
          refine hK.out _ _ (by exact hHeld.alloc hHeld.size _) (fun hHeld hSh => ?_)
          clear hK K
          (try simp only [zP])
          obtain ⟨V3, hV3⟩ : ∃ V, V2.alloc (.cells #[] 41) = V := ⟨_, rfl⟩
          have hsn : Hid (V3.heap.size = g0 + 1) := by exact (by rw [← hV3]; simp [hg0] : V3.heap.size = g0 + 1)
          rw [hV3] at hHeld he hbz ⊢
          rw [hg0] at he ⊢
          have hg0y : Y1.heap.size ≤ g0 := by omega
          refine Till.two (i := 5) (j := 7) (by kernel_rfl) rfl rfl hSh (fun K hK => ?_) (fun K hK => ?_)
          ·
           clear hSh
           have s5 := S3.out.below hHeld
           obtain ⟨gh, ch, V4, hr5, hh, hgr5, hat5⟩ := appS he (HS68.out _ hHeld) (fun z hz => s5.s.rts.trees z (HZ0.out z hz)) s5.s.ol (by rw [HLq.out]; simp; omega)
           rw [List.nil_append] at hh
           rw [HLq.out, List.length_nil, Nat.zero_add] at hr5
           have hghy : Y1.heap.size ≤ gh := by have := hHeld.size; rcases hat5 with e | e <;> omega
           refine zaa (by rfl) (.tmp 64) (.tmp 68) 26 (by rfl) _ _ _ (by rfl) (by rfl) hr5 ?_
           refine hK.out _ _ (by exact hHeld.grown hgr5 hHeld.size (fun k e => by injection e with e; omega)) (fun hHeld hSh => ?_)
           clear hK K
           (try simp only [Act.put, zA])
           clear hr5 s5
           refine Till.one (i := 7) (by kernel_rfl) rfl hSh (fun K hK => ?_)
           clear hSh
           go_simp
           have hw0 : O + 1 ≤ V4.heap.size := (S3.out.below hHeld).s.ol
           have ho := zcH V4 y hw0 (S3.out.below hHeld).yo
           obtain ⟨go_, hgo0⟩ : ∃ g0, V4.heap.size = g0 := ⟨_, rfl⟩
           have hby : Below V4.heap.size V4 (V4.alloc (.cells #[.string ⟨y.1.1.toArray⟩, .int .i64 y.1.2.1, rvT y] 41)) := (Below.refl _ _).alloc (Nat.le_refl _) _
           refine hK.out _ _ (by exact hHeld.alloc hHeld.size _) (fun hHeld hSh => ?_)
           clear hK K
           (try simp only [zP])
           obtain ⟨V5, hV5⟩ : ∃ V, V4.alloc (.cells #[.string ⟨y.1.1.toArray⟩, .int .i64 y.1.2.1, rvT y] 41) = V := ⟨_, rfl⟩
           rw [hV5] at hHeld ho hby ⊢
           rw [hgo0] at ho ⊢
           replace hh := hh.below hby
           have hgo : go_ < V5.heap.size := (ho.row.lt go_ rfl).2
           (try simp only [zB, zC])
           exact key V5 g0 go_ gh ch ⟨hHeld, hh, ho, hghy, hSh⟩
          ·
           clear hSh
           go_simp
           have hw0 : O + 1 ≤ V3.heap.size := (S3.out.below hHeld).s.ol
           have ho := zcH V3 y hw0 (S3.out.below hHeld).yo
           obtain ⟨go_, hgo0⟩ : ∃ g0, V3.heap.size = g0 := ⟨_, rfl⟩
           have hby : Below V3.heap.size V3 (V3.alloc (.cells #[.string ⟨y.1.1.toArray⟩, .int .i64 y.1.2.1, rvT y] 41)) := (Below.refl _ _).alloc (Nat.le_refl _) _
           refine hK.out _ _ (by exact hHeld.alloc hHeld.size _) (fun hHeld hSh => ?_)
           clear hK K
           (try simp only [zP])
           obtain ⟨V4, hV4⟩ : ∃ V, V3.alloc (.cells #[.string ⟨y.1.1.toArray⟩, .int .i64 y.1.2.1, rvT y] 41) = V := ⟨_, rfl⟩
           rw [hV4] at hHeld ho hby ⊢
           rw [hgo0] at ho ⊢
           replace he := he.below hby
           have hne0 : go_ ≠ g0 := by have := hsn.out; omega
           have hgo : go_ < V4.heap.size := (ho.row.lt go_ rfl).2
           refine Till.one (i := 5) (by kernel_rfl) rfl hSh (fun K hK => ?_)
           clear hSh
           have s5 := S3.out.below hHeld
           obtain ⟨gh, ch, V5, hr5, hh, hgr5, hat5⟩ := appS he (HS68.out _ hHeld) (fun z hz => s5.s.rts.trees z (HZ0.out z hz)) s5.s.ol (by rw [HLq.out]; simp; omega)
           rw [List.nil_append] at hh
           rw [HLq.out, List.length_nil, Nat.zero_add] at hr5
           have hghy : Y1.heap.size ≤ gh := by have := hHeld.size; rcases hat5 with e | e <;> omega
           refine zaa (by rfl) (.tmp 64) (.tmp 68) 26 (by rfl) _ _ _ (by rfl) (by rfl) hr5 ?_
           refine hK.out _ _ (by exact hHeld.grown hgr5 hHeld.size (fun k e => by injection e with e; omega)) (fun hHeld hSh => ?_)
           clear hK K
           (try simp only [Act.put, zA])
           replace ho := ho.kept hgr5 (Or.inr (by intro e; injection e with e; exact hne0 e)) (fun z hz => zb5 (ho.trees z hz) he.row (by decide))
           clear hr5 s5
           (try simp only [zB, zC])
           exact key V5 g0 go_ gh ch ⟨hHeld, hh, ho, hghy, hSh⟩
         ·
          go_simp
          have hw0 : O + 1 ≤ V2.heap.size := (S3.out.below hHeld).s.ol
          have ho := zcH V2 y hw0 (S3.out.below hHeld).yo
          obtain ⟨go_, hgo0⟩ : ∃ g0, V2.heap.size = g0 := ⟨_, rfl⟩
          have hby : Below V2.heap.size V2 (V2.alloc (.cells #[.string ⟨y.1.1.toArray⟩, .int .i64 y.1.2.1, rvT y] 41)) := (Below.refl _ _).alloc (Nat.le_refl _) _
          refine hK.out _ _ (by exact hHeld.alloc hHeld.size _) (fun hHeld hSh => ?_)
          clear hK K
          (try simp only [zP])
          obtain ⟨V3, hV3⟩ : ∃ V, V2.alloc (.cells #[.string ⟨y.1.1.toArray⟩, .int .i64 y.1.2.1, rvT y] 41) = V := ⟨_, rfl⟩
          rw [hV3] at hHeld ho hby ⊢
          rw [hgo0] at ho ⊢
          have hgo : go_ < V3.heap.size := (ho.row.lt go_ rfl).2
          refine Till.one (i := 0) (by kernel_rfl) rfl hSh (fun K hK => ?_)
          clear hSh
          go_simp
          have hz0 : O + 1 ≤ V3.heap.size := (S3.out.below hHeld).s.ol
          have hz1 := hHeld.size
          have he := zcE (Bs := O + 1) V3 hz0
          obtain ⟨g0, hg0⟩ : ∃ g0, V3.heap.size = g0 := ⟨_, rfl⟩
          have hbz : Below V3.heap.size V3 (V3.alloc (.cells #[] 41)) := (Below.refl _ _).alloc (Nat.le_refl _) _
          refine hK.out _ _ (by exact hHeld.alloc hHeld.size _) (fun hHeld hSh => ?_)
          clear hK K
          (try simp only [zP])
          obtain ⟨V4, hV4⟩ : ∃ V, V3.alloc (.cells #[] 41) = V := ⟨_, rfl⟩
          have hsn : Hid (V4.heap.size = g0 + 1) := by exact (by rw [← hV4]; simp [hg0] : V4.heap.size = g0 + 1)
          rw [hV4] at hHeld he hbz ⊢
          rw [hg0] at he ⊢
          replace ho := ho.below hbz
          have hne0 : go_ ≠ g0 := by have := hgo; omega
          have hg0y : Y1.heap.size ≤ g0 := by omega
          refine Till.one (i := 5) (by kernel_rfl) rfl hSh (fun K hK => ?_)
          clear hSh
          have s5 := S3.out.below hHeld
          obtain ⟨gh, ch, V5, hr5, hh, hgr5, hat5⟩ := appS he (HS68.out _ hHeld) (fun z hz => s5.s.rts.trees z (HZ0.out z hz)) s5.s.ol (by rw [HLq.out]; simp; omega)
          rw [List.nil_append] at hh
          rw [HLq.out, List.length_nil, Nat.zero_add] at hr5
          have hghy : Y1.heap.size ≤ gh := by have := hHeld.size; rcases hat5 with e | e <;> omega
          refine zaa (by rfl) (.tmp 64) (.tmp 68) 26 (by rfl) _ _ _ (by rfl) (by rfl) hr5 ?_
          refine hK.out _ _ (by exact hHeld.grown hgr5 hHeld.size (fun k e => by injection e with e; omega)) (fun hHeld hSh => ?_)
          clear hK K
          (try simp only [Act.put, zA])
          replace ho := ho.kept hgr5 (Or.inr (by intro e; injection e with e; exact hne0 e)) (fun z hz => zb5 (ho.trees z hz) he.row (by decide))
          clear hr5 s5
          (try simp only [zB, zC])
          exact key V5 g0 go_ gh ch ⟨hHeld, hh, ho, hghy, hSh⟩
        case rest =>
         clear hHeld hSh
         intro V5 g0 go_ gh ch hF
         obtain ⟨hHeld, hh, ho, hghy, hSh⟩ := hF
         have s7 := S3.out.below hHeld
         obtain ⟨g7, c7, V7, hr7, ho7, hgr7, hat7⟩ := appS hh ((zgJ ho).src rfl 1) (fun z hz => ho.trees z hz) s7.s.ol (by rw [HLq.out, List.length_singleton]; omega)
         rw [HLq.out, List.length_singleton] at hr7
         have hg7y : Y1.heap.size ≤ g7 := by have := hHeld.size; rcases hat7 with e | e <;> omega
         refine Till.one (i := 8) (by kernel_rfl) rfl hSh (fun K hK => ?_)
         clear hSh
         refine zaa (by rfl) (.tmp 69) (.tmp 71) 26 (by rfl) _ _ _ (by rfl) (by rfl) hr7 ?_
         refine hK.out _ _ (by exact hHeld.grown hgr7 hHeld.size (fun k e => by injection e with e; omega)) (fun hHeld hSh => ?_)
         clear hK K
         (try simp only [Act.put, zA])
         have hre := HRe.out _ hHeld
         have s8 := S3.out.below hHeld
         have hl8 : ((xs.take q) ++ [y]).length = q + 1 := by rw [List.length_append, HLq.out]; rfl
         have hre2 : za7 V7 (O + 1) (.slice (some ⟨g1, 0, none⟩) (xs.drop q).length c1) (xs.drop q) := by rw [HLr.out]; exact hre
         obtain ⟨g9, c9, V9, hr9, ho9, hgr9, _⟩ := appS ho7 ((zgJ hre2).src rfl c1) (fun z hz => hre.trees z hz) s8.s.ol (by rw [hl8, HLr.out]; omega)
         have hlA : ((xs.take q) ++ [y] ++ (xs.drop q)).length = i + 1 := by rw [List.length_append, hl8, HLr.out]; omega
         rw [hl8, HLr.out, show q + 1 + (i - q) = i + 1 by omega] at hr9
         refine Till.one (i := 10) (by kernel_rfl) rfl hSh (fun K hK => ?_)
         clear hSh
         refine zaa (by rfl) (.tmp 72) (.tmp 73) 26 (by rfl) _ _ _ (by rfl) (by rfl) hr9 ?_
         refine hK.out _ _ (by exact hHeld.grown hgr9 hHeld.size (fun k e => by injection e with e; omega)) (fun hHeld hSh => ?_)
         clear hK K
         (try simp only [Act.put])
         have s9 := S3.out.below hHeld
         have v2 := s9.s.o.box.c2
         have vf := s9.s.o.fr 2
         have HS9 : Hid (Oo15 W2 (V9.setCell ⟨O, 2, none⟩ (.slice (some ⟨g9, 0, none⟩) (i + 1) c9)) E0 O nm va nI vc ims (some ⟨g9, 0, none⟩) (i + 1) c9 ((xs.take q) ++ [y] ++ (xs.drop q))) := s9.s.set ho9 hlA
         have HM2 : Hid ((xs.take q ++ [y] ++ xs.drop q).map (·.1) = zao (RS.take (i + 1))) := by exact (by rw [HSy.out, ← HM.out]; exact zea rfl HPn.out : (xs.take q ++ [y] ++ xs.drop q).map (·.1) = zao (RS.take (i + 1)))
         generalize (xs.take q) ++ [y] ++ (xs.drop q) = zs2 at HS9 HM2
         refine Till.take (i := 11) (o := ⟨some 75, _, _, _, _, _⟩) (v := ?v52) (d := 30) rfl (by kernel_rfl) (by kernel_rfl) (by kernel_rfl) (by kernel_rfl) (fun _ _ _ h => h) (Or.inl ⟨by rfl, ?hy52⟩) (by assumption) hSh (fun hSh2 => ?rest52)
         case hy52 => (intro wq hSw; skip; clear hSw; first | (go_simp; done) | (go_simp; with_reducible rfl))
         clear hSh; rename zaT _ _ _ => hSh
         simp only [Act.put]
         refine Till.last (i := 12) (by kernel_rfl) rfl (by decide) (fun K hK => ?_)
         go_simp
         refine hK.out _ _ ?_
         clear hK K
         refine Till.done (by kernel_rfl) ?_ _
         clear hHeld hre hre2 s8 s7 s9 hl8 hlA ho9 hgr9 hr9 hr7 ho7 hgr7 S3 HRe HR3 hh ho
         go_wp2
         go_roundw
         case rel => exact ⟨i + 1, some ⟨g9, 0, none⟩, c9, zs2, by go_num, by omega, (fun e => absurd e (Nat.succ_ne_zero _)), HM2, HS9⟩
         case measure => simp [intOf]; omega
       ·
        have HL2 : Hid (∀ j, j < q + 1 → Op.bytesLess (xs.getD j rv0).1.1 rn = true) := fun j hj => by
         rcases Nat.lt_or_ge j q with g' | g'
         ·
          exact HL.out j g'
         ·
          obtain rfl : j = q := by omega
          rw [HNq.out]; exact hls
        go_wp2
        go_roundw
        case rel => exact ⟨q + 1, by go_num, by omega, HL2, s2⟩
        case measure => simp [intOf]; omega
      ·
       obtain rfl : q = i := by omega
       have HPn : Hid (putN y.1 (xs.map (·.1)) = q) := zjo (by rw [List.length_map, HXl.out]; exact Nat.le_refl _) (fun j hj => by rw [zb2, HRn.out]; exact HL.out j hj) (fun h' => by rw [List.length_map, HXl.out] at h'; omega)
       refine wp_region_held_drew (S := fun V => V.cell? ⟨O, 2, none⟩ = some (.slice ra q rc)) (by kernel_rfl) ho2 (fun hHeld => ?_)
       refine tkO [(0, 40), (1, 41), (2, 42), (3, 43), (4, 44), (5, 45), (6, 46), (7, 47), (8, 48), (9, 49), (10, 50), (11, 51), (12, 52), (13, 53), (14, 54)] ?_
       repeat ((first | (refine tkY ?_ rfl (by rfl) ?_ ?_; rotate_left; (focus (intro wq hSw; have e0 := hSw; clear hSw; first | (go_simp; done) | (go_simp; with_reducible rfl)))) | refine tkN rfl (by rfl) ?_); simp only [zP])
       refine tkZ ?_
       refine tkO [(15, 55)] ?_
       repeat (refine tkY ?_ rfl (by rfl) ?_ ?_; rotate_left; (focus (intro wq hSw; clear hSw; first | (go_simp; done) | (go_simp; with_reducible rfl))); simp only [zP])
       refine tkZ ?_
       refine wpAnyH_done (by kernel_rfl) ?_ _
       clear hHeld hr0 ho2
       generalize wr.drew = V1 at s2 ⊢
       clear HL
       by_cases hra : ra = none
       ·
        subst hra
        have hi0 : q = 0 := by
         have h1 := s2.out.s.rts.row
         rw [HXl.out] at h1
         rcases zaH h1 with ⟨_, h0, _⟩ | ⟨g', cp, e⟩
         ·
          exact h0
         ·
          cases e
        obtain rfl := (HNl.out hi0).2
        have hx0 : xs = [] := List.length_eq_zero_iff.1 (by rw [HXl.out]; exact hi0)
        subst hi0 hx0
        have hsrc62 : Src V1 (.slice none 0 0) ([] : List RV).length 3 (rtsV []) := zhB V1
        obtain ⟨g1, c1, Y1, hrun1, s3, hrest⟩ := s2.out.rest hsrc62 (fun z hz => by cases hz) (by simp)
        simp only [List.length_nil] at hrun1 hrest
        have HS68 : Hid (∀ V, Below Y1.heap.size Y1 V → Src V (.slice none 0 0) ([] : List RV).length 3 (rtsV [])) := fun V _ => zhB V
        have HZ0 : Hid (∀ z ∈ ([] : List RV), z ∈ ([] : List RV)) := fun z hz => hz
        have HLq : Hid (([] : List RV).length = 0) := rfl
        have HLr : Hid (([] : List RV).length = 0) := rfl
        have HRe : Hid (∀ V, Below Y1.heap.size Y1 V → za7 V (O + 1) (.slice (some ⟨g1, 0, none⟩) 0 c1) ([] : List RV)) := fun V hV => hrest.below hV
        have HR3 : Hid (∀ V, Below Y1.heap.size Y1 V → V.cell? ⟨gn, 0, none⟩ = some (.string ⟨y.1.1.toArray⟩) ∧ V.cell? ⟨gn, 1, none⟩ = some (.int .i64 y.1.2.1) ∧ V.cell? ⟨gn, 2, none⟩ = some (rvT y) ∧ V.cell? ⟨O, 2, none⟩ = some (.slice none 0 0)) := fun V hV => ⟨(s3.below hV).r0, (s3.below hV).r1, (s3.below hV).r2, (s3.below hV).s.o.box.c2⟩
        have S3 : Hid (Ir15 W2 Y1 E0 O nm va nI vc ims none 0 0 [] gn y) := s3
        have ho2 := s2.out.s.o.box.c2
        have hOw := s2.out.s.ol
        have x02 : (V1.alloc (.cells #[] 41)).cell? ⟨O, 2, none⟩ = some (.slice none 0 0) := (((Below.refl _ V1).alloc (Nat.le_refl _) (.cells #[] 41)).cell (p := ⟨O, 2, none⟩) (by show O < _; omega)).trans ho2
        clear s3 hrest s2
        go_wp2_with (at_builtin; refine za0 rfl (.tmp 58) (.tmp 62) 26 rfl _ _ _ rfl rfl hrun1 ?_; clear hrun1)
        refine Till.region (S := fun V => Below Y1.heap.size Y1 V) (E := [12]) (by kernel_rfl) ⟨rfl, rfl, rfl, Nat.le_refl _, fun _ _ => rfl⟩ (fun hHeld hSh => ?_)
        generalize Y1.drew = V2 at hHeld ⊢
        refine tkO [(1, 65), (2, 66), (3, 67), (4, 68), (6, 70), (9, 73)] ?_
        repeat (refine tlY ?_ rfl (by rfl) ?_ (fun hSh2 => ?_); rotate_left; (focus (intro wq hSw; have e0 := (HR3.out wq hSw).1; have e1 := (HR3.out wq hSw).2.1; have e2 := (HR3.out wq hSw).2.2.1; have e3 := (HR3.out wq hSw).2.2.2; clear hSw; first | (go_simp; done) | (go_simp; with_reducible rfl))); clear hSh; rename zaT _ _ _ => hSh; simp only [zP])
        refine tkZ ?_
        apply zec (F := fun V _ go gh ch => Below Y1.heap.size Y1 V ∧ za7 V (O + 1) (.slice (some ⟨gh, 0, none⟩) ([] : List RV).length ch) ([] : List RV) ∧ za7 V (O + 1) (.slice (some ⟨go, 0, none⟩) [y].length 1) [y] ∧ Y1.heap.size ≤ gh ∧ zaT _ _ _)
        case main =>
         intro key
         refine Till.two (i := 0) (j := 7) (by kernel_rfl) rfl rfl hSh (fun K hK => ?_) (fun K hK => ?_)
         ·
          go_simp
          have hz0 : O + 1 ≤ V2.heap.size := (S3.out.below hHeld).s.ol
          have hz1 := hHeld.size
          have he := zcE (Bs := O + 1) V2 hz0
          obtain ⟨g0, hg0⟩ : ∃ g0, V2.heap.size = g0 := ⟨_, rfl⟩
          have hbz : Below V2.heap.size V2 (V2.alloc (.cells #[] 41)) := (Below.refl _ _).alloc (Nat.le_refl _) _
          refine hK.out _ _ (by exact hHeld.alloc hHeld.size _) (fun hHeld hSh => ?_)
          clear hK K
          (try simp only [zP])
          obtain ⟨V3, hV3⟩ : ∃ V, V2.alloc (.cells #[] 41) = V := ⟨_, rfl⟩
          have hsn : Hid (V3.heap.size = g0 + 1) := by exact (by rw [← hV3]; simp [hg0] : V3.heap.size = g0 + 1)
          rw [hV3] at hHeld he hbz ⊢
          rw [hg0] at he ⊢
          have hg0y : Y1.heap.size ≤ g0 := by omega
          refine Till.two (i := 5) (j := 7) (by kernel_rfl) rfl rfl hSh (fun K hK => ?_) (fun K hK => ?_)
          ·
           clear hSh
           have s5 := S3.out.below hHeld
           obtain ⟨gh, ch, V4, hr5, hh, hgr5, hat5⟩ := appS he (HS68.out _ hHeld) (fun z hz => s5.s.rts.trees z (HZ0.out z hz)) s5.s.ol (by rw [HLq.out]; simp)
           rw [List.nil_append] at hh
           rw [HLq.out, Nat.zero_add] at hr5
           have hghy : Y1.heap.size ≤ gh := by have := hHeld.size; rcases hat5 with e | e <;> omega
           refine zaa (by rfl) (.tmp 64) (.tmp 68) 26 (by rfl) _ _ _ (by rfl) (by rfl) hr5 ?_
           refine hK.out _ _ (by exact hHeld.grown hgr5 hHeld.size (fun k e => by injection e with e; omega)) (fun hHeld hSh => ?_)
           clear hK K
           (try simp only [Act.put, zA])
           clear hr5 s5
           refine Till.one (i := 7) (by kernel_rfl) rfl hSh (fun K hK => ?_)
           clear hSh
           go_simp
           have hw0 : O + 1 ≤ V4.heap.size := (S3.out.below hHeld).s.ol
           have ho := zcH V4 y hw0 (S3.out.below hHeld).yo
           obtain ⟨go_, hgo0⟩ : ∃ g0, V4.heap.size = g0 := ⟨_, rfl⟩
           have hby : Below V4.heap.size V4 (V4.alloc (.cells #[.string ⟨y.1.1.toArray⟩, .int .i64 y.1.2.1, rvT y] 41)) := (Below.refl _ _).alloc (Nat.le_refl _) _
           refine hK.out _ _ (by exact hHeld.alloc hHeld.size _) (fun hHeld hSh => ?_)
           clear hK K
           (try simp only [zP])
           obtain ⟨V5, hV5⟩ : ∃ V, V4.alloc (.cells #[.string ⟨y.1.1.toArray⟩, .int .i64 y.1.2.1, rvT y] 41) = V := ⟨_, rfl⟩
           rw [hV5] at hHeld ho hby ⊢
           rw [hgo0] at ho ⊢
           replace hh := hh.below hby
           have hgo : go_ < V5.heap.size := (ho.row.lt go_ rfl).2
           (try simp only [zB, zC])
           exact key V5 g0 go_ gh ch ⟨hHeld, hh, ho, hghy, hSh⟩
          ·
           clear hSh
           go_simp
           have hw0 : O + 1 ≤ V3.heap.size := (S3.out.below hHeld).s.ol
           have ho := zcH V3 y hw0 (S3.out.below hHeld).yo
           obtain ⟨go_, hgo0⟩ : ∃ g0, V3.heap.size = g0 := ⟨_, rfl⟩
           have hby : Below V3.heap.size V3 (V3.alloc (.cells #[.string ⟨y.1.1.toArray⟩, .int .i64 y.1.2.1, rvT y] 41)) := (Below.refl _ _).alloc (Nat.le_refl _) _
           refine hK.out _ _ (by exact hHeld.alloc hHeld.size _) (fun hHeld hSh => ?_)
           clear hK K
           (try simp only [zP])
           obtain ⟨V4, hV4⟩ : ∃ V, V3.alloc (.cells #[.string ⟨y.1.1.toArray⟩, .int .i64 y.1.2.1, rvT y] 41) = V := ⟨_, rfl⟩
           rw [hV4] at hHeld ho hby ⊢
           rw [hgo0] at ho ⊢
           replace he := he.below hby
           have hne0 : go_ ≠ g0 := by have := hsn.out; omega
           have hgo : go_ < V4.heap.size := (ho.row.lt go_ rfl).2
           refine Till.one (i := 5) (by kernel_rfl) rfl hSh (fun K hK => ?_)
           clear hSh
           have s5 := S3.out.below hHeld
           obtain ⟨gh, ch, V5, hr5, hh, hgr5, hat5⟩ := appS he (HS68.out _ hHeld) (fun z hz => s5.s.rts.trees z (HZ0.out z hz)) s5.s.ol (by rw [HLq.out]; simp)
           rw [List.nil_append] at hh
           rw [HLq.out, Nat.zero_add] at hr5
           have hghy : Y1.heap.size ≤ gh := by have := hHeld.size; rcases hat5 with e | e <;> omega
           refine zaa (by rfl) (.tmp 64) (.tmp 68) 26 (by rfl) _ _ _ (by rfl) (by rfl) hr5 ?_
           refine hK.out _ _ (by exact hHeld.grown hgr5 hHeld.size (fun k e => by injection e with e; omega)) (fun hHeld hSh => ?_)
           clear hK K
           (try simp only [Act.put, zA])
           replace ho := ho.kept hgr5 (Or.inr (by intro e; injection e with e; exact hne0 e)) (fun z hz => zb5 (ho.trees z hz) he.row (by decide))
           clear hr5 s5
           (try simp only [zB, zC])
           exact key V5 g0 go_ gh ch ⟨hHeld, hh, ho, hghy, hSh⟩
         ·
          go_simp
          have hw0 : O + 1 ≤ V2.heap.size := (S3.out.below hHeld).s.ol
          have ho := zcH V2 y hw0 (S3.out.below hHeld).yo
          obtain ⟨go_, hgo0⟩ : ∃ g0, V2.heap.size = g0 := ⟨_, rfl⟩
          have hby : Below V2.heap.size V2 (V2.alloc (.cells #[.string ⟨y.1.1.toArray⟩, .int .i64 y.1.2.1, rvT y] 41)) := (Below.refl _ _).alloc (Nat.le_refl _) _
          refine hK.out _ _ (by exact hHeld.alloc hHeld.size _) (fun hHeld hSh => ?_)
          clear hK K
          (try simp only [zP])
          obtain ⟨V3, hV3⟩ : ∃ V, V2.alloc (.cells #[.string ⟨y.1.1.toArray⟩, .int .i64 y.1.2.1, rvT y] 41) = V := ⟨_, rfl⟩
          rw [hV3] at hHeld ho hby ⊢
          rw [hgo0] at ho ⊢
          have hgo : go_ < V3.heap.size := (ho.row.lt go_ rfl).2
          refine Till.one (i := 0) (by kernel_rfl) rfl hSh (fun K hK => ?_)
          clear hSh
          go_simp
          have hz0 : O + 1 ≤ V3.heap.size := (S3.out.below hHeld).s.ol
          have hz1 := hHeld.size
          have he := zcE (Bs := O + 1) V3 hz0
          obtain ⟨g0, hg0⟩ : ∃ g0, V3.heap.size = g0 := ⟨_, rfl⟩
          have hbz : Below V3.heap.size V3 (V3.alloc (.cells #[] 41)) := (Below.refl _ _).alloc (Nat.le_refl _) _
          refine hK.out _ _ (by exact hHeld.alloc hHeld.size _) (fun hHeld hSh => ?_)
          clear hK K
          (try simp only [zP])
          obtain ⟨V4, hV4⟩ : ∃ V, V3.alloc (.cells #[] 41) = V := ⟨_, rfl⟩
          have hsn : Hid (V4.heap.size = g0 + 1) := by exact (by rw [← hV4]; simp [hg0] : V4.heap.size = g0 + 1)
          rw [hV4] at hHeld he hbz ⊢
          rw [hg0] at he ⊢
          replace ho := ho.below hbz
          have hne0 : go_ ≠ g0 := by have := hgo; omega
          have hg0y : Y1.heap.size ≤ g0 := by omega
          refine Till.one (i := 5) (by kernel_rfl) rfl hSh (fun K hK => ?_)
          clear hSh
          have s5 := S3.out.below hHeld
          obtain ⟨gh, ch, V5, hr5, hh, hgr5, hat5⟩ := appS he (HS68.out _ hHeld) (fun z hz => s5.s.rts.trees z (HZ0.out z hz)) s5.s.ol (by rw [HLq.out]; simp)
          rw [List.nil_append] at hh
          rw [HLq.out, Nat.zero_add] at hr5
          have hghy : Y1.heap.size ≤ gh := by have := hHeld.size; rcases hat5 with e | e <;> omega
          refine zaa (by rfl) (.tmp 64) (.tmp 68) 26 (by rfl) _ _ _ (by rfl) (by rfl) hr5 ?_
          refine hK.out _ _ (by exact hHeld.grown hgr5 hHeld.size (fun k e => by injection e with e; omega)) (fun hHeld hSh => ?_)
          clear hK K
          (try simp only [Act.put, zA])
          replace ho := ho.kept hgr5 (Or.inr (by intro e; injection e with e; exact hne0 e)) (fun z hz => zb5 (ho.trees z hz) he.row (by decide))
          clear hr5 s5
          (try simp only [zB, zC])
          exact key V5 g0 go_ gh ch ⟨hHeld, hh, ho, hghy, hSh⟩
        case rest =>
         clear hHeld hSh
         intro V5 g0 go_ gh ch hF
         obtain ⟨hHeld, hh, ho, hghy, hSh⟩ := hF
         have s7 := S3.out.below hHeld
         obtain ⟨g7, c7, V7, hr7, ho7, hgr7, hat7⟩ := appS hh ((zgJ ho).src rfl 1) (fun z hz => ho.trees z hz) s7.s.ol (by rw [HLq.out, List.length_singleton]; omega)
         rw [HLq.out, List.length_singleton] at hr7
         have hg7y : Y1.heap.size ≤ g7 := by have := hHeld.size; rcases hat7 with e | e <;> omega
         refine Till.one (i := 8) (by kernel_rfl) rfl hSh (fun K hK => ?_)
         clear hSh
         refine zaa (by rfl) (.tmp 69) (.tmp 71) 26 (by rfl) _ _ _ (by rfl) (by rfl) hr7 ?_
         refine hK.out _ _ (by exact hHeld.grown hgr7 hHeld.size (fun k e => by injection e with e; omega)) (fun hHeld hSh => ?_)
         clear hK K
         (try simp only [Act.put, zA])
         have hre := HRe.out _ hHeld
         have s8 := S3.out.below hHeld
         have hl8 : (([] : List RV) ++ [y]).length = 0 + 1 := by rw [List.length_append, HLq.out]; rfl
         have hre2 : za7 V7 (O + 1) (.slice (some ⟨g1, 0, none⟩) ([] : List RV).length c1) ([] : List RV) := by rw [HLr.out]; exact hre
         obtain ⟨g9, c9, V9, hr9, ho9, hgr9, _⟩ := appS ho7 ((zgJ hre2).src rfl c1) (fun z hz => hre.trees z hz) s8.s.ol (by rw [hl8, HLr.out]; omega)
         have hlA : (([] : List RV) ++ [y] ++ ([] : List RV)).length = 0 + 1 := by rw [List.length_append, hl8, HLr.out]
         rw [hl8, HLr.out, show 0 + 1 + 0 = 0 + 1 by omega] at hr9
         refine Till.one (i := 10) (by kernel_rfl) rfl hSh (fun K hK => ?_)
         clear hSh
         refine zaa (by rfl) (.tmp 72) (.tmp 73) 26 (by rfl) _ _ _ (by rfl) (by rfl) hr9 ?_
         refine hK.out _ _ (by exact hHeld.grown hgr9 hHeld.size (fun k e => by injection e with e; omega)) (fun hHeld hSh => ?_)
         clear hK K
         (try simp only [Act.put])
         have s9 := S3.out.below hHeld
         have v2 := s9.s.o.box.c2
         have vf := s9.s.o.fr 2
         have HS9 : Hid (Oo15 W2 (V9.setCell ⟨O, 2, none⟩ (.slice (some ⟨g9, 0, none⟩) (0 + 1) c9)) E0 O nm va nI vc ims (some ⟨g9, 0, none⟩) (0 + 1) c9 (([] : List RV) ++ [y] ++ ([] : List RV))) := s9.s.set ho9 hlA
         have HM2 : Hid ((([] : List RV) ++ [y] ++ ([] : List RV) : List RV).map (·.1) = zao (RS.take (0 + 1))) := by exact (by rw [HSy.out, ← HM.out]; exact zea (xs := []) (q := 0) rfl HPn.out : (([] : List RV) ++ [y] ++ ([] : List RV) : List RV).map (·.1) = zao (RS.take (0 + 1)))
         generalize ([] : List RV) ++ [y] ++ ([] : List RV) = zs2 at HS9 HM2
         refine Till.take (i := 11) (o := ⟨some 75, _, _, _, _, _⟩) (v := ?v59) (d := 30) rfl (by kernel_rfl) (by kernel_rfl) (by kernel_rfl) (by kernel_rfl) (fun _ _ _ h => h) (Or.inl ⟨by rfl, ?hy59⟩) (by assumption) hSh (fun hSh2 => ?rest59)
         case hy59 => (intro wq hSw; skip; clear hSw; first | (go_simp; done) | (go_simp; with_reducible rfl))
         clear hSh; rename zaT _ _ _ => hSh
         simp only [Act.put]
         refine Till.last (i := 12) (by kernel_rfl) rfl (by decide) (fun K hK => ?_)
         go_simp
         refine hK.out _ _ ?_
         clear hK K
         refine Till.done (by kernel_rfl) ?_ _
         clear hHeld hre hre2 s8 s7 s9 hl8 hlA ho9 hgr9 hr9 hr7 ho7 hgr7 S3 HRe HR3 hh ho
         go_wp2
         go_roundw
         case rel => exact ⟨0 + 1, some ⟨g9, 0, none⟩, c9, zs2, by go_num, by omega, (fun e => absurd e (Nat.succ_ne_zero _)), HM2, HS9⟩
         case measure => simp [intOf]; omega
       ·
        obtain ⟨g, cg, eg⟩ : ∃ g cp, Value.slice ra q rc = .slice (some ⟨g, 0, none⟩) q cp := by
         have h1 := s2.out.s.rts.row
         rw [HXl.out] at h1
         rcases zaH h1 with ⟨e, _, _⟩ | ⟨g', cp, e⟩
         ·
          injection e with e _ _
          exact absurd e hra
         ·
          exact ⟨g', cp, e⟩
        injection eg with eg1 _ eg3
        subst eg1 eg3
        by_cases hcl : rc = q
        ·
         subst hcl
         have hrow : za7 V1 (O + 1) (.slice (some ⟨g, 0, none⟩) xs.length rc) xs := by rw [HXl.out]; exact s2.out.s.rts
         have hcap : rc ≤ rc := by have := (zcg hrow.row).1; rw [HXl.out] at this; exact this
         have hqx : rc ≤ xs.length := by rw [HXl.out]; exact hq
         have hqc : (rc : Int) ≤ (rc : Int) := by omega
         have hqi : (rc : Int) ≤ (rc : Int) := by omega
         have HLr : Hid ((xs.drop rc).length = 0) := by exact (by rw [List.length_drop, HXl.out]; exact Nat.sub_self _ : (xs.drop rc).length = 0)
         have hd14 : Src V1 (.slice (some ⟨g, 0, none⟩) 0 0) (xs.drop rc).length 3 (rtsV (xs.drop rc)) := by
          have h1 := (zkd hrow hqx).src HLr.out 0
          rw [if_pos rfl] at h1
          exact h1
         obtain ⟨g1, c1, Y1, hrun1, s3, hrest⟩ := s2.out.rest hd14 (fun z hz => List.mem_of_mem_drop hz) (by rw [HLr.out]; omega)
         have HLq : Hid ((xs.take rc).length = rc) := by exact (by rw [List.length_take, HXl.out]; omega : (xs.take rc).length = rc)
         rw [HLr.out] at hrun1 hrest
         have HS68 : Hid (∀ V, Below Y1.heap.size Y1 V → Src V (.slice (some ⟨g, 0, none⟩) rc rc) (xs.take rc).length 3 (rtsV (xs.take rc))) := fun V hV => by
          have hrV : za7 V (O + 1) (.slice (some ⟨g, 0, none⟩) xs.length rc) xs := by rw [HXl.out]; exact (s3.below hV).s.rts
          exact (zhA hrV hqx).src HLq.out rc
         have HZ0 : Hid (∀ z ∈ xs.take rc, z ∈ xs) := fun z hz => List.mem_of_mem_take hz
         clear hd14 hrow
         have HRe : Hid (∀ V, Below Y1.heap.size Y1 V → za7 V (O + 1) (.slice (some ⟨g1, 0, none⟩) 0 c1) (xs.drop rc)) := fun V hV => hrest.below hV
         have HR3 : Hid (∀ V, Below Y1.heap.size Y1 V → V.cell? ⟨gn, 0, none⟩ = some (.string ⟨y.1.1.toArray⟩) ∧ V.cell? ⟨gn, 1, none⟩ = some (.int .i64 y.1.2.1) ∧ V.cell? ⟨gn, 2, none⟩ = some (rvT y) ∧ V.cell? ⟨O, 2, none⟩ = some (.slice (some ⟨g, 0, none⟩) rc rc)) := fun V hV => ⟨(s3.below hV).r0, (s3.below hV).r1, (s3.below hV).r2, (s3.below hV).s.o.box.c2⟩
         have S3 : Hid (Ir15 W2 Y1 E0 O nm va nI vc ims (some ⟨g, 0, none⟩) rc rc xs gn y) := s3
         have ho2 := s2.out.s.o.box.c2
         have hOw := s2.out.s.ol
         have x02 : (V1.alloc (.cells #[] 41)).cell? ⟨O, 2, none⟩ = some (.slice (some ⟨g, 0, none⟩) rc rc) := (((Below.refl _ V1).alloc (Nat.le_refl _) (.cells #[] 41)).cell (p := ⟨O, 2, none⟩) (by show O < _; omega)).trans ho2
         clear s3 hrest s2
         go_wp2_with (at_builtin; refine za0 rfl (.tmp 58) (.tmp 62) 26 rfl _ _ _ rfl rfl hrun1 ?_; clear hrun1)
         refine Till.region (S := fun V => Below Y1.heap.size Y1 V) (E := [12]) (by kernel_rfl) ⟨rfl, rfl, rfl, Nat.le_refl _, fun _ _ => rfl⟩ (fun hHeld hSh => ?_)
         generalize Y1.drew = V2 at hHeld ⊢
         refine tkO [(1, 65), (2, 66), (3, 67), (4, 68), (6, 70), (9, 73)] ?_
         repeat (refine tlY ?_ rfl (by rfl) ?_ (fun hSh2 => ?_); rotate_left; (focus (intro wq hSw; have e0 := (HR3.out wq hSw).1; have e1 := (HR3.out wq hSw).2.1; have e2 := (HR3.out wq hSw).2.2.1; have e3 := (HR3.out wq hSw).2.2.2; clear hSw; first | (go_simp; done) | (go_simp; with_reducible rfl))); clear hSh; rename zaT _ _ _ => hSh; simp only [zP])
         refine tkZ ?_
         apply zec (F := fun V _ go gh ch => Below Y1.heap.size Y1 V ∧ za7 V (O + 1) (.slice (some ⟨gh, 0, none⟩) (xs.take rc).length ch) (xs.take rc) ∧ za7 V (O + 1) (.slice (some ⟨go, 0, none⟩) [y].length 1) [y] ∧ Y1.heap.size ≤ gh ∧ zaT _ _ _)
         case main =>
          intro key
          refine Till.two (i := 0) (j := 7) (by kernel_rfl) rfl rfl hSh (fun K hK => ?_) (fun K hK => ?_)
          ·
           go_simp
           have hz0 : O + 1 ≤ V2.heap.size := (S3.out.below hHeld).s.ol
           have hz1 := hHeld.size
           have he := zcE (Bs := O + 1) V2 hz0
           obtain ⟨g0, hg0⟩ : ∃ g0, V2.heap.size = g0 := ⟨_, rfl⟩
           have hbz : Below V2.heap.size V2 (V2.alloc (.cells #[] 41)) := (Below.refl _ _).alloc (Nat.le_refl _) _
           refine hK.out _ _ (by exact hHeld.alloc hHeld.size _) (fun hHeld hSh => ?_)
           clear hK K
           (try simp only [zP])
           obtain ⟨V3, hV3⟩ : ∃ V, V2.alloc (.cells #[] 41) = V := ⟨_, rfl⟩
           have hsn : Hid (V3.heap.size = g0 + 1) := by exact (by rw [← hV3]; simp [hg0] : V3.heap.size = g0 + 1)
           rw [hV3] at hHeld he hbz ⊢
           rw [hg0] at he ⊢
           have hg0y : Y1.heap.size ≤ g0 := by omega
           refine Till.two (i := 5) (j := 7) (by kernel_rfl) rfl rfl hSh (fun K hK => ?_) (fun K hK => ?_)
           ·
            clear hSh
            have s5 := S3.out.below hHeld
            obtain ⟨gh, ch, V4, hr5, hh, hgr5, hat5⟩ := appS he (HS68.out _ hHeld) (fun z hz => s5.s.rts.trees z (HZ0.out z hz)) s5.s.ol (by rw [HLq.out]; simp; omega)
            rw [List.nil_append] at hh
            rw [HLq.out, List.length_nil, Nat.zero_add] at hr5
            have hghy : Y1.heap.size ≤ gh := by have := hHeld.size; rcases hat5 with e | e <;> omega
            refine zaa (by rfl) (.tmp 64) (.tmp 68) 26 (by rfl) _ _ _ (by rfl) (by rfl) hr5 ?_
            refine hK.out _ _ (by exact hHeld.grown hgr5 hHeld.size (fun k e => by injection e with e; omega)) (fun hHeld hSh => ?_)
            clear hK K
            (try simp only [Act.put, zA])
            clear hr5 s5
            refine Till.one (i := 7) (by kernel_rfl) rfl hSh (fun K hK => ?_)
            clear hSh
            go_simp
            have hw0 : O + 1 ≤ V4.heap.size := (S3.out.below hHeld).s.ol
            have ho := zcH V4 y hw0 (S3.out.below hHeld).yo
            obtain ⟨go_, hgo0⟩ : ∃ g0, V4.heap.size = g0 := ⟨_, rfl⟩
            have hby : Below V4.heap.size V4 (V4.alloc (.cells #[.string ⟨y.1.1.toArray⟩, .int .i64 y.1.2.1, rvT y] 41)) := (Below.refl _ _).alloc (Nat.le_refl _) _
            refine hK.out _ _ (by exact hHeld.alloc hHeld.size _) (fun hHeld hSh => ?_)
            clear hK K
            (try simp only [zP])
            obtain ⟨V5, hV5⟩ : ∃ V, V4.alloc (.cells #[.string ⟨y.1.1.toArray⟩, .int .i64 y.1.2.1, rvT y] 41) = V := ⟨_, rfl⟩
            rw [hV5] at hHeld ho hby ⊢
            rw [hgo0] at ho ⊢
            replace hh := hh.below hby
            have hgo : go_ < V5.heap.size := (ho.row.lt go_ rfl).2
            (try simp only [zB, zC])
            exact key V5 g0 go_ gh ch ⟨hHeld, hh, ho, hghy, hSh⟩
           ·
            clear hSh
            go_simp
            have hw0 : O + 1 ≤ V3.heap.size := (S3.out.below hHeld).s.ol
            have ho := zcH V3 y hw0 (S3.out.below hHeld).yo
            obtain ⟨go_, hgo0⟩ : ∃ g0, V3.heap.size = g0 := ⟨_, rfl⟩
            have hby : Below V3.heap.size V3 (V3.alloc (.cells #[.string ⟨y.1.1.toArray⟩, .int .i64 y.1.2.1, rvT y] 41)) := (Below.refl _ _).alloc (Nat.le_refl _) _
            refine hK.out _ _ (by exact hHeld.alloc hHeld.size _) (fun hHeld hSh => ?_)
            clear hK K
            (try simp only [zP])
            obtain ⟨V4, hV4⟩ : ∃ V, V3.alloc (.cells #[.string ⟨y.1.1.toArray⟩, .int .i64 y.1.2.1, rvT y] 41) = V := ⟨_, rfl⟩
            rw [hV4] at hHeld ho hby ⊢
            rw [hgo0] at ho ⊢
            replace he := he.below hby
            have hne0 : go_ ≠ g0 := by have := hsn.out; omega
            have hgo : go_ < V4.heap.size := (ho.row.lt go_ rfl).2
            refine Till.one (i := 5) (by kernel_rfl) rfl hSh (fun K hK => ?_)
            clear hSh
            have s5 := S3.out.below hHeld
            obtain ⟨gh, ch, V5, hr5, hh, hgr5, hat5⟩ := appS he (HS68.out _ hHeld) (fun z hz => s5.s.rts.trees z (HZ0.out z hz)) s5.s.ol (by rw [HLq.out]; simp; omega)
            rw [List.nil_append] at hh
            rw [HLq.out, List.length_nil, Nat.zero_add] at hr5
            have hghy : Y1.heap.size ≤ gh := by have := hHeld.size; rcases hat5 with e | e <;> omega
            refine zaa (by rfl) (.tmp 64) (.tmp 68) 26 (by rfl) _ _ _ (by rfl) (by rfl) hr5 ?_
            refine hK.out _ _ (by exact hHeld.grown hgr5 hHeld.size (fun k e => by injection e with e; omega)) (fun hHeld hSh => ?_)
            clear hK K
            (try simp only [Act.put, zA])
            replace ho := ho.kept hgr5 (Or.inr (by intro e; injection e with e; exact hne0 e)) (fun z hz => zb5 (ho.trees z hz) he.row (by decide))
            clear hr5 s5
            (try simp only [zB, zC])
            exact key V5 g0 go_ gh ch ⟨hHeld, hh, ho, hghy, hSh⟩
          ·
           go_simp
           have hw0 : O + 1 ≤ V2.heap.size := (S3.out.below hHeld).s.ol
           have ho := zcH V2 y hw0 (S3.out.below hHeld).yo
           obtain ⟨go_, hgo0⟩ : ∃ g0, V2.heap.size = g0 := ⟨_, rfl⟩
           have hby : Below V2.heap.size V2 (V2.alloc (.cells #[.string ⟨y.1.1.toArray⟩, .int .i64 y.1.2.1, rvT y] 41)) := (Below.refl _ _).alloc (Nat.le_refl _) _
           refine hK.out _ _ (by exact hHeld.alloc hHeld.size _) (fun hHeld hSh => ?_)
           clear hK K
           (try simp only [zP])
           obtain ⟨V3, hV3⟩ : ∃ V, V2.alloc (.cells #[.string ⟨y.1.1.toArray⟩, .int .i64 y.1.2.1, rvT y] 41) = V := ⟨_, rfl⟩
           rw [hV3] at hHeld ho hby ⊢
           rw [hgo0] at ho ⊢
           have hgo : go_ < V3.heap.size := (ho.row.lt go_ rfl).2
           refine Till.one (i := 0) (by kernel_rfl) rfl hSh (fun K hK => ?_)
           clear hSh
           go_simp
           have hz0 : O + 1 ≤ V3.heap.size := (S3.out.below hHeld).s.ol
           have hz1 := hHeld.size
           have he := zcE (Bs := O + 1) V3 hz0
           obtain ⟨g0, hg0⟩ : ∃ g0, V3.heap.size = g0 := ⟨_, rfl⟩
           have hbz : Below V3.heap.size V3 (V3.alloc (.cells #[] 41)) := (Below.refl _ _).alloc (Nat.le_refl _) _
           refine hK.out _ _ (by exact hHeld.alloc hHeld.size _) (fun hHeld hSh => ?_)
           clear hK K
           (try simp only [zP])
           obtain ⟨V4, hV4⟩ : ∃ V, V3.alloc (.cells #[] 41) = V := ⟨_, rfl⟩
           have hsn : Hid (V4.heap.size = g0 + 1) := by exact (by rw [← hV4]; simp [hg0] : V4.heap.size = g0 + 1)
           rw [hV4] at hHeld he hbz ⊢
           rw [hg0] at he ⊢
           replace ho := ho.below hbz
           have hne0 : go_ ≠ g0 := by have := hgo; omega
           have hg0y : Y1.heap.size ≤ g0 := by omega
           refine Till.one (i := 5) (by kernel_rfl) rfl hSh (fun K hK => ?_)
           clear hSh
           have s5 := S3.out.below hHeld
           obtain ⟨gh, ch, V5, hr5, hh, hgr5, hat5⟩ := appS he (HS68.out _ hHeld) (fun z hz => s5.s.rts.trees z (HZ0.out z hz)) s5.s.ol (by rw [HLq.out]; simp; omega)
           rw [List.nil_append] at hh
           rw [HLq.out, List.length_nil, Nat.zero_add] at hr5
           have hghy : Y1.heap.size ≤ gh := by have := hHeld.size; rcases hat5 with e | e <;> omega
           refine zaa (by rfl) (.tmp 64) (.tmp 68) 26 (by rfl) _ _ _ (by rfl) (by rfl) hr5 ?_
           refine hK.out _ _ (by exact hHeld.grown hgr5 hHeld.size (fun k e => by injection e with e; omega)) (fun hHeld hSh => ?_)
           clear hK K
           (try simp only [Act.put, zA])
           replace ho := ho.kept hgr5 (Or.inr (by intro e; injection e with e; exact hne0 e)) (fun z hz => zb5 (ho.trees z hz) he.row (by decide))
           clear hr5 s5
           (try simp only [zB, zC])
           exact key V5 g0 go_ gh ch ⟨hHeld, hh, ho, hghy, hSh⟩
         case rest =>
          clear hHeld hSh
          intro V5 g0 go_ gh ch hF
          obtain ⟨hHeld, hh, ho, hghy, hSh⟩ := hF
          have s7 := S3.out.below hHeld
          obtain ⟨g7, c7, V7, hr7, ho7, hgr7, hat7⟩ := appS hh ((zgJ ho).src rfl 1) (fun z hz => ho.trees z hz) s7.s.ol (by rw [HLq.out, List.length_singleton]; omega)
          rw [HLq.out, List.length_singleton] at hr7
          have hg7y : Y1.heap.size ≤ g7 := by have := hHeld.size; rcases hat7 with e | e <;> omega
          refine Till.one (i := 8) (by kernel_rfl) rfl hSh (fun K hK => ?_)
          clear hSh
          refine zaa (by rfl) (.tmp 69) (.tmp 71) 26 (by rfl) _ _ _ (by rfl) (by rfl) hr7 ?_
          refine hK.out _ _ (by exact hHeld.grown hgr7 hHeld.size (fun k e => by injection e with e; omega)) (fun hHeld hSh => ?_)
          clear hK K
          (try simp only [Act.put, zA])
          have hre := HRe.out _ hHeld
          have s8 := S3.out.below hHeld
          have hl8 : ((xs.take rc) ++ [y]).length = rc + 1 := by rw [List.length_append, HLq.out]; rfl
          have hre2 : za7 V7 (O + 1) (.slice (some ⟨g1, 0, none⟩) (xs.drop rc).length c1) (xs.drop rc) := by rw [HLr.out]; exact hre
          obtain ⟨g9, c9, V9, hr9, ho9, hgr9, _⟩ := appS ho7 ((zgJ hre2).src rfl c1) (fun z hz => hre.trees z hz) s8.s.ol (by rw [hl8, HLr.out]; omega)
          have hlA : ((xs.take rc) ++ [y] ++ (xs.drop rc)).length = rc + 1 := by rw [List.length_append, hl8, HLr.out]
          rw [hl8, HLr.out, show rc + 1 + 0 = rc + 1 by omega] at hr9
          refine Till.one (i := 10) (by kernel_rfl) rfl hSh (fun K hK => ?_)
          clear hSh
          refine zaa (by rfl) (.tmp 72) (.tmp 73) 26 (by rfl) _ _ _ (by rfl) (by rfl) hr9 ?_
          refine hK.out _ _ (by exact hHeld.grown hgr9 hHeld.size (fun k e => by injection e with e; omega)) (fun hHeld hSh => ?_)
          clear hK K
          (try simp only [Act.put])
          have s9 := S3.out.below hHeld
          have v2 := s9.s.o.box.c2
          have vf := s9.s.o.fr 2
          have HS9 : Hid (Oo15 W2 (V9.setCell ⟨O, 2, none⟩ (.slice (some ⟨g9, 0, none⟩) (rc + 1) c9)) E0 O nm va nI vc ims (some ⟨g9, 0, none⟩) (rc + 1) c9 ((xs.take rc) ++ [y] ++ (xs.drop rc))) := s9.s.set ho9 hlA
          have HM2 : Hid ((xs.take rc ++ [y] ++ xs.drop rc).map (·.1) = zao (RS.take (rc + 1))) := by exact (by rw [HSy.out, ← HM.out]; exact zea rfl HPn.out : (xs.take rc ++ [y] ++ xs.drop rc).map (·.1) = zao (RS.take (rc + 1)))
          generalize (xs.take rc) ++ [y] ++ (xs.drop rc) = zs2 at HS9 HM2
          refine Till.take (i := 11) (o := ⟨some 75, _, _, _, _, _⟩) (v := ?v66) (d := 30) rfl (by kernel_rfl) (by kernel_rfl) (by kernel_rfl) (by kernel_rfl) (fun _ _ _ h => h) (Or.inl ⟨by rfl, ?hy66⟩) (by assumption) hSh (fun hSh2 => ?rest66)
          case hy66 => (intro wq hSw; skip; clear hSw; first | (go_simp; done) | (go_simp; with_reducible rfl))
          clear hSh; rename zaT _ _ _ => hSh
          simp only [Act.put]
          refine Till.last (i := 12) (by kernel_rfl) rfl (by decide) (fun K hK => ?_)
          go_simp
          refine hK.out _ _ ?_
          clear hK K
          refine Till.done (by kernel_rfl) ?_ _
          clear hHeld hre hre2 s8 s7 s9 hl8 hlA ho9 hgr9 hr9 hr7 ho7 hgr7 S3 HRe HR3 hh ho
          go_wp2
          go_roundw
          case rel => exact ⟨rc + 1, some ⟨g9, 0, none⟩, c9, zs2, by go_num, by omega, (fun e => absurd e (Nat.succ_ne_zero _)), HM2, HS9⟩
          case measure => simp [intOf]; omega
        ·
         have hcqi : ¬ (rc : Int) = (q : Int) := by omega
         have hrow : za7 V1 (O + 1) (.slice (some ⟨g, 0, none⟩) xs.length rc) xs := by rw [HXl.out]; exact s2.out.s.rts
         have hcap : q ≤ rc := by have := (zcg hrow.row).1; rw [HXl.out] at this; exact this
         have hqx : q ≤ xs.length := by rw [HXl.out]; exact hq
         have hqc : (q : Int) ≤ (rc : Int) := by omega
         have hqi : (q : Int) ≤ (q : Int) := by omega
         have HLr : Hid ((xs.drop q).length = 0) := by exact (by rw [List.length_drop, HXl.out]; exact Nat.sub_self _ : (xs.drop q).length = 0)
         have hd14 : Src V1 (.slice (some ⟨g, q * 3, none⟩) 0 (rc - q)) (xs.drop q).length 3 (rtsV (xs.drop q)) := by
          have h1 := (zkd hrow hqx).src HLr.out (rc - q)
          rw [if_neg hcl] at h1
          exact h1
         obtain ⟨g1, c1, Y1, hrun1, s3, hrest⟩ := s2.out.rest hd14 (fun z hz => List.mem_of_mem_drop hz) (by rw [HLr.out]; omega)
         have HLq : Hid ((xs.take q).length = q) := by exact (by rw [List.length_take, HXl.out]; omega : (xs.take q).length = q)
         rw [HLr.out] at hrun1 hrest
         have HS68 : Hid (∀ V, Below Y1.heap.size Y1 V → Src V (.slice (some ⟨g, 0, none⟩) q rc) (xs.take q).length 3 (rtsV (xs.take q))) := fun V hV => by
          have hrV : za7 V (O + 1) (.slice (some ⟨g, 0, none⟩) xs.length rc) xs := by rw [HXl.out]; exact (s3.below hV).s.rts
          exact (zhA hrV hqx).src HLq.out rc
         have HZ0 : Hid (∀ z ∈ xs.take q, z ∈ xs) := fun z hz => List.mem_of_mem_take hz
         clear hd14 hrow
         have HRe : Hid (∀ V, Below Y1.heap.size Y1 V → za7 V (O + 1) (.slice (some ⟨g1, 0, none⟩) 0 c1) (xs.drop q)) := fun V hV => hrest.below hV
         have HR3 : Hid (∀ V, Below Y1.heap.size Y1 V → V.cell? ⟨gn, 0, none⟩ = some (.string ⟨y.1.1.toArray⟩) ∧ V.cell? ⟨gn, 1, none⟩ = some (.int .i64 y.1.2.1) ∧ V.cell? ⟨gn, 2, none⟩ = some (rvT y) ∧ V.cell? ⟨O, 2, none⟩ = some (.slice (some ⟨g, 0, none⟩) q rc)) := fun V hV => ⟨(s3.below hV).r0, (s3.below hV).r1, (s3.below hV).r2, (s3.below hV).s.o.box.c2⟩
         have S3 : Hid (Ir15 W2 Y1 E0 O nm va nI vc ims (some ⟨g, 0, none⟩) q rc xs gn y) := s3
         have ho2 := s2.out.s.o.box.c2
         have hOw := s2.out.s.ol
         have x02 : (V1.alloc (.cells #[] 41)).cell? ⟨O, 2, none⟩ = some (.slice (some ⟨g, 0, none⟩) q rc) := (((Below.refl _ V1).alloc (Nat.le_refl _) (.cells #[] 41)).cell (p := ⟨O, 2, none⟩) (by show O < _; omega)).trans ho2
         clear s3 hrest s2
         go_wp2_with (at_builtin; refine za0 rfl (.tmp 58) (.tmp 62) 26 rfl _ _ _ rfl rfl hrun1 ?_; clear hrun1)
         refine Till.region (S := fun V => Below Y1.heap.size Y1 V) (E := [12]) (by kernel_rfl) ⟨rfl, rfl, rfl, Nat.le_refl _, fun _ _ => rfl⟩ (fun hHeld hSh => ?_)
         generalize Y1.drew = V2 at hHeld ⊢
         refine tkO [(1, 65), (2, 66), (3, 67), (4, 68), (6, 70), (9, 73)] ?_
         repeat (refine tlY ?_ rfl (by rfl) ?_ (fun hSh2 => ?_); rotate_left; (focus (intro wq hSw; have e0 := (HR3.out wq hSw).1; have e1 := (HR3.out wq hSw).2.1; have e2 := (HR3.out wq hSw).2.2.1; have e3 := (HR3.out wq hSw).2.2.2; clear hSw; first | (go_simp; done) | (go_simp; with_reducible rfl))); clear hSh; rename zaT _ _ _ => hSh; simp only [zP])
         refine tkZ ?_
         apply zec (F := fun V _ go gh ch => Below Y1.heap.size Y1 V ∧ za7 V (O + 1) (.slice (some ⟨gh, 0, none⟩) (xs.take q).length ch) (xs.take q) ∧ za7 V (O + 1) (.slice (some ⟨go, 0, none⟩) [y].length 1) [y] ∧ Y1.heap.size ≤ gh ∧ zaT _ _ _)
         case main =>
          intro key
          refine Till.two (i := 0) (j := 7) (by kernel_rfl) rfl rfl hSh (fun K hK => ?_) (fun K hK => ?_)
          ·
           go_simp
           have hz0 : O + 1 ≤ V2.heap.size := (S3.out.below hHeld).s.ol
           have hz1 := hHeld.size
           have he := zcE (Bs := O + 1) V2 hz0
           obtain ⟨g0, hg0⟩ : ∃ g0, V2.heap.size = g0 := ⟨_, rfl⟩
           have hbz : Below V2.heap.size V2 (V2.alloc (.cells #[] 41)) := (Below.refl _ _).alloc (Nat.le_refl _) _
           refine hK.out _ _ (by exact hHeld.alloc hHeld.size _) (fun hHeld hSh => ?_)
           clear hK K
           (try simp only [zP])
           obtain ⟨V3, hV3⟩ : ∃ V, V2.alloc (.cells #[] 41) = V := ⟨_, rfl⟩
           have hsn : Hid (V3.heap.size = g0 + 1) := by exact (by rw [← hV3]; simp [hg0] : V3.heap.size = g0 + 1)
           rw [hV3] at hHeld he hbz ⊢
           rw [hg0] at he ⊢
           have hg0y : Y1.heap.size ≤ g0 := by omega
           refine Till.two (i := 5) (j := 7) (by kernel_rfl) rfl rfl hSh (fun K hK => ?_) (fun K hK => ?_)
           ·
            clear hSh
            have s5 := S3.out.below hHeld
            obtain ⟨gh, ch, V4, hr5, hh, hgr5, hat5⟩ := appS he (HS68.out _ hHeld) (fun z hz => s5.s.rts.trees z (HZ0.out z hz)) s5.s.ol (by rw [HLq.out]; simp; omega)
            rw [List.nil_append] at hh
            rw [HLq.out, List.length_nil, Nat.zero_add] at hr5
            have hghy : Y1.heap.size ≤ gh := by have := hHeld.size; rcases hat5 with e | e <;> omega
            refine zaa (by rfl) (.tmp 64) (.tmp 68) 26 (by rfl) _ _ _ (by rfl) (by rfl) hr5 ?_
            refine hK.out _ _ (by exact hHeld.grown hgr5 hHeld.size (fun k e => by injection e with e; omega)) (fun hHeld hSh => ?_)
            clear hK K
            (try simp only [Act.put, zA])
            clear hr5 s5
            refine Till.one (i := 7) (by kernel_rfl) rfl hSh (fun K hK => ?_)
            clear hSh
            go_simp
            have hw0 : O + 1 ≤ V4.heap.size := (S3.out.below hHeld).s.ol
            have ho := zcH V4 y hw0 (S3.out.below hHeld).yo
            obtain ⟨go_, hgo0⟩ : ∃ g0, V4.heap.size = g0 := ⟨_, rfl⟩
            have hby : Below V4.heap.size V4 (V4.alloc (.cells #[.string ⟨y.1.1.toArray⟩, .int .i64 y.1.2.1, rvT y] 41)) := (Below.refl _ _).alloc (Nat.le_refl _) _
            refine hK.out _ _ (by exact hHeld.alloc hHeld.size _) (fun hHeld hSh => ?_)
            clear hK K
            (try simp only [zP])
            obtain ⟨V5, hV5⟩ : ∃ V, V4.alloc (.cells #[.string ⟨y.1.1.toArray⟩, .int .i64 y.1.2.1, rvT y] 41) = V := ⟨_, rfl⟩
            rw [hV5] at hHeld ho hby ⊢
            rw [hgo0] at ho ⊢
            replace hh := hh.below hby
            have hgo : go_ < V5.heap.size := (ho.row.lt go_ rfl).2
            (try simp only [zB, zC])
            exact key V5 g0 go_ gh ch ⟨hHeld, hh, ho, hghy, hSh⟩
           ·
            clear hSh
            go_simp
            have hw0 : O + 1 ≤ V3.heap.size := (S3.out.below hHeld).s.ol
            have ho := zcH V3 y hw0 (S3.out.below hHeld).yo
            obtain ⟨go_, hgo0⟩ : ∃ g0, V3.heap.size = g0 := ⟨_, rfl⟩
            have hby : Below V3.heap.size V3 (V3.alloc (.cells #[.string ⟨y.1.1.toArray⟩, .int .i64 y.1.2.1, rvT y] 41)) := (Below.refl _ _).alloc (Nat.le_refl _) _
            refine hK.out _ _ (by exact hHeld.alloc hHeld.size _) (fun hHeld hSh => ?_)
            clear hK K
            (try simp only [zP])
            obtain ⟨V4, hV4⟩ : ∃ V, V3.alloc (.cells #[.string ⟨y.1.1.toArray⟩, .int .i64 y.1.2.1, rvT y] 41) = V := ⟨_, rfl⟩
            rw [hV4] at hHeld ho hby ⊢
            rw [hgo0] at ho ⊢
            replace he := he.below hby
            have hne0 : go_ ≠ g0 := by have := hsn.out; omega
            have hgo : go_ < V4.heap.size := (ho.row.lt go_ rfl).2
            refine Till.one (i := 5) (by kernel_rfl) rfl hSh (fun K hK => ?_)
            clear hSh
            have s5 := S3.out.below hHeld
            obtain ⟨gh, ch, V5, hr5, hh, hgr5, hat5⟩ := appS he (HS68.out _ hHeld) (fun z hz => s5.s.rts.trees z (HZ0.out z hz)) s5.s.ol (by rw [HLq.out]; simp; omega)
            rw [List.nil_append] at hh
            rw [HLq.out, List.length_nil, Nat.zero_add] at hr5
            have hghy : Y1.heap.size ≤ gh := by have := hHeld.size; rcases hat5 with e | e <;> omega
            refine zaa (by rfl) (.tmp 64) (.tmp 68) 26 (by rfl) _ _ _ (by rfl) (by rfl) hr5 ?_
            refine hK.out _ _ (by exact hHeld.grown hgr5 hHeld.size (fun k e => by injection e with e; omega)) (fun hHeld hSh => ?_)
            clear hK K
            (try simp only [Act.put, zA])
            replace ho := ho.kept hgr5 (Or.inr (by intro e; injection e with e; exact hne0 e)) (fun z hz => zb5 (ho.trees z hz) he.row (by decide))
            clear hr5 s5
            (try simp only [zB, zC])
            exact key V5 g0 go_ gh ch ⟨hHeld, hh, ho, hghy, hSh⟩
          ·
           go_simp
           have hw0 : O + 1 ≤ V2.heap.size := (S3.out.below hHeld).s.ol
           have ho := zcH V2 y hw0 (S3.out.below hHeld).yo
           obtain ⟨go_, hgo0⟩ : ∃ g0, V2.heap.size = g0 := ⟨_, rfl⟩
           have hby : Below V2.heap.size V2 (V2.alloc (.cells #[.string ⟨y.1.1.toArray⟩, .int .i64 y.1.2.1, rvT y] 41)) := (Below.refl _ _).alloc (Nat.le_refl _) _
           refine hK.out _ _ (by exact hHeld.alloc hHeld.size _) (fun hHeld hSh => ?_)
           clear hK K
           (try simp only [zP])
           obtain ⟨V3, hV3⟩ : ∃ V, V2.alloc (.cells #[.string ⟨y.1.1.toArray⟩, .int .i64 y.1.2.1, rvT y] 41) = V := ⟨_, rfl⟩
           rw [hV3] at hHeld ho hby ⊢
           rw [hgo0] at ho ⊢
           have hgo : go_ < V3.heap.size := (ho.row.lt go_ rfl).2
           refine Till.one (i := 0) (by kernel_rfl) rfl hSh (fun K hK => ?_)
           clear hSh
           go_simp
           have hz0 : O + 1 ≤ V3.heap.size := (S3.out.below hHeld).s.ol
           have hz1 := hHeld.size
           have he := zcE (Bs := O + 1) V3 hz0
           obtain ⟨g0, hg0⟩ : ∃ g0, V3.heap.size = g0 := ⟨_, rfl⟩
           have hbz : Below V3.heap.size V3 (V3.alloc (.cells #[] 41)) := (Below.refl _ _).alloc (Nat.le_refl _) _
           refine hK.out _ _ (by exact hHeld.alloc hHeld.size _) (fun hHeld hSh => ?_)
           clear hK K
           (try simp only [zP])
           obtain ⟨V4, hV4⟩ : ∃ V, V3.alloc (.cells #[] 41) = V := ⟨_, rfl⟩
           have hsn : Hid (V4.heap.size = g0 + 1) := by exact (by rw [← hV4]; simp [hg0] : V4.heap.size = g0 + 1)
           rw [hV4] at hHeld he hbz ⊢
           rw [hg0] at he ⊢
           replace ho := ho.below hbz
           have hne0 : go_ ≠ g0 := by have := hgo; omega
           have hg0y : Y1.heap.size ≤ g0 := by omega
           refine Till.one (i := 5) (by kernel_rfl) rfl hSh (fun K hK => ?_)
           clear hSh
           have s5 := S3.out.below hHeld
           obtain ⟨gh, ch, V5, hr5, hh, hgr5, hat5⟩ := appS he (HS68.out _ hHeld) (fun z hz => s5.s.rts.trees z (HZ0.out z hz)) s5.s.ol (by rw [HLq.out]; simp; omega)
           rw [List.nil_append] at hh
           rw [HLq.out, List.length_nil, Nat.zero_add] at hr5
           have hghy : Y1.heap.size ≤ gh := by have := hHeld.size; rcases hat5 with e | e <;> omega
           refine zaa (by rfl) (.tmp 64) (.tmp 68) 26 (by rfl) _ _ _ (by rfl) (by rfl) hr5 ?_
           refine hK.out _ _ (by exact hHeld.grown hgr5 hHeld.size (fun k e => by injection e with e; omega)) (fun hHeld hSh => ?_)
           clear hK K
           (try simp only [Act.put, zA])
           replace ho := ho.kept hgr5 (Or.inr (by intro e; injection e with e; exact hne0 e)) (fun z hz => zb5 (ho.trees z hz) he.row (by decide))
           clear hr5 s5
           (try simp only [zB, zC])
           exact key V5 g0 go_ gh ch ⟨hHeld, hh, ho, hghy, hSh⟩
         case rest =>
          clear hHeld hSh
          intro V5 g0 go_ gh ch hF
          obtain ⟨hHeld, hh, ho, hghy, hSh⟩ := hF
          have s7 := S3.out.below hHeld
          obtain ⟨g7, c7, V7, hr7, ho7, hgr7, hat7⟩ := appS hh ((zgJ ho).src rfl 1) (fun z hz => ho.trees z hz) s7.s.ol (by rw [HLq.out, List.length_singleton]; omega)
          rw [HLq.out, List.length_singleton] at hr7
          have hg7y : Y1.heap.size ≤ g7 := by have := hHeld.size; rcases hat7 with e | e <;> omega
          refine Till.one (i := 8) (by kernel_rfl) rfl hSh (fun K hK => ?_)
          clear hSh
          refine zaa (by rfl) (.tmp 69) (.tmp 71) 26 (by rfl) _ _ _ (by rfl) (by rfl) hr7 ?_
          refine hK.out _ _ (by exact hHeld.grown hgr7 hHeld.size (fun k e => by injection e with e; omega)) (fun hHeld hSh => ?_)
          clear hK K
          (try simp only [Act.put, zA])
          have hre := HRe.out _ hHeld
          have s8 := S3.out.below hHeld
          have hl8 : ((xs.take q) ++ [y]).length = q + 1 := by rw [List.length_append, HLq.out]; rfl
          have hre2 : za7 V7 (O + 1) (.slice (some ⟨g1, 0, none⟩) (xs.drop q).length c1) (xs.drop q) := by rw [HLr.out]; exact hre
          obtain ⟨g9, c9, V9, hr9, ho9, hgr9, _⟩ := appS ho7 ((zgJ hre2).src rfl c1) (fun z hz => hre.trees z hz) s8.s.ol (by rw [hl8, HLr.out]; omega)
          have hlA : ((xs.take q) ++ [y] ++ (xs.drop q)).length = q + 1 := by rw [List.length_append, hl8, HLr.out]
          rw [hl8, HLr.out, show q + 1 + 0 = q + 1 by omega] at hr9
          refine Till.one (i := 10) (by kernel_rfl) rfl hSh (fun K hK => ?_)
          clear hSh
          refine zaa (by rfl) (.tmp 72) (.tmp 73) 26 (by rfl) _ _ _ (by rfl) (by rfl) hr9 ?_
          refine hK.out _ _ (by exact hHeld.grown hgr9 hHeld.size (fun k e => by injection e with e; omega)) (fun hHeld hSh => ?_)
          clear hK K
          (try simp only [Act.put])
          have s9 := S3.out.below hHeld
          have v2 := s9.s.o.box.c2
          have vf := s9.s.o.fr 2
          have HS9 : Hid (Oo15 W2 (V9.setCell ⟨O, 2, none⟩ (.slice (some ⟨g9, 0, none⟩) (q + 1) c9)) E0 O nm va nI vc ims (some ⟨g9, 0, none⟩) (q + 1) c9 ((xs.take q) ++ [y] ++ (xs.drop q))) := s9.s.set ho9 hlA
          have HM2 : Hid ((xs.take q ++ [y] ++ xs.drop q).map (·.1) = zao (RS.take (q + 1))) := by exact (by rw [HSy.out, ← HM.out]; exact zea rfl HPn.out : (xs.take q ++ [y] ++ xs.drop q).map (·.1) = zao (RS.take (q + 1)))
          generalize (xs.take q) ++ [y] ++ (xs.drop q) = zs2 at HS9 HM2
          refine Till.take (i := 11) (o := ⟨some 75, _, _, _, _, _⟩) (v := ?v73) (d := 30) rfl (by kernel_rfl) (by kernel_rfl) (by kernel_rfl) (by kernel_rfl) (fun _ _ _ h => h) (Or.inl ⟨by rfl, ?hy73⟩) (by assumption) hSh (fun hSh2 => ?rest73)
          case hy73 => (intro wq hSw; skip; clear hSw; first | (go_simp; done) | (go_simp; with_reducible rfl))
          clear hSh; rename zaT _ _ _ => hSh
          simp only [Act.put]
          refine Till.last (i := 12) (by kernel_rfl) rfl (by decide) (fun K hK => ?_)
          go_simp
          refine hK.out _ _ ?_
          clear hK K
          refine Till.done (by kernel_rfl) ?_ _
          clear hHeld hre hre2 s8 s7 s9 hl8 hlA ho9 hgr9 hr9 hr7 ho7 hgr7 S3 HRe HR3 hh ho
          go_wp2
          go_roundw
          case rel => exact ⟨q + 1, some ⟨g9, 0, none⟩, c9, zs2, by go_num, by omega, (fun e => absurd e (Nat.succ_ne_zero _)), HM2, HS9⟩
          case measure => simp [intOf]; omega
   ·
    obtain rfl : i = fl := by omega
    have HMf : Hid (xs.map (·.1) = zao RS) := by exact (by rw [HM.out, List.take_of_length_le (by rw [HRl.out, ← HflE.out]; exact Nat.le_refl _)] : xs.map (·.1) = zao RS)
    have HIR : Hid (IntR (zao RS) ∧ zc0 (zao RS)) := HRF.out _ (fun r hr => (zb0 _).mem_iff.1 hr)
    have hgl := HOo.out.gl
    obtain ⟨a', c', e', hn', ht'⟩ := zcr HOo.out.im
    injection e' with e1 _ e3
    subst e1 e3
    obtain ⟨ra', rc', er, _, hri⟩ := HOo.out.rts.in
    injection er with er1 er2 er3
    subst er1 er3
    rw [HMf.out, hgl] at hri
    have HC : Hid (_) := zdV nm va nI vc ra i rc ims (zao RS) wr ht' hri (by omega) (by omega) (by omega) (fun k => by have := HIms.out k; omega) HIR.out.2
    have o0 := HOo.out.o.box.c0
    have o1 := HOo.out.o.box.c1
    have o2 := HOo.out.o.box.c2
    clear hri ht' hn' er2 HIR HM HNl bp br hbw
    rcases hob : objB (nm, ims, zao RS) with _ | _
    ·
     have HOb : Hid (ob = ob0) := by exact (by rw [HOB.out, hob]; rfl : ob = ob0)
     rw [hob] at HC
     clear hob
     go_wp2_with fail
     refine Calls.mono HC.out ?_
     rintro e w7 ⟨rfl, hb7⟩
     obtain ⟨_, bR, hbw7⟩ := HZ.out w7 (HOo.out.below hb7).b
     have r0 := bR.box.c0
     have r1 := bR.box.c1
     have r2 := bR.box.c2
     have rf0 := bR.fr 0
     have rf1 := bR.fr 1
     have rf2 := bR.fr 2
     obtain ⟨V, hVe, v0, v1, v2, hgV⟩ := set3 (.string ⟨#[]⟩) (.slice none 0 0) (.slice none 0 0) r0 r1 r2
     have HR3 : Hid (Below w.heap.size w V) := hbw7.grown hgV hbw7.size (fun k e => by injection e with e; omega)
     clear hbw7 hgV bR hb7 HC HOo
     go_wp2
     refine bodyPost_ret (v := .agg #[.string ⟨#[]⟩, .slice none 0 0, .slice none 0 0]) (by simp [results, Tryz.results51, go_sem, v0, v1, v2]) rfl ?_
     have q1 : V.ownsRow w.heap.size 9 1 (.slice none 0 0) 0 (strV []) := World.ownsRow_nil V _ _ _
     have q2 : za7 V w.heap.size (.slice none 0 0) [] := za7.nil V _
     have q3 := HR3.out
     simp only [HOb.out, ob0]
     first | exact ⟨_, _, _, rfl, rfl, q1, q2, q3⟩ | (rw [hP0] at q1 q2 q3; exact ⟨_, _, _, rfl, rfl, q1, q2, q3⟩) | (rw [hP0] at q1 q2 q3; exact ⟨_, _, rfl, [], rfl, q1, q2, q3⟩)
    ·
     have HOb : Hid (ob = (nm, ims, zao RS)) := by exact (by rw [HOB.out, hob]; rfl : ob = (nm, ims, zao RS))
     rw [hob] at HC
     clear hob
     go_wp2_with fail
     refine Calls.mono HC.out ?_
     rintro e w7 ⟨rfl, hb7⟩
     have h7 := HOo.out.below hb7
     obtain ⟨_, bR, hbw7⟩ := HZ.out w7 h7.b
     have p0 := h7.o.box.c0
     have p1 := h7.o.box.c1
     have p2 := h7.o.box.c2
     have r0 := bR.box.c0
     have r1 := bR.box.c1
     have r2 := bR.box.c2
     have rf0 := bR.fr 0
     have rf1 := bR.fr 1
     have rf2 := bR.fr 2
     have heo := h7.eo
     obtain ⟨V, hVe, v0, v1, v2, hgV⟩ := set3 (.string ⟨nm.toArray⟩) (.slice va nI vc) (.slice ra i rc) r0 r1 r2
     have HR3 : Hid (Below w.heap.size w V) := hbw7.grown hgV hbw7.size (fun k e => by injection e with e; omega)
     have hwE : w.heap.size ≤ E0 := by rw [← hE0]; exact HBw.out.size
     have HR1 : Hid (V.ownsRow w.heap.size 9 1 (.slice va nI vc) nI (strV ims)) := zai (zaV h7.im (by omega) hgV) hwE
     have HR2 : Hid (za7 V w.heap.size (.slice ra i rc) xs) := za7.base ⟨zaV h7.rts.row (by omega) hgV, fun x hx => zaV (h7.rts.trees x hx) (by omega) hgV⟩ (by omega)
     clear hbw7 hgV bR hb7 HC HOo h7
     go_wp2
     refine bodyPost_ret (v := .agg #[.string ⟨nm.toArray⟩, .slice va nI vc, .slice ra i rc]) (by simp [results, Tryz.results51, go_sem, v0, v1, v2]) rfl ?_
     have q1 := HR1.out
     have q2 := HR2.out
     have q3 := HR3.out
     have q4 := HMf.out
     simp only [HOb.out]
     rw [HnI.out]
     first | exact ⟨_, _, _, rfl, q4, q1, q2, q3⟩ | (rw [hP0] at q1 q2 q3; exact ⟨_, _, _, rfl, q4, q1, q2, q3⟩) | (rw [hP0] at q1 q2 q3; exact ⟨_, _, rfl, xs, q4, q1, q2, q3⟩)
end Go.Proofs.YtenaaneckobdpaaGreat
