/-
  Parts of one proof, one behind the other: PackS6, TreeS6.
-/
import Derived.Test.YtibppdepgoiojaaGreatDoorP17
import Derived.Test.YtibppdepgoiojaaGreatDoorP14
import Derived.Deep.RegionLaw
import Derived.Deep.Cut
import Derived.Test.YtibppdepgoiojaaGreatDoorP6
import Derived.Test.YtibppdepgoiojaaGreatDoorP2

/-! The contract of chapter 7's specification: ReadPackage. -/
namespace Go.Proofs.YtibppdepgoiojaaGreatDoor
open Go.RowKit

/-- What ReadPackage answers. -/
def RpOut (w : World) (l : List UInt8) (e : Ending) (w' : World) : Prop :=
  ∃ vi vf xs, e = .returned (.tuple #[.agg #[.string ⟨(readPV l).1.toArray⟩, vi, vf], .bool (readPB l)]) ∧ (xs : List FV).map (·.1) = (readPV l).2.2 ∧ w'.ownsRow w.heap.size 9 1 vi (readPV l).2.1.length (strV (readPV l).2.1) ∧ FnsOwn w' w.heap.size vf xs ∧ Below w.heap.size w w'

theorem rpZero {w Y : World} {l : List UInt8} (hz : readPB l = false ∧ readPV l = pk0) (hb : Below w.heap.size w Y) : RpOut w l (.returned (.tuple #[.agg #[.string ⟨#[]⟩, .slice none 0 0, .slice none 0 0], .bool false])) Y :=
  ⟨.slice none 0 0, .slice none 0 0, [], by rw [hz.1, hz.2]; rfl, by rw [hz.2]; rfl, by rw [hz.2]; exact World.ownsRow_nil Y _ _ _, FnsOwn.nil Y _, hb⟩

set_option maxHeartbeats 8000000 in
set_option maxRecDepth 100000 in
theorem specReadPackage (l : List UInt8) (w : World) :
    Calls Tryz.prog 11 #[.string ⟨l.toArray⟩] w fun e w' => RpOut w l e w' := by
  obtain ⟨D, hD⟩ : ∃ D, w.heap.size = D := ⟨_, rfl⟩
  obtain ⟨W1, hW1⟩ : ∃ W, w.alloc (.cells #[.string ⟨#[]⟩, .slice none 0 0, .slice none 0 0] 27) = W := ⟨_, rfl⟩
  have hs1 : W1.heap.size = D + 1 := by rw [← hW1, ← hD]; simp
  have hR1 : W1.heap[D]? = some (.cells #[.string ⟨#[]⟩, .slice none 0 0, .slice none 0 0] 27) := by rw [← hW1, ← hD]; exact heap_alloc_new w _
  have hB1 : Below D w W1 := by rw [← hW1, ← hD]; exact (Below.refl _ _).alloc (Nat.le_refl _) _
  by_cases hlen : 20000 < (l.length : Int)
  · have HZ : Hid (readPB l = false ∧ readPV l = pk0) := rp_long (by omega)
    obtain ⟨r0, r1, r2, fr⟩ := three (Below.refl _ W1) (by omega) hR1
    have f0 := fr 0
    have f1 := fr 1
    have f2 := fr 2
    clear fr hR1
    go_enter Tryz.func11, Tryz.ntmps11
    go_wp2
    obtain ⟨Y, hY, y0, y1, y2, hg⟩ := set3 (.string ⟨#[]⟩) (.slice none 0 0) (.slice none 0 0) r0 r1 r2
    rw [hY]
    refine bodyPost_ret (v := .tuple #[.agg #[.string ⟨#[]⟩, .slice none 0 0, .slice none 0 0], .bool false]) (by simp [results, Tryz.results11, go_sem, y0, y1, y2]) rfl ?_
    exact rpZero HZ.out (by rw [hD]; exact hB1.grown hg (by omega) (fun k e => by injection e with e; omega))
  go_enter Tryz.func11, Tryz.ntmps11
  go_wp2_with fail
  obtain ⟨W2, hW2⟩ : ∃ W, W1.alloc (.cells #[.string ⟨#[]⟩, .slice none 0 0, .slice none 0 0] 27) = W := ⟨_, rfl⟩
  have hs2 : W2.heap.size = D + 2 := by rw [← hW2]; simp [hs1]
  have hb12 : Below W1.heap.size W1 W2 := by rw [← hW2]; exact (Below.refl _ _).alloc (Nat.le_refl _) _
  have hR2 : W2.heap[D]? = some (.cells #[.string ⟨#[]⟩, .slice none 0 0, .slice none 0 0] 27) := (hb12.block D (by omega)).trans hR1
  have hP2 : W2.heap[D + 1]? = some (.cells #[.string ⟨#[]⟩, .slice none 0 0, .slice none 0 0] 27) := by rw [← hs1, ← hW2]; exact heap_alloc_new W1 _
  have hB2 : Below D w W2 := hB1.trans (hb12.mono (by omega))
  have HLines := specLines l W2 (by omega)
  have hln := linesL_len l
  have hll := line_len l
  clear hR1 hB1 hb12
  rw [hW2]
  refine HLines.mono ?_
  rintro e w3 ⟨gL, cpL, rfl, hownL, hb3⟩
  clear HLines
  obtain ⟨ls, hls⟩ : ∃ ls, linesL l = ls := ⟨_, rfl⟩
  have HLS : Hid (linesL l = ls) := hls
  rw [hls] at hownL hln hll ⊢
  clear hls
  have hgL := hownL.lt gL rfl
  have HLC : ∀ j, j < ls.length → w3.cell? ⟨gL, j, none⟩ = some (.string ⟨(ls.getD j []).toArray⟩) := fun j hj => str_cellsD hownL rfl j hj
  have hcapL := own_cap hownL
  obtain ⟨B, hB⟩ : ∃ B, w3.heap.size = B := ⟨_, rfl⟩
  obtain ⟨r0, r1, r2, fr⟩ := three hb3 (by omega) hR2
  obtain ⟨p0, p1, p2, fp⟩ := three hb3 (by omega) hP2
  have st0 : RdSt w3 w D (D + 1) B gL ls [] [] [] none 0 none 0 := ⟨p0, p1, p2, fp, r0, r1, r2, fr, HLC, World.ownsRow_nil _ _ _ _, FnsOwn.nil _ _, by omega, by omega, by omega, by have := hb3.size; omega, by have := hb3.size; omega, by omega, hB2.trans (hb3.mono (by omega)), by omega⟩
  have HST0 : Hid (RdSt w3 w D (D + 1) B gL ls [] [] [] none 0 none 0) := st0
  have HLL : Hid (∀ j, (ls.getD j []).length ≤ l.length) := hll
  have hlen2 : l.length ≤ 20000 := by omega
  clear hR2 hP2 hB2 hownL HLC hgL r0 r1 r2 fr p0 p1 p2 fp st0 hb3 hll hcapL hs1 hs2 hB
  go_wp2_with fail
  go_loopw [6] (fun iv wr => ∃ (k : Nat) (nm : List UInt8) (ims : List (List UInt8)) (xs : List FV) (ia : Option Addr) (ic : Nat) (fa : Option Addr) (fc : Nat), iv = .int .i64 k ∧ k ≤ ls.length ∧ ims.length ≤ k ∧ xs.length ≤ k ∧ Hid (RdSt wr w D (D + 1) B gL ls nm ims xs ia ic fa fc) ∧ Hid (readLs pk0 ls = readLs (nm, ims, xs.map (·.1)) (ls.drop k)) ∧ Hid (ShortP nm ims (xs.map (·.1)))) (fun iv _ => ls.length - (intOf iv).toNat)
  case atStart => exact ⟨0, [], [], [], none, 0, none, 0, rfl, by omega, by simp, by simp, HST0, (rfl : readLs pk0 ls = readLs ([], [], ([] : List FV).map (·.1)) (ls.drop 0)), shortP0⟩
  case round =>
    obtain ⟨k, nm, ims, xs, ia, ic, fa, fc, rfl, hk, hki, hkx, HST, HG, HSH⟩ := hrel
    clear HST0
    have st := HST.out
    clear HST
    by_cases hkl : (k : Int) < (ls.length : Int)
    rotate_left
    · obtain rfl : k = ls.length := by omega
      have hE : readLs pk0 ls = some (nm, ims, xs.map (·.1)) := by rw [HG.out, List.drop_length]; rfl
      have HE : Hid (readLs pk0 (linesL l) = some (nm, ims, xs.map (·.1))) := by exact (by rw [HLS.out]; exact hE : readLs pk0 (linesL l) = some (nm, ims, xs.map (·.1)))
      clear hE HG
      have hff : ∃ X : List Fn, xs.map (·.1) = X := ⟨_, rfl⟩
      obtain ⟨fs, hfs⟩ := hff
      have HFS : Hid (xs.map (·.1) = fs) := hfs
      rw [hfs] at HE HSH
      have rd : ∀ {X : World}, RdSt X w D (D + 1) B gL ls nm ims xs ia ic fa fc → FuncsIn X fa xs.length fs ∧ TextsIn X ia ims.length ims := fun sx => by
        obtain ⟨fa', fc', ef, _, hfin⟩ := sx.fo.in
        obtain ⟨_, ia', ic', ei, hiin⟩ := own_texts sx.oi
        injection ef with e1 _ _
        injection ei with e2 _ _
        subst e1; subst e2
        rw [hfs] at hfin
        exact ⟨hfin, hiin⟩
      have HRDS : Hid (∀ {X : World}, RdSt X w D (D + 1) B gL ls nm ims xs ia ic fa fc → FuncsIn X fa xs.length fs ∧ TextsIn X ia ims.length ims) := @rd
      clear hfs rd
      have p0 := st.p0
      have p1 := st.p1
      have p2 := st.p2
      have HC := specPackageOk nm ia ims.length ic fa xs.length fc ims fs wr (HRDS.out st).2 (HRDS.out st).1 (by omega) (by omega) HSH.out.n HSH.out.i HSH.out.f
      rcases hp : pkgB (nm, ims, fs) with _ | _
      · have HP : Hid (pkgB (nm, ims, fs) = false) := hp
        have HZ : Hid (readPB l = false ∧ readPV l = pk0) := rp_bad HE.out (Or.inl hp)
        clear hp
        go_wp2_with fail
        refine HC.mono ?_
        rintro e w5 ⟨rfl, hb5⟩
        rw [HP.out]
        replace st := st.below hb5
        have r0 := st.r0
        have r1 := st.r1
        have r2 := st.r2
        have f0 := st.rf 0
        have f1 := st.rf 1
        have f2 := st.rf 2
        have hsd : D ≤ w5.heap.size := by have := st.bs; have := st.db; omega
        have HBd : Hid (Below D w w5) := st.b
        clear HC hb5 st p0 p1 p2
        go_wp2
        obtain ⟨Y, hY, z0, z1, z2, hg⟩ := set3 (.string ⟨#[]⟩) (.slice none 0 0) (.slice none 0 0) r0 r1 r2
        rw [hY]
        refine bodyPost_ret (v := .tuple #[.agg #[.string ⟨#[]⟩, .slice none 0 0, .slice none 0 0], .bool false]) (by simp [results, Tryz.results11, go_sem, z0, z1, z2]) rfl ?_
        exact rpZero HZ.out (by rw [hD]; exact HBd.out.grown hg hsd (fun k e => by injection e with e; omega))
      · have HP : Hid (pkgB (nm, ims, fs) = true) := hp
        clear hp
        go_wp2_with fail
        refine HC.mono ?_
        rintro e w5 ⟨rfl, hb5⟩
        rw [HP.out]
        replace st := st.below hb5
        replace p0 := st.p0
        replace p1 := st.p1
        replace p2 := st.p2
        clear HC hb5
        have HC2 := specShowP nm ia ims.length ic fa xs.length fc ims fs w5 (HRDS.out st).2 (HRDS.out st).1 HP.out
        go_wp2_with fail
        refine HC2.mono ?_
        rintro e w6 ⟨rfl, hb6⟩
        replace st := st.below hb6
        replace p0 := st.p0
        replace p1 := st.p1
        replace p2 := st.p2
        have r0 := st.r0
        have r1 := st.r1
        have r2 := st.r2
        have f0 := st.rf 0
        have f1 := st.rf 1
        have f2 := st.rf 2
        have hsd : D ≤ w6.heap.size := by have := st.bs; have := st.db; omega
        have HBd : Hid (Below D w w6) := st.b
        clear HC2 hb6
        obtain ⟨A, hA⟩ : ∃ A, showP (nm, ims, fs) = A := ⟨_, rfl⟩
        rw [hA]
        by_cases hAl : A = l
        · have HY : Hid (readPB l = true ∧ readPV l = (nm, ims, fs)) := rp_yes hlen2 HE.out HP.out (hA.trans hAl)
          subst hAl
          have hself : (A == A) = true := by simp
          have HSTE : Hid (RdSt w6 w D (D + 1) B gL ls nm ims xs ia ic fa fc) := st
          clear hA st
          go_wp2
          obtain ⟨Y, hY, z0, z1, z2, hg⟩ := set3 (.string ⟨nm.toArray⟩) (.slice ia ims.length ic) (.slice fa xs.length fc) r0 r1 r2
          rw [hY]
          refine bodyPost_ret (v := .tuple #[.agg #[.string ⟨nm.toArray⟩, .slice ia ims.length ic, .slice fa xs.length fc], .bool true]) (by simp [results, Tryz.results11, go_sem, z0, z1, z2]) rfl ?_
          have se := HSTE.out
          have hdw : w.heap.size ≤ B := by have := se.db; omega
          exact ⟨.slice ia ims.length ic, .slice fa xs.length fc, xs, by rw [HY.out.1, HY.out.2], by rw [HY.out.2]; exact HFS.out, by rw [HY.out.2]; exact own_base (se.oi.kept hg (own_off se.oi se.db)) hdw, (se.fo.kept hg (own_off se.fo.row se.db) (fun y hy => own_off (se.fo.trees y hy) se.db)).base hdw, by rw [hD]; exact HBd.out.grown hg hsd (fun k e => by injection e with e; omega)⟩
        · have HZ : Hid (readPB l = false ∧ readPV l = pk0) := rp_bad HE.out (Or.inr (by rw [hA]; exact hAl))
          have hne1 : (A == l) = false := beq_eq_false_iff_ne.2 hAl
          have hne2 : (A != l) = true := bne_iff_ne.2 hAl
          clear hA hAl st
          go_wp2
          obtain ⟨Y, hY, z0, z1, z2, hg⟩ := set3 (.string ⟨#[]⟩) (.slice none 0 0) (.slice none 0 0) r0 r1 r2
          rw [hY]
          refine bodyPost_ret (v := .tuple #[.agg #[.string ⟨#[]⟩, .slice none 0 0, .slice none 0 0], .bool false]) (by simp [results, Tryz.results11, go_sem, z0, z1, z2]) rfl ?_
          exact rpZero HZ.out (by rw [hD]; exact HBd.out.grown hg hsd (fun k e => by injection e with e; omega))
    · have hk2 : k < ls.length := by omega
      have c0 := st.lines k hk2
      have hxl := HLL.out k
      obtain ⟨x, hx⟩ : ∃ x, ls.getD k [] = x := ⟨_, rfl⟩
      have HX : Hid (ls.getD k [] = x) := hx
      rw [hx] at c0 hxl
      clear hx
      go_wp2_with fail
      refine (specSplit x 32 32 _ (by rfl) (by omega)).mono ?_
      rintro e w4 ⟨g2, cp2, rfl, hown2, hb4⟩
      replace st := st.below hb4
      have hbnd := splitGo_len 32 x []
      have hne := splitGo_ne 32 x []
      have hpos : 0 < (splitL 32 x).length := List.length_pos_iff.2 hne
      change (splitL 32 x).length ≤ x.length + 1 at hbnd
      have hw1 := word_len 32 x 1
      have hw2 := word_len 32 x 2
      have HF := func_line (x := x)
      have HRL : Hid (∀ p : Pk, readLn p x = (if (splitL 32 x).getD 0 [] = kwPackage ∧ (splitL 32 x).length = 2 then some ((splitL 32 x).getD 1 [], p.2.1, p.2.2)
        else if (splitL 32 x).getD 0 [] = kwImport ∧ (splitL 32 x).length = 2 then some (p.1, p.2.1 ++ [(splitL 32 x).getD 1 []], p.2.2)
        else if (splitL 32 x).getD 0 [] = kwFunc ∧ 3 < (splitL 32 x).length then
          (if readOk (x.drop (((splitL 32 x).getD 1 []).length + ((splitL 32 x).getD 2 []).length + 7)) = true then
            some (p.1, p.2.1, p.2.2 ++ [((splitL 32 x).getD 1 [], readV ((splitL 32 x).getD 2 []), readTV (x.drop (((splitL 32 x).getD 1 []).length + ((splitL 32 x).getD 2 []).length + 7)))])
          else none)
        else none)) := (fun p => rfl : ∀ p : Pk, _)
      obtain ⟨ws, hws⟩ : ∃ ws, splitL 32 x = ws := ⟨_, rfl⟩
      rw [hws] at hown2 hbnd hpos hw1 hw2 HF HRL ⊢
      clear hws hne
      have cw := fun j (hj : j < ws.length) => str_cellsD hown2 rfl j hj
      have hcap2 := own_cap hown2
      obtain ⟨m, hm⟩ : ∃ m, ws.length = m := ⟨_, rfl⟩
      rw [hm] at hown2 hbnd hpos HF HRL cw hcap2 ⊢
      clear hm
      have d0 := cw 0 hpos
      obtain ⟨y0, hy0⟩ : ∃ y, ws.getD 0 [] = y := ⟨_, rfl⟩
      obtain ⟨y1, hy1⟩ : ∃ y, ws.getD 1 [] = y := ⟨_, rfl⟩
      obtain ⟨y2, hy2⟩ : ∃ y, ws.getD 2 [] = y := ⟨_, rfl⟩
      rw [hy0] at d0 HF HRL
      rw [hy1] at HF HRL hw1
      rw [hy2] at HF HRL hw2
      have CW : Hid (∀ j, j < m → w4.cell? ⟨g2, j, none⟩ = some (.string ⟨(ws.getD j []).toArray⟩)) := cw
      have r0 := st.r0
      have r1 := st.r1
      have r2 := st.r2
      have f0 := st.rf 0
      have f1 := st.rf 1
      have f2 := st.rf 2
      have hsd : D ≤ w4.heap.size := by have := st.bs; have := st.db; omega
      have HBd : Hid (Below D w w4) := st.b
      clear cw hown2 hb4 c0
      by_cases hA : y0 = [112, 97, 99, 107, 97, 103, 101]
      · subst hA
        have nI : ([112, 97, 99, 107, 97, 103, 101] : List UInt8) ≠ kwImport := by decide
        have nF : ([112, 97, 99, 107, 97, 103, 101] : List UInt8) ≠ kwFunc := by decide
        by_cases hm2 : m = 2
        · subst hm2
          have d1 := CW.out 1 (by omega)
          rw [hy1] at d1
          have p0 := st.p0
          have pf0 := st.pf 0
          have HST1 : Hid (RdSt (w4.setCell ⟨D + 1, 0, none⟩ (.string ⟨y1.toArray⟩)) w D (D + 1) B gL ls y1 ims xs ia ic fa fc) := st.name y1
          have HG1 : Hid (readLs pk0 ls = readLs (y1, ims, xs.map (·.1)) (ls.drop (k + 1))) := by exact (by rw [HG.out]; exact readLs_some hk2 (by rw [HX.out, HRL.out, if_pos ⟨rfl, rfl⟩]) : readLs pk0 ls = readLs (y1, ims, xs.map (·.1)) (ls.drop (k + 1)))
          have HSH1 : Hid (ShortP y1 ims (xs.map (·.1))) := (⟨by omega, HSH.out.i, HSH.out.f⟩ : ShortP y1 ims (xs.map (·.1)))
          clear HRL HF HG CW st HSH r0 r1 r2 f0 f1 f2 HBd
          go_wp2
          go_roundw
          case rel => exact ⟨k + 1, y1, ims, xs, ia, ic, fa, fc, by go_num, by omega, by omega, by omega, HST1, HG1, HSH1⟩
          case measure => simp [intOf]; omega
        · have dm : ((m : Int) == 2) = false := beq_eq_false_iff_ne.2 (by omega)
          have HZ : Hid (readPB l = false ∧ readPV l = pk0) := rp_none (by rw [HLS.out, HG.out]; exact readLs_none hk2 (by rw [HX.out, HRL.out]; rw [if_neg (fun h => hm2 h.2), if_neg (fun h => nI h.1), if_neg (fun h => nF h.1)]))
          clear HRL HF HG CW st
          go_wp2
          obtain ⟨Y, hY, z0, z1, z2, hg⟩ := set3 (.string ⟨#[]⟩) (.slice none 0 0) (.slice none 0 0) r0 r1 r2
          rw [hY]
          refine bodyPost_ret (v := .tuple #[.agg #[.string ⟨#[]⟩, .slice none 0 0, .slice none 0 0], .bool false]) (by simp [results, Tryz.results11, go_sem, z0, z1, z2]) rfl ?_
          exact rpZero HZ.out (by rw [hD]; exact HBd.out.grown hg hsd (fun k e => by injection e with e; omega))
      have dA : (y0 == [112, 97, 99, 107, 97, 103, 101]) = false := beq_eq_false_iff_ne.2 hA
      by_cases hI : y0 = [105, 109, 112, 111, 114, 116]
      · subst hI
        have nF : ([105, 109, 112, 111, 114, 116] : List UInt8) ≠ kwFunc := by decide
        by_cases hm2 : m = 2
        · subst hm2
          have d1 := CW.out 1 (by omega)
          rw [hy1] at d1
          have p1 := st.p1
          obtain ⟨g', c', Y, hrun, yp1, ypf, hstY⟩ := st.drew.import y1 (by omega)
          have HST1 : Hid (RdSt (Y.setCell ⟨D + 1, 1, none⟩ (.slice (some ⟨g', 0, none⟩) (ims.length + 1) c')) w D (D + 1) B gL ls nm (ims ++ [y1]) xs (some ⟨g', 0, none⟩) c' fa fc) := hstY
          have HG1 : Hid (readLs pk0 ls = readLs (nm, ims ++ [y1], xs.map (·.1)) (ls.drop (k + 1))) := by exact (by rw [HG.out]; exact readLs_some hk2 (by rw [HX.out, HRL.out, if_neg (fun h => hA h.1), if_pos ⟨rfl, rfl⟩]) : readLs pk0 ls = readLs (nm, ims ++ [y1], xs.map (·.1)) (ls.drop (k + 1)))
          have HSH1 : Hid (ShortP nm (ims ++ [y1]) (xs.map (·.1))) := HSH.out.imp (by omega)
          have ypf1 := ypf 1
          have p1a : (w4.alloc (.cells #[.string ⟨y1.toArray⟩] 9)).cell? ⟨D + 1, 1, none⟩ = some (.slice ia ims.length ic) := cell_alw _ st.p1
          have d1a : (w4.alloc (.cells #[.string ⟨y1.toArray⟩] 9)).cell? ⟨g2, 1, none⟩ = some (.string ⟨y1.toArray⟩) := cell_alw _ d1
          have hs4 : w4.drew.heap.size = w4.heap.size := rfl
          rw [hs4] at hrun
          change (Builtin.append_ _ _ _).run Tryz.prog (w4.alloc (.cells #[.string ⟨y1.toArray⟩] 9)).drew = _ at hrun
          clear HRL HF HG CW st HSH r0 r1 r2 f0 f1 f2 HBd hs4 ypf hstY
          go_wp2
          go_region_law (first | (refine step_append_run (by rfl) (.tmp 56) (.tmp 60) 24 (by rfl) _ _ _ (by rfl) (by rfl) hrun ?_))
          all_goals
            go_wp2
            go_roundw
            case rel => exact ⟨k + 1, nm, ims ++ [y1], xs, some ⟨g', 0, none⟩, c', fa, fc, by go_num, by omega, by rw [List.length_append, List.length_singleton]; omega, by omega, HST1, HG1, HSH1⟩
            case measure => simp [intOf]; omega
        · have dm : ((m : Int) == 2) = false := beq_eq_false_iff_ne.2 (by omega)
          have HZ : Hid (readPB l = false ∧ readPV l = pk0) := rp_none (by rw [HLS.out, HG.out]; exact readLs_none hk2 (by rw [HX.out, HRL.out]; rw [if_neg (fun h => hA h.1), if_neg (fun h => hm2 h.2), if_neg (fun h => nF h.1)]))
          clear HRL HF HG CW st
          go_wp2
          obtain ⟨Y, hY, z0, z1, z2, hg⟩ := set3 (.string ⟨#[]⟩) (.slice none 0 0) (.slice none 0 0) r0 r1 r2
          rw [hY]
          refine bodyPost_ret (v := .tuple #[.agg #[.string ⟨#[]⟩, .slice none 0 0, .slice none 0 0], .bool false]) (by simp [results, Tryz.results11, go_sem, z0, z1, z2]) rfl ?_
          exact rpZero HZ.out (by rw [hD]; exact HBd.out.grown hg hsd (fun k e => by injection e with e; omega))
      have dI : (y0 == [105, 109, 112, 111, 114, 116]) = false := beq_eq_false_iff_ne.2 hI
      by_cases hF : y0 = [102, 117, 110, 99]
      · subst hF
        by_cases hm3 : 3 < (m : Int)
        · have d1 := CW.out 1 (by omega)
          have d2 := CW.out 2 (by omega)
          rw [hy1] at d1
          rw [hy2] at d2
          have hfl := HF rfl (by omega)
          have HRd := specRead y2
          have cL := st.lines k hk2
          rw [HX.out] at cL
          have h1m : (1 : Int) < (m : Int) := by omega
          have h2m : (2 : Int) < (m : Int) := by omega
          go_wp2_with fail
          refine (specRead y2 _ (by omega)).mono ?_
          rintro e w5 ⟨rfl, rfl⟩
          clear HRd
          generalize hrv : readV y2 = rv at HRL ⊢
          generalize readB y2 = rb
          obtain ⟨q1, hq1⟩ : ∃ q : Nat, y1.length + y2.length = q := ⟨_, rfl⟩
          obtain ⟨q2, hq2⟩ : ∃ q : Nat, q1 + 7 = q := ⟨_, rfl⟩
          have hqa : IntKind.i64.wrap ((y1.length : Int) + (y2.length : Int)) = (q1 : Int) := by rw [IntKind.wrap_i64]; omega
          have hqb : IntKind.i64.wrap ((q1 : Int) + 7) = (q2 : Int) := by rw [IntKind.wrap_i64]; omega
          have hq2x : (q2 : Int) ≤ (x.length : Int) := by omega
          have hq20 : (0 : Int) ≤ (q2 : Int) := by omega
          have htk : List.take (x.length - q2) (List.drop q2 x) = List.drop q2 x := List.take_of_length_le (by rw [List.length_drop]; omega)
          have hext := ext_list
          rw [show y1.length + y2.length + 7 = q2 by omega] at HRL
          have hwl1 : (y1.length : Int) ≤ 20000 := by omega
          have hwl2 : (y2.length : Int) ≤ 20000 := by omega
          clear hq1 hq2 HF r0 r1 r2 f0 f1 f2 HBd hfl
          go_wp2_with fail
          replace st := st.drew
          (go_region_held3 (fun w' => w'.cell? ⟨gL, k, none⟩ = some (.string ⟨x.toArray⟩) ∧ w'.cell? ⟨g2, 1, none⟩ = some (.string ⟨y1.toArray⟩) ∧ w'.cell? ⟨g2, 2, none⟩ = some (.string ⟨y2.toArray⟩)) (go_keep) (first | (go_at_call 36; refine (specReadTree (x.drop q2) _).mono ?_; rintro e wn ⟨v, rfl, hown, hbn⟩; obtain ⟨_, av, cv, rfl, _⟩ := own_nodes hown; have hgx := st.bs; replace st := st.below hbn; replace cL := (hbn.cell (p := ⟨gL, k, none⟩) (World.block_lt_of_cell? _ ⟨gL, k, none⟩ cL)).trans cL; replace d1 := (hbn.cell (p := ⟨g2, 1, none⟩) (World.block_lt_of_cell? _ ⟨g2, 1, none⟩ d1)).trans d1; replace d2 := (hbn.cell (p := ⟨g2, 2, none⟩) (World.block_lt_of_cell? _ ⟨g2, 2, none⟩ d2)).trans d2; clear hbn)))
          all_goals
            have hown1 := own_base hown hgx
            have HOW : Hid (wn.ownsRow B 76 4 (.slice av (readTV (List.drop q2 x)).length cv) (readTV (List.drop q2 x)).length (nodesV (readTV (List.drop q2 x)))) := hown1
            have HTS : Hid ((readTV (List.drop q2 x)).length ≤ 1048576 ∧ ShortT (readTV (List.drop q2 x))) := readTV_short _
            clear hown hown1 hgx hext htk hqa hqb
            generalize readTV (List.drop q2 x) = T at HOW HTS HRL ⊢
            rcases hro : readOk (List.drop q2 x) with _ | _
            · have HZ : Hid (readPB l = false ∧ readPV l = pk0) := rp_none (by rw [HLS.out, HG.out]; exact readLs_none hk2 (by rw [HX.out, HRL.out, if_neg (fun h => hA h.1), if_neg (fun h => hI h.1), if_pos ⟨rfl, by omega⟩, if_neg (by rw [hro]; simp)]))
              have r0 := st.r0
              have r1 := st.r1
              have r2 := st.r2
              have f0 := st.rf 0
              have f1 := st.rf 1
              have f2 := st.rf 2
              have hsd : D ≤ wn.heap.size := by have := st.bs; have := st.db; omega
              have HBd : Hid (Below D w wn) := st.b
              clear HRL HG CW st hro
              go_wp2
              obtain ⟨Y, hY, z0, z1, z2, hg⟩ := set3 (.string ⟨#[]⟩) (.slice none 0 0) (.slice none 0 0) r0 r1 r2
              rw [hY]
              refine bodyPost_ret (v := .tuple #[.agg #[.string ⟨#[]⟩, .slice none 0 0, .slice none 0 0], .bool false]) (by simp [results, Tryz.results11, go_sem, z0, z1, z2]) rfl ?_
              exact rpZero HZ.out (by rw [hD]; exact HBd.out.grown hg hsd (fun k e => by injection e with e; omega))
            · have HG1 : Hid (readLs pk0 ls = readLs (nm, ims, (xs ++ [((y1, rv, T), av, cv)]).map (·.1)) (ls.drop (k + 1))) := by exact (by rw [HG.out, List.map_append]; exact readLs_some hk2 (by rw [HX.out, HRL.out, if_neg (fun h => hA h.1), if_neg (fun h => hI h.1), if_pos ⟨rfl, by omega⟩, if_pos hro]; rfl) : readLs pk0 ls = readLs (nm, ims, (xs ++ [((y1, rv, T), av, cv)]).map (·.1)) (ls.drop (k + 1)))
              have HSH1 : Hid (ShortP nm ims ((xs ++ [((y1, rv, T), av, cv)]).map (·.1))) := by exact (by rw [List.map_append]; exact HSH.out.fn (f := (y1, rv, T)) ⟨by show y1.length ≤ 1048576; omega, HTS.out.1, HTS.out.2⟩ : ShortP nm ims ((xs ++ [((y1, rv, T), av, cv)]).map (·.1)))
              obtain ⟨g', c', Y, hrun, yp2, ypf, hstY⟩ := st.drew.func ((y1, rv, T), av, cv) (by exact HOW.out.drew) (by omega)
              have HST1 : Hid (RdSt (Y.setCell ⟨D + 1, 2, none⟩ (.slice (some ⟨g', 0, none⟩) (xs.length + 1) c')) w D (D + 1) B gL ls nm ims (xs ++ [((y1, rv, T), av, cv)]) ia ic (some ⟨g', 0, none⟩) c') := hstY
              have ypf2 := ypf 2
              have p2 := st.p2
              have p2a : (wn.alloc (.cells #[.string ⟨y1.toArray⟩, .int .i64 rv, .slice av T.length cv] 37)).cell? ⟨D + 1, 2, none⟩ = some (.slice fa xs.length fc) := cell_alw _ st.p2
              have d1a : (wn.alloc (.cells #[.string ⟨y1.toArray⟩, .int .i64 rv, .slice av T.length cv] 37)).cell? ⟨g2, 1, none⟩ = some (.string ⟨y1.toArray⟩) := cell_alw _ d1
              change (Builtin.append_ #[25, 25] 25 #[.slice fa xs.length fc, .slice (some ⟨wn.heap.size, 0, none⟩) 1 1]).run Tryz.prog (wn.alloc (.cells #[.string ⟨y1.toArray⟩, .int .i64 rv, .slice av T.length cv] 37)).drew = _ at hrun
              clear HRL HG CW st HSH HOW HTS hro ypf hstY cL d0 d2
              go_wp2
              go_region_law (first | (refine step_append_run (by rfl) (.tmp 103) (.tmp 110) 25 (by rfl) _ _ _ (by rfl) (by rfl) hrun ?_))
              all_goals
                go_wp2
                go_roundw
                case rel => exact ⟨k + 1, nm, ims, xs ++ [((y1, rv, T), av, cv)], ia, ic, some ⟨g', 0, none⟩, c', by go_num, by omega, by omega, by rw [List.length_append, List.length_singleton]; omega, HST1, HG1, HSH1⟩
                case measure => simp [intOf]; omega
        · have dm : ¬ (3 : Int) < (m : Int) := hm3
          have HZ : Hid (readPB l = false ∧ readPV l = pk0) := rp_none (by rw [HLS.out, HG.out]; exact readLs_none hk2 (by rw [HX.out, HRL.out]; rw [if_neg (fun h => hA h.1), if_neg (fun h => hI h.1), if_neg (fun h => hm3 (by have := h.2; omega))]))
          clear HRL HF HG CW st
          go_wp2
          obtain ⟨Y, hY, z0, z1, z2, hg⟩ := set3 (.string ⟨#[]⟩) (.slice none 0 0) (.slice none 0 0) r0 r1 r2
          rw [hY]
          refine bodyPost_ret (v := .tuple #[.agg #[.string ⟨#[]⟩, .slice none 0 0, .slice none 0 0], .bool false]) (by simp [results, Tryz.results11, go_sem, z0, z1, z2]) rfl ?_
          exact rpZero HZ.out (by rw [hD]; exact HBd.out.grown hg hsd (fun k e => by injection e with e; omega))
      have dF : (y0 == [102, 117, 110, 99]) = false := beq_eq_false_iff_ne.2 hF
      have HZ : Hid (readPB l = false ∧ readPV l = pk0) := rp_none (by rw [HLS.out, HG.out]; exact readLs_none hk2 (by rw [HX.out, HRL.out]; rw [if_neg (fun h => hA h.1), if_neg (fun h => hI h.1), if_neg (fun h => hF h.1)]))
      clear HRL HF HG CW st
      go_wp2
      obtain ⟨Y, hY, z0, z1, z2, hg⟩ := set3 (.string ⟨#[]⟩) (.slice none 0 0) (.slice none 0 0) r0 r1 r2
      rw [hY]
      refine bodyPost_ret (v := .tuple #[.agg #[.string ⟨#[]⟩, .slice none 0 0, .slice none 0 0], .bool false]) (by simp [results, Tryz.results11, go_sem, z0, z1, z2]) rfl ?_
      exact rpZero HZ.out (by rw [hD]; exact HBd.out.grown hg hsd (fun k e => by injection e with e; omega))

end Go.Proofs.YtibppdepgoiojaaGreatDoor

/-! The contracts of chapter 6's specification: l6Parts, PartsOf. -/
namespace Go.Proofs.YtibppdepgoiojaaGreatDoor
open Go.RowKit

/-- What a row of numbers holds. -/
def intsV (l : List Int) : List Value := l.map (fun i => Value.int .i64 i)
theorem intsV_len (l : List Int) : (intsV l).length = l.length := by simp [intsV]
theorem intsV_append (x y : List Int) : intsV (x ++ y) = intsV x ++ intsV y := by simp [intsV]
theorem intsV_one (l : List Int) : ∀ u ∈ intsV l, u.oneCell' = true := by
  intro u hu
  simp only [intsV, List.mem_map] at hu
  obtain ⟨i, _, rfl⟩ := hu
  rfl
theorem infoInt : (Tryz.prog.info? 2).map (fun i => (i.zero, i.size, i.bytes)) = some (some (.int .i64 0), 1, 8) := by kernel_rfl

theorem new_int (w : World) (n : Int) : ∀ j u, (intsV [n])[j]? = some u → (w.alloc (.cells #[.int .i64 n] 2)).cell? ((⟨w.heap.size, 0, none⟩ : Addr).add j) = some u := by
  intro j u hu
  have e : (⟨w.heap.size, 0, none⟩ : Addr).add j = ⟨w.heap.size, j, none⟩ := by unfold Addr.add; split <;> simp_all
  rw [e]
  match j, hu with
  | 0, hu => simp [intsV] at hu; subst hu; simp
  | j + 1, hu => simp [intsV] at hu

theorem endV_le (l : List Nd) (a : Int) : -1 ≤ endV l a ∧ endV l a ≤ l.length := by
  by_cases h : 0 ≤ endV l a
  · by_cases ha : a < 0 ∨ (l.length : Int) ≤ a
    · rw [endV_out l a ha] at h; omega
    · obtain ⟨k, rfl⟩ : ∃ k : Nat, a = (k : Int) := Int.eq_ofNat_of_zero_le (by omega)
      have := end_parts h
      omega
  · by_cases ha : a < 0 ∨ (l.length : Int) ≤ a
    · rw [endV_out l a ha]; omega
    · obtain ⟨k, rfl⟩ : ∃ k : Nat, a = (k : Int) := Int.eq_ofNat_of_zero_le (by omega)
      rw [endV_nat] at h ⊢
      unfold endN at h ⊢
      rw [if_pos (by omega)] at h ⊢
      cases he : endGo (l.drop k) 1 with
      | none => simp only; omega
      | some d => rw [he] at h; simp only at h; omega



end Go.Proofs.YtibppdepgoiojaaGreatDoor
