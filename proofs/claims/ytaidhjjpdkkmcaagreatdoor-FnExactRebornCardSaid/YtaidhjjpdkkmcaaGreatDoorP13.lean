/-
  Parts of one proof, one behind the other: CheckS3, CheckE, ErrI, TreeS6, Math6I, WordI.
-/
import Derived.Test.YtaidhjjpdkkmcaaGreatDoorP12
import Derived.Test.YtaidhjjpdkkmcaaGreatDoorP1
import Derived.LaidEql
import Derived.Stop.Asserts
import Derived.RowKitTokens
import Derived.Test.YtaidhjjpdkkmcaaGreatDoorP9
import Derived.Test.YtaidhjjpdkkmcaaGreatDoorP3
import Derived.Test.YtaidhjjpdkkmcaaGreatDoorP10
import Derived.Lib.ItoaNum
import Derived.Lib.Join
import Derived.Lib.Bytealg
import Derived.Test.YtaidhjjpdkkmcaaGreatDoorP2

/-! The contracts of chapter 9's specification: the first that is wrong in a project. -/
namespace Go.Proofs.YtaidhjjpdkkmcaaGreatDoor
open Go.RowKit

def fltVal (f : Flt) : Value := .agg #[.int .i64 f.1, .string ⟨f.2.1.toArray⟩, .string ⟨f.2.2.toArray⟩]
/-- The box of the answer. -/
def FBox (Z : World) (R : Nat) : Prop := Box3 Z R (.int .i64 0) (.string ⟨#[]⟩) (.string ⟨#[]⟩) ∧ ∀ j, Z.frozen? ⟨R, j, none⟩ = false
theorem FBox.below {Z Y : World} {R : Nat} (h : FBox Z R) (hb : Below Z.heap.size Z Y) : FBox Y R := ⟨h.1.below hb, fun j => (hb.frozen (p := ⟨R, j, none⟩) h.1.lt).trans (h.2 j)⟩
theorem FBox.new (w : World) (t : TypeId) : FBox (w.alloc (.cells #[.int .i64 0, .string ⟨#[]⟩, .string ⟨#[]⟩] t)) w.heap.size ∧ Below w.heap.size w (w.alloc (.cells #[.int .i64 0, .string ⟨#[]⟩, .string ⟨#[]⟩] t)) := by
 obtain ⟨h1, h2⟩ := Box3.new w (.int .i64 0) (.string ⟨#[]⟩) (.string ⟨#[]⟩) t
 exact ⟨⟨h1, fun j => World.frozen?_alloc_at _ _ _ _ rfl⟩, h2⟩
/-- The answer is written. -/
theorem FBox.put {Z w : World} {R : Nat} (h : FBox Z R) (hw : Below w.heap.size w Z) (hR : w.heap.size ≤ R) (f : Flt) : ∃ Y, ((Z.setCell ⟨R, 0, none⟩ (.int .i64 f.1)).setCell ⟨R, 1, none⟩ (.string ⟨f.2.1.toArray⟩)).setCell ⟨R, 2, none⟩ (.string ⟨f.2.2.toArray⟩) = Y ∧ Y.cell? ⟨R, 0, none⟩ = some (.int .i64 f.1) ∧ Y.cell? ⟨R, 1, none⟩ = some (.string ⟨f.2.1.toArray⟩) ∧ Y.cell? ⟨R, 2, none⟩ = some (.string ⟨f.2.2.toArray⟩) ∧ Below w.heap.size w Y := by
 obtain ⟨Y, hY, y0, y1, y2, hg⟩ := set3 (.int .i64 f.1) (.string ⟨f.2.1.toArray⟩) (.string ⟨f.2.2.toArray⟩) h.1.c0 h.1.c1 h.1.c2
 exact ⟨Y, hY, y0, y1, y2, hw.grown hg hw.size (fun k e => by injection e with e; have e2 : R = k := e; omega)⟩

/-- As far as i: the order, and behind it those that are left out. -/
def ordTo (ps : List Pk) (i : Nat) : List (List UInt8) := order8 ps ++ ((names8 ps).take i).filter (fun x => decide (¬ x ∈ order8 ps))
theorem ordTo_zero (ps : List Pk) : ordTo ps 0 = order8 ps := by simp [ordTo]
theorem ordTo_all {ps : List Pk} {i : Nat} (h : ps.length ≤ i) : ordTo ps i = ord9 ps := by
 unfold ordTo ord9
 rw [List.take_of_length_le (by simpa [names8] using h)]
theorem ordTo_step {ps : List Pk} {i : Nat} (hi : i < ps.length) : ordTo ps (i + 1) = if nmAt ps i ∈ order8 ps then ordTo ps i else ordTo ps i ++ [nmAt ps i] := by
 unfold ordTo
 have h1 : i < (names8 ps).length := by simpa [names8] using hi
 rw [List.take_succ_eq_append_getElem h1, nmAt_el hi, List.filter_append]
 by_cases h : nmAt ps i ∈ order8 ps
 ·
  rw [if_pos h]; simp [h]
 ·
  rw [if_neg h]; simp [h]
theorem ordTo_mem {ps : List Pk} (hn : (names8 ps).Nodup) {i : Nat} (hi : i < ps.length) : nmAt ps i ∈ ordTo ps i ↔ nmAt ps i ∈ order8 ps := by
 unfold ordTo
 rw [List.mem_append, List.mem_filter]
 refine ⟨fun h => h.elim id (fun h => ?_), Or.inl⟩
 obtain ⟨k, hk, e⟩ := List.mem_iff_getElem.1 h.1
 rw [List.length_take] at hk
 rw [List.getElem_take, nmAt_el (by simp [names8] at hk; omega)] at e
 have := nmAt_inj hn (by simp [names8] at hk; omega) hi e
 omega
set_option maxHeartbeats 8000000 in
set_option maxRecDepth 100000 in
theorem specFault9 (a : Option Addr) (len cap : Nat) (ps : List Pk) (w : World) (hl : PkgsIn w a len ps) (hsh : ShortPs ps) (hp : projB ps = true) :
 Calls Tryz.prog 102 #[.slice a len cap] w fun e w' => e = .returned (fltVal (fault9 ps)) ∧ Below w.heap.size w w' := by
 obtain rfl : ps.length = len := hl.1
 have hn8 : ps.length ≤ 8 := (projB_parts hp).2.1.2
 obtain ⟨fb, hb0⟩ := FBox.new w 106
 obtain ⟨W0, hW0⟩ : ∃ W0, w.alloc (.cells #[.int .i64 0, .string ⟨#[]⟩, .string ⟨#[]⟩] 106) = W0 := ⟨_, rfl⟩
 rw [hW0] at fb hb0
 have hs0 : W0.heap.size = w.heap.size + 1 := by rw [← hW0]; simp
 have HP0 : Hid (PkgsIn W0 a ps.length ps) := hl.below hb0
 have HF0 : Hid (FBox W0 w.heap.size) := fb
 have HB0 : Hid (Below w.heap.size w W0) := hb0
 have HPJ : Hid (projB ps = true) := hp
 have HND : Hid ((names8 ps).Nodup) := (projB_parts hp).1.nodup
 have HSH : Hid (ShortPs ps) := hsh
 have HOr : Hid (_) := specOrder8 a ps.length cap ps W0 HP0.out hp
 have hol := (order8_end hp).1.len
 clear fb hb0 hl hsh hp
 go_enter Tryz.func102, Tryz.ntmps102
 go_wp2_with fail
 refine Calls.mono HOr.out ?_
 rintro e w1 ⟨v1, rfl, ho1, hb1⟩
 obtain ⟨done, hdone⟩ : ∃ done, (order8 ps).length = done := ⟨_, rfl⟩
 rw [hdone] at ho1 hol
 obtain ⟨_, oa, oc, rfl, _⟩ := own_texts ho1
 have HDn : Hid ((order8 ps).length = done) := hdone
 have HO1 : Hid (w1.ownsRow W0.heap.size 9 1 (.slice oa done oc) done (strV (ordTo ps 0))) := by exact (by rw [ordTo_zero]; exact ho1 : w1.ownsRow W0.heap.size 9 1 (.slice oa done oc) done (strV (ordTo ps 0)))
 have HB1 : Hid (Below W0.heap.size W0 w1) := hb1
 clear HOr ho1 hb1 hdone
 go_wp2
 go_loopw [3, 5] (fun ov iv wx => ∃ (i m : Nat) (oa : Option Addr) (oc : Nat), ov = .slice oa m oc ∧ iv = .int .i64 (i : Int) ∧ i ≤ ps.length ∧ m ≤ 8 + i ∧ Hid (wx.ownsRow W0.heap.size 9 1 (.slice oa m oc) m (strV (ordTo ps i))) ∧ Hid (Below W0.heap.size W0 wx)) (fun _ iv _ => ps.length - (intOf iv).toNat)
 case atStart => exact ⟨0, done, _, oc, rfl, rfl, by omega, by omega, HO1, HB1⟩
 case round =>
  obtain ⟨i, m, oa, oc, rfl, rfl, hi, hm, HO, HB⟩ := hrel
  clear HO1 HB1
  by_cases hlt : (i : Int) < (ps.length : Int)
  ·
   have hi2 : i < ps.length := by omega
   obtain ⟨b, off, rfl, _, c0, _⟩ := (HP0.out.below HB.out).2 i hi2
   obtain ⟨_, oa', oc', he, hoin⟩ := own_texts HO.out
   injection he with e1 _ e3
   subst e1
   subst e3
   have hst := ordTo_step hi2
   have hmm := ordTo_mem HND.out hi2
   have hnm : nmAt ps i = (ps.getD i pk0).1 := rfl
   obtain ⟨x, hx⟩ : ∃ x, (ps.getD i pk0).1 = x := ⟨_, rfl⟩
   rw [hnm, hx] at hst hmm
   rw [hx] at c0
   have HC : Hid (_) := specHas oa m oc (ordTo ps i) x wr hoin (by omega)
   clear hoin hnm hx
   by_cases hin : x ∈ order8 ps
   ·
    rw [decide_eq_true (hmm.2 hin)] at HC
    rw [if_pos hin] at hst
    have HO2 : Hid (wr.ownsRow W0.heap.size 9 1 (.slice oa m oc) m (strV (ordTo ps (i + 1)))) := by exact (by rw [hst]; exact HO.out : wr.ownsRow W0.heap.size 9 1 (.slice oa m oc) m (strV (ordTo ps (i + 1))))
    clear hin hst hmm
    go_wp2_with (go_at_call 75; refine Calls.mono HC.out ?_; rintro e w9 ⟨rfl, hw9⟩; obtain rfl := hw9.symm)
    go_roundw
    case rel => exact ⟨i + 1, m, oa, oc, rfl, by go_num, by omega, by omega, HO2, HB⟩
    case measure => simp [intOf]; omega
   ·
    rw [decide_eq_false (fun h => hin (hmm.1 h))] at HC
    rw [if_neg hin] at hst
    obtain ⟨v', Y, hr, ho, hg⟩ := push_text x HO.out HB.out.size (by omega)
    rw [← hst] at ho
    obtain ⟨g', c', rfl⟩ := own_some ho (by omega)
    have HOY : Hid (Y.ownsRow W0.heap.size 9 1 (.slice (some ⟨g', 0, none⟩) (m + 1) c') (m + 1) (strV (ordTo ps (i + 1)))) := ho
    have HBY : Hid (Below W0.heap.size W0 Y) := HB.out.grown hg HB.out.size (fun q e => (HO.out.lt q e).1)
    clear hin hst hmm ho hg
    go_wp2_with (first | (go_at_call 75; refine Calls.mono HC.out ?_; rintro e w9 ⟨rfl, hw9⟩; obtain rfl := hw9.symm) | (at_builtin; refine wpList_append_run rfl (.tmp 31) (.tmp 37) 37 rfl _ _ _ rfl rfl hr ?_; clear hr))
    go_roundw
    case rel => exact ⟨i + 1, m + 1, _, c', rfl, by go_num, by omega, by omega, HOY, HBY⟩
    case measure => simp [intOf]; omega
  ·
   have hall := ordTo_all (ps := ps) (i := i) (by omega)
   have hO := HO.out
   rw [hall] at hO
   obtain ⟨hol9, oa', oc', he, hoin⟩ := own_texts hO
   injection he with e1 _ e3
   subst e1
   subst e3
   obtain ⟨V, hV⟩ : ∃ V, V = wr := ⟨_, rfl⟩
   subst hV
   obtain ⟨l, hle⟩ : ∃ l, ord9 ps = l := ⟨_, rfl⟩
   rw [hle] at hoin hol9
   have HZ : Hid (∀ Z, Below V.heap.size V Z → TextsIn Z oa m l ∧ PkgsIn Z a ps.length ps ∧ FBox Z w.heap.size ∧ Below w.heap.size w Z) := fun Z hz => ⟨hoin.below hz, (HP0.out.below HB.out).below hz, (HF0.out.below HB.out).below hz, (HB0.out.trans (HB.out.mono HB0.out.size)).trans (hz.mono (HB0.out.trans (HB.out.mono HB0.out.size)).size)⟩
   have HV0 : Hid (fault9 ps = match fltGo ps done (l.drop 0) 0 with | some f => f | none => main9 ps) := by exact (by unfold fault9; rw [HDn.out, hle, List.drop_zero]; rfl : fault9 ps = match fltGo ps done (l.drop 0) 0 with | some f => f | none => main9 ps)
   have HNm : Hid (∀ k, k < m → l.getD k [] ∈ names8 ps) := fun k hk => by
    have h1 : l.getD k [] ∈ l := getD_mem8 (by omega)
    rw [← hle] at h1 ⊢
    exact (ord9_mem HPJ.out).1 h1
   have HLl : Hid (l.length = m) := hol9
   clear hall hO hoin hol9 hle HO HB HP0 HF0 HB0
   go_wp2
   go_loopw [6] (fun iv wx => ∃ i : Nat, iv = .int .i64 (i : Int) ∧ i ≤ m ∧ Hid (fault9 ps = match fltGo ps done (l.drop i) i with | some f => f | none => main9 ps) ∧ Hid (Below V.heap.size V wx)) (fun iv _ => m - (intOf iv).toNat)
   case atStart => exact ⟨0, rfl, by omega, HV0, Below.refl _ _⟩
   case round =>
    obtain ⟨i, rfl, hi, HG, HB⟩ := hrel
    clear HV0
    by_cases hlt : (i : Int) < (m : Int)
    ·
     have hi2 : i < m := by omega
     obtain ⟨hto, hpk, hfb, hbw⟩ := HZ.out wr HB.out
     obtain ⟨bo, oo, rfl, _, d0⟩ := hto.2 i hi2
     have hdr := fltGo_drop (ps := ps) (done := done) (l := l) (i := i) (by rw [HLl.out]; exact hi2)
     have hnm := HNm.out i hi2
     obtain ⟨x, hx⟩ : ∃ x, l.getD i [] = x := ⟨_, rfl⟩
     rw [hx] at d0 hdr hnm
     obtain ⟨j, hj, e8⟩ : ∃ j, j < ps.length ∧ at8 ps x = (j : Int) := by
      rcases at8_is ps x with ⟨_, e⟩ | ⟨j, hj, e, _, _⟩
      ·
       exact absurd hnm e
      ·
       exact ⟨j, hj, e⟩
     have hpo : pkOf ps x = ps.getD j pk0 := by unfold pkOf; rw [e8]; rfl
     rw [hpo] at hdr
     obtain ⟨b, off, rfl, hbl, c0, ia, il, ic, fa, fl, fc, c1, c2, hti, hfi⟩ := hpk.2 j hj
     have hsj := HSH.out j
     have hil : il ≤ 1048576 := by rw [← hti.1]; exact hsj.2.1
     have hfl : fl ≤ 1048576 := by rw [← hfi.1]; exact hsj.2.2.2.1
     have htl : ∀ q, ((ps.getD j pk0).2.2.getD q fn0).2.2.length ≤ 1048576 := fun q => (hsj.2.2.2.2 q).2.1
     obtain ⟨p, hpe⟩ : ∃ p, ps.getD j pk0 = p := ⟨_, rfl⟩
     rw [hpe] at c0 hti hfi htl hdr
     obtain ⟨nm, ims, fs⟩ := p
     simp only at c0 hti hfi htl
     have HA8 : Hid (∀ W y, PkgsIn W (some ⟨b, off, none⟩) ps.length ps → Calls Tryz.prog 74 #[.slice (some ⟨b, off, none⟩) ps.length cap, .string ⟨y.toArray⟩] W fun e w' => e = .returned (.int .i64 (at8 ps y)) ∧ w' = W) := fun W y hW => specAt8 (some ⟨b, off, none⟩) ps.length cap ps y W hW (by omega)
     obtain ⟨bx, hbx⟩ := Box3.new wr (.string ⟨nm.toArray⟩) (.slice ia il ic) (.slice fa fl fc) 51
     obtain ⟨X, hX⟩ : ∃ X, wr.alloc (.cells #[.string ⟨nm.toArray⟩, .slice ia il ic, .slice fa fl fc] 51) = X := ⟨_, rfl⟩
     obtain ⟨E, hE⟩ : ∃ E, wr.heap.size = E := ⟨_, rfl⟩
     rw [hX] at bx hbx
     rw [hE] at bx
     have HBX : Hid (Below V.heap.size V X) := HB.out.trans (hbx.mono HB.out.size)
     have HY : Hid (∀ Z, Below X.heap.size X Z → Box3 Z E (.string ⟨nm.toArray⟩) (.slice ia il ic) (.slice fa fl fc) ∧ TextsIn Z ia il ims ∧ FuncsIn Z fa fl fs ∧ Below V.heap.size V Z) := fun Z hz => ⟨bx.below hz, (hti.below hbx).below hz, (hfi.below hbx).below hz, HBX.out.trans (hz.mono HBX.out.size)⟩
     have HAx : Hid (_) := HA8.out wr x hpk
     rw [e8] at HAx
     have hjz : (j : Int) < (ps.length : Int) := by omega
     have HDr : Hid (_) := hdr
     rw [HDr.out] at HG
     obtain ⟨o0, o1, o2⟩ := bx
     clear hto hpk hfb hbw hbx hti hfi hpo hpe hsj e8 hx hdr HDr hnm
     go_wp2_with fail
     refine Calls.mono HAx.out ?_
     rintro e w9 ⟨rfl, hw9⟩
     obtain rfl := hw9.symm
     go_wp2
     clear c0 c1 c2 d0
     go_loopw [8] (fun kv wx => ∃ k : Nat, kv = .int .i64 (k : Int) ∧ k ≤ il ∧ Hid (∀ q, q < k → 0 ≤ at8 ps (ims.getD q [])) ∧ wx = X) (fun kv _ => il - (intOf kv).toNat)
     case atStart => exact ⟨0, rfl, by omega, (fun q hq => by omega), rfl⟩
     case round =>
      obtain ⟨k, rfl, hk, HA, hwx⟩ := hrel
      obtain rfl := hwx.symm
      by_cases hkl : (k : Int) < (il : Int)
      ·
       have hk2 : k < il := by omega
       obtain ⟨_, hti, _, hbv⟩ := HY.out X (Below.refl _ _)
       obtain ⟨_, hpk, hfb, hbw⟩ := HZ.out X hbv
       have himl := hti.1
       obtain ⟨bi, oi, rfl, _, d1⟩ := hti.2 k hk2
       have HAk : Hid (_) := HA8.out X (ims.getD k []) hpk
       obtain ⟨y, hy⟩ : ∃ y, ims.getD k [] = y := ⟨_, rfl⟩
       rw [hy] at d1 HAk
       by_cases hneg : at8 ps y < 0
       ·
        have hms : miss9 ps (nm, ims, fs) := ⟨y, by rw [← hy]; simp [List.getD, show k < ims.length by omega], hneg⟩
        have HR : Hid (fault9 ps = (1, nm, [])) := by exact (by rw [HG.out]; unfold pk9; rw [if_pos hms] : fault9 ps = (1, nm, []))
        have f0 := hfb.1.c0
        have f1 := hfb.1.c1
        have f2 := hfb.1.c2
        have z0 := hfb.2 0
        have z1 := hfb.2 1
        have z2 := hfb.2 2
        obtain ⟨Y, hY, y0, y1, y2, hbY⟩ := hfb.put hbw (Nat.le_refl _) (1, nm, [])
        simp only at hY y0 y1 y2
        have HE : Hid (Below w.heap.size w Y) := hbY
        clear hms hfb hbw hbv hpk hti hy hbY
        go_wp2_with (go_at_call 74; refine Calls.mono HAk.out ?_; rintro e w9 ⟨rfl, hw9⟩; obtain rfl := hw9.symm)
        refine bodyPost_ret (v := fltVal (1, nm, [])) (by unfold fltVal; simp [results, Tryz.results102, go_sem, y0, y1, y2]) rfl ?_
        exact ⟨by rw [HR.out], HE.out⟩
       ·
        have HA2 : Hid (∀ q, q < k + 1 → 0 ≤ at8 ps (ims.getD q [])) := fun q hq => by
         rcases Nat.lt_or_ge q k with h | h
         ·
          exact HA.out q h
         ·
          obtain rfl : q = k := by omega
          rw [hy]; omega
        clear hfb hbw hbv hpk hti hy
        go_wp2_with (go_at_call 74; refine Calls.mono HAk.out ?_; rintro e w9 ⟨rfl, hw9⟩; obtain rfl := hw9.symm)
        go_roundw
        case rel => exact ⟨k + 1, by go_num, by omega, HA2, trivial⟩
        case measure => simp [intOf]; omega
      ·
       obtain ⟨_, hti, _, hbv⟩ := HY.out X (Below.refl _ _)
       have hms : ¬ miss9 ps (nm, ims, fs) := by
        rintro ⟨y, hy, hneg⟩
        obtain ⟨q, hq, e⟩ := List.mem_iff_getElem.1 hy
        have e2 : ims.getD q [] = y := by simp [List.getD, hq, e]
        have hq2 : q < ims.length := hq
        have := hti.1
        have h9 := HA.out q (by omega)
        rw [e2] at h9
        omega
       by_cases hd : (done : Int) ≤ (i : Int)
       ·
        obtain ⟨_, _, hfb, hbw⟩ := HZ.out X hbv
        have HR : Hid (fault9 ps = (2, nm, [])) := by exact (by rw [HG.out]; unfold pk9; rw [if_neg hms, if_pos (by omega)] : fault9 ps = (2, nm, []))
        have f0 := hfb.1.c0
        have f1 := hfb.1.c1
        have f2 := hfb.1.c2
        have z0 := hfb.2 0
        have z1 := hfb.2 1
        have z2 := hfb.2 2
        obtain ⟨Y, hY, y0, y1, y2, hbY⟩ := hfb.put hbw (Nat.le_refl _) (2, nm, [])
        simp only at hY y0 y1 y2
        have HE : Hid (Below w.heap.size w Y) := hbY
        clear hms hfb hbw hbv hti hbY
        go_wp2
        refine bodyPost_ret (v := fltVal (2, nm, [])) (by unfold fltVal; simp [results, Tryz.results102, go_sem, y0, y1, y2]) rfl ?_
        exact ⟨by rw [HR.out], HE.out⟩
       ·
        have HG4 : Hid (fault9 ps = match fnsGo ps (nm, ims, fs) (fs.drop 0) 0 with | some f => f | none => (match fltGo ps done (l.drop (i + 1)) (i + 1) with | some f => f | none => main9 ps)) := by exact (by
         rw [HG.out]
         unfold pk9
         rw [if_neg hms, if_neg (by omega), List.drop_zero]
         rcases fnsGo ps (nm, ims, fs) fs 0 with _ | f
         ·
          rfl
         ·
          rfl : fault9 ps = match fnsGo ps (nm, ims, fs) (fs.drop 0) 0 with | some f => f | none => (match fltGo ps done (l.drop (i + 1)) (i + 1) with | some f => f | none => main9 ps))
        clear hms hti hbv HG
        go_wp2
        go_loopw [9] (fun kv wx => ∃ k : Nat, kv = .int .i64 (k : Int) ∧ k ≤ fl ∧ Hid (fault9 ps = match fnsGo ps (nm, ims, fs) (fs.drop k) k with | some f => f | none => (match fltGo ps done (l.drop (i + 1)) (i + 1) with | some f => f | none => main9 ps)) ∧ Hid (Below X.heap.size X wx)) (fun kv _ => fl - (intOf kv).toNat)
        case atStart => exact ⟨0, rfl, by omega, HG4, Below.refl _ _⟩
        case round =>
         obtain ⟨k4, rfl, hk4, HG5, HB5⟩ := hrel
         clear HG4
         obtain ⟨bx5, hti5, hfi5, hbv5⟩ := HY.out wr HB5.out
         obtain ⟨_, hpk5, hfb5, hbw5⟩ := HZ.out wr hbv5
         have p0 := bx5.c0
         have p1 := bx5.c1
         have p2 := bx5.c2
         by_cases hkf : (k4 : Int) < (fl : Int)
         ·
          have hk5 : k4 < fl := by omega
          have hfl5 := hfi5.1
          have hdr := fnsGo_drop (ps := ps) (p := (nm, ims, fs)) (k := k4) (by show k4 < fs.length; omega)
          simp only at hdr
          rw [hdr] at HG5
          have HFn : Hid (_) := specFunc9 (some ⟨b, off, none⟩) ps.length cap ps nm ia il ic fa fl fc ims fs k4 wr hpk5 hti5 hfi5 (by omega) hil hfl HSH.out hk5 htl
          obtain ⟨cc, hcc⟩ : ∃ cc, func9 ps (nm, ims, fs) k4 = cc := ⟨_, rfl⟩
          rw [hcc] at HFn HG5
          by_cases hc0 : cc = 0
          ·
           subst hc0
           rw [if_neg (by simp)] at HG5
           clear hdr hcc hpk5 hfb5 hbw5 hti5 hfi5 hbv5 bx5
           go_wp2_with (go_at_call 129; refine Calls.mono HFn.out ?_; rintro e w7 ⟨rfl, hb7⟩; have HB7 : Hid (Below X.heap.size X w7) := HB5.out.trans (hb7.mono HB5.out.size); clear hb7)
           go_roundw
           case rel => exact ⟨k4 + 1, by go_num, by omega, HG5, HB7⟩
           case measure => simp [intOf]; omega
          ·
           rw [if_pos hc0] at HG5
           have hcb : (cc != 0) = true := by rw [bne_iff_ne]; exact hc0
           have hcb2 : (cc == 0) = false := beq_eq_false_iff_ne.2 hc0
           clear hdr hcc hpk5 hfb5 hbw5 hti5 hfi5 hbv5 bx5
           go_wp2_with fail
           refine Calls.mono HFn.out ?_
           rintro e w7 ⟨rfl, hb7⟩
           have hB7 : Below X.heap.size X w7 := HB5.out.trans (hb7.mono HB5.out.size)
           obtain ⟨bx7, _, hfi7, hbv7⟩ := HY.out w7 hB7
           obtain ⟨_, _, hfb7, hbw7⟩ := HZ.out w7 hbv7
           obtain ⟨bf, of, rfl, _, s0, _⟩ := hfi7.2 k4 hk5
           obtain ⟨fnm, hfn⟩ : ∃ fnm, (fs.getD k4 fn0).1 = fnm := ⟨_, rfl⟩
           rw [hfn] at s0 HG5
           have HR : Hid (fault9 ps = (cc, nm, fnm)) := HG5.out
           have u0 := bx7.c0
           have u1 := bx7.c1
           have u2 := bx7.c2
           have f0 := hfb7.1.c0
           have f1 := hfb7.1.c1
           have f2 := hfb7.1.c2
           have z0 := hfb7.2 0
           have z1 := hfb7.2 1
           have z2 := hfb7.2 2
           obtain ⟨Y, hY, y0, y1, y2, hbY⟩ := hfb7.put hbw7 (Nat.le_refl _) (cc, nm, fnm)
           simp only at hY y0 y1 y2
           have HE : Hid (Below w.heap.size w Y) := hbY
           clear hb7 hB7 bx7 hfi7 hbv7 hfb7 hbw7 hbY hfn p0 p1 p2
           go_wp2_with fail
           go_region
           all_goals
            go_wp2
            refine bodyPost_ret (v := fltVal (cc, nm, fnm)) (by unfold fltVal; simp [results, Tryz.results102, go_sem, y0, y1, y2]) rfl ?_
            exact ⟨by rw [HR.out], HE.out.trans ⟨rfl, rfl, rfl, Nat.le_refl _, fun _ _ => rfl⟩⟩
         ·
          have HG6 : Hid (fault9 ps = match fltGo ps done (l.drop (i + 1)) (i + 1) with | some f => f | none => main9 ps) := by exact (by
           rw [HG5.out, List.drop_of_length_le (by have := hfi5.1; omega)]
           rfl : fault9 ps = match fltGo ps done (l.drop (i + 1)) (i + 1) with | some f => f | none => main9 ps)
          have HB6 : Hid (Below V.heap.size V wr) := hbv5
          clear hpk5 hfb5 hbw5 hti5 hfi5 hbv5 bx5 HG5
          go_wp2
          go_roundw
          case rel => exact ⟨i + 1, by go_num, by omega, HG6, HB6⟩
          case measure => simp [intOf]; omega
    ·
     have HG2 : Hid (fault9 ps = main9 ps) := by exact (by rw [HG.out, List.drop_of_length_le (by rw [HLl.out]; omega)]; rfl : fault9 ps = main9 ps)
     obtain ⟨_, hpk, hfb, hbw⟩ := HZ.out wr HB.out
     have HAm : Hid (Calls Tryz.prog 74 #[.slice a ps.length cap, .string ⟨#[109, 97, 105, 110]⟩] wr fun e w' => e = .returned (.int .i64 (at8 ps mainT)) ∧ w' = wr) := specAt8 a ps.length cap ps mainT wr hpk (by omega)
     rcases at8_is ps mainT with ⟨e8, _⟩ | ⟨j, hj, e8, _, _⟩
     ·
      have HR : Hid (fault9 ps = (5, mainT, mainT)) := by exact (by rw [HG2.out]; unfold main9; rw [if_neg (fun h => by have := h.1; omega)] : fault9 ps = (5, mainT, mainT))
      rw [e8] at HAm
      clear e8 hpk HG HG2
      have f0 := hfb.1.c0
      have f1 := hfb.1.c1
      have f2 := hfb.1.c2
      have z0 := hfb.2 0
      have z1 := hfb.2 1
      have z2 := hfb.2 2
      obtain ⟨Y, hY, y0, y1, y2, hbY⟩ := hfb.put hbw (Nat.le_refl _) (5, mainT, mainT)
      simp only [mainT] at hY y0 y1 y2
      have HE : Hid (Below w.heap.size w Y) := hbY
      clear hfb hbw hbY
      go_wp2_with (go_at_call 74; refine Calls.mono HAm.out ?_; rintro e w9 ⟨rfl, hw9⟩; obtain rfl := hw9.symm)
      refine bodyPost_ret (v := fltVal (5, mainT, mainT)) (by unfold fltVal; simp [results, Tryz.results102, go_sem, y0, y1, y2, mainT]) rfl ?_
      exact ⟨by rw [HR.out], HE.out⟩
     ·
      rw [e8] at HAm
      obtain ⟨b, off, rfl, hbl, c0, ia, il, ic, fa, fl, fc, c1, c2, hti, hfi⟩ := hpk.2 j hj
      have hsj := HSH.out j
      have hfl : fl ≤ 1048576 := by rw [← hfi.1]; exact hsj.2.2.2.1
      have hpo : pkOf ps mainT = ps.getD j pk0 := by unfold pkOf; rw [e8]; rfl
      have HMn : Hid (fault9 ps = if 0 ≤ atV (ps.getD j pk0).2.2 mainT ∧ ((ps.getD j pk0).2.2.getD (atV (ps.getD j pk0).2.2 mainT).toNat fn0).2.1 = 1 then (0, [], []) else (5, mainT, mainT)) := by exact (by
       rw [HG2.out]
       unfold main9
       rw [hpo]
       by_cases h : 0 ≤ atV (ps.getD j pk0).2.2 mainT ∧ ((ps.getD j pk0).2.2.getD (atV (ps.getD j pk0).2.2 mainT).toNat fn0).2.1 = 1
       ·
        rw [if_pos ⟨by omega, h⟩, if_pos h]
       ·
        rw [if_neg (fun g => h g.2), if_neg h] : fault9 ps = if 0 ≤ atV (ps.getD j pk0).2.2 mainT ∧ ((ps.getD j pk0).2.2.getD (atV (ps.getD j pk0).2.2 mainT).toNat fn0).2.1 = 1 then (0, [], []) else (5, mainT, mainT))
      obtain ⟨p, hpe⟩ : ∃ p, ps.getD j pk0 = p := ⟨_, rfl⟩
      rw [hpe] at c0 hfi HMn
      obtain ⟨nm, ims, fs⟩ := p
      simp only at c0 hfi HMn
      have hjz : (j : Int) < (ps.length : Int) := by omega
      have hj0 : (0 : Int) ≤ (j : Int) := by omega
      have HAt : Hid (Calls Tryz.prog 130 #[.agg #[.string ⟨nm.toArray⟩, .slice ia il ic, .slice fa fl fc], .string ⟨#[109, 97, 105, 110]⟩] wr fun e w' => e = .returned (.int .i64 (atV fs mainT)) ∧ Below wr.heap.size wr w') := specAt nm mainT ia il ic fa fl fc fs wr hfi hfl
      have HFi : Hid (FuncsIn wr fa fl fs) := hfi
      have HFb : Hid (FBox wr w.heap.size) := hfb
      have HBw : Hid (Below w.heap.size w wr) := hbw
      clear e8 hpk HG HG2 hti hfi hsj hpo hpe hfb hbw
      go_wp2_with fail
      refine Calls.mono HAm.out ?_
      rintro e w9 ⟨rfl, hw9⟩
      obtain rfl := hw9.symm
      rcases at7_is fs mainT with e7 | ⟨q, hq, e7, _⟩
      ·
       have HR : Hid (fault9 ps = (5, mainT, mainT)) := by exact (by rw [HMn.out, if_neg (fun h => by have := h.1; omega)] : fault9 ps = (5, mainT, mainT))
       rw [e7] at HAt
       go_wp2_with fail
       refine Calls.mono HAt.out ?_
       rintro e w5 ⟨rfl, hb5⟩
       have hfb := HFb.out.below hb5
       have hbw := HBw.out.trans (hb5.mono HBw.out.size)
       clear hb5 e7
       have f0 := hfb.1.c0
       have f1 := hfb.1.c1
       have f2 := hfb.1.c2
       have z0 := hfb.2 0
       have z1 := hfb.2 1
       have z2 := hfb.2 2
       obtain ⟨Y, hY, y0, y1, y2, hbY⟩ := hfb.put hbw (Nat.le_refl _) (5, mainT, mainT)
       simp only [mainT] at hY y0 y1 y2
       have HE : Hid (Below w.heap.size w Y) := hbY
       clear hfb hbw hbY
       go_wp2
       refine bodyPost_ret (v := fltVal (5, mainT, mainT)) (by unfold fltVal; simp [results, Tryz.results102, go_sem, y0, y1, y2, mainT]) rfl ?_
       exact ⟨by rw [HR.out], HE.out⟩
      ·
       rw [e7] at HAt HMn
       rw [Int.toNat_natCast] at HMn
       have hq0 : (0 : Int) ≤ (q : Int) := by omega
       have hql : q < fl := by rw [← HFi.out.1]; exact hq
       have hqz : (q : Int) < (fl : Int) := by omega
       obtain ⟨A, hA⟩ : ∃ A, (fs.getD q fn0).2.1 = A := ⟨_, rfl⟩
       go_wp2_with fail
       refine Calls.mono HAt.out ?_
       rintro e w5 ⟨rfl, hb5⟩
       obtain ⟨bf, of, rfl, _, _, s1, _⟩ := (HFi.out.below hb5).2 q hql
       rw [hA] at s1 HMn
       have d2 := (hb5.cell (p := ⟨b, off + j * 3 + 2, none⟩) hbl).trans c2
       have hfb := HFb.out.below hb5
       have hbw := HBw.out.trans (hb5.mono HBw.out.size)
       clear hb5 e7 hA c0 c1 c2
       by_cases hA1 : A = 1
       ·
        subst hA1
        have HR : Hid (fault9 ps = (0, [], [])) := by exact (by rw [HMn.out, if_pos ⟨hq0, rfl⟩] : fault9 ps = (0, [], []))
        have f0 := hfb.1.c0
        have f1 := hfb.1.c1
        have f2 := hfb.1.c2
        have z0 := hfb.2 0
        have z1 := hfb.2 1
        have z2 := hfb.2 2
        obtain ⟨Y, hY, y0, y1, y2, hbY⟩ := hfb.put hbw (Nat.le_refl _) (0, [], [])
        simp only at hY y0 y1 y2
        have HE : Hid (Below w.heap.size w Y) := hbY
        clear hfb hbw hbY
        go_wp2
        refine bodyPost_ret (v := fltVal (0, [], [])) (by unfold fltVal; simp [results, Tryz.results102, go_sem, y0, y1, y2]) rfl ?_
        exact ⟨by rw [HR.out], HE.out⟩
       ·
        have HR : Hid (fault9 ps = (5, mainT, mainT)) := by exact (by rw [HMn.out, if_neg (fun h => hA1 h.2)] : fault9 ps = (5, mainT, mainT))
        have hAb : (A == 1) = false := beq_eq_false_iff_ne.2 hA1
        have f0 := hfb.1.c0
        have f1 := hfb.1.c1
        have f2 := hfb.1.c2
        have z0 := hfb.2 0
        have z1 := hfb.2 1
        have z2 := hfb.2 2
        obtain ⟨Y, hY, y0, y1, y2, hbY⟩ := hfb.put hbw (Nat.le_refl _) (5, mainT, mainT)
        simp only [mainT] at hY y0 y1 y2
        have HE : Hid (Below w.heap.size w Y) := hbY
        clear hfb hbw hbY
        go_wp2
        refine bodyPost_ret (v := fltVal (5, mainT, mainT)) (by unfold fltVal; simp [results, Tryz.results102, go_sem, y0, y1, y2, mainT]) rfl ?_
        exact ⟨by rw [HR.out], HE.out⟩

end Go.Proofs.YtaidhjjpdkkmcaaGreatDoor

/-! The laws' own helper for chapter 9: two faults are alike. -/
namespace Go.Proofs.YtaidhjjpdkkmcaaGreatDoor
open Go.RowKit


end Go.Proofs.YtaidhjjpdkkmcaaGreatDoor

/-! Errors of errors.New's make: what a package-level variable of them holds, and errors.Is of one at another (Go's own text walked). -/
namespace Go.Proofs.YtaidhjjpdkkmcaaGreatDoor
open Go.RowKit Go.Extern.Stop Go.Stop Go.Extern

/-- An error of errors.New's make, at a. -/
def sentV (a : Addr) : Value := .iface 258 (.pointer (some a))
/-- Its block bears no mark. -/
def SentAt (w : World) (a : Addr) : Prop := ∃ c t, w.heap[a.block]? = some (.cells c t (0, 0))
theorem SentAt.below {w w' : World} {a : Addr} (h : SentAt w a) (hb : Below w.heap.size w w') : SentAt w' a := by
 obtain ⟨c, t, e⟩ := h
 have hlt : a.block < w.heap.size := by
  rcases Nat.lt_or_ge a.block w.heap.size with h | h
  ·
   exact h
  ·
   rw [Array.getElem?_eq_none h] at e; cases e
 exact ⟨c, t, (hb.block a.block hlt).trans e⟩

/-- The four that CallCode asks: 0 not told, 1 far, 2 func, 3 count. -/
structure Err4 (w : World) (e : Nat → Addr) : Prop where
 told : w.cell? ⟨0, 0, none⟩ = some (sentV (e 0))
 far : w.cell? ⟨6, 0, none⟩ = some (sentV (e 1))
 func : w.cell? ⟨7, 0, none⟩ = some (sentV (e 2))
 count : w.cell? ⟨8, 0, none⟩ = some (sentV (e 3))
 at0 : SentAt w (e 0)
 at1 : SentAt w (e 1)
 at2 : SentAt w (e 2)
 at3 : SentAt w (e 3)
 ne : e 0 ≠ e 1 ∧ e 0 ≠ e 2 ∧ e 0 ≠ e 3 ∧ e 1 ≠ e 2 ∧ e 1 ≠ e 3 ∧ e 2 ≠ e 3
theorem sent_below {w w' : World} {g : Nat} {v : Value} (h : w.cell? ⟨g, 0, none⟩ = some v) (hb : Below w.heap.size w w') : w'.cell? ⟨g, 0, none⟩ = some v := (hb.cell (p := ⟨g, 0, none⟩) (World.block_lt_of_cell? w ⟨g, 0, none⟩ h)).trans h
theorem Err4.below {w w' : World} {e : Nat → Addr} (h : Err4 w e) (hb : Below w.heap.size w w') : Err4 w' e :=
 ⟨sent_below h.told hb, sent_below h.far hb, sent_below h.func hb, sent_below h.count hb, h.at0.below hb, h.at1.below hb, h.at2.below hb, h.at3.below hb, h.ne⟩

/-! ### Closed facts. -/
theorem isTypeOf (v : Value) (w : World) : (Extern.ReflectliteType.typeOf #[.iface 258 v]).run Tryz.prog w = .ok (.iface 199 (.agg #[.pointer (some ⟨13, 258, none⟩)])) w := by kernel_rfl
/-- What the model does at (rtype).Comparable. -/
noncomputable def cmpE : Array Value → Sem Value := (Go.Extern.find Tryz.f232).getD (fun _ => pure (.bool false))
theorem isComparable (w : World) : (cmpE #[.agg #[.pointer (some ⟨13, 258, none⟩)]]).run Tryz.prog w = .ok (.bool true) w := by kernel_rfl
theorem isMethodComparable (v : Value) (w : World) : (Go.method 389 199 v "Comparable").run Tryz.prog w = .ok (232, v) w := by kernel_rfl
theorem isComp : (Tryz.prog.info? 258).map (·.comparable) = some true := by kernel_rfl
theorem isSize : (Tryz.prog.info? 277).map (·.size) = some 1 := by kernel_rfl
theorem noIsE (v : Value) (xT : TypeId) (w : World) : (Instr.typeAssert (.iface 258 v) xT 227 true).run Tryz.prog w = .ok (.tuple #[.nilIface, .bool false]) w := run_typeAssert_lacksB Tryz.underlying227 (by kernel_rfl) (by kernel_rfl) v xT w
theorem noUnwrapE (v : Value) (xT : TypeId) (w : World) : (Instr.typeAssert (.iface 258 v) xT 206 true).run Tryz.prog w = .ok (.tuple #[.nilIface, .bool false]) w := run_typeAssert_lacksB Tryz.underlying206 (by kernel_rfl) (by kernel_rfl) v xT w
theorem noUnwrapsE (v : Value) (xT : TypeId) (w : World) : (Instr.typeAssert (.iface 258 v) xT 208 true).run Tryz.prog w = .ok (.tuple #[.nilIface, .bool false]) w := run_typeAssert_lacksB Tryz.underlying208 (by kernel_rfl) (by kernel_rfl) v xT w

set_option maxHeartbeats 2000000 in
set_option maxRecDepth 100000 in
theorem is_same (a : Addr) (w : World) :
 Calls Tryz.prog 137 #[.iface 258 (.pointer (some a)), .iface 258 (.pointer (some a))] w fun e w' => e = .returned (.bool true) ∧ w' = w := by
 obtain ⟨i, hi, hcmp⟩ := Option.map_eq_some_iff.1 isComp
 obtain ⟨j, hj, hjs⟩ := Option.map_eq_some_iff.1 isSize
 have h8 := @run_callFunc_extern Tryz.prog 164 _ Extern.ReflectliteType.typeOf Tryz.func164 (by kernel_rfl) (by kernel_rfl) (by kernel_rfl) (by kernel_rfl)
 have h32 := @run_callFunc_extern Tryz.prog 232 _ cmpE Tryz.func232 (by kernel_rfl) (by kernel_rfl) (by kernel_rfl) (by kernel_rfl)
 have tT := isTypeOf
 have cT := isComparable
 have mR := isMethodComparable
 have heq := run_eql_iface_ptr_same (P := Tryz.prog) w a Tryz.underlying130 Tryz.underlying258 hi hcmp hj
 go_enter Tryz.func137, Tryz.ntmps137
 go_wp2
 refine wp_loop_rounds 1 ?_
 rw [rounds_succ]
 go_wp2
 go_ret
 exact ⟨rfl, rfl⟩

set_option maxHeartbeats 2000000 in
set_option maxRecDepth 100000 in
theorem is_other (a b : Addr) (w : World) (hne : a ≠ b) (hsa : SentAt w a) (hsb : SentAt w b) :
 Calls Tryz.prog 137 #[.iface 258 (.pointer (some a)), .iface 258 (.pointer (some b))] w fun e w' => e = .returned (.bool false) ∧ w' = w := by
 obtain ⟨ca, ta, ha⟩ := hsa
 obtain ⟨cb, tb, hb⟩ := hsb
 obtain ⟨i, hi, hcmp⟩ := Option.map_eq_some_iff.1 isComp
 obtain ⟨j, hj, hjs⟩ := Option.map_eq_some_iff.1 isSize
 have h8 := @run_callFunc_extern Tryz.prog 164 _ Extern.ReflectliteType.typeOf Tryz.func164 (by kernel_rfl) (by kernel_rfl) (by kernel_rfl) (by kernel_rfl)
 have h32 := @run_callFunc_extern Tryz.prog 232 _ cmpE Tryz.func232 (by kernel_rfl) (by kernel_rfl) (by kernel_rfl) (by kernel_rfl)
 have tT := isTypeOf
 have cT := isComparable
 have mR := isMethodComparable
 have nE := noIsE
 have uE := noUnwrapE
 have vE := noUnwrapsE
 have heq := run_eql_iface_ptr_other (P := Tryz.prog) w Tryz.underlying130 Tryz.underlying258 hi hcmp hj (by rw [hjs]; decide) hne ha hb
 go_enter Tryz.func137, Tryz.ntmps137
 go_wp2
 refine wp_loop_rounds 1 ?_
 rw [rounds_succ]
 go_wp2
 go_ret
 exact ⟨rfl, rfl⟩

end Go.Proofs.YtaidhjjpdkkmcaaGreatDoor

/-! The contracts of chapter 6's specification: l6Parts, PartsOf. -/
namespace Go.Proofs.YtaidhjjpdkkmcaaGreatDoor
open Go.RowKit

/-- What a row of numbers holds. -/
def intsV (l : List Int) : List Value := l.map (fun i => Value.int .i64 i)
theorem intsV_len (l : List Int) : (intsV l).length = l.length := by simp [intsV]
theorem intsV_append (x y : List Int) : intsV (x ++ y) = intsV x ++ intsV y := by simp [intsV]
theorem intsV_one (l : List Int) : ∀ u ∈ intsV l, u.oneCell' = true := by
 intro u hu
 simp only [intsV, List.mem_map] at hu
 obtain ⟨i, _, rfl⟩ := hu
 rfl
theorem new_int (w : World) (n : Int) : ∀ j u, (intsV [n])[j]? = some u → (w.alloc (.cells #[.int .i64 n] 2)).cell? ((⟨w.heap.size, 0, none⟩ : Addr).add j) = some u := by
 intro j u hu
 have e : (⟨w.heap.size, 0, none⟩ : Addr).add j = ⟨w.heap.size, j, none⟩ := by unfold Addr.add; split <;> simp_all
 rw [e]
 match j, hu with
 | 0, hu => simp [intsV] at hu; subst hu; simp
 | j + 1, hu => simp [intsV] at hu

end Go.Proofs.YtaidhjjpdkkmcaaGreatDoor

/-! Plain facts for chapter 6's landed code: shapes, and what words are read as. -/
namespace Go.Proofs.YtaidhjjpdkkmcaaGreatDoor
open Go.RowKit

/-- A shape: what a node tells by its kind. -/
inductive Sh where
 | num (a : Int)
 | arg (a : Int)
 | pair (k : Int)
 | cond
 | call (p f : List UInt8) (a : Int)
 | no

def shOf (n : Nd) : Sh :=
 if n.1 = 1 then .num n.2.1
 else if n.1 = 2 then .arg n.2.1
 else if 3 ≤ n.1 ∧ n.1 ≤ 6 then .pair n.1
 else if n.1 = 7 then .cond
 else if n.1 = 8 then .call n.2.2.1 n.2.2.2 n.2.1
 else .no

def shNode : Sh → Nd
 | .num a => (1, a, [], [])
 | .arg a => (2, a, [], [])
 | .pair k => (k, 0, [], [])
 | .cond => (7, 0, [], [])
 | .call p f a => (8, a, p, f)
 | .no => (0, 0, [], [])

def shOk : Sh → Bool
 | .num a => inB a (-2147483648) 2147483647
 | .arg a => inB a 0 2
 | .pair _ => true
 | .cond => true
 | .call p f a => inB a 0 3 && (nameB p && nameB f)
 | .no => false

def shKids : Sh → Int
 | .num _ => 0
 | .arg _ => 0
 | .pair _ => 2
 | .cond => 3
 | .call _ _ a => a
 | .no => -1

def shWord : Sh → List UInt8
 | .num a => intL a
 | .arg a => 36 :: intL a
 | .pair k => if k = 3 then [43] else if k = 4 then [45] else if k = 5 then [42] else [47]
 | .cond => [63]
 | .call p f a => (64 :: p) ++ [46] ++ f ++ [47] ++ intL a
 | .no => []

theorem shOf_kinds (n : Nd) : (n.1 = 1 ∧ shOf n = .num n.2.1) ∨ (n.1 = 2 ∧ shOf n = .arg n.2.1) ∨ ((3 ≤ n.1 ∧ n.1 ≤ 6) ∧ shOf n = .pair n.1) ∨ (n.1 = 7 ∧ shOf n = .cond) ∨ (n.1 = 8 ∧ shOf n = .call n.2.2.1 n.2.2.2 n.2.1) ∨ ((n.1 < 1 ∨ 8 < n.1) ∧ shOf n = .no) := by
 by_cases h1 : n.1 = 1
 ·
  exact Or.inl ⟨h1, if_pos h1⟩
 by_cases h2 : n.1 = 2
 ·
  exact Or.inr (Or.inl ⟨h2, by unfold shOf; rw [if_neg h1, if_pos h2]⟩)
 by_cases h3 : 3 ≤ n.1 ∧ n.1 ≤ 6
 ·
  exact Or.inr (Or.inr (Or.inl ⟨h3, by unfold shOf; rw [if_neg h1, if_neg h2, if_pos h3]⟩))
 by_cases h7 : n.1 = 7
 ·
  exact Or.inr (Or.inr (Or.inr (Or.inl ⟨h7, by unfold shOf; rw [if_neg h1, if_neg h2, if_neg h3, if_pos h7]⟩)))
 by_cases h8 : n.1 = 8
 ·
  exact Or.inr (Or.inr (Or.inr (Or.inr (Or.inl ⟨h8, by unfold shOf; rw [if_neg h1, if_neg h2, if_neg h3, if_neg h7, if_pos h8]⟩))))
 ·
  exact Or.inr (Or.inr (Or.inr (Or.inr (Or.inr ⟨by omega, by unfold shOf; rw [if_neg h1, if_neg h2, if_neg h3, if_neg h7, if_neg h8]⟩))))

/-- A node is right where its shape is, and it tells no more. -/
theorem node_sh (n : Nd) : nodeB n = (shOk (shOf n) && decide (shNode (shOf n) = n)) := by
 rw [Bool.eq_iff_iff, nodeB_iff, Bool.and_eq_true, decide_eq_true_iff]
 obtain ⟨k, a, p, f⟩ := n
 rcases shOf_kinds (k, a, p, f) with ⟨h, e⟩ | ⟨h, e⟩ | ⟨h, e⟩ | ⟨h, e⟩ | ⟨h, e⟩ | ⟨h, e⟩
 ·
  rw [e]; simp only at h; subst h
  unfold nodeP shOk shNode inB
  simp [@eq_comm (List UInt8) [] p, @eq_comm (List UInt8) [] f]
 ·
  rw [e]; simp only at h; subst h
  unfold nodeP shOk shNode inB
  simp [@eq_comm (List UInt8) [] p, @eq_comm (List UInt8) [] f]
 ·
  rw [e]; simp only at h
  unfold nodeP shOk shNode
  simp only [Prod.mk.injEq, true_and]
  constructor
  ·
   rintro (⟨h1, _⟩ | ⟨h1, _⟩ | ⟨_, h2, h3, h4⟩ | ⟨h1, _⟩)
   ·
    omega
   ·
    omega
   ·
    exact ⟨h2.symm, h3.symm, h4.symm⟩
   ·
    omega
  ·
   rintro ⟨h2, h3, h4⟩
   exact Or.inr (Or.inr (Or.inl ⟨by omega, h2.symm, h3.symm, h4.symm⟩))
 ·
  rw [e]; simp only at h; subst h
  unfold nodeP shOk shNode
  simp [@eq_comm (List UInt8) [] p, @eq_comm (List UInt8) [] f, @eq_comm Int 0 a]
 ·
  rw [e]; simp only at h; subst h
  unfold nodeP shOk shNode inB
  simp
 ·
  rw [e]; simp only at h
  unfold nodeP shOk shNode
  simp
  omega

theorem kids_sh {n : Nd} (h : nodeB n = true) : shKids (shOf n) = kidsV n := by
 unfold kidsV
 rcases shOf_kinds n with ⟨h, e⟩ | ⟨h, e⟩ | ⟨h, e⟩ | ⟨h, e⟩ | ⟨h, e⟩ | ⟨h1, e⟩
 ·
  rw [e, if_neg (by omega), if_neg (by omega), if_neg (by omega)]; rfl
 ·
  rw [e, if_neg (by omega), if_neg (by omega), if_neg (by omega)]; rfl
 ·
  rw [e, if_pos h]; rfl
 ·
  rw [e, if_neg (by omega), if_pos h]; rfl
 ·
  rw [e, if_neg (by omega), if_neg (by omega), if_pos h]; rfl
 ·
  have := nodeB_iff.1 h
  unfold nodeP at this
  omega

/-- The library's numerals are ours. -/
theorem dec_digL : ∀ u : Nat, Lib.decDigits u = digL u := by
 intro u
 induction u using Nat.strongRecOn with
 | ind u ih =>
  rw [Lib.decDigits, digL]
  by_cases h : u < 10
  ·
   rw [dif_pos h, if_pos h]; unfold digit; rw [Nat.mod_eq_of_lt h]
  ·
   rw [dif_neg h, if_neg h, ih (u / 10) (by omega)]; rfl
theorem itoa_int (a : Int) : Lib.itoa a = intL a := by
 unfold Lib.itoa intL
 split
 ·
  rw [dec_digL]
 ·
  rw [dec_digL]; congr 1; omega

/-- A text cut at a byte: what is ahead of it, what is behind it. -/
def cutA (b : UInt8) (l : List UInt8) : List UInt8 := l.takeWhile (fun c => c != b)
def cutB (b : UInt8) (l : List UInt8) : List UInt8 := (l.dropWhile (fun c => c != b)).tail

/-- The shape of a word. -/
noncomputable def shIn (s : List UInt8) : Sh :=
 if numB s = true then .num (numV s)
 else if s = [63] then .cond
 else if s = [43] then .pair 3
 else if s = [45] then .pair 4
 else if s = [42] then .pair 5
 else if s = [47] then .pair 6
 else if s.head? = some 36 then .arg (numV s.tail)
 else if s.head? = some 64 then .call (cutA 46 (cutA 47 s.tail)) (cutB 46 (cutA 47 s.tail)) (numV (cutB 47 s.tail))
 else .no

/-- The landed ReadTree's list. -/
noncomputable def inT (s : List UInt8) : List Nd := (splitL 32 s).map (fun x => shNode (shIn x))

end Go.Proofs.YtaidhjjpdkkmcaaGreatDoor

/-! The contracts of chapter 4's landed code: WordOk, Wrap, Done. -/
namespace Go.Proofs.YtaidhjjpdkkmcaaGreatDoor
open Go.RowKit

set_option maxHeartbeats 400000 in
set_option maxRecDepth 100000 in
theorem implWordOkS (n : Int) (w : World) : Calls Tryz.prog 201 #[.int .i64 n] w fun e w' => e = .returned (.bool (inB n (-2147483648) 2147483647)) ∧ w' = w := by
 by_cases h1 : -2147483648 ≤ n
 ·
  by_cases h2 : n ≤ 2147483647
  ·
   have hB : Hid (inB n (-2147483648) 2147483647 = true) := inB_yes _ _ _ h1 h2
   go_enter Tryz.func201, Tryz.ntmps201
   go_wp2
   go_ret
   exact ⟨by rw [hB.out]; rfl, rfl⟩
  ·
   have hB : Hid (inB n (-2147483648) 2147483647 = false) := inB_no _ _ _ (Or.inr (by omega))
   go_enter Tryz.func201, Tryz.ntmps201
   go_wp2
   go_ret
   exact ⟨by rw [hB.out]; rfl, rfl⟩
 ·
  have hB : Hid (inB n (-2147483648) 2147483647 = false) := inB_no _ _ _ (Or.inl (by omega))
  go_enter Tryz.func201, Tryz.ntmps201
  go_wp2
  go_ret
  exact ⟨by rw [hB.out]; rfl, rfl⟩

end Go.Proofs.YtaidhjjpdkkmcaaGreatDoor
