/-
  Parts of one proof, one behind the other: NewS, TaskS4, TaskS5, TaskC, TaskD, Hash.
-/
import Derived.Test.YtaidhjjpdkkmcaaGreatDoorP31
import Derived.Test.YtaidhjjpdkkmcaaGreatDoorP29
import Derived.Test.YtaidhjjpdkkmcaaGreatDoorP28
import Derived.Test.YtaidhjjpdkkmcaaGreatDoorP11
import Derived.OneCell
import Derived.BigQuiet
import Derived.Test.YtaidhjjpdkkmcaaGreatDoorP30
import Derived.Test.YtaidhjjpdkkmcaaGreatDoorRows
import Derived.Test.YtaidhjjpdkkmcaaGreatDoorP1
import Derived.WalkKit
import Derived.WalkLawsBesides
import Derived.OpenShut

/-! The contracts of chapter 18's specification: l18Tasks, l18Start, NewDesk. -/
namespace Go.Proofs.YtaidhjjpdkkmcaaGreatDoor
open Go.RowKit

theorem push_num18 {X : World} {B n : Nat} {v : Value} {xs : List Int} (x : Int) (hv : X.ownsRow B 2 1 v n (intsV xs)) (hb : B ≤ X.heap.size) (hn : n ≤ 1048576) :
 ∃ v' Y, (Builtin.append_ #[67, 67] 67 #[v, .slice (some ⟨X.heap.size, 0, none⟩) 1 1]).run Tryz.prog (X.alloc (.cells #[.int .i64 x] 2)) = .ok v' Y ∧ Y.ownsRow B 2 1 v' (n + 1) (intsV (xs ++ [x])) ∧ X.grownBy Y v.ownBlock := by
 obtain ⟨i0, hi, hz0, hz1, hz2⟩ := info_parts info2
 obtain ⟨v', Y, hrun, hown, hg, _⟩ := run_append_src (P := Tryz.prog) (X.alloc (.cells #[.int .i64 x] 2)) B 67 67 2 i0 _ 1 8 Tryz.underlying67 hi hz0 hz1 hz2 rfl (by decide) _ _ _ (hv.alloc _) (.slice (some ⟨X.heap.size, 0, none⟩) 1 1) 1 (intsV [x]) ⟨rfl, intsV_one _, Or.inr ⟨_, 1, rfl, new_int X x⟩⟩ (by unfold maxLen; omega) (by omega) (by simp; omega)
 refine ⟨v', Y, hrun, ?_, (World.grownBy_alloc X _ _).trans hg⟩
 rw [intsV_append]
 exact hown
theorem nums18_yes {os ims : List (List UInt8)} {k : Nat} (h : os.getD k [] ∈ ims) : nums18 os ims (k + 1) = nums18 os ims k ++ [(k : Int)] := by
 unfold nums18
 rw [List.range_succ, List.filter_append, List.map_append]
 simp only [List.filter_cons, List.filter_nil, decide_eq_true h, if_true, List.map_cons, List.map_nil]
theorem nums18_no {os ims : List (List UInt8)} {k : Nat} (h : ¬ os.getD k [] ∈ ims) : nums18 os ims (k + 1) = nums18 os ims k := by
 unfold nums18
 rw [List.range_succ, List.filter_append, List.map_append]
 simp only [List.filter_cons, List.filter_nil, decide_eq_false h, if_false, List.map_nil, List.append_nil, Bool.false_eq_true]
theorem nums18_len (os ims : List (List UInt8)) (k : Nat) : (nums18 os ims k).length ≤ k := by
 unfold nums18
 rw [List.length_map]
 exact Nat.le_trans (List.length_filter_le _ _) (by simp)
theorem task18_at {ps : List Pk} (C : Clean18 ps) {i : Nat} (hi : i < (parts18 ps).length) : ∃ j, j < ps.length ∧ at8 ps ((parts18 ps).getD i []) = (j : Int) ∧ task18N ps i = ((parts18 ps).getD i [], nums18 (parts18 ps) (ps.getD j pk0).2.1 i, 0, 0, 0, 0) := by
 have hg : (parts18 ps).getD i [] = (parts18 ps)[i] := by simp [List.getD, hi]
 rcases at8_is ps ((parts18 ps).getD i []) with ⟨_, h⟩ | ⟨j, hj, e, _⟩
 ·
  exact absurd (by rw [hg]; exact parts18_sub C _ (List.getElem_mem hi)) h
 ·
  refine ⟨j, hj, e, ?_⟩
  unfold task18N pkOf
  rw [e, Int.toNat_natCast]
theorem own_slice18 {w : World} {base e size n : Nat} {v : Value} {xs : List Value} (h : w.ownsRow base e size v n xs) : ∃ a c, v = .slice a n c := by
 rcases own_forms h with ⟨rfl, rfl, _⟩ | ⟨g, cp, rfl⟩
 ·
  exact ⟨none, 0, rfl⟩
 ·
  exact ⟨some ⟨g, 0, none⟩, cp, rfl⟩

set_option maxHeartbeats 4000000 in
set_option maxRecDepth 100000 in
theorem specTasks18 (a : Option Addr) (len cap : Nat) (ps : List Pk) (w : World) (hin : PkgsIn w a len ps) (hlen : len ≤ 1048576) (hsh : ShortPs ps) (h0 : (faultV ps).1 = 0) :
 Calls Tryz.prog 35 #[.slice a len cap] w fun e w' => ∃ v xs, e = .returned v ∧ xs.map (·.1) = tasks18 ps ∧ TksOwn w' w.heap.size v xs ∧ ApartR (xs.map tvT) ∧ Below w.heap.size w w' := by
 obtain rfl : ps.length = len := hin.1
 have C := clean18_of h0
 have hpl := (parts18_len C).2
 have HPr : Hid (_) := specPrt17 a ps.length cap ps w hin h0
 rw [show prtV ps = parts18 ps from (prtV_ok h0).1] at HPr
 have HTk : Hid (∀ i, i < (parts18 ps).length → _) := fun i hi => task18_at C hi
 have HTs : Hid (tasks18 ps = (List.range (parts18 ps).length).map (task18N ps)) := rfl
 have HSh : Hid (∀ j, (ps.getD j pk0).2.1.length ≤ 1048576) := fun j => (hsh j).2.1
 have HA8 : Hid (∀ W y, PkgsIn W a ps.length ps → Calls Tryz.prog 74 #[.slice a ps.length cap, .string ⟨y.toArray⟩] W fun e w' => e = .returned (.int .i64 (at8 ps y)) ∧ w' = W) := fun W y hW => specAt8 a ps.length cap ps y W hW hlen
 have HI : Hid (PkgsIn w a ps.length ps) := hin
 generalize task18N ps = T at HTk HTs
 generalize parts18 ps = os at HPr HTk HTs hpl
 generalize tasks18 ps = R at HTs ⊢
 have hpi : (ps.length : Int) ≤ 1048576 := by omega
 have hoi : (os.length : Int) ≤ 8 := by omega
 clear hin hsh h0 C hlen
 go_enter Tryz.func35, Tryz.ntmps35
 go_wp2_with fail
 refine Calls.mono HPr.out ?_
 rintro e w1 ⟨vn, rfl, ho, hb1⟩
 obtain ⟨_, na, nc, rfl, hN⟩ := own_texts ho
 have HN : Hid (∀ Z, Below w1.heap.size w1 Z → TextsIn Z na os.length os) := fun Z hz => hN.below hz
 have HIz : Hid (∀ Z, Below w1.heap.size w1 Z → PkgsIn Z a ps.length ps) := fun Z hz => HI.out.below (hb1.trans (hz.mono hb1.size))
 have HB1 : Hid (Below w.heap.size w w1) := hb1
 have HO0 : Hid (TksOwn (w1.alloc (.cells #[] 72)) w1.heap.size (.slice (some ⟨w1.heap.size, 0, none⟩) 0 0) []) := ⟨World.ownsRow_lit (base := w1.heap.size) (e := 72) (size := 6) w1 #[] 0 (Nat.le_refl _) (by decide) rfl, fun x hx => by cases hx⟩
 have HB0 : Hid (Below w1.heap.size w1 (w1.alloc (.cells #[] 72))) := (Below.refl _ _).alloc (Nat.le_refl _) _
 have HX0 : Hid (([] : List TV).map (·.1) = (List.range 0).map T) := rfl
 clear ho hN hb1 HPr HI
 go_wp2
 go_loopw [4, 5] (fun tv iv wr => ∃ (i : Nat) (xs : List TV) (ta : Option Addr) (tc : Nat), tv = .slice ta i tc ∧ iv = .int .i64 (i : Int) ∧ i ≤ os.length ∧ xs.length = i ∧ Hid (xs.map (·.1) = (List.range i).map T) ∧ Hid (TksOwn wr w1.heap.size (.slice ta i tc) xs) ∧ Hid (ApartR (xs.map tvT)) ∧ Hid (Below w1.heap.size w1 wr)) (fun _ iv _ => os.length - (intOf iv).toNat)
 case atStart => exact ⟨0, [], _, 0, rfl, rfl, by omega, rfl, HX0, HO0, ApartR.nil, HB0⟩
 case round =>
  obtain ⟨i, xs, ta, tc, rfl, rfl, hi, hxl, HX, HO, HAp, HB⟩ := hrel
  obtain ⟨X0, hX0⟩ : ∃ X0, X0 = wr := ⟨_, rfl⟩
  subst hX0
  clear HO0 HB0 HX0
  by_cases hlt : (i : Int) < (os.length : Int)
  ·
   have hi2 : i < os.length := by omega
   obtain ⟨nb, no, rfl, hnl, d0⟩ := (HN.out X0 HB.out).2 i hi2
   obtain ⟨j, hj, e8, hTi⟩ := HTk.out i hi2
   obtain ⟨x, hx⟩ : ∃ x, os.getD i [] = x := ⟨_, rfl⟩
   rw [hx] at d0 e8 hTi
   obtain ⟨T0, hT0⟩ : ∃ T0, X0.heap.size = T0 := ⟨_, rfl⟩
   have bz := B6.new X0 (.string ⟨#[]⟩) (.slice none 0 0) (.int .i64 0) (.int .i64 0) (.int .i64 0) (.int .i64 0) 72
   have hbZ : Below X0.heap.size X0 (X0.alloc (.cells #[.string ⟨#[]⟩, .slice none 0 0, .int .i64 0, .int .i64 0, .int .i64 0, .int .i64 0] 72)) := (Below.refl _ _).alloc (Nat.le_refl _) _
   have hsZ : (X0.alloc (.cells #[.string ⟨#[]⟩, .slice none 0 0, .int .i64 0, .int .i64 0, .int .i64 0, .int .i64 0] 72)).heap.size = T0 + 1 := by rw [← hT0]; simp
   obtain ⟨Z0, hZ0⟩ : ∃ Z0, X0.alloc (.cells #[.string ⟨#[]⟩, .slice none 0 0, .int .i64 0, .int .i64 0, .int .i64 0, .int .i64 0] 72) = Z0 := ⟨_, rfl⟩
   rw [hZ0] at bz hbZ hsZ
   rw [hT0] at bz hbZ
   have z0 := bz.c0
   have z1 := bz.c1
   have z2 := bz.c2
   have z3 := bz.c3
   have z4 := bz.c4
   have z5 := bz.c5
   have zf := bz.fr
   have b6 := (((((bz.s0 (.string ⟨x.toArray⟩)).s1 (.slice none 0 0)).s2 (.int .i64 0)).s3 (.int .i64 0)).s4 (.int .i64 0)).s5 (.int .i64 0)
   have hbX : Below T0 X0 ((((((Z0.setCell ⟨T0, 0, none⟩ (.string ⟨x.toArray⟩)).setCell ⟨T0, 1, none⟩ (.slice none 0 0)).setCell ⟨T0, 2, none⟩ (.int .i64 0)).setCell ⟨T0, 3, none⟩ (.int .i64 0)).setCell ⟨T0, 4, none⟩ (.int .i64 0)).setCell ⟨T0, 5, none⟩ (.int .i64 0)) := (((((hbZ.setCell (Nat.le_refl _) _).setCell (Nat.le_refl _) _).setCell (Nat.le_refl _) _).setCell (Nat.le_refl _) _).setCell (Nat.le_refl _) _).setCell (Nat.le_refl _) _
   have hs1 : ((((((Z0.setCell ⟨T0, 0, none⟩ (.string ⟨x.toArray⟩)).setCell ⟨T0, 1, none⟩ (.slice none 0 0)).setCell ⟨T0, 2, none⟩ (.int .i64 0)).setCell ⟨T0, 3, none⟩ (.int .i64 0)).setCell ⟨T0, 4, none⟩ (.int .i64 0)).setCell ⟨T0, 5, none⟩ (.int .i64 0)).heap.size = T0 + 1 := by simpa using hsZ
   obtain ⟨X1, hX1⟩ : ∃ X1, ((((((Z0.setCell ⟨T0, 0, none⟩ (.string ⟨x.toArray⟩)).setCell ⟨T0, 1, none⟩ (.slice none 0 0)).setCell ⟨T0, 2, none⟩ (.int .i64 0)).setCell ⟨T0, 3, none⟩ (.int .i64 0)).setCell ⟨T0, 4, none⟩ (.int .i64 0)).setCell ⟨T0, 5, none⟩ (.int .i64 0)) = X1 := ⟨_, rfl⟩
   rw [hX1] at b6 hbX hs1
   have hle : w1.heap.size ≤ T0 := by rw [← hT0]; exact HB.out.size
   have hB1x : Below w1.heap.size w1 X1 := HB.out.trans (hbX.mono hle)
   have HAs : Hid (_) := HA8.out X1 x (HIz.out X1 hB1x)
   rw [e8] at HAs
   have hP0 := HIz.out X0 HB.out
   obtain ⟨b, off, rfl, hbl, r0', ia, il, ic, fa, fl, fc, r1', r2', hii, _⟩ := hP0.2 j hj
   rw [hT0] at hbl hnl
   have d1 := (hbX.cell (p := ⟨nb, no + i, none⟩) hnl).trans d0
   have r0 := (hbX.cell (p := ⟨b, off + j * 3, none⟩) hbl).trans r0'
   have r1 := (hbX.cell (p := ⟨b, off + j * 3 + 1, none⟩) hbl).trans r1'
   have r2 := (hbX.cell (p := ⟨b, off + j * 3 + 2, none⟩) hbl).trans r2'
   clear r0' r1' r2'
   have hsj := HSh.out j
   obtain ⟨⟨pn, ims, fs⟩, hp⟩ : ∃ p, ps.getD j pk0 = p := ⟨_, rfl⟩
   rw [hp] at r0 hii hTi hsj
   simp only at r0 hii hTi hsj
   obtain rfl : ims.length = il := hii.1
   obtain ⟨bx, hbx⟩ := Box3.new X1 (.string ⟨pn.toArray⟩) (.slice ia ims.length ic) (.slice fa fl fc) 51
   have hs2 : (X1.alloc (.cells #[.string ⟨pn.toArray⟩, .slice ia ims.length ic, .slice fa fl fc] 51)).heap.size = T0 + 2 := by simp [hs1]
   obtain ⟨X2, hX2⟩ : ∃ X2, X1.alloc (.cells #[.string ⟨pn.toArray⟩, .slice ia ims.length ic, .slice fa fl fc] 51) = X2 := ⟨_, rfl⟩
   rw [hX2] at bx hbx hs2
   have HT6 : Hid (B6 X2 T0 (.string ⟨x.toArray⟩) (.slice none 0 0) (.int .i64 0) (.int .i64 0) (.int .i64 0) (.int .i64 0)) := b6.below hbx
   rw [hs1] at bx hbx
   have HBx : Hid (Box3 X2 (T0 + 1) (.string ⟨pn.toArray⟩) (.slice ia ims.length ic) (.slice fa fl fc)) := bx
   have HB2 : Hid (Below T0 X0 X2) := hbX.trans (hbx.mono (by omega))
   have HIm : Hid (∀ Z, Below T0 X0 Z → TextsIn Z ia ims.length ims ∧ TextsIn Z (some ⟨nb, no, none⟩) os.length os ∧ TksOwn Z w1.heap.size (.slice ta i tc) xs) := fun Z hz => by
    rw [← hT0] at hz
    exact ⟨hii.below hz, (HN.out X0 HB.out).below hz, HO.out.below hz⟩
   have HTi : Hid (T i = (x, nums18 os ims i, 0, 0, 0, 0)) := hTi
   have HN0 : Hid (nums18 os ims 0 = []) := rfl
   have HR0 : Hid (X2.ownsRow (T0 + 2) 2 1 (.slice none 0 0) ([] : List Int).length (intsV [])) := World.ownsRow_nil _ _ _ _
   have HSz : Hid (T0 + 2 ≤ X2.heap.size) := by exact (by omega : T0 + 2 ≤ X2.heap.size)
   have hji : (j : Int) < (ps.length : Int) := by omega
   clear e8 hx b6 bz hbZ hsZ hbX hB1x hP0 hii hp bx hbx
   go_wp2_with (go_at_call 74; refine Calls.mono HAs.out ?_; rintro e w3 ⟨rfl, hw3⟩; obtain rfl := hw3.symm)
   go_loopw [8] (fun kv wy => ∃ (k : Nat) (va : Option Addr) (vc : Nat) (ns : List Int), kv = .int .i64 (k : Int) ∧ k ≤ i ∧ ns.length ≤ k ∧ Hid (nums18 os ims k = ns) ∧ Hid (B6 wy T0 (.string ⟨x.toArray⟩) (.slice va ns.length vc) (.int .i64 0) (.int .i64 0) (.int .i64 0) (.int .i64 0)) ∧ Hid (wy.ownsRow (T0 + 2) 2 1 (.slice va ns.length vc) ns.length (intsV ns)) ∧ Hid (Box3 wy (T0 + 1) (.string ⟨pn.toArray⟩) (.slice ia ims.length ic) (.slice fa fl fc)) ∧ Hid (Below T0 X0 wy) ∧ Hid (T0 + 2 ≤ wy.heap.size)) (fun kv _ => i - (intOf kv).toNat)
   case atStart => exact ⟨0, none, 0, [], rfl, by omega, by simp, HN0, HT6, HR0, HBx, HB2, HSz⟩
   case round =>
    obtain ⟨k, va, vc, ns, rfl, hk, hnl2, HNs, HT, HR, HP, HBy, HSy⟩ := hrel
    obtain ⟨X3, hX3⟩ : ∃ X3, X3 = wr := ⟨_, rfl⟩
    subst hX3
    clear HN0 HT6 HR0 HBx HB2 HSz hX1 hX2 hZ0 z0 z1 z2 z3 z4 z5 zf hs1 hs2 d0 d1 r0 r1 r2
    have p1 := HP.out.c1
    by_cases hki : (k : Int) < (i : Int)
    ·
     obtain ⟨_, _, e, _, dk⟩ := (HIm.out X3 HBy.out).2.1.2 k (by omega)
     injection e with e
     injection e with e1 e2 _
     subst e1 e2
     obtain ⟨y, hy⟩ : ∃ y, os.getD k [] = y := ⟨_, rfl⟩
     rw [hy] at dk
     have hH : ∀ Z, TextsIn Z ia ims.length ims → _ := fun Z hz => specHas ia ims.length ic ims y Z hz (by omega)
     have HTm : Hid (TextsIn X3 ia ims.length ims) := (HIm.out X3 HBy.out).1
     have hko : (k : Int) < (os.length : Int) := by omega
     have t1 := HT.out.c1
     have tf := HT.out.fr 1
     have HDr : Hid (∀ n, Below T0 X0 (X3.drewN n) ∧ B6 (X3.drewN n) T0 (.string ⟨x.toArray⟩) (.slice va ns.length vc) (.int .i64 0) (.int .i64 0) (.int .i64 0) (.int .i64 0) ∧ (X3.drewN n).ownsRow (T0 + 2) 2 1 (.slice va ns.length vc) ns.length (intsV ns) ∧ Box3 (X3.drewN n) (T0 + 1) (.string ⟨pn.toArray⟩) (.slice ia ims.length ic) (.slice fa fl fc) ∧ T0 + 2 ≤ (X3.drewN n).heap.size) := fun n =>
      ⟨HBy.out.trans ⟨rfl, rfl, rfl, Nat.le_refl _, fun _ _ => rfl⟩, HT.out.keep rfl, own_below HR.out ⟨rfl, rfl, rfl, Nat.le_refl _, fun _ _ => rfl⟩, HP.out.keep rfl, HSy.out⟩
     by_cases hm : y ∈ ims
     ·
      have HNy : Hid (nums18 os ims (k + 1) = ns ++ [(k : Int)]) := by exact (by rw [nums18_yes (by rw [hy]; exact hm), HNs.out] : nums18 os ims (k + 1) = ns ++ [(k : Int)])
      rw [decide_eq_true hm] at hH
      have HH : Hid (_) := hH
      clear hH hm hy
      go_wp2_with fail
      go_quiet (first | (go_at_call 75; refine Calls.quiet_of_same (HH.out _ (HTm.out.below ⟨rfl, rfl, rfl, Nat.le_refl _, fun _ _ => rfl⟩))))
      obtain ⟨hBd, hTd, hRd, hPd, hSd⟩ := HDr.out nq
      clear HDr HTm HH t1 tf p1 dk
      generalize X3.drewN nq = Z at hBd hTd hRd hPd hSd ⊢
      obtain ⟨v', Y, hr, ho, hg⟩ := push_num18 (k : Int) hRd hSd (by omega)
      obtain ⟨va', vc', rfl⟩ := own_slice18 ho
      have hlen : (ns ++ [(k : Int)]).length = ns.length + 1 := by simp
      have q1 := hTd.c1
      have bY := hTd.grown hg (fun e => by have := (hRd.lt _ e).1; omega)
      have y1 := bY.c1
      have yf := bY.fr 1
      have HT2 : Hid (B6 (Y.setCell ⟨T0, 1, none⟩ (.slice va' (ns.length + 1) vc')) T0 (.string ⟨x.toArray⟩) (.slice va' (ns ++ [(k : Int)]).length vc') (.int .i64 0) (.int .i64 0) (.int .i64 0) (.int .i64 0)) := by exact (by rw [hlen]; exact bY.s1 _ : B6 (Y.setCell ⟨T0, 1, none⟩ (.slice va' (ns.length + 1) vc')) T0 (.string ⟨x.toArray⟩) (.slice va' (ns ++ [(k : Int)]).length vc') (.int .i64 0) (.int .i64 0) (.int .i64 0) (.int .i64 0))
      have HR2 : Hid ((Y.setCell ⟨T0, 1, none⟩ (.slice va' (ns.length + 1) vc')).ownsRow (T0 + 2) 2 1 (.slice va' (ns ++ [(k : Int)]).length vc') (ns ++ [(k : Int)]).length (intsV (ns ++ [(k : Int)]))) := by exact (by rw [hlen]; exact ownsRow_setCell_below ho (by show T0 < T0 + 2; omega) _ : (Y.setCell ⟨T0, 1, none⟩ (.slice va' (ns.length + 1) vc')).ownsRow (T0 + 2) 2 1 (.slice va' (ns ++ [(k : Int)]).length vc') (ns ++ [(k : Int)]).length (intsV (ns ++ [(k : Int)])))
      have HP2 : Hid (Box3 (Y.setCell ⟨T0, 1, none⟩ (.slice va' (ns.length + 1) vc')) (T0 + 1) (.string ⟨pn.toArray⟩) (.slice ia ims.length ic) (.slice fa fl fc)) := (hPd.grown hg (fun e => by have := (hRd.lt _ e.symm).1; omega)).keep (Below.heap_setCell _ _ _ _ (by show T0 + 1 ≠ T0; omega))
      have HB2 : Hid (Below T0 X0 (Y.setCell ⟨T0, 1, none⟩ (.slice va' (ns.length + 1) vc'))) := (hBd.grown hg (by omega) (fun q e => by have := (hRd.lt _ e).1; omega)).setCell (Nat.le_refl _) _
      have HS2 : Hid (T0 + 2 ≤ (Y.setCell ⟨T0, 1, none⟩ (.slice va' (ns.length + 1) vc')).heap.size) := by exact (by have := hg.size; simp; omega : T0 + 2 ≤ (Y.setCell ⟨T0, 1, none⟩ (.slice va' (ns.length + 1) vc')).heap.size)
      clear hBd hTd hRd hPd hSd ho hg bY
      go_wp2_with (at_builtin; refine wpList_append_run rfl _ _ 67 rfl _ _ _ rfl rfl hr ?_; clear hr)
      go_roundw
      case rel => exact ⟨k + 1, va', vc', ns ++ [(k : Int)], by go_num, by omega, by rw [hlen]; omega, HNy, HT2, HR2, HP2, HB2, HS2⟩
      case measure => simp [intOf]; omega
     ·
      have HNy : Hid (nums18 os ims (k + 1) = ns) := by exact (by rw [nums18_no (by rw [hy]; exact hm), HNs.out] : nums18 os ims (k + 1) = ns)
      rw [decide_eq_false hm] at hH
      have HH : Hid (_) := hH
      clear hH hm hy
      go_wp2_with fail
      go_quiet (first | (go_at_call 75; refine Calls.quiet_of_same (HH.out _ (HTm.out.below ⟨rfl, rfl, rfl, Nat.le_refl _, fun _ _ => rfl⟩))))
      obtain ⟨hBd, hTd, hRd, hPd, hSd⟩ := HDr.out nq
      go_wp2
      go_roundw
      case rel => exact ⟨k + 1, va, vc, ns, by go_num, by omega, by omega, HNy, hTd, hRd, hPd, hBd, hSd⟩
      case measure => simp [intOf]; omega
    ·
     obtain rfl : k = i := by omega
     have c0 := HT.out.c0
     have c1 := HT.out.c1
     have c2 := HT.out.c2
     have c3 := HT.out.c3
     have c4 := HT.out.c4
     have c5 := HT.out.c5
     have hs3 : w1.heap.size ≤ X3.heap.size := by have := HSy.out; omega
     obtain ⟨v', Y, hr, ho, hg⟩ := push_tk (HIm.out X3 HBy.out).2.2 ((x, ns, 0, 0, 0, 0), va, vc) (own_base HR.out (by omega)) hs3 (by omega)
     obtain ⟨ta', tc', rfl⟩ := own_slice18 ho.row
     have hlen : (xs ++ [(((x, ns, 0, 0, 0, 0), va, vc) : TV)]).length = k + 1 := by simp [hxl]
     have HX2 : Hid ((xs ++ [(((x, ns, 0, 0, 0, 0), va, vc) : TV)]).map (·.1) = (List.range (k + 1)).map T) := by exact (by rw [List.map_append, HX.out, List.range_succ, List.map_append, List.map_cons, List.map_nil, List.map_cons, List.map_nil, HTi.out, HNs.out] : (xs ++ [(((x, ns, 0, 0, 0, 0), va, vc) : TV)]).map (·.1) = (List.range (k + 1)).map T)
     have HA2 : Hid (ApartR ((xs ++ [(((x, ns, 0, 0, 0, 0), va, vc) : TV)]).map tvT)) := by exact (by
      rw [List.map_append]
      refine HAp.out.snoc (fun v hv => ?_)
      obtain ⟨z, hz, rfl⟩ := List.mem_map.1 hv
      rcases hvb : (tvT z).ownBlock with _ | g
      ·
       exact Or.inl rfl
      ·
       refine Or.inr (fun e => ?_)
       have h1 := ((HO.out.trees z hz).lt g hvb).2
       have h2 := (HR.out.lt g e.symm).1
       omega : ApartR ((xs ++ [(((x, ns, 0, 0, 0, 0), va, vc) : TV)]).map tvT))
     have HB2 : Hid (Below w1.heap.size w1 Y) := (HB.out.trans (HBy.out.mono hle)).grown hg hs3 (fun q e => (HO.out.row.lt q e).1)
     rw [hlen] at hr ho
     have HO2 : Hid (TksOwn Y w1.heap.size (.slice ta' (k + 1) tc') (xs ++ [(((x, ns, 0, 0, 0, 0), va, vc) : TV)])) := ho
     simp only [tvT] at hr
     clear ho hg hs3
     go_wp2_with (at_builtin; refine wpList_append_run rfl _ _ 24 rfl _ _ _ rfl rfl hr ?_; clear hr)
     go_roundw
     case rel => exact ⟨k + 1, _, ta', tc', rfl, by go_num, by omega, hlen, HX2, HO2, HA2, HB2⟩
     case measure => simp [intOf]; omega
  ·
   have HE : Hid (xs.map (·.1) = R) := by exact (by rw [HTs.out, HX.out, show i = os.length by omega] : xs.map (·.1) = R)
   go_wp2
   go_ret
   exact ⟨_, rfl, xs, HE.out, HO.out.base HB1.out.size, HAp.out, HB1.out.trans (HB.out.mono HB1.out.size)⟩

end Go.Proofs.YtaidhjjpdkkmcaaGreatDoor

/-! The contract of chapter 18's specification: DeskOk. -/
namespace Go.Proofs.YtaidhjjpdkkmcaaGreatDoor
open Go.RowKit

theorem deskB_head {ts : List Ta} {e n : Int} {j : List UInt8} (h : ¬ (((inB (ts.length : Int) 1 8 && inB e 1 1000) && inB n 0 1000000) = true ∧ j.length ≤ 60000)) : deskB (ts, e, n, j) = false := by
 rw [Bool.eq_false_iff]
 intro k
 obtain ⟨h1, h2, h3, h4, _⟩ := deskB_iff.1 k
 refine h ⟨?_, h4⟩
 simp only at h1 h2 h3
 unfold inB
 simp only [Bool.and_eq_true, decide_eq_true_eq]
 omega
theorem deskB_no {ts : List Ta} {e n : Int} {j : List UInt8} {i : Nat} (hi : i < ts.length) (h : ¬ one18 ts i) : deskB (ts, e, n, j) = false := by
 rw [Bool.eq_false_iff]
 intro k
 exact h ((deskB_iff.1 k).one i hi)
theorem deskB_yes {ts : List Ta} {e n : Int} {j : List UInt8} (h1 : inB (ts.length : Int) 1 8 = true) (h2 : inB e 1 1000 = true) (h3 : inB n 0 1000000 = true) (h4 : j.length ≤ 60000) (h : ∀ i, i < ts.length → one18 ts i) : deskB (ts, e, n, j) = true := by
 unfold inB at h1 h2 h3
 have h1 := of_decide_eq_true h1
 exact deskB_iff.2 ⟨by show 1 ≤ ts.length ∧ ts.length ≤ 8; omega, of_decide_eq_true h2, of_decide_eq_true h3, h4, h⟩

set_option maxHeartbeats 4000000 in
set_option maxRecDepth 100000 in
theorem specDeskOk (a : Option Addr) (len cap : Nat) (ts : List Ta) (ep nw : Int) (jr : List UInt8) (w : World) (hin : TasksIn w a len ts) (hsh : ShortTa ts) (hlen : len ≤ 1048576) :
 Calls Tryz.prog 18 #[.agg #[.slice a len cap, .int .i64 ep, .int .i64 nw, .string ⟨jr.toArray⟩]] w
  fun e w' => e = .returned (.bool (deskB (ts, ep, nw, jr))) ∧ Below w.heap.size w w' := by
 obtain rfl : ts.length = len := hin.1
 obtain ⟨W, hW⟩ : ∃ W, w.alloc (.cells #[.slice a ts.length cap, .int .i64 ep, .int .i64 nw, .string ⟨jr.toArray⟩] 26) = W := ⟨_, rfl⟩
 have hbW : Below w.heap.size w W := by rw [← hW]; exact (Below.refl _ _).alloc (Nat.le_refl _) _
 have hA : W.heap[w.heap.size]? = some (.cells #[.slice a ts.length cap, .int .i64 ep, .int .i64 nw, .string ⟨jr.toArray⟩] 26) := by rw [← hW]; exact heap_alloc_new w _
 obtain ⟨D, hD⟩ : ∃ D, w.heap.size = D := ⟨_, rfl⟩
 rw [hD] at hA
 have k0 : W.cell? ⟨D, 0, none⟩ = some (.slice a ts.length cap) := by simp [World.cell?, hA]
 have k1 : W.cell? ⟨D, 1, none⟩ = some (.int .i64 ep) := by simp [World.cell?, hA]
 have k2 : W.cell? ⟨D, 2, none⟩ = some (.int .i64 nw) := by simp [World.cell?, hA]
 have k3 : W.cell? ⟨D, 3, none⟩ = some (.string ⟨jr.toArray⟩) := by simp [World.cell?, hA]
 have hDl : D < W.heap.size := World.block_lt_of_cell? W ⟨D, 0, none⟩ k0
 have HI : Hid (∀ Z, Below W.heap.size W Z → TasksIn Z a ts.length ts) := fun Z hz => (hin.below hbW).below hz
 have HB : Hid (∀ Z, Below W.heap.size W Z → Below D w Z) := fun Z hz => hD ▸ hbW.trans (hz.mono hbW.size)
 have HC : Hid (∀ Z, Below W.heap.size W Z → Z.cell? ⟨D, 0, none⟩ = some (.slice a ts.length cap)) := fun Z hz => (hz.cell (p := ⟨D, 0, none⟩) hDl).trans k0
 have HN : Hid (_) := specIn (ts.length : Int) 1 8 W
 have HE : Hid (_) := specIn ep 1 1000 W
 have HT : Hid (_) := specTime nw W
 have HS : Hid (ShortTa ts) := hsh
 have HB0 : Hid (Below W.heap.size W W) := Below.refl _ _
 have HH : Hid (¬ (((inB (ts.length : Int) 1 8 && inB ep 1 1000) && inB nw 0 1000000) = true ∧ jr.length ≤ 60000) → deskB (ts, ep, nw, jr) = false) := deskB_head
 have HY : Hid (inB (ts.length : Int) 1 8 = true → inB ep 1 1000 = true → inB nw 0 1000000 = true → jr.length ≤ 60000 → (∀ i, i < ts.length → one18 ts i) → deskB (ts, ep, nw, jr) = true) := deskB_yes
 generalize inB (ts.length : Int) 1 8 = b1 at HN HH HY
 generalize inB ep 1 1000 = b2 at HE HH HY
 generalize inB nw 0 1000000 = b3 at HT HH HY
 clear hin hsh hbW hA hDl
 go_enter Tryz.func18, Tryz.ntmps18
 go_wp2_with fail
 refine Calls.mono HN.out ?_
 rintro e W1 ⟨rfl, hw1⟩
 obtain rfl := hw1.symm
 clear hw1 HN
 rcases b1 with _ | _
 ·
  have HF : Hid (_) := HH.out (fun e => by cases e.1)
  go_wp2
  go_ret
  exact ⟨by rw [HF.out]; rfl, hD ▸ HB.out _ HB0.out⟩
 ·
  go_wp2_with fail
  refine Calls.mono HE.out ?_
  rintro e W2 ⟨rfl, hw2⟩
  obtain rfl := hw2.symm
  clear hw2 HE
  rcases b2 with _ | _
  ·
   have HF : Hid (_) := HH.out (fun e => by cases e.1)
   go_wp2
   go_ret
   exact ⟨by rw [HF.out]; rfl, hD ▸ HB.out _ HB0.out⟩
  ·
   go_wp2_with fail
   refine Calls.mono HT.out ?_
   rintro e W3 ⟨rfl, hw3⟩
   obtain rfl := hw3.symm
   clear hw3 HT
   rcases b3 with _ | _
   ·
    have HF : Hid (_) := HH.out (fun e => by cases e.1)
    go_wp2
    go_ret
    exact ⟨by rw [HF.out]; rfl, hD ▸ HB.out _ HB0.out⟩
   ·
    by_cases hj6 : jr.length ≤ 60000
    ·
     have HY2 : Hid (_) := HY.out (by first | rfl | trivial) (by first | rfl | trivial) (by first | rfl | trivial) hj6
     clear HY HH
     go_wp2
     go_loopw [4] (fun iv wr => ∃ i : Nat, iv = .int .i64 (i : Int) ∧ i ≤ ts.length ∧ Hid (∀ q, q < i → one18 ts q) ∧ Hid (Below W.heap.size W wr)) (fun iv _ => ts.length - (intOf iv).toNat)
     case atStart => exact ⟨0, rfl, by omega, fun q hq => by omega, HB0⟩
     case round =>
      obtain ⟨i, rfl, hi, HA, HBr⟩ := hrel
      by_cases hlt : (i : Int) < (ts.length : Int)
      ·
       have hI := HI.out wr HBr.out
       obtain ⟨b, off, rfl, hbl, c0, ⟨na, nc, c1, hn⟩, c2, c3, c4, c5⟩ := hI.2 i (by omega)
       clear k0
       have k0 := HC.out wr HBr.out
       have hsh := HS.out i
       have hN1 : one18 ts i ↔ nameB (ts.getD i ta0).1 = true ∧ taskB (i : Int) (ts.getD i ta0) = true ∧ ∀ k, k < i → (ts.getD k ta0).1 ≠ (ts.getD i ta0).1 := Iff.rfl
       obtain ⟨x, hx⟩ : ∃ x, ts.getD i ta0 = x := ⟨_, rfl⟩
       rw [hx] at c0 c1 hn c2 c3 c4 c5 hsh hN1
       obtain ⟨nm, ns, st, wk, un, ke⟩ := x
       simp only at c0 c1 hn c2 c3 c4 c5 hsh hN1
       have HNm : Hid (_) := specNameOk nm wr hsh.1
       have HTk : Hid (_) := specTask nm na nc ns st wk un ke i wr hn hsh.2
       have HNo : Hid (¬ one18 ts i → deskB (ts, ep, nw, jr) = false) := fun h => deskB_no (by omega) h
       have HN1 : Hid (_) := hN1
       clear hN1 hI hn hsh
       generalize nameB nm = b1 at HNm HN1
       generalize taskB (i : Int) (nm, ns, st, wk, un, ke) = b2 at HTk HN1
       rcases b1 with _ | _
       ·
        have HF : Hid (_) := HNo.out (fun h => by cases (HN1.out.1 h).1)
        clear HNo HN1 HA HY2
        go_wp2_with (go_at_call 45; refine Calls.mono HNm.out ?_; rintro e w1 ⟨rfl, rfl⟩)
        go_ret
        exact ⟨by rw [HF.out]; rfl, hD ▸ HB.out _ HBr.out⟩
       ·
        rcases b2 with _ | _
        ·
         have HF : Hid (_) := HNo.out (fun h => by cases (HN1.out.1 h).2.1)
         clear HNo HN1 HA HY2
         go_wp2_with (first | (go_at_call 45; refine Calls.mono HNm.out ?_; rintro e w1 ⟨rfl, rfl⟩) | (go_at_call 46; refine Calls.mono HTk.out ?_; rintro e w2 ⟨rfl, hb2⟩))
         go_ret
         exact ⟨by rw [HF.out]; rfl, hD ▸ HB.out _ (HBr.out.trans (hb2.mono HBr.out.size))⟩
        ·
         go_wp2_with (first | (go_at_call 45; refine Calls.mono HNm.out ?_; rintro e w1 ⟨rfl, rfl⟩) | (go_at_call 46; refine Calls.mono HTk.out ?_; rintro e w2 ⟨rfl, hb2⟩))
         have HB2 : Hid (Below W.heap.size W w2) := HBr.out.trans (hb2.mono HBr.out.size)
         have HX : Hid (∀ Z, Below W.heap.size W Z → Z.cell? ⟨b, off + i * 6, none⟩ = some (.string ⟨nm.toArray⟩)) := fun Z hz => by
          obtain ⟨b', off', e, _, d0, _⟩ := (HI.out Z hz).2 i (by omega)
          injection e with e
          injection e with e1 e2 _
          subst e1 e2
          rw [hx] at d0
          exact d0
         have HXn : Hid ((ts.getD i ta0).1 = nm) := by exact (by rw [hx] : (ts.getD i ta0).1 = nm)
         clear hb2 c0 c1 c2 c3 c4 c5 k0 HBr HTk HNm hx
         go_loopw [5] (fun iv wr => ∃ k : Nat, iv = .int .i64 (k : Int) ∧ k ≤ i ∧ Hid (∀ q, q < k → (ts.getD q ta0).1 ≠ nm) ∧ Hid (Below W.heap.size W wr)) (fun iv _ => i - (intOf iv).toNat)
         case atStart => exact ⟨0, rfl, by omega, fun q hq => by omega, HB2⟩
         case round =>
          obtain ⟨k, rfl, hk, HQ, HBk⟩ := hrel
          rename World => U
          clear HB2
          have k0 := HC.out U HBk.out
          have c0 := HX.out U HBk.out
          have HBd : Hid (Below W.heap.size W U.drew) := HBk.out.trans (by exact ⟨rfl, rfl, rfl, Nat.le_refl _, fun _ _ => rfl⟩)
          by_cases hkl : (k : Int) < (i : Int)
          ·
           obtain ⟨b', off', e, _, d0, _⟩ := (HI.out U HBk.out).2 k (by omega)
           injection e with e
           injection e with e1 e2 _
           subst e1 e2
           obtain ⟨y, hy⟩ : ∃ y, (ts.getD k ta0).1 = y := ⟨_, rfl⟩
           rw [hy] at d0
           by_cases hyn : y = nm
           ·
            have HF : Hid (_) := HNo.out (fun h => (HN1.out.1 h).2.2 k (by omega) (by rw [hy]; exact hyn))
            have heb : (y == nm) = true := by rw [hyn]; simp
            clear HQ HNo HN1 HX HI HC HA hy hyn
            go_wp2
            refine wp_region_held_drew (S := fun Z => Z.cell? ⟨D, 0, none⟩ = some (.slice (some ⟨b, off, none⟩) ts.length cap) ∧ Z.cell? ⟨b, off + k * 6, none⟩ = some (.string ⟨y.toArray⟩) ∧ Z.cell? ⟨b, off + i * 6, none⟩ = some (.string ⟨nm.toArray⟩)) (by kernel_rfl) (by exact ⟨k0, d0, c0⟩) (fun hHeld => ?_)
            refine tkO [(0, 58), (1, 59), (2, 60), (3, 61), (4, 62), (5, 63), (6, 64), (7, 65), (8, 66), (9, 67), (10, 68), (11, 69)] ?_
            repeat (refine tkY ?_ rfl (by rfl) ?_ ?_; rotate_left; (focus (intro wq hSw; obtain ⟨z0, z1, z2⟩ := hSw; first | (go_simp; done) | (go_simp; with_reducible rfl) | (go_simp; rw [if_pos (by omega)]))); simp only [zP])
            refine tkZ ?_
            refine wpAnyH_take (i := 12) (oi := ⟨some 70, _, _, _, _, _⟩) (v := .bool true) rfl (by kernel_rfl) (by kernel_rfl) (by kernel_rfl) (fun _ _ _ h => h) (Or.inl ⟨by rfl, ?hy244⟩) (by assumption) ?rest244
            case hy244 => (intro wq hSw; clear hSw; first | (go_simp; done) | (go_simp; with_reducible rfl) | (go_simp; simp only [Result.ok.injEq, Next.value.injEq, Value.bool.injEq, decide_eq_true_eq, decide_eq_false_iff_not, and_true]; first | omega | assumption))
            simp only [zP]
            refine wpAnyH_done (by kernel_rfl) ?_ _
            (try dsimp only)
            go_wp2
            go_ret
            exact ⟨by rw [HF.out]; rfl, hD ▸ HB.out _ HBd.out⟩
           ·
            have heb : (y == nm) = false := beq_eq_false_iff_ne.2 hyn
            have HR : Hid (∀ q, q < k + 1 → (ts.getD q ta0).1 ≠ nm) := fun q hq => by
             rcases Nat.lt_or_ge q k with g | g
             ·
              exact HQ.out q g
             ·
              obtain rfl : q = k := by omega
              rw [hy]; exact hyn
            clear HQ hy hyn
            go_wp2
            refine wp_region_held_drew (S := fun Z => Z.cell? ⟨D, 0, none⟩ = some (.slice (some ⟨b, off, none⟩) ts.length cap) ∧ Z.cell? ⟨b, off + k * 6, none⟩ = some (.string ⟨y.toArray⟩) ∧ Z.cell? ⟨b, off + i * 6, none⟩ = some (.string ⟨nm.toArray⟩)) (by kernel_rfl) (by exact ⟨k0, d0, c0⟩) (fun hHeld => ?_)
            refine tkO [(0, 58), (1, 59), (2, 60), (3, 61), (4, 62), (5, 63), (6, 64), (7, 65), (8, 66), (9, 67), (10, 68), (11, 69)] ?_
            repeat (refine tkY ?_ rfl (by rfl) ?_ ?_; rotate_left; (focus (intro wq hSw; obtain ⟨z0, z1, z2⟩ := hSw; first | (go_simp; done) | (go_simp; with_reducible rfl) | (go_simp; rw [if_pos (by omega)]))); simp only [zP])
            refine tkZ ?_
            refine wpAnyH_take (i := 12) (oi := ⟨some 70, _, _, _, _, _⟩) (v := .bool false) rfl (by kernel_rfl) (by kernel_rfl) (by kernel_rfl) (fun _ _ _ h => h) (Or.inl ⟨by rfl, ?hy257⟩) (by assumption) ?rest257
            case hy257 => (intro wq hSw; clear hSw; first | (go_simp; done) | (go_simp; with_reducible rfl) | (go_simp; simp only [Result.ok.injEq, Next.value.injEq, Value.bool.injEq, decide_eq_true_eq, decide_eq_false_iff_not, and_true]; first | omega | assumption))
            simp only [zP]
            refine wpAnyH_done (by kernel_rfl) ?_ _
            (try dsimp only)
            go_wp2
            go_roundw
            case rel => exact ⟨k + 1, by go_num, by omega, HR, HBd⟩
            case measure => simp [intOf]; omega
          ·
           have HR : Hid (∀ q, q < i + 1 → one18 ts q) := fun q hq => by
            rcases Nat.lt_or_ge q i with g | g
            ·
             exact HA.out q g
            ·
             obtain rfl : q = i := by omega
             exact HN1.out.2 ⟨by first | rfl | trivial, by first | rfl | trivial, fun k' hk' => HQ.out k' (by omega)⟩
           clear HQ HNo HN1 HA
           go_wp2
           go_roundw
           case rel => exact ⟨i + 1, by go_num, by omega, HR, HBk⟩
           case measure => simp [intOf]; omega
      ·
       have HF : Hid (_) := HY2.out (fun q hq => HA.out q (by omega))
       clear HA HY2
       go_wp2
       go_ret
       exact ⟨by rw [HF.out]; rfl, hD ▸ HB.out _ HBr.out⟩
    ·
     have HF : Hid (_) := HH.out (fun e => hj6 e.2)
     go_wp2
     go_ret
     exact ⟨by rw [HF.out]; rfl, hD ▸ HB.out _ HB0.out⟩

end Go.Proofs.YtaidhjjpdkkmcaaGreatDoor

/-! The contracts of chapter 18's specification: l18AllDone, AllDone. -/
namespace Go.Proofs.YtaidhjjpdkkmcaaGreatDoor
open Go.RowKit

end Go.Proofs.YtaidhjjpdkkmcaaGreatDoor

/-! The contracts of chapter 18's specification: l1Copy at numbers that can be read; l18Copy. -/
namespace Go.Proofs.YtaidhjjpdkkmcaaGreatDoor
open Go.RowKit

end Go.Proofs.YtaidhjjpdkkmcaaGreatDoor

/-! The contracts of chapter 18's specification: l18Tick, Ticked. -/
namespace Go.Proofs.YtaidhjjpdkkmcaaGreatDoor
open Go.RowKit

/-- A desk that a call hands out, in memory of its own. -/
def DkOut (w w' : World) (v : Value) (d : Dk) : Prop := ∃ va vc xs, v = .agg #[.slice va d.1.length vc, .int .i64 d.2.1, .int .i64 d.2.2.1, .string ⟨d.2.2.2.toArray⟩] ∧ xs.map (·.1) = d.1 ∧ TksOwn w' w.heap.size (.slice va d.1.length vc) xs ∧ ApartR (xs.map tvT) ∧ Below w.heap.size w w'
theorem DkOut.zero {w w' : World} (h : Below w.heap.size w w') : DkOut w w' (.agg #[.slice none 0 0, .int .i64 0, .int .i64 0, .string ⟨#[]⟩]) dk0 := ⟨none, 0, [], rfl, rfl, TksOwn.nil _ _, ApartR.nil, h⟩



end Go.Proofs.YtaidhjjpdkkmcaaGreatDoor

/-! The contracts of spec.Hash and impl.Hash: both return the hash of the text, and nothing in memory turns. -/
namespace Go.Proofs.YtaidhjjpdkkmcaaGreatDoor
open Go.RowKit

set_option maxHeartbeats 400000 in
set_option maxRecDepth 100000 in
theorem specHash (s : ByteArray) (w : World) (hs : s.size ≤ maxLen) :
 Calls Tryz.prog 77 #[.string s] w fun e w' => e = .returned (.int .i64 (hashL s.data.toList)) ∧ w' = w := by
 unfold maxLen at hs
 go_enter Tryz.func77, Tryz.ntmps77
 go_wp2
 go_loop [3, 4] (fun h i => ∃ k : Nat, k ≤ s.size ∧ i = .int .i64 k ∧ h = .int .i64 (hashL (s.data.toList.take k))) (fun _ i => s.size - (intOf i).toNat)
 case atStart => exact ⟨0, Nat.zero_le _, rfl, rfl⟩
 case round =>
  obtain ⟨k, hk, rfl, rfl⟩ := hrel
  have hd := hashL_bd (s.data.toList.take k)
  by_cases hlt : k < s.size
  ·
   have HS : Hid (hashL (s.data.toList.take (k + 1)) = hashStep (hashL (s.data.toList.take k)) s[k]) := hashL_take s k hlt
   go_wp2
   go_round
   case rel => exact ⟨k + 1, by omega, by go_num, by rw [HS.out, ← stepW _ _ hd]⟩
   case measure => simp [intOf]; omega
  ·
   go_wp2
   go_ret
   exact ⟨ret_int (by rw [List.take_of_length_le (by simp; omega)]), rfl⟩

set_option maxHeartbeats 400000 in
set_option maxRecDepth 100000 in
theorem implWith (h : Int) (b : UInt8) (w : World) (hd : 0 ≤ h ∧ h < 2147483647) :
 Calls Tryz.prog 121 #[.int .i64 h, .int .u8 (b.toNat : Int)] w fun e w' => e = .returned (.int .i64 (hashStep h b)) ∧ w' = w := by
 have HS : Hid (_ = hashStep h b) := stepW h b hd
 go_enter Tryz.func121, Tryz.ntmps121
 go_wp2
 go_ret
 exact ⟨ret_int (by rw [← HS.out]), rfl⟩

set_option maxHeartbeats 400000 in
set_option maxRecDepth 100000 in
theorem implSteppedWith (s : ByteArray) (w : World) (hs : s.size ≤ maxLen) :
 Calls Tryz.prog 120 #[.int .i64 17, .string s, .func (.func 121) #[] #[]] w fun e w' => e = .returned (.int .i64 (hashL s.data.toList)) ∧ w' = w := by
 unfold maxLen at hs
 go_enter Tryz.func120, Tryz.ntmps120
 go_wp2
 go_loop [7, 12] (fun h i => ∃ k : Nat, k ≤ s.size ∧ i = .int .i64 k ∧ h = .int .i64 (hashL (s.data.toList.take k))) (fun _ i => s.size - (intOf i).toNat)
 case atStart => exact ⟨0, Nat.zero_le _, rfl, rfl⟩
 case round =>
  obtain ⟨k, hk, rfl, rfl⟩ := hrel
  have hd := hashL_bd (s.data.toList.take k)
  by_cases hlt : k < s.size
  ·
   have HS : Hid (hashL (s.data.toList.take (k + 1)) = hashStep (hashL (s.data.toList.take k)) s[k]) := hashL_take s k hlt
   go_wp2_with (go_at_call 121; refine (implWith _ _ _ hd).mono ?_; rintro e w' ⟨rfl, rfl⟩)
   go_round
   case rel => exact ⟨k + 1, by omega, by go_num, by rw [HS.out]⟩
   case measure => simp [intOf]; omega
  ·
   go_wp2
   go_ret
   exact ⟨ret_int (by rw [List.take_of_length_le (by simp; omega)]), rfl⟩

set_option maxHeartbeats 400000 in
set_option maxRecDepth 100000 in
theorem implHash (s : ByteArray) (w : World) (hs : s.size ≤ maxLen) :
 Calls Tryz.prog 93 #[.string s] w fun e w' => e = .returned (.int .i64 (hashL s.data.toList)) ∧ w' = w := by
 go_enter Tryz.func93, Tryz.ntmps93
 go_wp2_with (go_at_call 120; refine (implSteppedWith _ _ hs).mono ?_; rintro e w' ⟨rfl, rfl⟩)
 go_ret
 exact ⟨rfl, rfl⟩

end Go.Proofs.YtaidhjjpdkkmcaaGreatDoor
