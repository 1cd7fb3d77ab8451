/-
  Parts of one proof, one behind the other: LawLk.
-/
import Derived.Test.YtenaaneckobdpaaGreatP36
import Derived.Test.YtenaaneckobdpaaGreatP26
import Derived.Test.YtenaaneckobdpaaGreatP29
namespace Go.Proofs.YtenaaneckobdpaaGreat
open Go.RowKit
theorem zgf (os : List Ob) : zc0 (zaM os) ∧ (zaM os).length ≤ 64 := by
 by_cases h : zbb os = 0
 ·
  obtain ⟨h1, h2, h3, _, _⟩ := zew h
  have e1 : zaM os = zao (za2 os) := if_pos h
  have hl := zbs (zam h1).1
  have h8 := (zam h1).2
  rw [e1]
  refine ⟨(zg0 (fun r hr => zdp h1 ((zb0 _).mem_iff.1 hr))).2, ?_⟩
  rw [zeV]
  omega
 ·
  rw [zev h]
  exact ⟨(zg0 (rs := []) (by simp)).2, by simp⟩
def Bk16 (W : World) (os : List Ob) (n q : Nat) (zs : List Value) : Prop := zs.length = q * 3 ∧ ∀ j, j < q → ∃ ia il ic fa fl fc, zs[j * 3]? = some (.string ⟨(os.getD (n - 1 - j) ob0).1.toArray⟩) ∧ zs[j * 3 + 1]? = some (.slice ia il ic) ∧ zs[j * 3 + 2]? = some (.slice fa fl fc) ∧
 ∀ Z, Below W.heap.size W Z → ObOk Z (os.getD (n - 1 - j) ob0).1 ia il ic fa fl fc (os.getD (n - 1 - j) ob0).2.1 (os.getD (n - 1 - j) ob0).2.2
theorem src3 (W : World) (u0 u1 u2 : Value) (c : Nat) (h0 : u0.oneCell' = true) (h1 : u1.oneCell' = true) (h2 : u2.oneCell' = true) : Src (W.alloc (.cells #[u0, u1, u2] 37)) (.slice (some ⟨W.heap.size, 0, none⟩) 1 c) 1 3 [u0, u1, u2] := by
 refine ⟨rfl, fun u hu => ?_, Or.inr ⟨_, c, rfl, fun j u hu => ?_⟩⟩
 ·
  simp only [List.mem_cons, List.not_mem_nil, or_false] at hu
  rcases hu with rfl | rfl | rfl <;> assumption
 ·
  rw [zcc, Nat.zero_add]
  match j, hu with
  | 0, hu => simp at hu; subst hu; simp
  | 1, hu => simp at hu; subst hu; simp
  | 2, hu => simp at hu; subst hu; simp
  | j + 3, hu => simp at hu
theorem Bk16.step {W X : World} {os : List Ob} {n q g c H : Nat} {zs : List Value} (h : Bk16 W os n q zs) (hr : X.ownsRow H 37 3 (.slice (some ⟨g, 0, none⟩) q c) q zs) (hH : H ≤ X.heap.size) (hq : q < n) (hn : n ≤ 100)
 {ia il ic fa fl fc} (hok : ∀ Z, Below W.heap.size W Z → ObOk Z (os.getD (n - 1 - q) ob0).1 ia il ic fa fl fc (os.getD (n - 1 - q) ob0).2.1 (os.getD (n - 1 - q) ob0).2.2) :
 ∃ g' c' Y zs', (Builtin.append_ #[24, 24] 24 #[.slice (some ⟨g, 0, none⟩) q c, .slice (some ⟨X.heap.size, 0, none⟩) 1 1]).run Tryz.prog (X.alloc (.cells #[.string ⟨(os.getD (n - 1 - q) ob0).1.toArray⟩, .slice ia il ic, .slice fa fl fc] 37)) = .ok (.slice (some ⟨g', 0, none⟩) (q + 1) c') Y ∧
  Y.ownsRow H 37 3 (.slice (some ⟨g', 0, none⟩) (q + 1) c') (q + 1) zs' ∧ Bk16 W os n (q + 1) zs' ∧ X.grownBy Y (some g) := by
 obtain ⟨i0, hi, hz0, hz1, hz2⟩ := info_parts zhY
 obtain ⟨v', Y, hrun, hown, hg, _⟩ := zal (P := Tryz.prog) (X.alloc (.cells #[.string ⟨(os.getD (n - 1 - q) ob0).1.toArray⟩, .slice ia il ic, .slice fa fl fc] 37)) H 24 24 37 i0 _ 3 64 Tryz.underlying24 hi hz0 hz1 hz2 rfl (by decide) _ _ _ (hr.alloc _) _ 1 _ (src3 X (.string ⟨(os.getD (n - 1 - q) ob0).1.toArray⟩) (.slice ia il ic) (.slice fa fl fc) 1 rfl rfl rfl) (by unfold maxLen; omega) (by omega) (by simp; omega)
 obtain ⟨g', c', rfl⟩ := za9 hown (by omega)
 refine ⟨g', c', Y, _, hrun, hown, ⟨by rw [List.length_append, h.1]; simp; omega, fun j hj => ?_⟩, (World.grownBy_alloc X _ _).trans hg⟩
 rcases Nat.lt_or_ge j q with hjq | hjq
 ·
  obtain ⟨ia, il, ic, fa, fl, fc, z0, z1, z2, hz⟩ := h.2 j hjq
  have hl := h.1
  exact ⟨ia, il, ic, fa, fl, fc, by rw [List.getElem?_append_left (by omega)]; exact z0, by rw [List.getElem?_append_left (by omega)]; exact z1, by rw [List.getElem?_append_left (by omega)]; exact z2, hz⟩
 ·
  obtain rfl : j = q := by omega
  have hl := h.1
  exact ⟨ia, il, ic, fa, fl, fc, by rw [List.getElem?_append_right (by omega), hl, Nat.sub_self]; rfl, by rw [List.getElem?_append_right (by omega), hl, Nat.add_sub_cancel_left]; rfl, by rw [List.getElem?_append_right (by omega), hl, Nat.add_sub_cancel_left]; rfl, hok⟩
theorem Bk16.ok {W X : World} {os : List Ob} {n g c H : Nat} {zs : List Value} (h : Bk16 W os n n zs) (hr : X.ownsRow H 37 3 (.slice (some ⟨g, 0, none⟩) n c) n zs) (hl : os.length = n) (hn : n ≤ 100) (hb : Below W.heap.size W X) : zaY X (some ⟨g, 0, none⟩) n c os.reverse := by
 refine ⟨by rw [List.length_reverse, hl], (fun e => by cases e), (zcg hr).1, by omega, fun j hj => ?_⟩
 obtain ⟨ia, il, ic, fa, fl, fc, z0, z1, z2, hz⟩ := h.2 j hj
 have e : os.reverse.getD j ob0 = os.getD (n - 1 - j) ob0 := by
  rw [List.getD_eq_getElem?_getD, List.getElem?_reverse (by omega), hl, List.getD_eq_getElem?_getD]
 have hlz := h.1
 rw [e]
 refine ⟨g, 0, rfl, (hr.lt g rfl).2, ?_, ia, il, ic, fa, fl, fc, ?_, ?_, hz X hb⟩
 ·
  rw [Nat.zero_add, World.ownsRow.cellAt hr (j * 3) (by omega), z0]
 ·
  rw [Nat.zero_add, World.ownsRow.cellAt hr (j * 3 + 1) (by omega), z1]
 ·
  rw [Nat.zero_add, World.ownsRow.cellAt hr (j * 3 + 2) (by omega), z2]
set_option maxHeartbeats 1000000 in
set_option maxRecDepth 100000 in
theorem zfO (w : World) (a : Option Addr) (len cap : Nat) (hl : len ≤ 4096) (hc : Code w w.heap.size a len) :
 Calls Tryz.prog 17 #[.slice a len cap] w fun e w' => ∃ la n c os, e = .returned (.slice la n c) ∧ n ≤ 6 ∧ zaY w' la n c os ∧ Below w.heap.size w w' := by
 go_enter Tryz.func17, Tryz.ntmps17
 go_wp2_with fail
 refine (drawNew _ a len cap hl hc).mono ?_
 rintro e w1 ⟨rfl, hc1, hg1⟩
 have hB1 : Below w.heap.size w w1 := (Below.refl _ _).grown hg1 (Nat.le_refl _) (by simp)
 go_wp2_with fail
 refine (drawObs w1 w.heap.size a len cap hc1).mono ?_
 rintro e w2 ⟨v, rfl, la, n, c, os, rfl, hn, hok, hc2, hg2⟩
 have hB2 := hB1.grown hg2 hB1.size (fun k e => by injection e with e; omega)
 have HOK : Hid (zaY w2 la n c os) := hok
 clear hok
 go_wp2_with fail
 go_ret
 exact ⟨la, n, c, os, rfl, hn, HOK.out, hB2⟩
set_option maxHeartbeats 1000000 in
set_option maxRecDepth 100000 in
theorem zgA (w : World) (a : Option Addr) (len cap : Nat) (hl : len ≤ 4096) (hc : Code w w.heap.size a len) :
 Calls Tryz.prog 5 #[.slice a len cap] w fun e w' => ∃ la n c os, e = .returned (.slice la n c) ∧ n ≤ 6 ∧ zaY w' la n c os ∧ Below w.heap.size w w' := by
 go_enter Tryz.func5, Tryz.ntmps5
 go_wp2_with fail
 refine (zfO w a len cap hl hc).mono ?_
 rintro e w2 ⟨la, n, c, os, rfl, hn, hok, hB2⟩
 have HOK : Hid (zaY w2 la n c os) := hok
 clear hok
 go_wp2_with fail
 go_ret
 exact ⟨la, n, c, os, rfl, hn, HOK.out, hB2⟩
structure Lk16S (w Z : World) (la : Option Addr) (n c : Nat) (os : List Ob) (D4 D8 : Nat) (a1 : Option Addr) (c1 : Nat) (a8 : Option Addr) (c8 nM : Nat) (M : List Rt) (g5 c5 dl : Nat) (ds : List (List UInt8)) (g6 c6 ml : Nat) (ms : List (List UInt8)) : Prop where
 ok : zaY Z la n c os
 m : Z.cell? ⟨D4, 0, none⟩ = some (.slice a1 nM c1)
 x : Z.cell? ⟨D8, 0, none⟩ = some (.slice a8 nM c8)
 mi : zbp Z a1 nM M
 xi : zbp Z a8 nM M
 d : zah Z (some ⟨g5, 0, none⟩) dl ds
 ms : zah Z (some ⟨g6, 0, none⟩) ml ms
 b : Below w.heap.size w Z
set_option maxHeartbeats 16000000 in
set_option maxRecDepth 100000 in
theorem zjJ (w : World) (a : Option Addr) (len cap : Nat) (hcode : Code w w.heap.size a len) :
 Calls Tryz.prog 3 #[.slice a len cap] w fun e w' => e = .returned (.bool true) ∧ Below w.heap.size w w' := by
 by_cases hbig : 4096 < (len : Int)
 ·
  have hd : decide (4096 < (len : Int)) = true := decide_eq_true hbig
  go_enter Tryz.func3, Tryz.ntmps3
  go_wp2_with (go_at_call 4; refine (bigB _ _ _ _).mono ?_; rintro e w' ⟨rfl, rfl⟩)
  go_ret
  exact ⟨rfl, Below.refl _ _⟩
 have hd : decide (4096 < (len : Int)) = false := decide_eq_false hbig
 have hl : len ≤ 4096 := by omega
 go_enter Tryz.func3, Tryz.ntmps3
 go_wp2_with fail
 refine (bigB _ _ _ _).mono ?_
 rintro e w1 ⟨rfl, hw1⟩
 obtain rfl := hw1.symm
 go_wp2_with fail
 refine (zgA _ _ _ _ hl hcode).mono ?_
 rintro e w2 ⟨la, n, c, os, rfl, hn6, hok, hB2⟩
 have HOk : Hid (∀ Z, Below w2.heap.size w2 Z → zaY Z la n c os) := fun Z hz => hok.below hz
 have HB2 : Hid (Below w.heap.size w w2) := hB2
 have HOl : Hid (os.length = n) := hok.hlen
 have HK1 : Hid (_) := zfd la n c os w2 hok
 have HSh : Hid (zdl os) := hok.short
 obtain ⟨M, hM⟩ : ∃ M, zaM os = M := ⟨_, rfl⟩
 have HM : Hid (zaM os = M) := hM
 obtain ⟨k, hk⟩ : ∃ k, zbb os = k := ⟨_, rfl⟩
 have HKc : Hid (zbb os = k) := hk
 obtain ⟨hsM, hlM⟩ := zgf os
 rw [hM] at hsM hlM
 have HSM : Hid (zc0 M) := hsM
 obtain ⟨ds, hds⟩ : ∃ ds, zau os = ds := ⟨_, rfl⟩
 have HDs : Hid (zau os = ds) := hds
 obtain ⟨ms, hms⟩ : ∃ ms, zax os = ms := ⟨_, rfl⟩
 have HMs : Hid (zax os = ms) := hms
 have hdl := zgB os
 have hml := zgd os
 rw [hds] at hdl
 rw [hms] at hml
 obtain ⟨dl, hdle⟩ : ∃ dl, ds.length = dl := ⟨_, rfl⟩
 obtain ⟨ml, hmle⟩ : ∃ ml, ms.length = ml := ⟨_, rfl⟩
 rw [hdle] at hdl
 rw [hmle] at hml
 obtain ⟨nM, hnM⟩ : ∃ nM, M.length = nM := ⟨_, rfl⟩
 rw [hnM] at hlM
 have HnM : Hid (M.length = nM) := hnM
 have Hdl : Hid (ds.length = dl) := hdle
 have Hml : Hid (ms.length = ml) := hmle
 clear hok hB2 hcode hM hk hds hms hsM hdle hmle hnM hbig
 go_wp2_with fail
 refine Calls.mono HK1.out ?_
 rintro e w3 ⟨v1, xs1, rfl, hx1, hof1, _, hb3⟩
 rw [HM.out] at hx1
 rw [HKc.out]
 obtain ⟨a1, c1, rfl, _, hin1⟩ := hof1.in
 rw [hx1] at hin1
 have hxl1 : xs1.length = nM := by rw [← HnM.out, ← hx1, List.length_map]
 rw [hxl1] at hin1 ⊢
 have hA4 := heap_alloc_new w3 (.cells #[.slice a1 nM c1] 28)
 have hb4 : Below w3.heap.size w3 (w3.alloc (.cells #[.slice a1 nM c1] 28)) := (Below.refl _ _).alloc (Nat.le_refl _) _
 obtain ⟨w4, hw4⟩ : ∃ W, w3.alloc (.cells #[.slice a1 nM c1] 28) = W := ⟨_, rfl⟩
 rw [hw4] at hA4 hb4
 obtain ⟨D4, hD4⟩ : ∃ D, w3.heap.size = D := ⟨_, rfl⟩
 rw [hD4] at hA4
 have H4 : Hid (w4.cell? ⟨D4, 0, none⟩ = some (.slice a1 nM c1) ∧ zbp w4 a1 nM M ∧ Below w2.heap.size w2 w4) := ⟨cell_of_one hA4, hin1.below hb4, hb3.trans (hb4.mono hb3.size)⟩
 have HC5 : Hid (_) := zhh la n c os w4 (HOk.out w4 H4.out.2.2)
 rw [HDs.out, Hdl.out] at HC5
 clear hx1 hof1 hin1 hxl1 hA4 hb4 hb3 HK1
 go_wp2_with fail
 refine Calls.mono HC5.out ?_
 rintro e w5 ⟨g5, c5, rfl, ho5, hb5⟩
 obtain ⟨_, ad5, cd5, e5, hin5⟩ := zbt ho5
 injection e5 with e5 _ e5c
 subst e5 e5c
 have HC6 : Hid (_) := zhf la n c os w5 (HOk.out w5 (H4.out.2.2.trans (hb5.mono H4.out.2.2.size)))
 rw [HMs.out, Hml.out] at HC6
 have HB5 : Hid (Below w4.heap.size w4 w5) := hb5
 have HI5 : Hid (zah w5 (some ⟨g5, 0, none⟩) dl ds) := hin5
 clear HC5 ho5 hb5 hin5 hD4 hw4
 go_wp2_with fail
 refine Calls.mono HC6.out ?_
 rintro e w6 ⟨g6, c6, rfl, ho6, hb6⟩
 obtain ⟨_, ad6, cd6, e6, hin6⟩ := zbt ho6
 injection e6 with e6 _ e6c
 subst e6 e6c
 have hb46 := HB5.out.trans (hb6.mono HB5.out.size)
 have hb26 := H4.out.2.2.trans (hb46.mono H4.out.2.2.size)
 have HC7 : Hid (_) := zif la n c os w6 (HOk.out w6 hb26).in (by omega) HSh.out
 have HB46 : Hid (Below w4.heap.size w4 w6 ∧ Below w5.heap.size w5 w6) := ⟨hb46, hb6⟩
 have HI6 : Hid (zah w6 (some ⟨g6, 0, none⟩) ml ms) := hin6
 clear HC6 ho6 hb6 hin6 hb46 hb26
 go_wp2_with fail
 refine Calls.mono HC7.out ?_
 rintro e w7 ⟨v8, xs8, rfl, hx8, hof8, hb7⟩
 rw [HM.out] at hx8
 rw [HKc.out]
 obtain ⟨a8, c8, rfl, _, hin8⟩ := hof8.in
 rw [hx8] at hin8
 have hxl8 : xs8.length = nM := by rw [← HnM.out, ← hx8, List.length_map]
 rw [hxl8] at hin8 ⊢
 have hA8 := heap_alloc_new w7 (.cells #[.slice a8 nM c8] 28)
 have hb8 : Below w7.heap.size w7 (w7.alloc (.cells #[.slice a8 nM c8] 28)) := (Below.refl _ _).alloc (Nat.le_refl _) _
 obtain ⟨w8, hw8⟩ : ∃ W, w7.alloc (.cells #[.slice a8 nM c8] 28) = W := ⟨_, rfl⟩
 rw [hw8] at hA8 hb8
 obtain ⟨D8, hD8⟩ : ∃ D, w7.heap.size = D := ⟨_, rfl⟩
 rw [hD8] at hA8
 have hb68 := hb7.trans (hb8.mono hb7.size)
 have hb48 := HB46.out.1.trans (hb68.mono HB46.out.1.size)
 have hb58 := HB46.out.2.trans (hb68.mono HB46.out.2.size)
 have hb28 := H4.out.2.2.trans (hb48.mono H4.out.2.2.size)
 have HS : Hid (∀ Z, Below w8.heap.size w8 Z → Lk16S w Z la n c os D4 D8 a1 c1 a8 c8 nM M g5 c5 dl ds g6 c6 ml ms) := fun Z hz =>
  ⟨HOk.out Z (hb28.trans (hz.mono hb28.size)), ((hb48.trans (hz.mono hb48.size)).cell (p := ⟨D4, 0, none⟩) (World.block_lt_of_cell? _ _ H4.out.1)).trans H4.out.1, (hz.cell (p := ⟨D8, 0, none⟩) (lt_of_block hA8)).trans (cell_of_one hA8), H4.out.2.1.below (hb48.trans (hz.mono hb48.size)), (hin8.below hb8).below hz,
   HI5.out.below (hb58.trans (hz.mono hb58.size)), HI6.out.below (hb68.trans (hz.mono hb68.size)), HB2.out.trans ((hb28.trans (hz.mono hb28.size)).mono HB2.out.size)⟩
 clear HC7 hx8 hof8 hin8 hxl8 hA8 hb8 hb7 hb68 hb48 hb58 hb28 H4 HB5 HI5 HI6 HB46 HOk HB2
 have hself : (k != k) = false := by simp
 have s8 := HS.out w8 (Below.refl _ _)
 have m8 := s8.m
 have x8 := s8.x
 have HC9 : Hid (_) := zdv a1 a8 nM c1 c8 M w8 s8.mi s8.xi (by omega) (fun j => Nat.le_trans (HSM.out j).2.1 (by omega))
 clear s8
 go_wp2_with fail
 refine Calls.mono HC9.out ?_
 rintro e w9 ⟨rfl, hb9⟩
 have HB9 : Hid (Below w8.heap.size w8 w9) := hb9
 have s9 := HS.out w9 hb9
 have HC10 : Hid (_) := zgU la n c os w9 s9.ok.in (by omega) HSh.out
 rw [HDs.out, Hdl.out] at HC10
 clear HC9 hb9 s9 m8 x8 hw8 hD8
 go_wp2_with fail
 refine Calls.mono HC10.out ?_
 rintro e w10 ⟨g10, c10, rfl, ho10, hb10⟩
 obtain ⟨_, ad10, cd10, e10, hin10⟩ := zbt ho10
 injection e10 with e10 _ e10c
 subst e10 e10c
 have hb810 := HB9.out.trans (hb10.mono HB9.out.size)
 have HB10 : Hid (Below w8.heap.size w8 w10) := hb810
 have HC11 : Hid (_) := zdO (some ⟨g5, 0, none⟩) (some ⟨g10, 0, none⟩) dl c5 c10 ds w10 (HS.out w10 hb810).d hin10 (by omega)
 clear HC10 ho10 hb10 hin10 hb810 HB9
 go_wp2_with fail
 refine Calls.mono HC11.out ?_
 rintro e w11 ⟨rfl, hb11⟩
 have hb811 := HB10.out.trans (hb11.mono HB10.out.size)
 have HB11 : Hid (Below w8.heap.size w8 w11) := hb811
 have HC12 : Hid (_) := zgR la n c os w11 (HS.out w11 hb811).ok.in (by omega) HSh.out
 rw [HMs.out, Hml.out] at HC12
 clear HC11 hb11 hb811 HB10
 go_wp2_with fail
 refine Calls.mono HC12.out ?_
 rintro e w12 ⟨g12, c12, rfl, ho12, hb12⟩
 obtain ⟨_, ad12, cd12, e12, hin12⟩ := zbt ho12
 injection e12 with e12 _ e12c
 subst e12 e12c
 have hb812 := HB11.out.trans (hb12.mono HB11.out.size)
 have HB12 : Hid (Below w8.heap.size w8 w12) := hb812
 have HC13 : Hid (_) := zdO (some ⟨g6, 0, none⟩) (some ⟨g12, 0, none⟩) ml c6 c12 ms w12 (HS.out w12 hb812).ms hin12 (by omega)
 clear HC12 ho12 hb12 hin12 hb812 HB11
 go_wp2_with fail
 refine Calls.mono HC13.out ?_
 rintro e w13 ⟨rfl, hb13⟩
 have hb813 := HB12.out.trans (hb13.mono HB12.out.size)
 have HB13 : Hid (Below w8.heap.size w8 w13) := hb813
 have HC14 : Hid (_) := zhW (some ⟨g5, 0, none⟩) dl c5 ds w13 (HS.out w13 hb813).d (by omega)
 have hrd : zcJ ds = true := by rw [← HDs.out]; exact zjk zfQ
 have hrm : zcJ ms = true := by rw [← HMs.out]; exact zjk zfx
 rw [hrd] at HC14
 clear HC13 hb13 hb813 HB12 hrd
 go_wp2_with fail
 refine Calls.mono HC14.out ?_
 rintro e w14 ⟨rfl, hb14⟩
 have hb814 := HB13.out.trans (hb14.mono HB13.out.size)
 have HB14 : Hid (Below w8.heap.size w8 w14) := hb814
 have HC15 : Hid (_) := zhW (some ⟨g6, 0, none⟩) ml c6 ms w14 (HS.out w14 hb814).ms (by omega)
 rw [hrm] at HC15
 clear HC14 hb14 hb814 HB13 hrm
 go_wp2_with fail
 refine Calls.mono HC15.out ?_
 rintro e w15 ⟨rfl, hb15⟩
 have HB15 : Hid (Below w8.heap.size w8 w15) := HB14.out.trans (hb15.mono HB14.out.size)
 clear HC15 hb15 HB14
 have hrow0 := World.ownsRow_lit (base := w15.heap.size) (e := 37) (size := 3) w15 #[] 0 (Nat.le_refl _) (by decide) rfl
 have hbb0 : Below w15.heap.size w15 (w15.alloc (.cells #[] 37)) := (Below.refl _ _).alloc (Nat.le_refl _) _
 obtain ⟨H, hH⟩ : ∃ H, w15.heap.size = H := ⟨_, rfl⟩
 rw [hH] at hrow0 hbb0
 have HRow0 : Hid ((w15.alloc (.cells #[] 37)).ownsRow H 37 3 (.slice (some ⟨H, 0, none⟩) 0 0) 0 []) := hrow0
 have HBb0 : Hid (Below H w15 (w15.alloc (.cells #[] 37))) := hbb0
 have HH : Hid (w15.heap.size = H) := hH
 clear hrow0 hbb0
 go_wp2
 go_loopw [10, 11] (fun bv iv wx => ∃ (q g c' : Nat) (zs : List Value), bv = .slice (some ⟨g, 0, none⟩) q c' ∧ iv = .int .i64 ((n : Int) - 1 - (q : Int)) ∧ q ≤ n ∧ Hid (wx.ownsRow H 37 3 (.slice (some ⟨g, 0, none⟩) q c') q zs) ∧ Hid (Bk16 w15 os n q zs) ∧ Hid (Below H w15 wx)) (fun _ iv _ => (intOf iv + 1).toNat)
 case atStart => exact ⟨0, H, 0, [], by first | rfl | (rw [hH]; rfl), by first | rfl | simp | go_num, Nat.zero_le _, HRow0, (⟨rfl, fun j hj => absurd hj (Nat.not_lt_zero _)⟩ : Bk16 w15 os n 0 []), HBb0⟩
 case round =>
  obtain ⟨q, g, c', zs, rfl, rfl, hq, HR, HK, HB⟩ := hrel
  clear HRow0 HBb0 hH
  by_cases hqn : q < n
  ·
   have hi0 : (0 : Int) ≤ (n : Int) - 1 - (q : Int) := by omega
   have hin : (n : Int) - 1 - (q : Int) < (n : Int) := by omega
   have hix : ((n : Int) - 1 - (q : Int)).toNat = n - 1 - q := by omega
   obtain ⟨b, off, rfl, hbl, c0, ia, il, ic, fa, fl, fc, c1, c2, hok⟩ := (HS.out w15 HB15.out).ok.each (n - 1 - q) (by omega)
   have hbw : Below w15.heap.size w15 wr := by rw [HH.out]; exact HB.out
   have r0 := (hbw.cell (p := ⟨b, off + (n - 1 - q) * 3, none⟩) hbl).trans c0
   have r1 := (hbw.cell (p := ⟨b, off + (n - 1 - q) * 3 + 1, none⟩) hbl).trans c1
   have r2 := (hbw.cell (p := ⟨b, off + (n - 1 - q) * 3 + 2, none⟩) hbl).trans c2
   obtain ⟨g', c2', Y, zs', hr, hrow, hbk, hg⟩ := HK.out.step HR.out (by have := HH.out; have := hbw.size; omega) hqn (by omega) (fun Z hz => hok.below hz)
   have HRY : Hid (Y.ownsRow H 37 3 (.slice (some ⟨g', 0, none⟩) (q + 1) c2') (q + 1) zs') := hrow
   have HKY : Hid (Bk16 w15 os n (q + 1) zs') := hbk
   have HBY : Hid (Below H w15 Y) := HB.out.grown hg (by have := HH.out; have := hbw.size; omega) (fun e he => by injection he with he; have := (HR.out.lt g rfl).1; omega)
   obtain ⟨nm, hnm⟩ : ∃ nm, (os.getD (n - 1 - q) ob0).1 = nm := ⟨_, rfl⟩
   rw [hnm] at r0 hr
   clear hrow hbk hg hok hbw c0 c1 c2 hnm HR HK HB
   go_wp2_with (at_builtin; refine za0 rfl _ _ 24 rfl _ _ _ rfl rfl hr ?_)
   go_roundw
   case rel => exact ⟨q + 1, g', c2', zs', by first | rfl | simp, by first | rfl | go_num | (congr 1; omega) | (simp; omega), by omega, HRY, HKY, HBY⟩
   case measure => simp [intOf]; omega
  ·
   obtain rfl : q = n := by omega
   have hb15 : Below w15.heap.size w15 wr := by rw [HH.out]; exact HB.out
   have hOr : zaY wr (some ⟨g, 0, none⟩) q c' os.reverse := HK.out.ok HR.out HOl.out (by omega) hb15
   have hbr : Below w8.heap.size w8 wr := HB15.out.trans (hb15.mono HB15.out.size)
   have HBr : Hid (Below w8.heap.size w8 wr) := hbr
   have HC16 : Hid (_) := zfd (some ⟨g, 0, none⟩) q c' os.reverse wr hOr
   have HKr : Hid (zbb os.reverse = k) := by exact ((zf9 (List.reverse_perm os)).trans HKc.out : zbb os.reverse = k)
   have HMr : Hid (zaM os.reverse = M) := by exact ((zgg (List.reverse_perm os)).trans HM.out : zaM os.reverse = M)
   clear hb15 hOr hbr HB15 HB HR HK hqn hq
   go_wp2_with fail
   refine Calls.mono HC16.out ?_
   rintro e w16 ⟨v9, xs9, rfl, hx9, hof9, _, hb16⟩
   rw [HMr.out] at hx9
   rw [HKr.out]
   obtain ⟨a9, c9, rfl, _, hin9⟩ := hof9.in
   rw [hx9] at hin9
   have hxl9 : xs9.length = nM := by rw [← HnM.out, ← hx9, List.length_map]
   rw [hxl9] at hin9 ⊢
   have hA17 := heap_alloc_new w16 (.cells #[.slice a9 nM c9] 28)
   have hb17 : Below w16.heap.size w16 (w16.alloc (.cells #[.slice a9 nM c9] 28)) := (Below.refl _ _).alloc (Nat.le_refl _) _
   obtain ⟨w17, hw17⟩ : ∃ W, w16.alloc (.cells #[.slice a9 nM c9] 28) = W := ⟨_, rfl⟩
   rw [hw17] at hA17 hb17
   obtain ⟨D9, hD9⟩ : ∃ D, w16.heap.size = D := ⟨_, rfl⟩
   rw [hD9] at hA17
   have hb816 := HBr.out.trans (hb16.mono HBr.out.size)
   have hb817 := hb816.trans (hb17.mono hb816.size)
   have s17 := HS.out w17 hb817
   have HB17 : Hid (Below w8.heap.size w8 w17) := hb817
   have m17 := s17.m
   have x17 : w17.cell? ⟨D9, 0, none⟩ = some (.slice a9 nM c9) := cell_of_one hA17
   have HC17 : Hid (_) := zdv a9 a1 nM c9 c1 M w17 (hin9.below hb17) s17.mi (by omega) (fun j => Nat.le_trans (HSM.out j).2.1 (by omega))
   clear HC16 hx9 hof9 hin9 hxl9 hA17 hb17 hb16 hb816 hb817 s17 HBr HKr HMr
   go_wp2_with fail
   refine Calls.mono HC17.out ?_
   rintro e w18 ⟨rfl, hb18⟩
   have HB18 : Hid (Below w8.heap.size w8 w18) := HB17.out.trans (hb18.mono HB17.out.size)
   clear HC17 hb18 HB17 m17 x17 hw17 hD9
   go_wp2
   go_loopw [14] (fun iv wx => ∃ j : Nat, iv = .int .i64 (j : Int) ∧ j ≤ ml ∧ wx = w18) (fun iv _ => ml - (intOf iv).toNat)
   case atStart => exact ⟨0, rfl, Nat.zero_le _, rfl⟩
   case round =>
    obtain ⟨j, rfl, hj, rfl⟩ := hrel
    by_cases hjl : (j : Int) < (ml : Int)
    ·
     have s18 := HS.out _ HB18.out
     obtain ⟨b, off, he, hbl, c0⟩ := s18.ms.2 j (by omega)
     injection he with he
     injection he with e1 e2 _
     subst e1 e2
     rw [Nat.zero_add] at c0
     have hmem : ms.getD j [] ∈ ms := zeG (by rw [Hml.out]; omega)
     have hnot : ¬ ms.getD j [] ∈ ds := by
      rw [← HMs.out] at hmem ⊢
      rw [← HDs.out]
      exact zh4 hmem
     obtain ⟨t, ht⟩ : ∃ t, ms.getD j [] = t := ⟨_, rfl⟩
     rw [ht] at c0 hnot
     have HCh : Hid (_) := lawHas (some ⟨g5, 0, none⟩) dl c5 ds t _ s18.d (by omega)
     rw [decide_eq_false hnot] at HCh
     clear s18 hmem hnot ht hbl
     go_wp2_with fail
     refine Calls.mono HCh.out ?_
     rintro e wq ⟨rfl, hwq⟩
     obtain rfl := hwq.symm
     clear HCh hwq c0
     go_wp2
     go_roundw
     case rel => exact ⟨j + 1, by go_num, by omega, trivial⟩
     case measure => simp [intOf]; omega
    ·
     obtain rfl : j = ml := by omega
     have s18 := HS.out _ HB18.out
     have m18 := s18.m
     have HF : Hid (_) := s18.b
     by_cases hk0 : k = 0
     rotate_left
     ·
      have hM0 : M = [] := by rw [← HM.out]; exact zev (by rw [HKc.out]; exact hk0)
      have hn0 : nM = 0 := by rw [← HnM.out, hM0]; rfl
      subst hn0
      have hkn : (k != 0) = true := by simp [hk0]
      clear hM0 s18 hlM
      go_wp2
      go_ret
      exact ⟨rfl, HF.out⟩
     ·
      subst hk0
      obtain ⟨f1, f2, f3⟩ := zit HKc.out
      rw [HM.out] at f1 f3
      rw [HDs.out] at f1
      rw [HMs.out] at f2
      have hm0 : j = 0 := by rw [← Hml.out, f2]; rfl
      have HJ : Hid (j = 0) := hm0
      have hj64 : j ≤ 64 := by omega
      clear hm0
      have hnd : nM = dl := by rw [← Hdl.out, ← f1, ← HnM.out]; unfold zaw; rw [List.length_map]
      subst hnd
      have HN16 : Hid (zaw M = ds) := f1
      have HIm : Hid (zbM M = true) := f3
      clear f1 f2 f3 s18 hjl
      have hrow0 := World.ownsRow_lit (base := wr.heap.size) (e := 9) (size := 1) wr #[] 0 (Nat.le_refl _) (by decide) rfl
      have hbb0 := HB18.out.trans ((((Below.refl wr.heap.size wr).alloc (Nat.le_refl _) (.cells #[] 9))).mono HB18.out.size)
      have hH8 : w8.heap.size ≤ wr.heap.size := HB18.out.size
      obtain ⟨H2, hH2⟩ : ∃ H, wr.heap.size = H := ⟨_, rfl⟩
      rw [hH2] at hrow0 hH8
      have HRow0 : Hid ((wr.alloc (.cells #[] 9)).ownsRow H2 9 1 (.slice (some ⟨H2, 0, none⟩) 0 0) 0 (strV ((zaw M).take 0))) := hrow0
      have HBb0 : Hid (Below w8.heap.size w8 (wr.alloc (.cells #[] 9))) := hbb0
      have HH2 : Hid (w8.heap.size ≤ H2) := hH8
      clear hrow0 hbb0 hH8 HB18 HF
      go_wp2
      go_loopw [15, 16] (fun nv iv wx => ∃ i g2 cn : Nat, nv = .slice (some ⟨g2, 0, none⟩) i cn ∧ iv = .int .i64 (i : Int) ∧ i ≤ nM ∧ Hid (wx.ownsRow H2 9 1 (.slice (some ⟨g2, 0, none⟩) i cn) i (strV ((zaw M).take i))) ∧ Hid (Below w8.heap.size w8 wx)) (fun _ iv _ => nM - (intOf iv).toNat)
      case atStart => exact ⟨0, H2, 0, by first | rfl | (rw [hH2]; rfl), rfl, Nat.zero_le _, HRow0, HBb0⟩
      case round =>
       obtain ⟨i, g2, cn, rfl, rfl, hi, HR, HB⟩ := hrel
       have sr := HS.out _ HB.out
       have mr := sr.m
       clear HRow0 HBb0 hH2 m18
       by_cases him : (i : Int) < (nM : Int)
       ·
        have hin2 := sr.mi.2 i (by omega)
        obtain ⟨b, off, rfl, hbl, c0, _⟩ := hin2
        obtain ⟨t, ht⟩ : ∃ t, (M.getD i rt0).1 = t := ⟨_, rfl⟩
        rw [ht] at c0
        have htk : (zaw M).take (i + 1) = (zaw M).take i ++ [t] := by
         have hiM : i < M.length := by rw [HnM.out]; omega
         unfold zaw
         rw [← List.map_take, ← List.map_take, List.take_succ_eq_append_getElem hiM, List.map_append, ← ht]
         simp [List.getD_eq_getElem?_getD, List.getElem?_eq_getElem hiM]
        obtain ⟨v', Y, hr, hoY, hgY⟩ := zdq t HR.out (Nat.le_trans (HR.out.lt g2 rfl).1 (Nat.le_of_lt (HR.out.lt g2 rfl).2)) (by omega)
        rw [← htk] at hoY
        obtain ⟨g3, c3, rfl⟩ := za9 hoY (by omega)
        have HRY : Hid (Y.ownsRow H2 9 1 (.slice (some ⟨g3, 0, none⟩) (i + 1) c3) (i + 1) (strV ((zaw M).take (i + 1)))) := hoY
        have HBY : Hid (Below w8.heap.size w8 Y) := HB.out.grown hgY HB.out.size (fun e he => by have he2 : g2 = e := (by simpa [Value.ownBlock] using he); have := (HR.out.lt g2 rfl).1; have := HH2.out; omega)
        clear hoY hgY htk ht sr HR HB
        go_wp2_with (at_builtin; refine za0 rfl _ _ 31 rfl _ _ _ rfl rfl hr ?_)
        go_roundw
        case rel =>
         exact ⟨i + 1, g3, c3, by first | rfl | simp, by go_num, by omega, HRY, HBY⟩
        case measure => simp [intOf]; omega
       ·
        obtain rfl : i = nM := by omega
        have hnl : (zaw M).length = i := by unfold zaw; rw [List.length_map]; exact HnM.out
        have hor := HR.out
        rw [List.take_of_length_le (by omega), HN16.out] at hor
        obtain ⟨_, ad, cd, ed, hind⟩ := zbt hor
        injection ed with ed _ edc
        subst ed edc
        have HCi : Hid (_) := zek a1 i c1 M _ sr.mi HSM.out (by omega)
        rw [HIm.out] at HCi
        have HId : Hid (zah _ (some ⟨g2, 0, none⟩) i ds) := hind
        have HBq := HB
        clear hor hind hnl sr HR HB him hi
        go_wp2_with fail
        refine Calls.mono HCi.out ?_
        rintro e wi ⟨rfl, hbi⟩
        have hb8i := HBq.out.trans (hbi.mono HBq.out.size)
        have HB8i : Hid (Below w8.heap.size w8 wi) := hb8i
        have HCl : Hid (_) := zdO (some ⟨g2, 0, none⟩) (some ⟨g5, 0, none⟩) i cn c5 ds wi (HId.out.below hbi) (HS.out wi hb8i).d (by omega)
        clear HCi hbi hb8i HId HBq mr
        go_wp2_with fail
        refine Calls.mono HCl.out ?_
        rintro e wj ⟨rfl, hbj⟩
        have HF : Hid (Below w.heap.size w wj) := (HS.out wj (HB8i.out.trans (hbj.mono HB8i.out.size))).b
        obtain rfl := HJ.out
        clear HCl hbj HB8i
        go_wp2
        go_ret
        exact ⟨rfl, HF.out⟩
end Go.Proofs.YtenaaneckobdpaaGreat
