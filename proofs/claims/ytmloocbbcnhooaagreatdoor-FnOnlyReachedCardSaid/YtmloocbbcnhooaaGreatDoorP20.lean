/-
  Parts of one proof, one behind the other: ValM, ErrI.
-/
import Derived.Test.YtmloocbbcnhooaaGreatDoorP19
import Derived.BigQuiet
import Derived.Test.YtmloocbbcnhooaaGreatDoorP1
import Derived.LaidEql
import Derived.Stop.Asserts
import Derived.RowKitTokens

/-! The contracts of chapter 10's landed code: the value of a Node, whole. -/
namespace Go.Proofs.YtmloocbbcnhooaaGreatDoor
open Go.RowKit

theorem end_leaf {t : List Nd} {a : Nat} (hp : 0 ≤ endV t (a : Int)) (hk : kidsN (t.getD a nd0) = 0) : endV t (a : Int) = (a : Int) + 1 := by
  obtain ⟨_, _, hc, _, _⟩ := end_parts hp
  have hc2 : chain t (kidsN (t.getD a nd0)) ((a : Int) + 1) = endV t (a : Int) := hc
  rw [hk] at hc2
  exact hc2.symm

set_option maxHeartbeats 4000000 in
set_option maxRecDepth 100000 in
theorem implVal1 (B : World) (la : Option Addr) (lc : Nat) (ps : List Pk) (_hK : PkgsOk B la ps.length lc ps) (_hflt : faultV ps = (0, [], [])) (A d : Nat) (hd : d ≤ 20000) (_ih : Vi10 B la lc ps A d)
    (Z : World) (f : Nat) (ta : Option Addr) (tc : Nat) (t : List Nd) (m : Int) (G : Nat) (aa : Option Addr) (ac : Nat) (xs : List Int) (a : Nat) (E : Env10 B ps A G ta t xs m) (hB : Below B.heap.size B Z) (hf : f + 1 < d + 1) (hA : Ak Z A (.slice la ps.length lc) (f + 1)) (hg : Go10 Z A G (.slice ta t.length tc) aa ac xs (a : Int)) (hp : 0 ≤ endV t (a : Int)) (hkd : (t.getD a nd0).1 = 1) :
    Calls Tryz.prog 60 #[.pointer (some ⟨A, 0, none⟩), .pointer (some ⟨G, 0, none⟩)] Z (Post10 Z A G (.slice la ps.length lc) (.slice ta t.length tc) aa ac xs (endV t (a : Int)) (val10 ps (d + 1) t (a : Int) xs (f + 1, 0))) := by
  rw [val_node]
  obtain ⟨hal, _, _, _, _⟩ := end_parts hp
  have hmem : t.getD a nd0 ∈ t := by simp [List.getD, hal]
  have hA1 := hA.fuel f
  have hw1 : Wr Z (Z.setCell ⟨A, 1, none⟩ (.int .i64 (f : Int))) A := wr_set Z A 1 _
  have hg1 := hg.wrote hw1 (fun _ e => e)
  have HBu : Hid (_) := implBurn Z A f (.slice la ps.length lc) hA (by omega)
  obtain ⟨Z1, hZ1⟩ : ∃ Z1, Z.setCell ⟨A, 1, none⟩ (.int .i64 (f : Int)) = Z1 := ⟨_, rfl⟩
  rw [hZ1] at hA1 hw1 hg1 HBu
  have hW1 : W2 Z Z1 A G := hw1.mono (fun k e => Or.inl e)
  have hAG : A ≠ G := hg.ne.symm
  have HTk : Hid (_) := implTaken10 Z1 G ta tc t (.slice aa xs.length ac) a hg1.bx (E.inn.below (w2_base hB E.hA E.hG hW1)) (fun b off e => by
    obtain ⟨b', o', e', hl, _⟩ := E.inn.2 a hal
    rw [e] at e'
    simp only [Option.some.injEq, Addr.mk.injEq, and_true] at e'
    have := E.hG
    omega) hal E.len
  have hq := end_leaf hp (by unfold kidsN; rw [if_neg (by omega), if_neg (by omega), if_neg (by omega)])
  rw [hq]
  obtain ⟨n, hn⟩ : ∃ n, t.getD a nd0 = n := ⟨_, rfl⟩
  rw [hn] at hkd HTk hmem ⊢
  obtain ⟨kd, nA, np, nf⟩ := n
  simp only at hkd
  unfold nodeVal at HTk
  simp only at HTk
  subst hkd
  have hr : node10 ps (val10 ps d) t (a : Int) xs (1, nA, np, nf) (f, 0) = (nA, (f, 0)) := rfl
  rw [hr]
  clear hr
  -- behind the Node that was taken
  have HSt : Hid (∀ Z2, Bk Z2 G (.slice ta t.length tc) (.slice aa xs.length ac) (.int .i64 ((a : Int) + 1)) → Wrote Z1 Z2 (fun k => k = G) → ∀ Y, Below Z2.heap.size Z2 Y → Ak Y A (.slice la ps.length lc) f ∧ Go10 Y A G (.slice ta t.length tc) aa ac xs ((a + 1 : Nat) : Int) ∧ W2 Z Y A G ∧ Below B.heap.size B Y) := fun Z2 hbk hw Y hy => by
    have hW2 : W2 Z Z2 A G := hW1.trans (hw.mono (fun k e => Or.inr e))
    have hWY : W2 Z Y A G := hW2.trans (Wrote.of_below hy)
    exact ⟨(hA1.wrote hw hAG).below hy, (hg1.next hw hbk).below hy, hWY, w2_base hB E.hA E.hG hWY⟩
  clear hB hA hg hA1 hw1 hg1 hW1 hn hmem
  go_enter Tryz.func60, Tryz.ntmps60
  go_wp2_with fail
  refine Calls.mono HBu.out ?_
  rintro e w1 ⟨rfl, hw9⟩
  obtain rfl := hw9.symm
  clear hw9 HBu
  go_wp2_with fail
  refine Calls.mono HTk.out ?_
  rintro e Z2 ⟨rfl, hbk2, hw2⟩
  obtain ⟨⟨n0, n1, n2, n3⟩, hb3⟩ := node_new Z2 (.int .i64 1) (.int .i64 nA) (.string ⟨np.toArray⟩) (.string ⟨nf.toArray⟩) 39
  obtain ⟨Z3, hZ3⟩ : ∃ Z3, Z2.alloc (.cells #[.int .i64 1, .int .i64 nA, .string ⟨np.toArray⟩, .string ⟨nf.toArray⟩] 39) = Z3 := ⟨_, rfl⟩
  obtain ⟨N, hN⟩ : ∃ N, Z2.heap.size = N := ⟨_, rfl⟩
  rw [hZ3] at n0 n1 n2 n3 hb3
  rw [hN] at n0 n1 n2 n3
  obtain ⟨hA3, hg3, hW3, hB3⟩ := HSt.out Z2 hbk2 hw2 Z3 hb3
  have HP : Hid (Post10 Z A G (.slice la ps.length lc) (.slice ta t.length tc) aa ac xs ((a : Int) + 1) (nA, (f, 0)) (.returned (.int .i64 nA)) Z3) := ⟨hA3, hW3, Or.inl ⟨rfl, rfl, hg3⟩⟩
  clear hA3 hg3 hW3 hB3 HSt HTk hbk2 hw2 hb3 E hp hq
  go_wp2
  go_ret
  exact HP.out

set_option maxHeartbeats 4000000 in
set_option maxRecDepth 100000 in
theorem implVal2 (B : World) (la : Option Addr) (lc : Nat) (ps : List Pk) (_hK : PkgsOk B la ps.length lc ps) (_hflt : faultV ps = (0, [], [])) (A d : Nat) (hd : d ≤ 20000) (_ih : Vi10 B la lc ps A d)
    (Z : World) (f : Nat) (ta : Option Addr) (tc : Nat) (t : List Nd) (m : Int) (G : Nat) (aa : Option Addr) (ac : Nat) (xs : List Int) (a : Nat) (E : Env10 B ps A G ta t xs m) (hB : Below B.heap.size B Z) (hf : f + 1 < d + 1) (hA : Ak Z A (.slice la ps.length lc) (f + 1)) (hg : Go10 Z A G (.slice ta t.length tc) aa ac xs (a : Int)) (hp : 0 ≤ endV t (a : Int)) (hkd : (t.getD a nd0).1 = 2) :
    Calls Tryz.prog 60 #[.pointer (some ⟨A, 0, none⟩), .pointer (some ⟨G, 0, none⟩)] Z (Post10 Z A G (.slice la ps.length lc) (.slice ta t.length tc) aa ac xs (endV t (a : Int)) (val10 ps (d + 1) t (a : Int) xs (f + 1, 0))) := by
  rw [val_node]
  obtain ⟨hal, _, _, _, _⟩ := end_parts hp
  have hmem : t.getD a nd0 ∈ t := by simp [List.getD, hal]
  have hA1 := hA.fuel f
  have hw1 : Wr Z (Z.setCell ⟨A, 1, none⟩ (.int .i64 (f : Int))) A := wr_set Z A 1 _
  have hg1 := hg.wrote hw1 (fun _ e => e)
  have HBu : Hid (_) := implBurn Z A f (.slice la ps.length lc) hA (by omega)
  obtain ⟨Z1, hZ1⟩ : ∃ Z1, Z.setCell ⟨A, 1, none⟩ (.int .i64 (f : Int)) = Z1 := ⟨_, rfl⟩
  rw [hZ1] at hA1 hw1 hg1 HBu
  have hW1 : W2 Z Z1 A G := hw1.mono (fun k e => Or.inl e)
  have hAG : A ≠ G := hg.ne.symm
  have HTk : Hid (_) := implTaken10 Z1 G ta tc t (.slice aa xs.length ac) a hg1.bx (E.inn.below (w2_base hB E.hA E.hG hW1)) (fun b off e => by
    obtain ⟨b', o', e', hl, _⟩ := E.inn.2 a hal
    rw [e] at e'
    simp only [Option.some.injEq, Addr.mk.injEq, and_true] at e'
    have := E.hG
    omega) hal E.len
  have hq := end_leaf hp (by unfold kidsN; rw [if_neg (by omega), if_neg (by omega), if_neg (by omega)])
  rw [hq]
  obtain ⟨n, hn⟩ : ∃ n, t.getD a nd0 = n := ⟨_, rfl⟩
  rw [hn] at hkd HTk hmem ⊢
  obtain ⟨kd, nA, np, nf⟩ := n
  simp only at hkd
  unfold nodeVal at HTk
  simp only at HTk
  have harg := E.tr.arg _ hmem hkd
  have hmm := E.hm
  subst hkd
  simp only at harg
  obtain ⟨j, rfl⟩ : ∃ j : Nat, nA = (j : Int) := ⟨nA.toNat, by omega⟩
  have hjl : j < xs.length := by omega
  have hj2 : (j : Int) < (xs.length : Int) := by omega
  have hr : node10 ps (val10 ps d) t (a : Int) xs (2, (j : Int), np, nf) (f, 0) = (xs.getD j 0, (f, 0)) := rfl
  obtain ⟨xv, hxv⟩ : ∃ xv, xs.getD j 0 = xv := ⟨_, rfl⟩
  have HXv : Hid (xs.getD j 0 = xv) := hxv
  rw [hr, hxv]
  clear hr harg hmm hxv
  -- behind the Node that was taken
  have HSt : Hid (∀ Z2, Bk Z2 G (.slice ta t.length tc) (.slice aa xs.length ac) (.int .i64 ((a : Int) + 1)) → Wrote Z1 Z2 (fun k => k = G) → ∀ Y, Below Z2.heap.size Z2 Y → Ak Y A (.slice la ps.length lc) f ∧ Go10 Y A G (.slice ta t.length tc) aa ac xs ((a + 1 : Nat) : Int) ∧ W2 Z Y A G ∧ Below B.heap.size B Y) := fun Z2 hbk hw Y hy => by
    have hW2 : W2 Z Z2 A G := hW1.trans (hw.mono (fun k e => Or.inr e))
    have hWY : W2 Z Y A G := hW2.trans (Wrote.of_below hy)
    exact ⟨(hA1.wrote hw hAG).below hy, (hg1.next hw hbk).below hy, hWY, w2_base hB E.hA E.hG hWY⟩
  clear hB hA hg hA1 hw1 hg1 hW1 hn hmem
  go_enter Tryz.func60, Tryz.ntmps60
  go_wp2_with fail
  refine Calls.mono HBu.out ?_
  rintro e w1 ⟨rfl, hw9⟩
  obtain rfl := hw9.symm
  clear hw9 HBu
  go_wp2_with fail
  refine Calls.mono HTk.out ?_
  rintro e Z2 ⟨rfl, hbk2, hw2⟩
  obtain ⟨⟨n0, n1, n2, n3⟩, hb3⟩ := node_new Z2 (.int .i64 2) (.int .i64 (j : Int)) (.string ⟨np.toArray⟩) (.string ⟨nf.toArray⟩) 39
  obtain ⟨Z3, hZ3⟩ : ∃ Z3, Z2.alloc (.cells #[.int .i64 2, .int .i64 (j : Int), .string ⟨np.toArray⟩, .string ⟨nf.toArray⟩] 39) = Z3 := ⟨_, rfl⟩
  obtain ⟨N, hN⟩ : ∃ N, Z2.heap.size = N := ⟨_, rfl⟩
  rw [hZ3] at n0 n1 n2 n3 hb3
  rw [hN] at n0 n1 n2 n3
  obtain ⟨hA3, hg3, hW3, hB3⟩ := HSt.out Z2 hbk2 hw2 Z3 hb3
  obtain ⟨b, off, eb, _, _, hc⟩ := hg3.ars j hjl
  subst eb
  have g1 := hg3.bx.box.c1
  rw [HXv.out] at hc
  have HP : Hid (∀ Y : World, Below Z3.heap.size Z3 Y → Post10 Z A G (.slice la ps.length lc) (.slice ta t.length tc) (some ⟨b, off, none⟩) ac xs ((a : Int) + 1) (xv, (f, 0)) (.returned (.int .i64 xv)) Y) := fun Y hy => ⟨hA3.below hy, hW3.trans (Wrote.of_below hy), Or.inl ⟨rfl, rfl, hg3.below hy⟩⟩
  clear hA3 hg3 hW3 hB3 HSt HTk hbk2 hw2 hb3 E hp hq
  go_wp2_with fail
  go_quiet (fail)
  go_wp2
  go_ret
  exact HP.out _ ⟨rfl, rfl, rfl, Nat.le_refl _, fun _ _ => rfl⟩

set_option maxHeartbeats 4000000 in
set_option maxRecDepth 100000 in
theorem implVal7 (B : World) (la : Option Addr) (lc : Nat) (ps : List Pk) (_hK : PkgsOk B la ps.length lc ps) (_hflt : faultV ps = (0, [], [])) (A d : Nat) (hd : d ≤ 20000) (ih : Vi10 B la lc ps A d)
    (Z : World) (f : Nat) (ta : Option Addr) (tc : Nat) (t : List Nd) (m : Int) (G : Nat) (aa : Option Addr) (ac : Nat) (xs : List Int) (a : Nat) (E : Env10 B ps A G ta t xs m) (hB : Below B.heap.size B Z) (hf : f + 1 < d + 1) (hA : Ak Z A (.slice la ps.length lc) (f + 1)) (hg : Go10 Z A G (.slice ta t.length tc) aa ac xs (a : Int)) (hp : 0 ≤ endV t (a : Int)) (hkd : (t.getD a nd0).1 = 7) :
    Calls Tryz.prog 60 #[.pointer (some ⟨A, 0, none⟩), .pointer (some ⟨G, 0, none⟩)] Z (Post10 Z A G (.slice la ps.length lc) (.slice ta t.length tc) aa ac xs (endV t (a : Int)) (val10 ps (d + 1) t (a : Int) xs (f + 1, 0))) := by
  rw [val_node]
  obtain ⟨hal, _, _, _, _⟩ := end_parts hp
  have hmem : t.getD a nd0 ∈ t := by simp [List.getD, hal]
  have hA1 := hA.fuel f
  have hw1 : Wr Z (Z.setCell ⟨A, 1, none⟩ (.int .i64 (f : Int))) A := wr_set Z A 1 _
  have hg1 := hg.wrote hw1 (fun _ e => e)
  have HBu : Hid (_) := implBurn Z A f (.slice la ps.length lc) hA (by omega)
  obtain ⟨Z1, hZ1⟩ : ∃ Z1, Z.setCell ⟨A, 1, none⟩ (.int .i64 (f : Int)) = Z1 := ⟨_, rfl⟩
  rw [hZ1] at hA1 hw1 hg1 HBu
  have hW1 : W2 Z Z1 A G := hw1.mono (fun k e => Or.inl e)
  have hAG : A ≠ G := hg.ne.symm
  have HTk : Hid (_) := implTaken10 Z1 G ta tc t (.slice aa xs.length ac) a hg1.bx (E.inn.below (w2_base hB E.hA E.hG hW1)) (fun b off e => by
    obtain ⟨b', o', e', hl, _⟩ := E.inn.2 a hal
    rw [e] at e'
    simp only [Option.some.injEq, Addr.mk.injEq, and_true] at e'
    have := E.hG
    omega) hal E.len
  have hkd0 : (t.getD a nd0).1 = 7 := hkd
  obtain ⟨r, hr⟩ : ∃ r, node10 ps (val10 ps d) t (a : Int) xs (t.getD a nd0) (f, 0) = r := ⟨_, rfl⟩
  have hc : ∀ Y, Below B.heap.size B Y → Ak Y A (.slice la ps.length lc) f → Go10 Y A G (.slice ta t.length tc) aa ac xs ((a + 1 : Nat) : Int) → _ := fun Y h1 h2 h3 => implIf B la lc ps A d ih Y f ta tc t m G aa ac xs a E h1 (by omega) h2 h3 hp hkd0
  rw [hr] at hc
  have HC : Hid (∀ Y, _ → _ → _ → Calls Tryz.prog _ _ Y _) := hc
  rw [hr]
  clear hr hc
  obtain ⟨n, hn⟩ : ∃ n, t.getD a nd0 = n := ⟨_, rfl⟩
  rw [hn] at hkd HTk hmem
  obtain ⟨kd, nA, np, nf⟩ := n
  simp only at hkd
  unfold nodeVal at HTk
  simp only at HTk
  subst hkd
  -- behind the Node that was taken
  have HSt : Hid (∀ Z2, Bk Z2 G (.slice ta t.length tc) (.slice aa xs.length ac) (.int .i64 ((a : Int) + 1)) → Wrote Z1 Z2 (fun k => k = G) → ∀ Y, Below Z2.heap.size Z2 Y → Ak Y A (.slice la ps.length lc) f ∧ Go10 Y A G (.slice ta t.length tc) aa ac xs ((a + 1 : Nat) : Int) ∧ W2 Z Y A G ∧ Below B.heap.size B Y) := fun Z2 hbk hw Y hy => by
    have hW2 : W2 Z Z2 A G := hW1.trans (hw.mono (fun k e => Or.inr e))
    have hWY : W2 Z Y A G := hW2.trans (Wrote.of_below hy)
    exact ⟨(hA1.wrote hw hAG).below hy, (hg1.next hw hbk).below hy, hWY, w2_base hB E.hA E.hG hWY⟩
  clear ih hB hA hg hA1 hw1 hg1 hW1 hn hmem hkd0
  go_enter Tryz.func60, Tryz.ntmps60
  go_wp2_with fail
  refine Calls.mono HBu.out ?_
  rintro e w1 ⟨rfl, hw9⟩
  obtain rfl := hw9.symm
  clear hw9 HBu
  go_wp2_with fail
  refine Calls.mono HTk.out ?_
  rintro e Z2 ⟨rfl, hbk2, hw2⟩
  obtain ⟨⟨n0, n1, n2, n3⟩, hb3⟩ := node_new Z2 (.int .i64 7) (.int .i64 nA) (.string ⟨np.toArray⟩) (.string ⟨nf.toArray⟩) 39
  obtain ⟨Z3, hZ3⟩ : ∃ Z3, Z2.alloc (.cells #[.int .i64 7, .int .i64 nA, .string ⟨np.toArray⟩, .string ⟨nf.toArray⟩] 39) = Z3 := ⟨_, rfl⟩
  obtain ⟨N, hN⟩ : ∃ N, Z2.heap.size = N := ⟨_, rfl⟩
  rw [hZ3] at n0 n1 n2 n3 hb3
  rw [hN] at n0 n1 n2 n3
  obtain ⟨hA3, hg3, hW3, hB3⟩ := HSt.out Z2 hbk2 hw2 Z3 hb3
  have HD : Hid (_) := HC.out Z3 hB3 hA3 hg3
  have HW3 : Hid (W2 Z Z3 A G) := hW3
  clear hA3 hg3 hW3 hB3 HSt HTk HC hbk2 hw2 hb3 E hp
  go_wp2_with fail
  refine Calls.mono HD.out ?_
  rintro e Z4 ⟨hA4, hw4, hh⟩
  rcases hh with ⟨hc, rfl, hg4⟩ | ⟨hc, rfl⟩
  · have HP : Hid (Post10 Z A G (.slice la ps.length lc) (.slice ta t.length tc) aa ac xs (endV t (a : Int)) r (.returned (.int .i64 r.1)) Z4) := ⟨hA4, HW3.out.trans hw4, Or.inl ⟨hc, rfl, hg4⟩⟩
    clear hA4 hw4 hg4 hc HD
    go_wp2
    go_ret
    exact HP.out
  · exact ⟨rfl, hA4, HW3.out.trans hw4, Or.inr ⟨hc, rfl⟩⟩

set_option maxHeartbeats 4000000 in
set_option maxRecDepth 100000 in
theorem implVal8 (B : World) (la : Option Addr) (lc : Nat) (ps : List Pk) (hK : PkgsOk B la ps.length lc ps) (hflt : faultV ps = (0, [], [])) (A d : Nat) (hd : d ≤ 20000) (ih : Vi10 B la lc ps A d)
    (Z : World) (f : Nat) (ta : Option Addr) (tc : Nat) (t : List Nd) (m : Int) (G : Nat) (aa : Option Addr) (ac : Nat) (xs : List Int) (a : Nat) (E : Env10 B ps A G ta t xs m) (hB : Below B.heap.size B Z) (hf : f + 1 < d + 1) (hA : Ak Z A (.slice la ps.length lc) (f + 1)) (hg : Go10 Z A G (.slice ta t.length tc) aa ac xs (a : Int)) (hp : 0 ≤ endV t (a : Int)) (hkd : (t.getD a nd0).1 = 8) :
    Calls Tryz.prog 60 #[.pointer (some ⟨A, 0, none⟩), .pointer (some ⟨G, 0, none⟩)] Z (Post10 Z A G (.slice la ps.length lc) (.slice ta t.length tc) aa ac xs (endV t (a : Int)) (val10 ps (d + 1) t (a : Int) xs (f + 1, 0))) := by
  rw [val_node]
  obtain ⟨hal, _, _, _, _⟩ := end_parts hp
  have hmem : t.getD a nd0 ∈ t := by simp [List.getD, hal]
  have hA1 := hA.fuel f
  have hw1 : Wr Z (Z.setCell ⟨A, 1, none⟩ (.int .i64 (f : Int))) A := wr_set Z A 1 _
  have hg1 := hg.wrote hw1 (fun _ e => e)
  have HBu : Hid (_) := implBurn Z A f (.slice la ps.length lc) hA (by omega)
  obtain ⟨Z1, hZ1⟩ : ∃ Z1, Z.setCell ⟨A, 1, none⟩ (.int .i64 (f : Int)) = Z1 := ⟨_, rfl⟩
  rw [hZ1] at hA1 hw1 hg1 HBu
  have hW1 : W2 Z Z1 A G := hw1.mono (fun k e => Or.inl e)
  have hAG : A ≠ G := hg.ne.symm
  have HTk : Hid (_) := implTaken10 Z1 G ta tc t (.slice aa xs.length ac) a hg1.bx (E.inn.below (w2_base hB E.hA E.hG hW1)) (fun b off e => by
    obtain ⟨b', o', e', hl, _⟩ := E.inn.2 a hal
    rw [e] at e'
    simp only [Option.some.injEq, Addr.mk.injEq, and_true] at e'
    have := E.hG
    omega) hal E.len
  have hkd0 : (t.getD a nd0).1 = 8 := hkd
  obtain ⟨r, hr⟩ : ∃ r, node10 ps (val10 ps d) t (a : Int) xs (t.getD a nd0) (f, 0) = r := ⟨_, rfl⟩
  have hc : ∀ Y, Below B.heap.size B Y → Ak Y A (.slice la ps.length lc) f → Go10 Y A G (.slice ta t.length tc) aa ac xs ((a + 1 : Nat) : Int) → _ := fun Y h1 h2 h3 => implCall B la lc ps hK hflt A d ih Y f ta tc t m G aa ac xs a E h1 (by omega) h2 h3 hp hkd0
  rw [hr] at hc
  have HC : Hid (∀ Y, _ → _ → _ → Calls Tryz.prog _ _ Y _) := hc
  rw [hr]
  clear hr hc
  obtain ⟨n, hn⟩ : ∃ n, t.getD a nd0 = n := ⟨_, rfl⟩
  rw [hn] at hkd HTk hmem HC
  obtain ⟨kd, nA, np, nf⟩ := n
  simp only at hkd
  unfold nodeVal at HTk
  simp only at HTk
  subst hkd
  unfold nodeVal at HC
  simp only at HC
  -- behind the Node that was taken
  have HSt : Hid (∀ Z2, Bk Z2 G (.slice ta t.length tc) (.slice aa xs.length ac) (.int .i64 ((a : Int) + 1)) → Wrote Z1 Z2 (fun k => k = G) → ∀ Y, Below Z2.heap.size Z2 Y → Ak Y A (.slice la ps.length lc) f ∧ Go10 Y A G (.slice ta t.length tc) aa ac xs ((a + 1 : Nat) : Int) ∧ W2 Z Y A G ∧ Below B.heap.size B Y) := fun Z2 hbk hw Y hy => by
    have hW2 : W2 Z Z2 A G := hW1.trans (hw.mono (fun k e => Or.inr e))
    have hWY : W2 Z Y A G := hW2.trans (Wrote.of_below hy)
    exact ⟨(hA1.wrote hw hAG).below hy, (hg1.next hw hbk).below hy, hWY, w2_base hB E.hA E.hG hWY⟩
  clear hK hflt ih hB hA hg hA1 hw1 hg1 hW1 hn hmem hkd0
  go_enter Tryz.func60, Tryz.ntmps60
  go_wp2_with fail
  refine Calls.mono HBu.out ?_
  rintro e w1 ⟨rfl, hw9⟩
  obtain rfl := hw9.symm
  clear hw9 HBu
  go_wp2_with fail
  refine Calls.mono HTk.out ?_
  rintro e Z2 ⟨rfl, hbk2, hw2⟩
  obtain ⟨⟨n0, n1, n2, n3⟩, hb3⟩ := node_new Z2 (.int .i64 8) (.int .i64 nA) (.string ⟨np.toArray⟩) (.string ⟨nf.toArray⟩) 39
  obtain ⟨Z3, hZ3⟩ : ∃ Z3, Z2.alloc (.cells #[.int .i64 8, .int .i64 nA, .string ⟨np.toArray⟩, .string ⟨nf.toArray⟩] 39) = Z3 := ⟨_, rfl⟩
  obtain ⟨N, hN⟩ : ∃ N, Z2.heap.size = N := ⟨_, rfl⟩
  rw [hZ3] at n0 n1 n2 n3 hb3
  rw [hN] at n0 n1 n2 n3
  obtain ⟨hA3, hg3, hW3, hB3⟩ := HSt.out Z2 hbk2 hw2 Z3 hb3
  have HD : Hid (_) := HC.out Z3 hB3 hA3 hg3
  have HW3 : Hid (W2 Z Z3 A G) := hW3
  clear hA3 hg3 hW3 hB3 HSt HTk HC hbk2 hw2 hb3 E hp
  go_wp2_with fail
  refine Calls.mono HD.out ?_
  rintro e Z4 ⟨hA4, hw4, hh⟩
  rcases hh with ⟨hc, rfl, hg4⟩ | ⟨hc, rfl⟩
  · have HP : Hid (Post10 Z A G (.slice la ps.length lc) (.slice ta t.length tc) aa ac xs (endV t (a : Int)) r (.returned (.int .i64 r.1)) Z4) := ⟨hA4, HW3.out.trans hw4, Or.inl ⟨hc, rfl, hg4⟩⟩
    clear hA4 hw4 hg4 hc HD
    go_wp2
    go_ret
    exact HP.out
  · exact ⟨rfl, hA4, HW3.out.trans hw4, Or.inr ⟨hc, rfl⟩⟩

set_option maxHeartbeats 4000000 in
set_option maxRecDepth 100000 in
theorem implVal3 (B : World) (la : Option Addr) (lc : Nat) (ps : List Pk) (_hK : PkgsOk B la ps.length lc ps) (_hflt : faultV ps = (0, [], [])) (A d : Nat) (hd : d ≤ 20000) (ih : Vi10 B la lc ps A d)
    (Z : World) (f : Nat) (ta : Option Addr) (tc : Nat) (t : List Nd) (m : Int) (G : Nat) (aa : Option Addr) (ac : Nat) (xs : List Int) (a : Nat) (E : Env10 B ps A G ta t xs m) (hB : Below B.heap.size B Z) (hf : f + 1 < d + 1) (hA : Ak Z A (.slice la ps.length lc) (f + 1)) (hg : Go10 Z A G (.slice ta t.length tc) aa ac xs (a : Int)) (hp : 0 ≤ endV t (a : Int)) (hkd : 3 ≤ (t.getD a nd0).1 ∧ (t.getD a nd0).1 ≤ 6) :
    Calls Tryz.prog 60 #[.pointer (some ⟨A, 0, none⟩), .pointer (some ⟨G, 0, none⟩)] Z (Post10 Z A G (.slice la ps.length lc) (.slice ta t.length tc) aa ac xs (endV t (a : Int)) (val10 ps (d + 1) t (a : Int) xs (f + 1, 0))) := by
  rw [val_node]
  obtain ⟨hal, _, _, _, _⟩ := end_parts hp
  have hmem : t.getD a nd0 ∈ t := by simp [List.getD, hal]
  have hA1 := hA.fuel f
  have hw1 : Wr Z (Z.setCell ⟨A, 1, none⟩ (.int .i64 (f : Int))) A := wr_set Z A 1 _
  have hg1 := hg.wrote hw1 (fun _ e => e)
  have HBu : Hid (_) := implBurn Z A f (.slice la ps.length lc) hA (by omega)
  obtain ⟨Z1, hZ1⟩ : ∃ Z1, Z.setCell ⟨A, 1, none⟩ (.int .i64 (f : Int)) = Z1 := ⟨_, rfl⟩
  rw [hZ1] at hA1 hw1 hg1 HBu
  have hW1 : W2 Z Z1 A G := hw1.mono (fun k e => Or.inl e)
  have hAG : A ≠ G := hg.ne.symm
  have HTk : Hid (_) := implTaken10 Z1 G ta tc t (.slice aa xs.length ac) a hg1.bx (E.inn.below (w2_base hB E.hA E.hG hW1)) (fun b off e => by
    obtain ⟨b', o', e', hl, _⟩ := E.inn.2 a hal
    rw [e] at e'
    simp only [Option.some.injEq, Addr.mk.injEq, and_true] at e'
    have := E.hG
    omega) hal E.len
  have hkd0 : 3 ≤ (t.getD a nd0).1 ∧ (t.getD a nd0).1 ≤ 6 := hkd
  obtain ⟨r, hr⟩ : ∃ r, node10 ps (val10 ps d) t (a : Int) xs (t.getD a nd0) (f, 0) = r := ⟨_, rfl⟩
  have hc : ∀ Y, Below B.heap.size B Y → Ak Y A (.slice la ps.length lc) f → Go10 Y A G (.slice ta t.length tc) aa ac xs ((a + 1 : Nat) : Int) → _ := fun Y h1 h2 h3 => implPair B la lc ps A d ih Y f ta tc t m G aa ac xs a E h1 (by omega) h2 h3 hp hkd0
  rw [hr] at hc
  have HC : Hid (∀ Y, _ → _ → _ → Calls Tryz.prog _ _ Y _) := hc
  rw [hr]
  clear hr hc
  obtain ⟨n, hn⟩ : ∃ n, t.getD a nd0 = n := ⟨_, rfl⟩
  rw [hn] at hkd HTk hmem HC
  obtain ⟨kd, nA, np, nf⟩ := n
  simp only at hkd
  unfold nodeVal at HTk
  simp only at HTk
  simp only at HC
  have k1 : (kd == 1) = false := beq_eq_false_iff_ne.2 (by omega)
  have k2 : (kd == 2) = false := beq_eq_false_iff_ne.2 (by omega)
  have k7 : (kd == 7) = false := beq_eq_false_iff_ne.2 (by omega)
  have k8 : (kd == 8) = false := beq_eq_false_iff_ne.2 (by omega)
  clear hkd
  -- behind the Node that was taken
  have HSt : Hid (∀ Z2, Bk Z2 G (.slice ta t.length tc) (.slice aa xs.length ac) (.int .i64 ((a : Int) + 1)) → Wrote Z1 Z2 (fun k => k = G) → ∀ Y, Below Z2.heap.size Z2 Y → Ak Y A (.slice la ps.length lc) f ∧ Go10 Y A G (.slice ta t.length tc) aa ac xs ((a + 1 : Nat) : Int) ∧ W2 Z Y A G ∧ Below B.heap.size B Y) := fun Z2 hbk hw Y hy => by
    have hW2 : W2 Z Z2 A G := hW1.trans (hw.mono (fun k e => Or.inr e))
    have hWY : W2 Z Y A G := hW2.trans (Wrote.of_below hy)
    exact ⟨(hA1.wrote hw hAG).below hy, (hg1.next hw hbk).below hy, hWY, w2_base hB E.hA E.hG hWY⟩
  clear ih hB hA hg hA1 hw1 hg1 hW1 hn hmem hkd0
  go_enter Tryz.func60, Tryz.ntmps60
  go_wp2_with fail
  refine Calls.mono HBu.out ?_
  rintro e w1 ⟨rfl, hw9⟩
  obtain rfl := hw9.symm
  clear hw9 HBu
  go_wp2_with fail
  refine Calls.mono HTk.out ?_
  rintro e Z2 ⟨rfl, hbk2, hw2⟩
  obtain ⟨⟨n0, n1, n2, n3⟩, hb3⟩ := node_new Z2 (.int .i64 kd) (.int .i64 nA) (.string ⟨np.toArray⟩) (.string ⟨nf.toArray⟩) 39
  obtain ⟨Z3, hZ3⟩ : ∃ Z3, Z2.alloc (.cells #[.int .i64 kd, .int .i64 nA, .string ⟨np.toArray⟩, .string ⟨nf.toArray⟩] 39) = Z3 := ⟨_, rfl⟩
  obtain ⟨N, hN⟩ : ∃ N, Z2.heap.size = N := ⟨_, rfl⟩
  rw [hZ3] at n0 n1 n2 n3 hb3
  rw [hN] at n0 n1 n2 n3
  obtain ⟨hA3, hg3, hW3, hB3⟩ := HSt.out Z2 hbk2 hw2 Z3 hb3
  have HD : Hid (_) := HC.out Z3 hB3 hA3 hg3
  have HW3 : Hid (W2 Z Z3 A G) := hW3
  clear hA3 hg3 hW3 hB3 HSt HTk HC hbk2 hw2 hb3 E hp
  go_wp2_with fail
  refine Calls.mono HD.out ?_
  rintro e Z4 ⟨hA4, hw4, hh⟩
  rcases hh with ⟨hc, rfl, hg4⟩ | ⟨hc, rfl⟩
  · have HP : Hid (Post10 Z A G (.slice la ps.length lc) (.slice ta t.length tc) aa ac xs (endV t (a : Int)) r (.returned (.int .i64 r.1)) Z4) := ⟨hA4, HW3.out.trans hw4, Or.inl ⟨hc, rfl, hg4⟩⟩
    clear hA4 hw4 hg4 hc HD
    go_wp2
    go_ret
    exact HP.out
  · exact ⟨rfl, hA4, HW3.out.trans hw4, Or.inr ⟨hc, rfl⟩⟩

/-- valueOf, at every depth. -/
theorem implVal (B : World) (la : Option Addr) (lc : Nat) (ps : List Pk) (hK : PkgsOk B la ps.length lc ps) (hflt : faultV ps = (0, [], [])) (A : Nat) : ∀ d, d ≤ 20001 → Vi10 B la lc ps A d
  | 0, _ => fun Z f ta tc t m G aa ac xs a E hB hf => absurd hf (Nat.not_lt_zero _)
  | d + 1, hd => by
    have ih := implVal B la lc ps hK hflt A d (by omega)
    intro Z f ta tc t m G aa ac xs a E hB hf hA hg hp
    rcases f with _ | f
    · rw [val_dry]
      have HBu : Hid (_) := implBurn0 Z A (.slice la ps.length lc) hA
      clear ih hg hp E hB
      go_enter Tryz.func60, Tryz.ntmps60
      go_wp2_with fail
      refine Calls.mono HBu.out ?_
      rintro e w1 ⟨rfl, rfl⟩
      exact ⟨rfl, hA, Wrote.refl _ _, Or.inr ⟨(by decide : (2 : Int) ≠ 0), rfl⟩⟩
    · obtain ⟨hal, _, _, _, _⟩ := end_parts hp
      have hmem : t.getD a nd0 ∈ t := by simp [List.getD, hal]
      have hnd := nodeB_iff.1 (E.tr.good _ hmem)
      unfold nodeP at hnd
      rcases hnd with h | h | h | h
      · exact implVal1 B la lc ps hK hflt A d (by omega) ih Z f ta tc t m G aa ac xs a E hB hf hA hg hp h.1
      · exact implVal2 B la lc ps hK hflt A d (by omega) ih Z f ta tc t m G aa ac xs a E hB hf hA hg hp h.1
      · by_cases h7 : (t.getD a nd0).1 = 7
        · exact implVal7 B la lc ps hK hflt A d (by omega) ih Z f ta tc t m G aa ac xs a E hB hf hA hg hp h7
        · exact implVal3 B la lc ps hK hflt A d (by omega) ih Z f ta tc t m G aa ac xs a E hB hf hA hg hp (by omega)
      · exact implVal8 B la lc ps hK hflt A d (by omega) ih Z f ta tc t m G aa ac xs a E hB hf hA hg hp h.1

end Go.Proofs.YtmloocbbcnhooaaGreatDoor

/-! Errors of errors.New's make: what a package-level variable of them holds, and errors.Is of one at another (Go's own text walked). -/
namespace Go.Proofs.YtmloocbbcnhooaaGreatDoor
open Go.RowKit Go.Extern.Stop Go.Stop Go.Extern

/-- An error of errors.New's make, at a. -/
def sentV (a : Addr) : Value := .iface 227 (.pointer (some a))
/-- Its block bears no mark. -/
def SentAt (w : World) (a : Addr) : Prop := ∃ c t, w.heap[a.block]? = some (.cells c t (0, 0))
theorem SentAt.below {w w' : World} {a : Addr} (h : SentAt w a) (hb : Below w.heap.size w w') : SentAt w' a := by
  obtain ⟨c, t, e⟩ := h
  have hlt : a.block < w.heap.size := by
    rcases Nat.lt_or_ge a.block w.heap.size with h | h
    · exact h
    · rw [Array.getElem?_eq_none h] at e; cases e
  exact ⟨c, t, (hb.block a.block hlt).trans e⟩

/-- The four that CallCode asks: 0 not told, 1 far, 2 func, 3 count. -/
structure Err4 (w : World) (e : Nat → Addr) : Prop where
  told : w.cell? ⟨0, 0, none⟩ = some (sentV (e 0))
  far : w.cell? ⟨6, 0, none⟩ = some (sentV (e 1))
  func : w.cell? ⟨7, 0, none⟩ = some (sentV (e 2))
  count : w.cell? ⟨8, 0, none⟩ = some (sentV (e 3))
  at0 : SentAt w (e 0)
  at1 : SentAt w (e 1)
  at2 : SentAt w (e 2)
  at3 : SentAt w (e 3)
  ne : e 0 ≠ e 1 ∧ e 0 ≠ e 2 ∧ e 0 ≠ e 3 ∧ e 1 ≠ e 2 ∧ e 1 ≠ e 3 ∧ e 2 ≠ e 3
theorem sent_below {w w' : World} {g : Nat} {v : Value} (h : w.cell? ⟨g, 0, none⟩ = some v) (hb : Below w.heap.size w w') : w'.cell? ⟨g, 0, none⟩ = some v := (hb.cell (p := ⟨g, 0, none⟩) (World.block_lt_of_cell? w ⟨g, 0, none⟩ h)).trans h
theorem Err4.below {w w' : World} {e : Nat → Addr} (h : Err4 w e) (hb : Below w.heap.size w w') : Err4 w' e :=
  ⟨sent_below h.told hb, sent_below h.far hb, sent_below h.func hb, sent_below h.count hb, h.at0.below hb, h.at1.below hb, h.at2.below hb, h.at3.below hb, h.ne⟩

/-! ### Closed facts. -/
theorem isTypeOf (v : Value) (w : World) : (Extern.ReflectliteType.typeOf #[.iface 227 v]).run Tryz.prog w = .ok (.iface 180 (.agg #[.pointer (some ⟨9, 227, none⟩)])) w := by kernel_rfl
/-- What the model does at (rtype).Comparable. -/
noncomputable def cmpE : Array Value → Sem Value := (Go.Extern.find Tryz.f179).getD (fun _ => pure (.bool false))
theorem isComparable (w : World) : (cmpE #[.agg #[.pointer (some ⟨9, 227, none⟩)]]).run Tryz.prog w = .ok (.bool true) w := by kernel_rfl
theorem isMethodComparable (v : Value) (w : World) : (Go.method 359 180 v "Comparable").run Tryz.prog w = .ok (179, v) w := by kernel_rfl
theorem isComp : (Tryz.prog.info? 227).map (·.comparable) = some true := by kernel_rfl
theorem isSize : (Tryz.prog.info? 247).map (·.size) = some 1 := by kernel_rfl
theorem noIsE (v : Value) (xT : TypeId) (w : World) : (Instr.typeAssert (.iface 227 v) xT 203 true).run Tryz.prog w = .ok (.tuple #[.nilIface, .bool false]) w := run_typeAssert_lacksB Tryz.underlying203 (by kernel_rfl) (by kernel_rfl) v xT w
theorem noUnwrapE (v : Value) (xT : TypeId) (w : World) : (Instr.typeAssert (.iface 227 v) xT 187 true).run Tryz.prog w = .ok (.tuple #[.nilIface, .bool false]) w := run_typeAssert_lacksB Tryz.underlying187 (by kernel_rfl) (by kernel_rfl) v xT w
theorem noUnwrapsE (v : Value) (xT : TypeId) (w : World) : (Instr.typeAssert (.iface 227 v) xT 189 true).run Tryz.prog w = .ok (.tuple #[.nilIface, .bool false]) w := run_typeAssert_lacksB Tryz.underlying189 (by kernel_rfl) (by kernel_rfl) v xT w

set_option maxHeartbeats 2000000 in
set_option maxRecDepth 100000 in
theorem is_same (a : Addr) (w : World) :
    Calls Tryz.prog 103 #[.iface 227 (.pointer (some a)), .iface 227 (.pointer (some a))] w fun e w' => e = .returned (.bool true) ∧ w' = w := by
  obtain ⟨i, hi, hcmp⟩ := Option.map_eq_some_iff.1 isComp
  obtain ⟨j, hj, hjs⟩ := Option.map_eq_some_iff.1 isSize
  have h8 := @run_callFunc_extern Tryz.prog 126 _ Extern.ReflectliteType.typeOf Tryz.func126 (by kernel_rfl) (by kernel_rfl) (by kernel_rfl) (by kernel_rfl)
  have h32 := @run_callFunc_extern Tryz.prog 179 _ cmpE Tryz.func179 (by kernel_rfl) (by kernel_rfl) (by kernel_rfl) (by kernel_rfl)
  have tT := isTypeOf
  have cT := isComparable
  have mR := isMethodComparable
  have heq := run_eql_iface_ptr_same (P := Tryz.prog) w a Tryz.underlying127 Tryz.underlying227 hi hcmp hj
  go_enter Tryz.func103, Tryz.ntmps103
  go_wp2
  refine wp_loop_rounds 1 ?_
  rw [rounds_succ]
  go_wp2
  go_ret
  exact ⟨rfl, rfl⟩

set_option maxHeartbeats 2000000 in
set_option maxRecDepth 100000 in
theorem is_other (a b : Addr) (w : World) (hne : a ≠ b) (hsa : SentAt w a) (hsb : SentAt w b) :
    Calls Tryz.prog 103 #[.iface 227 (.pointer (some a)), .iface 227 (.pointer (some b))] w fun e w' => e = .returned (.bool false) ∧ w' = w := by
  obtain ⟨ca, ta, ha⟩ := hsa
  obtain ⟨cb, tb, hb⟩ := hsb
  obtain ⟨i, hi, hcmp⟩ := Option.map_eq_some_iff.1 isComp
  obtain ⟨j, hj, hjs⟩ := Option.map_eq_some_iff.1 isSize
  have h8 := @run_callFunc_extern Tryz.prog 126 _ Extern.ReflectliteType.typeOf Tryz.func126 (by kernel_rfl) (by kernel_rfl) (by kernel_rfl) (by kernel_rfl)
  have h32 := @run_callFunc_extern Tryz.prog 179 _ cmpE Tryz.func179 (by kernel_rfl) (by kernel_rfl) (by kernel_rfl) (by kernel_rfl)
  have tT := isTypeOf
  have cT := isComparable
  have mR := isMethodComparable
  have nE := noIsE
  have uE := noUnwrapE
  have vE := noUnwrapsE
  have heq := run_eql_iface_ptr_other (P := Tryz.prog) w Tryz.underlying127 Tryz.underlying227 hi hcmp hj (by rw [hjs]; decide) hne ha hb
  go_enter Tryz.func103, Tryz.ntmps103
  go_wp2
  refine wp_loop_rounds 1 ?_
  rw [rounds_succ]
  go_wp2
  go_ret
  exact ⟨rfl, rfl⟩

end Go.Proofs.YtmloocbbcnhooaaGreatDoor
