/-
  Parts of one proof, one behind the other: ValL.
-/
import Derived.Test.YtmloocbbcnhooaaGreatDoorP18

/-! The contracts of chapter 10's landed code: a function is gone through; a call. -/
namespace Go.Proofs.YtmloocbbcnhooaaGreatDoor
open Go.RowKit

/-- What is told behind a function that was gone through. -/
def PostF (Z : World) (A : Nat) (l : Value) (r : Int × St10) (e : Ending) (Z' : World) : Prop :=
  Ak Z' A l r.2.1 ∧ Wr Z Z' A ∧ ((r.2.2 = 0 ∧ e = .returned (.int .i64 r.1)) ∨ (r.2.2 ≠ 0 ∧ e = gu r.2.2))

set_option maxHeartbeats 4000000 in
set_option maxRecDepth 100000 in
theorem implFunc (B : World) (la : Option Addr) (lc : Nat) (ps : List Pk) (A d : Nat) (ih : Vi10 B la lc ps A d) (hA0 : B.heap.size ≤ A)
    (Z : World) (f : Nat) (nm : List UInt8) (ar : Int) (ta : Option Addr) (tc : Nat) (t : List Nd) (m : Int) (aa : Option Addr) (ac : Nat) (xs : List Int) (hin : NodesIn B ta t.length t) (htr : Tr10 ps t m) (hint : IntT t) (hsh : ShortT t) (hlen : t.length ≤ 1048576) (hm : (xs.length : Int) = m) (hx : ∀ x ∈ xs, Word10 x) (hB : Below B.heap.size B Z) (hf : f < d) (hA : Ak Z A (.slice la ps.length lc) f) (has : As Z A aa xs) :
    Calls Tryz.prog 44 #[.pointer (some ⟨A, 0, none⟩), .agg #[.string ⟨nm.toArray⟩, .int .i64 ar, .slice ta t.length tc], .slice aa xs.length ac] Z (PostF Z A (.slice la ps.length lc) (val10 ps d t 0 xs (f, 0))) := by
  obtain ⟨bF, hb0⟩ := Box3.new Z (.string ⟨nm.toArray⟩) (.int .i64 ar) (.slice ta t.length tc) 42
  obtain ⟨Z0, hZ0⟩ : ∃ Z0, Z.alloc (.cells #[.string ⟨nm.toArray⟩, .int .i64 ar, .slice ta t.length tc] 42) = Z0 := ⟨_, rfl⟩
  rw [hZ0] at bF hb0
  obtain ⟨N, hN⟩ : ∃ N, Z.heap.size = N := ⟨_, rfl⟩
  rw [hN] at bF
  obtain ⟨bG, hb1⟩ := Bk.new Z0 (.slice ta t.length tc) (.slice aa xs.length ac) (.int .i64 0) 105
  obtain ⟨Z1, hZ1⟩ : ∃ Z1, Z0.alloc (.cells #[.slice ta t.length tc, .slice aa xs.length ac, .int .i64 0] 105) = Z1 := ⟨_, rfl⟩
  rw [hZ1] at bG hb1
  obtain ⟨G, hG⟩ : ∃ G, Z0.heap.size = G := ⟨_, rfl⟩
  rw [hG] at bG
  have hzG : Z.heap.size ≤ G := by rw [← hG]; exact hb0.size
  have hAl : A < Z.heap.size := hA.lt
  have hbz : Below Z.heap.size Z Z1 := hb0.trans (hb1.mono hb0.size)
  have hgo : Go10 Z1 A G (.slice ta t.length tc) aa ac xs 0 := ⟨bG, by omega, fun j hj => by
    obtain ⟨b, off, e, hn, hl, hc⟩ := has j hj
    exact ⟨b, off, e, ⟨hn, by omega⟩, Nat.lt_of_lt_of_le hl hbz.size, (hbz.cell (p := ⟨b, off + j, none⟩) hl).trans hc⟩⟩
  have HC : Hid (_) := ih.at (tc := tc) (ac := ac) (⟨hA0, Nat.le_trans hB.size hzG, hin, htr, hint, hsh, hlen, hm, hx⟩ : Env10 B ps A G ta t xs m) (hB.trans (hbz.mono hB.size)) hf (hA.below hbz) hgo htr.root
  have HB : Hid (Below Z.heap.size Z Z1) := hbz
  have f2 := bF.c2
  generalize val10 ps d t 0 xs (f, 0) = r at HC ⊢
  generalize endV t 0 = q at HC
  clear bF bG hgo hb0 hb1 hbz hin htr hint hsh hx hB hA has ih
  go_enter Tryz.func44, Tryz.ntmps44
  go_wp2_with fail
  refine Calls.mono HC.out ?_
  rintro e Z2 ⟨hA2, hw2, hh⟩
  have hW : Wr Z Z2 A := by
    have h1 : W2 Z Z2 A G := (Wrote.of_below HB.out).trans hw2
    exact ⟨h1.os, h1.tape, h1.output, h1.size, fun k hk hn => h1.block k hk (fun e => by rcases e with e | e; exact hn e; omega)⟩
  rcases hh with ⟨hc, rfl, _⟩ | ⟨hc, rfl⟩
  · have HP : Hid (PostF Z A (.slice la ps.length lc) r (.returned (.int .i64 r.1)) Z2) := ⟨hA2, hW, Or.inl ⟨hc, rfl⟩⟩
    clear hA2 hw2 hW hc HC
    go_wp2
    go_ret
    exact HP.out
  · exact ⟨rfl, hA2, hW, Or.inr ⟨hc, rfl⟩⟩

theorem w2_push {V Y Y' : World} {A G : Nat} {row : Option Nat} (h : W2 V Y A G) (hg : Y.grownBy Y' row) (hrow : ∀ k, row = some k → V.heap.size ≤ k) : W2 V Y' A G :=
  ⟨hg.os.trans h.os, hg.tape.trans h.tape, hg.output.trans h.output, Nat.le_trans h.size hg.size, fun k hk hn => (hg.block k (Nat.lt_of_lt_of_le hk h.size) (fun e => by have := hrow k e.symm; omega)).trans (h.block k hk hn)⟩

set_option maxHeartbeats 8000000 in
set_option maxRecDepth 100000 in
theorem implCall (B : World) (la : Option Addr) (lc : Nat) (ps : List Pk) (hK : PkgsOk B la ps.length lc ps) (hflt : faultV ps = (0, [], [])) (A d : Nat) (ih : Vi10 B la lc ps A d)
    (Z : World) (f : Nat) (ta : Option Addr) (tc : Nat) (t : List Nd) (m : Int) (G : Nat) (aa : Option Addr) (ac : Nat) (xs : List Int) (a : Nat) (E : Env10 B ps A G ta t xs m) (hB : Below B.heap.size B Z) (hf : f < d) (hA : Ak Z A (.slice la ps.length lc) f) (hg : Go10 Z A G (.slice ta t.length tc) aa ac xs ((a + 1 : Nat) : Int)) (hp : 0 ≤ endV t (a : Int)) (hkd : (t.getD a nd0).1 = 8) :
    Calls Tryz.prog 78 #[.pointer (some ⟨A, 0, none⟩), .pointer (some ⟨G, 0, none⟩), nodeVal (t.getD a nd0)] Z (Post10 Z A G (.slice la ps.length lc) (.slice ta t.length tc) aa ac xs (endV t (a : Int)) (node10 ps (val10 ps d) t (a : Int) xs (t.getD a nd0) (f, 0))) := by
  obtain ⟨hal, _, hc, _, _⟩ := end_parts hp
  have hch : chain t (kidsN (t.getD a nd0)) ((a + 1 : Nat) : Int) = endV t (a : Int) := hc
  have hmem : t.getD a nd0 ∈ t := by simp [List.getD, hal]
  have hcall := E.tr.call _ hmem hkd
  have hnd := nodeB_iff.1 (E.tr.good _ hmem)
  have HPl : Hid (∀ i, i < kidsN (t.getD a nd0) → (pts10 t (a : Int)).getD i 0 = chain t i ((a + 1 : Nat) : Int) ∧ 0 ≤ endV t (chain t i ((a + 1 : Nat) : Int))) := fun i hi => by
    obtain ⟨q, hq, _, hqe⟩ := part_place hp hi
    have e := pts_chain t a i hi
    rw [← hq, e] at hqe
    exact ⟨e, hqe⟩
  have hpl := pts_len t a
  have hkn : kidsN (t.getD a nd0) = (t.getD a nd0).2.1.toNat := by unfold kidsN; rw [if_neg (by omega), if_neg (by omega), if_pos hkd]
  obtain ⟨r, hr⟩ : ∃ r, node10 ps (val10 ps d) t (a : Int) xs (t.getD a nd0) (f, 0) = r := ⟨_, rfl⟩
  have HRr : Hid (r = args10 (fun p => val10 ps d t p xs) (pts10 t (a : Int)) [] (fun own => val10 ps d (fnOf10 ps (t.getD a nd0).2.2.1 (t.getD a nd0).2.2.2).2.2 0 own) (f, 0)) := by
    exact (by rw [← hr]; unfold node10; rw [if_neg (by omega), if_neg (by omega), if_neg (by omega), if_pos hkd]; rfl : r = args10 (fun p => val10 ps d t p xs) (pts10 t (a : Int)) [] (fun own => val10 ps d (fnOf10 ps (t.getD a nd0).2.2.1 (t.getD a nd0).2.2.2).2.2 0 own) (f, 0))
  rw [hr]
  clear hr
  obtain ⟨n, hn⟩ : ∃ n, t.getD a nd0 = n := ⟨_, rfl⟩
  rw [hn] at hch hcall hnd HPl hpl hkn HRr hkd ⊢
  obtain ⟨kd, nA, np, nf⟩ := n
  unfold nodeP at hnd
  unfold nodeVal
  simp only at hcall hnd hkn HRr hkd ⊢
  obtain ⟨k, rfl⟩ : ∃ k : Nat, nA = (k : Int) := ⟨nA.toNat, by omega⟩
  rw [Int.toNat_natCast] at hkn
  rw [hkn] at hch HPl hpl
  have hk3 : k ≤ 3 := by omega
  subst hkd
  obtain ⟨h8, h7, hag⟩ := hcall
  have htr := tr_of hflt h8 h7
  have HT : Hid (Tr10 ps (fnOf10 ps np nf).2.2 (k : Int)) := by exact (by rw [← hag]; exact htr : Tr10 ps (fnOf10 ps np nf).2.2 (k : Int))
  have HNm : Hid (∀ Y, Below B.heap.size B Y → Calls Tryz.prog 62 #[.slice la ps.length lc, .string ⟨np.toArray⟩, .string ⟨nf.toArray⟩] Y fun e w' => Named10 B ps np nf e ∧ Below Y.heap.size Y w') := fun Y hy => implNamed B Y la ps.length lc ps np nf hy hK
  have HYs : Hid (0 ≤ at8 ps np ∧ 0 ≤ atV (pkOf ps np).2.2 nf) := by exact (⟨h8, h7⟩ : 0 ≤ at8 ps np ∧ 0 ≤ atV (pkOf ps np).2.2 nf)
  have HWd : Hid (∀ (q : Int) (s : St10), Word10 (val10 ps d t q xs s).1) := fun q s => val_word (fun n => good_of (faultV_zero (by rw [hflt])).2.1 _ _) d t q xs E.tr.good E.hx s
  have HLess : Hid (∀ (q : Int) (s : St10), (val10 ps d t q xs s).2.1 ≤ s.1) := fun q s => (Sk10.val ps d t q xs).less s
  generalize hF : fnOf10 ps np nf = F at HT HRr hag
  have HF : Hid (fnOf10 ps np nf = F) := hF
  obtain ⟨Fn, Fa, Ft⟩ := F
  simp only at HT HRr hag
  generalize pts10 t (a : Int) = pts at HPl hpl HRr
  -- the node's block, and the arguments' first row
  obtain ⟨⟨n0, n1, n2, n3⟩, hb0⟩ := node_new Z (.int .i64 8) (.int .i64 (k : Int)) (.string ⟨np.toArray⟩) (.string ⟨nf.toArray⟩) 39
  obtain ⟨Z0, hZ0⟩ : ∃ Z0, Z.alloc (.cells #[.int .i64 8, .int .i64 (k : Int), .string ⟨np.toArray⟩, .string ⟨nf.toArray⟩] 39) = Z0 := ⟨_, rfl⟩
  rw [hZ0] at n0 n1 n2 n3 hb0
  obtain ⟨N, hN⟩ : ∃ N, Z.heap.size = N := ⟨_, rfl⟩
  rw [hN] at n0 n1 n2 n3
  have hAl : A < Z.heap.size := hA.lt
  have hGl : G < Z.heap.size := hg.bx.box.lt
  have hNA : N ≠ A := by omega
  have hNG : N ≠ G := by omega
  have hNl : N < Z0.heap.size := World.block_lt_of_cell? Z0 ⟨N, 0, none⟩ n0
  have hBZ0 : Below B.heap.size B Z0 := hB.trans (hb0.mono hB.size)
  have HZ : Hid (∀ Y, W2 Z0 Y A G → (Y.cell? ⟨N, 2, none⟩ = some (.string ⟨np.toArray⟩) ∧ Y.cell? ⟨N, 3, none⟩ = some (.string ⟨nf.toArray⟩)) ∧ Below B.heap.size B Y ∧ W2 Z Y A G) := fun Y hy => by
    have e := hy.block N hNl (fun e => by rcases e with e | e; exact hNA e; exact hNG e)
    exact ⟨⟨(World.cell?_of_block (a := ⟨N, 2, none⟩) e).trans n2, (World.cell?_of_block (a := ⟨N, 3, none⟩) e).trans n3⟩, w2_base hBZ0 E.hA E.hG hy, (Wrote.of_below hb0).trans hy⟩
  have hg0 := hg.below hb0
  have HGo : Hid (∀ (Y : World) (q : Int), W2 Z0 Y A G → Bk Y G (.slice ta t.length tc) (.slice aa xs.length ac) (.int .i64 q) → Go10 Y A G (.slice ta t.length tc) aa ac xs q) := fun Y q hy hbk => ⟨hbk, hg0.ne, as_wrote hg0.ars hy (fun _ e => e)⟩
  have HCl : Hid (∀ (Y : World) (q : Int) (g : Nat), g < d → 0 ≤ endV t q → Ak Y A (.slice la ps.length lc) g → W2 Z0 Y A G → Bk Y G (.slice ta t.length tc) (.slice aa xs.length ac) (.int .i64 q) → Calls Tryz.prog 60 #[.pointer (some ⟨A, 0, none⟩), .pointer (some ⟨G, 0, none⟩)] Y (Post10 Y A G (.slice la ps.length lc) (.slice ta t.length tc) aa ac xs (endV t q) (val10 ps d t q xs (g, 0)))) := fun Y q g hgd hq hAY hwY hgY => ih.at (tc := tc) (ac := ac) E (HZ.out Y hwY).2.1 hgd hAY (HGo.out Y q hwY hgY) hq
  have hbA : Below Z0.heap.size Z0 (Z0.alloc (.cells #[] 2)) := (Below.refl _ _).alloc (Nat.le_refl _) _
  have HO0 : Hid ((Z0.alloc (.cells #[] 2)).ownsRow Z0.heap.size 2 1 (.slice (some ⟨Z0.heap.size, 0, none⟩) 0 0) 0 (intsV [])) := World.ownsRow_lit (base := Z0.heap.size) (e := 2) (size := 1) Z0 #[] 0 (Nat.le_refl _) (by decide) rfl
  have HA1 : Hid (Ak (Z0.alloc (.cells #[] 2)) A (.slice la ps.length lc) f) := (hA.below hb0).below hbA
  have HK1 : Hid (Bk (Z0.alloc (.cells #[] 2)) G (.slice ta t.length tc) (.slice aa xs.length ac) (.int .i64 (chain t 0 ((a + 1 : Nat) : Int)))) := hg0.bx.below hbA
  have HW1 : Hid (W2 Z0 (Z0.alloc (.cells #[] 2)) A G) := Wrote.of_below hbA
  have HN1 : Hid ((Z0.alloc (.cells #[] 2)).cell? ⟨N, 1, none⟩ = some (.int .i64 (k : Int))) := by exact ((hbA.cell (p := ⟨N, 1, none⟩) hNl).trans n1 : (Z0.alloc (.cells #[] 2)).cell? ⟨N, 1, none⟩ = some (.int .i64 (k : Int)))
  have HFc : Hid (∀ (Y : World) (g : Nat) (acc : List Int) (oa : Option Addr) (oc : Nat) (ta' : Option Addr) (tc' : Nat), g < d → Below B.heap.size B Y → Ak Y A (.slice la ps.length lc) g → As Y A oa acc → acc.length = k → (∀ x ∈ acc, Word10 x) → NodesIn B ta' Ft.length Ft → IntT Ft → ShortT Ft → Ft.length ≤ 1048576 → Calls Tryz.prog 44 #[.pointer (some ⟨A, 0, none⟩), .agg #[.string ⟨Fn.toArray⟩, .int .i64 Fa, .slice ta' Ft.length tc'], .slice oa acc.length oc] Y (PostF Y A (.slice la ps.length lc) (val10 ps d Ft 0 acc (g, 0)))) := fun Y g acc oa oc ta' tc' hgd hBY hAY has hl hw hin hit hst hlt => implFunc B la lc ps A d ih E.hA Y g Fn Fa ta' tc' Ft (k : Int) oa oc acc hin HT.out hit hst hlt (by rw [hl]) hw hBY hgd hAY has
  have hZl : A < Z0.heap.size ∧ G < Z0.heap.size := ⟨Nat.lt_of_lt_of_le hAl hb0.size, Nat.lt_of_lt_of_le hGl hb0.size⟩
  obtain ⟨K, hKe⟩ : ∃ K : List Int → Cmp10, (fun own => val10 ps d Ft 0 own) = K := ⟨_, rfl⟩
  have HKe : Hid ((fun own => val10 ps d Ft 0 own) = K) := hKe
  have HSk : Hid (∀ l, Sk10 (K l)) := fun l => by rw [← hKe]; exact Sk10.val ps d Ft 0 l
  rw [hKe] at HRr
  have HR0 : Hid (r = args10 (fun p => val10 ps d t p xs) (pts.drop 0) [] K (f, 0)) := HRr.out
  have HE : Hid (Env10 B ps A G ta t xs m) := E
  have HCh : Hid (chain t k ((a + 1 : Nat) : Int) = endV t (a : Int)) := hch
  have hn1 := HN1.out
  obtain ⟨Z1, hZ1⟩ : ∃ Z1, Z0.alloc (.cells #[] 2) = Z1 := ⟨_, rfl⟩
  obtain ⟨S0, hS0⟩ : ∃ S0, Z0.heap.size = S0 := ⟨_, rfl⟩
  rw [hZ1] at HO0 HA1 HK1 HW1 hn1
  rw [hS0] at HO0 hZl
  clear HN1 hKe HRr ih E hB hA hg hp hmem hnd hn hal hc hch hF h8 h7 htr hb0 n0 n1 n2 n3 hBZ0 hg0 hbA hK hag hNA hNG hAl hGl
  go_enter Tryz.func78, Tryz.ntmps78
  go_wp2
  go_loopw [7, 13] (fun ov iv wx => ∃ (i : Nat) (acc : List Int) (oa : Option Addr) (oc g : Nat), ov = .slice oa i oc ∧ iv = .int .i64 (i : Int) ∧ i ≤ k ∧ g ≤ f ∧ Hid (r = args10 (fun p => val10 ps d t p xs) (pts.drop i) acc K (g, 0)) ∧ Hid (acc.length = i) ∧ Hid (∀ x ∈ acc, Word10 x) ∧ Hid (wx.ownsRow S0 2 1 (.slice oa i oc) i (intsV acc)) ∧ Hid (Ak wx A (.slice la ps.length lc) g) ∧ Hid (Bk wx G (.slice ta t.length tc) (.slice aa xs.length ac) (.int .i64 (chain t i ((a + 1 : Nat) : Int)))) ∧ Hid (W2 Z0 wx A G)) (fun _ iv _ => k - (intOf iv).toNat)
  case atStart => exact ⟨0, [], _, 0, f, rfl, rfl, by omega, by omega, HR0, rfl, (fun x hx => by cases hx), HO0, HA1, HK1, HW1⟩
  case round =>
    obtain ⟨i, acc, oa, oc, g, rfl, rfl, hi, hgf, HR, HLa, HWo, HO, HAk, HBk, HW⟩ := hrel
    clear HO0 HA1 HK1 HW1 HR0 hn1
    by_cases hlt : (i : Int) < (k : Int)
    · have hi2 : i < k := by omega
      obtain ⟨eq, hqe⟩ := HPl.out i hi2
      have HC0 : Hid (_) := HCl.out wr _ g (by omega) hqe HAk.out HW.out HBk.out
      have hst := HR.out.trans (args_drop (fun p => val10 ps d t p xs) K (by rw [hpl]; exact hi2) acc (g, 0))
      rw [eq] at hst
      have HL0 := HLess.out (chain t i ((a + 1 : Nat) : Int)) (g, 0)
      have HW0 := HWd.out (chain t i ((a + 1 : Nat) : Int)) (g, 0)
      rw [← chain_succ] at HC0
      dsimp only at hst HL0
      obtain ⟨r0, hr0⟩ : ∃ r0, val10 ps d t (chain t i ((a + 1 : Nat) : Int)) xs (g, 0) = r0 := ⟨_, rfl⟩
      rw [hr0] at HC0 hst HL0 HW0
      obtain ⟨v0, f0, c0⟩ := r0
      simp only at HL0 HW0 hst
      have HSt : Hid (r = args10 (fun p => val10 ps d t p xs) (pts.drop (i + 1)) (acc ++ [v0]) K (f0, c0)) := hst
      have HWw : Hid (W2 Z wr A G) := (HZ.out wr HW.out).2.2
      clear hst hr0 eq hqe
      go_wp2_with fail
      refine Calls.mono HC0.out ?_
      rintro e Y0 ⟨hA0, hw0, hh⟩
      rcases hh with ⟨hc, rfl, hg0⟩ | ⟨hc, rfl⟩
      rotate_left
      · have e : r = (0, (f0, c0)) := HSt.out.trans ((Sk10.args (fun p => Sk10.val ps d t p xs) HSk.out _ _).stop (f0, c0) hc)
        have h : Post10 Z A G (.slice la ps.length lc) (.slice ta t.length tc) aa ac xs (endV t (a : Int)) r (gu c0) Y0 := by
          rw [e]
          exact ⟨hA0, HWw.out.trans hw0, Or.inr ⟨hc, rfl⟩⟩
        exact ⟨rfl, h⟩
      simp only at hc
      subst hc
      have hO0 := own_wrote HO.out hw0 (fun k e h => by have := (HO.out.lt k e).1; rcases h with h | h <;> omega)
      have hVY := HW.out.trans hw0
      have hS : S0 ≤ Y0.heap.size := by rw [← hS0]; exact hVY.size
      obtain ⟨v', Y, hr, ho, hgr⟩ := push_int v0 hO0 hS (by omega)
      obtain ⟨g', c', rfl⟩ := own_some ho (by omega)
      have HWY : Hid (W2 Z0 Y A G) := w2_push hVY hgr (fun k e => by rw [hS0]; exact (hO0.lt k e).1)
      have HAY : Hid (Ak Y A (.slice la ps.length lc) f0) := hA0.keep (hgr.block A hA0.lt (fun e => by have := (hO0.lt A e.symm).1; omega))
      have HBY : Hid (Bk Y G (.slice ta t.length tc) (.slice aa xs.length ac) (.int .i64 (chain t (i + 1) ((a + 1 : Nat) : Int)))) := hg0.bx.keep (hgr.block G hg0.bx.box.lt (fun e => by have := (hO0.lt G e.symm).1; omega))
      have HOY : Hid (Y.ownsRow S0 2 1 (.slice (some ⟨g', 0, none⟩) (i + 1) c') (i + 1) (intsV (acc ++ [v0]))) := ho
      have HLa2 : Hid ((acc ++ [v0]).length = i + 1) := by exact (by rw [List.length_append, HLa.out]; rfl : (acc ++ [v0]).length = i + 1)
      have HWo2 : Hid (∀ x ∈ acc ++ [v0], Word10 x) := fun x hx => by
        rcases List.mem_append.1 hx with h | h
        · exact HWo.out x h
        · rw [List.mem_singleton.1 h]; exact HW0
      clear hA0 hw0 hg0 hO0 hVY hS ho hgr HC0
      go_wp2_with (at_builtin; refine wpList_append_run rfl (.tmp 15) (.tmp 19) 25 rfl _ _ _ rfl rfl hr ?_; clear hr)
      go_roundw
      case rel => exact ⟨i + 1, acc ++ [v0], _, c', f0, rfl, by go_num, by omega, by omega, HSt, HLa2, HWo2, HOY, HAY, HBY, HWY⟩
      case measure => simp [intOf]; omega
    · have HIe : Hid (i = k) := by exact (by omega : i = k)
      have HRf : Hid (r = val10 ps d Ft 0 acc (g, 0)) := by
        exact (by rw [HR.out, List.drop_of_length_le (by have := HIe.out; omega)]; show K acc (g, 0) = _; rw [← HKe.out] : r = val10 ps d Ft 0 acc (g, 0))
      have hOa := HO.out
      rw [← HLa.out] at hOa
      obtain ⟨oa', oc', eo, hAo⟩ := as_own hOa hZl.1
      injection eo with eo1 _ eo3
      subst eo1
      obtain ⟨⟨y2, y3⟩, hBw, hWw⟩ := HZ.out wr HW.out
      have s0 := HAk.out.c0
      have HCf : Hid (∀ (Y : World) (ta' : Option Addr) (tc' : Nat), Below wr.heap.size wr Y → NodesIn B ta' Ft.length Ft → IntT Ft → ShortT Ft → Ft.length ≤ 1048576 → Calls Tryz.prog 44 #[.pointer (some ⟨A, 0, none⟩), .agg #[.string ⟨Fn.toArray⟩, .int .i64 Fa, .slice ta' Ft.length tc'], .slice oa i oc] Y (PostF Y A (.slice la ps.length lc) r)) := fun Y ta' tc' hy h1 h2 h3 h4 => by
        have h := HFc.out Y g acc oa oc ta' tc' (by omega) (hBw.trans (hy.mono hBw.size)) (HAk.out.below hy) (hAo.below hy) (HLa.out.trans HIe.out) HWo.out h1 h2 h3 h4
        rw [← HRf.out, HLa.out] at h
        exact h
      have HNn : Hid (∀ Y, Below wr.heap.size wr Y → Calls Tryz.prog 62 #[.slice la ps.length lc, .string ⟨np.toArray⟩, .string ⟨nf.toArray⟩] Y fun e w' => (∃ ta' tc', e = .returned (.tuple #[.agg #[.string ⟨Fn.toArray⟩, .int .i64 Fa, .slice ta' Ft.length tc'], .bool true]) ∧ NodesIn B ta' Ft.length Ft ∧ IntT Ft ∧ ShortT Ft ∧ Ft.length ≤ 1048576) ∧ Below Y.heap.size Y w') := fun Y hy => (HNm.out Y (hBw.trans (hy.mono hBw.size))).mono fun e w' h => by
        obtain ⟨h, hb⟩ := h
        rcases h with ⟨_, _, h⟩ | ⟨h, _⟩
        · rw [HF.out] at h
          exact ⟨h, hb⟩
        · exact absurd HYs.out h
      have HS : Hid (∀ Y, Below wr.heap.size wr Y → Y.cell? ⟨A, 0, none⟩ = some (.slice la ps.length lc) ∧ Y.cell? ⟨N, 2, none⟩ = some (.string ⟨np.toArray⟩) ∧ Y.cell? ⟨N, 3, none⟩ = some (.string ⟨nf.toArray⟩)) := fun Y hy => ⟨(hy.cell (p := ⟨A, 0, none⟩) (World.block_lt_of_cell? wr ⟨A, 0, none⟩ s0)).trans s0, (hy.cell (p := ⟨N, 2, none⟩) (World.block_lt_of_cell? wr ⟨N, 2, none⟩ y2)).trans y2, (hy.cell (p := ⟨N, 3, none⟩) (World.block_lt_of_cell? wr ⟨N, 3, none⟩ y3)).trans y3⟩
      have HEnd : Hid (∀ (Y Y' : World) (e : Ending), Below wr.heap.size wr Y → PostF Y A (.slice la ps.length lc) r e Y' → Post10 Z A G (.slice la ps.length lc) (.slice ta t.length tc) aa ac xs (endV t (a : Int)) r e Y') := fun Y Y' e hy h => by
        obtain ⟨h1, h2, h3⟩ := h
        have hZ0Y : W2 Z0 Y' A G := (HW.out.trans (Wrote.of_below hy)).trans (h2.mono (fun k e => Or.inl e))
        refine ⟨h1, (HZ.out Y' hZ0Y).2.2, ?_⟩
        rcases h3 with ⟨hc, he⟩ | h3
        · refine Or.inl ⟨hc, he, HGo.out Y' _ hZ0Y ?_⟩
          have hb := (HBk.out.below hy).wrote h2 (fun e => (HGo.out wr _ HW.out HBk.out).ne e)
          rw [HIe.out, HCh.out] at hb
          exact hb
        · exact Or.inr h3
      have hb27 : Below wr.heap.size wr wr.drew := ⟨rfl, rfl, rfl, Nat.le_refl _, fun _ _ => rfl⟩
      obtain ⟨bz, hb28⟩ := Bk.new wr (.string ⟨#[]⟩) (.int .i64 0) (.slice none 0 0) 42
      obtain ⟨X8, hX8⟩ : ∃ X8, wr.alloc (.cells #[.string ⟨#[]⟩, .int .i64 0, .slice none 0 0] 42) = X8 := ⟨_, rfl⟩
      rw [hX8] at bz hb28
      have HB27 : Hid (Below wr.heap.size wr wr.drew) := hb27
      have HB28 : Hid (Below wr.heap.size wr X8.drew) := ⟨hb28.os, hb28.tape, hb28.output, hb28.size, hb28.block⟩
      obtain ⟨E0, hE0⟩ : ∃ E0, wr.heap.size = E0 := ⟨_, rfl⟩
      rw [hE0] at bz HB27 HB28 HNn HS HCf HEnd
      have HZb : Hid (∀ Y, Below X8.heap.size X8 Y → Bk Y E0 (.string ⟨#[]⟩) (.int .i64 0) (.slice none 0 0)) := fun Y hy => bz.below hy
      have hb29 : Below E0 wr X8 := by rw [← hE0]; exact hb28
      obtain ⟨x80, x82, x83⟩ := HS.out X8 hb29
      clear hb29 hb27 hb28 bz hOa eo3 hAo HRf HFc HNm HZ HGo HCl HPl HLess HWd HW HBk HAk HO HWo HLa HR hBw hWw HKe HSk HT HE HF HYs HIe HCh
      go_upto_region 6 with fail
      go_region_held3 (fun w' => w'.cell? ⟨A, 0, none⟩ = some (.slice la ps.length lc) ∧ w'.cell? ⟨N, 2, none⟩ = some (.string ⟨np.toArray⟩) ∧ w'.cell? ⟨N, 3, none⟩ = some (.string ⟨nf.toArray⟩)) (go_keep) (first
        | (go_at_call 62; refine Calls.mono (HNn.out _ HB27.out) ?_; rintro e wn ⟨⟨ta', tc', rfl, hN1, hN2, hN3, hN4⟩, hbn⟩; have HBn : Hid (Below E0 wr wn) := HB27.out.trans (hbn.mono (Nat.le_trans (Nat.le_of_eq hE0.symm) HB27.out.size)); clear s0 y2 y3; obtain ⟨s0, y2, y3⟩ := HS.out wn HBn.out; have HIn : Hid (NodesIn B ta' Ft.length Ft ∧ IntT Ft ∧ ShortT Ft ∧ Ft.length ≤ 1048576) := ⟨hN1, hN2, hN3, hN4⟩; obtain ⟨bx, hbx⟩ := Box3.new wn (.string ⟨Fn.toArray⟩) (.int .i64 Fa) (.slice ta' Ft.length tc') 42; obtain ⟨U, hU⟩ : ∃ U, wn.alloc (.cells #[.string ⟨Fn.toArray⟩, .int .i64 Fa, .slice ta' Ft.length tc'] 42) = U := ⟨_, rfl⟩; rw [hU] at bx hbx; have HBU : Hid (Below E0 wr U) := HBn.out.trans (hbx.mono (Nat.le_trans (Nat.le_of_eq hE0.symm) HBn.out.size)); obtain ⟨K8, hK8⟩ : ∃ K8, wn.heap.size = K8 := ⟨_, rfl⟩; rw [hK8] at bx; have u0 := bx.c0; have u1 := bx.c1; have u2 := bx.c2; obtain ⟨us0, uy2, uy3⟩ := HS.out U HBU.out; clear hN1 hN2 hN3 hN4 hbn bx hbx)
        | (go_at_call 62; refine Calls.mono (HNn.out _ HB28.out) ?_; rintro e wn ⟨⟨ta', tc', rfl, hN1, hN2, hN3, hN4⟩, hbn⟩; have HBn : Hid (Below E0 wr wn) := HB28.out.trans (hbn.mono (Nat.le_trans (Nat.le_of_eq hE0.symm) HB28.out.size)); clear s0 y2 y3; obtain ⟨s0, y2, y3⟩ := HS.out wn HBn.out; have HIn : Hid (NodesIn B ta' Ft.length Ft ∧ IntT Ft ∧ ShortT Ft ∧ Ft.length ≤ 1048576) := ⟨hN1, hN2, hN3, hN4⟩; have bz := HZb.out wn ⟨hbn.os, hbn.tape, hbn.output, hbn.size, hbn.block⟩; have z0 := bz.box.c0; have z1 := bz.box.c1; have z2 := bz.box.c2; have zf0 := bz.fr 0; have zf1 := bz.fr 1; have zf2 := bz.fr 2; obtain ⟨U, hU, u0, u1, u2, hgU⟩ := set3 (.string ⟨Fn.toArray⟩) (.int .i64 Fa) (.slice ta' Ft.length tc') z0 z1 z2; have HBU : Hid (Below E0 wr U) := HBn.out.grown hgU (Nat.le_trans (Nat.le_of_eq hE0.symm) HBn.out.size) (fun k e => (by injection e with e; omega)); obtain ⟨us0, uy2, uy3⟩ := HS.out U HBU.out; clear hN1 hN2 hN3 hN4 hbn bz hgU))
      all_goals
        clear s0 y2 y3 us0 uy2 uy3
        go_wp2_with fail
        refine Calls.mono (HCf.out _ ta' tc' (by first | exact HBU.out | exact ⟨HBU.out.os, HBU.out.tape, HBU.out.output, HBU.out.size, HBU.out.block⟩) HIn.out.1 HIn.out.2.1 HIn.out.2.2.1 HIn.out.2.2.2) ?_
        rintro e V hpost
        have hp := HEnd.out _ V e (by first | exact HBU.out | exact ⟨HBU.out.os, HBU.out.tape, HBU.out.output, HBU.out.size, HBU.out.block⟩) hpost
        obtain ⟨_, _, h3⟩ := hpost
        rcases h3 with ⟨hc, rfl⟩ | ⟨hc, rfl⟩
        · have HP : Hid (Post10 Z A G (.slice la ps.length lc) (.slice ta t.length tc) aa ac xs (endV t (a : Int)) r (.returned (.int .i64 r.1)) V) := hp
          clear hp hc
          go_wp2
          go_ret
          exact HP.out
        · exact ⟨rfl, hp⟩

end Go.Proofs.YtmloocbbcnhooaaGreatDoor
