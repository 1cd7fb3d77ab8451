/-
  Parts of one proof, one behind the other: FoldK5.
-/
import Derived.Test.YtenaaneckobdpaaGreatP18
import Derived.Test.YtenaaneckobdpaaGreatP17
namespace Go.Proofs.YtenaaneckobdpaaGreat
open Go.RowKit
set_option maxHeartbeats 40000000 in
set_option maxRecDepth 100000 in
theorem zjd (B : World) (ta : Option Addr) (tc : Nat) (t : List Nd) (hin : zag B ta t.length t) (hsh : zaX t) (hgood : zaZ t) (hlen : t.length ≤ 60) (d : Nat) (ih : zhy B ta tc t d) (w : World) (a : Nat) (hB : Below B.heap.size B w) (hp : 0 ≤ endV t (a : Int)) (hd : t.length ≤ a + (d + 1)) (hkd : (t.getD a nd0).1 = 5) :
 Calls Tryz.prog 72 #[.slice ta t.length tc, .int .i64 (a : Int)] w fun e w' => ∃ v, e = .returned v ∧ w'.ownsRow w.heap.size 99 4 v (zac (d + 1) t (a : Int)).length (za5 (zac (d + 1) t (a : Int))) ∧ Below w.heap.size w w' := by
 obtain ⟨hal, _, _, _, _⟩ := zan hp
 have hmem : t.getD a nd0 ∈ t := by simp [List.getD, hal]
 have hnb := hgood _ hmem
 have HPl : Hid (∀ i, i < zae (t.getD a nd0) → ∃ q : Nat, (za3 t (a : Int)).getD i 0 = (q : Int) ∧ a < q ∧ 0 ≤ endV t (q : Int)) := fun i hi => by
  obtain ⟨q, hq, _, hqe⟩ := zbT hp hi
  refine ⟨q, hq, ?_, hqe⟩
  obtain ⟨s, post, e, hs⟩ := zcK hp
  cases hs with
  | mk n ks hn hk ho =>
   obtain ⟨e1, e2, e3⟩ := zc8 e hk ho
   rw [e1] at hi
   obtain ⟨_, e4, _⟩ := e3 i (by omega)
   rw [hq] at e4
   omega
 have hpl := zbj t a
 obtain ⟨n, hn⟩ : ∃ n, t.getD a nd0 = n := ⟨_, rfl⟩
 obtain ⟨bt, ot, rfl, hbt, q0, q1, q2, q3⟩ := (hin.below hB).2 a hal
 have hkk := zbc hnb
 have hnd := zaW.1 hnb
 have hr : zac (d + 1) t (a : Int) = mk11 (t.getD a nd0) ((za3 t (a : Int)).map (zac d t)) := rfl
 rw [hr]
 rw [hn] at q0 q1 q2 q3 HPl hpl hkk hnd hkd ⊢
 obtain ⟨kd, nA, np, nf⟩ := n
 simp only at hkd
 subst hkd
 unfold zcd at hnd
 simp only at q0 q1 q2 q3 hnd
 obtain ⟨⟨n0, n1, n2, n3⟩, hbg⟩ := zcX w (.int .i64 5) (.int .i64 nA) (.string ⟨np.toArray⟩) (.string ⟨nf.toArray⟩) 99
 obtain ⟨X, hX⟩ : ∃ X, w.alloc (.cells #[.int .i64 5, .int .i64 nA, .string ⟨np.toArray⟩, .string ⟨nf.toArray⟩] 99) = X := ⟨_, rfl⟩
 obtain ⟨N, hN⟩ : ∃ N, w.heap.size = N := ⟨_, rfl⟩
 rw [hX] at n0 n1 n2 n3 hbg
 rw [hN] at n0 n1 n2 n3
 have hNX : N < X.heap.size := World.block_lt_of_cell? X ⟨N, 0, none⟩ n0
 have hBX : Below B.heap.size B X := hB.trans (hbg.mono hB.size)
 have HPt : Hid (_) := zaK (some ⟨bt, ot, none⟩) tc t a X (hin.below hBX) hsh (by omega) hal (by rw [hn]; exact hn ▸ hnb)
 rw [hn] at HPt
 have HPe : Hid (zaj t (zae (5, nA, np, nf)) ((a : Int) + 1) = za3 t (a : Int)) := by
  exact (by unfold za3; rw [Int.toNat_natCast, hn] : zaj t (zae (5, nA, np, nf)) ((a : Int) + 1) = za3 t (a : Int))
 rw [HPe.out] at HPt
 obtain ⟨k, hk⟩ : ∃ k, zae (5, nA, np, nf) = k := ⟨_, rfl⟩
 have HK : Hid (zae (5, nA, np, nf) = k) := hk
 rw [hk] at HPt HPl hpl hkk
 have HIh : Hid (∀ Y i, i < k → Below X.heap.size X Y → Calls Tryz.prog 72 #[.slice (some ⟨bt, ot, none⟩) t.length tc, .int .i64 ((za3 t (a : Int)).getD i 0)] Y fun e w' => ∃ v, e = .returned v ∧ w'.ownsRow Y.heap.size 99 4 v (((za3 t (a : Int)).map (zac d t)).getD i []).length (za5 (((za3 t (a : Int)).map (zac d t)).getD i [])) ∧ Below Y.heap.size Y w') := fun Y i hi hy => by
  obtain ⟨q, e, hq, hqe⟩ := HPl.out i hi
  have e2 : ((za3 t (a : Int)).map (zac d t)).getD i [] = zac d t (q : Int) := by
   rw [← e]
   simp [List.getD, show i < (za3 t (a : Int)).length by omega]
  rw [e, e2]
  exact ih Y q (hBX.trans (hy.mono hBX.size)) hqe (by omega)
 have HLn : Hid (∀ i, i < k → 0 < (((za3 t (a : Int)).map (zac d t)).getD i []).length ∧ (((za3 t (a : Int)).map (zac d t)).getD i []).length ≤ 60 ∧ zaZ (((za3 t (a : Int)).map (zac d t)).getD i [])) := fun i hi => by
  obtain ⟨q, e, hq, hqe⟩ := HPl.out i hi
  have e2 : ((za3 t (a : Int)).map (zac d t)).getD i [] = zac d t (q : Int) := by
   rw [← e]
   simp [List.getD, show i < (za3 t (a : Int)).length by omega]
  rw [e2]
  have h := zd3 (d := d) hqe (by omega)
  exact ⟨h.1, by omega, h.2.2⟩
 obtain ⟨rs, hrs⟩ : ∃ rs, (za3 t (a : Int)).map (zac d t) = rs := ⟨_, rfl⟩
 have HRl : Hid (rs.length = k) := by exact (by rw [← hrs, List.length_map, hpl] : rs.length = k)
 rw [hrs] at HIh HLn ⊢
 have HBX : Hid (Below w.heap.size w X) := hbg
 generalize za3 t (a : Int) = pts at HPt HIh hpl
 have HN : Hid (∀ Y, Below X.heap.size X Y → Y.cell? ⟨N, 0, none⟩ = some (.int .i64 5) ∧ Y.cell? ⟨N, 1, none⟩ = some (.int .i64 nA) ∧ Y.cell? ⟨N, 2, none⟩ = some (.string ⟨np.toArray⟩) ∧ Y.cell? ⟨N, 3, none⟩ = some (.string ⟨nf.toArray⟩)) := fun Y hy => ⟨(hy.cell (p := ⟨N, 0, none⟩) hNX).trans n0, (hy.cell (p := ⟨N, 1, none⟩) hNX).trans n1, (hy.cell (p := ⟨N, 2, none⟩) hNX).trans n2, (hy.cell (p := ⟨N, 3, none⟩) hNX).trans n3⟩
 have hal2 : (a : Int) < (t.length : Int) := by omega
 have hk3 : k ≤ 3 := hkk.2
 clear ih hmem hnb HPl HPe hr hn hkk hbg hBX hrs hal n0 n1 n2 n3 hbt hB hp hk
 go_enter Tryz.func72, Tryz.ntmps72
 go_wp2_with fail
 refine Calls.mono HPt.out ?_
 rintro e V ⟨v, rfl, ho, hb2⟩
 obtain rfl : pts.length = k := hpl
 obtain ⟨pa, pc, rfl, hpV⟩ := zfj ho hNX
 obtain ⟨m0, m1, m2, m3⟩ := HN.out V hb2
 have HAs : Hid (∀ Y, Below V.heap.size V Y → As Y N pa pts) := fun Y hy => hpV.below hy
 have HXV : Hid (Below X.heap.size X V) := hb2
 have hbA : Below V.heap.size V (V.alloc (.cells #[] 97)) := (Below.refl _ _).alloc (Nat.le_refl _) _
 have hP0 : (V.alloc (.cells #[] 97)).ownsRow V.heap.size 97 1 (.slice (some ⟨V.heap.size, 0, none⟩) 0 0) 0 [] := World.ownsRow_lit (base := V.heap.size) (e := 97) (size := 1) V #[] 0 (Nat.le_refl _) (by decide) rfl
 have hNV : N < V.heap.size := World.block_lt_of_cell? V ⟨N, 0, none⟩ m0
 have u0 := (hbA.cell (p := ⟨N, 0, none⟩) hNV).trans m0
 have u1 := (hbA.cell (p := ⟨N, 1, none⟩) hNV).trans m1
 have u2 := (hbA.cell (p := ⟨N, 2, none⟩) hNV).trans m2
 have u3 := (hbA.cell (p := ⟨N, 3, none⟩) hNV).trans m3
 obtain ⟨V1, hV1⟩ : ∃ V1, V.alloc (.cells #[] 97) = V1 := ⟨_, rfl⟩
 rw [hV1] at hbA hP0 u0 u1 u2 u3
 have hA0 : (V1.alloc (.cells #[.int .i64 5, .int .i64 nA, .string ⟨np.toArray⟩, .string ⟨nf.toArray⟩] 99)).ownsRow V.heap.size 99 4 (.slice (some ⟨V1.heap.size, 0, none⟩) 1 1) 1 (za5 [(5, nA, np, nf)]) := World.ownsRow_lit (base := V.heap.size) (e := 99) (size := 4) V1 #[.int .i64 5, .int .i64 nA, .string ⟨np.toArray⟩, .string ⟨nf.toArray⟩] 1 hbA.size (by decide) rfl
 have hbB : Below V1.heap.size V1 (V1.alloc (.cells #[.int .i64 5, .int .i64 nA, .string ⟨np.toArray⟩, .string ⟨nf.toArray⟩] 99)) := (Below.refl _ _).alloc (Nat.le_refl _) _
 obtain ⟨V2, hV2⟩ : ∃ V2, V1.alloc (.cells #[.int .i64 5, .int .i64 nA, .string ⟨np.toArray⟩, .string ⟨nf.toArray⟩] 99) = V2 := ⟨_, rfl⟩
 rw [hV2] at hA0 hbB
 obtain ⟨B1, hB1⟩ : ∃ B1, V.heap.size = B1 := ⟨_, rfl⟩
 obtain ⟨M1, hM1⟩ : ∃ M1, V1.heap.size = M1 := ⟨_, rfl⟩
 have HP2 : Hid (V2.ownsRow B1 97 1 (.slice (some ⟨B1, 0, none⟩) 0 0) 0 [] ∧ ([] : List Value).length = 0) := by
  exact (by rw [← hB1]; exact ⟨za6 hP0 hbB, rfl⟩ : V2.ownsRow B1 97 1 (.slice (some ⟨B1, 0, none⟩) 0 0) 0 [] ∧ ([] : List Value).length = 0)
 have HA2 : Hid (V2.ownsRow B1 99 4 (.slice (some ⟨M1, 0, none⟩) 1 1) 1 (za5 ((5, nA, np, nf) :: (rs.take 0).flatten)) ∧ 1 = ((5, nA, np, nf) :: (rs.take 0).flatten).length) := by
  exact (by rw [← hB1, ← hM1]; exact ⟨hA0, rfl⟩ : V2.ownsRow B1 99 4 (.slice (some ⟨M1, 0, none⟩) 1 1) 1 (za5 ((5, nA, np, nf) :: (rs.take 0).flatten)) ∧ 1 = ((5, nA, np, nf) :: (rs.take 0).flatten).length)
 have HB2 : Hid (Below B1 V V2) := by
  exact (by rw [← hB1]; exact hbA.trans (hbB.mono hbA.size) : Below B1 V V2)
 clear hbA hP0 hA0 hbB hpV ho m0 m1 m2 m3 hb2 HPt
 go_wp2
 go_loopw [7, 8, 9] (fun pv0 av0 iv wx => ∃ (i m : Nat) (pv av : Value) (vs : List Value), pv = pv0 ∧ av = av0 ∧ iv = .int .i64 (i : Int) ∧ i ≤ pts.length ∧ m ≤ 1 + i * 60 ∧ Hid (wx.ownsRow B1 97 1 pv i vs ∧ vs.length = i) ∧ Hid (wx.ownsRow B1 99 4 av m (za5 ((5, nA, np, nf) :: (rs.take i).flatten)) ∧ m = ((5, nA, np, nf) :: (rs.take i).flatten).length) ∧ Hid (∀ j, j < i → wx.ownsRow B1 99 4 (vs.getD j undef) (rs.getD j []).length (za5 (rs.getD j [])) ∧ ((vs.getD j undef).ownBlock = none ∨ (vs.getD j undef).ownBlock ≠ av.ownBlock)) ∧ Hid (Below B1 V wx)) (fun _ _ iv _ => pts.length - (intOf iv).toNat)
 case atStart => exact ⟨0, 1, _, _, [], rfl, rfl, rfl, Nat.zero_le _, by omega, HP2, HA2, (fun j hj => absurd hj (Nat.not_lt_zero _)), HB2⟩
 case round =>
  obtain ⟨i, m, pv, av, vs, rfl, rfl, rfl, hi, hm, HP, HA, HE, HBw⟩ := hrel
  clear HP2 HA2 HB2 u0 u1 u2 u3
  have hbw : Below V.heap.size V wr := by rw [hB1]; exact HBw.out
  by_cases hlt : (i : Int) < (pts.length : Int)
  ·
   have hi2 : i < pts.length := by omega
   obtain ⟨bp, op, rfl, _, _, p0⟩ := HAs.out wr hbw i hi2
   have HC : Hid (_) := HIh.out wr i hi2 (HXV.out.trans (hbw.mono HXV.out.size))
   obtain ⟨hl0, hl60, _⟩ := HLn.out i hi2
   obtain ⟨x, hx⟩ : ∃ x, rs.getD i [] = x := ⟨_, rfl⟩
   have HXe : Hid (rs.getD i [] = x) := hx
   rw [hx] at HC hl0 hl60
   have hB1w : B1 ≤ wr.heap.size := by rw [← hB1]; exact hbw.size
   generalize pts.getD i 0 = P0 at p0 HC
   clear hx
   go_wp2_with fail
   refine Calls.mono HC.out ?_
   rintro e Y0 ⟨xv, rfl, hxo, hb0⟩
   obtain ⟨gx, cx, rfl⟩ := za9 hxo (by omega)
   -- the parts
   have hp0 := za6 HP.out.1 hb0
   have ha0 := za6 HA.out.1 hb0
   obtain ⟨p', Y1, hr1, hp1, hg1⟩ := zc2 (some ⟨gx, 0, none⟩) x.length cx hp0 (Nat.le_trans hB1w hb0.size) (by omega)
   have ha1 := ha0.kept hg1 (za4 ha0 hp0 (by decide))
   have hx1 := hxo.kept hg1 (za4 hxo hp0 (by decide))
   have hs1 := hg1.size
   have hs0 := hb0.size
   obtain ⟨a', Y2, hr2, ha2, hg2, hat⟩ := zbC ha1 hx1 (by omega) (by omega)
   have hav : ∀ k, av.ownBlock = some k → k < wr.heap.size := fun k e => (HA.out.1.lt k e).2
   have hxap : (Value.slice (some ⟨gx, 0, none⟩) x.length cx).ownBlock = none ∨ (Value.slice (some ⟨gx, 0, none⟩) x.length cx).ownBlock ≠ av.ownBlock := Or.inr (fun e => by
    have h1 : some gx = av.ownBlock := e
    have h2 := hav gx h1.symm
    have h3 := (hxo.lt gx rfl).1
    omega)
   have hnew : ∀ (u : Value) (nn : Nat) (ys : List Value) (b : Nat), Y1.ownsRow b 99 4 u nn ys → (u.ownBlock = none ∨ u.ownBlock ≠ av.ownBlock) → (u.ownBlock = none ∨ u.ownBlock ≠ a'.ownBlock) := fun u nn ys b hu h => by
    rcases hq : u.ownBlock with _ | q
    ·
     exact Or.inl rfl
    ·
     right
     intro e
     rcases hat q e.symm with h1 | h1
     ·
      rcases h with h | h
      ·
       rw [hq] at h; cases h
      ·
       exact h (by rw [hq, h1])
     ·
      have := (hu.lt q hq).2
      omega
   have HP3 : Hid (Y2.ownsRow B1 97 1 p' (i + 1) (vs ++ [.slice (some ⟨gx, 0, none⟩) x.length cx]) ∧ (vs ++ [Value.slice (some ⟨gx, 0, none⟩) x.length cx]).length = i + 1) := ⟨hp1.kept hg2 (za4 hp1 ha1 (by decide)), by rw [List.length_append, HP.out.2]; rfl⟩
   have htk : (rs.take (i + 1)).flatten = (rs.take i).flatten ++ x := by
    have hil : i < rs.length := by rw [HRl.out]; exact hi2
    have e := HXe.out
    rw [List.take_succ_eq_append_getElem hil, List.flatten_append]
    congr 1
    rw [← e]
    simp [List.getD, hil]
   have HA3 : Hid (Y2.ownsRow B1 99 4 a' (m + x.length) (za5 ((5, nA, np, nf) :: (rs.take (i + 1)).flatten)) ∧ m + x.length = ((5, nA, np, nf) :: (rs.take (i + 1)).flatten).length) := by
    refine ⟨?_, ?_⟩
    ·
     rw [htk]; exact ha2
    ·
     rw [htk, List.length_cons, List.length_append]
     have := HA.out.2
     rw [List.length_cons] at this
     omega
   have HE3 : Hid (∀ j, j < i + 1 → Y2.ownsRow B1 99 4 ((vs ++ [Value.slice (some ⟨gx, 0, none⟩) x.length cx]).getD j undef) (rs.getD j []).length (za5 (rs.getD j [])) ∧ (((vs ++ [Value.slice (some ⟨gx, 0, none⟩) x.length cx]).getD j undef).ownBlock = none ∨ ((vs ++ [Value.slice (some ⟨gx, 0, none⟩) x.length cx]).getD j undef).ownBlock ≠ a'.ownBlock)) := fun j hj => by
    have hvl := HP.out.2
    rcases Nat.lt_or_ge j i with h | h
    ·
     have e3 : (vs ++ [Value.slice (some ⟨gx, 0, none⟩) x.length cx]).getD j undef = vs.getD j undef := by
      simp only [List.getD]
      rw [List.getElem?_append_left (by omega)]
     rw [e3]
     obtain ⟨h1, h2⟩ := HE.out j h
     have h3 := za6 h1 hb0
     have h4 := h3.kept hg1 (za4 h3 hp0 (by decide))
     exact ⟨h4.kept hg2 h2, hnew _ _ _ _ h4 h2⟩
    ·
     obtain rfl : j = i := by omega
     have e3 : (vs ++ [Value.slice (some ⟨gx, 0, none⟩) x.length cx]).getD j undef = .slice (some ⟨gx, 0, none⟩) x.length cx := by
      simp only [List.getD]
      rw [List.getElem?_append_right (by omega), hvl]
      simp
     rw [e3, HXe.out]
     exact ⟨zai (hx1.kept hg2 hxap) (by omega), hnew _ _ _ _ hx1 hxap⟩
   have HB3 : Hid (Below B1 V Y2) := ((HBw.out.trans (hb0.mono hB1w)).grown hg1 (by omega) (fun k e => (hp0.lt k e).1)).grown hg2 (by omega) (fun k e => (HA.out.1.lt k e).1)
   generalize hxl : x.length = xl at *
   clear hp0 ha0 ha1 hx1 hp1 hg1 ha2 hg2 hat hav hxap hnew htk hxo hb0 HC HP HA HE hs0 hs1 p0
   go_wp2_with (first | (at_builtin; refine za0 rfl (.tmp 37) (.tmp 39) 134 rfl _ _ _ rfl rfl hr1 ?_; clear hr1) | (at_builtin; refine za0 rfl (.tmp 41) (.tmp 42) 97 rfl _ _ _ rfl rfl hr2 ?_; clear hr2))
   go_roundw
   case rel => exact ⟨i + 1, m + xl, p', a', _, rfl, rfl, by go_num, by omega, by omega, HP3, HA3, HE3, HB3⟩
   case measure => simp [intOf]; omega
  ·
   have HIe : Hid (i = pts.length) := by exact (by omega : i = pts.length)
   have htk : rs.take i = rs := List.take_of_length_le (by rw [HRl.out, HIe.out]; exact Nat.le_refl _)
   have har := HA.out
   rw [htk] at har
   have HAl : Hid (wr.ownsRow B1 99 4 av ((5, nA, np, nf) :: rs.flatten).length (za5 ((5, nA, np, nf) :: rs.flatten))) := by
    exact (by rw [← har.2]; exact har.1 : wr.ownsRow B1 99 4 av ((5, nA, np, nf) :: rs.flatten).length (za5 ((5, nA, np, nf) :: rs.flatten)))
   have HVX : Hid (Below w.heap.size w V) := HBX.out.trans (HXV.out.mono HBX.out.size)
   have HFin : Hid (∀ (u : Value) (L : List Nd) (Y : World), Y.ownsRow B1 99 4 u L.length (za5 L) → Below V.heap.size V Y → Y.ownsRow N 99 4 u L.length (za5 L) ∧ Below N w Y) := fun u L Y h1 h2 => by
    rw [← hN]
    exact ⟨zai h1 (by rw [← hB1]; exact HVX.out.size), HVX.out.trans (h2.mono HVX.out.size)⟩
   obtain ⟨nn0, nn1, nn2, nn3⟩ := HN.out wr (HXV.out.trans (hbw.mono HXV.out.size))
   have HBv : Hid (Below V.heap.size V wr) := hbw
   have h2 : pts.length = 2 := by rw [← HK.out]; exact zbx (show (3 : Int) ≤ 5 ∧ (5 : Int) ≤ 6 by decide)
   obtain ⟨r0, a0⟩ := HE.out 0 (by omega)
   obtain ⟨r1, a1⟩ := HE.out 1 (by omega)
   have hl0 := HLn.out 0 (by omega)
   have hl1 := HLn.out 1 (by omega)
   obtain ⟨g0, d0, e0⟩ := za9 r0 (by omega)
   obtain ⟨g1, d1, e1⟩ := za9 r1 (by omega)
   have hmk : mk11 (5, nA, np, nf) rs = if (zaA (rs.getD 0 []) && zaA (rs.getD 1 [])) = true then (if zce 5 ((rs.getD 0 []).getD 0 nd0).2.1 ((rs.getD 1 []).getD 0 nd0).2.1 = true then [(1, zbO 5 ((rs.getD 0 []).getD 0 nd0).2.1 ((rs.getD 1 []).getD 0 nd0).2.1, [], [])] else (5, nA, np, nf) :: rs.flatten)
    else if (decide (5 ≤ 4) && zar (rs.getD 1 []) 0 || decide (5 ≤ 5) && zar (rs.getD 1 []) 1) = true then rs.getD 0 []
    else if (decide (5 = 3) && zar (rs.getD 0 []) 0 || decide (5 = 5) && zar (rs.getD 0 []) 1) = true then rs.getD 1 []
    else (5, nA, np, nf) :: rs.flatten := by
    unfold mk11
    rw [if_pos (show (3 : Int) ≤ 5 ∧ (5 : Int) ≤ 6 by decide)]
    rfl
   have hpr := HP.out.1
   have hvl := HP.out.2
   obtain ⟨gp, cp, rfl⟩ := za9 hpr (by omega)
   have cell : ∀ j, j < i → wr.cell? ⟨gp, j, none⟩ = some (vs.getD j undef) := fun j hj => by
    rw [hpr.cellAt j (by omega)]
    simp [List.getD, show j < vs.length by omega]
   have t0 := cell 0 (by omega)
   have t1 := cell 1 (by omega)
   rw [e0] at t0 r0
   rw [e1] at t1 r1
   obtain ⟨_, q0, f0, eq0, hi0⟩ := zaL r0
   injection eq0 with eq1 _ eq3
   subst eq1
   obtain ⟨_, q1, f1, eq1', hi1⟩ := zaL r1
   injection eq1' with eq4 _ eq6
   subst eq4
   have HO0 : Hid (_) := zbJ (some ⟨g0, 0, none⟩) (rs.getD 0 []).length d0 (rs.getD 0 []) wr hi0 (by omega)
   have HO1 : Hid (_) := zbJ (some ⟨g1, 0, none⟩) (rs.getD 1 []).length d1 (rs.getD 1 []) wr hi1 (by omega)
   have HN0 : Hid (_) := fun u => zbK (some ⟨g0, 0, none⟩) (rs.getD 0 []).length d0 (rs.getD 0 []) u wr hi0 (by omega)
   have HN1 : Hid (_) := fun u => zbK (some ⟨g1, 0, none⟩) (rs.getD 1 []).length d1 (rs.getD 1 []) u wr hi1 (by omega)
   have hc0 := hi0.2 0 (by omega)
   have hc1 := hi1.2 0 (by omega)
   have w0 : (0 : Int) < (i : Int) := by omega
   have w1 : (1 : Int) < (i : Int) := by omega
   have HR0 : Hid (_) := HFin.out _ _ wr r0 HBv.out
   have HR1 : Hid (_) := HFin.out _ _ wr r1 HBv.out
   have HRa : Hid (_) := HFin.out _ _ wr HAl.out HBv.out
   have hwv : B1 ≤ wr.heap.size := by rw [← hB1]; exact HBv.out.size
   have HRn : Hid (∀ z : Int, (wr.alloc (.cells #[.int .i64 1, .int .i64 z, .string ⟨#[]⟩, .string ⟨#[]⟩] 99)).ownsRow N 99 4 (.slice (some ⟨wr.heap.size, 0, none⟩) 1 1) 1 (za5 [(1, z, [], [])]) ∧ Below N w (wr.alloc (.cells #[.int .i64 1, .int .i64 z, .string ⟨#[]⟩, .string ⟨#[]⟩] 99))) := fun z => HFin.out _ [(1, z, [], [])] _ (World.ownsRow_lit (base := B1) (e := 99) (size := 4) wr #[.int .i64 1, .int .i64 z, .string ⟨#[]⟩, .string ⟨#[]⟩] 1 hwv (by decide) rfl) (HBv.out.trans (((Below.refl _ _).alloc (Nat.le_refl _) _).mono HBv.out.size))
   obtain ⟨x0, hx0⟩ : ∃ x, rs.getD 0 [] = x := ⟨_, rfl⟩
   obtain ⟨x1, hx1⟩ : ∃ x, rs.getD 1 [] = x := ⟨_, rfl⟩
   rw [hx0] at t0 HO0 HN0 HR0 hmk hc0 hl0
   rw [hx1] at t1 HO1 HN1 HR1 hmk hc1 hl1
   obtain ⟨b0', o0', ea0, _, _, z0, _⟩ := hc0
   obtain ⟨b1', o1', ea1, _, _, z1, _⟩ := hc1
   simp only [Option.some.injEq, Addr.mk.injEq, and_true] at ea0 ea1
   obtain ⟨rfl, rfl⟩ := ea0
   obtain ⟨rfl, rfl⟩ := ea1
   simp only [Nat.zero_mul, Nat.add_zero, Nat.zero_add] at z0 z1
   have HW0 : Hid (zaA x0 = true → -2147483648 ≤ (x0.getD 0 nd0).2.1 ∧ (x0.getD 0 nd0).2.1 ≤ 2147483647) := fun h => zch hl0.2.2 h
   have HW1 : Hid (zaA x1 = true → -2147483648 ≤ (x1.getD 0 nd0).2.1 ∧ (x1.getD 0 nd0).2.1 ≤ 2147483647) := fun h => zch hl1.2.2 h
   obtain ⟨u0, hu0⟩ : ∃ u, (x0.getD 0 nd0).2.1 = u := ⟨_, rfl⟩
   obtain ⟨u1, hu1⟩ : ∃ u, (x1.getD 0 nd0).2.1 = u := ⟨_, rfl⟩
   rw [hu0] at z0 hmk HW0
   rw [hu1] at z1 hmk HW1
   have hp0 : (0 : Int) < (x0.length : Int) := by omega
   have hp1 : (0 : Int) < (x1.length : Int) := by omega
   obtain ⟨y0, hy0⟩ : ∃ y, x0.length = y := ⟨_, rfl⟩
   obtain ⟨y1, hy1⟩ : ∃ y, x1.length = y := ⟨_, rfl⟩
   rw [hy0] at t0 HO0 HN0 HR0 hp0
   rw [hy1] at t1 HO1 HN1 HR1 hp1
   have HMk : Hid (_) := hmk
   clear cell hpr hvl HP HA HE hbw har htk hnd r0 r1 a0 a1 hl0 hl1 e0 e1 hi0 hi1 eq3 eq6 hx0 hx1 HLn HIh HAs hmk hu0 hu1 hwv
   rcases hp : zaA x0 with _ | _
   ·
    rcases b1 : zar x1 1 with _ | _
    ·
     rcases b0 : zar x0 1 with _ | _
     ·
      have hm := HMk.out
      simp [hp, b1, b0] at hm
      clear HMk
      go_wp2_with fail
      refine Calls.mono HO0.out ?_
      rintro e w5 ⟨rfl, hw5⟩
      obtain rfl := hw5.symm
      clear hw5
      go_wp2_with fail
      refine Calls.mono (HN1.out 1) ?_
      rintro e w5 ⟨rfl, hw5⟩
      obtain rfl := hw5.symm
      clear hw5
      go_wp2_with fail
      refine Calls.mono (HN0.out 1) ?_
      rintro e w5 ⟨rfl, hw5⟩
      obtain rfl := hw5.symm
      clear hw5
      go_wp2
      go_ret
      rw [hm]
      try rw [hN]
      first | exact ⟨_, rfl, HRa.out.1, HRa.out.2⟩ | exact HRa.out
     ·
      have hm := HMk.out
      simp [hp, b1, b0] at hm
      clear HMk
      go_wp2_with fail
      refine Calls.mono HO0.out ?_
      rintro e w5 ⟨rfl, hw5⟩
      obtain rfl := hw5.symm
      clear hw5
      go_wp2_with fail
      refine Calls.mono (HN1.out 1) ?_
      rintro e w5 ⟨rfl, hw5⟩
      obtain rfl := hw5.symm
      clear hw5
      go_wp2_with fail
      refine Calls.mono (HN0.out 1) ?_
      rintro e w5 ⟨rfl, hw5⟩
      obtain rfl := hw5.symm
      clear hw5
      go_wp2
      go_ret
      rw [hm, hy1]
      try rw [hN]
      first | exact ⟨_, rfl, HR1.out.1, HR1.out.2⟩ | exact HR1.out
    ·
     have hm := HMk.out
     simp [hp, b1] at hm
     clear HMk
     go_wp2_with fail
     refine Calls.mono HO0.out ?_
     rintro e w5 ⟨rfl, hw5⟩
     obtain rfl := hw5.symm
     clear hw5
     go_wp2_with fail
     refine Calls.mono (HN1.out 1) ?_
     rintro e w5 ⟨rfl, hw5⟩
     obtain rfl := hw5.symm
     clear hw5
     go_wp2
     go_ret
     rw [hm, hy0]
     try rw [hN]
     first | exact ⟨_, rfl, HR0.out.1, HR0.out.2⟩ | exact HR0.out
   ·
    rcases hq : zaA x1 with _ | _
    ·
     rcases b1 : zar x1 1 with _ | _
     ·
      rcases b0 : zar x0 1 with _ | _
      ·
       have hm := HMk.out
       simp [hp, hq, b1, b0] at hm
       clear HMk
       go_wp2_with fail
       refine Calls.mono HO0.out ?_
       rintro e w5 ⟨rfl, hw5⟩
       obtain rfl := hw5.symm
       clear hw5
       go_wp2_with fail
       refine Calls.mono HO1.out ?_
       rintro e w5 ⟨rfl, hw5⟩
       obtain rfl := hw5.symm
       clear hw5
       go_wp2_with fail
       refine Calls.mono (HN1.out 1) ?_
       rintro e w5 ⟨rfl, hw5⟩
       obtain rfl := hw5.symm
       clear hw5
       go_wp2_with fail
       refine Calls.mono (HN0.out 1) ?_
       rintro e w5 ⟨rfl, hw5⟩
       obtain rfl := hw5.symm
       clear hw5
       go_wp2
       go_ret
       rw [hm]
       try rw [hN]
       first | exact ⟨_, rfl, HRa.out.1, HRa.out.2⟩ | exact HRa.out
      ·
       have hm := HMk.out
       simp [hp, hq, b1, b0] at hm
       clear HMk
       go_wp2_with fail
       refine Calls.mono HO0.out ?_
       rintro e w5 ⟨rfl, hw5⟩
       obtain rfl := hw5.symm
       clear hw5
       go_wp2_with fail
       refine Calls.mono HO1.out ?_
       rintro e w5 ⟨rfl, hw5⟩
       obtain rfl := hw5.symm
       clear hw5
       go_wp2_with fail
       refine Calls.mono (HN1.out 1) ?_
       rintro e w5 ⟨rfl, hw5⟩
       obtain rfl := hw5.symm
       clear hw5
       go_wp2_with fail
       refine Calls.mono (HN0.out 1) ?_
       rintro e w5 ⟨rfl, hw5⟩
       obtain rfl := hw5.symm
       clear hw5
       go_wp2
       go_ret
       rw [hm, hy1]
       try rw [hN]
       first | exact ⟨_, rfl, HR1.out.1, HR1.out.2⟩ | exact HR1.out
     ·
      have hm := HMk.out
      simp [hp, hq, b1] at hm
      clear HMk
      go_wp2_with fail
      refine Calls.mono HO0.out ?_
      rintro e w5 ⟨rfl, hw5⟩
      obtain rfl := hw5.symm
      clear hw5
      go_wp2_with fail
      refine Calls.mono HO1.out ?_
      rintro e w5 ⟨rfl, hw5⟩
      obtain rfl := hw5.symm
      clear hw5
      go_wp2_with fail
      refine Calls.mono (HN1.out 1) ?_
      rintro e w5 ⟨rfl, hw5⟩
      obtain rfl := hw5.symm
      clear hw5
      go_wp2
      go_ret
      rw [hm, hy0]
      try rw [hN]
      first | exact ⟨_, rfl, HR0.out.1, HR0.out.2⟩ | exact HR0.out
    ·
     rcases hb : zce 5 u0 u1 with _ | _
     ·
      have hm := HMk.out
      simp [hp, hq, hb] at hm
      clear HMk
      have HDn : Hid (∀ Y, _) := fun Y => zbB 5 u0 u1 Y (HW0.out hp) (HW1.out hq)
      rw [hb] at HDn
      generalize zbO 5 u0 u1 = dv at HDn hm
      go_wp2_with fail
      refine Calls.mono HO0.out ?_
      rintro e w5 ⟨rfl, hw5⟩
      obtain rfl := hw5.symm
      clear hw5
      go_wp2_with fail
      refine Calls.mono HO1.out ?_
      rintro e w5 ⟨rfl, hw5⟩
      obtain rfl := hw5.symm
      clear hw5
      go_wp2_with fail
      go_quiet (first | (go_at_call 106; exact Calls.quiet_of_same (HDn.out _)))
      go_wp2
      go_ret
      rw [hm]
      try rw [hN]
      first | exact ⟨_, rfl, HRa.out.1, HRa.out.2⟩ | exact HRa.out | exact ⟨_, rfl, zba HRa.out.1 ⟨rfl, rfl, rfl, Nat.le_refl _, fun _ _ _ => rfl⟩, HRa.out.2.trans ⟨rfl, rfl, rfl, Nat.le_refl _, fun _ _ => rfl⟩⟩
     ·
      have hm := HMk.out
      simp [hp, hq, hb] at hm
      clear HMk
      have HDn : Hid (∀ Y, _) := fun Y => zbB 5 u0 u1 Y (HW0.out hp) (HW1.out hq)
      rw [hb] at HDn
      generalize zbO 5 u0 u1 = dv at HDn hm
      go_wp2_with fail
      refine Calls.mono HO0.out ?_
      rintro e w5 ⟨rfl, hw5⟩
      obtain rfl := hw5.symm
      clear hw5
      go_wp2_with fail
      refine Calls.mono HO1.out ?_
      rintro e w5 ⟨rfl, hw5⟩
      obtain rfl := hw5.symm
      clear hw5
      go_wp2_with fail
      go_quiet (first | (go_at_call 106; exact Calls.quiet_of_same (HDn.out _)))
      go_wp2
      go_ret
      rw [hm]
      try rw [hN]
      first | exact ⟨_, rfl, (HRn.out dv).1, (HRn.out dv).2⟩ | exact (HRn.out dv) | exact ⟨_, rfl, zba (HRn.out dv).1 ⟨rfl, rfl, rfl, Nat.le_refl _, fun _ _ _ => rfl⟩, (HRn.out dv).2.trans ⟨rfl, rfl, rfl, Nat.le_refl _, fun _ _ => rfl⟩⟩
end Go.Proofs.YtenaaneckobdpaaGreat
