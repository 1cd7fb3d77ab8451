/-
  Parts of one proof, one behind the other: FoldKA, FoldK, Math11W, Math11P, Math11Q, FoldS3, Math10R, Math11G, FoldS5, FoldE, FoldX, Math15P, RtC, Draw15D, PushR.
-/
import Derived.Test.YtenaaneckobdpaaGreatP20
import Derived.Test.YtenaaneckobdpaaGreatP17
import Derived.Test.YtenaaneckobdpaaGreatP18
import Derived.Test.YtenaaneckobdpaaGreatP19
import Derived.Test.YtenaaneckobdpaaGreatP16
import Derived.Test.YtenaaneckobdpaaGreatP3
import Derived.Test.YtenaaneckobdpaaGreatP8
import Derived.Test.YtenaaneckobdpaaGreatP7
import Derived.Test.YtenaaneckobdpaaGreatP5
import Derived.Test.YtenaaneckobdpaaGreatP15
import Derived.Laws.OwnMore
namespace Go.Proofs.YtenaaneckobdpaaGreat
open Go.RowKit
set_option maxHeartbeats 40000000 in
set_option maxRecDepth 100000 in
theorem zja (B : World) (ta : Option Addr) (tc : Nat) (t : List Nd) (hin : zag B ta t.length t) (hsh : zaX t) (hgood : zaZ t) (hlen : t.length ≤ 60) (d : Nat) (ih : zhy B ta tc t d) (w : World) (a : Nat) (hB : Below B.heap.size B w) (hp : 0 ≤ endV t (a : Int)) (hd : t.length ≤ a + (d + 1)) (hkd : ¬ (3 ≤ (t.getD a nd0).1 ∧ (t.getD a nd0).1 ≤ 6) ∧ (t.getD a nd0).1 ≠ 7) :
 Calls Tryz.prog 72 #[.slice ta t.length tc, .int .i64 (a : Int)] w fun e w' => ∃ v, e = .returned v ∧ w'.ownsRow w.heap.size 99 4 v (zac (d + 1) t (a : Int)).length (za5 (zac (d + 1) t (a : Int))) ∧ Below w.heap.size w w' := by
 obtain ⟨hal, _, _, _, _⟩ := zan hp
 have hmem : t.getD a nd0 ∈ t := by simp [List.getD, hal]
 have hnb := hgood _ hmem
 have HPl : Hid (∀ i, i < zae (t.getD a nd0) → ∃ q : Nat, (za3 t (a : Int)).getD i 0 = (q : Int) ∧ a < q ∧ 0 ≤ endV t (q : Int)) := fun i hi => by
  obtain ⟨q, hq, _, hqe⟩ := zbT hp hi
  refine ⟨q, hq, ?_, hqe⟩
  obtain ⟨s, post, e, hs⟩ := zcK hp
  cases hs with
  | mk n ks hn hk ho =>
   obtain ⟨e1, e2, e3⟩ := zc8 e hk ho
   rw [e1] at hi
   obtain ⟨_, e4, _⟩ := e3 i (by omega)
   rw [hq] at e4
   omega
 have hpl := zbj t a
 obtain ⟨n, hn⟩ : ∃ n, t.getD a nd0 = n := ⟨_, rfl⟩
 obtain ⟨bt, ot, rfl, hbt, q0, q1, q2, q3⟩ := (hin.below hB).2 a hal
 have hkk := zbc hnb
 have hnd := zaW.1 hnb
 have hr : zac (d + 1) t (a : Int) = mk11 (t.getD a nd0) ((za3 t (a : Int)).map (zac d t)) := rfl
 rw [hr]
 rw [hn] at q0 q1 q2 q3 HPl hpl hkk hnd hkd ⊢
 obtain ⟨kd, nA, np, nf⟩ := n
 simp only at hkd
 unfold zcd at hnd
 simp only at q0 q1 q2 q3 hnd
 obtain ⟨⟨n0, n1, n2, n3⟩, hbg⟩ := zcX w (.int .i64 kd) (.int .i64 nA) (.string ⟨np.toArray⟩) (.string ⟨nf.toArray⟩) 99
 obtain ⟨X, hX⟩ : ∃ X, w.alloc (.cells #[.int .i64 kd, .int .i64 nA, .string ⟨np.toArray⟩, .string ⟨nf.toArray⟩] 99) = X := ⟨_, rfl⟩
 obtain ⟨N, hN⟩ : ∃ N, w.heap.size = N := ⟨_, rfl⟩
 rw [hX] at n0 n1 n2 n3 hbg
 rw [hN] at n0 n1 n2 n3
 have hNX : N < X.heap.size := World.block_lt_of_cell? X ⟨N, 0, none⟩ n0
 have hBX : Below B.heap.size B X := hB.trans (hbg.mono hB.size)
 have HPt : Hid (_) := zaK (some ⟨bt, ot, none⟩) tc t a X (hin.below hBX) hsh (by omega) hal (by rw [hn]; exact hn ▸ hnb)
 rw [hn] at HPt
 have HPe : Hid (zaj t (zae (kd, nA, np, nf)) ((a : Int) + 1) = za3 t (a : Int)) := by
  exact (by unfold za3; rw [Int.toNat_natCast, hn] : zaj t (zae (kd, nA, np, nf)) ((a : Int) + 1) = za3 t (a : Int))
 rw [HPe.out] at HPt
 obtain ⟨k, hk⟩ : ∃ k, zae (kd, nA, np, nf) = k := ⟨_, rfl⟩
 have HK : Hid (zae (kd, nA, np, nf) = k) := hk
 rw [hk] at HPt HPl hpl hkk
 have HIh : Hid (∀ Y i, i < k → Below X.heap.size X Y → Calls Tryz.prog 72 #[.slice (some ⟨bt, ot, none⟩) t.length tc, .int .i64 ((za3 t (a : Int)).getD i 0)] Y fun e w' => ∃ v, e = .returned v ∧ w'.ownsRow Y.heap.size 99 4 v (((za3 t (a : Int)).map (zac d t)).getD i []).length (za5 (((za3 t (a : Int)).map (zac d t)).getD i [])) ∧ Below Y.heap.size Y w') := fun Y i hi hy => by
  obtain ⟨q, e, hq, hqe⟩ := HPl.out i hi
  have e2 : ((za3 t (a : Int)).map (zac d t)).getD i [] = zac d t (q : Int) := by
   rw [← e]
   simp [List.getD, show i < (za3 t (a : Int)).length by omega]
  rw [e, e2]
  exact ih Y q (hBX.trans (hy.mono hBX.size)) hqe (by omega)
 have HLn : Hid (∀ i, i < k → 0 < (((za3 t (a : Int)).map (zac d t)).getD i []).length ∧ (((za3 t (a : Int)).map (zac d t)).getD i []).length ≤ 60 ∧ zaZ (((za3 t (a : Int)).map (zac d t)).getD i [])) := fun i hi => by
  obtain ⟨q, e, hq, hqe⟩ := HPl.out i hi
  have e2 : ((za3 t (a : Int)).map (zac d t)).getD i [] = zac d t (q : Int) := by
   rw [← e]
   simp [List.getD, show i < (za3 t (a : Int)).length by omega]
  rw [e2]
  have h := zd3 (d := d) hqe (by omega)
  exact ⟨h.1, by omega, h.2.2⟩
 obtain ⟨rs, hrs⟩ : ∃ rs, (za3 t (a : Int)).map (zac d t) = rs := ⟨_, rfl⟩
 have HRl : Hid (rs.length = k) := by exact (by rw [← hrs, List.length_map, hpl] : rs.length = k)
 rw [hrs] at HIh HLn ⊢
 have HBX : Hid (Below w.heap.size w X) := hbg
 generalize za3 t (a : Int) = pts at HPt HIh hpl
 have HN : Hid (∀ Y, Below X.heap.size X Y → Y.cell? ⟨N, 0, none⟩ = some (.int .i64 kd) ∧ Y.cell? ⟨N, 1, none⟩ = some (.int .i64 nA) ∧ Y.cell? ⟨N, 2, none⟩ = some (.string ⟨np.toArray⟩) ∧ Y.cell? ⟨N, 3, none⟩ = some (.string ⟨nf.toArray⟩)) := fun Y hy => ⟨(hy.cell (p := ⟨N, 0, none⟩) hNX).trans n0, (hy.cell (p := ⟨N, 1, none⟩) hNX).trans n1, (hy.cell (p := ⟨N, 2, none⟩) hNX).trans n2, (hy.cell (p := ⟨N, 3, none⟩) hNX).trans n3⟩
 have hal2 : (a : Int) < (t.length : Int) := by omega
 have hk3 : k ≤ 3 := hkk.2
 clear ih hmem hnb HPl HPe hr hn hkk hbg hBX hrs hal n0 n1 n2 n3 hbt hB hp hk
 go_enter Tryz.func72, Tryz.ntmps72
 go_wp2_with fail
 refine Calls.mono HPt.out ?_
 rintro e V ⟨v, rfl, ho, hb2⟩
 obtain rfl : pts.length = k := hpl
 obtain ⟨pa, pc, rfl, hpV⟩ := zfj ho hNX
 obtain ⟨m0, m1, m2, m3⟩ := HN.out V hb2
 have HAs : Hid (∀ Y, Below V.heap.size V Y → As Y N pa pts) := fun Y hy => hpV.below hy
 have HXV : Hid (Below X.heap.size X V) := hb2
 have hbA : Below V.heap.size V (V.alloc (.cells #[] 97)) := (Below.refl _ _).alloc (Nat.le_refl _) _
 have hP0 : (V.alloc (.cells #[] 97)).ownsRow V.heap.size 97 1 (.slice (some ⟨V.heap.size, 0, none⟩) 0 0) 0 [] := World.ownsRow_lit (base := V.heap.size) (e := 97) (size := 1) V #[] 0 (Nat.le_refl _) (by decide) rfl
 have hNV : N < V.heap.size := World.block_lt_of_cell? V ⟨N, 0, none⟩ m0
 have u0 := (hbA.cell (p := ⟨N, 0, none⟩) hNV).trans m0
 have u1 := (hbA.cell (p := ⟨N, 1, none⟩) hNV).trans m1
 have u2 := (hbA.cell (p := ⟨N, 2, none⟩) hNV).trans m2
 have u3 := (hbA.cell (p := ⟨N, 3, none⟩) hNV).trans m3
 obtain ⟨V1, hV1⟩ : ∃ V1, V.alloc (.cells #[] 97) = V1 := ⟨_, rfl⟩
 rw [hV1] at hbA hP0 u0 u1 u2 u3
 have hA0 : (V1.alloc (.cells #[.int .i64 kd, .int .i64 nA, .string ⟨np.toArray⟩, .string ⟨nf.toArray⟩] 99)).ownsRow V.heap.size 99 4 (.slice (some ⟨V1.heap.size, 0, none⟩) 1 1) 1 (za5 [(kd, nA, np, nf)]) := World.ownsRow_lit (base := V.heap.size) (e := 99) (size := 4) V1 #[.int .i64 kd, .int .i64 nA, .string ⟨np.toArray⟩, .string ⟨nf.toArray⟩] 1 hbA.size (by decide) rfl
 have hbB : Below V1.heap.size V1 (V1.alloc (.cells #[.int .i64 kd, .int .i64 nA, .string ⟨np.toArray⟩, .string ⟨nf.toArray⟩] 99)) := (Below.refl _ _).alloc (Nat.le_refl _) _
 obtain ⟨V2, hV2⟩ : ∃ V2, V1.alloc (.cells #[.int .i64 kd, .int .i64 nA, .string ⟨np.toArray⟩, .string ⟨nf.toArray⟩] 99) = V2 := ⟨_, rfl⟩
 rw [hV2] at hA0 hbB
 obtain ⟨B1, hB1⟩ : ∃ B1, V.heap.size = B1 := ⟨_, rfl⟩
 obtain ⟨M1, hM1⟩ : ∃ M1, V1.heap.size = M1 := ⟨_, rfl⟩
 have HP2 : Hid (V2.ownsRow B1 97 1 (.slice (some ⟨B1, 0, none⟩) 0 0) 0 [] ∧ ([] : List Value).length = 0) := by
  exact (by rw [← hB1]; exact ⟨za6 hP0 hbB, rfl⟩ : V2.ownsRow B1 97 1 (.slice (some ⟨B1, 0, none⟩) 0 0) 0 [] ∧ ([] : List Value).length = 0)
 have HA2 : Hid (V2.ownsRow B1 99 4 (.slice (some ⟨M1, 0, none⟩) 1 1) 1 (za5 ((kd, nA, np, nf) :: (rs.take 0).flatten)) ∧ 1 = ((kd, nA, np, nf) :: (rs.take 0).flatten).length) := by
  exact (by rw [← hB1, ← hM1]; exact ⟨hA0, rfl⟩ : V2.ownsRow B1 99 4 (.slice (some ⟨M1, 0, none⟩) 1 1) 1 (za5 ((kd, nA, np, nf) :: (rs.take 0).flatten)) ∧ 1 = ((kd, nA, np, nf) :: (rs.take 0).flatten).length)
 have HB2 : Hid (Below B1 V V2) := by
  exact (by rw [← hB1]; exact hbA.trans (hbB.mono hbA.size) : Below B1 V V2)
 clear hbA hP0 hA0 hbB hpV ho m0 m1 m2 m3 hb2 HPt
 go_wp2
 go_loopw [7, 8, 9] (fun pv0 av0 iv wx => ∃ (i m : Nat) (pv av : Value) (vs : List Value), pv = pv0 ∧ av = av0 ∧ iv = .int .i64 (i : Int) ∧ i ≤ pts.length ∧ m ≤ 1 + i * 60 ∧ Hid (wx.ownsRow B1 97 1 pv i vs ∧ vs.length = i) ∧ Hid (wx.ownsRow B1 99 4 av m (za5 ((kd, nA, np, nf) :: (rs.take i).flatten)) ∧ m = ((kd, nA, np, nf) :: (rs.take i).flatten).length) ∧ Hid (∀ j, j < i → wx.ownsRow B1 99 4 (vs.getD j undef) (rs.getD j []).length (za5 (rs.getD j [])) ∧ ((vs.getD j undef).ownBlock = none ∨ (vs.getD j undef).ownBlock ≠ av.ownBlock)) ∧ Hid (Below B1 V wx)) (fun _ _ iv _ => pts.length - (intOf iv).toNat)
 case atStart => exact ⟨0, 1, _, _, [], rfl, rfl, rfl, Nat.zero_le _, by omega, HP2, HA2, (fun j hj => absurd hj (Nat.not_lt_zero _)), HB2⟩
 case round =>
  obtain ⟨i, m, pv, av, vs, rfl, rfl, rfl, hi, hm, HP, HA, HE, HBw⟩ := hrel
  clear HP2 HA2 HB2 u0 u1 u2 u3
  have hbw : Below V.heap.size V wr := by rw [hB1]; exact HBw.out
  by_cases hlt : (i : Int) < (pts.length : Int)
  ·
   have hi2 : i < pts.length := by omega
   obtain ⟨bp, op, rfl, _, _, p0⟩ := HAs.out wr hbw i hi2
   have HC : Hid (_) := HIh.out wr i hi2 (HXV.out.trans (hbw.mono HXV.out.size))
   obtain ⟨hl0, hl60, _⟩ := HLn.out i hi2
   obtain ⟨x, hx⟩ : ∃ x, rs.getD i [] = x := ⟨_, rfl⟩
   have HXe : Hid (rs.getD i [] = x) := hx
   rw [hx] at HC hl0 hl60
   have hB1w : B1 ≤ wr.heap.size := by rw [← hB1]; exact hbw.size
   generalize pts.getD i 0 = P0 at p0 HC
   clear hx
   go_wp2_with fail
   refine Calls.mono HC.out ?_
   rintro e Y0 ⟨xv, rfl, hxo, hb0⟩
   obtain ⟨gx, cx, rfl⟩ := za9 hxo (by omega)
   -- the parts
   have hp0 := za6 HP.out.1 hb0
   have ha0 := za6 HA.out.1 hb0
   obtain ⟨p', Y1, hr1, hp1, hg1⟩ := zc2 (some ⟨gx, 0, none⟩) x.length cx hp0 (Nat.le_trans hB1w hb0.size) (by omega)
   have ha1 := ha0.kept hg1 (za4 ha0 hp0 (by decide))
   have hx1 := hxo.kept hg1 (za4 hxo hp0 (by decide))
   have hs1 := hg1.size
   have hs0 := hb0.size
   obtain ⟨a', Y2, hr2, ha2, hg2, hat⟩ := zbC ha1 hx1 (by omega) (by omega)
   have hav : ∀ k, av.ownBlock = some k → k < wr.heap.size := fun k e => (HA.out.1.lt k e).2
   have hxap : (Value.slice (some ⟨gx, 0, none⟩) x.length cx).ownBlock = none ∨ (Value.slice (some ⟨gx, 0, none⟩) x.length cx).ownBlock ≠ av.ownBlock := Or.inr (fun e => by
    have h1 : some gx = av.ownBlock := e
    have h2 := hav gx h1.symm
    have h3 := (hxo.lt gx rfl).1
    omega)
   have hnew : ∀ (u : Value) (nn : Nat) (ys : List Value) (b : Nat), Y1.ownsRow b 99 4 u nn ys → (u.ownBlock = none ∨ u.ownBlock ≠ av.ownBlock) → (u.ownBlock = none ∨ u.ownBlock ≠ a'.ownBlock) := fun u nn ys b hu h => by
    rcases hq : u.ownBlock with _ | q
    ·
     exact Or.inl rfl
    ·
     right
     intro e
     rcases hat q e.symm with h1 | h1
     ·
      rcases h with h | h
      ·
       rw [hq] at h; cases h
      ·
       exact h (by rw [hq, h1])
     ·
      have := (hu.lt q hq).2
      omega
   have HP3 : Hid (Y2.ownsRow B1 97 1 p' (i + 1) (vs ++ [.slice (some ⟨gx, 0, none⟩) x.length cx]) ∧ (vs ++ [Value.slice (some ⟨gx, 0, none⟩) x.length cx]).length = i + 1) := ⟨hp1.kept hg2 (za4 hp1 ha1 (by decide)), by rw [List.length_append, HP.out.2]; rfl⟩
   have htk : (rs.take (i + 1)).flatten = (rs.take i).flatten ++ x := by
    have hil : i < rs.length := by rw [HRl.out]; exact hi2
    have e := HXe.out
    rw [List.take_succ_eq_append_getElem hil, List.flatten_append]
    congr 1
    rw [← e]
    simp [List.getD, hil]
   have HA3 : Hid (Y2.ownsRow B1 99 4 a' (m + x.length) (za5 ((kd, nA, np, nf) :: (rs.take (i + 1)).flatten)) ∧ m + x.length = ((kd, nA, np, nf) :: (rs.take (i + 1)).flatten).length) := by
    refine ⟨?_, ?_⟩
    ·
     rw [htk]; exact ha2
    ·
     rw [htk, List.length_cons, List.length_append]
     have := HA.out.2
     rw [List.length_cons] at this
     omega
   have HE3 : Hid (∀ j, j < i + 1 → Y2.ownsRow B1 99 4 ((vs ++ [Value.slice (some ⟨gx, 0, none⟩) x.length cx]).getD j undef) (rs.getD j []).length (za5 (rs.getD j [])) ∧ (((vs ++ [Value.slice (some ⟨gx, 0, none⟩) x.length cx]).getD j undef).ownBlock = none ∨ ((vs ++ [Value.slice (some ⟨gx, 0, none⟩) x.length cx]).getD j undef).ownBlock ≠ a'.ownBlock)) := fun j hj => by
    have hvl := HP.out.2
    rcases Nat.lt_or_ge j i with h | h
    ·
     have e3 : (vs ++ [Value.slice (some ⟨gx, 0, none⟩) x.length cx]).getD j undef = vs.getD j undef := by
      simp only [List.getD]
      rw [List.getElem?_append_left (by omega)]
     rw [e3]
     obtain ⟨h1, h2⟩ := HE.out j h
     have h3 := za6 h1 hb0
     have h4 := h3.kept hg1 (za4 h3 hp0 (by decide))
     exact ⟨h4.kept hg2 h2, hnew _ _ _ _ h4 h2⟩
    ·
     obtain rfl : j = i := by omega
     have e3 : (vs ++ [Value.slice (some ⟨gx, 0, none⟩) x.length cx]).getD j undef = .slice (some ⟨gx, 0, none⟩) x.length cx := by
      simp only [List.getD]
      rw [List.getElem?_append_right (by omega), hvl]
      simp
     rw [e3, HXe.out]
     exact ⟨zai (hx1.kept hg2 hxap) (by omega), hnew _ _ _ _ hx1 hxap⟩
   have HB3 : Hid (Below B1 V Y2) := ((HBw.out.trans (hb0.mono hB1w)).grown hg1 (by omega) (fun k e => (hp0.lt k e).1)).grown hg2 (by omega) (fun k e => (HA.out.1.lt k e).1)
   generalize hxl : x.length = xl at *
   clear hp0 ha0 ha1 hx1 hp1 hg1 ha2 hg2 hat hav hxap hnew htk hxo hb0 HC HP HA HE hs0 hs1 p0
   go_wp2_with (first | (at_builtin; refine za0 rfl (.tmp 37) (.tmp 39) 134 rfl _ _ _ rfl rfl hr1 ?_; clear hr1) | (at_builtin; refine za0 rfl (.tmp 41) (.tmp 42) 97 rfl _ _ _ rfl rfl hr2 ?_; clear hr2))
   go_roundw
   case rel => exact ⟨i + 1, m + xl, p', a', _, rfl, rfl, by go_num, by omega, by omega, HP3, HA3, HE3, HB3⟩
   case measure => simp [intOf]; omega
  ·
   have HIe : Hid (i = pts.length) := by exact (by omega : i = pts.length)
   have htk : rs.take i = rs := List.take_of_length_le (by rw [HRl.out, HIe.out]; exact Nat.le_refl _)
   have har := HA.out
   rw [htk] at har
   have HAl : Hid (wr.ownsRow B1 99 4 av ((kd, nA, np, nf) :: rs.flatten).length (za5 ((kd, nA, np, nf) :: rs.flatten))) := by
    exact (by rw [← har.2]; exact har.1 : wr.ownsRow B1 99 4 av ((kd, nA, np, nf) :: rs.flatten).length (za5 ((kd, nA, np, nf) :: rs.flatten)))
   have HVX : Hid (Below w.heap.size w V) := HBX.out.trans (HXV.out.mono HBX.out.size)
   have HFin : Hid (∀ (u : Value) (L : List Nd) (Y : World), Y.ownsRow B1 99 4 u L.length (za5 L) → Below V.heap.size V Y → Y.ownsRow N 99 4 u L.length (za5 L) ∧ Below N w Y) := fun u L Y h1 h2 => by
    rw [← hN]
    exact ⟨zai h1 (by rw [← hB1]; exact HVX.out.size), HVX.out.trans (h2.mono HVX.out.size)⟩
   obtain ⟨nn0, nn1, nn2, nn3⟩ := HN.out wr (HXV.out.trans (hbw.mono HXV.out.size))
   have HBv : Hid (Below V.heap.size V wr) := hbw
   have hmk : mk11 (kd, nA, np, nf) rs = (kd, nA, np, nf) :: rs.flatten := by
    unfold mk11
    rw [if_neg hkd.1, if_neg hkd.2]
   have HR : Hid (wr.ownsRow N 99 4 av (mk11 (kd, nA, np, nf) rs).length (za5 (mk11 (kd, nA, np, nf) rs)) ∧ Below N w wr) := by
    rw [hmk]
    exact HFin.out av _ wr HAl.out HBv.out
   have k3 : (kd == 3) = false := beq_eq_false_iff_ne.2 (by omega)
   have k4 : (kd == 4) = false := beq_eq_false_iff_ne.2 (by omega)
   have k5 : (kd == 5) = false := beq_eq_false_iff_ne.2 (by omega)
   have k6 : (kd == 6) = false := beq_eq_false_iff_ne.2 (by omega)
   have k7 : (kd == 7) = false := beq_eq_false_iff_ne.2 hkd.2
   clear hmk HA HP HE HFin hbw har htk hnd
   go_wp2
   go_ret
   first
    | exact ⟨_, rfl, HR.out.1, HR.out.2⟩
    | exact HR.out
theorem zhE (B : World) (ta : Option Addr) (tc : Nat) (t : List Nd) (hin : zag B ta t.length t) (hsh : zaX t) (hgood : zaZ t) (hlen : t.length ≤ 60) : ∀ d, zhy B ta tc t d
 | 0 => fun w a hB hp hd => by
  obtain ⟨hal, _⟩ := zan hp
  omega
 | d + 1 => fun w a hB hp hd => by
  have ih := zhE B ta tc t hin hsh hgood hlen d
  by_cases h36 : 3 ≤ (t.getD a nd0).1 ∧ (t.getD a nd0).1 ≤ 6
  ·
   rcases (show (t.getD a nd0).1 = 3 ∨ (t.getD a nd0).1 = 4 ∨ (t.getD a nd0).1 = 5 ∨ (t.getD a nd0).1 = 6 by omega) with e | e | e | e
   ·
    exact zjf B ta tc t hin hsh hgood hlen d ih w a hB hp hd e
   ·
    exact zje B ta tc t hin hsh hgood hlen d ih w a hB hp hd e
   ·
    exact zjd B ta tc t hin hsh hgood hlen d ih w a hB hp hd e
   ·
    exact zjc B ta tc t hin hsh hgood hlen d ih w a hB hp hd e
  ·
   by_cases h7 : (t.getD a nd0).1 = 7
   ·
    exact zjb B ta tc t hin hsh hgood hlen d ih w a hB hp hd h7
   ·
    exact zja B ta tc t hin hsh hgood hlen d ih w a hB hp hd ⟨h36, h7⟩


def pure1 (t : List Nd) (i : Nat) : Prop := (t.getD i nd0).1 ≠ 8 ∧ ((t.getD i nd0).1 = 6 → (t.getD ((za3 t (i : Int)).getD 1 0).toNat nd0).1 = 1 ∧ (t.getD ((za3 t (i : Int)).getD 1 0).toNat nd0).2.1 ≠ 0)
instance (t : List Nd) (i : Nat) : Decidable (pure1 t i) := by unfold pure1; infer_instance


def zd7 (f : Fn) : Fn := (f.1, f.2.1, zbI f.2.2)


section
variable {Z Y : World} {lo hi : Nat} {ai : Option Addr} {il ci : Nat} {af : Option Addr} {fl cf : Nat} {ims : List (List UInt8)} {fs : List Fn} {xs : List FV}
end
theorem zd1 {α : Type} (l : List α) (d : α) {j : Nat} (hj : j < l.length) : l.getD j d ∈ l := by rw [List.getD_eq_getElem?_getD, List.getElem?_eq_getElem hj]; exact List.getElem_mem hj
theorem zcY {s : List UInt8} (h : zaz s = true) : s.length ≤ 8 := (zci h).1.2
theorem zg9 {n : Nd} (hn : zbu n = true) : IntN n ∧ (n.2.2.1.length ≤ 1048576 ∧ n.2.2.2.length ≤ 1048576) := by
 obtain ⟨k, a, p, f⟩ := n
 have hp := zaW.1 hn
 unfold zcd at hp
 unfold IntN
 simp only at hp ⊢
 rcases hp with ⟨rfl, ⟨h0, h1⟩, rfl, rfl⟩ | ⟨rfl, ⟨h0, h1⟩, rfl, rfl⟩ | ⟨hk, rfl, rfl, rfl⟩ | ⟨rfl, ⟨h0, h1⟩, hpn, hfn⟩
 ·
  exact ⟨⟨⟨by omega, by omega⟩, by omega, by omega⟩, by simp, by simp⟩
 ·
  exact ⟨⟨⟨by omega, by omega⟩, by omega, by omega⟩, by simp, by simp⟩
 ·
  exact ⟨⟨⟨by omega, by omega⟩, by omega, by omega⟩, by simp, by simp⟩
 ·
  have e1 := zcY hpn
  have e2 := zcY hfn
  exact ⟨⟨⟨by omega, by omega⟩, by omega, by omega⟩, by omega, by omega⟩
theorem ziP {t : List Nd} (h : zb9 t = true) : IntT t ∧ zaX t := by
 have key : ∀ j, IntN (t.getD j nd0) ∧ ((t.getD j nd0).2.2.1.length ≤ 1048576 ∧ (t.getD j nd0).2.2.2.length ≤ 1048576) := fun j => by
  by_cases hj : j < t.length
  ·
   exact zg9 (zeS h _ (zd1 t nd0 hj))
  ·
   rw [List.getD_eq_getElem?_getD, List.getElem?_eq_none (by omega)]; simp [nd0, IntN]
 exact ⟨fun j => (key j).1, fun j => (key j).2⟩
theorem code_ok {c : List In13} (hc : zbP c = true) : zhx c ∧ zcm c := by
 have ci : ∀ k, IntI (c.getD k in0) ∧ (c.getD k in0).2.2.2.2.length ≤ 1048576 := fun k => by
  by_cases hk : k < c.length
  ·
   have hm : c.getD k in0 ∈ c := zd1 c in0 hk
   have hp := zgC hc _ hm
   have hw := zcZ hp
   refine ⟨by unfold IntI; omega, ?_⟩
   have hl := zgm hp
   unfold insLn at hl
   simp only [List.length_append, List.length_singleton] at hl
   have hn : (c.getD k in0).2.2.2.2.length ≤ (nmL (c.getD k in0).2.2.2.2).length := by
    unfold nmL
    split
    ·
     rename_i hz; rw [hz]; simp
    ·
     exact Nat.le_refl _
   omega
  ·
   rw [List.getD_eq_getElem?_getD, List.getElem?_eq_none (by omega)]
   exact ⟨zfE, by simp [in0]⟩
 exact ⟨fun k => (ci k).1, fun k => (ci k).2⟩
theorem rtF_ok {nm : List UInt8} {f : Fn} (hn : nm.length ≤ 9) (hf : f.1.length ≤ 9) (ha : 0 ≤ f.2.1 ∧ f.2.1 ≤ 3) (ht : zb9 f.2.2 = true) :
 ((-9223372036854775808 ≤ (rtF nm f).2.1 ∧ (rtF nm f).2.1 ≤ 9223372036854775807) ∧ zhx (rtF nm f).2.2) ∧ ((rtF nm f).1.length ≤ 1048576 ∧ (rtF nm f).2.2.length ≤ 1048576 ∧ zcm (rtF nm f).2.2) := by
 have hc := zbF ht
 have hk := code_ok hc.1
 refine ⟨⟨by show -9223372036854775808 ≤ f.2.1 ∧ f.2.1 ≤ 9223372036854775807; omega, hk.1⟩, ?_, ?_, hk.2⟩
 ·
  show (nm ++ [46] ++ f.1).length ≤ 1048576
  simp; omega
 ·
  show (zaq f.2.2).length ≤ 1048576
  have := hc.2.2.1
  omega
theorem rts_each {rs : List Rt} (key : ∀ r ∈ rs, ((-9223372036854775808 ≤ r.2.1 ∧ r.2.1 ≤ 9223372036854775807) ∧ zhx r.2.2) ∧ (r.1.length ≤ 1048576 ∧ r.2.2.length ≤ 1048576 ∧ zcm r.2.2)) : IntR rs ∧ zc0 rs := by
 have e : ∀ j, ¬ j < rs.length → rs.getD j rt0 = rt0 := fun j hj => by rw [List.getD_eq_getElem?_getD, List.getElem?_eq_none (by omega)]; rfl
 refine ⟨fun j => ?_, fun j => ?_⟩
 ·
  by_cases hj : j < rs.length
  ·
   exact (key _ (zd1 rs rt0 hj)).1
  ·
   rw [e j hj]; exact ⟨by simp [rt0], zex⟩
 ·
  by_cases hj : j < rs.length
  ·
   exact (key _ (zd1 rs rt0 hj)).2
  ·
   rw [e j hj]; exact ⟨by simp [rt0], by simp [rt0], fun k => by simp [rt0, in0]⟩
structure Pg15 (nm : List UInt8) (ims : List (List UInt8)) (fs : List Fn) : Prop where
 fn : ∀ k, k < fs.length → (fs.getD k fn0).1.length ≤ 9 ∧ (0 ≤ (fs.getD k fn0).2.1 ∧ (fs.getD k fn0).2.1 ≤ 3) ∧ zb9 (fs.getD k fn0).2.2 = true
 nm : nm.length ≤ 9
 fl : fs.length ≤ 8
 il : ims.length ≤ 9
 is : ∀ i, (ims.getD i []).length ≤ 9
theorem Pg15.rts {nm : List UInt8} {ims : List (List UInt8)} {fs : List Fn} (hp : Pg15 nm ims fs) {rs : List Rt} (h : ∀ r ∈ rs, r ∈ (fs.map zd7).map (rtF nm)) : IntR rs ∧ zc0 rs := rts_each (fun r hr => by
 obtain ⟨f, hf, rfl⟩ := List.mem_map.1 (h r hr)
 obtain ⟨g, hg, rfl⟩ := List.mem_map.1 hf
 obtain ⟨k, hk, rfl⟩ := List.mem_iff_getElem.1 hg
 have hgd : fs.getD k fn0 = fs[k] := by rw [List.getD_eq_getElem?_getD, List.getElem?_eq_getElem hk]; rfl
 have h1 := hp.fn k hk
 rw [hgd] at h1
 exact rtF_ok hp.nm h1.1 h1.2.1 (zfM h1.2.2).1)
theorem za7.grown {w w' : World} {base : Nat} {v : Value} {xs : List RV} {row : Option Nat} (h : za7 w base v xs) (hg : w.grownBy w' row) (hr : ∀ k, row = some k → k < base) : za7 w' base v xs := by
 have off : ∀ {e size n : Nat} {u : Value} {ys : List Value}, w.ownsRow base e size u n ys → u.ownBlock = Option.none ∨ u.ownBlock ≠ row := fun {e size n u ys} ho => by
  cases hu : u.ownBlock with
  | none => exact Or.inl rfl
  | some k => exact Or.inr (fun e2 => by have := (ho.lt k hu).1; have := hr k e2.symm; omega)
 exact ⟨h.row.kept hg (off h.row), fun x hx => (h.trees x hx).kept hg (off (h.trees x hx))⟩
theorem push_rt (X : World) (base : Nat) (v : Value) (xs : List RV) (y : RV) (h : za7 X base v xs) (hy : X.ownsRow base 58 5 (rvT y) y.1.2.2.length (insV y.1.2.2)) (hb : base ≤ X.heap.size) (hn : xs.length ≤ 1048576) :
 ∃ g' c' Y, (Builtin.append_ #[26, 26] 26 #[v, .slice (some ⟨X.heap.size, 0, none⟩) 1 1]).run Tryz.prog (X.alloc (.cells #[.string ⟨y.1.1.toArray⟩, .int .i64 y.1.2.1, rvT y] 41)) = .ok (.slice (some ⟨g', 0, none⟩) (xs.length + 1) c') Y ∧
  za7 Y base (.slice (some ⟨g', 0, none⟩) (xs ++ [y]).length c') (xs ++ [y]) ∧ X.grownBy Y v.ownBlock := by
 obtain ⟨i0, hi, hz0, hz1, hz2⟩ := info_parts zgn
 have hX1 : Below X.heap.size X (X.alloc (.cells #[.string ⟨y.1.1.toArray⟩, .int .i64 y.1.2.1, rvT y] 41)) := (Below.refl _ _).alloc (Nat.le_refl _) _
 have h1 := h.below hX1
 have hy1 := za6 hy hX1
 obtain ⟨v', Y, hrun, hown, hg, _⟩ := zal (P := Tryz.prog) (X.alloc (.cells #[.string ⟨y.1.1.toArray⟩, .int .i64 y.1.2.1, rvT y] 41)) base 26 26 41 i0 _ 3 48 Tryz.underlying26 hi hz0 hz1 hz2 rfl (by decide) _ _ _ h1.row _ 1 (rtsV [y]) (new_rt X y 1) (by unfold maxLen; omega) (by omega) (by simp; omega)
 obtain ⟨g', c', rfl⟩ := za9 hown (by omega)
 have e1 : (xs ++ [y]).length = xs.length + 1 := by simp
 have hown2 : Y.ownsRow base 41 3 (.slice (some ⟨g', 0, none⟩) (xs ++ [y]).length c') (xs ++ [y]).length (rtsV (xs ++ [y])) := by
  rw [e1, zcz]; exact hown
 have htr : ∀ z ∈ xs ++ [y], Y.ownsRow base 58 5 (rvT z) z.1.2.2.length (insV z.1.2.2) := fun z hz => by
  rw [List.mem_append, List.mem_singleton] at hz
  rcases hz with hz | rfl
  ·
   exact (h1.trees z hz).kept hg (za4 (h1.trees z hz) h1.row (by decide))
  ·
   exact hy1.kept hg (za4 hy1 h1.row (by decide))
 exact ⟨g', c', Y, hrun, ⟨hown2, htr⟩, (World.grownBy_alloc X _ _).trans hg⟩
structure OkS (X w : World) (B : Nat) (a : Option Addr) (len cap : Nat) (R P : Nat) (nm : List UInt8) (ia : Option Addr) (ic : Nat) (ims : List (List UInt8)) (fa : Option Addr) (fc : Nat) (xs : List RV) : Prop where
 p : X.ownsRow (R + 1) 37 3 (.slice (some ⟨P, 0, none⟩) 1 1) 1 [.string ⟨nm.toArray⟩, .slice ia ims.length ic, .slice fa xs.length fc]
 r : Box3 X R (.string ⟨#[]⟩) (.slice none 0 0) (.slice none 0 0)
 rf : ∀ j, X.frozen? ⟨R, j, none⟩ = false
 im : X.ownsRow (R + 1) 9 1 (.slice ia ims.length ic) ims.length (strV ims)
 fo : za7 X (R + 1) (.slice fa xs.length fc) xs
 cur : Cur X B a len cap
 g : w.grownBy X (some B)
 br : B < R
 wr : w.heap.size = R
section
variable {X Y w : World} {B : Nat} {a : Option Addr} {len cap R P : Nat} {nm : List UInt8} {ia : Option Addr} {ic : Nat} {ims : List (List UInt8)} {fa : Option Addr} {fc : Nat} {xs : List RV} {gF : Nat}
theorem OkS.next (h : OkS X w B a len cap R P nm ia ic ims fa fc xs) (hg : X.grownBy Y (some B)) (hc : Cur Y B a len cap) : OkS Y w B a len cap R P nm ia ic ims fa fc xs :=
 have hr : some R ≠ some B := fun e => by injection e with e; have := h.br; omega
 have hlt : ∀ k, some B = some k → k < R + 1 := fun k e => by injection e with e; have := h.br; omega
 ⟨zaR h.p hg hlt, h.r.grown hg hr, fun j => (World.frozen?_of_block (a := ⟨R, j, none⟩) (hg.block R h.r.lt hr)).trans (h.rf j), zaR h.im hg hlt, h.fo.grown hg hlt, hc, h.g.trans hg, h.br, h.wr⟩
theorem OkS.made (h : OkS X w B a len cap R P nm ia ic ims fa fc xs) (hg : X.grownBy Y none) : OkS Y w B a len cap R P nm ia ic ims fa fc xs :=
 h.next ⟨hg.os, hg.tape, hg.output, hg.size, fun k hk _ => hg.block k hk (by simp)⟩ (h.cur.kept hg (by simp))
theorem OkS.alloc (h : OkS X w B a len cap R P nm ia ic ims fa fc xs) (o : Obj) : OkS (X.alloc o) w B a len cap R P nm ia ic ims fa fc xs := h.made (World.grownBy_alloc X o none)
theorem OkS.drew (h : OkS X w B a len cap R P nm ia ic ims fa fc xs) : OkS X.drew w B a len cap R P nm ia ic ims fa fc xs := h.made (zb7 X none)
theorem OkS.step (h : OkS X w B a len cap R P nm ia ic ims fa fc xs) {row : Option Nat} (hg : X.grownBy Y row) (hr : ∀ k, row = some k → R < k) {nm' : List UInt8} {ia' : Option Addr} {ic' : Nat} {ims' : List (List UInt8)} {fa' : Option Addr} {fc' : Nat} {xs' : List RV}
 (hp : Y.ownsRow (R + 1) 37 3 (.slice (some ⟨P, 0, none⟩) 1 1) 1 [.string ⟨nm'.toArray⟩, .slice ia' ims'.length ic', .slice fa' xs'.length fc']) (hi : Y.ownsRow (R + 1) 9 1 (.slice ia' ims'.length ic') ims'.length (strV ims')) (hf : za7 Y (R + 1) (.slice fa' xs'.length fc') xs') : OkS Y w B a len cap R P nm' ia' ic' ims' fa' fc' xs' := by
 have hbr := h.br
 have hne : ∀ {k : Nat}, k ≤ R → some k ≠ row := fun {k} hk e => by have := hr k e.symm; omega
 refine ⟨hp, h.r.grown hg (hne (Nat.le_refl _)), fun j => (World.frozen?_of_block (a := ⟨R, j, none⟩) (hg.block R h.r.lt (hne (Nat.le_refl _)))).trans (h.rf j), hi, hf, h.cur.kept hg (fun k e => by have := hr k e; omega), ?_, h.br, h.wr⟩
 have hw := h.g
 have hwr := h.wr
 exact ⟨hg.os.trans hw.os, hg.tape.trans hw.tape, hg.output.trans hw.output, Nat.le_trans hw.size hg.size, fun q hq hn => (hg.block q (Nat.lt_of_lt_of_le hq hw.size) (hne (by omega))).trans (hw.block q hq hn)⟩
theorem OkS.rp (h : OkS X w B a len cap R P nm ia ic ims fa fc xs) : R < P ∧ P < X.heap.size := by have := h.p.lt P rfl; omega
theorem OkS.cells (h : OkS X w B a len cap R P nm ia ic ims fa fc xs) : Box3 X P (.string ⟨nm.toArray⟩) (.slice ia ims.length ic) (.slice fa xs.length fc) ∧ ∀ j, X.frozen? ⟨P, j, none⟩ = false :=
 ⟨⟨h.p.cells rfl 0 _ rfl, h.p.cells rfl 1 _ rfl, h.p.cells rfl 2 _ rfl⟩, fun j => h.p.frozenAt j⟩
theorem OkS.name (h : OkS X w B a len cap R P nm ia ic ims fa fc xs) (x : List UInt8) : OkS (X.setCell ⟨P, 0, none⟩ (.string ⟨x.toArray⟩)) w B a len cap R P x ia ic ims fa fc xs := by
 obtain ⟨hp, hg⟩ := h.p.stored 0 (.string ⟨x.toArray⟩)
 exact h.step hg (fun k e => by injection e with e; have := h.rp; omega) hp (h.im.kept hg (za4 h.im h.p (by decide))) (h.fo.kept hg (za4 h.fo.row h.p (by decide)) (fun z hz => za4 (h.fo.trees z hz) h.p (by decide)))
theorem OkS.fns (h : OkS X w B a len cap R P nm ia ic ims fa fc xs) {fa' : Option Addr} {fc' : Nat} {xs' : List RV} (hf : za7 X (R + 1) (.slice fa' xs'.length fc') xs') : OkS (X.setCell ⟨P, 2, none⟩ (.slice fa' xs'.length fc')) w B a len cap R P nm ia ic ims fa' fc' xs' := by
 obtain ⟨hp, hg⟩ := h.p.stored 2 (.slice fa' xs'.length fc')
 exact h.step hg (fun k e => by injection e with e; have := h.rp; omega) hp (h.im.kept hg (za4 h.im h.p (by decide))) (hf.kept hg (za4 hf.row h.p (by decide)) (fun z hz => za4 (hf.trees z hz) h.p (by decide)))
theorem OkS.import (h : OkS X w B a len cap R P nm ia ic ims fa fc xs) (x : List UInt8) (hn : ims.length ≤ 1048576) :
 ∃ g' c' Y, (Builtin.append_ #[31, 31] 31 #[.slice ia ims.length ic, .slice (some ⟨X.heap.size, 0, none⟩) 1 1]).run Tryz.prog (X.alloc (.cells #[.string ⟨x.toArray⟩] 9)) = .ok (.slice (some ⟨g', 0, none⟩) (ims.length + 1) c') Y ∧
  (Box3 Y P (.string ⟨nm.toArray⟩) (.slice ia ims.length ic) (.slice fa xs.length fc) ∧ ∀ j, Y.frozen? ⟨P, j, none⟩ = false) ∧ OkS (Y.setCell ⟨P, 1, none⟩ (.slice (some ⟨g', 0, none⟩) (ims.length + 1) c')) w B a len cap R P nm (some ⟨g', 0, none⟩) c' (ims ++ [x]) fa fc xs := by
 obtain ⟨i0, hi, hz0, hz1, hz2⟩ := info_parts zjS
 have h1 := h.alloc (.cells #[.string ⟨x.toArray⟩] 9)
 have hnew := new_str X x 1
 obtain ⟨W, hW⟩ : ∃ W, X.alloc (.cells #[.string ⟨x.toArray⟩] 9) = W := ⟨_, rfl⟩
 rw [hW] at h1 hnew ⊢
 have hrp := h1.rp
 obtain ⟨v', Y, hrun, hown, hg, _⟩ := zal (P := Tryz.prog) W (R + 1) 31 31 9 i0 _ 1 16 Tryz.underlying31 hi hz0 hz1 hz2 rfl (by decide) _ _ _ h1.im _ 1 (strV [x]) hnew (by unfold maxLen; omega) (by omega) (by omega)
 obtain ⟨g', c', rfl⟩ := za9 hown (by omega)
 have e1 : (ims ++ [x]).length = ims.length + 1 := by simp
 have hown2 : Y.ownsRow (R + 1) 9 1 (.slice (some ⟨g', 0, none⟩) (ims ++ [x]).length c') (ims ++ [x]).length (strV (ims ++ [x])) := by
  have e2 : strV (ims ++ [x]) = strV ims ++ strV [x] := by simp [strV]
  rw [e1, e2]; exact hown
 have hp := h1.p.kept hg (za4 h1.p h1.im (by decide))
 have hf := h1.fo.kept hg (za4 h1.fo.row h1.im (by decide)) (fun z hz => za4 (h1.fo.trees z hz) h1.im (by decide))
 obtain ⟨hp2, hg2⟩ := hp.stored 1 (.slice (some ⟨g', 0, none⟩) (ims.length + 1) c')
 refine ⟨g', c', Y, hrun, ⟨⟨hp.cells rfl 0 _ rfl, hp.cells rfl 1 _ rfl, hp.cells rfl 2 _ rfl⟩, fun j => hp.frozenAt j⟩, ?_⟩
 have hR : ∀ k, (Value.slice ia ims.length ic).ownBlock = some k → R < k := fun k e => by have := (h1.im.lt k e).1; omega
 have hbr := h1.br
 have hne : ∀ {k : Nat}, k ≤ R → some k ≠ (Value.slice ia ims.length ic).ownBlock := fun {k} hk e => by have := hR k e.symm; omega
 have hneP : ∀ {k : Nat}, k ≤ R → some k ≠ some P := fun {k} hk e => by injection e with e; omega
 refine ⟨by rw [e1]; exact hp2, (h1.r.grown hg (hne (Nat.le_refl _))).grown hg2 (hneP (Nat.le_refl _)), fun j => (World.frozen?_setCell ..).trans ((World.frozen?_of_block (a := ⟨R, j, none⟩) (hg.block R h1.r.lt (hne (Nat.le_refl _)))).trans (h1.rf j)), hown2.kept hg2 (za4 hown2 hp (by decide)), hf.kept hg2 (za4 hf.row hp (by decide)) (fun z hz => za4 (hf.trees z hz) hp (by decide)), (h1.cur.kept hg (fun k e => by have := hR k e; omega)).kept hg2 (fun k e => by injection e with e; omega), ?_, h.br, h.wr⟩
 have hw := h1.g
 have hwr := h.wr
 exact ⟨hg2.os.trans (hg.os.trans hw.os), hg2.tape.trans (hg.tape.trans hw.tape), hg2.output.trans (hg.output.trans hw.output), Nat.le_trans hw.size (Nat.le_trans hg.size hg2.size), fun q hq hn => (hg2.block q (Nat.lt_of_lt_of_le hq (Nat.le_trans hw.size hg.size)) (hneP (by omega))).trans ((hg.block q (Nat.lt_of_lt_of_le hq hw.size) (hne (by omega))).trans (hw.block q hq hn))⟩
theorem OkS.func (h : OkS X w B a len cap R P nm ia ic ims fa fc xs) (y : RV) (hy : X.ownsRow (R + 1) 58 5 (rvT y) y.1.2.2.length (insV y.1.2.2)) (hn : xs.length ≤ 1048576) :
 ∃ g' c' Y, (Builtin.append_ #[26, 26] 26 #[.slice fa xs.length fc, .slice (some ⟨X.heap.size, 0, none⟩) 1 1]).run Tryz.prog (X.alloc (.cells #[.string ⟨y.1.1.toArray⟩, .int .i64 y.1.2.1, rvT y] 41)) = .ok (.slice (some ⟨g', 0, none⟩) (xs.length + 1) c') Y ∧
  (Box3 Y P (.string ⟨nm.toArray⟩) (.slice ia ims.length ic) (.slice fa xs.length fc) ∧ ∀ j, Y.frozen? ⟨P, j, none⟩ = false) ∧ OkS (Y.setCell ⟨P, 2, none⟩ (.slice (some ⟨g', 0, none⟩) (xs.length + 1) c')) w B a len cap R P nm ia ic ims (some ⟨g', 0, none⟩) c' (xs ++ [y]) := by
 have hrp := h.rp
 obtain ⟨g', c', Y, hrun, hfo, hg⟩ := push_rt X (R + 1) (.slice fa xs.length fc) xs y h.fo hy (by omega) hn
 have e1 : (xs ++ [y]).length = xs.length + 1 := by simp
 have hp := h.p.kept hg (za4 h.p h.fo.row (by decide))
 have hi := h.im.kept hg (za4 h.im h.fo.row (by decide))
 obtain ⟨hp2, hg2⟩ := hp.stored 2 (.slice (some ⟨g', 0, none⟩) (xs.length + 1) c')
 refine ⟨g', c', Y, hrun, ⟨⟨hp.cells rfl 0 _ rfl, hp.cells rfl 1 _ rfl, hp.cells rfl 2 _ rfl⟩, fun j => hp.frozenAt j⟩, ?_⟩
 have hR : ∀ k, (Value.slice fa xs.length fc).ownBlock = some k → R < k := fun k e => by have := (h.fo.row.lt k e).1; omega
 have hbr := h.br
 have hne : ∀ {k : Nat}, k ≤ R → some k ≠ (Value.slice fa xs.length fc).ownBlock := fun {k} hk e => by have := hR k e.symm; omega
 have hneP : ∀ {k : Nat}, k ≤ R → some k ≠ some P := fun {k} hk e => by injection e with e; omega
 refine ⟨by rw [e1]; exact hp2, (h.r.grown hg (hne (Nat.le_refl _))).grown hg2 (hneP (Nat.le_refl _)), fun j => (World.frozen?_setCell ..).trans ((World.frozen?_of_block (a := ⟨R, j, none⟩) (hg.block R h.r.lt (hne (Nat.le_refl _)))).trans (h.rf j)), hi.kept hg2 (za4 hi hp (by decide)), hfo.kept hg2 (za4 hfo.row hp (by decide)) (fun z hz => za4 (hfo.trees z hz) hp (by decide)), (h.cur.kept hg (fun k e => by have := hR k e; omega)).kept hg2 (fun k e => by injection e with e; omega), ?_, h.br, h.wr⟩
 have hw := h.g
 have hwr := h.wr
 exact ⟨hg2.os.trans (hg.os.trans hw.os), hg2.tape.trans (hg.tape.trans hw.tape), hg2.output.trans (hg.output.trans hw.output), Nat.le_trans hw.size (Nat.le_trans hg.size hg2.size), fun q hq hn => (hg2.block q (Nat.lt_of_lt_of_le hq (Nat.le_trans hw.size hg.size)) (hneP (by omega))).trans ((hg.block q (Nat.lt_of_lt_of_le hq hw.size) (hne (by omega))).trans (hw.block q hq hn))⟩
theorem OkS.tree (h : OkS X w B a len cap R P nm ia ic ims (some ⟨gF, 0, none⟩) fc xs) (hx : 0 < xs.length) (ta : Option Addr) (tc : Nat) (t : List In13) (ho : X.ownsRow (R + 1) 58 5 (.slice ta t.length tc) t.length (insV t)) : OkS (X.setCell ⟨gF, 2, none⟩ (.slice ta t.length tc)) w B a len cap R P nm ia ic ims (some ⟨gF, 0, none⟩) fc (xs.set 0 (((xs.getD 0 rv0).1.1, (xs.getD 0 rv0).1.2.1, t), ta, tc)) := by
 obtain ⟨z, r, rfl⟩ : ∃ z r, xs = z :: r := by cases xs with | nil => simp at hx | cons z r => exact ⟨z, r, rfl⟩
 obtain ⟨hr, hg⟩ := h.fo.row.stored 2 (.slice ta t.length tc)
 have hk := h.fo.row.lt gF rfl
 refine h.step hg (fun k e => by injection e with e; omega) (h.p.kept hg (za4 h.p h.fo.row (by decide))) (h.im.kept hg (za4 h.im h.fo.row (by decide))) ⟨hr, fun x hx => ?_⟩
 rcases List.mem_cons.1 hx with rfl | hx
 ·
  exact ho.kept hg (za4 ho h.fo.row (by decide))
 ·
  exact (h.fo.trees x (by simp [hx])).kept hg (za4 (h.fo.trees x (by simp [hx])) h.fo.row (by decide))
end
theorem zfU {t : List Nd} (h : zb9 t = true) : zbz t := fun n hn => by
 have hb := zeS h n hn
 refine ⟨(zg9 hb).1, ?_⟩
 obtain ⟨k, a, p, f⟩ := n
 have hp := zaW.1 hb
 unfold zcd at hp
 simp only at hp ⊢
 rcases hp with ⟨rfl, _, rfl, rfl⟩ | ⟨rfl, _, rfl, rfl⟩ | ⟨_, rfl, rfl, rfl⟩ | ⟨rfl, _, hpn, hfn⟩
 ·
  simp
 ·
  simp
 ·
  simp
 ·
  exact ⟨Nat.le_trans (zcY hpn) (by omega), Nat.le_trans (zcY hfn) (by omega)⟩
theorem sm_rtF {nm : List UInt8} {f : Fn} (hn : nm.length ≤ 9) (hf : f.1.length ≤ 9) (ha : 0 ≤ f.2.1 ∧ f.2.1 ≤ 3) (ht : zb9 f.2.2 = true) : SmRt (rtF nm f) := by
 refine ⟨?_, ?_, ?_, ze3 ht (zfU ht)⟩
 ·
  show (nm ++ [46] ++ f.1).length ≤ 100
  simp; omega
 ·
  show -10 ≤ f.2.1 ∧ f.2.1 ≤ 10
  omega
 ·
  show (zaq f.2.2).length ≤ 300
  have := (zbF ht).2.2.1
  omega
structure Os15 (o : Ob) : Prop where
 nm : o.1.length ≤ 9
 im : o.2.1.length ≤ 9 ∧ ∀ t ∈ o.2.1, t.length ≤ 9
 rl : o.2.2.length ≤ 8
 rt : ∀ r ∈ o.2.2, SmRt r
theorem Pg15.os {nm : List UInt8} {ims : List (List UInt8)} {fs : List Fn} (hp : Pg15 nm ims fs) : Os15 (zeP (nm, ims, fs.map zd7)) := by
 unfold zeP
 split
 ·
  refine ⟨hp.nm, ⟨hp.il, fun t ht => ?_⟩, ?_, fun r hr => ?_⟩
  ·
   obtain ⟨k, hk, rfl⟩ := List.mem_iff_getElem.1 (show t ∈ ims from ht)
   have := hp.is k
   rwa [List.getD_eq_getElem?_getD, List.getElem?_eq_getElem hk] at this
  ·
   show (zao ((fs.map zd7).map (rtF nm))).length ≤ 8
   rw [zeV, List.length_map, List.length_map]
   exact hp.fl
  ·
   have hr2 : r ∈ (fs.map zd7).map (rtF nm) := (zb0 _).mem_iff.1 hr
   obtain ⟨f, hf, rfl⟩ := List.mem_map.1 hr2
   obtain ⟨g, hg, rfl⟩ := List.mem_map.1 hf
   obtain ⟨k, hk, rfl⟩ := List.mem_iff_getElem.1 hg
   have hgd : fs.getD k fn0 = fs[k] := by rw [List.getD_eq_getElem?_getD, List.getElem?_eq_getElem hk]; rfl
   have h1 := hp.fn k hk
   rw [hgd] at h1
   exact sm_rtF hp.nm h1.1 h1.2.1 (zfM h1.2.2).1
 ·
  exact ⟨by simp [ob0], ⟨by simp [ob0], fun t ht => by simp [ob0] at ht⟩, by simp [ob0], fun r hr => by simp [ob0] at hr⟩
theorem zhK {X w : World} {B : Nat} {a : Option Addr} {len cap N L : Nat} {la : Option Addr} {lc : Nat} {ys : List PV} {vc : Value} {cs : List Nd} (h : D8 X w B a len cap N L la lc ys vc cs) {j : Nat} (hj : j < ys.length) : Pg15 (pvP (ys.getD j pv0)).1 (pvP (ys.getD j pv0)).2.1 (pvP (ys.getD j pv0)).2.2 := by
 have hm : ys.getD j pv0 ∈ ys := by rw [List.getD_eq_getElem?_getD, List.getElem?_eq_getElem hj]; exact List.getElem_mem hj
 obtain ⟨hy, _, _⟩ := h.each _ hm
 generalize ys.getD j pv0 = y at hy
 refine ⟨fun k hk => ?_, hy.nm, ?_, Nat.le_trans hy.im.1 (by omega), fun i => ?_⟩
 ·
  have hk2 : k < y.xs.length := by simpa [pvP] using hk
  have hx : y.xs[k] ∈ y.xs := List.getElem_mem hk2
  obtain ⟨h1, h2, h3, h4⟩ := hy.sm _ hx
  have e : (pvP y).2.2.getD k fn0 = y.xs[k].1 := by simp [pvP, List.getD_eq_getElem?_getD, List.getElem?_eq_getElem hk2]
  rw [e]
  exact ⟨h1.1, ⟨h2, h3⟩, h4⟩
 ·
  have := hy.n
  show (y.xs.map (·.1)).length ≤ 8
  rw [List.length_map]
  omega
 ·
  by_cases hi : i < y.ims.length
  ·
   have e : (pvP y).2.1.getD i [] = y.ims[i] := by simp [pvP, List.getD_eq_getElem?_getD, List.getElem?_eq_getElem hi]
   rw [e]
   exact hy.im.2 _ (List.getElem_mem hi)
  ·
   have e : (pvP y).2.1.getD i [] = [] := by simp [pvP, List.getD_eq_getElem?_getD, List.getElem?_eq_none (by omega : y.ims.length ≤ i)]
   rw [e]; simp
theorem smR_of {xs : List RV} {rs : List Rt} (h : xs.map (·.1) = rs) (hs : ∀ r ∈ rs, SmRt r) : SmR xs := fun x hx => hs _ (h ▸ List.mem_map.2 ⟨x, hx, rfl⟩)
theorem push_rv {X : World} {B : Nat} {v : Value} {xs : List RV} (h : za7 X B v xs) (x : RV) (ht : X.ownsRow B 58 5 (rvT x) x.1.2.2.length (insV x.1.2.2)) (hb : B ≤ X.heap.size) (hn : xs.length ≤ 1048576) :
 ∃ v' Y, (Builtin.append_ #[26, 26] 26 #[v, .slice (some ⟨X.heap.size, 0, none⟩) 1 1]).run Tryz.prog (X.alloc (.cells #[.string ⟨x.1.1.toArray⟩, .int .i64 x.1.2.1, rvT x] 41)) = .ok v' Y ∧ za7 Y B v' (xs ++ [x]) ∧ X.grownBy Y v.ownBlock := by
 obtain ⟨i0, hi, hz0, hz1, hz2⟩ := info_parts zgn
 obtain ⟨v', Y, hrun, hown, hg, _⟩ := zal (P := Tryz.prog) (X.alloc (.cells #[.string ⟨x.1.1.toArray⟩, .int .i64 x.1.2.1, rvT x] 41)) B 26 26 41 i0 _ 3 48 Tryz.underlying26 hi hz0 hz1 hz2 rfl (by decide) _ _ _ (h.row.alloc _) _ 1 (rtsV [x]) (new_rt X x 1) (by unfold maxLen; omega) (by omega) (by simp; omega)
 refine ⟨v', Y, hrun, ⟨?_, fun z hz => ?_⟩, (World.grownBy_alloc X _ _).trans hg⟩
 ·
  rw [zcz, List.length_append]
  exact hown
 ·
  have hrow := h.row.alloc (.cells #[.string ⟨x.1.1.toArray⟩, .int .i64 x.1.2.1, rvT x] 41)
  rcases List.mem_append.1 hz with h1 | h1
  ·
   have h2 := (h.trees z h1).alloc (.cells #[.string ⟨x.1.1.toArray⟩, .int .i64 x.1.2.1, rvT x] 41)
   exact h2.kept hg (zb5 h2 hrow (by decide))
  ·
   rw [List.mem_singleton.1 h1]
   have h2 := ht.alloc (.cells #[.string ⟨x.1.1.toArray⟩, .int .i64 x.1.2.1, rvT x] 41)
   exact h2.kept hg (zb5 h2 hrow (by decide))
end Go.Proofs.YtenaaneckobdpaaGreat
