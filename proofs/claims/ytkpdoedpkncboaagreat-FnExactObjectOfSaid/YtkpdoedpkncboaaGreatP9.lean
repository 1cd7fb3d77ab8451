/-
  Parts of one proof, one behind the other: FoldK7, FoldKA, FoldK, Math11W, Math11P, Math11Q, Math11T, FoldS3, FoldE, Math6I, WordI, Jumps, Clone, TextI.
-/
import Derived.Test.YtkpdoedpkncboaaGreatP8
import Derived.Test.YtkpdoedpkncboaaGreatP6
import Derived.Test.YtkpdoedpkncboaaGreatP7
import Derived.Test.YtkpdoedpkncboaaGreatP3
import Derived.Test.YtkpdoedpkncboaaGreatP2
import Derived.Test.YtkpdoedpkncboaaGreatP4
import Derived.Test.YtkpdoedpkncboaaGreatP1
import Derived.Lib.ItoaNum
import Derived.Lib.Join
import Derived.Lib.Bytealg
import Derived.Scope
import Derived.WalkMore
import Derived.Lib.Strings
import Derived.Lib.Walk
import Derived.Lib.BufferWrite
import Derived.Lib.UnsafeStr
import Derived.Lib.Hide
import Derived.Laws.MakeOwn
import Derived.Test.YtkpdoedpkncboaaGreatRows
import Derived.WalkKit
import Derived.WalkLawsBesides
import Derived.OpenShut
import Derived.BigQuiet
namespace Go.Proofs.YtkpdoedpkncboaaGreat
open Go.RowKit
set_option maxHeartbeats 40000000 in
set_option maxRecDepth 100000 in
theorem zkh (B : World) (ta : Option Addr) (tc : Nat) (t : List Nd) (hin : za4 B ta t.length t) (hsh : zam t) (hgood : zb5 t) (hlen : t.length ≤ 60) (d : Nat) (ih : zib B ta tc t d) (w : World) (a : Nat) (hB : Below B.heap.size B w) (hp : 0 ≤ endV t (a : Int)) (hd : t.length ≤ a + (d + 1)) (hkd : (t.getD a nd0).1 = 7) :
 Calls Tryz.prog 39 #[.slice ta t.length tc, .int .i64 (a : Int)] w fun e w' => ∃ v, e = .returned v ∧ w'.ownsRow w.heap.size 90 4 v (zab (d + 1) t (a : Int)).length (za0 (zab (d + 1) t (a : Int))) ∧ Below w.heap.size w w' := by
 obtain ⟨hal, _, _, _, _⟩ := zac hp
 have hmem : t.getD a nd0 ∈ t := by simp [List.getD, hal]
 have hnb := hgood _ hmem
 have HPl : Hid (∀ i, i < za7 (t.getD a nd0) → ∃ q : Nat, (za1 t (a : Int)).getD i 0 = (q : Int) ∧ a < q ∧ 0 ≤ endV t (q : Int)) := fun i hi => by
  obtain ⟨q, hq, _, hqe⟩ := zbP hp hi
  refine ⟨q, hq, ?_, hqe⟩
  obtain ⟨s, post, e, hs⟩ := zcM hp
  cases hs with
  | mk n ks hn hk ho =>
   obtain ⟨e1, e2, e3⟩ := zbG e hk ho
   rw [e1] at hi
   obtain ⟨_, e4, _⟩ := e3 i (by omega)
   rw [hq] at e4
   omega
 have hpl := zb0 t a
 obtain ⟨n, hn⟩ : ∃ n, t.getD a nd0 = n := ⟨_, rfl⟩
 obtain ⟨bt, ot, rfl, hbt, q0, q1, q2, q3⟩ := (hin.below hB).2 a hal
 have hkk := zaT hnb
 have hnd := zaV.1 hnb
 have hr : zab (d + 1) t (a : Int) = mk11 (t.getD a nd0) ((za1 t (a : Int)).map (zab d t)) := rfl
 rw [hr]
 rw [hn] at q0 q1 q2 q3 HPl hpl hkk hnd hkd ⊢
 obtain ⟨kd, nA, np, nf⟩ := n
 simp only at hkd
 subst hkd
 unfold zbC at hnd
 simp only at q0 q1 q2 q3 hnd
 obtain ⟨⟨n0, n1, n2, n3⟩, hbg⟩ := zd6 w (.int .i64 7) (.int .i64 nA) (.string ⟨np.toArray⟩) (.string ⟨nf.toArray⟩) 90
 obtain ⟨X, hX⟩ : ∃ X, w.alloc (.cells #[.int .i64 7, .int .i64 nA, .string ⟨np.toArray⟩, .string ⟨nf.toArray⟩] 90) = X := ⟨_, rfl⟩
 obtain ⟨N, hN⟩ : ∃ N, w.heap.size = N := ⟨_, rfl⟩
 rw [hX] at n0 n1 n2 n3 hbg
 rw [hN] at n0 n1 n2 n3
 have hNX : N < X.heap.size := World.block_lt_of_cell? X ⟨N, 0, none⟩ n0
 have hBX : Below B.heap.size B X := hB.trans (hbg.mono hB.size)
 have HPt : Hid (_) := zaU (some ⟨bt, ot, none⟩) tc t a X (hin.below hBX) hsh (by omega) hal (by rw [hn]; exact hn ▸ hnb)
 rw [hn] at HPt
 have HPe : Hid (zad t (za7 (7, nA, np, nf)) ((a : Int) + 1) = za1 t (a : Int)) := by
  exact (by unfold za1; rw [Int.toNat_natCast, hn] : zad t (za7 (7, nA, np, nf)) ((a : Int) + 1) = za1 t (a : Int))
 rw [HPe.out] at HPt
 obtain ⟨k, hk⟩ : ∃ k, za7 (7, nA, np, nf) = k := ⟨_, rfl⟩
 have HK : Hid (za7 (7, nA, np, nf) = k) := hk
 rw [hk] at HPt HPl hpl hkk
 have HIh : Hid (∀ Y i, i < k → Below X.heap.size X Y → Calls Tryz.prog 39 #[.slice (some ⟨bt, ot, none⟩) t.length tc, .int .i64 ((za1 t (a : Int)).getD i 0)] Y fun e w' => ∃ v, e = .returned v ∧ w'.ownsRow Y.heap.size 90 4 v (((za1 t (a : Int)).map (zab d t)).getD i []).length (za0 (((za1 t (a : Int)).map (zab d t)).getD i [])) ∧ Below Y.heap.size Y w') := fun Y i hi hy => by
  obtain ⟨q, e, hq, hqe⟩ := HPl.out i hi
  have e2 : ((za1 t (a : Int)).map (zab d t)).getD i [] = zab d t (q : Int) := by
   rw [← e]
   simp [List.getD, show i < (za1 t (a : Int)).length by omega]
  rw [e, e2]
  exact ih Y q (hBX.trans (hy.mono hBX.size)) hqe (by omega)
 have HLn : Hid (∀ i, i < k → 0 < (((za1 t (a : Int)).map (zab d t)).getD i []).length ∧ (((za1 t (a : Int)).map (zab d t)).getD i []).length ≤ 60 ∧ zb5 (((za1 t (a : Int)).map (zab d t)).getD i [])) := fun i hi => by
  obtain ⟨q, e, hq, hqe⟩ := HPl.out i hi
  have e2 : ((za1 t (a : Int)).map (zab d t)).getD i [] = zab d t (q : Int) := by
   rw [← e]
   simp [List.getD, show i < (za1 t (a : Int)).length by omega]
  rw [e2]
  have h := zdc (d := d) hqe (by omega)
  exact ⟨h.1, by omega, h.2.2⟩
 obtain ⟨rs, hrs⟩ : ∃ rs, (za1 t (a : Int)).map (zab d t) = rs := ⟨_, rfl⟩
 have HRl : Hid (rs.length = k) := by exact (by rw [← hrs, List.length_map, hpl] : rs.length = k)
 rw [hrs] at HIh HLn ⊢
 have HBX : Hid (Below w.heap.size w X) := hbg
 generalize za1 t (a : Int) = pts at HPt HIh hpl
 have HN : Hid (∀ Y, Below X.heap.size X Y → Y.cell? ⟨N, 0, none⟩ = some (.int .i64 7) ∧ Y.cell? ⟨N, 1, none⟩ = some (.int .i64 nA) ∧ Y.cell? ⟨N, 2, none⟩ = some (.string ⟨np.toArray⟩) ∧ Y.cell? ⟨N, 3, none⟩ = some (.string ⟨nf.toArray⟩)) := fun Y hy => ⟨(hy.cell (p := ⟨N, 0, none⟩) hNX).trans n0, (hy.cell (p := ⟨N, 1, none⟩) hNX).trans n1, (hy.cell (p := ⟨N, 2, none⟩) hNX).trans n2, (hy.cell (p := ⟨N, 3, none⟩) hNX).trans n3⟩
 have hal2 : (a : Int) < (t.length : Int) := by omega
 have hk3 : k ≤ 3 := hkk.2
 clear ih hmem hnb HPl HPe hr hn hkk hbg hBX hrs hal n0 n1 n2 n3 hbt hB hp hk
 go_enter Tryz.func39, Tryz.ntmps39
 go_wp2_with fail
 refine Calls.mono HPt.out ?_
 rintro e V ⟨v, rfl, ho, hb2⟩
 obtain rfl : pts.length = k := hpl
 obtain ⟨pa, pc, rfl, hpV⟩ := zfZ ho hNX
 obtain ⟨m0, m1, m2, m3⟩ := HN.out V hb2
 have HAs : Hid (∀ Y, Below V.heap.size V Y → As Y N pa pts) := fun Y hy => hpV.below hy
 have HXV : Hid (Below X.heap.size X V) := hb2
 have hbA : Below V.heap.size V (V.alloc (.cells #[] 46)) := (Below.refl _ _).alloc (Nat.le_refl _) _
 have hP0 : (V.alloc (.cells #[] 46)).ownsRow V.heap.size 46 1 (.slice (some ⟨V.heap.size, 0, none⟩) 0 0) 0 [] := World.ownsRow_lit (base := V.heap.size) (e := 46) (size := 1) V #[] 0 (Nat.le_refl _) (by decide) rfl
 have hNV : N < V.heap.size := World.block_lt_of_cell? V ⟨N, 0, none⟩ m0
 have u0 := (hbA.cell (p := ⟨N, 0, none⟩) hNV).trans m0
 have u1 := (hbA.cell (p := ⟨N, 1, none⟩) hNV).trans m1
 have u2 := (hbA.cell (p := ⟨N, 2, none⟩) hNV).trans m2
 have u3 := (hbA.cell (p := ⟨N, 3, none⟩) hNV).trans m3
 obtain ⟨V1, hV1⟩ : ∃ V1, V.alloc (.cells #[] 46) = V1 := ⟨_, rfl⟩
 rw [hV1] at hbA hP0 u0 u1 u2 u3
 have hA0 : (V1.alloc (.cells #[.int .i64 7, .int .i64 nA, .string ⟨np.toArray⟩, .string ⟨nf.toArray⟩] 90)).ownsRow V.heap.size 90 4 (.slice (some ⟨V1.heap.size, 0, none⟩) 1 1) 1 (za0 [(7, nA, np, nf)]) := World.ownsRow_lit (base := V.heap.size) (e := 90) (size := 4) V1 #[.int .i64 7, .int .i64 nA, .string ⟨np.toArray⟩, .string ⟨nf.toArray⟩] 1 hbA.size (by decide) rfl
 have hbB : Below V1.heap.size V1 (V1.alloc (.cells #[.int .i64 7, .int .i64 nA, .string ⟨np.toArray⟩, .string ⟨nf.toArray⟩] 90)) := (Below.refl _ _).alloc (Nat.le_refl _) _
 obtain ⟨V2, hV2⟩ : ∃ V2, V1.alloc (.cells #[.int .i64 7, .int .i64 nA, .string ⟨np.toArray⟩, .string ⟨nf.toArray⟩] 90) = V2 := ⟨_, rfl⟩
 rw [hV2] at hA0 hbB
 obtain ⟨B1, hB1⟩ : ∃ B1, V.heap.size = B1 := ⟨_, rfl⟩
 obtain ⟨M1, hM1⟩ : ∃ M1, V1.heap.size = M1 := ⟨_, rfl⟩
 have HP2 : Hid (V2.ownsRow B1 46 1 (.slice (some ⟨B1, 0, none⟩) 0 0) 0 [] ∧ ([] : List Value).length = 0) := by
  exact (by rw [← hB1]; exact ⟨za2 hP0 hbB, rfl⟩ : V2.ownsRow B1 46 1 (.slice (some ⟨B1, 0, none⟩) 0 0) 0 [] ∧ ([] : List Value).length = 0)
 have HA2 : Hid (V2.ownsRow B1 90 4 (.slice (some ⟨M1, 0, none⟩) 1 1) 1 (za0 ((7, nA, np, nf) :: (rs.take 0).flatten)) ∧ 1 = ((7, nA, np, nf) :: (rs.take 0).flatten).length) := by
  exact (by rw [← hB1, ← hM1]; exact ⟨hA0, rfl⟩ : V2.ownsRow B1 90 4 (.slice (some ⟨M1, 0, none⟩) 1 1) 1 (za0 ((7, nA, np, nf) :: (rs.take 0).flatten)) ∧ 1 = ((7, nA, np, nf) :: (rs.take 0).flatten).length)
 have HB2 : Hid (Below B1 V V2) := by
  exact (by rw [← hB1]; exact hbA.trans (hbB.mono hbA.size) : Below B1 V V2)
 clear hbA hP0 hA0 hbB hpV ho m0 m1 m2 m3 hb2 HPt
 go_wp2
 go_loopw [7, 8, 9] (fun pv0 av0 iv wx => ∃ (i m : Nat) (pv av : Value) (vs : List Value), pv = pv0 ∧ av = av0 ∧ iv = .int .i64 (i : Int) ∧ i ≤ pts.length ∧ m ≤ 1 + i * 60 ∧ Hid (wx.ownsRow B1 46 1 pv i vs ∧ vs.length = i) ∧ Hid (wx.ownsRow B1 90 4 av m (za0 ((7, nA, np, nf) :: (rs.take i).flatten)) ∧ m = ((7, nA, np, nf) :: (rs.take i).flatten).length) ∧ Hid (∀ j, j < i → wx.ownsRow B1 90 4 (vs.getD j undef) (rs.getD j []).length (za0 (rs.getD j [])) ∧ ((vs.getD j undef).ownBlock = none ∨ (vs.getD j undef).ownBlock ≠ av.ownBlock)) ∧ Hid (Below B1 V wx)) (fun _ _ iv _ => pts.length - (intOf iv).toNat)
 case atStart => exact ⟨0, 1, _, _, [], rfl, rfl, rfl, Nat.zero_le _, by omega, HP2, HA2, (fun j hj => absurd hj (Nat.not_lt_zero _)), HB2⟩
 case round =>
  obtain ⟨i, m, pv, av, vs, rfl, rfl, rfl, hi, hm, HP, HA, HE, HBw⟩ := hrel
  clear HP2 HA2 HB2 u0 u1 u2 u3
  have hbw : Below V.heap.size V wr := by rw [hB1]; exact HBw.out
  by_cases hlt : (i : Int) < (pts.length : Int)
  ·
   have hi2 : i < pts.length := by omega
   obtain ⟨bp, op, rfl, _, _, p0⟩ := HAs.out wr hbw i hi2
   have HC : Hid (_) := HIh.out wr i hi2 (HXV.out.trans (hbw.mono HXV.out.size))
   obtain ⟨hl0, hl60, _⟩ := HLn.out i hi2
   obtain ⟨x, hx⟩ : ∃ x, rs.getD i [] = x := ⟨_, rfl⟩
   have HXe : Hid (rs.getD i [] = x) := hx
   rw [hx] at HC hl0 hl60
   have hB1w : B1 ≤ wr.heap.size := by rw [← hB1]; exact hbw.size
   generalize pts.getD i 0 = P0 at p0 HC
   clear hx
   go_wp2_with fail
   refine Calls.mono HC.out ?_
   rintro e Y0 ⟨xv, rfl, hxo, hb0⟩
   obtain ⟨gx, cx, rfl⟩ := zag hxo (by omega)
   -- the parts
   have hp0 := za2 HP.out.1 hb0
   have ha0 := za2 HA.out.1 hb0
   obtain ⟨p', Y1, hr1, hp1, hg1⟩ := zbO (some ⟨gx, 0, none⟩) x.length cx hp0 (Nat.le_trans hB1w hb0.size) (by omega)
   have ha1 := ha0.kept hg1 (zah ha0 hp0 (by decide))
   have hx1 := hxo.kept hg1 (zah hxo hp0 (by decide))
   have hs1 := hg1.size
   have hs0 := hb0.size
   obtain ⟨a', Y2, hr2, ha2, hg2, hat⟩ := zbA ha1 hx1 (by omega) (by omega)
   have hav : ∀ k, av.ownBlock = some k → k < wr.heap.size := fun k e => (HA.out.1.lt k e).2
   have hxap : (Value.slice (some ⟨gx, 0, none⟩) x.length cx).ownBlock = none ∨ (Value.slice (some ⟨gx, 0, none⟩) x.length cx).ownBlock ≠ av.ownBlock := Or.inr (fun e => by
    have h1 : some gx = av.ownBlock := e
    have h2 := hav gx h1.symm
    have h3 := (hxo.lt gx rfl).1
    omega)
   have hnew : ∀ (u : Value) (nn : Nat) (ys : List Value) (b : Nat), Y1.ownsRow b 90 4 u nn ys → (u.ownBlock = none ∨ u.ownBlock ≠ av.ownBlock) → (u.ownBlock = none ∨ u.ownBlock ≠ a'.ownBlock) := fun u nn ys b hu h => by
    rcases hq : u.ownBlock with _ | q
    ·
     exact Or.inl rfl
    ·
     right
     intro e
     rcases hat q e.symm with h1 | h1
     ·
      rcases h with h | h
      ·
       rw [hq] at h; cases h
      ·
       exact h (by rw [hq, h1])
     ·
      have := (hu.lt q hq).2
      omega
   have HP3 : Hid (Y2.ownsRow B1 46 1 p' (i + 1) (vs ++ [.slice (some ⟨gx, 0, none⟩) x.length cx]) ∧ (vs ++ [Value.slice (some ⟨gx, 0, none⟩) x.length cx]).length = i + 1) := ⟨hp1.kept hg2 (zah hp1 ha1 (by decide)), by rw [List.length_append, HP.out.2]; rfl⟩
   have htk : (rs.take (i + 1)).flatten = (rs.take i).flatten ++ x := by
    have hil : i < rs.length := by rw [HRl.out]; exact hi2
    have e := HXe.out
    rw [List.take_succ_eq_append_getElem hil, List.flatten_append]
    congr 1
    rw [← e]
    simp [List.getD, hil]
   have HA3 : Hid (Y2.ownsRow B1 90 4 a' (m + x.length) (za0 ((7, nA, np, nf) :: (rs.take (i + 1)).flatten)) ∧ m + x.length = ((7, nA, np, nf) :: (rs.take (i + 1)).flatten).length) := by
    refine ⟨?_, ?_⟩
    ·
     rw [htk]; exact ha2
    ·
     rw [htk, List.length_cons, List.length_append]
     have := HA.out.2
     rw [List.length_cons] at this
     omega
   have HE3 : Hid (∀ j, j < i + 1 → Y2.ownsRow B1 90 4 ((vs ++ [Value.slice (some ⟨gx, 0, none⟩) x.length cx]).getD j undef) (rs.getD j []).length (za0 (rs.getD j [])) ∧ (((vs ++ [Value.slice (some ⟨gx, 0, none⟩) x.length cx]).getD j undef).ownBlock = none ∨ ((vs ++ [Value.slice (some ⟨gx, 0, none⟩) x.length cx]).getD j undef).ownBlock ≠ a'.ownBlock)) := fun j hj => by
    have hvl := HP.out.2
    rcases Nat.lt_or_ge j i with h | h
    ·
     have e3 : (vs ++ [Value.slice (some ⟨gx, 0, none⟩) x.length cx]).getD j undef = vs.getD j undef := by
      simp only [List.getD]
      rw [List.getElem?_append_left (by omega)]
     rw [e3]
     obtain ⟨h1, h2⟩ := HE.out j h
     have h3 := za2 h1 hb0
     have h4 := h3.kept hg1 (zah h3 hp0 (by decide))
     exact ⟨h4.kept hg2 h2, hnew _ _ _ _ h4 h2⟩
    ·
     obtain rfl : j = i := by omega
     have e3 : (vs ++ [Value.slice (some ⟨gx, 0, none⟩) x.length cx]).getD j undef = .slice (some ⟨gx, 0, none⟩) x.length cx := by
      simp only [List.getD]
      rw [List.getElem?_append_right (by omega), hvl]
      simp
     rw [e3, HXe.out]
     exact ⟨zaj (hx1.kept hg2 hxap) (by omega), hnew _ _ _ _ hx1 hxap⟩
   have HB3 : Hid (Below B1 V Y2) := ((HBw.out.trans (hb0.mono hB1w)).grown hg1 (by omega) (fun k e => (hp0.lt k e).1)).grown hg2 (by omega) (fun k e => (HA.out.1.lt k e).1)
   generalize hxl : x.length = xl at *
   clear hp0 ha0 ha1 hx1 hp1 hg1 ha2 hg2 hat hav hxap hnew htk hxo hb0 HC HP HA HE hs0 hs1 p0
   go_wp2_with (first | (at_builtin; refine wpList_append_run rfl (.tmp 37) (.tmp 39) 93 rfl _ _ _ rfl rfl hr1 ?_; clear hr1) | (at_builtin; refine wpList_append_run rfl (.tmp 41) (.tmp 42) 46 rfl _ _ _ rfl rfl hr2 ?_; clear hr2))
   go_roundw
   case rel => exact ⟨i + 1, m + xl, p', a', _, rfl, rfl, by go_num, by omega, by omega, HP3, HA3, HE3, HB3⟩
   case measure => simp [intOf]; omega
  ·
   have HIe : Hid (i = pts.length) := by exact (by omega : i = pts.length)
   have htk : rs.take i = rs := List.take_of_length_le (by rw [HRl.out, HIe.out]; exact Nat.le_refl _)
   have har := HA.out
   rw [htk] at har
   have HAl : Hid (wr.ownsRow B1 90 4 av ((7, nA, np, nf) :: rs.flatten).length (za0 ((7, nA, np, nf) :: rs.flatten))) := by
    exact (by rw [← har.2]; exact har.1 : wr.ownsRow B1 90 4 av ((7, nA, np, nf) :: rs.flatten).length (za0 ((7, nA, np, nf) :: rs.flatten)))
   have HVX : Hid (Below w.heap.size w V) := HBX.out.trans (HXV.out.mono HBX.out.size)
   have HFin : Hid (∀ (u : Value) (L : List Nd) (Y : World), Y.ownsRow B1 90 4 u L.length (za0 L) → Below V.heap.size V Y → Y.ownsRow N 90 4 u L.length (za0 L) ∧ Below N w Y) := fun u L Y h1 h2 => by
    rw [← hN]
    exact ⟨zaj h1 (by rw [← hB1]; exact HVX.out.size), HVX.out.trans (h2.mono HVX.out.size)⟩
   obtain ⟨nn0, nn1, nn2, nn3⟩ := HN.out wr (HXV.out.trans (hbw.mono HXV.out.size))
   have HBv : Hid (Below V.heap.size V wr) := hbw
   have h3 : pts.length = 3 := by rw [← HK.out]; exact zbn rfl
   obtain ⟨r0, a0⟩ := HE.out 0 (by omega)
   obtain ⟨r1, a1⟩ := HE.out 1 (by omega)
   obtain ⟨r2, a2⟩ := HE.out 2 (by omega)
   have hl0 := HLn.out 0 (by omega)
   have hl1 := HLn.out 1 (by omega)
   have hl2 := HLn.out 2 (by omega)
   obtain ⟨g0, d0, e0⟩ := zag r0 (by omega)
   obtain ⟨g1, d1, e1⟩ := zag r1 (by omega)
   obtain ⟨g2, d2, e2⟩ := zag r2 (by omega)
   have hmk : mk11 (7, nA, np, nf) rs = if zai (rs.getD 0 []) = true then (if zap (rs.getD 0 []) 0 = true then rs.getD 2 [] else rs.getD 1 []) else (7, nA, np, nf) :: rs.flatten := by
    unfold mk11
    rw [if_neg (by simp), if_pos rfl]
   have hpr := HP.out.1
   have hvl := HP.out.2
   obtain ⟨gp, cp, rfl⟩ := zag hpr (by omega)
   have cell : ∀ j, j < i → wr.cell? ⟨gp, j, none⟩ = some (vs.getD j undef) := fun j hj => by
    rw [hpr.cellAt j (by omega)]
    simp [List.getD, show j < vs.length by omega]
   have t0 := cell 0 (by omega)
   have t1 := cell 1 (by omega)
   have t2 := cell 2 (by omega)
   rw [e0] at t0 r0
   rw [e1] at t1 r1
   rw [e2] at t2 r2
   obtain ⟨_, q0, f0, eq0, hi0⟩ := zaq r0
   injection eq0 with eq1 _ eq3
   subst eq1
   have HOn : Hid (_) := zbE (some ⟨g0, 0, none⟩) (rs.getD 0 []).length d0 (rs.getD 0 []) wr hi0 (by omega)
   have HNu : Hid (_) := zbF (some ⟨g0, 0, none⟩) (rs.getD 0 []).length d0 (rs.getD 0 []) 0 wr hi0 (by omega)
   have hi3 : i = 3 := by have := HIe.out; omega
   have hi0' : ¬ (i : Int) ≤ 0 := by omega
   have w0 : (0 : Int) < (i : Int) := by omega
   have w1 : (1 : Int) < (i : Int) := by omega
   have w2 : (2 : Int) < (i : Int) := by omega
   have HR0 : Hid (_) := HFin.out _ _ wr r0 HBv.out
   have HR1 : Hid (_) := HFin.out _ _ wr r1 HBv.out
   have HR2 : Hid (_) := HFin.out _ _ wr r2 HBv.out
   have HRa : Hid (_) := HFin.out _ _ wr HAl.out HBv.out
   obtain ⟨x0, hx0⟩ : ∃ x, rs.getD 0 [] = x := ⟨_, rfl⟩
   obtain ⟨x1, hx1⟩ : ∃ x, rs.getD 1 [] = x := ⟨_, rfl⟩
   obtain ⟨x2, hx2⟩ : ∃ x, rs.getD 2 [] = x := ⟨_, rfl⟩
   rw [hx0] at t0 HOn HNu HR0 hmk
   rw [hx1] at t1 HR1 hmk
   rw [hx2] at t2 HR2 hmk
   obtain ⟨y0, hy0⟩ : ∃ y, x0.length = y := ⟨_, rfl⟩
   obtain ⟨y1, hy1⟩ : ∃ y, x1.length = y := ⟨_, rfl⟩
   obtain ⟨y2, hy2⟩ : ∃ y, x2.length = y := ⟨_, rfl⟩
   rw [hy0] at t0 HOn HNu HR0
   rw [hy1] at t1 HR1
   rw [hy2] at t2 HR2
   have HMk : Hid (_) := hmk
   clear cell hpr hvl HP HA HE hbw har htk hnd r0 r1 r2 a0 a1 a2 hl0 hl1 hl2 e0 e1 e2 hi0 eq3 hx0 hx1 hx2 hi3 HLn HIh HAs hmk
   rcases hb0 : zai x0 with _ | _
   ·
    rw [hb0] at HOn
    have hm := HMk.out
    rw [hb0] at hm
    simp only [Bool.false_eq_true, if_false] at hm
    go_wp2_with fail
    refine Calls.mono HOn.out ?_
    rintro e w5 ⟨rfl, hw5⟩
    obtain rfl := hw5.symm
    go_wp2
    go_ret
    rw [hm]
    try rw [hN]
    first | exact ⟨_, rfl, HRa.out.1, HRa.out.2⟩ | exact HRa.out
   ·
    rw [hb0] at HOn
    rcases hb1 : zap x0 0 with _ | _
    ·
     rw [hb1] at HNu
     have hm := HMk.out
     rw [hb0, hb1] at hm
     simp only [Bool.false_eq_true, if_false, if_true] at hm
     go_wp2_with fail
     refine Calls.mono HOn.out ?_
     rintro e w5 ⟨rfl, hw5⟩
     obtain rfl := hw5.symm
     go_wp2_with fail
     refine Calls.mono HNu.out ?_
     rintro e w5 ⟨rfl, hw5⟩
     obtain rfl := hw5.symm
     go_wp2
     go_ret
     rw [hm, hy1]
     try rw [hN]
     first | exact ⟨_, rfl, HR1.out.1, HR1.out.2⟩ | exact HR1.out
    ·
     rw [hb1] at HNu
     have hm := HMk.out
     rw [hb0, hb1] at hm
     simp only [if_true] at hm
     go_wp2_with fail
     refine Calls.mono HOn.out ?_
     rintro e w5 ⟨rfl, hw5⟩
     obtain rfl := hw5.symm
     go_wp2_with fail
     refine Calls.mono HNu.out ?_
     rintro e w5 ⟨rfl, hw5⟩
     obtain rfl := hw5.symm
     go_wp2
     go_ret
     rw [hm, hy2]
     try rw [hN]
     first | exact ⟨_, rfl, HR2.out.1, HR2.out.2⟩ | exact HR2.out
set_option maxHeartbeats 40000000 in
set_option maxRecDepth 100000 in
theorem zkg (B : World) (ta : Option Addr) (tc : Nat) (t : List Nd) (hin : za4 B ta t.length t) (hsh : zam t) (hgood : zb5 t) (hlen : t.length ≤ 60) (d : Nat) (ih : zib B ta tc t d) (w : World) (a : Nat) (hB : Below B.heap.size B w) (hp : 0 ≤ endV t (a : Int)) (hd : t.length ≤ a + (d + 1)) (hkd : ¬ (3 ≤ (t.getD a nd0).1 ∧ (t.getD a nd0).1 ≤ 6) ∧ (t.getD a nd0).1 ≠ 7) :
 Calls Tryz.prog 39 #[.slice ta t.length tc, .int .i64 (a : Int)] w fun e w' => ∃ v, e = .returned v ∧ w'.ownsRow w.heap.size 90 4 v (zab (d + 1) t (a : Int)).length (za0 (zab (d + 1) t (a : Int))) ∧ Below w.heap.size w w' := by
 obtain ⟨hal, _, _, _, _⟩ := zac hp
 have hmem : t.getD a nd0 ∈ t := by simp [List.getD, hal]
 have hnb := hgood _ hmem
 have HPl : Hid (∀ i, i < za7 (t.getD a nd0) → ∃ q : Nat, (za1 t (a : Int)).getD i 0 = (q : Int) ∧ a < q ∧ 0 ≤ endV t (q : Int)) := fun i hi => by
  obtain ⟨q, hq, _, hqe⟩ := zbP hp hi
  refine ⟨q, hq, ?_, hqe⟩
  obtain ⟨s, post, e, hs⟩ := zcM hp
  cases hs with
  | mk n ks hn hk ho =>
   obtain ⟨e1, e2, e3⟩ := zbG e hk ho
   rw [e1] at hi
   obtain ⟨_, e4, _⟩ := e3 i (by omega)
   rw [hq] at e4
   omega
 have hpl := zb0 t a
 obtain ⟨n, hn⟩ : ∃ n, t.getD a nd0 = n := ⟨_, rfl⟩
 obtain ⟨bt, ot, rfl, hbt, q0, q1, q2, q3⟩ := (hin.below hB).2 a hal
 have hkk := zaT hnb
 have hnd := zaV.1 hnb
 have hr : zab (d + 1) t (a : Int) = mk11 (t.getD a nd0) ((za1 t (a : Int)).map (zab d t)) := rfl
 rw [hr]
 rw [hn] at q0 q1 q2 q3 HPl hpl hkk hnd hkd ⊢
 obtain ⟨kd, nA, np, nf⟩ := n
 simp only at hkd
 unfold zbC at hnd
 simp only at q0 q1 q2 q3 hnd
 obtain ⟨⟨n0, n1, n2, n3⟩, hbg⟩ := zd6 w (.int .i64 kd) (.int .i64 nA) (.string ⟨np.toArray⟩) (.string ⟨nf.toArray⟩) 90
 obtain ⟨X, hX⟩ : ∃ X, w.alloc (.cells #[.int .i64 kd, .int .i64 nA, .string ⟨np.toArray⟩, .string ⟨nf.toArray⟩] 90) = X := ⟨_, rfl⟩
 obtain ⟨N, hN⟩ : ∃ N, w.heap.size = N := ⟨_, rfl⟩
 rw [hX] at n0 n1 n2 n3 hbg
 rw [hN] at n0 n1 n2 n3
 have hNX : N < X.heap.size := World.block_lt_of_cell? X ⟨N, 0, none⟩ n0
 have hBX : Below B.heap.size B X := hB.trans (hbg.mono hB.size)
 have HPt : Hid (_) := zaU (some ⟨bt, ot, none⟩) tc t a X (hin.below hBX) hsh (by omega) hal (by rw [hn]; exact hn ▸ hnb)
 rw [hn] at HPt
 have HPe : Hid (zad t (za7 (kd, nA, np, nf)) ((a : Int) + 1) = za1 t (a : Int)) := by
  exact (by unfold za1; rw [Int.toNat_natCast, hn] : zad t (za7 (kd, nA, np, nf)) ((a : Int) + 1) = za1 t (a : Int))
 rw [HPe.out] at HPt
 obtain ⟨k, hk⟩ : ∃ k, za7 (kd, nA, np, nf) = k := ⟨_, rfl⟩
 have HK : Hid (za7 (kd, nA, np, nf) = k) := hk
 rw [hk] at HPt HPl hpl hkk
 have HIh : Hid (∀ Y i, i < k → Below X.heap.size X Y → Calls Tryz.prog 39 #[.slice (some ⟨bt, ot, none⟩) t.length tc, .int .i64 ((za1 t (a : Int)).getD i 0)] Y fun e w' => ∃ v, e = .returned v ∧ w'.ownsRow Y.heap.size 90 4 v (((za1 t (a : Int)).map (zab d t)).getD i []).length (za0 (((za1 t (a : Int)).map (zab d t)).getD i [])) ∧ Below Y.heap.size Y w') := fun Y i hi hy => by
  obtain ⟨q, e, hq, hqe⟩ := HPl.out i hi
  have e2 : ((za1 t (a : Int)).map (zab d t)).getD i [] = zab d t (q : Int) := by
   rw [← e]
   simp [List.getD, show i < (za1 t (a : Int)).length by omega]
  rw [e, e2]
  exact ih Y q (hBX.trans (hy.mono hBX.size)) hqe (by omega)
 have HLn : Hid (∀ i, i < k → 0 < (((za1 t (a : Int)).map (zab d t)).getD i []).length ∧ (((za1 t (a : Int)).map (zab d t)).getD i []).length ≤ 60 ∧ zb5 (((za1 t (a : Int)).map (zab d t)).getD i [])) := fun i hi => by
  obtain ⟨q, e, hq, hqe⟩ := HPl.out i hi
  have e2 : ((za1 t (a : Int)).map (zab d t)).getD i [] = zab d t (q : Int) := by
   rw [← e]
   simp [List.getD, show i < (za1 t (a : Int)).length by omega]
  rw [e2]
  have h := zdc (d := d) hqe (by omega)
  exact ⟨h.1, by omega, h.2.2⟩
 obtain ⟨rs, hrs⟩ : ∃ rs, (za1 t (a : Int)).map (zab d t) = rs := ⟨_, rfl⟩
 have HRl : Hid (rs.length = k) := by exact (by rw [← hrs, List.length_map, hpl] : rs.length = k)
 rw [hrs] at HIh HLn ⊢
 have HBX : Hid (Below w.heap.size w X) := hbg
 generalize za1 t (a : Int) = pts at HPt HIh hpl
 have HN : Hid (∀ Y, Below X.heap.size X Y → Y.cell? ⟨N, 0, none⟩ = some (.int .i64 kd) ∧ Y.cell? ⟨N, 1, none⟩ = some (.int .i64 nA) ∧ Y.cell? ⟨N, 2, none⟩ = some (.string ⟨np.toArray⟩) ∧ Y.cell? ⟨N, 3, none⟩ = some (.string ⟨nf.toArray⟩)) := fun Y hy => ⟨(hy.cell (p := ⟨N, 0, none⟩) hNX).trans n0, (hy.cell (p := ⟨N, 1, none⟩) hNX).trans n1, (hy.cell (p := ⟨N, 2, none⟩) hNX).trans n2, (hy.cell (p := ⟨N, 3, none⟩) hNX).trans n3⟩
 have hal2 : (a : Int) < (t.length : Int) := by omega
 have hk3 : k ≤ 3 := hkk.2
 clear ih hmem hnb HPl HPe hr hn hkk hbg hBX hrs hal n0 n1 n2 n3 hbt hB hp hk
 go_enter Tryz.func39, Tryz.ntmps39
 go_wp2_with fail
 refine Calls.mono HPt.out ?_
 rintro e V ⟨v, rfl, ho, hb2⟩
 obtain rfl : pts.length = k := hpl
 obtain ⟨pa, pc, rfl, hpV⟩ := zfZ ho hNX
 obtain ⟨m0, m1, m2, m3⟩ := HN.out V hb2
 have HAs : Hid (∀ Y, Below V.heap.size V Y → As Y N pa pts) := fun Y hy => hpV.below hy
 have HXV : Hid (Below X.heap.size X V) := hb2
 have hbA : Below V.heap.size V (V.alloc (.cells #[] 46)) := (Below.refl _ _).alloc (Nat.le_refl _) _
 have hP0 : (V.alloc (.cells #[] 46)).ownsRow V.heap.size 46 1 (.slice (some ⟨V.heap.size, 0, none⟩) 0 0) 0 [] := World.ownsRow_lit (base := V.heap.size) (e := 46) (size := 1) V #[] 0 (Nat.le_refl _) (by decide) rfl
 have hNV : N < V.heap.size := World.block_lt_of_cell? V ⟨N, 0, none⟩ m0
 have u0 := (hbA.cell (p := ⟨N, 0, none⟩) hNV).trans m0
 have u1 := (hbA.cell (p := ⟨N, 1, none⟩) hNV).trans m1
 have u2 := (hbA.cell (p := ⟨N, 2, none⟩) hNV).trans m2
 have u3 := (hbA.cell (p := ⟨N, 3, none⟩) hNV).trans m3
 obtain ⟨V1, hV1⟩ : ∃ V1, V.alloc (.cells #[] 46) = V1 := ⟨_, rfl⟩
 rw [hV1] at hbA hP0 u0 u1 u2 u3
 have hA0 : (V1.alloc (.cells #[.int .i64 kd, .int .i64 nA, .string ⟨np.toArray⟩, .string ⟨nf.toArray⟩] 90)).ownsRow V.heap.size 90 4 (.slice (some ⟨V1.heap.size, 0, none⟩) 1 1) 1 (za0 [(kd, nA, np, nf)]) := World.ownsRow_lit (base := V.heap.size) (e := 90) (size := 4) V1 #[.int .i64 kd, .int .i64 nA, .string ⟨np.toArray⟩, .string ⟨nf.toArray⟩] 1 hbA.size (by decide) rfl
 have hbB : Below V1.heap.size V1 (V1.alloc (.cells #[.int .i64 kd, .int .i64 nA, .string ⟨np.toArray⟩, .string ⟨nf.toArray⟩] 90)) := (Below.refl _ _).alloc (Nat.le_refl _) _
 obtain ⟨V2, hV2⟩ : ∃ V2, V1.alloc (.cells #[.int .i64 kd, .int .i64 nA, .string ⟨np.toArray⟩, .string ⟨nf.toArray⟩] 90) = V2 := ⟨_, rfl⟩
 rw [hV2] at hA0 hbB
 obtain ⟨B1, hB1⟩ : ∃ B1, V.heap.size = B1 := ⟨_, rfl⟩
 obtain ⟨M1, hM1⟩ : ∃ M1, V1.heap.size = M1 := ⟨_, rfl⟩
 have HP2 : Hid (V2.ownsRow B1 46 1 (.slice (some ⟨B1, 0, none⟩) 0 0) 0 [] ∧ ([] : List Value).length = 0) := by
  exact (by rw [← hB1]; exact ⟨za2 hP0 hbB, rfl⟩ : V2.ownsRow B1 46 1 (.slice (some ⟨B1, 0, none⟩) 0 0) 0 [] ∧ ([] : List Value).length = 0)
 have HA2 : Hid (V2.ownsRow B1 90 4 (.slice (some ⟨M1, 0, none⟩) 1 1) 1 (za0 ((kd, nA, np, nf) :: (rs.take 0).flatten)) ∧ 1 = ((kd, nA, np, nf) :: (rs.take 0).flatten).length) := by
  exact (by rw [← hB1, ← hM1]; exact ⟨hA0, rfl⟩ : V2.ownsRow B1 90 4 (.slice (some ⟨M1, 0, none⟩) 1 1) 1 (za0 ((kd, nA, np, nf) :: (rs.take 0).flatten)) ∧ 1 = ((kd, nA, np, nf) :: (rs.take 0).flatten).length)
 have HB2 : Hid (Below B1 V V2) := by
  exact (by rw [← hB1]; exact hbA.trans (hbB.mono hbA.size) : Below B1 V V2)
 clear hbA hP0 hA0 hbB hpV ho m0 m1 m2 m3 hb2 HPt
 go_wp2
 go_loopw [7, 8, 9] (fun pv0 av0 iv wx => ∃ (i m : Nat) (pv av : Value) (vs : List Value), pv = pv0 ∧ av = av0 ∧ iv = .int .i64 (i : Int) ∧ i ≤ pts.length ∧ m ≤ 1 + i * 60 ∧ Hid (wx.ownsRow B1 46 1 pv i vs ∧ vs.length = i) ∧ Hid (wx.ownsRow B1 90 4 av m (za0 ((kd, nA, np, nf) :: (rs.take i).flatten)) ∧ m = ((kd, nA, np, nf) :: (rs.take i).flatten).length) ∧ Hid (∀ j, j < i → wx.ownsRow B1 90 4 (vs.getD j undef) (rs.getD j []).length (za0 (rs.getD j [])) ∧ ((vs.getD j undef).ownBlock = none ∨ (vs.getD j undef).ownBlock ≠ av.ownBlock)) ∧ Hid (Below B1 V wx)) (fun _ _ iv _ => pts.length - (intOf iv).toNat)
 case atStart => exact ⟨0, 1, _, _, [], rfl, rfl, rfl, Nat.zero_le _, by omega, HP2, HA2, (fun j hj => absurd hj (Nat.not_lt_zero _)), HB2⟩
 case round =>
  obtain ⟨i, m, pv, av, vs, rfl, rfl, rfl, hi, hm, HP, HA, HE, HBw⟩ := hrel
  clear HP2 HA2 HB2 u0 u1 u2 u3
  have hbw : Below V.heap.size V wr := by rw [hB1]; exact HBw.out
  by_cases hlt : (i : Int) < (pts.length : Int)
  ·
   have hi2 : i < pts.length := by omega
   obtain ⟨bp, op, rfl, _, _, p0⟩ := HAs.out wr hbw i hi2
   have HC : Hid (_) := HIh.out wr i hi2 (HXV.out.trans (hbw.mono HXV.out.size))
   obtain ⟨hl0, hl60, _⟩ := HLn.out i hi2
   obtain ⟨x, hx⟩ : ∃ x, rs.getD i [] = x := ⟨_, rfl⟩
   have HXe : Hid (rs.getD i [] = x) := hx
   rw [hx] at HC hl0 hl60
   have hB1w : B1 ≤ wr.heap.size := by rw [← hB1]; exact hbw.size
   generalize pts.getD i 0 = P0 at p0 HC
   clear hx
   go_wp2_with fail
   refine Calls.mono HC.out ?_
   rintro e Y0 ⟨xv, rfl, hxo, hb0⟩
   obtain ⟨gx, cx, rfl⟩ := zag hxo (by omega)
   -- the parts
   have hp0 := za2 HP.out.1 hb0
   have ha0 := za2 HA.out.1 hb0
   obtain ⟨p', Y1, hr1, hp1, hg1⟩ := zbO (some ⟨gx, 0, none⟩) x.length cx hp0 (Nat.le_trans hB1w hb0.size) (by omega)
   have ha1 := ha0.kept hg1 (zah ha0 hp0 (by decide))
   have hx1 := hxo.kept hg1 (zah hxo hp0 (by decide))
   have hs1 := hg1.size
   have hs0 := hb0.size
   obtain ⟨a', Y2, hr2, ha2, hg2, hat⟩ := zbA ha1 hx1 (by omega) (by omega)
   have hav : ∀ k, av.ownBlock = some k → k < wr.heap.size := fun k e => (HA.out.1.lt k e).2
   have hxap : (Value.slice (some ⟨gx, 0, none⟩) x.length cx).ownBlock = none ∨ (Value.slice (some ⟨gx, 0, none⟩) x.length cx).ownBlock ≠ av.ownBlock := Or.inr (fun e => by
    have h1 : some gx = av.ownBlock := e
    have h2 := hav gx h1.symm
    have h3 := (hxo.lt gx rfl).1
    omega)
   have hnew : ∀ (u : Value) (nn : Nat) (ys : List Value) (b : Nat), Y1.ownsRow b 90 4 u nn ys → (u.ownBlock = none ∨ u.ownBlock ≠ av.ownBlock) → (u.ownBlock = none ∨ u.ownBlock ≠ a'.ownBlock) := fun u nn ys b hu h => by
    rcases hq : u.ownBlock with _ | q
    ·
     exact Or.inl rfl
    ·
     right
     intro e
     rcases hat q e.symm with h1 | h1
     ·
      rcases h with h | h
      ·
       rw [hq] at h; cases h
      ·
       exact h (by rw [hq, h1])
     ·
      have := (hu.lt q hq).2
      omega
   have HP3 : Hid (Y2.ownsRow B1 46 1 p' (i + 1) (vs ++ [.slice (some ⟨gx, 0, none⟩) x.length cx]) ∧ (vs ++ [Value.slice (some ⟨gx, 0, none⟩) x.length cx]).length = i + 1) := ⟨hp1.kept hg2 (zah hp1 ha1 (by decide)), by rw [List.length_append, HP.out.2]; rfl⟩
   have htk : (rs.take (i + 1)).flatten = (rs.take i).flatten ++ x := by
    have hil : i < rs.length := by rw [HRl.out]; exact hi2
    have e := HXe.out
    rw [List.take_succ_eq_append_getElem hil, List.flatten_append]
    congr 1
    rw [← e]
    simp [List.getD, hil]
   have HA3 : Hid (Y2.ownsRow B1 90 4 a' (m + x.length) (za0 ((kd, nA, np, nf) :: (rs.take (i + 1)).flatten)) ∧ m + x.length = ((kd, nA, np, nf) :: (rs.take (i + 1)).flatten).length) := by
    refine ⟨?_, ?_⟩
    ·
     rw [htk]; exact ha2
    ·
     rw [htk, List.length_cons, List.length_append]
     have := HA.out.2
     rw [List.length_cons] at this
     omega
   have HE3 : Hid (∀ j, j < i + 1 → Y2.ownsRow B1 90 4 ((vs ++ [Value.slice (some ⟨gx, 0, none⟩) x.length cx]).getD j undef) (rs.getD j []).length (za0 (rs.getD j [])) ∧ (((vs ++ [Value.slice (some ⟨gx, 0, none⟩) x.length cx]).getD j undef).ownBlock = none ∨ ((vs ++ [Value.slice (some ⟨gx, 0, none⟩) x.length cx]).getD j undef).ownBlock ≠ a'.ownBlock)) := fun j hj => by
    have hvl := HP.out.2
    rcases Nat.lt_or_ge j i with h | h
    ·
     have e3 : (vs ++ [Value.slice (some ⟨gx, 0, none⟩) x.length cx]).getD j undef = vs.getD j undef := by
      simp only [List.getD]
      rw [List.getElem?_append_left (by omega)]
     rw [e3]
     obtain ⟨h1, h2⟩ := HE.out j h
     have h3 := za2 h1 hb0
     have h4 := h3.kept hg1 (zah h3 hp0 (by decide))
     exact ⟨h4.kept hg2 h2, hnew _ _ _ _ h4 h2⟩
    ·
     obtain rfl : j = i := by omega
     have e3 : (vs ++ [Value.slice (some ⟨gx, 0, none⟩) x.length cx]).getD j undef = .slice (some ⟨gx, 0, none⟩) x.length cx := by
      simp only [List.getD]
      rw [List.getElem?_append_right (by omega), hvl]
      simp
     rw [e3, HXe.out]
     exact ⟨zaj (hx1.kept hg2 hxap) (by omega), hnew _ _ _ _ hx1 hxap⟩
   have HB3 : Hid (Below B1 V Y2) := ((HBw.out.trans (hb0.mono hB1w)).grown hg1 (by omega) (fun k e => (hp0.lt k e).1)).grown hg2 (by omega) (fun k e => (HA.out.1.lt k e).1)
   generalize hxl : x.length = xl at *
   clear hp0 ha0 ha1 hx1 hp1 hg1 ha2 hg2 hat hav hxap hnew htk hxo hb0 HC HP HA HE hs0 hs1 p0
   go_wp2_with (first | (at_builtin; refine wpList_append_run rfl (.tmp 37) (.tmp 39) 93 rfl _ _ _ rfl rfl hr1 ?_; clear hr1) | (at_builtin; refine wpList_append_run rfl (.tmp 41) (.tmp 42) 46 rfl _ _ _ rfl rfl hr2 ?_; clear hr2))
   go_roundw
   case rel => exact ⟨i + 1, m + xl, p', a', _, rfl, rfl, by go_num, by omega, by omega, HP3, HA3, HE3, HB3⟩
   case measure => simp [intOf]; omega
  ·
   have HIe : Hid (i = pts.length) := by exact (by omega : i = pts.length)
   have htk : rs.take i = rs := List.take_of_length_le (by rw [HRl.out, HIe.out]; exact Nat.le_refl _)
   have har := HA.out
   rw [htk] at har
   have HAl : Hid (wr.ownsRow B1 90 4 av ((kd, nA, np, nf) :: rs.flatten).length (za0 ((kd, nA, np, nf) :: rs.flatten))) := by
    exact (by rw [← har.2]; exact har.1 : wr.ownsRow B1 90 4 av ((kd, nA, np, nf) :: rs.flatten).length (za0 ((kd, nA, np, nf) :: rs.flatten)))
   have HVX : Hid (Below w.heap.size w V) := HBX.out.trans (HXV.out.mono HBX.out.size)
   have HFin : Hid (∀ (u : Value) (L : List Nd) (Y : World), Y.ownsRow B1 90 4 u L.length (za0 L) → Below V.heap.size V Y → Y.ownsRow N 90 4 u L.length (za0 L) ∧ Below N w Y) := fun u L Y h1 h2 => by
    rw [← hN]
    exact ⟨zaj h1 (by rw [← hB1]; exact HVX.out.size), HVX.out.trans (h2.mono HVX.out.size)⟩
   obtain ⟨nn0, nn1, nn2, nn3⟩ := HN.out wr (HXV.out.trans (hbw.mono HXV.out.size))
   have HBv : Hid (Below V.heap.size V wr) := hbw
   have hmk : mk11 (kd, nA, np, nf) rs = (kd, nA, np, nf) :: rs.flatten := by
    unfold mk11
    rw [if_neg hkd.1, if_neg hkd.2]
   have HR : Hid (wr.ownsRow N 90 4 av (mk11 (kd, nA, np, nf) rs).length (za0 (mk11 (kd, nA, np, nf) rs)) ∧ Below N w wr) := by
    rw [hmk]
    exact HFin.out av _ wr HAl.out HBv.out
   have k3 : (kd == 3) = false := beq_eq_false_iff_ne.2 (by omega)
   have k4 : (kd == 4) = false := beq_eq_false_iff_ne.2 (by omega)
   have k5 : (kd == 5) = false := beq_eq_false_iff_ne.2 (by omega)
   have k6 : (kd == 6) = false := beq_eq_false_iff_ne.2 (by omega)
   have k7 : (kd == 7) = false := beq_eq_false_iff_ne.2 hkd.2
   clear hmk HA HP HE HFin hbw har htk hnd
   go_wp2
   go_ret
   first
    | exact ⟨_, rfl, HR.out.1, HR.out.2⟩
    | exact HR.out
theorem zij (B : World) (ta : Option Addr) (tc : Nat) (t : List Nd) (hin : za4 B ta t.length t) (hsh : zam t) (hgood : zb5 t) (hlen : t.length ≤ 60) : ∀ d, zib B ta tc t d
 | 0 => fun w a hB hp hd => by
  obtain ⟨hal, _⟩ := zac hp
  omega
 | d + 1 => fun w a hB hp hd => by
  have ih := zij B ta tc t hin hsh hgood hlen d
  by_cases h36 : 3 ≤ (t.getD a nd0).1 ∧ (t.getD a nd0).1 ≤ 6
  ·
   rcases (show (t.getD a nd0).1 = 3 ∨ (t.getD a nd0).1 = 4 ∨ (t.getD a nd0).1 = 5 ∨ (t.getD a nd0).1 = 6 by omega) with e | e | e | e
   ·
    exact zkl B ta tc t hin hsh hgood hlen d ih w a hB hp hd e
   ·
    exact zkk B ta tc t hin hsh hgood hlen d ih w a hB hp hd e
   ·
    exact zkj B ta tc t hin hsh hgood hlen d ih w a hB hp hd e
   ·
    exact zki B ta tc t hin hsh hgood hlen d ih w a hB hp hd e
  ·
   by_cases h7 : (t.getD a nd0).1 = 7
   ·
    exact zkh B ta tc t hin hsh hgood hlen d ih w a hB hp hd h7
   ·
    exact zkg B ta tc t hin hsh hgood hlen d ih w a hB hp hd ⟨h36, h7⟩

theorem one_num {s : List Nd} (h : One s) (h1 : (s.getD 0 nd0).1 = 1) : ∃ v, s = [((1, v, [], []) : Nd)] ∧ Word10 v := by
 cases h with
 | mk n ks hn hk ho =>
  have h1' : n.1 = 1 := h1
  have hnd := zaV.1 hn
  unfold zbC at hnd
  have hk0 : za7 n = 0 := by unfold za7; rw [if_neg (by omega), if_neg (by omega), if_neg (by omega)]
  have hks : ks = [] := List.eq_nil_of_length_eq_zero (by omega)
  subst hks
  obtain ⟨k, v, p, q⟩ := n
  simp only at h1' hnd
  rcases hnd with h | h | h | h
  ·
   obtain ⟨rfl, ⟨h2, h3⟩, rfl, rfl⟩ := h
   exact ⟨v, rfl, h2, h3⟩
  ·
   omega
  ·
   omega
  ·
   omega
def pure1 (t : List Nd) (i : Nat) : Prop := (t.getD i nd0).1 ≠ 8 ∧ ((t.getD i nd0).1 = 6 → (t.getD ((za1 t (i : Int)).getD 1 0).toNat nd0).1 = 1 ∧ (t.getD ((za1 t (i : Int)).getD 1 0).toNat nd0).2.1 ≠ 0)
instance (t : List Nd) (i : Nat) : Decidable (pure1 t i) := by unfold pure1; infer_instance
theorem zfX : ∀ (l : List Nd) (o : Nat), zbj l o = some l.length → ∀ j, j < l.length → ∃ d, zbj (l.drop j) 1 = some d
 | [], _, _, j, hj => by simp at hj
 | n :: r, 0, h, _, _ => by rw [zbB] at h; simp at h
 | n :: r, o + 1, h, 0, _ => by
  rw [show o + 1 = 1 + o by omega, zdA] at h
  rw [List.drop_zero]
  cases he : zbj (n :: r) 1 with
  | none => rw [he] at h; cases h
  | some d => exact ⟨d, rfl⟩
 | n :: r, o + 1, h, j + 1, hj => by
  rw [zbd] at h
  split at h
  ·
   cases he : zbj r (o + za7 n) with
   | none => rw [he] at h; cases h
   | some e =>
    rw [he] at h
    simp only [Option.map_some, Option.some.injEq, List.length_cons] at h
    have e1 : e = r.length := by omega
    rw [e1] at he
    rw [List.drop_succ_cons]
    exact zfX r _ he j (by simpa using hj)
  ·
   cases h
theorem zbX {t : List Nd} (h : One t) {i : Nat} (hi : i < t.length) : 0 ≤ endV t (i : Int) := by
 have h1 := h.end_ []
 rw [List.append_nil] at h1
 obtain ⟨d, hd⟩ := zfX t 1 h1 i hi
 rw [zcp, zeZ hd hi]
 omega

theorem zlM (ns : List Nd) : (zb2 ns).length ≤ 60 := by
 rcases h : zaI ns with _ | _
 ·
  unfold zb2; rw [h]; simp
 ·
  exact Nat.le_trans (zei h).2.1 (zaM.1 h).1
inductive Sh where
 | num (a : Int)
 | arg (a : Int)
 | pair (k : Int)
 | cond
 | call (p f : List UInt8) (a : Int)
 | no
def shOf (n : Nd) : Sh :=
 if n.1 = 1 then .num n.2.1
 else if n.1 = 2 then .arg n.2.1
 else if 3 ≤ n.1 ∧ n.1 ≤ 6 then .pair n.1
 else if n.1 = 7 then .cond
 else if n.1 = 8 then .call n.2.2.1 n.2.2.2 n.2.1
 else .no
def zaL : Sh → Nd
 | .num a => (1, a, [], [])
 | .arg a => (2, a, [], [])
 | .pair k => (k, 0, [], [])
 | .cond => (7, 0, [], [])
 | .call p f a => (8, a, p, f)
 | .no => (0, 0, [], [])
def shOk : Sh → Bool
 | .num a => inB a (-2147483648) 2147483647
 | .arg a => inB a 0 2
 | .pair _ => true
 | .cond => true
 | .call p f a => inB a 0 3 && (zak p && zak f)
 | .no => false
def zil : Sh → Int
 | .num _ => 0
 | .arg _ => 0
 | .pair _ => 2
 | .cond => 3
 | .call _ _ a => a
 | .no => -1
theorem zcZ (n : Nd) : (n.1 = 1 ∧ shOf n = .num n.2.1) ∨ (n.1 = 2 ∧ shOf n = .arg n.2.1) ∨ ((3 ≤ n.1 ∧ n.1 ≤ 6) ∧ shOf n = .pair n.1) ∨ (n.1 = 7 ∧ shOf n = .cond) ∨ (n.1 = 8 ∧ shOf n = .call n.2.2.1 n.2.2.2 n.2.1) ∨ ((n.1 < 1 ∨ 8 < n.1) ∧ shOf n = .no) := by
 by_cases h1 : n.1 = 1
 ·
  exact Or.inl ⟨h1, if_pos h1⟩
 by_cases h2 : n.1 = 2
 ·
  exact Or.inr (Or.inl ⟨h2, by unfold shOf; rw [if_neg h1, if_pos h2]⟩)
 by_cases h3 : 3 ≤ n.1 ∧ n.1 ≤ 6
 ·
  exact Or.inr (Or.inr (Or.inl ⟨h3, by unfold shOf; rw [if_neg h1, if_neg h2, if_pos h3]⟩))
 by_cases h7 : n.1 = 7
 ·
  exact Or.inr (Or.inr (Or.inr (Or.inl ⟨h7, by unfold shOf; rw [if_neg h1, if_neg h2, if_neg h3, if_pos h7]⟩)))
 by_cases h8 : n.1 = 8
 ·
  exact Or.inr (Or.inr (Or.inr (Or.inr (Or.inl ⟨h8, by unfold shOf; rw [if_neg h1, if_neg h2, if_neg h3, if_neg h7, if_pos h8]⟩))))
 ·
  exact Or.inr (Or.inr (Or.inr (Or.inr (Or.inr ⟨by omega, by unfold shOf; rw [if_neg h1, if_neg h2, if_neg h3, if_neg h7, if_neg h8]⟩))))
theorem zcH (n : Nd) : zaD n = (shOk (shOf n) && decide (zaL (shOf n) = n)) := by
 rw [Bool.eq_iff_iff, zaV, Bool.and_eq_true, decide_eq_true_iff]
 obtain ⟨k, a, p, f⟩ := n
 rcases zcZ (k, a, p, f) with ⟨h, e⟩ | ⟨h, e⟩ | ⟨h, e⟩ | ⟨h, e⟩ | ⟨h, e⟩ | ⟨h, e⟩
 ·
  rw [e]; simp only at h; subst h
  unfold zbC shOk zaL inB
  simp [@eq_comm (List UInt8) [] p, @eq_comm (List UInt8) [] f]
 ·
  rw [e]; simp only at h; subst h
  unfold zbC shOk zaL inB
  simp [@eq_comm (List UInt8) [] p, @eq_comm (List UInt8) [] f]
 ·
  rw [e]; simp only at h
  unfold zbC shOk zaL
  simp only [Prod.mk.injEq, true_and]
  constructor
  ·
   rintro (⟨h1, _⟩ | ⟨h1, _⟩ | ⟨_, h2, h3, h4⟩ | ⟨h1, _⟩)
   ·
    omega
   ·
    omega
   ·
    exact ⟨h2.symm, h3.symm, h4.symm⟩
   ·
    omega
  ·
   rintro ⟨h2, h3, h4⟩
   exact Or.inr (Or.inr (Or.inl ⟨by omega, h2.symm, h3.symm, h4.symm⟩))
 ·
  rw [e]; simp only at h; subst h
  unfold zbC shOk zaL
  simp [@eq_comm (List UInt8) [] p, @eq_comm (List UInt8) [] f, @eq_comm Int 0 a]
 ·
  rw [e]; simp only at h; subst h
  unfold zbC shOk zaL inB
  simp
 ·
  rw [e]; simp only at h
  unfold zbC shOk zaL
  simp
  omega
theorem kids_sh {n : Nd} (h : zaD n = true) : zil (shOf n) = zdO n := by
 unfold zdO
 rcases zcZ n with ⟨h, e⟩ | ⟨h, e⟩ | ⟨h, e⟩ | ⟨h, e⟩ | ⟨h, e⟩ | ⟨h1, e⟩
 ·
  rw [e, if_neg (by omega), if_neg (by omega), if_neg (by omega)]; rfl
 ·
  rw [e, if_neg (by omega), if_neg (by omega), if_neg (by omega)]; rfl
 ·
  rw [e, if_pos h]; rfl
 ·
  rw [e, if_neg (by omega), if_pos h]; rfl
 ·
  rw [e, if_neg (by omega), if_neg (by omega), if_pos h]; rfl
 ·
  have := zaV.1 h
  unfold zbC at this
  omega
def cutA (b : UInt8) (l : List UInt8) : List UInt8 := l.takeWhile (fun c => c != b)
def cutB (b : UInt8) (l : List UInt8) : List UInt8 := (l.dropWhile (fun c => c != b)).tail
theorem cut_one (b : UInt8) (x y : List UInt8) (h : ∀ c ∈ x, c ≠ b) : cutA b (x ++ b :: y) = x ∧ cutB b (x ++ b :: y) = y := by
 unfold cutA cutB
 induction x with
 | nil => simp
 | cons c r ih =>
  have hc : (c != b) = true := bne_iff_ne.2 (h c (by simp))
  have := ih (fun d hd => h d (by simp [hd]))
  rw [List.cons_append, List.takeWhile_cons, List.dropWhile_cons, if_pos hc, if_pos hc]
  exact ⟨by rw [this.1], this.2⟩
theorem cutA_len (b : UInt8) (l : List UInt8) : (cutA b l).length ≤ l.length := (List.takeWhile_sublist _).length_le
theorem cutB_len (b : UInt8) (l : List UInt8) : (cutB b l).length ≤ l.length := by
 have := (List.dropWhile_sublist (l := l) (fun c => c != b)).length_le
 unfold cutB
 rw [List.length_tail]
 omega
theorem cut_at (b : UInt8) (l : List UInt8) : (Lib.indexByte l b = -1 ∧ cutA b l = l ∧ cutB b l = []) ∨ ∃ k : Nat, Lib.indexByte l b = (k : Int) ∧ k < l.length ∧ cutA b l = l.take k ∧ cutB b l = l.drop (k + 1) := by
 induction l with
 | nil => exact Or.inl ⟨rfl, rfl, rfl⟩
 | cons c r ih =>
  by_cases hc : c = b
  ·
   subst hc
   refine Or.inr ⟨0, ?_, by simp, ?_, ?_⟩
   ·
    unfold Lib.indexByte; simp
   ·
    unfold cutA; simp
   ·
    unfold cutB; simp
  ·
   have hc2 : (c != b) = true := bne_iff_ne.2 hc
   have hc3 : (c == b) = false := beq_eq_false_iff_ne.2 hc
   have ea : cutA b (c :: r) = c :: cutA b r := by unfold cutA; rw [List.takeWhile_cons, if_pos hc2]
   have eb : cutB b (c :: r) = cutB b r := by unfold cutB; rw [List.dropWhile_cons, if_pos hc2]
   have ei : Lib.indexByte (c :: r) b = if Lib.indexByte r b == -1 then -1 else Lib.indexByte r b + 1 := by
    rw [Lib.indexByte, hc3]; rfl
   rw [ea, eb, ei]
   rcases ih with ⟨h1, h2, h3⟩ | ⟨k, h1, h2, h3, h4⟩
   ·
    exact Or.inl ⟨by rw [h1]; rfl, by rw [h2], h3⟩
   ·
    refine Or.inr ⟨k + 1, ?_, by simp; omega, by rw [h3]; rfl, by rw [h4]; rfl⟩
    rw [h1, if_neg (by rw [beq_iff_eq]; omega)]
    omega
set_option maxHeartbeats 400000 in
set_option maxRecDepth 100000 in
theorem zb8 (n : Int) (w : World) : Calls Tryz.prog 159 #[.int .i64 n] w fun e w' => e = .returned (.bool (inB n (-2147483648) 2147483647)) ∧ w' = w := by
 by_cases h1 : -2147483648 ≤ n
 ·
  by_cases h2 : n ≤ 2147483647
  ·
   have hB : Hid (inB n (-2147483648) 2147483647 = true) := zc7 _ _ _ h1 h2
   go_enter Tryz.func159, Tryz.ntmps159
   go_wp2
   go_ret
   exact ⟨by rw [hB.out]; rfl, rfl⟩
  ·
   have hB : Hid (inB n (-2147483648) 2147483647 = false) := zbL _ _ _ (Or.inr (by omega))
   go_enter Tryz.func159, Tryz.ntmps159
   go_wp2
   go_ret
   exact ⟨by rw [hB.out]; rfl, rfl⟩
 ·
  have hB : Hid (inB n (-2147483648) 2147483647 = false) := zbL _ _ _ (Or.inl (by omega))
  go_enter Tryz.func159, Tryz.ntmps159
  go_wp2
  go_ret
  exact ⟨by rw [hB.out]; rfl, rfl⟩
set_option maxHeartbeats 400000 in
set_option maxRecDepth 100000 in
theorem zc1 (n : Int) (w : World) : Calls Tryz.prog 160 #[.int .i64 n] w fun e w' => e = .returned (.int .i64 (zcg n)) ∧ w' = w := by
 go_enter Tryz.func160, Tryz.ntmps160
 go_wp2
 go_ret
 exact ⟨zkv (wrapWW n), rfl⟩
set_option maxHeartbeats 2000000 in
set_option maxRecDepth 100000 in
theorem zlE (kind a b : Int) (w : World) :
 Calls Tryz.prog 140 #[.int .i64 kind, .int .i64 a, .int .i64 b] w fun e w' => e = .returned (.tuple #[.int .i64 (zb3 kind a b), .bool (zbt kind a b)]) ∧ w' = w := by
 by_cases ha : -2147483648 ≤ a ∧ a ≤ 2147483647
 ·
  have da : inB a (-2147483648) 2147483647 = true := zc7 _ _ _ ha.1 ha.2
  by_cases hb : -2147483648 ≤ b ∧ b ≤ 2147483647
  ·
   have db : inB b (-2147483648) 2147483647 = true := zc7 _ _ _ hb.1 hb.2
   obtain ⟨h3, h4, h5, h6, h0⟩ := zm0 kind a b ⟨ha, hb⟩
   obtain ⟨hm1, hm2⟩ := mul_bd a b ha hb
   obtain ⟨ha1, ha2⟩ := ha
   obtain ⟨hb1, hb2⟩ := hb
   by_cases k4 : kind = 4
   ·
    have HO : Hid (zb3 kind a b = zcg (a + -b) ∧ zbt kind a b = true) := h4 k4
    clear h3 h4 h5 h6 h0
    subst k4
    go_enter Tryz.func140, Tryz.ntmps140
    go_wp2_with (first | (go_at_call 160; refine (zc1 _ _).mono ?_; rintro e w' ⟨rfl, rfl⟩) | (go_at_call 159; refine (zb8 _ _).mono ?_; rintro e w' ⟨rfl, rfl⟩))
    go_ret2
    exact ⟨by rw [HO.out.1, HO.out.2]; rfl, rfl⟩
   ·
    have d4 : (kind == 4) = false := beq_eq_false_iff_ne.2 k4
    by_cases k3 : kind = 3
    ·
     have HO : Hid (zb3 kind a b = zcg (a + b) ∧ zbt kind a b = true) := h3 k3
     clear h3 h4 h5 h6 h0 d4 k4
     subst k3
     go_enter Tryz.func140, Tryz.ntmps140
     go_wp2_with (first | (go_at_call 160; refine (zc1 _ _).mono ?_; rintro e w' ⟨rfl, rfl⟩) | (go_at_call 159; refine (zb8 _ _).mono ?_; rintro e w' ⟨rfl, rfl⟩))
     go_ret2
     exact ⟨by rw [HO.out.1, HO.out.2]; rfl, rfl⟩
    ·
     have d3 : (kind == 3) = false := beq_eq_false_iff_ne.2 k3
     by_cases k5 : kind = 5
     ·
      have HO : Hid (zb3 kind a b = zcg (a * b) ∧ zbt kind a b = true) := h5 k5
      clear h3 h4 h5 h6 h0 d3 k3 d4 k4
      subst k5
      go_enter Tryz.func140, Tryz.ntmps140
      go_wp2_with (first | (go_at_call 160; refine (zc1 _ _).mono ?_; rintro e w' ⟨rfl, rfl⟩) | (go_at_call 159; refine (zb8 _ _).mono ?_; rintro e w' ⟨rfl, rfl⟩))
      go_ret2
      exact ⟨by rw [HO.out.1, HO.out.2]; rfl, rfl⟩
     ·
      have d5 : (kind == 5) = false := beq_eq_false_iff_ne.2 k5
      by_cases k6 : kind = 6
      ·
       by_cases kb : b = 0
       ·
        have HO : Hid (zb3 kind a b = 0 ∧ zbt kind a b = false) := h0 k3 k4 k5 (fun h => h.2 kb)
        clear h3 h4 h5 h6 h0 d3 k3 d4 k4 d5 k5
        subst k6 kb
        go_enter Tryz.func140, Tryz.ntmps140
        go_wp2_with (first | (go_at_call 160; refine (zc1 _ _).mono ?_; rintro e w' ⟨rfl, rfl⟩) | (go_at_call 159; refine (zb8 _ _).mono ?_; rintro e w' ⟨rfl, rfl⟩))
        go_ret2
        exact ⟨by rw [HO.out.1, HO.out.2]; rfl, rfl⟩
       ·
        have HO : Hid (zb3 kind a b = zcg (a.tdiv b) ∧ zbt kind a b = true) := h6 k6 kb
        have dz : (b == 0) = false := beq_eq_false_iff_ne.2 kb
        have dy : (b != 0) = true := bne_iff_ne.2 kb
        obtain ⟨hq1, hq2⟩ := zjW a b ⟨ha1, ha2⟩
        clear h3 h4 h5 h6 h0 d3 k3 d4 k4 d5 k5
        subst k6
        go_enter Tryz.func140, Tryz.ntmps140
        go_wp2_with (first | (go_at_call 160; refine (zc1 _ _).mono ?_; rintro e w' ⟨rfl, rfl⟩) | (go_at_call 159; refine (zb8 _ _).mono ?_; rintro e w' ⟨rfl, rfl⟩))
        go_ret2
        exact ⟨by rw [HO.out.1, HO.out.2]; rfl, rfl⟩
      ·
       have HO : Hid (zb3 kind a b = 0 ∧ zbt kind a b = false) := h0 k3 k4 k5 (fun h => k6 h.1)
       have d6 : (kind == 6) = false := beq_eq_false_iff_ne.2 k6
       clear h3 h4 h5 h6 h0 k3 k4 k5 k6
       go_enter Tryz.func140, Tryz.ntmps140
       go_wp2_with (first | (go_at_call 160; refine (zc1 _ _).mono ?_; rintro e w' ⟨rfl, rfl⟩) | (go_at_call 159; refine (zb8 _ _).mono ?_; rintro e w' ⟨rfl, rfl⟩))
       go_ret2
       exact ⟨by rw [HO.out.1, HO.out.2]; rfl, rfl⟩
  ·
   have db : inB b (-2147483648) 2147483647 = false := zbL _ _ _ (by omega)
   have HO : Hid (zb3 kind a b = 0 ∧ zbt kind a b = false) := zlZ kind a b (fun h => hb h.2)
   clear ha hb
   go_enter Tryz.func140, Tryz.ntmps140
   go_wp2_with (first | (go_at_call 160; refine (zc1 _ _).mono ?_; rintro e w' ⟨rfl, rfl⟩) | (go_at_call 159; refine (zb8 _ _).mono ?_; rintro e w' ⟨rfl, rfl⟩))
   go_ret2
   exact ⟨by rw [HO.out.1, HO.out.2]; rfl, rfl⟩
 ·
  have da : inB a (-2147483648) 2147483647 = false := zbL _ _ _ (by omega)
  have HO : Hid (zb3 kind a b = 0 ∧ zbt kind a b = false) := zlZ kind a b (fun h => ha h.1)
  clear ha
  go_enter Tryz.func140, Tryz.ntmps140
  go_wp2_with (first | (go_at_call 160; refine (zc1 _ _).mono ?_; rintro e w' ⟨rfl, rfl⟩) | (go_at_call 159; refine (zb8 _ _).mono ?_; rintro e w' ⟨rfl, rfl⟩))
  go_ret2
  exact ⟨by rw [HO.out.1, HO.out.2]; rfl, rfl⟩

theorem infoByte : (Tryz.prog.info? 5).map (fun i => (i.zero, i.size, i.bytes)) = some (some (.int .u8 0), 1, 1) := by kernel_rfl
set_option maxHeartbeats 4000000 in
set_option maxRecDepth 100000 in
theorem zl5 (s : ByteArray) (w : World) (hlim : s.size ≤ 281474976710656) :
 Calls Tryz.prog 73 #[.string s] w fun e w' => e = .returned (.string s) ∧ Below w.heap.size w w' := by
 by_cases h0 : s.size = 0
 ·
  have hs : s = ⟨#[]⟩ := by
   apply ByteArray.ext
   exact Array.eq_empty_of_size_eq_zero h0
  subst hs
  go_enter Tryz.func73, Tryz.ntmps73
  go_wp2
  go_ret
  exact ⟨rfl, Below.refl _ _⟩
 ·
  obtain ⟨i0, hi, hz0, hz1, hz2⟩ := info_parts infoByte
  have hinfo : (Tryz.prog.info? 5).map (·.size) = some 1 := by rw [hi]; simp [hz1]
  have hco : Tryz.prog.cellsOf 5 = 1 := by simp [Program.cellsOf, hi, hz1]
  obtain ⟨M, hM⟩ : ∃ M, M = madeCells (Value.int .u8 0).cells (((s.size : Nat) : Int).toNat * i0.size) := ⟨_, rfl⟩
  have hMs : M.size = s.size := by rw [hM, size_madeCells, hz1]; simp
  have hmk : ∀ W : World, (Instr.makeSlice 119 (.int .i64 (s.size : Int)) (.int .i64 (s.size : Int))).run Tryz.prog W = .ok (.slice (some ⟨W.heap.size, 0, none⟩) s.size s.size) (W.alloc (.cells M 5)) := fun W => by
   have h := run_make (P := Tryz.prog) W 119 5 i0 (.int .u8 0) Tryz.underlying119 hi hz0 .i64 .i64 (s.size : Int) (s.size : Int) (by omega) (by omega) (by rw [hz2]; omega) (by omega)
   rw [← hM] at h
   simpa using h
  clear hM
  have hcp := Lib.run_copy_row_string (P := Tryz.prog) (w.alloc (.cells M 5)) 119 9 3 5 w.heap.size 0 s.size s.size s M 5 Tryz.underlying119 hinfo (heap_alloc_new w _) (Nat.le_refl _) (by omega)
  obtain ⟨Y, hY⟩ : ∃ Y, Y = (M.toList.take 0 ++ Lib.byteCells s.data.toList ++ M.toList.drop (0 + s.size)).toArray := ⟨_, rfl⟩
  rw [← hY] at hcp
  have hYl : Y.toList = Lib.byteCells s.data.toList := by
   rw [hY, List.toList_toArray, List.take_zero, List.nil_append, List.drop_of_length_le (by rw [Array.length_toList]; omega), List.append_nil]
  have hYs : Y.size = s.size := by rw [← Array.length_toList, hYl, Lib.byteCells_length, ← Lib.size_eq]
  have hgY : ((w.alloc (.cells M 5)).setRow w.heap.size Y).heap[w.heap.size]? = some (.cells Y 5 (0, 0)) := setRow_heap _ _ M _ 5 (0, 0) (heap_alloc_new w _)
  have hne : s.data.toList ≠ [] := fun e => h0 (by rw [Lib.size_eq, e]; rfl)
  have hUS := Lib.run_unsafeString_row (P := Tryz.prog) ((w.alloc (.cells M 5)).setRow w.heap.size Y) 127 3 9 5 Tryz.underlying127 hco w.heap.size Y.size (by unfold World.shape?; rw [hgY]) s.data.toList hne (by rw [← Lib.size_eq]; omega) (by rw [← Lib.size_eq]; omega)
   (fun j x hx => Lib.cells_of_row hgY Y.size j _ (by rw [List.take_of_length_le (by rw [Array.length_toList]; exact Nat.le_refl _), hYl]; simp [Lib.byteCells, hx]))
  rw [← Lib.size_eq] at hUS
  clear hY
  go_enter Tryz.func73, Tryz.ntmps73
  go_wp2
  go_ret
  have hb1 : Below w.heap.size w (w.alloc (.cells M 5)) := (Below.refl _ w).alloc (Nat.le_refl _) _
  have hb2 : Below w.heap.size (w.alloc (.cells M 5)) ((w.alloc (.cells M 5)).setRow w.heap.size Y) := ⟨rfl, rfl, rfl, by simp, fun k hk => setRow_other _ _ _ _ (by omega)⟩
  exact ⟨rfl, Lib.below_freeze (hb1.trans hb2) (p := ⟨w.heap.size, 0, none⟩) (Nat.le_refl _) _⟩
set_option maxHeartbeats 400000 in
set_option maxRecDepth 100000 in
theorem zbY (l : List UInt8) (w : World) (hl : l.length ≤ 1048576) :
 Calls Tryz.prog 43 #[.string ⟨l.toArray⟩] w fun e w' => e = .returned (.string ⟨l.toArray⟩) ∧ Below w.heap.size w w' := by
 go_enter Tryz.func43, Tryz.ntmps43
 go_wp2_with fail
 refine (zl5 ⟨l.toArray⟩ _ (by have : (⟨l.toArray⟩ : ByteArray).size = l.length := List.size_toArray; omega)).mono ?_
 rintro e w1 ⟨rfl, hb⟩
 go_wp2
 go_ret
 exact ⟨rfl, hb⟩
set_option maxHeartbeats 1000000 in
set_option maxRecDepth 100000 in
theorem zby (l : List UInt8) (w : World) (hl : l.length ≤ 1048576) :
 Calls Tryz.prog 49 #[.string ⟨l.toArray⟩] w fun e w' => e = .returned (.bool (zak l)) ∧ w' = w := by
 go_enter Tryz.func49, Tryz.ntmps49
 go_wp2
 go_loop [6] (fun ix => ∃ k : Nat, k ≤ l.length ∧ ix = .int .i64 k ∧ Hid (∀ j (hj : j < l.length), j < k → 97 ≤ l[j].toNat ∧ l[j].toNat ≤ 122)) (fun ix => l.length - (intOf ix).toNat)
 case atStart => exact ⟨0, Nat.zero_le _, rfl, (fun j _ h => by omega : ∀ j (hj : j < l.length), j < 0 → _)⟩
 case round =>
  obtain ⟨k, hk, rfl, HK⟩ := hrel
  by_cases hkl : (k : Int) < (l.length : Int)
  ·
   have hk2 : k < l.length := by omega
   obtain ⟨x, hx⟩ : ∃ x : UInt8, l[k] = x := ⟨_, rfl⟩
   have hxb : (⟨l.toArray⟩ : ByteArray)[k]'(by show k < l.toArray.size; simpa using hk2) = x := hx
   by_cases h1 : (x.toNat : Int) < 97
   ·
    have HF : Hid (zak l = false) := zef l k hk2 (by rw [hx]; omega)
    clear hx
    go_wp2
    go_ret
    exact ⟨by rw [HF.out]; rfl, rfl⟩
   ·
    by_cases h2 : 122 < (x.toNat : Int)
    ·
     have HF : Hid (zak l = false) := zef l k hk2 (by rw [hx]; omega)
     clear hx
     go_wp2
     go_ret
     exact ⟨by rw [HF.out]; rfl, rfl⟩
    ·
     have HS : Hid (∀ j (hj : j < l.length), j < k + 1 → 97 ≤ l[j].toNat ∧ l[j].toNat ≤ 122) := fun j hj hjk => by
      by_cases e : j = k
      ·
       subst e; rw [hx]; omega
      ·
       exact HK.out j hj (by omega)
     clear hx
     go_wp2
     go_round
     case rel => exact ⟨k + 1, by omega, by go_num, HS⟩
     case measure => simp [intOf]; omega
  ·
   have HF : Hid (zak l = inB (l.length : Int) 1 8) := zgT l (fun j hj => HK.out j hj (by omega))
   by_cases h1 : 1 ≤ (l.length : Int)
   ·
    by_cases h2 : (l.length : Int) ≤ 8
    ·
     have HB : Hid (inB (l.length : Int) 1 8 = true) := zc7 _ _ _ h1 h2
     go_wp2
     go_ret
     exact ⟨by rw [HF.out, HB.out]; rfl, rfl⟩
    ·
     have HB : Hid (inB (l.length : Int) 1 8 = false) := zbL _ _ _ (by omega)
     go_wp2
     go_ret
     exact ⟨by rw [HF.out, HB.out]; rfl, rfl⟩
   ·
    have HB : Hid (inB (l.length : Int) 1 8 = false) := zbL _ _ _ (by omega)
    go_wp2
    go_ret
    exact ⟨by rw [HF.out, HB.out]; rfl, rfl⟩
theorem zdR (l : List UInt8) (w : World) (hl : l.length ≤ 1048576) :
 Calls Tryz.prog 49 #[.string ⟨l.toArray⟩] w fun e w' => e = .returned (.bool (zak l)) ∧ Below w.heap.size w w' :=
 (zby l w hl).mono fun _ _ h => ⟨h.1, by rw [h.2]; exact Below.refl _ _⟩
end Go.Proofs.YtkpdoedpkncboaaGreat
