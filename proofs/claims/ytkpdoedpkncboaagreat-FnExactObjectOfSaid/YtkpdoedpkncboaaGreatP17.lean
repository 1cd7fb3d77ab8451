/-
  Parts of one proof, one behind the other: NeedS3, IntoS2, IntoS3, NeedB, NeedC.
-/
import Derived.Test.YtkpdoedpkncboaaGreatP16
import Derived.Test.YtkpdoedpkncboaaGreatP2
import Derived.Deep.RegionHeld
import Derived.Deep.Cut
import Derived.Test.YtkpdoedpkncboaaGreatP15
import Derived.Test.YtkpdoedpkncboaaGreatP14
import Derived.Test.YtkpdoedpkncboaaGreatP11
import Derived.Test.YtkpdoedpkncboaaGreatP1
import Derived.RegionTactic
namespace Go.Proofs.YtkpdoedpkncboaaGreat
open Go.RowKit
theorem One.good12 {s : List Nd} (h : One s) : zb5 s := by
 induction h with
 | mk n ks hn _ _ ih =>
  intro m hm
  rcases List.mem_cons.1 hm with e | e
  ·
   rw [e]; exact hn
  ·
   obtain ⟨k, hk, h2⟩ := List.mem_flatten.1 e
   exact ih k hk m h2
theorem ziM {t : List Nd} (h : One t) : 0 ≤ endV t ((0 : Nat) : Int) := by rw [zdd (post := []) (by simp) h]; omega
theorem as_nil (w : World) : AsIn w none [] := fun j hj => by simp at hj
set_option maxHeartbeats 2000000 in
set_option maxRecDepth 100000 in
theorem zhC (ta : Option Addr) (cap : Nat) (t : List Nd) (a : Nat) (w : World) (hin : za4 w ta t.length t) (hsh : zam t) (hb : zaI t = true) (ha : a < t.length) (h36 : 3 ≤ (t.getD a nd0).1 ∧ (t.getD a nd0).1 ≤ 6) :
 Calls Tryz.prog 94 #[.slice ta t.length cap, .int .i64 (a : Int)] w fun e w' => e = .returned (.int .i64 (zcX t (a : Int))) ∧ Below w.heap.size w w' := by
 obtain ⟨hl, ho⟩ := zaM.1 hb
 have hgood := ho.good12
 have hmem : t.getD a nd0 ∈ t := by simp [List.getD, ha]
 have hk2 : za7 (t.getD a nd0) = 2 := zaX h36
 have hpe : zad t (za7 (t.getD a nd0)) ((a : Int) + 1) = za1 t (a : Int) := by unfold za1; rw [Int.toNat_natCast]
 have HPt : Hid (_) := zaU ta cap t a w hin hsh (by omega) ha (hgood _ hmem)
 rw [hpe, hk2] at HPt
 have hpl : (za1 t (a : Int)).length = 2 := by rw [zb0, hk2]
 obtain ⟨p, hp, _, hpe0⟩ := zaw (zbX ho ha) (i := 0) (by omega)
 obtain ⟨q, hq, _, hqe0⟩ := zaw (zbX ho ha) (i := 1) (by omega)
 have HFt : Hid (zcX t (a : Int) = if za5 60 t [] (q : Int) ≤ za5 60 t [] (p : Int) then 0 else 1) := by
  exact (by unfold zcX; rw [Int.toNat_natCast, if_pos ⟨hb, by omega, by omega, h36.1, h36.2⟩, hp, hq] : zcX t (a : Int) = if za5 60 t [] (q : Int) ≤ za5 60 t [] (p : Int) then 0 else 1)
 have HCp : Hid (∀ Y, Below w.heap.size w Y → Calls Tryz.prog 136 #[.slice ta t.length cap, .int .i64 (p : Int), .slice none 0 0] Y fun e w' => e = .returned (.int .i64 (za5 60 t [] (p : Int))) ∧ Below Y.heap.size Y w') := fun Y hy => zg9 w ta cap t none 0 [] hin (as_nil w) (Or.inl rfl) hsh hgood hl 60 Y p hy hpe0 (by omega)
 have HCq : Hid (∀ Y, Below w.heap.size w Y → Calls Tryz.prog 136 #[.slice ta t.length cap, .int .i64 (q : Int), .slice none 0 0] Y fun e w' => e = .returned (.int .i64 (za5 60 t [] (q : Int))) ∧ Below Y.heap.size Y w') := fun Y hy => zg9 w ta cap t none 0 [] hin (as_nil w) (Or.inl rfl) hsh hgood hl 60 Y q hy hqe0 (by omega)
 generalize za5 60 t [] (p : Int) = x at HCp HFt
 generalize za5 60 t [] (q : Int) = y at HCq HFt
 generalize zcX t (a : Int) = res at HFt ⊢
 generalize za1 t (a : Int) = pts at HPt hpl hp hq
 clear hpe hk2 hmem hgood ho hpe0 hqe0 hin hsh hb
 go_enter Tryz.func94, Tryz.ntmps94
 go_wp2_with fail
 refine Calls.mono HPt.out ?_
 rintro e V ⟨v, rfl, hv, hbV⟩
 obtain ⟨gp, cp, rfl⟩ := zag hv (by omega)
 have c0 : V.cell? ⟨gp, 0, none⟩ = some (.int .i64 (p : Int)) := by rw [← hp]; exact zaB hv 0 (by omega)
 have c1 : V.cell? ⟨gp, 1, none⟩ = some (.int .i64 (q : Int)) := by rw [← hq]; exact zaB hv 1 (by omega)
 have hgl := (hv.lt gp rfl).2
 have hBV : Below w.heap.size w V.drew := ⟨hbV.os, hbV.tape, hbV.output, hbV.size, hbV.block⟩
 clear hv HPt hp hq hbV
 go_upto_region 2 with fail
 go_cut [19] from 9 (fun v wx => v = .bool (decide (y ≤ x)) ∧ Hid (Below w.heap.size w wx))
 case first =>
  refine wp_region_held_drew (S := (fun w' => w'.cell? ⟨gp, 0, none⟩ = some (.int .i64 (p : Int)) ∧ w'.cell? ⟨gp, 1, none⟩ = some (.int .i64 (q : Int)))) (by kernel_rfl) ?_ (fun hHeld => ?_)
  ·
   first | (dsimp only; done) | (dsimp only; go_keep) | go_keep
  refine tkO [(0, 9), (1, 10), (2, 11), (3, 12), (5, 14), (6, 15), (7, 16), (8, 17)] ?_
  repeat (refine tkY ?_ rfl (by rfl) ?_ ?_; rotate_left; (focus (intro wq hSw; (try dsimp only at hSw); first | (go_simp; done) | (go_simp; with_reducible rfl))); simp only [zP])
  refine tkZ ?_
  refine zR 4 rfl (fun K hK => ?_)
  go_simp
  go_at_call 136; refine Calls.mono (HCp.out _ hBV) ?_; rintro e wn ⟨rfl, hbn⟩; have hgn : gp < wn.heap.size := Nat.lt_of_lt_of_le hgl hbn.size; replace c0 := (hbn.cell (p := ⟨gp, 0, none⟩) hgl).trans c0; replace c1 := (hbn.cell (p := ⟨gp, 1, none⟩) hgl).trans c1; have hB2 := hBV.trans (hbn.mono hBV.size); clear hbn; dsimp only
  refine hK.out _ _ ?_ (fun hHeld => ?_)
  ·
   first | (dsimp only; done) | (dsimp only; go_keep) | go_keep
  clear hK K
  refine zR 9 rfl (fun K hK => ?_)
  go_simp
  go_at_call 136; refine Calls.mono (HCq.out _ hB2) ?_; rintro e wm ⟨rfl, hbm⟩; replace c0 := (hbm.cell (p := ⟨gp, 0, none⟩) hgn).trans c0; replace c1 := (hbm.cell (p := ⟨gp, 1, none⟩) hgn).trans c1; have hB3 := hB2.trans (hbm.mono hB2.size); clear hbm; dsimp only
  refine hK.out _ _ ?_ (fun hHeld => ?_)
  ·
   first | (dsimp only; done) | (dsimp only; go_keep) | go_keep
  clear hK K
  refine tkO [(10, 19)] ?_
  repeat (refine tkY ?_ rfl (by rfl) ?_ ?_; rotate_left; (focus (intro wq hSw; (try dsimp only at hSw); first | (go_simp; done) | (go_simp; with_reducible rfl))); simp only [zP])
  refine tkZ ?_
  refine wpAnyH_done (by kernel_rfl) ?_ _
  go_wp2_with fail
  go_meet
  exact ⟨rfl, hB3⟩
 case rest =>
  obtain ⟨rfl, HB⟩ := hcut
  by_cases h : y ≤ x
  ·
   have hd : decide (y ≤ x) = true := decide_eq_true h
   have HF : Hid (res = 0) := by exact (by rw [HFt.out, if_pos h] : res = 0)
   rw [hd]
   clear h hd HFt
   go_wp2
   go_ret
   exact ⟨by rw [HF.out]; rfl, HB.out⟩
  ·
   have hd : decide (y ≤ x) = false := decide_eq_false h
   have HF : Hid (res = 1) := by exact (by rw [HFt.out, if_neg h] : res = 1)
   rw [hd]
   clear h hd HFt
   go_wp2
   go_ret
   exact ⟨by rw [HF.out]; rfl, HB.out⟩
set_option maxHeartbeats 4000000 in
set_option maxRecDepth 100000 in
theorem zke (B : World) (ta : Option Addr) (tc : Nat) (t : List Nd) (hin : za4 B ta t.length t) (hsh : zam t) (hgood : zb5 t) (hlen : t.length ≤ 60) (d : Nat) (w : World) (a : Nat) (r : Int) (base : Nat) (v : Value) (xs : List In13) (hB : Below B.heap.size B w) (hrow : w.ownsRow base 88 5 v xs.length (insV xs)) (hbase : base ≤ w.heap.size) (hp : 0 ≤ endV t (a : Int)) (hx : xs.length ≤ 100000) (hkd : (t.getD a nd0).1 = 1 ∨ (t.getD a nd0).1 = 2) :
 Calls Tryz.prog 63 #[v, .slice ta t.length tc, .int .i64 (a : Int), .int .i64 r] w fun e w' => ∃ v', e = .returned v' ∧ Co13 w w' base v v' (xs ++ za3 (d + 1) t (a : Int) r (xs.length : Int)) := by
 obtain ⟨hal, _, _, _, _⟩ := zac hp
 have hmem : t.getD a nd0 ∈ t := by simp [List.getD, hal]
 have hnb := hgood _ hmem
 have hr : za3 (d + 1) t (a : Int) r (xs.length : Int) = [((t.getD a nd0).1, r, (t.getD a nd0).2.1, 0, [])] := by
  rw [za3, Int.toNat_natCast]
  simp only
  rcases hkd with h | h
  ·
   rw [if_pos h, h]
  ·
   rw [if_neg (by omega), if_pos h, h]
 rw [hr]
 obtain ⟨bt, ot, rfl, hbt, q0, q1, q2, q3⟩ := (hin.below hB).2 a hal
 obtain ⟨va, vc, rfl⟩ := zaE hrow
 obtain ⟨n, hn⟩ : ∃ n, t.getD a nd0 = n := ⟨_, rfl⟩
 have hnb2 := hnb
 rw [hn] at q0 q1 q2 q3 hkd hnb2 ⊢
 obtain ⟨kd, nA, np, nf⟩ := n
 simp only at q0 q1 q2 q3 hkd
 obtain ⟨⟨n0, n1, n2, n3⟩, hbg⟩ := zaW w (.int .i64 kd) (.int .i64 nA) (.string ⟨np.toArray⟩) (.string ⟨nf.toArray⟩) 90
 obtain ⟨X, hX⟩ : ∃ X, w.alloc (.cells #[.int .i64 kd, .int .i64 nA, .string ⟨np.toArray⟩, .string ⟨nf.toArray⟩] 90) = X := ⟨_, rfl⟩
 obtain ⟨N, hN⟩ : ∃ N, w.heap.size = N := ⟨_, rfl⟩
 rw [hX] at n0 n1 n2 n3 hbg
 rw [hN] at n0 n1 n2 n3
 have hNX : N < X.heap.size := World.block_lt_of_cell? X ⟨N, 0, none⟩ n0
 have hBX : Below B.heap.size B X := hB.trans (hbg.mono hB.size)
 have HPt : Hid (_) := zaU (some ⟨bt, ot, none⟩) tc t a X (hin.below hBX) hsh (by omega) hal hnb
 have HCo : Hid (Co13 w X base (.slice va xs.length vc) (.slice va xs.length vc) xs) := (Co13.new hrow hbase).below hbg
 have HNc : Hid (∀ Y, Below X.heap.size X Y → Y.cell? ⟨N, 0, none⟩ = some (.int .i64 kd) ∧ Y.cell? ⟨N, 1, none⟩ = some (.int .i64 nA)) := fun Y hy => ⟨(hy.cell (p := ⟨N, 0, none⟩) hNX).trans n0, (hy.cell (p := ⟨N, 1, none⟩) hNX).trans n1⟩
 have hal2 : (a : Int) < (t.length : Int) := by omega
 generalize zad t (za7 (t.getD a nd0)) ((a : Int) + 1) = pts at HPt
 generalize za7 (t.getD a nd0) = kn at HPt
 clear hn hr hmem hnb hnb2 hrow hbase hB hBX hin hsh hgood hbg hp n0 n1 n2 n3
 go_enter Tryz.func63, Tryz.ntmps63
 go_wp2_with fail
 refine Calls.mono HPt.out ?_
 rintro e V ⟨pv, rfl, hpv, hbV⟩
 obtain ⟨m0, m1⟩ := HNc.out V hbV
 have hcv := HCo.out.below hbV
 clear hpv hbV HPt HNc HCo q0 q1 q2 q3
 obtain ⟨a', c', Y, hrun, hco⟩ := hcv.push (kd, r, nA, 0, []) (by omega)
 have HCo : Hid (Co13 w Y base (.slice va xs.length vc) (.slice a' (xs.length + 1) c') (xs ++ [(kd, r, nA, 0, [])])) := hco
 clear hcv hco
 rcases hkd with rfl | rfl
 ·
  go_wp2_with (at_builtin; refine wpList_append_run rfl (.tmp 26) (.tmp 31) 49 rfl _ _ _ rfl rfl hrun ?_; clear hrun)
  go_ret
  exact ⟨_, rfl, HCo.out⟩
 ·
  go_wp2_with (at_builtin; refine wpList_append_run rfl (.tmp 35) (.tmp 40) 49 rfl _ _ _ rfl rfl hrun ?_; clear hrun)
  go_ret
  exact ⟨_, rfl, HCo.out⟩
theorem Co13.keep {w X : World} {base k : Nat} {v0 v : Value} {xs : List In13} (h : Co13 w X base v0 v xs) (hk : k < w.heap.size) (hne : v0.ownBlock ≠ some k) : X.heap[k]? = w.heap[k]? ∧ v.ownBlock ≠ some k := by
 refine ⟨h.g.block k hk (fun e => hne e.symm), fun e => ?_⟩
 rcases h.loc with hl | ⟨q, hq, hqw⟩
 ·
  exact hne (hl.symm.trans e)
 ·
  rw [hq] at e
  injection e with e
  omega
theorem zbc {t : List Nd} (hb : zaI t = true) {p d : Nat} (hp : p < t.length) (hd : t.length ≤ p + d) (r c : Int) (hr : 0 ≤ r) : (za3 d t (p : Int) r c).length ≤ 119 := by
 obtain ⟨s, post, e, hs, h60⟩ := zjR hb hp
 have hl := congrArg List.length e
 rw [List.length_drop, List.length_append] at hl
 have := (zl9 hs d t post p r c h60 (by omega) e hr).len
 omega
set_option maxHeartbeats 8000000 in
set_option maxRecDepth 100000 in
theorem zkd (B : World) (ta : Option Addr) (tc : Nat) (t : List Nd) (hin : za4 B ta t.length t) (hsh : zam t) (hgood : zb5 t) (hlen : t.length ≤ 60) (htb : zaI t = true) (d : Nat) (ih : Int13 B ta tc t d) (w : World) (a : Nat) (r : Int) (base : Nat) (v : Value) (xs : List In13) (hB : Below B.heap.size B w) (hrow : w.ownsRow base 88 5 v xs.length (insV xs)) (hbase : base ≤ w.heap.size) (hbb : B.heap.size ≤ base) (hp : 0 ≤ endV t (a : Int)) (hd : t.length ≤ a + (d + 1)) (hr0 : 0 ≤ r) (hr1 : r + 3 * ((d + 1 : Nat) : Int) ≤ 1000) (hx : xs.length + 400 * (d + 1) ≤ 100000) (h36 : 3 ≤ (t.getD a nd0).1 ∧ (t.getD a nd0).1 ≤ 6) :
 Calls Tryz.prog 63 #[v, .slice ta t.length tc, .int .i64 (a : Int), .int .i64 r] w fun e w' => ∃ v', e = .returned v' ∧ Co13 w w' base v v' (xs ++ za3 (d + 1) t (a : Int) r (xs.length : Int)) := by
 obtain ⟨hal, _, _, _, _⟩ := zac hp
 have hmem : t.getD a nd0 ∈ t := by simp [List.getD, hal]
 have hnb := hgood _ hmem
 have hk2 : za7 (t.getD a nd0) = 2 := zaX h36
 have hpl : (za1 t (a : Int)).length = 2 := by rw [zb0, hk2]
 obtain ⟨p, hpp, hap, hpe⟩ := zaw hp (i := 0) (by omega)
 obtain ⟨q, hqq, haq, hqe⟩ := zaw hp (i := 1) (by omega)
 have hplt : p < t.length := (zac hpe).1
 have hqlt : q < t.length := (zac hqe).1
 have hfi : zcX t (a : Int) = if za5 60 t [] (q : Int) ≤ za5 60 t [] (p : Int) then 0 else 1 := by
  unfold zcX
  rw [Int.toNat_natCast, if_pos ⟨htb, by omega, by omega, h36.1, h36.2⟩, hpp, hqq]
 have hr : za3 (d + 1) t (a : Int) r (xs.length : Int) = if za5 60 t [] (q : Int) ≤ za5 60 t [] (p : Int) then za3 d t (p : Int) r (xs.length : Int) ++ za3 d t (q : Int) (r + 1) ((xs.length : Int) + (za3 d t (p : Int) r (xs.length : Int)).length) ++ [((t.getD a nd0).1, r, r, r + 1, [])] else za3 d t (q : Int) r (xs.length : Int) ++ za3 d t (p : Int) (r + 1) ((xs.length : Int) + (za3 d t (q : Int) r (xs.length : Int)).length) ++ [((t.getD a nd0).1, r, r + 1, r, [])] := by
  rw [za3, Int.toNat_natCast]
  simp only
  rw [if_neg (by omega), if_neg (by omega), if_neg (by omega), if_neg (by omega), hpp, hqq]
 have hpe2 : zad t (za7 (t.getD a nd0)) ((a : Int) + 1) = za1 t (a : Int) := by unfold za1; rw [Int.toNat_natCast]
 obtain ⟨bt, ot, rfl, hbt, q0, q1, q2, q3⟩ := (hin.below hB).2 a hal
 obtain ⟨va, vc, rfl⟩ := zaE hrow
 have hvN : ∀ k, w.heap.size ≤ k → (Value.slice va xs.length vc).ownBlock ≠ some k := fun k hk e => by have := (hrow.lt k e).2; omega
 obtain ⟨n, hn⟩ : ∃ n, t.getD a nd0 = n := ⟨_, rfl⟩
 have hFs : ∀ Y, Below B.heap.size B Y → Calls Tryz.prog 94 #[.slice (some ⟨bt, ot, none⟩) t.length tc, .int .i64 (a : Int)] Y fun e w' => e = .returned (.int .i64 (zcX t (a : Int))) ∧ Below Y.heap.size Y w' := fun Y hy => zhC (some ⟨bt, ot, none⟩) tc t a Y (hin.below hy) hsh htb hal h36
 rw [hn] at q0 q1 q2 q3 hr h36
 obtain ⟨kd, nA, np, nf⟩ := n
 simp only at q0 q1 q2 q3 hr h36
 obtain ⟨⟨n0, n1, n2, n3⟩, hbg⟩ := zaW w (.int .i64 kd) (.int .i64 nA) (.string ⟨np.toArray⟩) (.string ⟨nf.toArray⟩) 90
 obtain ⟨X, hX⟩ : ∃ X, w.alloc (.cells #[.int .i64 kd, .int .i64 nA, .string ⟨np.toArray⟩, .string ⟨nf.toArray⟩] 90) = X := ⟨_, rfl⟩
 obtain ⟨N, hN⟩ : ∃ N, w.heap.size = N := ⟨_, rfl⟩
 rw [hX] at n0 n1 n2 n3 hbg
 rw [hN] at n0 n1 n2 n3
 have hNX : N < X.heap.size := World.block_lt_of_cell? X ⟨N, 0, none⟩ n0
 have hBX : Below B.heap.size B X := hB.trans (hbg.mono hB.size)
 have HPt : Hid (_) := zaU (some ⟨bt, ot, none⟩) tc t a X (hin.below hBX) hsh (by omega) hal hnb
 rw [hpe2, hk2] at HPt
 have HCo : Hid (Co13 w X base (.slice va xs.length vc) (.slice va xs.length vc) xs) := (Co13.new hrow hbase).below hbg
 have HFs : Hid (∀ Y, Below X.heap.size X Y → Calls Tryz.prog 94 #[.slice (some ⟨bt, ot, none⟩) t.length tc, .int .i64 (a : Int)] Y fun e w' => e = .returned (.int .i64 (zcX t (a : Int))) ∧ Below Y.heap.size Y w') := fun Y hy => hFs Y (hBX.trans (hy.mono hBX.size))
 by_cases hc : za5 60 t [] (q : Int) ≤ za5 60 t [] (p : Int)
 ·
  rw [if_pos hc] at hfi hr
  rw [hr]
  have hxl : (za3 d t (p : Int) r (xs.length : Int)).length ≤ 119 := zbc htb hplt (by omega) r _ hr0
  obtain ⟨x, hxe⟩ : ∃ x, za3 d t (p : Int) r (xs.length : Int) = x := ⟨_, rfl⟩
  rw [hxe] at hxl ⊢
  have hyl : (za3 d t (q : Int) (r + 1) ((xs.length : Int) + (x.length : Int))).length ≤ 119 := zbc htb hqlt (by omega) (r + 1) _ (by omega)
  obtain ⟨y, hye⟩ : ∃ y, za3 d t (q : Int) (r + 1) ((xs.length : Int) + (x.length : Int)) = y := ⟨_, rfl⟩
  rw [hye] at hyl ⊢
  have HI1 : Hid (∀ Y, Co13 w Y base (.slice va xs.length vc) (.slice va xs.length vc) xs → Below B.heap.size B Y → Calls Tryz.prog 63 #[.slice va xs.length vc, .slice (some ⟨bt, ot, none⟩) t.length tc, .int .i64 (p : Int), .int .i64 r] Y fun e w' => ∃ v', e = .returned v' ∧ Co13 Y w' base (.slice va xs.length vc) v' (xs ++ x)) := fun Y hy hb => by
   have := ih Y p r base (.slice va xs.length vc) xs hb hy.row (Nat.le_trans hbase hy.g.size) hbb hpe (by omega) hr0 (by omega) (by omega)
   rw [hxe] at this
   exact this
  have HI2 : Hid (∀ Y u, Y.ownsRow base 88 5 u (xs ++ x).length (insV (xs ++ x)) → base ≤ Y.heap.size → Below B.heap.size B Y → Calls Tryz.prog 63 #[u, .slice (some ⟨bt, ot, none⟩) t.length tc, .int .i64 (q : Int), .int .i64 (r + 1)] Y fun e w' => ∃ v', e = .returned v' ∧ Co13 Y w' base u v' (xs ++ x ++ y)) := fun Y u hy hb1 hb2 => by
   have := ih Y q (r + 1) base u (xs ++ x) hb2 hy hb1 hbb hqe (by omega) (by omega) (by omega) (by rw [List.length_append]; omega)
   rw [show ((xs ++ x).length : Int) = (xs.length : Int) + (x.length : Int) by rw [List.length_append]; omega, hye] at this
   exact this
  have hL : (xs ++ x ++ y).length ≤ 1048576 := by rw [List.length_append, List.length_append]; omega
  have HL : Hid ((xs ++ x ++ y).length ≤ 1048576) := hL
  have HA : Hid (xs ++ (x ++ y ++ [((kd, r, r, r + 1, []) : In13)]) = (xs ++ x ++ y) ++ [((kd, r, r, r + 1, []) : In13)]) := by exact (by simp : xs ++ (x ++ y ++ [((kd, r, r, r + 1, []) : In13)]) = (xs ++ x ++ y) ++ [((kd, r, r, r + 1, []) : In13)])
  have HFi : Hid (zcX t (a : Int) = 0) := hfi
  have HvN : Hid (∀ k, N ≤ k → (Value.slice va xs.length vc).ownBlock ≠ some k) := hN ▸ hvN
  have HG : Hid (∀ Y Z u zs v1, Below B.heap.size B Y → Co13 Y Z base u v1 zs → (∀ k, u.ownBlock = some k → base ≤ k) → Below B.heap.size B Z) := fun Y Z u zs v1 hY hco hu => hY.grown hco.g hY.size (fun k e => by have := hu k e; omega)
  have HlX : Hid (N < X.heap.size) := hNX
  have HBX : Hid (Below B.heap.size B X) := hBX
  have Hn0 : Hid (∀ Y, Below X.heap.size X Y → Y.cell? ⟨N, 0, none⟩ = some (.int .i64 kd)) := fun Y hy => (hy.cell (p := ⟨N, 0, none⟩) hNX).trans n0
  have Hro : Hid (∀ k, (Value.slice va xs.length vc).ownBlock = some k → base ≤ k) := fun k e => (hrow.lt k e).1
  have Hba : Hid (base ≤ N) := hN ▸ hbase
  have hal2 : (a : Int) < (t.length : Int) := by omega
  have hr2 : r ≤ 997 := by omega
  obtain ⟨k3, hk36⟩ : ∃ u : Unit, Hid (3 ≤ kd ∧ kd ≤ 6) := ⟨(), h36⟩
  have d1 : (kd == 1) = false := beq_eq_false_iff_ne.2 (by omega)
  have d2 : (kd == 2) = false := beq_eq_false_iff_ne.2 (by omega)
  have d7 : (kd == 7) = false := beq_eq_false_iff_ne.2 (by omega)
  have d8 : (kd == 8) = false := beq_eq_false_iff_ne.2 (by omega)
  have hpc : (za1 t (a : Int)).getD 0 0 = (p : Int) ∧ (za1 t (a : Int)).getD 1 0 = (q : Int) := ⟨hpp, hqq⟩
  generalize za1 t (a : Int) = pts at HPt hpl hpc
  have HPc : Hid (pts.length = 2 ∧ pts.getD 0 0 = (p : Int) ∧ pts.getD 1 0 = (q : Int)) := ⟨hpl, hpc⟩
  clear hxl hyl hxe hye hL hfi hr hc ih hpl hpc hpp hqq hFs hn hvN hNX hBX hrow hbase hB hin hsh hgood hlen htb hbb hp hd hx h36 hmem hnb hk2 hpe hqe hplt hqlt hpe2 hbg n0 n1 n2 n3 hap haq hr1
  go_enter Tryz.func63, Tryz.ntmps63
  go_wp2_with fail
  refine Calls.mono HPt.out ?_
  rintro e V ⟨pv, rfl, hpv, hbV⟩
  obtain ⟨gp, cp, rfl⟩ := zag hpv (by omega)
  have c0 : V.cell? ⟨gp, 0, none⟩ = some (.int .i64 (p : Int)) := by rw [← HPc.out.2.1]; exact zaB hpv 0 (by have := HPc.out.1; omega)
  have c1 : V.cell? ⟨gp, 1, none⟩ = some (.int .i64 (q : Int)) := by rw [← HPc.out.2.2]; exact zaB hpv 1 (by have := HPc.out.1; omega)
  have hgp := hpv.lt gp rfl
  have m0 := Hn0.out V hbV
  have HbV : Hid (Below X.heap.size X V) := hbV
  have Hgp : Hid (X.heap.size ≤ gp ∧ gp < V.heap.size) := hgp
  clear hpv hbV HPt hgp Hn0 q0 q1 q2 q3 HPc
  go_wp2_with fail
  refine Calls.mono (HFs.out V HbV.out) ?_
  rintro e W ⟨rfl, hbW⟩
  rw [HFi.out]
  have hNV : N < V.heap.size := Nat.lt_of_lt_of_le HlX.out HbV.out.size
  replace c0 := (hbW.cell (p := ⟨gp, 0, none⟩) Hgp.out.2).trans c0
  replace c1 := (hbW.cell (p := ⟨gp, 1, none⟩) Hgp.out.2).trans c1
  replace m0 := (hbW.cell (p := ⟨N, 0, none⟩) hNV).trans m0
  have hXW : Below X.heap.size X W := HbV.out.trans (hbW.mono HbV.out.size)
  have hcw := HCo.out.below hXW
  have hBW := HBX.out.trans (hXW.mono HBX.out.size)
  have HW : Hid (gp < W.heap.size ∧ N < W.heap.size ∧ base ≤ W.heap.size ∧ N ≤ gp) := ⟨Nat.lt_of_lt_of_le Hgp.out.2 hbW.size, Nat.lt_of_lt_of_le hNV hbW.size, Nat.le_trans Hba.out (Nat.le_of_lt (Nat.lt_of_lt_of_le hNV hbW.size)), Nat.le_trans (Nat.le_of_lt HlX.out) Hgp.out.1⟩
  have HCW : Hid (Co13 w W base (.slice va xs.length vc) (.slice va xs.length vc) xs ∧ Below B.heap.size B W) := ⟨hcw, hBW⟩
  clear hbW hXW hcw hBW hNV HFs HFi HCo
  go_wp2_with fail
  refine Calls.mono (HI1.out W HCW.out.1 HCW.out.2) ?_
  rintro e W1 ⟨v1, rfl, hco1⟩
  obtain ⟨k1, u1⟩ := hco1.keep HW.out.1 (HvN.out gp HW.out.2.2.2)
  obtain ⟨k2, u2⟩ := hco1.keep HW.out.2.1 (HvN.out N (Nat.le_refl _))
  replace c0 := (World.cell?_of_block (a := ⟨gp, 0, none⟩) k1).trans c0
  replace c1 := (World.cell?_of_block (a := ⟨gp, 1, none⟩) k1).trans c1
  replace m0 := (World.cell?_of_block (a := ⟨N, 0, none⟩) k2).trans m0
  have hB1 := HG.out W W1 _ _ _ HCW.out.2 hco1 Hro.out
  have hCo1 := HCW.out.1.trans hco1
  have HW1 : Hid (Co13 w W1 base (.slice va xs.length vc) v1 (xs ++ x) ∧ Below B.heap.size B W1 ∧ gp < W1.heap.size ∧ N < W1.heap.size ∧ base ≤ W1.heap.size ∧ v1.ownBlock ≠ some N) := ⟨hCo1, hB1, Nat.lt_of_lt_of_le HW.out.1 hco1.g.size, Nat.lt_of_lt_of_le HW.out.2.1 hco1.g.size, Nat.le_trans HW.out.2.2.1 hco1.g.size, u2⟩
  clear hco1 hB1 hCo1 u1 u2 k1 k2 HCW HI1
  go_wp2_with fail
  refine Calls.mono (HI2.out W1 v1 HW1.out.1.row HW1.out.2.2.2.2.1 HW1.out.2.1) ?_
  rintro e W2 ⟨v2, rfl, hco2⟩
  obtain ⟨k2, _⟩ := hco2.keep HW1.out.2.2.2.1 HW1.out.2.2.2.2.2
  replace m0 := (World.cell?_of_block (a := ⟨N, 0, none⟩) k2).trans m0
  have hCo2 := HW1.out.1.trans hco2
  obtain ⟨a2, cc2, rfl⟩ := zaE hCo2.row
  obtain ⟨a', c', Y, hrun, hco3⟩ := hCo2.push (kd, r, r, r + 1, []) HL.out
  have HF : Hid (Co13 w Y base (.slice va xs.length vc) (.slice a' ((xs ++ x ++ y).length + 1) c') ((xs ++ x ++ y) ++ [(kd, r, r, r + 1, [])])) := hco3
  clear hco2 hCo2 hco3 k2 c0 c1 HI2 HW1
  generalize (xs ++ x ++ y).length = nl at *
  go_wp2_with (at_builtin; refine wpList_append_run rfl (.tmp 143) (.tmp 155) 49 rfl _ _ _ rfl rfl hrun ?_; clear hrun)
  go_ret
  refine ⟨_, rfl, ?_⟩
  rw [HA.out]
  exact HF.out
 ·
  rw [if_neg hc] at hfi hr
  rw [hr]
  have hxl : (za3 d t (q : Int) r (xs.length : Int)).length ≤ 119 := zbc htb hqlt (by omega) r _ hr0
  obtain ⟨x, hxe⟩ : ∃ x, za3 d t (q : Int) r (xs.length : Int) = x := ⟨_, rfl⟩
  rw [hxe] at hxl ⊢
  have hyl : (za3 d t (p : Int) (r + 1) ((xs.length : Int) + (x.length : Int))).length ≤ 119 := zbc htb hplt (by omega) (r + 1) _ (by omega)
  obtain ⟨y, hye⟩ : ∃ y, za3 d t (p : Int) (r + 1) ((xs.length : Int) + (x.length : Int)) = y := ⟨_, rfl⟩
  rw [hye] at hyl ⊢
  have HI1 : Hid (∀ Y, Co13 w Y base (.slice va xs.length vc) (.slice va xs.length vc) xs → Below B.heap.size B Y → Calls Tryz.prog 63 #[.slice va xs.length vc, .slice (some ⟨bt, ot, none⟩) t.length tc, .int .i64 (q : Int), .int .i64 r] Y fun e w' => ∃ v', e = .returned v' ∧ Co13 Y w' base (.slice va xs.length vc) v' (xs ++ x)) := fun Y hy hb => by
   have := ih Y q r base (.slice va xs.length vc) xs hb hy.row (Nat.le_trans hbase hy.g.size) hbb hqe (by omega) hr0 (by omega) (by omega)
   rw [hxe] at this
   exact this
  have HI2 : Hid (∀ Y u, Y.ownsRow base 88 5 u (xs ++ x).length (insV (xs ++ x)) → base ≤ Y.heap.size → Below B.heap.size B Y → Calls Tryz.prog 63 #[u, .slice (some ⟨bt, ot, none⟩) t.length tc, .int .i64 (p : Int), .int .i64 (r + 1)] Y fun e w' => ∃ v', e = .returned v' ∧ Co13 Y w' base u v' (xs ++ x ++ y)) := fun Y u hy hb1 hb2 => by
   have := ih Y p (r + 1) base u (xs ++ x) hb2 hy hb1 hbb hpe (by omega) (by omega) (by omega) (by rw [List.length_append]; omega)
   rw [show ((xs ++ x).length : Int) = (xs.length : Int) + (x.length : Int) by rw [List.length_append]; omega, hye] at this
   exact this
  have hL : (xs ++ x ++ y).length ≤ 1048576 := by rw [List.length_append, List.length_append]; omega
  have HL : Hid ((xs ++ x ++ y).length ≤ 1048576) := hL
  have HA : Hid (xs ++ (x ++ y ++ [((kd, r, r + 1, r, []) : In13)]) = (xs ++ x ++ y) ++ [((kd, r, r + 1, r, []) : In13)]) := by exact (by simp : xs ++ (x ++ y ++ [((kd, r, r + 1, r, []) : In13)]) = (xs ++ x ++ y) ++ [((kd, r, r + 1, r, []) : In13)])
  have HFi : Hid (zcX t (a : Int) = 1) := hfi
  have HvN : Hid (∀ k, N ≤ k → (Value.slice va xs.length vc).ownBlock ≠ some k) := hN ▸ hvN
  have HG : Hid (∀ Y Z u zs v1, Below B.heap.size B Y → Co13 Y Z base u v1 zs → (∀ k, u.ownBlock = some k → base ≤ k) → Below B.heap.size B Z) := fun Y Z u zs v1 hY hco hu => hY.grown hco.g hY.size (fun k e => by have := hu k e; omega)
  have HlX : Hid (N < X.heap.size) := hNX
  have HBX : Hid (Below B.heap.size B X) := hBX
  have Hn0 : Hid (∀ Y, Below X.heap.size X Y → Y.cell? ⟨N, 0, none⟩ = some (.int .i64 kd)) := fun Y hy => (hy.cell (p := ⟨N, 0, none⟩) hNX).trans n0
  have Hro : Hid (∀ k, (Value.slice va xs.length vc).ownBlock = some k → base ≤ k) := fun k e => (hrow.lt k e).1
  have Hba : Hid (base ≤ N) := hN ▸ hbase
  have hal2 : (a : Int) < (t.length : Int) := by omega
  have hr2 : r ≤ 997 := by omega
  obtain ⟨k3, hk36⟩ : ∃ u : Unit, Hid (3 ≤ kd ∧ kd ≤ 6) := ⟨(), h36⟩
  have d1 : (kd == 1) = false := beq_eq_false_iff_ne.2 (by omega)
  have d2 : (kd == 2) = false := beq_eq_false_iff_ne.2 (by omega)
  have d7 : (kd == 7) = false := beq_eq_false_iff_ne.2 (by omega)
  have d8 : (kd == 8) = false := beq_eq_false_iff_ne.2 (by omega)
  have hpc : (za1 t (a : Int)).getD 0 0 = (p : Int) ∧ (za1 t (a : Int)).getD 1 0 = (q : Int) := ⟨hpp, hqq⟩
  generalize za1 t (a : Int) = pts at HPt hpl hpc
  have HPc : Hid (pts.length = 2 ∧ pts.getD 0 0 = (p : Int) ∧ pts.getD 1 0 = (q : Int)) := ⟨hpl, hpc⟩
  clear hxl hyl hxe hye hL hfi hr hc ih hpl hpc hpp hqq hFs hn hvN hNX hBX hrow hbase hB hin hsh hgood hlen htb hbb hp hd hx h36 hmem hnb hk2 hpe hqe hplt hqlt hpe2 hbg n0 n1 n2 n3 hap haq hr1
  go_enter Tryz.func63, Tryz.ntmps63
  go_wp2_with fail
  refine Calls.mono HPt.out ?_
  rintro e V ⟨pv, rfl, hpv, hbV⟩
  obtain ⟨gp, cp, rfl⟩ := zag hpv (by omega)
  have c0 : V.cell? ⟨gp, 0, none⟩ = some (.int .i64 (p : Int)) := by rw [← HPc.out.2.1]; exact zaB hpv 0 (by have := HPc.out.1; omega)
  have c1 : V.cell? ⟨gp, 1, none⟩ = some (.int .i64 (q : Int)) := by rw [← HPc.out.2.2]; exact zaB hpv 1 (by have := HPc.out.1; omega)
  have hgp := hpv.lt gp rfl
  have m0 := Hn0.out V hbV
  have HbV : Hid (Below X.heap.size X V) := hbV
  have Hgp : Hid (X.heap.size ≤ gp ∧ gp < V.heap.size) := hgp
  clear hpv hbV HPt hgp Hn0 q0 q1 q2 q3 HPc
  go_wp2_with fail
  refine Calls.mono (HFs.out V HbV.out) ?_
  rintro e W ⟨rfl, hbW⟩
  rw [HFi.out]
  have hNV : N < V.heap.size := Nat.lt_of_lt_of_le HlX.out HbV.out.size
  replace c0 := (hbW.cell (p := ⟨gp, 0, none⟩) Hgp.out.2).trans c0
  replace c1 := (hbW.cell (p := ⟨gp, 1, none⟩) Hgp.out.2).trans c1
  replace m0 := (hbW.cell (p := ⟨N, 0, none⟩) hNV).trans m0
  have hXW : Below X.heap.size X W := HbV.out.trans (hbW.mono HbV.out.size)
  have hcw := HCo.out.below hXW
  have hBW := HBX.out.trans (hXW.mono HBX.out.size)
  have HW : Hid (gp < W.heap.size ∧ N < W.heap.size ∧ base ≤ W.heap.size ∧ N ≤ gp) := ⟨Nat.lt_of_lt_of_le Hgp.out.2 hbW.size, Nat.lt_of_lt_of_le hNV hbW.size, Nat.le_trans Hba.out (Nat.le_of_lt (Nat.lt_of_lt_of_le hNV hbW.size)), Nat.le_trans (Nat.le_of_lt HlX.out) Hgp.out.1⟩
  have HCW : Hid (Co13 w W base (.slice va xs.length vc) (.slice va xs.length vc) xs ∧ Below B.heap.size B W) := ⟨hcw, hBW⟩
  clear hbW hXW hcw hBW hNV HFs HFi HCo
  go_wp2_with fail
  refine Calls.mono (HI1.out W HCW.out.1 HCW.out.2) ?_
  rintro e W1 ⟨v1, rfl, hco1⟩
  obtain ⟨k1, u1⟩ := hco1.keep HW.out.1 (HvN.out gp HW.out.2.2.2)
  obtain ⟨k2, u2⟩ := hco1.keep HW.out.2.1 (HvN.out N (Nat.le_refl _))
  replace c0 := (World.cell?_of_block (a := ⟨gp, 0, none⟩) k1).trans c0
  replace c1 := (World.cell?_of_block (a := ⟨gp, 1, none⟩) k1).trans c1
  replace m0 := (World.cell?_of_block (a := ⟨N, 0, none⟩) k2).trans m0
  have hB1 := HG.out W W1 _ _ _ HCW.out.2 hco1 Hro.out
  have hCo1 := HCW.out.1.trans hco1
  have HW1 : Hid (Co13 w W1 base (.slice va xs.length vc) v1 (xs ++ x) ∧ Below B.heap.size B W1 ∧ gp < W1.heap.size ∧ N < W1.heap.size ∧ base ≤ W1.heap.size ∧ v1.ownBlock ≠ some N) := ⟨hCo1, hB1, Nat.lt_of_lt_of_le HW.out.1 hco1.g.size, Nat.lt_of_lt_of_le HW.out.2.1 hco1.g.size, Nat.le_trans HW.out.2.2.1 hco1.g.size, u2⟩
  clear hco1 hB1 hCo1 u1 u2 k1 k2 HCW HI1
  go_wp2_with fail
  refine Calls.mono (HI2.out W1 v1 HW1.out.1.row HW1.out.2.2.2.2.1 HW1.out.2.1) ?_
  rintro e W2 ⟨v2, rfl, hco2⟩
  obtain ⟨k2, _⟩ := hco2.keep HW1.out.2.2.2.1 HW1.out.2.2.2.2.2
  replace m0 := (World.cell?_of_block (a := ⟨N, 0, none⟩) k2).trans m0
  have hCo2 := HW1.out.1.trans hco2
  obtain ⟨a2, cc2, rfl⟩ := zaE hCo2.row
  obtain ⟨a', c', Y, hrun, hco3⟩ := hCo2.push (kd, r, r + 1, r, []) HL.out
  have HF : Hid (Co13 w Y base (.slice va xs.length vc) (.slice a' ((xs ++ x ++ y).length + 1) c') ((xs ++ x ++ y) ++ [(kd, r, r + 1, r, [])])) := hco3
  clear hco2 hCo2 hco3 k2 c0 c1 HI2 HW1
  generalize (xs ++ x ++ y).length = nl at *
  go_wp2_with (at_builtin; refine wpList_append_run rfl (.tmp 143) (.tmp 155) 49 rfl _ _ _ rfl rfl hrun ?_; clear hrun)
  go_ret
  refine ⟨_, rfl, ?_⟩
  rw [HA.out]
  exact HF.out
structure Ab (w X : World) (g1 g2 g3 k m : Nat) : Prop where
 a : Nb X g1 0 k
 r : Nb X g2 0 0
 n : Nb X g3 0 m
 h1 : g1 < g2
 h2 : g2 < g3
 h0 : w.heap.size ≤ g1
 b : Below w.heap.size w X
theorem Ab.set {w X : World} {g1 g2 g3 k m : Nat} (s : Ab w X g1 g2 g3 k m) (i m2 : Nat) (v : Bool) (hi : i < 60) (hm : ∀ j, j < 60 → (j < m2 ↔ (if j = i then v = true else j < m))) : Ab w (X.setCell ⟨g3, i, none⟩ (.bool v)) g1 g2 g3 k m2 := by
 have hn := s.n.set i m2 v hi hm
 rw [Nat.zero_add] at hn
 have hg := zaC X g3 i (.bool v)
 have := s.h0; have := s.h1; have := s.h2; have := s.n.lt
 exact ⟨s.a.kept hg (by simp; omega), s.r.kept hg (by simp; omega), hn, s.h1, s.h2, s.h0, s.b.grown hg (by omega) (fun q e => by injection e with e; omega)⟩
theorem ziz {i n : Nat} {v : Bool} (hv : v = decide (i < n)) (j : Nat) : j < min (i + 1) n ↔ (if j = i then v = true else j < min i n) := by
 subst hv
 by_cases e : j = i
 ·
  subst e; rw [if_pos rfl, decide_eq_true_iff]; omega
 ·
  rw [if_neg e]; omega
theorem Nb.cut {X : World} {b o n : Nat} (h : Nb X b o (min 60 n)) : Nb X b o n := by
 have e : nvL (min 60 n) = nvL n := zhL (fun j hj => by omega)
 have h1 := h.cs
 rw [e] at h1
 exact ⟨h1, h.ok⟩
theorem zlr (W : World) (b i : Nat) (hi : (i : Int) < 60) : (Instr.indexAt 138 (.pointer (some ⟨b, 0, none⟩)) (.int .i64 (i : Int))).run Tryz.prog W = .ok (.pointer (some ⟨b, i, none⟩)) W := by
 have hu : Tryz.prog.underlying 138 = some (.array (Tryz.prog.arrayLen 138) (Tryz.prog.elem 138)) := by kernel_rfl
 have hl : Tryz.prog.arrayLen 138 = 60 := by kernel_rfl
 have he : Tryz.prog.elem 138 = 4 := by kernel_rfl
 rw [run_indexAt_array _ _ _ _ _ hu, hl, he, if_pos ⟨by omega, by omega⟩, Tryz.sizeOf4]
 simp [Result.andThen, Addr.add_mid]
set_option maxHeartbeats 2000000 in
set_option maxRecDepth 100000 in
theorem zhg (k h : Nat) (w : World) (hh : h ≤ 1000000) :
 Calls Tryz.prog 147 #[.agg (nv k), .int .i64 (h : Int)] w fun e w' => e = .returned (.agg (nv (k + h))) ∧ Below w.heap.size w w' := by
 go_enter Tryz.func147, Tryz.ntmps147
 go_wp2_with (guard_target = wpList _ _ _ _ _ _; first | (refine zbg rfl _ rfl 2 rfl k rfl (fun Y1 g1 hN1 hB1 hG1 => ?_)) | (refine zaP rfl rfl 4 rfl (fun Y2 g2 hN2 hB2 hG2 => ?_)) | (refine zaP rfl rfl 5 rfl (fun Y3 g3 hN3 hB3 hG3 => ?_)) | (refine zgk rfl rfl ?_) | (refine zaO rfl _ _ rfl _ _ 0 rfl rfl hN3.ok (fun Y4 hN4 hG4 => ?_)))
 have HS : Hid (Ab w Y4 g1 g2 g3 k 0) := by
  have l1 := hN1.lt; have l2 := hN2.lt; have l3 := hN3.lt
  have b2 := hB1.trans (hB2.mono hB1.size)
  have b3 := b2.trans (hB3.mono b2.size)
  exact ⟨((hN1.below hB2).below hB3).kept hG4 (by simp; omega), (hN2.below hB3).kept hG4 (by simp; omega), hN4, by omega, by omega, hG1, b3.grown hG4 b3.size (fun q e => by injection e with e; have := hB1.size; omega)⟩
 clear hN1 hB1 hG1 hN2 hB2 hG2 hN3 hB3 hG3 hN4 hG4
 go_loopw [8] (fun iv wx => ∃ i : Nat, iv = .int .i64 (i : Int) ∧ i ≤ 60 ∧ Hid (Ab w wx g1 g2 g3 k (min i (k + h)))) (fun iv _ => 60 - (intOf iv).toNat)
 case atStart => exact ⟨0, rfl, by omega, by rw [Nat.zero_min]; exact HS⟩
 case round =>
  obtain ⟨i, rfl, hi, st⟩ := hrel
  clear HS
  have hix := zlr
  by_cases hlt : (i : Int) < 60
  ·
   have c3 := st.out.n.cell i (by omega)
   have f3 := (st.out.n.ok i (by omega)).2
   rw [Nat.zero_add] at c3 f3
   by_cases hih : (i : Int) < (h : Int)
   ·
    have HR : Hid (Ab w (wr.setCell ⟨g3, i, none⟩ (.bool true)) g1 g2 g3 k (min (i + 1) (k + h))) := st.out.set i _ true (by omega) (fun j _ => ziz (by rw [decide_eq_true (by omega)]) j)
    go_wp2
    go_roundw
    case rel => exact ⟨i + 1, by go_num, by omega, HR⟩
    case measure => simp [intOf]; omega
   ·
    have c1 := st.out.a.cell (i - h) (by omega)
    rw [Nat.zero_add] at c1
    have HR : Hid (Ab w (wr.setCell ⟨g3, i, none⟩ (.bool (decide (i - h < k)))) g1 g2 g3 k (min (i + 1) (k + h))) := st.out.set i _ _ (by omega) (fun j _ => ziz (decide_eq_decide.2 (by omega)) j)
    obtain ⟨q, hq⟩ : ∃ q, i - h = q := ⟨_, rfl⟩
    rw [hq] at c1 HR
    have hqi : (i : Int) - (h : Int) = (q : Int) := by omega
    have hq6 : (q : Int) < 60 := by omega
    go_wp2
    go_roundw
    case rel => exact ⟨i + 1, by go_num, by omega, HR⟩
    case measure => simp [intOf]; omega
  ·
   have hi6 : i = 60 := by omega
   subst hi6
   have h3 := st.out.n.cut
   go_wp2_with (guard_target = wpList _ _ _ _ _ _; first | (refine zax rfl _ rfl 24 rfl _ _ (k + h) rfl (by exact h3.cs) ?_) | (refine zaO rfl _ _ rfl _ _ (k + h) rfl rfl st.out.r.ok (fun Y5 hN5 hG5 => ?_)))
   refine bodyPost_ret (v := .agg (nv (k + h))) (zcb Tryz.results147 _ _ g2 (k + h) rfl hN5.cs) rfl ⟨rfl, ?_⟩
   exact st.out.b.grown hG5 st.out.b.size (fun q e => by injection e with e; have := st.out.h0; have := st.out.h1; omega)
theorem indexV55 (k : Nat) (W : World) (i : Nat) (hi : (i : Int) < 60) : (Instr.index 138 (.agg (nv k)) (.int .i64 (i : Int))).run Tryz.prog W = .ok (.bool (decide (i < k))) W := by
 simp [Instr.index, run_underlying Tryz.underlying138, asIntOf, Tryz.sizeOf4, part, isAgg, run_underlying Tryz.underlying4, zkJ k i (by omega), show i < 60 by omega]
def NsIn (w : World) (a : Option Addr) (ks : List Nat) : Prop := ∀ j, j < ks.length → ∃ b off, a = some ⟨b, off, none⟩ ∧ b < w.heap.size ∧ w.rangeAt b (off + j * 60) (nvL (ks.getD j 0))
theorem zbN {w w' : World} {b o : Nat} {cs : List Value} (h : w.rangeAt b o cs) (hb : w'.heap[b]? = w.heap[b]?) : w'.rangeAt b o cs := fun j v hv => (World.cell?_of_block (a := ⟨b, o + j, none⟩) hb).trans (h j v hv)
theorem NsIn.below {w w' : World} {a : Option Addr} {ks : List Nat} (h : NsIn w a ks) (hb : Below w.heap.size w w') : NsIn w' a ks := fun j hj => by
 obtain ⟨b, off, e, hl, hc⟩ := h j hj
 exact ⟨b, off, e, Nat.lt_of_lt_of_le hl hb.size, zbN hc (hb.block b hl)⟩
def gr (ks : List Nat) : Nat := ks.foldl max 1
theorem gr_snoc (ks : List Nat) (j : Nat) (hj : j < ks.length) : gr (ks.take (j + 1)) = max (gr (ks.take j)) (ks.getD j 0) := by
 have hg : ks.getD j 0 = ks[j] := by simp [List.getD, hj]
 rw [hg, List.take_succ_eq_append_getElem hj]
 unfold gr
 rw [List.foldl_append]
 rfl
theorem Nb.like {X : World} {b o m n : Nat} (h : Nb X b o m) (e : ∀ j, j < 60 → (j < m ↔ j < n)) : Nb X b o n := by
 have h1 := h.cs
 rw [zhL e] at h1
 exact ⟨h1, h.ok⟩
structure Gr (w X : World) (g2 g3 m : Nat) : Prop where
 r : Nb X g2 0 0
 n : Nb X g3 0 m
 h2 : g2 < g3
 h0 : w.heap.size ≤ g2
 b : Below w.heap.size w X
theorem Gr.below {w X Y : World} {g2 g3 m : Nat} (s : Gr w X g2 g3 m) (hb : Below X.heap.size X Y) : Gr w Y g2 g3 m := ⟨s.r.below hb, s.n.below hb, s.h2, s.h0, s.b.trans (hb.mono s.b.size)⟩
theorem Gr.kept {w X Y : World} {g2 g3 m q : Nat} (s : Gr w X g2 g3 m) (hg : X.grownBy Y (some q)) (hq : g3 < q) : Gr w Y g2 g3 m := by
 have := s.h0; have := s.h2
 exact ⟨s.r.kept hg (by simp; omega), s.n.kept hg (by simp; omega), s.h2, s.h0, s.b.grown hg s.b.size (fun q' e => by injection e with e; omega)⟩
theorem Gr.set {w X : World} {g2 g3 m : Nat} (s : Gr w X g2 g3 m) (i m2 : Nat) (v : Bool) (hi : i < 60) (hm : ∀ j, j < 60 → (j < m2 ↔ (if j = i then v = true else j < m))) : Gr w (X.setCell ⟨g3, i, none⟩ (.bool v)) g2 g3 m2 := by
 have hn := s.n.set i m2 v hi hm
 rw [Nat.zero_add] at hn
 have hg := zaC X g3 i (.bool v)
 have := s.h0; have := s.h2; have := s.n.lt
 exact ⟨s.r.kept hg (by simp; omega), hn, s.h2, s.h0, s.b.grown hg s.b.size (fun q e => by injection e with e; omega)⟩
theorem Gr.like {w X : World} {g2 g3 m n : Nat} (s : Gr w X g2 g3 m) (e : ∀ j, j < 60 → (j < m ↔ j < n)) : Gr w X g2 g3 n := ⟨s.r, s.n.like e, s.h2, s.h0, s.b⟩
theorem ziA {i m k : Nat} {v : Bool} (hv : v = (decide (i < max m (min i k)) || decide (i < k))) (j : Nat) : j < max m (min (i + 1) k) ↔ (if j = i then v = true else j < max m (min i k)) := by
 subst hv
 by_cases e : j = i
 ·
  subst e; rw [if_pos rfl, Bool.or_eq_true, decide_eq_true_iff, decide_eq_true_iff]; omega
 ·
  rw [if_neg e]; omega
set_option maxHeartbeats 4000000 in
set_option maxRecDepth 100000 in
theorem zc2 (a : Option Addr) (n c : Nat) (ks : List Nat) (w : World) (hn : ks.length = n) (hin : NsIn w a ks) (hnl : n ≤ 1048576) :
 Calls Tryz.prog 146 #[.slice a n c] w fun e w' => e = .returned (.agg (nv (gr ks))) ∧ Below w.heap.size w w' := by
 have HIn : Hid (∀ X, Below w.heap.size w X → NsIn X a ks) := fun X hb => hin.below hb
 have HN : Hid (ks.length = n) := hn
 clear hin hn
 go_enter Tryz.func146, Tryz.ntmps146
 go_wp2_with (guard_target = wpList _ _ _ _ _ _; first | (refine zaP rfl rfl 2 rfl (fun Y2 g2 hN2 hB2 hG2 => ?_)) | (refine zaP rfl rfl 3 rfl (fun Y3 g3 hN3 hB3 hG3 => ?_)) | (refine zfw rfl rfl ?_) | (refine zaO rfl _ _ rfl _ _ 1 rfl rfl hN3.ok (fun Y4 hN4 hG4 => ?_)))
 have HS : Hid (Gr w Y4 g2 g3 1) := by
  have l2 := hN2.lt; have l3 := hN3.lt
  have b3 := hB2.trans (hB3.mono hB2.size)
  exact ⟨(hN2.below hB3).kept hG4 (by simp; omega), hN4, by omega, hG2, b3.grown hG4 b3.size (fun q e => by injection e with e; have := hB2.size; omega)⟩
 clear hN2 hB2 hG2 hN3 hB3 hG3 hN4 hG4
 go_loopw [11] (fun jv wx => ∃ j : Nat, jv = .int .i64 (j : Int) ∧ j ≤ n ∧ Hid (Gr w wx g2 g3 (gr (ks.take j)))) (fun jv _ => n - (intOf jv).toNat)
 case atStart => exact ⟨0, rfl, Nat.zero_le _, HS⟩
 case round =>
  obtain ⟨j, rfl, hj, st⟩ := hrel
  clear HS
  by_cases hlt : (j : Int) < (n : Int)
  ·
   obtain ⟨b, off, rfl, hbl, hrg⟩ := HIn.out wr st.out.b j (by rw [HN.out]; omega)
   have HSn : Hid (gr (ks.take (j + 1)) = max (gr (ks.take j)) (ks.getD j 0)) := gr_snoc ks j (by rw [HN.out]; omega)
   obtain ⟨k, hk⟩ : ∃ k, ks.getD j 0 = k := ⟨_, rfl⟩
   obtain ⟨m, hm⟩ : ∃ m, gr (ks.take j) = m := ⟨_, rfl⟩
   rw [hk] at hrg HSn
   rw [hm] at st HSn
   clear hk hm
   go_wp2_with (guard_target = wpList _ _ _ _ _ _; first | (refine zax rfl _ rfl 14 rfl _ _ k rfl (by exact hrg) ?_) | (refine zaP rfl rfl 5 rfl (fun Y5 g5 hN5 hB5 hG5 => ?_)) | (refine zaO rfl _ _ rfl _ _ k rfl rfl hN5.ok (fun Y6 hN6 hG6 => ?_)) | (refine zax rfl _ rfl 15 rfl _ _ k rfl (by exact hN6.cs) ?_))
   have HS6 : Hid (Gr w Y6 g2 g3 m) := (st.out.below hB5).kept hG6 (by have := st.out.n.lt; omega)
   clear hN5 hB5 hG5 hN6 hG6 hrg
   have hix := indexV55 k
   have hjx := zlr
   go_loopw [16] (fun iv wx => ∃ i : Nat, iv = .int .i64 (i : Int) ∧ i ≤ 60 ∧ Hid (Gr w wx g2 g3 (max m (min i k)))) (fun iv _ => 60 - (intOf iv).toNat)
   case atStart => exact ⟨0, rfl, by omega, by rw [Nat.zero_min, Nat.max_zero]; exact HS6⟩
   case round =>
    obtain ⟨i, rfl, hi, sti⟩ := hrel
    clear HS6
    rename World => W
    by_cases hlt6 : (i : Int) < 60
    ·
     have c3 := sti.out.n.cell i (by omega)
     have f3 := (sti.out.n.ok i (by omega)).2
     rw [Nat.zero_add] at c3 f3
     by_cases hd : i < max m (min i k)
     ·
      rw [decide_eq_true hd] at c3
      have HR : Hid (Gr w (W.setCell ⟨g3, i, none⟩ (.bool true)) g2 g3 (max m (min (i + 1) k))) := sti.out.set i _ true (by omega) (fun j _ => ziA (by rw [decide_eq_true hd]; rfl) j)
      clear hd
      go_wp2
      go_roundw
      case rel => exact ⟨i + 1, by go_num, by omega, HR⟩
      case measure => simp [intOf]; omega
     ·
      rw [decide_eq_false hd] at c3
      have HR : Hid (Gr w (W.setCell ⟨g3, i, none⟩ (.bool (decide (i < k)))) g2 g3 (max m (min (i + 1) k))) := sti.out.set i _ _ (by omega) (fun j _ => ziA (by rw [decide_eq_false hd]; rfl) j)
      clear hd
      go_wp2
      go_roundw
      case rel => exact ⟨i + 1, by go_num, by omega, HR⟩
      case measure => simp [intOf]; omega
    ·
     have HR : Hid (Gr w W g2 g3 (gr (ks.take (j + 1)))) := by
      have h6 : i = 60 := by omega
      rw [HSn.out]
      refine sti.out.like (fun q hq => ?_)
      omega
     go_wp2
     go_roundw
     case rel => exact ⟨j + 1, by go_num, by omega, HR⟩
     case measure => simp [intOf]; omega
  ·
   have HE : Hid (gr (ks.take j) = gr ks) := by exact (by rw [List.take_of_length_le (by rw [HN.out]; omega)] : gr (ks.take j) = gr ks)
   rw [HE.out] at st
   go_wp2_with (guard_target = wpList _ _ _ _ _ _; first | (refine zax rfl _ rfl 30 rfl _ _ (gr ks) rfl (by exact st.out.n.cs) ?_) | (refine zaO rfl _ _ rfl _ _ (gr ks) rfl rfl st.out.r.ok (fun Y5 hN5 hG5 => ?_)))
   refine bodyPost_ret (v := .agg (nv (gr ks))) (zcb Tryz.results146 _ _ g2 (gr ks) rfl hN5.cs) rfl ⟨rfl, ?_⟩
   exact st.out.b.grown hG5 st.out.b.size (fun q e => by injection e with e; have := st.out.h0; omega)
theorem zgp : ∃ i, Tryz.prog.info? 138 = some i ∧ i.zero = some (.agg (nv 0)) ∧ i.size = 60 ∧ i.bytes = 60 := by
 have h := info55
 cases hq : Tryz.prog.info? 138 with
 | none => rw [hq] at h; cases h
 | some i =>
  rw [hq] at h
  injection h with h
  injection h with h1 h
  injection h with h2 h3
  exact ⟨i, rfl, h1, h2, h3⟩
theorem ns_new (w : World) (x y : Nat) (t : TypeId) : NsIn (w.alloc (.cells (nvL x ++ nvL y).toArray t)) (some ⟨w.heap.size, 0, none⟩) [x, y] := by
 have hA := heap_alloc_new w (.cells (nvL x ++ nvL y).toArray t)
 have hs : w.heap.size < (w.alloc (.cells (nvL x ++ nvL y).toArray t)).heap.size := by simp
 intro j hj
 refine ⟨_, 0, rfl, hs, fun q v hv => ?_⟩
 have hq : q < 60 := by have := (List.getElem?_eq_some_iff.1 hv).1; rw [zbp] at this; exact this
 rw [cell_of_row _ _ _ _ _ _ hA]
 have hj2 : j = 0 ∨ j = 1 := by simp at hj; omega
 rcases hj2 with rfl | rfl
 ·
  simp only [Nat.zero_mul, Nat.zero_add, List.getElem?_toArray]
  rw [List.getElem?_append_left (by rw [zbp]; exact hq)]
  exact hv
 ·
  simp only [Nat.one_mul, Nat.zero_add, List.getElem?_toArray]
  rw [List.getElem?_append_right (by rw [zbp]; omega), zbp, Nat.add_sub_cancel_left]
  exact hv
section
variable {ops : Array Oper} {rest : List Oper} {op : Oper} {a : Act} {w : World} {Q : Exit → Act → World → Prop} {K : Act → World → Prop}
theorem zcT (p q : Operand) (ho : op.op = .buildSlice 105 2 #[(0, p), (1, q)]) (x y : Nat) (hp : a.eval p = .agg (nv x)) (hq : a.eval q = .agg (nv y))
 (h : ∀ Y g, NsIn Y (some ⟨g, 0, none⟩) [x, y] → Below w.heap.size w Y → w.heap.size ≤ g → K (a.put op.dst (.slice (some ⟨g, 0, none⟩) 2 2)) Y) : op.wp Tryz.prog a w K Q := by
 obtain ⟨i, hi, hz, hs, _⟩ := zgp
 refine wp_buildSlice _ _ 2 _ ho (nvL x ++ nvL y).toArray i _ Tryz.underlying105 hi hz (by rw [hs]; omega) (by rw [hs]; omega) ?_ (h _ _ (ns_new w x y _) ((Below.refl _ _).alloc (Nat.le_refl _) _) (Nat.le_refl _))
 have hf := Great.fill_whole (s := 60) (by omega) [.agg (nv x), .agg (nv y)] ((Array.range (2 * i.size)).map ((Value.agg (nv 0)).cells[· % (Value.agg (nv 0)).cells.size]!)) (fun v hv => by
  simp only [List.mem_cons, List.not_mem_nil, or_false] at hv
  rcases hv with rfl | rfl
  ·
   exact zdN x
  ·
   exact zdN y) (by simp [hs])
 have hfl : ([Value.agg (nv x), .agg (nv y)].flatMap fun v => v.cells.toList) = nvL x ++ nvL y := by simp [Value.cells, nv]
 rw [hfl] at hf
 rw [hs] at hf ⊢
 simp only [List.map_toArray, List.map_cons, List.map_nil, hp, hq]
 exact hf
theorem zfu (hgd : op.guard = none) (p q : Operand) (ho : op.op = .buildSlice 105 2 #[(0, p), (1, q)]) (x y : Nat) (hp : a.eval p = .agg (nv x)) (hq : a.eval q = .agg (nv y))
 (h : ∀ Y g, NsIn Y (some ⟨g, 0, none⟩) [x, y] → Below w.heap.size w Y → w.heap.size ≤ g → wpList Tryz.prog ops Q rest (a.put op.dst (.slice (some ⟨g, 0, none⟩) 2 2)) Y) : wpList Tryz.prog ops Q (op :: rest) a w :=
 wpList_plain hgd fun _ hK => zcT p q ho x y hp hq (fun Y g h1 h2 h3 => hK _ _ (h Y g h1 h2 h3))
theorem src_new (w : World) (k : Nat) (t : TypeId) : Src (w.alloc (.cells (nv k) t)) (.slice (some ⟨w.heap.size, 0, none⟩) 1 1) 1 60 (nvL k) :=
 ⟨by rw [zbp], zkK k, Or.inr ⟨_, 1, rfl, fun j u hu => by rw [Addr.add_mid]; exact (Nb.new w k t).cs j u hu⟩⟩
theorem zgF (p : Operand) (ho : op.op = .buildSlice 105 1 #[(0, p)]) (k : Nat) (hp : a.eval p = .agg (nv k))
 (h : K (a.put op.dst (.slice (some ⟨w.heap.size, 0, none⟩) 1 1)) (w.alloc (.cells (nv k) 138))) : op.wp Tryz.prog a w K Q := by
 obtain ⟨i, hi, hz, hs, _⟩ := zgp
 refine wp_buildSlice _ _ 1 _ ho (nv k) i _ Tryz.underlying105 hi hz (by rw [hs]; omega) (by rw [hs]; omega) ?_ h
 have hf := Great.fill_whole (s := 60) (by omega) [.agg (nv k)] ((Array.range (1 * i.size)).map ((Value.agg (nv 0)).cells[· % (Value.agg (nv 0)).cells.size]!)) (fun v hv => by
  simp only [List.mem_cons, List.not_mem_nil, or_false] at hv
  rcases hv with rfl
  exact zdN k) (by simp [hs])
 have hfl : ([Value.agg (nv k)].flatMap fun v => v.cells.toList) = nvL k := by simp [Value.cells, nv]
 rw [hfl] at hf
 rw [hs] at hf ⊢
 simp only [List.map_toArray, List.map_cons, List.map_nil, hp]
 exact hf
theorem zfv (hgd : op.guard = none) (p : Operand) (ho : op.op = .buildSlice 105 1 #[(0, p)]) (k : Nat) (hp : a.eval p = .agg (nv k))
 (h : wpList Tryz.prog ops Q rest (a.put op.dst (.slice (some ⟨w.heap.size, 0, none⟩) 1 1)) (w.alloc (.cells (nv k) 138))) : wpList Tryz.prog ops Q (op :: rest) a w :=
 wpList_plain hgd fun _ hK => zgF p ho k hp (hK _ _ h)
end
def zfq (n : Nd) : Bool := decide (3 ≤ n.1) && decide (n.1 ≤ 6)
set_option maxHeartbeats 1000000 in
set_option maxRecDepth 100000 in
theorem zjD (n : Nd) (w : World) : Calls Tryz.prog 144 #[zaa n] w fun e w' => e = .returned (.bool (zfq n)) ∧ Below w.heap.size w w' := by
 obtain ⟨k, a, p, f⟩ := n
 have HP : Hid (zfq (k, a, p, f) = (decide (3 ≤ k) && decide (k ≤ 6))) := rfl
 unfold zaa
 simp only
 obtain ⟨W0, hW0⟩ : ∃ W0, w.alloc (.cells #[.int .i64 k, .int .i64 a, .string ⟨p.toArray⟩, .string ⟨f.toArray⟩] 90) = W0 := ⟨_, rfl⟩
 have st := NdAt.new w k a p f
 have hB : Below w.heap.size w W0 := by rw [← hW0]; exact (Below.refl _ w).alloc (Nat.le_refl _) _
 rw [hW0] at st
 have c0 := st.c0
 clear st
 by_cases h3 : 3 ≤ k
 ·
  by_cases h6 : k ≤ 6
  ·
   have hv : zfq (k, a, p, f) = true := by rw [HP.out, decide_eq_true h3, decide_eq_true h6]; rfl
   rw [hv]
   clear hv HP
   go_enter Tryz.func144, Tryz.ntmps144
   go_wp2
   go_ret
   exact ⟨rfl, hB⟩
  ·
   have hv : zfq (k, a, p, f) = false := by rw [HP.out, decide_eq_true h3, decide_eq_false h6]; rfl
   rw [hv]
   clear hv HP
   go_enter Tryz.func144, Tryz.ntmps144
   go_wp2
   go_ret
   exact ⟨rfl, hB⟩
 ·
  have hv : zfq (k, a, p, f) = false := by rw [HP.out, decide_eq_false h3]; rfl
  rw [hv]
  clear hv HP
  go_enter Tryz.func144, Tryz.ntmps144
  go_wp2
  go_ret
  exact ⟨rfl, hB⟩
structure Tw (w X : World) (g1 g2 g3 x y : Nat) : Prop where
 a : Nb X g1 0 x
 b : Nb X g2 0 y
 r : X.there g3 0 60
 rl : g3 < X.heap.size
 h1 : g1 < g2
 h2 : g2 < g3
 h0 : w.heap.size ≤ g1
 bl : Below w.heap.size w X
section
variable {w X Y : World} {g1 g2 g3 x y k : Nat}
theorem zen {b o n : Nat} (h : X.there b o n) (hb : Y.heap[b]? = X.heap[b]?) : Y.there b o n := fun j hj => by
 rw [World.cell?_of_block (a := ⟨b, o + j, none⟩) hb, World.frozen?_of_block (a := ⟨b, o + j, none⟩) hb]; exact h j hj
theorem Tw.below (s : Tw w X g1 g2 g3 x y) (hb : Below X.heap.size X Y) : Tw w Y g1 g2 g3 x y :=
 ⟨s.a.below hb, s.b.below hb, zen s.r (hb.block _ s.rl), Nat.lt_of_lt_of_le s.rl hb.size, s.h1, s.h2, s.h0, s.bl.trans (hb.mono s.bl.size)⟩
theorem Tw.drew (s : Tw w X g1 g2 g3 x y) : Tw w X.drew g1 g2 g3 x y := s.below ⟨rfl, rfl, rfl, Nat.le_refl _, fun _ _ => rfl⟩
theorem Tw.kept (s : Tw w X g1 g2 g3 x y) (hg : X.grownBy Y (some g3)) (hn : Nb Y g3 0 k) : Tw w Y g1 g2 g3 x y := by
 have := s.h0; have := s.h1; have := s.h2
 exact ⟨s.a.kept hg (by simp; omega), s.b.kept hg (by simp; omega), hn.ok, hn.lt, s.h1, s.h2, s.h0, s.bl.grown hg s.bl.size (fun q e => by injection e with e; omega)⟩
theorem Tw.start {Y1 Y2 Y3 : World} (hN1 : Nb Y1 g1 0 x) (hB1 : Below w.heap.size w Y1) (hG1 : w.heap.size ≤ g1) (hN2 : Nb Y2 g2 0 y) (hB2 : Below Y1.heap.size Y1 Y2) (hG2 : Y1.heap.size ≤ g2) (hN3 : Nb Y3 g3 0 0) (hB3 : Below Y2.heap.size Y2 Y3) (hG3 : Y2.heap.size ≤ g3) : Tw w Y3 g1 g2 g3 x y := by
 have l1 := hN1.lt; have l2 := hN2.lt
 have b2 := hB1.trans (hB2.mono hB1.size)
 exact ⟨(hN1.below hB2).below hB3, hN2.below hB3, hN3.ok, hN3.lt, by omega, by omega, hG1, b2.trans (hB3.mono b2.size)⟩
end
def zeb (x y : Nat) : Nat := if x = y then x + 1 else gr [x, y]
set_option maxHeartbeats 4000000 in
set_option maxRecDepth 100000 in
theorem zfy (x y : Nat) (w : World) (hx : x ≤ 60) (hy : y ≤ 60) :
 Calls Tryz.prog 112 #[.agg (nv x), .agg (nv y)] w fun e w' => e = .returned (.agg (nv (zeb x y))) ∧ Below w.heap.size w w' := by
 have heq := zfK x y hx hy
 by_cases e : x = y
 ·
  have hv : zeb x y = x + 1 := by unfold zeb; rw [if_pos e]
  rw [hv]
  have hd : decide (x = y) = true := decide_eq_true e
  rw [hd] at heq
  clear hv hd e
  go_enter Tryz.func112, Tryz.ntmps112
  go_wp2_with (guard_target = wpList _ _ _ _ _ _; first | (refine zbg rfl _ rfl 2 rfl x rfl (fun Y1 g1 hN1 hB1 hG1 => ?_)) | (refine zbg rfl _ rfl 3 rfl y rfl (fun Y2 g2 hN2 hB2 hG2 => ?_)) | (refine zaP rfl rfl 4 rfl (fun Y3 g3 hN3 hB3 hG3 => ?_)) | (refine zax rfl _ rfl 5 rfl _ _ x rfl (by exact (Tw.start hN1 hB1 hG1 hN2 hB2 hG2 hN3 hB3 hG3).a.cs) ?_) | (refine zax rfl _ rfl 6 rfl _ _ y rfl (by exact (Tw.start hN1 hB1 hG1 hN2 hB2 hG2 hN3 hB3 hG3).b.cs) ?_) | (refine zax rfl _ rfl 8 rfl _ _ x rfl (by exact (Tw.start hN1 hB1 hG1 hN2 hB2 hG2 hN3 hB3 hG3).a.cs) ?_))
  refine (zhg x 1 _ (by omega)).mono ?_
  rintro e W5 ⟨rfl, hb5⟩
  have st := (Tw.start hN1 hB1 hG1 hN2 hB2 hG2 hN3 hB3 hG3).below hb5
  go_wp2_with (guard_target = wpList _ _ _ _ _ _; (refine zaO rfl _ _ rfl _ _ (x + 1) rfl rfl st.r (fun Y6 hN6 hG6 => ?_)))
  refine bodyPost_ret (v := .agg (nv (x + 1))) (zcb Tryz.results112 _ _ g3 (x + 1) rfl hN6.cs) rfl ⟨rfl, ?_⟩
  exact (st.kept hG6 hN6).bl
 ·
  have hv : zeb x y = gr [x, y] := by unfold zeb; rw [if_neg e]
  rw [hv]
  have hd : decide (x = y) = false := decide_eq_false e
  rw [hd] at heq
  clear hv hd e
  go_enter Tryz.func112, Tryz.ntmps112
  go_wp2_with (guard_target = wpList _ _ _ _ _ _; first | (refine zbg rfl _ rfl 2 rfl x rfl (fun Y1 g1 hN1 hB1 hG1 => ?_)) | (refine zbg rfl _ rfl 3 rfl y rfl (fun Y2 g2 hN2 hB2 hG2 => ?_)) | (refine zaP rfl rfl 4 rfl (fun Y3 g3 hN3 hB3 hG3 => ?_)) | (refine zax rfl _ rfl 5 rfl _ _ x rfl (by exact (Tw.start hN1 hB1 hG1 hN2 hB2 hG2 hN3 hB3 hG3).a.cs) ?_) | (refine zax rfl _ rfl 6 rfl _ _ y rfl (by exact (Tw.start hN1 hB1 hG1 hN2 hB2 hG2 hN3 hB3 hG3).b.cs) ?_) | (refine zax rfl _ rfl 10 rfl _ _ x rfl (by exact (Tw.start hN1 hB1 hG1 hN2 hB2 hG2 hN3 hB3 hG3).a.cs) ?_) | (refine zax rfl _ rfl 11 rfl _ _ y rfl (by exact (Tw.start hN1 hB1 hG1 hN2 hB2 hG2 hN3 hB3 hG3).b.cs) ?_) | (refine zfu rfl _ _ rfl x y rfl rfl (fun Y4 g4 hN4 hB4 _ => ?_)))
  refine (zc2 _ 2 2 [x, y] _ rfl hN4 (by omega)).mono ?_
  rintro e W5 ⟨rfl, hb5⟩
  have st := ((Tw.start hN1 hB1 hG1 hN2 hB2 hG2 hN3 hB3 hG3).below hB4).below hb5
  go_wp2_with (guard_target = wpList _ _ _ _ _ _; (refine zaO rfl _ _ rfl _ _ (gr [x, y]) rfl rfl st.r (fun Y6 hN6 hG6 => ?_)))
  refine bodyPost_ret (v := .agg (nv (gr [x, y]))) (zcb Tryz.results112 _ _ g3 (gr [x, y]) rfl hN6.cs) rfl ⟨rfl, ?_⟩
  exact (st.kept hG6 hN6).bl
end Go.Proofs.YtkpdoedpkncboaaGreat
