/-
  Parts of one proof, one behind the other: NeedS3, IntoS2, IntoS3.
-/
import Derived.Test.YtogobeegibngiaaGreatDoorP10
import Derived.Test.YtogobeegibngiaaGreatDoorP3
import Derived.Deep.RegionHeld
import Derived.Deep.Cut
import Derived.Test.YtogobeegibngiaaGreatDoorP9
import Derived.Test.YtogobeegibngiaaGreatDoorP6

/-! The contracts of chapter 12's specification: Need, NeedBy, FirstPart. -/
namespace Go.Proofs.YtogobeegibngiaaGreatDoor
open Go.RowKit

theorem One.good12 {s : List Nd} (h : One s) : Good10 s := by
  induction h with
  | mk n ks hn _ _ ih =>
    intro m hm
    rcases List.mem_cons.1 hm with e | e
    · rw [e]; exact hn
    · obtain ⟨k, hk, h2⟩ := List.mem_flatten.1 e
      exact ih k hk m h2
theorem end_zero {t : List Nd} (h : One t) : 0 ≤ endV t ((0 : Nat) : Int) := by rw [endV_sub (post := []) (by simp) h]; omega
theorem as_nil (w : World) : AsIn w none [] := fun j hj => by simp at hj



set_option maxHeartbeats 2000000 in
set_option maxRecDepth 100000 in
theorem specFirst12 (ta : Option Addr) (cap : Nat) (t : List Nd) (a : Nat) (w : World) (hin : NodesIn w ta t.length t) (hsh : ShortT t) (hb : treeB t = true) (ha : a < t.length) (h36 : 3 ≤ (t.getD a nd0).1 ∧ (t.getD a nd0).1 ≤ 6) :
    Calls Tryz.prog 94 #[.slice ta t.length cap, .int .i64 (a : Int)] w fun e w' => e = .returned (.int .i64 (firstT t (a : Int))) ∧ Below w.heap.size w w' := by
  obtain ⟨hl, ho⟩ := treeB_one.1 hb
  have hgood := ho.good12
  have hmem : t.getD a nd0 ∈ t := by simp [List.getD, ha]
  have hk2 : kidsN (t.getD a nd0) = 2 := kids_four h36
  have hpe : partsGo t (kidsN (t.getD a nd0)) ((a : Int) + 1) = pts10 t (a : Int) := by unfold pts10; rw [Int.toNat_natCast]
  have HPt : Hid (_) := specParts ta cap t a w hin hsh (by omega) ha (hgood _ hmem)
  rw [hpe, hk2] at HPt
  have hpl : (pts10 t (a : Int)).length = 2 := by rw [pts_len, hk2]
  obtain ⟨p, hp, _, hpe0⟩ := need_place (tree_ends ho ha) (i := 0) (by omega)
  obtain ⟨q, hq, _, hqe0⟩ := need_place (tree_ends ho ha) (i := 1) (by omega)
  have HFt : Hid (firstT t (a : Int) = if need12 60 t [] (q : Int) ≤ need12 60 t [] (p : Int) then 0 else 1) := by
    exact (by unfold firstT; rw [Int.toNat_natCast, if_pos ⟨hb, by omega, by omega, h36.1, h36.2⟩, hp, hq] : firstT t (a : Int) = if need12 60 t [] (q : Int) ≤ need12 60 t [] (p : Int) then 0 else 1)
  have HCp : Hid (∀ Y, Below w.heap.size w Y → Calls Tryz.prog 110 #[.slice ta t.length cap, .int .i64 (p : Int), .slice none 0 0] Y fun e w' => e = .returned (.int .i64 (need12 60 t [] (p : Int))) ∧ Below Y.heap.size Y w') := fun Y hy => specNeed w ta cap t none 0 [] hin (as_nil w) (Or.inl rfl) hsh hgood hl 60 Y p hy hpe0 (by omega)
  have HCq : Hid (∀ Y, Below w.heap.size w Y → Calls Tryz.prog 110 #[.slice ta t.length cap, .int .i64 (q : Int), .slice none 0 0] Y fun e w' => e = .returned (.int .i64 (need12 60 t [] (q : Int))) ∧ Below Y.heap.size Y w') := fun Y hy => specNeed w ta cap t none 0 [] hin (as_nil w) (Or.inl rfl) hsh hgood hl 60 Y q hy hqe0 (by omega)
  generalize need12 60 t [] (p : Int) = x at HCp HFt
  generalize need12 60 t [] (q : Int) = y at HCq HFt
  generalize firstT t (a : Int) = res at HFt ⊢
  generalize pts10 t (a : Int) = pts at HPt hpl hp hq
  clear hpe hk2 hmem hgood ho hpe0 hqe0 hin hsh hb
  go_enter Tryz.func94, Tryz.ntmps94
  go_wp2_with fail
  refine Calls.mono HPt.out ?_
  rintro e V ⟨v, rfl, hv, hbV⟩
  obtain ⟨gp, cp, rfl⟩ := own_some hv (by omega)
  have c0 : V.cell? ⟨gp, 0, none⟩ = some (.int .i64 (p : Int)) := by rw [← hp]; exact ints_cell hv 0 (by omega)
  have c1 : V.cell? ⟨gp, 1, none⟩ = some (.int .i64 (q : Int)) := by rw [← hq]; exact ints_cell hv 1 (by omega)
  have hgl := (hv.lt gp rfl).2
  have hBV : Below w.heap.size w V.drew := ⟨hbV.os, hbV.tape, hbV.output, hbV.size, hbV.block⟩
  clear hv HPt hp hq hbV
  go_upto_region 2 with fail
  go_cut [19] from 9 (fun v wx => v = .bool (decide (y ≤ x)) ∧ Hid (Below w.heap.size w wx))
  case first =>
    refine wp_region_held_drew (S := (fun w' => w'.cell? ⟨gp, 0, none⟩ = some (.int .i64 (p : Int)) ∧ w'.cell? ⟨gp, 1, none⟩ = some (.int .i64 (q : Int)))) (by kernel_rfl) ?_ (fun hHeld => ?_)
    · first | (dsimp only; done) | (dsimp only; go_keep) | go_keep
    refine wpAnyH_take (i := 0) (oi := ⟨some 9, _, _, _, _, _⟩) (v := ?vf0) rfl (by kernel_rfl) (by kernel_rfl) (by kernel_rfl) (fun _ _ _ h => h) (Or.inl ⟨by rfl, ?hyf0⟩) (by assumption) ?restf0
    case hyf0 => (intro wq hSw; (try dsimp only at hSw); first | (go_simp; done) | (go_simp; with_reducible rfl))
    simp only [Act.put, List.setIfInBounds_toArray, List.set_cons_zero, List.set_cons_succ]
    refine wpAnyH_take (i := 1) (oi := ⟨some 10, _, _, _, _, _⟩) (v := ?vf1) rfl (by kernel_rfl) (by kernel_rfl) (by kernel_rfl) (fun _ _ _ h => h) (Or.inl ⟨by rfl, ?hyf1⟩) (by assumption) ?restf1
    case hyf1 => (intro wq hSw; (try dsimp only at hSw); first | (go_simp; done) | (go_simp; with_reducible rfl))
    simp only [Act.put, List.setIfInBounds_toArray, List.set_cons_zero, List.set_cons_succ]
    refine wpAnyH_take (i := 2) (oi := ⟨some 11, _, _, _, _, _⟩) (v := ?vf2) rfl (by kernel_rfl) (by kernel_rfl) (by kernel_rfl) (fun _ _ _ h => h) (Or.inl ⟨by rfl, ?hyf2⟩) (by assumption) ?restf2
    case hyf2 => (intro wq hSw; (try dsimp only at hSw); first | (go_simp; done) | (go_simp; with_reducible rfl))
    simp only [Act.put, List.setIfInBounds_toArray, List.set_cons_zero, List.set_cons_succ]
    refine wpAnyH_take (i := 3) (oi := ⟨some 12, _, _, _, _, _⟩) (v := ?vf3) rfl (by kernel_rfl) (by kernel_rfl) (by kernel_rfl) (fun _ _ _ h => h) (Or.inl ⟨by rfl, ?hyf3⟩) (by assumption) ?restf3
    case hyf3 => (intro wq hSw; (try dsimp only at hSw); first | (go_simp; done) | (go_simp; with_reducible rfl))
    simp only [Act.put, List.setIfInBounds_toArray, List.set_cons_zero, List.set_cons_succ]
    refine wpAnyH_take (i := 5) (oi := ⟨some 14, _, _, _, _, _⟩) (v := ?vf5) rfl (by kernel_rfl) (by kernel_rfl) (by kernel_rfl) (fun _ _ _ h => h) (Or.inl ⟨by rfl, ?hyf5⟩) (by assumption) ?restf5
    case hyf5 => (intro wq hSw; (try dsimp only at hSw); first | (go_simp; done) | (go_simp; with_reducible rfl))
    simp only [Act.put, List.setIfInBounds_toArray, List.set_cons_zero, List.set_cons_succ]
    refine wpAnyH_take (i := 6) (oi := ⟨some 15, _, _, _, _, _⟩) (v := ?vf6) rfl (by kernel_rfl) (by kernel_rfl) (by kernel_rfl) (fun _ _ _ h => h) (Or.inl ⟨by rfl, ?hyf6⟩) (by assumption) ?restf6
    case hyf6 => (intro wq hSw; (try dsimp only at hSw); first | (go_simp; done) | (go_simp; with_reducible rfl))
    simp only [Act.put, List.setIfInBounds_toArray, List.set_cons_zero, List.set_cons_succ]
    refine wpAnyH_take (i := 7) (oi := ⟨some 16, _, _, _, _, _⟩) (v := ?vf7) rfl (by kernel_rfl) (by kernel_rfl) (by kernel_rfl) (fun _ _ _ h => h) (Or.inl ⟨by rfl, ?hyf7⟩) (by assumption) ?restf7
    case hyf7 => (intro wq hSw; (try dsimp only at hSw); first | (go_simp; done) | (go_simp; with_reducible rfl))
    simp only [Act.put, List.setIfInBounds_toArray, List.set_cons_zero, List.set_cons_succ]
    refine wpAnyH_take (i := 8) (oi := ⟨some 17, _, _, _, _, _⟩) (v := ?vf8) rfl (by kernel_rfl) (by kernel_rfl) (by kernel_rfl) (fun _ _ _ h => h) (Or.inl ⟨by rfl, ?hyf8⟩) (by assumption) ?restf8
    case hyf8 => (intro wq hSw; (try dsimp only at hSw); first | (go_simp; done) | (go_simp; with_reducible rfl))
    simp only [Act.put, List.setIfInBounds_toArray, List.set_cons_zero, List.set_cons_succ]
    refine wpAnyH_ready (rs := [4]) (by kernel_rfl) (by simp) ?_
    refine AllReadyH.cons rfl (fun K hK => ?_) AllReadyH.nil
    go_simp
    go_at_call 110; refine Calls.mono (HCp.out _ hBV) ?_; rintro e wn ⟨rfl, hbn⟩; have hgn : gp < wn.heap.size := Nat.lt_of_lt_of_le hgl hbn.size; replace c0 := (hbn.cell (p := ⟨gp, 0, none⟩) hgl).trans c0; replace c1 := (hbn.cell (p := ⟨gp, 1, none⟩) hgl).trans c1; have hB2 := hBV.trans (hbn.mono hBV.size); clear hbn; dsimp only
    refine hK.out _ _ ?_ (fun hHeld => ?_)
    · first | (dsimp only; done) | (dsimp only; go_keep) | go_keep
    clear hK K
    refine wpAnyH_ready (rs := [9]) (by kernel_rfl) (by simp) ?_
    refine AllReadyH.cons rfl (fun K hK => ?_) AllReadyH.nil
    go_simp
    go_at_call 110; refine Calls.mono (HCq.out _ hB2) ?_; rintro e wm ⟨rfl, hbm⟩; replace c0 := (hbm.cell (p := ⟨gp, 0, none⟩) hgn).trans c0; replace c1 := (hbm.cell (p := ⟨gp, 1, none⟩) hgn).trans c1; have hB3 := hB2.trans (hbm.mono hB2.size); clear hbm; dsimp only
    refine hK.out _ _ ?_ (fun hHeld => ?_)
    · first | (dsimp only; done) | (dsimp only; go_keep) | go_keep
    clear hK K
    refine wpAnyH_take (i := 10) (oi := ⟨some 19, _, _, _, _, _⟩) (v := ?vf10) rfl (by kernel_rfl) (by kernel_rfl) (by kernel_rfl) (fun _ _ _ h => h) (Or.inl ⟨by rfl, ?hyf10⟩) (by assumption) ?restf10
    case hyf10 => (intro wq hSw; (try dsimp only at hSw); first | (go_simp; done) | (go_simp; with_reducible rfl))
    simp only [Act.put, List.setIfInBounds_toArray, List.set_cons_zero, List.set_cons_succ]
    refine wpAnyH_done (by kernel_rfl) ?_ _
    go_wp2_with fail
    go_meet
    exact ⟨rfl, hB3⟩
  case rest =>
    obtain ⟨rfl, HB⟩ := hcut
    by_cases h : y ≤ x
    · have hd : decide (y ≤ x) = true := decide_eq_true h
      have HF : Hid (res = 0) := by exact (by rw [HFt.out, if_pos h] : res = 0)
      rw [hd]
      clear h hd HFt
      go_wp2
      go_ret
      exact ⟨by rw [HF.out]; rfl, HB.out⟩
    · have hd : decide (y ≤ x) = false := decide_eq_false h
      have HF : Hid (res = 1) := by exact (by rw [HFt.out, if_neg h] : res = 1)
      rw [hd]
      clear h hd HFt
      go_wp2
      go_ret
      exact ⟨by rw [HF.out]; rfl, HB.out⟩


end Go.Proofs.YtogobeegibngiaaGreatDoor

/-! l13Into of a number and of an argument. -/
namespace Go.Proofs.YtogobeegibngiaaGreatDoor
open Go.RowKit

set_option maxHeartbeats 4000000 in
set_option maxRecDepth 100000 in
theorem specInto1 (B : World) (ta : Option Addr) (tc : Nat) (t : List Nd) (hin : NodesIn B ta t.length t) (hsh : ShortT t) (hgood : Good10 t) (hlen : t.length ≤ 60) (d : Nat) (w : World) (a : Nat) (r : Int) (base : Nat) (v : Value) (xs : List In13) (hB : Below B.heap.size B w) (hrow : w.ownsRow base 56 5 v xs.length (insV xs)) (hbase : base ≤ w.heap.size) (hp : 0 ≤ endV t (a : Int)) (hx : xs.length ≤ 100000) (hkd : (t.getD a nd0).1 = 1 ∨ (t.getD a nd0).1 = 2) :
    Calls Tryz.prog 73 #[v, .slice ta t.length tc, .int .i64 (a : Int), .int .i64 r] w fun e w' => ∃ v', e = .returned v' ∧ Co13 w w' base v v' (xs ++ into13 (d + 1) t (a : Int) r (xs.length : Int)) := by
  obtain ⟨hal, _, _, _, _⟩ := end_parts hp
  have hmem : t.getD a nd0 ∈ t := by simp [List.getD, hal]
  have hnb := hgood _ hmem
  have hr : into13 (d + 1) t (a : Int) r (xs.length : Int) = [((t.getD a nd0).1, r, (t.getD a nd0).2.1, 0, [])] := by
    rw [into13, Int.toNat_natCast]
    simp only
    rcases hkd with h | h
    · rw [if_pos h, h]
    · rw [if_neg (by omega), if_pos h, h]
  rw [hr]
  obtain ⟨bt, ot, rfl, hbt, q0, q1, q2, q3⟩ := (hin.below hB).2 a hal
  obtain ⟨va, vc, rfl⟩ := own_any12 hrow
  obtain ⟨n, hn⟩ : ∃ n, t.getD a nd0 = n := ⟨_, rfl⟩
  have hnb2 := hnb
  rw [hn] at q0 q1 q2 q3 hkd hnb2 ⊢
  obtain ⟨kd, nA, np, nf⟩ := n
  simp only at q0 q1 q2 q3 hkd
  obtain ⟨⟨n0, n1, n2, n3⟩, hbg⟩ := node_new12 w (.int .i64 kd) (.int .i64 nA) (.string ⟨np.toArray⟩) (.string ⟨nf.toArray⟩) 91
  obtain ⟨X, hX⟩ : ∃ X, w.alloc (.cells #[.int .i64 kd, .int .i64 nA, .string ⟨np.toArray⟩, .string ⟨nf.toArray⟩] 91) = X := ⟨_, rfl⟩
  obtain ⟨N, hN⟩ : ∃ N, w.heap.size = N := ⟨_, rfl⟩
  rw [hX] at n0 n1 n2 n3 hbg
  rw [hN] at n0 n1 n2 n3
  have hNX : N < X.heap.size := World.block_lt_of_cell? X ⟨N, 0, none⟩ n0
  have hBX : Below B.heap.size B X := hB.trans (hbg.mono hB.size)
  have HPt : Hid (_) := specParts (some ⟨bt, ot, none⟩) tc t a X (hin.below hBX) hsh (by omega) hal hnb
  have HCo : Hid (Co13 w X base (.slice va xs.length vc) (.slice va xs.length vc) xs) := (Co13.new hrow hbase).below hbg
  have HNc : Hid (∀ Y, Below X.heap.size X Y → Y.cell? ⟨N, 0, none⟩ = some (.int .i64 kd) ∧ Y.cell? ⟨N, 1, none⟩ = some (.int .i64 nA)) := fun Y hy => ⟨(hy.cell (p := ⟨N, 0, none⟩) hNX).trans n0, (hy.cell (p := ⟨N, 1, none⟩) hNX).trans n1⟩
  have hal2 : (a : Int) < (t.length : Int) := by omega
  generalize partsGo t (kidsN (t.getD a nd0)) ((a : Int) + 1) = pts at HPt
  generalize kidsN (t.getD a nd0) = kn at HPt
  clear hn hr hmem hnb hnb2 hrow hbase hB hBX hin hsh hgood hbg hp n0 n1 n2 n3
  go_enter Tryz.func73, Tryz.ntmps73
  go_wp2_with fail
  refine Calls.mono HPt.out ?_
  rintro e V ⟨pv, rfl, hpv, hbV⟩
  obtain ⟨m0, m1⟩ := HNc.out V hbV
  have hcv := HCo.out.below hbV
  clear hpv hbV HPt HNc HCo q0 q1 q2 q3
  obtain ⟨a', c', Y, hrun, hco⟩ := hcv.push (kd, r, nA, 0, []) (by omega)
  have HCo : Hid (Co13 w Y base (.slice va xs.length vc) (.slice a' (xs.length + 1) c') (xs ++ [(kd, r, nA, 0, [])])) := hco
  clear hcv hco
  rcases hkd with rfl | rfl
  · go_wp2_with (at_builtin; refine wpList_append_run rfl (.tmp 26) (.tmp 31) 48 rfl _ _ _ rfl rfl hrun ?_; clear hrun)
    go_ret
    exact ⟨_, rfl, HCo.out⟩
  · go_wp2_with (at_builtin; refine wpList_append_run rfl (.tmp 35) (.tmp 40) 48 rfl _ _ _ rfl rfl hrun ?_; clear hrun)
    go_ret
    exact ⟨_, rfl, HCo.out⟩

end Go.Proofs.YtogobeegibngiaaGreatDoor

/-! l13Into of a node of two. -/
namespace Go.Proofs.YtogobeegibngiaaGreatDoor
open Go.RowKit

theorem Co13.keep {w X : World} {base k : Nat} {v0 v : Value} {xs : List In13} (h : Co13 w X base v0 v xs) (hk : k < w.heap.size) (hne : v0.ownBlock ≠ some k) : X.heap[k]? = w.heap[k]? ∧ v.ownBlock ≠ some k := by
  refine ⟨h.g.block k hk (fun e => hne e.symm), fun e => ?_⟩
  rcases h.loc with hl | ⟨q, hq, hqw⟩
  · exact hne (hl.symm.trans e)
  · rw [hq] at e
    injection e with e
    omega
theorem into_len {t : List Nd} (hb : treeB t = true) {p d : Nat} (hp : p < t.length) (hd : t.length ≤ p + d) (r c : Int) (hr : 0 ≤ r) : (into13 d t (p : Int) r c).length ≤ 119 := by
  obtain ⟨s, post, e, hs, h60⟩ := treeB_sub hb hp
  have hl := congrArg List.length e
  rw [List.length_drop, List.length_append] at hl
  have := (into_ok hs d t post p r c h60 (by omega) e hr).len
  omega

set_option maxHeartbeats 8000000 in
set_option maxRecDepth 100000 in
theorem specInto3 (B : World) (ta : Option Addr) (tc : Nat) (t : List Nd) (hin : NodesIn B ta t.length t) (hsh : ShortT t) (hgood : Good10 t) (hlen : t.length ≤ 60) (htb : treeB t = true) (d : Nat) (ih : Int13 B ta tc t d) (w : World) (a : Nat) (r : Int) (base : Nat) (v : Value) (xs : List In13) (hB : Below B.heap.size B w) (hrow : w.ownsRow base 56 5 v xs.length (insV xs)) (hbase : base ≤ w.heap.size) (hbb : B.heap.size ≤ base) (hp : 0 ≤ endV t (a : Int)) (hd : t.length ≤ a + (d + 1)) (hr0 : 0 ≤ r) (hr1 : r + 3 * ((d + 1 : Nat) : Int) ≤ 1000) (hx : xs.length + 400 * (d + 1) ≤ 100000) (h36 : 3 ≤ (t.getD a nd0).1 ∧ (t.getD a nd0).1 ≤ 6) :
    Calls Tryz.prog 73 #[v, .slice ta t.length tc, .int .i64 (a : Int), .int .i64 r] w fun e w' => ∃ v', e = .returned v' ∧ Co13 w w' base v v' (xs ++ into13 (d + 1) t (a : Int) r (xs.length : Int)) := by
  obtain ⟨hal, _, _, _, _⟩ := end_parts hp
  have hmem : t.getD a nd0 ∈ t := by simp [List.getD, hal]
  have hnb := hgood _ hmem
  have hk2 : kidsN (t.getD a nd0) = 2 := kids_four h36
  have hpl : (pts10 t (a : Int)).length = 2 := by rw [pts_len, hk2]
  obtain ⟨p, hpp, hap, hpe⟩ := need_place hp (i := 0) (by omega)
  obtain ⟨q, hqq, haq, hqe⟩ := need_place hp (i := 1) (by omega)
  have hplt : p < t.length := (end_parts hpe).1
  have hqlt : q < t.length := (end_parts hqe).1
  have hfi : firstT t (a : Int) = if need12 60 t [] (q : Int) ≤ need12 60 t [] (p : Int) then 0 else 1 := by
    unfold firstT
    rw [Int.toNat_natCast, if_pos ⟨htb, by omega, by omega, h36.1, h36.2⟩, hpp, hqq]
  have hr : into13 (d + 1) t (a : Int) r (xs.length : Int) = if need12 60 t [] (q : Int) ≤ need12 60 t [] (p : Int) then into13 d t (p : Int) r (xs.length : Int) ++ into13 d t (q : Int) (r + 1) ((xs.length : Int) + (into13 d t (p : Int) r (xs.length : Int)).length) ++ [((t.getD a nd0).1, r, r, r + 1, [])] else into13 d t (q : Int) r (xs.length : Int) ++ into13 d t (p : Int) (r + 1) ((xs.length : Int) + (into13 d t (q : Int) r (xs.length : Int)).length) ++ [((t.getD a nd0).1, r, r + 1, r, [])] := by
    rw [into13, Int.toNat_natCast]
    simp only
    rw [if_neg (by omega), if_neg (by omega), if_neg (by omega), if_neg (by omega), hpp, hqq]
  have hpe2 : partsGo t (kidsN (t.getD a nd0)) ((a : Int) + 1) = pts10 t (a : Int) := by unfold pts10; rw [Int.toNat_natCast]
  obtain ⟨bt, ot, rfl, hbt, q0, q1, q2, q3⟩ := (hin.below hB).2 a hal
  obtain ⟨va, vc, rfl⟩ := own_any12 hrow
  have hvN : ∀ k, w.heap.size ≤ k → (Value.slice va xs.length vc).ownBlock ≠ some k := fun k hk e => by have := (hrow.lt k e).2; omega
  obtain ⟨n, hn⟩ : ∃ n, t.getD a nd0 = n := ⟨_, rfl⟩
  have hFs : ∀ Y, Below B.heap.size B Y → Calls Tryz.prog 94 #[.slice (some ⟨bt, ot, none⟩) t.length tc, .int .i64 (a : Int)] Y fun e w' => e = .returned (.int .i64 (firstT t (a : Int))) ∧ Below Y.heap.size Y w' := fun Y hy => specFirst12 (some ⟨bt, ot, none⟩) tc t a Y (hin.below hy) hsh htb hal h36
  rw [hn] at q0 q1 q2 q3 hr h36
  obtain ⟨kd, nA, np, nf⟩ := n
  simp only at q0 q1 q2 q3 hr h36
  obtain ⟨⟨n0, n1, n2, n3⟩, hbg⟩ := node_new12 w (.int .i64 kd) (.int .i64 nA) (.string ⟨np.toArray⟩) (.string ⟨nf.toArray⟩) 91
  obtain ⟨X, hX⟩ : ∃ X, w.alloc (.cells #[.int .i64 kd, .int .i64 nA, .string ⟨np.toArray⟩, .string ⟨nf.toArray⟩] 91) = X := ⟨_, rfl⟩
  obtain ⟨N, hN⟩ : ∃ N, w.heap.size = N := ⟨_, rfl⟩
  rw [hX] at n0 n1 n2 n3 hbg
  rw [hN] at n0 n1 n2 n3
  have hNX : N < X.heap.size := World.block_lt_of_cell? X ⟨N, 0, none⟩ n0
  have hBX : Below B.heap.size B X := hB.trans (hbg.mono hB.size)
  have HPt : Hid (_) := specParts (some ⟨bt, ot, none⟩) tc t a X (hin.below hBX) hsh (by omega) hal hnb
  rw [hpe2, hk2] at HPt
  have HCo : Hid (Co13 w X base (.slice va xs.length vc) (.slice va xs.length vc) xs) := (Co13.new hrow hbase).below hbg
  have HFs : Hid (∀ Y, Below X.heap.size X Y → Calls Tryz.prog 94 #[.slice (some ⟨bt, ot, none⟩) t.length tc, .int .i64 (a : Int)] Y fun e w' => e = .returned (.int .i64 (firstT t (a : Int))) ∧ Below Y.heap.size Y w') := fun Y hy => hFs Y (hBX.trans (hy.mono hBX.size))
  by_cases hc : need12 60 t [] (q : Int) ≤ need12 60 t [] (p : Int)
  · rw [if_pos hc] at hfi hr
    rw [hr]
    have hxl : (into13 d t (p : Int) r (xs.length : Int)).length ≤ 119 := into_len htb hplt (by omega) r _ hr0
    obtain ⟨x, hxe⟩ : ∃ x, into13 d t (p : Int) r (xs.length : Int) = x := ⟨_, rfl⟩
    rw [hxe] at hxl ⊢
    have hyl : (into13 d t (q : Int) (r + 1) ((xs.length : Int) + (x.length : Int))).length ≤ 119 := into_len htb hqlt (by omega) (r + 1) _ (by omega)
    obtain ⟨y, hye⟩ : ∃ y, into13 d t (q : Int) (r + 1) ((xs.length : Int) + (x.length : Int)) = y := ⟨_, rfl⟩
    rw [hye] at hyl ⊢
    have HI1 : Hid (∀ Y, Co13 w Y base (.slice va xs.length vc) (.slice va xs.length vc) xs → Below B.heap.size B Y → Calls Tryz.prog 73 #[.slice va xs.length vc, .slice (some ⟨bt, ot, none⟩) t.length tc, .int .i64 (p : Int), .int .i64 r] Y fun e w' => ∃ v', e = .returned v' ∧ Co13 Y w' base (.slice va xs.length vc) v' (xs ++ x)) := fun Y hy hb => by
      have := ih Y p r base (.slice va xs.length vc) xs hb hy.row (Nat.le_trans hbase hy.g.size) hbb hpe (by omega) hr0 (by omega) (by omega)
      rw [hxe] at this
      exact this
    have HI2 : Hid (∀ Y u, Y.ownsRow base 56 5 u (xs ++ x).length (insV (xs ++ x)) → base ≤ Y.heap.size → Below B.heap.size B Y → Calls Tryz.prog 73 #[u, .slice (some ⟨bt, ot, none⟩) t.length tc, .int .i64 (q : Int), .int .i64 (r + 1)] Y fun e w' => ∃ v', e = .returned v' ∧ Co13 Y w' base u v' (xs ++ x ++ y)) := fun Y u hy hb1 hb2 => by
      have := ih Y q (r + 1) base u (xs ++ x) hb2 hy hb1 hbb hqe (by omega) (by omega) (by omega) (by rw [List.length_append]; omega)
      rw [show ((xs ++ x).length : Int) = (xs.length : Int) + (x.length : Int) by rw [List.length_append]; omega, hye] at this
      exact this
    have hL : (xs ++ x ++ y).length ≤ 1048576 := by rw [List.length_append, List.length_append]; omega
    have HL : Hid ((xs ++ x ++ y).length ≤ 1048576) := hL
    have HA : Hid (xs ++ (x ++ y ++ [((kd, r, r, r + 1, []) : In13)]) = (xs ++ x ++ y) ++ [((kd, r, r, r + 1, []) : In13)]) := by exact (by simp : xs ++ (x ++ y ++ [((kd, r, r, r + 1, []) : In13)]) = (xs ++ x ++ y) ++ [((kd, r, r, r + 1, []) : In13)])
    have HFi : Hid (firstT t (a : Int) = 0) := hfi
    have HvN : Hid (∀ k, N ≤ k → (Value.slice va xs.length vc).ownBlock ≠ some k) := hN ▸ hvN
    have HG : Hid (∀ Y Z u zs v1, Below B.heap.size B Y → Co13 Y Z base u v1 zs → (∀ k, u.ownBlock = some k → base ≤ k) → Below B.heap.size B Z) := fun Y Z u zs v1 hY hco hu => hY.grown hco.g hY.size (fun k e => by have := hu k e; omega)
    have HlX : Hid (N < X.heap.size) := hNX
    have HBX : Hid (Below B.heap.size B X) := hBX
    have Hn0 : Hid (∀ Y, Below X.heap.size X Y → Y.cell? ⟨N, 0, none⟩ = some (.int .i64 kd)) := fun Y hy => (hy.cell (p := ⟨N, 0, none⟩) hNX).trans n0
    have Hro : Hid (∀ k, (Value.slice va xs.length vc).ownBlock = some k → base ≤ k) := fun k e => (hrow.lt k e).1
    have Hba : Hid (base ≤ N) := hN ▸ hbase
    have hal2 : (a : Int) < (t.length : Int) := by omega
    have hr2 : r ≤ 997 := by omega
    obtain ⟨k3, hk36⟩ : ∃ u : Unit, Hid (3 ≤ kd ∧ kd ≤ 6) := ⟨(), h36⟩
    have d1 : (kd == 1) = false := beq_eq_false_iff_ne.2 (by omega)
    have d2 : (kd == 2) = false := beq_eq_false_iff_ne.2 (by omega)
    have d7 : (kd == 7) = false := beq_eq_false_iff_ne.2 (by omega)
    have d8 : (kd == 8) = false := beq_eq_false_iff_ne.2 (by omega)
    have hpc : (pts10 t (a : Int)).getD 0 0 = (p : Int) ∧ (pts10 t (a : Int)).getD 1 0 = (q : Int) := ⟨hpp, hqq⟩
    generalize pts10 t (a : Int) = pts at HPt hpl hpc
    have HPc : Hid (pts.length = 2 ∧ pts.getD 0 0 = (p : Int) ∧ pts.getD 1 0 = (q : Int)) := ⟨hpl, hpc⟩
    clear hxl hyl hxe hye hL hfi hr hc ih hpl hpc hpp hqq hFs hn hvN hNX hBX hrow hbase hB hin hsh hgood hlen htb hbb hp hd hx h36 hmem hnb hk2 hpe hqe hplt hqlt hpe2 hbg n0 n1 n2 n3 hap haq hr1
    go_enter Tryz.func73, Tryz.ntmps73
    go_wp2_with fail
    refine Calls.mono HPt.out ?_
    rintro e V ⟨pv, rfl, hpv, hbV⟩
    obtain ⟨gp, cp, rfl⟩ := own_some hpv (by omega)
    have c0 : V.cell? ⟨gp, 0, none⟩ = some (.int .i64 (p : Int)) := by rw [← HPc.out.2.1]; exact ints_cell hpv 0 (by have := HPc.out.1; omega)
    have c1 : V.cell? ⟨gp, 1, none⟩ = some (.int .i64 (q : Int)) := by rw [← HPc.out.2.2]; exact ints_cell hpv 1 (by have := HPc.out.1; omega)
    have hgp := hpv.lt gp rfl
    have m0 := Hn0.out V hbV
    have HbV : Hid (Below X.heap.size X V) := hbV
    have Hgp : Hid (X.heap.size ≤ gp ∧ gp < V.heap.size) := hgp
    clear hpv hbV HPt hgp Hn0 q0 q1 q2 q3 HPc
    go_wp2_with fail
    refine Calls.mono (HFs.out V HbV.out) ?_
    rintro e W ⟨rfl, hbW⟩
    rw [HFi.out]
    have hNV : N < V.heap.size := Nat.lt_of_lt_of_le HlX.out HbV.out.size
    replace c0 := (hbW.cell (p := ⟨gp, 0, none⟩) Hgp.out.2).trans c0
    replace c1 := (hbW.cell (p := ⟨gp, 1, none⟩) Hgp.out.2).trans c1
    replace m0 := (hbW.cell (p := ⟨N, 0, none⟩) hNV).trans m0
    have hXW : Below X.heap.size X W := HbV.out.trans (hbW.mono HbV.out.size)
    have hcw := HCo.out.below hXW
    have hBW := HBX.out.trans (hXW.mono HBX.out.size)
    have HW : Hid (gp < W.heap.size ∧ N < W.heap.size ∧ base ≤ W.heap.size ∧ N ≤ gp) := ⟨Nat.lt_of_lt_of_le Hgp.out.2 hbW.size, Nat.lt_of_lt_of_le hNV hbW.size, Nat.le_trans Hba.out (Nat.le_of_lt (Nat.lt_of_lt_of_le hNV hbW.size)), Nat.le_trans (Nat.le_of_lt HlX.out) Hgp.out.1⟩
    have HCW : Hid (Co13 w W base (.slice va xs.length vc) (.slice va xs.length vc) xs ∧ Below B.heap.size B W) := ⟨hcw, hBW⟩
    clear hbW hXW hcw hBW hNV HFs HFi HCo
    go_wp2_with fail
    refine Calls.mono (HI1.out W HCW.out.1 HCW.out.2) ?_
    rintro e W1 ⟨v1, rfl, hco1⟩
    obtain ⟨k1, u1⟩ := hco1.keep HW.out.1 (HvN.out gp HW.out.2.2.2)
    obtain ⟨k2, u2⟩ := hco1.keep HW.out.2.1 (HvN.out N (Nat.le_refl _))
    replace c0 := (World.cell?_of_block (a := ⟨gp, 0, none⟩) k1).trans c0
    replace c1 := (World.cell?_of_block (a := ⟨gp, 1, none⟩) k1).trans c1
    replace m0 := (World.cell?_of_block (a := ⟨N, 0, none⟩) k2).trans m0
    have hB1 := HG.out W W1 _ _ _ HCW.out.2 hco1 Hro.out
    have hCo1 := HCW.out.1.trans hco1
    have HW1 : Hid (Co13 w W1 base (.slice va xs.length vc) v1 (xs ++ x) ∧ Below B.heap.size B W1 ∧ gp < W1.heap.size ∧ N < W1.heap.size ∧ base ≤ W1.heap.size ∧ v1.ownBlock ≠ some N) := ⟨hCo1, hB1, Nat.lt_of_lt_of_le HW.out.1 hco1.g.size, Nat.lt_of_lt_of_le HW.out.2.1 hco1.g.size, Nat.le_trans HW.out.2.2.1 hco1.g.size, u2⟩
    clear hco1 hB1 hCo1 u1 u2 k1 k2 HCW HI1
    go_wp2_with fail
    refine Calls.mono (HI2.out W1 v1 HW1.out.1.row HW1.out.2.2.2.2.1 HW1.out.2.1) ?_
    rintro e W2 ⟨v2, rfl, hco2⟩
    obtain ⟨k2, _⟩ := hco2.keep HW1.out.2.2.2.1 HW1.out.2.2.2.2.2
    replace m0 := (World.cell?_of_block (a := ⟨N, 0, none⟩) k2).trans m0
    have hCo2 := HW1.out.1.trans hco2
    obtain ⟨a2, cc2, rfl⟩ := own_any12 hCo2.row
    obtain ⟨a', c', Y, hrun, hco3⟩ := hCo2.push (kd, r, r, r + 1, []) HL.out
    have HF : Hid (Co13 w Y base (.slice va xs.length vc) (.slice a' ((xs ++ x ++ y).length + 1) c') ((xs ++ x ++ y) ++ [(kd, r, r, r + 1, [])])) := hco3
    clear hco2 hCo2 hco3 k2 c0 c1 HI2 HW1
    generalize (xs ++ x ++ y).length = nl at *
    go_wp2_with (at_builtin; refine wpList_append_run rfl (.tmp 143) (.tmp 155) 48 rfl _ _ _ rfl rfl hrun ?_; clear hrun)
    go_ret
    refine ⟨_, rfl, ?_⟩
    rw [HA.out]
    exact HF.out
  · rw [if_neg hc] at hfi hr
    rw [hr]
    have hxl : (into13 d t (q : Int) r (xs.length : Int)).length ≤ 119 := into_len htb hqlt (by omega) r _ hr0
    obtain ⟨x, hxe⟩ : ∃ x, into13 d t (q : Int) r (xs.length : Int) = x := ⟨_, rfl⟩
    rw [hxe] at hxl ⊢
    have hyl : (into13 d t (p : Int) (r + 1) ((xs.length : Int) + (x.length : Int))).length ≤ 119 := into_len htb hplt (by omega) (r + 1) _ (by omega)
    obtain ⟨y, hye⟩ : ∃ y, into13 d t (p : Int) (r + 1) ((xs.length : Int) + (x.length : Int)) = y := ⟨_, rfl⟩
    rw [hye] at hyl ⊢
    have HI1 : Hid (∀ Y, Co13 w Y base (.slice va xs.length vc) (.slice va xs.length vc) xs → Below B.heap.size B Y → Calls Tryz.prog 73 #[.slice va xs.length vc, .slice (some ⟨bt, ot, none⟩) t.length tc, .int .i64 (q : Int), .int .i64 r] Y fun e w' => ∃ v', e = .returned v' ∧ Co13 Y w' base (.slice va xs.length vc) v' (xs ++ x)) := fun Y hy hb => by
      have := ih Y q r base (.slice va xs.length vc) xs hb hy.row (Nat.le_trans hbase hy.g.size) hbb hqe (by omega) hr0 (by omega) (by omega)
      rw [hxe] at this
      exact this
    have HI2 : Hid (∀ Y u, Y.ownsRow base 56 5 u (xs ++ x).length (insV (xs ++ x)) → base ≤ Y.heap.size → Below B.heap.size B Y → Calls Tryz.prog 73 #[u, .slice (some ⟨bt, ot, none⟩) t.length tc, .int .i64 (p : Int), .int .i64 (r + 1)] Y fun e w' => ∃ v', e = .returned v' ∧ Co13 Y w' base u v' (xs ++ x ++ y)) := fun Y u hy hb1 hb2 => by
      have := ih Y p (r + 1) base u (xs ++ x) hb2 hy hb1 hbb hpe (by omega) (by omega) (by omega) (by rw [List.length_append]; omega)
      rw [show ((xs ++ x).length : Int) = (xs.length : Int) + (x.length : Int) by rw [List.length_append]; omega, hye] at this
      exact this
    have hL : (xs ++ x ++ y).length ≤ 1048576 := by rw [List.length_append, List.length_append]; omega
    have HL : Hid ((xs ++ x ++ y).length ≤ 1048576) := hL
    have HA : Hid (xs ++ (x ++ y ++ [((kd, r, r + 1, r, []) : In13)]) = (xs ++ x ++ y) ++ [((kd, r, r + 1, r, []) : In13)]) := by exact (by simp : xs ++ (x ++ y ++ [((kd, r, r + 1, r, []) : In13)]) = (xs ++ x ++ y) ++ [((kd, r, r + 1, r, []) : In13)])
    have HFi : Hid (firstT t (a : Int) = 1) := hfi
    have HvN : Hid (∀ k, N ≤ k → (Value.slice va xs.length vc).ownBlock ≠ some k) := hN ▸ hvN
    have HG : Hid (∀ Y Z u zs v1, Below B.heap.size B Y → Co13 Y Z base u v1 zs → (∀ k, u.ownBlock = some k → base ≤ k) → Below B.heap.size B Z) := fun Y Z u zs v1 hY hco hu => hY.grown hco.g hY.size (fun k e => by have := hu k e; omega)
    have HlX : Hid (N < X.heap.size) := hNX
    have HBX : Hid (Below B.heap.size B X) := hBX
    have Hn0 : Hid (∀ Y, Below X.heap.size X Y → Y.cell? ⟨N, 0, none⟩ = some (.int .i64 kd)) := fun Y hy => (hy.cell (p := ⟨N, 0, none⟩) hNX).trans n0
    have Hro : Hid (∀ k, (Value.slice va xs.length vc).ownBlock = some k → base ≤ k) := fun k e => (hrow.lt k e).1
    have Hba : Hid (base ≤ N) := hN ▸ hbase
    have hal2 : (a : Int) < (t.length : Int) := by omega
    have hr2 : r ≤ 997 := by omega
    obtain ⟨k3, hk36⟩ : ∃ u : Unit, Hid (3 ≤ kd ∧ kd ≤ 6) := ⟨(), h36⟩
    have d1 : (kd == 1) = false := beq_eq_false_iff_ne.2 (by omega)
    have d2 : (kd == 2) = false := beq_eq_false_iff_ne.2 (by omega)
    have d7 : (kd == 7) = false := beq_eq_false_iff_ne.2 (by omega)
    have d8 : (kd == 8) = false := beq_eq_false_iff_ne.2 (by omega)
    have hpc : (pts10 t (a : Int)).getD 0 0 = (p : Int) ∧ (pts10 t (a : Int)).getD 1 0 = (q : Int) := ⟨hpp, hqq⟩
    generalize pts10 t (a : Int) = pts at HPt hpl hpc
    have HPc : Hid (pts.length = 2 ∧ pts.getD 0 0 = (p : Int) ∧ pts.getD 1 0 = (q : Int)) := ⟨hpl, hpc⟩
    clear hxl hyl hxe hye hL hfi hr hc ih hpl hpc hpp hqq hFs hn hvN hNX hBX hrow hbase hB hin hsh hgood hlen htb hbb hp hd hx h36 hmem hnb hk2 hpe hqe hplt hqlt hpe2 hbg n0 n1 n2 n3 hap haq hr1
    go_enter Tryz.func73, Tryz.ntmps73
    go_wp2_with fail
    refine Calls.mono HPt.out ?_
    rintro e V ⟨pv, rfl, hpv, hbV⟩
    obtain ⟨gp, cp, rfl⟩ := own_some hpv (by omega)
    have c0 : V.cell? ⟨gp, 0, none⟩ = some (.int .i64 (p : Int)) := by rw [← HPc.out.2.1]; exact ints_cell hpv 0 (by have := HPc.out.1; omega)
    have c1 : V.cell? ⟨gp, 1, none⟩ = some (.int .i64 (q : Int)) := by rw [← HPc.out.2.2]; exact ints_cell hpv 1 (by have := HPc.out.1; omega)
    have hgp := hpv.lt gp rfl
    have m0 := Hn0.out V hbV
    have HbV : Hid (Below X.heap.size X V) := hbV
    have Hgp : Hid (X.heap.size ≤ gp ∧ gp < V.heap.size) := hgp
    clear hpv hbV HPt hgp Hn0 q0 q1 q2 q3 HPc
    go_wp2_with fail
    refine Calls.mono (HFs.out V HbV.out) ?_
    rintro e W ⟨rfl, hbW⟩
    rw [HFi.out]
    have hNV : N < V.heap.size := Nat.lt_of_lt_of_le HlX.out HbV.out.size
    replace c0 := (hbW.cell (p := ⟨gp, 0, none⟩) Hgp.out.2).trans c0
    replace c1 := (hbW.cell (p := ⟨gp, 1, none⟩) Hgp.out.2).trans c1
    replace m0 := (hbW.cell (p := ⟨N, 0, none⟩) hNV).trans m0
    have hXW : Below X.heap.size X W := HbV.out.trans (hbW.mono HbV.out.size)
    have hcw := HCo.out.below hXW
    have hBW := HBX.out.trans (hXW.mono HBX.out.size)
    have HW : Hid (gp < W.heap.size ∧ N < W.heap.size ∧ base ≤ W.heap.size ∧ N ≤ gp) := ⟨Nat.lt_of_lt_of_le Hgp.out.2 hbW.size, Nat.lt_of_lt_of_le hNV hbW.size, Nat.le_trans Hba.out (Nat.le_of_lt (Nat.lt_of_lt_of_le hNV hbW.size)), Nat.le_trans (Nat.le_of_lt HlX.out) Hgp.out.1⟩
    have HCW : Hid (Co13 w W base (.slice va xs.length vc) (.slice va xs.length vc) xs ∧ Below B.heap.size B W) := ⟨hcw, hBW⟩
    clear hbW hXW hcw hBW hNV HFs HFi HCo
    go_wp2_with fail
    refine Calls.mono (HI1.out W HCW.out.1 HCW.out.2) ?_
    rintro e W1 ⟨v1, rfl, hco1⟩
    obtain ⟨k1, u1⟩ := hco1.keep HW.out.1 (HvN.out gp HW.out.2.2.2)
    obtain ⟨k2, u2⟩ := hco1.keep HW.out.2.1 (HvN.out N (Nat.le_refl _))
    replace c0 := (World.cell?_of_block (a := ⟨gp, 0, none⟩) k1).trans c0
    replace c1 := (World.cell?_of_block (a := ⟨gp, 1, none⟩) k1).trans c1
    replace m0 := (World.cell?_of_block (a := ⟨N, 0, none⟩) k2).trans m0
    have hB1 := HG.out W W1 _ _ _ HCW.out.2 hco1 Hro.out
    have hCo1 := HCW.out.1.trans hco1
    have HW1 : Hid (Co13 w W1 base (.slice va xs.length vc) v1 (xs ++ x) ∧ Below B.heap.size B W1 ∧ gp < W1.heap.size ∧ N < W1.heap.size ∧ base ≤ W1.heap.size ∧ v1.ownBlock ≠ some N) := ⟨hCo1, hB1, Nat.lt_of_lt_of_le HW.out.1 hco1.g.size, Nat.lt_of_lt_of_le HW.out.2.1 hco1.g.size, Nat.le_trans HW.out.2.2.1 hco1.g.size, u2⟩
    clear hco1 hB1 hCo1 u1 u2 k1 k2 HCW HI1
    go_wp2_with fail
    refine Calls.mono (HI2.out W1 v1 HW1.out.1.row HW1.out.2.2.2.2.1 HW1.out.2.1) ?_
    rintro e W2 ⟨v2, rfl, hco2⟩
    obtain ⟨k2, _⟩ := hco2.keep HW1.out.2.2.2.1 HW1.out.2.2.2.2.2
    replace m0 := (World.cell?_of_block (a := ⟨N, 0, none⟩) k2).trans m0
    have hCo2 := HW1.out.1.trans hco2
    obtain ⟨a2, cc2, rfl⟩ := own_any12 hCo2.row
    obtain ⟨a', c', Y, hrun, hco3⟩ := hCo2.push (kd, r, r + 1, r, []) HL.out
    have HF : Hid (Co13 w Y base (.slice va xs.length vc) (.slice a' ((xs ++ x ++ y).length + 1) c') ((xs ++ x ++ y) ++ [(kd, r, r + 1, r, [])])) := hco3
    clear hco2 hCo2 hco3 k2 c0 c1 HI2 HW1
    generalize (xs ++ x ++ y).length = nl at *
    go_wp2_with (at_builtin; refine wpList_append_run rfl (.tmp 143) (.tmp 155) 48 rfl _ _ _ rfl rfl hrun ?_; clear hrun)
    go_ret
    refine ⟨_, rfl, ?_⟩
    rw [HA.out]
    exact HF.out

end Go.Proofs.YtogobeegibngiaaGreatDoor
