/-
  Parts of one proof, one behind the other: NeedS3, NodeIn, CapL, NeedA.
-/
import Derived.Test.YtnpbckgaeaameaaP14
import Derived.Test.YtnpbckgaeaameaaP4
import Derived.Deep.RegionHeld
import Derived.Deep.Cut
import Derived.Test.YtnpbckgaeaameaaP5
import Derived.Test.YtnpbckgaeaameaaRows
import Derived.WalkKit
import Derived.ProofKit
import Derived.OpenShut
import Derived.ShutString
import Derived.ChangeOld
import Derived.Below
import Derived.Lib.SmallJoins
import Derived.Deep.SlicePairs
import Derived.Test.YtnpbckgaeaameaaP7
import Derived.Test.YtnpbckgaeaameaaP3
import Derived.Deep.MidRow
import Derived.Great.Walk
import Derived.Laws.StructEq

/-! The contracts of chapter 12's specification: Need, NeedBy, FirstPart. -/
namespace Go.Proofs.Ytnpbckgaeaameaa
open Go.RowKit

theorem One.good12 {s : List Nd} (h : One s) : Good10 s := by
  induction h with
  | mk n ks hn _ _ ih =>
    intro m hm
    rcases List.mem_cons.1 hm with e | e
    · rw [e]; exact hn
    · obtain ⟨k, hk, h2⟩ := List.mem_flatten.1 e
      exact ih k hk m h2
theorem end_zero {t : List Nd} (h : One t) : 0 ≤ endV t ((0 : Nat) : Int) := by rw [endV_sub (post := []) (by simp) h]; omega
theorem as_nil (w : World) : AsIn w none [] := fun j hj => by simp at hj



set_option maxHeartbeats 2000000 in
set_option maxRecDepth 100000 in
theorem specFirst12 (ta : Option Addr) (cap : Nat) (t : List Nd) (a : Nat) (w : World) (hin : NodesIn w ta t.length t) (hsh : ShortT t) (hb : treeB t = true) (ha : a < t.length) (h36 : 3 ≤ (t.getD a nd0).1 ∧ (t.getD a nd0).1 ≤ 6) :
    Calls Try.prog 43 #[.slice ta t.length cap, .int .i64 (a : Int)] w fun e w' => e = .returned (.int .i64 (firstT t (a : Int))) ∧ Below w.heap.size w w' := by
  obtain ⟨hl, ho⟩ := treeB_one.1 hb
  have hgood := ho.good12
  have hmem : t.getD a nd0 ∈ t := by simp [List.getD, ha]
  have hk2 : kidsN (t.getD a nd0) = 2 := kids_four h36
  have hpe : partsGo t (kidsN (t.getD a nd0)) ((a : Int) + 1) = pts10 t (a : Int) := by unfold pts10; rw [Int.toNat_natCast]
  have HPt : Hid (_) := specParts ta cap t a w hin hsh (by omega) ha (hgood _ hmem)
  rw [hpe, hk2] at HPt
  have hpl : (pts10 t (a : Int)).length = 2 := by rw [pts_len, hk2]
  obtain ⟨p, hp, _, hpe0⟩ := need_place (tree_ends ho ha) (i := 0) (by omega)
  obtain ⟨q, hq, _, hqe0⟩ := need_place (tree_ends ho ha) (i := 1) (by omega)
  have HFt : Hid (firstT t (a : Int) = if need12 60 t [] (q : Int) ≤ need12 60 t [] (p : Int) then 0 else 1) := by
    exact (by unfold firstT; rw [Int.toNat_natCast, if_pos ⟨hb, by omega, by omega, h36.1, h36.2⟩, hp, hq] : firstT t (a : Int) = if need12 60 t [] (q : Int) ≤ need12 60 t [] (p : Int) then 0 else 1)
  have HCp : Hid (∀ Y, Below w.heap.size w Y → Calls Try.prog 71 #[.slice ta t.length cap, .int .i64 (p : Int), .slice none 0 0] Y fun e w' => e = .returned (.int .i64 (need12 60 t [] (p : Int))) ∧ Below Y.heap.size Y w') := fun Y hy => specNeed w ta cap t none 0 [] hin (as_nil w) (Or.inl rfl) hsh hgood hl 60 Y p hy hpe0 (by omega)
  have HCq : Hid (∀ Y, Below w.heap.size w Y → Calls Try.prog 71 #[.slice ta t.length cap, .int .i64 (q : Int), .slice none 0 0] Y fun e w' => e = .returned (.int .i64 (need12 60 t [] (q : Int))) ∧ Below Y.heap.size Y w') := fun Y hy => specNeed w ta cap t none 0 [] hin (as_nil w) (Or.inl rfl) hsh hgood hl 60 Y q hy hqe0 (by omega)
  generalize need12 60 t [] (p : Int) = x at HCp HFt
  generalize need12 60 t [] (q : Int) = y at HCq HFt
  generalize firstT t (a : Int) = res at HFt ⊢
  generalize pts10 t (a : Int) = pts at HPt hpl hp hq
  clear hpe hk2 hmem hgood ho hpe0 hqe0 hin hsh hb
  go_enter Try.func43, Try.ntmps43
  go_wp2_with fail
  refine Calls.mono HPt.out ?_
  rintro e V ⟨v, rfl, hv, hbV⟩
  obtain ⟨gp, cp, rfl⟩ := own_some hv (by omega)
  have c0 : V.cell? ⟨gp, 0, none⟩ = some (.int .i64 (p : Int)) := by rw [← hp]; exact ints_cell hv 0 (by omega)
  have c1 : V.cell? ⟨gp, 1, none⟩ = some (.int .i64 (q : Int)) := by rw [← hq]; exact ints_cell hv 1 (by omega)
  have hgl := (hv.lt gp rfl).2
  have hBV : Below w.heap.size w V.drew := ⟨hbV.os, hbV.tape, hbV.output, hbV.size, hbV.block⟩
  clear hv HPt hp hq hbV
  go_upto_region 2 with fail
  go_cut [19] from 9 (fun v wx => v = .bool (decide (y ≤ x)) ∧ Hid (Below w.heap.size w wx))
  case first =>
    refine wp_region_held_drew (S := (fun w' => w'.cell? ⟨gp, 0, none⟩ = some (.int .i64 (p : Int)) ∧ w'.cell? ⟨gp, 1, none⟩ = some (.int .i64 (q : Int)))) (by kernel_rfl) ?_ (fun hHeld => ?_)
    · first | (dsimp only; done) | (dsimp only; go_keep) | go_keep
    refine wpAnyH_take (i := 0) (oi := ⟨some 9, _, _, _, _, _⟩) (v := ?vf0) rfl (by kernel_rfl) (by kernel_rfl) (by kernel_rfl) (fun _ _ _ h => h) (Or.inl ⟨by rfl, ?hyf0⟩) (by assumption) ?restf0
    case hyf0 => (intro wq hSw; (try dsimp only at hSw); first | (go_simp; done) | (go_simp; with_reducible rfl))
    simp only [Act.put, List.setIfInBounds_toArray, List.set_cons_zero, List.set_cons_succ]
    refine wpAnyH_take (i := 1) (oi := ⟨some 10, _, _, _, _, _⟩) (v := ?vf1) rfl (by kernel_rfl) (by kernel_rfl) (by kernel_rfl) (fun _ _ _ h => h) (Or.inl ⟨by rfl, ?hyf1⟩) (by assumption) ?restf1
    case hyf1 => (intro wq hSw; (try dsimp only at hSw); first | (go_simp; done) | (go_simp; with_reducible rfl))
    simp only [Act.put, List.setIfInBounds_toArray, List.set_cons_zero, List.set_cons_succ]
    refine wpAnyH_take (i := 2) (oi := ⟨some 11, _, _, _, _, _⟩) (v := ?vf2) rfl (by kernel_rfl) (by kernel_rfl) (by kernel_rfl) (fun _ _ _ h => h) (Or.inl ⟨by rfl, ?hyf2⟩) (by assumption) ?restf2
    case hyf2 => (intro wq hSw; (try dsimp only at hSw); first | (go_simp; done) | (go_simp; with_reducible rfl))
    simp only [Act.put, List.setIfInBounds_toArray, List.set_cons_zero, List.set_cons_succ]
    refine wpAnyH_take (i := 3) (oi := ⟨some 12, _, _, _, _, _⟩) (v := ?vf3) rfl (by kernel_rfl) (by kernel_rfl) (by kernel_rfl) (fun _ _ _ h => h) (Or.inl ⟨by rfl, ?hyf3⟩) (by assumption) ?restf3
    case hyf3 => (intro wq hSw; (try dsimp only at hSw); first | (go_simp; done) | (go_simp; with_reducible rfl))
    simp only [Act.put, List.setIfInBounds_toArray, List.set_cons_zero, List.set_cons_succ]
    refine wpAnyH_take (i := 5) (oi := ⟨some 14, _, _, _, _, _⟩) (v := ?vf5) rfl (by kernel_rfl) (by kernel_rfl) (by kernel_rfl) (fun _ _ _ h => h) (Or.inl ⟨by rfl, ?hyf5⟩) (by assumption) ?restf5
    case hyf5 => (intro wq hSw; (try dsimp only at hSw); first | (go_simp; done) | (go_simp; with_reducible rfl))
    simp only [Act.put, List.setIfInBounds_toArray, List.set_cons_zero, List.set_cons_succ]
    refine wpAnyH_take (i := 6) (oi := ⟨some 15, _, _, _, _, _⟩) (v := ?vf6) rfl (by kernel_rfl) (by kernel_rfl) (by kernel_rfl) (fun _ _ _ h => h) (Or.inl ⟨by rfl, ?hyf6⟩) (by assumption) ?restf6
    case hyf6 => (intro wq hSw; (try dsimp only at hSw); first | (go_simp; done) | (go_simp; with_reducible rfl))
    simp only [Act.put, List.setIfInBounds_toArray, List.set_cons_zero, List.set_cons_succ]
    refine wpAnyH_take (i := 7) (oi := ⟨some 16, _, _, _, _, _⟩) (v := ?vf7) rfl (by kernel_rfl) (by kernel_rfl) (by kernel_rfl) (fun _ _ _ h => h) (Or.inl ⟨by rfl, ?hyf7⟩) (by assumption) ?restf7
    case hyf7 => (intro wq hSw; (try dsimp only at hSw); first | (go_simp; done) | (go_simp; with_reducible rfl))
    simp only [Act.put, List.setIfInBounds_toArray, List.set_cons_zero, List.set_cons_succ]
    refine wpAnyH_take (i := 8) (oi := ⟨some 17, _, _, _, _, _⟩) (v := ?vf8) rfl (by kernel_rfl) (by kernel_rfl) (by kernel_rfl) (fun _ _ _ h => h) (Or.inl ⟨by rfl, ?hyf8⟩) (by assumption) ?restf8
    case hyf8 => (intro wq hSw; (try dsimp only at hSw); first | (go_simp; done) | (go_simp; with_reducible rfl))
    simp only [Act.put, List.setIfInBounds_toArray, List.set_cons_zero, List.set_cons_succ]
    refine wpAnyH_ready (rs := [4]) (by kernel_rfl) (by simp) ?_
    refine AllReadyH.cons rfl (fun K hK => ?_) AllReadyH.nil
    go_simp
    go_at_call 71; refine Calls.mono (HCp.out _ hBV) ?_; rintro e wn ⟨rfl, hbn⟩; have hgn : gp < wn.heap.size := Nat.lt_of_lt_of_le hgl hbn.size; replace c0 := (hbn.cell (p := ⟨gp, 0, none⟩) hgl).trans c0; replace c1 := (hbn.cell (p := ⟨gp, 1, none⟩) hgl).trans c1; have hB2 := hBV.trans (hbn.mono hBV.size); clear hbn; dsimp only
    refine hK.out _ _ ?_ (fun hHeld => ?_)
    · first | (dsimp only; done) | (dsimp only; go_keep) | go_keep
    clear hK K
    refine wpAnyH_ready (rs := [9]) (by kernel_rfl) (by simp) ?_
    refine AllReadyH.cons rfl (fun K hK => ?_) AllReadyH.nil
    go_simp
    go_at_call 71; refine Calls.mono (HCq.out _ hB2) ?_; rintro e wm ⟨rfl, hbm⟩; replace c0 := (hbm.cell (p := ⟨gp, 0, none⟩) hgn).trans c0; replace c1 := (hbm.cell (p := ⟨gp, 1, none⟩) hgn).trans c1; have hB3 := hB2.trans (hbm.mono hB2.size); clear hbm; dsimp only
    refine hK.out _ _ ?_ (fun hHeld => ?_)
    · first | (dsimp only; done) | (dsimp only; go_keep) | go_keep
    clear hK K
    refine wpAnyH_take (i := 10) (oi := ⟨some 19, _, _, _, _, _⟩) (v := ?vf10) rfl (by kernel_rfl) (by kernel_rfl) (by kernel_rfl) (fun _ _ _ h => h) (Or.inl ⟨by rfl, ?hyf10⟩) (by assumption) ?restf10
    case hyf10 => (intro wq hSw; (try dsimp only at hSw); first | (go_simp; done) | (go_simp; with_reducible rfl))
    simp only [Act.put, List.setIfInBounds_toArray, List.set_cons_zero, List.set_cons_succ]
    refine wpAnyH_done (by kernel_rfl) ?_ _
    go_wp2_with fail
    go_meet
    exact ⟨rfl, hB3⟩
  case rest =>
    obtain ⟨rfl, HB⟩ := hcut
    by_cases h : y ≤ x
    · have hd : decide (y ≤ x) = true := decide_eq_true h
      have HF : Hid (res = 0) := by exact (by rw [HFt.out, if_pos h] : res = 0)
      rw [hd]
      clear h hd HFt
      go_wp2
      go_ret
      exact ⟨by rw [HF.out]; rfl, HB.out⟩
    · have hd : decide (y ≤ x) = false := decide_eq_false h
      have HF : Hid (res = 1) := by exact (by rw [HFt.out, if_neg h] : res = 1)
      rw [hd]
      clear h hd HFt
      go_wp2
      go_ret
      exact ⟨by rw [HF.out]; rfl, HB.out⟩

set_option maxHeartbeats 2000000 in
set_option maxRecDepth 100000 in
theorem specFirstPart (ta : Option Addr) (len cap : Nat) (t : List Nd) (i : Int) (w : World) (hin : NodesIn w ta len t) (hsh : ShortT t) (hlen : len ≤ 1048576) (hi0 : -9223372036854775808 ≤ i) (hi1 : i ≤ 9223372036854775807) :
    Calls Try.prog 12 #[.slice ta len cap, .int .i64 i] w fun e w' => e = .returned (.int .i64 (firstT t i)) ∧ Below w.heap.size w w' := by
  obtain rfl : t.length = len := hin.1
  have HT : Hid (_) := specTreeOk ta t.length cap t w hin hsh hlen
  rcases hb : treeB t with _ | _
  · rw [hb] at HT
    have HF : Hid (firstT t i = -1) := by exact (by unfold firstT; rw [if_neg (fun e => by rw [hb] at e; cases e.1)] : firstT t i = -1)
    clear hin hb
    go_enter Try.func12, Try.ntmps12
    go_wp2_with fail
    refine Calls.mono HT.out ?_
    rintro e w1 ⟨rfl, hb1⟩
    go_wp2
    go_ret
    exact ⟨by rw [HF.out]; rfl, hb1⟩
  · rw [hb] at HT
    by_cases hout : i < 0 ∨ (t.length : Int) ≤ i
    · have HF : Hid (firstT t i = -1) := by exact (by unfold firstT; rw [if_neg (fun e => by have := e.2.1; have := e.2.2.1; omega)] : firstT t i = -1)
      by_cases h0 : i < 0
      · clear hin hb hout
        go_enter Try.func12, Try.ntmps12
        go_wp2_with fail
        refine Calls.mono HT.out ?_
        rintro e w1 ⟨rfl, hb1⟩
        go_wp2
        go_ret
        exact ⟨by rw [HF.out]; rfl, hb1⟩
      · have h1 : (t.length : Int) ≤ i := by omega
        clear hin hb hout
        go_enter Try.func12, Try.ntmps12
        go_wp2_with fail
        refine Calls.mono HT.out ?_
        rintro e w1 ⟨rfl, hb1⟩
        go_wp2
        go_ret
        exact ⟨by rw [HF.out]; rfl, hb1⟩
    · obtain ⟨k, rfl⟩ : ∃ k : Nat, i = (k : Int) := Int.eq_ofNat_of_zero_le (by omega)
      have hk : k < t.length := by omega
      have h0 : ¬ (k : Int) < 0 := by omega
      have h1 : ¬ (t.length : Int) ≤ (k : Int) := by omega
      obtain ⟨bt, ot, rfl, hbt, q0, _, _, _⟩ := hin.2 k hk
      have HC : Hid (3 ≤ (t.getD k nd0).1 ∧ (t.getD k nd0).1 ≤ 6 → ∀ Y, Below w.heap.size w Y → Calls Try.prog 43 #[.slice (some ⟨bt, ot, none⟩) t.length cap, .int .i64 (k : Int)] Y fun e w' => e = .returned (.int .i64 (firstT t (k : Int))) ∧ Below Y.heap.size Y w') := fun h36 Y hy => specFirst12 (some ⟨bt, ot, none⟩) cap t k Y (hin.below hy) hsh hb hk h36
      have HN : Hid (¬ (3 ≤ (t.getD k nd0).1 ∧ (t.getD k nd0).1 ≤ 6) → firstT t (k : Int) = -1) := by
        exact (fun hn => by unfold firstT; rw [Int.toNat_natCast, if_neg (fun e => hn ⟨e.2.2.2.1, e.2.2.2.2⟩)] : ¬ (3 ≤ (t.getD k nd0).1 ∧ (t.getD k nd0).1 ≤ 6) → firstT t (k : Int) = -1)
      generalize firstT t (k : Int) = res at HC HN ⊢
      generalize (t.getD k nd0).1 = kd at q0 HC HN
      generalize hlt : t.length = tl at *
      have HI : Hid (_) := fun W : World => specIn kd 3 6 W
      clear hin hb hout hsh hlt
      go_enter Try.func12, Try.ntmps12
      go_wp2_with fail
      refine Calls.mono HT.out ?_
      rintro e w1 ⟨rfl, hb1⟩
      have q1 := (hb1.cell (p := ⟨bt, ot + k * 4, none⟩) hbt).trans q0
      have HB1 : Hid (Below w.heap.size w w1) := hb1
      have HD : Hid (3 ≤ kd ∧ kd ≤ 6 → _) := fun h36 => HC.out h36 w1 hb1
      clear hb1 HC q0 HT
      go_wp2_with fail
      refine Calls.mono (HI.out _) ?_
      rintro e w2 ⟨rfl, rfl⟩
      by_cases h36 : 3 ≤ kd ∧ kd ≤ 6
      · have hin : inB kd 3 6 = true := inB_yes kd 3 6 h36.1 h36.2
        have HE : Hid (_) := HD.out h36
        rw [hin]
        clear hin HD HN h36
        go_wp2_with fail
        refine Calls.mono HE.out ?_
        rintro e w3 ⟨rfl, hb3⟩
        have HB : Hid (Below w.heap.size w w3) := HB1.out.trans (hb3.mono HB1.out.size)
        clear hb3 HE
        go_wp2
        go_ret
        exact ⟨rfl, HB.out⟩
      · have hin : inB kd 3 6 = false := inB_no kd 3 6 (by omega)
        have HE : Hid (res = -1) := HN.out h36
        rw [hin]
        clear hin HD HN h36
        go_wp2
        go_ret
        exact ⟨by rw [HE.out]; rfl, HB1.out⟩

end Go.Proofs.Ytnpbckgaeaameaa

/-! A node, and a row of nodes, that came in, as the walks take them. -/
namespace Go.Proofs.Ytnpbckgaeaameaa
open Go.ChangeShapes Go.WideShapes Go.ChangeAt Go.RowKit Go.Joins Go.Deep

theorem cellsNode : Try.prog.cellsOf 68 = 4 := by kernel_rfl

set_option maxRecDepth 100000 in
theorem open_node {H : Type} {enc : TypeId × Value → H} {W : World} {base b0 : Nat} {spare : Nat → Bool} {held : Bool} {v : Value} {d : DataW H} {p : List MemPlace}
    (hv : Value.okWide Try.prog W .any b0 68 v) (h : DataW.Trod enc Try.prog W base spare held 68 v d p) :
    ∃ n : Nd, v = nodeVal n ∧ IntN n ∧ n.2.2.1.length ≤ maxLen ∧ n.2.2.2.length ≤ maxLen := by
  obtain ⟨c0, c1, c2, c3, y0, y1, y2, y3, m, rfl, _, _, t0, t1, t2, t3⟩ := open_agg4 Try.underlying68 (by kernel_rfl) cellsNode hv h
  obtain ⟨k, e0, _, w0⟩ := DataW.trod_int Try.underlying2 t0
  obtain ⟨a, e1, _, w1⟩ := DataW.trod_int Try.underlying2 t1
  obtain ⟨s2, e2, _, h2⟩ := DataW.trod_string Try.underlying9 t2
  obtain ⟨s3, e3, _, h3⟩ := DataW.trod_string Try.underlying9 t3
  simp at e0 e1 e2 e3
  subst e0 e1 e2 e3
  exact ⟨(k, a, s2.data.toList, s3.data.toList), rfl, ⟨bounds_i64 w0, bounds_i64 w1⟩, h2, h3⟩

set_option maxRecDepth 100000 in
theorem open_nodes {H : Type} {enc : TypeId × Value → H} {W : World} {base b0 : Nat} {spare : Nat → Bool} {held : Bool} {v : Value} {d : DataW H} {p : List MemPlace}
    (hv : Value.okWide Try.prog W .any b0 34 v) (h : DataW.Trod enc Try.prog W base spare held 34 v d p) :
    ∃ a len cap ns, v = .slice a len cap ∧ NodesIn W a len ns ∧ len ≤ maxLen ∧ LongT ns ∧ IntT ns := by
  obtain ⟨a0, len, cap, rfl⟩ := okWide_slice Try.underlying34 hv
  obtain ⟨fuel, hf⟩ := h
  rcases open_slice Try.underlying34 hf with ⟨hcs, _⟩ | ⟨a, l, c, q, n, D, Pl, hcs, _, hl, hm, hq, _, hx⟩
  · simp [Value.cells] at hcs
    obtain ⟨rfl, rfl, rfl⟩ := hcs
    exact ⟨none, 0, 0, [], rfl, ⟨rfl, fun j hj => by omega⟩, by decide, (fun j => by simp [nd0]), IntT.nil⟩
  · simp [Value.cells] at hcs
    obtain ⟨rfl, rfl, rfl⟩ := hcs
    have hlq : len ≤ q := by rw [hq]; split <;> omega
    have each : ∀ i, i < len → ∃ x : Nd, W.cell? (a.add (i * 4)) = some (.int .i64 x.1) ∧ W.cell? (a.add (i * 4 + 1)) = some (.int .i64 x.2.1) ∧ W.cell? (a.add (i * 4 + 2)) = some (.string ⟨x.2.2.1.toArray⟩) ∧ W.cell? (a.add (i * 4 + 3)) = some (.string ⟨x.2.2.2.toArray⟩) ∧ x.2.2.1.length ≤ maxLen ∧ x.2.2.2.length ≤ maxLen ∧ IntN x := by
      intro i hi
      obtain ⟨cs', h1, h2⟩ := hx i (by omega)
      rw [cellsNode] at h1
      obtain ⟨_, hlen, hcell⟩ := World.cells?_some h1
      match cs', hlen with
      | [v0, v1, v2, v3], _ =>
        obtain ⟨y0, y1, y2, y3, k, _, _, t0, t1, t2, t3⟩ := trod_struct4 Try.underlying68 h2
        have k2 : Try.prog.cellsOf 2 = 1 := by kernel_rfl
        have k9 : Try.prog.cellsOf 9 = 1 := by kernel_rfl
        simp [k2, k9] at t0 t1 t2 t3
        obtain ⟨kd, e0, _, wk⟩ := DataW.trod_int Try.underlying2 t0
        obtain ⟨aa, e1, _, wa⟩ := DataW.trod_int Try.underlying2 t1
        obtain ⟨s2, e2, _, z2⟩ := DataW.trod_string Try.underlying9 t2
        obtain ⟨s3, e3, _, z3⟩ := DataW.trod_string Try.underlying9 t3
        simp at e0 e1 e2 e3
        subst e0 e1 e2 e3
        have g0 := hcell 0 (by omega)
        have g1 := hcell 1 (by omega)
        have g2 := hcell 2 (by omega)
        have g3 := hcell 3 (by omega)
        rw [add_add] at g0 g1 g2 g3
        exact ⟨(kd, aa, s2.data.toList, s3.data.toList), by simpa using g0, by simpa using g1, by simpa using g2, by simpa using g3, z2, z3, ⟨bounds_i64 wk, bounds_i64 wa⟩⟩
    obtain ⟨f, hf2⟩ := choose_lt each
    refine ⟨some a, len, cap, (List.range len).map f, rfl, ⟨by simp, fun j hj => ?_⟩, by omega, (fun j => ?_), (fun j => ?_)⟩
    rotate_left
    · by_cases hj : j < len
      · have hg : ((List.range len).map f).getD j nd0 = f j := by simp [List.getD, hj]
        rw [hg]; exact ⟨(hf2 j hj).2.2.2.2.1, (hf2 j hj).2.2.2.2.2.1⟩
      · have hg : ((List.range len).map f).getD j nd0 = nd0 := by simp [List.getD, hj]
        rw [hg]; simp [nd0]
    · by_cases hj : j < len
      · have hg : ((List.range len).map f).getD j nd0 = f j := by simp [List.getD, hj]
        rw [hg]; exact (hf2 j hj).2.2.2.2.2.2
      · have hg : ((List.range len).map f).getD j nd0 = nd0 := by simp [List.getD, hj]
        rw [hg]; exact intN_nd0
    obtain ⟨c0, c1, c2, c3, _, _, _⟩ := hf2 j hj
    have hsp : a.spot = none := by
      have h0 := (hf2 0 (by omega)).1
      simpa [Addr.add] using World.cell?_spot h0
    obtain ⟨b, off, spot⟩ := a
    simp at hsp
    subst hsp
    have e : ∀ i, (⟨b, off, none⟩ : Addr).add i = ⟨b, off + i, none⟩ := fun i => by unfold Addr.add; split <;> simp_all
    rw [e] at c0 c1 c2 c3
    have hg : ((List.range len).map f).getD j nd0 = f j := by simp [List.getD, hj]
    rw [hg]
    exact ⟨b, off, rfl, World.block_lt_of_cell? W ⟨b, off + j * 4, none⟩ c0, c0, by rw [Nat.add_assoc]; exact c1, by rw [Nat.add_assoc]; exact c2, by rw [Nat.add_assoc]; exact c3⟩

end Go.Proofs.Ytnpbckgaeaameaa

/-! What a row of nodes keeps when it is cut, and the bounds of what it can hold. -/
namespace Go.Proofs.Ytnpbckgaeaameaa
open Go.RowKit

theorem own_capT {w : World} {base e size n c : Nat} {a : Option Addr} {xs : List Value} (h : w.ownsRow base e size (.slice a n c) n xs) : n ≤ c := by
  rcases h.2 with ⟨h', _⟩ | ⟨g', cap', cur, h', _, _, hnc, _⟩
  · injection h' with _ h1 h2
    omega
  · injection h' with _ _ h2
    omega
theorem own_capM {w : World} {base e size n c : Nat} {a : Option Addr} {xs : List Value} (h : w.ownsRow base e size (.slice a n c) n xs) : c ≤ maxLen := by
  rcases h.2 with ⟨h', _⟩ | ⟨g', cap', cur, h', _, _, hnc, hcm, _⟩
  · injection h' with _ h1 h2
    rw [h2]; exact Nat.zero_le _
  · injection h' with _ _ h2
    omega
theorem NodesIn.drop {w : World} {b off n : Nat} {ns : List Nd} (h : NodesIn w (some ⟨b, off, none⟩) n ns) (q : Nat) : NodesIn w (some ⟨b, off + q * 4, none⟩) (n - q) (ns.drop q) := by
  refine ⟨by rw [List.length_drop, h.1], fun j hj => ?_⟩
  obtain ⟨b', off', e, hlt, c0, c1, c2, c3⟩ := h.2 (q + j) (by omega)
  injection e with e
  injection e with e1 e2 _
  subst e1 e2
  have hg : (ns.drop q).getD j nd0 = ns.getD (q + j) nd0 := by simp [List.getD, List.getElem?_drop]
  rw [show off + (q + j) * 4 = off + q * 4 + j * 4 by omega] at c0 c1 c2 c3
  rw [hg]
  exact ⟨_, _, rfl, hlt, c0, c1, c2, c3⟩
theorem getD_take12 (ns : List Nd) (q j : Nat) (h : j < q) : (ns.take q).getD j nd0 = ns.getD j nd0 := by
  simp [List.getD, h]
theorem NodesIn.take {w : World} {a : Option Addr} {n : Nat} {ns : List Nd} (h : NodesIn w a n ns) (q : Nat) (hq : q ≤ n) : NodesIn w a q (ns.take q) := by
  refine ⟨by rw [List.length_take, h.1]; omega, fun j hj => ?_⟩
  have h2 := h.2 j (by omega)
  rw [getD_take12 ns q j hj]
  exact h2
theorem IntT.drop {ns : List Nd} (h : IntT ns) (q : Nat) : IntT (ns.drop q) := fun j => by
  have hg : (ns.drop q).getD j nd0 = ns.getD (q + j) nd0 := by simp [List.getD, List.getElem?_drop]
  rw [hg]
  exact h (q + j)
theorem IntT.take {ns : List Nd} (h : IntT ns) (q : Nat) : IntT (ns.take q) := fun j => by
  by_cases hj : j < q
  · rw [getD_take12 ns q j hj]; exact h j
  · have hg : (ns.take q).getD j nd0 = ns.getD ns.length nd0 := by simp [List.getD, List.getElem?_take, hj]
    rw [hg]; exact h ns.length
theorem ShortT.drop {ns : List Nd} (h : ShortT ns) (q : Nat) : ShortT (ns.drop q) := fun j => by
  have hg : (ns.drop q).getD j nd0 = ns.getD (q + j) nd0 := by simp [List.getD, List.getElem?_drop]
  rw [hg]
  exact h (q + j)
theorem ShortT.take {ns : List Nd} (h : ShortT ns) (q : Nat) : ShortT (ns.take q) := fun j => by
  by_cases hj : j < q
  · rw [getD_take12 ns q j hj]; exact h j
  · have hg : (ns.take q).getD j nd0 = nd0 := by simp [List.getD, List.getElem?_take, hj]
    rw [hg]; exact ⟨by decide, by decide⟩

end Go.Proofs.Ytnpbckgaeaameaa

/-! Needs as the landed code of chapter 12 holds them: arrays of sixty marks, the first k of them set; what is read and written of them as a whole. -/
namespace Go.Proofs.Ytnpbckgaeaameaa
open Go.RowKit

def nvL (k : Nat) : List Value := (List.range 60).map fun j => .bool (decide (j < k))
def nv (k : Nat) : Array Value := (nvL k).toArray
theorem nvL_len (k : Nat) : (nvL k).length = 60 := by simp [nvL]
theorem nv_size (k : Nat) : (nv k).size = 60 := by simp [nv, nvL_len]
theorem nvL_at (k j : Nat) (h : j < 60) : (nvL k)[j]? = some (.bool (decide (j < k))) := by simp [nvL, h]
theorem nv_at (k j : Nat) (h : j < 60) : (nv k)[j]? = some (.bool (decide (j < k))) := by simp [nv, nvL_at k j h]
theorem nvL_one (k : Nat) : ∀ v ∈ nvL k, v.oneCell' = true := by
  intro v hv
  obtain ⟨j, _, rfl⟩ := List.mem_map.1 hv
  rfl
theorem nvL_ext {a b : Nat} (h : ∀ j, j < 60 → (j < a ↔ j < b)) : nvL a = nvL b := by
  unfold nvL
  refine List.map_congr_left (fun j hj => ?_)
  rw [decide_eq_decide.2 (h j (List.mem_range.1 hj))]
theorem nv_ext {a b : Nat} (h : ∀ j, j < 60 → (j < a ↔ j < b)) : nv a = nv b := by unfold nv; rw [nvL_ext h]
theorem nv_inj {a b : Nat} (ha : a ≤ 60) (hb : b ≤ 60) (h : nv a = nv b) : a = b := by
  have key : ∀ j, j < 60 → (j < a ↔ j < b) := fun j hj => by
    have h1 := nv_at a j hj
    rw [h, nv_at b j hj] at h1
    injection h1 with h1
    injection h1 with h1
    exact decide_eq_decide.1 h1.symm
  rcases Nat.lt_trichotomy a b with hl | he | hl
  · have := (key a (by omega)).2 hl; omega
  · exact he
  · have := (key b (by omega)).1 hl; omega

theorem info55 : (Try.prog.info? 63).map (fun i => (i.zero, i.size, i.bytes)) = some (some (.agg (nv 0)), 60, 60) := by kernel_rfl
theorem size55 : (Try.prog.info? 63).map (·.size) = some 60 := by kernel_rfl

/-- A need lies in block b from o on, and may be written. -/
structure Nb (X : World) (b o k : Nat) : Prop where
  cs : X.rangeAt b o (nvL k)
  ok : X.there b o 60
section
variable {X Y : World} {b o k : Nat}
theorem Nb.cell (h : Nb X b o k) (j : Nat) (hj : j < 60) : X.cell? ⟨b, o + j, none⟩ = some (.bool (decide (j < k))) := h.cs j _ (nvL_at k j hj)
theorem Nb.lt (h : Nb X b o k) : b < X.heap.size := World.block_lt_of_cell? X _ (h.cell 0 (by omega))
theorem Nb.keep (h : Nb X b o k) (hb : Y.heap[b]? = X.heap[b]?) : Nb Y b o k :=
  ⟨fun j v hv => (World.cell?_of_block (a := ⟨b, o + j, none⟩) hb).trans (h.cs j v hv), fun j hj => by rw [World.cell?_of_block (a := ⟨b, o + j, none⟩) hb, World.frozen?_of_block (a := ⟨b, o + j, none⟩) hb]; exact h.ok j hj⟩
theorem Nb.kept {row : Option Nat} (h : Nb X b o k) (hg : X.grownBy Y row) (hne : some b ≠ row) : Nb Y b o k := h.keep (hg.block b h.lt hne)
theorem Nb.below (h : Nb X b o k) (hb : Below X.heap.size X Y) : Nb Y b o k := h.kept (row := none) (Below.by hb) (by simp)
theorem Nb.new (w : World) (k : Nat) (t : TypeId) : Nb (w.alloc (.cells (nv k) t)) w.heap.size 0 k := by
  have hA := heap_alloc_new w (.cells (nv k) t)
  refine ⟨fun j v hv => ?_, fun j hj => ?_⟩
  · rw [cell_of_row _ _ _ _ _ _ hA]
    simpa [nv] using hv
  · rw [cell_of_row _ _ _ _ _ _ hA, frozen_of_row _ _ _ _ _ hA, Nat.zero_add, nv_at k j hj]
    exact ⟨rfl, rfl⟩
theorem Nb.set (h : Nb X b o k) (i m : Nat) (v : Bool) (hi : i < 60) (hm : ∀ j, j < 60 → (j < m ↔ (if j = i then v = true else j < k))) : Nb (X.setCell ⟨b, o + i, none⟩ (.bool v)) b o m := by
  refine ⟨fun j u hu => ?_, fun j hj => ?_⟩
  · have hj : j < 60 := by have := (List.getElem?_eq_some_iff.1 hu).1; rw [nvL_len] at this; exact this
    rw [nvL_at m j hj] at hu
    injection hu with hu
    subst hu
    have h1 := hm j hj
    by_cases e : j = i
    · subst e
      rw [World.cell?_setCell_same _ _ _ (h.cell j hj)]
      rw [if_pos rfl] at h1
      cases v <;> simp_all
    · rw [World.cell?_setCell_other _ _ _ _ (fun e2 => by injection e2 with _ e2 _; omega), h.cell j hj]
      rw [if_neg e] at h1
      rw [decide_eq_decide.2 h1]
  · rw [World.frozen?_setCell]
    refine ⟨?_, (h.ok j hj).2⟩
    by_cases e : j = i
    · subst e
      rw [World.cell?_setCell_same _ _ _ (h.cell j hj)]; rfl
    · rw [World.cell?_setCell_other _ _ _ _ (fun e2 => by injection e2 with _ e2 _; omega)]; exact (h.ok j hj).1
theorem Nb.store (h : X.there b o 60) (k : Nat) : Nb (X.setCells b o (nvL k)) b o k :=
  ⟨World.rangeAt_setCells_same X b o (nvL k) (by rw [nvL_len]; exact h), World.there_setCells h b o _⟩
end
theorem grown_setNv (b : Nat) : ∀ (vs : List Value) (o : Nat) (w : World), w.grownBy (w.setCells b o vs) (some b)
  | [], _, w => World.grownBy.refl w _
  | v :: r, o, w => by
    rw [World.setCells]
    exact (grown_set w b o v).trans (grown_setNv b r (o + 1) _)

section
variable {ops : Array Oper} {rest : List Oper} {op : Oper} {a : Act} {w : World} {Q : Exit → Act → World → Prop} {K : Act → World → Prop}
theorem run_zero55 (w : World) : (zeroValue 63).run Try.prog w = .ok (.agg (nv 0)) w := Try.zeroValue63 w
theorem wp_alloc_nv (ho : op.op = .alloc 63) (h : ∀ Y g, Nb Y g 0 0 → Below w.heap.size w Y → w.heap.size ≤ g → K (a.put op.dst (.pointer (some ⟨g, 0, none⟩))) Y) : op.wp Try.prog a w K Q := by
  unfold Oper.wp execOp
  simp only [ho, Instr.alloc, Sem.run_bind, run_zero55, Result.andThen_ok, newVar, newRow, run_newObj_alloc, Sem.run_pure, Value.cells]
  exact h _ _ (Nb.new w 0 _) ((Below.refl _ _).alloc (Nat.le_refl _) _) (Nat.le_refl _)
theorem list_alloc_nv (hgd : op.guard = none) (ho : op.op = .alloc 63) (d : Nat) (hd : op.dst = some d) (h : ∀ Y g, Nb Y g 0 0 → Below w.heap.size w Y → w.heap.size ≤ g → wpList Try.prog ops Q rest (a.put (some d) (.pointer (some ⟨g, 0, none⟩))) Y) : wpList Try.prog ops Q (op :: rest) a w :=
  wpList_plain hgd fun _ hK => wp_alloc_nv ho (fun Y g h1 h2 h3 => by rw [hd]; exact hK _ _ (h Y g h1 h2 h3))
theorem list_box_nv (hgd : op.guard = none) (x : Operand) (ho : op.op = .box 63 x) (d : Nat) (hd : op.dst = some d) (k : Nat) (hx : a.eval x = .agg (nv k)) (h : ∀ Y g, Nb Y g 0 k → Below w.heap.size w Y → w.heap.size ≤ g → wpList Try.prog ops Q rest (a.put (some d) (.pointer (some ⟨g, 0, none⟩))) Y) : wpList Try.prog ops Q (op :: rest) a w := by
  refine wpList_plain hgd fun K hK => ?_
  unfold Oper.wp execOp
  simp only [ho, hx, Sem.run_bind, Instr.box, newVar, newRow, run_newObj_alloc, Sem.run_pure, Result.andThen_ok, Value.cells]
  have := hK (a.put (some d) _) _ (h _ _ (Nb.new w k 63) ((Below.refl _ _).alloc (Nat.le_refl _) _) (Nat.le_refl _))
  rw [← hd] at this
  exact this
theorem wp_load_nv (x : Operand) (ho : op.op = .load 63 x) (b o k : Nat) (hx : a.eval x = .pointer (some ⟨b, o, none⟩)) (hc : w.rangeAt b o (nvL k)) (h : K (a.put op.dst (.agg (nv k))) w) : op.wp Try.prog a w K Q :=
  wp_load_mid _ x ho b o hx (nvL k) _ hc Try.underlying63 rfl (by rw [nvL_len]; exact size55) h
theorem list_load_nv (hgd : op.guard = none) (x : Operand) (ho : op.op = .load 63 x) (d : Nat) (hd : op.dst = some d) (b o k : Nat) (hx : a.eval x = .pointer (some ⟨b, o, none⟩)) (hc : w.rangeAt b o (nvL k)) (h : wpList Try.prog ops Q rest (a.put (some d) (.agg (nv k))) w) : wpList Try.prog ops Q (op :: rest) a w :=
  wpList_plain hgd fun _ hK => wp_load_nv x ho b o k hx hc (by rw [hd]; exact hK _ _ h)
theorem yields_load_nv {S : World → Prop} (hw : Region.wanted op (yielded ops a.tmps) = true) (x : Operand) (ho : op.op = .load 63 x) (b o k : Nat) (hx : a.eval x = .pointer (some ⟨b, o, none⟩)) (hc : ∀ v, S v → v.rangeAt b o (nvL k)) : YieldsIf Try.prog ops S op (.agg (nv k)) a :=
  yieldsIf_load_mid hw _ x ho b o hx (nvL k) _ hc Try.underlying63 rfl (by rw [nvL_len]; exact size55)
theorem wp_store_nv (x y : Operand) (ho : op.op = .store 63 x y) (b o k : Nat) (hx : a.eval x = .pointer (some ⟨b, o, none⟩)) (hy : a.eval y = .agg (nv k)) (ht : w.there b o 60)
    (h : ∀ Y, Nb Y b o k → w.grownBy Y (some b) → Y = w.setCells b o (nvL k) → K (a.put op.dst undef) Y) : op.wp Try.prog a w K Q := by
  refine wp_store_mid _ x y ho b o (nv k) hx hy (by rw [nv_size]; exact ht) (by rw [nv_size]; exact size55) (all_oneCell_toArray (nvL_one k)) ?_
  exact h _ (Nb.store ht k) (grown_setNv b _ o w) rfl
theorem list_store_nv (hgd : op.guard = none) (x y : Operand) (ho : op.op = .store 63 x y) (b o k : Nat) (hx : a.eval x = .pointer (some ⟨b, o, none⟩)) (hy : a.eval y = .agg (nv k)) (ht : w.there b o 60)
    (h : ∀ Y, Nb Y b o k → w.grownBy Y (some b) → wpList Try.prog ops Q rest (a.put op.dst undef) Y) : wpList Try.prog ops Q (op :: rest) a w :=
  wpList_plain hgd fun _ hK => wp_store_nv x y ho b o k hx hy ht (fun Y h1 h2 _ => hK _ _ (h Y h1 h2))
theorem built_none : Try.prog.built 63 [] = some (nv 0) := by kernel_rfl
theorem built_one : Try.prog.built 63 [(0, .bool true)] = some (nv 1) := by kernel_rfl
theorem list_build_nv (hgd : op.guard = none) (ho : op.op = .build 63 #[]) (h : wpList Try.prog ops Q rest (a.put op.dst (.agg (nv 0))) w) : wpList Try.prog ops Q (op :: rest) a w :=
  wpList_buildTo hgd _ _ ho _ rfl (nv 0) (by simp only [List.map_toArray, List.map_nil]; exact built_none) h
theorem list_build_nv1 (hgd : op.guard = none) (ho : op.op = .build 63 #[(0, .const (.bool true))]) (h : wpList Try.prog ops Q rest (a.put op.dst (.agg (nv 1))) w) : wpList Try.prog ops Q (op :: rest) a w :=
  wpList_buildTo hgd _ _ ho _ rfl (nv 1) (by simp only [List.map_toArray, List.map_cons, List.map_nil]; exact built_one) h
end
theorem results_nv {fn : Func} {p : Tmp} (h : fn.results = #[.cell p 63]) (tmps : Array Value) (w : World) (b k : Nat) (hp : tmps.getD p undef = .pointer (some ⟨b, 0, none⟩)) (hc : w.rangeAt b 0 (nvL k)) : (results fn tmps).run Try.prog w = .ok (.agg (nv k)) w := by
  have hp' : tmps[p]?.getD undef = .pointer (some ⟨b, 0, none⟩) := by simpa using hp
  have hl := run_loadVar_mid (P := Try.prog) w b 0 63 (nvL k) _ hc Try.underlying63 rfl (by rw [nvL_len]; exact size55)
  simp [results, h, hp', asAddr, hl, nv]

/-- Two needs held against each other. -/
theorem run_equalIn_nv (d x y : Nat) (hx : x ≤ 60) (hy : y ≤ 60) (w : World) : (Op.equalIn (d + 2) 63 (.agg (nv x)) (.agg (nv y))).run Try.prog w = .ok (decide (x = y)) w := by
  have key : ((List.range 60).all fun i => (decide (i < x)) == (decide (i < y))) = decide (x = y) := by
    by_cases e : x = y
    · subst e; simp
    · have : ¬ (∀ j, j < 60 → (j < x ↔ j < y)) := fun h => e (nv_inj hx hy (nv_ext h))
      rw [decide_eq_false e]
      rw [Bool.eq_false_iff]
      intro hall
      refine this (fun j hj => ?_)
      have := List.all_eq_true.1 hall j (List.mem_range.2 hj)
      simpa using this
  rw [← key, List.range_eq_range', Op.equalIn]
  simp only [Sem.run_bind, run_underlying Try.underlying63, Result.andThen_ok, Try.sizeOf4, Std.Legacy.Range.forIn_eq_forIn_range', Std.Legacy.Range.size, Nat.sub_zero, Nat.add_sub_cancel, Nat.div_one]
  have hl : ∀ i ∈ List.range' 0 60 1, i < 60 := fun i hi => by simpa using (List.mem_range'_1.1 hi).2
  generalize List.range' 0 60 1 = l at hl ⊢
  induction l with
  | nil => simp
  | cons i l ih =>
    have hi : i < 60 := hl i (by simp)
    have hp : ∀ k, (part 4 (nv k) (i * 1)).run Try.prog w = .ok (.bool (decide (i < k))) w := fun k => by
      simp [part, isAgg, run_underlying Try.underlying4, nv_at k i hi]
    have pe : (Op.equalIn (d + 1) 4 (.bool (decide (i < x))) (.bool (decide (i < y)))).run Try.prog w = .ok (decide (i < x) == decide (i < y)) w := by
      rw [Op.equalIn]
      simp only [Sem.run_bind, run_underlying Try.underlying4, Result.andThen_ok, Sem.run_pure]
    simp only [List.forIn_cons, Sem.run_bind, hp, pe, Result.andThen_ok, List.all_cons]
    cases hb : (decide (i < x) == decide (i < y))
    · simp
    · simp only [Bool.not_true, Bool.false_eq_true, if_false, Sem.run_pure, Result.andThen_ok, Bool.true_and]
      exact ih fun j hj => hl j (by simp [hj])
theorem run_eql_nv (x y : Nat) (hx : x ≤ 60) (hy : y ≤ 60) (w : World) : (binOp .eql 63 (.agg (nv x)) (.agg (nv y))).run Try.prog w = .ok (.bool (decide (x = y))) w := by
  rw [run_eql_struct, run_equalIn_nv 9998 x y hx hy w]
  rfl

end Go.Proofs.Ytnpbckgaeaameaa
