/-
  Parts of one proof, one behind the other: NeedJ.
-/
import Derived.Test.YtnpbckgaeaameaaP24

/-! The contract of chapter 12's landed code: FirstPart. -/
namespace Go.Proofs.Ytnpbckgaeaameaa
open Go.RowKit

theorem first_gr {x y : Nat} (hx : 1 ≤ x) : (gr [x, y] = x) ↔ y ≤ x := by rw [gr_two]; omega
/-- What a node's parts tell of which goes first. -/
theorem first_eq {t : List Nd} (ht : treeB t = true) {q p0 p1 : Nat} (hq : q < t.length) (hk : 3 ≤ (t.getD q nd0).1 ∧ (t.getD q nd0).1 ≤ 6) (e0 : (pts10 t (q : Int)).getD 0 0 = (p0 : Int)) (e1 : (pts10 t (q : Int)).getD 1 0 = (p1 : Int)) (h0 : p0 < t.length) (h1 : p1 < t.length) :
    firstT t (q : Int) = if decide (gr [nd12 t [] p0, nd12 t [] p1] = nd12 t [] p0) = true then 0 else 1 := by
  have r0 := nd_range (os := []) ht h0
  have r1 := nd_range (os := []) ht h1
  unfold firstT
  rw [if_pos ⟨ht, by omega, by omega, by rw [Int.toNat_natCast]; exact hk⟩, e0, e1, ← r0.2.2, ← r1.2.2]
  by_cases h : nd12 t [] p1 ≤ nd12 t [] p0
  · rw [if_pos (by omega), if_pos (decide_eq_true ((first_gr r0.1).2 h))]
  · rw [if_neg (by omega), if_neg (fun e => h ((first_gr r0.1).1 (of_decide_eq_true e)))]
/-- Two needs that lie somewhere behind what was there. -/
structure Tv (w X : World) (g1 g2 x y : Nat) : Prop where
  a : Nb X g1 0 x
  b : Nb X g2 0 y
  bl : Below w.heap.size w X
theorem wp_alloc_nvD {op : Oper} {a : Act} {w : World} {Q : Exit → Act → World → Prop} {K : Act → World → Prop} (ho : op.op = .alloc 63) (d : Nat) (hd : op.dst = some d) (h : ∀ Y g, Nb Y g 0 0 → Below w.heap.size w Y → w.heap.size ≤ g → K (a.put (some d) (.pointer (some ⟨g, 0, none⟩))) Y) : op.wp Try.prog a w K Q :=
  wp_alloc_nv ho (fun Y g h1 h2 h3 => by rw [hd]; exact h Y g h1 h2 h3)
theorem Tv.below {w X Y : World} {g1 g2 x y : Nat} (s : Tv w X g1 g2 x y) (hb : Below X.heap.size X Y) : Tv w Y g1 g2 x y := ⟨s.a.below hb, s.b.below hb, s.bl.trans (hb.mono s.bl.size)⟩
theorem Tv.drew {w X : World} {g1 g2 x y : Nat} (s : Tv w X g1 g2 x y) : Tv w X.drew g1 g2 x y := s.below ⟨rfl, rfl, rfl, Nat.le_refl _, fun _ _ => rfl⟩

def fo13 (x y : Nat) : Int := if decide (gr [x, y] = x) = true then 0 else 1
set_option maxHeartbeats 2000000 in
set_option maxRecDepth 100000 in
theorem implFirstOf (x y : Nat) (w : World) (hx : x ≤ 60) (hy : y ≤ 60) :
    Calls Try.prog 41 #[.agg (nv x), .agg (nv y)] w fun e w' => e = .returned (.int .i64 (fo13 x y)) ∧ Below w.heap.size w w' := by
  have heq0 := run_eql_nv (gr [x, y]) x (by rw [gr_two]; omega) hx
  have HF : Hid (fo13 x y = if decide (gr [x, y] = x) = true then 0 else 1) := by exact (rfl : fo13 x y = _)
  obtain ⟨bd, hbd⟩ : ∃ bd, decide (gr [x, y] = x) = bd := ⟨_, rfl⟩
  rw [hbd] at HF heq0
  generalize fo13 x y = fT at HF ⊢
  clear hbd
  go_enter Try.func41, Try.ntmps41
  go_wp2_with (guard_target = wpList _ _ _ _ _ _; first | (refine list_box_nv rfl _ rfl 2 rfl x rfl (fun Y1 g7 hN1 hB1 hG1 => ?_)) | (refine list_box_nv rfl _ rfl 3 rfl y rfl (fun Y2 g8 hN2 hB2 hG2 => ?_)))
  have st : Hid (Tv w Y2 g7 g8 x y) := ⟨hN1.below hB2, hN2, hB1.trans (hB2.mono hB1.size)⟩
  clear hN1 hB1 hG1 hN2 hB2 hG2
  refine wp_region_held_drew (S := fun X => Tv w X g7 g8 x y) (by kernel_rfl) st.out.drew (fun hHeld => ?_)
  refine wpAnyH_take (i := 0) (oi := ⟨some 5, _, _, _, _, _⟩) (v := .agg (nv (x))) rfl (by kernel_rfl) (by kernel_rfl) (by kernel_rfl) (fun _ _ _ h => h) (yields_load_nv (by rfl) _ rfl g7 (0) (x) rfl (fun v h => h.a.cs)) (by assumption) ?_
  simp only [Act.put, List.setIfInBounds_toArray, List.set_cons_zero, List.set_cons_succ]
  refine wpAnyH_take (i := 1) (oi := ⟨some 6, _, _, _, _, _⟩) (v := .agg (nv (y))) rfl (by kernel_rfl) (by kernel_rfl) (by kernel_rfl) (fun _ _ _ h => h) (yields_load_nv (by rfl) _ rfl g8 (0) (y) rfl (fun v h => h.b.cs)) (by assumption) ?_
  simp only [Act.put, List.setIfInBounds_toArray, List.set_cons_zero, List.set_cons_succ]
  refine wpAnyH_take (i := 4) (oi := ⟨some 9, _, _, _, _, _⟩) (v := .agg (nv (x))) rfl (by kernel_rfl) (by kernel_rfl) (by kernel_rfl) (fun _ _ _ h => h) (yields_load_nv (by rfl) _ rfl g7 (0) (x) rfl (fun v h => h.a.cs)) (by assumption) ?_
  simp only [Act.put, List.setIfInBounds_toArray, List.set_cons_zero, List.set_cons_succ]
  refine wpAnyH_ready (rs := [2]) (by kernel_rfl) (by simp) ?_
  refine AllReadyH.cons rfl (fun K hK => ?_) AllReadyH.nil
  refine step_of_wp rfl (wp_slice2_nv _ _ rfl x y rfl rfl (fun W3 g4 hn3 hb3 _ => ?_))
  refine hK.out _ _ (by exact hHeld.below hb3) (fun hHeld => ?_)
  clear hK K
  (try simp only [Act.put, List.setIfInBounds_toArray])
  refine wpAnyH_ready (rs := [3]) (by kernel_rfl) (by simp) ?_
  refine AllReadyH.cons rfl (fun K hK => ?_) AllReadyH.nil
  go_simp
  refine (implGreatest _ 2 2 [x, y] _ rfl hn3 (by omega)).mono ?_
  rintro e W4 ⟨rfl, hb4⟩
  dsimp only
  refine hK.out _ _ (by exact hHeld.below hb4) (fun hHeld => ?_)
  clear hK K
  (try simp only [Act.put, List.setIfInBounds_toArray, List.set_cons_zero, List.set_cons_succ])
  refine wpAnyH_take (i := 5) (oi := ⟨some 10, _, _, _, _, _⟩) (v := ?v1) rfl (by kernel_rfl) (by kernel_rfl) (by kernel_rfl) (fun _ _ _ h => h) (Or.inl ⟨by rfl, ?hy1⟩) (by assumption) ?rest1
  case hy1 => (intro wq hSw; clear hSw; first | (go_simp; done) | (go_simp; with_reducible rfl))
  simp only [Act.put, List.setIfInBounds_toArray, List.set_cons_zero, List.set_cons_succ]
  have HBF : Hid (Below w.heap.size w W4) := hHeld.bl
  refine wpAnyH_done (by kernel_rfl) ?_ _
  clear hHeld hn3 hb3 hb4 st heq0
  cases bd
  · go_wp2
    go_ret
    exact ⟨by rw [HF.out]; rfl, HBF.out⟩
  · go_wp2
    go_ret
    exact ⟨by rw [HF.out]; rfl, HBF.out⟩
set_option maxHeartbeats 4000000 in
set_option maxRecDepth 100000 in
theorem implFirstNo (a : Option Addr) (cap : Nat) (ns : List Nd) (i : Int) (w : World) (hin : NodesIn w a ns.length ns) (hint : IntT ns) (hsh : ShortT ns) (hlen : ns.length ≤ 1048576) (hno : treeB ns = false ∨ i < 0 ∨ (ns.length : Int) ≤ i) :
    Calls Try.prog 11 #[.slice a ns.length cap, .int .i64 i] w fun e w' => e = .returned (.int .i64 (-1)) ∧ Below w.heap.size w w' := by
  have HT : Hid (_) := implTreeOk a ns.length cap ns w hin hint hsh hlen
  rcases hb : treeB ns with _ | _
  · rw [hb] at HT
    clear hin hb hno
    go_enter Try.func11, Try.ntmps11
    go_wp2_with fail
    refine Calls.mono HT.out ?_
    rintro e w1 ⟨rfl, hb1⟩
    go_wp2
    go_ret
    exact ⟨rfl, hb1⟩
  · rw [hb] at HT hno
    by_cases h0 : i < 0
    · clear hin hb hno
      go_enter Try.func11, Try.ntmps11
      go_wp2_with fail
      refine Calls.mono HT.out ?_
      rintro e w1 ⟨rfl, hb1⟩
      go_wp2
      go_ret
      exact ⟨rfl, hb1⟩
    · have h1 : (ns.length : Int) ≤ i := by
        rcases hno with h | h | h
        · cases h
        · exact absurd h h0
        · exact h
      clear hin hb hno
      go_enter Try.func11, Try.ntmps11
      go_wp2_with fail
      refine Calls.mono HT.out ?_
      rintro e w1 ⟨rfl, hb1⟩
      go_wp2
      go_ret
      exact ⟨rfl, hb1⟩
set_option maxHeartbeats 4000000 in
set_option maxRecDepth 100000 in
theorem implFirstOdd (a : Option Addr) (cap : Nat) (ns : List Nd) (q : Nat) (w : World) (hin : NodesIn w a ns.length ns) (hint : IntT ns) (hsh : ShortT ns) (hlen : ns.length ≤ 1048576) (ht : treeB ns = true) (hq : q < ns.length) (hk : pairB (ns.getD q nd0) = false) :
    Calls Try.prog 11 #[.slice a ns.length cap, .int .i64 (q : Int)] w fun e w' => e = .returned (.int .i64 (-1)) ∧ Below w.heap.size w w' := by
  obtain ⟨n, hn⟩ : ∃ n, ns.length = n := ⟨_, rfl⟩
  have HNi : Hid (∀ X, Below w.heap.size w X → NodesIn X a n ns) := fun X hb => by rw [← hn]; exact hin.below hb
  have HT : Hid (Calls Try.prog 37 #[.slice a n cap] w fun e w' => e = .returned (.bool true) ∧ Below w.heap.size w w') := by
    have h := implTreeOk a ns.length cap ns w hin hint hsh hlen
    rw [ht, hn] at h
    exact h
  have hq1 : (q : Int) < (n : Int) := by omega
  obtain ⟨nq, hnq⟩ : ∃ nq, ns.getD q nd0 = nq := ⟨_, rfl⟩
  rw [hnq] at hk
  have HNq : Hid (ns.getD q nd0 = nq) := hnq
  rw [hn]
  clear hin hint hsh hnq hn hlen
  go_enter Try.func11, Try.ntmps11
  go_wp2_with fail
  refine Calls.mono HT.out ?_
  rintro e w1 ⟨rfl, hb1⟩
  have hni := (HNi.out w1 hb1).2 q (by omega)
  rw [HNq.out] at hni
  obtain ⟨b, off, rfl, hbl, c0, c1, c2, c3⟩ := hni
  obtain ⟨kk, aa, pp, ff⟩ := nq
  simp only at c0 c1 c2 c3
  have HI : Hid (∀ X, Calls Try.prog 38 #[.agg #[.int .i64 kk, .int .i64 aa, .string ⟨pp.toArray⟩, .string ⟨ff.toArray⟩]] X fun e w' => e = .returned (.bool (pairB (kk, aa, pp, ff))) ∧ Below X.heap.size X w') := fun X => implIsPair (kk, aa, pp, ff) X
  rw [hk] at HI
  go_wp2_with fail
  refine Calls.mono (HI.out _) ?_
  rintro e w2 ⟨rfl, hb2⟩
  have hB2 := hb1.trans (hb2.mono hb1.size)
  clear c0 c1 c2 c3 HI hb2 hb1 hbl HT
  go_wp2
  go_ret
  exact ⟨rfl, hB2⟩
set_option maxHeartbeats 8000000 in
set_option maxRecDepth 100000 in
theorem implFirstYes (a : Option Addr) (cap : Nat) (ns : List Nd) (q : Nat) (w : World) (hin : NodesIn w a ns.length ns) (hint : IntT ns) (hsh : ShortT ns) (hlen : ns.length ≤ 1048576) (ht : treeB ns = true) (hq : q < ns.length) (hk : pairB (ns.getD q nd0) = true) :
    Calls Try.prog 11 #[.slice a ns.length cap, .int .i64 (q : Int)] w fun e w' => e = .returned (.int .i64 (firstT ns (q : Int))) ∧ Below w.heap.size w w' := by
  have hk36 : 3 ≤ (ns.getD q nd0).1 ∧ (ns.getD q nd0).1 ≤ 6 := by
    have h := hk
    unfold pairB at h
    rw [Bool.and_eq_true, decide_eq_true_iff, decide_eq_true_iff] at h
    exact h
  have hpl : (pts10 ns (q : Int)).length = 2 := by unfold pts10; rw [partsGo_len, Int.toNat_natCast, kids_four hk36]
  obtain ⟨p0, e0, hq0, hl0⟩ := part_at ht hq (by rw [hpl]; omega : 0 < (pts10 ns (q : Int)).length)
  obtain ⟨p1, e1, hq1', hl1⟩ := part_at ht hq (by rw [hpl]; omega : 1 < (pts10 ns (q : Int)).length)
  have r0 := nd_range (os := []) ht hl0
  have r1 := nd_range (os := []) ht hl1
  have HLe : Hid (∀ X, Below w.heap.size w X → Calls Try.prog 39 #[.slice a ns.length cap] X fun e w' => ∃ gN, e = .returned (.slice (some ⟨gN, 0, none⟩) ns.length ns.length) ∧ Nr X w' gN ns.length 0 (nd12 ns [])) := fun X hy => implLeast a cap ns X (hin.below hy) hint hsh ht
  have HPo : Hid (∀ X, Below w.heap.size w X → Calls Try.prog 40 #[.slice a ns.length cap, .int .i64 (q : Int)] X fun e w' => ∃ v, e = .returned v ∧ w'.ownsRow X.heap.size 2 1 v (pts10 ns (q : Int)).length (intsV (pts10 ns (q : Int))) ∧ Below X.heap.size X w') := fun X hb => by
    have h := implPartsOf a ns.length cap ns (q : Int) X (hin.below hb) hint hsh (by omega) (by omega)
    rw [parts_at ht hq] at h
    exact h
  obtain ⟨ps, hps⟩ : ∃ ps, pts10 ns (q : Int) = ps := ⟨_, rfl⟩
  rw [hps] at HPo e0 e1 hpl
  have HO : Hid (∀ X, Calls Try.prog 41 #[.agg (nv (nd12 ns [] p0)), .agg (nv (nd12 ns [] p1))] X fun e w' => e = .returned (.int .i64 (fo13 (nd12 ns [] p0) (nd12 ns [] p1))) ∧ Below X.heap.size X w') := fun X => implFirstOf _ _ X r0.2.1 r1.2.1
  have HF2 : firstT ns (q : Int) = fo13 (nd12 ns [] p0) (nd12 ns [] p1) := first_eq ht hq hk36 (by rw [hps]; exact e0) (by rw [hps]; exact e1) hl0 hl1
  rw [HF2]
  clear HF2
  generalize nd12 ns [] = f at *
  clear hk36 r0 r1 hps
  obtain ⟨n, hn⟩ : ∃ n, ns.length = n := ⟨_, rfl⟩
  have HNi : Hid (∀ X, Below w.heap.size w X → NodesIn X a n ns) := fun X hb => by rw [← hn]; exact hin.below hb
  have HT : Hid (Calls Try.prog 37 #[.slice a n cap] w fun e w' => e = .returned (.bool true) ∧ Below w.heap.size w w') := by
    have h := implTreeOk a ns.length cap ns w hin hint hsh hlen
    rw [ht, hn] at h
    exact h
  have hq1 : (q : Int) < (n : Int) := by omega
  obtain ⟨nq, hnq⟩ : ∃ nq, ns.getD q nd0 = nq := ⟨_, rfl⟩
  rw [hnq] at hk
  have HNq : Hid (ns.getD q nd0 = nq) := hnq
  rw [hn] at HLe HPo hl0 hl1
  have HE0 : Hid (ps.getD 0 0 = (p0 : Int) ∧ ps.getD 1 0 = (p1 : Int) ∧ ps.length = 2) := ⟨e0, e1, hpl⟩
  generalize fo13 (f p0) (f p1) = fT at *
  clear e0 e1 hpl ht hq hq0 hq1'
  rw [hn]
  clear hin hint hsh hnq hn hlen
  go_enter Try.func11, Try.ntmps11
  go_wp2_with fail
  refine Calls.mono HT.out ?_
  rintro e w1 ⟨rfl, hb1⟩
  have hni := (HNi.out w1 hb1).2 q (by omega)
  rw [HNq.out] at hni
  obtain ⟨b, off, rfl, hbl, c0, c1, c2, c3⟩ := hni
  obtain ⟨kk, aa, pp, ff⟩ := nq
  simp only at c0 c1 c2 c3
  have HI : Hid (∀ X, Calls Try.prog 38 #[.agg #[.int .i64 kk, .int .i64 aa, .string ⟨pp.toArray⟩, .string ⟨ff.toArray⟩]] X fun e w' => e = .returned (.bool (pairB (kk, aa, pp, ff))) ∧ Below X.heap.size X w') := fun X => implIsPair (kk, aa, pp, ff) X
  rw [hk] at HI
  go_wp2_with fail
  refine Calls.mono (HI.out _) ?_
  rintro e w2 ⟨rfl, hb2⟩
  have hB2 := hb1.trans (hb2.mono hb1.size)
  clear c0 c1 c2 c3 HI hb2 hb1 hbl HT
  go_wp2_with fail
  refine Calls.mono (HLe.out _ hB2) ?_
  rintro e w3 ⟨gN, rfl, hnr⟩
  have hB3 := hB2.trans (hnr.b.mono hB2.size)
  go_wp2_with fail
  refine Calls.mono (HPo.out _ hB3) ?_
  rintro e w4 ⟨pv, rfl, hpv, hb4⟩
  have hnr4 := hnr.below hb4
  have hB4 := hB3.trans (hb4.mono hB3.size)
  obtain ⟨la, lc, rfl, has⟩ := own_as hpv
  obtain ⟨gp, go2, rfl, hgl, hc0⟩ := has 0 (by rw [HE0.out.2.2]; omega)
  obtain ⟨gp', go2', e, _, hc1⟩ := has 1 (by rw [HE0.out.2.2]; omega)
  injection e with e
  injection e with e1 e2 _
  subst e1 e2
  rw [HE0.out.1, Nat.add_zero] at hc0
  rw [HE0.out.2.1] at hc1
  rw [HE0.out.2.2]
  have hrg0 := hnr4.rows p0 (Nat.zero_le _) hl0
  have hrg1 := hnr4.rows p1 (Nat.zero_le _) hl1
  have HG0 : Hid (∀ X, Below w4.heap.size w4 X → X.cell? ⟨gp, go2, none⟩ = some (.int .i64 (p0 : Int)) ∧ X.cell? ⟨gp, go2 + 1, none⟩ = some (.int .i64 (p1 : Int)) ∧ X.rangeAt gN (p0 * 60) (nvL (f p0)) ∧ X.rangeAt gN (p1 * 60) (nvL (f p1))) := fun X h =>
    ⟨(h.cell (p := ⟨gp, go2, none⟩) hgl).trans hc0, (h.cell (p := ⟨gp, go2 + 1, none⟩) hgl).trans hc1, range_block hrg0 (h.block gN hnr4.lt), range_block hrg1 (h.block gN hnr4.lt)⟩
  have HB4 : Hid (Below w.heap.size w w4) := hB4
  have hp0 : (p0 : Int) < (n : Int) := by omega
  have hp1 : (p1 : Int) < (n : Int) := by omega
  have hp0n : p0 < n := hl0
  have hp1n : p1 < n := hl1
  clear hnr hB2 hB3 hb4 hpv hnr4 hB4 has hc0 hc1 hrg0 hrg1 hgl HPo HLe HE0
  go_wp2
  refine wp_region_held_drew (S := fun X => Below w4.heap.size w4 X) (by kernel_rfl) ⟨rfl, rfl, rfl, Nat.le_refl _, fun _ _ => rfl⟩ (fun hHeld => ?_)
  refine wpAnyH_take (i := 0) (oi := ⟨some 33, _, _, _, _, _⟩) (v := ?v2) rfl (by kernel_rfl) (by kernel_rfl) (by kernel_rfl) (fun _ _ _ h => h) (Or.inl ⟨by rfl, ?hy2⟩) (by assumption) ?rest2
  case hy2 => (intro wq hSw; have e0 := (HG0.out wq hSw).1; have e1 := (HG0.out wq hSw).2.1; clear hSw; first | (go_simp; done) | (go_simp; with_reducible rfl))
  simp only [Act.put, List.setIfInBounds_toArray, List.set_cons_zero, List.set_cons_succ]
  refine wpAnyH_take (i := 1) (oi := ⟨some 34, _, _, _, _, _⟩) (v := ?v3) rfl (by kernel_rfl) (by kernel_rfl) (by kernel_rfl) (fun _ _ _ h => h) (Or.inl ⟨by rfl, ?hy3⟩) (by assumption) ?rest3
  case hy3 => (intro wq hSw; have e0 := (HG0.out wq hSw).1; have e1 := (HG0.out wq hSw).2.1; clear hSw; first | (go_simp; done) | (go_simp; with_reducible rfl))
  simp only [Act.put, List.setIfInBounds_toArray, List.set_cons_zero, List.set_cons_succ]
  refine wpAnyH_take (i := 2) (oi := ⟨some 35, _, _, _, _, _⟩) (v := ?v4) rfl (by kernel_rfl) (by kernel_rfl) (by kernel_rfl) (fun _ _ _ h => h) (Or.inl ⟨by rfl, ?hy4⟩) (by assumption) ?rest4
  case hy4 => (intro wq hSw; have e0 := (HG0.out wq hSw).1; have e1 := (HG0.out wq hSw).2.1; clear hSw; first | (go_simp; done) | (go_simp; with_reducible rfl))
  simp only [Act.put, List.setIfInBounds_toArray, List.set_cons_zero, List.set_cons_succ]
  refine wpAnyH_take (i := 3) (oi := ⟨some 36, _, _, _, _, _⟩) (v := ?v5) rfl (by kernel_rfl) (by kernel_rfl) (by kernel_rfl) (fun _ _ _ h => h) (Or.inl ⟨by rfl, ?hy5⟩) (by assumption) ?rest5
  case hy5 => (intro wq hSw; have e0 := (HG0.out wq hSw).1; have e1 := (HG0.out wq hSw).2.1; clear hSw; first | (go_simp; done) | (go_simp; with_reducible rfl))
  simp only [Act.put, List.setIfInBounds_toArray, List.set_cons_zero, List.set_cons_succ]
  refine wpAnyH_take (i := 4) (oi := ⟨some 37, _, _, _, _, _⟩) (v := ?v6) rfl (by kernel_rfl) (by kernel_rfl) (by kernel_rfl) (fun _ _ _ h => h) (Or.inl ⟨by rfl, ?hy6⟩) (by assumption) ?rest6
  case hy6 => (intro wq hSw; have e0 := (HG0.out wq hSw).1; have e1 := (HG0.out wq hSw).2.1; clear hSw; first | (go_simp; done) | (go_simp; with_reducible rfl))
  simp only [Act.put, List.setIfInBounds_toArray, List.set_cons_zero, List.set_cons_succ]
  refine wpAnyH_take (i := 5) (oi := ⟨some 38, _, _, _, _, _⟩) (v := .agg (nv (f p0))) rfl (by kernel_rfl) (by kernel_rfl) (by kernel_rfl) (fun _ _ _ h => h) (yields_load_nv (by rfl) _ rfl gN (p0 * 60) (f p0) rfl (fun v h => (HG0.out v h).2.2.1)) (by assumption) ?_
  simp only [Act.put, List.setIfInBounds_toArray, List.set_cons_zero, List.set_cons_succ]
  refine wpAnyH_take (i := 6) (oi := ⟨some 39, _, _, _, _, _⟩) (v := ?v7) rfl (by kernel_rfl) (by kernel_rfl) (by kernel_rfl) (fun _ _ _ h => h) (Or.inl ⟨by rfl, ?hy7⟩) (by assumption) ?rest7
  case hy7 => (intro wq hSw; have e0 := (HG0.out wq hSw).1; have e1 := (HG0.out wq hSw).2.1; clear hSw; first | (go_simp; done) | (go_simp; with_reducible rfl))
  simp only [Act.put, List.setIfInBounds_toArray, List.set_cons_zero, List.set_cons_succ]
  refine wpAnyH_take (i := 7) (oi := ⟨some 40, _, _, _, _, _⟩) (v := ?v8) rfl (by kernel_rfl) (by kernel_rfl) (by kernel_rfl) (fun _ _ _ h => h) (Or.inl ⟨by rfl, ?hy8⟩) (by assumption) ?rest8
  case hy8 => (intro wq hSw; have e0 := (HG0.out wq hSw).1; have e1 := (HG0.out wq hSw).2.1; clear hSw; first | (go_simp; done) | (go_simp; with_reducible rfl))
  simp only [Act.put, List.setIfInBounds_toArray, List.set_cons_zero, List.set_cons_succ]
  refine wpAnyH_take (i := 8) (oi := ⟨some 41, _, _, _, _, _⟩) (v := ?v9) rfl (by kernel_rfl) (by kernel_rfl) (by kernel_rfl) (fun _ _ _ h => h) (Or.inl ⟨by rfl, ?hy9⟩) (by assumption) ?rest9
  case hy9 => (intro wq hSw; have e0 := (HG0.out wq hSw).1; have e1 := (HG0.out wq hSw).2.1; clear hSw; first | (go_simp; done) | (go_simp; with_reducible rfl))
  simp only [Act.put, List.setIfInBounds_toArray, List.set_cons_zero, List.set_cons_succ]
  refine wpAnyH_take (i := 9) (oi := ⟨some 42, _, _, _, _, _⟩) (v := ?v10) rfl (by kernel_rfl) (by kernel_rfl) (by kernel_rfl) (fun _ _ _ h => h) (Or.inl ⟨by rfl, ?hy10⟩) (by assumption) ?rest10
  case hy10 => (intro wq hSw; have e0 := (HG0.out wq hSw).1; have e1 := (HG0.out wq hSw).2.1; clear hSw; first | (go_simp; done) | (go_simp; with_reducible rfl))
  simp only [Act.put, List.setIfInBounds_toArray, List.set_cons_zero, List.set_cons_succ]
  refine wpAnyH_take (i := 10) (oi := ⟨some 43, _, _, _, _, _⟩) (v := ?v11) rfl (by kernel_rfl) (by kernel_rfl) (by kernel_rfl) (fun _ _ _ h => h) (Or.inl ⟨by rfl, ?hy11⟩) (by assumption) ?rest11
  case hy11 => (intro wq hSw; have e0 := (HG0.out wq hSw).1; have e1 := (HG0.out wq hSw).2.1; clear hSw; first | (go_simp; done) | (go_simp; with_reducible rfl))
  simp only [Act.put, List.setIfInBounds_toArray, List.set_cons_zero, List.set_cons_succ]
  refine wpAnyH_take (i := 11) (oi := ⟨some 44, _, _, _, _, _⟩) (v := .agg (nv (f p1))) rfl (by kernel_rfl) (by kernel_rfl) (by kernel_rfl) (fun _ _ _ h => h) (yields_load_nv (by rfl) _ rfl gN (p1 * 60) (f p1) rfl (fun v h => (HG0.out v h).2.2.2)) (by assumption) ?_
  simp only [Act.put, List.setIfInBounds_toArray, List.set_cons_zero, List.set_cons_succ]
  refine wpAnyH_ready (rs := [12]) (by kernel_rfl) (by simp) ?_
  refine AllReadyH.cons rfl (fun K hK => ?_) AllReadyH.nil
  go_simp
  refine Calls.mono (HO.out _) ?_
  rintro e W4 ⟨rfl, hb4⟩
  dsimp only
  refine hK.out _ _ (by exact hHeld.trans (hb4.mono hHeld.size)) (fun hHeld => ?_)
  clear hK K
  (try simp only [Act.put, List.setIfInBounds_toArray, List.set_cons_zero, List.set_cons_succ])
  refine wpAnyH_take (i := 13) (oi := ⟨some 4, _, _, _, _, _⟩) (v := ?v12) rfl (by kernel_rfl) (by kernel_rfl) (by kernel_rfl) (fun _ _ _ h => h) (Or.inl ⟨by rfl, ?hy12⟩) (by assumption) ?rest12
  case hy12 => (intro wq hSw; clear hSw; first | (go_simp; done) | (go_simp; with_reducible rfl))
  simp only [Act.put, List.setIfInBounds_toArray, List.set_cons_zero, List.set_cons_succ]
  have HBF : Hid (Below w.heap.size w W4) := HB4.out.trans (hHeld.mono HB4.out.size)
  refine wpAnyH_done (by kernel_rfl) ?_ _
  clear hHeld hb4 HG0 HO
  go_wp2
  go_ret
  exact ⟨rfl, HBF.out⟩
set_option maxHeartbeats 1000000 in
set_option maxRecDepth 100000 in
theorem implFirstPart (a : Option Addr) (len cap : Nat) (ns : List Nd) (i : Int) (w : World) (hin : NodesIn w a len ns) (hint : IntT ns) (hsh : ShortT ns) (hlen : len ≤ 1048576) (_hc : len ≤ cap) (_hm : cap ≤ maxLen) (_hi : -9223372036854775808 ≤ i ∧ i ≤ 9223372036854775807) :
    Calls Try.prog 11 #[.slice a len cap, .int .i64 i] w fun e w' => e = .returned (.int .i64 (firstT ns i)) ∧ Below w.heap.size w w' := by
  obtain rfl : ns.length = len := hin.1
  by_cases hno : treeB ns = false ∨ i < 0 ∨ (ns.length : Int) ≤ i
  · have hF : firstT ns i = -1 := by
      unfold firstT
      refine if_neg (fun h => ?_)
      rcases hno with e | e | e
      · rw [h.1] at e; cases e
      · omega
      · omega
    rw [hF]
    exact implFirstNo a cap ns i w hin hint hsh hlen hno
  · have ht : treeB ns = true := by
      rcases hb : treeB ns with _ | _
      · exact absurd (Or.inl hb) hno
      · rfl
    have h0 : ¬ i < 0 := fun e => hno (Or.inr (Or.inl e))
    have h1 : ¬ (ns.length : Int) ≤ i := fun e => hno (Or.inr (Or.inr e))
    obtain ⟨q, rfl⟩ : ∃ q : Nat, i = (q : Int) := Int.eq_ofNat_of_zero_le (by omega)
    rcases hk : pairB (ns.getD q nd0) with _ | _
    · have hF : firstT ns (q : Int) = -1 := by
        unfold firstT
        refine if_neg (fun h => ?_)
        have h2 := h.2.2.2
        rw [Int.toNat_natCast] at h2
        unfold pairB at hk
        rw [decide_eq_true h2.1, decide_eq_true h2.2] at hk
        cases hk
      rw [hF]
      exact implFirstOdd a cap ns q w hin hint hsh hlen ht (by omega) hk
    · exact implFirstYes a cap ns q w hin hint hsh hlen ht (by omega) hk

end Go.Proofs.Ytnpbckgaeaameaa
