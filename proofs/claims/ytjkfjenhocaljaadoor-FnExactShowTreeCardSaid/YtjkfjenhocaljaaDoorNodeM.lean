/-
  The laws' own helpers over rows of nodes: markNodeS, heldNodeS, likeTree.
-/
import Derived.Test.YtjkfjenhocaljaaDoorNodeL
import Derived.Test.YtjkfjenhocaljaaDoorMarks
import Derived.Deep.RegionWith
namespace Go.Proofs.YtjkfjenhocaljaaDoor
open Go.RowKit

/-- The marks of m nodes, from k on. -/
def marksN (k : Nat) : Nat → List Nd
  | 0 => []
  | m + 1 => marksN k m ++ [(((k + 4 * m : Nat) : Int), ((k + 4 * m + 1 : Nat) : Int), markL (k + 4 * m + 1 + 1), markL (k + 4 * m + 1 + 1 + 1))]

theorem marksN_len (k m : Nat) : (marksN k m).length = m := by
  induction m with
  | zero => rfl
  | succ m ih => simp [marksN, ih]

theorem marksN_at (k m j : Nat) (h : j < m) : (marksN k m).getD j nd0 = (((k + 4 * j : Nat) : Int), ((k + 4 * j + 1 : Nat) : Int), markL (k + 4 * j + 1 + 1), markL (k + 4 * j + 1 + 1 + 1)) := by
  induction m with
  | zero => omega
  | succ m ih =>
    unfold marksN
    by_cases hj : j < m
    · rw [← ih hj]
      simp [List.getD, List.getElem?_append, marksN_len, hj]
    · obtain rfl : j = m := by omega
      simp [List.getD, marksN_len]

theorem marksN_set (k i : Nat) (ns : List Nd) (h : i < ns.length) : (marksN k i ++ ns.drop i).set i (((k + 4 * i : Nat) : Int), ((k + 4 * i + 1 : Nat) : Int), markL (k + 4 * i + 1 + 1), markL (k + 4 * i + 1 + 1 + 1)) = marksN k (i + 1) ++ ns.drop (i + 1) := by
  rw [List.set_append_right _ _ (by rw [marksN_len]; omega), marksN_len, Nat.sub_self, List.drop_eq_getElem_cons h, List.set_cons_zero]
  conv => rhs; unfold marksN
  rw [List.append_assoc]; rfl

set_option maxHeartbeats 2000000 in
set_option maxRecDepth 100000 in
theorem markNodeSC (w : World) (base g cp n k0 : Nat) (ns : List Nd) (hn : n ≤ 1100000) (hk0 : 0 < k0) (hk1 : k0 ≤ 30000000)
    (h : w.ownsRow base 31 4 (.slice (some ⟨g, 0, none⟩) n cp) n (nodesV ns)) :
    Calls Tryd.prog 24 #[.slice (some ⟨g, 0, none⟩) n cp, .int .i64 k0] w fun e w' => e = .returned (.int .i64 ((k0 + 4 * n : Nat) : Int)) ∧ w'.ownsRow base 31 4 (.slice (some ⟨g, 0, none⟩) n cp) n (nodesV (marksN k0 n)) ∧ w.grownBy w' (some g) := by
  have hbl := (own_nodes h).1
  go_enter Tryd.func24, Tryd.ntmps24
  go_wp2
  go_loopw [1, 5] (fun k i wr => ∃ m : Nat, m ≤ n ∧ i = .int .i64 m ∧ k = .int .i64 ((k0 + 4 * m : Nat) : Int) ∧ wr.ownsRow base 31 4 (.slice (some ⟨g, 0, none⟩) n cp) n (nodesV (marksN k0 m ++ ns.drop m)) ∧ w.grownBy wr (some g)) (fun _ i _ => n - (intOf i).toNat)
  case atStart => exact ⟨0, Nat.zero_le _, rfl, rfl, h, World.grownBy.refl _ _⟩
  case round =>
    obtain ⟨m, hm, rfl, rfl, hown, hg⟩ := hrel
    by_cases hlt : (m : Int) < (n : Int)
    · have hl2 : (marksN k0 m ++ ns.drop m).length = n := (own_nodes hown).1
      have hset := marksN_set k0 m ns (by omega)
      obtain ⟨q, hq⟩ : ∃ q, k0 + 4 * m = q := ⟨_, rfl⟩
      have hq3 : q ≤ 34500000 := by omega
      have HQ2 : Hid (k0 + 4 * (m + 1) = q + 1 + 1 + 1 + 1) := by exact (by omega : k0 + 4 * (m + 1) = q + 1 + 1 + 1 + 1)
      rw [hq] at hset ⊢
      clear hq
      obtain ⟨v0, v1, v2, v3⟩ := nodesV_at (marksN k0 m ++ ns.drop m) m (by omega)
      obtain ⟨xs, hxs⟩ : ∃ xs, nodesV (marksN k0 m ++ ns.drop m) = xs := ⟨_, rfl⟩
      have hset2 := nodesV_set (marksN k0 m ++ ns.drop m) m (q : Int) ((q + 1 : Nat) : Int) (markL (q + 1 + 1)) (markL (q + 1 + 1 + 1))
      rw [hset, hxs] at hset2
      rw [hxs] at hown v0 v1 v2 v3
      have HSET : Hid ((((xs.set (m * 4) (.int .i64 (q : Int))).set (m * 4 + 1) (.int .i64 ((q + 1 : Nat) : Int))).set (m * 4 + 2) (.string ⟨(markL (q + 1 + 1)).toArray⟩)).set (m * 4 + 3) (.string ⟨(markL (q + 1 + 1 + 1)).toArray⟩) = nodesV (marksN k0 (m + 1) ++ ns.drop (m + 1))) := hset2
      clear hset hset2 hxs
      obtain ⟨u0, d0⟩ : ∃ u, wr.cell? ⟨g, m * 4, none⟩ = some u := by rw [hown.cellAt (m * 4) (by omega), v0]; exact ⟨_, rfl⟩
      obtain ⟨u1, d1⟩ : ∃ u, wr.cell? ⟨g, m * 4 + 1, none⟩ = some u := by rw [hown.cellAt (m * 4 + 1) (by omega), v1]; exact ⟨_, rfl⟩
      have e0 := hown.frozenAt (m * 4)
      have e1 := hown.frozenAt (m * 4 + 1)
      have hs1 := hown.stored (m * 4) (.int .i64 (q : Int))
      have hs2 := hs1.1.stored (m * 4 + 1) (.int .i64 ((q + 1 : Nat) : Int))
      obtain ⟨W1, hW1⟩ : ∃ W1, (wr.setCell ⟨g, m * 4, none⟩ (.int .i64 (q : Int))).setCell ⟨g, m * 4 + 1, none⟩ (.int .i64 ((q + 1 : Nat) : Int)) = W1 := ⟨_, rfl⟩
      rw [hW1] at hs2
      have HS1 : Hid (W1.ownsRow base 31 4 (.slice (some ⟨g, 0, none⟩) n cp) n ((xs.set (m * 4) (.int .i64 (q : Int))).set (m * 4 + 1) (.int .i64 ((q + 1 : Nat) : Int)))) := hs2.1
      have HG1 : Hid (w.grownBy W1 (some g)) := (hg.trans hs1.2).trans hs2.2
      clear hs1 hs2
      go_wp2_with fail
      refine (markTextC (q + 1 + 1) _ (by omega) (by omega)).mono ?_
      rintro e w2 ⟨rfl, hg2⟩
      first | (have hg2' : W1.grownBy w2 none := hg2) | (have hg2' : W1.grownBy w2 none := by rw [← hW1]; exact hg2)
      have hown2 := own_none HS1.out hg2'
      obtain ⟨u2, d2⟩ : ∃ u, w2.cell? ⟨g, m * 4 + 2, none⟩ = some u := by
        rw [hown2.cellAt (m * 4 + 2) (by omega), List.getElem?_set_ne (by omega), List.getElem?_set_ne (by omega), v2]; exact ⟨_, rfl⟩
      have e2 := hown2.frozenAt (m * 4 + 2)
      have hs3 := hown2.stored (m * 4 + 2) (.string ⟨(markL (q + 1 + 1)).toArray⟩)
      have HS3 : Hid ((w2.setCell ⟨g, m * 4 + 2, none⟩ (.string ⟨(markL (q + 1 + 1)).toArray⟩)).ownsRow base 31 4 (.slice (some ⟨g, 0, none⟩) n cp) n (((xs.set (m * 4) (.int .i64 (q : Int))).set (m * 4 + 1) (.int .i64 ((q + 1 : Nat) : Int))).set (m * 4 + 2) (.string ⟨(markL (q + 1 + 1)).toArray⟩))) := hs3.1
      have HG3 : Hid (w.grownBy (w2.setCell ⟨g, m * 4 + 2, none⟩ (.string ⟨(markL (q + 1 + 1)).toArray⟩)) (some g)) := (HG1.out.andThen hg2' (by simp)).trans hs3.2
      clear hs3 hown2 hg2 hg2' hown hg HS1 HG1 d0 d1 e0 e1 v0 v1 v2
      go_wp2_with fail
      refine (markTextC (q + 1 + 1 + 1) _ (by omega) (by omega)).mono ?_
      rintro e w4 ⟨rfl, hg4⟩
      have hown4 := own_none HS3.out hg4
      obtain ⟨u3, d3⟩ : ∃ u, w4.cell? ⟨g, m * 4 + 3, none⟩ = some u := by
        rw [hown4.cellAt (m * 4 + 3) (by omega), List.getElem?_set_ne (by omega), List.getElem?_set_ne (by omega), List.getElem?_set_ne (by omega), v3]; exact ⟨_, rfl⟩
      have e3 := hown4.frozenAt (m * 4 + 3)
      have hs5 := hown4.stored (m * 4 + 3) (.string ⟨(markL (q + 1 + 1 + 1)).toArray⟩)
      rw [HSET.out] at hs5
      have hg5 := (HG3.out.andThen hg4 (by simp)).trans hs5.2
      have hs6 := hs5.1
      clear hown4 hs5 hg4 HS3 HG3 HSET v3 d2 e2
      go_wp2
      go_roundw
      case rel => exact ⟨m + 1, by omega, by go_num, by rw [HQ2.out]; go_num, hs6, hg5⟩
      case measure => simp [intOf]; omega
    · obtain rfl : m = n := by omega
      have hd : ns.drop m = [] := List.drop_eq_nil_of_le (by omega)
      rw [hd, List.append_nil] at hown
      clear hd
      go_wp2
      go_ret
      exact ⟨rfl, hown, hg⟩

set_option maxHeartbeats 1000000 in
set_option maxRecDepth 100000 in
theorem markNodeSNil (w : World) (k0 : Nat) :
    Calls Tryd.prog 24 #[.slice none 0 0, .int .i64 k0] w fun e w' => e = .returned (.int .i64 (k0 : Int)) ∧ w' = w := by
  go_enter Tryd.func24, Tryd.ntmps24
  go_wp2
  refine wp_loop_rounds 1 ?_
  rw [rounds_succ]
  go_wp2
  go_ret
  exact ⟨rfl, rfl⟩

theorem markNodeSV (w : World) (base n k0 : Nat) (v : Value) (ns : List Nd) (hn : n ≤ 1100000) (hk0 : 0 < k0) (hk1 : k0 ≤ 30000000) (h : w.ownsRow base 31 4 v n (nodesV ns)) :
    Calls Tryd.prog 24 #[v, .int .i64 k0] w fun e w' => e = .returned (.int .i64 ((k0 + 4 * n : Nat) : Int)) ∧ w'.ownsRow base 31 4 v n (nodesV (marksN k0 n)) ∧ w.grownBy w' v.ownBlock := by
  rcases own_forms h with ⟨rfl, rfl, _⟩ | ⟨g, cp, rfl⟩
  · refine (markNodeSNil w k0).mono ?_
    rintro e w' ⟨rfl, rfl⟩
    exact ⟨rfl, World.ownsRow_nil _ _ _ _, World.grownBy.refl _ _⟩
  · exact markNodeSC w base g cp n k0 ns hn hk0 hk1 h

set_option maxHeartbeats 2000000 in
set_option maxRecDepth 100000 in
theorem heldNodeSC (w : World) (a : Option Addr) (cap n k0 : Nat) (hn : n ≤ 1100000) (hk0 : 0 < k0) (hk1 : k0 ≤ 30000000) (h : NodesIn w a n (marksN k0 n)) :
    Calls Tryd.prog 25 #[.slice a n cap, .int .i64 k0] w fun e w' => e = .returned (.int .i64 ((k0 + 4 * n : Nat) : Int)) ∧ w.grownBy w' none := by
  have hself : ∀ l : List UInt8, (l != l) = false := by simp
  have hne : ∀ n : Int, (n != n) = false := by simp
  have HI : Hid (NodesIn w a n (marksN k0 n)) := h
  clear h
  go_enter Tryd.func25, Tryd.ntmps25
  go_wp2
  go_loopw [1, 5] (fun k i wr => ∃ m : Nat, m ≤ n ∧ i = .int .i64 m ∧ k = .int .i64 ((k0 + 4 * m : Nat) : Int) ∧ w.grownBy wr none) (fun _ i _ => n - (intOf i).toNat)
  case atStart => exact ⟨0, Nat.zero_le _, rfl, rfl, World.grownBy.refl _ _⟩
  case round =>
    obtain ⟨m, hm, rfl, rfl, hg⟩ := hrel
    by_cases hlt : (m : Int) < (n : Int)
    · obtain ⟨b, off, rfl, hbl, hcells⟩ := HI.out.at (by omega)
      obtain ⟨c0, c1, c2, c3⟩ := hcells m (by omega)
      rw [marksN_at k0 n m (by omega)] at c0 c1 c2 c3
      simp only at c0 c1 c2 c3
      obtain ⟨q, hq⟩ : ∃ q, k0 + 4 * m = q := ⟨_, rfl⟩
      have HQ2 : Hid (k0 + 4 * (m + 1) = q + 1 + 1 + 1 + 1) := by exact (by omega : k0 + 4 * (m + 1) = q + 1 + 1 + 1 + 1)
      have hq3 : q ≤ 34500000 := by omega
      rw [hq] at c0 c1 c2 c3 ⊢
      clear hq
      have x0 : wr.cell? ⟨b, off + m * 4, none⟩ = some (.int .i64 (q : Int)) := hg.cell c0 (by simp)
      have x1 : wr.cell? ⟨b, off + m * 4 + 1, none⟩ = some (.int .i64 ((q : Int) + 1)) := hg.cell c1 (by simp)
      have x2 : wr.cell? ⟨b, off + m * 4 + 2, none⟩ = some (.string ⟨(markL (q + 1 + 1)).toArray⟩) := hg.cell c2 (by simp)
      have x3 : wr.cell? ⟨b, off + m * 4 + 3, none⟩ = some (.string ⟨(markL (q + 1 + 1 + 1)).toArray⟩) := hg.cell c3 (by simp)
      clear c0 c1 c2 c3 hcells
      go_wp2
      go_region_with (go_at_call 52; refine (markTextC (q + 1 + 1) _ (by omega) (by omega)).mono ?_; rintro e w1 ⟨rfl, hg1⟩; have x21 := hg1.cell (a := ⟨b, off + m * 4 + 2, none⟩) x2 (by simp); have x31 := hg1.cell (a := ⟨b, off + m * 4 + 3, none⟩) x3 (by simp))
      all_goals (try go_wp2)
      all_goals
        go_region_with (go_at_call 52; refine (markTextC (q + 1 + 1 + 1) _ (by omega) (by omega)).mono ?_; rintro e w2 ⟨rfl, hg2⟩; have x32 := hg2.cell (a := ⟨b, off + m * 4 + 3, none⟩) x31 (by simp))
      all_goals (try go_wp2)
      all_goals
        go_roundw
        case rel => exact ⟨m + 1, by omega, by go_num, by rw [HQ2.out]; go_num, by first | exact (hg.trans hg1).trans hg2 | exact ((hg.trans (grown_drew _ _)).trans hg1).trans hg2 | exact ((hg.trans hg1).trans (grown_drew _ _)).trans hg2 | exact (((hg.trans (grown_drew _ _)).trans hg1).trans (grown_drew _ _)).trans hg2⟩
        case measure => simp [intOf]; omega
    · obtain rfl : m = n := by omega
      go_wp2
      go_ret
      exact ⟨rfl, hg⟩

theorem heldNodeSV (w : World) (base n k0 : Nat) (v : Value) (hn : n ≤ 1100000) (hk0 : 0 < k0) (hk1 : k0 ≤ 30000000) (h : w.ownsRow base 31 4 v n (nodesV (marksN k0 n))) :
    Calls Tryd.prog 25 #[v, .int .i64 k0] w fun e w' => e = .returned (.int .i64 ((k0 + 4 * n : Nat) : Int)) ∧ w.grownBy w' none := by
  obtain ⟨_, a, cap, rfl, hin⟩ := own_nodes h
  exact heldNodeSC w a cap n k0 hn hk0 hk1 hin

end Go.Proofs.YtjkfjenhocaljaaDoor
