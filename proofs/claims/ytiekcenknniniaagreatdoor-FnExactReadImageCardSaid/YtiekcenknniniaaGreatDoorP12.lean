/-
  Parts of one proof, one behind the other: InsM, RtM, ImgH.
-/
import Derived.Test.YtiekcenknniniaaGreatDoorP11
import Derived.Test.YtiekcenknniniaaGreatDoorP9
import Derived.Test.YtiekcenknniniaaGreatDoorP5
import Derived.Deep.RegionWith
import Derived.Test.YtiekcenknniniaaGreatDoorP10

/-! The laws' own helpers over rows of instructions: markInsS, heldInsS. -/
namespace Go.Proofs.YtiekcenknniniaaGreatDoor
open Go.RowKit

/-- The marks of m instructions, from k on. -/
def marksC (k : Nat) : Nat → List In13
  | 0 => []
  | m + 1 => marksC k m ++ [(((k + 5 * m : Nat) : Int), ((k + 5 * m + 1 : Nat) : Int), ((k + 5 * m + 1 + 1 : Nat) : Int), ((k + 5 * m + 1 + 1 + 1 : Nat) : Int), markL (k + 5 * m + 1 + 1 + 1 + 1))]
theorem marksC_len (k m : Nat) : (marksC k m).length = m := by
  induction m with
  | zero => rfl
  | succ m ih => simp [marksC, ih]
theorem marksC_at (k m j : Nat) (h : j < m) : (marksC k m).getD j in0 = (((k + 5 * j : Nat) : Int), ((k + 5 * j + 1 : Nat) : Int), ((k + 5 * j + 1 + 1 : Nat) : Int), ((k + 5 * j + 1 + 1 + 1 : Nat) : Int), markL (k + 5 * j + 1 + 1 + 1 + 1)) := by
  induction m with
  | zero => omega
  | succ m ih =>
    unfold marksC
    by_cases hj : j < m
    · rw [← ih hj]
      simp [List.getD, List.getElem?_append, marksC_len, hj]
    · obtain rfl : j = m := by omega
      simp [List.getD, marksC_len]
theorem marksC_set (k i : Nat) (ns : List In13) (h : i < ns.length) : (marksC k i ++ ns.drop i).set i (((k + 5 * i : Nat) : Int), ((k + 5 * i + 1 : Nat) : Int), ((k + 5 * i + 1 + 1 : Nat) : Int), ((k + 5 * i + 1 + 1 + 1 : Nat) : Int), markL (k + 5 * i + 1 + 1 + 1 + 1)) = marksC k (i + 1) ++ ns.drop (i + 1) := by
  rw [List.set_append_right _ _ (by rw [marksC_len]; omega), marksC_len, Nat.sub_self, List.drop_eq_getElem_cons h, List.set_cons_zero]
  conv => rhs; unfold marksC
  rw [List.append_assoc]; rfl

set_option maxHeartbeats 4000000 in
set_option maxRecDepth 100000 in
theorem markInsSC (w : World) (base g cp n k0 : Nat) (ns : List In13) (hn : n ≤ 1100000) (hk0 : 0 < k0) (hk1 : k0 ≤ 30000000)
    (h : w.ownsRow base 104 5 (.slice (some ⟨g, 0, none⟩) n cp) n (insV ns)) :
    Calls Tryz.prog 86 #[.slice (some ⟨g, 0, none⟩) n cp, .int .i64 k0] w fun e w' => e = .returned (.int .i64 ((k0 + 5 * n : Nat) : Int)) ∧ w'.ownsRow base 104 5 (.slice (some ⟨g, 0, none⟩) n cp) n (insV (marksC k0 n)) ∧ w.grownBy w' (some g) := by
  have hbl := (own_ins h).1
  go_enter Tryz.func86, Tryz.ntmps86
  go_wp2
  go_loopw [1, 5] (fun k i wr => ∃ m : Nat, m ≤ n ∧ i = .int .i64 m ∧ k = .int .i64 ((k0 + 5 * m : Nat) : Int) ∧ wr.ownsRow base 104 5 (.slice (some ⟨g, 0, none⟩) n cp) n (insV (marksC k0 m ++ ns.drop m)) ∧ w.grownBy wr (some g)) (fun _ i _ => n - (intOf i).toNat)
  case atStart => exact ⟨0, Nat.zero_le _, rfl, rfl, h, World.grownBy.refl _ _⟩
  case round =>
    obtain ⟨m, hm, rfl, rfl, hown, hg⟩ := hrel
    by_cases hlt : (m : Int) < (n : Int)
    · have hl2 : (marksC k0 m ++ ns.drop m).length = n := (own_ins hown).1
      have hset := marksC_set k0 m ns (by omega)
      obtain ⟨q, hq⟩ : ∃ q, k0 + 5 * m = q := ⟨_, rfl⟩
      have hq3 : q ≤ 36500000 := by omega
      have HQ2 : Hid (k0 + 5 * (m + 1) = q + 1 + 1 + 1 + 1 + 1) := by exact (by omega : k0 + 5 * (m + 1) = q + 1 + 1 + 1 + 1 + 1)
      rw [hq] at hset ⊢
      clear hq
      obtain ⟨v0, v1, v2, v3, v4⟩ := insV_at (marksC k0 m ++ ns.drop m) m (by omega)
      obtain ⟨xs, hxs⟩ : ∃ xs, insV (marksC k0 m ++ ns.drop m) = xs := ⟨_, rfl⟩
      have hset2 := insV_set (marksC k0 m ++ ns.drop m) m (q : Int) ((q + 1 : Nat) : Int) ((q + 1 + 1 : Nat) : Int) ((q + 1 + 1 + 1 : Nat) : Int) (markL (q + 1 + 1 + 1 + 1))
      rw [hset, hxs] at hset2
      rw [hxs] at hown v0 v1 v2 v3 v4
      have HSET : Hid (_) := hset2
      clear hset hset2 hxs
      obtain ⟨u0, d0⟩ : ∃ u, wr.cell? ⟨g, m * 5, none⟩ = some u := by rw [hown.cellAt (m * 5) (by omega), v0]; exact ⟨_, rfl⟩
      obtain ⟨u1, d1⟩ : ∃ u, wr.cell? ⟨g, m * 5 + 1, none⟩ = some u := by rw [hown.cellAt (m * 5 + 1) (by omega), v1]; exact ⟨_, rfl⟩
      obtain ⟨u2, d2⟩ : ∃ u, wr.cell? ⟨g, m * 5 + 2, none⟩ = some u := by rw [hown.cellAt (m * 5 + 2) (by omega), v2]; exact ⟨_, rfl⟩
      obtain ⟨u3, d3⟩ : ∃ u, wr.cell? ⟨g, m * 5 + 3, none⟩ = some u := by rw [hown.cellAt (m * 5 + 3) (by omega), v3]; exact ⟨_, rfl⟩
      have e0 := hown.frozenAt (m * 5)
      have e1 := hown.frozenAt (m * 5 + 1)
      have e2 := hown.frozenAt (m * 5 + 2)
      have e3 := hown.frozenAt (m * 5 + 3)
      have hs1 := hown.stored (m * 5) (.int .i64 (q : Int))
      have hs2 := hs1.1.stored (m * 5 + 1) (.int .i64 ((q + 1 : Nat) : Int))
      have hs3 := hs2.1.stored (m * 5 + 2) (.int .i64 ((q + 1 + 1 : Nat) : Int))
      have hs4 := hs3.1.stored (m * 5 + 3) (.int .i64 ((q + 1 + 1 + 1 : Nat) : Int))
      obtain ⟨W1, hW1⟩ : ∃ W1, (((wr.setCell ⟨g, m * 5, none⟩ (.int .i64 (q : Int))).setCell ⟨g, m * 5 + 1, none⟩ (.int .i64 ((q + 1 : Nat) : Int))).setCell ⟨g, m * 5 + 2, none⟩ (.int .i64 ((q + 1 + 1 : Nat) : Int))).setCell ⟨g, m * 5 + 3, none⟩ (.int .i64 ((q + 1 + 1 + 1 : Nat) : Int)) = W1 := ⟨_, rfl⟩
      rw [hW1] at hs4
      have HS1 : Hid (_) := hs4.1
      have HG1 : Hid (w.grownBy W1 (some g)) := (((hg.trans hs1.2).trans hs2.2).trans hs3.2).trans hs4.2
      clear hs1 hs2 hs3 hs4
      go_wp2_with fail
      refine (markTextC (q + 1 + 1 + 1 + 1) _ (by omega) (by omega)).mono ?_
      rintro e w2 ⟨rfl, hg2⟩
      first | (have hg2' : W1.grownBy w2 none := hg2) | (have hg2' : W1.grownBy w2 none := by rw [← hW1]; exact hg2)
      have hown2 := own_none HS1.out hg2'
      obtain ⟨u4, d4⟩ : ∃ u, w2.cell? ⟨g, m * 5 + 4, none⟩ = some u := by
        rw [hown2.cellAt (m * 5 + 4) (by omega), List.getElem?_set_ne (by omega), List.getElem?_set_ne (by omega), List.getElem?_set_ne (by omega), List.getElem?_set_ne (by omega), v4]; exact ⟨_, rfl⟩
      have e4 := hown2.frozenAt (m * 5 + 4)
      have hs5 := hown2.stored (m * 5 + 4) (.string ⟨(markL (q + 1 + 1 + 1 + 1)).toArray⟩)
      rw [HSET.out] at hs5
      have hg5 := (HG1.out.andThen hg2' (by simp)).trans hs5.2
      have hs6 := hs5.1
      clear hown2 hs5 hg2 hg2' hown hg HS1 HG1 d0 d1 d2 d3 e0 e1 e2 e3 v0 v1 v2 v3 v4 HSET
      go_wp2
      go_roundw
      case rel => exact ⟨m + 1, by omega, by go_num, by rw [HQ2.out]; go_num, hs6, hg5⟩
      case measure => simp [intOf]; omega
    · obtain rfl : m = n := by omega
      have hd : ns.drop m = [] := List.drop_eq_nil_of_le (by omega)
      rw [hd, List.append_nil] at hown
      clear hd
      go_wp2
      go_ret
      exact ⟨rfl, hown, hg⟩

set_option maxHeartbeats 1000000 in
set_option maxRecDepth 100000 in
theorem markInsSNil (w : World) (k0 : Nat) :
    Calls Tryz.prog 86 #[.slice none 0 0, .int .i64 k0] w fun e w' => e = .returned (.int .i64 (k0 : Int)) ∧ w' = w := by
  go_enter Tryz.func86, Tryz.ntmps86
  go_wp2
  refine wp_loop_rounds 1 ?_
  rw [rounds_succ]
  go_wp2
  go_ret
  exact ⟨rfl, rfl⟩

theorem markInsSV (w : World) (base n k0 : Nat) (v : Value) (ns : List In13) (hn : n ≤ 1100000) (hk0 : 0 < k0) (hk1 : k0 ≤ 30000000) (h : w.ownsRow base 104 5 v n (insV ns)) :
    Calls Tryz.prog 86 #[v, .int .i64 k0] w fun e w' => e = .returned (.int .i64 ((k0 + 5 * n : Nat) : Int)) ∧ w'.ownsRow base 104 5 v n (insV (marksC k0 n)) ∧ w.grownBy w' v.ownBlock := by
  rcases own_forms h with ⟨rfl, rfl, _⟩ | ⟨g, cp, rfl⟩
  · refine (markInsSNil w k0).mono ?_
    rintro e w' ⟨rfl, rfl⟩
    exact ⟨rfl, World.ownsRow_nil _ _ _ _, World.grownBy.refl _ _⟩
  · exact markInsSC w base g cp n k0 ns hn hk0 hk1 h

set_option maxHeartbeats 4000000 in
set_option maxRecDepth 100000 in
theorem heldInsSC (w : World) (a : Option Addr) (cap n k0 : Nat) (hn : n ≤ 1100000) (hk0 : 0 < k0) (hk1 : k0 ≤ 30000000) (h : InsIn w a n (marksC k0 n)) :
    Calls Tryz.prog 87 #[.slice a n cap, .int .i64 k0] w fun e w' => e = .returned (.int .i64 ((k0 + 5 * n : Nat) : Int)) ∧ w.grownBy w' none := by
  have hself : ∀ l : List UInt8, (l != l) = false := by simp
  have hne : ∀ n : Int, (n != n) = false := by simp
  have HI : Hid (InsIn w a n (marksC k0 n)) := h
  clear h
  go_enter Tryz.func87, Tryz.ntmps87
  go_wp2
  go_loopw [1, 5] (fun k i wr => ∃ m : Nat, m ≤ n ∧ i = .int .i64 m ∧ k = .int .i64 ((k0 + 5 * m : Nat) : Int) ∧ w.grownBy wr none) (fun _ i _ => n - (intOf i).toNat)
  case atStart => exact ⟨0, Nat.zero_le _, rfl, rfl, World.grownBy.refl _ _⟩
  case round =>
    obtain ⟨m, hm, rfl, rfl, hg⟩ := hrel
    by_cases hlt : (m : Int) < (n : Int)
    · obtain ⟨b, off, rfl, hbl, c0, c1, c2, c3, c4⟩ := HI.out.2 m (by omega)
      rw [marksC_at k0 n m (by omega)] at c0 c1 c2 c3 c4
      simp only at c0 c1 c2 c3 c4
      obtain ⟨q, hq⟩ : ∃ q, k0 + 5 * m = q := ⟨_, rfl⟩
      have HQ2 : Hid (k0 + 5 * (m + 1) = q + 1 + 1 + 1 + 1 + 1) := by exact (by omega : k0 + 5 * (m + 1) = q + 1 + 1 + 1 + 1 + 1)
      have hq3 : q ≤ 36500000 := by omega
      rw [hq] at c0 c1 c2 c3 c4 ⊢
      clear hq
      have x0 : wr.cell? ⟨b, off + m * 5, none⟩ = some (.int .i64 (q : Int)) := hg.cell c0 (by simp)
      have x1 : wr.cell? ⟨b, off + m * 5 + 1, none⟩ = some (.int .i64 ((q : Int) + 1)) := hg.cell c1 (by simp)
      have x2 : wr.cell? ⟨b, off + m * 5 + 2, none⟩ = some (.int .i64 ((q : Int) + 1 + 1)) := hg.cell c2 (by simp)
      have x3 : wr.cell? ⟨b, off + m * 5 + 3, none⟩ = some (.int .i64 ((q : Int) + 1 + 1 + 1)) := hg.cell c3 (by simp)
      have x4 : wr.cell? ⟨b, off + m * 5 + 4, none⟩ = some (.string ⟨(markL (q + 1 + 1 + 1 + 1)).toArray⟩) := hg.cell c4 (by simp)
      clear c0 c1 c2 c3 c4
      go_wp2
      go_region_with (go_at_call 85; refine (markTextC (q + 1 + 1 + 1 + 1) _ (by omega) (by omega)).mono ?_; rintro e w1 ⟨rfl, hg1⟩; have x41 := hg1.cell (a := ⟨b, off + m * 5 + 4, none⟩) x4 (by simp))
      all_goals (try go_wp2)
      all_goals
        go_roundw
        case rel => exact ⟨m + 1, by omega, by go_num, by rw [HQ2.out]; go_num, by first | exact hg.trans hg1 | exact (hg.trans (grown_drew _ _)).trans hg1⟩
        case measure => simp [intOf]; omega
    · obtain rfl : m = n := by omega
      go_wp2
      go_ret
      exact ⟨rfl, hg⟩

theorem heldInsSV (w : World) (base n k0 : Nat) (v : Value) (hn : n ≤ 1100000) (hk0 : 0 < k0) (hk1 : k0 ≤ 30000000) (h : w.ownsRow base 104 5 v n (insV (marksC k0 n))) :
    Calls Tryz.prog 87 #[v, .int .i64 k0] w fun e w' => e = .returned (.int .i64 ((k0 + 5 * n : Nat) : Int)) ∧ w.grownBy w' none := by
  obtain ⟨_, a, cap, rfl, hin⟩ := own_ins h
  exact heldInsSC w a cap n k0 hn hk0 hk1 hin

end Go.Proofs.YtiekcenknniniaaGreatDoor

/-! The laws' own helpers over routines: markRoutineS, heldRoutineS. -/
namespace Go.Proofs.YtiekcenknniniaaGreatDoor
open Go.RowKit

/-- What functions hold when they are marked from k on, and the next mark. -/
def rmk (k : Nat) (x : RV) : RV := ((markL k, ((k + 1 : Nat) : Int), marksC (k + 2) x.1.2.2.length), x.2)
def rmark (k : Nat) : List RV → List RV
  | [] => []
  | x :: r => rmk k x :: rmark (k + 2 + 5 * x.1.2.2.length) r
def rend (k : Nat) : List RV → Nat
  | [] => k
  | x :: r => rend (k + 2 + 5 * x.1.2.2.length) r

theorem rmk_T (k : Nat) (x : RV) : rvT (rmk k x) = rvT x := by unfold rvT rmk; rw [marksC_len]
theorem rmark_len (k : Nat) (xs : List RV) : (rmark k xs).length = xs.length := by
  induction xs generalizing k with
  | nil => rfl
  | cons x r ih => simp [rmark, ih]
theorem rmark_snoc (k : Nat) (xs : List RV) (x : RV) : rmark k (xs ++ [x]) = rmark k xs ++ [rmk (rend k xs) x] ∧ rend k (xs ++ [x]) = rend k xs + 2 + 5 * x.1.2.2.length := by
  induction xs generalizing k with
  | nil => exact ⟨rfl, rfl⟩
  | cons y r ih =>
    have := ih (k + 2 + 5 * y.1.2.2.length)
    exact ⟨by rw [List.cons_append, rmark, this.1]; rfl, by rw [List.cons_append, rend, this.2]; rfl⟩
theorem rend_ge (k : Nat) (xs : List RV) : k ≤ rend k xs := by
  induction xs generalizing k with
  | nil => exact Nat.le_refl _
  | cons x r ih => have := ih (k + 2 + 5 * x.1.2.2.length); unfold rend; omega
theorem rend_app (k : Nat) (xs ys : List RV) : rend k (xs ++ ys) = rend (rend k xs) ys := by
  induction xs generalizing k with
  | nil => rfl
  | cons x r ih => rw [List.cons_append, rend, ih]; rfl
theorem rend_take (k : Nat) (xs : List RV) (m : Nat) : rend k (xs.take m) ≤ rend k xs := by
  conv => rhs; rw [← List.take_append_drop m xs, rend_app]
  exact rend_ge _ _

/-- Half way: m functions are marked. -/
def rhalf (k : Nat) (xs : List RV) (m : Nat) : List RV := rmark k (xs.take m) ++ xs.drop m
theorem rhalf_len (k : Nat) (xs : List RV) (m : Nat) : (rhalf k xs m).length = xs.length := by
  unfold rhalf; rw [List.length_append, rmark_len, ← List.length_append, List.take_append_drop]
theorem rhalf_at (k : Nat) (xs : List RV) (m : Nat) (hm : m < xs.length) : (rhalf k xs m).getD m rv0 = xs[m] := by
  unfold rhalf
  have hl : (rmark k (xs.take m)).length = m := by rw [rmark_len, List.length_take]; omega
  rw [List.getD_eq_getElem?_getD, List.getElem?_append_right (by omega), hl, Nat.sub_self, List.getElem?_drop, Nat.add_zero, List.getElem?_eq_getElem hm]
  rfl
theorem rhalf_step (k : Nat) (xs : List RV) (m : Nat) (hm : m < xs.length) : (rhalf k xs m).set m (rmk (rend k (xs.take m)) xs[m]) = rhalf k xs (m + 1) ∧ rend k (xs.take (m + 1)) = rend k (xs.take m) + 2 + 5 * xs[m].1.2.2.length := by
  have h1 := rmark_snoc k (xs.take m) xs[m]
  rw [← List.take_succ_eq_append_getElem hm] at h1
  refine ⟨?_, h1.2⟩
  have hl : (rmark k (xs.take m)).length = m := by rw [rmark_len, List.length_take]; omega
  unfold rhalf
  rw [h1.1, List.set_append_right _ _ (by omega), hl, Nat.sub_self, List.drop_eq_getElem_cons hm, List.set_cons_zero, List.append_assoc]
  rfl
theorem rhalf_T (k : Nat) (xs : List RV) (m : Nat) : (rhalf k xs m).map rvT = xs.map rvT := by
  have key : ∀ (k : Nat) (l : List RV), (rmark k l).map rvT = l.map rvT := by
    intro k l
    induction l generalizing k with
    | nil => rfl
    | cons x r ih => rw [rmark, List.map_cons, List.map_cons, rmk_T, ih]
  unfold rhalf
  rw [List.map_append, key, ← List.map_append, List.take_append_drop]

theorem set_sameR {α : Type} {l : List α} {i : Nat} {a : α} (h : l[i]? = some a) : l.set i a = l := by
  apply List.ext_getElem?
  intro j
  rw [List.getElem?_set]
  split
  · rename_i e
    subst e
    split
    · exact h.symm
    · rename_i hl; rw [List.getElem?_eq_none (by omega)]
  · rfl

def RtBlocks (v : Value) (xs : List RV) (k : Nat) : Prop := v.ownBlock = some k ∨ ∃ x ∈ xs, (rvT x).ownBlock = some k

set_option maxHeartbeats 2000000 in
set_option maxRecDepth 100000 in
theorem markRoutineSC (w : World) (base g cp k0 : Nat) (xs : List RV) (hn : xs.length ≤ 1100000) (hk0 : 0 < k0) (hk1 : rend k0 xs ≤ 30000000) (hls : ∀ x ∈ xs, x.1.2.2.length ≤ 1100000) (hap : ApartR (xs.map rvT))
    (h : RtsOwn w base (.slice (some ⟨g, 0, none⟩) xs.length cp) xs) :
    Calls Tryz.prog 49 #[.slice (some ⟨g, 0, none⟩) xs.length cp, .int .i64 k0] w fun e w' => e = .returned (.int .i64 ((rend k0 xs : Nat) : Int)) ∧ RtsOwn w' base (.slice (some ⟨g, 0, none⟩) xs.length cp) (rmark k0 xs) ∧ WroteR w w' (RtBlocks (.slice (some ⟨g, 0, none⟩) xs.length cp) xs) := by
  have HAP : Hid (ApartR (xs.map rvT)) := hap
  have HLS : Hid (∀ x ∈ xs, x.1.2.2.length ≤ 1100000) := hls
  have hst0 : rhalf k0 xs 0 = xs := rfl
  have H0 : Hid (RtsOwn w base (.slice (some ⟨g, 0, none⟩) xs.length cp) (rhalf k0 xs 0)) := h
  clear hap hls h hst0
  go_enter Tryz.func49, Tryz.ntmps49
  go_wp2
  go_loopw [1, 5] (fun k i wr => ∃ m : Nat, m ≤ xs.length ∧ i = .int .i64 m ∧ k = .int .i64 ((rend k0 (xs.take m) : Nat) : Int) ∧ Hid (RtsOwn wr base (.slice (some ⟨g, 0, none⟩) xs.length cp) (rhalf k0 xs m)) ∧ Hid (WroteR w wr (RtBlocks (.slice (some ⟨g, 0, none⟩) xs.length cp) xs))) (fun _ i _ => xs.length - (intOf i).toNat)
  case atStart => exact ⟨0, Nat.zero_le _, rfl, rfl, H0, WroteR.refl _ _⟩
  case round =>
    obtain ⟨m, hm, rfl, rfl, HO, HW⟩ := hrel
    clear H0
    by_cases hlt : (m : Int) < (xs.length : Int)
    · have hm2 : m < xs.length := by omega
      obtain ⟨hset, hend⟩ := rhalf_step k0 xs m hm2
      have hat := rhalf_at k0 xs m hm2
      have hfl := rhalf_len k0 xs m
      have hT := rhalf_T k0 xs m
      have hend2 := rend_take k0 xs (m + 1)
      have hxl := HLS.out xs[m] (List.getElem_mem hm2)
      obtain ⟨ys, hys⟩ : ∃ ys, rhalf k0 xs m = ys := ⟨_, rfl⟩
      rw [hys] at hset hat hfl hT HO
      obtain ⟨x, hx⟩ : ∃ x, xs[m] = x := ⟨_, rfl⟩
      rw [hx] at hset hat hend hxl
      obtain ⟨q, hq⟩ : ∃ q, rend k0 (xs.take m) = q := ⟨_, rfl⟩
      have hq0 : 0 < q := by rw [← hq]; have := rend_ge k0 (xs.take m); omega
      rw [hq] at hset hend ⊢
      have hq3 : q + 2 + 5 * x.1.2.2.length ≤ 30000000 := by omega
      have HSET : Hid (ys.set m (rmk q x) = rhalf k0 xs (m + 1)) := hset
      have HEND : Hid (rend k0 (xs.take (m + 1)) = q + 2 + 5 * x.1.2.2.length) := hend
      have HT : Hid (ys.map rvT = xs.map rvT) := hT
      have HX : Hid (∃ h : m < ys.length, ys[m] = x) := ⟨by omega, by rw [List.getD_eq_getElem?_getD, List.getElem?_eq_getElem (by omega)] at hat; exact hat⟩
      have HFL : Hid (ys.length = xs.length) := hfl
      have HXM : Hid (x ∈ xs) := by rw [← hx]; exact List.getElem_mem hm2
      obtain ⟨v0, v1, v2⟩ := rtsV_at ys m (by omega)
      rw [hat] at v0 v1 v2
      have hrow := HO.out.row
      rw [hfl] at hrow
      clear hset hend hend2 hys hx hq hT hat hfl
      obtain ⟨zs, hzs⟩ : ∃ zs, rtsV ys = zs := ⟨_, rfl⟩
      have hzset := rtsV_set ys m (rmk q x)
      rw [hzs] at hrow v0 v1 v2 hzset
      have HZ : Hid (((zs.set (m * 3) (.string ⟨(markL q).toArray⟩)).set (m * 3 + 1) (.int .i64 ((q : Int) + 1))).set (m * 3 + 2) (rvT x) = rtsV (ys.set m (rmk q x))) := by
        rw [← rmk_T q x, show (q : Int) + 1 = ((q + 1 : Nat) : Int) by omega]; exact hzset
      clear hzset
      have htree : wr.ownsRow base 104 5 (rvT x) x.1.2.2.length (insV x.1.2.2) := by
        obtain ⟨hl, he⟩ := HX.out
        rw [← he]; exact HO.out.trees _ (List.getElem_mem hl)
      obtain ⟨hxl2, ta, tc, htv, _⟩ := own_ins htree
      have HTV : Hid (rvT x = .slice ta x.1.2.2.length tc) := htv
      rw [htv] at v2
      clear hzs htv
      go_wp2_with fail
      refine (markTextC q _ (by omega) (by omega)).mono ?_
      rintro e w2 ⟨rfl, hg2⟩
      have hrow2 := own_none hrow hg2
      obtain ⟨u0, d0⟩ : ∃ u, w2.cell? ⟨g, m * 3, none⟩ = some u := by rw [hrow2.cellAt (m * 3) (by omega), v0]; exact ⟨_, rfl⟩
      obtain ⟨u1, d1⟩ : ∃ u, w2.cell? ⟨g, m * 3 + 1, none⟩ = some u := by rw [hrow2.cellAt (m * 3 + 1) (by omega), v1]; exact ⟨_, rfl⟩
      have d2 : w2.cell? ⟨g, m * 3 + 2, none⟩ = some (.slice ta x.1.2.2.length tc) := by rw [hrow2.cellAt (m * 3 + 2) (by omega), v2]
      have e0 := hrow2.frozenAt (m * 3)
      have e1 := hrow2.frozenAt (m * 3 + 1)
      have hs1 := hrow2.stored (m * 3) (.string ⟨(markL q).toArray⟩)
      have hs2 := hs1.1.stored (m * 3 + 1) (.int .i64 ((q : Int) + 1))
      have hW3 : WroteR w ((w2.setCell ⟨g, m * 3, none⟩ (.string ⟨(markL q).toArray⟩)).setCell ⟨g, m * 3 + 1, none⟩ (.int .i64 ((q : Int) + 1))) (RtBlocks (.slice (some ⟨g, 0, none⟩) xs.length cp) xs) :=
        ((HW.out.trans (WroteR.of_grown hg2 (fun _ e => by cases e))).trans (WroteR.of_grown hs1.2 (fun _ e => Or.inl e))).trans (WroteR.of_grown hs2.2 (fun _ e => Or.inl e))
      have htrees : ∀ z ∈ ys, ((w2.setCell ⟨g, m * 3, none⟩ (.string ⟨(markL q).toArray⟩)).setCell ⟨g, m * 3 + 1, none⟩ (.int .i64 ((q : Int) + 1))).ownsRow base 104 5 (rvT z) z.1.2.2.length (insV z.1.2.2) := by
        intro z hz
        have t1 := own_none (HO.out.trees z hz) hg2
        have hd := own_typesR t1 hrow2 (by decide)
        have t2 := t1.kept hs1.2 hd
        exact t2.kept hs2.2 hd
      have d2b : ((w2.setCell ⟨g, m * 3, none⟩ (.string ⟨(markL q).toArray⟩)).setCell ⟨g, m * 3 + 1, none⟩ (.int .i64 ((q : Int) + 1))).cell? ⟨g, m * 3 + 2, none⟩ = some (.slice ta x.1.2.2.length tc) := by
        rw [hs2.1.cellAt (m * 3 + 2) (by omega), List.getElem?_set_ne (by omega), List.getElem?_set_ne (by omega), v2]
      obtain ⟨W3, hW3e⟩ : ∃ W3, (w2.setCell ⟨g, m * 3, none⟩ (.string ⟨(markL q).toArray⟩)).setCell ⟨g, m * 3 + 1, none⟩ (.int .i64 ((q : Int) + 1)) = W3 := ⟨_, rfl⟩
      have hrow3 := hs2.1
      rw [hW3e] at hrow3 hW3 htrees d2b
      have HR3 : Hid (W3.ownsRow base 101 3 (.slice (some ⟨g, 0, none⟩) xs.length cp) xs.length ((zs.set (m * 3) (.string ⟨(markL q).toArray⟩)).set (m * 3 + 1) (.int .i64 ((q : Int) + 1)))) := hrow3
      have HW3 : Hid (WroteR w W3 (RtBlocks (.slice (some ⟨g, 0, none⟩) xs.length cp) xs)) := hW3
      have HTR : Hid (∀ z ∈ ys, W3.ownsRow base 104 5 (rvT z) z.1.2.2.length (insV z.1.2.2)) := htrees
      have htree3 : W3.ownsRow base 104 5 (.slice ta x.1.2.2.length tc) x.1.2.2.length (insV x.1.2.2) := by
        obtain ⟨hl, he⟩ := HX.out
        have h3 := htrees _ (List.getElem_mem hl)
        rw [he, HTV.out] at h3
        exact h3
      have HM : Hid (_) := markInsSV W3 base x.1.2.2.length (q + 2) (.slice ta x.1.2.2.length tc) x.1.2.2 (by omega) (by omega) (by omega) htree3
      rw [show ((q + 2 : Nat) : Int) = (q : Int) + 1 + 1 by omega] at HM
      have HT3 : Hid (W3.ownsRow base 104 5 (.slice ta x.1.2.2.length tc) x.1.2.2.length (insV x.1.2.2)) := htree3
      have HV2 : Hid (zs[m * 3 + 2]? = some (.slice ta x.1.2.2.length tc)) := v2
      clear hs1 hs2 hW3 htrees hrow3 hrow2 hrow hg2 htree htree3 HW v0 v1 v2
      go_wp2_with fail
      refine Calls.mono HM.out ?_
      rintro e w4 ⟨rfl, hown4, hg4⟩
      have HO4 : Hid (RtsOwn w4 base (.slice (some ⟨g, 0, none⟩) xs.length cp) (rhalf k0 xs (m + 1))) := by
        have hrow4 := HR3.out.kept hg4 (own_typesR HR3.out HT3.out (by decide))
        have hz3 : ((zs.set (m * 3) (.string ⟨(markL q).toArray⟩)).set (m * 3 + 1) (.int .i64 ((q : Int) + 1))) = rtsV (ys.set m (rmk q x)) := by
          rw [← HZ.out, HTV.out]
          exact (set_sameR (by rw [List.getElem?_set_ne (by omega), List.getElem?_set_ne (by omega)]; exact HV2.out)).symm
        rw [hz3] at hrow4
        rw [← HSET.out]
        refine ⟨by rw [List.length_set, HFL.out]; exact hrow4, fun z hz => ?_⟩
        obtain ⟨j, hj, rfl⟩ := List.mem_iff_getElem.1 hz
        rw [List.length_set] at hj
        rw [List.getElem_set]
        by_cases hjm : m = j
        · subst hjm
          rw [if_pos rfl, rmk_T, HTV.out]
          show w4.ownsRow base _ 5 _ (marksC (q + 2) x.1.2.2.length).length (insV (marksC (q + 2) x.1.2.2.length))
          rw [marksC_len]
          exact hown4
        · rw [if_neg hjm]
          refine (HTR.out _ (List.getElem_mem hj)).kept hg4 ?_
          obtain ⟨hl, he⟩ := HX.out
          have hap : ApartR (ys.map rvT) := by rw [HT.out]; exact HAP.out
          have hne := hap.ne (i := j) (j := m) (by simpa using hj) (by simpa using hl) (fun e => hjm e.symm)
          rw [List.getElem_map, List.getElem_map, he, HTV.out] at hne
          exact hne
      have HW4 : Hid (WroteR w w4 (RtBlocks (.slice (some ⟨g, 0, none⟩) xs.length cp) xs)) := HW3.out.trans (WroteR.of_grown hg4 (fun k e => Or.inr ⟨x, HXM.out, by rw [HTV.out]; exact e⟩))
      clear hown4 hg4 HR3 HT3 HTR HW3 HM HZ HSET HT HX HV2 HTV HXM HFL d0 d1 d2 d2b e0 e1 HO
      go_wp2
      go_roundw
      case rel => exact ⟨m + 1, by omega, by go_num, by rw [HEND.out]; go_num, HO4, HW4⟩
      case measure => simp [intOf]; omega
    · obtain rfl : m = xs.length := by omega
      have hO := HO.out
      have HK : Hid (rend k0 (xs.take xs.length) = rend k0 xs) := by exact (by rw [List.take_length] : rend k0 (xs.take xs.length) = rend k0 xs)
      have HH : Hid (rhalf k0 xs xs.length = rmark k0 xs) := by exact (by unfold rhalf; rw [List.take_length, List.drop_length, List.append_nil] : rhalf k0 xs xs.length = rmark k0 xs)
      rw [HH.out] at hO
      go_wp2
      go_ret
      exact ⟨by rw [← HK.out]; rfl, hO, HW.out⟩

theorem rmark_at (k : Nat) (xs : List RV) (m : Nat) (hm : m < xs.length) : (rmark k xs).getD m rv0 = rmk (rend k (xs.take m)) xs[m] := by
  induction xs generalizing k m with
  | nil => simp at hm
  | cons x r ih =>
    cases m with
    | zero => rfl
    | succ m =>
      have := ih (k + 2 + 5 * x.1.2.2.length) m (by simpa using hm)
      rw [List.take_succ_cons, rend, List.getElem_cons_succ, ← this]
      rfl

set_option maxHeartbeats 2000000 in
set_option maxRecDepth 100000 in
theorem heldRoutineSC (w : World) (base g cp k0 : Nat) (xs : List RV) (hn : xs.length ≤ 1100000) (hk0 : 0 < k0) (hk1 : rend k0 xs ≤ 30000000) (hls : ∀ x ∈ xs, x.1.2.2.length ≤ 1100000)
    (h : RtsOwn w base (.slice (some ⟨g, 0, none⟩) xs.length cp) (rmark k0 xs)) :
    Calls Tryz.prog 51 #[.slice (some ⟨g, 0, none⟩) xs.length cp, .int .i64 k0] w fun e w' => e = .returned (.int .i64 ((rend k0 xs : Nat) : Int)) ∧ w.grownBy w' none := by
  have hself : ∀ l : List UInt8, (l != l) = false := by simp
  have hne : ∀ n : Int, (n != n) = false := by simp
  have HLS : Hid (∀ x ∈ xs, x.1.2.2.length ≤ 1100000) := hls
  have HF : Hid (RtsOwn w base (.slice (some ⟨g, 0, none⟩) xs.length cp) (rmark k0 xs)) := h
  clear hls h
  go_enter Tryz.func51, Tryz.ntmps51
  go_wp2
  go_loopw [1, 5] (fun k i wr => ∃ m : Nat, m ≤ xs.length ∧ i = .int .i64 m ∧ k = .int .i64 ((rend k0 (xs.take m) : Nat) : Int) ∧ w.grownBy wr none) (fun _ i _ => xs.length - (intOf i).toNat)
  case atStart => exact ⟨0, Nat.zero_le _, rfl, rfl, World.grownBy.refl _ _⟩
  case round =>
    obtain ⟨m, hm, rfl, rfl, hg⟩ := hrel
    by_cases hlt : (m : Int) < (xs.length : Int)
    · have hm2 : m < xs.length := by omega
      have hend := (rhalf_step k0 xs m hm2).2
      have hend2 := rend_take k0 xs (m + 1)
      have hat := rmark_at k0 xs m hm2
      have hxl := HLS.out xs[m] (List.getElem_mem hm2)
      have hfl := rmark_len k0 xs
      have hrow := HF.out.row
      rw [hfl] at hrow
      obtain ⟨v0, v1, v2⟩ := rtsV_at (rmark k0 xs) m (by omega)
      have hmem : (rmark k0 xs).getD m rv0 ∈ rmark k0 xs := by rw [List.getD_eq_getElem?_getD, List.getElem?_eq_getElem (by omega)]; exact List.getElem_mem (by omega)
      have htr := HF.out.trees _ hmem
      rw [hat] at v0 v1 v2 htr
      obtain ⟨x, hx⟩ : ∃ x, xs[m] = x := ⟨_, rfl⟩
      obtain ⟨q, hq⟩ : ∃ q, rend k0 (xs.take m) = q := ⟨_, rfl⟩
      rw [hx, hq] at v0 v1 v2 htr
      rw [hx, hq] at hend
      rw [hx] at hxl
      have hq0 : 0 < q := by rw [← hq]; have := rend_ge k0 (xs.take m); omega
      have hq3 : q + 2 + 5 * x.1.2.2.length ≤ 30000000 := by omega
      have HEND : Hid (rend k0 (xs.take (m + 1)) = q + 2 + 5 * x.1.2.2.length) := hend
      rw [hq]
      have c0 : wr.cell? ⟨g, m * 3, none⟩ = some (.string ⟨(markL q).toArray⟩) := hg.cell (a := ⟨g, m * 3, none⟩) ((hrow.cellAt (m * 3) (by omega)).trans v0) (by simp)
      have c1 : wr.cell? ⟨g, m * 3 + 1, none⟩ = some (.int .i64 ((q : Int) + 1)) := hg.cell (a := ⟨g, m * 3 + 1, none⟩) ((hrow.cellAt (m * 3 + 1) (by omega)).trans (v1.trans (by show some (Value.int .i64 ((q + 1 : Nat) : Int)) = _; rw [show ((q + 1 : Nat) : Int) = (q : Int) + 1 by omega]))) (by simp)
      have c2 : wr.cell? ⟨g, m * 3 + 2, none⟩ = some (rvT (rmk q x)) := hg.cell (a := ⟨g, m * 3 + 2, none⟩) ((hrow.cellAt (m * 3 + 2) (by omega)).trans v2) (by simp)
      have ht3 : wr.ownsRow base 104 5 (rvT x) x.1.2.2.length (insV (marksC (q + 2) x.1.2.2.length)) := by
        have t := own_none htr hg
        rw [rmk_T] at t
        have e1 : (rmk q x).1.2.2 = marksC (q + 2) x.1.2.2.length := rfl
        rw [e1, marksC_len] at t
        exact t
      rw [rmk_T] at c2
      obtain ⟨_, ta, tc, htv, _⟩ := own_ins ht3
      rw [htv] at c2 ht3
      have HT3 : Hid (wr.ownsRow base 104 5 (.slice ta x.1.2.2.length tc) x.1.2.2.length (insV (marksC (q + 2) x.1.2.2.length))) := ht3
      generalize x.1.2.2.length = n at c2 HT3 HEND hq3 hxl
      have hge : ¬ ((q + 2 + 5 * n : Nat) : Int) < 0 := by omega
      clear v0 v1 v2 hrow htr hmem hat hfl hend hend2 hx hq ht3 htv
      go_wp2
      go_region_with (go_at_call 85; refine (markTextC q _ (by omega) (by omega)).mono ?_; rintro e w1 ⟨rfl, hg1⟩; have x0 := hg1.cell (a := ⟨g, m * 3, none⟩) c0 (by simp); have x1 := hg1.cell (a := ⟨g, m * 3 + 1, none⟩) c1 (by simp); have x2 := hg1.cell (a := ⟨g, m * 3 + 2, none⟩) c2 (by simp))
      all_goals
        have hG1 : wr.grownBy w1 none := by first | exact hg1 | exact (grown_drew _ _).trans hg1
        have HM := heldInsSV w1 base n (q + 2) (.slice ta n tc) (by omega) (by omega) (by omega) (own_none HT3.out hG1)
        rw [show ((q + 2 : Nat) : Int) = (q : Int) + 1 + 1 by omega] at HM
        have HM2 : Hid (_) := HM
        clear HM hg1
        go_wp2_with fail
        refine Calls.mono HM2.out ?_
        rintro e w2 ⟨rfl, hg2⟩
        have hG2 := (hg.trans hG1).trans hg2
        clear HM2 hg2
        go_wp2
        go_roundw
        case rel => exact ⟨m + 1, by omega, by go_num, by rw [HEND.out]; go_num, hG2⟩
        case measure => simp [intOf]; omega
    · obtain rfl : m = xs.length := by omega
      have HK : Hid (rend k0 (xs.take xs.length) = rend k0 xs) := by exact (by rw [List.take_length] : rend k0 (xs.take xs.length) = rend k0 xs)
      go_wp2
      go_ret
      exact ⟨by rw [← HK.out]; rfl, hg⟩

end Go.Proofs.YtiekcenknniniaaGreatDoor

/-! The laws' own helpers over images: szImage, toImage, eqImage, markImage, heldImage. -/
namespace Go.Proofs.YtiekcenknniniaaGreatDoor
open Go.RowKit

set_option maxHeartbeats 1000000 in
set_option maxRecDepth 100000 in
theorem szImageC (a : Option Addr) (len cap : Nat) (rs : List Rt) (left : Int) (w : World) (hin : RtsIn w a len rs) (h0 : 0 ≤ left) (h1 : left ≤ 1048576) (hl : len ≤ maxLen) (hm : LongR rs) :
    Calls Tryz.prog 17 #[.agg #[.slice a len cap], .int .i64 left] w fun e w' => e = .returned (.int .i64 (szR (len + rtsSz rs) left)) ∧ Below w.heap.size w w' := by
  have hbW : Below w.heap.size w (w.alloc (.cells #[.slice a len cap] 39)) := (Below.refl _ _).alloc (Nat.le_refl _) _
  have HC : Hid (_) := szRoutineSC a len cap rs left _ (hin.below hbW) h0 h1 hl hm
  have HB : Hid (Below w.heap.size w (w.alloc (.cells #[.slice a len cap] 39))) := hbW
  have hz : szR (len + rtsSz rs) left = -1 ∨ 0 ≤ szR (len + rtsSz rs) left := by
    unfold szR
    split
    · right; omega
    · left; rfl
  generalize szR (len + rtsSz rs) left = z at HC hz ⊢
  clear hin hbW
  rcases hz with rfl | hz
  · go_enter Tryz.func17, Tryz.ntmps17
    go_wp2_with fail
    refine Calls.mono HC.out ?_
    rintro e w1 ⟨rfl, hb1⟩
    go_wp2
    go_ret
    exact ⟨rfl, HB.out.trans (hb1.mono HB.out.size)⟩
  · go_enter Tryz.func17, Tryz.ntmps17
    go_wp2_with fail
    refine Calls.mono HC.out ?_
    rintro e w1 ⟨rfl, hb1⟩
    go_wp2
    go_ret
    exact ⟨rfl, HB.out.trans (hb1.mono HB.out.size)⟩

set_option maxHeartbeats 2000000 in
set_option maxRecDepth 100000 in
theorem toImageC (a : Option Addr) (len cap : Nat) (rs : List Rt) (w : World) (hin : RtsIn w a len rs) (hlen : len ≤ 1048576) (hsh : ∀ j, (rs.getD j rt0).2.2.length ≤ 1048576) :
    Calls Tryz.prog 19 #[.agg #[.slice a len cap]] w fun e w' => ∃ g xs, e = .returned (.agg #[.slice (some ⟨g, 0, none⟩) len len]) ∧ xs.map (·.1) = rs ∧ RtsOwn w' w.heap.size (.slice (some ⟨g, 0, none⟩) len len) xs ∧ ApartR (xs.map rvT) ∧ Below w.heap.size w w' := by
  obtain ⟨D, hD⟩ : ∃ D, w.heap.size = D := ⟨_, rfl⟩
  obtain ⟨W1, hW1⟩ : ∃ W, w.alloc (.cells #[.slice a len cap] 39) = W := ⟨_, rfl⟩
  obtain ⟨W2, hW2⟩ : ∃ W, W1.alloc (.cells #[.slice none 0 0] 43) = W := ⟨_, rfl⟩
  obtain ⟨W3, hW3⟩ : ∃ W, W2.alloc (.cells #[.slice none 0 0] 43) = W := ⟨_, rfl⟩
  have hs1 : W1.heap.size = D + 1 := by rw [← hW1, ← hD]; simp
  have hs2 : W2.heap.size = D + 2 := by rw [← hW2]; simp [hs1]
  have hs3 : W3.heap.size = D + 3 := by rw [← hW3]; simp [hs2]
  have hb1 : Below D w W1 := by rw [← hW1, ← hD]; exact (Below.refl _ _).alloc (Nat.le_refl _) _
  have hb12 : Below W1.heap.size W1 W2 := by rw [← hW2]; exact (Below.refl _ _).alloc (Nat.le_refl _) _
  have hb23 : Below W2.heap.size W2 W3 := by rw [← hW3]; exact (Below.refl _ _).alloc (Nat.le_refl _) _
  have hb3 : Below D w W3 := (hb1.trans (hb12.mono (by omega))).trans (hb23.mono (by omega))
  have hA1 : W1.heap[D]? = some (.cells #[.slice a len cap] 39) := by rw [← hW1, ← hD]; exact heap_alloc_new w _
  have hR2 : W2.heap[D + 1]? = some (.cells #[.slice none 0 0] 43) := by rw [← hs1, ← hW2]; exact heap_alloc_new W1 _
  have hR3 : W3.heap[D + 2]? = some (.cells #[.slice none 0 0] 43) := by rw [← hs2, ← hW3]; exact heap_alloc_new W2 _
  have hA3 : W3.heap[D]? = some (.cells #[.slice a len cap] 39) := ((hb23.block _ (by omega)).trans (hb12.block _ (by omega))).trans hA1
  have hR23 : W3.heap[D + 1]? = some (.cells #[.slice none 0 0] 43) := (hb23.block _ (by omega)).trans hR2
  have a0 : W3.cell? ⟨D, 0, none⟩ = some (.slice a len cap) := cell_of_one hA3
  have HC : Hid (_) := toRoutineSC a len cap rs W3 (hin.below (by rw [hD]; exact hb3)) hlen hsh
  clear hin hA1 hR2 hA3 hb12 hb23 hb1 hsh
  go_enter Tryz.func19, Tryz.ntmps19
  go_wp2_with fail
  refine Calls.mono HC.out ?_
  rintro e w4 ⟨g, xs, rfl, hxs, hfo, hap, hb4⟩
  have e1 : w4.heap[D + 1]? = some (.cells #[.slice none 0 0] 43) := (hb4.block _ (by omega)).trans hR23
  have e2 : w4.heap[D + 2]? = some (.cells #[.slice none 0 0] 43) := (hb4.block _ (by omega)).trans hR3
  have k1 := cell_of_one e1
  have f1 := free_of_one e1
  have k2 := cell_of_one e2
  have f2 := free_of_one e2
  have hs4 : D + 3 ≤ w4.heap.size := by have := hb4.size; omega
  have hB4 : Below D w w4 := hb3.trans (hb4.mono (by omega))
  rw [hs3] at hfo
  obtain ⟨U, hU⟩ : ∃ U, w4.setCell ⟨D + 2, 0, none⟩ (.slice (some ⟨g, 0, none⟩) len len) = U := ⟨_, rfl⟩
  have hgU : w4.grownBy U (some (D + 2)) := by rw [← hU]; exact grown_set _ _ _ _
  have u2 : U.cell? ⟨D + 2, 0, none⟩ = some (.slice (some ⟨g, 0, none⟩) len len) := by rw [← hU]; exact World.cell?_setCell_same _ _ _ k2
  have u1 : U.cell? ⟨D + 1, 0, none⟩ = some (.slice none 0 0) := by rw [← hU]; exact (World.cell?_setCell_other _ _ _ _ (by simp)).trans k1
  have uf1 : U.frozen? ⟨D + 1, 0, none⟩ = false := by rw [← hU]; exact (World.frozen?_setCell ..).trans f1
  obtain ⟨V, hV⟩ : ∃ V, U.setCell ⟨D + 1, 0, none⟩ (.slice (some ⟨g, 0, none⟩) len len) = V := ⟨_, rfl⟩
  have hgV : U.grownBy V (some (D + 1)) := by rw [← hV]; exact grown_set _ _ _ _
  have v1 : V.cell? ⟨D + 1, 0, none⟩ = some (.slice (some ⟨g, 0, none⟩) len len) := by rw [← hV]; exact World.cell?_setCell_same _ _ _ u1
  have hfU := hfo.kept hgU (own_offR hfo.row (by omega)) (fun y hy => own_offR (hfo.trees y hy) (by omega))
  have hfV := hfU.kept hgV (own_offR hfU.row (by omega)) (fun y hy => own_offR (hfU.trees y hy) (by omega))
  have hBU : Below D w U := hB4.grown hgU (by omega) (fun k e => by injection e with e; omega)
  have HF : Hid (xs.map (·.1) = rs ∧ RtsOwn V D (.slice (some ⟨g, 0, none⟩) len len) xs ∧ ApartR (xs.map rvT) ∧ Below D w V) := ⟨hxs, hfV.base (by omega), hap, hBU.grown hgV (by have := hgU.size; omega) (fun k e => by injection e with e; omega)⟩
  clear hxs hfo hap hb4 hB4 hgU hgV hfU hfV hBU e1 e2 hR23 hR3 a0 HC hb3
  go_wp2
  refine bodyPost_ret (v := .agg #[.slice (some ⟨g, 0, none⟩) len len]) (by simp [results, Tryz.results19, go_sem, v1]) rfl ?_
  rw [hD]
  exact ⟨g, xs, rfl, HF.out⟩

set_option maxHeartbeats 1000000 in
set_option maxRecDepth 100000 in
theorem eqImageC (a b : Option Addr) (len ca cb : Nat) (rs : List Rt) (w : World) (ha : RtsIn w a len rs) (hb : RtsIn w b len rs) (hlen : len ≤ 4194304) (hsh : ∀ j, (rs.getD j rt0).2.2.length ≤ 4194304) :
    Calls Tryz.prog 21 #[.agg #[.slice a len ca], .agg #[.slice b len cb]] w fun e w' => e = .returned (.bool true) ∧ Below w.heap.size w w' := by
  have hbW : Below w.heap.size w ((w.alloc (.cells #[.slice a len ca] 43)).alloc (.cells #[.slice b len cb] 43)) := ((Below.refl _ _).alloc (Nat.le_refl _) _).alloc (by simp) _
  have HC : Hid (_) := eqRoutineSC a b len ca cb rs _ (ha.below hbW) (hb.below hbW) hlen hsh
  have HB : Hid (Below w.heap.size w ((w.alloc (.cells #[.slice a len ca] 43)).alloc (.cells #[.slice b len cb] 43))) := hbW
  clear ha hb hbW
  go_enter Tryz.func21, Tryz.ntmps21
  go_wp2_with fail
  refine Calls.mono HC.out ?_
  rintro e w1 ⟨rfl, hb1⟩
  go_wp2
  go_ret
  exact ⟨rfl, HB.out.trans (hb1.mono HB.out.size)⟩

set_option maxHeartbeats 1000000 in
set_option maxRecDepth 100000 in
theorem markImageC (w : World) (base g cp k0 : Nat) (xs : List RV) (hn : xs.length ≤ 1100000) (hk0 : 0 < k0) (hk1 : rend k0 xs ≤ 30000000) (hls : ∀ x ∈ xs, x.1.2.2.length ≤ 1100000) (hap : ApartR (xs.map rvT))
    (h : RtsOwn w base (.slice (some ⟨g, 0, none⟩) xs.length cp) xs) :
    Calls Tryz.prog 24 #[.agg #[.slice (some ⟨g, 0, none⟩) xs.length cp], .int .i64 k0] w fun e w' => e = .returned (.int .i64 ((rend k0 xs : Nat) : Int)) ∧ RtsOwn w' base (.slice (some ⟨g, 0, none⟩) xs.length cp) (rmark k0 xs) ∧ WroteR w w' (RtBlocks (.slice (some ⟨g, 0, none⟩) xs.length cp) xs) := by
  have hbW : Below w.heap.size w (w.alloc (.cells #[.slice (some ⟨g, 0, none⟩) xs.length cp] 43)) := (Below.refl _ _).alloc (Nat.le_refl _) _
  have HC : Hid (_) := markRoutineSC _ base g cp k0 xs hn hk0 hk1 hls hap (h.below hbW)
  have HB : Hid (Below w.heap.size w (w.alloc (.cells #[.slice (some ⟨g, 0, none⟩) xs.length cp] 43))) := hbW
  clear h hbW hap hls
  go_enter Tryz.func24, Tryz.ntmps24
  go_wp2_with fail
  refine Calls.mono HC.out ?_
  rintro e w1 ⟨rfl, ho, hw⟩
  have HF : Hid (RtsOwn w1 base (.slice (some ⟨g, 0, none⟩) xs.length cp) (rmark k0 xs) ∧ WroteR w w1 (RtBlocks (.slice (some ⟨g, 0, none⟩) xs.length cp) xs)) := ⟨ho, (WroteR.of_below HB.out).trans hw⟩
  clear ho hw HC
  go_wp2
  go_ret
  exact ⟨rfl, HF.out⟩

set_option maxHeartbeats 1000000 in
set_option maxRecDepth 100000 in
theorem heldImageC (w : World) (base g cp k0 : Nat) (xs : List RV) (hn : xs.length ≤ 1100000) (hk0 : 0 < k0) (hk1 : rend k0 xs ≤ 30000000) (hls : ∀ x ∈ xs, x.1.2.2.length ≤ 1100000)
    (h : RtsOwn w base (.slice (some ⟨g, 0, none⟩) xs.length cp) (rmark k0 xs)) :
    Calls Tryz.prog 25 #[.agg #[.slice (some ⟨g, 0, none⟩) xs.length cp], .int .i64 k0] w fun e w' => e = .returned (.int .i64 ((rend k0 xs : Nat) : Int)) ∧ w.grownBy w' none := by
  have hbW : Below w.heap.size w (w.alloc (.cells #[.slice (some ⟨g, 0, none⟩) xs.length cp] 43)) := (Below.refl _ _).alloc (Nat.le_refl _) _
  have HC : Hid (_) := heldRoutineSC _ base g cp k0 xs hn hk0 hk1 hls (h.below hbW)
  have hge : ¬ ((rend k0 xs : Nat) : Int) < 0 := by omega
  generalize rend k0 xs = z at HC hge ⊢
  clear h hbW hls hk1
  go_enter Tryz.func25, Tryz.ntmps25
  go_wp2_with fail
  refine Calls.mono HC.out ?_
  rintro e w1 ⟨rfl, hg⟩
  have HG : Hid (w.grownBy w1 none) := (World.grownBy_alloc w _ _).trans hg
  clear HC hg
  go_wp2
  go_ret
  exact ⟨rfl, HG.out⟩

end Go.Proofs.YtiekcenknniniaaGreatDoor
