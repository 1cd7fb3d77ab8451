/-
  Parts of one proof, one behind the other: StepW, InsM, NodeM, CompE, TreeX.
-/
import Derived.Test.YtnpbckgaeaameaaP28
import Derived.Test.YtnpbckgaeaameaaP16
import Derived.Test.YtnpbckgaeaameaaP13
import Derived.Test.YtnpbckgaeaameaaP9
import Derived.Deep.RegionWith
import Derived.Test.YtnpbckgaeaameaaP10

/-! Contracts of chapter 13's landed code: Compiled. -/
namespace Go.Proofs.Ytnpbckgaeaameaa
open Go.RowKit

set_option maxHeartbeats 4000000 in
set_option maxRecDepth 100000 in
theorem implCompiledYes (a : Option Addr) (cap : Nat) (ns : List Nd) (w : World) (hin : NodesIn w a ns.length ns) (hint : IntT ns) (hsh : ShortT ns) (hb : treeB ns = true) :
    Calls Try.prog 30 #[.slice a ns.length cap] w fun e w' => ∃ v, e = .returned v ∧ w'.ownsRow w.heap.size 43 5 v (compiledV ns).length (insV (compiledV ns)) ∧ Below w.heap.size w w' := by
  obtain ⟨h60, hone⟩ := treeB_one.1 hb
  have hcl := (compiled_law hb).2.2.1
  obtain ⟨D, hD⟩ : ∃ D : Nat, D = 60 := ⟨60, rfl⟩
  have hcv : compiledV ns = into13 D ns 0 0 0 ++ [(10, 0, 0, 0, [])] := by rw [hD]; unfold compiledV; rw [if_pos hb]
  have HT : Hid (Calls Try.prog 37 #[.slice a ns.length cap] w fun e w' => e = .returned (.bool true) ∧ Below w.heap.size w w') := by
    have h := implTreeOk a ns.length cap ns w hin hint hsh (by omega)
    rw [hb] at h
    exact h
  have HC : Hid (∀ Y, Below w.heap.size w Y → Calls Try.prog 39 #[.slice a ns.length cap] Y fun e w' => ∃ gN, e = .returned (.slice (some ⟨gN, 0, none⟩) ns.length ns.length) ∧ Nr Y w' gN ns.length 0 (nd12 ns [])) := fun Y hy => implLeast a cap ns Y (hin.below hy) hint hsh hb
  have HI : Hid (∀ (X Z : World) (g gN : Nat), Below w.heap.size w X → X.heap.size = g → Nr w X gN ns.length 0 (nd12 ns []) → Below X.heap.size X Z → Z.heap[g]? = some (.cells #[.slice a ns.length cap, .slice (some ⟨gN, 0, none⟩) ns.length ns.length, .slice none 0 0] 76 (0, 0)) → Z.heap.size = g + 1 → Wr13 X Z Z g (g + 1) (.slice a ns.length cap) (.slice (some ⟨gN, 0, none⟩) ns.length ns.length) (.slice none 0 0) (.slice none 0 0) [] ∧ Calls Try.prog 57 #[.pointer (some ⟨g, 0, none⟩), .int .i64 0, .int .i64 0] Z fun e w' => e = .returned (.tuple #[]) ∧ ∃ u, Wr13 X Z w' g (g + 1) (.slice a ns.length cap) (.slice (some ⟨gN, 0, none⟩) ns.length ns.length) (.slice none 0 0) u (into13 D ns 0 0 0)) := fun X Z g gN hX hg hnr hZ hblk hzs => by
    have hW : Wr13 X Z Z g (g + 1) (.slice a ns.length cap) (.slice (some ⟨gN, 0, none⟩) ns.length ns.length) (.slice none 0 0) (.slice none 0 0) [] :=
      Wr13.new (World.ownsRow_nil Z (g + 1) 43 5) hblk hZ (by omega) (by omega) (by omega)
    refine ⟨hW, ?_⟩
    have h := implInto X a cap ns gN g (g + 1) (hin.below hX) hint hsh h60 hb ⟨hnr.lt, fun q hq => hnr.rows q (Nat.zero_le _) hq⟩ D Z 0 0 (.slice none 0 0) [] hW (end_zero hone) (by omega) (by omega) (by omega) (by rw [hD]; simp)
    exact h
  rw [hcv] at hcl ⊢
  obtain ⟨xs, hxs⟩ : ∃ xs, into13 D ns 0 0 0 = xs := ⟨_, rfl⟩
  rw [hxs] at HI hcl ⊢
  have hnl : xs.length ≤ 120 := by rw [List.length_append] at hcl; simp at hcl; omega
  obtain ⟨n, hn⟩ : ∃ n, ns.length = n := ⟨_, rfl⟩
  rw [hn] at HT HC HI ⊢
  clear hin hint hsh hb h60 hone hcl hcv hxs hn hD
  go_enter Try.func30, Try.ntmps30
  go_wp2_with fail
  refine Calls.mono HT.out ?_
  rintro e w1 ⟨rfl, hb1⟩
  go_wp2_with fail
  refine Calls.mono (HC.out _ hb1) ?_
  rintro e w2 ⟨gN, rfl, hnr⟩
  have hb2 : Below w.heap.size w w2 := hb1.trans (hnr.b.mono hb1.size)
  have hnr2 : Nr w w2 gN n 0 (nd12 ns []) := ⟨hnr.rows, hnr.ok, hnr.lt, Nat.le_trans hb1.size hnr.h0, hb2⟩
  have hA := heap_alloc_new w2 (.cells #[.slice a n cap, .slice (some ⟨gN, 0, none⟩) n n, .slice none 0 0] 76)
  have hbZ : Below w2.heap.size w2 (w2.alloc (.cells #[.slice a n cap, .slice (some ⟨gN, 0, none⟩) n n, .slice none 0 0] 76)) := (Below.refl _ _).alloc (Nat.le_refl _) _
  have hzs : (w2.alloc (.cells #[.slice a n cap, .slice (some ⟨gN, 0, none⟩) n n, .slice none 0 0] 76)).heap.size = w2.heap.size + 1 := by simp
  obtain ⟨-, hcall⟩ := HI.out w2 _ w2.heap.size gN hb2 rfl hnr2 hbZ hA hzs
  have HIn : Hid (_) := hcall
  have HB2 : Hid (Below w.heap.size w w2) := hb2
  clear hcall hA hbZ hzs hnr hnr2 hb1 hb2 HI HC HT
  go_wp2_with fail
  refine Calls.mono HIn.out ?_
  rintro e W4 ⟨rfl, u, hw4⟩
  have HW4 : Hid (_) := hw4
  have HWr : Hid (_) := implWrite w2 W4 w2.heap.size (w2.heap.size + 1) _ _ u xs (10, 0, 0, 0, []) hw4.here (by omega)
  unfold insVal at HWr
  dsimp only at HWr
  clear hw4 HIn
  go_wp2_with fail
  refine Calls.mono HWr.out ?_
  rintro e W5 ⟨rfl, u2, hw5⟩
  obtain ⟨a5, c5, hv5⟩ := hw5.val
  have hl5 : (xs ++ [((10, 0, 0, 0, []) : In13)]).length = xs.length + 1 := by simp
  rw [hl5] at hv5
  subst hv5
  have hc5 := hw5.c2
  have HF : Hid (W5.ownsRow w.heap.size 43 5 (.slice a5 (xs.length + 1) c5) (xs ++ [((10, 0, 0, 0, []) : In13)]).length (insV (xs ++ [((10, 0, 0, 0, []) : In13)])) ∧ Below w.heap.size w W5) := ⟨own_base hw5.row (Nat.le_trans HB2.out.size (Nat.le_succ _)), HB2.out.trans (hw5.bB.mono HB2.out.size)⟩
  obtain ⟨m, hm⟩ : ∃ m, xs.length + 1 = m := ⟨_, rfl⟩
  rw [hm] at hc5 HF
  have HBe : Hid (_) := implBehind w2.heap.size m a5 c5 W5 hc5 (by omega)
  have hm2 : ¬ ((m : Int) > 200) := by omega
  have hm3 : (m : Int) ≤ 200 := by omega
  clear hw5 HWr hl5 HW4 hm
  go_wp2_with fail
  refine Calls.mono HBe.out ?_
  rintro e W6 ⟨rfl, rfl⟩
  go_wp2
  go_ret
  exact ⟨_, rfl, HF.out.1, HF.out.2⟩
set_option maxHeartbeats 1000000 in
set_option maxRecDepth 100000 in
theorem implCompiled (a : Option Addr) (len cap : Nat) (ns : List Nd) (w : World) (hin : NodesIn w a len ns) (hint : IntT ns) (hsh : ShortT ns) (hlen : len ≤ 1048576) (_hc : len ≤ cap) (_hm : cap ≤ maxLen) :
    Calls Try.prog 30 #[.slice a len cap] w fun e w' => ∃ v, e = .returned v ∧ w'.ownsRow w.heap.size 43 5 v (compiledV ns).length (insV (compiledV ns)) ∧ Below w.heap.size w w' := by
  obtain rfl : ns.length = len := hin.1
  rcases hb : treeB ns with _ | _
  · have HT : Hid (_) := implTreeOk a ns.length cap ns w hin hint hsh hlen
    rw [hb] at HT
    have HF : Hid (compiledV ns = []) := by exact (by unfold compiledV; rw [if_neg (by rw [hb]; simp)] : compiledV ns = [])
    clear hin hb
    go_enter Try.func30, Try.ntmps30
    go_wp2_with fail
    refine Calls.mono HT.out ?_
    rintro e w1 ⟨rfl, hb1⟩
    have hb2 : Below w.heap.size w (w1.alloc (.cells #[] 43)) := hb1.alloc hb1.size _
    have hP : (w1.alloc (.cells #[] 43)).ownsRow w.heap.size 43 5 (.slice (some ⟨w1.heap.size, 0, none⟩) 0 0) 0 [] := World.ownsRow_lit w1 #[] 0 hb1.size (by decide) rfl
    have HP : Hid (_) := And.intro hP hb2
    clear hb1 hb2 hP
    go_wp2
    go_ret
    exact ⟨_, rfl, by rw [HF.out]; exact HP.out.1, HP.out.2⟩
  · exact implCompiledYes a cap ns w hin hint hsh hb

end Go.Proofs.Ytnpbckgaeaameaa

/-! The laws' own helpers over rows of instructions: markInsS, heldInsS. -/
namespace Go.Proofs.Ytnpbckgaeaameaa
open Go.RowKit

/-- The marks of m instructions, from k on. -/
def marksC (k : Nat) : Nat → List In13
  | 0 => []
  | m + 1 => marksC k m ++ [(((k + 5 * m : Nat) : Int), ((k + 5 * m + 1 : Nat) : Int), ((k + 5 * m + 1 + 1 : Nat) : Int), ((k + 5 * m + 1 + 1 + 1 : Nat) : Int), markL (k + 5 * m + 1 + 1 + 1 + 1))]
theorem marksC_len (k m : Nat) : (marksC k m).length = m := by
  induction m with
  | zero => rfl
  | succ m ih => simp [marksC, ih]
theorem marksC_at (k m j : Nat) (h : j < m) : (marksC k m).getD j in0 = (((k + 5 * j : Nat) : Int), ((k + 5 * j + 1 : Nat) : Int), ((k + 5 * j + 1 + 1 : Nat) : Int), ((k + 5 * j + 1 + 1 + 1 : Nat) : Int), markL (k + 5 * j + 1 + 1 + 1 + 1)) := by
  induction m with
  | zero => omega
  | succ m ih =>
    unfold marksC
    by_cases hj : j < m
    · rw [← ih hj]
      simp [List.getD, List.getElem?_append, marksC_len, hj]
    · obtain rfl : j = m := by omega
      simp [List.getD, marksC_len]
theorem marksC_set (k i : Nat) (ns : List In13) (h : i < ns.length) : (marksC k i ++ ns.drop i).set i (((k + 5 * i : Nat) : Int), ((k + 5 * i + 1 : Nat) : Int), ((k + 5 * i + 1 + 1 : Nat) : Int), ((k + 5 * i + 1 + 1 + 1 : Nat) : Int), markL (k + 5 * i + 1 + 1 + 1 + 1)) = marksC k (i + 1) ++ ns.drop (i + 1) := by
  rw [List.set_append_right _ _ (by rw [marksC_len]; omega), marksC_len, Nat.sub_self, List.drop_eq_getElem_cons h, List.set_cons_zero]
  conv => rhs; unfold marksC
  rw [List.append_assoc]; rfl

set_option maxHeartbeats 4000000 in
set_option maxRecDepth 100000 in
theorem markInsSC (w : World) (base g cp n k0 : Nat) (ns : List In13) (hn : n ≤ 1100000) (hk0 : 0 < k0) (hk1 : k0 ≤ 30000000)
    (h : w.ownsRow base 43 5 (.slice (some ⟨g, 0, none⟩) n cp) n (insV ns)) :
    Calls Try.prog 32 #[.slice (some ⟨g, 0, none⟩) n cp, .int .i64 k0] w fun e w' => e = .returned (.int .i64 ((k0 + 5 * n : Nat) : Int)) ∧ w'.ownsRow base 43 5 (.slice (some ⟨g, 0, none⟩) n cp) n (insV (marksC k0 n)) ∧ w.grownBy w' (some g) := by
  have hbl := (own_ins h).1
  go_enter Try.func32, Try.ntmps32
  go_wp2
  go_loopw [1, 5] (fun k i wr => ∃ m : Nat, m ≤ n ∧ i = .int .i64 m ∧ k = .int .i64 ((k0 + 5 * m : Nat) : Int) ∧ wr.ownsRow base 43 5 (.slice (some ⟨g, 0, none⟩) n cp) n (insV (marksC k0 m ++ ns.drop m)) ∧ w.grownBy wr (some g)) (fun _ i _ => n - (intOf i).toNat)
  case atStart => exact ⟨0, Nat.zero_le _, rfl, rfl, h, World.grownBy.refl _ _⟩
  case round =>
    obtain ⟨m, hm, rfl, rfl, hown, hg⟩ := hrel
    by_cases hlt : (m : Int) < (n : Int)
    · have hl2 : (marksC k0 m ++ ns.drop m).length = n := (own_ins hown).1
      have hset := marksC_set k0 m ns (by omega)
      obtain ⟨q, hq⟩ : ∃ q, k0 + 5 * m = q := ⟨_, rfl⟩
      have hq3 : q ≤ 36500000 := by omega
      have HQ2 : Hid (k0 + 5 * (m + 1) = q + 1 + 1 + 1 + 1 + 1) := by exact (by omega : k0 + 5 * (m + 1) = q + 1 + 1 + 1 + 1 + 1)
      rw [hq] at hset ⊢
      clear hq
      obtain ⟨v0, v1, v2, v3, v4⟩ := insV_at (marksC k0 m ++ ns.drop m) m (by omega)
      obtain ⟨xs, hxs⟩ : ∃ xs, insV (marksC k0 m ++ ns.drop m) = xs := ⟨_, rfl⟩
      have hset2 := insV_set (marksC k0 m ++ ns.drop m) m (q : Int) ((q + 1 : Nat) : Int) ((q + 1 + 1 : Nat) : Int) ((q + 1 + 1 + 1 : Nat) : Int) (markL (q + 1 + 1 + 1 + 1))
      rw [hset, hxs] at hset2
      rw [hxs] at hown v0 v1 v2 v3 v4
      have HSET : Hid (_) := hset2
      clear hset hset2 hxs
      obtain ⟨u0, d0⟩ : ∃ u, wr.cell? ⟨g, m * 5, none⟩ = some u := by rw [hown.cellAt (m * 5) (by omega), v0]; exact ⟨_, rfl⟩
      obtain ⟨u1, d1⟩ : ∃ u, wr.cell? ⟨g, m * 5 + 1, none⟩ = some u := by rw [hown.cellAt (m * 5 + 1) (by omega), v1]; exact ⟨_, rfl⟩
      obtain ⟨u2, d2⟩ : ∃ u, wr.cell? ⟨g, m * 5 + 2, none⟩ = some u := by rw [hown.cellAt (m * 5 + 2) (by omega), v2]; exact ⟨_, rfl⟩
      obtain ⟨u3, d3⟩ : ∃ u, wr.cell? ⟨g, m * 5 + 3, none⟩ = some u := by rw [hown.cellAt (m * 5 + 3) (by omega), v3]; exact ⟨_, rfl⟩
      have e0 := hown.frozenAt (m * 5)
      have e1 := hown.frozenAt (m * 5 + 1)
      have e2 := hown.frozenAt (m * 5 + 2)
      have e3 := hown.frozenAt (m * 5 + 3)
      have hs1 := hown.stored (m * 5) (.int .i64 (q : Int))
      have hs2 := hs1.1.stored (m * 5 + 1) (.int .i64 ((q + 1 : Nat) : Int))
      have hs3 := hs2.1.stored (m * 5 + 2) (.int .i64 ((q + 1 + 1 : Nat) : Int))
      have hs4 := hs3.1.stored (m * 5 + 3) (.int .i64 ((q + 1 + 1 + 1 : Nat) : Int))
      obtain ⟨W1, hW1⟩ : ∃ W1, (((wr.setCell ⟨g, m * 5, none⟩ (.int .i64 (q : Int))).setCell ⟨g, m * 5 + 1, none⟩ (.int .i64 ((q + 1 : Nat) : Int))).setCell ⟨g, m * 5 + 2, none⟩ (.int .i64 ((q + 1 + 1 : Nat) : Int))).setCell ⟨g, m * 5 + 3, none⟩ (.int .i64 ((q + 1 + 1 + 1 : Nat) : Int)) = W1 := ⟨_, rfl⟩
      rw [hW1] at hs4
      have HS1 : Hid (_) := hs4.1
      have HG1 : Hid (w.grownBy W1 (some g)) := (((hg.trans hs1.2).trans hs2.2).trans hs3.2).trans hs4.2
      clear hs1 hs2 hs3 hs4
      go_wp2_with fail
      refine (markTextC (q + 1 + 1 + 1 + 1) _ (by omega) (by omega)).mono ?_
      rintro e w2 ⟨rfl, hg2⟩
      first | (have hg2' : W1.grownBy w2 none := hg2) | (have hg2' : W1.grownBy w2 none := by rw [← hW1]; exact hg2)
      have hown2 := own_none HS1.out hg2'
      obtain ⟨u4, d4⟩ : ∃ u, w2.cell? ⟨g, m * 5 + 4, none⟩ = some u := by
        rw [hown2.cellAt (m * 5 + 4) (by omega), List.getElem?_set_ne (by omega), List.getElem?_set_ne (by omega), List.getElem?_set_ne (by omega), List.getElem?_set_ne (by omega), v4]; exact ⟨_, rfl⟩
      have e4 := hown2.frozenAt (m * 5 + 4)
      have hs5 := hown2.stored (m * 5 + 4) (.string ⟨(markL (q + 1 + 1 + 1 + 1)).toArray⟩)
      rw [HSET.out] at hs5
      have hg5 := (HG1.out.andThen hg2' (by simp)).trans hs5.2
      have hs6 := hs5.1
      clear hown2 hs5 hg2 hg2' hown hg HS1 HG1 d0 d1 d2 d3 e0 e1 e2 e3 v0 v1 v2 v3 v4 HSET
      go_wp2
      go_roundw
      case rel => exact ⟨m + 1, by omega, by go_num, by rw [HQ2.out]; go_num, hs6, hg5⟩
      case measure => simp [intOf]; omega
    · obtain rfl : m = n := by omega
      have hd : ns.drop m = [] := List.drop_eq_nil_of_le (by omega)
      rw [hd, List.append_nil] at hown
      clear hd
      go_wp2
      go_ret
      exact ⟨rfl, hown, hg⟩

set_option maxHeartbeats 1000000 in
set_option maxRecDepth 100000 in
theorem markInsSNil (w : World) (k0 : Nat) :
    Calls Try.prog 32 #[.slice none 0 0, .int .i64 k0] w fun e w' => e = .returned (.int .i64 (k0 : Int)) ∧ w' = w := by
  go_enter Try.func32, Try.ntmps32
  go_wp2
  refine wp_loop_rounds 1 ?_
  rw [rounds_succ]
  go_wp2
  go_ret
  exact ⟨rfl, rfl⟩

theorem markInsSV (w : World) (base n k0 : Nat) (v : Value) (ns : List In13) (hn : n ≤ 1100000) (hk0 : 0 < k0) (hk1 : k0 ≤ 30000000) (h : w.ownsRow base 43 5 v n (insV ns)) :
    Calls Try.prog 32 #[v, .int .i64 k0] w fun e w' => e = .returned (.int .i64 ((k0 + 5 * n : Nat) : Int)) ∧ w'.ownsRow base 43 5 v n (insV (marksC k0 n)) ∧ w.grownBy w' v.ownBlock := by
  rcases own_forms h with ⟨rfl, rfl, _⟩ | ⟨g, cp, rfl⟩
  · refine (markInsSNil w k0).mono ?_
    rintro e w' ⟨rfl, rfl⟩
    exact ⟨rfl, World.ownsRow_nil _ _ _ _, World.grownBy.refl _ _⟩
  · exact markInsSC w base g cp n k0 ns hn hk0 hk1 h

set_option maxHeartbeats 4000000 in
set_option maxRecDepth 100000 in
theorem heldInsSC (w : World) (a : Option Addr) (cap n k0 : Nat) (hn : n ≤ 1100000) (hk0 : 0 < k0) (hk1 : k0 ≤ 30000000) (h : InsIn w a n (marksC k0 n)) :
    Calls Try.prog 33 #[.slice a n cap, .int .i64 k0] w fun e w' => e = .returned (.int .i64 ((k0 + 5 * n : Nat) : Int)) ∧ w.grownBy w' none := by
  have hself : ∀ l : List UInt8, (l != l) = false := by simp
  have hne : ∀ n : Int, (n != n) = false := by simp
  have HI : Hid (InsIn w a n (marksC k0 n)) := h
  clear h
  go_enter Try.func33, Try.ntmps33
  go_wp2
  go_loopw [1, 5] (fun k i wr => ∃ m : Nat, m ≤ n ∧ i = .int .i64 m ∧ k = .int .i64 ((k0 + 5 * m : Nat) : Int) ∧ w.grownBy wr none) (fun _ i _ => n - (intOf i).toNat)
  case atStart => exact ⟨0, Nat.zero_le _, rfl, rfl, World.grownBy.refl _ _⟩
  case round =>
    obtain ⟨m, hm, rfl, rfl, hg⟩ := hrel
    by_cases hlt : (m : Int) < (n : Int)
    · obtain ⟨b, off, rfl, hbl, c0, c1, c2, c3, c4⟩ := HI.out.2 m (by omega)
      rw [marksC_at k0 n m (by omega)] at c0 c1 c2 c3 c4
      simp only at c0 c1 c2 c3 c4
      obtain ⟨q, hq⟩ : ∃ q, k0 + 5 * m = q := ⟨_, rfl⟩
      have HQ2 : Hid (k0 + 5 * (m + 1) = q + 1 + 1 + 1 + 1 + 1) := by exact (by omega : k0 + 5 * (m + 1) = q + 1 + 1 + 1 + 1 + 1)
      have hq3 : q ≤ 36500000 := by omega
      rw [hq] at c0 c1 c2 c3 c4 ⊢
      clear hq
      have x0 : wr.cell? ⟨b, off + m * 5, none⟩ = some (.int .i64 (q : Int)) := hg.cell c0 (by simp)
      have x1 : wr.cell? ⟨b, off + m * 5 + 1, none⟩ = some (.int .i64 ((q : Int) + 1)) := hg.cell c1 (by simp)
      have x2 : wr.cell? ⟨b, off + m * 5 + 2, none⟩ = some (.int .i64 ((q : Int) + 1 + 1)) := hg.cell c2 (by simp)
      have x3 : wr.cell? ⟨b, off + m * 5 + 3, none⟩ = some (.int .i64 ((q : Int) + 1 + 1 + 1)) := hg.cell c3 (by simp)
      have x4 : wr.cell? ⟨b, off + m * 5 + 4, none⟩ = some (.string ⟨(markL (q + 1 + 1 + 1 + 1)).toArray⟩) := hg.cell c4 (by simp)
      clear c0 c1 c2 c3 c4
      go_wp2
      go_region_with (go_at_call 60; refine (markTextC (q + 1 + 1 + 1 + 1) _ (by omega) (by omega)).mono ?_; rintro e w1 ⟨rfl, hg1⟩; have x41 := hg1.cell (a := ⟨b, off + m * 5 + 4, none⟩) x4 (by simp))
      all_goals (try go_wp2)
      all_goals
        go_roundw
        case rel => exact ⟨m + 1, by omega, by go_num, by rw [HQ2.out]; go_num, by first | exact hg.trans hg1 | exact (hg.trans (grown_drew _ _)).trans hg1⟩
        case measure => simp [intOf]; omega
    · obtain rfl : m = n := by omega
      go_wp2
      go_ret
      exact ⟨rfl, hg⟩

theorem heldInsSV (w : World) (base n k0 : Nat) (v : Value) (hn : n ≤ 1100000) (hk0 : 0 < k0) (hk1 : k0 ≤ 30000000) (h : w.ownsRow base 43 5 v n (insV (marksC k0 n))) :
    Calls Try.prog 33 #[v, .int .i64 k0] w fun e w' => e = .returned (.int .i64 ((k0 + 5 * n : Nat) : Int)) ∧ w.grownBy w' none := by
  obtain ⟨_, a, cap, rfl, hin⟩ := own_ins h
  exact heldInsSC w a cap n k0 hn hk0 hk1 hin

end Go.Proofs.Ytnpbckgaeaameaa

/-! The laws' own helpers over rows of nodes: markNodeS, heldNodeS, likeTree. -/
namespace Go.Proofs.Ytnpbckgaeaameaa
open Go.RowKit

/-- The marks of m nodes, from k on. -/
def marksN (k : Nat) : Nat → List Nd
  | 0 => []
  | m + 1 => marksN k m ++ [(((k + 4 * m : Nat) : Int), ((k + 4 * m + 1 : Nat) : Int), markL (k + 4 * m + 1 + 1), markL (k + 4 * m + 1 + 1 + 1))]

theorem marksN_len (k m : Nat) : (marksN k m).length = m := by
  induction m with
  | zero => rfl
  | succ m ih => simp [marksN, ih]

theorem marksN_at (k m j : Nat) (h : j < m) : (marksN k m).getD j nd0 = (((k + 4 * j : Nat) : Int), ((k + 4 * j + 1 : Nat) : Int), markL (k + 4 * j + 1 + 1), markL (k + 4 * j + 1 + 1 + 1)) := by
  induction m with
  | zero => omega
  | succ m ih =>
    unfold marksN
    by_cases hj : j < m
    · rw [← ih hj]
      simp [List.getD, List.getElem?_append, marksN_len, hj]
    · obtain rfl : j = m := by omega
      simp [List.getD, marksN_len]

theorem marksN_set (k i : Nat) (ns : List Nd) (h : i < ns.length) : (marksN k i ++ ns.drop i).set i (((k + 4 * i : Nat) : Int), ((k + 4 * i + 1 : Nat) : Int), markL (k + 4 * i + 1 + 1), markL (k + 4 * i + 1 + 1 + 1)) = marksN k (i + 1) ++ ns.drop (i + 1) := by
  rw [List.set_append_right _ _ (by rw [marksN_len]; omega), marksN_len, Nat.sub_self, List.drop_eq_getElem_cons h, List.set_cons_zero]
  conv => rhs; unfold marksN
  rw [List.append_assoc]; rfl

set_option maxHeartbeats 2000000 in
set_option maxRecDepth 100000 in
theorem markNodeSC (w : World) (base g cp n k0 : Nat) (ns : List Nd) (hn : n ≤ 1100000) (hk0 : 0 < k0) (hk1 : k0 ≤ 30000000)
    (h : w.ownsRow base 30 4 (.slice (some ⟨g, 0, none⟩) n cp) n (nodesV ns)) :
    Calls Try.prog 31 #[.slice (some ⟨g, 0, none⟩) n cp, .int .i64 k0] w fun e w' => e = .returned (.int .i64 ((k0 + 4 * n : Nat) : Int)) ∧ w'.ownsRow base 30 4 (.slice (some ⟨g, 0, none⟩) n cp) n (nodesV (marksN k0 n)) ∧ w.grownBy w' (some g) := by
  have hbl := (own_nodes h).1
  go_enter Try.func31, Try.ntmps31
  go_wp2
  go_loopw [1, 5] (fun k i wr => ∃ m : Nat, m ≤ n ∧ i = .int .i64 m ∧ k = .int .i64 ((k0 + 4 * m : Nat) : Int) ∧ wr.ownsRow base 30 4 (.slice (some ⟨g, 0, none⟩) n cp) n (nodesV (marksN k0 m ++ ns.drop m)) ∧ w.grownBy wr (some g)) (fun _ i _ => n - (intOf i).toNat)
  case atStart => exact ⟨0, Nat.zero_le _, rfl, rfl, h, World.grownBy.refl _ _⟩
  case round =>
    obtain ⟨m, hm, rfl, rfl, hown, hg⟩ := hrel
    by_cases hlt : (m : Int) < (n : Int)
    · have hl2 : (marksN k0 m ++ ns.drop m).length = n := (own_nodes hown).1
      have hset := marksN_set k0 m ns (by omega)
      obtain ⟨q, hq⟩ : ∃ q, k0 + 4 * m = q := ⟨_, rfl⟩
      have hq3 : q ≤ 34500000 := by omega
      have HQ2 : Hid (k0 + 4 * (m + 1) = q + 1 + 1 + 1 + 1) := by exact (by omega : k0 + 4 * (m + 1) = q + 1 + 1 + 1 + 1)
      rw [hq] at hset ⊢
      clear hq
      obtain ⟨v0, v1, v2, v3⟩ := nodesV_at (marksN k0 m ++ ns.drop m) m (by omega)
      obtain ⟨xs, hxs⟩ : ∃ xs, nodesV (marksN k0 m ++ ns.drop m) = xs := ⟨_, rfl⟩
      have hset2 := nodesV_set (marksN k0 m ++ ns.drop m) m (q : Int) ((q + 1 : Nat) : Int) (markL (q + 1 + 1)) (markL (q + 1 + 1 + 1))
      rw [hset, hxs] at hset2
      rw [hxs] at hown v0 v1 v2 v3
      have HSET : Hid ((((xs.set (m * 4) (.int .i64 (q : Int))).set (m * 4 + 1) (.int .i64 ((q + 1 : Nat) : Int))).set (m * 4 + 2) (.string ⟨(markL (q + 1 + 1)).toArray⟩)).set (m * 4 + 3) (.string ⟨(markL (q + 1 + 1 + 1)).toArray⟩) = nodesV (marksN k0 (m + 1) ++ ns.drop (m + 1))) := hset2
      clear hset hset2 hxs
      obtain ⟨u0, d0⟩ : ∃ u, wr.cell? ⟨g, m * 4, none⟩ = some u := by rw [hown.cellAt (m * 4) (by omega), v0]; exact ⟨_, rfl⟩
      obtain ⟨u1, d1⟩ : ∃ u, wr.cell? ⟨g, m * 4 + 1, none⟩ = some u := by rw [hown.cellAt (m * 4 + 1) (by omega), v1]; exact ⟨_, rfl⟩
      have e0 := hown.frozenAt (m * 4)
      have e1 := hown.frozenAt (m * 4 + 1)
      have hs1 := hown.stored (m * 4) (.int .i64 (q : Int))
      have hs2 := hs1.1.stored (m * 4 + 1) (.int .i64 ((q + 1 : Nat) : Int))
      obtain ⟨W1, hW1⟩ : ∃ W1, (wr.setCell ⟨g, m * 4, none⟩ (.int .i64 (q : Int))).setCell ⟨g, m * 4 + 1, none⟩ (.int .i64 ((q + 1 : Nat) : Int)) = W1 := ⟨_, rfl⟩
      rw [hW1] at hs2
      have HS1 : Hid (W1.ownsRow base 30 4 (.slice (some ⟨g, 0, none⟩) n cp) n ((xs.set (m * 4) (.int .i64 (q : Int))).set (m * 4 + 1) (.int .i64 ((q + 1 : Nat) : Int)))) := hs2.1
      have HG1 : Hid (w.grownBy W1 (some g)) := (hg.trans hs1.2).trans hs2.2
      clear hs1 hs2
      go_wp2_with fail
      refine (markTextC (q + 1 + 1) _ (by omega) (by omega)).mono ?_
      rintro e w2 ⟨rfl, hg2⟩
      first | (have hg2' : W1.grownBy w2 none := hg2) | (have hg2' : W1.grownBy w2 none := by rw [← hW1]; exact hg2)
      have hown2 := own_none HS1.out hg2'
      obtain ⟨u2, d2⟩ : ∃ u, w2.cell? ⟨g, m * 4 + 2, none⟩ = some u := by
        rw [hown2.cellAt (m * 4 + 2) (by omega), List.getElem?_set_ne (by omega), List.getElem?_set_ne (by omega), v2]; exact ⟨_, rfl⟩
      have e2 := hown2.frozenAt (m * 4 + 2)
      have hs3 := hown2.stored (m * 4 + 2) (.string ⟨(markL (q + 1 + 1)).toArray⟩)
      have HS3 : Hid ((w2.setCell ⟨g, m * 4 + 2, none⟩ (.string ⟨(markL (q + 1 + 1)).toArray⟩)).ownsRow base 30 4 (.slice (some ⟨g, 0, none⟩) n cp) n (((xs.set (m * 4) (.int .i64 (q : Int))).set (m * 4 + 1) (.int .i64 ((q + 1 : Nat) : Int))).set (m * 4 + 2) (.string ⟨(markL (q + 1 + 1)).toArray⟩))) := hs3.1
      have HG3 : Hid (w.grownBy (w2.setCell ⟨g, m * 4 + 2, none⟩ (.string ⟨(markL (q + 1 + 1)).toArray⟩)) (some g)) := (HG1.out.andThen hg2' (by simp)).trans hs3.2
      clear hs3 hown2 hg2 hg2' hown hg HS1 HG1 d0 d1 e0 e1 v0 v1 v2
      go_wp2_with fail
      refine (markTextC (q + 1 + 1 + 1) _ (by omega) (by omega)).mono ?_
      rintro e w4 ⟨rfl, hg4⟩
      have hown4 := own_none HS3.out hg4
      obtain ⟨u3, d3⟩ : ∃ u, w4.cell? ⟨g, m * 4 + 3, none⟩ = some u := by
        rw [hown4.cellAt (m * 4 + 3) (by omega), List.getElem?_set_ne (by omega), List.getElem?_set_ne (by omega), List.getElem?_set_ne (by omega), v3]; exact ⟨_, rfl⟩
      have e3 := hown4.frozenAt (m * 4 + 3)
      have hs5 := hown4.stored (m * 4 + 3) (.string ⟨(markL (q + 1 + 1 + 1)).toArray⟩)
      rw [HSET.out] at hs5
      have hg5 := (HG3.out.andThen hg4 (by simp)).trans hs5.2
      have hs6 := hs5.1
      clear hown4 hs5 hg4 HS3 HG3 HSET v3 d2 e2
      go_wp2
      go_roundw
      case rel => exact ⟨m + 1, by omega, by go_num, by rw [HQ2.out]; go_num, hs6, hg5⟩
      case measure => simp [intOf]; omega
    · obtain rfl : m = n := by omega
      have hd : ns.drop m = [] := List.drop_eq_nil_of_le (by omega)
      rw [hd, List.append_nil] at hown
      clear hd
      go_wp2
      go_ret
      exact ⟨rfl, hown, hg⟩

set_option maxHeartbeats 1000000 in
set_option maxRecDepth 100000 in
theorem markNodeSNil (w : World) (k0 : Nat) :
    Calls Try.prog 31 #[.slice none 0 0, .int .i64 k0] w fun e w' => e = .returned (.int .i64 (k0 : Int)) ∧ w' = w := by
  go_enter Try.func31, Try.ntmps31
  go_wp2
  refine wp_loop_rounds 1 ?_
  rw [rounds_succ]
  go_wp2
  go_ret
  exact ⟨rfl, rfl⟩

theorem markNodeSV (w : World) (base n k0 : Nat) (v : Value) (ns : List Nd) (hn : n ≤ 1100000) (hk0 : 0 < k0) (hk1 : k0 ≤ 30000000) (h : w.ownsRow base 30 4 v n (nodesV ns)) :
    Calls Try.prog 31 #[v, .int .i64 k0] w fun e w' => e = .returned (.int .i64 ((k0 + 4 * n : Nat) : Int)) ∧ w'.ownsRow base 30 4 v n (nodesV (marksN k0 n)) ∧ w.grownBy w' v.ownBlock := by
  rcases own_forms h with ⟨rfl, rfl, _⟩ | ⟨g, cp, rfl⟩
  · refine (markNodeSNil w k0).mono ?_
    rintro e w' ⟨rfl, rfl⟩
    exact ⟨rfl, World.ownsRow_nil _ _ _ _, World.grownBy.refl _ _⟩
  · exact markNodeSC w base g cp n k0 ns hn hk0 hk1 h


end Go.Proofs.Ytnpbckgaeaameaa

/-! Rows of instructions that are alike; what is compiled is short. -/
namespace Go.Proofs.Ytnpbckgaeaameaa
open Go.RowKit

theorem compiled_len (ns : List Nd) : (compiledV ns).length ≤ 121 := by
  rcases h : treeB ns with _ | _
  · unfold compiledV; rw [if_neg (by rw [h]; simp)]; simp
  · exact (compiled_law h).2.2.1
theorem eqC13 (z : List In13) (n : Nat) (w : World) {b1 b2 : Nat} {v u : Value} (h1 : w.ownsRow b1 43 5 v n (insV z)) (h2 : w.ownsRow b2 43 5 u n (insV z)) (hn : n ≤ 4194304) :
    Calls Try.prog 28 #[v, u] w fun e w' => e = .returned (.bool true) ∧ w.grownBy w' none := by
  obtain ⟨_, a, ca, rfl, ha⟩ := own_ins h1
  obtain ⟨_, b, cb, rfl, hb⟩ := own_ins h2
  exact (eqInsSC a b n ca cb z w ha hb hn).mono fun e w' h => ⟨h.1, h.2.os, h.2.tape, h.2.output, h.2.size, fun k hk _ => h.2.block k hk⟩

end Go.Proofs.Ytnpbckgaeaameaa

/-! Small facts for the walks of stage 6. -/
namespace Go.Proofs.Ytnpbckgaeaameaa
open Go.RowKit

theorem own_ne3 {v v2 : Value} (hd : ∀ q, v.ownBlock = some q → v2.ownBlock = some q → False) : v.ownBlock = none ∨ v.ownBlock ≠ v2.ownBlock := by
  rcases hv : v.ownBlock with _ | q
  · exact Or.inl rfl
  · exact Or.inr (fun e => hd q hv e.symm)

theorem partsV_len (l : List Nd) (a : Int) : (partsV l a).length ≤ 3 := by
  unfold partsV
  split
  · simp
  · rename_i hneg
    have hin2 : ¬ (a < 0 ∨ (l.length : Int) ≤ a) := fun h => hneg (by rw [endV_out l a h]; omega)
    obtain ⟨k, rfl⟩ : ∃ k : Nat, a = (k : Int) := Int.eq_ofNat_of_zero_le (by omega)
    obtain ⟨_, hnb, _⟩ := end_parts (by omega : 0 ≤ endV l (k : Int))
    rw [partsGo_len]
    exact (@kidsV_ok _ hnb).2

theorem readTV_len (s : List UInt8) : (readTV s).length ≤ 60 := by
  unfold readTV
  split
  · rename_i h
    unfold readOk at h
    simp only [Bool.and_eq_true] at h
    exact (tree_end h.2.1).1.2
  · simp

end Go.Proofs.Ytnpbckgaeaameaa
