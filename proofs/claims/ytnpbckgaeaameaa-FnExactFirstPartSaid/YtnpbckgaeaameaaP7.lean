/-
  Parts of one proof, one behind the other: DrawTr3, DrawTr4, TreeS6, IntsL, Marks, Marks2, Marks3, TextsL, NumsL.
-/
import Derived.Test.YtnpbckgaeaameaaP6
import Derived.Test.YtnpbckgaeaameaaP5
import Derived.Test.YtnpbckgaeaameaaP4
import Derived.Test.YtnpbckgaeaameaaP2
import Derived.Test.YtnpbckgaeaameaaP3
import Derived.Deep.RegionWith
import Derived.SliceStrings
import Derived.ProofKit
import Derived.OpenShut
import Derived.ShutString
import Derived.ChangeOld
import Derived.Below

/-! Any list of nodes is drawn. -/
namespace Go.Proofs.Ytnpbckgaeaameaa
open Go.RowKit

/-- A literal of nodes is put behind a row that a call owns. -/
theorem push_nodes (W : World) (base : Nat) (v : Value) (ns ms : List Nd) (cs : Array Value) (hcs : cs.toList = nodesV ms) (hown : W.ownsRow base 30 4 v ns.length (nodesV ns)) (hb : base ≤ W.heap.size) (hl : ns.length + ms.length ≤ 100000) :
    ∃ v' w', (Builtin.append_ #[24, 24] 24 #[v, .slice (some ⟨W.heap.size, 0, none⟩) ms.length ms.length]).run Try.prog (W.alloc (.cells cs 30)) = .ok v' w' ∧ w'.ownsRow base 30 4 v' (ns ++ ms).length (nodesV (ns ++ ms)) ∧ W.grownBy w' v.ownBlock := by
  obtain ⟨i0, hi, hz0, hz1, hz2⟩ := info_parts infoNode
  have hsz : cs.size = ms.length * 4 := by rw [← nodesV_len, ← hcs]; simp
  have hlit := World.ownsRow_lit (base := base) (e := 30) (size := 4) W cs ms.length hb (by unfold maxLen; omega) hsz
  rw [hcs] at hlit
  obtain ⟨v', w', hrun, hown', hg, _⟩ := run_append_src (P := Try.prog) (W.alloc (.cells cs 30)) base 24 24 30 i0 _ 4 48 Try.underlying24 hi hz0 hz1 hz2 rfl (by decide) _ _ _ (hown.alloc _) _ ms.length (nodesV ms) (own_src hlit (nodesV_one _)) (by unfold maxLen; omega) (by omega) (by simp; omega)
  exact ⟨v', w', hrun, by rw [nodesV_append, List.length_append]; exact hown', (World.grownBy_alloc W _ _).trans hg⟩

theorem nodesV_take (ns : List Nd) (k : Nat) : (nodesV ns).take (k * 4) = nodesV (ns.take k) := by
  induction ns generalizing k with
  | nil => simp [nodesV]
  | cons n r ih =>
    cases k with
    | zero => simp [nodesV]
    | succ k => rw [show (k + 1) * 4 = k * 4 + 1 + 1 + 1 + 1 by omega]; simp [nodesV, ih]

/-- A row of nodes cut at its end. -/
theorem own_takeN {w : World} {base g n cp : Nat} {ns : List Nd} (h : w.ownsRow base 30 4 (.slice (some ⟨g, 0, none⟩) n cp) n (nodesV ns)) (hn : ns.length = n) (m : Nat) (hm : m ≤ n) : w.ownsRow base 30 4 (.slice (some ⟨g, 0, none⟩) m cp) (ns.take m).length (nodesV (ns.take m)) := by
  have hl : (ns.take m).length = m := by rw [List.length_take]; omega
  rw [hl]
  have h0 := h.1
  rcases h.2 with ⟨h', _⟩ | ⟨g', cap', cur, h', hb, hg, hnc, hcm, hcs, htake⟩
  · simp at h'
  · simp only [Value.slice.injEq, Option.some.injEq, Addr.mk.injEq, and_true, true_and] at h'
    obtain ⟨rfl, rfl⟩ := h'
    refine ⟨by rw [nodesV_len, hl], .inr ⟨g, cp, cur, rfl, hb, hg, by omega, hcm, hcs, ?_⟩⟩
    rw [← nodesV_take, ← htake, List.take_take]
    congr 1
    omega

theorem small_take {ns : List Nd} (h : SmallT ns) (k : Nat) : SmallT (ns.take k) := fun n hn => h n (List.mem_of_mem_take hn)
theorem small_app {ns ms : List Nd} (h : SmallT ns) (k : SmallT ms) : SmallT (ns ++ ms) := fun n hn => (List.mem_append.1 hn).elim (h n) (k n)
theorem small_set {ns : List Nd} (h : SmallT ns) {n : Nd} (hn : SmallN n) (k : Nat) : SmallT (ns.set k n) := fun m hm => (List.mem_or_eq_of_mem_set hm).elim (h m) (fun e => by rw [e]; exact hn)
theorem small_num : SmallT [ndNum] := by intro m hm; rw [List.mem_singleton] at hm; subst hm; exact small0 1 (by omega) (by omega)
theorem small_pairs : ∀ j, SmallT (pairsL j)
  | 0 => fun n hn => by cases hn
  | j + 1 => fun n hn => by
    rcases List.mem_cons.1 hn with rfl | hn
    · exact small0 3 (by omega) (by omega)
    · rcases List.mem_cons.1 hn with rfl | hn
      · exact small0 1 (by omega) (by omega)
      · exact small_pairs j n hn

def callsA : List Nd := [(8, 2, [108, 105, 98], [102]), (8, 0, [108, 105, 98], [103])]

theorem callsA_at (j : Nat) : callsA.getD j nd0 = (8, 2, [108, 105, 98], [102]) ∨ callsA.getD j nd0 = (8, 0, [108, 105, 98], [103]) ∨ callsA.getD j nd0 = nd0 := by
  match j with
  | 0 => exact Or.inl rfl
  | 1 => exact Or.inr (Or.inl rfl)
  | j + 2 => exact Or.inr (Or.inr (by simp [callsA, List.getD]))

theorem callsA_small (j : Nat) : SmallN (callsA.getD j nd0) ∧ kidsV (callsA.getD j nd0) ≤ 3 := by
  rcases callsA_at j with h | h | h <;> rw [h] <;> exact ⟨⟨⟨by decide, by decide⟩, by decide, by decide⟩, by decide⟩

def lenV : Value → Nat
  | .slice _ n _ => n
  | _ => 0

theorem own_capG {w : World} {base e size g n cp : Nat} {xs : List Value} (h : w.ownsRow base e size (.slice (some ⟨g, 0, none⟩) n cp) n xs) : n ≤ cp ∧ cp ≤ maxLen := by
  rcases h.2 with ⟨h', _⟩ | ⟨g', cap', cur, h', hb, hg, hnc, hcm, hcs, htake⟩
  · simp at h'
  · simp only [Value.slice.injEq, Option.some.injEq, Addr.mk.injEq, and_true, true_and] at h'
    obtain ⟨rfl, rfl⟩ := h'
    exact ⟨hnc, hcm⟩

theorem nodesV_pkg (ns : List Nd) (p : List UInt8) (h : 0 < ns.length) : (nodesV ns).set 2 (.string ⟨p.toArray⟩) = nodesV (ns.set 0 ((ns.getD 0 nd0).1, (ns.getD 0 nd0).2.1, p, (ns.getD 0 nd0).2.2.2)) := by
  cases ns with
  | nil => simp at h
  | cons n r => simp [nodesV]

/-- What a drawn list is, as the walk keeps it. -/
def Any6 (w wx : World) (B : Nat) (a : Option Addr) (len cap : Nat) (v : Value) : Prop :=
  ∃ ns : List Nd, wx.ownsRow w.heap.size 30 4 v ns.length (nodesV ns) ∧ ns.length ≤ 62 ∧ SmallT ns ∧ EndsOk ns ∧ Cur wx B a len cap ∧ w.grownBy wx (some B)

set_option maxHeartbeats 4000000 in
set_option maxRecDepth 100000 in
theorem drawAny6 (w : World) (B : Nat) (a : Option Addr) (len cap : Nat) (hc : Cur w B a len cap) :
    Calls Try.prog 64 #[.pointer (some ⟨B, 0, none⟩)] w fun e w' => ∃ v, e = .returned v ∧ Any6 w w' B a len cap v := by
  have hBw := hc.lt
  have hlit := World.ownsRow_lit (base := w.heap.size) (e := 30) (size := 4) w #[.int .i64 8, .int .i64 2, .string ⟨#[108, 105, 98]⟩, .string ⟨#[102]⟩, .int .i64 8, .int .i64 0, .string ⟨#[108, 105, 98]⟩, .string ⟨#[103]⟩] 2 (Nat.le_refl _) (by decide) rfl
  obtain ⟨_, a0, c0, he0, hin0⟩ := own_nodes (ns := callsA) hlit
  have hc0 := hc.kept (World.grownBy_alloc w (.cells #[.int .i64 8, .int .i64 2, .string ⟨#[108, 105, 98]⟩, .string ⟨#[102]⟩, .int .i64 8, .int .i64 0, .string ⟨#[108, 105, 98]⟩, .string ⟨#[103]⟩] 30) none) (by simp)
  have hg0 := World.grownBy_alloc w (.cells #[.int .i64 8, .int .i64 2, .string ⟨#[108, 105, 98]⟩, .string ⟨#[102]⟩, .int .i64 8, .int .i64 0, .string ⟨#[108, 105, 98]⟩, .string ⟨#[103]⟩] 30) (some B)
  obtain ⟨rfl, rfl⟩ : a0 = some ⟨w.heap.size, 0, none⟩ ∧ c0 = 2 := by
    simp only [Value.slice.injEq, true_and] at he0
    exact ⟨he0.1.symm, he0.2.symm⟩
  have hT : Hid (_) := drawTreeOk _ B a len cap 3 (some ⟨w.heap.size, 0, none⟩) 2 2 callsA (by omega) (by omega) hc0 hin0 (by omega) (fun j => (callsA_small j).1) (fun j => (callsA_small j).2) (fun b off e => by simp only [Option.some.injEq, Addr.mk.injEq, and_true] at e; omega)
  clear hlit hin0 he0 hc hc0
  go_enter Try.func64, Try.ntmps64
  go_wp2_with fail
  refine Calls.mono hT.out ?_
  rintro e w2 ⟨v2, ns, rfl, hown2, htr, hs2, hc2, hg2⟩
  have hG2 := hg0.trans hg2
  have hown3 := own_base hown2 hg0.size
  obtain ⟨⟨ht1, ht2⟩, _⟩ := tree_end htr
  have HTR : Hid (treeB ns = true) := htr
  clear hT hg0 hg2 hown2 htr
  go_wp2_with fail
  refine (drawOnce _ B a len cap 6 (by omega) (by omega) hc2).mono ?_
  rintro e w4 ⟨b4, rfl, hc4, hg4⟩
  have hvl := own_ge hown3
  have hown4 := hown3.kept hg4 (own_ne4 (fun q e1 e2 => by have := hvl q e1; omega))
  have hG4 := hG2.trans hg4
  clear hown3 hc2 hG2 hg4
  go_upto_if 10 with fail
  go_cut [3] from 4 (fun v wx => Hid (Any6 w wx B a len cap v))
  case first =>
    rcases b4 with _ | _
    · go_wp2_with fail
      go_meet
      case rel => exact ⟨ns, hown4, by omega, hs2, ends_len ht2, hc4, hG4⟩
    · go_wp2_with fail
      refine (drawBelow _ B a len cap 4 (by omega) (by omega) hc4).mono ?_
      rintro e w5 ⟨x5, rfl, h50, h51, hc5, hg5⟩
      have hown5 := hown4.kept hg5 (own_ne4 (fun q e1 e2 => by have := hvl q e1; omega))
      have hG5 := hG4.trans hg5
      obtain ⟨g, cp, rfl⟩ := own_some hown5 (by omega)
      have hgl : w.heap.size ≤ g := hvl g rfl
      clear hown4 hc4 hG4 hg5
      rcases (show x5 = 0 ∨ x5 = 1 ∨ x5 = 2 ∨ x5 = 3 by omega) with rfl | rfl | rfl | rfl
      · obtain ⟨v6, w6, hrun, hown6, hg6⟩ := push_nodes w5 w.heap.size _ ns [ndNum] #[.int .i64 1, .int .i64 0, .string ⟨#[]⟩, .string ⟨#[]⟩] rfl hown5 hG5.size (by simp; omega)
        go_wp2_with (at_builtin; refine wpList_append_run rfl (.tmp 15) (.tmp 17) 24 rfl _ _ _ rfl rfl hrun ?_; clear hrun)
        go_meet
        case rel => exact ⟨ns ++ [ndNum], hown6, by simp; omega, small_app hs2 small_num, ends_snoc HTR.out _, hc5.kept hg6 (fun q e => by have := hvl q e; omega), hG5.andThen hg6 (fun q e => Or.inl (hvl q e))⟩
      · have hown6 := own_takeN hown5 rfl (ns.length - 1) (by omega)
        obtain ⟨hcp, _⟩ := own_capG hown5
        have hlc : ((ns.length : Int) - 1).toNat = ns.length - 1 := by omega
        go_wp2_with fail
        go_meet
        case rel => exact ⟨ns.take (ns.length - 1), by simpa [hlc] using hown6, by rw [List.length_take]; omega, small_take hs2 _, ends_len (by rw [List.length_take]; omega), hc5, hG5⟩
      · go_wp2_with fail
        refine (drawFromG _ B a len cap (-1) 11 (by omega) (by omega) (by omega) hc5).mono ?_
        rintro e w6 ⟨x6, rfl, h60, h61, hc6, hg6⟩
        have hown6 := hown5.kept hg6 (own_ne4 (fun q e1 e2 => by have := hvl q e1; omega))
        have hG6 := hG5.trans hg6
        clear hown5 hc5 hG5 hg6
        go_wp2_with fail
        refine (drawFromG _ B a len cap (-1) 5 (by omega) (by omega) (by omega) hc6).mono ?_
        rintro e w7 ⟨x7, rfl, h70, h71, hc7, hg7⟩
        have hown7 := hown6.kept hg7 (own_ne4 (fun q e1 e2 => by have := hvl q e1; omega))
        have hG7 := hG6.trans hg7
        clear hown6 hc6 hG6 hg7
        have hset := ((((hown7.stored 0 (.int .i64 x6)).1.stored 1 (.int .i64 x7)).1.stored 2 (.string ⟨#[]⟩)).1.stored 3 (.string ⟨#[]⟩)).1
        have hsv := nodesV_set ns 0 x6 x7 [] []
        simp only [Nat.zero_mul, Nat.zero_add] at hsv
        rw [hsv] at hset
        have c0 := hown7.cellAt 0 (by omega)
        have c1 := hown7.cellAt 1 (by omega)
        have c2 := hown7.cellAt 2 (by omega)
        have c3 := hown7.cellAt 3 (by omega)
        obtain ⟨v0, v1, v2, v3⟩ := nodesV_at ns 0 (by omega)
        simp only [Nat.zero_mul, Nat.zero_add] at v0 v1 v2 v3
        rw [v0] at c0
        rw [v1] at c1
        rw [v2] at c2
        rw [v3] at c3
        have f0 := hown7.frozenAt 0
        have f1 := hown7.frozenAt 1
        have f2 := hown7.frozenAt 2
        have f3 := hown7.frozenAt 3
        have hgg := grown_set4 w7 g (.int .i64 x6) (.int .i64 x7) (.string ⟨#[]⟩) (.string ⟨#[]⟩)
        clear hsv v0 v1 v2 v3 hown7
        go_wp2_with fail
        go_meet
        case rel => exact ⟨ns.set 0 (x6, x7, [], []), by rw [List.length_set]; exact hset, by rw [List.length_set]; omega, small_set hs2 ⟨⟨⟨by simp only; omega, by simp only; omega⟩, ⟨by simp only; omega, by simp only; omega⟩⟩, by simp, by simp⟩ 0, ends_len (by rw [List.length_set]; omega), hc7.kept hgg (by simp; omega), hG7.andThen hgg (fun q e => Or.inl (by simp at e; omega))⟩
      · have hset := (hown5.stored 2 (.string ⟨#[120]⟩)).1
        have hsv := nodesV_pkg ns [120] (by omega)
        rw [hsv] at hset
        have c2 := hown5.cellAt 2 (by omega)
        obtain ⟨_, _, v2, _⟩ := nodesV_at ns 0 (by omega)
        simp only [Nat.zero_mul, Nat.zero_add] at v2
        rw [v2] at c2
        have f2 := hown5.frozenAt 2
        have hgg := grown_setCell w5 g 2 (.string ⟨#[120]⟩)
        clear hsv v2 hown5
        go_wp2_with fail
        go_meet
        case rel => exact ⟨ns.set 0 ((ns.getD 0 nd0).1, (ns.getD 0 nd0).2.1, [120], (ns.getD 0 nd0).2.2.2), by rw [List.length_set]; exact hset, by rw [List.length_set]; omega, small_set hs2 (n := ((ns.getD 0 nd0).1, (ns.getD 0 nd0).2.1, [120], (ns.getD 0 nd0).2.2.2)) ⟨(small_at hs2 0).1, by simp, (small_at hs2 0).2.2⟩ 0, ends_len (by rw [List.length_set]; omega), hc5.kept hgg (by simp; omega), hG5.andThen hgg (fun q e => Or.inl (by simp at e; omega))⟩
  case rest =>
    clear hown4 hc4 hG4 hs2 HTR hvl ht1 ht2
    obtain ⟨ns1, hown, hl1, hs1, he1, hc1, hG1⟩ := hcut.out
    go_wp2_with fail
    refine (drawOnce _ B a len cap 40 (by omega) (by omega) hc1).mono ?_
    rintro e w8 ⟨b8, rfl, hc8, hg8⟩
    have hvl := own_ge hown
    have hown8 := hown.kept hg8 (own_ne4 (fun q e1 e2 => by have := hvl q e1; omega))
    have hG8 := hG1.trans hg8
    clear hown hc1 hG1 hg8 hcut
    rcases b8 with _ | _
    · go_wp2
      go_ret
      exact ⟨_, rfl, ns1, hown8, hl1, hs1, he1, hc8, hG8⟩
    · clear hown8 hs1 he1 hl1 hvl
      have hownE := World.ownsRow_lit (base := w.heap.size) (e := 30) (size := 4) w8 #[] 0 hG8.size (by decide) rfl
      have hcE := hc8.kept (World.grownBy_alloc w8 (.cells #[] 30) none) (by simp)
      have hGE := hG8.trans (World.grownBy_alloc w8 (.cells #[] 30) (some B))
      go_wp2
      go_loopw [3] (fun v wr => ∃ (j : Nat) (av : Option Addr) (cv : Nat), v = .slice av (2 * j) cv ∧ j ≤ 31 ∧ Hid (wr.ownsRow w.heap.size 30 4 v (pairsL j).length (nodesV (pairsL j))) ∧ Hid (Cur wr B a len cap) ∧ Hid (w.grownBy wr (some B))) (fun v _ => 64 - lenV v)
      case atStart => exact ⟨0, _, _, rfl, by omega, hownE, hcE, hGE⟩
      case round =>
        obtain ⟨j, av, cv, rfl, hj, HV, hcr, hGr⟩ := hrel
        clear hownE hcE hGE hc8 hG8
        have hvl := own_ge HV.out
        go_wp2_with fail
        refine (drawBelow _ B a len cap 2 (by omega) (by omega) hcr.out).mono ?_
        rintro e w9 ⟨x9, rfl, h90, h91, hc9, hg9⟩
        have hown9 := HV.out.kept hg9 (own_ne4 (fun q e1 e2 => by have := hvl q e1; omega))
        have hG9 := hGr.out.trans hg9
        clear HV hcr hGr hg9
        by_cases hlt : ((2 * j : Nat) : Int) < 59 + 2 * x9
        · obtain ⟨v6, w6, hrun, hown6, hg6⟩ := push_nodes w9 w.heap.size _ (pairsL j) [ndAdd, ndNum] #[.int .i64 3, .int .i64 0, .string ⟨#[]⟩, .string ⟨#[]⟩, .int .i64 1, .int .i64 0, .string ⟨#[]⟩, .string ⟨#[]⟩] rfl hown9 hG9.size (by rw [pairs_len]; simp; omega)
          rw [pairs_snoc] at hown6
          obtain ⟨_, a6, c6, rfl, _⟩ := own_nodes hown6
          have hl6 : (pairsL (j + 1)).length = 2 * (j + 1) := pairs_len (j + 1)
          have HO : Hid (w6.ownsRow w.heap.size 30 4 (.slice a6 (2 * (j + 1)) c6) (pairsL (j + 1)).length (nodesV (pairsL (j + 1)))) := by exact (by rw [← hl6]; exact hown6 : w6.ownsRow w.heap.size 30 4 (.slice a6 (2 * (j + 1)) c6) (pairsL (j + 1)).length (nodesV (pairsL (j + 1))))
          have hc6 : Hid (Cur w6 B a len cap) := hc9.kept hg6 (fun q e => by have := hvl q e; omega)
          have hG6 : Hid (w.grownBy w6 (some B)) := hG9.andThen hg6 (fun q e => Or.inl (hvl q e))
          rw [hl6] at hrun
          clear hown6 hg6 hown9 hc9 hG9 hvl hl6
          go_wp2_with (at_builtin; refine wpList_append_run rfl (.tmp 50) (.tmp 53) 24 rfl _ _ _ rfl rfl hrun ?_; clear hrun)
          go_roundw
          case rel => exact ⟨j + 1, a6, c6, rfl, by omega, HO, hc6, hG6⟩
          case measure => simp [lenV]; omega
        · obtain ⟨i, rfl⟩ : ∃ i, j = i + 1 := ⟨j - 1, by omega⟩
          obtain ⟨g, cp, hgf⟩ := own_some hown9 (by rw [pairs_len]; omega)
          rw [pairs_len] at hgf
          simp only [Value.slice.injEq] at hgf
          obtain ⟨rfl, _, rfl⟩ := hgf
          rw [show (pairsL (i + 1)).length = 2 * (i + 1) from pairs_len _] at hown9
          obtain ⟨hcp, _⟩ := own_capG hown9
          have hown5 := own_takeN hown9 (pairs_len _) (2 * i + 1) (by omega)
          obtain ⟨v6, w6, hrun, hown6, hg6⟩ := push_nodes w9 w.heap.size _ _ [ndNum] #[.int .i64 1, .int .i64 0, .string ⟨#[]⟩, .string ⟨#[]⟩] rfl hown5 hG9.size (by rw [List.length_take, pairs_len]; simp; omega)
          rw [pairs_cut] at hown6
          have hlc : (((2 * (i + 1) : Nat) : Int) - 1).toNat = 2 * i + 1 := by omega
          have hc6 : Cur w6 B a len cap := hc9.kept hg6 (fun q e => by have := hvl q e; omega)
          have hG6 : w.grownBy w6 (some B) := hG9.andThen hg6 (fun q e => Or.inl (hvl q e))
          clear hown5 hown9 hg6 hc9 hG9
          go_wp2_with (at_builtin; refine wpList_append_run rfl (.tmp 59) (.tmp 61) 24 rfl _ _ _ (by first | rfl | simp [hlc]) rfl hrun ?_; clear hrun)
          go_ret
          exact ⟨_, rfl, pairsL (i + 1), hown6, by rw [pairs_len]; omega, small_pairs _, ends_pairs _, hc6, hG6⟩

end Go.Proofs.Ytnpbckgaeaameaa

/-! The contracts of DrawTreeOk, DrawShowTree, DrawEndOf, DrawPartsOf, DrawReadTree. -/
namespace Go.Proofs.Ytnpbckgaeaameaa
open Go.RowKit

/-- A drawn list, as a law has it. -/
def Drawn6 (w wx : World) (v : Value) (ns : List Nd) : Prop := wx.ownsRow w.heap.size 30 4 v ns.length (nodesV ns) ∧ ns.length ≤ 62 ∧ SmallT ns ∧ EndsOk ns

theorem showT_len {ns : List Nd} : (showT ns).length ≤ 1860 := by
  unfold showT
  split
  · rename_i h
    have h1 := showL_len ns (tree_nodes h)
    have h2 := (tree_end h).1.2
    omega
  · simp



set_option maxHeartbeats 1000000 in
set_option maxRecDepth 100000 in
theorem drawEndOf (w : World) (a : Option Addr) (len cap : Nat) (hl : len ≤ 4096) (hc : Code w w.heap.size a len) :
    Calls Try.prog 36 #[.slice a len cap] w fun e w' => ∃ v ns x, e = .returned (.tuple #[v, .int .i64 x]) ∧ Drawn6 w w' v ns ∧ -1 ≤ x ∧ x ≤ 10 ∧ Below w.heap.size w w' := by
  go_enter Try.func36, Try.ntmps36
  go_wp2_with fail
  refine (drawNew _ a len cap hl hc).mono ?_
  rintro e w1 ⟨rfl, hc1, hg1⟩
  have hb1 : Below w.heap.size w w1 := (Below.refl _ _).grown hg1 (Nat.le_refl _) (by simp)
  have hs1 := hc1.lt
  clear hg1
  go_wp2_with fail
  refine (drawAny6 _ _ a len cap hc1).mono ?_
  rintro e w2 ⟨v, rfl, ns, hown, hl2, hs, he, hc2, hg2⟩
  have hvl := own_ge hown
  have hb2 : Below w.heap.size w w2 := hb1.grown hg2 hb1.size (by simp)
  clear hc1 hg2
  go_wp2_with fail
  refine (drawFromG _ _ a len cap (-1) 10 (by omega) (by omega) (by omega) hc2).mono ?_
  rintro e w5 ⟨x5, rfl, hx50, hx51, hc5, hg5⟩
  have hown5 : w5.ownsRow w1.heap.size 30 4 v ns.length (nodesV ns) := hown.kept hg5 (own_ne4 (fun q e1 e2 => by have := hvl q e1; omega))
  have hb5 : Below w.heap.size w w5 := hb2.grown hg5 hb2.size (by simp)
  have hD : Hid (Drawn6 w w5 v ns) := ⟨own_base hown5 hb1.size, hl2, hs, he⟩
  clear hown hown5 hg5 hc2 hc5 hb2
  go_wp2
  go_ret2
  exact ⟨v, ns, x5, rfl, hD.out, hx50, hx51, hb5⟩



end Go.Proofs.Ytnpbckgaeaameaa

/-! The contracts of chapter 6's specification: l6Parts, PartsOf. -/
namespace Go.Proofs.Ytnpbckgaeaameaa
open Go.RowKit

/-- What a row of numbers holds. -/
def intsV (l : List Int) : List Value := l.map (fun i => Value.int .i64 i)
theorem intsV_len (l : List Int) : (intsV l).length = l.length := by simp [intsV]
theorem intsV_append (x y : List Int) : intsV (x ++ y) = intsV x ++ intsV y := by simp [intsV]
theorem intsV_one (l : List Int) : ∀ u ∈ intsV l, u.oneCell' = true := by
  intro u hu
  simp only [intsV, List.mem_map] at hu
  obtain ⟨i, _, rfl⟩ := hu
  rfl
theorem infoInt : (Try.prog.info? 2).map (fun i => (i.zero, i.size, i.bytes)) = some (some (.int .i64 0), 1, 8) := by kernel_rfl

theorem new_int (w : World) (n : Int) : ∀ j u, (intsV [n])[j]? = some u → (w.alloc (.cells #[.int .i64 n] 2)).cell? ((⟨w.heap.size, 0, none⟩ : Addr).add j) = some u := by
  intro j u hu
  have e : (⟨w.heap.size, 0, none⟩ : Addr).add j = ⟨w.heap.size, j, none⟩ := by unfold Addr.add; split <;> simp_all
  rw [e]
  match j, hu with
  | 0, hu => simp [intsV] at hu; subst hu; simp
  | j + 1, hu => simp [intsV] at hu

theorem endV_le (l : List Nd) (a : Int) : -1 ≤ endV l a ∧ endV l a ≤ l.length := by
  by_cases h : 0 ≤ endV l a
  · by_cases ha : a < 0 ∨ (l.length : Int) ≤ a
    · rw [endV_out l a ha] at h; omega
    · obtain ⟨k, rfl⟩ : ∃ k : Nat, a = (k : Int) := Int.eq_ofNat_of_zero_le (by omega)
      have := end_parts h
      omega
  · by_cases ha : a < 0 ∨ (l.length : Int) ≤ a
    · rw [endV_out l a ha]; omega
    · obtain ⟨k, rfl⟩ : ∃ k : Nat, a = (k : Int) := Int.eq_ofNat_of_zero_le (by omega)
      rw [endV_nat] at h ⊢
      unfold endN at h ⊢
      rw [if_pos (by omega)] at h ⊢
      cases he : endGo (l.drop k) 1 with
      | none => simp only; omega
      | some d => rw [he] at h; simp only at h; omega

set_option maxHeartbeats 2000000 in
set_option maxRecDepth 100000 in
theorem specParts (a : Option Addr) (cap : Nat) (ns : List Nd) (k0 : Nat) (w : World) (hin : NodesIn w a ns.length ns) (hsh : ShortT ns) (hlen : ns.length ≤ 1048576) (hk0 : k0 < ns.length) (hnb : nodeB (ns.getD k0 nd0) = true) :
    Calls Try.prog 44 #[.slice a ns.length cap, .int .i64 k0] w fun e w' => ∃ v, e = .returned v ∧ w'.ownsRow w.heap.size 2 1 v (kidsN (ns.getD k0 nd0)) (intsV (partsGo ns (kidsN (ns.getD k0 nd0)) ((k0 : Int) + 1))) ∧ Below w.heap.size w w' := by
  have hown0 := (World.ownsRow_lit (base := w.heap.size) (e := 2) (size := 1) w #[] 0 (Nat.le_refl _) (by decide) rfl)
  obtain ⟨i0, hi, hz0, hz1, hz2⟩ := info_parts infoInt
  obtain ⟨b, off, rfl, hbl, hcells⟩ := hin.at (by omega)
  obtain ⟨c0, c1, c2, c3⟩ := hcells k0 hk0
  obtain ⟨n, hn⟩ : ∃ n, ns.getD k0 nd0 = n := ⟨_, rfl⟩
  rw [hn] at c0 c1 c2 c3 hnb ⊢
  have HK : Hid (_) := fun W : World => specKids n W
  obtain ⟨hk1, hk3⟩ := @kidsV_ok n hnb
  have HI : Hid (NodesIn w (some ⟨b, off, none⟩) ns.length ns) := hin
  have HE : Hid (_) := fun (j : Int) (W : World) (h : NodesIn W (some ⟨b, off, none⟩) ns.length ns) => specEndOf (some ⟨b, off, none⟩) ns.length cap ns j W h hsh hlen
  have hk0i : (k0 : Int) < 1048576 := by omega
  obtain ⟨kd, aa, p, f⟩ := n
  unfold nodeVal at HK
  simp only at c0 c1 c2 c3 HK
  clear hn hcells hin hsh hnb
  go_enter Try.func44, Try.ntmps44
  go_wp2_with fail
  refine Calls.mono (HK.out _) ?_
  rintro e w1 ⟨rfl, hb1⟩
  rw [hk1]
  obtain ⟨q, hq⟩ : ∃ q, kidsN (kd, aa, p, f) = q := ⟨_, rfl⟩
  rw [hq] at hk3 ⊢
  have HQ : Hid (kidsN (kd, aa, p, f) = q) := hq
  have hB1 := below_boxed hb1
  have hown1 := own_below hown0 hb1
  clear hk1 hq hb1 hown0 HK c0 c1 c2 c3
  go_wp2
  go_loopw [5, 6, 7] (fun v nx kv wr => ∃ (ds : List Int) (r : Nat) (t : Int), kv = .int .i64 r ∧ nx = .int .i64 t ∧ ds.length + r = q ∧ -1 ≤ t ∧ t ≤ 1048576 ∧ Hid (ds ++ partsGo ns r t = partsGo ns q ((k0 : Int) + 1)) ∧ Hid (wr.ownsRow w.heap.size 2 1 v ds.length (intsV ds)) ∧ Below w.heap.size w wr) (fun _ _ kv _ => (intOf kv).toNat)
  case atStart => exact ⟨[], q, (k0 : Int) + 1, rfl, by go_num, by simp, by omega, by omega, (rfl : [] ++ partsGo ns q ((k0 : Int) + 1) = _), hown1, hB1⟩
  case round =>
    obtain ⟨ds, r, t, rfl, rfl, hr, ht0, ht1, HP, HV, hb⟩ := hrel
    clear hown1 hB1
    by_cases hrz : r = 0
    · subst hrz
      have HF : Hid (ds = partsGo ns q ((k0 : Int) + 1) ∧ ds.length = q) := by
        have h := HP.out
        rw [partsGo, List.append_nil] at h
        exact (⟨h, by omega⟩ : ds = partsGo ns q ((k0 : Int) + 1) ∧ ds.length = q)
      go_wp2
      go_ret
      exact ⟨_, rfl, by rw [HQ.out, ← HF.out.1, ← HF.out.2]; exact HV.out, hb⟩
    · obtain ⟨r', rfl⟩ : ∃ r', r = r' + 1 := ⟨r - 1, by omega⟩
      have hr1 : (0 : Int) < ((r' + 1 : Nat) : Int) := by omega
      have hnc := new_int wr t
      have hV := HV.out
      have hB0 := hb
      clear hrz HV
      go_wp2_with (at_builtin; refine wpList_append_own_at _ rfl _ _ 31 rfl w.heap.size 2 i0 _ 1 8 Try.underlying31 hi hz0 hz1 hz2 rfl (by decide) _ _ _ rfl (hV.alloc _) ⟨wr.heap.size, 0, none⟩ 1 1 (intsV [t]) rfl rfl ?c1 ?c2 ?c3 ?c4 ?c5 ?_)
      first | (case c1 => exact hnc) | skip
      first | (case c2 => exact intsV_one _) | skip
      first | (case c3 => unfold maxLen; omega) | skip
      first | (case c4 => omega) | skip
      first | (case c5 => have := hB0.size; simp; try omega) | skip
      intro v' w3 hown3 hgrow3 hnil3 hat3
      have HV3 : Hid (w3.ownsRow w.heap.size 2 1 v' (ds ++ [t]).length (intsV (ds ++ [t]))) := by
        exact (by rw [intsV_append, List.length_append]; exact hown3 : w3.ownsRow w.heap.size 2 1 v' (ds ++ [t]).length (intsV (ds ++ [t])))
      have hb3 : Below w.heap.size w w3 := (hB0.alloc hB0.size _).grown hgrow3 (by have := hB0.size; simp; omega) (fun q e => (hV.lt q e).1)
      clear hown3 hgrow3 hnil3 hat3 hV hB0 hnc hb
      have HP2 : Hid ((ds ++ [t]) ++ partsGo ns r' (endV ns t) = partsGo ns q ((k0 : Int) + 1)) := by
        exact (by rw [← HP.out, partsGo, List.append_assoc]; rfl : (ds ++ [t]) ++ partsGo ns r' (endV ns t) = partsGo ns q ((k0 : Int) + 1))
      have he := endV_le ns t
      go_wp2_with fail
      refine Calls.mono (HE.out t _ (HI.out.below hb3)) ?_
      rintro e w4 ⟨rfl, hb4⟩
      have hB4 := hb3.trans (hb4.mono hb3.size)
      have HV4 : Hid (w4.ownsRow w.heap.size 2 1 v' (ds ++ [t]).length (intsV (ds ++ [t]))) := own_below HV3.out hb4
      obtain ⟨t', htt⟩ : ∃ t', endV ns t = t' := ⟨_, rfl⟩
      rw [htt] at HP2 he ⊢
      have hdl : (ds ++ [t]).length + r' = q := by simp; omega
      clear htt hb4 hb3 HV3 HP
      go_wp2
      go_roundw
      case rel => exact ⟨ds ++ [t], r', t', by go_num, rfl, hdl, by omega, by omega, HP2, HV4, hB4⟩
      case measure => simp [intOf]

set_option maxHeartbeats 2000000 in
set_option maxRecDepth 100000 in
theorem specPartsOf (a : Option Addr) (len cap : Nat) (ns : List Nd) (at_ : Int) (w : World) (hin : NodesIn w a len ns) (hsh : ShortT ns) (hlen : len ≤ 1048576) :
    Calls Try.prog 14 #[.slice a len cap, .int .i64 at_] w fun e w' => ∃ v, e = .returned v ∧ w'.ownsRow w.heap.size 2 1 v (partsV ns at_).length (intsV (partsV ns at_)) ∧ Below w.heap.size w w' := by
  obtain rfl : ns.length = len := hin.1
  have HE : Hid (_) := specEndOf a ns.length cap ns at_ w hin hsh hlen
  have HI : Hid (NodesIn w a ns.length ns) := hin
  by_cases hneg : endV ns at_ < 0
  · have HP : Hid (partsV ns at_ = []) := by exact (by unfold partsV; rw [if_pos hneg] : partsV ns at_ = [])
    clear hin
    go_enter Try.func14, Try.ntmps14
    go_wp2_with fail
    refine Calls.mono HE.out ?_
    rintro e w1 ⟨rfl, hb1⟩
    have hownE := (World.ownsRow_lit (base := w.heap.size) (e := 2) (size := 1) w1 #[] 0 hb1.size (by decide) rfl)
    go_wp2
    go_ret
    exact ⟨_, rfl, by rw [HP.out]; exact hownE, hb1.alloc hb1.size _⟩
  · have hin2 : ¬ (at_ < 0 ∨ (ns.length : Int) ≤ at_) := fun h => hneg (by rw [endV_out ns at_ h]; omega)
    obtain ⟨k, rfl⟩ : ∃ k : Nat, at_ = (k : Int) := Int.eq_ofNat_of_zero_le (by omega)
    obtain ⟨hk, hnb, _⟩ := end_parts (by omega : 0 ≤ endV ns (k : Int))
    have HP : Hid (partsV ns (k : Int) = partsGo ns (kidsN (ns.getD k nd0)) ((k : Int) + 1)) := by
      exact (by unfold partsV; rw [if_neg hneg]; rfl : partsV ns (k : Int) = partsGo ns (kidsN (ns.getD k nd0)) ((k : Int) + 1))
    have HC : Hid (_) := fun (W : World) (h : NodesIn W a ns.length ns) => specParts a cap ns k W h hsh hlen hk hnb
    obtain ⟨e, hee⟩ : ∃ e, endV ns (k : Int) = e := ⟨_, rfl⟩
    rw [hee] at HE hneg
    clear hin hin2 hee hnb
    go_enter Try.func14, Try.ntmps14
    go_wp2_with fail
    refine Calls.mono HE.out ?_
    rintro e w1 ⟨rfl, hb1⟩
    go_wp2_with fail
    refine Calls.mono (HC.out _ (HI.out.below hb1)) ?_
    rintro e w2 ⟨v, rfl, hown2, hb2⟩
    have hB2 := hb1.trans (hb2.mono hb1.size)
    have hown3 := own_base hown2 hb1.size
    go_wp2
    go_ret
    exact ⟨_, rfl, by rw [HP.out, partsGo_len]; exact hown3, hB2⟩

end Go.Proofs.Ytnpbckgaeaameaa

/-! The laws' own helpers over rows of numbers: eqInt64S, markInt64S, heldInt64S, likeInts. -/
namespace Go.Proofs.Ytnpbckgaeaameaa
open Go.RowKit

theorem intsV_at (l : List Int) (j : Nat) (h : j < l.length) : (intsV l)[j]? = some (.int .i64 l[j]) := by
  unfold intsV; rw [List.getElem?_map, List.getElem?_eq_getElem h]; rfl

/-- The marks from k on. -/
def marksI (k : Nat) : Nat → List Int
  | 0 => []
  | n + 1 => marksI k n ++ [((k + n : Nat) : Int)]
theorem marksI_len (k n : Nat) : (marksI k n).length = n := by
  induction n with
  | zero => rfl
  | succ n ih => simp [marksI, ih]
theorem marksI_at (k n j : Nat) (h : j < n) : (intsV (marksI k n))[j]? = some (.int .i64 ((k + j : Nat) : Int)) := by
  induction n with
  | zero => omega
  | succ n ih =>
    unfold marksI
    rw [intsV_append]
    by_cases hj : j < n
    · rw [List.getElem?_append_left (by rw [intsV_len, marksI_len]; exact hj)]; exact ih hj
    · obtain rfl : j = n := by omega
      rw [List.getElem?_append_right (by rw [intsV_len, marksI_len]; omega), intsV_len, marksI_len]
      simp [intsV]
theorem marksI_set (k i : Nat) (xs : List Value) (h : i < xs.length) : (intsV (marksI k i) ++ xs.drop i).set i (.int .i64 ((k + i : Nat) : Int)) = intsV (marksI k (i + 1)) ++ xs.drop (i + 1) := by
  rw [List.set_append, if_neg (by rw [intsV_len, marksI_len]; omega), intsV_len, marksI_len, Nat.sub_self]
  rw [List.drop_eq_getElem_cons h, List.set_cons_zero]
  conv => rhs; unfold marksI
  rw [intsV_append, List.append_assoc]; rfl





end Go.Proofs.Ytnpbckgaeaameaa

/-! The contracts of the exact laws' own helpers over lists of texts: eqStringS, markStringS, heldStringS, markText. -/
namespace Go.Proofs.Ytnpbckgaeaameaa
open Go.RowKit

/-- The digits of k ahead of acc. -/
def markGo : Nat → Nat → List UInt8 → List UInt8
  | 0, _, acc => acc
  | f + 1, k, acc => if k = 0 then acc else markGo f (k / 10) ((48 + UInt8.ofNat (k % 10)) :: acc)
def markL (k : Nat) : List UInt8 := 109 :: markGo k k []

theorem markGo_zero (f : Nat) (acc : List UInt8) : markGo f 0 acc = acc := by
  cases f with
  | zero => rfl
  | succ f => simp [markGo]

theorem markGo_step (f k : Nat) (acc : List UInt8) (h : k ≤ f) (hk : 0 < k) : ∃ f', k / 10 ≤ f' ∧ markGo f k acc = markGo f' (k / 10) ((48 + UInt8.ofNat (k % 10)) :: acc) := by
  obtain ⟨f', rfl⟩ : ∃ f', f = f' + 1 := ⟨f - 1, by omega⟩
  refine ⟨f', by omega, ?_⟩
  conv => lhs; unfold markGo
  rw [if_neg (by omega)]

theorem back1d (t : Int) (h2 : 0 ≤ t) (h3 : t ≤ 255) (W : World) :
    (convert 22 9 (.slice (some ⟨W.heap.size, 0, none⟩) 1 1)).run Try.prog (W.alloc (.cells #[.int .u8 t] 5)) = .ok (.string ⟨[UInt8.ofNat t.toNat].toArray⟩) (W.alloc (.cells #[.int .u8 t] 5)) := by
  have ht : ((UInt8.ofNat t.toNat).toNat : Int) = t := by
    rw [UInt8.toNat_ofNat']; omega
  have h := run_convert_bytes_back (P := Try.prog) (W.alloc (.cells #[.int .u8 t] 5)) 22 9 5 ⟨W.heap.size, 0, none⟩ 1 [UInt8.ofNat t.toNat] Try.underlying22 Try.underlying5 Try.underlying9 (by
    intro j hj
    have hj' : j < 1 := by simpa using hj
    match j, hj' with
    | 0, _ => simp only [List.getElem_cons_zero, ht]; simp [Addr.add, go_sem])
  exact h

set_option maxHeartbeats 1000000 in
set_option maxRecDepth 100000 in
theorem markTextC (k : Nat) (w : World) (h0 : 0 < k) (h1 : k ≤ 40000000) :
    Calls Try.prog 60 #[.int .i64 k] w fun e w' => e = .returned (.string ⟨(markL k).toArray⟩) ∧ w.grownBy w' none := by
  have hcat := cat_list
  go_enter Try.func60, Try.ntmps60
  go_wp2_with fail
  go_loopw [0, 3] (fun i v wr => ∃ f m : Nat, ∃ o : List UInt8, m ≤ f ∧ m ≤ k ∧ o.length + m ≤ k ∧ i = .int .i64 m ∧ v = .string ⟨o.toArray⟩ ∧ markGo f m o = markGo k k [] ∧ w.grownBy wr none) (fun i _ _ => (intOf i).toNat)
  case atStart => exact ⟨k, k, [], Nat.le_refl _, Nat.le_refl _, by simp, rfl, rfl, rfl, World.grownBy.refl _ _⟩
  case round =>
    obtain ⟨f, m, o, hf, hm, hol, rfl, rfl, hgo, hg⟩ := hrel
    by_cases hlt : 0 < m
    · obtain ⟨f', hf', hst⟩ := markGo_step f m o hf hlt
      have HS : Hid (markGo f' (m / 10) ((48 + UInt8.ofNat (m % 10)) :: o) = markGo k k []) := by
        have := hst.symm.trans hgo
        exact this
      clear hst hgo
      have hbk := back1d (48 + (m : Int) % 10) (by omega) (by omega)
      go_wp2
      go_roundw
      case rel =>
        exact ⟨f', m / 10, (48 + UInt8.ofNat (m % 10)) :: o, hf', by omega, by rw [List.length_cons]; omega, by go_num, rfl, HS.out, hg.trans (World.grownBy_alloc _ _ _)⟩
      case measure => simp [intOf]; omega
    · obtain rfl : m = 0 := by omega
      have HE : Hid (o = markGo k k []) := (markGo_zero f o).symm.trans hgo
      go_wp2
      go_ret
      exact ⟨ret_strl (by unfold markL; rw [← HE.out]), hg⟩

end Go.Proofs.Ytnpbckgaeaameaa

/-! The contracts of the exact laws' own helpers over lists of texts: eqStringS, markStringS, heldStringS. -/
namespace Go.Proofs.Ytnpbckgaeaameaa
open Go.RowKit


/-- The marks from k on. -/
def marksV (k : Nat) : Nat → List Value
  | 0 => []
  | n + 1 => marksV k n ++ [.string ⟨(markL (k + n)).toArray⟩]

theorem marksV_len (k n : Nat) : (marksV k n).length = n := by
  induction n with
  | zero => rfl
  | succ n ih => simp [marksV, ih]

theorem marksV_at (k n j : Nat) (h : j < n) : (marksV k n)[j]? = some (.string ⟨(markL (k + j)).toArray⟩) := by
  induction n with
  | zero => omega
  | succ n ih =>
    unfold marksV
    by_cases hj : j < n
    · rw [List.getElem?_append_left (by rw [marksV_len]; exact hj)]; exact ih hj
    · obtain rfl : j = n := by omega
      rw [List.getElem?_append_right (by rw [marksV_len]; omega), marksV_len]
      simp

theorem marks_set (k i : Nat) (xs : List Value) (h : i < xs.length) : (marksV k i ++ xs.drop i).set i (.string ⟨(markL (k + i)).toArray⟩) = marksV k (i + 1) ++ xs.drop (i + 1) := by
  rw [List.set_append, if_neg (by rw [marksV_len]; omega), marksV_len, Nat.sub_self]
  rw [List.drop_eq_getElem_cons h, List.set_cons_zero]
  conv => rhs; unfold marksV
  rw [List.append_assoc]; rfl



end Go.Proofs.Ytnpbckgaeaameaa

/-! The helpers over lists of texts, whatever the list's value: nil, empty or not. -/
namespace Go.Proofs.Ytnpbckgaeaameaa
open Go.RowKit




end Go.Proofs.Ytnpbckgaeaameaa

/-! A list of texts that came in, as the walks take it; the exact laws' helpers over such lists: szStringS, toStringS. -/
namespace Go.Proofs.Ytnpbckgaeaameaa
open Go.ChangeShapes Go.WideShapes Go.ChangeAt Go.RowKit


def szT (m n : Nat) (left : Int) : Int := if (m : Int) + (n : Int) ≤ left then left - (m : Int) - (n : Int) else -1
theorem szT_yes {m n : Nat} {left : Int} (h : (m : Int) + (n : Int) ≤ left) : szT m n left = left - (m : Int) - (n : Int) := by unfold szT; rw [if_pos h]
theorem szT_no {m n : Nat} {left : Int} (h : ¬ (m : Int) + (n : Int) ≤ left) : szT m n left = -1 := by unfold szT; rw [if_neg h]

/-- How many bytes in all. -/
def joinN (ts : List (List UInt8)) : Nat := ts.flatten.length

theorem joinN_snoc (ts : List (List UInt8)) (k : Nat) (hk : k < ts.length) : joinN (ts.take (k + 1)) = joinN (ts.take k) + (ts.getD k []).length := by
  have := congrArg List.length (flat_snoc ts k hk)
  rw [List.length_append] at this
  exact this

theorem joinN_take (ts : List (List UInt8)) (k : Nat) : joinN (ts.take k) ≤ joinN ts := flat_take ts k


theorem made_texts (n : Nat) : (madeCells (Value.cells (.string ⟨#[]⟩)) (n * 1)).toList = strV (List.replicate n []) := by
  have hc : Value.cells (.string ⟨#[]⟩) = #[.string ⟨#[]⟩] := rfl
  rw [hc, Nat.mul_one]
  apply List.ext_getElem?
  intro j
  by_cases hj : j < n
  · rw [strV_at _ j (by simpa using hj)]
    simp [madeCells, hj, Nat.mod_one]
  · rw [List.getElem?_eq_none (by simp [madeCells]; omega), List.getElem?_eq_none (by rw [strV_len]; simp; omega)]

theorem fill_text (ts : List (List UInt8)) (k : Nat) (hk : k < ts.length) : (strV (ts.take k ++ List.replicate (ts.length - k) [])).set k (.string ⟨(ts.getD k []).toArray⟩) = strV (ts.take (k + 1) ++ List.replicate (ts.length - (k + 1)) []) := by
  have hg : ts.getD k [] = ts[k] := by simp [List.getD, hk]
  have e : (ts.take k ++ List.replicate (ts.length - k) []).set k ts[k] = ts.take (k + 1) ++ List.replicate (ts.length - (k + 1)) [] := by
    rw [List.set_append_right _ _ (by rw [List.length_take]; omega), List.length_take, Nat.min_eq_left (by omega), Nat.sub_self, show ts.length - k = (ts.length - (k + 1)) + 1 by omega, List.replicate_succ, List.set_cons_zero, List.take_succ_eq_append_getElem hk, List.append_assoc]
    rfl
  rw [hg, ← e]
  unfold strV
  rw [List.map_set]


end Go.Proofs.Ytnpbckgaeaameaa

/-! Numbers that came in, as the walks of chapter 10's laws take them; the exact laws' helper over such rows: toInt64S. -/
namespace Go.Proofs.Ytnpbckgaeaameaa
open Go.ChangeShapes Go.WideShapes Go.ChangeAt Go.RowKit

/-- Numbers that can be read. -/
def AsIn (w : World) (a : Option Addr) (xs : List Int) : Prop := ∀ j, j < xs.length → ∃ b off, a = some ⟨b, off, none⟩ ∧ b < w.heap.size ∧ w.cell? ⟨b, off + j, none⟩ = some (.int .i64 (xs.getD j 0))
theorem AsIn.below {w w' : World} {a : Option Addr} {xs : List Int} (h : AsIn w a xs) (hb : Below w.heap.size w w') : AsIn w' a xs := fun j hj => by
  obtain ⟨b, off, e, hl, hc⟩ := h j hj
  exact ⟨b, off, e, Nat.lt_of_lt_of_le hl hb.size, (hb.cell (p := ⟨b, off + j, none⟩) hl).trans hc⟩

theorem info2 : (Try.prog.info? 2).map (fun i => (i.zero, i.size, i.bytes)) = some (some (.int .i64 0), 1, 8) := by kernel_rfl

set_option maxRecDepth 100000 in
theorem open_nums {H : Type} {enc : TypeId × Value → H} {W : World} {base b0 : Nat} {spare : Nat → Bool} {held : Bool} {v : Value} {d : DataW H} {p : List MemPlace}
    (hv : Value.okWide Try.prog W .any b0 31 v) (h : DataW.Trod enc Try.prog W base spare held 31 v d p) :
    ∃ a cap xs, v = .slice a (List.length xs) cap ∧ AsIn W a xs ∧ xs.length ≤ maxLen ∧ ∀ x ∈ xs, (Lit.int .i64 x).wf = true := by
  obtain ⟨a0, len, cap, rfl⟩ := okWide_slice Try.underlying31 hv
  obtain ⟨fuel, hf⟩ := h
  rcases open_ints Try.underlying31 Try.underlying2 (by kernel_rfl) hf with ⟨hcs, _⟩ | ⟨a, l, c, zs, hcs, _, hl, hm, hlen, _, hcell, hwf⟩
  · simp [Value.cells] at hcs
    obtain ⟨rfl, rfl, rfl⟩ := hcs
    exact ⟨none, 0, [], rfl, fun j hj => absurd hj (by simp), by simp, fun x hx => by cases hx⟩
  · simp [Value.cells] at hcs
    obtain ⟨rfl, rfl, rfl⟩ := hcs
    have hls : len ≤ zs.length := by rw [hlen]; split <;> omega
    have hlt : (zs.take len).length = len := by rw [List.length_take]; omega
    refine ⟨some a, cap, zs.take len, by rw [hlt], fun j hj => ?_, by omega, fun x hx => hwf x (List.mem_of_mem_take hx)⟩
    rw [hlt] at hj
    have hc := hcell j (by omega)
    have hsp : a.spot = none := by
      have h0 := hcell 0 (by omega)
      simpa [Addr.add] using World.cell?_spot h0
    obtain ⟨b, off, spot⟩ := a
    simp at hsp
    subst hsp
    have e : ∀ i, (⟨b, off, none⟩ : Addr).add i = ⟨b, off + i, none⟩ := fun i => by unfold Addr.add; split <;> simp_all
    rw [e] at hc
    refine ⟨b, off, rfl, World.block_lt_of_cell? W ⟨b, off + j, none⟩ hc, ?_⟩
    rw [hc]
    congr 2
    have hj2 : j < zs.length := by omega
    simp [List.getD, hj, hj2]

theorem made_nums (n : Nat) : (madeCells (Value.cells (.int .i64 0)) (n * 1)).toList = intsV (List.replicate n 0) := by
  have hc : Value.cells (.int .i64 0) = #[.int .i64 0] := rfl
  rw [hc, Nat.mul_one]
  apply List.ext_getElem?
  intro j
  by_cases hj : j < n
  · rw [intsV_at _ j (by simpa using hj)]
    simp [madeCells, hj, Nat.mod_one]
  · rw [List.getElem?_eq_none (by simp [madeCells]; omega), List.getElem?_eq_none (by rw [intsV_len]; simp; omega)]

theorem fill_num (ts : List Int) (k : Nat) (hk : k < ts.length) : (intsV (ts.take k ++ List.replicate (ts.length - k) 0)).set k (.int .i64 (ts.getD k 0)) = intsV (ts.take (k + 1) ++ List.replicate (ts.length - (k + 1)) 0) := by
  have hg : ts.getD k 0 = ts[k] := by simp [List.getD, hk]
  have e : (ts.take k ++ List.replicate (ts.length - k) 0).set k ts[k] = ts.take (k + 1) ++ List.replicate (ts.length - (k + 1)) 0 := by
    rw [List.set_append_right _ _ (by rw [List.length_take]; omega), List.length_take, Nat.min_eq_left (by omega), Nat.sub_self, show ts.length - k = (ts.length - (k + 1)) + 1 by omega, List.replicate_succ, List.set_cons_zero, List.take_succ_eq_append_getElem hk, List.append_assoc]
    rfl
  rw [hg, ← e]
  unfold intsV
  rw [List.map_set]

/-- A row of numbers that a call owns is one that can be handed on. -/
theorem nums_as {w : World} {B g n cp : Nat} {xs : List Int} (h : w.ownsRow B 2 1 (.slice (some ⟨g, 0, none⟩) n cp) n (intsV xs)) (hn : xs.length = n) : AsIn w (some ⟨g, 0, none⟩) xs := fun j hj => by
  have hc := h.cellAt j (by omega)
  rw [intsV_at xs j hj] at hc
  refine ⟨g, 0, rfl, World.block_lt_of_cell? w ⟨g, j, none⟩ hc, ?_⟩
  rw [Nat.zero_add, hc]
  simp [List.getD, hj]


end Go.Proofs.Ytnpbckgaeaameaa
