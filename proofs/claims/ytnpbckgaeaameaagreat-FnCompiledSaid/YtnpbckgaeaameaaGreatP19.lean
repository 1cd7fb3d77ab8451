/-
  Parts of one proof, one behind the other: DrawTr3, DrawTr4, DrawI3.
-/
import Derived.Test.YtnpbckgaeaameaaGreatP18
import Derived.Test.YtnpbckgaeaameaaGreatP10
import Derived.Test.YtnpbckgaeaameaaGreatP14
import Derived.Test.YtnpbckgaeaameaaGreatP17
import Derived.Deep.Cut

/-! Any list of nodes is drawn. -/
namespace Go.Proofs.YtnpbckgaeaameaaGreat
open Go.RowKit

/-- A literal of nodes is put behind a row that a call owns. -/
theorem push_nodes (W : World) (base : Nat) (v : Value) (ns ms : List Nd) (cs : Array Value) (hcs : cs.toList = nodesV ms) (hown : W.ownsRow base 70 4 v ns.length (nodesV ns)) (hb : base ≤ W.heap.size) (hl : ns.length + ms.length ≤ 100000) :
    ∃ v' w', (Builtin.append_ #[24, 24] 24 #[v, .slice (some ⟨W.heap.size, 0, none⟩) ms.length ms.length]).run Tryz.prog (W.alloc (.cells cs 70)) = .ok v' w' ∧ w'.ownsRow base 70 4 v' (ns ++ ms).length (nodesV (ns ++ ms)) ∧ W.grownBy w' v.ownBlock := by
  obtain ⟨i0, hi, hz0, hz1, hz2⟩ := info_parts infoNode
  have hsz : cs.size = ms.length * 4 := by rw [← nodesV_len, ← hcs]; simp
  have hlit := World.ownsRow_lit (base := base) (e := 70) (size := 4) W cs ms.length hb (by unfold maxLen; omega) hsz
  rw [hcs] at hlit
  obtain ⟨v', w', hrun, hown', hg, _⟩ := run_append_src (P := Tryz.prog) (W.alloc (.cells cs 70)) base 24 24 70 i0 _ 4 48 Tryz.underlying24 hi hz0 hz1 hz2 rfl (by decide) _ _ _ (hown.alloc _) _ ms.length (nodesV ms) (own_src hlit (nodesV_one _)) (by unfold maxLen; omega) (by omega) (by simp; omega)
  exact ⟨v', w', hrun, by rw [nodesV_append, List.length_append]; exact hown', (World.grownBy_alloc W _ _).trans hg⟩

theorem nodesV_take (ns : List Nd) (k : Nat) : (nodesV ns).take (k * 4) = nodesV (ns.take k) := by
  induction ns generalizing k with
  | nil => simp [nodesV]
  | cons n r ih =>
    cases k with
    | zero => simp [nodesV]
    | succ k => rw [show (k + 1) * 4 = k * 4 + 1 + 1 + 1 + 1 by omega]; simp [nodesV, ih]

/-- A row of nodes cut at its end. -/
theorem own_takeN {w : World} {base g n cp : Nat} {ns : List Nd} (h : w.ownsRow base 70 4 (.slice (some ⟨g, 0, none⟩) n cp) n (nodesV ns)) (hn : ns.length = n) (m : Nat) (hm : m ≤ n) : w.ownsRow base 70 4 (.slice (some ⟨g, 0, none⟩) m cp) (ns.take m).length (nodesV (ns.take m)) := by
  have hl : (ns.take m).length = m := by rw [List.length_take]; omega
  rw [hl]
  have h0 := h.1
  rcases h.2 with ⟨h', _⟩ | ⟨g', cap', cur, h', hb, hg, hnc, hcm, hcs, htake⟩
  · simp at h'
  · simp only [Value.slice.injEq, Option.some.injEq, Addr.mk.injEq, and_true, true_and] at h'
    obtain ⟨rfl, rfl⟩ := h'
    refine ⟨by rw [nodesV_len, hl], .inr ⟨g, cp, cur, rfl, hb, hg, by omega, hcm, hcs, ?_⟩⟩
    rw [← nodesV_take, ← htake, List.take_take]
    congr 1
    omega

theorem small_take {ns : List Nd} (h : SmallT ns) (k : Nat) : SmallT (ns.take k) := fun n hn => h n (List.mem_of_mem_take hn)
theorem small_app {ns ms : List Nd} (h : SmallT ns) (k : SmallT ms) : SmallT (ns ++ ms) := fun n hn => (List.mem_append.1 hn).elim (h n) (k n)
theorem small_set {ns : List Nd} (h : SmallT ns) {n : Nd} (hn : SmallN n) (k : Nat) : SmallT (ns.set k n) := fun m hm => (List.mem_or_eq_of_mem_set hm).elim (h m) (fun e => by rw [e]; exact hn)
theorem small_num : SmallT [ndNum] := by intro m hm; rw [List.mem_singleton] at hm; subst hm; exact small0 1 (by omega) (by omega)
theorem small_pairs : ∀ j, SmallT (pairsL j)
  | 0 => fun n hn => by cases hn
  | j + 1 => fun n hn => by
    rcases List.mem_cons.1 hn with rfl | hn
    · exact small0 3 (by omega) (by omega)
    · rcases List.mem_cons.1 hn with rfl | hn
      · exact small0 1 (by omega) (by omega)
      · exact small_pairs j n hn

def callsA : List Nd := [(8, 2, [108, 105, 98], [102]), (8, 0, [108, 105, 98], [103])]

theorem callsA_at (j : Nat) : callsA.getD j nd0 = (8, 2, [108, 105, 98], [102]) ∨ callsA.getD j nd0 = (8, 0, [108, 105, 98], [103]) ∨ callsA.getD j nd0 = nd0 := by
  match j with
  | 0 => exact Or.inl rfl
  | 1 => exact Or.inr (Or.inl rfl)
  | j + 2 => exact Or.inr (Or.inr (by simp [callsA, List.getD]))

theorem callsA_small (j : Nat) : SmallN (callsA.getD j nd0) ∧ kidsV (callsA.getD j nd0) ≤ 3 := by
  rcases callsA_at j with h | h | h <;> rw [h] <;> exact ⟨⟨⟨by decide, by decide⟩, by decide, by decide⟩, by decide⟩

def lenV : Value → Nat
  | .slice _ n _ => n
  | _ => 0

theorem own_capG {w : World} {base e size g n cp : Nat} {xs : List Value} (h : w.ownsRow base e size (.slice (some ⟨g, 0, none⟩) n cp) n xs) : n ≤ cp ∧ cp ≤ maxLen := by
  rcases h.2 with ⟨h', _⟩ | ⟨g', cap', cur, h', hb, hg, hnc, hcm, hcs, htake⟩
  · simp at h'
  · simp only [Value.slice.injEq, Option.some.injEq, Addr.mk.injEq, and_true, true_and] at h'
    obtain ⟨rfl, rfl⟩ := h'
    exact ⟨hnc, hcm⟩

theorem nodesV_pkg (ns : List Nd) (p : List UInt8) (h : 0 < ns.length) : (nodesV ns).set 2 (.string ⟨p.toArray⟩) = nodesV (ns.set 0 ((ns.getD 0 nd0).1, (ns.getD 0 nd0).2.1, p, (ns.getD 0 nd0).2.2.2)) := by
  cases ns with
  | nil => simp at h
  | cons n r => simp [nodesV]

/-- What a drawn list is, as the walk keeps it. -/
def Any6 (w wx : World) (B : Nat) (a : Option Addr) (len cap : Nat) (v : Value) : Prop :=
  ∃ ns : List Nd, wx.ownsRow w.heap.size 70 4 v ns.length (nodesV ns) ∧ ns.length ≤ 62 ∧ SmallT ns ∧ EndsOk ns ∧ Cur wx B a len cap ∧ w.grownBy wx (some B)

set_option maxHeartbeats 4000000 in
set_option maxRecDepth 100000 in
theorem drawAny6 (w : World) (B : Nat) (a : Option Addr) (len cap : Nat) (hc : Cur w B a len cap) :
    Calls Tryz.prog 38 #[.pointer (some ⟨B, 0, none⟩)] w fun e w' => ∃ v, e = .returned v ∧ Any6 w w' B a len cap v := by
  have hBw := hc.lt
  have hlit := World.ownsRow_lit (base := w.heap.size) (e := 70) (size := 4) w #[.int .i64 8, .int .i64 2, .string ⟨#[108, 105, 98]⟩, .string ⟨#[102]⟩, .int .i64 8, .int .i64 0, .string ⟨#[108, 105, 98]⟩, .string ⟨#[103]⟩] 2 (Nat.le_refl _) (by decide) rfl
  obtain ⟨_, a0, c0, he0, hin0⟩ := own_nodes (ns := callsA) hlit
  have hc0 := hc.kept (World.grownBy_alloc w (.cells #[.int .i64 8, .int .i64 2, .string ⟨#[108, 105, 98]⟩, .string ⟨#[102]⟩, .int .i64 8, .int .i64 0, .string ⟨#[108, 105, 98]⟩, .string ⟨#[103]⟩] 70) none) (by simp)
  have hg0 := World.grownBy_alloc w (.cells #[.int .i64 8, .int .i64 2, .string ⟨#[108, 105, 98]⟩, .string ⟨#[102]⟩, .int .i64 8, .int .i64 0, .string ⟨#[108, 105, 98]⟩, .string ⟨#[103]⟩] 70) (some B)
  obtain ⟨rfl, rfl⟩ : a0 = some ⟨w.heap.size, 0, none⟩ ∧ c0 = 2 := by
    simp only [Value.slice.injEq, true_and] at he0
    exact ⟨he0.1.symm, he0.2.symm⟩
  have hT : Hid (_) := drawTreeOk _ B a len cap 3 (some ⟨w.heap.size, 0, none⟩) 2 2 callsA (by omega) (by omega) hc0 hin0 (by omega) (fun j => (callsA_small j).1) (fun j => (callsA_small j).2) (fun b off e => by simp only [Option.some.injEq, Addr.mk.injEq, and_true] at e; omega)
  clear hlit hin0 he0 hc hc0
  go_enter Tryz.func38, Tryz.ntmps38
  go_wp2_with fail
  refine Calls.mono hT.out ?_
  rintro e w2 ⟨v2, ns, rfl, hown2, htr, hs2, hc2, hg2⟩
  have hG2 := hg0.trans hg2
  have hown3 := own_base hown2 hg0.size
  obtain ⟨⟨ht1, ht2⟩, _⟩ := tree_end htr
  have HTR : Hid (treeB ns = true) := htr
  clear hT hg0 hg2 hown2 htr
  go_wp2_with fail
  refine (drawOnce _ B a len cap 6 (by omega) (by omega) hc2).mono ?_
  rintro e w4 ⟨b4, rfl, hc4, hg4⟩
  have hvl := own_ge hown3
  have hown4 := hown3.kept hg4 (own_ne4 (fun q e1 e2 => by have := hvl q e1; omega))
  have hG4 := hG2.trans hg4
  clear hown3 hc2 hG2 hg4
  go_upto_if 10 with fail
  go_cut [3] from 4 (fun v wx => Hid (Any6 w wx B a len cap v))
  case first =>
    rcases b4 with _ | _
    · go_wp2_with fail
      go_meet
      case rel => exact ⟨ns, hown4, by omega, hs2, ends_len ht2, hc4, hG4⟩
    · go_wp2_with fail
      refine (drawBelow _ B a len cap 4 (by omega) (by omega) hc4).mono ?_
      rintro e w5 ⟨x5, rfl, h50, h51, hc5, hg5⟩
      have hown5 := hown4.kept hg5 (own_ne4 (fun q e1 e2 => by have := hvl q e1; omega))
      have hG5 := hG4.trans hg5
      obtain ⟨g, cp, rfl⟩ := own_some hown5 (by omega)
      have hgl : w.heap.size ≤ g := hvl g rfl
      clear hown4 hc4 hG4 hg5
      rcases (show x5 = 0 ∨ x5 = 1 ∨ x5 = 2 ∨ x5 = 3 by omega) with rfl | rfl | rfl | rfl
      · obtain ⟨v6, w6, hrun, hown6, hg6⟩ := push_nodes w5 w.heap.size _ ns [ndNum] #[.int .i64 1, .int .i64 0, .string ⟨#[]⟩, .string ⟨#[]⟩] rfl hown5 hG5.size (by simp; omega)
        go_wp2_with (at_builtin; refine wpList_append_run rfl (.tmp 15) (.tmp 17) 24 rfl _ _ _ rfl rfl hrun ?_; clear hrun)
        go_meet
        case rel => exact ⟨ns ++ [ndNum], hown6, by simp; omega, small_app hs2 small_num, ends_snoc HTR.out _, hc5.kept hg6 (fun q e => by have := hvl q e; omega), hG5.andThen hg6 (fun q e => Or.inl (hvl q e))⟩
      · have hown6 := own_takeN hown5 rfl (ns.length - 1) (by omega)
        obtain ⟨hcp, _⟩ := own_capG hown5
        have hlc : ((ns.length : Int) - 1).toNat = ns.length - 1 := by omega
        go_wp2_with fail
        go_meet
        case rel => exact ⟨ns.take (ns.length - 1), by simpa [hlc] using hown6, by rw [List.length_take]; omega, small_take hs2 _, ends_len (by rw [List.length_take]; omega), hc5, hG5⟩
      · go_wp2_with fail
        refine (drawFromG _ B a len cap (-1) 11 (by omega) (by omega) (by omega) hc5).mono ?_
        rintro e w6 ⟨x6, rfl, h60, h61, hc6, hg6⟩
        have hown6 := hown5.kept hg6 (own_ne4 (fun q e1 e2 => by have := hvl q e1; omega))
        have hG6 := hG5.trans hg6
        clear hown5 hc5 hG5 hg6
        go_wp2_with fail
        refine (drawFromG _ B a len cap (-1) 5 (by omega) (by omega) (by omega) hc6).mono ?_
        rintro e w7 ⟨x7, rfl, h70, h71, hc7, hg7⟩
        have hown7 := hown6.kept hg7 (own_ne4 (fun q e1 e2 => by have := hvl q e1; omega))
        have hG7 := hG6.trans hg7
        clear hown6 hc6 hG6 hg7
        have hset := ((((hown7.stored 0 (.int .i64 x6)).1.stored 1 (.int .i64 x7)).1.stored 2 (.string ⟨#[]⟩)).1.stored 3 (.string ⟨#[]⟩)).1
        have hsv := nodesV_set ns 0 x6 x7 [] []
        simp only [Nat.zero_mul, Nat.zero_add] at hsv
        rw [hsv] at hset
        have c0 := hown7.cellAt 0 (by omega)
        have c1 := hown7.cellAt 1 (by omega)
        have c2 := hown7.cellAt 2 (by omega)
        have c3 := hown7.cellAt 3 (by omega)
        obtain ⟨v0, v1, v2, v3⟩ := nodesV_at ns 0 (by omega)
        simp only [Nat.zero_mul, Nat.zero_add] at v0 v1 v2 v3
        rw [v0] at c0
        rw [v1] at c1
        rw [v2] at c2
        rw [v3] at c3
        have f0 := hown7.frozenAt 0
        have f1 := hown7.frozenAt 1
        have f2 := hown7.frozenAt 2
        have f3 := hown7.frozenAt 3
        have hgg := grown_set4 w7 g (.int .i64 x6) (.int .i64 x7) (.string ⟨#[]⟩) (.string ⟨#[]⟩)
        clear hsv v0 v1 v2 v3 hown7
        go_wp2_with fail
        go_meet
        case rel => exact ⟨ns.set 0 (x6, x7, [], []), by rw [List.length_set]; exact hset, by rw [List.length_set]; omega, small_set hs2 ⟨⟨⟨by simp only; omega, by simp only; omega⟩, ⟨by simp only; omega, by simp only; omega⟩⟩, by simp, by simp⟩ 0, ends_len (by rw [List.length_set]; omega), hc7.kept hgg (by simp; omega), hG7.andThen hgg (fun q e => Or.inl (by simp at e; omega))⟩
      · have hset := (hown5.stored 2 (.string ⟨#[120]⟩)).1
        have hsv := nodesV_pkg ns [120] (by omega)
        rw [hsv] at hset
        have c2 := hown5.cellAt 2 (by omega)
        obtain ⟨_, _, v2, _⟩ := nodesV_at ns 0 (by omega)
        simp only [Nat.zero_mul, Nat.zero_add] at v2
        rw [v2] at c2
        have f2 := hown5.frozenAt 2
        have hgg := grown_setCell w5 g 2 (.string ⟨#[120]⟩)
        clear hsv v2 hown5
        go_wp2_with fail
        go_meet
        case rel => exact ⟨ns.set 0 ((ns.getD 0 nd0).1, (ns.getD 0 nd0).2.1, [120], (ns.getD 0 nd0).2.2.2), by rw [List.length_set]; exact hset, by rw [List.length_set]; omega, small_set hs2 (n := ((ns.getD 0 nd0).1, (ns.getD 0 nd0).2.1, [120], (ns.getD 0 nd0).2.2.2)) ⟨(small_at hs2 0).1, by simp, (small_at hs2 0).2.2⟩ 0, ends_len (by rw [List.length_set]; omega), hc5.kept hgg (by simp; omega), hG5.andThen hgg (fun q e => Or.inl (by simp at e; omega))⟩
  case rest =>
    clear hown4 hc4 hG4 hs2 HTR hvl ht1 ht2
    obtain ⟨ns1, hown, hl1, hs1, he1, hc1, hG1⟩ := hcut.out
    go_wp2_with fail
    refine (drawOnce _ B a len cap 40 (by omega) (by omega) hc1).mono ?_
    rintro e w8 ⟨b8, rfl, hc8, hg8⟩
    have hvl := own_ge hown
    have hown8 := hown.kept hg8 (own_ne4 (fun q e1 e2 => by have := hvl q e1; omega))
    have hG8 := hG1.trans hg8
    clear hown hc1 hG1 hg8 hcut
    rcases b8 with _ | _
    · go_wp2
      go_ret
      exact ⟨_, rfl, ns1, hown8, hl1, hs1, he1, hc8, hG8⟩
    · clear hown8 hs1 he1 hl1 hvl
      have hownE := World.ownsRow_lit (base := w.heap.size) (e := 70) (size := 4) w8 #[] 0 hG8.size (by decide) rfl
      have hcE := hc8.kept (World.grownBy_alloc w8 (.cells #[] 70) none) (by simp)
      have hGE := hG8.trans (World.grownBy_alloc w8 (.cells #[] 70) (some B))
      go_wp2
      go_loopw [3] (fun v wr => ∃ (j : Nat) (av : Option Addr) (cv : Nat), v = .slice av (2 * j) cv ∧ j ≤ 31 ∧ Hid (wr.ownsRow w.heap.size 70 4 v (pairsL j).length (nodesV (pairsL j))) ∧ Hid (Cur wr B a len cap) ∧ Hid (w.grownBy wr (some B))) (fun v _ => 64 - lenV v)
      case atStart => exact ⟨0, _, _, rfl, by omega, hownE, hcE, hGE⟩
      case round =>
        obtain ⟨j, av, cv, rfl, hj, HV, hcr, hGr⟩ := hrel
        clear hownE hcE hGE hc8 hG8
        have hvl := own_ge HV.out
        go_wp2_with fail
        refine (drawBelow _ B a len cap 2 (by omega) (by omega) hcr.out).mono ?_
        rintro e w9 ⟨x9, rfl, h90, h91, hc9, hg9⟩
        have hown9 := HV.out.kept hg9 (own_ne4 (fun q e1 e2 => by have := hvl q e1; omega))
        have hG9 := hGr.out.trans hg9
        clear HV hcr hGr hg9
        by_cases hlt : ((2 * j : Nat) : Int) < 59 + 2 * x9
        · obtain ⟨v6, w6, hrun, hown6, hg6⟩ := push_nodes w9 w.heap.size _ (pairsL j) [ndAdd, ndNum] #[.int .i64 3, .int .i64 0, .string ⟨#[]⟩, .string ⟨#[]⟩, .int .i64 1, .int .i64 0, .string ⟨#[]⟩, .string ⟨#[]⟩] rfl hown9 hG9.size (by rw [pairs_len]; simp; omega)
          rw [pairs_snoc] at hown6
          obtain ⟨_, a6, c6, rfl, _⟩ := own_nodes hown6
          have hl6 : (pairsL (j + 1)).length = 2 * (j + 1) := pairs_len (j + 1)
          have HO : Hid (w6.ownsRow w.heap.size 70 4 (.slice a6 (2 * (j + 1)) c6) (pairsL (j + 1)).length (nodesV (pairsL (j + 1)))) := by exact (by rw [← hl6]; exact hown6 : w6.ownsRow w.heap.size 70 4 (.slice a6 (2 * (j + 1)) c6) (pairsL (j + 1)).length (nodesV (pairsL (j + 1))))
          have hc6 : Hid (Cur w6 B a len cap) := hc9.kept hg6 (fun q e => by have := hvl q e; omega)
          have hG6 : Hid (w.grownBy w6 (some B)) := hG9.andThen hg6 (fun q e => Or.inl (hvl q e))
          rw [hl6] at hrun
          clear hown6 hg6 hown9 hc9 hG9 hvl hl6
          go_wp2_with (at_builtin; refine wpList_append_run rfl (.tmp 50) (.tmp 53) 24 rfl _ _ _ rfl rfl hrun ?_; clear hrun)
          go_roundw
          case rel => exact ⟨j + 1, a6, c6, rfl, by omega, HO, hc6, hG6⟩
          case measure => simp [lenV]; omega
        · obtain ⟨i, rfl⟩ : ∃ i, j = i + 1 := ⟨j - 1, by omega⟩
          obtain ⟨g, cp, hgf⟩ := own_some hown9 (by rw [pairs_len]; omega)
          rw [pairs_len] at hgf
          simp only [Value.slice.injEq] at hgf
          obtain ⟨rfl, _, rfl⟩ := hgf
          rw [show (pairsL (i + 1)).length = 2 * (i + 1) from pairs_len _] at hown9
          obtain ⟨hcp, _⟩ := own_capG hown9
          have hown5 := own_takeN hown9 (pairs_len _) (2 * i + 1) (by omega)
          obtain ⟨v6, w6, hrun, hown6, hg6⟩ := push_nodes w9 w.heap.size _ _ [ndNum] #[.int .i64 1, .int .i64 0, .string ⟨#[]⟩, .string ⟨#[]⟩] rfl hown5 hG9.size (by rw [List.length_take, pairs_len]; simp; omega)
          rw [pairs_cut] at hown6
          have hlc : (((2 * (i + 1) : Nat) : Int) - 1).toNat = 2 * i + 1 := by omega
          have hc6 : Cur w6 B a len cap := hc9.kept hg6 (fun q e => by have := hvl q e; omega)
          have hG6 : w.grownBy w6 (some B) := hG9.andThen hg6 (fun q e => Or.inl (hvl q e))
          clear hown5 hown9 hg6 hc9 hG9
          go_wp2_with (at_builtin; refine wpList_append_run rfl (.tmp 59) (.tmp 61) 24 rfl _ _ _ (by first | rfl | simp [hlc]) rfl hrun ?_; clear hrun)
          go_ret
          exact ⟨_, rfl, pairsL (i + 1), hown6, by rw [pairs_len]; omega, small_pairs _, ends_pairs _, hc6, hG6⟩

end Go.Proofs.YtnpbckgaeaameaaGreat

/-! The contracts of DrawTreeOk, DrawShowTree, DrawEndOf, DrawPartsOf, DrawReadTree. -/
namespace Go.Proofs.YtnpbckgaeaameaaGreat
open Go.RowKit

/-- A drawn list, as a law has it. -/
def Drawn6 (w wx : World) (v : Value) (ns : List Nd) : Prop := wx.ownsRow w.heap.size 70 4 v ns.length (nodesV ns) ∧ ns.length ≤ 62 ∧ SmallT ns ∧ EndsOk ns

theorem showT_len {ns : List Nd} : (showT ns).length ≤ 1860 := by
  unfold showT
  split
  · rename_i h
    have h1 := showL_len ns (tree_nodes h)
    have h2 := (tree_end h).1.2
    omega
  · simp

set_option maxHeartbeats 1000000 in
set_option maxRecDepth 100000 in
theorem drawTreeOkD (w : World) (a : Option Addr) (len cap : Nat) (hl : len ≤ 4096) (hc : Code w w.heap.size a len) :
    Calls Tryz.prog 19 #[.slice a len cap] w fun e w' => ∃ v ns, e = .returned v ∧ Drawn6 w w' v ns ∧ Below w.heap.size w w' := by
  go_enter Tryz.func19, Tryz.ntmps19
  go_wp2_with fail
  refine (drawNew _ a len cap hl hc).mono ?_
  rintro e w1 ⟨rfl, hc1, hg1⟩
  have hb1 : Below w.heap.size w w1 := (Below.refl _ _).grown hg1 (Nat.le_refl _) (by simp)
  clear hg1
  go_wp2_with fail
  refine (drawAny6 _ _ a len cap hc1).mono ?_
  rintro e w2 ⟨v, rfl, ns, hown, hl2, hs, he, hc2, hg2⟩
  have hD : Hid (Drawn6 w w2 v ns) := ⟨own_base hown hb1.size, hl2, hs, he⟩
  have hb2 : Below w.heap.size w w2 := hb1.grown hg2 hb1.size (by simp)
  clear hown hc1 hg2 hb1
  go_wp2
  go_ret
  exact ⟨v, ns, rfl, hD.out, hb2⟩





end Go.Proofs.YtnpbckgaeaameaaGreat

/-! Code is drawn: l13Draw, DrawCodeOk, DrawRegisters, DrawCompiled. -/
namespace Go.Proofs.YtnpbckgaeaameaaGreat
open Go.RowKit

def AllI (xs : List In13) : Prop := ∀ i ∈ xs, SmI i
theorem AllI.push {xs : List In13} {i : In13} (h : AllI xs) (hi : SmI i) : AllI (xs ++ [i]) := fun j hj => by
  rcases List.mem_append.1 hj with e | e
  · exact h j e
  · rw [List.mem_singleton.1 e]; exact hi
theorem AllI.set {xs : List In13} {i : In13} (h : AllI xs) (hi : SmI i) (j : Nat) : AllI (xs.set j i) := fun q hq => by
  rcases List.mem_or_eq_of_mem_set hq with e | e
  · exact h q e
  · rw [e]; exact hi
def sl13 : Value → Nat
  | .slice _ n _ => n
  | _ => 0
theorem smI_end : SmI (10, 0, 0, 0, []) := by unfold SmI; decide
/-- What is held while code is drawn. -/
structure Dc (w X : World) (B : Nat) (c : Option Addr) (len cap : Nat) (v : Value) (xs : List In13) (m : Nat) : Prop where
  cur : Cur X B c len cap
  g : w.grownBy X (some B)
  row : X.ownsRow w.heap.size 30 5 v m (insV xs)
  ln : xs.length = m
  sm : AllI xs
  bw : B < w.heap.size
section
variable {w X Y : World} {B : Nat} {c : Option Addr} {len cap : Nat} {v : Value} {xs : List In13} {m : Nat}
theorem Dc.draw (h : Dc w X B c len cap v xs m) (hc : Cur Y B c len cap) (hg : X.grownBy Y (some B)) : Dc w Y B c len cap v xs m :=
  ⟨hc, h.g.trans hg, own_other h.row h.bw hg, h.ln, h.sm, h.bw⟩
theorem Dc.val (h : Dc w X B c len cap v xs m) : ∃ a c', v = .slice a m c' := own_any12 h.row
theorem Dc.step (h : Dc w X B c len cap v xs m) {u : Value} {ys : List In13} {k : Nat} (hg : X.grownBy Y v.ownBlock) (hr : Y.ownsRow w.heap.size 30 5 u k (insV ys)) (hl : ys.length = k) (hs : AllI ys) : Dc w Y B c len cap u ys k := by
  have hb := h.bw
  have hsz := h.g.size
  refine ⟨h.cur.kept hg (fun q e => by have := (h.row.lt q e).1; omega), ⟨hg.os.trans h.g.os, hg.tape.trans h.g.tape, hg.output.trans h.g.output, Nat.le_trans hsz hg.size, fun q hq hne => ?_⟩, hr, hl, hs, h.bw⟩
  exact (hg.block q (Nat.lt_of_lt_of_le hq hsz) (fun e => by have := (h.row.lt q e.symm).1; omega)).trans (h.g.block q hq hne)
theorem Dc.push (h : Dc w X B c len cap v xs m) (x : In13) (hx : SmI x) (hm : m ≤ 1000) :
    ∃ a' c' Y, (Builtin.append_ #[26, 26] 26 #[v, .slice (some ⟨X.heap.size, 0, none⟩) 1 1]).run Tryz.prog (X.alloc (.cells #[.int .i64 x.1, .int .i64 x.2.1, .int .i64 x.2.2.1, .int .i64 x.2.2.2.1, .string ⟨x.2.2.2.2.toArray⟩] 30)) = .ok (.slice a' (m + 1) c') Y ∧ Dc w Y B c len cap (.slice a' (m + 1) c') (xs ++ [x]) (m + 1) := by
  obtain ⟨v', Y, hr, ho, hg⟩ := push_ins13 x h.row h.g.size (by omega)
  obtain ⟨a', c', rfl⟩ := own_any12 ho
  exact ⟨a', c', Y, hr, h.step hg ho (by rw [List.length_append, h.ln]; rfl) (h.sm.push hx)⟩
theorem Dc.nil (hc : Cur X B c len cap) (hg : w.grownBy X (some B)) (hb : B < w.heap.size) : Dc w (X.alloc (.cells #[] 30)) B c len cap (.slice (some ⟨X.heap.size, 0, none⟩) 0 0) [] 0 :=
  ⟨hc.kept (World.grownBy_alloc X _ none) (by simp), hg.trans (World.grownBy_alloc X _ _), World.ownsRow_lit X #[] 0 hg.size (by decide) rfl, rfl, fun i hi => by simp at hi, hb⟩
end
section
variable {ops : Array Oper} {rest : List Oper} {op : Oper} {a : Act} {w : World} {Q : Exit → Act → World → Prop}
theorem list_store_dc (hgd : op.guard = none) (x y : Operand) (ho : op.op = .store 30 x y) (j : Nat) (k r aa b : Int) (s : List UInt8) {w0 : World} {B : Nat} {c : Option Addr} {len cap : Nat} {ad : Option Addr} {cp : Nat} {xs : List In13} {m : Nat} (hd : Dc w0 w B c len cap (.slice ad m cp) xs m) (hj : j < m) (hs : SmI (k, r, aa, b, s))
    (hx : ∀ g, ad = some ⟨g, 0, none⟩ → a.eval x = .pointer (some ⟨g, j * 5, none⟩)) (hy : a.eval y = insVal (k, r, aa, b, s))
    (h : ∀ Y, Dc w0 Y B c len cap (.slice ad m cp) (xs.set j (k, r, aa, b, s)) m → wpList Tryz.prog ops Q rest (a.put op.dst undef) Y) : wpList Tryz.prog ops Q (op :: rest) a w := by
  have hrow := hd.row
  obtain ⟨g, cp', e⟩ := own_some hrow (by omega)
  injection e with e1 _ e2
  subst e1 e2
  have hlen : (insV xs).length = m * 5 := by rw [insV_len, hd.ln]
  have ht : w.there g (j * 5) 5 := fun q hq => ⟨by rw [hrow.cellAt (j * 5 + q) (by omega), List.getElem?_eq_getElem (by omega)]; rfl, hrow.frozenAt (j * 5 + q)⟩
  refine wpList_store_mid hgd _ x y ho g (j * 5) (insL k r aa b s).toArray (hx g rfl) hy ht sizeIns (all_oneCell_toArray (fun v hv => by simp [insL] at hv; rcases hv with rfl | rfl | rfl | rfl | rfl <;> rfl)) (h _ ?_)
  have h1 := hrow.stored (j * 5) (.int .i64 k)
  have h2 := h1.1.stored (j * 5 + 1) (.int .i64 r)
  have h3 := h2.1.stored (j * 5 + 2) (.int .i64 aa)
  have h4 := h3.1.stored (j * 5 + 3) (.int .i64 b)
  have h5 := h4.1.stored (j * 5 + 4) (.string ⟨s.toArray⟩)
  have hr5 := h5.1
  rw [insV_set] at hr5
  exact hd.step ((((h1.2.trans h2.2).trans h3.2).trans h4.2).trans h5.2) hr5 (by rw [List.length_set, hd.ln]) (hd.sm.set hs j)
end

theorem args_mem {P : In13 → Prop} {f : Int → Int → Int → List In13} (h : ∀ p r c, ∀ i ∈ f p r c, P i) : ∀ (ps : List Int) (r c : Int), ∀ i ∈ args13 f ps r c, P i
  | [], _, _, i, hi => by simp [args13] at hi
  | p :: ps, r, c, i, hi => by
    rw [args13] at hi
    rcases List.mem_append.1 hi with e | e
    · exact h p r c i e
    · exact args_mem h ps _ _ i e
theorem into_names {t : List Nd} {L : Nat} (h : ∀ j, (t.getD j nd0).2.2.1.length ≤ L ∧ (t.getD j nd0).2.2.2.length ≤ L) : ∀ (d : Nat) (a r c : Int), ∀ i ∈ into13 d t a r c, i.2.2.2.2.length ≤ 2 * L + 1
  | 0, _, _, _, i, hi => by simp [into13] at hi
  | d + 1, a, r, c, i, hi => by
    have ih := into_names h d
    have hn := h a.toNat
    rw [into13] at hi
    simp only at hi
    split at hi
    · rw [List.mem_singleton.1 hi]; simp
    split at hi
    · rw [List.mem_singleton.1 hi]; simp
    split at hi
    · simp only [List.mem_append, List.mem_cons] at hi
      rcases hi with e | e | e | e | e
      · exact ih _ _ _ i e
      · rw [e]; simp
      · exact ih _ _ _ i e
      · rw [e]; simp
      · exact ih _ _ _ i e
    split at hi
    · rcases List.mem_append.1 hi with e | e
      · exact args_mem (fun p r c i hi => ih p r c i hi) _ _ _ i e
      · rw [List.mem_singleton.1 e]
        simp only [List.length_append, List.length_cons]
        omega
    split at hi
    · simp only [List.mem_append, List.mem_singleton] at hi
      rcases hi with (e | e) | e
      · exact ih _ _ _ i e
      · exact ih _ _ _ i e
      · rw [e]; simp
    · simp only [List.mem_append, List.mem_singleton] at hi
      rcases hi with (e | e) | e
      · exact ih _ _ _ i e
      · exact ih _ _ _ i e
      · rw [e]; simp
theorem compiled_all {t : List Nd} (ht : treeB t = true) (hs : SmallT t) : AllI (compiledV t) := fun i hi => by
  have hcb := of_decide_eq_true (compiled_law ht).1
  have hp := (hcb.2.1 i hi).1
  have hnm : i.2.2.2.2.length ≤ 1000 := by
    unfold compiledV at hi
    rw [if_pos ht] at hi
    rcases List.mem_append.1 hi with e | e
    · have := into_names (L := 100) (fun j => ⟨Nat.le_trans (small_at hs j).2.1 (by omega), Nat.le_trans (small_at hs j).2.2 (by omega)⟩) 60 0 0 0 i e
      omega
    · rw [List.mem_singleton.1 e]; simp
  obtain ⟨k, r, a, b, s⟩ := i
  unfold insP at hp
  unfold SmI
  simp only at hp hnm ⊢
  omega

set_option maxHeartbeats 20000000 in
set_option maxRecDepth 100000 in
theorem drawCode13 (w : World) (B : Nat) (a : Option Addr) (len cap : Nat) (h : Cur w B a len cap) :
    Calls Tryz.prog 47 #[.pointer (some ⟨B, 0, none⟩)] w fun e w' => ∃ v xs, e = .returned v ∧ xs.length ≤ 300 ∧ Dc w w' B a len cap v xs xs.length := by
  have hlB := h.lt
  go_enter Tryz.func47, Tryz.ntmps47
  go_wp2_with fail
  refine (drawOnce _ B a len cap 2 (by omega) (by omega) h).mono ?_
  rintro e w1 ⟨o, rfl, hc1, hg1⟩
  rcases o with _ | _
  · go_wp2_with fail
    refine (drawBelow _ B a len cap 7 (by omega) (by omega) hc1).mono ?_
    rintro e w2 ⟨x, rfl, hx0, hx1, hc2, hg2⟩
    obtain ⟨q, rfl⟩ : ∃ q : Nat, x = (q : Int) := Int.eq_ofNat_of_zero_le hx0
    obtain ⟨n, hn⟩ : ∃ n : Nat, n = q + 1 := ⟨_, rfl⟩
    have hnq : 1 + (q : Int) = (n : Int) := by omega
    have hn7 : n ≤ 7 := by omega
    have hn1 : 1 ≤ n := by omega
    have s0 : Hid (Dc w (w2.alloc (.cells #[] 30)) B a len cap (.slice (some ⟨w2.heap.size, 0, none⟩) 0 0) [] 0) := Dc.nil hc2 (hg1.trans hg2) hlB
    clear hc1 hg1 hc2 hg2 hn hx0 hx1
    go_wp2
    go_loopw [4, 5] (fun ov iv wx => ∃ (i : Nat) (xs : List In13), iv = .int .i64 (i : Int) ∧ i ≤ n ∧ Hid (Dc w wx B a len cap ov xs i)) (fun _ iv _ => n - (intOf iv).toNat)
    case atStart => exact ⟨0, [], rfl, Nat.zero_le _, s0⟩
    case round =>
      obtain ⟨i, xs, rfl, hi, sr⟩ := hrel
      clear s0
      obtain ⟨oa, oc, rfl⟩ := sr.out.val
      by_cases hlt : (i : Int) < (n : Int)
      · go_wp2_with fail
        refine (drawIns _ B a len cap (n : Int) (by omega) (by omega) sr.out.cur).mono ?_
        rintro e w3 ⟨⟨k, r, aa, b, s⟩, rfl, hsm, hc3, hg3⟩
        have s1 := sr.out.draw hc3 hg3
        obtain ⟨a', c', Y, hrun, s2⟩ := s1.push (k, r, aa, b, s) hsm (by omega)
        have S2 : Hid (Dc w Y B a len cap (.slice a' (i + 1) c') (xs ++ [(k, r, aa, b, s)]) (i + 1)) := s2
        unfold insVal
        simp only at hrun ⊢
        clear s1 s2 hc3 hg3 hsm sr
        go_wp2_with (at_builtin; refine wpList_append_run rfl (.tmp 22) (.tmp 26) 26 rfl _ _ _ rfl rfl hrun ?_; clear hrun)
        go_roundw
        case rel => exact ⟨i + 1, _, by go_num, by omega, S2⟩
        case measure => simp [intOf]; omega
      · have hin : i = n := by omega
        subst hin
        clear hlt hi
        obtain ⟨g, cp, e⟩ := own_some sr.out.row (by omega)
        injection e with e1 e0 e2
        subst e1 e2
        clear e0
        obtain ⟨p, hpi⟩ : ∃ p, p + 1 = i := ⟨i - 1, by omega⟩
        have hp1 : (i : Int) - 1 = (p : Int) := by omega
        have hp2 : (p : Int) < (i : Int) := by omega
        go_wp2_with fail
        refine (drawOnce _ B a len cap 2 (by omega) (by omega) sr.out.cur).mono ?_
        rintro e w3 ⟨o2, rfl, hc3, hg3⟩
        have s1 : Hid (Dc w w3 B a len cap (.slice (some ⟨g, 0, none⟩) i oc) xs i) := sr.out.draw hc3 hg3
        clear hc3 hg3 sr
        go_upto_if 29 with fail
        go_cut [] from 20 (fun wx => ∃ ys : List In13, Hid (Dc w wx B a len cap (.slice (some ⟨g, 0, none⟩) i oc) ys i))
        case first =>
          rcases o2 with _ | _
          · go_wp2_with fail
            go_meet
            case rel => exact ⟨xs, s1⟩
          · go_wp2_with (guard_target = wpList _ _ _ _ _ _; (refine list_store_dc rfl _ _ rfl p 10 0 0 0 [] s1.out (by omega) smI_end (fun g' e => by injection e with e; injection e with e _ _; subst e; rfl) rfl (fun Y hY => ?_)))
            go_meet
            case rel => exact ⟨_, hY⟩
        case rest =>
        obtain ⟨ys, s2⟩ := hcut
        clear s1
        go_wp2_with fail
        refine (drawOnce _ B a len cap 8 (by omega) (by omega) s2.out.cur).mono ?_
        rintro e w4 ⟨o3, rfl, hc4, hg4⟩
        have s3 : Hid (Dc w w4 B a len cap (.slice (some ⟨g, 0, none⟩) i oc) ys i) := s2.out.draw hc4 hg4
        clear hc4 hg4 s2
        go_upto_if 36 with fail
        go_cut [] from 20 (fun wx => ∃ zs : List In13, Hid (Dc w wx B a len cap (.slice (some ⟨g, 0, none⟩) i oc) zs i))
        case first =>
          rcases o3 with _ | _
          · go_wp2_with fail
            go_meet
            case rel => exact ⟨ys, s3⟩
          · go_wp2_with fail
            refine (drawBelow _ B a len cap (i : Int) (by omega) (by omega) s3.out.cur).mono ?_
            rintro e w5 ⟨t, rfl, ht0, ht1, hc5, hg5⟩
            obtain ⟨j, rfl⟩ : ∃ j : Nat, t = (j : Int) := Int.eq_ofNat_of_zero_le ht0
            have s4 := s3.out.draw hc5 hg5
            clear hc5 hg5
            go_wp2_with fail
            refine (drawAnyIns _ B a len cap s4.cur).mono ?_
            rintro e w6 ⟨⟨k, r, aa, b, s⟩, rfl, hsm, hc6, hg6⟩
            have s5 := s4.draw hc6 hg6
            clear hc6 hg6 s4
            go_wp2_with (guard_target = wpList _ _ _ _ _ _; (refine list_store_dc rfl _ _ rfl j k r aa b s s5 (by omega) hsm (fun g' e => by injection e with e; injection e with e _ _; subst e; rfl) rfl (fun Y hY => ?_)))
            go_meet
            case rel => exact ⟨_, hY⟩
        case rest =>
        obtain ⟨zs, s4⟩ := hcut
        clear s3
        go_wp2_with fail
        refine (drawOnce _ B a len cap 40 (by omega) (by omega) s4.out.cur).mono ?_
        rintro e w5 ⟨o4, rfl, hc5, hg5⟩
        have s5 : Hid (Dc w w5 B a len cap (.slice (some ⟨g, 0, none⟩) i oc) zs i) := s4.out.draw hc5 hg5
        clear hc5 hg5 s4
        rcases o4 with _ | _
        · go_wp2
          go_ret
          exact ⟨_, zs, rfl, by rw [s5.out.ln]; omega, by rw [s5.out.ln]; exact s5.out⟩
        · have s6 : Hid (Dc w (w5.alloc (.cells #[] 30)) B a len cap (.slice (some ⟨w5.heap.size, 0, none⟩) 0 0) [] 0) := Dc.nil s5.out.cur s5.out.g hlB
          clear s5
          go_wp2
          go_loopw [4] (fun ov wx => ∃ (k : Nat) (us : List In13) (a' : Option Addr) (c' : Nat), ov = .slice a' k c' ∧ k ≤ 201 ∧ Hid (Dc w wx B a len cap (.slice a' k c') us k)) (fun ov _ => 201 - sl13 ov)
          case atStart => exact ⟨0, [], _, _, rfl, by omega, s6⟩
          case round =>
            obtain ⟨k, us, a', c', rfl, hk, sk⟩ := hrel
            clear s6
            rename World => W
            go_wp2_with fail
            refine (drawBelow _ B a len cap 2 (by omega) (by omega) sk.out.cur).mono ?_
            rintro e w6 ⟨x6, rfl, h60, h61, hc6, hg6⟩
            have s7 := sk.out.draw hc6 hg6
            clear hc6 hg6 sk
            by_cases hlt6 : (k : Int) < 200 + x6
            · obtain ⟨a2, c2, Y, hrun, s8⟩ := s7.push (10, 0, 0, 0, []) smI_end (by omega)
              have S8 : Hid (Dc w Y B a len cap (.slice a2 (k + 1) c2) (us ++ [(10, 0, 0, 0, [])]) (k + 1)) := s8
              clear s8 s7
              go_wp2_with (at_builtin; refine wpList_append_run rfl (.tmp 53) (.tmp 55) 26 rfl _ _ _ rfl rfl hrun ?_; clear hrun)
              go_roundw
              case rel => exact ⟨k + 1, _, a2, c2, rfl, by omega, S8⟩
              case measure => simp [sl13]; omega
            · have S7 : Hid (_) := s7
              clear s7
              go_wp2
              go_ret
              exact ⟨_, us, rfl, by rw [S7.out.ln]; omega, by rw [S7.out.ln]; exact S7.out⟩
  · obtain ⟨⟨m0, m1, m2, m3⟩, hbn⟩ := node_new12 w1 (.int .i64 8) (.int .i64 2) (.string ⟨#[108, 105, 98]⟩) (.string ⟨#[102]⟩) 70
    obtain ⟨V, hV⟩ : ∃ V, w1.alloc (.cells #[.int .i64 8, .int .i64 2, .string ⟨#[108, 105, 98]⟩, .string ⟨#[102]⟩] 70) = V := ⟨_, rfl⟩
    rw [hV] at m0 m1 m2 m3 hbn
    obtain ⟨N, hN⟩ : ∃ N, w1.heap.size = N := ⟨_, rfl⟩
    have hNl : B < N := by rw [← hN]; exact hc1.lt
    rw [hN] at m0 m1 m2 m3
    have hNV : N < V.heap.size := World.block_lt_of_cell? V ⟨N, 0, none⟩ m0
    have hin : NodesIn V (some ⟨N, 0, none⟩) 1 [((8 : Int), (2 : Int), [108, 105, 98], [102])] := ⟨rfl, fun j hj => by
      obtain rfl : j = 0 := by omega
      exact ⟨N, 0, rfl, hNV, m0, m1, m2, m3⟩⟩
    have hsmn : ∀ j, SmallN (([((8 : Int), (2 : Int), [108, 105, 98], [102])] : List Nd).getD j nd0) := fun j => by
      cases j with
      | zero => unfold SmallN IntN; decide
      | succ j => rw [show (([((8 : Int), (2 : Int), [108, 105, 98], [102])] : List Nd).getD (j + 1) nd0) = nd0 by simp]; unfold SmallN IntN nd0; decide
    have hkdn : ∀ j, kidsV (([((8 : Int), (2 : Int), [108, 105, 98], [102])] : List Nd).getD j nd0) ≤ 3 := fun j => by
      cases j with
      | zero => decide
      | succ j => rw [show (([((8 : Int), (2 : Int), [108, 105, 98], [102])] : List Nd).getD (j + 1) nd0) = nd0 by simp]; decide
    have HD : Hid (_) := drawTreeOk V B a len cap 2 (some ⟨N, 0, none⟩) 1 1 [((8 : Int), (2 : Int), [108, 105, 98], [102])] (by omega) (by omega) (hc1.below hbn) hin (by omega) hsmn hkdn (fun b off e => by injection e with e; injection e with e _ _; omega)
    have HG : Hid (w.grownBy V (some B)) := ⟨hbn.os.trans hg1.os, hbn.tape.trans hg1.tape, hbn.output.trans hg1.output, Nat.le_trans hg1.size hbn.size, fun q hq hne => (hbn.block q (Nat.lt_of_lt_of_le hq hg1.size)).trans (hg1.block q hq hne)⟩
    clear m0 m1 m2 m3 hbn hin hsmn hkdn hc1 hg1 hNV
    go_wp2_with fail
    refine Calls.mono HD.out ?_
    rintro e w2 ⟨v, ns, rfl, hown, htb, hsm, hc2, hg2⟩
    obtain ⟨_, ta, tc, rfl, hnin⟩ := own_nodes hown
    have HCo : Hid (_) := specCompiled13 ta tc ns w2 hnin hsm.short htb
    have hG2 := HG.out.trans hg2
    have HA : Hid (AllI (compiledV ns) ∧ (compiledV ns).length ≤ 121) := ⟨compiled_all htb hsm, (compiled_law htb).2.2.1⟩
    have HC2 : Hid (Cur w2 B a len cap ∧ w.grownBy w2 (some B)) := ⟨hc2, hG2⟩
    clear hown hnin hc2 hg2 hG2 htb hsm HD HG
    go_wp2_with fail
    refine Calls.mono HCo.out ?_
    rintro e w3 ⟨cv, rfl, hcv, hb3⟩
    have HF : Hid (Dc w w3 B a len cap cv (compiledV ns) (compiledV ns).length) := by
      have hg := HC2.out.2
      exact ⟨HC2.out.1.below hb3, ⟨hb3.os.trans hg.os, hb3.tape.trans hg.tape, hb3.output.trans hg.output, Nat.le_trans hg.size hb3.size, fun q hq hne => (hb3.block q (Nat.lt_of_lt_of_le hq hg.size)).trans (hg.block q hq hne)⟩, own_base hcv hg.size, rfl, HA.out.1, hlB⟩
    clear hcv hb3 HCo
    go_wp2
    go_ret
    exact ⟨_, _, rfl, by have := HA.out.2; omega, HF.out⟩

end Go.Proofs.YtnpbckgaeaameaaGreat
