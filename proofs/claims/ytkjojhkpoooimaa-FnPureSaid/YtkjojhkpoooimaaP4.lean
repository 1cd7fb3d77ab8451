/-
  Parts of one proof, one behind the other: DrawTr3, DrawTr4, Draw11, Math7, Math7S, Math7R, Math8.
-/
import Derived.Test.YtkjojhkpoooimaaP3
import Derived.Test.YtkjojhkpoooimaaP1
import Derived.Test.YtkjojhkpoooimaaP2

/-! Any list of nodes is drawn. -/
namespace Go.Proofs.Ytkjojhkpoooimaa
open Go.RowKit

/-- A literal of nodes is put behind a row that a call owns. -/
theorem push_nodes (W : World) (base : Nat) (v : Value) (ns ms : List Nd) (cs : Array Value) (hcs : cs.toList = nodesV ms) (hown : W.ownsRow base 28 4 v ns.length (nodesV ns)) (hb : base ≤ W.heap.size) (hl : ns.length + ms.length ≤ 100000) :
    ∃ v' w', (Builtin.append_ #[24, 24] 24 #[v, .slice (some ⟨W.heap.size, 0, none⟩) ms.length ms.length]).run Try.prog (W.alloc (.cells cs 28)) = .ok v' w' ∧ w'.ownsRow base 28 4 v' (ns ++ ms).length (nodesV (ns ++ ms)) ∧ W.grownBy w' v.ownBlock := by
  obtain ⟨i0, hi, hz0, hz1, hz2⟩ := info_parts infoNode
  have hsz : cs.size = ms.length * 4 := by rw [← nodesV_len, ← hcs]; simp
  have hlit := World.ownsRow_lit (base := base) (e := 28) (size := 4) W cs ms.length hb (by unfold maxLen; omega) hsz
  rw [hcs] at hlit
  obtain ⟨v', w', hrun, hown', hg, _⟩ := run_append_src (P := Try.prog) (W.alloc (.cells cs 28)) base 24 24 28 i0 _ 4 48 Try.underlying24 hi hz0 hz1 hz2 rfl (by decide) _ _ _ (hown.alloc _) _ ms.length (nodesV ms) (own_src hlit (nodesV_one _)) (by unfold maxLen; omega) (by omega) (by simp; omega)
  exact ⟨v', w', hrun, by rw [nodesV_append, List.length_append]; exact hown', (World.grownBy_alloc W _ _).trans hg⟩

theorem nodesV_take (ns : List Nd) (k : Nat) : (nodesV ns).take (k * 4) = nodesV (ns.take k) := by
  induction ns generalizing k with
  | nil => simp [nodesV]
  | cons n r ih =>
    cases k with
    | zero => simp [nodesV]
    | succ k => rw [show (k + 1) * 4 = k * 4 + 1 + 1 + 1 + 1 by omega]; simp [nodesV, ih]

/-- A row of nodes cut at its end. -/
theorem own_takeN {w : World} {base g n cp : Nat} {ns : List Nd} (h : w.ownsRow base 28 4 (.slice (some ⟨g, 0, none⟩) n cp) n (nodesV ns)) (hn : ns.length = n) (m : Nat) (hm : m ≤ n) : w.ownsRow base 28 4 (.slice (some ⟨g, 0, none⟩) m cp) (ns.take m).length (nodesV (ns.take m)) := by
  have hl : (ns.take m).length = m := by rw [List.length_take]; omega
  rw [hl]
  have h0 := h.1
  rcases h.2 with ⟨h', _⟩ | ⟨g', cap', cur, h', hb, hg, hnc, hcm, hcs, htake⟩
  · simp at h'
  · simp only [Value.slice.injEq, Option.some.injEq, Addr.mk.injEq, and_true, true_and] at h'
    obtain ⟨rfl, rfl⟩ := h'
    refine ⟨by rw [nodesV_len, hl], .inr ⟨g, cp, cur, rfl, hb, hg, by omega, hcm, hcs, ?_⟩⟩
    rw [← nodesV_take, ← htake, List.take_take]
    congr 1
    omega

theorem small_take {ns : List Nd} (h : SmallT ns) (k : Nat) : SmallT (ns.take k) := fun n hn => h n (List.mem_of_mem_take hn)
theorem small_app {ns ms : List Nd} (h : SmallT ns) (k : SmallT ms) : SmallT (ns ++ ms) := fun n hn => (List.mem_append.1 hn).elim (h n) (k n)
theorem small_set {ns : List Nd} (h : SmallT ns) {n : Nd} (hn : SmallN n) (k : Nat) : SmallT (ns.set k n) := fun m hm => (List.mem_or_eq_of_mem_set hm).elim (h m) (fun e => by rw [e]; exact hn)
theorem small_num : SmallT [ndNum] := by intro m hm; rw [List.mem_singleton] at hm; subst hm; exact small0 1 (by omega) (by omega)
theorem small_pairs : ∀ j, SmallT (pairsL j)
  | 0 => fun n hn => by cases hn
  | j + 1 => fun n hn => by
    rcases List.mem_cons.1 hn with rfl | hn
    · exact small0 3 (by omega) (by omega)
    · rcases List.mem_cons.1 hn with rfl | hn
      · exact small0 1 (by omega) (by omega)
      · exact small_pairs j n hn

def callsA : List Nd := [(8, 2, [108, 105, 98], [102]), (8, 0, [108, 105, 98], [103])]

theorem callsA_at (j : Nat) : callsA.getD j nd0 = (8, 2, [108, 105, 98], [102]) ∨ callsA.getD j nd0 = (8, 0, [108, 105, 98], [103]) ∨ callsA.getD j nd0 = nd0 := by
  match j with
  | 0 => exact Or.inl rfl
  | 1 => exact Or.inr (Or.inl rfl)
  | j + 2 => exact Or.inr (Or.inr (by simp [callsA, List.getD]))

theorem callsA_small (j : Nat) : SmallN (callsA.getD j nd0) ∧ kidsV (callsA.getD j nd0) ≤ 3 := by
  rcases callsA_at j with h | h | h <;> rw [h] <;> exact ⟨⟨⟨by decide, by decide⟩, by decide, by decide⟩, by decide⟩

def lenV : Value → Nat
  | .slice _ n _ => n
  | _ => 0

theorem own_capG {w : World} {base e size g n cp : Nat} {xs : List Value} (h : w.ownsRow base e size (.slice (some ⟨g, 0, none⟩) n cp) n xs) : n ≤ cp ∧ cp ≤ maxLen := by
  rcases h.2 with ⟨h', _⟩ | ⟨g', cap', cur, h', hb, hg, hnc, hcm, hcs, htake⟩
  · simp at h'
  · simp only [Value.slice.injEq, Option.some.injEq, Addr.mk.injEq, and_true, true_and] at h'
    obtain ⟨rfl, rfl⟩ := h'
    exact ⟨hnc, hcm⟩

theorem nodesV_pkg (ns : List Nd) (p : List UInt8) (h : 0 < ns.length) : (nodesV ns).set 2 (.string ⟨p.toArray⟩) = nodesV (ns.set 0 ((ns.getD 0 nd0).1, (ns.getD 0 nd0).2.1, p, (ns.getD 0 nd0).2.2.2)) := by
  cases ns with
  | nil => simp at h
  | cons n r => simp [nodesV]

/-- What a drawn list is, as the walk keeps it. -/
def Any6 (w wx : World) (B : Nat) (a : Option Addr) (len cap : Nat) (v : Value) : Prop :=
  ∃ ns : List Nd, wx.ownsRow w.heap.size 28 4 v ns.length (nodesV ns) ∧ ns.length ≤ 62 ∧ SmallT ns ∧ EndsOk ns ∧ Cur wx B a len cap ∧ w.grownBy wx (some B)

set_option maxHeartbeats 4000000 in
set_option maxRecDepth 100000 in
theorem drawAny6 (w : World) (B : Nat) (a : Option Addr) (len cap : Nat) (hc : Cur w B a len cap) :
    Calls Try.prog 57 #[.pointer (some ⟨B, 0, none⟩)] w fun e w' => ∃ v, e = .returned v ∧ Any6 w w' B a len cap v := by
  have hBw := hc.lt
  have hlit := World.ownsRow_lit (base := w.heap.size) (e := 28) (size := 4) w #[.int .i64 8, .int .i64 2, .string ⟨#[108, 105, 98]⟩, .string ⟨#[102]⟩, .int .i64 8, .int .i64 0, .string ⟨#[108, 105, 98]⟩, .string ⟨#[103]⟩] 2 (Nat.le_refl _) (by decide) rfl
  obtain ⟨_, a0, c0, he0, hin0⟩ := own_nodes (ns := callsA) hlit
  have hc0 := hc.kept (World.grownBy_alloc w (.cells #[.int .i64 8, .int .i64 2, .string ⟨#[108, 105, 98]⟩, .string ⟨#[102]⟩, .int .i64 8, .int .i64 0, .string ⟨#[108, 105, 98]⟩, .string ⟨#[103]⟩] 28) none) (by simp)
  have hg0 := World.grownBy_alloc w (.cells #[.int .i64 8, .int .i64 2, .string ⟨#[108, 105, 98]⟩, .string ⟨#[102]⟩, .int .i64 8, .int .i64 0, .string ⟨#[108, 105, 98]⟩, .string ⟨#[103]⟩] 28) (some B)
  obtain ⟨rfl, rfl⟩ : a0 = some ⟨w.heap.size, 0, none⟩ ∧ c0 = 2 := by
    simp only [Value.slice.injEq, true_and] at he0
    exact ⟨he0.1.symm, he0.2.symm⟩
  have hT : Hid (_) := drawTreeOk _ B a len cap 3 (some ⟨w.heap.size, 0, none⟩) 2 2 callsA (by omega) (by omega) hc0 hin0 (by omega) (fun j => (callsA_small j).1) (fun j => (callsA_small j).2) (fun b off e => by simp only [Option.some.injEq, Addr.mk.injEq, and_true] at e; omega)
  clear hlit hin0 he0 hc hc0
  go_enter Try.func57, Try.ntmps57
  go_wp2_with fail
  refine Calls.mono hT.out ?_
  rintro e w2 ⟨v2, ns, rfl, hown2, htr, hs2, hc2, hg2⟩
  have hG2 := hg0.trans hg2
  have hown3 := own_base hown2 hg0.size
  obtain ⟨⟨ht1, ht2⟩, _⟩ := tree_end htr
  have HTR : Hid (treeB ns = true) := htr
  clear hT hg0 hg2 hown2 htr
  go_wp2_with fail
  refine (drawOnce _ B a len cap 6 (by omega) (by omega) hc2).mono ?_
  rintro e w4 ⟨b4, rfl, hc4, hg4⟩
  have hvl := own_ge hown3
  have hown4 := hown3.kept hg4 (own_ne4 (fun q e1 e2 => by have := hvl q e1; omega))
  have hG4 := hG2.trans hg4
  clear hown3 hc2 hG2 hg4
  go_upto_if 10 with fail
  go_cut [3] from 4 (fun v wx => Hid (Any6 w wx B a len cap v))
  case first =>
    rcases b4 with _ | _
    · go_wp2_with fail
      go_meet
      case rel => exact ⟨ns, hown4, by omega, hs2, ends_len ht2, hc4, hG4⟩
    · go_wp2_with fail
      refine (drawBelow _ B a len cap 4 (by omega) (by omega) hc4).mono ?_
      rintro e w5 ⟨x5, rfl, h50, h51, hc5, hg5⟩
      have hown5 := hown4.kept hg5 (own_ne4 (fun q e1 e2 => by have := hvl q e1; omega))
      have hG5 := hG4.trans hg5
      obtain ⟨g, cp, rfl⟩ := own_some hown5 (by omega)
      have hgl : w.heap.size ≤ g := hvl g rfl
      clear hown4 hc4 hG4 hg5
      rcases (show x5 = 0 ∨ x5 = 1 ∨ x5 = 2 ∨ x5 = 3 by omega) with rfl | rfl | rfl | rfl
      · obtain ⟨v6, w6, hrun, hown6, hg6⟩ := push_nodes w5 w.heap.size _ ns [ndNum] #[.int .i64 1, .int .i64 0, .string ⟨#[]⟩, .string ⟨#[]⟩] rfl hown5 hG5.size (by simp; omega)
        go_wp2_with (at_builtin; refine wpList_append_run rfl (.tmp 15) (.tmp 17) 24 rfl _ _ _ rfl rfl hrun ?_; clear hrun)
        go_meet
        case rel => exact ⟨ns ++ [ndNum], hown6, by simp; omega, small_app hs2 small_num, ends_snoc HTR.out _, hc5.kept hg6 (fun q e => by have := hvl q e; omega), hG5.andThen hg6 (fun q e => Or.inl (hvl q e))⟩
      · have hown6 := own_takeN hown5 rfl (ns.length - 1) (by omega)
        obtain ⟨hcp, _⟩ := own_capG hown5
        have hlc : ((ns.length : Int) - 1).toNat = ns.length - 1 := by omega
        go_wp2_with fail
        go_meet
        case rel => exact ⟨ns.take (ns.length - 1), by simpa [hlc] using hown6, by rw [List.length_take]; omega, small_take hs2 _, ends_len (by rw [List.length_take]; omega), hc5, hG5⟩
      · go_wp2_with fail
        refine (drawFromG _ B a len cap (-1) 11 (by omega) (by omega) (by omega) hc5).mono ?_
        rintro e w6 ⟨x6, rfl, h60, h61, hc6, hg6⟩
        have hown6 := hown5.kept hg6 (own_ne4 (fun q e1 e2 => by have := hvl q e1; omega))
        have hG6 := hG5.trans hg6
        clear hown5 hc5 hG5 hg6
        go_wp2_with fail
        refine (drawFromG _ B a len cap (-1) 5 (by omega) (by omega) (by omega) hc6).mono ?_
        rintro e w7 ⟨x7, rfl, h70, h71, hc7, hg7⟩
        have hown7 := hown6.kept hg7 (own_ne4 (fun q e1 e2 => by have := hvl q e1; omega))
        have hG7 := hG6.trans hg7
        clear hown6 hc6 hG6 hg7
        have hset := ((((hown7.stored 0 (.int .i64 x6)).1.stored 1 (.int .i64 x7)).1.stored 2 (.string ⟨#[]⟩)).1.stored 3 (.string ⟨#[]⟩)).1
        have hsv := nodesV_set ns 0 x6 x7 [] []
        simp only [Nat.zero_mul, Nat.zero_add] at hsv
        rw [hsv] at hset
        have c0 := hown7.cellAt 0 (by omega)
        have c1 := hown7.cellAt 1 (by omega)
        have c2 := hown7.cellAt 2 (by omega)
        have c3 := hown7.cellAt 3 (by omega)
        obtain ⟨v0, v1, v2, v3⟩ := nodesV_at ns 0 (by omega)
        simp only [Nat.zero_mul, Nat.zero_add] at v0 v1 v2 v3
        rw [v0] at c0
        rw [v1] at c1
        rw [v2] at c2
        rw [v3] at c3
        have f0 := hown7.frozenAt 0
        have f1 := hown7.frozenAt 1
        have f2 := hown7.frozenAt 2
        have f3 := hown7.frozenAt 3
        have hgg := grown_set4 w7 g (.int .i64 x6) (.int .i64 x7) (.string ⟨#[]⟩) (.string ⟨#[]⟩)
        clear hsv v0 v1 v2 v3 hown7
        go_wp2_with fail
        go_meet
        case rel => exact ⟨ns.set 0 (x6, x7, [], []), by rw [List.length_set]; exact hset, by rw [List.length_set]; omega, small_set hs2 ⟨⟨⟨by simp only; omega, by simp only; omega⟩, ⟨by simp only; omega, by simp only; omega⟩⟩, by simp, by simp⟩ 0, ends_len (by rw [List.length_set]; omega), hc7.kept hgg (by simp; omega), hG7.andThen hgg (fun q e => Or.inl (by simp at e; omega))⟩
      · have hset := (hown5.stored 2 (.string ⟨#[120]⟩)).1
        have hsv := nodesV_pkg ns [120] (by omega)
        rw [hsv] at hset
        have c2 := hown5.cellAt 2 (by omega)
        obtain ⟨_, _, v2, _⟩ := nodesV_at ns 0 (by omega)
        simp only [Nat.zero_mul, Nat.zero_add] at v2
        rw [v2] at c2
        have f2 := hown5.frozenAt 2
        have hgg := grown_setCell w5 g 2 (.string ⟨#[120]⟩)
        clear hsv v2 hown5
        go_wp2_with fail
        go_meet
        case rel => exact ⟨ns.set 0 ((ns.getD 0 nd0).1, (ns.getD 0 nd0).2.1, [120], (ns.getD 0 nd0).2.2.2), by rw [List.length_set]; exact hset, by rw [List.length_set]; omega, small_set hs2 (n := ((ns.getD 0 nd0).1, (ns.getD 0 nd0).2.1, [120], (ns.getD 0 nd0).2.2.2)) ⟨(small_at hs2 0).1, by simp, (small_at hs2 0).2.2⟩ 0, ends_len (by rw [List.length_set]; omega), hc5.kept hgg (by simp; omega), hG5.andThen hgg (fun q e => Or.inl (by simp at e; omega))⟩
  case rest =>
    clear hown4 hc4 hG4 hs2 HTR hvl ht1 ht2
    obtain ⟨ns1, hown, hl1, hs1, he1, hc1, hG1⟩ := hcut.out
    go_wp2_with fail
    refine (drawOnce _ B a len cap 40 (by omega) (by omega) hc1).mono ?_
    rintro e w8 ⟨b8, rfl, hc8, hg8⟩
    have hvl := own_ge hown
    have hown8 := hown.kept hg8 (own_ne4 (fun q e1 e2 => by have := hvl q e1; omega))
    have hG8 := hG1.trans hg8
    clear hown hc1 hG1 hg8 hcut
    rcases b8 with _ | _
    · go_wp2
      go_ret
      exact ⟨_, rfl, ns1, hown8, hl1, hs1, he1, hc8, hG8⟩
    · clear hown8 hs1 he1 hl1 hvl
      have hownE := World.ownsRow_lit (base := w.heap.size) (e := 28) (size := 4) w8 #[] 0 hG8.size (by decide) rfl
      have hcE := hc8.kept (World.grownBy_alloc w8 (.cells #[] 28) none) (by simp)
      have hGE := hG8.trans (World.grownBy_alloc w8 (.cells #[] 28) (some B))
      go_wp2
      go_loopw [3] (fun v wr => ∃ (j : Nat) (av : Option Addr) (cv : Nat), v = .slice av (2 * j) cv ∧ j ≤ 31 ∧ Hid (wr.ownsRow w.heap.size 28 4 v (pairsL j).length (nodesV (pairsL j))) ∧ Hid (Cur wr B a len cap) ∧ Hid (w.grownBy wr (some B))) (fun v _ => 64 - lenV v)
      case atStart => exact ⟨0, _, _, rfl, by omega, hownE, hcE, hGE⟩
      case round =>
        obtain ⟨j, av, cv, rfl, hj, HV, hcr, hGr⟩ := hrel
        clear hownE hcE hGE hc8 hG8
        have hvl := own_ge HV.out
        go_wp2_with fail
        refine (drawBelow _ B a len cap 2 (by omega) (by omega) hcr.out).mono ?_
        rintro e w9 ⟨x9, rfl, h90, h91, hc9, hg9⟩
        have hown9 := HV.out.kept hg9 (own_ne4 (fun q e1 e2 => by have := hvl q e1; omega))
        have hG9 := hGr.out.trans hg9
        clear HV hcr hGr hg9
        by_cases hlt : ((2 * j : Nat) : Int) < 59 + 2 * x9
        · obtain ⟨v6, w6, hrun, hown6, hg6⟩ := push_nodes w9 w.heap.size _ (pairsL j) [ndAdd, ndNum] #[.int .i64 3, .int .i64 0, .string ⟨#[]⟩, .string ⟨#[]⟩, .int .i64 1, .int .i64 0, .string ⟨#[]⟩, .string ⟨#[]⟩] rfl hown9 hG9.size (by rw [pairs_len]; simp; omega)
          rw [pairs_snoc] at hown6
          obtain ⟨_, a6, c6, rfl, _⟩ := own_nodes hown6
          have hl6 : (pairsL (j + 1)).length = 2 * (j + 1) := pairs_len (j + 1)
          have HO : Hid (w6.ownsRow w.heap.size 28 4 (.slice a6 (2 * (j + 1)) c6) (pairsL (j + 1)).length (nodesV (pairsL (j + 1)))) := by exact (by rw [← hl6]; exact hown6 : w6.ownsRow w.heap.size 28 4 (.slice a6 (2 * (j + 1)) c6) (pairsL (j + 1)).length (nodesV (pairsL (j + 1))))
          have hc6 : Hid (Cur w6 B a len cap) := hc9.kept hg6 (fun q e => by have := hvl q e; omega)
          have hG6 : Hid (w.grownBy w6 (some B)) := hG9.andThen hg6 (fun q e => Or.inl (hvl q e))
          rw [hl6] at hrun
          clear hown6 hg6 hown9 hc9 hG9 hvl hl6
          go_wp2_with (at_builtin; refine wpList_append_run rfl (.tmp 50) (.tmp 53) 24 rfl _ _ _ rfl rfl hrun ?_; clear hrun)
          go_roundw
          case rel => exact ⟨j + 1, a6, c6, rfl, by omega, HO, hc6, hG6⟩
          case measure => simp [lenV]; omega
        · obtain ⟨i, rfl⟩ : ∃ i, j = i + 1 := ⟨j - 1, by omega⟩
          obtain ⟨g, cp, hgf⟩ := own_some hown9 (by rw [pairs_len]; omega)
          rw [pairs_len] at hgf
          simp only [Value.slice.injEq] at hgf
          obtain ⟨rfl, _, rfl⟩ := hgf
          rw [show (pairsL (i + 1)).length = 2 * (i + 1) from pairs_len _] at hown9
          obtain ⟨hcp, _⟩ := own_capG hown9
          have hown5 := own_takeN hown9 (pairs_len _) (2 * i + 1) (by omega)
          obtain ⟨v6, w6, hrun, hown6, hg6⟩ := push_nodes w9 w.heap.size _ _ [ndNum] #[.int .i64 1, .int .i64 0, .string ⟨#[]⟩, .string ⟨#[]⟩] rfl hown5 hG9.size (by rw [List.length_take, pairs_len]; simp; omega)
          rw [pairs_cut] at hown6
          have hlc : (((2 * (i + 1) : Nat) : Int) - 1).toNat = 2 * i + 1 := by omega
          have hc6 : Cur w6 B a len cap := hc9.kept hg6 (fun q e => by have := hvl q e; omega)
          have hG6 : w.grownBy w6 (some B) := hG9.andThen hg6 (fun q e => Or.inl (hvl q e))
          clear hown5 hown9 hg6 hc9 hG9
          go_wp2_with (at_builtin; refine wpList_append_run rfl (.tmp 59) (.tmp 61) 24 rfl _ _ _ (by first | rfl | simp [hlc]) rfl hrun ?_; clear hrun)
          go_ret
          exact ⟨_, rfl, pairsL (i + 1), hown6, by rw [pairs_len]; omega, small_pairs _, ends_pairs _, hc6, hG6⟩

end Go.Proofs.Ytkjojhkpoooimaa

/-! The contracts of DrawTreeOk, DrawShowTree, DrawEndOf, DrawPartsOf, DrawReadTree. -/
namespace Go.Proofs.Ytkjojhkpoooimaa
open Go.RowKit

/-- A drawn list, as a law has it. -/
def Drawn6 (w wx : World) (v : Value) (ns : List Nd) : Prop := wx.ownsRow w.heap.size 28 4 v ns.length (nodesV ns) ∧ ns.length ≤ 62 ∧ SmallT ns ∧ EndsOk ns

set_option maxHeartbeats 1000000 in
set_option maxRecDepth 100000 in
theorem drawTreeOkD (w : World) (a : Option Addr) (len cap : Nat) (hl : len ≤ 4096) (hc : Code w w.heap.size a len) :
    Calls Try.prog 27 #[.slice a len cap] w fun e w' => ∃ v ns, e = .returned v ∧ Drawn6 w w' v ns ∧ Below w.heap.size w w' := by
  go_enter Try.func27, Try.ntmps27
  go_wp2_with fail
  refine (drawNew _ a len cap hl hc).mono ?_
  rintro e w1 ⟨rfl, hc1, hg1⟩
  have hb1 : Below w.heap.size w w1 := (Below.refl _ _).grown hg1 (Nat.le_refl _) (by simp)
  clear hg1
  go_wp2_with fail
  refine (drawAny6 _ _ a len cap hc1).mono ?_
  rintro e w2 ⟨v, rfl, ns, hown, hl2, hs, he, hc2, hg2⟩
  have hD : Hid (Drawn6 w w2 v ns) := ⟨own_base hown hb1.size, hl2, hs, he⟩
  have hb2 : Below w.heap.size w w2 := hb1.grown hg2 hb1.size (by simp)
  clear hown hc1 hg2 hb1
  go_wp2
  go_ret
  exact ⟨v, ns, rfl, hD.out, hb2⟩





end Go.Proofs.Ytkjojhkpoooimaa

/-! The draws of chapter 11: a tree, a package. -/
namespace Go.Proofs.Ytkjojhkpoooimaa
open Go.RowKit

set_option maxHeartbeats 1000000 in
set_option maxRecDepth 100000 in
theorem drawPure11 (w : World) (a : Option Addr) (len cap : Nat) (hl : len ≤ 4096) (hc : Code w w.heap.size a len) :
    Calls Try.prog 8 #[.slice a len cap] w fun e w' => ∃ v ns, e = .returned v ∧ Drawn6 w w' v ns ∧ Below w.heap.size w w' := by
  go_enter Try.func8, Try.ntmps8
  go_wp2_with fail
  refine (drawTreeOkD _ a len cap hl hc).mono ?_
  rintro e w2 ⟨v, ns, rfl, hd, hb2⟩
  have hD : Hid (Drawn6 w w2 v ns) := hd
  clear hd
  go_wp2
  go_ret
  exact ⟨v, ns, rfl, hD.out, hb2⟩

end Go.Proofs.Ytkjojhkpoooimaa

/-! Plain facts for chapter 7 (packages). -/
namespace Go.Proofs.Ytkjojhkpoooimaa
open Go.RowKit

def leT (a b : List UInt8) : Bool := Op.bytesLess a b || (a == b)

/-- Each is behind the one ahead of it. -/
def riseB (l : List (List UInt8)) : Bool := decide (∀ i, i < l.length - 1 → leT (l.getD (i + 1) []) (l.getD i []) = false)
theorem riseB_yes {l : List (List UInt8)} {j : Nat} (hj : l.length ≤ j + 1) (h : ∀ i, i < j → leT (l.getD (i + 1) []) (l.getD i []) = false) : riseB l = true := decide_eq_true (fun i hi => h i (by omega))
theorem riseB_no {l : List (List UInt8)} {j : Nat} (hj : j + 1 < l.length) (h : leT (l.getD (j + 1) []) (l.getD j []) = true) : riseB l = false := decide_eq_false (fun g => by rw [g j (by omega)] at h; cases h)

def importsB (l : List (List UInt8)) : Bool := decide (∀ i, i < l.length → nameB (l.getD i []) = true) && (decide (l.length ≤ 6) && riseB l)
theorem importsB_no {l : List (List UInt8)} {j : Nat} (hj : j < l.length) (h : nameB (l.getD j []) = false) : importsB l = false := by
  unfold importsB
  rw [decide_eq_false (fun g => by rw [g j hj] at h; cases h)]; rfl
theorem importsB_all {l : List (List UInt8)} (h : ∀ i, i < l.length → nameB (l.getD i []) = true) : importsB l = (decide (l.length ≤ 6) && riseB l) := by
  unfold importsB
  rw [decide_eq_true h]; rfl

/-- A function: its name, how many arguments, its tree. -/
abbrev Fn := List UInt8 × Int × List Nd
/-- A package: its name, its imports, its functions. -/
abbrev Pk := List UInt8 × List (List UInt8) × List Fn

def fn0 : Fn := ([], 0, [])
def funcB (f : Fn) : Bool := nameB f.1 && (inB f.2.1 0 3 && treeB f.2.2)

/-- The first of such a name, from k on. -/
def atGo (s : List UInt8) : List Fn → Nat → Int
  | [], _ => -1
  | f :: r, k => if f.1 = s then (k : Int) else atGo s r (k + 1)
def atV (fs : List Fn) (s : List UInt8) : Int := atGo s fs 0

theorem atGo_drop {fs : List Fn} {k : Nat} (hk : k < fs.length) (s : List UInt8) : atGo s (fs.drop k) k = if (fs.getD k fn0).1 = s then (k : Int) else atGo s (fs.drop (k + 1)) (k + 1) := by
  rw [List.drop_eq_getElem_cons hk, atGo]
  have : fs.getD k fn0 = fs[k] := by rw [List.getD_eq_getElem?_getD, List.getElem?_eq_getElem hk]; rfl
  rw [this]

def funcsOk (fs : List Fn) (i : Nat) : Prop := funcB (fs.getD i fn0) = true ∧ atV fs (fs.getD i fn0).1 = (i : Int)
instance (fs : List Fn) (i : Nat) : Decidable (funcsOk fs i) := by unfold funcsOk; infer_instance

def pkgB (p : Pk) : Bool := (nameB p.1 && (importsB p.2.1 && inB (p.2.2.length : Int) 1 8)) && decide (∀ i, i < p.2.2.length → funcsOk p.2.2 i)

end Go.Proofs.Ytkjojhkpoooimaa

/-! Plain facts for chapter 7: how a package is shown and read. -/
namespace Go.Proofs.Ytkjojhkpoooimaa
open Go.RowKit

def kwPackage : List UInt8 := [112, 97, 99, 107, 97, 103, 101]
def kwImport : List UInt8 := [105, 109, 112, 111, 114, 116]
def kwFunc : List UInt8 := [102, 117, 110, 99]

def packLn (s : List UInt8) : List UInt8 := kwPackage ++ [32] ++ s
def impLn (s : List UInt8) : List UInt8 := kwImport ++ [32] ++ s
def funcLn (f : Fn) : List UInt8 := kwFunc ++ [32] ++ f.1 ++ [32] ++ intL f.2.1 ++ [32] ++ showL f.2.2
def pkLines (p : Pk) : List (List UInt8) := packLn p.1 :: (p.2.1.map impLn ++ p.2.2.map funcLn)
def showP (p : Pk) : List UInt8 := termJ (pkLines p)
def showPk (p : Pk) : List UInt8 := if pkgB p = true then showP p else []

/-- What a line adds. -/
noncomputable def readLn (p : Pk) (l : List UInt8) : Option Pk :=
  if (splitL 32 l).getD 0 [] = kwPackage ∧ (splitL 32 l).length = 2 then some ((splitL 32 l).getD 1 [], p.2.1, p.2.2)
  else if (splitL 32 l).getD 0 [] = kwImport ∧ (splitL 32 l).length = 2 then some (p.1, p.2.1 ++ [(splitL 32 l).getD 1 []], p.2.2)
  else if (splitL 32 l).getD 0 [] = kwFunc ∧ 3 < (splitL 32 l).length then
    (if readOk (l.drop (((splitL 32 l).getD 1 []).length + ((splitL 32 l).getD 2 []).length + 7)) = true then
      some (p.1, p.2.1, p.2.2 ++ [((splitL 32 l).getD 1 [], readV ((splitL 32 l).getD 2 []), readTV (l.drop (((splitL 32 l).getD 1 []).length + ((splitL 32 l).getD 2 []).length + 7)))])
    else none)
  else none

noncomputable def readLs : Pk → List (List UInt8) → Option Pk
  | p, [] => some p
  | p, l :: r => match readLn p l with | none => none | some q => readLs q r

theorem pkgB_parts {p : Pk} (h : pkgB p = true) : nameB p.1 = true ∧ (∀ x ∈ p.2.1, nameB x = true) ∧ p.2.1.length ≤ 6 ∧ (1 ≤ p.2.2.length ∧ p.2.2.length ≤ 8) ∧ (∀ f ∈ p.2.2, funcB f = true) := by
  unfold pkgB importsB inB at h
  simp only [Bool.and_eq_true, decide_eq_true_eq] at h
  obtain ⟨⟨h1, ⟨h2, h3, _⟩, h4⟩, h5⟩ := h
  refine ⟨h1, fun x hx => ?_, h3, by omega, fun f hf => ?_⟩
  · obtain ⟨i, hi, rfl⟩ := List.getElem_of_mem hx
    have := h2 i hi
    rwa [List.getD_eq_getElem?_getD, List.getElem?_eq_getElem hi] at this
  · obtain ⟨i, hi, rfl⟩ := List.getElem_of_mem hf
    have := (h5 i hi).1
    rwa [List.getD_eq_getElem?_getD, List.getElem?_eq_getElem hi] at this

end Go.Proofs.Ytkjojhkpoooimaa

/-! Plain facts for chapter 7: ReadPackage of ShowPackage is the package. -/
namespace Go.Proofs.Ytkjojhkpoooimaa
open Go.RowKit

def pk0 : Pk := ([], [], [])

/-- What is read of a text: the package, where there is one. -/
noncomputable def readPB (s : List UInt8) : Bool := decide (s.length ≤ 20000) && (match readLs pk0 (linesL s) with | none => false | some p => pkgB p && (showP p == s))
noncomputable def readPV (s : List UInt8) : Pk := if readPB s = true then (readLs pk0 (linesL s)).getD pk0 else pk0

end Go.Proofs.Ytkjojhkpoooimaa

/-! Plain facts of chapter 8: texts in order, lists of names, projects. -/
namespace Go.Proofs.Ytkjojhkpoooimaa
open Go.RowKit

theorem lt8_irr : ∀ x : List UInt8, Op.bytesLess x x = false
  | [] => rfl
  | a :: r => by simp [Op.bytesLess, lt8_irr r]
theorem lt8_trans : ∀ {x y z : List UInt8}, Op.bytesLess x y = true → Op.bytesLess y z = true → Op.bytesLess x z = true
  | x, y, [], _, h => by cases y <;> simp [Op.bytesLess] at h
  | [], y, c :: z, _, _ => rfl
  | a :: x, [], c :: z, h, _ => by simp [Op.bytesLess] at h
  | a :: x, b :: y, c :: z, h, k => by
    simp only [Op.bytesLess, Bool.or_eq_true, decide_eq_true_eq, Bool.and_eq_true, beq_iff_eq] at h k ⊢
    rcases h with h | ⟨rfl, h⟩
    · rcases k with k | ⟨rfl, k⟩
      · exact Or.inl (UInt8.lt_trans h k)
      · exact Or.inl h
    · rcases k with k | ⟨rfl, k⟩
      · exact Or.inl k
      · exact Or.inr ⟨rfl, lt8_trans h k⟩
theorem lt8_tri : ∀ {x y : List UInt8}, Op.bytesLess x y = false → Op.bytesLess y x = false → x = y
  | [], [], _, _ => rfl
  | [], b :: y, h, _ => by simp [Op.bytesLess] at h
  | a :: x, [], _, k => by simp [Op.bytesLess] at k
  | a :: x, b :: y, h, k => by
    simp only [Op.bytesLess, Bool.or_eq_false_iff, decide_eq_false_iff_not, Bool.and_eq_false_iff, beq_eq_false_iff_ne] at h k
    have hab : a = b := by
      have h1 := h.1
      have h2 := k.1
      rw [UInt8.lt_iff_toNat_lt] at h1 h2
      exact UInt8.toNat_inj.1 (by omega)
    subst hab
    rw [lt8_tri (h.2.resolve_left (by simp)) (k.2.resolve_left (by simp))]
/-- One is behind another. -/
theorem leT_no {a b : List UInt8} : leT b a = false ↔ Op.bytesLess a b = true := by
  unfold leT
  rw [Bool.or_eq_false_iff, beq_eq_false_iff_ne]
  constructor
  · rintro ⟨h, hne⟩
    rcases hx : Op.bytesLess a b with _ | _
    · exact absurd (lt8_tri h hx) hne
    · rfl
  · intro h
    refine ⟨?_, fun e => ?_⟩
    · rcases hx : Op.bytesLess b a with _ | _
      · rfl
      · have := lt8_trans h hx; rw [lt8_irr] at this; cases this
    · subst e; rw [lt8_irr] at h; cases h

/-- A list that rises. -/
def Rise (ts : List (List UInt8)) : Prop := ts.Pairwise (fun a b => Op.bytesLess a b = true)
theorem Rise.nodup {ts : List (List UInt8)} (h : Rise ts) : ts.Nodup := h.imp (fun {a b} hab e => by subst e; rw [lt8_irr] at hab; cases hab)
theorem rise_at {ts : List (List UInt8)} (h : ∀ i, i + 1 < ts.length → Op.bytesLess (ts.getD i []) (ts.getD (i + 1) []) = true) : Rise ts := by
  have hd : ∀ d i, i + d + 1 < ts.length → Op.bytesLess (ts.getD i []) (ts.getD (i + d + 1) []) = true := by
    intro d
    induction d with
    | zero => intro i hi; exact h i hi
    | succ d ih => intro i hi; exact lt8_trans (ih i (by omega)) (h (i + d + 1) (by omega))
  refine List.pairwise_iff_getElem.2 (fun i j hi hj hij => ?_)
  have hh := hd (j - i - 1) i (by omega)
  rw [show i + (j - i - 1) + 1 = j by omega] at hh
  simpa [List.getD, hi, hj] using hh
theorem rise_of {ts : List (List UInt8)} (h : riseB ts = true) : Rise ts := by
  unfold riseB at h
  exact rise_at (fun i hi => leT_no.1 ((of_decide_eq_true h) i (by omega)))
/-- A project: packages whose names rise. -/
def names8 (ps : List Pk) : List (List UInt8) := ps.map (·.1)
def pj8 (ps : List Pk) (i : Nat) : Prop := pkgB (ps.getD i pk0) = true ∧ (0 < i → leT (ps.getD i pk0).1 (ps.getD (i - 1) pk0).1 = false)
instance (ps : List Pk) (i : Nat) : Decidable (pj8 ps i) := by unfold pj8; infer_instance
def projB (ps : List Pk) : Bool := decide (∀ i, i < ps.length → pj8 ps i) && inB (ps.length : Int) 1 8
theorem projB_no {ps : List Pk} {i : Nat} (hi : i < ps.length) (h : ¬ pj8 ps i) : projB ps = false := by unfold projB; rw [decide_eq_false (fun g => h (g i hi))]; rfl
theorem projB_all {ps : List Pk} (h : ∀ i, i < ps.length → pj8 ps i) : projB ps = inB (ps.length : Int) 1 8 := by unfold projB; rw [decide_eq_true h]; rfl
theorem projB_parts {ps : List Pk} (h : projB ps = true) : Rise (names8 ps) ∧ (1 ≤ ps.length ∧ ps.length ≤ 8) ∧ ∀ p ∈ ps, pkgB p = true := by
  unfold projB at h
  rw [Bool.and_eq_true, decide_eq_true_eq] at h
  have hn : 1 ≤ (ps.length : Int) ∧ (ps.length : Int) ≤ 8 := by have := h.2; unfold inB at this; exact of_decide_eq_true this
  refine ⟨rise_at (fun i hi => ?_), by omega, fun p hp => ?_⟩
  · have hi2 : i + 1 < ps.length := by simpa [names8] using hi
    have h1 := (h.1 (i + 1) hi2).2 (by omega)
    have e : ∀ j, (names8 ps).getD j [] = (ps.getD j pk0).1 := fun j => by
      unfold names8
      rw [List.getD_eq_getElem?_getD, List.getD_eq_getElem?_getD, List.getElem?_map]
      cases ps[j]? <;> rfl
    rw [e, e]
    exact leT_no.1 h1
  · obtain ⟨i, hi, rfl⟩ := List.mem_iff_getElem.1 hp
    have h1 := (h.1 i hi).1
    simpa [List.getD, hi] using h1

/-- Where one of a name is. -/
def at8Go (s : List UInt8) : List Pk → Nat → Int
  | [], _ => -1
  | p :: r, k => if p.1 = s then (k : Int) else at8Go s r (k + 1)
def at8 (ps : List Pk) (s : List UInt8) : Int := at8Go s ps 0
theorem at8Go_drop {ps : List Pk} {k : Nat} (hk : k < ps.length) (s : List UInt8) : at8Go s (ps.drop k) k = if (ps.getD k pk0).1 = s then (k : Int) else at8Go s (ps.drop (k + 1)) (k + 1) := by
  rw [List.drop_eq_getElem_cons hk, at8Go]
  have : ps.getD k pk0 = ps[k] := by rw [List.getD_eq_getElem?_getD, List.getElem?_eq_getElem hk]; rfl
  rw [this]
theorem at8Go_mem (s : List UInt8) : ∀ (ps : List Pk) (k : Nat), (s ∈ names8 ps ∧ 0 ≤ at8Go s ps k ∧ (k : Int) ≤ at8Go s ps k ∧ at8Go s ps k < k + ps.length) ∨ (¬ s ∈ names8 ps ∧ at8Go s ps k = -1)
  | [], k => Or.inr ⟨by simp [names8], rfl⟩
  | p :: r, k => by
    rw [at8Go]
    by_cases h : p.1 = s
    · rw [if_pos h]; exact Or.inl ⟨by simp [names8, h], by omega, by omega, by simp; omega⟩
    · rw [if_neg h]
      rcases at8Go_mem s r (k + 1) with ⟨h1, h2, h3, h4⟩ | ⟨h1, h2⟩
      · exact Or.inl ⟨by simp only [names8, List.map_cons, List.mem_cons]; exact Or.inr h1, h2, by omega, by simp; omega⟩
      · exact Or.inr ⟨by simp only [names8, List.map_cons, List.mem_cons]; rintro (e | e); exact h e.symm; exact h1 e, h2⟩
theorem at8_mem (ps : List Pk) (s : List UInt8) : 0 ≤ at8 ps s ↔ s ∈ names8 ps := by
  rcases at8Go_mem s ps 0 with ⟨h1, h2, _⟩ | ⟨h1, h2⟩
  · exact ⟨fun _ => h1, fun _ => h2⟩
  · unfold at8; exact ⟨fun h => by omega, fun h => absurd h h1⟩
/-! Order. -/
def free8 (ps : List Pk) (out : List (List UInt8)) (p : Pk) : Prop := ¬ p.1 ∈ out ∧ ∀ m ∈ p.2.1, m ∈ names8 ps → m ∈ out
instance (ps : List Pk) (out : List (List UInt8)) (p : Pk) : Decidable (free8 ps out p) := by unfold free8; infer_instance
def next8 (ps : List Pk) (out : List (List UInt8)) : Option Pk := ps.find? (fun p => decide (free8 ps out p))
def orderGo (ps : List Pk) : Nat → List (List UInt8) → List (List UInt8)
  | 0, out => out
  | n + 1, out => match next8 ps out with
    | none => out
    | some p => orderGo ps n (out ++ [p.1])
def order8 (ps : List Pk) : List (List UInt8) := orderGo ps (ps.length + 1) []
theorem next8_some {ps : List Pk} {out : List (List UInt8)} {p : Pk} (h : next8 ps out = some p) : p ∈ ps ∧ free8 ps out p :=
  ⟨List.mem_of_find?_eq_some h, of_decide_eq_true (List.find?_some (p := fun p => decide (free8 ps out p)) h)⟩
/-- What Order has so far: names that are there, none twice, each behind what it needs. -/
structure Or8 (ps : List Pk) (out : List (List UInt8)) : Prop where
  nd : out.Nodup
  sub : ∀ x ∈ out, x ∈ names8 ps
  need : ∀ p ∈ ps, p.1 ∈ out → ∀ m ∈ p.2.1, m ∈ names8 ps → m ∈ out.takeWhile (fun x => decide (x ≠ p.1))
theorem or8_nil (ps : List Pk) : Or8 ps [] := ⟨List.nodup_nil, fun x hx => by simp at hx, fun p _ h => by simp at h⟩
theorem Or8.len {ps : List Pk} {out : List (List UInt8)} (h : Or8 ps out) : out.length ≤ ps.length := by
  have := h.nd.length_le_of_subset (fun x hx => h.sub x hx)
  simpa [names8] using this
theorem takeW_app {out : List (List UInt8)} {x n : List UInt8} (h : x ∈ out) : (out ++ [n]).takeWhile (fun y => decide (y ≠ x)) = out.takeWhile (fun y => decide (y ≠ x)) := by
  induction out with
  | nil => simp at h
  | cons a r ih =>
    by_cases e : a = x
    · subst e; simp [List.takeWhile]
    · have h2 : x ∈ r := by
        rcases List.mem_cons.1 h with h | h
        · exact absurd h.symm e
        · exact h
      simp only [List.cons_append, List.takeWhile_cons]
      rw [if_pos (by simpa using e), if_pos (by simpa using e), ih h2]
theorem takeW_no {out : List (List UInt8)} {x : List UInt8} (h : ¬ x ∈ out) : out.takeWhile (fun y => decide (y ≠ x)) = out := by
  induction out with
  | nil => rfl
  | cons a r ih =>
    simp only [List.mem_cons, not_or] at h
    rw [List.takeWhile_cons, if_pos (by simpa using fun e => h.1 e.symm), ih h.2]
theorem Or8.step {ps : List Pk} (hn : (names8 ps).Nodup) {out : List (List UInt8)} (h : Or8 ps out) {p : Pk} (hp : next8 ps out = some p) : Or8 ps (out ++ [p.1]) := by
  obtain ⟨hm, hf⟩ := next8_some hp
  refine ⟨List.nodup_append.2 ⟨h.nd, by simp, fun a ha b hb => by rw [List.mem_singleton] at hb; subst hb; intro e; subst e; exact hf.1 ha⟩, fun x hx => ?_, fun q hq hqo m hmq hmn => ?_⟩
  · rw [List.mem_append, List.mem_singleton] at hx
    rcases hx with hx | rfl
    · exact h.sub x hx
    · exact List.mem_map.2 ⟨p, hm, rfl⟩
  · by_cases hqi : q.1 ∈ out
    · rw [takeW_app hqi]; exact h.need q hq hqi m hmq hmn
    · rw [List.mem_append, List.mem_singleton] at hqo
      have e : q.1 = p.1 := hqo.resolve_left hqi
      have hqp : q = p := by
        obtain ⟨i, hi, rfl⟩ := List.mem_iff_getElem.1 hq
        obtain ⟨j, hj, rfl⟩ := List.mem_iff_getElem.1 hm
        have hij : i = j := by
          have h1 : (names8 ps)[i]'(by simpa [names8] using hi) = (names8 ps)[j]'(by simpa [names8] using hj) := by simpa [names8] using e
          exact (List.getElem_inj hn).1 h1
        subst hij; rfl
      subst hqp
      have e2 : (out ++ [q.1]).takeWhile (fun y => decide (y ≠ q.1)) = out := by
        have := takeW_no hqi
        rw [List.takeWhile_append, this]
        simp
      rw [e2]
      exact hf.2 m hmq hmn
theorem orderGo_end {ps : List Pk} (hn : (names8 ps).Nodup) : ∀ (n : Nat) (out : List (List UInt8)), Or8 ps out → ps.length < n + out.length → Or8 ps (orderGo ps n out) ∧ next8 ps (orderGo ps n out) = none
  | 0, out, h, hl => by have := h.len; omega
  | n + 1, out, h, hl => by
    rw [orderGo]
    rcases hx : next8 ps out with _ | p
    · exact ⟨h, hx⟩
    · exact orderGo_end hn n (out ++ [p.1]) (h.step hn hx) (by rw [List.length_append, List.length_singleton]; omega)
theorem order8_end {ps : List Pk} (h : projB ps = true) : Or8 ps (order8 ps) ∧ next8 ps (order8 ps) = none :=
  orderGo_end (projB_parts h).1.nodup _ _ (or8_nil ps) (by simp)
theorem orderGo_none {ps : List Pk} {out : List (List UInt8)} (n : Nat) (h : next8 ps out = none) : orderGo ps n out = out := by
  cases n with
  | zero => rfl
  | succ n => rw [orderGo, h]
theorem orderGo_some {ps : List Pk} {out : List (List UInt8)} {p : Pk} (n : Nat) (h : next8 ps out = some p) : orderGo ps (n + 1) out = orderGo ps n (out ++ [p.1]) := by rw [orderGo, h]

end Go.Proofs.Ytkjojhkpoooimaa
