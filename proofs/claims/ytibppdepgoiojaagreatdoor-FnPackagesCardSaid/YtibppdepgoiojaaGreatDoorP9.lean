/-
  Parts of one proof, one behind the other: DrawTr3, DrawTr4, Math7, PackS, PackS2.
-/
import Derived.Test.YtibppdepgoiojaaGreatDoorP8
import Derived.Test.YtibppdepgoiojaaGreatDoorP7
import Derived.Test.YtibppdepgoiojaaGreatDoorP2
import Derived.Test.YtibppdepgoiojaaGreatDoorP4
import Derived.Test.YtibppdepgoiojaaGreatDoorP5
import Derived.BigQuiet
import Derived.Deep.RegionHeld3
import Derived.Deep.Cut

/-! Any list of nodes is drawn. -/
namespace Go.Proofs.YtibppdepgoiojaaGreatDoor
open Go.RowKit

/-- A literal of nodes is put behind a row that a call owns. -/
theorem push_nodes (W : World) (base : Nat) (v : Value) (ns ms : List Nd) (cs : Array Value) (hcs : cs.toList = nodesV ms) (hown : W.ownsRow base 76 4 v ns.length (nodesV ns)) (hb : base ≤ W.heap.size) (hl : ns.length + ms.length ≤ 100000) :
    ∃ v' w', (Builtin.append_ #[35, 35] 35 #[v, .slice (some ⟨W.heap.size, 0, none⟩) ms.length ms.length]).run Tryz.prog (W.alloc (.cells cs 76)) = .ok v' w' ∧ w'.ownsRow base 76 4 v' (ns ++ ms).length (nodesV (ns ++ ms)) ∧ W.grownBy w' v.ownBlock := by
  obtain ⟨i0, hi, hz0, hz1, hz2⟩ := info_parts infoNode
  have hsz : cs.size = ms.length * 4 := by rw [← nodesV_len, ← hcs]; simp
  have hlit := World.ownsRow_lit (base := base) (e := 76) (size := 4) W cs ms.length hb (by unfold maxLen; omega) hsz
  rw [hcs] at hlit
  obtain ⟨v', w', hrun, hown', hg, _⟩ := run_append_src (P := Tryz.prog) (W.alloc (.cells cs 76)) base 35 35 76 i0 _ 4 48 Tryz.underlying35 hi hz0 hz1 hz2 rfl (by decide) _ _ _ (hown.alloc _) _ ms.length (nodesV ms) (own_src hlit (nodesV_one _)) (by unfold maxLen; omega) (by omega) (by simp; omega)
  exact ⟨v', w', hrun, by rw [nodesV_append, List.length_append]; exact hown', (World.grownBy_alloc W _ _).trans hg⟩

theorem nodesV_take (ns : List Nd) (k : Nat) : (nodesV ns).take (k * 4) = nodesV (ns.take k) := by
  induction ns generalizing k with
  | nil => simp [nodesV]
  | cons n r ih =>
    cases k with
    | zero => simp [nodesV]
    | succ k => rw [show (k + 1) * 4 = k * 4 + 1 + 1 + 1 + 1 by omega]; simp [nodesV, ih]

/-- A row of nodes cut at its end. -/
theorem own_takeN {w : World} {base g n cp : Nat} {ns : List Nd} (h : w.ownsRow base 76 4 (.slice (some ⟨g, 0, none⟩) n cp) n (nodesV ns)) (hn : ns.length = n) (m : Nat) (hm : m ≤ n) : w.ownsRow base 76 4 (.slice (some ⟨g, 0, none⟩) m cp) (ns.take m).length (nodesV (ns.take m)) := by
  have hl : (ns.take m).length = m := by rw [List.length_take]; omega
  rw [hl]
  have h0 := h.1
  rcases h.2 with ⟨h', _⟩ | ⟨g', cap', cur, h', hb, hg, hnc, hcm, hcs, htake⟩
  · simp at h'
  · simp only [Value.slice.injEq, Option.some.injEq, Addr.mk.injEq, and_true, true_and] at h'
    obtain ⟨rfl, rfl⟩ := h'
    refine ⟨by rw [nodesV_len, hl], .inr ⟨g, cp, cur, rfl, hb, hg, by omega, hcm, hcs, ?_⟩⟩
    rw [← nodesV_take, ← htake, List.take_take]
    congr 1
    omega

theorem small_take {ns : List Nd} (h : SmallT ns) (k : Nat) : SmallT (ns.take k) := fun n hn => h n (List.mem_of_mem_take hn)
theorem small_app {ns ms : List Nd} (h : SmallT ns) (k : SmallT ms) : SmallT (ns ++ ms) := fun n hn => (List.mem_append.1 hn).elim (h n) (k n)
theorem small_set {ns : List Nd} (h : SmallT ns) {n : Nd} (hn : SmallN n) (k : Nat) : SmallT (ns.set k n) := fun m hm => (List.mem_or_eq_of_mem_set hm).elim (h m) (fun e => by rw [e]; exact hn)
theorem small_num : SmallT [ndNum] := by intro m hm; rw [List.mem_singleton] at hm; subst hm; exact small0 1 (by omega) (by omega)
theorem small_pairs : ∀ j, SmallT (pairsL j)
  | 0 => fun n hn => by cases hn
  | j + 1 => fun n hn => by
    rcases List.mem_cons.1 hn with rfl | hn
    · exact small0 3 (by omega) (by omega)
    · rcases List.mem_cons.1 hn with rfl | hn
      · exact small0 1 (by omega) (by omega)
      · exact small_pairs j n hn

def callsA : List Nd := [(8, 2, [108, 105, 98], [102]), (8, 0, [108, 105, 98], [103])]

theorem callsA_at (j : Nat) : callsA.getD j nd0 = (8, 2, [108, 105, 98], [102]) ∨ callsA.getD j nd0 = (8, 0, [108, 105, 98], [103]) ∨ callsA.getD j nd0 = nd0 := by
  match j with
  | 0 => exact Or.inl rfl
  | 1 => exact Or.inr (Or.inl rfl)
  | j + 2 => exact Or.inr (Or.inr (by simp [callsA, List.getD]))

theorem callsA_small (j : Nat) : SmallN (callsA.getD j nd0) ∧ kidsV (callsA.getD j nd0) ≤ 3 := by
  rcases callsA_at j with h | h | h <;> rw [h] <;> exact ⟨⟨⟨by decide, by decide⟩, by decide, by decide⟩, by decide⟩

def lenV : Value → Nat
  | .slice _ n _ => n
  | _ => 0

theorem own_capG {w : World} {base e size g n cp : Nat} {xs : List Value} (h : w.ownsRow base e size (.slice (some ⟨g, 0, none⟩) n cp) n xs) : n ≤ cp ∧ cp ≤ maxLen := by
  rcases h.2 with ⟨h', _⟩ | ⟨g', cap', cur, h', hb, hg, hnc, hcm, hcs, htake⟩
  · simp at h'
  · simp only [Value.slice.injEq, Option.some.injEq, Addr.mk.injEq, and_true, true_and] at h'
    obtain ⟨rfl, rfl⟩ := h'
    exact ⟨hnc, hcm⟩

theorem nodesV_pkg (ns : List Nd) (p : List UInt8) (h : 0 < ns.length) : (nodesV ns).set 2 (.string ⟨p.toArray⟩) = nodesV (ns.set 0 ((ns.getD 0 nd0).1, (ns.getD 0 nd0).2.1, p, (ns.getD 0 nd0).2.2.2)) := by
  cases ns with
  | nil => simp at h
  | cons n r => simp [nodesV]

/-- What a drawn list is, as the walk keeps it. -/
def Any6 (w wx : World) (B : Nat) (a : Option Addr) (len cap : Nat) (v : Value) : Prop :=
  ∃ ns : List Nd, wx.ownsRow w.heap.size 76 4 v ns.length (nodesV ns) ∧ ns.length ≤ 62 ∧ SmallT ns ∧ EndsOk ns ∧ Cur wx B a len cap ∧ w.grownBy wx (some B)

set_option maxHeartbeats 4000000 in
set_option maxRecDepth 100000 in
theorem drawAny6 (w : World) (B : Nat) (a : Option Addr) (len cap : Nat) (hc : Cur w B a len cap) :
    Calls Tryz.prog 57 #[.pointer (some ⟨B, 0, none⟩)] w fun e w' => ∃ v, e = .returned v ∧ Any6 w w' B a len cap v := by
  have hBw := hc.lt
  have hlit := World.ownsRow_lit (base := w.heap.size) (e := 76) (size := 4) w #[.int .i64 8, .int .i64 2, .string ⟨#[108, 105, 98]⟩, .string ⟨#[102]⟩, .int .i64 8, .int .i64 0, .string ⟨#[108, 105, 98]⟩, .string ⟨#[103]⟩] 2 (Nat.le_refl _) (by decide) rfl
  obtain ⟨_, a0, c0, he0, hin0⟩ := own_nodes (ns := callsA) hlit
  have hc0 := hc.kept (World.grownBy_alloc w (.cells #[.int .i64 8, .int .i64 2, .string ⟨#[108, 105, 98]⟩, .string ⟨#[102]⟩, .int .i64 8, .int .i64 0, .string ⟨#[108, 105, 98]⟩, .string ⟨#[103]⟩] 76) none) (by simp)
  have hg0 := World.grownBy_alloc w (.cells #[.int .i64 8, .int .i64 2, .string ⟨#[108, 105, 98]⟩, .string ⟨#[102]⟩, .int .i64 8, .int .i64 0, .string ⟨#[108, 105, 98]⟩, .string ⟨#[103]⟩] 76) (some B)
  obtain ⟨rfl, rfl⟩ : a0 = some ⟨w.heap.size, 0, none⟩ ∧ c0 = 2 := by
    simp only [Value.slice.injEq, true_and] at he0
    exact ⟨he0.1.symm, he0.2.symm⟩
  have hT : Hid (_) := drawTreeOk _ B a len cap 3 (some ⟨w.heap.size, 0, none⟩) 2 2 callsA (by omega) (by omega) hc0 hin0 (by omega) (fun j => (callsA_small j).1) (fun j => (callsA_small j).2) (fun b off e => by simp only [Option.some.injEq, Addr.mk.injEq, and_true] at e; omega)
  clear hlit hin0 he0 hc hc0
  go_enter Tryz.func57, Tryz.ntmps57
  go_wp2_with fail
  refine Calls.mono hT.out ?_
  rintro e w2 ⟨v2, ns, rfl, hown2, htr, hs2, hc2, hg2⟩
  have hG2 := hg0.trans hg2
  have hown3 := own_base hown2 hg0.size
  obtain ⟨⟨ht1, ht2⟩, _⟩ := tree_end htr
  have HTR : Hid (treeB ns = true) := htr
  clear hT hg0 hg2 hown2 htr
  go_wp2_with fail
  refine (drawOnce _ B a len cap 6 (by omega) (by omega) hc2).mono ?_
  rintro e w4 ⟨b4, rfl, hc4, hg4⟩
  have hvl := own_ge hown3
  have hown4 := hown3.kept hg4 (own_ne4 (fun q e1 e2 => by have := hvl q e1; omega))
  have hG4 := hG2.trans hg4
  clear hown3 hc2 hG2 hg4
  go_upto_if 10 with fail
  go_cut [3] from 4 (fun v wx => Hid (Any6 w wx B a len cap v))
  case first =>
    rcases b4 with _ | _
    · go_wp2_with fail
      go_meet
      case rel => exact ⟨ns, hown4, by omega, hs2, ends_len ht2, hc4, hG4⟩
    · go_wp2_with fail
      refine (drawBelow _ B a len cap 4 (by omega) (by omega) hc4).mono ?_
      rintro e w5 ⟨x5, rfl, h50, h51, hc5, hg5⟩
      have hown5 := hown4.kept hg5 (own_ne4 (fun q e1 e2 => by have := hvl q e1; omega))
      have hG5 := hG4.trans hg5
      obtain ⟨g, cp, rfl⟩ := own_some hown5 (by omega)
      have hgl : w.heap.size ≤ g := hvl g rfl
      clear hown4 hc4 hG4 hg5
      rcases (show x5 = 0 ∨ x5 = 1 ∨ x5 = 2 ∨ x5 = 3 by omega) with rfl | rfl | rfl | rfl
      · obtain ⟨v6, w6, hrun, hown6, hg6⟩ := push_nodes w5 w.heap.size _ ns [ndNum] #[.int .i64 1, .int .i64 0, .string ⟨#[]⟩, .string ⟨#[]⟩] rfl hown5 hG5.size (by simp; omega)
        go_wp2_with (at_builtin; refine wpList_append_run rfl (.tmp 15) (.tmp 17) 35 rfl _ _ _ rfl rfl hrun ?_; clear hrun)
        go_meet
        case rel => exact ⟨ns ++ [ndNum], hown6, by simp; omega, small_app hs2 small_num, ends_snoc HTR.out _, hc5.kept hg6 (fun q e => by have := hvl q e; omega), hG5.andThen hg6 (fun q e => Or.inl (hvl q e))⟩
      · have hown6 := own_takeN hown5 rfl (ns.length - 1) (by omega)
        obtain ⟨hcp, _⟩ := own_capG hown5
        have hlc : ((ns.length : Int) - 1).toNat = ns.length - 1 := by omega
        go_wp2_with fail
        go_meet
        case rel => exact ⟨ns.take (ns.length - 1), by simpa [hlc] using hown6, by rw [List.length_take]; omega, small_take hs2 _, ends_len (by rw [List.length_take]; omega), hc5, hG5⟩
      · go_wp2_with fail
        refine (drawFromG _ B a len cap (-1) 11 (by omega) (by omega) (by omega) hc5).mono ?_
        rintro e w6 ⟨x6, rfl, h60, h61, hc6, hg6⟩
        have hown6 := hown5.kept hg6 (own_ne4 (fun q e1 e2 => by have := hvl q e1; omega))
        have hG6 := hG5.trans hg6
        clear hown5 hc5 hG5 hg6
        go_wp2_with fail
        refine (drawFromG _ B a len cap (-1) 5 (by omega) (by omega) (by omega) hc6).mono ?_
        rintro e w7 ⟨x7, rfl, h70, h71, hc7, hg7⟩
        have hown7 := hown6.kept hg7 (own_ne4 (fun q e1 e2 => by have := hvl q e1; omega))
        have hG7 := hG6.trans hg7
        clear hown6 hc6 hG6 hg7
        have hset := ((((hown7.stored 0 (.int .i64 x6)).1.stored 1 (.int .i64 x7)).1.stored 2 (.string ⟨#[]⟩)).1.stored 3 (.string ⟨#[]⟩)).1
        have hsv := nodesV_set ns 0 x6 x7 [] []
        simp only [Nat.zero_mul, Nat.zero_add] at hsv
        rw [hsv] at hset
        have c0 := hown7.cellAt 0 (by omega)
        have c1 := hown7.cellAt 1 (by omega)
        have c2 := hown7.cellAt 2 (by omega)
        have c3 := hown7.cellAt 3 (by omega)
        obtain ⟨v0, v1, v2, v3⟩ := nodesV_at ns 0 (by omega)
        simp only [Nat.zero_mul, Nat.zero_add] at v0 v1 v2 v3
        rw [v0] at c0
        rw [v1] at c1
        rw [v2] at c2
        rw [v3] at c3
        have f0 := hown7.frozenAt 0
        have f1 := hown7.frozenAt 1
        have f2 := hown7.frozenAt 2
        have f3 := hown7.frozenAt 3
        have hgg := grown_set4 w7 g (.int .i64 x6) (.int .i64 x7) (.string ⟨#[]⟩) (.string ⟨#[]⟩)
        clear hsv v0 v1 v2 v3 hown7
        go_wp2_with fail
        go_meet
        case rel => exact ⟨ns.set 0 (x6, x7, [], []), by rw [List.length_set]; exact hset, by rw [List.length_set]; omega, small_set hs2 ⟨⟨⟨by simp only; omega, by simp only; omega⟩, ⟨by simp only; omega, by simp only; omega⟩⟩, by simp, by simp⟩ 0, ends_len (by rw [List.length_set]; omega), hc7.kept hgg (by simp; omega), hG7.andThen hgg (fun q e => Or.inl (by simp at e; omega))⟩
      · have hset := (hown5.stored 2 (.string ⟨#[120]⟩)).1
        have hsv := nodesV_pkg ns [120] (by omega)
        rw [hsv] at hset
        have c2 := hown5.cellAt 2 (by omega)
        obtain ⟨_, _, v2, _⟩ := nodesV_at ns 0 (by omega)
        simp only [Nat.zero_mul, Nat.zero_add] at v2
        rw [v2] at c2
        have f2 := hown5.frozenAt 2
        have hgg := grown_setCell w5 g 2 (.string ⟨#[120]⟩)
        clear hsv v2 hown5
        go_wp2_with fail
        go_meet
        case rel => exact ⟨ns.set 0 ((ns.getD 0 nd0).1, (ns.getD 0 nd0).2.1, [120], (ns.getD 0 nd0).2.2.2), by rw [List.length_set]; exact hset, by rw [List.length_set]; omega, small_set hs2 (n := ((ns.getD 0 nd0).1, (ns.getD 0 nd0).2.1, [120], (ns.getD 0 nd0).2.2.2)) ⟨(small_at hs2 0).1, by simp, (small_at hs2 0).2.2⟩ 0, ends_len (by rw [List.length_set]; omega), hc5.kept hgg (by simp; omega), hG5.andThen hgg (fun q e => Or.inl (by simp at e; omega))⟩
  case rest =>
    clear hown4 hc4 hG4 hs2 HTR hvl ht1 ht2
    obtain ⟨ns1, hown, hl1, hs1, he1, hc1, hG1⟩ := hcut.out
    go_wp2_with fail
    refine (drawOnce _ B a len cap 40 (by omega) (by omega) hc1).mono ?_
    rintro e w8 ⟨b8, rfl, hc8, hg8⟩
    have hvl := own_ge hown
    have hown8 := hown.kept hg8 (own_ne4 (fun q e1 e2 => by have := hvl q e1; omega))
    have hG8 := hG1.trans hg8
    clear hown hc1 hG1 hg8 hcut
    rcases b8 with _ | _
    · go_wp2
      go_ret
      exact ⟨_, rfl, ns1, hown8, hl1, hs1, he1, hc8, hG8⟩
    · clear hown8 hs1 he1 hl1 hvl
      have hownE := World.ownsRow_lit (base := w.heap.size) (e := 76) (size := 4) w8 #[] 0 hG8.size (by decide) rfl
      have hcE := hc8.kept (World.grownBy_alloc w8 (.cells #[] 76) none) (by simp)
      have hGE := hG8.trans (World.grownBy_alloc w8 (.cells #[] 76) (some B))
      go_wp2
      go_loopw [3] (fun v wr => ∃ (j : Nat) (av : Option Addr) (cv : Nat), v = .slice av (2 * j) cv ∧ j ≤ 31 ∧ Hid (wr.ownsRow w.heap.size 76 4 v (pairsL j).length (nodesV (pairsL j))) ∧ Hid (Cur wr B a len cap) ∧ Hid (w.grownBy wr (some B))) (fun v _ => 64 - lenV v)
      case atStart => exact ⟨0, _, _, rfl, by omega, hownE, hcE, hGE⟩
      case round =>
        obtain ⟨j, av, cv, rfl, hj, HV, hcr, hGr⟩ := hrel
        clear hownE hcE hGE hc8 hG8
        have hvl := own_ge HV.out
        go_wp2_with fail
        refine (drawBelow _ B a len cap 2 (by omega) (by omega) hcr.out).mono ?_
        rintro e w9 ⟨x9, rfl, h90, h91, hc9, hg9⟩
        have hown9 := HV.out.kept hg9 (own_ne4 (fun q e1 e2 => by have := hvl q e1; omega))
        have hG9 := hGr.out.trans hg9
        clear HV hcr hGr hg9
        by_cases hlt : ((2 * j : Nat) : Int) < 59 + 2 * x9
        · obtain ⟨v6, w6, hrun, hown6, hg6⟩ := push_nodes w9 w.heap.size _ (pairsL j) [ndAdd, ndNum] #[.int .i64 3, .int .i64 0, .string ⟨#[]⟩, .string ⟨#[]⟩, .int .i64 1, .int .i64 0, .string ⟨#[]⟩, .string ⟨#[]⟩] rfl hown9 hG9.size (by rw [pairs_len]; simp; omega)
          rw [pairs_snoc] at hown6
          obtain ⟨_, a6, c6, rfl, _⟩ := own_nodes hown6
          have hl6 : (pairsL (j + 1)).length = 2 * (j + 1) := pairs_len (j + 1)
          have HO : Hid (w6.ownsRow w.heap.size 76 4 (.slice a6 (2 * (j + 1)) c6) (pairsL (j + 1)).length (nodesV (pairsL (j + 1)))) := by exact (by rw [← hl6]; exact hown6 : w6.ownsRow w.heap.size 76 4 (.slice a6 (2 * (j + 1)) c6) (pairsL (j + 1)).length (nodesV (pairsL (j + 1))))
          have hc6 : Hid (Cur w6 B a len cap) := hc9.kept hg6 (fun q e => by have := hvl q e; omega)
          have hG6 : Hid (w.grownBy w6 (some B)) := hG9.andThen hg6 (fun q e => Or.inl (hvl q e))
          rw [hl6] at hrun
          clear hown6 hg6 hown9 hc9 hG9 hvl hl6
          go_wp2_with (at_builtin; refine wpList_append_run rfl (.tmp 50) (.tmp 53) 35 rfl _ _ _ rfl rfl hrun ?_; clear hrun)
          go_roundw
          case rel => exact ⟨j + 1, a6, c6, rfl, by omega, HO, hc6, hG6⟩
          case measure => simp [lenV]; omega
        · obtain ⟨i, rfl⟩ : ∃ i, j = i + 1 := ⟨j - 1, by omega⟩
          obtain ⟨g, cp, hgf⟩ := own_some hown9 (by rw [pairs_len]; omega)
          rw [pairs_len] at hgf
          simp only [Value.slice.injEq] at hgf
          obtain ⟨rfl, _, rfl⟩ := hgf
          rw [show (pairsL (i + 1)).length = 2 * (i + 1) from pairs_len _] at hown9
          obtain ⟨hcp, _⟩ := own_capG hown9
          have hown5 := own_takeN hown9 (pairs_len _) (2 * i + 1) (by omega)
          obtain ⟨v6, w6, hrun, hown6, hg6⟩ := push_nodes w9 w.heap.size _ _ [ndNum] #[.int .i64 1, .int .i64 0, .string ⟨#[]⟩, .string ⟨#[]⟩] rfl hown5 hG9.size (by rw [List.length_take, pairs_len]; simp; omega)
          rw [pairs_cut] at hown6
          have hlc : (((2 * (i + 1) : Nat) : Int) - 1).toNat = 2 * i + 1 := by omega
          have hc6 : Cur w6 B a len cap := hc9.kept hg6 (fun q e => by have := hvl q e; omega)
          have hG6 : w.grownBy w6 (some B) := hG9.andThen hg6 (fun q e => Or.inl (hvl q e))
          clear hown5 hown9 hg6 hc9 hG9
          go_wp2_with (at_builtin; refine wpList_append_run rfl (.tmp 59) (.tmp 61) 35 rfl _ _ _ (by first | rfl | simp [hlc]) rfl hrun ?_; clear hrun)
          go_ret
          exact ⟨_, rfl, pairsL (i + 1), hown6, by rw [pairs_len]; omega, small_pairs _, ends_pairs _, hc6, hG6⟩

end Go.Proofs.YtibppdepgoiojaaGreatDoor

/-! The contracts of DrawTreeOk, DrawShowTree, DrawEndOf, DrawPartsOf, DrawReadTree. -/
namespace Go.Proofs.YtibppdepgoiojaaGreatDoor
open Go.RowKit

/-- A drawn list, as a law has it. -/
def Drawn6 (w wx : World) (v : Value) (ns : List Nd) : Prop := wx.ownsRow w.heap.size 76 4 v ns.length (nodesV ns) ∧ ns.length ≤ 62 ∧ SmallT ns ∧ EndsOk ns

theorem showT_len {ns : List Nd} : (showT ns).length ≤ 1860 := by
  unfold showT
  split
  · rename_i h
    have h1 := showL_len ns (tree_nodes h)
    have h2 := (tree_end h).1.2
    omega
  · simp






end Go.Proofs.YtibppdepgoiojaaGreatDoor

/-! Plain facts for chapter 7 (packages). -/
namespace Go.Proofs.YtibppdepgoiojaaGreatDoor
open Go.RowKit

def leT (a b : List UInt8) : Bool := Op.bytesLess a b || (a == b)

/-- Each is behind the one ahead of it. -/
def riseB (l : List (List UInt8)) : Bool := decide (∀ i, i < l.length - 1 → leT (l.getD (i + 1) []) (l.getD i []) = false)
theorem riseB_yes {l : List (List UInt8)} {j : Nat} (hj : l.length ≤ j + 1) (h : ∀ i, i < j → leT (l.getD (i + 1) []) (l.getD i []) = false) : riseB l = true := decide_eq_true (fun i hi => h i (by omega))
theorem riseB_no {l : List (List UInt8)} {j : Nat} (hj : j + 1 < l.length) (h : leT (l.getD (j + 1) []) (l.getD j []) = true) : riseB l = false := decide_eq_false (fun g => by rw [g j (by omega)] at h; cases h)

def importsB (l : List (List UInt8)) : Bool := decide (∀ i, i < l.length → nameB (l.getD i []) = true) && (decide (l.length ≤ 6) && riseB l)
theorem importsB_no {l : List (List UInt8)} {j : Nat} (hj : j < l.length) (h : nameB (l.getD j []) = false) : importsB l = false := by
  unfold importsB
  rw [decide_eq_false (fun g => by rw [g j hj] at h; cases h)]; rfl
theorem importsB_all {l : List (List UInt8)} (h : ∀ i, i < l.length → nameB (l.getD i []) = true) : importsB l = (decide (l.length ≤ 6) && riseB l) := by
  unfold importsB
  rw [decide_eq_true h]; rfl

/-- A function: its name, how many arguments, its tree. -/
abbrev Fn := List UInt8 × Int × List Nd
/-- A package: its name, its imports, its functions. -/
abbrev Pk := List UInt8 × List (List UInt8) × List Fn

def fn0 : Fn := ([], 0, [])
def funcB (f : Fn) : Bool := nameB f.1 && (inB f.2.1 0 3 && treeB f.2.2)

/-- The first of such a name, from k on. -/
def atGo (s : List UInt8) : List Fn → Nat → Int
  | [], _ => -1
  | f :: r, k => if f.1 = s then (k : Int) else atGo s r (k + 1)
def atV (fs : List Fn) (s : List UInt8) : Int := atGo s fs 0

theorem atGo_drop {fs : List Fn} {k : Nat} (hk : k < fs.length) (s : List UInt8) : atGo s (fs.drop k) k = if (fs.getD k fn0).1 = s then (k : Int) else atGo s (fs.drop (k + 1)) (k + 1) := by
  rw [List.drop_eq_getElem_cons hk, atGo]
  have : fs.getD k fn0 = fs[k] := by rw [List.getD_eq_getElem?_getD, List.getElem?_eq_getElem hk]; rfl
  rw [this]

def funcsOk (fs : List Fn) (i : Nat) : Prop := funcB (fs.getD i fn0) = true ∧ atV fs (fs.getD i fn0).1 = (i : Int)
instance (fs : List Fn) (i : Nat) : Decidable (funcsOk fs i) := by unfold funcsOk; infer_instance

def pkgB (p : Pk) : Bool := (nameB p.1 && (importsB p.2.1 && inB (p.2.2.length : Int) 1 8)) && decide (∀ i, i < p.2.2.length → funcsOk p.2.2 i)

end Go.Proofs.YtibppdepgoiojaaGreatDoor

/-! The contracts of chapter 7's specification: l1Rise, l7Imports, l7Func. -/
namespace Go.Proofs.YtibppdepgoiojaaGreatDoor
open Go.RowKit

set_option maxHeartbeats 2000000 in
set_option maxRecDepth 100000 in
theorem specRise (a : Option Addr) (len cap : Nat) (ts : List (List UInt8)) (w : World) (hin : TextsIn w a len ts) (hlen : len ≤ 1048576) :
    Calls Tryz.prog 70 #[.slice a len cap] w fun e w' => e = .returned (.bool (riseB ts)) ∧ Below w.heap.size w w' := by
  obtain rfl : ts.length = len := hin.1
  have HI : Hid (TextsIn w a ts.length ts) := hin
  clear hin
  go_enter Tryz.func70, Tryz.ntmps70
  go_wp2
  go_loopw [3] (fun iv wr => ∃ j : Nat, iv = .int .i64 ((j : Int) + 1) ∧ j ≤ ts.length ∧ Hid (∀ i, i < j → leT (ts.getD (i + 1) []) (ts.getD i []) = false) ∧ Hid (TextsIn wr a ts.length ts) ∧ Hid (Below w.heap.size w wr)) (fun iv _ => ts.length + 1 - (intOf iv).toNat)
  case atStart => exact ⟨0, rfl, by omega, (fun i hi => by omega), HI, Below.refl _ _⟩
  case round =>
    obtain ⟨j, rfl, hj, HA, HT, HB⟩ := hrel
    clear HI
    by_cases hlt : (j : Int) + 1 < (ts.length : Int)
    · obtain ⟨b, off, rfl, hbl, c0⟩ := HT.out.2 j (by omega)
      obtain ⟨b', off', he, _, c1⟩ := HT.out.2 (j + 1) (by omega)
      simp only [Option.some.injEq, Addr.mk.injEq, and_true] at he
      obtain ⟨rfl, rfl⟩ := he
      obtain ⟨x, hx⟩ : ∃ x, ts.getD j [] = x := ⟨_, rfl⟩
      obtain ⟨y, hy⟩ : ∃ y, ts.getD (j + 1) [] = y := ⟨_, rfl⟩
      rw [hx] at c0
      rw [hy] at c1
      rcases hle : leT y x with _ | _
      · have HA2 : Hid (∀ i, i < j + 1 → leT (ts.getD (i + 1) []) (ts.getD i []) = false) := fun i hi => by
          rcases Nat.lt_or_ge i j with h | h
          · exact HA.out i h
          · obtain rfl : i = j := by omega
            rw [hx, hy]; exact hle
        have HT2 : Hid (TextsIn wr (some ⟨b, off, none⟩) ts.length ts) := HT.out
        unfold leT at hle
        clear HA HT hx hy
        go_wp2_with fail
        go_quiet (fail)
        go_wp2
        go_roundw
        case rel => exact ⟨j + 1, by go_num, by omega, HA2, HT2, HB.out.trans ⟨rfl, rfl, rfl, Nat.le_refl _, fun _ _ => rfl⟩⟩
        case measure => simp [intOf]; omega
      · have HR : Hid (riseB ts = false) := riseB_no (j := j) (by omega) (by rw [hx, hy]; exact hle)
        unfold leT at hle
        clear HA HT hx hy
        go_wp2_with fail
        go_quiet (fail)
        go_wp2
        go_ret
        exact ⟨by rw [HR.out]; rfl, HB.out.trans ⟨rfl, rfl, rfl, Nat.le_refl _, fun _ _ => rfl⟩⟩
    · have HR : Hid (riseB ts = true) := riseB_yes (j := j) (by omega) HA.out
      go_wp2
      go_ret
      exact ⟨by rw [HR.out]; rfl, HB.out⟩

set_option maxHeartbeats 2000000 in
set_option maxRecDepth 100000 in
theorem specImports (a : Option Addr) (len cap : Nat) (ts : List (List UInt8)) (w : World) (hin : TextsIn w a len ts) (hlen : len ≤ 1048576) (hs : ∀ i, (ts.getD i []).length ≤ 1048576) :
    Calls Tryz.prog 43 #[.slice a len cap] w fun e w' => e = .returned (.bool (importsB ts)) ∧ Below w.heap.size w w' := by
  obtain rfl : ts.length = len := hin.1
  have HI : Hid (TextsIn w a ts.length ts) := hin
  have HS : Hid (∀ i, (ts.getD i []).length ≤ 1048576) := hs
  clear hin hs
  go_enter Tryz.func43, Tryz.ntmps43
  go_wp2
  go_loopw [3] (fun iv wr => ∃ j : Nat, iv = .int .i64 (j : Int) ∧ j ≤ ts.length ∧ Hid (∀ i, i < j → nameB (ts.getD i []) = true) ∧ Hid (TextsIn wr a ts.length ts) ∧ Hid (Below w.heap.size w wr)) (fun iv _ => ts.length - (intOf iv).toNat)
  case atStart => exact ⟨0, rfl, by omega, (fun i hi => by omega), HI, Below.refl _ _⟩
  case round =>
    obtain ⟨j, rfl, hj, HA, HT, HB⟩ := hrel
    clear HI
    by_cases hlt : (j : Int) < (ts.length : Int)
    · obtain ⟨b, off, rfl, hbl, c0⟩ := HT.out.2 j (by omega)
      have hxl := HS.out j
      obtain ⟨x, hx⟩ : ∃ x, ts.getD j [] = x := ⟨_, rfl⟩
      rw [hx] at c0 hxl
      have hC : Hid (_) := specNameOk x wr hxl
      rcases hnb : nameB x with _ | _
      · have HR : Hid (importsB ts = false) := importsB_no (j := j) (by omega) (by rw [hx]; exact hnb)
        rw [hnb] at hC
        clear HA HT hx hnb
        go_wp2_with (go_at_call 42; refine Calls.mono hC.out ?_; rintro e w1 ⟨rfl, rfl⟩)
        go_ret
        exact ⟨by rw [HR.out]; rfl, HB.out⟩
      · have HA2 : Hid (∀ i, i < j + 1 → nameB (ts.getD i []) = true) := fun i hi => by
          rcases Nat.lt_or_ge i j with h | h
          · exact HA.out i h
          · obtain rfl : i = j := by omega
            rw [hx]; exact hnb
        rw [hnb] at hC
        clear HA hx hnb
        go_wp2_with (go_at_call 42; refine Calls.mono hC.out ?_; rintro e w1 ⟨rfl, rfl⟩)
        go_roundw
        case rel => exact ⟨j + 1, by go_num, by omega, HA2, HT, HB⟩
        case measure => simp [intOf]; omega
    · have hall := importsB_all (l := ts) (fun i hi => HA.out i (by omega))
      by_cases h6 : (ts.length : Int) ≤ 6
      · have HR : Hid (importsB ts = riseB ts) := by
          exact (by rw [hall, decide_eq_true (show ts.length ≤ 6 by omega)]; rfl : importsB ts = riseB ts)
        have hC : Hid (_) := specRise a ts.length cap ts wr HT.out hlen
        clear hall HA HT
        go_wp2_with (go_at_call 70; refine Calls.mono hC.out ?_; rintro e w1 ⟨rfl, hb1⟩)
        go_ret
        exact ⟨by rw [HR.out]; rfl, HB.out.trans (hb1.mono HB.out.size)⟩
      · have HR : Hid (importsB ts = false) := by
          exact (by rw [hall, decide_eq_false (show ¬ ts.length ≤ 6 by omega)]; rfl : importsB ts = false)
        clear hall HA HT
        go_wp2
        go_ret
        exact ⟨by rw [HR.out]; rfl, HB.out⟩

/-- A function, as a value. -/
def FnVal (f : Fn) (ta : Option Addr) (tl tc : Nat) : Value := .agg #[.string ⟨f.1.toArray⟩, .int .i64 f.2.1, .slice ta tl tc]

set_option maxHeartbeats 2000000 in
set_option maxRecDepth 100000 in
theorem specFuncOk (f : Fn) (ta : Option Addr) (tl tc : Nat) (w : World) (hin : NodesIn w ta tl f.2.2) (hsh : ShortT f.2.2) (hlen : tl ≤ 1048576) (hn : f.1.length ≤ 1048576) :
    Calls Tryz.prog 45 #[.agg #[.string ⟨f.1.toArray⟩, .int .i64 f.2.1, .slice ta tl tc]] w fun e w' => e = .returned (.bool (funcB f)) ∧ Below w.heap.size w w' := by
  obtain ⟨s, n, t⟩ := f
  simp only at hin hsh hn ⊢
  obtain ⟨W, hW⟩ : ∃ W, w.alloc (.cells #[.string ⟨s.toArray⟩, .int .i64 n, .slice ta tl tc] 37) = W := ⟨_, rfl⟩
  have hbW : Below w.heap.size w W := by rw [← hW]; exact (Below.refl _ _).alloc (Nat.le_refl _) _
  have hA : W.heap[w.heap.size]? = some (.cells #[.string ⟨s.toArray⟩, .int .i64 n, .slice ta tl tc] 37) := by rw [← hW]; exact heap_alloc_new w _
  have c0 : W.cell? ⟨w.heap.size, 0, none⟩ = some (.string ⟨s.toArray⟩) := by simp [World.cell?, hA]
  have c1 : W.cell? ⟨w.heap.size, 1, none⟩ = some (.int .i64 n) := by simp [World.cell?, hA]
  have c2 : W.cell? ⟨w.heap.size, 2, none⟩ = some (.slice ta tl tc) := by simp [World.cell?, hA]
  have hC1 : Hid (_) := specNameOk s W hn
  have hC2 : Hid (_) := specIn n 0 3 W
  have hC3 : Hid (_) := specTreeOk ta tl tc t W (hin.below hbW) hsh hlen
  have HF : Hid (funcB (s, n, t) = (nameB s && (inB n 0 3 && treeB t))) := rfl
  generalize nameB s = nb at hC1 HF
  generalize inB n 0 3 = ib at hC2 HF
  generalize treeB t = tb at hC3 HF
  clear hin hsh hA
  go_enter Tryz.func45, Tryz.ntmps45
  rcases nb with _ | _
  · go_wp2_with (go_at_call 42; refine Calls.mono hC1.out ?_; rintro e w1 ⟨rfl, rfl⟩)
    go_ret
    exact ⟨by rw [HF.out]; rfl, hbW⟩
  · rcases ib with _ | _
    · go_wp2_with (first | (go_at_call 42; refine Calls.mono hC1.out ?_; rintro e w1 ⟨rfl, rfl⟩) | (go_at_call 44; refine Calls.mono hC2.out ?_; rintro e w1 ⟨rfl, rfl⟩))
      go_ret
      exact ⟨by rw [HF.out]; rfl, hbW⟩
    · go_wp2_with (first | (go_at_call 42; refine Calls.mono hC1.out ?_; rintro e w1 ⟨rfl, rfl⟩) | (go_at_call 44; refine Calls.mono hC2.out ?_; rintro e w1 ⟨rfl, rfl⟩) | (go_at_call 65; refine Calls.mono hC3.out ?_; rintro e w2 ⟨rfl, hb2⟩))
      go_ret
      exact ⟨by rw [HF.out]; rfl, hbW.trans (hb2.mono hbW.size)⟩

end Go.Proofs.YtibppdepgoiojaaGreatDoor

/-! The contracts of chapter 7's specification: l7At, PackageOk. -/
namespace Go.Proofs.YtibppdepgoiojaaGreatDoor
open Go.RowKit

/-- The functions fs lie at a, three cells each, their trees where those say. -/
def FuncsIn (w : World) (a : Option Addr) (len : Nat) (fs : List Fn) : Prop :=
  fs.length = len ∧ ∀ j, j < len → ∃ b off, a = some ⟨b, off, none⟩ ∧ b < w.heap.size ∧ w.cell? ⟨b, off + j * 3, none⟩ = some (.string ⟨(fs.getD j fn0).1.toArray⟩) ∧ w.cell? ⟨b, off + j * 3 + 1, none⟩ = some (.int .i64 (fs.getD j fn0).2.1) ∧
    ∃ ta tl tc, w.cell? ⟨b, off + j * 3 + 2, none⟩ = some (.slice ta tl tc) ∧ (ta = none → tc = 0) ∧ NodesIn w ta tl (fs.getD j fn0).2.2

theorem FuncsIn.below {w w' : World} {a : Option Addr} {len : Nat} {fs : List Fn} (h : FuncsIn w a len fs) (hb : Below w.heap.size w w') : FuncsIn w' a len fs := by
  refine ⟨h.1, fun j hj => ?_⟩
  obtain ⟨b, off, e, hlt, c0, c1, ta, tl, tc, c2, hnc, hn⟩ := h.2 j hj
  exact ⟨b, off, e, Nat.lt_of_lt_of_le hlt hb.size, (hb.cell (p := ⟨b, off + j * 3, none⟩) hlt).trans c0, (hb.cell (p := ⟨b, off + j * 3 + 1, none⟩) hlt).trans c1, ta, tl, tc, (hb.cell (p := ⟨b, off + j * 3 + 2, none⟩) hlt).trans c2, hnc, hn.below hb⟩

/-- No name, no tree is longer than a law lets them be. -/
def ShortF (fs : List Fn) : Prop := ∀ j, (fs.getD j fn0).1.length ≤ 1048576 ∧ (fs.getD j fn0).2.2.length ≤ 1048576 ∧ ShortT (fs.getD j fn0).2.2

set_option maxHeartbeats 2000000 in
set_option maxRecDepth 100000 in
theorem specAt (nm s : List UInt8) (ia : Option Addr) (il ic : Nat) (fa : Option Addr) (fl fc : Nat) (fs : List Fn) (w : World) (hin : FuncsIn w fa fl fs) (hlen : fl ≤ 1048576) :
    Calls Tryz.prog 46 #[.agg #[.string ⟨nm.toArray⟩, .slice ia il ic, .slice fa fl fc], .string ⟨s.toArray⟩] w fun e w' => e = .returned (.int .i64 (atV fs s)) ∧ Below w.heap.size w w' := by
  obtain rfl : fs.length = fl := hin.1
  obtain ⟨W, hW⟩ : ∃ W, w.alloc (.cells #[.string ⟨nm.toArray⟩, .slice ia il ic, .slice fa fs.length fc] 27) = W := ⟨_, rfl⟩
  have hbW : Below w.heap.size w W := by rw [← hW]; exact (Below.refl _ _).alloc (Nat.le_refl _) _
  have hA : W.heap[w.heap.size]? = some (.cells #[.string ⟨nm.toArray⟩, .slice ia il ic, .slice fa fs.length fc] 27) := by rw [← hW]; exact heap_alloc_new w _
  have k2 : W.cell? ⟨w.heap.size, 2, none⟩ = some (.slice fa fs.length fc) := by simp [World.cell?, hA]
  have HI : Hid (FuncsIn W fa fs.length fs) := hin.below hbW
  clear hin hA
  go_enter Tryz.func46, Tryz.ntmps46
  go_wp2
  go_loopw [5] (fun iv wr => ∃ j : Nat, iv = .int .i64 (j : Int) ∧ j ≤ fs.length ∧ Hid (atV fs s = atGo s (fs.drop j) j) ∧ wr = W) (fun iv _ => fs.length - (intOf iv).toNat)
  case atStart => exact ⟨0, rfl, by omega, (rfl : atV fs s = atGo s (fs.drop 0) 0), rfl⟩
  case round =>
    obtain ⟨j, rfl, hj, HA, rfl⟩ := hrel
    by_cases hlt : (j : Int) < (fs.length : Int)
    · obtain ⟨b, off, rfl, hbl, c0, _⟩ := HI.out.2 j (by omega)
      have hg := atGo_drop (fs := fs) (k := j) (by omega) s
      obtain ⟨x, hx⟩ : ∃ x, (fs.getD j fn0).1 = x := ⟨_, rfl⟩
      rw [hx] at c0 hg
      by_cases hxs : x = s
      · subst hxs
        have HR : Hid (atV fs x = (j : Int)) := by exact (by rw [HA.out, hg, if_pos rfl] : atV fs x = (j : Int))
        have hself : (x == x) = true := by simp
        clear HA hg hx
        go_wp2
        go_ret
        exact ⟨by rw [HR.out]; rfl, hbW⟩
      · have HR : Hid (atV fs s = atGo s (fs.drop (j + 1)) (j + 1)) := by exact (by rw [HA.out, hg, if_neg hxs] : atV fs s = atGo s (fs.drop (j + 1)) (j + 1))
        have hne : (x == s) = false := by rw [beq_eq_false_iff_ne]; exact hxs
        clear HA hg hx
        go_wp2
        go_roundw
        case rel => exact ⟨j + 1, by go_num, by omega, HR, trivial⟩
        case measure => simp [intOf]; omega
    · have HR : Hid (atV fs s = -1) := by exact (by rw [HA.out, List.drop_of_length_le (by omega)]; rfl : atV fs s = -1)
      go_wp2
      go_ret
      exact ⟨by rw [HR.out]; rfl, hbW⟩

end Go.Proofs.YtibppdepgoiojaaGreatDoor
