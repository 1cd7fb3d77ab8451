/-
  Parts of one proof, one behind the other: NeedI, NeedJ, TreeX, NodeM.
-/
import Derived.Test.YtdnehneldmmeoaaP14
import Derived.Test.YtdnehneldmmeoaaP7
import Derived.Laws.EntriesVeiled
import Derived.Test.YtdnehneldmmeoaaP4
import Derived.Test.YtdnehneldmmeoaaP5
import Derived.Deep.RegionWith

/-! Contracts of chapter 12's landed code: Need, NeedBy, FirstPart. -/
namespace Go.Proofs.Ytdnehneldmmeoaa
open Go.RowKit

set_option maxHeartbeats 1000000 in
set_option maxRecDepth 100000 in
theorem implLeast (a : Option Addr) (c : Nat) (t : List Nd) (w : World) (hin : NodesIn w a t.length t) (hint : IntT t) (hsh : ShortT t) (ht : treeB t = true) :
    Calls Try.prog 37 #[.slice a t.length c] w fun e w' => ∃ gN, e = .returned (.slice (some ⟨gN, 0, none⟩) t.length t.length) ∧ Nr w w' gN t.length 0 (nd12 t []) := by
  have HC : Hid (_) := implNeedsOfA a c t w hin hint hsh ht
  clear hin hint hsh ht
  go_enter Try.func37, Try.ntmps37
  go_wp2_with fail
  refine Calls.mono HC.out ?_
  rintro e w1 ⟨gN, rfl, hnr⟩
  go_wp2
  go_ret
  exact ⟨gN, rfl, hnr⟩
set_option maxHeartbeats 1000000 in
set_option maxRecDepth 100000 in
theorem implNeed (a : Option Addr) (len cap : Nat) (ns : List Nd) (w : World) (hin : NodesIn w a len ns) (hint : IntT ns) (hsh : ShortT ns) (hlen : len ≤ 1048576) (_hc : len ≤ cap) (_hm : cap ≤ maxLen) :
    Calls Try.prog 13 #[.slice a len cap] w fun e w' => e = .returned (.int .i64 (needT ns)) ∧ Below w.heap.size w w' := by
  obtain rfl : ns.length = len := hin.1
  have HT : Hid (_) := implTreeOk a ns.length cap ns w hin hint hsh hlen
  rcases hb : treeB ns with _ | _
  · rw [hb] at HT
    have HF : Hid (needT ns = 0) := by exact (by unfold needT; rw [hb]; rfl : needT ns = 0)
    clear hin hb
    go_enter Try.func13, Try.ntmps13
    go_wp2_with fail
    refine Calls.mono HT.out ?_
    rintro e w1 ⟨rfl, hb1⟩
    go_wp2
    go_ret
    exact ⟨by rw [HF.out]; rfl, hb1⟩
  · rw [hb] at HT
    have hl0 : 0 < ns.length := (of_decide_eq_true hb).1.1
    have HR : Hid (_) := nd_range (os := []) hb hl0
    have HF : Hid (needT ns = (nd12 ns [] 0 : Int)) := by
      exact (by unfold needT; rw [if_pos hb, HR.out.2.2]; rfl : needT ns = (nd12 ns [] 0 : Int))
    have HC : Hid (∀ Y, Below w.heap.size w Y → Calls Try.prog 37 #[.slice a ns.length cap] Y fun e w' => ∃ gN, e = .returned (.slice (some ⟨gN, 0, none⟩) ns.length ns.length) ∧ Nr Y w' gN ns.length 0 (nd12 ns [])) := fun Y hy => implLeast a cap ns Y (hin.below hy) hint hsh hb
    obtain ⟨n, hn⟩ : ∃ n, ns.length = n := ⟨_, rfl⟩
    rw [hn] at HT HC hl0 ⊢
    clear hin hb hint hsh hn hlen
    go_enter Try.func13, Try.ntmps13
    go_wp2_with fail
    refine Calls.mono HT.out ?_
    rintro e w1 ⟨rfl, hb1⟩
    go_wp2_with fail
    refine Calls.mono (HC.out _ hb1) ?_
    rintro e w2 ⟨gN, rfl, hnr⟩
    have hrg := hnr.rows 0 (Nat.le_refl _) hl0
    rw [Nat.zero_mul] at hrg
    have HB2 : Hid (Below w.heap.size w w2) := hb1.trans (hnr.b.mono hb1.size)
    clear hnr
    go_wp2_with (guard_target = wpList _ _ _ _ _ _; (refine list_load_nv rfl _ rfl 9 rfl _ _ (nd12 ns [] 0) rfl (by exact hrg) ?_))
    refine (implMany _ _ HR.out.2.1).mono ?_
    rintro e w3 ⟨rfl, hb3⟩
    have HB3 : Hid (Below w.heap.size w w3) := HB2.out.trans (hb3.mono HB2.out.size)
    clear hb3 hrg
    go_wp2
    go_ret
    exact ⟨by rw [HF.out]; rfl, HB3.out⟩
set_option maxHeartbeats 2000000 in
set_option maxRecDepth 100000 in
theorem implNeedBy (a : Option Addr) (len cap : Nat) (ns : List Nd) (oa : Option Addr) (oc : Nat) (os : List Int) (w : World) (hin : NodesIn w a len ns) (hint : IntT ns) (hsh : ShortT ns) (hlen : len ≤ 1048576) (_hc : len ≤ cap) (_hm : cap ≤ maxLen) (hos : AsIn w oa os) (_hol : os.length ≤ 1048576) (_hoi : ∀ x ∈ os, (Lit.int .i64 x).wf = true) (_hoc : os.length ≤ oc) (_hom : oc ≤ maxLen) :
    Calls Try.prog 10 #[.slice a len cap, .slice oa os.length oc] w fun e w' => e = .returned (.int .i64 (needByT ns os)) ∧ Below w.heap.size w w' := by
  obtain rfl : ns.length = len := hin.1
  obtain ⟨W0, hW0⟩ : ∃ W0, w.alloc (.cells #[.slice oa os.length oc] 25) = W0 := ⟨_, rfl⟩
  have hB0 : Below w.heap.size w W0 := by rw [← hW0]; exact (Below.refl _ w).alloc (Nat.le_refl _) _
  have hA := heap_alloc_new w (.cells #[.slice oa os.length oc] 25)
  rw [hW0] at hA
  obtain ⟨D, hD⟩ : ∃ D, w.heap.size = D := ⟨_, rfl⟩
  rw [hD] at hA
  have hc0 : W0.cell? ⟨D, 0, none⟩ = some (.slice oa os.length oc) := by rw [cell_of_row _ _ _ _ _ _ hA]; rfl
  have hDl : D < W0.heap.size := World.block_lt_of_cell? W0 _ hc0
  have HT : Hid (_) := implTreeOk a ns.length cap ns W0 (hin.below hB0) hint hsh hlen
  have HD : Hid (w.heap.size = D) := hD
  have HB0 : Hid (Below w.heap.size w W0) := hB0
  have HC0 : Hid (∀ Y, Below W0.heap.size W0 Y → Y.cell? ⟨D, 0, none⟩ = some (.slice oa os.length oc)) := fun Y hy => (hy.cell (p := ⟨D, 0, none⟩) hDl).trans hc0
  clear hA hD hc0
  rcases hb : treeB ns with _ | _
  · rw [hb] at HT
    have HF : Hid (needByT ns os = 0) := by exact (by unfold needByT; rw [hb]; exact if_neg (fun e => by cases e.1) : needByT ns os = 0)
    clear hin hb hos hB0
    go_enter Try.func10, Try.ntmps10
    go_wp2_with fail
    refine Calls.mono HT.out ?_
    rintro e w1 ⟨rfl, hb1⟩
    have e0 := HC0.out _ hb1
    rw [← HD.out] at e0
    have HB1 : Hid (Below w.heap.size w w1) := HB0.out.trans (hb1.mono HB0.out.size)
    clear hb1
    go_wp2
    go_ret
    exact ⟨by rw [HF.out]; rfl, HB1.out⟩
  · rw [hb] at HT
    have hl0 : 0 < ns.length := (of_decide_eq_true hb).1.1
    by_cases hol2 : os.length = ns.length
    · have HR : Hid (_) := nd_range (os := os) hb hl0
      have HF : Hid (needByT ns os = (nd12 ns os 0 : Int)) := by
        exact (by unfold needByT; rw [if_pos ⟨hb, hol2⟩, HR.out.2.2]; rfl : needByT ns os = (nd12 ns os 0 : Int))
      have HC : Hid (∀ Y, Below W0.heap.size W0 Y → Calls Try.prog 31 #[.slice a ns.length cap, .func (.func 32) #[] #[.pointer (some ⟨D, 0, none⟩)]] Y fun e w' => ∃ gN, e = .returned (.slice (some ⟨gN, 0, none⟩) ns.length ns.length) ∧ Nr Y w' gN ns.length 0 (nd12 ns os)) := fun Y hy => by
        have hwY : Below w.heap.size w Y := hB0.trans (hy.mono hB0.size)
        exact implNeedsOfB a cap ns Y (hin.below hwY) hint hsh hb D oa oc os (Nat.lt_of_lt_of_le hDl hy.size) (HC0.out Y hy) (hos.below hwY) hol2
      obtain ⟨n, hn⟩ : ∃ n, ns.length = n := ⟨_, rfl⟩
      rw [hol2] at HC0 hW0 ⊢
      rw [hn] at HT HC HC0 hl0 hlen hW0 ⊢
      clear hin hb hint hsh hn hol2 hos hB0 hDl
      go_enter Try.func10, Try.ntmps10
      go_wp2_with fail
      refine Calls.mono HT.out ?_
      rintro e w1 ⟨rfl, hb1⟩
      have e0 := HC0.out _ hb1
      rw [← HD.out] at e0
      have HC1 : Hid (_) := HC.out _ hb1
      rw [← HD.out] at HC1
      have HB1 : Hid (Below w.heap.size w w1) := HB0.out.trans (hb1.mono HB0.out.size)
      clear hb1 HC HT
      go_wp2_with fail
      refine Calls.mono HC1.out ?_
      rintro e w2 ⟨gN, rfl, hnr⟩
      have hrg := hnr.rows 0 (Nat.le_refl _) hl0
      rw [Nat.zero_mul] at hrg
      have HB2 : Hid (Below w.heap.size w w2) := HB1.out.trans (hnr.b.mono HB1.out.size)
      clear hnr HC1
      go_wp2_with (guard_target = wpList _ _ _ _ _ _; (refine list_load_nv rfl _ rfl 21 rfl _ _ (nd12 ns os 0) rfl (by exact hrg) ?_))
      refine (implMany _ _ HR.out.2.1).mono ?_
      rintro e w3 ⟨rfl, hb3⟩
      have HB3 : Hid (Below w.heap.size w w3) := HB2.out.trans (hb3.mono HB2.out.size)
      clear hb3 hrg
      go_wp2
      go_ret
      exact ⟨by rw [HF.out]; rfl, HB3.out⟩
    · have HF : Hid (needByT ns os = 0) := by exact (by unfold needByT; exact if_neg (fun e => hol2 e.2) : needByT ns os = 0)
      have hne : ((os.length : Int) != (ns.length : Int)) = true := by rw [bne_iff_ne]; omega
      have hne2 : ¬ ((os.length : Int) = (ns.length : Int)) := by omega
      have hne3 : ((os.length : Int) == (ns.length : Int)) = false := beq_eq_false_iff_ne.2 hne2
      clear hin hb hos hB0 hol2
      go_enter Try.func10, Try.ntmps10
      go_wp2_with fail
      refine Calls.mono HT.out ?_
      rintro e w1 ⟨rfl, hb1⟩
      have e0 := HC0.out _ hb1
      rw [← HD.out] at e0
      have HB1 : Hid (Below w.heap.size w w1) := HB0.out.trans (hb1.mono HB0.out.size)
      clear hb1
      go_wp2
      go_ret
      exact ⟨by rw [HF.out]; rfl, HB1.out⟩

end Go.Proofs.Ytdnehneldmmeoaa

/-! The contract of chapter 12's landed code: FirstPart. -/
namespace Go.Proofs.Ytdnehneldmmeoaa
open Go.RowKit

theorem first_gr {x y : Nat} (hx : 1 ≤ x) : (gr [x, y] = x) ↔ y ≤ x := by rw [gr_two]; omega
/-- What a node's parts tell of which goes first. -/
theorem first_eq {t : List Nd} (ht : treeB t = true) {q p0 p1 : Nat} (hq : q < t.length) (hk : 3 ≤ (t.getD q nd0).1 ∧ (t.getD q nd0).1 ≤ 6) (e0 : (pts10 t (q : Int)).getD 0 0 = (p0 : Int)) (e1 : (pts10 t (q : Int)).getD 1 0 = (p1 : Int)) (h0 : p0 < t.length) (h1 : p1 < t.length) :
    firstT t (q : Int) = if decide (gr [nd12 t [] p0, nd12 t [] p1] = nd12 t [] p0) = true then 0 else 1 := by
  have r0 := nd_range (os := []) ht h0
  have r1 := nd_range (os := []) ht h1
  unfold firstT
  rw [if_pos ⟨ht, by omega, by omega, by rw [Int.toNat_natCast]; exact hk⟩, e0, e1, ← r0.2.2, ← r1.2.2]
  by_cases h : nd12 t [] p1 ≤ nd12 t [] p0
  · rw [if_pos (by omega), if_pos (decide_eq_true ((first_gr r0.1).2 h))]
  · rw [if_neg (by omega), if_neg (fun e => h ((first_gr r0.1).1 (of_decide_eq_true e)))]
/-- Two needs that lie somewhere behind what was there. -/
structure Tv (w X : World) (g1 g2 x y : Nat) : Prop where
  a : Nb X g1 0 x
  b : Nb X g2 0 y
  bl : Below w.heap.size w X
theorem wp_alloc_nvD {op : Oper} {a : Act} {w : World} {Q : Exit → Act → World → Prop} {K : Act → World → Prop} (ho : op.op = .alloc 55) (d : Nat) (hd : op.dst = some d) (h : ∀ Y g, Nb Y g 0 0 → Below w.heap.size w Y → w.heap.size ≤ g → K (a.put (some d) (.pointer (some ⟨g, 0, none⟩))) Y) : op.wp Try.prog a w K Q :=
  wp_alloc_nv ho (fun Y g h1 h2 h3 => by rw [hd]; exact h Y g h1 h2 h3)
theorem Tv.below {w X Y : World} {g1 g2 x y : Nat} (s : Tv w X g1 g2 x y) (hb : Below X.heap.size X Y) : Tv w Y g1 g2 x y := ⟨s.a.below hb, s.b.below hb, s.bl.trans (hb.mono s.bl.size)⟩
theorem Tv.drew {w X : World} {g1 g2 x y : Nat} (s : Tv w X g1 g2 x y) : Tv w X.drew g1 g2 x y := s.below ⟨rfl, rfl, rfl, Nat.le_refl _, fun _ _ => rfl⟩

set_option maxHeartbeats 4000000 in
set_option maxRecDepth 100000 in
theorem implFirstNo (a : Option Addr) (cap : Nat) (ns : List Nd) (i : Int) (w : World) (hin : NodesIn w a ns.length ns) (hint : IntT ns) (hsh : ShortT ns) (hlen : ns.length ≤ 1048576) (hno : treeB ns = false ∨ i < 0 ∨ (ns.length : Int) ≤ i) :
    Calls Try.prog 18 #[.slice a ns.length cap, .int .i64 i] w fun e w' => e = .returned (.int .i64 (-1)) ∧ Below w.heap.size w w' := by
  have HT : Hid (_) := implTreeOk a ns.length cap ns w hin hint hsh hlen
  rcases hb : treeB ns with _ | _
  · rw [hb] at HT
    clear hin hb hno
    go_enter Try.func18, Try.ntmps18
    go_wp2_with fail
    refine Calls.mono HT.out ?_
    rintro e w1 ⟨rfl, hb1⟩
    go_wp2
    go_ret
    exact ⟨rfl, hb1⟩
  · rw [hb] at HT hno
    by_cases h0 : i < 0
    · clear hin hb hno
      go_enter Try.func18, Try.ntmps18
      go_wp2_with fail
      refine Calls.mono HT.out ?_
      rintro e w1 ⟨rfl, hb1⟩
      go_wp2
      go_ret
      exact ⟨rfl, hb1⟩
    · have h1 : (ns.length : Int) ≤ i := by
        rcases hno with h | h | h
        · cases h
        · exact absurd h h0
        · exact h
      clear hin hb hno
      go_enter Try.func18, Try.ntmps18
      go_wp2_with fail
      refine Calls.mono HT.out ?_
      rintro e w1 ⟨rfl, hb1⟩
      go_wp2
      go_ret
      exact ⟨rfl, hb1⟩
set_option maxHeartbeats 4000000 in
set_option maxRecDepth 100000 in
theorem implFirstOdd (a : Option Addr) (cap : Nat) (ns : List Nd) (q : Nat) (w : World) (hin : NodesIn w a ns.length ns) (hint : IntT ns) (hsh : ShortT ns) (hlen : ns.length ≤ 1048576) (ht : treeB ns = true) (hq : q < ns.length) (hk : pairB (ns.getD q nd0) = false) :
    Calls Try.prog 18 #[.slice a ns.length cap, .int .i64 (q : Int)] w fun e w' => e = .returned (.int .i64 (-1)) ∧ Below w.heap.size w w' := by
  obtain ⟨n, hn⟩ : ∃ n, ns.length = n := ⟨_, rfl⟩
  have HNi : Hid (∀ X, Below w.heap.size w X → NodesIn X a n ns) := fun X hb => by rw [← hn]; exact hin.below hb
  have HT : Hid (Calls Try.prog 30 #[.slice a n cap] w fun e w' => e = .returned (.bool true) ∧ Below w.heap.size w w') := by
    have h := implTreeOk a ns.length cap ns w hin hint hsh hlen
    rw [ht, hn] at h
    exact h
  have hq1 : (q : Int) < (n : Int) := by omega
  obtain ⟨nq, hnq⟩ : ∃ nq, ns.getD q nd0 = nq := ⟨_, rfl⟩
  rw [hnq] at hk
  have HNq : Hid (ns.getD q nd0 = nq) := hnq
  rw [hn]
  clear hin hint hsh hnq hn hlen
  go_enter Try.func18, Try.ntmps18
  go_wp2_with fail
  refine Calls.mono HT.out ?_
  rintro e w1 ⟨rfl, hb1⟩
  have hni := (HNi.out w1 hb1).2 q (by omega)
  rw [HNq.out] at hni
  obtain ⟨b, off, rfl, hbl, c0, c1, c2, c3⟩ := hni
  obtain ⟨kk, aa, pp, ff⟩ := nq
  simp only at c0 c1 c2 c3
  have HI : Hid (∀ X, Calls Try.prog 41 #[.agg #[.int .i64 kk, .int .i64 aa, .string ⟨pp.toArray⟩, .string ⟨ff.toArray⟩]] X fun e w' => e = .returned (.bool (pairB (kk, aa, pp, ff))) ∧ Below X.heap.size X w') := fun X => implIsPair (kk, aa, pp, ff) X
  rw [hk] at HI
  go_wp2_with fail
  refine Calls.mono (HI.out _) ?_
  rintro e w2 ⟨rfl, hb2⟩
  have hB2 := hb1.trans (hb2.mono hb1.size)
  clear c0 c1 c2 c3 HI hb2 hb1 hbl HT
  go_wp2
  go_ret
  exact ⟨rfl, hB2⟩
set_option maxHeartbeats 8000000 in
set_option maxRecDepth 100000 in
theorem implFirstYes (a : Option Addr) (cap : Nat) (ns : List Nd) (q : Nat) (w : World) (hin : NodesIn w a ns.length ns) (hint : IntT ns) (hsh : ShortT ns) (hlen : ns.length ≤ 1048576) (ht : treeB ns = true) (hq : q < ns.length) (hk : pairB (ns.getD q nd0) = true) :
    Calls Try.prog 18 #[.slice a ns.length cap, .int .i64 (q : Int)] w fun e w' => e = .returned (.int .i64 (firstT ns (q : Int))) ∧ Below w.heap.size w w' := by
  have hk36 : 3 ≤ (ns.getD q nd0).1 ∧ (ns.getD q nd0).1 ≤ 6 := by
    have h := hk
    unfold pairB at h
    rw [Bool.and_eq_true, decide_eq_true_iff, decide_eq_true_iff] at h
    exact h
  have hpl : (pts10 ns (q : Int)).length = 2 := by unfold pts10; rw [partsGo_len, Int.toNat_natCast, kids_four hk36]
  obtain ⟨p0, e0, hq0, hl0⟩ := part_at ht hq (by rw [hpl]; omega : 0 < (pts10 ns (q : Int)).length)
  obtain ⟨p1, e1, hq1', hl1⟩ := part_at ht hq (by rw [hpl]; omega : 1 < (pts10 ns (q : Int)).length)
  have HF : Hid (firstT ns (q : Int) = if decide (gr [nd12 ns [] p0, nd12 ns [] p1] = nd12 ns [] p0) = true then 0 else 1) := first_eq ht hq hk36 e0 e1 hl0 hl1
  have r0 := nd_range (os := []) ht hl0
  have r1 := nd_range (os := []) ht hl1
  have HLe : Hid (∀ X, Below w.heap.size w X → Calls Try.prog 37 #[.slice a ns.length cap] X fun e w' => ∃ gN, e = .returned (.slice (some ⟨gN, 0, none⟩) ns.length ns.length) ∧ Nr X w' gN ns.length 0 (nd12 ns [])) := fun X hy => implLeast a cap ns X (hin.below hy) hint hsh ht
  have HPo : Hid (∀ X, Below w.heap.size w X → Calls Try.prog 42 #[.slice a ns.length cap, .int .i64 (q : Int)] X fun e w' => ∃ v, e = .returned v ∧ w'.ownsRow X.heap.size 2 1 v (pts10 ns (q : Int)).length (intsV (pts10 ns (q : Int))) ∧ Below X.heap.size X w') := fun X hb => by
    have h := implPartsOf a ns.length cap ns (q : Int) X (hin.below hb) hint hsh (by omega) (by omega)
    rw [parts_at ht hq] at h
    exact h
  obtain ⟨ps, hps⟩ : ∃ ps, pts10 ns (q : Int) = ps := ⟨_, rfl⟩
  rw [hps] at HPo e0 e1 hpl
  have heq0 := run_eql_nv (gr [nd12 ns [] p0, nd12 ns [] p1]) (nd12 ns [] p0) (by rw [gr_two]; omega) r0.2.1
  generalize nd12 ns [] = f at *
  clear hk36 r0 r1 hps
  obtain ⟨n, hn⟩ : ∃ n, ns.length = n := ⟨_, rfl⟩
  have HNi : Hid (∀ X, Below w.heap.size w X → NodesIn X a n ns) := fun X hb => by rw [← hn]; exact hin.below hb
  have HT : Hid (Calls Try.prog 30 #[.slice a n cap] w fun e w' => e = .returned (.bool true) ∧ Below w.heap.size w w') := by
    have h := implTreeOk a ns.length cap ns w hin hint hsh hlen
    rw [ht, hn] at h
    exact h
  have hq1 : (q : Int) < (n : Int) := by omega
  obtain ⟨nq, hnq⟩ : ∃ nq, ns.getD q nd0 = nq := ⟨_, rfl⟩
  rw [hnq] at hk
  have HNq : Hid (ns.getD q nd0 = nq) := hnq
  rw [hn] at HLe HPo hl0 hl1
  obtain ⟨fT, hfT⟩ : ∃ fT, firstT ns (q : Int) = fT := ⟨_, rfl⟩
  rw [hfT] at HF ⊢
  have HE0 : Hid (ps.getD 0 0 = (p0 : Int) ∧ ps.getD 1 0 = (p1 : Int) ∧ ps.length = 2) := ⟨e0, e1, hpl⟩
  obtain ⟨bd, hbd⟩ : ∃ bd, decide (gr [f p0, f p1] = f p0) = bd := ⟨_, rfl⟩
  rw [hbd] at HF heq0
  clear e0 e1 hpl hfT hbd ht hq hq0 hq1'
  rw [hn]
  clear hin hint hsh hnq hn hlen
  go_enter Try.func18, Try.ntmps18
  go_wp2_with fail
  refine Calls.mono HT.out ?_
  rintro e w1 ⟨rfl, hb1⟩
  have hni := (HNi.out w1 hb1).2 q (by omega)
  rw [HNq.out] at hni
  obtain ⟨b, off, rfl, hbl, c0, c1, c2, c3⟩ := hni
  obtain ⟨kk, aa, pp, ff⟩ := nq
  simp only at c0 c1 c2 c3
  have HI : Hid (∀ X, Calls Try.prog 41 #[.agg #[.int .i64 kk, .int .i64 aa, .string ⟨pp.toArray⟩, .string ⟨ff.toArray⟩]] X fun e w' => e = .returned (.bool (pairB (kk, aa, pp, ff))) ∧ Below X.heap.size X w') := fun X => implIsPair (kk, aa, pp, ff) X
  rw [hk] at HI
  go_wp2_with fail
  refine Calls.mono (HI.out _) ?_
  rintro e w2 ⟨rfl, hb2⟩
  have hB2 := hb1.trans (hb2.mono hb1.size)
  clear c0 c1 c2 c3 HI hb2 hb1 hbl HT
  go_wp2_with fail
  refine Calls.mono (HLe.out _ hB2) ?_
  rintro e w3 ⟨gN, rfl, hnr⟩
  have hB3 := hB2.trans (hnr.b.mono hB2.size)
  go_wp2_with fail
  refine Calls.mono (HPo.out _ hB3) ?_
  rintro e w4 ⟨pv, rfl, hpv, hb4⟩
  have hnr4 := hnr.below hb4
  have hB4 := hB3.trans (hb4.mono hB3.size)
  obtain ⟨la, lc, rfl, has⟩ := own_as hpv
  obtain ⟨gp, go2, rfl, hgl, hc0⟩ := has 0 (by rw [HE0.out.2.2]; omega)
  obtain ⟨gp', go2', e, _, hc1⟩ := has 1 (by rw [HE0.out.2.2]; omega)
  injection e with e
  injection e with e1 e2 _
  subst e1 e2
  rw [HE0.out.1, Nat.add_zero] at hc0
  rw [HE0.out.2.1] at hc1
  rw [HE0.out.2.2]
  have hrg0 := hnr4.rows p0 (Nat.zero_le _) hl0
  have hrg1 := hnr4.rows p1 (Nat.zero_le _) hl1
  have HG0 : Hid (∀ X, Below w4.heap.size w4 X → X.cell? ⟨gp, go2, none⟩ = some (.int .i64 (p0 : Int)) ∧ X.cell? ⟨gp, go2 + 1, none⟩ = some (.int .i64 (p1 : Int)) ∧ X.rangeAt gN (p0 * 60) (nvL (f p0)) ∧ X.rangeAt gN (p1 * 60) (nvL (f p1))) := fun X h =>
    ⟨(h.cell (p := ⟨gp, go2, none⟩) hgl).trans hc0, (h.cell (p := ⟨gp, go2 + 1, none⟩) hgl).trans hc1, range_block hrg0 (h.block gN hnr4.lt), range_block hrg1 (h.block gN hnr4.lt)⟩
  have HB4 : Hid (Below w.heap.size w w4) := hB4
  have hp0 : (p0 : Int) < (n : Int) := by omega
  have hp1 : (p1 : Int) < (n : Int) := by omega
  have hp0n : p0 < n := hl0
  have hp1n : p1 < n := hl1
  clear hnr hB2 hB3 hb4 hpv hnr4 hB4 has hc0 hc1 hrg0 hrg1 hgl HPo HLe HE0
  go_wp2
  refine wp_region_held_drew (S := fun X => Below w4.heap.size w4 X) (by kernel_rfl) ⟨rfl, rfl, rfl, Nat.le_refl _, fun _ _ => rfl⟩ (fun hHeld => ?_)
  refine wpAnyH_take (i := 0) (oi := ⟨some 35, _, _, _, _, _⟩) (v := ?v1) rfl (by kernel_rfl) (by kernel_rfl) (by kernel_rfl) (fun _ _ _ h => h) (Or.inl ⟨by rfl, ?hy1⟩) (by assumption) ?rest1
  case hy1 => (intro wq hSw; have e0 := (HG0.out wq hSw).1; have e1 := (HG0.out wq hSw).2.1; clear hSw; first | (go_simp; done) | (go_simp; with_reducible rfl))
  simp only [Act.put, List.setIfInBounds_toArray, List.set_cons_zero, List.set_cons_succ]
  refine wpAnyH_take (i := 1) (oi := ⟨some 36, _, _, _, _, _⟩) (v := ?v2) rfl (by kernel_rfl) (by kernel_rfl) (by kernel_rfl) (fun _ _ _ h => h) (Or.inl ⟨by rfl, ?hy2⟩) (by assumption) ?rest2
  case hy2 => (intro wq hSw; have e0 := (HG0.out wq hSw).1; have e1 := (HG0.out wq hSw).2.1; clear hSw; first | (go_simp; done) | (go_simp; with_reducible rfl))
  simp only [Act.put, List.setIfInBounds_toArray, List.set_cons_zero, List.set_cons_succ]
  refine wpAnyH_take (i := 2) (oi := ⟨some 37, _, _, _, _, _⟩) (v := ?v3) rfl (by kernel_rfl) (by kernel_rfl) (by kernel_rfl) (fun _ _ _ h => h) (Or.inl ⟨by rfl, ?hy3⟩) (by assumption) ?rest3
  case hy3 => (intro wq hSw; have e0 := (HG0.out wq hSw).1; have e1 := (HG0.out wq hSw).2.1; clear hSw; first | (go_simp; done) | (go_simp; with_reducible rfl))
  simp only [Act.put, List.setIfInBounds_toArray, List.set_cons_zero, List.set_cons_succ]
  refine wpAnyH_take (i := 3) (oi := ⟨some 38, _, _, _, _, _⟩) (v := ?v4) rfl (by kernel_rfl) (by kernel_rfl) (by kernel_rfl) (fun _ _ _ h => h) (Or.inl ⟨by rfl, ?hy4⟩) (by assumption) ?rest4
  case hy4 => (intro wq hSw; have e0 := (HG0.out wq hSw).1; have e1 := (HG0.out wq hSw).2.1; clear hSw; first | (go_simp; done) | (go_simp; with_reducible rfl))
  simp only [Act.put, List.setIfInBounds_toArray, List.set_cons_zero, List.set_cons_succ]
  refine wpAnyH_take (i := 4) (oi := ⟨some 39, _, _, _, _, _⟩) (v := ?v5) rfl (by kernel_rfl) (by kernel_rfl) (by kernel_rfl) (fun _ _ _ h => h) (Or.inl ⟨by rfl, ?hy5⟩) (by assumption) ?rest5
  case hy5 => (intro wq hSw; have e0 := (HG0.out wq hSw).1; have e1 := (HG0.out wq hSw).2.1; clear hSw; first | (go_simp; done) | (go_simp; with_reducible rfl))
  simp only [Act.put, List.setIfInBounds_toArray, List.set_cons_zero, List.set_cons_succ]
  refine wpAnyH_take (i := 5) (oi := ⟨some 40, _, _, _, _, _⟩) (v := .agg (nv (f p0))) rfl (by kernel_rfl) (by kernel_rfl) (by kernel_rfl) (fun _ _ _ h => h) (yields_load_nv (by rfl) _ rfl gN (p0 * 60) (f p0) rfl (fun v h => (HG0.out v h).2.2.1)) (by assumption) ?_
  simp only [Act.put, List.setIfInBounds_toArray, List.set_cons_zero, List.set_cons_succ]
  refine wpAnyH_take (i := 6) (oi := ⟨some 41, _, _, _, _, _⟩) (v := ?v6) rfl (by kernel_rfl) (by kernel_rfl) (by kernel_rfl) (fun _ _ _ h => h) (Or.inl ⟨by rfl, ?hy6⟩) (by assumption) ?rest6
  case hy6 => (intro wq hSw; have e0 := (HG0.out wq hSw).1; have e1 := (HG0.out wq hSw).2.1; clear hSw; first | (go_simp; done) | (go_simp; with_reducible rfl))
  simp only [Act.put, List.setIfInBounds_toArray, List.set_cons_zero, List.set_cons_succ]
  refine wpAnyH_take (i := 7) (oi := ⟨some 42, _, _, _, _, _⟩) (v := ?v7) rfl (by kernel_rfl) (by kernel_rfl) (by kernel_rfl) (fun _ _ _ h => h) (Or.inl ⟨by rfl, ?hy7⟩) (by assumption) ?rest7
  case hy7 => (intro wq hSw; have e0 := (HG0.out wq hSw).1; have e1 := (HG0.out wq hSw).2.1; clear hSw; first | (go_simp; done) | (go_simp; with_reducible rfl))
  simp only [Act.put, List.setIfInBounds_toArray, List.set_cons_zero, List.set_cons_succ]
  refine wpAnyH_take (i := 8) (oi := ⟨some 43, _, _, _, _, _⟩) (v := ?v8) rfl (by kernel_rfl) (by kernel_rfl) (by kernel_rfl) (fun _ _ _ h => h) (Or.inl ⟨by rfl, ?hy8⟩) (by assumption) ?rest8
  case hy8 => (intro wq hSw; have e0 := (HG0.out wq hSw).1; have e1 := (HG0.out wq hSw).2.1; clear hSw; first | (go_simp; done) | (go_simp; with_reducible rfl))
  simp only [Act.put, List.setIfInBounds_toArray, List.set_cons_zero, List.set_cons_succ]
  refine wpAnyH_take (i := 9) (oi := ⟨some 44, _, _, _, _, _⟩) (v := ?v9) rfl (by kernel_rfl) (by kernel_rfl) (by kernel_rfl) (fun _ _ _ h => h) (Or.inl ⟨by rfl, ?hy9⟩) (by assumption) ?rest9
  case hy9 => (intro wq hSw; have e0 := (HG0.out wq hSw).1; have e1 := (HG0.out wq hSw).2.1; clear hSw; first | (go_simp; done) | (go_simp; with_reducible rfl))
  simp only [Act.put, List.setIfInBounds_toArray, List.set_cons_zero, List.set_cons_succ]
  refine wpAnyH_take (i := 10) (oi := ⟨some 45, _, _, _, _, _⟩) (v := ?v10) rfl (by kernel_rfl) (by kernel_rfl) (by kernel_rfl) (fun _ _ _ h => h) (Or.inl ⟨by rfl, ?hy10⟩) (by assumption) ?rest10
  case hy10 => (intro wq hSw; have e0 := (HG0.out wq hSw).1; have e1 := (HG0.out wq hSw).2.1; clear hSw; first | (go_simp; done) | (go_simp; with_reducible rfl))
  simp only [Act.put, List.setIfInBounds_toArray, List.set_cons_zero, List.set_cons_succ]
  refine wpAnyH_take (i := 11) (oi := ⟨some 46, _, _, _, _, _⟩) (v := .agg (nv (f p1))) rfl (by kernel_rfl) (by kernel_rfl) (by kernel_rfl) (fun _ _ _ h => h) (yields_load_nv (by rfl) _ rfl gN (p1 * 60) (f p1) rfl (fun v h => (HG0.out v h).2.2.2)) (by assumption) ?_
  simp only [Act.put, List.setIfInBounds_toArray, List.set_cons_zero, List.set_cons_succ]
  refine wpAnyH_ready (rs := [12, 13]) (by kernel_rfl) (by simp) ?_
  refine AllReadyH.cons rfl (fun K hK => ?_) (AllReadyH.cons rfl (fun K hK => ?_) AllReadyH.nil)
  · refine step_of_wp rfl (wp_alloc_nvD rfl 7 rfl (fun X5 g7 hN5 hB5 hG5 => ?_))
    refine hK.out _ _ (by exact hHeld.trans (hB5.mono hHeld.size)) (fun hHeld => ?_)
    clear hK K
    (try simp only [Act.put, List.setIfInBounds_toArray, List.set_cons_zero, List.set_cons_succ])
    refine wpAnyH_ready (rs := [13]) (by kernel_rfl) (by simp) ?_
    refine AllReadyH.cons rfl (fun K hK => ?_) AllReadyH.nil
    refine step_of_wp rfl (wp_alloc_nvD rfl 8 rfl (fun X6 g8 hN6 hB6 hG6 => ?_))
    refine hK.out _ _ (by exact hHeld.trans (hB6.mono hHeld.size)) (fun hHeld => ?_)
    clear hK K
    (try simp only [Act.put, List.setIfInBounds_toArray, List.set_cons_zero, List.set_cons_succ])
    have hN7 : Nb X6 g7 0 0 := (hN5.below hB6)
    have hN8 : Nb X6 g8 0 0 := hN6
    have hd0 : w4.drew.heap.size = w4.heap.size := rfl
    have hd1 := hN5.lt
    have hd2 := hB6.size
    have hd3 : w4.heap.size ≤ g7 ∧ w4.heap.size ≤ g8 ∧ g7 ≠ g8 := ⟨hG5, by omega, by omega⟩
    refine wpAnyH_ready (rs := [14]) (by kernel_rfl) (by simp) ?_
    refine AllReadyH.cons rfl (fun K hK => ?_) AllReadyH.nil
    refine step_of_wp rfl (wp_store_nv _ _ rfl g7 0 (f p0) rfl rfl hN7.ok (fun X7 hM7 hY7 hE7 => ?_))
    clear hE7
    refine hK.out _ _ (by exact hHeld.grown hY7 hHeld.size (fun q e => by injection e with e; have := hd3; omega)) (fun hHeld => ?_)
    clear hK K
    (try simp only [Act.put])
    replace hN8 := hN8.kept hY7 (by have := hd3; simp; omega)
    refine wpAnyH_ready (rs := [15]) (by kernel_rfl) (by simp) ?_
    refine AllReadyH.cons rfl (fun K hK => ?_) AllReadyH.nil
    refine step_of_wp rfl (wp_store_nv _ _ rfl g8 0 (f p1) rfl rfl hN8.ok (fun X8 hM8 hY8 hE8 => ?_))
    clear hE8
    refine hK.out _ _ (by exact hHeld.grown hY8 hHeld.size (fun q e => by injection e with e; have := hd3; omega)) (fun hHeld => ?_)
    clear hK K
    (try simp only [Act.put, List.setIfInBounds_toArray])
    have st : Hid (Tv w X8 g7 g8 (f p0) (f p1)) := ⟨hM7.kept hY8 (by have := hd3; simp; omega), hM8, HB4.out.trans (hHeld.mono HB4.out.size)⟩
    refine wpAnyH_done (by kernel_rfl) ?_ _
    clear hHeld hN5 hB5 hG5 hN6 hB6 hG6 hN7 hN8 hd0 hd1 hd2 hd3 hM7 hY7 hM8 hY8 HG0
    go_wp2
    refine wp_region_held_drew (S := fun X => Tv w X g7 g8 (f p0) (f p1)) (by kernel_rfl) st.out.drew (fun hHeld => ?_)
    refine wpAnyH_take (i := 0) (oi := ⟨some 47, _, _, _, _, _⟩) (v := .agg (nv (f p0))) rfl (by kernel_rfl) (by kernel_rfl) (by kernel_rfl) (fun _ _ _ h => h) (yields_load_nv (by rfl) _ rfl g7 (0) (f p0) rfl (fun v h => h.a.cs)) (by assumption) ?_
    simp only [Act.put, List.setIfInBounds_toArray, List.set_cons_zero, List.set_cons_succ]
    refine wpAnyH_take (i := 1) (oi := ⟨some 48, _, _, _, _, _⟩) (v := .agg (nv (f p1))) rfl (by kernel_rfl) (by kernel_rfl) (by kernel_rfl) (fun _ _ _ h => h) (yields_load_nv (by rfl) _ rfl g8 (0) (f p1) rfl (fun v h => h.b.cs)) (by assumption) ?_
    simp only [Act.put, List.setIfInBounds_toArray, List.set_cons_zero, List.set_cons_succ]
    refine wpAnyH_take (i := 4) (oi := ⟨some 51, _, _, _, _, _⟩) (v := .agg (nv (f p0))) rfl (by kernel_rfl) (by kernel_rfl) (by kernel_rfl) (fun _ _ _ h => h) (yields_load_nv (by rfl) _ rfl g7 (0) (f p0) rfl (fun v h => h.a.cs)) (by assumption) ?_
    simp only [Act.put, List.setIfInBounds_toArray, List.set_cons_zero, List.set_cons_succ]
    refine wpAnyH_ready (rs := [2]) (by kernel_rfl) (by simp) ?_
    refine AllReadyH.cons rfl (fun K hK => ?_) AllReadyH.nil
    refine step_of_wp rfl (wp_slice2_nv _ _ rfl (f p0) (f p1) rfl rfl (fun W3 g4 hn3 hb3 _ => ?_))
    refine hK.out _ _ (by exact hHeld.below hb3) (fun hHeld => ?_)
    clear hK K
    (try simp only [Act.put, List.setIfInBounds_toArray])
    refine wpAnyH_ready (rs := [3]) (by kernel_rfl) (by simp) ?_
    refine AllReadyH.cons rfl (fun K hK => ?_) AllReadyH.nil
    go_simp
    refine (implGreatest _ 2 2 [f p0, f p1] _ rfl hn3 (by omega)).mono ?_
    rintro e W4 ⟨rfl, hb4⟩
    dsimp only
    refine hK.out _ _ (by exact hHeld.below hb4) (fun hHeld => ?_)
    clear hK K
    (try simp only [Act.put, List.setIfInBounds_toArray, List.set_cons_zero, List.set_cons_succ])
    refine wpAnyH_take (i := 5) (oi := ⟨some 52, _, _, _, _, _⟩) (v := ?v11) rfl (by kernel_rfl) (by kernel_rfl) (by kernel_rfl) (fun _ _ _ h => h) (Or.inl ⟨by rfl, ?hy11⟩) (by assumption) ?rest11
    case hy11 => (intro wq hSw; clear hSw; first | (go_simp; done) | (go_simp; with_reducible rfl))
    simp only [Act.put, List.setIfInBounds_toArray, List.set_cons_zero, List.set_cons_succ]
    have HBF : Hid (Below w.heap.size w W4) := hHeld.bl
    refine wpAnyH_done (by kernel_rfl) ?_ _
    clear hHeld hn3 hb3 hb4 st heq0
    cases bd
    · go_wp2
      go_ret
      exact ⟨by rw [HF.out]; rfl, HBF.out⟩
    · go_wp2
      go_ret
      exact ⟨by rw [HF.out]; rfl, HBF.out⟩
  · refine step_of_wp rfl (wp_alloc_nvD rfl 8 rfl (fun X5 g8 hN5 hB5 hG5 => ?_))
    refine hK.out _ _ (by exact hHeld.trans (hB5.mono hHeld.size)) (fun hHeld => ?_)
    clear hK K
    (try simp only [Act.put, List.setIfInBounds_toArray, List.set_cons_zero, List.set_cons_succ])
    refine wpAnyH_ready (rs := [12]) (by kernel_rfl) (by simp) ?_
    refine AllReadyH.cons rfl (fun K hK => ?_) AllReadyH.nil
    refine step_of_wp rfl (wp_alloc_nvD rfl 7 rfl (fun X6 g7 hN6 hB6 hG6 => ?_))
    refine hK.out _ _ (by exact hHeld.trans (hB6.mono hHeld.size)) (fun hHeld => ?_)
    clear hK K
    (try simp only [Act.put, List.setIfInBounds_toArray, List.set_cons_zero, List.set_cons_succ])
    have hN7 : Nb X6 g7 0 0 := hN6
    have hN8 : Nb X6 g8 0 0 := (hN5.below hB6)
    have hd0 : w4.drew.heap.size = w4.heap.size := rfl
    have hd1 := hN5.lt
    have hd2 := hB6.size
    have hd3 : w4.heap.size ≤ g8 ∧ w4.heap.size ≤ g7 ∧ g7 ≠ g8 := ⟨hG5, by omega, by omega⟩
    refine wpAnyH_ready (rs := [14]) (by kernel_rfl) (by simp) ?_
    refine AllReadyH.cons rfl (fun K hK => ?_) AllReadyH.nil
    refine step_of_wp rfl (wp_store_nv _ _ rfl g7 0 (f p0) rfl rfl hN7.ok (fun X7 hM7 hY7 hE7 => ?_))
    clear hE7
    refine hK.out _ _ (by exact hHeld.grown hY7 hHeld.size (fun q e => by injection e with e; have := hd3; omega)) (fun hHeld => ?_)
    clear hK K
    (try simp only [Act.put])
    replace hN8 := hN8.kept hY7 (by have := hd3; simp; omega)
    refine wpAnyH_ready (rs := [15]) (by kernel_rfl) (by simp) ?_
    refine AllReadyH.cons rfl (fun K hK => ?_) AllReadyH.nil
    refine step_of_wp rfl (wp_store_nv _ _ rfl g8 0 (f p1) rfl rfl hN8.ok (fun X8 hM8 hY8 hE8 => ?_))
    clear hE8
    refine hK.out _ _ (by exact hHeld.grown hY8 hHeld.size (fun q e => by injection e with e; have := hd3; omega)) (fun hHeld => ?_)
    clear hK K
    (try simp only [Act.put, List.setIfInBounds_toArray])
    have st : Hid (Tv w X8 g7 g8 (f p0) (f p1)) := ⟨hM7.kept hY8 (by have := hd3; simp; omega), hM8, HB4.out.trans (hHeld.mono HB4.out.size)⟩
    refine wpAnyH_done (by kernel_rfl) ?_ _
    clear hHeld hN5 hB5 hG5 hN6 hB6 hG6 hN7 hN8 hd0 hd1 hd2 hd3 hM7 hY7 hM8 hY8 HG0
    go_wp2
    refine wp_region_held_drew (S := fun X => Tv w X g7 g8 (f p0) (f p1)) (by kernel_rfl) st.out.drew (fun hHeld => ?_)
    refine wpAnyH_take (i := 0) (oi := ⟨some 47, _, _, _, _, _⟩) (v := .agg (nv (f p0))) rfl (by kernel_rfl) (by kernel_rfl) (by kernel_rfl) (fun _ _ _ h => h) (yields_load_nv (by rfl) _ rfl g7 (0) (f p0) rfl (fun v h => h.a.cs)) (by assumption) ?_
    simp only [Act.put, List.setIfInBounds_toArray, List.set_cons_zero, List.set_cons_succ]
    refine wpAnyH_take (i := 1) (oi := ⟨some 48, _, _, _, _, _⟩) (v := .agg (nv (f p1))) rfl (by kernel_rfl) (by kernel_rfl) (by kernel_rfl) (fun _ _ _ h => h) (yields_load_nv (by rfl) _ rfl g8 (0) (f p1) rfl (fun v h => h.b.cs)) (by assumption) ?_
    simp only [Act.put, List.setIfInBounds_toArray, List.set_cons_zero, List.set_cons_succ]
    refine wpAnyH_take (i := 4) (oi := ⟨some 51, _, _, _, _, _⟩) (v := .agg (nv (f p0))) rfl (by kernel_rfl) (by kernel_rfl) (by kernel_rfl) (fun _ _ _ h => h) (yields_load_nv (by rfl) _ rfl g7 (0) (f p0) rfl (fun v h => h.a.cs)) (by assumption) ?_
    simp only [Act.put, List.setIfInBounds_toArray, List.set_cons_zero, List.set_cons_succ]
    refine wpAnyH_ready (rs := [2]) (by kernel_rfl) (by simp) ?_
    refine AllReadyH.cons rfl (fun K hK => ?_) AllReadyH.nil
    refine step_of_wp rfl (wp_slice2_nv _ _ rfl (f p0) (f p1) rfl rfl (fun W3 g4 hn3 hb3 _ => ?_))
    refine hK.out _ _ (by exact hHeld.below hb3) (fun hHeld => ?_)
    clear hK K
    (try simp only [Act.put, List.setIfInBounds_toArray])
    refine wpAnyH_ready (rs := [3]) (by kernel_rfl) (by simp) ?_
    refine AllReadyH.cons rfl (fun K hK => ?_) AllReadyH.nil
    go_simp
    refine (implGreatest _ 2 2 [f p0, f p1] _ rfl hn3 (by omega)).mono ?_
    rintro e W4 ⟨rfl, hb4⟩
    dsimp only
    refine hK.out _ _ (by exact hHeld.below hb4) (fun hHeld => ?_)
    clear hK K
    (try simp only [Act.put, List.setIfInBounds_toArray, List.set_cons_zero, List.set_cons_succ])
    refine wpAnyH_take (i := 5) (oi := ⟨some 52, _, _, _, _, _⟩) (v := ?v12) rfl (by kernel_rfl) (by kernel_rfl) (by kernel_rfl) (fun _ _ _ h => h) (Or.inl ⟨by rfl, ?hy12⟩) (by assumption) ?rest12
    case hy12 => (intro wq hSw; clear hSw; first | (go_simp; done) | (go_simp; with_reducible rfl))
    simp only [Act.put, List.setIfInBounds_toArray, List.set_cons_zero, List.set_cons_succ]
    have HBF : Hid (Below w.heap.size w W4) := hHeld.bl
    refine wpAnyH_done (by kernel_rfl) ?_ _
    clear hHeld hn3 hb3 hb4 st heq0
    cases bd
    · go_wp2
      go_ret
      exact ⟨by rw [HF.out]; rfl, HBF.out⟩
    · go_wp2
      go_ret
      exact ⟨by rw [HF.out]; rfl, HBF.out⟩
set_option maxHeartbeats 1000000 in
set_option maxRecDepth 100000 in
theorem implFirstPart (a : Option Addr) (len cap : Nat) (ns : List Nd) (i : Int) (w : World) (hin : NodesIn w a len ns) (hint : IntT ns) (hsh : ShortT ns) (hlen : len ≤ 1048576) (_hc : len ≤ cap) (_hm : cap ≤ maxLen) (_hi : -9223372036854775808 ≤ i ∧ i ≤ 9223372036854775807) :
    Calls Try.prog 18 #[.slice a len cap, .int .i64 i] w fun e w' => e = .returned (.int .i64 (firstT ns i)) ∧ Below w.heap.size w w' := by
  obtain rfl : ns.length = len := hin.1
  by_cases hno : treeB ns = false ∨ i < 0 ∨ (ns.length : Int) ≤ i
  · have hF : firstT ns i = -1 := by
      unfold firstT
      refine if_neg (fun h => ?_)
      rcases hno with e | e | e
      · rw [h.1] at e; cases e
      · omega
      · omega
    rw [hF]
    exact implFirstNo a cap ns i w hin hint hsh hlen hno
  · have ht : treeB ns = true := by
      rcases hb : treeB ns with _ | _
      · exact absurd (Or.inl hb) hno
      · rfl
    have h0 : ¬ i < 0 := fun e => hno (Or.inr (Or.inl e))
    have h1 : ¬ (ns.length : Int) ≤ i := fun e => hno (Or.inr (Or.inr e))
    obtain ⟨q, rfl⟩ : ∃ q : Nat, i = (q : Int) := Int.eq_ofNat_of_zero_le (by omega)
    rcases hk : pairB (ns.getD q nd0) with _ | _
    · have hF : firstT ns (q : Int) = -1 := by
        unfold firstT
        refine if_neg (fun h => ?_)
        have h2 := h.2.2.2
        rw [Int.toNat_natCast] at h2
        unfold pairB at hk
        rw [decide_eq_true h2.1, decide_eq_true h2.2] at hk
        cases hk
      rw [hF]
      exact implFirstOdd a cap ns q w hin hint hsh hlen ht (by omega) hk
    · exact implFirstYes a cap ns q w hin hint hsh hlen ht (by omega) hk

end Go.Proofs.Ytdnehneldmmeoaa

/-! Small facts for the walks of stage 6. -/
namespace Go.Proofs.Ytdnehneldmmeoaa
open Go.RowKit

end Go.Proofs.Ytdnehneldmmeoaa

/-! The laws' own helpers over rows of nodes: markNodeS, heldNodeS, likeTree. -/
namespace Go.Proofs.Ytdnehneldmmeoaa
open Go.RowKit

/-- The marks of m nodes, from k on. -/
def marksN (k : Nat) : Nat → List Nd
  | 0 => []
  | m + 1 => marksN k m ++ [(((k + 4 * m : Nat) : Int), ((k + 4 * m + 1 : Nat) : Int), markL (k + 4 * m + 1 + 1), markL (k + 4 * m + 1 + 1 + 1))]

end Go.Proofs.Ytdnehneldmmeoaa
