/-
  Parts of one proof, one behind the other: TreeS3, PackS, PackS2.
-/
import Derived.Test.YtiekcenknniniaaGreatDoorP4
import Derived.Deep.RegionHeld3
import Derived.BigQuiet
import Derived.Deep.Cut

/-! The contracts of chapter 6's specification: TreeOk; a node and a tree are shown. -/
namespace Go.Proofs.YtiekcenknniniaaGreatDoor
open Go.RowKit

set_option maxHeartbeats 1000000 in
set_option maxRecDepth 100000 in
theorem specTreeOk (a : Option Addr) (len cap : Nat) (ns : List Nd) (w : World) (hin : NodesIn w a len ns) (hsh : ShortT ns) (hlen : len ≤ 1048576) :
    Calls Tryz.prog 92 #[.slice a len cap] w fun e w' => e = .returned (.bool (treeB ns)) ∧ Below w.heap.size w w' := by
  obtain rfl : ns.length = len := hin.1
  have HC : Hid (_) := fun W (h : NodesIn W a ns.length ns) => specEndOf a ns.length cap ns 0 W h hsh hlen
  have HI : Hid (NodesIn w a ns.length ns) := hin
  clear hin hsh
  by_cases h : 1 ≤ (ns.length : Int) ∧ (ns.length : Int) ≤ 60
  · have HB : Hid (inB (ns.length : Int) 1 60 = true) := inB_yes _ _ _ h.1 h.2
    have HT : Hid (treeB ns = (endV ns 0 == (ns.length : Int))) := by
      exact (by unfold treeB; rw [Bool.eq_iff_iff, decide_eq_true_iff, beq_iff_eq]; constructor; exact fun x => x.2; exact fun x => ⟨by omega, x⟩ : treeB ns = (endV ns 0 == (ns.length : Int)))
    go_enter Tryz.func92, Tryz.ntmps92
    go_wp2_with fail
    refine (specIn _ _ _ _).mono ?_
    rintro e w1 ⟨rfl, rfl⟩
    rw [HB.out]
    go_wp2_with fail
    refine Calls.mono (HC.out _ HI.out) ?_
    rintro e w2 ⟨rfl, hb2⟩
    go_wp2
    go_ret
    exact ⟨by rw [HT.out]; rfl, hb2⟩
  · have HB : Hid (inB (ns.length : Int) 1 60 = false) := inB_no _ _ _ (by omega)
    have HT : Hid (treeB ns = false) := by exact (decide_eq_false (fun x => h (by omega)) : treeB ns = false)
    go_enter Tryz.func92, Tryz.ntmps92
    go_wp2_with fail
    refine (specIn _ _ _ _).mono ?_
    rintro e w1 ⟨rfl, rfl⟩
    rw [HB.out]
    go_wp2
    go_ret
    exact ⟨by rw [HT.out]; rfl, Below.refl _ _⟩

theorem intL_short (a : Int) (h0 : -2147483648 ≤ a) (h1 : a ≤ 2147483647) : (intL a).length ≤ 11 := by
  have h := digL_len 9 a.natAbs (by omega)
  unfold intL
  split
  · simp; omega
  · omega

set_option maxHeartbeats 2000000 in
set_option maxRecDepth 100000 in
theorem specShow (n : Nd) (w : World) (hn : nodeB n = true) :
    Calls Tryz.prog 122 #[nodeVal n] w fun e w' => e = .returned (.string ⟨(showN n).toArray⟩) ∧ Below w.heap.size w w' := by
  obtain ⟨k, a, p, f⟩ := n
  have hcat := cat_list
  unfold nodeVal
  simp only
  have hp := nodeB_iff.1 hn
  unfold nodeP at hp
  simp only at hp
  rcases hp with ⟨rfl, ⟨h0, h1⟩, rfl, rfl⟩ | ⟨rfl, ⟨h0, h1⟩, rfl, rfl⟩ | ⟨hk, rfl, rfl, rfl⟩ | ⟨rfl, ⟨h0, h1⟩, hpn, hfn⟩
  · have hs : showN (1, a, [], []) = intL a := by unfold showN; simp
    rw [hs]
    clear hs hn
    go_enter Tryz.func122, Tryz.ntmps122
    go_wp2_with fail
    refine (specInt a _ (by omega) (by omega)).mono ?_
    rintro e w1 ⟨rfl, hb1⟩
    go_wp2
    go_ret
    exact ⟨rfl, below_boxed hb1⟩
  · have hs : showN (2, a, [], []) = 36 :: intL a := by unfold showN; simp
    rw [hs]
    have hl := intL_short a (by omega) (by omega)
    clear hs hn
    go_enter Tryz.func122, Tryz.ntmps122
    go_wp2_with fail
    refine (specInt a _ (by omega) (by omega)).mono ?_
    rintro e w1 ⟨rfl, hb1⟩
    have hli : ((intL a).length : Int) ≤ 11 := by omega
    go_wp2
    go_ret
    exact ⟨rfl, below_boxed hb1⟩
  · rcases (show k = 3 ∨ k = 4 ∨ k = 5 ∨ k = 6 ∨ k = 7 by omega) with rfl | rfl | rfl | rfl | rfl
    all_goals
      clear hn
      go_enter Tryz.func122, Tryz.ntmps122
      go_wp2
      go_ret
      exact ⟨by unfold showN; simp, (Below.refl _ w).alloc (Nat.le_refl _) _⟩
  · have HS : Hid (showN (8, a, p, f) = (64 :: p) ++ [46] ++ f ++ [47] ++ intL a) := by exact (by unfold showN; simp : showN (8, a, p, f) = (64 :: p) ++ [46] ++ f ++ [47] ++ intL a)
    have hl := intL_short a (by omega) (by omega)
    have hpl := (name_letters hpn).1.2
    have hfl := (name_letters hfn).1.2
    have hli : ((intL a).length : Int) ≤ 11 := by omega
    have hpi : (p.length : Int) ≤ 8 := by omega
    have hfi : (f.length : Int) ≤ 8 := by omega
    have e1 : ∀ W : World, (Op.stringOp .add ⟨#[64]⟩ ⟨p.toArray⟩).run Tryz.prog W = .ok (.string ⟨(64 :: p).toArray⟩) W := fun W => by
      have := run_string_add_lists (P := Tryz.prog) W [64] p (by simp) (by omega)
      simpa using this
    have e2 : ∀ W : World, (Op.stringOp .add ⟨(64 :: p).toArray⟩ ⟨#[46]⟩).run Tryz.prog W = .ok (.string ⟨(64 :: (p ++ [46])).toArray⟩) W := fun W => by
      have := run_string_add_lists (P := Tryz.prog) W (64 :: p) [46] (by simp; omega) (by simp)
      simpa using this
    have e3 : ∀ W : World, (Op.stringOp .add ⟨(64 :: (p ++ [46])).toArray⟩ ⟨f.toArray⟩).run Tryz.prog W = .ok (.string ⟨(64 :: (p ++ 46 :: f)).toArray⟩) W := fun W => by
      have := run_string_add_lists (P := Tryz.prog) W (64 :: (p ++ [46])) f (by simp; omega) (by omega)
      simpa using this
    have e4 : ∀ W : World, (Op.stringOp .add ⟨(64 :: (p ++ 46 :: f)).toArray⟩ ⟨#[47]⟩).run Tryz.prog W = .ok (.string ⟨(64 :: (p ++ 46 :: (f ++ [47]))).toArray⟩) W := fun W => by
      have := run_string_add_lists (P := Tryz.prog) W (64 :: (p ++ 46 :: f)) [47] (by simp; omega) (by simp)
      simpa using this
    have e5 : ∀ W : World, (Op.stringOp .add ⟨(64 :: (p ++ 46 :: (f ++ [47]))).toArray⟩ ⟨(intL a).toArray⟩).run Tryz.prog W = .ok (.string ⟨(64 :: (p ++ 46 :: (f ++ 47 :: intL a))).toArray⟩) W := fun W => by
      have := run_string_add_lists (P := Tryz.prog) W (64 :: (p ++ 46 :: (f ++ [47]))) (intL a) (by simp; omega) (by omega)
      simpa using this
    clear hn hpn hfn hcat
    go_enter Tryz.func122, Tryz.ntmps122
    go_wp2
    go_region_held3 (fun w' => w'.cell? ⟨w.heap.size, 1, none⟩ = some (.int .i64 a) ∧ w'.cell? ⟨w.heap.size, 2, none⟩ = some (.string ⟨p.toArray⟩) ∧ w'.cell? ⟨w.heap.size, 3, none⟩ = some (.string ⟨f.toArray⟩)) (go_keep) (first | (go_at_call 89; refine (specInt a _ (by omega) (by omega)).mono ?_; rintro e w1 ⟨rfl, hb1⟩; have hc1 : w1.cell? ⟨w.heap.size, 1, none⟩ = some (.int .i64 a) := (hb1.cell (p := ⟨w.heap.size, 1, none⟩) (by simp)).trans (by simp); have hc2 : w1.cell? ⟨w.heap.size, 2, none⟩ = some (.string ⟨p.toArray⟩) := (hb1.cell (p := ⟨w.heap.size, 2, none⟩) (by simp)).trans (by simp); have hc3 : w1.cell? ⟨w.heap.size, 3, none⟩ = some (.string ⟨f.toArray⟩) := (hb1.cell (p := ⟨w.heap.size, 3, none⟩) (by simp)).trans (by simp)))
    all_goals
      go_wp2
      go_ret
      exact ⟨ret_strl (by rw [HS.out]; simp), below_boxd hb1⟩

theorem show_len (n : Nd) (h : nodeB n = true) : (showN n).length ≤ 30 := by
  obtain ⟨k, a, p, f⟩ := n
  have hp := nodeB_iff.1 h
  unfold nodeP at hp
  simp only at hp
  rcases hp with ⟨rfl, ⟨h0, h1⟩, rfl, rfl⟩ | ⟨rfl, ⟨h0, h1⟩, rfl, rfl⟩ | ⟨hk, rfl, rfl, rfl⟩ | ⟨rfl, ⟨h0, h1⟩, hpn, hfn⟩
  · have hs : showN (1, a, [], []) = intL a := by unfold showN; simp
    rw [hs]; have := intL_short a h0 h1; omega
  · have hs : showN (2, a, [], []) = 36 :: intL a := by unfold showN; simp
    rw [hs]; have := intL_short a (by omega) (by omega); simp; omega
  · rcases (show k = 3 ∨ k = 4 ∨ k = 5 ∨ k = 6 ∨ k = 7 by omega) with rfl | rfl | rfl | rfl | rfl <;> (unfold showN; simp)
  · have hs : showN (8, a, p, f) = (64 :: p) ++ [46] ++ f ++ [47] ++ intL a := by unfold showN; simp
    rw [hs]
    have := intL_short a (by omega) (by omega)
    have := (name_letters hpn).1
    have := (name_letters hfn).1
    simp; omega

theorem joinBy_len (ws : List (List UInt8)) (m : Nat) (h : ∀ x ∈ ws, x.length ≤ m) : (joinBy 32 ws).length ≤ ws.length * (m + 1) := by
  induction ws with
  | nil => simp [joinBy]
  | cons x r ih =>
    have hx := h x (by simp)
    have ir := ih (fun y hy => h y (by simp [hy]))
    rw [List.length_cons, Nat.add_mul, Nat.one_mul]
    by_cases hr : r = []
    · subst hr; simp [joinBy]; omega
    · rw [joinBy_cons 32 x r hr]; simp only [List.length_append, List.length_singleton]; omega

theorem showL_len (ns : List Nd) (h : ∀ n ∈ ns, nodeB n = true) : (showL ns).length ≤ ns.length * 31 := by
  have := joinBy_len (ns.map showN) 30 (by intro x hx; obtain ⟨n, hn, rfl⟩ := List.mem_map.1 hx; exact show_len n (h n hn))
  rw [List.length_map] at this
  exact this

theorem showL_step (ns : List Nd) (k : Nat) (hk : k < ns.length) : showL (ns.take (k + 1)) = if k = 0 then showN (ns.getD k nd0) else showL (ns.take k) ++ [32] ++ showN (ns.getD k nd0) := by
  unfold showL
  have h := joinBy_step 32 (ns.map showN) k (by simpa using hk)
  rw [← List.map_take, ← List.map_take] at h
  have hg : (ns.map showN).getD k [] = showN (ns.getD k nd0) := by simp [List.getD, hk]
  rw [hg] at h
  exact h

theorem showL_take (ns : List Nd) (k : Nat) : (showL (ns.take k)).length ≤ (showL ns).length := by
  unfold showL
  have := joinBy_take 32 (ns.map showN) k
  rw [← List.map_take] at this
  exact this

set_option maxHeartbeats 2000000 in
set_option maxRecDepth 100000 in
theorem specShowL (a : Option Addr) (len cap : Nat) (ns : List Nd) (w : World) (hin : NodesIn w a len ns) (hn : ∀ n ∈ ns, nodeB n = true) (hlen : len ≤ 60) :
    Calls Tryz.prog 93 #[.slice a len cap] w fun e w' => e = .returned (.string ⟨(showL ns).toArray⟩) ∧ Below w.heap.size w w' := by
  obtain rfl : ns.length = len := hin.1
  obtain ⟨i0, hi, hz0, hz1, hz2⟩ := info_parts info5
  have HI : Hid (NodesIn w a ns.length ns) := hin
  have HNs : Hid (∀ n ∈ ns, nodeB n = true) := hn
  have HLen : Hid ((showL ns).length ≤ ns.length * 31) := showL_len ns hn
  clear hin hn
  have hown0 : (w.alloc (.cells #[] 5)).ownsRow w.heap.size 5 1 (.slice (some ⟨w.heap.size, 0, none⟩) 0 0) ([] : List UInt8).length (bytesV []) := (World.ownsRow_lit (base := w.heap.size) (e := 5) (size := 1) w #[] 0 (Nat.le_refl _) (by decide) rfl)
  go_enter Tryz.func93, Tryz.ntmps93
  go_wp2
  go_loopw [3, 4] (fun v i wr => ∃ k : Nat, k ≤ ns.length ∧ i = .int .i64 k ∧ wr.ownsRow w.heap.size 5 1 v (showL (ns.take k)).length (bytesV (showL (ns.take k))) ∧ Below w.heap.size w wr) (fun _ i _ => ns.length - (intOf i).toNat)
  case atStart => exact ⟨0, Nat.zero_le _, rfl, by simpa [showL, joinBy] using hown0, (Below.refl _ _).alloc (Nat.le_refl _) _⟩
  case round =>
    obtain ⟨k, hk, rfl, hown, hb⟩ := hrel
    clear hown0
    by_cases hkl : (k : Int) < (ns.length : Int)
    · have hk2 : k < ns.length := by omega
      have hst := showL_step ns k hk2
      have hbd := showL_take ns (k + 1)
      have hll := HLen.out
      have hnk : nodeB (ns.getD k nd0) = true := by
        have hg : ns.getD k nd0 = ns[k] := by simp [List.getD, hk2]
        rw [hg]; exact HNs.out _ (List.getElem_mem hk2)
      have hsl := show_len _ hnk
      obtain ⟨n, hn⟩ : ∃ n, ns.getD k nd0 = n := ⟨_, rfl⟩
      rw [hn] at hst hnk hsl
      have HN : Hid (ns.getD k nd0 = n) := hn
      have HC : Hid (_) := fun W : World => specShow n W hnk
      obtain ⟨A, hA⟩ : ∃ A, showL (ns.take k) = A := ⟨_, rfl⟩
      rw [hA] at hst hown
      obtain ⟨S, hS⟩ : ∃ S, showN n = S := ⟨_, rfl⟩
      rw [hS] at hst hsl
      have HSS : Hid (showN n = S) := hS
      have hAl : A.length ≤ 1860 := by have := showL_take ns k; rw [hA] at this; omega
      have hA0 : k = 0 → A = [] := fun e => by rw [← hA, e]; rfl
      clear hn hA hS hbd hll
      by_cases hk0 : k = 0
      · subst hk0
        rw [if_pos rfl] at hst
        have HST : Hid (showL (ns.take (0 + 1)) = S) := hst
        obtain rfl : A = [] := hA0 rfl
        clear hA0
        clear hst
        obtain ⟨b, off, rfl, hbl, hcells⟩ := (HI.out.below hb).at (by omega)
        obtain ⟨c0, c1, c2, c3⟩ := hcells 0 (by omega)
        rw [HN.out] at c0 c1 c2 c3
        unfold nodeVal at HC
        obtain ⟨kd, aa, p, f⟩ := n
        simp only at c0 c1 c2 c3 HC
        simp only [Nat.zero_mul, Nat.add_zero] at c0 c1 c2 c3
        clear hcells
        go_wp2_with fail
        refine Calls.mono (HC.out _) ?_
        rintro e w4 ⟨rfl, hb4⟩
        rw [HSS.out]
        have hown4 := own_below hown hb4
        have hB4 := hb.trans (hb4.mono hb.size)
        have hbs4 := hB4.size
        have hts : (⟨S.toArray⟩ : ByteArray).size = S.length := List.size_toArray
        clear hb4 c0 c1 c2 c3 HC
        go_wp2_with (at_builtin; refine Lib.wpList_append_own_string _ rfl _ _ 111 9 rfl w.heap.size 5 i0 Tryz.underlying111 Tryz.underlying9 hi hz0 hz1 hz2 _ _ _ rfl hown4 ⟨S.toArray⟩ rfl (by rw [hts]; unfold maxLen; simp; omega) (by rw [hts]; simp; omega) hbs4 ?_; intro v' w5 hown5 hgrow5 _)
        rw [strCells_list, hts] at hown5
        have hown6 : w5.ownsRow w.heap.size 5 1 v' (showL (ns.take (0 + 1))).length (bytesV (showL (ns.take (0 + 1)))) := by
          rw [HST.out]
          have h5 := hown5
          simp only [List.length_nil, Nat.zero_add, show bytesV [] = [] from rfl, List.nil_append] at h5
          exact h5
        have hb6 : Below w.heap.size w w5 := hB4.grown hgrow5 hB4.size (fun q e => (hown4.lt q e).1)
        clear hown5 hgrow5 hown4 hB4
        go_wp2
        go_roundw
        case rel => exact ⟨0 + 1, by omega, by go_num, hown6, hb6⟩
        case measure => simp [intOf]; omega
      · rw [if_neg hk0] at hst
        have HST : Hid (showL (ns.take (k + 1)) = A ++ [32] ++ S) := hst
        have hk1 : 0 < (k : Int) := by omega
        clear hst hk0 hA0
        go_wp2_with (at_builtin; refine wpList_append_own _ rfl _ _ 111 rfl w.heap.size 5 i0 (.int .u8 0) 1 1 Tryz.underlying111 hi hz0 hz1 hz2 rfl (by decide) _ _ _ rfl (hown.alloc _) ⟨wr.heap.size, 0, none⟩ 1 1 [.int .u8 32] rfl rfl ?c1 ?c2 ?c3 ?c4 ?c5 ?_)
        first | (case c1 => exact cell_one_new _ _ _) | skip
        first | (case c2 => first | rfl | (intro u hu; simp at hu; subst hu; rfl)) | skip
        first | (case c3 => unfold maxLen; omega) | skip
        first | (case c4 => omega) | skip
        first | (case c5 => have := hb.size; simp; try omega) | skip
        intro v3 w3 hown3' hgrow3 hnil3
        have hown3 : w3.ownsRow w.heap.size 5 1 v3 (A ++ [32]).length (bytesV (A ++ [32])) := by
          rw [List.length_append, List.length_singleton]
          have hbv : bytesV (A ++ [32]) = bytesV A ++ [.int .u8 32] := by simp [bytesV]
          rw [hbv]; exact hown3'
        have hb3 : Below w.heap.size w w3 := (hb.alloc hb.size _).grown hgrow3 (by have := hb.size; simp; omega) (fun q e => (hown.lt q e).1)
        clear hown3' hgrow3 hnil3 hown hb
        obtain ⟨b, off, rfl, hbl, hcells⟩ := (HI.out.below hb3).at (by omega)
        obtain ⟨c0, c1, c2, c3⟩ := hcells k (by omega)
        rw [HN.out] at c0 c1 c2 c3
        unfold nodeVal at HC
        obtain ⟨kd, aa, p, f⟩ := n
        simp only at c0 c1 c2 c3 HC
        clear hcells
        go_wp2_with fail
        refine Calls.mono (HC.out _) ?_
        rintro e w4 ⟨rfl, hb4⟩
        rw [HSS.out]
        have hown4 := own_below hown3 hb4
        have hB4 := hb3.trans (hb4.mono hb3.size)
        have hbs4 := hB4.size
        have hts : (⟨S.toArray⟩ : ByteArray).size = S.length := List.size_toArray
        clear hb4 c0 c1 c2 c3 HC
        go_wp2_with (at_builtin; refine Lib.wpList_append_own_string _ rfl _ _ 111 9 rfl w.heap.size 5 i0 Tryz.underlying111 Tryz.underlying9 hi hz0 hz1 hz2 _ _ _ rfl hown4 ⟨S.toArray⟩ rfl (by rw [hts]; unfold maxLen; rw [List.length_append, List.length_singleton]; omega) (by rw [hts]; rw [List.length_append, List.length_singleton]; omega) hbs4 ?_; intro v' w5 hown5 hgrow5 _)
        rw [strCells_list, hts] at hown5
        have hown6 : w5.ownsRow w.heap.size 5 1 v' (showL (ns.take (k + 1))).length (bytesV (showL (ns.take (k + 1)))) := by
          rw [HST.out, List.length_append]
          have hbv : bytesV (A ++ [32] ++ S) = bytesV (A ++ [32]) ++ bytesV S := by simp [bytesV]
          rw [hbv]; exact hown5
        have hb6 : Below w.heap.size w w5 := hB4.grown hgrow5 hB4.size (fun q e => (hown4.lt q e).1)
        clear hown5 hgrow5 hown4 hB4
        go_wp2
        go_roundw
        case rel => exact ⟨k + 1, by omega, by go_num, hown6, hb6⟩
        case measure => simp [intOf]; omega
    · have hd : ns.take k = ns := List.take_of_length_le (by omega)
      rw [hd] at hown
      clear hd
      have hbk := back_own _ _ _ _ hown
      go_wp2
      go_ret
      exact ⟨rfl, hb⟩


end Go.Proofs.YtiekcenknniniaaGreatDoor

/-! The contracts of chapter 7's specification: l1Rise, l7Imports, l7Func. -/
namespace Go.Proofs.YtiekcenknniniaaGreatDoor
open Go.RowKit

set_option maxHeartbeats 2000000 in
set_option maxRecDepth 100000 in
theorem specRise (a : Option Addr) (len cap : Nat) (ts : List (List UInt8)) (w : World) (hin : TextsIn w a len ts) (hlen : len ≤ 1048576) :
    Calls Tryz.prog 104 #[.slice a len cap] w fun e w' => e = .returned (.bool (riseB ts)) ∧ Below w.heap.size w w' := by
  obtain rfl : ts.length = len := hin.1
  have HI : Hid (TextsIn w a ts.length ts) := hin
  clear hin
  go_enter Tryz.func104, Tryz.ntmps104
  go_wp2
  go_loopw [3] (fun iv wr => ∃ j : Nat, iv = .int .i64 ((j : Int) + 1) ∧ j ≤ ts.length ∧ Hid (∀ i, i < j → leT (ts.getD (i + 1) []) (ts.getD i []) = false) ∧ Hid (TextsIn wr a ts.length ts) ∧ Hid (Below w.heap.size w wr)) (fun iv _ => ts.length + 1 - (intOf iv).toNat)
  case atStart => exact ⟨0, rfl, by omega, (fun i hi => by omega), HI, Below.refl _ _⟩
  case round =>
    obtain ⟨j, rfl, hj, HA, HT, HB⟩ := hrel
    clear HI
    by_cases hlt : (j : Int) + 1 < (ts.length : Int)
    · obtain ⟨b, off, rfl, hbl, c0⟩ := HT.out.2 j (by omega)
      obtain ⟨b', off', he, _, c1⟩ := HT.out.2 (j + 1) (by omega)
      simp only [Option.some.injEq, Addr.mk.injEq, and_true] at he
      obtain ⟨rfl, rfl⟩ := he
      obtain ⟨x, hx⟩ : ∃ x, ts.getD j [] = x := ⟨_, rfl⟩
      obtain ⟨y, hy⟩ : ∃ y, ts.getD (j + 1) [] = y := ⟨_, rfl⟩
      rw [hx] at c0
      rw [hy] at c1
      rcases hle : leT y x with _ | _
      · have HA2 : Hid (∀ i, i < j + 1 → leT (ts.getD (i + 1) []) (ts.getD i []) = false) := fun i hi => by
          rcases Nat.lt_or_ge i j with h | h
          · exact HA.out i h
          · obtain rfl : i = j := by omega
            rw [hx, hy]; exact hle
        have HT2 : Hid (TextsIn wr (some ⟨b, off, none⟩) ts.length ts) := HT.out
        unfold leT at hle
        clear HA HT hx hy
        go_wp2_with fail
        go_quiet (fail)
        go_wp2
        go_roundw
        case rel => exact ⟨j + 1, by go_num, by omega, HA2, HT2, HB.out.trans ⟨rfl, rfl, rfl, Nat.le_refl _, fun _ _ => rfl⟩⟩
        case measure => simp [intOf]; omega
      · have HR : Hid (riseB ts = false) := riseB_no (j := j) (by omega) (by rw [hx, hy]; exact hle)
        unfold leT at hle
        clear HA HT hx hy
        go_wp2_with fail
        go_quiet (fail)
        go_wp2
        go_ret
        exact ⟨by rw [HR.out]; rfl, HB.out.trans ⟨rfl, rfl, rfl, Nat.le_refl _, fun _ _ => rfl⟩⟩
    · have HR : Hid (riseB ts = true) := riseB_yes (j := j) (by omega) HA.out
      go_wp2
      go_ret
      exact ⟨by rw [HR.out]; rfl, HB.out⟩

set_option maxHeartbeats 2000000 in
set_option maxRecDepth 100000 in
theorem specImports (a : Option Addr) (len cap : Nat) (ts : List (List UInt8)) (w : World) (hin : TextsIn w a len ts) (hlen : len ≤ 1048576) (hs : ∀ i, (ts.getD i []).length ≤ 1048576) :
    Calls Tryz.prog 69 #[.slice a len cap] w fun e w' => e = .returned (.bool (importsB ts)) ∧ Below w.heap.size w w' := by
  obtain rfl : ts.length = len := hin.1
  have HI : Hid (TextsIn w a ts.length ts) := hin
  have HS : Hid (∀ i, (ts.getD i []).length ≤ 1048576) := hs
  clear hin hs
  go_enter Tryz.func69, Tryz.ntmps69
  go_wp2
  go_loopw [3] (fun iv wr => ∃ j : Nat, iv = .int .i64 (j : Int) ∧ j ≤ ts.length ∧ Hid (∀ i, i < j → nameB (ts.getD i []) = true) ∧ Hid (TextsIn wr a ts.length ts) ∧ Hid (Below w.heap.size w wr)) (fun iv _ => ts.length - (intOf iv).toNat)
  case atStart => exact ⟨0, rfl, by omega, (fun i hi => by omega), HI, Below.refl _ _⟩
  case round =>
    obtain ⟨j, rfl, hj, HA, HT, HB⟩ := hrel
    clear HI
    by_cases hlt : (j : Int) < (ts.length : Int)
    · obtain ⟨b, off, rfl, hbl, c0⟩ := HT.out.2 j (by omega)
      have hxl := HS.out j
      obtain ⟨x, hx⟩ : ∃ x, ts.getD j [] = x := ⟨_, rfl⟩
      rw [hx] at c0 hxl
      have hC : Hid (_) := specNameOk x wr hxl
      rcases hnb : nameB x with _ | _
      · have HR : Hid (importsB ts = false) := importsB_no (j := j) (by omega) (by rw [hx]; exact hnb)
        rw [hnb] at hC
        clear HA HT hx hnb
        go_wp2_with (go_at_call 68; refine Calls.mono hC.out ?_; rintro e w1 ⟨rfl, rfl⟩)
        go_ret
        exact ⟨by rw [HR.out]; rfl, HB.out⟩
      · have HA2 : Hid (∀ i, i < j + 1 → nameB (ts.getD i []) = true) := fun i hi => by
          rcases Nat.lt_or_ge i j with h | h
          · exact HA.out i h
          · obtain rfl : i = j := by omega
            rw [hx]; exact hnb
        rw [hnb] at hC
        clear HA hx hnb
        go_wp2_with (go_at_call 68; refine Calls.mono hC.out ?_; rintro e w1 ⟨rfl, rfl⟩)
        go_roundw
        case rel => exact ⟨j + 1, by go_num, by omega, HA2, HT, HB⟩
        case measure => simp [intOf]; omega
    · have hall := importsB_all (l := ts) (fun i hi => HA.out i (by omega))
      by_cases h6 : (ts.length : Int) ≤ 6
      · have HR : Hid (importsB ts = riseB ts) := by
          exact (by rw [hall, decide_eq_true (show ts.length ≤ 6 by omega)]; rfl : importsB ts = riseB ts)
        have hC : Hid (_) := specRise a ts.length cap ts wr HT.out hlen
        clear hall HA HT
        go_wp2_with (go_at_call 104; refine Calls.mono hC.out ?_; rintro e w1 ⟨rfl, hb1⟩)
        go_ret
        exact ⟨by rw [HR.out]; rfl, HB.out.trans (hb1.mono HB.out.size)⟩
      · have HR : Hid (importsB ts = false) := by
          exact (by rw [hall, decide_eq_false (show ¬ ts.length ≤ 6 by omega)]; rfl : importsB ts = false)
        clear hall HA HT
        go_wp2
        go_ret
        exact ⟨by rw [HR.out]; rfl, HB.out⟩

/-- A function, as a value. -/
def FnVal (f : Fn) (ta : Option Addr) (tl tc : Nat) : Value := .agg #[.string ⟨f.1.toArray⟩, .int .i64 f.2.1, .slice ta tl tc]

set_option maxHeartbeats 2000000 in
set_option maxRecDepth 100000 in
theorem specFuncOk (f : Fn) (ta : Option Addr) (tl tc : Nat) (w : World) (hin : NodesIn w ta tl f.2.2) (hsh : ShortT f.2.2) (hlen : tl ≤ 1048576) (hn : f.1.length ≤ 1048576) :
    Calls Tryz.prog 94 #[.agg #[.string ⟨f.1.toArray⟩, .int .i64 f.2.1, .slice ta tl tc]] w fun e w' => e = .returned (.bool (funcB f)) ∧ Below w.heap.size w w' := by
  obtain ⟨s, n, t⟩ := f
  simp only at hin hsh hn ⊢
  obtain ⟨W, hW⟩ : ∃ W, w.alloc (.cells #[.string ⟨s.toArray⟩, .int .i64 n, .slice ta tl tc] 85) = W := ⟨_, rfl⟩
  have hbW : Below w.heap.size w W := by rw [← hW]; exact (Below.refl _ _).alloc (Nat.le_refl _) _
  have hA : W.heap[w.heap.size]? = some (.cells #[.string ⟨s.toArray⟩, .int .i64 n, .slice ta tl tc] 85) := by rw [← hW]; exact heap_alloc_new w _
  have c0 : W.cell? ⟨w.heap.size, 0, none⟩ = some (.string ⟨s.toArray⟩) := by simp [World.cell?, hA]
  have c1 : W.cell? ⟨w.heap.size, 1, none⟩ = some (.int .i64 n) := by simp [World.cell?, hA]
  have c2 : W.cell? ⟨w.heap.size, 2, none⟩ = some (.slice ta tl tc) := by simp [World.cell?, hA]
  have hC1 : Hid (_) := specNameOk s W hn
  have hC2 : Hid (_) := specIn n 0 3 W
  have hC3 : Hid (_) := specTreeOk ta tl tc t W (hin.below hbW) hsh hlen
  have HF : Hid (funcB (s, n, t) = (nameB s && (inB n 0 3 && treeB t))) := rfl
  generalize nameB s = nb at hC1 HF
  generalize inB n 0 3 = ib at hC2 HF
  generalize treeB t = tb at hC3 HF
  clear hin hsh hA
  go_enter Tryz.func94, Tryz.ntmps94
  rcases nb with _ | _
  · go_wp2_with (go_at_call 68; refine Calls.mono hC1.out ?_; rintro e w1 ⟨rfl, rfl⟩)
    go_ret
    exact ⟨by rw [HF.out]; rfl, hbW⟩
  · rcases ib with _ | _
    · go_wp2_with (first | (go_at_call 68; refine Calls.mono hC1.out ?_; rintro e w1 ⟨rfl, rfl⟩) | (go_at_call 70; refine Calls.mono hC2.out ?_; rintro e w1 ⟨rfl, rfl⟩))
      go_ret
      exact ⟨by rw [HF.out]; rfl, hbW⟩
    · go_wp2_with (first | (go_at_call 68; refine Calls.mono hC1.out ?_; rintro e w1 ⟨rfl, rfl⟩) | (go_at_call 70; refine Calls.mono hC2.out ?_; rintro e w1 ⟨rfl, rfl⟩) | (go_at_call 92; refine Calls.mono hC3.out ?_; rintro e w2 ⟨rfl, hb2⟩))
      go_ret
      exact ⟨by rw [HF.out]; rfl, hbW.trans (hb2.mono hbW.size)⟩

end Go.Proofs.YtiekcenknniniaaGreatDoor

/-! The contracts of chapter 7's specification: l7At, PackageOk. -/
namespace Go.Proofs.YtiekcenknniniaaGreatDoor
open Go.RowKit

/-- The functions fs lie at a, three cells each, their trees where those say. -/
def FuncsIn (w : World) (a : Option Addr) (len : Nat) (fs : List Fn) : Prop :=
  fs.length = len ∧ ∀ j, j < len → ∃ b off, a = some ⟨b, off, none⟩ ∧ b < w.heap.size ∧ w.cell? ⟨b, off + j * 3, none⟩ = some (.string ⟨(fs.getD j fn0).1.toArray⟩) ∧ w.cell? ⟨b, off + j * 3 + 1, none⟩ = some (.int .i64 (fs.getD j fn0).2.1) ∧
    ∃ ta tl tc, w.cell? ⟨b, off + j * 3 + 2, none⟩ = some (.slice ta tl tc) ∧ (ta = none → tc = 0) ∧ NodesIn w ta tl (fs.getD j fn0).2.2

theorem FuncsIn.below {w w' : World} {a : Option Addr} {len : Nat} {fs : List Fn} (h : FuncsIn w a len fs) (hb : Below w.heap.size w w') : FuncsIn w' a len fs := by
  refine ⟨h.1, fun j hj => ?_⟩
  obtain ⟨b, off, e, hlt, c0, c1, ta, tl, tc, c2, hnc, hn⟩ := h.2 j hj
  exact ⟨b, off, e, Nat.lt_of_lt_of_le hlt hb.size, (hb.cell (p := ⟨b, off + j * 3, none⟩) hlt).trans c0, (hb.cell (p := ⟨b, off + j * 3 + 1, none⟩) hlt).trans c1, ta, tl, tc, (hb.cell (p := ⟨b, off + j * 3 + 2, none⟩) hlt).trans c2, hnc, hn.below hb⟩

/-- No name, no tree is longer than a law lets them be. -/
def ShortF (fs : List Fn) : Prop := ∀ j, (fs.getD j fn0).1.length ≤ 1048576 ∧ (fs.getD j fn0).2.2.length ≤ 1048576 ∧ ShortT (fs.getD j fn0).2.2

set_option maxHeartbeats 2000000 in
set_option maxRecDepth 100000 in
theorem specAt (nm s : List UInt8) (ia : Option Addr) (il ic : Nat) (fa : Option Addr) (fl fc : Nat) (fs : List Fn) (w : World) (hin : FuncsIn w fa fl fs) (hlen : fl ≤ 1048576) :
    Calls Tryz.prog 95 #[.agg #[.string ⟨nm.toArray⟩, .slice ia il ic, .slice fa fl fc], .string ⟨s.toArray⟩] w fun e w' => e = .returned (.int .i64 (atV fs s)) ∧ Below w.heap.size w w' := by
  obtain rfl : fs.length = fl := hin.1
  obtain ⟨W, hW⟩ : ∃ W, w.alloc (.cells #[.string ⟨nm.toArray⟩, .slice ia il ic, .slice fa fs.length fc] 52) = W := ⟨_, rfl⟩
  have hbW : Below w.heap.size w W := by rw [← hW]; exact (Below.refl _ _).alloc (Nat.le_refl _) _
  have hA : W.heap[w.heap.size]? = some (.cells #[.string ⟨nm.toArray⟩, .slice ia il ic, .slice fa fs.length fc] 52) := by rw [← hW]; exact heap_alloc_new w _
  have k2 : W.cell? ⟨w.heap.size, 2, none⟩ = some (.slice fa fs.length fc) := by simp [World.cell?, hA]
  have HI : Hid (FuncsIn W fa fs.length fs) := hin.below hbW
  clear hin hA
  go_enter Tryz.func95, Tryz.ntmps95
  go_wp2
  go_loopw [5] (fun iv wr => ∃ j : Nat, iv = .int .i64 (j : Int) ∧ j ≤ fs.length ∧ Hid (atV fs s = atGo s (fs.drop j) j) ∧ wr = W) (fun iv _ => fs.length - (intOf iv).toNat)
  case atStart => exact ⟨0, rfl, by omega, (rfl : atV fs s = atGo s (fs.drop 0) 0), rfl⟩
  case round =>
    obtain ⟨j, rfl, hj, HA, rfl⟩ := hrel
    by_cases hlt : (j : Int) < (fs.length : Int)
    · obtain ⟨b, off, rfl, hbl, c0, _⟩ := HI.out.2 j (by omega)
      have hg := atGo_drop (fs := fs) (k := j) (by omega) s
      obtain ⟨x, hx⟩ : ∃ x, (fs.getD j fn0).1 = x := ⟨_, rfl⟩
      rw [hx] at c0 hg
      by_cases hxs : x = s
      · subst hxs
        have HR : Hid (atV fs x = (j : Int)) := by exact (by rw [HA.out, hg, if_pos rfl] : atV fs x = (j : Int))
        have hself : (x == x) = true := by simp
        clear HA hg hx
        go_wp2
        go_ret
        exact ⟨by rw [HR.out]; rfl, hbW⟩
      · have HR : Hid (atV fs s = atGo s (fs.drop (j + 1)) (j + 1)) := by exact (by rw [HA.out, hg, if_neg hxs] : atV fs s = atGo s (fs.drop (j + 1)) (j + 1))
        have hne : (x == s) = false := by rw [beq_eq_false_iff_ne]; exact hxs
        clear HA hg hx
        go_wp2
        go_roundw
        case rel => exact ⟨j + 1, by go_num, by omega, HR, trivial⟩
        case measure => simp [intOf]; omega
    · have HR : Hid (atV fs s = -1) := by exact (by rw [HA.out, List.drop_of_length_le (by omega)]; rfl : atV fs s = -1)
      go_wp2
      go_ret
      exact ⟨by rw [HR.out]; rfl, hbW⟩

end Go.Proofs.YtiekcenknniniaaGreatDoor
