/-
  Parts of one proof, one behind the other: TreeS3, TreeS4.
-/
import Derived.Test.YtibppdepgoiojaaGreatDoorP4
import Derived.Deep.RegionHeld3
import Derived.Deep.RegionWith

/-! The contracts of chapter 6's specification: TreeOk; a node and a tree are shown. -/
namespace Go.Proofs.YtibppdepgoiojaaGreatDoor
open Go.RowKit

set_option maxHeartbeats 1000000 in
set_option maxRecDepth 100000 in
theorem specTreeOk (a : Option Addr) (len cap : Nat) (ns : List Nd) (w : World) (hin : NodesIn w a len ns) (hsh : ShortT ns) (hlen : len ≤ 1048576) :
    Calls Tryz.prog 65 #[.slice a len cap] w fun e w' => e = .returned (.bool (treeB ns)) ∧ Below w.heap.size w w' := by
  obtain rfl : ns.length = len := hin.1
  have HC : Hid (_) := fun W (h : NodesIn W a ns.length ns) => specEndOf a ns.length cap ns 0 W h hsh hlen
  have HI : Hid (NodesIn w a ns.length ns) := hin
  clear hin hsh
  by_cases h : 1 ≤ (ns.length : Int) ∧ (ns.length : Int) ≤ 60
  · have HB : Hid (inB (ns.length : Int) 1 60 = true) := inB_yes _ _ _ h.1 h.2
    have HT : Hid (treeB ns = (endV ns 0 == (ns.length : Int))) := by
      exact (by unfold treeB; rw [Bool.eq_iff_iff, decide_eq_true_iff, beq_iff_eq]; constructor; exact fun x => x.2; exact fun x => ⟨by omega, x⟩ : treeB ns = (endV ns 0 == (ns.length : Int)))
    go_enter Tryz.func65, Tryz.ntmps65
    go_wp2_with fail
    refine (specIn _ _ _ _).mono ?_
    rintro e w1 ⟨rfl, rfl⟩
    rw [HB.out]
    go_wp2_with fail
    refine Calls.mono (HC.out _ HI.out) ?_
    rintro e w2 ⟨rfl, hb2⟩
    go_wp2
    go_ret
    exact ⟨by rw [HT.out]; rfl, hb2⟩
  · have HB : Hid (inB (ns.length : Int) 1 60 = false) := inB_no _ _ _ (by omega)
    have HT : Hid (treeB ns = false) := by exact (decide_eq_false (fun x => h (by omega)) : treeB ns = false)
    go_enter Tryz.func65, Tryz.ntmps65
    go_wp2_with fail
    refine (specIn _ _ _ _).mono ?_
    rintro e w1 ⟨rfl, rfl⟩
    rw [HB.out]
    go_wp2
    go_ret
    exact ⟨by rw [HT.out]; rfl, Below.refl _ _⟩

theorem intL_short (a : Int) (h0 : -2147483648 ≤ a) (h1 : a ≤ 2147483647) : (intL a).length ≤ 11 := by
  have h := digL_len 9 a.natAbs (by omega)
  unfold intL
  split
  · simp; omega
  · omega

set_option maxHeartbeats 2000000 in
set_option maxRecDepth 100000 in
theorem specShow (n : Nd) (w : World) (hn : nodeB n = true) :
    Calls Tryz.prog 87 #[nodeVal n] w fun e w' => e = .returned (.string ⟨(showN n).toArray⟩) ∧ Below w.heap.size w w' := by
  obtain ⟨k, a, p, f⟩ := n
  have hcat := cat_list
  unfold nodeVal
  simp only
  have hp := nodeB_iff.1 hn
  unfold nodeP at hp
  simp only at hp
  rcases hp with ⟨rfl, ⟨h0, h1⟩, rfl, rfl⟩ | ⟨rfl, ⟨h0, h1⟩, rfl, rfl⟩ | ⟨hk, rfl, rfl, rfl⟩ | ⟨rfl, ⟨h0, h1⟩, hpn, hfn⟩
  · have hs : showN (1, a, [], []) = intL a := by unfold showN; simp
    rw [hs]
    clear hs hn
    go_enter Tryz.func87, Tryz.ntmps87
    go_wp2_with fail
    refine (specInt a _ (by omega) (by omega)).mono ?_
    rintro e w1 ⟨rfl, hb1⟩
    go_wp2
    go_ret
    exact ⟨rfl, below_boxed hb1⟩
  · have hs : showN (2, a, [], []) = 36 :: intL a := by unfold showN; simp
    rw [hs]
    have hl := intL_short a (by omega) (by omega)
    clear hs hn
    go_enter Tryz.func87, Tryz.ntmps87
    go_wp2_with fail
    refine (specInt a _ (by omega) (by omega)).mono ?_
    rintro e w1 ⟨rfl, hb1⟩
    have hli : ((intL a).length : Int) ≤ 11 := by omega
    go_wp2
    go_ret
    exact ⟨rfl, below_boxed hb1⟩
  · rcases (show k = 3 ∨ k = 4 ∨ k = 5 ∨ k = 6 ∨ k = 7 by omega) with rfl | rfl | rfl | rfl | rfl
    all_goals
      clear hn
      go_enter Tryz.func87, Tryz.ntmps87
      go_wp2
      go_ret
      exact ⟨by unfold showN; simp, (Below.refl _ w).alloc (Nat.le_refl _) _⟩
  · have HS : Hid (showN (8, a, p, f) = (64 :: p) ++ [46] ++ f ++ [47] ++ intL a) := by exact (by unfold showN; simp : showN (8, a, p, f) = (64 :: p) ++ [46] ++ f ++ [47] ++ intL a)
    have hl := intL_short a (by omega) (by omega)
    have hpl := (name_letters hpn).1.2
    have hfl := (name_letters hfn).1.2
    have hli : ((intL a).length : Int) ≤ 11 := by omega
    have hpi : (p.length : Int) ≤ 8 := by omega
    have hfi : (f.length : Int) ≤ 8 := by omega
    have e1 : ∀ W : World, (Op.stringOp .add ⟨#[64]⟩ ⟨p.toArray⟩).run Tryz.prog W = .ok (.string ⟨(64 :: p).toArray⟩) W := fun W => by
      have := run_string_add_lists (P := Tryz.prog) W [64] p (by simp) (by omega)
      simpa using this
    have e2 : ∀ W : World, (Op.stringOp .add ⟨(64 :: p).toArray⟩ ⟨#[46]⟩).run Tryz.prog W = .ok (.string ⟨(64 :: (p ++ [46])).toArray⟩) W := fun W => by
      have := run_string_add_lists (P := Tryz.prog) W (64 :: p) [46] (by simp; omega) (by simp)
      simpa using this
    have e3 : ∀ W : World, (Op.stringOp .add ⟨(64 :: (p ++ [46])).toArray⟩ ⟨f.toArray⟩).run Tryz.prog W = .ok (.string ⟨(64 :: (p ++ 46 :: f)).toArray⟩) W := fun W => by
      have := run_string_add_lists (P := Tryz.prog) W (64 :: (p ++ [46])) f (by simp; omega) (by omega)
      simpa using this
    have e4 : ∀ W : World, (Op.stringOp .add ⟨(64 :: (p ++ 46 :: f)).toArray⟩ ⟨#[47]⟩).run Tryz.prog W = .ok (.string ⟨(64 :: (p ++ 46 :: (f ++ [47]))).toArray⟩) W := fun W => by
      have := run_string_add_lists (P := Tryz.prog) W (64 :: (p ++ 46 :: f)) [47] (by simp; omega) (by simp)
      simpa using this
    have e5 : ∀ W : World, (Op.stringOp .add ⟨(64 :: (p ++ 46 :: (f ++ [47]))).toArray⟩ ⟨(intL a).toArray⟩).run Tryz.prog W = .ok (.string ⟨(64 :: (p ++ 46 :: (f ++ 47 :: intL a))).toArray⟩) W := fun W => by
      have := run_string_add_lists (P := Tryz.prog) W (64 :: (p ++ 46 :: (f ++ [47]))) (intL a) (by simp; omega) (by omega)
      simpa using this
    clear hn hpn hfn hcat
    go_enter Tryz.func87, Tryz.ntmps87
    go_wp2
    go_region_held3 (fun w' => w'.cell? ⟨w.heap.size, 1, none⟩ = some (.int .i64 a) ∧ w'.cell? ⟨w.heap.size, 2, none⟩ = some (.string ⟨p.toArray⟩) ∧ w'.cell? ⟨w.heap.size, 3, none⟩ = some (.string ⟨f.toArray⟩)) (go_keep) (first | (go_at_call 67; refine (specInt a _ (by omega) (by omega)).mono ?_; rintro e w1 ⟨rfl, hb1⟩; have hc1 : w1.cell? ⟨w.heap.size, 1, none⟩ = some (.int .i64 a) := (hb1.cell (p := ⟨w.heap.size, 1, none⟩) (by simp)).trans (by simp); have hc2 : w1.cell? ⟨w.heap.size, 2, none⟩ = some (.string ⟨p.toArray⟩) := (hb1.cell (p := ⟨w.heap.size, 2, none⟩) (by simp)).trans (by simp); have hc3 : w1.cell? ⟨w.heap.size, 3, none⟩ = some (.string ⟨f.toArray⟩) := (hb1.cell (p := ⟨w.heap.size, 3, none⟩) (by simp)).trans (by simp)))
    all_goals
      go_wp2
      go_ret
      exact ⟨ret_strl (by rw [HS.out]; simp), below_boxd hb1⟩

theorem show_len (n : Nd) (h : nodeB n = true) : (showN n).length ≤ 30 := by
  obtain ⟨k, a, p, f⟩ := n
  have hp := nodeB_iff.1 h
  unfold nodeP at hp
  simp only at hp
  rcases hp with ⟨rfl, ⟨h0, h1⟩, rfl, rfl⟩ | ⟨rfl, ⟨h0, h1⟩, rfl, rfl⟩ | ⟨hk, rfl, rfl, rfl⟩ | ⟨rfl, ⟨h0, h1⟩, hpn, hfn⟩
  · have hs : showN (1, a, [], []) = intL a := by unfold showN; simp
    rw [hs]; have := intL_short a h0 h1; omega
  · have hs : showN (2, a, [], []) = 36 :: intL a := by unfold showN; simp
    rw [hs]; have := intL_short a (by omega) (by omega); simp; omega
  · rcases (show k = 3 ∨ k = 4 ∨ k = 5 ∨ k = 6 ∨ k = 7 by omega) with rfl | rfl | rfl | rfl | rfl <;> (unfold showN; simp)
  · have hs : showN (8, a, p, f) = (64 :: p) ++ [46] ++ f ++ [47] ++ intL a := by unfold showN; simp
    rw [hs]
    have := intL_short a (by omega) (by omega)
    have := (name_letters hpn).1
    have := (name_letters hfn).1
    simp; omega

theorem joinBy_len (ws : List (List UInt8)) (m : Nat) (h : ∀ x ∈ ws, x.length ≤ m) : (joinBy 32 ws).length ≤ ws.length * (m + 1) := by
  induction ws with
  | nil => simp [joinBy]
  | cons x r ih =>
    have hx := h x (by simp)
    have ir := ih (fun y hy => h y (by simp [hy]))
    rw [List.length_cons, Nat.add_mul, Nat.one_mul]
    by_cases hr : r = []
    · subst hr; simp [joinBy]; omega
    · rw [joinBy_cons 32 x r hr]; simp only [List.length_append, List.length_singleton]; omega

theorem showL_len (ns : List Nd) (h : ∀ n ∈ ns, nodeB n = true) : (showL ns).length ≤ ns.length * 31 := by
  have := joinBy_len (ns.map showN) 30 (by intro x hx; obtain ⟨n, hn, rfl⟩ := List.mem_map.1 hx; exact show_len n (h n hn))
  rw [List.length_map] at this
  exact this

theorem showL_step (ns : List Nd) (k : Nat) (hk : k < ns.length) : showL (ns.take (k + 1)) = if k = 0 then showN (ns.getD k nd0) else showL (ns.take k) ++ [32] ++ showN (ns.getD k nd0) := by
  unfold showL
  have h := joinBy_step 32 (ns.map showN) k (by simpa using hk)
  rw [← List.map_take, ← List.map_take] at h
  have hg : (ns.map showN).getD k [] = showN (ns.getD k nd0) := by simp [List.getD, hk]
  rw [hg] at h
  exact h

theorem showL_take (ns : List Nd) (k : Nat) : (showL (ns.take k)).length ≤ (showL ns).length := by
  unfold showL
  have := joinBy_take 32 (ns.map showN) k
  rw [← List.map_take] at this
  exact this

set_option maxHeartbeats 2000000 in
set_option maxRecDepth 100000 in
theorem specShowL (a : Option Addr) (len cap : Nat) (ns : List Nd) (w : World) (hin : NodesIn w a len ns) (hn : ∀ n ∈ ns, nodeB n = true) (hlen : len ≤ 60) :
    Calls Tryz.prog 66 #[.slice a len cap] w fun e w' => e = .returned (.string ⟨(showL ns).toArray⟩) ∧ Below w.heap.size w w' := by
  obtain rfl : ns.length = len := hin.1
  obtain ⟨i0, hi, hz0, hz1, hz2⟩ := info_parts info5
  have HI : Hid (NodesIn w a ns.length ns) := hin
  have HNs : Hid (∀ n ∈ ns, nodeB n = true) := hn
  have HLen : Hid ((showL ns).length ≤ ns.length * 31) := showL_len ns hn
  clear hin hn
  have hown0 : (w.alloc (.cells #[] 5)).ownsRow w.heap.size 5 1 (.slice (some ⟨w.heap.size, 0, none⟩) 0 0) ([] : List UInt8).length (bytesV []) := (World.ownsRow_lit (base := w.heap.size) (e := 5) (size := 1) w #[] 0 (Nat.le_refl _) (by decide) rfl)
  go_enter Tryz.func66, Tryz.ntmps66
  go_wp2
  go_loopw [3, 4] (fun v i wr => ∃ k : Nat, k ≤ ns.length ∧ i = .int .i64 k ∧ wr.ownsRow w.heap.size 5 1 v (showL (ns.take k)).length (bytesV (showL (ns.take k))) ∧ Below w.heap.size w wr) (fun _ i _ => ns.length - (intOf i).toNat)
  case atStart => exact ⟨0, Nat.zero_le _, rfl, by simpa [showL, joinBy] using hown0, (Below.refl _ _).alloc (Nat.le_refl _) _⟩
  case round =>
    obtain ⟨k, hk, rfl, hown, hb⟩ := hrel
    clear hown0
    by_cases hkl : (k : Int) < (ns.length : Int)
    · have hk2 : k < ns.length := by omega
      have hst := showL_step ns k hk2
      have hbd := showL_take ns (k + 1)
      have hll := HLen.out
      have hnk : nodeB (ns.getD k nd0) = true := by
        have hg : ns.getD k nd0 = ns[k] := by simp [List.getD, hk2]
        rw [hg]; exact HNs.out _ (List.getElem_mem hk2)
      have hsl := show_len _ hnk
      obtain ⟨n, hn⟩ : ∃ n, ns.getD k nd0 = n := ⟨_, rfl⟩
      rw [hn] at hst hnk hsl
      have HN : Hid (ns.getD k nd0 = n) := hn
      have HC : Hid (_) := fun W : World => specShow n W hnk
      obtain ⟨A, hA⟩ : ∃ A, showL (ns.take k) = A := ⟨_, rfl⟩
      rw [hA] at hst hown
      obtain ⟨S, hS⟩ : ∃ S, showN n = S := ⟨_, rfl⟩
      rw [hS] at hst hsl
      have HSS : Hid (showN n = S) := hS
      have hAl : A.length ≤ 1860 := by have := showL_take ns k; rw [hA] at this; omega
      have hA0 : k = 0 → A = [] := fun e => by rw [← hA, e]; rfl
      clear hn hA hS hbd hll
      by_cases hk0 : k = 0
      · subst hk0
        rw [if_pos rfl] at hst
        have HST : Hid (showL (ns.take (0 + 1)) = S) := hst
        obtain rfl : A = [] := hA0 rfl
        clear hA0
        clear hst
        obtain ⟨b, off, rfl, hbl, hcells⟩ := (HI.out.below hb).at (by omega)
        obtain ⟨c0, c1, c2, c3⟩ := hcells 0 (by omega)
        rw [HN.out] at c0 c1 c2 c3
        unfold nodeVal at HC
        obtain ⟨kd, aa, p, f⟩ := n
        simp only at c0 c1 c2 c3 HC
        simp only [Nat.zero_mul, Nat.add_zero] at c0 c1 c2 c3
        clear hcells
        go_wp2_with fail
        refine Calls.mono (HC.out _) ?_
        rintro e w4 ⟨rfl, hb4⟩
        rw [HSS.out]
        have hown4 := own_below hown hb4
        have hB4 := hb.trans (hb4.mono hb.size)
        have hbs4 := hB4.size
        have hts : (⟨S.toArray⟩ : ByteArray).size = S.length := List.size_toArray
        clear hb4 c0 c1 c2 c3 HC
        go_wp2_with (at_builtin; refine Lib.wpList_append_own_string _ rfl _ _ 22 9 rfl w.heap.size 5 i0 Tryz.underlying22 Tryz.underlying9 hi hz0 hz1 hz2 _ _ _ rfl hown4 ⟨S.toArray⟩ rfl (by rw [hts]; unfold maxLen; simp; omega) (by rw [hts]; simp; omega) hbs4 ?_; intro v' w5 hown5 hgrow5 _)
        rw [strCells_list, hts] at hown5
        have hown6 : w5.ownsRow w.heap.size 5 1 v' (showL (ns.take (0 + 1))).length (bytesV (showL (ns.take (0 + 1)))) := by
          rw [HST.out]
          have h5 := hown5
          simp only [List.length_nil, Nat.zero_add, show bytesV [] = [] from rfl, List.nil_append] at h5
          exact h5
        have hb6 : Below w.heap.size w w5 := hB4.grown hgrow5 hB4.size (fun q e => (hown4.lt q e).1)
        clear hown5 hgrow5 hown4 hB4
        go_wp2
        go_roundw
        case rel => exact ⟨0 + 1, by omega, by go_num, hown6, hb6⟩
        case measure => simp [intOf]; omega
      · rw [if_neg hk0] at hst
        have HST : Hid (showL (ns.take (k + 1)) = A ++ [32] ++ S) := hst
        have hk1 : 0 < (k : Int) := by omega
        clear hst hk0 hA0
        go_wp2_with (at_builtin; refine wpList_append_own _ rfl _ _ 22 rfl w.heap.size 5 i0 (.int .u8 0) 1 1 Tryz.underlying22 hi hz0 hz1 hz2 rfl (by decide) _ _ _ rfl (hown.alloc _) ⟨wr.heap.size, 0, none⟩ 1 1 [.int .u8 32] rfl rfl ?c1 ?c2 ?c3 ?c4 ?c5 ?_)
        first | (case c1 => exact cell_one_new _ _ _) | skip
        first | (case c2 => first | rfl | (intro u hu; simp at hu; subst hu; rfl)) | skip
        first | (case c3 => unfold maxLen; omega) | skip
        first | (case c4 => omega) | skip
        first | (case c5 => have := hb.size; simp; try omega) | skip
        intro v3 w3 hown3' hgrow3 hnil3
        have hown3 : w3.ownsRow w.heap.size 5 1 v3 (A ++ [32]).length (bytesV (A ++ [32])) := by
          rw [List.length_append, List.length_singleton]
          have hbv : bytesV (A ++ [32]) = bytesV A ++ [.int .u8 32] := by simp [bytesV]
          rw [hbv]; exact hown3'
        have hb3 : Below w.heap.size w w3 := (hb.alloc hb.size _).grown hgrow3 (by have := hb.size; simp; omega) (fun q e => (hown.lt q e).1)
        clear hown3' hgrow3 hnil3 hown hb
        obtain ⟨b, off, rfl, hbl, hcells⟩ := (HI.out.below hb3).at (by omega)
        obtain ⟨c0, c1, c2, c3⟩ := hcells k (by omega)
        rw [HN.out] at c0 c1 c2 c3
        unfold nodeVal at HC
        obtain ⟨kd, aa, p, f⟩ := n
        simp only at c0 c1 c2 c3 HC
        clear hcells
        go_wp2_with fail
        refine Calls.mono (HC.out _) ?_
        rintro e w4 ⟨rfl, hb4⟩
        rw [HSS.out]
        have hown4 := own_below hown3 hb4
        have hB4 := hb3.trans (hb4.mono hb3.size)
        have hbs4 := hB4.size
        have hts : (⟨S.toArray⟩ : ByteArray).size = S.length := List.size_toArray
        clear hb4 c0 c1 c2 c3 HC
        go_wp2_with (at_builtin; refine Lib.wpList_append_own_string _ rfl _ _ 22 9 rfl w.heap.size 5 i0 Tryz.underlying22 Tryz.underlying9 hi hz0 hz1 hz2 _ _ _ rfl hown4 ⟨S.toArray⟩ rfl (by rw [hts]; unfold maxLen; rw [List.length_append, List.length_singleton]; omega) (by rw [hts]; rw [List.length_append, List.length_singleton]; omega) hbs4 ?_; intro v' w5 hown5 hgrow5 _)
        rw [strCells_list, hts] at hown5
        have hown6 : w5.ownsRow w.heap.size 5 1 v' (showL (ns.take (k + 1))).length (bytesV (showL (ns.take (k + 1)))) := by
          rw [HST.out, List.length_append]
          have hbv : bytesV (A ++ [32] ++ S) = bytesV (A ++ [32]) ++ bytesV S := by simp [bytesV]
          rw [hbv]; exact hown5
        have hb6 : Below w.heap.size w w5 := hB4.grown hgrow5 hB4.size (fun q e => (hown4.lt q e).1)
        clear hown5 hgrow5 hown4 hB4
        go_wp2
        go_roundw
        case rel => exact ⟨k + 1, by omega, by go_num, hown6, hb6⟩
        case measure => simp [intOf]; omega
    · have hd : ns.take k = ns := List.take_of_length_le (by omega)
      rw [hd] at hown
      clear hd
      have hbk := back_own _ _ _ _ hown
      go_wp2
      go_ret
      exact ⟨rfl, hb⟩


end Go.Proofs.YtibppdepgoiojaaGreatDoor

/-! The contract of chapter 6's specification: the node of a word. -/
namespace Go.Proofs.YtibppdepgoiojaaGreatDoor
open Go.RowKit

theorem part_le (ws : List (List UInt8)) (j : Nat) : (ws.getD j []).length ≤ ws.flatten.length := by
  induction ws generalizing j with
  | nil => simp
  | cons x r ih =>
    cases j with
    | zero => simp
    | succ j => have := ih j; simp only [List.getD_cons_succ, List.flatten_cons, List.length_append]; omega

/-- Four cells of one block are written. -/
theorem four_set (w : World) (b : Nat) (n : Nd) {u0 u1 u2 u3 : Value} (r0 : w.cell? ⟨b, 0, none⟩ = some u0) (r1 : w.cell? ⟨b, 1, none⟩ = some u1) (r2 : w.cell? ⟨b, 2, none⟩ = some u2) (r3 : w.cell? ⟨b, 3, none⟩ = some u3) :
    let X := ((((w.setCell ⟨b, 0, none⟩ (.int .i64 n.1)).setCell ⟨b, 1, none⟩ (.int .i64 n.2.1)).setCell ⟨b, 2, none⟩ (.string ⟨n.2.2.1.toArray⟩)).setCell ⟨b, 3, none⟩ (.string ⟨n.2.2.2.toArray⟩))
    X.cell? ⟨b, 0, none⟩ = some (.int .i64 n.1) ∧ X.cell? ⟨b, 1, none⟩ = some (.int .i64 n.2.1) ∧ X.cell? ⟨b, 2, none⟩ = some (.string ⟨n.2.2.1.toArray⟩) ∧ X.cell? ⟨b, 3, none⟩ = some (.string ⟨n.2.2.2.toArray⟩) := by
  intro X
  have o : ∀ (W : World) (i j : Nat) (v : Value), i ≠ j → (W.setCell ⟨b, i, none⟩ v).cell? ⟨b, j, none⟩ = W.cell? ⟨b, j, none⟩ := fun W i j v h => World.cell?_setCell_other _ _ _ _ (by intro e; injection e with _ e; omega)
  refine ⟨?_, ?_, ?_, ?_⟩
  · exact (o _ 3 0 _ (by omega)).trans ((o _ 2 0 _ (by omega)).trans ((o _ 1 0 _ (by omega)).trans (World.cell?_setCell_same _ _ _ r0)))
  · exact (o _ 3 1 _ (by omega)).trans ((o _ 2 1 _ (by omega)).trans (World.cell?_setCell_same _ _ _ ((o _ 0 1 _ (by omega)).trans r1)))
  · exact (o _ 3 2 _ (by omega)).trans (World.cell?_setCell_same _ _ _ ((o _ 1 2 _ (by omega)).trans ((o _ 0 2 _ (by omega)).trans r2)))
  · exact World.cell?_setCell_same _ _ _ ((o _ 2 3 _ (by omega)).trans ((o _ 1 3 _ (by omega)).trans ((o _ 0 3 _ (by omega)).trans r3)))

theorem four_below {w W : World} (h : Below w.heap.size w W) (u0 u1 u2 u3 : Value) : Below w.heap.size w ((((W.setCell ⟨w.heap.size, 0, none⟩ u0).setCell ⟨w.heap.size, 1, none⟩ u1).setCell ⟨w.heap.size, 2, none⟩ u2).setCell ⟨w.heap.size, 3, none⟩ u3) :=
  (((h.setCell (p := ⟨w.heap.size, 0, none⟩) (Nat.le_refl _) _).setCell (p := ⟨w.heap.size, 1, none⟩) (Nat.le_refl _) _).setCell (p := ⟨w.heap.size, 2, none⟩) (Nat.le_refl _) _).setCell (p := ⟨w.heap.size, 3, none⟩) (Nat.le_refl _) _

theorem read_head (s : List UInt8) (c : UInt8) (h : s.head? = some c) : s ≠ [] := fun e => by rw [e] at h; cases h

set_option maxHeartbeats 4000000 in
set_option maxRecDepth 100000 in
theorem specReadN (s : List UInt8) (w : World) (hl : s.length ≤ 1048576) :
    Calls Tryz.prog 64 #[.string ⟨s.toArray⟩] w fun e w' => e = .returned (nodeVal (readN s)) ∧ Below w.heap.size w w' := by
  have hext := ext_list
  by_cases hse : s = []
  · subst hse
    have HR : Hid (readN [] = (0, 0, [], [])) := by exact (if_pos rfl : readN [] = (0, 0, [], []))
    go_enter Tryz.func64, Tryz.ntmps64
    go_wp2
    refine bodyPost_ret (v := .agg #[.int .i64 0, .int .i64 0, .string ⟨#[]⟩, .string ⟨#[]⟩]) (by simp [results, Tryz.results64, go_sem]) rfl ?_
    exact ⟨by rw [HR.out]; rfl, (Below.refl _ w).alloc (Nat.le_refl _) _⟩
  · have htl : 0 < s.length := List.length_pos_iff.2 hse
    have htb : s.isEmpty = false := by simp [hse]
    obtain ⟨x0, r, rfl⟩ : ∃ x0 r, s = x0 :: r := by
      cases s with
      | nil => exact absurd rfl hse
      | cons x0 r => exact ⟨x0, r, rfl⟩
    have hx0b : (⟨(x0 :: r).toArray⟩ : ByteArray)[0]'(by show 0 < (x0 :: r).toArray.size; simp) = x0 := rfl
    have hrl : (r.length : Int) ≤ 1048576 := by simp at hl; omega
    clear hse
    by_cases h36 : x0 = 36
    · subst h36
      have HR : Hid (readN (36 :: r) = (2, readV r, [], [])) := by exact (by unfold readN; rw [if_neg (by simp), if_pos (by rfl)]; rfl : readN (36 :: r) = (2, readV r, [], []))
      go_enter Tryz.func64, Tryz.ntmps64
      go_wp2_with fail
      refine (specRead r _ (by omega)).mono ?_
      rintro e w1 ⟨rfl, rfl⟩
      go_wp2
      refine bodyPost_ret (v := .agg #[.int .i64 2, .int .i64 (readV r), .string ⟨#[]⟩, .string ⟨#[]⟩]) (by simp [results, Tryz.results64, go_sem]) rfl ?_
      exact ⟨by rw [HR.out]; rfl, (Below.refl _ w).alloc (Nat.le_refl _) _⟩
    have d36 : ((x0.toNat : Int) == 36) = false := beq_eq_false_iff_ne.2 (fun e => h36 (UInt8.toNat_inj.1 (by have e2 : (36 : UInt8).toNat = 36 := rfl; omega)))
    by_cases h43 : x0 = 43
    · subst h43
      have HR : Hid (readN (43 :: r) = (3, 0, [], [])) := by exact (by unfold readN; rw [if_neg (by simp), if_neg (by simp), if_pos (by rfl)] : readN (43 :: r) = (3, 0, [], []))
      go_enter Tryz.func64, Tryz.ntmps64
      go_wp2
      refine bodyPost_ret (v := .agg #[.int .i64 3, .int .i64 0, .string ⟨#[]⟩, .string ⟨#[]⟩]) (by simp [results, Tryz.results64, go_sem]) rfl ?_
      exact ⟨by rw [HR.out]; rfl, (Below.refl _ w).alloc (Nat.le_refl _) _⟩
    have d43 : ((x0.toNat : Int) == 43) = false := beq_eq_false_iff_ne.2 (fun e => h43 (UInt8.toNat_inj.1 (by have e2 : (43 : UInt8).toNat = 43 := rfl; omega)))
    by_cases h42 : x0 = 42
    · subst h42
      have HR : Hid (readN (42 :: r) = (5, 0, [], [])) := by exact (by unfold readN; rw [if_neg (by simp), if_neg (by simp), if_neg (by simp), if_pos (by rfl)] : readN (42 :: r) = (5, 0, [], []))
      go_enter Tryz.func64, Tryz.ntmps64
      go_wp2
      refine bodyPost_ret (v := .agg #[.int .i64 5, .int .i64 0, .string ⟨#[]⟩, .string ⟨#[]⟩]) (by simp [results, Tryz.results64, go_sem]) rfl ?_
      exact ⟨by rw [HR.out]; rfl, (Below.refl _ w).alloc (Nat.le_refl _) _⟩
    have d42 : ((x0.toNat : Int) == 42) = false := beq_eq_false_iff_ne.2 (fun e => h42 (UInt8.toNat_inj.1 (by have e2 : (42 : UInt8).toNat = 42 := rfl; omega)))
    by_cases h47 : x0 = 47
    · subst h47
      have HR : Hid (readN (47 :: r) = (6, 0, [], [])) := by exact (by unfold readN; rw [if_neg (by simp), if_neg (by simp), if_neg (by simp), if_neg (by simp), if_pos (by rfl)] : readN (47 :: r) = (6, 0, [], []))
      go_enter Tryz.func64, Tryz.ntmps64
      go_wp2
      refine bodyPost_ret (v := .agg #[.int .i64 6, .int .i64 0, .string ⟨#[]⟩, .string ⟨#[]⟩]) (by simp [results, Tryz.results64, go_sem]) rfl ?_
      exact ⟨by rw [HR.out]; rfl, (Below.refl _ w).alloc (Nat.le_refl _) _⟩
    have d47 : ((x0.toNat : Int) == 47) = false := beq_eq_false_iff_ne.2 (fun e => h47 (UInt8.toNat_inj.1 (by have e2 : (47 : UInt8).toNat = 47 := rfl; omega)))
    by_cases h63 : x0 = 63
    · subst h63
      have HR : Hid (readN (63 :: r) = (7, 0, [], [])) := by exact (by unfold readN; rw [if_neg (by simp), if_neg (by simp), if_neg (by simp), if_neg (by simp), if_neg (by simp), if_pos (by rfl)] : readN (63 :: r) = (7, 0, [], []))
      go_enter Tryz.func64, Tryz.ntmps64
      go_wp2
      refine bodyPost_ret (v := .agg #[.int .i64 7, .int .i64 0, .string ⟨#[]⟩, .string ⟨#[]⟩]) (by simp [results, Tryz.results64, go_sem]) rfl ?_
      exact ⟨by rw [HR.out]; rfl, (Below.refl _ w).alloc (Nat.le_refl _) _⟩
    have d63 : ((x0.toNat : Int) == 63) = false := beq_eq_false_iff_ne.2 (fun e => h63 (UInt8.toNat_inj.1 (by have e2 : (63 : UInt8).toNat = 63 := rfl; omega)))
    by_cases h64 : x0 = 64
    · subst h64
      have HRd : Hid (readN (64 :: r) = if (splitL 47 r).length = 2 ∧ (splitL 46 ((splitL 47 r).getD 0 [])).length = 2 then (8, readV ((splitL 47 r).getD 1 []), (splitL 46 ((splitL 47 r).getD 0 [])).getD 0 [], (splitL 46 ((splitL 47 r).getD 0 [])).getD 1 []) else (0, 0, [], [])) := by exact (by unfold readN; rw [if_neg (by simp), if_neg (by simp), if_neg (by simp), if_neg (by simp), if_neg (by simp), if_neg (by simp), if_pos (by rfl), List.tail_cons] : readN (64 :: r) = _)
      obtain ⟨ws, hws⟩ : ∃ ws, splitL 47 r = ws := ⟨_, rfl⟩
      obtain ⟨q0, hq0⟩ : ∃ q0, ws.getD 0 [] = q0 := ⟨_, rfl⟩
      obtain ⟨q1, hq1⟩ : ∃ q1, ws.getD 1 [] = q1 := ⟨_, rfl⟩
      obtain ⟨ps, hps⟩ : ∃ ps, splitL 46 q0 = ps := ⟨_, rfl⟩
      have hwp : 0 < ws.length := by rw [← hws]; exact List.length_pos_iff.2 (splitGo_ne 47 r [])
      have hpp : 0 < ps.length := by rw [← hps]; exact List.length_pos_iff.2 (splitGo_ne 46 _ [])
      have hwl : ws.length ≤ r.length + 1 := by rw [← hws]; exact splitGo_len 47 r []
      have hwf : ∀ j, (ws.getD j []).length ≤ 1048576 := fun j => by
        have h1 := splitGo_flat 47 r []
        have h2 : (splitL 47 r).flatten.length ≤ r.length := by simpa [splitL] using h1
        rw [hws] at h2
        have h3 := part_le ws j
        omega
      have hpl : ps.length ≤ 1048577 := by rw [← hps]; have h1 := splitGo_len 46 q0 []; have h2 := hwf 0; rw [hq0] at h2; unfold splitL; omega
      have HW : Hid (splitL 47 r = ws) := hws
      have HP : Hid (splitL 46 q0 = ps) := hps
      have HQ : Hid (ws.getD 0 [] = q0 ∧ ws.getD 1 [] = q1) := ⟨hq0, hq1⟩
      have hq0l : q0.length ≤ 1048576 := by rw [← hq0]; exact hwf 0
      have hq1l : q1.length ≤ 1048576 := by rw [← hq1]; exact hwf 1
      clear hws hps hq0 hq1 hwf
      go_enter Tryz.func64, Tryz.ntmps64
      go_wp2_with fail
      refine (specSplit r 47 47 _ (by rfl) (by omega)).mono ?_
      rintro e w1 ⟨g1, cp1, rfl, hown1, hb1⟩
      rw [HW.out] at hown1 ⊢
      have hc10 := str_cellsD hown1 rfl 0 hwp
      rw [HQ.out.1] at hc10
      have hwp2 : (0 : Int) < (ws.length : Int) := by omega
      have hB1 := below_boxed hb1
      have r0 : w1.cell? ⟨w.heap.size, 0, none⟩ = some (.int .i64 0) := (hb1.cell (p := ⟨w.heap.size, 0, none⟩) (by simp)).trans (by simp)
      have r1 : w1.cell? ⟨w.heap.size, 1, none⟩ = some (.int .i64 0) := (hb1.cell (p := ⟨w.heap.size, 1, none⟩) (by simp)).trans (by simp)
      have r2 : w1.cell? ⟨w.heap.size, 2, none⟩ = some (.string ⟨#[]⟩) := (hb1.cell (p := ⟨w.heap.size, 2, none⟩) (by simp)).trans (by simp)
      have r3 : w1.cell? ⟨w.heap.size, 3, none⟩ = some (.string ⟨#[]⟩) := (hb1.cell (p := ⟨w.heap.size, 3, none⟩) (by simp)).trans (by simp)
      have rf : ∀ j, w1.frozen? ⟨w.heap.size, j, none⟩ = false := fun j => (hb1.frozen (p := ⟨w.heap.size, j, none⟩) (by simp)).trans (by simp)
      have hs1 : w.heap.size < w1.heap.size := by have := hb1.size; simp at this; omega
      rw [World.size_alloc] at hown1
      clear hb1
      go_wp2_with fail
      refine (specSplit q0 46 46 _ (by rfl) hq0l).mono ?_
      rintro e w2 ⟨g2, cp2, rfl, hown2, hb2⟩
      rw [HP.out] at hown2 ⊢
      have hB2 := hB1.trans (hb2.mono hB1.size)
      have r0 := (hb2.cell (p := ⟨w.heap.size, 0, none⟩) hs1).trans r0
      have r1 := (hb2.cell (p := ⟨w.heap.size, 1, none⟩) hs1).trans r1
      have r2 := (hb2.cell (p := ⟨w.heap.size, 2, none⟩) hs1).trans r2
      have r3 := (hb2.cell (p := ⟨w.heap.size, 3, none⟩) hs1).trans r3
      have rf := fun j => (hb2.frozen (p := ⟨w.heap.size, j, none⟩) hs1).trans (rf j)
      have rf0 := rf 0
      have rf1 := rf 1
      have rf2 := rf 2
      have rf3 := rf 3
      have hown1b := own_below hown1 hb2
      have hg2 : w1.heap.size ≤ g2 := (hown2.lt g2 rfl).1
      have hgne : g2 ≠ w.heap.size := by omega
      clear hb2 hB1 hown1 hc10 rf
      by_cases hw2 : ws.length = 2
      · have dw : ((ws.length : Int) != 2) = false := by rw [hw2]; rfl
        by_cases hp2 : ps.length = 2
        · have dp : ((ps.length : Int) != 2) = false := by rw [hp2]; rfl
          have HR : Hid (readN (64 :: r) = (8, readV q1, ps.getD 0 [], ps.getD 1 [])) := by exact (by rw [HRd.out, HW.out, HQ.out.1, HQ.out.2, HP.out, if_pos ⟨hw2, hp2⟩] : readN (64 :: r) = (8, readV q1, ps.getD 0 [], ps.getD 1 []))
          have hc11 := str_cellsD hown1b rfl 1 (by omega)
          rw [HQ.out.2] at hc11
          have hc20 := str_cellsD hown2 rfl 0 (by omega)
          have hc21 := str_cellsD hown2 rfl 1 (by omega)
          have hwl2 : (1 : Int) < (ws.length : Int) := by omega
          have hpl2 : (1 : Int) < (ps.length : Int) := by omega
          have hpl0 : (0 : Int) < (ps.length : Int) := by omega
          clear hw2 hp2 hown1b hown2
          go_wp2_with fail
          refine (specRead q1 _ hq1l).mono ?_
          rintro e w3 ⟨rfl, rfl⟩
          obtain ⟨A, hA⟩ : ∃ A, readV q1 = A := ⟨_, rfl⟩
          obtain ⟨P0, hP0⟩ : ∃ P0, ps.getD 0 [] = P0 := ⟨_, rfl⟩
          obtain ⟨P1, hP1⟩ : ∃ P1, ps.getD 1 [] = P1 := ⟨_, rfl⟩
          have HA : Hid (readV q1 = A ∧ ps.getD 0 [] = P0 ∧ ps.getD 1 [] = P1) := ⟨hA, hP0, hP1⟩
          rw [hA]
          rw [hP0] at hc20
          rw [hP1] at hc21
          clear hA hP0 hP1 hc11
          have hgne2 : w.heap.size ≠ g2 := fun e => hgne e.symm
          go_wp2
          go_region_held3 (fun w' => w'.cell? ⟨g2, 0, none⟩ = some (.string ⟨P0.toArray⟩) ∧ w'.cell? ⟨g2, 1, none⟩ = some (.string ⟨P1.toArray⟩)) (go_keep) (fail)
          go_wp2
          obtain ⟨X, hX⟩ : ∃ X, ((((w3.setCell ⟨w.heap.size, 0, none⟩ (.int .i64 8)).setCell ⟨w.heap.size, 1, none⟩ (.int .i64 A)).setCell ⟨w.heap.size, 2, none⟩ (.string ⟨P0.toArray⟩)).setCell ⟨w.heap.size, 3, none⟩ (.string ⟨P1.toArray⟩)) = X := ⟨_, rfl⟩
          have hx := four_set w3 w.heap.size (8, A, P0, P1) r0 r1 r2 r3
          simp only at hx
          rw [hX] at hx ⊢
          refine bodyPost_ret (v := .agg #[.int .i64 8, .int .i64 A, .string ⟨P0.toArray⟩, .string ⟨P1.toArray⟩]) (by simp [results, Tryz.results64, go_sem, hx]) rfl ?_
          rw [← hX]
          exact ⟨by rw [HR.out, HA.out.1, HA.out.2.1, HA.out.2.2]; rfl, (four_below hB2 _ _ _ _).drew⟩
        · have dp : ((ps.length : Int) != 2) = true := bne_iff_ne.2 (by omega)
          have HR : Hid (readN (64 :: r) = (0, 0, [], [])) := by exact (by rw [HRd.out, HW.out, HQ.out.1, HP.out, if_neg (by omega)] : readN (64 :: r) = (0, 0, [], []))
          go_wp2
          obtain ⟨X, hX⟩ : ∃ X, ((((w2.setCell ⟨w.heap.size, 0, none⟩ (.int .i64 0)).setCell ⟨w.heap.size, 1, none⟩ (.int .i64 0)).setCell ⟨w.heap.size, 2, none⟩ (.string ⟨#[]⟩)).setCell ⟨w.heap.size, 3, none⟩ (.string ⟨#[]⟩)) = X := ⟨_, rfl⟩
          have hx := four_set w2 w.heap.size (0, 0, [], []) r0 r1 r2 r3
          simp only at hx
          rw [hX] at hx ⊢
          refine bodyPost_ret (v := .agg #[.int .i64 0, .int .i64 0, .string ⟨#[]⟩, .string ⟨#[]⟩]) (by simp [results, Tryz.results64, go_sem, hx]) rfl ?_
          rw [← hX]
          exact ⟨by rw [HR.out]; rfl, four_below hB2 _ _ _ _⟩
      · have dw : ((ws.length : Int) != 2) = true := bne_iff_ne.2 (by omega)
        have HR : Hid (readN (64 :: r) = (0, 0, [], [])) := by exact (by rw [HRd.out, HW.out, HQ.out.1, HP.out, if_neg (by omega)] : readN (64 :: r) = (0, 0, [], []))
        go_wp2
        obtain ⟨X, hX⟩ : ∃ X, ((((w2.setCell ⟨w.heap.size, 0, none⟩ (.int .i64 0)).setCell ⟨w.heap.size, 1, none⟩ (.int .i64 0)).setCell ⟨w.heap.size, 2, none⟩ (.string ⟨#[]⟩)).setCell ⟨w.heap.size, 3, none⟩ (.string ⟨#[]⟩)) = X := ⟨_, rfl⟩
        have hx := four_set w2 w.heap.size (0, 0, [], []) r0 r1 r2 r3
        simp only at hx
        rw [hX] at hx ⊢
        refine bodyPost_ret (v := .agg #[.int .i64 0, .int .i64 0, .string ⟨#[]⟩, .string ⟨#[]⟩]) (by simp [results, Tryz.results64, go_sem, hx]) rfl ?_
        rw [← hX]
        exact ⟨by rw [HR.out]; rfl, four_below hB2 _ _ _ _⟩
    have d64 : ((x0.toNat : Int) == 64) = false := beq_eq_false_iff_ne.2 (fun e => h64 (UInt8.toNat_inj.1 (by have e2 : (64 : UInt8).toNat = 64 := rfl; omega)))
    have hne : ∀ c : UInt8, x0 ≠ c → ¬ (x0 :: r).head? = some c := fun c h e => h (by simpa using e)
    by_cases h45 : x0 :: r = [45]
    · have HR : Hid (readN (x0 :: r) = (4, 0, [], [])) := by exact (by unfold readN; rw [if_neg (by simp), if_neg (hne 36 h36), if_neg (hne 43 h43), if_neg (hne 42 h42), if_neg (hne 47 h47), if_neg (hne 63 h63), if_neg (hne 64 h64), if_pos h45] : readN (x0 :: r) = (4, 0, [], []))
      have dd : ((x0 :: r) == [45]) = true := by rw [h45]; rfl
      clear hne h45
      go_enter Tryz.func64, Tryz.ntmps64
      go_wp2
      refine bodyPost_ret (v := .agg #[.int .i64 4, .int .i64 0, .string ⟨#[]⟩, .string ⟨#[]⟩]) (by simp [results, Tryz.results64, go_sem]) rfl ?_
      exact ⟨by rw [HR.out]; rfl, (Below.refl _ w).alloc (Nat.le_refl _) _⟩
    · have HR : Hid (readN (x0 :: r) = (1, readV (x0 :: r), [], [])) := by exact (by unfold readN; rw [if_neg (by simp), if_neg (hne 36 h36), if_neg (hne 43 h43), if_neg (hne 42 h42), if_neg (hne 47 h47), if_neg (hne 63 h63), if_neg (hne 64 h64), if_neg h45] : readN (x0 :: r) = (1, readV (x0 :: r), [], []))
      have dd : ((x0 :: r) == [45]) = false := beq_eq_false_iff_ne.2 h45
      clear hne h45
      go_enter Tryz.func64, Tryz.ntmps64
      go_wp2_with fail
      refine (specRead (x0 :: r) _ hl).mono ?_
      rintro e w1 ⟨rfl, rfl⟩
      go_wp2
      refine bodyPost_ret (v := .agg #[.int .i64 1, .int .i64 (readV (x0 :: r)), .string ⟨#[]⟩, .string ⟨#[]⟩]) (by simp [results, Tryz.results64, go_sem]) rfl ?_
      exact ⟨by rw [HR.out]; rfl, (Below.refl _ w).alloc (Nat.le_refl _) _⟩

end Go.Proofs.YtibppdepgoiojaaGreatDoor
