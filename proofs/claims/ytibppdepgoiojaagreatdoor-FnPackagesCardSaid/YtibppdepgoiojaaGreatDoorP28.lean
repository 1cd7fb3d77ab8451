/-
  Parts of one proof, one behind the other: TreeJ4.
-/
import Derived.Test.YtibppdepgoiojaaGreatDoorP27

/-! The contract of chapter 6's landed code: ReadTree. -/
namespace Go.Proofs.YtibppdepgoiojaaGreatDoor
open Go.RowKit

theorem inT_small (s : List UInt8) (h : s.length ≤ 1048576) : IntT (inT s) ∧ ShortT (inT s) := by
  have key : ∀ j, IntN ((inT s).getD j nd0) ∧ ((inT s).getD j nd0).2.2.1.length ≤ 1048576 ∧ ((inT s).getD j nd0).2.2.2.length ≤ 1048576 := by
    intro j
    unfold inT
    by_cases hj : j < (splitL 32 s).length
    · have hg : ((splitL 32 s).map (fun x => shNode (shIn x))).getD j nd0 = shNode (shIn ((splitL 32 s).getD j [])) := by simp [List.getD, hj]
      rw [hg]
      obtain ⟨h1, h2, h3⟩ := in_small ((splitL 32 s).getD j [])
      have h4 := split_part 32 s j
      exact ⟨h1, by omega, by omega⟩
    · have hg : ((splitL 32 s).map (fun x => shNode (shIn x))).getD j nd0 = nd0 := by simp [List.getD, hj]
      rw [hg]
      exact ⟨⟨⟨by decide, by decide⟩, by decide, by decide⟩, by simp [nd0], by simp [nd0]⟩
  exact ⟨fun j => (key j).1, fun j => (key j).2⟩

theorem readOk_nil : readOk [] = false ∧ readTV [] = [] := by
  have h0 : readT [] = [nd0] := by rfl
  have h1 : readOk [] = false := by
    unfold readOk
    rw [h0, show treeB [nd0] = false by decide]
    simp
  exact ⟨h1, by unfold readTV; rw [if_neg (by rw [h1]; simp)]⟩

theorem readOk_long {s : List UInt8} (h : 60 < (splitL 32 s).length) : readOk s = false ∧ readTV s = [] := by
  have h1 : readOk s = false := by
    unfold readOk
    rw [show treeB (readT s) = false from decide_eq_false (fun g => by have := g.1.2; unfold readT at this; rw [List.length_map] at this; omega)]
    simp
  exact ⟨h1, by unfold readTV; rw [if_neg (by rw [h1]; simp)]⟩

theorem readOk_yes {s : List UInt8} (hs : s ≠ []) (h : showT (inT s) = s) : readOk s = true ∧ readTV s = inT s := by
  have ht : treeB (inT s) = true := by
    rcases hb : treeB (inT s) with _ | _
    · unfold showT at h; rw [if_neg (by rw [hb]; simp)] at h; exact absurd h.symm hs
    · rfl
  have hl : showL (inT s) = s := by unfold showT at h; rw [if_pos ht] at h; exact h
  have hr : readT s = inT s := by
    have := readT_show (inT s) ht
    rw [hl] at this
    exact this
  have h2 := showL_len (inT s) (tree_nodes ht)
  have h3 := (tree_end ht).1.2
  rw [hl] at h2
  have hok : readOk s = true := by
    unfold readOk
    rw [hr, ht, hl, decide_eq_true (by omega)]
    simp
  exact ⟨hok, by unfold readTV; rw [if_pos hok, hr]⟩

theorem readOk_no {s : List UInt8} (h : showT (inT s) ≠ s) : readOk s = false ∧ readTV s = [] := by
  have h1 : readOk s = false := by
    rcases hok : readOk s with _ | _
    · rfl
    · exfalso
      unfold readOk at hok
      simp only [Bool.and_eq_true, decide_eq_true_eq, beq_iff_eq] at hok
      obtain ⟨_, ht, hl⟩ := hok
      have hn := tree_nodes ht
      have hlen := (tree_end ht).1
      have hsp : splitL 32 s = (readT s).map showN := by
        have := split_join 32 ((readT s).map showN) (fun e => by have := congrArg List.length e; simp at this; rw [this] at hlen; simp at hlen) (by
          intro x hx
          obtain ⟨n, hm, rfl⟩ := List.mem_map.1 hx
          exact show_noblank n (hn n hm))
        rw [show joinBy 32 ((readT s).map showN) = s from hl] at this
        exact this
      have hin : inT s = readT s := by
        unfold inT
        rw [hsp, List.map_map]
        have : (readT s).map ((fun x => shNode (shIn x)) ∘ showN) = (readT s).map id := List.map_congr_left (fun n hm => in_show n (hn n hm))
        rw [this, List.map_id]
      exact h (by rw [hin]; unfold showT; rw [if_pos ht]; exact hl)
  exact ⟨h1, by unfold readTV; rw [if_neg (by rw [h1]; simp)]⟩

theorem in_step (ws : List (List UInt8)) (k : Nat) (hk : k < ws.length) : (ws.map (fun x => shNode (shIn x))).take (k + 1) = (ws.map (fun x => shNode (shIn x))).take k ++ [shNode (shIn (ws.getD k []))] := by
  rw [← List.map_take, ← List.map_take]
  have hg : ws.getD k [] = ws[k] := by simp [List.getD, hk]
  rw [hg, List.take_succ_eq_append_getElem hk, List.map_append]; rfl

set_option maxHeartbeats 4000000 in
set_option maxRecDepth 100000 in
theorem implReadTree (s : List UInt8) (w : World) (hl : s.length ≤ 1048576) (ht : PowIs w) :
    Calls Tryz.prog 82 #[.string ⟨s.toArray⟩] w fun e w' => ∃ v, e = .returned (.tuple #[v, .bool (readOk s)]) ∧ w'.ownsRow w.heap.size 76 4 v (readTV s).length (nodesV (readTV s)) ∧ Below w.heap.size w w' := by
  have HC : Hid (_) := implWords s w hl
  by_cases hout : s = [] ∨ 60 < (splitL 32 s).length
  · have HR : Hid (readOk s = false ∧ readTV s = []) := by
      rcases hout with rfl | h
      · exact readOk_nil
      · exact readOk_long h
    have hwl : (wordsL s).length < 1 ∨ 60 < (wordsL s).length := by
      rcases hout with rfl | h
      · exact Or.inl (by simp [wordsL])
      · refine Or.inr ?_
        unfold wordsL
        split
        · rename_i e; subst e; simp [splitL, splitGo] at h
        · exact h
    generalize wordsL s = ws at HC hwl
    clear hout ht
    go_enter Tryz.func82, Tryz.ntmps82
    go_wp2_with fail
    refine Calls.mono HC.out ?_
    rintro e w1 ⟨v, rfl, hown1, hb1⟩
    obtain ⟨_, av, cv, rfl, _⟩ := own_texts hown1
    have hownE := (World.ownsRow_lit (base := w.heap.size) (e := 76) (size := 4) w1 #[] 0 hb1.size (by decide) rfl)
    clear hown1
    by_cases hw1 : ((ws.length : Int) < 1)
    · clear hwl
      go_wp2
      go_ret2
      exact ⟨_, by rw [HR.out.1]; rfl, by rw [HR.out.2]; exact hownE, hb1.alloc hb1.size _⟩
    · have hw2 : (60 : Int) < (ws.length : Int) := by omega
      clear hwl
      go_wp2
      go_ret2
      exact ⟨_, by rw [HR.out.1]; rfl, by rw [HR.out.2]; exact hownE, hb1.alloc hb1.size _⟩
  · have hse : s ≠ [] := fun e => hout (Or.inl e)
    have hw60 : (splitL 32 s).length ≤ 60 := by
      rcases Nat.lt_or_ge 60 (splitL 32 s).length with h | h
      · exact absurd (Or.inr h) hout
      · exact h
    have hw0 : 1 ≤ (splitL 32 s).length := by
      have := splitGo_ne 32 s []
      exact List.length_pos_iff.2 this
    have hww : wordsL s = splitL 32 s := if_neg hse
    rw [hww] at HC
    have HYes : Hid (showT (inT s) = s → readOk s = true ∧ readTV s = inT s) := readOk_yes hse
    have HNo : Hid (showT (inT s) ≠ s → readOk s = false ∧ readTV s = []) := readOk_no
    have HSm : Hid (IntT (inT s) ∧ ShortT (inT s)) := inT_small s hl
    have hwt : ∀ j, ((splitL 32 s).getD j []).length ≤ 1048576 := fun j => by have := split_part 32 s j; omega
    unfold inT at HYes HNo HSm
    generalize splitL 32 s = ws at HC HYes HNo HSm hwt hw60 hw0
    obtain ⟨i0, hi, hz0, hz1, hz2⟩ := info_parts infoNode
    have HP : Hid (PowIs w) := ht
    have HWT : Hid (∀ j, (ws.getD j []).length ≤ 1048576) := hwt
    have hwi : (ws.length : Int) ≤ 60 := by omega
    have hwj : ¬ (ws.length : Int) < 1 := by omega
    clear hout hse hww ht hwt
    go_enter Tryz.func82, Tryz.ntmps82
    go_wp2_with fail
    refine Calls.mono HC.out ?_
    rintro e w1 ⟨v, rfl, hown1, hb1⟩
    obtain ⟨g1, cp1, rfl⟩ := own_some hown1 (by omega)
    have hown0 := (World.ownsRow_lit (base := w.heap.size) (e := 76) (size := 4) w1 #[] 0 hb1.size (by decide) rfl)
    have hown1a := hown1.alloc (.cells #[] 76)
    have hB1 : Below w.heap.size w (w1.alloc (.cells #[] 76)) := hb1.alloc hb1.size _
    have hg1 := (hown1.lt g1 rfl).2
    clear hb1 HC hown1
    go_wp2
    go_loopw [5, 22] (fun v i wr => ∃ k : Nat, k ≤ ws.length ∧ i = .int .i64 k ∧ Hid (wr.ownsRow w.heap.size 76 4 v k (nodesV ((ws.map (fun x => shNode (shIn x))).take k)) ∧ v.ownBlock ≠ some g1) ∧ Hid (wr.ownsRow w.heap.size 9 1 (.slice (some ⟨g1, 0, none⟩) ws.length cp1) ws.length (strV ws)) ∧ Below w.heap.size w wr) (fun _ i _ => ws.length - (intOf i).toNat)
    case atStart => exact ⟨0, Nat.zero_le _, rfl, (⟨by simpa [nodesV] using hown0, by simp [Value.ownBlock]; omega⟩ : _ ∧ _), hown1a, hB1⟩
    case round =>
      obtain ⟨k, hk, rfl, HV, HS1, hb⟩ := hrel
      clear hown0 hown1a hB1 hg1
      have hg1r := (HS1.out.lt g1 rfl).2
      by_cases hkl : (k : Int) < (ws.length : Int)
      · have hk2 : k < ws.length := by omega
        have hcell := str_cellsD HS1.out rfl k hk2
        have hx := HWT.out k
        have hst := in_step ws k hk2
        obtain ⟨x, hxe⟩ : ∃ x, ws.getD k [] = x := ⟨_, rfl⟩
        rw [hxe] at hcell hx hst
        have HC : Hid (_) := fun W : World => implShapeIn x W hx
        cases hsx : shIn x with
        | num b =>
          have HN : Hid (_) := fun W : World => node_num b W
          rw [hsx] at HC hst
          unfold shVal at HC
          simp only at HC
          obtain ⟨n, hn⟩ : ∃ n, shNode (.num b) = n := ⟨_, rfl⟩
          rw [hn] at HN hst
          have HST : Hid ((ws.map (fun x => shNode (shIn x))).take (k + 1) = (ws.map (fun x => shNode (shIn x))).take k ++ [n]) := hst
          clear hst hxe hn hsx
          go_wp2_with fail
          refine Calls.mono (HC.out _) ?_
          rintro e w2 ⟨rfl, hb2⟩
          have hV2 := own_below HV.out.1 hb2
          have hS2 := own_below HS1.out hb2
          have hB2 := hb.trans (hb2.mono hb.size)
          have hg2 : g1 < w2.heap.size := Nat.lt_of_lt_of_le hg1r hb2.size
          have hvn := HV.out.2
          clear hb2 hb HV HS1 hcell HC hg1r
          go_wp2_with fail
          refine Calls.mono (HN.out _) ?_
          rintro e w3 ⟨rfl, hb3⟩
          have hV3 := own_below hV2 hb3
          have hS3 := own_below hS2 hb3
          have hB3 := hB2.trans (hb3.mono hB2.size)
          have hg3 : g1 < w3.heap.size := Nat.lt_of_lt_of_le hg2 hb3.size
          clear hb3 hV2 hS2 hB2 hg2 HN
          unfold nodeVal
          have hnc := new_node w3 n
          obtain ⟨kd, aa, p, f⟩ := n
          simp only at hnc ⊢
          go_wp2_with (at_builtin; refine wpList_append_own_at _ rfl _ _ 35 rfl w.heap.size 76 i0 _ 4 48 Tryz.underlying35 hi hz0 hz1 hz2 rfl (by decide) _ _ _ rfl (hV3.alloc _) ⟨w3.heap.size, 0, none⟩ 1 1 (nodesV [(kd, aa, p, f)]) rfl rfl ?c1 ?c2 ?c3 ?c4 ?c5 ?_)
          first | (case c1 => exact hnc) | skip
          first | (case c2 => exact nodesV_one _) | skip
          first | (case c3 => unfold maxLen; omega) | skip
          first | (case c4 => omega) | skip
          first | (case c5 => have := hB3.size; simp; try omega) | skip
          intro v' w4 hown4 hgrow4 hnil4 hat4
          have hv4 : v'.ownBlock ≠ some g1 := by
            rcases hat4 with h | h
            · rw [h]; exact hvn
            · rw [h]; simp; omega
          have HV4 : Hid (w4.ownsRow w.heap.size 76 4 v' (k + 1) (nodesV ((ws.map (fun x => shNode (shIn x))).take (k + 1))) ∧ v'.ownBlock ≠ some g1) := by
            exact (⟨by rw [HST.out, nodesV_append]; exact hown4, hv4⟩ : w4.ownsRow w.heap.size 76 4 v' (k + 1) (nodesV ((ws.map (fun x => shNode (shIn x))).take (k + 1))) ∧ v'.ownBlock ≠ some g1)
          have HS4 : Hid (w4.ownsRow w.heap.size 9 1 (.slice (some ⟨g1, 0, none⟩) ws.length cp1) ws.length (strV ws)) := (hS3.alloc _).kept hgrow4 (.inr (fun e => hvn e.symm))
          have hb4 : Below w.heap.size w w4 := (hB3.alloc hB3.size _).grown hgrow4 (by have := hB3.size; simp; omega) (fun q e => (hV3.lt q e).1)
          clear hown4 hgrow4 hnil4 hat4 hV3 hS3 hB3 hv4 hvn hnc
          go_wp2
          go_roundw
          case rel => exact ⟨k + 1, by omega, by go_num, HV4, HS4, hb4⟩
          case measure => simp [intOf]; omega
        | arg b =>
          have HN : Hid (_) := fun W : World => node_arg b W
          rw [hsx] at HC hst
          unfold shVal at HC
          simp only at HC
          obtain ⟨n, hn⟩ : ∃ n, shNode (.arg b) = n := ⟨_, rfl⟩
          rw [hn] at HN hst
          have HST : Hid ((ws.map (fun x => shNode (shIn x))).take (k + 1) = (ws.map (fun x => shNode (shIn x))).take k ++ [n]) := hst
          clear hst hxe hn hsx
          go_wp2_with fail
          refine Calls.mono (HC.out _) ?_
          rintro e w2 ⟨rfl, hb2⟩
          have hV2 := own_below HV.out.1 hb2
          have hS2 := own_below HS1.out hb2
          have hB2 := hb.trans (hb2.mono hb.size)
          have hg2 : g1 < w2.heap.size := Nat.lt_of_lt_of_le hg1r hb2.size
          have hvn := HV.out.2
          clear hb2 hb HV HS1 hcell HC hg1r
          go_wp2_with fail
          refine Calls.mono (HN.out _) ?_
          rintro e w3 ⟨rfl, hb3⟩
          have hV3 := own_below hV2 hb3
          have hS3 := own_below hS2 hb3
          have hB3 := hB2.trans (hb3.mono hB2.size)
          have hg3 : g1 < w3.heap.size := Nat.lt_of_lt_of_le hg2 hb3.size
          clear hb3 hV2 hS2 hB2 hg2 HN
          unfold nodeVal
          have hnc := new_node w3 n
          obtain ⟨kd, aa, p, f⟩ := n
          simp only at hnc ⊢
          go_wp2_with (at_builtin; refine wpList_append_own_at _ rfl _ _ 35 rfl w.heap.size 76 i0 _ 4 48 Tryz.underlying35 hi hz0 hz1 hz2 rfl (by decide) _ _ _ rfl (hV3.alloc _) ⟨w3.heap.size, 0, none⟩ 1 1 (nodesV [(kd, aa, p, f)]) rfl rfl ?c1 ?c2 ?c3 ?c4 ?c5 ?_)
          first | (case c1 => exact hnc) | skip
          first | (case c2 => exact nodesV_one _) | skip
          first | (case c3 => unfold maxLen; omega) | skip
          first | (case c4 => omega) | skip
          first | (case c5 => have := hB3.size; simp; try omega) | skip
          intro v' w4 hown4 hgrow4 hnil4 hat4
          have hv4 : v'.ownBlock ≠ some g1 := by
            rcases hat4 with h | h
            · rw [h]; exact hvn
            · rw [h]; simp; omega
          have HV4 : Hid (w4.ownsRow w.heap.size 76 4 v' (k + 1) (nodesV ((ws.map (fun x => shNode (shIn x))).take (k + 1))) ∧ v'.ownBlock ≠ some g1) := by
            exact (⟨by rw [HST.out, nodesV_append]; exact hown4, hv4⟩ : w4.ownsRow w.heap.size 76 4 v' (k + 1) (nodesV ((ws.map (fun x => shNode (shIn x))).take (k + 1))) ∧ v'.ownBlock ≠ some g1)
          have HS4 : Hid (w4.ownsRow w.heap.size 9 1 (.slice (some ⟨g1, 0, none⟩) ws.length cp1) ws.length (strV ws)) := (hS3.alloc _).kept hgrow4 (.inr (fun e => hvn e.symm))
          have hb4 : Below w.heap.size w w4 := (hB3.alloc hB3.size _).grown hgrow4 (by have := hB3.size; simp; omega) (fun q e => (hV3.lt q e).1)
          clear hown4 hgrow4 hnil4 hat4 hV3 hS3 hB3 hv4 hvn hnc
          go_wp2
          go_roundw
          case rel => exact ⟨k + 1, by omega, by go_num, HV4, HS4, hb4⟩
          case measure => simp [intOf]; omega
        | pair b =>
          have HN : Hid (_) := fun W : World => node_pair b W
          rw [hsx] at HC hst
          unfold shVal at HC
          simp only at HC
          obtain ⟨n, hn⟩ : ∃ n, shNode (.pair b) = n := ⟨_, rfl⟩
          rw [hn] at HN hst
          have HST : Hid ((ws.map (fun x => shNode (shIn x))).take (k + 1) = (ws.map (fun x => shNode (shIn x))).take k ++ [n]) := hst
          clear hst hxe hn hsx
          go_wp2_with fail
          refine Calls.mono (HC.out _) ?_
          rintro e w2 ⟨rfl, hb2⟩
          have hV2 := own_below HV.out.1 hb2
          have hS2 := own_below HS1.out hb2
          have hB2 := hb.trans (hb2.mono hb.size)
          have hg2 : g1 < w2.heap.size := Nat.lt_of_lt_of_le hg1r hb2.size
          have hvn := HV.out.2
          clear hb2 hb HV HS1 hcell HC hg1r
          go_wp2_with fail
          refine Calls.mono (HN.out _) ?_
          rintro e w3 ⟨rfl, hb3⟩
          have hV3 := own_below hV2 hb3
          have hS3 := own_below hS2 hb3
          have hB3 := hB2.trans (hb3.mono hB2.size)
          have hg3 : g1 < w3.heap.size := Nat.lt_of_lt_of_le hg2 hb3.size
          clear hb3 hV2 hS2 hB2 hg2 HN
          unfold nodeVal
          have hnc := new_node w3 n
          obtain ⟨kd, aa, p, f⟩ := n
          simp only at hnc ⊢
          go_wp2_with (at_builtin; refine wpList_append_own_at _ rfl _ _ 35 rfl w.heap.size 76 i0 _ 4 48 Tryz.underlying35 hi hz0 hz1 hz2 rfl (by decide) _ _ _ rfl (hV3.alloc _) ⟨w3.heap.size, 0, none⟩ 1 1 (nodesV [(kd, aa, p, f)]) rfl rfl ?c1 ?c2 ?c3 ?c4 ?c5 ?_)
          first | (case c1 => exact hnc) | skip
          first | (case c2 => exact nodesV_one _) | skip
          first | (case c3 => unfold maxLen; omega) | skip
          first | (case c4 => omega) | skip
          first | (case c5 => have := hB3.size; simp; try omega) | skip
          intro v' w4 hown4 hgrow4 hnil4 hat4
          have hv4 : v'.ownBlock ≠ some g1 := by
            rcases hat4 with h | h
            · rw [h]; exact hvn
            · rw [h]; simp; omega
          have HV4 : Hid (w4.ownsRow w.heap.size 76 4 v' (k + 1) (nodesV ((ws.map (fun x => shNode (shIn x))).take (k + 1))) ∧ v'.ownBlock ≠ some g1) := by
            exact (⟨by rw [HST.out, nodesV_append]; exact hown4, hv4⟩ : w4.ownsRow w.heap.size 76 4 v' (k + 1) (nodesV ((ws.map (fun x => shNode (shIn x))).take (k + 1))) ∧ v'.ownBlock ≠ some g1)
          have HS4 : Hid (w4.ownsRow w.heap.size 9 1 (.slice (some ⟨g1, 0, none⟩) ws.length cp1) ws.length (strV ws)) := (hS3.alloc _).kept hgrow4 (.inr (fun e => hvn e.symm))
          have hb4 : Below w.heap.size w w4 := (hB3.alloc hB3.size _).grown hgrow4 (by have := hB3.size; simp; omega) (fun q e => (hV3.lt q e).1)
          clear hown4 hgrow4 hnil4 hat4 hV3 hS3 hB3 hv4 hvn hnc
          go_wp2
          go_roundw
          case rel => exact ⟨k + 1, by omega, by go_num, HV4, HS4, hb4⟩
          case measure => simp [intOf]; omega
        | cond =>
          have HN : Hid (_) := fun W : World => node_cond W
          rw [hsx] at HC hst
          unfold shVal at HC
          simp only at HC
          obtain ⟨n, hn⟩ : ∃ n, shNode (.cond) = n := ⟨_, rfl⟩
          rw [hn] at HN hst
          have HST : Hid ((ws.map (fun x => shNode (shIn x))).take (k + 1) = (ws.map (fun x => shNode (shIn x))).take k ++ [n]) := hst
          clear hst hxe hn hsx
          go_wp2_with fail
          refine Calls.mono (HC.out _) ?_
          rintro e w2 ⟨rfl, hb2⟩
          have hV2 := own_below HV.out.1 hb2
          have hS2 := own_below HS1.out hb2
          have hB2 := hb.trans (hb2.mono hb.size)
          have hg2 : g1 < w2.heap.size := Nat.lt_of_lt_of_le hg1r hb2.size
          have hvn := HV.out.2
          clear hb2 hb HV HS1 hcell HC hg1r
          go_wp2_with fail
          refine Calls.mono (HN.out _) ?_
          rintro e w3 ⟨rfl, hb3⟩
          have hV3 := own_below hV2 hb3
          have hS3 := own_below hS2 hb3
          have hB3 := hB2.trans (hb3.mono hB2.size)
          have hg3 : g1 < w3.heap.size := Nat.lt_of_lt_of_le hg2 hb3.size
          clear hb3 hV2 hS2 hB2 hg2 HN
          unfold nodeVal
          have hnc := new_node w3 n
          obtain ⟨kd, aa, p, f⟩ := n
          simp only at hnc ⊢
          go_wp2_with (at_builtin; refine wpList_append_own_at _ rfl _ _ 35 rfl w.heap.size 76 i0 _ 4 48 Tryz.underlying35 hi hz0 hz1 hz2 rfl (by decide) _ _ _ rfl (hV3.alloc _) ⟨w3.heap.size, 0, none⟩ 1 1 (nodesV [(kd, aa, p, f)]) rfl rfl ?c1 ?c2 ?c3 ?c4 ?c5 ?_)
          first | (case c1 => exact hnc) | skip
          first | (case c2 => exact nodesV_one _) | skip
          first | (case c3 => unfold maxLen; omega) | skip
          first | (case c4 => omega) | skip
          first | (case c5 => have := hB3.size; simp; try omega) | skip
          intro v' w4 hown4 hgrow4 hnil4 hat4
          have hv4 : v'.ownBlock ≠ some g1 := by
            rcases hat4 with h | h
            · rw [h]; exact hvn
            · rw [h]; simp; omega
          have HV4 : Hid (w4.ownsRow w.heap.size 76 4 v' (k + 1) (nodesV ((ws.map (fun x => shNode (shIn x))).take (k + 1))) ∧ v'.ownBlock ≠ some g1) := by
            exact (⟨by rw [HST.out, nodesV_append]; exact hown4, hv4⟩ : w4.ownsRow w.heap.size 76 4 v' (k + 1) (nodesV ((ws.map (fun x => shNode (shIn x))).take (k + 1))) ∧ v'.ownBlock ≠ some g1)
          have HS4 : Hid (w4.ownsRow w.heap.size 9 1 (.slice (some ⟨g1, 0, none⟩) ws.length cp1) ws.length (strV ws)) := (hS3.alloc _).kept hgrow4 (.inr (fun e => hvn e.symm))
          have hb4 : Below w.heap.size w w4 := (hB3.alloc hB3.size _).grown hgrow4 (by have := hB3.size; simp; omega) (fun q e => (hV3.lt q e).1)
          clear hown4 hgrow4 hnil4 hat4 hV3 hS3 hB3 hv4 hvn hnc
          go_wp2
          go_roundw
          case rel => exact ⟨k + 1, by omega, by go_num, HV4, HS4, hb4⟩
          case measure => simp [intOf]; omega
        | call q g b =>
          have HN : Hid (_) := fun W : World => node_call q g b W
          rw [hsx] at HC hst
          unfold shVal at HC
          simp only at HC
          obtain ⟨n, hn⟩ : ∃ n, shNode (.call q g b) = n := ⟨_, rfl⟩
          rw [hn] at HN hst
          have HST : Hid ((ws.map (fun x => shNode (shIn x))).take (k + 1) = (ws.map (fun x => shNode (shIn x))).take k ++ [n]) := hst
          clear hst hxe hn hsx
          go_wp2_with fail
          refine Calls.mono (HC.out _) ?_
          rintro e w2 ⟨rfl, hb2⟩
          have hV2 := own_below HV.out.1 hb2
          have hS2 := own_below HS1.out hb2
          have hB2 := hb.trans (hb2.mono hb.size)
          have hg2 : g1 < w2.heap.size := Nat.lt_of_lt_of_le hg1r hb2.size
          have hvn := HV.out.2
          clear hb2 hb HV HS1 hcell HC hg1r
          go_wp2_with fail
          refine Calls.mono (HN.out _) ?_
          rintro e w3 ⟨rfl, hb3⟩
          have hV3 := own_below hV2 hb3
          have hS3 := own_below hS2 hb3
          have hB3 := hB2.trans (hb3.mono hB2.size)
          have hg3 : g1 < w3.heap.size := Nat.lt_of_lt_of_le hg2 hb3.size
          clear hb3 hV2 hS2 hB2 hg2 HN
          unfold nodeVal
          have hnc := new_node w3 n
          obtain ⟨kd, aa, p, f⟩ := n
          simp only at hnc ⊢
          go_wp2_with (at_builtin; refine wpList_append_own_at _ rfl _ _ 35 rfl w.heap.size 76 i0 _ 4 48 Tryz.underlying35 hi hz0 hz1 hz2 rfl (by decide) _ _ _ rfl (hV3.alloc _) ⟨w3.heap.size, 0, none⟩ 1 1 (nodesV [(kd, aa, p, f)]) rfl rfl ?c1 ?c2 ?c3 ?c4 ?c5 ?_)
          first | (case c1 => exact hnc) | skip
          first | (case c2 => exact nodesV_one _) | skip
          first | (case c3 => unfold maxLen; omega) | skip
          first | (case c4 => omega) | skip
          first | (case c5 => have := hB3.size; simp; try omega) | skip
          intro v' w4 hown4 hgrow4 hnil4 hat4
          have hv4 : v'.ownBlock ≠ some g1 := by
            rcases hat4 with h | h
            · rw [h]; exact hvn
            · rw [h]; simp; omega
          have HV4 : Hid (w4.ownsRow w.heap.size 76 4 v' (k + 1) (nodesV ((ws.map (fun x => shNode (shIn x))).take (k + 1))) ∧ v'.ownBlock ≠ some g1) := by
            exact (⟨by rw [HST.out, nodesV_append]; exact hown4, hv4⟩ : w4.ownsRow w.heap.size 76 4 v' (k + 1) (nodesV ((ws.map (fun x => shNode (shIn x))).take (k + 1))) ∧ v'.ownBlock ≠ some g1)
          have HS4 : Hid (w4.ownsRow w.heap.size 9 1 (.slice (some ⟨g1, 0, none⟩) ws.length cp1) ws.length (strV ws)) := (hS3.alloc _).kept hgrow4 (.inr (fun e => hvn e.symm))
          have hb4 : Below w.heap.size w w4 := (hB3.alloc hB3.size _).grown hgrow4 (by have := hB3.size; simp; omega) (fun q e => (hV3.lt q e).1)
          clear hown4 hgrow4 hnil4 hat4 hV3 hS3 hB3 hv4 hvn hnc
          go_wp2
          go_roundw
          case rel => exact ⟨k + 1, by omega, by go_num, HV4, HS4, hb4⟩
          case measure => simp [intOf]; omega
        | no =>
          have HN : Hid (_) := fun W : World => node_no W
          rw [hsx] at HC hst
          unfold shVal at HC
          simp only at HC
          obtain ⟨n, hn⟩ : ∃ n, shNode (.no) = n := ⟨_, rfl⟩
          rw [hn] at HN hst
          have HST : Hid ((ws.map (fun x => shNode (shIn x))).take (k + 1) = (ws.map (fun x => shNode (shIn x))).take k ++ [n]) := hst
          clear hst hxe hn hsx
          go_wp2_with fail
          refine Calls.mono (HC.out _) ?_
          rintro e w2 ⟨rfl, hb2⟩
          have hV2 := own_below HV.out.1 hb2
          have hS2 := own_below HS1.out hb2
          have hB2 := hb.trans (hb2.mono hb.size)
          have hg2 : g1 < w2.heap.size := Nat.lt_of_lt_of_le hg1r hb2.size
          have hvn := HV.out.2
          clear hb2 hb HV HS1 hcell HC hg1r
          go_wp2_with fail
          refine Calls.mono (HN.out _) ?_
          rintro e w3 ⟨rfl, hb3⟩
          have hV3 := own_below hV2 hb3
          have hS3 := own_below hS2 hb3
          have hB3 := hB2.trans (hb3.mono hB2.size)
          have hg3 : g1 < w3.heap.size := Nat.lt_of_lt_of_le hg2 hb3.size
          clear hb3 hV2 hS2 hB2 hg2 HN
          unfold nodeVal
          have hnc := new_node w3 n
          obtain ⟨kd, aa, p, f⟩ := n
          simp only at hnc ⊢
          go_wp2_with (at_builtin; refine wpList_append_own_at _ rfl _ _ 35 rfl w.heap.size 76 i0 _ 4 48 Tryz.underlying35 hi hz0 hz1 hz2 rfl (by decide) _ _ _ rfl (hV3.alloc _) ⟨w3.heap.size, 0, none⟩ 1 1 (nodesV [(kd, aa, p, f)]) rfl rfl ?c1 ?c2 ?c3 ?c4 ?c5 ?_)
          first | (case c1 => exact hnc) | skip
          first | (case c2 => exact nodesV_one _) | skip
          first | (case c3 => unfold maxLen; omega) | skip
          first | (case c4 => omega) | skip
          first | (case c5 => have := hB3.size; simp; try omega) | skip
          intro v' w4 hown4 hgrow4 hnil4 hat4
          have hv4 : v'.ownBlock ≠ some g1 := by
            rcases hat4 with h | h
            · rw [h]; exact hvn
            · rw [h]; simp; omega
          have HV4 : Hid (w4.ownsRow w.heap.size 76 4 v' (k + 1) (nodesV ((ws.map (fun x => shNode (shIn x))).take (k + 1))) ∧ v'.ownBlock ≠ some g1) := by
            exact (⟨by rw [HST.out, nodesV_append]; exact hown4, hv4⟩ : w4.ownsRow w.heap.size 76 4 v' (k + 1) (nodesV ((ws.map (fun x => shNode (shIn x))).take (k + 1))) ∧ v'.ownBlock ≠ some g1)
          have HS4 : Hid (w4.ownsRow w.heap.size 9 1 (.slice (some ⟨g1, 0, none⟩) ws.length cp1) ws.length (strV ws)) := (hS3.alloc _).kept hgrow4 (.inr (fun e => hvn e.symm))
          have hb4 : Below w.heap.size w w4 := (hB3.alloc hB3.size _).grown hgrow4 (by have := hB3.size; simp; omega) (fun q e => (hV3.lt q e).1)
          clear hown4 hgrow4 hnil4 hat4 hV3 hS3 hB3 hv4 hvn hnc
          go_wp2
          go_roundw
          case rel => exact ⟨k + 1, by omega, by go_num, HV4, HS4, hb4⟩
          case measure => simp [intOf]; omega
      · obtain rfl : k = ws.length := by omega
        have hV := HV.out.1
        rw [List.take_of_length_le (by rw [List.length_map]; exact Nat.le_refl _)] at hV
        obtain ⟨_, av, cv, rfl, hin⟩ := own_nodes hV
        have HT : Hid (_) := implShowTree av ws.length cv (ws.map (fun x => shNode (shIn x))) wr hin HSm.out.1 HSm.out.2 (by omega) (HP.out.below hb)
        have HVV : Hid (wr.ownsRow w.heap.size 76 4 (.slice av ws.length cv) ws.length (nodesV (ws.map (fun x => shNode (shIn x))))) := hV
        obtain ⟨S, hS⟩ : ∃ S, showT (ws.map (fun x => shNode (shIn x))) = S := ⟨_, rfl⟩
        rw [hS] at HYes HNo HT
        clear hV hin HV HS1 hS hg1r
        by_cases he : S = s
        · have HR : Hid (readOk s = true ∧ readTV s = ws.map (fun x => shNode (shIn x))) := HYes.out he
          subst he
          have hne : (S != S) = false := by simp
          clear HYes HNo
          go_wp2_with fail
          refine Calls.mono HT.out ?_
          rintro e w4 ⟨rfl, hb4⟩
          have hB4 := hb.trans (hb4.mono hb.size)
          have hV4 := own_below HVV.out hb4
          clear hb4 hb
          go_wp2
          go_ret2
          exact ⟨_, by rw [HR.out.1]; rfl, by rw [HR.out.2, List.length_map]; exact hV4, hB4⟩
        · have HR : Hid (readOk s = false ∧ readTV s = []) := HNo.out he
          have he2 : (S == s) = false := beq_eq_false_iff_ne.2 he
          have hne : (S != s) = true := by rw [bne, he2]; rfl
          clear HYes HNo he
          go_wp2_with fail
          refine Calls.mono HT.out ?_
          rintro e w4 ⟨rfl, hb4⟩
          have hB4 := hb.trans (hb4.mono hb.size)
          have hownE := (World.ownsRow_lit (base := w.heap.size) (e := 76) (size := 4) w4 #[] 0 hB4.size (by decide) rfl)
          clear hb4 hb
          go_wp2
          go_ret2
          exact ⟨_, by rw [HR.out.1]; rfl, by rw [HR.out.2]; exact hownE, hB4.alloc hB4.size _⟩

end Go.Proofs.YtibppdepgoiojaaGreatDoor
