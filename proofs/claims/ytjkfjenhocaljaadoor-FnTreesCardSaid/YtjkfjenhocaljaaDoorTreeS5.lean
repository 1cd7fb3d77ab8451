/-
  The contract of chapter 6's specification: ReadTree.
-/
import Derived.Test.YtjkfjenhocaljaaDoorTreeS4
namespace Go.Proofs.YtjkfjenhocaljaaDoor
open Go.RowKit

/-- What a row of nodes holds. -/
def nodesV : List Nd → List Value
  | [] => []
  | n :: r => .int .i64 n.1 :: .int .i64 n.2.1 :: .string ⟨n.2.2.1.toArray⟩ :: .string ⟨n.2.2.2.toArray⟩ :: nodesV r

theorem nodesV_len (ns : List Nd) : (nodesV ns).length = ns.length * 4 := by
  induction ns with
  | nil => rfl
  | cons n r ih => simp only [nodesV, List.length_cons, ih]; omega

theorem nodesV_append (x y : List Nd) : nodesV (x ++ y) = nodesV x ++ nodesV y := by
  induction x with
  | nil => rfl
  | cons n r ih => simp only [List.cons_append, nodesV, ih]

theorem nodesV_one (ns : List Nd) : ∀ u ∈ nodesV ns, u.oneCell' = true := by
  induction ns with
  | nil => intro u hu; cases hu
  | cons n r ih =>
    intro u hu
    simp only [nodesV, List.mem_cons] at hu
    rcases hu with rfl | rfl | rfl | rfl | h
    · rfl
    · rfl
    · rfl
    · rfl
    · exact ih u h

theorem nodesV_at (ns : List Nd) (j : Nat) (hj : j < ns.length) : (nodesV ns)[j * 4]? = some (.int .i64 (ns.getD j nd0).1) ∧ (nodesV ns)[j * 4 + 1]? = some (.int .i64 (ns.getD j nd0).2.1) ∧ (nodesV ns)[j * 4 + 2]? = some (.string ⟨(ns.getD j nd0).2.2.1.toArray⟩) ∧ (nodesV ns)[j * 4 + 3]? = some (.string ⟨(ns.getD j nd0).2.2.2.toArray⟩) := by
  induction ns generalizing j with
  | nil => simp at hj
  | cons n r ih =>
    cases j with
    | zero => simp [nodesV]
    | succ j =>
      have h := ih j (by simpa using hj)
      rw [show (j + 1) * 4 = j * 4 + 1 + 1 + 1 + 1 by omega]
      simpa [nodesV] using h

/-- A row of nodes that a call owns is a list of nodes. -/
theorem own_nodes {w : World} {base n : Nat} {v : Value} {ns : List Nd} (h : w.ownsRow base 31 4 v n (nodesV ns)) : ns.length = n ∧ ∃ a cap, v = .slice a n cap ∧ NodesIn w a n ns := by
  have hlen : ns.length = n := by have := h.1; rw [nodesV_len] at this; omega
  refine ⟨hlen, ?_⟩
  rcases own_forms h with ⟨rfl, rfl, _⟩ | ⟨g, cp, rfl⟩
  · exact ⟨none, 0, rfl, hlen, fun j hj => by omega⟩
  · refine ⟨some ⟨g, 0, none⟩, cp, rfl, hlen, fun j hj => ?_⟩
    obtain ⟨v0, v1, v2, v3⟩ := nodesV_at ns j (by omega)
    have c0 := h.cellAt (j * 4) (by omega)
    have c1 := h.cellAt (j * 4 + 1) (by omega)
    have c2 := h.cellAt (j * 4 + 2) (by omega)
    have c3 := h.cellAt (j * 4 + 3) (by omega)
    rw [v0] at c0
    rw [v1] at c1
    rw [v2] at c2
    rw [v3] at c3
    refine ⟨g, 0, rfl, (h.lt g rfl).2, ?_, ?_, ?_, ?_⟩
    · rw [Nat.zero_add]; exact c0
    · rw [Nat.zero_add]; exact c1
    · rw [Nat.zero_add]; exact c2
    · rw [Nat.zero_add]; exact c3

theorem infoNode : (Tryd.prog.info? 31).map (fun i => (i.zero, i.size, i.bytes)) = some (some (.agg #[.int .i64 0, .int .i64 0, .string ⟨#[]⟩, .string ⟨#[]⟩]), 4, 48) := by kernel_rfl

theorem new_node (w : World) (n : Nd) : ∀ j u, (nodesV [n])[j]? = some u → (w.alloc (.cells #[.int .i64 n.1, .int .i64 n.2.1, .string ⟨n.2.2.1.toArray⟩, .string ⟨n.2.2.2.toArray⟩] 31)).cell? ((⟨w.heap.size, 0, none⟩ : Addr).add j) = some u := by
  intro j u hu
  have e : (⟨w.heap.size, 0, none⟩ : Addr).add j = ⟨w.heap.size, j, none⟩ := by unfold Addr.add; split <;> simp_all
  rw [e]
  match j, hu with
  | 0, hu => simp [nodesV] at hu; subst hu; simp
  | 1, hu => simp [nodesV] at hu; subst hu; simp
  | 2, hu => simp [nodesV] at hu; subst hu; simp
  | 3, hu => simp [nodesV] at hu; subst hu; simp
  | j + 4, hu => simp [nodesV] at hu

theorem split_part (b : UInt8) (l : List UInt8) (j : Nat) : ((splitL b l).getD j []).length ≤ l.length := by
  have h1 : (splitGo b [] l).flatten.length ≤ l.length := by
    have := splitGo_flat b l []
    rw [List.length_nil, Nat.zero_add] at this
    exact this
  have h2 := part_le (splitL b l) j
  unfold splitL at h2 ⊢
  exact Nat.le_trans h2 h1

theorem readN_short (s : List UInt8) : (readN s).2.2.1.length ≤ s.length ∧ (readN s).2.2.2.length ≤ s.length := by
  unfold readN
  split
  · simp
  split
  · simp
  split
  · simp
  split
  · simp
  split
  · simp
  split
  · simp
  split
  · split
    · have h1 := split_part 47 s.tail 0
      have h2 := split_part 46 ((splitL 47 s.tail).getD 0 []) 0
      have h3 := split_part 46 ((splitL 47 s.tail).getD 0 []) 1
      have h4 : s.tail.length ≤ s.length := by rw [List.length_tail]; omega
      constructor
      · show ((splitL 46 ((splitL 47 s.tail).getD 0 [])).getD 0 []).length ≤ _; omega
      · show ((splitL 46 ((splitL 47 s.tail).getD 0 [])).getD 1 []).length ≤ _; omega
    · simp
  split
  · simp
  · simp

theorem readT_short (s : List UInt8) (h : s.length ≤ 2000) : ShortT (readT s) := by
  intro j
  unfold readT
  by_cases hj : j < (splitL 32 s).length
  · have hg : ((splitL 32 s).map readN).getD j nd0 = readN ((splitL 32 s).getD j []) := by simp [List.getD, hj]
    rw [hg]
    have h1 := readN_short ((splitL 32 s).getD j [])
    have h2 := split_part 32 s j
    omega
  · have hg : ((splitL 32 s).map readN).getD j nd0 = nd0 := by simp [List.getD, hj]
    rw [hg]; simp [nd0]

theorem map_step2 (ws : List (List UInt8)) (k : Nat) (hk : k < ws.length) : (ws.map readN).take (k + 1) = (ws.map readN).take k ++ [readN (ws.getD k [])] := by
  rw [← List.map_take, ← List.map_take]
  have hg : ws.getD k [] = ws[k] := by simp [List.getD, hk]
  rw [hg, List.take_succ_eq_append_getElem hk, List.map_append]; rfl

set_option maxHeartbeats 2000000 in
set_option maxRecDepth 100000 in
theorem specReadTree (s : List UInt8) (w : World) :
    Calls Tryd.prog 12 #[.string ⟨s.toArray⟩] w fun e w' => ∃ v, e = .returned (.tuple #[v, .bool (readOk s)]) ∧ w'.ownsRow w.heap.size 31 4 v (readTV s).length (nodesV (readTV s)) ∧ Below w.heap.size w w' := by
  have hown0 := (World.ownsRow_lit (base := w.heap.size) (e := 31) (size := 4) w #[] 0 (Nat.le_refl _) (by decide) rfl)
  by_cases hl : 2000 < (s.length : Int)
  · have HR : Hid (readOk s = false ∧ readTV s = []) := by
      have h1 : readOk s = false := by unfold readOk; rw [decide_eq_false (by omega)]; rfl
      exact ⟨h1, by unfold readTV; rw [if_neg (by rw [h1]; simp)]⟩
    go_enter Tryd.func12, Tryd.ntmps12
    go_wp2
    go_ret2
    exact ⟨_, by rw [HR.out.1]; rfl, by rw [HR.out.2]; exact hown0, (Below.refl _ _).alloc (Nat.le_refl _) _⟩
  · obtain ⟨i0, hi, hz0, hz1, hz2⟩ := info_parts infoNode
    obtain ⟨ws, hws⟩ : ∃ ws, splitL 32 s = ws := ⟨_, rfl⟩
    have hwl : ws.length ≤ 2001 := by rw [← hws]; have := splitGo_len 32 s []; unfold splitL; omega
    have hwt : ∀ j, (ws.getD j []).length ≤ 2000 := fun j => by rw [← hws]; have := split_part 32 s j; omega
    have HW : Hid (splitL 32 s = ws) := hws
    have HSh : Hid (ShortT (ws.map readN)) := by have := readT_short s (by omega); unfold readT at this; rw [hws] at this; exact this
    have HRd : Hid (readT s = ws.map readN) := by exact (by unfold readT; rw [hws] : readT s = ws.map readN)
    clear hws
    go_enter Tryd.func12, Tryd.ntmps12
    go_wp2_with fail
    refine (specSplit s 32 32 _ (by rfl) (by omega)).mono ?_
    rintro e w1 ⟨g1, cp1, rfl, hown1, hb1⟩
    rw [HW.out] at hown1 ⊢
    rw [World.size_alloc] at hown1
    have hB1 := below_boxed hb1
    have hown01 := own_below hown0 hb1
    have hg1 := hown1.lt g1 rfl
    clear hb1 hown0
    go_wp2
    go_loopw [4, 6] (fun v i wr => ∃ k : Nat, k ≤ ws.length ∧ i = .int .i64 k ∧ Hid (wr.ownsRow w.heap.size 31 4 v k (nodesV ((ws.map readN).take k)) ∧ v.ownBlock ≠ some g1) ∧ Hid (wr.ownsRow (w.heap.size + 1) 9 1 (.slice (some ⟨g1, 0, none⟩) ws.length cp1) ws.length (strV ws)) ∧ Below w.heap.size w wr) (fun _ i _ => ws.length - (intOf i).toNat)
    case atStart => exact ⟨0, Nat.zero_le _, rfl, (⟨by simpa [nodesV] using hown01, by simp [Value.ownBlock]; omega⟩ : _ ∧ _), hown1, hB1⟩
    case round =>
      obtain ⟨k, hk, rfl, HV, HS1, hb⟩ := hrel
      clear hown01 hown1 hB1
      have hg1r := (HS1.out.lt g1 rfl).2
      by_cases hkl : (k : Int) < (ws.length : Int)
      · have hk2 : k < ws.length := by omega
        have hcell := str_cellsD HS1.out rfl k hk2
        have hx := hwt k
        have hst := map_step2 ws k hk2
        obtain ⟨x, hxe⟩ : ∃ x, ws.getD k [] = x := ⟨_, rfl⟩
        rw [hxe] at hcell hx hst
        have HC : Hid (_) := fun W : World => specReadN x W (by omega)
        obtain ⟨n, hn⟩ : ∃ n, readN x = n := ⟨_, rfl⟩
        have HST : Hid ((ws.map readN).take (k + 1) = (ws.map readN).take k ++ [n]) := by exact (by rw [hst, hn] : (ws.map readN).take (k + 1) = (ws.map readN).take k ++ [n])
        rw [hn] at HC
        clear hst hxe hn
        go_wp2_with fail
        refine Calls.mono (HC.out _) ?_
        rintro e w2 ⟨rfl, hb2⟩
        have hV2 := own_below HV.out.1 hb2
        have hS2 := own_below HS1.out hb2
        have hB2 := hb.trans (hb2.mono hb.size)
        have hg2 : g1 < w2.heap.size := Nat.lt_of_lt_of_le hg1r hb2.size
        have hvn := HV.out.2
        clear hb2 hb HV HS1 hcell HC
        unfold nodeVal
        have hnc := new_node w2 n
        obtain ⟨kd, aa, p, f⟩ := n
        simp only at hnc ⊢
        go_wp2_with (at_builtin; refine wpList_append_own_at _ rfl _ _ 24 rfl w.heap.size 31 i0 _ 4 48 Tryd.underlying24 hi hz0 hz1 hz2 rfl (by decide) _ _ _ rfl (hV2.alloc _) ⟨w2.heap.size, 0, none⟩ 1 1 (nodesV [(kd, aa, p, f)]) rfl rfl ?c1 ?c2 ?c3 ?c4 ?c5 ?_)
        first | (case c1 => exact hnc) | skip
        first | (case c2 => exact nodesV_one _) | skip
        first | (case c3 => unfold maxLen; omega) | skip
        first | (case c4 => omega) | skip
        first | (case c5 => have := hB2.size; simp; try omega) | skip
        intro v' w3 hown3 hgrow3 hnil3 hat3
        have hv3 : v'.ownBlock ≠ some g1 := by
          rcases hat3 with h | h
          · rw [h]; exact hvn
          · rw [h]; simp; omega
        have HV3 : Hid (w3.ownsRow w.heap.size 31 4 v' (k + 1) (nodesV ((ws.map readN).take (k + 1))) ∧ v'.ownBlock ≠ some g1) := by
          exact (⟨by rw [HST.out, nodesV_append]; exact hown3, hv3⟩ : w3.ownsRow w.heap.size 31 4 v' (k + 1) (nodesV ((ws.map readN).take (k + 1))) ∧ v'.ownBlock ≠ some g1)
        have HS3 : Hid (w3.ownsRow (w.heap.size + 1) 9 1 (.slice (some ⟨g1, 0, none⟩) ws.length cp1) ws.length (strV ws)) := (hS2.alloc _).kept hgrow3 (.inr (fun e => hvn e.symm))
        have hb3 : Below w.heap.size w w3 := (hB2.alloc hB2.size _).grown hgrow3 (by have := hB2.size; simp; omega) (fun q e => (hV2.lt q e).1)
        clear hown3 hgrow3 hnil3 hat3 hV2 hS2 hB2 hv3 hvn hnc
        go_wp2
        go_roundw
        case rel => exact ⟨k + 1, by omega, by go_num, HV3, HS3, hb3⟩
        case measure => simp [intOf]; omega
      · obtain rfl : k = ws.length := by omega
        have hV := HV.out.1
        rw [List.take_of_length_le (by rw [List.length_map]; exact Nat.le_refl _)] at hV
        obtain ⟨_, av, cv, rfl, hin⟩ := own_nodes hV
        have HT : Hid (_) := specTreeOk av ws.length cv (ws.map readN) wr hin HSh.out (by omega)
        have HIn : Hid (NodesIn wr av ws.length (ws.map readN)) := hin
        have HVV : Hid (wr.ownsRow w.heap.size 31 4 (.slice av ws.length cv) ws.length (nodesV (ws.map readN))) := hV
        clear hV hin HV HS1
        have hok : readOk s = (treeB (ws.map readN) && (showL (ws.map readN) == s)) := by unfold readOk; rw [HRd.out, decide_eq_true (by omega)]; rfl
        rcases ht : treeB (ws.map readN) with _ | _
        · have HTB : Hid (treeB (ws.map readN) = false) := ht
          have HR : Hid (readOk s = false ∧ readTV s = []) := by
            have h1 : readOk s = false := by rw [hok, ht]; rfl
            exact ⟨h1, by unfold readTV; rw [if_neg (by rw [h1]; simp)]⟩
          clear ht hok
          go_wp2_with fail
          refine Calls.mono HT.out ?_
          rintro e w4 ⟨rfl, hb4⟩
          rw [HTB.out]
          have hB4 := hb.trans (hb4.mono hb.size)
          have hownE := (World.ownsRow_lit (base := w.heap.size) (e := 31) (size := 4) w4 #[] 0 hB4.size (by decide) rfl)
          clear hb4 hb
          go_wp2
          go_ret2
          exact ⟨_, by rw [HR.out.1]; rfl, by rw [HR.out.2]; exact hownE, hB4.alloc hB4.size _⟩
        · have HTB : Hid (treeB (ws.map readN) = true) := ht
          have hn := tree_nodes ht
          have h60 := (tree_end ht).1.2
          rw [List.length_map] at h60
          rw [ht, Bool.true_and] at hok
          clear ht
          rcases he : (showL (ws.map readN) == s) with _ | _
          · have HR : Hid (readOk s = false ∧ readTV s = []) := by
              have h1 : readOk s = false := by rw [hok, he]
              exact ⟨h1, by unfold readTV; rw [if_neg (by rw [h1]; simp)]⟩
            obtain ⟨S, hS⟩ : ∃ S, showL (ws.map readN) = S := ⟨_, rfl⟩
            rw [hS] at he
            have HS : Hid (showL (ws.map readN) = S) := hS
            have hne : (S != s) = true := by rw [bne, he]; rfl
            clear hok hS
            go_wp2_with fail
            refine Calls.mono HT.out ?_
            rintro e w4 ⟨rfl, hb4⟩
            rw [HTB.out]
            have hB4 := hb.trans (hb4.mono hb.size)
            go_wp2_with fail
            refine (specShowL av ws.length cv (ws.map readN) _ (HIn.out.below hb4) hn h60).mono ?_
            rintro e w5 ⟨rfl, hb5⟩
            rw [HS.out]
            have hB5 := hB4.trans (hb5.mono hB4.size)
            have hownE := (World.ownsRow_lit (base := w.heap.size) (e := 31) (size := 4) w5 #[] 0 hB5.size (by decide) rfl)
            clear hb4 hb hb5 hB4
            go_wp2
            go_ret2
            exact ⟨_, by rw [HR.out.1]; rfl, by rw [HR.out.2]; exact hownE, hB5.alloc hB5.size _⟩
          · have HR : Hid (readOk s = true ∧ readTV s = ws.map readN) := by
              have h1 : readOk s = true := by rw [hok, he]
              exact ⟨h1, by unfold readTV; rw [if_pos h1, HRd.out]⟩
            obtain ⟨S, hS⟩ : ∃ S, showL (ws.map readN) = S := ⟨_, rfl⟩
            rw [hS] at he
            have HS : Hid (showL (ws.map readN) = S) := hS
            have hne : (S != s) = false := by rw [bne, he]; rfl
            clear hok hS
            go_wp2_with fail
            refine Calls.mono HT.out ?_
            rintro e w4 ⟨rfl, hb4⟩
            rw [HTB.out]
            have hB4 := hb.trans (hb4.mono hb.size)
            go_wp2_with fail
            refine (specShowL av ws.length cv (ws.map readN) _ (HIn.out.below hb4) hn h60).mono ?_
            rintro e w5 ⟨rfl, hb5⟩
            rw [HS.out]
            have hB5 := hB4.trans (hb5.mono hB4.size)
            have hV5 := own_below (own_below HVV.out hb4) hb5
            clear hb4 hb hb5 hB4
            go_wp2
            go_ret2
            exact ⟨_, by rw [HR.out.1]; rfl, by rw [HR.out.2, List.length_map]; exact hV5, hB5⟩

end Go.Proofs.YtjkfjenhocaljaaDoor
