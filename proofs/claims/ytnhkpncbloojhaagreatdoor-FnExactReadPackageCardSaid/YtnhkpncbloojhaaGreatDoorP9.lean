/-
  Parts of one proof, one behind the other: TreeS5, PackC, NodeL, PackC2.
-/
import Derived.Test.YtnhkpncbloojhaaGreatDoorP8
import Derived.Test.YtnhkpncbloojhaaGreatDoorP5

/-! The contract of chapter 6's specification: ReadTree. -/
namespace Go.Proofs.YtnhkpncbloojhaaGreatDoor
open Go.RowKit

/-- What a row of nodes holds. -/
def nodesV : List Nd → List Value
  | [] => []
  | n :: r => .int .i64 n.1 :: .int .i64 n.2.1 :: .string ⟨n.2.2.1.toArray⟩ :: .string ⟨n.2.2.2.toArray⟩ :: nodesV r

theorem nodesV_len (ns : List Nd) : (nodesV ns).length = ns.length * 4 := by
  induction ns with
  | nil => rfl
  | cons n r ih => simp only [nodesV, List.length_cons, ih]; omega

theorem nodesV_append (x y : List Nd) : nodesV (x ++ y) = nodesV x ++ nodesV y := by
  induction x with
  | nil => rfl
  | cons n r ih => simp only [List.cons_append, nodesV, ih]

theorem nodesV_one (ns : List Nd) : ∀ u ∈ nodesV ns, u.oneCell' = true := by
  induction ns with
  | nil => intro u hu; cases hu
  | cons n r ih =>
    intro u hu
    simp only [nodesV, List.mem_cons] at hu
    rcases hu with rfl | rfl | rfl | rfl | h
    · rfl
    · rfl
    · rfl
    · rfl
    · exact ih u h

theorem nodesV_at (ns : List Nd) (j : Nat) (hj : j < ns.length) : (nodesV ns)[j * 4]? = some (.int .i64 (ns.getD j nd0).1) ∧ (nodesV ns)[j * 4 + 1]? = some (.int .i64 (ns.getD j nd0).2.1) ∧ (nodesV ns)[j * 4 + 2]? = some (.string ⟨(ns.getD j nd0).2.2.1.toArray⟩) ∧ (nodesV ns)[j * 4 + 3]? = some (.string ⟨(ns.getD j nd0).2.2.2.toArray⟩) := by
  induction ns generalizing j with
  | nil => simp at hj
  | cons n r ih =>
    cases j with
    | zero => simp [nodesV]
    | succ j =>
      have h := ih j (by simpa using hj)
      rw [show (j + 1) * 4 = j * 4 + 1 + 1 + 1 + 1 by omega]
      simpa [nodesV] using h

/-- A row of nodes that a call owns is a list of nodes. -/
theorem own_nodes {w : World} {base n : Nat} {v : Value} {ns : List Nd} (h : w.ownsRow base 77 4 v n (nodesV ns)) : ns.length = n ∧ ∃ a cap, v = .slice a n cap ∧ NodesIn w a n ns := by
  have hlen : ns.length = n := by have := h.1; rw [nodesV_len] at this; omega
  refine ⟨hlen, ?_⟩
  rcases own_forms h with ⟨rfl, rfl, _⟩ | ⟨g, cp, rfl⟩
  · exact ⟨none, 0, rfl, hlen, fun j hj => by omega⟩
  · refine ⟨some ⟨g, 0, none⟩, cp, rfl, hlen, fun j hj => ?_⟩
    obtain ⟨v0, v1, v2, v3⟩ := nodesV_at ns j (by omega)
    have c0 := h.cellAt (j * 4) (by omega)
    have c1 := h.cellAt (j * 4 + 1) (by omega)
    have c2 := h.cellAt (j * 4 + 2) (by omega)
    have c3 := h.cellAt (j * 4 + 3) (by omega)
    rw [v0] at c0
    rw [v1] at c1
    rw [v2] at c2
    rw [v3] at c3
    refine ⟨g, 0, rfl, (h.lt g rfl).2, ?_, ?_, ?_, ?_⟩
    · rw [Nat.zero_add]; exact c0
    · rw [Nat.zero_add]; exact c1
    · rw [Nat.zero_add]; exact c2
    · rw [Nat.zero_add]; exact c3

theorem infoNode : (Tryz.prog.info? 77).map (fun i => (i.zero, i.size, i.bytes)) = some (some (.agg #[.int .i64 0, .int .i64 0, .string ⟨#[]⟩, .string ⟨#[]⟩]), 4, 48) := by kernel_rfl

theorem new_node (w : World) (n : Nd) : ∀ j u, (nodesV [n])[j]? = some u → (w.alloc (.cells #[.int .i64 n.1, .int .i64 n.2.1, .string ⟨n.2.2.1.toArray⟩, .string ⟨n.2.2.2.toArray⟩] 77)).cell? ((⟨w.heap.size, 0, none⟩ : Addr).add j) = some u := by
  intro j u hu
  have e : (⟨w.heap.size, 0, none⟩ : Addr).add j = ⟨w.heap.size, j, none⟩ := by unfold Addr.add; split <;> simp_all
  rw [e]
  match j, hu with
  | 0, hu => simp [nodesV] at hu; subst hu; simp
  | 1, hu => simp [nodesV] at hu; subst hu; simp
  | 2, hu => simp [nodesV] at hu; subst hu; simp
  | 3, hu => simp [nodesV] at hu; subst hu; simp
  | j + 4, hu => simp [nodesV] at hu

theorem split_part (b : UInt8) (l : List UInt8) (j : Nat) : ((splitL b l).getD j []).length ≤ l.length := by
  have h1 : (splitGo b [] l).flatten.length ≤ l.length := by
    have := splitGo_flat b l []
    rw [List.length_nil, Nat.zero_add] at this
    exact this
  have h2 := part_le (splitL b l) j
  unfold splitL at h2 ⊢
  exact Nat.le_trans h2 h1

theorem readN_short (s : List UInt8) : (readN s).2.2.1.length ≤ s.length ∧ (readN s).2.2.2.length ≤ s.length := by
  unfold readN
  split
  · simp
  split
  · simp
  split
  · simp
  split
  · simp
  split
  · simp
  split
  · simp
  split
  · split
    · have h1 := split_part 47 s.tail 0
      have h2 := split_part 46 ((splitL 47 s.tail).getD 0 []) 0
      have h3 := split_part 46 ((splitL 47 s.tail).getD 0 []) 1
      have h4 : s.tail.length ≤ s.length := by rw [List.length_tail]; omega
      constructor
      · show ((splitL 46 ((splitL 47 s.tail).getD 0 [])).getD 0 []).length ≤ _; omega
      · show ((splitL 46 ((splitL 47 s.tail).getD 0 [])).getD 1 []).length ≤ _; omega
    · simp
  split
  · simp
  · simp

theorem readT_short (s : List UInt8) (h : s.length ≤ 2000) : ShortT (readT s) := by
  intro j
  unfold readT
  by_cases hj : j < (splitL 32 s).length
  · have hg : ((splitL 32 s).map readN).getD j nd0 = readN ((splitL 32 s).getD j []) := by simp [List.getD, hj]
    rw [hg]
    have h1 := readN_short ((splitL 32 s).getD j [])
    have h2 := split_part 32 s j
    omega
  · have hg : ((splitL 32 s).map readN).getD j nd0 = nd0 := by simp [List.getD, hj]
    rw [hg]; simp [nd0]

theorem map_step2 (ws : List (List UInt8)) (k : Nat) (hk : k < ws.length) : (ws.map readN).take (k + 1) = (ws.map readN).take k ++ [readN (ws.getD k [])] := by
  rw [← List.map_take, ← List.map_take]
  have hg : ws.getD k [] = ws[k] := by simp [List.getD, hk]
  rw [hg, List.take_succ_eq_append_getElem hk, List.map_append]; rfl

set_option maxHeartbeats 2000000 in
set_option maxRecDepth 100000 in
theorem specReadTree (s : List UInt8) (w : World) :
    Calls Tryz.prog 39 #[.string ⟨s.toArray⟩] w fun e w' => ∃ v, e = .returned (.tuple #[v, .bool (readOk s)]) ∧ w'.ownsRow w.heap.size 77 4 v (readTV s).length (nodesV (readTV s)) ∧ Below w.heap.size w w' := by
  have hown0 := (World.ownsRow_lit (base := w.heap.size) (e := 77) (size := 4) w #[] 0 (Nat.le_refl _) (by decide) rfl)
  by_cases hl : 2000 < (s.length : Int)
  · have HR : Hid (readOk s = false ∧ readTV s = []) := by
      have h1 : readOk s = false := by unfold readOk; rw [decide_eq_false (by omega)]; rfl
      exact ⟨h1, by unfold readTV; rw [if_neg (by rw [h1]; simp)]⟩
    go_enter Tryz.func39, Tryz.ntmps39
    go_wp2
    go_ret2
    exact ⟨_, by rw [HR.out.1]; rfl, by rw [HR.out.2]; exact hown0, (Below.refl _ _).alloc (Nat.le_refl _) _⟩
  · obtain ⟨i0, hi, hz0, hz1, hz2⟩ := info_parts infoNode
    obtain ⟨ws, hws⟩ : ∃ ws, splitL 32 s = ws := ⟨_, rfl⟩
    have hwl : ws.length ≤ 2001 := by rw [← hws]; have := splitGo_len 32 s []; unfold splitL; omega
    have hwt : ∀ j, (ws.getD j []).length ≤ 2000 := fun j => by rw [← hws]; have := split_part 32 s j; omega
    have HW : Hid (splitL 32 s = ws) := hws
    have HSh : Hid (ShortT (ws.map readN)) := by have := readT_short s (by omega); unfold readT at this; rw [hws] at this; exact this
    have HRd : Hid (readT s = ws.map readN) := by exact (by unfold readT; rw [hws] : readT s = ws.map readN)
    clear hws
    go_enter Tryz.func39, Tryz.ntmps39
    go_wp2_with fail
    refine (specSplit s 32 32 _ (by rfl) (by omega)).mono ?_
    rintro e w1 ⟨g1, cp1, rfl, hown1, hb1⟩
    rw [HW.out] at hown1 ⊢
    rw [World.size_alloc] at hown1
    have hB1 := below_boxed hb1
    have hown01 := own_below hown0 hb1
    have hg1 := hown1.lt g1 rfl
    clear hb1 hown0
    go_wp2
    go_loopw [4, 6] (fun v i wr => ∃ k : Nat, k ≤ ws.length ∧ i = .int .i64 k ∧ Hid (wr.ownsRow w.heap.size 77 4 v k (nodesV ((ws.map readN).take k)) ∧ v.ownBlock ≠ some g1) ∧ Hid (wr.ownsRow (w.heap.size + 1) 9 1 (.slice (some ⟨g1, 0, none⟩) ws.length cp1) ws.length (strV ws)) ∧ Below w.heap.size w wr) (fun _ i _ => ws.length - (intOf i).toNat)
    case atStart => exact ⟨0, Nat.zero_le _, rfl, (⟨by simpa [nodesV] using hown01, by simp [Value.ownBlock]; omega⟩ : _ ∧ _), hown1, hB1⟩
    case round =>
      obtain ⟨k, hk, rfl, HV, HS1, hb⟩ := hrel
      clear hown01 hown1 hB1
      have hg1r := (HS1.out.lt g1 rfl).2
      by_cases hkl : (k : Int) < (ws.length : Int)
      · have hk2 : k < ws.length := by omega
        have hcell := str_cellsD HS1.out rfl k hk2
        have hx := hwt k
        have hst := map_step2 ws k hk2
        obtain ⟨x, hxe⟩ : ∃ x, ws.getD k [] = x := ⟨_, rfl⟩
        rw [hxe] at hcell hx hst
        have HC : Hid (_) := fun W : World => specReadN x W (by omega)
        obtain ⟨n, hn⟩ : ∃ n, readN x = n := ⟨_, rfl⟩
        have HST : Hid ((ws.map readN).take (k + 1) = (ws.map readN).take k ++ [n]) := by exact (by rw [hst, hn] : (ws.map readN).take (k + 1) = (ws.map readN).take k ++ [n])
        rw [hn] at HC
        clear hst hxe hn
        go_wp2_with fail
        refine Calls.mono (HC.out _) ?_
        rintro e w2 ⟨rfl, hb2⟩
        have hV2 := own_below HV.out.1 hb2
        have hS2 := own_below HS1.out hb2
        have hB2 := hb.trans (hb2.mono hb.size)
        have hg2 : g1 < w2.heap.size := Nat.lt_of_lt_of_le hg1r hb2.size
        have hvn := HV.out.2
        clear hb2 hb HV HS1 hcell HC
        unfold nodeVal
        have hnc := new_node w2 n
        obtain ⟨kd, aa, p, f⟩ := n
        simp only at hnc ⊢
        go_wp2_with (at_builtin; refine wpList_append_own_at _ rfl _ _ 35 rfl w.heap.size 77 i0 _ 4 48 Tryz.underlying35 hi hz0 hz1 hz2 rfl (by decide) _ _ _ rfl (hV2.alloc _) ⟨w2.heap.size, 0, none⟩ 1 1 (nodesV [(kd, aa, p, f)]) rfl rfl ?c1 ?c2 ?c3 ?c4 ?c5 ?_)
        first | (case c1 => exact hnc) | skip
        first | (case c2 => exact nodesV_one _) | skip
        first | (case c3 => unfold maxLen; omega) | skip
        first | (case c4 => omega) | skip
        first | (case c5 => have := hB2.size; simp; try omega) | skip
        intro v' w3 hown3 hgrow3 hnil3 hat3
        have hv3 : v'.ownBlock ≠ some g1 := by
          rcases hat3 with h | h
          · rw [h]; exact hvn
          · rw [h]; simp; omega
        have HV3 : Hid (w3.ownsRow w.heap.size 77 4 v' (k + 1) (nodesV ((ws.map readN).take (k + 1))) ∧ v'.ownBlock ≠ some g1) := by
          exact (⟨by rw [HST.out, nodesV_append]; exact hown3, hv3⟩ : w3.ownsRow w.heap.size 77 4 v' (k + 1) (nodesV ((ws.map readN).take (k + 1))) ∧ v'.ownBlock ≠ some g1)
        have HS3 : Hid (w3.ownsRow (w.heap.size + 1) 9 1 (.slice (some ⟨g1, 0, none⟩) ws.length cp1) ws.length (strV ws)) := (hS2.alloc _).kept hgrow3 (.inr (fun e => hvn e.symm))
        have hb3 : Below w.heap.size w w3 := (hB2.alloc hB2.size _).grown hgrow3 (by have := hB2.size; simp; omega) (fun q e => (hV2.lt q e).1)
        clear hown3 hgrow3 hnil3 hat3 hV2 hS2 hB2 hv3 hvn hnc
        go_wp2
        go_roundw
        case rel => exact ⟨k + 1, by omega, by go_num, HV3, HS3, hb3⟩
        case measure => simp [intOf]; omega
      · obtain rfl : k = ws.length := by omega
        have hV := HV.out.1
        rw [List.take_of_length_le (by rw [List.length_map]; exact Nat.le_refl _)] at hV
        obtain ⟨_, av, cv, rfl, hin⟩ := own_nodes hV
        have HT : Hid (_) := specTreeOk av ws.length cv (ws.map readN) wr hin HSh.out (by omega)
        have HIn : Hid (NodesIn wr av ws.length (ws.map readN)) := hin
        have HVV : Hid (wr.ownsRow w.heap.size 77 4 (.slice av ws.length cv) ws.length (nodesV (ws.map readN))) := hV
        clear hV hin HV HS1
        have hok : readOk s = (treeB (ws.map readN) && (showL (ws.map readN) == s)) := by unfold readOk; rw [HRd.out, decide_eq_true (by omega)]; rfl
        rcases ht : treeB (ws.map readN) with _ | _
        · have HTB : Hid (treeB (ws.map readN) = false) := ht
          have HR : Hid (readOk s = false ∧ readTV s = []) := by
            have h1 : readOk s = false := by rw [hok, ht]; rfl
            exact ⟨h1, by unfold readTV; rw [if_neg (by rw [h1]; simp)]⟩
          clear ht hok
          go_wp2_with fail
          refine Calls.mono HT.out ?_
          rintro e w4 ⟨rfl, hb4⟩
          rw [HTB.out]
          have hB4 := hb.trans (hb4.mono hb.size)
          have hownE := (World.ownsRow_lit (base := w.heap.size) (e := 77) (size := 4) w4 #[] 0 hB4.size (by decide) rfl)
          clear hb4 hb
          go_wp2
          go_ret2
          exact ⟨_, by rw [HR.out.1]; rfl, by rw [HR.out.2]; exact hownE, hB4.alloc hB4.size _⟩
        · have HTB : Hid (treeB (ws.map readN) = true) := ht
          have hn := tree_nodes ht
          have h60 := (tree_end ht).1.2
          rw [List.length_map] at h60
          rw [ht, Bool.true_and] at hok
          clear ht
          rcases he : (showL (ws.map readN) == s) with _ | _
          · have HR : Hid (readOk s = false ∧ readTV s = []) := by
              have h1 : readOk s = false := by rw [hok, he]
              exact ⟨h1, by unfold readTV; rw [if_neg (by rw [h1]; simp)]⟩
            obtain ⟨S, hS⟩ : ∃ S, showL (ws.map readN) = S := ⟨_, rfl⟩
            rw [hS] at he
            have HS : Hid (showL (ws.map readN) = S) := hS
            have hne : (S != s) = true := by rw [bne, he]; rfl
            clear hok hS
            go_wp2_with fail
            refine Calls.mono HT.out ?_
            rintro e w4 ⟨rfl, hb4⟩
            rw [HTB.out]
            have hB4 := hb.trans (hb4.mono hb.size)
            go_wp2_with fail
            refine (specShowL av ws.length cv (ws.map readN) _ (HIn.out.below hb4) hn h60).mono ?_
            rintro e w5 ⟨rfl, hb5⟩
            rw [HS.out]
            have hB5 := hB4.trans (hb5.mono hB4.size)
            have hownE := (World.ownsRow_lit (base := w.heap.size) (e := 77) (size := 4) w5 #[] 0 hB5.size (by decide) rfl)
            clear hb4 hb hb5 hB4
            go_wp2
            go_ret2
            exact ⟨_, by rw [HR.out.1]; rfl, by rw [HR.out.2]; exact hownE, hB5.alloc hB5.size _⟩
          · have HR : Hid (readOk s = true ∧ readTV s = ws.map readN) := by
              have h1 : readOk s = true := by rw [hok, he]
              exact ⟨h1, by unfold readTV; rw [if_pos h1, HRd.out]⟩
            obtain ⟨S, hS⟩ : ∃ S, showL (ws.map readN) = S := ⟨_, rfl⟩
            rw [hS] at he
            have HS : Hid (showL (ws.map readN) = S) := hS
            have hne : (S != s) = false := by rw [bne, he]; rfl
            clear hok hS
            go_wp2_with fail
            refine Calls.mono HT.out ?_
            rintro e w4 ⟨rfl, hb4⟩
            rw [HTB.out]
            have hB4 := hb.trans (hb4.mono hb.size)
            go_wp2_with fail
            refine (specShowL av ws.length cv (ws.map readN) _ (HIn.out.below hb4) hn h60).mono ?_
            rintro e w5 ⟨rfl, hb5⟩
            rw [HS.out]
            have hB5 := hB4.trans (hb5.mono hB4.size)
            have hV5 := own_below (own_below HVV.out hb4) hb5
            clear hb4 hb hb5 hB4
            go_wp2
            go_ret2
            exact ⟨_, by rw [HR.out.1]; rfl, by rw [HR.out.2, List.length_map]; exact hV5, hB5⟩

end Go.Proofs.YtnhkpncbloojhaaGreatDoor

/-! Texts and trees are copied: l1Texts; rows as 'append' reads them. -/
namespace Go.Proofs.YtnhkpncbloojhaaGreatDoor
open Go.RowKit


theorem TextsIn.src {w : World} {a : Option Addr} {len cap : Nat} {ts : List (List UInt8)} (h : TextsIn w a len ts) (hc : a = none → cap = 0) : Src w (.slice a len cap) len 1 (strV ts) := by
  have hl : (strV ts).length = len := by simp [strV, h.1]
  refine ⟨by rw [hl]; omega, fun u hu => ?_, ?_⟩
  · simp only [strV, List.mem_map] at hu
    obtain ⟨x, _, rfl⟩ := hu
    rfl
  rcases a with _ | ad
  · have h0 : len = 0 := by
      rcases Nat.eq_zero_or_pos len with h' | h'
      · exact h'
      · obtain ⟨b, off, e, _⟩ := h.2 0 h'
        cases e
    exact Or.inl ⟨by rw [h0, hc rfl], h0⟩
  · refine Or.inr ⟨ad, cap, rfl, fun j u hu => ?_⟩
    have hj : j < (strV ts).length := by
      rcases Nat.lt_or_ge j (strV ts).length with h' | h'
      · exact h'
      · rw [List.getElem?_eq_none h'] at hu; cases hu
    rw [hl] at hj
    obtain ⟨b, off, e, _, c0⟩ := h.2 j hj
    injection e with e
    subst e
    rw [add_plain, c0]
    rw [strV_at ts j (by rw [h.1]; exact hj)] at hu
    rw [← hu, List.getD_eq_getElem?_getD, List.getElem?_eq_getElem (by rw [h.1]; exact hj)]
    rfl

theorem NodesIn.src {w : World} {a : Option Addr} {len cap : Nat} {ns : List Nd} (h : NodesIn w a len ns) (hc : a = none → cap = 0) : Src w (.slice a len cap) len 4 (nodesV ns) := by
  refine ⟨by rw [nodesV_len, h.1], nodesV_one ns, ?_⟩
  rcases a with _ | ad
  · have h0 : len = 0 := by
      rcases Nat.eq_zero_or_pos len with h' | h'
      · exact h'
      · obtain ⟨b, off, e, _⟩ := h.2 0 h'
        cases e
    exact Or.inl ⟨by rw [h0, hc rfl], h0⟩
  · refine Or.inr ⟨ad, cap, rfl, fun j u hu => ?_⟩
    have hj : j < (nodesV ns).length := by
      rcases Nat.lt_or_ge j (nodesV ns).length with h' | h'
      · exact h'
      · rw [List.getElem?_eq_none h'] at hu; cases hu
    rw [nodesV_len, h.1] at hj
    obtain ⟨b, off, e, _, c0, c1, c2, c3⟩ := h.2 (j / 4) (by omega)
    injection e with e
    subst e
    obtain ⟨v0, v1, v2, v3⟩ := nodesV_at ns (j / 4) (by rw [h.1]; omega)
    rw [add_plain]
    rcases (show j % 4 = 0 ∨ j % 4 = 1 ∨ j % 4 = 2 ∨ j % 4 = 3 by omega) with h' | h' | h' | h'
    · rw [show j / 4 * 4 = j by omega] at v0 c0
      rw [hu] at v0
      rw [c0, v0]
    · rw [show j / 4 * 4 + 1 = j by omega] at v1
      rw [hu] at v1
      rw [show off + j = off + j / 4 * 4 + 1 by omega, c1, v1]
    · rw [show j / 4 * 4 + 2 = j by omega] at v2
      rw [hu] at v2
      rw [show off + j = off + j / 4 * 4 + 2 by omega, c2, v2]
    · rw [show j / 4 * 4 + 3 = j by omega] at v3
      rw [hu] at v3
      rw [show off + j = off + j / 4 * 4 + 3 by omega, c3, v3]

set_option maxHeartbeats 1000000 in
set_option maxRecDepth 100000 in
theorem specTexts (a : Option Addr) (len cap : Nat) (ts : List (List UInt8)) (w : World) (hin : TextsIn w a len ts) (hc : a = none → cap = 0) (hlen : len ≤ 1048576) :
    Calls Tryz.prog 64 #[.slice a len cap] w fun e w' => ∃ v, e = .returned v ∧ w'.ownsRow w.heap.size 9 1 v ts.length (strV ts) ∧ Below w.heap.size w w' := by
  obtain rfl : ts.length = len := hin.1
  obtain ⟨i0, hi, hz0, hz1, hz2⟩ := info_parts info9
  have hbA : Below w.heap.size w (w.alloc (.cells #[] 9)) := (Below.refl _ _).alloc (Nat.le_refl _) _
  have hown0 := (World.ownsRow_lit (base := w.heap.size) (e := 9) (size := 1) w #[] 0 (Nat.le_refl _) (by decide) rfl)
  obtain ⟨v', w', hrun, hown', hg, _⟩ := run_append_src (P := Tryz.prog) (w.alloc (.cells #[] 9)) w.heap.size 24 24 9 i0 _ 1 16 Tryz.underlying24 hi hz0 hz1 hz2 rfl (by decide) _ _ _ hown0 (.slice a ts.length cap) ts.length (strV ts) ((hin.below hbA).src hc) (by unfold maxLen; omega) (by omega) (by simp)
  have hb : Below w.heap.size w w' := hbA.grown hg hbA.size (fun q e => by simp [Value.ownBlock] at e; omega)
  have HO : Hid (w'.ownsRow w.heap.size 9 1 v' ts.length (strV ts)) := by
    simp only [Nat.zero_add] at hown'
    exact (by simpa using hown' : w'.ownsRow w.heap.size 9 1 v' ts.length (strV ts))
  clear hown' hg hown0 hbA hin
  go_enter Tryz.func64, Tryz.ntmps64
  go_wp2_with (at_builtin; refine wpList_append_run rfl (.tmp 3) (.tmp 4) 24 rfl _ _ _ rfl rfl hrun ?_; clear hrun)
  go_ret
  exact ⟨v', rfl, HO.out, hb⟩

end Go.Proofs.YtnhkpncbloojhaaGreatDoor

/-! The laws' own helpers over nodes and rows of nodes: szNode, szNodeS, toNode, toNodeS, eqNode, eqNodeS. -/
namespace Go.Proofs.YtnhkpncbloojhaaGreatDoor
open Go.RowKit

/-- How many bytes the texts of nodes have in all. -/
def textsN : List Nd → Nat
  | [] => 0
  | n :: r => n.2.2.1.length + n.2.2.2.length + textsN r
theorem textsN_append (x y : List Nd) : textsN (x ++ y) = textsN x + textsN y := by
  induction x with
  | nil => simp [textsN]
  | cons n r ih => simp only [List.cons_append, textsN, ih]; omega
theorem textsN_snoc (ns : List Nd) (k : Nat) (hk : k < ns.length) : textsN (ns.take (k + 1)) = textsN (ns.take k) + ((ns.getD k nd0).2.2.1.length + (ns.getD k nd0).2.2.2.length) := by
  have hg : ns.getD k nd0 = ns[k] := by simp [List.getD, hk]
  rw [hg, List.take_succ_eq_append_getElem hk, textsN_append]
  simp [textsN]
theorem textsN_take (ns : List Nd) (k : Nat) : textsN (ns.take k) ≤ textsN ns := by
  have := textsN_append (ns.take k) (ns.drop k)
  rw [List.take_append_drop] at this
  omega
theorem textsN_at (ns : List Nd) (j : Nat) : (ns.getD j nd0).2.2.1.length + (ns.getD j nd0).2.2.2.length ≤ textsN ns := by
  by_cases hj : j < ns.length
  · have h1 := textsN_snoc ns j hj
    have h2 := textsN_take ns (j + 1)
    omega
  · have : ns.getD j nd0 = nd0 := by rw [List.getD, List.getElem?_eq_none (by omega)]; rfl
    rw [this]; simp [nd0]
theorem short_of {ns : List Nd} (h : textsN ns ≤ 1048576) : ShortT ns := fun j => by have := textsN_at ns j; omega

def szN (m n : Nat) (left : Int) : Int := if (m : Int) + (n : Int) ≤ left then left - (m : Int) - (n : Int) else -1
theorem szN_yes {m n : Nat} {left : Int} (h : (m : Int) + (n : Int) ≤ left) : szN m n left = left - (m : Int) - (n : Int) := by unfold szN; rw [if_pos h]
theorem szN_no {m n : Nat} {left : Int} (h : ¬ (m : Int) + (n : Int) ≤ left) : szN m n left = -1 := by unfold szN; rw [if_neg h]

/-- A node's numbers are numbers of 64 bits. -/
def IntN (n : Nd) : Prop := (-9223372036854775808 ≤ n.1 ∧ n.1 ≤ 9223372036854775807) ∧ (-9223372036854775808 ≤ n.2.1 ∧ n.2.1 ≤ 9223372036854775807)
def IntT (ns : List Nd) : Prop := ∀ j, IntN (ns.getD j nd0)
theorem intN_nd0 : IntN nd0 := by unfold IntN nd0; decide
theorem IntT.nil : IntT [] := fun j => by rw [show ([] : List Nd).getD j nd0 = nd0 by simp]; exact intN_nd0
def LongT (ns : List Nd) : Prop := ∀ j, (ns.getD j nd0).2.2.1.length ≤ maxLen ∧ (ns.getD j nd0).2.2.2.length ≤ maxLen




theorem nodesV_set (ns : List Nd) (j : Nat) (k a : Int) (p f : List UInt8) : ((((nodesV ns).set (j * 4) (.int .i64 k)).set (j * 4 + 1) (.int .i64 a)).set (j * 4 + 2) (.string ⟨p.toArray⟩)).set (j * 4 + 3) (.string ⟨f.toArray⟩) = nodesV (ns.set j (k, a, p, f)) := by
  induction ns generalizing j with
  | nil => simp [nodesV]
  | cons b r ih =>
    cases j with
    | zero => simp [nodesV]
    | succ j => rw [show (j + 1) * 4 = j * 4 + 1 + 1 + 1 + 1 by omega]; simp [nodesV, ih]

theorem made_nodes (n : Nat) : (madeCells (Value.agg #[.int .i64 0, .int .i64 0, .string ⟨#[]⟩, .string ⟨#[]⟩]).cells (n * 4)).toList = nodesV (List.replicate n nd0) := by
  have hc : (Value.agg #[.int .i64 0, .int .i64 0, .string ⟨#[]⟩, .string ⟨#[]⟩]).cells = #[.int .i64 0, .int .i64 0, .string ⟨#[]⟩, .string ⟨#[]⟩] := rfl
  rw [hc]
  apply List.ext_getElem?
  intro j
  by_cases hj : j < n * 4
  · obtain ⟨v0, v1, v2, v3⟩ := nodesV_at (List.replicate n nd0) (j / 4) (by simp; omega)
    have hg : (List.replicate n nd0).getD (j / 4) nd0 = nd0 := by simp [List.getD, List.getElem?_replicate]; split <;> rfl
    rw [hg] at v0 v1 v2 v3
    have h4 : j % 4 = 0 ∨ j % 4 = 1 ∨ j % 4 = 2 ∨ j % 4 = 3 := by omega
    rcases h4 with h' | h' | h' | h'
    · have ej : j = j / 4 * 4 := by omega
      rw [← ej] at v0
      rw [v0]
      simp [madeCells, hj, h', nd0]
    · have ej : j = j / 4 * 4 + 1 := by omega
      rw [← ej] at v1
      rw [v1]
      simp [madeCells, hj, h', nd0]
    · have ej : j = j / 4 * 4 + 2 := by omega
      rw [← ej] at v2
      rw [v2]
      simp [madeCells, hj, h', nd0]
    · have ej : j = j / 4 * 4 + 3 := by omega
      rw [← ej] at v3
      rw [v3]
      simp [madeCells, hj, h', nd0]
  · rw [List.getElem?_eq_none (by simp [madeCells]; omega), List.getElem?_eq_none (by rw [nodesV_len]; simp; omega)]

theorem fill_node (ns : List Nd) (k : Nat) (hk : k < ns.length) : (ns.take k ++ List.replicate (ns.length - k) nd0).set k (ns.getD k nd0) = ns.take (k + 1) ++ List.replicate (ns.length - (k + 1)) nd0 := by
  have hg : ns.getD k nd0 = ns[k] := by simp [List.getD, hk]
  rw [hg, List.set_append_right _ _ (by rw [List.length_take]; omega), List.length_take, Nat.min_eq_left (by omega), Nat.sub_self, show ns.length - k = (ns.length - (k + 1)) + 1 by omega, List.replicate_succ, List.set_cons_zero, List.take_succ_eq_append_getElem hk, List.append_assoc]
  rfl


set_option maxHeartbeats 400000 in
set_option maxRecDepth 100000 in
theorem eqNodeC (k a : Int) (p f : List UInt8) (w : World) :
    Calls Tryz.prog 117 #[.agg #[.int .i64 k, .int .i64 a, .string ⟨p.toArray⟩, .string ⟨f.toArray⟩], .agg #[.int .i64 k, .int .i64 a, .string ⟨p.toArray⟩, .string ⟨f.toArray⟩]] w fun e w' => e = .returned (.bool true) ∧ Below w.heap.size w w' := by
  have h1 : ∀ n : Int, (n != n) = false := by simp
  have h2 : ∀ l : List UInt8, (l != l) = false := by simp
  go_enter Tryz.func117, Tryz.ntmps117
  go_wp2
  go_ret
  exact ⟨rfl, ((Below.refl _ w).alloc (Nat.le_refl _) _).alloc (by simp) _⟩

set_option maxHeartbeats 2000000 in
set_option maxRecDepth 100000 in
theorem eqNodeSC (a b : Option Addr) (len ca cb : Nat) (ns : List Nd) (w : World) (ha : NodesIn w a len ns) (hb : NodesIn w b len ns) (hlen : len ≤ 4194304) :
    Calls Tryz.prog 100 #[.slice a len ca, .slice b len cb] w fun e w' => e = .returned (.bool true) ∧ Below w.heap.size w w' := by
  have hlb := ha.1
  have HA : Hid (NodesIn w a len ns) := ha
  have HB : Hid (NodesIn w b len ns) := hb
  clear ha hb
  have h1 : ((len : Int) != (len : Int)) = false := by simp
  go_enter Tryz.func100, Tryz.ntmps100
  go_wp2
  go_loopw [5] (fun i wr => ∃ k : Nat, k ≤ len ∧ i = .int .i64 k ∧ Below w.heap.size w wr) (fun i _ => len - (intOf i).toNat)
  case atStart => exact ⟨0, Nat.zero_le _, rfl, Below.refl _ _⟩
  case round =>
    obtain ⟨k, hk, rfl, hB⟩ := hrel
    by_cases hkl : (k : Int) < (len : Int)
    · obtain ⟨b1, o1, rfl, hb1, hc1⟩ := (HA.out.below hB).at (by omega)
      obtain ⟨b2, o2, rfl, hb2, hc2⟩ := (HB.out.below hB).at (by omega)
      obtain ⟨x0, x1, x2, x3⟩ := hc1 k (by omega)
      obtain ⟨y0, y1, y2, y3⟩ := hc2 k (by omega)
      obtain ⟨x, hx⟩ : ∃ x, ns.getD k nd0 = x := ⟨_, rfl⟩
      rw [hx] at x0 x1 x2 x3 y0 y1 y2 y3
      obtain ⟨kd, aa, p, f⟩ := x
      simp only at x0 x1 x2 x3 y0 y1 y2 y3
      clear hx hc1 hc2
      go_wp2
      go_region_held3 (fun w' => w'.cell? ⟨b1, o1 + k * 4, none⟩ = some (.int .i64 kd) ∧ w'.cell? ⟨b1, o1 + k * 4 + 1, none⟩ = some (.int .i64 aa) ∧ w'.cell? ⟨b1, o1 + k * 4 + 2, none⟩ = some (.string ⟨p.toArray⟩) ∧ w'.cell? ⟨b1, o1 + k * 4 + 3, none⟩ = some (.string ⟨f.toArray⟩) ∧ w'.cell? ⟨b2, o2 + k * 4, none⟩ = some (.int .i64 kd) ∧ w'.cell? ⟨b2, o2 + k * 4 + 1, none⟩ = some (.int .i64 aa) ∧ w'.cell? ⟨b2, o2 + k * 4 + 2, none⟩ = some (.string ⟨p.toArray⟩) ∧ w'.cell? ⟨b2, o2 + k * 4 + 3, none⟩ = some (.string ⟨f.toArray⟩)) (go_keep) (first | (go_at_call 117; refine (eqNodeC kd aa p f _).mono ?_; rintro e w1 ⟨rfl, hw1⟩; have d0 : w1.cell? ⟨b1, o1 + k * 4, none⟩ = some (.int .i64 kd) := (hw1.cell (p := ⟨b1, o1 + k * 4, none⟩) hb1).trans x0; have d1 : w1.cell? ⟨b1, o1 + k * 4 + 1, none⟩ = some (.int .i64 aa) := (hw1.cell (p := ⟨b1, o1 + k * 4 + 1, none⟩) hb1).trans x1; have d2 : w1.cell? ⟨b1, o1 + k * 4 + 2, none⟩ = some (.string ⟨p.toArray⟩) := (hw1.cell (p := ⟨b1, o1 + k * 4 + 2, none⟩) hb1).trans x2; have d3 : w1.cell? ⟨b1, o1 + k * 4 + 3, none⟩ = some (.string ⟨f.toArray⟩) := (hw1.cell (p := ⟨b1, o1 + k * 4 + 3, none⟩) hb1).trans x3; have e0 : w1.cell? ⟨b2, o2 + k * 4, none⟩ = some (.int .i64 kd) := (hw1.cell (p := ⟨b2, o2 + k * 4, none⟩) hb2).trans y0; have e1 : w1.cell? ⟨b2, o2 + k * 4 + 1, none⟩ = some (.int .i64 aa) := (hw1.cell (p := ⟨b2, o2 + k * 4 + 1, none⟩) hb2).trans y1; have e2 : w1.cell? ⟨b2, o2 + k * 4 + 2, none⟩ = some (.string ⟨p.toArray⟩) := (hw1.cell (p := ⟨b2, o2 + k * 4 + 2, none⟩) hb2).trans y2; have e3 : w1.cell? ⟨b2, o2 + k * 4 + 3, none⟩ = some (.string ⟨f.toArray⟩) := (hw1.cell (p := ⟨b2, o2 + k * 4 + 3, none⟩) hb2).trans y3))
      all_goals go_wp2
      go_roundw
      case rel => exact ⟨k + 1, by omega, by go_num, hB.trans ⟨hw1.os, hw1.tape, hw1.output, hw1.size, fun q hq => hw1.block q (by have := hB.size; show q < wr.heap.size; omega)⟩⟩
      case measure => simp [intOf]; omega
    · go_wp2
      go_ret
      exact ⟨rfl, hB⟩

end Go.Proofs.YtnhkpncbloojhaaGreatDoor

/-! A function is copied: l7CopyFunc. -/
namespace Go.Proofs.YtnhkpncbloojhaaGreatDoor
open Go.RowKit

set_option maxHeartbeats 2000000 in
set_option maxRecDepth 100000 in
theorem specCopyFunc (f : Fn) (ta : Option Addr) (tl tc : Nat) (w : World) (hin : NodesIn w ta tl f.2.2) (hc : ta = none → tc = 0) (hlen : tl ≤ 1048576) :
    Calls Tryz.prog 50 #[.agg #[.string ⟨f.1.toArray⟩, .int .i64 f.2.1, .slice ta tl tc]] w fun e w' => ∃ v, e = .returned (.agg #[.string ⟨f.1.toArray⟩, .int .i64 f.2.1, v]) ∧ w'.ownsRow w.heap.size 77 4 v f.2.2.length (nodesV f.2.2) ∧ Below w.heap.size w w' := by
  obtain ⟨s, n, t⟩ := f
  simp only at hin ⊢
  obtain rfl : t.length = tl := hin.1
  obtain ⟨i0, hi, hz0, hz1, hz2⟩ := info_parts infoNode
  obtain ⟨W1, hW1⟩ : ∃ W, w.alloc (.cells #[.string ⟨s.toArray⟩, .int .i64 n, .slice ta t.length tc] 37) = W := ⟨_, rfl⟩
  obtain ⟨W2, hW2⟩ : ∃ W, W1.alloc (.cells #[.string ⟨#[]⟩, .int .i64 0, .slice none 0 0] 37) = W := ⟨_, rfl⟩
  have hs1 : W1.heap.size = w.heap.size + 1 := by rw [← hW1]; simp
  have hs2 : W2.heap.size = w.heap.size + 2 := by rw [← hW2]; simp [hs1]
  have hb1 : Below w.heap.size w W1 := by rw [← hW1]; exact (Below.refl _ _).alloc (Nat.le_refl _) _
  have hb2 : Below w.heap.size w W2 := by rw [← hW2]; exact hb1.alloc hb1.size _
  have hA1 : W1.heap[w.heap.size]? = some (.cells #[.string ⟨s.toArray⟩, .int .i64 n, .slice ta t.length tc] 37) := by rw [← hW1]; exact heap_alloc_new w _
  have hA1' : W2.heap[w.heap.size]? = some (.cells #[.string ⟨s.toArray⟩, .int .i64 n, .slice ta t.length tc] 37) := by rw [← hW2, Below.heap_alloc _ _ _ (by omega)]; exact hA1
  have hA2 : W2.heap[w.heap.size + 1]? = some (.cells #[.string ⟨#[]⟩, .int .i64 0, .slice none 0 0] 37) := by rw [← hs1, ← hW2]; exact heap_alloc_new W1 _
  have hbA : Below W2.heap.size W2 (W2.alloc (.cells #[] 77)) := (Below.refl _ _).alloc (Nat.le_refl _) _
  have hown0 := (World.ownsRow_lit (base := W2.heap.size) (e := 77) (size := 4) W2 #[] 0 (Nat.le_refl _) (by decide) rfl)
  obtain ⟨v', w4, hrun, hown', hg, _⟩ := run_append_src (P := Tryz.prog) (W2.alloc (.cells #[] 77)) W2.heap.size 35 35 77 i0 _ 4 48 Tryz.underlying35 hi hz0 hz1 hz2 rfl (by decide) _ _ _ hown0 (.slice ta t.length tc) t.length (nodesV t) (((hin.below hb2).below hbA).src hc) (by unfold maxLen; omega) (by omega) (by simp)
  have hown4 : w4.ownsRow W2.heap.size 77 4 v' t.length (nodesV t) := by
    simp only [Nat.zero_add] at hown'
    simpa using hown'
  have hb4 : Below W2.heap.size W2 w4 := hbA.grown hg hbA.size (fun q e => by simp [Value.ownBlock] at e; omega)
  have hk1 : w4.heap[w.heap.size]? = some (.cells #[.string ⟨s.toArray⟩, .int .i64 n, .slice ta t.length tc] 37) := (hb4.block _ (by omega)).trans hA1'
  have hk2 : w4.heap[w.heap.size + 1]? = some (.cells #[.string ⟨#[]⟩, .int .i64 0, .slice none 0 0] 37) := (hb4.block _ (by omega)).trans hA2
  obtain ⟨_, a', c', rfl, _⟩ := own_nodes hown4
  have c2 : W2.cell? ⟨w.heap.size, 2, none⟩ = some (.slice ta t.length tc) := by simp [World.cell?, hA1']
  have c2a : (W2.alloc (.cells #[] 77)).cell? ⟨w.heap.size, 2, none⟩ = some (.slice ta t.length tc) := (hbA.cell (p := ⟨w.heap.size, 2, none⟩) (by show w.heap.size < _; omega)).trans c2
  have k0 : w4.cell? ⟨w.heap.size, 0, none⟩ = some (.string ⟨s.toArray⟩) := by simp [World.cell?, hk1]
  have k1 : w4.cell? ⟨w.heap.size, 1, none⟩ = some (.int .i64 n) := by simp [World.cell?, hk1]
  have k2 : w4.cell? ⟨w.heap.size, 2, none⟩ = some (.slice ta t.length tc) := by simp [World.cell?, hk1]
  have f2 : w4.frozen? ⟨w.heap.size, 2, none⟩ = false := by simp [World.frozen?, hk1]
  have r0 : w4.cell? ⟨w.heap.size + 1, 0, none⟩ = some (.string ⟨#[]⟩) := by simp [World.cell?, hk2]
  have r1 : w4.cell? ⟨w.heap.size + 1, 1, none⟩ = some (.int .i64 0) := by simp [World.cell?, hk2]
  have r2 : w4.cell? ⟨w.heap.size + 1, 2, none⟩ = some (.slice none 0 0) := by simp [World.cell?, hk2]
  have g : ∀ j, w4.frozen? ⟨w.heap.size + 1, j, none⟩ = false := fun j => by simp [World.frozen?, hk2]
  obtain ⟨V, hV⟩ : ∃ V, w4.setCell ⟨w.heap.size, 2, none⟩ (.slice a' t.length c') = V := ⟨_, rfl⟩
  have k0V : V.cell? ⟨w.heap.size, 0, none⟩ = some (.string ⟨s.toArray⟩) := by rw [← hV]; exact (World.cell?_setCell_other _ _ _ _ (by simp)).trans k0
  have k1V : V.cell? ⟨w.heap.size, 1, none⟩ = some (.int .i64 n) := by rw [← hV]; exact (World.cell?_setCell_other _ _ _ _ (by simp)).trans k1
  have k2V : V.cell? ⟨w.heap.size, 2, none⟩ = some (.slice a' t.length c') := by rw [← hV]; exact World.cell?_setCell_same _ _ _ k2
  have r0V : V.cell? ⟨w.heap.size + 1, 0, none⟩ = some (.string ⟨#[]⟩) := by rw [← hV]; exact (World.cell?_setCell_other _ _ _ _ (by simp)).trans r0
  have r1V : V.cell? ⟨w.heap.size + 1, 1, none⟩ = some (.int .i64 0) := by rw [← hV]; exact (World.cell?_setCell_other _ _ _ _ (by simp)).trans r1
  have r2V : V.cell? ⟨w.heap.size + 1, 2, none⟩ = some (.slice none 0 0) := by rw [← hV]; exact (World.cell?_setCell_other _ _ _ _ (by simp)).trans r2
  have gV : ∀ j, V.frozen? ⟨w.heap.size + 1, j, none⟩ = false := fun j => by rw [← hV]; simpa using g j
  have gV0 := gV 0
  have gV1 := gV 1
  have gV2 := gV 2
  have hgV : w4.grownBy V (some w.heap.size) := by rw [← hV]; exact grown_setCell _ _ _ _
  have hownV : V.ownsRow W2.heap.size 77 4 (.slice a' t.length c') t.length (nodesV t) := hown4.kept hgV (by
    rcases hv : (Value.slice a' t.length c').ownBlock with _ | q
    · exact Or.inl rfl
    · refine Or.inr (fun e => ?_)
      have := (hown4.lt q hv).1
      injection e with e
      omega)
  have hbV : Below w.heap.size w V := (hb2.trans (hb4.mono hb2.size)).grown hgV (by have := hb4.size; omega) (by simp)
  have HOV : Hid (V.ownsRow W2.heap.size 77 4 (.slice a' t.length c') t.length (nodesV t)) := hownV
  have HB : Hid (Below w.heap.size w V) := hbV
  clear hown' hown4 hg hown0 hbA hin hA1 hA1' hA2 hk1 hk2 hb1 hb2 hb4 k0 k1 r0 r1 r2 g gV hgV hownV hbV
  go_enter Tryz.func50, Tryz.ntmps50
  rw [hs2] at hrun
  go_wp2_with (at_builtin; refine wpList_append_run rfl (.tmp 3) (.tmp 5) 35 rfl _ _ _ rfl rfl hrun ?_; clear hrun)
  obtain ⟨Y, hY⟩ : ∃ Y, ((V.setCell ⟨w.heap.size + 1, 0, none⟩ (.string ⟨s.toArray⟩)).setCell ⟨w.heap.size + 1, 1, none⟩ (.int .i64 n)).setCell ⟨w.heap.size + 1, 2, none⟩ (.slice a' t.length c') = Y := ⟨_, rfl⟩
  have hgY : V.grownBy Y (some (w.heap.size + 1)) := by rw [← hY]; exact ((grown_setCell _ _ _ _).trans (grown_setCell _ _ _ _)).trans (grown_setCell _ _ _ _)
  have y0 : Y.cell? ⟨w.heap.size + 1, 0, none⟩ = some (.string ⟨s.toArray⟩) := by rw [← hY]; exact (World.cell?_setCell_other _ _ _ _ (by simp)).trans ((World.cell?_setCell_other _ _ _ _ (by simp)).trans (World.cell?_setCell_same _ _ _ r0V))
  have y1 : Y.cell? ⟨w.heap.size + 1, 1, none⟩ = some (.int .i64 n) := by rw [← hY]; exact (World.cell?_setCell_other _ _ _ _ (by simp)).trans (World.cell?_setCell_same _ _ _ ((World.cell?_setCell_other _ _ _ _ (by simp)).trans r1V))
  have y2 : Y.cell? ⟨w.heap.size + 1, 2, none⟩ = some (.slice a' t.length c') := by rw [← hY]; exact World.cell?_setCell_same _ _ _ ((World.cell?_setCell_other _ _ _ _ (by simp)).trans ((World.cell?_setCell_other _ _ _ _ (by simp)).trans r2V))
  have hownY : Y.ownsRow W2.heap.size 77 4 (.slice a' t.length c') t.length (nodesV t) := HOV.out.kept hgY (by
    rcases hv : (Value.slice a' t.length c').ownBlock with _ | q
    · exact Or.inl rfl
    · refine Or.inr (fun e => ?_)
      have := (HOV.out.lt q hv).1
      injection e with e
      omega)
  rw [hY]
  refine bodyPost_ret (v := .agg #[.string ⟨s.toArray⟩, .int .i64 n, .slice a' t.length c']) (by simp [results, Tryz.results50, go_sem, y0, y1, y2]) rfl ?_
  exact ⟨_, rfl, own_base hownY (by omega), HB.out.grown hgY HB.out.size (by simp)⟩

end Go.Proofs.YtnhkpncbloojhaaGreatDoor
