/-
  Parts of one proof, one behind the other: TreeS5, NodeL, Draw3, DrawW, DrawT, Bend1.
-/
import Derived.Test.YtibppdepgoiojaaGreatDoorP5
import Derived.Test.YtibppdepgoiojaaGreatDoorP4
import Derived.Deep.RegionWith
import Derived.Test.YtibppdepgoiojaaGreatDoorP1
import Derived.Test.YtibppdepgoiojaaGreatDoorP2
import Derived.Deep.RegionHeld3
import Derived.Deep.RegionLaw

/-! The contract of chapter 6's specification: ReadTree. -/
namespace Go.Proofs.YtibppdepgoiojaaGreatDoor
open Go.RowKit

/-- What a row of nodes holds. -/
def nodesV : List Nd → List Value
  | [] => []
  | n :: r => .int .i64 n.1 :: .int .i64 n.2.1 :: .string ⟨n.2.2.1.toArray⟩ :: .string ⟨n.2.2.2.toArray⟩ :: nodesV r

theorem nodesV_len (ns : List Nd) : (nodesV ns).length = ns.length * 4 := by
  induction ns with
  | nil => rfl
  | cons n r ih => simp only [nodesV, List.length_cons, ih]; omega

theorem nodesV_append (x y : List Nd) : nodesV (x ++ y) = nodesV x ++ nodesV y := by
  induction x with
  | nil => rfl
  | cons n r ih => simp only [List.cons_append, nodesV, ih]

theorem nodesV_one (ns : List Nd) : ∀ u ∈ nodesV ns, u.oneCell' = true := by
  induction ns with
  | nil => intro u hu; cases hu
  | cons n r ih =>
    intro u hu
    simp only [nodesV, List.mem_cons] at hu
    rcases hu with rfl | rfl | rfl | rfl | h
    · rfl
    · rfl
    · rfl
    · rfl
    · exact ih u h

theorem nodesV_at (ns : List Nd) (j : Nat) (hj : j < ns.length) : (nodesV ns)[j * 4]? = some (.int .i64 (ns.getD j nd0).1) ∧ (nodesV ns)[j * 4 + 1]? = some (.int .i64 (ns.getD j nd0).2.1) ∧ (nodesV ns)[j * 4 + 2]? = some (.string ⟨(ns.getD j nd0).2.2.1.toArray⟩) ∧ (nodesV ns)[j * 4 + 3]? = some (.string ⟨(ns.getD j nd0).2.2.2.toArray⟩) := by
  induction ns generalizing j with
  | nil => simp at hj
  | cons n r ih =>
    cases j with
    | zero => simp [nodesV]
    | succ j =>
      have h := ih j (by simpa using hj)
      rw [show (j + 1) * 4 = j * 4 + 1 + 1 + 1 + 1 by omega]
      simpa [nodesV] using h

/-- A row of nodes that a call owns is a list of nodes. -/
theorem own_nodes {w : World} {base n : Nat} {v : Value} {ns : List Nd} (h : w.ownsRow base 76 4 v n (nodesV ns)) : ns.length = n ∧ ∃ a cap, v = .slice a n cap ∧ NodesIn w a n ns := by
  have hlen : ns.length = n := by have := h.1; rw [nodesV_len] at this; omega
  refine ⟨hlen, ?_⟩
  rcases own_forms h with ⟨rfl, rfl, _⟩ | ⟨g, cp, rfl⟩
  · exact ⟨none, 0, rfl, hlen, fun j hj => by omega⟩
  · refine ⟨some ⟨g, 0, none⟩, cp, rfl, hlen, fun j hj => ?_⟩
    obtain ⟨v0, v1, v2, v3⟩ := nodesV_at ns j (by omega)
    have c0 := h.cellAt (j * 4) (by omega)
    have c1 := h.cellAt (j * 4 + 1) (by omega)
    have c2 := h.cellAt (j * 4 + 2) (by omega)
    have c3 := h.cellAt (j * 4 + 3) (by omega)
    rw [v0] at c0
    rw [v1] at c1
    rw [v2] at c2
    rw [v3] at c3
    refine ⟨g, 0, rfl, (h.lt g rfl).2, ?_, ?_, ?_, ?_⟩
    · rw [Nat.zero_add]; exact c0
    · rw [Nat.zero_add]; exact c1
    · rw [Nat.zero_add]; exact c2
    · rw [Nat.zero_add]; exact c3

theorem infoNode : (Tryz.prog.info? 76).map (fun i => (i.zero, i.size, i.bytes)) = some (some (.agg #[.int .i64 0, .int .i64 0, .string ⟨#[]⟩, .string ⟨#[]⟩]), 4, 48) := by kernel_rfl

theorem new_node (w : World) (n : Nd) : ∀ j u, (nodesV [n])[j]? = some u → (w.alloc (.cells #[.int .i64 n.1, .int .i64 n.2.1, .string ⟨n.2.2.1.toArray⟩, .string ⟨n.2.2.2.toArray⟩] 76)).cell? ((⟨w.heap.size, 0, none⟩ : Addr).add j) = some u := by
  intro j u hu
  have e : (⟨w.heap.size, 0, none⟩ : Addr).add j = ⟨w.heap.size, j, none⟩ := by unfold Addr.add; split <;> simp_all
  rw [e]
  match j, hu with
  | 0, hu => simp [nodesV] at hu; subst hu; simp
  | 1, hu => simp [nodesV] at hu; subst hu; simp
  | 2, hu => simp [nodesV] at hu; subst hu; simp
  | 3, hu => simp [nodesV] at hu; subst hu; simp
  | j + 4, hu => simp [nodesV] at hu

theorem split_part (b : UInt8) (l : List UInt8) (j : Nat) : ((splitL b l).getD j []).length ≤ l.length := by
  have h1 : (splitGo b [] l).flatten.length ≤ l.length := by
    have := splitGo_flat b l []
    rw [List.length_nil, Nat.zero_add] at this
    exact this
  have h2 := part_le (splitL b l) j
  unfold splitL at h2 ⊢
  exact Nat.le_trans h2 h1

theorem readN_short (s : List UInt8) : (readN s).2.2.1.length ≤ s.length ∧ (readN s).2.2.2.length ≤ s.length := by
  unfold readN
  split
  · simp
  split
  · simp
  split
  · simp
  split
  · simp
  split
  · simp
  split
  · simp
  split
  · split
    · have h1 := split_part 47 s.tail 0
      have h2 := split_part 46 ((splitL 47 s.tail).getD 0 []) 0
      have h3 := split_part 46 ((splitL 47 s.tail).getD 0 []) 1
      have h4 : s.tail.length ≤ s.length := by rw [List.length_tail]; omega
      constructor
      · show ((splitL 46 ((splitL 47 s.tail).getD 0 [])).getD 0 []).length ≤ _; omega
      · show ((splitL 46 ((splitL 47 s.tail).getD 0 [])).getD 1 []).length ≤ _; omega
    · simp
  split
  · simp
  · simp

theorem readT_short (s : List UInt8) (h : s.length ≤ 2000) : ShortT (readT s) := by
  intro j
  unfold readT
  by_cases hj : j < (splitL 32 s).length
  · have hg : ((splitL 32 s).map readN).getD j nd0 = readN ((splitL 32 s).getD j []) := by simp [List.getD, hj]
    rw [hg]
    have h1 := readN_short ((splitL 32 s).getD j [])
    have h2 := split_part 32 s j
    omega
  · have hg : ((splitL 32 s).map readN).getD j nd0 = nd0 := by simp [List.getD, hj]
    rw [hg]; simp [nd0]

theorem map_step2 (ws : List (List UInt8)) (k : Nat) (hk : k < ws.length) : (ws.map readN).take (k + 1) = (ws.map readN).take k ++ [readN (ws.getD k [])] := by
  rw [← List.map_take, ← List.map_take]
  have hg : ws.getD k [] = ws[k] := by simp [List.getD, hk]
  rw [hg, List.take_succ_eq_append_getElem hk, List.map_append]; rfl

set_option maxHeartbeats 2000000 in
set_option maxRecDepth 100000 in
theorem specReadTree (s : List UInt8) (w : World) :
    Calls Tryz.prog 36 #[.string ⟨s.toArray⟩] w fun e w' => ∃ v, e = .returned (.tuple #[v, .bool (readOk s)]) ∧ w'.ownsRow w.heap.size 76 4 v (readTV s).length (nodesV (readTV s)) ∧ Below w.heap.size w w' := by
  have hown0 := (World.ownsRow_lit (base := w.heap.size) (e := 76) (size := 4) w #[] 0 (Nat.le_refl _) (by decide) rfl)
  by_cases hl : 2000 < (s.length : Int)
  · have HR : Hid (readOk s = false ∧ readTV s = []) := by
      have h1 : readOk s = false := by unfold readOk; rw [decide_eq_false (by omega)]; rfl
      exact ⟨h1, by unfold readTV; rw [if_neg (by rw [h1]; simp)]⟩
    go_enter Tryz.func36, Tryz.ntmps36
    go_wp2
    go_ret2
    exact ⟨_, by rw [HR.out.1]; rfl, by rw [HR.out.2]; exact hown0, (Below.refl _ _).alloc (Nat.le_refl _) _⟩
  · obtain ⟨i0, hi, hz0, hz1, hz2⟩ := info_parts infoNode
    obtain ⟨ws, hws⟩ : ∃ ws, splitL 32 s = ws := ⟨_, rfl⟩
    have hwl : ws.length ≤ 2001 := by rw [← hws]; have := splitGo_len 32 s []; unfold splitL; omega
    have hwt : ∀ j, (ws.getD j []).length ≤ 2000 := fun j => by rw [← hws]; have := split_part 32 s j; omega
    have HW : Hid (splitL 32 s = ws) := hws
    have HSh : Hid (ShortT (ws.map readN)) := by have := readT_short s (by omega); unfold readT at this; rw [hws] at this; exact this
    have HRd : Hid (readT s = ws.map readN) := by exact (by unfold readT; rw [hws] : readT s = ws.map readN)
    clear hws
    go_enter Tryz.func36, Tryz.ntmps36
    go_wp2_with fail
    refine (specSplit s 32 32 _ (by rfl) (by omega)).mono ?_
    rintro e w1 ⟨g1, cp1, rfl, hown1, hb1⟩
    rw [HW.out] at hown1 ⊢
    rw [World.size_alloc] at hown1
    have hB1 := below_boxed hb1
    have hown01 := own_below hown0 hb1
    have hg1 := hown1.lt g1 rfl
    clear hb1 hown0
    go_wp2
    go_loopw [4, 6] (fun v i wr => ∃ k : Nat, k ≤ ws.length ∧ i = .int .i64 k ∧ Hid (wr.ownsRow w.heap.size 76 4 v k (nodesV ((ws.map readN).take k)) ∧ v.ownBlock ≠ some g1) ∧ Hid (wr.ownsRow (w.heap.size + 1) 9 1 (.slice (some ⟨g1, 0, none⟩) ws.length cp1) ws.length (strV ws)) ∧ Below w.heap.size w wr) (fun _ i _ => ws.length - (intOf i).toNat)
    case atStart => exact ⟨0, Nat.zero_le _, rfl, (⟨by simpa [nodesV] using hown01, by simp [Value.ownBlock]; omega⟩ : _ ∧ _), hown1, hB1⟩
    case round =>
      obtain ⟨k, hk, rfl, HV, HS1, hb⟩ := hrel
      clear hown01 hown1 hB1
      have hg1r := (HS1.out.lt g1 rfl).2
      by_cases hkl : (k : Int) < (ws.length : Int)
      · have hk2 : k < ws.length := by omega
        have hcell := str_cellsD HS1.out rfl k hk2
        have hx := hwt k
        have hst := map_step2 ws k hk2
        obtain ⟨x, hxe⟩ : ∃ x, ws.getD k [] = x := ⟨_, rfl⟩
        rw [hxe] at hcell hx hst
        have HC : Hid (_) := fun W : World => specReadN x W (by omega)
        obtain ⟨n, hn⟩ : ∃ n, readN x = n := ⟨_, rfl⟩
        have HST : Hid ((ws.map readN).take (k + 1) = (ws.map readN).take k ++ [n]) := by exact (by rw [hst, hn] : (ws.map readN).take (k + 1) = (ws.map readN).take k ++ [n])
        rw [hn] at HC
        clear hst hxe hn
        go_wp2_with fail
        refine Calls.mono (HC.out _) ?_
        rintro e w2 ⟨rfl, hb2⟩
        have hV2 := own_below HV.out.1 hb2
        have hS2 := own_below HS1.out hb2
        have hB2 := hb.trans (hb2.mono hb.size)
        have hg2 : g1 < w2.heap.size := Nat.lt_of_lt_of_le hg1r hb2.size
        have hvn := HV.out.2
        clear hb2 hb HV HS1 hcell HC
        unfold nodeVal
        have hnc := new_node w2 n
        obtain ⟨kd, aa, p, f⟩ := n
        simp only at hnc ⊢
        go_wp2_with (at_builtin; refine wpList_append_own_at _ rfl _ _ 35 rfl w.heap.size 76 i0 _ 4 48 Tryz.underlying35 hi hz0 hz1 hz2 rfl (by decide) _ _ _ rfl (hV2.alloc _) ⟨w2.heap.size, 0, none⟩ 1 1 (nodesV [(kd, aa, p, f)]) rfl rfl ?c1 ?c2 ?c3 ?c4 ?c5 ?_)
        first | (case c1 => exact hnc) | skip
        first | (case c2 => exact nodesV_one _) | skip
        first | (case c3 => unfold maxLen; omega) | skip
        first | (case c4 => omega) | skip
        first | (case c5 => have := hB2.size; simp; try omega) | skip
        intro v' w3 hown3 hgrow3 hnil3 hat3
        have hv3 : v'.ownBlock ≠ some g1 := by
          rcases hat3 with h | h
          · rw [h]; exact hvn
          · rw [h]; simp; omega
        have HV3 : Hid (w3.ownsRow w.heap.size 76 4 v' (k + 1) (nodesV ((ws.map readN).take (k + 1))) ∧ v'.ownBlock ≠ some g1) := by
          exact (⟨by rw [HST.out, nodesV_append]; exact hown3, hv3⟩ : w3.ownsRow w.heap.size 76 4 v' (k + 1) (nodesV ((ws.map readN).take (k + 1))) ∧ v'.ownBlock ≠ some g1)
        have HS3 : Hid (w3.ownsRow (w.heap.size + 1) 9 1 (.slice (some ⟨g1, 0, none⟩) ws.length cp1) ws.length (strV ws)) := (hS2.alloc _).kept hgrow3 (.inr (fun e => hvn e.symm))
        have hb3 : Below w.heap.size w w3 := (hB2.alloc hB2.size _).grown hgrow3 (by have := hB2.size; simp; omega) (fun q e => (hV2.lt q e).1)
        clear hown3 hgrow3 hnil3 hat3 hV2 hS2 hB2 hv3 hvn hnc
        go_wp2
        go_roundw
        case rel => exact ⟨k + 1, by omega, by go_num, HV3, HS3, hb3⟩
        case measure => simp [intOf]; omega
      · obtain rfl : k = ws.length := by omega
        have hV := HV.out.1
        rw [List.take_of_length_le (by rw [List.length_map]; exact Nat.le_refl _)] at hV
        obtain ⟨_, av, cv, rfl, hin⟩ := own_nodes hV
        have HT : Hid (_) := specTreeOk av ws.length cv (ws.map readN) wr hin HSh.out (by omega)
        have HIn : Hid (NodesIn wr av ws.length (ws.map readN)) := hin
        have HVV : Hid (wr.ownsRow w.heap.size 76 4 (.slice av ws.length cv) ws.length (nodesV (ws.map readN))) := hV
        clear hV hin HV HS1
        have hok : readOk s = (treeB (ws.map readN) && (showL (ws.map readN) == s)) := by unfold readOk; rw [HRd.out, decide_eq_true (by omega)]; rfl
        rcases ht : treeB (ws.map readN) with _ | _
        · have HTB : Hid (treeB (ws.map readN) = false) := ht
          have HR : Hid (readOk s = false ∧ readTV s = []) := by
            have h1 : readOk s = false := by rw [hok, ht]; rfl
            exact ⟨h1, by unfold readTV; rw [if_neg (by rw [h1]; simp)]⟩
          clear ht hok
          go_wp2_with fail
          refine Calls.mono HT.out ?_
          rintro e w4 ⟨rfl, hb4⟩
          rw [HTB.out]
          have hB4 := hb.trans (hb4.mono hb.size)
          have hownE := (World.ownsRow_lit (base := w.heap.size) (e := 76) (size := 4) w4 #[] 0 hB4.size (by decide) rfl)
          clear hb4 hb
          go_wp2
          go_ret2
          exact ⟨_, by rw [HR.out.1]; rfl, by rw [HR.out.2]; exact hownE, hB4.alloc hB4.size _⟩
        · have HTB : Hid (treeB (ws.map readN) = true) := ht
          have hn := tree_nodes ht
          have h60 := (tree_end ht).1.2
          rw [List.length_map] at h60
          rw [ht, Bool.true_and] at hok
          clear ht
          rcases he : (showL (ws.map readN) == s) with _ | _
          · have HR : Hid (readOk s = false ∧ readTV s = []) := by
              have h1 : readOk s = false := by rw [hok, he]
              exact ⟨h1, by unfold readTV; rw [if_neg (by rw [h1]; simp)]⟩
            obtain ⟨S, hS⟩ : ∃ S, showL (ws.map readN) = S := ⟨_, rfl⟩
            rw [hS] at he
            have HS : Hid (showL (ws.map readN) = S) := hS
            have hne : (S != s) = true := by rw [bne, he]; rfl
            clear hok hS
            go_wp2_with fail
            refine Calls.mono HT.out ?_
            rintro e w4 ⟨rfl, hb4⟩
            rw [HTB.out]
            have hB4 := hb.trans (hb4.mono hb.size)
            go_wp2_with fail
            refine (specShowL av ws.length cv (ws.map readN) _ (HIn.out.below hb4) hn h60).mono ?_
            rintro e w5 ⟨rfl, hb5⟩
            rw [HS.out]
            have hB5 := hB4.trans (hb5.mono hB4.size)
            have hownE := (World.ownsRow_lit (base := w.heap.size) (e := 76) (size := 4) w5 #[] 0 hB5.size (by decide) rfl)
            clear hb4 hb hb5 hB4
            go_wp2
            go_ret2
            exact ⟨_, by rw [HR.out.1]; rfl, by rw [HR.out.2]; exact hownE, hB5.alloc hB5.size _⟩
          · have HR : Hid (readOk s = true ∧ readTV s = ws.map readN) := by
              have h1 : readOk s = true := by rw [hok, he]
              exact ⟨h1, by unfold readTV; rw [if_pos h1, HRd.out]⟩
            obtain ⟨S, hS⟩ : ∃ S, showL (ws.map readN) = S := ⟨_, rfl⟩
            rw [hS] at he
            have HS : Hid (showL (ws.map readN) = S) := hS
            have hne : (S != s) = false := by rw [bne, he]; rfl
            clear hok hS
            go_wp2_with fail
            refine Calls.mono HT.out ?_
            rintro e w4 ⟨rfl, hb4⟩
            rw [HTB.out]
            have hB4 := hb.trans (hb4.mono hb.size)
            go_wp2_with fail
            refine (specShowL av ws.length cv (ws.map readN) _ (HIn.out.below hb4) hn h60).mono ?_
            rintro e w5 ⟨rfl, hb5⟩
            rw [HS.out]
            have hB5 := hB4.trans (hb5.mono hB4.size)
            have hV5 := own_below (own_below HVV.out hb4) hb5
            clear hb4 hb hb5 hB4
            go_wp2
            go_ret2
            exact ⟨_, by rw [HR.out.1]; rfl, by rw [HR.out.2, List.length_map]; exact hV5, hB5⟩

end Go.Proofs.YtibppdepgoiojaaGreatDoor

/-! The laws' own helpers over nodes and rows of nodes: szNode, szNodeS, toNode, toNodeS, eqNode, eqNodeS. -/
namespace Go.Proofs.YtibppdepgoiojaaGreatDoor
open Go.RowKit

/-- How many bytes the texts of nodes have in all. -/
def textsN : List Nd → Nat
  | [] => 0
  | n :: r => n.2.2.1.length + n.2.2.2.length + textsN r
theorem textsN_append (x y : List Nd) : textsN (x ++ y) = textsN x + textsN y := by
  induction x with
  | nil => simp [textsN]
  | cons n r ih => simp only [List.cons_append, textsN, ih]; omega
theorem textsN_snoc (ns : List Nd) (k : Nat) (hk : k < ns.length) : textsN (ns.take (k + 1)) = textsN (ns.take k) + ((ns.getD k nd0).2.2.1.length + (ns.getD k nd0).2.2.2.length) := by
  have hg : ns.getD k nd0 = ns[k] := by simp [List.getD, hk]
  rw [hg, List.take_succ_eq_append_getElem hk, textsN_append]
  simp [textsN]
theorem textsN_take (ns : List Nd) (k : Nat) : textsN (ns.take k) ≤ textsN ns := by
  have := textsN_append (ns.take k) (ns.drop k)
  rw [List.take_append_drop] at this
  omega
theorem textsN_at (ns : List Nd) (j : Nat) : (ns.getD j nd0).2.2.1.length + (ns.getD j nd0).2.2.2.length ≤ textsN ns := by
  by_cases hj : j < ns.length
  · have h1 := textsN_snoc ns j hj
    have h2 := textsN_take ns (j + 1)
    omega
  · have : ns.getD j nd0 = nd0 := by rw [List.getD, List.getElem?_eq_none (by omega)]; rfl
    rw [this]; simp [nd0]
theorem short_of {ns : List Nd} (h : textsN ns ≤ 1048576) : ShortT ns := fun j => by have := textsN_at ns j; omega

def szN (m n : Nat) (left : Int) : Int := if (m : Int) + (n : Int) ≤ left then left - (m : Int) - (n : Int) else -1
theorem szN_yes {m n : Nat} {left : Int} (h : (m : Int) + (n : Int) ≤ left) : szN m n left = left - (m : Int) - (n : Int) := by unfold szN; rw [if_pos h]
theorem szN_no {m n : Nat} {left : Int} (h : ¬ (m : Int) + (n : Int) ≤ left) : szN m n left = -1 := by unfold szN; rw [if_neg h]

/-- A node's numbers are numbers of 64 bits. -/
def IntN (n : Nd) : Prop := (-9223372036854775808 ≤ n.1 ∧ n.1 ≤ 9223372036854775807) ∧ (-9223372036854775808 ≤ n.2.1 ∧ n.2.1 ≤ 9223372036854775807)
def IntT (ns : List Nd) : Prop := ∀ j, IntN (ns.getD j nd0)
theorem intN_nd0 : IntN nd0 := by unfold IntN nd0; decide
theorem IntT.nil : IntT [] := fun j => by rw [show ([] : List Nd).getD j nd0 = nd0 by simp]; exact intN_nd0
def LongT (ns : List Nd) : Prop := ∀ j, (ns.getD j nd0).2.2.1.length ≤ maxLen ∧ (ns.getD j nd0).2.2.2.length ≤ maxLen




theorem nodesV_set (ns : List Nd) (j : Nat) (k a : Int) (p f : List UInt8) : ((((nodesV ns).set (j * 4) (.int .i64 k)).set (j * 4 + 1) (.int .i64 a)).set (j * 4 + 2) (.string ⟨p.toArray⟩)).set (j * 4 + 3) (.string ⟨f.toArray⟩) = nodesV (ns.set j (k, a, p, f)) := by
  induction ns generalizing j with
  | nil => simp [nodesV]
  | cons b r ih =>
    cases j with
    | zero => simp [nodesV]
    | succ j => rw [show (j + 1) * 4 = j * 4 + 1 + 1 + 1 + 1 by omega]; simp [nodesV, ih]

theorem made_nodes (n : Nat) : (madeCells (Value.agg #[.int .i64 0, .int .i64 0, .string ⟨#[]⟩, .string ⟨#[]⟩]).cells (n * 4)).toList = nodesV (List.replicate n nd0) := by
  have hc : (Value.agg #[.int .i64 0, .int .i64 0, .string ⟨#[]⟩, .string ⟨#[]⟩]).cells = #[.int .i64 0, .int .i64 0, .string ⟨#[]⟩, .string ⟨#[]⟩] := rfl
  rw [hc]
  apply List.ext_getElem?
  intro j
  by_cases hj : j < n * 4
  · obtain ⟨v0, v1, v2, v3⟩ := nodesV_at (List.replicate n nd0) (j / 4) (by simp; omega)
    have hg : (List.replicate n nd0).getD (j / 4) nd0 = nd0 := by simp [List.getD, List.getElem?_replicate]; split <;> rfl
    rw [hg] at v0 v1 v2 v3
    have h4 : j % 4 = 0 ∨ j % 4 = 1 ∨ j % 4 = 2 ∨ j % 4 = 3 := by omega
    rcases h4 with h' | h' | h' | h'
    · have ej : j = j / 4 * 4 := by omega
      rw [← ej] at v0
      rw [v0]
      simp [madeCells, hj, h', nd0]
    · have ej : j = j / 4 * 4 + 1 := by omega
      rw [← ej] at v1
      rw [v1]
      simp [madeCells, hj, h', nd0]
    · have ej : j = j / 4 * 4 + 2 := by omega
      rw [← ej] at v2
      rw [v2]
      simp [madeCells, hj, h', nd0]
    · have ej : j = j / 4 * 4 + 3 := by omega
      rw [← ej] at v3
      rw [v3]
      simp [madeCells, hj, h', nd0]
  · rw [List.getElem?_eq_none (by simp [madeCells]; omega), List.getElem?_eq_none (by rw [nodesV_len]; simp; omega)]

theorem fill_node (ns : List Nd) (k : Nat) (hk : k < ns.length) : (ns.take k ++ List.replicate (ns.length - k) nd0).set k (ns.getD k nd0) = ns.take (k + 1) ++ List.replicate (ns.length - (k + 1)) nd0 := by
  have hg : ns.getD k nd0 = ns[k] := by simp [List.getD, hk]
  rw [hg, List.set_append_right _ _ (by rw [List.length_take]; omega), List.length_take, Nat.min_eq_left (by omega), Nat.sub_self, show ns.length - k = (ns.length - (k + 1)) + 1 by omega, List.replicate_succ, List.set_cons_zero, List.take_succ_eq_append_getElem hk, List.append_assoc]
  rfl




end Go.Proofs.YtibppdepgoiojaaGreatDoor

/-! The contracts of DrawHash and DrawTurned. -/
namespace Go.Proofs.YtibppdepgoiojaaGreatDoor
open Go.RowKit


def pick (l : List Int) (x : Int) : Int := l.getD x.toNat 0

theorem pick_cell (l : List Int) (x : Int) (h0 : 0 ≤ x) (h1 : x < l.length) (W : World) (e : TypeId) :
    (W.alloc (.cells (l.map (Value.int .i64)).toArray e)).cell? ⟨W.heap.size, x.toNat, none⟩ = some (.int .i64 (pick l x)) := by
  have hx : x.toNat < l.length := by omega
  rw [World.cell?_alloc_mark]
  simp [pick, hx]


end Go.Proofs.YtibppdepgoiojaaGreatDoor

/-! Words, and numbers that are none, are drawn. -/
namespace Go.Proofs.YtibppdepgoiojaaGreatDoor
open Go.RowKit

theorem pick_in (l : List Int) (x lo hi : Int) (h0 : 0 ≤ x) (h1 : x < l.length) (h : ∀ y ∈ l, lo ≤ y ∧ y ≤ hi) : lo ≤ pick l x ∧ pick l x ≤ hi := by
  have hx : x.toNat < l.length := by omega
  have : pick l x = l[x.toNat] := by simp [pick, List.getD, hx]
  rw [this]
  exact h _ (List.getElem_mem hx)

set_option maxHeartbeats 1000000 in
set_option maxRecDepth 100000 in
theorem drawFromG (w : World) (B : Nat) (a : Option Addr) (len cap : Nat) (lo hi : Int) (h0 : -1000000 ≤ lo) (h1 : lo ≤ hi) (h2 : hi ≤ 1000000) (h : Cur w B a len cap) :
    Calls Tryz.prog 56 #[.pointer (some ⟨B, 0, none⟩), .int .i64 lo, .int .i64 hi] w fun e w' => ∃ x : Int, e = .returned (.int .i64 x) ∧ lo ≤ x ∧ x ≤ hi ∧ Cur w' B a len cap ∧ w.grownBy w' (some B) := by
  go_enter Tryz.func56, Tryz.ntmps56
  go_wp2_with fail
  refine (drawBelow _ B a len cap (hi - lo + 1) (by omega) (by omega) h).mono ?_
  rintro e w1 ⟨x, rfl, hx0, hx1, hc, hg⟩
  go_wp2
  go_ret
  exact ⟨_, rfl, by omega, by omega, hc, hg⟩

set_option maxHeartbeats 1000000 in
set_option maxRecDepth 100000 in
theorem drawWord (w : World) (B : Nat) (a : Option Addr) (len cap : Nat) (h : Cur w B a len cap) :
    Calls Tryz.prog 110 #[.pointer (some ⟨B, 0, none⟩)] w fun e w' => ∃ x : Int, e = .returned (.int .i64 x) ∧ -2147483648 ≤ x ∧ x ≤ 2147483647 ∧ Cur w' B a len cap ∧ w.grownBy w' (some B) := by
  go_enter Tryz.func110, Tryz.ntmps110
  go_wp2_with fail
  refine (drawOnce _ B a len cap 6 (by omega) (by omega) h).mono ?_
  rintro e w1 ⟨o, rfl, hc1, hg1⟩
  have hB := hc1.lt
  rcases o with _ | _
  · go_wp2_with fail
    refine (drawBelow _ B a len cap 12 (by omega) (by omega) hc1).mono ?_
    rintro e w2 ⟨x, rfl, hx0, hx1, hc2, hg2⟩
    go_wp2
    go_ret
    exact ⟨_, rfl, by omega, by omega, hc2, hg1.trans hg2⟩
  · go_wp2_with fail
    refine (drawBelow _ B a len cap 4 (by omega) (by omega) (hc1.kept (World.grownBy_alloc _ _ none) (by simp))).mono ?_
    rintro e w2 ⟨x, rfl, hx0, hx1, hc2, hg2⟩
    have hcx := hg2.cell (pick_cell [2147483647, -2147483648, 65536, -1] x hx0 hx1 w1 2) (by simp; omega)
    have hpi := pick_in [2147483647, -2147483648, 65536, -1] x (-2147483648) 2147483647 hx0 hx1 (by simp)
    generalize pick [2147483647, -2147483648, 65536, -1] x = y at hcx hpi
    have hg := (hg1.trans (World.grownBy_alloc _ _ _)).trans hg2
    clear hc1 hg1 hg2
    go_wp2
    go_ret
    exact ⟨_, rfl, hpi.1, hpi.2, hc2, hg⟩




end Go.Proofs.YtibppdepgoiojaaGreatDoor

/-! A text is drawn. -/
namespace Go.Proofs.YtibppdepgoiojaaGreatDoor
open Go.RowKit


end Go.Proofs.YtibppdepgoiojaaGreatDoor

/-! What the bending of a text needs: a slice of bytes at the head of a block that is new since the call began, and an append's law at a step of a region that draws its order. -/
namespace Go.Proofs.YtibppdepgoiojaaGreatDoor
open Go.RowKit

/-- Block g, new since 'base', holds the bytes l from its head on, and they may be written. -/
structure RowB (w : World) (base g cap : Nat) (l : List UInt8) : Prop where
  new : base ≤ g
  there : g < w.heap.size
  room : l.length ≤ cap
  most : cap ≤ maxLen
  cells : ∀ j (hj : j < l.length), w.cell? ⟨g, j, none⟩ = some (.int .u8 (l[j].toNat : Int))
  free : ∀ j, j < l.length → w.frozen? ⟨g, j, none⟩ = false

theorem RowB.kept {w w' : World} {base g cap : Nat} {l : List UInt8} {row : Option Nat} (h : RowB w base g cap l) (hg : w.grownBy w' row) (hne : some g ≠ row) : RowB w' base g cap l := by
  have hb := hg.block g h.there hne
  exact ⟨h.new, Nat.lt_of_lt_of_le h.there hg.size, h.room, h.most, fun j hj => (World.cell?_of_block hb).trans (h.cells j hj), fun j hj => (World.frozen?_of_block hb).trans (h.free j hj)⟩

theorem RowB.base {w : World} {base base' g cap : Nat} {l : List UInt8} (h : RowB w base g cap l) (hb : base' ≤ base) : RowB w base' g cap l := ⟨Nat.le_trans hb h.new, h.there, h.room, h.most, h.cells, h.free⟩

theorem RowB.of_own {w : World} {base : Nat} {v : Value} {l : List UInt8} (h : w.ownsRow base 5 1 v l.length (bytesV l)) (hv : v ≠ .slice none 0 0) : ∃ g cap, v = .slice (some ⟨g, 0, none⟩) l.length cap ∧ RowB w base g cap l := by
  have hh := h
  obtain ⟨_, ⟨e, _⟩ | ⟨g, cap, cur, rfl, hb, hc, hn, hm, hs, ht⟩⟩ := hh
  · exact absurd e hv
  · refine ⟨g, cap, rfl, hb, (h.lt g rfl).2, hn, hm, ?_, ?_⟩
    · intro j hj
      have hx := World.ownsRow.cellAt h j (by omega)
      rw [hx]; simp [bytesV, List.getElem?_eq_getElem hj]
    · intro j hj
      exact World.ownsRow.frozenAt h j

theorem RowB.back {w : World} {base g cap : Nat} {l : List UInt8} (h : RowB w base g cap l) :
    (convert 22 9 (.slice (some ⟨g, 0, none⟩) l.length cap)).run Tryz.prog w = .ok (.string ⟨l.toArray⟩) w := by
  refine run_convert_bytes_back (P := Tryz.prog) w 22 9 5 ⟨g, 0, none⟩ cap l Tryz.underlying22 Tryz.underlying5 Tryz.underlying9 ?_
  intro j hj
  have e : (⟨g, 0, none⟩ : Addr).add j = ⟨g, j, none⟩ := by unfold Addr.add; split <;> simp_all
  rw [e]; exact h.cells j hj

theorem RowB.cut {w : World} {base g cap : Nat} {l : List UInt8} (h : RowB w base g cap l) (k : Nat) : RowB w base g cap (l.take k) := by
  have hl : (l.take k).length ≤ l.length := List.length_take_le' _ _
  refine ⟨h.new, h.there, Nat.le_trans hl h.room, h.most, ?_, ?_⟩
  · intro j hj
    rw [h.cells j (by omega)]
    simp
  · intro j hj; exact h.free j (by omega)

theorem RowB.store {w : World} {base g cap : Nat} {l : List UInt8} (h : RowB w base g cap l) (k : Nat) (hk : k < l.length) (x : UInt8) : RowB (w.setCell ⟨g, k, none⟩ (.int .u8 (x.toNat : Int))) base g cap (l.set k x) := by
  refine ⟨h.new, by simpa using h.there, by simpa using h.room, h.most, ?_, ?_⟩
  · intro j hj
    have hj' : j < l.length := by simpa using hj
    by_cases e : j = k
    · subst e
      rw [World.cell?_setCell_same _ _ _ (h.cells j hj')]
      simp
    · rw [World.cell?_setCell_other _ _ _ _ (by intro e2; injection e2 with _ e3; exact e e3.symm), h.cells j hj', List.getElem_set_ne (fun e2 => e e2.symm)]
  · intro j hj
    rw [World.frozen?_setCell]; exact h.free j (by simpa using hj)

theorem RowB.drew {w : World} {base g cap : Nat} {l : List UInt8} (h : RowB w base g cap l) : RowB w.drew base g cap l := ⟨h.new, h.there, h.room, h.most, h.cells, h.free⟩

/-- '[]byte(s)': the new block. -/
theorem RowB.made (w : World) (l : List UInt8) (hl : l.length ≤ maxLen) :
    RowB (w.drew.alloc (.cells (bytesRow ⟨l.toArray⟩ (grownCap w l.length 0 5)) 5 ((bytesRow ⟨l.toArray⟩ (grownCap w l.length 0 5)).size, (bytesRow ⟨l.toArray⟩ (grownCap w l.length 0 5)).size + 1))) w.heap.size w.heap.size (grownCap w l.length 0 5) l := by
  have hsz : l.length ≤ (bytesRow ⟨l.toArray⟩ (grownCap w l.length 0 5)).size := by simp [bytesRow]
  refine ⟨Nat.le_refl _, by simp, grownCap_ge _ _ _ _, grownCap_le_maxLen _ _ _ _ hl, ?_, ?_⟩
  · intro j hj
    show (w.alloc _).cell? ⟨w.heap.size, j, none⟩ = _
    rw [World.cell?_alloc_mark, bytesRow_at ⟨l.toArray⟩ _ j (by simpa using hj)]
    simp
  · intro j hj
    show (w.alloc _).frozen? ⟨w.heap.size, j, none⟩ = _
    rw [World.frozen?_alloc_mark]
    simp; omega

/-- 'append' onto a row of the call's own, at a step of a region that draws. -/
theorem step_append_own {P : Program} {w : World} {ops : Array Oper} {o : Oper} {a : Act} {K : Act → World → Prop} {Q : Exit → Act → World → Prop} {E : Prop} (hgd : o.guard = none) (s x : Operand) (t : TypeId)
    (ho : o.op = .call { callee := .builtin .append, args := #[s, x], argTypes := #[t, t] })
    (base : Nat) (e : TypeId) (i : TypeInfo) (z : Value) (size bytes : Nat) (ht : P.underlying t = some (.slice e)) (hi : P.info? e = some i) (hz : i.zero = some z)
    (hsize : i.size = size) (hby : i.bytes = bytes) (hzs : z.cells.size = size) (hsz : 0 < size)
    (v : Value) (n : Nat) (xs : List Value) (hs : a.eval s = v) (hown : w.ownsRow base e size v n xs)
    (ad : Addr) (m c : Nat) (news : List Value) (hx : a.eval x = .slice (some ad) m c) (hl : news.length = m * size) (hnews : ∀ j u, news[j]? = some u → w.cell? (ad.add j) = some u) (h1 : ∀ u ∈ news, u.oneCell' = true)
    (h63 : n + m ≤ maxLen) (hbytes : (n + m) * bytes ≤ 140737488355328) (hbase : base ≤ w.heap.size)
    (h : ∀ v' w', w'.ownsRow base e size v' (n + m) (xs ++ news) → w.grownBy w' v.ownBlock → (v' = .slice none 0 0 ↔ v = .slice none 0 0 ∧ m = 0) → K (a.put o.dst v') w') :
    if Region.wanted o (yielded ops a.tmps) = true then Oper.wp P o a w K Q else E := by
  have hw : Region.wanted o (yielded ops a.tmps) = true := by simp [Region.wanted, hgd]
  rw [if_pos hw]
  exact wp_append_own w s x t ho base e i z size bytes ht hi hz hsize hby hzs hsz v n xs hs hown ad m c news hx hl hnews h1 h63 hbytes hbase h

theorem bytesV_at (l : List UInt8) (j : Nat) (u : Value) (h : (bytesV l)[j]? = some u) : ∃ hj : j < l.length, u = .int .u8 (l[j].toNat : Int) := by
  unfold bytesV at h
  rw [List.getElem?_map] at h
  rcases hx : l[j]? with _ | x
  · rw [hx] at h; cases h
  · rw [hx] at h
    obtain ⟨hj, e⟩ := List.getElem?_eq_some_iff.1 hx
    injection h with h
    exact ⟨hj, by rw [e]; exact h.symm⟩

theorem bytesV_len (l : List UInt8) : (bytesV l).length = l.length := by simp [bytesV]

theorem bytesV_one (l : List UInt8) : ∀ u ∈ bytesV l, u.oneCell' = true := by
  intro u hu
  obtain ⟨x, _, rfl⟩ := List.mem_map.1 hu
  rfl

theorem add_plain (b off j : Nat) : (⟨b, off, none⟩ : Addr).add j = ⟨b, off + j, none⟩ := by unfold Addr.add; split <;> simp_all

/-- The cells of b[:k], as an append takes them. -/
theorem RowB.head {w : World} {base g cap : Nat} {l : List UInt8} (h : RowB w base g cap l) (k : Nat) : ∀ j u, (bytesV (l.take k))[j]? = some u → w.cell? ((⟨g, 0, none⟩ : Addr).add j) = some u := by
  intro j u hu
  obtain ⟨hj, rfl⟩ := bytesV_at _ _ _ hu
  have hl : (l.take k).length ≤ l.length := List.length_take_le' _ _
  rw [add_plain, Nat.zero_add, h.cells j (by omega)]
  simp

/-- The cells of b[k:], as an append takes them. -/
theorem RowB.tail {w : World} {base g cap : Nat} {l : List UInt8} (h : RowB w base g cap l) (k : Nat) : ∀ j u, (bytesV (l.drop k))[j]? = some u → w.cell? ((⟨g, k, none⟩ : Addr).add j) = some u := by
  intro j u hu
  obtain ⟨hj, rfl⟩ := bytesV_at _ _ _ hu
  have hj' : k + j < l.length := by rw [List.length_drop] at hj; omega
  rw [add_plain, h.cells (k + j) hj']
  simp

theorem own_empty (w : World) (base : Nat) (h : base ≤ w.heap.size) : (w.alloc (.cells #[] 5)).drew.ownsRow base 5 1 (.slice (some ⟨w.heap.size, 0, none⟩) 0 0) 0 [] :=
  (World.ownsRow_lit (base := base) (e := 5) (size := 1) w #[] 0 h (by decide) rfl).drew

theorem step_keep {w W W' : World} {B : Nat} {a : Option Addr} {len cap : Nat} {row : Option Nat} (hBlt : B < w.heap.size) (h : Cur W B a len cap ∧ w.grownBy W (some B)) (hg : W.grownBy W' row) (hrow : ∀ k, row = some k → w.heap.size ≤ k) :
    Cur W' B a len cap ∧ w.grownBy W' (some B) :=
  ⟨h.1.kept hg (fun k e => by have := hrow k e; omega), h.2.andThen hg (fun j e => Or.inl (hrow j e))⟩

theorem bytesV_append (a b : List UInt8) : bytesV a ++ bytesV b = bytesV (a ++ b) := by simp [bytesV]

/-- What a chain of appends leaves: a row of bytes. -/
theorem own_done {w : World} {base n : Nat} {v : Value} {xs : List Value} (l : List UInt8) (h : w.ownsRow base 5 1 v n xs) (hx : xs = bytesV l) (hn : n = l.length) (hv : v ≠ .slice none 0 0) : ∃ g cap, v = .slice (some ⟨g, 0, none⟩) l.length cap ∧ RowB w base g cap l := by
  subst hx hn
  exact RowB.of_own h hv

theorem own_ne {w : World} {base e size n g : Nat} {v : Value} {xs : List Value} (h : w.ownsRow base e size v n xs) (hg : g < base) : some g ≠ v.ownBlock := by
  intro e2
  have := (h.lt g e2.symm).1
  omega

theorem size_empty (w : World) : w.heap.size ≤ (w.alloc (.cells #[] 5)).drew.heap.size := by simp
theorem size_one (w : World) (x : Value) (n : Nat) (h : n ≤ w.heap.size) : n ≤ (w.alloc (.cells #[x] 5)).heap.size := by simp; omega
theorem row_empty (w : World) : ∀ k, Value.ownBlock (.slice (some ⟨w.heap.size, 0, none⟩) 0 0) = some k → w.heap.size ≤ k := by
  intro k e; injection e with e; exact Nat.le_of_eq e
theorem ne_empty (w : World) (b : Nat) (h : b < w.heap.size) : some b ≠ Value.ownBlock (.slice (some ⟨w.heap.size, 0, none⟩) 0 0) := by
  intro e; injection e with e; simp at e; omega
theorem ne_some {b B : Nat} (h : B < b) : some b ≠ some B := by
  intro e; injection e with e; omega

end Go.Proofs.YtibppdepgoiojaaGreatDoor
