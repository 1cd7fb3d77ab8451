/-
  Parts of one proof, one behind the other: FoldJ2.
-/
import Derived.Test.YtkjojhkpoooimaaGreatP27
import Derived.Test.YtkjojhkpoooimaaGreatP23
import Derived.Deep.RegionHeld3

/-! The contracts of chapter 11's landed code: what is made of a node and of what its parts have become. -/
namespace Go.Proofs.YtkjojhkpoooimaaGreat
open Go.RowKit

def numA11 (r : List Nd) : Int := if isOne11 r = true then (r.getD 0 nd0).2.1 else 0
theorem isOne_of {r : List Nd} (h : One r) : isOne11 r = hdIs r := by
  unfold isOne11 hdIs
  by_cases h1 : (r.getD 0 nd0).1 = 1
  · obtain ⟨v, e, _⟩ := one_num h h1
    rw [decide_eq_true h1]
    exact decide_eq_true ⟨by rw [e]; rfl, h1⟩
  · rw [decide_eq_false h1]
    exact decide_eq_false (fun e => h1 e.2)
theorem numA_of {r : List Nd} (h : One r) : numA11 r = hdNum r := by
  unfold numA11 hdNum
  rw [isOne_of h]
  unfold hdIs
  simp only [decide_eq_true_eq]
theorem isNum_A (r : List Nd) (v : Int) : isNum11 r v = (isOne11 r && (numA11 r == v)) := by
  unfold isNum11 numA11
  rcases h : isOne11 r with _ | _
  · rfl
  · simp only [Bool.true_and, if_true]
    by_cases e : (r.getD 0 nd0).2.1 = v
    · rw [decide_eq_true e, e]; simp
    · rw [decide_eq_false e]; exact (beq_eq_false_iff_ne.2 e).symm
/-- What is made of two parts, as the landed code asks it. -/
theorem mk11_pair (n : Nd) (h : 3 ≤ n.1 ∧ n.1 ≤ 6) (r1 r2 : List Nd) : mk11 n [r1, r2] =
    if (isOne11 r1 && isOne11 r2) = true then (if doneB n.1 (numA11 r1) (numA11 r2) = true then [(1, doneV n.1 (numA11 r1) (numA11 r2), [], [])] else n :: [r1, r2].flatten)
    else if (isOne11 r2 && (numA11 r2 == idle11 n.1)) = true then r1
    else if (isOne11 r1 && (numA11 r1 == idle11 n.1) && idles11 n.1) = true then r2
    else n :: [r1, r2].flatten := by
  unfold mk11
  rw [if_pos h]
  simp only [show ([r1, r2] : List (List Nd)).getD 0 [] = r1 from rfl, show ([r1, r2] : List (List Nd)).getD 1 [] = r2 from rfl]
  by_cases hb : (isOne11 r1 && isOne11 r2) = true
  · rw [if_pos hb, if_pos hb]
    rw [Bool.and_eq_true] at hb
    unfold numA11
    rw [if_pos hb.1, if_pos hb.2]
  · rw [if_neg hb, if_neg hb]
    simp only [isNum_A]
    rcases (show n.1 = 3 ∨ n.1 = 4 ∨ n.1 = 5 ∨ n.1 = 6 by omega) with e | e | e | e <;> rw [e] <;> simp [idle11, idles11]
theorem mk11_if (n : Nd) (h : n.1 = 7) (r1 r2 r3 : List Nd) : mk11 n [r1, r2, r3] = if isOne11 r1 = true then (if (numA11 r1 == 0) = true then r3 else r2) else n :: [r1, r2, r3].flatten := by
  unfold mk11
  rw [if_neg (by omega), if_pos h]
  simp only [show ([r1, r2, r3] : List (List Nd)).getD 0 [] = r1 from rfl, show ([r1, r2, r3] : List (List Nd)).getD 1 [] = r2 from rfl, show ([r1, r2, r3] : List (List Nd)).getD 2 [] = r3 from rfl]
  by_cases hb : isOne11 r1 = true
  · rw [if_pos hb, if_pos hb, isNum_A, hb, Bool.true_and]
  · rw [if_neg hb, if_neg hb]
theorem mk11_else (n : Nd) (h : ¬ (3 ≤ n.1 ∧ n.1 ≤ 6)) (h7 : n.1 ≠ 7) (rs : List (List Nd)) : mk11 n rs = n :: rs.flatten := by
  unfold mk11
  rw [if_neg h, if_neg h7]

/-- Two lists of nodes, or three, in a new row. -/
theorem pts_two (W : World) {B : Nat} {v1 v2 : Value} {r1 r2 : List Nd} (h1 : W.ownsRow B 46 4 v1 r1.length (nodesV r1)) (h2 : W.ownsRow B 46 4 v2 r2.length (nodesV r2)) : PtsIn (W.alloc (.cells #[v1, v2] 24)) (some ⟨W.heap.size, 0, none⟩) B [v1, v2] [r1, r2] := by
  have hb : Below W.heap.size W (W.alloc (.cells #[v1, v2] 24)) := (Below.refl _ W).alloc (Nat.le_refl _) _
  refine ⟨rfl, fun j hj => ⟨_, _, rfl, by simp, ?_⟩, fun j hj => ?_⟩
  · match j, hj with
    | 0, _ => simp
    | 1, _ => simp
  · match j, hj with
    | 0, _ => exact own_below h1 hb
    | 1, _ => exact own_below h2 hb
theorem pts_three (W : World) {B : Nat} {v1 v2 v3 : Value} {r1 r2 r3 : List Nd} (h1 : W.ownsRow B 46 4 v1 r1.length (nodesV r1)) (h2 : W.ownsRow B 46 4 v2 r2.length (nodesV r2)) (h3 : W.ownsRow B 46 4 v3 r3.length (nodesV r3)) : PtsIn (W.alloc (.cells #[v1, v2, v3] 24)) (some ⟨W.heap.size, 0, none⟩) B [v1, v2, v3] [r1, r2, r3] := by
  have hb : Below W.heap.size W (W.alloc (.cells #[v1, v2, v3] 24)) := (Below.refl _ W).alloc (Nat.le_refl _) _
  refine ⟨rfl, fun j hj => ⟨_, _, rfl, by simp, ?_⟩, fun j hj => ?_⟩
  · match j, hj with
    | 0, _ => simp
    | 1, _ => simp
    | 2, _ => simp
  · match j, hj with
    | 0, _ => exact own_below h1 hb
    | 1, _ => exact own_below h2 hb
    | 2, _ => exact own_below h3 hb

/-- A tree in a row, as numOf reads it. -/
theorem numOf_row {W : World} {B : Nat} {a : Option Addr} {c : Nat} {r : List Nd} (ho : W.ownsRow B 46 4 (.slice a r.length c) r.length (nodesV r)) (h : One r) :
    Calls Tryz.prog 78 #[.slice a r.length c] W fun e w' => e = .returned (.tuple #[.int .i64 (numA11 r), .bool (isOne11 r)]) ∧ w' = W := by
  obtain ⟨_, a', c', e, hn⟩ := own_nodes ho
  injection e with e1 _ e3
  subst e1 e3
  have h1 := implNumOf a r.length c r W hn h.pos
  rw [← numA_of h, ← isOne_of h] at h1
  exact h1

set_option maxHeartbeats 8000000 in
set_option maxRecDepth 100000 in
theorem implPair (n : Nd) (h36 : 3 ≤ n.1 ∧ n.1 ≤ 6) (B : Nat) (a1 : Option Addr) (c1 : Nat) (r1 : List Nd) (a2 : Option Addr) (c2 : Nat) (r2 : List Nd) (w : World) (hB : B ≤ w.heap.size)
    (ho1 : w.ownsRow B 46 4 (.slice a1 r1.length c1) r1.length (nodesV r1)) (ho2 : w.ownsRow B 46 4 (.slice a2 r2.length c2) r2.length (nodesV r2)) (h1 : One r1) (h2 : One r2) (hl : r1.length + r2.length ≤ 4000) :
    Calls Tryz.prog 52 #[nodeVal n, .slice a1 r1.length c1, .slice a2 r2.length c2] w fun e w' => ∃ v, e = .returned v ∧ w'.ownsRow B 46 4 v (mk11 n [r1, r2]).length (nodesV (mk11 n [r1, r2])) ∧ Below w.heap.size w w' := by
  have HM : Hid (_) := mk11_pair n h36 r1 r2
  obtain ⟨W0, hW0⟩ : ∃ W0, w.alloc (.cells #[.int .i64 n.1, .int .i64 n.2.1, .string ⟨n.2.2.1.toArray⟩, .string ⟨n.2.2.2.toArray⟩] 46) = W0 := ⟨_, rfl⟩
  have st := NdAt.new w n.1 n.2.1 n.2.2.1 n.2.2.2
  have hb0 : Below w.heap.size w W0 := by rw [← hW0]; exact (Below.refl _ w).alloc (Nat.le_refl _) _
  rw [hW0] at st
  have ho1' := own_below ho1 hb0
  have ho2' := own_below ho2 hb0
  have HN1 : Hid (_) := numOf_row ho1' h1
  have HN2 : Hid (_) := numOf_row ho2' h2
  have HRet1 : Hid (mk11 n [r1, r2] = r1 → W0.ownsRow B 46 4 (.slice a1 r1.length c1) (mk11 n [r1, r2]).length (nodesV (mk11 n [r1, r2]))) := fun e => by rw [e]; exact ho1'
  have HRet2 : Hid (mk11 n [r1, r2] = r2 → W0.ownsRow B 46 4 (.slice a2 r2.length c2) (mk11 n [r1, r2]).length (nodesV (mk11 n [r1, r2]))) := fun e => by rw [e]; exact ho2'
  have hbP : Below W0.heap.size W0 (W0.alloc (.cells #[.slice a1 r1.length c1, .slice a2 r2.length c2] 24)) := (Below.refl _ W0).alloc (Nat.le_refl _) _
  have HW : Hid (mk11 n [r1, r2] = n :: [r1, r2].flatten → Calls Tryz.prog 54 #[nodeVal n, .slice (some ⟨W0.heap.size, 0, none⟩) 2 2] (W0.alloc (.cells #[.slice a1 r1.length c1, .slice a2 r2.length c2] 24)) fun e w' => ∃ v, e = .returned v ∧ w'.ownsRow B 46 4 v (mk11 n [r1, r2]).length (nodesV (mk11 n [r1, r2])) ∧ Below w.heap.size w w') := fun e => by
    rw [e]
    refine (implWith n (some ⟨W0.heap.size, 0, none⟩) 2 B _ [r1, r2] _ (pts_two W0 ho1' ho2') (by simp; omega) (by simp)).mono ?_
    rintro e' w' ⟨v, rfl, ho, hb⟩
    have hbw := hb0.trans (hbP.mono hb0.size)
    exact ⟨v, rfl, own_base ho (Nat.le_trans hB hbw.size), hbw.trans (hb.mono hbw.size)⟩
  have HNum : Hid (∀ x, mk11 n [r1, r2] = [(1, x, [], [])] → (W0.alloc (.cells #[.int .i64 1, .int .i64 x, .string ⟨#[]⟩, .string ⟨#[]⟩] 46)).ownsRow B 46 4 (.slice (some ⟨W0.heap.size, 0, none⟩) 1 1) (mk11 n [r1, r2]).length (nodesV (mk11 n [r1, r2])) ∧ Below w.heap.size w (W0.alloc (.cells #[.int .i64 1, .int .i64 x, .string ⟨#[]⟩, .string ⟨#[]⟩] 46))) := fun x e => by
    rw [e]
    exact ⟨own_node1 W0 B (1, x, [], []) (Nat.le_trans hB hb0.size), hb0.trans (((Below.refl _ W0).alloc (Nat.le_refl _) _).mono hb0.size)⟩
  have HB0 : Hid (Below w.heap.size w W0) := hb0
  generalize mk11 n [r1, r2] = res at HM HRet1 HRet2 HW HNum ⊢
  generalize isOne11 r1 = i1 at HM HN1
  generalize isOne11 r2 = i2 at HM HN2
  generalize numA11 r1 = x1 at HM HN1
  generalize numA11 r2 = x2 at HM HN2
  generalize r1.length = l1 at HN1 HRet1 HW ⊢
  generalize r2.length = l2 at HN2 HRet2 HW ⊢
  obtain ⟨D, hD0⟩ : ∃ D, w.heap.size = D := ⟨_, rfl⟩
  rw [hD0] at st
  obtain ⟨k, A, p, f⟩ := n
  unfold nodeVal at HW ⊢
  simp only at HM HW st hW0 ⊢
  have q0 := st.c0
  have q1 := st.c1
  have q2 := st.c2
  have q3 := st.c3
  clear st hb0 hbP ho1 ho2 ho1' ho2' h1 h2 hl hB
  go_enter Tryz.func52, Tryz.ntmps52
  go_wp2_with fail
  refine Calls.mono HN1.out ?_
  rintro e w1 ⟨rfl, rfl⟩
  go_wp2_with fail
  refine Calls.mono HN2.out ?_
  rintro e w2 ⟨rfl, rfl⟩
  clear HN1 HN2
  have HDo : Hid (_) := implDoneS k x1 x2 w2
  rcases i1 with _ | _
  · clear HDo
    rcases i2 with _ | _
    · have HE : Hid (res = (k, A, p, f) :: [r1, r2].flatten) := by exact (by have := HM.out; simpa using this : res = (k, A, p, f) :: [r1, r2].flatten)
      have HW2 : Hid (_) := HW.out HE.out
      clear HM HRet1 HRet2 HW HNum HE
      go_wp2_with (first | (go_at_call 80; refine (implIdle _ _).mono ?_; rintro e w' ⟨rfl, rfl⟩) | (go_at_call 81; refine (implIdles _ _).mono ?_; rintro e w' ⟨rfl, rfl⟩))
      refine Calls.mono HW2.out ?_
      rintro e w3 ⟨v, rfl, ho, hb⟩
      go_wp2
      go_ret
      first | exact ⟨_, rfl, ho, hb⟩ | exact ⟨ho, hb⟩
    · by_cases hx : x2 = idle11 k
      · have hxb : (x2 == idle11 k) = true := beq_iff_eq.2 hx
        clear hx
        have HE : Hid (res = r1) := by exact (by have := HM.out; simpa [hxb] using this : res = r1)
        have HO : Hid (_) := HRet1.out HE.out
        clear HM HRet1 HRet2 HW HNum HE
        go_wp2_with (first | (go_at_call 80; refine (implIdle _ _).mono ?_; rintro e w' ⟨rfl, rfl⟩) | (go_at_call 81; refine (implIdles _ _).mono ?_; rintro e w' ⟨rfl, rfl⟩))
        go_ret
        first | exact ⟨_, rfl, HO.out, HB0.out⟩ | exact ⟨HO.out, HB0.out⟩
      · have hxb : (x2 == idle11 k) = false := beq_eq_false_iff_ne.2 hx
        clear hx
        have HE : Hid (res = (k, A, p, f) :: [r1, r2].flatten) := by exact (by have := HM.out; simpa [hxb] using this : res = (k, A, p, f) :: [r1, r2].flatten)
        have HW2 : Hid (_) := HW.out HE.out
        clear HM HRet1 HRet2 HW HNum HE
        go_wp2_with (first | (go_at_call 80; refine (implIdle _ _).mono ?_; rintro e w' ⟨rfl, rfl⟩) | (go_at_call 81; refine (implIdles _ _).mono ?_; rintro e w' ⟨rfl, rfl⟩))
        refine Calls.mono HW2.out ?_
        rintro e w3 ⟨v, rfl, ho, hb⟩
        go_wp2
        go_ret
        first | exact ⟨_, rfl, ho, hb⟩ | exact ⟨ho, hb⟩
  · rcases i2 with _ | _
    · clear HDo
      by_cases hx : x1 = idle11 k
      · have hxb : (x1 == idle11 k) = true := beq_iff_eq.2 hx
        clear hx
        rcases hid : idles11 k with _ | _
        · have HId : Hid (idles11 k = false) := hid
          have HE : Hid (res = (k, A, p, f) :: [r1, r2].flatten) := by exact (by have := HM.out; simpa [hxb, hid] using this : res = (k, A, p, f) :: [r1, r2].flatten)
          have HW2 : Hid (_) := HW.out HE.out
          clear HM HRet1 HRet2 HW HNum HE
          go_wp2_with (first | (go_at_call 80; refine (implIdle _ _).mono ?_; rintro e w' ⟨rfl, rfl⟩) | (go_at_call 81; refine (implIdles _ _).mono ?_; rintro e w' ⟨rfl, rfl⟩))
          refine Calls.mono HW2.out ?_
          rintro e w3 ⟨v, rfl, ho, hb⟩
          go_wp2
          go_ret
          first | exact ⟨_, rfl, ho, hb⟩ | exact ⟨ho, hb⟩
        · have HId : Hid (idles11 k = true) := hid
          have HE : Hid (res = r2) := by exact (by have := HM.out; simpa [hxb, hid] using this : res = r2)
          have HO : Hid (_) := HRet2.out HE.out
          clear HM HRet1 HRet2 HW HNum HE
          go_wp2_with (first | (go_at_call 80; refine (implIdle _ _).mono ?_; rintro e w' ⟨rfl, rfl⟩) | (go_at_call 81; refine (implIdles _ _).mono ?_; rintro e w' ⟨rfl, rfl⟩))
          go_ret
          first | exact ⟨_, rfl, HO.out, HB0.out⟩ | exact ⟨HO.out, HB0.out⟩
      · have hxb : (x1 == idle11 k) = false := beq_eq_false_iff_ne.2 hx
        clear hx
        have HE : Hid (res = (k, A, p, f) :: [r1, r2].flatten) := by exact (by have := HM.out; simpa [hxb] using this : res = (k, A, p, f) :: [r1, r2].flatten)
        have HW2 : Hid (_) := HW.out HE.out
        clear HM HRet1 HRet2 HW HNum HE
        go_wp2_with (first | (go_at_call 80; refine (implIdle _ _).mono ?_; rintro e w' ⟨rfl, rfl⟩) | (go_at_call 81; refine (implIdles _ _).mono ?_; rintro e w' ⟨rfl, rfl⟩))
        refine Calls.mono HW2.out ?_
        rintro e w3 ⟨v, rfl, ho, hb⟩
        go_wp2
        go_ret
        first | exact ⟨_, rfl, ho, hb⟩ | exact ⟨ho, hb⟩
    · rcases hdn : doneB k x1 x2 with _ | _
      · have HE : Hid (res = (k, A, p, f) :: [r1, r2].flatten) := by exact (by have := HM.out; simpa [hdn] using this : res = (k, A, p, f) :: [r1, r2].flatten)
        have HW2 : Hid (_) := HW.out HE.out
        rw [hdn] at HDo
        clear HM HRet1 HRet2 HW HNum HE hdn
        go_wp2_with (go_at_call 79; refine Calls.mono HDo.out ?_; rintro e w' ⟨rfl, rfl⟩)
        refine Calls.mono HW2.out ?_
        rintro e w3 ⟨v, rfl, ho, hb⟩
        go_wp2
        go_ret
        first | exact ⟨_, rfl, ho, hb⟩ | exact ⟨ho, hb⟩
      · have HE : Hid (res = [(1, doneV k x1 x2, [], [])]) := by exact (by have := HM.out; simpa [hdn] using this : res = [(1, doneV k x1 x2, [], [])])
        have HO : Hid (_) := HNum.out _ HE.out
        rw [hdn] at HDo
        clear HM HRet1 HRet2 HW HNum HE hdn
        generalize doneV k x1 x2 = dv at HDo HO
        go_wp2_with (go_at_call 79; refine Calls.mono HDo.out ?_; rintro e w' ⟨rfl, rfl⟩)
        go_ret
        first | exact ⟨_, rfl, HO.out.1, HO.out.2⟩ | exact HO.out

set_option maxHeartbeats 8000000 in
set_option maxRecDepth 100000 in
theorem implIf (n : Nd) (h7 : n.1 = 7) (B : Nat) (a1 : Option Addr) (c1 : Nat) (r1 : List Nd) (a2 : Option Addr) (c2 : Nat) (r2 : List Nd) (a3 : Option Addr) (c3 : Nat) (r3 : List Nd) (w : World) (hB : B ≤ w.heap.size)
    (ho1 : w.ownsRow B 46 4 (.slice a1 r1.length c1) r1.length (nodesV r1)) (ho2 : w.ownsRow B 46 4 (.slice a2 r2.length c2) r2.length (nodesV r2)) (ho3 : w.ownsRow B 46 4 (.slice a3 r3.length c3) r3.length (nodesV r3)) (h1 : One r1) (hl : r1.length + r2.length + r3.length ≤ 4000) :
    Calls Tryz.prog 53 #[nodeVal n, .slice a1 r1.length c1, .slice a2 r2.length c2, .slice a3 r3.length c3] w fun e w' => ∃ v, e = .returned v ∧ w'.ownsRow B 46 4 v (mk11 n [r1, r2, r3]).length (nodesV (mk11 n [r1, r2, r3])) ∧ Below w.heap.size w w' := by
  have HM : Hid (_) := mk11_if n h7 r1 r2 r3
  obtain ⟨W0, hW0⟩ : ∃ W0, w.alloc (.cells #[.int .i64 n.1, .int .i64 n.2.1, .string ⟨n.2.2.1.toArray⟩, .string ⟨n.2.2.2.toArray⟩] 46) = W0 := ⟨_, rfl⟩
  have st := NdAt.new w n.1 n.2.1 n.2.2.1 n.2.2.2
  have hb0 : Below w.heap.size w W0 := by rw [← hW0]; exact (Below.refl _ w).alloc (Nat.le_refl _) _
  rw [hW0] at st
  have ho1' := own_below ho1 hb0
  have ho2' := own_below ho2 hb0
  have ho3' := own_below ho3 hb0
  have HN1 : Hid (_) := numOf_row ho1' h1
  have HRet2 : Hid (mk11 n [r1, r2, r3] = r2 → W0.ownsRow B 46 4 (.slice a2 r2.length c2) (mk11 n [r1, r2, r3]).length (nodesV (mk11 n [r1, r2, r3]))) := fun e => by rw [e]; exact ho2'
  have HRet3 : Hid (mk11 n [r1, r2, r3] = r3 → W0.ownsRow B 46 4 (.slice a3 r3.length c3) (mk11 n [r1, r2, r3]).length (nodesV (mk11 n [r1, r2, r3]))) := fun e => by rw [e]; exact ho3'
  have hbP : Below W0.heap.size W0 (W0.alloc (.cells #[.slice a1 r1.length c1, .slice a2 r2.length c2, .slice a3 r3.length c3] 24)) := (Below.refl _ W0).alloc (Nat.le_refl _) _
  have HW : Hid (mk11 n [r1, r2, r3] = n :: [r1, r2, r3].flatten → Calls Tryz.prog 54 #[nodeVal n, .slice (some ⟨W0.heap.size, 0, none⟩) 3 3] (W0.alloc (.cells #[.slice a1 r1.length c1, .slice a2 r2.length c2, .slice a3 r3.length c3] 24)) fun e w' => ∃ v, e = .returned v ∧ w'.ownsRow B 46 4 v (mk11 n [r1, r2, r3]).length (nodesV (mk11 n [r1, r2, r3])) ∧ Below w.heap.size w w') := fun e => by
    rw [e]
    refine (implWith n (some ⟨W0.heap.size, 0, none⟩) 3 B _ [r1, r2, r3] _ (pts_three W0 ho1' ho2' ho3') (by simp; omega) (by simp)).mono ?_
    rintro e' w' ⟨v, rfl, ho, hb⟩
    have hbw := hb0.trans (hbP.mono hb0.size)
    exact ⟨v, rfl, own_base ho (Nat.le_trans hB hbw.size), hbw.trans (hb.mono hbw.size)⟩
  have HB0 : Hid (Below w.heap.size w W0) := hb0
  generalize mk11 n [r1, r2, r3] = res at HM HRet2 HRet3 HW ⊢
  generalize isOne11 r1 = i1 at HM HN1
  generalize numA11 r1 = x1 at HM HN1
  generalize r1.length = l1 at HN1 HW ⊢
  generalize r2.length = l2 at HRet2 HW ⊢
  generalize r3.length = l3 at HRet3 HW ⊢
  obtain ⟨D, hD0⟩ : ∃ D, w.heap.size = D := ⟨_, rfl⟩
  rw [hD0] at st
  obtain ⟨k, A, p, f⟩ := n
  unfold nodeVal at HW ⊢
  simp only at HM HW st hW0 ⊢
  have q0 := st.c0
  have q1 := st.c1
  have q2 := st.c2
  have q3 := st.c3
  clear st hb0 hbP ho1 ho2 ho3 ho1' ho2' ho3' h1 hl hB h7
  go_enter Tryz.func53, Tryz.ntmps53
  go_wp2_with fail
  refine Calls.mono HN1.out ?_
  rintro e w1 ⟨rfl, rfl⟩
  clear HN1
  rcases i1 with _ | _
  · have HE : Hid (res = (k, A, p, f) :: [r1, r2, r3].flatten) := by exact (by have := HM.out; simpa using this : res = (k, A, p, f) :: [r1, r2, r3].flatten)
    have HW2 : Hid (_) := HW.out HE.out
    clear HM HRet2 HRet3 HW HE
    go_wp2_with fail
    refine Calls.mono HW2.out ?_
    rintro e w3 ⟨v, rfl, ho, hb⟩
    go_wp2
    go_ret
    first | exact ⟨_, rfl, ho, hb⟩ | exact ⟨ho, hb⟩
  · by_cases hx : x1 = 0
    · have HE : Hid (res = r3) := by exact (by have := HM.out; simpa [hx] using this : res = r3)
      have HO : Hid (_) := HRet3.out HE.out
      subst hx
      clear HM HRet2 HRet3 HW HE
      go_wp2
      go_ret
      first | exact ⟨_, rfl, HO.out, HB0.out⟩ | exact ⟨HO.out, HB0.out⟩
    · have hxb : (x1 != 0) = true := bne_iff_ne.2 hx
      have HE : Hid (res = r2) := by exact (by have := HM.out; simpa [hx] using this : res = r2)
      have HO : Hid (_) := HRet2.out HE.out
      clear HM HRet2 HRet3 HW HE hx
      go_wp2
      go_ret
      first | exact ⟨_, rfl, HO.out, HB0.out⟩ | exact ⟨HO.out, HB0.out⟩

set_option maxHeartbeats 8000000 in
set_option maxRecDepth 100000 in
theorem implMade (n : Nd) (hn : nodeB n = true) (B : Nat) (a : Option Addr) (cap : Nat) (vs : List Value) (rs : List (List Nd)) (w : World) (hB : B ≤ w.heap.size) (h : PtsIn w a B vs rs) (hk : rs.length = kidsN n) (ho : ∀ r ∈ rs, One r) (hl : rs.flatten.length ≤ 4000) :
    Calls Tryz.prog 23 #[nodeVal n, .slice a rs.length cap] w fun e w' => ∃ v, e = .returned v ∧ w'.ownsRow B 46 4 v (mk11 n rs).length (nodesV (mk11 n rs)) ∧ Below w.heap.size w w' := by
  obtain ⟨W0, hW0⟩ : ∃ W0, w.alloc (.cells #[.int .i64 n.1, .int .i64 n.2.1, .string ⟨n.2.2.1.toArray⟩, .string ⟨n.2.2.2.toArray⟩] 46) = W0 := ⟨_, rfl⟩
  have st := NdAt.new w n.1 n.2.1 n.2.2.1 n.2.2.2
  have hb0 : Below w.heap.size w W0 := by rw [← hW0]; exact (Below.refl _ w).alloc (Nat.le_refl _) _
  rw [hW0] at st
  have hp := h.below hb0
  have hk3 := (kidsV_ok hn).2
  have HB0 : Hid (Below w.heap.size w W0) := hb0
  have std := st.drew
  have q0 := st.c0
  have q1 := st.c1
  have q2 := st.c2
  have q3 := st.c3
  by_cases h36 : 3 ≤ n.1 ∧ n.1 ≤ 6
  · have h2 : rs.length = 2 := by rw [hk]; exact kids_four h36
    obtain ⟨r1, r2, rfl⟩ : ∃ r1 r2, rs = [r1, r2] := by
      match rs, h2 with
      | [x, y], _ => exact ⟨x, y, rfl⟩
    obtain ⟨b, off, rfl, hbl, e0⟩ := hp.cell 0 (by simp)
    obtain ⟨b', off', eb, _, e1⟩ := hp.cell 1 (by simp)
    injection eb with eb
    injection eb with eb1 eb2
    subst eb1 eb2
    have w1 := hp.row 0 (by simp)
    have w2 := hp.row 1 (by simp)
    simp only [show ([r1, r2] : List (List Nd)).getD 0 [] = r1 from rfl, show ([r1, r2] : List (List Nd)).getD 1 [] = r2 from rfl] at w1 w2
    obtain ⟨_, a1, c1, ev1, _⟩ := own_nodes w1
    obtain ⟨_, a2, c2, ev2, _⟩ := own_nodes w2
    rw [ev1] at e0 w1
    rw [ev2] at e1 w2
    rw [Nat.add_zero] at e0
    have hlf : r1.length + r2.length ≤ 4000 := by simpa using hl
    have HP : Hid (∀ Z, Below W0.heap.size W0 Z → Calls Tryz.prog 52 #[nodeVal n, .slice a1 r1.length c1, .slice a2 r2.length c2] Z fun e w' => ∃ v, e = .returned v ∧ w'.ownsRow B 46 4 v (mk11 n [r1, r2]).length (nodesV (mk11 n [r1, r2])) ∧ Below w.heap.size w w' ∧ Below W0.heap.size W0 w') := fun Z hz => by
      have hbz := HB0.out.trans (hz.mono HB0.out.size)
      refine (implPair n h36 B a1 c1 r1 a2 c2 r2 Z (Nat.le_trans hB hbz.size) (own_below w1 hz) (own_below w2 hz) (ho r1 (by simp)) (ho r2 (by simp)) hlf).mono ?_
      rintro e w' ⟨v, rfl, h1, h2⟩
      exact ⟨v, rfl, h1, hbz.trans (h2.mono hbz.size), hz.trans (h2.mono hz.size)⟩
    have HC : Hid (_) := HP.out W0.drew ⟨rfl, rfl, rfl, Nat.le_refl _, fun _ _ => rfl⟩
    have hwl : w.heap.size < W0.heap.size := World.block_lt_of_cell? W0 ⟨w.heap.size, 0, none⟩ q0
    generalize mk11 n [r1, r2] = res at HC ⊢
    generalize r1.length = l1 at HC e0
    generalize r2.length = l2 at HC e1
    obtain ⟨k, A, p, f⟩ := n
    unfold nodeVal at HC ⊢
    simp only at HC q0 q1 q2 q3 hW0 h36 ⊢
    simp only [List.length_cons, List.length_nil]
    clear HP w1 w2 ev1 ev2 hp h ho hk hn hk3 hl hlf hb0 st std h2
    rcases (show k = 3 ∨ k ≠ 3 by omega) with e | hk3
    · subst e
      clear h36
      go_enter Tryz.func23, Tryz.ntmps23
      go_upto_region 6 with fail
      go_region_held3 (fun w' => w'.cell? ⟨w.heap.size, 0, none⟩ = some (.int .i64 3) ∧ w'.cell? ⟨w.heap.size, 1, none⟩ = some (.int .i64 A) ∧ w'.cell? ⟨w.heap.size, 2, none⟩ = some (.string ⟨p.toArray⟩) ∧ w'.cell? ⟨w.heap.size, 3, none⟩ = some (.string ⟨f.toArray⟩) ∧ w'.cell? ⟨b, off, none⟩ = some (.slice a1 l1 c1) ∧ w'.cell? ⟨b, off + 1, none⟩ = some (.slice a2 l2 c2)) (go_keep) (first | (go_at_call 52; refine Calls.mono HC.out ?_; rintro e wn ⟨v, rfl, ho, hb, hbz⟩; have y0 := (hbz.cell (p := ⟨w.heap.size, 0, none⟩) hwl).trans q0; have y1 := (hbz.cell (p := ⟨w.heap.size, 1, none⟩) hwl).trans q1; have y2 := (hbz.cell (p := ⟨w.heap.size, 2, none⟩) hwl).trans q2; have y3 := (hbz.cell (p := ⟨w.heap.size, 3, none⟩) hwl).trans q3; have y4 := (hbz.cell (p := ⟨b, off, none⟩) hbl).trans e0; have y5 := (hbz.cell (p := ⟨b, off + 1, none⟩) hbl).trans e1; have HO : Hid (wn.ownsRow B 46 4 v res.length (nodesV res)) := ho; have HB : Hid (Below w.heap.size w wn) := hb; clear ho hb hbz))
      go_wp2
      go_ret
      first | exact ⟨_, rfl, HO.out, HB.out⟩ | exact ⟨HO.out, HB.out⟩
    rcases (show k = 4 ∨ k ≠ 4 by omega) with e | hk4
    · subst e
      clear h36 hk3
      go_enter Tryz.func23, Tryz.ntmps23
      go_upto_region 6 with fail
      go_region_held3 (fun w' => w'.cell? ⟨w.heap.size, 0, none⟩ = some (.int .i64 4) ∧ w'.cell? ⟨w.heap.size, 1, none⟩ = some (.int .i64 A) ∧ w'.cell? ⟨w.heap.size, 2, none⟩ = some (.string ⟨p.toArray⟩) ∧ w'.cell? ⟨w.heap.size, 3, none⟩ = some (.string ⟨f.toArray⟩) ∧ w'.cell? ⟨b, off, none⟩ = some (.slice a1 l1 c1) ∧ w'.cell? ⟨b, off + 1, none⟩ = some (.slice a2 l2 c2)) (go_keep) (first | (go_at_call 52; refine Calls.mono HC.out ?_; rintro e wn ⟨v, rfl, ho, hb, hbz⟩; have y0 := (hbz.cell (p := ⟨w.heap.size, 0, none⟩) hwl).trans q0; have y1 := (hbz.cell (p := ⟨w.heap.size, 1, none⟩) hwl).trans q1; have y2 := (hbz.cell (p := ⟨w.heap.size, 2, none⟩) hwl).trans q2; have y3 := (hbz.cell (p := ⟨w.heap.size, 3, none⟩) hwl).trans q3; have y4 := (hbz.cell (p := ⟨b, off, none⟩) hbl).trans e0; have y5 := (hbz.cell (p := ⟨b, off + 1, none⟩) hbl).trans e1; have HO : Hid (wn.ownsRow B 46 4 v res.length (nodesV res)) := ho; have HB : Hid (Below w.heap.size w wn) := hb; clear ho hb hbz))
      go_wp2
      go_ret
      first | exact ⟨_, rfl, HO.out, HB.out⟩ | exact ⟨HO.out, HB.out⟩
    rcases (show k = 5 ∨ k ≠ 5 by omega) with e | hk5
    · subst e
      clear h36 hk3 hk4
      go_enter Tryz.func23, Tryz.ntmps23
      go_upto_region 6 with fail
      go_region_held3 (fun w' => w'.cell? ⟨w.heap.size, 0, none⟩ = some (.int .i64 5) ∧ w'.cell? ⟨w.heap.size, 1, none⟩ = some (.int .i64 A) ∧ w'.cell? ⟨w.heap.size, 2, none⟩ = some (.string ⟨p.toArray⟩) ∧ w'.cell? ⟨w.heap.size, 3, none⟩ = some (.string ⟨f.toArray⟩) ∧ w'.cell? ⟨b, off, none⟩ = some (.slice a1 l1 c1) ∧ w'.cell? ⟨b, off + 1, none⟩ = some (.slice a2 l2 c2)) (go_keep) (first | (go_at_call 52; refine Calls.mono HC.out ?_; rintro e wn ⟨v, rfl, ho, hb, hbz⟩; have y0 := (hbz.cell (p := ⟨w.heap.size, 0, none⟩) hwl).trans q0; have y1 := (hbz.cell (p := ⟨w.heap.size, 1, none⟩) hwl).trans q1; have y2 := (hbz.cell (p := ⟨w.heap.size, 2, none⟩) hwl).trans q2; have y3 := (hbz.cell (p := ⟨w.heap.size, 3, none⟩) hwl).trans q3; have y4 := (hbz.cell (p := ⟨b, off, none⟩) hbl).trans e0; have y5 := (hbz.cell (p := ⟨b, off + 1, none⟩) hbl).trans e1; have HO : Hid (wn.ownsRow B 46 4 v res.length (nodesV res)) := ho; have HB : Hid (Below w.heap.size w wn) := hb; clear ho hb hbz))
      go_wp2
      go_ret
      first | exact ⟨_, rfl, HO.out, HB.out⟩ | exact ⟨HO.out, HB.out⟩
    rcases (show k = 6 ∨ k ≠ 6 by omega) with e | hk6
    · subst e
      clear h36 hk3 hk4 hk5
      go_enter Tryz.func23, Tryz.ntmps23
      go_upto_region 6 with fail
      go_region_held3 (fun w' => w'.cell? ⟨w.heap.size, 0, none⟩ = some (.int .i64 6) ∧ w'.cell? ⟨w.heap.size, 1, none⟩ = some (.int .i64 A) ∧ w'.cell? ⟨w.heap.size, 2, none⟩ = some (.string ⟨p.toArray⟩) ∧ w'.cell? ⟨w.heap.size, 3, none⟩ = some (.string ⟨f.toArray⟩) ∧ w'.cell? ⟨b, off, none⟩ = some (.slice a1 l1 c1) ∧ w'.cell? ⟨b, off + 1, none⟩ = some (.slice a2 l2 c2)) (go_keep) (first | (go_at_call 52; refine Calls.mono HC.out ?_; rintro e wn ⟨v, rfl, ho, hb, hbz⟩; have y0 := (hbz.cell (p := ⟨w.heap.size, 0, none⟩) hwl).trans q0; have y1 := (hbz.cell (p := ⟨w.heap.size, 1, none⟩) hwl).trans q1; have y2 := (hbz.cell (p := ⟨w.heap.size, 2, none⟩) hwl).trans q2; have y3 := (hbz.cell (p := ⟨w.heap.size, 3, none⟩) hwl).trans q3; have y4 := (hbz.cell (p := ⟨b, off, none⟩) hbl).trans e0; have y5 := (hbz.cell (p := ⟨b, off + 1, none⟩) hbl).trans e1; have HO : Hid (wn.ownsRow B 46 4 v res.length (nodesV res)) := ho; have HB : Hid (Below w.heap.size w wn) := hb; clear ho hb hbz))
      go_wp2
      go_ret
      first | exact ⟨_, rfl, HO.out, HB.out⟩ | exact ⟨HO.out, HB.out⟩
    · exfalso; omega
  · by_cases h7 : n.1 = 7
    · have h2 : rs.length = 3 := by rw [hk]; exact kids_seven h7
      obtain ⟨r1, r2, r3, rfl⟩ : ∃ r1 r2 r3, rs = [r1, r2, r3] := by
        match rs, h2 with
        | [x, y, z], _ => exact ⟨x, y, z, rfl⟩
      obtain ⟨b, off, rfl, hbl, e0⟩ := hp.cell 0 (by simp)
      obtain ⟨b', off', eb, _, e1⟩ := hp.cell 1 (by simp)
      injection eb with eb
      injection eb with eb1 eb2
      subst eb1 eb2
      obtain ⟨b', off', eb, _, e2⟩ := hp.cell 2 (by simp)
      injection eb with eb
      injection eb with eb1 eb2
      subst eb1 eb2
      have w1 := hp.row 0 (by simp)
      have w2 := hp.row 1 (by simp)
      have w3 := hp.row 2 (by simp)
      simp only [show ([r1, r2, r3] : List (List Nd)).getD 0 [] = r1 from rfl, show ([r1, r2, r3] : List (List Nd)).getD 1 [] = r2 from rfl, show ([r1, r2, r3] : List (List Nd)).getD 2 [] = r3 from rfl] at w1 w2 w3
      obtain ⟨_, a1, c1, ev1, _⟩ := own_nodes w1
      obtain ⟨_, a2, c2, ev2, _⟩ := own_nodes w2
      obtain ⟨_, a3, c3, ev3, _⟩ := own_nodes w3
      rw [ev1] at e0 w1
      rw [ev2] at e1 w2
      rw [ev3] at e2 w3
      rw [Nat.add_zero] at e0
      have hlf : r1.length + r2.length + r3.length ≤ 4000 := by have := hl; simp at this; omega
      have HP : Hid (∀ Z, Below W0.heap.size W0 Z → Calls Tryz.prog 53 #[nodeVal n, .slice a1 r1.length c1, .slice a2 r2.length c2, .slice a3 r3.length c3] Z fun e w' => ∃ v, e = .returned v ∧ w'.ownsRow B 46 4 v (mk11 n [r1, r2, r3]).length (nodesV (mk11 n [r1, r2, r3])) ∧ Below w.heap.size w w' ∧ Below W0.heap.size W0 w') := fun Z hz => by
        have hbz := HB0.out.trans (hz.mono HB0.out.size)
        refine (implIf n h7 B a1 c1 r1 a2 c2 r2 a3 c3 r3 Z (Nat.le_trans hB hbz.size) (own_below w1 hz) (own_below w2 hz) (own_below w3 hz) (ho r1 (by simp)) hlf).mono ?_
        rintro e w' ⟨v, rfl, h1, h2⟩
        exact ⟨v, rfl, h1, hbz.trans (h2.mono hbz.size), hz.trans (h2.mono hz.size)⟩
      have HC : Hid (_) := HP.out W0.drew ⟨rfl, rfl, rfl, Nat.le_refl _, fun _ _ => rfl⟩
      have hwl : w.heap.size < W0.heap.size := World.block_lt_of_cell? W0 ⟨w.heap.size, 0, none⟩ q0
      generalize mk11 n [r1, r2, r3] = res at HC ⊢
      generalize r1.length = l1 at HC e0
      generalize r2.length = l2 at HC e1
      generalize r3.length = l3 at HC e2
      obtain ⟨k, A, p, f⟩ := n
      unfold nodeVal at HC ⊢
      simp only at HC q0 q1 q2 q3 hW0 h7 ⊢
      simp only [List.length_cons, List.length_nil]
      clear HP w1 w2 w3 ev1 ev2 ev3 hp h ho hk hn hk3 hl hlf hb0 st std h2 h36
      subst h7
      go_enter Tryz.func23, Tryz.ntmps23
      go_upto_region 8 with fail
      go_region_held3 (fun w' => w'.cell? ⟨w.heap.size, 0, none⟩ = some (.int .i64 7) ∧ w'.cell? ⟨w.heap.size, 1, none⟩ = some (.int .i64 A) ∧ w'.cell? ⟨w.heap.size, 2, none⟩ = some (.string ⟨p.toArray⟩) ∧ w'.cell? ⟨w.heap.size, 3, none⟩ = some (.string ⟨f.toArray⟩) ∧ w'.cell? ⟨b, off, none⟩ = some (.slice a1 l1 c1) ∧ w'.cell? ⟨b, off + 1, none⟩ = some (.slice a2 l2 c2) ∧ w'.cell? ⟨b, off + 2, none⟩ = some (.slice a3 l3 c3)) (go_keep) (first | (go_at_call 53; refine Calls.mono HC.out ?_; rintro e wn ⟨v, rfl, ho, hb, hbz⟩; have y0 := (hbz.cell (p := ⟨w.heap.size, 0, none⟩) hwl).trans q0; have y1 := (hbz.cell (p := ⟨w.heap.size, 1, none⟩) hwl).trans q1; have y2 := (hbz.cell (p := ⟨w.heap.size, 2, none⟩) hwl).trans q2; have y3 := (hbz.cell (p := ⟨w.heap.size, 3, none⟩) hwl).trans q3; have y4 := (hbz.cell (p := ⟨b, off, none⟩) hbl).trans e0; have y5 := (hbz.cell (p := ⟨b, off + 1, none⟩) hbl).trans e1; have y6 := (hbz.cell (p := ⟨b, off + 2, none⟩) hbl).trans e2; have HO : Hid (wn.ownsRow B 46 4 v res.length (nodesV res)) := ho; have HB : Hid (Below w.heap.size w wn) := hb; clear ho hb hbz))
      go_wp2
      go_ret
      first | exact ⟨_, rfl, HO.out, HB.out⟩ | exact ⟨HO.out, HB.out⟩
    · have HC : Hid (Calls Tryz.prog 54 #[nodeVal n, .slice a rs.length cap] W0 fun e w' => ∃ v, e = .returned v ∧ w'.ownsRow B 46 4 v (mk11 n rs).length (nodesV (mk11 n rs)) ∧ Below w.heap.size w w') := by
        rw [mk11_else n h36 h7]
        refine (implWith n a cap B vs rs W0 hp (by omega) (by omega)).mono ?_
        rintro e w' ⟨v, rfl, h1, h2⟩
        exact ⟨v, rfl, own_base h1 (Nat.le_trans hB HB0.out.size), HB0.out.trans (h2.mono HB0.out.size)⟩
      generalize mk11 n rs = res at HC ⊢
      generalize rs.length = ln at HC ⊢
      obtain ⟨k, A, p, f⟩ := n
      unfold nodeVal at HC ⊢
      simp only at HC q0 q1 q2 q3 hW0 h7 h36 ⊢
      have d3 : (k == 3) = false := beq_eq_false_iff_ne.2 (by omega)
      have d4 : (k == 4) = false := beq_eq_false_iff_ne.2 (by omega)
      have d5 : (k == 5) = false := beq_eq_false_iff_ne.2 (by omega)
      have d6 : (k == 6) = false := beq_eq_false_iff_ne.2 (by omega)
      have d7 : (k == 7) = false := beq_eq_false_iff_ne.2 (by omega)
      clear hp h ho hk hn hk3 hl hb0 st std h36 h7
      go_enter Tryz.func23, Tryz.ntmps23
      go_wp2_with fail
      refine Calls.mono HC.out ?_
      rintro e wn ⟨v, rfl, ho, hb⟩
      go_wp2
      go_ret
      first | exact ⟨_, rfl, ho, hb⟩ | exact ⟨ho, hb⟩

end Go.Proofs.YtkjojhkpoooimaaGreat
