/-
  Parts of one proof, one behind the other: Math11P, Math11Q, FoldS3, FoldE, Math6I, WordI, Jumps, Clone, TextI.
-/
import Derived.Test.YtkjojhkpoooimaaP12
import Derived.Test.YtkjojhkpoooimaaP2
import Derived.Test.YtkjojhkpoooimaaP11
import Derived.Test.YtkjojhkpoooimaaP1
import Derived.Lib.ItoaNum
import Derived.Lib.Join
import Derived.Lib.Bytealg
import Derived.Scope
import Derived.WalkMore
import Derived.Lib.Strings
import Derived.Lib.Walk
import Derived.Lib.BufferWrite
import Derived.Lib.UnsafeStr
import Derived.Lib.Hide
import Derived.Laws.MakeOwn
import Derived.Test.YtkjojhkpoooimaaRows
import Derived.WalkKit
import Derived.WalkLawsBesides
import Derived.OpenShut
import Derived.BigQuiet

/-! Plain facts of chapter 11: pure trees. -/
namespace Go.Proofs.Ytkjojhkpoooimaa
open Go.RowKit

/-- A tree without calls that divides by numbers alone, and never by 0. -/
inductive PureT : List Nd → Prop
  | mk (n : Nd) (ks : List (List Nd)) : nodeB n = true → ks.length = kidsN n → (∀ k ∈ ks, One k) → n.1 ≠ 8 → (n.1 = 6 → ((ks.getD 1 []).getD 0 nd0).1 = 1 ∧ ((ks.getD 1 []).getD 0 nd0).2.1 ≠ 0) → (∀ k ∈ ks, PureT k) → PureT (n :: ks.flatten)
theorem PureT.one {s : List Nd} (h : PureT s) : One s := by
  cases h with
  | mk n ks hn hk ho h8 h6 hp => exact One.mk n ks hn hk ho
/-- A tree whose first node is a number is that number. -/
theorem one_num {s : List Nd} (h : One s) (h1 : (s.getD 0 nd0).1 = 1) : ∃ v, s = [((1, v, [], []) : Nd)] ∧ Word10 v := by
  cases h with
  | mk n ks hn hk ho =>
    have h1' : n.1 = 1 := h1
    have hnd := nodeB_iff.1 hn
    unfold nodeP at hnd
    have hk0 : kidsN n = 0 := by unfold kidsN; rw [if_neg (by omega), if_neg (by omega), if_neg (by omega)]
    have hks : ks = [] := List.eq_nil_of_length_eq_zero (by omega)
    subst hks
    obtain ⟨k, v, p, q⟩ := n
    simp only at h1' hnd
    rcases hnd with h | h | h | h
    · obtain ⟨rfl, ⟨h2, h3⟩, rfl, rfl⟩ := h
      exact ⟨v, rfl, h2, h3⟩
    · omega
    · omega
    · omega
theorem flat_le {ks : List (List Nd)} {i : Nat} (h : i < ks.length) : (ks.getD i []).length ≤ ks.flatten.length := (List.sublist_flatten_of_mem (getD_mem11 h)).length_le
theorem flat_two {ks : List (List Nd)} (h : ks.length = 2) : ks.flatten.length = (ks.getD 0 []).length + (ks.getD 1 []).length := by
  match ks, h with
  | [a, b], _ => simp
theorem flat_three {ks : List (List Nd)} (h : ks.length = 3) : ks.flatten.length = (ks.getD 0 []).length + (ks.getD 1 []).length + (ks.getD 2 []).length := by
  match ks, h with
  | [a, b, c], _ => simp; omega
/-- It is never stopped but by fuel. -/
theorem PureT.runs {s : List Nd} (h : PureT s) (ps : List Pk) (hgood : ∀ n, Good10 (tree10 ps n)) (xs : List Int) (hx : ∀ x ∈ xs, Word10 x) : ∀ (d f : Nat), s.length ≤ d → s.length ≤ f → (val10 ps d s 0 xs (f, 0)).2.2 = 0 ∧ f ≤ (val10 ps d s 0 xs (f, 0)).2.1 + s.length := by
  induction h with
  | mk n ks hn hk ho h8 h6 hp ih =>
    intro d f hd hf
    rcases d with _ | d
    · simp at hd
    rcases f with _ | f
    · simp at hf
    rw [val_node11 ps d xs hn hk ho]
    simp only [List.length_cons] at hd hf ⊢
    have hmap : ∀ i, i < ks.length → (ks.map (fun k => val10 ps d k 0 xs)).getD i cz10 = val10 ps d (ks.getD i []) 0 xs := fun i hi => by simp [List.getD, hi]
    have hrun : ∀ i, i < ks.length → ∀ g, (ks.getD i []).length ≤ g → (val10 ps d (ks.getD i []) 0 xs (g, 0)).2.2 = 0 ∧ g ≤ (val10 ps d (ks.getD i []) 0 xs (g, 0)).2.1 + (ks.getD i []).length := fun i hi g hg => ih _ (getD_mem11 hi) d g (by have := flat_le hi; omega) hg
    have hword : ∀ i g, i < ks.length → Word10 (val10 ps d (ks.getD i []) 0 xs (g, 0)).1 := fun i g hi => val_word hgood d _ 0 xs (by
      have h1 := ho _ (getD_mem11 (d := []) hi)
      intro m hm
      have key : ∀ {s : List Nd}, One s → ∀ m ∈ s, nodeB m = true := by
        intro s hs
        induction hs with
        | mk n ks hn _ _ ih2 =>
          intro m hm
          rcases List.mem_cons.1 hm with e | e
          · rw [e]; exact hn
          · obtain ⟨k, hk, h2⟩ := List.mem_flatten.1 e
            exact ih2 k hk m h2
      exact key h1 m hm) hx (g, 0)
    have ht : ∀ C : Cmp10, tick10 C (f + 1, 0) = C (f, 0) := fun C => rfl
    rw [ht]
    have hnd := nodeB_iff.1 hn
    unfold nodeP at hnd
    unfold nodeK
    split
    · exact ⟨rfl, by show f + 1 ≤ f + _; omega⟩
    · split
      · exact ⟨rfl, by show f + 1 ≤ f + _; omega⟩
      · split
        · rename_i h7
          have h3 := kids_seven h7
          have hl := flat_three (ks := ks) (by omega)
          rw [hmap 0 (by omega), hmap 1 (by omega), hmap 2 (by omega)]
          obtain ⟨c0, l0⟩ := hrun 0 (by omega) f (by omega)
          unfold bind10
          generalize val10 ps d (ks.getD 0 []) 0 xs (f, 0) = r at c0 l0 ⊢
          obtain ⟨v, l, c⟩ := r
          simp only at c0 l0 ⊢
          subst c0
          by_cases hv : v ≠ 0
          · rw [if_pos hv]
            obtain ⟨c1, l1⟩ := hrun 1 (by omega) l (by omega)
            exact ⟨c1, by omega⟩
          · rw [if_neg hv]
            obtain ⟨c2, l2⟩ := hrun 2 (by omega) l (by omega)
            exact ⟨c2, by omega⟩
        · try rw [if_neg h8]
          have h36 : 3 ≤ n.1 ∧ n.1 ≤ 6 := by omega
          have h2 := kids_four h36
          have hl := flat_two (ks := ks) (by omega)
          rw [hmap 0 (by omega), hmap 1 (by omega)]
          obtain ⟨c0, l0⟩ := hrun 0 (by omega) f (by omega)
          have w0 := hword 0 f (by omega)
          unfold bind10
          generalize val10 ps d (ks.getD 0 []) 0 xs (f, 0) = r at c0 l0 w0 ⊢
          obtain ⟨v, l, c⟩ := r
          simp only at c0 l0 w0 ⊢
          subst c0
          obtain ⟨c1, l1⟩ := hrun 1 (by omega) l (by omega)
          have w1 := hword 1 l (by omega)
          have hdiv : n.1 = 6 → (val10 ps d (ks.getD 1 []) 0 xs (l, 0)).1 ≠ 0 := fun e => by
            obtain ⟨h61, h62⟩ := h6 e
            obtain ⟨u, eu, _⟩ := one_num (ho _ (getD_mem11 (d := []) (show 1 < ks.length by omega))) h61
            rw [eu] at h62 c1 ⊢
            rw [eu] at hl
            rcases d with _ | d
            · have h9 : ([((1, u, [], []) : Nd)] : List Nd).length = 1 := rfl
              rw [h9] at hl
              omega
            rcases l with _ | l
            · exact absurd c1 (by show (2 : Int) ≠ 0; decide)
            · rw [val_num]
              exact h62
          generalize val10 ps d (ks.getD 1 []) 0 xs (l, 0) = r at c1 l1 w1 hdiv ⊢
          obtain ⟨v', l', c⟩ := r
          simp only at c1 l1 w1 hdiv ⊢
          subst c1
          have hdb : doneB n.1 v v' = true := by
            obtain ⟨d3, d4, d5, d6, _⟩ := done_in n.1 v v' ⟨⟨w0.1, w0.2⟩, w1.1, w1.2⟩
            rcases (show n.1 = 3 ∨ n.1 = 4 ∨ n.1 = 5 ∨ n.1 = 6 by omega) with e | e | e | e
            · exact (d3 e).2
            · exact (d4 e).2
            · exact (d5 e).2
            · exact (d6 e (hdiv e)).2
          rw [hdb]
          refine ⟨rfl, ?_⟩
          show f + 1 ≤ l' + _
          omega
/-- Folded without arguments it is one number. -/
theorem PureT.num {s : List Nd} (h : PureT s) : (∀ n ∈ s, n.1 ≠ 2) → ∀ {r : List Nd}, Fo s r → ∃ v, r = [((1, v, [], []) : Nd)] ∧ Word10 v := by
  induction h with
  | mk n ks hn hk ho h8 h6 hp ih =>
    intro h2 r hfo
    generalize hs : n :: ks.flatten = s at hfo
    cases hfo with
    | mk m js rs hm hj hr hoj hfj =>
      injection hs with e1 e2
      subst e1
      obtain rfl := ones_inj ho hoj (by omega) e2
      have hkid : ∀ i, i < ks.length → ∃ v, rs.getD i [] = [((1, v, [], []) : Nd)] ∧ Word10 v := fun i hi => ih _ (getD_mem11 hi) (fun x hx => h2 x (by
        rw [← e2]
        exact List.mem_cons_of_mem _ (List.mem_flatten.2 ⟨_, getD_mem11 hi, hx⟩))) (hfj i hi)
      have hnd := nodeB_iff.1 hn
      unfold nodeP at hnd
      have h22 := h2 n (by rw [← e2]; exact List.mem_cons_self)
      have hone : ∀ v : Int, isOne11 [((1, v, [], []) : Nd)] = true := fun v => rfl
      rcases hnd with h | h | h | h
      · have hk0 : kidsN n = 0 := by unfold kidsN; rw [if_neg (by omega), if_neg (by omega), if_neg (by omega)]
        have hrs : rs = [] := List.eq_nil_of_length_eq_zero (by omega)
        subst hrs
        obtain ⟨k, v, p, q⟩ := n
        simp only at h
        obtain ⟨rfl, ⟨h3, h4⟩, rfl, rfl⟩ := h
        exact ⟨v, rfl, h3, h4⟩
      · exact absurd h.1 h22
      · by_cases h7 : n.1 = 7
        · have h3 := kids_seven h7
          obtain ⟨v0, r0, _⟩ := hkid 0 (by omega)
          obtain ⟨v1, r1, w1⟩ := hkid 1 (by omega)
          obtain ⟨v2, r2, w2⟩ := hkid 2 (by omega)
          unfold mk11
          rw [if_neg (by omega), if_pos h7, r0, r1, r2, hone, if_pos rfl]
          split
          · exact ⟨v2, rfl, w2⟩
          · exact ⟨v1, rfl, w1⟩
        · have h36 : 3 ≤ n.1 ∧ n.1 ≤ 6 := by omega
          have h3 := kids_four h36
          obtain ⟨v0, r0, w0⟩ := hkid 0 (by omega)
          obtain ⟨v1, r1, w1⟩ := hkid 1 (by omega)
          have hdiv : n.1 = 6 → v1 ≠ 0 := fun e => by
            obtain ⟨h61, h62⟩ := h6 e
            have ho1 := ho _ (getD_mem11 (d := []) (show 1 < ks.length by omega))
            obtain ⟨u, eu, wu⟩ := one_num ho1 h61
            have hf1 := hfj 1 (by omega)
            rw [eu] at hf1 h62
            have hn1 : nodeB ((1, u, [], []) : Nd) = true := decide_eq_true (Or.inl ⟨rfl, ⟨wu.1, wu.2⟩, rfl, rfl⟩)
            have hself : Fo [((1, u, [], []) : Nd)] [((1, u, [], []) : Nd)] := Fo.mk (1, u, [], []) [] [] hn1 rfl rfl (fun k hk => by cases hk) (fun i hi => absurd hi (Nat.not_lt_zero _))
            have e3 := hf1.uniq hself
            rw [r1] at e3
            simp only [List.cons.injEq, Prod.mk.injEq, and_true, true_and] at e3
            rw [e3]
            exact h62
          have hdb : doneB n.1 v0 v1 = true := by
            obtain ⟨d3, d4, d5, d6, _⟩ := done_in n.1 v0 v1 ⟨⟨w0.1, w0.2⟩, w1.1, w1.2⟩
            rcases (show n.1 = 3 ∨ n.1 = 4 ∨ n.1 = 5 ∨ n.1 = 6 by omega) with e | e | e | e
            · exact (d3 e).2
            · exact (d4 e).2
            · exact (d5 e).2
            · exact (d6 e (hdiv e)).2
          unfold mk11
          rw [if_pos h36, r0, r1]
          simp only [hone, Bool.and_self, if_true, List.getD_cons_zero]
          rw [if_pos hdb]
          exact ⟨_, rfl, doneV_bd _ _ _⟩
      · exact absurd h.1 h8

end Go.Proofs.Ytkjojhkpoooimaa

/-! Plain facts of chapter 11: Pure, as the code asks it. -/
namespace Go.Proofs.Ytkjojhkpoooimaa
open Go.RowKit

/-- What is asked of each node. -/
def pure1 (t : List Nd) (i : Nat) : Prop := (t.getD i nd0).1 ≠ 8 ∧ ((t.getD i nd0).1 = 6 → (t.getD ((pts10 t (i : Int)).getD 1 0).toNat nd0).1 = 1 ∧ (t.getD ((pts10 t (i : Int)).getD 1 0).toNat nd0).2.1 ≠ 0)
instance (t : List Nd) (i : Nat) : Decidable (pure1 t i) := by unfold pure1; infer_instance
def pureB (t : List Nd) : Bool := treeB t && decide (∀ i, i < t.length → pure1 t i)
theorem head_sub {t k post : List Nd} {q : Nat} (h : t.drop q = k ++ post) (hp : 0 < k.length) : t.getD q nd0 = k.getD 0 nd0 := by
  cases k with
  | nil => simp at hp
  | cons x r =>
    have h1 := congrArg List.head? h
    rw [List.head?_drop] at h1
    simp at h1
    simp [List.getD, h1]
theorem pure_sub {t : List Nd} (h : ∀ i, i < t.length → pure1 t i) {s : List Nd} (hs : One s) : ∀ {post : List Nd} {a : Nat}, t.drop a = s ++ post → PureT s := by
  induction hs with
  | mk n ks hn hk ho ih =>
    intro post a ht
    obtain ⟨e1, e2, e3⟩ := pts_sub ht hk ho
    have ha : a < t.length := by
      rcases Nat.lt_or_ge a t.length with h1 | h1
      · exact h1
      · rw [List.drop_eq_nil_of_le h1] at ht
        cases ht
    obtain ⟨p1, p2⟩ := h a ha
    rw [e1] at p1 p2
    refine PureT.mk n ks hn hk ho p1 (fun h6 => ?_) (fun k hk1 => ?_)
    · have hk2 := kids_four (n := n) (by omega)
      obtain ⟨post', e4, e5⟩ := e3 1 (by omega)
      have h7 := p2 h6
      rw [e4, Int.toNat_natCast] at h7
      have e6 := head_sub e5 (ho _ (getD_mem11 (d := []) (show 1 < ks.length by omega))).pos
      rw [e6] at h7
      exact h7
    · obtain ⟨i, hi, e⟩ := mem_getD (d := []) hk1
      obtain ⟨post', _, e5⟩ := e3 i hi
      rw [← e]
      exact ih _ (getD_mem11 hi) e5
theorem pureB_pure {t : List Nd} (h : pureB t = true) : treeB t = true ∧ PureT t := by
  unfold pureB at h
  rw [Bool.and_eq_true, decide_eq_true_eq] at h
  exact ⟨h.1, pure_sub h.2 (treeB_one.1 h.1).2 (post := []) (a := 0) (by simp)⟩

end Go.Proofs.Ytkjojhkpoooimaa

/-! The contracts of chapter 11's specification: FoldedTree and Pure. -/
namespace Go.Proofs.Ytkjojhkpoooimaa
open Go.RowKit

theorem endGo_tail : ∀ (l : List Nd) (o : Nat), endGo l o = some l.length → ∀ j, j < l.length → ∃ d, endGo (l.drop j) 1 = some d
  | [], _, _, j, hj => by simp at hj
  | n :: r, 0, h, _, _ => by rw [endGo_zero] at h; simp at h
  | n :: r, o + 1, h, 0, _ => by
    rw [show o + 1 = 1 + o by omega, endGo_add] at h
    rw [List.drop_zero]
    cases he : endGo (n :: r) 1 with
    | none => rw [he] at h; cases h
    | some d => exact ⟨d, rfl⟩
  | n :: r, o + 1, h, j + 1, hj => by
    rw [endGo_cons] at h
    split at h
    · cases he : endGo r (o + kidsN n) with
      | none => rw [he] at h; cases h
      | some e =>
        rw [he] at h
        simp only [Option.map_some, Option.some.injEq, List.length_cons] at h
        have e1 : e = r.length := by omega
        rw [e1] at he
        rw [List.drop_succ_cons]
        exact endGo_tail r _ he j (by simpa using hj)
    · cases h
/-- Every node of a tree has an end. -/
theorem tree_ends {t : List Nd} (h : One t) {i : Nat} (hi : i < t.length) : 0 ≤ endV t (i : Int) := by
  have h1 := h.end_ []
  rw [List.append_nil] at h1
  obtain ⟨d, hd⟩ := endGo_tail t 1 h1 i hi
  rw [endV_nat, endN_some hd hi]
  omega

set_option maxHeartbeats 4000000 in
set_option maxRecDepth 100000 in
theorem specPure (a : Option Addr) (len cap : Nat) (ns : List Nd) (w : World) (hin : NodesIn w a len ns) (hsh : ShortT ns) (hlen : len ≤ 1048576) :
    Calls Try.prog 10 #[.slice a len cap] w fun e w' => e = .returned (.bool (pureB ns)) ∧ Below w.heap.size w w' := by
  obtain rfl : ns.length = len := hin.1
  have HT : Hid (_) := specTreeOk a ns.length cap ns w hin hsh hlen
  have HI : Hid (NodesIn w a ns.length ns) := hin
  have HSh : Hid (ShortT ns) := hsh
  rcases hb : treeB ns with _ | _
  · rw [hb] at HT
    have HF : Hid (pureB ns = false) := by exact (by unfold pureB; rw [hb]; rfl : pureB ns = false)
    clear hin hb
    go_enter Try.func10, Try.ntmps10
    go_wp2_with fail
    refine Calls.mono HT.out ?_
    rintro e w1 ⟨rfl, hb1⟩
    go_wp2
    go_ret
    exact ⟨by rw [HF.out]; rfl, hb1⟩
  · rw [hb] at HT
    obtain ⟨hl, ho⟩ := treeB_one.1 hb
    have HGo : Hid (Good10 ns) := ho.good
    have HPu : Hid (pureB ns = decide (∀ i, i < ns.length → pure1 ns i)) := by exact (by unfold pureB; rw [hb]; rfl : pureB ns = decide (∀ i, i < ns.length → pure1 ns i))
    have HEn : Hid (∀ i, i < ns.length → 0 ≤ endV ns (i : Int)) := fun i hi => tree_ends ho hi
    clear hin hb ho
    go_enter Try.func10, Try.ntmps10
    go_wp2_with fail
    refine Calls.mono HT.out ?_
    rintro e w1 ⟨rfl, hb1⟩
    have HB0 : Hid (Below w.heap.size w w1) := hb1
    clear hb1
    go_wp2
    go_loopw [3] (fun iv wx => ∃ i : Nat, iv = .int .i64 (i : Int) ∧ i ≤ ns.length ∧ Hid (∀ j, j < i → pure1 ns j) ∧ Hid (Below w.heap.size w wx)) (fun iv _ => ns.length - (intOf iv).toNat)
    case atStart => exact ⟨0, rfl, Nat.zero_le _, (fun j hj => absurd hj (Nat.not_lt_zero _)), HB0⟩
    case round =>
      obtain ⟨i, rfl, hi, HPj, HBr⟩ := hrel
      clear HB0
      by_cases hlt : (i : Int) < (ns.length : Int)
      · have hi2 : i < ns.length := by omega
        obtain ⟨b, off, rfl, hbl, c0, c1, c2, c3⟩ := (HI.out.below HBr.out).2 i hi2
        have hmem : ns.getD i nd0 ∈ ns := by simp [List.getD, hi2]
        have HNx : Hid (pure1 ns i → ∀ j, j < i + 1 → pure1 ns j) := fun h j hj => by
          rcases Nat.lt_or_ge j i with h1 | h1
          · exact HPj.out j h1
          · obtain rfl : j = i := by omega
            exact h
        have HNo : Hid (¬ pure1 ns i → pureB ns = false) := fun h => by rw [HPu.out]; exact decide_eq_false (fun e => h (e i hi2))
        by_cases h8 : (ns.getD i nd0).1 = 8
        · have HF : Hid (pureB ns = false) := HNo.out (fun e => e.1 h8)
          rw [h8] at c0
          clear h8 hmem c1 c2 c3 HNx HNo
          go_wp2
          go_ret
          exact ⟨by rw [HF.out]; rfl, HBr.out⟩
        have h8b : ((ns.getD i nd0).1 == 8) = false := beq_eq_false_iff_ne.2 h8
        by_cases h6 : (ns.getD i nd0).1 = 6
        · have hk2 : kidsN (ns.getD i nd0) = 2 := kids_four (by omega)
          have HPt : Hid (_) := specParts (some ⟨b, off, none⟩) cap ns i wr (HI.out.below HBr.out) HSh.out (by omega) hi2 (HGo.out _ hmem)
          obtain ⟨q, hq, hql, _⟩ := part_place (HEn.out i hi2) (i := 1) (by omega)
          have hpe : partsGo ns (kidsN (ns.getD i nd0)) ((i : Int) + 1) = pts10 ns (i : Int) := by unfold pts10; rw [Int.toNat_natCast]
          have hpl := pts_len ns i
          rw [hpe, hk2] at HPt
          rw [hk2] at hpl
          have HD : Hid (pure1 ns i ↔ ((ns.getD q nd0).1 = 1 ∧ (ns.getD q nd0).2.1 ≠ 0)) := by
            unfold pure1
            rw [hq, Int.toNat_natCast]
            exact ⟨fun e => e.2 h6, fun e => ⟨h8, fun _ => e⟩⟩
          have hq1 : (pts10 ns (i : Int)).getD 1 0 = (q : Int) := hq
          generalize pts10 ns (i : Int) = pts at HPt hpl hq1
          rw [h6] at c0
          have hq2 : (q : Int) < (ns.length : Int) := by omega
          clear h6 h8 h8b hmem hpe hk2 hq c1 c2 c3
          go_wp2_with fail
          refine Calls.mono HPt.out ?_
          rintro e V ⟨v, rfl, ho, hb2⟩
          obtain ⟨gp, cp, rfl⟩ := own_some ho (by omega)
          have p1 : V.cell? ⟨gp, 1, none⟩ = some (.int .i64 (q : Int)) := by
            have h := ho.cellAt 1 (by omega)
            rw [h, intsV_at pts 1 (by omega), ← hq1]
            simp [List.getD, show 1 < pts.length by omega]
          have HBV : Hid (Below w.heap.size w V) := HBr.out.trans (hb2.mono HBr.out.size)
          obtain ⟨b', off', eb, hbl', k0, k1, k2, k3⟩ := (HI.out.below HBV.out).2 q hql
          simp only [Option.some.injEq, Addr.mk.injEq, and_true] at eb
          obtain ⟨rfl, rfl⟩ := eb
          obtain ⟨m, hm⟩ : ∃ m, ns.getD q nd0 = m := ⟨_, rfl⟩
          rw [hm] at k0 k1 k2 k3 HD
          obtain ⟨mk, mA, mp, mf⟩ := m
          simp only at k0 k1 k2 k3 HD
          obtain ⟨⟨n0, n1, n2, n3⟩, hbg⟩ := node_new V (.int .i64 mk) (.int .i64 mA) (.string ⟨mp.toArray⟩) (.string ⟨mf.toArray⟩) 28
          obtain ⟨X, hX⟩ : ∃ X, V.alloc (.cells #[.int .i64 mk, .int .i64 mA, .string ⟨mp.toArray⟩, .string ⟨mf.toArray⟩] 28) = X := ⟨_, rfl⟩
          obtain ⟨N, hN⟩ : ∃ N, V.heap.size = N := ⟨_, rfl⟩
          rw [hX] at n0 n1 n2 n3 hbg
          rw [hN] at n0 n1 n2 n3
          have HBX : Hid (Below w.heap.size w X) := HBV.out.trans (hbg.mono HBV.out.size)
          clear ho hb2 hbg hm HPt
          by_cases hk1 : mk = 1
          · subst hk1
            by_cases hA : mA = 0
            · subst hA
              have HF : Hid (pureB ns = false) := HNo.out (fun e => (HD.out.1 e).2 rfl)
              clear HNx HNo HD
              go_wp2
              go_ret
              exact ⟨by rw [HF.out]; rfl, HBX.out⟩
            · have hAb : (mA == 0) = false := beq_eq_false_iff_ne.2 hA
              have HP2 : Hid (∀ j, j < i + 1 → pure1 ns j) := HNx.out (HD.out.2 ⟨rfl, hA⟩)
              clear HNx HNo HD hA
              go_wp2
              go_roundw
              case rel => exact ⟨i + 1, by go_num, by omega, HP2, HBX⟩
              case measure => simp [intOf]; omega
          · have hkb : (mk != 1) = true := by rw [bne_iff_ne]; exact hk1
            have HF : Hid (pureB ns = false) := HNo.out (fun e => hk1 (HD.out.1 e).1)
            clear HNx HNo HD hk1
            go_wp2
            go_ret
            exact ⟨by rw [HF.out]; rfl, HBX.out⟩
        · have h6b : ((ns.getD i nd0).1 == 6) = false := beq_eq_false_iff_ne.2 h6
          have HP2 : Hid (∀ j, j < i + 1 → pure1 ns j) := HNx.out ⟨h8, fun e => absurd e h6⟩
          generalize (ns.getD i nd0).1 = kd at c0 h6b h8b
          clear h6 h8 hmem c1 c2 c3 HNx HNo
          go_wp2
          go_roundw
          case rel => exact ⟨i + 1, by go_num, by omega, HP2, HBr⟩
          case measure => simp [intOf]; omega
      · have HF : Hid (pureB ns = true) := by
          exact (by rw [HPu.out]; exact decide_eq_true (fun j hj => HPj.out j (by omega)) : pureB ns = true)
        go_wp2
        go_ret
        exact ⟨by rw [HF.out]; rfl, HBr.out⟩

end Go.Proofs.Ytkjojhkpoooimaa

/-! Rows of nodes that are alike. -/
namespace Go.Proofs.Ytkjojhkpoooimaa
open Go.RowKit

end Go.Proofs.Ytkjojhkpoooimaa

/-! Plain facts for chapter 6's landed code: shapes, and what words are read as. -/
namespace Go.Proofs.Ytkjojhkpoooimaa
open Go.RowKit

/-- A shape: what a node tells by its kind. -/
inductive Sh where
  | num (a : Int)
  | arg (a : Int)
  | pair (k : Int)
  | cond
  | call (p f : List UInt8) (a : Int)
  | no

def shOf (n : Nd) : Sh :=
  if n.1 = 1 then .num n.2.1
  else if n.1 = 2 then .arg n.2.1
  else if 3 ≤ n.1 ∧ n.1 ≤ 6 then .pair n.1
  else if n.1 = 7 then .cond
  else if n.1 = 8 then .call n.2.2.1 n.2.2.2 n.2.1
  else .no

def shNode : Sh → Nd
  | .num a => (1, a, [], [])
  | .arg a => (2, a, [], [])
  | .pair k => (k, 0, [], [])
  | .cond => (7, 0, [], [])
  | .call p f a => (8, a, p, f)
  | .no => (0, 0, [], [])

def shOk : Sh → Bool
  | .num a => inB a (-2147483648) 2147483647
  | .arg a => inB a 0 2
  | .pair _ => true
  | .cond => true
  | .call p f a => inB a 0 3 && (nameB p && nameB f)
  | .no => false

def shKids : Sh → Int
  | .num _ => 0
  | .arg _ => 0
  | .pair _ => 2
  | .cond => 3
  | .call _ _ a => a
  | .no => -1

def shWord : Sh → List UInt8
  | .num a => intL a
  | .arg a => 36 :: intL a
  | .pair k => if k = 3 then [43] else if k = 4 then [45] else if k = 5 then [42] else [47]
  | .cond => [63]
  | .call p f a => (64 :: p) ++ [46] ++ f ++ [47] ++ intL a
  | .no => []

theorem shOf_kinds (n : Nd) : (n.1 = 1 ∧ shOf n = .num n.2.1) ∨ (n.1 = 2 ∧ shOf n = .arg n.2.1) ∨ ((3 ≤ n.1 ∧ n.1 ≤ 6) ∧ shOf n = .pair n.1) ∨ (n.1 = 7 ∧ shOf n = .cond) ∨ (n.1 = 8 ∧ shOf n = .call n.2.2.1 n.2.2.2 n.2.1) ∨ ((n.1 < 1 ∨ 8 < n.1) ∧ shOf n = .no) := by
  by_cases h1 : n.1 = 1
  · exact Or.inl ⟨h1, if_pos h1⟩
  by_cases h2 : n.1 = 2
  · exact Or.inr (Or.inl ⟨h2, by unfold shOf; rw [if_neg h1, if_pos h2]⟩)
  by_cases h3 : 3 ≤ n.1 ∧ n.1 ≤ 6
  · exact Or.inr (Or.inr (Or.inl ⟨h3, by unfold shOf; rw [if_neg h1, if_neg h2, if_pos h3]⟩))
  by_cases h7 : n.1 = 7
  · exact Or.inr (Or.inr (Or.inr (Or.inl ⟨h7, by unfold shOf; rw [if_neg h1, if_neg h2, if_neg h3, if_pos h7]⟩)))
  by_cases h8 : n.1 = 8
  · exact Or.inr (Or.inr (Or.inr (Or.inr (Or.inl ⟨h8, by unfold shOf; rw [if_neg h1, if_neg h2, if_neg h3, if_neg h7, if_pos h8]⟩))))
  · exact Or.inr (Or.inr (Or.inr (Or.inr (Or.inr ⟨by omega, by unfold shOf; rw [if_neg h1, if_neg h2, if_neg h3, if_neg h7, if_neg h8]⟩))))

/-- A node is right where its shape is, and it tells no more. -/
theorem node_sh (n : Nd) : nodeB n = (shOk (shOf n) && decide (shNode (shOf n) = n)) := by
  rw [Bool.eq_iff_iff, nodeB_iff, Bool.and_eq_true, decide_eq_true_iff]
  obtain ⟨k, a, p, f⟩ := n
  rcases shOf_kinds (k, a, p, f) with ⟨h, e⟩ | ⟨h, e⟩ | ⟨h, e⟩ | ⟨h, e⟩ | ⟨h, e⟩ | ⟨h, e⟩
  · rw [e]; simp only at h; subst h
    unfold nodeP shOk shNode inB
    simp [@eq_comm (List UInt8) [] p, @eq_comm (List UInt8) [] f]
  · rw [e]; simp only at h; subst h
    unfold nodeP shOk shNode inB
    simp [@eq_comm (List UInt8) [] p, @eq_comm (List UInt8) [] f]
  · rw [e]; simp only at h
    unfold nodeP shOk shNode
    simp only [Prod.mk.injEq, true_and]
    constructor
    · rintro (⟨h1, _⟩ | ⟨h1, _⟩ | ⟨_, h2, h3, h4⟩ | ⟨h1, _⟩)
      · omega
      · omega
      · exact ⟨h2.symm, h3.symm, h4.symm⟩
      · omega
    · rintro ⟨h2, h3, h4⟩
      exact Or.inr (Or.inr (Or.inl ⟨by omega, h2.symm, h3.symm, h4.symm⟩))
  · rw [e]; simp only at h; subst h
    unfold nodeP shOk shNode
    simp [@eq_comm (List UInt8) [] p, @eq_comm (List UInt8) [] f, @eq_comm Int 0 a]
  · rw [e]; simp only at h; subst h
    unfold nodeP shOk shNode inB
    simp
  · rw [e]; simp only at h
    unfold nodeP shOk shNode
    simp
    omega

theorem kids_sh {n : Nd} (h : nodeB n = true) : shKids (shOf n) = kidsV n := by
  unfold kidsV
  rcases shOf_kinds n with ⟨h, e⟩ | ⟨h, e⟩ | ⟨h, e⟩ | ⟨h, e⟩ | ⟨h, e⟩ | ⟨h1, e⟩
  · rw [e, if_neg (by omega), if_neg (by omega), if_neg (by omega)]; rfl
  · rw [e, if_neg (by omega), if_neg (by omega), if_neg (by omega)]; rfl
  · rw [e, if_pos h]; rfl
  · rw [e, if_neg (by omega), if_pos h]; rfl
  · rw [e, if_neg (by omega), if_neg (by omega), if_pos h]; rfl
  · have := nodeB_iff.1 h
    unfold nodeP at this
    omega

/-- A text cut at a byte: what is ahead of it, what is behind it. -/
def cutA (b : UInt8) (l : List UInt8) : List UInt8 := l.takeWhile (fun c => c != b)
def cutB (b : UInt8) (l : List UInt8) : List UInt8 := (l.dropWhile (fun c => c != b)).tail

/-- The shape of a word. -/
noncomputable def shIn (s : List UInt8) : Sh :=
  if numB s = true then .num (numV s)
  else if s = [63] then .cond
  else if s = [43] then .pair 3
  else if s = [45] then .pair 4
  else if s = [42] then .pair 5
  else if s = [47] then .pair 6
  else if s.head? = some 36 then .arg (numV s.tail)
  else if s.head? = some 64 then .call (cutA 46 (cutA 47 s.tail)) (cutB 46 (cutA 47 s.tail)) (numV (cutB 47 s.tail))
  else .no

/-- The landed ReadTree's list. -/
noncomputable def inT (s : List UInt8) : List Nd := (splitL 32 s).map (fun x => shNode (shIn x))

end Go.Proofs.Ytkjojhkpoooimaa

/-! The contracts of chapter 4's landed code: WordOk, Wrap, Done. -/
namespace Go.Proofs.Ytkjojhkpoooimaa
open Go.RowKit

set_option maxHeartbeats 400000 in
set_option maxRecDepth 100000 in
theorem implWordOkS (n : Int) (w : World) : Calls Try.prog 111 #[.int .i64 n] w fun e w' => e = .returned (.bool (inB n (-2147483648) 2147483647)) ∧ w' = w := by
  by_cases h1 : -2147483648 ≤ n
  · by_cases h2 : n ≤ 2147483647
    · have hB : Hid (inB n (-2147483648) 2147483647 = true) := inB_yes _ _ _ h1 h2
      go_enter Try.func111, Try.ntmps111
      go_wp2
      go_ret
      exact ⟨by rw [hB.out]; rfl, rfl⟩
    · have hB : Hid (inB n (-2147483648) 2147483647 = false) := inB_no _ _ _ (Or.inr (by omega))
      go_enter Try.func111, Try.ntmps111
      go_wp2
      go_ret
      exact ⟨by rw [hB.out]; rfl, rfl⟩
  · have hB : Hid (inB n (-2147483648) 2147483647 = false) := inB_no _ _ _ (Or.inl (by omega))
    go_enter Try.func111, Try.ntmps111
    go_wp2
    go_ret
    exact ⟨by rw [hB.out]; rfl, rfl⟩

set_option maxHeartbeats 400000 in
set_option maxRecDepth 100000 in
theorem implWrapS (n : Int) (w : World) : Calls Try.prog 112 #[.int .i64 n] w fun e w' => e = .returned (.int .i64 (wrapW n)) ∧ w' = w := by
  go_enter Try.func112, Try.ntmps112
  go_wp2
  go_ret
  exact ⟨ret_int (wrapWW n), rfl⟩

set_option maxHeartbeats 2000000 in
set_option maxRecDepth 100000 in
theorem implDoneS (kind a b : Int) (w : World) :
    Calls Try.prog 96 #[.int .i64 kind, .int .i64 a, .int .i64 b] w fun e w' => e = .returned (.tuple #[.int .i64 (doneV kind a b), .bool (doneB kind a b)]) ∧ w' = w := by
  by_cases ha : -2147483648 ≤ a ∧ a ≤ 2147483647
  · have da : inB a (-2147483648) 2147483647 = true := inB_yes _ _ _ ha.1 ha.2
    by_cases hb : -2147483648 ≤ b ∧ b ≤ 2147483647
    · have db : inB b (-2147483648) 2147483647 = true := inB_yes _ _ _ hb.1 hb.2
      obtain ⟨h3, h4, h5, h6, h0⟩ := done_in kind a b ⟨ha, hb⟩
      obtain ⟨hm1, hm2⟩ := mul_bd a b ha hb
      obtain ⟨ha1, ha2⟩ := ha
      obtain ⟨hb1, hb2⟩ := hb
      by_cases k4 : kind = 4
      · have HO : Hid (doneV kind a b = wrapW (a + -b) ∧ doneB kind a b = true) := h4 k4
        clear h3 h4 h5 h6 h0
        subst k4
        go_enter Try.func96, Try.ntmps96
        go_wp2_with (first | (go_at_call 112; refine (implWrapS _ _).mono ?_; rintro e w' ⟨rfl, rfl⟩) | (go_at_call 111; refine (implWordOkS _ _).mono ?_; rintro e w' ⟨rfl, rfl⟩))
        go_ret2
        exact ⟨by rw [HO.out.1, HO.out.2]; rfl, rfl⟩
      · have d4 : (kind == 4) = false := beq_eq_false_iff_ne.2 k4
        by_cases k3 : kind = 3
        · have HO : Hid (doneV kind a b = wrapW (a + b) ∧ doneB kind a b = true) := h3 k3
          clear h3 h4 h5 h6 h0 d4 k4
          subst k3
          go_enter Try.func96, Try.ntmps96
          go_wp2_with (first | (go_at_call 112; refine (implWrapS _ _).mono ?_; rintro e w' ⟨rfl, rfl⟩) | (go_at_call 111; refine (implWordOkS _ _).mono ?_; rintro e w' ⟨rfl, rfl⟩))
          go_ret2
          exact ⟨by rw [HO.out.1, HO.out.2]; rfl, rfl⟩
        · have d3 : (kind == 3) = false := beq_eq_false_iff_ne.2 k3
          by_cases k5 : kind = 5
          · have HO : Hid (doneV kind a b = wrapW (a * b) ∧ doneB kind a b = true) := h5 k5
            clear h3 h4 h5 h6 h0 d3 k3 d4 k4
            subst k5
            go_enter Try.func96, Try.ntmps96
            go_wp2_with (first | (go_at_call 112; refine (implWrapS _ _).mono ?_; rintro e w' ⟨rfl, rfl⟩) | (go_at_call 111; refine (implWordOkS _ _).mono ?_; rintro e w' ⟨rfl, rfl⟩))
            go_ret2
            exact ⟨by rw [HO.out.1, HO.out.2]; rfl, rfl⟩
          · have d5 : (kind == 5) = false := beq_eq_false_iff_ne.2 k5
            by_cases k6 : kind = 6
            · by_cases kb : b = 0
              · have HO : Hid (doneV kind a b = 0 ∧ doneB kind a b = false) := h0 k3 k4 k5 (fun h => h.2 kb)
                clear h3 h4 h5 h6 h0 d3 k3 d4 k4 d5 k5
                subst k6 kb
                go_enter Try.func96, Try.ntmps96
                go_wp2_with (first | (go_at_call 112; refine (implWrapS _ _).mono ?_; rintro e w' ⟨rfl, rfl⟩) | (go_at_call 111; refine (implWordOkS _ _).mono ?_; rintro e w' ⟨rfl, rfl⟩))
                go_ret2
                exact ⟨by rw [HO.out.1, HO.out.2]; rfl, rfl⟩
              · have HO : Hid (doneV kind a b = wrapW (a.tdiv b) ∧ doneB kind a b = true) := h6 k6 kb
                have dz : (b == 0) = false := beq_eq_false_iff_ne.2 kb
                have dy : (b != 0) = true := bne_iff_ne.2 kb
                obtain ⟨hq1, hq2⟩ := tdiv_bd a b ⟨ha1, ha2⟩
                clear h3 h4 h5 h6 h0 d3 k3 d4 k4 d5 k5
                subst k6
                go_enter Try.func96, Try.ntmps96
                go_wp2_with (first | (go_at_call 112; refine (implWrapS _ _).mono ?_; rintro e w' ⟨rfl, rfl⟩) | (go_at_call 111; refine (implWordOkS _ _).mono ?_; rintro e w' ⟨rfl, rfl⟩))
                go_ret2
                exact ⟨by rw [HO.out.1, HO.out.2]; rfl, rfl⟩
            · have HO : Hid (doneV kind a b = 0 ∧ doneB kind a b = false) := h0 k3 k4 k5 (fun h => k6 h.1)
              have d6 : (kind == 6) = false := beq_eq_false_iff_ne.2 k6
              clear h3 h4 h5 h6 h0 k3 k4 k5 k6
              go_enter Try.func96, Try.ntmps96
              go_wp2_with (first | (go_at_call 112; refine (implWrapS _ _).mono ?_; rintro e w' ⟨rfl, rfl⟩) | (go_at_call 111; refine (implWordOkS _ _).mono ?_; rintro e w' ⟨rfl, rfl⟩))
              go_ret2
              exact ⟨by rw [HO.out.1, HO.out.2]; rfl, rfl⟩
    · have db : inB b (-2147483648) 2147483647 = false := inB_no _ _ _ (by omega)
      have HO : Hid (doneV kind a b = 0 ∧ doneB kind a b = false) := done_no kind a b (fun h => hb h.2)
      clear ha hb
      go_enter Try.func96, Try.ntmps96
      go_wp2_with (first | (go_at_call 112; refine (implWrapS _ _).mono ?_; rintro e w' ⟨rfl, rfl⟩) | (go_at_call 111; refine (implWordOkS _ _).mono ?_; rintro e w' ⟨rfl, rfl⟩))
      go_ret2
      exact ⟨by rw [HO.out.1, HO.out.2]; rfl, rfl⟩
  · have da : inB a (-2147483648) 2147483647 = false := inB_no _ _ _ (by omega)
    have HO : Hid (doneV kind a b = 0 ∧ doneB kind a b = false) := done_no kind a b (fun h => ha h.1)
    clear ha
    go_enter Try.func96, Try.ntmps96
    go_wp2_with (first | (go_at_call 112; refine (implWrapS _ _).mono ?_; rintro e w' ⟨rfl, rfl⟩) | (go_at_call 111; refine (implWordOkS _ _).mono ?_; rintro e w' ⟨rfl, rfl⟩))
    go_ret2
    exact ⟨by rw [HO.out.1, HO.out.2]; rfl, rfl⟩

end Go.Proofs.Ytkjojhkpoooimaa

/-! A scope in which the run jumps to several labels: what holds at every jump to each of them, and a measure that every pass from a label lowers. -/
namespace Go.Proofs.Ytkjojhkpoooimaa
open Go.RowKit

/-- As Q; by a goto to label l: J l. -/
def Hops (J : Nat → Act → World → Prop) (Q : Exit → Act → World → Prop) : Exit → Act → World → Prop
  | .goto l, a, w => J l a w
  | e, a, w => Q e a w

end Go.Proofs.Ytkjojhkpoooimaa

/-! The contract of strings.Clone: the same bytes, in memory of their own. -/
namespace Go.Proofs.Ytkjojhkpoooimaa
open Go.RowKit

theorem infoByte : (Try.prog.info? 5).map (fun i => (i.zero, i.size, i.bytes)) = some (some (.int .u8 0), 1, 1) := by kernel_rfl

set_option maxHeartbeats 4000000 in
set_option maxRecDepth 100000 in
theorem liteClone (s : ByteArray) (w : World) (hlim : s.size ≤ 281474976710656) :
    Calls Try.prog 88 #[.string s] w fun e w' => e = .returned (.string s) ∧ Below w.heap.size w w' := by
  by_cases h0 : s.size = 0
  · have hs : s = ⟨#[]⟩ := by
      apply ByteArray.ext
      exact Array.eq_empty_of_size_eq_zero h0
    subst hs
    go_enter Try.func88, Try.ntmps88
    go_wp2
    go_ret
    exact ⟨rfl, Below.refl _ _⟩
  · obtain ⟨i0, hi, hz0, hz1, hz2⟩ := info_parts infoByte
    have hinfo : (Try.prog.info? 5).map (·.size) = some 1 := by rw [hi]; simp [hz1]
    have hco : Try.prog.cellsOf 5 = 1 := by simp [Program.cellsOf, hi, hz1]
    obtain ⟨M, hM⟩ : ∃ M, M = madeCells (Value.int .u8 0).cells (((s.size : Nat) : Int).toNat * i0.size) := ⟨_, rfl⟩
    have hMs : M.size = s.size := by rw [hM, size_madeCells, hz1]; simp
    have hmk : ∀ W : World, (Instr.makeSlice 22 (.int .i64 (s.size : Int)) (.int .i64 (s.size : Int))).run Try.prog W = .ok (.slice (some ⟨W.heap.size, 0, none⟩) s.size s.size) (W.alloc (.cells M 5)) := fun W => by
      have h := run_make (P := Try.prog) W 22 5 i0 (.int .u8 0) Try.underlying22 hi hz0 .i64 .i64 (s.size : Int) (s.size : Int) (by omega) (by omega) (by rw [hz2]; omega) (by omega)
      rw [← hM] at h
      simpa using h
    clear hM
    have hcp := Lib.run_copy_row_string (P := Try.prog) (w.alloc (.cells M 5)) 22 9 3 5 w.heap.size 0 s.size s.size s M 5 Try.underlying22 hinfo (heap_alloc_new w _) (Nat.le_refl _) (by omega)
    obtain ⟨Y, hY⟩ : ∃ Y, Y = (M.toList.take 0 ++ Lib.byteCells s.data.toList ++ M.toList.drop (0 + s.size)).toArray := ⟨_, rfl⟩
    rw [← hY] at hcp
    have hYl : Y.toList = Lib.byteCells s.data.toList := by
      rw [hY, List.toList_toArray, List.take_zero, List.nil_append, List.drop_of_length_le (by rw [Array.length_toList]; omega), List.append_nil]
    have hYs : Y.size = s.size := by rw [← Array.length_toList, hYl, Lib.byteCells_length, ← Lib.size_eq]
    have hgY : ((w.alloc (.cells M 5)).setRow w.heap.size Y).heap[w.heap.size]? = some (.cells Y 5 (0, 0)) := setRow_heap _ _ M _ 5 (0, 0) (heap_alloc_new w _)
    have hne : s.data.toList ≠ [] := fun e => h0 (by rw [Lib.size_eq, e]; rfl)
    have hUS := Lib.run_unsafeString_row (P := Try.prog) ((w.alloc (.cells M 5)).setRow w.heap.size Y) 139 3 9 5 Try.underlying139 hco w.heap.size Y.size (by unfold World.shape?; rw [hgY]) s.data.toList hne (by rw [← Lib.size_eq]; omega) (by rw [← Lib.size_eq]; omega)
      (fun j x hx => Lib.cells_of_row hgY Y.size j _ (by rw [List.take_of_length_le (by rw [Array.length_toList]; exact Nat.le_refl _), hYl]; simp [Lib.byteCells, hx]))
    rw [← Lib.size_eq] at hUS
    clear hY
    go_enter Try.func88, Try.ntmps88
    go_wp2
    go_ret
    have hb1 : Below w.heap.size w (w.alloc (.cells M 5)) := (Below.refl _ w).alloc (Nat.le_refl _) _
    have hb2 : Below w.heap.size (w.alloc (.cells M 5)) ((w.alloc (.cells M 5)).setRow w.heap.size Y) := ⟨rfl, rfl, rfl, by simp, fun k hk => setRow_other _ _ _ _ (by omega)⟩
    exact ⟨rfl, Lib.below_freeze (hb1.trans hb2) (p := ⟨w.heap.size, 0, none⟩) (Nat.le_refl _) _⟩

set_option maxHeartbeats 400000 in
set_option maxRecDepth 100000 in
theorem stringsClone (l : List UInt8) (w : World) (hl : l.length ≤ 1048576) :
    Calls Try.prog 49 #[.string ⟨l.toArray⟩] w fun e w' => e = .returned (.string ⟨l.toArray⟩) ∧ Below w.heap.size w w' := by
  go_enter Try.func49, Try.ntmps49
  go_wp2_with fail
  refine (liteClone ⟨l.toArray⟩ _ (by have : (⟨l.toArray⟩ : ByteArray).size = l.length := List.size_toArray; omega)).mono ?_
  rintro e w1 ⟨rfl, hb⟩
  go_wp2
  go_ret
  exact ⟨rfl, hb⟩

end Go.Proofs.Ytkjojhkpoooimaa

/-! The contracts of chapter 5's landed code: the pieces between marks (labels and gotos), Lines, Words, NameOk, NumberOf. -/
namespace Go.Proofs.Ytkjojhkpoooimaa
open Go.RowKit




set_option maxHeartbeats 1000000 in
set_option maxRecDepth 100000 in
theorem implNameOkS (l : List UInt8) (w : World) (hl : l.length ≤ 1048576) :
    Calls Try.prog 85 #[.string ⟨l.toArray⟩] w fun e w' => e = .returned (.bool (nameB l)) ∧ w' = w := by
  go_enter Try.func85, Try.ntmps85
  go_wp2
  go_loop [6] (fun ix => ∃ k : Nat, k ≤ l.length ∧ ix = .int .i64 k ∧ Hid (∀ j (hj : j < l.length), j < k → 97 ≤ l[j].toNat ∧ l[j].toNat ≤ 122)) (fun ix => l.length - (intOf ix).toNat)
  case atStart => exact ⟨0, Nat.zero_le _, rfl, (fun j _ h => by omega : ∀ j (hj : j < l.length), j < 0 → _)⟩
  case round =>
    obtain ⟨k, hk, rfl, HK⟩ := hrel
    by_cases hkl : (k : Int) < (l.length : Int)
    · have hk2 : k < l.length := by omega
      obtain ⟨x, hx⟩ : ∃ x : UInt8, l[k] = x := ⟨_, rfl⟩
      have hxb : (⟨l.toArray⟩ : ByteArray)[k]'(by show k < l.toArray.size; simpa using hk2) = x := hx
      by_cases h1 : (x.toNat : Int) < 97
      · have HF : Hid (nameB l = false) := name_bad l k hk2 (by rw [hx]; omega)
        clear hx
        go_wp2
        go_ret
        exact ⟨by rw [HF.out]; rfl, rfl⟩
      · by_cases h2 : 122 < (x.toNat : Int)
        · have HF : Hid (nameB l = false) := name_bad l k hk2 (by rw [hx]; omega)
          clear hx
          go_wp2
          go_ret
          exact ⟨by rw [HF.out]; rfl, rfl⟩
        · have HS : Hid (∀ j (hj : j < l.length), j < k + 1 → 97 ≤ l[j].toNat ∧ l[j].toNat ≤ 122) := fun j hj hjk => by
            by_cases e : j = k
            · subst e; rw [hx]; omega
            · exact HK.out j hj (by omega)
          clear hx
          go_wp2
          go_round
          case rel => exact ⟨k + 1, by omega, by go_num, HS⟩
          case measure => simp [intOf]; omega
    · have HF : Hid (nameB l = inB (l.length : Int) 1 8) := name_good l (fun j hj => HK.out j hj (by omega))
      by_cases h1 : 1 ≤ (l.length : Int)
      · by_cases h2 : (l.length : Int) ≤ 8
        · have HB : Hid (inB (l.length : Int) 1 8 = true) := inB_yes _ _ _ h1 h2
          go_wp2
          go_ret
          exact ⟨by rw [HF.out, HB.out]; rfl, rfl⟩
        · have HB : Hid (inB (l.length : Int) 1 8 = false) := inB_no _ _ _ (by omega)
          go_wp2
          go_ret
          exact ⟨by rw [HF.out, HB.out]; rfl, rfl⟩
      · have HB : Hid (inB (l.length : Int) 1 8 = false) := inB_no _ _ _ (by omega)
        go_wp2
        go_ret
        exact ⟨by rw [HF.out, HB.out]; rfl, rfl⟩

end Go.Proofs.Ytkjojhkpoooimaa
