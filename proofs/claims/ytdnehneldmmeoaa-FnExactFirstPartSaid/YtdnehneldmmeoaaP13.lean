/-
  Parts of one proof, one behind the other: NeedM.
-/
import Derived.Test.YtdnehneldmmeoaaP12
import Derived.Test.YtdnehneldmmeoaaP4

/-! Plain facts of chapter 12's landed code: what it makes of a node's parts is what the tree takes there. -/
namespace Go.Proofs.Ytdnehneldmmeoaa
open Go.RowKit

theorem need_fuelO {s : List Nd} (h : One s) (os : List Int) : ∀ (d d' : Nat) (t post : List Nd) (a : Nat), s.length ≤ d → s.length ≤ d' → t.drop a = s ++ post → need12 d t os (a : Int) = need12 d' t os (a : Int) := by
  induction h with
  | mk n ks hn hk ho ih =>
    intro d d' t post a hd hd' ht
    rcases d with _ | d
    · simp at hd
    rcases d' with _ | d'
    · simp at hd'
    obtain ⟨e1, e2, e3⟩ := pts_sub ht hk ho
    rw [need12, need12]
    congr 1
    refine List.ext_getElem (by simp) (fun i h1 h2 => ?_)
    rw [List.length_map, e2] at h1
    obtain ⟨post', e4, e5⟩ := e3 i h1
    have hm : ks.getD i [] ∈ ks := getD_mem11 h1
    have hl : (ks.getD i []).length ≤ ks.flatten.length := (List.sublist_flatten_of_mem hm).length_le
    simp only [List.length_cons] at hd hd'
    have h3 := ih _ hm d d' t post' _ (by omega) (by omega) e5
    rw [← e4] at h3
    have hp : i < (pts10 t (a : Int)).length := by rw [e2]; exact h1
    simpa [List.getD, hp] using h3
def nd12 (t : List Nd) (os : List Int) (q : Nat) : Nat := (need12 60 t os (q : Int)).toNat
def stepN (F : Nat → Nat → Nat → Nat) (q : Nat) (n : Nd) (ks : List Nat) : Nat := if pairB n = true then F q (ks.getD 0 0) (ks.getD 1 0) else if n.1 = 8 then cn ks ks.length else gr ks

theorem gr_two (x y : Nat) : gr [x, y] = max (max 1 x) y := rfl
theorem cn_pos (ks : List Nat) : ∀ j, 1 ≤ cn ks j
  | 0 => Nat.le_refl 1
  | j + 1 => by rw [cn, gr_two]; omega
theorem most12_snoc : ∀ (l : List Int) (x i m : Int), most12 (l ++ [x]) i m = max (most12 l i m) (x + (i + l.length))
  | [], x, i, m => by simp [most12]
  | y :: r, x, i, m => by
    rw [List.cons_append, most12, most12, most12_snoc r x (i + 1) _]
    simp only [List.length_cons]
    rw [show x + (i + 1 + (r.length : Int)) = x + (i + ((r.length + 1 : Nat) : Int)) by omega]
theorem cn_most (l : List Int) (ks : List Nat) (hl : l.length = ks.length) (h : ∀ i, i < l.length → l.getD i 0 = (ks.getD i 0 : Int)) : ∀ j, j ≤ l.length → (cn ks j : Int) = most12 (l.take j) 0 1
  | 0, _ => by simp [cn, most12]
  | j + 1, hj => by
    have ih := cn_most l ks hl h j (by omega)
    have hp := cn_pos ks j
    have hx := h j (by omega)
    have hg : l.getD j 0 = l[j] := by simp [List.getD, show j < l.length by omega]
    rw [List.take_succ_eq_append_getElem (by omega), most12_snoc, ← hg, hx, ← ih, cn, gr_two, List.length_take, Nat.min_eq_left (by omega)]
    omega

/-- What the landed code makes of a node is what the tree takes there. -/
theorem nd_step {t : List Nd} {os : List Int} (ht : treeB t = true) {F : Nat → Nat → Nat → Nat} (hF : ∀ q x y : Nat, 1 ≤ x → 1 ≤ y → q < t.length → (F q x y : Int) = pair12 (ord12 os (q : Int)) x y) {q : Nat} (hq : q < t.length) :
    nd12 t os q = stepN F q (t.getD q nd0) ((pts10 t (q : Int)).map (fun p => nd12 t os p.toNat)) := by
  obtain ⟨h60, hone⟩ := treeB_one.1 ht
  have hend := tree_ends hone hq
  obtain ⟨s, post, e, hs⟩ := sub_of hend
  cases hs with
  | mk n ks hn hk ho =>
    obtain ⟨e1, e2, e3⟩ := pts_sub e hk ho
    have hlen : (n :: ks.flatten).length ≤ 60 := by
      have h2 := congrArg List.length e
      simp only [List.length_drop, List.length_append] at h2
      omega
    have hpart : ∀ i, i < ks.length → (nd12 t os ((pts10 t (q : Int)).getD i 0).toNat : Int) = need12 59 t os ((pts10 t (q : Int)).getD i 0) ∧ 1 ≤ need12 59 t os ((pts10 t (q : Int)).getD i 0) := fun i hi => by
      obtain ⟨post', e4, e5⟩ := e3 i hi
      have hm : ks.getD i [] ∈ ks := getD_mem11 hi
      have hl : (ks.getD i []).length ≤ ks.flatten.length := (List.sublist_flatten_of_mem hm).length_le
      simp only [List.length_cons] at hlen
      rw [e4]
      have h1 := need_fuelO (ho _ hm) os 60 59 t post' _ (by omega) (by omega) e5
      have h2 := need_bd (ho _ hm) os 59 t post' _ (by omega) e5
      unfold nd12
      rw [Int.toNat_natCast, h1]
      omega
    have hke : ∀ i, i < ks.length → ((pts10 t (q : Int)).map (fun p => nd12 t os p.toNat)).getD i 0 = nd12 t os ((pts10 t (q : Int)).getD i 0).toNat := fun i hi => by
      have hp : i < (pts10 t (q : Int)).length := by rw [e2]; exact hi
      simp [List.getD, hp]
    have hkn : ∀ i, i < ks.length → ((pts10 t (q : Int)).map (need12 59 t os)).getD i 0 = need12 59 t os ((pts10 t (q : Int)).getD i 0) := fun i hi => by
      rw [map_getD12 (by rw [e2]; exact hi)]
    have hgoal : (nd12 t os q : Int) = mk12 (ord12 os (q : Int)) n ((pts10 t (q : Int)).map (need12 59 t os)) := by
      have hbd := need_bd (One.mk n ks hn hk ho) os 60 t post q hlen e
      have hu : need12 60 t os (q : Int) = mk12 (ord12 os (q : Int)) n ((pts10 t (q : Int)).map (need12 59 t os)) := by rw [need12, Int.toNat_natCast, e1]
      unfold nd12
      rw [← hu]
      omega
    rw [e1]
    refine Int.ofNat.inj ?_
    show (nd12 t os q : Int) = ((stepN F q n _ : Nat) : Int)
    rw [hgoal]
    unfold mk12 stepN pairB
    by_cases h36 : 3 ≤ n.1 ∧ n.1 ≤ 6
    · have hk2 := kids_four h36
      have p0 := hpart 0 (by omega)
      have p1 := hpart 1 (by omega)
      rw [if_pos h36, if_pos (by rw [decide_eq_true h36.1, decide_eq_true h36.2]; rfl), hkn 0 (by omega), hkn 1 (by omega), hke 0 (by omega), hke 1 (by omega), hF q _ _ (by omega) (by omega) hq, p0.1, p1.1]
    · have hpb : ¬ (decide (3 ≤ n.1) && decide (n.1 ≤ 6)) = true := fun h => by
        rw [Bool.and_eq_true, decide_eq_true_iff, decide_eq_true_iff] at h
        exact h36 h
      rw [if_neg h36, if_neg hpb]
      by_cases h7 : n.1 = 7
      · have hk3 := kids_seven h7
        have p0 := hpart 0 (by omega)
        have p1 := hpart 1 (by omega)
        have p2 := hpart 2 (by omega)
        have hl3 : (pts10 t (q : Int)).length = 3 := by omega
        rw [if_pos h7, if_neg (by omega), hkn 0 (by omega), hkn 1 (by omega), hkn 2 (by omega)]
        obtain ⟨a0, a1, a2, ha⟩ : ∃ x y z, pts10 t (q : Int) = [x, y, z] := by
          match pts10 t (q : Int), hl3 with
          | [x, y, z], _ => exact ⟨x, y, z, rfl⟩
        rw [ha] at p0 p1 p2 ⊢
        simp only [show ([a0, a1, a2] : List Int).getD 0 0 = a0 from rfl, show ([a0, a1, a2] : List Int).getD 1 0 = a1 from rfl, show ([a0, a1, a2] : List Int).getD 2 0 = a2 from rfl] at p0 p1 p2 ⊢
        show _ = ((max (max (max 1 (nd12 t os a0.toNat)) (nd12 t os a1.toNat)) (nd12 t os a2.toNat) : Nat) : Int)
        omega
      · rw [if_neg h7]
        by_cases h8 : n.1 = 8
        · rw [if_pos h8]
          have hc := cn_most ((pts10 t (q : Int)).map (need12 59 t os)) ((pts10 t (q : Int)).map (fun p => nd12 t os p.toNat)) (by simp) (fun i hi => by
            rw [List.length_map, e2] at hi
            rw [hkn i hi, hke i hi, (hpart i hi).1]) (pts10 t (q : Int)).length (by simp)
          rw [List.take_of_length_le (by simp)] at hc
          rw [← hc, List.length_map]
        · rw [if_neg h8]
          have hk0 : kidsN n = 0 := by
            unfold kidsN
            rw [if_neg h36, if_neg h7, if_neg h8]
          have hl0 : pts10 t (q : Int) = [] := List.eq_nil_of_length_eq_zero (by omega)
          rw [hl0]
          rfl
theorem nd_range {t : List Nd} {os : List Int} (ht : treeB t = true) {q : Nat} (hq : q < t.length) : 1 ≤ nd12 t os q ∧ nd12 t os q ≤ 60 ∧ (nd12 t os q : Int) = need12 60 t os (q : Int) := by
  obtain ⟨h60, hone⟩ := treeB_one.1 ht
  have := need_at (os := os) (d := 60) (tree_ends hone hq) (by omega) h60
  unfold nd12
  omega
theorem pair_least (t : List Nd) (q x y : Nat) (hx : 1 ≤ x) (_hy : 1 ≤ y) (_ : q < t.length) : (pairN x y : Int) = pair12 (ord12 [] (q : Int)) x y := by
  unfold pairN ord12
  rw [if_pos rfl]
  unfold pair12
  simp only
  by_cases e : x = y
  · subst e; rw [if_pos rfl, if_pos rfl]; omega
  · rw [if_neg e, if_neg (by omega), gr_two]; omega
theorem pair_by (t : List Nd) (os : List Int) (hos : os.length = t.length) (q x y : Nat) (hx : 1 ≤ x) (hy : 1 ≤ y) (hq : q < t.length) : (ordN (os.getD q 0) x y : Int) = pair12 (ord12 os (q : Int)) x y := by
  have ho : ord12 os (q : Int) = some (os.getD q 0) := by
    unfold ord12
    rw [if_neg (fun e => by rw [e] at hos; simp at hos; omega), Int.toNat_natCast]
  rw [ho]
  unfold ordN pair12
  simp only
  by_cases e : os.getD q 0 = 0
  · rw [if_pos e, if_pos e, gr_two]; omega
  · rw [if_neg e, if_neg e, gr_two]; omega
/-- A part's place. -/
theorem part_at {t : List Nd} (ht : treeB t = true) {q i : Nat} (hq : q < t.length) (hi : i < (pts10 t (q : Int)).length) : ∃ p : Nat, (pts10 t (q : Int)).getD i 0 = (p : Int) ∧ q < p ∧ p < t.length := by
  obtain ⟨_, hone⟩ := treeB_one.1 ht
  have hk : (pts10 t (q : Int)).length = kidsN (t.getD q nd0) := by unfold pts10; rw [partsGo_len, Int.toNat_natCast]
  obtain ⟨p, h1, h2, h3⟩ := need_place (tree_ends hone hq) (by rw [← hk]; exact hi)
  refine ⟨p, h1, h2, ?_⟩
  rcases Nat.lt_or_ge p t.length with h | h
  · exact h
  · rw [endV_out t (p : Int) (Or.inr (by omega))] at h3
    omega
theorem parts_at {t : List Nd} (ht : treeB t = true) {q : Nat} (hq : q < t.length) : partsV t (q : Int) = pts10 t (q : Int) := by
  obtain ⟨_, hone⟩ := treeB_one.1 ht
  have := tree_ends hone hq
  unfold partsV
  rw [if_neg (by omega)]
  rfl

end Go.Proofs.Ytdnehneldmmeoaa
