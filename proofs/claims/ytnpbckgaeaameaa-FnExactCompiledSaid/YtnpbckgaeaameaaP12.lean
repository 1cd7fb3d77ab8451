/-
  Parts of one proof, one behind the other: Math13L, InsS3, InsS4, InsL.
-/
import Derived.Test.YtnpbckgaeaameaaP11
import Derived.Test.YtnpbckgaeaameaaP9

/-! Plain facts of chapter 13: what FnCompiled asks. -/
namespace Go.Proofs.Ytnpbckgaeaameaa
open Go.RowKit

theorem into_leaf {r c k v : Int} (hk : (k = 1 ∧ -2147483648 ≤ v ∧ v ≤ 2147483647) ∨ (k = 2 ∧ 0 ≤ v ∧ v ≤ 2)) (hr : 0 ≤ r) : G13 1 [(k, r, v, 0, [])] r c 1 := by
  refine ⟨by simp, by simp, ?_, ?_, ?_⟩
  · intro i hi
    rw [List.mem_singleton] at hi
    subst hi
    simp only
    omega
  · intro hc hlen hn i hi
    rw [List.mem_singleton] at hi
    subst hi
    refine ⟨⟨Or.inr rfl, Or.inr rfl, ?_⟩, fun e => by simp only at e; omega⟩
    rcases hk with ⟨h1, h2, h3⟩ | ⟨h1, h2, h3⟩
    · exact Or.inl ⟨h1, ⟨hr, by simp only; omega⟩, h2, h3⟩
    · exact Or.inr (Or.inl ⟨h1, ⟨hr, by simp only; omega⟩, h2, h3⟩)
  · rw [mx13_one]
    unfold top13
    simp only
    rw [if_neg (by omega), if_neg (by omega), if_neg (by omega)]
    omega

theorem sum_flat (ks : List (List Nd)) : ks.flatten.length = (ks.map List.length).sum := by simp [List.length_flatten]

theorem into_ok {s : List Nd} (h : One s) : ∀ (d : Nat) (t post : List Nd) (a : Nat) (r c : Int), s.length ≤ 60 → s.length ≤ d → t.drop a = s ++ post → 0 ≤ r → G13 s.length (into13 d t (a : Int) r c) r c (need12 60 t [] (a : Int)) := by
  induction h with
  | mk n ks hn hk ho ih =>
    intro d t post a r c h60 hd ht hr
    rcases d with _ | d
    · simp at hd
    obtain ⟨e1, e2, e3⟩ := pts_sub ht hk ho
    have hfl : ∀ k ∈ ks, k.length ≤ ks.flatten.length := fun k hm => (List.sublist_flatten_of_mem hm).length_le
    simp only [List.length_cons] at h60 hd
    have hb : ∀ i, i < ks.length → 1 ≤ need12 60 t [] ((pts10 t (a : Int)).getD i 0) ∧ (∀ r c, 0 ≤ r → G13 (ks.getD i []).length (into13 d t ((pts10 t (a : Int)).getD i 0) r c) r c (need12 60 t [] ((pts10 t (a : Int)).getD i 0))) ∧ need12 59 t [] ((pts10 t (a : Int)).getD i 0) = need12 60 t [] ((pts10 t (a : Int)).getD i 0) := fun i hi => by
      obtain ⟨post', e4, e5⟩ := e3 i hi
      have hm : ks.getD i [] ∈ ks := getD_mem11 hi
      have h1 := hfl _ hm
      rw [e4]
      exact ⟨(need_bd (ho _ hm) [] 60 t post' _ (by omega) e5).1, fun r c hr => ih _ hm d t post' _ r c (by omega) (by omega) e5 hr, need_fuel (ho _ hm) (by omega) (by omega) e5⟩
    have hN : need12 60 t [] (a : Int) = mk12 none n ((pts10 t (a : Int)).map (need12 60 t [])) := by
      show need12 (59 + 1) t [] (a : Int) = _
      rw [need12, Int.toNat_natCast, e1]
      have hm : (pts10 t (a : Int)).map (need12 59 t []) = (pts10 t (a : Int)).map (need12 60 t []) := by
        refine List.map_congr_left (fun p hp => ?_)
        obtain ⟨i, hi, rfl⟩ := List.getElem_of_mem hp
        have := (hb i (by omega)).2.2
        simpa [List.getD, hi] using this
      rw [hm]
      rfl
    rw [hN, into13, Int.toNat_natCast, e1]
    simp only
    have hkd := nodeB_iff.1 hn
    have hpl : (pts10 t (a : Int)).length = ks.length := e2
    rcases hkd with ⟨h1, h2, h3, h4⟩ | ⟨h1, h2, h3, h4⟩ | ⟨h1, h2, h3, h4⟩ | ⟨h1, h2, h3, h4⟩
    · have hz : ks = [] := by
        have : kidsN n = 0 := by unfold kidsN; rw [if_neg (by omega), if_neg (by omega), if_neg (by omega)]
        exact List.eq_nil_of_length_eq_zero (by omega)
      subst hz
      have hp0 : pts10 t (a : Int) = [] := List.eq_nil_of_length_eq_zero hpl
      rw [if_pos h1, hp0]
      unfold mk12
      rw [if_neg (by omega), if_neg (by omega)]
      exact into_leaf (k := 1) (Or.inl ⟨rfl, h2.1, h2.2⟩) hr
    · have hz : ks = [] := by
        have : kidsN n = 0 := by unfold kidsN; rw [if_neg (by omega), if_neg (by omega), if_neg (by omega)]
        exact List.eq_nil_of_length_eq_zero (by omega)
      subst hz
      have hp0 : pts10 t (a : Int) = [] := List.eq_nil_of_length_eq_zero hpl
      rw [if_neg (by omega), if_pos h1, hp0]
      unfold mk12
      rw [if_neg (by omega), if_neg (by omega)]
      exact into_leaf (k := 2) (Or.inr ⟨rfl, h2.1, h2.2⟩) hr
    · rw [if_neg (by omega), if_neg (by omega)]
      by_cases h7 : n.1 = 7
      · have hk2 : ks.length = 3 := by rw [hk]; exact kids_seven h7
        obtain ⟨k1, k2, k3, rfl⟩ : ∃ x y z, ks = [x, y, z] := by
          match ks, hk2 with
          | [x, y, z], _ => exact ⟨x, y, z, rfl⟩
        rw [if_pos h7]
        unfold mk12
        rw [if_neg (by omega), if_pos h7, map_getD12 (by omega), map_getD12 (by omega), map_getD12 (by omega)]
        obtain ⟨b0, g0, _⟩ := hb 0 (by simp)
        obtain ⟨b1, g1, _⟩ := hb 1 (by simp)
        obtain ⟨b2, g2, _⟩ := hb 2 (by simp)
        have hl : (n :: [k1, k2, k3].flatten).length = k1.length + k2.length + k3.length + 1 := by simp; omega
        rw [hl]
        exact into_if (g0 r c hr) (g1 r _ hr) (g2 r _ hr) hr b0 b1 b2
      · have h36 : 3 ≤ n.1 ∧ n.1 ≤ 6 := by omega
        have hk2 : ks.length = 2 := by rw [hk]; exact kids_four h36
        obtain ⟨k1, k2, rfl⟩ : ∃ x y, ks = [x, y] := by
          match ks, hk2 with
          | [x, y], _ => exact ⟨x, y, rfl⟩
        rw [if_neg h7, if_neg (by omega)]
        unfold mk12
        rw [if_pos h36, map_getD12 (by omega), map_getD12 (by omega)]
        obtain ⟨b0, g0, _⟩ := hb 0 (by simp)
        obtain ⟨b1, g1, _⟩ := hb 1 (by simp)
        have hl : (n :: [k1, k2].flatten).length = k1.length + k2.length + 1 := by simp
        have hl' : (n :: [k1, k2].flatten).length = k2.length + k1.length + 1 := by rw [hl]; omega
        simp only [show ([k1, k2] : List (List Nd)).getD 0 [] = k1 from rfl, show ([k1, k2] : List (List Nd)).getD 1 [] = k2 from rfl] at g0 g1
        unfold pair12
        simp only
        generalize need12 60 t [] ((pts10 t (a : Int)).getD 0 0) = x at b0 g0 ⊢
        generalize need12 60 t [] ((pts10 t (a : Int)).getD 1 0) = y at b1 g1 ⊢
        by_cases hyx : y ≤ x
        · rw [if_pos hyx, hl]
          have hg := into_pair (g0 r c hr) (g1 (r + 1) _ (by omega)) hr h36 b0 b1 (Or.inl ⟨rfl, rfl⟩)
          have hmx : (if x = y then x + 1 else max x y) = max x (y + 1) := by split <;> omega
          rw [hmx]
          exact hg
        · rw [if_neg hyx, hl']
          have hg := into_pair (g1 r c hr) (g0 (r + 1) _ (by omega)) hr h36 b1 b0 (Or.inr ⟨rfl, rfl⟩)
          have hmx : (if x = y then x + 1 else max x y) = max y (x + 1) := by split <;> omega
          rw [hmx]
          exact hg
    · rw [if_neg (by omega), if_neg (by omega), if_neg (by omega), if_pos h1]
      unfold mk12
      rw [if_neg (by omega), if_neg (by omega)]
      have hsz : (pts10 t (a : Int)).map (fun p => (endV t p - p).toNat) = ks.map List.length := by
        refine List.ext_getElem (by simp [hpl]) (fun i q1 q2 => ?_)
        rw [List.length_map] at q1 q2
        obtain ⟨post', e4, e5⟩ := e3 i q2
        have hm : ks.getD i [] ∈ ks := getD_mem11 q2
        have he := endV_sub e5 (ho _ hm)
        have hg : (pts10 t (a : Int))[i] = (pts10 t (a : Int)).getD i 0 := by simp [List.getD, q1]
        have hg2 : ks.getD i [] = ks[i] := by simp [List.getD, q2]
        rw [List.getElem_map, List.getElem_map, hg, e4, he, ← hg2]
        omega
      have hall : ∀ p ∈ pts10 t (a : Int), 1 ≤ need12 60 t [] p ∧ ∀ r c, 0 ≤ r → G13 ((fun p => (endV t p - p).toNat) p) (into13 d t p r c) r c (need12 60 t [] p) := fun p hp => by
        obtain ⟨i, hi, rfl⟩ := List.getElem_of_mem hp
        have hi2 : i < ks.length := by omega
        obtain ⟨b, g, _⟩ := hb i hi2
        have hg : (pts10 t (a : Int)).getD i 0 = (pts10 t (a : Int))[i] := by simp [List.getD, hi]
        have hs : (endV t (pts10 t (a : Int))[i] - (pts10 t (a : Int))[i]).toNat = (ks.getD i []).length := by
          have hq := congrArg (fun l => l.getD i 0) hsz
          have q1 : ((pts10 t (a : Int)).map (fun p => (endV t p - p).toNat)).getD i 0 = (endV t (pts10 t (a : Int))[i] - (pts10 t (a : Int))[i]).toNat := by simp [List.getD, hi]
          have q2 : (ks.map List.length).getD i 0 = (ks.getD i []).length := by simp [List.getD, hi2]
          rw [← q1, ← q2]
          exact hq
        rw [hg] at b g
        simp only
        rw [hs]
        exact ⟨b, g⟩
      obtain ⟨i1, i2, i3, i4⟩ := args_ok (into13 d t) (need12 60 t []) (fun p => (endV t p - p).toNat) (pts10 t (a : Int)) r c hr hall
      rw [hsz, ← sum_flat] at i1
      have hkn : (kidsN n : Int) = n.2.1 := by
        unfold kidsN
        rw [if_neg (by omega), if_neg (by omega), if_pos h1]
        omega
      have h4' := i4 1 (by omega)
      exact into_call (s := ks.flatten.length) (by omega) i2 (i3 1) h4'.1 h2.1 h2.2 (by omega) hr h3 h4

/-- What FnCompiled asks of code that a right tree became. -/
theorem compiled_law {t : List Nd} (h : treeB t = true) : codeB (compiledV t) = true ∧ regsV (compiledV t) = needT t ∧ (compiledV t).length ≤ 121 ∧ 1 ≤ (compiledV t).length ∧ (compiledV t).countP (fun i => i.1 == 10) = 1 := by
  obtain ⟨h60, ho⟩ := treeB_one.1 h
  have hg := into_ok ho 60 t [] 0 0 0 h60 h60 (by simp) (Int.le_refl 0)
  have hb := need_bd ho [] 60 t [] 0 h60 (by simp)
  rw [show ((0 : Nat) : Int) = 0 from rfl] at hg hb
  have hc : compiledV t = into13 60 t 0 0 0 ++ [(10, 0, 0, 0, [])] := by unfold compiledV; rw [if_pos h]
  have hn : needT t = need12 60 t [] 0 := by unfold needT; rw [if_pos h]
  rw [hc, hn]
  generalize into13 60 t 0 0 0 = x at hg ⊢
  generalize need12 60 t [] 0 = m at hg hb ⊢
  have hl : (x ++ [((10, 0, 0, 0, []) : In13)]).length = x.length + 1 := by simp
  have hlen := hg.len
  have hcode : codeB (x ++ [((10, 0, 0, 0, []) : In13)]) = true := by
    unfold codeB
    refine decide_eq_true ⟨by rw [hl]; omega, fun i hi => ?_, Or.inl ?_⟩
    · rw [hl]
      rcases List.mem_append.1 hi with hi | hi
      · obtain ⟨q1, q2⟩ := hg.ok (Int.le_refl 0) (by omega) (by omega) i hi
        exact ⟨q1, fun e => by have := q2 e; omega⟩
      · rw [List.mem_singleton] at hi
        subst hi
        exact ⟨by decide, fun e => by simp at e⟩
    · rw [hl]; simp [List.getD]
  refine ⟨hcode, ?_, by rw [hl]; omega, by rw [hl]; omega, ?_⟩
  · unfold regsV
    rw [if_pos hcode, mx13_append, hg.top]
    have e1 : mx13 [((10, 0, 0, 0, []) : In13)] = 1 := by decide
    rw [e1]
    omega
  · rw [List.countP_append]
    have : x.countP (fun i => i.1 == 10) = 0 := by
      rw [List.countP_eq_zero]
      intro i hi
      have := hg.noEnd i hi
      simpa using this
    rw [this]
    rfl
theorem compiled_none {t : List Nd} (h : treeB t = false) : compiledV t = [] := by unfold compiledV; rw [h]; rfl

/-- Right code: some register, or nothing but jumps. -/
theorem regs_pos {c : List In13} (h : codeB c = true) : 0 < regsV c ∨ ∀ i ∈ c, i.1 = 8 := by
  by_cases hall : ∀ i ∈ c, i.1 = 8
  · exact Or.inr hall
  · refine Or.inl ?_
    unfold regsV
    rw [if_pos h]
    have hc := of_decide_eq_true h
    obtain ⟨i, hi, hne⟩ : ∃ i ∈ c, i.1 ≠ 8 := by
      simpa using hall
    have hp := (hc.2.1 i hi).1
    have key : ∀ (l : List In13) (i : In13), i ∈ l → top13 i ≤ mx13 l := by
      intro l
      induction l with
      | nil => intro i hi; cases hi
      | cons x r ihl =>
        intro i hi
        rcases List.mem_cons.1 hi with rfl | hi
        · exact Int.le_max_left _ _
        · exact Int.le_trans (ihl i hi) (Int.le_max_right _ _)
    have hk := key c i hi
    have ht : 1 ≤ top13 i := by
      unfold top13
      unfold insP at hp
      rw [if_neg hne]
      split
      · omega
      · split <;> omega
    omega
theorem regs_jumps {c : List In13} (h : ∀ i ∈ c, i.1 = 8) : regsV c = 0 := by
  unfold regsV
  split
  · have key : ∀ l : List In13, (∀ i ∈ l, i.1 = 8) → mx13 l = 0 := by
      intro l
      induction l with
      | nil => intro _; rfl
      | cons x r ihl =>
        intro hl
        have h1 := hl x (by simp)
        have h2 := ihl (fun i hi => hl i (by simp [hi]))
        unfold mx13 top13
        rw [if_pos h1, h2]
        rfl
    exact key c h
  · rfl

end Go.Proofs.Ytnpbckgaeaameaa

/-! The contract of chapter 13's specification: CodeOk. -/
namespace Go.Proofs.Ytnpbckgaeaameaa
open Go.RowKit

def InsIn (w : World) (a : Option Addr) (len : Nat) (is : List In13) : Prop :=
  is.length = len ∧ ∀ j, j < len → ∃ b off, a = some ⟨b, off, none⟩ ∧ b < w.heap.size ∧ w.cell? ⟨b, off + j * 5, none⟩ = some (.int .i64 (is.getD j in0).1) ∧ w.cell? ⟨b, off + j * 5 + 1, none⟩ = some (.int .i64 (is.getD j in0).2.1) ∧ w.cell? ⟨b, off + j * 5 + 2, none⟩ = some (.int .i64 (is.getD j in0).2.2.1) ∧ w.cell? ⟨b, off + j * 5 + 3, none⟩ = some (.int .i64 (is.getD j in0).2.2.2.1) ∧ w.cell? ⟨b, off + j * 5 + 4, none⟩ = some (.string ⟨(is.getD j in0).2.2.2.2.toArray⟩)
theorem InsIn.below {w w' : World} {a : Option Addr} {len : Nat} {is : List In13} (h : InsIn w a len is) (hb : Below w.heap.size w w') : InsIn w' a len is := by
  refine ⟨h.1, fun j hj => ?_⟩
  obtain ⟨b, off, e, hlt, c0, c1, c2, c3, c4⟩ := h.2 j hj
  have hk := hb.block b hlt
  exact ⟨b, off, e, Nat.lt_of_lt_of_le hlt hb.size, (World.cell?_of_block (a := ⟨b, off + j * 5, none⟩) hk).trans c0, (World.cell?_of_block (a := ⟨b, off + j * 5 + 1, none⟩) hk).trans c1, (World.cell?_of_block (a := ⟨b, off + j * 5 + 2, none⟩) hk).trans c2, (World.cell?_of_block (a := ⟨b, off + j * 5 + 3, none⟩) hk).trans c3, (World.cell?_of_block (a := ⟨b, off + j * 5 + 4, none⟩) hk).trans c4⟩
def ShortI (is : List In13) : Prop := ∀ j, (is.getD j in0).2.2.2.2.length ≤ 1048576

theorem code_len {c : List In13} (h : c.length < 1 ∨ 200 < c.length) : codeB c = false := decide_eq_false (fun e => by have := e.1; omega)
theorem code_no {c : List In13} {j : Nat} (hj : j < c.length) (h : ¬ insAt c.length (c.getD j in0)) : codeB c = false := decide_eq_false (fun e => h (e.2.1 _ (by simp [List.getD, hj])))
theorem code_end {c : List In13} (h1 : 1 ≤ c.length) (h2 : c.length ≤ 200) (h : ∀ j, j < c.length → insAt c.length (c.getD j in0)) : codeB c = (((c.getD (c.length - 1) in0).1 == 10) || ((c.getD (c.length - 1) in0).1 == 8)) := by
  have hall : ∀ i ∈ c, insAt c.length i := fun i hi => by
    obtain ⟨j, hj, rfl⟩ := List.getElem_of_mem hi
    have := h j hj
    simpa [List.getD, hj] using this
  unfold codeB
  rw [Bool.eq_iff_iff, decide_eq_true_eq, Bool.or_eq_true, beq_iff_eq, beq_iff_eq]
  exact ⟨fun e => e.2.2, fun e => ⟨⟨h1, h2⟩, hall, e⟩⟩

set_option maxHeartbeats 4000000 in
set_option maxRecDepth 100000 in
theorem specCodeOk (a : Option Addr) (len cap : Nat) (is : List In13) (w : World) (hin : InsIn w a len is) (hsh : ShortI is) (hlen : len ≤ 1048576) :
    Calls Try.prog 25 #[.slice a len cap] w fun e w' => e = .returned (.bool (codeB is)) ∧ Below w.heap.size w w' := by
  obtain rfl : is.length = len := hin.1
  have HI : Hid (InsIn w a is.length is) := hin
  have HS : Hid (ShortI is) := hsh
  have HL : Hid (is.length < 1 ∨ 200 < is.length → codeB is = false) := code_len
  have HNo : Hid (∀ j, j < is.length → ¬ insAt is.length (is.getD j in0) → codeB is = false) := fun j hj h => code_no hj h
  have HEn : Hid (1 ≤ is.length → is.length ≤ 200 → (∀ j, j < is.length → insAt is.length (is.getD j in0)) → codeB is = (((is.getD (is.length - 1) in0).1 == 10) || ((is.getD (is.length - 1) in0).1 == 8))) := code_end
  obtain ⟨n, hn⟩ : ∃ n, is.length = n := ⟨_, rfl⟩
  rw [hn] at HI HL HNo HEn hlen ⊢
  generalize codeB is = res at HL HNo HEn ⊢
  clear hin hsh hn
  by_cases h1 : (n : Int) < 1
  · have HF := HL.out (Or.inl (by omega))
    have HF2 : Hid (res = false) := HF
    clear HF HL HNo HEn
    go_enter Try.func25, Try.ntmps25
    go_wp2
    go_ret
    exact ⟨by rw [HF2.out]; rfl, Below.refl _ _⟩
  by_cases h2 : 200 < (n : Int)
  · have HF2 : Hid (res = false) := HL.out (Or.inr (by omega))
    clear HL HNo HEn
    go_enter Try.func25, Try.ntmps25
    go_wp2
    go_ret
    exact ⟨by rw [HF2.out]; rfl, Below.refl _ _⟩
  obtain ⟨m, hm⟩ : ∃ m, n = m + 1 := ⟨n - 1, by omega⟩
  have HM : Hid (n = m + 1) := hm
  have HEn2 : Hid ((∀ j, j < n → insAt n (is.getD j in0)) → res = (((is.getD m in0).1 == 10) || ((is.getD m in0).1 == 8))) := fun h => by
    have := HEn.out (by omega) (by omega) h
    rw [show n - 1 = m by omega] at this
    exact this
  clear hm HL HEn
  go_enter Try.func25, Try.ntmps25
  go_wp2
  go_loopw [4] (fun iv wr => ∃ i : Nat, iv = .int .i64 (i : Int) ∧ i ≤ n ∧ Hid (∀ j, j < i → insAt n (is.getD j in0)) ∧ Hid (Below w.heap.size w wr)) (fun iv _ => n - (intOf iv).toNat)
  case atStart => exact ⟨0, rfl, Nat.zero_le _, fun j hj => by omega, Below.refl _ _⟩
  case round =>
    obtain ⟨i, rfl, hi, HA, HB⟩ := hrel
    by_cases hlt : (i : Int) < (n : Int)
    · obtain ⟨b, off, rfl, hbl, c0, c1, c2, c3, c4⟩ := (HI.out.below HB.out).2 i (by omega)
      have HC : Hid (_) := fun W : World => specInsOk (is.getD i in0) W (HS.out i)
      have HNx : Hid (insAt n (is.getD i in0) → ∀ j, j < i + 1 → insAt n (is.getD j in0)) := fun h j hj => by
        by_cases e : j = i
        · rw [e]; exact h
        · exact HA.out j (by omega)
      have HNi : Hid (¬ insAt n (is.getD i in0) → res = false) := HNo.out i (by omega)
      clear HEn2 HNo HA HS
      generalize is.getD i in0 = ii at c0 c1 c2 c3 c4 HC HNx HNi
      obtain ⟨kd, R, A, Bq, nm⟩ := ii
      unfold insVal at HC
      simp only at c0 c1 c2 c3 c4 HC
      go_wp2_with fail
      refine Calls.mono (HC.out _) ?_
      rintro e w1 ⟨rfl, hb1⟩
      have hB1 := HB.out.trans (hb1.mono HB.out.size)
      have d0 := (hb1.cell (p := ⟨b, off + i * 5, none⟩) hbl).trans c0
      have d2 := (hb1.cell (p := ⟨b, off + i * 5 + 2, none⟩) hbl).trans c2
      clear c0 c1 c2 c3 c4 hb1 HC
      rcases hib : insB (kd, R, A, Bq, nm) with _ | _
      · have HF : Hid (res = false) := HNi.out (fun h => by have := decide_eq_true h.1; rw [show decide (insP (kd, R, A, Bq, nm)) = insB (kd, R, A, Bq, nm) from rfl, hib] at this; cases this)
        clear hib HNi HNx
        go_wp2
        go_ret
        exact ⟨by rw [HF.out]; rfl, hB1⟩
      have hip : insP (kd, R, A, Bq, nm) := of_decide_eq_true hib
      have HP : Hid (insP (kd, R, A, Bq, nm)) := hip
      clear hib hip
      by_cases h7 : kd = 7
      · subst h7
        by_cases hA : (n : Int) ≤ A
        · have HF : Hid (res = false) := HNi.out (fun h => by have := h.2 (Or.inl rfl); simp only at this; omega)
          clear HNi HNx HP
          go_wp2
          go_ret
          exact ⟨by rw [HF.out]; rfl, hB1⟩
        · have HN2 : Hid (_) := HNx.out ⟨HP.out, fun _ => by simp only; omega⟩
          clear HNi HNx HP
          go_wp2
          go_roundw
          case rel => exact ⟨i + 1, by go_num, by omega, HN2, hB1⟩
          case measure => simp [intOf]; omega
      have d7 : (kd == 7) = false := beq_eq_false_iff_ne.2 h7
      by_cases h8 : kd = 8
      · subst h8
        clear h7 d7
        by_cases hA : (n : Int) ≤ A
        · have HF : Hid (res = false) := HNi.out (fun h => by have := h.2 (Or.inr rfl); simp only at this; omega)
          clear HNi HNx HP
          go_wp2
          go_ret
          exact ⟨by rw [HF.out]; rfl, hB1⟩
        · have HN2 : Hid (_) := HNx.out ⟨HP.out, fun _ => by simp only; omega⟩
          clear HNi HNx HP
          go_wp2
          go_roundw
          case rel => exact ⟨i + 1, by go_num, by omega, HN2, hB1⟩
          case measure => simp [intOf]; omega
      have d8 : (kd == 8) = false := beq_eq_false_iff_ne.2 h8
      have HN2 : Hid (_) := HNx.out ⟨HP.out, fun e => by simp only at e; rcases e with e | e; exact absurd e h7; exact absurd e h8⟩
      clear HNi HNx HP h7 h8
      go_wp2
      go_roundw
      case rel => exact ⟨i + 1, by go_num, by omega, HN2, hB1⟩
      case measure => simp [intOf]; omega
    · have hin2 : i = n := by omega
      have HF : Hid (_) := HEn2.out (fun j hj => HA.out j (by omega))
      have hmn : m < n := by have := HM.out; omega
      obtain ⟨b, off, rfl, hbl, c0, _⟩ := (HI.out.below HB.out).2 m hmn
      have hq : (n : Int) - 1 = (m : Int) := by have := HM.out; omega
      have hmz : (m : Int) < (n : Int) := by omega
      have HBr := HB.out
      generalize (is.getD m in0).1 = kd at c0 HF
      clear hin2 HEn2 HNo HA HS HM HI HB hmn
      rcases h10 : (kd == 10) with _ | _
      · rw [h10] at HF
        go_wp2
        go_ret
        exact ⟨by rw [HF.out]; rfl, HBr⟩
      · rw [h10] at HF
        go_wp2
        go_ret
        exact ⟨by rw [HF.out]; rfl, HBr⟩

end Go.Proofs.Ytnpbckgaeaameaa

/-! The contract of chapter 13's specification: Registers. -/
namespace Go.Proofs.Ytnpbckgaeaameaa
open Go.RowKit

theorem mx13_step (c : List In13) (k : Nat) (h : k < c.length) : mx13 (c.take (k + 1)) = max (mx13 (c.take k)) (top13 (c.getD k in0)) := by
  have hg : c.getD k in0 = c[k] := by simp [List.getD, h]
  rw [List.take_succ_eq_append_getElem h, mx13_append, mx13_one, hg]
  have := mx13_ge (c.take k)
  omega
/-- The bounds of what a right instruction names. -/
theorem ins_bd {k R A B : Int} {nm : List UInt8} (h : insP (k, R, A, B, nm)) : (0 ≤ R ∧ R ≤ 63) ∧ (3 ≤ k ∧ k ≤ 6 → (0 ≤ A ∧ A ≤ 63) ∧ (0 ≤ B ∧ B ≤ 63)) ∧ (k = 9 → 0 ≤ A ∧ A ≤ 3) := by
  unfold insP at h
  simp only at h
  omega

set_option maxHeartbeats 4000000 in
set_option maxRecDepth 100000 in
theorem specRegisters (a : Option Addr) (len cap : Nat) (is : List In13) (w : World) (hin : InsIn w a len is) (hsh : ShortI is) (hlen : len ≤ 1048576) :
    Calls Try.prog 34 #[.slice a len cap] w fun e w' => e = .returned (.int .i64 (regsV is)) ∧ Below w.heap.size w w' := by
  obtain rfl : is.length = len := hin.1
  have HC : Hid (_) := specCodeOk a is.length cap is w hin hsh hlen
  rcases hc : codeB is with _ | _
  · rw [hc] at HC
    have HF : Hid (regsV is = 0) := by exact (by unfold regsV; rw [hc]; rfl : regsV is = 0)
    clear hin hc
    go_enter Try.func34, Try.ntmps34
    go_wp2_with fail
    refine Calls.mono HC.out ?_
    rintro e w1 ⟨rfl, hb1⟩
    go_wp2
    go_ret
    exact ⟨by rw [HF.out]; rfl, hb1⟩
  rw [hc] at HC
  have HI : Hid (InsIn w a is.length is) := hin
  have hcd := of_decide_eq_true hc
  have HP : Hid (∀ j, j < is.length → insP (is.getD j in0)) := fun j hj => (hcd.2.1 _ (by simp [List.getD, hj])).1
  have HR : Hid (mx13 (is.take is.length) = regsV is) := by exact (by unfold regsV; rw [if_pos hc, List.take_length] : mx13 (is.take is.length) = regsV is)
  have HSt : Hid (∀ k, k < is.length → mx13 (is.take (k + 1)) = max (mx13 (is.take k)) (top13 (is.getD k in0))) := fun k h => mx13_step is k h
  obtain ⟨n, hn⟩ : ∃ n, is.length = n := ⟨_, rfl⟩
  rw [hn] at HC HI HP HR HSt hlen ⊢
  have HMx : Hid (_) := fun (x y : Int) (W : World) => specMax12 x y W
  generalize regsV is = res at HR ⊢
  clear hin hc hcd hsh hn
  go_enter Try.func34, Try.ntmps34
  go_wp2_with fail
  refine Calls.mono HC.out ?_
  rintro e w1 ⟨rfl, hb1⟩
  have HB1 : Hid (Below w.heap.size w w1) := hb1
  clear hb1 HC
  go_wp2
  go_loopw [3, 4] (fun nv iv wr => ∃ i : Nat, ∃ m : Int, nv = .int .i64 m ∧ iv = .int .i64 (i : Int) ∧ i ≤ n ∧ 0 ≤ m ∧ m ≤ 70 ∧ Hid (mx13 (is.take i) = m) ∧ Hid (Below w.heap.size w wr)) (fun _ iv _ => n - (intOf iv).toNat)
  case atStart => exact ⟨0, 0, rfl, rfl, Nat.zero_le _, by omega, by omega, rfl, HB1⟩
  case round =>
    obtain ⟨i, m, rfl, rfl, hi, hm0, hm1, HM, HB⟩ := hrel
    clear HB1
    by_cases hlt : (i : Int) < (n : Int)
    rotate_left
    · obtain rfl : i = n := by omega
      have HF : Hid (m = res) := by exact (by rw [← HM.out, HR.out] : m = res)
      have HBr := HB.out
      clear HM HR HSt HP HI HB
      go_wp2
      go_ret
      exact ⟨by rw [← HF.out]; rfl, HBr⟩
    have hil : i < n := by omega
    obtain ⟨b, off, rfl, hbl, c0, c1, c2, c3, c4⟩ := (HI.out.below HB.out).2 i hil
    have hip := HP.out i hil
    have hst := HSt.out i hil
    rw [HM.out] at hst
    generalize is.getD i in0 = ii at c0 c1 c2 c3 c4 hip hst
    obtain ⟨kd, R, A, Bq, nm⟩ := ii
    simp only at c0 c1 c2 c3 c4
    obtain ⟨⟨hR0, hR1⟩, hAB, hA9⟩ := ins_bd hip
    have HS2 : Hid (mx13 (is.take (i + 1)) = max m (top13 (kd, R, A, Bq, nm))) := hst
    obtain ⟨⟨n0, n1, n2, n3, n4⟩, hbg⟩ := ins_new13 wr (.int .i64 kd) (.int .i64 R) (.int .i64 A) (.int .i64 Bq) (.string ⟨nm.toArray⟩) 43
    have hb2 : Below w.heap.size w (wr.alloc (.cells #[.int .i64 kd, .int .i64 R, .int .i64 A, .int .i64 Bq, .string ⟨nm.toArray⟩] 43)) := HB.out.trans (hbg.mono HB.out.size)
    obtain ⟨X, hX⟩ : ∃ X, wr.alloc (.cells #[.int .i64 kd, .int .i64 R, .int .i64 A, .int .i64 Bq, .string ⟨nm.toArray⟩] 43) = X := ⟨_, rfl⟩
    obtain ⟨N, hN⟩ : ∃ N, wr.heap.size = N := ⟨_, rfl⟩
    rw [hX] at n0 n1 n2 n3 n4 hb2
    rw [hN] at n0 n1 n2 n3 n4
    have HBX : Hid (Below w.heap.size w X) := hb2
    clear hbg hb2 hip hst HM HSt HP HI HB HR
    by_cases h8 : kd = 8
    · subst h8
      have HF : Hid (mx13 (is.take (i + 1)) = m) := by exact (by rw [HS2.out]; unfold top13; rw [if_pos rfl]; omega : mx13 (is.take (i + 1)) = m)
      clear HS2 hAB hA9
      go_wp2
      go_roundw
      case rel => exact ⟨i + 1, m, rfl, by go_num, by omega, by omega, by omega, HF, HBX⟩
      case measure => simp [intOf]; omega
    have d8 : (kd == 8) = false := beq_eq_false_iff_ne.2 h8
    by_cases h3 : kd = 3
    · subst h3
      obtain ⟨⟨hA0, hA1⟩, hB0, hB1⟩ := hAB (by omega)
      obtain ⟨ab, hab⟩ : ∃ ab, max A Bq = ab := ⟨_, rfl⟩
      have hab0 : 0 ≤ ab ∧ ab ≤ 63 := by omega
      have HF : Hid (mx13 (is.take (i + 1)) = max (max m (ab + 1)) (R + 1)) := by exact (by rw [HS2.out]; unfold top13; rw [if_neg (by simp), if_pos (by simp)]; simp only; rw [hab]; omega : mx13 (is.take (i + 1)) = max (max m (ab + 1)) (R + 1))
      obtain ⟨m1, hm1e⟩ : ∃ m1, max m (ab + 1) = m1 := ⟨_, rfl⟩
      have hm1b : 0 ≤ m1 ∧ m1 ≤ 70 := by omega
      rw [hm1e] at HF
      obtain ⟨m2, hm2e⟩ : ∃ m2, max m1 (R + 1) = m2 := ⟨_, rfl⟩
      have hm2b : 0 ≤ m2 ∧ m2 ≤ 70 := by omega
      rw [hm2e] at HF
      have HE : Hid (max A Bq = ab ∧ max m (ab + 1) = m1 ∧ max m1 (R + 1) = m2) := ⟨hab, hm1e, hm2e⟩
      clear HS2 hAB hA9 hab hm1e hm2e
      go_wp2_with fail
      refine Calls.mono (HMx.out A Bq _) ?_
      rintro e wz ⟨rfl, hz⟩
      obtain rfl := hz.symm
      clear hz
      rw [HE.out.1]
      go_wp2_with fail
      refine Calls.mono (HMx.out m (ab + 1) _) ?_
      rintro e wz ⟨rfl, hz⟩
      obtain rfl := hz.symm
      clear hz
      rw [HE.out.2.1]
      go_wp2_with fail
      refine Calls.mono (HMx.out m1 (R + 1) _) ?_
      rintro e wz ⟨rfl, hz⟩
      obtain rfl := hz.symm
      clear hz
      rw [HE.out.2.2]
      go_wp2
      go_roundw
      case rel => exact ⟨i + 1, m2, rfl, by go_num, by omega, by omega, by omega, HF, HBX⟩
      case measure => simp [intOf]; omega
    have d3 : (kd == 3) = false := beq_eq_false_iff_ne.2 h3
    by_cases h4 : kd = 4
    · subst h4
      obtain ⟨⟨hA0, hA1⟩, hB0, hB1⟩ := hAB (by omega)
      obtain ⟨ab, hab⟩ : ∃ ab, max A Bq = ab := ⟨_, rfl⟩
      have hab0 : 0 ≤ ab ∧ ab ≤ 63 := by omega
      have HF : Hid (mx13 (is.take (i + 1)) = max (max m (ab + 1)) (R + 1)) := by exact (by rw [HS2.out]; unfold top13; rw [if_neg (by simp), if_pos (by simp)]; simp only; rw [hab]; omega : mx13 (is.take (i + 1)) = max (max m (ab + 1)) (R + 1))
      obtain ⟨m1, hm1e⟩ : ∃ m1, max m (ab + 1) = m1 := ⟨_, rfl⟩
      have hm1b : 0 ≤ m1 ∧ m1 ≤ 70 := by omega
      rw [hm1e] at HF
      obtain ⟨m2, hm2e⟩ : ∃ m2, max m1 (R + 1) = m2 := ⟨_, rfl⟩
      have hm2b : 0 ≤ m2 ∧ m2 ≤ 70 := by omega
      rw [hm2e] at HF
      have HE : Hid (max A Bq = ab ∧ max m (ab + 1) = m1 ∧ max m1 (R + 1) = m2) := ⟨hab, hm1e, hm2e⟩
      clear HS2 hAB hA9 hab hm1e hm2e
      go_wp2_with fail
      refine Calls.mono (HMx.out A Bq _) ?_
      rintro e wz ⟨rfl, hz⟩
      obtain rfl := hz.symm
      clear hz
      rw [HE.out.1]
      go_wp2_with fail
      refine Calls.mono (HMx.out m (ab + 1) _) ?_
      rintro e wz ⟨rfl, hz⟩
      obtain rfl := hz.symm
      clear hz
      rw [HE.out.2.1]
      go_wp2_with fail
      refine Calls.mono (HMx.out m1 (R + 1) _) ?_
      rintro e wz ⟨rfl, hz⟩
      obtain rfl := hz.symm
      clear hz
      rw [HE.out.2.2]
      go_wp2
      go_roundw
      case rel => exact ⟨i + 1, m2, rfl, by go_num, by omega, by omega, by omega, HF, HBX⟩
      case measure => simp [intOf]; omega
    have d4 : (kd == 4) = false := beq_eq_false_iff_ne.2 h4
    by_cases h5 : kd = 5
    · subst h5
      obtain ⟨⟨hA0, hA1⟩, hB0, hB1⟩ := hAB (by omega)
      obtain ⟨ab, hab⟩ : ∃ ab, max A Bq = ab := ⟨_, rfl⟩
      have hab0 : 0 ≤ ab ∧ ab ≤ 63 := by omega
      have HF : Hid (mx13 (is.take (i + 1)) = max (max m (ab + 1)) (R + 1)) := by exact (by rw [HS2.out]; unfold top13; rw [if_neg (by simp), if_pos (by simp)]; simp only; rw [hab]; omega : mx13 (is.take (i + 1)) = max (max m (ab + 1)) (R + 1))
      obtain ⟨m1, hm1e⟩ : ∃ m1, max m (ab + 1) = m1 := ⟨_, rfl⟩
      have hm1b : 0 ≤ m1 ∧ m1 ≤ 70 := by omega
      rw [hm1e] at HF
      obtain ⟨m2, hm2e⟩ : ∃ m2, max m1 (R + 1) = m2 := ⟨_, rfl⟩
      have hm2b : 0 ≤ m2 ∧ m2 ≤ 70 := by omega
      rw [hm2e] at HF
      have HE : Hid (max A Bq = ab ∧ max m (ab + 1) = m1 ∧ max m1 (R + 1) = m2) := ⟨hab, hm1e, hm2e⟩
      clear HS2 hAB hA9 hab hm1e hm2e
      go_wp2_with fail
      refine Calls.mono (HMx.out A Bq _) ?_
      rintro e wz ⟨rfl, hz⟩
      obtain rfl := hz.symm
      clear hz
      rw [HE.out.1]
      go_wp2_with fail
      refine Calls.mono (HMx.out m (ab + 1) _) ?_
      rintro e wz ⟨rfl, hz⟩
      obtain rfl := hz.symm
      clear hz
      rw [HE.out.2.1]
      go_wp2_with fail
      refine Calls.mono (HMx.out m1 (R + 1) _) ?_
      rintro e wz ⟨rfl, hz⟩
      obtain rfl := hz.symm
      clear hz
      rw [HE.out.2.2]
      go_wp2
      go_roundw
      case rel => exact ⟨i + 1, m2, rfl, by go_num, by omega, by omega, by omega, HF, HBX⟩
      case measure => simp [intOf]; omega
    have d5 : (kd == 5) = false := beq_eq_false_iff_ne.2 h5
    by_cases h6 : kd = 6
    · subst h6
      obtain ⟨⟨hA0, hA1⟩, hB0, hB1⟩ := hAB (by omega)
      obtain ⟨ab, hab⟩ : ∃ ab, max A Bq = ab := ⟨_, rfl⟩
      have hab0 : 0 ≤ ab ∧ ab ≤ 63 := by omega
      have HF : Hid (mx13 (is.take (i + 1)) = max (max m (ab + 1)) (R + 1)) := by exact (by rw [HS2.out]; unfold top13; rw [if_neg (by simp), if_pos (by simp)]; simp only; rw [hab]; omega : mx13 (is.take (i + 1)) = max (max m (ab + 1)) (R + 1))
      obtain ⟨m1, hm1e⟩ : ∃ m1, max m (ab + 1) = m1 := ⟨_, rfl⟩
      have hm1b : 0 ≤ m1 ∧ m1 ≤ 70 := by omega
      rw [hm1e] at HF
      obtain ⟨m2, hm2e⟩ : ∃ m2, max m1 (R + 1) = m2 := ⟨_, rfl⟩
      have hm2b : 0 ≤ m2 ∧ m2 ≤ 70 := by omega
      rw [hm2e] at HF
      have HE : Hid (max A Bq = ab ∧ max m (ab + 1) = m1 ∧ max m1 (R + 1) = m2) := ⟨hab, hm1e, hm2e⟩
      clear HS2 hAB hA9 hab hm1e hm2e
      go_wp2_with fail
      refine Calls.mono (HMx.out A Bq _) ?_
      rintro e wz ⟨rfl, hz⟩
      obtain rfl := hz.symm
      clear hz
      rw [HE.out.1]
      go_wp2_with fail
      refine Calls.mono (HMx.out m (ab + 1) _) ?_
      rintro e wz ⟨rfl, hz⟩
      obtain rfl := hz.symm
      clear hz
      rw [HE.out.2.1]
      go_wp2_with fail
      refine Calls.mono (HMx.out m1 (R + 1) _) ?_
      rintro e wz ⟨rfl, hz⟩
      obtain rfl := hz.symm
      clear hz
      rw [HE.out.2.2]
      go_wp2
      go_roundw
      case rel => exact ⟨i + 1, m2, rfl, by go_num, by omega, by omega, by omega, HF, HBX⟩
      case measure => simp [intOf]; omega
    have d6 : (kd == 6) = false := beq_eq_false_iff_ne.2 h6
    by_cases h9 : kd = 9
    · subst h9
      obtain ⟨hA0, hA1⟩ := hA9 rfl
      have HF : Hid (mx13 (is.take (i + 1)) = max (max m (R + A)) (R + 1)) := by exact (by rw [HS2.out]; unfold top13; rw [if_neg (by simp), if_neg (by simp), if_pos rfl]; simp only; omega : mx13 (is.take (i + 1)) = max (max m (R + A)) (R + 1))
      obtain ⟨m1, hm1e⟩ : ∃ m1, max m (R + A) = m1 := ⟨_, rfl⟩
      have hm1b : 0 ≤ m1 ∧ m1 ≤ 70 := by omega
      rw [hm1e] at HF
      obtain ⟨m2, hm2e⟩ : ∃ m2, max m1 (R + 1) = m2 := ⟨_, rfl⟩
      have hm2b : 0 ≤ m2 ∧ m2 ≤ 70 := by omega
      rw [hm2e] at HF
      have HE : Hid (max m (R + A) = m1 ∧ max m1 (R + 1) = m2) := ⟨hm1e, hm2e⟩
      clear HS2 hAB hA9 hm1e hm2e
      go_wp2_with fail
      refine Calls.mono (HMx.out m (R + A) _) ?_
      rintro e wz ⟨rfl, hz⟩
      obtain rfl := hz.symm
      clear hz
      rw [HE.out.1]
      go_wp2_with fail
      refine Calls.mono (HMx.out m1 (R + 1) _) ?_
      rintro e wz ⟨rfl, hz⟩
      obtain rfl := hz.symm
      clear hz
      rw [HE.out.2]
      go_wp2
      go_roundw
      case rel => exact ⟨i + 1, m2, rfl, by go_num, by omega, by omega, by omega, HF, HBX⟩
      case measure => simp [intOf]; omega
    have d9 : (kd == 9) = false := beq_eq_false_iff_ne.2 h9
    have HF : Hid (mx13 (is.take (i + 1)) = max m (R + 1)) := by exact (by rw [HS2.out]; unfold top13; simp only; rw [if_neg h8, if_neg (by omega), if_neg h9] : mx13 (is.take (i + 1)) = max m (R + 1))
    obtain ⟨m2, hm2e⟩ : ∃ m2, max m (R + 1) = m2 := ⟨_, rfl⟩
    have hm2b : 0 ≤ m2 ∧ m2 ≤ 70 := by omega
    rw [hm2e] at HF
    have HE : Hid (max m (R + 1) = m2) := hm2e
    clear HS2 hAB hA9 hm2e h3 h4 h5 h6 h8 h9
    go_wp2_with fail
    refine Calls.mono (HMx.out m (R + 1) _) ?_
    rintro e wz ⟨rfl, hz⟩
    obtain rfl := hz.symm
    clear hz
    rw [HE.out]
    go_wp2
    go_roundw
    case rel => exact ⟨i + 1, m2, rfl, by go_num, by omega, by omega, by omega, HF, HBX⟩
    case measure => simp [intOf]; omega

end Go.Proofs.Ytnpbckgaeaameaa

/-! A row of instructions. -/
namespace Go.Proofs.Ytnpbckgaeaameaa
open Go.RowKit

def insV : List In13 → List Value
  | [] => []
  | i :: r => .int .i64 i.1 :: .int .i64 i.2.1 :: .int .i64 i.2.2.1 :: .int .i64 i.2.2.2.1 :: .string ⟨i.2.2.2.2.toArray⟩ :: insV r
theorem insV_len (is : List In13) : (insV is).length = is.length * 5 := by
  induction is with
  | nil => rfl
  | cons n r ih => simp only [insV, List.length_cons, ih]; omega
theorem insV_append (x y : List In13) : insV (x ++ y) = insV x ++ insV y := by
  induction x with
  | nil => rfl
  | cons n r ih => simp only [List.cons_append, insV, ih]
theorem insV_one (is : List In13) : ∀ u ∈ insV is, u.oneCell' = true := by
  induction is with
  | nil => intro u hu; cases hu
  | cons n r ih =>
    intro u hu
    simp only [insV, List.mem_cons] at hu
    rcases hu with rfl | rfl | rfl | rfl | rfl | h
    · rfl
    · rfl
    · rfl
    · rfl
    · rfl
    · exact ih u h
theorem insV_at (is : List In13) (j : Nat) (hj : j < is.length) : (insV is)[j * 5]? = some (.int .i64 (is.getD j in0).1) ∧ (insV is)[j * 5 + 1]? = some (.int .i64 (is.getD j in0).2.1) ∧ (insV is)[j * 5 + 2]? = some (.int .i64 (is.getD j in0).2.2.1) ∧ (insV is)[j * 5 + 3]? = some (.int .i64 (is.getD j in0).2.2.2.1) ∧ (insV is)[j * 5 + 4]? = some (.string ⟨(is.getD j in0).2.2.2.2.toArray⟩) := by
  induction is generalizing j with
  | nil => simp at hj
  | cons n r ih =>
    cases j with
    | zero => simp [insV]
    | succ j =>
      have h := ih j (by simpa using hj)
      rw [show (j + 1) * 5 = j * 5 + 1 + 1 + 1 + 1 + 1 by omega]
      simpa [insV] using h
theorem own_ins {w : World} {base n : Nat} {v : Value} {is : List In13} (h : w.ownsRow base 43 5 v n (insV is)) : is.length = n ∧ ∃ a cap, v = .slice a n cap ∧ InsIn w a n is := by
  have hlen : is.length = n := by have := h.1; rw [insV_len] at this; omega
  refine ⟨hlen, ?_⟩
  rcases own_forms h with ⟨rfl, rfl, _⟩ | ⟨g, cp, rfl⟩
  · exact ⟨none, 0, rfl, hlen, fun j hj => by omega⟩
  · refine ⟨some ⟨g, 0, none⟩, cp, rfl, hlen, fun j hj => ?_⟩
    obtain ⟨v0, v1, v2, v3, v4⟩ := insV_at is j (by omega)
    have c0 := h.cellAt (j * 5) (by omega)
    have c1 := h.cellAt (j * 5 + 1) (by omega)
    have c2 := h.cellAt (j * 5 + 2) (by omega)
    have c3 := h.cellAt (j * 5 + 3) (by omega)
    have c4 := h.cellAt (j * 5 + 4) (by omega)
    rw [v0] at c0
    rw [v1] at c1
    rw [v2] at c2
    rw [v3] at c3
    rw [v4] at c4
    refine ⟨g, 0, rfl, (h.lt g rfl).2, ?_, ?_, ?_, ?_, ?_⟩ <;> (rw [Nat.zero_add]; assumption)
theorem infoIns : (Try.prog.info? 43).map (fun i => (i.zero, i.size, i.bytes)) = some (some (.agg #[.int .i64 0, .int .i64 0, .int .i64 0, .int .i64 0, .string ⟨#[]⟩]), 5, 48) := by kernel_rfl
theorem new_ins (w : World) (n : In13) : ∀ j u, (insV [n])[j]? = some u → (w.alloc (.cells #[.int .i64 n.1, .int .i64 n.2.1, .int .i64 n.2.2.1, .int .i64 n.2.2.2.1, .string ⟨n.2.2.2.2.toArray⟩] 43)).cell? ((⟨w.heap.size, 0, none⟩ : Addr).add j) = some u := by
  intro j u hu
  have e : (⟨w.heap.size, 0, none⟩ : Addr).add j = ⟨w.heap.size, j, none⟩ := by unfold Addr.add; split <;> simp_all
  rw [e]
  match j, hu with
  | 0, hu => simp [insV] at hu; subst hu; simp
  | 1, hu => simp [insV] at hu; subst hu; simp
  | 2, hu => simp [insV] at hu; subst hu; simp
  | 3, hu => simp [insV] at hu; subst hu; simp
  | 4, hu => simp [insV] at hu; subst hu; simp
  | j + 5, hu => simp [insV] at hu
theorem push_ins13 {X : World} {B n : Nat} {v : Value} {xs : List In13} (x : In13) (hv : X.ownsRow B 43 5 v n (insV xs)) (hb : B ≤ X.heap.size) (hn : n ≤ 1048576) :
    ∃ v' Y, (Builtin.append_ #[49, 49] 49 #[v, .slice (some ⟨X.heap.size, 0, none⟩) 1 1]).run Try.prog (X.alloc (.cells #[.int .i64 x.1, .int .i64 x.2.1, .int .i64 x.2.2.1, .int .i64 x.2.2.2.1, .string ⟨x.2.2.2.2.toArray⟩] 43)) = .ok v' Y ∧ Y.ownsRow B 43 5 v' (n + 1) (insV (xs ++ [x])) ∧ X.grownBy Y v.ownBlock := by
  obtain ⟨i0, hi, hz0, hz1, hz2⟩ := info_parts infoIns
  obtain ⟨v', Y, hrun, hown, hg, _⟩ := run_append_src (P := Try.prog) (X.alloc (.cells #[.int .i64 x.1, .int .i64 x.2.1, .int .i64 x.2.2.1, .int .i64 x.2.2.2.1, .string ⟨x.2.2.2.2.toArray⟩] 43)) B 49 49 43 i0 _ 5 48 Try.underlying49 hi hz0 hz1 hz2 rfl (by decide) _ _ _ (hv.alloc _) (.slice (some ⟨X.heap.size, 0, none⟩) 1 1) 1 (insV [x]) ⟨rfl, insV_one _, Or.inr ⟨_, 1, rfl, new_ins X x⟩⟩ (by unfold maxLen; omega) (by omega) (by simp; omega)
  refine ⟨v', Y, hrun, ?_, (World.grownBy_alloc X _ _).trans hg⟩
  rw [insV_append]
  exact hown

end Go.Proofs.Ytnpbckgaeaameaa
