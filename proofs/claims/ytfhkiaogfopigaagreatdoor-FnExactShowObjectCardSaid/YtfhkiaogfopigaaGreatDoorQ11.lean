/-
  Parts of one proof, one behind the other: Math14I, Math6I, Math14L, Math15.
-/
import Derived.Test.YtfhkiaogfopigaaGreatDoorQ10
import Derived.Test.YtfhkiaogfopigaaGreatDoorQ3
import Derived.Test.YtfhkiaogfopigaaGreatDoorQ2
import Derived.Test.YtfhkiaogfopigaaGreatDoorQ1
import Derived.Test.YtfhkiaogfopigaaGreatDoorQ4
import Derived.Lib.ItoaNum
import Derived.Lib.Join
import Derived.Lib.Bytealg
import Derived.Test.YtfhkiaogfopigaaGreatDoorQ9

/-! Plain facts of chapter 14 as the landed code goes about it: routines whose names rise, one found by halving. -/
namespace Go.Proofs.YtfhkiaogfopigaaGreatDoor
open Go.RowKit

/-- Right routines whose names rise, at most so many. -/
def RiseR (rs : List Rt) : Prop := ∀ i j, i < j → j < rs.length → Op.bytesLess (rs.getD i rt0).1 (rs.getD j rt0).1 = true
theorem riseR_of {rs : List Rt} (h : ∀ i, i + 1 < rs.length → leT (rs.getD (i + 1) rt0).1 (rs.getD i rt0).1 = false) : RiseR rs := by
  have hd : ∀ d i, i + d + 1 < rs.length → Op.bytesLess (rs.getD i rt0).1 (rs.getD (i + d + 1) rt0).1 = true := by
    intro d
    induction d with
    | zero => intro i hi; exact leT_no.1 (h i hi)
    | succ d ih => intro i hi; exact lt8_trans (ih i (by omega)) (leT_no.1 (h (i + d + 1) (by omega)))
  intro i j hij hj
  have hh := hd (j - i - 1) i (by omega)
  rw [show i + (j - i - 1) + 1 = j by omega] at hh
  exact hh
def rtsB (rs : List Rt) (most : Int) : Bool := decide ((1 ≤ (rs.length : Int) ∧ (rs.length : Int) ≤ most) ∧ (∀ i, i < rs.length → rtB (rs.getD i rt0) = true) ∧ ∀ i, i < rs.length - 1 → leT (rs.getD (i + 1) rt0).1 (rs.getD i rt0).1 = false)
theorem rtsB_rise {rs : List Rt} {m : Int} (h : rtsB rs m = true) : RiseR rs := riseR_of (fun i hi => (of_decide_eq_true h).2.2 i (by omega))
theorem rtsB_few {rs : List Rt} {m : Int} (h : (rs.length : Int) < 1 ∨ m < (rs.length : Int)) : rtsB rs m = false := decide_eq_false (fun e => by have := e.1; omega)
structure RrSt (rs : List Rt) (k : Nat) (z : List UInt8) : Prop where
  oks : ∀ i, i < k → rtB (rs.getD i rt0) = true
  rise : ∀ i, i + 1 < k → leT (rs.getD (i + 1) rt0).1 (rs.getD i rt0).1 = false
  last : (k = 0 ∧ z = []) ∨ (0 < k ∧ z = (rs.getD (k - 1) rt0).1)
theorem RrSt.start (rs : List Rt) : RrSt rs 0 [] := ⟨fun i hi => by omega, fun i hi => by omega, Or.inl ⟨rfl, rfl⟩⟩
theorem RrSt.noOk {rs : List Rt} {k : Nat} {m : Int} (hk : k < rs.length) (hn : rtB (rs.getD k rt0) = false) : rtsB rs m = false := decide_eq_false (fun g => by rw [g.2.1 k hk] at hn; cases hn)
theorem leT_nilR {x : List UInt8} (h : name13 x = true) : leT x [] = false := by
  have h1 := (name13_len h).1
  cases x with
  | nil => simp at h1
  | cons c r => simp [leT, Op.bytesLess]
theorem RrSt.noRise {rs : List Rt} {k : Nat} {z : List UInt8} {m : Int} (h : RrSt rs k z) (hk : k < rs.length) (hn : rtB (rs.getD k rt0) = true) (hl : leT (rs.getD k rt0).1 z = true) : rtsB rs m = false := by
  rcases h.last with ⟨rfl, rfl⟩ | ⟨h0, rfl⟩
  · rw [leT_nilR (rtB_parts hn).1] at hl; cases hl
  · refine decide_eq_false (fun g => ?_)
    have := g.2.2 (k - 1) (by omega)
    rw [show k - 1 + 1 = k by omega, hl] at this
    cases this
theorem RrSt.step {rs : List Rt} {k : Nat} {z : List UInt8} (h : RrSt rs k z) (hn : rtB (rs.getD k rt0) = true) (hl : leT (rs.getD k rt0).1 z = false) : RrSt rs (k + 1) (rs.getD k rt0).1 := by
  refine ⟨fun i hi => ?_, fun i hi => ?_, Or.inr ⟨by omega, by rw [Nat.add_sub_cancel]⟩⟩
  · rcases Nat.lt_or_ge i k with g | g
    · exact h.oks i g
    · obtain rfl : i = k := by omega
      exact hn
  · rcases Nat.lt_or_ge (i + 1) k with g | g
    · exact h.rise i g
    · obtain rfl : k = i + 1 := by omega
      rcases h.last with ⟨e, _⟩ | ⟨_, rfl⟩
      · omega
      · rw [Nat.add_sub_cancel] at hl; exact hl
theorem RrSt.all {rs : List Rt} {z : List UInt8} {m : Int} (h : RrSt rs rs.length z) (hl : 1 ≤ (rs.length : Int) ∧ (rs.length : Int) ≤ m) : rtsB rs m = true := decide_eq_true ⟨hl, h.oks, fun i hi => h.rise i (by omega)⟩

theorem imageB_rts (rs : List Rt) : imageB rs = (rtsB rs 64 && decide (∀ j, j < rs.length → (rs.getD j rt0).2.2.all (clsB rs) = true)) := by
  rw [Bool.eq_iff_iff]
  unfold imageB rtsB oneB
  simp only [Bool.and_eq_true, decide_eq_true_eq]
  constructor
  · rintro ⟨h, h1, h2⟩
    refine ⟨⟨⟨by omega, by omega⟩, fun i hi => (h i hi).1, fun i hi => ?_⟩, fun j hj => (h j hj).2.2⟩
    have := (h (i + 1) (by omega)).2.1 (by omega)
    rw [Nat.add_sub_cancel] at this
    exact this
  · rintro ⟨⟨h1, h2, h3⟩, h4⟩
    refine ⟨fun j hj => ⟨h2 j hj, fun h0 => ?_, h4 j hj⟩, by omega, by omega⟩
    have := h3 (j - 1) (by omega)
    rw [show j - 1 + 1 = j by omega] at this
    exact this
theorem image_noR {rs : List Rt} (h : rtsB rs 64 = false) : imageB rs = false := by rw [imageB_rts, h]; rfl
theorem image_noC {rs : List Rt} {j : Nat} (hj : j < rs.length) (h : (rs.getD j rt0).2.2.all (clsB rs) = false) : imageB rs = false := by
  rw [imageB_rts, decide_eq_false (fun g => by rw [g j hj] at h; cases h), Bool.and_false]
theorem image_yes {rs : List Rt} (h : rtsB rs 64 = true) (hc : ∀ j, j < rs.length → (rs.getD j rt0).2.2.all (clsB rs) = true) : imageB rs = true := by
  rw [imageB_rts, h, decide_eq_true hc]; rfl

/-- The place of a name. -/
theorem at14Go_yes (s : List UInt8) : ∀ (rs : List Rt) (k j : Nat), j < rs.length → (rs.getD j rt0).1 = s → (∀ i, i < j → (rs.getD i rt0).1 ≠ s) → at14Go s rs k = ((k + j : Nat) : Int)
  | [], _, j, hj, _, _ => by simp at hj
  | r :: rs, k, 0, _, h, _ => by
    rw [at14Go, if_pos (by simpa using h)]; simp
  | r :: rs, k, j + 1, hj, h, hn => by
    have h0 := hn 0 (by omega)
    rw [at14Go, if_neg (by simpa using h0), at14Go_yes s rs (k + 1) j (by simpa using hj) (by simpa using h) (fun i hi => by have := hn (i + 1) (by omega); simpa using this)]
    omega
theorem at14Go_no (s : List UInt8) : ∀ (rs : List Rt) (k : Nat), (∀ i, i < rs.length → (rs.getD i rt0).1 ≠ s) → at14Go s rs k = -1
  | [], _, _ => rfl
  | r :: rs, k, hn => by
    have h0 := hn 0 (by simp)
    rw [at14Go, if_neg (by simpa using h0), at14Go_no s rs (k + 1) (fun i hi => by have := hn (i + 1) (by simpa using hi); simpa using this)]
theorem at14_yes {rs : List Rt} (hr : RiseR rs) {s : List UInt8} {j : Nat} (hj : j < rs.length) (h : (rs.getD j rt0).1 = s) : at14 rs s = (j : Int) := by
  unfold at14
  rw [at14Go_yes s rs 0 j hj h (fun i hi e => ?_), Nat.zero_add]
  have := hr i j hi hj
  rw [e, h, lt8_irr] at this
  cases this
/-- Halving: what stands ahead is less, what stands behind is not. -/
structure Half (rs : List Rt) (s : List UInt8) (lo hi : Nat) : Prop where
  a : ∀ t, t < lo → Op.bytesLess (rs.getD t rt0).1 s = true
  b : ∀ t, hi ≤ t → t < rs.length → Op.bytesLess (rs.getD t rt0).1 s = false
theorem Half.start (rs : List Rt) (s : List UInt8) : Half rs s 0 rs.length := ⟨fun t h => by omega, fun t h1 h2 => by omega⟩
theorem Half.up {rs : List Rt} {s : List UInt8} {lo hi m : Nat} (hr : RiseR rs) (h : Half rs s lo hi) (hm : m < rs.length) (e : Op.bytesLess (rs.getD m rt0).1 s = true) : Half rs s (m + 1) hi :=
  ⟨fun t ht => by
    rcases Nat.lt_or_ge t m with g | g
    · exact lt8_trans (hr t m g hm) e
    · obtain rfl : t = m := by omega
      exact e, h.b⟩
theorem Half.down {rs : List Rt} {s : List UInt8} {lo hi m : Nat} (hr : RiseR rs) (h : Half rs s lo hi) (e : Op.bytesLess (rs.getD m rt0).1 s = false) : Half rs s lo m :=
  ⟨h.a, fun t ht hl => by
    rcases Nat.lt_or_ge m t with g | g
    · rcases hx : Op.bytesLess (rs.getD t rt0).1 s with _ | _
      · rfl
      · rw [lt8_trans (hr m t g hl) hx] at e; cases e
    · obtain rfl : t = m := by omega
      exact e⟩
theorem Half.no {rs : List Rt} {s : List UInt8} {i : Nat} (hr : RiseR rs) (h : Half rs s i i) (hn : i < rs.length → (rs.getD i rt0).1 ≠ s) : at14 rs s = -1 := by
  refine at14Go_no s rs 0 (fun t ht e => ?_)
  rcases Nat.lt_trichotomy t i with g | g | g
  · have := h.a t g; rw [e, lt8_irr] at this; cases this
  · subst g; exact hn ht e
  · have h1 := hr i t g ht
    have h2 := h.b i (Nat.le_refl _) (by omega)
    rw [e] at h1
    rw [h1] at h2
    cases h2

theorem cls_allI {rs : List Rt} {c : List In13} : c.all (clsB rs) = true ↔ ∀ k, k < c.length → clsB rs (c.getD k in0) = true := by
  rw [List.all_eq_true]
  constructor
  · intro h k hk
    exact h _ (by rw [List.getD_eq_getElem?_getD, List.getElem?_eq_getElem hk]; exact List.getElem_mem hk)
  · intro h x hx
    obtain ⟨k, hk, rfl⟩ := List.getElem_of_mem hx
    have := h k hk
    simpa [List.getD, hk] using this
theorem cls_noI {rs : List Rt} {c : List In13} {k : Nat} (hk : k < c.length) (h : clsB rs (c.getD k in0) = false) : c.all (clsB rs) = false := by
  rcases hx : c.all (clsB rs) with _ | _
  · rfl
  · rw [cls_allI.1 hx k hk] at h; cases h
theorem arg_allI {n : Int} {c : List In13} : c.all (argB n) = true ↔ ∀ k, k < c.length → argB n (c.getD k in0) = true := by
  rw [List.all_eq_true]
  constructor
  · intro h k hk
    exact h _ (by rw [List.getD_eq_getElem?_getD, List.getElem?_eq_getElem hk]; exact List.getElem_mem hk)
  · intro h x hx
    obtain ⟨k, hk, rfl⟩ := List.getElem_of_mem hx
    have := h k hk
    simpa [List.getD, hk] using this
theorem arg_noI {n : Int} {c : List In13} {k : Nat} (hk : k < c.length) (h : argB n (c.getD k in0) = false) : c.all (argB n) = false := by
  rcases hx : c.all (argB n) with _ | _
  · rfl
  · rw [arg_allI.1 hx k hk] at h; cases h

end Go.Proofs.YtfhkiaogfopigaaGreatDoor

/-! Plain facts for chapter 6's landed code: shapes, and what words are read as. -/
namespace Go.Proofs.YtfhkiaogfopigaaGreatDoor
open Go.RowKit

/-- The library's numerals are ours. -/
theorem dec_digL : ∀ u : Nat, Lib.decDigits u = digL u := by
  intro u
  induction u using Nat.strongRecOn with
  | ind u ih =>
    rw [Lib.decDigits, digL]
    by_cases h : u < 10
    · rw [dif_pos h, if_pos h]; unfold digit; rw [Nat.mod_eq_of_lt h]
    · rw [dif_neg h, if_neg h, ih (u / 10) (by omega)]; rfl
theorem itoa_int (a : Int) : Lib.itoa a = intL a := by
  unfold Lib.itoa intL
  split
  · rw [dec_digL]
  · rw [dec_digL]; congr 1; omega

theorem join_by (ws : List (List UInt8)) : Lib.join ws [32] = joinBy 32 ws := by
  induction ws with
  | nil => rfl
  | cons x r ih =>
    cases r with
    | nil => rw [Lib.join_one]; rfl
    | cons y q =>
      rw [joinBy_cons 32 x (y :: q) (by simp), ← ih, Lib.join_cons, Lib.join_cons]
      simp [Lib.joinTail]

/-- A text cut at a byte: what is ahead of it, what is behind it. -/
def cutA (b : UInt8) (l : List UInt8) : List UInt8 := l.takeWhile (fun c => c != b)
def cutB (b : UInt8) (l : List UInt8) : List UInt8 := (l.dropWhile (fun c => c != b)).tail

theorem cut_one (b : UInt8) (x y : List UInt8) (h : ∀ c ∈ x, c ≠ b) : cutA b (x ++ b :: y) = x ∧ cutB b (x ++ b :: y) = y := by
  unfold cutA cutB
  induction x with
  | nil => simp
  | cons c r ih =>
    have hc : (c != b) = true := bne_iff_ne.2 (h c (by simp))
    have := ih (fun d hd => h d (by simp [hd]))
    rw [List.cons_append, List.takeWhile_cons, List.dropWhile_cons, if_pos hc, if_pos hc]
    exact ⟨by rw [this.1], this.2⟩

theorem cutA_len (b : UInt8) (l : List UInt8) : (cutA b l).length ≤ l.length := (List.takeWhile_sublist _).length_le
theorem cutB_len (b : UInt8) (l : List UInt8) : (cutB b l).length ≤ l.length := by
  have := (List.dropWhile_sublist (l := l) (fun c => c != b)).length_le
  unfold cutB
  rw [List.length_tail]
  omega

/-- Where the byte is. -/
theorem cut_at (b : UInt8) (l : List UInt8) : (Lib.indexByte l b = -1 ∧ cutA b l = l ∧ cutB b l = []) ∨ ∃ k : Nat, Lib.indexByte l b = (k : Int) ∧ k < l.length ∧ cutA b l = l.take k ∧ cutB b l = l.drop (k + 1) := by
  induction l with
  | nil => exact Or.inl ⟨rfl, rfl, rfl⟩
  | cons c r ih =>
    by_cases hc : c = b
    · subst hc
      refine Or.inr ⟨0, ?_, by simp, ?_, ?_⟩
      · unfold Lib.indexByte; simp
      · unfold cutA; simp
      · unfold cutB; simp
    · have hc2 : (c != b) = true := bne_iff_ne.2 hc
      have hc3 : (c == b) = false := beq_eq_false_iff_ne.2 hc
      have ea : cutA b (c :: r) = c :: cutA b r := by unfold cutA; rw [List.takeWhile_cons, if_pos hc2]
      have eb : cutB b (c :: r) = cutB b r := by unfold cutB; rw [List.dropWhile_cons, if_pos hc2]
      have ei : Lib.indexByte (c :: r) b = if Lib.indexByte r b == -1 then -1 else Lib.indexByte r b + 1 := by
        rw [Lib.indexByte, hc3]; rfl
      rw [ea, eb, ei]
      rcases ih with ⟨h1, h2, h3⟩ | ⟨k, h1, h2, h3, h4⟩
      · exact Or.inl ⟨by rw [h1]; rfl, by rw [h2], h3⟩
      · refine Or.inr ⟨k + 1, ?_, by simp; omega, by rw [h3]; rfl, by rw [h4]; rfl⟩
        rw [h1, if_neg (by rw [beq_iff_eq]; omega)]
        omega

theorem num_word (a : Int) (h0 : -2147483648 ≤ a) (h1 : a ≤ 2147483647) : numB (intL a) = true ∧ numV (intL a) = a := by
  obtain ⟨e1, e2⟩ := read_of_int a h0 h1
  have := num_yes e1 (by rw [e2]; exact inB_yes _ _ _ h0 h1)
  exact ⟨this.1, by rw [this.2, e2]⟩

end Go.Proofs.YtfhkiaogfopigaaGreatDoor

/-! Plain facts of chapter 14: lines read loosely, as the landed code reads them. -/
namespace Go.Proofs.YtfhkiaogfopigaaGreatDoor
open Go.RowKit

theorem mem_getL {c : List In13} {k : Nat} (hk : k < c.length) : c.getD k in0 ∈ c := by rw [List.getD_eq_getElem?_getD, List.getElem?_eq_getElem hk]; exact List.getElem_mem hk
noncomputable def insLo (ws : List (List UInt8)) : In13 := if ws.length = 5 then (numV (ws.getD 0 []), numV (ws.getD 1 []), numV (ws.getD 2 []), numV (ws.getD 3 []), if ws.getD 4 [] = [45] then [] else ws.getD 4 []) else in0
noncomputable def rtLo (out : List Rt) (x : List UInt8) : List Rt :=
  if (wordsL x).length = 4 ∧ (wordsL x).getD 0 [] = kwRt then out ++ [((wordsL x).getD 1 [], numV ((wordsL x).getD 2 []), [])]
  else if out = [] then [] else addI out (insLo (wordsL x))
noncomputable def loI (out : List Rt) (ls : List (List UInt8)) : List Rt := ls.foldl rtLo out
theorem loI_take (ls : List (List UInt8)) (k : Nat) (hk : k < ls.length) : loI [] (ls.take (k + 1)) = rtLo (loI [] (ls.take k)) (ls.getD k []) := by
  have e : ls.getD k [] = ls[k] := by rw [List.getD_eq_getElem?_getD, List.getElem?_eq_getElem hk]; rfl
  unfold loI
  rw [List.take_succ_eq_append_getElem hk, List.foldl_append, e]
  rfl
theorem insLn_words {i : In13} (h : insP i) : wordsL (insLn i) = [intL i.1, intL i.2.1, intL i.2.2.1, intL i.2.2.2.1, nmL i.2.2.2.2] := by
  have hs := insLn_split h
  unfold wordsL
  rw [if_neg (fun e => by rw [e] at hs; simp [splitL, splitGo] at hs), hs]
theorem rtLn_words {r : Rt} (h : rtB r = true) : wordsL (rtLn r) = [kwRt, r.1, intL r.2.1, intL (r.2.2.length : Int)] := by
  have hs := rtLn_split h
  unfold wordsL
  rw [if_neg (fun e => by rw [e] at hs; simp [splitL, splitGo] at hs), hs]
theorem insLo_of {i : In13} (h : insP i) : insLo [intL i.1, intL i.2.1, intL i.2.2.1, intL i.2.2.2.1, nmL i.2.2.2.2] = i := by
  obtain ⟨w0, w1, w2, w3⟩ := insP_words h
  have hr := insRd_of h
  unfold insRd at hr
  simp only [List.getD_cons_zero, List.getD_cons_succ] at hr
  unfold insLo
  rw [if_pos (by simp)]
  simp only [List.getD_cons_zero, List.getD_cons_succ]
  rw [(num_word _ w0.1 w0.2).2, (num_word _ w1.1 w1.2).2, (num_word _ w2.1 w2.2).2, (num_word _ w3.1 w3.2).2]
  have e5 := congrArg (fun j : In13 => j.2.2.2.2) hr
  simp only at e5
  rw [e5]
theorem loI_ins (out : List Rt) (n : List UInt8) (a : Int) (ls : List (List UInt8)) : ∀ (c d : List In13), (∀ i ∈ d, insP i) → loI (out ++ [(n, a, c)]) (d.map insLn ++ ls) = loI (out ++ [(n, a, c ++ d)]) ls
  | c, [], _ => by simp
  | c, i :: d, h => by
    have hi := h i (by simp)
    have ih := loI_ins out n a ls (c ++ [i]) d (fun j hj => h j (by simp [hj]))
    have e : rtLo (out ++ [(n, a, c)]) (insLn i) = out ++ [(n, a, c ++ [i])] := by
      unfold rtLo
      rw [insLn_words hi, if_neg (by simp), if_neg (by simp), insLo_of hi, addI_snoc]
    unfold loI at ih ⊢
    rw [List.map_cons, List.cons_append, List.foldl_cons, e, ih]
    simp
theorem loI_rts (ls : List (List UInt8)) : ∀ (rs out : List Rt), (∀ r ∈ rs, rtB r = true) → loI out (imLines rs ++ ls) = loI (out ++ rs) ls
  | [], out, _ => by simp [imLines]
  | r :: rs, out, h => by
    obtain ⟨n, a, c⟩ := r
    have hr := h (n, a, c) (by simp)
    have hc := (rtB_parts hr).2.2.1
    have ha := (rtB_parts hr).2.1
    simp only at ha
    have e : imLines ((n, a, c) :: rs) ++ ls = rtLn (n, a, c) :: (c.map insLn ++ (imLines rs ++ ls)) := by simp [imLines, rtLines]
    have e1 : rtLo out (rtLn (n, a, c)) = out ++ [(n, a, [])] := by
      unfold rtLo
      rw [rtLn_words hr, if_pos (by simp)]
      simp only [List.getD_cons_zero, List.getD_cons_succ]
      rw [(num_word a (by omega) (by omega)).2]
    have h2 := loI_ins out n a (imLines rs ++ ls) [] c (codeB_ins hc)
    have h3 := loI_rts ls rs (out ++ [(n, a, c)]) (fun q hq => h q (by simp [hq]))
    rw [e]
    have e2 : loI out (rtLn (n, a, c) :: (c.map insLn ++ (imLines rs ++ ls))) = loI (out ++ [(n, a, [])]) (c.map insLn ++ (imLines rs ++ ls)) := by
      unfold loI
      rw [List.foldl_cons, e1]
    rw [e2, h2, List.nil_append, h3]
    simp
theorem lo_image {rs : List Rt} (h : imageB rs = true) : loI [] (imLines rs) = rs := by
  have := loI_rts [] rs [] (image_rts h)
  simpa [loI] using this
theorem loI_yes {l : List UInt8} {q : List Rt} (hl : l ≠ []) (hs : showIm q = l) : readIB l = true ∧ readIV l = q := by
  rcases hp : imageB q with _ | _
  · rw [image_not hp] at hs; exact absurd hs.symm hl
  · have h := image_back hp
    rw [hs] at h
    exact ⟨h.2.1, h.2.2⟩
theorem loI_no {l : List UInt8} (hs : showIm (loI [] (linesL l)) ≠ l) : readIB l = false ∧ readIV l = [] := by
  rcases read_iv l with ⟨_, h, e⟩ | h
  · refine absurd ?_ hs
    have e2 : linesL l = imLines (readIV l) := by
      have h1 := lines_term (imLines (readIV l)) (lines14_no10 h)
      have h2 : showI (readIV l) = l := (show showI (readIV l) = showIm (readIV l) from (if_pos h).symm).trans e
      rw [show termJ (imLines (readIV l)) = showI (readIV l) from rfl, h2] at h1
      exact h1
    rw [e2, lo_image h]
    exact e
  · exact h
theorem loI_nil : readIB [] = false ∧ readIV [] = [] := by
  rcases read_iv [] with ⟨_, h, e⟩ | h
  · exact absurd e (image_back h).1
  · exact h

/-- How great what is read may be. -/
structure LoR (n : Nat) (rs : List Rt) : Prop where
  l : rs.length ≤ n
  c : ∀ r ∈ rs, r.1.length ≤ 1048576 ∧ (-2147483648 ≤ r.2.1 ∧ r.2.1 ≤ 2147483647) ∧ r.2.2.length ≤ n ∧ ∀ i ∈ r.2.2, ((-2147483648 ≤ i.1 ∧ i.1 ≤ 2147483647) ∧ (-2147483648 ≤ i.2.1 ∧ i.2.1 ≤ 2147483647) ∧ (-2147483648 ≤ i.2.2.1 ∧ i.2.2.1 ≤ 2147483647) ∧ (-2147483648 ≤ i.2.2.2.1 ∧ i.2.2.2.1 ≤ 2147483647)) ∧ i.2.2.2.2.length ≤ 1048576
theorem LoR.nil (n : Nat) : LoR n [] := ⟨Nat.zero_le _, fun r hr => by cases hr⟩
theorem word_lenI (x : List UInt8) (j : Nat) : ((wordsL x).getD j []).length ≤ x.length := by
  by_cases hx : x = []
  · subst hx; simp [wordsL]
  · have hw : wordsL x = splitL 32 x := by unfold wordsL; rw [if_neg hx]
    rw [hw]
    exact split_part 32 x j
theorem insLo_bd (x : List UInt8) (hx : x.length ≤ 1048576) : ((-2147483648 ≤ (insLo (wordsL x)).1 ∧ (insLo (wordsL x)).1 ≤ 2147483647) ∧ (-2147483648 ≤ (insLo (wordsL x)).2.1 ∧ (insLo (wordsL x)).2.1 ≤ 2147483647) ∧ (-2147483648 ≤ (insLo (wordsL x)).2.2.1 ∧ (insLo (wordsL x)).2.2.1 ≤ 2147483647) ∧ (-2147483648 ≤ (insLo (wordsL x)).2.2.2.1 ∧ (insLo (wordsL x)).2.2.2.1 ≤ 2147483647)) ∧ (insLo (wordsL x)).2.2.2.2.length ≤ 1048576 := by
  have h4 := word_lenI x 4
  unfold insLo
  split
  · refine ⟨⟨numV_bd _, numV_bd _, numV_bd _, numV_bd _⟩, ?_⟩
    simp only
    split
    · simp
    · omega
  · simp [in0]
theorem LoR.step {n : Nat} {rs : List Rt} (h : LoR n rs) (x : List UInt8) (hx : x.length ≤ 1048576) : LoR (n + 1) (rtLo rs x) := by
  unfold rtLo
  split
  · refine ⟨by rw [List.length_append, List.length_singleton]; have := h.l; omega, fun r hr => ?_⟩
    rcases List.mem_append.1 hr with e | e
    · have := h.c r e; exact ⟨this.1, this.2.1, by have := this.2.2.1; omega, this.2.2.2⟩
    · rw [List.mem_singleton.1 e]
      exact ⟨by have := word_lenI x 1; simp only; omega, numV_bd _, by simp, fun i hi => by cases hi⟩
  · split
    · exact LoR.nil _
    · rename_i hne
      have hm : rs.getLastD rt0 ∈ rs := by
        rw [List.getLastD_eq_getLast?, List.getLast?_eq_some_getLast hne]
        exact List.getLast_mem hne
      have hl := h.c _ hm
      unfold addI
      refine ⟨by rw [List.length_append, List.length_dropLast, List.length_singleton]; have := h.l; omega, fun r hr => ?_⟩
      rcases List.mem_append.1 hr with e | e
      · have := h.c r (List.dropLast_subset _ e); exact ⟨this.1, this.2.1, by have := this.2.2.1; omega, this.2.2.2⟩
      · rw [List.mem_singleton.1 e]
        refine ⟨hl.1, hl.2.1, by simp only [List.length_append, List.length_singleton]; have := hl.2.2.1; omega, fun i hi => ?_⟩
        rcases List.mem_append.1 hi with e2 | e2
        · exact hl.2.2.2 i e2
        · rw [List.mem_singleton.1 e2]; exact insLo_bd x hx
theorem LoR.ok {n : Nat} {rs : List Rt} (h : LoR n rs) (hn : n ≤ 1048576) : IntR rs ∧ ShortR rs := by
  refine ⟨fun j => ?_, fun j => ?_⟩
  · by_cases hj : j < rs.length
    · have hm : rs.getD j rt0 ∈ rs := by rw [List.getD_eq_getElem?_getD, List.getElem?_eq_getElem hj]; exact List.getElem_mem hj
      have hc := h.c _ hm
      refine ⟨by omega, fun k => ?_⟩
      by_cases hk : k < (rs.getD j rt0).2.2.length
      · have hi := hc.2.2.2 _ (mem_getL hk)
        unfold IntI
        omega
      · rw [List.getD_eq_getElem?_getD, List.getElem?_eq_none (by omega)]; exact intI_in0
    · have e : rs.getD j rt0 = rt0 := by rw [List.getD_eq_getElem?_getD, List.getElem?_eq_none (by omega)]; rfl
      rw [e]
      exact ⟨by simp [rt0], intIs_nil⟩
  · by_cases hj : j < rs.length
    · have hm : rs.getD j rt0 ∈ rs := by rw [List.getD_eq_getElem?_getD, List.getElem?_eq_getElem hj]; exact List.getElem_mem hj
      have hc := h.c _ hm
      refine ⟨hc.1, by omega, fun k => ?_⟩
      by_cases hk : k < (rs.getD j rt0).2.2.length
      · exact (hc.2.2.2 _ (mem_getL hk)).2
      · rw [List.getD_eq_getElem?_getD, List.getElem?_eq_none (by omega)]; simp [in0]
    · have e : rs.getD j rt0 = rt0 := by rw [List.getD_eq_getElem?_getD, List.getElem?_eq_none (by omega)]; rfl
      rw [e]
      exact ⟨by simp [rt0], by simp [rt0], fun k => by simp [rt0, in0]⟩
theorem linesI_le (l : List UInt8) : (linesL l).length ≤ l.length := by
  have hne := splitGo_ne 10 l []
  have hj := joinBy_split 10 l []
  rw [List.nil_append] at hj
  have hs : splitL 10 l = (splitL 10 l).dropLast ++ [(splitL 10 l).getLastD []] := by
    have h : splitL 10 l ≠ [] := hne
    have h2 := List.dropLast_concat_getLast h
    rw [← h2]
    simp [List.getLastD_eq_getLast?]
  have hj2 : joinBy 10 (splitL 10 l) = l := hj
  rw [hs, joinBy_term] at hj2
  have hc : ∀ ls : List (List UInt8), ls.length ≤ (termJ ls).length := fun ls => by
    induction ls with
    | nil => simp
    | cons x r ih => simp only [termJ, List.map_cons, List.flatten_cons, List.length_append, List.length_cons, List.length_nil] at ih ⊢; omega
  have h1 := hc (splitL 10 l).dropLast
  have h2 := congrArg List.length hj2
  rw [List.length_append] at h2
  unfold linesL
  split
  · omega
  · rename_i hn
    have h3 : 0 < ((splitL 10 l).getLastD []).length := List.length_pos_iff.2 hn
    have h4 := congrArg List.length hs
    rw [List.length_append, List.length_singleton] at h4
    omega

end Go.Proofs.YtfhkiaogfopigaaGreatDoor

/-! Plain facts of chapter 15: objects, right, shown, read strictly and read loosely. -/
namespace Go.Proofs.YtfhkiaogfopigaaGreatDoor
open Go.RowKit

abbrev Ob := List UInt8 × List (List UInt8) × List Rt
def ob0 : Ob := ([], [], [])
theorem splitGo_head (b : UInt8) : ∀ (l cur : List UInt8), (splitGo b cur l).getD 0 [] = cur ++ l.takeWhile (fun c => c != b)
  | [], cur => by simp [splitGo]
  | c :: r, cur => by
    rw [splitGo]
    by_cases h : c = b
    · rw [if_pos h, List.takeWhile_cons, if_neg (by simp [h])]
      simp
    · rw [if_neg h, splitGo_head b r (cur ++ [c]), List.takeWhile_cons, if_pos (bne_iff_ne.2 h)]
      simp
theorem split_headA (b : UInt8) (l : List UInt8) : (splitL b l).getD 0 [] = cutA b l := by
  unfold splitL cutA
  rw [splitGo_head, List.nil_append]
/-- Does a call stay within reach? -/
def nearB (nm : List UInt8) (ims : List (List UInt8)) (i : In13) : Bool := decide (i.1 ≠ 9) || (decide (cutA 46 i.2.2.2.2 = nm) || decide (cutA 46 i.2.2.2.2 ∈ ims))
def one15 (nm : List UInt8) (ims : List (List UInt8)) (rs : List Rt) (j : Nat) : Prop :=
  (rtB (rs.getD j rt0) = true ∧ (0 < j → leT (rs.getD j rt0).1 (rs.getD (j - 1) rt0).1 = false) ∧ cutA 46 (rs.getD j rt0).1 = nm) ∧ (rs.getD j rt0).2.2.all (nearB nm ims) = true
instance (nm : List UInt8) (ims : List (List UInt8)) (rs : List Rt) (j : Nat) : Decidable (one15 nm ims rs j) := by unfold one15; infer_instance
def objB (o : Ob) : Bool := (nameB o.1 && (importsB o.2.1 && decide (1 ≤ o.2.2.length ∧ o.2.2.length ≤ 8))) && decide (∀ j, j < o.2.2.length → one15 o.1 o.2.1 o.2.2 j)
theorem obj_name {o : Ob} (h : nameB o.1 = false) : objB o = false := by unfold objB; rw [h]; rfl
theorem obj_imps {o : Ob} (h : importsB o.2.1 = false) : objB o = false := by unfold objB; rw [h]; simp
theorem obj_len {o : Ob} (h : ¬ (1 ≤ o.2.2.length ∧ o.2.2.length ≤ 8)) : objB o = false := by unfold objB; rw [decide_eq_false h]; simp
theorem obj_no {o : Ob} {j : Nat} (hj : j < o.2.2.length) (h : ¬ one15 o.1 o.2.1 o.2.2 j) : objB o = false := by
  have hn : ¬ (∀ j, j < o.2.2.length → one15 o.1 o.2.1 o.2.2 j) := fun e => h (e j hj)
  unfold objB
  rw [decide_eq_false hn, Bool.and_false]
theorem obj_yes {o : Ob} (h1 : nameB o.1 = true) (h2 : importsB o.2.1 = true) (h3 : 1 ≤ o.2.2.length ∧ o.2.2.length ≤ 8) (h4 : ∀ j, j < o.2.2.length → one15 o.1 o.2.1 o.2.2 j) : objB o = true := by
  unfold objB
  rw [h1, h2, decide_eq_true h3, decide_eq_true h4]; rfl
structure ObjP (o : Ob) : Prop where
  nm : nameB o.1 = true
  im : importsB o.2.1 = true
  l : 1 ≤ o.2.2.length ∧ o.2.2.length ≤ 8
  one : ∀ j, j < o.2.2.length → one15 o.1 o.2.1 o.2.2 j
theorem objB_parts {o : Ob} (h : objB o = true) : ObjP o := by
  unfold objB at h
  simp only [Bool.and_eq_true, decide_eq_true_eq] at h
  exact ⟨h.1.1, h.1.2.1, h.1.2.2, h.2⟩
theorem near_all {nm : List UInt8} {ims : List (List UInt8)} {c : List In13} (h : ∀ j, j < c.length → nearB nm ims (c.getD j in0) = true) : c.all (nearB nm ims) = true := by
  rw [List.all_eq_true]
  intro i hi
  obtain ⟨j, hj, rfl⟩ := List.getElem_of_mem hi
  have := h j hj
  simpa only [List.getD, List.getElem?_eq_getElem hj, Option.getD_some] using this
theorem near_no {nm : List UInt8} {ims : List (List UInt8)} {c : List In13} {j : Nat} (hj : j < c.length) (h : nearB nm ims (c.getD j in0) = false) : c.all (nearB nm ims) = false := by
  rw [Bool.eq_false_iff]
  intro e
  have := List.all_eq_true.1 e c[j] (List.getElem_mem hj)
  simp only [List.getD, List.getElem?_eq_getElem hj, Option.getD_some] at h
  rw [h] at this
  cases this
/-- As the landed code goes about it. -/
def two15 (o : Ob) (j : Nat) : Prop := cutA 46 (o.2.2.getD j rt0).1 = o.1 ∧ (o.2.2.getD j rt0).2.2.all (nearB o.1 o.2.1) = true
theorem objI_rts {o : Ob} (h : rtsB o.2.2 8 = false) : objB o = false := by
  rcases e : objB o with _ | _
  · rfl
  · have p := objB_parts e
    have : rtsB o.2.2 8 = true := by
      unfold rtsB
      refine decide_eq_true ⟨by have := p.l; omega, fun i hi => (p.one i hi).1.1, fun i hi => ?_⟩
      have := (p.one (i + 1) (by omega)).1.2.1 (by omega)
      rw [Nat.add_sub_cancel] at this
      exact this
    rw [this] at h
    cases h
theorem objI_no {o : Ob} {j : Nat} (hj : j < o.2.2.length) (h : ¬ two15 o j) : objB o = false := obj_no hj (fun e => h ⟨e.1.2.2, e.2⟩)
theorem objI_yes {o : Ob} (h1 : nameB o.1 = true) (h2 : importsB o.2.1 = true) (h3 : rtsB o.2.2 8 = true) (h4 : ∀ j, j < o.2.2.length → two15 o j) : objB o = true := by
  obtain ⟨q1, q2, q3⟩ := of_decide_eq_true h3
  refine obj_yes h1 h2 (by omega) (fun j hj => ⟨⟨q2 j hj, fun h0 => ?_, (h4 j hj).1⟩, (h4 j hj).2⟩)
  have := q3 (j - 1) (by omega)
  rw [show j - 1 + 1 = j by omega] at this
  exact this
theorem obj_rts {o : Ob} (h : objB o = true) : ∀ r ∈ o.2.2, rtB r = true := fun r hr => by
  obtain ⟨j, hj, rfl⟩ := List.getElem_of_mem hr
  have := ((objB_parts h).one j hj).1.1
  simpa [List.getD, hj] using this
theorem obj_imn {o : Ob} (h : objB o = true) : o.2.1.length ≤ 6 ∧ ∀ m ∈ o.2.1, nameB m = true := by
  have hi := (objB_parts h).im
  unfold importsB at hi
  simp only [Bool.and_eq_true, decide_eq_true_eq] at hi
  refine ⟨hi.2.1, fun m hm => ?_⟩
  obtain ⟨j, hj, rfl⟩ := List.getElem_of_mem hm
  have := hi.1 j hj
  simpa [List.getD, hj] using this

def kwObject : List UInt8 := [111, 98, 106, 101, 99, 116]
def objLn (s : List UInt8) : List UInt8 := kwObject ++ [32] ++ s
def obLines (o : Ob) : List (List UInt8) := objLn o.1 :: (o.2.1.map impLn ++ imLines o.2.2)
def showO (o : Ob) : List UInt8 := termJ (obLines o)
def showOb (o : Ob) : List UInt8 := if objB o = true then showO o else []
theorem showO_eq (o : Ob) : showO o = objLn o.1 ++ [10] ++ termJ (o.2.1.map impLn) ++ showI o.2.2 := by simp [showO, obLines, showI, termJ]

/-- Read strictly: what is ahead of the first line that has not two words is the head. -/
noncomputable def readH : List UInt8 → List (List UInt8) → List (List UInt8) → Ob
  | nm, ims, [] => (nm, ims, readI [] [])
  | nm, ims, l :: ls =>
    if (splitL 32 l).length = 2 then (if (splitL 32 l).getD 0 [] = kwObject then readH ((splitL 32 l).getD 1 []) ims ls else readH nm (ims ++ [(splitL 32 l).getD 1 []]) ls)
    else (nm, ims, readI [] (l :: ls))
noncomputable def readO (s : List UInt8) : Ob := readH [] [] (linesL s)
noncomputable def readOB (s : List UInt8) : Bool := decide (s.length ≤ 100000) && (objB (readO s) && (showO (readO s) == s))
noncomputable def readOV (s : List UInt8) : Ob := if readOB s = true then readO s else ob0
theorem readH_drop {ls : List (List UInt8)} {k : Nat} (hk : k < ls.length) (nm : List UInt8) (ims : List (List UInt8)) : readH nm ims (ls.drop k) =
    if (splitL 32 (ls.getD k [])).length = 2 then (if (splitL 32 (ls.getD k [])).getD 0 [] = kwObject then readH ((splitL 32 (ls.getD k [])).getD 1 []) ims (ls.drop (k + 1)) else readH nm (ims ++ [(splitL 32 (ls.getD k [])).getD 1 []]) (ls.drop (k + 1)))
    else (nm, ims, readI [] (ls.drop k)) := by
  have e : ls.getD k [] = ls[k] := by rw [List.getD_eq_getElem?_getD, List.getElem?_eq_getElem hk]; rfl
  rw [List.drop_eq_getElem_cons hk, readH, e]
theorem readH_end {ls : List (List UInt8)} {k : Nat} (hk : ls.length ≤ k) (nm : List UInt8) (ims : List (List UInt8)) : readH nm ims (ls.drop k) = (nm, ims, readI [] (ls.drop k)) := by
  rw [List.drop_of_length_le hk, readH]

theorem objLn_split {s : List UInt8} (h : nameB s = true) : splitL 32 (objLn s) = [kwObject, s] := two_words _ _ (by decide) (name_noblank h)
theorem impLn_split {s : List UInt8} (h : nameB s = true) : splitL 32 (impLn s) = [kwImport, s] := two_words _ _ (by decide) (name_noblank h)
theorem readH_imps (r : List (List UInt8)) (nm : List UInt8) : ∀ (l ims : List (List UInt8)), (∀ m ∈ l, nameB m = true) → readH nm ims (l.map impLn ++ r) = readH nm (ims ++ l) r
  | [], ims, _ => by simp
  | x :: l, ims, h => by
    rw [List.map_cons, List.cons_append, readH, impLn_split (h x (by simp)), if_pos (by simp), if_neg (by simp [kwImport, kwObject])]
    have := readH_imps r nm l (ims ++ [x]) (fun m hm => h m (by simp [hm]))
    simpa using this
theorem readH_rts (nm : List UInt8) (ims : List (List UInt8)) : ∀ rs : List Rt, (∀ r ∈ rs, rtB r = true) → readH nm ims (imLines rs) = (nm, ims, rs)
  | [], _ => by simp [imLines, readH, readI]
  | r :: rs, h => by
    have e : imLines (r :: rs) = rtLn r :: (r.2.2.map insLn ++ imLines rs) := by simp [imLines, rtLines]
    have h2 := readI_rts [] (r :: rs) [] h
    rw [List.append_nil, List.nil_append, readI] at h2
    rw [e, readH, rtLn_split (h r (by simp)), if_neg (by simp), ← e, h2]
theorem read_obj {o : Ob} (h : objB o = true) : readH [] [] (obLines o) = o := by
  obtain ⟨nm, ims, rs⟩ := o
  have hp := objB_parts h
  unfold obLines
  rw [readH, objLn_split hp.nm, if_pos (by simp), if_pos (by simp)]
  simp only [List.getD_cons_zero, List.getD_cons_succ]
  rw [readH_imps _ _ _ _ (obj_imn h).2, List.nil_append, readH_rts _ _ _ (obj_rts h)]
theorem objLn_len {s : List UInt8} (h : nameB s = true) : (objLn s).length ≤ 15 ∧ (impLn s).length ≤ 15 := by
  have := (name_letters h).1
  unfold objLn impLn kwObject kwImport
  simp only [List.length_append, List.length_cons, List.length_nil]
  omega
theorem showO_len {o : Ob} (h : objB o = true) : (showO o).length ≤ 100000 := by
  have hp := objB_parts h
  have h1 := showI_len' o.2.2 (obj_rts h)
  have h2 := termJ_len 15 (o.2.1.map impLn) (fun x hx => by obtain ⟨m, hm, rfl⟩ := List.mem_map.1 hx; exact (objLn_len ((obj_imn h).2 m hm)).2)
  have h3 := (objLn_len hp.nm).1
  have h4 := (obj_imn h).1
  have h5 := hp.l
  rw [showO_eq]
  unfold showI
  simp only [List.length_append, List.length_singleton, List.length_map] at h2 ⊢
  omega
theorem obLines_no10 {o : Ob} (h : objB o = true) : ∀ x ∈ obLines o, ∀ c ∈ x, c ≠ 10 := by
  have hp := objB_parts h
  intro x hx c hc e
  unfold obLines at hx
  simp only [List.mem_cons, List.mem_append, List.mem_map] at hx
  rcases hx with rfl | ⟨m, hm, rfl⟩ | hx
  · unfold objLn at hc
    simp only [List.mem_append, List.mem_singleton] at hc
    rcases hc with (h1 | h1) | h1
    · rw [e] at h1; revert h1; decide
    · rw [e] at h1; simp at h1
    · exact name_no10 hp.nm c h1 e
  · unfold impLn at hc
    simp only [List.mem_append, List.mem_singleton] at hc
    rcases hc with (h1 | h1) | h1
    · rw [e] at h1; revert h1; decide
    · rw [e] at h1; simp at h1
    · exact name_no10 ((obj_imn h).2 m hm) c h1 e
  · exact rts_no10 (obj_rts h) x hx c hc e
theorem obj_back {o : Ob} (h : objB o = true) : showOb o ≠ [] ∧ readOB (showOb o) = true ∧ readOV (showOb o) = o := by
  have hs : showOb o = showO o := by unfold showOb; rw [if_pos h]
  have hl : linesL (showO o) = obLines o := lines_term _ (obLines_no10 h)
  have hr : readO (showO o) = o := by unfold readO; rw [hl]; exact read_obj h
  have hb : readOB (showO o) = true := by
    unfold readOB
    rw [hr, decide_eq_true (showO_len h), h]
    simp
  refine ⟨?_, by rw [hs]; exact hb, by rw [hs]; unfold readOV; rw [if_pos hb, hr]⟩
  rw [hs, showO_eq]
  simp
theorem obj_not {o : Ob} (h : objB o = false) : showOb o = [] := by unfold showOb; rw [if_neg (by rw [h]; simp)]
theorem read_ov (s : List UInt8) : (readOB s = true ∧ objB (readOV s) = true ∧ showOb (readOV s) = s) ∨ (readOB s = false ∧ readOV s = ob0) := by
  rcases h : readOB s with _ | _
  · exact Or.inr ⟨rfl, by unfold readOV; rw [if_neg (by rw [h]; simp)]⟩
  · have hv : readOV s = readO s := by unfold readOV; rw [if_pos h]
    unfold readOB at h
    simp only [Bool.and_eq_true, beq_iff_eq] at h
    rw [hv]
    exact Or.inl ⟨rfl, h.2.1, by unfold showOb; rw [if_pos h.2.1]; exact h.2.2⟩

/-- Read loosely, as the landed code does. -/
noncomputable def obLo (o : Ob) (x : List UInt8) : Ob :=
  if cutA 32 x = kwObject then (cutB 32 x, o.2.1, o.2.2)
  else if cutA 32 x = kwImport then (o.1, o.2.1 ++ [cutB 32 x], o.2.2)
  else (o.1, o.2.1, rtLo o.2.2 x)
noncomputable def loO (o : Ob) (ls : List (List UInt8)) : Ob := ls.foldl obLo o
theorem loO_take (ls : List (List UInt8)) (k : Nat) (hk : k < ls.length) : loO ob0 (ls.take (k + 1)) = obLo (loO ob0 (ls.take k)) (ls.getD k []) := by
  have e : ls.getD k [] = ls[k] := by rw [List.getD_eq_getElem?_getD, List.getElem?_eq_getElem hk]; rfl
  unfold loO
  rw [List.take_succ_eq_append_getElem hk, List.foldl_append, e]
  rfl
theorem obLo_obj (o : Ob) (s : List UInt8) : obLo o (objLn s) = (s, o.2.1, o.2.2) := by
  have h := cut_one 32 kwObject s (by decide)
  have e : objLn s = kwObject ++ 32 :: s := by simp [objLn]
  unfold obLo
  rw [e, h.1, h.2, if_pos rfl]
theorem obLo_imp (o : Ob) (s : List UInt8) : obLo o (impLn s) = (o.1, o.2.1 ++ [s], o.2.2) := by
  have h := cut_one 32 kwImport s (by decide)
  have e : impLn s = kwImport ++ 32 :: s := by simp [impLn]
  unfold obLo
  rw [e, h.1, h.2, if_neg (by decide), if_pos rfl]
theorem loO_imps (r : List (List UInt8)) : ∀ (l : List (List UInt8)) (o : Ob), loO o (l.map impLn ++ r) = loO (o.1, o.2.1 ++ l, o.2.2) r
  | [], o => by simp
  | x :: l, o => by
    have ih := loO_imps r l (o.1, o.2.1 ++ [x], o.2.2)
    unfold loO at ih ⊢
    rw [List.map_cons, List.cons_append, List.foldl_cons, obLo_imp, ih]
    simp
/-- A line of which the first word is neither is a routine's. -/
theorem loO_lines : ∀ (ls : List (List UInt8)) (o : Ob), (∀ x ∈ ls, cutA 32 x ≠ kwObject ∧ cutA 32 x ≠ kwImport) → loO o ls = (o.1, o.2.1, loI o.2.2 ls)
  | [], o, _ => rfl
  | x :: ls, o, h => by
    have hx := h x (by simp)
    have ih := loO_lines ls (o.1, o.2.1, rtLo o.2.2 x) (fun y hy => h y (by simp [hy]))
    have e : obLo o x = (o.1, o.2.1, rtLo o.2.2 x) := by unfold obLo; rw [if_neg hx.1, if_neg hx.2]
    unfold loO loI at ih ⊢
    rw [List.foldl_cons, List.foldl_cons, e]
    exact ih
theorem im_heads {rs : List Rt} (h : ∀ r ∈ rs, rtB r = true) : ∀ x ∈ imLines rs, cutA 32 x ≠ kwObject ∧ cutA 32 x ≠ kwImport := by
  intro x hx
  obtain ⟨r, hr, hx2⟩ := List.mem_flatMap.1 hx
  have hrt := h r hr
  unfold rtLines at hx2
  rw [← split_headA]
  rcases List.mem_cons.1 hx2 with e | e
  · rw [e, rtLn_split hrt]
    exact ⟨by simp [kwRt, kwObject], by simp [kwRt, kwImport]⟩
  · obtain ⟨i, hi, rfl⟩ := List.mem_map.1 e
    have hp := codeB_ins (rtB_parts hrt).2.2.1 i hi
    rw [insLn_split hp]
    simp only [List.getD_cons_zero]
    have hw := (insP_words hp).1
    have hb := intL_bytes i.1 hw.1 hw.2
    refine ⟨fun e => ?_, fun e => ?_⟩
    · have := hb 111 (by rw [e]; simp [kwObject]); simp at this
    · have := hb 105 (by rw [e]; simp [kwImport]); simp at this
theorem lo_obj {o : Ob} (h : objB o = true) : loO ob0 (obLines o) = o := by
  obtain ⟨nm, ims, rs⟩ := o
  have e : loO ob0 (obLines (nm, ims, rs)) = loO (nm, [], []) (ims.map impLn ++ imLines rs) := by
    unfold loO obLines
    rw [List.foldl_cons, obLo_obj]
    rfl
  have h2 := loI_rts [] rs [] (obj_rts h)
  rw [List.append_nil, List.nil_append] at h2
  rw [e, loO_imps, List.nil_append, loO_lines _ _ (im_heads (obj_rts h))]
  simp only
  rw [h2]
  rfl
theorem loO_yes {l : List UInt8} {q : Ob} (hl : l ≠ []) (hs : showOb q = l) : readOB l = true ∧ readOV l = q := by
  rcases hp : objB q with _ | _
  · rw [obj_not hp] at hs; exact absurd hs.symm hl
  · have h := obj_back hp
    rw [hs] at h
    exact ⟨h.2.1, h.2.2⟩
theorem loO_no {l : List UInt8} (hs : showOb (loO ob0 (linesL l)) ≠ l) : readOB l = false ∧ readOV l = ob0 := by
  rcases read_ov l with ⟨_, h, e⟩ | h
  · refine absurd ?_ hs
    have e2 : linesL l = obLines (readOV l) := by
      have h1 := lines_term (obLines (readOV l)) (obLines_no10 h)
      have h2 : showO (readOV l) = l := (show showO (readOV l) = showOb (readOV l) from (if_pos h).symm).trans e
      rw [show termJ (obLines (readOV l)) = showO (readOV l) from rfl, h2] at h1
      exact h1
    rw [e2, lo_obj h]
    exact e
  · exact h
theorem loO_nil : readOB [] = false ∧ readOV [] = ob0 := by
  rcases read_ov [] with ⟨_, h, e⟩ | h
  · exact absurd e (obj_back h).1
  · exact h

end Go.Proofs.YtfhkiaogfopigaaGreatDoor
