/-
  Parts of one proof, one behind the other: Math14L, Math14I, ImgA, WordI, Jumps.
-/
import Derived.Test.YtogobeegibngiaaGreatDoorP26
import Derived.Test.YtogobeegibngiaaGreatDoorP14
import Derived.Test.YtogobeegibngiaaGreatDoorP16
import Derived.Test.YtogobeegibngiaaGreatDoorP3
import Derived.Lib.Bytealg
import Derived.Laws.Externs
import Derived.Deep.RegionHeld3
import Derived.Shelf.Abstract
import Derived.Test.YtogobeegibngiaaGreatDoorP1
import Derived.Scope
import Derived.WalkMore

/-! Plain facts of chapter 14: lines read loosely, as the landed code reads them. -/
namespace Go.Proofs.YtogobeegibngiaaGreatDoor
open Go.RowKit

theorem mem_getL {c : List In13} {k : Nat} (hk : k < c.length) : c.getD k in0 ∈ c := by rw [List.getD_eq_getElem?_getD, List.getElem?_eq_getElem hk]; exact List.getElem_mem hk
noncomputable def insLo (ws : List (List UInt8)) : In13 := if ws.length = 5 then (numV (ws.getD 0 []), numV (ws.getD 1 []), numV (ws.getD 2 []), numV (ws.getD 3 []), if ws.getD 4 [] = [45] then [] else ws.getD 4 []) else in0
noncomputable def rtLo (out : List Rt) (x : List UInt8) : List Rt :=
  if (wordsL x).length = 4 ∧ (wordsL x).getD 0 [] = kwRt then out ++ [((wordsL x).getD 1 [], numV ((wordsL x).getD 2 []), [])]
  else if out = [] then [] else addI out (insLo (wordsL x))
noncomputable def loI (out : List Rt) (ls : List (List UInt8)) : List Rt := ls.foldl rtLo out
theorem loI_take (ls : List (List UInt8)) (k : Nat) (hk : k < ls.length) : loI [] (ls.take (k + 1)) = rtLo (loI [] (ls.take k)) (ls.getD k []) := by
  have e : ls.getD k [] = ls[k] := by rw [List.getD_eq_getElem?_getD, List.getElem?_eq_getElem hk]; rfl
  unfold loI
  rw [List.take_succ_eq_append_getElem hk, List.foldl_append, e]
  rfl
theorem insLn_words {i : In13} (h : insP i) : wordsL (insLn i) = [intL i.1, intL i.2.1, intL i.2.2.1, intL i.2.2.2.1, nmL i.2.2.2.2] := by
  have hs := insLn_split h
  unfold wordsL
  rw [if_neg (fun e => by rw [e] at hs; simp [splitL, splitGo] at hs), hs]
theorem rtLn_words {r : Rt} (h : rtB r = true) : wordsL (rtLn r) = [kwRt, r.1, intL r.2.1, intL (r.2.2.length : Int)] := by
  have hs := rtLn_split h
  unfold wordsL
  rw [if_neg (fun e => by rw [e] at hs; simp [splitL, splitGo] at hs), hs]
theorem insLo_of {i : In13} (h : insP i) : insLo [intL i.1, intL i.2.1, intL i.2.2.1, intL i.2.2.2.1, nmL i.2.2.2.2] = i := by
  obtain ⟨w0, w1, w2, w3⟩ := insP_words h
  have hr := insRd_of h
  unfold insRd at hr
  simp only [List.getD_cons_zero, List.getD_cons_succ] at hr
  unfold insLo
  rw [if_pos (by simp)]
  simp only [List.getD_cons_zero, List.getD_cons_succ]
  rw [(num_word _ w0.1 w0.2).2, (num_word _ w1.1 w1.2).2, (num_word _ w2.1 w2.2).2, (num_word _ w3.1 w3.2).2]
  have e5 := congrArg (fun j : In13 => j.2.2.2.2) hr
  simp only at e5
  rw [e5]
theorem loI_ins (out : List Rt) (n : List UInt8) (a : Int) (ls : List (List UInt8)) : ∀ (c d : List In13), (∀ i ∈ d, insP i) → loI (out ++ [(n, a, c)]) (d.map insLn ++ ls) = loI (out ++ [(n, a, c ++ d)]) ls
  | c, [], _ => by simp
  | c, i :: d, h => by
    have hi := h i (by simp)
    have ih := loI_ins out n a ls (c ++ [i]) d (fun j hj => h j (by simp [hj]))
    have e : rtLo (out ++ [(n, a, c)]) (insLn i) = out ++ [(n, a, c ++ [i])] := by
      unfold rtLo
      rw [insLn_words hi, if_neg (by simp), if_neg (by simp), insLo_of hi, addI_snoc]
    unfold loI at ih ⊢
    rw [List.map_cons, List.cons_append, List.foldl_cons, e, ih]
    simp
theorem loI_rts (ls : List (List UInt8)) : ∀ (rs out : List Rt), (∀ r ∈ rs, rtB r = true) → loI out (imLines rs ++ ls) = loI (out ++ rs) ls
  | [], out, _ => by simp [imLines]
  | r :: rs, out, h => by
    obtain ⟨n, a, c⟩ := r
    have hr := h (n, a, c) (by simp)
    have hc := (rtB_parts hr).2.2.1
    have ha := (rtB_parts hr).2.1
    simp only at ha
    have e : imLines ((n, a, c) :: rs) ++ ls = rtLn (n, a, c) :: (c.map insLn ++ (imLines rs ++ ls)) := by simp [imLines, rtLines]
    have e1 : rtLo out (rtLn (n, a, c)) = out ++ [(n, a, [])] := by
      unfold rtLo
      rw [rtLn_words hr, if_pos (by simp)]
      simp only [List.getD_cons_zero, List.getD_cons_succ]
      rw [(num_word a (by omega) (by omega)).2]
    have h2 := loI_ins out n a (imLines rs ++ ls) [] c (codeB_ins hc)
    have h3 := loI_rts ls rs (out ++ [(n, a, c)]) (fun q hq => h q (by simp [hq]))
    rw [e]
    have e2 : loI out (rtLn (n, a, c) :: (c.map insLn ++ (imLines rs ++ ls))) = loI (out ++ [(n, a, [])]) (c.map insLn ++ (imLines rs ++ ls)) := by
      unfold loI
      rw [List.foldl_cons, e1]
    rw [e2, h2, List.nil_append, h3]
    simp
theorem lo_image {rs : List Rt} (h : imageB rs = true) : loI [] (imLines rs) = rs := by
  have := loI_rts [] rs [] (image_rts h)
  simpa [loI] using this
theorem loI_yes {l : List UInt8} {q : List Rt} (hl : l ≠ []) (hs : showIm q = l) : readIB l = true ∧ readIV l = q := by
  rcases hp : imageB q with _ | _
  · rw [image_not hp] at hs; exact absurd hs.symm hl
  · have h := image_back hp
    rw [hs] at h
    exact ⟨h.2.1, h.2.2⟩
theorem loI_no {l : List UInt8} (hs : showIm (loI [] (linesL l)) ≠ l) : readIB l = false ∧ readIV l = [] := by
  rcases read_iv l with ⟨_, h, e⟩ | h
  · refine absurd ?_ hs
    have e2 : linesL l = imLines (readIV l) := by
      have h1 := lines_term (imLines (readIV l)) (lines14_no10 h)
      have h2 : showI (readIV l) = l := (show showI (readIV l) = showIm (readIV l) from (if_pos h).symm).trans e
      rw [show termJ (imLines (readIV l)) = showI (readIV l) from rfl, h2] at h1
      exact h1
    rw [e2, lo_image h]
    exact e
  · exact h
theorem loI_nil : readIB [] = false ∧ readIV [] = [] := by
  rcases read_iv [] with ⟨_, h, e⟩ | h
  · exact absurd e (image_back h).1
  · exact h

/-- How great what is read may be. -/
structure LoR (n : Nat) (rs : List Rt) : Prop where
  l : rs.length ≤ n
  c : ∀ r ∈ rs, r.1.length ≤ 1048576 ∧ (-2147483648 ≤ r.2.1 ∧ r.2.1 ≤ 2147483647) ∧ r.2.2.length ≤ n ∧ ∀ i ∈ r.2.2, ((-2147483648 ≤ i.1 ∧ i.1 ≤ 2147483647) ∧ (-2147483648 ≤ i.2.1 ∧ i.2.1 ≤ 2147483647) ∧ (-2147483648 ≤ i.2.2.1 ∧ i.2.2.1 ≤ 2147483647) ∧ (-2147483648 ≤ i.2.2.2.1 ∧ i.2.2.2.1 ≤ 2147483647)) ∧ i.2.2.2.2.length ≤ 1048576
theorem LoR.nil (n : Nat) : LoR n [] := ⟨Nat.zero_le _, fun r hr => by cases hr⟩
theorem word_lenI (x : List UInt8) (j : Nat) : ((wordsL x).getD j []).length ≤ x.length := by
  by_cases hx : x = []
  · subst hx; simp [wordsL]
  · have hw : wordsL x = splitL 32 x := by unfold wordsL; rw [if_neg hx]
    rw [hw]
    exact split_part 32 x j
theorem insLo_bd (x : List UInt8) (hx : x.length ≤ 1048576) : ((-2147483648 ≤ (insLo (wordsL x)).1 ∧ (insLo (wordsL x)).1 ≤ 2147483647) ∧ (-2147483648 ≤ (insLo (wordsL x)).2.1 ∧ (insLo (wordsL x)).2.1 ≤ 2147483647) ∧ (-2147483648 ≤ (insLo (wordsL x)).2.2.1 ∧ (insLo (wordsL x)).2.2.1 ≤ 2147483647) ∧ (-2147483648 ≤ (insLo (wordsL x)).2.2.2.1 ∧ (insLo (wordsL x)).2.2.2.1 ≤ 2147483647)) ∧ (insLo (wordsL x)).2.2.2.2.length ≤ 1048576 := by
  have h4 := word_lenI x 4
  unfold insLo
  split
  · refine ⟨⟨numV_bd _, numV_bd _, numV_bd _, numV_bd _⟩, ?_⟩
    simp only
    split
    · simp
    · omega
  · simp [in0]
theorem LoR.step {n : Nat} {rs : List Rt} (h : LoR n rs) (x : List UInt8) (hx : x.length ≤ 1048576) : LoR (n + 1) (rtLo rs x) := by
  unfold rtLo
  split
  · refine ⟨by rw [List.length_append, List.length_singleton]; have := h.l; omega, fun r hr => ?_⟩
    rcases List.mem_append.1 hr with e | e
    · have := h.c r e; exact ⟨this.1, this.2.1, by have := this.2.2.1; omega, this.2.2.2⟩
    · rw [List.mem_singleton.1 e]
      exact ⟨by have := word_lenI x 1; simp only; omega, numV_bd _, by simp, fun i hi => by cases hi⟩
  · split
    · exact LoR.nil _
    · rename_i hne
      have hm : rs.getLastD rt0 ∈ rs := by
        rw [List.getLastD_eq_getLast?, List.getLast?_eq_some_getLast hne]
        exact List.getLast_mem hne
      have hl := h.c _ hm
      unfold addI
      refine ⟨by rw [List.length_append, List.length_dropLast, List.length_singleton]; have := h.l; omega, fun r hr => ?_⟩
      rcases List.mem_append.1 hr with e | e
      · have := h.c r (List.dropLast_subset _ e); exact ⟨this.1, this.2.1, by have := this.2.2.1; omega, this.2.2.2⟩
      · rw [List.mem_singleton.1 e]
        refine ⟨hl.1, hl.2.1, by simp only [List.length_append, List.length_singleton]; have := hl.2.2.1; omega, fun i hi => ?_⟩
        rcases List.mem_append.1 hi with e2 | e2
        · exact hl.2.2.2 i e2
        · rw [List.mem_singleton.1 e2]; exact insLo_bd x hx
theorem LoR.ok {n : Nat} {rs : List Rt} (h : LoR n rs) (hn : n ≤ 1048576) : IntR rs ∧ ShortR rs := by
  refine ⟨fun j => ?_, fun j => ?_⟩
  · by_cases hj : j < rs.length
    · have hm : rs.getD j rt0 ∈ rs := by rw [List.getD_eq_getElem?_getD, List.getElem?_eq_getElem hj]; exact List.getElem_mem hj
      have hc := h.c _ hm
      refine ⟨by omega, fun k => ?_⟩
      by_cases hk : k < (rs.getD j rt0).2.2.length
      · have hi := hc.2.2.2 _ (mem_getL hk)
        unfold IntI
        omega
      · rw [List.getD_eq_getElem?_getD, List.getElem?_eq_none (by omega)]; exact intI_in0
    · have e : rs.getD j rt0 = rt0 := by rw [List.getD_eq_getElem?_getD, List.getElem?_eq_none (by omega)]; rfl
      rw [e]
      exact ⟨by simp [rt0], intIs_nil⟩
  · by_cases hj : j < rs.length
    · have hm : rs.getD j rt0 ∈ rs := by rw [List.getD_eq_getElem?_getD, List.getElem?_eq_getElem hj]; exact List.getElem_mem hj
      have hc := h.c _ hm
      refine ⟨hc.1, by omega, fun k => ?_⟩
      by_cases hk : k < (rs.getD j rt0).2.2.length
      · exact (hc.2.2.2 _ (mem_getL hk)).2
      · rw [List.getD_eq_getElem?_getD, List.getElem?_eq_none (by omega)]; simp [in0]
    · have e : rs.getD j rt0 = rt0 := by rw [List.getD_eq_getElem?_getD, List.getElem?_eq_none (by omega)]; rfl
      rw [e]
      exact ⟨by simp [rt0], by simp [rt0], fun k => by simp [rt0, in0]⟩
theorem linesI_le (l : List UInt8) : (linesL l).length ≤ l.length := by
  have hne := splitGo_ne 10 l []
  have hj := joinBy_split 10 l []
  rw [List.nil_append] at hj
  have hs : splitL 10 l = (splitL 10 l).dropLast ++ [(splitL 10 l).getLastD []] := by
    have h : splitL 10 l ≠ [] := hne
    have h2 := List.dropLast_concat_getLast h
    rw [← h2]
    simp [List.getLastD_eq_getLast?]
  have hj2 : joinBy 10 (splitL 10 l) = l := hj
  rw [hs, joinBy_term] at hj2
  have hc : ∀ ls : List (List UInt8), ls.length ≤ (termJ ls).length := fun ls => by
    induction ls with
    | nil => simp
    | cons x r ih => simp only [termJ, List.map_cons, List.flatten_cons, List.length_append, List.length_cons, List.length_nil] at ih ⊢; omega
  have h1 := hc (splitL 10 l).dropLast
  have h2 := congrArg List.length hj2
  rw [List.length_append] at h2
  unfold linesL
  split
  · omega
  · rename_i hn
    have h3 : 0 < ((splitL 10 l).getLastD []).length := List.length_pos_iff.2 hn
    have h4 := congrArg List.length hs
    rw [List.length_append, List.length_singleton] at h4
    omega

end Go.Proofs.YtogobeegibngiaaGreatDoor

/-! Plain facts of chapter 14 as the landed code goes about it: routines whose names rise, one found by halving. -/
namespace Go.Proofs.YtogobeegibngiaaGreatDoor
open Go.RowKit

/-- Right routines whose names rise, at most so many. -/
def RiseR (rs : List Rt) : Prop := ∀ i j, i < j → j < rs.length → Op.bytesLess (rs.getD i rt0).1 (rs.getD j rt0).1 = true
theorem riseR_of {rs : List Rt} (h : ∀ i, i + 1 < rs.length → leT (rs.getD (i + 1) rt0).1 (rs.getD i rt0).1 = false) : RiseR rs := by
  have hd : ∀ d i, i + d + 1 < rs.length → Op.bytesLess (rs.getD i rt0).1 (rs.getD (i + d + 1) rt0).1 = true := by
    intro d
    induction d with
    | zero => intro i hi; exact leT_no.1 (h i hi)
    | succ d ih => intro i hi; exact lt8_trans (ih i (by omega)) (leT_no.1 (h (i + d + 1) (by omega)))
  intro i j hij hj
  have hh := hd (j - i - 1) i (by omega)
  rw [show i + (j - i - 1) + 1 = j by omega] at hh
  exact hh
def rtsB (rs : List Rt) (most : Int) : Bool := decide ((1 ≤ (rs.length : Int) ∧ (rs.length : Int) ≤ most) ∧ (∀ i, i < rs.length → rtB (rs.getD i rt0) = true) ∧ ∀ i, i < rs.length - 1 → leT (rs.getD (i + 1) rt0).1 (rs.getD i rt0).1 = false)
theorem rtsB_rise {rs : List Rt} {m : Int} (h : rtsB rs m = true) : RiseR rs := riseR_of (fun i hi => (of_decide_eq_true h).2.2 i (by omega))
theorem rtsB_few {rs : List Rt} {m : Int} (h : (rs.length : Int) < 1 ∨ m < (rs.length : Int)) : rtsB rs m = false := decide_eq_false (fun e => by have := e.1; omega)
structure RrSt (rs : List Rt) (k : Nat) (z : List UInt8) : Prop where
  oks : ∀ i, i < k → rtB (rs.getD i rt0) = true
  rise : ∀ i, i + 1 < k → leT (rs.getD (i + 1) rt0).1 (rs.getD i rt0).1 = false
  last : (k = 0 ∧ z = []) ∨ (0 < k ∧ z = (rs.getD (k - 1) rt0).1)
theorem RrSt.start (rs : List Rt) : RrSt rs 0 [] := ⟨fun i hi => by omega, fun i hi => by omega, Or.inl ⟨rfl, rfl⟩⟩
theorem RrSt.noOk {rs : List Rt} {k : Nat} {m : Int} (hk : k < rs.length) (hn : rtB (rs.getD k rt0) = false) : rtsB rs m = false := decide_eq_false (fun g => by rw [g.2.1 k hk] at hn; cases hn)
theorem leT_nilR {x : List UInt8} (h : name13 x = true) : leT x [] = false := by
  have h1 := (name13_len h).1
  cases x with
  | nil => simp at h1
  | cons c r => simp [leT, Op.bytesLess]
theorem RrSt.noRise {rs : List Rt} {k : Nat} {z : List UInt8} {m : Int} (h : RrSt rs k z) (hk : k < rs.length) (hn : rtB (rs.getD k rt0) = true) (hl : leT (rs.getD k rt0).1 z = true) : rtsB rs m = false := by
  rcases h.last with ⟨rfl, rfl⟩ | ⟨h0, rfl⟩
  · rw [leT_nilR (rtB_parts hn).1] at hl; cases hl
  · refine decide_eq_false (fun g => ?_)
    have := g.2.2 (k - 1) (by omega)
    rw [show k - 1 + 1 = k by omega, hl] at this
    cases this
theorem RrSt.step {rs : List Rt} {k : Nat} {z : List UInt8} (h : RrSt rs k z) (hn : rtB (rs.getD k rt0) = true) (hl : leT (rs.getD k rt0).1 z = false) : RrSt rs (k + 1) (rs.getD k rt0).1 := by
  refine ⟨fun i hi => ?_, fun i hi => ?_, Or.inr ⟨by omega, by rw [Nat.add_sub_cancel]⟩⟩
  · rcases Nat.lt_or_ge i k with g | g
    · exact h.oks i g
    · obtain rfl : i = k := by omega
      exact hn
  · rcases Nat.lt_or_ge (i + 1) k with g | g
    · exact h.rise i g
    · obtain rfl : k = i + 1 := by omega
      rcases h.last with ⟨e, _⟩ | ⟨_, rfl⟩
      · omega
      · rw [Nat.add_sub_cancel] at hl; exact hl
theorem RrSt.all {rs : List Rt} {z : List UInt8} {m : Int} (h : RrSt rs rs.length z) (hl : 1 ≤ (rs.length : Int) ∧ (rs.length : Int) ≤ m) : rtsB rs m = true := decide_eq_true ⟨hl, h.oks, fun i hi => h.rise i (by omega)⟩

theorem imageB_rts (rs : List Rt) : imageB rs = (rtsB rs 64 && decide (∀ j, j < rs.length → (rs.getD j rt0).2.2.all (clsB rs) = true)) := by
  rw [Bool.eq_iff_iff]
  unfold imageB rtsB oneB
  simp only [Bool.and_eq_true, decide_eq_true_eq]
  constructor
  · rintro ⟨h, h1, h2⟩
    refine ⟨⟨⟨by omega, by omega⟩, fun i hi => (h i hi).1, fun i hi => ?_⟩, fun j hj => (h j hj).2.2⟩
    have := (h (i + 1) (by omega)).2.1 (by omega)
    rw [Nat.add_sub_cancel] at this
    exact this
  · rintro ⟨⟨h1, h2, h3⟩, h4⟩
    refine ⟨fun j hj => ⟨h2 j hj, fun h0 => ?_, h4 j hj⟩, by omega, by omega⟩
    have := h3 (j - 1) (by omega)
    rw [show j - 1 + 1 = j by omega] at this
    exact this
theorem image_noR {rs : List Rt} (h : rtsB rs 64 = false) : imageB rs = false := by rw [imageB_rts, h]; rfl
theorem image_noC {rs : List Rt} {j : Nat} (hj : j < rs.length) (h : (rs.getD j rt0).2.2.all (clsB rs) = false) : imageB rs = false := by
  rw [imageB_rts, decide_eq_false (fun g => by rw [g j hj] at h; cases h), Bool.and_false]
theorem image_yes {rs : List Rt} (h : rtsB rs 64 = true) (hc : ∀ j, j < rs.length → (rs.getD j rt0).2.2.all (clsB rs) = true) : imageB rs = true := by
  rw [imageB_rts, h, decide_eq_true hc]; rfl

/-- The place of a name. -/
theorem at14Go_yes (s : List UInt8) : ∀ (rs : List Rt) (k j : Nat), j < rs.length → (rs.getD j rt0).1 = s → (∀ i, i < j → (rs.getD i rt0).1 ≠ s) → at14Go s rs k = ((k + j : Nat) : Int)
  | [], _, j, hj, _, _ => by simp at hj
  | r :: rs, k, 0, _, h, _ => by
    rw [at14Go, if_pos (by simpa using h)]; simp
  | r :: rs, k, j + 1, hj, h, hn => by
    have h0 := hn 0 (by omega)
    rw [at14Go, if_neg (by simpa using h0), at14Go_yes s rs (k + 1) j (by simpa using hj) (by simpa using h) (fun i hi => by have := hn (i + 1) (by omega); simpa using this)]
    omega
theorem at14Go_no (s : List UInt8) : ∀ (rs : List Rt) (k : Nat), (∀ i, i < rs.length → (rs.getD i rt0).1 ≠ s) → at14Go s rs k = -1
  | [], _, _ => rfl
  | r :: rs, k, hn => by
    have h0 := hn 0 (by simp)
    rw [at14Go, if_neg (by simpa using h0), at14Go_no s rs (k + 1) (fun i hi => by have := hn (i + 1) (by simpa using hi); simpa using this)]
theorem at14_yes {rs : List Rt} (hr : RiseR rs) {s : List UInt8} {j : Nat} (hj : j < rs.length) (h : (rs.getD j rt0).1 = s) : at14 rs s = (j : Int) := by
  unfold at14
  rw [at14Go_yes s rs 0 j hj h (fun i hi e => ?_), Nat.zero_add]
  have := hr i j hi hj
  rw [e, h, lt8_irr] at this
  cases this
/-- Halving: what stands ahead is less, what stands behind is not. -/
structure Half (rs : List Rt) (s : List UInt8) (lo hi : Nat) : Prop where
  a : ∀ t, t < lo → Op.bytesLess (rs.getD t rt0).1 s = true
  b : ∀ t, hi ≤ t → t < rs.length → Op.bytesLess (rs.getD t rt0).1 s = false
theorem Half.start (rs : List Rt) (s : List UInt8) : Half rs s 0 rs.length := ⟨fun t h => by omega, fun t h1 h2 => by omega⟩
theorem Half.up {rs : List Rt} {s : List UInt8} {lo hi m : Nat} (hr : RiseR rs) (h : Half rs s lo hi) (hm : m < rs.length) (e : Op.bytesLess (rs.getD m rt0).1 s = true) : Half rs s (m + 1) hi :=
  ⟨fun t ht => by
    rcases Nat.lt_or_ge t m with g | g
    · exact lt8_trans (hr t m g hm) e
    · obtain rfl : t = m := by omega
      exact e, h.b⟩
theorem Half.down {rs : List Rt} {s : List UInt8} {lo hi m : Nat} (hr : RiseR rs) (h : Half rs s lo hi) (e : Op.bytesLess (rs.getD m rt0).1 s = false) : Half rs s lo m :=
  ⟨h.a, fun t ht hl => by
    rcases Nat.lt_or_ge m t with g | g
    · rcases hx : Op.bytesLess (rs.getD t rt0).1 s with _ | _
      · rfl
      · rw [lt8_trans (hr m t g hl) hx] at e; cases e
    · obtain rfl : t = m := by omega
      exact e⟩
theorem Half.no {rs : List Rt} {s : List UInt8} {i : Nat} (hr : RiseR rs) (h : Half rs s i i) (hn : i < rs.length → (rs.getD i rt0).1 ≠ s) : at14 rs s = -1 := by
  refine at14Go_no s rs 0 (fun t ht e => ?_)
  rcases Nat.lt_trichotomy t i with g | g | g
  · have := h.a t g; rw [e, lt8_irr] at this; cases this
  · subst g; exact hn ht e
  · have h1 := hr i t g ht
    have h2 := h.b i (Nat.le_refl _) (by omega)
    rw [e] at h1
    rw [h1] at h2
    cases h2

theorem cls_allI {rs : List Rt} {c : List In13} : c.all (clsB rs) = true ↔ ∀ k, k < c.length → clsB rs (c.getD k in0) = true := by
  rw [List.all_eq_true]
  constructor
  · intro h k hk
    exact h _ (by rw [List.getD_eq_getElem?_getD, List.getElem?_eq_getElem hk]; exact List.getElem_mem hk)
  · intro h x hx
    obtain ⟨k, hk, rfl⟩ := List.getElem_of_mem hx
    have := h k hk
    simpa [List.getD, hk] using this
theorem cls_noI {rs : List Rt} {c : List In13} {k : Nat} (hk : k < c.length) (h : clsB rs (c.getD k in0) = false) : c.all (clsB rs) = false := by
  rcases hx : c.all (clsB rs) with _ | _
  · rfl
  · rw [cls_allI.1 hx k hk] at h; cases h
theorem arg_allI {n : Int} {c : List In13} : c.all (argB n) = true ↔ ∀ k, k < c.length → argB n (c.getD k in0) = true := by
  rw [List.all_eq_true]
  constructor
  · intro h k hk
    exact h _ (by rw [List.getD_eq_getElem?_getD, List.getElem?_eq_getElem hk]; exact List.getElem_mem hk)
  · intro h x hx
    obtain ⟨k, hk, rfl⟩ := List.getElem_of_mem hx
    have := h k hk
    simpa [List.getD, hk] using this
theorem arg_noI {n : Int} {c : List In13} {k : Nat} (hk : k < c.length) (h : argB n (c.getD k in0) = false) : c.all (argB n) = false := by
  rcases hx : c.all (argB n) with _ | _
  · rfl
  · rw [arg_allI.1 hx k hk] at h; cases h

end Go.Proofs.YtogobeegibngiaaGreatDoor

/-! Contracts of chapter 14's landed code: texts compared, a routine found by halving (routineNamed). -/
namespace Go.Proofs.YtogobeegibngiaaGreatDoor
open Go.RowKit

theorem cmp_less : ∀ (a b : List UInt8), (Lib.compareBytes a b < 0 ↔ Op.bytesLess a b = true) ∧ (Lib.compareBytes a b = 0 ↔ a = b)
  | [], [] => by simp [Lib.compareBytes, Op.bytesLess]
  | [], _ :: _ => by simp [Lib.compareBytes, Op.bytesLess]
  | _ :: _, [] => by simp [Lib.compareBytes, Op.bytesLess]
  | a :: x, b :: y => by
    have ih := cmp_less x y
    unfold Lib.compareBytes Op.bytesLess
    by_cases h1 : a < b
    · have hne : a ≠ b := fun e => by subst e; exact UInt8.lt_irrefl _ h1
      simp [h1, hne]
    · by_cases h2 : b < a
      · have hne : a ≠ b := fun e => by subst e; exact UInt8.lt_irrefl _ h2
        simp [h1, h2, hne]
      · have e : a = b := by
          rw [UInt8.lt_iff_toNat_lt] at h1 h2
          exact UInt8.toNat_inj.1 (by omega)
        subst e
        simp only [h1, if_false, decide_false, Bool.false_or, beq_self_eq_true, Bool.true_and, List.cons.injEq, true_and]
        exact ih

set_option maxHeartbeats 1000000 in
set_option maxRecDepth 100000 in
theorem implCompareB (a b : List UInt8) (w : World) :
    Calls Tryz.prog 83 #[.string ⟨a.toArray⟩, .string ⟨b.toArray⟩] w fun e w' => e = .returned (.int .i64 (Lib.compareBytes a b)) ∧ w' = w := by
  go_enter Tryz.func83, Tryz.ntmps83
  go_wp2
  rw [run_callFunc_extern Tryz.func102 (by kernel_rfl) (by kernel_rfl) (by kernel_rfl) (e := Extern.BytealgCompare.compare) (by kernel_rfl), Lib.run_compareString]
  simp only [Result.andThen]
  rw [Oper.upon_value]
  go_wp2
  go_ret
  exact ⟨rfl, rfl⟩
set_option maxHeartbeats 1000000 in
set_option maxRecDepth 100000 in
theorem implCompare (a b : List UInt8) (w : World) :
    Calls Tryz.prog 65 #[.string ⟨a.toArray⟩, .string ⟨b.toArray⟩] w fun e w' => e = .returned (.int .i64 (Lib.compareBytes a b)) ∧ w' = w := by
  go_enter Tryz.func65, Tryz.ntmps65
  go_wp2_with (go_at_call 83; refine (implCompareB a b _).mono ?_; rintro e w' ⟨rfl, rfl⟩)
  go_ret
  exact ⟨rfl, rfl⟩
set_option maxHeartbeats 1000000 in
set_option maxRecDepth 100000 in
theorem implNamed1 (n : List UInt8) (ar : Int) (cv : Value) (s : List UInt8) (w : World) :
    Calls Tryz.prog 64 #[.agg #[.string ⟨n.toArray⟩, .int .i64 ar, cv], .string ⟨s.toArray⟩] w fun e w' => e = .returned (.int .i64 (Lib.compareBytes n s)) ∧ Below w.heap.size w w' := by
  have HB : Hid (Below w.heap.size w (w.alloc (.cells #[.string ⟨n.toArray⟩, .int .i64 ar, cv] 50))) := (Below.refl _ w).alloc (Nat.le_refl _) _
  go_enter Tryz.func64, Tryz.ntmps64
  go_wp2_with (go_at_call 65; refine (implCompare n s _).mono ?_; rintro e w' ⟨rfl, rfl⟩)
  go_ret
  exact ⟨rfl, HB.out⟩

/-- Where a routine is found. -/
def NmOut (rs : List Rt) (s : List UInt8) (i : Nat) (b : Bool) : Prop :=
  (b = true ∧ i < rs.length ∧ at14 rs s = (i : Int)) ∨ (b = false ∧ at14 rs s = -1)
def SrOut (w : World) (rs : List Rt) (s : List UInt8) (e : Ending) (w' : World) : Prop := ∃ (i : Nat) (b : Bool), e = .returned (.tuple #[.int .i64 (i : Int), .bool b]) ∧ NmOut rs s i b ∧ Below w.heap.size w w'
set_option maxHeartbeats 4000000 in
set_option maxRecDepth 100000 in
theorem implSearch (a : Option Addr) (cap : Nat) (rs : List Rt) (s : List UInt8) (w : World) (h : RtsCap w a rs.length cap rs) (hr : RiseR rs) (hn : rs.length ≤ 1048576) :
    Calls Tryz.prog 63 #[.slice a rs.length cap, .string ⟨s.toArray⟩, .func (.func 64) #[] #[]] w fun e w' => SrOut w rs s e w' := by
  have HI : Hid (RtsCap w a rs.length cap rs) := h
  have HR : Hid (RiseR rs) := hr
  have HH0 : Hid (Half rs s 0 rs.length) := Half.start rs s
  have HYes : Hid (∀ i, i < rs.length → (rs.getD i rt0).1 = s → at14 rs s = (i : Int)) := fun i hi e => at14_yes hr hi e
  have HNo : Hid (∀ i, Half rs s i i → (i < rs.length → (rs.getD i rt0).1 ≠ s) → at14 rs s = -1) := fun i h1 h2 => Half.no hr h1 h2
  have HB0 : Hid (Below w.heap.size w w) := Below.refl _ w
  obtain ⟨n, hnn⟩ : ∃ n, rs.length = n := ⟨_, rfl⟩
  have HN : Hid (rs.length = n) := hnn
  rw [hnn] at HI HH0 HYes HNo hn ⊢
  clear h hr hnn
  go_enter Tryz.func63, Tryz.ntmps63
  go_wp2
  go_loopw [9, 10] (fun iv jv wr => ∃ lo hi : Nat, iv = .int .i64 (lo : Int) ∧ jv = .int .i64 (hi : Int) ∧ lo ≤ hi ∧ hi ≤ n ∧ Hid (Half rs s lo hi) ∧ Hid (Below w.heap.size w wr)) (fun iv jv _ => (intOf jv).toNat - (intOf iv).toNat)
  case atStart => exact ⟨0, n, rfl, rfl, Nat.zero_le _, Nat.le_refl _, HH0, HB0⟩
  case round =>
    obtain ⟨lo, hi, rfl, rfl, hlh, hin, HF, HB⟩ := hrel
    clear HH0 HB0
    by_cases hlt : (lo : Int) < (hi : Int)
    · obtain ⟨m, hm⟩ : ∃ m, (lo + hi) / 2 = m := ⟨_, rfl⟩
      have hmi : ((lo : Int) + (hi : Int)) / 2 = (m : Int) := by omega
      have hm1 : lo ≤ m := by omega
      have hm2 : m < hi := by omega
      obtain ⟨b, off, rfl, hbl, c0, c1, ca, cl, cc, c2, _, _, _⟩ := (HI.out.below HB.out).2.2.2 m (by omega)
      have hF := HF.out
      have hup := hF.up (m := m) HR.out (by rw [HN.out]; omega)
      have hdn := hF.down (m := m) HR.out
      obtain ⟨r, hrr⟩ : ∃ r, rs.getD m rt0 = r := ⟨_, rfl⟩
      rw [hrr] at c0 c1 hup hdn
      obtain ⟨nm, ar, cd⟩ := r
      simp only at c0 c1 hup hdn
      have hcl := (cmp_less nm s).1
      have HC : Hid (_) := fun W => implNamed1 nm ar (.slice ca cl cc) s W
      generalize Lib.compareBytes nm s = cv at hcl HC
      have eg : ∀ args w, (callFunc 64 args).run Tryz.prog w = .ok (.enter 64 args) w := enters_of Tryz.func64 (by kernel_rfl) rfl
      by_cases hc : cv < 0
      · have HF2 : Hid (Half rs s (m + 1) hi) := hup (hcl.1 hc)
        clear hup hdn hF HF hcl hrr hm
        go_wp2_with (go_at_call 64; refine (HC.out _).mono ?_; rintro e w' ⟨rfl, hb1⟩)
        have HB2 : Hid (Below w.heap.size w w') := HB.out.trans (hb1.mono HB.out.size)
        go_roundw
        case rel => exact ⟨m + 1, hi, by go_num, rfl, by omega, hin, HF2, HB2⟩
        case measure => simp [intOf]; omega
      · have hno : Op.bytesLess nm s = false := by
          rcases hx : Op.bytesLess nm s with _ | _
          · rfl
          · exact absurd (hcl.2 hx) hc
        have HF2 : Hid (Half rs s lo m) := hdn hno
        clear hup hdn hF HF hcl hrr hm hno
        go_wp2_with (go_at_call 64; refine (HC.out _).mono ?_; rintro e w' ⟨rfl, hb1⟩)
        have HB2 : Hid (Below w.heap.size w w') := HB.out.trans (hb1.mono HB.out.size)
        go_roundw
        case rel => exact ⟨lo, m, rfl, by go_num, by omega, by omega, HF2, HB2⟩
        case measure => simp [intOf]; omega
    · obtain rfl : hi = lo := by omega
      by_cases hl : (hi : Int) < (n : Int)
      · obtain ⟨b, off, rfl, hbl, c0, c1, ca, cl, cc, c2, _, _, _⟩ := (HI.out.below HB.out).2.2.2 hi (by omega)
        have hyes := HYes.out hi (by omega)
        have hno := HNo.out hi HF.out
        obtain ⟨r, hrr⟩ : ∃ r, rs.getD hi rt0 = r := ⟨_, rfl⟩
        rw [hrr] at c0 c1 hyes hno
        obtain ⟨nm, ar, cd⟩ := r
        simp only at c0 c1 hyes hno
        have hcl := (cmp_less nm s).2
        have HC : Hid (_) := fun W => implNamed1 nm ar (.slice ca cl cc) s W
        generalize Lib.compareBytes nm s = cv at hcl HC
        have eg : ∀ args w, (callFunc 64 args).run Tryz.prog w = .ok (.enter 64 args) w := enters_of Tryz.func64 (by kernel_rfl) rfl
        by_cases hc : cv = 0
        · have HO : Hid (NmOut rs s hi true) := Or.inl ⟨rfl, by rw [HN.out]; omega, hyes (hcl.1 hc)⟩
          clear hyes hno hcl hrr
          go_wp2_with (go_at_call 64; refine (HC.out _).mono ?_; rintro e w' ⟨rfl, hb1⟩)
          go_ret2
          unfold SrOut
          exact ⟨hi, true, rfl, HO.out, HB.out.trans (hb1.mono HB.out.size)⟩
        · have HO : Hid (NmOut rs s hi false) := Or.inr ⟨rfl, hno (fun _ e => hc (hcl.2 e))⟩
          have hcb : (cv == 0) = false := beq_eq_false_iff_ne.2 hc
          clear hyes hno hcl hrr
          go_wp2_with (go_at_call 64; refine (HC.out _).mono ?_; rintro e w' ⟨rfl, hb1⟩)
          go_ret2
          unfold SrOut
          exact ⟨hi, false, rfl, HO.out, HB.out.trans (hb1.mono HB.out.size)⟩
      · have HO : Hid (NmOut rs s hi false) := Or.inr ⟨rfl, HNo.out hi HF.out (fun e => by omega)⟩
        go_wp2
        go_ret2
        unfold SrOut
        exact ⟨hi, false, rfl, HO.out, HB.out⟩

/-- What routineNamed gives. -/
def NdOut (w : World) (a : Option Addr) (rs : List Rt) (s : List UInt8) (e : Ending) : Prop :=
  (at14 rs s = -1 ∧ e = .returned (.tuple #[.agg #[.string ⟨#[]⟩, .int .i64 0, .slice none 0 0], .bool false])) ∨
  (∃ (i : Nat) (b off : Nat) (ca : Option Addr) (cl cc : Nat), i < rs.length ∧ at14 rs s = (i : Int) ∧ a = some ⟨b, off, none⟩ ∧ w.cell? ⟨b, off + i * 3 + 2, none⟩ = some (.slice ca cl cc) ∧ InsIn w ca cl (rs.getD i rt0).2.2 ∧ cl ≤ cc ∧ cc ≤ maxLen ∧
    e = .returned (.tuple #[.agg #[.string ⟨(rs.getD i rt0).1.toArray⟩, .int .i64 (rs.getD i rt0).2.1, .slice ca cl cc], .bool true]))
set_option maxHeartbeats 2000000 in
set_option maxRecDepth 100000 in
theorem implNamed (a : Option Addr) (cap : Nat) (rs : List Rt) (s : List UInt8) (w : World) (h : RtsCap w a rs.length cap rs) (hr : RiseR rs) (hn : rs.length ≤ 1048576) :
    Calls Tryz.prog 43 #[.slice a rs.length cap, .string ⟨s.toArray⟩] w fun e w' => NdOut w a rs s e ∧ Below w.heap.size w w' := by
  obtain ⟨W, hW⟩ : ∃ W, w.alloc (.cells #[.string ⟨#[]⟩, .int .i64 0, .slice none 0 0] 50) = W := ⟨_, rfl⟩
  have hb : Below w.heap.size w W := by rw [← hW]; exact (Below.refl _ _).alloc (Nat.le_refl _) _
  have hR : W.heap[w.heap.size]? = some (.cells #[.string ⟨#[]⟩, .int .i64 0, .slice none 0 0] 50) := by rw [← hW]; exact heap_alloc_new w _
  have hsW : W.heap.size = w.heap.size + 1 := by rw [← hW]; simp
  have HI : Hid (RtsCap w a rs.length cap rs) := h
  have HC : Hid (_) := implSearch a cap rs s W (h.below hb) hr hn
  obtain ⟨n, hnn⟩ : ∃ n, rs.length = n := ⟨_, rfl⟩
  have HN : Hid (rs.length = n) := hnn
  rw [hnn] at HI HC hn ⊢
  obtain ⟨D, hD⟩ : ∃ D, w.heap.size = D := ⟨_, rfl⟩
  rw [hD] at hR hsW hb
  clear h hr hnn
  go_enter Tryz.func43, Tryz.ntmps43
  go_wp2_with fail
  refine Calls.mono HC.out ?_
  rintro e w1 ⟨i, b, rfl, hO, hb1⟩
  obtain ⟨r0, r1, r2, fr⟩ := threeR hb1 (by omega) hR
  have f0 := fr 0
  have f1 := fr 1
  have f2 := fr 2
  have HBd : Hid (Below D w w1) := hb.trans (hb1.mono (by omega))
  have hsd : D + 1 ≤ w1.heap.size := by have := hb1.size; omega
  rcases hO with ⟨rfl, hi, hat⟩ | ⟨rfl, hat⟩
  · rw [HN.out] at hi
    have HBw : Hid (Below w.heap.size w w1) := by rw [hD]; exact HBd
    obtain ⟨b, off, rfl, hbl, c0, c1, ca, cl, cc, c2, hin, hcc, hcm⟩ := (HI.out.below HBw.out).2.2.2 i hi
    obtain ⟨b', off', e', hbl', _, _, ca', cl', cc', c2', hin', _, _⟩ := HI.out.2.2.2 i hi
    injection e' with e'
    injection e' with e1 e2 _
    subst e1 e2
    have e3 : w1.cell? ⟨b, off + i * 3 + 2, none⟩ = w.cell? ⟨b, off + i * 3 + 2, none⟩ := HBw.out.cell (p := ⟨b, off + i * 3 + 2, none⟩) hbl'
    rw [c2', c2] at e3
    injection e3 with e3
    injection e3 with e4 e5 e6
    subst e4 e5 e6
    have HO : Hid (NdOut w (some ⟨b, off, none⟩) rs s (.returned (.tuple #[.agg #[.string ⟨(rs.getD i rt0).1.toArray⟩, .int .i64 (rs.getD i rt0).2.1, .slice ca cl cc], .bool true]))) :=
      Or.inr ⟨i, b, off, ca, cl, cc, by rw [HN.out]; exact hi, hat, rfl, c2', hin', hcc, hcm, rfl⟩
    generalize (rs.getD i rt0).1 = nm at c0 HO
    generalize (rs.getD i rt0).2.1 = ar at c1 HO
    have hne : b ≠ D := by omega
    clear hin hin' hat hb1 fr hR hb HI c2'
    go_wp2
    obtain ⟨Y, hY, y0, y1, y2, hg⟩ := set3R (.string ⟨nm.toArray⟩) (.int .i64 ar) (.slice ca cl cc) r0 r1 r2
    rw [hY]
    refine bodyPost_ret (v := .tuple #[.agg #[.string ⟨nm.toArray⟩, .int .i64 ar, .slice ca cl cc], .bool true]) (by simp [results, Tryz.results43, go_sem, y0, y1, y2]) rfl ?_
    exact ⟨HO.out, by rw [hD]; exact HBd.out.grown hg (by omega) (fun k e => by injection e with e; omega)⟩
  · have HO : Hid (NdOut w a rs s (.returned (.tuple #[.agg #[.string ⟨#[]⟩, .int .i64 0, .slice none 0 0], .bool false]))) := Or.inl ⟨hat, rfl⟩
    clear hat hb1 fr hR hb HI
    go_wp2
    obtain ⟨Y, hY, y0, y1, y2, hg⟩ := set3R (.string ⟨#[]⟩) (.int .i64 0) (.slice none 0 0) r0 r1 r2
    rw [hY]
    refine bodyPost_ret (v := .tuple #[.agg #[.string ⟨#[]⟩, .int .i64 0, .slice none 0 0], .bool false]) (by simp [results, Tryz.results43, go_sem, y0, y1, y2]) rfl ?_
    exact ⟨HO.out, by rw [hD]; exact HBd.out.grown hg (by omega) (fun k e => by injection e with e; omega)⟩

end Go.Proofs.YtogobeegibngiaaGreatDoor

/-! The contracts of chapter 4's landed code: WordOk, Wrap, Done. -/
namespace Go.Proofs.YtogobeegibngiaaGreatDoor
open Go.RowKit

set_option maxHeartbeats 400000 in
set_option maxRecDepth 100000 in
theorem implWordOkS (n : Int) (w : World) : Calls Tryz.prog 78 #[.int .i64 n] w fun e w' => e = .returned (.bool (inB n (-2147483648) 2147483647)) ∧ w' = w := by
  by_cases h1 : -2147483648 ≤ n
  · by_cases h2 : n ≤ 2147483647
    · have hB : Hid (inB n (-2147483648) 2147483647 = true) := inB_yes _ _ _ h1 h2
      go_enter Tryz.func78, Tryz.ntmps78
      go_wp2
      go_ret
      exact ⟨by rw [hB.out]; rfl, rfl⟩
    · have hB : Hid (inB n (-2147483648) 2147483647 = false) := inB_no _ _ _ (Or.inr (by omega))
      go_enter Tryz.func78, Tryz.ntmps78
      go_wp2
      go_ret
      exact ⟨by rw [hB.out]; rfl, rfl⟩
  · have hB : Hid (inB n (-2147483648) 2147483647 = false) := inB_no _ _ _ (Or.inl (by omega))
    go_enter Tryz.func78, Tryz.ntmps78
    go_wp2
    go_ret
    exact ⟨by rw [hB.out]; rfl, rfl⟩

end Go.Proofs.YtogobeegibngiaaGreatDoor

/-! A scope in which the run jumps to several labels: what holds at every jump to each of them, and a measure that every pass from a label lowers. -/
namespace Go.Proofs.YtogobeegibngiaaGreatDoor
open Go.RowKit

/-- As Q; by a goto to label l: J l. -/
def Hops (J : Nat → Act → World → Prop) (Q : Exit → Act → World → Prop) : Exit → Act → World → Prop
  | .goto l, a, w => J l a w
  | e, a, w => Q e a w

theorem hops_ret {J : Nat → Act → World → Prop} {Q : Exit → Act → World → Prop} {a : Act} {w : World} (h : Q .ret a w) : Hops J Q .ret a w := h

theorem hops_mono {J J' : Nat → Act → World → Prop} {Q : Exit → Act → World → Prop} (h : ∀ l a w, J l a w → J' l a w) : ∀ e a w, Hops J Q e a w → Hops J' Q e a w := by
  intro e a w hq
  cases e with
  | goto l => exact h l a w hq
  | _ => exact hq

/-- At each label what holds there (J), and a measure (μ) that every jump lowers; a run that falls into a label from above goes on as one that jumped there. -/
theorem wp_scope_hops {P : Program} {a : Act} {w : World} {Q : Exit → Act → World → Prop} {c : Go.Code} (J : Nat → Act → World → Prop) (μ : Nat → Act → World → Nat)
    (pass : ∀ l a w, J l a w → (∀ l' a' w', J l' a' w' → μ l' a' w' < μ l a w → ∀ R, findLabel c l' = some (.seq .skip R) → R.wp P (Hops (fun l₂ a₂ w₂ => J l₂ a₂ w₂ ∧ μ l₂ a₂ w₂ < μ l a w) Q) a' w') →
      ∃ R, findLabel c l = some (.seq .skip R) ∧ R.wp P (Hops (fun l' a' w' => J l' a' w' ∧ μ l' a' w' < μ l a w) Q) a w)
    (first : (∀ l a w, J l a w → ∀ R, findLabel c l = some (.seq .skip R) → R.wp P (Hops J Q) a w) → c.wp P (Hops J Q) a w) : (Code.scope c).wp P Q a w := by
  have all : ∀ n l a w, μ l a w = n → J l a w → ∃ R, findLabel c l = some (.seq .skip R) ∧ R.wp P (Hops (fun l' a' w' => J l' a' w' ∧ μ l' a' w' < μ l a w) Q) a w := by
    intro n
    induction n using Nat.strongRecOn with
    | _ n ih =>
      intro l a w hn hJ
      refine pass l a w hJ fun l' a' w' hJ' hlt R hf => ?_
      obtain ⟨R', hf', hw⟩ := ih _ (by omega) l' a' w' rfl hJ'
      rw [hf] at hf'
      cases hf'
      exact wp_mono hw (hops_mono fun l₂ a₂ w₂ h => ⟨h.1, Nat.lt_trans h.2 hlt⟩)
  intro b k cs
  have key : ∀ n l a w, μ l a w = n → J l a w → ∃ rest, findLabel c l = some rest ∧ ∃ e a' w', Q e a' w' ∧ Arrives P (lone (b.at a (.code rest :: .inScope c :: k)) cs w) b k cs e a' w' := by
    intro n
    induction n using Nat.strongRecOn with
    | _ n ih =>
      intro l a w hn hJ
      obtain ⟨R, hf, hR⟩ := all _ l a w rfl hJ
      have hp : (Code.seq .skip R).wp P (Hops (fun l' a' w' => J l' a' w' ∧ μ l' a' w' < μ l a w) Q) a w := wp_seq (wp_skip hR)
      refine ⟨_, hf, ?_⟩
      obtain ⟨e, a₁, w₁, hq, harr⟩ := hp b (.inScope c :: k) cs
      cases e with
      | normal => exact ⟨.normal, a₁, w₁, hq, Steps.trans harr (.one step_inScope)⟩
      | exit id => exact ⟨.exit id, a₁, w₁, hq, fun k' hk => harr k' (by simp [exitTo, hk])⟩
      | goto l' =>
        obtain ⟨hJ', hlt⟩ := hq
        obtain ⟨rest', hf', e₂, a₂, w₂, hq₂, harr₂⟩ := ih _ (by omega) l' a₁ w₁ rfl hJ'
        exact ⟨e₂, a₂, w₂, hq₂, .of_steps (harr _ (by simp [gotoIn, hf'])) harr₂⟩
      | ret => exact ⟨_, a₁, w₁, hq, harr⟩
      | panic ch => exact ⟨_, a₁, w₁, hq, harr⟩
      | outgrown => exact ⟨_, a₁, w₁, hq, harr⟩
  have first' := first fun l a w hJ R hf => by
    obtain ⟨R', hf', hw⟩ := all _ l a w rfl hJ
    rw [hf] at hf'
    cases hf'
    exact wp_mono hw (hops_mono fun l₂ a₂ w₂ h => h.1)
  obtain ⟨e, a₁, w₁, hq, harr⟩ := first' b (.inScope c :: k) cs
  cases e with
  | normal => exact ⟨.normal, a₁, w₁, hq, .head step_scope (Steps.trans harr (.one step_inScope))⟩
  | exit id => exact ⟨.exit id, a₁, w₁, hq, fun k' hk => .head step_scope (harr k' (by simp [exitTo, hk]))⟩
  | goto l' =>
    obtain ⟨rest', hf', e₂, a₂, w₂, hq₂, harr₂⟩ := key _ l' a₁ w₁ rfl hq
    exact ⟨e₂, a₂, w₂, hq₂, .of_steps (.head step_scope (harr _ (by simp [gotoIn, hf']))) harr₂⟩
  | ret => exact ⟨_, a₁, w₁, hq, .of_steps (.one step_scope) harr⟩
  | panic ch => exact ⟨_, a₁, w₁, hq, .of_steps (.one step_scope) harr⟩
  | outgrown => exact ⟨_, a₁, w₁, hq, .of_steps (.one step_scope) harr⟩

end Go.Proofs.YtogobeegibngiaaGreatDoor
