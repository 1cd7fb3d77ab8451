/-
  Parts of one proof, one behind the other: Math14L, Math15, PackS, HasS.
-/
import Derived.Test.YtiekcenknniniaaGreatDoorP13
import Derived.Test.YtiekcenknniniaaGreatDoorP5
import Derived.Test.YtiekcenknniniaaGreatDoorP11
import Derived.Test.YtiekcenknniniaaGreatDoorP3
import Derived.BigQuiet

/-! Plain facts of chapter 14: lines read loosely, as the landed code reads them. -/
namespace Go.Proofs.YtiekcenknniniaaGreatDoor
open Go.RowKit

theorem mem_getL {c : List In13} {k : Nat} (hk : k < c.length) : c.getD k in0 ∈ c := by rw [List.getD_eq_getElem?_getD, List.getElem?_eq_getElem hk]; exact List.getElem_mem hk
noncomputable def insLo (ws : List (List UInt8)) : In13 := if ws.length = 5 then (numV (ws.getD 0 []), numV (ws.getD 1 []), numV (ws.getD 2 []), numV (ws.getD 3 []), if ws.getD 4 [] = [45] then [] else ws.getD 4 []) else in0
noncomputable def rtLo (out : List Rt) (x : List UInt8) : List Rt :=
  if (wordsL x).length = 4 ∧ (wordsL x).getD 0 [] = kwRt then out ++ [((wordsL x).getD 1 [], numV ((wordsL x).getD 2 []), [])]
  else if out = [] then [] else addI out (insLo (wordsL x))
noncomputable def loI (out : List Rt) (ls : List (List UInt8)) : List Rt := ls.foldl rtLo out
theorem loI_take (ls : List (List UInt8)) (k : Nat) (hk : k < ls.length) : loI [] (ls.take (k + 1)) = rtLo (loI [] (ls.take k)) (ls.getD k []) := by
  have e : ls.getD k [] = ls[k] := by rw [List.getD_eq_getElem?_getD, List.getElem?_eq_getElem hk]; rfl
  unfold loI
  rw [List.take_succ_eq_append_getElem hk, List.foldl_append, e]
  rfl
theorem insLn_words {i : In13} (h : insP i) : wordsL (insLn i) = [intL i.1, intL i.2.1, intL i.2.2.1, intL i.2.2.2.1, nmL i.2.2.2.2] := by
  have hs := insLn_split h
  unfold wordsL
  rw [if_neg (fun e => by rw [e] at hs; simp [splitL, splitGo] at hs), hs]
theorem rtLn_words {r : Rt} (h : rtB r = true) : wordsL (rtLn r) = [kwRt, r.1, intL r.2.1, intL (r.2.2.length : Int)] := by
  have hs := rtLn_split h
  unfold wordsL
  rw [if_neg (fun e => by rw [e] at hs; simp [splitL, splitGo] at hs), hs]
theorem insLo_of {i : In13} (h : insP i) : insLo [intL i.1, intL i.2.1, intL i.2.2.1, intL i.2.2.2.1, nmL i.2.2.2.2] = i := by
  obtain ⟨w0, w1, w2, w3⟩ := insP_words h
  have hr := insRd_of h
  unfold insRd at hr
  simp only [List.getD_cons_zero, List.getD_cons_succ] at hr
  unfold insLo
  rw [if_pos (by simp)]
  simp only [List.getD_cons_zero, List.getD_cons_succ]
  rw [(num_word _ w0.1 w0.2).2, (num_word _ w1.1 w1.2).2, (num_word _ w2.1 w2.2).2, (num_word _ w3.1 w3.2).2]
  have e5 := congrArg (fun j : In13 => j.2.2.2.2) hr
  simp only at e5
  rw [e5]
theorem loI_ins (out : List Rt) (n : List UInt8) (a : Int) (ls : List (List UInt8)) : ∀ (c d : List In13), (∀ i ∈ d, insP i) → loI (out ++ [(n, a, c)]) (d.map insLn ++ ls) = loI (out ++ [(n, a, c ++ d)]) ls
  | c, [], _ => by simp
  | c, i :: d, h => by
    have hi := h i (by simp)
    have ih := loI_ins out n a ls (c ++ [i]) d (fun j hj => h j (by simp [hj]))
    have e : rtLo (out ++ [(n, a, c)]) (insLn i) = out ++ [(n, a, c ++ [i])] := by
      unfold rtLo
      rw [insLn_words hi, if_neg (by simp), if_neg (by simp), insLo_of hi, addI_snoc]
    unfold loI at ih ⊢
    rw [List.map_cons, List.cons_append, List.foldl_cons, e, ih]
    simp
theorem loI_rts (ls : List (List UInt8)) : ∀ (rs out : List Rt), (∀ r ∈ rs, rtB r = true) → loI out (imLines rs ++ ls) = loI (out ++ rs) ls
  | [], out, _ => by simp [imLines]
  | r :: rs, out, h => by
    obtain ⟨n, a, c⟩ := r
    have hr := h (n, a, c) (by simp)
    have hc := (rtB_parts hr).2.2.1
    have ha := (rtB_parts hr).2.1
    simp only at ha
    have e : imLines ((n, a, c) :: rs) ++ ls = rtLn (n, a, c) :: (c.map insLn ++ (imLines rs ++ ls)) := by simp [imLines, rtLines]
    have e1 : rtLo out (rtLn (n, a, c)) = out ++ [(n, a, [])] := by
      unfold rtLo
      rw [rtLn_words hr, if_pos (by simp)]
      simp only [List.getD_cons_zero, List.getD_cons_succ]
      rw [(num_word a (by omega) (by omega)).2]
    have h2 := loI_ins out n a (imLines rs ++ ls) [] c (codeB_ins hc)
    have h3 := loI_rts ls rs (out ++ [(n, a, c)]) (fun q hq => h q (by simp [hq]))
    rw [e]
    have e2 : loI out (rtLn (n, a, c) :: (c.map insLn ++ (imLines rs ++ ls))) = loI (out ++ [(n, a, [])]) (c.map insLn ++ (imLines rs ++ ls)) := by
      unfold loI
      rw [List.foldl_cons, e1]
    rw [e2, h2, List.nil_append, h3]
    simp
theorem lo_image {rs : List Rt} (h : imageB rs = true) : loI [] (imLines rs) = rs := by
  have := loI_rts [] rs [] (image_rts h)
  simpa [loI] using this
theorem loI_yes {l : List UInt8} {q : List Rt} (hl : l ≠ []) (hs : showIm q = l) : readIB l = true ∧ readIV l = q := by
  rcases hp : imageB q with _ | _
  · rw [image_not hp] at hs; exact absurd hs.symm hl
  · have h := image_back hp
    rw [hs] at h
    exact ⟨h.2.1, h.2.2⟩
theorem loI_no {l : List UInt8} (hs : showIm (loI [] (linesL l)) ≠ l) : readIB l = false ∧ readIV l = [] := by
  rcases read_iv l with ⟨_, h, e⟩ | h
  · refine absurd ?_ hs
    have e2 : linesL l = imLines (readIV l) := by
      have h1 := lines_term (imLines (readIV l)) (lines14_no10 h)
      have h2 : showI (readIV l) = l := (show showI (readIV l) = showIm (readIV l) from (if_pos h).symm).trans e
      rw [show termJ (imLines (readIV l)) = showI (readIV l) from rfl, h2] at h1
      exact h1
    rw [e2, lo_image h]
    exact e
  · exact h
theorem loI_nil : readIB [] = false ∧ readIV [] = [] := by
  rcases read_iv [] with ⟨_, h, e⟩ | h
  · exact absurd e (image_back h).1
  · exact h

/-- How great what is read may be. -/
structure LoR (n : Nat) (rs : List Rt) : Prop where
  l : rs.length ≤ n
  c : ∀ r ∈ rs, r.1.length ≤ 1048576 ∧ (-2147483648 ≤ r.2.1 ∧ r.2.1 ≤ 2147483647) ∧ r.2.2.length ≤ n ∧ ∀ i ∈ r.2.2, ((-2147483648 ≤ i.1 ∧ i.1 ≤ 2147483647) ∧ (-2147483648 ≤ i.2.1 ∧ i.2.1 ≤ 2147483647) ∧ (-2147483648 ≤ i.2.2.1 ∧ i.2.2.1 ≤ 2147483647) ∧ (-2147483648 ≤ i.2.2.2.1 ∧ i.2.2.2.1 ≤ 2147483647)) ∧ i.2.2.2.2.length ≤ 1048576
theorem LoR.nil (n : Nat) : LoR n [] := ⟨Nat.zero_le _, fun r hr => by cases hr⟩
theorem word_lenI (x : List UInt8) (j : Nat) : ((wordsL x).getD j []).length ≤ x.length := by
  by_cases hx : x = []
  · subst hx; simp [wordsL]
  · have hw : wordsL x = splitL 32 x := by unfold wordsL; rw [if_neg hx]
    rw [hw]
    exact split_part 32 x j
theorem insLo_bd (x : List UInt8) (hx : x.length ≤ 1048576) : ((-2147483648 ≤ (insLo (wordsL x)).1 ∧ (insLo (wordsL x)).1 ≤ 2147483647) ∧ (-2147483648 ≤ (insLo (wordsL x)).2.1 ∧ (insLo (wordsL x)).2.1 ≤ 2147483647) ∧ (-2147483648 ≤ (insLo (wordsL x)).2.2.1 ∧ (insLo (wordsL x)).2.2.1 ≤ 2147483647) ∧ (-2147483648 ≤ (insLo (wordsL x)).2.2.2.1 ∧ (insLo (wordsL x)).2.2.2.1 ≤ 2147483647)) ∧ (insLo (wordsL x)).2.2.2.2.length ≤ 1048576 := by
  have h4 := word_lenI x 4
  unfold insLo
  split
  · refine ⟨⟨numV_bd _, numV_bd _, numV_bd _, numV_bd _⟩, ?_⟩
    simp only
    split
    · simp
    · omega
  · simp [in0]
theorem LoR.step {n : Nat} {rs : List Rt} (h : LoR n rs) (x : List UInt8) (hx : x.length ≤ 1048576) : LoR (n + 1) (rtLo rs x) := by
  unfold rtLo
  split
  · refine ⟨by rw [List.length_append, List.length_singleton]; have := h.l; omega, fun r hr => ?_⟩
    rcases List.mem_append.1 hr with e | e
    · have := h.c r e; exact ⟨this.1, this.2.1, by have := this.2.2.1; omega, this.2.2.2⟩
    · rw [List.mem_singleton.1 e]
      exact ⟨by have := word_lenI x 1; simp only; omega, numV_bd _, by simp, fun i hi => by cases hi⟩
  · split
    · exact LoR.nil _
    · rename_i hne
      have hm : rs.getLastD rt0 ∈ rs := by
        rw [List.getLastD_eq_getLast?, List.getLast?_eq_some_getLast hne]
        exact List.getLast_mem hne
      have hl := h.c _ hm
      unfold addI
      refine ⟨by rw [List.length_append, List.length_dropLast, List.length_singleton]; have := h.l; omega, fun r hr => ?_⟩
      rcases List.mem_append.1 hr with e | e
      · have := h.c r (List.dropLast_subset _ e); exact ⟨this.1, this.2.1, by have := this.2.2.1; omega, this.2.2.2⟩
      · rw [List.mem_singleton.1 e]
        refine ⟨hl.1, hl.2.1, by simp only [List.length_append, List.length_singleton]; have := hl.2.2.1; omega, fun i hi => ?_⟩
        rcases List.mem_append.1 hi with e2 | e2
        · exact hl.2.2.2 i e2
        · rw [List.mem_singleton.1 e2]; exact insLo_bd x hx
theorem LoR.ok {n : Nat} {rs : List Rt} (h : LoR n rs) (hn : n ≤ 1048576) : IntR rs ∧ ShortR rs := by
  refine ⟨fun j => ?_, fun j => ?_⟩
  · by_cases hj : j < rs.length
    · have hm : rs.getD j rt0 ∈ rs := by rw [List.getD_eq_getElem?_getD, List.getElem?_eq_getElem hj]; exact List.getElem_mem hj
      have hc := h.c _ hm
      refine ⟨by omega, fun k => ?_⟩
      by_cases hk : k < (rs.getD j rt0).2.2.length
      · have hi := hc.2.2.2 _ (mem_getL hk)
        unfold IntI
        omega
      · rw [List.getD_eq_getElem?_getD, List.getElem?_eq_none (by omega)]; exact intI_in0
    · have e : rs.getD j rt0 = rt0 := by rw [List.getD_eq_getElem?_getD, List.getElem?_eq_none (by omega)]; rfl
      rw [e]
      exact ⟨by simp [rt0], intIs_nil⟩
  · by_cases hj : j < rs.length
    · have hm : rs.getD j rt0 ∈ rs := by rw [List.getD_eq_getElem?_getD, List.getElem?_eq_getElem hj]; exact List.getElem_mem hj
      have hc := h.c _ hm
      refine ⟨hc.1, by omega, fun k => ?_⟩
      by_cases hk : k < (rs.getD j rt0).2.2.length
      · exact (hc.2.2.2 _ (mem_getL hk)).2
      · rw [List.getD_eq_getElem?_getD, List.getElem?_eq_none (by omega)]; simp [in0]
    · have e : rs.getD j rt0 = rt0 := by rw [List.getD_eq_getElem?_getD, List.getElem?_eq_none (by omega)]; rfl
      rw [e]
      exact ⟨by simp [rt0], by simp [rt0], fun k => by simp [rt0, in0]⟩
theorem linesI_le (l : List UInt8) : (linesL l).length ≤ l.length := by
  have hne := splitGo_ne 10 l []
  have hj := joinBy_split 10 l []
  rw [List.nil_append] at hj
  have hs : splitL 10 l = (splitL 10 l).dropLast ++ [(splitL 10 l).getLastD []] := by
    have h : splitL 10 l ≠ [] := hne
    have h2 := List.dropLast_concat_getLast h
    rw [← h2]
    simp [List.getLastD_eq_getLast?]
  have hj2 : joinBy 10 (splitL 10 l) = l := hj
  rw [hs, joinBy_term] at hj2
  have hc : ∀ ls : List (List UInt8), ls.length ≤ (termJ ls).length := fun ls => by
    induction ls with
    | nil => simp
    | cons x r ih => simp only [termJ, List.map_cons, List.flatten_cons, List.length_append, List.length_cons, List.length_nil] at ih ⊢; omega
  have h1 := hc (splitL 10 l).dropLast
  have h2 := congrArg List.length hj2
  rw [List.length_append] at h2
  unfold linesL
  split
  · omega
  · rename_i hn
    have h3 : 0 < ((splitL 10 l).getLastD []).length := List.length_pos_iff.2 hn
    have h4 := congrArg List.length hs
    rw [List.length_append, List.length_singleton] at h4
    omega

end Go.Proofs.YtiekcenknniniaaGreatDoor

/-! Plain facts of chapter 15: objects, right, shown, read strictly and read loosely. -/
namespace Go.Proofs.YtiekcenknniniaaGreatDoor
open Go.RowKit

abbrev Ob := List UInt8 × List (List UInt8) × List Rt
def ob0 : Ob := ([], [], [])
theorem splitGo_head (b : UInt8) : ∀ (l cur : List UInt8), (splitGo b cur l).getD 0 [] = cur ++ l.takeWhile (fun c => c != b)
  | [], cur => by simp [splitGo]
  | c :: r, cur => by
    rw [splitGo]
    by_cases h : c = b
    · rw [if_pos h, List.takeWhile_cons, if_neg (by simp [h])]
      simp
    · rw [if_neg h, splitGo_head b r (cur ++ [c]), List.takeWhile_cons, if_pos (bne_iff_ne.2 h)]
      simp
theorem split_headA (b : UInt8) (l : List UInt8) : (splitL b l).getD 0 [] = cutA b l := by
  unfold splitL cutA
  rw [splitGo_head, List.nil_append]
/-- Does a call stay within reach? -/
def nearB (nm : List UInt8) (ims : List (List UInt8)) (i : In13) : Bool := decide (i.1 ≠ 9) || (decide (cutA 46 i.2.2.2.2 = nm) || decide (cutA 46 i.2.2.2.2 ∈ ims))
def one15 (nm : List UInt8) (ims : List (List UInt8)) (rs : List Rt) (j : Nat) : Prop :=
  (rtB (rs.getD j rt0) = true ∧ (0 < j → leT (rs.getD j rt0).1 (rs.getD (j - 1) rt0).1 = false) ∧ cutA 46 (rs.getD j rt0).1 = nm) ∧ (rs.getD j rt0).2.2.all (nearB nm ims) = true
instance (nm : List UInt8) (ims : List (List UInt8)) (rs : List Rt) (j : Nat) : Decidable (one15 nm ims rs j) := by unfold one15; infer_instance
def objB (o : Ob) : Bool := (nameB o.1 && (importsB o.2.1 && decide (1 ≤ o.2.2.length ∧ o.2.2.length ≤ 8))) && decide (∀ j, j < o.2.2.length → one15 o.1 o.2.1 o.2.2 j)
theorem obj_name {o : Ob} (h : nameB o.1 = false) : objB o = false := by unfold objB; rw [h]; rfl
theorem obj_imps {o : Ob} (h : importsB o.2.1 = false) : objB o = false := by unfold objB; rw [h]; simp
theorem obj_len {o : Ob} (h : ¬ (1 ≤ o.2.2.length ∧ o.2.2.length ≤ 8)) : objB o = false := by unfold objB; rw [decide_eq_false h]; simp
theorem obj_no {o : Ob} {j : Nat} (hj : j < o.2.2.length) (h : ¬ one15 o.1 o.2.1 o.2.2 j) : objB o = false := by
  have hn : ¬ (∀ j, j < o.2.2.length → one15 o.1 o.2.1 o.2.2 j) := fun e => h (e j hj)
  unfold objB
  rw [decide_eq_false hn, Bool.and_false]
theorem obj_yes {o : Ob} (h1 : nameB o.1 = true) (h2 : importsB o.2.1 = true) (h3 : 1 ≤ o.2.2.length ∧ o.2.2.length ≤ 8) (h4 : ∀ j, j < o.2.2.length → one15 o.1 o.2.1 o.2.2 j) : objB o = true := by
  unfold objB
  rw [h1, h2, decide_eq_true h3, decide_eq_true h4]; rfl
structure ObjP (o : Ob) : Prop where
  nm : nameB o.1 = true
  im : importsB o.2.1 = true
  l : 1 ≤ o.2.2.length ∧ o.2.2.length ≤ 8
  one : ∀ j, j < o.2.2.length → one15 o.1 o.2.1 o.2.2 j
theorem objB_parts {o : Ob} (h : objB o = true) : ObjP o := by
  unfold objB at h
  simp only [Bool.and_eq_true, decide_eq_true_eq] at h
  exact ⟨h.1.1, h.1.2.1, h.1.2.2, h.2⟩
theorem near_all {nm : List UInt8} {ims : List (List UInt8)} {c : List In13} (h : ∀ j, j < c.length → nearB nm ims (c.getD j in0) = true) : c.all (nearB nm ims) = true := by
  rw [List.all_eq_true]
  intro i hi
  obtain ⟨j, hj, rfl⟩ := List.getElem_of_mem hi
  have := h j hj
  simpa only [List.getD, List.getElem?_eq_getElem hj, Option.getD_some] using this
theorem near_no {nm : List UInt8} {ims : List (List UInt8)} {c : List In13} {j : Nat} (hj : j < c.length) (h : nearB nm ims (c.getD j in0) = false) : c.all (nearB nm ims) = false := by
  rw [Bool.eq_false_iff]
  intro e
  have := List.all_eq_true.1 e c[j] (List.getElem_mem hj)
  simp only [List.getD, List.getElem?_eq_getElem hj, Option.getD_some] at h
  rw [h] at this
  cases this
/-- As the landed code goes about it. -/
def two15 (o : Ob) (j : Nat) : Prop := cutA 46 (o.2.2.getD j rt0).1 = o.1 ∧ (o.2.2.getD j rt0).2.2.all (nearB o.1 o.2.1) = true
theorem objI_rts {o : Ob} (h : rtsB o.2.2 8 = false) : objB o = false := by
  rcases e : objB o with _ | _
  · rfl
  · have p := objB_parts e
    have : rtsB o.2.2 8 = true := by
      unfold rtsB
      refine decide_eq_true ⟨by have := p.l; omega, fun i hi => (p.one i hi).1.1, fun i hi => ?_⟩
      have := (p.one (i + 1) (by omega)).1.2.1 (by omega)
      rw [Nat.add_sub_cancel] at this
      exact this
    rw [this] at h
    cases h
theorem objI_no {o : Ob} {j : Nat} (hj : j < o.2.2.length) (h : ¬ two15 o j) : objB o = false := obj_no hj (fun e => h ⟨e.1.2.2, e.2⟩)
theorem objI_yes {o : Ob} (h1 : nameB o.1 = true) (h2 : importsB o.2.1 = true) (h3 : rtsB o.2.2 8 = true) (h4 : ∀ j, j < o.2.2.length → two15 o j) : objB o = true := by
  obtain ⟨q1, q2, q3⟩ := of_decide_eq_true h3
  refine obj_yes h1 h2 (by omega) (fun j hj => ⟨⟨q2 j hj, fun h0 => ?_, (h4 j hj).1⟩, (h4 j hj).2⟩)
  have := q3 (j - 1) (by omega)
  rw [show j - 1 + 1 = j by omega] at this
  exact this
theorem obj_rts {o : Ob} (h : objB o = true) : ∀ r ∈ o.2.2, rtB r = true := fun r hr => by
  obtain ⟨j, hj, rfl⟩ := List.getElem_of_mem hr
  have := ((objB_parts h).one j hj).1.1
  simpa [List.getD, hj] using this
theorem obj_imn {o : Ob} (h : objB o = true) : o.2.1.length ≤ 6 ∧ ∀ m ∈ o.2.1, nameB m = true := by
  have hi := (objB_parts h).im
  unfold importsB at hi
  simp only [Bool.and_eq_true, decide_eq_true_eq] at hi
  refine ⟨hi.2.1, fun m hm => ?_⟩
  obtain ⟨j, hj, rfl⟩ := List.getElem_of_mem hm
  have := hi.1 j hj
  simpa [List.getD, hj] using this

def kwObject : List UInt8 := [111, 98, 106, 101, 99, 116]
def objLn (s : List UInt8) : List UInt8 := kwObject ++ [32] ++ s
def obLines (o : Ob) : List (List UInt8) := objLn o.1 :: (o.2.1.map impLn ++ imLines o.2.2)
def showO (o : Ob) : List UInt8 := termJ (obLines o)
def showOb (o : Ob) : List UInt8 := if objB o = true then showO o else []
theorem showO_eq (o : Ob) : showO o = objLn o.1 ++ [10] ++ termJ (o.2.1.map impLn) ++ showI o.2.2 := by simp [showO, obLines, showI, termJ]

/-- Read strictly: what is ahead of the first line that has not two words is the head. -/
noncomputable def readH : List UInt8 → List (List UInt8) → List (List UInt8) → Ob
  | nm, ims, [] => (nm, ims, readI [] [])
  | nm, ims, l :: ls =>
    if (splitL 32 l).length = 2 then (if (splitL 32 l).getD 0 [] = kwObject then readH ((splitL 32 l).getD 1 []) ims ls else readH nm (ims ++ [(splitL 32 l).getD 1 []]) ls)
    else (nm, ims, readI [] (l :: ls))
noncomputable def readO (s : List UInt8) : Ob := readH [] [] (linesL s)
noncomputable def readOB (s : List UInt8) : Bool := decide (s.length ≤ 100000) && (objB (readO s) && (showO (readO s) == s))
noncomputable def readOV (s : List UInt8) : Ob := if readOB s = true then readO s else ob0
theorem readH_drop {ls : List (List UInt8)} {k : Nat} (hk : k < ls.length) (nm : List UInt8) (ims : List (List UInt8)) : readH nm ims (ls.drop k) =
    if (splitL 32 (ls.getD k [])).length = 2 then (if (splitL 32 (ls.getD k [])).getD 0 [] = kwObject then readH ((splitL 32 (ls.getD k [])).getD 1 []) ims (ls.drop (k + 1)) else readH nm (ims ++ [(splitL 32 (ls.getD k [])).getD 1 []]) (ls.drop (k + 1)))
    else (nm, ims, readI [] (ls.drop k)) := by
  have e : ls.getD k [] = ls[k] := by rw [List.getD_eq_getElem?_getD, List.getElem?_eq_getElem hk]; rfl
  rw [List.drop_eq_getElem_cons hk, readH, e]
theorem readH_end {ls : List (List UInt8)} {k : Nat} (hk : ls.length ≤ k) (nm : List UInt8) (ims : List (List UInt8)) : readH nm ims (ls.drop k) = (nm, ims, readI [] (ls.drop k)) := by
  rw [List.drop_of_length_le hk, readH]

theorem objLn_split {s : List UInt8} (h : nameB s = true) : splitL 32 (objLn s) = [kwObject, s] := two_words _ _ (by decide) (name_noblank h)
theorem impLn_split {s : List UInt8} (h : nameB s = true) : splitL 32 (impLn s) = [kwImport, s] := two_words _ _ (by decide) (name_noblank h)
theorem readH_imps (r : List (List UInt8)) (nm : List UInt8) : ∀ (l ims : List (List UInt8)), (∀ m ∈ l, nameB m = true) → readH nm ims (l.map impLn ++ r) = readH nm (ims ++ l) r
  | [], ims, _ => by simp
  | x :: l, ims, h => by
    rw [List.map_cons, List.cons_append, readH, impLn_split (h x (by simp)), if_pos (by simp), if_neg (by simp [kwImport, kwObject])]
    have := readH_imps r nm l (ims ++ [x]) (fun m hm => h m (by simp [hm]))
    simpa using this
theorem readH_rts (nm : List UInt8) (ims : List (List UInt8)) : ∀ rs : List Rt, (∀ r ∈ rs, rtB r = true) → readH nm ims (imLines rs) = (nm, ims, rs)
  | [], _ => by simp [imLines, readH, readI]
  | r :: rs, h => by
    have e : imLines (r :: rs) = rtLn r :: (r.2.2.map insLn ++ imLines rs) := by simp [imLines, rtLines]
    have h2 := readI_rts [] (r :: rs) [] h
    rw [List.append_nil, List.nil_append, readI] at h2
    rw [e, readH, rtLn_split (h r (by simp)), if_neg (by simp), ← e, h2]
theorem read_obj {o : Ob} (h : objB o = true) : readH [] [] (obLines o) = o := by
  obtain ⟨nm, ims, rs⟩ := o
  have hp := objB_parts h
  unfold obLines
  rw [readH, objLn_split hp.nm, if_pos (by simp), if_pos (by simp)]
  simp only [List.getD_cons_zero, List.getD_cons_succ]
  rw [readH_imps _ _ _ _ (obj_imn h).2, List.nil_append, readH_rts _ _ _ (obj_rts h)]
theorem objLn_len {s : List UInt8} (h : nameB s = true) : (objLn s).length ≤ 15 ∧ (impLn s).length ≤ 15 := by
  have := (name_letters h).1
  unfold objLn impLn kwObject kwImport
  simp only [List.length_append, List.length_cons, List.length_nil]
  omega
theorem showO_len {o : Ob} (h : objB o = true) : (showO o).length ≤ 100000 := by
  have hp := objB_parts h
  have h1 := showI_len' o.2.2 (obj_rts h)
  have h2 := termJ_len 15 (o.2.1.map impLn) (fun x hx => by obtain ⟨m, hm, rfl⟩ := List.mem_map.1 hx; exact (objLn_len ((obj_imn h).2 m hm)).2)
  have h3 := (objLn_len hp.nm).1
  have h4 := (obj_imn h).1
  have h5 := hp.l
  rw [showO_eq]
  unfold showI
  simp only [List.length_append, List.length_singleton, List.length_map] at h2 ⊢
  omega
theorem obLines_no10 {o : Ob} (h : objB o = true) : ∀ x ∈ obLines o, ∀ c ∈ x, c ≠ 10 := by
  have hp := objB_parts h
  intro x hx c hc e
  unfold obLines at hx
  simp only [List.mem_cons, List.mem_append, List.mem_map] at hx
  rcases hx with rfl | ⟨m, hm, rfl⟩ | hx
  · unfold objLn at hc
    simp only [List.mem_append, List.mem_singleton] at hc
    rcases hc with (h1 | h1) | h1
    · rw [e] at h1; revert h1; decide
    · rw [e] at h1; simp at h1
    · exact name_no10 hp.nm c h1 e
  · unfold impLn at hc
    simp only [List.mem_append, List.mem_singleton] at hc
    rcases hc with (h1 | h1) | h1
    · rw [e] at h1; revert h1; decide
    · rw [e] at h1; simp at h1
    · exact name_no10 ((obj_imn h).2 m hm) c h1 e
  · exact rts_no10 (obj_rts h) x hx c hc e
theorem obj_back {o : Ob} (h : objB o = true) : showOb o ≠ [] ∧ readOB (showOb o) = true ∧ readOV (showOb o) = o := by
  have hs : showOb o = showO o := by unfold showOb; rw [if_pos h]
  have hl : linesL (showO o) = obLines o := lines_term _ (obLines_no10 h)
  have hr : readO (showO o) = o := by unfold readO; rw [hl]; exact read_obj h
  have hb : readOB (showO o) = true := by
    unfold readOB
    rw [hr, decide_eq_true (showO_len h), h]
    simp
  refine ⟨?_, by rw [hs]; exact hb, by rw [hs]; unfold readOV; rw [if_pos hb, hr]⟩
  rw [hs, showO_eq]
  simp
theorem obj_not {o : Ob} (h : objB o = false) : showOb o = [] := by unfold showOb; rw [if_neg (by rw [h]; simp)]
theorem read_ov (s : List UInt8) : (readOB s = true ∧ objB (readOV s) = true ∧ showOb (readOV s) = s) ∨ (readOB s = false ∧ readOV s = ob0) := by
  rcases h : readOB s with _ | _
  · exact Or.inr ⟨rfl, by unfold readOV; rw [if_neg (by rw [h]; simp)]⟩
  · have hv : readOV s = readO s := by unfold readOV; rw [if_pos h]
    unfold readOB at h
    simp only [Bool.and_eq_true, beq_iff_eq] at h
    rw [hv]
    exact Or.inl ⟨rfl, h.2.1, by unfold showOb; rw [if_pos h.2.1]; exact h.2.2⟩

/-- Read loosely, as the landed code does. -/
noncomputable def obLo (o : Ob) (x : List UInt8) : Ob :=
  if cutA 32 x = kwObject then (cutB 32 x, o.2.1, o.2.2)
  else if cutA 32 x = kwImport then (o.1, o.2.1 ++ [cutB 32 x], o.2.2)
  else (o.1, o.2.1, rtLo o.2.2 x)
noncomputable def loO (o : Ob) (ls : List (List UInt8)) : Ob := ls.foldl obLo o
theorem loO_take (ls : List (List UInt8)) (k : Nat) (hk : k < ls.length) : loO ob0 (ls.take (k + 1)) = obLo (loO ob0 (ls.take k)) (ls.getD k []) := by
  have e : ls.getD k [] = ls[k] := by rw [List.getD_eq_getElem?_getD, List.getElem?_eq_getElem hk]; rfl
  unfold loO
  rw [List.take_succ_eq_append_getElem hk, List.foldl_append, e]
  rfl
theorem obLo_obj (o : Ob) (s : List UInt8) : obLo o (objLn s) = (s, o.2.1, o.2.2) := by
  have h := cut_one 32 kwObject s (by decide)
  have e : objLn s = kwObject ++ 32 :: s := by simp [objLn]
  unfold obLo
  rw [e, h.1, h.2, if_pos rfl]
theorem obLo_imp (o : Ob) (s : List UInt8) : obLo o (impLn s) = (o.1, o.2.1 ++ [s], o.2.2) := by
  have h := cut_one 32 kwImport s (by decide)
  have e : impLn s = kwImport ++ 32 :: s := by simp [impLn]
  unfold obLo
  rw [e, h.1, h.2, if_neg (by decide), if_pos rfl]
theorem loO_imps (r : List (List UInt8)) : ∀ (l : List (List UInt8)) (o : Ob), loO o (l.map impLn ++ r) = loO (o.1, o.2.1 ++ l, o.2.2) r
  | [], o => by simp
  | x :: l, o => by
    have ih := loO_imps r l (o.1, o.2.1 ++ [x], o.2.2)
    unfold loO at ih ⊢
    rw [List.map_cons, List.cons_append, List.foldl_cons, obLo_imp, ih]
    simp
/-- A line of which the first word is neither is a routine's. -/
theorem loO_lines : ∀ (ls : List (List UInt8)) (o : Ob), (∀ x ∈ ls, cutA 32 x ≠ kwObject ∧ cutA 32 x ≠ kwImport) → loO o ls = (o.1, o.2.1, loI o.2.2 ls)
  | [], o, _ => rfl
  | x :: ls, o, h => by
    have hx := h x (by simp)
    have ih := loO_lines ls (o.1, o.2.1, rtLo o.2.2 x) (fun y hy => h y (by simp [hy]))
    have e : obLo o x = (o.1, o.2.1, rtLo o.2.2 x) := by unfold obLo; rw [if_neg hx.1, if_neg hx.2]
    unfold loO loI at ih ⊢
    rw [List.foldl_cons, List.foldl_cons, e]
    exact ih
theorem im_heads {rs : List Rt} (h : ∀ r ∈ rs, rtB r = true) : ∀ x ∈ imLines rs, cutA 32 x ≠ kwObject ∧ cutA 32 x ≠ kwImport := by
  intro x hx
  obtain ⟨r, hr, hx2⟩ := List.mem_flatMap.1 hx
  have hrt := h r hr
  unfold rtLines at hx2
  rw [← split_headA]
  rcases List.mem_cons.1 hx2 with e | e
  · rw [e, rtLn_split hrt]
    exact ⟨by simp [kwRt, kwObject], by simp [kwRt, kwImport]⟩
  · obtain ⟨i, hi, rfl⟩ := List.mem_map.1 e
    have hp := codeB_ins (rtB_parts hrt).2.2.1 i hi
    rw [insLn_split hp]
    simp only [List.getD_cons_zero]
    have hw := (insP_words hp).1
    have hb := intL_bytes i.1 hw.1 hw.2
    refine ⟨fun e => ?_, fun e => ?_⟩
    · have := hb 111 (by rw [e]; simp [kwObject]); simp at this
    · have := hb 105 (by rw [e]; simp [kwImport]); simp at this
theorem lo_obj {o : Ob} (h : objB o = true) : loO ob0 (obLines o) = o := by
  obtain ⟨nm, ims, rs⟩ := o
  have e : loO ob0 (obLines (nm, ims, rs)) = loO (nm, [], []) (ims.map impLn ++ imLines rs) := by
    unfold loO obLines
    rw [List.foldl_cons, obLo_obj]
    rfl
  have h2 := loI_rts [] rs [] (obj_rts h)
  rw [List.append_nil, List.nil_append] at h2
  rw [e, loO_imps, List.nil_append, loO_lines _ _ (im_heads (obj_rts h))]
  simp only
  rw [h2]
  rfl
theorem loO_yes {l : List UInt8} {q : Ob} (hl : l ≠ []) (hs : showOb q = l) : readOB l = true ∧ readOV l = q := by
  rcases hp : objB q with _ | _
  · rw [obj_not hp] at hs; exact absurd hs.symm hl
  · have h := obj_back hp
    rw [hs] at h
    exact ⟨h.2.1, h.2.2⟩
theorem loO_no {l : List UInt8} (hs : showOb (loO ob0 (linesL l)) ≠ l) : readOB l = false ∧ readOV l = ob0 := by
  rcases read_ov l with ⟨_, h, e⟩ | h
  · refine absurd ?_ hs
    have e2 : linesL l = obLines (readOV l) := by
      have h1 := lines_term (obLines (readOV l)) (obLines_no10 h)
      have h2 : showO (readOV l) = l := (show showO (readOV l) = showOb (readOV l) from (if_pos h).symm).trans e
      rw [show termJ (obLines (readOV l)) = showO (readOV l) from rfl, h2] at h1
      exact h1
    rw [e2, lo_obj h]
    exact e
  · exact h
theorem loO_nil : readOB [] = false ∧ readOV [] = ob0 := by
  rcases read_ov [] with ⟨_, h, e⟩ | h
  · exact absurd e (obj_back h).1
  · exact h

end Go.Proofs.YtiekcenknniniaaGreatDoor

/-! The contracts of chapter 7's specification: l1Rise, l7Imports, l7Func. -/
namespace Go.Proofs.YtiekcenknniniaaGreatDoor
open Go.RowKit

set_option maxHeartbeats 2000000 in
set_option maxRecDepth 100000 in
theorem specRise (a : Option Addr) (len cap : Nat) (ts : List (List UInt8)) (w : World) (hin : TextsIn w a len ts) (hlen : len ≤ 1048576) :
    Calls Tryz.prog 104 #[.slice a len cap] w fun e w' => e = .returned (.bool (riseB ts)) ∧ Below w.heap.size w w' := by
  obtain rfl : ts.length = len := hin.1
  have HI : Hid (TextsIn w a ts.length ts) := hin
  clear hin
  go_enter Tryz.func104, Tryz.ntmps104
  go_wp2
  go_loopw [3] (fun iv wr => ∃ j : Nat, iv = .int .i64 ((j : Int) + 1) ∧ j ≤ ts.length ∧ Hid (∀ i, i < j → leT (ts.getD (i + 1) []) (ts.getD i []) = false) ∧ Hid (TextsIn wr a ts.length ts) ∧ Hid (Below w.heap.size w wr)) (fun iv _ => ts.length + 1 - (intOf iv).toNat)
  case atStart => exact ⟨0, rfl, by omega, (fun i hi => by omega), HI, Below.refl _ _⟩
  case round =>
    obtain ⟨j, rfl, hj, HA, HT, HB⟩ := hrel
    clear HI
    by_cases hlt : (j : Int) + 1 < (ts.length : Int)
    · obtain ⟨b, off, rfl, hbl, c0⟩ := HT.out.2 j (by omega)
      obtain ⟨b', off', he, _, c1⟩ := HT.out.2 (j + 1) (by omega)
      simp only [Option.some.injEq, Addr.mk.injEq, and_true] at he
      obtain ⟨rfl, rfl⟩ := he
      obtain ⟨x, hx⟩ : ∃ x, ts.getD j [] = x := ⟨_, rfl⟩
      obtain ⟨y, hy⟩ : ∃ y, ts.getD (j + 1) [] = y := ⟨_, rfl⟩
      rw [hx] at c0
      rw [hy] at c1
      rcases hle : leT y x with _ | _
      · have HA2 : Hid (∀ i, i < j + 1 → leT (ts.getD (i + 1) []) (ts.getD i []) = false) := fun i hi => by
          rcases Nat.lt_or_ge i j with h | h
          · exact HA.out i h
          · obtain rfl : i = j := by omega
            rw [hx, hy]; exact hle
        have HT2 : Hid (TextsIn wr (some ⟨b, off, none⟩) ts.length ts) := HT.out
        unfold leT at hle
        clear HA HT hx hy
        go_wp2_with fail
        go_quiet (fail)
        go_wp2
        go_roundw
        case rel => exact ⟨j + 1, by go_num, by omega, HA2, HT2, HB.out.trans ⟨rfl, rfl, rfl, Nat.le_refl _, fun _ _ => rfl⟩⟩
        case measure => simp [intOf]; omega
      · have HR : Hid (riseB ts = false) := riseB_no (j := j) (by omega) (by rw [hx, hy]; exact hle)
        unfold leT at hle
        clear HA HT hx hy
        go_wp2_with fail
        go_quiet (fail)
        go_wp2
        go_ret
        exact ⟨by rw [HR.out]; rfl, HB.out.trans ⟨rfl, rfl, rfl, Nat.le_refl _, fun _ _ => rfl⟩⟩
    · have HR : Hid (riseB ts = true) := riseB_yes (j := j) (by omega) HA.out
      go_wp2
      go_ret
      exact ⟨by rw [HR.out]; rfl, HB.out⟩

set_option maxHeartbeats 2000000 in
set_option maxRecDepth 100000 in
theorem specImports (a : Option Addr) (len cap : Nat) (ts : List (List UInt8)) (w : World) (hin : TextsIn w a len ts) (hlen : len ≤ 1048576) (hs : ∀ i, (ts.getD i []).length ≤ 1048576) :
    Calls Tryz.prog 69 #[.slice a len cap] w fun e w' => e = .returned (.bool (importsB ts)) ∧ Below w.heap.size w w' := by
  obtain rfl : ts.length = len := hin.1
  have HI : Hid (TextsIn w a ts.length ts) := hin
  have HS : Hid (∀ i, (ts.getD i []).length ≤ 1048576) := hs
  clear hin hs
  go_enter Tryz.func69, Tryz.ntmps69
  go_wp2
  go_loopw [3] (fun iv wr => ∃ j : Nat, iv = .int .i64 (j : Int) ∧ j ≤ ts.length ∧ Hid (∀ i, i < j → nameB (ts.getD i []) = true) ∧ Hid (TextsIn wr a ts.length ts) ∧ Hid (Below w.heap.size w wr)) (fun iv _ => ts.length - (intOf iv).toNat)
  case atStart => exact ⟨0, rfl, by omega, (fun i hi => by omega), HI, Below.refl _ _⟩
  case round =>
    obtain ⟨j, rfl, hj, HA, HT, HB⟩ := hrel
    clear HI
    by_cases hlt : (j : Int) < (ts.length : Int)
    · obtain ⟨b, off, rfl, hbl, c0⟩ := HT.out.2 j (by omega)
      have hxl := HS.out j
      obtain ⟨x, hx⟩ : ∃ x, ts.getD j [] = x := ⟨_, rfl⟩
      rw [hx] at c0 hxl
      have hC : Hid (_) := specNameOk x wr hxl
      rcases hnb : nameB x with _ | _
      · have HR : Hid (importsB ts = false) := importsB_no (j := j) (by omega) (by rw [hx]; exact hnb)
        rw [hnb] at hC
        clear HA HT hx hnb
        go_wp2_with (go_at_call 68; refine Calls.mono hC.out ?_; rintro e w1 ⟨rfl, rfl⟩)
        go_ret
        exact ⟨by rw [HR.out]; rfl, HB.out⟩
      · have HA2 : Hid (∀ i, i < j + 1 → nameB (ts.getD i []) = true) := fun i hi => by
          rcases Nat.lt_or_ge i j with h | h
          · exact HA.out i h
          · obtain rfl : i = j := by omega
            rw [hx]; exact hnb
        rw [hnb] at hC
        clear HA hx hnb
        go_wp2_with (go_at_call 68; refine Calls.mono hC.out ?_; rintro e w1 ⟨rfl, rfl⟩)
        go_roundw
        case rel => exact ⟨j + 1, by go_num, by omega, HA2, HT, HB⟩
        case measure => simp [intOf]; omega
    · have hall := importsB_all (l := ts) (fun i hi => HA.out i (by omega))
      by_cases h6 : (ts.length : Int) ≤ 6
      · have HR : Hid (importsB ts = riseB ts) := by
          exact (by rw [hall, decide_eq_true (show ts.length ≤ 6 by omega)]; rfl : importsB ts = riseB ts)
        have hC : Hid (_) := specRise a ts.length cap ts wr HT.out hlen
        clear hall HA HT
        go_wp2_with (go_at_call 104; refine Calls.mono hC.out ?_; rintro e w1 ⟨rfl, hb1⟩)
        go_ret
        exact ⟨by rw [HR.out]; rfl, HB.out.trans (hb1.mono HB.out.size)⟩
      · have HR : Hid (importsB ts = false) := by
          exact (by rw [hall, decide_eq_false (show ¬ ts.length ≤ 6 by omega)]; rfl : importsB ts = false)
        clear hall HA HT
        go_wp2
        go_ret
        exact ⟨by rw [HR.out]; rfl, HB.out⟩

/-- A function, as a value. -/
def FnVal (f : Fn) (ta : Option Addr) (tl tc : Nat) : Value := .agg #[.string ⟨f.1.toArray⟩, .int .i64 f.2.1, .slice ta tl tc]

end Go.Proofs.YtiekcenknniniaaGreatDoor

/-! The contract of the specification's l1Has. -/
namespace Go.Proofs.YtiekcenknniniaaGreatDoor
open Go.RowKit

theorem mem_take_step {ts : List (List UInt8)} {s : List UInt8} {k : Nat} (h : ∀ i, i < k → ts.getD i [] ≠ s) (hk : ts.length ≤ k) : ¬ s ∈ ts := fun hm => by
  obtain ⟨i, hi, rfl⟩ := List.mem_iff_getElem.1 hm
  exact h i (by omega) (by simp [List.getD, hi])
theorem getD_mem8 {ts : List (List UInt8)} {k : Nat} (hk : k < ts.length) : ts.getD k [] ∈ ts := by
  rw [List.getD_eq_getElem?_getD, List.getElem?_eq_getElem hk]; exact List.getElem_mem hk

set_option maxHeartbeats 1000000 in
set_option maxRecDepth 100000 in
theorem specHas (a : Option Addr) (len cap : Nat) (ts : List (List UInt8)) (s : List UInt8) (w : World) (hin : TextsIn w a len ts) (hlen : len ≤ 4194304) :
    Calls Tryz.prog 72 #[.slice a len cap, .string ⟨s.toArray⟩] w fun e w' => e = .returned (.bool (decide (s ∈ ts))) ∧ w' = w := by
  obtain rfl : ts.length = len := hin.1
  have HI : Hid (TextsIn w a ts.length ts) := hin
  clear hin
  go_enter Tryz.func72, Tryz.ntmps72
  go_wp2
  go_loopw [5] (fun iv wr => ∃ k : Nat, iv = .int .i64 (k : Int) ∧ k ≤ ts.length ∧ Hid (∀ i, i < k → ts.getD i [] ≠ s) ∧ wr = w) (fun iv _ => ts.length - (intOf iv).toNat)
  case atStart => exact ⟨0, rfl, by omega, (fun i hi => by omega), rfl⟩
  case round =>
    obtain ⟨k, rfl, hk, HA, rfl⟩ := hrel
    by_cases hlt : (k : Int) < (ts.length : Int)
    · have hk2 : k < ts.length := by omega
      obtain ⟨b, off, rfl, hbl, c0⟩ := HI.out.2 k hk2
      have hmem := getD_mem8 hk2
      obtain ⟨x, hx⟩ : ∃ x, ts.getD k [] = x := ⟨_, rfl⟩
      rw [hx] at c0 hmem
      by_cases hxs : x = s
      · subst hxs
        have HR : Hid (decide (x ∈ ts) = true) := decide_eq_true hmem
        have hself : (x == x) = true := by simp
        clear HA hx hmem
        go_wp2
        go_ret
        exact ⟨by rw [HR.out]; rfl, rfl⟩
      · have HA2 : Hid (∀ i, i < k + 1 → ts.getD i [] ≠ s) := fun i hi => by
          rcases Nat.lt_or_ge i k with h | h
          · exact HA.out i h
          · obtain rfl : i = k := by omega
            rw [hx]; exact hxs
        have hne : (x == s) = false := by rw [beq_eq_false_iff_ne]; exact hxs
        clear HA hx hmem
        go_wp2
        go_roundw
        case rel => exact ⟨k + 1, by go_num, by omega, HA2, trivial⟩
        case measure => simp [intOf]; omega
    · have HR : Hid (decide (s ∈ ts) = false) := decide_eq_false (mem_take_step HA.out (by omega))
      go_wp2
      go_ret
      exact ⟨by rw [HR.out]; rfl, rfl⟩

end Go.Proofs.YtiekcenknniniaaGreatDoor
