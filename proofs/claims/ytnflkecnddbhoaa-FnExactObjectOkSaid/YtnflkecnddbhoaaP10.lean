/-
  Parts of one proof, one behind the other: Math14, Math14R, Math14S, TreeS4, TreeS5.
-/
import Derived.Test.YtnflkecnddbhoaaP9
import Derived.Test.YtnflkecnddbhoaaP4
import Derived.Deep.RegionWith

/-! Plain facts of chapter 14: images, shown and read. -/
namespace Go.Proofs.Ytnflkecnddbhoaa
open Go.RowKit

abbrev Rt := List UInt8 × Int × List In13
def rt0 : Rt := ([], 0, [])
def at14Go (s : List UInt8) : List Rt → Nat → Int
  | [], _ => -1
  | r :: rs, k => if r.1 = s then (k : Int) else at14Go s rs (k + 1)
def at14 (rs : List Rt) (s : List UInt8) : Int := at14Go s rs 0
theorem at14Go_drop {rs : List Rt} {k : Nat} (hk : k < rs.length) (s : List UInt8) : at14Go s (rs.drop k) k = if (rs.getD k rt0).1 = s then (k : Int) else at14Go s (rs.drop (k + 1)) (k + 1) := by
  rw [List.drop_eq_getElem_cons hk, at14Go]
  have hg : rs.getD k rt0 = rs[k] := by simp [List.getD, hk]
  rw [hg]
theorem at14Go_bd (s : List UInt8) : ∀ (rs : List Rt) (k : Nat), at14Go s rs k = -1 ∨ ((k : Int) ≤ at14Go s rs k ∧ at14Go s rs k < k + rs.length)
  | [], _ => Or.inl rfl
  | r :: rs, k => by
    rw [at14Go]
    split
    · refine Or.inr ⟨Int.le_refl _, ?_⟩
      simp only [List.length_cons]; omega
    · rcases at14Go_bd s rs (k + 1) with h | h
      · exact Or.inl h
      · refine Or.inr ⟨by omega, ?_⟩
        simp only [List.length_cons]; omega
theorem at14_bd (rs : List Rt) (s : List UInt8) : -1 ≤ at14 rs s ∧ at14 rs s < rs.length := by
  unfold at14
  rcases at14Go_bd s rs 0 with h | h
  · rw [h]; omega
  · omega
/-- Is an argument asked that is there? -/
def argB (n : Int) (i : In13) : Bool := !(decide (i.1 = 2) && decide (n ≤ i.2.2.1))
def rtB (r : Rt) : Bool := (name13 r.1 && (inB r.2.1 0 3 && codeB r.2.2)) && r.2.2.all (argB r.2.1)
def clsB (rs : List Rt) (i : In13) : Bool := decide (i.1 ≠ 9) || (decide (0 ≤ at14 rs i.2.2.2.2) && decide ((rs.getD (at14 rs i.2.2.2.2).toNat rt0).2.1 = i.2.2.1))
def oneB (rs : List Rt) (j : Nat) : Prop := rtB (rs.getD j rt0) = true ∧ (0 < j → leT (rs.getD j rt0).1 (rs.getD (j - 1) rt0).1 = false) ∧ (rs.getD j rt0).2.2.all (clsB rs) = true
instance (rs : List Rt) (j : Nat) : Decidable (oneB rs j) := by unfold oneB; infer_instance
def imageB (rs : List Rt) : Bool := decide ((∀ j, j < rs.length → oneB rs j) ∧ (1 ≤ rs.length ∧ rs.length ≤ 64))
theorem image_no {rs : List Rt} {j : Nat} (hj : j < rs.length) (h : ¬ oneB rs j) : imageB rs = false := decide_eq_false (fun e => h (e.1 j hj))
theorem image_all {rs : List Rt} (h : ∀ j, j < rs.length → oneB rs j) : imageB rs = inB (rs.length : Int) 1 64 := by
  unfold imageB inB
  refine decide_eq_decide.2 ⟨fun e => by omega, fun e => ⟨h, by omega⟩⟩

def kwRt : List UInt8 := [114, 111, 117, 116, 105, 110, 101]
def nmL (s : List UInt8) : List UInt8 := if s = [] then [45] else s
def insLn (i : In13) : List UInt8 := intL i.1 ++ [32] ++ intL i.2.1 ++ [32] ++ intL i.2.2.1 ++ [32] ++ intL i.2.2.2.1 ++ [32] ++ nmL i.2.2.2.2
def rtLn (r : Rt) : List UInt8 := kwRt ++ [32] ++ r.1 ++ [32] ++ intL r.2.1 ++ [32] ++ intL (r.2.2.length : Int)
def rtLines (r : Rt) : List (List UInt8) := rtLn r :: r.2.2.map insLn
def imLines (rs : List Rt) : List (List UInt8) := rs.flatMap rtLines
def showI (rs : List Rt) : List UInt8 := termJ (imLines rs)
def showIm (rs : List Rt) : List UInt8 := if imageB rs = true then showI rs else []

/-- One more instruction of the last routine. -/
def addI (out : List Rt) (x : In13) : List Rt := out.dropLast ++ [((out.getLastD rt0).1, (out.getLastD rt0).2.1, (out.getLastD rt0).2.2 ++ [x])]
theorem addI_snoc (out : List Rt) (n : List UInt8) (a : Int) (c : List In13) (x : In13) : addI (out ++ [(n, a, c)]) x = out ++ [(n, a, c ++ [x])] := by
  have hl : (out ++ [(n, a, c)]).getLastD rt0 = (n, a, c) := by rw [List.getLastD_eq_getLast?]; simp
  unfold addI
  rw [hl, List.dropLast_concat]
noncomputable def insRd (ws : List (List UInt8)) : In13 := (readV (ws.getD 0 []), readV (ws.getD 1 []), readV (ws.getD 2 []), readV (ws.getD 3 []), if ws.getD 4 [] = [45] then [] else ws.getD 4 [])
noncomputable def readI : List Rt → List (List UInt8) → List Rt
  | out, [] => out
  | out, l :: ls =>
    if (splitL 32 l).length = 4 ∧ (splitL 32 l).getD 0 [] = kwRt then readI (out ++ [((splitL 32 l).getD 1 [], readV ((splitL 32 l).getD 2 []), [])]) ls
    else if (splitL 32 l).length ≠ 5 ∨ out = [] then []
    else readI (addI out (insRd (splitL 32 l))) ls
noncomputable def readIB (s : List UInt8) : Bool := decide (s.length ≤ 400000) && (imageB (readI [] (linesL s)) && (showI (readI [] (linesL s)) == s))
noncomputable def readIV (s : List UInt8) : List Rt := if readIB s = true then readI [] (linesL s) else []

theorem name13_parts {s : List UInt8} (h : name13 s = true) : ∃ p f, nameB p = true ∧ nameB f = true ∧ s = p ++ 46 :: f := by
  unfold name13 at h
  rw [Bool.and_eq_true, Bool.and_eq_true, beq_iff_eq] at h
  obtain ⟨⟨h1, h2⟩, h3⟩ := h
  have hj := joinBy_split 46 s []
  rw [List.nil_append] at hj
  match hs : splitL 46 s, h1 with
  | [p, f], _ =>
    rw [hs] at h2 h3
    refine ⟨p, f, h2, h3, ?_⟩
    rw [← hj]
    have e : splitGo 46 [] s = [p, f] := hs
    rw [e]
    simp [joinBy]
theorem name13_len {s : List UInt8} (h : name13 s = true) : 3 ≤ s.length ∧ s.length ≤ 17 := by
  obtain ⟨p, f, hp, hf, rfl⟩ := name13_parts h
  have h1 := (name_letters hp).1
  have h2 := (name_letters hf).1
  simp only [List.length_append, List.length_cons]
  omega
theorem name13_bytes {s : List UInt8} (h : name13 s = true) : ∀ c ∈ s, c.toNat = 46 ∨ (97 ≤ c.toNat ∧ c.toNat ≤ 122) := by
  obtain ⟨p, f, hp, hf, rfl⟩ := name13_parts h
  intro c hc
  rcases List.mem_append.1 hc with e | e
  · exact Or.inr ((name_letters hp).2 c e)
  · rcases List.mem_cons.1 e with e | e
    · rw [e]; exact Or.inl rfl
    · exact Or.inr ((name_letters hf).2 c e)
theorem nmL_bytes {i : In13} (h : insP i) : ∀ c ∈ nmL i.2.2.2.2, c.toNat = 45 ∨ c.toNat = 46 ∨ (97 ≤ c.toNat ∧ c.toNat ≤ 122) := by
  intro c hc
  unfold nmL at hc
  split at hc
  · rw [List.mem_singleton.1 hc]; exact Or.inl rfl
  · rename_i hne
    have h9 : i.1 = 9 := by rcases h.1 with e | e; exact e; exact absurd e hne
    have hn : name13 i.2.2.2.2 = true := by
      rcases h.2.2 with e | e | e | e | e | e | e
      · omega
      · omega
      · omega
      · omega
      · omega
      · exact e.2.2.2.2
      · omega
    rcases name13_bytes hn c hc with e | e
    · exact Or.inr (Or.inl e)
    · exact Or.inr (Or.inr e)
theorem insP_words {i : In13} (h : insP i) : (-2147483648 ≤ i.1 ∧ i.1 ≤ 2147483647) ∧ (-2147483648 ≤ i.2.1 ∧ i.2.1 ≤ 2147483647) ∧ (-2147483648 ≤ i.2.2.1 ∧ i.2.2.1 ≤ 2147483647) ∧ (-2147483648 ≤ i.2.2.2.1 ∧ i.2.2.2.1 ≤ 2147483647) := by
  have h2 := h.2.1
  have h3 := h.2.2
  omega
theorem insLn_split {i : In13} (h : insP i) : splitL 32 (insLn i) = [intL i.1, intL i.2.1, intL i.2.2.1, intL i.2.2.2.1, nmL i.2.2.2.2] := by
  obtain ⟨w0, w1, w2, w3⟩ := insP_words h
  have hj : insLn i = joinBy 32 [intL i.1, intL i.2.1, intL i.2.2.1, intL i.2.2.2.1, nmL i.2.2.2.2] := by simp [insLn, joinBy]
  rw [hj]
  refine split_join 32 _ (by simp) ?_
  intro x hx c hc e
  simp only [List.mem_cons, List.not_mem_nil, or_false] at hx
  have hi : ∀ a : Int, -2147483648 ≤ a ∧ a ≤ 2147483647 → c ∈ intL a → False := fun a ha hm => by
    have := intL_bytes a ha.1 ha.2 c hm
    rw [e] at this
    simp at this
  rcases hx with rfl | rfl | rfl | rfl | rfl
  · exact hi _ w0 hc
  · exact hi _ w1 hc
  · exact hi _ w2 hc
  · exact hi _ w3 hc
  · have := nmL_bytes h c hc
    rw [e] at this
    simp at this
theorem insRd_of {i : In13} (h : insP i) : insRd [intL i.1, intL i.2.1, intL i.2.2.1, intL i.2.2.2.1, nmL i.2.2.2.2] = i := by
  obtain ⟨w0, w1, w2, w3⟩ := insP_words h
  have hn : (if nmL i.2.2.2.2 = [45] then [] else nmL i.2.2.2.2) = i.2.2.2.2 := by
    unfold nmL
    by_cases e : i.2.2.2.2 = []
    · rw [if_pos e, if_pos rfl, e]
    · rw [if_neg e]
      refine if_neg (fun e2 => ?_)
      have := nmL_bytes h 45 (by unfold nmL; rw [if_neg e, e2]; simp)
      have h9 : i.1 = 9 := by rcases h.1 with e3 | e3; exact e3; exact absurd e3 e
      have hn : name13 i.2.2.2.2 = true := by
        rcases h.2.2 with e | e | e | e | e | e | e
        · omega
        · omega
        · omega
        · omega
        · omega
        · exact e.2.2.2.2
        · omega
      have := (name13_len hn).1
      rw [e2] at this
      simp at this
  unfold insRd
  simp only [List.getD_cons_zero, List.getD_cons_succ]
  rw [hn, (read_of_int _ w0.1 w0.2).2, (read_of_int _ w1.1 w1.2).2, (read_of_int _ w2.1 w2.2).2, (read_of_int _ w3.1 w3.2).2]
theorem codeB_ins {c : List In13} (h : codeB c = true) : ∀ i ∈ c, insP i := fun i hi => ((of_decide_eq_true h).2.1 i hi).1
theorem codeB_len {c : List In13} (h : codeB c = true) : 1 ≤ c.length ∧ c.length ≤ 200 := (of_decide_eq_true h).1
theorem rtB_parts {r : Rt} (h : rtB r = true) : name13 r.1 = true ∧ (0 ≤ r.2.1 ∧ r.2.1 ≤ 3) ∧ codeB r.2.2 = true ∧ r.2.2.all (argB r.2.1) = true := by
  unfold rtB at h
  simp only [Bool.and_eq_true] at h
  exact ⟨h.1.1, by have := h.1.2.1; unfold inB at this; exact of_decide_eq_true this, h.1.2.2, h.2⟩
theorem rtLn_split {r : Rt} (h : rtB r = true) : splitL 32 (rtLn r) = [kwRt, r.1, intL r.2.1, intL (r.2.2.length : Int)] := by
  obtain ⟨hn, ha, hc, _⟩ := rtB_parts h
  have hl := codeB_len hc
  have hj : rtLn r = joinBy 32 [kwRt, r.1, intL r.2.1, intL (r.2.2.length : Int)] := by simp [rtLn, joinBy]
  rw [hj]
  refine split_join 32 _ (by simp) ?_
  intro x hx c hc2 e
  simp only [List.mem_cons, List.not_mem_nil, or_false] at hx
  rcases hx with rfl | rfl | rfl | rfl
  · rw [e] at hc2; simp [kwRt] at hc2
  · have := name13_bytes hn c hc2
    rw [e] at this
    simp at this
  · have := intL_bytes _ (by omega) (by omega) c hc2
    rw [e] at this
    simp at this
  · have := intL_bytes _ (by omega) (by omega) c hc2
    rw [e] at this
    simp at this
theorem readI_ins (out : List Rt) (n : List UInt8) (a : Int) (ls : List (List UInt8)) : ∀ (c d : List In13), (∀ i ∈ d, insP i) → readI (out ++ [(n, a, c)]) (d.map insLn ++ ls) = readI (out ++ [(n, a, c ++ d)]) ls
  | c, [], _ => by simp
  | c, i :: d, h => by
    have hi := h i (by simp)
    rw [List.map_cons, List.cons_append, readI, insLn_split hi]
    rw [if_neg (by simp), if_neg (by simp), insRd_of hi, addI_snoc, readI_ins out n a ls (c ++ [i]) d (fun j hj => h j (by simp [hj]))]
    simp
theorem readI_rts (ls : List (List UInt8)) : ∀ (rs out : List Rt), (∀ r ∈ rs, rtB r = true) → readI out (imLines rs ++ ls) = readI (out ++ rs) ls
  | [], out, _ => by simp [imLines]
  | r :: rs, out, h => by
    obtain ⟨n, a, c⟩ := r
    have hr := h (n, a, c) (by simp)
    have hc := (rtB_parts hr).2.2.1
    have ha := (rtB_parts hr).2.1
    have e : imLines ((n, a, c) :: rs) ++ ls = rtLn (n, a, c) :: (c.map insLn ++ (imLines rs ++ ls)) := by simp [imLines, rtLines]
    rw [e, readI, rtLn_split hr, if_pos (by simp)]
    simp only [List.getD_cons_zero, List.getD_cons_succ]
    simp only at ha
    rw [(read_of_int a (by omega) (by omega)).2, readI_ins out n a _ [] c (codeB_ins hc), List.nil_append, readI_rts ls rs _ (fun q hq => h q (by simp [hq]))]
    simp
theorem image_rts {rs : List Rt} (h : imageB rs = true) : ∀ r ∈ rs, rtB r = true := fun r hr => by
  obtain ⟨j, hj, rfl⟩ := List.getElem_of_mem hr
  have := ((of_decide_eq_true h).1 j hj).1
  simpa [List.getD, hj] using this
theorem read_image {rs : List Rt} (h : imageB rs = true) : readI [] (imLines rs) = rs := by
  have := readI_rts [] rs [] (image_rts h)
  simpa [readI] using this

end Go.Proofs.Ytnflkecnddbhoaa

/-! Plain facts of chapter 14: an image is read from what it is shown as; what is read is shown so. -/
namespace Go.Proofs.Ytnflkecnddbhoaa
open Go.RowKit

theorem intL_to {a : Int} (k : Nat) (h0 : 0 ≤ a) (h1 : a < 10 ^ (k + 1)) : (intL a).length ≤ k + 1 := by
  unfold intL
  rw [if_neg (by omega)]
  exact digL_len k a.natAbs (by
    have e : ((a.natAbs : Nat) : Int) = a := by omega
    have h2 : ((a.natAbs : Nat) : Int) < ((10 ^ (k + 1) : Nat) : Int) := by rw [e]; push_cast; exact h1
    omega)
theorem intL_w11 {a : Int} (h0 : -2147483648 ≤ a) (h1 : a ≤ 2147483647) : (intL a).length ≤ 11 := by
  unfold intL
  have hd := digL_len 9 a.natAbs (by omega)
  split
  · simp only [List.length_cons]; omega
  · omega
theorem insLn_len {i : In13} (h : insP i) : (insLn i).length ≤ 28 := by
  obtain ⟨k, r, a, b, s⟩ := i
  have hk : 1 ≤ k ∧ k ≤ 10 := by have := h.2.2; simp only at this; omega
  have hr : 0 ≤ r ∧ r ≤ 63 := by have := h.2.2; simp only at this; omega
  have hb : 0 ≤ b ∧ b ≤ 63 := by have h1 := h.2.1; have h2 := h.2.2; simp only at h1 h2; omega
  have lk := intL_to (a := k) 1 (by omega) (by omega)
  have lr := intL_to (a := r) 1 (by omega) (by omega)
  have lb := intL_to (a := b) 1 (by omega) (by omega)
  have la : (intL a).length + (nmL s).length ≤ 18 := by
    by_cases h9 : k = 9
    · have h2 := h.2.2
      simp only at h2
      have hn : (0 ≤ a ∧ a ≤ 3) ∧ name13 s = true := by
        rcases h2 with e | e | e | e | e | e | e
        · omega
        · omega
        · omega
        · omega
        · omega
        · exact ⟨e.2.2.1, e.2.2.2.2⟩
        · omega
      have l1 := intL_to (a := a) 0 (by omega) (by omega)
      have l2 := name13_len hn.2
      unfold nmL
      split
      · simp; omega
      · omega
    · have hs : s = [] := by
        have := h.1
        simp only at this
        rcases this with e | e
        · exact absurd e h9
        · exact e
      have l1 := intL_w11 (insP_words h).2.2.1.1 (insP_words h).2.2.1.2
      simp only at l1
      unfold nmL
      rw [if_pos hs]
      simp
      omega
  unfold insLn
  simp only [List.length_append, List.length_singleton]
  omega
theorem rtLn_len {r : Rt} (h : rtB r = true) : (rtLn r).length ≤ 32 := by
  obtain ⟨hn, ha, hc, _⟩ := rtB_parts h
  have l1 := name13_len hn
  have l2 := intL_to (a := r.2.1) 0 (by omega) (by omega)
  have hl := codeB_len hc
  have l3 := intL_to (a := (r.2.2.length : Int)) 2 (by omega) (by omega)
  unfold rtLn kwRt
  simp only [List.length_append, List.length_cons, List.length_nil]
  omega
theorem termJ_ins : ∀ (c : List In13), (∀ i ∈ c, insP i) → (termJ (c.map insLn)).length ≤ c.length * 29
  | [], _ => by simp [termJ]
  | i :: c, h => by
    have ih := termJ_ins c (fun j hj => h j (by simp [hj]))
    have hi := insLn_len (h i (by simp))
    have e : termJ ((i :: c).map insLn) = insLn i ++ [10] ++ termJ (c.map insLn) := by simp [termJ]
    rw [e]
    simp only [List.length_append, List.length_cons, List.length_nil]
    omega
theorem showI_len' : ∀ (rs : List Rt), (∀ r ∈ rs, rtB r = true) → (termJ (imLines rs)).length ≤ rs.length * 5840
  | [], _ => by simp [termJ, imLines]
  | r :: rs, h => by
    have ih := showI_len' rs (fun j hj => h j (by simp [hj]))
    have hr := h r (by simp)
    have h1 := rtLn_len hr
    have hc := (rtB_parts hr).2.2.1
    have h2 := termJ_ins r.2.2 (codeB_ins hc)
    have hl := codeB_len hc
    have e : termJ (imLines (r :: rs)) = rtLn r ++ [10] ++ termJ (r.2.2.map insLn) ++ termJ (imLines rs) := by simp [termJ, imLines, rtLines]
    rw [e]
    simp only [List.length_append, List.length_cons, List.length_nil]
    omega
theorem showI_len {rs : List Rt} (h : imageB rs = true) : (showI rs).length ≤ 400000 := by
  have h1 := showI_len' rs (image_rts h)
  have h2 := (of_decide_eq_true h).2
  unfold showI
  omega
theorem rts_no10 {rs : List Rt} (h : ∀ r ∈ rs, rtB r = true) : ∀ x ∈ imLines rs, ∀ c ∈ x, c ≠ 10 := by
  intro x hx c hc e
  obtain ⟨r, hr, hx2⟩ := List.mem_flatMap.1 hx
  have hrt := h r hr
  obtain ⟨hn, ha, hco, _⟩ := rtB_parts hrt
  have hl := codeB_len hco
  have hint : ∀ a : Int, -2147483648 ≤ a ∧ a ≤ 2147483647 → c ∈ intL a → False := fun a ha hm => by
    have := intL_bytes a ha.1 ha.2 c hm
    rw [e] at this
    simp at this
  unfold rtLines at hx2
  rcases List.mem_cons.1 hx2 with e1 | e1
  · rw [e1] at hc
    unfold rtLn at hc
    simp only [List.mem_append, List.mem_singleton] at hc
    rcases hc with (((((h1 | h1) | h1) | h1) | h1) | h1) | h1
    · rw [e] at h1; simp [kwRt] at h1
    · rw [e] at h1; simp at h1
    · have := name13_bytes hn c h1; rw [e] at this; simp at this
    · rw [e] at h1; simp at h1
    · exact hint _ (by omega) h1
    · rw [e] at h1; simp at h1
    · exact hint _ (by omega) h1
  · obtain ⟨i, hi, rfl⟩ := List.mem_map.1 e1
    have hp := codeB_ins hco i hi
    obtain ⟨w0, w1, w2, w3⟩ := insP_words hp
    unfold insLn at hc
    simp only [List.mem_append, List.mem_singleton] at hc
    rcases hc with (((((((h1 | h1) | h1) | h1) | h1) | h1) | h1) | h1) | h1
    · exact hint _ w0 h1
    · rw [e] at h1; simp at h1
    · exact hint _ w1 h1
    · rw [e] at h1; simp at h1
    · exact hint _ w2 h1
    · rw [e] at h1; simp at h1
    · exact hint _ w3 h1
    · rw [e] at h1; simp at h1
    · have := nmL_bytes hp c h1; rw [e] at this; simp at this
theorem lines14_no10 {rs : List Rt} (h : imageB rs = true) : ∀ x ∈ imLines rs, ∀ c ∈ x, c ≠ 10 := rts_no10 (image_rts h)
theorem image_back {rs : List Rt} (h : imageB rs = true) : showIm rs ≠ [] ∧ readIB (showIm rs) = true ∧ readIV (showIm rs) = rs := by
  have hs : showIm rs = showI rs := by unfold showIm; rw [if_pos h]
  have hl : linesL (showI rs) = imLines rs := lines_term _ (lines14_no10 h)
  have hr : readI [] (linesL (showI rs)) = rs := by rw [hl]; exact read_image h
  have hb : readIB (showI rs) = true := by
    unfold readIB
    rw [hr, decide_eq_true (showI_len h), h]
    simp
  refine ⟨?_, by rw [hs]; exact hb, by rw [hs]; unfold readIV; rw [if_pos hb, hr]⟩
  rw [hs]
  have h1 := (of_decide_eq_true h).2.1
  intro e
  cases rs with
  | nil => simp at h1
  | cons r rs => simp [showI, imLines, rtLines, termJ] at e
theorem image_not {rs : List Rt} (h : imageB rs = false) : showIm rs = [] := by unfold showIm; rw [if_neg (by rw [h]; simp)]
theorem read_iv (s : List UInt8) : (readIB s = true ∧ imageB (readIV s) = true ∧ showIm (readIV s) = s) ∨ (readIB s = false ∧ readIV s = []) := by
  rcases h : readIB s with _ | _
  · exact Or.inr ⟨rfl, by unfold readIV; rw [if_neg (by rw [h]; simp)]⟩
  · have hv : readIV s = readI [] (linesL s) := by unfold readIV; rw [if_pos h]
    unfold readIB at h
    simp only [Bool.and_eq_true, beq_iff_eq] at h
    rw [hv]
    exact Or.inl ⟨rfl, h.2.1, by unfold showIm; rw [if_pos h.2.1]; exact h.2.2⟩

end Go.Proofs.Ytnflkecnddbhoaa

/-! Plain facts of chapter 14: how an image runs. -/
namespace Go.Proofs.Ytnflkecnddbhoaa
open Go.RowKit

def row14 : List Int := List.replicate 64 0
inductive St14
  | go (row : List Int) (p : Int)
  | call (k : Nat) (xs : List Int) (r : Nat)
  | stop (v c : Int)
/-- One instruction. -/
def step14 (rs : List Rt) (k : Nat) (xs row : List Int) (p : Int) : St14 :=
  let i := (rs.getD k rt0).2.2.getD p.toNat in0
  if i.1 = 1 then .go (row.set i.2.1.toNat i.2.2.1) (p + 1)
  else if i.1 = 2 then .go (row.set i.2.1.toNat (xs.getD i.2.2.1.toNat 0)) (p + 1)
  else if i.1 = 7 then .go row (if row.getD i.2.1.toNat 0 = 0 then i.2.2.1 else p + 1)
  else if i.1 = 8 then .go row i.2.2.1
  else if i.1 = 9 then .call (at14 rs i.2.2.2.2).toNat ((row.drop i.2.1.toNat).take i.2.2.1.toNat) i.2.1.toNat
  else if i.1 = 10 then .stop (row.getD i.2.1.toNat 0) 0
  else if doneB i.1 (row.getD i.2.2.1.toNat 0) (row.getD i.2.2.2.1.toNat 0) = true then .go (row.set i.2.1.toNat (doneV i.1 (row.getD i.2.2.1.toNat 0) (row.getD i.2.2.2.1.toNat 0))) (p + 1)
  else .stop 0 1
/-- A run: the word, why it stopped, the fuel that is left. -/
def run14 (rs : List Rt) : Nat → Nat → Nat → List Int → List Int → Int → Int × Int × Nat
  | 0, _, _, _, _, _ => (0, 2, 0)
  | _ + 1, 0, _, _, _, _ => (0, 2, 0)
  | d + 1, f + 1, k, xs, row, p =>
    match step14 rs k xs row p with
    | .go row2 p2 => run14 rs d f k xs row2 p2
    | .stop v c => (v, c, f)
    | .call k2 xs2 r => if (run14 rs d f k2 xs2 row14 0).2.1 = 0 then run14 rs d (run14 rs d f k2 xs2 row14 0).2.2 k xs (row.set r (run14 rs d f k2 xs2 row14 0).1) (p + 1) else (0, (run14 rs d f k2 xs2 row14 0).2.1, (run14 rs d f k2 xs2 row14 0).2.2)

theorem run14_left (rs : List Rt) : ∀ (d f k : Nat) (xs row : List Int) (p : Int), (run14 rs d f k xs row p).2.2 ≤ f
  | 0, _, _, _, _, _ => Nat.zero_le _
  | _ + 1, 0, _, _, _, _ => Nat.zero_le _
  | d + 1, f + 1, k, xs, row, p => by
    rw [run14]
    cases step14 rs k xs row p with
    | go row2 p2 => exact Nat.le_trans (run14_left rs d f k xs row2 p2) (Nat.le_succ f)
    | stop v c => exact Nat.le_succ f
    | call k2 xs2 r =>
      simp only
      have h1 := run14_left rs d f k2 xs2 row14 0
      split
      · exact Nat.le_trans (run14_left rs d _ k xs _ _) (Nat.le_trans h1 (Nat.le_succ f))
      · exact Nat.le_trans h1 (Nat.le_succ f)
/-- How deep it may go does not matter, where it is no less than the fuel. -/
theorem run14_gas (rs : List Rt) : ∀ (d d' f k : Nat) (xs row : List Int) (p : Int), f ≤ d → f ≤ d' → run14 rs d f k xs row p = run14 rs d' f k xs row p
  | 0, d', f, k, xs, row, p, h, _ => by
    obtain rfl : f = 0 := by omega
    cases d' <;> rfl
  | d + 1, 0, f, k, xs, row, p, _, h => by
    obtain rfl : f = 0 := by omega
    rfl
  | d + 1, d' + 1, 0, k, xs, row, p, _, _ => rfl
  | d + 1, d' + 1, f + 1, k, xs, row, p, h, h' => by
    rw [run14, run14]
    cases step14 rs k xs row p with
    | go row2 p2 => exact run14_gas rs d d' f k xs row2 p2 (by omega) (by omega)
    | stop v c => rfl
    | call k2 xs2 r =>
      simp only
      have h1 := run14_gas rs d d' f k2 xs2 row14 0 (by omega) (by omega)
      have hl := run14_left rs d' f k2 xs2 row14 0
      rw [h1]
      split
      · exact run14_gas rs d d' _ k xs _ _ (by omega) (by omega)
      · rfl
/-- With more fuel it is the same, where it came to its end. -/
theorem run14_more (rs : List Rt) (e : Nat) : ∀ (d f k : Nat) (xs row : List Int) (p : Int), f + e ≤ d → (run14 rs d f k xs row p).2.1 ≠ 2 →
    run14 rs d (f + e) k xs row p = ((run14 rs d f k xs row p).1, (run14 rs d f k xs row p).2.1, (run14 rs d f k xs row p).2.2 + e)
  | 0, f, k, xs, row, p, _, hc => absurd rfl hc
  | d + 1, 0, k, xs, row, p, _, hc => absurd rfl hc
  | d + 1, f + 1, k, xs, row, p, h, hc => by
    rw [show f + 1 + e = (f + e) + 1 by omega]
    rw [run14] at hc ⊢
    conv => rhs; rw [run14]
    cases hs : step14 rs k xs row p with
    | go row2 p2 =>
      rw [hs] at hc
      simp only at hc ⊢
      rw [run14_more rs e d f k xs row2 p2 (by omega) hc]
    | stop v c => rfl
    | call k2 xs2 r =>
      rw [hs] at hc
      simp only at hc ⊢
      have hl := run14_left rs d f k2 xs2 row14 0
      by_cases h0 : (run14 rs d f k2 xs2 row14 0).2.1 = 0
      · have h1 := run14_more rs e d f k2 xs2 row14 0 (by omega) (by rw [h0]; decide)
        rw [if_pos h0] at hc
        rw [h1]
        simp only
        rw [if_pos h0, if_pos h0]
        rw [run14_more rs e d _ k xs _ _ (by omega) hc]
      · rw [if_neg h0] at hc
        simp only at hc
        have h1 := run14_more rs e d f k2 xs2 row14 0 (by omega) hc
        rw [h1]
        simp only
        rw [if_neg h0, if_neg h0]
def WordL (xs : List Int) : Prop := ∀ x ∈ xs, -2147483648 ≤ x ∧ x ≤ 2147483647
theorem WordL.at {xs : List Int} (h : WordL xs) (j : Nat) : -2147483648 ≤ xs.getD j 0 ∧ xs.getD j 0 ≤ 2147483647 := by
  rw [List.getD_eq_getElem?_getD]
  rcases Nat.lt_or_ge j xs.length with hj | hj
  · rw [List.getElem?_eq_getElem hj]; exact h _ (List.getElem_mem hj)
  · rw [List.getElem?_eq_none hj]; decide
theorem WordL.set {xs : List Int} (h : WordL xs) (j : Nat) {z : Int} (hz : -2147483648 ≤ z ∧ z ≤ 2147483647) : WordL (xs.set j z) := fun q hq => by
  rcases List.mem_or_eq_of_mem_set hq with e | e
  · exact h q e
  · rw [e]; exact hz
theorem row14_words : WordL row14 := fun x hx => by rw [List.eq_of_mem_replicate hx]; decide

theorem ins_word {rs : List Rt} (h : imageB rs = true) (k p : Nat) : -2147483648 ≤ ((rs.getD k rt0).2.2.getD p in0).2.2.1 ∧ ((rs.getD k rt0).2.2.getD p in0).2.2.1 ≤ 2147483647 := by
  have h0 : -2147483648 ≤ in0.2.2.1 ∧ in0.2.2.1 ≤ 2147483647 := by decide
  by_cases hk : k < rs.length
  · have hr : rtB (rs.getD k rt0) = true := ((of_decide_eq_true h).1 k hk).1
    have hc := (rtB_parts hr).2.2.1
    by_cases hp : p < (rs.getD k rt0).2.2.length
    · have hg : (rs.getD k rt0).2.2.getD p in0 = (rs.getD k rt0).2.2[p] := by rw [List.getD_eq_getElem?_getD, List.getElem?_eq_getElem hp]; rfl
      rw [hg]
      exact (insP_words (codeB_ins hc _ (List.getElem_mem hp))).2.2.1
    · have hg : (rs.getD k rt0).2.2.getD p in0 = in0 := by rw [List.getD_eq_getElem?_getD, List.getElem?_eq_none (by omega)]; rfl
      rw [hg]; exact h0
  · have hg : rs.getD k rt0 = rt0 := by rw [List.getD_eq_getElem?_getD, List.getElem?_eq_none (by omega)]; rfl
    rw [hg]
    exact h0
/-- What one instruction leaves are words. -/
theorem step14_words {rs : List Rt} (h : imageB rs = true) (k : Nat) {xs row : List Int} (hx : WordL xs) (hr : WordL row) (p : Int) :
    match step14 rs k xs row p with
    | .go row2 _ => WordL row2 ∧ row2.length = row.length
    | .call _ xs2 _ => WordL xs2
    | .stop v c => (-2147483648 ≤ v ∧ v ≤ 2147483647) ∧ (c = 0 ∨ c = 1) ∧ (c = 1 → v = 0) := by
  have hw := ins_word h k p.toNat
  unfold step14
  simp only
  generalize (rs.getD k rt0).2.2.getD p.toNat in0 = i at hw
  by_cases h1 : i.1 = 1
  · rw [if_pos h1]; exact ⟨hr.set _ hw, List.length_set⟩
  rw [if_neg h1]
  by_cases h2 : i.1 = 2
  · rw [if_pos h2]; exact ⟨hr.set _ (hx.at _), List.length_set⟩
  rw [if_neg h2]
  by_cases h7 : i.1 = 7
  · rw [if_pos h7]; exact ⟨hr, rfl⟩
  rw [if_neg h7]
  by_cases h8 : i.1 = 8
  · rw [if_pos h8]; exact ⟨hr, rfl⟩
  rw [if_neg h8]
  by_cases h9 : i.1 = 9
  · rw [if_pos h9]; exact fun z hz => hr z (List.mem_of_mem_drop (List.mem_of_mem_take hz))
  rw [if_neg h9]
  by_cases h10 : i.1 = 10
  · rw [if_pos h10]; exact ⟨hr.at _, Or.inl rfl, fun e => by cases e⟩
  rw [if_neg h10]
  split
  · rename_i row2 p2 he
    split at he
    · injection he with e1 e2
      rw [← e1]
      exact ⟨hr.set _ (doneV_bd _ _ _), List.length_set⟩
    · cases he
  · rename_i he
    split at he <;> cases he
  · rename_i v c he
    split at he
    · cases he
    · injection he with e1 e2
      rw [← e1, ← e2]
      exact ⟨by decide, Or.inr rfl, fun _ => rfl⟩
theorem run14_words {rs : List Rt} (h : imageB rs = true) : ∀ (d f k : Nat) (xs row : List Int) (p : Int), WordL xs → WordL row →
    (-2147483648 ≤ (run14 rs d f k xs row p).1 ∧ (run14 rs d f k xs row p).1 ≤ 2147483647) ∧ (0 ≤ (run14 rs d f k xs row p).2.1 ∧ (run14 rs d f k xs row p).2.1 ≤ 2) ∧ ((run14 rs d f k xs row p).2.1 ≠ 0 → (run14 rs d f k xs row p).1 = 0)
  | 0, _, _, _, _, _, _, _ => by simp [run14]
  | _ + 1, 0, _, _, _, _, _, _ => by simp [run14]
  | d + 1, f + 1, k, xs, row, p, hx, hr => by
    have hs := step14_words h k hx hr p
    rw [run14]
    cases he : step14 rs k xs row p with
    | go row2 p2 =>
      rw [he] at hs
      exact run14_words h d f k xs row2 p2 hx hs.1
    | stop v c =>
      rw [he] at hs
      simp only at hs ⊢
      refine ⟨hs.1, by omega, fun e => hs.2.2 (by omega)⟩
    | call k2 xs2 r =>
      rw [he] at hs
      simp only at hs ⊢
      have h1 := run14_words h d f k2 xs2 row14 0 hs row14_words
      split
      · exact run14_words h d _ k xs _ _ hx (hr.set _ h1.1)
      · exact ⟨by simp only; omega, h1.2.1, fun _ => rfl⟩
/-- What RunImage gives. -/
def runP (rs : List Rt) (nm : List UInt8) (xs : List Int) (fuel : Int) : Prop := imageB rs = true ∧ 0 ≤ at14 rs nm ∧ (xs.length : Int) = (rs.getD (at14 rs nm).toNat rt0).2.1 ∧ (0 ≤ fuel ∧ fuel ≤ 20000) ∧ WordL xs
instance (xs : List Int) : Decidable (WordL xs) := by unfold WordL; infer_instance
instance (rs : List Rt) (nm : List UInt8) (xs : List Int) (fuel : Int) : Decidable (runP rs nm xs fuel) := by unfold runP; infer_instance
def runV (rs : List Rt) (nm : List UInt8) (xs : List Int) (fuel : Int) : Int × Int :=
  if runP rs nm xs fuel then
    (if (run14 rs 20000 fuel.toNat (at14 rs nm).toNat xs row14 0).2.1 = 0 then ((run14 rs 20000 fuel.toNat (at14 rs nm).toNat xs row14 0).1, 0) else (0, (run14 rs 20000 fuel.toNat (at14 rs nm).toNat xs row14 0).2.1))
  else (0, 3)
/-- What FnRuns asks of a run. -/
theorem runs_law (rs : List Rt) (nm : List UInt8) (xs : List Int) (fuel : Int) :
    ((runV rs nm xs fuel).2 ≠ 0 → (runV rs nm xs fuel).1 = 0) ∧ (-2147483648 ≤ (runV rs nm xs fuel).1 ∧ (runV rs nm xs fuel).1 ≤ 2147483647) ∧ (0 ≤ (runV rs nm xs fuel).2 ∧ (runV rs nm xs fuel).2 ≤ 3) ∧
    ((runV rs nm xs fuel).2 ≠ 3 → (runV rs nm xs fuel).2 ≠ 2 → runV rs nm xs 20000 = runV rs nm xs fuel) := by
  by_cases hp : runP rs nm xs fuel
  · have hw := run14_words hp.1 20000 fuel.toNat (at14 rs nm).toNat xs row14 0 hp.2.2.2.2 row14_words
    have hm := run14_more rs (20000 - fuel.toNat) 20000 fuel.toNat (at14 rs nm).toNat xs row14 0 (by have := hp.2.2.2.1; omega)
    have hpm : runP rs nm xs 20000 := ⟨hp.1, hp.2.1, hp.2.2.1, by omega, hp.2.2.2.2⟩
    have hf : fuel.toNat + (20000 - fuel.toNat) = (20000 : Int).toNat := by have := hp.2.2.2.1; omega
    rw [hf] at hm
    unfold runV
    rw [if_pos hp, if_pos hpm]
    generalize hA : run14 rs 20000 fuel.toNat (at14 rs nm).toNat xs row14 0 = A at hw hm
    generalize hB : run14 rs 20000 (20000 : Int).toNat (at14 rs nm).toNat xs row14 0 = C at hm
    by_cases h0 : A.2.1 = 0
    · rw [if_pos h0]
      have h2 := hm (by rw [h0]; decide)
      refine ⟨fun e => absurd rfl e, hw.1, by simp only; omega, fun _ _ => ?_⟩
      rw [h2, if_pos h0]
    · rw [if_neg h0]
      refine ⟨fun _ => rfl, by simp only; omega, by have := hw.2.1; simp only; omega, fun _ e2 => ?_⟩
      have h2 := hm e2
      rw [h2, if_neg h0]
  · unfold runV
    rw [if_neg hp]
    exact ⟨fun _ => rfl, by decide, by decide, fun e => absurd rfl e⟩

end Go.Proofs.Ytnflkecnddbhoaa

/-! The contract of chapter 6's specification: the node of a word. -/
namespace Go.Proofs.Ytnflkecnddbhoaa
open Go.RowKit

theorem part_le (ws : List (List UInt8)) (j : Nat) : (ws.getD j []).length ≤ ws.flatten.length := by
  induction ws generalizing j with
  | nil => simp
  | cons x r ih =>
    cases j with
    | zero => simp
    | succ j => have := ih j; simp only [List.getD_cons_succ, List.flatten_cons, List.length_append]; omega

/-- Four cells of one block are written. -/
theorem four_set (w : World) (b : Nat) (n : Nd) {u0 u1 u2 u3 : Value} (r0 : w.cell? ⟨b, 0, none⟩ = some u0) (r1 : w.cell? ⟨b, 1, none⟩ = some u1) (r2 : w.cell? ⟨b, 2, none⟩ = some u2) (r3 : w.cell? ⟨b, 3, none⟩ = some u3) :
    let X := ((((w.setCell ⟨b, 0, none⟩ (.int .i64 n.1)).setCell ⟨b, 1, none⟩ (.int .i64 n.2.1)).setCell ⟨b, 2, none⟩ (.string ⟨n.2.2.1.toArray⟩)).setCell ⟨b, 3, none⟩ (.string ⟨n.2.2.2.toArray⟩))
    X.cell? ⟨b, 0, none⟩ = some (.int .i64 n.1) ∧ X.cell? ⟨b, 1, none⟩ = some (.int .i64 n.2.1) ∧ X.cell? ⟨b, 2, none⟩ = some (.string ⟨n.2.2.1.toArray⟩) ∧ X.cell? ⟨b, 3, none⟩ = some (.string ⟨n.2.2.2.toArray⟩) := by
  intro X
  have o : ∀ (W : World) (i j : Nat) (v : Value), i ≠ j → (W.setCell ⟨b, i, none⟩ v).cell? ⟨b, j, none⟩ = W.cell? ⟨b, j, none⟩ := fun W i j v h => World.cell?_setCell_other _ _ _ _ (by intro e; injection e with _ e; omega)
  refine ⟨?_, ?_, ?_, ?_⟩
  · exact (o _ 3 0 _ (by omega)).trans ((o _ 2 0 _ (by omega)).trans ((o _ 1 0 _ (by omega)).trans (World.cell?_setCell_same _ _ _ r0)))
  · exact (o _ 3 1 _ (by omega)).trans ((o _ 2 1 _ (by omega)).trans (World.cell?_setCell_same _ _ _ ((o _ 0 1 _ (by omega)).trans r1)))
  · exact (o _ 3 2 _ (by omega)).trans (World.cell?_setCell_same _ _ _ ((o _ 1 2 _ (by omega)).trans ((o _ 0 2 _ (by omega)).trans r2)))
  · exact World.cell?_setCell_same _ _ _ ((o _ 2 3 _ (by omega)).trans ((o _ 1 3 _ (by omega)).trans ((o _ 0 3 _ (by omega)).trans r3)))

theorem four_below {w W : World} (h : Below w.heap.size w W) (u0 u1 u2 u3 : Value) : Below w.heap.size w ((((W.setCell ⟨w.heap.size, 0, none⟩ u0).setCell ⟨w.heap.size, 1, none⟩ u1).setCell ⟨w.heap.size, 2, none⟩ u2).setCell ⟨w.heap.size, 3, none⟩ u3) :=
  (((h.setCell (p := ⟨w.heap.size, 0, none⟩) (Nat.le_refl _) _).setCell (p := ⟨w.heap.size, 1, none⟩) (Nat.le_refl _) _).setCell (p := ⟨w.heap.size, 2, none⟩) (Nat.le_refl _) _).setCell (p := ⟨w.heap.size, 3, none⟩) (Nat.le_refl _) _


end Go.Proofs.Ytnflkecnddbhoaa

/-! The contract of chapter 6's specification: ReadTree. -/
namespace Go.Proofs.Ytnflkecnddbhoaa
open Go.RowKit

/-- What a row of nodes holds. -/
def nodesV : List Nd → List Value
  | [] => []
  | n :: r => .int .i64 n.1 :: .int .i64 n.2.1 :: .string ⟨n.2.2.1.toArray⟩ :: .string ⟨n.2.2.2.toArray⟩ :: nodesV r

theorem nodesV_len (ns : List Nd) : (nodesV ns).length = ns.length * 4 := by
  induction ns with
  | nil => rfl
  | cons n r ih => simp only [nodesV, List.length_cons, ih]; omega

theorem nodesV_append (x y : List Nd) : nodesV (x ++ y) = nodesV x ++ nodesV y := by
  induction x with
  | nil => rfl
  | cons n r ih => simp only [List.cons_append, nodesV, ih]

theorem nodesV_one (ns : List Nd) : ∀ u ∈ nodesV ns, u.oneCell' = true := by
  induction ns with
  | nil => intro u hu; cases hu
  | cons n r ih =>
    intro u hu
    simp only [nodesV, List.mem_cons] at hu
    rcases hu with rfl | rfl | rfl | rfl | h
    · rfl
    · rfl
    · rfl
    · rfl
    · exact ih u h

theorem nodesV_at (ns : List Nd) (j : Nat) (hj : j < ns.length) : (nodesV ns)[j * 4]? = some (.int .i64 (ns.getD j nd0).1) ∧ (nodesV ns)[j * 4 + 1]? = some (.int .i64 (ns.getD j nd0).2.1) ∧ (nodesV ns)[j * 4 + 2]? = some (.string ⟨(ns.getD j nd0).2.2.1.toArray⟩) ∧ (nodesV ns)[j * 4 + 3]? = some (.string ⟨(ns.getD j nd0).2.2.2.toArray⟩) := by
  induction ns generalizing j with
  | nil => simp at hj
  | cons n r ih =>
    cases j with
    | zero => simp [nodesV]
    | succ j =>
      have h := ih j (by simpa using hj)
      rw [show (j + 1) * 4 = j * 4 + 1 + 1 + 1 + 1 by omega]
      simpa [nodesV] using h

/-- A row of nodes that a call owns is a list of nodes. -/
theorem own_nodes {w : World} {base n : Nat} {v : Value} {ns : List Nd} (h : w.ownsRow base 124 4 v n (nodesV ns)) : ns.length = n ∧ ∃ a cap, v = .slice a n cap ∧ NodesIn w a n ns := by
  have hlen : ns.length = n := by have := h.1; rw [nodesV_len] at this; omega
  refine ⟨hlen, ?_⟩
  rcases own_forms h with ⟨rfl, rfl, _⟩ | ⟨g, cp, rfl⟩
  · exact ⟨none, 0, rfl, hlen, fun j hj => by omega⟩
  · refine ⟨some ⟨g, 0, none⟩, cp, rfl, hlen, fun j hj => ?_⟩
    obtain ⟨v0, v1, v2, v3⟩ := nodesV_at ns j (by omega)
    have c0 := h.cellAt (j * 4) (by omega)
    have c1 := h.cellAt (j * 4 + 1) (by omega)
    have c2 := h.cellAt (j * 4 + 2) (by omega)
    have c3 := h.cellAt (j * 4 + 3) (by omega)
    rw [v0] at c0
    rw [v1] at c1
    rw [v2] at c2
    rw [v3] at c3
    refine ⟨g, 0, rfl, (h.lt g rfl).2, ?_, ?_, ?_, ?_⟩
    · rw [Nat.zero_add]; exact c0
    · rw [Nat.zero_add]; exact c1
    · rw [Nat.zero_add]; exact c2
    · rw [Nat.zero_add]; exact c3

theorem infoNode : (Try.prog.info? 124).map (fun i => (i.zero, i.size, i.bytes)) = some (some (.agg #[.int .i64 0, .int .i64 0, .string ⟨#[]⟩, .string ⟨#[]⟩]), 4, 48) := by kernel_rfl

theorem new_node (w : World) (n : Nd) : ∀ j u, (nodesV [n])[j]? = some u → (w.alloc (.cells #[.int .i64 n.1, .int .i64 n.2.1, .string ⟨n.2.2.1.toArray⟩, .string ⟨n.2.2.2.toArray⟩] 124)).cell? ((⟨w.heap.size, 0, none⟩ : Addr).add j) = some u := by
  intro j u hu
  have e : (⟨w.heap.size, 0, none⟩ : Addr).add j = ⟨w.heap.size, j, none⟩ := by unfold Addr.add; split <;> simp_all
  rw [e]
  match j, hu with
  | 0, hu => simp [nodesV] at hu; subst hu; simp
  | 1, hu => simp [nodesV] at hu; subst hu; simp
  | 2, hu => simp [nodesV] at hu; subst hu; simp
  | 3, hu => simp [nodesV] at hu; subst hu; simp
  | j + 4, hu => simp [nodesV] at hu

theorem split_part (b : UInt8) (l : List UInt8) (j : Nat) : ((splitL b l).getD j []).length ≤ l.length := by
  have h1 : (splitGo b [] l).flatten.length ≤ l.length := by
    have := splitGo_flat b l []
    rw [List.length_nil, Nat.zero_add] at this
    exact this
  have h2 := part_le (splitL b l) j
  unfold splitL at h2 ⊢
  exact Nat.le_trans h2 h1

theorem readN_short (s : List UInt8) : (readN s).2.2.1.length ≤ s.length ∧ (readN s).2.2.2.length ≤ s.length := by
  unfold readN
  split
  · simp
  split
  · simp
  split
  · simp
  split
  · simp
  split
  · simp
  split
  · simp
  split
  · split
    · have h1 := split_part 47 s.tail 0
      have h2 := split_part 46 ((splitL 47 s.tail).getD 0 []) 0
      have h3 := split_part 46 ((splitL 47 s.tail).getD 0 []) 1
      have h4 : s.tail.length ≤ s.length := by rw [List.length_tail]; omega
      constructor
      · show ((splitL 46 ((splitL 47 s.tail).getD 0 [])).getD 0 []).length ≤ _; omega
      · show ((splitL 46 ((splitL 47 s.tail).getD 0 [])).getD 1 []).length ≤ _; omega
    · simp
  split
  · simp
  · simp

theorem readT_short (s : List UInt8) (h : s.length ≤ 2000) : ShortT (readT s) := by
  intro j
  unfold readT
  by_cases hj : j < (splitL 32 s).length
  · have hg : ((splitL 32 s).map readN).getD j nd0 = readN ((splitL 32 s).getD j []) := by simp [List.getD, hj]
    rw [hg]
    have h1 := readN_short ((splitL 32 s).getD j [])
    have h2 := split_part 32 s j
    omega
  · have hg : ((splitL 32 s).map readN).getD j nd0 = nd0 := by simp [List.getD, hj]
    rw [hg]; simp [nd0]

theorem map_step2 (ws : List (List UInt8)) (k : Nat) (hk : k < ws.length) : (ws.map readN).take (k + 1) = (ws.map readN).take k ++ [readN (ws.getD k [])] := by
  rw [← List.map_take, ← List.map_take]
  have hg : ws.getD k [] = ws[k] := by simp [List.getD, hk]
  rw [hg, List.take_succ_eq_append_getElem hk, List.map_append]; rfl


end Go.Proofs.Ytnflkecnddbhoaa
