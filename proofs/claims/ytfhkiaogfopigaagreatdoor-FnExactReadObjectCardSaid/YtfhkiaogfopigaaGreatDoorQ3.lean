/-
  Parts of one proof, one behind the other: Math8R, Math8H, Math8P, Math9, Math9L, Math10, Math10L, Math10T, Math6D, Math11, Math11F, Math12, Math11T, Math12L, Math13, Math13L, Math14, Math14R, Math14S, TreeS4, TreeS5, TreeS6, IntsL, Marks, Marks2, Marks3.
-/
import Derived.Test.YtfhkiaogfopigaaGreatDoorQ2
import Derived.Test.YtfhkiaogfopigaaGreatDoorQ1
import Derived.Deep.RegionWith

/-! Plain facts of chapter 8: a text is put into a list that rises; what is reached. -/
namespace Go.Proofs.YtfhkiaogfopigaaGreatDoor
open Go.RowKit

/-! What is reached. -/
end Go.Proofs.YtfhkiaogfopigaaGreatDoor

/-! Plain facts: a heap of numbers in a list: one goes up, one goes down, the least is first. -/
namespace Go.Proofs.YtfhkiaogfopigaaGreatDoor
open Go.RowKit

end Go.Proofs.YtfhkiaogfopigaaGreatDoor

/-! Plain facts of chapter 8: packages by their places: who waits for how many, who is next, what is reached. -/
namespace Go.Proofs.YtfhkiaogfopigaaGreatDoor
open Go.RowKit

def nmAt (ps : List Pk) (i : Nat) : List UInt8 := (ps.getD i pk0).1
/-! What is reached. -/
end Go.Proofs.YtfhkiaogfopigaaGreatDoor

/-! Plain facts of chapter 9: what a call is told, what is wrong in a function, a package, a project; exports. -/
namespace Go.Proofs.YtfhkiaogfopigaaGreatDoor
open Go.RowKit

/-! A call. -/
def farB (ps : List Pk) (p : Pk) (q : List UInt8) : Bool := decide (q ≠ p.1 ∧ (¬ q ∈ p.2.1 ∨ at8 ps q < 0))
def ofPk (ps : List Pk) (p : Pk) (q : List UInt8) : Pk := if q = p.1 then p else ps.getD (at8 ps q).toNat pk0
def call9 (ps : List Pk) (p : Pk) (i : Int) (n : Nd) : Int :=
  if farB ps p n.2.2.1 = true then 1
  else if atV (ofPk ps p n.2.2.1).2.2 n.2.2.2 < 0 ∨ (n.2.2.1 = p.1 ∧ i ≤ atV (ofPk ps p n.2.2.1).2.2 n.2.2.2) then 2
  else if ((ofPk ps p n.2.2.1).2.2.getD (atV (ofPk ps p n.2.2.1).2.2 n.2.2.2).toNat fn0).2.1 ≠ n.2.1 then 3 else 0
/-- The package that a name is of. -/
def pkOf (ps : List Pk) (s : List UInt8) : Pk := ps.getD (at8 ps s).toNat pk0
def callB (ps : List Pk) (s : List UInt8) (i : Int) (n : Nd) : Prop := projB ps = true ∧ 0 ≤ at8 ps s ∧ nodeB n = true ∧ n.1 = 8 ∧ 0 ≤ i ∧ i < ((pkOf ps s).2.2.length : Int)
instance (ps : List Pk) (s : List UInt8) (i : Int) (n : Nd) : Decidable (callB ps s i n) := by unfold callB; infer_instance
/-! A function. -/
def arg9 (f : Fn) (n : Nd) : Prop := n.1 = 2 ∧ f.2.1 ≤ n.2.1
instance (f : Fn) (n : Nd) : Decidable (arg9 f n) := by unfold arg9; infer_instance
def bad9 (ps : List Pk) (p : Pk) (i : Nat) (n : Nd) : Prop := n.1 = 8 ∧ call9 ps p i n ≠ 0
instance (ps : List Pk) (p : Pk) (i : Nat) (n : Nd) : Decidable (bad9 ps p i n) := by unfold bad9; infer_instance
/-! A package, a project. -/
def miss9 (ps : List Pk) (p : Pk) : Prop := ∃ m ∈ p.2.1, at8 ps m < 0
instance (ps : List Pk) (p : Pk) : Decidable (miss9 ps p) := by unfold miss9; infer_instance
/-! Exports. -/
end Go.Proofs.YtfhkiaogfopigaaGreatDoor

/-! Plain facts of chapter 9: what FnFaults tests. -/
namespace Go.Proofs.YtfhkiaogfopigaaGreatDoor
open Go.RowKit

/-! What FnCalls looks for. -/
/-- A function that the law finds. -/
def hit9 (ps : List Pk) (s : List UInt8) (at_ : Int) (n : Nd) (j m : Nat) : Prop := nmAt ps j = n.2.2.1 ∧ ((ps.getD j pk0).2.2.getD m fn0).1 = n.2.2.2 ∧ ((ps.getD j pk0).2.2.getD m fn0).2.1 = n.2.1 ∧ (n.2.2.1 ≠ s ∨ (m : Int) < at_)
end Go.Proofs.YtfhkiaogfopigaaGreatDoor

/-! Plain facts of chapter 10: what a tree means, tree by tree; fuel. -/
namespace Go.Proofs.YtfhkiaogfopigaaGreatDoor
open Go.RowKit

/-! A walk: what fuel is left, and why it stopped. -/
/-! What every such walk keeps. -/
/-! Words. -/
end Go.Proofs.YtfhkiaogfopigaaGreatDoor

/-! Plain facts of chapter 10: Meant, Burnt; what FnMeans tests. -/
namespace Go.Proofs.YtfhkiaogfopigaaGreatDoor
open Go.RowKit

end Go.Proofs.YtfhkiaogfopigaaGreatDoor

/-! Plain facts of chapter 10: where nothing is wrong, what a walk meets in a tree. -/
namespace Go.Proofs.YtfhkiaogfopigaaGreatDoor
open Go.RowKit

/-! Parts. -/
/-! A tree of a function of a project without fault. -/
end Go.Proofs.YtfhkiaogfopigaaGreatDoor

/-! Plain facts of drawn trees: no tree at a place of a drawn list has more than 60 nodes. -/
namespace Go.Proofs.YtfhkiaogfopigaaGreatDoor
open Go.RowKit

end Go.Proofs.YtfhkiaogfopigaaGreatDoor

/-! Plain facts of chapter 11: a tree is a node and its parts; what is made of it. -/
namespace Go.Proofs.YtfhkiaogfopigaaGreatDoor
open Go.RowKit

/-! Trees in a list. -/
end Go.Proofs.YtfhkiaogfopigaaGreatDoor

/-! Plain facts of chapter 11: folding. -/
namespace Go.Proofs.YtfhkiaogfopigaaGreatDoor
open Go.RowKit

end Go.Proofs.YtfhkiaogfopigaaGreatDoor

/-! Plain facts of chapter 12: how many registers a tree takes. -/
namespace Go.Proofs.YtfhkiaogfopigaaGreatDoor
open Go.RowKit

end Go.Proofs.YtfhkiaogfopigaaGreatDoor

/-! Plain facts: every node of a tree has an end. -/
namespace Go.Proofs.YtfhkiaogfopigaaGreatDoor
open Go.RowKit

end Go.Proofs.YtfhkiaogfopigaaGreatDoor

/-! Plain facts of chapter 12: what FnSethi and FnFirst ask. -/
namespace Go.Proofs.YtfhkiaogfopigaaGreatDoor
open Go.RowKit

end Go.Proofs.YtfhkiaogfopigaaGreatDoor

/-! Plain facts of chapter 13: instructions, code, what a tree becomes, registers. -/
namespace Go.Proofs.YtfhkiaogfopigaaGreatDoor
open Go.RowKit

abbrev In13 := Int × Int × Int × Int × List UInt8
def in0 : In13 := (0, 0, 0, 0, [])
def name13 (s : List UInt8) : Bool := (splitL 46 s).length == 2 && nameB ((splitL 46 s).getD 0 []) && nameB ((splitL 46 s).getD 1 [])
def insP (i : In13) : Prop :=
  (i.1 = 9 ∨ i.2.2.2.2 = []) ∧ ((3 ≤ i.1 ∧ i.1 ≤ 6) ∨ i.2.2.2.1 = 0) ∧
  ((i.1 = 1 ∧ (0 ≤ i.2.1 ∧ i.2.1 ≤ 63) ∧ (-2147483648 ≤ i.2.2.1 ∧ i.2.2.1 ≤ 2147483647)) ∨
   (i.1 = 2 ∧ (0 ≤ i.2.1 ∧ i.2.1 ≤ 63) ∧ (0 ≤ i.2.2.1 ∧ i.2.2.1 ≤ 2)) ∨
   ((3 ≤ i.1 ∧ i.1 ≤ 6) ∧ (0 ≤ i.2.1 ∧ i.2.1 ≤ 63) ∧ (0 ≤ i.2.2.1 ∧ i.2.2.1 ≤ 63) ∧ (0 ≤ i.2.2.2.1 ∧ i.2.2.2.1 ≤ 63)) ∨
   (i.1 = 7 ∧ (0 ≤ i.2.1 ∧ i.2.1 ≤ 63) ∧ (0 ≤ i.2.2.1 ∧ i.2.2.1 ≤ 199)) ∨
   (i.1 = 8 ∧ i.2.1 = 0 ∧ (0 ≤ i.2.2.1 ∧ i.2.2.1 ≤ 199)) ∨
   (i.1 = 9 ∧ (0 ≤ i.2.1 ∧ i.2.1 ≤ 63) ∧ (0 ≤ i.2.2.1 ∧ i.2.2.1 ≤ 3) ∧ i.2.1 + i.2.2.1 - 1 ≤ 63 ∧ name13 i.2.2.2.2 = true) ∨
   (i.1 = 10 ∧ (0 ≤ i.2.1 ∧ i.2.1 ≤ 63) ∧ i.2.2.1 = 0))
instance (i : In13) : Decidable (insP i) := by unfold insP; infer_instance
def insB (i : In13) : Bool := decide (insP i)
/-- Is it right, in code of n? -/
def insAt (n : Nat) (i : In13) : Prop := insP i ∧ ((i.1 = 7 ∨ i.1 = 8) → i.2.2.1 < (n : Int))
instance (n : Nat) (i : In13) : Decidable (insAt n i) := by unfold insAt; infer_instance
def codeB (c : List In13) : Bool := decide ((1 ≤ c.length ∧ c.length ≤ 200) ∧ (∀ i ∈ c, insAt c.length i) ∧ ((c.getD (c.length - 1) in0).1 = 10 ∨ (c.getD (c.length - 1) in0).1 = 8))
end Go.Proofs.YtfhkiaogfopigaaGreatDoor

/-! Plain facts of chapter 13: what FnCompiled asks. -/
namespace Go.Proofs.YtfhkiaogfopigaaGreatDoor
open Go.RowKit

end Go.Proofs.YtfhkiaogfopigaaGreatDoor

/-! Plain facts of chapter 14: images, shown and read. -/
namespace Go.Proofs.YtfhkiaogfopigaaGreatDoor
open Go.RowKit

abbrev Rt := List UInt8 × Int × List In13
def rt0 : Rt := ([], 0, [])
def at14Go (s : List UInt8) : List Rt → Nat → Int
  | [], _ => -1
  | r :: rs, k => if r.1 = s then (k : Int) else at14Go s rs (k + 1)
def at14 (rs : List Rt) (s : List UInt8) : Int := at14Go s rs 0
theorem at14Go_drop {rs : List Rt} {k : Nat} (hk : k < rs.length) (s : List UInt8) : at14Go s (rs.drop k) k = if (rs.getD k rt0).1 = s then (k : Int) else at14Go s (rs.drop (k + 1)) (k + 1) := by
  rw [List.drop_eq_getElem_cons hk, at14Go]
  have hg : rs.getD k rt0 = rs[k] := by simp [List.getD, hk]
  rw [hg]
theorem at14Go_bd (s : List UInt8) : ∀ (rs : List Rt) (k : Nat), at14Go s rs k = -1 ∨ ((k : Int) ≤ at14Go s rs k ∧ at14Go s rs k < k + rs.length)
  | [], _ => Or.inl rfl
  | r :: rs, k => by
    rw [at14Go]
    split
    · refine Or.inr ⟨Int.le_refl _, ?_⟩
      simp only [List.length_cons]; omega
    · rcases at14Go_bd s rs (k + 1) with h | h
      · exact Or.inl h
      · refine Or.inr ⟨by omega, ?_⟩
        simp only [List.length_cons]; omega
theorem at14_bd (rs : List Rt) (s : List UInt8) : -1 ≤ at14 rs s ∧ at14 rs s < rs.length := by
  unfold at14
  rcases at14Go_bd s rs 0 with h | h
  · rw [h]; omega
  · omega
/-- Is an argument asked that is there? -/
def argB (n : Int) (i : In13) : Bool := !(decide (i.1 = 2) && decide (n ≤ i.2.2.1))
def rtB (r : Rt) : Bool := (name13 r.1 && (inB r.2.1 0 3 && codeB r.2.2)) && r.2.2.all (argB r.2.1)
def clsB (rs : List Rt) (i : In13) : Bool := decide (i.1 ≠ 9) || (decide (0 ≤ at14 rs i.2.2.2.2) && decide ((rs.getD (at14 rs i.2.2.2.2).toNat rt0).2.1 = i.2.2.1))
def oneB (rs : List Rt) (j : Nat) : Prop := rtB (rs.getD j rt0) = true ∧ (0 < j → leT (rs.getD j rt0).1 (rs.getD (j - 1) rt0).1 = false) ∧ (rs.getD j rt0).2.2.all (clsB rs) = true
instance (rs : List Rt) (j : Nat) : Decidable (oneB rs j) := by unfold oneB; infer_instance
def imageB (rs : List Rt) : Bool := decide ((∀ j, j < rs.length → oneB rs j) ∧ (1 ≤ rs.length ∧ rs.length ≤ 64))
theorem image_no {rs : List Rt} {j : Nat} (hj : j < rs.length) (h : ¬ oneB rs j) : imageB rs = false := decide_eq_false (fun e => h (e.1 j hj))
theorem image_all {rs : List Rt} (h : ∀ j, j < rs.length → oneB rs j) : imageB rs = inB (rs.length : Int) 1 64 := by
  unfold imageB inB
  refine decide_eq_decide.2 ⟨fun e => by omega, fun e => ⟨h, by omega⟩⟩

def kwRt : List UInt8 := [114, 111, 117, 116, 105, 110, 101]
def nmL (s : List UInt8) : List UInt8 := if s = [] then [45] else s
def insLn (i : In13) : List UInt8 := intL i.1 ++ [32] ++ intL i.2.1 ++ [32] ++ intL i.2.2.1 ++ [32] ++ intL i.2.2.2.1 ++ [32] ++ nmL i.2.2.2.2
def rtLn (r : Rt) : List UInt8 := kwRt ++ [32] ++ r.1 ++ [32] ++ intL r.2.1 ++ [32] ++ intL (r.2.2.length : Int)
def rtLines (r : Rt) : List (List UInt8) := rtLn r :: r.2.2.map insLn
def imLines (rs : List Rt) : List (List UInt8) := rs.flatMap rtLines
def showI (rs : List Rt) : List UInt8 := termJ (imLines rs)
def showIm (rs : List Rt) : List UInt8 := if imageB rs = true then showI rs else []

/-- One more instruction of the last routine. -/
def addI (out : List Rt) (x : In13) : List Rt := out.dropLast ++ [((out.getLastD rt0).1, (out.getLastD rt0).2.1, (out.getLastD rt0).2.2 ++ [x])]
theorem addI_snoc (out : List Rt) (n : List UInt8) (a : Int) (c : List In13) (x : In13) : addI (out ++ [(n, a, c)]) x = out ++ [(n, a, c ++ [x])] := by
  have hl : (out ++ [(n, a, c)]).getLastD rt0 = (n, a, c) := by rw [List.getLastD_eq_getLast?]; simp
  unfold addI
  rw [hl, List.dropLast_concat]
noncomputable def insRd (ws : List (List UInt8)) : In13 := (readV (ws.getD 0 []), readV (ws.getD 1 []), readV (ws.getD 2 []), readV (ws.getD 3 []), if ws.getD 4 [] = [45] then [] else ws.getD 4 [])
noncomputable def readI : List Rt → List (List UInt8) → List Rt
  | out, [] => out
  | out, l :: ls =>
    if (splitL 32 l).length = 4 ∧ (splitL 32 l).getD 0 [] = kwRt then readI (out ++ [((splitL 32 l).getD 1 [], readV ((splitL 32 l).getD 2 []), [])]) ls
    else if (splitL 32 l).length ≠ 5 ∨ out = [] then []
    else readI (addI out (insRd (splitL 32 l))) ls
noncomputable def readIB (s : List UInt8) : Bool := decide (s.length ≤ 400000) && (imageB (readI [] (linesL s)) && (showI (readI [] (linesL s)) == s))
noncomputable def readIV (s : List UInt8) : List Rt := if readIB s = true then readI [] (linesL s) else []

theorem name13_parts {s : List UInt8} (h : name13 s = true) : ∃ p f, nameB p = true ∧ nameB f = true ∧ s = p ++ 46 :: f := by
  unfold name13 at h
  rw [Bool.and_eq_true, Bool.and_eq_true, beq_iff_eq] at h
  obtain ⟨⟨h1, h2⟩, h3⟩ := h
  have hj := joinBy_split 46 s []
  rw [List.nil_append] at hj
  match hs : splitL 46 s, h1 with
  | [p, f], _ =>
    rw [hs] at h2 h3
    refine ⟨p, f, h2, h3, ?_⟩
    rw [← hj]
    have e : splitGo 46 [] s = [p, f] := hs
    rw [e]
    simp [joinBy]
theorem name13_len {s : List UInt8} (h : name13 s = true) : 3 ≤ s.length ∧ s.length ≤ 17 := by
  obtain ⟨p, f, hp, hf, rfl⟩ := name13_parts h
  have h1 := (name_letters hp).1
  have h2 := (name_letters hf).1
  simp only [List.length_append, List.length_cons]
  omega
theorem name13_bytes {s : List UInt8} (h : name13 s = true) : ∀ c ∈ s, c.toNat = 46 ∨ (97 ≤ c.toNat ∧ c.toNat ≤ 122) := by
  obtain ⟨p, f, hp, hf, rfl⟩ := name13_parts h
  intro c hc
  rcases List.mem_append.1 hc with e | e
  · exact Or.inr ((name_letters hp).2 c e)
  · rcases List.mem_cons.1 e with e | e
    · rw [e]; exact Or.inl rfl
    · exact Or.inr ((name_letters hf).2 c e)
theorem nmL_bytes {i : In13} (h : insP i) : ∀ c ∈ nmL i.2.2.2.2, c.toNat = 45 ∨ c.toNat = 46 ∨ (97 ≤ c.toNat ∧ c.toNat ≤ 122) := by
  intro c hc
  unfold nmL at hc
  split at hc
  · rw [List.mem_singleton.1 hc]; exact Or.inl rfl
  · rename_i hne
    have h9 : i.1 = 9 := by rcases h.1 with e | e; exact e; exact absurd e hne
    have hn : name13 i.2.2.2.2 = true := by
      rcases h.2.2 with e | e | e | e | e | e | e
      · omega
      · omega
      · omega
      · omega
      · omega
      · exact e.2.2.2.2
      · omega
    rcases name13_bytes hn c hc with e | e
    · exact Or.inr (Or.inl e)
    · exact Or.inr (Or.inr e)
theorem insP_words {i : In13} (h : insP i) : (-2147483648 ≤ i.1 ∧ i.1 ≤ 2147483647) ∧ (-2147483648 ≤ i.2.1 ∧ i.2.1 ≤ 2147483647) ∧ (-2147483648 ≤ i.2.2.1 ∧ i.2.2.1 ≤ 2147483647) ∧ (-2147483648 ≤ i.2.2.2.1 ∧ i.2.2.2.1 ≤ 2147483647) := by
  have h2 := h.2.1
  have h3 := h.2.2
  omega
theorem insLn_split {i : In13} (h : insP i) : splitL 32 (insLn i) = [intL i.1, intL i.2.1, intL i.2.2.1, intL i.2.2.2.1, nmL i.2.2.2.2] := by
  obtain ⟨w0, w1, w2, w3⟩ := insP_words h
  have hj : insLn i = joinBy 32 [intL i.1, intL i.2.1, intL i.2.2.1, intL i.2.2.2.1, nmL i.2.2.2.2] := by simp [insLn, joinBy]
  rw [hj]
  refine split_join 32 _ (by simp) ?_
  intro x hx c hc e
  simp only [List.mem_cons, List.not_mem_nil, or_false] at hx
  have hi : ∀ a : Int, -2147483648 ≤ a ∧ a ≤ 2147483647 → c ∈ intL a → False := fun a ha hm => by
    have := intL_bytes a ha.1 ha.2 c hm
    rw [e] at this
    simp at this
  rcases hx with rfl | rfl | rfl | rfl | rfl
  · exact hi _ w0 hc
  · exact hi _ w1 hc
  · exact hi _ w2 hc
  · exact hi _ w3 hc
  · have := nmL_bytes h c hc
    rw [e] at this
    simp at this
theorem insRd_of {i : In13} (h : insP i) : insRd [intL i.1, intL i.2.1, intL i.2.2.1, intL i.2.2.2.1, nmL i.2.2.2.2] = i := by
  obtain ⟨w0, w1, w2, w3⟩ := insP_words h
  have hn : (if nmL i.2.2.2.2 = [45] then [] else nmL i.2.2.2.2) = i.2.2.2.2 := by
    unfold nmL
    by_cases e : i.2.2.2.2 = []
    · rw [if_pos e, if_pos rfl, e]
    · rw [if_neg e]
      refine if_neg (fun e2 => ?_)
      have := nmL_bytes h 45 (by unfold nmL; rw [if_neg e, e2]; simp)
      have h9 : i.1 = 9 := by rcases h.1 with e3 | e3; exact e3; exact absurd e3 e
      have hn : name13 i.2.2.2.2 = true := by
        rcases h.2.2 with e | e | e | e | e | e | e
        · omega
        · omega
        · omega
        · omega
        · omega
        · exact e.2.2.2.2
        · omega
      have := (name13_len hn).1
      rw [e2] at this
      simp at this
  unfold insRd
  simp only [List.getD_cons_zero, List.getD_cons_succ]
  rw [hn, (read_of_int _ w0.1 w0.2).2, (read_of_int _ w1.1 w1.2).2, (read_of_int _ w2.1 w2.2).2, (read_of_int _ w3.1 w3.2).2]
theorem codeB_ins {c : List In13} (h : codeB c = true) : ∀ i ∈ c, insP i := fun i hi => ((of_decide_eq_true h).2.1 i hi).1
theorem codeB_len {c : List In13} (h : codeB c = true) : 1 ≤ c.length ∧ c.length ≤ 200 := (of_decide_eq_true h).1
theorem rtB_parts {r : Rt} (h : rtB r = true) : name13 r.1 = true ∧ (0 ≤ r.2.1 ∧ r.2.1 ≤ 3) ∧ codeB r.2.2 = true ∧ r.2.2.all (argB r.2.1) = true := by
  unfold rtB at h
  simp only [Bool.and_eq_true] at h
  exact ⟨h.1.1, by have := h.1.2.1; unfold inB at this; exact of_decide_eq_true this, h.1.2.2, h.2⟩
theorem rtLn_split {r : Rt} (h : rtB r = true) : splitL 32 (rtLn r) = [kwRt, r.1, intL r.2.1, intL (r.2.2.length : Int)] := by
  obtain ⟨hn, ha, hc, _⟩ := rtB_parts h
  have hl := codeB_len hc
  have hj : rtLn r = joinBy 32 [kwRt, r.1, intL r.2.1, intL (r.2.2.length : Int)] := by simp [rtLn, joinBy]
  rw [hj]
  refine split_join 32 _ (by simp) ?_
  intro x hx c hc2 e
  simp only [List.mem_cons, List.not_mem_nil, or_false] at hx
  rcases hx with rfl | rfl | rfl | rfl
  · rw [e] at hc2; simp [kwRt] at hc2
  · have := name13_bytes hn c hc2
    rw [e] at this
    simp at this
  · have := intL_bytes _ (by omega) (by omega) c hc2
    rw [e] at this
    simp at this
  · have := intL_bytes _ (by omega) (by omega) c hc2
    rw [e] at this
    simp at this
theorem readI_ins (out : List Rt) (n : List UInt8) (a : Int) (ls : List (List UInt8)) : ∀ (c d : List In13), (∀ i ∈ d, insP i) → readI (out ++ [(n, a, c)]) (d.map insLn ++ ls) = readI (out ++ [(n, a, c ++ d)]) ls
  | c, [], _ => by simp
  | c, i :: d, h => by
    have hi := h i (by simp)
    rw [List.map_cons, List.cons_append, readI, insLn_split hi]
    rw [if_neg (by simp), if_neg (by simp), insRd_of hi, addI_snoc, readI_ins out n a ls (c ++ [i]) d (fun j hj => h j (by simp [hj]))]
    simp
theorem readI_rts (ls : List (List UInt8)) : ∀ (rs out : List Rt), (∀ r ∈ rs, rtB r = true) → readI out (imLines rs ++ ls) = readI (out ++ rs) ls
  | [], out, _ => by simp [imLines]
  | r :: rs, out, h => by
    obtain ⟨n, a, c⟩ := r
    have hr := h (n, a, c) (by simp)
    have hc := (rtB_parts hr).2.2.1
    have ha := (rtB_parts hr).2.1
    have e : imLines ((n, a, c) :: rs) ++ ls = rtLn (n, a, c) :: (c.map insLn ++ (imLines rs ++ ls)) := by simp [imLines, rtLines]
    rw [e, readI, rtLn_split hr, if_pos (by simp)]
    simp only [List.getD_cons_zero, List.getD_cons_succ]
    simp only at ha
    rw [(read_of_int a (by omega) (by omega)).2, readI_ins out n a _ [] c (codeB_ins hc), List.nil_append, readI_rts ls rs _ (fun q hq => h q (by simp [hq]))]
    simp
theorem image_rts {rs : List Rt} (h : imageB rs = true) : ∀ r ∈ rs, rtB r = true := fun r hr => by
  obtain ⟨j, hj, rfl⟩ := List.getElem_of_mem hr
  have := ((of_decide_eq_true h).1 j hj).1
  simpa [List.getD, hj] using this
theorem read_image {rs : List Rt} (h : imageB rs = true) : readI [] (imLines rs) = rs := by
  have := readI_rts [] rs [] (image_rts h)
  simpa [readI] using this

end Go.Proofs.YtfhkiaogfopigaaGreatDoor

/-! Plain facts of chapter 14: an image is read from what it is shown as; what is read is shown so. -/
namespace Go.Proofs.YtfhkiaogfopigaaGreatDoor
open Go.RowKit

theorem intL_to {a : Int} (k : Nat) (h0 : 0 ≤ a) (h1 : a < 10 ^ (k + 1)) : (intL a).length ≤ k + 1 := by
  unfold intL
  rw [if_neg (by omega)]
  exact digL_len k a.natAbs (by
    have e : ((a.natAbs : Nat) : Int) = a := by omega
    have h2 : ((a.natAbs : Nat) : Int) < ((10 ^ (k + 1) : Nat) : Int) := by rw [e]; push_cast; exact h1
    omega)
theorem intL_w11 {a : Int} (h0 : -2147483648 ≤ a) (h1 : a ≤ 2147483647) : (intL a).length ≤ 11 := by
  unfold intL
  have hd := digL_len 9 a.natAbs (by omega)
  split
  · simp only [List.length_cons]; omega
  · omega
theorem insLn_len {i : In13} (h : insP i) : (insLn i).length ≤ 28 := by
  obtain ⟨k, r, a, b, s⟩ := i
  have hk : 1 ≤ k ∧ k ≤ 10 := by have := h.2.2; simp only at this; omega
  have hr : 0 ≤ r ∧ r ≤ 63 := by have := h.2.2; simp only at this; omega
  have hb : 0 ≤ b ∧ b ≤ 63 := by have h1 := h.2.1; have h2 := h.2.2; simp only at h1 h2; omega
  have lk := intL_to (a := k) 1 (by omega) (by omega)
  have lr := intL_to (a := r) 1 (by omega) (by omega)
  have lb := intL_to (a := b) 1 (by omega) (by omega)
  have la : (intL a).length + (nmL s).length ≤ 18 := by
    by_cases h9 : k = 9
    · have h2 := h.2.2
      simp only at h2
      have hn : (0 ≤ a ∧ a ≤ 3) ∧ name13 s = true := by
        rcases h2 with e | e | e | e | e | e | e
        · omega
        · omega
        · omega
        · omega
        · omega
        · exact ⟨e.2.2.1, e.2.2.2.2⟩
        · omega
      have l1 := intL_to (a := a) 0 (by omega) (by omega)
      have l2 := name13_len hn.2
      unfold nmL
      split
      · simp; omega
      · omega
    · have hs : s = [] := by
        have := h.1
        simp only at this
        rcases this with e | e
        · exact absurd e h9
        · exact e
      have l1 := intL_w11 (insP_words h).2.2.1.1 (insP_words h).2.2.1.2
      simp only at l1
      unfold nmL
      rw [if_pos hs]
      simp
      omega
  unfold insLn
  simp only [List.length_append, List.length_singleton]
  omega
theorem rtLn_len {r : Rt} (h : rtB r = true) : (rtLn r).length ≤ 32 := by
  obtain ⟨hn, ha, hc, _⟩ := rtB_parts h
  have l1 := name13_len hn
  have l2 := intL_to (a := r.2.1) 0 (by omega) (by omega)
  have hl := codeB_len hc
  have l3 := intL_to (a := (r.2.2.length : Int)) 2 (by omega) (by omega)
  unfold rtLn kwRt
  simp only [List.length_append, List.length_cons, List.length_nil]
  omega
theorem termJ_ins : ∀ (c : List In13), (∀ i ∈ c, insP i) → (termJ (c.map insLn)).length ≤ c.length * 29
  | [], _ => by simp [termJ]
  | i :: c, h => by
    have ih := termJ_ins c (fun j hj => h j (by simp [hj]))
    have hi := insLn_len (h i (by simp))
    have e : termJ ((i :: c).map insLn) = insLn i ++ [10] ++ termJ (c.map insLn) := by simp [termJ]
    rw [e]
    simp only [List.length_append, List.length_cons, List.length_nil]
    omega
theorem showI_len' : ∀ (rs : List Rt), (∀ r ∈ rs, rtB r = true) → (termJ (imLines rs)).length ≤ rs.length * 5840
  | [], _ => by simp [termJ, imLines]
  | r :: rs, h => by
    have ih := showI_len' rs (fun j hj => h j (by simp [hj]))
    have hr := h r (by simp)
    have h1 := rtLn_len hr
    have hc := (rtB_parts hr).2.2.1
    have h2 := termJ_ins r.2.2 (codeB_ins hc)
    have hl := codeB_len hc
    have e : termJ (imLines (r :: rs)) = rtLn r ++ [10] ++ termJ (r.2.2.map insLn) ++ termJ (imLines rs) := by simp [termJ, imLines, rtLines]
    rw [e]
    simp only [List.length_append, List.length_cons, List.length_nil]
    omega
theorem showI_len {rs : List Rt} (h : imageB rs = true) : (showI rs).length ≤ 400000 := by
  have h1 := showI_len' rs (image_rts h)
  have h2 := (of_decide_eq_true h).2
  unfold showI
  omega
theorem rts_no10 {rs : List Rt} (h : ∀ r ∈ rs, rtB r = true) : ∀ x ∈ imLines rs, ∀ c ∈ x, c ≠ 10 := by
  intro x hx c hc e
  obtain ⟨r, hr, hx2⟩ := List.mem_flatMap.1 hx
  have hrt := h r hr
  obtain ⟨hn, ha, hco, _⟩ := rtB_parts hrt
  have hl := codeB_len hco
  have hint : ∀ a : Int, -2147483648 ≤ a ∧ a ≤ 2147483647 → c ∈ intL a → False := fun a ha hm => by
    have := intL_bytes a ha.1 ha.2 c hm
    rw [e] at this
    simp at this
  unfold rtLines at hx2
  rcases List.mem_cons.1 hx2 with e1 | e1
  · rw [e1] at hc
    unfold rtLn at hc
    simp only [List.mem_append, List.mem_singleton] at hc
    rcases hc with (((((h1 | h1) | h1) | h1) | h1) | h1) | h1
    · rw [e] at h1; simp [kwRt] at h1
    · rw [e] at h1; simp at h1
    · have := name13_bytes hn c h1; rw [e] at this; simp at this
    · rw [e] at h1; simp at h1
    · exact hint _ (by omega) h1
    · rw [e] at h1; simp at h1
    · exact hint _ (by omega) h1
  · obtain ⟨i, hi, rfl⟩ := List.mem_map.1 e1
    have hp := codeB_ins hco i hi
    obtain ⟨w0, w1, w2, w3⟩ := insP_words hp
    unfold insLn at hc
    simp only [List.mem_append, List.mem_singleton] at hc
    rcases hc with (((((((h1 | h1) | h1) | h1) | h1) | h1) | h1) | h1) | h1
    · exact hint _ w0 h1
    · rw [e] at h1; simp at h1
    · exact hint _ w1 h1
    · rw [e] at h1; simp at h1
    · exact hint _ w2 h1
    · rw [e] at h1; simp at h1
    · exact hint _ w3 h1
    · rw [e] at h1; simp at h1
    · have := nmL_bytes hp c h1; rw [e] at this; simp at this
theorem lines14_no10 {rs : List Rt} (h : imageB rs = true) : ∀ x ∈ imLines rs, ∀ c ∈ x, c ≠ 10 := rts_no10 (image_rts h)
theorem image_back {rs : List Rt} (h : imageB rs = true) : showIm rs ≠ [] ∧ readIB (showIm rs) = true ∧ readIV (showIm rs) = rs := by
  have hs : showIm rs = showI rs := by unfold showIm; rw [if_pos h]
  have hl : linesL (showI rs) = imLines rs := lines_term _ (lines14_no10 h)
  have hr : readI [] (linesL (showI rs)) = rs := by rw [hl]; exact read_image h
  have hb : readIB (showI rs) = true := by
    unfold readIB
    rw [hr, decide_eq_true (showI_len h), h]
    simp
  refine ⟨?_, by rw [hs]; exact hb, by rw [hs]; unfold readIV; rw [if_pos hb, hr]⟩
  rw [hs]
  have h1 := (of_decide_eq_true h).2.1
  intro e
  cases rs with
  | nil => simp at h1
  | cons r rs => simp [showI, imLines, rtLines, termJ] at e
theorem image_not {rs : List Rt} (h : imageB rs = false) : showIm rs = [] := by unfold showIm; rw [if_neg (by rw [h]; simp)]
theorem read_iv (s : List UInt8) : (readIB s = true ∧ imageB (readIV s) = true ∧ showIm (readIV s) = s) ∨ (readIB s = false ∧ readIV s = []) := by
  rcases h : readIB s with _ | _
  · exact Or.inr ⟨rfl, by unfold readIV; rw [if_neg (by rw [h]; simp)]⟩
  · have hv : readIV s = readI [] (linesL s) := by unfold readIV; rw [if_pos h]
    unfold readIB at h
    simp only [Bool.and_eq_true, beq_iff_eq] at h
    rw [hv]
    exact Or.inl ⟨rfl, h.2.1, by unfold showIm; rw [if_pos h.2.1]; exact h.2.2⟩

end Go.Proofs.YtfhkiaogfopigaaGreatDoor

/-! Plain facts of chapter 14: how an image runs. -/
namespace Go.Proofs.YtfhkiaogfopigaaGreatDoor
open Go.RowKit

def WordL (xs : List Int) : Prop := ∀ x ∈ xs, -2147483648 ≤ x ∧ x ≤ 2147483647
theorem WordL.at {xs : List Int} (h : WordL xs) (j : Nat) : -2147483648 ≤ xs.getD j 0 ∧ xs.getD j 0 ≤ 2147483647 := by
  rw [List.getD_eq_getElem?_getD]
  rcases Nat.lt_or_ge j xs.length with hj | hj
  · rw [List.getElem?_eq_getElem hj]; exact h _ (List.getElem_mem hj)
  · rw [List.getElem?_eq_none hj]; decide
theorem WordL.set {xs : List Int} (h : WordL xs) (j : Nat) {z : Int} (hz : -2147483648 ≤ z ∧ z ≤ 2147483647) : WordL (xs.set j z) := fun q hq => by
  rcases List.mem_or_eq_of_mem_set hq with e | e
  · exact h q e
  · rw [e]; exact hz
/-- What RunImage gives. -/
def runP (rs : List Rt) (nm : List UInt8) (xs : List Int) (fuel : Int) : Prop := imageB rs = true ∧ 0 ≤ at14 rs nm ∧ (xs.length : Int) = (rs.getD (at14 rs nm).toNat rt0).2.1 ∧ (0 ≤ fuel ∧ fuel ≤ 20000) ∧ WordL xs
instance (xs : List Int) : Decidable (WordL xs) := by unfold WordL; infer_instance
instance (rs : List Rt) (nm : List UInt8) (xs : List Int) (fuel : Int) : Decidable (runP rs nm xs fuel) := by unfold runP; infer_instance
end Go.Proofs.YtfhkiaogfopigaaGreatDoor

/-! The contract of chapter 6's specification: the node of a word. -/
namespace Go.Proofs.YtfhkiaogfopigaaGreatDoor
open Go.RowKit

theorem part_le (ws : List (List UInt8)) (j : Nat) : (ws.getD j []).length ≤ ws.flatten.length := by
  induction ws generalizing j with
  | nil => simp
  | cons x r ih =>
    cases j with
    | zero => simp
    | succ j => have := ih j; simp only [List.getD_cons_succ, List.flatten_cons, List.length_append]; omega

end Go.Proofs.YtfhkiaogfopigaaGreatDoor

/-! The contract of chapter 6's specification: ReadTree. -/
namespace Go.Proofs.YtfhkiaogfopigaaGreatDoor
open Go.RowKit

/-- A row of nodes that a call owns is a list of nodes. -/
theorem split_part (b : UInt8) (l : List UInt8) (j : Nat) : ((splitL b l).getD j []).length ≤ l.length := by
  have h1 : (splitGo b [] l).flatten.length ≤ l.length := by
    have := splitGo_flat b l []
    rw [List.length_nil, Nat.zero_add] at this
    exact this
  have h2 := part_le (splitL b l) j
  unfold splitL at h2 ⊢
  exact Nat.le_trans h2 h1

end Go.Proofs.YtfhkiaogfopigaaGreatDoor

/-! The contracts of chapter 6's specification: l6Parts, PartsOf. -/
namespace Go.Proofs.YtfhkiaogfopigaaGreatDoor
open Go.RowKit

/-- What a row of numbers holds. -/
def intsV (l : List Int) : List Value := l.map (fun i => Value.int .i64 i)
theorem intsV_len (l : List Int) : (intsV l).length = l.length := by simp [intsV]
end Go.Proofs.YtfhkiaogfopigaaGreatDoor

/-! The laws' own helpers over rows of numbers: eqInt64S, markInt64S, heldInt64S, likeInts. -/
namespace Go.Proofs.YtfhkiaogfopigaaGreatDoor
open Go.RowKit

theorem intsV_at (l : List Int) (j : Nat) (h : j < l.length) : (intsV l)[j]? = some (.int .i64 l[j]) := by
  unfold intsV; rw [List.getElem?_map, List.getElem?_eq_getElem h]; rfl

end Go.Proofs.YtfhkiaogfopigaaGreatDoor

/-! The contracts of the exact laws' own helpers over lists of texts: eqStringS, markStringS, heldStringS, markText. -/
namespace Go.Proofs.YtfhkiaogfopigaaGreatDoor
open Go.RowKit

/-- The digits of k ahead of acc. -/
def markGo : Nat → Nat → List UInt8 → List UInt8
  | 0, _, acc => acc
  | f + 1, k, acc => if k = 0 then acc else markGo f (k / 10) ((48 + UInt8.ofNat (k % 10)) :: acc)
def markL (k : Nat) : List UInt8 := 109 :: markGo k k []

theorem markGo_zero (f : Nat) (acc : List UInt8) : markGo f 0 acc = acc := by
  cases f with
  | zero => rfl
  | succ f => simp [markGo]

theorem markGo_step (f k : Nat) (acc : List UInt8) (h : k ≤ f) (hk : 0 < k) : ∃ f', k / 10 ≤ f' ∧ markGo f k acc = markGo f' (k / 10) ((48 + UInt8.ofNat (k % 10)) :: acc) := by
  obtain ⟨f', rfl⟩ : ∃ f', f = f' + 1 := ⟨f - 1, by omega⟩
  refine ⟨f', by omega, ?_⟩
  conv => lhs; unfold markGo
  rw [if_neg (by omega)]

theorem back1d (t : Int) (h2 : 0 ≤ t) (h3 : t ≤ 255) (W : World) :
    (convert 84 9 (.slice (some ⟨W.heap.size, 0, none⟩) 1 1)).run Tryz.prog (W.alloc (.cells #[.int .u8 t] 5)) = .ok (.string ⟨[UInt8.ofNat t.toNat].toArray⟩) (W.alloc (.cells #[.int .u8 t] 5)) := by
  have ht : ((UInt8.ofNat t.toNat).toNat : Int) = t := by
    rw [UInt8.toNat_ofNat']; omega
  have h := run_convert_bytes_back (P := Tryz.prog) (W.alloc (.cells #[.int .u8 t] 5)) 84 9 5 ⟨W.heap.size, 0, none⟩ 1 [UInt8.ofNat t.toNat] Tryz.underlying84 Tryz.underlying5 Tryz.underlying9 (by
    intro j hj
    have hj' : j < 1 := by simpa using hj
    match j, hj' with
    | 0, _ => simp only [List.getElem_cons_zero, ht]; simp [Addr.add, go_sem])
  exact h

set_option maxHeartbeats 1000000 in
set_option maxRecDepth 100000 in
theorem markTextC (k : Nat) (w : World) (h0 : 0 < k) (h1 : k ≤ 40000000) :
    Calls Tryz.prog 64 #[.int .i64 k] w fun e w' => e = .returned (.string ⟨(markL k).toArray⟩) ∧ w.grownBy w' none := by
  have hcat := cat_list
  go_enter Tryz.func64, Tryz.ntmps64
  go_wp2_with fail
  go_loopw [0, 3] (fun i v wr => ∃ f m : Nat, ∃ o : List UInt8, m ≤ f ∧ m ≤ k ∧ o.length + m ≤ k ∧ i = .int .i64 m ∧ v = .string ⟨o.toArray⟩ ∧ markGo f m o = markGo k k [] ∧ w.grownBy wr none) (fun i _ _ => (intOf i).toNat)
  case atStart => exact ⟨k, k, [], Nat.le_refl _, Nat.le_refl _, by simp, rfl, rfl, rfl, World.grownBy.refl _ _⟩
  case round =>
    obtain ⟨f, m, o, hf, hm, hol, rfl, rfl, hgo, hg⟩ := hrel
    by_cases hlt : 0 < m
    · obtain ⟨f', hf', hst⟩ := markGo_step f m o hf hlt
      have HS : Hid (markGo f' (m / 10) ((48 + UInt8.ofNat (m % 10)) :: o) = markGo k k []) := by
        have := hst.symm.trans hgo
        exact this
      clear hst hgo
      have hbk := back1d (48 + (m : Int) % 10) (by omega) (by omega)
      go_wp2
      go_roundw
      case rel =>
        exact ⟨f', m / 10, (48 + UInt8.ofNat (m % 10)) :: o, hf', by omega, by rw [List.length_cons]; omega, by go_num, rfl, HS.out, hg.trans (World.grownBy_alloc _ _ _)⟩
      case measure => simp [intOf]; omega
    · obtain rfl : m = 0 := by omega
      have HE : Hid (o = markGo k k []) := (markGo_zero f o).symm.trans hgo
      go_wp2
      go_ret
      exact ⟨ret_strl (by unfold markL; rw [← HE.out]), hg⟩

end Go.Proofs.YtfhkiaogfopigaaGreatDoor

/-! The contracts of the exact laws' own helpers over lists of texts: eqStringS, markStringS, heldStringS. -/
namespace Go.Proofs.YtfhkiaogfopigaaGreatDoor
open Go.RowKit

/-- The marks from k on. -/
def marksV (k : Nat) : Nat → List Value
  | 0 => []
  | n + 1 => marksV k n ++ [.string ⟨(markL (k + n)).toArray⟩]

theorem marksV_len (k n : Nat) : (marksV k n).length = n := by
  induction n with
  | zero => rfl
  | succ n ih => simp [marksV, ih]

theorem marksV_at (k n j : Nat) (h : j < n) : (marksV k n)[j]? = some (.string ⟨(markL (k + j)).toArray⟩) := by
  induction n with
  | zero => omega
  | succ n ih =>
    unfold marksV
    by_cases hj : j < n
    · rw [List.getElem?_append_left (by rw [marksV_len]; exact hj)]; exact ih hj
    · obtain rfl : j = n := by omega
      rw [List.getElem?_append_right (by rw [marksV_len]; omega), marksV_len]
      simp

theorem marks_set (k i : Nat) (xs : List Value) (h : i < xs.length) : (marksV k i ++ xs.drop i).set i (.string ⟨(markL (k + i)).toArray⟩) = marksV k (i + 1) ++ xs.drop (i + 1) := by
  rw [List.set_append, if_neg (by rw [marksV_len]; omega), marksV_len, Nat.sub_self]
  rw [List.drop_eq_getElem_cons h, List.set_cons_zero]
  conv => rhs; unfold marksV
  rw [List.append_assoc]; rfl

set_option maxHeartbeats 1000000 in
set_option maxRecDepth 100000 in
theorem markStrC (w : World) (base g cp n k0 : Nat) (xs : List Value) (hn : n ≤ 1100000) (hk0 : 0 < k0) (hk1 : k0 ≤ 800000)
    (h : w.ownsRow base 9 1 (.slice (some ⟨g, 0, none⟩) n cp) n xs) :
    Calls Tryz.prog 49 #[.slice (some ⟨g, 0, none⟩) n cp, .int .i64 k0] w fun e w' => e = .returned (.int .i64 ((k0 + n : Nat) : Int)) ∧ w'.ownsRow base 9 1 (.slice (some ⟨g, 0, none⟩) n cp) n (marksV k0 n) ∧ w.grownBy w' (some g) := by
  have hxl : Hid (xs.length = n) := by exact (by have := h.1; omega : xs.length = n)
  have hgl : g < w.heap.size := (h.lt g rfl).2
  go_enter Tryz.func49, Tryz.ntmps49
  go_wp2
  go_loopw [1, 5] (fun k i wr => ∃ m : Nat, m ≤ n ∧ i = .int .i64 m ∧ k = .int .i64 ((k0 + m : Nat) : Int) ∧ wr.ownsRow base 9 1 (.slice (some ⟨g, 0, none⟩) n cp) n (marksV k0 m ++ xs.drop m) ∧ w.grownBy wr (some g)) (fun _ i _ => n - (intOf i).toNat)
  case atStart => exact ⟨0, Nat.zero_le _, rfl, rfl, h, World.grownBy.refl _ _⟩
  case round =>
    obtain ⟨m, hm, rfl, rfl, hown, hg⟩ := hrel
    by_cases hlt : m < n
    · go_wp2_with fail
      refine (markTextC (k0 + m) _ (by omega) (by omega)).mono ?_
      rintro e w1 ⟨rfl, hg1⟩
      have hown1 := own_none hown hg1
      have hc1 : ∃ u, w1.cell? ⟨g, m, none⟩ = some u := by
        rw [hown1.cellAt m (by omega)]
        have hl : m < (marksV k0 m ++ xs.drop m).length := by rw [List.length_append, marksV_len, List.length_drop]; have := hxl.out; omega
        exact ⟨_, List.getElem?_eq_getElem hl⟩
      obtain ⟨u, hc1⟩ := hc1
      have hf1 := hown1.frozenAt m
      have hst := hown1.stored m (.string ⟨(markL (k0 + m)).toArray⟩)
      rw [marks_set k0 m xs (by have := hxl.out; omega)] at hst
      have hg2 : w.grownBy w1 (some g) := hg.andThen hg1 (by simp)
      have hst2 := hg2.trans hst.2
      have hst1 := hst.1
      clear hown hown1 hg1 hst hg2 hg
      go_wp2
      go_roundw
      case rel => exact ⟨m + 1, by omega, by go_num, by go_num, hst1, hst2⟩
      case measure => simp [intOf]; omega
    · obtain rfl : m = n := by omega
      have hd : xs.drop m = [] := List.drop_eq_nil_of_le (by have := hxl.out; omega)
      rw [hd, List.append_nil] at hown
      clear hd
      go_wp2
      go_ret
      exact ⟨rfl, hown, hg⟩

set_option maxHeartbeats 1000000 in
set_option maxRecDepth 100000 in
theorem heldStrC (w : World) (base g cp n k0 : Nat) (hn : n ≤ 1100000) (hk0 : 0 < k0) (hk1 : k0 ≤ 800000)
    (h : w.ownsRow base 9 1 (.slice (some ⟨g, 0, none⟩) n cp) n (marksV k0 n)) :
    Calls Tryz.prog 50 #[.slice (some ⟨g, 0, none⟩) n cp, .int .i64 k0] w fun e w' => e = .returned (.int .i64 ((k0 + n : Nat) : Int)) ∧ w.grownBy w' none := by
  have hself : ∀ l : List UInt8, (l != l) = false := by simp
  have HA : Hid (∀ j, j < n → w.cell? ⟨g, j, none⟩ = some (.string ⟨(markL (k0 + j)).toArray⟩)) := fun j hj => by rw [h.cellAt j (by omega), marksV_at k0 n j hj]
  clear h
  go_enter Tryz.func50, Tryz.ntmps50
  go_wp2
  go_loopw [1, 5] (fun k i wr => ∃ m : Nat, m ≤ n ∧ i = .int .i64 m ∧ k = .int .i64 ((k0 + m : Nat) : Int) ∧ w.grownBy wr none) (fun _ i _ => n - (intOf i).toNat)
  case atStart => exact ⟨0, Nat.zero_le _, rfl, rfl, World.grownBy.refl _ _⟩
  case round =>
    obtain ⟨m, hm, rfl, rfl, hg⟩ := hrel
    by_cases hlt : m < n
    · have hca : wr.cell? ⟨g, m, none⟩ = some (.string ⟨(markL (k0 + m)).toArray⟩) := hg.cell (HA.out m hlt) (by simp)
      go_wp2
      go_region_with (go_at_call 64; refine (markTextC (k0 + m) _ (by omega) (by omega)).mono ?_; rintro e w1 ⟨rfl, hg1⟩; have hca1 := hg1.cell (a := ⟨g, m, none⟩) hca (by simp))
      all_goals (try go_wp2)
      all_goals
        go_roundw
        case rel => exact ⟨m + 1, by omega, by go_num, by go_num, by first | exact hg.trans hg1 | exact (hg.trans (grown_drew _ _)).trans hg1⟩
        case measure => simp [intOf]; omega
    · obtain rfl : m = n := by omega
      go_wp2
      go_ret
      exact ⟨rfl, hg⟩

end Go.Proofs.YtfhkiaogfopigaaGreatDoor

/-! The helpers over lists of texts, whatever the list's value: nil, empty or not. -/
namespace Go.Proofs.YtfhkiaogfopigaaGreatDoor
open Go.RowKit

set_option maxHeartbeats 400000 in
set_option maxRecDepth 100000 in
theorem markStrNil (w : World) (k0 : Nat) :
    Calls Tryz.prog 49 #[.slice none 0 0, .int .i64 k0] w fun e w' => e = .returned (.int .i64 (k0 : Int)) ∧ w' = w := by
  go_enter Tryz.func49, Tryz.ntmps49
  go_wp2
  refine wp_loop_rounds 1 ?_
  rw [rounds_succ]
  go_wp2
  go_ret
  exact ⟨rfl, rfl⟩

theorem markStrV (w : World) (base n k0 : Nat) (v : Value) (xs : List Value) (hn : n ≤ 1100000) (hk0 : 0 < k0) (hk1 : k0 ≤ 800000) (h : w.ownsRow base 9 1 v n xs) :
    Calls Tryz.prog 49 #[v, .int .i64 k0] w fun e w' => e = .returned (.int .i64 ((k0 + n : Nat) : Int)) ∧ w'.ownsRow base 9 1 v n (marksV k0 n) ∧ w.grownBy w' v.ownBlock := by
  rcases own_forms h with ⟨rfl, rfl, rfl⟩ | ⟨g, cp, rfl⟩
  · refine (markStrNil w k0).mono ?_
    rintro e w' ⟨rfl, rfl⟩
    exact ⟨rfl, h, World.grownBy.refl _ _⟩
  · exact markStrC w base g cp n k0 xs hn hk0 hk1 h

set_option maxHeartbeats 400000 in
set_option maxRecDepth 100000 in
theorem heldStrNil (w : World) (k0 : Nat) :
    Calls Tryz.prog 50 #[.slice none 0 0, .int .i64 k0] w fun e w' => e = .returned (.int .i64 (k0 : Int)) ∧ w' = w := by
  go_enter Tryz.func50, Tryz.ntmps50
  go_wp2
  refine wp_loop_rounds 1 ?_
  rw [rounds_succ]
  go_wp2
  go_ret
  exact ⟨rfl, rfl⟩

theorem heldStrV (w : World) (base n k0 : Nat) (v : Value) (hn : n ≤ 1100000) (hk0 : 0 < k0) (hk1 : k0 ≤ 800000) (h : w.ownsRow base 9 1 v n (marksV k0 n)) :
    Calls Tryz.prog 50 #[v, .int .i64 k0] w fun e w' => e = .returned (.int .i64 ((k0 + n : Nat) : Int)) ∧ w.grownBy w' none := by
  rcases own_forms h with ⟨rfl, rfl, _⟩ | ⟨g, cp, rfl⟩
  · refine (heldStrNil w k0).mono ?_
    rintro e w' ⟨rfl, rfl⟩
    exact ⟨rfl, World.grownBy.refl _ _⟩
  · exact heldStrC w base g cp n k0 hn hk0 hk1 h

end Go.Proofs.YtfhkiaogfopigaaGreatDoor
