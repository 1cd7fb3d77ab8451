/-
  Parts of one proof, one behind the other: TreeS3, Math7S, Math7R, Math8.
-/
import Derived.Test.YtglhbcbilepomaaDoorP3
import Derived.Deep.RegionHeld3

/-! The contracts of chapter 6's specification: TreeOk; a node and a tree are shown. -/
namespace Go.Proofs.YtglhbcbilepomaaDoor
open Go.RowKit


theorem intL_short (a : Int) (h0 : -2147483648 ≤ a) (h1 : a ≤ 2147483647) : (intL a).length ≤ 11 := by
  have h := digL_len 9 a.natAbs (by omega)
  unfold intL
  split
  · simp; omega
  · omega


theorem show_len (n : Nd) (h : nodeB n = true) : (showN n).length ≤ 30 := by
  obtain ⟨k, a, p, f⟩ := n
  have hp := nodeB_iff.1 h
  unfold nodeP at hp
  simp only at hp
  rcases hp with ⟨rfl, ⟨h0, h1⟩, rfl, rfl⟩ | ⟨rfl, ⟨h0, h1⟩, rfl, rfl⟩ | ⟨hk, rfl, rfl, rfl⟩ | ⟨rfl, ⟨h0, h1⟩, hpn, hfn⟩
  · have hs : showN (1, a, [], []) = intL a := by unfold showN; simp
    rw [hs]; have := intL_short a h0 h1; omega
  · have hs : showN (2, a, [], []) = 36 :: intL a := by unfold showN; simp
    rw [hs]; have := intL_short a (by omega) (by omega); simp; omega
  · rcases (show k = 3 ∨ k = 4 ∨ k = 5 ∨ k = 6 ∨ k = 7 by omega) with rfl | rfl | rfl | rfl | rfl <;> (unfold showN; simp)
  · have hs : showN (8, a, p, f) = (64 :: p) ++ [46] ++ f ++ [47] ++ intL a := by unfold showN; simp
    rw [hs]
    have := intL_short a (by omega) (by omega)
    have := (name_letters hpn).1
    have := (name_letters hfn).1
    simp; omega

theorem joinBy_len (ws : List (List UInt8)) (m : Nat) (h : ∀ x ∈ ws, x.length ≤ m) : (joinBy 32 ws).length ≤ ws.length * (m + 1) := by
  induction ws with
  | nil => simp [joinBy]
  | cons x r ih =>
    have hx := h x (by simp)
    have ir := ih (fun y hy => h y (by simp [hy]))
    rw [List.length_cons, Nat.add_mul, Nat.one_mul]
    by_cases hr : r = []
    · subst hr; simp [joinBy]; omega
    · rw [joinBy_cons 32 x r hr]; simp only [List.length_append, List.length_singleton]; omega

theorem showL_len (ns : List Nd) (h : ∀ n ∈ ns, nodeB n = true) : (showL ns).length ≤ ns.length * 31 := by
  have := joinBy_len (ns.map showN) 30 (by intro x hx; obtain ⟨n, hn, rfl⟩ := List.mem_map.1 hx; exact show_len n (h n hn))
  rw [List.length_map] at this
  exact this

theorem showL_step (ns : List Nd) (k : Nat) (hk : k < ns.length) : showL (ns.take (k + 1)) = if k = 0 then showN (ns.getD k nd0) else showL (ns.take k) ++ [32] ++ showN (ns.getD k nd0) := by
  unfold showL
  have h := joinBy_step 32 (ns.map showN) k (by simpa using hk)
  rw [← List.map_take, ← List.map_take] at h
  have hg : (ns.map showN).getD k [] = showN (ns.getD k nd0) := by simp [List.getD, hk]
  rw [hg] at h
  exact h

theorem showL_take (ns : List Nd) (k : Nat) : (showL (ns.take k)).length ≤ (showL ns).length := by
  unfold showL
  have := joinBy_take 32 (ns.map showN) k
  rw [← List.map_take] at this
  exact this



end Go.Proofs.YtglhbcbilepomaaDoor

/-! Plain facts for chapter 7: how a package is shown and read. -/
namespace Go.Proofs.YtglhbcbilepomaaDoor
open Go.RowKit

theorem split_term (ls : List (List UInt8)) (h : ∀ x ∈ ls, ∀ c ∈ x, c ≠ 10) : splitL 10 (termJ ls) = ls ++ [[]] := by
  unfold splitL
  induction ls with
  | nil => rfl
  | cons x r ih =>
    have e : termJ (x :: r) = x ++ 10 :: termJ r := by simp [termJ]
    rw [e, split_one 10 x (termJ r) [] (h x (by simp)), ih (fun y hy => h y (by simp [hy])), List.nil_append]
    rfl

theorem lines_term (ls : List (List UInt8)) (h : ∀ x ∈ ls, ∀ c ∈ x, c ≠ 10) : linesL (termJ ls) = ls := by
  unfold linesL
  rw [split_term ls h, if_pos (by simp [List.getLastD_eq_getLast?]), List.dropLast_concat]

def kwPackage : List UInt8 := [112, 97, 99, 107, 97, 103, 101]
def kwImport : List UInt8 := [105, 109, 112, 111, 114, 116]
def kwFunc : List UInt8 := [102, 117, 110, 99]

def packLn (s : List UInt8) : List UInt8 := kwPackage ++ [32] ++ s
def impLn (s : List UInt8) : List UInt8 := kwImport ++ [32] ++ s
def funcLn (f : Fn) : List UInt8 := kwFunc ++ [32] ++ f.1 ++ [32] ++ intL f.2.1 ++ [32] ++ showL f.2.2
def pkLines (p : Pk) : List (List UInt8) := packLn p.1 :: (p.2.1.map impLn ++ p.2.2.map funcLn)
def showP (p : Pk) : List UInt8 := termJ (pkLines p)
def showPk (p : Pk) : List UInt8 := if pkgB p = true then showP p else []

/-- What a line adds. -/
noncomputable def readLn (p : Pk) (l : List UInt8) : Option Pk :=
  if (splitL 32 l).getD 0 [] = kwPackage ∧ (splitL 32 l).length = 2 then some ((splitL 32 l).getD 1 [], p.2.1, p.2.2)
  else if (splitL 32 l).getD 0 [] = kwImport ∧ (splitL 32 l).length = 2 then some (p.1, p.2.1 ++ [(splitL 32 l).getD 1 []], p.2.2)
  else if (splitL 32 l).getD 0 [] = kwFunc ∧ 3 < (splitL 32 l).length then
    (if readOk (l.drop (((splitL 32 l).getD 1 []).length + ((splitL 32 l).getD 2 []).length + 7)) = true then
      some (p.1, p.2.1, p.2.2 ++ [((splitL 32 l).getD 1 [], readV ((splitL 32 l).getD 2 []), readTV (l.drop (((splitL 32 l).getD 1 []).length + ((splitL 32 l).getD 2 []).length + 7)))])
    else none)
  else none

noncomputable def readLs : Pk → List (List UInt8) → Option Pk
  | p, [] => some p
  | p, l :: r => match readLn p l with | none => none | some q => readLs q r

theorem name_noblank {s : List UInt8} (h : nameB s = true) : ∀ c ∈ s, c ≠ 32 := fun c hc e => by
  have := (name_letters h).2 c hc
  rw [e] at this
  simp at this

theorem two_words (a b : List UInt8) (ha : ∀ c ∈ a, c ≠ 32) (hb : ∀ c ∈ b, c ≠ 32) : splitL 32 (a ++ [32] ++ b) = [a, b] := by
  have := split_join 32 [a, b] (by simp) (by intro x hx; simp at hx; rcases hx with rfl | rfl <;> assumption)
  simpa [joinBy] using this

theorem read_pack (p : Pk) (s : List UInt8) (h : nameB s = true) : readLn p (packLn s) = some (s, p.2.1, p.2.2) := by
  have hs : splitL 32 (packLn s) = [kwPackage, s] := two_words _ _ (by decide) (name_noblank h)
  unfold readLn
  rw [hs]
  simp

theorem read_imp (p : Pk) (s : List UInt8) (h : nameB s = true) : readLn p (impLn s) = some (p.1, p.2.1 ++ [s], p.2.2) := by
  have hs : splitL 32 (impLn s) = [kwImport, s] := two_words _ _ (by decide) (name_noblank h)
  unfold readLn
  rw [hs]
  rw [if_neg (by simp [kwImport, kwPackage]), if_pos (by simp)]
  simp

theorem tree_backL {ns : List Nd} (h : treeB ns = true) : readOk (showL ns) = true ∧ readTV (showL ns) = ns := by
  have hr := readT_show ns h
  have hok : readOk (showL ns) = true := by
    unfold readOk
    rw [hr]
    have h1 := showL_len ns (tree_nodes h)
    have h2 := (tree_end h).1.2
    simp only [Bool.and_eq_true, decide_eq_true_eq, beq_iff_eq]
    exact ⟨by omega, h, trivial⟩
  exact ⟨hok, by unfold readTV; rw [if_pos hok]; exact hr⟩

theorem joinBy_front (b : UInt8) (x y z : List UInt8) (r : List (List UInt8)) (hr : r ≠ []) : joinBy b (x :: y :: z :: r) = x ++ [b] ++ y ++ [b] ++ z ++ [b] ++ joinBy b r := by
  rw [joinBy_cons b x _ (by simp), joinBy_cons b y _ (by simp), joinBy_cons b z _ hr]
  simp

theorem read_func (p : Pk) (f : Fn) (h : funcB f = true) : readLn p (funcLn f) = some (p.1, p.2.1, p.2.2 ++ [f]) := by
  obtain ⟨s, n, t⟩ := f
  unfold funcB at h
  simp only [Bool.and_eq_true] at h
  obtain ⟨hs, hn, ht⟩ := h
  have hnb : 0 ≤ n ∧ n ≤ 3 := by unfold inB at hn; exact of_decide_eq_true hn
  have htl := (tree_end ht).1
  have htn : t.map showN ≠ [] := by intro e; have := congrArg List.length e; simp at this; rw [this] at htl; simp at htl
  have hrd := read_of_int n (by omega) (by omega)
  have hj : funcLn (s, n, t) = joinBy 32 (kwFunc :: s :: intL n :: t.map showN) := by
    rw [joinBy_front 32 _ _ _ _ htn]; rfl
  have hsp : splitL 32 (funcLn (s, n, t)) = kwFunc :: s :: intL n :: t.map showN := by
    rw [hj]
    refine split_join 32 _ (by simp) ?_
    intro x hx
    simp only [List.mem_cons, List.mem_map] at hx
    rcases hx with rfl | rfl | rfl | ⟨m, hm, rfl⟩
    · decide
    · exact name_noblank hs
    · intro c hc e
      have := intL_bytes n (by omega) (by omega) c hc
      rw [e] at this
      simp at this
    · exact show_noblank m (tree_nodes ht m hm)
  have hdrop : (funcLn (s, n, t)).drop (s.length + (intL n).length + 7) = showL t := by
    have e : funcLn (s, n, t) = (kwFunc ++ [32] ++ s ++ [32] ++ intL n ++ [32]) ++ showL t := rfl
    rw [e, List.drop_append_of_le_length (by simp [kwFunc]; omega)]
    rw [List.drop_of_length_le (by simp [kwFunc]; omega)]
    simp
  unfold readLn
  rw [hsp]
  rw [if_neg (by simp [kwFunc, kwPackage]), if_neg (by simp [kwFunc, kwImport]), if_pos (by simp; omega)]
  simp only [List.getD_cons_zero, List.getD_cons_succ]
  rw [hdrop, if_pos (tree_backL ht).1, (tree_backL ht).2, hrd.2]

theorem readLs_imps (r : List (List UInt8)) : ∀ (ims : List (List UInt8)) (p : Pk), (∀ x ∈ ims, nameB x = true) → readLs p (ims.map impLn ++ r) = readLs (p.1, p.2.1 ++ ims, p.2.2) r
  | [], p, _ => by simp
  | s :: ims, p, h => by
    rw [List.map_cons, List.cons_append, readLs, read_imp p s (h s (by simp))]
    simp only
    rw [readLs_imps r ims _ (fun x hx => h x (by simp [hx]))]
    simp

theorem readLs_funcs : ∀ (fs : List Fn) (p : Pk), (∀ f ∈ fs, funcB f = true) → readLs p (fs.map funcLn) = some (p.1, p.2.1, p.2.2 ++ fs)
  | [], p, _ => by simp [readLs]
  | f :: fs, p, h => by
    rw [List.map_cons, readLs, read_func p f (h f (by simp))]
    simp only
    rw [readLs_funcs fs _ (fun x hx => h x (by simp [hx]))]
    simp

theorem pkgB_parts {p : Pk} (h : pkgB p = true) : nameB p.1 = true ∧ (∀ x ∈ p.2.1, nameB x = true) ∧ p.2.1.length ≤ 6 ∧ (1 ≤ p.2.2.length ∧ p.2.2.length ≤ 8) ∧ (∀ f ∈ p.2.2, funcB f = true) := by
  unfold pkgB importsB inB at h
  simp only [Bool.and_eq_true, decide_eq_true_eq] at h
  obtain ⟨⟨h1, ⟨h2, h3, _⟩, h4⟩, h5⟩ := h
  refine ⟨h1, fun x hx => ?_, h3, by omega, fun f hf => ?_⟩
  · obtain ⟨i, hi, rfl⟩ := List.getElem_of_mem hx
    have := h2 i hi
    rwa [List.getD_eq_getElem?_getD, List.getElem?_eq_getElem hi] at this
  · obtain ⟨i, hi, rfl⟩ := List.getElem_of_mem hf
    have := (h5 i hi).1
    rwa [List.getD_eq_getElem?_getD, List.getElem?_eq_getElem hi] at this

/-- What is shown of a right package is read as it, line by line. -/
theorem read_lines {p : Pk} (h : pkgB p = true) : readLs ([], [], []) (pkLines p) = some p := by
  obtain ⟨h1, h2, _, _, h5⟩ := pkgB_parts h
  unfold pkLines
  rw [readLs, read_pack _ _ h1]
  simp only
  rw [readLs_imps _ _ _ h2, readLs_funcs _ _ h5]
  simp

end Go.Proofs.YtglhbcbilepomaaDoor

/-! Plain facts for chapter 7: ReadPackage of ShowPackage is the package. -/
namespace Go.Proofs.YtglhbcbilepomaaDoor
open Go.RowKit

def lineT (x : List UInt8) : List UInt8 := x ++ [10]

def pk0 : Pk := ([], [], [])

theorem name_no10 {s : List UInt8} (h : nameB s = true) : ∀ c ∈ s, c ≠ 10 := fun c hc e => by
  have := (name_letters h).2 c hc
  rw [e] at this
  simp at this

theorem int_no10 (n : Int) (h0 : -2147483648 ≤ n) (h1 : n ≤ 2147483647) : ∀ c ∈ intL n, c ≠ 10 := fun c hc e => by
  have := intL_bytes n h0 h1 c hc
  rw [e] at this
  simp at this

theorem show_no10 (n : Nd) (h : nodeB n = true) : ∀ c ∈ showN n, c ≠ 10 := by
  obtain ⟨k, a, p, f⟩ := n
  have hp := nodeB_iff.1 h
  unfold nodeP at hp
  simp only at hp
  rcases hp with ⟨rfl, ⟨h0, h1⟩, rfl, rfl⟩ | ⟨rfl, ⟨h0, h1⟩, rfl, rfl⟩ | ⟨hk, rfl, rfl, rfl⟩ | ⟨rfl, ⟨h0, h1⟩, hpn, hfn⟩
  · have hs : showN (1, a, [], []) = intL a := by unfold showN; simp
    rw [hs]; exact int_no10 a h0 h1
  · have hs : showN (2, a, [], []) = 36 :: intL a := by unfold showN; simp
    rw [hs]
    intro c hc
    rcases List.mem_cons.1 hc with rfl | hc
    · decide
    · exact int_no10 a (by omega) (by omega) c hc
  · rcases (show k = 3 ∨ k = 4 ∨ k = 5 ∨ k = 6 ∨ k = 7 by omega) with rfl | rfl | rfl | rfl | rfl <;> (unfold showN; simp)
  · have hs : showN (8, a, p, f) = (64 :: p) ++ [46] ++ f ++ [47] ++ intL a := by unfold showN; simp
    rw [hs]
    intro c hc
    simp only [List.mem_append, List.mem_cons, List.not_mem_nil, or_false] at hc
    rcases hc with ((((rfl | hc) | rfl) | hc) | rfl) | hc
    · decide
    · exact name_no10 hpn c hc
    · decide
    · exact name_no10 hfn c hc
    · decide
    · exact int_no10 a (by omega) (by omega) c hc

theorem join_no (d b : UInt8) (hd : b ≠ d) : ∀ (ws : List (List UInt8)), (∀ x ∈ ws, ∀ c ∈ x, c ≠ d) → ∀ c ∈ joinBy b ws, c ≠ d
  | [], _ => by simp [joinBy]
  | [x], h => by simpa [joinBy] using h
  | x :: y :: r, h => by
    intro c hc
    rw [joinBy_cons b x (y :: r) (by simp)] at hc
    simp only [List.mem_append, List.mem_singleton] at hc
    rcases hc with (hc | rfl) | hc
    · exact h x (by simp) c hc
    · exact hd
    · exact join_no d b hd (y :: r) (fun z hz => h z (by simp at hz ⊢; exact Or.inr hz)) c hc

theorem lines_no10 {p : Pk} (h : pkgB p = true) : ∀ x ∈ pkLines p, ∀ c ∈ x, c ≠ 10 := by
  obtain ⟨h1, h2, _, _, h5⟩ := pkgB_parts h
  intro x hx
  unfold pkLines at hx
  simp only [List.mem_cons, List.mem_append, List.mem_map] at hx
  rcases hx with rfl | ⟨s, hs, rfl⟩ | ⟨f, hf, rfl⟩
  · intro c hc
    unfold packLn kwPackage at hc
    rw [List.mem_append] at hc
    rcases hc with hc | hc
    · intro e; rw [e] at hc; revert hc; decide
    · exact name_no10 h1 c hc
  · intro c hc
    unfold impLn kwImport at hc
    rw [List.mem_append] at hc
    rcases hc with hc | hc
    · intro e; rw [e] at hc; revert hc; decide
    · exact name_no10 (h2 s hs) c hc
  · have hfb := h5 f hf
    obtain ⟨s, n, t⟩ := f
    unfold funcB at hfb
    simp only [Bool.and_eq_true] at hfb
    obtain ⟨hs, hn, ht⟩ := hfb
    have hnb : 0 ≤ n ∧ n ≤ 3 := by unfold inB at hn; exact of_decide_eq_true hn
    intro c hc
    unfold funcLn kwFunc at hc
    simp only [List.mem_append] at hc
    rcases hc with (((((hc | hc) | hc) | hc) | hc) | hc) | hc
    · intro e; rw [e] at hc; revert hc; decide
    · intro e; rw [e] at hc; revert hc; decide
    · exact name_no10 hs c hc
    · intro e; rw [e] at hc; revert hc; decide
    · exact int_no10 n (by omega) (by omega) c hc
    · intro e; rw [e] at hc; revert hc; decide
    · exact join_no 10 32 (by decide) _ (by intro y hy; obtain ⟨m, hm, rfl⟩ := List.mem_map.1 hy; exact show_no10 m (tree_nodes ht m hm)) c hc

theorem termJ_len (n : Nat) : ∀ ls : List (List UInt8), (∀ x ∈ ls, x.length ≤ n) → (termJ ls).length ≤ ls.length * (n + 1)
  | [], _ => by simp [termJ]
  | x :: r, h => by
    have e : termJ (x :: r) = x ++ 10 :: termJ r := by simp [termJ]
    have h1 := h x (by simp)
    have h2 := termJ_len n r (fun y hy => h y (by simp [hy]))
    rw [e, List.length_append, List.length_cons, List.length_cons, Nat.succ_mul]
    omega

theorem funcLn_len {f : Fn} (h : funcB f = true) : (funcLn f).length ≤ 1900 := by
  obtain ⟨s, n, t⟩ := f
  unfold funcB at h
  simp only [Bool.and_eq_true] at h
  obtain ⟨hs, hn, ht⟩ := h
  have hnb : 0 ≤ n ∧ n ≤ 3 := by unfold inB at hn; exact of_decide_eq_true hn
  have h1 := showL_len t (tree_nodes ht)
  have h2 := (tree_end ht).1.2
  have h3 := (name_letters hs).1
  have h4 := intL_short n (by omega) (by omega)
  unfold funcLn kwFunc
  simp only [List.length_append, List.length_cons, List.length_nil]
  omega

theorem showP_len {p : Pk} (h : pkgB p = true) : (showP p).length ≤ 20000 := by
  obtain ⟨h1, h2, h3, h4, h5⟩ := pkgB_parts h
  have e : showP p = termJ (packLn p.1 :: p.2.1.map impLn) ++ termJ (p.2.2.map funcLn) := by
    unfold showP pkLines
    rw [← List.cons_append]
    simp [termJ]
  have ha := termJ_len 20 (packLn p.1 :: p.2.1.map impLn) (by
    intro x hx
    simp only [List.mem_cons, List.mem_map] at hx
    rcases hx with rfl | ⟨s, hs, rfl⟩
    · have := (name_letters h1).1
      unfold packLn kwPackage; simp; omega
    · have := (name_letters (h2 s hs)).1
      unfold impLn kwImport; simp; omega)
  have hb := termJ_len 1900 (p.2.2.map funcLn) (by
    intro x hx
    obtain ⟨f, hf, rfl⟩ := List.mem_map.1 hx
    exact funcLn_len (h5 f hf))
  rw [List.length_cons, List.length_map] at ha
  rw [List.length_map] at hb
  rw [e, List.length_append]
  omega

/-- What is read of a text: the package, where there is one. -/
noncomputable def readPB (s : List UInt8) : Bool := decide (s.length ≤ 20000) && (match readLs pk0 (linesL s) with | none => false | some p => pkgB p && (showP p == s))
noncomputable def readPV (s : List UInt8) : Pk := if readPB s = true then (readLs pk0 (linesL s)).getD pk0 else pk0

theorem read_pv (s : List UInt8) : (readPB s = true ∧ pkgB (readPV s) = true ∧ showPk (readPV s) = s) ∨ (readPB s = false ∧ readPV s = pk0) := by
  rcases h : readPB s with _ | _
  · exact Or.inr ⟨rfl, by unfold readPV; rw [if_neg (by rw [h]; simp)]⟩
  · have hv : readPV s = (readLs pk0 (linesL s)).getD pk0 := by unfold readPV; rw [if_pos h]
    unfold readPB at h
    rw [Bool.and_eq_true] at h
    obtain ⟨_, h⟩ := h
    cases he : readLs pk0 (linesL s) with
    | none => rw [he] at h; cases h
    | some p =>
      rw [he] at h hv
      simp only [Bool.and_eq_true, beq_iff_eq] at h
      rw [Option.getD_some] at hv
      rw [hv]
      exact Or.inl ⟨rfl, h.1, by unfold showPk; rw [if_pos h.1]; exact h.2⟩

theorem pack_back {p : Pk} (h : pkgB p = true) : showPk p ≠ [] ∧ readPB (showPk p) = true ∧ readPV (showPk p) = p := by
  have hs : showPk p = showP p := by unfold showPk; rw [if_pos h]
  have hl : linesL (showP p) = pkLines p := lines_term _ (lines_no10 h)
  have hr : readLs pk0 (linesL (showP p)) = some p := by rw [hl]; exact read_lines h
  have hb : readPB (showP p) = true := by
    unfold readPB
    rw [hr, decide_eq_true (showP_len h)]
    simp [h]
  refine ⟨?_, by rw [hs]; exact hb, by rw [hs]; unfold readPV; rw [if_pos hb, hr, Option.getD_some]⟩
  rw [hs]
  unfold showP pkLines packLn kwPackage
  simp [termJ]

theorem pack_not {p : Pk} (h : pkgB p = false) : showPk p = [] := by unfold showPk; rw [if_neg (by rw [h]; simp)]

end Go.Proofs.YtglhbcbilepomaaDoor

/-! Plain facts of chapter 8: texts in order, lists of names, projects. -/
namespace Go.Proofs.YtglhbcbilepomaaDoor
open Go.RowKit

theorem lt8_irr : ∀ x : List UInt8, Op.bytesLess x x = false
  | [] => rfl
  | a :: r => by simp [Op.bytesLess, lt8_irr r]
theorem lt8_trans : ∀ {x y z : List UInt8}, Op.bytesLess x y = true → Op.bytesLess y z = true → Op.bytesLess x z = true
  | x, y, [], _, h => by cases y <;> simp [Op.bytesLess] at h
  | [], y, c :: z, _, _ => rfl
  | a :: x, [], c :: z, h, _ => by simp [Op.bytesLess] at h
  | a :: x, b :: y, c :: z, h, k => by
    simp only [Op.bytesLess, Bool.or_eq_true, decide_eq_true_eq, Bool.and_eq_true, beq_iff_eq] at h k ⊢
    rcases h with h | ⟨rfl, h⟩
    · rcases k with k | ⟨rfl, k⟩
      · exact Or.inl (UInt8.lt_trans h k)
      · exact Or.inl h
    · rcases k with k | ⟨rfl, k⟩
      · exact Or.inl k
      · exact Or.inr ⟨rfl, lt8_trans h k⟩
theorem lt8_tri : ∀ {x y : List UInt8}, Op.bytesLess x y = false → Op.bytesLess y x = false → x = y
  | [], [], _, _ => rfl
  | [], b :: y, h, _ => by simp [Op.bytesLess] at h
  | a :: x, [], _, k => by simp [Op.bytesLess] at k
  | a :: x, b :: y, h, k => by
    simp only [Op.bytesLess, Bool.or_eq_false_iff, decide_eq_false_iff_not, Bool.and_eq_false_iff, beq_eq_false_iff_ne] at h k
    have hab : a = b := by
      have h1 := h.1
      have h2 := k.1
      rw [UInt8.lt_iff_toNat_lt] at h1 h2
      exact UInt8.toNat_inj.1 (by omega)
    subst hab
    rw [lt8_tri (h.2.resolve_left (by simp)) (k.2.resolve_left (by simp))]
/-- One is behind another. -/
theorem leT_no {a b : List UInt8} : leT b a = false ↔ Op.bytesLess a b = true := by
  unfold leT
  rw [Bool.or_eq_false_iff, beq_eq_false_iff_ne]
  constructor
  · rintro ⟨h, hne⟩
    rcases hx : Op.bytesLess a b with _ | _
    · exact absurd (lt8_tri h hx) hne
    · rfl
  · intro h
    refine ⟨?_, fun e => ?_⟩
    · rcases hx : Op.bytesLess b a with _ | _
      · rfl
      · have := lt8_trans h hx; rw [lt8_irr] at this; cases this
    · subst e; rw [lt8_irr] at h; cases h

/-- A list that rises. -/
def Rise (ts : List (List UInt8)) : Prop := ts.Pairwise (fun a b => Op.bytesLess a b = true)
theorem Rise.nodup {ts : List (List UInt8)} (h : Rise ts) : ts.Nodup := h.imp (fun {a b} hab e => by subst e; rw [lt8_irr] at hab; cases hab)
theorem rise_at {ts : List (List UInt8)} (h : ∀ i, i + 1 < ts.length → Op.bytesLess (ts.getD i []) (ts.getD (i + 1) []) = true) : Rise ts := by
  have hd : ∀ d i, i + d + 1 < ts.length → Op.bytesLess (ts.getD i []) (ts.getD (i + d + 1) []) = true := by
    intro d
    induction d with
    | zero => intro i hi; exact h i hi
    | succ d ih => intro i hi; exact lt8_trans (ih i (by omega)) (h (i + d + 1) (by omega))
  refine List.pairwise_iff_getElem.2 (fun i j hi hj hij => ?_)
  have hh := hd (j - i - 1) i (by omega)
  rw [show i + (j - i - 1) + 1 = j by omega] at hh
  simpa [List.getD, hi, hj] using hh
theorem rise_of {ts : List (List UInt8)} (h : riseB ts = true) : Rise ts := by
  unfold riseB at h
  exact rise_at (fun i hi => leT_no.1 ((of_decide_eq_true h) i (by omega)))
theorem rise_to {ts : List (List UInt8)} (h : Rise ts) : riseB ts = true := by
  unfold riseB
  refine decide_eq_true (fun i hi => leT_no.2 ?_)
  have := List.pairwise_iff_getElem.1 h i (i + 1) (by omega) (by omega) (by omega)
  simpa [List.getD, show i < ts.length by omega, show i + 1 < ts.length by omega] using this

/-- A project: packages whose names rise. -/
def names8 (ps : List Pk) : List (List UInt8) := ps.map (·.1)
def pj8 (ps : List Pk) (i : Nat) : Prop := pkgB (ps.getD i pk0) = true ∧ (0 < i → leT (ps.getD i pk0).1 (ps.getD (i - 1) pk0).1 = false)
instance (ps : List Pk) (i : Nat) : Decidable (pj8 ps i) := by unfold pj8; infer_instance
def projB (ps : List Pk) : Bool := decide (∀ i, i < ps.length → pj8 ps i) && inB (ps.length : Int) 1 8
theorem projB_no {ps : List Pk} {i : Nat} (hi : i < ps.length) (h : ¬ pj8 ps i) : projB ps = false := by unfold projB; rw [decide_eq_false (fun g => h (g i hi))]; rfl
theorem projB_all {ps : List Pk} (h : ∀ i, i < ps.length → pj8 ps i) : projB ps = inB (ps.length : Int) 1 8 := by unfold projB; rw [decide_eq_true h]; rfl
theorem projB_parts {ps : List Pk} (h : projB ps = true) : Rise (names8 ps) ∧ (1 ≤ ps.length ∧ ps.length ≤ 8) ∧ ∀ p ∈ ps, pkgB p = true := by
  unfold projB at h
  rw [Bool.and_eq_true, decide_eq_true_eq] at h
  have hn : 1 ≤ (ps.length : Int) ∧ (ps.length : Int) ≤ 8 := by have := h.2; unfold inB at this; exact of_decide_eq_true this
  refine ⟨rise_at (fun i hi => ?_), by omega, fun p hp => ?_⟩
  · have hi2 : i + 1 < ps.length := by simpa [names8] using hi
    have h1 := (h.1 (i + 1) hi2).2 (by omega)
    have e : ∀ j, (names8 ps).getD j [] = (ps.getD j pk0).1 := fun j => by
      unfold names8
      rw [List.getD_eq_getElem?_getD, List.getD_eq_getElem?_getD, List.getElem?_map]
      cases ps[j]? <;> rfl
    rw [e, e]
    exact leT_no.1 h1
  · obtain ⟨i, hi, rfl⟩ := List.mem_iff_getElem.1 hp
    have h1 := (h.1 i hi).1
    simpa [List.getD, hi] using h1

/-- Where one of a name is. -/
def at8Go (s : List UInt8) : List Pk → Nat → Int
  | [], _ => -1
  | p :: r, k => if p.1 = s then (k : Int) else at8Go s r (k + 1)
def at8 (ps : List Pk) (s : List UInt8) : Int := at8Go s ps 0
theorem at8Go_drop {ps : List Pk} {k : Nat} (hk : k < ps.length) (s : List UInt8) : at8Go s (ps.drop k) k = if (ps.getD k pk0).1 = s then (k : Int) else at8Go s (ps.drop (k + 1)) (k + 1) := by
  rw [List.drop_eq_getElem_cons hk, at8Go]
  have : ps.getD k pk0 = ps[k] := by rw [List.getD_eq_getElem?_getD, List.getElem?_eq_getElem hk]; rfl
  rw [this]
theorem at8Go_mem (s : List UInt8) : ∀ (ps : List Pk) (k : Nat), (s ∈ names8 ps ∧ 0 ≤ at8Go s ps k ∧ (k : Int) ≤ at8Go s ps k ∧ at8Go s ps k < k + ps.length) ∨ (¬ s ∈ names8 ps ∧ at8Go s ps k = -1)
  | [], k => Or.inr ⟨by simp [names8], rfl⟩
  | p :: r, k => by
    rw [at8Go]
    by_cases h : p.1 = s
    · rw [if_pos h]; exact Or.inl ⟨by simp [names8, h], by omega, by omega, by simp; omega⟩
    · rw [if_neg h]
      rcases at8Go_mem s r (k + 1) with ⟨h1, h2, h3, h4⟩ | ⟨h1, h2⟩
      · exact Or.inl ⟨by simp only [names8, List.map_cons, List.mem_cons]; exact Or.inr h1, h2, by omega, by simp; omega⟩
      · exact Or.inr ⟨by simp only [names8, List.map_cons, List.mem_cons]; rintro (e | e); exact h e.symm; exact h1 e, h2⟩
theorem at8_mem (ps : List Pk) (s : List UInt8) : 0 ≤ at8 ps s ↔ s ∈ names8 ps := by
  rcases at8Go_mem s ps 0 with ⟨h1, h2, _⟩ | ⟨h1, h2⟩
  · exact ⟨fun _ => h1, fun _ => h2⟩
  · unfold at8; exact ⟨fun h => by omega, fun h => absurd h h1⟩
theorem at8_bd (ps : List Pk) (s : List UInt8) : -1 ≤ at8 ps s ∧ at8 ps s < (ps.length : Int) ∨ ps = [] ∧ at8 ps s = -1 := by
  rcases at8Go_mem s ps 0 with ⟨_, h2, _, h4⟩ | ⟨_, h2⟩
  · exact Or.inl ⟨by unfold at8; omega, by unfold at8; omega⟩
  · rcases Nat.eq_zero_or_pos ps.length with h | h
    · exact Or.inr ⟨List.eq_nil_of_length_eq_zero h, h2⟩
    · exact Or.inl ⟨by unfold at8; omega, by unfold at8; omega⟩

/-! Order. -/
def free8 (ps : List Pk) (out : List (List UInt8)) (p : Pk) : Prop := ¬ p.1 ∈ out ∧ ∀ m ∈ p.2.1, m ∈ names8 ps → m ∈ out
instance (ps : List Pk) (out : List (List UInt8)) (p : Pk) : Decidable (free8 ps out p) := by unfold free8; infer_instance
def next8 (ps : List Pk) (out : List (List UInt8)) : Option Pk := ps.find? (fun p => decide (free8 ps out p))
def orderGo (ps : List Pk) : Nat → List (List UInt8) → List (List UInt8)
  | 0, out => out
  | n + 1, out => match next8 ps out with
    | none => out
    | some p => orderGo ps n (out ++ [p.1])
def order8 (ps : List Pk) : List (List UInt8) := orderGo ps (ps.length + 1) []
theorem next8_none {ps : List Pk} {out : List (List UInt8)} (h : next8 ps out = none) : ∀ p ∈ ps, ¬ free8 ps out p := fun p hp hf => by
  unfold next8 at h
  rw [List.find?_eq_none] at h
  exact h p hp (decide_eq_true hf)
theorem next8_some {ps : List Pk} {out : List (List UInt8)} {p : Pk} (h : next8 ps out = some p) : p ∈ ps ∧ free8 ps out p :=
  ⟨List.mem_of_find?_eq_some h, of_decide_eq_true (List.find?_some (p := fun p => decide (free8 ps out p)) h)⟩
/-- What Order has so far: names that are there, none twice, each behind what it needs. -/
structure Or8 (ps : List Pk) (out : List (List UInt8)) : Prop where
  nd : out.Nodup
  sub : ∀ x ∈ out, x ∈ names8 ps
  need : ∀ p ∈ ps, p.1 ∈ out → ∀ m ∈ p.2.1, m ∈ names8 ps → m ∈ out.takeWhile (fun x => decide (x ≠ p.1))
theorem or8_nil (ps : List Pk) : Or8 ps [] := ⟨List.nodup_nil, fun x hx => by simp at hx, fun p _ h => by simp at h⟩
theorem Or8.len {ps : List Pk} {out : List (List UInt8)} (h : Or8 ps out) : out.length ≤ ps.length := by
  have := h.nd.length_le_of_subset (fun x hx => h.sub x hx)
  simpa [names8] using this
theorem takeW_app {out : List (List UInt8)} {x n : List UInt8} (h : x ∈ out) : (out ++ [n]).takeWhile (fun y => decide (y ≠ x)) = out.takeWhile (fun y => decide (y ≠ x)) := by
  induction out with
  | nil => simp at h
  | cons a r ih =>
    by_cases e : a = x
    · subst e; simp [List.takeWhile]
    · have h2 : x ∈ r := by
        rcases List.mem_cons.1 h with h | h
        · exact absurd h.symm e
        · exact h
      simp only [List.cons_append, List.takeWhile_cons]
      rw [if_pos (by simpa using e), if_pos (by simpa using e), ih h2]
theorem takeW_no {out : List (List UInt8)} {x : List UInt8} (h : ¬ x ∈ out) : out.takeWhile (fun y => decide (y ≠ x)) = out := by
  induction out with
  | nil => rfl
  | cons a r ih =>
    simp only [List.mem_cons, not_or] at h
    rw [List.takeWhile_cons, if_pos (by simpa using fun e => h.1 e.symm), ih h.2]
theorem Or8.step {ps : List Pk} (hn : (names8 ps).Nodup) {out : List (List UInt8)} (h : Or8 ps out) {p : Pk} (hp : next8 ps out = some p) : Or8 ps (out ++ [p.1]) := by
  obtain ⟨hm, hf⟩ := next8_some hp
  refine ⟨List.nodup_append.2 ⟨h.nd, by simp, fun a ha b hb => by rw [List.mem_singleton] at hb; subst hb; intro e; subst e; exact hf.1 ha⟩, fun x hx => ?_, fun q hq hqo m hmq hmn => ?_⟩
  · rw [List.mem_append, List.mem_singleton] at hx
    rcases hx with hx | rfl
    · exact h.sub x hx
    · exact List.mem_map.2 ⟨p, hm, rfl⟩
  · by_cases hqi : q.1 ∈ out
    · rw [takeW_app hqi]; exact h.need q hq hqi m hmq hmn
    · rw [List.mem_append, List.mem_singleton] at hqo
      have e : q.1 = p.1 := hqo.resolve_left hqi
      have hqp : q = p := by
        obtain ⟨i, hi, rfl⟩ := List.mem_iff_getElem.1 hq
        obtain ⟨j, hj, rfl⟩ := List.mem_iff_getElem.1 hm
        have hij : i = j := by
          have h1 : (names8 ps)[i]'(by simpa [names8] using hi) = (names8 ps)[j]'(by simpa [names8] using hj) := by simpa [names8] using e
          exact (List.getElem_inj hn).1 h1
        subst hij; rfl
      subst hqp
      have e2 : (out ++ [q.1]).takeWhile (fun y => decide (y ≠ q.1)) = out := by
        have := takeW_no hqi
        rw [List.takeWhile_append, this]
        simp
      rw [e2]
      exact hf.2 m hmq hmn
theorem orderGo_end {ps : List Pk} (hn : (names8 ps).Nodup) : ∀ (n : Nat) (out : List (List UInt8)), Or8 ps out → ps.length < n + out.length → Or8 ps (orderGo ps n out) ∧ next8 ps (orderGo ps n out) = none
  | 0, out, h, hl => by have := h.len; omega
  | n + 1, out, h, hl => by
    rw [orderGo]
    rcases hx : next8 ps out with _ | p
    · exact ⟨h, hx⟩
    · exact orderGo_end hn n (out ++ [p.1]) (h.step hn hx) (by rw [List.length_append, List.length_singleton]; omega)
theorem order8_end {ps : List Pk} (h : projB ps = true) : Or8 ps (order8 ps) ∧ next8 ps (order8 ps) = none :=
  orderGo_end (projB_parts h).1.nodup _ _ (or8_nil ps) (by simp)
theorem orderGo_none {ps : List Pk} {out : List (List UInt8)} (n : Nat) (h : next8 ps out = none) : orderGo ps n out = out := by
  cases n with
  | zero => rfl
  | succ n => rw [orderGo, h]
theorem orderGo_some {ps : List Pk} {out : List (List UInt8)} {p : Pk} (n : Nat) (h : next8 ps out = some p) : orderGo ps (n + 1) out = orderGo ps n (out ++ [p.1]) := by rw [orderGo, h]

end Go.Proofs.YtglhbcbilepomaaDoor
