/-
  Parts of one proof, one behind the other: Math7S, Math7R, Bend1, Bend2, RowW.
-/
import Derived.Test.YtnhkpncbloojhaaP4
import Derived.Test.YtnhkpncbloojhaaP3
import Derived.Deep.RegionHeld3
import Derived.Deep.RegionLaw
import Derived.Deep.DrawnRows
import Derived.Laws.IdiomCopy

/-! Plain facts for chapter 7: how a package is shown and read. -/
namespace Go.Proofs.Ytnhkpncbloojhaa
open Go.RowKit

theorem split_term (ls : List (List UInt8)) (h : ∀ x ∈ ls, ∀ c ∈ x, c ≠ 10) : splitL 10 (termJ ls) = ls ++ [[]] := by
  unfold splitL
  induction ls with
  | nil => rfl
  | cons x r ih =>
    have e : termJ (x :: r) = x ++ 10 :: termJ r := by simp [termJ]
    rw [e, split_one 10 x (termJ r) [] (h x (by simp)), ih (fun y hy => h y (by simp [hy])), List.nil_append]
    rfl

theorem lines_term (ls : List (List UInt8)) (h : ∀ x ∈ ls, ∀ c ∈ x, c ≠ 10) : linesL (termJ ls) = ls := by
  unfold linesL
  rw [split_term ls h, if_pos (by simp [List.getLastD_eq_getLast?]), List.dropLast_concat]

def kwPackage : List UInt8 := [112, 97, 99, 107, 97, 103, 101]
def kwImport : List UInt8 := [105, 109, 112, 111, 114, 116]
def kwFunc : List UInt8 := [102, 117, 110, 99]

def packLn (s : List UInt8) : List UInt8 := kwPackage ++ [32] ++ s
def impLn (s : List UInt8) : List UInt8 := kwImport ++ [32] ++ s
def funcLn (f : Fn) : List UInt8 := kwFunc ++ [32] ++ f.1 ++ [32] ++ intL f.2.1 ++ [32] ++ showL f.2.2
def pkLines (p : Pk) : List (List UInt8) := packLn p.1 :: (p.2.1.map impLn ++ p.2.2.map funcLn)
def showP (p : Pk) : List UInt8 := termJ (pkLines p)
def showPk (p : Pk) : List UInt8 := if pkgB p = true then showP p else []

/-- What a line adds. -/
noncomputable def readLn (p : Pk) (l : List UInt8) : Option Pk :=
  if (splitL 32 l).getD 0 [] = kwPackage ∧ (splitL 32 l).length = 2 then some ((splitL 32 l).getD 1 [], p.2.1, p.2.2)
  else if (splitL 32 l).getD 0 [] = kwImport ∧ (splitL 32 l).length = 2 then some (p.1, p.2.1 ++ [(splitL 32 l).getD 1 []], p.2.2)
  else if (splitL 32 l).getD 0 [] = kwFunc ∧ 3 < (splitL 32 l).length then
    (if readOk (l.drop (((splitL 32 l).getD 1 []).length + ((splitL 32 l).getD 2 []).length + 7)) = true then
      some (p.1, p.2.1, p.2.2 ++ [((splitL 32 l).getD 1 [], readV ((splitL 32 l).getD 2 []), readTV (l.drop (((splitL 32 l).getD 1 []).length + ((splitL 32 l).getD 2 []).length + 7)))])
    else none)
  else none

noncomputable def readLs : Pk → List (List UInt8) → Option Pk
  | p, [] => some p
  | p, l :: r => match readLn p l with | none => none | some q => readLs q r

theorem name_noblank {s : List UInt8} (h : nameB s = true) : ∀ c ∈ s, c ≠ 32 := fun c hc e => by
  have := (name_letters h).2 c hc
  rw [e] at this
  simp at this

theorem two_words (a b : List UInt8) (ha : ∀ c ∈ a, c ≠ 32) (hb : ∀ c ∈ b, c ≠ 32) : splitL 32 (a ++ [32] ++ b) = [a, b] := by
  have := split_join 32 [a, b] (by simp) (by intro x hx; simp at hx; rcases hx with rfl | rfl <;> assumption)
  simpa [joinBy] using this

theorem read_pack (p : Pk) (s : List UInt8) (h : nameB s = true) : readLn p (packLn s) = some (s, p.2.1, p.2.2) := by
  have hs : splitL 32 (packLn s) = [kwPackage, s] := two_words _ _ (by decide) (name_noblank h)
  unfold readLn
  rw [hs]
  simp

theorem read_imp (p : Pk) (s : List UInt8) (h : nameB s = true) : readLn p (impLn s) = some (p.1, p.2.1 ++ [s], p.2.2) := by
  have hs : splitL 32 (impLn s) = [kwImport, s] := two_words _ _ (by decide) (name_noblank h)
  unfold readLn
  rw [hs]
  rw [if_neg (by simp [kwImport, kwPackage]), if_pos (by simp)]
  simp

theorem tree_backL {ns : List Nd} (h : treeB ns = true) : readOk (showL ns) = true ∧ readTV (showL ns) = ns := by
  have hr := readT_show ns h
  have hok : readOk (showL ns) = true := by
    unfold readOk
    rw [hr]
    have h1 := showL_len ns (tree_nodes h)
    have h2 := (tree_end h).1.2
    simp only [Bool.and_eq_true, decide_eq_true_eq, beq_iff_eq]
    exact ⟨by omega, h, trivial⟩
  exact ⟨hok, by unfold readTV; rw [if_pos hok]; exact hr⟩

theorem joinBy_front (b : UInt8) (x y z : List UInt8) (r : List (List UInt8)) (hr : r ≠ []) : joinBy b (x :: y :: z :: r) = x ++ [b] ++ y ++ [b] ++ z ++ [b] ++ joinBy b r := by
  rw [joinBy_cons b x _ (by simp), joinBy_cons b y _ (by simp), joinBy_cons b z _ hr]
  simp

theorem read_func (p : Pk) (f : Fn) (h : funcB f = true) : readLn p (funcLn f) = some (p.1, p.2.1, p.2.2 ++ [f]) := by
  obtain ⟨s, n, t⟩ := f
  unfold funcB at h
  simp only [Bool.and_eq_true] at h
  obtain ⟨hs, hn, ht⟩ := h
  have hnb : 0 ≤ n ∧ n ≤ 3 := by unfold inB at hn; exact of_decide_eq_true hn
  have htl := (tree_end ht).1
  have htn : t.map showN ≠ [] := by intro e; have := congrArg List.length e; simp at this; rw [this] at htl; simp at htl
  have hrd := read_of_int n (by omega) (by omega)
  have hj : funcLn (s, n, t) = joinBy 32 (kwFunc :: s :: intL n :: t.map showN) := by
    rw [joinBy_front 32 _ _ _ _ htn]; rfl
  have hsp : splitL 32 (funcLn (s, n, t)) = kwFunc :: s :: intL n :: t.map showN := by
    rw [hj]
    refine split_join 32 _ (by simp) ?_
    intro x hx
    simp only [List.mem_cons, List.mem_map] at hx
    rcases hx with rfl | rfl | rfl | ⟨m, hm, rfl⟩
    · decide
    · exact name_noblank hs
    · intro c hc e
      have := intL_bytes n (by omega) (by omega) c hc
      rw [e] at this
      simp at this
    · exact show_noblank m (tree_nodes ht m hm)
  have hdrop : (funcLn (s, n, t)).drop (s.length + (intL n).length + 7) = showL t := by
    have e : funcLn (s, n, t) = (kwFunc ++ [32] ++ s ++ [32] ++ intL n ++ [32]) ++ showL t := rfl
    rw [e, List.drop_append_of_le_length (by simp [kwFunc]; omega)]
    rw [List.drop_of_length_le (by simp [kwFunc]; omega)]
    simp
  unfold readLn
  rw [hsp]
  rw [if_neg (by simp [kwFunc, kwPackage]), if_neg (by simp [kwFunc, kwImport]), if_pos (by simp; omega)]
  simp only [List.getD_cons_zero, List.getD_cons_succ]
  rw [hdrop, if_pos (tree_backL ht).1, (tree_backL ht).2, hrd.2]

theorem readLs_imps (r : List (List UInt8)) : ∀ (ims : List (List UInt8)) (p : Pk), (∀ x ∈ ims, nameB x = true) → readLs p (ims.map impLn ++ r) = readLs (p.1, p.2.1 ++ ims, p.2.2) r
  | [], p, _ => by simp
  | s :: ims, p, h => by
    rw [List.map_cons, List.cons_append, readLs, read_imp p s (h s (by simp))]
    simp only
    rw [readLs_imps r ims _ (fun x hx => h x (by simp [hx]))]
    simp

theorem readLs_funcs : ∀ (fs : List Fn) (p : Pk), (∀ f ∈ fs, funcB f = true) → readLs p (fs.map funcLn) = some (p.1, p.2.1, p.2.2 ++ fs)
  | [], p, _ => by simp [readLs]
  | f :: fs, p, h => by
    rw [List.map_cons, readLs, read_func p f (h f (by simp))]
    simp only
    rw [readLs_funcs fs _ (fun x hx => h x (by simp [hx]))]
    simp

theorem pkgB_parts {p : Pk} (h : pkgB p = true) : nameB p.1 = true ∧ (∀ x ∈ p.2.1, nameB x = true) ∧ p.2.1.length ≤ 6 ∧ (1 ≤ p.2.2.length ∧ p.2.2.length ≤ 8) ∧ (∀ f ∈ p.2.2, funcB f = true) := by
  unfold pkgB importsB inB at h
  simp only [Bool.and_eq_true, decide_eq_true_eq] at h
  obtain ⟨⟨h1, ⟨h2, h3, _⟩, h4⟩, h5⟩ := h
  refine ⟨h1, fun x hx => ?_, h3, by omega, fun f hf => ?_⟩
  · obtain ⟨i, hi, rfl⟩ := List.getElem_of_mem hx
    have := h2 i hi
    rwa [List.getD_eq_getElem?_getD, List.getElem?_eq_getElem hi] at this
  · obtain ⟨i, hi, rfl⟩ := List.getElem_of_mem hf
    have := (h5 i hi).1
    rwa [List.getD_eq_getElem?_getD, List.getElem?_eq_getElem hi] at this

/-- What is shown of a right package is read as it, line by line. -/
theorem read_lines {p : Pk} (h : pkgB p = true) : readLs ([], [], []) (pkLines p) = some p := by
  obtain ⟨h1, h2, _, _, h5⟩ := pkgB_parts h
  unfold pkLines
  rw [readLs, read_pack _ _ h1]
  simp only
  rw [readLs_imps _ _ _ h2, readLs_funcs _ _ h5]
  simp

end Go.Proofs.Ytnhkpncbloojhaa

/-! Plain facts for chapter 7: ReadPackage of ShowPackage is the package. -/
namespace Go.Proofs.Ytnhkpncbloojhaa
open Go.RowKit

def pk0 : Pk := ([], [], [])

theorem name_no10 {s : List UInt8} (h : nameB s = true) : ∀ c ∈ s, c ≠ 10 := fun c hc e => by
  have := (name_letters h).2 c hc
  rw [e] at this
  simp at this

theorem int_no10 (n : Int) (h0 : -2147483648 ≤ n) (h1 : n ≤ 2147483647) : ∀ c ∈ intL n, c ≠ 10 := fun c hc e => by
  have := intL_bytes n h0 h1 c hc
  rw [e] at this
  simp at this

theorem show_no10 (n : Nd) (h : nodeB n = true) : ∀ c ∈ showN n, c ≠ 10 := by
  obtain ⟨k, a, p, f⟩ := n
  have hp := nodeB_iff.1 h
  unfold nodeP at hp
  simp only at hp
  rcases hp with ⟨rfl, ⟨h0, h1⟩, rfl, rfl⟩ | ⟨rfl, ⟨h0, h1⟩, rfl, rfl⟩ | ⟨hk, rfl, rfl, rfl⟩ | ⟨rfl, ⟨h0, h1⟩, hpn, hfn⟩
  · have hs : showN (1, a, [], []) = intL a := by unfold showN; simp
    rw [hs]; exact int_no10 a h0 h1
  · have hs : showN (2, a, [], []) = 36 :: intL a := by unfold showN; simp
    rw [hs]
    intro c hc
    rcases List.mem_cons.1 hc with rfl | hc
    · decide
    · exact int_no10 a (by omega) (by omega) c hc
  · rcases (show k = 3 ∨ k = 4 ∨ k = 5 ∨ k = 6 ∨ k = 7 by omega) with rfl | rfl | rfl | rfl | rfl <;> (unfold showN; simp)
  · have hs : showN (8, a, p, f) = (64 :: p) ++ [46] ++ f ++ [47] ++ intL a := by unfold showN; simp
    rw [hs]
    intro c hc
    simp only [List.mem_append, List.mem_cons, List.not_mem_nil, or_false] at hc
    rcases hc with ((((rfl | hc) | rfl) | hc) | rfl) | hc
    · decide
    · exact name_no10 hpn c hc
    · decide
    · exact name_no10 hfn c hc
    · decide
    · exact int_no10 a (by omega) (by omega) c hc

theorem join_no (d b : UInt8) (hd : b ≠ d) : ∀ (ws : List (List UInt8)), (∀ x ∈ ws, ∀ c ∈ x, c ≠ d) → ∀ c ∈ joinBy b ws, c ≠ d
  | [], _ => by simp [joinBy]
  | [x], h => by simpa [joinBy] using h
  | x :: y :: r, h => by
    intro c hc
    rw [joinBy_cons b x (y :: r) (by simp)] at hc
    simp only [List.mem_append, List.mem_singleton] at hc
    rcases hc with (hc | rfl) | hc
    · exact h x (by simp) c hc
    · exact hd
    · exact join_no d b hd (y :: r) (fun z hz => h z (by simp at hz ⊢; exact Or.inr hz)) c hc

theorem lines_no10 {p : Pk} (h : pkgB p = true) : ∀ x ∈ pkLines p, ∀ c ∈ x, c ≠ 10 := by
  obtain ⟨h1, h2, _, _, h5⟩ := pkgB_parts h
  intro x hx
  unfold pkLines at hx
  simp only [List.mem_cons, List.mem_append, List.mem_map] at hx
  rcases hx with rfl | ⟨s, hs, rfl⟩ | ⟨f, hf, rfl⟩
  · intro c hc
    unfold packLn kwPackage at hc
    rw [List.mem_append] at hc
    rcases hc with hc | hc
    · intro e; rw [e] at hc; revert hc; decide
    · exact name_no10 h1 c hc
  · intro c hc
    unfold impLn kwImport at hc
    rw [List.mem_append] at hc
    rcases hc with hc | hc
    · intro e; rw [e] at hc; revert hc; decide
    · exact name_no10 (h2 s hs) c hc
  · have hfb := h5 f hf
    obtain ⟨s, n, t⟩ := f
    unfold funcB at hfb
    simp only [Bool.and_eq_true] at hfb
    obtain ⟨hs, hn, ht⟩ := hfb
    have hnb : 0 ≤ n ∧ n ≤ 3 := by unfold inB at hn; exact of_decide_eq_true hn
    intro c hc
    unfold funcLn kwFunc at hc
    simp only [List.mem_append] at hc
    rcases hc with (((((hc | hc) | hc) | hc) | hc) | hc) | hc
    · intro e; rw [e] at hc; revert hc; decide
    · intro e; rw [e] at hc; revert hc; decide
    · exact name_no10 hs c hc
    · intro e; rw [e] at hc; revert hc; decide
    · exact int_no10 n (by omega) (by omega) c hc
    · intro e; rw [e] at hc; revert hc; decide
    · exact join_no 10 32 (by decide) _ (by intro y hy; obtain ⟨m, hm, rfl⟩ := List.mem_map.1 hy; exact show_no10 m (tree_nodes ht m hm)) c hc

theorem termJ_len (n : Nat) : ∀ ls : List (List UInt8), (∀ x ∈ ls, x.length ≤ n) → (termJ ls).length ≤ ls.length * (n + 1)
  | [], _ => by simp [termJ]
  | x :: r, h => by
    have e : termJ (x :: r) = x ++ 10 :: termJ r := by simp [termJ]
    have h1 := h x (by simp)
    have h2 := termJ_len n r (fun y hy => h y (by simp [hy]))
    rw [e, List.length_append, List.length_cons, List.length_cons, Nat.succ_mul]
    omega

theorem funcLn_len {f : Fn} (h : funcB f = true) : (funcLn f).length ≤ 1900 := by
  obtain ⟨s, n, t⟩ := f
  unfold funcB at h
  simp only [Bool.and_eq_true] at h
  obtain ⟨hs, hn, ht⟩ := h
  have hnb : 0 ≤ n ∧ n ≤ 3 := by unfold inB at hn; exact of_decide_eq_true hn
  have h1 := showL_len t (tree_nodes ht)
  have h2 := (tree_end ht).1.2
  have h3 := (name_letters hs).1
  have h4 := intL_short n (by omega) (by omega)
  unfold funcLn kwFunc
  simp only [List.length_append, List.length_cons, List.length_nil]
  omega

theorem showP_len {p : Pk} (h : pkgB p = true) : (showP p).length ≤ 20000 := by
  obtain ⟨h1, h2, h3, h4, h5⟩ := pkgB_parts h
  have e : showP p = termJ (packLn p.1 :: p.2.1.map impLn) ++ termJ (p.2.2.map funcLn) := by
    unfold showP pkLines
    rw [← List.cons_append]
    simp [termJ]
  have ha := termJ_len 20 (packLn p.1 :: p.2.1.map impLn) (by
    intro x hx
    simp only [List.mem_cons, List.mem_map] at hx
    rcases hx with rfl | ⟨s, hs, rfl⟩
    · have := (name_letters h1).1
      unfold packLn kwPackage; simp; omega
    · have := (name_letters (h2 s hs)).1
      unfold impLn kwImport; simp; omega)
  have hb := termJ_len 1900 (p.2.2.map funcLn) (by
    intro x hx
    obtain ⟨f, hf, rfl⟩ := List.mem_map.1 hx
    exact funcLn_len (h5 f hf))
  rw [List.length_cons, List.length_map] at ha
  rw [List.length_map] at hb
  rw [e, List.length_append]
  omega

/-- What is read of a text: the package, where there is one. -/
noncomputable def readPB (s : List UInt8) : Bool := decide (s.length ≤ 20000) && (match readLs pk0 (linesL s) with | none => false | some p => pkgB p && (showP p == s))
noncomputable def readPV (s : List UInt8) : Pk := if readPB s = true then (readLs pk0 (linesL s)).getD pk0 else pk0

theorem read_pv (s : List UInt8) : (readPB s = true ∧ pkgB (readPV s) = true ∧ showPk (readPV s) = s) ∨ (readPB s = false ∧ readPV s = pk0) := by
  rcases h : readPB s with _ | _
  · exact Or.inr ⟨rfl, by unfold readPV; rw [if_neg (by rw [h]; simp)]⟩
  · have hv : readPV s = (readLs pk0 (linesL s)).getD pk0 := by unfold readPV; rw [if_pos h]
    unfold readPB at h
    rw [Bool.and_eq_true] at h
    obtain ⟨_, h⟩ := h
    cases he : readLs pk0 (linesL s) with
    | none => rw [he] at h; cases h
    | some p =>
      rw [he] at h hv
      simp only [Bool.and_eq_true, beq_iff_eq] at h
      rw [Option.getD_some] at hv
      rw [hv]
      exact Or.inl ⟨rfl, h.1, by unfold showPk; rw [if_pos h.1]; exact h.2⟩

theorem pack_back {p : Pk} (h : pkgB p = true) : showPk p ≠ [] ∧ readPB (showPk p) = true ∧ readPV (showPk p) = p := by
  have hs : showPk p = showP p := by unfold showPk; rw [if_pos h]
  have hl : linesL (showP p) = pkLines p := lines_term _ (lines_no10 h)
  have hr : readLs pk0 (linesL (showP p)) = some p := by rw [hl]; exact read_lines h
  have hb : readPB (showP p) = true := by
    unfold readPB
    rw [hr, decide_eq_true (showP_len h)]
    simp [h]
  refine ⟨?_, by rw [hs]; exact hb, by rw [hs]; unfold readPV; rw [if_pos hb, hr, Option.getD_some]⟩
  rw [hs]
  unfold showP pkLines packLn kwPackage
  simp [termJ]

theorem pack_not {p : Pk} (h : pkgB p = false) : showPk p = [] := by unfold showPk; rw [if_neg (by rw [h]; simp)]

end Go.Proofs.Ytnhkpncbloojhaa

/-! What the bending of a text needs: a slice of bytes at the head of a block that is new since the call began, and an append's law at a step of a region that draws its order. -/
namespace Go.Proofs.Ytnhkpncbloojhaa
open Go.RowKit

/-- Block g, new since 'base', holds the bytes l from its head on, and they may be written. -/
structure RowB (w : World) (base g cap : Nat) (l : List UInt8) : Prop where
  new : base ≤ g
  there : g < w.heap.size
  room : l.length ≤ cap
  most : cap ≤ maxLen
  cells : ∀ j (hj : j < l.length), w.cell? ⟨g, j, none⟩ = some (.int .u8 (l[j].toNat : Int))
  free : ∀ j, j < l.length → w.frozen? ⟨g, j, none⟩ = false

theorem RowB.kept {w w' : World} {base g cap : Nat} {l : List UInt8} {row : Option Nat} (h : RowB w base g cap l) (hg : w.grownBy w' row) (hne : some g ≠ row) : RowB w' base g cap l := by
  have hb := hg.block g h.there hne
  exact ⟨h.new, Nat.lt_of_lt_of_le h.there hg.size, h.room, h.most, fun j hj => (World.cell?_of_block hb).trans (h.cells j hj), fun j hj => (World.frozen?_of_block hb).trans (h.free j hj)⟩

theorem RowB.base {w : World} {base base' g cap : Nat} {l : List UInt8} (h : RowB w base g cap l) (hb : base' ≤ base) : RowB w base' g cap l := ⟨Nat.le_trans hb h.new, h.there, h.room, h.most, h.cells, h.free⟩

theorem RowB.of_own {w : World} {base : Nat} {v : Value} {l : List UInt8} (h : w.ownsRow base 5 1 v l.length (bytesV l)) (hv : v ≠ .slice none 0 0) : ∃ g cap, v = .slice (some ⟨g, 0, none⟩) l.length cap ∧ RowB w base g cap l := by
  have hh := h
  obtain ⟨_, ⟨e, _⟩ | ⟨g, cap, cur, rfl, hb, hc, hn, hm, hs, ht⟩⟩ := hh
  · exact absurd e hv
  · refine ⟨g, cap, rfl, hb, (h.lt g rfl).2, hn, hm, ?_, ?_⟩
    · intro j hj
      have hx := World.ownsRow.cellAt h j (by omega)
      rw [hx]; simp [bytesV, List.getElem?_eq_getElem hj]
    · intro j hj
      exact World.ownsRow.frozenAt h j

theorem RowB.back {w : World} {base g cap : Nat} {l : List UInt8} (h : RowB w base g cap l) :
    (convert 75 9 (.slice (some ⟨g, 0, none⟩) l.length cap)).run Try.prog w = .ok (.string ⟨l.toArray⟩) w := by
  refine run_convert_bytes_back (P := Try.prog) w 75 9 5 ⟨g, 0, none⟩ cap l Try.underlying75 Try.underlying5 Try.underlying9 ?_
  intro j hj
  have e : (⟨g, 0, none⟩ : Addr).add j = ⟨g, j, none⟩ := by unfold Addr.add; split <;> simp_all
  rw [e]; exact h.cells j hj

theorem RowB.cut {w : World} {base g cap : Nat} {l : List UInt8} (h : RowB w base g cap l) (k : Nat) : RowB w base g cap (l.take k) := by
  have hl : (l.take k).length ≤ l.length := List.length_take_le' _ _
  refine ⟨h.new, h.there, Nat.le_trans hl h.room, h.most, ?_, ?_⟩
  · intro j hj
    rw [h.cells j (by omega)]
    simp
  · intro j hj; exact h.free j (by omega)

theorem RowB.store {w : World} {base g cap : Nat} {l : List UInt8} (h : RowB w base g cap l) (k : Nat) (hk : k < l.length) (x : UInt8) : RowB (w.setCell ⟨g, k, none⟩ (.int .u8 (x.toNat : Int))) base g cap (l.set k x) := by
  refine ⟨h.new, by simpa using h.there, by simpa using h.room, h.most, ?_, ?_⟩
  · intro j hj
    have hj' : j < l.length := by simpa using hj
    by_cases e : j = k
    · subst e
      rw [World.cell?_setCell_same _ _ _ (h.cells j hj')]
      simp
    · rw [World.cell?_setCell_other _ _ _ _ (by intro e2; injection e2 with _ e3; exact e e3.symm), h.cells j hj', List.getElem_set_ne (fun e2 => e e2.symm)]
  · intro j hj
    rw [World.frozen?_setCell]; exact h.free j (by simpa using hj)

theorem RowB.drew {w : World} {base g cap : Nat} {l : List UInt8} (h : RowB w base g cap l) : RowB w.drew base g cap l := ⟨h.new, h.there, h.room, h.most, h.cells, h.free⟩

/-- '[]byte(s)': the new block. -/
theorem RowB.made (w : World) (l : List UInt8) (hl : l.length ≤ maxLen) :
    RowB (w.drew.alloc (.cells (bytesRow ⟨l.toArray⟩ (grownCap w l.length 0 5)) 5 ((bytesRow ⟨l.toArray⟩ (grownCap w l.length 0 5)).size, (bytesRow ⟨l.toArray⟩ (grownCap w l.length 0 5)).size + 1))) w.heap.size w.heap.size (grownCap w l.length 0 5) l := by
  have hsz : l.length ≤ (bytesRow ⟨l.toArray⟩ (grownCap w l.length 0 5)).size := by simp [bytesRow]
  refine ⟨Nat.le_refl _, by simp, grownCap_ge _ _ _ _, grownCap_le_maxLen _ _ _ _ hl, ?_, ?_⟩
  · intro j hj
    show (w.alloc _).cell? ⟨w.heap.size, j, none⟩ = _
    rw [World.cell?_alloc_mark, bytesRow_at ⟨l.toArray⟩ _ j (by simpa using hj)]
    simp
  · intro j hj
    show (w.alloc _).frozen? ⟨w.heap.size, j, none⟩ = _
    rw [World.frozen?_alloc_mark]
    simp; omega

/-- 'append' onto a row of the call's own, at a step of a region that draws. -/
theorem step_append_own {P : Program} {w : World} {ops : Array Oper} {o : Oper} {a : Act} {K : Act → World → Prop} {Q : Exit → Act → World → Prop} {E : Prop} (hgd : o.guard = none) (s x : Operand) (t : TypeId)
    (ho : o.op = .call { callee := .builtin .append, args := #[s, x], argTypes := #[t, t] })
    (base : Nat) (e : TypeId) (i : TypeInfo) (z : Value) (size bytes : Nat) (ht : P.underlying t = some (.slice e)) (hi : P.info? e = some i) (hz : i.zero = some z)
    (hsize : i.size = size) (hby : i.bytes = bytes) (hzs : z.cells.size = size) (hsz : 0 < size)
    (v : Value) (n : Nat) (xs : List Value) (hs : a.eval s = v) (hown : w.ownsRow base e size v n xs)
    (ad : Addr) (m c : Nat) (news : List Value) (hx : a.eval x = .slice (some ad) m c) (hl : news.length = m * size) (hnews : ∀ j u, news[j]? = some u → w.cell? (ad.add j) = some u) (h1 : ∀ u ∈ news, u.oneCell' = true)
    (h63 : n + m ≤ maxLen) (hbytes : (n + m) * bytes ≤ 140737488355328) (hbase : base ≤ w.heap.size)
    (h : ∀ v' w', w'.ownsRow base e size v' (n + m) (xs ++ news) → w.grownBy w' v.ownBlock → (v' = .slice none 0 0 ↔ v = .slice none 0 0 ∧ m = 0) → K (a.put o.dst v') w') :
    if Region.wanted o (yielded ops a.tmps) = true then Oper.wp P o a w K Q else E := by
  have hw : Region.wanted o (yielded ops a.tmps) = true := by simp [Region.wanted, hgd]
  rw [if_pos hw]
  exact wp_append_own w s x t ho base e i z size bytes ht hi hz hsize hby hzs hsz v n xs hs hown ad m c news hx hl hnews h1 h63 hbytes hbase h

theorem bytesV_at (l : List UInt8) (j : Nat) (u : Value) (h : (bytesV l)[j]? = some u) : ∃ hj : j < l.length, u = .int .u8 (l[j].toNat : Int) := by
  unfold bytesV at h
  rw [List.getElem?_map] at h
  rcases hx : l[j]? with _ | x
  · rw [hx] at h; cases h
  · rw [hx] at h
    obtain ⟨hj, e⟩ := List.getElem?_eq_some_iff.1 hx
    injection h with h
    exact ⟨hj, by rw [e]; exact h.symm⟩

theorem bytesV_len (l : List UInt8) : (bytesV l).length = l.length := by simp [bytesV]

theorem bytesV_one (l : List UInt8) : ∀ u ∈ bytesV l, u.oneCell' = true := by
  intro u hu
  obtain ⟨x, _, rfl⟩ := List.mem_map.1 hu
  rfl

theorem add_plain (b off j : Nat) : (⟨b, off, none⟩ : Addr).add j = ⟨b, off + j, none⟩ := by unfold Addr.add; split <;> simp_all

/-- The cells of b[:k], as an append takes them. -/
theorem RowB.head {w : World} {base g cap : Nat} {l : List UInt8} (h : RowB w base g cap l) (k : Nat) : ∀ j u, (bytesV (l.take k))[j]? = some u → w.cell? ((⟨g, 0, none⟩ : Addr).add j) = some u := by
  intro j u hu
  obtain ⟨hj, rfl⟩ := bytesV_at _ _ _ hu
  have hl : (l.take k).length ≤ l.length := List.length_take_le' _ _
  rw [add_plain, Nat.zero_add, h.cells j (by omega)]
  simp

/-- The cells of b[k:], as an append takes them. -/
theorem RowB.tail {w : World} {base g cap : Nat} {l : List UInt8} (h : RowB w base g cap l) (k : Nat) : ∀ j u, (bytesV (l.drop k))[j]? = some u → w.cell? ((⟨g, k, none⟩ : Addr).add j) = some u := by
  intro j u hu
  obtain ⟨hj, rfl⟩ := bytesV_at _ _ _ hu
  have hj' : k + j < l.length := by rw [List.length_drop] at hj; omega
  rw [add_plain, h.cells (k + j) hj']
  simp

theorem own_empty (w : World) (base : Nat) (h : base ≤ w.heap.size) : (w.alloc (.cells #[] 5)).drew.ownsRow base 5 1 (.slice (some ⟨w.heap.size, 0, none⟩) 0 0) 0 [] :=
  (World.ownsRow_lit (base := base) (e := 5) (size := 1) w #[] 0 h (by decide) rfl).drew

theorem step_keep {w W W' : World} {B : Nat} {a : Option Addr} {len cap : Nat} {row : Option Nat} (hBlt : B < w.heap.size) (h : Cur W B a len cap ∧ w.grownBy W (some B)) (hg : W.grownBy W' row) (hrow : ∀ k, row = some k → w.heap.size ≤ k) :
    Cur W' B a len cap ∧ w.grownBy W' (some B) :=
  ⟨h.1.kept hg (fun k e => by have := hrow k e; omega), h.2.andThen hg (fun j e => Or.inl (hrow j e))⟩

theorem bytesV_append (a b : List UInt8) : bytesV a ++ bytesV b = bytesV (a ++ b) := by simp [bytesV]

/-- What a chain of appends leaves: a row of bytes. -/
theorem own_done {w : World} {base n : Nat} {v : Value} {xs : List Value} (l : List UInt8) (h : w.ownsRow base 5 1 v n xs) (hx : xs = bytesV l) (hn : n = l.length) (hv : v ≠ .slice none 0 0) : ∃ g cap, v = .slice (some ⟨g, 0, none⟩) l.length cap ∧ RowB w base g cap l := by
  subst hx hn
  exact RowB.of_own h hv

theorem own_ne {w : World} {base e size n g : Nat} {v : Value} {xs : List Value} (h : w.ownsRow base e size v n xs) (hg : g < base) : some g ≠ v.ownBlock := by
  intro e2
  have := (h.lt g e2.symm).1
  omega

theorem size_empty (w : World) : w.heap.size ≤ (w.alloc (.cells #[] 5)).drew.heap.size := by simp
theorem size_one (w : World) (x : Value) (n : Nat) (h : n ≤ w.heap.size) : n ≤ (w.alloc (.cells #[x] 5)).heap.size := by simp; omega
theorem row_empty (w : World) : ∀ k, Value.ownBlock (.slice (some ⟨w.heap.size, 0, none⟩) 0 0) = some k → w.heap.size ≤ k := by
  intro k e; injection e with e; exact Nat.le_of_eq e
theorem ne_empty (w : World) (b : Nat) (h : b < w.heap.size) : some b ≠ Value.ownBlock (.slice (some ⟨w.heap.size, 0, none⟩) 0 0) := by
  intro e; injection e with e; simp at e; omega
theorem ne_some {b B : Nat} (h : B < b) : some b ≠ some B := by
  intro e; injection e with e; omega

end Go.Proofs.Ytnhkpncbloojhaa

/-! The contract of l1Bend: a text that is bent at most twice. -/
namespace Go.Proofs.Ytnhkpncbloojhaa
open Go.RowKit


end Go.Proofs.Ytnhkpncbloojhaa

/-! A row of bytes that a call has made of a string ('[]byte(s)'), and 'append(b, s...)' onto it, whether there is room or not. -/
namespace Go.Proofs.Ytnhkpncbloojhaa
open Go.RowKit

/-- Block g, new since 'base', holds the bytes l from its head on; all of its cap cells may be written. -/
structure RowW (w : World) (base g cap : Nat) (l : List UInt8) : Prop where
  row : RowB w base g cap l
  all : ∀ j, j < cap → (w.cell? ⟨g, j, none⟩).isSome = true ∧ w.frozen? ⟨g, j, none⟩ = false

theorem RowW.kept {w w' : World} {base g cap : Nat} {l : List UInt8} {row : Option Nat} (h : RowW w base g cap l) (hg : w.grownBy w' row) (hne : some g ≠ row) : RowW w' base g cap l := by
  have hb := hg.block g h.row.there hne
  exact ⟨h.row.kept hg hne, fun j hj => by rw [World.cell?_of_block (a := ⟨g, j, none⟩) hb, World.frozen?_of_block (a := ⟨g, j, none⟩) hb]; exact h.all j hj⟩

theorem RowW.below {w w' : World} {base g cap : Nat} {l : List UInt8} (h : RowW w base g cap l) (hb : Below w.heap.size w w') : RowW w' base g cap l :=
  h.kept (row := none) ⟨hb.os, hb.tape, hb.output, hb.size, fun k hk _ => hb.block k hk⟩ (by simp)

theorem RowW.drew {w : World} {base g cap : Nat} {l : List UInt8} (h : RowW w base g cap l) : RowW w.drew base g cap l :=
  h.below ⟨rfl, rfl, rfl, Nat.le_refl _, fun _ _ => rfl⟩

theorem heap_setCells (b : Nat) : ∀ (vs : List Value) (o : Nat) (w : World), (w.setCells b o vs).heap.size = w.heap.size ∧ ∀ k, k ≠ b → (w.setCells b o vs).heap[k]? = w.heap[k]?
  | [], _, _ => ⟨rfl, fun _ _ => rfl⟩
  | v :: r, o, w => by
    obtain ⟨h1, h2⟩ := heap_setCells b r (o + 1) (w.setCell ⟨b, o, none⟩ v)
    refine ⟨by rw [World.setCells, h1]; simp, fun k hk => ?_⟩
    rw [World.setCells, h2 k hk]
    exact Below.heap_setCell w _ v k (fun e => hk e)

theorem grown_setCells (b : Nat) : ∀ (vs : List Value) (o : Nat) (w : World), w.grownBy (w.setCells b o vs) (some b)
  | [], _, w => World.grownBy.refl w _
  | v :: r, o, w => by
    rw [World.setCells]
    exact (grown_set w b o v).trans (grown_setCells b r (o + 1) _)

theorem strV_bytes (s : List UInt8) : Lib.strCells ⟨s.toArray⟩ = bytesV s := strCells_list s

theorem RowW.append {w : World} {base g cap : Nat} {l : List UInt8} (h : RowW w base g cap l) (s : List UInt8) (hlen : l.length + s.length ≤ 4194304) (hbase : base ≤ w.heap.size) (ty : TypeId) :
    ∃ g' cap' w', (Builtin.append_ #[75, 9] ty #[.slice (some ⟨g, 0, none⟩) l.length cap, .string ⟨s.toArray⟩]).run Try.prog w = .ok (.slice (some ⟨g', 0, none⟩) (l ++ s).length cap') w' ∧ RowW w' base g' cap' (l ++ s) ∧ w.grownBy w' (some g) := by
  obtain ⟨i0, hi, hz0, hz1, hz2⟩ := info_parts info5
  have hss : (⟨s.toArray⟩ : ByteArray).size = s.length := List.size_toArray
  have hll : (l ++ s).length = l.length + s.length := List.length_append
  by_cases hroom : l.length + s.length ≤ cap
  · have hf := Lib.run_firstCells_string (P := Try.prog) w 1 ⟨s.toArray⟩
    have hc : ∀ j, j < (bytesV s).length → (w.cell? ⟨g, l.length + j, none⟩).isSome = true := fun j hj => (h.all _ (by rw [bytesV_len] at hj; omega)).1
    have hfz : ∀ j, j < (bytesV s).length → w.frozen? ⟨g, l.length + j, none⟩ = false := fun j hj => (h.all _ (by rw [bytesV_len] at hj; omega)).2
    have hst := run_storeCells_cells (P := Try.prog) g l.length (bytesV s) 0 w (by simpa using hc) (by simpa using hfz) (bytesV_one s)
    rw [hss, strV_bytes] at hf
    refine ⟨g, cap, w.setCells g l.length (bytesV s), ?_, ?_, grown_setCells g _ _ w⟩
    · rw [hll]
      simp [Builtin.append_, run_underlying Try.underlying75, run_underlying Try.underlying9, sizeOf, typeInfo, hi, hz1, Builtin.lenOf, hss, hroom, hf, Addr.add_lit, hst]
    · have hsz := heap_setCells g (bytesV s) l.length w
      refine ⟨⟨h.row.new, by rw [hsz.1]; exact h.row.there, by rw [hll]; exact hroom, h.row.most, ?_, ?_⟩, ?_⟩
      · intro j hj
        rw [hll] at hj
        by_cases hjl : j < l.length
        · rw [World.cell?_setCells_out g (bytesV s) l.length w _ (fun i _ => by simp; omega), h.row.cells j hjl, List.getElem_append_left hjl]
        · have hj2 : j - l.length < (bytesV s).length := by rw [bytesV_len]; omega
          have := World.cell?_setCells_in g (bytesV s) l.length w hc (j - l.length) hj2
          rw [show l.length + (j - l.length) = j by omega] at this
          rw [this, List.getElem_append_right (by omega)]
          simp [bytesV]
      · intro j hj
        rw [World.frozen?_setCells]
        exact (h.all j (by omega)).2
      · intro j hj
        rw [World.frozen?_setCells]
        refine ⟨?_, (h.all j hj).2⟩
        by_cases hin : l.length ≤ j ∧ j < l.length + s.length
        · have hj2 : j - l.length < (bytesV s).length := by rw [bytesV_len]; omega
          have := World.cell?_setCells_in g (bytesV s) l.length w hc (j - l.length) hj2
          rw [show l.length + (j - l.length) = j by omega] at this
          rw [this]; rfl
        · rw [World.cell?_setCells_out g (bytesV s) l.length w _ (fun _ _ => by rw [bytesV_len]; simp; omega)]
          exact (h.all j hj).1
  · have holds : ∀ j u, (bytesV l)[j]? = some u → w.cell? ((⟨g, 0, none⟩ : Addr).add j) = some u := by
      intro j u hu
      obtain ⟨hj, rfl⟩ := bytesV_at _ _ _ hu
      rw [show (⟨g, 0, none⟩ : Addr).add j = ⟨g, j, none⟩ by unfold Addr.add; split <;> simp_all]
      exact h.row.cells j hj
    have hr := Lib.run_append_grow_string (P := Try.prog) w 75 9 ty 5 i0 (.int .u8 0) Try.underlying75 Try.underlying9 hi hz0 ⟨g, 0, none⟩ l.length cap (bytesV l) (by rw [bytesV_len, hz1]; omega) holds ⟨s.toArray⟩ (by rw [hss]; omega) (by rw [hss]; omega) (by rw [hss, hz2, Nat.mul_one]; exact (by have := growslice_fits (need := l.length + s.length) (old := cap) (bytes := 1) (by omega) (by omega); simpa using this))
    rw [hss, strV_bytes] at hr
    have hge := grownCap_ge w (l.length + s.length) cap 5
    have hcm := grownCap_le_maxLen w (l.length + s.length) cap 5 (by unfold maxLen; omega)
    generalize grownCap w (l.length + s.length) cap 5 = c at hr hge hcm
    obtain ⟨C, hC⟩ : ∃ C, (bytesV l).toArray ++ (bytesV s).toArray ++ Builtin.zeroCells (Value.int .u8 0).cells (c - (l.length + s.length)) = C := ⟨_, rfl⟩
    rw [hC] at hr
    have hCs : C.size = c := by
      have hz1' : (Value.int IntKind.u8 0).cells.size = 1 := rfl
      rw [← hC]; simp only [Array.size_append, List.size_toArray, size_zeroCells, hz1', bytesV_len]; omega
    have hown : (w.drew.alloc (.cells C 5)).ownsRow base 5 1 (.slice (some ⟨w.heap.size, 0, none⟩) (l ++ s).length c) (l ++ s).length (bytesV (l ++ s)) := by
      refine ⟨by rw [bytesV_len]; omega, Or.inr ⟨w.heap.size, c, C, rfl, hbase, heap_alloc_new w.drew _, by rw [hll]; exact hge, hcm, by omega, ?_⟩⟩
      rw [← hC]
      simp only [Array.toList_append, List.append_assoc]
      rw [← List.append_assoc, bytesV_append, Nat.mul_one, ← bytesV_len (l ++ s)]
      exact List.take_left
    have hB : RowB (w.drew.alloc (.cells C 5)) base w.heap.size c (l ++ s) := by
      obtain ⟨g2, c2, e2, hrow⟩ := RowB.of_own hown (by simp)
      injection e2 with e3 _ e4
      injection e3 with e3
      injection e3 with e3
      subst e3; subst e4
      exact hrow
    refine ⟨w.heap.size, c, _, by rw [hll]; exact hr, ⟨hB, fun j hj => ?_⟩, ?_⟩
    · have hA : (w.drew.alloc (.cells C 5)).heap[w.heap.size]? = some (.cells C 5) := heap_alloc_new w.drew _
      generalize w.drew.alloc (.cells C 5) = W at hA ⊢
      refine ⟨?_, by simp [World.frozen?, hA]⟩
      simp [World.cell?, hA]
      omega
    · exact ⟨rfl, rfl, rfl, by simp, fun k hk _ => Below.heap_alloc w.drew _ k hk⟩

/-- '[]byte(s)': the new block, its value and its world. -/
theorem RowW.made (w : World) (l : List UInt8) (hl : l.length ≤ 4194304) :
    ∃ cap w', (convert 9 75 (.string ⟨l.toArray⟩)).run Try.prog w = .ok (.slice (some ⟨w.heap.size, 0, none⟩) l.length cap) w' ∧ RowW w' w.heap.size w.heap.size cap l ∧ Below w.heap.size w w' := by
  have hconv := run_bytes_of_string (P := Try.prog) w 9 75 5 ⟨l.toArray⟩ Try.underlying9 Try.underlying75 Try.underlying5
  have hrow := RowB.made w l (by unfold maxLen; omega)
  have hszs : (⟨l.toArray⟩ : ByteArray).size = l.length := rfl
  rw [hszs] at hconv
  have hge := grownCap_ge w l.length 0 5
  have hCs : (bytesRow ⟨l.toArray⟩ (grownCap w l.length 0 5)).size = grownCap w l.length 0 5 := by simp [bytesRow]; omega
  generalize bytesRow ⟨l.toArray⟩ (grownCap w l.length 0 5) = C at hconv hrow hCs
  generalize grownCap w l.length 0 5 = cp at hconv hrow hge hCs
  refine ⟨cp, _, hconv, ⟨hrow, fun j hj => ?_⟩, ((Below.refl _ w).drew).alloc (Nat.le_refl _) _⟩
  have hA : (w.drew.alloc (.cells C 5 (C.size, C.size + 1))).heap[w.heap.size]? = some (.cells C 5 (C.size, C.size + 1)) := heap_alloc_new w.drew _
  generalize w.drew.alloc (.cells C 5 (C.size, C.size + 1)) = W at hA ⊢
  refine ⟨?_, ?_⟩
  · simp [World.cell?, hA]; omega
  · simp [World.frozen?, hA]; omega

/-- 'append(b, s...)' at a step of a region that draws. -/
theorem step_append_str {P : Program} {w w' : World} {ops : Array Oper} {o : Oper} {a : Act} {K : Act → World → Prop} {Q : Exit → Act → World → Prop} {E : Prop} (hgd : o.guard = none) (s x : Operand) (t u : TypeId)
    (ho : o.op = .call { callee := .builtin .append, args := #[s, x], argTypes := #[t, u] }) (v y v' : Value) (hs : a.eval s = v) (hx : a.eval x = y)
    (hrun : (Builtin.append_ #[t, u] o.type #[v, y]).run P w = .ok v' w') (h : K (a.put o.dst v') w') :
    if Region.wanted o (yielded ops a.tmps) = true then Oper.wp P o a w K Q else E := by
  have hw : Region.wanted o (yielded ops a.tmps) = true := by simp [Region.wanted, hgd]
  rw [if_pos hw]
  unfold Oper.wp
  simp [execOp, ho, resolve, invoke, builtin, hs, hx, hrun, Result.andThen]
  exact h

/-- 'append(b, s...)' in a plain region. -/
theorem wpList_append_str {P : Program} {w w' : World} {ops : Array Oper} {rest : List Oper} {o : Oper} {a : Act} {Q : Exit → Act → World → Prop} (hgd : o.guard = none) (s x : Operand) (t u : TypeId)
    (ho : o.op = .call { callee := .builtin .append, args := #[s, x], argTypes := #[t, u] }) (v y v' : Value) (hs : a.eval s = v) (hx : a.eval x = y)
    (hrun : (Builtin.append_ #[t, u] o.type #[v, y]).run P w = .ok v' w') (h : wpList P ops Q rest (a.put o.dst v') w') : wpList P ops Q (o :: rest) a w := by
  refine wpList_plain hgd fun K hK => ?_
  unfold Oper.wp
  simp [execOp, ho, resolve, invoke, builtin, hs, hx, hrun, Result.andThen]
  exact hK _ _ h

end Go.Proofs.Ytnhkpncbloojhaa
