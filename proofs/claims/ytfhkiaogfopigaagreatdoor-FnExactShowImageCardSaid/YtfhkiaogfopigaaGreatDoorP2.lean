/-
  Parts of one proof, one behind the other: ChunkS, TreeS3, Math7S, Math7R, Math8, Math8R, Math8H, Math8P, Math9, Math9L, Math10, Math10L, Math10T, Math6D, Math11, Math11F, Math12, Math11T, Math12L, Math13, Math13L, Math14, Math14R, Math14S, TreeS4, TreeS5, TreeS6, IntsL, Marks, Marks2, Marks3, TextsL, NumsL, NodeL, Draw3, DrawW, DrawT, Bend1, Bend2, DrawX, DrawN, NeedS, InsS.
-/
import Derived.Test.YtfhkiaogfopigaaGreatDoorP1
import Derived.Lib.AppendStr
import Derived.Deep.RegionHeld3
import Derived.Deep.RegionWith
import Derived.SliceStrings
import Derived.ProofKit
import Derived.OpenShut
import Derived.ShutString
import Derived.ChangeOld
import Derived.Below
import Derived.Deep.RegionLaw
import Derived.Deep.DrawnRows
import Derived.Deep.Cut

/-! The contracts of chapter 3's specification: Chunks, Joined. -/
namespace Go.Proofs.YtfhkiaogfopigaaGreatDoor
open Go.RowKit

/-- The texts ts lie at a, one behind the other. -/
def TextsIn (w : World) (a : Option Addr) (len : Nat) (ts : List (List UInt8)) : Prop :=
  ts.length = len ∧ ∀ j, j < len → ∃ b off, a = some ⟨b, off, none⟩ ∧ b < w.heap.size ∧ w.cell? ⟨b, off + j, none⟩ = some (.string ⟨(ts.getD j []).toArray⟩)

theorem TextsIn.below {w w' : World} {a : Option Addr} {len : Nat} {ts : List (List UInt8)} (h : TextsIn w a len ts) (hb : Below w.heap.size w w') : TextsIn w' a len ts := by
  refine ⟨h.1, fun j hj => ?_⟩
  obtain ⟨b, off, e, hlt, c⟩ := h.2 j hj
  exact ⟨b, off, e, Nat.lt_of_lt_of_le hlt hb.size, (hb.cell (p := ⟨b, off + j, none⟩) hlt).trans c⟩

theorem TextsIn.at {w : World} {a : Option Addr} {len : Nat} {ts : List (List UInt8)} (h : TextsIn w a len ts) (hz : 0 < len) : ∃ b off, a = some ⟨b, off, none⟩ ∧ b < w.heap.size ∧ ∀ j, j < len → w.cell? ⟨b, off + j, none⟩ = some (.string ⟨(ts.getD j []).toArray⟩) := by
  obtain ⟨b, off, rfl, hb, _⟩ := h.2 0 hz
  refine ⟨b, off, rfl, hb, fun j hj => ?_⟩
  obtain ⟨b', off', e, _, c⟩ := h.2 j hj
  injection e with e
  injection e with e1 e2
  subst e1 e2
  exact c

theorem own_texts {w : World} {base n : Nat} {v : Value} {ts : List (List UInt8)} (h : w.ownsRow base 9 1 v n (strV ts)) : ts.length = n ∧ ∃ a cap, v = .slice a n cap ∧ TextsIn w a n ts := by
  have hlen : ts.length = n := by have := h.1; rw [strV_len] at this; omega
  refine ⟨hlen, ?_⟩
  rcases own_forms h with ⟨rfl, rfl, _⟩ | ⟨g, cp, rfl⟩
  · exact ⟨none, 0, rfl, hlen, fun j hj => by omega⟩
  · refine ⟨some ⟨g, 0, none⟩, cp, rfl, hlen, fun j hj => ⟨g, 0, rfl, (h.lt g rfl).2, ?_⟩⟩
    rw [Nat.zero_add]; exact str_cellsD h hlen j hj



theorem strCells_list (l : List UInt8) : Lib.strCells ⟨l.toArray⟩ = bytesV l := by simp [Lib.strCells, bytesV]

theorem flat_snoc (ts : List (List UInt8)) (k : Nat) (hk : k < ts.length) : (ts.take (k + 1)).flatten = (ts.take k).flatten ++ ts.getD k [] := by
  have hg : ts.getD k [] = ts[k] := by simp [List.getD, hk]
  rw [hg, List.take_succ_eq_append_getElem hk, List.flatten_append]; simp

theorem flat_take (ts : List (List UInt8)) (k : Nat) : (ts.take k).flatten.length ≤ ts.flatten.length := by
  have h := congrArg (fun x => x.flatten.length) (List.take_append_drop k ts)
  simp only [List.flatten_append, List.length_append] at h
  omega


end Go.Proofs.YtfhkiaogfopigaaGreatDoor

/-! The contracts of chapter 6's specification: TreeOk; a node and a tree are shown. -/
namespace Go.Proofs.YtfhkiaogfopigaaGreatDoor
open Go.RowKit


end Go.Proofs.YtfhkiaogfopigaaGreatDoor

/-! Plain facts for chapter 7: how a package is shown and read. -/
namespace Go.Proofs.YtfhkiaogfopigaaGreatDoor
open Go.RowKit

end Go.Proofs.YtfhkiaogfopigaaGreatDoor

/-! Plain facts for chapter 7: ReadPackage of ShowPackage is the package. -/
namespace Go.Proofs.YtfhkiaogfopigaaGreatDoor
open Go.RowKit

def lineT (x : List UInt8) : List UInt8 := x ++ [10]

def pk0 : Pk := ([], [], [])

end Go.Proofs.YtfhkiaogfopigaaGreatDoor

/-! Plain facts of chapter 8: texts in order, lists of names, projects. -/
namespace Go.Proofs.YtfhkiaogfopigaaGreatDoor
open Go.RowKit

theorem lt8_irr : ∀ x : List UInt8, Op.bytesLess x x = false
  | [] => rfl
  | a :: r => by simp [Op.bytesLess, lt8_irr r]
theorem lt8_trans : ∀ {x y z : List UInt8}, Op.bytesLess x y = true → Op.bytesLess y z = true → Op.bytesLess x z = true
  | x, y, [], _, h => by cases y <;> simp [Op.bytesLess] at h
  | [], y, c :: z, _, _ => rfl
  | a :: x, [], c :: z, h, _ => by simp [Op.bytesLess] at h
  | a :: x, b :: y, c :: z, h, k => by
    simp only [Op.bytesLess, Bool.or_eq_true, decide_eq_true_eq, Bool.and_eq_true, beq_iff_eq] at h k ⊢
    rcases h with h | ⟨rfl, h⟩
    · rcases k with k | ⟨rfl, k⟩
      · exact Or.inl (UInt8.lt_trans h k)
      · exact Or.inl h
    · rcases k with k | ⟨rfl, k⟩
      · exact Or.inl k
      · exact Or.inr ⟨rfl, lt8_trans h k⟩
theorem lt8_tri : ∀ {x y : List UInt8}, Op.bytesLess x y = false → Op.bytesLess y x = false → x = y
  | [], [], _, _ => rfl
  | [], b :: y, h, _ => by simp [Op.bytesLess] at h
  | a :: x, [], _, k => by simp [Op.bytesLess] at k
  | a :: x, b :: y, h, k => by
    simp only [Op.bytesLess, Bool.or_eq_false_iff, decide_eq_false_iff_not, Bool.and_eq_false_iff, beq_eq_false_iff_ne] at h k
    have hab : a = b := by
      have h1 := h.1
      have h2 := k.1
      rw [UInt8.lt_iff_toNat_lt] at h1 h2
      exact UInt8.toNat_inj.1 (by omega)
    subst hab
    rw [lt8_tri (h.2.resolve_left (by simp)) (k.2.resolve_left (by simp))]
/-- One is behind another. -/
theorem leT_no {a b : List UInt8} : leT b a = false ↔ Op.bytesLess a b = true := by
  unfold leT
  rw [Bool.or_eq_false_iff, beq_eq_false_iff_ne]
  constructor
  · rintro ⟨h, hne⟩
    rcases hx : Op.bytesLess a b with _ | _
    · exact absurd (lt8_tri h hx) hne
    · rfl
  · intro h
    refine ⟨?_, fun e => ?_⟩
    · rcases hx : Op.bytesLess b a with _ | _
      · rfl
      · have := lt8_trans h hx; rw [lt8_irr] at this; cases this
    · subst e; rw [lt8_irr] at h; cases h

/-- A project: packages whose names rise. -/
def names8 (ps : List Pk) : List (List UInt8) := ps.map (·.1)
def pj8 (ps : List Pk) (i : Nat) : Prop := pkgB (ps.getD i pk0) = true ∧ (0 < i → leT (ps.getD i pk0).1 (ps.getD (i - 1) pk0).1 = false)
instance (ps : List Pk) (i : Nat) : Decidable (pj8 ps i) := by unfold pj8; infer_instance
def projB (ps : List Pk) : Bool := decide (∀ i, i < ps.length → pj8 ps i) && inB (ps.length : Int) 1 8
/-- Where one of a name is. -/
def at8Go (s : List UInt8) : List Pk → Nat → Int
  | [], _ => -1
  | p :: r, k => if p.1 = s then (k : Int) else at8Go s r (k + 1)
def at8 (ps : List Pk) (s : List UInt8) : Int := at8Go s ps 0
/-! Order. -/
def free8 (ps : List Pk) (out : List (List UInt8)) (p : Pk) : Prop := ¬ p.1 ∈ out ∧ ∀ m ∈ p.2.1, m ∈ names8 ps → m ∈ out
instance (ps : List Pk) (out : List (List UInt8)) (p : Pk) : Decidable (free8 ps out p) := by unfold free8; infer_instance
end Go.Proofs.YtfhkiaogfopigaaGreatDoor

/-! Plain facts of chapter 8: a text is put into a list that rises; what is reached. -/
namespace Go.Proofs.YtfhkiaogfopigaaGreatDoor
open Go.RowKit

/-! What is reached. -/
end Go.Proofs.YtfhkiaogfopigaaGreatDoor

/-! Plain facts: a heap of numbers in a list: one goes up, one goes down, the least is first. -/
namespace Go.Proofs.YtfhkiaogfopigaaGreatDoor
open Go.RowKit

end Go.Proofs.YtfhkiaogfopigaaGreatDoor

/-! Plain facts of chapter 8: packages by their places: who waits for how many, who is next, what is reached. -/
namespace Go.Proofs.YtfhkiaogfopigaaGreatDoor
open Go.RowKit

/-! What is reached. -/
end Go.Proofs.YtfhkiaogfopigaaGreatDoor

/-! Plain facts of chapter 9: what a call is told, what is wrong in a function, a package, a project; exports. -/
namespace Go.Proofs.YtfhkiaogfopigaaGreatDoor
open Go.RowKit

/-! A call. -/
def farB (ps : List Pk) (p : Pk) (q : List UInt8) : Bool := decide (q ≠ p.1 ∧ (¬ q ∈ p.2.1 ∨ at8 ps q < 0))
def ofPk (ps : List Pk) (p : Pk) (q : List UInt8) : Pk := if q = p.1 then p else ps.getD (at8 ps q).toNat pk0
def call9 (ps : List Pk) (p : Pk) (i : Int) (n : Nd) : Int :=
  if farB ps p n.2.2.1 = true then 1
  else if atV (ofPk ps p n.2.2.1).2.2 n.2.2.2 < 0 ∨ (n.2.2.1 = p.1 ∧ i ≤ atV (ofPk ps p n.2.2.1).2.2 n.2.2.2) then 2
  else if ((ofPk ps p n.2.2.1).2.2.getD (atV (ofPk ps p n.2.2.1).2.2 n.2.2.2).toNat fn0).2.1 ≠ n.2.1 then 3 else 0
/-- The package that a name is of. -/
def pkOf (ps : List Pk) (s : List UInt8) : Pk := ps.getD (at8 ps s).toNat pk0
def callB (ps : List Pk) (s : List UInt8) (i : Int) (n : Nd) : Prop := projB ps = true ∧ 0 ≤ at8 ps s ∧ nodeB n = true ∧ n.1 = 8 ∧ 0 ≤ i ∧ i < ((pkOf ps s).2.2.length : Int)
instance (ps : List Pk) (s : List UInt8) (i : Int) (n : Nd) : Decidable (callB ps s i n) := by unfold callB; infer_instance
/-! A function. -/
def arg9 (f : Fn) (n : Nd) : Prop := n.1 = 2 ∧ f.2.1 ≤ n.2.1
instance (f : Fn) (n : Nd) : Decidable (arg9 f n) := by unfold arg9; infer_instance
def bad9 (ps : List Pk) (p : Pk) (i : Nat) (n : Nd) : Prop := n.1 = 8 ∧ call9 ps p i n ≠ 0
instance (ps : List Pk) (p : Pk) (i : Nat) (n : Nd) : Decidable (bad9 ps p i n) := by unfold bad9; infer_instance
def fnGo (ps : List Pk) (p : Pk) (i : Nat) (f : Fn) : List Nd → Int → Int
  | [], c => c
  | n :: r, c => if arg9 f n then 3 else fnGo ps p i f r (if bad9 ps p i n then 4 else c)
def func9 (ps : List Pk) (p : Pk) (i : Nat) : Int := fnGo ps p i (p.2.2.getD i fn0) (p.2.2.getD i fn0).2.2 0
/-! A package, a project. -/
def miss9 (ps : List Pk) (p : Pk) : Prop := ∃ m ∈ p.2.1, at8 ps m < 0
instance (ps : List Pk) (p : Pk) : Decidable (miss9 ps p) := by unfold miss9; infer_instance
/-! Exports. -/
end Go.Proofs.YtfhkiaogfopigaaGreatDoor

/-! Plain facts of chapter 9: what FnFaults tests. -/
namespace Go.Proofs.YtfhkiaogfopigaaGreatDoor
open Go.RowKit

/-! What FnCalls looks for. -/
end Go.Proofs.YtfhkiaogfopigaaGreatDoor

/-! Plain facts of chapter 10: what a tree means, tree by tree; fuel. -/
namespace Go.Proofs.YtfhkiaogfopigaaGreatDoor
open Go.RowKit

/-! A walk: what fuel is left, and why it stopped. -/
/-! What every such walk keeps. -/
/-! Words. -/
end Go.Proofs.YtfhkiaogfopigaaGreatDoor

/-! Plain facts of chapter 10: Meant, Burnt; what FnMeans tests. -/
namespace Go.Proofs.YtfhkiaogfopigaaGreatDoor
open Go.RowKit

end Go.Proofs.YtfhkiaogfopigaaGreatDoor

/-! Plain facts of chapter 10: where nothing is wrong, what a walk meets in a tree. -/
namespace Go.Proofs.YtfhkiaogfopigaaGreatDoor
open Go.RowKit

/-! Parts. -/
/-! A tree of a function of a project without fault. -/
end Go.Proofs.YtfhkiaogfopigaaGreatDoor

/-! Plain facts of drawn trees: no tree at a place of a drawn list has more than 60 nodes. -/
namespace Go.Proofs.YtfhkiaogfopigaaGreatDoor
open Go.RowKit

end Go.Proofs.YtfhkiaogfopigaaGreatDoor

/-! Plain facts of chapter 11: a tree is a node and its parts; what is made of it. -/
namespace Go.Proofs.YtfhkiaogfopigaaGreatDoor
open Go.RowKit

/-! Trees in a list. -/
end Go.Proofs.YtfhkiaogfopigaaGreatDoor

/-! Plain facts of chapter 11: folding. -/
namespace Go.Proofs.YtfhkiaogfopigaaGreatDoor
open Go.RowKit

end Go.Proofs.YtfhkiaogfopigaaGreatDoor

/-! Plain facts of chapter 12: how many registers a tree takes. -/
namespace Go.Proofs.YtfhkiaogfopigaaGreatDoor
open Go.RowKit

end Go.Proofs.YtfhkiaogfopigaaGreatDoor

/-! Plain facts: every node of a tree has an end. -/
namespace Go.Proofs.YtfhkiaogfopigaaGreatDoor
open Go.RowKit

end Go.Proofs.YtfhkiaogfopigaaGreatDoor

/-! Plain facts of chapter 12: what FnSethi and FnFirst ask. -/
namespace Go.Proofs.YtfhkiaogfopigaaGreatDoor
open Go.RowKit

end Go.Proofs.YtfhkiaogfopigaaGreatDoor

/-! Plain facts of chapter 13: instructions, code, what a tree becomes, registers. -/
namespace Go.Proofs.YtfhkiaogfopigaaGreatDoor
open Go.RowKit

abbrev In13 := Int × Int × Int × Int × List UInt8
def in0 : In13 := (0, 0, 0, 0, [])
def name13 (s : List UInt8) : Bool := (splitL 46 s).length == 2 && nameB ((splitL 46 s).getD 0 []) && nameB ((splitL 46 s).getD 1 [])
def insP (i : In13) : Prop :=
  (i.1 = 9 ∨ i.2.2.2.2 = []) ∧ ((3 ≤ i.1 ∧ i.1 ≤ 6) ∨ i.2.2.2.1 = 0) ∧
  ((i.1 = 1 ∧ (0 ≤ i.2.1 ∧ i.2.1 ≤ 63) ∧ (-2147483648 ≤ i.2.2.1 ∧ i.2.2.1 ≤ 2147483647)) ∨
   (i.1 = 2 ∧ (0 ≤ i.2.1 ∧ i.2.1 ≤ 63) ∧ (0 ≤ i.2.2.1 ∧ i.2.2.1 ≤ 2)) ∨
   ((3 ≤ i.1 ∧ i.1 ≤ 6) ∧ (0 ≤ i.2.1 ∧ i.2.1 ≤ 63) ∧ (0 ≤ i.2.2.1 ∧ i.2.2.1 ≤ 63) ∧ (0 ≤ i.2.2.2.1 ∧ i.2.2.2.1 ≤ 63)) ∨
   (i.1 = 7 ∧ (0 ≤ i.2.1 ∧ i.2.1 ≤ 63) ∧ (0 ≤ i.2.2.1 ∧ i.2.2.1 ≤ 199)) ∨
   (i.1 = 8 ∧ i.2.1 = 0 ∧ (0 ≤ i.2.2.1 ∧ i.2.2.1 ≤ 199)) ∨
   (i.1 = 9 ∧ (0 ≤ i.2.1 ∧ i.2.1 ≤ 63) ∧ (0 ≤ i.2.2.1 ∧ i.2.2.1 ≤ 3) ∧ i.2.1 + i.2.2.1 - 1 ≤ 63 ∧ name13 i.2.2.2.2 = true) ∨
   (i.1 = 10 ∧ (0 ≤ i.2.1 ∧ i.2.1 ≤ 63) ∧ i.2.2.1 = 0))
instance (i : In13) : Decidable (insP i) := by unfold insP; infer_instance
def insB (i : In13) : Bool := decide (insP i)
/-- Is it right, in code of n? -/
def insAt (n : Nat) (i : In13) : Prop := insP i ∧ ((i.1 = 7 ∨ i.1 = 8) → i.2.2.1 < (n : Int))
instance (n : Nat) (i : In13) : Decidable (insAt n i) := by unfold insAt; infer_instance
def codeB (c : List In13) : Bool := decide ((1 ≤ c.length ∧ c.length ≤ 200) ∧ (∀ i ∈ c, insAt c.length i) ∧ ((c.getD (c.length - 1) in0).1 = 10 ∨ (c.getD (c.length - 1) in0).1 = 8))
end Go.Proofs.YtfhkiaogfopigaaGreatDoor

/-! Plain facts of chapter 13: what FnCompiled asks. -/
namespace Go.Proofs.YtfhkiaogfopigaaGreatDoor
open Go.RowKit

end Go.Proofs.YtfhkiaogfopigaaGreatDoor

/-! Plain facts of chapter 14: images, shown and read. -/
namespace Go.Proofs.YtfhkiaogfopigaaGreatDoor
open Go.RowKit

abbrev Rt := List UInt8 × Int × List In13
def rt0 : Rt := ([], 0, [])
def at14Go (s : List UInt8) : List Rt → Nat → Int
  | [], _ => -1
  | r :: rs, k => if r.1 = s then (k : Int) else at14Go s rs (k + 1)
def at14 (rs : List Rt) (s : List UInt8) : Int := at14Go s rs 0
theorem at14Go_drop {rs : List Rt} {k : Nat} (hk : k < rs.length) (s : List UInt8) : at14Go s (rs.drop k) k = if (rs.getD k rt0).1 = s then (k : Int) else at14Go s (rs.drop (k + 1)) (k + 1) := by
  rw [List.drop_eq_getElem_cons hk, at14Go]
  have hg : rs.getD k rt0 = rs[k] := by simp [List.getD, hk]
  rw [hg]
theorem at14Go_bd (s : List UInt8) : ∀ (rs : List Rt) (k : Nat), at14Go s rs k = -1 ∨ ((k : Int) ≤ at14Go s rs k ∧ at14Go s rs k < k + rs.length)
  | [], _ => Or.inl rfl
  | r :: rs, k => by
    rw [at14Go]
    split
    · refine Or.inr ⟨Int.le_refl _, ?_⟩
      simp only [List.length_cons]; omega
    · rcases at14Go_bd s rs (k + 1) with h | h
      · exact Or.inl h
      · refine Or.inr ⟨by omega, ?_⟩
        simp only [List.length_cons]; omega
theorem at14_bd (rs : List Rt) (s : List UInt8) : -1 ≤ at14 rs s ∧ at14 rs s < rs.length := by
  unfold at14
  rcases at14Go_bd s rs 0 with h | h
  · rw [h]; omega
  · omega
/-- Is an argument asked that is there? -/
def argB (n : Int) (i : In13) : Bool := !(decide (i.1 = 2) && decide (n ≤ i.2.2.1))
def rtB (r : Rt) : Bool := (name13 r.1 && (inB r.2.1 0 3 && codeB r.2.2)) && r.2.2.all (argB r.2.1)
def clsB (rs : List Rt) (i : In13) : Bool := decide (i.1 ≠ 9) || (decide (0 ≤ at14 rs i.2.2.2.2) && decide ((rs.getD (at14 rs i.2.2.2.2).toNat rt0).2.1 = i.2.2.1))
def oneB (rs : List Rt) (j : Nat) : Prop := rtB (rs.getD j rt0) = true ∧ (0 < j → leT (rs.getD j rt0).1 (rs.getD (j - 1) rt0).1 = false) ∧ (rs.getD j rt0).2.2.all (clsB rs) = true
instance (rs : List Rt) (j : Nat) : Decidable (oneB rs j) := by unfold oneB; infer_instance
def imageB (rs : List Rt) : Bool := decide ((∀ j, j < rs.length → oneB rs j) ∧ (1 ≤ rs.length ∧ rs.length ≤ 64))
theorem image_no {rs : List Rt} {j : Nat} (hj : j < rs.length) (h : ¬ oneB rs j) : imageB rs = false := decide_eq_false (fun e => h (e.1 j hj))
theorem image_all {rs : List Rt} (h : ∀ j, j < rs.length → oneB rs j) : imageB rs = inB (rs.length : Int) 1 64 := by
  unfold imageB inB
  refine decide_eq_decide.2 ⟨fun e => by omega, fun e => ⟨h, by omega⟩⟩

def kwRt : List UInt8 := [114, 111, 117, 116, 105, 110, 101]
def nmL (s : List UInt8) : List UInt8 := if s = [] then [45] else s
def insLn (i : In13) : List UInt8 := intL i.1 ++ [32] ++ intL i.2.1 ++ [32] ++ intL i.2.2.1 ++ [32] ++ intL i.2.2.2.1 ++ [32] ++ nmL i.2.2.2.2
def rtLn (r : Rt) : List UInt8 := kwRt ++ [32] ++ r.1 ++ [32] ++ intL r.2.1 ++ [32] ++ intL (r.2.2.length : Int)
def rtLines (r : Rt) : List (List UInt8) := rtLn r :: r.2.2.map insLn
def imLines (rs : List Rt) : List (List UInt8) := rs.flatMap rtLines
def showI (rs : List Rt) : List UInt8 := termJ (imLines rs)
def showIm (rs : List Rt) : List UInt8 := if imageB rs = true then showI rs else []

theorem name13_parts {s : List UInt8} (h : name13 s = true) : ∃ p f, nameB p = true ∧ nameB f = true ∧ s = p ++ 46 :: f := by
  unfold name13 at h
  rw [Bool.and_eq_true, Bool.and_eq_true, beq_iff_eq] at h
  obtain ⟨⟨h1, h2⟩, h3⟩ := h
  have hj := joinBy_split 46 s []
  rw [List.nil_append] at hj
  match hs : splitL 46 s, h1 with
  | [p, f], _ =>
    rw [hs] at h2 h3
    refine ⟨p, f, h2, h3, ?_⟩
    rw [← hj]
    have e : splitGo 46 [] s = [p, f] := hs
    rw [e]
    simp [joinBy]
theorem name13_len {s : List UInt8} (h : name13 s = true) : 3 ≤ s.length ∧ s.length ≤ 17 := by
  obtain ⟨p, f, hp, hf, rfl⟩ := name13_parts h
  have h1 := (name_letters hp).1
  have h2 := (name_letters hf).1
  simp only [List.length_append, List.length_cons]
  omega
theorem insP_words {i : In13} (h : insP i) : (-2147483648 ≤ i.1 ∧ i.1 ≤ 2147483647) ∧ (-2147483648 ≤ i.2.1 ∧ i.2.1 ≤ 2147483647) ∧ (-2147483648 ≤ i.2.2.1 ∧ i.2.2.1 ≤ 2147483647) ∧ (-2147483648 ≤ i.2.2.2.1 ∧ i.2.2.2.1 ≤ 2147483647) := by
  have h2 := h.2.1
  have h3 := h.2.2
  omega
theorem codeB_ins {c : List In13} (h : codeB c = true) : ∀ i ∈ c, insP i := fun i hi => ((of_decide_eq_true h).2.1 i hi).1
theorem codeB_len {c : List In13} (h : codeB c = true) : 1 ≤ c.length ∧ c.length ≤ 200 := (of_decide_eq_true h).1
theorem rtB_parts {r : Rt} (h : rtB r = true) : name13 r.1 = true ∧ (0 ≤ r.2.1 ∧ r.2.1 ≤ 3) ∧ codeB r.2.2 = true ∧ r.2.2.all (argB r.2.1) = true := by
  unfold rtB at h
  simp only [Bool.and_eq_true] at h
  exact ⟨h.1.1, by have := h.1.2.1; unfold inB at this; exact of_decide_eq_true this, h.1.2.2, h.2⟩
theorem image_rts {rs : List Rt} (h : imageB rs = true) : ∀ r ∈ rs, rtB r = true := fun r hr => by
  obtain ⟨j, hj, rfl⟩ := List.getElem_of_mem hr
  have := ((of_decide_eq_true h).1 j hj).1
  simpa [List.getD, hj] using this
end Go.Proofs.YtfhkiaogfopigaaGreatDoor

/-! Plain facts of chapter 14: an image is read from what it is shown as; what is read is shown so. -/
namespace Go.Proofs.YtfhkiaogfopigaaGreatDoor
open Go.RowKit

theorem intL_to {a : Int} (k : Nat) (h0 : 0 ≤ a) (h1 : a < 10 ^ (k + 1)) : (intL a).length ≤ k + 1 := by
  unfold intL
  rw [if_neg (by omega)]
  exact digL_len k a.natAbs (by
    have e : ((a.natAbs : Nat) : Int) = a := by omega
    have h2 : ((a.natAbs : Nat) : Int) < ((10 ^ (k + 1) : Nat) : Int) := by rw [e]; push_cast; exact h1
    omega)
theorem intL_w11 {a : Int} (h0 : -2147483648 ≤ a) (h1 : a ≤ 2147483647) : (intL a).length ≤ 11 := by
  unfold intL
  have hd := digL_len 9 a.natAbs (by omega)
  split
  · simp only [List.length_cons]; omega
  · omega
theorem insLn_len {i : In13} (h : insP i) : (insLn i).length ≤ 28 := by
  obtain ⟨k, r, a, b, s⟩ := i
  have hk : 1 ≤ k ∧ k ≤ 10 := by have := h.2.2; simp only at this; omega
  have hr : 0 ≤ r ∧ r ≤ 63 := by have := h.2.2; simp only at this; omega
  have hb : 0 ≤ b ∧ b ≤ 63 := by have h1 := h.2.1; have h2 := h.2.2; simp only at h1 h2; omega
  have lk := intL_to (a := k) 1 (by omega) (by omega)
  have lr := intL_to (a := r) 1 (by omega) (by omega)
  have lb := intL_to (a := b) 1 (by omega) (by omega)
  have la : (intL a).length + (nmL s).length ≤ 18 := by
    by_cases h9 : k = 9
    · have h2 := h.2.2
      simp only at h2
      have hn : (0 ≤ a ∧ a ≤ 3) ∧ name13 s = true := by
        rcases h2 with e | e | e | e | e | e | e
        · omega
        · omega
        · omega
        · omega
        · omega
        · exact ⟨e.2.2.1, e.2.2.2.2⟩
        · omega
      have l1 := intL_to (a := a) 0 (by omega) (by omega)
      have l2 := name13_len hn.2
      unfold nmL
      split
      · simp; omega
      · omega
    · have hs : s = [] := by
        have := h.1
        simp only at this
        rcases this with e | e
        · exact absurd e h9
        · exact e
      have l1 := intL_w11 (insP_words h).2.2.1.1 (insP_words h).2.2.1.2
      simp only at l1
      unfold nmL
      rw [if_pos hs]
      simp
      omega
  unfold insLn
  simp only [List.length_append, List.length_singleton]
  omega
theorem rtLn_len {r : Rt} (h : rtB r = true) : (rtLn r).length ≤ 32 := by
  obtain ⟨hn, ha, hc, _⟩ := rtB_parts h
  have l1 := name13_len hn
  have l2 := intL_to (a := r.2.1) 0 (by omega) (by omega)
  have hl := codeB_len hc
  have l3 := intL_to (a := (r.2.2.length : Int)) 2 (by omega) (by omega)
  unfold rtLn kwRt
  simp only [List.length_append, List.length_cons, List.length_nil]
  omega
theorem termJ_ins : ∀ (c : List In13), (∀ i ∈ c, insP i) → (termJ (c.map insLn)).length ≤ c.length * 29
  | [], _ => by simp [termJ]
  | i :: c, h => by
    have ih := termJ_ins c (fun j hj => h j (by simp [hj]))
    have hi := insLn_len (h i (by simp))
    have e : termJ ((i :: c).map insLn) = insLn i ++ [10] ++ termJ (c.map insLn) := by simp [termJ]
    rw [e]
    simp only [List.length_append, List.length_cons, List.length_nil]
    omega
theorem showI_len' : ∀ (rs : List Rt), (∀ r ∈ rs, rtB r = true) → (termJ (imLines rs)).length ≤ rs.length * 5840
  | [], _ => by simp [termJ, imLines]
  | r :: rs, h => by
    have ih := showI_len' rs (fun j hj => h j (by simp [hj]))
    have hr := h r (by simp)
    have h1 := rtLn_len hr
    have hc := (rtB_parts hr).2.2.1
    have h2 := termJ_ins r.2.2 (codeB_ins hc)
    have hl := codeB_len hc
    have e : termJ (imLines (r :: rs)) = rtLn r ++ [10] ++ termJ (r.2.2.map insLn) ++ termJ (imLines rs) := by simp [termJ, imLines, rtLines]
    rw [e]
    simp only [List.length_append, List.length_cons, List.length_nil]
    omega
theorem showI_len {rs : List Rt} (h : imageB rs = true) : (showI rs).length ≤ 400000 := by
  have h1 := showI_len' rs (image_rts h)
  have h2 := (of_decide_eq_true h).2
  unfold showI
  omega
end Go.Proofs.YtfhkiaogfopigaaGreatDoor

/-! Plain facts of chapter 14: how an image runs. -/
namespace Go.Proofs.YtfhkiaogfopigaaGreatDoor
open Go.RowKit

def WordL (xs : List Int) : Prop := ∀ x ∈ xs, -2147483648 ≤ x ∧ x ≤ 2147483647
theorem WordL.at {xs : List Int} (h : WordL xs) (j : Nat) : -2147483648 ≤ xs.getD j 0 ∧ xs.getD j 0 ≤ 2147483647 := by
  rw [List.getD_eq_getElem?_getD]
  rcases Nat.lt_or_ge j xs.length with hj | hj
  · rw [List.getElem?_eq_getElem hj]; exact h _ (List.getElem_mem hj)
  · rw [List.getElem?_eq_none hj]; decide
theorem WordL.set {xs : List Int} (h : WordL xs) (j : Nat) {z : Int} (hz : -2147483648 ≤ z ∧ z ≤ 2147483647) : WordL (xs.set j z) := fun q hq => by
  rcases List.mem_or_eq_of_mem_set hq with e | e
  · exact h q e
  · rw [e]; exact hz
/-- What RunImage gives. -/
def runP (rs : List Rt) (nm : List UInt8) (xs : List Int) (fuel : Int) : Prop := imageB rs = true ∧ 0 ≤ at14 rs nm ∧ (xs.length : Int) = (rs.getD (at14 rs nm).toNat rt0).2.1 ∧ (0 ≤ fuel ∧ fuel ≤ 20000) ∧ WordL xs
instance (xs : List Int) : Decidable (WordL xs) := by unfold WordL; infer_instance
instance (rs : List Rt) (nm : List UInt8) (xs : List Int) (fuel : Int) : Decidable (runP rs nm xs fuel) := by unfold runP; infer_instance
end Go.Proofs.YtfhkiaogfopigaaGreatDoor

/-! The contract of chapter 6's specification: the node of a word. -/
namespace Go.Proofs.YtfhkiaogfopigaaGreatDoor
open Go.RowKit

end Go.Proofs.YtfhkiaogfopigaaGreatDoor

/-! The contract of chapter 6's specification: ReadTree. -/
namespace Go.Proofs.YtfhkiaogfopigaaGreatDoor
open Go.RowKit

end Go.Proofs.YtfhkiaogfopigaaGreatDoor

/-! The contracts of chapter 6's specification: l6Parts, PartsOf. -/
namespace Go.Proofs.YtfhkiaogfopigaaGreatDoor
open Go.RowKit

/-- What a row of numbers holds. -/
def intsV (l : List Int) : List Value := l.map (fun i => Value.int .i64 i)
theorem intsV_len (l : List Int) : (intsV l).length = l.length := by simp [intsV]
end Go.Proofs.YtfhkiaogfopigaaGreatDoor

/-! The laws' own helpers over rows of numbers: eqInt64S, markInt64S, heldInt64S, likeInts. -/
namespace Go.Proofs.YtfhkiaogfopigaaGreatDoor
open Go.RowKit

theorem intsV_at (l : List Int) (j : Nat) (h : j < l.length) : (intsV l)[j]? = some (.int .i64 l[j]) := by
  unfold intsV; rw [List.getElem?_map, List.getElem?_eq_getElem h]; rfl

end Go.Proofs.YtfhkiaogfopigaaGreatDoor

/-! The contracts of the exact laws' own helpers over lists of texts: eqStringS, markStringS, heldStringS, markText. -/
namespace Go.Proofs.YtfhkiaogfopigaaGreatDoor
open Go.RowKit

end Go.Proofs.YtfhkiaogfopigaaGreatDoor

/-! The contracts of the exact laws' own helpers over lists of texts: eqStringS, markStringS, heldStringS. -/
namespace Go.Proofs.YtfhkiaogfopigaaGreatDoor
open Go.RowKit

end Go.Proofs.YtfhkiaogfopigaaGreatDoor

/-! The helpers over lists of texts, whatever the list's value: nil, empty or not. -/
namespace Go.Proofs.YtfhkiaogfopigaaGreatDoor
open Go.RowKit

end Go.Proofs.YtfhkiaogfopigaaGreatDoor

/-! A list of texts that came in, as the walks take it; the exact laws' helpers over such lists: szStringS, toStringS. -/
namespace Go.Proofs.YtfhkiaogfopigaaGreatDoor
open Go.ChangeShapes Go.WideShapes Go.ChangeAt Go.RowKit

end Go.Proofs.YtfhkiaogfopigaaGreatDoor

/-! Numbers that came in, as the walks of chapter 10's laws take them; the exact laws' helper over such rows: toInt64S. -/
namespace Go.Proofs.YtfhkiaogfopigaaGreatDoor
open Go.ChangeShapes Go.WideShapes Go.ChangeAt Go.RowKit

/-- Numbers that can be read. -/
def AsIn (w : World) (a : Option Addr) (xs : List Int) : Prop := ∀ j, j < xs.length → ∃ b off, a = some ⟨b, off, none⟩ ∧ b < w.heap.size ∧ w.cell? ⟨b, off + j, none⟩ = some (.int .i64 (xs.getD j 0))
theorem AsIn.below {w w' : World} {a : Option Addr} {xs : List Int} (h : AsIn w a xs) (hb : Below w.heap.size w w') : AsIn w' a xs := fun j hj => by
  obtain ⟨b, off, e, hl, hc⟩ := h j hj
  exact ⟨b, off, e, Nat.lt_of_lt_of_le hl hb.size, (hb.cell (p := ⟨b, off + j, none⟩) hl).trans hc⟩

end Go.Proofs.YtfhkiaogfopigaaGreatDoor

/-! The laws' own helpers over nodes and rows of nodes: szNode, szNodeS, toNode, toNodeS, eqNode, eqNodeS. -/
namespace Go.Proofs.YtfhkiaogfopigaaGreatDoor
open Go.RowKit

def szN (m n : Nat) (left : Int) : Int := if (m : Int) + (n : Int) ≤ left then left - (m : Int) - (n : Int) else -1
theorem szN_yes {m n : Nat} {left : Int} (h : (m : Int) + (n : Int) ≤ left) : szN m n left = left - (m : Int) - (n : Int) := by unfold szN; rw [if_pos h]
theorem szN_no {m n : Nat} {left : Int} (h : ¬ (m : Int) + (n : Int) ≤ left) : szN m n left = -1 := by unfold szN; rw [if_neg h]

end Go.Proofs.YtfhkiaogfopigaaGreatDoor

/-! The contracts of DrawHash and DrawTurned. -/
namespace Go.Proofs.YtfhkiaogfopigaaGreatDoor
open Go.RowKit


end Go.Proofs.YtfhkiaogfopigaaGreatDoor

/-! Words, and numbers that are none, are drawn. -/
namespace Go.Proofs.YtfhkiaogfopigaaGreatDoor
open Go.RowKit

end Go.Proofs.YtfhkiaogfopigaaGreatDoor

/-! A text is drawn. -/
namespace Go.Proofs.YtfhkiaogfopigaaGreatDoor
open Go.RowKit


end Go.Proofs.YtfhkiaogfopigaaGreatDoor

/-! What the bending of a text needs: a slice of bytes at the head of a block that is new since the call began, and an append's law at a step of a region that draws its order. -/
namespace Go.Proofs.YtfhkiaogfopigaaGreatDoor
open Go.RowKit

/-- Block g, new since 'base', holds the bytes l from its head on, and they may be written. -/
structure RowB (w : World) (base g cap : Nat) (l : List UInt8) : Prop where
  new : base ≤ g
  there : g < w.heap.size
  room : l.length ≤ cap
  most : cap ≤ maxLen
  cells : ∀ j (hj : j < l.length), w.cell? ⟨g, j, none⟩ = some (.int .u8 (l[j].toNat : Int))
  free : ∀ j, j < l.length → w.frozen? ⟨g, j, none⟩ = false

theorem RowB.kept {w w' : World} {base g cap : Nat} {l : List UInt8} {row : Option Nat} (h : RowB w base g cap l) (hg : w.grownBy w' row) (hne : some g ≠ row) : RowB w' base g cap l := by
  have hb := hg.block g h.there hne
  exact ⟨h.new, Nat.lt_of_lt_of_le h.there hg.size, h.room, h.most, fun j hj => (World.cell?_of_block hb).trans (h.cells j hj), fun j hj => (World.frozen?_of_block hb).trans (h.free j hj)⟩

theorem RowB.base {w : World} {base base' g cap : Nat} {l : List UInt8} (h : RowB w base g cap l) (hb : base' ≤ base) : RowB w base' g cap l := ⟨Nat.le_trans hb h.new, h.there, h.room, h.most, h.cells, h.free⟩

theorem RowB.of_own {w : World} {base : Nat} {v : Value} {l : List UInt8} (h : w.ownsRow base 5 1 v l.length (bytesV l)) (hv : v ≠ .slice none 0 0) : ∃ g cap, v = .slice (some ⟨g, 0, none⟩) l.length cap ∧ RowB w base g cap l := by
  have hh := h
  obtain ⟨_, ⟨e, _⟩ | ⟨g, cap, cur, rfl, hb, hc, hn, hm, hs, ht⟩⟩ := hh
  · exact absurd e hv
  · refine ⟨g, cap, rfl, hb, (h.lt g rfl).2, hn, hm, ?_, ?_⟩
    · intro j hj
      have hx := World.ownsRow.cellAt h j (by omega)
      rw [hx]; simp [bytesV, List.getElem?_eq_getElem hj]
    · intro j hj
      exact World.ownsRow.frozenAt h j

theorem RowB.back {w : World} {base g cap : Nat} {l : List UInt8} (h : RowB w base g cap l) :
    (convert 84 9 (.slice (some ⟨g, 0, none⟩) l.length cap)).run Tryz.prog w = .ok (.string ⟨l.toArray⟩) w := by
  refine run_convert_bytes_back (P := Tryz.prog) w 84 9 5 ⟨g, 0, none⟩ cap l Tryz.underlying84 Tryz.underlying5 Tryz.underlying9 ?_
  intro j hj
  have e : (⟨g, 0, none⟩ : Addr).add j = ⟨g, j, none⟩ := by unfold Addr.add; split <;> simp_all
  rw [e]; exact h.cells j hj

theorem RowB.store {w : World} {base g cap : Nat} {l : List UInt8} (h : RowB w base g cap l) (k : Nat) (hk : k < l.length) (x : UInt8) : RowB (w.setCell ⟨g, k, none⟩ (.int .u8 (x.toNat : Int))) base g cap (l.set k x) := by
  refine ⟨h.new, by simpa using h.there, by simpa using h.room, h.most, ?_, ?_⟩
  · intro j hj
    have hj' : j < l.length := by simpa using hj
    by_cases e : j = k
    · subst e
      rw [World.cell?_setCell_same _ _ _ (h.cells j hj')]
      simp
    · rw [World.cell?_setCell_other _ _ _ _ (by intro e2; injection e2 with _ e3; exact e e3.symm), h.cells j hj', List.getElem_set_ne (fun e2 => e e2.symm)]
  · intro j hj
    rw [World.frozen?_setCell]; exact h.free j (by simpa using hj)

theorem RowB.drew {w : World} {base g cap : Nat} {l : List UInt8} (h : RowB w base g cap l) : RowB w.drew base g cap l := ⟨h.new, h.there, h.room, h.most, h.cells, h.free⟩

theorem bytesV_at (l : List UInt8) (j : Nat) (u : Value) (h : (bytesV l)[j]? = some u) : ∃ hj : j < l.length, u = .int .u8 (l[j].toNat : Int) := by
  unfold bytesV at h
  rw [List.getElem?_map] at h
  rcases hx : l[j]? with _ | x
  · rw [hx] at h; cases h
  · rw [hx] at h
    obtain ⟨hj, e⟩ := List.getElem?_eq_some_iff.1 hx
    injection h with h
    exact ⟨hj, by rw [e]; exact h.symm⟩

theorem bytesV_len (l : List UInt8) : (bytesV l).length = l.length := by simp [bytesV]

theorem bytesV_one (l : List UInt8) : ∀ u ∈ bytesV l, u.oneCell' = true := by
  intro u hu
  obtain ⟨x, _, rfl⟩ := List.mem_map.1 hu
  rfl

theorem add_plain (b off j : Nat) : (⟨b, off, none⟩ : Addr).add j = ⟨b, off + j, none⟩ := by unfold Addr.add; split <;> simp_all

/-- The cells of b[k:], as an append takes them. -/
theorem RowB.tail {w : World} {base g cap : Nat} {l : List UInt8} (h : RowB w base g cap l) (k : Nat) : ∀ j u, (bytesV (l.drop k))[j]? = some u → w.cell? ((⟨g, k, none⟩ : Addr).add j) = some u := by
  intro j u hu
  obtain ⟨hj, rfl⟩ := bytesV_at _ _ _ hu
  have hj' : k + j < l.length := by rw [List.length_drop] at hj; omega
  rw [add_plain, h.cells (k + j) hj']
  simp

theorem bytesV_append (a b : List UInt8) : bytesV a ++ bytesV b = bytesV (a ++ b) := by simp [bytesV]

end Go.Proofs.YtfhkiaogfopigaaGreatDoor

/-! The contract of l1Bend: a text that is bent at most twice. -/
namespace Go.Proofs.YtfhkiaogfopigaaGreatDoor
open Go.RowKit


end Go.Proofs.YtfhkiaogfopigaaGreatDoor

/-! The contracts of DrawLines, DrawWords, DrawNameOk, DrawNumberOf. -/
namespace Go.Proofs.YtfhkiaogfopigaaGreatDoor
open Go.RowKit



end Go.Proofs.YtfhkiaogfopigaaGreatDoor

/-! A node is drawn. -/
namespace Go.Proofs.YtfhkiaogfopigaaGreatDoor
open Go.RowKit

end Go.Proofs.YtfhkiaogfopigaaGreatDoor

/-! What the contracts of chapter 12's specification lean on. -/
namespace Go.Proofs.YtfhkiaogfopigaaGreatDoor
open Go.RowKit

theorem ints_cell {w : World} {B g c n : Nat} {xs : List Int} (h : w.ownsRow B 2 1 (.slice (some ⟨g, 0, none⟩) n c) n (intsV xs)) (j : Nat) (hj : j < xs.length) : w.cell? ⟨g, j, none⟩ = some (.int .i64 (xs.getD j 0)) := by
  have hl := h.1
  rw [intsV_len] at hl
  rw [h.cellAt j (by omega), intsV_at xs j hj]
  simp [List.getD, hj]
end Go.Proofs.YtfhkiaogfopigaaGreatDoor

/-! The contracts of chapter 13's specification: registers, names, one instruction. -/
namespace Go.Proofs.YtfhkiaogfopigaaGreatDoor
open Go.RowKit

def insVal (i : In13) : Value := .agg #[.int .i64 i.1, .int .i64 i.2.1, .int .i64 i.2.2.1, .int .i64 i.2.2.2.1, .string ⟨i.2.2.2.2.toArray⟩]
def bad13 (k B : Int) (nm : List UInt8) : Bool := (decide (k ≠ 9) && !nm.isEmpty) || (!(inB k 3 6) && decide (B ≠ 0))
def kind13 (k R A B : Int) (nm : List UInt8) : Bool :=
  if k = 1 then inB R 0 63 && inB A (-2147483648) 2147483647
  else if k = 2 then inB R 0 63 && inB A 0 2
  else if 3 ≤ k ∧ k ≤ 6 then inB R 0 63 && inB A 0 63 && inB B 0 63
  else if k = 7 then inB R 0 63 && inB A 0 199
  else if k = 8 then decide (R = 0) && inB A 0 199
  else if k = 9 then inB R 0 63 && inB A 0 3 && decide (R + A - 1 ≤ 63) && name13 nm
  else if k = 10 then inB R 0 63 && decide (A = 0)
  else false
theorem insB_two (k R A B : Int) (nm : List UInt8) : insB (k, R, A, B, nm) = (!bad13 k B nm && kind13 k R A B nm) := by
  have hnm : nm.isEmpty = decide (nm = []) := by cases nm <;> simp
  rw [Bool.eq_iff_iff]
  unfold insB insP bad13 kind13 inB
  rw [hnm]
  dsimp only
  grind

set_option maxHeartbeats 400000 in
set_option maxRecDepth 100000 in
theorem specReg13 (r : Int) (w : World) : Calls Tryz.prog 116 #[.int .i64 r] w fun e w' => e = .returned (.bool (inB r 0 63)) ∧ w' = w := by
  go_enter Tryz.func116, Tryz.ntmps116
  go_wp2_with (go_at_call 54; refine (specIn _ _ _ _).mono ?_; rintro e w' ⟨rfl, rfl⟩)
  go_ret
  exact ⟨rfl, rfl⟩

set_option maxHeartbeats 1000000 in
set_option maxRecDepth 100000 in
theorem specName13 (s : List UInt8) (w : World) (hl : s.length ≤ 1048576) : Calls Tryz.prog 77 #[.string ⟨s.toArray⟩] w fun e w' => e = .returned (.bool (name13 s)) ∧ Below w.heap.size w w' := by
  obtain ⟨ws, hws⟩ : ∃ ws, splitL 46 s = ws := ⟨_, rfl⟩
  have HW : Hid (splitL 46 s = ws) := hws
  have hfl := splitGo_flat 46 s []
  have hwl : ∀ j, (ws.getD j []).length ≤ 1048576 := fun j => by
    rw [← hws]
    by_cases hj : j < (splitL 46 s).length
    · have hm : (splitL 46 s).getD j [] ∈ splitL 46 s := by simp [List.getD, hj]
      have h1 : ((splitL 46 s).getD j []).length ≤ (splitL 46 s).flatten.length := (List.sublist_flatten_of_mem hm).length_le
      have h2 : (splitL 46 s).flatten.length ≤ 0 + s.length := hfl
      omega
    · simp [List.getD, hj]
  have hN : name13 s = (decide (ws.length = 2) && nameB (ws.getD 0 []) && nameB (ws.getD 1 [])) := by unfold name13; rw [hws]; congr 1
  rw [hN]
  by_cases h2 : ws.length = 2
  · have hd : decide (ws.length = 2) = true := decide_eq_true h2
    rw [hd]
    obtain ⟨x, hx⟩ : ∃ x, ws.getD 0 [] = x := ⟨_, rfl⟩
    obtain ⟨y, hy⟩ : ∃ y, ws.getD 1 [] = y := ⟨_, rfl⟩
    have hw0 := hwl 0
    have hw1 := hwl 1
    have HX : Hid (ws.getD 0 [] = x ∧ ws.getD 1 [] = y) := ⟨hx, hy⟩
    rw [hx] at hw0 ⊢
    rw [hy] at hw1 ⊢
    have HP : Hid (_) := fun W : World => specNameOk x W hw0
    have HQ : Hid (_) := fun W : World => specNameOk y W hw1
    obtain ⟨nx, hnx⟩ : ∃ b, nameB x = b := ⟨_, rfl⟩
    obtain ⟨ny, hny⟩ : ∃ b, nameB y = b := ⟨_, rfl⟩
    rw [hnx] at HP ⊢
    rw [hny] at HQ ⊢
    clear hx hy hnx hny
    have H2 : Hid (ws.length = 2) := h2
    clear hN hws hfl hwl h2 hd
    go_enter Tryz.func77, Tryz.ntmps77
    go_wp2_with fail
    refine (specSplit s 46 46 _ (by rfl) hl).mono ?_
    rintro e w1 ⟨g, cp, rfl, hown, hb1⟩
    rw [HW.out] at hown ⊢
    rw [H2.out] at hown ⊢
    have c0 := str_cellsD hown H2.out 0 (by omega)
    have c1 := str_cellsD hown H2.out 1 (by omega)
    rw [HX.out.1] at c0
    rw [HX.out.2] at c1
    clear hown
    rcases nx with _ | _
    · go_wp2_with fail
      refine Calls.mono (HP.out _) ?_
      rintro e w2 ⟨rfl, rfl⟩
      go_wp2
      go_ret
      exact ⟨rfl, hb1⟩
    · go_wp2_with fail
      refine Calls.mono (HP.out _) ?_
      rintro e w2 ⟨rfl, rfl⟩
      go_wp2_with fail
      refine Calls.mono (HQ.out _) ?_
      rintro e w3 ⟨rfl, rfl⟩
      go_wp2
      go_ret
      exact ⟨rfl, hb1⟩
  · have hd : decide (ws.length = 2) = false := decide_eq_false h2
    rw [hd]
    have hne : ((ws.length : Int) == 2) = false := beq_eq_false_iff_ne.2 (by omega)
    clear hN hws hfl hwl h2 hd
    go_enter Tryz.func77, Tryz.ntmps77
    go_wp2_with fail
    refine (specSplit s 46 46 _ (by rfl) hl).mono ?_
    rintro e w1 ⟨g, cp, rfl, hown, hb1⟩
    rw [HW.out]
    clear hown
    go_wp2
    go_ret
    exact ⟨rfl, hb1⟩

end Go.Proofs.YtfhkiaogfopigaaGreatDoor
