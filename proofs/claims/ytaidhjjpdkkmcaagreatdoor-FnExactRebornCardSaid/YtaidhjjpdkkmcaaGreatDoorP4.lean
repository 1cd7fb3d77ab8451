/-
  Parts of one proof, one behind the other: Math7, Math3C, Draw, Draw2, ChunkS, TreeS3, Math7S, Math7R, Math8, Math8R.
-/
import Derived.Test.YtaidhjjpdkkmcaaGreatDoorP3
import Derived.Test.YtaidhjjpdkkmcaaGreatDoorP1
import Derived.Test.YtaidhjjpdkkmcaaGreatDoorRows
import Derived.WalkKit
import Derived.WalkLawsBesides
import Derived.Laws.IdiomStrings
import Derived.Laws.OwnMore
import Derived.Maps.AppendAt
import Derived.Maps.Range
import Derived.OpenShut
import Derived.Handy
import Derived.Lib.AppendStr
import Derived.Deep.RegionHeld3

/-! Plain facts for chapter 7 (packages). -/
namespace Go.Proofs.YtaidhjjpdkkmcaaGreatDoor
open Go.RowKit

def leT (a b : List UInt8) : Bool := Op.bytesLess a b || (a == b)

/-- Each is behind the one ahead of it. -/
def riseB (l : List (List UInt8)) : Bool := decide (∀ i, i < l.length - 1 → leT (l.getD (i + 1) []) (l.getD i []) = false)
theorem riseB_yes {l : List (List UInt8)} {j : Nat} (hj : l.length ≤ j + 1) (h : ∀ i, i < j → leT (l.getD (i + 1) []) (l.getD i []) = false) : riseB l = true := decide_eq_true (fun i hi => h i (by omega))
theorem riseB_no {l : List (List UInt8)} {j : Nat} (hj : j + 1 < l.length) (h : leT (l.getD (j + 1) []) (l.getD j []) = true) : riseB l = false := decide_eq_false (fun g => by rw [g j (by omega)] at h; cases h)

def importsB (l : List (List UInt8)) : Bool := decide (∀ i, i < l.length → nameB (l.getD i []) = true) && (decide (l.length ≤ 6) && riseB l)
theorem importsB_no {l : List (List UInt8)} {j : Nat} (hj : j < l.length) (h : nameB (l.getD j []) = false) : importsB l = false := by
 unfold importsB
 rw [decide_eq_false (fun g => by rw [g j hj] at h; cases h)]; rfl
theorem importsB_all {l : List (List UInt8)} (h : ∀ i, i < l.length → nameB (l.getD i []) = true) : importsB l = (decide (l.length ≤ 6) && riseB l) := by
 unfold importsB
 rw [decide_eq_true h]; rfl

/-- A function: its name, how many arguments, its tree. -/
abbrev Fn := List UInt8 × Int × List Nd
/-- A package: its name, its imports, its functions. -/
abbrev Pk := List UInt8 × List (List UInt8) × List Fn

def fn0 : Fn := ([], 0, [])
def funcB (f : Fn) : Bool := nameB f.1 && (inB f.2.1 0 3 && treeB f.2.2)

/-- The first of such a name, from k on. -/
def atGo (s : List UInt8) : List Fn → Nat → Int
 | [], _ => -1
 | f :: r, k => if f.1 = s then (k : Int) else atGo s r (k + 1)
def atV (fs : List Fn) (s : List UInt8) : Int := atGo s fs 0

theorem atGo_drop {fs : List Fn} {k : Nat} (hk : k < fs.length) (s : List UInt8) : atGo s (fs.drop k) k = if (fs.getD k fn0).1 = s then (k : Int) else atGo s (fs.drop (k + 1)) (k + 1) := by
 rw [List.drop_eq_getElem_cons hk, atGo]
 have : fs.getD k fn0 = fs[k] := by rw [List.getD_eq_getElem?_getD, List.getElem?_eq_getElem hk]; rfl
 rw [this]

def funcsOk (fs : List Fn) (i : Nat) : Prop := funcB (fs.getD i fn0) = true ∧ atV fs (fs.getD i fn0).1 = (i : Int)
instance (fs : List Fn) (i : Nat) : Decidable (funcsOk fs i) := by unfold funcsOk; infer_instance

def pkgB (p : Pk) : Bool := (nameB p.1 && (importsB p.2.1 && inB (p.2.2.length : Int) 1 8)) && decide (∀ i, i < p.2.2.length → funcsOk p.2.2 i)

end Go.Proofs.YtaidhjjpdkkmcaaGreatDoor

/-! Plain facts for chapter 3: a text in pieces. -/
namespace Go.Proofs.YtaidhjjpdkkmcaaGreatDoor
open Go.RowKit

def chunksGo : Nat → Nat → List UInt8 → List (List UInt8)
 | 0, _, _ => []
 | f + 1, n, l => if l = [] then [] else l.take n :: chunksGo f n (l.drop n)

def chunksL (l : List UInt8) (size : Int) : List (List UInt8) := if size < 1 then [] else chunksGo l.length size.toNat l

end Go.Proofs.YtaidhjjpdkkmcaaGreatDoor

/-! The contracts of the draws that every law of chapter 1 makes: the cursor lies in one block of its own, each draw gives a number in its range, writes that block alone and makes at most new blocks. -/
namespace Go.Proofs.YtaidhjjpdkkmcaaGreatDoor
open Go.RowKit

/-- The bytes of the code lie below block B. -/
def Code (w : World) (B : Nat) (a : Option Addr) (len : Nat) : Prop :=
 ∀ j, j < len → ∃ b off x, a = some ⟨b, off, none⟩ ∧ b < B ∧ w.cell? ⟨b, off + j, none⟩ = some (.int .u8 x) ∧ 0 ≤ x ∧ x ≤ 255

/-- The cursor lies in block B: the code, a place, a number. -/
structure Cur (w : World) (B : Nat) (a : Option Addr) (len cap : Nat) : Prop where
 code : Code w B a len
 short : len ≤ 4096
 c0 : w.cell? ⟨B, 0, none⟩ = some (.slice a len cap)
 c12 : ∃ i : Nat, ∃ h : Int, i ≤ len ∧ w.cell? ⟨B, 1, none⟩ = some (.int .i64 i) ∧ w.cell? ⟨B, 2, none⟩ = some (.int .i64 h)
 free : ∀ j, w.frozen? ⟨B, j, none⟩ = false

theorem grown_drew (w : World) (row : Option Nat) : w.grownBy w.drew row := ⟨rfl, rfl, rfl, Nat.le_refl _, fun _ _ _ => rfl⟩
theorem grown_setCell (w : World) (B o : Nat) (v : Value) : w.grownBy (w.setCell ⟨B, o, none⟩ v) (some B) :=
 ⟨rfl, rfl, rfl, by simp, fun k _ hne => Below.heap_setCell w _ v k (fun e => hne (by rw [e]))⟩

theorem Cur.kept {w w' : World} {B : Nat} {a : Option Addr} {len cap : Nat} {row : Option Nat} (h : Cur w B a len cap) (hg : w.grownBy w' row) (hne : ∀ k, row = some k → B < k) : Cur w' B a len cap := by
 have hlt : B < w.heap.size := World.block_lt_of_cell? w ⟨B, 0, none⟩ h.c0
 have hb : ∀ k, k ≤ B → w'.heap[k]? = w.heap[k]? := fun k hk => hg.block k (by omega) (fun e => by have := hne k e.symm; omega)
 have hB := hb B (Nat.le_refl _)
 refine ⟨?_, h.short, ?_, ?_, ?_⟩
 ·
  intro j hj
  obtain ⟨b, off, x, e1, e2, e3, e0⟩ := h.code j hj
  exact ⟨b, off, x, e1, e2, (World.cell?_of_block (hb b (by omega))).trans e3, e0⟩
 ·
  exact (World.cell?_of_block hB).trans h.c0
 ·
  obtain ⟨i, n, hi, e1, e2⟩ := h.c12
  exact ⟨i, n, hi, (World.cell?_of_block hB).trans e1, (World.cell?_of_block hB).trans e2⟩
 ·
  intro j
  exact (World.frozen?_of_block hB).trans (h.free j)

theorem Cur.lt {w : World} {B : Nat} {a : Option Addr} {len cap : Nat} (h : Cur w B a len cap) : B < w.heap.size := World.block_lt_of_cell? w ⟨B, 0, none⟩ h.c0

theorem Cur.drew {w : World} {B : Nat} {a : Option Addr} {len cap : Nat} (h : Cur w B a len cap) : Cur w.drew B a len cap := ⟨h.code, h.short, h.c0, h.c12, h.free⟩





theorem info5 : (Tryz.prog.info? 5).map (fun i => (i.zero, i.size, i.bytes)) = some (some (.int .u8 0), 1, 1) := by kernel_rfl

/-- What a slice of bytes that the call made holds, as bytes. -/
def bytesV (l : List UInt8) : List Value := l.map (fun b => Value.int .u8 (b.toNat : Int))

end Go.Proofs.YtaidhjjpdkkmcaaGreatDoor

/-! The contract of l1DrawBytes: a text of at most eight bytes is drawn. -/
namespace Go.Proofs.YtaidhjjpdkkmcaaGreatDoor
open Go.RowKit

/-- A world that has at most new blocks keeps the cursor. -/
theorem Cur.below {w w' : World} {B : Nat} {a : Option Addr} {len cap : Nat} (h : Cur w B a len cap) (hb : Below w.heap.size w w') : Cur w' B a len cap :=
 h.kept (row := none) ⟨hb.os, hb.tape, hb.output, hb.size, fun k hk _ => hb.block k hk⟩ (by simp)


end Go.Proofs.YtaidhjjpdkkmcaaGreatDoor

/-! The contracts of chapter 3's specification: Chunks, Joined. -/
namespace Go.Proofs.YtaidhjjpdkkmcaaGreatDoor
open Go.RowKit

/-- The texts ts lie at a, one behind the other. -/
def TextsIn (w : World) (a : Option Addr) (len : Nat) (ts : List (List UInt8)) : Prop :=
 ts.length = len ∧ ∀ j, j < len → ∃ b off, a = some ⟨b, off, none⟩ ∧ b < w.heap.size ∧ w.cell? ⟨b, off + j, none⟩ = some (.string ⟨(ts.getD j []).toArray⟩)

theorem TextsIn.below {w w' : World} {a : Option Addr} {len : Nat} {ts : List (List UInt8)} (h : TextsIn w a len ts) (hb : Below w.heap.size w w') : TextsIn w' a len ts := by
 refine ⟨h.1, fun j hj => ?_⟩
 obtain ⟨b, off, e, hlt, c⟩ := h.2 j hj
 exact ⟨b, off, e, Nat.lt_of_lt_of_le hlt hb.size, (hb.cell (p := ⟨b, off + j, none⟩) hlt).trans c⟩

theorem TextsIn.at {w : World} {a : Option Addr} {len : Nat} {ts : List (List UInt8)} (h : TextsIn w a len ts) (hz : 0 < len) : ∃ b off, a = some ⟨b, off, none⟩ ∧ b < w.heap.size ∧ ∀ j, j < len → w.cell? ⟨b, off + j, none⟩ = some (.string ⟨(ts.getD j []).toArray⟩) := by
 obtain ⟨b, off, rfl, hb, _⟩ := h.2 0 hz
 refine ⟨b, off, rfl, hb, fun j hj => ?_⟩
 obtain ⟨b', off', e, _, c⟩ := h.2 j hj
 injection e with e
 injection e with e1 e2
 subst e1 e2
 exact c

theorem own_texts {w : World} {base n : Nat} {v : Value} {ts : List (List UInt8)} (h : w.ownsRow base 9 1 v n (strV ts)) : ts.length = n ∧ ∃ a cap, v = .slice a n cap ∧ TextsIn w a n ts := by
 have hlen : ts.length = n := by have := h.1; rw [strV_len] at this; omega
 refine ⟨hlen, ?_⟩
 rcases own_forms h with ⟨rfl, rfl, _⟩ | ⟨g, cp, rfl⟩
 ·
  exact ⟨none, 0, rfl, hlen, fun j hj => by omega⟩
 ·
  refine ⟨some ⟨g, 0, none⟩, cp, rfl, hlen, fun j hj => ⟨g, 0, rfl, (h.lt g rfl).2, ?_⟩⟩
  rw [Nat.zero_add]; exact str_cellsD h hlen j hj



theorem strCells_list (l : List UInt8) : Lib.strCells ⟨l.toArray⟩ = bytesV l := by simp [Lib.strCells, bytesV]

theorem flat_snoc (ts : List (List UInt8)) (k : Nat) (hk : k < ts.length) : (ts.take (k + 1)).flatten = (ts.take k).flatten ++ ts.getD k [] := by
 have hg : ts.getD k [] = ts[k] := by simp [List.getD, hk]
 rw [hg, List.take_succ_eq_append_getElem hk, List.flatten_append]; simp

theorem flat_take (ts : List (List UInt8)) (k : Nat) : (ts.take k).flatten.length ≤ ts.flatten.length := by
 have h := congrArg (fun x => x.flatten.length) (List.take_append_drop k ts)
 simp only [List.flatten_append, List.length_append] at h
 omega


end Go.Proofs.YtaidhjjpdkkmcaaGreatDoor

/-! The contracts of chapter 6's specification: TreeOk; a node and a tree are shown. -/
namespace Go.Proofs.YtaidhjjpdkkmcaaGreatDoor
open Go.RowKit

set_option maxHeartbeats 1000000 in
set_option maxRecDepth 100000 in
theorem specTreeOk (a : Option Addr) (len cap : Nat) (ns : List Nd) (w : World) (hin : NodesIn w a len ns) (hsh : ShortT ns) (hlen : len ≤ 1048576) :
 Calls Tryz.prog 177 #[.slice a len cap] w fun e w' => e = .returned (.bool (treeB ns)) ∧ Below w.heap.size w w' := by
 obtain rfl : ns.length = len := hin.1
 have HC : Hid (_) := fun W (h : NodesIn W a ns.length ns) => specEndOf a ns.length cap ns 0 W h hsh hlen
 have HI : Hid (NodesIn w a ns.length ns) := hin
 clear hin hsh
 by_cases h : 1 ≤ (ns.length : Int) ∧ (ns.length : Int) ≤ 60
 ·
  have HB : Hid (inB (ns.length : Int) 1 60 = true) := inB_yes _ _ _ h.1 h.2
  have HT : Hid (treeB ns = (endV ns 0 == (ns.length : Int))) := by
   exact (by unfold treeB; rw [Bool.eq_iff_iff, decide_eq_true_iff, beq_iff_eq]; constructor; exact fun x => x.2; exact fun x => ⟨by omega, x⟩ : treeB ns = (endV ns 0 == (ns.length : Int)))
  go_enter Tryz.func177, Tryz.ntmps177
  go_wp2_with fail
  refine (specIn _ _ _ _).mono ?_
  rintro e w1 ⟨rfl, rfl⟩
  rw [HB.out]
  go_wp2_with fail
  refine Calls.mono (HC.out _ HI.out) ?_
  rintro e w2 ⟨rfl, hb2⟩
  go_wp2
  go_ret
  exact ⟨by rw [HT.out]; rfl, hb2⟩
 ·
  have HB : Hid (inB (ns.length : Int) 1 60 = false) := inB_no _ _ _ (by omega)
  have HT : Hid (treeB ns = false) := by exact (decide_eq_false (fun x => h (by omega)) : treeB ns = false)
  go_enter Tryz.func177, Tryz.ntmps177
  go_wp2_with fail
  refine (specIn _ _ _ _).mono ?_
  rintro e w1 ⟨rfl, rfl⟩
  rw [HB.out]
  go_wp2
  go_ret
  exact ⟨by rw [HT.out]; rfl, Below.refl _ _⟩

end Go.Proofs.YtaidhjjpdkkmcaaGreatDoor

/-! Plain facts for chapter 7: how a package is shown and read. -/
namespace Go.Proofs.YtaidhjjpdkkmcaaGreatDoor
open Go.RowKit

def kwPackage : List UInt8 := [112, 97, 99, 107, 97, 103, 101]
def kwImport : List UInt8 := [105, 109, 112, 111, 114, 116]
def kwFunc : List UInt8 := [102, 117, 110, 99]

def packLn (s : List UInt8) : List UInt8 := kwPackage ++ [32] ++ s
def impLn (s : List UInt8) : List UInt8 := kwImport ++ [32] ++ s
def funcLn (f : Fn) : List UInt8 := kwFunc ++ [32] ++ f.1 ++ [32] ++ intL f.2.1 ++ [32] ++ showL f.2.2
def pkLines (p : Pk) : List (List UInt8) := packLn p.1 :: (p.2.1.map impLn ++ p.2.2.map funcLn)
def showP (p : Pk) : List UInt8 := termJ (pkLines p)
def showPk (p : Pk) : List UInt8 := if pkgB p = true then showP p else []

/-- What a line adds. -/
noncomputable def readLn (p : Pk) (l : List UInt8) : Option Pk :=
 if (splitL 32 l).getD 0 [] = kwPackage ∧ (splitL 32 l).length = 2 then some ((splitL 32 l).getD 1 [], p.2.1, p.2.2)
 else if (splitL 32 l).getD 0 [] = kwImport ∧ (splitL 32 l).length = 2 then some (p.1, p.2.1 ++ [(splitL 32 l).getD 1 []], p.2.2)
 else if (splitL 32 l).getD 0 [] = kwFunc ∧ 3 < (splitL 32 l).length then
  (if readOk (l.drop (((splitL 32 l).getD 1 []).length + ((splitL 32 l).getD 2 []).length + 7)) = true then
   some (p.1, p.2.1, p.2.2 ++ [((splitL 32 l).getD 1 [], readV ((splitL 32 l).getD 2 []), readTV (l.drop (((splitL 32 l).getD 1 []).length + ((splitL 32 l).getD 2 []).length + 7)))])
  else none)
 else none

noncomputable def readLs : Pk → List (List UInt8) → Option Pk
 | p, [] => some p
 | p, l :: r => match readLn p l with | none => none | some q => readLs q r

theorem pkgB_parts {p : Pk} (h : pkgB p = true) : nameB p.1 = true ∧ (∀ x ∈ p.2.1, nameB x = true) ∧ p.2.1.length ≤ 6 ∧ (1 ≤ p.2.2.length ∧ p.2.2.length ≤ 8) ∧ (∀ f ∈ p.2.2, funcB f = true) := by
 unfold pkgB importsB inB at h
 simp only [Bool.and_eq_true, decide_eq_true_eq] at h
 obtain ⟨⟨h1, ⟨h2, h3, _⟩, h4⟩, h5⟩ := h
 refine ⟨h1, fun x hx => ?_, h3, by omega, fun f hf => ?_⟩
 ·
  obtain ⟨i, hi, rfl⟩ := List.getElem_of_mem hx
  have := h2 i hi
  rwa [List.getD_eq_getElem?_getD, List.getElem?_eq_getElem hi] at this
 ·
  obtain ⟨i, hi, rfl⟩ := List.getElem_of_mem hf
  have := (h5 i hi).1
  rwa [List.getD_eq_getElem?_getD, List.getElem?_eq_getElem hi] at this

end Go.Proofs.YtaidhjjpdkkmcaaGreatDoor

/-! Plain facts for chapter 7: ReadPackage of ShowPackage is the package. -/
namespace Go.Proofs.YtaidhjjpdkkmcaaGreatDoor
open Go.RowKit

def lineT (x : List UInt8) : List UInt8 := x ++ [10]

def pk0 : Pk := ([], [], [])

/-- What is read of a text: the package, where there is one. -/
noncomputable def readPB (s : List UInt8) : Bool := decide (s.length ≤ 20000) && (match readLs pk0 (linesL s) with | none => false | some p => pkgB p && (showP p == s))
noncomputable def readPV (s : List UInt8) : Pk := if readPB s = true then (readLs pk0 (linesL s)).getD pk0 else pk0

end Go.Proofs.YtaidhjjpdkkmcaaGreatDoor

/-! Plain facts of chapter 8: texts in order, lists of names, projects. -/
namespace Go.Proofs.YtaidhjjpdkkmcaaGreatDoor
open Go.RowKit

theorem lt8_irr : ∀ x : List UInt8, Op.bytesLess x x = false
 | [] => rfl
 | a :: r => by simp [Op.bytesLess, lt8_irr r]
theorem lt8_trans : ∀ {x y z : List UInt8}, Op.bytesLess x y = true → Op.bytesLess y z = true → Op.bytesLess x z = true
 | x, y, [], _, h => by cases y <;> simp [Op.bytesLess] at h
 | [], y, c :: z, _, _ => rfl
 | a :: x, [], c :: z, h, _ => by simp [Op.bytesLess] at h
 | a :: x, b :: y, c :: z, h, k => by
  simp only [Op.bytesLess, Bool.or_eq_true, decide_eq_true_eq, Bool.and_eq_true, beq_iff_eq] at h k ⊢
  rcases h with h | ⟨rfl, h⟩
  ·
   rcases k with k | ⟨rfl, k⟩
   ·
    exact Or.inl (UInt8.lt_trans h k)
   ·
    exact Or.inl h
  ·
   rcases k with k | ⟨rfl, k⟩
   ·
    exact Or.inl k
   ·
    exact Or.inr ⟨rfl, lt8_trans h k⟩
theorem lt8_tri : ∀ {x y : List UInt8}, Op.bytesLess x y = false → Op.bytesLess y x = false → x = y
 | [], [], _, _ => rfl
 | [], b :: y, h, _ => by simp [Op.bytesLess] at h
 | a :: x, [], _, k => by simp [Op.bytesLess] at k
 | a :: x, b :: y, h, k => by
  simp only [Op.bytesLess, Bool.or_eq_false_iff, decide_eq_false_iff_not, Bool.and_eq_false_iff, beq_eq_false_iff_ne] at h k
  have hab : a = b := by
   have h1 := h.1
   have h2 := k.1
   rw [UInt8.lt_iff_toNat_lt] at h1 h2
   exact UInt8.toNat_inj.1 (by omega)
  subst hab
  rw [lt8_tri (h.2.resolve_left (by simp)) (k.2.resolve_left (by simp))]
/-- One is behind another. -/
theorem leT_no {a b : List UInt8} : leT b a = false ↔ Op.bytesLess a b = true := by
 unfold leT
 rw [Bool.or_eq_false_iff, beq_eq_false_iff_ne]
 constructor
 ·
  rintro ⟨h, hne⟩
  rcases hx : Op.bytesLess a b with _ | _
  ·
   exact absurd (lt8_tri h hx) hne
  ·
   rfl
 ·
  intro h
  refine ⟨?_, fun e => ?_⟩
  ·
   rcases hx : Op.bytesLess b a with _ | _
   ·
    rfl
   ·
    have := lt8_trans h hx; rw [lt8_irr] at this; cases this
  ·
   subst e; rw [lt8_irr] at h; cases h

/-- A list that rises. -/
def Rise (ts : List (List UInt8)) : Prop := ts.Pairwise (fun a b => Op.bytesLess a b = true)
theorem Rise.nodup {ts : List (List UInt8)} (h : Rise ts) : ts.Nodup := h.imp (fun {a b} hab e => by subst e; rw [lt8_irr] at hab; cases hab)
theorem rise_at {ts : List (List UInt8)} (h : ∀ i, i + 1 < ts.length → Op.bytesLess (ts.getD i []) (ts.getD (i + 1) []) = true) : Rise ts := by
 have hd : ∀ d i, i + d + 1 < ts.length → Op.bytesLess (ts.getD i []) (ts.getD (i + d + 1) []) = true := by
  intro d
  induction d with
  | zero => intro i hi; exact h i hi
  | succ d ih => intro i hi; exact lt8_trans (ih i (by omega)) (h (i + d + 1) (by omega))
 refine List.pairwise_iff_getElem.2 (fun i j hi hj hij => ?_)
 have hh := hd (j - i - 1) i (by omega)
 rw [show i + (j - i - 1) + 1 = j by omega] at hh
 simpa [List.getD, hi, hj] using hh
theorem rise_of {ts : List (List UInt8)} (h : riseB ts = true) : Rise ts := by
 unfold riseB at h
 exact rise_at (fun i hi => leT_no.1 ((of_decide_eq_true h) i (by omega)))
/-- A project: packages whose names rise. -/
def names8 (ps : List Pk) : List (List UInt8) := ps.map (·.1)
def pj8 (ps : List Pk) (i : Nat) : Prop := pkgB (ps.getD i pk0) = true ∧ (0 < i → leT (ps.getD i pk0).1 (ps.getD (i - 1) pk0).1 = false)
instance (ps : List Pk) (i : Nat) : Decidable (pj8 ps i) := by unfold pj8; infer_instance
def projB (ps : List Pk) : Bool := decide (∀ i, i < ps.length → pj8 ps i) && inB (ps.length : Int) 1 8
theorem projB_no {ps : List Pk} {i : Nat} (hi : i < ps.length) (h : ¬ pj8 ps i) : projB ps = false := by unfold projB; rw [decide_eq_false (fun g => h (g i hi))]; rfl
theorem projB_all {ps : List Pk} (h : ∀ i, i < ps.length → pj8 ps i) : projB ps = inB (ps.length : Int) 1 8 := by unfold projB; rw [decide_eq_true h]; rfl
theorem projB_parts {ps : List Pk} (h : projB ps = true) : Rise (names8 ps) ∧ (1 ≤ ps.length ∧ ps.length ≤ 8) ∧ ∀ p ∈ ps, pkgB p = true := by
 unfold projB at h
 rw [Bool.and_eq_true, decide_eq_true_eq] at h
 have hn : 1 ≤ (ps.length : Int) ∧ (ps.length : Int) ≤ 8 := by have := h.2; unfold inB at this; exact of_decide_eq_true this
 refine ⟨rise_at (fun i hi => ?_), by omega, fun p hp => ?_⟩
 ·
  have hi2 : i + 1 < ps.length := by simpa [names8] using hi
  have h1 := (h.1 (i + 1) hi2).2 (by omega)
  have e : ∀ j, (names8 ps).getD j [] = (ps.getD j pk0).1 := fun j => by
   unfold names8
   rw [List.getD_eq_getElem?_getD, List.getD_eq_getElem?_getD, List.getElem?_map]
   cases ps[j]? <;> rfl
  rw [e, e]
  exact leT_no.1 h1
 ·
  obtain ⟨i, hi, rfl⟩ := List.mem_iff_getElem.1 hp
  have h1 := (h.1 i hi).1
  simpa [List.getD, hi] using h1

/-- Where one of a name is. -/
def at8Go (s : List UInt8) : List Pk → Nat → Int
 | [], _ => -1
 | p :: r, k => if p.1 = s then (k : Int) else at8Go s r (k + 1)
def at8 (ps : List Pk) (s : List UInt8) : Int := at8Go s ps 0
theorem at8Go_drop {ps : List Pk} {k : Nat} (hk : k < ps.length) (s : List UInt8) : at8Go s (ps.drop k) k = if (ps.getD k pk0).1 = s then (k : Int) else at8Go s (ps.drop (k + 1)) (k + 1) := by
 rw [List.drop_eq_getElem_cons hk, at8Go]
 have : ps.getD k pk0 = ps[k] := by rw [List.getD_eq_getElem?_getD, List.getElem?_eq_getElem hk]; rfl
 rw [this]
theorem at8Go_mem (s : List UInt8) : ∀ (ps : List Pk) (k : Nat), (s ∈ names8 ps ∧ 0 ≤ at8Go s ps k ∧ (k : Int) ≤ at8Go s ps k ∧ at8Go s ps k < k + ps.length) ∨ (¬ s ∈ names8 ps ∧ at8Go s ps k = -1)
 | [], k => Or.inr ⟨by simp [names8], rfl⟩
 | p :: r, k => by
  rw [at8Go]
  by_cases h : p.1 = s
  ·
   rw [if_pos h]; exact Or.inl ⟨by simp [names8, h], by omega, by omega, by simp; omega⟩
  ·
   rw [if_neg h]
   rcases at8Go_mem s r (k + 1) with ⟨h1, h2, h3, h4⟩ | ⟨h1, h2⟩
   ·
    exact Or.inl ⟨by simp only [names8, List.map_cons, List.mem_cons]; exact Or.inr h1, h2, by omega, by simp; omega⟩
   ·
    exact Or.inr ⟨by simp only [names8, List.map_cons, List.mem_cons]; rintro (e | e); exact h e.symm; exact h1 e, h2⟩
theorem at8_mem (ps : List Pk) (s : List UInt8) : 0 ≤ at8 ps s ↔ s ∈ names8 ps := by
 rcases at8Go_mem s ps 0 with ⟨h1, h2, _⟩ | ⟨h1, h2⟩
 ·
  exact ⟨fun _ => h1, fun _ => h2⟩
 ·
  unfold at8; exact ⟨fun h => by omega, fun h => absurd h h1⟩
/-! Order. -/
def free8 (ps : List Pk) (out : List (List UInt8)) (p : Pk) : Prop := ¬ p.1 ∈ out ∧ ∀ m ∈ p.2.1, m ∈ names8 ps → m ∈ out
instance (ps : List Pk) (out : List (List UInt8)) (p : Pk) : Decidable (free8 ps out p) := by unfold free8; infer_instance
def next8 (ps : List Pk) (out : List (List UInt8)) : Option Pk := ps.find? (fun p => decide (free8 ps out p))
def orderGo (ps : List Pk) : Nat → List (List UInt8) → List (List UInt8)
 | 0, out => out
 | n + 1, out => match next8 ps out with
  | none => out
  | some p => orderGo ps n (out ++ [p.1])
def order8 (ps : List Pk) : List (List UInt8) := orderGo ps (ps.length + 1) []
theorem next8_none {ps : List Pk} {out : List (List UInt8)} (h : next8 ps out = none) : ∀ p ∈ ps, ¬ free8 ps out p := fun p hp hf => by
 unfold next8 at h
 rw [List.find?_eq_none] at h
 exact h p hp (decide_eq_true hf)
theorem next8_some {ps : List Pk} {out : List (List UInt8)} {p : Pk} (h : next8 ps out = some p) : p ∈ ps ∧ free8 ps out p :=
 ⟨List.mem_of_find?_eq_some h, of_decide_eq_true (List.find?_some (p := fun p => decide (free8 ps out p)) h)⟩
/-- What Order has so far: names that are there, none twice, each behind what it needs. -/
structure Or8 (ps : List Pk) (out : List (List UInt8)) : Prop where
 nd : out.Nodup
 sub : ∀ x ∈ out, x ∈ names8 ps
 need : ∀ p ∈ ps, p.1 ∈ out → ∀ m ∈ p.2.1, m ∈ names8 ps → m ∈ out.takeWhile (fun x => decide (x ≠ p.1))
theorem or8_nil (ps : List Pk) : Or8 ps [] := ⟨List.nodup_nil, fun x hx => by simp at hx, fun p _ h => by simp at h⟩
theorem Or8.len {ps : List Pk} {out : List (List UInt8)} (h : Or8 ps out) : out.length ≤ ps.length := by
 have := h.nd.length_le_of_subset (fun x hx => h.sub x hx)
 simpa [names8] using this
theorem takeW_app {out : List (List UInt8)} {x n : List UInt8} (h : x ∈ out) : (out ++ [n]).takeWhile (fun y => decide (y ≠ x)) = out.takeWhile (fun y => decide (y ≠ x)) := by
 induction out with
 | nil => simp at h
 | cons a r ih =>
  by_cases e : a = x
  ·
   subst e; simp [List.takeWhile]
  ·
   have h2 : x ∈ r := by
    rcases List.mem_cons.1 h with h | h
    ·
     exact absurd h.symm e
    ·
     exact h
   simp only [List.cons_append, List.takeWhile_cons]
   rw [if_pos (by simpa using e), if_pos (by simpa using e), ih h2]
theorem takeW_no {out : List (List UInt8)} {x : List UInt8} (h : ¬ x ∈ out) : out.takeWhile (fun y => decide (y ≠ x)) = out := by
 induction out with
 | nil => rfl
 | cons a r ih =>
  simp only [List.mem_cons, not_or] at h
  rw [List.takeWhile_cons, if_pos (by simpa using fun e => h.1 e.symm), ih h.2]
theorem Or8.step {ps : List Pk} (hn : (names8 ps).Nodup) {out : List (List UInt8)} (h : Or8 ps out) {p : Pk} (hp : next8 ps out = some p) : Or8 ps (out ++ [p.1]) := by
 obtain ⟨hm, hf⟩ := next8_some hp
 refine ⟨List.nodup_append.2 ⟨h.nd, by simp, fun a ha b hb => by rw [List.mem_singleton] at hb; subst hb; intro e; subst e; exact hf.1 ha⟩, fun x hx => ?_, fun q hq hqo m hmq hmn => ?_⟩
 ·
  rw [List.mem_append, List.mem_singleton] at hx
  rcases hx with hx | rfl
  ·
   exact h.sub x hx
  ·
   exact List.mem_map.2 ⟨p, hm, rfl⟩
 ·
  by_cases hqi : q.1 ∈ out
  ·
   rw [takeW_app hqi]; exact h.need q hq hqi m hmq hmn
  ·
   rw [List.mem_append, List.mem_singleton] at hqo
   have e : q.1 = p.1 := hqo.resolve_left hqi
   have hqp : q = p := by
    obtain ⟨i, hi, rfl⟩ := List.mem_iff_getElem.1 hq
    obtain ⟨j, hj, rfl⟩ := List.mem_iff_getElem.1 hm
    have hij : i = j := by
     have h1 : (names8 ps)[i]'(by simpa [names8] using hi) = (names8 ps)[j]'(by simpa [names8] using hj) := by simpa [names8] using e
     exact (List.getElem_inj hn).1 h1
    subst hij; rfl
   subst hqp
   have e2 : (out ++ [q.1]).takeWhile (fun y => decide (y ≠ q.1)) = out := by
    have := takeW_no hqi
    rw [List.takeWhile_append, this]
    simp
   rw [e2]
   exact hf.2 m hmq hmn
theorem orderGo_end {ps : List Pk} (hn : (names8 ps).Nodup) : ∀ (n : Nat) (out : List (List UInt8)), Or8 ps out → ps.length < n + out.length → Or8 ps (orderGo ps n out) ∧ next8 ps (orderGo ps n out) = none
 | 0, out, h, hl => by have := h.len; omega
 | n + 1, out, h, hl => by
  rw [orderGo]
  rcases hx : next8 ps out with _ | p
  ·
   exact ⟨h, hx⟩
  ·
   exact orderGo_end hn n (out ++ [p.1]) (h.step hn hx) (by rw [List.length_append, List.length_singleton]; omega)
theorem order8_end {ps : List Pk} (h : projB ps = true) : Or8 ps (order8 ps) ∧ next8 ps (order8 ps) = none :=
 orderGo_end (projB_parts h).1.nodup _ _ (or8_nil ps) (by simp)
theorem orderGo_none {ps : List Pk} {out : List (List UInt8)} (n : Nat) (h : next8 ps out = none) : orderGo ps n out = out := by
 cases n with
 | zero => rfl
 | succ n => rw [orderGo, h]
theorem orderGo_some {ps : List Pk} {out : List (List UInt8)} {p : Pk} (n : Nat) (h : next8 ps out = some p) : orderGo ps (n + 1) out = orderGo ps n (out ++ [p.1]) := by rw [orderGo, h]

end Go.Proofs.YtaidhjjpdkkmcaaGreatDoor

/-! Plain facts of chapter 8: a text is put into a list that rises; what is reached. -/
namespace Go.Proofs.YtaidhjjpdkkmcaaGreatDoor
open Go.RowKit

/-- How many come ahead of a text. -/
def low8 (s : List UInt8) : List (List UInt8) → Nat
 | [] => 0
 | x :: r => if Op.bytesLess x s = true then low8 s r + 1 else 0
/-- As far as a walk has come. -/
theorem low8_at (s : List UInt8) : ∀ (ts : List (List UInt8)) (k : Nat), (∀ i, i < k → Op.bytesLess (ts.getD i []) s = true) → k ≤ ts.length → (k = ts.length ∨ Op.bytesLess (ts.getD k []) s = false) → low8 s ts = k
 | [], k, _, h, _ => by simp at h; subst h; rfl
 | x :: r, 0, _, _, h => by
  rcases h with h | h
  ·
   simp at h
  ·
   unfold low8; rw [if_neg (by simpa using h)]
 | x :: r, k + 1, h1, h2, h3 => by
  have h0 := h1 0 (by omega)
  unfold low8
  rw [if_pos (by simpa using h0)]
  rw [low8_at s r k (fun i hi => by simpa using h1 (i + 1) (by omega)) (by simpa using h2) (by rcases h3 with h | h; exact Or.inl (by simpa using h); exact Or.inr (by simpa using h))]
def put8 (ts : List (List UInt8)) (s : List UInt8) : List (List UInt8) := if ts[low8 s ts]? = some s then ts else ts.take (low8 s ts) ++ s :: ts.drop (low8 s ts)
theorem put8_mem {ts : List (List UInt8)} {s x : List UInt8} : x ∈ put8 ts s ↔ x = s ∨ x ∈ ts := by
 unfold put8
 split
 ·
  rename_i h
  exact ⟨Or.inr, fun g => g.elim (fun e => by rw [e]; exact List.mem_of_getElem? h) id⟩
 ·
  have e := List.take_append_drop (low8 s ts) ts
  rw [List.mem_append, List.mem_cons]
  constructor
  ·
   rintro (h | h | h)
   ·
    exact Or.inr (List.mem_of_mem_take h)
   ·
    exact Or.inl h
   ·
    exact Or.inr (List.mem_of_mem_drop h)
  ·
   rintro (h | h)
   ·
    exact Or.inr (Or.inl h)
   ·
    rw [← e, List.mem_append] at h
    rcases h with h | h
    ·
     exact Or.inl h
    ·
     exact Or.inr (Or.inr h)
theorem put8_rise {s : List UInt8} : ∀ {ts : List (List UInt8)}, Rise ts → Rise (put8 ts s)
 | [], _ => by simp [put8, low8, Rise]
 | x :: r, h => by
  have hx := List.pairwise_cons.1 h
  by_cases hl : Op.bytesLess x s = true
  ·
   have ih := put8_rise (s := s) (ts := r) hx.2
   have e : put8 (x :: r) s = x :: put8 r s := by
    unfold put8
    rw [show low8 s (x :: r) = low8 s r + 1 by rw [low8, if_pos hl]]
    rw [List.getElem?_cons_succ]
    split
    ·
     rfl
    ·
     rfl
   rw [e]
   refine List.pairwise_cons.2 ⟨fun y hy => ?_, ih⟩
   rcases put8_mem.1 hy with rfl | hy
   ·
    exact hl
   ·
    exact hx.1 y hy
  ·
   have hl0 : low8 s (x :: r) = 0 := by rw [low8, if_neg hl]
   unfold put8
   rw [hl0]
   simp only [List.getElem?_cons_zero, Option.some.injEq, List.take_zero, List.drop_zero, List.nil_append]
   split
   ·
    exact h
   ·
    rename_i hne
    have hsx : Op.bytesLess s x = true := by
     rcases hb : Op.bytesLess s x with _ | _
     ·
      exact absurd (lt8_tri (by simpa using hl) hb) hne
     ·
      rfl
    refine List.pairwise_cons.2 ⟨fun y hy => ?_, h⟩
    rcases List.mem_cons.1 hy with rfl | hy
    ·
     exact hsx
    ·
     exact lt8_trans hsx (hx.1 y hy)
/-! What is reached. -/
def in8 (ps : List Pk) (o : List (List UInt8)) (m : List UInt8) : List (List UInt8) := if m ∈ names8 ps then put8 o m else o
def inner8 (ps : List Pk) (o ms : List (List UInt8)) : List (List UInt8) := ms.foldl (in8 ps) o
def pass8 (ps : List Pk) (o : List (List UInt8)) (p : Pk) : List (List UInt8) := if p.1 ∈ o then inner8 ps o p.2.1 else o
def step8 (ps qs : List Pk) (o : List (List UInt8)) : List (List UInt8) := qs.foldl (pass8 ps) o
def reachGo (ps : List Pk) : Nat → List (List UInt8) → List (List UInt8)
 | 0, o => o
 | n + 1, o => if (step8 ps ps o).length = o.length then step8 ps ps o else reachGo ps n (step8 ps ps o)
def reach8 (ps : List Pk) (s : List UInt8) : List (List UInt8) := reachGo ps (ps.length + 1) [s]

/-- What is held of what is reached so far. -/
structure Re8 (ps : List Pk) (s : List UInt8) (o : List (List UInt8)) : Prop where
 rise : Rise o
 sub : ∀ x ∈ o, x ∈ names8 ps
 self : s ∈ o
 why : ∀ x ∈ o, x = s ∨ ∃ p ∈ ps, p.1 ∈ o ∧ x ∈ p.2.1
theorem Re8.len {ps : List Pk} {s : List UInt8} {o : List (List UInt8)} (h : Re8 ps s o) : o.length ≤ ps.length := by
 have := h.rise.nodup.length_le_of_subset (fun x hx => h.sub x hx)
 simpa [names8] using this
theorem Re8.put {ps : List Pk} {s : List UInt8} {o : List (List UInt8)} (h : Re8 ps s o) {p : Pk} (hp : p ∈ ps) (hpo : p.1 ∈ o) {m : List UInt8} (hm : m ∈ p.2.1) : Re8 ps s (in8 ps o m) := by
 unfold in8
 split
 ·
  rename_i hn
  refine ⟨put8_rise h.rise, fun x hx => ?_, put8_mem.2 (Or.inr h.self), fun x hx => ?_⟩
  ·
   rcases put8_mem.1 hx with rfl | hx
   ·
    exact hn
   ·
    exact h.sub x hx
  ·
   rcases put8_mem.1 hx with rfl | hx
   ·
    exact Or.inr ⟨p, hp, put8_mem.2 (Or.inr hpo), hm⟩
   ·
    rcases h.why x hx with e | ⟨q, hq, hqo, hxq⟩
    ·
     exact Or.inl e
    ·
     exact Or.inr ⟨q, hq, put8_mem.2 (Or.inr hqo), hxq⟩
 ·
  exact h
theorem in8_sub {ps : List Pk} {o : List (List UInt8)} {m x : List UInt8} (h : x ∈ o) : x ∈ in8 ps o m := by
 unfold in8
 split
 ·
  exact put8_mem.2 (Or.inr h)
 ·
  exact h
theorem inner8_sub {ps : List Pk} {x : List UInt8} : ∀ (ms o : List (List UInt8)), x ∈ o → x ∈ inner8 ps o ms
 | [], _, h => h
 | m :: r, o, h => inner8_sub r (in8 ps o m) (in8_sub h)
theorem inner8_has {ps : List Pk} {x : List UInt8} (hx : x ∈ names8 ps) : ∀ (ms o : List (List UInt8)), x ∈ ms → x ∈ inner8 ps o ms
 | m :: r, o, h => by
  rcases List.mem_cons.1 h with rfl | h
  ·
   refine inner8_sub r (in8 ps o x) ?_
   unfold in8; rw [if_pos hx]; exact put8_mem.2 (Or.inl rfl)
  ·
   exact inner8_has hx r (in8 ps o m) h
theorem Re8.inner {ps : List Pk} {s : List UInt8} {p : Pk} (hp : p ∈ ps) : ∀ (ms o : List (List UInt8)), Re8 ps s o → p.1 ∈ o → (∀ m ∈ ms, m ∈ p.2.1) → Re8 ps s (inner8 ps o ms)
 | [], _, h, _, _ => h
 | m :: r, o, h, hpo, hm => Re8.inner hp r (in8 ps o m) (h.put hp hpo (hm m List.mem_cons_self)) (in8_sub hpo) (fun x hx => hm x (List.mem_cons_of_mem _ hx))
theorem Re8.pass {ps : List Pk} {s : List UInt8} {o : List (List UInt8)} (h : Re8 ps s o) {p : Pk} (hp : p ∈ ps) : Re8 ps s (pass8 ps o p) := by
 unfold pass8
 split
 ·
  rename_i hpo
  exact Re8.inner hp _ _ h hpo (fun m hm => hm)
 ·
  exact h
theorem pass8_sub {ps : List Pk} {o : List (List UInt8)} {p : Pk} {x : List UInt8} (h : x ∈ o) : x ∈ pass8 ps o p := by
 unfold pass8
 split
 ·
  exact inner8_sub _ _ h
 ·
  exact h
theorem step8_sub {ps : List Pk} {x : List UInt8} : ∀ (qs : List Pk) (o : List (List UInt8)), x ∈ o → x ∈ step8 ps qs o
 | [], _, h => h
 | p :: r, o, h => step8_sub r (pass8 ps o p) (pass8_sub h)
theorem Re8.step {ps : List Pk} {s : List UInt8} : ∀ (qs : List Pk) (o : List (List UInt8)), (∀ q ∈ qs, q ∈ ps) → Re8 ps s o → Re8 ps s (step8 ps qs o)
 | [], _, _, h => h
 | p :: r, o, hq, h => Re8.step r (pass8 ps o p) (fun q hqr => hq q (List.mem_cons_of_mem _ hqr)) (h.pass (hq p List.mem_cons_self))
theorem step8_has {ps : List Pk} {x : List UInt8} (hx : x ∈ names8 ps) {p : Pk} (hxp : x ∈ p.2.1) : ∀ (qs : List Pk) (o : List (List UInt8)), p ∈ qs → p.1 ∈ o → x ∈ step8 ps qs o
 | q :: r, o, hp, hpo => by
  rcases List.mem_cons.1 hp with rfl | hp
  ·
   refine step8_sub r (pass8 ps o p) ?_
   unfold pass8; rw [if_pos hpo]; exact inner8_has hx _ _ hxp
  ·
   exact step8_has hx hxp r (pass8 ps o q) hp (pass8_sub hpo)
/-- Two lists of no two alike, one in the other, of one length, hold the same. -/
theorem same_mem {α : Type} [DecidableEq α] {a b : List α} (ha : a.Nodup) (hs : ∀ x ∈ a, x ∈ b) (hl : b.length = a.length) : ∀ x ∈ b, x ∈ a := fun x hx => by
 by_cases h : x ∈ a
 ·
  exact h
 ·
  have h1 : (x :: a).Nodup := List.nodup_cons.2 ⟨h, ha⟩
  have := h1.length_le_of_subset (fun y hy => by
   rcases List.mem_cons.1 hy with rfl | hy
   ·
    exact hx
   ·
    exact hs y hy)
  simp at this
  omega
/-- Closed: what is reached has what it imports. -/
def Shut8 (ps : List Pk) (o : List (List UInt8)) : Prop := ∀ p ∈ ps, p.1 ∈ o → ∀ m ∈ p.2.1, m ∈ names8 ps → m ∈ o
theorem shut8_of {ps : List Pk} {s : List UInt8} {o : List (List UInt8)} (h : Re8 ps s o) (hl : (step8 ps ps o).length = o.length) : Shut8 ps (step8 ps ps o) := fun p hp hpo m hm hn => by
 have hb := same_mem h.rise.nodup (fun x hx => step8_sub ps o hx) hl
 exact step8_has hn hm ps o hp (hb _ hpo)
theorem reachGo_end {ps : List Pk} {s : List UInt8} : ∀ (n : Nat) (o : List (List UInt8)), Re8 ps s o → ps.length < n + o.length → Re8 ps s (reachGo ps n o) ∧ Shut8 ps (reachGo ps n o)
 | 0, o, h, hl => by have := h.len; omega
 | n + 1, o, h, hl => by
  rw [reachGo]
  have h2 := Re8.step ps o (fun q hq => hq) h
  split
  ·
   rename_i e; exact ⟨h2, shut8_of h e⟩
  ·
   rename_i e
   have hle := h.rise.nodup.length_le_of_subset (fun x hx => step8_sub (ps := ps) ps o hx)
   exact reachGo_end n _ h2 (by omega)
theorem re8_one {ps : List Pk} {s : List UInt8} (h : s ∈ names8 ps) : Re8 ps s [s] :=
 ⟨List.pairwise_singleton _ _, fun x hx => by rw [List.mem_singleton] at hx; rw [hx]; exact h, List.mem_singleton.2 rfl, fun x hx => Or.inl (List.mem_singleton.1 hx)⟩
theorem reach8_end {ps : List Pk} {s : List UInt8} (h : s ∈ names8 ps) : Re8 ps s (reach8 ps s) ∧ Shut8 ps (reach8 ps s) := reachGo_end _ _ (re8_one h) (by simp only [List.length_singleton]; omega)

/-- What the functions of chapter 8 answer. -/
def orderV (ps : List Pk) : List (List UInt8) := if projB ps = true then order8 ps else []
def hereB (ps : List Pk) (s : List UInt8) : Bool := projB ps && decide (0 ≤ at8 ps s)
def reachV (ps : List Pk) (s : List UInt8) : List (List UInt8) := if hereB ps s = true then reach8 ps s else []
def need8 (ps : List Pk) (s : List UInt8) : List (List UInt8) := (order8 ps).filter (fun x => decide (x ≠ s ∧ x ∈ reach8 ps s))
def needV (ps : List Pk) (s : List UInt8) : List (List UInt8) := if hereB ps s = true then need8 ps s else []

end Go.Proofs.YtaidhjjpdkkmcaaGreatDoor
