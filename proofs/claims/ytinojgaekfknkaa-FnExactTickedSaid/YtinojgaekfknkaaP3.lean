/-
  Parts of one proof, one behind the other: TextS3, Turned, TextS4, TextS5, TreeS, TreeS2, Math7, Math3C, Draw, Draw2, ChunkS, TreeS3, Math7S.
-/
import Derived.Test.YtinojgaekfknkaaP2
import Derived.Test.YtinojgaekfknkaaRows
import Derived.Test.YtinojgaekfknkaaP1
import Derived.WalkKit
import Derived.WalkLawsBesides
import Derived.Laws.IdiomStrings
import Derived.Laws.Concat
import Derived.OpenShut
import Derived.Handy
import Derived.Laws.OwnMore
import Derived.Maps.AppendAt
import Derived.Maps.Range
import Derived.Lib.AppendStr
import Derived.Deep.RegionHeld3

/-! The contracts of chapter 5's specification: a number is read; NumberOf. -/
namespace Go.Proofs.Ytinojgaekfknkaa
open Go.RowKit

/-- What is read of the digits from place i on, up to place k. -/
def valTo (t : List UInt8) (i k : Nat) : Nat := valL ((t.drop i).take (k - i))

theorem valTo_start (t : List UInt8) (i : Nat) : valTo t i i = 0 := by simp [valTo, valL]

theorem valTo_step (t : List UInt8) (i k : Nat) (hi : i ≤ k) (hk : k < t.length) : valTo t i (k + 1) = valTo t i k * 10 + (t[k].toNat - 48) := by
  unfold valTo
  rw [cut_snoc t i k hi hk, valL_snoc]

theorem valTo_end (t : List UInt8) (i : Nat) : valTo t i t.length = valL (t.drop i) := by
  unfold valTo
  rw [List.take_of_length_le (by rw [List.length_drop]; omega)]

theorem valTo_bd (t : List UInt8) (i k : Nat) (hi : i ≤ k) (hk : k ≤ t.length) (h10 : t.length - i ≤ 10) (h : ∀ j (hj : j < t.length), i ≤ j → j < k → isDig t[j]) : valTo t i k < 10000000000 := by
  unfold valTo
  have hd : ∀ c ∈ (t.drop i).take (k - i), isDig c := by
    intro c hc
    obtain ⟨j, hj, rfl⟩ := List.getElem_of_mem hc
    rw [List.length_take, List.length_drop] at hj
    rw [List.getElem_take, List.getElem_drop]
    exact h (i + j) (by omega) (by omega) (by omega)
  have h1 := valL_bd _ hd
  have h2 : ((t.drop i).take (k - i)).length ≤ 10 := by rw [List.length_take, List.length_drop]; omega
  have h3 : (10 : Nat) ^ ((t.drop i).take (k - i)).length ≤ 10 ^ 10 := Nat.pow_le_pow_right (by omega) h2
  omega

theorem body_drop (t : List UInt8) (i : Nat) (hi : (negB t = true ∧ i = 1) ∨ (negB t = false ∧ i = 0)) : bodyL t = t.drop i := by
  unfold bodyL
  rcases hi with ⟨h, rfl⟩ | ⟨h, rfl⟩
  · rw [if_pos h]; simp
  · rw [if_neg (by rw [h]; simp)]; simp

/-- The four ways in which a text is no number. -/
theorem form_short {t : List UInt8} {i : Nat} (hi : bodyL t = t.drop i) (h : ¬ (1 ≤ t.length - i ∧ t.length - i ≤ 10)) : ¬ formP t := fun hf => by
  have := hf.1
  rw [hi, List.length_drop] at this
  exact h this

theorem form_digit {t : List UInt8} {i k : Nat} (hi : bodyL t = t.drop i) (hik : i ≤ k) (hk : k < t.length) (h : ¬ isDig t[k]) : ¬ formP t := fun hf => by
  refine h (hf.2.1 t[k] ?_)
  rw [hi, List.mem_iff_getElem]
  exact ⟨k - i, by rw [List.length_drop]; omega, by rw [List.getElem_drop]; congr 1; omega⟩

theorem form_head {t : List UInt8} {i : Nat} (hi : bodyL t = t.drop i) (hl : i < t.length) : (bodyL t).head? = some t[i] := by
  rw [hi, List.head?_drop, List.getElem?_eq_getElem hl]

theorem form_yes {t : List UInt8} {i : Nat} (hi : bodyL t = t.drop i) (h1 : 1 ≤ t.length - i ∧ t.length - i ≤ 10) (h2 : ∀ j (hj : j < t.length), i ≤ j → isDig t[j]) (h3 : ¬ ((bodyL t).head? = some 48 ∧ 1 < t.length)) : formP t := by
  refine ⟨by rw [hi, List.length_drop]; exact h1, ?_, h3⟩
  intro c hc
  rw [hi] at hc
  obtain ⟨j, hj, rfl⟩ := List.getElem_of_mem hc
  rw [List.length_drop] at hj
  rw [List.getElem_drop]
  exact h2 (i + j) (by omega) (by omega)

theorem readV_no {t : List UInt8} (h : ¬ formP t) : readV t = 0 ∧ readB t = false := by
  unfold readV
  rw [readB_no h]
  exact ⟨if_neg (by simp), rfl⟩

theorem readV_yes {t : List UInt8} {i : Nat} (h : formP t) (hi : bodyL t = t.drop i) : readV t = (if negB t = true then -(valTo t i t.length : Int) else (valTo t i t.length : Int)) ∧ readB t = true := by
  unfold readV
  rw [if_pos (readB_yes h), hi, valTo_end]
  exact ⟨rfl, readB_yes h⟩


end Go.Proofs.Ytinojgaekfknkaa

/-! The contracts of spec.Turned and impl.Turned. -/
namespace Go.Proofs.Ytinojgaekfknkaa
open Go.RowKit

theorem back1 (t : Int) (h2 : 0 ≤ t) (h3 : t ≤ 255) (W : World) :
    (convert 76 9 (.slice (some ⟨W.heap.size, 0, none⟩) 1 1)).run Try.prog (W.alloc (.cells #[.int .u8 t] 5)).drew = .ok (.string ⟨#[UInt8.ofNat t.toNat]⟩) (W.alloc (.cells #[.int .u8 t] 5)).drew := by
  have ht : ((UInt8.ofNat t.toNat).toNat : Int) = t := by
    rw [UInt8.toNat_ofNat']; omega
  have h := run_convert_bytes_back (P := Try.prog) (W.alloc (.cells #[.int .u8 t] 5)).drew 76 9 5 ⟨W.heap.size, 0, none⟩ 1 [UInt8.ofNat t.toNat] Try.underlying76 Try.underlying5 Try.underlying9 (by
    intro j hj
    have hj' : j < 1 := by simpa using hj
    match j, hj' with
    | 0, _ => simp only [List.getElem_cons_zero, ht]; simp [Addr.add, go_sem])
  exact h



end Go.Proofs.Ytinojgaekfknkaa

/-! The contracts of chapter 5's specification: NumberOf; a number is written (l1Int, digits). -/
namespace Go.Proofs.Ytinojgaekfknkaa
open Go.RowKit


theorem back1p (t : Int) (h2 : 0 ≤ t) (h3 : t ≤ 255) (W : World) :
    (convert 76 9 (.slice (some ⟨W.heap.size, 0, none⟩) 1 1)).run Try.prog (W.alloc (.cells #[.int .u8 t] 5)) = .ok (.string ⟨#[UInt8.ofNat t.toNat]⟩) (W.alloc (.cells #[.int .u8 t] 5)) := by
  have ht : ((UInt8.ofNat t.toNat).toNat : Int) = t := by
    rw [UInt8.toNat_ofNat']; omega
  have h := run_convert_bytes_back (P := Try.prog) (W.alloc (.cells #[.int .u8 t] 5)) 76 9 5 ⟨W.heap.size, 0, none⟩ 1 [UInt8.ofNat t.toNat] Try.underlying76 Try.underlying5 Try.underlying9 (by
    intro j hj
    have hj' : j < 1 := by simpa using hj
    match j, hj' with
    | 0, _ => simp only [List.getElem_cons_zero, ht]; simp [Addr.add, go_sem])
  exact h

theorem back_dig (k : Nat) (W : World) :
    (convert 76 9 (.slice (some ⟨W.heap.size, 0, none⟩) 1 1)).run Try.prog (W.alloc (.cells #[.int .u8 (48 + (k : Int) % 10)] 5)) = .ok (.string ⟨[digit k].toArray⟩) (W.alloc (.cells #[.int .u8 (48 + (k : Int) % 10)] 5)) := by
  have h := back1p (48 + (k : Int) % 10) (by omega) (by omega) W
  have e : UInt8.ofNat (48 + (k : Int) % 10).toNat = digit k := by unfold digit; congr 1
  rw [e] at h
  exact h


end Go.Proofs.Ytinojgaekfknkaa

/-! The contract of l1Int: a number is written, with a minus ahead below 0. -/
namespace Go.Proofs.Ytinojgaekfknkaa
open Go.RowKit


end Go.Proofs.Ytinojgaekfknkaa

/-! The contracts of chapter 6's specification: NodeOk, how many parts, KidsOf. -/
namespace Go.Proofs.Ytinojgaekfknkaa
open Go.RowKit

def nodeVal (n : Nd) : Value := .agg #[.int .i64 n.1, .int .i64 n.2.1, .string ⟨n.2.2.1.toArray⟩, .string ⟨n.2.2.2.toArray⟩]

theorem nodeB_texts (k a : Int) (p f : List UInt8) (hk : k ≠ 8) (h : p ≠ [] ∨ f ≠ []) : nodeB (k, a, p, f) = false := nodeB_no (fun hp => by
  unfold nodeP at hp
  simp only at hp
  rcases hp with ⟨_, _, h1, h2⟩ | ⟨_, _, h1, h2⟩ | ⟨_, _, h1, h2⟩ | ⟨h1, _⟩
  · rcases h with h | h; exact h h1; exact h h2
  · rcases h with h | h; exact h h1; exact h h2
  · rcases h with h | h; exact h h1; exact h h2
  · exact hk h1)
theorem nodeB_num (a : Int) : nodeB (1, a, [], []) = inB a (-2147483648) 2147483647 := by
  unfold nodeB inB
  exact decide_eq_decide.2 (by unfold nodeP; simp)
theorem nodeB_arg (a : Int) : nodeB (2, a, [], []) = inB a 0 2 := by
  unfold nodeB inB
  exact decide_eq_decide.2 (by unfold nodeP; simp)
theorem nodeB_op (k a : Int) (h : 3 ≤ k ∧ k ≤ 7) : nodeB (k, a, [], []) = (a == 0) := by
  rw [Bool.eq_iff_iff, nodeB_iff, beq_iff_eq]
  unfold nodeP
  simp
  omega
theorem nodeB_call (a : Int) (p f : List UInt8) : nodeB (8, a, p, f) = (inB a 0 3 && (nameB p && nameB f)) := by
  rw [Bool.eq_iff_iff, nodeB_iff]
  unfold nodeP inB
  simp
theorem nodeB_other (k a : Int) (p f : List UInt8) (h : k < 1 ∨ 8 < k) : nodeB (k, a, p, f) = false := nodeB_no (fun hp => by
  unfold nodeP at hp
  simp only at hp
  omega)



theorem below_boxed {w w1 : World} {o : Obj} (h : Below (w.alloc o).heap.size (w.alloc o) w1) : Below w.heap.size w w1 :=
  ((Below.refl _ w).alloc (Nat.le_refl _) o).trans (h.mono (by simp))

theorem below_boxd {w w1 : World} {o : Obj} (h : Below (w.alloc o).drew.heap.size (w.alloc o).drew w1) : Below w.heap.size w w1 :=
  ((Below.refl _ w).alloc (Nat.le_refl _) o).trans (⟨h.os, h.tape, h.output, h.size, fun k hk => h.block k (by simp; omega)⟩ : Below w.heap.size (w.alloc o) w1)


end Go.Proofs.Ytinojgaekfknkaa

/-! The contracts of chapter 6's specification over lists of nodes: EndOf, TreeOk. -/
namespace Go.Proofs.Ytinojgaekfknkaa
open Go.RowKit

def nd0 : Nd := (0, 0, [], [])

/-- The nodes ns lie at a, four cells each. -/
def NodesIn (w : World) (a : Option Addr) (len : Nat) (ns : List Nd) : Prop :=
  ns.length = len ∧ ∀ j, j < len → ∃ b off, a = some ⟨b, off, none⟩ ∧ b < w.heap.size ∧ w.cell? ⟨b, off + j * 4, none⟩ = some (.int .i64 (ns.getD j nd0).1) ∧ w.cell? ⟨b, off + j * 4 + 1, none⟩ = some (.int .i64 (ns.getD j nd0).2.1) ∧ w.cell? ⟨b, off + j * 4 + 2, none⟩ = some (.string ⟨(ns.getD j nd0).2.2.1.toArray⟩) ∧ w.cell? ⟨b, off + j * 4 + 3, none⟩ = some (.string ⟨(ns.getD j nd0).2.2.2.toArray⟩)

theorem NodesIn.keep {w w' : World} {a : Option Addr} {len : Nat} {ns : List Nd} (h : NodesIn w a len ns) (hs : w.heap.size ≤ w'.heap.size) (hb : ∀ b off, a = some ⟨b, off, none⟩ → b < w.heap.size → w'.heap[b]? = w.heap[b]?) : NodesIn w' a len ns := by
  refine ⟨h.1, fun j hj => ?_⟩
  obtain ⟨b, off, e, hlt, c0, c1, c2, c3⟩ := h.2 j hj
  have hk := hb b off e hlt
  exact ⟨b, off, e, Nat.lt_of_lt_of_le hlt hs, (World.cell?_of_block (a := ⟨b, off + j * 4, none⟩) hk).trans c0, (World.cell?_of_block (a := ⟨b, off + j * 4 + 1, none⟩) hk).trans c1, (World.cell?_of_block (a := ⟨b, off + j * 4 + 2, none⟩) hk).trans c2, (World.cell?_of_block (a := ⟨b, off + j * 4 + 3, none⟩) hk).trans c3⟩

theorem NodesIn.below {w w' : World} {a : Option Addr} {len : Nat} {ns : List Nd} (h : NodesIn w a len ns) (hb : Below w.heap.size w w') : NodesIn w' a len ns :=
  h.keep hb.size (fun b _ _ hlt => hb.block b hlt)

theorem NodesIn.at {w : World} {a : Option Addr} {len : Nat} {ns : List Nd} (h : NodesIn w a len ns) (hz : 0 < len) : ∃ b off, a = some ⟨b, off, none⟩ ∧ b < w.heap.size ∧
    ∀ j, j < len → w.cell? ⟨b, off + j * 4, none⟩ = some (.int .i64 (ns.getD j nd0).1) ∧ w.cell? ⟨b, off + j * 4 + 1, none⟩ = some (.int .i64 (ns.getD j nd0).2.1) ∧ w.cell? ⟨b, off + j * 4 + 2, none⟩ = some (.string ⟨(ns.getD j nd0).2.2.1.toArray⟩) ∧ w.cell? ⟨b, off + j * 4 + 3, none⟩ = some (.string ⟨(ns.getD j nd0).2.2.2.toArray⟩) := by
  obtain ⟨b, off, rfl, hb, _⟩ := h.2 0 hz
  refine ⟨b, off, rfl, hb, fun j hj => ?_⟩
  obtain ⟨b', off', e, _, c⟩ := h.2 j hj
  injection e with e
  injection e with e1 e2
  subst e1 e2
  exact c

/-- No text of a node is too long. -/
def ShortT (ns : List Nd) : Prop := ∀ j, (ns.getD j nd0).2.2.1.length ≤ 1048576 ∧ (ns.getD j nd0).2.2.2.length ≤ 1048576

/-- What is still to go, from place k on with o open. -/
def endTo (ns : List Nd) (k o : Nat) : Int := match endGo (ns.drop k) o with | some d => (k : Int) + d | none => -1

theorem endTo_start {ns : List Nd} {k : Nat} (hk : k < ns.length) : endTo ns k 1 = endV ns (k : Int) := by rw [endV_nat]; unfold endN endTo; rw [if_pos hk]; cases endGo (ns.drop k) 1 <;> rfl
theorem endTo_zero (ns : List Nd) (k : Nat) : endTo ns k 0 = (k : Int) := by unfold endTo; rw [endGo_zero]; simp
theorem endTo_over {ns : List Nd} {k o : Nat} (hk : ns.length ≤ k) : endTo ns k (o + 1) = -1 := by unfold endTo; rw [end_over hk]
theorem endTo_bad {ns : List Nd} {k o : Nat} (hk : k < ns.length) (hn : nodeB (ns.getD k nd0) = false) : endTo ns k (o + 1) = -1 := by
  have hg : ns.getD k nd0 = ns[k] := by simp [List.getD, hk]
  rw [hg] at hn
  unfold endTo
  rw [end_bad hk hn]
theorem endTo_round {ns : List Nd} {k o : Nat} (hk : k < ns.length) (hn : nodeB (ns.getD k nd0) = true) : endTo ns k (o + 1) = endTo ns (k + 1) (o + kidsN (ns.getD k nd0)) := by
  have hg : ns.getD k nd0 = ns[k] := by simp [List.getD, hk]
  rw [hg] at hn ⊢
  unfold endTo
  rw [end_round hk hn]
  cases endGo (ns.drop (k + 1)) (o + kidsN ns[k]) with
  | none => rfl
  | some d => simp only [Option.map_some]; omega


end Go.Proofs.Ytinojgaekfknkaa

/-! Plain facts for chapter 7 (packages). -/
namespace Go.Proofs.Ytinojgaekfknkaa
open Go.RowKit

def leT (a b : List UInt8) : Bool := Op.bytesLess a b || (a == b)

/-- Each is behind the one ahead of it. -/
def riseB (l : List (List UInt8)) : Bool := decide (∀ i, i < l.length - 1 → leT (l.getD (i + 1) []) (l.getD i []) = false)
theorem riseB_yes {l : List (List UInt8)} {j : Nat} (hj : l.length ≤ j + 1) (h : ∀ i, i < j → leT (l.getD (i + 1) []) (l.getD i []) = false) : riseB l = true := decide_eq_true (fun i hi => h i (by omega))
theorem riseB_no {l : List (List UInt8)} {j : Nat} (hj : j + 1 < l.length) (h : leT (l.getD (j + 1) []) (l.getD j []) = true) : riseB l = false := decide_eq_false (fun g => by rw [g j (by omega)] at h; cases h)

def importsB (l : List (List UInt8)) : Bool := decide (∀ i, i < l.length → nameB (l.getD i []) = true) && (decide (l.length ≤ 6) && riseB l)
theorem importsB_no {l : List (List UInt8)} {j : Nat} (hj : j < l.length) (h : nameB (l.getD j []) = false) : importsB l = false := by
  unfold importsB
  rw [decide_eq_false (fun g => by rw [g j hj] at h; cases h)]; rfl
theorem importsB_all {l : List (List UInt8)} (h : ∀ i, i < l.length → nameB (l.getD i []) = true) : importsB l = (decide (l.length ≤ 6) && riseB l) := by
  unfold importsB
  rw [decide_eq_true h]; rfl

/-- A function: its name, how many arguments, its tree. -/
abbrev Fn := List UInt8 × Int × List Nd
/-- A package: its name, its imports, its functions. -/
abbrev Pk := List UInt8 × List (List UInt8) × List Fn

def fn0 : Fn := ([], 0, [])
def funcB (f : Fn) : Bool := nameB f.1 && (inB f.2.1 0 3 && treeB f.2.2)

/-- The first of such a name, from k on. -/
def atGo (s : List UInt8) : List Fn → Nat → Int
  | [], _ => -1
  | f :: r, k => if f.1 = s then (k : Int) else atGo s r (k + 1)
def atV (fs : List Fn) (s : List UInt8) : Int := atGo s fs 0

theorem atGo_drop {fs : List Fn} {k : Nat} (hk : k < fs.length) (s : List UInt8) : atGo s (fs.drop k) k = if (fs.getD k fn0).1 = s then (k : Int) else atGo s (fs.drop (k + 1)) (k + 1) := by
  rw [List.drop_eq_getElem_cons hk, atGo]
  have : fs.getD k fn0 = fs[k] := by rw [List.getD_eq_getElem?_getD, List.getElem?_eq_getElem hk]; rfl
  rw [this]

def funcsOk (fs : List Fn) (i : Nat) : Prop := funcB (fs.getD i fn0) = true ∧ atV fs (fs.getD i fn0).1 = (i : Int)
instance (fs : List Fn) (i : Nat) : Decidable (funcsOk fs i) := by unfold funcsOk; infer_instance

def pkgB (p : Pk) : Bool := (nameB p.1 && (importsB p.2.1 && inB (p.2.2.length : Int) 1 8)) && decide (∀ i, i < p.2.2.length → funcsOk p.2.2 i)

end Go.Proofs.Ytinojgaekfknkaa

/-! Plain facts for chapter 3: a text in pieces. -/
namespace Go.Proofs.Ytinojgaekfknkaa
open Go.RowKit

def chunksGo : Nat → Nat → List UInt8 → List (List UInt8)
  | 0, _, _ => []
  | f + 1, n, l => if l = [] then [] else l.take n :: chunksGo f n (l.drop n)

def chunksL (l : List UInt8) (size : Int) : List (List UInt8) := if size < 1 then [] else chunksGo l.length size.toNat l

theorem chunksGo_nil (f n : Nat) : chunksGo f n [] = [] := by cases f <;> simp [chunksGo]

theorem chunksGo_fuel (n : Nat) (hn : 1 ≤ n) : ∀ (f g : Nat) (l : List UInt8), l.length ≤ f → l.length ≤ g → chunksGo f n l = chunksGo g n l
  | 0, g, l, h, _ => by
    have : l = [] := List.eq_nil_of_length_eq_zero (by omega)
    subst this; rw [chunksGo_nil, chunksGo_nil]
  | f + 1, 0, l, _, h => by
    have : l = [] := List.eq_nil_of_length_eq_zero (by omega)
    subst this; rw [chunksGo_nil, chunksGo_nil]
  | f + 1, g + 1, l, hf, hg => by
    by_cases hl : l = []
    · subst hl; rw [chunksGo_nil, chunksGo_nil]
    · have hp : 0 < l.length := List.length_pos_iff.2 hl
      rw [chunksGo, chunksGo, if_neg hl, if_neg hl, chunksGo_fuel n hn f g (l.drop n) (by rw [List.length_drop]; omega) (by rw [List.length_drop]; omega)]

/-- One round of the loop: m bytes are cut, n or what is left. -/
theorem chunk_step (n m : Nat) (r : List UInt8) (hn : 1 ≤ n) (hr : r ≠ []) (hm : m = n ∨ (m = r.length ∧ m ≤ n)) : chunksGo r.length n r = r.take m :: chunksGo (r.drop m).length n (r.drop m) := by
  have hp : 0 < r.length := List.length_pos_iff.2 hr
  obtain ⟨k, hk⟩ : ∃ k, r.length = k + 1 := ⟨r.length - 1, by omega⟩
  have e1 : r.take m = r.take n := by
    rcases hm with rfl | ⟨rfl, h⟩
    · rfl
    · rw [List.take_of_length_le (Nat.le_refl _), List.take_of_length_le h]
  have e2 : r.drop m = r.drop n := by
    rcases hm with rfl | ⟨rfl, h⟩
    · rfl
    · rw [List.drop_eq_nil_of_le (Nat.le_refl _), List.drop_eq_nil_of_le h]
  rw [hk, chunksGo, if_neg hr, e1, e2, chunksGo_fuel n hn k (r.drop n).length (r.drop n) (by rw [List.length_drop]; omega) (Nat.le_refl _)]

theorem chunks_len (n : Nat) : ∀ (f : Nat) (l : List UInt8), (chunksGo f n l).length ≤ f
  | 0, _ => by simp [chunksGo]
  | f + 1, l => by
    rw [chunksGo]
    split
    · simp
    · have := chunks_len n f (l.drop n)
      simp; omega

theorem chunksL_len (l : List UInt8) (size : Int) : (chunksL l size).length ≤ l.length := by
  unfold chunksL
  split
  · simp
  · exact chunks_len _ _ _

theorem chunks_join (n : Nat) (hn : 1 ≤ n) : ∀ (f : Nat) (l : List UInt8), l.length ≤ f → (chunksGo f n l).flatten = l
  | 0, l, h => by
    have : l = [] := List.eq_nil_of_length_eq_zero (by omega)
    subst this; rfl
  | f + 1, l, h => by
    by_cases hl : l = []
    · subst hl; rw [chunksGo_nil]; rfl
    · have hp : 0 < l.length := List.length_pos_iff.2 hl
      rw [chunksGo, if_neg hl, List.flatten_cons, chunks_join n hn f (l.drop n) (by rw [List.length_drop]; omega), List.take_append_drop]

/-- A piece is not empty, no longer than it should be, and just so long but for the last. -/
theorem chunks_at (n : Nat) (hn : 1 ≤ n) : ∀ (f : Nat) (l : List UInt8), l.length ≤ f → ∀ i, i < (chunksGo f n l).length →
    (chunksGo f n l).getD i [] ≠ [] ∧ ((chunksGo f n l).getD i []).length ≤ n ∧ (i + 1 < (chunksGo f n l).length → ((chunksGo f n l).getD i []).length = n)
  | 0, l, h, i, hi => by simp [chunksGo] at hi
  | f + 1, l, h, i, hi => by
    by_cases hl : l = []
    · subst hl; rw [chunksGo_nil] at hi; simp at hi
    · have hp : 0 < l.length := List.length_pos_iff.2 hl
      have hd : (l.drop n).length ≤ f := by rw [List.length_drop]; omega
      have e : chunksGo (f + 1) n l = l.take n :: chunksGo f n (l.drop n) := by rw [chunksGo, if_neg hl]
      rw [e] at hi ⊢
      cases i with
      | zero =>
        refine ⟨?_, ?_, fun h1 => ?_⟩
        · simp [List.getD]
          exact ⟨by omega, hl⟩
        · simp [List.getD]; omega
        · simp [List.getD]
          rcases Nat.lt_or_ge l.length n with h2 | h2
          · rw [List.drop_eq_nil_of_le (by omega), chunksGo_nil] at h1
            simp at h1
          · omega
      | succ i =>
        have := chunks_at n hn f (l.drop n) hd i (by simpa using hi)
        simpa [List.getD] using this

end Go.Proofs.Ytinojgaekfknkaa

/-! The contracts of the draws that every law of chapter 1 makes: the cursor lies in one block of its own, each draw gives a number in its range, writes that block alone and makes at most new blocks. -/
namespace Go.Proofs.Ytinojgaekfknkaa
open Go.RowKit

/-- The bytes of the code lie below block B. -/
def Code (w : World) (B : Nat) (a : Option Addr) (len : Nat) : Prop :=
  ∀ j, j < len → ∃ b off x, a = some ⟨b, off, none⟩ ∧ b < B ∧ w.cell? ⟨b, off + j, none⟩ = some (.int .u8 x) ∧ 0 ≤ x ∧ x ≤ 255

/-- The cursor lies in block B: the code, a place, a number. -/
structure Cur (w : World) (B : Nat) (a : Option Addr) (len cap : Nat) : Prop where
  code : Code w B a len
  short : len ≤ 4096
  c0 : w.cell? ⟨B, 0, none⟩ = some (.slice a len cap)
  c12 : ∃ i : Nat, ∃ h : Int, i ≤ len ∧ w.cell? ⟨B, 1, none⟩ = some (.int .i64 i) ∧ w.cell? ⟨B, 2, none⟩ = some (.int .i64 h)
  free : ∀ j, w.frozen? ⟨B, j, none⟩ = false

theorem grown_drew (w : World) (row : Option Nat) : w.grownBy w.drew row := ⟨rfl, rfl, rfl, Nat.le_refl _, fun _ _ _ => rfl⟩
theorem grown_setCell (w : World) (B o : Nat) (v : Value) : w.grownBy (w.setCell ⟨B, o, none⟩ v) (some B) :=
  ⟨rfl, rfl, rfl, by simp, fun k _ hne => Below.heap_setCell w _ v k (fun e => hne (by rw [e]))⟩

theorem Cur.kept {w w' : World} {B : Nat} {a : Option Addr} {len cap : Nat} {row : Option Nat} (h : Cur w B a len cap) (hg : w.grownBy w' row) (hne : ∀ k, row = some k → B < k) : Cur w' B a len cap := by
  have hlt : B < w.heap.size := World.block_lt_of_cell? w ⟨B, 0, none⟩ h.c0
  have hb : ∀ k, k ≤ B → w'.heap[k]? = w.heap[k]? := fun k hk => hg.block k (by omega) (fun e => by have := hne k e.symm; omega)
  have hB := hb B (Nat.le_refl _)
  refine ⟨?_, h.short, ?_, ?_, ?_⟩
  · intro j hj
    obtain ⟨b, off, x, e1, e2, e3, e0⟩ := h.code j hj
    exact ⟨b, off, x, e1, e2, (World.cell?_of_block (hb b (by omega))).trans e3, e0⟩
  · exact (World.cell?_of_block hB).trans h.c0
  · obtain ⟨i, n, hi, e1, e2⟩ := h.c12
    exact ⟨i, n, hi, (World.cell?_of_block hB).trans e1, (World.cell?_of_block hB).trans e2⟩
  · intro j
    exact (World.frozen?_of_block hB).trans (h.free j)

theorem Cur.lt {w : World} {B : Nat} {a : Option Addr} {len cap : Nat} (h : Cur w B a len cap) : B < w.heap.size := World.block_lt_of_cell? w ⟨B, 0, none⟩ h.c0

/-- A store of the place. -/
theorem Cur.set1 {w : World} {B : Nat} {a : Option Addr} {len cap : Nat} (h : Cur w B a len cap) (i : Nat) (hi : i ≤ len) : Cur (w.setCell ⟨B, 1, none⟩ (.int .i64 i)) B a len cap := by
  obtain ⟨i0, n, _, e1, e2⟩ := h.c12
  refine ⟨?_, h.short, ?_, ⟨i, n, hi, World.cell?_setCell_same _ _ _ e1, ?_⟩, ?_⟩
  · intro j hj
    obtain ⟨b, off, x, e3, e4, e5, e0⟩ := h.code j hj
    exact ⟨b, off, x, e3, e4, (World.cell?_setCell_other _ _ _ _ (by intro e; injection e with e6; omega)).trans e5, e0⟩
  · exact (World.cell?_setCell_other _ _ _ _ (by simp)).trans h.c0
  · exact (World.cell?_setCell_other _ _ _ _ (by simp)).trans e2
  · intro j; rw [World.frozen?_setCell]; exact h.free j

/-- A store of the number. -/
theorem Cur.set2 {w : World} {B : Nat} {a : Option Addr} {len cap : Nat} (h : Cur w B a len cap) (m : Int) : Cur (w.setCell ⟨B, 2, none⟩ (.int .i64 m)) B a len cap := by
  obtain ⟨i0, n, hi, e1, e2⟩ := h.c12
  refine ⟨?_, h.short, ?_, ⟨i0, m, hi, ?_, World.cell?_setCell_same _ _ _ e2⟩, ?_⟩
  · intro j hj
    obtain ⟨b, off, x, e3, e4, e5, e0⟩ := h.code j hj
    exact ⟨b, off, x, e3, e4, (World.cell?_setCell_other _ _ _ _ (by intro e; injection e with e6; omega)).trans e5, e0⟩
  · exact (World.cell?_setCell_other _ _ _ _ (by simp)).trans h.c0
  · exact (World.cell?_setCell_other _ _ _ _ (by simp)).trans e1
  · intro j; rw [World.frozen?_setCell]; exact h.free j

theorem Cur.drew {w : World} {B : Nat} {a : Option Addr} {len cap : Nat} (h : Cur w B a len cap) : Cur w.drew B a len cap := ⟨h.code, h.short, h.c0, h.c12, h.free⟩





theorem info5 : (Try.prog.info? 5).map (fun i => (i.zero, i.size, i.bytes)) = some (some (.int .u8 0), 1, 1) := by kernel_rfl

/-- What a slice of bytes that the call made holds, as bytes. -/
def bytesV (l : List UInt8) : List Value := l.map (fun b => Value.int .u8 (b.toNat : Int))

theorem back_own (w : World) (B : Nat) (v : Value) (l : List UInt8) (h : w.ownsRow B 5 1 v l.length (bytesV l)) :
    (convert 76 9 v).run Try.prog w = .ok (.string ⟨l.toArray⟩) w := by
  have hh := h
  obtain ⟨_, ⟨rfl, hn⟩ | ⟨g, cap, cur, rfl, _, _⟩⟩ := hh
  · have : l = [] := List.eq_nil_of_length_eq_zero hn
    subst this
    rw [run_convert_bytes_string w 76 9 5 none 0 0 Try.underlying76 Try.underlying5 Try.underlying9]
    simp [Conv.bytesToString]
    rfl
  · refine run_convert_bytes_back (P := Try.prog) w 76 9 5 ⟨g, 0, none⟩ cap l Try.underlying76 Try.underlying5 Try.underlying9 ?_
    intro j hj
    have hx := World.ownsRow.cells h (g := g) rfl j (.int .u8 (l[j].toNat : Int)) (by simp [bytesV, List.getElem?_eq_getElem hj])
    exact hx

end Go.Proofs.Ytinojgaekfknkaa

/-! The contract of l1DrawBytes: a text of at most eight bytes is drawn. -/
namespace Go.Proofs.Ytinojgaekfknkaa
open Go.RowKit

theorem byte_of (x : Int) (h0 : 0 ≤ x) (h1 : x ≤ 255) : ((UInt8.ofNat x.toNat).toNat : Int) = x := by rw [UInt8.toNat_ofNat']; omega

theorem bytesV_snoc (l : List UInt8) (x : Int) (h0 : 0 ≤ x) (h1 : x ≤ 255) : bytesV l ++ [.int .u8 x] = bytesV (l ++ [UInt8.ofNat x.toNat]) := by
  unfold bytesV
  rw [List.map_append, List.map_singleton, byte_of x h0 h1]

/-- One byte more behind the own bytes. -/
theorem own_snoc {w1 : World} {B : Nat} {v' : Value} {l : List UInt8} {x : Int} (h0 : 0 ≤ x) (h1 : x ≤ 255) (hown' : w1.ownsRow B 5 1 v' (l.length + 1) (bytesV l ++ [.int .u8 x])) :
    w1.ownsRow B 5 1 v' (l ++ [UInt8.ofNat x.toNat]).length (bytesV (l ++ [UInt8.ofNat x.toNat])) := by
  rw [← bytesV_snoc l x h0 h1, List.length_append, List.length_singleton]
  exact hown'

theorem below_g2 {w W W' : World} (h : Below w.heap.size w W) (hg : W.grownBy W' (some w.heap.size)) : Below w.heap.size w W' := h.grown hg h.size (by simp)

/-- A world that has at most new blocks keeps the cursor. -/
theorem Cur.below {w w' : World} {B : Nat} {a : Option Addr} {len cap : Nat} (h : Cur w B a len cap) (hb : Below w.heap.size w w') : Cur w' B a len cap :=
  h.kept (row := none) ⟨hb.os, hb.tape, hb.output, hb.size, fun k hk _ => hb.block k hk⟩ (by simp)


end Go.Proofs.Ytinojgaekfknkaa

/-! The contracts of chapter 3's specification: Chunks, Joined. -/
namespace Go.Proofs.Ytinojgaekfknkaa
open Go.RowKit

/-- The texts ts lie at a, one behind the other. -/
def TextsIn (w : World) (a : Option Addr) (len : Nat) (ts : List (List UInt8)) : Prop :=
  ts.length = len ∧ ∀ j, j < len → ∃ b off, a = some ⟨b, off, none⟩ ∧ b < w.heap.size ∧ w.cell? ⟨b, off + j, none⟩ = some (.string ⟨(ts.getD j []).toArray⟩)

theorem TextsIn.below {w w' : World} {a : Option Addr} {len : Nat} {ts : List (List UInt8)} (h : TextsIn w a len ts) (hb : Below w.heap.size w w') : TextsIn w' a len ts := by
  refine ⟨h.1, fun j hj => ?_⟩
  obtain ⟨b, off, e, hlt, c⟩ := h.2 j hj
  exact ⟨b, off, e, Nat.lt_of_lt_of_le hlt hb.size, (hb.cell (p := ⟨b, off + j, none⟩) hlt).trans c⟩

theorem TextsIn.at {w : World} {a : Option Addr} {len : Nat} {ts : List (List UInt8)} (h : TextsIn w a len ts) (hz : 0 < len) : ∃ b off, a = some ⟨b, off, none⟩ ∧ b < w.heap.size ∧ ∀ j, j < len → w.cell? ⟨b, off + j, none⟩ = some (.string ⟨(ts.getD j []).toArray⟩) := by
  obtain ⟨b, off, rfl, hb, _⟩ := h.2 0 hz
  refine ⟨b, off, rfl, hb, fun j hj => ?_⟩
  obtain ⟨b', off', e, _, c⟩ := h.2 j hj
  injection e with e
  injection e with e1 e2
  subst e1 e2
  exact c

theorem own_texts {w : World} {base n : Nat} {v : Value} {ts : List (List UInt8)} (h : w.ownsRow base 9 1 v n (strV ts)) : ts.length = n ∧ ∃ a cap, v = .slice a n cap ∧ TextsIn w a n ts := by
  have hlen : ts.length = n := by have := h.1; rw [strV_len] at this; omega
  refine ⟨hlen, ?_⟩
  rcases own_forms h with ⟨rfl, rfl, _⟩ | ⟨g, cp, rfl⟩
  · exact ⟨none, 0, rfl, hlen, fun j hj => by omega⟩
  · refine ⟨some ⟨g, 0, none⟩, cp, rfl, hlen, fun j hj => ⟨g, 0, rfl, (h.lt g rfl).2, ?_⟩⟩
    rw [Nat.zero_add]; exact str_cellsD h hlen j hj

set_option maxHeartbeats 400000 in
set_option maxRecDepth 100000 in
theorem specL1Min (x y : Int) (w : World) :
    Calls Try.prog 51 #[.int .i64 x, .int .i64 y] w fun e w' => e = .returned (.int .i64 (if x < y then x else y)) ∧ w' = w := by
  by_cases h : x < y
  · go_enter Try.func51, Try.ntmps51
    go_wp2
    go_ret
    exact ⟨rfl, rfl⟩
  · go_enter Try.func51, Try.ntmps51
    go_wp2
    go_ret
    exact ⟨rfl, rfl⟩


theorem strCells_list (l : List UInt8) : Lib.strCells ⟨l.toArray⟩ = bytesV l := by simp [Lib.strCells, bytesV]

theorem flat_snoc (ts : List (List UInt8)) (k : Nat) (hk : k < ts.length) : (ts.take (k + 1)).flatten = (ts.take k).flatten ++ ts.getD k [] := by
  have hg : ts.getD k [] = ts[k] := by simp [List.getD, hk]
  rw [hg, List.take_succ_eq_append_getElem hk, List.flatten_append]; simp

theorem flat_take (ts : List (List UInt8)) (k : Nat) : (ts.take k).flatten.length ≤ ts.flatten.length := by
  have h := congrArg (fun x => x.flatten.length) (List.take_append_drop k ts)
  simp only [List.flatten_append, List.length_append] at h
  omega


end Go.Proofs.Ytinojgaekfknkaa

/-! The contracts of chapter 6's specification: TreeOk; a node and a tree are shown. -/
namespace Go.Proofs.Ytinojgaekfknkaa
open Go.RowKit


theorem intL_short (a : Int) (h0 : -2147483648 ≤ a) (h1 : a ≤ 2147483647) : (intL a).length ≤ 11 := by
  have h := digL_len 9 a.natAbs (by omega)
  unfold intL
  split
  · simp; omega
  · omega


theorem show_len (n : Nd) (h : nodeB n = true) : (showN n).length ≤ 30 := by
  obtain ⟨k, a, p, f⟩ := n
  have hp := nodeB_iff.1 h
  unfold nodeP at hp
  simp only at hp
  rcases hp with ⟨rfl, ⟨h0, h1⟩, rfl, rfl⟩ | ⟨rfl, ⟨h0, h1⟩, rfl, rfl⟩ | ⟨hk, rfl, rfl, rfl⟩ | ⟨rfl, ⟨h0, h1⟩, hpn, hfn⟩
  · have hs : showN (1, a, [], []) = intL a := by unfold showN; simp
    rw [hs]; have := intL_short a h0 h1; omega
  · have hs : showN (2, a, [], []) = 36 :: intL a := by unfold showN; simp
    rw [hs]; have := intL_short a (by omega) (by omega); simp; omega
  · rcases (show k = 3 ∨ k = 4 ∨ k = 5 ∨ k = 6 ∨ k = 7 by omega) with rfl | rfl | rfl | rfl | rfl <;> (unfold showN; simp)
  · have hs : showN (8, a, p, f) = (64 :: p) ++ [46] ++ f ++ [47] ++ intL a := by unfold showN; simp
    rw [hs]
    have := intL_short a (by omega) (by omega)
    have := (name_letters hpn).1
    have := (name_letters hfn).1
    simp; omega

theorem joinBy_len (ws : List (List UInt8)) (m : Nat) (h : ∀ x ∈ ws, x.length ≤ m) : (joinBy 32 ws).length ≤ ws.length * (m + 1) := by
  induction ws with
  | nil => simp [joinBy]
  | cons x r ih =>
    have hx := h x (by simp)
    have ir := ih (fun y hy => h y (by simp [hy]))
    rw [List.length_cons, Nat.add_mul, Nat.one_mul]
    by_cases hr : r = []
    · subst hr; simp [joinBy]; omega
    · rw [joinBy_cons 32 x r hr]; simp only [List.length_append, List.length_singleton]; omega

theorem showL_len (ns : List Nd) (h : ∀ n ∈ ns, nodeB n = true) : (showL ns).length ≤ ns.length * 31 := by
  have := joinBy_len (ns.map showN) 30 (by intro x hx; obtain ⟨n, hn, rfl⟩ := List.mem_map.1 hx; exact show_len n (h n hn))
  rw [List.length_map] at this
  exact this

theorem showL_step (ns : List Nd) (k : Nat) (hk : k < ns.length) : showL (ns.take (k + 1)) = if k = 0 then showN (ns.getD k nd0) else showL (ns.take k) ++ [32] ++ showN (ns.getD k nd0) := by
  unfold showL
  have h := joinBy_step 32 (ns.map showN) k (by simpa using hk)
  rw [← List.map_take, ← List.map_take] at h
  have hg : (ns.map showN).getD k [] = showN (ns.getD k nd0) := by simp [List.getD, hk]
  rw [hg] at h
  exact h

theorem showL_take (ns : List Nd) (k : Nat) : (showL (ns.take k)).length ≤ (showL ns).length := by
  unfold showL
  have := joinBy_take 32 (ns.map showN) k
  rw [← List.map_take] at this
  exact this



end Go.Proofs.Ytinojgaekfknkaa

/-! Plain facts for chapter 7: how a package is shown and read. -/
namespace Go.Proofs.Ytinojgaekfknkaa
open Go.RowKit

theorem split_term (ls : List (List UInt8)) (h : ∀ x ∈ ls, ∀ c ∈ x, c ≠ 10) : splitL 10 (termJ ls) = ls ++ [[]] := by
  unfold splitL
  induction ls with
  | nil => rfl
  | cons x r ih =>
    have e : termJ (x :: r) = x ++ 10 :: termJ r := by simp [termJ]
    rw [e, split_one 10 x (termJ r) [] (h x (by simp)), ih (fun y hy => h y (by simp [hy])), List.nil_append]
    rfl

theorem lines_term (ls : List (List UInt8)) (h : ∀ x ∈ ls, ∀ c ∈ x, c ≠ 10) : linesL (termJ ls) = ls := by
  unfold linesL
  rw [split_term ls h, if_pos (by simp [List.getLastD_eq_getLast?]), List.dropLast_concat]

def kwPackage : List UInt8 := [112, 97, 99, 107, 97, 103, 101]
def kwImport : List UInt8 := [105, 109, 112, 111, 114, 116]
def kwFunc : List UInt8 := [102, 117, 110, 99]

def packLn (s : List UInt8) : List UInt8 := kwPackage ++ [32] ++ s
def impLn (s : List UInt8) : List UInt8 := kwImport ++ [32] ++ s
def funcLn (f : Fn) : List UInt8 := kwFunc ++ [32] ++ f.1 ++ [32] ++ intL f.2.1 ++ [32] ++ showL f.2.2
def pkLines (p : Pk) : List (List UInt8) := packLn p.1 :: (p.2.1.map impLn ++ p.2.2.map funcLn)
def showP (p : Pk) : List UInt8 := termJ (pkLines p)
def showPk (p : Pk) : List UInt8 := if pkgB p = true then showP p else []

/-- What a line adds. -/
noncomputable def readLn (p : Pk) (l : List UInt8) : Option Pk :=
  if (splitL 32 l).getD 0 [] = kwPackage ∧ (splitL 32 l).length = 2 then some ((splitL 32 l).getD 1 [], p.2.1, p.2.2)
  else if (splitL 32 l).getD 0 [] = kwImport ∧ (splitL 32 l).length = 2 then some (p.1, p.2.1 ++ [(splitL 32 l).getD 1 []], p.2.2)
  else if (splitL 32 l).getD 0 [] = kwFunc ∧ 3 < (splitL 32 l).length then
    (if readOk (l.drop (((splitL 32 l).getD 1 []).length + ((splitL 32 l).getD 2 []).length + 7)) = true then
      some (p.1, p.2.1, p.2.2 ++ [((splitL 32 l).getD 1 [], readV ((splitL 32 l).getD 2 []), readTV (l.drop (((splitL 32 l).getD 1 []).length + ((splitL 32 l).getD 2 []).length + 7)))])
    else none)
  else none

noncomputable def readLs : Pk → List (List UInt8) → Option Pk
  | p, [] => some p
  | p, l :: r => match readLn p l with | none => none | some q => readLs q r

theorem name_noblank {s : List UInt8} (h : nameB s = true) : ∀ c ∈ s, c ≠ 32 := fun c hc e => by
  have := (name_letters h).2 c hc
  rw [e] at this
  simp at this

theorem two_words (a b : List UInt8) (ha : ∀ c ∈ a, c ≠ 32) (hb : ∀ c ∈ b, c ≠ 32) : splitL 32 (a ++ [32] ++ b) = [a, b] := by
  have := split_join 32 [a, b] (by simp) (by intro x hx; simp at hx; rcases hx with rfl | rfl <;> assumption)
  simpa [joinBy] using this

theorem read_pack (p : Pk) (s : List UInt8) (h : nameB s = true) : readLn p (packLn s) = some (s, p.2.1, p.2.2) := by
  have hs : splitL 32 (packLn s) = [kwPackage, s] := two_words _ _ (by decide) (name_noblank h)
  unfold readLn
  rw [hs]
  simp

theorem read_imp (p : Pk) (s : List UInt8) (h : nameB s = true) : readLn p (impLn s) = some (p.1, p.2.1 ++ [s], p.2.2) := by
  have hs : splitL 32 (impLn s) = [kwImport, s] := two_words _ _ (by decide) (name_noblank h)
  unfold readLn
  rw [hs]
  rw [if_neg (by simp [kwImport, kwPackage]), if_pos (by simp)]
  simp

theorem tree_backL {ns : List Nd} (h : treeB ns = true) : readOk (showL ns) = true ∧ readTV (showL ns) = ns := by
  have hr := readT_show ns h
  have hok : readOk (showL ns) = true := by
    unfold readOk
    rw [hr]
    have h1 := showL_len ns (tree_nodes h)
    have h2 := (tree_end h).1.2
    simp only [Bool.and_eq_true, decide_eq_true_eq, beq_iff_eq]
    exact ⟨by omega, h, trivial⟩
  exact ⟨hok, by unfold readTV; rw [if_pos hok]; exact hr⟩

theorem joinBy_front (b : UInt8) (x y z : List UInt8) (r : List (List UInt8)) (hr : r ≠ []) : joinBy b (x :: y :: z :: r) = x ++ [b] ++ y ++ [b] ++ z ++ [b] ++ joinBy b r := by
  rw [joinBy_cons b x _ (by simp), joinBy_cons b y _ (by simp), joinBy_cons b z _ hr]
  simp

theorem read_func (p : Pk) (f : Fn) (h : funcB f = true) : readLn p (funcLn f) = some (p.1, p.2.1, p.2.2 ++ [f]) := by
  obtain ⟨s, n, t⟩ := f
  unfold funcB at h
  simp only [Bool.and_eq_true] at h
  obtain ⟨hs, hn, ht⟩ := h
  have hnb : 0 ≤ n ∧ n ≤ 3 := by unfold inB at hn; exact of_decide_eq_true hn
  have htl := (tree_end ht).1
  have htn : t.map showN ≠ [] := by intro e; have := congrArg List.length e; simp at this; rw [this] at htl; simp at htl
  have hrd := read_of_int n (by omega) (by omega)
  have hj : funcLn (s, n, t) = joinBy 32 (kwFunc :: s :: intL n :: t.map showN) := by
    rw [joinBy_front 32 _ _ _ _ htn]; rfl
  have hsp : splitL 32 (funcLn (s, n, t)) = kwFunc :: s :: intL n :: t.map showN := by
    rw [hj]
    refine split_join 32 _ (by simp) ?_
    intro x hx
    simp only [List.mem_cons, List.mem_map] at hx
    rcases hx with rfl | rfl | rfl | ⟨m, hm, rfl⟩
    · decide
    · exact name_noblank hs
    · intro c hc e
      have := intL_bytes n (by omega) (by omega) c hc
      rw [e] at this
      simp at this
    · exact show_noblank m (tree_nodes ht m hm)
  have hdrop : (funcLn (s, n, t)).drop (s.length + (intL n).length + 7) = showL t := by
    have e : funcLn (s, n, t) = (kwFunc ++ [32] ++ s ++ [32] ++ intL n ++ [32]) ++ showL t := rfl
    rw [e, List.drop_append_of_le_length (by simp [kwFunc]; omega)]
    rw [List.drop_of_length_le (by simp [kwFunc]; omega)]
    simp
  unfold readLn
  rw [hsp]
  rw [if_neg (by simp [kwFunc, kwPackage]), if_neg (by simp [kwFunc, kwImport]), if_pos (by simp; omega)]
  simp only [List.getD_cons_zero, List.getD_cons_succ]
  rw [hdrop, if_pos (tree_backL ht).1, (tree_backL ht).2, hrd.2]

theorem readLs_imps (r : List (List UInt8)) : ∀ (ims : List (List UInt8)) (p : Pk), (∀ x ∈ ims, nameB x = true) → readLs p (ims.map impLn ++ r) = readLs (p.1, p.2.1 ++ ims, p.2.2) r
  | [], p, _ => by simp
  | s :: ims, p, h => by
    rw [List.map_cons, List.cons_append, readLs, read_imp p s (h s (by simp))]
    simp only
    rw [readLs_imps r ims _ (fun x hx => h x (by simp [hx]))]
    simp

theorem readLs_funcs : ∀ (fs : List Fn) (p : Pk), (∀ f ∈ fs, funcB f = true) → readLs p (fs.map funcLn) = some (p.1, p.2.1, p.2.2 ++ fs)
  | [], p, _ => by simp [readLs]
  | f :: fs, p, h => by
    rw [List.map_cons, readLs, read_func p f (h f (by simp))]
    simp only
    rw [readLs_funcs fs _ (fun x hx => h x (by simp [hx]))]
    simp

theorem pkgB_parts {p : Pk} (h : pkgB p = true) : nameB p.1 = true ∧ (∀ x ∈ p.2.1, nameB x = true) ∧ p.2.1.length ≤ 6 ∧ (1 ≤ p.2.2.length ∧ p.2.2.length ≤ 8) ∧ (∀ f ∈ p.2.2, funcB f = true) := by
  unfold pkgB importsB inB at h
  simp only [Bool.and_eq_true, decide_eq_true_eq] at h
  obtain ⟨⟨h1, ⟨h2, h3, _⟩, h4⟩, h5⟩ := h
  refine ⟨h1, fun x hx => ?_, h3, by omega, fun f hf => ?_⟩
  · obtain ⟨i, hi, rfl⟩ := List.getElem_of_mem hx
    have := h2 i hi
    rwa [List.getD_eq_getElem?_getD, List.getElem?_eq_getElem hi] at this
  · obtain ⟨i, hi, rfl⟩ := List.getElem_of_mem hf
    have := (h5 i hi).1
    rwa [List.getD_eq_getElem?_getD, List.getElem?_eq_getElem hi] at this

/-- What is shown of a right package is read as it, line by line. -/
theorem read_lines {p : Pk} (h : pkgB p = true) : readLs ([], [], []) (pkLines p) = some p := by
  obtain ⟨h1, h2, _, _, h5⟩ := pkgB_parts h
  unfold pkLines
  rw [readLs, read_pack _ _ h1]
  simp only
  rw [readLs_imps _ _ _ h2, readLs_funcs _ _ h5]
  simp

end Go.Proofs.Ytinojgaekfknkaa
