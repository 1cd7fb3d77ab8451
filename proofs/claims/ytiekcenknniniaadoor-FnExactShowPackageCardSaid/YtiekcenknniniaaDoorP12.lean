/-
  Parts of one proof, one behind the other: PackIn, TreeS6, Math6I, WordI, Jumps, Clone, TextI.
-/
import Derived.Test.YtiekcenknniniaaDoorP11
import Derived.Test.YtiekcenknniniaaDoorP10
import Derived.SliceStrings
import Derived.Test.YtiekcenknniniaaDoorP7
import Derived.Test.YtiekcenknniniaaDoorP2
import Derived.Test.YtiekcenknniniaaDoorP3
import Derived.Test.YtiekcenknniniaaDoorP8
import Derived.Lib.ItoaNum
import Derived.Lib.Join
import Derived.Lib.Bytealg
import Derived.Scope
import Derived.WalkMore
import Derived.Lib.Strings
import Derived.Lib.Walk
import Derived.Lib.BufferWrite
import Derived.Lib.UnsafeStr
import Derived.Lib.Hide
import Derived.Laws.MakeOwn
import Derived.Test.YtiekcenknniniaaDoorRows
import Derived.WalkKit
import Derived.WalkLawsBesides
import Derived.OpenShut
import Derived.BigQuiet

/-! A package that came in, as the walks take it. -/
namespace Go.Proofs.YtiekcenknniniaaDoor
open Go.ChangeShapes Go.WideShapes Go.ChangeAt Go.RowKit Go.Joins Go.Deep

section
variable {H : Type} {enc : TypeId × Value → H} {W : World} {base : Nat} {spare : Nat → Bool} {held : Bool} {fuel : Nat} {v : Value} {x : DataW H × List MemPlace}

set_option maxRecDepth 100000 in
theorem trod_nodes (hf : DataW.trod enc Tryd.prog W base spare held fuel 50 [v] = some x) :
    ∃ a len cap ns, v = .slice a len cap ∧ (a = none → cap = 0) ∧ NodesIn W a len ns ∧ len ≤ maxLen ∧ LongT ns ∧ IntT ns := by
  rcases open_slice Tryd.underlying50 hf with ⟨hcs, _⟩ | ⟨a, len, cap, q, n, D, Pl, hcs, _, hl, hm, hq, _, hx⟩
  · simp at hcs
    subst hcs
    exact ⟨none, 0, 0, [], rfl, fun _ => rfl, ⟨rfl, fun j hj => by omega⟩, by decide, (fun j => by simp [nd0]), IntT.nil⟩
  · simp at hcs
    subst hcs
    have hlq : len ≤ q := by rw [hq]; split <;> omega
    have each : ∀ i, i < len → ∃ x : Nd, W.cell? (a.add (i * 4)) = some (.int .i64 x.1) ∧ W.cell? (a.add (i * 4 + 1)) = some (.int .i64 x.2.1) ∧ W.cell? (a.add (i * 4 + 2)) = some (.string ⟨x.2.2.1.toArray⟩) ∧ W.cell? (a.add (i * 4 + 3)) = some (.string ⟨x.2.2.2.toArray⟩) ∧ x.2.2.1.length ≤ maxLen ∧ x.2.2.2.length ≤ maxLen ∧ IntN x := by
      intro i hi
      obtain ⟨cs', h1, h2⟩ := hx i (by omega)
      rw [cellsNode] at h1
      obtain ⟨_, hlen, hcell⟩ := World.cells?_some h1
      match cs', hlen with
      | [v0, v1, v2, v3], _ =>
        obtain ⟨y0, y1, y2, y3, k, _, _, t0, t1, t2, t3⟩ := trod_struct4 Tryd.underlying105 h2
        have k2 : Tryd.prog.cellsOf 2 = 1 := by kernel_rfl
        have k9 : Tryd.prog.cellsOf 9 = 1 := by kernel_rfl
        simp [k2, k9] at t0 t1 t2 t3
        obtain ⟨kd, e0, _, wk⟩ := DataW.trod_int Tryd.underlying2 t0
        obtain ⟨aa, e1, _, wa⟩ := DataW.trod_int Tryd.underlying2 t1
        obtain ⟨s2, e2, _, z2⟩ := DataW.trod_string Tryd.underlying9 t2
        obtain ⟨s3, e3, _, z3⟩ := DataW.trod_string Tryd.underlying9 t3
        simp at e0 e1 e2 e3
        subst e0 e1 e2 e3
        have g0 := hcell 0 (by omega)
        have g1 := hcell 1 (by omega)
        have g2 := hcell 2 (by omega)
        have g3 := hcell 3 (by omega)
        rw [add_add] at g0 g1 g2 g3
        exact ⟨(kd, aa, s2.data.toList, s3.data.toList), by simpa using g0, by simpa using g1, by simpa using g2, by simpa using g3, z2, z3, ⟨bounds_i64 wk, bounds_i64 wa⟩⟩
    obtain ⟨f, hf2⟩ := choose_lt each
    refine ⟨some a, len, cap, (List.range len).map f, rfl, (fun e => by cases e), ⟨by simp, fun j hj => ?_⟩, by omega, (fun j => ?_), (fun j => ?_)⟩
    rotate_left
    · by_cases hj : j < len
      · have hg : ((List.range len).map f).getD j nd0 = f j := by simp [List.getD, hj]
        rw [hg]; exact ⟨(hf2 j hj).2.2.2.2.1, (hf2 j hj).2.2.2.2.2.1⟩
      · have hg : ((List.range len).map f).getD j nd0 = nd0 := by simp [List.getD, hj]
        rw [hg]; simp [nd0]
    · by_cases hj : j < len
      · have hg : ((List.range len).map f).getD j nd0 = f j := by simp [List.getD, hj]
        rw [hg]; exact (hf2 j hj).2.2.2.2.2.2
      · have hg : ((List.range len).map f).getD j nd0 = nd0 := by simp [List.getD, hj]
        rw [hg]; exact intN_nd0
    obtain ⟨c0, c1, c2, c3, _, _, _⟩ := hf2 j hj
    have hsp : a.spot = none := by
      have h0 := (hf2 0 (by omega)).1
      simpa [Addr.add] using World.cell?_spot h0
    obtain ⟨b, off, spot⟩ := a
    simp at hsp
    subst hsp
    have e : ∀ i, (⟨b, off, none⟩ : Addr).add i = ⟨b, off + i, none⟩ := fun i => by unfold Addr.add; split <;> simp_all
    rw [e] at c0 c1 c2 c3
    have hg : ((List.range len).map f).getD j nd0 = f j := by simp [List.getD, hj]
    rw [hg]
    exact ⟨b, off, rfl, World.block_lt_of_cell? W ⟨b, off + j * 4, none⟩ c0, c0, by rw [Nat.add_assoc]; exact c1, by rw [Nat.add_assoc]; exact c2, by rw [Nat.add_assoc]; exact c3⟩

set_option maxRecDepth 100000 in
theorem trod_texts (hf : DataW.trod enc Tryd.prog W base spare held fuel 22 [v] = some x) :
    ∃ a len cap ts, v = .slice a len cap ∧ TextsIn W a len ts ∧ len ≤ maxLen ∧ ∀ j, (ts.getD j []).length ≤ maxLen := by
  rcases open_strings Tryd.underlying22 Tryd.underlying9 (by kernel_rfl) hf with ⟨hcs, _⟩ | ⟨a, len, cap, ss, hcs, _, hl, hm, hlen, _, hcell, hsz⟩
  · simp at hcs
    subst hcs
    exact ⟨none, 0, 0, [], rfl, ⟨rfl, fun j hj => by omega⟩, by decide, fun j => by simp⟩
  · simp at hcs
    subst hcs
    have hls : len ≤ ss.length := by rw [hlen]; split <;> omega
    have hgd : ∀ j, j < len → ((ss.take len).map (fun s => s.data.toList)).getD j [] = (ss.getD j ByteArray.empty).data.toList := by
      intro j hj
      have hj2 : j < ss.length := by omega
      simp [List.getD, hj, hj2]
    refine ⟨some a, len, cap, (ss.take len).map (fun s => s.data.toList), rfl, ⟨by simp; omega, fun j hj => ?_⟩, by omega, fun j => ?_⟩
    · have hc := hcell j (by omega)
      have hsp : a.spot = none := by
        have h0 := hcell 0 (by omega)
        simpa [Addr.add] using World.cell?_spot h0
      obtain ⟨b, off, spot⟩ := a
      simp at hsp
      subst hsp
      have e : ∀ i, (⟨b, off, none⟩ : Addr).add i = ⟨b, off + i, none⟩ := fun i => by unfold Addr.add; split <;> simp_all
      rw [e] at hc
      refine ⟨b, off, rfl, World.block_lt_of_cell? W ⟨b, off + j, none⟩ hc, ?_⟩
      rw [hc, hgd j hj]
    · by_cases hj : j < len
      · rw [hgd j hj]
        have hj2 : j < ss.length := by omega
        have : ss.getD j ByteArray.empty ∈ ss := by simp [List.getD, hj2]
        have hz := hsz _ this
        simpa using hz
      · have : ((ss.take len).map (fun s => s.data.toList)).getD j [] = [] := by rw [List.getD, List.getElem?_eq_none (by simp; omega)]; rfl
        rw [this]; simp

theorem cellsFunc : Tryd.prog.cellsOf 52 = 3 := by kernel_rfl
theorem cellsPackage : Tryd.prog.cellsOf 25 = 3 := by kernel_rfl

set_option maxRecDepth 100000 in
theorem trod_fns (hf : DataW.trod enc Tryd.prog W base spare held fuel 23 [v] = some x) :
    ∃ a len cap fs, v = .slice a len cap ∧ FuncsIn W a len fs ∧ len ≤ maxLen ∧ LongF fs ∧ IntF fs := by
  rcases open_slice Tryd.underlying23 hf with ⟨hcs, _⟩ | ⟨a, len, cap, q, n, D, Pl, hcs, _, hl, hm, hq, _, hx⟩
  · simp at hcs
    subst hcs
    exact ⟨none, 0, 0, [], rfl, ⟨rfl, fun j hj => by omega⟩, by decide, (fun j => by simp [fn0, LongT, nd0]), (fun j => ⟨by simp [fn0], IntT.nil⟩)⟩
  · simp at hcs
    subst hcs
    have hlq : len ≤ q := by rw [hq]; split <;> omega
    have each : ∀ i, i < len → ∃ y : Fn, W.cell? (a.add (i * 3)) = some (.string ⟨y.1.toArray⟩) ∧ W.cell? (a.add (i * 3 + 1)) = some (.int .i64 y.2.1) ∧
        (∃ ta tl tc, W.cell? (a.add (i * 3 + 2)) = some (.slice ta tl tc) ∧ (ta = none → tc = 0) ∧ NodesIn W ta tl y.2.2) ∧ (y.1.length ≤ maxLen ∧ y.2.2.length ≤ maxLen ∧ LongT y.2.2) ∧ ((-9223372036854775808 ≤ y.2.1 ∧ y.2.1 ≤ 9223372036854775807) ∧ IntT y.2.2) := by
      intro i hi
      obtain ⟨cs', h1, h2⟩ := hx i (by omega)
      rw [cellsFunc] at h1
      obtain ⟨_, hlen, hcell⟩ := World.cells?_some h1
      match cs', hlen with
      | [v0, v1, v2], _ =>
        obtain ⟨y0, y1, y2, k, _, _, t0, t1, t2⟩ := trod_struct3 Tryd.underlying52 h2
        have k2 : Tryd.prog.cellsOf 2 = 1 := by kernel_rfl
        have k9 : Tryd.prog.cellsOf 9 = 1 := by kernel_rfl
        have kn : Tryd.prog.cellsOf 50 = 1 := by kernel_rfl
        simp [k2, k9, kn] at t0 t1 t2
        obtain ⟨s0, e0, _, z0⟩ := DataW.trod_string Tryd.underlying9 t0
        obtain ⟨aa, e1, _, wa⟩ := DataW.trod_int Tryd.underlying2 t1
        obtain ⟨ta, tl, tc, ns, e2, hnc, hns, hnl, hlt, hit⟩ := trod_nodes t2
        simp at e0 e1
        subst e0 e1 e2
        have g0 := hcell 0 (by omega)
        have g1 := hcell 1 (by omega)
        have g2 := hcell 2 (by omega)
        rw [add_add] at g0 g1 g2
        exact ⟨(s0.data.toList, aa, ns), by simpa using g0, by simpa using g1, ⟨ta, tl, tc, by simpa using g2, hnc, hns⟩, ⟨z0, by rw [show ((s0.data.toList, aa, ns) : Fn).2.2 = ns from rfl, hns.1]; exact hnl, hlt⟩, ⟨bounds_i64 wa, hit⟩⟩
    obtain ⟨f, hf2⟩ := choose_lt each
    refine ⟨some a, len, cap, (List.range len).map f, rfl, ⟨by simp, fun j hj => ?_⟩, by omega, (fun j => ?_), (fun j => ?_)⟩
    rotate_left
    · by_cases hj : j < len
      · have hg : ((List.range len).map f).getD j fn0 = f j := by simp [List.getD, hj]
        rw [hg]; exact (hf2 j hj).2.2.2.1
      · have hg : ((List.range len).map f).getD j fn0 = fn0 := by simp [List.getD, hj]
        rw [hg]; simp [fn0, LongT, nd0]
    · by_cases hj : j < len
      · have hg : ((List.range len).map f).getD j fn0 = f j := by simp [List.getD, hj]
        rw [hg]; exact (hf2 j hj).2.2.2.2
      · have hg : ((List.range len).map f).getD j fn0 = fn0 := by simp [List.getD, hj]
        rw [hg]; exact ⟨by simp [fn0], IntT.nil⟩
    obtain ⟨c0, c1, ⟨ta, tl, tc, c2, hnc, hns⟩, _, _⟩ := hf2 j hj
    have hsp : a.spot = none := by
      have h0 := (hf2 0 (by omega)).1
      simpa [Addr.add] using World.cell?_spot h0
    obtain ⟨b, off, spot⟩ := a
    simp at hsp
    subst hsp
    have e : ∀ i, (⟨b, off, none⟩ : Addr).add i = ⟨b, off + i, none⟩ := fun i => by unfold Addr.add; split <;> simp_all
    rw [e] at c0 c1 c2
    have hg : ((List.range len).map f).getD j fn0 = f j := by simp [List.getD, hj]
    rw [hg]
    exact ⟨b, off, rfl, World.block_lt_of_cell? W ⟨b, off + j * 3, none⟩ c0, c0, by rw [Nat.add_assoc]; exact c1, ta, tl, tc, by rw [Nat.add_assoc]; exact c2, hnc, hns⟩

end

set_option maxRecDepth 100000 in
theorem open_package {H : Type} {enc : TypeId × Value → H} {W : World} {base b0 : Nat} {spare : Nat → Bool} {held : Bool} {v : Value} {d : DataW H} {p : List MemPlace}
    (hv : Value.okWide Tryd.prog W .any b0 25 v) (h : DataW.Trod enc Tryd.prog W base spare held 25 v d p) :
    ∃ nm ia il ic ims fa fl fc fs, v = .agg #[.string ⟨(nm : List UInt8).toArray⟩, .slice ia il ic, .slice fa fl fc] ∧ TextsIn W ia il ims ∧ FuncsIn W fa fl fs ∧ nm.length ≤ maxLen ∧ il ≤ maxLen ∧ (∀ j, (ims.getD j []).length ≤ maxLen) ∧ fl ≤ maxLen ∧ LongF fs ∧ IntF fs := by
  obtain ⟨c0, c1, c2, y0, y1, y2, m, rfl, _, _, t0, t1, t2⟩ := open_agg3 Tryd.underlying25 (by kernel_rfl) cellsPackage hv h
  obtain ⟨s0, e0, _, h0⟩ := DataW.trod_string Tryd.underlying9 t0
  simp at e0
  subst e0
  obtain ⟨ia, il, ic, ims, rfl, hi, hil, him⟩ := trod_texts t1
  obtain ⟨fa, fl, fc, fs, rfl, hf, hfl, hlf, hif⟩ := trod_fns t2
  exact ⟨s0.data.toList, ia, il, ic, ims, fa, fl, fc, fs, rfl, hi, hf, h0, hil, him, hfl, hlf, hif⟩

end Go.Proofs.YtiekcenknniniaaDoor

/-! The contracts of chapter 6's specification: l6Parts, PartsOf. -/
namespace Go.Proofs.YtiekcenknniniaaDoor
open Go.RowKit

/-- What a row of numbers holds. -/
def intsV (l : List Int) : List Value := l.map (fun i => Value.int .i64 i)
theorem intsV_len (l : List Int) : (intsV l).length = l.length := by simp [intsV]
theorem intsV_append (x y : List Int) : intsV (x ++ y) = intsV x ++ intsV y := by simp [intsV]
theorem intsV_one (l : List Int) : ∀ u ∈ intsV l, u.oneCell' = true := by
  intro u hu
  simp only [intsV, List.mem_map] at hu
  obtain ⟨i, _, rfl⟩ := hu
  rfl
theorem infoInt : (Tryd.prog.info? 2).map (fun i => (i.zero, i.size, i.bytes)) = some (some (.int .i64 0), 1, 8) := by kernel_rfl

theorem new_int (w : World) (n : Int) : ∀ j u, (intsV [n])[j]? = some u → (w.alloc (.cells #[.int .i64 n] 2)).cell? ((⟨w.heap.size, 0, none⟩ : Addr).add j) = some u := by
  intro j u hu
  have e : (⟨w.heap.size, 0, none⟩ : Addr).add j = ⟨w.heap.size, j, none⟩ := by unfold Addr.add; split <;> simp_all
  rw [e]
  match j, hu with
  | 0, hu => simp [intsV] at hu; subst hu; simp
  | j + 1, hu => simp [intsV] at hu

theorem endV_le (l : List Nd) (a : Int) : -1 ≤ endV l a ∧ endV l a ≤ l.length := by
  by_cases h : 0 ≤ endV l a
  · by_cases ha : a < 0 ∨ (l.length : Int) ≤ a
    · rw [endV_out l a ha] at h; omega
    · obtain ⟨k, rfl⟩ : ∃ k : Nat, a = (k : Int) := Int.eq_ofNat_of_zero_le (by omega)
      have := end_parts h
      omega
  · by_cases ha : a < 0 ∨ (l.length : Int) ≤ a
    · rw [endV_out l a ha]; omega
    · obtain ⟨k, rfl⟩ : ∃ k : Nat, a = (k : Int) := Int.eq_ofNat_of_zero_le (by omega)
      rw [endV_nat] at h ⊢
      unfold endN at h ⊢
      rw [if_pos (by omega)] at h ⊢
      cases he : endGo (l.drop k) 1 with
      | none => simp only; omega
      | some d => rw [he] at h; simp only at h; omega



end Go.Proofs.YtiekcenknniniaaDoor

/-! Plain facts for chapter 6's landed code: shapes, and what words are read as. -/
namespace Go.Proofs.YtiekcenknniniaaDoor
open Go.RowKit

/-- A shape: what a node tells by its kind. -/
inductive Sh where
  | num (a : Int)
  | arg (a : Int)
  | pair (k : Int)
  | cond
  | call (p f : List UInt8) (a : Int)
  | no

def shOf (n : Nd) : Sh :=
  if n.1 = 1 then .num n.2.1
  else if n.1 = 2 then .arg n.2.1
  else if 3 ≤ n.1 ∧ n.1 ≤ 6 then .pair n.1
  else if n.1 = 7 then .cond
  else if n.1 = 8 then .call n.2.2.1 n.2.2.2 n.2.1
  else .no

def shNode : Sh → Nd
  | .num a => (1, a, [], [])
  | .arg a => (2, a, [], [])
  | .pair k => (k, 0, [], [])
  | .cond => (7, 0, [], [])
  | .call p f a => (8, a, p, f)
  | .no => (0, 0, [], [])

def shOk : Sh → Bool
  | .num a => inB a (-2147483648) 2147483647
  | .arg a => inB a 0 2
  | .pair _ => true
  | .cond => true
  | .call p f a => inB a 0 3 && (nameB p && nameB f)
  | .no => false

def shKids : Sh → Int
  | .num _ => 0
  | .arg _ => 0
  | .pair _ => 2
  | .cond => 3
  | .call _ _ a => a
  | .no => -1

def shWord : Sh → List UInt8
  | .num a => intL a
  | .arg a => 36 :: intL a
  | .pair k => if k = 3 then [43] else if k = 4 then [45] else if k = 5 then [42] else [47]
  | .cond => [63]
  | .call p f a => (64 :: p) ++ [46] ++ f ++ [47] ++ intL a
  | .no => []

theorem shOf_kinds (n : Nd) : (n.1 = 1 ∧ shOf n = .num n.2.1) ∨ (n.1 = 2 ∧ shOf n = .arg n.2.1) ∨ ((3 ≤ n.1 ∧ n.1 ≤ 6) ∧ shOf n = .pair n.1) ∨ (n.1 = 7 ∧ shOf n = .cond) ∨ (n.1 = 8 ∧ shOf n = .call n.2.2.1 n.2.2.2 n.2.1) ∨ ((n.1 < 1 ∨ 8 < n.1) ∧ shOf n = .no) := by
  by_cases h1 : n.1 = 1
  · exact Or.inl ⟨h1, if_pos h1⟩
  by_cases h2 : n.1 = 2
  · exact Or.inr (Or.inl ⟨h2, by unfold shOf; rw [if_neg h1, if_pos h2]⟩)
  by_cases h3 : 3 ≤ n.1 ∧ n.1 ≤ 6
  · exact Or.inr (Or.inr (Or.inl ⟨h3, by unfold shOf; rw [if_neg h1, if_neg h2, if_pos h3]⟩))
  by_cases h7 : n.1 = 7
  · exact Or.inr (Or.inr (Or.inr (Or.inl ⟨h7, by unfold shOf; rw [if_neg h1, if_neg h2, if_neg h3, if_pos h7]⟩)))
  by_cases h8 : n.1 = 8
  · exact Or.inr (Or.inr (Or.inr (Or.inr (Or.inl ⟨h8, by unfold shOf; rw [if_neg h1, if_neg h2, if_neg h3, if_neg h7, if_pos h8]⟩))))
  · exact Or.inr (Or.inr (Or.inr (Or.inr (Or.inr ⟨by omega, by unfold shOf; rw [if_neg h1, if_neg h2, if_neg h3, if_neg h7, if_neg h8]⟩))))

/-- A node is right where its shape is, and it tells no more. -/
theorem node_sh (n : Nd) : nodeB n = (shOk (shOf n) && decide (shNode (shOf n) = n)) := by
  rw [Bool.eq_iff_iff, nodeB_iff, Bool.and_eq_true, decide_eq_true_iff]
  obtain ⟨k, a, p, f⟩ := n
  rcases shOf_kinds (k, a, p, f) with ⟨h, e⟩ | ⟨h, e⟩ | ⟨h, e⟩ | ⟨h, e⟩ | ⟨h, e⟩ | ⟨h, e⟩
  · rw [e]; simp only at h; subst h
    unfold nodeP shOk shNode inB
    simp [@eq_comm (List UInt8) [] p, @eq_comm (List UInt8) [] f]
  · rw [e]; simp only at h; subst h
    unfold nodeP shOk shNode inB
    simp [@eq_comm (List UInt8) [] p, @eq_comm (List UInt8) [] f]
  · rw [e]; simp only at h
    unfold nodeP shOk shNode
    simp only [Prod.mk.injEq, true_and]
    constructor
    · rintro (⟨h1, _⟩ | ⟨h1, _⟩ | ⟨_, h2, h3, h4⟩ | ⟨h1, _⟩)
      · omega
      · omega
      · exact ⟨h2.symm, h3.symm, h4.symm⟩
      · omega
    · rintro ⟨h2, h3, h4⟩
      exact Or.inr (Or.inr (Or.inl ⟨by omega, h2.symm, h3.symm, h4.symm⟩))
  · rw [e]; simp only at h; subst h
    unfold nodeP shOk shNode
    simp [@eq_comm (List UInt8) [] p, @eq_comm (List UInt8) [] f, @eq_comm Int 0 a]
  · rw [e]; simp only at h; subst h
    unfold nodeP shOk shNode inB
    simp
  · rw [e]; simp only at h
    unfold nodeP shOk shNode
    simp
    omega

theorem kids_sh {n : Nd} (h : nodeB n = true) : shKids (shOf n) = kidsV n := by
  unfold kidsV
  rcases shOf_kinds n with ⟨h, e⟩ | ⟨h, e⟩ | ⟨h, e⟩ | ⟨h, e⟩ | ⟨h, e⟩ | ⟨h1, e⟩
  · rw [e, if_neg (by omega), if_neg (by omega), if_neg (by omega)]; rfl
  · rw [e, if_neg (by omega), if_neg (by omega), if_neg (by omega)]; rfl
  · rw [e, if_pos h]; rfl
  · rw [e, if_neg (by omega), if_pos h]; rfl
  · rw [e, if_neg (by omega), if_neg (by omega), if_pos h]; rfl
  · have := nodeB_iff.1 h
    unfold nodeP at this
    omega

theorem word_sh {n : Nd} (h : nodeB n = true) : shWord (shOf n) = showN n := by
  unfold showN
  rcases shOf_kinds n with ⟨h, e⟩ | ⟨h, e⟩ | ⟨h, e⟩ | ⟨h, e⟩ | ⟨h, e⟩ | ⟨h1, e⟩
  · rw [e, if_pos h]; rfl
  · rw [e, if_neg (by omega), if_pos h]; rfl
  · rw [e, if_neg (by omega), if_neg (by omega)]
    unfold shWord
    simp only
    split
    · rfl
    · split
      · rfl
      · split
        · rfl
        · rw [if_pos (by omega)]
  · rw [e, if_neg (by omega), if_neg (by omega), if_neg (by omega), if_neg (by omega), if_neg (by omega), if_neg (by omega), if_pos h]; rfl
  · rw [e, if_neg (by omega), if_neg (by omega), if_neg (by omega), if_neg (by omega), if_neg (by omega), if_neg (by omega), if_neg (by omega)]; rfl
  · have := nodeB_iff.1 h
    unfold nodeP at this
    omega

/-- The library's numerals are ours. -/
theorem dec_digL : ∀ u : Nat, Lib.decDigits u = digL u := by
  intro u
  induction u using Nat.strongRecOn with
  | ind u ih =>
    rw [Lib.decDigits, digL]
    by_cases h : u < 10
    · rw [dif_pos h, if_pos h]; unfold digit; rw [Nat.mod_eq_of_lt h]
    · rw [dif_neg h, if_neg h, ih (u / 10) (by omega)]; rfl
theorem itoa_int (a : Int) : Lib.itoa a = intL a := by
  unfold Lib.itoa intL
  split
  · rw [dec_digL]
  · rw [dec_digL]; congr 1; omega

theorem join_by (ws : List (List UInt8)) : Lib.join ws [32] = joinBy 32 ws := by
  induction ws with
  | nil => rfl
  | cons x r ih =>
    cases r with
    | nil => rw [Lib.join_one]; rfl
    | cons y q =>
      rw [joinBy_cons 32 x (y :: q) (by simp), ← ih, Lib.join_cons, Lib.join_cons]
      simp [Lib.joinTail]

/-- A text cut at a byte: what is ahead of it, what is behind it. -/
def cutA (b : UInt8) (l : List UInt8) : List UInt8 := l.takeWhile (fun c => c != b)
def cutB (b : UInt8) (l : List UInt8) : List UInt8 := (l.dropWhile (fun c => c != b)).tail

theorem cut_one (b : UInt8) (x y : List UInt8) (h : ∀ c ∈ x, c ≠ b) : cutA b (x ++ b :: y) = x ∧ cutB b (x ++ b :: y) = y := by
  unfold cutA cutB
  induction x with
  | nil => simp
  | cons c r ih =>
    have hc : (c != b) = true := bne_iff_ne.2 (h c (by simp))
    have := ih (fun d hd => h d (by simp [hd]))
    rw [List.cons_append, List.takeWhile_cons, List.dropWhile_cons, if_pos hc, if_pos hc]
    exact ⟨by rw [this.1], this.2⟩

theorem cutA_len (b : UInt8) (l : List UInt8) : (cutA b l).length ≤ l.length := (List.takeWhile_sublist _).length_le
theorem cutB_len (b : UInt8) (l : List UInt8) : (cutB b l).length ≤ l.length := by
  have := (List.dropWhile_sublist (l := l) (fun c => c != b)).length_le
  unfold cutB
  rw [List.length_tail]
  omega

/-- Where the byte is. -/
theorem cut_at (b : UInt8) (l : List UInt8) : (Lib.indexByte l b = -1 ∧ cutA b l = l ∧ cutB b l = []) ∨ ∃ k : Nat, Lib.indexByte l b = (k : Int) ∧ k < l.length ∧ cutA b l = l.take k ∧ cutB b l = l.drop (k + 1) := by
  induction l with
  | nil => exact Or.inl ⟨rfl, rfl, rfl⟩
  | cons c r ih =>
    by_cases hc : c = b
    · subst hc
      refine Or.inr ⟨0, ?_, by simp, ?_, ?_⟩
      · unfold Lib.indexByte; simp
      · unfold cutA; simp
      · unfold cutB; simp
    · have hc2 : (c != b) = true := bne_iff_ne.2 hc
      have hc3 : (c == b) = false := beq_eq_false_iff_ne.2 hc
      have ea : cutA b (c :: r) = c :: cutA b r := by unfold cutA; rw [List.takeWhile_cons, if_pos hc2]
      have eb : cutB b (c :: r) = cutB b r := by unfold cutB; rw [List.dropWhile_cons, if_pos hc2]
      have ei : Lib.indexByte (c :: r) b = if Lib.indexByte r b == -1 then -1 else Lib.indexByte r b + 1 := by
        rw [Lib.indexByte, hc3]; rfl
      rw [ea, eb, ei]
      rcases ih with ⟨h1, h2, h3⟩ | ⟨k, h1, h2, h3, h4⟩
      · exact Or.inl ⟨by rw [h1]; rfl, by rw [h2], h3⟩
      · refine Or.inr ⟨k + 1, ?_, by simp; omega, by rw [h3]; rfl, by rw [h4]; rfl⟩
        rw [h1, if_neg (by rw [beq_iff_eq]; omega)]
        omega

/-- The shape of a word. -/
noncomputable def shIn (s : List UInt8) : Sh :=
  if numB s = true then .num (numV s)
  else if s = [63] then .cond
  else if s = [43] then .pair 3
  else if s = [45] then .pair 4
  else if s = [42] then .pair 5
  else if s = [47] then .pair 6
  else if s.head? = some 36 then .arg (numV s.tail)
  else if s.head? = some 64 then .call (cutA 46 (cutA 47 s.tail)) (cutB 46 (cutA 47 s.tail)) (numV (cutB 47 s.tail))
  else .no

theorem num_nohead {c : UInt8} {r : List UInt8} (h1 : c ≠ 45) (h2 : ¬ isDig c) : numB (c :: r) = false :=
  (num_no (Or.inl (readB_no fun hf => by
    have hneg : negB (c :: r) = false := by unfold negB; simp [h1]
    have hb : bodyL (c :: r) = c :: r := by unfold bodyL; rw [if_neg (by rw [hneg]; simp)]
    exact h2 (hf.2.1 c (by rw [hb]; simp))))).1

theorem num_minus : numB [45] = false :=
  (num_no (Or.inl (readB_no fun hf => by
    have hb : bodyL [45] = [] := by decide
    have := hf.1.1
    rw [hb] at this
    simp at this))).1

theorem num_word (a : Int) (h0 : -2147483648 ≤ a) (h1 : a ≤ 2147483647) : numB (intL a) = true ∧ numV (intL a) = a := by
  obtain ⟨e1, e2⟩ := read_of_int a h0 h1
  have := num_yes e1 (by rw [e2]; exact inB_yes _ _ _ h0 h1)
  exact ⟨this.1, by rw [this.2, e2]⟩

/-- A word that is shown of a node is read as it. -/
theorem in_show (n : Nd) (h : nodeB n = true) : shNode (shIn (showN n)) = n := by
  obtain ⟨k, a, p, f⟩ := n
  have hp := nodeB_iff.1 h
  unfold nodeP at hp
  simp only at hp
  rcases hp with ⟨rfl, ⟨h0, h1⟩, rfl, rfl⟩ | ⟨rfl, ⟨h0, h1⟩, rfl, rfl⟩ | ⟨hk, rfl, rfl, rfl⟩ | ⟨rfl, ⟨h0, h1⟩, hpn, hfn⟩
  · have hs : showN (1, a, [], []) = intL a := by unfold showN; simp
    obtain ⟨e1, e2⟩ := num_word a h0 h1
    rw [hs]
    unfold shIn
    rw [if_pos e1, e2]
    rfl
  · have hs : showN (2, a, [], []) = 36 :: intL a := by unfold showN; simp
    obtain ⟨_, e2⟩ := num_word a (by omega) (by omega)
    rw [hs]
    unfold shIn
    rw [if_neg (by rw [num_nohead (by decide) (by decide)]; simp), if_neg (by simp), if_neg (by simp), if_neg (by simp), if_neg (by simp), if_neg (by simp), if_pos (by rfl), List.tail_cons, e2]
    rfl
  · rcases (show k = 3 ∨ k = 4 ∨ k = 5 ∨ k = 6 ∨ k = 7 by omega) with rfl | rfl | rfl | rfl | rfl
    · have hs : showN (3, 0, [], []) = [43] := by unfold showN; simp
      rw [hs]; unfold shIn; rw [if_neg (by rw [num_nohead (by decide) (by decide)]; simp), if_neg (by simp), if_pos rfl]; rfl
    · have hs : showN (4, 0, [], []) = [45] := by unfold showN; simp
      rw [hs]; unfold shIn; rw [if_neg (by rw [num_minus]; simp), if_neg (by simp), if_neg (by simp), if_pos rfl]; rfl
    · have hs : showN (5, 0, [], []) = [42] := by unfold showN; simp
      rw [hs]; unfold shIn; rw [if_neg (by rw [num_nohead (by decide) (by decide)]; simp), if_neg (by simp), if_neg (by simp), if_neg (by simp), if_pos rfl]; rfl
    · have hs : showN (6, 0, [], []) = [47] := by unfold showN; simp
      rw [hs]; unfold shIn; rw [if_neg (by rw [num_nohead (by decide) (by decide)]; simp), if_neg (by simp), if_neg (by simp), if_neg (by simp), if_neg (by simp), if_pos rfl]; rfl
    · have hs : showN (7, 0, [], []) = [63] := by unfold showN; simp
      rw [hs]; unfold shIn; rw [if_neg (by rw [num_nohead (by decide) (by decide)]; simp), if_pos rfl]; rfl
  · have hs : showN (8, a, p, f) = 64 :: ((p ++ 46 :: f) ++ 47 :: intL a) := by unfold showN; simp
    obtain ⟨_, e2⟩ := num_word a (by omega) (by omega)
    obtain ⟨_, hpl⟩ := name_letters hpn
    obtain ⟨_, hfl⟩ := name_letters hfn
    obtain ⟨c1, c2⟩ := cut_one 47 (p ++ 46 :: f) (intL a) (by
      intro c hc
      rcases List.mem_append.1 hc with hc | hc
      · exact byte_ne (by have := hpl c hc; have e : (47 : UInt8).toNat = 47 := rfl; omega)
      · rcases List.mem_cons.1 hc with rfl | hc
        · decide
        · exact byte_ne (by have := hfl c hc; have e : (47 : UInt8).toNat = 47 := rfl; omega))
    obtain ⟨c3, c4⟩ := cut_one 46 p f (by intro c hc; exact byte_ne (by have := hpl c hc; have e : (46 : UInt8).toNat = 46 := rfl; omega))
    rw [hs]
    unfold shIn
    rw [if_neg (by rw [num_nohead (by decide) (by decide)]; simp), if_neg (by simp), if_neg (by simp), if_neg (by simp), if_neg (by simp), if_neg (by simp), if_neg (by simp), if_pos (by rfl), List.tail_cons, c1, c2, c3, c4, e2]
    rfl

/-- What a word is read as is small. -/
theorem in_small (s : List UInt8) : IntN (shNode (shIn s)) ∧ (shNode (shIn s)).2.2.1.length ≤ s.length ∧ (shNode (shIn s)).2.2.2.length ≤ s.length := by
  have b1 := numV_bd s
  have b2 := numV_bd s.tail
  have b3 := numV_bd (cutB 47 s.tail)
  have l1 := cutA_len 47 s.tail
  have l2 := cutA_len 46 (cutA 47 s.tail)
  have l3 := cutB_len 46 (cutA 47 s.tail)
  have l4 : s.tail.length ≤ s.length := by rw [List.length_tail]; omega
  unfold shIn
  repeat' split
  all_goals (unfold shNode IntN; simp only [List.length_nil]; omega)

/-- The landed ReadTree's list. -/
noncomputable def inT (s : List UInt8) : List Nd := (splitL 32 s).map (fun x => shNode (shIn x))

theorem showN_len (n : Nd) (h : nodeB n = true) : (showN n).length ≤ 20 := by
  obtain ⟨k, a, p, f⟩ := n
  have hp := nodeB_iff.1 h
  unfold nodeP at hp
  simp only at hp
  rcases hp with ⟨rfl, ⟨h0, h1⟩, rfl, rfl⟩ | ⟨rfl, ⟨h0, h1⟩, rfl, rfl⟩ | ⟨hk, rfl, rfl, rfl⟩ | ⟨rfl, ⟨h0, h1⟩, hpn, hfn⟩
  · have hs : showN (1, a, [], []) = intL a := by unfold showN; simp
    have := digL_len 9 a.natAbs (by omega)
    rw [hs]; unfold intL; split <;> simp <;> omega
  · have hs : showN (2, a, [], []) = 36 :: intL a := by unfold showN; simp
    have := digL_len 0 a.natAbs (by omega)
    rw [hs]; unfold intL; split <;> simp <;> omega
  · rcases (show k = 3 ∨ k = 4 ∨ k = 5 ∨ k = 6 ∨ k = 7 by omega) with rfl | rfl | rfl | rfl | rfl <;> (unfold showN; simp)
  · have hs : showN (8, a, p, f) = 64 :: ((p ++ 46 :: f) ++ 47 :: intL a) := by unfold showN; simp
    have := digL_len 0 a.natAbs (by omega)
    have e : intL a = digL a.natAbs := by unfold intL; rw [if_neg (by omega)]
    have := (name_letters hpn).1
    have := (name_letters hfn).1
    rw [hs, e]; simp; omega

end Go.Proofs.YtiekcenknniniaaDoor

/-! The contracts of chapter 4's landed code: WordOk, Wrap, Done. -/
namespace Go.Proofs.YtiekcenknniniaaDoor
open Go.RowKit

set_option maxHeartbeats 400000 in
set_option maxRecDepth 100000 in
theorem implWordOkS (n : Int) (w : World) : Calls Tryd.prog 80 #[.int .i64 n] w fun e w' => e = .returned (.bool (inB n (-2147483648) 2147483647)) ∧ w' = w := by
  by_cases h1 : -2147483648 ≤ n
  · by_cases h2 : n ≤ 2147483647
    · have hB : Hid (inB n (-2147483648) 2147483647 = true) := inB_yes _ _ _ h1 h2
      go_enter Tryd.func80, Tryd.ntmps80
      go_wp2
      go_ret
      exact ⟨by rw [hB.out]; rfl, rfl⟩
    · have hB : Hid (inB n (-2147483648) 2147483647 = false) := inB_no _ _ _ (Or.inr (by omega))
      go_enter Tryd.func80, Tryd.ntmps80
      go_wp2
      go_ret
      exact ⟨by rw [hB.out]; rfl, rfl⟩
  · have hB : Hid (inB n (-2147483648) 2147483647 = false) := inB_no _ _ _ (Or.inl (by omega))
    go_enter Tryd.func80, Tryd.ntmps80
    go_wp2
    go_ret
    exact ⟨by rw [hB.out]; rfl, rfl⟩

theorem implWordOk (n : Int) (w : World) (_h : -9223372036854775808 ≤ n ∧ n ≤ 9223372036854775807) : Calls Tryd.prog 80 #[.int .i64 n] w fun e w' => e = .returned (.bool (inB n (-2147483648) 2147483647)) ∧ Below w.heap.size w w' :=
  (implWordOkS n w).mono fun _ _ h => ⟨h.1, by rw [h.2]; exact Below.refl _ _⟩



end Go.Proofs.YtiekcenknniniaaDoor

/-! A scope in which the run jumps to several labels: what holds at every jump to each of them, and a measure that every pass from a label lowers. -/
namespace Go.Proofs.YtiekcenknniniaaDoor
open Go.RowKit

/-- As Q; by a goto to label l: J l. -/
def Hops (J : Nat → Act → World → Prop) (Q : Exit → Act → World → Prop) : Exit → Act → World → Prop
  | .goto l, a, w => J l a w
  | e, a, w => Q e a w

theorem hops_goto {J : Nat → Act → World → Prop} {Q : Exit → Act → World → Prop} {l : Nat} {a : Act} {w : World} (h : J l a w) : Hops J Q (.goto l) a w := h
theorem hops_ret {J : Nat → Act → World → Prop} {Q : Exit → Act → World → Prop} {a : Act} {w : World} (h : Q .ret a w) : Hops J Q .ret a w := h

theorem hops_mono {J J' : Nat → Act → World → Prop} {Q : Exit → Act → World → Prop} (h : ∀ l a w, J l a w → J' l a w) : ∀ e a w, Hops J Q e a w → Hops J' Q e a w := by
  intro e a w hq
  cases e with
  | goto l => exact h l a w hq
  | _ => exact hq

/-- At each label what holds there (J), and a measure (μ) that every jump lowers; a run that falls into a label from above goes on as one that jumped there. -/
theorem wp_scope_hops {P : Program} {a : Act} {w : World} {Q : Exit → Act → World → Prop} {c : Go.Code} (J : Nat → Act → World → Prop) (μ : Nat → Act → World → Nat)
    (pass : ∀ l a w, J l a w → (∀ l' a' w', J l' a' w' → μ l' a' w' < μ l a w → ∀ R, findLabel c l' = some (.seq .skip R) → R.wp P (Hops (fun l₂ a₂ w₂ => J l₂ a₂ w₂ ∧ μ l₂ a₂ w₂ < μ l a w) Q) a' w') →
      ∃ R, findLabel c l = some (.seq .skip R) ∧ R.wp P (Hops (fun l' a' w' => J l' a' w' ∧ μ l' a' w' < μ l a w) Q) a w)
    (first : (∀ l a w, J l a w → ∀ R, findLabel c l = some (.seq .skip R) → R.wp P (Hops J Q) a w) → c.wp P (Hops J Q) a w) : (Code.scope c).wp P Q a w := by
  have all : ∀ n l a w, μ l a w = n → J l a w → ∃ R, findLabel c l = some (.seq .skip R) ∧ R.wp P (Hops (fun l' a' w' => J l' a' w' ∧ μ l' a' w' < μ l a w) Q) a w := by
    intro n
    induction n using Nat.strongRecOn with
    | _ n ih =>
      intro l a w hn hJ
      refine pass l a w hJ fun l' a' w' hJ' hlt R hf => ?_
      obtain ⟨R', hf', hw⟩ := ih _ (by omega) l' a' w' rfl hJ'
      rw [hf] at hf'
      cases hf'
      exact wp_mono hw (hops_mono fun l₂ a₂ w₂ h => ⟨h.1, Nat.lt_trans h.2 hlt⟩)
  intro b k cs
  have key : ∀ n l a w, μ l a w = n → J l a w → ∃ rest, findLabel c l = some rest ∧ ∃ e a' w', Q e a' w' ∧ Arrives P (lone (b.at a (.code rest :: .inScope c :: k)) cs w) b k cs e a' w' := by
    intro n
    induction n using Nat.strongRecOn with
    | _ n ih =>
      intro l a w hn hJ
      obtain ⟨R, hf, hR⟩ := all _ l a w rfl hJ
      have hp : (Code.seq .skip R).wp P (Hops (fun l' a' w' => J l' a' w' ∧ μ l' a' w' < μ l a w) Q) a w := wp_seq (wp_skip hR)
      refine ⟨_, hf, ?_⟩
      obtain ⟨e, a₁, w₁, hq, harr⟩ := hp b (.inScope c :: k) cs
      cases e with
      | normal => exact ⟨.normal, a₁, w₁, hq, Steps.trans harr (.one step_inScope)⟩
      | exit id => exact ⟨.exit id, a₁, w₁, hq, fun k' hk => harr k' (by simp [exitTo, hk])⟩
      | goto l' =>
        obtain ⟨hJ', hlt⟩ := hq
        obtain ⟨rest', hf', e₂, a₂, w₂, hq₂, harr₂⟩ := ih _ (by omega) l' a₁ w₁ rfl hJ'
        exact ⟨e₂, a₂, w₂, hq₂, .of_steps (harr _ (by simp [gotoIn, hf'])) harr₂⟩
      | ret => exact ⟨_, a₁, w₁, hq, harr⟩
      | panic ch => exact ⟨_, a₁, w₁, hq, harr⟩
      | outgrown => exact ⟨_, a₁, w₁, hq, harr⟩
  have first' := first fun l a w hJ R hf => by
    obtain ⟨R', hf', hw⟩ := all _ l a w rfl hJ
    rw [hf] at hf'
    cases hf'
    exact wp_mono hw (hops_mono fun l₂ a₂ w₂ h => h.1)
  obtain ⟨e, a₁, w₁, hq, harr⟩ := first' b (.inScope c :: k) cs
  cases e with
  | normal => exact ⟨.normal, a₁, w₁, hq, .head step_scope (Steps.trans harr (.one step_inScope))⟩
  | exit id => exact ⟨.exit id, a₁, w₁, hq, fun k' hk => .head step_scope (harr k' (by simp [exitTo, hk]))⟩
  | goto l' =>
    obtain ⟨rest', hf', e₂, a₂, w₂, hq₂, harr₂⟩ := key _ l' a₁ w₁ rfl hq
    exact ⟨e₂, a₂, w₂, hq₂, .of_steps (.head step_scope (harr _ (by simp [gotoIn, hf']))) harr₂⟩
  | ret => exact ⟨_, a₁, w₁, hq, .of_steps (.one step_scope) harr⟩
  | panic ch => exact ⟨_, a₁, w₁, hq, .of_steps (.one step_scope) harr⟩
  | outgrown => exact ⟨_, a₁, w₁, hq, .of_steps (.one step_scope) harr⟩

end Go.Proofs.YtiekcenknniniaaDoor

/-! The contract of strings.Clone: the same bytes, in memory of their own. -/
namespace Go.Proofs.YtiekcenknniniaaDoor
open Go.RowKit

theorem infoByte : (Tryd.prog.info? 5).map (fun i => (i.zero, i.size, i.bytes)) = some (some (.int .u8 0), 1, 1) := by kernel_rfl


end Go.Proofs.YtiekcenknniniaaDoor

/-! The contracts of chapter 5's landed code: the pieces between marks (labels and gotos), Lines, Words, NameOk, NumberOf. -/
namespace Go.Proofs.YtiekcenknniniaaDoor
open Go.RowKit




set_option maxHeartbeats 1000000 in
set_option maxRecDepth 100000 in
theorem implNameOkS (l : List UInt8) (w : World) (hl : l.length ≤ 1048576) :
    Calls Tryd.prog 32 #[.string ⟨l.toArray⟩] w fun e w' => e = .returned (.bool (nameB l)) ∧ w' = w := by
  go_enter Tryd.func32, Tryd.ntmps32
  go_wp2
  go_loop [6] (fun ix => ∃ k : Nat, k ≤ l.length ∧ ix = .int .i64 k ∧ Hid (∀ j (hj : j < l.length), j < k → 97 ≤ l[j].toNat ∧ l[j].toNat ≤ 122)) (fun ix => l.length - (intOf ix).toNat)
  case atStart => exact ⟨0, Nat.zero_le _, rfl, (fun j _ h => by omega : ∀ j (hj : j < l.length), j < 0 → _)⟩
  case round =>
    obtain ⟨k, hk, rfl, HK⟩ := hrel
    by_cases hkl : (k : Int) < (l.length : Int)
    · have hk2 : k < l.length := by omega
      obtain ⟨x, hx⟩ : ∃ x : UInt8, l[k] = x := ⟨_, rfl⟩
      have hxb : (⟨l.toArray⟩ : ByteArray)[k]'(by show k < l.toArray.size; simpa using hk2) = x := hx
      by_cases h1 : (x.toNat : Int) < 97
      · have HF : Hid (nameB l = false) := name_bad l k hk2 (by rw [hx]; omega)
        clear hx
        go_wp2
        go_ret
        exact ⟨by rw [HF.out]; rfl, rfl⟩
      · by_cases h2 : 122 < (x.toNat : Int)
        · have HF : Hid (nameB l = false) := name_bad l k hk2 (by rw [hx]; omega)
          clear hx
          go_wp2
          go_ret
          exact ⟨by rw [HF.out]; rfl, rfl⟩
        · have HS : Hid (∀ j (hj : j < l.length), j < k + 1 → 97 ≤ l[j].toNat ∧ l[j].toNat ≤ 122) := fun j hj hjk => by
            by_cases e : j = k
            · subst e; rw [hx]; omega
            · exact HK.out j hj (by omega)
          clear hx
          go_wp2
          go_round
          case rel => exact ⟨k + 1, by omega, by go_num, HS⟩
          case measure => simp [intOf]; omega
    · have HF : Hid (nameB l = inB (l.length : Int) 1 8) := name_good l (fun j hj => HK.out j hj (by omega))
      by_cases h1 : 1 ≤ (l.length : Int)
      · by_cases h2 : (l.length : Int) ≤ 8
        · have HB : Hid (inB (l.length : Int) 1 8 = true) := inB_yes _ _ _ h1 h2
          go_wp2
          go_ret
          exact ⟨by rw [HF.out, HB.out]; rfl, rfl⟩
        · have HB : Hid (inB (l.length : Int) 1 8 = false) := inB_no _ _ _ (by omega)
          go_wp2
          go_ret
          exact ⟨by rw [HF.out, HB.out]; rfl, rfl⟩
      · have HB : Hid (inB (l.length : Int) 1 8 = false) := inB_no _ _ _ (by omega)
        go_wp2
        go_ret
        exact ⟨by rw [HF.out, HB.out]; rfl, rfl⟩

theorem implNameOk (l : List UInt8) (w : World) (hl : l.length ≤ 1048576) :
    Calls Tryd.prog 32 #[.string ⟨l.toArray⟩] w fun e w' => e = .returned (.bool (nameB l)) ∧ Below w.heap.size w w' :=
  (implNameOkS l w hl).mono fun _ _ h => ⟨h.1, by rw [h.2]; exact Below.refl _ _⟩



end Go.Proofs.YtiekcenknniniaaDoor
