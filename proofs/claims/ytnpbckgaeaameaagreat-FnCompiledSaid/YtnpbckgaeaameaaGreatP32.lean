/-
  Parts of one proof, one behind the other: StepW, InsM, NodeM, CompE, Codes, LawCo.
-/
import Derived.Test.YtnpbckgaeaameaaGreatP31
import Derived.Test.YtnpbckgaeaameaaGreatP17
import Derived.Test.YtnpbckgaeaameaaGreatP20
import Derived.Test.YtnpbckgaeaameaaGreatP12
import Derived.Test.YtnpbckgaeaameaaGreatP9
import Derived.Deep.RegionWith
import Derived.Test.YtnpbckgaeaameaaGreatP10
import Derived.Test.YtnpbckgaeaameaaGreatP4
import Derived.Test.YtnpbckgaeaameaaGreatP26
import Derived.Test.YtnpbckgaeaameaaGreatP16
import Derived.Deep.RegionHeld
import Derived.Deep.Cut
import Derived.RegionTactic

/-! Contracts of chapter 13's landed code: Compiled. -/
namespace Go.Proofs.YtnpbckgaeaameaaGreat
open Go.RowKit

set_option maxHeartbeats 4000000 in
set_option maxRecDepth 100000 in
theorem implCompiledYes (a : Option Addr) (cap : Nat) (ns : List Nd) (w : World) (hin : NodesIn w a ns.length ns) (hint : IntT ns) (hsh : ShortT ns) (hb : treeB ns = true) :
    Calls Tryz.prog 6 #[.slice a ns.length cap] w fun e w' => ∃ v, e = .returned v ∧ w'.ownsRow w.heap.size 30 5 v (compiledV ns).length (insV (compiledV ns)) ∧ Below w.heap.size w w' := by
  obtain ⟨h60, hone⟩ := treeB_one.1 hb
  have hcl := (compiled_law hb).2.2.1
  obtain ⟨D, hD⟩ : ∃ D : Nat, D = 60 := ⟨60, rfl⟩
  have hcv : compiledV ns = into13 D ns 0 0 0 ++ [(10, 0, 0, 0, [])] := by rw [hD]; unfold compiledV; rw [if_pos hb]
  have HT : Hid (Calls Tryz.prog 20 #[.slice a ns.length cap] w fun e w' => e = .returned (.bool true) ∧ Below w.heap.size w w') := by
    have h := implTreeOk a ns.length cap ns w hin hint hsh (by omega)
    rw [hb] at h
    exact h
  have HC : Hid (∀ Y, Below w.heap.size w Y → Calls Tryz.prog 21 #[.slice a ns.length cap] Y fun e w' => ∃ gN, e = .returned (.slice (some ⟨gN, 0, none⟩) ns.length ns.length) ∧ Nr Y w' gN ns.length 0 (nd12 ns [])) := fun Y hy => implLeast a cap ns Y (hin.below hy) hint hsh hb
  have HI : Hid (∀ (X Z : World) (g gN : Nat), Below w.heap.size w X → X.heap.size = g → Nr w X gN ns.length 0 (nd12 ns []) → Below X.heap.size X Z → Z.heap[g]? = some (.cells #[.slice a ns.length cap, .slice (some ⟨gN, 0, none⟩) ns.length ns.length, .slice none 0 0] 41 (0, 0)) → Z.heap.size = g + 1 → Wr13 X Z Z g (g + 1) (.slice a ns.length cap) (.slice (some ⟨gN, 0, none⟩) ns.length ns.length) (.slice none 0 0) (.slice none 0 0) [] ∧ Calls Tryz.prog 22 #[.pointer (some ⟨g, 0, none⟩), .int .i64 0, .int .i64 0] Z fun e w' => e = .returned (.tuple #[]) ∧ ∃ u, Wr13 X Z w' g (g + 1) (.slice a ns.length cap) (.slice (some ⟨gN, 0, none⟩) ns.length ns.length) (.slice none 0 0) u (into13 D ns 0 0 0)) := fun X Z g gN hX hg hnr hZ hblk hzs => by
    have hW : Wr13 X Z Z g (g + 1) (.slice a ns.length cap) (.slice (some ⟨gN, 0, none⟩) ns.length ns.length) (.slice none 0 0) (.slice none 0 0) [] :=
      Wr13.new (World.ownsRow_nil Z (g + 1) 30 5) hblk hZ (by omega) (by omega) (by omega)
    refine ⟨hW, ?_⟩
    have h := implInto X a cap ns gN g (g + 1) (hin.below hX) hint hsh h60 hb ⟨hnr.lt, fun q hq => hnr.rows q (Nat.zero_le _) hq⟩ D Z 0 0 (.slice none 0 0) [] hW (end_zero hone) (by omega) (by omega) (by omega) (by rw [hD]; simp)
    exact h
  rw [hcv] at hcl ⊢
  obtain ⟨xs, hxs⟩ : ∃ xs, into13 D ns 0 0 0 = xs := ⟨_, rfl⟩
  rw [hxs] at HI hcl ⊢
  have hnl : xs.length ≤ 120 := by rw [List.length_append] at hcl; simp at hcl; omega
  obtain ⟨n, hn⟩ : ∃ n, ns.length = n := ⟨_, rfl⟩
  rw [hn] at HT HC HI ⊢
  clear hin hint hsh hb h60 hone hcl hcv hxs hn hD
  go_enter Tryz.func6, Tryz.ntmps6
  go_wp2_with fail
  refine Calls.mono HT.out ?_
  rintro e w1 ⟨rfl, hb1⟩
  go_wp2_with fail
  refine Calls.mono (HC.out _ hb1) ?_
  rintro e w2 ⟨gN, rfl, hnr⟩
  have hb2 : Below w.heap.size w w2 := hb1.trans (hnr.b.mono hb1.size)
  have hnr2 : Nr w w2 gN n 0 (nd12 ns []) := ⟨hnr.rows, hnr.ok, hnr.lt, Nat.le_trans hb1.size hnr.h0, hb2⟩
  have hA := heap_alloc_new w2 (.cells #[.slice a n cap, .slice (some ⟨gN, 0, none⟩) n n, .slice none 0 0] 41)
  have hbZ : Below w2.heap.size w2 (w2.alloc (.cells #[.slice a n cap, .slice (some ⟨gN, 0, none⟩) n n, .slice none 0 0] 41)) := (Below.refl _ _).alloc (Nat.le_refl _) _
  have hzs : (w2.alloc (.cells #[.slice a n cap, .slice (some ⟨gN, 0, none⟩) n n, .slice none 0 0] 41)).heap.size = w2.heap.size + 1 := by simp
  obtain ⟨-, hcall⟩ := HI.out w2 _ w2.heap.size gN hb2 rfl hnr2 hbZ hA hzs
  have HIn : Hid (_) := hcall
  have HB2 : Hid (Below w.heap.size w w2) := hb2
  clear hcall hA hbZ hzs hnr hnr2 hb1 hb2 HI HC HT
  go_wp2_with fail
  refine Calls.mono HIn.out ?_
  rintro e W4 ⟨rfl, u, hw4⟩
  have HW4 : Hid (_) := hw4
  have HWr : Hid (_) := implWrite w2 W4 w2.heap.size (w2.heap.size + 1) _ _ u xs (10, 0, 0, 0, []) hw4.here (by omega)
  unfold insVal at HWr
  dsimp only at HWr
  clear hw4 HIn
  go_wp2_with fail
  refine Calls.mono HWr.out ?_
  rintro e W5 ⟨rfl, u2, hw5⟩
  obtain ⟨a5, c5, hv5⟩ := hw5.val
  have hl5 : (xs ++ [((10, 0, 0, 0, []) : In13)]).length = xs.length + 1 := by simp
  rw [hl5] at hv5
  subst hv5
  have hc5 := hw5.c2
  have HF : Hid (W5.ownsRow w.heap.size 30 5 (.slice a5 (xs.length + 1) c5) (xs ++ [((10, 0, 0, 0, []) : In13)]).length (insV (xs ++ [((10, 0, 0, 0, []) : In13)])) ∧ Below w.heap.size w W5) := ⟨own_base hw5.row (Nat.le_trans HB2.out.size (Nat.le_succ _)), HB2.out.trans (hw5.bB.mono HB2.out.size)⟩
  obtain ⟨m, hm⟩ : ∃ m, xs.length + 1 = m := ⟨_, rfl⟩
  rw [hm] at hc5 HF
  have HBe : Hid (_) := implBehind w2.heap.size m a5 c5 W5 hc5 (by omega)
  have hm2 : ¬ ((m : Int) > 200) := by omega
  have hm3 : (m : Int) ≤ 200 := by omega
  clear hw5 HWr hl5 HW4 hm
  go_wp2_with fail
  refine Calls.mono HBe.out ?_
  rintro e W6 ⟨rfl, rfl⟩
  go_wp2
  go_ret
  exact ⟨_, rfl, HF.out.1, HF.out.2⟩
set_option maxHeartbeats 1000000 in
set_option maxRecDepth 100000 in
theorem implCompiled (a : Option Addr) (len cap : Nat) (ns : List Nd) (w : World) (hin : NodesIn w a len ns) (hint : IntT ns) (hsh : ShortT ns) (hlen : len ≤ 1048576) (_hc : len ≤ cap) (_hm : cap ≤ maxLen) :
    Calls Tryz.prog 6 #[.slice a len cap] w fun e w' => ∃ v, e = .returned v ∧ w'.ownsRow w.heap.size 30 5 v (compiledV ns).length (insV (compiledV ns)) ∧ Below w.heap.size w w' := by
  obtain rfl : ns.length = len := hin.1
  rcases hb : treeB ns with _ | _
  · have HT : Hid (_) := implTreeOk a ns.length cap ns w hin hint hsh hlen
    rw [hb] at HT
    have HF : Hid (compiledV ns = []) := by exact (by unfold compiledV; rw [if_neg (by rw [hb]; simp)] : compiledV ns = [])
    clear hin hb
    go_enter Tryz.func6, Tryz.ntmps6
    go_wp2_with fail
    refine Calls.mono HT.out ?_
    rintro e w1 ⟨rfl, hb1⟩
    have hb2 : Below w.heap.size w (w1.alloc (.cells #[] 30)) := hb1.alloc hb1.size _
    have hP : (w1.alloc (.cells #[] 30)).ownsRow w.heap.size 30 5 (.slice (some ⟨w1.heap.size, 0, none⟩) 0 0) 0 [] := World.ownsRow_lit w1 #[] 0 hb1.size (by decide) rfl
    have HP : Hid (_) := And.intro hP hb2
    clear hb1 hb2 hP
    go_wp2
    go_ret
    exact ⟨_, rfl, by rw [HF.out]; exact HP.out.1, HP.out.2⟩
  · exact implCompiledYes a cap ns w hin hint hsh hb

end Go.Proofs.YtnpbckgaeaameaaGreat

/-! The laws' own helpers over rows of instructions: markInsS, heldInsS. -/
namespace Go.Proofs.YtnpbckgaeaameaaGreat
open Go.RowKit

/-- The marks of m instructions, from k on. -/
def marksC (k : Nat) : Nat → List In13
  | 0 => []
  | m + 1 => marksC k m ++ [(((k + 5 * m : Nat) : Int), ((k + 5 * m + 1 : Nat) : Int), ((k + 5 * m + 1 + 1 : Nat) : Int), ((k + 5 * m + 1 + 1 + 1 : Nat) : Int), markL (k + 5 * m + 1 + 1 + 1 + 1))]
theorem marksC_len (k m : Nat) : (marksC k m).length = m := by
  induction m with
  | zero => rfl
  | succ m ih => simp [marksC, ih]
theorem marksC_at (k m j : Nat) (h : j < m) : (marksC k m).getD j in0 = (((k + 5 * j : Nat) : Int), ((k + 5 * j + 1 : Nat) : Int), ((k + 5 * j + 1 + 1 : Nat) : Int), ((k + 5 * j + 1 + 1 + 1 : Nat) : Int), markL (k + 5 * j + 1 + 1 + 1 + 1)) := by
  induction m with
  | zero => omega
  | succ m ih =>
    unfold marksC
    by_cases hj : j < m
    · rw [← ih hj]
      simp [List.getD, List.getElem?_append, marksC_len, hj]
    · obtain rfl : j = m := by omega
      simp [List.getD, marksC_len]
theorem marksC_set (k i : Nat) (ns : List In13) (h : i < ns.length) : (marksC k i ++ ns.drop i).set i (((k + 5 * i : Nat) : Int), ((k + 5 * i + 1 : Nat) : Int), ((k + 5 * i + 1 + 1 : Nat) : Int), ((k + 5 * i + 1 + 1 + 1 : Nat) : Int), markL (k + 5 * i + 1 + 1 + 1 + 1)) = marksC k (i + 1) ++ ns.drop (i + 1) := by
  rw [List.set_append_right _ _ (by rw [marksC_len]; omega), marksC_len, Nat.sub_self, List.drop_eq_getElem_cons h, List.set_cons_zero]
  conv => rhs; unfold marksC
  rw [List.append_assoc]; rfl



end Go.Proofs.YtnpbckgaeaameaaGreat

/-! The laws' own helpers over rows of nodes: markNodeS, heldNodeS, likeTree. -/
namespace Go.Proofs.YtnpbckgaeaameaaGreat
open Go.RowKit

/-- The marks of m nodes, from k on. -/
def marksN (k : Nat) : Nat → List Nd
  | 0 => []
  | m + 1 => marksN k m ++ [(((k + 4 * m : Nat) : Int), ((k + 4 * m + 1 : Nat) : Int), markL (k + 4 * m + 1 + 1), markL (k + 4 * m + 1 + 1 + 1))]

theorem marksN_len (k m : Nat) : (marksN k m).length = m := by
  induction m with
  | zero => rfl
  | succ m ih => simp [marksN, ih]

theorem marksN_at (k m j : Nat) (h : j < m) : (marksN k m).getD j nd0 = (((k + 4 * j : Nat) : Int), ((k + 4 * j + 1 : Nat) : Int), markL (k + 4 * j + 1 + 1), markL (k + 4 * j + 1 + 1 + 1)) := by
  induction m with
  | zero => omega
  | succ m ih =>
    unfold marksN
    by_cases hj : j < m
    · rw [← ih hj]
      simp [List.getD, List.getElem?_append, marksN_len, hj]
    · obtain rfl : j = m := by omega
      simp [List.getD, marksN_len]

theorem marksN_set (k i : Nat) (ns : List Nd) (h : i < ns.length) : (marksN k i ++ ns.drop i).set i (((k + 4 * i : Nat) : Int), ((k + 4 * i + 1 : Nat) : Int), markL (k + 4 * i + 1 + 1), markL (k + 4 * i + 1 + 1 + 1)) = marksN k (i + 1) ++ ns.drop (i + 1) := by
  rw [List.set_append_right _ _ (by rw [marksN_len]; omega), marksN_len, Nat.sub_self, List.drop_eq_getElem_cons h, List.set_cons_zero]
  conv => rhs; unfold marksN
  rw [List.append_assoc]; rfl



end Go.Proofs.YtnpbckgaeaameaaGreat

/-! Rows of instructions that are alike; what is compiled is short. -/
namespace Go.Proofs.YtnpbckgaeaameaaGreat
open Go.RowKit

theorem compiled_len (ns : List Nd) : (compiledV ns).length ≤ 121 := by
  rcases h : treeB ns with _ | _
  · unfold compiledV; rw [if_neg (by rw [h]; simp)]; simp
  · exact (compiled_law h).2.2.1

end Go.Proofs.YtnpbckgaeaameaaGreat

/-! A code that came in, as the laws' walks take it. -/
namespace Go.Proofs.YtnpbckgaeaameaaGreat
open Go.RowKit

theorem code_nil (w : World) : Code w w.heap.size none 0 := fun j hj => by omega

theorem code_of (w : World) (x : Addr) (len : Nat) (zs : List Int) (h : ∀ i, i < zs.length → w.cell? (x.add i) = some (.int .u8 (zs.getD i 0))) (hl : len ≤ zs.length) (hw : ∀ n ∈ zs, (Lit.int .u8 n).wf = true) : Code w w.heap.size (some x) len := by
  intro j hj
  obtain ⟨b, off, spot⟩ := x
  have hc := h j (by omega)
  have hspot : spot = none := by simpa [Addr.add] using World.cell?_spot (h 0 (by omega))
  subst hspot
  have e : (⟨b, off, none⟩ : Addr).add j = ⟨b, off + j, none⟩ := by unfold Addr.add; split <;> simp_all
  rw [e] at hc
  have hb := bounds_u8 (hw (zs.getD j 0) (by rw [List.getD_eq_getElem?_getD, List.getElem?_eq_getElem (by omega)]; exact List.getElem_mem _))
  exact ⟨b, off, _, rfl, World.block_lt_of_cell? w ⟨b, off + j, none⟩ hc, hc, hb⟩

theorem Code.later {w w' : World} {a : Option Addr} {len : Nat} (h : Code w w.heap.size a len) (hb : Below w.heap.size w w') : Code w' w'.heap.size a len := by
  intro j hj
  obtain ⟨b, off, x, e1, e2, e3, e0⟩ := h j hj
  exact ⟨b, off, x, e1, Nat.lt_of_lt_of_le e2 hb.size, (hb.cell (p := ⟨b, off + j, none⟩) e2).trans e3, e0⟩

theorem Code.kept {w w' : World} {a : Option Addr} {len : Nat} (h : Code w w.heap.size a len) (hg : w.grownBy w' none) : Code w' w'.heap.size a len :=
  h.later ⟨hg.os, hg.tape, hg.output, hg.size, fun k hk => hg.block k hk (by simp)⟩

set_option maxHeartbeats 400000 in
set_option maxRecDepth 100000 in
theorem bigB (w : World) (a : Option Addr) (len cap : Nat) :
    Calls Tryz.prog 4 #[.slice a len cap] w fun e w' => e = .returned (.bool (decide (4096 < (len : Int)))) ∧ w' = w := by
  go_enter Tryz.func4, Tryz.ntmps4
  go_wp2
  go_ret
  exact ⟨rfl, rfl⟩

theorem code_some {w : World} {B : Nat} {a : Option Addr} {len : Nat} (h : Code w B a len) (hz : len ≠ 0) : ∃ b off, a = some ⟨b, off, none⟩ ∧ ∀ j, j < len → ∃ x : Int, w.cell? ⟨b, off + j, none⟩ = some (.int .u8 x) ∧ 0 ≤ x ∧ x ≤ 255 := by
  obtain ⟨b, off, x, rfl, _, _⟩ := h 0 (by omega)
  refine ⟨b, off, rfl, fun j hj => ?_⟩
  obtain ⟨b', off', x', e1, _, e3, e4⟩ := h j hj
  injection e1 with e1
  injection e1 with e5 e6
  subst e5 e6
  exact ⟨x', e3, e4⟩


end Go.Proofs.YtnpbckgaeaameaaGreat

/-! The law FnCompiled: compiled code is right, takes just so many registers as its tree needs, and ends once. -/
namespace Go.Proofs.YtnpbckgaeaameaaGreat
open Go.RowKit

theorem AllI.short {xs : List In13} (h : AllI xs) : ShortI xs := fun j => by
  rw [List.getD_eq_getElem?_getD]
  rcases Nat.lt_or_ge j xs.length with hj | hj
  · rw [List.getElem?_eq_getElem hj]
    have := (h _ (List.getElem_mem hj)).2.2.2.2
    simp only [Option.getD_some]
    omega
  · rw [List.getElem?_eq_none hj]; decide
theorem SmI.int {i : In13} (h : SmI i) : IntI i := by
  obtain ⟨h1, h2, h3, h4, _⟩ := h
  unfold IntI
  omega
theorem AllI.int {xs : List In13} (h : AllI xs) : IntIs xs := fun j => by
  rw [List.getD_eq_getElem?_getD]
  rcases Nat.lt_or_ge j xs.length with hj | hj
  · rw [List.getElem?_eq_getElem hj]
    exact (h _ (List.getElem_mem hj)).int
  · rw [List.getElem?_eq_none hj]; exact intI_in0
theorem compiled_nil {t : List Nd} (h : (compiledV t).length = 0) : treeB t = false := by
  rcases hb : treeB t with _ | _
  · rfl
  · have := (compiled_law hb).2.2.2.1
    omega
theorem compiled_yes {t : List Nd} (h : (compiledV t).length ≠ 0) : treeB t = true := by
  rcases hb : treeB t with _ | _
  · exact absurd (by unfold compiledV; rw [if_neg (by rw [hb]; simp)]; rfl) h
  · rfl
theorem compiled_small {t : List Nd} (hs : SmallT t) : AllI (compiledV t) := by
  rcases hb : treeB t with _ | _
  · unfold compiledV; rw [if_neg (by rw [hb]; simp)]; exact fun i hi => by simp at hi
  · exact compiled_all hb hs
/-- What FnCompiled asks of code that was drawn: right just where it takes a register or is nothing but jumps. -/
theorem codes_law (c : List In13) : (codeB c = true ∧ 0 < regsV c) ∨ (codeB c = true ∧ regsV c = 0 ∧ allJ c = true) ∨ (codeB c = false ∧ regsV c = 0) := by
  rcases hc : codeB c with _ | _
  · exact Or.inr (Or.inr ⟨rfl, by unfold regsV; rw [if_neg (by rw [hc]; simp)]⟩)
  · rcases regs_pos hc with h | h
    · exact Or.inl ⟨rfl, h⟩
    · exact Or.inr (Or.inl ⟨rfl, regs_jumps h, by unfold allJ; rw [List.all_eq_true]; intro i hi; rw [h i hi]; rfl⟩)
theorem count_snoc (c : List In13) (j : Nat) (hj : j < c.length) : (c.take (j + 1)).countP (fun i => i.1 == 10) = (c.take j).countP (fun i => i.1 == 10) + if (c.getD j in0).1 = 10 then 1 else 0 := by
  have hg : c.getD j in0 = c[j] := by simp [List.getD, hj]
  rw [List.take_succ_eq_append_getElem hj, List.countP_append, hg]
  by_cases h : c[j].1 = 10
  · simp [h]
  · simp [h]
theorem count_le (c : List In13) (j : Nat) : (c.take j).countP (fun i => i.1 == 10) ≤ j := Nat.le_trans List.countP_le_length (List.length_take_le _ _)

set_option maxHeartbeats 20000000 in
set_option maxRecDepth 100000 in
theorem lawCompiled (w : World) (a : Option Addr) (len cap : Nat) (hcode : Code w w.heap.size a len) :
    Calls Tryz.prog 3 #[.slice a len cap] w fun e w' => e = .returned (.bool true) ∧ Below w.heap.size w w' := by
  by_cases hbig : 4096 < (len : Int)
  · have hd : decide (4096 < (len : Int)) = true := decide_eq_true hbig
    go_enter Tryz.func3, Tryz.ntmps3
    go_wp2_with (go_at_call 4; refine (bigB _ _ _ _).mono ?_; rintro e w' ⟨rfl, rfl⟩)
    go_ret
    exact ⟨rfl, Below.refl _ _⟩
  · have hd : decide (4096 < (len : Int)) = false := decide_eq_false hbig
    have hl : len ≤ 4096 := by omega
    go_enter Tryz.func3, Tryz.ntmps3
    go_wp2_with fail
    refine (bigB _ _ _ _).mono ?_
    rintro e w1 ⟨rfl, hw1⟩
    obtain rfl := hw1.symm
    go_wp2_with fail
    refine (drawCompiled _ _ _ _ hl hcode).mono ?_
    rintro e w2 ⟨v, ns, rfl, ⟨hown, hn62, hsm, _⟩, hB2⟩
    obtain ⟨_, ta, tc, rfl, hin⟩ := own_nodes hown
    have hcap := own_capT hown
    have hcm := own_capM hown
    go_wp2_with fail
    refine Calls.mono (implCompiled ta ns.length tc ns w2 hin hsm.int hsm.short (by omega) hcap hcm) ?_
    rintro e w3 ⟨xv, rfl, hx3, hb3⟩
    obtain ⟨_, xa, xc, rfl, hxin⟩ := own_ins hx3
    have hxcap := own_capT hx3
    have hxcm := own_capM hx3
    have hB3 := hB2.trans (hb3.mono hB2.size)
    have hin3 := hin.below hb3
    go_wp2_with fail
    refine (drawRegisters _ _ _ _ hl (hcode.later hB3)).mono ?_
    rintro e w4 ⟨cv, cs, rfl, ⟨hcrow, hc300, hcsm⟩, hb4⟩
    obtain ⟨_, ca, cc, rfl, hcin⟩ := own_ins hcrow
    have hccap := own_capT hcrow
    have hccm := own_capM hcrow
    have hB4 := hB3.trans (hb4.mono hB3.size)
    have hin4 := hin3.below hb4
    have hxin4 := hxin.below hb4
    go_wp2_with fail
    refine (drawInsOk _ _ _ _ hl (hcode.later hB4)).mono ?_
    rintro e w5 ⟨⟨k, r, aa, b, s⟩, rfl, hism, hb5⟩
    have hB5 := hB4.trans (hb5.mono hB4.size)
    have hin5 := hin4.below hb5
    have hxin5 := hxin4.below hb5
    have hcin5 := hcin.below hb5
    obtain ⟨n, hn⟩ : ∃ n, ns.length = n := ⟨_, rfl⟩
    obtain ⟨m, hm⟩ : ∃ m, (compiledV ns).length = m := ⟨_, rfl⟩
    obtain ⟨q, hq⟩ : ∃ q, cs.length = q := ⟨_, rfl⟩
    have hm121 : m ≤ 121 := by rw [← hm]; exact compiled_len ns
    rw [hn] at hin5 hcap hn62 ⊢
    rw [hm] at hxin5 hxcap ⊢
    rw [hq] at hcin5 hccap hc300 ⊢
    clear hown hin hB2 hx3 hb3 hxin hB3 hin3 hcrow hcin hb4 hB4 hin4 hxin4 hb5
    go_wp2_with (guard_target = wpList _ _ _ _ _ _; first | (refine list_alloc_ins rfl rfl 6 rfl (fun W6 D hN6 hB6 hG6 => ?_)) | (refine list_store_ins rfl _ _ rfl _ k r aa b s rfl rfl hN6 (fun W hN7 hg7 _ _ _ => ?_)))
    have hbW : Below w5.heap.size w5 W := hB6.grown hg7 hB6.size (fun q e => by injection e with e; omega)
    have hBW := hB5.trans (hbW.mono hB5.size)
    have hinW := hin5.below hbW
    have hxinW := hxin5.below hbW
    have hcinW := hcin5.below hbW
    have hDl := hN7.lt
    have HBox : Hid (∀ Z, Below W.heap.size W Z → Bi Z D k r aa b s) := fun Z h => hN7.keep (h.block D hDl)
    have HTc : Hid (∀ Z, Below W.heap.size W Z → Calls Tryz.prog 10 #[.slice ta n tc] Z fun e w' => ∃ v, e = .returned v ∧ w'.ownsRow Z.heap.size 30 5 v m (insV (compiledV ns)) ∧ Below Z.heap.size Z w') := fun Z h => by
      have := specCompiled ta n tc ns Z (hinW.below h) hsm.short (by omega)
      rw [hm] at this
      exact this
    have HLk : Hid (∀ Z (v : Value) (bs : Nat), Below W.heap.size W Z → Z.ownsRow bs 30 5 v m (insV (compiledV ns)) → Calls Tryz.prog 9 #[.slice xa m xc, v] Z fun e w' => e = .returned (.bool true) ∧ Below Z.heap.size Z w') := fun Z v bs h hv => by
      obtain ⟨_, va, vc, rfl, hvi⟩ := own_ins hv
      exact likeCodeC xa va m xc vc (compiledV ns) Z (hxinW.below h) hvi (by omega)
    have HIr : Hid (∀ Z, Below W.heap.size W Z → Calls Tryz.prog 11 #[.slice ca q cc] Z fun e w' => e = .returned (.int .i64 (regsV cs)) ∧ Below Z.heap.size Z w') := fun Z h => implRegisters ca q cc cs Z (hcinW.below h) hcsm.int hcsm.short (by omega) hccap hccm
    have HSr : Hid (∀ Z, Below W.heap.size W Z → Calls Tryz.prog 12 #[.slice ca q cc] Z fun e w' => e = .returned (.int .i64 (regsV cs)) ∧ Below Z.heap.size Z w') := fun Z h => specRegisters ca q cc cs Z (hcinW.below h) hcsm.short (by omega)
    have HIc : Hid (∀ Z, Below W.heap.size W Z → Calls Tryz.prog 13 #[.slice ca q cc] Z fun e w' => e = .returned (.bool (codeB cs)) ∧ Below Z.heap.size Z w') := fun Z h => implCodeOk ca q cc cs Z (hcinW.below h) hcsm.int hcsm.short (by omega) hccap hccm
    have HSc : Hid (∀ Z, Below W.heap.size W Z → Calls Tryz.prog 14 #[.slice ca q cc] Z fun e w' => e = .returned (.bool (codeB cs)) ∧ Below Z.heap.size Z w') := fun Z h => specCodeOk ca q cc cs Z (hcinW.below h) hcsm.short (by omega)
    have HIi : Hid (∀ Z, Calls Tryz.prog 15 #[insVal (k, r, aa, b, s)] Z fun e w' => e = .returned (.bool (insB (k, r, aa, b, s))) ∧ Below Z.heap.size Z w') := fun Z => implInsOk (k, r, aa, b, s) Z hism.int (by have := hism.2.2.2.2; simp only at this ⊢; omega)
    have HSi : Hid (∀ Z, Calls Tryz.prog 16 #[insVal (k, r, aa, b, s)] Z fun e w' => e = .returned (.bool (insB (k, r, aa, b, s))) ∧ Below Z.heap.size Z w') := fun Z => specInsOk (k, r, aa, b, s) Z (by have := hism.2.2.2.2; simp only at this ⊢; omega)
    have HJo : Hid (∀ Z, Below W.heap.size W Z → Calls Tryz.prog 17 #[.slice ca q cc] Z fun e w' => e = .returned (.bool (allJ cs && codeB cs)) ∧ Below Z.heap.size Z w') := fun Z h => jumpsOnlyC ca q cc cs Z (hcinW.below h) hcsm.short (by omega)
    have HXc : Hid (∀ Z, Below W.heap.size W Z → Calls Tryz.prog 13 #[.slice xa m xc] Z fun e w' => e = .returned (.bool (codeB (compiledV ns))) ∧ Below Z.heap.size Z w') := fun Z h => implCodeOk xa m xc (compiledV ns) Z (hxinW.below h) (compiled_small hsm).int (compiled_small hsm).short (by omega) hxcap hxcm
    have HXr : Hid (∀ Z, Below W.heap.size W Z → Calls Tryz.prog 11 #[.slice xa m xc] Z fun e w' => e = .returned (.int .i64 (regsV (compiledV ns))) ∧ Below Z.heap.size Z w') := fun Z h => implRegisters xa m xc (compiledV ns) Z (hxinW.below h) (compiled_small hsm).int (compiled_small hsm).short (by omega) hxcap hxcm
    have HNd : Hid (∀ Z, Below W.heap.size W Z → Calls Tryz.prog 18 #[.slice ta n tc] Z fun e w' => e = .returned (.int .i64 (needT ns)) ∧ Below Z.heap.size Z w') := fun Z h => specNeedT ta n tc ns Z (hinW.below h) hsm.short (by omega)
    have HXi : Hid (∀ Z, Below W.heap.size W Z → InsIn Z xa m (compiledV ns)) := fun Z h => hxinW.below h
    have HBW : Hid (Below w.heap.size w W) := hBW
    have HCl : Hid (_) := codes_law cs
    have HYe : Hid (m ≠ 0 → codeB (compiledV ns) = true ∧ regsV (compiledV ns) = needT ns ∧ (compiledV ns).countP (fun i => i.1 == 10) = 1) := fun h => by
      have hb := compiled_yes (t := ns) (by rw [hm]; exact h)
      have hl := compiled_law hb
      exact ⟨hl.1, hl.2.1, hl.2.2.2.2⟩
    have HCm : Hid ((compiledV ns).length = m) := hm
    generalize compiledV ns = xs at *
    generalize needT ns = nd at *
    generalize insB (k, r, aa, b, s) = ib at *
    clear hism hB5 hin5 hxin5 hcin5 hN6 hB6 hG6 hN7 hg7 hbW hBW hinW hxinW hcinW hDl hsm hcap hcm hxcap hxcm hccap hccm hcsm hn62 hn hm hq hcode
    have hne : ∀ z : Int, (z != z) = false := by simp
    have hnb : ∀ z : Bool, (z != z) = false := by simp
    refine wp_region_held_drew (S := fun Z => Below W.heap.size W Z) (by kernel_rfl) ⟨rfl, rfl, rfl, Nat.le_refl _, fun _ _ => rfl⟩ (fun hHeld => ?_)
    refine wpAnyH_take (i := 0) (oi := ⟨some 19, _, _, _, _, _⟩) (v := ?v0) rfl (by kernel_rfl) (by kernel_rfl) (by kernel_rfl) (fun _ _ _ h => h) (Or.inl ⟨by rfl, ?hy0⟩) (by assumption) ?rest0
    case hy0 => (intro wq hSw; clear hSw; first | (go_simp; done) | (go_simp; with_reducible rfl))
    simp only [Act.put, List.setIfInBounds_toArray, List.set_cons_zero, List.set_cons_succ]
    refine wpAnyH_take (i := 1) (oi := ⟨some 20, _, _, _, _, _⟩) (v := ?v1) rfl (by kernel_rfl) (by kernel_rfl) (by kernel_rfl) (fun _ _ _ h => h) (Or.inl ⟨by rfl, ?hy1⟩) (by assumption) ?rest1
    case hy1 => (intro wq hSw; clear hSw; first | (go_simp; done) | (go_simp; with_reducible rfl))
    simp only [Act.put, List.setIfInBounds_toArray, List.set_cons_zero, List.set_cons_succ]
    refine wpAnyH_ready (rs := [2]) (by kernel_rfl) (by simp) ?_
    refine AllReadyH.cons rfl (fun K hK => ?_) AllReadyH.nil
    go_simp
    refine Calls.mono (HTc.out _ hHeld) ?_
    rintro e Z2 ⟨v2, rfl, hv2, hb⟩
    dsimp only
    refine hK.out _ _ (by exact hHeld.trans (hb.mono hHeld.size)) (fun hHeld => ?_)
    clear hK K
    (try simp only [Act.put, List.setIfInBounds_toArray, List.set_cons_zero, List.set_cons_succ])
    refine wpAnyH_ready (rs := [3]) (by kernel_rfl) (by simp) ?_
    refine AllReadyH.cons rfl (fun K hK => ?_) AllReadyH.nil
    go_simp
    refine Calls.mono (HLk.out _ v2 _ hHeld hv2) ?_
    rintro e Z3 ⟨rfl, hb⟩
    dsimp only
    refine hK.out _ _ (by exact hHeld.trans (hb.mono hHeld.size)) (fun hHeld => ?_)
    clear hK K
    (try simp only [Act.put, List.setIfInBounds_toArray, List.set_cons_zero, List.set_cons_succ])
    refine wpAnyH_take (i := 4) (oi := ⟨some 23, _, _, _, _, _⟩) (v := ?v4) rfl (by kernel_rfl) (by kernel_rfl) (by kernel_rfl) (fun _ _ _ h => h) (Or.inl ⟨by rfl, ?hy4⟩) (by assumption) ?rest4
    case hy4 => (intro wq hSw; clear hSw; first | (go_simp; done) | (go_simp; with_reducible rfl))
    simp only [Act.put, List.setIfInBounds_toArray, List.set_cons_zero, List.set_cons_succ]
    refine wpAnyH_take (i := 5) (oi := ⟨some 24, _, _, _, _, _⟩) (v := ?v5) rfl (by kernel_rfl) (by kernel_rfl) (by kernel_rfl) (fun _ _ _ h => h) (Or.inl ⟨by rfl, ?hy5⟩) (by assumption) ?rest5
    case hy5 => (intro wq hSw; clear hSw; first | (go_simp; done) | (go_simp; with_reducible rfl))
    simp only [Act.put, List.setIfInBounds_toArray, List.set_cons_zero, List.set_cons_succ]
    refine wpAnyH_take (i := 6) (oi := ⟨some 25, _, _, _, _, _⟩) (v := ?v6) rfl (by kernel_rfl) (by kernel_rfl) (by kernel_rfl) (fun _ _ _ h => h) (Or.inl ⟨by rfl, ?hy6⟩) (by assumption) ?rest6
    case hy6 => (intro wq hSw; clear hSw; first | (go_simp; done) | (go_simp; with_reducible rfl))
    simp only [Act.put, List.setIfInBounds_toArray, List.set_cons_zero, List.set_cons_succ]
    refine wpAnyH_take (i := 8) (oi := ⟨some 27, _, _, _, _, _⟩) (v := ?v8) rfl (by kernel_rfl) (by kernel_rfl) (by kernel_rfl) (fun _ _ _ h => h) (Or.inl ⟨by rfl, ?hy8⟩) (by assumption) ?rest8
    case hy8 => (intro wq hSw; clear hSw; first | (go_simp; done) | (go_simp; with_reducible rfl))
    simp only [Act.put, List.setIfInBounds_toArray, List.set_cons_zero, List.set_cons_succ]
    refine wpAnyH_ready (rs := [7]) (by kernel_rfl) (by simp) ?_
    refine AllReadyH.cons rfl (fun K hK => ?_) AllReadyH.nil
    go_simp
    refine Calls.mono (HIr.out _ hHeld) ?_
    rintro e Z7 ⟨rfl, hb⟩
    dsimp only
    refine hK.out _ _ (by exact hHeld.trans (hb.mono hHeld.size)) (fun hHeld => ?_)
    clear hK K
    (try simp only [Act.put, List.setIfInBounds_toArray, List.set_cons_zero, List.set_cons_succ])
    refine wpAnyH_ready (rs := [9]) (by kernel_rfl) (by simp) ?_
    refine AllReadyH.cons rfl (fun K hK => ?_) AllReadyH.nil
    go_simp
    refine Calls.mono (HSr.out _ hHeld) ?_
    rintro e Z9 ⟨rfl, hb⟩
    dsimp only
    refine hK.out _ _ (by exact hHeld.trans (hb.mono hHeld.size)) (fun hHeld => ?_)
    clear hK K
    (try simp only [Act.put, List.setIfInBounds_toArray, List.set_cons_zero, List.set_cons_succ])
    refine wpAnyH_take (i := 10) (oi := ⟨some 29, _, _, _, _, _⟩) (v := ?v10) rfl (by kernel_rfl) (by kernel_rfl) (by kernel_rfl) (fun _ _ _ h => h) (Or.inl ⟨by rfl, ?hy10⟩) (by assumption) ?rest10
    case hy10 => (intro wq hSw; clear hSw; first | (go_simp; done) | (go_simp; with_reducible rfl))
    simp only [Act.put, List.setIfInBounds_toArray, List.set_cons_zero, List.set_cons_succ]
    refine wpAnyH_take (i := 11) (oi := ⟨some 30, _, _, _, _, _⟩) (v := ?v11) rfl (by kernel_rfl) (by kernel_rfl) (by kernel_rfl) (fun _ _ _ h => h) (Or.inl ⟨by rfl, ?hy11⟩) (by assumption) ?rest11
    case hy11 => (intro wq hSw; clear hSw; first | (go_simp; done) | (go_simp; with_reducible rfl))
    simp only [Act.put, List.setIfInBounds_toArray, List.set_cons_zero, List.set_cons_succ]
    refine wpAnyH_take (i := 12) (oi := ⟨some 31, _, _, _, _, _⟩) (v := ?v12) rfl (by kernel_rfl) (by kernel_rfl) (by kernel_rfl) (fun _ _ _ h => h) (Or.inl ⟨by rfl, ?hy12⟩) (by assumption) ?rest12
    case hy12 => (intro wq hSw; clear hSw; first | (go_simp; done) | (go_simp; with_reducible rfl))
    simp only [Act.put, List.setIfInBounds_toArray, List.set_cons_zero, List.set_cons_succ]
    refine wpAnyH_take (i := 13) (oi := ⟨some 32, _, _, _, _, _⟩) (v := ?v13) rfl (by kernel_rfl) (by kernel_rfl) (by kernel_rfl) (fun _ _ _ h => h) (Or.inl ⟨by rfl, ?hy13⟩) (by assumption) ?rest13
    case hy13 => (intro wq hSw; clear hSw; first | (go_simp; done) | (go_simp; with_reducible rfl))
    simp only [Act.put, List.setIfInBounds_toArray, List.set_cons_zero, List.set_cons_succ]
    refine wpAnyH_take (i := 15) (oi := ⟨some 34, _, _, _, _, _⟩) (v := ?v15) rfl (by kernel_rfl) (by kernel_rfl) (by kernel_rfl) (fun _ _ _ h => h) (Or.inl ⟨by rfl, ?hy15⟩) (by assumption) ?rest15
    case hy15 => (intro wq hSw; clear hSw; first | (go_simp; done) | (go_simp; with_reducible rfl))
    simp only [Act.put, List.setIfInBounds_toArray, List.set_cons_zero, List.set_cons_succ]
    refine wpAnyH_ready (rs := [14]) (by kernel_rfl) (by simp) ?_
    refine AllReadyH.cons rfl (fun K hK => ?_) AllReadyH.nil
    go_simp
    refine Calls.mono (HIc.out _ hHeld) ?_
    rintro e Z14 ⟨rfl, hb⟩
    dsimp only
    refine hK.out _ _ (by exact hHeld.trans (hb.mono hHeld.size)) (fun hHeld => ?_)
    clear hK K
    (try simp only [Act.put, List.setIfInBounds_toArray, List.set_cons_zero, List.set_cons_succ])
    refine wpAnyH_ready (rs := [16]) (by kernel_rfl) (by simp) ?_
    refine AllReadyH.cons rfl (fun K hK => ?_) AllReadyH.nil
    go_simp
    refine Calls.mono (HSc.out _ hHeld) ?_
    rintro e Z16 ⟨rfl, hb⟩
    dsimp only
    refine hK.out _ _ (by exact hHeld.trans (hb.mono hHeld.size)) (fun hHeld => ?_)
    clear hK K
    (try simp only [Act.put, List.setIfInBounds_toArray, List.set_cons_zero, List.set_cons_succ])
    refine wpAnyH_take (i := 17) (oi := ⟨some 36, _, _, _, _, _⟩) (v := ?v17) rfl (by kernel_rfl) (by kernel_rfl) (by kernel_rfl) (fun _ _ _ h => h) (Or.inl ⟨by rfl, ?hy17⟩) (by assumption) ?rest17
    case hy17 => (intro wq hSw; clear hSw; first | (go_simp; done) | (go_simp; with_reducible rfl))
    simp only [Act.put, List.setIfInBounds_toArray, List.set_cons_zero, List.set_cons_succ]
    refine wpAnyH_take (i := 18) (oi := ⟨some 37, _, _, _, _, _⟩) (v := ?v18) rfl (by kernel_rfl) (by kernel_rfl) (by kernel_rfl) (fun _ _ _ h => h) (Or.inl ⟨by rfl, ?hy18⟩) (by assumption) ?rest18
    case hy18 => (intro wq hSw; clear hSw; first | (go_simp; done) | (go_simp; with_reducible rfl))
    simp only [Act.put, List.setIfInBounds_toArray, List.set_cons_zero, List.set_cons_succ]
    refine wpAnyH_take (i := 19) (oi := ⟨some 38, _, _, _, _, _⟩) (v := ?v19) rfl (by kernel_rfl) (by kernel_rfl) (by kernel_rfl) (fun _ _ _ h => h) (Or.inl ⟨by rfl, ?hy19⟩) (by assumption) ?rest19
    case hy19 => (intro wq hSw; clear hSw; first | (go_simp; done) | (go_simp; with_reducible rfl))
    simp only [Act.put, List.setIfInBounds_toArray, List.set_cons_zero, List.set_cons_succ]
    refine wpAnyH_take (i := 20) (oi := ⟨some 39, _, _, _, _, _⟩) (v := insVal (k, r, aa, b, s)) rfl (by kernel_rfl) (by kernel_rfl) (by kernel_rfl) (fun _ _ _ h => h) (by exact yieldsIf_load_mid (by rfl) _ _ rfl D 0 rfl (insL k r aa b s) _ (fun Z h => (HBox.out Z h).range) Tryz.underlying30 rfl sizeIns) (by assumption) ?_
    simp only [Act.put, List.setIfInBounds_toArray, List.set_cons_zero, List.set_cons_succ]
    refine wpAnyH_take (i := 22) (oi := ⟨some 41, _, _, _, _, _⟩) (v := insVal (k, r, aa, b, s)) rfl (by kernel_rfl) (by kernel_rfl) (by kernel_rfl) (fun _ _ _ h => h) (by exact yieldsIf_load_mid (by rfl) _ _ rfl D 0 rfl (insL k r aa b s) _ (fun Z h => (HBox.out Z h).range) Tryz.underlying30 rfl sizeIns) (by assumption) ?_
    simp only [Act.put, List.setIfInBounds_toArray, List.set_cons_zero, List.set_cons_succ]
    refine wpAnyH_ready (rs := [21]) (by kernel_rfl) (by simp) ?_
    refine AllReadyH.cons rfl (fun K hK => ?_) AllReadyH.nil
    go_simp
    refine Calls.mono (HIi.out _) ?_
    rintro e Z21 ⟨rfl, hb⟩
    dsimp only
    refine hK.out _ _ (by exact hHeld.trans (hb.mono hHeld.size)) (fun hHeld => ?_)
    clear hK K
    (try simp only [Act.put, List.setIfInBounds_toArray, List.set_cons_zero, List.set_cons_succ])
    refine wpAnyH_ready (rs := [23]) (by kernel_rfl) (by simp) ?_
    refine AllReadyH.cons rfl (fun K hK => ?_) AllReadyH.nil
    go_simp
    refine Calls.mono (HSi.out _) ?_
    rintro e Z23 ⟨rfl, hb⟩
    dsimp only
    refine hK.out _ _ (by exact hHeld.trans (hb.mono hHeld.size)) (fun hHeld => ?_)
    clear hK K
    (try simp only [Act.put, List.setIfInBounds_toArray, List.set_cons_zero, List.set_cons_succ])
    refine wpAnyH_take (i := 24) (oi := ⟨some 43, _, _, _, _, _⟩) (v := ?v24) rfl (by kernel_rfl) (by kernel_rfl) (by kernel_rfl) (fun _ _ _ h => h) (Or.inl ⟨by rfl, ?hy24⟩) (by assumption) ?rest24
    case hy24 => (intro wq hSw; clear hSw; first | (go_simp; done) | (go_simp; with_reducible rfl))
    simp only [Act.put, List.setIfInBounds_toArray, List.set_cons_zero, List.set_cons_succ]
    refine wpAnyH_take (i := 25) (oi := ⟨some 44, _, _, _, _, _⟩) (v := ?v25) rfl (by kernel_rfl) (by kernel_rfl) (by kernel_rfl) (fun _ _ _ h => h) (Or.inl ⟨by rfl, ?hy25⟩) (by assumption) ?rest25
    case hy25 => (intro wq hSw; clear hSw; first | (go_simp; done) | (go_simp; with_reducible rfl))
    simp only [Act.put, List.setIfInBounds_toArray, List.set_cons_zero, List.set_cons_succ]
    refine wpAnyH_done (by kernel_rfl) ?_ _
    have HB7 : Hid (Below W.heap.size W Z23) := hHeld
    clear hHeld
    go_upto_region 9 with fail
    go_cut [54] from 45 (fun cv wx => cv = .bool false ∧ Hid (Below W.heap.size W wx))
    case first =>
      clear HXc HXr HNd HXi HYe HTc HLk HSr HSc HIi HSi HBox
      rcases HCl.out with ⟨e1, e2⟩ | ⟨e1, e2, e3⟩ | ⟨e1, e2⟩
      · rw [e1] at HIc
        generalize regsV cs = z at *
        clear e1 HCl HJo
        go_wp2_with fail
        refine Calls.mono (HIc.out _ HB7.out) ?_
        rintro e Y1 ⟨rfl, hy1⟩
        have HY1 : Hid (Below W.heap.size W Y1) := HB7.out.trans (hy1.mono HB7.out.size)
        clear hy1
        go_wp2_with fail
        refine Calls.mono (HIr.out _ HY1.out) ?_
        rintro e Y2 ⟨rfl, hy2⟩
        have HY2 : Hid (Below W.heap.size W Y2) := HY1.out.trans (hy2.mono HY1.out.size)
        clear hy2
        go_wp2_with fail
        go_meet
        case rel => exact ⟨rfl, HY2⟩
      · rw [e1] at HIc
        rw [e2] at HIr
        rw [e1, e3] at HJo
        clear e1 e2 e3 HCl
        go_wp2_with fail
        refine Calls.mono (HIc.out _ HB7.out) ?_
        rintro e Y1 ⟨rfl, hy1⟩
        have HY1 : Hid (Below W.heap.size W Y1) := HB7.out.trans (hy1.mono HB7.out.size)
        clear hy1
        go_wp2_with fail
        refine Calls.mono (HIr.out _ HY1.out) ?_
        rintro e Y2 ⟨rfl, hy2⟩
        have HY2 : Hid (Below W.heap.size W Y2) := HY1.out.trans (hy2.mono HY1.out.size)
        clear hy2
        go_wp2_with fail
        refine Calls.mono (HJo.out _ HY2.out) ?_
        rintro e Y3 ⟨rfl, hy3⟩
        have HY3 : Hid (Below W.heap.size W Y3) := HY2.out.trans (hy3.mono HY2.out.size)
        clear hy3
        go_wp2_with fail
        go_meet
        case rel => exact ⟨rfl, HY3⟩
      · rw [e1] at HIc
        rw [e2] at HIr
        rw [e1, Bool.and_false] at HJo
        clear e1 e2 HCl
        go_wp2_with fail
        refine Calls.mono (HIc.out _ HB7.out) ?_
        rintro e Y1 ⟨rfl, hy1⟩
        have HY1 : Hid (Below W.heap.size W Y1) := HB7.out.trans (hy1.mono HB7.out.size)
        clear hy1
        go_wp2_with fail
        refine Calls.mono (HIr.out _ HY1.out) ?_
        rintro e Y2 ⟨rfl, hy2⟩
        have HY2 : Hid (Below W.heap.size W Y2) := HY1.out.trans (hy2.mono HY1.out.size)
        clear hy2
        go_wp2_with fail
        refine Calls.mono (HJo.out _ HY2.out) ?_
        rintro e Y3 ⟨rfl, hy3⟩
        have HY3 : Hid (Below W.heap.size W Y3) := HY2.out.trans (hy3.mono HY2.out.size)
        clear hy3
        go_wp2_with fail
        go_meet
        case rel => exact ⟨rfl, HY3⟩
    case rest =>
    obtain ⟨rfl, HB8⟩ := hcut
    clear HB7 HIr HSr HIc HSc HIi HSi HJo HCl HLk HBox
    by_cases hm0 : m = 0
    · subst hm0
      go_wp2_with fail
      refine Calls.mono (HTc.out _ HB8.out) ?_
      rintro e Y1 ⟨v1, rfl, hv1, hy1⟩
      obtain ⟨va, vc, rfl⟩ := own_any12 hv1
      have HF : Hid (Below w.heap.size w Y1) := HBW.out.trans ((HB8.out.trans (hy1.mono HB8.out.size)).mono HBW.out.size)
      clear hv1 hy1
      go_wp2
      go_ret
      exact ⟨rfl, HF.out⟩
    · obtain ⟨y1, y2, y3⟩ := HYe.out hm0
      rw [y1] at HXc
      rw [y2] at HXr
      have HCt : Hid (xs.countP (fun i => i.1 == 10) = 1) := y3
      have hmi : ¬ ((m : Int) = 0) := by omega
      have hmb : ((m : Int) == 0) = false := beq_eq_false_iff_ne.2 hmi
      have hndd : (nd == nd) = true := by simp
      clear y1 y2 y3 HYe HTc
      go_wp2
      go_loop [7, 8] (fun ev iv => ∃ j : Nat, iv = .int .i64 (j : Int) ∧ j ≤ m ∧ ev = .int .i64 (((xs.take j).countP (fun i => i.1 == 10) : Nat) : Int)) (fun _ iv => m - (intOf iv).toNat)
      case atStart => exact ⟨0, rfl, Nat.zero_le _, rfl⟩
      case round =>
        obtain ⟨j, rfl, hj, rfl⟩ := hrel
        have hcl := count_le xs j
        by_cases hlt : (j : Int) < (m : Int)
        · obtain ⟨xb, xo, rfl, _, c0, _, _, _, _⟩ := (HXi.out _ HB8.out).2 j (by omega)
          have hsn := count_snoc xs j (by rw [HCm.out]; omega)
          obtain ⟨z, hz⟩ : ∃ z, (xs.getD j in0).1 = z := ⟨_, rfl⟩
          rw [hz] at c0 hsn
          obtain ⟨u, hu⟩ : ∃ u, (xs.take j).countP (fun i => i.1 == 10) = u := ⟨_, rfl⟩
          rw [hu] at hsn hcl ⊢
          by_cases h10 : z = 10
          · have HS : Hid ((xs.take (j + 1)).countP (fun i => i.1 == 10) = u + 1) := by exact (by rw [hsn, if_pos h10] : (xs.take (j + 1)).countP (fun i => i.1 == 10) = u + 1)
            subst h10
            clear hsn hu hz
            go_wp2
            go_round
            case rel => exact ⟨j + 1, by go_num, by omega, by rw [HS.out]; go_num⟩
            case measure => simp [intOf]; omega
          · have HS : Hid ((xs.take (j + 1)).countP (fun i => i.1 == 10) = u) := by exact (by rw [hsn, if_neg h10, Nat.add_zero] : (xs.take (j + 1)).countP (fun i => i.1 == 10) = u)
            have hzb : (z == 10) = false := beq_eq_false_iff_ne.2 h10
            clear hsn hu hz
            go_wp2
            go_round
            case rel => exact ⟨j + 1, by go_num, by omega, by rw [HS.out]⟩
            case measure => simp [intOf]; omega
        · have HE : Hid ((xs.take j).countP (fun i => i.1 == 10) = 1) := by
            exact (by rw [List.take_of_length_le (by rw [HCm.out]; omega)]; exact HCt.out : (xs.take j).countP (fun i => i.1 == 10) = 1)
          rw [HE.out]
          go_wp2_with fail
          refine Calls.mono (HXc.out _ HB8.out) ?_
          rintro e Y1 ⟨rfl, hy1⟩
          have HY1 : Hid (Below W.heap.size W Y1) := HB8.out.trans (hy1.mono HB8.out.size)
          clear hy1
          go_wp2_with fail
          refine Calls.mono (HXr.out _ HY1.out) ?_
          rintro e Y2 ⟨rfl, hy2⟩
          have HY2 : Hid (Below W.heap.size W Y2) := HY1.out.trans (hy2.mono HY1.out.size)
          clear hy2
          go_wp2_with fail
          refine Calls.mono (HNd.out _ HY2.out) ?_
          rintro e Y3 ⟨rfl, hy3⟩
          have HY3 : Hid (Below w.heap.size w Y3) := HBW.out.trans ((HY2.out.trans (hy3.mono HY2.out.size)).mono HBW.out.size)
          clear hy3
          go_wp2
          go_ret
          exact ⟨rfl, HY3.out⟩

end Go.Proofs.YtnpbckgaeaameaaGreat
