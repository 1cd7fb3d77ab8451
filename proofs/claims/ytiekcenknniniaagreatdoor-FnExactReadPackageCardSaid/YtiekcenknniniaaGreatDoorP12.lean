/-
  Parts of one proof, one behind the other: FnMP, Math7T.
-/
import Derived.Test.YtiekcenknniniaaGreatDoorP11
import Derived.Test.YtiekcenknniniaaGreatDoorP10
import Derived.Test.YtiekcenknniniaaGreatDoorP6
import Derived.Test.YtiekcenknniniaaGreatDoorP9

/-! The laws' own helpers over packages: markPackage, heldPackage. -/
namespace Go.Proofs.YtiekcenknniniaaGreatDoor
open Go.RowKit

set_option maxHeartbeats 400000 in
set_option maxRecDepth 100000 in
theorem markFuncSNil (w : World) (k0 : Nat) :
    Calls Tryz.prog 65 #[.slice none 0 0, .int .i64 k0] w fun e w' => e = .returned (.int .i64 (k0 : Int)) ∧ w' = w := by
  go_enter Tryz.func65, Tryz.ntmps65
  go_wp2
  refine wp_loop_rounds 1 ?_
  rw [rounds_succ]
  go_wp2
  go_ret
  exact ⟨rfl, rfl⟩

theorem markFuncSV (w : World) (base k0 : Nat) (v : Value) (xs : List FV) (hn : xs.length ≤ 1100000) (hk0 : 0 < k0) (hk1 : fend k0 xs ≤ 30000000) (hls : ∀ x ∈ xs, x.1.2.2.length ≤ 1100000) (hap : Apart (xs.map fvT)) (h : FnsOwn w base v xs) :
    Calls Tryz.prog 65 #[v, .int .i64 k0] w fun e w' => e = .returned (.int .i64 ((fend k0 xs : Nat) : Int)) ∧ FnsOwn w' base v (fmark k0 xs) ∧ Wrote w w' (FnBlocks v xs) := by
  rcases own_forms h.row with ⟨rfl, h0, _⟩ | ⟨g, cp, rfl⟩
  · obtain rfl : xs = [] := List.eq_nil_of_length_eq_zero h0
    refine (markFuncSNil w k0).mono ?_
    rintro e w' ⟨rfl, rfl⟩
    exact ⟨rfl, FnsOwn.nil _ _, Wrote.refl _ _⟩
  · exact markFuncSC w base g cp k0 xs hn hk0 hk1 hls hap h

set_option maxHeartbeats 400000 in
set_option maxRecDepth 100000 in
theorem heldFuncSNil (w : World) (k0 : Nat) :
    Calls Tryz.prog 66 #[.slice none 0 0, .int .i64 k0] w fun e w' => e = .returned (.int .i64 (k0 : Int)) ∧ w' = w := by
  go_enter Tryz.func66, Tryz.ntmps66
  go_wp2
  refine wp_loop_rounds 1 ?_
  rw [rounds_succ]
  go_wp2
  go_ret
  exact ⟨rfl, rfl⟩

theorem heldFuncSV (w : World) (base k0 : Nat) (v : Value) (xs : List FV) (hn : xs.length ≤ 1100000) (hk0 : 0 < k0) (hk1 : fend k0 xs ≤ 30000000) (hls : ∀ x ∈ xs, x.1.2.2.length ≤ 1100000) (h : FnsOwn w base v (fmark k0 xs)) :
    Calls Tryz.prog 66 #[v, .int .i64 k0] w fun e w' => e = .returned (.int .i64 ((fend k0 xs : Nat) : Int)) ∧ w.grownBy w' none := by
  have hl := fmark_len k0 xs
  rcases own_forms h.row with ⟨rfl, h0, _⟩ | ⟨g, cp, rfl⟩
  · obtain rfl : xs = [] := List.eq_nil_of_length_eq_zero (by omega)
    refine (heldFuncSNil w k0).mono ?_
    rintro e w' ⟨rfl, rfl⟩
    exact ⟨rfl, World.grownBy.refl _ _⟩
  · rw [hl] at h ⊢
    exact heldFuncSC w base g cp k0 xs hn hk0 hk1 hls h

theorem FnsOwn.alloc {w : World} {base : Nat} {v : Value} {xs : List FV} (h : FnsOwn w base v xs) (o : Obj) : FnsOwn (w.alloc o) base v xs := ⟨h.row.alloc o, fun x hx => (h.trees x hx).alloc o⟩
theorem FnsOwn.none {w w' : World} {base : Nat} {v : Value} {xs : List FV} (h : FnsOwn w base v xs) (hg : w.grownBy w' none) : FnsOwn w' base v xs := ⟨own_none h.row hg, fun x hx => own_none (h.trees x hx) hg⟩
/-- A row of texts, and functions: the one's writing leaves the other. -/
theorem FnsOwn.texts {w w' : World} {base b2 n : Nat} {v vi : Value} {xs : List FV} {ys : List Value} (h : FnsOwn w base v xs) (hi : w.ownsRow b2 9 1 vi n ys) (hg : w.grownBy w' vi.ownBlock) : FnsOwn w' base v xs :=
  ⟨h.row.kept hg (own_types h.row hi (by decide)), fun x hx => (h.trees x hx).kept hg (own_types (h.trees x hx) hi (by decide))⟩
theorem texts_fns {w w' : World} {base b2 n : Nat} {v vi : Value} {xs : List FV} {ys : List Value} (h : FnsOwn w base v xs) (hi : w.ownsRow b2 9 1 vi n ys) (hw : Wrote w w' (FnBlocks v xs)) : w'.ownsRow b2 9 1 vi n ys := by
  refine own_wrote hi hw (fun k hk hb => ?_)
  rcases hb with e | ⟨x, hx, e⟩
  · rcases own_types hi h.row (by decide) with e2 | e2
    · rw [hk] at e2; cases e2
    · exact e2 (by rw [hk, e])
  · rcases own_types hi (h.trees x hx) (by decide) with e2 | e2
    · rw [hk] at e2; cases e2
    · exact e2 (by rw [hk, e])

def PkBlocks (vi vf : Value) (xs : List FV) (k : Nat) : Prop := vi.ownBlock = some k ∨ FnBlocks vf xs k

set_option maxHeartbeats 1000000 in
set_option maxRecDepth 100000 in
theorem markPackageC (nm : List UInt8) (w : World) (base k0 n : Nat) (vi vf : Value) (ys : List Value) (xs : List FV) (hn : n ≤ 1100000) (hf : xs.length ≤ 1100000) (hk0 : 0 < k0) (hk1 : k0 ≤ 800000) (hk2 : fend (k0 + n) xs ≤ 30000000) (hls : ∀ x ∈ xs, x.1.2.2.length ≤ 1100000) (hap : Apart (xs.map fvT))
    (hi : w.ownsRow base 9 1 vi n ys) (h : FnsOwn w base vf xs) :
    Calls Tryz.prog 29 #[.agg #[.string ⟨nm.toArray⟩, vi, vf], .int .i64 k0] w fun e w' => e = .returned (.int .i64 ((fend (k0 + n) xs : Nat) : Int)) ∧ w'.ownsRow base 9 1 vi n (marksV k0 n) ∧ FnsOwn w' base vf (fmark (k0 + n) xs) ∧ Wrote w w' (PkBlocks vi vf xs) := by
  obtain ⟨ai, ci, rfl⟩ : ∃ a c, vi = .slice a n c := by
    rcases own_forms hi with ⟨rfl, rfl, _⟩ | ⟨g, cp, rfl⟩
    · exact ⟨none, 0, rfl⟩
    · exact ⟨_, cp, rfl⟩
  obtain ⟨af, cf, rfl, _, _⟩ := h.in
  obtain ⟨W0, hW0⟩ : ∃ W0, w.alloc (.cells #[.string ⟨nm.toArray⟩, .slice ai n ci, .slice af xs.length cf] 52) = W0 := ⟨_, rfl⟩
  have hb0 : Below w.heap.size w W0 := by rw [← hW0]; exact (Below.refl _ w).alloc (Nat.le_refl _) _
  have hA := heap_alloc_new w (.cells #[.string ⟨nm.toArray⟩, .slice ai n ci, .slice af xs.length cf] 52)
  rw [hW0] at hA
  obtain ⟨D, hD⟩ : ∃ D, w.heap.size = D := ⟨_, rfl⟩
  rw [hD] at hA
  have k0c : W0.cell? ⟨D, 1, none⟩ = some (.slice ai n ci) := by simp [World.cell?, hA]
  have k1c : W0.cell? ⟨D, 2, none⟩ = some (.slice af xs.length cf) := by simp [World.cell?, hA]
  have hDi : (Value.slice ai n ci).ownBlock ≠ some D := fun e => by have := (hi.lt D e).2; omega
  have hi0 := own_below hi hb0
  have hf0 := h.below hb0
  have HC : Hid (_) := markStrV W0 base n k0 (.slice ai n ci) ys hn hk0 hk1 hi0
  have HI0 : Hid (W0.ownsRow base 9 1 (.slice ai n ci) n ys) := hi0
  have HF0 : Hid (FnsOwn W0 base (.slice af xs.length cf) xs) := hf0
  have HW0 : Hid (Wrote w W0 (PkBlocks (.slice ai n ci) (.slice af xs.length cf) xs)) := Wrote.of_below hb0
  clear hi h hi0 hf0 hb0 hA
  go_enter Tryz.func29, Tryz.ntmps29
  go_wp2_with fail
  refine Calls.mono HC.out ?_
  rintro e w1 ⟨rfl, hi1, hg1⟩
  have k1d := hg1.cell (a := ⟨D, 2, none⟩) k1c (fun e => hDi e.symm)
  have hf1 := HF0.out.texts HI0.out hg1
  have HM : Hid (_) := markFuncSV w1 base (k0 + n) _ xs hf (by omega) hk2 hls hap hf1
  have HI1 : Hid (w1.ownsRow base 9 1 (.slice ai n ci) n (marksV k0 n)) := hi1
  have HF1 : Hid (FnsOwn w1 base (.slice af xs.length cf) xs) := hf1
  have HW1 : Hid (Wrote w w1 (PkBlocks (.slice ai n ci) (.slice af xs.length cf) xs)) := HW0.out.trans (Wrote.of_grown hg1 (fun _ e => Or.inl e))
  clear HC HI0 HF0 HW0 hi1 hg1 hf1 k0c k1c hls hap
  go_wp2_with fail
  refine Calls.mono HM.out ?_
  rintro e w2 ⟨rfl, hf2, hw2⟩
  have hi2 := texts_fns HF1.out HI1.out hw2
  have hW2 := HW1.out.trans (hw2.mono (fun _ e => Or.inr e))
  clear HM
  go_wp2
  go_ret
  exact ⟨rfl, hi2, hf2, hW2⟩

set_option maxHeartbeats 1000000 in
set_option maxRecDepth 100000 in
theorem heldPackageC (nm : List UInt8) (w : World) (base k0 n : Nat) (vi vf : Value) (xs : List FV) (hn : n ≤ 1100000) (hf : xs.length ≤ 1100000) (hk0 : 0 < k0) (hk1 : k0 ≤ 800000) (hk2 : fend (k0 + n) xs ≤ 30000000) (hls : ∀ x ∈ xs, x.1.2.2.length ≤ 1100000)
    (hi : w.ownsRow base 9 1 vi n (marksV k0 n)) (h : FnsOwn w base vf (fmark (k0 + n) xs)) :
    Calls Tryz.prog 30 #[.agg #[.string ⟨nm.toArray⟩, vi, vf], .int .i64 k0] w fun e w' => e = .returned (.int .i64 ((fend (k0 + n) xs : Nat) : Int)) ∧ w.grownBy w' none := by
  obtain ⟨ai, ci, rfl⟩ : ∃ a c, vi = .slice a n c := by
    rcases own_forms hi with ⟨rfl, rfl, _⟩ | ⟨g, cp, rfl⟩
    · exact ⟨none, 0, rfl⟩
    · exact ⟨_, cp, rfl⟩
  obtain ⟨af, cf, rfl, _, _⟩ := h.in
  have hl := fmark_len (k0 + n) xs
  rw [hl] at h ⊢
  have hHC := heldStrV (w.alloc (.cells #[.string ⟨nm.toArray⟩, .slice ai n ci, .slice af xs.length cf] 52)) base n k0 (.slice ai n ci) hn hk0 hk1 (hi.alloc _)
  have HC : Hid (_) := hHC
  have HF : Hid (FnsOwn (w.alloc (.cells #[.string ⟨nm.toArray⟩, .slice ai n ci, .slice af xs.length cf] 52)) base (.slice af xs.length cf) (fmark (k0 + n) xs)) := h.alloc _
  have hg0 : w.grownBy (w.alloc (.cells #[.string ⟨nm.toArray⟩, .slice ai n ci, .slice af xs.length cf] 52)) none := World.grownBy_alloc w _ _
  have hA := heap_alloc_new w (.cells #[.string ⟨nm.toArray⟩, .slice ai n ci, .slice af xs.length cf] 52)
  obtain ⟨W0, hW0⟩ : ∃ W0, w.alloc (.cells #[.string ⟨nm.toArray⟩, .slice ai n ci, .slice af xs.length cf] 52) = W0 := ⟨_, rfl⟩
  rw [hW0] at HC HF hg0 hA
  obtain ⟨D, hD⟩ : ∃ D, w.heap.size = D := ⟨_, rfl⟩
  rw [hD] at hA
  have k0c : W0.cell? ⟨D, 1, none⟩ = some (.slice ai n ci) := by simp [World.cell?, hA]
  have k1c : W0.cell? ⟨D, 2, none⟩ = some (.slice af xs.length cf) := by simp [World.cell?, hA]
  have hge1 : ¬ ((k0 + n : Nat) : Int) < 0 := by omega
  have hge2 : ¬ ((fend (k0 + n) xs : Nat) : Int) < 0 := by omega
  clear hi h hHC hA hl
  go_enter Tryz.func30, Tryz.ntmps30
  go_wp2_with fail
  refine Calls.mono HC.out ?_
  rintro e w1 ⟨rfl, hg1⟩
  have k1d := hg1.cell (a := ⟨D, 2, none⟩) k1c (by simp)
  have HM : Hid (_) := heldFuncSV w1 base (k0 + n) _ xs hf (by omega) hk2 hls (HF.out.none hg1)
  have hG1 := hg0.trans hg1
  clear HC HF hg0 hg1 k0c k1c hls
  go_wp2_with fail
  refine Calls.mono HM.out ?_
  rintro e w2 ⟨rfl, hg2⟩
  have hG2 := hG1.trans hg2
  clear HM
  go_wp2
  go_ret
  exact ⟨rfl, hG2⟩

theorem fend_le (k : Nat) (xs : List FV) : fend k xs ≤ k + 2 * xs.length + 4 * fnsSz (xs.map (·.1)) := by
  induction xs generalizing k with
  | nil => exact Nat.le_add_right _ _
  | cons x r ih =>
    have h := ih (k + 2 + 4 * x.1.2.2.length)
    have e : fnsSz ((x :: r).map (·.1)) = fnSz x.1 + fnsSz (r.map (·.1)) := rfl
    have e2 : x.1.2.2.length ≤ fnSz x.1 := by unfold fnSz; omega
    rw [e]
    unfold fend
    rw [List.length_cons]
    omega

theorem fend_small (k : Nat) (xs : List FV) (h : ∀ x ∈ xs, x.1.2.2.length ≤ 60) : fend k xs ≤ k + 242 * xs.length := by
  induction xs generalizing k with
  | nil => exact Nat.le_add_right _ _
  | cons x r ih =>
    have h1 := ih (k + 2 + 4 * x.1.2.2.length) (fun y hy => h y (List.mem_cons_of_mem _ hy))
    have h2 := h x (List.mem_cons_self)
    unfold fend
    rw [List.length_cons]
    omega

end Go.Proofs.YtiekcenknniniaaGreatDoor

/-! Plain facts for ReadPackage: line by line, and how long its parts are. -/
namespace Go.Proofs.YtiekcenknniniaaGreatDoor
open Go.RowKit

theorem readLs_step (p : Pk) (ls : List (List UInt8)) (k : Nat) (hk : k < ls.length) : readLs p (ls.drop k) = match readLn p (ls.getD k []) with | none => none | some q => readLs q (ls.drop (k + 1)) := by
  have e : ls.getD k [] = ls[k] := by rw [List.getD_eq_getElem?_getD, List.getElem?_eq_getElem hk]; rfl
  rw [List.drop_eq_getElem_cons hk, e, readLs]
  cases readLn p ls[k] <;> rfl

theorem readLs_none {p : Pk} {ls : List (List UInt8)} {k : Nat} (hk : k < ls.length) (h : readLn p (ls.getD k []) = none) : readLs p (ls.drop k) = none := by rw [readLs_step p ls k hk, h]
theorem readLs_some {p q : Pk} {ls : List (List UInt8)} {k : Nat} (hk : k < ls.length) (h : readLn p (ls.getD k []) = some q) : readLs p (ls.drop k) = readLs q (ls.drop (k + 1)) := by rw [readLs_step p ls k hk, h]

theorem rp_no {l : List UInt8} (h : readPB l = false) : readPB l = false ∧ readPV l = pk0 := ⟨h, by unfold readPV; rw [if_neg (by rw [h]; simp)]⟩
theorem rp_long {l : List UInt8} (h : ¬ l.length ≤ 20000) : readPB l = false ∧ readPV l = pk0 := rp_no (by unfold readPB; rw [decide_eq_false h]; rfl)
theorem rp_none {l : List UInt8} (h : readLs pk0 (linesL l) = none) : readPB l = false ∧ readPV l = pk0 := rp_no (by unfold readPB; rw [h]; simp)
theorem rp_bad {l : List UInt8} {p : Pk} (h : readLs pk0 (linesL l) = some p) (hp : pkgB p = false ∨ showP p ≠ l) : readPB l = false ∧ readPV l = pk0 := rp_no (by
  unfold readPB
  rw [h]
  rcases hp with hp | hp
  · simp [hp]
  · simp [hp])
theorem rp_yes {l : List UInt8} {p : Pk} (hl : l.length ≤ 20000) (h : readLs pk0 (linesL l) = some p) (hp : pkgB p = true) (hs : showP p = l) : readPB l = true ∧ readPV l = p := by
  have : readPB l = true := by unfold readPB; rw [h]; simp [hp, hs, hl]
  exact ⟨this, by unfold readPV; rw [if_pos this, h]; rfl⟩

theorem mem_flat {x : List UInt8} : ∀ {ls : List (List UInt8)}, x ∈ ls → x.length ≤ ls.flatten.length
  | y :: r, h => by
    rw [List.flatten_cons, List.length_append]
    rcases List.mem_cons.1 h with rfl | h
    · omega
    · have := mem_flat h; omega

theorem getD_mem {α : Type} (ls : List α) (j : Nat) (d : α) (hj : j < ls.length) : ls.getD j d ∈ ls := by
  rw [List.getD_eq_getElem?_getD, List.getElem?_eq_getElem hj]; exact List.getElem_mem hj

theorem word_len (b : UInt8) (x : List UInt8) (j : Nat) : ((splitL b x).getD j []).length ≤ x.length := by
  by_cases hj : j < (splitL b x).length
  · have h1 := mem_flat (getD_mem (splitL b x) j [] hj)
    have h2 := splitGo_flat b x []
    unfold splitL at h1 ⊢
    simp at h2
    simp only [List.length_flatten] at h1
    omega
  · rw [List.getD_eq_getElem?_getD, List.getElem?_eq_none (by omega)]; simp

theorem line_len (l : List UInt8) (j : Nat) : ((linesL l).getD j []).length ≤ l.length := by
  by_cases hj : j < (linesL l).length
  · have h0 := getD_mem (linesL l) j [] hj
    have hm : (linesL l).getD j [] ∈ splitL 10 l := by
      unfold linesL at h0 ⊢
      split
      · rename_i h; rw [if_pos h] at h0; exact (List.dropLast_sublist _).subset h0
      · rename_i h; rw [if_neg h] at h0; exact h0
    have h1 := mem_flat hm
    have h2 := splitGo_flat 10 l []
    unfold splitL at h1
    simp at h2
    simp only [List.length_flatten] at h1
    omega
  · rw [List.getD_eq_getElem?_getD, List.getElem?_eq_none (by omega)]; simp

/-- A line of more than three words goes past the two blanks behind them. -/
theorem func_line {x : List UInt8} (h0 : (splitL 32 x).getD 0 [] = kwFunc) (h3 : 3 < (splitL 32 x).length) : ((splitL 32 x).getD 1 []).length + ((splitL 32 x).getD 2 []).length + 7 ≤ x.length := by
  have hj := joinBy_split 32 x []
  rw [List.nil_append] at hj
  change joinBy 32 (splitL 32 x) = x at hj
  rcases hs : splitL 32 x with _ | ⟨a, _ | ⟨b, _ | ⟨c, _ | ⟨d, r⟩⟩⟩⟩
  · rw [hs] at h3; simp at h3
  · rw [hs] at h3; simp at h3
  · rw [hs] at h3; simp at h3
  · rw [hs] at h3; simp at h3
  · rw [hs] at hj h0
    rw [joinBy_front 32 a b c (d :: r) (by simp)] at hj
    simp at h0
    have hl := congrArg List.length hj
    subst h0
    simp [kwFunc] at hl
    simp
    omega

/-- How long the parts of a package are. -/
structure ShortP (nm : List UInt8) (ims : List (List UInt8)) (fs : List Fn) : Prop where
  n : nm.length ≤ 1048576
  i : ∀ j, (ims.getD j []).length ≤ 1048576
  f : ShortF fs

theorem shortP0 : ShortP [] [] [] := ⟨by simp, fun j => by simp, fun j => by simp [fn0, ShortT, nd0]⟩

theorem ShortP.imp {nm : List UInt8} {ims : List (List UInt8)} {fs : List Fn} (h : ShortP nm ims fs) {x : List UInt8} (hx : x.length ≤ 1048576) : ShortP nm (ims ++ [x]) fs := by
  refine ⟨h.n, fun j => ?_, h.f⟩
  by_cases hj : j < ims.length
  · rw [List.getD_eq_getElem?_getD, List.getElem?_append_left hj, ← List.getD_eq_getElem?_getD]; exact h.i j
  · rw [List.getD_eq_getElem?_getD, List.getElem?_append_right (by omega)]
    cases h' : j - ims.length with
    | zero => simpa using hx
    | succ m => simp

theorem ShortP.fn {nm : List UInt8} {ims : List (List UInt8)} {fs : List Fn} (h : ShortP nm ims fs) {f : Fn} (hf : f.1.length ≤ 1048576 ∧ f.2.2.length ≤ 1048576 ∧ ShortT f.2.2) : ShortP nm ims (fs ++ [f]) := by
  refine ⟨h.n, h.i, fun j => ?_⟩
  by_cases hj : j < fs.length
  · rw [List.getD_eq_getElem?_getD, List.getElem?_append_left hj, ← List.getD_eq_getElem?_getD]; exact h.f j
  · rw [List.getD_eq_getElem?_getD, List.getElem?_append_right (by omega)]
    cases h' : j - fs.length with
    | zero => simpa using hf
    | succ m => simp [fn0, ShortT, nd0]

theorem short_nodes {t : List Nd} (h : ∀ n ∈ t, nodeB n = true) : ShortT t := fun j => by
  by_cases hj : j < t.length
  · have hn := h _ (getD_mem t j nd0 hj)
    generalize t.getD j nd0 = n at hn
    obtain ⟨k, a, p, f⟩ := n
    have hp := nodeB_iff.1 hn
    unfold nodeP at hp
    simp only at hp ⊢
    rcases hp with ⟨rfl, _, rfl, rfl⟩ | ⟨rfl, _, rfl, rfl⟩ | ⟨hk, rfl, rfl, rfl⟩ | ⟨rfl, _, hpn, hfn⟩
    · simp
    · simp
    · simp
    · have h1 := (name_letters hpn).1
      have h2 := (name_letters hfn).1
      omega
  · rw [List.getD_eq_getElem?_getD, List.getElem?_eq_none (by omega)]; simp [nd0]

theorem readTV_short (s : List UInt8) : (readTV s).length ≤ 1048576 ∧ ShortT (readTV s) := by
  unfold readTV
  split
  · rename_i h
    unfold readOk at h
    simp only [Bool.and_eq_true] at h
    have ht := h.2.1
    exact ⟨by have := (tree_end ht).1.2; omega, short_nodes (tree_nodes ht)⟩
  · exact ⟨by simp, fun j => by simp [nd0]⟩

end Go.Proofs.YtiekcenknniniaaGreatDoor
