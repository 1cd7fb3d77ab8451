/-
  Parts of one proof, one behind the other: StepB, RegT.
-/
import Derived.Test.YtiekcenknniniaaGreatDoorP21
import Derived.Laws.EntriesVeiled
import Derived.Test.YtiekcenknniniaaGreatDoorP1
import Derived.Deep.RegionHeld
import Derived.RegionTactic

/-! Contracts of chapter 13's landed code: the table of steps. -/
namespace Go.Proofs.YtiekcenknniniaaGreatDoor
open Go.RowKit

def fv (f : Nat) : Value := .func (.func f) #[] #[]
/-- What a kind's step is. -/
def st13 (k : Nat) : List Value :=
  if k = 1 then [fv 197, fv 198, fv 199]
  else if k = 2 then [fv 197, fv 198, fv 200]
  else if k = 3 ∨ k = 4 ∨ k = 5 ∨ k = 6 then [fv 194, fv 195, fv 196]
  else if k = 7 then [fv 197, fv 198, fv 201]
  else if k = 8 then [fv 202, fv 203, fv 201]
  else if k = 9 then [fv 204, fv 205, fv 206]
  else if k = 10 then [fv 207, fv 198, fv 196]
  else [.nilFunc, .nilFunc, .nilFunc]
def tbL : List Value := (List.range 11).flatMap st13
def tb : Array Value := tbL.toArray
def tz : Array Value := (List.replicate 33 Value.nilFunc).toArray
theorem tbL_len : tbL.length = 33 := by decide +kernel
theorem tbL_one : ∀ v ∈ tbL, v.oneCell' = true := by
  intro v hv
  have h : tbL.all (fun v => v.oneCell') = true := by kernel_rfl
  exact List.all_eq_true.1 h v hv

/-- A row of cells lies in block b from o on, and may be written. -/
structure Rb (X : World) (b o : Nat) (vs : List Value) : Prop where
  cs : X.rangeAt b o vs
  ok : X.there b o vs.length
  lt : b < X.heap.size
section
variable {X Y : World} {b o : Nat} {vs : List Value}
theorem Rb.keep (h : Rb X b o vs) (hb : Y.heap[b]? = X.heap[b]?) (hs : X.heap.size ≤ Y.heap.size) : Rb Y b o vs :=
  ⟨fun j v hv => (World.cell?_of_block (a := ⟨b, o + j, none⟩) hb).trans (h.cs j v hv), fun j hj => by rw [World.cell?_of_block (a := ⟨b, o + j, none⟩) hb, World.frozen?_of_block (a := ⟨b, o + j, none⟩) hb]; exact h.ok j hj, Nat.lt_of_lt_of_le h.lt hs⟩
theorem Rb.below (h : Rb X b o vs) (hb : Below X.heap.size X Y) : Rb Y b o vs := h.keep (hb.block b h.lt) hb.size
theorem Rb.kept {row : Option Nat} (h : Rb X b o vs) (hg : X.grownBy Y row) (hne : some b ≠ row) : Rb Y b o vs := h.keep (hg.block b h.lt hne) hg.size
theorem Rb.cell (h : Rb X b o vs) (j : Nat) (v : Value) (hv : vs[j]? = some v) : X.cell? ⟨b, o + j, none⟩ = some v := h.cs j v hv
theorem Rb.new (w : World) (vs : Array Value) (t : TypeId) : Rb (w.alloc (.cells vs t)) w.heap.size 0 vs.toList := by
  have hA := heap_alloc_new w (.cells vs t)
  refine ⟨fun j v hv => ?_, fun j hj => ?_, by simp⟩
  · rw [cell_of_row _ _ _ _ _ _ hA, Nat.zero_add]
    simpa using hv
  · rw [cell_of_row _ _ _ _ _ _ hA, frozen_of_row _ _ _ _ _ hA, Nat.zero_add]
    refine ⟨?_, rfl⟩
    have : j < vs.size := by simpa using hj
    simp [this]
theorem Rb.store (h : X.there b o vs.length) (hl : b < X.heap.size) : Rb (X.setCells b o vs) b o vs :=
  ⟨World.rangeAt_setCells_same X b o vs h, World.there_setCells h b o _, by have := (grown_setNv b vs o X).size; omega⟩
end

section
variable {ops : Array Oper} {rest : List Oper} {op : Oper} {a : Act} {w : World} {Q : Exit → Act → World → Prop} {K : Act → World → Prop}
theorem run_zero85 (w : World) : (zeroValue 213).run Tryz.prog w = .ok (.agg tz) w := Tryz.zeroValue213 w
theorem size85 : (Tryz.prog.info? 213).map (·.size) = some 33 := by kernel_rfl
theorem wp_alloc_tb (ho : op.op = .alloc 213) (h : ∀ Y g, Rb Y g 0 tz.toList → Below w.heap.size w Y → w.heap.size ≤ g → K (a.put op.dst (.pointer (some ⟨g, 0, none⟩))) Y) : op.wp Tryz.prog a w K Q := by
  unfold Oper.wp execOp
  simp only [ho, Instr.alloc, Sem.run_bind, run_zero85, Result.andThen_ok, newVar, newRow, run_newObj_alloc, Sem.run_pure, Value.cells]
  exact h _ _ (Rb.new w tz _) ((Below.refl _ _).alloc (Nat.le_refl _) _) (Nat.le_refl _)
theorem list_alloc_tb (hgd : op.guard = none) (ho : op.op = .alloc 213) (d : Nat) (hd : op.dst = some d) (h : ∀ Y g, Rb Y g 0 tz.toList → Below w.heap.size w Y → w.heap.size ≤ g → wpList Tryz.prog ops Q rest (a.put (some d) (.pointer (some ⟨g, 0, none⟩))) Y) : wpList Tryz.prog ops Q (op :: rest) a w :=
  wpList_plain hgd fun _ hK => wp_alloc_tb ho (fun Y g h1 h2 h3 => by rw [hd]; exact hK _ _ (h Y g h1 h2 h3))
theorem tz_len : tz.toList.length = 33 := by simp [tz]
theorem wp_store_tb (x y : Operand) (ho : op.op = .store 213 x y) (b : Nat) (hx : a.eval x = .pointer (some ⟨b, 0, none⟩)) (hy : a.eval y = .agg tb) (ht : Rb w b 0 tz.toList)
    (h : ∀ Y, Rb Y b 0 tbL → w.grownBy Y (some b) → K (a.put op.dst undef) Y) : op.wp Tryz.prog a w K Q := by
  have hth : w.there b 0 33 := by have := ht.ok; rw [tz_len] at this; exact this
  have hsz : tb.size = 33 := tbL_len
  refine wp_store_mid _ x y ho b 0 tb hx hy (by rw [hsz]; exact hth) (by rw [hsz]; exact size85) (all_oneCell_toArray tbL_one) ?_
  exact h _ (Rb.store (vs := tbL) (by rw [tbL_len]; exact hth) ht.lt) (grown_setNv b _ 0 w)
theorem list_store_tb (hgd : op.guard = none) (x y : Operand) (ho : op.op = .store 213 x y) (b : Nat) (hx : a.eval x = .pointer (some ⟨b, 0, none⟩)) (hy : a.eval y = .agg tb) (ht : Rb w b 0 tz.toList)
    (h : ∀ Y, Rb Y b 0 tbL → w.grownBy Y (some b) → wpList Tryz.prog ops Q rest (a.put op.dst undef) Y) : wpList Tryz.prog ops Q (op :: rest) a w :=
  wpList_plain hgd fun _ hK => wp_store_tb x y ho b hx hy ht (fun Y h1 h2 => hK _ _ (h Y h1 h2))
theorem results_tb {fn : Func} {p : Tmp} (h : fn.results = #[.cell p 213]) (tmps : Array Value) (w : World) (b : Nat) (hp : tmps.getD p undef = .pointer (some ⟨b, 0, none⟩)) (hc : w.rangeAt b 0 tbL) : (results fn tmps).run Tryz.prog w = .ok (.agg tb) w := by
  have hp' : tmps[p]?.getD undef = .pointer (some ⟨b, 0, none⟩) := by simpa using hp
  have hl := run_loadVar_mid (P := Tryz.prog) w b 0 213 tbL _ hc Tryz.underlying213 rfl (by rw [tbL_len]; exact size85)
  simp [results, h, hp', asAddr, hl, tb]
theorem built_tb : Tryz.prog.built 213 [(1, .agg (st13 1).toArray), (2, .agg (st13 2).toArray), (3, .agg (st13 3).toArray), (4, .agg (st13 4).toArray), (5, .agg (st13 5).toArray), (6, .agg (st13 6).toArray), (7, .agg (st13 7).toArray), (8, .agg (st13 8).toArray), (9, .agg (st13 9).toArray), (10, .agg (st13 10).toArray)] = some tb := by kernel_rfl
end
/-! The steps of the table. -/
theorem index_tb1 (W : World) : (Instr.index 213 (.agg tb) (.int .i64 1)).run Tryz.prog W = .ok (.agg #[fv 197, fv 198, fv 199]) W := by kernel_rfl
theorem index_tb2 (W : World) : (Instr.index 213 (.agg tb) (.int .i64 2)).run Tryz.prog W = .ok (.agg #[fv 197, fv 198, fv 200]) W := by kernel_rfl
theorem index_tb3 (W : World) : (Instr.index 213 (.agg tb) (.int .i64 3)).run Tryz.prog W = .ok (.agg #[fv 194, fv 195, fv 196]) W := by kernel_rfl
theorem index_tb4 (W : World) : (Instr.index 213 (.agg tb) (.int .i64 4)).run Tryz.prog W = .ok (.agg #[fv 194, fv 195, fv 196]) W := by kernel_rfl
theorem index_tb5 (W : World) : (Instr.index 213 (.agg tb) (.int .i64 5)).run Tryz.prog W = .ok (.agg #[fv 194, fv 195, fv 196]) W := by kernel_rfl
theorem index_tb6 (W : World) : (Instr.index 213 (.agg tb) (.int .i64 6)).run Tryz.prog W = .ok (.agg #[fv 194, fv 195, fv 196]) W := by kernel_rfl
theorem index_tb7 (W : World) : (Instr.index 213 (.agg tb) (.int .i64 7)).run Tryz.prog W = .ok (.agg #[fv 197, fv 198, fv 201]) W := by kernel_rfl
theorem index_tb8 (W : World) : (Instr.index 213 (.agg tb) (.int .i64 8)).run Tryz.prog W = .ok (.agg #[fv 202, fv 203, fv 201]) W := by kernel_rfl
theorem index_tb9 (W : World) : (Instr.index 213 (.agg tb) (.int .i64 9)).run Tryz.prog W = .ok (.agg #[fv 204, fv 205, fv 206]) W := by kernel_rfl
theorem index_tb10 (W : World) : (Instr.index 213 (.agg tb) (.int .i64 10)).run Tryz.prog W = .ok (.agg #[fv 207, fv 198, fv 196]) W := by kernel_rfl

set_option maxHeartbeats 4000000 in
set_option maxRecDepth 100000 in
theorem implSteps (w : World) : Calls Tryz.prog 182 #[] w fun e w' => e = .returned (.agg tb) ∧ Below w.heap.size w w' := by
  go_enter Tryz.func182, Tryz.ntmps182
  go_wp2_with (guard_target = wpList _ _ _ _ _ _; first | (refine list_alloc_tb rfl rfl 0 rfl (fun Y1 g1 hN1 hB1 hG1 => ?_)) | (refine wpList_buildTo rfl _ _ (op := ⟨some 13, _, _, _, _, _⟩) rfl _ rfl tb (by exact built_tb) ?_) | (refine list_store_tb rfl _ _ rfl g1 rfl rfl ?_ (fun Y2 hN2 hG2 => ?_)))
  · exact hN1.below ((Below.refl _ _).alloc (Nat.le_refl _) _)
  · have hb2 : Below w.heap.size w (Y1.alloc (.cells #[fv 194, fv 195, fv 196] 212)) := hB1.alloc hB1.size _
    refine bodyPost_ret (v := .agg tb) (results_tb Tryz.results182 _ _ g1 rfl hN2.cs) rfl ⟨rfl, ?_⟩
    exact hb2.grown hG2 hb2.size (fun q e => by injection e with e; omega)

end Go.Proofs.YtiekcenknniniaaGreatDoor

/-! A region that draws its order and stores, at its end, into a cell that it has read: what is held of the world is asked for behind every operation but those of E, which wait for all that is taken first. -/
namespace Go.Proofs.YtiekcenknniniaaGreatDoor
open Go.RowKit

section
variable {P : Program} {ops : Array Oper} {Q : Exit → Act → World → Prop} {md : Region.Mode} {S : World → Prop} {E : List Nat}

/-- Whatever comes up next, and so on to the end; S holds behind each that is not of E. -/
def Till (P : Program) (md : Region.Mode) (ops : Array Oper) (Q : Exit → Act → World → Prop) (E : List Nat) (S : World → Prop) : Nat → Array Bool → Act → World → Prop
  | 0 => fun listed a w => Region.ready md ops listed = [] ∧ Q .normal a w
  | k + 1 => fun listed a w => (Region.ready md ops listed = [] → Q .normal a w) ∧
      ∀ i, i ∈ Region.ready md ops listed → wpOp P ops Q i (fun b v => (i ∉ E → S v) ∧ Till P md ops Q E S k (listed.setIfInBounds i true) b v) a w

theorem Till.any : ∀ (k : Nat) {listed : Array Bool} {a : Act} {w : World}, Till P md ops Q E S k listed a w → wpAny P md ops Q k listed a w
  | 0, _, _, _, h => h
  | k + 1, _, _, _, h => ⟨h.1, fun i hi => wpOp_mono (fun _ _ x => Till.any k x.2) (h.2 i hi)⟩
theorem Till.done {listed : Array Bool} {a : Act} {w : World} (hr : Region.ready md ops listed = []) (h : Q .normal a w) : ∀ k, Till P md ops Q E S k listed a w
  | 0 => ⟨hr, h⟩
  | _ + 1 => ⟨fun _ => h, fun i hi => by rw [hr] at hi; cases hi⟩

/-- What has come up has come behind all that it waits for. -/
def Shut11 (md : Region.Mode) (ops : Array Oper) (listed : Array Bool) : Prop := ∀ j o, ops[j]? = some o → listed.getD j false = true → ∀ e ∈ o.after, Region.binds md e = true → listed.getD e.on false = true
theorem Shut11.start (n : Nat) : Shut11 md ops (Array.replicate n false) := fun j o _ h => by
  rw [Array.getD_eq_getD_getElem?] at h
  simp only [Array.getElem?_replicate] at h
  split at h <;> cases h
theorem Shut11.set {listed : Array Bool} {i : Nat} (h : Shut11 md ops listed) (hi : i ∈ Region.ready md ops listed) : Shut11 md ops (listed.setIfInBounds i true) := fun j o ho hj e he hb => by
  refine getD_set_true ?_
  rcases Nat.decEq i j with hne | heq
  · rw [getD_set_ne false hne] at hj
    exact h j o ho hj e he hb
  · subst heq
    obtain ⟨_, p, hp, hall⟩ := mem_ready.1 hi
    rw [ho] at hp
    injection hp with hp
    subst hp
    exact hall e he hb
/-- m waits for i, by way of others. -/
def waitsB (md : Region.Mode) (ops : Array Oper) : Nat → Nat → Nat → Bool
  | 0, _, _ => false
  | k + 1, m, i => match ops[m]? with
    | some o => o.after.any (fun e => Region.binds md e && (e.on == i || waitsB md ops k e.on i))
    | none => false
theorem waits_listed {listed : Array Bool} (h : Shut11 md ops listed) {i : Nat} : ∀ (k m : Nat), (∀ o, ops[m]? = some o → ∀ e ∈ o.after, Region.binds md e = true → listed.getD e.on false = true) → waitsB md ops k m i = true → listed.getD i false = true
  | 0, _, _, hw => by cases hw
  | k + 1, m, hd, hw => by
    unfold waitsB at hw
    cases ho : ops[m]? with
    | none => rw [ho] at hw; cases hw
    | some o =>
      rw [ho] at hw
      simp only [Array.any_eq_true'] at hw
      obtain ⟨e, he, h2⟩ := hw
      rw [Bool.and_eq_true, Bool.or_eq_true] at h2
      have hl := hd o ho e he h2.1
      rcases h2.2 with h3 | h3
      · rw [← beq_iff_eq.1 h3]; exact hl
      · exact waits_listed h k e.on (fun p hp f hf hb => h e.on p hp hl f hf hb) h3

/-- One that may come up, and for which all of E wait, is taken first. -/
theorem Till.first {i : Nat} {o : Oper} {v : Value} {d : Nat} (ho : ops[i]? = some o) (hE : E.all (fun m => waitsB md ops d m i) = true) (hsel : ∀ (j : Nat) (p : Oper) cs b, ops[j]? = some p → p.op ≠ .select cs b)
    (hQ : ∀ c a w, Q (.panic c) (a.put o.dst v) w → Q (.panic c) a w) : ∀ (k : Nat) (listed : Array Bool) (a : Act) (w : World), Shut11 md ops listed →
      (∀ j p, ops[j]? = some p → j ≠ i → listed.getD j true = false → (∀ e ∈ p.after, Region.binds md e = true → e.on ≠ i) → o.apart ops p = true) →
      i ∈ Region.ready md ops listed → YieldsIf P ops S o v a → S w →
      Till P md ops Q E S k (listed.setIfInBounds i true) (a.put o.dst v) w → Till P md ops Q E S (k + 1) listed a w := by
  intro k
  induction k with
  | zero =>
    intro listed a w hsh hfree hr hy hS H
    refine ⟨fun h => (by rw [h] at hr; cases hr), fun j hj => ?_⟩
    rcases Nat.decEq j i with hne | heq
    · have hji : j ∈ Region.ready md ops (listed.setIfInBounds i true) := ready_mono hj hne
      rw [H.1] at hji
      cases hji
    · subst heq
      exact hy.wpOp ho hS ⟨fun _ => hS, H⟩
  | succ k ih =>
    intro listed a w hsh hfree hr hy hS H
    refine ⟨fun h => (by rw [h] at hr; cases hr), fun j hj => ?_⟩
    rcases Nat.decEq j i with hne | heq
    · have hji : j ∈ Region.ready md ops (listed.setIfInBounds i true) := ready_mono hj hne
      obtain ⟨hun, p, hp, hall⟩ := mem_ready.1 hj
      have h0 : listed.getD i true = false := (mem_ready.1 hr).1
      have h0f : listed.getD i false = false := by
        rcases Nat.lt_or_ge i listed.size with hl | hl
        · simp [hl] at h0 ⊢; exact h0
        · simp [Array.getElem?_eq_none hl] at h0
      have hnot : ∀ e ∈ p.after, Region.binds md e = true → e.on ≠ i := fun e he hb hei => by
        have h1 := hall e he hb
        rw [hei, h0f] at h1
        cases h1
      have hjE : j ∉ E := fun hjE => by
        have h1 := waits_listed hsh d j (fun q hq e he hb => by rw [hp] at hq; injection hq with hq; subst hq; exact hall e he hb) (List.all_eq_true.1 hE j hjE)
        rw [h0f] at h1
        cases h1
      have h2 := wpOp_putIf hp (hfree j p hp hne hun hnot) (fun cs b => hsel i o cs b ho) (fun cs b => hsel j p cs b hp) hQ hy (H.2 j hji)
      have hfree' : ∀ q r, ops[q]? = some r → q ≠ i → (listed.setIfInBounds j true).getD q true = false → (∀ e ∈ r.after, Region.binds md e = true → e.on ≠ i) → o.apart ops r = true := fun q r hq hqi hqu hqn => by
        refine hfree q r hq hqi ?_ hqn
        rcases Nat.decEq j q with hjq | hjq
        · rw [getD_set_ne true hjq] at hqu; exact hqu
        · subst hjq; exact hun
      refine wpOp_mono (fun b u h3 => ⟨h3.2.1, ih (listed.setIfInBounds j true) b u (hsh.set hj) hfree' (ready_mono hr (Ne.symm hne)) h3.1 (h3.2.1 hjE) ?_⟩) h2
      rw [Array.setIfInBounds_comm _ _ hne]
      exact h3.2.2
    · subst heq
      exact hy.wpOp ho hS ⟨fun _ => hS, H⟩

/-! The moves of a walk. -/
theorem Till.region {id : Nat} {a : Act} {w : World} (hm : P.follows .mixedOrders = true) (hS : S w.drew) (h : S w.drew → Shut11 .any ops (Array.replicate ops.size false) → Till P .any ops Q E S ops.size (Array.replicate ops.size false) a w.drew) : (Code.region id ops true).wp P Q a w :=
  wp_region_any hm (Till.any _ (h hS (Shut11.start _)))
theorem Till.take {i : Nat} {o : Oper} {v : Value} {d k : Nat} {listed : Array Bool} {a : Act} {w : World} (ho : ops[i]? = some o) (hs : Region.noSelect ops = true) (hf : Region.free md ops listed i = true) (hr : (Region.ready md ops listed).contains i = true) (hE : E.all (fun m => waitsB md ops d m i) = true)
    (hQ : ∀ c a w, Q (.panic c) (a.put o.dst v) w → Q (.panic c) a w) (hy : YieldsIf P ops S o v a) (hS : S w) (hsh : Shut11 md ops listed)
    (h : Shut11 md ops (listed.setIfInBounds i true) → Till P md ops Q E S k (listed.setIfInBounds i true) (a.put o.dst v) w) : Till P md ops Q E S (k + 1) listed a w :=
  Till.first ho hE (Region.noSelect_spec hs) hQ k listed a w hsh (Region.free_spec ho hf) (by simpa using hr) hy hS (h (hsh.set (by simpa using hr)))
theorem Till.one {i : Nat} {o : Oper} {k : Nat} {listed : Array Bool} {a : Act} {w : World} (hr : Region.ready md ops listed = [i]) (ho : ops[i]? = some o) (hsh : Shut11 md ops listed)
    (h : ∀ K' : Act → World → Prop, Shut (∀ b v, S v → (S v → Shut11 md ops (listed.setIfInBounds i true) → Till P md ops Q E S k (listed.setIfInBounds i true) b v) → K' b v) → if Region.wanted o (yielded ops a.tmps) = true then Oper.wp P o a w K' Q else K' (a.put o.dst undef) w) : Till P md ops Q E S (k + 1) listed a w := by
  have hi : i ∈ Region.ready md ops listed := by rw [hr]; exact List.mem_singleton_self i
  refine ⟨fun h0 => (by rw [h0] at hi; cases hi), fun j hj => ?_⟩
  rw [hr] at hj
  obtain rfl := List.mem_singleton.1 hj
  exact wpOp_step ho (fun K' hK => h K' (fun b v hS hW => hK b v ⟨fun _ => hS, hW hS (hsh.set hi)⟩))
theorem Till.last {i : Nat} {o : Oper} {k : Nat} {listed : Array Bool} {a : Act} {w : World} (hr : Region.ready md ops listed = [i]) (ho : ops[i]? = some o) (hiE : i ∈ E)
    (h : ∀ K' : Act → World → Prop, Shut (∀ b v, Till P md ops Q E S k (listed.setIfInBounds i true) b v → K' b v) → if Region.wanted o (yielded ops a.tmps) = true then Oper.wp P o a w K' Q else K' (a.put o.dst undef) w) : Till P md ops Q E S (k + 1) listed a w := by
  have hi : i ∈ Region.ready md ops listed := by rw [hr]; exact List.mem_singleton_self i
  refine ⟨fun h0 => (by rw [h0] at hi; cases hi), fun j hj => ?_⟩
  rw [hr] at hj
  obtain rfl := List.mem_singleton.1 hj
  exact wpOp_step ho (fun K' hK => h K' (fun b v hW => hK b v ⟨fun hn => absurd hiE hn, hW⟩))
end

theorem step_of_wp {P : Program} {ops : Array Oper} {o : Oper} {a : Act} {w : World} {K : Act → World → Prop} {Q : Exit → Act → World → Prop} {E : Prop} (hgd : o.guard = none) (h : Oper.wp P o a w K Q) :
    if Region.wanted o (yielded ops a.tmps) = true then Oper.wp P o a w K Q else E := by
  rw [if_pos (by simp [Region.wanted, hgd])]
  exact h

end Go.Proofs.YtiekcenknniniaaGreatDoor
