/-
  Parts of one proof, one behind the other: RtU, RegT, ImgR.
-/
import Derived.Test.YthjemelnbbpdcaaP15
import Derived.Test.YthjemelnbbpdcaaP2
import Derived.Deep.RegionHeld
import Derived.RegionTactic
import Derived.Test.YthjemelnbbpdcaaP11
import Derived.Test.YthjemelnbbpdcaaP12
import Derived.BigQuiet

/-! What the writing of several blocks leaves; rows that lie apart; blocks of three cells. -/
namespace Go.Proofs.Ythjemelnbbpdcaa
open Go.RowKit

/-- Of what was there nothing but the blocks of S was written. -/
structure WroteR (w w' : World) (S : Nat → Prop) : Prop where
  os : w'.os = w.os
  tape : w'.tape = w.tape
  output : w'.output = w.output
  size : w.heap.size ≤ w'.heap.size
  block : ∀ k, k < w.heap.size → ¬ S k → w'.heap[k]? = w.heap[k]?

theorem WroteR.refl (w : World) (S : Nat → Prop) : WroteR w w S := ⟨rfl, rfl, rfl, Nat.le_refl _, fun _ _ _ => rfl⟩
theorem WroteR.trans {a b c : World} {S : Nat → Prop} (h : WroteR a b S) (k : WroteR b c S) : WroteR a c S :=
  ⟨k.os.trans h.os, k.tape.trans h.tape, k.output.trans h.output, Nat.le_trans h.size k.size, fun i hi hs => (k.block i (Nat.lt_of_lt_of_le hi h.size) hs).trans (h.block i hi hs)⟩
theorem WroteR.mono {w w' : World} {S T : Nat → Prop} (h : WroteR w w' S) (hs : ∀ k, S k → T k) : WroteR w w' T := ⟨h.os, h.tape, h.output, h.size, fun k hk hn => h.block k hk (fun e => hn (hs k e))⟩
theorem WroteR.of_grown {w w' : World} {row : Option Nat} {S : Nat → Prop} (h : w.grownBy w' row) (hs : ∀ k, row = some k → S k) : WroteR w w' S :=
  ⟨h.os, h.tape, h.output, h.size, fun k hk hn => h.block k hk (fun e => hn (hs k e.symm))⟩
theorem WroteR.of_below {w w' : World} {S : Nat → Prop} (h : Below w.heap.size w w') : WroteR w w' S := ⟨h.os, h.tape, h.output, h.size, fun k hk _ => h.block k hk⟩
theorem WroteR.below {w w' : World} {S : Nat → Prop} {B : Nat} (h : WroteR w w' S) (hB : B ≤ w.heap.size) (hs : ∀ k, S k → B ≤ k) : Below B w w' :=
  ⟨h.os, h.tape, h.output, h.size, fun k hk => h.block k (Nat.lt_of_lt_of_le hk hB) (fun e => by have := hs k e; omega)⟩
theorem own_wroteR {w w' : World} {base e size n : Nat} {v : Value} {xs : List Value} {S : Nat → Prop} (h : w.ownsRow base e size v n xs) (hw : WroteR w w' S) (hv : ∀ k, v.ownBlock = some k → ¬ S k) : w'.ownsRow base e size v n xs := by
  refine ⟨h.1, ?_⟩
  rcases h.2 with hn | ⟨g, cap, cur, rfl, hb, hgg, rest⟩
  · exact .inl hn
  · refine .inr ⟨g, cap, cur, rfl, hb, ?_, rest⟩
    rw [hw.block g (Array.getElem?_eq_some_iff.1 hgg).1 (hv g rfl)]
    exact hgg

/-- The trees lie apart, one by one. -/
def ApartR (vs : List Value) : Prop := vs.Pairwise (fun a b => a.ownBlock = none ∨ a.ownBlock ≠ b.ownBlock)
theorem ApartR.ne {vs : List Value} (h : ApartR vs) {i j : Nat} (hi : i < vs.length) (hj : j < vs.length) (hij : i ≠ j) : vs[i].ownBlock = none ∨ vs[i].ownBlock ≠ vs[j].ownBlock := by
  rcases Nat.lt_or_gt_of_ne hij with hl | hl
  · exact List.pairwise_iff_getElem.1 h i j hi hj hl
  · rcases List.pairwise_iff_getElem.1 h j i hj hi hl with e | e
    · rw [e]; cases vs[i].ownBlock <;> simp
    · exact Or.inr (fun e2 => e e2.symm)

theorem ApartR.nil : ApartR [] := List.Pairwise.nil
theorem ApartR.snoc {vs : List Value} {u : Value} (h : ApartR vs) (hu : ∀ v ∈ vs, v.ownBlock = none ∨ v.ownBlock ≠ u.ownBlock) : ApartR (vs ++ [u]) :=
  List.pairwise_append.2 ⟨h, List.pairwise_singleton _ _, fun a ha b hb => by rw [List.mem_singleton] at hb; subst hb; exact hu a ha⟩
/-- A row that lies ahead of a place, and one that lies behind it. -/
theorem own_aheadR {w w' : World} {b1 b2 e1 e2 s1 s2 n1 n2 : Nat} {v1 v2 : Value} {xs ys : List Value} (h1 : w.ownsRow b1 e1 s1 v1 n1 xs) (h2 : w'.ownsRow b2 e2 s2 v2 n2 ys) (hb : w.heap.size ≤ b2) : v1.ownBlock = none ∨ v1.ownBlock ≠ v2.ownBlock := by
  cases hv : v1.ownBlock with
  | none => exact Or.inl rfl
  | some k =>
    refine Or.inr (fun e => ?_)
    have l1 := (h1.lt k hv).2
    have l2 := (h2.lt k e.symm).1
    omega

theorem cell_alwR {w : World} {a : Addr} {v : Value} (o : Obj) (h : w.cell? a = some v) : (w.alloc o).cell? a = some v :=
  (World.cell?_of_block (Below.heap_alloc _ _ _ (World.block_lt_of_cell? w a h))).trans h

/-- Three cells of a block are written. -/
theorem set3R {X : World} {R : Nat} {a0 a1 a2 : Value} (u0 u1 u2 : Value) (r0 : X.cell? ⟨R, 0, none⟩ = some a0) (r1 : X.cell? ⟨R, 1, none⟩ = some a1) (r2 : X.cell? ⟨R, 2, none⟩ = some a2) :
    ∃ Y, ((X.setCell ⟨R, 0, none⟩ u0).setCell ⟨R, 1, none⟩ u1).setCell ⟨R, 2, none⟩ u2 = Y ∧ Y.cell? ⟨R, 0, none⟩ = some u0 ∧ Y.cell? ⟨R, 1, none⟩ = some u1 ∧ Y.cell? ⟨R, 2, none⟩ = some u2 ∧ X.grownBy Y (some R) := by
  refine ⟨_, rfl, ?_, ?_, ?_, ?_⟩
  · exact (World.cell?_setCell_other _ _ _ _ (by simp)).trans ((World.cell?_setCell_other _ _ _ _ (by simp)).trans (World.cell?_setCell_same _ _ _ r0))
  · exact (World.cell?_setCell_other _ _ _ _ (by simp)).trans (World.cell?_setCell_same _ _ _ ((World.cell?_setCell_other _ _ _ _ (by simp)).trans r1))
  · exact World.cell?_setCell_same _ _ _ ((World.cell?_setCell_other _ _ _ _ (by simp)).trans ((World.cell?_setCell_other _ _ _ _ (by simp)).trans r2))
  · exact ((grown_set _ _ _ _).trans (grown_set _ _ _ _)).trans (grown_set _ _ _ _)

/-- The cells of a block of threeR that lies as it was made. -/
theorem threeR {X W : World} {R : Nat} {u0 u1 u2 : Value} {T : TypeId} (hX : Below W.heap.size W X) (hlt : R < W.heap.size) (hR : W.heap[R]? = some (.cells #[u0, u1, u2] T)) :
    X.cell? ⟨R, 0, none⟩ = some u0 ∧ X.cell? ⟨R, 1, none⟩ = some u1 ∧ X.cell? ⟨R, 2, none⟩ = some u2 ∧ ∀ j, X.frozen? ⟨R, j, none⟩ = false := by
  have e := (hX.block R hlt).trans hR
  clear hX hR
  exact ⟨by simp [World.cell?, e], by simp [World.cell?, e], by simp [World.cell?, e], fun j => by simp [World.frozen?, e]⟩

/-- A row that is owned above a block does not lie in it. -/
theorem own_offR {w : World} {base e size n R : Nat} {v : Value} {xs : List Value} (h : w.ownsRow base e size v n xs) (hR : R < base) : v.ownBlock = none ∨ v.ownBlock ≠ some R := by
  rcases hv : v.ownBlock with _ | k
  · exact Or.inl rfl
  · refine Or.inr (fun e => ?_)
    have := (h.lt k hv).1
    injection e with e
    omega

/-- Rows of elements of two types lie in two blocks. -/
theorem own_typesR {w : World} {b1 b2 e1 e2 s1 s2 n1 n2 : Nat} {v1 v2 : Value} {xs ys : List Value} (h1 : w.ownsRow b1 e1 s1 v1 n1 xs) (h2 : w.ownsRow b2 e2 s2 v2 n2 ys) (he : e1 ≠ e2) : v1.ownBlock = none ∨ v1.ownBlock ≠ v2.ownBlock := by
  rcases h1.2 with ⟨rfl, _⟩ | ⟨g, c, cur, rfl, _, hg, _⟩
  · exact Or.inl rfl
  · rcases h2.2 with ⟨rfl, _⟩ | ⟨g2, c2, cur2, rfl, _, hg2, _⟩
    · exact Or.inr (by simp [Value.ownBlock])
    · refine Or.inr (fun e => ?_)
      simp only [Value.ownBlock, Option.some.injEq] at e
      subst e
      rw [hg] at hg2
      simp only [Option.some.injEq, Obj.cells.injEq] at hg2
      exact he hg2.2.1

theorem add_plainR (b off i : Nat) : (⟨b, off, none⟩ : Addr).add i = ⟨b, off + i, none⟩ := by unfold Addr.add; split <;> simp_all

end Go.Proofs.Ythjemelnbbpdcaa

/-! A region that draws its order and stores, at its end, into a cell that it has read: what is held of the world is asked for behind every operation but those of E, which wait for all that is taken first. -/
namespace Go.Proofs.Ythjemelnbbpdcaa
open Go.RowKit

section
variable {P : Program} {ops : Array Oper} {Q : Exit → Act → World → Prop} {md : Region.Mode} {S : World → Prop} {E : List Nat}

/-- Whatever comes up next, and so on to the end; S holds behind each that is not of E. -/
def Till (P : Program) (md : Region.Mode) (ops : Array Oper) (Q : Exit → Act → World → Prop) (E : List Nat) (S : World → Prop) : Nat → Array Bool → Act → World → Prop
  | 0 => fun listed a w => Region.ready md ops listed = [] ∧ Q .normal a w
  | k + 1 => fun listed a w => (Region.ready md ops listed = [] → Q .normal a w) ∧
      ∀ i, i ∈ Region.ready md ops listed → wpOp P ops Q i (fun b v => (i ∉ E → S v) ∧ Till P md ops Q E S k (listed.setIfInBounds i true) b v) a w

theorem Till.any : ∀ (k : Nat) {listed : Array Bool} {a : Act} {w : World}, Till P md ops Q E S k listed a w → wpAny P md ops Q k listed a w
  | 0, _, _, _, h => h
  | k + 1, _, _, _, h => ⟨h.1, fun i hi => wpOp_mono (fun _ _ x => Till.any k x.2) (h.2 i hi)⟩
theorem Till.done {listed : Array Bool} {a : Act} {w : World} (hr : Region.ready md ops listed = []) (h : Q .normal a w) : ∀ k, Till P md ops Q E S k listed a w
  | 0 => ⟨hr, h⟩
  | _ + 1 => ⟨fun _ => h, fun i hi => by rw [hr] at hi; cases hi⟩

/-- What has come up has come behind all that it waits for. -/
def Shut11 (md : Region.Mode) (ops : Array Oper) (listed : Array Bool) : Prop := ∀ j o, ops[j]? = some o → listed.getD j false = true → ∀ e ∈ o.after, Region.binds md e = true → listed.getD e.on false = true
theorem Shut11.start (n : Nat) : Shut11 md ops (Array.replicate n false) := fun j o _ h => by
  rw [Array.getD_eq_getD_getElem?] at h
  simp only [Array.getElem?_replicate] at h
  split at h <;> cases h
theorem Shut11.set {listed : Array Bool} {i : Nat} (h : Shut11 md ops listed) (hi : i ∈ Region.ready md ops listed) : Shut11 md ops (listed.setIfInBounds i true) := fun j o ho hj e he hb => by
  refine getD_set_true ?_
  rcases Nat.decEq i j with hne | heq
  · rw [getD_set_ne false hne] at hj
    exact h j o ho hj e he hb
  · subst heq
    obtain ⟨_, p, hp, hall⟩ := mem_ready.1 hi
    rw [ho] at hp
    injection hp with hp
    subst hp
    exact hall e he hb
/-- m waits for i, by way of others. -/
def waitsB (md : Region.Mode) (ops : Array Oper) : Nat → Nat → Nat → Bool
  | 0, _, _ => false
  | k + 1, m, i => match ops[m]? with
    | some o => o.after.any (fun e => Region.binds md e && (e.on == i || waitsB md ops k e.on i))
    | none => false
theorem waits_listed {listed : Array Bool} (h : Shut11 md ops listed) {i : Nat} : ∀ (k m : Nat), (∀ o, ops[m]? = some o → ∀ e ∈ o.after, Region.binds md e = true → listed.getD e.on false = true) → waitsB md ops k m i = true → listed.getD i false = true
  | 0, _, _, hw => by cases hw
  | k + 1, m, hd, hw => by
    unfold waitsB at hw
    cases ho : ops[m]? with
    | none => rw [ho] at hw; cases hw
    | some o =>
      rw [ho] at hw
      simp only [Array.any_eq_true'] at hw
      obtain ⟨e, he, h2⟩ := hw
      rw [Bool.and_eq_true, Bool.or_eq_true] at h2
      have hl := hd o ho e he h2.1
      rcases h2.2 with h3 | h3
      · rw [← beq_iff_eq.1 h3]; exact hl
      · exact waits_listed h k e.on (fun p hp f hf hb => h e.on p hp hl f hf hb) h3

/-- One that may come up, and for which all of E wait, is taken first. -/
theorem Till.first {i : Nat} {o : Oper} {v : Value} {d : Nat} (ho : ops[i]? = some o) (hE : E.all (fun m => waitsB md ops d m i) = true) (hsel : ∀ (j : Nat) (p : Oper) cs b, ops[j]? = some p → p.op ≠ .select cs b)
    (hQ : ∀ c a w, Q (.panic c) (a.put o.dst v) w → Q (.panic c) a w) : ∀ (k : Nat) (listed : Array Bool) (a : Act) (w : World), Shut11 md ops listed →
      (∀ j p, ops[j]? = some p → j ≠ i → listed.getD j true = false → (∀ e ∈ p.after, Region.binds md e = true → e.on ≠ i) → o.apart ops p = true) →
      i ∈ Region.ready md ops listed → YieldsIf P ops S o v a → S w →
      Till P md ops Q E S k (listed.setIfInBounds i true) (a.put o.dst v) w → Till P md ops Q E S (k + 1) listed a w := by
  intro k
  induction k with
  | zero =>
    intro listed a w hsh hfree hr hy hS H
    refine ⟨fun h => (by rw [h] at hr; cases hr), fun j hj => ?_⟩
    rcases Nat.decEq j i with hne | heq
    · have hji : j ∈ Region.ready md ops (listed.setIfInBounds i true) := ready_mono hj hne
      rw [H.1] at hji
      cases hji
    · subst heq
      exact hy.wpOp ho hS ⟨fun _ => hS, H⟩
  | succ k ih =>
    intro listed a w hsh hfree hr hy hS H
    refine ⟨fun h => (by rw [h] at hr; cases hr), fun j hj => ?_⟩
    rcases Nat.decEq j i with hne | heq
    · have hji : j ∈ Region.ready md ops (listed.setIfInBounds i true) := ready_mono hj hne
      obtain ⟨hun, p, hp, hall⟩ := mem_ready.1 hj
      have h0 : listed.getD i true = false := (mem_ready.1 hr).1
      have h0f : listed.getD i false = false := by
        rcases Nat.lt_or_ge i listed.size with hl | hl
        · simp [hl] at h0 ⊢; exact h0
        · simp [Array.getElem?_eq_none hl] at h0
      have hnot : ∀ e ∈ p.after, Region.binds md e = true → e.on ≠ i := fun e he hb hei => by
        have h1 := hall e he hb
        rw [hei, h0f] at h1
        cases h1
      have hjE : j ∉ E := fun hjE => by
        have h1 := waits_listed hsh d j (fun q hq e he hb => by rw [hp] at hq; injection hq with hq; subst hq; exact hall e he hb) (List.all_eq_true.1 hE j hjE)
        rw [h0f] at h1
        cases h1
      have h2 := wpOp_putIf hp (hfree j p hp hne hun hnot) (fun cs b => hsel i o cs b ho) (fun cs b => hsel j p cs b hp) hQ hy (H.2 j hji)
      have hfree' : ∀ q r, ops[q]? = some r → q ≠ i → (listed.setIfInBounds j true).getD q true = false → (∀ e ∈ r.after, Region.binds md e = true → e.on ≠ i) → o.apart ops r = true := fun q r hq hqi hqu hqn => by
        refine hfree q r hq hqi ?_ hqn
        rcases Nat.decEq j q with hjq | hjq
        · rw [getD_set_ne true hjq] at hqu; exact hqu
        · subst hjq; exact hun
      refine wpOp_mono (fun b u h3 => ⟨h3.2.1, ih (listed.setIfInBounds j true) b u (hsh.set hj) hfree' (ready_mono hr (Ne.symm hne)) h3.1 (h3.2.1 hjE) ?_⟩) h2
      rw [Array.setIfInBounds_comm _ _ hne]
      exact h3.2.2
    · subst heq
      exact hy.wpOp ho hS ⟨fun _ => hS, H⟩

/-! The moves of a walk. -/
theorem Till.region {id : Nat} {a : Act} {w : World} (hm : P.follows .mixedOrders = true) (hS : S w.drew) (h : S w.drew → Shut11 .any ops (Array.replicate ops.size false) → Till P .any ops Q E S ops.size (Array.replicate ops.size false) a w.drew) : (Code.region id ops true).wp P Q a w :=
  wp_region_any hm (Till.any _ (h hS (Shut11.start _)))
theorem Till.take {i : Nat} {o : Oper} {v : Value} {d k : Nat} {listed : Array Bool} {a : Act} {w : World} (ho : ops[i]? = some o) (hs : Region.noSelect ops = true) (hf : Region.free md ops listed i = true) (hr : (Region.ready md ops listed).contains i = true) (hE : E.all (fun m => waitsB md ops d m i) = true)
    (hQ : ∀ c a w, Q (.panic c) (a.put o.dst v) w → Q (.panic c) a w) (hy : YieldsIf P ops S o v a) (hS : S w) (hsh : Shut11 md ops listed)
    (h : Shut11 md ops (listed.setIfInBounds i true) → Till P md ops Q E S k (listed.setIfInBounds i true) (a.put o.dst v) w) : Till P md ops Q E S (k + 1) listed a w :=
  Till.first ho hE (Region.noSelect_spec hs) hQ k listed a w hsh (Region.free_spec ho hf) (by simpa using hr) hy hS (h (hsh.set (by simpa using hr)))
theorem Till.one {i : Nat} {o : Oper} {k : Nat} {listed : Array Bool} {a : Act} {w : World} (hr : Region.ready md ops listed = [i]) (ho : ops[i]? = some o) (hsh : Shut11 md ops listed)
    (h : ∀ K' : Act → World → Prop, Shut (∀ b v, S v → (S v → Shut11 md ops (listed.setIfInBounds i true) → Till P md ops Q E S k (listed.setIfInBounds i true) b v) → K' b v) → if Region.wanted o (yielded ops a.tmps) = true then Oper.wp P o a w K' Q else K' (a.put o.dst undef) w) : Till P md ops Q E S (k + 1) listed a w := by
  have hi : i ∈ Region.ready md ops listed := by rw [hr]; exact List.mem_singleton_self i
  refine ⟨fun h0 => (by rw [h0] at hi; cases hi), fun j hj => ?_⟩
  rw [hr] at hj
  obtain rfl := List.mem_singleton.1 hj
  exact wpOp_step ho (fun K' hK => h K' (fun b v hS hW => hK b v ⟨fun _ => hS, hW hS (hsh.set hi)⟩))
theorem Till.last {i : Nat} {o : Oper} {k : Nat} {listed : Array Bool} {a : Act} {w : World} (hr : Region.ready md ops listed = [i]) (ho : ops[i]? = some o) (hiE : i ∈ E)
    (h : ∀ K' : Act → World → Prop, Shut (∀ b v, Till P md ops Q E S k (listed.setIfInBounds i true) b v → K' b v) → if Region.wanted o (yielded ops a.tmps) = true then Oper.wp P o a w K' Q else K' (a.put o.dst undef) w) : Till P md ops Q E S (k + 1) listed a w := by
  have hi : i ∈ Region.ready md ops listed := by rw [hr]; exact List.mem_singleton_self i
  refine ⟨fun h0 => (by rw [h0] at hi; cases hi), fun j hj => ?_⟩
  rw [hr] at hj
  obtain rfl := List.mem_singleton.1 hj
  exact wpOp_step ho (fun K' hK => h K' (fun b v hW => hK b v ⟨fun hn => absurd hiE hn, hW⟩))
end

theorem step_of_wp {P : Program} {ops : Array Oper} {o : Oper} {a : Act} {w : World} {K : Act → World → Prop} {Q : Exit → Act → World → Prop} {E : Prop} (hgd : o.guard = none) (h : Oper.wp P o a w K Q) :
    if Region.wanted o (yielded ops a.tmps) = true then Oper.wp P o a w K Q else E := by
  rw [if_pos (by simp [Region.wanted, hgd])]
  exact h

end Go.Proofs.Ythjemelnbbpdcaa

/-! How an image runs, as the specification's walk holds it: the run's block, its row of registers, one instruction. -/
namespace Go.Proofs.Ythjemelnbbpdcaa
open Go.RowKit

section
variable {rs : List Rt} {m k : Nat} {xs row row2 : List Int} {p p2 : Int}
theorem run14_nil : run14 rs 0 0 k xs row p = (0, 2, 0) := rfl
theorem run14_go (h : step14 rs k xs row p = .go row2 p2) : run14 rs (m + 1) (m + 1) k xs row p = run14 rs m m k xs row2 p2 := by rw [run14, h]
theorem run14_stop {v c : Int} (h : step14 rs k xs row p = .stop v c) : run14 rs (m + 1) (m + 1) k xs row p = (v, c, m) := by rw [run14, h]
theorem run14_call {k2 r : Nat} {xs2 : List Int} (h : step14 rs k xs row p = .call k2 xs2 r) : run14 rs (m + 1) (m + 1) k xs row p =
    if (run14 rs m m k2 xs2 row14 0).2.1 = 0 then run14 rs (run14 rs m m k2 xs2 row14 0).2.2 (run14 rs m m k2 xs2 row14 0).2.2 k xs (row.set r (run14 rs m m k2 xs2 row14 0).1) (p + 1) else (0, (run14 rs m m k2 xs2 row14 0).2.1, (run14 rs m m k2 xs2 row14 0).2.2) := by
  rw [run14, h]
  simp only
  split
  · exact run14_gas rs m _ _ k xs _ _ (run14_left rs m m k2 xs2 row14 0) (Nat.le_refl _)
  · rfl
end
theorem mem_getR {l : List In13} {p : Nat} (hp : p < l.length) : l.getD p in0 ∈ l := by rw [List.getD_eq_getElem?_getD, List.getElem?_eq_getElem hp]; exact List.getElem_mem hp
/-- What an instruction of right code asks. -/
structure Ir14 (rs : List Rt) (k p : Nat) (i : In13) : Prop where
  e : (rs.getD k rt0).2.2.getD p in0 = i
  ok : insP i
  nx : i.1 ≠ 8 → i.1 ≠ 10 → p + 1 < (rs.getD k rt0).2.2.length
  pl : i.1 = 7 ∨ i.1 = 8 → i.2.2.1 < ((rs.getD k rt0).2.2.length : Int)
  ar : i.1 = 2 → i.2.2.1 < (rs.getD k rt0).2.1
  ca : i.1 = 9 → 0 ≤ at14 rs i.2.2.2.2 ∧ at14 rs i.2.2.2.2 < rs.length ∧ (rs.getD (at14 rs i.2.2.2.2).toNat rt0).2.1 = i.2.2.1
theorem ir_of {rs : List Rt} (h : imageB rs = true) {k p : Nat} (hk : k < rs.length) (hp : p < (rs.getD k rt0).2.2.length) : Ir14 rs k p ((rs.getD k rt0).2.2.getD p in0) := by
  have h1 := (of_decide_eq_true h).1 k hk
  obtain ⟨hr, _, hc⟩ := h1
  obtain ⟨_, _, hco, har⟩ := rtB_parts hr
  have hcd := of_decide_eq_true hco
  have hm : (rs.getD k rt0).2.2.getD p in0 ∈ (rs.getD k rt0).2.2 := mem_getR hp
  refine ⟨rfl, (hcd.2.1 _ hm).1, fun h8 h10 => ?_, fun e => (hcd.2.1 _ hm).2 e, fun h2 => ?_, fun h9 => ?_⟩
  · rcases Nat.lt_or_ge (p + 1) (rs.getD k rt0).2.2.length with hl | hl
    · exact hl
    · have e : p = (rs.getD k rt0).2.2.length - 1 := by omega
      rw [e] at h8 h10
      rcases hcd.2.2 with q | q
      · exact absurd q h10
      · exact absurd q h8
  · have h3 := List.all_eq_true.1 har _ hm
    unfold argB at h3
    rw [h2] at h3
    simp at h3
    exact h3
  · have h3 := List.all_eq_true.1 hc _ hm
    unfold clsB at h3
    rw [h9] at h3
    simp only [ne_eq, not_true_eq_false, decide_false, Bool.false_or, Bool.and_eq_true, decide_eq_true_eq] at h3
    exact ⟨h3.1, (at14_bd _ _).2, h3.2⟩
section
variable {rs : List Rt} {k p : Nat} {xs row : List Int} {i : In13}
theorem Ir14.s1 (h : Ir14 rs k p i) (hk : i.1 = 1) : step14 rs k xs row (p : Int) = .go (row.set i.2.1.toNat i.2.2.1) ((p : Int) + 1) := by
  unfold step14; simp only [Int.toNat_natCast, h.e]; rw [if_pos hk]
theorem Ir14.s2 (h : Ir14 rs k p i) (hk : i.1 = 2) : step14 rs k xs row (p : Int) = .go (row.set i.2.1.toNat (xs.getD i.2.2.1.toNat 0)) ((p : Int) + 1) := by
  unfold step14; simp only [Int.toNat_natCast, h.e]; rw [if_neg (by omega), if_pos hk]
theorem Ir14.s7 (h : Ir14 rs k p i) (hk : i.1 = 7) : step14 rs k xs row (p : Int) = .go row (if row.getD i.2.1.toNat 0 = 0 then i.2.2.1 else (p : Int) + 1) := by
  unfold step14; simp only [Int.toNat_natCast, h.e]; rw [if_neg (by omega), if_neg (by omega), if_pos hk]
theorem Ir14.s8 (h : Ir14 rs k p i) (hk : i.1 = 8) : step14 rs k xs row (p : Int) = .go row i.2.2.1 := by
  unfold step14; simp only [Int.toNat_natCast, h.e]; rw [if_neg (by omega), if_neg (by omega), if_neg (by omega), if_pos hk]
theorem Ir14.s9 (h : Ir14 rs k p i) (hk : i.1 = 9) : step14 rs k xs row (p : Int) = .call (at14 rs i.2.2.2.2).toNat ((row.drop i.2.1.toNat).take i.2.2.1.toNat) i.2.1.toNat := by
  unfold step14; simp only [Int.toNat_natCast, h.e]; rw [if_neg (by omega), if_neg (by omega), if_neg (by omega), if_neg (by omega), if_pos hk]
theorem Ir14.s10 (h : Ir14 rs k p i) (hk : i.1 = 10) : step14 rs k xs row (p : Int) = .stop (row.getD i.2.1.toNat 0) 0 := by
  unfold step14; simp only [Int.toNat_natCast, h.e]; rw [if_neg (by omega), if_neg (by omega), if_neg (by omega), if_neg (by omega), if_neg (by omega), if_pos hk]
theorem Ir14.s3 (h : Ir14 rs k p i) (hk : 3 ≤ i.1 ∧ i.1 ≤ 6) : step14 rs k xs row (p : Int) = if doneB i.1 (row.getD i.2.2.1.toNat 0) (row.getD i.2.2.2.1.toNat 0) = true then .go (row.set i.2.1.toNat (doneV i.1 (row.getD i.2.2.1.toNat 0) (row.getD i.2.2.2.1.toNat 0))) ((p : Int) + 1) else .stop 0 1 := by
  unfold step14; simp only [Int.toNat_natCast, h.e]; rw [if_neg (by omega), if_neg (by omega), if_neg (by omega), if_neg (by omega), if_neg (by omega), if_neg (by omega)]
end
theorem intsV_setR (l : List Int) (j : Nat) (v : Int) : (intsV l).set j (.int .i64 v) = intsV (l.set j v) := by
  unfold intsV
  rw [List.map_set]

/-- A run: its block is gR, its registers are in gr. -/
structure Rn14 (B w X : World) (gR gr : Nat) (tv : Value) (f c : Int) (row : List Int) : Prop where
  blk : X.heap[gR]? = some (.cells #[tv, .int .i64 f, .int .i64 c] 64 (0, 0))
  rw : X.ownsRow w.heap.size 2 1 (.slice (some ⟨gr, 0, none⟩) 64 64) 64 (intsV row)
  wr : WroteR w X (fun q => q = gR)
  gl : gR < w.heap.size
  bB : Below B.heap.size B X
  Bg : B.heap.size ≤ gR
def fu14 (X : World) (gR : Nat) : Nat := match X.cell? ⟨gR, 1, none⟩ with
  | some (.int _ n) => n.toNat
  | _ => 0
section
variable {B w X Y : World} {gR gr : Nat} {tv : Value} {f c f' c' : Int} {row : List Int}
theorem Rn14.c0 (h : Rn14 B w X gR gr tv f c row) : X.cell? ⟨gR, 0, none⟩ = some tv := by rw [cell_of_row _ _ _ _ _ _ h.blk]; rfl
theorem Rn14.c1 (h : Rn14 B w X gR gr tv f c row) : X.cell? ⟨gR, 1, none⟩ = some (.int .i64 f) := by rw [cell_of_row _ _ _ _ _ _ h.blk]; rfl
theorem Rn14.c2 (h : Rn14 B w X gR gr tv f c row) : X.cell? ⟨gR, 2, none⟩ = some (.int .i64 c) := by rw [cell_of_row _ _ _ _ _ _ h.blk]; rfl
theorem Rn14.fz (h : Rn14 B w X gR gr tv f c row) (j : Nat) : X.frozen? ⟨gR, j, none⟩ = false := frozen_of_row _ _ _ _ _ h.blk
theorem Rn14.fu (h : Rn14 B w X gR gr tv f c row) : fu14 X gR = f.toNat := by unfold fu14; rw [h.c1]
theorem Rn14.len (h : Rn14 B w X gR gr tv f c row) : row.length = 64 := by have := h.rw.1; rw [intsV_len] at this; omega
theorem Rn14.gg (h : Rn14 B w X gR gr tv f c row) : gr ≠ gR := by have := (h.rw.lt gr rfl).1; have := h.gl; omega
theorem Rn14.cr (h : Rn14 B w X gR gr tv f c row) (j : Nat) (hj : j < 64) : X.cell? ⟨gr, j, none⟩ = some (.int .i64 (row.getD j 0)) := ints_cell h.rw j (by rw [h.len]; exact hj)
theorem Rn14.fr (h : Rn14 B w X gR gr tv f c row) (j : Nat) : X.frozen? ⟨gr, j, none⟩ = false := h.rw.frozenAt j
theorem Rn14.below (h : Rn14 B w X gR gr tv f c row) (hb : Below X.heap.size X Y) : Rn14 B w Y gR gr tv f c row :=
  ⟨(hb.block gR (Nat.lt_of_lt_of_le h.gl h.wr.size)).trans h.blk, own_below h.rw hb, h.wr.trans (WroteR.of_below hb), h.gl, h.bB.trans (hb.mono h.bB.size), h.Bg⟩
theorem Rn14.drew (h : Rn14 B w X gR gr tv f c row) : Rn14 B w X.drew gR gr tv f c row := h.below ⟨rfl, rfl, rfl, Nat.le_refl _, fun _ _ => rfl⟩
/-- The run's block is written, by whomever. -/
theorem Rn14.call (h : Rn14 B w X gR gr tv f c row) (hw : WroteR X Y (fun q => q = gR)) (hb : Y.heap[gR]? = some (.cells #[tv, .int .i64 f', .int .i64 c'] 64 (0, 0))) : Rn14 B w Y gR gr tv f' c' row :=
  ⟨hb, own_wroteR h.rw hw (fun q e1 e2 => by subst e2; have := (h.rw.lt _ e1).1; have := h.gl; omega), h.wr.trans hw, h.gl, h.bB.trans (hw.below h.bB.size (fun q e => by rw [e]; exact h.Bg)), h.Bg⟩
theorem Rn14.set (h : Rn14 B w X gR gr tv f c row) (j : Nat) (v : Value) (hv : (#[tv, .int .i64 f, .int .i64 c] : Array Value).setIfInBounds j v = #[tv, .int .i64 f', .int .i64 c']) : Rn14 B w (X.setCell ⟨gR, j, none⟩ v) gR gr tv f' c' row :=
  h.call (WroteR.of_grown (grown_set X gR j v) (fun q e => by injection e with e; exact e.symm)) (by rw [heap_setCell_same _ _ _ _ _ _ h.blk, hv])
theorem Rn14.put (h : Rn14 B w X gR gr tv f c row) (j : Nat) (v : Int) : Rn14 B w (X.setCell ⟨gr, j, none⟩ (.int .i64 v)) gR gr tv f c (row.set j v) := by
  have hs := h.rw.stored j (.int .i64 v)
  rw [intsV_setR] at hs
  have hg := h.gg
  have hl := h.rw.lt gr rfl
  refine ⟨(hs.2.block gR (Nat.lt_of_lt_of_le h.gl h.wr.size) (by intro e; injection e with e; exact hg e.symm)).trans h.blk, hs.1, ?_, h.gl, h.bB.grown hs.2 h.bB.size (fun q e => by injection e with e; have := h.gl; have := h.Bg; omega), h.Bg⟩
  exact ⟨hs.2.os.trans h.wr.os, hs.2.tape.trans h.wr.tape, hs.2.output.trans h.wr.output, Nat.le_trans h.wr.size hs.2.size, fun q hq hn => (hs.2.block q (Nat.lt_of_lt_of_le hq h.wr.size) (by intro e; injection e with e; omega)).trans (h.wr.block q hq hn)⟩
end

set_option maxHeartbeats 1000000 in
set_option maxRecDepth 100000 in
theorem specCopy14 (b off n c : Nat) (xs : List Int) (w : World) (hl : xs.length = n) (hc : ∀ j, j < n → w.cell? ⟨b, off + j, none⟩ = some (.int .i64 (xs.getD j 0))) (hn : n ≤ 1000) :
    Calls Try.prog 47 #[.slice (some ⟨b, off, none⟩) n c] w fun e w' => ∃ a' c', e = .returned (.slice a' n c') ∧ (∀ j, j < n → ∃ b' off', a' = some ⟨b', off', none⟩ ∧ w.heap.size ≤ b' ∧ b' < w'.heap.size ∧ w'.cell? ⟨b', off' + j, none⟩ = some (.int .i64 (xs.getD j 0))) ∧ Below w.heap.size w w' := by
  obtain ⟨i0, hi, hz0, hz1, hz2⟩ := info_parts info2
  have hb0 : Below w.heap.size w (w.alloc (.cells #[] 2)) := (Below.refl _ _).alloc (Nat.le_refl _) _
  have hP0 : (w.alloc (.cells #[] 2)).ownsRow w.heap.size 2 1 (.slice (some ⟨w.heap.size, 0, none⟩) 0 0) 0 [] := World.ownsRow_lit w #[] 0 (Nat.le_refl _) (by decide) rfl
  have hsrc : Src (w.alloc (.cells #[] 2)) (.slice (some ⟨b, off, none⟩) n c) n 1 (intsV xs) := by
    refine ⟨by rw [intsV_len, hl, Nat.mul_one], intsV_one _, Or.inr ⟨_, c, rfl, fun j u hu => ?_⟩⟩
    have hj : j < n := by have := (List.getElem?_eq_some_iff.1 hu).1; rw [intsV_len, hl] at this; exact this
    rw [add_plainR]
    have h1 := hc j hj
    have h2 : (intsV xs)[j]? = some (.int .i64 (xs.getD j 0)) := by simp [intsV, List.getD, show j < xs.length by omega]
    rw [h2] at hu
    injection hu with hu
    rw [← hu]
    exact cell_alwR _ h1
  obtain ⟨v', Y, hrun, hown, hg, _⟩ := run_append_src (P := Try.prog) (w.alloc (.cells #[] 2)) w.heap.size 27 27 2 i0 _ 1 8 Try.underlying27 hi hz0 hz1 hz2 rfl (by decide) _ _ _ hP0 _ n (intsV xs) hsrc (by unfold maxLen; omega) (by omega) hb0.size
  rw [Nat.zero_add, List.nil_append] at hown
  obtain ⟨a', c', rfl⟩ := own_any12 hown
  have HF : Hid ((∀ j, j < n → ∃ b' off', a' = some ⟨b', off', none⟩ ∧ w.heap.size ≤ b' ∧ b' < Y.heap.size ∧ Y.cell? ⟨b', off' + j, none⟩ = some (.int .i64 (xs.getD j 0))) ∧ Below w.heap.size w Y) := by
    refine ⟨fun j hj => ?_, hb0.grown hg hb0.size (fun q e => by have : w.heap.size = q := by simpa [Value.ownBlock] using e
                                                                 omega)⟩
    obtain ⟨g, cp, e⟩ := own_some hown (by omega)
    injection e with e1 _ e3
    subst e1 e3
    have hgl := hown.lt g rfl
    exact ⟨g, 0, rfl, hgl.1, hgl.2, by rw [Nat.zero_add]; exact ints_cell hown j (by omega)⟩
  clear hown hg hsrc hP0 hb0 hc hl
  go_enter Try.func47, Try.ntmps47
  go_wp2_with (at_builtin; refine wpList_append_run rfl (.tmp 3) (.tmp 4) 27 rfl _ _ _ rfl rfl hrun ?_; clear hrun)
  go_ret
  exact ⟨_, _, rfl, HF.out⟩

end Go.Proofs.Ythjemelnbbpdcaa
