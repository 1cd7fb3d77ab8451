/-
  Parts of one proof, one behind the other: RegT, ImgR, ImgQ.
-/
import Derived.Test.YthjemelnbbpdcaaGreatDoorP17
import Derived.Test.YthjemelnbbpdcaaGreatDoorP2
import Derived.Deep.RegionHeld
import Derived.RegionTactic
import Derived.Test.YthjemelnbbpdcaaGreatDoorP16
import Derived.Test.YthjemelnbbpdcaaGreatDoorP12
import Derived.Test.YthjemelnbbpdcaaGreatDoorP13
import Derived.BigQuiet
import Derived.Test.YthjemelnbbpdcaaGreatDoorP3
import Derived.Maps.AppendAt

/-! A region that draws its order and stores, at its end, into a cell that it has read: what is held of the world is asked for behind every operation but those of E, which wait for all that is taken first. -/
namespace Go.Proofs.YthjemelnbbpdcaaGreatDoor
open Go.RowKit

section
variable {P : Program} {ops : Array Oper} {Q : Exit → Act → World → Prop} {md : Region.Mode} {S : World → Prop} {E : List Nat}

/-- Whatever comes up next, and so on to the end; S holds behind each that is not of E. -/
def Till (P : Program) (md : Region.Mode) (ops : Array Oper) (Q : Exit → Act → World → Prop) (E : List Nat) (S : World → Prop) : Nat → Array Bool → Act → World → Prop
  | 0 => fun listed a w => Region.ready md ops listed = [] ∧ Q .normal a w
  | k + 1 => fun listed a w => (Region.ready md ops listed = [] → Q .normal a w) ∧
      ∀ i, i ∈ Region.ready md ops listed → wpOp P ops Q i (fun b v => (i ∉ E → S v) ∧ Till P md ops Q E S k (listed.setIfInBounds i true) b v) a w

theorem Till.any : ∀ (k : Nat) {listed : Array Bool} {a : Act} {w : World}, Till P md ops Q E S k listed a w → wpAny P md ops Q k listed a w
  | 0, _, _, _, h => h
  | k + 1, _, _, _, h => ⟨h.1, fun i hi => wpOp_mono (fun _ _ x => Till.any k x.2) (h.2 i hi)⟩
theorem Till.done {listed : Array Bool} {a : Act} {w : World} (hr : Region.ready md ops listed = []) (h : Q .normal a w) : ∀ k, Till P md ops Q E S k listed a w
  | 0 => ⟨hr, h⟩
  | _ + 1 => ⟨fun _ => h, fun i hi => by rw [hr] at hi; cases hi⟩

/-- What has come up has come behind all that it waits for. -/
def Shut11 (md : Region.Mode) (ops : Array Oper) (listed : Array Bool) : Prop := ∀ j o, ops[j]? = some o → listed.getD j false = true → ∀ e ∈ o.after, Region.binds md e = true → listed.getD e.on false = true
theorem Shut11.start (n : Nat) : Shut11 md ops (Array.replicate n false) := fun j o _ h => by
  rw [Array.getD_eq_getD_getElem?] at h
  simp only [Array.getElem?_replicate] at h
  split at h <;> cases h
theorem Shut11.set {listed : Array Bool} {i : Nat} (h : Shut11 md ops listed) (hi : i ∈ Region.ready md ops listed) : Shut11 md ops (listed.setIfInBounds i true) := fun j o ho hj e he hb => by
  refine getD_set_true ?_
  rcases Nat.decEq i j with hne | heq
  · rw [getD_set_ne false hne] at hj
    exact h j o ho hj e he hb
  · subst heq
    obtain ⟨_, p, hp, hall⟩ := mem_ready.1 hi
    rw [ho] at hp
    injection hp with hp
    subst hp
    exact hall e he hb
/-- m waits for i, by way of others. -/
def waitsB (md : Region.Mode) (ops : Array Oper) : Nat → Nat → Nat → Bool
  | 0, _, _ => false
  | k + 1, m, i => match ops[m]? with
    | some o => o.after.any (fun e => Region.binds md e && (e.on == i || waitsB md ops k e.on i))
    | none => false
theorem waits_listed {listed : Array Bool} (h : Shut11 md ops listed) {i : Nat} : ∀ (k m : Nat), (∀ o, ops[m]? = some o → ∀ e ∈ o.after, Region.binds md e = true → listed.getD e.on false = true) → waitsB md ops k m i = true → listed.getD i false = true
  | 0, _, _, hw => by cases hw
  | k + 1, m, hd, hw => by
    unfold waitsB at hw
    cases ho : ops[m]? with
    | none => rw [ho] at hw; cases hw
    | some o =>
      rw [ho] at hw
      simp only [Array.any_eq_true'] at hw
      obtain ⟨e, he, h2⟩ := hw
      rw [Bool.and_eq_true, Bool.or_eq_true] at h2
      have hl := hd o ho e he h2.1
      rcases h2.2 with h3 | h3
      · rw [← beq_iff_eq.1 h3]; exact hl
      · exact waits_listed h k e.on (fun p hp f hf hb => h e.on p hp hl f hf hb) h3

/-- One that may come up, and for which all of E wait, is taken first. -/
theorem Till.first {i : Nat} {o : Oper} {v : Value} {d : Nat} (ho : ops[i]? = some o) (hE : E.all (fun m => waitsB md ops d m i) = true) (hsel : ∀ (j : Nat) (p : Oper) cs b, ops[j]? = some p → p.op ≠ .select cs b)
    (hQ : ∀ c a w, Q (.panic c) (a.put o.dst v) w → Q (.panic c) a w) : ∀ (k : Nat) (listed : Array Bool) (a : Act) (w : World), Shut11 md ops listed →
      (∀ j p, ops[j]? = some p → j ≠ i → listed.getD j true = false → (∀ e ∈ p.after, Region.binds md e = true → e.on ≠ i) → o.apart ops p = true) →
      i ∈ Region.ready md ops listed → YieldsIf P ops S o v a → S w →
      Till P md ops Q E S k (listed.setIfInBounds i true) (a.put o.dst v) w → Till P md ops Q E S (k + 1) listed a w := by
  intro k
  induction k with
  | zero =>
    intro listed a w hsh hfree hr hy hS H
    refine ⟨fun h => (by rw [h] at hr; cases hr), fun j hj => ?_⟩
    rcases Nat.decEq j i with hne | heq
    · have hji : j ∈ Region.ready md ops (listed.setIfInBounds i true) := ready_mono hj hne
      rw [H.1] at hji
      cases hji
    · subst heq
      exact hy.wpOp ho hS ⟨fun _ => hS, H⟩
  | succ k ih =>
    intro listed a w hsh hfree hr hy hS H
    refine ⟨fun h => (by rw [h] at hr; cases hr), fun j hj => ?_⟩
    rcases Nat.decEq j i with hne | heq
    · have hji : j ∈ Region.ready md ops (listed.setIfInBounds i true) := ready_mono hj hne
      obtain ⟨hun, p, hp, hall⟩ := mem_ready.1 hj
      have h0 : listed.getD i true = false := (mem_ready.1 hr).1
      have h0f : listed.getD i false = false := by
        rcases Nat.lt_or_ge i listed.size with hl | hl
        · simp [hl] at h0 ⊢; exact h0
        · simp [Array.getElem?_eq_none hl] at h0
      have hnot : ∀ e ∈ p.after, Region.binds md e = true → e.on ≠ i := fun e he hb hei => by
        have h1 := hall e he hb
        rw [hei, h0f] at h1
        cases h1
      have hjE : j ∉ E := fun hjE => by
        have h1 := waits_listed hsh d j (fun q hq e he hb => by rw [hp] at hq; injection hq with hq; subst hq; exact hall e he hb) (List.all_eq_true.1 hE j hjE)
        rw [h0f] at h1
        cases h1
      have h2 := wpOp_putIf hp (hfree j p hp hne hun hnot) (fun cs b => hsel i o cs b ho) (fun cs b => hsel j p cs b hp) hQ hy (H.2 j hji)
      have hfree' : ∀ q r, ops[q]? = some r → q ≠ i → (listed.setIfInBounds j true).getD q true = false → (∀ e ∈ r.after, Region.binds md e = true → e.on ≠ i) → o.apart ops r = true := fun q r hq hqi hqu hqn => by
        refine hfree q r hq hqi ?_ hqn
        rcases Nat.decEq j q with hjq | hjq
        · rw [getD_set_ne true hjq] at hqu; exact hqu
        · subst hjq; exact hun
      refine wpOp_mono (fun b u h3 => ⟨h3.2.1, ih (listed.setIfInBounds j true) b u (hsh.set hj) hfree' (ready_mono hr (Ne.symm hne)) h3.1 (h3.2.1 hjE) ?_⟩) h2
      rw [Array.setIfInBounds_comm _ _ hne]
      exact h3.2.2
    · subst heq
      exact hy.wpOp ho hS ⟨fun _ => hS, H⟩

/-! The moves of a walk. -/
theorem Till.region {id : Nat} {a : Act} {w : World} (hm : P.follows .mixedOrders = true) (hS : S w.drew) (h : S w.drew → Shut11 .any ops (Array.replicate ops.size false) → Till P .any ops Q E S ops.size (Array.replicate ops.size false) a w.drew) : (Code.region id ops true).wp P Q a w :=
  wp_region_any hm (Till.any _ (h hS (Shut11.start _)))
theorem Till.take {i : Nat} {o : Oper} {v : Value} {d k : Nat} {listed : Array Bool} {a : Act} {w : World} (ho : ops[i]? = some o) (hs : Region.noSelect ops = true) (hf : Region.free md ops listed i = true) (hr : (Region.ready md ops listed).contains i = true) (hE : E.all (fun m => waitsB md ops d m i) = true)
    (hQ : ∀ c a w, Q (.panic c) (a.put o.dst v) w → Q (.panic c) a w) (hy : YieldsIf P ops S o v a) (hS : S w) (hsh : Shut11 md ops listed)
    (h : Shut11 md ops (listed.setIfInBounds i true) → Till P md ops Q E S k (listed.setIfInBounds i true) (a.put o.dst v) w) : Till P md ops Q E S (k + 1) listed a w :=
  Till.first ho hE (Region.noSelect_spec hs) hQ k listed a w hsh (Region.free_spec ho hf) (by simpa using hr) hy hS (h (hsh.set (by simpa using hr)))
theorem Till.one {i : Nat} {o : Oper} {k : Nat} {listed : Array Bool} {a : Act} {w : World} (hr : Region.ready md ops listed = [i]) (ho : ops[i]? = some o) (hsh : Shut11 md ops listed)
    (h : ∀ K' : Act → World → Prop, Shut (∀ b v, S v → (S v → Shut11 md ops (listed.setIfInBounds i true) → Till P md ops Q E S k (listed.setIfInBounds i true) b v) → K' b v) → if Region.wanted o (yielded ops a.tmps) = true then Oper.wp P o a w K' Q else K' (a.put o.dst undef) w) : Till P md ops Q E S (k + 1) listed a w := by
  have hi : i ∈ Region.ready md ops listed := by rw [hr]; exact List.mem_singleton_self i
  refine ⟨fun h0 => (by rw [h0] at hi; cases hi), fun j hj => ?_⟩
  rw [hr] at hj
  obtain rfl := List.mem_singleton.1 hj
  exact wpOp_step ho (fun K' hK => h K' (fun b v hS hW => hK b v ⟨fun _ => hS, hW hS (hsh.set hi)⟩))
theorem Till.last {i : Nat} {o : Oper} {k : Nat} {listed : Array Bool} {a : Act} {w : World} (hr : Region.ready md ops listed = [i]) (ho : ops[i]? = some o) (hiE : i ∈ E)
    (h : ∀ K' : Act → World → Prop, Shut (∀ b v, Till P md ops Q E S k (listed.setIfInBounds i true) b v → K' b v) → if Region.wanted o (yielded ops a.tmps) = true then Oper.wp P o a w K' Q else K' (a.put o.dst undef) w) : Till P md ops Q E S (k + 1) listed a w := by
  have hi : i ∈ Region.ready md ops listed := by rw [hr]; exact List.mem_singleton_self i
  refine ⟨fun h0 => (by rw [h0] at hi; cases hi), fun j hj => ?_⟩
  rw [hr] at hj
  obtain rfl := List.mem_singleton.1 hj
  exact wpOp_step ho (fun K' hK => h K' (fun b v hW => hK b v ⟨fun hn => absurd hiE hn, hW⟩))
end

theorem step_of_wp {P : Program} {ops : Array Oper} {o : Oper} {a : Act} {w : World} {K : Act → World → Prop} {Q : Exit → Act → World → Prop} {E : Prop} (hgd : o.guard = none) (h : Oper.wp P o a w K Q) :
    if Region.wanted o (yielded ops a.tmps) = true then Oper.wp P o a w K Q else E := by
  rw [if_pos (by simp [Region.wanted, hgd])]
  exact h

end Go.Proofs.YthjemelnbbpdcaaGreatDoor

/-! How an image runs, as the specification's walk holds it: the run's block, its row of registers, one instruction. -/
namespace Go.Proofs.YthjemelnbbpdcaaGreatDoor
open Go.RowKit

section
variable {rs : List Rt} {m k : Nat} {xs row row2 : List Int} {p p2 : Int}
theorem run14_nil : run14 rs 0 0 k xs row p = (0, 2, 0) := rfl
theorem run14_go (h : step14 rs k xs row p = .go row2 p2) : run14 rs (m + 1) (m + 1) k xs row p = run14 rs m m k xs row2 p2 := by rw [run14, h]
theorem run14_stop {v c : Int} (h : step14 rs k xs row p = .stop v c) : run14 rs (m + 1) (m + 1) k xs row p = (v, c, m) := by rw [run14, h]
theorem run14_call {k2 r : Nat} {xs2 : List Int} (h : step14 rs k xs row p = .call k2 xs2 r) : run14 rs (m + 1) (m + 1) k xs row p =
    if (run14 rs m m k2 xs2 row14 0).2.1 = 0 then run14 rs (run14 rs m m k2 xs2 row14 0).2.2 (run14 rs m m k2 xs2 row14 0).2.2 k xs (row.set r (run14 rs m m k2 xs2 row14 0).1) (p + 1) else (0, (run14 rs m m k2 xs2 row14 0).2.1, (run14 rs m m k2 xs2 row14 0).2.2) := by
  rw [run14, h]
  simp only
  split
  · exact run14_gas rs m _ _ k xs _ _ (run14_left rs m m k2 xs2 row14 0) (Nat.le_refl _)
  · rfl
end
theorem mem_getR {l : List In13} {p : Nat} (hp : p < l.length) : l.getD p in0 ∈ l := by rw [List.getD_eq_getElem?_getD, List.getElem?_eq_getElem hp]; exact List.getElem_mem hp
/-- What an instruction of right code asks. -/
structure Ir14 (rs : List Rt) (k p : Nat) (i : In13) : Prop where
  e : (rs.getD k rt0).2.2.getD p in0 = i
  ok : insP i
  nx : i.1 ≠ 8 → i.1 ≠ 10 → p + 1 < (rs.getD k rt0).2.2.length
  pl : i.1 = 7 ∨ i.1 = 8 → i.2.2.1 < ((rs.getD k rt0).2.2.length : Int)
  ar : i.1 = 2 → i.2.2.1 < (rs.getD k rt0).2.1
  ca : i.1 = 9 → 0 ≤ at14 rs i.2.2.2.2 ∧ at14 rs i.2.2.2.2 < rs.length ∧ (rs.getD (at14 rs i.2.2.2.2).toNat rt0).2.1 = i.2.2.1
theorem ir_of {rs : List Rt} (h : imageB rs = true) {k p : Nat} (hk : k < rs.length) (hp : p < (rs.getD k rt0).2.2.length) : Ir14 rs k p ((rs.getD k rt0).2.2.getD p in0) := by
  have h1 := (of_decide_eq_true h).1 k hk
  obtain ⟨hr, _, hc⟩ := h1
  obtain ⟨_, _, hco, har⟩ := rtB_parts hr
  have hcd := of_decide_eq_true hco
  have hm : (rs.getD k rt0).2.2.getD p in0 ∈ (rs.getD k rt0).2.2 := mem_getR hp
  refine ⟨rfl, (hcd.2.1 _ hm).1, fun h8 h10 => ?_, fun e => (hcd.2.1 _ hm).2 e, fun h2 => ?_, fun h9 => ?_⟩
  · rcases Nat.lt_or_ge (p + 1) (rs.getD k rt0).2.2.length with hl | hl
    · exact hl
    · have e : p = (rs.getD k rt0).2.2.length - 1 := by omega
      rw [e] at h8 h10
      rcases hcd.2.2 with q | q
      · exact absurd q h10
      · exact absurd q h8
  · have h3 := List.all_eq_true.1 har _ hm
    unfold argB at h3
    rw [h2] at h3
    simp at h3
    exact h3
  · have h3 := List.all_eq_true.1 hc _ hm
    unfold clsB at h3
    rw [h9] at h3
    simp only [ne_eq, not_true_eq_false, decide_false, Bool.false_or, Bool.and_eq_true, decide_eq_true_eq] at h3
    exact ⟨h3.1, (at14_bd _ _).2, h3.2⟩
section
variable {rs : List Rt} {k p : Nat} {xs row : List Int} {i : In13}
theorem Ir14.s1 (h : Ir14 rs k p i) (hk : i.1 = 1) : step14 rs k xs row (p : Int) = .go (row.set i.2.1.toNat i.2.2.1) ((p : Int) + 1) := by
  unfold step14; simp only [Int.toNat_natCast, h.e]; rw [if_pos hk]
theorem Ir14.s2 (h : Ir14 rs k p i) (hk : i.1 = 2) : step14 rs k xs row (p : Int) = .go (row.set i.2.1.toNat (xs.getD i.2.2.1.toNat 0)) ((p : Int) + 1) := by
  unfold step14; simp only [Int.toNat_natCast, h.e]; rw [if_neg (by omega), if_pos hk]
theorem Ir14.s7 (h : Ir14 rs k p i) (hk : i.1 = 7) : step14 rs k xs row (p : Int) = .go row (if row.getD i.2.1.toNat 0 = 0 then i.2.2.1 else (p : Int) + 1) := by
  unfold step14; simp only [Int.toNat_natCast, h.e]; rw [if_neg (by omega), if_neg (by omega), if_pos hk]
theorem Ir14.s8 (h : Ir14 rs k p i) (hk : i.1 = 8) : step14 rs k xs row (p : Int) = .go row i.2.2.1 := by
  unfold step14; simp only [Int.toNat_natCast, h.e]; rw [if_neg (by omega), if_neg (by omega), if_neg (by omega), if_pos hk]
theorem Ir14.s9 (h : Ir14 rs k p i) (hk : i.1 = 9) : step14 rs k xs row (p : Int) = .call (at14 rs i.2.2.2.2).toNat ((row.drop i.2.1.toNat).take i.2.2.1.toNat) i.2.1.toNat := by
  unfold step14; simp only [Int.toNat_natCast, h.e]; rw [if_neg (by omega), if_neg (by omega), if_neg (by omega), if_neg (by omega), if_pos hk]
theorem Ir14.s10 (h : Ir14 rs k p i) (hk : i.1 = 10) : step14 rs k xs row (p : Int) = .stop (row.getD i.2.1.toNat 0) 0 := by
  unfold step14; simp only [Int.toNat_natCast, h.e]; rw [if_neg (by omega), if_neg (by omega), if_neg (by omega), if_neg (by omega), if_neg (by omega), if_pos hk]
theorem Ir14.s3 (h : Ir14 rs k p i) (hk : 3 ≤ i.1 ∧ i.1 ≤ 6) : step14 rs k xs row (p : Int) = if doneB i.1 (row.getD i.2.2.1.toNat 0) (row.getD i.2.2.2.1.toNat 0) = true then .go (row.set i.2.1.toNat (doneV i.1 (row.getD i.2.2.1.toNat 0) (row.getD i.2.2.2.1.toNat 0))) ((p : Int) + 1) else .stop 0 1 := by
  unfold step14; simp only [Int.toNat_natCast, h.e]; rw [if_neg (by omega), if_neg (by omega), if_neg (by omega), if_neg (by omega), if_neg (by omega), if_neg (by omega)]
end
theorem intsV_setR (l : List Int) (j : Nat) (v : Int) : (intsV l).set j (.int .i64 v) = intsV (l.set j v) := by
  unfold intsV
  rw [List.map_set]



end Go.Proofs.YthjemelnbbpdcaaGreatDoor

/-! What reading an image holds: the routines so far, and the instruction that is being read. -/
namespace Go.Proofs.YthjemelnbbpdcaaGreatDoor
open Go.RowKit

theorem readI_at (O : List Rt) (ls : List (List UInt8)) (k : Nat) (hk : k < ls.length) : readI O (ls.drop k) =
    if (splitL 32 (ls.getD k [])).length = 4 ∧ (splitL 32 (ls.getD k [])).getD 0 [] = kwRt then readI (O ++ [((splitL 32 (ls.getD k [])).getD 1 [], readV ((splitL 32 (ls.getD k [])).getD 2 []), [])]) (ls.drop (k + 1))
    else if (splitL 32 (ls.getD k [])).length ≠ 5 ∨ O = [] then []
    else readI (addI O (insRd (splitL 32 (ls.getD k [])))) (ls.drop (k + 1)) := by
  have e : ls.getD k [] = ls[k] := by rw [List.getD_eq_getElem?_getD, List.getElem?_eq_getElem hk]; rfl
  rw [List.drop_eq_getElem_cons hk, e, readI]

theorem mem_flatR {x : List UInt8} : ∀ {ls : List (List UInt8)}, x ∈ ls → x.length ≤ ls.flatten.length
  | y :: r, h => by
    rw [List.flatten_cons, List.length_append]
    rcases List.mem_cons.1 h with rfl | h
    · omega
    · have := mem_flatR h; omega
theorem getD_memR {α : Type} (ls : List α) (j : Nat) (d : α) (hj : j < ls.length) : ls.getD j d ∈ ls := by
  rw [List.getD_eq_getElem?_getD, List.getElem?_eq_getElem hj]; exact List.getElem_mem hj
theorem word_lenR (b : UInt8) (x : List UInt8) (j : Nat) : ((splitL b x).getD j []).length ≤ x.length := by
  by_cases hj : j < (splitL b x).length
  · have h1 := mem_flatR (getD_memR (splitL b x) j [] hj)
    have h2 := splitGo_flat b x []
    unfold splitL at h1 ⊢
    simp at h2
    simp only [List.length_flatten] at h1
    omega
  · rw [List.getD_eq_getElem?_getD, List.getElem?_eq_none (by omega)]; simp
theorem line_lenR (l : List UInt8) (j : Nat) : ((linesL l).getD j []).length ≤ l.length := by
  by_cases hj : j < (linesL l).length
  · have h0 := getD_memR (linesL l) j [] hj
    have hm : (linesL l).getD j [] ∈ splitL 10 l := by
      unfold linesL at h0 ⊢
      split
      · rename_i h; rw [if_pos h] at h0; exact (List.dropLast_sublist _).subset h0
      · rename_i h; rw [if_neg h] at h0; exact h0
    have h1 := mem_flatR hm
    have h2 := splitGo_flat 10 l []
    unfold splitL at h1
    simp at h2
    simp only [List.length_flatten] at h1
    omega
  · rw [List.getD_eq_getElem?_getD, List.getElem?_eq_none (by omega)]; simp

theorem rtsV_set2 (ys : List RV) (nm : List UInt8) (ar : Int) (c c' : List In13) (a a' : Option Addr) (cv cv' : Nat) : (rtsV (ys ++ [((nm, ar, c), a, cv)])).set (ys.length * 3 + 2) (rvT ((nm, ar, c'), a', cv')) = rtsV (ys ++ [((nm, ar, c'), a', cv')]) := by
  rw [rtsV_append, List.set_append_right _ _ (by rw [rtsV_len]; omega), rtsV_len, show ys.length * 3 + 2 - ys.length * 3 = 2 by omega, rtsV_append]
  rfl

/-- The routines so far. -/
structure Rd14 (w X : World) (v : Value) (xs : List RV) : Prop where
  fo : RtsOwn X w.heap.size v xs
  ap : ApartR (xs.map rvT)
  b : Below w.heap.size w X
section
variable {w X Y : World} {v : Value} {xs : List RV}
theorem Rd14.below (h : Rd14 w X v xs) (hb : Below X.heap.size X Y) : Rd14 w Y v xs := ⟨h.fo.below hb, h.ap, h.b.trans (hb.mono h.b.size)⟩
theorem Rd14.drew (h : Rd14 w X v xs) : Rd14 w X.drew v xs := h.below ⟨rfl, rfl, rfl, Nat.le_refl _, fun _ _ => rfl⟩
theorem Rd14.nil (hb : Below w.heap.size w X) : Rd14 w (X.alloc (.cells #[] 40)) (.slice (some ⟨X.heap.size, 0, none⟩) 0 0) [] :=
  ⟨⟨World.ownsRow_lit X #[] 0 hb.size (by decide) rfl, fun x hx => by cases hx⟩, ApartR.nil, hb.alloc hb.size _⟩
theorem Rd14.set (h : Rd14 w X v xs) (N j : Nat) (u : Value) (hN : w.heap.size ≤ N) (hv : v.ownBlock ≠ some N) (ht : ∀ z ∈ xs, (rvT z).ownBlock ≠ some N) : Rd14 w (X.setCell ⟨N, j, none⟩ u) v xs :=
  ⟨h.fo.kept (grown_set X N j u) (Or.inr hv) (fun z hz => Or.inr (ht z hz)), h.ap, h.b.grown (grown_set X N j u) h.b.size (fun k e => by injection e with e; omega)⟩

/-- One more routine. -/
theorem Rd14.rt {a : Option Addr} {c : Nat} (h : Rd14 w X (.slice a xs.length c) xs) (nm : List UInt8) (ar : Int) (hn : xs.length ≤ 1048576) :
    ∃ g' c' Y, (Builtin.append_ #[24, 24] 24 #[.slice a xs.length c, .slice (some ⟨X.heap.size, 0, none⟩) 1 1]).run Tryz.prog (X.alloc (.cells #[.string ⟨nm.toArray⟩, .int .i64 ar, .slice none 0 0] 40)) = .ok (.slice (some ⟨g', 0, none⟩) (xs.length + 1) c') Y ∧ Rd14 w Y (.slice (some ⟨g', 0, none⟩) (xs.length + 1) c') (xs ++ [((nm, ar, []), none, 0)]) := by
  obtain ⟨i0, hi, hz0, hz1, hz2⟩ := info_parts infoRt
  obtain ⟨W, hW⟩ : ∃ W, X.alloc (.cells #[.string ⟨nm.toArray⟩, .int .i64 ar, .slice none 0 0] 40) = W := ⟨_, rfl⟩
  have hsrc := new_rt X ((nm, ar, []), none, 0) 1
  have hr : (rvT ((nm, ar, []), none, 0)) = .slice none 0 0 := rfl
  rw [hr] at hsrc
  simp only at hsrc
  have hrow := h.fo.row.alloc (.cells #[.string ⟨nm.toArray⟩, .int .i64 ar, .slice none 0 0] 40)
  have htr : ∀ x ∈ xs, W.ownsRow w.heap.size 57 5 (rvT x) x.1.2.2.length (insV x.1.2.2) := fun x hx => by rw [← hW]; exact (h.fo.trees x hx).alloc _
  have hbW : Below w.heap.size w W := by rw [← hW]; exact h.b.alloc h.b.size _
  rw [hW] at hsrc hrow ⊢
  obtain ⟨v', Y, hrun, hown, hg, _⟩ := run_append_src (P := Tryz.prog) W w.heap.size 24 24 40 i0 _ 3 48 Tryz.underlying24 hi hz0 hz1 hz2 rfl (by decide) _ _ _ hrow (.slice (some ⟨X.heap.size, 0, none⟩) 1 1) 1 _ hsrc (by unfold maxLen; omega) (by omega) hbW.size
  obtain ⟨g', c', rfl⟩ := own_some hown (by omega)
  rw [← rtsV_append] at hown
  refine ⟨g', c', Y, hrun, ⟨by rw [List.length_append]; exact hown, fun x hx => ?_⟩, ?_, hbW.grown hg hbW.size (fun k e => (hrow.lt k e).1)⟩
  · rcases List.mem_append.1 hx with hx | hx
    · exact (htr x hx).kept hg (own_typesR (htr x hx) hrow (by decide))
    · obtain rfl := List.mem_singleton.1 hx
      exact World.ownsRow_nil _ _ _ _
  · rw [List.map_append]
    refine h.ap.snoc (fun u _ => ?_)
    cases hu : u.ownBlock with
    | none => exact Or.inl rfl
    | some k => exact Or.inr (by simp [rvT, Value.ownBlock])

theorem Rd14.code {gO c : Nat} {ys : List RV} {nm : List UInt8} {ar : Int} {code : List In13} {av : Option Addr} {cv : Nat} (h : Rd14 w X (.slice (some ⟨gO, 0, none⟩) (ys.length + 1) c) (ys ++ [((nm, ar, code), av, cv)])) : X.cell? ⟨gO, ys.length * 3 + 2, none⟩ = some (.slice av code.length cv) := by
  have hr := h.fo.row
  rw [show (ys ++ [((nm, ar, code), av, cv)]).length = ys.length + 1 by simp] at hr
  rw [hr.cellAt (ys.length * 3 + 2) (by omega), rtsV_append, List.getElem?_append_right (by rw [rtsV_len]; omega), rtsV_len, show ys.length * 3 + 2 - ys.length * 3 = 2 by omega]
  rfl
/-- One more instruction in the last routine's code. -/
theorem Rd14.ins {gO c : Nat} {ys : List RV} {nm : List UInt8} {ar : Int} {code : List In13} {av : Option Addr} {cv : Nat} (i : In13)
    (h : Rd14 w X (.slice (some ⟨gO, 0, none⟩) (ys.length + 1) c) (ys ++ [((nm, ar, code), av, cv)])) (hn : code.length ≤ 1048576) :
    ∃ g' c' Y, (Builtin.append_ #[38, 38] 38 #[.slice av code.length cv, .slice (some ⟨X.heap.size, 0, none⟩) 1 1]).run Tryz.prog (X.alloc (.cells #[.int .i64 i.1, .int .i64 i.2.1, .int .i64 i.2.2.1, .int .i64 i.2.2.2.1, .string ⟨i.2.2.2.2.toArray⟩] 57)) = .ok (.slice (some ⟨g', 0, none⟩) (code.length + 1) c') Y ∧
      Y.cell? ⟨gO, ys.length * 3 + 2, none⟩ = some (.slice av code.length cv) ∧ Y.frozen? ⟨gO, ys.length * 3 + 2, none⟩ = false ∧
      Rd14 w (Y.setCell ⟨gO, ys.length * 3 + 2, none⟩ (.slice (some ⟨g', 0, none⟩) (code.length + 1) c')) (.slice (some ⟨gO, 0, none⟩) (ys.length + 1) c) (ys ++ [((nm, ar, code ++ [i]), some ⟨g', 0, none⟩, c')]) := by
  obtain ⟨i0, hi, hz0, hz1, hz2⟩ := info_parts infoIns
  have hT : X.ownsRow w.heap.size 57 5 (.slice av code.length cv) code.length (insV code) := h.fo.trees ((nm, ar, code), av, cv) (by simp)
  obtain ⟨W, hW⟩ : ∃ W, X.alloc (.cells #[.int .i64 i.1, .int .i64 i.2.1, .int .i64 i.2.2.1, .int .i64 i.2.2.2.1, .string ⟨i.2.2.2.2.toArray⟩] 57) = W := ⟨_, rfl⟩
  have hTW : W.ownsRow w.heap.size 57 5 (.slice av code.length cv) code.length (insV code) := by rw [← hW]; exact hT.alloc _
  have hsW : W.heap.size = X.heap.size + 1 := by rw [← hW]; simp
  have hnew := new_ins X i
  have hgW : X.grownBy W (Value.slice av code.length cv).ownBlock := by rw [← hW]; exact World.grownBy_alloc X _ _
  rw [hW] at hnew ⊢
  obtain ⟨v', Y, hrun, hown, hg, _, hat⟩ := run_append_own_at (P := Tryz.prog) W w.heap.size 38 38 57 i0 _ 5 48 Tryz.underlying38 hi hz0 hz1 hz2 rfl (by decide) _ _ _ hTW ⟨X.heap.size, 0, none⟩ 1 1 (insV [i]) rfl hnew (insV_one _) (by unfold maxLen; omega) (by omega) (by have := h.b.size; omega)
  obtain ⟨g', c', rfl⟩ := own_some hown (by omega)
  rw [← insV_append] at hown
  have hgX : X.grownBy Y (Value.slice av code.length cv).ownBlock := hgW.trans hg
  have hrowX := h.fo.row
  have hrowY := hrowX.kept hgX (own_typesR hrowX hT (by decide))
  have hl : (ys ++ [((nm, ar, code), av, cv)]).length = ys.length + 1 := by simp
  rw [hl] at hrowY
  have hcY : Y.cell? ⟨gO, ys.length * 3 + 2, none⟩ = some (.slice av code.length cv) := by
    rw [hrowY.cellAt (ys.length * 3 + 2) (by omega), rtsV_append, List.getElem?_append_right (by rw [rtsV_len]; omega), rtsV_len, show ys.length * 3 + 2 - ys.length * 3 = 2 by omega]
    rfl
  have hs := hrowY.stored (ys.length * 3 + 2) (.slice (some ⟨g', 0, none⟩) (code.length + 1) c')
  have hsv : Value.slice (some ⟨g', 0, none⟩) (code.length + 1) c' = rvT ((nm, ar, code ++ [i]), some ⟨g', 0, none⟩, c') := by unfold rvT; simp
  have hset := rtsV_set2 ys nm ar code (code ++ [i]) av (some ⟨g', 0, none⟩) cv c'
  rw [← hsv] at hset
  rw [hset] at hs
  have hap := h.ap
  rw [List.map_append] at hap
  have hap2 := List.pairwise_append.1 hap
  have hne : ∀ z ∈ ys, (rvT z).ownBlock = none ∨ (rvT z).ownBlock ≠ (Value.slice av code.length cv).ownBlock := fun z hz => hap2.2.2 (rvT z) (List.mem_map.2 ⟨z, hz, rfl⟩) _ (by simp [rvT])
  have hgo : (Value.slice (some ⟨gO, 0, none⟩) (ys.length + 1) c).ownBlock = some gO := rfl
  refine ⟨g', c', Y, hrun, hcY, hrowY.frozenAt _, ⟨?_, fun z hz => ?_⟩, ?_, ?_⟩
  · rw [List.length_append]; exact hs.1
  · rcases List.mem_append.1 hz with hz | hz
    · have h1 := (h.fo.trees z (List.mem_append.2 (Or.inl hz))).kept hgX (hne z hz)
      exact h1.kept hs.2 (own_typesR h1 hrowY (by decide))
    · obtain rfl := List.mem_singleton.1 hz
      have h1 := hown.kept hs.2 (own_typesR hown hrowY (by decide))
      rw [← hsv]
      simpa using h1
  · rw [List.map_append]
    refine ApartR.snoc hap2.1 (fun u hu => ?_)
    obtain ⟨z, hz, rfl⟩ := List.mem_map.1 hu
    rw [← hsv]
    rcases hat with e | e
    · rw [e]; exact hne z hz
    · rw [e]
      cases hzb : (rvT z).ownBlock with
      | none => exact Or.inl rfl
      | some q =>
        have := ((h.fo.trees z (List.mem_append.2 (Or.inl hz))).lt q hzb).2
        exact Or.inr (by intro e2; injection e2 with e2; omega)
  · have hb1 := h.b.grown hgX h.b.size (fun k e => (hT.lt k e).1)
    exact hb1.grown hs.2 hb1.size (fun k e => (hrowX.lt k e).1)
end

/-- The instruction that is being read: its block N; its words lie in g2. -/
structure Bi14 (w X : World) (v : Value) (xs : List RV) (N g2 : Nat) (ws : List (List UInt8)) (i : In13) : Prop where
  rd : Rd14 w X v xs
  blk : X.heap[N]? = some (.cells #[.int .i64 i.1, .int .i64 i.2.1, .int .i64 i.2.2.1, .int .i64 i.2.2.2.1, .string ⟨i.2.2.2.2.toArray⟩] 57 (0, 0))
  cw : ∀ j, j < ws.length → X.cell? ⟨g2, j, none⟩ = some (.string ⟨(ws.getD j []).toArray⟩)
  wN : w.heap.size ≤ N
  ov : v.ownBlock ≠ some N
  ot : ∀ z ∈ xs, (rvT z).ownBlock ≠ some N
  gN : g2 ≠ N
section
variable {w X Y : World} {v : Value} {xs : List RV} {N g2 : Nat} {ws : List (List UInt8)} {i i' : In13}
theorem Bi14.c0 (h : Bi14 w X v xs N g2 ws i) : X.cell? ⟨N, 0, none⟩ = some (.int .i64 i.1) := by rw [cell_of_row _ _ _ _ _ _ h.blk]; rfl
theorem Bi14.c1 (h : Bi14 w X v xs N g2 ws i) : X.cell? ⟨N, 1, none⟩ = some (.int .i64 i.2.1) := by rw [cell_of_row _ _ _ _ _ _ h.blk]; rfl
theorem Bi14.c2 (h : Bi14 w X v xs N g2 ws i) : X.cell? ⟨N, 2, none⟩ = some (.int .i64 i.2.2.1) := by rw [cell_of_row _ _ _ _ _ _ h.blk]; rfl
theorem Bi14.c3 (h : Bi14 w X v xs N g2 ws i) : X.cell? ⟨N, 3, none⟩ = some (.int .i64 i.2.2.2.1) := by rw [cell_of_row _ _ _ _ _ _ h.blk]; rfl
theorem Bi14.c4 (h : Bi14 w X v xs N g2 ws i) : X.cell? ⟨N, 4, none⟩ = some (.string ⟨i.2.2.2.2.toArray⟩) := by rw [cell_of_row _ _ _ _ _ _ h.blk]; rfl
theorem Bi14.fz (h : Bi14 w X v xs N g2 ws i) (j : Nat) : X.frozen? ⟨N, j, none⟩ = false := frozen_of_row _ _ _ _ _ h.blk
theorem Bi14.new (h : Rd14 w X v xs) (hc : ∀ j, j < ws.length → X.cell? ⟨g2, j, none⟩ = some (.string ⟨(ws.getD j []).toArray⟩)) (hg : g2 < X.heap.size) (i : In13) :
    Bi14 w (X.alloc (.cells #[.int .i64 i.1, .int .i64 i.2.1, .int .i64 i.2.2.1, .int .i64 i.2.2.2.1, .string ⟨i.2.2.2.2.toArray⟩] 57)) v xs X.heap.size g2 ws i := by
  have hb : Below X.heap.size X (X.alloc (.cells #[.int .i64 i.1, .int .i64 i.2.1, .int .i64 i.2.2.1, .int .i64 i.2.2.2.1, .string ⟨i.2.2.2.2.toArray⟩] 57)) := (Below.refl _ _).alloc (Nat.le_refl _) _
  exact ⟨h.below hb, heap_alloc_new X _, fun j hj => (hb.cell (p := ⟨g2, j, none⟩) hg).trans (hc j hj), h.b.size, fun e => by have := (h.fo.row.lt _ e).2; omega, fun z hz e => by have := ((h.fo.trees z hz).lt _ e).2; omega, Nat.ne_of_lt hg⟩
theorem Bi14.set (h : Bi14 w X v xs N g2 ws i) (j : Nat) (u : Value) (hv : (#[.int .i64 i.1, .int .i64 i.2.1, .int .i64 i.2.2.1, .int .i64 i.2.2.2.1, .string ⟨i.2.2.2.2.toArray⟩] : Array Value).setIfInBounds j u = #[.int .i64 i'.1, .int .i64 i'.2.1, .int .i64 i'.2.2.1, .int .i64 i'.2.2.2.1, .string ⟨i'.2.2.2.2.toArray⟩]) : Bi14 w (X.setCell ⟨N, j, none⟩ u) v xs N g2 ws i' :=
  ⟨h.rd.set N j u h.wN h.ov h.ot, by rw [heap_setCell_same _ _ _ _ _ _ h.blk, hv], fun q hq => (World.cell?_setCell_other _ _ _ _ (fun e => h.gN (by injection e with e; exact e.symm))).trans (h.cw q hq), h.wN, h.ov, h.ot, h.gN⟩
end

end Go.Proofs.YthjemelnbbpdcaaGreatDoor
