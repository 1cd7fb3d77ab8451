/-
  Parts of one proof, one behind the other: Math8R, Math8H.
-/
import Derived.Test.YtbojdcggnpdhcaaGreatDoorP4

/-! Plain facts of chapter 8: a text is put into a list that rises; what is reached. -/
namespace Go.Proofs.YtbojdcggnpdhcaaGreatDoor
open Go.RowKit

/-- How many come ahead of a text. -/
def low8 (s : List UInt8) : List (List UInt8) → Nat
  | [] => 0
  | x :: r => if Op.bytesLess x s = true then low8 s r + 1 else 0
theorem low8_le (s : List UInt8) : ∀ ts, low8 s ts ≤ ts.length
  | [] => Nat.le_refl _
  | x :: r => by unfold low8; split <;> simp; exact low8_le s r
/-- As far as a walk has come. -/
theorem low8_at (s : List UInt8) : ∀ (ts : List (List UInt8)) (k : Nat), (∀ i, i < k → Op.bytesLess (ts.getD i []) s = true) → k ≤ ts.length → (k = ts.length ∨ Op.bytesLess (ts.getD k []) s = false) → low8 s ts = k
  | [], k, _, h, _ => by simp at h; subst h; rfl
  | x :: r, 0, _, _, h => by
    rcases h with h | h
    · simp at h
    · unfold low8; rw [if_neg (by simpa using h)]
  | x :: r, k + 1, h1, h2, h3 => by
    have h0 := h1 0 (by omega)
    unfold low8
    rw [if_pos (by simpa using h0)]
    rw [low8_at s r k (fun i hi => by simpa using h1 (i + 1) (by omega)) (by simpa using h2) (by rcases h3 with h | h; exact Or.inl (by simpa using h); exact Or.inr (by simpa using h))]
def put8 (ts : List (List UInt8)) (s : List UInt8) : List (List UInt8) := if ts[low8 s ts]? = some s then ts else ts.take (low8 s ts) ++ s :: ts.drop (low8 s ts)
theorem put8_mem {ts : List (List UInt8)} {s x : List UInt8} : x ∈ put8 ts s ↔ x = s ∨ x ∈ ts := by
  unfold put8
  split
  · rename_i h
    exact ⟨Or.inr, fun g => g.elim (fun e => by rw [e]; exact List.mem_of_getElem? h) id⟩
  · have e := List.take_append_drop (low8 s ts) ts
    rw [List.mem_append, List.mem_cons]
    constructor
    · rintro (h | h | h)
      · exact Or.inr (List.mem_of_mem_take h)
      · exact Or.inl h
      · exact Or.inr (List.mem_of_mem_drop h)
    · rintro (h | h)
      · exact Or.inr (Or.inl h)
      · rw [← e, List.mem_append] at h
        rcases h with h | h
        · exact Or.inl h
        · exact Or.inr (Or.inr h)
theorem put8_rise {s : List UInt8} : ∀ {ts : List (List UInt8)}, Rise ts → Rise (put8 ts s)
  | [], _ => by simp [put8, low8, Rise]
  | x :: r, h => by
    have hx := List.pairwise_cons.1 h
    by_cases hl : Op.bytesLess x s = true
    · have ih := put8_rise (s := s) (ts := r) hx.2
      have e : put8 (x :: r) s = x :: put8 r s := by
        unfold put8
        rw [show low8 s (x :: r) = low8 s r + 1 by rw [low8, if_pos hl]]
        rw [List.getElem?_cons_succ]
        split
        · rfl
        · rfl
      rw [e]
      refine List.pairwise_cons.2 ⟨fun y hy => ?_, ih⟩
      rcases put8_mem.1 hy with rfl | hy
      · exact hl
      · exact hx.1 y hy
    · have hl0 : low8 s (x :: r) = 0 := by rw [low8, if_neg hl]
      unfold put8
      rw [hl0]
      simp only [List.getElem?_cons_zero, Option.some.injEq, List.take_zero, List.drop_zero, List.nil_append]
      split
      · exact h
      · rename_i hne
        have hsx : Op.bytesLess s x = true := by
          rcases hb : Op.bytesLess s x with _ | _
          · exact absurd (lt8_tri (by simpa using hl) hb) hne
          · rfl
        refine List.pairwise_cons.2 ⟨fun y hy => ?_, h⟩
        rcases List.mem_cons.1 hy with rfl | hy
        · exact hsx
        · exact lt8_trans hsx (hx.1 y hy)
theorem put8_len (ts : List (List UInt8)) (s : List UInt8) : ts.length ≤ (put8 ts s).length ∧ (put8 ts s).length ≤ ts.length + 1 := by
  unfold put8
  have h := low8_le s ts
  split
  · omega
  · rw [List.length_append, List.length_cons, List.length_take, List.length_drop]; omega

/-! What is reached. -/
def in8 (ps : List Pk) (o : List (List UInt8)) (m : List UInt8) : List (List UInt8) := if m ∈ names8 ps then put8 o m else o
def inner8 (ps : List Pk) (o ms : List (List UInt8)) : List (List UInt8) := ms.foldl (in8 ps) o
def pass8 (ps : List Pk) (o : List (List UInt8)) (p : Pk) : List (List UInt8) := if p.1 ∈ o then inner8 ps o p.2.1 else o
def step8 (ps qs : List Pk) (o : List (List UInt8)) : List (List UInt8) := qs.foldl (pass8 ps) o
def reachGo (ps : List Pk) : Nat → List (List UInt8) → List (List UInt8)
  | 0, o => o
  | n + 1, o => if (step8 ps ps o).length = o.length then step8 ps ps o else reachGo ps n (step8 ps ps o)
def reach8 (ps : List Pk) (s : List UInt8) : List (List UInt8) := reachGo ps (ps.length + 1) [s]

/-- What is held of what is reached so far. -/
structure Re8 (ps : List Pk) (s : List UInt8) (o : List (List UInt8)) : Prop where
  rise : Rise o
  sub : ∀ x ∈ o, x ∈ names8 ps
  self : s ∈ o
  why : ∀ x ∈ o, x = s ∨ ∃ p ∈ ps, p.1 ∈ o ∧ x ∈ p.2.1
theorem Re8.len {ps : List Pk} {s : List UInt8} {o : List (List UInt8)} (h : Re8 ps s o) : o.length ≤ ps.length := by
  have := h.rise.nodup.length_le_of_subset (fun x hx => h.sub x hx)
  simpa [names8] using this
theorem Re8.put {ps : List Pk} {s : List UInt8} {o : List (List UInt8)} (h : Re8 ps s o) {p : Pk} (hp : p ∈ ps) (hpo : p.1 ∈ o) {m : List UInt8} (hm : m ∈ p.2.1) : Re8 ps s (in8 ps o m) := by
  unfold in8
  split
  · rename_i hn
    refine ⟨put8_rise h.rise, fun x hx => ?_, put8_mem.2 (Or.inr h.self), fun x hx => ?_⟩
    · rcases put8_mem.1 hx with rfl | hx
      · exact hn
      · exact h.sub x hx
    · rcases put8_mem.1 hx with rfl | hx
      · exact Or.inr ⟨p, hp, put8_mem.2 (Or.inr hpo), hm⟩
      · rcases h.why x hx with e | ⟨q, hq, hqo, hxq⟩
        · exact Or.inl e
        · exact Or.inr ⟨q, hq, put8_mem.2 (Or.inr hqo), hxq⟩
  · exact h
theorem in8_sub {ps : List Pk} {o : List (List UInt8)} {m x : List UInt8} (h : x ∈ o) : x ∈ in8 ps o m := by
  unfold in8
  split
  · exact put8_mem.2 (Or.inr h)
  · exact h
theorem inner8_sub {ps : List Pk} {x : List UInt8} : ∀ (ms o : List (List UInt8)), x ∈ o → x ∈ inner8 ps o ms
  | [], _, h => h
  | m :: r, o, h => inner8_sub r (in8 ps o m) (in8_sub h)
theorem inner8_has {ps : List Pk} {x : List UInt8} (hx : x ∈ names8 ps) : ∀ (ms o : List (List UInt8)), x ∈ ms → x ∈ inner8 ps o ms
  | m :: r, o, h => by
    rcases List.mem_cons.1 h with rfl | h
    · refine inner8_sub r (in8 ps o x) ?_
      unfold in8; rw [if_pos hx]; exact put8_mem.2 (Or.inl rfl)
    · exact inner8_has hx r (in8 ps o m) h
theorem Re8.inner {ps : List Pk} {s : List UInt8} {p : Pk} (hp : p ∈ ps) : ∀ (ms o : List (List UInt8)), Re8 ps s o → p.1 ∈ o → (∀ m ∈ ms, m ∈ p.2.1) → Re8 ps s (inner8 ps o ms)
  | [], _, h, _, _ => h
  | m :: r, o, h, hpo, hm => Re8.inner hp r (in8 ps o m) (h.put hp hpo (hm m List.mem_cons_self)) (in8_sub hpo) (fun x hx => hm x (List.mem_cons_of_mem _ hx))
theorem Re8.pass {ps : List Pk} {s : List UInt8} {o : List (List UInt8)} (h : Re8 ps s o) {p : Pk} (hp : p ∈ ps) : Re8 ps s (pass8 ps o p) := by
  unfold pass8
  split
  · rename_i hpo
    exact Re8.inner hp _ _ h hpo (fun m hm => hm)
  · exact h
theorem pass8_sub {ps : List Pk} {o : List (List UInt8)} {p : Pk} {x : List UInt8} (h : x ∈ o) : x ∈ pass8 ps o p := by
  unfold pass8
  split
  · exact inner8_sub _ _ h
  · exact h
theorem step8_sub {ps : List Pk} {x : List UInt8} : ∀ (qs : List Pk) (o : List (List UInt8)), x ∈ o → x ∈ step8 ps qs o
  | [], _, h => h
  | p :: r, o, h => step8_sub r (pass8 ps o p) (pass8_sub h)
theorem Re8.step {ps : List Pk} {s : List UInt8} : ∀ (qs : List Pk) (o : List (List UInt8)), (∀ q ∈ qs, q ∈ ps) → Re8 ps s o → Re8 ps s (step8 ps qs o)
  | [], _, _, h => h
  | p :: r, o, hq, h => Re8.step r (pass8 ps o p) (fun q hqr => hq q (List.mem_cons_of_mem _ hqr)) (h.pass (hq p List.mem_cons_self))
theorem step8_has {ps : List Pk} {x : List UInt8} (hx : x ∈ names8 ps) {p : Pk} (hxp : x ∈ p.2.1) : ∀ (qs : List Pk) (o : List (List UInt8)), p ∈ qs → p.1 ∈ o → x ∈ step8 ps qs o
  | q :: r, o, hp, hpo => by
    rcases List.mem_cons.1 hp with rfl | hp
    · refine step8_sub r (pass8 ps o p) ?_
      unfold pass8; rw [if_pos hpo]; exact inner8_has hx _ _ hxp
    · exact step8_has hx hxp r (pass8 ps o q) hp (pass8_sub hpo)
/-- Two lists of no two alike, one in the other, of one length, hold the same. -/
theorem same_mem {α : Type} [DecidableEq α] {a b : List α} (ha : a.Nodup) (hs : ∀ x ∈ a, x ∈ b) (hl : b.length = a.length) : ∀ x ∈ b, x ∈ a := fun x hx => by
  by_cases h : x ∈ a
  · exact h
  · have h1 : (x :: a).Nodup := List.nodup_cons.2 ⟨h, ha⟩
    have := h1.length_le_of_subset (fun y hy => by
      rcases List.mem_cons.1 hy with rfl | hy
      · exact hx
      · exact hs y hy)
    simp at this
    omega
/-- Closed: what is reached has what it imports. -/
def Shut8 (ps : List Pk) (o : List (List UInt8)) : Prop := ∀ p ∈ ps, p.1 ∈ o → ∀ m ∈ p.2.1, m ∈ names8 ps → m ∈ o
theorem shut8_of {ps : List Pk} {s : List UInt8} {o : List (List UInt8)} (h : Re8 ps s o) (hl : (step8 ps ps o).length = o.length) : Shut8 ps (step8 ps ps o) := fun p hp hpo m hm hn => by
  have hb := same_mem h.rise.nodup (fun x hx => step8_sub ps o hx) hl
  exact step8_has hn hm ps o hp (hb _ hpo)
theorem reachGo_end {ps : List Pk} {s : List UInt8} : ∀ (n : Nat) (o : List (List UInt8)), Re8 ps s o → ps.length < n + o.length → Re8 ps s (reachGo ps n o) ∧ Shut8 ps (reachGo ps n o)
  | 0, o, h, hl => by have := h.len; omega
  | n + 1, o, h, hl => by
    rw [reachGo]
    have h2 := Re8.step ps o (fun q hq => hq) h
    split
    · rename_i e; exact ⟨h2, shut8_of h e⟩
    · rename_i e
      have hle := h.rise.nodup.length_le_of_subset (fun x hx => step8_sub (ps := ps) ps o hx)
      exact reachGo_end n _ h2 (by omega)
theorem re8_one {ps : List Pk} {s : List UInt8} (h : s ∈ names8 ps) : Re8 ps s [s] :=
  ⟨List.pairwise_singleton _ _, fun x hx => by rw [List.mem_singleton] at hx; rw [hx]; exact h, List.mem_singleton.2 rfl, fun x hx => Or.inl (List.mem_singleton.1 hx)⟩
theorem reach8_end {ps : List Pk} {s : List UInt8} (h : s ∈ names8 ps) : Re8 ps s (reach8 ps s) ∧ Shut8 ps (reach8 ps s) := reachGo_end _ _ (re8_one h) (by simp only [List.length_singleton]; omega)

/-- What the functions of chapter 8 answer. -/
def orderV (ps : List Pk) : List (List UInt8) := if projB ps = true then order8 ps else []
def hereB (ps : List Pk) (s : List UInt8) : Bool := projB ps && decide (0 ≤ at8 ps s)
def reachV (ps : List Pk) (s : List UInt8) : List (List UInt8) := if hereB ps s = true then reach8 ps s else []
def need8 (ps : List Pk) (s : List UInt8) : List (List UInt8) := (order8 ps).filter (fun x => decide (x ≠ s ∧ x ∈ reach8 ps s))
def needV (ps : List Pk) (s : List UInt8) : List (List UInt8) := if hereB ps s = true then need8 ps s else []

end Go.Proofs.YtbojdcggnpdhcaaGreatDoor

/-! Plain facts: a heap of numbers in a list: one goes up, one goes down, the least is first. -/
namespace Go.Proofs.YtbojdcggnpdhcaaGreatDoor
open Go.RowKit

/-- The first n are a heap. -/
def HpN (l : List Nat) (n : Nat) : Prop := ∀ k, 0 < k → k < n → l.getD ((k - 1) / 2) 0 ≤ l.getD k 0
def sw (l : List Nat) (i j : Nat) : List Nat := (l.set i (l.getD j 0)).set j (l.getD i 0)
theorem sw_len (l : List Nat) (i j : Nat) : (sw l i j).length = l.length := by unfold sw; simp
theorem sw_at (l : List Nat) {i j : Nat} (hi : i < l.length) (hj : j < l.length) (k : Nat) : (sw l i j).getD k 0 = if k = j then l.getD i 0 else if k = i then l.getD j 0 else l.getD k 0 := by
  unfold sw
  rw [List.getD_eq_getElem?_getD, List.getElem?_set]
  by_cases h1 : j = k
  · subst h1
    rw [if_pos rfl, if_pos (by simpa using hj), if_pos rfl]
    rfl
  · rw [if_neg h1, if_neg (fun e => h1 e.symm), List.getElem?_set]
    by_cases h2 : i = k
    · subst h2
      rw [if_pos rfl, if_pos hi, if_pos rfl]
      rfl
    · rw [if_neg h2, if_neg (fun e => h2 e.symm), List.getD_eq_getElem?_getD]
theorem sw_perm (l : List Nat) {i j : Nat} (hi : i < l.length) (hj : j < l.length) : (sw l i j).Perm l := by
  rw [List.perm_iff_count]
  intro a
  have e1 : l.getD j 0 = l[j] := by simp [List.getD, hj]
  have e2 : l.getD i 0 = l[i] := by simp [List.getD, hi]
  unfold sw
  rw [e1, e2]
  have hj2 : j < (l.set i l[j]).length := by simpa using hj
  rw [List.count_set hj2, List.count_set hi]
  have c1 : l[i] = a → 0 < l.count a := fun e => List.count_pos_iff.2 (by rw [← e]; exact List.getElem_mem hi)
  by_cases hij : i = j
  · subst hij
    simp only [List.getElem_set_self]
    by_cases h1 : l[i] = a
    · have := c1 h1; simp only [h1, beq_self_eq_true, if_true]; omega
    · simp only [beq_eq_false_iff_ne.2 h1]; simp
  · rw [List.getElem_set_ne hij]
    by_cases h1 : l[i] = a
    · have := c1 h1
      by_cases h2 : l[j] = a
      · simp only [h1, h2, beq_self_eq_true, if_true]; omega
      · simp only [h1, beq_eq_false_iff_ne.2 h2, beq_self_eq_true, if_true]; simp; omega
    · by_cases h2 : l[j] = a
      · simp only [h2, beq_eq_false_iff_ne.2 h1, beq_self_eq_true, if_true]; simp
      · simp only [beq_eq_false_iff_ne.2 h1, beq_eq_false_iff_ne.2 h2]; simp

/-- All but the one at j stand right. -/
def HpUp (l : List Nat) (j : Nat) : Prop := (∀ k, 0 < k → k < l.length → k ≠ j → l.getD ((k - 1) / 2) 0 ≤ l.getD k 0) ∧ (∀ k, 0 < k → k < l.length → (k - 1) / 2 = j → 0 < j → l.getD ((j - 1) / 2) 0 ≤ l.getD k 0)
theorem up_step {l : List Nat} {j : Nat} (h : HpUp l j) (hj : j < l.length) (h0 : 0 < j) (hlt : l.getD j 0 < l.getD ((j - 1) / 2) 0) : HpUp (sw l ((j - 1) / 2) j) ((j - 1) / 2) := by
  have hi : (j - 1) / 2 < l.length := by omega
  refine ⟨fun k hk hkl hne => ?_, fun k hk hkl hp hi0 => ?_⟩
  · rw [sw_len] at hkl
    rw [sw_at l hi hj, sw_at l hi hj]
    by_cases e1 : k = j
    · subst e1
      rw [if_neg (by omega), if_pos rfl, if_pos rfl]
      omega
    · rw [if_neg e1 (c := k = j), if_neg hne]
      by_cases e2 : (k - 1) / 2 = j
      · rw [if_pos e2]; exact h.2 k hk hkl e2 h0
      · rw [if_neg e2]
        have := h.1 k hk hkl e1
        by_cases e3 : (k - 1) / 2 = (j - 1) / 2
        · rw [if_pos e3]; rw [e3] at this; omega
        · rw [if_neg e3]; exact this
  · rw [sw_len] at hkl
    rw [sw_at l hi hj, sw_at l hi hj]
    have hne : (j - 1) / 2 ≠ j := by omega
    rw [if_neg (by omega), if_neg (by omega)]
    have h1 := h.1 ((j - 1) / 2) hi0 hi hne
    by_cases e1 : k = j
    · rw [if_pos e1]; exact h1
    · rw [if_neg e1, if_neg (by omega)]
      have h2 := h.1 k hk hkl e1
      rw [hp] at h2
      omega
theorem up_end {l : List Nat} {j : Nat} (h : HpUp l j) (he : j = 0 ∨ l.getD ((j - 1) / 2) 0 ≤ l.getD j 0) : HpN l l.length := fun k hk hkl => by
  by_cases e : k = j
  · subst e
    rcases he with e | e
    · omega
    · exact e
  · exact h.1 k hk hkl e
theorem up_start {l : List Nat} (h : HpN l l.length) (x : Nat) : HpUp (l ++ [x]) l.length := by
  have g : ∀ k, k < l.length → (l ++ [x]).getD k 0 = l.getD k 0 := fun k hk => by simp [List.getD, List.getElem?_append_left hk]
  refine ⟨fun k hk hkl hne => ?_, fun k hk hkl hp h0 => ?_⟩
  · rw [List.length_append, List.length_singleton] at hkl
    rw [g _ (by omega), g _ (by omega)]
    exact h k hk (by omega)
  · rw [List.length_append, List.length_singleton] at hkl
    omega

/-- All but what is below i stand right. -/
def HpDn (l : List Nat) (i n : Nat) : Prop := (∀ k, 0 < k → k < n → (k - 1) / 2 ≠ i → l.getD ((k - 1) / 2) 0 ≤ l.getD k 0) ∧ (∀ k, 0 < k → k < n → (k - 1) / 2 = i → 0 < i → l.getD ((i - 1) / 2) 0 ≤ l.getD k 0)
theorem dn_step {l : List Nat} {i j n : Nat} (h : HpDn l i n) (hn : n ≤ l.length) (hj0 : 0 < j) (hj : j < n) (hp : (j - 1) / 2 = i) (hmin : ∀ k, 0 < k → k < n → (k - 1) / 2 = i → l.getD j 0 ≤ l.getD k 0) (hlt : l.getD j 0 < l.getD i 0) : HpDn (sw l i j) j n := by
  have hi : i < l.length := by omega
  have hjl : j < l.length := by omega
  refine ⟨fun k hk hkn hne => ?_, fun k hk hkn hpk _ => ?_⟩
  · rw [sw_at l hi hjl, sw_at l hi hjl, if_neg hne]
    by_cases e1 : k = j
    · subst e1
      rw [if_pos hp, if_pos rfl]; omega
    · rw [if_neg e1]
      by_cases e2 : k = i
      · subst e2
        rw [if_neg (by omega), if_pos rfl]
        exact h.2 j hj0 hj hp hk
      · rw [if_neg e2]
        by_cases e3 : (k - 1) / 2 = i
        · rw [if_pos e3]; exact hmin k hk hkn e3
        · rw [if_neg e3]; exact h.1 k hk hkn e3
  · rw [sw_at l hi hjl, sw_at l hi hjl, if_neg (by omega), if_pos hp, if_neg (by omega), if_neg (by omega)]
    have := h.1 k hk hkn (by omega)
    rw [hpk] at this
    exact this
theorem dn_end {l : List Nat} {i n : Nat} (h : HpDn l i n) (he : ∀ k, 0 < k → k < n → (k - 1) / 2 = i → l.getD i 0 ≤ l.getD k 0) : HpN l n := fun k hk hkn => by
  by_cases e : (k - 1) / 2 = i
  · rw [e]; exact he k hk hkn e
  · exact h.1 k hk hkn e
theorem dn_start {l : List Nat} {n : Nat} (h : HpN l l.length) (hn : l.length = n + 1) : HpDn (sw l 0 n) 0 n := by
  refine ⟨fun k hk hkn hne => ?_, fun k hk hkn hp h0 => by omega⟩
  rw [sw_at l (by omega) (by omega), sw_at l (by omega) (by omega), if_neg (by omega), if_neg hne, if_neg (by omega), if_neg (by omega)]
  exact h k hk (by omega)
theorem hp_min {l : List Nat} {n : Nat} (h : HpN l n) : ∀ k, k < n → l.getD 0 0 ≤ l.getD k 0 := by
  intro k
  induction k using Nat.strongRecOn with
  | ind k ih =>
    intro hk
    rcases Nat.eq_zero_or_pos k with e | e
    · subst e; exact Nat.le_refl _
    · have h1 := h k e hk
      have h2 := ih ((k - 1) / 2) (by omega) (by omega)
      omega
theorem hp_take {l : List Nat} {n : Nat} (h : HpN l n) (hn : n ≤ l.length) : HpN (l.take n) (l.take n).length := fun k hk hkn => by
  rw [List.length_take] at hkn
  have g : ∀ k, k < n → (l.take n).getD k 0 = l.getD k 0 := fun k hk => by simp [List.getD, hk]
  rw [g _ (by omega), g _ (by omega)]
  exact h k hk (by omega)
/-- What comes out, and what is left. -/
theorem hp_pop {l l2 : List Nat} {n : Nat} (hn : l.length = n + 1) (hh : HpN l l.length) (hp : l2.Perm l) (hlast : l2.getD n 0 = l.getD 0 0) : ((l.getD 0 0) :: l2.take n).Perm l ∧ ∀ x ∈ l, l.getD 0 0 ≤ x := by
  have hl2 : l2.length = n + 1 := by rw [hp.length_eq, hn]
  constructor
  · have e : l2 = l2.take n ++ [l.getD 0 0] := by
      rw [← hlast]
      have : l2.getD n 0 = l2[n]'(by omega) := by simp [List.getD, show n < l2.length by omega]
      rw [this, ← List.take_succ_eq_append_getElem (by omega), List.take_of_length_le (by omega)]
    have h2 : (l.getD 0 0 :: l2.take n).Perm (l2.take n ++ [l.getD 0 0]) := by
      have := List.perm_append_comm (l₁ := [l.getD 0 0]) (l₂ := l2.take n)
      simpa using this
    exact h2.trans (by rw [← e]; exact hp)
  · intro x hx
    obtain ⟨k, hk, rfl⟩ := List.mem_iff_getElem.1 hx
    have := hp_min hh k hk
    have e : l.getD k 0 = l[k] := by simp [List.getD, hk]
    rw [e] at this
    exact this

end Go.Proofs.YtbojdcggnpdhcaaGreatDoor
