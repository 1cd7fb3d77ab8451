/-
  Parts of one proof, one behind the other: Math8P, Math9, Math9L, Math10, Math10L, Math10T, Math6D, Math11.
-/
import Derived.Test.YteolfnceobjonaaGreatP2
import Derived.Test.YteolfnceobjonaaGreatP1

/-! Plain facts of chapter 8: packages by their places: who waits for how many, who is next, what is reached. -/
namespace Go.Proofs.YteolfnceobjonaaGreat
open Go.RowKit

def nmAt (ps : List Pk) (i : Nat) : List UInt8 := (ps.getD i pk0).1
def imsAt (ps : List Pk) (i : Nat) : List (List UInt8) := (ps.getD i pk0).2.1
def nmsAt (ps : List Pk) (o : List Nat) : List (List UInt8) := o.map (nmAt ps)
theorem getD_mem_pk {ps : List Pk} {i : Nat} (hi : i < ps.length) : ps.getD i pk0 ∈ ps := by simp [List.getD, hi]
theorem nmAt_mem {ps : List Pk} {i : Nat} (hi : i < ps.length) : nmAt ps i ∈ names8 ps := List.mem_map.2 ⟨_, getD_mem_pk hi, rfl⟩
theorem nmAt_el {ps : List Pk} {i : Nat} (hi : i < ps.length) : (names8 ps)[i]'(by simpa [names8] using hi) = nmAt ps i := by simp [names8, nmAt, List.getD, hi]
theorem nmAt_inj {ps : List Pk} (hn : (names8 ps).Nodup) {i j : Nat} (hi : i < ps.length) (hj : j < ps.length) (e : nmAt ps i = nmAt ps j) : i = j := by
  rw [← nmAt_el hi, ← nmAt_el hj] at e
  exact (List.getElem_inj hn).1 e
theorem nmAt_lt {ps : List Pk} (hn : Rise (names8 ps)) {i j : Nat} (hj : j < ps.length) (hij : i < j) : Op.bytesLess (nmAt ps i) (nmAt ps j) = true := by
  have := List.pairwise_iff_getElem.1 hn i j (by simp [names8]; omega) (by simpa [names8] using hj) hij
  rw [nmAt_el (by omega), nmAt_el hj] at this
  exact this
theorem mem_nms {ps : List Pk} {o : List Nat} {x : List UInt8} : x ∈ nmsAt ps o ↔ ∃ i ∈ o, nmAt ps i = x := List.mem_map
theorem nm_in {ps : List Pk} (hn : (names8 ps).Nodup) {o : List Nat} (ho : ∀ x ∈ o, x < ps.length) {i : Nat} (hi : i < ps.length) : nmAt ps i ∈ nmsAt ps o ↔ i ∈ o := by
  rw [mem_nms]
  constructor
  · rintro ⟨j, hj, e⟩
    have := nmAt_inj hn (ho j hj) hi e
    subst this; exact hj
  · exact fun h => ⟨i, h, rfl⟩
theorem rise_ext {a b : List (List UInt8)} (ha : Rise a) (hb : Rise b) (h : ∀ x, x ∈ a ↔ x ∈ b) : a = b :=
  List.Perm.eq_of_pairwise (le := fun x y => Op.bytesLess x y = true) (fun x y _ _ h1 h2 => by have := lt8_trans h1 h2; rw [lt8_irr] at this; cases this) ha hb ((List.perm_ext_iff_of_nodup ha.nodup hb.nodup).2 h)

/-- Where one of a name is. -/
theorem at8Go_is (s : List UInt8) : ∀ (ps : List Pk) (k : Nat), at8Go s ps k = -1 ∨ ∃ i, i < ps.length ∧ at8Go s ps k = ((k + i : Nat) : Int) ∧ nmAt ps i = s
  | [], k => Or.inl rfl
  | p :: r, k => by
    rw [at8Go]
    by_cases h : p.1 = s
    · rw [if_pos h]; exact Or.inr ⟨0, by simp, by simp, by simpa [nmAt] using h⟩
    · rw [if_neg h]
      rcases at8Go_is s r (k + 1) with e | ⟨i, hi, e, hn⟩
      · exact Or.inl e
      · exact Or.inr ⟨i + 1, by simpa using hi, by rw [e]; congr 1; omega, by simpa [nmAt] using hn⟩
theorem at8_is (ps : List Pk) (s : List UInt8) : (at8 ps s = -1 ∧ ¬ s ∈ names8 ps) ∨ ∃ i, i < ps.length ∧ at8 ps s = (i : Int) ∧ nmAt ps i = s ∧ s ∈ names8 ps := by
  rcases at8Go_is s ps 0 with e | ⟨i, hi, e, hn⟩
  · refine Or.inl ⟨e, fun h => ?_⟩
    have := (at8_mem ps s).2 h
    unfold at8 at this
    omega
  · refine Or.inr ⟨i, hi, by unfold at8; rw [e]; congr 1; omega, hn, ?_⟩
    rw [← hn]; exact nmAt_mem hi

/-- The places of those that are there. -/
def plc (ps : List Pk) (ms : List (List UInt8)) : List Nat := ms.filterMap (fun m => if 0 ≤ at8 ps m then some (at8 ps m).toNat else none)
theorem plc_mem {ps : List Pk} (hn : (names8 ps).Nodup) {ms : List (List UInt8)} {x : Nat} : x ∈ plc ps ms ↔ x < ps.length ∧ nmAt ps x ∈ ms := by
  unfold plc
  rw [List.mem_filterMap]
  constructor
  · rintro ⟨m, hm, he⟩
    rcases at8_is ps m with ⟨e, _⟩ | ⟨i, hi, e, hnm, _⟩
    · rw [e] at he; simp at he
    · rw [e] at he
      simp at he
      subst he
      exact ⟨hi, by rw [hnm]; exact hm⟩
  · rintro ⟨hx, hm⟩
    refine ⟨nmAt ps x, hm, ?_⟩
    rcases at8_is ps (nmAt ps x) with ⟨_, e⟩ | ⟨i, hi, e, hnm, _⟩
    · exact absurd (nmAt_mem hx) e
    · rw [e]
      have := nmAt_inj hn hi hx hnm
      subst this
      simp

/-- For how many one waits. -/
def wt8 (ps : List Pk) (out : List (List UInt8)) (i : Nat) : Nat := ((imsAt ps i).filter (fun m => decide (m ∈ names8 ps ∧ ¬ m ∈ out))).length
theorem wt8_zero {ps : List Pk} {out : List (List UInt8)} {i : Nat} : wt8 ps out i = 0 ↔ ∀ m ∈ imsAt ps i, m ∈ names8 ps → m ∈ out := by
  unfold wt8
  rw [List.length_eq_zero_iff, List.filter_eq_nil_iff]
  constructor
  · intro h m hm hn
    have := h m hm
    rw [decide_eq_true_eq] at this
    exact Decidable.byContradiction fun e => this ⟨hn, e⟩
  · intro h m hm
    rw [decide_eq_true_eq]
    rintro ⟨h1, h2⟩
    exact h2 (h m hm h1)
theorem wt8_le (ps : List Pk) (out : List (List UInt8)) (i : Nat) : wt8 ps out i ≤ (imsAt ps i).length := List.length_filter_le _ _
theorem free_iff {ps : List Pk} {out : List (List UInt8)} {i : Nat} : free8 ps out (ps.getD i pk0) ↔ ¬ nmAt ps i ∈ out ∧ wt8 ps out i = 0 := by
  unfold free8
  rw [wt8_zero]
  rfl
theorem filter_less {N out : List (List UInt8)} {x : List UInt8} (hx : x ∈ N) (ho : ¬ x ∈ out) : ∀ L : List (List UInt8), L.Nodup →
    (L.filter (fun m => decide (m ∈ N ∧ ¬ m ∈ out))).length = (L.filter (fun m => decide (m ∈ N ∧ ¬ m ∈ out ++ [x]))).length + if x ∈ L then 1 else 0
  | [], _ => by simp
  | a :: r, h => by
    have hr := List.nodup_cons.1 h
    have ih := filter_less hx ho r hr.2
    rw [List.filter_cons, List.filter_cons]
    by_cases hax : a = x
    · subst hax
      rw [if_neg hr.1] at ih
      rw [if_pos (by simp [hx, ho]), if_neg (by simp), if_pos (by simp)]
      simp only [List.length_cons]
      omega
    · by_cases hc : a ∈ N ∧ ¬ a ∈ out
      · rw [if_pos (by simpa using hc), if_pos (by simpa [hax] using hc)]
        simp only [List.length_cons, List.mem_cons]
        by_cases hxr : x ∈ r
        · rw [if_pos hxr] at ih; rw [if_pos (Or.inr hxr)]; omega
        · rw [if_neg hxr] at ih; rw [if_neg (by rintro (e | e); exact hax e.symm; exact hxr e)]; omega
      · rw [if_neg (by simpa using hc), if_neg (by intro e; apply hc; simp only [decide_eq_true_eq, List.mem_append, List.mem_singleton, not_or] at e; exact ⟨e.1, e.2.1⟩)]
        simp only [List.mem_cons]
        by_cases hxr : x ∈ r
        · rw [if_pos hxr] at ih; rw [if_pos (Or.inr hxr)]; omega
        · rw [if_neg hxr] at ih; rw [if_neg (by rintro (e | e); exact hax e.symm; exact hxr e)]; omega
theorem wt8_step {ps : List Pk} {out : List (List UInt8)} {x : List UInt8} (hx : x ∈ names8 ps) (ho : ¬ x ∈ out) {i : Nat} (hnd : (imsAt ps i).Nodup) : wt8 ps out i = wt8 ps (out ++ [x]) i + if x ∈ imsAt ps i then 1 else 0 := filter_less hx ho _ hnd
theorem ims_nodup {ps : List Pk} (h : projB ps = true) {i : Nat} (hi : i < ps.length) : (imsAt ps i).Nodup ∧ (imsAt ps i).length ≤ 6 := by
  have h1 := (projB_parts h).2.2 _ (getD_mem_pk hi)
  unfold pkgB at h1
  rw [Bool.and_eq_true, Bool.and_eq_true, Bool.and_eq_true] at h1
  have h2 := h1.1.2.1
  unfold importsB at h2
  rw [Bool.and_eq_true, Bool.and_eq_true, decide_eq_true_eq] at h2
  exact ⟨(rise_of h2.2.2).nodup, of_decide_eq_true h2.2.1⟩

/-- What is held ahead of each that is taken: who is in order, how many each waits for, who is up next. -/
structure Ka8 (ps : List Pk) (out ws hl : List Nat) : Prop where
  lt : ∀ x ∈ out, x < ps.length
  or : Or8 ps (nmsAt ps out)
  more : ∃ n, order8 ps = orderGo ps n (nmsAt ps out) ∧ ps.length < n + out.length
  wl : ws.length = ps.length
  w : ∀ i, i < ps.length → ws.getD i 0 = wt8 ps (nmsAt ps out) i
  h : ∀ x, x ∈ hl ↔ x < ps.length ∧ free8 ps (nmsAt ps out) (ps.getD x pk0)
  nd : hl.Nodup
theorem nodup_sub_len {l : List Nat} (h : l.Nodup) {n : Nat} (hl : ∀ x ∈ l, x < n) : l.length ≤ n := by
  have := h.length_le_of_subset (l₂ := List.range n) (fun x hx => List.mem_range.2 (hl x hx))
  simpa using this
theorem Ka8.hlen {ps : List Pk} {out ws hl : List Nat} (k : Ka8 ps out ws hl) : hl.length ≤ ps.length := nodup_sub_len k.nd (fun x hx => ((k.h x).1 hx).1)
theorem Ka8.done {ps : List Pk} {out ws : List Nat} (k : Ka8 ps out ws []) : nmsAt ps out = order8 ps := by
  obtain ⟨n, h1, _⟩ := k.more
  rw [h1, orderGo_none]
  unfold next8
  rw [List.find?_eq_none]
  intro p hp
  rw [decide_eq_true_eq]
  intro hf
  obtain ⟨i, hi, rfl⟩ := List.mem_iff_getElem.1 hp
  have e : ps.getD i pk0 = ps[i] := by simp [List.getD, hi]
  have := (k.h i).2 ⟨hi, by rw [e]; exact hf⟩
  simp at this
/-- The least that is up next is the next by name. -/
theorem Ka8.next {ps : List Pk} {out ws hl : List Nat} (k : Ka8 ps out ws hl) {f : Nat} (hf : f ∈ hl) (hmin : ∀ x ∈ hl, f ≤ x) : next8 ps (nmsAt ps out) = some (ps.getD f pk0) := by
  obtain ⟨hfl, hff⟩ := (k.h f).1 hf
  unfold next8
  rw [List.find?_eq_some_iff_getElem]
  refine ⟨decide_eq_true hff, f, hfl, by simp [List.getD, hfl], fun j hj => ?_⟩
  have hjl : j < ps.length := by omega
  have e : ps.getD j pk0 = ps[j] := by simp [List.getD, hjl]
  rw [← e]
  simp only [Bool.not_eq_true', decide_eq_false_iff_not]
  intro h
  have := hmin j ((k.h j).2 ⟨hjl, h⟩)
  omega
/-- At the start, as far as k. -/
structure Ks8 (ps : List Pk) (k : Nat) (ws hl : List Nat) : Prop where
  wl : ws.length = ps.length
  w : ∀ i, i < k → ws.getD i 0 = wt8 ps [] i
  h : ∀ x, x ∈ hl ↔ x < k ∧ free8 ps [] (ps.getD x pk0)
  nd : hl.Nodup
theorem Ks8.zero (ps : List Pk) {ws : List Nat} (h : ws.length = ps.length) : Ks8 ps 0 ws [] := ⟨h, fun i hi => by omega, fun x => by simp, List.nodup_nil⟩
theorem getD_set {l : List Nat} {i : Nat} (hi : i < l.length) (v k : Nat) : (l.set i v).getD k 0 = if k = i then v else l.getD k 0 := by
  rw [List.getD_eq_getElem?_getD, List.getElem?_set]
  by_cases h : i = k
  · subst h; rw [if_pos rfl, if_pos hi, if_pos rfl]; rfl
  · rw [if_neg h, if_neg (fun e => h e.symm), List.getD_eq_getElem?_getD]
theorem Ks8.push {ps : List Pk} {k : Nat} {ws hl hl2 : List Nat} (s : Ks8 ps k ws hl) (hk : k < ps.length) (h0 : wt8 ps [] k = 0) (hp : hl2.Perm (k :: hl)) : Ks8 ps (k + 1) (ws.set k (wt8 ps [] k)) hl2 := by
  refine ⟨by rw [List.length_set]; exact s.wl, fun i hi => ?_, fun x => ?_, ?_⟩
  · rw [getD_set (by rw [s.wl]; exact hk)]
    by_cases e : i = k
    · subst e; rw [if_pos rfl]
    · rw [if_neg e]; exact s.w i (by omega)
  · rw [hp.mem_iff, List.mem_cons, s.h]
    constructor
    · rintro (e | ⟨e1, e2⟩)
      · subst e; exact ⟨by omega, free_iff.2 ⟨by simp, h0⟩⟩
      · exact ⟨by omega, e2⟩
    · rintro ⟨e1, e2⟩
      by_cases e : x = k
      · exact Or.inl e
      · exact Or.inr ⟨by omega, e2⟩
  · refine hp.symm.nodup (List.nodup_cons.2 ⟨fun e => ?_, s.nd⟩)
    have := ((s.h k).1 e).1
    omega
theorem Ks8.start {ps : List Pk} {ws hl : List Nat} (s : Ks8 ps ps.length ws hl) : Ka8 ps [] ws hl :=
  ⟨by simp, or8_nil ps, ⟨ps.length + 1, rfl, by simp⟩, s.wl, s.w, s.h, s.nd⟩

/-- One has been taken; those as far as k have been told. -/
structure Kb8 (ps : List Pk) (out : List Nat) (f k : Nat) (ws hl : List Nat) : Prop where
  wl : ws.length = ps.length
  w1 : ∀ i, i < k → ws.getD i 0 = wt8 ps (nmsAt ps out ++ [nmAt ps f]) i
  w2 : ∀ i, k ≤ i → i < ps.length → ws.getD i 0 = wt8 ps (nmsAt ps out) i
  h : ∀ x, x ∈ hl ↔ x < ps.length ∧ x ≠ f ∧ (free8 ps (nmsAt ps out) (ps.getD x pk0) ∨ (x < k ∧ free8 ps (nmsAt ps out ++ [nmAt ps f]) (ps.getD x pk0)))
  nd : hl.Nodup
/-- What is told of the one that was taken. -/
structure Kf8 (ps : List Pk) (out : List Nat) (f : Nat) : Prop where
  pj : projB ps = true
  lt : ∀ x ∈ out, x < ps.length
  or : Or8 ps (nmsAt ps out)
  more : ∃ n, order8 ps = orderGo ps n (nmsAt ps out) ∧ ps.length < n + out.length
  fl : f < ps.length
  nx : next8 ps (nmsAt ps out) = some (ps.getD f pk0)
theorem Ka8.take {ps : List Pk} {out ws hl hl2 : List Nat} (hpj : projB ps = true) (k : Ka8 ps out ws hl) {f : Nat} (hp : (f :: hl2).Perm hl) (hmin : ∀ x ∈ hl, f ≤ x) : Kf8 ps out f ∧ Kb8 ps out f 0 ws hl2 := by
  have hf : f ∈ hl := hp.mem_iff.1 List.mem_cons_self
  have hnd : (f :: hl2).Nodup := hp.symm.nodup k.nd
  refine ⟨⟨hpj, k.lt, k.or, k.more, ((k.h f).1 hf).1, k.next hf hmin⟩, ⟨k.wl, fun i hi => by omega, fun i _ hi => k.w i hi, fun x => ?_, (List.nodup_cons.1 hnd).2⟩⟩
  constructor
  · intro hx
    obtain ⟨h1, h2⟩ := (k.h x).1 (hp.mem_iff.1 (List.mem_cons_of_mem _ hx))
    exact ⟨h1, fun e => (List.nodup_cons.1 hnd).1 (by rw [← e]; exact hx), Or.inl h2⟩
  · rintro ⟨h1, h2, h3 | ⟨h3, _⟩⟩
    · rcases List.mem_cons.1 (hp.mem_iff.2 ((k.h x).2 ⟨h1, h3⟩)) with e | e
      · exact absurd e h2
      · exact e
    · omega
theorem Kf8.free {ps : List Pk} {out : List Nat} {f : Nat} (g : Kf8 ps out f) : ¬ nmAt ps f ∈ nmsAt ps out ∧ nmAt ps f ∈ names8 ps ∧ ¬ nmAt ps f ∈ imsAt ps f := by
  obtain ⟨_, h1, h2⟩ := next8_some g.nx
  exact ⟨h1, nmAt_mem g.fl, fun e => h1 (h2 _ e (nmAt_mem g.fl))⟩
/-- One that waits for it is not in order, and was not up next. -/
theorem Kf8.waits {ps : List Pk} {out : List Nat} {f i : Nat} (g : Kf8 ps out f) (hi : i < ps.length) (hm : nmAt ps f ∈ imsAt ps i) : ¬ nmAt ps i ∈ nmsAt ps out ∧ i ≠ f ∧ 0 < wt8 ps (nmsAt ps out) i ∧ wt8 ps (nmsAt ps out) i = wt8 ps (nmsAt ps out ++ [nmAt ps f]) i + 1 := by
  obtain ⟨h1, h2, h3⟩ := g.free
  have hs := wt8_step (i := i) h2 h1 (ims_nodup g.pj hi).1
  rw [if_pos hm] at hs
  refine ⟨fun e => ?_, fun e => h3 (by rw [← e]; rw [← e] at hm; exact hm), by omega, hs⟩
  have := g.or.need _ (getD_mem_pk hi) e _ hm h2
  exact h1 ((List.takeWhile_sublist _).subset this)
theorem Kf8.free_more {ps : List Pk} {out : List Nat} {f x : Nat} (g : Kf8 ps out f) (hx : x < ps.length) (hne : x ≠ f) (h : free8 ps (nmsAt ps out) (ps.getD x pk0)) : free8 ps (nmsAt ps out ++ [nmAt ps f]) (ps.getD x pk0) := by
  refine ⟨fun e => ?_, fun m hm hn => List.mem_append_left _ (h.2 m hm hn)⟩
  rw [List.mem_append, List.mem_singleton] at e
  rcases e with e | e
  · exact h.1 e
  · exact hne (nmAt_inj (projB_parts g.pj).1.nodup hx g.fl e)
theorem Kb8.less {ps : List Pk} {out : List Nat} {f k : Nat} {ws hl : List Nat} (g : Kf8 ps out f) (s : Kb8 ps out f k ws hl) (hk : k < ps.length) (hm : nmAt ps f ∈ imsAt ps k) : 0 < ws.getD k 0 ∧ ws.getD k 0 ≤ 6 ∧ ws.getD k 0 - 1 = wt8 ps (nmsAt ps out ++ [nmAt ps f]) k := by
  obtain ⟨_, _, h3, h4⟩ := g.waits hk hm
  have := wt8_le ps (nmsAt ps out) k
  have := (ims_nodup g.pj hk).2
  rw [s.w2 k (Nat.le_refl _) hk]
  omega
theorem Kb8.push {ps : List Pk} {out : List Nat} {f k : Nat} {ws hl hl2 : List Nat} (g : Kf8 ps out f) (s : Kb8 ps out f k ws hl) (hk : k < ps.length) (hm : nmAt ps f ∈ imsAt ps k) (h0 : ws.getD k 0 - 1 = 0) (hp : hl2.Perm (k :: hl)) : Kb8 ps out f (k + 1) (ws.set k (ws.getD k 0 - 1)) hl2 := by
  obtain ⟨h1, h2, h3, h4⟩ := g.waits hk hm
  have h5 := s.less g hk hm
  refine ⟨by rw [List.length_set]; exact s.wl, fun i hi => ?_, fun i hi hil => ?_, fun x => ?_, ?_⟩
  · rw [getD_set (by rw [s.wl]; exact hk)]
    by_cases e : i = k
    · subst e; rw [if_pos rfl]; exact h5.2.2
    · rw [if_neg e]; exact s.w1 i (by omega)
  · rw [getD_set (by rw [s.wl]; exact hk), if_neg (by omega)]; exact s.w2 i (by omega) hil
  · rw [hp.mem_iff, List.mem_cons, s.h]
    constructor
    · rintro (e | ⟨e1, e2, e3 | ⟨e3, e4⟩⟩)
      · subst e
        refine ⟨hk, h2, Or.inr ⟨by omega, free_iff.2 ⟨fun e => ?_, by omega⟩⟩⟩
        rw [List.mem_append, List.mem_singleton] at e
        rcases e with e | e
        · exact h1 e
        · exact h2 (nmAt_inj (projB_parts g.pj).1.nodup hk g.fl e)
      · exact ⟨e1, e2, Or.inl e3⟩
      · exact ⟨e1, e2, Or.inr ⟨by omega, e4⟩⟩
    · rintro ⟨e1, e2, e3 | ⟨e3, e4⟩⟩
      · exact Or.inr ⟨e1, e2, Or.inl e3⟩
      · by_cases e : x = k
        · exact Or.inl e
        · exact Or.inr ⟨e1, e2, Or.inr ⟨by omega, e4⟩⟩
  · refine hp.symm.nodup (List.nodup_cons.2 ⟨fun e => ?_, s.nd⟩)
    obtain ⟨_, _, e3 | ⟨e3, _⟩⟩ := (s.h k).1 e
    · have := (free_iff.1 e3).2; omega
    · omega
theorem Kb8.hlen {ps : List Pk} {out : List Nat} {f k : Nat} {ws hl : List Nat} (s : Kb8 ps out f k ws hl) : hl.length ≤ ps.length := nodup_sub_len s.nd (fun x hx => ((s.h x).1 hx).1)
theorem Ks8.hlen {ps : List Pk} {k : Nat} {ws hl : List Nat} (s : Ks8 ps k ws hl) (hk : k ≤ ps.length) : hl.length ≤ ps.length := nodup_sub_len s.nd (fun x hx => by have := ((s.h x).1 hx).1; omega)
theorem nms_snoc (ps : List Pk) (out : List Nat) (f : Nat) : nmsAt ps (out ++ [f]) = nmsAt ps out ++ [nmAt ps f] := by simp [nmsAt]
theorem Kb8.out {ps : List Pk} {out : List Nat} {f : Nat} {ws hl : List Nat} (g : Kf8 ps out f) (s : Kb8 ps out f ps.length ws hl) : Ka8 ps (out ++ [f]) ws hl := by
  obtain ⟨n, hn, hl2⟩ := g.more
  have hor := g.or.step (projB_parts g.pj).1.nodup g.nx
  refine ⟨fun x hx => ?_, by rw [nms_snoc]; exact hor, ?_, s.wl, fun i hi => by rw [nms_snoc]; exact s.w1 i hi, fun x => ?_, s.nd⟩
  · rw [List.mem_append, List.mem_singleton] at hx
    rcases hx with hx | hx
    · exact g.lt x hx
    · subst hx; exact g.fl
  · have hle : out.length ≤ ps.length := by have := g.or.len; simpa [nmsAt] using this
    obtain ⟨m, rfl⟩ : ∃ m, n = m + 1 := ⟨n - 1, by
      have := hor.len
      simp [nmsAt] at this
      omega⟩
    exact ⟨m, by rw [nms_snoc, hn, orderGo_some m g.nx]; rfl, by rw [List.length_append, List.length_singleton]; omega⟩
  · rw [nms_snoc, s.h]
    constructor
    · rintro ⟨e1, e2, e3 | ⟨_, e4⟩⟩
      · exact ⟨e1, g.free_more e1 e2 e3⟩
      · exact ⟨e1, e4⟩
    · rintro ⟨e1, e2⟩
      refine ⟨e1, fun e => ?_, Or.inr ⟨e1, e2⟩⟩
      subst e
      exact (free_iff.1 e2).1 (by simp)

/-! What is reached. -/
theorem in8_least {C : List UInt8 → Prop} {ps : List Pk} {o : List (List UInt8)} {m : List UInt8} (ho : ∀ x ∈ o, C x) (hm : m ∈ names8 ps → C m) : ∀ x ∈ in8 ps o m, C x := fun x hx => by
  unfold in8 at hx
  split at hx
  · rename_i h
    rcases put8_mem.1 hx with rfl | hx
    · exact hm h
    · exact ho x hx
  · exact ho x hx
theorem inner8_least {C : List UInt8 → Prop} {ps : List Pk} : ∀ (ms o : List (List UInt8)), (∀ x ∈ o, C x) → (∀ m ∈ ms, m ∈ names8 ps → C m) → ∀ x ∈ inner8 ps o ms, C x
  | [], _, ho, _ => ho
  | m :: r, o, ho, hm => inner8_least r (in8 ps o m) (in8_least ho (hm m List.mem_cons_self)) (fun y hy => hm y (List.mem_cons_of_mem _ hy))
theorem pass8_least {C : List UInt8 → Prop} {ps : List Pk} (hC : ∀ p ∈ ps, C p.1 → ∀ m ∈ p.2.1, m ∈ names8 ps → C m) {o : List (List UInt8)} (ho : ∀ x ∈ o, C x) {p : Pk} (hp : p ∈ ps) : ∀ x ∈ pass8 ps o p, C x := by
  unfold pass8
  split
  · rename_i h
    exact inner8_least _ _ ho (hC p hp (ho _ h))
  · exact ho
theorem step8_least {C : List UInt8 → Prop} {ps : List Pk} (hC : ∀ p ∈ ps, C p.1 → ∀ m ∈ p.2.1, m ∈ names8 ps → C m) : ∀ (qs : List Pk) (o : List (List UInt8)), (∀ q ∈ qs, q ∈ ps) → (∀ x ∈ o, C x) → ∀ x ∈ step8 ps qs o, C x
  | [], _, _, ho => ho
  | q :: r, o, hq, ho => step8_least hC r (pass8 ps o q) (fun y hy => hq y (List.mem_cons_of_mem _ hy)) (pass8_least hC ho (hq q List.mem_cons_self))
theorem reachGo_least {C : List UInt8 → Prop} {ps : List Pk} (hC : ∀ p ∈ ps, C p.1 → ∀ m ∈ p.2.1, m ∈ names8 ps → C m) : ∀ (n : Nat) (o : List (List UInt8)), (∀ x ∈ o, C x) → ∀ x ∈ reachGo ps n o, C x
  | 0, _, ho => ho
  | n + 1, o, ho => by
    rw [reachGo]
    have h := step8_least hC ps o (fun q hq => hq) ho
    split
    · exact h
    · exact reachGo_least hC n _ h
theorem reach8_least {C : List UInt8 → Prop} {ps : List Pk} {s : List UInt8} (hC : ∀ p ∈ ps, C p.1 → ∀ m ∈ p.2.1, m ∈ names8 ps → C m) (hs : C s) : ∀ x ∈ reach8 ps s, C x := reachGo_least hC _ _ (fun x hx => by rw [List.mem_singleton] at hx; rw [hx]; exact hs)

/-- What is held of the places that are reached, while those as far as i have been looked at. -/
structure Rp8 (ps : List Pk) (f : Nat) (re : List Nat) : Prop where
  pj : projB ps = true
  fl : f < ps.length
  nd : re.Nodup
  lt : ∀ x ∈ re, x < ps.length
  self : f ∈ re
  sub : ∀ x ∈ re, nmAt ps x ∈ reach8 ps (nmAt ps f)
def RpTo (ps : List Pk) (re : List Nat) (i : Nat) : Prop := ∀ j, j < i → ∀ y ∈ plc ps (imsAt ps (re.getD j 0)), y ∈ re
theorem Rp8.one {ps : List Pk} (h : projB ps = true) {f : Nat} (hf : f < ps.length) : Rp8 ps f [f] :=
  ⟨h, hf, by simp, fun x hx => by rw [List.mem_singleton] at hx; rw [hx]; exact hf, by simp, fun x hx => by rw [List.mem_singleton] at hx; rw [hx]; exact (reach8_end (nmAt_mem hf)).1.self⟩
theorem Rp8.len {ps : List Pk} {f : Nat} {re : List Nat} (r : Rp8 ps f re) : re.length ≤ ps.length := nodup_sub_len r.nd r.lt
theorem Rp8.add {ps : List Pk} {f : Nat} {re : List Nat} (r : Rp8 ps f re) {x y : Nat} (hx : x ∈ re) (hy : y ∈ plc ps (imsAt ps x)) (hn : ¬ y ∈ re) : Rp8 ps f (re ++ [y]) := by
  obtain ⟨hyl, hym⟩ := (plc_mem (projB_parts r.pj).1.nodup).1 hy
  refine ⟨r.pj, r.fl, List.nodup_append.2 ⟨r.nd, by simp, fun a ha b hb => by rw [List.mem_singleton] at hb; subst hb; intro e; subst e; exact hn ha⟩, fun z hz => ?_, List.mem_append_left _ r.self, fun z hz => ?_⟩
  · rw [List.mem_append, List.mem_singleton] at hz
    rcases hz with hz | rfl
    · exact r.lt z hz
    · exact hyl
  · rw [List.mem_append, List.mem_singleton] at hz
    rcases hz with hz | rfl
    · exact r.sub z hz
    · exact (reach8_end (nmAt_mem r.fl)).2 _ (getD_mem_pk (r.lt x hx)) (r.sub x hx) _ hym (nmAt_mem hyl)
theorem RpTo.add {ps : List Pk} {re : List Nat} {i y : Nat} (h : RpTo ps re i) (hi : i ≤ re.length) : RpTo ps (re ++ [y]) i := fun j hj z hz => by
  have e : (re ++ [y]).getD j 0 = re.getD j 0 := by simp [List.getD, List.getElem?_append_left (show j < re.length by omega)]
  rw [e] at hz
  exact List.mem_append_left _ (h j hj z hz)
theorem Rp8.all {ps : List Pk} {f : Nat} {re : List Nat} (r : Rp8 ps f re) (hc : RpTo ps re re.length) {x : List UInt8} : x ∈ nmsAt ps re ↔ x ∈ reach8 ps (nmAt ps f) := by
  have hn := (projB_parts r.pj).1.nodup
  constructor
  · intro h
    obtain ⟨i, hi, rfl⟩ := mem_nms.1 h
    exact r.sub i hi
  · intro h
    refine reach8_least (C := fun x => x ∈ nmsAt ps re) (fun p hp hpo m hm hmn => ?_) (mem_nms.2 ⟨f, r.self, rfl⟩) x h
    obtain ⟨i, hi, rfl⟩ := List.mem_iff_getElem.1 hp
    have ep : ps.getD i pk0 = ps[i] := by simp [List.getD, hi]
    have hpo2 : nmAt ps i ∈ nmsAt ps re := by unfold nmAt; rw [ep]; exact hpo
    have hir := (nm_in hn r.lt hi).1 hpo2
    obtain ⟨j, hj, he⟩ := List.mem_iff_getElem.1 hir
    rcases at8_is ps m with ⟨_, e⟩ | ⟨y, hy, e, hym, _⟩
    · exact absurd hmn e
    · have hyr : y ∈ re := hc j hj y (by
        rw [show re.getD j 0 = i by simp [List.getD, hj, he]]
        refine (plc_mem hn).2 ⟨hy, ?_⟩
        rw [hym]; unfold imsAt; rw [ep]; exact hm)
      exact mem_nms.2 ⟨y, hyr, hym⟩
theorem Rp8.mem {ps : List Pk} {f : Nat} {re : List Nat} (r : Rp8 ps f re) (hc : RpTo ps re re.length) {i : Nat} (hi : i < ps.length) : i ∈ re ↔ nmAt ps i ∈ reach8 ps (nmAt ps f) := by
  rw [← r.all hc, nm_in (projB_parts r.pj).1.nodup r.lt hi]
/-- Sorted they are what is reached, as it rises. -/
theorem Rp8.sorted {ps : List Pk} {f : Nat} {re ss : List Nat} (r : Rp8 ps f re) (hc : RpTo ps re re.length) (hp : ss.Perm re) (hs : ss.Pairwise (· ≤ ·)) : nmsAt ps ss = reach8 ps (nmAt ps f) := by
  have hr := (projB_parts r.pj).1
  have hnd : ss.Nodup := hp.symm.nodup r.nd
  refine rise_ext ?_ (reach8_end (nmAt_mem r.fl)).1.rise (fun x => ?_)
  · unfold Rise nmsAt
    rw [List.pairwise_map]
    refine List.pairwise_iff_getElem.2 (fun i j hi hj hij => ?_)
    have h1 := List.pairwise_iff_getElem.1 hs i j hi hj hij
    have h2 : ss[i] ≠ ss[j] := fun e => by have := (List.getElem_inj hnd).1 e; omega
    exact nmAt_lt hr (r.lt _ (hp.mem_iff.1 (List.getElem_mem hj))) (by omega)
  · rw [← r.all hc, mem_nms, mem_nms]
    exact ⟨fun ⟨i, h1, h2⟩ => ⟨i, hp.mem_iff.1 h1, h2⟩, fun ⟨i, h1, h2⟩ => ⟨i, hp.mem_iff.2 h1, h2⟩⟩
end Go.Proofs.YteolfnceobjonaaGreat

/-! Plain facts of chapter 9: what a call is told, what is wrong in a function, a package, a project; exports. -/
namespace Go.Proofs.YteolfnceobjonaaGreat
open Go.RowKit

/-! A call. -/
def farB (ps : List Pk) (p : Pk) (q : List UInt8) : Bool := decide (q ≠ p.1 ∧ (¬ q ∈ p.2.1 ∨ at8 ps q < 0))
def ofPk (ps : List Pk) (p : Pk) (q : List UInt8) : Pk := if q = p.1 then p else ps.getD (at8 ps q).toNat pk0
def call9 (ps : List Pk) (p : Pk) (i : Int) (n : Nd) : Int :=
  if farB ps p n.2.2.1 = true then 1
  else if atV (ofPk ps p n.2.2.1).2.2 n.2.2.2 < 0 ∨ (n.2.2.1 = p.1 ∧ i ≤ atV (ofPk ps p n.2.2.1).2.2 n.2.2.2) then 2
  else if ((ofPk ps p n.2.2.1).2.2.getD (atV (ofPk ps p n.2.2.1).2.2 n.2.2.2).toNat fn0).2.1 ≠ n.2.1 then 3 else 0
/-- The package that a name is of. -/
def pkOf (ps : List Pk) (s : List UInt8) : Pk := ps.getD (at8 ps s).toNat pk0
def callB (ps : List Pk) (s : List UInt8) (i : Int) (n : Nd) : Prop := projB ps = true ∧ 0 ≤ at8 ps s ∧ nodeB n = true ∧ n.1 = 8 ∧ 0 ≤ i ∧ i < ((pkOf ps s).2.2.length : Int)
instance (ps : List Pk) (s : List UInt8) (i : Int) (n : Nd) : Decidable (callB ps s i n) := by unfold callB; infer_instance
def callV (ps : List Pk) (s : List UInt8) (i : Int) (n : Nd) : Int := if callB ps s i n then call9 ps (pkOf ps s) i n else -1
/-! A function. -/
def arg9 (f : Fn) (n : Nd) : Prop := n.1 = 2 ∧ f.2.1 ≤ n.2.1
instance (f : Fn) (n : Nd) : Decidable (arg9 f n) := by unfold arg9; infer_instance
def bad9 (ps : List Pk) (p : Pk) (i : Nat) (n : Nd) : Prop := n.1 = 8 ∧ call9 ps p i n ≠ 0
instance (ps : List Pk) (p : Pk) (i : Nat) (n : Nd) : Decidable (bad9 ps p i n) := by unfold bad9; infer_instance
def fnGo (ps : List Pk) (p : Pk) (i : Nat) (f : Fn) : List Nd → Int → Int
  | [], c => c
  | n :: r, c => if arg9 f n then 3 else fnGo ps p i f r (if bad9 ps p i n then 4 else c)
def func9 (ps : List Pk) (p : Pk) (i : Nat) : Int := fnGo ps p i (p.2.2.getD i fn0) (p.2.2.getD i fn0).2.2 0
/-! A package, a project. -/
abbrev Flt := Int × List UInt8 × List UInt8
def miss9 (ps : List Pk) (p : Pk) : Prop := ∃ m ∈ p.2.1, at8 ps m < 0
instance (ps : List Pk) (p : Pk) : Decidable (miss9 ps p) := by unfold miss9; infer_instance
def fnsGo (ps : List Pk) (p : Pk) : List Fn → Nat → Option Flt
  | [], _ => none
  | f :: r, k => if func9 ps p k ≠ 0 then some (func9 ps p k, p.1, f.1) else fnsGo ps p r (k + 1)
def pk9 (ps : List Pk) (done i : Nat) (p : Pk) : Option Flt := if miss9 ps p then some (1, p.1, []) else if done ≤ i then some (2, p.1, []) else fnsGo ps p p.2.2 0
def fltGo (ps : List Pk) (done : Nat) : List (List UInt8) → Nat → Option Flt
  | [], _ => none
  | x :: r, i => match pk9 ps done i (pkOf ps x) with
    | some f => some f
    | none => fltGo ps done r (i + 1)
def ord9 (ps : List Pk) : List (List UInt8) := order8 ps ++ (names8 ps).filter (fun x => decide (¬ x ∈ order8 ps))
def mainT : List UInt8 := [109, 97, 105, 110]
def main9 (ps : List Pk) : Flt := if 0 ≤ at8 ps mainT ∧ 0 ≤ atV (pkOf ps mainT).2.2 mainT ∧ ((pkOf ps mainT).2.2.getD (atV (pkOf ps mainT).2.2 mainT).toNat fn0).2.1 = 1 then (0, [], []) else (5, mainT, mainT)
def fault9 (ps : List Pk) : Flt := match fltGo ps (order8 ps).length (ord9 ps) 0 with
  | some f => f
  | none => main9 ps
def faultV (ps : List Pk) : Flt := if projB ps = true then fault9 ps else (6, [], [])

/-! Exports. -/
def exp9 (f : Fn) : List UInt8 := f.1 ++ [47] ++ intL f.2.1
def exports9 (fs : List Fn) : List (List UInt8) := fs.map exp9
def exportsV (p : Pk) : List (List UInt8) := if pkgB p = true then exports9 p.2.2 else []

end Go.Proofs.YteolfnceobjonaaGreat

/-! Plain facts of chapter 9: what FnFaults tests. -/
namespace Go.Proofs.YteolfnceobjonaaGreat
open Go.RowKit

/-- What a fault says of itself. -/
structure Flt9 (ps : List Pk) (f : Flt) : Prop where
  lo : 1 ≤ f.1
  hi : f.1 ≤ 4
  fn : f.2.2 ≠ [] ↔ 3 ≤ f.1
/-! What FnCalls looks for. -/
/-- A function that the law finds. -/
def hit9 (ps : List Pk) (s : List UInt8) (at_ : Int) (n : Nd) (j m : Nat) : Prop := nmAt ps j = n.2.2.1 ∧ ((ps.getD j pk0).2.2.getD m fn0).1 = n.2.2.2 ∧ ((ps.getD j pk0).2.2.getD m fn0).2.1 = n.2.1 ∧ (n.2.2.1 ≠ s ∨ (m : Int) < at_)
def ok9 (ps : List Pk) (s : List UInt8) (n : Nd) (i : Nat) : Prop := n.2.2.1 = s ∨ n.2.2.1 ∈ imsAt ps i
def found9 (ps : List Pk) (s : List UInt8) (at_ : Int) (n : Nd) : Prop := ∃ i, i < ps.length ∧ nmAt ps i = s ∧ ok9 ps s n i ∧ ∃ j, j < ps.length ∧ ∃ m, m < (ps.getD j pk0).2.2.length ∧ hit9 ps s at_ n j m
end Go.Proofs.YteolfnceobjonaaGreat

/-! Plain facts of chapter 10: what a tree means, tree by tree; fuel. -/
namespace Go.Proofs.YteolfnceobjonaaGreat
open Go.RowKit

/-! A walk: what fuel is left, and why it stopped. -/
abbrev St10 := Nat × Int
abbrev Cmp10 := St10 → Int × St10
def bind10 (C : Cmp10) (D : Int → Cmp10) : Cmp10 := fun s => D (C s).1 (C s).2
def fin10 (v : Int) (ok : Bool) : Cmp10 := fun s => if s.2 ≠ 0 then (0, s) else if ok = true then (v, s) else (0, (s.1, 1))
def tick10 (C : Cmp10) : Cmp10 := fun s => if s.2 ≠ 0 then (0, s) else if s.1 = 0 then (0, (0, 2)) else C (s.1 - 1, s.2)
def args10 (R : Int → Cmp10) : List Int → List Int → (List Int → Cmp10) → Cmp10
  | [], acc, K => K acc
  | p :: r, acc, K => bind10 (R p) (fun v => args10 R r (acc ++ [v]) K)
abbrev Rec10 := List Nd → Int → List Int → Cmp10
/-- The parts of a node, and the tree of the function that a call is of. -/
def pts10 (t : List Nd) (a : Int) : List Int := partsGo t (kidsN (t.getD a.toNat nd0)) (a + 1)
def tree10 (ps : List Pk) (n : Nd) : List Nd := ((pkOf ps n.2.2.1).2.2.getD (atV (pkOf ps n.2.2.1).2.2 n.2.2.2).toNat fn0).2.2
def node10 (ps : List Pk) (R : Rec10) (t : List Nd) (a : Int) (xs : List Int) (n : Nd) : Cmp10 :=
  if n.1 = 1 then fin10 n.2.1 true
  else if n.1 = 2 then fin10 (xs.getD n.2.1.toNat 0) true
  else if n.1 = 7 then bind10 (R t ((pts10 t a).getD 0 0) xs) (fun k => if k ≠ 0 then R t ((pts10 t a).getD 1 0) xs else R t ((pts10 t a).getD 2 0) xs)
  else if n.1 = 8 then args10 (fun p => R t p xs) (pts10 t a) [] (fun own => R (tree10 ps n) 0 own)
  else bind10 (R t ((pts10 t a).getD 0 0) xs) (fun x => bind10 (R t ((pts10 t a).getD 1 0) xs) (fun y => fin10 (doneV n.1 x y) (doneB n.1 x y)))
def step10 (ps : List Pk) (R : Rec10) : Rec10 := fun t a xs => tick10 (node10 ps R t a xs (t.getD a.toNat nd0))
def val10 (ps : List Pk) : Nat → Rec10
  | 0 => fun _ _ _ s => (0, s)
  | d + 1 => step10 ps (val10 ps d)

/-! What every such walk keeps. -/
structure Sk10 (C : Cmp10) : Prop where
  stop : ∀ s : St10, s.2 ≠ 0 → C s = (0, s)
  less : ∀ s, (C s).2.1 ≤ s.1
  zero : ∀ s, (C s).2.2 ≠ 0 → (C s).1 = 0
  dry : ∀ s : St10, s.2 = 0 → (C s).2.2 = 2 → (C s).2.1 = 0
  code : ∀ s : St10, s.2 = 0 → (C s).2.2 = 0 ∨ (C s).2.2 = 1 ∨ (C s).2.2 = 2
  more : ∀ f k, k ≤ (C (f + k, 0)).2.1 → C (f, 0) = ((C (f + k, 0)).1, ((C (f + k, 0)).2.1 - k, (C (f + k, 0)).2.2))
  fall : ∀ f k, (C (f + k, 0)).2.1 < k → C (f, 0) = (0, (0, 2))
theorem Sk10.bind {C : Cmp10} {D : Int → Cmp10} (hC : Sk10 C) (hD : ∀ v, Sk10 (D v)) : Sk10 (bind10 C D) where
  stop s h := by unfold bind10; rw [hC.stop s h]; exact (hD 0).stop s h
  less s := Nat.le_trans ((hD _).less _) (hC.less s)
  zero s h := (hD _).zero _ h
  dry s h h2 := by
    unfold bind10 at h2 ⊢
    by_cases hc : (C s).2.2 = 0
    · exact (hD _).dry _ hc h2
    · rw [(hD _).stop _ hc] at h2 ⊢
      exact hC.dry s h h2
  code s h := by
    unfold bind10
    by_cases hc : (C s).2.2 = 0
    · exact (hD _).code _ hc
    · rw [(hD _).stop _ hc]
      exact hC.code s h
  more f k h := by
    unfold bind10 at h ⊢
    have h1 : k ≤ (C (f + k, 0)).2.1 := Nat.le_trans h ((hD _).less _)
    rw [hC.more f k h1]
    generalize C (f + k, 0) = r at h h1 ⊢
    obtain ⟨v, l, c⟩ := r
    simp only at h h1 ⊢
    by_cases hc : c = 0
    · subst hc
      obtain ⟨m, rfl⟩ : ∃ m, l = m + k := ⟨l - k, by omega⟩
      rw [Nat.add_sub_cancel]
      exact (hD v).more m k h
    · rw [(hD v).stop (l, c) hc, (hD v).stop (l - k, c) hc]
  fall f k h := by
    unfold bind10 at h ⊢
    by_cases h1 : k ≤ (C (f + k, 0)).2.1
    · rw [hC.more f k h1]
      generalize C (f + k, 0) = r at h h1 ⊢
      obtain ⟨v, l, c⟩ := r
      simp only at h h1 ⊢
      by_cases hc : c = 0
      · subst hc
        obtain ⟨m, rfl⟩ : ∃ m, l = m + k := ⟨l - k, by omega⟩
        rw [Nat.add_sub_cancel]
        exact (hD v).fall m k h
      · rw [(hD v).stop (l, c) hc] at h
        simp only at h
        omega
    · rw [hC.fall f k (by omega)]
      exact (hD 0).stop (0, 2) (by decide)
theorem Sk10.args {R : Int → Cmp10} (hR : ∀ p, Sk10 (R p)) {K : List Int → Cmp10} (hK : ∀ l, Sk10 (K l)) : ∀ (pa acc : List Int), Sk10 (args10 R pa acc K)
  | [], acc => hK acc
  | p :: r, acc => (hR p).bind (fun v => Sk10.args hR hK r (acc ++ [v]))
/-! Words. -/
def Word10 (v : Int) : Prop := -2147483648 ≤ v ∧ v ≤ 2147483647
def Good10 (t : List Nd) : Prop := ∀ n ∈ t, nodeB n = true
end Go.Proofs.YteolfnceobjonaaGreat

/-! Plain facts of chapter 10: Meant, Burnt; what FnMeans tests. -/
namespace Go.Proofs.YteolfnceobjonaaGreat
open Go.RowKit

def fnOf10 (ps : List Pk) (nm fn : List UInt8) : Fn := (pkOf ps nm).2.2.getD (atV (pkOf ps nm).2.2 fn).toNat fn0
structure Ok10 (ps : List Pk) (nm fn : List UInt8) (xs : List Int) (fuel : Int) : Prop where
  flt : faultV ps = (0, [], [])
  at8 : 0 ≤ at8 ps nm
  fuel0 : 0 ≤ fuel
  fuel1 : fuel ≤ 20000
  at7 : 0 ≤ atV (pkOf ps nm).2.2 fn
  len : (xs.length : Int) = (fnOf10 ps nm fn).2.1
  word : ∀ x ∈ xs, Word10 x
noncomputable def run10 (ps : List Pk) (nm fn : List UInt8) (xs : List Int) (fuel : Nat) : Int × St10 := val10 ps 20001 (fnOf10 ps nm fn).2.2 0 xs (fuel, 0)
open Classical in
noncomputable def meantV (ps : List Pk) (nm fn : List UInt8) (xs : List Int) (fuel : Int) : Int × Int := if Ok10 ps nm fn xs fuel then ((run10 ps nm fn xs fuel.toNat).1, (run10 ps nm fn xs fuel.toNat).2.2) else (0, 3)
open Classical in
noncomputable def burntV (ps : List Pk) (nm fn : List UInt8) (xs : List Int) (fuel : Int) : Int := if Ok10 ps nm fn xs fuel then fuel - ((run10 ps nm fn xs fuel.toNat).2.1 : Int) else -1
end Go.Proofs.YteolfnceobjonaaGreat

/-! Plain facts of chapter 10: where nothing is wrong, what a walk meets in a tree. -/
namespace Go.Proofs.YteolfnceobjonaaGreat
open Go.RowKit

/-! Parts. -/
/-! A tree of a function of a project without fault. -/
structure Tr10 (ps : List Pk) (t : List Nd) (m : Int) : Prop where
  good : Good10 t
  root : 0 ≤ endV t 0
  arg : ∀ n ∈ t, n.1 = 2 → 0 ≤ n.2.1 ∧ n.2.1 < m
  call : ∀ n ∈ t, n.1 = 8 → 0 ≤ at8 ps n.2.2.1 ∧ 0 ≤ atV (pkOf ps n.2.2.1).2.2 n.2.2.2 ∧ (fnOf10 ps n.2.2.1 n.2.2.2).2.1 = n.2.1
end Go.Proofs.YteolfnceobjonaaGreat

/-! Plain facts of drawn trees: no tree at a place of a drawn list has more than 60 nodes. -/
namespace Go.Proofs.YteolfnceobjonaaGreat
open Go.RowKit

def EndsOk (ns : List Nd) : Prop := ∀ k : Nat, 0 ≤ endV ns (k : Int) → endV ns (k : Int) - k ≤ 60

def ndAdd : Nd := (3, 0, [], [])
def ndNum : Nd := (1, 0, [], [])

def pairsL : Nat → List Nd
  | 0 => []
  | j + 1 => ndAdd :: ndNum :: pairsL j

end Go.Proofs.YteolfnceobjonaaGreat

/-! Plain facts of chapter 11: a tree is a node and its parts; what is made of it. -/
namespace Go.Proofs.YteolfnceobjonaaGreat
open Go.RowKit

/-- One whole tree: a node, and its parts one behind the other. -/
inductive One : List Nd → Prop
  | mk (n : Nd) (ks : List (List Nd)) : nodeB n = true → ks.length = kidsN n → (∀ k ∈ ks, One k) → One (n :: ks.flatten)
theorem One.pos {s : List Nd} (h : One s) : 0 < s.length := by cases h; simp
/-! Trees in a list. -/
end Go.Proofs.YteolfnceobjonaaGreat
