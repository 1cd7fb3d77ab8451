/-
  Parts of one proof, one behind the other: Math16, LkA, LkB.
-/
import Derived.Test.YteolfnceobjonaaGreatP13
import Derived.Test.YteolfnceobjonaaGreatP2
import Derived.Test.YteolfnceobjonaaGreatP1
import Derived.Maps.OwnSet
import Derived.Maps.Range
import Derived.Maps.RangeWalk

/-! Plain facts of chapter 16: objects put together. -/
namespace Go.Proofs.YteolfnceobjonaaGreat
open Go.RowKit

/-- Texts in order, each once. -/
def set16 (ts : List (List UInt8)) : List (List UInt8) := ts.foldl put8 []
theorem foldl_rise16 : ∀ (ts z : List (List UInt8)), Rise z → Rise (ts.foldl put8 z)
  | [], _, h => h
  | s :: ts, z, h => foldl_rise16 ts (put8 z s) (put8_rise h)
theorem set16_rise (ts : List (List UInt8)) : Rise (set16 ts) := foldl_rise16 ts [] List.Pairwise.nil
theorem foldl_mem16 {x : List UInt8} : ∀ (ts z : List (List UInt8)), x ∈ ts.foldl put8 z ↔ x ∈ ts ∨ x ∈ z
  | [], z => by simp
  | s :: ts, z => by
    rw [List.foldl_cons, foldl_mem16 ts (put8 z s), put8_mem, List.mem_cons]
    constructor
    · rintro (h | h | h)
      · exact Or.inl (Or.inr h)
      · exact Or.inl (Or.inl h)
      · exact Or.inr h
    · rintro ((h | h) | h)
      · exact Or.inr (Or.inl h)
      · exact Or.inl h
      · exact Or.inr (Or.inr h)
theorem set16_mem {x : List UInt8} {ts : List (List UInt8)} : x ∈ set16 ts ↔ x ∈ ts := by
  unfold set16
  rw [foldl_mem16]
  simp
theorem rise_eq16 {xs ys : List (List UInt8)} (hx : Rise xs) (hy : Rise ys) (h : ∀ a, a ∈ xs ↔ a ∈ ys) : xs = ys :=
  List.Perm.eq_of_pairwise (le := fun a b : List UInt8 => Op.bytesLess a b = true) (fun a b _ _ h1 h2 => by
    have := lt8_trans h1 h2
    rw [lt8_irr] at this
    cases this) hx hy ((List.perm_ext_iff_of_nodup hx.nodup hy.nodup).2 h)
theorem set16_snoc (ts : List (List UInt8)) (s : List UInt8) : set16 (ts ++ [s]) = put8 (set16 ts) s := by unfold set16; rw [List.foldl_append]; rfl
theorem foldl_len16 : ∀ (ts z : List (List UInt8)), (ts.foldl put8 z).length ≤ z.length + ts.length
  | [], z => by simp
  | s :: ts, z => by
    have h1 := foldl_len16 ts (put8 z s)
    have h2 := (put8_len z s).2
    simp only [List.foldl_cons, List.length_cons]
    omega
theorem set16_len (ts : List (List UInt8)) : (set16 ts).length ≤ ts.length := by
  have := foldl_len16 ts []
  simpa [set16] using this
theorem put8_in {ts : List (List UInt8)} {s : List UInt8} (h : Rise ts) (hs : s ∈ ts) : put8 ts s = ts := rise_eq16 (put8_rise h) h (fun a => by
  rw [put8_mem]
  exact ⟨fun e => e.elim (fun e => e ▸ hs) id, Or.inr⟩)
theorem put8_new {ts : List (List UInt8)} {s : List UInt8} (h : Rise ts) (hs : s ∉ ts) : (put8 ts s).length = ts.length + 1 :=
  ((List.perm_ext_iff_of_nodup (put8_rise h).nodup (List.nodup_cons.2 ⟨hs, h.nodup⟩)).2 (fun a => by rw [put8_mem, List.mem_cons])).length_eq
theorem foldl_full16 : ∀ (ts z : List (List UInt8)), Rise z → ((ts.foldl put8 z).length = z.length + ts.length ↔ ts.Nodup ∧ ∀ x ∈ ts, x ∉ z)
  | [], z, _ => by simp
  | s :: ts, z, hz => by
    rw [List.foldl_cons]
    by_cases hs : s ∈ z
    · rw [put8_in hz hs]
      have h1 := foldl_len16 ts z
      constructor
      · intro h; simp only [List.length_cons] at h; omega
      · intro h; exact absurd hs (h.2 s List.mem_cons_self)
    · have h1 := foldl_full16 ts (put8 z s) (put8_rise hz)
      rw [put8_new hz hs] at h1
      rw [List.length_cons, show z.length + (ts.length + 1) = z.length + 1 + ts.length by omega, h1, List.nodup_cons]
      constructor
      · rintro ⟨h2, h3⟩
        refine ⟨⟨fun e => h3 s e (put8_mem.2 (Or.inl rfl)), h2⟩, fun x hx => ?_⟩
        rcases List.mem_cons.1 hx with rfl | hx
        · exact hs
        · exact fun e => h3 x hx (put8_mem.2 (Or.inr e))
      · rintro ⟨⟨h2, h3⟩, h4⟩
        refine ⟨h3, fun x hx e => ?_⟩
        rcases put8_mem.1 e with rfl | e
        · exact h2 hx
        · exact h4 x (List.mem_cons_of_mem _ hx) e
/-- How many different ones there are. -/
theorem set16_full {ts : List (List UInt8)} : (set16 ts).length = ts.length ↔ ts.Nodup := by
  have := foldl_full16 ts [] List.Pairwise.nil
  simpa [set16] using this

/-- All routines, one object behind the other. -/
def rts16 (os : List Ob) : List Rt := os.flatMap (fun o => o.2.2)
def nms16 (rs : List Rt) : List (List UInt8) := rs.map (fun r => r.1)
def objsB (os : List Ob) : Bool := os.all objB && decide (os.length ≤ 8)
abbrev Fc := List UInt8 × Int
def calR (c : List In13) : List Fc := (c.filter (fun i => decide (i.1 = 9))).map (fun i => (i.2.2.2.2, i.2.2.1))
def calls16 (rs : List Rt) : List Fc := rs.flatMap (fun r => calR r.2.2)
def def16 (rs : List Rt) : List (List UInt8) := set16 (nms16 rs)
def outN (rs : List Rt) (cs : List Fc) : List (List UInt8) := (cs.map (fun c => c.1)).filter (fun s => decide (s ∉ nms16 rs))
def mis16 (rs : List Rt) (cs : List Fc) : List (List UInt8) := set16 (outN rs cs)
def fit16 (rs : List Rt) (cs : List Fc) : Bool := cs.all (fun c => rs.any (fun r => decide (r.1 = c.1 ∧ r.2.1 = c.2)))
def definedV (os : List Ob) : List (List UInt8) := if objsB os = true then def16 (rts16 os) else []
def missingV (os : List Ob) : List (List UInt8) := if objsB os = true then mis16 (rts16 os) (calls16 (rts16 os)) else []
def linkC (os : List Ob) : Int :=
  if os = [] ∨ objsB os = false then 4
  else if ¬ (nms16 (rts16 os)).Nodup then 1
  else if mis16 (rts16 os) (calls16 (rts16 os)) ≠ [] then 2
  else if fit16 (rts16 os) (calls16 (rts16 os)) = false then 3
  else 0
def linkedV (os : List Ob) : List Rt := if linkC os = 0 then sort15 (rts16 os) else []

theorem objsB_parts {os : List Ob} (h : objsB os = true) : (∀ o ∈ os, objB o = true) ∧ os.length ≤ 8 := by
  unfold objsB at h
  rw [Bool.and_eq_true, List.all_eq_true, decide_eq_true_eq] at h
  exact h
theorem objsB_far {os : List Ob} (h : ¬ os.length ≤ 8) : objsB os = false := by unfold objsB; rw [decide_eq_false h, Bool.and_false]
theorem objsB_no {os : List Ob} {j : Nat} (hj : j < os.length) (h : objB (os.getD j ob0) = false) : objsB os = false := by
  rcases e : objsB os with _ | _
  · rfl
  · have := (objsB_parts e).1 (os.getD j ob0) (by rw [List.getD_eq_getElem?_getD, List.getElem?_eq_getElem hj]; exact List.getElem_mem hj)
    rw [h] at this
    cases this
theorem objsB_yes {os : List Ob} (h8 : os.length ≤ 8) (h : ∀ j, j < os.length → objB (os.getD j ob0) = true) : objsB os = true := by
  unfold objsB
  rw [decide_eq_true h8, Bool.and_true, List.all_eq_true]
  intro o ho
  obtain ⟨j, hj, rfl⟩ := List.mem_iff_getElem.1 ho
  have := h j hj
  rwa [List.getD_eq_getElem?_getD, List.getElem?_eq_getElem hj] at this
theorem objB_rise {o : Ob} (h : objB o = true) : RiseR o.2.2 := riseR_of (fun i hi => by
  have := ((objB_parts h).one (i + 1) hi).1.2.1 (by omega)
  rwa [Nat.add_sub_cancel] at this)
theorem objB_rt {o : Ob} (h : objB o = true) {r : Rt} (hr : r ∈ o.2.2) : rtB r = true := by
  obtain ⟨j, hj, rfl⟩ := List.mem_iff_getElem.1 hr
  have := ((objB_parts h).one j hj).1.1
  rwa [List.getD_eq_getElem?_getD, List.getElem?_eq_getElem hj] at this
theorem rts16_rt {os : List Ob} (h : objsB os = true) {r : Rt} (hr : r ∈ rts16 os) : rtB r = true := by
  obtain ⟨o, ho, hr⟩ := List.mem_flatMap.1 hr
  exact objB_rt ((objsB_parts h).1 o ho) hr
theorem rts16_len {os : List Ob} (h : ∀ o ∈ os, objB o = true) : os.length ≤ (rts16 os).length ∧ (rts16 os).length ≤ 8 * os.length := by
  induction os with
  | nil => simp [rts16]
  | cons o os ih =>
    have h1 := ih (fun x hx => h x (List.mem_cons_of_mem _ hx))
    have h2 := (objB_parts (h o List.mem_cons_self)).l
    simp only [rts16, List.flatMap_cons, List.length_append, List.length_cons] at h1 ⊢
    omega
theorem rts16_append (xs ys : List Ob) : rts16 (xs ++ ys) = rts16 xs ++ rts16 ys := by unfold rts16; exact List.flatMap_append
theorem rts16_take (os : List Ob) (k : Nat) (hk : k < os.length) : rts16 (os.take (k + 1)) = rts16 (os.take k) ++ (os.getD k ob0).2.2 := by
  rw [List.take_succ_eq_append_getElem hk, rts16_append, List.getD_eq_getElem?_getD, List.getElem?_eq_getElem hk]
  simp [rts16]
theorem calls16_append (xs ys : List Rt) : calls16 (xs ++ ys) = calls16 xs ++ calls16 ys := by unfold calls16; exact List.flatMap_append
theorem calls16_take (rs : List Rt) (k : Nat) (hk : k < rs.length) : calls16 (rs.take (k + 1)) = calls16 (rs.take k) ++ calR (rs.getD k rt0).2.2 := by
  rw [List.take_succ_eq_append_getElem hk, calls16_append, List.getD_eq_getElem?_getD, List.getElem?_eq_getElem hk]
  simp [calls16]
theorem calR_take (c : List In13) (k : Nat) (hk : k < c.length) : calR (c.take (k + 1)) = if (c.getD k in0).1 = 9 then calR (c.take k) ++ [((c.getD k in0).2.2.2.2, (c.getD k in0).2.2.1)] else calR (c.take k) := by
  have hg : c.getD k in0 = c[k] := by rw [List.getD_eq_getElem?_getD, List.getElem?_eq_getElem hk]; rfl
  rw [List.take_succ_eq_append_getElem hk, hg]
  unfold calR
  rw [List.filter_append, List.map_append]
  split
  · rename_i h
    simp [h]
  · rename_i h
    simp [h]

/-- Those of a name. -/
def ofN (rs : List Rt) (s : List UInt8) : List Rt := rs.filter (fun r => decide (r.1 = s))
theorem ofN_append (xs ys : List Rt) (s : List UInt8) : ofN (xs ++ ys) s = ofN xs s ++ ofN ys s := List.filter_append ..
theorem ofN_rise_yes {rs : List Rt} (hr : RiseR rs) {s : List UInt8} {j : Nat} (hj : j < rs.length) (h : (rs.getD j rt0).1 = s) : ofN rs s = [rs.getD j rt0] := by
  have hd : rs = rs.take j ++ rs.getD j rt0 :: rs.drop (j + 1) := by
    have hg : rs.getD j rt0 = rs[j] := by rw [List.getD_eq_getElem?_getD, List.getElem?_eq_getElem hj]; rfl
    rw [hg, ← List.drop_eq_getElem_cons hj, List.take_append_drop]
  have h1 : ofN (rs.take j) s = [] := by
    unfold ofN
    rw [List.filter_eq_nil_iff]
    intro a ha
    obtain ⟨i, hi, rfl⟩ := List.mem_iff_getElem.1 ha
    rw [List.length_take] at hi
    have := hr i j (by omega) hj
    rw [List.getElem_take, decide_eq_true_eq]
    intro e
    rw [h, List.getD_eq_getElem?_getD, List.getElem?_eq_getElem (by omega), Option.getD_some, e, lt8_irr] at this
    cases this
  have h2 : ofN (rs.drop (j + 1)) s = [] := by
    unfold ofN
    rw [List.filter_eq_nil_iff]
    intro a ha
    obtain ⟨i, hi, rfl⟩ := List.mem_iff_getElem.1 ha
    rw [List.length_drop] at hi
    have := hr j (j + 1 + i) (by omega) (by omega)
    rw [List.getElem_drop, decide_eq_true_eq]
    intro e
    rw [h, List.getD_eq_getElem?_getD, List.getElem?_eq_getElem (by omega), Option.getD_some, e, lt8_irr] at this
    cases this
  have h3 : ofN (rs.getD j rt0 :: rs.drop (j + 1)) s = rs.getD j rt0 :: ofN (rs.drop (j + 1)) s := List.filter_cons_of_pos (decide_eq_true h)
  rw [hd, ofN_append, h1, List.nil_append]
  rw [← hd, h3, h2]
theorem at14Go_name (s : List UInt8) : ∀ (rs : List Rt) (k : Nat), at14Go s rs k = -1 ∧ (∀ r ∈ rs, r.1 ≠ s) ∨ ∃ j, j < rs.length ∧ at14Go s rs k = ((k + j : Nat) : Int) ∧ (rs.getD j rt0).1 = s
  | [], _ => Or.inl ⟨rfl, fun r hr => by cases hr⟩
  | r :: rs, k => by
    rw [at14Go]
    split
    · rename_i h
      exact Or.inr ⟨0, by simp, by simp, h⟩
    · rename_i h
      rcases at14Go_name s rs (k + 1) with ⟨h1, h2⟩ | ⟨j, h1, h2, h3⟩
      · refine Or.inl ⟨h1, fun x hx => ?_⟩
        rcases List.mem_cons.1 hx with rfl | hx
        · exact h
        · exact h2 x hx
      · exact Or.inr ⟨j + 1, by simpa using h1, by rw [h2]; congr 1; omega, h3⟩
/-- The place of a name tells those of that name. -/
theorem at14_ofN {rs : List Rt} (hr : RiseR rs) (s : List UInt8) : (at14 rs s = -1 ∧ ofN rs s = []) ∨ ∃ j : Nat, j < rs.length ∧ at14 rs s = (j : Int) ∧ ofN rs s = [rs.getD j rt0] := by
  unfold at14
  rcases at14Go_name s rs 0 with ⟨h1, h2⟩ | ⟨j, h1, h2, h3⟩
  · refine Or.inl ⟨h1, ?_⟩
    unfold ofN
    rw [List.filter_eq_nil_iff]
    intro a ha
    rw [decide_eq_true_eq]
    exact h2 a ha
  · exact Or.inr ⟨j, h1, by rw [h2, Nat.zero_add], ofN_rise_yes hr h1 h3⟩
theorem ofN_mem {rs : List Rt} {s : List UInt8} {r : Rt} : r ∈ ofN rs s ↔ r ∈ rs ∧ r.1 = s := by unfold ofN; rw [List.mem_filter, decide_eq_true_eq]
/-- By names: the same routines. -/
theorem byN_perm : ∀ (ks : List (List UInt8)) (rs : List Rt), ks.Nodup → (∀ r ∈ rs, r.1 ∈ ks) → (ks.flatMap (ofN rs)).Perm rs
  | [], rs, _, h => by
    cases rs with
    | nil => exact List.Perm.nil
    | cons r rs => exact absurd (h r List.mem_cons_self) (by simp)
  | s :: ks, rs, hn, h => by
    obtain ⟨hs, hn⟩ := List.nodup_cons.1 hn
    have ih := byN_perm ks (rs.filter (fun r => !decide (r.1 = s))) hn (fun r hr => by
      obtain ⟨h1, h2⟩ := List.mem_filter.1 hr
      rcases List.mem_cons.1 (h r h1) with e | e
      · simp [e] at h2
      · exact e)
    have he : ks.flatMap (ofN (rs.filter (fun r => !decide (r.1 = s)))) = ks.flatMap (ofN rs) := by
      rw [List.flatMap_def, List.flatMap_def]
      refine congrArg List.flatten (List.map_congr_left (fun k hk => ?_))
      unfold ofN
      rw [List.filter_filter]
      refine List.filter_congr (fun r _ => ?_)
      by_cases e : r.1 = k
      · have : ¬ k = s := fun e2 => hs (e2 ▸ hk)
        simp [e, this]
      · simp [e]
    rw [he] at ih
    rw [List.flatMap_cons]
    exact (List.Perm.append_left _ ih).trans (List.filter_append_perm _ rs)
theorem byN_sort {ks : List (List UInt8)} (hk : Rise ks) (rs : List Rt) : SortR (ks.flatMap (ofN rs)) := by
  induction ks with
  | nil => exact List.Pairwise.nil
  | cons s ks ih =>
    obtain ⟨h1, h2⟩ := List.pairwise_cons.1 hk
    rw [List.flatMap_cons]
    refine List.pairwise_append.2 ⟨?_, ih h2, fun a ha b hb => ?_⟩
    · refine List.pairwise_of_forall_mem_list (fun a ha b hb => ?_)
      rw [(ofN_mem.1 ha).2, (ofN_mem.1 hb).2, lt8_irr]
    · obtain ⟨k, hk, hb⟩ := List.mem_flatMap.1 hb
      rw [(ofN_mem.1 ha).2, (ofN_mem.1 hb).2]
      exact lt8_not (h1 k hk)
theorem nodup_at {ts : List (List UInt8)} (h : ts.Nodup) {i j : Nat} (hi : i < ts.length) (hj : j < ts.length) (e : ts[i] = ts[j]) : i = j := by
  rcases Nat.lt_trichotomy i j with g | g | g
  · exact absurd e (List.pairwise_iff_getElem.1 h i j hi hj g)
  · exact g
  · exact absurd e.symm (List.pairwise_iff_getElem.1 h j i hj hi g)
theorem once16 {rs : List Rt} (h : (nms16 rs).Nodup) : ∀ a ∈ rs, ∀ b ∈ rs, a.1 = b.1 → a = b := by
  intro a ha b hb e
  obtain ⟨i, hi, rfl⟩ := List.mem_iff_getElem.1 ha
  obtain ⟨j, hj, rfl⟩ := List.mem_iff_getElem.1 hb
  have := nodup_at h (i := i) (j := j) (by simpa [nms16] using hi) (by simpa [nms16] using hj) (by simpa [nms16] using e)
  subst this
  rfl
/-- Gathered name by name: all routines in their order. -/
theorem byN_all {rs : List Rt} (h : (nms16 rs).Nodup) : (def16 rs).flatMap (ofN rs) = sort15 rs :=
  sort15_eq (once16 h) (byN_perm _ _ (set16_rise _).nodup (fun r hr => set16_mem.2 (List.mem_map.2 ⟨r, hr, rfl⟩))) (byN_sort (set16_rise _) rs)
/-- A name that is there twice. -/
theorem ofN_twice {rs : List Rt} {s : List UInt8} (h : 1 < (ofN rs s).length) : ¬ (nms16 rs).Nodup := by
  intro hn
  have h1 : ((ofN rs s).map (fun r => r.1)).Nodup := hn.sublist (List.Sublist.map _ List.filter_sublist)
  have h2 : ((ofN rs s).map (fun r => r.1)) = List.replicate (ofN rs s).length s := List.eq_replicate_iff.2 ⟨by simp, fun x hx => by
    obtain ⟨r, hr, rfl⟩ := List.mem_map.1 hx
    exact (ofN_mem.1 hr).2⟩
  rw [h2, List.nodup_replicate] at h1
  omega
theorem ofN_nodup {rs : List Rt} (h : ∀ s ∈ def16 rs, (ofN rs s).length ≤ 1) : (nms16 rs).Nodup := by
  rw [List.nodup_iff_count]
  intro s
  by_cases hs : s ∈ nms16 rs
  · have h1 := h s (set16_mem.2 hs)
    have h2 : (nms16 rs).count s = (ofN rs s).length := by
      unfold nms16 ofN
      rw [List.count_eq_countP, List.countP_map, List.countP_eq_length_filter]
      congr 1
      refine List.filter_congr (fun r _ => ?_)
      rw [Bool.eq_iff_iff]
      simp [Function.comp]
    omega
  · rw [List.count_eq_zero.2 hs]
    omega
theorem calls16_mem {rs : List Rt} {c : Fc} : c ∈ calls16 rs ↔ ∃ r ∈ rs, ∃ i ∈ r.2.2, i.1 = 9 ∧ c = (i.2.2.2.2, i.2.2.1) := by
  unfold calls16 calR
  constructor
  · intro h
    obtain ⟨r, hr, h⟩ := List.mem_flatMap.1 h
    obtain ⟨i, hi, rfl⟩ := List.mem_map.1 h
    obtain ⟨hi, h9⟩ := List.mem_filter.1 hi
    exact ⟨r, hr, i, hi, of_decide_eq_true h9, rfl⟩
  · rintro ⟨r, hr, i, hi, h9, rfl⟩
    exact List.mem_flatMap.2 ⟨r, hr, List.mem_map.2 ⟨i, List.mem_filter.2 ⟨hi, decide_eq_true h9⟩, rfl⟩⟩
/-- What is put together is an image just if the calls fit. -/
theorem link_image {os : List Ob} (h : objsB os = true) (h0 : os ≠ []) (hn : (nms16 (rts16 os)).Nodup) : imageB (sort15 (rts16 os)) = fit16 (rts16 os) (calls16 (rts16 os)) := by
  have hp := sort15_perm (rts16 os)
  have hs := sort15_sort (rts16 os)
  have hl := rts16_len (objsB_parts h).1
  have h8 := (objsB_parts h).2
  have h1 : 1 ≤ os.length := by cases os with | nil => exact absurd rfl h0 | cons _ _ => simp
  have hlen := hp.length_eq
  have hnp : (nms16 (sort15 (rts16 os))).Nodup := (hp.map (fun r : Rt => r.1)).nodup_iff.2 hn
  have hrt : ∀ r ∈ sort15 (rts16 os), rtB r = true := fun r hr => rts16_rt h (hp.mem_iff.1 hr)
  have hmem : ∀ r, r ∈ sort15 (rts16 os) ↔ r ∈ rts16 os := fun r => hp.mem_iff
  generalize rts16 os = rs at *
  generalize sort15 rs = m at *
  have hrise : RiseR m := fun i j hij hj => by
    have h2 := List.pairwise_iff_getElem.1 hs i j (by omega) hj hij
    have h3 := nodup_at hnp (i := i) (j := j) (by simp [nms16]; omega) (by simpa [nms16] using hj)
    simp only [nms16, List.getElem_map] at h3
    rw [List.getD_eq_getElem?_getD, List.getElem?_eq_getElem (by omega : i < m.length), List.getD_eq_getElem?_getD, List.getElem?_eq_getElem hj]
    simp only [Option.getD_some]
    rcases e : Op.bytesLess (m[i]).1 (m[j]).1 with _ | _
    · have := h3 (lt8_tri e h2)
      omega
    · rfl
  have hget : ∀ j, (hj : j < m.length) → m.getD j rt0 = m[j] := fun j hj => by rw [List.getD_eq_getElem?_getD, List.getElem?_eq_getElem hj]; rfl
  have hR : rtsB m 64 = true := by
    refine decide_eq_true ⟨by omega, fun i hi => by rw [hget i hi]; exact hrt _ (List.getElem_mem hi), fun i hi => leT_no.2 (hrise i (i + 1) (by omega) (by omega))⟩
  rw [imageB_rts, hR, Bool.true_and, Bool.eq_iff_iff, decide_eq_true_eq]
  unfold fit16
  rw [List.all_eq_true]
  constructor
  · intro hc c hcm
    obtain ⟨r, hr, i, hi, h9, rfl⟩ := calls16_mem.1 hcm
    obtain ⟨j, hj, rfl⟩ := List.mem_iff_getElem.1 ((hmem r).2 hr)
    have h2 := List.all_eq_true.1 (hc j hj) i (by rw [hget j hj]; exact hi)
    unfold clsB at h2
    simp only [h9, ne_eq, not_true_eq_false, decide_false, Bool.false_or, Bool.and_eq_true, decide_eq_true_eq] at h2
    rcases at14Go_name i.2.2.2.2 m 0 with ⟨e, _⟩ | ⟨q, hq, e, hqn⟩
    · have := h2.1
      rw [at14, e] at this
      omega
    · rw [at14, e, Nat.zero_add, Int.toNat_natCast] at h2
      refine List.any_eq_true.2 ⟨m[q], (hmem _).1 (List.getElem_mem hq), decide_eq_true ?_⟩
      rw [hget q hq] at h2 hqn
      exact ⟨hqn, h2.2⟩
  · intro hc j hj
    rw [List.all_eq_true]
    intro i hi
    unfold clsB
    by_cases h9 : i.1 = 9
    · have hcm : (i.2.2.2.2, i.2.2.1) ∈ calls16 rs := calls16_mem.2 ⟨m[j], (hmem _).1 (List.getElem_mem hj), i, by rw [← hget j hj]; exact hi, h9, rfl⟩
      obtain ⟨r, hr, hd⟩ := List.any_eq_true.1 (hc _ hcm)
      obtain ⟨e1, e2⟩ := of_decide_eq_true hd
      obtain ⟨q, hq, rfl⟩ := List.mem_iff_getElem.1 ((hmem r).2 hr)
      have ha := at14_yes hrise hq (s := i.2.2.2.2) (by rw [hget q hq]; exact e1)
      rw [ha, Int.toNat_natCast, hget q hq, e2]
      simp
    · simp [h9]

end Go.Proofs.YteolfnceobjonaaGreat

/-! A map from names to faces that a call has made: what it holds, told by a list of faces. -/
namespace Go.Proofs.YteolfnceobjonaaGreat
open Go.RowKit Go.Maps Go.MapKept Go.ChangeMaps
open Go.WideElems (Fit rd rg pl rd_val rd_key rg_of)

def fcVal (x : Fc) : Value := .agg #[.string ⟨x.1.toArray⟩, .int .i64 x.2]
def fcD (x : Fc) : DataW Unit := .agg [.lit (.string x.1), .lit (.int .i64 x.2)]
theorem fcVal_inj {x y : Fc} (h : fcVal x = fcVal y) : x = y := by
  obtain ⟨a, s⟩ := x
  obtain ⟨b, t⟩ := y
  simp [fcVal] at h
  obtain ⟨rfl, rfl⟩ := h
  rfl
theorem fcD_inj {x y : Fc} (h : fcD x = fcD y) : x = y := by
  obtain ⟨a, s⟩ := x
  obtain ⟨b, t⟩ := y
  simp [fcD] at h
  obtain ⟨rfl, rfl⟩ := h
  rfl
open Classical in
/-- How a face in a map reads. -/
noncomputable def fcR (v : Value) : Option (DataW Unit × List MemPlace) := if h : ∃ x : Fc, v = fcVal x then some (fcD h.choose, []) else none
theorem fcR_mk (x : Fc) : fcR (fcVal x) = some (fcD x, []) := by
  have h : ∃ y : Fc, fcVal x = fcVal y := ⟨x, rfl⟩
  unfold fcR
  rw [dif_pos h, ← fcVal_inj h.choose_spec]
theorem fcR_inv {v : Value} {z : DataW Unit × List MemPlace} (h : fcR v = some z) : ∃ x : Fc, v = fcVal x ∧ z = (fcD x, []) := by
  unfold fcR at h
  split at h
  · rename_i hx
    obtain ⟨x, rfl⟩ := hx
    have hc : ∃ y : Fc, fcVal x = fcVal y := ⟨x, rfl⟩
    injection h with h
    exact ⟨x, rfl, by rw [← h, ← fcVal_inj hc.choose_spec]⟩
  · cases h
theorem keyS : Keyed Tryz.prog 9 := string_keyed Tryz.underlying9
theorem zeroFc (w : World) : (zeroValue 96).run Tryz.prog w = .ok (fcVal ([], 0)) w := by kernel_rfl
theorem keyLitS (s : List UInt8) : WideAt.IsKeyLit (.string s) := trivial

/-- The map holds just what the list holds; where a name comes twice, one of these. -/
structure MapF (D : DataW Unit) (l : List Fc) : Prop where
  tidy : Tidy D
  has : ∀ s, Maps.has D (.string s) = decide (s ∈ l.map (fun c => c.1))
  at_ : ∀ s z, s ∈ l.map (fun c => c.1) → ∃ c ∈ l, c.1 = s ∧ D.atKey (.string s) z = fcD c
  sz : Maps.size D = (set16 (l.map (fun c => c.1))).length
theorem MapF.empty : MapF (.map []) [] := ⟨tidy_empty, fun _ => rfl, (fun _ _ h => by cases h), rfl⟩
theorem MapF.put {D : DataW Unit} {l : List Fc} (h : MapF D l) (c : Fc) (ht : Tidy (D.put (.string c.1) (fcD c))) : MapF (D.put (.string c.1) (fcD c)) (l ++ [c]) := by
  have hi := h.tidy.isMap
  refine ⟨ht, fun s => ?_, fun s z hs => ?_, ?_⟩
  · by_cases e : s = c.1
    · subst e
      rw [has_put_same hi (keyLitS _)]
      simp
    · rw [has_put_other (fun e' => e (by injection e')), h.has]
      simp [e]
  · by_cases e : s = c.1
    · subst e
      exact ⟨c, by simp, rfl, by rw [atKey_put_same hi (keyLitS _)]⟩
    · rw [atKey_put_other (fun e' => e (by injection e'))]
      have hs' : s ∈ l.map (fun c => c.1) := by
        rw [List.map_append, List.mem_append] at hs
        rcases hs with hs | hs
        · exact hs
        · simp at hs; exact absurd hs e
      obtain ⟨x, hx, e1, e2⟩ := h.at_ s z hs'
      exact ⟨x, List.mem_append_left _ hx, e1, e2⟩
  · rw [size_put h.tidy, h.has, h.sz, List.map_append, List.map_cons, List.map_nil, set16_snoc]
    by_cases e : c.1 ∈ l.map (fun c => c.1)
    · rw [decide_eq_true e, put8_in (set16_rise _) (set16_mem.2 e)]
      rfl
    · rw [decide_eq_false e, put8_new (set16_rise _) (fun h => e (set16_mem.1 h))]
      rfl

section
variable {w : World} {b n : Nat} {D : DataW Unit} {l : List Fc}
theorem look_face (c : Bool) (hown : w.ownsMap Tryz.prog 9 fcR b n D) (hM : MapF D l) {s : List UInt8} (hl : s.length ≤ maxLen) :
    ∃ x : Fc, (Instr.lookup 63 (.map (some b)) (.string ⟨s.toArray⟩) c).run Tryz.prog w = .ok (if c then .tuple #[.agg #[.string ⟨x.1.toArray⟩, .int .i64 x.2], .bool (decide (s ∈ l.map (fun c => c.1)))] else .agg #[.string ⟨x.1.toArray⟩, .int .i64 x.2]) w ∧ (s ∈ l.map (fun c => c.1) → x ∈ l ∧ x.1 = s) ∧ (s ∉ l.map (fun c => c.1) → x = ([], 0)) := by
  have hkey : keyOf Tryz.prog 9 (.string ⟨s.toArray⟩) = some (.string s) := WideMaps.keyOf_string_mk Tryz.underlying9 (by simpa [ByteArray.size] using hl)
  have hhas := hM.has s
  obtain ⟨es, clock, hb, F, _, rfl⟩ := hown
  rcases Maps.fit_look c keyS Tryz.underlying63 (zeroFc w) hb F hkey with ⟨hrun, _, hat⟩ | ⟨e0, y, _, _, hrun, hRv, hat, _⟩
  · rw [Maps.has_false_of_atKey hat] at hhas
    have hs : s ∉ l.map (fun c => c.1) := of_decide_eq_false hhas.symm
    refine ⟨([], 0), ?_, fun h => absurd h hs, fun _ => rfl⟩
    rw [hrun, ← hhas]
    rfl
  · rw [Maps.has_true_of_atKey hat] at hhas
    have hs : s ∈ l.map (fun c => c.1) := of_decide_eq_true hhas.symm
    obtain ⟨x, hx, hy⟩ := fcR_inv hRv
    obtain ⟨c', hc', e1, e2⟩ := hM.at_ s .nil hs
    have e3 : x = c' := fcD_inj (by rw [← e2, hat, hy])
    refine ⟨x, ?_, fun _ => ⟨e3 ▸ hc', e3 ▸ e1⟩, fun h => absurd hs h⟩
    rw [hrun, hx, ← hhas]
    rfl
end

set_option maxHeartbeats 1000000 in
set_option maxRecDepth 100000 in
/-- A face is put under its name. -/
theorem implPut16 (c : Fc) (b n : Nat) (D : DataW Unit) (l : List Fc) (w : World) (hown : w.ownsMap Tryz.prog 9 fcR b n D) (hM : MapF D l) (hn : n < maxLen) (hc : c.1.length ≤ maxLen) :
    Calls Tryz.prog 66 #[.map (some b), .agg #[.string ⟨c.1.toArray⟩, .int .i64 c.2]] w fun e w' => e = .returned (.tuple #[]) ∧ ∃ D', w'.ownsMap Tryz.prog 9 fcR b (n + 1) D' ∧ MapF D' (l ++ [c]) ∧ w.grownBy w' (some b) := by
  have hkey : keyOf Tryz.prog 9 (.string ⟨c.1.toArray⟩) = some (.string c.1) := WideMaps.keyOf_string_mk Tryz.underlying9 (by simpa [ByteArray.size] using hc)
  obtain ⟨W, hW⟩ : ∃ W, w.alloc (.cells #[.string ⟨c.1.toArray⟩, .int .i64 c.2] 96) = W := ⟨_, rfl⟩
  have hA := heap_alloc_new w (.cells #[.string ⟨c.1.toArray⟩, .int .i64 c.2] 96)
  rw [hW] at hA
  have c0 : W.cell? ⟨w.heap.size, 0, none⟩ = some (.string ⟨c.1.toArray⟩) := by rw [cell_of_row _ _ _ _ _ _ hA]; rfl
  have c1 : W.cell? ⟨w.heap.size, 1, none⟩ = some (.int .i64 c.2) := by rw [cell_of_row _ _ _ _ _ _ hA]; rfl
  have hg0 : w.grownBy W (some b) := by rw [← hW]; exact World.grownBy_alloc w _ _
  have hown1 : W.ownsMap Tryz.prog 9 fcR b n D := by rw [← hW]; exact hown.alloc _
  obtain ⟨w2, hrun, ho2, hg2⟩ := hown1.update keyS Tryz.underlying63 hn hkey (fcR_mk c)
  have hrun' : (Instr.mapUpdate 63 (.map (some b)) (.string ⟨c.1.toArray⟩) (.agg #[.string ⟨c.1.toArray⟩, .int .i64 c.2])).run Tryz.prog W = .ok () w2 := hrun
  have HR : Hid (∃ D', w2.ownsMap Tryz.prog 9 fcR b (n + 1) D' ∧ MapF D' (l ++ [c]) ∧ w.grownBy w2 (some b)) := ⟨_, ho2, hM.put c (ho2.tidy keyS), hg0.trans hg2⟩
  obtain ⟨D0, hD0⟩ : ∃ D0, w.heap.size = D0 := ⟨_, rfl⟩
  rw [hD0] at c0 c1
  clear hA hg0 hown1 hrun ho2 hg2 hown hM
  go_enter Tryz.func66, Tryz.ntmps66
  go_wp2
  go_end0
  exact ⟨rfl, HR.out⟩

end Go.Proofs.YteolfnceobjonaaGreat

/-! Contracts of chapter 16's landed code: routinesIn, facesOf. -/
namespace Go.Proofs.YteolfnceobjonaaGreat
open Go.RowKit

theorem pick_lt {α : Type} {n : Nat} {p : Nat → α → Prop} [Inhabited α] (h : ∀ j, j < n → ∃ x, p j x) : ∃ f : Nat → α, ∀ j, j < n → p j (f j) := by
  classical
  refine ⟨fun j => if hj : j < n then (h j hj).choose else default, fun j hj => ?_⟩
  show p j (if hj : j < n then (h j hj).choose else default)
  rw [dif_pos hj]
  exact (h j hj).choose_spec
/-- What 'append' reads where routines lie. -/
theorem RtsIn.src {w : World} {a : Option Addr} {len : Nat} {rs : List Rt} (h : RtsIn w a len rs) (h0 : 0 < len) (cap : Nat) : ∃ xs : List RV, xs.map (·.1) = rs ∧ Src w (.slice a len cap) len 3 (rtsV xs) ∧ ∀ x ∈ xs, InsIn w x.2.1 x.1.2.2.length x.1.2.2 := by
  obtain ⟨b, off, rfl, _⟩ := h.2 0 h0
  have each : ∀ j, j < len → ∃ q : Option Addr × Nat, w.cell? ⟨b, off + j * 3, none⟩ = some (.string ⟨(rs.getD j rt0).1.toArray⟩) ∧ w.cell? ⟨b, off + j * 3 + 1, none⟩ = some (.int .i64 (rs.getD j rt0).2.1) ∧ w.cell? ⟨b, off + j * 3 + 2, none⟩ = some (.slice q.1 (rs.getD j rt0).2.2.length q.2) ∧ InsIn w q.1 (rs.getD j rt0).2.2.length (rs.getD j rt0).2.2 := fun j hj => by
    obtain ⟨b', off', e, _, c0, c1, ca, cl, cc, c2, hn⟩ := h.2 j hj
    injection e with e
    injection e with e1 e2 _
    subst e1 e2
    obtain rfl : (rs.getD j rt0).2.2.length = cl := hn.1
    exact ⟨(ca, cc), c0, c1, c2, hn⟩
  obtain ⟨f, hf⟩ := pick_lt each
  have hxl : ((List.range len).map (fun j => ((rs.getD j rt0, f j) : RV))).length = len := by simp
  have hxg : ∀ j, j < len → ((List.range len).map (fun j => ((rs.getD j rt0, f j) : RV))).getD j rv0 = (rs.getD j rt0, f j) := fun j hj => by simp [List.getD, hj]
  refine ⟨(List.range len).map (fun j => (rs.getD j rt0, f j)), ?_, ⟨by rw [rtsV_len, hxl], rtsV_one _, Or.inr ⟨_, cap, rfl, fun j u hu => ?_⟩⟩, fun x hx => ?_⟩
  · refine List.ext_getElem (by simp [h.1]) (fun j h1 h2 => ?_)
    simp [List.getD, h2]
  · have hj : j < len * 3 := by have := (List.getElem?_eq_some_iff.1 hu).1; rw [rtsV_len, hxl] at this; exact this
    obtain ⟨v0, v1, v2⟩ := rtsV_at ((List.range len).map (fun j => ((rs.getD j rt0, f j) : RV))) (j / 3) (by rw [hxl]; omega)
    rw [hxg (j / 3) (by omega)] at v0 v1 v2
    obtain ⟨c0, c1, c2, _⟩ := hf (j / 3) (by omega)
    have he : ∀ i, (⟨b, off, none⟩ : Addr).add i = ⟨b, off + i, none⟩ := fun i => by unfold Addr.add; split <;> simp_all
    rw [he]
    have h3 : j % 3 = 0 ∨ j % 3 = 1 ∨ j % 3 = 2 := by omega
    rcases h3 with h' | h' | h'
    · have ej : j / 3 * 3 = j := by omega
      rw [ej] at v0 c0
      rw [v0] at hu
      injection hu with hu
      rw [← hu]; exact c0
    · have ej : j / 3 * 3 + 1 = j := by omega
      rw [ej] at v1
      rw [Nat.add_assoc, ej] at c1
      rw [v1] at hu
      injection hu with hu
      rw [← hu]; exact c1
    · have ej : j / 3 * 3 + 2 = j := by omega
      rw [ej] at v2
      rw [Nat.add_assoc, ej] at c2
      rw [v2] at hu
      injection hu with hu
      rw [← hu]; exact c2
  · obtain ⟨j, hj, rfl⟩ := List.mem_map.1 hx
    exact (hf j (List.mem_range.1 hj)).2.2.2
/-- A row of routines of the call's own; their code lies where it lay. -/
structure RtRow (w X : World) (v : Value) (xs : List RV) : Prop where
  row : X.ownsRow w.heap.size 75 3 v xs.length (rtsV xs)
  cod : ∀ x ∈ xs, InsIn w x.2.1 x.1.2.2.length x.1.2.2
  b : Below w.heap.size w X
theorem RtRow.below {w X Y : World} {v : Value} {xs : List RV} (h : RtRow w X v xs) (hb : Below X.heap.size X Y) : RtRow w Y v xs := ⟨own_below h.row hb, h.cod, h.b.trans (hb.mono h.b.size)⟩
theorem RtRow.in {w X : World} {g cp : Nat} {xs : List RV} (h : RtRow w X (.slice (some ⟨g, 0, none⟩) xs.length cp) xs) : RtsIn X (some ⟨g, 0, none⟩) xs.length (xs.map (·.1)) := by
  refine ⟨by simp, fun j hj => ?_⟩
  obtain ⟨v0, v1, v2⟩ := rtsV_at xs j hj
  have hc := fun k (hk : k < xs.length * 3) => World.ownsRow.cellAt h.row k hk
  have hmem : xs.getD j rv0 ∈ xs := by rw [List.getD_eq_getElem?_getD, List.getElem?_eq_getElem hj]; exact List.getElem_mem hj
  refine ⟨g, 0, rfl, (h.row.lt g rfl).2, ?_, ?_, (xs.getD j rv0).2.1, (xs.getD j rv0).1.2.2.length, (xs.getD j rv0).2.2, ?_, ?_⟩
  · rw [Nat.zero_add, hc _ (by omega), v0, getD_map_rt]
  · rw [Nat.zero_add, hc _ (by omega), v1, getD_map_rt]
  · rw [Nat.zero_add, hc _ (by omega), v2]; rfl
  · rw [getD_map_rt]
    exact (h.cod _ hmem).below h.b

set_option maxHeartbeats 4000000 in
set_option maxRecDepth 100000 in
theorem implRoutinesIn (a : Option Addr) (len cap : Nat) (os : List Ob) (w : World) (h : ObjsOk w a len cap os) (hB : objsB os = true) :
    Calls Tryz.prog 38 #[.slice a len cap] w fun e w' => ∃ g c xs, e = .returned (.slice (some ⟨g, 0, none⟩) (rts16 os).length c) ∧ xs.map (·.1) = rts16 os ∧ RtRow w w' (.slice (some ⟨g, 0, none⟩) xs.length c) xs := by
  have hl := h.hlen
  have hsm := h.small
  have HI : Hid (ObjsOk w a len cap os) := h
  have HOb : Hid (∀ k, k < len → rts16 (os.take (k + 1)) = rts16 (os.take k) ++ (os.getD k ob0).2.2 ∧ (1 ≤ (os.getD k ob0).2.2.length ∧ (os.getD k ob0).2.2.length ≤ 8) ∧ (rts16 (os.take k)).length ≤ 64) := fun k hk => by
    have hm := (objsB_parts hB).1
    have h8 := (objsB_parts hB).2
    refine ⟨rts16_take os k (by omega), (objB_parts (hm (os.getD k ob0) (by rw [List.getD_eq_getElem?_getD, List.getElem?_eq_getElem (by omega)]; exact List.getElem_mem (by omega)))).l, ?_⟩
    have := (rts16_len (os := os.take k) (fun o ho => hm o (List.mem_of_mem_take ho))).2
    rw [List.length_take] at this
    omega
  have HX0 : Hid (RtRow w (w.alloc (.cells #[] 75)) (.slice (some ⟨w.heap.size, 0, none⟩) ([] : List RV).length 0) []) := ⟨World.ownsRow_lit w #[] 0 (Nat.le_refl _) (by decide) rfl, (fun x hx => by cases hx), (Below.refl _ _).alloc (Nat.le_refl _) _⟩
  clear h
  go_enter Tryz.func38, Tryz.ntmps38
  go_wp2
  go_loopw [3, 9] (fun vv iv wr => ∃ (k g c : Nat) (xs : List RV), iv = .int .i64 (k : Int) ∧ k ≤ len ∧ vv = .slice (some ⟨g, 0, none⟩) xs.length c ∧ Hid (xs.map (·.1) = rts16 (os.take k)) ∧ Hid (RtRow w wr (.slice (some ⟨g, 0, none⟩) xs.length c) xs)) (fun _ iv _ => len - (intOf iv).toNat)
  case atStart => exact ⟨0, w.heap.size, 0, [], rfl, Nat.zero_le _, rfl, (by simp [rts16] : ([] : List RV).map (·.1) = rts16 (os.take 0)), HX0⟩
  case round =>
    obtain ⟨k, g, c, xs, rfl, hk, rfl, HM, HX⟩ := hrel
    clear HX0
    by_cases hlt : (k : Int) < (len : Int)
    · obtain ⟨b, off, rfl, hbl, c0, ia, il, ic, fa, fl, fc, c1, c2, hok⟩ := (HI.out.below HX.out.b).each k (by omega)
      obtain ⟨hst, hle, h64⟩ := HOb.out k (by omega)
      obtain ⟨b', off', e', _, c0', ia', il', ic', fa', fl', fc', c1', c2', hok'⟩ := HI.out.each k (by omega)
      injection e' with e'
      injection e' with e1 e2 _
      subst e1 e2
      have hf := (HX.out.b.cell (p := ⟨b, off + k * 3 + 2, none⟩) (World.block_lt_of_cell? w ⟨b, off + k * 3 + 2, none⟩ c2')).trans c2'
      rw [c2] at hf
      injection hf with hf
      injection hf with f1 f2 f3
      subst f1 f2 f3
      obtain ⟨o, ho⟩ : ∃ o, os.getD k ob0 = o := ⟨_, rfl⟩
      rw [ho] at c0 hok hok' hst hle
      obtain ⟨nm, ims, rs⟩ := o
      simp only at c0 hok hok' hst hle
      obtain rfl : rs.length = fl := hok.r.c.1
      obtain ⟨ys, hys, hsrc, hcod⟩ := hok'.r.c.in.src (by omega) fc
      obtain ⟨Y, hY⟩ : ∃ Y, wr.alloc (.cells #[.string ⟨nm.toArray⟩, .slice ia il ic, .slice fa rs.length fc] 45) = Y := ⟨_, rfl⟩
      have hb : Below wr.heap.size wr Y := by rw [← hY]; exact (Below.refl _ _).alloc (Nat.le_refl _) _
      have hR : Y.heap[wr.heap.size]? = some (.cells #[.string ⟨nm.toArray⟩, .slice ia il ic, .slice fa rs.length fc] 45) := by rw [← hY]; exact heap_alloc_new wr _
      have hX1 := HX.out.below hb
      have hsz := hX1.b.size
      have hsY : wr.heap.size < Y.heap.size := by rw [← hY]; simp
      have hsrcY : Src Y (.slice fa rs.length fc) rs.length 3 (rtsV ys) := by
        obtain ⟨h1, h2, ⟨e, h3⟩ | ⟨ad, c', e, h3⟩⟩ := hsrc
        · exact ⟨h1, h2, Or.inl ⟨e, h3⟩⟩
        · exact ⟨h1, h2, Or.inr ⟨ad, c', e, fun j u hu => by
            have h4 := h3 j u hu
            rw [hX1.b.cell (World.block_lt_of_cell? w _ h4)]; exact h4⟩⟩
      have hxl : xs.length = (rts16 (os.take k)).length := by rw [← HM.out, List.length_map]
      obtain ⟨i0, hi, hz0, hz1, hz2⟩ := info_parts infoRt
      obtain ⟨v', Z, hrun, hown, hg, hnn⟩ := run_append_src (P := Tryz.prog) Y w.heap.size 33 33 75 i0 _ 3 48 Tryz.underlying33 hi hz0 hz1 hz2 rfl (by decide) _ _ _ hX1.row _ _ _ hsrcY (by unfold maxLen; omega) (by omega) hsz
      rw [← rtsV_append] at hown
      have hyl : ys.length = rs.length := by rw [← hys, List.length_map]
      have hxyl : xs.length + rs.length = (xs ++ ys).length := by rw [List.length_append, hyl]
      rw [hxyl] at hown
      obtain ⟨g', c', rfl⟩ := own_some hown (by omega)
      have HX2 : Hid (RtRow w Z (.slice (some ⟨g', 0, none⟩) (xs ++ ys).length c') (xs ++ ys)) := ⟨hown, fun x hx => by
        rcases List.mem_append.1 hx with e | e
        · exact HX.out.cod x e
        · exact hcod x e, hX1.b.grown hg hX1.b.size (fun q e => (hX1.row.lt q e).1)⟩
      have HM2 : Hid ((xs ++ ys).map (·.1) = rts16 (os.take (k + 1))) := by exact (by rw [List.map_append, HM.out, hys, hst] : (xs ++ ys).map (·.1) = rts16 (os.take (k + 1)))
      obtain ⟨E, hE⟩ : ∃ E, wr.heap.size = E := ⟨_, rfl⟩
      obtain ⟨y0, y1, y2, _⟩ := threeR (Below.refl _ Y) hsY hR
      rw [hE] at y0 y1 y2
      generalize xs ++ ys = zs at HX2 HM2 hrun
      obtain ⟨nz, hnz⟩ : ∃ nz, zs.length = nz := ⟨_, rfl⟩
      have HNZ : Hid (zs.length = nz) := hnz
      rw [hnz] at hrun
      clear hown hg hnn hX1 hsrc hsrcY hcod hok hok' hst ho hys hyl hxyl hxl hb hR hnz HX HM hsz
      go_wp2_with (at_builtin; refine wpList_append_run rfl (.tmp 13) (.tmp 15) 33 rfl _ _ _ rfl rfl hrun ?_; clear hrun)
      go_wp2
      go_roundw
      case rel => exact ⟨k + 1, g', c', zs, by go_num, by omega, by rw [HNZ.out], HM2, HX2⟩
      case measure => simp [intOf]; omega
    · obtain rfl : k = len := by omega
      have HM2 : Hid (xs.map (·.1) = rts16 os) := by exact (by rw [HM.out, List.take_of_length_le (by omega)] : xs.map (·.1) = rts16 os)
      have HL : Hid (xs.length = (rts16 os).length) := by exact (by rw [← HM2.out, List.length_map] : xs.length = (rts16 os).length)
      go_wp2
      go_ret
      exact ⟨g, c, by rw [← HL.out]; rfl, xs, HM2.out, HX.out⟩

end Go.Proofs.YteolfnceobjonaaGreat
