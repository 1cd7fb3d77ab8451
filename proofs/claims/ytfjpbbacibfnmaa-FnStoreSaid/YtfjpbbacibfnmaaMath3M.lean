/-
  Plain facts for chapter 3's maps: what is found at a key of a list of blobs; lists that rise.
-/
import Derived.Test.YtfjpbbacibfnmaaMath3
namespace Go.Proofs.Ytfjpbbacibfnmaa

theorem fetchB_append (x y : List Bl) (key : Int) : fetchB (x ++ y) key = (fetchB x key || fetchB y key) := by
  induction x with
  | nil => simp [fetchB]
  | cons b r ih =>
    rw [List.cons_append, fetchB, fetchB]
    split
    · simp
    · exact ih

theorem fetchT_append (x y : List Bl) (key : Int) : fetchT (x ++ y) key = if fetchB x key = true then fetchT x key else fetchT y key := by
  induction x with
  | nil => simp [fetchB]
  | cons b r ih =>
    rw [List.cons_append, fetchT, fetchB, fetchT]
    by_cases h : b.1 = key
    · simp [h]
    · simp only [h, if_false]; exact ih

theorem fetchB_iff (l : List Bl) (key : Int) : fetchB l key = true ↔ key ∈ l.map Prod.fst := by
  induction l with
  | nil => simp [fetchB]
  | cons b r ih =>
    rw [fetchB, List.map_cons, List.mem_cons]
    by_cases h : b.1 = key
    · simp [h]
    · rw [if_neg h, ih]
      constructor
      · exact Or.inr
      · rintro (e | e)
        · exact absurd e.symm h
        · exact e

theorem fetchT_none (l : List Bl) (key : Int) (h : fetchB l key = false) : fetchT l key = [] := by
  induction l with
  | nil => rfl
  | cons b r ih =>
    rw [fetchB] at h
    rw [fetchT]
    by_cases e : b.1 = key
    · rw [if_pos e] at h; cases h
    · rw [if_neg e] at h; rw [if_neg e]; exact ih h

def Rises (l : List Bl) : Prop := l.Pairwise (fun x y => x.1 < y.1)

theorem fetch_of_mem (l : List Bl) (h : Rises l) (x : Bl) (hx : x ∈ l) : fetchB l x.1 = true ∧ fetchT l x.1 = x.2 := by
  induction l with
  | nil => cases hx
  | cons b r ih =>
    obtain ⟨h1, h2⟩ := List.pairwise_cons.1 h
    rcases List.mem_cons.1 hx with rfl | hx
    · simp [fetchB, fetchT]
    · have hne : b.1 ≠ x.1 := fun e => by have := h1 x hx; omega
      have := ih h2 hx
      rw [fetchB, fetchT, if_neg hne, if_neg hne]
      exact this

theorem rises_of_ok {room : Int} {bs : List Bl} (h : okP room bs) : Rises bs := by
  have step : ∀ i, i + 1 < bs.length → (bs.getD i (0, [])).1 < (bs.getD (i + 1) (0, [])).1 := fun i hi => (h.2 (i + 1) hi).2.2 (by omega)
  have far : ∀ d i, i + d + 1 < bs.length → (bs.getD i (0, [])).1 < (bs.getD (i + d + 1) (0, [])).1 := by
    intro d
    induction d with
    | zero => intro i hi; exact step i hi
    | succ d ih => intro i hi; exact Int.lt_trans (ih i (by omega)) (step (i + d + 1) hi)
  unfold Rises
  rw [List.pairwise_iff_getElem]
  intro i j hi hj hij
  have := far (j - i - 1) i (by omega)
  rw [show i + (j - i - 1) + 1 = j by omega] at this
  simpa [List.getD, hi, hj] using this

theorem rises_take {l : List Bl} (h : Rises l) (k : Nat) : Rises (l.take k) := List.Pairwise.sublist (List.take_sublist k l) h

theorem fst_nodup {l : List Bl} (h : Rises l) : (l.map Prod.fst).Nodup := by
  refine List.pairwise_map.2 (h.imp ?_)
  intro a b hab e
  omega

theorem fst_sorted {l : List Bl} (h : Rises l) : (l.map Prod.fst).Pairwise (fun a b => decide (a ≤ b) = true) := by
  refine List.pairwise_map.2 (h.imp ?_)
  intro a b hab
  exact decide_eq_true (by omega)

/-- What a store holds that is not right: nothing. -/
noncomputable def storeL (room : Int) (bs : List Bl) : List Bl := if okB room bs = true then bs else []

theorem storeL_rises (room : Int) (bs : List Bl) : Rises (storeL room bs) := by
  unfold storeL
  split
  · rename_i h; exact rises_of_ok (okB_iff.1 h)
  · exact List.Pairwise.nil

theorem fetched_storeL (room : Int) (bs : List Bl) (key : Int) : fetchedB room bs key = fetchB (storeL room bs) key ∧ fetchedT room bs key = fetchT (storeL room bs) key := by
  unfold fetchedB fetchedT storeL
  split <;> simp [fetchB, fetchT]

theorem storeL_sub (room : Int) (bs : List Bl) : takenL (storeL room bs) ≤ takenL bs ∧ (storeL room bs).length ≤ bs.length := by
  unfold storeL
  split <;> simp [takenL]

/-- The place of a key in a list that rises. -/
theorem place_there {l : List Bl} (h : Rises l) (key : Int) : fetchB l key = true ↔ placeL key l < l.length ∧ (l.getD (placeL key l) (0, [])).1 = key := by
  induction l with
  | nil => simp [fetchB, placeL]
  | cons b r ih =>
    obtain ⟨h1, h2⟩ := List.pairwise_cons.1 h
    rw [fetchB, placeL]
    by_cases e : b.1 = key
    · have hlt : ¬ b.1 < key := by omega
      simp [e]
    · rw [if_neg e]
      by_cases hlt : b.1 < key
      · rw [if_pos hlt, ih h2]
        simp
      · rw [if_neg hlt]
        have hno : fetchB r key = false := by
          cases hf : fetchB r key
          · rfl
          · obtain ⟨x, hx, e1⟩ := List.mem_map.1 ((fetchB_iff r key).1 hf)
            have := h1 x hx
            omega
        rw [hno]
        simp [e]

theorem fetch_place {l : List Bl} (h : Rises l) (key : Int) (hf : fetchB l key = true) : l.getD (placeL key l) (0, []) = (key, fetchT l key) := by
  obtain ⟨h1, h2⟩ := (place_there h key).1 hf
  have hm : l.getD (placeL key l) (0, []) ∈ l := by
    have : l.getD (placeL key l) (0, []) = l[placeL key l] := by simp [List.getD, h1]
    rw [this]; exact List.getElem_mem h1
  have := (fetch_of_mem l h _ hm).2
  rw [h2] at this
  exact Prod.ext h2 this.symm

theorem place_rises {l : List Bl} (h : Rises l) (key : Int) (t : List UInt8) (hf : fetchB l key = false) : Rises (l.take (placeL key l) ++ [(key, t)] ++ l.drop (placeL key l)) := by
  induction l with
  | nil => simp [placeL, Rises]
  | cons b r ih =>
    obtain ⟨h1, h2⟩ := List.pairwise_cons.1 h
    rw [fetchB] at hf
    by_cases e : b.1 = key
    · rw [if_pos e] at hf; cases hf
    · rw [if_neg e] at hf
      by_cases hlt : b.1 < key
      · have := ih h2 hf
        rw [placeL, if_pos hlt]
        simp only [List.take_succ_cons, List.drop_succ_cons, List.cons_append]
        refine List.pairwise_cons.2 ⟨fun x hx => ?_, this⟩
        rw [List.append_assoc] at hx
        rcases List.mem_append.1 hx with hx | hx
        · exact h1 x (List.mem_of_mem_take hx)
        · rcases List.mem_append.1 hx with hx | hx
          · rw [List.mem_singleton] at hx; subst hx; exact hlt
          · exact h1 x (List.mem_of_mem_drop hx)
      · rw [placeL, if_neg hlt]
        simp only [List.take_zero, List.nil_append, List.drop_zero]
        refine List.pairwise_cons.2 ⟨fun x hx => ?_, h⟩
        rcases List.mem_cons.1 hx with rfl | hx
        · show key < x.1; omega
        · have := h1 x hx; show key < x.1; omega

/-- What is found behind a put. -/
theorem fetch_put (l : List Bl) (key : Int) (t : List UInt8) (k : Nat) (hf : fetchB l key = false) : ∀ x, fetchB (l.take k ++ [(key, t)] ++ l.drop k) x = (decide (x = key) || fetchB l x) ∧ (fetchT (l.take k ++ [(key, t)] ++ l.drop k) x = if x = key then t else fetchT l x) := by
  intro x
  have hB : fetchB l x = (fetchB (l.take k) x || fetchB (l.drop k) x) := by rw [← fetchB_append, List.take_append_drop]
  have hT : fetchT l x = if fetchB (l.take k) x = true then fetchT (l.take k) x else fetchT (l.drop k) x := by rw [← fetchT_append, List.take_append_drop]
  rw [fetchB_append, fetchB_append, fetchT_append, fetchB_append, fetchT_append]
  by_cases e : x = key
  · subst e
    rw [hf] at hB
    have h1 : fetchB (l.take k) x = false := by
      cases h : fetchB (l.take k) x
      · rfl
      · rw [h] at hB; simp at hB
    simp [h1, fetchB, fetchT]
  · have e' : ¬ key = x := fun h => e h.symm
    rw [hB, hT]
    constructor
    · simp [fetchB, e', e]
    · simp only [fetchB, fetchT, e', e, if_false, Bool.or_false]
      split <;> rfl

theorem fetch_snoc (l : List Bl) (key : Int) (t : List UInt8) (hf : fetchB l key = false) : ∀ x, fetchB (l ++ [(key, t)]) x = (decide (x = key) || fetchB l x) ∧ (fetchT (l ++ [(key, t)]) x = if x = key then t else fetchT l x) := by
  have := fetch_put l key t l.length hf
  simpa using this

/-- A key above all others is not yet there. -/
theorem fetch_above (l : List Bl) (key : Int) (h : ∀ x ∈ l, x.1 < key) : fetchB l key = false := by
  cases hf : fetchB l key
  · rfl
  · obtain ⟨x, hx, e⟩ := List.mem_map.1 ((fetchB_iff l key).1 hf)
    have := h x hx
    omega

end Go.Proofs.Ytfjpbbacibfnmaa
