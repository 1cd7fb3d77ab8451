/-
  Plain facts for chapter 3: what is kept is fetched, and all else stays.
-/
import Derived.Test.YtfjpbbacibfnmaaMath3
namespace Go.Proofs.Ytfjpbbacibfnmaa
open Go.RowKit

theorem getD_mem (bs : List Bl) (i : Nat) (h : i < bs.length) : bs.getD i (0, []) = bs[i] := by simp [List.getD, h]

/-- Keys of a right store rise. -/
theorem ok_rise {bs : List Bl} (h : ∀ i, i < bs.length → okAt bs i) : ∀ j i, i < j → j < bs.length → (bs.getD i (0, [])).1 < (bs.getD j (0, [])).1
  | 0, i, hi, _ => by omega
  | j + 1, i, hi, hj => by
    have h1 := (h (j + 1) hj).2.2 (by omega)
    rw [Nat.add_sub_cancel] at h1
    by_cases he : i = j
    · subst he; exact h1
    · have := ok_rise h j i (by omega) (by omega)
      omega

/-- In a right store the blob at i is fetched by its key. -/
theorem ok_fetch {bs : List Bl} (h : ∀ i, i < bs.length → okAt bs i) (i : Nat) (hi : i < bs.length) : fetchB bs (bs.getD i (0, [])).1 = true ∧ fetchT bs (bs.getD i (0, [])).1 = (bs.getD i (0, [])).2 :=
  fetch_at bs _ i hi (fun j hj => by have := ok_rise h i j hj hi; omega) rfl

theorem keep_getD (bs : List Bl) (x : Bl) (k i : Nat) (hk : k ≤ bs.length) : (bs.take k ++ [x] ++ bs.drop k).getD i (0, []) = if i < k then bs.getD i (0, []) else if i = k then x else bs.getD (i - 1) (0, []) := by
  by_cases h1 : i < k
  · rw [if_pos h1]
    have hi : i < bs.length := by omega
    simp [List.getD, List.getElem?_append, h1, List.length_take, Nat.min_eq_left hk, hi]
  · rw [if_neg h1]
    by_cases h2 : i = k
    · subst h2
      simp [List.getD, List.length_take, Nat.min_eq_left hk]
    · rw [if_neg h2]
      have h3 : ¬ i < (bs.take k ++ [x]).length := by rw [List.length_append, List.length_take, Nat.min_eq_left hk]; simp; omega
      simp only [List.getD]
      rw [List.getElem?_append_right (by omega), List.getElem?_drop, List.length_append, List.length_take, Nat.min_eq_left hk, List.length_singleton, show k + (i - (k + 1)) = i - 1 by omega]

/-- A text that goes into a right store leaves it right. -/
theorem keep_ok {room : Int} {bs : List Bl} {t : List UInt8} (h : okP room bs) : okP room (keepB room bs t) := by
  have hk := placeL_le (hashL t) bs
  by_cases hc : placeL (hashL t) bs < bs.length ∧ (bs.getD (placeL (hashL t) bs) (0, [])).1 = hashL t
  · have : keepB room bs t = bs := by unfold keepB; simp only []; rw [if_pos hc]
    rw [this]; exact h
  · by_cases hf : 20000 < t.length ∨ room < (takenL bs : Int) + (t.length : Int)
    · have : keepB room bs t = bs := by unfold keepB; simp only []; rw [if_neg hc, if_pos hf]
      rw [this]; exact h
    · obtain ⟨k, hkk⟩ : ∃ k, placeL (hashL t) bs = k := ⟨_, rfl⟩
      have e : keepB room bs t = bs.take k ++ [(hashL t, t)] ++ bs.drop k := by unfold keepB; simp only []; rw [if_neg hc, if_neg hf, hkk]
      have hah : ∀ j, j < k → (bs.getD j (0, [])).1 < hashL t := fun j hj => placeL_ahead _ bs j (by rw [hkk]; exact hj)
      have hat : k < bs.length → hashL t < (bs.getD k (0, [])).1 := fun hlt => by
        have a := placeL_at (hashL t) bs (by rw [hkk]; exact hlt)
        rw [hkk] at a
        have b : (bs.getD k (0, [])).1 ≠ hashL t := fun e' => hc ⟨by rw [hkk]; exact hlt, by rw [hkk]; exact e'⟩
        omega
      rw [hkk] at hk
      rw [e]
      obtain ⟨⟨r0, r1, r2⟩, hok⟩ := h
      refine ⟨⟨r0, r1, ?_⟩, fun i hi => ?_⟩
      · have := takenL_append (bs.take k) (bs.drop k)
        rw [List.take_append_drop] at this
        rw [takenL_append, takenL_append]
        simp [takenL]
        omega
      · rw [List.length_append, List.length_append, List.length_take, List.length_drop, Nat.min_eq_left hk, List.length_singleton] at hi
        unfold okAt
        rw [keep_getD bs _ k i hk, keep_getD bs _ k (i - 1) hk]
        by_cases h1 : i < k
        · rw [if_pos h1]
          obtain ⟨a, b, c⟩ := hok i (by omega)
          refine ⟨a, b, fun h0 => ?_⟩
          rw [if_pos (by omega)]
          exact c h0
        · rw [if_neg h1]
          by_cases h2 : i = k
          · subst h2
            rw [if_pos rfl]
            refine ⟨by simp; omega, rfl, fun h0 => ?_⟩
            rw [if_pos (by omega)]
            exact hah (i - 1) (by omega)
          · rw [if_neg h2]
            obtain ⟨a, b, c⟩ := hok (i - 1) (by omega)
            refine ⟨a, b, fun h0 => ?_⟩
            rw [if_neg (by omega)]
            by_cases h3 : i - 1 = k
            · rw [if_pos h3, h3]
              exact hat (by omega)
            · rw [if_neg h3]
              exact c (by omega)

theorem fetch_hash {bs : List Bl} (h : ∀ i, i < bs.length → okAt bs i) (key : Int) (hb : fetchB bs key = true) : hashL (fetchT bs key) = key := by
  by_cases hex : ∃ i, i < bs.length ∧ (bs.getD i (0, [])).1 = key
  · obtain ⟨i, hi, he⟩ := hex
    have hf := ok_fetch h i hi
    rw [he] at hf
    rw [hf.2, (h i hi).2.1, he]
  · have := fetch_none bs key (fun j hj e => hex ⟨j, hj, e⟩)
    rw [this.1] at hb
    cases hb

/-- Where a text is kept, by which it then is found: the place in what is left. -/
theorem keep_there2 {room : Int} {bs : List Bl} {t : List UInt8} (hc : keepC room bs t = 0) : ∃ k, k < (keepB room bs t).length ∧ (keepB room bs t).getD k (0, []) = (hashL t, t) ∧ ∀ i, i < bs.length → ∃ j, j < (keepB room bs t).length ∧ (keepB room bs t).getD j (0, []) = bs.getD i (0, []) := by
  have hk := placeL_le (hashL t) bs
  obtain ⟨k, hkk⟩ : ∃ k, placeL (hashL t) bs = k := ⟨_, rfl⟩
  rw [hkk] at hk
  by_cases hx : placeL (hashL t) bs < bs.length ∧ (bs.getD (placeL (hashL t) bs) (0, [])).1 = hashL t
  · have e : keepB room bs t = bs := by unfold keepB; simp only []; rw [if_pos hx]
    have c : keepC room bs t = if (bs.getD (placeL (hashL t) bs) (0, [])).2 = t then 0 else 1 := by unfold keepC; simp only []; rw [if_pos hx]
    rw [hkk] at hx c
    rw [e]
    have hu : (bs.getD k (0, [])).2 = t := by
      by_cases hu : (bs.getD k (0, [])).2 = t
      · exact hu
      · rw [c, if_neg hu] at hc; cases hc
    exact ⟨k, hx.1, Prod.ext hx.2 hu, fun i hi => ⟨i, hi, rfl⟩⟩
  · by_cases hf : 20000 < t.length ∨ room < (takenL bs : Int) + (t.length : Int)
    · have c : keepC room bs t = 2 := by unfold keepC; simp only []; rw [if_neg hx, if_pos hf]
      rw [c] at hc; cases hc
    · have e : keepB room bs t = bs.take k ++ [(hashL t, t)] ++ bs.drop k := by unfold keepB; simp only []; rw [if_neg hx, if_neg hf, hkk]
      have hl : (bs.take k ++ [(hashL t, t)] ++ bs.drop k).length = bs.length + 1 := by
        rw [List.length_append, List.length_append, List.length_take, List.length_drop, Nat.min_eq_left hk, List.length_singleton]; omega
      rw [e]
      refine ⟨k, by omega, ?_, fun i hi => ?_⟩
      · rw [keep_getD bs _ k k hk, if_neg (by omega), if_pos rfl]
      · by_cases h1 : i < k
        · exact ⟨i, by omega, by rw [keep_getD bs _ k i hk, if_pos h1]⟩
        · exact ⟨i + 1, by omega, by rw [keep_getD bs _ k (i + 1) hk, if_neg (by omega), if_neg (by omega), Nat.add_sub_cancel]⟩

/-- What was kept is kept again, and nothing changes. -/
theorem keep_again {room : Int} {xs : List Bl} {t : List UInt8} (h : ∀ i, i < xs.length → okAt xs i) (k : Nat) (hk : k < xs.length) (hx : xs.getD k (0, []) = (hashL t, t)) : keepB room xs t = xs ∧ keepC room xs t = 0 := by
  have hp : placeL (hashL t) xs = k := placeL_eq _ xs k (by omega) (fun j hj => by have := ok_rise h k j hj hk; rw [hx] at this; exact this) (fun _ => by rw [hx]; simp)
  have := keep_there room xs t t (hashL t) k rfl hp hk hx
  rw [if_pos rfl] at this
  exact this

end Go.Proofs.Ytfjpbbacibfnmaa
