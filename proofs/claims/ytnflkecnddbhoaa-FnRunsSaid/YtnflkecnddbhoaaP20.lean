/-
  Parts of one proof, one behind the other: Math14S.
-/
import Derived.Test.YtnflkecnddbhoaaP19

/-! Plain facts of chapter 14: how an image runs. -/
namespace Go.Proofs.Ytnflkecnddbhoaa
open Go.RowKit

def row14 : List Int := List.replicate 64 0
inductive St14
  | go (row : List Int) (p : Int)
  | call (k : Nat) (xs : List Int) (r : Nat)
  | stop (v c : Int)
/-- One instruction. -/
def step14 (rs : List Rt) (k : Nat) (xs row : List Int) (p : Int) : St14 :=
  let i := (rs.getD k rt0).2.2.getD p.toNat in0
  if i.1 = 1 then .go (row.set i.2.1.toNat i.2.2.1) (p + 1)
  else if i.1 = 2 then .go (row.set i.2.1.toNat (xs.getD i.2.2.1.toNat 0)) (p + 1)
  else if i.1 = 7 then .go row (if row.getD i.2.1.toNat 0 = 0 then i.2.2.1 else p + 1)
  else if i.1 = 8 then .go row i.2.2.1
  else if i.1 = 9 then .call (at14 rs i.2.2.2.2).toNat ((row.drop i.2.1.toNat).take i.2.2.1.toNat) i.2.1.toNat
  else if i.1 = 10 then .stop (row.getD i.2.1.toNat 0) 0
  else if doneB i.1 (row.getD i.2.2.1.toNat 0) (row.getD i.2.2.2.1.toNat 0) = true then .go (row.set i.2.1.toNat (doneV i.1 (row.getD i.2.2.1.toNat 0) (row.getD i.2.2.2.1.toNat 0))) (p + 1)
  else .stop 0 1
/-- A run: the word, why it stopped, the fuel that is left. -/
def run14 (rs : List Rt) : Nat → Nat → Nat → List Int → List Int → Int → Int × Int × Nat
  | 0, _, _, _, _, _ => (0, 2, 0)
  | _ + 1, 0, _, _, _, _ => (0, 2, 0)
  | d + 1, f + 1, k, xs, row, p =>
    match step14 rs k xs row p with
    | .go row2 p2 => run14 rs d f k xs row2 p2
    | .stop v c => (v, c, f)
    | .call k2 xs2 r => if (run14 rs d f k2 xs2 row14 0).2.1 = 0 then run14 rs d (run14 rs d f k2 xs2 row14 0).2.2 k xs (row.set r (run14 rs d f k2 xs2 row14 0).1) (p + 1) else (0, (run14 rs d f k2 xs2 row14 0).2.1, (run14 rs d f k2 xs2 row14 0).2.2)

theorem run14_left (rs : List Rt) : ∀ (d f k : Nat) (xs row : List Int) (p : Int), (run14 rs d f k xs row p).2.2 ≤ f
  | 0, _, _, _, _, _ => Nat.zero_le _
  | _ + 1, 0, _, _, _, _ => Nat.zero_le _
  | d + 1, f + 1, k, xs, row, p => by
    rw [run14]
    cases step14 rs k xs row p with
    | go row2 p2 => exact Nat.le_trans (run14_left rs d f k xs row2 p2) (Nat.le_succ f)
    | stop v c => exact Nat.le_succ f
    | call k2 xs2 r =>
      simp only
      have h1 := run14_left rs d f k2 xs2 row14 0
      split
      · exact Nat.le_trans (run14_left rs d _ k xs _ _) (Nat.le_trans h1 (Nat.le_succ f))
      · exact Nat.le_trans h1 (Nat.le_succ f)
/-- How deep it may go does not matter, where it is no less than the fuel. -/
theorem run14_gas (rs : List Rt) : ∀ (d d' f k : Nat) (xs row : List Int) (p : Int), f ≤ d → f ≤ d' → run14 rs d f k xs row p = run14 rs d' f k xs row p
  | 0, d', f, k, xs, row, p, h, _ => by
    obtain rfl : f = 0 := by omega
    cases d' <;> rfl
  | d + 1, 0, f, k, xs, row, p, _, h => by
    obtain rfl : f = 0 := by omega
    rfl
  | d + 1, d' + 1, 0, k, xs, row, p, _, _ => rfl
  | d + 1, d' + 1, f + 1, k, xs, row, p, h, h' => by
    rw [run14, run14]
    cases step14 rs k xs row p with
    | go row2 p2 => exact run14_gas rs d d' f k xs row2 p2 (by omega) (by omega)
    | stop v c => rfl
    | call k2 xs2 r =>
      simp only
      have h1 := run14_gas rs d d' f k2 xs2 row14 0 (by omega) (by omega)
      have hl := run14_left rs d' f k2 xs2 row14 0
      rw [h1]
      split
      · exact run14_gas rs d d' _ k xs _ _ (by omega) (by omega)
      · rfl
/-- With more fuel it is the same, where it came to its end. -/
theorem run14_more (rs : List Rt) (e : Nat) : ∀ (d f k : Nat) (xs row : List Int) (p : Int), f + e ≤ d → (run14 rs d f k xs row p).2.1 ≠ 2 →
    run14 rs d (f + e) k xs row p = ((run14 rs d f k xs row p).1, (run14 rs d f k xs row p).2.1, (run14 rs d f k xs row p).2.2 + e)
  | 0, f, k, xs, row, p, _, hc => absurd rfl hc
  | d + 1, 0, k, xs, row, p, _, hc => absurd rfl hc
  | d + 1, f + 1, k, xs, row, p, h, hc => by
    rw [show f + 1 + e = (f + e) + 1 by omega]
    rw [run14] at hc ⊢
    conv => rhs; rw [run14]
    cases hs : step14 rs k xs row p with
    | go row2 p2 =>
      rw [hs] at hc
      simp only at hc ⊢
      rw [run14_more rs e d f k xs row2 p2 (by omega) hc]
    | stop v c => rfl
    | call k2 xs2 r =>
      rw [hs] at hc
      simp only at hc ⊢
      have hl := run14_left rs d f k2 xs2 row14 0
      by_cases h0 : (run14 rs d f k2 xs2 row14 0).2.1 = 0
      · have h1 := run14_more rs e d f k2 xs2 row14 0 (by omega) (by rw [h0]; decide)
        rw [if_pos h0] at hc
        rw [h1]
        simp only
        rw [if_pos h0, if_pos h0]
        rw [run14_more rs e d _ k xs _ _ (by omega) hc]
      · rw [if_neg h0] at hc
        simp only at hc
        have h1 := run14_more rs e d f k2 xs2 row14 0 (by omega) hc
        rw [h1]
        simp only
        rw [if_neg h0, if_neg h0]
def WordL (xs : List Int) : Prop := ∀ x ∈ xs, -2147483648 ≤ x ∧ x ≤ 2147483647
theorem WordL.at {xs : List Int} (h : WordL xs) (j : Nat) : -2147483648 ≤ xs.getD j 0 ∧ xs.getD j 0 ≤ 2147483647 := by
  rw [List.getD_eq_getElem?_getD]
  rcases Nat.lt_or_ge j xs.length with hj | hj
  · rw [List.getElem?_eq_getElem hj]; exact h _ (List.getElem_mem hj)
  · rw [List.getElem?_eq_none hj]; decide
theorem WordL.set {xs : List Int} (h : WordL xs) (j : Nat) {z : Int} (hz : -2147483648 ≤ z ∧ z ≤ 2147483647) : WordL (xs.set j z) := fun q hq => by
  rcases List.mem_or_eq_of_mem_set hq with e | e
  · exact h q e
  · rw [e]; exact hz
theorem row14_words : WordL row14 := fun x hx => by rw [List.eq_of_mem_replicate hx]; decide

theorem ins_word {rs : List Rt} (h : imageB rs = true) (k p : Nat) : -2147483648 ≤ ((rs.getD k rt0).2.2.getD p in0).2.2.1 ∧ ((rs.getD k rt0).2.2.getD p in0).2.2.1 ≤ 2147483647 := by
  have h0 : -2147483648 ≤ in0.2.2.1 ∧ in0.2.2.1 ≤ 2147483647 := by decide
  by_cases hk : k < rs.length
  · have hr : rtB (rs.getD k rt0) = true := ((of_decide_eq_true h).1 k hk).1
    have hc := (rtB_parts hr).2.2.1
    by_cases hp : p < (rs.getD k rt0).2.2.length
    · have hg : (rs.getD k rt0).2.2.getD p in0 = (rs.getD k rt0).2.2[p] := by rw [List.getD_eq_getElem?_getD, List.getElem?_eq_getElem hp]; rfl
      rw [hg]
      exact (insP_words (codeB_ins hc _ (List.getElem_mem hp))).2.2.1
    · have hg : (rs.getD k rt0).2.2.getD p in0 = in0 := by rw [List.getD_eq_getElem?_getD, List.getElem?_eq_none (by omega)]; rfl
      rw [hg]; exact h0
  · have hg : rs.getD k rt0 = rt0 := by rw [List.getD_eq_getElem?_getD, List.getElem?_eq_none (by omega)]; rfl
    rw [hg]
    exact h0
/-- What one instruction leaves are words. -/
theorem step14_words {rs : List Rt} (h : imageB rs = true) (k : Nat) {xs row : List Int} (hx : WordL xs) (hr : WordL row) (p : Int) :
    match step14 rs k xs row p with
    | .go row2 _ => WordL row2 ∧ row2.length = row.length
    | .call _ xs2 _ => WordL xs2
    | .stop v c => (-2147483648 ≤ v ∧ v ≤ 2147483647) ∧ (c = 0 ∨ c = 1) ∧ (c = 1 → v = 0) := by
  have hw := ins_word h k p.toNat
  unfold step14
  simp only
  generalize (rs.getD k rt0).2.2.getD p.toNat in0 = i at hw
  by_cases h1 : i.1 = 1
  · rw [if_pos h1]; exact ⟨hr.set _ hw, List.length_set⟩
  rw [if_neg h1]
  by_cases h2 : i.1 = 2
  · rw [if_pos h2]; exact ⟨hr.set _ (hx.at _), List.length_set⟩
  rw [if_neg h2]
  by_cases h7 : i.1 = 7
  · rw [if_pos h7]; exact ⟨hr, rfl⟩
  rw [if_neg h7]
  by_cases h8 : i.1 = 8
  · rw [if_pos h8]; exact ⟨hr, rfl⟩
  rw [if_neg h8]
  by_cases h9 : i.1 = 9
  · rw [if_pos h9]; exact fun z hz => hr z (List.mem_of_mem_drop (List.mem_of_mem_take hz))
  rw [if_neg h9]
  by_cases h10 : i.1 = 10
  · rw [if_pos h10]; exact ⟨hr.at _, Or.inl rfl, fun e => by cases e⟩
  rw [if_neg h10]
  split
  · rename_i row2 p2 he
    split at he
    · injection he with e1 e2
      rw [← e1]
      exact ⟨hr.set _ (doneV_bd _ _ _), List.length_set⟩
    · cases he
  · rename_i he
    split at he <;> cases he
  · rename_i v c he
    split at he
    · cases he
    · injection he with e1 e2
      rw [← e1, ← e2]
      exact ⟨by decide, Or.inr rfl, fun _ => rfl⟩
theorem run14_words {rs : List Rt} (h : imageB rs = true) : ∀ (d f k : Nat) (xs row : List Int) (p : Int), WordL xs → WordL row →
    (-2147483648 ≤ (run14 rs d f k xs row p).1 ∧ (run14 rs d f k xs row p).1 ≤ 2147483647) ∧ (0 ≤ (run14 rs d f k xs row p).2.1 ∧ (run14 rs d f k xs row p).2.1 ≤ 2) ∧ ((run14 rs d f k xs row p).2.1 ≠ 0 → (run14 rs d f k xs row p).1 = 0)
  | 0, _, _, _, _, _, _, _ => by simp [run14]
  | _ + 1, 0, _, _, _, _, _, _ => by simp [run14]
  | d + 1, f + 1, k, xs, row, p, hx, hr => by
    have hs := step14_words h k hx hr p
    rw [run14]
    cases he : step14 rs k xs row p with
    | go row2 p2 =>
      rw [he] at hs
      exact run14_words h d f k xs row2 p2 hx hs.1
    | stop v c =>
      rw [he] at hs
      simp only at hs ⊢
      refine ⟨hs.1, by omega, fun e => hs.2.2 (by omega)⟩
    | call k2 xs2 r =>
      rw [he] at hs
      simp only at hs ⊢
      have h1 := run14_words h d f k2 xs2 row14 0 hs row14_words
      split
      · exact run14_words h d _ k xs _ _ hx (hr.set _ h1.1)
      · exact ⟨by simp only; omega, h1.2.1, fun _ => rfl⟩
/-- What RunImage gives. -/
def runP (rs : List Rt) (nm : List UInt8) (xs : List Int) (fuel : Int) : Prop := imageB rs = true ∧ 0 ≤ at14 rs nm ∧ (xs.length : Int) = (rs.getD (at14 rs nm).toNat rt0).2.1 ∧ (0 ≤ fuel ∧ fuel ≤ 20000) ∧ WordL xs
instance (xs : List Int) : Decidable (WordL xs) := by unfold WordL; infer_instance
instance (rs : List Rt) (nm : List UInt8) (xs : List Int) (fuel : Int) : Decidable (runP rs nm xs fuel) := by unfold runP; infer_instance
def runV (rs : List Rt) (nm : List UInt8) (xs : List Int) (fuel : Int) : Int × Int :=
  if runP rs nm xs fuel then
    (if (run14 rs 20000 fuel.toNat (at14 rs nm).toNat xs row14 0).2.1 = 0 then ((run14 rs 20000 fuel.toNat (at14 rs nm).toNat xs row14 0).1, 0) else (0, (run14 rs 20000 fuel.toNat (at14 rs nm).toNat xs row14 0).2.1))
  else (0, 3)
/-- What FnRuns asks of a run. -/
theorem runs_law (rs : List Rt) (nm : List UInt8) (xs : List Int) (fuel : Int) :
    ((runV rs nm xs fuel).2 ≠ 0 → (runV rs nm xs fuel).1 = 0) ∧ (-2147483648 ≤ (runV rs nm xs fuel).1 ∧ (runV rs nm xs fuel).1 ≤ 2147483647) ∧ (0 ≤ (runV rs nm xs fuel).2 ∧ (runV rs nm xs fuel).2 ≤ 3) ∧
    ((runV rs nm xs fuel).2 ≠ 3 → (runV rs nm xs fuel).2 ≠ 2 → runV rs nm xs 20000 = runV rs nm xs fuel) := by
  by_cases hp : runP rs nm xs fuel
  · have hw := run14_words hp.1 20000 fuel.toNat (at14 rs nm).toNat xs row14 0 hp.2.2.2.2 row14_words
    have hm := run14_more rs (20000 - fuel.toNat) 20000 fuel.toNat (at14 rs nm).toNat xs row14 0 (by have := hp.2.2.2.1; omega)
    have hpm : runP rs nm xs 20000 := ⟨hp.1, hp.2.1, hp.2.2.1, by omega, hp.2.2.2.2⟩
    have hf : fuel.toNat + (20000 - fuel.toNat) = (20000 : Int).toNat := by have := hp.2.2.2.1; omega
    rw [hf] at hm
    unfold runV
    rw [if_pos hp, if_pos hpm]
    generalize hA : run14 rs 20000 fuel.toNat (at14 rs nm).toNat xs row14 0 = A at hw hm
    generalize hB : run14 rs 20000 (20000 : Int).toNat (at14 rs nm).toNat xs row14 0 = C at hm
    by_cases h0 : A.2.1 = 0
    · rw [if_pos h0]
      have h2 := hm (by rw [h0]; decide)
      refine ⟨fun e => absurd rfl e, hw.1, by simp only; omega, fun _ _ => ?_⟩
      rw [h2, if_pos h0]
    · rw [if_neg h0]
      refine ⟨fun _ => rfl, by simp only; omega, by have := hw.2.1; simp only; omega, fun _ e2 => ?_⟩
      have h2 := hm e2
      rw [h2, if_neg h0]
  · unfold runV
    rw [if_neg hp]
    exact ⟨fun _ => rfl, by decide, by decide, fun e => absurd rfl e⟩

end Go.Proofs.Ytnflkecnddbhoaa
