/-
  Plain facts for chapter 3 (the store): what a store's functions compute, on lists of keys and texts.
-/
import Derived.Test.YtfjpbbacibfnmaaMath1
namespace Go.Proofs.Ytfjpbbacibfnmaa
open Go.RowKit

abbrev Bl := Int × List UInt8

def takenL : List Bl → Nat
  | [] => 0
  | b :: r => b.2.length + takenL r

theorem takenL_append (x y : List Bl) : takenL (x ++ y) = takenL x + takenL y := by
  induction x with
  | nil => simp [takenL]
  | cons b r ih => rw [List.cons_append, takenL, takenL, ih]; omega

theorem takenL_le (bs : List Bl) (j : Nat) (h : j < bs.length) : bs[j].2.length ≤ takenL bs := by
  induction bs generalizing j with
  | nil => simp at h
  | cons b r ih =>
    cases j with
    | zero => simp [takenL]
    | succ j => have := ih j (by simpa using h); simp [takenL]; omega

theorem takenL_take (bs : List Bl) (k : Nat) : takenL (bs.take k) ≤ takenL bs := by
  have h := congrArg takenL (List.take_append_drop k bs)
  rw [takenL_append] at h
  omega

theorem takenL_snoc (bs : List Bl) (k : Nat) (h : k < bs.length) : takenL (bs.take (k + 1)) = takenL (bs.take k) + bs[k].2.length := by
  rw [List.take_succ_eq_append_getElem h, takenL_append]; simp [takenL]

/-- The blob at i is right. -/
def okAt (bs : List Bl) (i : Nat) : Prop := (bs.getD i (0, [])).2.length ≤ 20000 ∧ hashL (bs.getD i (0, [])).2 = (bs.getD i (0, [])).1 ∧ (0 < i → (bs.getD (i - 1) (0, [])).1 < (bs.getD i (0, [])).1)

instance (bs : List Bl) (i : Nat) : Decidable (okAt bs i) := by unfold okAt; infer_instance

def roomOk (room : Int) (bs : List Bl) : Prop := 0 ≤ room ∧ room ≤ 100000 ∧ (takenL bs : Int) ≤ room

def okP (room : Int) (bs : List Bl) : Prop := roomOk room bs ∧ ∀ i, i < bs.length → okAt bs i

open Classical in
noncomputable def okB (room : Int) (bs : List Bl) : Bool := decide (okP room bs)

theorem okB_yes {room : Int} {bs : List Bl} (h : okP room bs) : okB room bs = true := by simp [okB, h]
theorem okB_no {room : Int} {bs : List Bl} (h : ¬ okP room bs) : okB room bs = false := by simp [okB, h]
theorem okB_iff {room : Int} {bs : List Bl} : okB room bs = true ↔ okP room bs := by unfold okB; simp

noncomputable def takenI (room : Int) (bs : List Bl) : Int := if okB room bs = true then (takenL bs : Int) else -1

/-- Where a key belongs. -/
def placeL (key : Int) : List Bl → Nat
  | [] => 0
  | b :: r => if b.1 < key then placeL key r + 1 else 0

theorem placeL_le (key : Int) (bs : List Bl) : placeL key bs ≤ bs.length := by
  induction bs with
  | nil => simp [placeL]
  | cons b r ih => simp only [placeL, List.length_cons]; split <;> omega

theorem placeL_at (key : Int) (bs : List Bl) (h : placeL key bs < bs.length) : ¬ (bs.getD (placeL key bs) (0, [])).1 < key := by
  induction bs with
  | nil => simp [placeL] at h
  | cons b r ih =>
    by_cases hb : b.1 < key
    · simp only [placeL, hb, if_true] at h ⊢
      have := ih (by simpa using h)
      simpa using this
    · simp only [placeL, hb, if_false]
      simpa using hb

theorem placeL_ahead (key : Int) (bs : List Bl) (j : Nat) (h : j < placeL key bs) : (bs.getD j (0, [])).1 < key := by
  induction bs generalizing j with
  | nil => simp [placeL] at h
  | cons b r ih =>
    by_cases hb : b.1 < key
    · simp only [placeL, hb, if_true] at h
      cases j with
      | zero => simpa using hb
      | succ j => have := ih j (by omega); simpa using this
    · simp only [placeL, hb, if_false] at h
      omega

/-- The place is where the loop ends. -/
theorem placeL_eq (key : Int) (bs : List Bl) (k : Nat) (hk : k ≤ bs.length) (h1 : ∀ j, j < k → (bs.getD j (0, [])).1 < key) (h2 : k < bs.length → ¬ (bs.getD k (0, [])).1 < key) : placeL key bs = k := by
  have a := placeL_le key bs
  by_cases hlt : placeL key bs < k
  · exact absurd (h1 _ hlt) (placeL_at key bs (by omega))
  · by_cases hgt : k < placeL key bs
    · exact absurd (placeL_ahead key bs k hgt) (h2 (by omega))
    · omega

/-- What is kept, and what is said. -/
def keepB (room : Int) (bs : List Bl) (t : List UInt8) : List Bl :=
  let k := placeL (hashL t) bs
  if k < bs.length ∧ (bs.getD k (0, [])).1 = hashL t then bs
  else if 20000 < t.length ∨ room < (takenL bs : Int) + (t.length : Int) then bs
  else bs.take k ++ [(hashL t, t)] ++ bs.drop k

def keepC (room : Int) (bs : List Bl) (t : List UInt8) : Int :=
  let k := placeL (hashL t) bs
  if k < bs.length ∧ (bs.getD k (0, [])).1 = hashL t then (if (bs.getD k (0, [])).2 = t then 0 else 1)
  else if 20000 < t.length ∨ room < (takenL bs : Int) + (t.length : Int) then 2
  else 0

theorem keep_there (room : Int) (bs : List Bl) (t u : List UInt8) (key : Int) (k : Nat) (hk : hashL t = key) (hp : placeL (hashL t) bs = k) (hlt : k < bs.length) (hx : bs.getD k (0, []) = (key, u)) : keepB room bs t = bs ∧ keepC room bs t = if u = t then 0 else 1 := by
  subst hp
  have hc : placeL (hashL t) bs < bs.length ∧ (bs.getD (placeL (hashL t) bs) (0, [])).1 = hashL t := ⟨hlt, by rw [hx, hk]⟩
  constructor
  · unfold keepB; simp only []; rw [if_pos hc]
  · unfold keepC; simp only []; rw [if_pos hc, hx]

theorem keep_full (room : Int) (bs : List Bl) (t : List UInt8) (k : Nat) (hp : placeL (hashL t) bs = k) (hne : k < bs.length → (bs.getD k (0, [])).1 ≠ hashL t) (hf : 20000 < t.length ∨ room < (takenL bs : Int) + (t.length : Int)) : keepB room bs t = bs ∧ keepC room bs t = 2 := by
  subst hp
  have hc : ¬ (placeL (hashL t) bs < bs.length ∧ (bs.getD (placeL (hashL t) bs) (0, [])).1 = hashL t) := fun h => hne h.1 h.2
  constructor
  · unfold keepB; simp only []; rw [if_neg hc, if_pos hf]
  · unfold keepC; simp only []; rw [if_neg hc, if_pos hf]

theorem keep_new (room : Int) (bs : List Bl) (t : List UInt8) (k : Nat) (hp : placeL (hashL t) bs = k) (hne : k < bs.length → (bs.getD k (0, [])).1 ≠ hashL t) (hf : ¬ (20000 < t.length ∨ room < (takenL bs : Int) + (t.length : Int))) : keepB room bs t = bs.take k ++ [(hashL t, t)] ++ bs.drop k ∧ keepC room bs t = 0 := by
  subst hp
  have hc : ¬ (placeL (hashL t) bs < bs.length ∧ (bs.getD (placeL (hashL t) bs) (0, [])).1 = hashL t) := fun h => hne h.1 h.2
  constructor
  · unfold keepB; simp only []; rw [if_neg hc, if_neg hf]
  · unfold keepC; simp only []; rw [if_neg hc, if_neg hf]

noncomputable def keptR (room : Int) (bs : List Bl) : Int := if okB room bs = true then room else 0
noncomputable def keptB (room : Int) (bs : List Bl) (t : List UInt8) : List Bl := if okB room bs = true then keepB room bs t else []
noncomputable def keptC (room : Int) (bs : List Bl) (t : List UInt8) : Int := if okB room bs = true then keepC room bs t else 3

/-- The first place of a key. -/
def fetchB : List Bl → Int → Bool
  | [], _ => false
  | b :: r, key => if b.1 = key then true else fetchB r key
def fetchT : List Bl → Int → List UInt8
  | [], _ => []
  | b :: r, key => if b.1 = key then b.2 else fetchT r key
noncomputable def fetchedB (room : Int) (bs : List Bl) (key : Int) : Bool := if okB room bs = true then fetchB bs key else false
noncomputable def fetchedT (room : Int) (bs : List Bl) (key : Int) : List UInt8 := if okB room bs = true then fetchT bs key else []

theorem fetch_at (bs : List Bl) (key : Int) (k : Nat) (hk : k < bs.length) (h1 : ∀ j, j < k → (bs.getD j (0, [])).1 ≠ key) (h2 : (bs.getD k (0, [])).1 = key) : fetchB bs key = true ∧ fetchT bs key = (bs.getD k (0, [])).2 := by
  induction bs generalizing k with
  | nil => simp at hk
  | cons b r ih =>
    cases k with
    | zero => simp at h2; simp [fetchB, fetchT, h2]
    | succ k =>
      have hb : b.1 ≠ key := by simpa using h1 0 (by omega)
      have := ih k (by simpa using hk) (fun j hj => by simpa using h1 (j + 1) (by omega)) (by simpa using h2)
      simp [fetchB, fetchT, hb]
      simpa using this

theorem fetch_none (bs : List Bl) (key : Int) (h1 : ∀ j, j < bs.length → (bs.getD j (0, [])).1 ≠ key) : fetchB bs key = false ∧ fetchT bs key = [] := by
  induction bs with
  | nil => simp [fetchB, fetchT]
  | cons b r ih =>
    have hb : b.1 ≠ key := by simpa using h1 0 (by simp)
    have := ih (fun j hj => by simpa using h1 (j + 1) (by simpa using hj))
    simp [fetchB, fetchT, hb]
    simpa using this

end Go.Proofs.Ytfjpbbacibfnmaa
