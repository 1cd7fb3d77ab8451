/-
  Parts of one proof, one behind the other: Math8R, MathF, MathH, MathX, Math2, Math2F.
-/
import Derived.Test.YtglhbcbilepomaaDoorP4
import Derived.Test.YtglhbcbilepomaaDoorP1
import Derived.Test.YtglhbcbilepomaaDoorP2
import Derived.Lib.Bytealg

/-! Plain facts of chapter 8: a text is put into a list that rises; what is reached. -/
namespace Go.Proofs.YtglhbcbilepomaaDoor
open Go.RowKit

/-- How many come ahead of a text. -/
def low8 (s : List UInt8) : List (List UInt8) → Nat
  | [] => 0
  | x :: r => if Op.bytesLess x s = true then low8 s r + 1 else 0
theorem low8_le (s : List UInt8) : ∀ ts, low8 s ts ≤ ts.length
  | [] => Nat.le_refl _
  | x :: r => by unfold low8; split <;> simp; exact low8_le s r
/-- As far as a walk has come. -/
theorem low8_at (s : List UInt8) : ∀ (ts : List (List UInt8)) (k : Nat), (∀ i, i < k → Op.bytesLess (ts.getD i []) s = true) → k ≤ ts.length → (k = ts.length ∨ Op.bytesLess (ts.getD k []) s = false) → low8 s ts = k
  | [], k, _, h, _ => by simp at h; subst h; rfl
  | x :: r, 0, _, _, h => by
    rcases h with h | h
    · simp at h
    · unfold low8; rw [if_neg (by simpa using h)]
  | x :: r, k + 1, h1, h2, h3 => by
    have h0 := h1 0 (by omega)
    unfold low8
    rw [if_pos (by simpa using h0)]
    rw [low8_at s r k (fun i hi => by simpa using h1 (i + 1) (by omega)) (by simpa using h2) (by rcases h3 with h | h; exact Or.inl (by simpa using h); exact Or.inr (by simpa using h))]
def put8 (ts : List (List UInt8)) (s : List UInt8) : List (List UInt8) := if ts[low8 s ts]? = some s then ts else ts.take (low8 s ts) ++ s :: ts.drop (low8 s ts)
theorem put8_mem {ts : List (List UInt8)} {s x : List UInt8} : x ∈ put8 ts s ↔ x = s ∨ x ∈ ts := by
  unfold put8
  split
  · rename_i h
    exact ⟨Or.inr, fun g => g.elim (fun e => by rw [e]; exact List.mem_of_getElem? h) id⟩
  · have e := List.take_append_drop (low8 s ts) ts
    rw [List.mem_append, List.mem_cons]
    constructor
    · rintro (h | h | h)
      · exact Or.inr (List.mem_of_mem_take h)
      · exact Or.inl h
      · exact Or.inr (List.mem_of_mem_drop h)
    · rintro (h | h)
      · exact Or.inr (Or.inl h)
      · rw [← e, List.mem_append] at h
        rcases h with h | h
        · exact Or.inl h
        · exact Or.inr (Or.inr h)
theorem put8_rise {s : List UInt8} : ∀ {ts : List (List UInt8)}, Rise ts → Rise (put8 ts s)
  | [], _ => by simp [put8, low8, Rise]
  | x :: r, h => by
    have hx := List.pairwise_cons.1 h
    by_cases hl : Op.bytesLess x s = true
    · have ih := put8_rise (s := s) (ts := r) hx.2
      have e : put8 (x :: r) s = x :: put8 r s := by
        unfold put8
        rw [show low8 s (x :: r) = low8 s r + 1 by rw [low8, if_pos hl]]
        rw [List.getElem?_cons_succ]
        split
        · rfl
        · rfl
      rw [e]
      refine List.pairwise_cons.2 ⟨fun y hy => ?_, ih⟩
      rcases put8_mem.1 hy with rfl | hy
      · exact hl
      · exact hx.1 y hy
    · have hl0 : low8 s (x :: r) = 0 := by rw [low8, if_neg hl]
      unfold put8
      rw [hl0]
      simp only [List.getElem?_cons_zero, Option.some.injEq, List.take_zero, List.drop_zero, List.nil_append]
      split
      · exact h
      · rename_i hne
        have hsx : Op.bytesLess s x = true := by
          rcases hb : Op.bytesLess s x with _ | _
          · exact absurd (lt8_tri (by simpa using hl) hb) hne
          · rfl
        refine List.pairwise_cons.2 ⟨fun y hy => ?_, h⟩
        rcases List.mem_cons.1 hy with rfl | hy
        · exact hsx
        · exact lt8_trans hsx (hx.1 y hy)
theorem put8_len (ts : List (List UInt8)) (s : List UInt8) : ts.length ≤ (put8 ts s).length ∧ (put8 ts s).length ≤ ts.length + 1 := by
  unfold put8
  have h := low8_le s ts
  split
  · omega
  · rw [List.length_append, List.length_cons, List.length_take, List.length_drop]; omega

/-! What is reached. -/
def in8 (ps : List Pk) (o : List (List UInt8)) (m : List UInt8) : List (List UInt8) := if m ∈ names8 ps then put8 o m else o
def inner8 (ps : List Pk) (o ms : List (List UInt8)) : List (List UInt8) := ms.foldl (in8 ps) o
def pass8 (ps : List Pk) (o : List (List UInt8)) (p : Pk) : List (List UInt8) := if p.1 ∈ o then inner8 ps o p.2.1 else o
def step8 (ps qs : List Pk) (o : List (List UInt8)) : List (List UInt8) := qs.foldl (pass8 ps) o
def reachGo (ps : List Pk) : Nat → List (List UInt8) → List (List UInt8)
  | 0, o => o
  | n + 1, o => if (step8 ps ps o).length = o.length then step8 ps ps o else reachGo ps n (step8 ps ps o)
def reach8 (ps : List Pk) (s : List UInt8) : List (List UInt8) := reachGo ps (ps.length + 1) [s]

/-- What is held of what is reached so far. -/
structure Re8 (ps : List Pk) (s : List UInt8) (o : List (List UInt8)) : Prop where
  rise : Rise o
  sub : ∀ x ∈ o, x ∈ names8 ps
  self : s ∈ o
  why : ∀ x ∈ o, x = s ∨ ∃ p ∈ ps, p.1 ∈ o ∧ x ∈ p.2.1
theorem Re8.len {ps : List Pk} {s : List UInt8} {o : List (List UInt8)} (h : Re8 ps s o) : o.length ≤ ps.length := by
  have := h.rise.nodup.length_le_of_subset (fun x hx => h.sub x hx)
  simpa [names8] using this
theorem Re8.put {ps : List Pk} {s : List UInt8} {o : List (List UInt8)} (h : Re8 ps s o) {p : Pk} (hp : p ∈ ps) (hpo : p.1 ∈ o) {m : List UInt8} (hm : m ∈ p.2.1) : Re8 ps s (in8 ps o m) := by
  unfold in8
  split
  · rename_i hn
    refine ⟨put8_rise h.rise, fun x hx => ?_, put8_mem.2 (Or.inr h.self), fun x hx => ?_⟩
    · rcases put8_mem.1 hx with rfl | hx
      · exact hn
      · exact h.sub x hx
    · rcases put8_mem.1 hx with rfl | hx
      · exact Or.inr ⟨p, hp, put8_mem.2 (Or.inr hpo), hm⟩
      · rcases h.why x hx with e | ⟨q, hq, hqo, hxq⟩
        · exact Or.inl e
        · exact Or.inr ⟨q, hq, put8_mem.2 (Or.inr hqo), hxq⟩
  · exact h
theorem in8_sub {ps : List Pk} {o : List (List UInt8)} {m x : List UInt8} (h : x ∈ o) : x ∈ in8 ps o m := by
  unfold in8
  split
  · exact put8_mem.2 (Or.inr h)
  · exact h
theorem inner8_sub {ps : List Pk} {x : List UInt8} : ∀ (ms o : List (List UInt8)), x ∈ o → x ∈ inner8 ps o ms
  | [], _, h => h
  | m :: r, o, h => inner8_sub r (in8 ps o m) (in8_sub h)
theorem inner8_has {ps : List Pk} {x : List UInt8} (hx : x ∈ names8 ps) : ∀ (ms o : List (List UInt8)), x ∈ ms → x ∈ inner8 ps o ms
  | m :: r, o, h => by
    rcases List.mem_cons.1 h with rfl | h
    · refine inner8_sub r (in8 ps o x) ?_
      unfold in8; rw [if_pos hx]; exact put8_mem.2 (Or.inl rfl)
    · exact inner8_has hx r (in8 ps o m) h
theorem Re8.inner {ps : List Pk} {s : List UInt8} {p : Pk} (hp : p ∈ ps) : ∀ (ms o : List (List UInt8)), Re8 ps s o → p.1 ∈ o → (∀ m ∈ ms, m ∈ p.2.1) → Re8 ps s (inner8 ps o ms)
  | [], _, h, _, _ => h
  | m :: r, o, h, hpo, hm => Re8.inner hp r (in8 ps o m) (h.put hp hpo (hm m List.mem_cons_self)) (in8_sub hpo) (fun x hx => hm x (List.mem_cons_of_mem _ hx))
theorem Re8.pass {ps : List Pk} {s : List UInt8} {o : List (List UInt8)} (h : Re8 ps s o) {p : Pk} (hp : p ∈ ps) : Re8 ps s (pass8 ps o p) := by
  unfold pass8
  split
  · rename_i hpo
    exact Re8.inner hp _ _ h hpo (fun m hm => hm)
  · exact h
theorem pass8_sub {ps : List Pk} {o : List (List UInt8)} {p : Pk} {x : List UInt8} (h : x ∈ o) : x ∈ pass8 ps o p := by
  unfold pass8
  split
  · exact inner8_sub _ _ h
  · exact h
theorem step8_sub {ps : List Pk} {x : List UInt8} : ∀ (qs : List Pk) (o : List (List UInt8)), x ∈ o → x ∈ step8 ps qs o
  | [], _, h => h
  | p :: r, o, h => step8_sub r (pass8 ps o p) (pass8_sub h)
theorem Re8.step {ps : List Pk} {s : List UInt8} : ∀ (qs : List Pk) (o : List (List UInt8)), (∀ q ∈ qs, q ∈ ps) → Re8 ps s o → Re8 ps s (step8 ps qs o)
  | [], _, _, h => h
  | p :: r, o, hq, h => Re8.step r (pass8 ps o p) (fun q hqr => hq q (List.mem_cons_of_mem _ hqr)) (h.pass (hq p List.mem_cons_self))
theorem step8_has {ps : List Pk} {x : List UInt8} (hx : x ∈ names8 ps) {p : Pk} (hxp : x ∈ p.2.1) : ∀ (qs : List Pk) (o : List (List UInt8)), p ∈ qs → p.1 ∈ o → x ∈ step8 ps qs o
  | q :: r, o, hp, hpo => by
    rcases List.mem_cons.1 hp with rfl | hp
    · refine step8_sub r (pass8 ps o p) ?_
      unfold pass8; rw [if_pos hpo]; exact inner8_has hx _ _ hxp
    · exact step8_has hx hxp r (pass8 ps o q) hp (pass8_sub hpo)
/-- Two lists of no two alike, one in the other, of one length, hold the same. -/
theorem same_mem {α : Type} [DecidableEq α] {a b : List α} (ha : a.Nodup) (hs : ∀ x ∈ a, x ∈ b) (hl : b.length = a.length) : ∀ x ∈ b, x ∈ a := fun x hx => by
  by_cases h : x ∈ a
  · exact h
  · have h1 : (x :: a).Nodup := List.nodup_cons.2 ⟨h, ha⟩
    have := h1.length_le_of_subset (fun y hy => by
      rcases List.mem_cons.1 hy with rfl | hy
      · exact hx
      · exact hs y hy)
    simp at this
    omega
/-- Closed: what is reached has what it imports. -/
def Shut8 (ps : List Pk) (o : List (List UInt8)) : Prop := ∀ p ∈ ps, p.1 ∈ o → ∀ m ∈ p.2.1, m ∈ names8 ps → m ∈ o
theorem shut8_of {ps : List Pk} {s : List UInt8} {o : List (List UInt8)} (h : Re8 ps s o) (hl : (step8 ps ps o).length = o.length) : Shut8 ps (step8 ps ps o) := fun p hp hpo m hm hn => by
  have hb := same_mem h.rise.nodup (fun x hx => step8_sub ps o hx) hl
  exact step8_has hn hm ps o hp (hb _ hpo)
theorem reachGo_end {ps : List Pk} {s : List UInt8} : ∀ (n : Nat) (o : List (List UInt8)), Re8 ps s o → ps.length < n + o.length → Re8 ps s (reachGo ps n o) ∧ Shut8 ps (reachGo ps n o)
  | 0, o, h, hl => by have := h.len; omega
  | n + 1, o, h, hl => by
    rw [reachGo]
    have h2 := Re8.step ps o (fun q hq => hq) h
    split
    · rename_i e; exact ⟨h2, shut8_of h e⟩
    · rename_i e
      have hle := h.rise.nodup.length_le_of_subset (fun x hx => step8_sub (ps := ps) ps o hx)
      exact reachGo_end n _ h2 (by omega)
theorem re8_one {ps : List Pk} {s : List UInt8} (h : s ∈ names8 ps) : Re8 ps s [s] :=
  ⟨List.pairwise_singleton _ _, fun x hx => by rw [List.mem_singleton] at hx; rw [hx]; exact h, List.mem_singleton.2 rfl, fun x hx => Or.inl (List.mem_singleton.1 hx)⟩
theorem reach8_end {ps : List Pk} {s : List UInt8} (h : s ∈ names8 ps) : Re8 ps s (reach8 ps s) ∧ Shut8 ps (reach8 ps s) := reachGo_end _ _ (re8_one h) (by simp only [List.length_singleton]; omega)

/-- What the functions of chapter 8 answer. -/
def orderV (ps : List Pk) : List (List UInt8) := if projB ps = true then order8 ps else []
def hereB (ps : List Pk) (s : List UInt8) : Bool := projB ps && decide (0 ≤ at8 ps s)
def reachV (ps : List Pk) (s : List UInt8) : List (List UInt8) := if hereB ps s = true then reach8 ps s else []
def need8 (ps : List Pk) (s : List UInt8) : List (List UInt8) := (order8 ps).filter (fun x => decide (x ≠ s ∧ x ∈ reach8 ps s))
def needV (ps : List Pk) (s : List UInt8) : List (List UInt8) := if hereB ps s = true then need8 ps s else []

end Go.Proofs.YtglhbcbilepomaaDoor

/-! Plain facts for FromHex: what a sign is worth, and what eight signs are. -/
namespace Go.Proofs.YtglhbcbilepomaaDoor

/-- What a sign is worth as a digit; -1: it is none. -/
def hvN (n : Nat) : Int := if 48 ≤ n ∧ n ≤ 57 then (n : Int) - 48 else if 97 ≤ n ∧ n ≤ 102 then (n : Int) - 87 else -1
def hv (c : UInt8) : Int := hvN c.toNat

theorem hv_all : ∀ n : Nat, n < 256 → Lib.indexByte [48, 49, 50, 51, 52, 53, 54, 55, 56, 57, 97, 98, 99, 100, 101, 102] (UInt8.ofNat n) = hvN n := by decide +kernel

theorem hv_idx (c : UInt8) : Lib.indexByte [48, 49, 50, 51, 52, 53, 54, 55, 56, 57, 97, 98, 99, 100, 101, 102] ((c.toNat : Int).toNat.toUInt8) = hv c := by
  have h := hv_all c.toNat c.toNat_lt
  simpa [hv] using h

theorem hv_bd (c : UInt8) : -1 ≤ hv c ∧ hv c ≤ 15 := by
  unfold hv hvN; split <;> (try split) <;> omega

def hexStep (n : Int) (c : UInt8) : Int := if n = -1 ∨ hv c < 0 then -1 else 16 * n + hv c

theorem hexStep_dig (n : Int) (c : UInt8) (h : 0 ≤ n) (h1 : 48 ≤ c.toNat) (h2 : c.toNat ≤ 57) : hexStep n c = 16 * n + ((c.toNat : Int) - 48) := by
  have e : hv c = (c.toNat : Int) - 48 := by unfold hv hvN; rw [if_pos ⟨h1, h2⟩]
  unfold hexStep; rw [if_neg (by omega), e]
theorem hexStep_let (n : Int) (c : UInt8) (h : 0 ≤ n) (h1 : 97 ≤ c.toNat) (h2 : c.toNat ≤ 102) : hexStep n c = 16 * n + ((c.toNat : Int) - 87) := by
  have e : hv c = (c.toNat : Int) - 87 := by unfold hv hvN; rw [if_neg (by omega), if_pos ⟨h1, h2⟩]
  unfold hexStep; rw [if_neg (by omega), e]
theorem hexStep_none (n : Int) (c : UInt8) (h : c.toNat < 48 ∨ (57 < c.toNat ∧ c.toNat < 97) ∨ 102 < c.toNat) : hexStep n c = -1 := by
  have e : hv c = -1 := by unfold hv hvN; rw [if_neg (by omega), if_neg (by omega)]
  unfold hexStep; rw [if_pos (by omega)]

def fromL (l : List UInt8) : Int := l.foldl hexStep 0

theorem hexStep_stick (c : UInt8) : hexStep (-1) c = -1 := by simp [hexStep]

theorem fold_stick (l : List UInt8) : l.foldl hexStep (-1) = -1 := by
  induction l with
  | nil => rfl
  | cons c r ih => rw [List.foldl_cons, hexStep_stick, ih]

theorem fromL_snoc (l : List UInt8) (c : UInt8) : fromL (l ++ [c]) = hexStep (fromL l) c := by
  unfold fromL; rw [List.foldl_append]; rfl

theorem fromL_take (s : ByteArray) (k : Nat) (h : k < s.size) : fromL (s.data.toList.take (k + 1)) = hexStep (fromL (s.data.toList.take k)) s[k] := by
  rw [take_snoc s k h, fromL_snoc]

theorem fold_hex_bd (l : List UInt8) (m : Nat) (n : Int) (h0 : -1 ≤ n) (h1 : n < 16 ^ m) : -1 ≤ l.foldl hexStep n ∧ l.foldl hexStep n < 16 ^ (m + l.length) := by
  induction l generalizing n m with
  | nil => exact ⟨h0, h1⟩
  | cons c r ih =>
    have hb := hv_bd c
    have e : (16 : Int) ^ (m + 1) = 16 * 16 ^ m := by rw [Int.pow_succ]; omega
    have hp : (0 : Int) < 16 ^ m := Int.pow_pos (by decide)
    have hs : -1 ≤ hexStep n c ∧ hexStep n c < 16 ^ (m + 1) := by
      unfold hexStep
      split
      · omega
      · rw [e]; omega
    have h := ih (m + 1) (hexStep n c) hs.1 hs.2
    rw [List.foldl_cons, List.length_cons, show m + (r.length + 1) = m + 1 + r.length by omega]
    exact h

theorem fromL_bd (l : List UInt8) : -1 ≤ fromL l ∧ fromL l < 16 ^ l.length := by
  have h := fold_hex_bd l 0 0 (by decide) (by decide)
  rw [Nat.zero_add] at h
  exact h

theorem fromL_le (l : List UInt8) (h : l.length ≤ 8) : -1 ≤ fromL l ∧ fromL l ≤ 4294967295 := by
  have hb := fromL_bd l
  have hn : 16 ^ l.length ≤ 16 ^ 8 := Nat.pow_le_pow_right (by decide) h
  have : (16 : Int) ^ l.length ≤ 16 ^ 8 := by exact_mod_cast hn
  omega

theorem fromL_stuck (s : ByteArray) (k : Nat) (h1 : fromL (s.data.toList.take k) = -1) : fromL s.data.toList = -1 := by
  have e : s.data.toList = s.data.toList.take k ++ s.data.toList.drop k := (List.take_append_drop k _).symm
  rw [e]; unfold fromL at *; rw [List.foldl_append, h1, fold_stick]

/-- The number that eight signs are, and whether they are any. -/
def fromB (l : List UInt8) : Bool := decide (l.length = 8 ∧ fromL l ≠ -1)
def fromN (l : List UInt8) : Int := if l.length = 8 ∧ fromL l ≠ -1 then fromL l else 0

theorem from_no (l : List UInt8) (h : l.length ≠ 8 ∨ fromL l = -1) : fromB l = false ∧ fromN l = 0 := by
  unfold fromB fromN
  have : ¬ (l.length = 8 ∧ fromL l ≠ -1) := by rcases h with h | h <;> simp [h]
  rw [if_neg this]; simp [this]

theorem from_yes (l : List UInt8) (h : l.length = 8) (h1 : fromL l ≠ -1) : fromB l = true ∧ fromN l = fromL l := by
  unfold fromB fromN
  have : l.length = 8 ∧ fromL l ≠ -1 := ⟨h, h1⟩
  rw [if_pos this]; simp [this]


end Go.Proofs.YtglhbcbilepomaaDoor

/-! Plain facts for FnHashes: one byte turned into another gives another hash. -/
namespace Go.Proofs.YtglhbcbilepomaaDoor

theorem inv_mul (d m : Int) (hd : 1000003 * d = 2147483647 * m) : d = 2147483647 * (1523789695 * m - 709572 * d) := by
  have hu : 1523789695 * (1000003 * d) = 1523789695 * (2147483647 * m) := by rw [hd]
  rw [← Int.mul_assoc, ← Int.mul_assoc] at hu
  clear hd
  omega

theorem small_mul (d r : Int) (h : d = 2147483647 * r) (h0 : -2147483647 < d) (h1 : d < 2147483647) : d = 0 := by omega

theorem hashStep_inj (h1 h2 : Int) (b : UInt8) (k1 : 0 ≤ h1 ∧ h1 < 2147483647) (k2 : 0 ≤ h2 ∧ h2 < 2147483647) (h : hashStep h1 b = hashStep h2 b) : h1 = h2 := by
  unfold hashStep at h
  have h3 : (1000003 * h1 + (b.toNat : Int) + 1 - (1000003 * h2 + (b.toNat : Int) + 1)) % 2147483647 = 0 := Int.emod_eq_emod_iff_emod_sub_eq_zero.1 h
  obtain ⟨m, hm⟩ := Int.dvd_of_emod_eq_zero h3
  clear h h3
  have e : 1000003 * (h1 - h2) = 1000003 * h1 + (b.toNat : Int) + 1 - (1000003 * h2 + (b.toNat : Int) + 1) := by clear hm; omega
  have hd : 1000003 * (h1 - h2) = 2147483647 * m := e.trans hm
  have l1 : -2147483647 < h1 - h2 := by clear hm hd e; omega
  have l2 : h1 - h2 < 2147483647 := by clear hm hd e; omega
  have hq := small_mul (h1 - h2) _ (inv_mul (h1 - h2) m hd) l1 l2
  exact Int.eq_of_sub_eq_zero hq

theorem hashStep_byte (n : Int) (b c : UInt8) (h : hashStep n b = hashStep n c) : b = c := by
  have hb := b.toNat_lt
  have hc := c.toNat_lt
  unfold hashStep at h
  have e : b.toNat = c.toNat := by omega
  exact UInt8.toNat_inj.1 e

theorem fold_inj (l : List UInt8) (h1 h2 : Int) (k1 : 0 ≤ h1 ∧ h1 < 2147483647) (k2 : 0 ≤ h2 ∧ h2 < 2147483647) (h : l.foldl hashStep h1 = l.foldl hashStep h2) : h1 = h2 := by
  induction l generalizing h1 h2 with
  | nil => exact h
  | cons b r ih => exact hashStep_inj h1 h2 b k1 k2 (ih _ _ (hashStep_bd h1 b) (hashStep_bd h2 b) h)

theorem hash_set (l : List UInt8) (k : Nat) (c : UInt8) (h : hashL (l.set k c) = hashL l) : l.set k c = l := by
  by_cases hk : k < l.length
  · have e1 : l.set k c = l.take k ++ c :: l.drop (k + 1) := by rw [List.set_eq_take_append_cons_drop, if_pos hk]
    have e2 : l = l.take k ++ l[k] :: l.drop (k + 1) := by rw [← List.drop_eq_getElem_cons hk, List.take_append_drop]
    have e3 : hashL l = (l.drop (k + 1)).foldl hashStep (hashStep (hashL (l.take k)) l[k]) := by
      conv => lhs; rw [e2]
      unfold hashL; rw [List.foldl_append]; rfl
    have e4 : hashL (l.set k c) = (l.drop (k + 1)).foldl hashStep (hashStep (hashL (l.take k)) c) := by
      rw [e1]; unfold hashL; rw [List.foldl_append]; rfl
    rw [e3, e4] at h
    have e5 := hashStep_byte _ _ _ (fold_inj _ _ _ (hashStep_bd _ _) (hashStep_bd _ _) h)
    rw [e5]; exact List.set_getElem_self hk
  · exact List.set_eq_of_length_le (by omega)

theorem hash_turned (l : List UInt8) (p q : Int) : (hashL (turnedL l p q) == hashL l) = (turnedL l p q == l) := by
  rw [Bool.eq_iff_iff, beq_iff_eq, beq_iff_eq]
  constructor
  · intro h
    unfold turnedL at h ⊢
    split at h
    · rename_i hc; rw [if_pos hc]; exact hash_set l _ _ h
    · rename_i hc; rw [if_neg hc]
  · intro h; rw [h]

theorem turned_len (l : List UInt8) (p q : Int) : (turnedL l p q).length = l.length := by
  unfold turnedL; split <;> simp

theorem hash_xy (l : List UInt8) : (hashL (l ++ [120]) != hashL (l ++ [121])) = true := by
  rw [bne_iff_ne, hashL_snoc, hashL_snoc]
  intro h
  exact absurd (hashStep_byte _ _ _ h) (by decide)

end Go.Proofs.YtglhbcbilepomaaDoor

/-! Plain facts for FnHex: eight signs are read as the number that they were made of, and what is read is made again. -/
namespace Go.Proofs.YtglhbcbilepomaaDoor

theorem hv_hexD (d : Nat) (h : d < 16) : hv (hexD d) = (d : Int) := by
  have key : ∀ d : Nat, d < 16 → hv (hexD d) = (d : Int) := by decide +kernel
  exact key d h

theorem hexD_hvN : ∀ n : Nat, n < 256 → hvN n = -1 ∨ hexD (hvN n).toNat = UInt8.ofNat n := by decide +kernel

theorem hexD_hv (c : UInt8) (h : 0 ≤ hv c) : hexD (hv c).toNat = c := by
  rcases hexD_hvN c.toNat c.toNat_lt with e | e
  · unfold hv at h; omega
  · unfold hv; rw [e]; simp

theorem hexStep_ok (n : Int) (c : UInt8) (d : Nat) (h0 : 0 ≤ n) (h : hv c = (d : Int)) : hexStep n c = 16 * n + d := by
  unfold hexStep; rw [if_neg (by omega), h]

theorem fold_digits (ds : List Nat) (n : Int) (h0 : 0 ≤ n) (h : ∀ d ∈ ds, d < 16) : (ds.map hexD).foldl hexStep n = ds.foldl (fun (m : Int) (d : Nat) => 16 * m + (d : Int)) n := by
  induction ds generalizing n with
  | nil => rfl
  | cons d r ih =>
    rw [List.map_cons, List.foldl_cons, List.foldl_cons, hexStep_ok n _ d h0 (hv_hexD d (h d List.mem_cons_self))]
    exact ih _ (by omega) (fun x hx => h x (List.mem_cons_of_mem _ hx))

theorem from_hexL (n : Nat) (h : n ≤ 4294967295) : fromL (hexL n) = (n : Int) := by
  have e := fold_digits [n / 268435456 % 16, n / 16777216 % 16, n / 1048576 % 16, n / 65536 % 16, n / 4096 % 16, n / 256 % 16, n / 16 % 16, n % 16] 0 (by omega) (by
    intro d hd
    simp only [List.mem_cons, List.not_mem_nil, or_false] at hd
    omega)
  show ([n / 268435456 % 16, n / 16777216 % 16, n / 1048576 % 16, n / 65536 % 16, n / 4096 % 16, n / 256 % 16, n / 16 % 16, n % 16].map hexD).foldl hexStep 0 = _
  rw [e]
  simp only [List.foldl_cons, List.foldl_nil]
  omega

theorem hexStep_inv (n : Int) (c : UInt8) (h : hexStep n c ≠ -1) : n ≠ -1 ∧ 0 ≤ hv c ∧ hexStep n c = 16 * n + hv c := by
  unfold hexStep at h ⊢
  split at h
  · exact absurd rfl h
  · rename_i hc
    rw [if_neg hc]
    exact ⟨fun e => hc (Or.inl e), by omega, rfl⟩

theorem hexL_from (l : List UInt8) (h8 : l.length = 8) (h : fromL l ≠ -1) : hexL (fromL l).toNat = l ∧ 0 ≤ fromL l ∧ fromL l ≤ 4294967295 := by
  match l, h8 with
  | [a, b, c, d, e, f, g, i], _ =>
    unfold fromL at h ⊢
    simp only [List.foldl_cons, List.foldl_nil] at h ⊢
    obtain ⟨h7, v7, e7⟩ := hexStep_inv _ _ h
    obtain ⟨h6, v6, e6⟩ := hexStep_inv _ _ h7
    obtain ⟨h5, v5, e5⟩ := hexStep_inv _ _ h6
    obtain ⟨h4, v4, e4⟩ := hexStep_inv _ _ h5
    obtain ⟨h3, v3, e3⟩ := hexStep_inv _ _ h4
    obtain ⟨h2, v2, e2⟩ := hexStep_inv _ _ h3
    obtain ⟨h1, v1, e1⟩ := hexStep_inv _ _ h2
    obtain ⟨_, v0, e0⟩ := hexStep_inv _ _ h1
    rw [e7, e6, e5, e4, e3, e2, e1, e0]
    have b0 := (hv_bd a).2
    have b1 := (hv_bd b).2
    have b2 := (hv_bd c).2
    have b3 := (hv_bd d).2
    have b4 := (hv_bd e).2
    have b5 := (hv_bd f).2
    have b6 := (hv_bd g).2
    have b7 := (hv_bd i).2
    have k0 := hexD_hv a v0
    have k1 := hexD_hv b v1
    have k2 := hexD_hv c v2
    have k3 := hexD_hv d v3
    have k4 := hexD_hv e v4
    have k5 := hexD_hv f v5
    have k6 := hexD_hv g v6
    have k7 := hexD_hv i v7
    clear h h1 h2 h3 h4 h5 h6 h7 e0 e1 e2 e3 e4 e5 e6 e7
    refine ⟨?_, by omega, by omega⟩
    generalize hv a = x0 at *
    generalize hv b = x1 at *
    generalize hv c = x2 at *
    generalize hv d = x3 at *
    generalize hv e = x4 at *
    generalize hv f = x5 at *
    generalize hv g = x6 at *
    generalize hv i = x7 at *
    obtain ⟨y0, rfl⟩ := Int.eq_ofNat_of_zero_le v0
    obtain ⟨y1, rfl⟩ := Int.eq_ofNat_of_zero_le v1
    obtain ⟨y2, rfl⟩ := Int.eq_ofNat_of_zero_le v2
    obtain ⟨y3, rfl⟩ := Int.eq_ofNat_of_zero_le v3
    obtain ⟨y4, rfl⟩ := Int.eq_ofNat_of_zero_le v4
    obtain ⟨y5, rfl⟩ := Int.eq_ofNat_of_zero_le v5
    obtain ⟨y6, rfl⟩ := Int.eq_ofNat_of_zero_le v6
    obtain ⟨y7, rfl⟩ := Int.eq_ofNat_of_zero_le v7
    have e : (16 * (16 * (16 * (16 * (16 * (16 * (16 * (16 * (0 : Int) + y0) + y1) + y2) + y3) + y4) + y5) + y6) + y7).toNat = 16 * (16 * (16 * (16 * (16 * (16 * (16 * y0 + y1) + y2) + y3) + y4) + y5) + y6) + y7 := by omega
    rw [e]
    unfold hexL
    simp only [Int.toNat_natCast] at k0 k1 k2 k3 k4 k5 k6 k7
    generalize hN : 16 * (16 * (16 * (16 * (16 * (16 * (16 * y0 + y1) + y2) + y3) + y4) + y5) + y6) + y7 = N
    rw [show N / 268435456 % 16 = y0 by omega, show N / 16777216 % 16 = y1 by omega, show N / 1048576 % 16 = y2 by omega, show N / 65536 % 16 = y3 by omega, show N / 4096 % 16 = y4 by omega, show N / 256 % 16 = y5 by omega, show N / 16 % 16 = y6 by omega, show N % 16 = y7 by omega]
    rw [k0, k1, k2, k3, k4, k5, k6, k7]

/-- What is read is made again. -/
theorem hexS_from (l : List UInt8) (h : fromB l = true) : hexS (fromN l) = l := by
  have hp : l.length = 8 ∧ fromL l ≠ -1 := of_decide_eq_true h
  have h2 := hexL_from l hp.1 hp.2
  rw [(from_yes l hp.1 hp.2).2, hexS_yes _ h2.2.1 h2.2.2]
  exact h2.1

/-- What was made is read. -/
theorem from_hexS (n : Int) (h0 : 0 ≤ n) (h1 : n ≤ 4294967295) : fromB (hexS n) = true ∧ fromN (hexS n) = n ∧ (hexS n).length = 8 := by
  have e := from_hexL n.toNat (by omega)
  have hl : (hexL n.toNat).length = 8 := rfl
  rw [hexS_yes n h0 h1]
  have hne : fromL (hexL n.toNat) ≠ -1 := by rw [e]; omega
  have hy := from_yes _ hl hne
  exact ⟨hy.1, by rw [hy.2, e]; omega, hl⟩

end Go.Proofs.YtglhbcbilepomaaDoor

/-! Plain facts for chapter 2 (frames): what a frame is, and what is read of one. -/
namespace Go.Proofs.YtglhbcbilepomaaDoor

def framedL (l : List UInt8) : List UInt8 := hexL l.length ++ hexL (hashL l).toNat ++ l
def framedS (l : List UInt8) : List UInt8 := if l.length ≤ 20000 then framedL l else []
theorem framedS_yes (l : List UInt8) (h : l.length ≤ 20000) : framedS l = framedL l := if_pos h
theorem framedS_no (l : List UInt8) (h : 20000 < l.length) : framedS l = [] := if_neg (by omega)

/-- The first frame of a text: is there one? -/
def firstB (l : List UInt8) : Bool :=
  decide (16 ≤ l.length ∧ fromB (l.take 8) = true ∧ fromB ((l.drop 8).take 8) = true ∧ fromN (l.take 8) ≤ 20000 ∧ 16 + fromN (l.take 8) ≤ (l.length : Int) ∧
    hashL ((l.drop 16).take (fromN (l.take 8)).toNat) = fromN ((l.drop 8).take 8))
def firstT (l : List UInt8) : List UInt8 := if firstB l = true then (l.drop 16).take (fromN (l.take 8)).toNat else []
def firstN (l : List UInt8) : Int := if firstB l = true then 16 + fromN (l.take 8) else 0

theorem firstB_no (l : List UInt8) (h : ¬ (16 ≤ l.length ∧ fromB (l.take 8) = true ∧ fromB ((l.drop 8).take 8) = true ∧ fromN (l.take 8) ≤ 20000 ∧ 16 + fromN (l.take 8) ≤ (l.length : Int) ∧
    hashL ((l.drop 16).take (fromN (l.take 8)).toNat) = fromN ((l.drop 8).take 8))) : firstT l = [] ∧ firstN l = 0 ∧ firstB l = false := by
  have hb : firstB l = false := decide_eq_false h
  unfold firstT firstN
  rw [hb]; simp

theorem firstB_yes (l : List UInt8) (h : 16 ≤ l.length ∧ fromB (l.take 8) = true ∧ fromB ((l.drop 8).take 8) = true ∧ fromN (l.take 8) ≤ 20000 ∧ 16 + fromN (l.take 8) ≤ (l.length : Int) ∧
    hashL ((l.drop 16).take (fromN (l.take 8)).toNat) = fromN ((l.drop 8).take 8)) : firstT l = (l.drop 16).take (fromN (l.take 8)).toNat ∧ firstN l = 16 + fromN (l.take 8) ∧ firstB l = true := by
  have hb : firstB l = true := decide_eq_true h
  unfold firstT firstN
  rw [hb]; simp

theorem fromN_bd (l : List UInt8) : 0 ≤ fromN l ∧ fromN l ≤ 4294967295 := by
  unfold fromN
  split
  · rename_i h
    have := fromL_le l (by omega)
    omega
  · omega

def unframedB (l : List UInt8) : Bool := firstB l && decide (firstN l = (l.length : Int))
def unframedT (l : List UInt8) : List UInt8 := if unframedB l = true then firstT l else []

theorem unframed_no (l : List UInt8) (h : firstB l = false ∨ firstN l ≠ (l.length : Int)) : unframedT l = [] ∧ unframedB l = false := by
  have hb : unframedB l = false := by
    unfold unframedB
    rcases h with h | h
    · rw [h]; rfl
    · simp [h]
  unfold unframedT; rw [hb]; simp

theorem unframed_yes (l : List UInt8) (h : firstB l = true) (h1 : firstN l = (l.length : Int)) : unframedT l = firstT l ∧ unframedB l = true := by
  have hb : unframedB l = true := by unfold unframedB; rw [h]; simp [h1]
  unfold unframedT; rw [hb]; simp

/-! The walk's own spellings. -/
end Go.Proofs.YtglhbcbilepomaaDoor

/-! Plain facts for FnFrames: what is framed is read as its text; cut, or with one byte turned, it is no frame. -/
namespace Go.Proofs.YtglhbcbilepomaaDoor

theorem hexL_len (n : Nat) : (hexL n).length = 8 := rfl
theorem framedL_len (l : List UInt8) : (framedL l).length = 16 + l.length := by
  unfold framedL; rw [List.length_append, List.length_append, hexL_len, hexL_len]

theorem framed_8 (l : List UInt8) : (framedL l).take 8 = hexL l.length := by
  unfold framedL
  rw [List.append_assoc]
  exact List.take_left' (hexL_len _)
theorem framed_16 (l : List UInt8) : ((framedL l).drop 8).take 8 = hexL (hashL l).toNat := by
  unfold framedL
  rw [List.append_assoc, List.drop_left' (hexL_len _)]
  exact List.take_left' (hexL_len _)
theorem framed_rest (l : List UInt8) : (framedL l).drop 16 = l := by
  unfold framedL
  exact List.drop_left' (by rw [List.length_append, hexL_len, hexL_len])

theorem hexL_read (n : Nat) (h : n ≤ 4294967295) : fromB (hexL n) = true ∧ fromN (hexL n) = (n : Int) := by
  have e := from_hexL n h
  have hne : fromL (hexL n) ≠ -1 := by rw [e]; omega
  have hy := from_yes (hexL n) (hexL_len n) hne
  exact ⟨hy.1, by rw [hy.2, e]⟩

theorem hexL_inj (m n : Nat) (hm : m ≤ 4294967295) (hn : n ≤ 4294967295) (h : hexL m = hexL n) : m = n := by
  have e1 := from_hexL m hm
  have e2 := from_hexL n hn
  rw [h, e2] at e1
  omega

theorem hash_nat (l : List UInt8) : (hashL l).toNat ≤ 4294967295 ∧ ((hashL l).toNat : Int) = hashL l := by
  have := hashL_bd l
  omega

/-- A frame is read. -/
theorem first_framed (l : List UInt8) (hl : l.length ≤ 20000) (r : List UInt8) : firstB (framedL l ++ r) = true ∧ firstT (framedL l ++ r) = l ∧ firstN (framedL l ++ r) = 16 + (l.length : Int) := by
  have hlen := framedL_len l
  have t8 : (framedL l ++ r).take 8 = hexL l.length := by
    rw [List.take_append_of_le_length (by omega)]; exact framed_8 l
  have t16 : ((framedL l ++ r).drop 8).take 8 = hexL (hashL l).toNat := by
    rw [List.drop_append_of_le_length (by omega), List.take_append_of_le_length (by rw [List.length_drop]; omega)]; exact framed_16 l
  have tr : (framedL l ++ r).drop 16 = l ++ r := by
    rw [List.drop_append_of_le_length (by omega), framed_rest]
  have h1 := hexL_read l.length (by omega)
  have hn := hash_nat l
  have h2 := hexL_read (hashL l).toNat hn.1
  have hy := firstB_yes (framedL l ++ r) (by
    rw [t8, t16, tr, h1.1, h1.2, h2.1, h2.2, List.length_append, hlen]
    refine ⟨by omega, rfl, rfl, by omega, by omega, ?_⟩
    rw [Int.toNat_natCast, List.take_left' rfl, hn.2])
  refine ⟨hy.2.2, ?_, ?_⟩
  · rw [hy.1, t8, tr, h1.2, Int.toNat_natCast, List.take_left' rfl]
  · rw [hy.2.1, t8, h1.2]

/-- What is read is a frame of its text. -/
theorem first_is (t : List UInt8) (h : firstB t = true) : (firstT t).length ≤ 20000 ∧ firstN t = 16 + ((firstT t).length : Int) ∧ t = framedL (firstT t) ++ t.drop (16 + (firstT t).length) := by
  have hp := of_decide_eq_true h
  have hy := firstB_yes t hp
  obtain ⟨h16, b1, b2, hn, hle, hh⟩ := hp
  have nb := fromN_bd (t.take 8)
  have e1 := hexS_from _ b1
  have e2 := hexS_from _ b2
  rw [hexS_yes _ nb.1 nb.2] at e1
  have hb := fromN_bd ((t.drop 8).take 8)
  rw [hexS_yes _ hb.1 hb.2] at e2
  obtain ⟨k, hk⟩ := Int.eq_ofNat_of_zero_le nb.1
  rw [hk] at e1 hn hle hh
  have hyT := hy.1
  have hyN := hy.2.1
  rw [hk] at hyT hyN
  rw [Int.toNat_natCast] at hyT e1 hh
  have hlen : (firstT t).length = k := by rw [hyT, List.length_take, List.length_drop]; omega
  refine ⟨by omega, by rw [hyN, hlen], ?_⟩
  have e3 : t = t.take 8 ++ ((t.drop 8).take 8 ++ ((t.drop 16).take k ++ t.drop (16 + k))) := by
    have d16 : t.drop 16 = (t.drop 8).drop 8 := by rw [List.drop_drop]
    have dk : t.drop (16 + k) = (t.drop 16).drop k := by rw [List.drop_drop]
    rw [dk, List.take_append_drop, d16, List.take_append_drop, List.take_append_drop]
  have hh2 : (hashL (firstT t)).toNat = (fromN ((t.drop 8).take 8)).toNat := by rw [hyT, hh]
  unfold framedL
  rw [hlen, hh2, e1, e2, hyT, List.append_assoc, List.append_assoc]
  exact e3

theorem unframed_framed (l : List UInt8) (hl : l.length ≤ 20000) : unframedB (framedL l) = true ∧ unframedT (framedL l) = l := by
  have h := first_framed l hl []
  rw [List.append_nil] at h
  have hy := unframed_yes (framedL l) h.1 (by rw [h.2.2, framedL_len]; omega)
  exact ⟨hy.2, by rw [hy.1, h.2.1]⟩

theorem unframed_is (t : List UInt8) (h : unframedB t = true) : (unframedT t).length ≤ 20000 ∧ framedL (unframedT t) = t := by
  have hb : firstB t = true := by unfold unframedB at h; simp at h; exact h.1
  have hn : firstN t = (t.length : Int) := by unfold unframedB at h; simp at h; exact h.2
  have hy := unframed_yes t hb hn
  have hf := first_is t hb
  have hz : t.drop (16 + (firstT t).length) = [] := by
    apply List.drop_eq_nil_of_le
    have := hf.2.1
    omega
  rw [hz, List.append_nil] at hf
  rw [hy.1]
  exact ⟨hf.1, hf.2.2.symm⟩

theorem unframed_back (t : List UInt8) (h : unframedB t = true) : framedS (unframedT t) = t := by
  have hu := unframed_is t h
  rw [framedS_yes _ hu.1]
  exact hu.2

/-- Cut, it is none. -/
theorem unframed_cut (l : List UInt8) (hl : l.length ≤ 20000) (k : Nat) (hk : k < 16 + l.length) : unframedB ((framedL l).take k) = false := by
  rcases hb : unframedB ((framedL l).take k) with _ | _
  · rfl
  · have hu := unframed_is _ hb
    have hlen := framedL_len l
    have e1 : ((framedL l).take k).length = k := by rw [List.length_take]; omega
    have e2 := framedL_len (unframedT ((framedL l).take k))
    rw [hu.2, e1] at e2
    have e3 : ((framedL l).take k).take 8 = hexL l.length := by
      rw [List.take_take, Nat.min_eq_left (by omega)]; exact framed_8 l
    have e4 := framed_8 (unframedT ((framedL l).take k))
    rw [hu.2, e3] at e4
    have := hexL_inj _ _ (by omega) (by omega) e4
    omega

/-- With one byte turned, it is none. -/
theorem unframed_set (l : List UInt8) (k : Nat) (c : UInt8) (h : unframedB ((framedL l).set k c) = true) : (framedL l).set k c = framedL l := by
  have hu := unframed_is _ h
  have hlen := framedL_len l
  have e2 := framedL_len (unframedT ((framedL l).set k c))
  rw [hu.2, List.length_set, hlen] at e2
  by_cases hk : k < 16
  · have e3 := framed_rest (unframedT ((framedL l).set k c))
    rw [hu.2, List.drop_set_of_lt hk, framed_rest] at e3
    rw [← hu.2, ← e3]
  · have e3 := framed_rest (unframedT ((framedL l).set k c))
    have e4 := framed_16 (unframedT ((framedL l).set k c))
    rw [hu.2] at e3 e4
    have e5 : (((framedL l).set k c).drop 8).take 8 = hexL (hashL l).toNat := by
      rw [List.drop_set, if_neg (by omega), List.take_set_of_le (by omega)]
      exact framed_16 l
    rw [e5] at e4
    have e6 : ((framedL l).set k c).drop 16 = l.set (k - 16) c := by
      rw [List.drop_set, if_neg (by omega), framed_rest]
    rw [e6] at e3
    rw [← e3] at e4
    have h1 := hash_nat l
    have h2 := hash_nat (l.set (k - 16) c)
    have e7 := hexL_inj _ _ h1.1 h2.1 e4
    have e8 : hashL (l.set (k - 16) c) = hashL l := by rw [← h2.2, ← h1.2, e7]
    have e9 := hash_set l (k - 16) c e8
    rw [← hu.2, ← e3, e9]

theorem unframed_turned (l : List UInt8) (hl : l.length ≤ 20000) (p q : Int) : unframedB (turnedL (framedL l) p q) = (turnedL (framedL l) p q == framedL l) := by
  rw [Bool.eq_iff_iff, beq_iff_eq]
  constructor
  · intro h
    unfold turnedL at h ⊢
    split at h
    · rename_i hc; rw [if_pos hc]; exact unframed_set l _ _ h
    · rename_i hc; rw [if_neg hc]
  · intro h; rw [h]; exact (unframed_framed l hl).1

end Go.Proofs.YtglhbcbilepomaaDoor
