/-
  Parts of one proof, one behind the other: Math8, Math8R, MathF, MathH, MathX, Math2, Math2F.
-/
import Derived.Test.YtaioedcaopbgkaaP3
import Derived.Test.YtaioedcaopbgkaaP1
import Derived.Lib.Bytealg

/-! Plain facts of chapter 8: texts in order, lists of names, projects. -/
namespace Go.Proofs.Ytaioedcaopbgkaa
open Go.RowKit

theorem lt8_irr : ∀ x : List UInt8, Op.bytesLess x x = false
 | [] => rfl
 | a :: r => by simp [Op.bytesLess, lt8_irr r]
theorem lt8_trans : ∀ {x y z : List UInt8}, Op.bytesLess x y = true → Op.bytesLess y z = true → Op.bytesLess x z = true
 | x, y, [], _, h => by cases y <;> simp [Op.bytesLess] at h
 | [], y, c :: z, _, _ => rfl
 | a :: x, [], c :: z, h, _ => by simp [Op.bytesLess] at h
 | a :: x, b :: y, c :: z, h, k => by
  simp only [Op.bytesLess, Bool.or_eq_true, decide_eq_true_eq, Bool.and_eq_true, beq_iff_eq] at h k ⊢
  rcases h with h | ⟨rfl, h⟩
  ·
   rcases k with k | ⟨rfl, k⟩
   ·
    exact Or.inl (UInt8.lt_trans h k)
   ·
    exact Or.inl h
  ·
   rcases k with k | ⟨rfl, k⟩
   ·
    exact Or.inl k
   ·
    exact Or.inr ⟨rfl, lt8_trans h k⟩
theorem lt8_tri : ∀ {x y : List UInt8}, Op.bytesLess x y = false → Op.bytesLess y x = false → x = y
 | [], [], _, _ => rfl
 | [], b :: y, h, _ => by simp [Op.bytesLess] at h
 | a :: x, [], _, k => by simp [Op.bytesLess] at k
 | a :: x, b :: y, h, k => by
  simp only [Op.bytesLess, Bool.or_eq_false_iff, decide_eq_false_iff_not, Bool.and_eq_false_iff, beq_eq_false_iff_ne] at h k
  have hab : a = b := by
   have h1 := h.1
   have h2 := k.1
   rw [UInt8.lt_iff_toNat_lt] at h1 h2
   exact UInt8.toNat_inj.1 (by omega)
  subst hab
  rw [lt8_tri (h.2.resolve_left (by simp)) (k.2.resolve_left (by simp))]
/-- One is behind another. -/
theorem leT_no {a b : List UInt8} : leT b a = false ↔ Op.bytesLess a b = true := by
 unfold leT
 rw [Bool.or_eq_false_iff, beq_eq_false_iff_ne]
 constructor
 ·
  rintro ⟨h, hne⟩
  rcases hx : Op.bytesLess a b with _ | _
  ·
   exact absurd (lt8_tri h hx) hne
  ·
   rfl
 ·
  intro h
  refine ⟨?_, fun e => ?_⟩
  ·
   rcases hx : Op.bytesLess b a with _ | _
   ·
    rfl
   ·
    have := lt8_trans h hx; rw [lt8_irr] at this; cases this
  ·
   subst e; rw [lt8_irr] at h; cases h

/-- A list that rises. -/
def Rise (ts : List (List UInt8)) : Prop := ts.Pairwise (fun a b => Op.bytesLess a b = true)
theorem Rise.nodup {ts : List (List UInt8)} (h : Rise ts) : ts.Nodup := h.imp (fun {a b} hab e => by subst e; rw [lt8_irr] at hab; cases hab)
theorem rise_at {ts : List (List UInt8)} (h : ∀ i, i + 1 < ts.length → Op.bytesLess (ts.getD i []) (ts.getD (i + 1) []) = true) : Rise ts := by
 have hd : ∀ d i, i + d + 1 < ts.length → Op.bytesLess (ts.getD i []) (ts.getD (i + d + 1) []) = true := by
  intro d
  induction d with
  | zero => intro i hi; exact h i hi
  | succ d ih => intro i hi; exact lt8_trans (ih i (by omega)) (h (i + d + 1) (by omega))
 refine List.pairwise_iff_getElem.2 (fun i j hi hj hij => ?_)
 have hh := hd (j - i - 1) i (by omega)
 rw [show i + (j - i - 1) + 1 = j by omega] at hh
 simpa [List.getD, hi, hj] using hh
theorem rise_of {ts : List (List UInt8)} (h : riseB ts = true) : Rise ts := by
 unfold riseB at h
 exact rise_at (fun i hi => leT_no.1 ((of_decide_eq_true h) i (by omega)))
/-- A project: packages whose names rise. -/
def names8 (ps : List Pk) : List (List UInt8) := ps.map (·.1)
def pj8 (ps : List Pk) (i : Nat) : Prop := pkgB (ps.getD i pk0) = true ∧ (0 < i → leT (ps.getD i pk0).1 (ps.getD (i - 1) pk0).1 = false)
instance (ps : List Pk) (i : Nat) : Decidable (pj8 ps i) := by unfold pj8; infer_instance
def projB (ps : List Pk) : Bool := decide (∀ i, i < ps.length → pj8 ps i) && inB (ps.length : Int) 1 8
theorem projB_no {ps : List Pk} {i : Nat} (hi : i < ps.length) (h : ¬ pj8 ps i) : projB ps = false := by unfold projB; rw [decide_eq_false (fun g => h (g i hi))]; rfl
theorem projB_all {ps : List Pk} (h : ∀ i, i < ps.length → pj8 ps i) : projB ps = inB (ps.length : Int) 1 8 := by unfold projB; rw [decide_eq_true h]; rfl
theorem projB_parts {ps : List Pk} (h : projB ps = true) : Rise (names8 ps) ∧ (1 ≤ ps.length ∧ ps.length ≤ 8) ∧ ∀ p ∈ ps, pkgB p = true := by
 unfold projB at h
 rw [Bool.and_eq_true, decide_eq_true_eq] at h
 have hn : 1 ≤ (ps.length : Int) ∧ (ps.length : Int) ≤ 8 := by have := h.2; unfold inB at this; exact of_decide_eq_true this
 refine ⟨rise_at (fun i hi => ?_), by omega, fun p hp => ?_⟩
 ·
  have hi2 : i + 1 < ps.length := by simpa [names8] using hi
  have h1 := (h.1 (i + 1) hi2).2 (by omega)
  have e : ∀ j, (names8 ps).getD j [] = (ps.getD j pk0).1 := fun j => by
   unfold names8
   rw [List.getD_eq_getElem?_getD, List.getD_eq_getElem?_getD, List.getElem?_map]
   cases ps[j]? <;> rfl
  rw [e, e]
  exact leT_no.1 h1
 ·
  obtain ⟨i, hi, rfl⟩ := List.mem_iff_getElem.1 hp
  have h1 := (h.1 i hi).1
  simpa [List.getD, hi] using h1

/-- Where one of a name is. -/
def at8Go (s : List UInt8) : List Pk → Nat → Int
 | [], _ => -1
 | p :: r, k => if p.1 = s then (k : Int) else at8Go s r (k + 1)
def at8 (ps : List Pk) (s : List UInt8) : Int := at8Go s ps 0
theorem at8Go_drop {ps : List Pk} {k : Nat} (hk : k < ps.length) (s : List UInt8) : at8Go s (ps.drop k) k = if (ps.getD k pk0).1 = s then (k : Int) else at8Go s (ps.drop (k + 1)) (k + 1) := by
 rw [List.drop_eq_getElem_cons hk, at8Go]
 have : ps.getD k pk0 = ps[k] := by rw [List.getD_eq_getElem?_getD, List.getElem?_eq_getElem hk]; rfl
 rw [this]
theorem at8Go_mem (s : List UInt8) : ∀ (ps : List Pk) (k : Nat), (s ∈ names8 ps ∧ 0 ≤ at8Go s ps k ∧ (k : Int) ≤ at8Go s ps k ∧ at8Go s ps k < k + ps.length) ∨ (¬ s ∈ names8 ps ∧ at8Go s ps k = -1)
 | [], k => Or.inr ⟨by simp [names8], rfl⟩
 | p :: r, k => by
  rw [at8Go]
  by_cases h : p.1 = s
  ·
   rw [if_pos h]; exact Or.inl ⟨by simp [names8, h], by omega, by omega, by simp; omega⟩
  ·
   rw [if_neg h]
   rcases at8Go_mem s r (k + 1) with ⟨h1, h2, h3, h4⟩ | ⟨h1, h2⟩
   ·
    exact Or.inl ⟨by simp only [names8, List.map_cons, List.mem_cons]; exact Or.inr h1, h2, by omega, by simp; omega⟩
   ·
    exact Or.inr ⟨by simp only [names8, List.map_cons, List.mem_cons]; rintro (e | e); exact h e.symm; exact h1 e, h2⟩
theorem at8_mem (ps : List Pk) (s : List UInt8) : 0 ≤ at8 ps s ↔ s ∈ names8 ps := by
 rcases at8Go_mem s ps 0 with ⟨h1, h2, _⟩ | ⟨h1, h2⟩
 ·
  exact ⟨fun _ => h1, fun _ => h2⟩
 ·
  unfold at8; exact ⟨fun h => by omega, fun h => absurd h h1⟩
/-! Order. -/
def free8 (ps : List Pk) (out : List (List UInt8)) (p : Pk) : Prop := ¬ p.1 ∈ out ∧ ∀ m ∈ p.2.1, m ∈ names8 ps → m ∈ out
instance (ps : List Pk) (out : List (List UInt8)) (p : Pk) : Decidable (free8 ps out p) := by unfold free8; infer_instance
def next8 (ps : List Pk) (out : List (List UInt8)) : Option Pk := ps.find? (fun p => decide (free8 ps out p))
def orderGo (ps : List Pk) : Nat → List (List UInt8) → List (List UInt8)
 | 0, out => out
 | n + 1, out => match next8 ps out with
  | none => out
  | some p => orderGo ps n (out ++ [p.1])
def order8 (ps : List Pk) : List (List UInt8) := orderGo ps (ps.length + 1) []
theorem next8_none {ps : List Pk} {out : List (List UInt8)} (h : next8 ps out = none) : ∀ p ∈ ps, ¬ free8 ps out p := fun p hp hf => by
 unfold next8 at h
 rw [List.find?_eq_none] at h
 exact h p hp (decide_eq_true hf)
theorem next8_some {ps : List Pk} {out : List (List UInt8)} {p : Pk} (h : next8 ps out = some p) : p ∈ ps ∧ free8 ps out p :=
 ⟨List.mem_of_find?_eq_some h, of_decide_eq_true (List.find?_some (p := fun p => decide (free8 ps out p)) h)⟩
/-- What Order has so far: names that are there, none twice, each behind what it needs. -/
structure Or8 (ps : List Pk) (out : List (List UInt8)) : Prop where
 nd : out.Nodup
 sub : ∀ x ∈ out, x ∈ names8 ps
 need : ∀ p ∈ ps, p.1 ∈ out → ∀ m ∈ p.2.1, m ∈ names8 ps → m ∈ out.takeWhile (fun x => decide (x ≠ p.1))
theorem or8_nil (ps : List Pk) : Or8 ps [] := ⟨List.nodup_nil, fun x hx => by simp at hx, fun p _ h => by simp at h⟩
theorem Or8.len {ps : List Pk} {out : List (List UInt8)} (h : Or8 ps out) : out.length ≤ ps.length := by
 have := h.nd.length_le_of_subset (fun x hx => h.sub x hx)
 simpa [names8] using this
theorem takeW_app {out : List (List UInt8)} {x n : List UInt8} (h : x ∈ out) : (out ++ [n]).takeWhile (fun y => decide (y ≠ x)) = out.takeWhile (fun y => decide (y ≠ x)) := by
 induction out with
 | nil => simp at h
 | cons a r ih =>
  by_cases e : a = x
  ·
   subst e; simp [List.takeWhile]
  ·
   have h2 : x ∈ r := by
    rcases List.mem_cons.1 h with h | h
    ·
     exact absurd h.symm e
    ·
     exact h
   simp only [List.cons_append, List.takeWhile_cons]
   rw [if_pos (by simpa using e), if_pos (by simpa using e), ih h2]
theorem takeW_no {out : List (List UInt8)} {x : List UInt8} (h : ¬ x ∈ out) : out.takeWhile (fun y => decide (y ≠ x)) = out := by
 induction out with
 | nil => rfl
 | cons a r ih =>
  simp only [List.mem_cons, not_or] at h
  rw [List.takeWhile_cons, if_pos (by simpa using fun e => h.1 e.symm), ih h.2]
theorem Or8.step {ps : List Pk} (hn : (names8 ps).Nodup) {out : List (List UInt8)} (h : Or8 ps out) {p : Pk} (hp : next8 ps out = some p) : Or8 ps (out ++ [p.1]) := by
 obtain ⟨hm, hf⟩ := next8_some hp
 refine ⟨List.nodup_append.2 ⟨h.nd, by simp, fun a ha b hb => by rw [List.mem_singleton] at hb; subst hb; intro e; subst e; exact hf.1 ha⟩, fun x hx => ?_, fun q hq hqo m hmq hmn => ?_⟩
 ·
  rw [List.mem_append, List.mem_singleton] at hx
  rcases hx with hx | rfl
  ·
   exact h.sub x hx
  ·
   exact List.mem_map.2 ⟨p, hm, rfl⟩
 ·
  by_cases hqi : q.1 ∈ out
  ·
   rw [takeW_app hqi]; exact h.need q hq hqi m hmq hmn
  ·
   rw [List.mem_append, List.mem_singleton] at hqo
   have e : q.1 = p.1 := hqo.resolve_left hqi
   have hqp : q = p := by
    obtain ⟨i, hi, rfl⟩ := List.mem_iff_getElem.1 hq
    obtain ⟨j, hj, rfl⟩ := List.mem_iff_getElem.1 hm
    have hij : i = j := by
     have h1 : (names8 ps)[i]'(by simpa [names8] using hi) = (names8 ps)[j]'(by simpa [names8] using hj) := by simpa [names8] using e
     exact (List.getElem_inj hn).1 h1
    subst hij; rfl
   subst hqp
   have e2 : (out ++ [q.1]).takeWhile (fun y => decide (y ≠ q.1)) = out := by
    have := takeW_no hqi
    rw [List.takeWhile_append, this]
    simp
   rw [e2]
   exact hf.2 m hmq hmn
theorem orderGo_end {ps : List Pk} (hn : (names8 ps).Nodup) : ∀ (n : Nat) (out : List (List UInt8)), Or8 ps out → ps.length < n + out.length → Or8 ps (orderGo ps n out) ∧ next8 ps (orderGo ps n out) = none
 | 0, out, h, hl => by have := h.len; omega
 | n + 1, out, h, hl => by
  rw [orderGo]
  rcases hx : next8 ps out with _ | p
  ·
   exact ⟨h, hx⟩
  ·
   exact orderGo_end hn n (out ++ [p.1]) (h.step hn hx) (by rw [List.length_append, List.length_singleton]; omega)
theorem order8_end {ps : List Pk} (h : projB ps = true) : Or8 ps (order8 ps) ∧ next8 ps (order8 ps) = none :=
 orderGo_end (projB_parts h).1.nodup _ _ (or8_nil ps) (by simp)
theorem orderGo_none {ps : List Pk} {out : List (List UInt8)} (n : Nat) (h : next8 ps out = none) : orderGo ps n out = out := by
 cases n with
 | zero => rfl
 | succ n => rw [orderGo, h]
theorem orderGo_some {ps : List Pk} {out : List (List UInt8)} {p : Pk} (n : Nat) (h : next8 ps out = some p) : orderGo ps (n + 1) out = orderGo ps n (out ++ [p.1]) := by rw [orderGo, h]

end Go.Proofs.Ytaioedcaopbgkaa

/-! Plain facts of chapter 8: a text is put into a list that rises; what is reached. -/
namespace Go.Proofs.Ytaioedcaopbgkaa
open Go.RowKit

/-- How many come ahead of a text. -/
def low8 (s : List UInt8) : List (List UInt8) → Nat
 | [] => 0
 | x :: r => if Op.bytesLess x s = true then low8 s r + 1 else 0
/-- As far as a walk has come. -/
theorem low8_at (s : List UInt8) : ∀ (ts : List (List UInt8)) (k : Nat), (∀ i, i < k → Op.bytesLess (ts.getD i []) s = true) → k ≤ ts.length → (k = ts.length ∨ Op.bytesLess (ts.getD k []) s = false) → low8 s ts = k
 | [], k, _, h, _ => by simp at h; subst h; rfl
 | x :: r, 0, _, _, h => by
  rcases h with h | h
  ·
   simp at h
  ·
   unfold low8; rw [if_neg (by simpa using h)]
 | x :: r, k + 1, h1, h2, h3 => by
  have h0 := h1 0 (by omega)
  unfold low8
  rw [if_pos (by simpa using h0)]
  rw [low8_at s r k (fun i hi => by simpa using h1 (i + 1) (by omega)) (by simpa using h2) (by rcases h3 with h | h; exact Or.inl (by simpa using h); exact Or.inr (by simpa using h))]
def put8 (ts : List (List UInt8)) (s : List UInt8) : List (List UInt8) := if ts[low8 s ts]? = some s then ts else ts.take (low8 s ts) ++ s :: ts.drop (low8 s ts)
theorem put8_mem {ts : List (List UInt8)} {s x : List UInt8} : x ∈ put8 ts s ↔ x = s ∨ x ∈ ts := by
 unfold put8
 split
 ·
  rename_i h
  exact ⟨Or.inr, fun g => g.elim (fun e => by rw [e]; exact List.mem_of_getElem? h) id⟩
 ·
  have e := List.take_append_drop (low8 s ts) ts
  rw [List.mem_append, List.mem_cons]
  constructor
  ·
   rintro (h | h | h)
   ·
    exact Or.inr (List.mem_of_mem_take h)
   ·
    exact Or.inl h
   ·
    exact Or.inr (List.mem_of_mem_drop h)
  ·
   rintro (h | h)
   ·
    exact Or.inr (Or.inl h)
   ·
    rw [← e, List.mem_append] at h
    rcases h with h | h
    ·
     exact Or.inl h
    ·
     exact Or.inr (Or.inr h)
theorem put8_rise {s : List UInt8} : ∀ {ts : List (List UInt8)}, Rise ts → Rise (put8 ts s)
 | [], _ => by simp [put8, low8, Rise]
 | x :: r, h => by
  have hx := List.pairwise_cons.1 h
  by_cases hl : Op.bytesLess x s = true
  ·
   have ih := put8_rise (s := s) (ts := r) hx.2
   have e : put8 (x :: r) s = x :: put8 r s := by
    unfold put8
    rw [show low8 s (x :: r) = low8 s r + 1 by rw [low8, if_pos hl]]
    rw [List.getElem?_cons_succ]
    split
    ·
     rfl
    ·
     rfl
   rw [e]
   refine List.pairwise_cons.2 ⟨fun y hy => ?_, ih⟩
   rcases put8_mem.1 hy with rfl | hy
   ·
    exact hl
   ·
    exact hx.1 y hy
  ·
   have hl0 : low8 s (x :: r) = 0 := by rw [low8, if_neg hl]
   unfold put8
   rw [hl0]
   simp only [List.getElem?_cons_zero, Option.some.injEq, List.take_zero, List.drop_zero, List.nil_append]
   split
   ·
    exact h
   ·
    rename_i hne
    have hsx : Op.bytesLess s x = true := by
     rcases hb : Op.bytesLess s x with _ | _
     ·
      exact absurd (lt8_tri (by simpa using hl) hb) hne
     ·
      rfl
    refine List.pairwise_cons.2 ⟨fun y hy => ?_, h⟩
    rcases List.mem_cons.1 hy with rfl | hy
    ·
     exact hsx
    ·
     exact lt8_trans hsx (hx.1 y hy)
/-! What is reached. -/
def in8 (ps : List Pk) (o : List (List UInt8)) (m : List UInt8) : List (List UInt8) := if m ∈ names8 ps then put8 o m else o
def inner8 (ps : List Pk) (o ms : List (List UInt8)) : List (List UInt8) := ms.foldl (in8 ps) o
def pass8 (ps : List Pk) (o : List (List UInt8)) (p : Pk) : List (List UInt8) := if p.1 ∈ o then inner8 ps o p.2.1 else o
def step8 (ps qs : List Pk) (o : List (List UInt8)) : List (List UInt8) := qs.foldl (pass8 ps) o
def reachGo (ps : List Pk) : Nat → List (List UInt8) → List (List UInt8)
 | 0, o => o
 | n + 1, o => if (step8 ps ps o).length = o.length then step8 ps ps o else reachGo ps n (step8 ps ps o)
def reach8 (ps : List Pk) (s : List UInt8) : List (List UInt8) := reachGo ps (ps.length + 1) [s]

/-- What is held of what is reached so far. -/
structure Re8 (ps : List Pk) (s : List UInt8) (o : List (List UInt8)) : Prop where
 rise : Rise o
 sub : ∀ x ∈ o, x ∈ names8 ps
 self : s ∈ o
 why : ∀ x ∈ o, x = s ∨ ∃ p ∈ ps, p.1 ∈ o ∧ x ∈ p.2.1
theorem Re8.len {ps : List Pk} {s : List UInt8} {o : List (List UInt8)} (h : Re8 ps s o) : o.length ≤ ps.length := by
 have := h.rise.nodup.length_le_of_subset (fun x hx => h.sub x hx)
 simpa [names8] using this
theorem Re8.put {ps : List Pk} {s : List UInt8} {o : List (List UInt8)} (h : Re8 ps s o) {p : Pk} (hp : p ∈ ps) (hpo : p.1 ∈ o) {m : List UInt8} (hm : m ∈ p.2.1) : Re8 ps s (in8 ps o m) := by
 unfold in8
 split
 ·
  rename_i hn
  refine ⟨put8_rise h.rise, fun x hx => ?_, put8_mem.2 (Or.inr h.self), fun x hx => ?_⟩
  ·
   rcases put8_mem.1 hx with rfl | hx
   ·
    exact hn
   ·
    exact h.sub x hx
  ·
   rcases put8_mem.1 hx with rfl | hx
   ·
    exact Or.inr ⟨p, hp, put8_mem.2 (Or.inr hpo), hm⟩
   ·
    rcases h.why x hx with e | ⟨q, hq, hqo, hxq⟩
    ·
     exact Or.inl e
    ·
     exact Or.inr ⟨q, hq, put8_mem.2 (Or.inr hqo), hxq⟩
 ·
  exact h
theorem in8_sub {ps : List Pk} {o : List (List UInt8)} {m x : List UInt8} (h : x ∈ o) : x ∈ in8 ps o m := by
 unfold in8
 split
 ·
  exact put8_mem.2 (Or.inr h)
 ·
  exact h
theorem inner8_sub {ps : List Pk} {x : List UInt8} : ∀ (ms o : List (List UInt8)), x ∈ o → x ∈ inner8 ps o ms
 | [], _, h => h
 | m :: r, o, h => inner8_sub r (in8 ps o m) (in8_sub h)
theorem inner8_has {ps : List Pk} {x : List UInt8} (hx : x ∈ names8 ps) : ∀ (ms o : List (List UInt8)), x ∈ ms → x ∈ inner8 ps o ms
 | m :: r, o, h => by
  rcases List.mem_cons.1 h with rfl | h
  ·
   refine inner8_sub r (in8 ps o x) ?_
   unfold in8; rw [if_pos hx]; exact put8_mem.2 (Or.inl rfl)
  ·
   exact inner8_has hx r (in8 ps o m) h
theorem Re8.inner {ps : List Pk} {s : List UInt8} {p : Pk} (hp : p ∈ ps) : ∀ (ms o : List (List UInt8)), Re8 ps s o → p.1 ∈ o → (∀ m ∈ ms, m ∈ p.2.1) → Re8 ps s (inner8 ps o ms)
 | [], _, h, _, _ => h
 | m :: r, o, h, hpo, hm => Re8.inner hp r (in8 ps o m) (h.put hp hpo (hm m List.mem_cons_self)) (in8_sub hpo) (fun x hx => hm x (List.mem_cons_of_mem _ hx))
theorem Re8.pass {ps : List Pk} {s : List UInt8} {o : List (List UInt8)} (h : Re8 ps s o) {p : Pk} (hp : p ∈ ps) : Re8 ps s (pass8 ps o p) := by
 unfold pass8
 split
 ·
  rename_i hpo
  exact Re8.inner hp _ _ h hpo (fun m hm => hm)
 ·
  exact h
theorem pass8_sub {ps : List Pk} {o : List (List UInt8)} {p : Pk} {x : List UInt8} (h : x ∈ o) : x ∈ pass8 ps o p := by
 unfold pass8
 split
 ·
  exact inner8_sub _ _ h
 ·
  exact h
theorem step8_sub {ps : List Pk} {x : List UInt8} : ∀ (qs : List Pk) (o : List (List UInt8)), x ∈ o → x ∈ step8 ps qs o
 | [], _, h => h
 | p :: r, o, h => step8_sub r (pass8 ps o p) (pass8_sub h)
theorem Re8.step {ps : List Pk} {s : List UInt8} : ∀ (qs : List Pk) (o : List (List UInt8)), (∀ q ∈ qs, q ∈ ps) → Re8 ps s o → Re8 ps s (step8 ps qs o)
 | [], _, _, h => h
 | p :: r, o, hq, h => Re8.step r (pass8 ps o p) (fun q hqr => hq q (List.mem_cons_of_mem _ hqr)) (h.pass (hq p List.mem_cons_self))
theorem step8_has {ps : List Pk} {x : List UInt8} (hx : x ∈ names8 ps) {p : Pk} (hxp : x ∈ p.2.1) : ∀ (qs : List Pk) (o : List (List UInt8)), p ∈ qs → p.1 ∈ o → x ∈ step8 ps qs o
 | q :: r, o, hp, hpo => by
  rcases List.mem_cons.1 hp with rfl | hp
  ·
   refine step8_sub r (pass8 ps o p) ?_
   unfold pass8; rw [if_pos hpo]; exact inner8_has hx _ _ hxp
  ·
   exact step8_has hx hxp r (pass8 ps o q) hp (pass8_sub hpo)
/-- Two lists of no two alike, one in the other, of one length, hold the same. -/
theorem same_mem {α : Type} [DecidableEq α] {a b : List α} (ha : a.Nodup) (hs : ∀ x ∈ a, x ∈ b) (hl : b.length = a.length) : ∀ x ∈ b, x ∈ a := fun x hx => by
 by_cases h : x ∈ a
 ·
  exact h
 ·
  have h1 : (x :: a).Nodup := List.nodup_cons.2 ⟨h, ha⟩
  have := h1.length_le_of_subset (fun y hy => by
   rcases List.mem_cons.1 hy with rfl | hy
   ·
    exact hx
   ·
    exact hs y hy)
  simp at this
  omega
/-- Closed: what is reached has what it imports. -/
def Shut8 (ps : List Pk) (o : List (List UInt8)) : Prop := ∀ p ∈ ps, p.1 ∈ o → ∀ m ∈ p.2.1, m ∈ names8 ps → m ∈ o
theorem shut8_of {ps : List Pk} {s : List UInt8} {o : List (List UInt8)} (h : Re8 ps s o) (hl : (step8 ps ps o).length = o.length) : Shut8 ps (step8 ps ps o) := fun p hp hpo m hm hn => by
 have hb := same_mem h.rise.nodup (fun x hx => step8_sub ps o hx) hl
 exact step8_has hn hm ps o hp (hb _ hpo)
theorem reachGo_end {ps : List Pk} {s : List UInt8} : ∀ (n : Nat) (o : List (List UInt8)), Re8 ps s o → ps.length < n + o.length → Re8 ps s (reachGo ps n o) ∧ Shut8 ps (reachGo ps n o)
 | 0, o, h, hl => by have := h.len; omega
 | n + 1, o, h, hl => by
  rw [reachGo]
  have h2 := Re8.step ps o (fun q hq => hq) h
  split
  ·
   rename_i e; exact ⟨h2, shut8_of h e⟩
  ·
   rename_i e
   have hle := h.rise.nodup.length_le_of_subset (fun x hx => step8_sub (ps := ps) ps o hx)
   exact reachGo_end n _ h2 (by omega)
theorem re8_one {ps : List Pk} {s : List UInt8} (h : s ∈ names8 ps) : Re8 ps s [s] :=
 ⟨List.pairwise_singleton _ _, fun x hx => by rw [List.mem_singleton] at hx; rw [hx]; exact h, List.mem_singleton.2 rfl, fun x hx => Or.inl (List.mem_singleton.1 hx)⟩
theorem reach8_end {ps : List Pk} {s : List UInt8} (h : s ∈ names8 ps) : Re8 ps s (reach8 ps s) ∧ Shut8 ps (reach8 ps s) := reachGo_end _ _ (re8_one h) (by simp only [List.length_singleton]; omega)

/-- What the functions of chapter 8 answer. -/
def orderV (ps : List Pk) : List (List UInt8) := if projB ps = true then order8 ps else []
def hereB (ps : List Pk) (s : List UInt8) : Bool := projB ps && decide (0 ≤ at8 ps s)
def reachV (ps : List Pk) (s : List UInt8) : List (List UInt8) := if hereB ps s = true then reach8 ps s else []
def need8 (ps : List Pk) (s : List UInt8) : List (List UInt8) := (order8 ps).filter (fun x => decide (x ≠ s ∧ x ∈ reach8 ps s))
def needV (ps : List Pk) (s : List UInt8) : List (List UInt8) := if hereB ps s = true then need8 ps s else []

end Go.Proofs.Ytaioedcaopbgkaa

/-! Plain facts for FromHex: what a sign is worth, and what eight signs are. -/
namespace Go.Proofs.Ytaioedcaopbgkaa

/-- What a sign is worth as a digit; -1: it is none. -/
def hvN (n : Nat) : Int := if 48 ≤ n ∧ n ≤ 57 then (n : Int) - 48 else if 97 ≤ n ∧ n ≤ 102 then (n : Int) - 87 else -1
def hv (c : UInt8) : Int := hvN c.toNat

theorem hv_bd (c : UInt8) : -1 ≤ hv c ∧ hv c ≤ 15 := by
 unfold hv hvN; split <;> (try split) <;> omega

def hexStep (n : Int) (c : UInt8) : Int := if n = -1 ∨ hv c < 0 then -1 else 16 * n + hv c

theorem hexStep_dig (n : Int) (c : UInt8) (h : 0 ≤ n) (h1 : 48 ≤ c.toNat) (h2 : c.toNat ≤ 57) : hexStep n c = 16 * n + ((c.toNat : Int) - 48) := by
 have e : hv c = (c.toNat : Int) - 48 := by unfold hv hvN; rw [if_pos ⟨h1, h2⟩]
 unfold hexStep; rw [if_neg (by omega), e]
theorem hexStep_let (n : Int) (c : UInt8) (h : 0 ≤ n) (h1 : 97 ≤ c.toNat) (h2 : c.toNat ≤ 102) : hexStep n c = 16 * n + ((c.toNat : Int) - 87) := by
 have e : hv c = (c.toNat : Int) - 87 := by unfold hv hvN; rw [if_neg (by omega), if_pos ⟨h1, h2⟩]
 unfold hexStep; rw [if_neg (by omega), e]
theorem hexStep_none (n : Int) (c : UInt8) (h : c.toNat < 48 ∨ (57 < c.toNat ∧ c.toNat < 97) ∨ 102 < c.toNat) : hexStep n c = -1 := by
 have e : hv c = -1 := by unfold hv hvN; rw [if_neg (by omega), if_neg (by omega)]
 unfold hexStep; rw [if_pos (by omega)]

def fromL (l : List UInt8) : Int := l.foldl hexStep 0

theorem hexStep_stick (c : UInt8) : hexStep (-1) c = -1 := by simp [hexStep]

theorem fold_stick (l : List UInt8) : l.foldl hexStep (-1) = -1 := by
 induction l with
 | nil => rfl
 | cons c r ih => rw [List.foldl_cons, hexStep_stick, ih]

theorem fromL_snoc (l : List UInt8) (c : UInt8) : fromL (l ++ [c]) = hexStep (fromL l) c := by
 unfold fromL; rw [List.foldl_append]; rfl

theorem fromL_take (s : ByteArray) (k : Nat) (h : k < s.size) : fromL (s.data.toList.take (k + 1)) = hexStep (fromL (s.data.toList.take k)) s[k] := by
 rw [take_snoc s k h, fromL_snoc]

theorem fold_hex_bd (l : List UInt8) (m : Nat) (n : Int) (h0 : -1 ≤ n) (h1 : n < 16 ^ m) : -1 ≤ l.foldl hexStep n ∧ l.foldl hexStep n < 16 ^ (m + l.length) := by
 induction l generalizing n m with
 | nil => exact ⟨h0, h1⟩
 | cons c r ih =>
  have hb := hv_bd c
  have e : (16 : Int) ^ (m + 1) = 16 * 16 ^ m := by rw [Int.pow_succ]; omega
  have hp : (0 : Int) < 16 ^ m := Int.pow_pos (by decide)
  have hs : -1 ≤ hexStep n c ∧ hexStep n c < 16 ^ (m + 1) := by
   unfold hexStep
   split
   ·
    omega
   ·
    rw [e]; omega
  have h := ih (m + 1) (hexStep n c) hs.1 hs.2
  rw [List.foldl_cons, List.length_cons, show m + (r.length + 1) = m + 1 + r.length by omega]
  exact h

theorem fromL_bd (l : List UInt8) : -1 ≤ fromL l ∧ fromL l < 16 ^ l.length := by
 have h := fold_hex_bd l 0 0 (by decide) (by decide)
 rw [Nat.zero_add] at h
 exact h

theorem fromL_le (l : List UInt8) (h : l.length ≤ 8) : -1 ≤ fromL l ∧ fromL l ≤ 4294967295 := by
 have hb := fromL_bd l
 have hn : 16 ^ l.length ≤ 16 ^ 8 := Nat.pow_le_pow_right (by decide) h
 have : (16 : Int) ^ l.length ≤ 16 ^ 8 := by exact_mod_cast hn
 omega

theorem fromL_stuck (s : ByteArray) (k : Nat) (h1 : fromL (s.data.toList.take k) = -1) : fromL s.data.toList = -1 := by
 have e : s.data.toList = s.data.toList.take k ++ s.data.toList.drop k := (List.take_append_drop k _).symm
 rw [e]; unfold fromL at *; rw [List.foldl_append, h1, fold_stick]

/-- The number that eight signs are, and whether they are any. -/
def fromB (l : List UInt8) : Bool := decide (l.length = 8 ∧ fromL l ≠ -1)
def fromN (l : List UInt8) : Int := if l.length = 8 ∧ fromL l ≠ -1 then fromL l else 0

theorem from_no (l : List UInt8) (h : l.length ≠ 8 ∨ fromL l = -1) : fromB l = false ∧ fromN l = 0 := by
 unfold fromB fromN
 have : ¬ (l.length = 8 ∧ fromL l ≠ -1) := by rcases h with h | h <;> simp [h]
 rw [if_neg this]; simp [this]

theorem from_yes (l : List UInt8) (h : l.length = 8) (h1 : fromL l ≠ -1) : fromB l = true ∧ fromN l = fromL l := by
 unfold fromB fromN
 have : l.length = 8 ∧ fromL l ≠ -1 := ⟨h, h1⟩
 rw [if_pos this]; simp [this]


end Go.Proofs.Ytaioedcaopbgkaa

/-! Plain facts for FnHashes: one byte turned into another gives another hash. -/
namespace Go.Proofs.Ytaioedcaopbgkaa

end Go.Proofs.Ytaioedcaopbgkaa

/-! Plain facts for FnHex: eight signs are read as the number that they were made of, and what is read is made again. -/
namespace Go.Proofs.Ytaioedcaopbgkaa

theorem hexD_hvN : ∀ n : Nat, n < 256 → hvN n = -1 ∨ hexD (hvN n).toNat = UInt8.ofNat n := by decide +kernel

theorem hexD_hv (c : UInt8) (h : 0 ≤ hv c) : hexD (hv c).toNat = c := by
 rcases hexD_hvN c.toNat c.toNat_lt with e | e
 ·
  unfold hv at h; omega
 ·
  unfold hv; rw [e]; simp

theorem hexStep_inv (n : Int) (c : UInt8) (h : hexStep n c ≠ -1) : n ≠ -1 ∧ 0 ≤ hv c ∧ hexStep n c = 16 * n + hv c := by
 unfold hexStep at h ⊢
 split at h
 ·
  exact absurd rfl h
 ·
  rename_i hc
  rw [if_neg hc]
  exact ⟨fun e => hc (Or.inl e), by omega, rfl⟩

theorem hexL_from (l : List UInt8) (h8 : l.length = 8) (h : fromL l ≠ -1) : hexL (fromL l).toNat = l ∧ 0 ≤ fromL l ∧ fromL l ≤ 4294967295 := by
 match l, h8 with
 | [a, b, c, d, e, f, g, i], _ =>
  unfold fromL at h ⊢
  simp only [List.foldl_cons, List.foldl_nil] at h ⊢
  obtain ⟨h7, v7, e7⟩ := hexStep_inv _ _ h
  obtain ⟨h6, v6, e6⟩ := hexStep_inv _ _ h7
  obtain ⟨h5, v5, e5⟩ := hexStep_inv _ _ h6
  obtain ⟨h4, v4, e4⟩ := hexStep_inv _ _ h5
  obtain ⟨h3, v3, e3⟩ := hexStep_inv _ _ h4
  obtain ⟨h2, v2, e2⟩ := hexStep_inv _ _ h3
  obtain ⟨h1, v1, e1⟩ := hexStep_inv _ _ h2
  obtain ⟨_, v0, e0⟩ := hexStep_inv _ _ h1
  rw [e7, e6, e5, e4, e3, e2, e1, e0]
  have b0 := (hv_bd a).2
  have b1 := (hv_bd b).2
  have b2 := (hv_bd c).2
  have b3 := (hv_bd d).2
  have b4 := (hv_bd e).2
  have b5 := (hv_bd f).2
  have b6 := (hv_bd g).2
  have b7 := (hv_bd i).2
  have k0 := hexD_hv a v0
  have k1 := hexD_hv b v1
  have k2 := hexD_hv c v2
  have k3 := hexD_hv d v3
  have k4 := hexD_hv e v4
  have k5 := hexD_hv f v5
  have k6 := hexD_hv g v6
  have k7 := hexD_hv i v7
  clear h h1 h2 h3 h4 h5 h6 h7 e0 e1 e2 e3 e4 e5 e6 e7
  refine ⟨?_, by omega, by omega⟩
  generalize hv a = x0 at *
  generalize hv b = x1 at *
  generalize hv c = x2 at *
  generalize hv d = x3 at *
  generalize hv e = x4 at *
  generalize hv f = x5 at *
  generalize hv g = x6 at *
  generalize hv i = x7 at *
  obtain ⟨y0, rfl⟩ := Int.eq_ofNat_of_zero_le v0
  obtain ⟨y1, rfl⟩ := Int.eq_ofNat_of_zero_le v1
  obtain ⟨y2, rfl⟩ := Int.eq_ofNat_of_zero_le v2
  obtain ⟨y3, rfl⟩ := Int.eq_ofNat_of_zero_le v3
  obtain ⟨y4, rfl⟩ := Int.eq_ofNat_of_zero_le v4
  obtain ⟨y5, rfl⟩ := Int.eq_ofNat_of_zero_le v5
  obtain ⟨y6, rfl⟩ := Int.eq_ofNat_of_zero_le v6
  obtain ⟨y7, rfl⟩ := Int.eq_ofNat_of_zero_le v7
  have e : (16 * (16 * (16 * (16 * (16 * (16 * (16 * (16 * (0 : Int) + y0) + y1) + y2) + y3) + y4) + y5) + y6) + y7).toNat = 16 * (16 * (16 * (16 * (16 * (16 * (16 * y0 + y1) + y2) + y3) + y4) + y5) + y6) + y7 := by omega
  rw [e]
  unfold hexL
  simp only [Int.toNat_natCast] at k0 k1 k2 k3 k4 k5 k6 k7
  generalize hN : 16 * (16 * (16 * (16 * (16 * (16 * (16 * y0 + y1) + y2) + y3) + y4) + y5) + y6) + y7 = N
  rw [show N / 268435456 % 16 = y0 by omega, show N / 16777216 % 16 = y1 by omega, show N / 1048576 % 16 = y2 by omega, show N / 65536 % 16 = y3 by omega, show N / 4096 % 16 = y4 by omega, show N / 256 % 16 = y5 by omega, show N / 16 % 16 = y6 by omega, show N % 16 = y7 by omega]
  rw [k0, k1, k2, k3, k4, k5, k6, k7]

/-- What is read is made again. -/
theorem hexS_from (l : List UInt8) (h : fromB l = true) : hexS (fromN l) = l := by
 have hp : l.length = 8 ∧ fromL l ≠ -1 := of_decide_eq_true h
 have h2 := hexL_from l hp.1 hp.2
 rw [(from_yes l hp.1 hp.2).2, hexS_yes _ h2.2.1 h2.2.2]
 exact h2.1

end Go.Proofs.Ytaioedcaopbgkaa

/-! Plain facts for chapter 2 (frames): what a frame is, and what is read of one. -/
namespace Go.Proofs.Ytaioedcaopbgkaa

def framedL (l : List UInt8) : List UInt8 := hexL l.length ++ hexL (hashL l).toNat ++ l
def framedS (l : List UInt8) : List UInt8 := if l.length ≤ 20000 then framedL l else []
theorem framedS_yes (l : List UInt8) (h : l.length ≤ 20000) : framedS l = framedL l := if_pos h
/-- The first frame of a text: is there one? -/
def firstB (l : List UInt8) : Bool :=
 decide (16 ≤ l.length ∧ fromB (l.take 8) = true ∧ fromB ((l.drop 8).take 8) = true ∧ fromN (l.take 8) ≤ 20000 ∧ 16 + fromN (l.take 8) ≤ (l.length : Int) ∧
  hashL ((l.drop 16).take (fromN (l.take 8)).toNat) = fromN ((l.drop 8).take 8))
def firstT (l : List UInt8) : List UInt8 := if firstB l = true then (l.drop 16).take (fromN (l.take 8)).toNat else []
def firstN (l : List UInt8) : Int := if firstB l = true then 16 + fromN (l.take 8) else 0

theorem firstB_no (l : List UInt8) (h : ¬ (16 ≤ l.length ∧ fromB (l.take 8) = true ∧ fromB ((l.drop 8).take 8) = true ∧ fromN (l.take 8) ≤ 20000 ∧ 16 + fromN (l.take 8) ≤ (l.length : Int) ∧
 hashL ((l.drop 16).take (fromN (l.take 8)).toNat) = fromN ((l.drop 8).take 8))) : firstT l = [] ∧ firstN l = 0 ∧ firstB l = false := by
 have hb : firstB l = false := decide_eq_false h
 unfold firstT firstN
 rw [hb]; simp

theorem firstB_yes (l : List UInt8) (h : 16 ≤ l.length ∧ fromB (l.take 8) = true ∧ fromB ((l.drop 8).take 8) = true ∧ fromN (l.take 8) ≤ 20000 ∧ 16 + fromN (l.take 8) ≤ (l.length : Int) ∧
 hashL ((l.drop 16).take (fromN (l.take 8)).toNat) = fromN ((l.drop 8).take 8)) : firstT l = (l.drop 16).take (fromN (l.take 8)).toNat ∧ firstN l = 16 + fromN (l.take 8) ∧ firstB l = true := by
 have hb : firstB l = true := decide_eq_true h
 unfold firstT firstN
 rw [hb]; simp

theorem fromN_bd (l : List UInt8) : 0 ≤ fromN l ∧ fromN l ≤ 4294967295 := by
 unfold fromN
 split
 ·
  rename_i h
  have := fromL_le l (by omega)
  omega
 ·
  omega

def unframedB (l : List UInt8) : Bool := firstB l && decide (firstN l = (l.length : Int))
def unframedT (l : List UInt8) : List UInt8 := if unframedB l = true then firstT l else []

/-! The walk's own spellings. -/
end Go.Proofs.Ytaioedcaopbgkaa

/-! Plain facts for FnFrames: what is framed is read as its text; cut, or with one byte turned, it is no frame. -/
namespace Go.Proofs.Ytaioedcaopbgkaa

theorem hexL_len (n : Nat) : (hexL n).length = 8 := rfl
theorem framedL_len (l : List UInt8) : (framedL l).length = 16 + l.length := by
 unfold framedL; rw [List.length_append, List.length_append, hexL_len, hexL_len]

/-- What is read is a frame of its text. -/
theorem first_is (t : List UInt8) (h : firstB t = true) : (firstT t).length ≤ 20000 ∧ firstN t = 16 + ((firstT t).length : Int) ∧ t = framedL (firstT t) ++ t.drop (16 + (firstT t).length) := by
 have hp := of_decide_eq_true h
 have hy := firstB_yes t hp
 obtain ⟨h16, b1, b2, hn, hle, hh⟩ := hp
 have nb := fromN_bd (t.take 8)
 have e1 := hexS_from _ b1
 have e2 := hexS_from _ b2
 rw [hexS_yes _ nb.1 nb.2] at e1
 have hb := fromN_bd ((t.drop 8).take 8)
 rw [hexS_yes _ hb.1 hb.2] at e2
 obtain ⟨k, hk⟩ := Int.eq_ofNat_of_zero_le nb.1
 rw [hk] at e1 hn hle hh
 have hyT := hy.1
 have hyN := hy.2.1
 rw [hk] at hyT hyN
 rw [Int.toNat_natCast] at hyT e1 hh
 have hlen : (firstT t).length = k := by rw [hyT, List.length_take, List.length_drop]; omega
 refine ⟨by omega, by rw [hyN, hlen], ?_⟩
 have e3 : t = t.take 8 ++ ((t.drop 8).take 8 ++ ((t.drop 16).take k ++ t.drop (16 + k))) := by
  have d16 : t.drop 16 = (t.drop 8).drop 8 := by rw [List.drop_drop]
  have dk : t.drop (16 + k) = (t.drop 16).drop k := by rw [List.drop_drop]
  rw [dk, List.take_append_drop, d16, List.take_append_drop, List.take_append_drop]
 have hh2 : (hashL (firstT t)).toNat = (fromN ((t.drop 8).take 8)).toNat := by rw [hyT, hh]
 unfold framedL
 rw [hlen, hh2, e1, e2, hyT, List.append_assoc, List.append_assoc]
 exact e3

end Go.Proofs.Ytaioedcaopbgkaa
