/-
  Parts of one proof, one behind the other: Math8R, ProjS, ProjS2.
-/
import Derived.Test.YtdjglpcllcjcfaaGreatDoorP12
import Derived.Test.YtdjglpcllcjcfaaGreatDoorP7
import Derived.Deep.RegionHeld3
import Derived.Deep.Cut

/-! Plain facts of chapter 8: a text is put into a list that rises; what is reached. -/
namespace Go.Proofs.YtdjglpcllcjcfaaGreatDoor
open Go.RowKit

/-- How many come ahead of a text. -/
def low8 (s : List UInt8) : List (List UInt8) → Nat
  | [] => 0
  | x :: r => if Op.bytesLess x s = true then low8 s r + 1 else 0
theorem low8_le (s : List UInt8) : ∀ ts, low8 s ts ≤ ts.length
  | [] => Nat.le_refl _
  | x :: r => by unfold low8; split <;> simp; exact low8_le s r
/-- As far as a walk has come. -/
theorem low8_at (s : List UInt8) : ∀ (ts : List (List UInt8)) (k : Nat), (∀ i, i < k → Op.bytesLess (ts.getD i []) s = true) → k ≤ ts.length → (k = ts.length ∨ Op.bytesLess (ts.getD k []) s = false) → low8 s ts = k
  | [], k, _, h, _ => by simp at h; subst h; rfl
  | x :: r, 0, _, _, h => by
    rcases h with h | h
    · simp at h
    · unfold low8; rw [if_neg (by simpa using h)]
  | x :: r, k + 1, h1, h2, h3 => by
    have h0 := h1 0 (by omega)
    unfold low8
    rw [if_pos (by simpa using h0)]
    rw [low8_at s r k (fun i hi => by simpa using h1 (i + 1) (by omega)) (by simpa using h2) (by rcases h3 with h | h; exact Or.inl (by simpa using h); exact Or.inr (by simpa using h))]
def put8 (ts : List (List UInt8)) (s : List UInt8) : List (List UInt8) := if ts[low8 s ts]? = some s then ts else ts.take (low8 s ts) ++ s :: ts.drop (low8 s ts)
theorem put8_mem {ts : List (List UInt8)} {s x : List UInt8} : x ∈ put8 ts s ↔ x = s ∨ x ∈ ts := by
  unfold put8
  split
  · rename_i h
    exact ⟨Or.inr, fun g => g.elim (fun e => by rw [e]; exact List.mem_of_getElem? h) id⟩
  · have e := List.take_append_drop (low8 s ts) ts
    rw [List.mem_append, List.mem_cons]
    constructor
    · rintro (h | h | h)
      · exact Or.inr (List.mem_of_mem_take h)
      · exact Or.inl h
      · exact Or.inr (List.mem_of_mem_drop h)
    · rintro (h | h)
      · exact Or.inr (Or.inl h)
      · rw [← e, List.mem_append] at h
        rcases h with h | h
        · exact Or.inl h
        · exact Or.inr (Or.inr h)
theorem put8_rise {s : List UInt8} : ∀ {ts : List (List UInt8)}, Rise ts → Rise (put8 ts s)
  | [], _ => by simp [put8, low8, Rise]
  | x :: r, h => by
    have hx := List.pairwise_cons.1 h
    by_cases hl : Op.bytesLess x s = true
    · have ih := put8_rise (s := s) (ts := r) hx.2
      have e : put8 (x :: r) s = x :: put8 r s := by
        unfold put8
        rw [show low8 s (x :: r) = low8 s r + 1 by rw [low8, if_pos hl]]
        rw [List.getElem?_cons_succ]
        split
        · rfl
        · rfl
      rw [e]
      refine List.pairwise_cons.2 ⟨fun y hy => ?_, ih⟩
      rcases put8_mem.1 hy with rfl | hy
      · exact hl
      · exact hx.1 y hy
    · have hl0 : low8 s (x :: r) = 0 := by rw [low8, if_neg hl]
      unfold put8
      rw [hl0]
      simp only [List.getElem?_cons_zero, Option.some.injEq, List.take_zero, List.drop_zero, List.nil_append]
      split
      · exact h
      · rename_i hne
        have hsx : Op.bytesLess s x = true := by
          rcases hb : Op.bytesLess s x with _ | _
          · exact absurd (lt8_tri (by simpa using hl) hb) hne
          · rfl
        refine List.pairwise_cons.2 ⟨fun y hy => ?_, h⟩
        rcases List.mem_cons.1 hy with rfl | hy
        · exact hsx
        · exact lt8_trans hsx (hx.1 y hy)
theorem put8_len (ts : List (List UInt8)) (s : List UInt8) : ts.length ≤ (put8 ts s).length ∧ (put8 ts s).length ≤ ts.length + 1 := by
  unfold put8
  have h := low8_le s ts
  split
  · omega
  · rw [List.length_append, List.length_cons, List.length_take, List.length_drop]; omega

/-! What is reached. -/
def in8 (ps : List Pk) (o : List (List UInt8)) (m : List UInt8) : List (List UInt8) := if m ∈ names8 ps then put8 o m else o
def inner8 (ps : List Pk) (o ms : List (List UInt8)) : List (List UInt8) := ms.foldl (in8 ps) o
def pass8 (ps : List Pk) (o : List (List UInt8)) (p : Pk) : List (List UInt8) := if p.1 ∈ o then inner8 ps o p.2.1 else o
def step8 (ps qs : List Pk) (o : List (List UInt8)) : List (List UInt8) := qs.foldl (pass8 ps) o
def reachGo (ps : List Pk) : Nat → List (List UInt8) → List (List UInt8)
  | 0, o => o
  | n + 1, o => if (step8 ps ps o).length = o.length then step8 ps ps o else reachGo ps n (step8 ps ps o)
def reach8 (ps : List Pk) (s : List UInt8) : List (List UInt8) := reachGo ps (ps.length + 1) [s]

/-- What is held of what is reached so far. -/
structure Re8 (ps : List Pk) (s : List UInt8) (o : List (List UInt8)) : Prop where
  rise : Rise o
  sub : ∀ x ∈ o, x ∈ names8 ps
  self : s ∈ o
  why : ∀ x ∈ o, x = s ∨ ∃ p ∈ ps, p.1 ∈ o ∧ x ∈ p.2.1
theorem Re8.len {ps : List Pk} {s : List UInt8} {o : List (List UInt8)} (h : Re8 ps s o) : o.length ≤ ps.length := by
  have := h.rise.nodup.length_le_of_subset (fun x hx => h.sub x hx)
  simpa [names8] using this
theorem Re8.put {ps : List Pk} {s : List UInt8} {o : List (List UInt8)} (h : Re8 ps s o) {p : Pk} (hp : p ∈ ps) (hpo : p.1 ∈ o) {m : List UInt8} (hm : m ∈ p.2.1) : Re8 ps s (in8 ps o m) := by
  unfold in8
  split
  · rename_i hn
    refine ⟨put8_rise h.rise, fun x hx => ?_, put8_mem.2 (Or.inr h.self), fun x hx => ?_⟩
    · rcases put8_mem.1 hx with rfl | hx
      · exact hn
      · exact h.sub x hx
    · rcases put8_mem.1 hx with rfl | hx
      · exact Or.inr ⟨p, hp, put8_mem.2 (Or.inr hpo), hm⟩
      · rcases h.why x hx with e | ⟨q, hq, hqo, hxq⟩
        · exact Or.inl e
        · exact Or.inr ⟨q, hq, put8_mem.2 (Or.inr hqo), hxq⟩
  · exact h
theorem in8_sub {ps : List Pk} {o : List (List UInt8)} {m x : List UInt8} (h : x ∈ o) : x ∈ in8 ps o m := by
  unfold in8
  split
  · exact put8_mem.2 (Or.inr h)
  · exact h
theorem inner8_sub {ps : List Pk} {x : List UInt8} : ∀ (ms o : List (List UInt8)), x ∈ o → x ∈ inner8 ps o ms
  | [], _, h => h
  | m :: r, o, h => inner8_sub r (in8 ps o m) (in8_sub h)
theorem inner8_has {ps : List Pk} {x : List UInt8} (hx : x ∈ names8 ps) : ∀ (ms o : List (List UInt8)), x ∈ ms → x ∈ inner8 ps o ms
  | m :: r, o, h => by
    rcases List.mem_cons.1 h with rfl | h
    · refine inner8_sub r (in8 ps o x) ?_
      unfold in8; rw [if_pos hx]; exact put8_mem.2 (Or.inl rfl)
    · exact inner8_has hx r (in8 ps o m) h
theorem Re8.inner {ps : List Pk} {s : List UInt8} {p : Pk} (hp : p ∈ ps) : ∀ (ms o : List (List UInt8)), Re8 ps s o → p.1 ∈ o → (∀ m ∈ ms, m ∈ p.2.1) → Re8 ps s (inner8 ps o ms)
  | [], _, h, _, _ => h
  | m :: r, o, h, hpo, hm => Re8.inner hp r (in8 ps o m) (h.put hp hpo (hm m List.mem_cons_self)) (in8_sub hpo) (fun x hx => hm x (List.mem_cons_of_mem _ hx))
theorem Re8.pass {ps : List Pk} {s : List UInt8} {o : List (List UInt8)} (h : Re8 ps s o) {p : Pk} (hp : p ∈ ps) : Re8 ps s (pass8 ps o p) := by
  unfold pass8
  split
  · rename_i hpo
    exact Re8.inner hp _ _ h hpo (fun m hm => hm)
  · exact h
theorem pass8_sub {ps : List Pk} {o : List (List UInt8)} {p : Pk} {x : List UInt8} (h : x ∈ o) : x ∈ pass8 ps o p := by
  unfold pass8
  split
  · exact inner8_sub _ _ h
  · exact h
theorem step8_sub {ps : List Pk} {x : List UInt8} : ∀ (qs : List Pk) (o : List (List UInt8)), x ∈ o → x ∈ step8 ps qs o
  | [], _, h => h
  | p :: r, o, h => step8_sub r (pass8 ps o p) (pass8_sub h)
theorem Re8.step {ps : List Pk} {s : List UInt8} : ∀ (qs : List Pk) (o : List (List UInt8)), (∀ q ∈ qs, q ∈ ps) → Re8 ps s o → Re8 ps s (step8 ps qs o)
  | [], _, _, h => h
  | p :: r, o, hq, h => Re8.step r (pass8 ps o p) (fun q hqr => hq q (List.mem_cons_of_mem _ hqr)) (h.pass (hq p List.mem_cons_self))
theorem step8_has {ps : List Pk} {x : List UInt8} (hx : x ∈ names8 ps) {p : Pk} (hxp : x ∈ p.2.1) : ∀ (qs : List Pk) (o : List (List UInt8)), p ∈ qs → p.1 ∈ o → x ∈ step8 ps qs o
  | q :: r, o, hp, hpo => by
    rcases List.mem_cons.1 hp with rfl | hp
    · refine step8_sub r (pass8 ps o p) ?_
      unfold pass8; rw [if_pos hpo]; exact inner8_has hx _ _ hxp
    · exact step8_has hx hxp r (pass8 ps o q) hp (pass8_sub hpo)
/-- Two lists of no two alike, one in the other, of one length, hold the same. -/
theorem same_mem {α : Type} [DecidableEq α] {a b : List α} (ha : a.Nodup) (hs : ∀ x ∈ a, x ∈ b) (hl : b.length = a.length) : ∀ x ∈ b, x ∈ a := fun x hx => by
  by_cases h : x ∈ a
  · exact h
  · have h1 : (x :: a).Nodup := List.nodup_cons.2 ⟨h, ha⟩
    have := h1.length_le_of_subset (fun y hy => by
      rcases List.mem_cons.1 hy with rfl | hy
      · exact hx
      · exact hs y hy)
    simp at this
    omega
/-- Closed: what is reached has what it imports. -/
def Shut8 (ps : List Pk) (o : List (List UInt8)) : Prop := ∀ p ∈ ps, p.1 ∈ o → ∀ m ∈ p.2.1, m ∈ names8 ps → m ∈ o
theorem shut8_of {ps : List Pk} {s : List UInt8} {o : List (List UInt8)} (h : Re8 ps s o) (hl : (step8 ps ps o).length = o.length) : Shut8 ps (step8 ps ps o) := fun p hp hpo m hm hn => by
  have hb := same_mem h.rise.nodup (fun x hx => step8_sub ps o hx) hl
  exact step8_has hn hm ps o hp (hb _ hpo)
theorem reachGo_end {ps : List Pk} {s : List UInt8} : ∀ (n : Nat) (o : List (List UInt8)), Re8 ps s o → ps.length < n + o.length → Re8 ps s (reachGo ps n o) ∧ Shut8 ps (reachGo ps n o)
  | 0, o, h, hl => by have := h.len; omega
  | n + 1, o, h, hl => by
    rw [reachGo]
    have h2 := Re8.step ps o (fun q hq => hq) h
    split
    · rename_i e; exact ⟨h2, shut8_of h e⟩
    · rename_i e
      have hle := h.rise.nodup.length_le_of_subset (fun x hx => step8_sub (ps := ps) ps o hx)
      exact reachGo_end n _ h2 (by omega)
theorem re8_one {ps : List Pk} {s : List UInt8} (h : s ∈ names8 ps) : Re8 ps s [s] :=
  ⟨List.pairwise_singleton _ _, fun x hx => by rw [List.mem_singleton] at hx; rw [hx]; exact h, List.mem_singleton.2 rfl, fun x hx => Or.inl (List.mem_singleton.1 hx)⟩
theorem reach8_end {ps : List Pk} {s : List UInt8} (h : s ∈ names8 ps) : Re8 ps s (reach8 ps s) ∧ Shut8 ps (reach8 ps s) := reachGo_end _ _ (re8_one h) (by simp only [List.length_singleton]; omega)

/-- What the functions of chapter 8 answer. -/
def orderV (ps : List Pk) : List (List UInt8) := if projB ps = true then order8 ps else []
def hereB (ps : List Pk) (s : List UInt8) : Bool := projB ps && decide (0 ≤ at8 ps s)
def reachV (ps : List Pk) (s : List UInt8) : List (List UInt8) := if hereB ps s = true then reach8 ps s else []
def need8 (ps : List Pk) (s : List UInt8) : List (List UInt8) := (order8 ps).filter (fun x => decide (x ≠ s ∧ x ∈ reach8 ps s))
def needV (ps : List Pk) (s : List UInt8) : List (List UInt8) := if hereB ps s = true then need8 ps s else []

end Go.Proofs.YtdjglpcllcjcfaaGreatDoor

/-! The contracts of chapter 8's specification: l1Has, l8At. -/
namespace Go.Proofs.YtdjglpcllcjcfaaGreatDoor
open Go.RowKit

/-- The packages ps lie at a, three cells each, their lists where those say. -/
def PkgsIn (w : World) (a : Option Addr) (len : Nat) (ps : List Pk) : Prop :=
  ps.length = len ∧ ∀ j, j < len → ∃ b off, a = some ⟨b, off, none⟩ ∧ b < w.heap.size ∧ w.cell? ⟨b, off + j * 3, none⟩ = some (.string ⟨(ps.getD j pk0).1.toArray⟩) ∧
    ∃ ia il ic fa fl fc, w.cell? ⟨b, off + j * 3 + 1, none⟩ = some (.slice ia il ic) ∧ w.cell? ⟨b, off + j * 3 + 2, none⟩ = some (.slice fa fl fc) ∧ TextsIn w ia il (ps.getD j pk0).2.1 ∧ FuncsIn w fa fl (ps.getD j pk0).2.2
theorem PkgsIn.below {w w' : World} {a : Option Addr} {len : Nat} {ps : List Pk} (h : PkgsIn w a len ps) (hb : Below w.heap.size w w') : PkgsIn w' a len ps := by
  refine ⟨h.1, fun j hj => ?_⟩
  obtain ⟨b, off, e, hlt, c0, ia, il, ic, fa, fl, fc, c1, c2, hi, hf⟩ := h.2 j hj
  exact ⟨b, off, e, Nat.lt_of_lt_of_le hlt hb.size, (hb.cell (p := ⟨b, off + j * 3, none⟩) hlt).trans c0, ia, il, ic, fa, fl, fc, (hb.cell (p := ⟨b, off + j * 3 + 1, none⟩) hlt).trans c1, (hb.cell (p := ⟨b, off + j * 3 + 2, none⟩) hlt).trans c2, hi.below hb, hf.below hb⟩

/-- How long the parts of a project may be. -/
def ShortPs (ps : List Pk) : Prop := ∀ j, (ps.getD j pk0).1.length ≤ 1048576 ∧ (ps.getD j pk0).2.1.length ≤ 1048576 ∧ (∀ i, ((ps.getD j pk0).2.1.getD i []).length ≤ 1048576) ∧ (ps.getD j pk0).2.2.length ≤ 1048576 ∧ ShortF (ps.getD j pk0).2.2

theorem mem_take_step {ts : List (List UInt8)} {s : List UInt8} {k : Nat} (h : ∀ i, i < k → ts.getD i [] ≠ s) (hk : ts.length ≤ k) : ¬ s ∈ ts := fun hm => by
  obtain ⟨i, hi, rfl⟩ := List.mem_iff_getElem.1 hm
  exact h i (by omega) (by simp [List.getD, hi])
theorem getD_mem8 {ts : List (List UInt8)} {k : Nat} (hk : k < ts.length) : ts.getD k [] ∈ ts := by
  rw [List.getD_eq_getElem?_getD, List.getElem?_eq_getElem hk]; exact List.getElem_mem hk

set_option maxHeartbeats 1000000 in
set_option maxRecDepth 100000 in
theorem specHas (a : Option Addr) (len cap : Nat) (ts : List (List UInt8)) (s : List UInt8) (w : World) (hin : TextsIn w a len ts) (hlen : len ≤ 4194304) :
    Calls Tryz.prog 63 #[.slice a len cap, .string ⟨s.toArray⟩] w fun e w' => e = .returned (.bool (decide (s ∈ ts))) ∧ w' = w := by
  obtain rfl : ts.length = len := hin.1
  have HI : Hid (TextsIn w a ts.length ts) := hin
  clear hin
  go_enter Tryz.func63, Tryz.ntmps63
  go_wp2
  go_loopw [5] (fun iv wr => ∃ k : Nat, iv = .int .i64 (k : Int) ∧ k ≤ ts.length ∧ Hid (∀ i, i < k → ts.getD i [] ≠ s) ∧ wr = w) (fun iv _ => ts.length - (intOf iv).toNat)
  case atStart => exact ⟨0, rfl, by omega, (fun i hi => by omega), rfl⟩
  case round =>
    obtain ⟨k, rfl, hk, HA, rfl⟩ := hrel
    by_cases hlt : (k : Int) < (ts.length : Int)
    · have hk2 : k < ts.length := by omega
      obtain ⟨b, off, rfl, hbl, c0⟩ := HI.out.2 k hk2
      have hmem := getD_mem8 hk2
      obtain ⟨x, hx⟩ : ∃ x, ts.getD k [] = x := ⟨_, rfl⟩
      rw [hx] at c0 hmem
      by_cases hxs : x = s
      · subst hxs
        have HR : Hid (decide (x ∈ ts) = true) := decide_eq_true hmem
        have hself : (x == x) = true := by simp
        clear HA hx hmem
        go_wp2
        go_ret
        exact ⟨by rw [HR.out]; rfl, rfl⟩
      · have HA2 : Hid (∀ i, i < k + 1 → ts.getD i [] ≠ s) := fun i hi => by
          rcases Nat.lt_or_ge i k with h | h
          · exact HA.out i h
          · obtain rfl : i = k := by omega
            rw [hx]; exact hxs
        have hne : (x == s) = false := by rw [beq_eq_false_iff_ne]; exact hxs
        clear HA hx hmem
        go_wp2
        go_roundw
        case rel => exact ⟨k + 1, by go_num, by omega, HA2, trivial⟩
        case measure => simp [intOf]; omega
    · have HR : Hid (decide (s ∈ ts) = false) := decide_eq_false (mem_take_step HA.out (by omega))
      go_wp2
      go_ret
      exact ⟨by rw [HR.out]; rfl, rfl⟩

set_option maxHeartbeats 1000000 in
set_option maxRecDepth 100000 in
theorem specAt8 (a : Option Addr) (len cap : Nat) (ps : List Pk) (s : List UInt8) (w : World) (hin : PkgsIn w a len ps) (hlen : len ≤ 1048576) :
    Calls Tryz.prog 38 #[.slice a len cap, .string ⟨s.toArray⟩] w fun e w' => e = .returned (.int .i64 (at8 ps s)) ∧ w' = w := by
  obtain rfl : ps.length = len := hin.1
  have HI : Hid (PkgsIn w a ps.length ps) := hin
  clear hin
  go_enter Tryz.func38, Tryz.ntmps38
  go_wp2
  go_loopw [5] (fun iv wr => ∃ j : Nat, iv = .int .i64 (j : Int) ∧ j ≤ ps.length ∧ Hid (at8 ps s = at8Go s (ps.drop j) j) ∧ wr = w) (fun iv _ => ps.length - (intOf iv).toNat)
  case atStart => exact ⟨0, rfl, by omega, (rfl : at8 ps s = at8Go s (ps.drop 0) 0), rfl⟩
  case round =>
    obtain ⟨j, rfl, hj, HA, rfl⟩ := hrel
    by_cases hlt : (j : Int) < (ps.length : Int)
    · obtain ⟨b, off, rfl, hbl, c0, _⟩ := HI.out.2 j (by omega)
      have hg := at8Go_drop (ps := ps) (k := j) (by omega) s
      obtain ⟨x, hx⟩ : ∃ x, (ps.getD j pk0).1 = x := ⟨_, rfl⟩
      rw [hx] at c0 hg
      by_cases hxs : x = s
      · subst hxs
        have HR : Hid (at8 ps x = (j : Int)) := by exact (by rw [HA.out, hg, if_pos rfl] : at8 ps x = (j : Int))
        have hself : (x == x) = true := by simp
        clear HA hg hx
        go_wp2
        go_ret
        exact ⟨by rw [HR.out]; rfl, rfl⟩
      · have HR : Hid (at8 ps s = at8Go s (ps.drop (j + 1)) (j + 1)) := by exact (by rw [HA.out, hg, if_neg hxs] : at8 ps s = at8Go s (ps.drop (j + 1)) (j + 1))
        have hne : (x == s) = false := by rw [beq_eq_false_iff_ne]; exact hxs
        clear HA hg hx
        go_wp2
        go_roundw
        case rel => exact ⟨j + 1, by go_num, by omega, HR, trivial⟩
        case measure => simp [intOf]; omega
    · have HR : Hid (at8 ps s = -1) := by exact (by rw [HA.out, List.drop_of_length_le (by omega)]; rfl : at8 ps s = -1)
      go_wp2
      go_ret
      exact ⟨by rw [HR.out]; rfl, rfl⟩

end Go.Proofs.YtdjglpcllcjcfaaGreatDoor

/-! The contracts of chapter 8's specification: ProjectOk, l8Order. -/
namespace Go.Proofs.YtdjglpcllcjcfaaGreatDoor
open Go.RowKit

set_option maxHeartbeats 4000000 in
set_option maxRecDepth 100000 in
theorem specProjectOk (a : Option Addr) (len cap : Nat) (ps : List Pk) (w : World) (hin : PkgsIn w a len ps) (hlen : len ≤ 1048576) (hsh : ShortPs ps) :
    Calls Tryz.prog 14 #[.slice a len cap] w fun e w' => e = .returned (.bool (projB ps)) ∧ Below w.heap.size w w' := by
  obtain rfl : ps.length = len := hin.1
  have HI : Hid (PkgsIn w a ps.length ps) := hin
  have HS : Hid (ShortPs ps) := hsh
  clear hin hsh
  go_enter Tryz.func14, Tryz.ntmps14
  go_wp2
  go_loopw [3] (fun iv wr => ∃ j : Nat, iv = .int .i64 (j : Int) ∧ j ≤ ps.length ∧ Hid (∀ i, i < j → pj8 ps i) ∧ Hid (PkgsIn wr a ps.length ps) ∧ Hid (Below w.heap.size w wr)) (fun iv _ => ps.length - (intOf iv).toNat)
  case atStart => exact ⟨0, rfl, by omega, (fun i hi => by omega), HI, Below.refl _ _⟩
  case round =>
    obtain ⟨j, rfl, hj, HA, HP, HB⟩ := hrel
    clear HI
    by_cases hlt : (j : Int) < (ps.length : Int)
    · have hj2 : j < ps.length := by omega
      have hin := HP.out
      have hB := HB.out
      clear HP HB
      obtain ⟨b, off, rfl, hbl, c0, ia, il, ic, fa, fl, fc, c1, c2, hi, hf⟩ := hin.2 j hj2
      have hsj := HS.out j
      have hpj : pj8 ps j ↔ (pkgB (ps.getD j pk0) = true ∧ (0 < j → leT (ps.getD j pk0).1 (ps.getD (j - 1) pk0).1 = false)) := Iff.rfl
      obtain ⟨p, hp⟩ : ∃ p, ps.getD j pk0 = p := ⟨_, rfl⟩
      rw [hp] at c0 hi hf hsj hpj
      clear hp
      obtain ⟨x, ims, fs⟩ := p
      simp only at c0 hi hf hsj hpj
      obtain ⟨hx, hil, him, hfl, hfs⟩ := hsj
      rw [hi.1] at hil
      rw [hf.1] at hfl
      have HSH : Hid (x.length ≤ 1048576 ∧ (∀ i, (ims.getD i []).length ≤ 1048576) ∧ ShortF fs) := ⟨hx, him, hfs⟩
      have HPJ : Hid (pj8 ps j ↔ (pkgB (x, ims, fs) = true ∧ (0 < j → leT x (ps.getD (j - 1) pk0).1 = false))) := hpj
      obtain ⟨pb, hpb⟩ : ∃ pb, pkgB (x, ims, fs) = pb := ⟨_, rfl⟩
      have HPB : Hid (pkgB (x, ims, fs) = pb) := hpb
      clear hx him hfs hpj hpb
      replace hB : Below w.heap.size w wr.drew := hB.drew
      replace hin : PkgsIn wr.drew (some ⟨b, off, none⟩) ps.length ps := hin
      replace hi : TextsIn wr.drew ia il ims := hi
      replace hf : FuncsIn wr.drew fa fl fs := hf
      replace hbl : b < wr.drew.heap.size := hbl
      rcases pb with _ | _
      · have HR : Hid (projB ps = false) := projB_no hj2 (fun h => by have := (HPJ.out.1 h).1; rw [HPB.out] at this; cases this)
        go_wp2_with fail
        refine wp_region_held_drew (S := (fun w' => w'.cell? ⟨b, off + j * 3, none⟩ = some (.string ⟨x.toArray⟩) ∧ w'.cell? ⟨b, off + j * 3 + 1, none⟩ = some (.slice ia il ic) ∧ w'.cell? ⟨b, off + j * 3 + 2, none⟩ = some (.slice fa fl fc))) (by kernel_rfl) ?_ (fun hHeld => ?_)
        · first | (dsimp only; done) | (dsimp only; go_keep) | go_keep
        refine wpAnyH_take (i := 0) (oi := ⟨some 10, _, _, _, _, _⟩) (v := ?v0) rfl (by kernel_rfl) (by kernel_rfl) (by kernel_rfl) (fun _ _ _ h => h) (Or.inl ⟨by rfl, ?hy0⟩) (by assumption) ?rest0
        case hy0 => (intro wq hSw; (try dsimp only at hSw); first | (go_simp; done) | (go_simp; with_reducible rfl))
        simp only [Act.put, List.setIfInBounds_toArray, List.set_cons_zero, List.set_cons_succ]
        refine wpAnyH_take (i := 1) (oi := ⟨some 11, _, _, _, _, _⟩) (v := ?v1) rfl (by kernel_rfl) (by kernel_rfl) (by kernel_rfl) (fun _ _ _ h => h) (Or.inl ⟨by rfl, ?hy1⟩) (by assumption) ?rest1
        case hy1 => (intro wq hSw; (try dsimp only at hSw); first | (go_simp; done) | (go_simp; with_reducible rfl))
        simp only [Act.put, List.setIfInBounds_toArray, List.set_cons_zero, List.set_cons_succ]
        refine wpAnyH_take (i := 2) (oi := ⟨some 12, _, _, _, _, _⟩) (v := ?v2) rfl (by kernel_rfl) (by kernel_rfl) (by kernel_rfl) (fun _ _ _ h => h) (Or.inl ⟨by rfl, ?hy2⟩) (by assumption) ?rest2
        case hy2 => (intro wq hSw; (try dsimp only at hSw); first | (go_simp; done) | (go_simp; with_reducible rfl))
        simp only [Act.put, List.setIfInBounds_toArray, List.set_cons_zero, List.set_cons_succ]
        refine wpAnyH_take (i := 3) (oi := ⟨some 13, _, _, _, _, _⟩) (v := ?v3) rfl (by kernel_rfl) (by kernel_rfl) (by kernel_rfl) (fun _ _ _ h => h) (Or.inl ⟨by rfl, ?hy3⟩) (by assumption) ?rest3
        case hy3 => (intro wq hSw; (try dsimp only at hSw); first | (go_simp; done) | (go_simp; with_reducible rfl))
        simp only [Act.put, List.setIfInBounds_toArray, List.set_cons_zero, List.set_cons_succ]
        refine wpAnyH_ready (rs := [4]) (by kernel_rfl) (by simp) ?_
        refine AllReadyH.cons rfl (fun K hK => ?_) AllReadyH.nil
        go_simp
        (go_at_call 13; refine (specPackageOk x ia il ic fa fl fc ims fs _ hi hf (by omega) (by omega) HSH.out.1 HSH.out.2.1 HSH.out.2.2).mono ?_; rintro e wn ⟨rfl, hbn⟩; rw [HPB.out]; replace hB := hB.trans (hbn.mono hB.size); replace hin := hin.below hbn; replace c0 := (hbn.cell (p := ⟨b, off + j * 3, none⟩) hbl).trans c0; replace c1 := (hbn.cell (p := ⟨b, off + j * 3 + 1, none⟩) hbl).trans c1; replace c2 := (hbn.cell (p := ⟨b, off + j * 3 + 2, none⟩) hbl).trans c2; replace hi := hi.below hbn; replace hf := hf.below hbn; replace hbl := Nat.lt_of_lt_of_le hbl hbn.size; clear hbn)
        refine hK.out _ _ ?_ (fun hHeld => ?_)
        · first | (dsimp only; done) | (dsimp only; go_keep) | go_keep
        clear hK K
        refine wpAnyH_take (i := 5) (oi := ⟨some 15, _, _, _, _, _⟩) (v := ?v5) rfl (by kernel_rfl) (by kernel_rfl) (by kernel_rfl) (fun _ _ _ h => h) (Or.inl ⟨by rfl, ?hy5⟩) (by assumption) ?rest5
        case hy5 => (intro wq hSw; (try dsimp only at hSw); first | (go_simp; done) | (go_simp; with_reducible rfl))
        simp only [Act.put, List.setIfInBounds_toArray, List.set_cons_zero, List.set_cons_succ]
        refine wpAnyH_take (i := 6) (oi := ⟨some 16, _, _, _, _, _⟩) (v := ?v6) rfl (by kernel_rfl) (by kernel_rfl) (by kernel_rfl) (fun _ _ _ h => h) (Or.inl ⟨by rfl, ?hy6⟩) (by assumption) ?rest6
        case hy6 => (intro wq hSw; (try dsimp only at hSw); first | (go_simp; done) | (go_simp; with_reducible rfl))
        simp only [Act.put, List.setIfInBounds_toArray, List.set_cons_zero, List.set_cons_succ]
        refine wpAnyH_take (i := 7) (oi := ⟨some 17, _, _, _, _, _⟩) (v := undef) rfl (by kernel_rfl) (by kernel_rfl) (by kernel_rfl) (fun _ _ _ h => h) (Or.inr ⟨by rfl, rfl⟩) (by assumption) ?_
        simp only [Act.put, List.setIfInBounds_toArray, List.set_cons_zero, List.set_cons_succ]
        refine wpAnyH_take (i := 8) (oi := ⟨some 18, _, _, _, _, _⟩) (v := undef) rfl (by kernel_rfl) (by kernel_rfl) (by kernel_rfl) (fun _ _ _ h => h) (Or.inr ⟨by rfl, rfl⟩) (by assumption) ?_
        simp only [Act.put, List.setIfInBounds_toArray, List.set_cons_zero, List.set_cons_succ]
        refine wpAnyH_take (i := 9) (oi := ⟨some 19, _, _, _, _, _⟩) (v := undef) rfl (by kernel_rfl) (by kernel_rfl) (by kernel_rfl) (fun _ _ _ h => h) (Or.inr ⟨by rfl, rfl⟩) (by assumption) ?_
        simp only [Act.put, List.setIfInBounds_toArray, List.set_cons_zero, List.set_cons_succ]
        refine wpAnyH_take (i := 10) (oi := ⟨some 20, _, _, _, _, _⟩) (v := undef) rfl (by kernel_rfl) (by kernel_rfl) (by kernel_rfl) (fun _ _ _ h => h) (Or.inr ⟨by rfl, rfl⟩) (by assumption) ?_
        simp only [Act.put, List.setIfInBounds_toArray, List.set_cons_zero, List.set_cons_succ]
        refine wpAnyH_take (i := 11) (oi := ⟨some 21, _, _, _, _, _⟩) (v := undef) rfl (by kernel_rfl) (by kernel_rfl) (by kernel_rfl) (fun _ _ _ h => h) (Or.inr ⟨by rfl, rfl⟩) (by assumption) ?_
        simp only [Act.put, List.setIfInBounds_toArray, List.set_cons_zero, List.set_cons_succ]
        refine wpAnyH_take (i := 12) (oi := ⟨some 22, _, _, _, _, _⟩) (v := undef) rfl (by kernel_rfl) (by kernel_rfl) (by kernel_rfl) (fun _ _ _ h => h) (Or.inr ⟨by rfl, rfl⟩) (by assumption) ?_
        simp only [Act.put, List.setIfInBounds_toArray, List.set_cons_zero, List.set_cons_succ]
        refine wpAnyH_take (i := 13) (oi := ⟨some 23, _, _, _, _, _⟩) (v := undef) rfl (by kernel_rfl) (by kernel_rfl) (by kernel_rfl) (fun _ _ _ h => h) (Or.inr ⟨by rfl, rfl⟩) (by assumption) ?_
        simp only [Act.put, List.setIfInBounds_toArray, List.set_cons_zero, List.set_cons_succ]
        refine wpAnyH_take (i := 14) (oi := ⟨some 24, _, _, _, _, _⟩) (v := undef) rfl (by kernel_rfl) (by kernel_rfl) (by kernel_rfl) (fun _ _ _ h => h) (Or.inr ⟨by rfl, rfl⟩) (by assumption) ?_
        simp only [Act.put, List.setIfInBounds_toArray, List.set_cons_zero, List.set_cons_succ]
        refine wpAnyH_take (i := 15) (oi := ⟨some 25, _, _, _, _, _⟩) (v := undef) rfl (by kernel_rfl) (by kernel_rfl) (by kernel_rfl) (fun _ _ _ h => h) (Or.inr ⟨by rfl, rfl⟩) (by assumption) ?_
        simp only [Act.put, List.setIfInBounds_toArray, List.set_cons_zero, List.set_cons_succ]
        refine wpAnyH_take (i := 16) (oi := ⟨some 26, _, _, _, _, _⟩) (v := undef) rfl (by kernel_rfl) (by kernel_rfl) (by kernel_rfl) (fun _ _ _ h => h) (Or.inr ⟨by rfl, rfl⟩) (by assumption) ?_
        simp only [Act.put, List.setIfInBounds_toArray, List.set_cons_zero, List.set_cons_succ]
        refine wpAnyH_take (i := 17) (oi := ⟨some 27, _, _, _, _, _⟩) (v := undef) rfl (by kernel_rfl) (by kernel_rfl) (by kernel_rfl) (fun _ _ _ h => h) (Or.inr ⟨by rfl, rfl⟩) (by assumption) ?_
        simp only [Act.put, List.setIfInBounds_toArray, List.set_cons_zero, List.set_cons_succ]
        refine wpAnyH_take (i := 18) (oi := ⟨some 28, _, _, _, _, _⟩) (v := undef) rfl (by kernel_rfl) (by kernel_rfl) (by kernel_rfl) (fun _ _ _ h => h) (Or.inr ⟨by rfl, rfl⟩) (by assumption) ?_
        simp only [Act.put, List.setIfInBounds_toArray, List.set_cons_zero, List.set_cons_succ]
        refine wpAnyH_take (i := 19) (oi := ⟨some 29, _, _, _, _, _⟩) (v := undef) rfl (by kernel_rfl) (by kernel_rfl) (by kernel_rfl) (fun _ _ _ h => h) (Or.inr ⟨by rfl, rfl⟩) (by assumption) ?_
        simp only [Act.put, List.setIfInBounds_toArray, List.set_cons_zero, List.set_cons_succ]
        refine wpAnyH_take (i := 20) (oi := ⟨some 30, _, _, _, _, _⟩) (v := undef) rfl (by kernel_rfl) (by kernel_rfl) (by kernel_rfl) (fun _ _ _ h => h) (Or.inr ⟨by rfl, rfl⟩) (by assumption) ?_
        simp only [Act.put, List.setIfInBounds_toArray, List.set_cons_zero, List.set_cons_succ]
        refine wpAnyH_take (i := 21) (oi := ⟨some 31, _, _, _, _, _⟩) (v := undef) rfl (by kernel_rfl) (by kernel_rfl) (by kernel_rfl) (fun _ _ _ h => h) (Or.inr ⟨by rfl, rfl⟩) (by assumption) ?_
        simp only [Act.put, List.setIfInBounds_toArray, List.set_cons_zero, List.set_cons_succ]
        refine wpAnyH_take (i := 22) (oi := ⟨some 32, _, _, _, _, _⟩) (v := undef) rfl (by kernel_rfl) (by kernel_rfl) (by kernel_rfl) (fun _ _ _ h => h) (Or.inr ⟨by rfl, rfl⟩) (by assumption) ?_
        simp only [Act.put, List.setIfInBounds_toArray, List.set_cons_zero, List.set_cons_succ]
        refine wpAnyH_take (i := 23) (oi := ⟨some 33, _, _, _, _, _⟩) (v := ?v23) rfl (by kernel_rfl) (by kernel_rfl) (by kernel_rfl) (fun _ _ _ h => h) (Or.inl ⟨by rfl, ?hy23⟩) (by assumption) ?rest23
        case hy23 => (intro wq hSw; (try dsimp only at hSw); first | (go_simp; done) | (go_simp; with_reducible rfl))
        simp only [Act.put, List.setIfInBounds_toArray, List.set_cons_zero, List.set_cons_succ]
        refine wpAnyH_done (by kernel_rfl) ?_ _
        go_wp2
        go_ret
        exact ⟨by rw [HR.out]; rfl, hB⟩
      · rcases j with _ | j
        · have HA2 : Hid (∀ i, i < 0 + 1 → pj8 ps i) := fun i hi => by
            obtain rfl : i = 0 := by omega
            exact HPJ.out.2 ⟨HPB.out, fun h => by omega⟩
          simp only [Nat.zero_mul, Nat.add_zero] at c0 c1 c2
          have hl0 : (0 : Int) < (ps.length : Int) := hlt
          rw [show ((0 : Nat) : Int) = 0 from rfl]
          clear hlt
          go_wp2_with fail
          refine wp_region_held_drew (S := (fun w' => w'.cell? ⟨b, off, none⟩ = some (.string ⟨x.toArray⟩) ∧ w'.cell? ⟨b, off + 1, none⟩ = some (.slice ia il ic) ∧ w'.cell? ⟨b, off + 2, none⟩ = some (.slice fa fl fc))) (by kernel_rfl) ?_ (fun hHeld => ?_)
          · first | (dsimp only; done) | (dsimp only; go_keep) | go_keep
          refine wpAnyH_take (i := 0) (oi := ⟨some 10, _, _, _, _, _⟩) (v := ?vz0) rfl (by kernel_rfl) (by kernel_rfl) (by kernel_rfl) (fun _ _ _ h => h) (Or.inl ⟨by rfl, ?hyz0⟩) (by assumption) ?restz0
          case hyz0 => (intro wq hSw; (try dsimp only at hSw); first | (go_simp; done) | (go_simp; with_reducible rfl))
          simp only [Act.put, List.setIfInBounds_toArray, List.set_cons_zero, List.set_cons_succ]
          refine wpAnyH_take (i := 1) (oi := ⟨some 11, _, _, _, _, _⟩) (v := ?vz1) rfl (by kernel_rfl) (by kernel_rfl) (by kernel_rfl) (fun _ _ _ h => h) (Or.inl ⟨by rfl, ?hyz1⟩) (by assumption) ?restz1
          case hyz1 => (intro wq hSw; (try dsimp only at hSw); first | (go_simp; done) | (go_simp; with_reducible rfl))
          simp only [Act.put, List.setIfInBounds_toArray, List.set_cons_zero, List.set_cons_succ]
          refine wpAnyH_take (i := 2) (oi := ⟨some 12, _, _, _, _, _⟩) (v := ?vz2) rfl (by kernel_rfl) (by kernel_rfl) (by kernel_rfl) (fun _ _ _ h => h) (Or.inl ⟨by rfl, ?hyz2⟩) (by assumption) ?restz2
          case hyz2 => (intro wq hSw; (try dsimp only at hSw); first | (go_simp; done) | (go_simp; with_reducible rfl))
          simp only [Act.put, List.setIfInBounds_toArray, List.set_cons_zero, List.set_cons_succ]
          refine wpAnyH_take (i := 3) (oi := ⟨some 13, _, _, _, _, _⟩) (v := ?vz3) rfl (by kernel_rfl) (by kernel_rfl) (by kernel_rfl) (fun _ _ _ h => h) (Or.inl ⟨by rfl, ?hyz3⟩) (by assumption) ?restz3
          case hyz3 => (intro wq hSw; (try dsimp only at hSw); first | (go_simp; done) | (go_simp; with_reducible rfl))
          simp only [Act.put, List.setIfInBounds_toArray, List.set_cons_zero, List.set_cons_succ]
          refine wpAnyH_ready (rs := [4]) (by kernel_rfl) (by simp) ?_
          refine AllReadyH.cons rfl (fun K hK => ?_) AllReadyH.nil
          go_simp
          (go_at_call 13; refine (specPackageOk x ia il ic fa fl fc ims fs _ hi hf (by omega) (by omega) HSH.out.1 HSH.out.2.1 HSH.out.2.2).mono ?_; rintro e wn ⟨rfl, hbn⟩; rw [HPB.out]; replace hB := hB.trans (hbn.mono hB.size); replace hin := hin.below hbn; replace c0 := (hbn.cell (p := ⟨b, off, none⟩) hbl).trans c0; replace c1 := (hbn.cell (p := ⟨b, off + 1, none⟩) hbl).trans c1; replace c2 := (hbn.cell (p := ⟨b, off + 2, none⟩) hbl).trans c2; replace hi := hi.below hbn; replace hf := hf.below hbn; replace hbl := Nat.lt_of_lt_of_le hbl hbn.size; clear hbn)
          refine hK.out _ _ ?_ (fun hHeld => ?_)
          · first | (dsimp only; done) | (dsimp only; go_keep) | go_keep
          clear hK K
          refine wpAnyH_take (i := 5) (oi := ⟨some 15, _, _, _, _, _⟩) (v := ?vz5) rfl (by kernel_rfl) (by kernel_rfl) (by kernel_rfl) (fun _ _ _ h => h) (Or.inl ⟨by rfl, ?hyz5⟩) (by assumption) ?restz5
          case hyz5 => (intro wq hSw; (try dsimp only at hSw); first | (go_simp; done) | (go_simp; with_reducible rfl))
          simp only [Act.put, List.setIfInBounds_toArray, List.set_cons_zero, List.set_cons_succ]
          refine wpAnyH_take (i := 6) (oi := ⟨some 16, _, _, _, _, _⟩) (v := ?vz6) rfl (by kernel_rfl) (by kernel_rfl) (by kernel_rfl) (fun _ _ _ h => h) (Or.inl ⟨by rfl, ?hyz6⟩) (by assumption) ?restz6
          case hyz6 => (intro wq hSw; (try dsimp only at hSw); first | (go_simp; done) | (go_simp; with_reducible rfl))
          simp only [Act.put, List.setIfInBounds_toArray, List.set_cons_zero, List.set_cons_succ]
          refine wpAnyH_take (i := 7) (oi := ⟨some 17, _, _, _, _, _⟩) (v := ?vz7) rfl (by kernel_rfl) (by kernel_rfl) (by kernel_rfl) (fun _ _ _ h => h) (Or.inl ⟨by rfl, ?hyz7⟩) (by assumption) ?restz7
          case hyz7 => (intro wq hSw; (try dsimp only at hSw); first | (go_simp; done) | (go_simp; with_reducible rfl))
          simp only [Act.put, List.setIfInBounds_toArray, List.set_cons_zero, List.set_cons_succ]
          refine wpAnyH_take (i := 8) (oi := ⟨some 18, _, _, _, _, _⟩) (v := ?vz8) rfl (by kernel_rfl) (by kernel_rfl) (by kernel_rfl) (fun _ _ _ h => h) (Or.inl ⟨by rfl, ?hyz8⟩) (by assumption) ?restz8
          case hyz8 => (intro wq hSw; (try dsimp only at hSw); first | (go_simp; done) | (go_simp; with_reducible rfl))
          simp only [Act.put, List.setIfInBounds_toArray, List.set_cons_zero, List.set_cons_succ]
          refine wpAnyH_take (i := 9) (oi := ⟨some 19, _, _, _, _, _⟩) (v := ?vz9) rfl (by kernel_rfl) (by kernel_rfl) (by kernel_rfl) (fun _ _ _ h => h) (Or.inl ⟨by rfl, ?hyz9⟩) (by assumption) ?restz9
          case hyz9 => (intro wq hSw; (try dsimp only at hSw); first | (go_simp; done) | (go_simp; with_reducible rfl))
          simp only [Act.put, List.setIfInBounds_toArray, List.set_cons_zero, List.set_cons_succ]
          refine wpAnyH_take (i := 10) (oi := ⟨some 20, _, _, _, _, _⟩) (v := undef) rfl (by kernel_rfl) (by kernel_rfl) (by kernel_rfl) (fun _ _ _ h => h) (Or.inr ⟨by rfl, rfl⟩) (by assumption) ?_
          simp only [Act.put, List.setIfInBounds_toArray, List.set_cons_zero, List.set_cons_succ]
          refine wpAnyH_take (i := 11) (oi := ⟨some 21, _, _, _, _, _⟩) (v := undef) rfl (by kernel_rfl) (by kernel_rfl) (by kernel_rfl) (fun _ _ _ h => h) (Or.inr ⟨by rfl, rfl⟩) (by assumption) ?_
          simp only [Act.put, List.setIfInBounds_toArray, List.set_cons_zero, List.set_cons_succ]
          refine wpAnyH_take (i := 12) (oi := ⟨some 22, _, _, _, _, _⟩) (v := undef) rfl (by kernel_rfl) (by kernel_rfl) (by kernel_rfl) (fun _ _ _ h => h) (Or.inr ⟨by rfl, rfl⟩) (by assumption) ?_
          simp only [Act.put, List.setIfInBounds_toArray, List.set_cons_zero, List.set_cons_succ]
          refine wpAnyH_take (i := 13) (oi := ⟨some 23, _, _, _, _, _⟩) (v := undef) rfl (by kernel_rfl) (by kernel_rfl) (by kernel_rfl) (fun _ _ _ h => h) (Or.inr ⟨by rfl, rfl⟩) (by assumption) ?_
          simp only [Act.put, List.setIfInBounds_toArray, List.set_cons_zero, List.set_cons_succ]
          refine wpAnyH_take (i := 14) (oi := ⟨some 24, _, _, _, _, _⟩) (v := undef) rfl (by kernel_rfl) (by kernel_rfl) (by kernel_rfl) (fun _ _ _ h => h) (Or.inr ⟨by rfl, rfl⟩) (by assumption) ?_
          simp only [Act.put, List.setIfInBounds_toArray, List.set_cons_zero, List.set_cons_succ]
          refine wpAnyH_take (i := 15) (oi := ⟨some 25, _, _, _, _, _⟩) (v := undef) rfl (by kernel_rfl) (by kernel_rfl) (by kernel_rfl) (fun _ _ _ h => h) (Or.inr ⟨by rfl, rfl⟩) (by assumption) ?_
          simp only [Act.put, List.setIfInBounds_toArray, List.set_cons_zero, List.set_cons_succ]
          refine wpAnyH_take (i := 16) (oi := ⟨some 26, _, _, _, _, _⟩) (v := undef) rfl (by kernel_rfl) (by kernel_rfl) (by kernel_rfl) (fun _ _ _ h => h) (Or.inr ⟨by rfl, rfl⟩) (by assumption) ?_
          simp only [Act.put, List.setIfInBounds_toArray, List.set_cons_zero, List.set_cons_succ]
          refine wpAnyH_take (i := 17) (oi := ⟨some 27, _, _, _, _, _⟩) (v := undef) rfl (by kernel_rfl) (by kernel_rfl) (by kernel_rfl) (fun _ _ _ h => h) (Or.inr ⟨by rfl, rfl⟩) (by assumption) ?_
          simp only [Act.put, List.setIfInBounds_toArray, List.set_cons_zero, List.set_cons_succ]
          refine wpAnyH_take (i := 18) (oi := ⟨some 28, _, _, _, _, _⟩) (v := undef) rfl (by kernel_rfl) (by kernel_rfl) (by kernel_rfl) (fun _ _ _ h => h) (Or.inr ⟨by rfl, rfl⟩) (by assumption) ?_
          simp only [Act.put, List.setIfInBounds_toArray, List.set_cons_zero, List.set_cons_succ]
          refine wpAnyH_take (i := 19) (oi := ⟨some 29, _, _, _, _, _⟩) (v := undef) rfl (by kernel_rfl) (by kernel_rfl) (by kernel_rfl) (fun _ _ _ h => h) (Or.inr ⟨by rfl, rfl⟩) (by assumption) ?_
          simp only [Act.put, List.setIfInBounds_toArray, List.set_cons_zero, List.set_cons_succ]
          refine wpAnyH_take (i := 20) (oi := ⟨some 30, _, _, _, _, _⟩) (v := undef) rfl (by kernel_rfl) (by kernel_rfl) (by kernel_rfl) (fun _ _ _ h => h) (Or.inr ⟨by rfl, rfl⟩) (by assumption) ?_
          simp only [Act.put, List.setIfInBounds_toArray, List.set_cons_zero, List.set_cons_succ]
          refine wpAnyH_take (i := 21) (oi := ⟨some 31, _, _, _, _, _⟩) (v := undef) rfl (by kernel_rfl) (by kernel_rfl) (by kernel_rfl) (fun _ _ _ h => h) (Or.inr ⟨by rfl, rfl⟩) (by assumption) ?_
          simp only [Act.put, List.setIfInBounds_toArray, List.set_cons_zero, List.set_cons_succ]
          refine wpAnyH_take (i := 22) (oi := ⟨some 32, _, _, _, _, _⟩) (v := ?vz22) rfl (by kernel_rfl) (by kernel_rfl) (by kernel_rfl) (fun _ _ _ h => h) (Or.inl ⟨by rfl, ?hyz22⟩) (by assumption) ?restz22
          case hyz22 => (intro wq hSw; (try dsimp only at hSw); first | (go_simp; done) | (go_simp; with_reducible rfl))
          simp only [Act.put, List.setIfInBounds_toArray, List.set_cons_zero, List.set_cons_succ]
          refine wpAnyH_take (i := 23) (oi := ⟨some 33, _, _, _, _, _⟩) (v := ?vz23) rfl (by kernel_rfl) (by kernel_rfl) (by kernel_rfl) (fun _ _ _ h => h) (Or.inl ⟨by rfl, ?hyz23⟩) (by assumption) ?restz23
          case hyz23 => (intro wq hSw; (try dsimp only at hSw); first | (go_simp; done) | (go_simp; with_reducible rfl))
          simp only [Act.put, List.setIfInBounds_toArray, List.set_cons_zero, List.set_cons_succ]
          refine wpAnyH_done (by kernel_rfl) ?_ _
          have HP2 : Hid (PkgsIn wn (some ⟨b, off, none⟩) ps.length ps) := hin
          have HB2 : Hid (Below w.heap.size w wn) := hB
          go_wp2
          go_roundw
          case rel => exact ⟨0 + 1, by go_num, by omega, HA2, HP2, HB2⟩
          case measure => simp [intOf]; omega
        · obtain ⟨b', off', he, _, d0, _⟩ := hin.2 j (by omega)
          rw [show ((j + 1 : Nat) : Int) = (j : Int) + 1 by omega]
          have hl1 : (j : Int) + 1 < (ps.length : Int) := by omega
          have hl2 : (j : Int) < (ps.length : Int) := by omega
          have hl3 : (0 : Int) ≤ (j : Int) + 1 := by omega
          have hl4 : (0 : Int) < (j : Int) + 1 := by omega
          have hl5 : IntKind.i64.wrap ((j : Int) + 1 - 1) = (j : Int) := by rw [show (j : Int) + 1 - 1 = (j : Int) by omega]; rw [IntKind.wrap_i64]; omega
          have hl6 : IntKind.i64.wrap (j : Int) = (j : Int) := by rw [IntKind.wrap_i64]; omega
          clear hlt
          simp only [Option.some.injEq, Addr.mk.injEq, and_true] at he
          obtain ⟨rfl, rfl⟩ := he
          obtain ⟨y, hy⟩ : ∃ y, (ps.getD j pk0).1 = y := ⟨_, rfl⟩
          have hpj := HPJ.out
          rw [show j + 1 - 1 = j by omega, hy] at hpj
          rw [hy] at d0
          replace HPJ : Hid (pj8 ps (j + 1) ↔ (pkgB (x, ims, fs) = true ∧ (0 < j + 1 → leT x y = false))) := hpj
          have d0' : wr.cell? ⟨b, off + j * 3, none⟩ = some (.string ⟨y.toArray⟩) := d0
          rcases hle : leT x y with _ | _
          · have HA2 : Hid (∀ i, i < j + 1 + 1 → pj8 ps i) := fun i hi => by
              rcases Nat.lt_or_ge i (j + 1) with h | h
              · exact HA.out i h
              · obtain rfl : i = j + 1 := by omega
                exact HPJ.out.2 ⟨HPB.out, fun _ => hle⟩
            unfold leT at hle
            clear hy hpj
            go_wp2_with fail
            go_region_held3 (fun w' => w'.cell? ⟨b, off + (j + 1) * 3, none⟩ = some (.string ⟨x.toArray⟩) ∧ w'.cell? ⟨b, off + (j + 1) * 3 + 1, none⟩ = some (.slice ia il ic) ∧ w'.cell? ⟨b, off + (j + 1) * 3 + 2, none⟩ = some (.slice fa fl fc) ∧ w'.cell? ⟨b, off + j * 3, none⟩ = some (.string ⟨y.toArray⟩)) (go_keep) (first | (go_at_call 13; refine (specPackageOk x ia il ic fa fl fc ims fs _ hi hf (by omega) (by omega) HSH.out.1 HSH.out.2.1 HSH.out.2.2).mono ?_; rintro e wn ⟨rfl, hbn⟩; rw [HPB.out]; replace hB := hB.trans (hbn.mono hB.size); replace hin := hin.below hbn; replace c0 := (hbn.cell (p := ⟨b, off + (j + 1) * 3, none⟩) hbl).trans c0; replace c1 := (hbn.cell (p := ⟨b, off + (j + 1) * 3 + 1, none⟩) hbl).trans c1; replace c2 := (hbn.cell (p := ⟨b, off + (j + 1) * 3 + 2, none⟩) hbl).trans c2; replace d0 := (hbn.cell (p := ⟨b, off + j * 3, none⟩) hbl).trans d0; replace hi := hi.below hbn; replace hf := hf.below hbn; replace hbl := Nat.lt_of_lt_of_le hbl hbn.size; clear hbn))
            all_goals
              have HP2 : Hid (PkgsIn wn (some ⟨b, off, none⟩) ps.length ps) := hin
              have HB2 : Hid (Below w.heap.size w wn) := hB
              go_wp2
              go_roundw
              case rel => exact ⟨j + 1 + 1, by go_num, by omega, HA2, HP2, HB2⟩
              case measure => simp [intOf]; omega
          · have HR : Hid (projB ps = false) := projB_no hj2 (fun h => by have := (HPJ.out.1 h).2 (by omega); rw [hle] at this; cases this)
            unfold leT at hle
            clear hy hpj
            go_wp2_with fail
            go_region_held3 (fun w' => w'.cell? ⟨b, off + (j + 1) * 3, none⟩ = some (.string ⟨x.toArray⟩) ∧ w'.cell? ⟨b, off + (j + 1) * 3 + 1, none⟩ = some (.slice ia il ic) ∧ w'.cell? ⟨b, off + (j + 1) * 3 + 2, none⟩ = some (.slice fa fl fc) ∧ w'.cell? ⟨b, off + j * 3, none⟩ = some (.string ⟨y.toArray⟩)) (go_keep) (first | (go_at_call 13; refine (specPackageOk x ia il ic fa fl fc ims fs _ hi hf (by omega) (by omega) HSH.out.1 HSH.out.2.1 HSH.out.2.2).mono ?_; rintro e wn ⟨rfl, hbn⟩; rw [HPB.out]; replace hB := hB.trans (hbn.mono hB.size); replace hin := hin.below hbn; replace c0 := (hbn.cell (p := ⟨b, off + (j + 1) * 3, none⟩) hbl).trans c0; replace c1 := (hbn.cell (p := ⟨b, off + (j + 1) * 3 + 1, none⟩) hbl).trans c1; replace c2 := (hbn.cell (p := ⟨b, off + (j + 1) * 3 + 2, none⟩) hbl).trans c2; replace d0 := (hbn.cell (p := ⟨b, off + j * 3, none⟩) hbl).trans d0; replace hi := hi.below hbn; replace hf := hf.below hbn; replace hbl := Nat.lt_of_lt_of_le hbl hbn.size; clear hbn))
            all_goals
              go_wp2
              go_ret
              exact ⟨by rw [HR.out]; rfl, hB⟩
    · have HR : Hid (projB ps = inB (ps.length : Int) 1 8) := projB_all (fun i hi => HA.out i (by omega))
      have hC : Hid (_) := specIn (ps.length : Int) 1 8 wr
      generalize inB (ps.length : Int) 1 8 = ib at hC HR
      go_wp2_with (go_at_call 34; refine Calls.mono hC.out ?_; rintro e w1 ⟨rfl, rfl⟩)
      go_ret
      exact ⟨by rw [HR.out]; rfl, HB.out⟩

end Go.Proofs.YtdjglpcllcjcfaaGreatDoor
