/-
  Parts of one proof, one behind the other: Math10R, LessS.
-/
import Derived.Test.YtmloocbbcnhooaaGreatDoorP38
import Derived.Test.YtmloocbbcnhooaaGreatDoorP5
import Derived.Test.YtmloocbbcnhooaaGreatDoorP35
import Derived.Test.YtmloocbbcnhooaaGreatDoorP11
import Derived.Test.YtmloocbbcnhooaaGreatDoorP9
import Derived.Test.YtmloocbbcnhooaaGreatDoorP12
import Derived.Maps.AppendAt

/-! Plain facts of chapter 10: what FnOnlyReached tests. Packages that are not reached may have other trees. -/
namespace Go.Proofs.YtmloocbbcnhooaaGreatDoor
open Go.RowKit

def five10 : List Nd := [(1, 5, [], [])]
def bare10 (f : Fn) : Fn := (f.1, f.2.1, five10)
def lessP (r : List (List UInt8)) (p : Pk) : Pk := if p.1 ∈ r then p else (p.1, p.2.1, p.2.2.map bare10)
def lessV (r : List (List UInt8)) (ps : List Pk) : List Pk := ps.map (lessP r)

theorem lessP_1 (r : List (List UInt8)) (p : Pk) : (lessP r p).1 = p.1 := by unfold lessP; split <;> rfl
theorem lessP_2 (r : List (List UInt8)) (p : Pk) : (lessP r p).2.1 = p.2.1 := by unfold lessP; split <;> rfl
theorem lessP_in {r : List (List UInt8)} {p : Pk} (h : p.1 ∈ r) : lessP r p = p := if_pos h
theorem lessP_0 (r : List (List UInt8)) : lessP r pk0 = pk0 := by unfold lessP; split <;> rfl
theorem lessP_len (r : List (List UInt8)) (p : Pk) : (lessP r p).2.2.length = p.2.2.length := by unfold lessP; split <;> simp
theorem bare_getD (fs : List Fn) (k : Nat) : (fs.map bare10).getD k fn0 = if k < fs.length then bare10 (fs.getD k fn0) else fn0 := by
  by_cases h : k < fs.length
  · rw [if_pos h]; simp [List.getD, h]
  · rw [if_neg h]; simp [List.getD, List.getElem?_eq_none (Nat.le_of_not_lt h)]
theorem lessP_fn (r : List (List UInt8)) (p : Pk) (k : Nat) : ((lessP r p).2.2.getD k fn0).1 = (p.2.2.getD k fn0).1 ∧ ((lessP r p).2.2.getD k fn0).2.1 = (p.2.2.getD k fn0).2.1 := by
  unfold lessP
  split
  · exact ⟨rfl, rfl⟩
  · show ((p.2.2.map bare10).getD k fn0).1 = _ ∧ ((p.2.2.map bare10).getD k fn0).2.1 = _
    rw [bare_getD]
    split
    · exact ⟨rfl, rfl⟩
    · rename_i h
      have e : p.2.2.getD k fn0 = fn0 := by simp [List.getD, List.getElem?_eq_none (Nat.le_of_not_lt h)]
      rw [e]; exact ⟨rfl, rfl⟩
theorem bare_at (s : List UInt8) : ∀ (fs : List Fn) (k : Nat), atGo s (fs.map bare10) k = atGo s fs k
  | [], _ => rfl
  | f :: r, k => by
    show (if f.1 = s then (k : Int) else atGo s (r.map bare10) (k + 1)) = if f.1 = s then (k : Int) else atGo s r (k + 1)
    rw [bare_at s r (k + 1)]
theorem lessP_at (r : List (List UInt8)) (p : Pk) (s : List UInt8) : atV (lessP r p).2.2 s = atV p.2.2 s := by
  unfold lessP atV
  split
  · rfl
  · exact bare_at s _ _

theorem less_names (r : List (List UInt8)) (ps : List Pk) : names8 (lessV r ps) = names8 ps := by
  unfold names8 lessV
  rw [List.map_map]
  exact List.map_congr_left fun p _ => lessP_1 r p
theorem less_at8Go (r : List (List UInt8)) (s : List UInt8) : ∀ (ps : List Pk) (k : Nat), at8Go s (lessV r ps) k = at8Go s ps k
  | [], _ => rfl
  | p :: q, k => by
    show (if (lessP r p).1 = s then (k : Int) else at8Go s (lessV r q) (k + 1)) = if p.1 = s then (k : Int) else at8Go s q (k + 1)
    rw [lessP_1, less_at8Go r s q (k + 1)]
theorem less_at8 (r : List (List UInt8)) (ps : List Pk) (s : List UInt8) : at8 (lessV r ps) s = at8 ps s := less_at8Go r s ps 0
theorem less_getD (r : List (List UInt8)) (ps : List Pk) (i : Nat) : (lessV r ps).getD i pk0 = lessP r (ps.getD i pk0) := by
  unfold lessV
  by_cases h : i < ps.length
  · simp [List.getD, h]
  · simp [List.getD, List.getElem?_eq_none (Nat.le_of_not_lt h), lessP_0]
theorem less_pkOf (r : List (List UInt8)) (ps : List Pk) (s : List UInt8) : pkOf (lessV r ps) s = lessP r (pkOf ps s) := by
  unfold pkOf
  rw [less_at8, less_getD]
theorem less_len (r : List (List UInt8)) (ps : List Pk) : (lessV r ps).length = ps.length := by simp [lessV]

/-! The order is the same. -/
theorem less_free (r : List (List UInt8)) (ps : List Pk) (out : List (List UInt8)) (p : Pk) : decide (free8 (lessV r ps) out (lessP r p)) = decide (free8 ps out p) := by
  apply decide_eq_decide.2
  unfold free8
  rw [lessP_1, lessP_2, less_names]
theorem less_find (r : List (List UInt8)) (ps : List Pk) (out : List (List UInt8)) : ∀ qs : List Pk, (qs.map (lessP r)).find? (fun p => decide (free8 (lessV r ps) out p)) = (qs.find? (fun p => decide (free8 ps out p))).map (lessP r)
  | [] => rfl
  | q :: t => by
    rw [List.map_cons, List.find?_cons, List.find?_cons, less_free, less_find r ps out t]
    cases decide (free8 ps out q) <;> rfl
theorem less_next (r : List (List UInt8)) (ps : List Pk) (out : List (List UInt8)) : next8 (lessV r ps) out = (next8 ps out).map (lessP r) := less_find r ps out ps
theorem less_orderGo (r : List (List UInt8)) (ps : List Pk) : ∀ (n : Nat) (out : List (List UInt8)), orderGo (lessV r ps) n out = orderGo ps n out
  | 0, _ => rfl
  | n + 1, out => by
    rcases h : next8 ps out with _ | p
    · rw [orderGo_none (n + 1) h, orderGo_none (n + 1) (by rw [less_next, h]; rfl)]
    · rw [orderGo_some n h, orderGo_some n (p := lessP r p) (by rw [less_next, h]; rfl), lessP_1]
      exact less_orderGo r ps n _
theorem less_order (r : List (List UInt8)) (ps : List Pk) : order8 (lessV r ps) = order8 ps := by
  unfold order8
  rw [less_len]
  exact less_orderGo r ps _ _
theorem less_ord9 (r : List (List UInt8)) (ps : List Pk) : ord9 (lessV r ps) = ord9 ps := by
  unfold ord9
  rw [less_order, less_names]

/-! It is a project still. -/
theorem bare_func {f : Fn} (h : funcB f = true) : funcB (bare10 f) = true := by
  unfold funcB at h ⊢
  rw [Bool.and_eq_true, Bool.and_eq_true] at h ⊢
  exact ⟨h.1, h.2.1, (by decide : treeB five10 = true)⟩
theorem less_pkg {r : List (List UInt8)} {p : Pk} (h : pkgB p = true) : pkgB (lessP r p) = true := by
  unfold lessP
  split
  · exact h
  · have hf := (pkgB_parts h).2.2.2.2
    unfold pkgB at h ⊢
    rw [Bool.and_eq_true, decide_eq_true_eq] at h ⊢
    refine ⟨by simpa using h.1, fun i hi => ?_⟩
    have hi' : i < p.2.2.length := by simpa using hi
    have h1 := h.2 i hi'
    unfold funcsOk at h1 ⊢
    show _ ∧ _
    simp only [bare_getD, if_pos hi']
    exact ⟨bare_func h1.1, (bare_at _ _ _).trans h1.2⟩
theorem less_proj {r : List (List UInt8)} {ps : List Pk} (h : projB ps = true) : projB (lessV r ps) = true := by
  unfold projB at h ⊢
  rw [Bool.and_eq_true, decide_eq_true_eq] at h ⊢
  rw [less_len]
  refine ⟨fun i hi => ?_, h.2⟩
  have h1 := h.1 i hi
  unfold pj8 at h1 ⊢
  rw [less_getD, less_getD, lessP_1, lessP_1]
  exact ⟨less_pkg h1.1, h1.2⟩

/-! Nothing is wrong in it. -/
theorem less_call (r : List (List UInt8)) (ps : List Pk) (p : Pk) (i : Int) (n : Nd) : call9 (lessV r ps) (lessP r p) i n = call9 ps p i n := by
  have e1 : farB (lessV r ps) (lessP r p) n.2.2.1 = farB ps p n.2.2.1 := by unfold farB; rw [lessP_1, lessP_2, less_at8]
  have e2 : ofPk (lessV r ps) (lessP r p) n.2.2.1 = lessP r (ofPk ps p n.2.2.1) := by
    unfold ofPk
    rw [lessP_1]
    split
    · rfl
    · rw [less_at8, less_getD]
  unfold call9
  rw [e1, e2, lessP_at, (lessP_fn r _ _).2, lessP_1]
theorem less_fnGo (r : List (List UInt8)) (ps : List Pk) (p : Pk) (i : Nat) (f : Fn) : ∀ (t : List Nd) (c : Int), fnGo (lessV r ps) (lessP r p) i f t c = fnGo ps p i f t c
  | [], _ => rfl
  | n :: t, c => by
    have e : (bad9 (lessV r ps) (lessP r p) i n) = (bad9 ps p i n) := by unfold bad9; rw [less_call]
    rw [fnGo, fnGo, less_fnGo r ps p i f t]
    simp only [e]
theorem less_func {r : List (List UInt8)} {ps : List Pk} {p : Pk} {k : Nat} (hk : k < p.2.2.length) (h : func9 ps p k = 0) : func9 (lessV r ps) (lessP r p) k = 0 := by
  unfold func9 at h ⊢
  rw [less_fnGo]
  unfold lessP
  split
  · exact h
  · show fnGo ps p k ((p.2.2.map bare10).getD k fn0) ((p.2.2.map bare10).getD k fn0).2.2 0 = 0
    rw [bare_getD, if_pos hk]
    show fnGo ps p k (bare10 (p.2.2.getD k fn0)) [(1, 5, [], [])] 0 = 0
    rw [fnGo, fnGo]
    rw [if_neg (fun e => by have := e.1; simp at this), if_neg (fun e => by have := e.1; simp at this)]
theorem fnsGo_all {ps : List Pk} {p : Pk} : ∀ (fs : List Fn) (k : Nat), (∀ i, i < fs.length → func9 ps p (k + i) = 0) → fnsGo ps p fs k = none
  | [], _, _ => rfl
  | f :: t, k, h => by
    rw [fnsGo, if_neg (fun e => e (by simpa using h 0 (by simp)))]
    exact fnsGo_all t (k + 1) fun i hi => by rw [show k + 1 + i = k + (i + 1) by omega]; exact h (i + 1) (by simpa using hi)
theorem less_pk9 {r : List (List UInt8)} {ps : List Pk} {done i : Nat} {p : Pk} (h : pk9 ps done i p = none) : pk9 (lessV r ps) done i (lessP r p) = none := by
  unfold pk9 at h ⊢
  have e : miss9 (lessV r ps) (lessP r p) = miss9 ps p := by unfold miss9; simp only [lessP_2, less_at8]
  simp only [e]
  split at h
  · simp at h
  · rename_i h1
    split at h
    · simp at h
    · rename_i h2
      rw [if_neg h1, if_neg h2]
      refine fnsGo_all _ 0 fun k hk => ?_
      rw [lessP_len] at hk
      have := fnsGo_none _ _ h k hk
      rw [Nat.zero_add] at this ⊢
      exact less_func hk this
theorem less_fltGo {r : List (List UInt8)} {ps : List Pk} {done : Nat} : ∀ (l : List (List UInt8)) (i : Nat), fltGo ps done l i = none → fltGo (lessV r ps) done l i = none
  | [], _, _ => rfl
  | x :: t, i, h => by
    rw [fltGo] at h ⊢
    rcases hp : pk9 ps done i (pkOf ps x) with _ | g
    · rw [hp] at h
      rw [less_pkOf, less_pk9 hp]
      exact less_fltGo t (i + 1) h
    · rw [hp] at h; simp at h
theorem less_fault {r : List (List UInt8)} {ps : List Pk} (h : faultV ps = (0, [], [])) : faultV (lessV r ps) = (0, [], []) := by
  obtain ⟨_, hp, _, _, _, hm⟩ := faultV_zero (ps := ps) (by rw [h])
  unfold faultV at h ⊢
  rw [hp, if_pos rfl] at h
  rw [less_proj hp, if_pos rfl]
  unfold fault9 at h ⊢
  rw [less_order, less_ord9]
  rcases hf : fltGo ps (order8 ps).length (ord9 ps) 0 with _ | f
  · rw [less_fltGo _ _ hf]
    show main9 (lessV r ps) = (0, [], [])
    unfold main9
    rw [less_at8, less_pkOf, lessP_at, (lessP_fn r _ _).2, if_pos hm]
  · rw [hf] at h
    have := (fltGo_val (names_ne hp) _ _ (fun x hx => (ord9_mem hp).1 hx) f hf).lo
    simp only at h
    rw [h] at this
    simp at this

/-! What is reached calls what is reached. -/
def InR (r : List (List UInt8)) (t : List Nd) : Prop := ∀ n ∈ t, n.1 = 8 → n.2.2.1 ∈ r
theorem inR_of {ps : List Pk} {r : List (List UInt8)} (hf : faultV ps = (0, [], [])) (hs : Shut8 ps r) (hr : ∀ x ∈ r, x ∈ names8 ps) {q : List UInt8} (hq : q ∈ r) (k : Nat) : InR r ((pkOf ps q).2.2.getD k fn0).2.2 := fun n hn h8 => by
  obtain ⟨_, hp, _, _, hfn, _⟩ := faultV_zero (ps := ps) (by rw [hf])
  obtain ⟨hm, hnm⟩ := pkOf_mem (hr q hq)
  by_cases hk : k < (pkOf ps q).2.2.length
  · have hb := (func9_zero (hfn _ hm k hk) n hn).2
    have hc : call9 ps (pkOf ps q) (k : Int) n = 0 := Decidable.byContradiction fun e => hb ⟨h8, e⟩
    have hfar : ¬ farB ps (pkOf ps q) n.2.2.1 = true := fun e => by unfold call9 at hc; rw [if_pos e] at hc; cases hc
    unfold farB at hfar
    rw [decide_eq_true_eq] at hfar
    by_cases he : n.2.2.1 = (pkOf ps q).1
    · rw [he, hnm]; exact hq
    · have h1 : n.2.2.1 ∈ (pkOf ps q).2.1 := Decidable.byContradiction fun e => hfar ⟨he, Or.inl e⟩
      have h2 : 0 ≤ at8 ps n.2.2.1 := by
        rcases Int.lt_or_le (at8 ps n.2.2.1) 0 with h | h
        · exact absurd ⟨he, Or.inr h⟩ hfar
        · exact h
      exact hs _ hm (by rw [hnm]; exact hq) _ h1 ((at8_mem ps _).1 h2)
  · have e : (pkOf ps q).2.2.getD k fn0 = fn0 := by rw [List.getD, List.getElem?_eq_none (Nat.le_of_not_lt hk)]; rfl
    rw [e] at hn
    cases hn
theorem less_tree {ps : List Pk} {r : List (List UInt8)} (hr : ∀ x ∈ r, x ∈ names8 ps) {q : List UInt8} (hq : q ∈ r) : pkOf (lessV r ps) q = pkOf ps q := by
  rw [less_pkOf, lessP_in]
  rw [(pkOf_mem (hr q hq)).2]
  exact hq
theorem args10_congr {R S : Int → Cmp10} (h : ∀ p, R p = S p) {K L : List Int → Cmp10} (hk : ∀ l, K l = L l) (pa acc : List Int) : args10 R pa acc K = args10 S pa acc L := by
  rw [funext h, funext hk]
theorem less_val {ps : List Pk} {r : List (List UInt8)} (hf : faultV ps = (0, [], [])) (hs : Shut8 ps r) (hr : ∀ x ∈ r, x ∈ names8 ps) : ∀ (d : Nat) (t : List Nd) (a : Int) (xs : List Int), InR r t → val10 (lessV r ps) d t a xs = val10 ps d t a xs
  | 0, _, _, _, _ => rfl
  | d + 1, t, a, xs, ht => by
    have ih := less_val hf hs hr d
    show tick10 (node10 (lessV r ps) (val10 (lessV r ps) d) t a xs (t.getD a.toNat nd0)) = tick10 (node10 ps (val10 ps d) t a xs (t.getD a.toNat nd0))
    congr 1
    have hn : t.getD a.toNat nd0 ∈ t ∨ t.getD a.toNat nd0 = nd0 := by
      by_cases hi : a.toNat < t.length
      · left; have e : t.getD a.toNat nd0 = t[a.toNat] := by simp [List.getD, hi]
        rw [e]; exact List.getElem_mem hi
      · right; simp [List.getD, List.getElem?_eq_none (Nat.le_of_not_lt hi)]
    generalize t.getD a.toNat nd0 = n at hn ⊢
    have e1 : ∀ b ys, val10 (lessV r ps) d t b ys = val10 ps d t b ys := fun b ys => ih t b ys ht
    unfold node10
    by_cases h1 : n.1 = 1
    · rw [if_pos h1, if_pos h1]
    rw [if_neg h1, if_neg h1]
    by_cases h2 : n.1 = 2
    · rw [if_pos h2, if_pos h2]
    rw [if_neg h2, if_neg h2]
    by_cases h7 : n.1 = 7
    · rw [if_pos h7, if_pos h7]
      simp only [e1]
    rw [if_neg h7, if_neg h7]
    by_cases h8 : n.1 = 8
    · rw [if_pos h8, if_pos h8]
      have hq : n.2.2.1 ∈ r := by
        rcases hn with hn | hn
        · exact ht n hn h8
        · rw [hn] at h8; cases h8
      have et : tree10 (lessV r ps) n = tree10 ps n := by unfold tree10; rw [less_tree hr hq]
      rw [et]
      exact args10_congr (fun p => e1 p xs) (fun l => ih _ 0 l (inR_of hf hs hr hq _)) _ _
    · rw [if_neg h8, if_neg h8]
      simp only [e1]

/-- What FnOnlyReached tests. -/
theorem only_law {ps : List Pk} {nm fn : List UInt8} {xs : List Int} {fuel : Int} (h : (meantV ps nm fn xs fuel).2 ≠ 3) : hereB ps nm = true ∧ meantV (lessV (reach8 ps nm) ps) nm fn xs fuel = meantV ps nm fn xs fuel := by
  by_cases hok : Ok10 ps nm fn xs fuel
  · have hp := (faultV_zero (ps := ps) (by rw [hok.flt])).2.1
    have hm : nm ∈ names8 ps := (at8_mem ps nm).1 hok.at8
    obtain ⟨hre, hsh⟩ := reach8_end hm
    have ep := less_tree hre.sub hre.self
    have ef : fnOf10 (lessV (reach8 ps nm) ps) nm fn = fnOf10 ps nm fn := by unfold fnOf10; rw [ep]
    have hok2 : Ok10 (lessV (reach8 ps nm) ps) nm fn xs fuel := ⟨less_fault hok.flt, by rw [less_at8]; exact hok.at8, hok.fuel0, hok.fuel1, by rw [ep]; exact hok.at7, by rw [ef]; exact hok.len, hok.word⟩
    have er : run10 (lessV (reach8 ps nm) ps) nm fn xs fuel.toNat = run10 ps nm fn xs fuel.toNat := by
      have hi : InR (reach8 ps nm) (fnOf10 ps nm fn).2.2 := inR_of hok.flt hsh hre.sub hre.self _
      unfold run10
      rw [ef, less_val hok.flt hsh hre.sub 20001 _ 0 xs hi]
    refine ⟨by unfold hereB; rw [hp, decide_eq_true hok.at8]; rfl, ?_⟩
    rw [(meant_yes hok2).1, (meant_yes hok).1, er]
  · rw [(meant_no hok).1] at h
    exact absurd rfl h

end Go.Proofs.YtmloocbbcnhooaaGreatDoor

/-! What holds while nothing but a block is written; packages put one behind the other. -/
namespace Go.Proofs.YtmloocbbcnhooaaGreatDoor
open Go.RowKit

/-- What holds in every world in which nothing but one block was written. -/
def St (w : World) (T : Option Nat) (P : World → Prop) : Prop := ∀ w', Wrote w w' (fun k => T = some k) → P w'
theorem St.now {w : World} {T : Option Nat} {P : World → Prop} (h : St w T P) : P w := h w (Wrote.refl _ _)
theorem St.step {w w1 : World} {T T1 : Option Nat} {P : World → Prop} (h : St w T P) (hw : Wrote w w1 (fun k => T = some k)) (hT : ∀ k, T1 = some k → T = some k ∨ w.heap.size ≤ k) : St w1 T1 P := fun w' h' =>
  h w' ⟨h'.os.trans hw.os, h'.tape.trans hw.tape, h'.output.trans hw.output, Nat.le_trans hw.size h'.size, fun k hk hn => (h'.block k (Nat.lt_of_lt_of_le hk hw.size) (fun e => by rcases hT k e with e | e; exact hn e; omega)).trans (hw.block k hk hn)⟩

/-- A package as it lies in a row. -/
def PkAt (W : World) (y : PV) (p : Pk) : Prop := y.nm = p.1 ∧ PkOk W p.1 y.ia y.ims.length y.ic y.fa y.xs.length y.fc p.2.1 p.2.2

theorem push_pv {X : World} {B n : Nat} {v : Value} {ys : List PV} (y : PV) (hv : X.ownsRow B 36 3 v n (pvsV ys)) (hb : B ≤ X.heap.size) (hn : n ≤ 1048576) :
    ∃ v' Y, (Builtin.append_ #[24, 24] 24 #[v, .slice (some ⟨X.heap.size, 0, none⟩) 1 1]).run Tryz.prog (X.alloc (.cells #[.string ⟨y.nm.toArray⟩, pvI y, pvF y] 36)) = .ok v' Y ∧ Y.ownsRow B 36 3 v' (n + 1) (pvsV (ys ++ [y])) ∧ Wrote X Y (fun k => v.ownBlock = some k) ∧ (∀ k, v'.ownBlock = some k → v.ownBlock = some k ∨ X.heap.size ≤ k) := by
  obtain ⟨i0, hi, hz0, hz1, hz2⟩ := info_parts infoPackage
  obtain ⟨hl, h1, ⟨e, _⟩ | ⟨ad, c, e, hc⟩⟩ := new_pk X y 1
  · cases e
  · injection e with e1 _ e3
    injection e1 with e1
    subst e1 e3
    obtain ⟨v', Y, hrun, hown, hg, _, hat⟩ := run_append_own_at (P := Tryz.prog) (X.alloc (.cells #[.string ⟨y.nm.toArray⟩, pvI y, pvF y] 36)) B 24 24 36 i0 _ 3 64 Tryz.underlying24 hi hz0 hz1 hz2 rfl (by decide) _ _ _ (hv.alloc _) ⟨X.heap.size, 0, none⟩ 1 1 (pvsV [y]) hl hc h1 (by unfold maxLen; omega) (by omega) (by simp; omega)
    refine ⟨v', Y, hrun, by rw [pvsV_append]; exact hown, Wrote.of_grown ((World.grownBy_alloc X _ _).trans hg) (fun k e => e), fun k e => ?_⟩
    rcases hat with h | h
    · exact Or.inl (h.symm.trans e)
    · right
      rw [h] at e
      injection e with e
      simp at e
      omega

/-- The functions of a package as they lie in a row. -/
theorem funcs_src {w : World} {fa : Option Addr} {fl fc : Nat} {fs : List Fn} (h : FuncsIn w fa fl fs) (hc : fa = none → fc = 0) : ∃ xs : List FV, xs.map (·.1) = fs ∧ Src w (.slice fa fl fc) fl 3 (fnsV xs) := by
  have key : ∀ k, k ≤ fl → ∃ xs : List FV, xs.map (·.1) = fs.take k ∧ ∀ j, j < k → ∃ b off, fa = some ⟨b, off, none⟩ ∧ w.cell? ⟨b, off + j * 3, none⟩ = some (.string ⟨(xs.getD j fv0).1.1.toArray⟩) ∧ w.cell? ⟨b, off + j * 3 + 1, none⟩ = some (.int .i64 (xs.getD j fv0).1.2.1) ∧ w.cell? ⟨b, off + j * 3 + 2, none⟩ = some (fvT (xs.getD j fv0)) := by
    intro k
    induction k with
    | zero => exact fun _ => ⟨[], by simp, fun j hj => absurd hj (Nat.not_lt_zero _)⟩
    | succ k ih =>
      intro hk
      obtain ⟨xs, hx, hcs⟩ := ih (by omega)
      obtain ⟨b, off, e, _, c0, c1, ta, tl, tc, c2, _, hn⟩ := h.2 k (by omega)
      have hkl : k < fs.length := by rw [h.1]; omega
      have hxl : xs.length = k := by rw [← List.length_map (f := (·.1)), hx, List.length_take]; omega
      have hg : fs.getD k fn0 = fs[k] := by simp [List.getD, hkl]
      refine ⟨xs ++ [(fs.getD k fn0, ta, tc)], ?_, fun j hj => ?_⟩
      · rw [List.map_append, hx, hg, List.take_succ_eq_append_getElem hkl]
        rfl
      · rcases Nat.lt_or_ge j k with hj2 | hj2
        · obtain ⟨b', off', e', d0, d1, d2⟩ := hcs j hj2
          have e3 : (xs ++ [(fs.getD k fn0, ta, tc)]).getD j fv0 = xs.getD j fv0 := by
            simp only [List.getD]
            rw [List.getElem?_append_left (by omega)]
          rw [e3]
          exact ⟨b', off', e', d0, d1, d2⟩
        · obtain rfl : j = k := by omega
          have e3 : (xs ++ [(fs.getD j fn0, ta, tc)]).getD j fv0 = (fs.getD j fn0, ta, tc) := by
            simp only [List.getD]
            rw [List.getElem?_append_right (by omega), hxl]
            simp
          rw [e3]
          refine ⟨b, off, e, c0, c1, ?_⟩
          rw [c2]
          unfold fvT
          simp only
          rw [hn.1]
  obtain ⟨xs, hx, hcs⟩ := key fl (Nat.le_refl _)
  rw [List.take_of_length_le (by rw [h.1]; exact Nat.le_refl _)] at hx
  have hxl : xs.length = fl := by rw [← List.length_map (f := (·.1)), hx, h.1]
  refine ⟨xs, hx, by rw [fnsV_len, hxl], fnsV_one xs, ?_⟩
  rcases fa with _ | ad
  · have h0 : fl = 0 := by
      rcases Nat.eq_zero_or_pos fl with h' | h'
      · exact h'
      · obtain ⟨b, off, e, _⟩ := h.2 0 h'
        cases e
    exact Or.inl ⟨by rw [h0, hc rfl], h0⟩
  · refine Or.inr ⟨ad, fc, rfl, fun j u hu => ?_⟩
    have hj : j < (fnsV xs).length := by
      rcases Nat.lt_or_ge j (fnsV xs).length with h' | h'
      · exact h'
      · rw [List.getElem?_eq_none h'] at hu; cases hu
    rw [fnsV_len, hxl] at hj
    obtain ⟨b, off, e, c0, c1, c2⟩ := hcs (j / 3) (by omega)
    injection e with e
    subst e
    obtain ⟨v0, v1, v2⟩ := fnsV_at xs (j / 3) (by rw [hxl]; omega)
    rw [add_plain]
    rcases (show j % 3 = 0 ∨ j % 3 = 1 ∨ j % 3 = 2 by omega) with h' | h' | h'
    · rw [show j / 3 * 3 = j by omega] at v0 c0
      rw [hu] at v0
      rw [c0, v0]
    · rw [show j / 3 * 3 + 1 = j by omega] at v1
      rw [hu] at v1
      rw [show off + j = off + j / 3 * 3 + 1 by omega, c1, v1]
    · rw [show j / 3 * 3 + 2 = j by omega] at v2
      rw [hu] at v2
      rw [show off + j = off + j / 3 * 3 + 2 by omega, c2, v2]

/-- A tree is put in place of another one. -/
theorem fnsV_put (zs xs : List FV) (x : FV) (ta : Option Addr) (tc : Nat) (t : List Nd) : (fnsV (zs ++ x :: xs)).set (zs.length * 3 + 2) (.slice ta t.length tc) = fnsV ((zs ++ [((x.1.1, x.1.2.1, t), ta, tc)]) ++ xs) := by
  rw [List.append_assoc, fnsV_append, fnsV_append]
  have hl := fnsV_len zs
  rw [List.set_append_right _ _ (by omega), hl, show zs.length * 3 + 2 - zs.length * 3 = 2 by omega]
  rfl
theorem bare_take {fs : List Fn} {k : Nat} (hk : k < fs.length) : (fs.take (k + 1)).map bare10 = (fs.take k).map bare10 ++ [((fs.getD k fn0).1, (fs.getD k fn0).2.1, five10)] := by
  have hg : fs.getD k fn0 = fs[k] := by simp [List.getD, hk]
  rw [List.take_succ_eq_append_getElem hk, List.map_append, hg]
  rfl
theorem shortT_five : ShortT five10 := fun j => by
  unfold five10
  rcases j with _ | j
  · simp
  · simp [nd0]
theorem intT_five : IntT five10 := fun j => by
  unfold five10 IntN
  rcases j with _ | j
  · simp
  · simp [nd0]
theorem shortF_bare {fs : List Fn} (h : ShortF fs) : ShortF (fs.map bare10) := fun j => by
  rw [bare_getD]
  split
  · exact ⟨(h j).1, (by unfold bare10 five10; simp), shortT_five⟩
  · have h1 := h fs.length
    have e : fs.getD fs.length fn0 = fn0 := by simp [List.getD]
    rw [e] at h1
    exact h1
theorem intF_bare {fs : List Fn} (h : IntF fs) : IntF (fs.map bare10) := fun j => by
  rw [bare_getD]
  split
  · exact ⟨(h j).1, intT_five⟩
  · have h1 := h fs.length
    have e : fs.getD fs.length fn0 = fn0 := by simp [List.getD]
    rw [e] at h1
    exact h1

/-- All packages of a row, as the landed code is told of them. -/
theorem pkgs_of {w : World} {B g n cap : Nat} {ys : List PV} {qs : List Pk} (hrow : w.ownsRow B 36 3 (.slice (some ⟨g, 0, none⟩) n cap) n (pvsV ys)) (hy : ys.length = n) (hq : qs.length = n) (hn : n ≤ 1048576) (hat : ∀ j, j < n → PkAt w (ys.getD j pv0) (qs.getD j pk0)) : PkgsOk w (some ⟨g, 0, none⟩) n cap qs := by
  have hcap : n ≤ cap := by
    rcases hrow.2 with ⟨e, _⟩ | ⟨g', cap', cur, e, _, _, hc, _⟩
    · cases e
    · injection e with _ _ e3; rw [e3]; exact hc
  refine ⟨hq, (fun e => (by cases e)), hcap, hn, fun j hj => ?_⟩
  obtain ⟨v0, v1, v2⟩ := pvsV_at ys j (by omega)
  have hc := fun k (hk : k < n * 3) => World.ownsRow.cellAt hrow k hk
  obtain ⟨hnm, hok⟩ := hat j hj
  refine ⟨g, 0, rfl, (hrow.lt g rfl).2, ?_, (ys.getD j pv0).ia, (ys.getD j pv0).ims.length, (ys.getD j pv0).ic, (ys.getD j pv0).fa, (ys.getD j pv0).xs.length, (ys.getD j pv0).fc, ?_, ?_, hok⟩
  · rw [Nat.zero_add, hc _ (by omega), v0, hnm]
  · rw [Nat.zero_add, hc _ (by omega), v1]; rfl
  · rw [Nat.zero_add, hc _ (by omega), v2]; rfl

end Go.Proofs.YtmloocbbcnhooaaGreatDoor
