/-
  Parts of one proof, one behind the other: Math11W, Math11P, Math11Q, FoldS3, FoldE, Math6I, WordI, Jumps.
-/
import Derived.Test.YtkjojhkpoooimaaGreatP22
import Derived.Test.YtkjojhkpoooimaaGreatP13
import Derived.Test.YtkjojhkpoooimaaGreatP2
import Derived.Test.YtkjojhkpoooimaaGreatP16
import Derived.Test.YtkjojhkpoooimaaGreatP1
import Derived.Lib.ItoaNum
import Derived.Lib.Join
import Derived.Lib.Bytealg
import Derived.Scope
import Derived.WalkMore

/-! Plain facts of chapter 11: what is folded means the same, with no more fuel. -/
namespace Go.Proofs.YtkjojhkpoooimaaGreat
open Go.RowKit

/-- What stands for one part at a later fuel. -/
theorem skip_at {d : Nat} {ps' : List Pk} {C : Cmp10} {r : List Nd} {xs : List Int} (h : Leq d C (val10 ps' d r 0 xs)) {l g : Nat} (hl : l < d) (hg : l ≤ g) (hc : (C (l, 0)).2.2 ≠ 2) :
    (val10 ps' (d + 1) r 0 xs (g, 0)).1 = (C (l, 0)).1 ∧ (val10 ps' (d + 1) r 0 xs (g, 0)).2.2 = (C (l, 0)).2.2 ∧ (C (l, 0)).2.1 + (g - l) ≤ (val10 ps' (d + 1) r 0 xs (g, 0)).2.1 := by
  have h2 : Leq d C (val10 ps' (d + 1) r 0 xs) := fun f hf hc => by
    rw [← val_deep ps' d (d + 1) (by omega) r 0 xs f hf]
    exact h f hf hc
  exact h2.more (Sk10.val ps' (d + 1) r 0 xs) hl hg hc
/-- A part that has become a number gives it. -/
theorem num_at {d : Nat} {ps' : List Pk} {C : Cmp10} {v : Int} {p q : List UInt8} {xs : List Int} (h : Leq d C (val10 ps' d [((1, v, p, q) : Nd)] 0 xs)) (hC : Sk10 C) {l : Nat} (hl : l < d) (hc : (C (l, 0)).2.2 ≠ 2) :
    ∃ l', C (l, 0) = (v, (l', 0)) ∧ l' ≤ l := by
  obtain ⟨h1, h2, _⟩ := h l hl hc
  have h3 := hC.less (l, 0)
  rcases d with _ | d
  · omega
  rcases l with _ | l
  · have e : val10 ps' (d + 1) [((1, v, p, q) : Nd)] 0 xs (0, 0) = (0, (0, 2)) := rfl
    rw [e] at h2
    exact absurd h2.symm hc
  · rw [val_num] at h1 h2
    exact ⟨(C (l + 1, 0)).2.1, Prod.ext h1.symm (Prod.ext rfl h2.symm), h3⟩
theorem tick_ne {C : Cmp10} {f : Nat} (h : (tick10 C (f, 0)).2.2 ≠ 2) : ∃ g, f = g + 1 ∧ tick10 C (f, 0) = C (g, 0) := by
  rcases f with _ | g
  · exact absurd rfl h
  · exact ⟨g, rfl, rfl⟩
theorem bind_code {C : Cmp10} {E : Int → Cmp10} (hE : ∀ v, Sk10 (E v)) {g : Nat} (h : (bind10 C E (g, 0)).2.2 ≠ 2) : (C (g, 0)).2.2 ≠ 2 := fun e => by
  unfold bind10 at h
  rw [(hE _).stop _ (by rw [e]; decide)] at h
  exact h e
/-- The second part is a number that changes nothing. -/
theorem unit_second {c0 c1 : Cmp10} {k u : Int} {g d : Nat} (h0 : Sk10 c0) (h1 : Sk10 c1) (hw : Word10 (c0 (g, 0)).1) (hu : ∀ x, Word10 x → doneV k x u = x ∧ doneB k x u = true) (hg : g < d) (hn : ∀ l, l < d → (c1 (l, 0)).2.2 ≠ 2 → ∃ l', c1 (l, 0) = (u, (l', 0)) ∧ l' ≤ l)
    (hc : (bind10 c0 (fun x => bind10 c1 (fun y => fin10 (doneV k x y) (doneB k x y))) (g, 0)).2.2 ≠ 2) :
    ∃ l', bind10 c0 (fun x => bind10 c1 (fun y => fin10 (doneV k x y) (doneB k x y))) (g, 0) = ((c0 (g, 0)).1, (l', (c0 (g, 0)).2.2)) ∧ l' ≤ (c0 (g, 0)).2.1 := by
  have hE : ∀ x, Sk10 (bind10 c1 (fun y => fin10 (doneV k x y) (doneB k x y))) := fun x => h1.bind (fun y => Sk10.fin _ _)
  have hl := h0.less (g, 0)
  have hz := h0.zero (g, 0)
  unfold bind10 at hc ⊢
  generalize c0 (g, 0) = r at hc hl hz hw ⊢
  obtain ⟨x, l, c⟩ := r
  simp only at hc hl hz hw ⊢
  by_cases h : c = 0
  · subst h
    have hc1 : (c1 (l, 0)).2.2 ≠ 2 := fun e => by
      rw [(Sk10.fin _ _).stop _ (by rw [e]; decide)] at hc
      exact hc e
    obtain ⟨l', e, hl'⟩ := hn l (by omega) hc1
    rw [e]
    obtain ⟨e1, e2⟩ := hu x hw
    simp only
    rw [e1, e2]
    exact ⟨l', rfl, hl'⟩
  · have := (hE x).stop (l, c) h
    unfold bind10 at this
    dsimp only at this
    rw [this, hz h]
    exact ⟨l, rfl, Nat.le_refl _⟩
/-- The first part is a number that changes nothing. -/
theorem unit_first {c0 c1 : Cmp10} {k u : Int} {g d : Nat} (h1 : Sk10 c1) (hw : ∀ l, Word10 (c1 (l, 0)).1) (hu : ∀ x, Word10 x → doneV k u x = x ∧ doneB k u x = true) (hg : g < d) (hn : ∀ l, l < d → (c0 (l, 0)).2.2 ≠ 2 → ∃ l', c0 (l, 0) = (u, (l', 0)) ∧ l' ≤ l)
    (hc : (bind10 c0 (fun x => bind10 c1 (fun y => fin10 (doneV k x y) (doneB k x y))) (g, 0)).2.2 ≠ 2) :
    ∃ l, bind10 c0 (fun x => bind10 c1 (fun y => fin10 (doneV k x y) (doneB k x y))) (g, 0) = c1 (l, 0) ∧ l ≤ g := by
  have hE : ∀ x, Sk10 (bind10 c1 (fun y => fin10 (doneV k x y) (doneB k x y))) := fun x => h1.bind (fun y => Sk10.fin _ _)
  obtain ⟨l, e, hl⟩ := hn g hg (bind_code hE hc)
  refine ⟨l, ?_, hl⟩
  unfold bind10
  rw [e]
  simp only
  have hz := h1.zero (l, 0)
  have hw' := hw l
  generalize c1 (l, 0) = r at hz hw' ⊢
  obtain ⟨y, l', c⟩ := r
  simp only at hz hw' ⊢
  obtain ⟨e1, e2⟩ := hu y hw'
  by_cases h : c = 0
  · subst h
    rw [e1, e2]
    rfl
  · rw [(Sk10.fin _ _).stop (l', c) h, hz h]
/-- Where only words are met. -/
theorem Leq.bindW {d : Nat} {C D : Cmp10} {E F : Int → Cmp10} (h : Leq d C D) (hC : Sk10 C) (hW : ∀ f, Word10 (C (f, 0)).1) (hk : ∀ v, Word10 v → Leq d (E v) (F v)) (hE : ∀ v, Sk10 (E v)) (hF : ∀ v, Sk10 (F v)) : Leq d (bind10 C E) (bind10 D F) := fun f hf hc => by
  unfold bind10 at hc ⊢
  have hl := hC.less (f, 0)
  have hh := h f hf
  have hw := hW f
  generalize C (f, 0) = r at hl hh hc hw ⊢
  generalize D (f, 0) = q at hh ⊢
  obtain ⟨v, l, c⟩ := r
  obtain ⟨v', l', c'⟩ := q
  simp only at hl hh hc hw ⊢
  by_cases h0 : c = 0
  · subst h0
    obtain ⟨rfl, rfl, h3⟩ := hh (by decide)
    obtain ⟨h4, h5, h6⟩ := (hk v' hw).more (hF v') (f := l) (g := l') (by omega) h3 hc
    exact ⟨h4, h5, by omega⟩
  · rw [(hE v).stop (l, c) h0] at hc ⊢
    obtain ⟨rfl, rfl, h3⟩ := hh hc
    rw [(hF v').stop (l', c') h0]
    exact ⟨rfl, rfl, h3⟩
theorem Leq.argsW {d : Nat} {K L : List Int → Cmp10} (hk : ∀ l, (∀ x ∈ l, Word10 x) → Leq d (K l) (L l)) (hK : ∀ l, Sk10 (K l)) (hL : ∀ l, Sk10 (L l)) : ∀ (cs ds : List Cmp10) (acc : List Int), (∀ x ∈ acc, Word10 x) → cs.length = ds.length → (∀ i, i < cs.length → Leq d (cs.getD i cz10) (ds.getD i cz10)) → (∀ C ∈ cs, Sk10 C ∧ ∀ f, Word10 (C (f, 0)).1) → (∀ C ∈ ds, Sk10 C) → Leq d (argsK cs acc K) (argsK ds acc L)
  | [], [], acc, ha, _, _, _, _ => hk acc ha
  | [], _ :: _, _, _, h, _, _, _ => by cases h
  | _ :: _, [], _, _, h, _, _, _ => by cases h
  | C :: cs, D :: ds, acc, ha, h, hl, h1, h2 => by
    have hC := h1 C List.mem_cons_self
    have sk : ∀ (es : List Cmp10), (∀ X ∈ es, Sk10 X) → ∀ (M : List Int → Cmp10), (∀ l, Sk10 (M l)) → ∀ acc, Sk10 (argsK es acc M) := by
      intro es
      induction es with
      | nil => intro _ M hM acc; exact hM acc
      | cons X es ihe => intro hs M hM acc; exact (hs X List.mem_cons_self).bind (fun v => ihe (fun Y hY => hs Y (List.mem_cons_of_mem _ hY)) M hM _)
    refine (hl 0 (by simp)).bindW hC.1 hC.2 (fun v hv => ?_) (fun v => sk cs (fun X hX => (h1 X (List.mem_cons_of_mem _ hX)).1) K hK _) (fun v => sk ds (fun X hX => h2 X (List.mem_cons_of_mem _ hX)) L hL _)
    exact Leq.argsW hk hK hL cs ds (acc ++ [v]) (fun x hx => by rcases List.mem_append.1 hx with h | h; exact ha x h; rw [List.mem_singleton.1 h]; exact hv) (by simpa using h) (fun i hi => by have := hl (i + 1) (by simpa using hi); simpa using this) (fun X hX => h1 X (List.mem_cons_of_mem _ hX)) (fun X hX => h2 X (List.mem_cons_of_mem _ hX))

theorem fold_means {ps ps' : List Pk} (hgood : ∀ n, Good10 (tree10 ps n)) {Cl : Nd → Prop} (hcl : ∀ n, Cl n → Fo (tree10 ps n) (tree10 ps' n) ∧ ∀ m ∈ tree10 ps n, m.1 = 8 → Cl m) : ∀ (d : Nat) {s r : List Nd}, Fo s r → Good10 s → (∀ m ∈ s, m.1 = 8 → Cl m) → ∀ xs : List Int, (∀ x ∈ xs, Word10 x) → Leq d (val10 ps d s 0 xs) (val10 ps' d r 0 xs)
  | 0, _, _, _, _, _, _, _ => fun f hf => absurd hf (Nat.not_lt_zero _)
  | d + 1, s, r, hfo, hg, hc8, xs, hx => by
    cases hfo with
    | mk n ks rs hn hk hr ho hfk =>
      have ih := fun {s r : List Nd} (h : Fo s r) => fold_means hgood hcl d h
      have hkid : ∀ i, i < ks.length → Leq d (val10 ps d (ks.getD i []) 0 xs) (val10 ps' d (rs.getD i []) 0 xs) := fun i hi => by
        have hm : ks.getD i [] ∈ ks := getD_mem11 hi
        exact ih (hfk i hi) (fun m h => hg m (List.mem_cons_of_mem _ (List.mem_flatten.2 ⟨_, hm, h⟩))) (fun m h h8 => hc8 m (List.mem_cons_of_mem _ (List.mem_flatten.2 ⟨_, hm, h⟩)) h8) xs hx
      have hword : ∀ i f, i < ks.length → Word10 (val10 ps d (ks.getD i []) 0 xs (f, 0)).1 := fun i f hi => val_word hgood d _ 0 xs (fun m h => hg m (List.mem_cons_of_mem _ (List.mem_flatten.2 ⟨_, getD_mem11 hi, h⟩))) hx (f, 0)
      have hmap : ∀ i, i < ks.length → (ks.map (fun k => val10 ps d k 0 xs)).getD i cz10 = val10 ps d (ks.getD i []) 0 xs := fun i hi => by simp [List.getD, hi]
      have hmapr : ∀ i, i < ks.length → (rs.map (fun k => val10 ps' d k 0 xs)).getD i cz10 = val10 ps' d (rs.getD i []) 0 xs := fun i hi => by simp [List.getD, show i < rs.length by omega]
      have hsk : ∀ t, Sk10 (val10 ps d t 0 xs) := fun t => Sk10.val ps d t 0 xs
      have hskr : ∀ t, Sk10 (val10 ps' d t 0 xs) := fun t => Sk10.val ps' d t 0 xs
      have hnd := nodeB_iff.1 hn
      unfold nodeP at hnd
      rw [val_node11 ps d xs hn hk ho]
      -- all of it stays
      have hall : Leq (d + 1) (tick10 (nodeK ps (val10 ps d) xs n (ks.map (fun k => val10 ps d k 0 xs)))) (val10 ps' (d + 1) (n :: rs.flatten) 0 xs) := by
        have hones : ∀ x ∈ rs, One x := fun x hx => by
          obtain ⟨i, hi, e⟩ := mem_getD (d := []) hx
          rw [← e]; exact (hfk i (by omega)).res.1
        rw [val_node11 ps' d xs hn (by omega) hones]
        refine Leq.tick ?_
        unfold nodeK
        split
        · exact Leq.refl _ _
        · split
          · exact Leq.refl _ _
          · split
            · rename_i h7
              have h3 := kids_seven h7
              rw [hmap 0 (by omega), hmap 1 (by omega), hmap 2 (by omega), hmapr 0 (by omega), hmapr 1 (by omega), hmapr 2 (by omega)]
              refine (hkid 0 (by omega)).bind (hsk _) (fun v => ?_) (fun v => ?_) (fun v => ?_)
              · split
                · exact hkid 1 (by omega)
                · exact hkid 2 (by omega)
              · split
                · exact hsk _
                · exact hsk _
              · split
                · exact hskr _
                · exact hskr _
            · split
              · rename_i h8
                obtain ⟨hf8, hm8⟩ := hcl n (hc8 n List.mem_cons_self h8)
                have hK : ∀ l : List Int, Sk10 (val10 ps d (tree10 ps n) 0 l) := fun l => Sk10.val _ _ _ _ _
                have hL : ∀ l : List Int, Sk10 (val10 ps' d (tree10 ps' n) 0 l) := fun l => Sk10.val _ _ _ _ _
                refine Leq.argsW (fun l hl => ih hf8 (hgood n) hm8 l hl) hK hL (ks.map (fun k => val10 ps d k 0 xs)) (rs.map (fun k => val10 ps' d k 0 xs)) [] (fun x hx => by cases hx) (by rw [List.length_map, List.length_map]; omega) (fun i hi => ?_) (fun C hC => ?_) (fun C hC => ?_)
                · have hi2 : i < ks.length := by simpa using hi
                  rw [hmap i hi2, hmapr i hi2]
                  exact hkid i hi2
                · obtain ⟨k, hk1, rfl⟩ := List.mem_map.1 hC
                  obtain ⟨i, hi, e⟩ := mem_getD (d := []) hk1
                  exact ⟨hsk _, fun f => by rw [← e]; exact hword i f hi⟩
                · obtain ⟨k, _, rfl⟩ := List.mem_map.1 hC
                  exact hskr _
              · have h2 := kids_four (n := n) (by omega)
                rw [hmap 0 (by omega), hmap 1 (by omega), hmapr 0 (by omega), hmapr 1 (by omega)]
                exact (hkid 0 (by omega)).bind (hsk _) (fun x => (hkid 1 (by omega)).bind (hsk _) (fun y => Leq.refl _ _) (fun y => Sk10.fin _ _) (fun y => Sk10.fin _ _)) (fun x => (hsk _).bind (fun y => Sk10.fin _ _)) (fun x => (hskr _).bind (fun y => Sk10.fin _ _))
      unfold mk11
      split
      · rename_i h36
        have h2 := kids_four h36
        have hpair : nodeK ps (val10 ps d) xs n (ks.map (fun k => val10 ps d k 0 xs)) = bind10 (val10 ps d (ks.getD 0 []) 0 xs) (fun x => bind10 (val10 ps d (ks.getD 1 []) 0 xs) (fun y => fin10 (doneV n.1 x y) (doneB n.1 x y))) := by
          unfold nodeK
          rw [if_neg (by omega), if_neg (by omega), if_neg (by omega), if_neg (by omega), hmap 0 (by omega), hmap 1 (by omega)]
        have k0 := hkid 0 (by omega)
        have k1 := hkid 1 (by omega)
        split
        · rename_i hoo
          rw [Bool.and_eq_true] at hoo
          split
          · rename_i hdb
            obtain ⟨u, p0, q0, e0⟩ := one_is hoo.1
            obtain ⟨v, p1, q1, e1⟩ := one_is hoo.2
            rw [e0] at k0 hdb ⊢
            rw [e1] at k1 hdb ⊢
            simp only [List.getD_cons_zero] at hdb ⊢
            rw [hpair]
            intro f hf hc
            obtain ⟨g, rfl, e⟩ := tick_ne hc
            rw [e] at hc ⊢
            have hE : ∀ x, Sk10 (bind10 (val10 ps d (ks.getD 1 []) 0 xs) (fun y => fin10 (doneV n.1 x y) (doneB n.1 x y))) := fun x => (hsk _).bind (fun y => Sk10.fin _ _)
            obtain ⟨l, e2, hl⟩ := num_at k0 (hsk _) (by omega) (bind_code hE hc)
            unfold bind10 at hc ⊢
            rw [e2] at hc ⊢
            simp only at hc ⊢
            have hc1 : (val10 ps d (ks.getD 1 []) 0 xs (l, 0)).2.2 ≠ 2 := fun e3 => by
              rw [(Sk10.fin _ _).stop _ (by rw [e3]; decide)] at hc
              exact hc e3
            obtain ⟨l', e4, hl'⟩ := num_at k1 (hsk _) (by omega) hc1
            rw [e4]
            simp only
            rw [hdb, val_num]
            exact ⟨rfl, rfl, by show l' ≤ g; omega⟩
          · exact hall
        · split
          · rename_i hun
            have hsec : ∃ u p q, rs.getD 1 [] = [((1, u, p, q) : Nd)] ∧ ∀ x, Word10 x → doneV n.1 x u = x ∧ doneB n.1 x u = true := by
              rw [Bool.or_eq_true, Bool.and_eq_true, Bool.and_eq_true] at hun
              rcases hun with ⟨h4, hz⟩ | ⟨h5, hz⟩
              · obtain ⟨p, q, e⟩ := num_is hz
                exact ⟨0, p, q, e, fun x hx => (done_unit hx).1 (by have := of_decide_eq_true h4; omega)⟩
              · obtain ⟨p, q, e⟩ := num_is hz
                exact ⟨1, p, q, e, fun x hx => (done_unit hx).2.1 (by have := of_decide_eq_true h5; omega)⟩
            obtain ⟨u, p, q, e1, hu⟩ := hsec
            rw [e1] at k1
            rw [hpair]
            intro f hf hc
            obtain ⟨g, rfl, e⟩ := tick_ne hc
            rw [e] at hc ⊢
            obtain ⟨l', e2, hl'⟩ := unit_second (d := d) (hsk _) (hsk _) (hword 0 g (by omega)) hu (by omega) (fun l hl hcl => num_at k1 (hsk _) hl hcl) hc
            have hE : ∀ x, Sk10 (bind10 (val10 ps d (ks.getD 1 []) 0 xs) (fun y => fin10 (doneV n.1 x y) (doneB n.1 x y))) := fun x => (hsk _).bind (fun y => Sk10.fin _ _)
            obtain ⟨h5, h6, h7⟩ := skip_at k0 (l := g) (g := g + 1) (by omega) (by omega) (bind_code hE hc)
            rw [e2]
            exact ⟨h5, h6, by simp only; omega⟩
          · split
            · rename_i hun
              have hfst : ∃ u p q, rs.getD 0 [] = [((1, u, p, q) : Nd)] ∧ ∀ x, Word10 x → doneV n.1 u x = x ∧ doneB n.1 u x = true := by
                rw [Bool.or_eq_true, Bool.and_eq_true, Bool.and_eq_true] at hun
                rcases hun with ⟨h4, hz⟩ | ⟨h5, hz⟩
                · obtain ⟨p, q, e⟩ := num_is hz
                  exact ⟨0, p, q, e, fun x hx => (done_unit hx).2.2.1 (of_decide_eq_true h4)⟩
                · obtain ⟨p, q, e⟩ := num_is hz
                  exact ⟨1, p, q, e, fun x hx => (done_unit hx).2.2.2 (of_decide_eq_true h5)⟩
              obtain ⟨u, p, q, e1, hu⟩ := hfst
              rw [e1] at k0
              rw [hpair]
              intro f hf hc
              obtain ⟨g, rfl, e⟩ := tick_ne hc
              rw [e] at hc ⊢
              obtain ⟨l, e2, hl⟩ := unit_first (d := d) (hsk _) (fun l => hword 1 l (by omega)) hu (by omega) (fun l hl hcl => num_at k0 (hsk _) hl hcl) hc
              rw [e2] at hc ⊢
              obtain ⟨h5, h6, h7⟩ := skip_at k1 (l := l) (g := g + 1) (by omega) (by omega) hc
              exact ⟨h5, h6, by omega⟩
            · exact hall
      · split
        · rename_i h7
          have h3 := kids_seven h7
          split
          · rename_i hone
            obtain ⟨u, p, q, e0⟩ := one_is hone
            have hif : nodeK ps (val10 ps d) xs n (ks.map (fun k => val10 ps d k 0 xs)) = bind10 (val10 ps d (ks.getD 0 []) 0 xs) (fun k => if k ≠ 0 then val10 ps d (ks.getD 1 []) 0 xs else val10 ps d (ks.getD 2 []) 0 xs) := by
              unfold nodeK
              rw [if_neg (by omega), if_neg (by omega), if_pos h7, hmap 0 (by omega), hmap 1 (by omega), hmap 2 (by omega)]
            have k0 := hkid 0 (by omega)
            have key : ∀ i, i < ks.length → (∀ l, (if u ≠ 0 then val10 ps d (ks.getD 1 []) 0 xs else val10 ps d (ks.getD 2 []) 0 xs) (l, 0) = val10 ps d (ks.getD i []) 0 xs (l, 0)) → Leq (d + 1) (tick10 (nodeK ps (val10 ps d) xs n (ks.map (fun k => val10 ps d k 0 xs)))) (val10 ps' (d + 1) (rs.getD i []) 0 xs) := fun i hi hsel => by
              rw [e0] at k0
              rw [hif]
              intro f hf hc
              obtain ⟨g, rfl, e⟩ := tick_ne hc
              rw [e] at hc ⊢
              have hE : ∀ k : Int, Sk10 (if k ≠ 0 then val10 ps d (ks.getD 1 []) 0 xs else val10 ps d (ks.getD 2 []) 0 xs) := fun k => by split <;> exact hsk _
              obtain ⟨l, e2, hl⟩ := num_at k0 (hsk _) (by omega) (bind_code hE hc)
              unfold bind10 at hc ⊢
              rw [e2] at hc ⊢
              simp only at hc ⊢
              have hs := hsel l
              rw [hs] at hc ⊢
              obtain ⟨h5, h6, h7⟩ := skip_at (hkid i hi) (l := l) (g := g + 1) (by omega) (by omega) hc
              exact ⟨h5, h6, by omega⟩
            split
            · rename_i hz
              rw [e0] at hz
              have hu : u = 0 := by
                obtain ⟨p', q', e⟩ := num_is hz
                simp only [List.cons.injEq, Prod.mk.injEq] at e
                exact e.1.2.1
              exact key 2 (by omega) (fun l => by rw [if_neg (by simp [hu])])
            · rename_i hz
              have hu : u ≠ 0 := fun e => hz (by rw [e0, e]; rfl)
              exact key 1 (by omega) (fun l => by rw [if_pos hu])
          · exact hall
        · exact hall

end Go.Proofs.YtkjojhkpoooimaaGreat

/-! Plain facts of chapter 11: pure trees. -/
namespace Go.Proofs.YtkjojhkpoooimaaGreat
open Go.RowKit

/-- A tree without calls that divides by numbers alone, and never by 0. -/
inductive PureT : List Nd → Prop
  | mk (n : Nd) (ks : List (List Nd)) : nodeB n = true → ks.length = kidsN n → (∀ k ∈ ks, One k) → n.1 ≠ 8 → (n.1 = 6 → ((ks.getD 1 []).getD 0 nd0).1 = 1 ∧ ((ks.getD 1 []).getD 0 nd0).2.1 ≠ 0) → (∀ k ∈ ks, PureT k) → PureT (n :: ks.flatten)
theorem PureT.one {s : List Nd} (h : PureT s) : One s := by
  cases h with
  | mk n ks hn hk ho h8 h6 hp => exact One.mk n ks hn hk ho
/-- A tree whose first node is a number is that number. -/
theorem one_num {s : List Nd} (h : One s) (h1 : (s.getD 0 nd0).1 = 1) : ∃ v, s = [((1, v, [], []) : Nd)] ∧ Word10 v := by
  cases h with
  | mk n ks hn hk ho =>
    have h1' : n.1 = 1 := h1
    have hnd := nodeB_iff.1 hn
    unfold nodeP at hnd
    have hk0 : kidsN n = 0 := by unfold kidsN; rw [if_neg (by omega), if_neg (by omega), if_neg (by omega)]
    have hks : ks = [] := List.eq_nil_of_length_eq_zero (by omega)
    subst hks
    obtain ⟨k, v, p, q⟩ := n
    simp only at h1' hnd
    rcases hnd with h | h | h | h
    · obtain ⟨rfl, ⟨h2, h3⟩, rfl, rfl⟩ := h
      exact ⟨v, rfl, h2, h3⟩
    · omega
    · omega
    · omega
/-- Folded without arguments it is one number. -/
theorem PureT.num {s : List Nd} (h : PureT s) : (∀ n ∈ s, n.1 ≠ 2) → ∀ {r : List Nd}, Fo s r → ∃ v, r = [((1, v, [], []) : Nd)] ∧ Word10 v := by
  induction h with
  | mk n ks hn hk ho h8 h6 hp ih =>
    intro h2 r hfo
    generalize hs : n :: ks.flatten = s at hfo
    cases hfo with
    | mk m js rs hm hj hr hoj hfj =>
      injection hs with e1 e2
      subst e1
      obtain rfl := ones_inj ho hoj (by omega) e2
      have hkid : ∀ i, i < ks.length → ∃ v, rs.getD i [] = [((1, v, [], []) : Nd)] ∧ Word10 v := fun i hi => ih _ (getD_mem11 hi) (fun x hx => h2 x (by
        rw [← e2]
        exact List.mem_cons_of_mem _ (List.mem_flatten.2 ⟨_, getD_mem11 hi, hx⟩))) (hfj i hi)
      have hnd := nodeB_iff.1 hn
      unfold nodeP at hnd
      have h22 := h2 n (by rw [← e2]; exact List.mem_cons_self)
      have hone : ∀ v : Int, isOne11 [((1, v, [], []) : Nd)] = true := fun v => rfl
      rcases hnd with h | h | h | h
      · have hk0 : kidsN n = 0 := by unfold kidsN; rw [if_neg (by omega), if_neg (by omega), if_neg (by omega)]
        have hrs : rs = [] := List.eq_nil_of_length_eq_zero (by omega)
        subst hrs
        obtain ⟨k, v, p, q⟩ := n
        simp only at h
        obtain ⟨rfl, ⟨h3, h4⟩, rfl, rfl⟩ := h
        exact ⟨v, rfl, h3, h4⟩
      · exact absurd h.1 h22
      · by_cases h7 : n.1 = 7
        · have h3 := kids_seven h7
          obtain ⟨v0, r0, _⟩ := hkid 0 (by omega)
          obtain ⟨v1, r1, w1⟩ := hkid 1 (by omega)
          obtain ⟨v2, r2, w2⟩ := hkid 2 (by omega)
          unfold mk11
          rw [if_neg (by omega), if_pos h7, r0, r1, r2, hone, if_pos rfl]
          split
          · exact ⟨v2, rfl, w2⟩
          · exact ⟨v1, rfl, w1⟩
        · have h36 : 3 ≤ n.1 ∧ n.1 ≤ 6 := by omega
          have h3 := kids_four h36
          obtain ⟨v0, r0, w0⟩ := hkid 0 (by omega)
          obtain ⟨v1, r1, w1⟩ := hkid 1 (by omega)
          have hdiv : n.1 = 6 → v1 ≠ 0 := fun e => by
            obtain ⟨h61, h62⟩ := h6 e
            have ho1 := ho _ (getD_mem11 (d := []) (show 1 < ks.length by omega))
            obtain ⟨u, eu, wu⟩ := one_num ho1 h61
            have hf1 := hfj 1 (by omega)
            rw [eu] at hf1 h62
            have hn1 : nodeB ((1, u, [], []) : Nd) = true := decide_eq_true (Or.inl ⟨rfl, ⟨wu.1, wu.2⟩, rfl, rfl⟩)
            have hself : Fo [((1, u, [], []) : Nd)] [((1, u, [], []) : Nd)] := Fo.mk (1, u, [], []) [] [] hn1 rfl rfl (fun k hk => by cases hk) (fun i hi => absurd hi (Nat.not_lt_zero _))
            have e3 := hf1.uniq hself
            rw [r1] at e3
            simp only [List.cons.injEq, Prod.mk.injEq, and_true, true_and] at e3
            rw [e3]
            exact h62
          have hdb : doneB n.1 v0 v1 = true := by
            obtain ⟨d3, d4, d5, d6, _⟩ := done_in n.1 v0 v1 ⟨⟨w0.1, w0.2⟩, w1.1, w1.2⟩
            rcases (show n.1 = 3 ∨ n.1 = 4 ∨ n.1 = 5 ∨ n.1 = 6 by omega) with e | e | e | e
            · exact (d3 e).2
            · exact (d4 e).2
            · exact (d5 e).2
            · exact (d6 e (hdiv e)).2
          unfold mk11
          rw [if_pos h36, r0, r1]
          simp only [hone, Bool.and_self, if_true, List.getD_cons_zero]
          rw [if_pos hdb]
          exact ⟨_, rfl, doneV_bd _ _ _⟩
      · exact absurd h.1 h8

end Go.Proofs.YtkjojhkpoooimaaGreat

/-! Plain facts of chapter 11: Pure, as the code asks it. -/
namespace Go.Proofs.YtkjojhkpoooimaaGreat
open Go.RowKit

/-- What is asked of each node. -/
def pure1 (t : List Nd) (i : Nat) : Prop := (t.getD i nd0).1 ≠ 8 ∧ ((t.getD i nd0).1 = 6 → (t.getD ((pts10 t (i : Int)).getD 1 0).toNat nd0).1 = 1 ∧ (t.getD ((pts10 t (i : Int)).getD 1 0).toNat nd0).2.1 ≠ 0)
instance (t : List Nd) (i : Nat) : Decidable (pure1 t i) := by unfold pure1; infer_instance
def pureB (t : List Nd) : Bool := treeB t && decide (∀ i, i < t.length → pure1 t i)
end Go.Proofs.YtkjojhkpoooimaaGreat

/-! The contracts of chapter 11's specification: FoldedTree and Pure. -/
namespace Go.Proofs.YtkjojhkpoooimaaGreat
open Go.RowKit

set_option maxHeartbeats 1000000 in
set_option maxRecDepth 100000 in
theorem specFoldedTree (a : Option Addr) (len cap : Nat) (ns : List Nd) (w : World) (hin : NodesIn w a len ns) (hsh : ShortT ns) (hlen : len ≤ 1048576) :
    Calls Tryz.prog 10 #[.slice a len cap] w fun e w' => ∃ v, e = .returned v ∧ w'.ownsRow w.heap.size 46 4 v (foldT ns).length (nodesV (foldT ns)) ∧ Below w.heap.size w w' := by
  obtain rfl : ns.length = len := hin.1
  have HT : Hid (_) := specTreeOk a ns.length cap ns w hin hsh hlen
  have HI : Hid (NodesIn w a ns.length ns) := hin
  rcases hb : treeB ns with _ | _
  · rw [hb] at HT
    have hf : foldT ns = [] := by unfold foldT; rw [hb]; rfl
    have HF : Hid (foldT ns = []) := hf
    clear hin hb hf
    go_enter Tryz.func10, Tryz.ntmps10
    go_wp2_with fail
    refine Calls.mono HT.out ?_
    rintro e w1 ⟨rfl, hb1⟩
    have HO : Hid ((w1.alloc (.cells #[] 46)).ownsRow w.heap.size 46 4 (.slice (some ⟨w1.heap.size, 0, none⟩) 0 0) 0 (nodesV [])) := World.ownsRow_lit (base := w.heap.size) (e := 46) (size := 4) w1 #[] 0 hb1.size (by decide) rfl
    have HB : Hid (Below w.heap.size w (w1.alloc (.cells #[] 46))) := hb1.alloc hb1.size _
    clear hb1
    go_wp2
    go_ret
    rw [HF.out]
    first | exact ⟨_, rfl, HO.out, HB.out⟩ | exact ⟨HO.out, HB.out⟩
  · rw [hb] at HT
    obtain ⟨hl, ho⟩ := treeB_one.1 hb
    have hf : foldT ns = fold11 60 ns 0 := by unfold foldT; rw [hb]; rfl
    have HF : Hid (foldT ns = fold11 60 ns 0) := hf
    have he : 0 ≤ endV ns ((0 : Nat) : Int) := by rw [endV_sub (post := []) (by simp) ho]; omega
    have HC : Hid (∀ Y, Below w.heap.size w Y → Calls Tryz.prog 27 #[.slice a ns.length cap, .int .i64 0] Y fun e w' => ∃ v, e = .returned v ∧ w'.ownsRow Y.heap.size 46 4 v (fold11 60 ns 0).length (nodesV (fold11 60 ns 0)) ∧ Below Y.heap.size Y w') := fun Y hy => specFold w a cap ns hin hsh ho.good hl 60 Y 0 hy he (by omega)
    clear hin hb hf he ho
    go_enter Tryz.func10, Tryz.ntmps10
    go_wp2_with fail
    refine Calls.mono HT.out ?_
    rintro e w1 ⟨rfl, hb1⟩
    have HD : Hid (_) := HC.out w1 hb1
    have HB1 : Hid (Below w.heap.size w w1) := hb1
    clear hb1 HC
    go_wp2_with fail
    refine Calls.mono HD.out ?_
    rintro e w2 ⟨v, rfl, ho, hb2⟩
    have HO : Hid (w2.ownsRow w.heap.size 46 4 v (fold11 60 ns 0).length (nodesV (fold11 60 ns 0))) := own_base ho HB1.out.size
    have HB : Hid (Below w.heap.size w w2) := HB1.out.trans (hb2.mono HB1.out.size)
    clear ho hb2 HD
    go_wp2
    go_ret
    rw [HF.out]
    first | exact ⟨_, rfl, HO.out, HB.out⟩ | exact ⟨HO.out, HB.out⟩


end Go.Proofs.YtkjojhkpoooimaaGreat

/-! Rows of nodes that are alike. -/
namespace Go.Proofs.YtkjojhkpoooimaaGreat
open Go.RowKit

theorem foldT_len (ns : List Nd) : (foldT ns).length ≤ 60 := by
  rcases h : treeB ns with _ | _
  · unfold foldT; rw [h]; simp
  · exact Nat.le_trans (foldT_ok h).2.1 (treeB_one.1 h).1


end Go.Proofs.YtkjojhkpoooimaaGreat

/-! Plain facts for chapter 6's landed code: shapes, and what words are read as. -/
namespace Go.Proofs.YtkjojhkpoooimaaGreat
open Go.RowKit

/-- A shape: what a node tells by its kind. -/
inductive Sh where
  | num (a : Int)
  | arg (a : Int)
  | pair (k : Int)
  | cond
  | call (p f : List UInt8) (a : Int)
  | no

def shOf (n : Nd) : Sh :=
  if n.1 = 1 then .num n.2.1
  else if n.1 = 2 then .arg n.2.1
  else if 3 ≤ n.1 ∧ n.1 ≤ 6 then .pair n.1
  else if n.1 = 7 then .cond
  else if n.1 = 8 then .call n.2.2.1 n.2.2.2 n.2.1
  else .no

def shNode : Sh → Nd
  | .num a => (1, a, [], [])
  | .arg a => (2, a, [], [])
  | .pair k => (k, 0, [], [])
  | .cond => (7, 0, [], [])
  | .call p f a => (8, a, p, f)
  | .no => (0, 0, [], [])

def shOk : Sh → Bool
  | .num a => inB a (-2147483648) 2147483647
  | .arg a => inB a 0 2
  | .pair _ => true
  | .cond => true
  | .call p f a => inB a 0 3 && (nameB p && nameB f)
  | .no => false

def shKids : Sh → Int
  | .num _ => 0
  | .arg _ => 0
  | .pair _ => 2
  | .cond => 3
  | .call _ _ a => a
  | .no => -1

def shWord : Sh → List UInt8
  | .num a => intL a
  | .arg a => 36 :: intL a
  | .pair k => if k = 3 then [43] else if k = 4 then [45] else if k = 5 then [42] else [47]
  | .cond => [63]
  | .call p f a => (64 :: p) ++ [46] ++ f ++ [47] ++ intL a
  | .no => []

theorem shOf_kinds (n : Nd) : (n.1 = 1 ∧ shOf n = .num n.2.1) ∨ (n.1 = 2 ∧ shOf n = .arg n.2.1) ∨ ((3 ≤ n.1 ∧ n.1 ≤ 6) ∧ shOf n = .pair n.1) ∨ (n.1 = 7 ∧ shOf n = .cond) ∨ (n.1 = 8 ∧ shOf n = .call n.2.2.1 n.2.2.2 n.2.1) ∨ ((n.1 < 1 ∨ 8 < n.1) ∧ shOf n = .no) := by
  by_cases h1 : n.1 = 1
  · exact Or.inl ⟨h1, if_pos h1⟩
  by_cases h2 : n.1 = 2
  · exact Or.inr (Or.inl ⟨h2, by unfold shOf; rw [if_neg h1, if_pos h2]⟩)
  by_cases h3 : 3 ≤ n.1 ∧ n.1 ≤ 6
  · exact Or.inr (Or.inr (Or.inl ⟨h3, by unfold shOf; rw [if_neg h1, if_neg h2, if_pos h3]⟩))
  by_cases h7 : n.1 = 7
  · exact Or.inr (Or.inr (Or.inr (Or.inl ⟨h7, by unfold shOf; rw [if_neg h1, if_neg h2, if_neg h3, if_pos h7]⟩)))
  by_cases h8 : n.1 = 8
  · exact Or.inr (Or.inr (Or.inr (Or.inr (Or.inl ⟨h8, by unfold shOf; rw [if_neg h1, if_neg h2, if_neg h3, if_neg h7, if_pos h8]⟩))))
  · exact Or.inr (Or.inr (Or.inr (Or.inr (Or.inr ⟨by omega, by unfold shOf; rw [if_neg h1, if_neg h2, if_neg h3, if_neg h7, if_neg h8]⟩))))

/-- A node is right where its shape is, and it tells no more. -/
theorem node_sh (n : Nd) : nodeB n = (shOk (shOf n) && decide (shNode (shOf n) = n)) := by
  rw [Bool.eq_iff_iff, nodeB_iff, Bool.and_eq_true, decide_eq_true_iff]
  obtain ⟨k, a, p, f⟩ := n
  rcases shOf_kinds (k, a, p, f) with ⟨h, e⟩ | ⟨h, e⟩ | ⟨h, e⟩ | ⟨h, e⟩ | ⟨h, e⟩ | ⟨h, e⟩
  · rw [e]; simp only at h; subst h
    unfold nodeP shOk shNode inB
    simp [@eq_comm (List UInt8) [] p, @eq_comm (List UInt8) [] f]
  · rw [e]; simp only at h; subst h
    unfold nodeP shOk shNode inB
    simp [@eq_comm (List UInt8) [] p, @eq_comm (List UInt8) [] f]
  · rw [e]; simp only at h
    unfold nodeP shOk shNode
    simp only [Prod.mk.injEq, true_and]
    constructor
    · rintro (⟨h1, _⟩ | ⟨h1, _⟩ | ⟨_, h2, h3, h4⟩ | ⟨h1, _⟩)
      · omega
      · omega
      · exact ⟨h2.symm, h3.symm, h4.symm⟩
      · omega
    · rintro ⟨h2, h3, h4⟩
      exact Or.inr (Or.inr (Or.inl ⟨by omega, h2.symm, h3.symm, h4.symm⟩))
  · rw [e]; simp only at h; subst h
    unfold nodeP shOk shNode
    simp [@eq_comm (List UInt8) [] p, @eq_comm (List UInt8) [] f, @eq_comm Int 0 a]
  · rw [e]; simp only at h; subst h
    unfold nodeP shOk shNode inB
    simp
  · rw [e]; simp only at h
    unfold nodeP shOk shNode
    simp
    omega

theorem kids_sh {n : Nd} (h : nodeB n = true) : shKids (shOf n) = kidsV n := by
  unfold kidsV
  rcases shOf_kinds n with ⟨h, e⟩ | ⟨h, e⟩ | ⟨h, e⟩ | ⟨h, e⟩ | ⟨h, e⟩ | ⟨h1, e⟩
  · rw [e, if_neg (by omega), if_neg (by omega), if_neg (by omega)]; rfl
  · rw [e, if_neg (by omega), if_neg (by omega), if_neg (by omega)]; rfl
  · rw [e, if_pos h]; rfl
  · rw [e, if_neg (by omega), if_pos h]; rfl
  · rw [e, if_neg (by omega), if_neg (by omega), if_pos h]; rfl
  · have := nodeB_iff.1 h
    unfold nodeP at this
    omega

/-- A text cut at a byte: what is ahead of it, what is behind it. -/
def cutA (b : UInt8) (l : List UInt8) : List UInt8 := l.takeWhile (fun c => c != b)
def cutB (b : UInt8) (l : List UInt8) : List UInt8 := (l.dropWhile (fun c => c != b)).tail

/-- The shape of a word. -/
noncomputable def shIn (s : List UInt8) : Sh :=
  if numB s = true then .num (numV s)
  else if s = [63] then .cond
  else if s = [43] then .pair 3
  else if s = [45] then .pair 4
  else if s = [42] then .pair 5
  else if s = [47] then .pair 6
  else if s.head? = some 36 then .arg (numV s.tail)
  else if s.head? = some 64 then .call (cutA 46 (cutA 47 s.tail)) (cutB 46 (cutA 47 s.tail)) (numV (cutB 47 s.tail))
  else .no

/-- The landed ReadTree's list. -/
noncomputable def inT (s : List UInt8) : List Nd := (splitL 32 s).map (fun x => shNode (shIn x))

end Go.Proofs.YtkjojhkpoooimaaGreat

/-! The contracts of chapter 4's landed code: WordOk, Wrap, Done. -/
namespace Go.Proofs.YtkjojhkpoooimaaGreat
open Go.RowKit

set_option maxHeartbeats 400000 in
set_option maxRecDepth 100000 in
theorem implWordOkS (n : Int) (w : World) : Calls Tryz.prog 92 #[.int .i64 n] w fun e w' => e = .returned (.bool (inB n (-2147483648) 2147483647)) ∧ w' = w := by
  by_cases h1 : -2147483648 ≤ n
  · by_cases h2 : n ≤ 2147483647
    · have hB : Hid (inB n (-2147483648) 2147483647 = true) := inB_yes _ _ _ h1 h2
      go_enter Tryz.func92, Tryz.ntmps92
      go_wp2
      go_ret
      exact ⟨by rw [hB.out]; rfl, rfl⟩
    · have hB : Hid (inB n (-2147483648) 2147483647 = false) := inB_no _ _ _ (Or.inr (by omega))
      go_enter Tryz.func92, Tryz.ntmps92
      go_wp2
      go_ret
      exact ⟨by rw [hB.out]; rfl, rfl⟩
  · have hB : Hid (inB n (-2147483648) 2147483647 = false) := inB_no _ _ _ (Or.inl (by omega))
    go_enter Tryz.func92, Tryz.ntmps92
    go_wp2
    go_ret
    exact ⟨by rw [hB.out]; rfl, rfl⟩

set_option maxHeartbeats 400000 in
set_option maxRecDepth 100000 in
theorem implWrapS (n : Int) (w : World) : Calls Tryz.prog 93 #[.int .i64 n] w fun e w' => e = .returned (.int .i64 (wrapW n)) ∧ w' = w := by
  go_enter Tryz.func93, Tryz.ntmps93
  go_wp2
  go_ret
  exact ⟨ret_int (wrapWW n), rfl⟩

set_option maxHeartbeats 2000000 in
set_option maxRecDepth 100000 in
theorem implDoneS (kind a b : Int) (w : World) :
    Calls Tryz.prog 79 #[.int .i64 kind, .int .i64 a, .int .i64 b] w fun e w' => e = .returned (.tuple #[.int .i64 (doneV kind a b), .bool (doneB kind a b)]) ∧ w' = w := by
  by_cases ha : -2147483648 ≤ a ∧ a ≤ 2147483647
  · have da : inB a (-2147483648) 2147483647 = true := inB_yes _ _ _ ha.1 ha.2
    by_cases hb : -2147483648 ≤ b ∧ b ≤ 2147483647
    · have db : inB b (-2147483648) 2147483647 = true := inB_yes _ _ _ hb.1 hb.2
      obtain ⟨h3, h4, h5, h6, h0⟩ := done_in kind a b ⟨ha, hb⟩
      obtain ⟨hm1, hm2⟩ := mul_bd a b ha hb
      obtain ⟨ha1, ha2⟩ := ha
      obtain ⟨hb1, hb2⟩ := hb
      by_cases k4 : kind = 4
      · have HO : Hid (doneV kind a b = wrapW (a + -b) ∧ doneB kind a b = true) := h4 k4
        clear h3 h4 h5 h6 h0
        subst k4
        go_enter Tryz.func79, Tryz.ntmps79
        go_wp2_with (first | (go_at_call 93; refine (implWrapS _ _).mono ?_; rintro e w' ⟨rfl, rfl⟩) | (go_at_call 92; refine (implWordOkS _ _).mono ?_; rintro e w' ⟨rfl, rfl⟩))
        go_ret2
        exact ⟨by rw [HO.out.1, HO.out.2]; rfl, rfl⟩
      · have d4 : (kind == 4) = false := beq_eq_false_iff_ne.2 k4
        by_cases k3 : kind = 3
        · have HO : Hid (doneV kind a b = wrapW (a + b) ∧ doneB kind a b = true) := h3 k3
          clear h3 h4 h5 h6 h0 d4 k4
          subst k3
          go_enter Tryz.func79, Tryz.ntmps79
          go_wp2_with (first | (go_at_call 93; refine (implWrapS _ _).mono ?_; rintro e w' ⟨rfl, rfl⟩) | (go_at_call 92; refine (implWordOkS _ _).mono ?_; rintro e w' ⟨rfl, rfl⟩))
          go_ret2
          exact ⟨by rw [HO.out.1, HO.out.2]; rfl, rfl⟩
        · have d3 : (kind == 3) = false := beq_eq_false_iff_ne.2 k3
          by_cases k5 : kind = 5
          · have HO : Hid (doneV kind a b = wrapW (a * b) ∧ doneB kind a b = true) := h5 k5
            clear h3 h4 h5 h6 h0 d3 k3 d4 k4
            subst k5
            go_enter Tryz.func79, Tryz.ntmps79
            go_wp2_with (first | (go_at_call 93; refine (implWrapS _ _).mono ?_; rintro e w' ⟨rfl, rfl⟩) | (go_at_call 92; refine (implWordOkS _ _).mono ?_; rintro e w' ⟨rfl, rfl⟩))
            go_ret2
            exact ⟨by rw [HO.out.1, HO.out.2]; rfl, rfl⟩
          · have d5 : (kind == 5) = false := beq_eq_false_iff_ne.2 k5
            by_cases k6 : kind = 6
            · by_cases kb : b = 0
              · have HO : Hid (doneV kind a b = 0 ∧ doneB kind a b = false) := h0 k3 k4 k5 (fun h => h.2 kb)
                clear h3 h4 h5 h6 h0 d3 k3 d4 k4 d5 k5
                subst k6 kb
                go_enter Tryz.func79, Tryz.ntmps79
                go_wp2_with (first | (go_at_call 93; refine (implWrapS _ _).mono ?_; rintro e w' ⟨rfl, rfl⟩) | (go_at_call 92; refine (implWordOkS _ _).mono ?_; rintro e w' ⟨rfl, rfl⟩))
                go_ret2
                exact ⟨by rw [HO.out.1, HO.out.2]; rfl, rfl⟩
              · have HO : Hid (doneV kind a b = wrapW (a.tdiv b) ∧ doneB kind a b = true) := h6 k6 kb
                have dz : (b == 0) = false := beq_eq_false_iff_ne.2 kb
                have dy : (b != 0) = true := bne_iff_ne.2 kb
                obtain ⟨hq1, hq2⟩ := tdiv_bd a b ⟨ha1, ha2⟩
                clear h3 h4 h5 h6 h0 d3 k3 d4 k4 d5 k5
                subst k6
                go_enter Tryz.func79, Tryz.ntmps79
                go_wp2_with (first | (go_at_call 93; refine (implWrapS _ _).mono ?_; rintro e w' ⟨rfl, rfl⟩) | (go_at_call 92; refine (implWordOkS _ _).mono ?_; rintro e w' ⟨rfl, rfl⟩))
                go_ret2
                exact ⟨by rw [HO.out.1, HO.out.2]; rfl, rfl⟩
            · have HO : Hid (doneV kind a b = 0 ∧ doneB kind a b = false) := h0 k3 k4 k5 (fun h => k6 h.1)
              have d6 : (kind == 6) = false := beq_eq_false_iff_ne.2 k6
              clear h3 h4 h5 h6 h0 k3 k4 k5 k6
              go_enter Tryz.func79, Tryz.ntmps79
              go_wp2_with (first | (go_at_call 93; refine (implWrapS _ _).mono ?_; rintro e w' ⟨rfl, rfl⟩) | (go_at_call 92; refine (implWordOkS _ _).mono ?_; rintro e w' ⟨rfl, rfl⟩))
              go_ret2
              exact ⟨by rw [HO.out.1, HO.out.2]; rfl, rfl⟩
    · have db : inB b (-2147483648) 2147483647 = false := inB_no _ _ _ (by omega)
      have HO : Hid (doneV kind a b = 0 ∧ doneB kind a b = false) := done_no kind a b (fun h => hb h.2)
      clear ha hb
      go_enter Tryz.func79, Tryz.ntmps79
      go_wp2_with (first | (go_at_call 93; refine (implWrapS _ _).mono ?_; rintro e w' ⟨rfl, rfl⟩) | (go_at_call 92; refine (implWordOkS _ _).mono ?_; rintro e w' ⟨rfl, rfl⟩))
      go_ret2
      exact ⟨by rw [HO.out.1, HO.out.2]; rfl, rfl⟩
  · have da : inB a (-2147483648) 2147483647 = false := inB_no _ _ _ (by omega)
    have HO : Hid (doneV kind a b = 0 ∧ doneB kind a b = false) := done_no kind a b (fun h => ha h.1)
    clear ha
    go_enter Tryz.func79, Tryz.ntmps79
    go_wp2_with (first | (go_at_call 93; refine (implWrapS _ _).mono ?_; rintro e w' ⟨rfl, rfl⟩) | (go_at_call 92; refine (implWordOkS _ _).mono ?_; rintro e w' ⟨rfl, rfl⟩))
    go_ret2
    exact ⟨by rw [HO.out.1, HO.out.2]; rfl, rfl⟩

end Go.Proofs.YtkjojhkpoooimaaGreat

/-! A scope in which the run jumps to several labels: what holds at every jump to each of them, and a measure that every pass from a label lowers. -/
namespace Go.Proofs.YtkjojhkpoooimaaGreat
open Go.RowKit

/-- As Q; by a goto to label l: J l. -/
def Hops (J : Nat → Act → World → Prop) (Q : Exit → Act → World → Prop) : Exit → Act → World → Prop
  | .goto l, a, w => J l a w
  | e, a, w => Q e a w

end Go.Proofs.YtkjojhkpoooimaaGreat
