/-
  Parts of one proof, one behind the other: NeedE, NeedI, NeedJ.
-/
import Derived.Test.YtnpbckgaeaameaaGreatP27
import Derived.Test.YtnpbckgaeaameaaGreatP20
import Derived.Test.YtnpbckgaeaameaaGreatP16
import Derived.Laws.EntriesVeiled

/-! Contracts of chapter 12's landed code: needsOf, by either closure. -/
namespace Go.Proofs.YtnpbckgaeaameaaGreat
open Go.RowKit

theorem own_types12 {w : World} {b1 b2 e1 e2 s1 s2 n1 n2 : Nat} {v1 v2 : Value} {xs ys : List Value} (h1 : w.ownsRow b1 e1 s1 v1 n1 xs) (h2 : w.ownsRow b2 e2 s2 v2 n2 ys) (he : e1 ≠ e2) : v1.ownBlock = none ∨ v1.ownBlock ≠ v2.ownBlock := by
  rcases h1.2 with ⟨rfl, _⟩ | ⟨g, c, cur, rfl, _, hg, _⟩
  · exact Or.inl rfl
  · rcases h2.2 with ⟨rfl, _⟩ | ⟨g2, c2, cur2, rfl, _, hg2, _⟩
    · exact Or.inr (by simp [Value.ownBlock])
    · refine Or.inr (fun e => ?_)
      simp only [Value.ownBlock, Option.some.injEq] at e
      subst e
      rw [hg] at hg2
      simp only [Option.some.injEq, Obj.cells.injEq] at hg2
      exact he hg2.2.1

/-- The row of needs, told from k on. -/
structure Nr (w X : World) (gN n k : Nat) (f : Nat → Nat) : Prop where
  rows : ∀ q, k ≤ q → q < n → X.rangeAt gN (q * 60) (nvL (f q))
  ok : X.there gN 0 (n * 60)
  lt : gN < X.heap.size
  h0 : w.heap.size ≤ gN
  b : Below w.heap.size w X
section
variable {w X Y : World} {gN n k q : Nat} {f : Nat → Nat}
theorem Nr.keep (s : Nr w X gN n k f) (hb : Y.heap[gN]? = X.heap[gN]?) (hl : X.heap.size ≤ Y.heap.size) (hB : Below w.heap.size w Y) : Nr w Y gN n k f :=
  ⟨fun q h1 h2 => range_block (s.rows q h1 h2) hb, there_block s.ok hb, Nat.lt_of_lt_of_le s.lt hl, s.h0, hB⟩
theorem Nr.below (s : Nr w X gN n k f) (hb : Below X.heap.size X Y) : Nr w Y gN n k f := s.keep (hb.block gN s.lt) hb.size (s.b.trans (hb.mono s.b.size))
theorem Nr.kept {row : Option Nat} (s : Nr w X gN n k f) (hg : X.grownBy Y row) (hr : ∀ j, row = some j → gN < j) : Nr w Y gN n k f :=
  s.keep (hg.block gN s.lt (fun e => by have := hr gN e.symm; omega)) hg.size (s.b.grown hg s.b.size (fun j e => by have := hr j e; have := s.h0; omega))
theorem Nr.there (s : Nr w X gN n k f) (hq : q < n) : X.there gN (q * 60) 60 := fun j hj => by
  have h := s.ok (q * 60 + j) (by omega)
  rw [Nat.zero_add] at h
  exact h
theorem Nr.store (s : Nr w X gN n (q + 1) f) (hq : q < n) : Nr w (X.setCells gN (q * 60) (nvL (f q))) gN n q f := by
  have hg := grown_setNv gN (nvL (f q)) (q * 60) X
  have h0 := s.h0
  refine ⟨fun p h1 h2 => ?_, World.there_setCells s.ok _ _ _, Nat.lt_of_lt_of_le s.lt hg.size, s.h0, s.b.grown hg s.b.size (fun j e => by injection e with e; omega)⟩
  by_cases e : p = q
  · subst e
    exact World.rangeAt_setCells_same X gN (p * 60) (nvL (f p)) (by rw [nvL_len]; exact s.there hq)
  · exact World.rangeAt_setCells_apart (s.rows p (by omega) h2) gN (q * 60) _ (Or.inr (by rw [nvL_len, nvL_len]; omega))
end
/-- Needs one behind the other. -/
def nsV (f : Nat → Nat) (ps : List Int) : List Value := ps.flatMap (fun p => nvL (f p.toNat))
theorem nsV_len (f : Nat → Nat) : ∀ ps : List Int, (nsV f ps).length = ps.length * 60
  | [] => rfl
  | p :: r => by
    have := nsV_len f r
    unfold nsV at this ⊢
    rw [List.flatMap_cons, List.length_append, nvL_len, this, List.length_cons]; omega
theorem nsV_snoc (f : Nat → Nat) (ps : List Int) (p : Int) : nsV f (ps ++ [p]) = nsV f ps ++ nvL (f p.toNat) := by simp [nsV]
theorem nsV_at (f : Nat → Nat) : ∀ (ps : List Int) (j q : Nat), j < ps.length → q < 60 → (nsV f ps)[j * 60 + q]? = (nvL (f (ps.getD j 0).toNat))[q]?
  | [], j, _, h, _ => by simp at h
  | p :: r, 0, q, _, hq => by
    unfold nsV
    rw [List.flatMap_cons, Nat.zero_mul, Nat.zero_add, List.getElem?_append_left (by rw [nvL_len]; exact hq)]
    rfl
  | p :: r, j + 1, q, h, hq => by
    have ih := nsV_at f r j q (by simpa using h) hq
    unfold nsV at ih ⊢
    rw [List.flatMap_cons, List.getElem?_append_right (by rw [nvL_len]; omega), nvL_len, show (j + 1) * 60 + q - 60 = j * 60 + q by omega, ih]
    rfl
theorem ns_of {X : World} {B : Nat} {v : Value} {ps : List Int} {f : Nat → Nat} (h : X.ownsRow B 65 60 v ps.length (nsV f ps)) : ∃ a c, v = .slice a ps.length c ∧ NsIn X a (ps.map (fun p => f p.toNat)) ∧ ps.length ≤ c ∧ c ≤ maxLen := by
  obtain ⟨a, c, rfl⟩ := own_any12 h
  refine ⟨a, c, rfl, fun j hj => ?_, own_capT h, own_capM h⟩
  rw [List.length_map] at hj
  obtain ⟨g, cp, e⟩ := own_some h (by omega)
  injection e with e1 _ e3
  subst e1 e3
  refine ⟨g, 0, rfl, (h.lt g rfl).2, fun q v hv => ?_⟩
  have hq : q < 60 := by have := (List.getElem?_eq_some_iff.1 hv).1; rw [nvL_len] at this; exact this
  have hd : (ps.map (fun p => f p.toNat)).getD j 0 = f (ps.getD j 0).toNat := by simp [List.getD, hj]
  rw [hd] at hv
  rw [Nat.zero_add, h.cellAt (j * 60 + q) (by have : j + 1 ≤ ps.length := hj; have := Nat.mul_le_mul_right 60 this; omega), nsV_at f ps j q hj hq]
  exact hv

/-- What needsOf holds while it gathers a node's parts. -/
structure Pr (w X : World) (gN n k : Nat) (f : Nat → Nat) (pv : Value) (i : Nat) (pl : Value) (ps : List Int) : Prop where
  nr : Nr w X gN n k f
  pv : X.ownsRow (gN + 1) 65 60 pv i (nsV f (ps.take i))
  pl : X.ownsRow (gN + 1) 2 1 pl ps.length (intsV ps)
section
variable {w X Y : World} {gN n k : Nat} {f : Nat → Nat} {pv : Value} {i : Nat} {pl : Value} {ps : List Int}
theorem Pr.below (s : Pr w X gN n k f pv i pl ps) (hb : Below X.heap.size X Y) : Pr w Y gN n k f pv i pl ps := ⟨s.nr.below hb, own_below s.pv hb, own_below s.pl hb⟩
theorem Pr.drew (s : Pr w X gN n k f pv i pl ps) : Pr w X.drew gN n k f pv i pl ps := s.below ⟨rfl, rfl, rfl, Nat.le_refl _, fun _ _ => rfl⟩
theorem Pr.push (s : Pr w X gN n k f pv i pl ps) (hi : i < ps.length) (hl : ps.length ≤ 1000) :
    ∃ v' Y, (Builtin.append_ #[38, 38] 38 #[pv, .slice (some ⟨X.heap.size, 0, none⟩) 1 1]).run Tryz.prog (X.alloc (.cells (nv (f (ps.getD i 0).toNat)) 65)) = .ok v' Y ∧ Pr w Y gN n k f v' (i + 1) pl ps := by
  obtain ⟨i0, hi0, hz0, hz1, hz2⟩ := info55x
  have hbl : Below X.heap.size X (X.alloc (.cells (nv (f (ps.getD i 0).toNat)) 65)) := (Below.refl _ _).alloc (Nat.le_refl _) _
  have s1 := s.below hbl
  obtain ⟨v', Y, hrun, hown, hg, _⟩ := run_append_src (P := Tryz.prog) (X.alloc (.cells (nv (f (ps.getD i 0).toNat)) 65)) (gN + 1) 38 38 65 i0 _ 60 60 Tryz.underlying38 hi0 hz0 hz1 hz2 (nv_size 0) (by omega) pv i _ s1.pv _ 1 (nvL (f (ps.getD i 0).toNat)) (src_new X _ _) (by unfold maxLen; omega) (by omega) (by have := s1.nr.lt; omega)
  refine ⟨v', Y, hrun, s1.nr.kept hg (fun j e => by have := (s1.pv.lt j e).1; omega), ?_, s1.pl.kept hg (own_types12 s1.pl s1.pv (by decide))⟩
  have hgd : ps.getD i 0 = ps[i] := by simp [List.getD, hi]
  rw [List.take_succ_eq_append_getElem hi, nsV_snoc, ← hgd]
  exact hown
theorem Pr.store {q : Nat} (s : Pr w X gN n (q + 1) f pv i pl ps) (hq : q < n) : Pr w (X.setCells gN (q * 60) (nvL (f q))) gN n (q + 1) f pv i pl ps := by
  have hg := grown_setNv gN (nvL (f q)) (q * 60) X
  have h := s.nr.store hq
  exact ⟨⟨fun p h1 h2 => h.rows p (by omega) h2, h.ok, h.lt, h.h0, h.b⟩, own_other s.pv (Nat.lt_succ_self _) hg, own_other s.pl (Nat.lt_succ_self _) hg⟩
theorem Pr.start (s : Nr w X gN n k f) (hp : X.ownsRow (gN + 1) 65 60 pv 0 []) (hl : X.ownsRow (gN + 1) 2 1 pl ps.length (intsV ps)) : Pr w X gN n k f pv 0 pl ps := ⟨s, by rw [List.take_zero]; exact hp, hl⟩
end
section
variable {ops : Array Oper} {rest : List Oper} {op : Oper} {a : Act} {w : World} {Q : Exit → Act → World → Prop} {K : Act → World → Prop}
theorem list_store_nr (hgd : op.guard = none) (x y : Operand) (ho : op.op = .store 65 x y) (gN q n : Nat) (f : Nat → Nat) (hx : a.eval x = .pointer (some ⟨gN, q * 60, none⟩)) (hy : a.eval y = .agg (nv (f q))) {w0 : World} (s : Nr w0 w gN n (q + 1) f) (hq : q < n)
    (h : ∀ Y, Nr w0 Y gN n q f → wpList Tryz.prog ops Q rest (a.put op.dst undef) Y) : wpList Tryz.prog ops Q (op :: rest) a w :=
  wpList_plain hgd fun _ hK => wp_store_nv x y ho gN (q * 60) (f q) hx hy (s.there hq) (fun Y _ _ e => hK _ _ (h Y (by rw [e]; exact s.store hq)))
end
set_option maxRecDepth 100000 in
theorem make55 (w : World) (n : Nat) (hn : n ≤ 60) : ∃ W, (Instr.makeSlice 38 (.int .i64 (n : Int)) (.int .i64 (n : Int))).run Tryz.prog w = .ok (.slice (some ⟨w.heap.size, 0, none⟩) n n) W ∧ ∀ f, Nr w W w.heap.size n n f := by
  obtain ⟨i0, hi0, hz0, hz1, hz2⟩ := info55x
  obtain ⟨W, hr, ho, hg⟩ := run_makeSlice_full (P := Tryz.prog) (w := w) w.heap.size 38 65 i0 _ 60 Tryz.underlying38 hi0 hz0 hz1 .i64 .i64 n (by omega) (by rw [hz2]; omega) (by unfold maxLen; omega) (Nat.le_refl _)
  refine ⟨W, hr, fun f => ⟨fun q h1 h2 => by omega, fun j hj => ?_, (ho.lt _ rfl).2, Nat.le_refl _, ⟨hg.os, hg.tape, hg.output, hg.size, fun k hk => hg.block k hk (by simp)⟩⟩⟩
  rw [Nat.zero_add, ho.cellAt j hj]
  refine ⟨?_, ?_⟩
  · rw [List.getElem?_eq_getElem (by rw [ho.1]; exact hj)]; rfl
  · rcases ho.2 with ⟨h', _⟩ | ⟨g', cap', cur, h', _, hg', _⟩
    · cases h'
    · injection h' with h1 _ _
      injection h1 with h1
      injection h1 with h1 _ _
      subst h1
      exact frozen_of_row _ _ _ _ _ hg'

set_option maxHeartbeats 8000000 in
set_option maxRecDepth 100000 in
theorem implNeedsOfA (a : Option Addr) (c : Nat) (t : List Nd) (w : World) (hin : NodesIn w a t.length t) (hint : IntT t) (hsh : ShortT t) (ht : treeB t = true) :
    Calls Tryz.prog 40 #[.slice a t.length c, .func (.func 41) #[] #[]] w fun e w' => ∃ gN, e = .returned (.slice (some ⟨gN, 0, none⟩) t.length t.length) ∧ Nr w w' gN t.length 0 (nd12 t []) := by
  have h60 := (treeB_one.1 ht).1
  obtain ⟨W1, hmk, hnr⟩ := make55 w t.length h60
  have HNi : Hid (∀ X, Below w.heap.size w X → NodesIn X a t.length t) := fun X hb => hin.below hb
  have HPo : Hid (∀ (X : World) (q : Nat), Below w.heap.size w X → q < t.length → Calls Tryz.prog 43 #[.slice a t.length c, .int .i64 (q : Int)] X fun e w' => ∃ v, e = .returned v ∧ w'.ownsRow X.heap.size 2 1 v (pts10 t (q : Int)).length (intsV (pts10 t (q : Int))) ∧ Below X.heap.size X w') := fun X q hb hq => by
    have h := implPartsOf a t.length c t (q : Int) X (hin.below hb) hint hsh (by omega) (by omega)
    rw [parts_at ht hq] at h
    exact h
  obtain ⟨F, hFd⟩ : ∃ F : Nat → Nat → Nat → Nat, F = (fun _ x y => pairN x y) := ⟨_, rfl⟩
  have HSt : Hid (∀ q, q < t.length → nd12 t [] q = stepN F q (t.getD q nd0) ((pts10 t (q : Int)).map (fun p => nd12 t [] p.toNat))) := fun q hq => by rw [hFd]; exact nd_step ht (fun q x y => pair_least t q x y) hq
  have HRg : Hid (∀ q, q < t.length → nd12 t [] q ≤ 60) := fun q hq => (nd_range ht hq).2.1
  have HPa : Hid (∀ q i, q < t.length → i < (pts10 t (q : Int)).length → ∃ p : Nat, (pts10 t (q : Int)).getD i 0 = (p : Int) ∧ q < p ∧ p < t.length) := fun q i hq hi => part_at ht hq hi
  have HKl : Hid (∀ q, q < t.length → (pts10 t (q : Int)).length = kidsN (t.getD q nd0) ∧ kidsN (t.getD q nd0) ≤ 3) := fun q hq => ⟨by unfold pts10; rw [partsGo_len, Int.toNat_natCast], by
    obtain ⟨_, hnb, _⟩ := end_parts (tree_ends (treeB_one.1 ht).2 hq)
    exact (kidsV_ok hnb).2⟩
  have HCl : Hid (∀ (X : World) (q x y : Nat), Below w.heap.size w X → q < t.length → x ≤ 60 → y ≤ 60 → Calls Tryz.prog 41 #[.int .i64 (q : Int), .agg (nv x), .agg (nv y)] X fun e w' => e = .returned (.agg (nv (F q x y))) ∧ Below X.heap.size X w') := fun X q x y _ _ hx hy => by rw [hFd]; exact implLeast1 (q : Int) x y X hx hy
  have hnr0 : Hid (Nr w W1 w.heap.size t.length t.length (nd12 t [])) := hnr _
  generalize nd12 t [] = f at *
  have hn0 : 1 ≤ t.length := (of_decide_eq_true ht).1.1
  obtain ⟨gN, hgN⟩ : ∃ gN, w.heap.size = gN := ⟨_, rfl⟩
  rw [hgN] at hmk hnr0
  have HgN : Hid (w.heap.size = gN) := hgN
  obtain ⟨n, hn⟩ : ∃ n, t.length = n := ⟨_, rfl⟩
  rw [hn] at h60 hmk HNi HPo HSt HRg HPa HKl HCl hnr0 hn0 ⊢
  clear hgN hin hint hsh ht hnr hn hFd
  go_enter Tryz.func40, Tryz.ntmps40
  go_wp2
  go_loopw [6] (fun av wx => ∃ k : Nat, k ≤ n ∧ av = .int .i64 ((k : Int) - 1) ∧ Hid (Nr w wx gN n k f)) (fun av _ => (intOf av + 1).toNat)
  case atStart => exact ⟨n, Nat.le_refl _, rfl, hnr0⟩
  case round =>
    obtain ⟨k, hk, rfl, st⟩ := hrel
    clear hnr0 hmk
    rcases k with _ | q
    · go_wp2
      go_ret
      exact ⟨gN, rfl, st.out⟩
    · rw [show ((q + 1 : Nat) : Int) - 1 = (q : Int) by omega]
      have hqn : q < n := hk
      have hq1 : (q : Int) < (n : Int) := by omega
      have hB0 : Below wr.heap.size wr (wr.alloc (.cells #[] 65)) := (Below.refl _ _).alloc (Nat.le_refl _) _
      have hP0 : (wr.alloc (.cells #[] 65)).ownsRow (gN + 1) 65 60 (.slice (some ⟨wr.heap.size, 0, none⟩) 0 0) 0 [] := World.ownsRow_lit wr #[] 0 st.out.lt (by decide) rfl
      obtain ⟨W2, hW2⟩ : ∃ W2, wr.alloc (.cells #[] 65) = W2 := ⟨_, rfl⟩
      rw [hW2] at hB0 hP0
      have HN2 : Hid (Nr w W2 gN n (q + 1) f) := st.out.below hB0
      have HP2 : Hid (W2.ownsRow (gN + 1) 65 60 (.slice (some ⟨wr.heap.size, 0, none⟩) 0 0) 0 []) := hP0
      have HF1 : Hid (_) := HSt.out q hqn
      have HK1 : Hid (_) := HKl.out q hqn
      have HP1 : Hid (∀ i, i < (pts10 t (q : Int)).length → ∃ p : Nat, (pts10 t (q : Int)).getD i 0 = (p : Int) ∧ q < p ∧ p < n) := fun i hi => HPa.out q i hqn hi
      have HC1 : Hid (_) := HPo.out W2 q HN2.out.b hqn
      obtain ⟨ps, hps⟩ : ∃ ps, pts10 t (q : Int) = ps := ⟨_, rfl⟩
      rw [hps] at HF1 HK1 HP1 HC1
      obtain ⟨nq, hnq⟩ : ∃ nq, t.getD q nd0 = nq := ⟨_, rfl⟩
      rw [hnq] at HF1 HK1
      obtain ⟨m, hm⟩ : ∃ m, ps.length = m := ⟨_, rfl⟩
      rw [hm] at HK1 HP1 HC1
      have HM : Hid (ps.length = m) := hm
      have HNq : Hid (t.getD q nd0 = nq) := hnq
      have hm3 : m ≤ 3 := by have := HK1.out; omega
      clear hB0 hP0 hps hnq hm
      go_wp2_with fail
      refine Calls.mono HC1.out ?_
      rintro e W3 ⟨pl, rfl, hpl, hb3⟩
      obtain ⟨la, lc, rfl⟩ := own_any12 hpl
      have HS3 : Hid (Pr w W3 gN n (q + 1) f (.slice (some ⟨wr.heap.size, 0, none⟩) 0 0) 0 (.slice la m lc) ps) := Pr.start (HN2.out.below hb3) (own_below HP2.out hb3) (by rw [HM.out]; exact own_base hpl (by have := HN2.out.lt; omega))
      clear hpl hb3 HC1 HN2 HP2 hW2
      go_wp2
      go_loopw [7, 25] (fun pv iv wx => ∃ i : Nat, iv = .int .i64 (i : Int) ∧ i ≤ m ∧ Hid (Pr w wx gN n (q + 1) f pv i (.slice la m lc) ps)) (fun _ iv _ => m - (intOf iv).toNat)
      case atStart => exact ⟨0, rfl, Nat.zero_le _, HS3⟩
      case round =>
        obtain ⟨i, rfl, hi, sp⟩ := hrel
        clear HS3 st
        rename World => W
        by_cases him : (i : Int) < (m : Int)
        · obtain ⟨p, hp, hqp, hpn⟩ := HP1.out i (by omega)
          have hp1 : (p : Int) < (n : Int) := by omega
          have hrg := sp.out.nr.rows p (by omega) hpn
          obtain ⟨v', Y, hrun, sp'⟩ := sp.out.push (by rw [HM.out]; omega) (by rw [HM.out]; omega)
          rw [hp, Int.toNat_natCast] at hrun
          obtain ⟨la', lc', e, has⟩ := own_as sp.out.pl
          injection e with e1 e0 e2
          subst e1 e2
          clear e0
          obtain ⟨b, off, rfl, hbl, hci⟩ := has i (by rw [HM.out]; omega)
          rw [hp] at hci
          have SP : Hid (Pr w Y gN n (q + 1) f v' (i + 1) (.slice (some ⟨b, off, none⟩) m lc) ps) := sp'
          have hpl2 := sp.out.nr.b
          clear sp' has hp hbl
          go_wp2_with (guard_target = wpList _ _ _ _ _ _; first | (refine list_load_nv rfl _ rfl 33 rfl _ _ (f p) rfl (by exact hrg) ?_) | (refine list_slice1_nv rfl _ rfl (f p) rfl ?_) | (at_builtin; refine wpList_append_run rfl (.tmp 29) (.tmp 34) 38 rfl _ _ _ rfl rfl hrun ?_))
          go_roundw
          case rel => exact ⟨i + 1, by go_num, by omega, SP⟩
          case measure => simp [intOf]; omega
        · have him2 : i = m := by omega
          subst him2
          have hpv := sp.out.pv
          rw [List.take_of_length_le (by rw [HM.out]; exact Nat.le_refl _)] at hpv
          have hpv2 : W.ownsRow (gN + 1) 65 60 u7 ps.length (nsV f ps) := by rw [HM.out]; exact hpv
          obtain ⟨pa, pc, e7, -, -⟩ := ns_of hpv2
          rw [HM.out] at e7
          subst e7
          have HNs : Hid (∀ X, Pr w X gN n (q + 1) f (.slice pa i pc) i (.slice la i lc) ps → NsIn X pa (ps.map (fun p => f p.toNat))) := fun X h => by
            have h1 := h.pv
            rw [List.take_of_length_le (by rw [HM.out]; exact Nat.le_refl _)] at h1
            have h2 : X.ownsRow (gN + 1) 65 60 (.slice pa i pc) ps.length (nsV f ps) := by rw [HM.out]; exact h1
            obtain ⟨a', c', e, h3, -⟩ := ns_of h2
            injection e with e1 e0 e2
            subst e1
            exact h3
          clear hpv hpv2
          have hni := (HNi.out W sp.out.nr.b).2 q hqn
          rw [HNq.out] at hni
          obtain ⟨b, off, rfl, hbl, c0, c1, c2, c3⟩ := hni
          obtain ⟨kk, aa, pp, ff⟩ := nq
          simp only at c0 c1 c2 c3
          have HI : Hid (∀ X, Calls Tryz.prog 74 #[.agg #[.int .i64 kk, .int .i64 aa, .string ⟨pp.toArray⟩, .string ⟨ff.toArray⟩]] X fun e w' => e = .returned (.bool (pairB (kk, aa, pp, ff))) ∧ Below X.heap.size X w') := fun X => implIsPair (kk, aa, pp, ff) X
          go_wp2_with fail
          refine Calls.mono (HI.out W) ?_
          rintro e W5 ⟨rfl, hb5⟩
          have sq : Hid (Pr w W5 gN n (q + 1) f (.slice pa i pc) i (.slice la i lc) ps) := sp.out.below hb5
          have d0 : W5.cell? ⟨b, off + q * 4, none⟩ = some (.int .i64 kk) := (hb5.cell (p := ⟨b, off + q * 4, none⟩) hbl).trans c0
          have hF1 := HF1.out
          unfold stepN at hF1
          clear hb5 sp c0 c1 c2 c3 HI HF1 hbl
          rcases hpb : pairB (kk, aa, pp, ff) with _ | _
          · rw [hpb, if_neg (by simp)] at hF1
            by_cases h8 : kk = 8
            · rw [if_pos h8, List.length_map, HM.out] at hF1
              have HFq : Hid (f q = cn (ps.map (fun p => f p.toNat)) i) := hF1
              subst h8
              clear hF1 hpb
              go_wp2_with fail
              refine Calls.mono (implNeedOfCall pa i pc (ps.map (fun p => f p.toNat)) _ (by rw [List.length_map]; exact HM.out) (HNs.out _ sq.out) (by omega)) ?_
              rintro e W6 ⟨rfl, hb6⟩
              rw [← HFq.out]
              have sr : Hid (Pr w W6 gN n (q + 1) f (.slice pa i pc) i (.slice la i lc) ps) := sq.out.below hb6
              clear hb6 sq d0 HFq
              go_wp2_with (guard_target = wpList _ _ _ _ _ _; (refine list_store_nr rfl _ _ rfl gN q n f rfl rfl sr.out.nr hqn (fun Y7 HR0 => ?_)))
              have HR : Hid (Nr w Y7 gN n q f) := HR0
              go_roundw
              case rel => exact ⟨q, by omega, rfl, HR⟩
              case measure => simp [intOf]
            · rw [if_neg h8] at hF1
              have HFq : Hid (f q = gr (ps.map (fun p => f p.toNat))) := hF1
              have h8b : (kk == 8) = false := beq_eq_false_iff_ne.2 h8
              clear hF1 hpb h8
              go_wp2_with fail
              refine Calls.mono (implGreatest pa i pc (ps.map (fun p => f p.toNat)) _ (by rw [List.length_map]; exact HM.out) (HNs.out _ sq.out) (by omega)) ?_
              rintro e W6 ⟨rfl, hb6⟩
              rw [← HFq.out]
              have sr : Hid (Pr w W6 gN n (q + 1) f (.slice pa i pc) i (.slice la i lc) ps) := sq.out.below hb6
              clear hb6 sq d0 HFq
              go_wp2_with (guard_target = wpList _ _ _ _ _ _; (refine list_store_nr rfl _ _ rfl gN q n f rfl rfl sr.out.nr hqn (fun Y7 HR0 => ?_)))
              have HR : Hid (Nr w Y7 gN n q f) := HR0
              go_roundw
              case rel => exact ⟨q, by omega, rfl, HR⟩
              case measure => simp [intOf]
          · rw [hpb, if_pos rfl] at hF1
            have hk36 : 3 ≤ kk ∧ kk ≤ 6 := by
              have h := hpb
              unfold pairB at h
              rw [Bool.and_eq_true, decide_eq_true_iff, decide_eq_true_iff] at h
              exact h
            have hi2 : i = 2 := by have h := HK1.out.1; rw [kids_four hk36] at h; exact h
            obtain ⟨p0, e0, hq0, hl0⟩ := HP1.out 0 (by omega)
            obtain ⟨p1, e1, hq1', hl1⟩ := HP1.out 1 (by omega)
            have hg0 : (ps.map (fun p => f p.toNat)).getD 0 0 = f p0 := by
              have : 0 < ps.length := by rw [HM.out]; omega
              have h2 : (ps.map (fun p => f p.toNat)).getD 0 0 = f (ps.getD 0 0).toNat := by simp [List.getD, this]
              rw [h2, e0, Int.toNat_natCast]
            have hg1 : (ps.map (fun p => f p.toNat)).getD 1 0 = f p1 := by
              have : 1 < ps.length := by rw [HM.out]; omega
              have h2 : (ps.map (fun p => f p.toNat)).getD 1 0 = f (ps.getD 1 0).toNat := by simp [List.getD, this]
              rw [h2, e1, Int.toNat_natCast]
            rw [hg0, hg1] at hF1
            obtain ⟨gp, go2, rfl, -, -⟩ := HNs.out W5 sq.out 0 (by rw [List.length_map, HM.out]; omega)
            have HR0 : Hid (∀ X, Pr w X gN n (q + 1) f (.slice (some ⟨gp, go2, none⟩) i pc) i (.slice la i lc) ps → X.rangeAt gp go2 (nvL (f p0))) := fun X h => by
              obtain ⟨b', o', e, _, h3⟩ := HNs.out X h 0 (by rw [List.length_map, HM.out]; omega)
              injection e with e
              injection e with e2 e3 _
              subst e2 e3
              rw [hg0] at h3
              simpa using h3
            have HR1 : Hid (∀ X, Pr w X gN n (q + 1) f (.slice (some ⟨gp, go2, none⟩) i pc) i (.slice la i lc) ps → X.rangeAt gp (go2 + 60) (nvL (f p1))) := fun X h => by
              obtain ⟨b', o', e, _, h3⟩ := HNs.out X h 1 (by rw [List.length_map, HM.out]; omega)
              injection e with e
              injection e with e2 e3 _
              subst e2 e3
              rw [hg1] at h3
              simpa using h3
            have HCq : Hid (∀ X, Pr w X gN n (q + 1) f (.slice (some ⟨gp, go2, none⟩) i pc) i (.slice la i lc) ps → Calls Tryz.prog 41 #[.int .i64 (q : Int), .agg (nv (f p0)), .agg (nv (f p1))] X fun e w' => e = .returned (.agg (nv (f q))) ∧ Below X.heap.size X w') := fun X h => by
              rw [hF1]
              exact HCl.out X q (f p0) (f p1) h.nr.b hqn (HRg.out p0 hl0) (HRg.out p1 hl1)
            have h0i : (0 : Int) < (i : Int) := by omega
            have h1i : (1 : Int) < (i : Int) := by omega
            have h0n : 0 < i := by omega
            have h1n : 1 < i := by omega
            clear hF1 hg0 hg1 e0 e1 hpb d0 hi2 hk36
            go_wp2
            refine wp_region_held_drew (S := fun X => Pr w X gN n (q + 1) f (.slice (some ⟨gp, go2, none⟩) i pc) i (.slice la i lc) ps) (by kernel_rfl) sq.out.drew (fun hHeld => ?_)
            refine wpAnyH_take (i := 0) (oi := ⟨some 48, _, _, _, _, _⟩) (v := ?v0) rfl (by kernel_rfl) (by kernel_rfl) (by kernel_rfl) (fun _ _ _ h => h) (Or.inl ⟨by rfl, ?hy0⟩) (by assumption) ?rest0
            case hy0 => (intro wq hSw; clear hSw; first | (go_simp; done) | (go_simp; with_reducible rfl))
            simp only [Act.put, List.setIfInBounds_toArray, List.set_cons_zero, List.set_cons_succ]
            refine wpAnyH_take (i := 1) (oi := ⟨some 49, _, _, _, _, _⟩) (v := ?v1) rfl (by kernel_rfl) (by kernel_rfl) (by kernel_rfl) (fun _ _ _ h => h) (Or.inl ⟨by rfl, ?hy1⟩) (by assumption) ?rest1
            case hy1 => (intro wq hSw; clear hSw; first | (go_simp; done) | (go_simp; with_reducible rfl))
            simp only [Act.put, List.setIfInBounds_toArray, List.set_cons_zero, List.set_cons_succ]
            refine wpAnyH_take (i := 2) (oi := ⟨some 50, _, _, _, _, _⟩) (v := ?v2) rfl (by kernel_rfl) (by kernel_rfl) (by kernel_rfl) (fun _ _ _ h => h) (Or.inl ⟨by rfl, ?hy2⟩) (by assumption) ?rest2
            case hy2 => (intro wq hSw; clear hSw; first | (go_simp; done) | (go_simp; with_reducible rfl))
            simp only [Act.put, List.setIfInBounds_toArray, List.set_cons_zero, List.set_cons_succ]
            refine wpAnyH_take (i := 3) (oi := ⟨some 51, _, _, _, _, _⟩) (v := ?v3) rfl (by kernel_rfl) (by kernel_rfl) (by kernel_rfl) (fun _ _ _ h => h) (Or.inl ⟨by rfl, ?hy3⟩) (by assumption) ?rest3
            case hy3 => (intro wq hSw; clear hSw; first | (go_simp; done) | (go_simp; with_reducible rfl))
            simp only [Act.put, List.setIfInBounds_toArray, List.set_cons_zero, List.set_cons_succ]
            refine wpAnyH_take (i := 4) (oi := ⟨some 52, _, _, _, _, _⟩) (v := ?v4) rfl (by kernel_rfl) (by kernel_rfl) (by kernel_rfl) (fun _ _ _ h => h) (Or.inl ⟨by rfl, ?hy4⟩) (by assumption) ?rest4
            case hy4 => (intro wq hSw; clear hSw; first | (go_simp; done) | (go_simp; with_reducible rfl))
            simp only [Act.put, List.setIfInBounds_toArray, List.set_cons_zero, List.set_cons_succ]
            refine wpAnyH_take (i := 5) (oi := ⟨some 53, _, _, _, _, _⟩) (v := ?v5) rfl (by kernel_rfl) (by kernel_rfl) (by kernel_rfl) (fun _ _ _ h => h) (Or.inl ⟨by rfl, ?hy5⟩) (by assumption) ?rest5
            case hy5 => (intro wq hSw; clear hSw; first | (go_simp; done) | (go_simp; with_reducible rfl))
            simp only [Act.put, List.setIfInBounds_toArray, List.set_cons_zero, List.set_cons_succ]
            refine wpAnyH_take (i := 6) (oi := ⟨some 54, _, _, _, _, _⟩) (v := .agg (nv (f p0))) rfl (by kernel_rfl) (by kernel_rfl) (by kernel_rfl) (fun _ _ _ h => h) (yields_load_nv (by rfl) _ rfl gp (go2) (f p0) rfl (fun v h => HR0.out v h)) (by assumption) ?_
            simp only [Act.put, List.setIfInBounds_toArray, List.set_cons_zero, List.set_cons_succ]
            refine wpAnyH_take (i := 7) (oi := ⟨some 55, _, _, _, _, _⟩) (v := ?v7) rfl (by kernel_rfl) (by kernel_rfl) (by kernel_rfl) (fun _ _ _ h => h) (Or.inl ⟨by rfl, ?hy7⟩) (by assumption) ?rest7
            case hy7 => (intro wq hSw; clear hSw; first | (go_simp; done) | (go_simp; with_reducible rfl))
            simp only [Act.put, List.setIfInBounds_toArray, List.set_cons_zero, List.set_cons_succ]
            refine wpAnyH_take (i := 8) (oi := ⟨some 56, _, _, _, _, _⟩) (v := ?v8) rfl (by kernel_rfl) (by kernel_rfl) (by kernel_rfl) (fun _ _ _ h => h) (Or.inl ⟨by rfl, ?hy8⟩) (by assumption) ?rest8
            case hy8 => (intro wq hSw; clear hSw; first | (go_simp; done) | (go_simp; with_reducible rfl))
            simp only [Act.put, List.setIfInBounds_toArray, List.set_cons_zero, List.set_cons_succ]
            refine wpAnyH_take (i := 9) (oi := ⟨some 57, _, _, _, _, _⟩) (v := .agg (nv (f p1))) rfl (by kernel_rfl) (by kernel_rfl) (by kernel_rfl) (fun _ _ _ h => h) (yields_load_nv (by rfl) _ rfl gp (go2 + 60) (f p1) rfl (fun v h => HR1.out v h)) (by assumption) ?_
            simp only [Act.put, List.setIfInBounds_toArray, List.set_cons_zero, List.set_cons_succ]
            refine wpAnyH_ready (rs := [10]) (by kernel_rfl) (by simp) ?_
            refine AllReadyH.cons rfl (fun K hK => ?_) AllReadyH.nil
            go_simp
            refine Calls.mono (HCq.out _ hHeld) ?_
            rintro e W6 ⟨rfl, hb6⟩
            dsimp only
            refine hK.out _ _ (by exact hHeld.below hb6) (fun hHeld => ?_)
            clear hK K
            (try simp only [Act.put, List.setIfInBounds_toArray, List.set_cons_zero, List.set_cons_succ])
            refine wpAnyH_take (i := 11) (oi := ⟨some 59, _, _, _, _, _⟩) (v := ?v11) rfl (by kernel_rfl) (by kernel_rfl) (by kernel_rfl) (fun _ _ _ h => h) (Or.inl ⟨by rfl, ?hy11⟩) (by assumption) ?rest11
            case hy11 => (intro wq hSw; clear hSw; first | (go_simp; done) | (go_simp; with_reducible rfl))
            simp only [Act.put, List.setIfInBounds_toArray, List.set_cons_zero, List.set_cons_succ]
            refine wpAnyH_ready (rs := [12]) (by kernel_rfl) (by simp) ?_
            refine AllReadyH.cons rfl (fun K hK => ?_) AllReadyH.nil
            refine step_of_wp rfl (wp_store_nv _ _ rfl gN (q * 60) (f q) rfl rfl (hHeld.nr.there hqn) (fun W7 hn7 hg7 hE7 => ?_))
            have HR : Hid (Nr w W7 gN n q f) := by rw [hE7]; exact hHeld.nr.store hqn
            have HS7 : Pr w W7 gN n (q + 1) f (.slice (some ⟨gp, go2, none⟩) i pc) i (.slice la i lc) ps := by rw [hE7]; exact hHeld.store hqn
            clear hE7
            refine hK.out _ _ (by exact HS7) (fun hHeld => ?_)
            clear hK K
            (try simp only [Act.put, List.setIfInBounds_toArray])
            refine wpAnyH_done (by kernel_rfl) ?_ _
            clear hHeld hn7 hg7 hb6 sq HCq HR0 HR1 HS7
            go_wp2
            go_roundw
            case rel => exact ⟨q, by omega, rfl, HR⟩
            case measure => simp [intOf]


end Go.Proofs.YtnpbckgaeaameaaGreat

/-! Contracts of chapter 12's landed code: Need, NeedBy, FirstPart. -/
namespace Go.Proofs.YtnpbckgaeaameaaGreat
open Go.RowKit

set_option maxHeartbeats 1000000 in
set_option maxRecDepth 100000 in
theorem implLeast (a : Option Addr) (c : Nat) (t : List Nd) (w : World) (hin : NodesIn w a t.length t) (hint : IntT t) (hsh : ShortT t) (ht : treeB t = true) :
    Calls Tryz.prog 21 #[.slice a t.length c] w fun e w' => ∃ gN, e = .returned (.slice (some ⟨gN, 0, none⟩) t.length t.length) ∧ Nr w w' gN t.length 0 (nd12 t []) := by
  have HC : Hid (_) := implNeedsOfA a c t w hin hint hsh ht
  clear hin hint hsh ht
  go_enter Tryz.func21, Tryz.ntmps21
  go_wp2_with fail
  refine Calls.mono HC.out ?_
  rintro e w1 ⟨gN, rfl, hnr⟩
  go_wp2
  go_ret
  exact ⟨gN, rfl, hnr⟩

end Go.Proofs.YtnpbckgaeaameaaGreat

/-! The contract of chapter 12's landed code: FirstPart. -/
namespace Go.Proofs.YtnpbckgaeaameaaGreat
open Go.RowKit

theorem first_gr {x y : Nat} (hx : 1 ≤ x) : (gr [x, y] = x) ↔ y ≤ x := by rw [gr_two]; omega
/-- What a node's parts tell of which goes first. -/
theorem first_eq {t : List Nd} (ht : treeB t = true) {q p0 p1 : Nat} (hq : q < t.length) (hk : 3 ≤ (t.getD q nd0).1 ∧ (t.getD q nd0).1 ≤ 6) (e0 : (pts10 t (q : Int)).getD 0 0 = (p0 : Int)) (e1 : (pts10 t (q : Int)).getD 1 0 = (p1 : Int)) (h0 : p0 < t.length) (h1 : p1 < t.length) :
    firstT t (q : Int) = if decide (gr [nd12 t [] p0, nd12 t [] p1] = nd12 t [] p0) = true then 0 else 1 := by
  have r0 := nd_range (os := []) ht h0
  have r1 := nd_range (os := []) ht h1
  unfold firstT
  rw [if_pos ⟨ht, by omega, by omega, by rw [Int.toNat_natCast]; exact hk⟩, e0, e1, ← r0.2.2, ← r1.2.2]
  by_cases h : nd12 t [] p1 ≤ nd12 t [] p0
  · rw [if_pos (by omega), if_pos (decide_eq_true ((first_gr r0.1).2 h))]
  · rw [if_neg (by omega), if_neg (fun e => h ((first_gr r0.1).1 (of_decide_eq_true e)))]
/-- Two needs that lie somewhere behind what was there. -/
structure Tv (w X : World) (g1 g2 x y : Nat) : Prop where
  a : Nb X g1 0 x
  b : Nb X g2 0 y
  bl : Below w.heap.size w X
theorem wp_alloc_nvD {op : Oper} {a : Act} {w : World} {Q : Exit → Act → World → Prop} {K : Act → World → Prop} (ho : op.op = .alloc 65) (d : Nat) (hd : op.dst = some d) (h : ∀ Y g, Nb Y g 0 0 → Below w.heap.size w Y → w.heap.size ≤ g → K (a.put (some d) (.pointer (some ⟨g, 0, none⟩))) Y) : op.wp Tryz.prog a w K Q :=
  wp_alloc_nv ho (fun Y g h1 h2 h3 => by rw [hd]; exact h Y g h1 h2 h3)
theorem Tv.below {w X Y : World} {g1 g2 x y : Nat} (s : Tv w X g1 g2 x y) (hb : Below X.heap.size X Y) : Tv w Y g1 g2 x y := ⟨s.a.below hb, s.b.below hb, s.bl.trans (hb.mono s.bl.size)⟩
theorem Tv.drew {w X : World} {g1 g2 x y : Nat} (s : Tv w X g1 g2 x y) : Tv w X.drew g1 g2 x y := s.below ⟨rfl, rfl, rfl, Nat.le_refl _, fun _ _ => rfl⟩

def fo13 (x y : Nat) : Int := if decide (gr [x, y] = x) = true then 0 else 1
set_option maxHeartbeats 2000000 in
set_option maxRecDepth 100000 in
theorem implFirstOf (x y : Nat) (w : World) (hx : x ≤ 60) (hy : y ≤ 60) :
    Calls Tryz.prog 78 #[.agg (nv x), .agg (nv y)] w fun e w' => e = .returned (.int .i64 (fo13 x y)) ∧ Below w.heap.size w w' := by
  have heq0 := run_eql_nv (gr [x, y]) x (by rw [gr_two]; omega) hx
  have HF : Hid (fo13 x y = if decide (gr [x, y] = x) = true then 0 else 1) := by exact (rfl : fo13 x y = _)
  obtain ⟨bd, hbd⟩ : ∃ bd, decide (gr [x, y] = x) = bd := ⟨_, rfl⟩
  rw [hbd] at HF heq0
  generalize fo13 x y = fT at HF ⊢
  clear hbd
  go_enter Tryz.func78, Tryz.ntmps78
  go_wp2_with (guard_target = wpList _ _ _ _ _ _; first | (refine list_box_nv rfl _ rfl 2 rfl x rfl (fun Y1 g7 hN1 hB1 hG1 => ?_)) | (refine list_box_nv rfl _ rfl 3 rfl y rfl (fun Y2 g8 hN2 hB2 hG2 => ?_)))
  have st : Hid (Tv w Y2 g7 g8 x y) := ⟨hN1.below hB2, hN2, hB1.trans (hB2.mono hB1.size)⟩
  clear hN1 hB1 hG1 hN2 hB2 hG2
  refine wp_region_held_drew (S := fun X => Tv w X g7 g8 x y) (by kernel_rfl) st.out.drew (fun hHeld => ?_)
  refine wpAnyH_take (i := 0) (oi := ⟨some 5, _, _, _, _, _⟩) (v := .agg (nv (x))) rfl (by kernel_rfl) (by kernel_rfl) (by kernel_rfl) (fun _ _ _ h => h) (yields_load_nv (by rfl) _ rfl g7 (0) (x) rfl (fun v h => h.a.cs)) (by assumption) ?_
  simp only [Act.put, List.setIfInBounds_toArray, List.set_cons_zero, List.set_cons_succ]
  refine wpAnyH_take (i := 1) (oi := ⟨some 6, _, _, _, _, _⟩) (v := .agg (nv (y))) rfl (by kernel_rfl) (by kernel_rfl) (by kernel_rfl) (fun _ _ _ h => h) (yields_load_nv (by rfl) _ rfl g8 (0) (y) rfl (fun v h => h.b.cs)) (by assumption) ?_
  simp only [Act.put, List.setIfInBounds_toArray, List.set_cons_zero, List.set_cons_succ]
  refine wpAnyH_take (i := 4) (oi := ⟨some 9, _, _, _, _, _⟩) (v := .agg (nv (x))) rfl (by kernel_rfl) (by kernel_rfl) (by kernel_rfl) (fun _ _ _ h => h) (yields_load_nv (by rfl) _ rfl g7 (0) (x) rfl (fun v h => h.a.cs)) (by assumption) ?_
  simp only [Act.put, List.setIfInBounds_toArray, List.set_cons_zero, List.set_cons_succ]
  refine wpAnyH_ready (rs := [2]) (by kernel_rfl) (by simp) ?_
  refine AllReadyH.cons rfl (fun K hK => ?_) AllReadyH.nil
  refine step_of_wp rfl (wp_slice2_nv _ _ rfl x y rfl rfl (fun W3 g4 hn3 hb3 _ => ?_))
  refine hK.out _ _ (by exact hHeld.below hb3) (fun hHeld => ?_)
  clear hK K
  (try simp only [Act.put, List.setIfInBounds_toArray])
  refine wpAnyH_ready (rs := [3]) (by kernel_rfl) (by simp) ?_
  refine AllReadyH.cons rfl (fun K hK => ?_) AllReadyH.nil
  go_simp
  refine (implGreatest _ 2 2 [x, y] _ rfl hn3 (by omega)).mono ?_
  rintro e W4 ⟨rfl, hb4⟩
  dsimp only
  refine hK.out _ _ (by exact hHeld.below hb4) (fun hHeld => ?_)
  clear hK K
  (try simp only [Act.put, List.setIfInBounds_toArray, List.set_cons_zero, List.set_cons_succ])
  refine wpAnyH_take (i := 5) (oi := ⟨some 10, _, _, _, _, _⟩) (v := ?v1) rfl (by kernel_rfl) (by kernel_rfl) (by kernel_rfl) (fun _ _ _ h => h) (Or.inl ⟨by rfl, ?hy1⟩) (by assumption) ?rest1
  case hy1 => (intro wq hSw; clear hSw; first | (go_simp; done) | (go_simp; with_reducible rfl))
  simp only [Act.put, List.setIfInBounds_toArray, List.set_cons_zero, List.set_cons_succ]
  have HBF : Hid (Below w.heap.size w W4) := hHeld.bl
  refine wpAnyH_done (by kernel_rfl) ?_ _
  clear hHeld hn3 hb3 hb4 st heq0
  cases bd
  · go_wp2
    go_ret
    exact ⟨by rw [HF.out]; rfl, HBF.out⟩
  · go_wp2
    go_ret
    exact ⟨by rw [HF.out]; rfl, HBF.out⟩

end Go.Proofs.YtnpbckgaeaameaaGreat
