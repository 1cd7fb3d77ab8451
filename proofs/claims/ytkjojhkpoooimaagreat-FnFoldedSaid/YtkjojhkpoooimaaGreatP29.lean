/-
  Parts of one proof, one behind the other: FoldJ3, FoldJ4.
-/
import Derived.Test.YtkjojhkpoooimaaGreatP28
import Derived.Laws.EntriesVeiled

/-! The contracts of chapter 11's landed code: the closure that calls itself, and FoldedTree. -/
namespace Go.Proofs.YtkjojhkpoooimaaGreat
open Go.RowKit

/-- What the closure holds: the nodes that are left (a of t are gone through), itself, the tree; all rows that it makes lie from B on. -/
structure St11 (W : World) (B L F g cp : Nat) (t : List Nd) (a : Nat) : Prop where
  left : ∃ A, W.cell? ⟨L, 0, none⟩ = some (.slice A (t.length - a) (cp - a)) ∧ (a < t.length → A = some ⟨g, a * 4, none⟩)
  lfz : W.frozen? ⟨L, 0, none⟩ = false
  fn : W.cell? ⟨F, 0, none⟩ = some (.func (.func 21) #[] #[.pointer (some ⟨L, 0, none⟩), .pointer (some ⟨F, 0, none⟩)])
  tree : NodesIn W (some ⟨g, 0, none⟩) t.length t
  cap : t.length ≤ cp
  cmax : cp ≤ maxLen
  lb : L < B
  fb : F < B
  gb : g < B
  lf : L ≠ F
  lg : L ≠ g
  bs : B ≤ W.heap.size
theorem St11.grown {W Y : World} {B L F g cp : Nat} {t : List Nd} {a : Nat} {row : Option Nat} (h : St11 W B L F g cp t a) (hg : W.grownBy Y row) (hr : ∀ k, row = some k → B ≤ k) : St11 Y B L F g cp t a := by
  have hb := h.bs
  have hl := h.lb
  have hf := h.fb
  have hgb := h.gb
  have kl : Y.heap[L]? = W.heap[L]? := hg.block L (by omega) (fun e => by have := hr L e.symm; omega)
  have kf : Y.heap[F]? = W.heap[F]? := hg.block F (by omega) (fun e => by have := hr F e.symm; omega)
  have kg : Y.heap[g]? = W.heap[g]? := hg.block g (by omega) (fun e => by have := hr g e.symm; omega)
  obtain ⟨A, e, hA⟩ := h.left
  refine ⟨⟨A, (World.cell?_of_block (a := ⟨L, 0, none⟩) kl).trans e, hA⟩, ?_, (World.cell?_of_block (a := ⟨F, 0, none⟩) kf).trans h.fn, h.tree.keep hg.size (fun b off e _ => by injection e with e; injection e with e1 _ _; subst e1; exact kg), h.cap, h.cmax, h.lb, h.fb, h.gb, h.lf, h.lg, Nat.le_trans h.bs hg.size⟩
  have h2 := h.lfz
  simp only [World.frozen?] at h2 ⊢
  rw [kl]
  exact h2
theorem St11.below {W Y : World} {B L F g cp : Nat} {t : List Nd} {a : Nat} (h : St11 W B L F g cp t a) (hb : Below W.heap.size W Y) : St11 Y B L F g cp t a := h.grown (row := none) (Below.by hb) (fun k e => by cases e)
/-- One more node is gone through. -/
theorem St11.next {W : World} {B L F g cp : Nat} {t : List Nd} {a : Nat} (h : St11 W B L F g cp t a) : St11 (W.setCell ⟨L, 0, none⟩ (.slice (if cp - a = 1 then some ⟨g, a * 4, none⟩ else some ⟨g, a * 4 + 4, none⟩) (t.length - a - 1) (cp - a - 1))) B L F g cp t (a + 1) := by
  have hc := h.cap
  have hg := grown_set W L 0 (.slice (if cp - a = 1 then some ⟨g, a * 4, none⟩ else some ⟨g, a * 4 + 4, none⟩) (t.length - a - 1) (cp - a - 1))
  have hbs := h.bs
  have kf := hg.block F (by have := h.fb; omega) (fun e => h.lf (by injection e with e; exact e.symm))
  have kg := hg.block g (by have := h.gb; omega) (fun e => h.lg (by injection e with e; exact e.symm))
  obtain ⟨A, e, hA⟩ := h.left
  refine ⟨⟨_, by rw [show t.length - (a + 1) = t.length - a - 1 by omega, show cp - (a + 1) = cp - a - 1 by omega]; exact World.cell?_setCell_same _ _ _ e, fun h2 => ?_⟩, by simpa using h.lfz, (World.cell?_of_block (a := ⟨F, 0, none⟩) kf).trans h.fn, h.tree.keep hg.size (fun b off e _ => by injection e with e; injection e with e1 _ _; subst e1; exact kg), h.cap, h.cmax, h.lb, h.fb, h.gb, h.lf, h.lg, Nat.le_trans h.bs hg.size⟩
  rw [if_neg (by omega)]
  congr 2
  omega
theorem NdAt.keep {W Y : World} {D : Nat} {k a : Int} {p f : List UInt8} (h : NdAt W D k a p f) (e : Y.heap[D]? = W.heap[D]?) : NdAt Y D k a p f :=
  ⟨(World.cell?_of_block (a := ⟨D, 0, none⟩) e).trans h.c0, (World.cell?_of_block (a := ⟨D, 1, none⟩) e).trans h.c1, (World.cell?_of_block (a := ⟨D, 2, none⟩) e).trans h.c2, (World.cell?_of_block (a := ⟨D, 3, none⟩) e).trans h.c3⟩
theorem NdAt.lt {W : World} {D : Nat} {k a : Int} {p f : List UInt8} (h : NdAt W D k a p f) : D < W.heap.size := World.block_lt_of_cell? W ⟨D, 0, none⟩ h.c0
theorem own_any {w : World} {base e size n : Nat} {v : Value} {xs : List Value} (h : w.ownsRow base e size v n xs) : ∃ a c, v = .slice a n c := by
  rcases own_forms h with ⟨rfl, rfl, _⟩ | ⟨g, cp, rfl⟩
  · exact ⟨none, 0, rfl⟩
  · exact ⟨some ⟨g, 0, none⟩, cp, rfl⟩

/-- What the loop over the parts holds: i of them are folded. -/
structure Lp11 (W wx : World) (B L F g cp N : Nat) (t : List Nd) (a : Nat) (n : Nd) (ks : List (List Nd)) (i : Nat) (pv : Value) (vs : List Value) (rs : List (List Nd)) : Prop where
  st : St11 wx B L F g cp t (a + 1 + flN ks i)
  nd : NdAt wx N n.1 n.2.1 n.2.2.1 n.2.2.2
  row : wx.ownsRow (N + 1) 24 1 pv i vs
  vl : vs.length = i
  rl : rs.length = i
  rows : ∀ j, j < i → wx.ownsRow B 46 4 (vs.getD j (.slice none 0 0)) (rs.getD j []).length (nodesV (rs.getD j []))
  fo : ∀ j, j < i → Fo (ks.getD j []) (rs.getD j [])
  nb : B ≤ N
  gr : W.grownBy wx (some L)

theorem Lp11.below {W wx Y : World} {B L F g cp N : Nat} {t : List Nd} {a : Nat} {n : Nd} {ks : List (List Nd)} {i : Nat} {pv : Value} {vs : List Value} {rs : List (List Nd)} (h : Lp11 W wx B L F g cp N t a n ks i pv vs rs) (hb : Below wx.heap.size wx Y) : Lp11 W Y B L F g cp N t a n ks i pv vs rs :=
  ⟨h.st.below hb, h.nd.below hb, own_below h.row hb, h.vl, h.rl, fun j hj => own_below (h.rows j hj) hb, h.fo, h.nb, World.grownBy.trans h.gr ⟨hb.os, hb.tape, hb.output, hb.size, fun k hk _ => hb.block k hk⟩⟩
theorem getD_snoc {α : Type} (l : List α) (x d : α) (j : Nat) : (j < l.length → (l ++ [x]).getD j d = l.getD j d) ∧ (j = l.length → (l ++ [x]).getD j d = x) := by
  refine ⟨fun h => ?_, fun h => ?_⟩
  · simp [List.getD, List.getElem?_append_left h]
  · subst h; simp [List.getD]

set_option maxHeartbeats 8000000 in
set_option maxRecDepth 100000 in
theorem implClosure (B L F g cp : Nat) (t : List Nd) (hlen : t.length ≤ 60) (hsh : ShortT t) (hint : IntT t) {s : List Nd} (hs : One s) : ∀ (W : World) (a : Nat) (post : List Nd), t.drop a = s ++ post → St11 W B L F g cp t a →
    Calls Tryz.prog 21 #[.pointer (some ⟨L, 0, none⟩), .pointer (some ⟨F, 0, none⟩)] W fun e W' => ∃ v r, e = .returned v ∧ Fo s r ∧ W'.ownsRow B 46 4 v r.length (nodesV r) ∧ St11 W' B L F g cp t (a + s.length) ∧ W.grownBy W' (some L) := by
  induction hs with
  | mk n ks hn hk ho ih =>
  intro W a post hd st
  have hal : a < t.length := by
    have h2 := congrArg List.length hd
    simp at h2
    omega
  have hna : t.getD a nd0 = n := (pts_sub hd hk ho).1
  obtain ⟨b, off, eb, hbl, c0, c1, c2, c3⟩ := st.tree.2 a hal
  injection eb with eb
  injection eb with eb1 eb2
  subst eb1 eb2
  rw [hna] at c0 c1 c2 c3
  rw [Nat.zero_add] at c0 c1 c2 c3
  obtain ⟨A, e0, hA⟩ := st.left
  obtain rfl := hA hal
  obtain ⟨W1, hW1⟩ : ∃ W1, W.alloc (.cells #[.int .i64 n.1, .int .i64 n.2.1, .string ⟨n.2.2.1.toArray⟩, .string ⟨n.2.2.2.toArray⟩] 46) = W1 := ⟨_, rfl⟩
  have nd := NdAt.new W n.1 n.2.1 n.2.2.1 n.2.2.2
  have hb1 : Below W.heap.size W W1 := by rw [← hW1]; exact (Below.refl _ W).alloc (Nat.le_refl _) _
  rw [hW1] at nd
  have st1 := st.below hb1
  obtain ⟨A, f0, hA⟩ := st1.left
  obtain rfl := hA hal
  have f1 := st1.lfz
  have st2 := st1.next
  obtain ⟨N, hN⟩ : ∃ N, W.heap.size = N := ⟨_, rfl⟩
  rw [hN] at nd
  obtain ⟨m, hm⟩ : ∃ m, t.length - a = m := ⟨_, rfl⟩
  obtain ⟨c, hc⟩ : ∃ c, cp - a = c := ⟨_, rfl⟩
  have hcap := st.cap
  have hcm := st.cmax
  rw [hm, hc] at e0 f0 st2
  have hm1 : (1 : Int) ≤ (m : Int) := by omega
  have hm0 : (0 : Int) < (m : Int) := by omega
  have hmc : (m : Int) ≤ (c : Int) := by omega
  obtain ⟨A2, hA2⟩ : ∃ A2 : Option Addr, (if c = 1 then some ⟨g, a * 4, none⟩ else some ⟨g, a * 4 + 4, none⟩) = A2 := ⟨_, rfl⟩
  rw [hA2] at st2
  obtain ⟨W2, hW2⟩ : ∃ W2, W1.setCell ⟨L, 0, none⟩ (.slice A2 (m - 1) (c - 1)) = W2 := ⟨_, rfl⟩
  rw [hW2] at st2
  have HSt2 : Hid (St11 W2 B L F g cp t (a + 1)) := st2
  have hN2 : NdAt W2 N n.1 n.2.1 n.2.2.1 n.2.2.2 := by
    rw [← hW2]
    refine nd.keep ((grown_set W1 L 0 _).block N nd.lt (fun e => ?_))
    injection e with e
    have := st.lb
    have := st.bs
    omega
  have hg2 : W.grownBy W2 (some L) := by
    rw [← hW2]
    exact World.grownBy.trans ⟨hb1.os, hb1.tape, hb1.output, hb1.size, fun k hk _ => hb1.block k hk⟩ (grown_set W1 L 0 _)
  obtain ⟨W3, hW3⟩ : ∃ W3, W2.alloc (.cells #[] 24) = W3 := ⟨_, rfl⟩
  have hb3 : Below W2.heap.size W2 W3 := by rw [← hW3]; exact (Below.refl _ W2).alloc (Nat.le_refl _) _
  have hN3 := hN2.below hb3
  have hNW2 : N + 1 ≤ W2.heap.size := hN2.lt
  have hP3 : W3.ownsRow (N + 1) 24 1 (.slice (some ⟨W2.heap.size, 0, none⟩) 0 0) 0 [] := by
    rw [← hW3]
    exact World.ownsRow_lit (base := N + 1) (e := 24) (size := 1) W2 #[] 0 hNW2 (by decide) rfl
  obtain ⟨P2, hP2⟩ : ∃ P2, W2.heap.size = P2 := ⟨_, rfl⟩
  rw [hP2] at hP3
  have HL0 : Hid (Lp11 W W3 B L F g cp N t a n ks 0 (.slice (some ⟨P2, 0, none⟩) 0 0) [] []) :=
    ⟨HSt2.out.below hb3, hN3, hP3, rfl, rfl, fun j hj => absurd hj (Nat.not_lt_zero _), fun j hj => absurd hj (Nat.not_lt_zero _), by rw [← hN]; exact st.bs, World.grownBy.trans hg2 ⟨hb3.os, hb3.tape, hb3.output, hb3.size, fun k hk _ => hb3.block k hk⟩⟩
  have hkk := kidsV_ok hn
  have hkv : kidsOfV n = (kidsN n : Int) := by unfold kidsOfV; rw [if_pos hn]; exact hkk.1
  have hsa := hsh a
  have hia : IntN n := by rw [← hna]; exact hint a
  rw [hna] at hsa
  have HK : Hid (Calls Tryz.prog 22 #[nodeVal n] W3 fun e w' => e = .returned (.int .i64 (ks.length : Int)) ∧ Below W3.heap.size W3 w') := by
    have h := implKidsOf n W3 hia hsa.1 hsa.2
    rw [hkv, ← hk] at h
    exact h
  have n0 := hN3.c0
  have n1 := hN3.c1
  have n2 := hN3.c2
  have n3 := hN3.c3
  have HIh : Hid (∀ i, i < ks.length → ∀ wx, St11 wx B L F g cp t (a + 1 + flN ks i) → Calls Tryz.prog 21 #[.pointer (some ⟨L, 0, none⟩), .pointer (some ⟨F, 0, none⟩)] wx fun e W' => ∃ v r, e = .returned v ∧ Fo (ks.getD i []) r ∧ W'.ownsRow B 46 4 v r.length (nodesV r) ∧ St11 W' B L F g cp t (a + 1 + flN ks (i + 1)) ∧ wx.grownBy W' (some L)) := fun i hi wx hx => by
    obtain ⟨_, e2⟩ := chain_sub hd ho i (by omega)
    have hmem : ks.getD i [] ∈ ks := getD_mem11 hi
    have e3 : t.drop (a + 1 + flN ks i) = ks.getD i [] ++ ((ks.drop (i + 1)).flatten ++ post) := by
      rw [show flN ks i = (ks.take i).flatten.length from rfl, e2, List.drop_eq_getElem_cons hi, List.flatten_cons, List.append_assoc]
      simp [List.getD, hi]
    have h := ih _ hmem wx _ _ e3 hx
    rw [Nat.add_assoc, ← (fl_step ks i hi).1] at h
    exact h
  have HMa : Hid (∀ wx pv vs rs, Lp11 W wx B L F g cp N t a n ks ks.length pv vs rs → Calls Tryz.prog 23 #[nodeVal n, pv] wx fun e W' => ∃ v r, e = .returned v ∧ Fo (n :: ks.flatten) r ∧ W'.ownsRow B 46 4 v r.length (nodesV r) ∧ St11 W' B L F g cp t (a + (n :: ks.flatten).length) ∧ W.grownBy W' (some L)) := fun wx pv vs rs h => by
    obtain ⟨pa, pc, rfl⟩ := own_any h.row
    have hones : ∀ r ∈ rs, One r := fun r hr => by
      obtain ⟨i, hi, e⟩ := mem_getD (d := []) hr
      rw [← e]; exact (h.fo i (by rw [← h.rl]; exact hi)).res.1
    have hfo : Fo (n :: ks.flatten) (mk11 n rs) := Fo.mk n ks rs hn hk h.rl ho h.fo
    have hpt : PtsIn wx pa B vs rs := by
      refine ⟨by rw [h.vl, h.rl], fun j hj => ?_, fun j hj => h.rows j (by rw [← h.rl]; exact hj)⟩
      rw [h.rl] at hj
      obtain ⟨gq, cq, eq⟩ := own_some h.row (by omega)
      injection eq with eq1 _ eq3
      subst eq1 eq3
      refine ⟨gq, 0, rfl, (h.row.lt gq rfl).2, ?_⟩
      rw [Nat.zero_add]
      have := h.row.cellAt j (by omega)
      rw [this]
      simp [List.getD, show j < vs.length by rw [h.vl]; exact hj]
    have hfl : rs.flatten.length ≤ ks.flatten.length := by
      have key : ∀ i, i ≤ ks.length → flN rs i ≤ flN ks i := by
        intro i
        induction i with
        | zero => intro _; exact Nat.le_refl _
        | succ i ihi =>
          intro hi
          have h1 := (fl_step ks i hi).1
          have h2 := (fl_step rs i (by rw [h.rl]; exact hi)).1
          have h3 := (h.fo i hi).res.2.1
          have h4 := ihi (by omega)
          omega
      have h5 := key ks.length (Nat.le_refl _)
      unfold flN at h5
      rw [List.take_length, ← h.rl, List.take_length] at h5
      exact h5
    have hdl := congrArg List.length hd
    simp only [List.length_drop, List.length_append, List.length_cons] at hdl
    have hm := implMade n hn B pa pc vs rs wx h.st.bs hpt (by rw [h.rl, hk]) hones (by omega)
    rw [h.rl] at hm
    refine hm.mono ?_
    rintro e W' ⟨v, rfl, h1, h2⟩
    refine ⟨v, _, rfl, hfo, h1, ?_, World.grownBy.trans h.gr ⟨h2.os, h2.tape, h2.output, h2.size, fun k hk _ => h2.block k hk⟩⟩
    have h3 := h.st.below h2
    have h4 : flN ks ks.length = ks.flatten.length := by unfold flN; rw [List.take_length]
    rw [h4] at h3
    rw [List.length_cons, show a + (ks.flatten.length + 1) = a + 1 + ks.flatten.length by omega]
    exact h3
  have HPu : Hid (∀ wx pv vs rs i, i < ks.length → Lp11 W wx B L F g cp N t a n ks i pv vs rs → ∀ w5 v r, Fo (ks.getD i []) r → w5.ownsRow B 46 4 v r.length (nodesV r) → St11 w5 B L F g cp t (a + 1 + flN ks (i + 1)) → wx.grownBy w5 (some L) → ∃ av lv cv, v = .slice av lv cv ∧ ∃ pv' Y, (Builtin.append_ #[47, 47] 47 #[pv, .slice (some ⟨w5.heap.size, 0, none⟩) 1 1]).run Tryz.prog (w5.alloc (.cells #[.slice av lv cv] 24)) = .ok pv' Y ∧ Lp11 W Y B L F g cp N t a n ks (i + 1) pv' (vs ++ [v]) (rs ++ [r])) := fun wx pv vs rs i hi h w5 v r hfo hv hst hg => by
    obtain ⟨av, cv, rfl⟩ := own_any hv
    have hlb := h.st.lb
    have hnb := h.nb
    have row5 := own_other h.row (by omega : L < N + 1) hg
    have rows5 := fun j (hj : j < i) => own_other (h.rows j hj) hlb hg
    have nd5 := h.nd.keep (hg.block N h.nd.lt (fun e => by injection e with e; omega))
    obtain ⟨pv', Y, hrun, hrow, hgY⟩ := push_slice av r.length cv row5 nd5.lt (by omega)
    have h5 := World.grownBy.trans h.gr hg
    refine ⟨av, r.length, cv, rfl, pv', Y, hrun, hst.grown hgY (fun k e => by have := (row5.lt k e).1; omega), nd5.keep (hgY.block N nd5.lt (fun e => by have := (row5.lt N e.symm).1; omega)), hrow, by rw [List.length_append, h.vl]; rfl, by rw [List.length_append, h.rl]; rfl, fun j hj => ?_, fun j hj => ?_, hnb, ⟨hgY.os.trans h5.os, hgY.tape.trans h5.tape, hgY.output.trans h5.output, Nat.le_trans h5.size hgY.size, fun k hk hne => (hgY.block k (Nat.lt_of_lt_of_le hk h5.size) (fun e => by have := (row5.lt k e.symm).1; omega)).trans (h5.block k hk hne)⟩⟩
    · rcases Nat.lt_or_ge j i with h1 | h1
      · rw [(getD_snoc vs _ _ j).1 (by rw [h.vl]; exact h1), (getD_snoc rs _ _ j).1 (by rw [h.rl]; exact h1)]
        exact (rows5 j h1).kept hgY (own_types (rows5 j h1) row5 (by decide))
      · obtain rfl : j = i := by omega
        rw [(getD_snoc vs _ _ j).2 h.vl.symm, (getD_snoc rs _ _ j).2 h.rl.symm]
        exact hv.kept hgY (own_types hv row5 (by decide))
    · rcases Nat.lt_or_ge j i with h1 | h1
      · rw [(getD_snoc rs _ _ j).1 (by rw [h.rl]; exact h1)]
        exact h.fo j h1
      · obtain rfl : j = i := by omega
        rw [(getD_snoc rs _ _ j).2 h.rl.symm]
        exact hfo
  have HF0 : Hid (∀ wx i pv vs rs, Lp11 W wx B L F g cp N t a n ks i pv vs rs → wx.cell? ⟨F, 0, none⟩ = some (.func (.func 21) #[] #[.pointer (some ⟨L, 0, none⟩), .pointer (some ⟨F, 0, none⟩)]) ∧ NdAt wx N n.1 n.2.1 n.2.2.1 n.2.2.2) := fun wx i pv vs rs h => ⟨h.st.fn, h.nd⟩
  obtain ⟨q, hq⟩ : ∃ q, ks.length = q := ⟨_, rfl⟩
  have hq3 : q ≤ 3 := by have := hkk.2; omega
  rw [hq] at HK HIh HMa HPu
  generalize (n :: ks.flatten).length = sl at HMa ⊢
  generalize (n :: ks.flatten) = sn at HMa ⊢
  obtain ⟨nk, nA, np, nf⟩ := n
  unfold nodeVal at HK HMa
  simp only at HK HMa HF0 c0 c1 c2 c3 n0 n1 n2 n3 hW1
  have hcI : (c : Int) ≤ 9223372036854775807 := by unfold maxLen at hcm; omega
  clear ih hn hk ho hna hsa hia hkk hkv hint hsh hd st st1 st2 nd hb1 hN2 hg2 hN3 hb3 hP3 HSt2 hq hA
  go_enter Tryz.func21, Tryz.ntmps21
  go_wp2_with fail
  refine Calls.mono HK.out ?_
  rintro e w4 ⟨rfl, hb4⟩
  have HL4 : Hid (_) := HL0.out.below hb4
  clear hb4 HL0 HK e0 f0 f1 c0 c1 c2 c3 n0 n1 n2 n3
  go_wp2
  go_loopw [4, 13] (fun pv iv wx => ∃ (i : Nat) (vs : List Value) (rs : List (List Nd)), iv = .int .i64 (i : Int) ∧ i ≤ q ∧ Hid (Lp11 W wx B L F g cp N t a (nk, nA, np, nf) ks i pv vs rs)) (fun _ iv _ => q - (intOf iv).toNat)
  case atStart => exact ⟨0, [], [], rfl, Nat.zero_le _, HL4⟩
  case round =>
    obtain ⟨i, vs, rs, rfl, hi, HLp⟩ := hrel
    clear HL4
    obtain ⟨z0, ndx⟩ := HF0.out _ _ _ _ _ HLp.out
    by_cases hlt : (i : Int) < (q : Int)
    · have hi2 : i < q := by omega
      clear ndx
      go_wp2_with fail
      refine Calls.mono (HIh.out i hi2 _ HLp.out.st) ?_
      rintro e w5 ⟨v, r, rfl, hfo, hv, hst, hg⟩
      obtain ⟨av, lv, cv, rfl, pv', Y, hrun, hlp⟩ := HPu.out _ _ _ _ i hi2 HLp.out w5 v r hfo hv hst hg
      have HLq : Hid (_) := hlp
      clear hfo hv hst hg hlp HLp z0
      go_wp2_with (at_builtin; refine wpList_append_run rfl (.tmp 15) (.tmp 18) 47 rfl _ _ _ rfl rfl hrun ?_; clear hrun)
      go_roundw
      case rel => exact ⟨i + 1, _, _, by go_num, by omega, HLq⟩
      case measure => simp [intOf]; omega
    · obtain rfl : i = q := by omega
      have n0 := ndx.c0
      have n1 := ndx.c1
      have n2 := ndx.c2
      have n3 := ndx.c3
      clear ndx z0
      go_wp2_with fail
      refine Calls.mono (HMa.out _ _ _ _ HLp.out) ?_
      rintro e w5 ⟨v, r, rfl, hfo, hv, hst, hg⟩
      have HO : Hid (_) := And.intro hfo (And.intro hv (And.intro hst hg))
      clear hfo hv hst hg
      go_wp2
      go_ret
      first | exact ⟨_, _, rfl, HO.out⟩ | exact ⟨_, HO.out⟩

end Go.Proofs.YtkjojhkpoooimaaGreat

/-! The contracts of chapter 11's landed code: FoldedTree and Pure. -/
namespace Go.Proofs.YtkjojhkpoooimaaGreat
open Go.RowKit

set_option maxHeartbeats 4000000 in
set_option maxRecDepth 100000 in
theorem implFoldedTree (a : Option Addr) (len cap : Nat) (ns : List Nd) (w : World) (hin : NodesIn w a len ns) (hint : IntT ns) (hsh : ShortT ns) (hlen : len ≤ 1048576) :
    Calls Tryz.prog 6 #[.slice a len cap] w fun e w' => ∃ v, e = .returned v ∧ w'.ownsRow w.heap.size 46 4 v (foldT ns).length (nodesV (foldT ns)) ∧ Below w.heap.size w w' := by
  obtain rfl : ns.length = len := hin.1
  have HT : Hid (_) := implTreeOk a ns.length cap ns w hin hint hsh hlen
  rcases hb : treeB ns with _ | _
  · rw [hb] at HT
    have HF : Hid (foldT ns = []) := by exact (by unfold foldT; rw [hb]; rfl : foldT ns = [])
    clear hin hb
    go_enter Tryz.func6, Tryz.ntmps6
    go_wp2_with fail
    refine Calls.mono HT.out ?_
    rintro e w1 ⟨rfl, hb1⟩
    have HO : Hid ((w1.alloc (.cells #[] 46)).ownsRow w.heap.size 46 4 (.slice (some ⟨w1.heap.size, 0, none⟩) 0 0) 0 (nodesV [])) := World.ownsRow_lit (base := w.heap.size) (e := 46) (size := 4) w1 #[] 0 hb1.size (by decide) rfl
    have HB : Hid (Below w.heap.size w (w1.alloc (.cells #[] 46))) := hb1.alloc hb1.size _
    clear hb1
    go_wp2
    go_ret
    rw [HF.out]
    first | exact ⟨_, rfl, HO.out, HB.out⟩ | exact ⟨HO.out, HB.out⟩
  · rw [hb] at HT
    obtain ⟨hl, ho⟩ := treeB_one.1 hb
    have hpos := ho.pos
    obtain ⟨b, off, rfl, _⟩ := hin.at hpos
    have HCp : Hid (∀ Z, Below w.heap.size w Z → _) := fun Z (hz : Below w.heap.size w Z) => implCopyTree (some ⟨b, off, none⟩) ns.length cap ns Z (hin.below hz) (fun e => by cases e) hlen hsh
    have HFo : Hid (Fo ns (foldT ns)) := foldT_fo hb
    generalize foldT ns = res at HFo ⊢
    have HI : Hid (IntT ns) := hint
    have HS : Hid (ShortT ns) := hsh
    have HOn : Hid (One ns) := ho
    obtain ⟨n, hn⟩ : ∃ n, ns.length = n := ⟨_, rfl⟩
    have HN : Hid (ns.length = n) := hn
    rw [hn] at HT HCp hpos hl ⊢
    clear hin hb hint hsh ho hn
    go_enter Tryz.func6, Tryz.ntmps6
    go_wp2_with fail
    refine Calls.mono HT.out ?_
    rintro e w1 ⟨rfl, hb1⟩
    have HC1 : Hid (_) := HCp.out w1 hb1
    have HB1 : Hid (Below w.heap.size w w1) := hb1
    clear hb1 HT HCp
    go_wp2_with fail
    refine Calls.mono HC1.out ?_
    rintro e w2 ⟨v, rfl, hv, hb2⟩
    obtain ⟨g, cp, rfl⟩ := own_some hv (by omega)
    have HB2 : Hid (Below w.heap.size w w2) := HB1.out.trans (hb2.mono HB1.out.size)
    have HV : Hid (w2.ownsRow w.heap.size 46 4 (.slice (some ⟨g, 0, none⟩) n cp) n (nodesV ns)) := own_base hv HB1.out.size
    clear hv hb2 HC1 HB1
    obtain ⟨X1, hX1⟩ : ∃ X1, w2.alloc (.cells #[.slice (some ⟨g, 0, none⟩) n cp] 24) = X1 := ⟨_, rfl⟩
    have hs1 : X1.heap.size = w2.heap.size + 1 := by rw [← hX1]; simp
    obtain ⟨X2, hX2⟩ : ∃ X2, X1.alloc (.cells #[.nilFunc] 44) = X2 := ⟨_, rfl⟩
    have hs2 : X2.heap.size = w2.heap.size + 2 := by rw [← hX2]; simp [hs1]
    have hb21 : Below w2.heap.size w2 X1 := by rw [← hX1]; exact (Below.refl _ w2).alloc (Nat.le_refl _) _
    have hb22 : Below X1.heap.size X1 X2 := by rw [← hX2]; exact (Below.refl _ X1).alloc (Nat.le_refl _) _
    have cl1 : X1.cell? ⟨w2.heap.size, 0, none⟩ = some (.slice (some ⟨g, 0, none⟩) n cp) := by rw [← hX1]; simp
    have cz1 : X1.frozen? ⟨w2.heap.size, 0, none⟩ = false := by rw [← hX1]; exact World.frozen?_alloc_at _ _ _ _ rfl
    have cl2 : X2.cell? ⟨w2.heap.size, 0, none⟩ = some (.slice (some ⟨g, 0, none⟩) n cp) := (hb22.cell (p := ⟨w2.heap.size, 0, none⟩) (by rw [hs1]; exact Nat.lt_succ_self _)).trans cl1
    have cf2 : X2.cell? ⟨w2.heap.size + 1, 0, none⟩ = some .nilFunc := by rw [← hX2, ← hs1]; simp
    have cz2 : X2.frozen? ⟨w2.heap.size + 1, 0, none⟩ = false := by rw [← hX2, ← hs1]; exact World.frozen?_alloc_at _ _ _ _ rfl
    obtain ⟨X3, hX3⟩ : ∃ X3, X2.setCell ⟨w2.heap.size + 1, 0, none⟩ (.func (.func 21) #[] #[.pointer (some ⟨w2.heap.size, 0, none⟩), .pointer (some ⟨w2.heap.size + 1, 0, none⟩)]) = X3 := ⟨_, rfl⟩
    have cf3 : X3.cell? ⟨w2.heap.size + 1, 0, none⟩ = some (.func (.func 21) #[] #[.pointer (some ⟨w2.heap.size, 0, none⟩), .pointer (some ⟨w2.heap.size + 1, 0, none⟩)]) := by rw [← hX3]; exact World.cell?_setCell_same _ _ _ cf2
    have hg3 : X2.grownBy X3 (some (w2.heap.size + 1)) := by rw [← hX3]; exact grown_set _ _ _ _
    have hgl := HV.out.lt g rfl
    have hb20 : Below w2.heap.size w2 X2 := hb21.trans (hb22.mono hb21.size)
    have hst : St11 X3 (w2.heap.size + 2) w2.heap.size (w2.heap.size + 1) g cp ns 0 := by
      obtain ⟨_, a', c', e, hnin⟩ := own_nodes HV.out
      injection e with e1 _ e3
      subst e1 e3
      obtain ⟨hcp1, hcp2⟩ : n ≤ cp ∧ cp ≤ maxLen := by
        rcases HV.out.2 with ⟨h', _⟩ | ⟨g', cap', cur, h', _, _, hnc, hcm, _⟩
        · simp at h'
        · simp only [Value.slice.injEq, Option.some.injEq, Addr.mk.injEq, and_true, true_and] at h'
          obtain ⟨rfl, rfl⟩ := h'
          exact ⟨hnc, hcm⟩
      have kl := hg3.block w2.heap.size (by omega) (fun e => by injection e with e; omega)
      refine ⟨⟨_, by rw [HN.out]; exact (World.cell?_of_block (a := ⟨w2.heap.size, 0, none⟩) kl).trans cl2, fun _ => rfl⟩, ?_, cf3, ?_, by rw [HN.out]; exact hcp1, hcp2, by omega, by omega, by omega, by omega, by omega, by have := hg3.size; omega⟩
      · have h2 : X2.frozen? ⟨w2.heap.size, 0, none⟩ = false := by
          have h1 := cz1
          have kb := hb22.block w2.heap.size (by omega)
          simp only [World.frozen?] at h1 ⊢
          rw [kb]; exact h1
        simp only [World.frozen?] at h2 ⊢
        rw [kl]; exact h2
      · rw [HN.out]
        refine (hnin.below hb20).keep hg3.size (fun b off e _ => ?_)
        injection e with e
        injection e with e1 _ _
        subst e1
        exact hg3.block _ (by omega) (fun e => by injection e with e; omega)
    have HSt : Hid (_) := implClosure (w2.heap.size + 2) w2.heap.size (w2.heap.size + 1) g cp ns (by rw [HN.out]; exact hl) HS.out HI.out HOn.out X3 0 [] (by simp) hst
    have HB3 : Hid (Below w.heap.size w X3) := by
      have hbw := HB2.out.trans (hb20.mono HB2.out.size)
      exact hbw.grown hg3 hbw.size (fun k e => by injection e with e; have := HB2.out.size; omega)
    have hw2 := HB2.out.size
    clear hst cl1 cz1 hb21 hb22 hb20 hgl hg3 HV
    go_wp2_with fail
    refine Calls.mono HSt.out ?_
    rintro e w5 ⟨v, r, rfl, hfo, hv, _, hg⟩
    have HR : Hid (r = res) := hfo.uniq HFo.out
    have HO : Hid (w5.ownsRow w.heap.size 46 4 v r.length (nodesV r)) := own_base hv (by omega)
    have HB : Hid (Below w.heap.size w w5) := HB3.out.grown hg HB3.out.size (fun k e => by injection e with e; omega)
    rw [HR.out] at HO
    clear hfo hv hg HSt HR
    go_wp2
    go_ret
    first | exact ⟨_, rfl, HO.out, HB.out⟩ | exact ⟨HO.out, HB.out⟩

theorem NodesIn.drop {w : World} {b off n : Nat} {ns : List Nd} (h : NodesIn w (some ⟨b, off, none⟩) n ns) (q : Nat) : NodesIn w (some ⟨b, off + q * 4, none⟩) (n - q) (ns.drop q) := by
  refine ⟨by rw [List.length_drop, h.1], fun j hj => ?_⟩
  obtain ⟨b', off', e, hlt, c0, c1, c2, c3⟩ := h.2 (q + j) (by omega)
  injection e with e
  injection e with e1 e2 _
  subst e1 e2
  have hg : (ns.drop q).getD j nd0 = ns.getD (q + j) nd0 := by simp [List.getD, List.getElem?_drop]
  rw [show off + (q + j) * 4 = off + q * 4 + j * 4 by omega] at c0 c1 c2 c3
  rw [hg]
  exact ⟨_, _, rfl, hlt, c0, c1, c2, c3⟩



end Go.Proofs.YtkjojhkpoooimaaGreat
