/-
  Parts of one proof, one behind the other: FoldJ3, CapL, FoldJ4, FoldS4, Math10R, Math11G, FoldS5, FoldJ5.
-/
import Derived.Test.YtkpdoedpkncboaaGreatP12
import Derived.Test.YtkpdoedpkncboaaGreatP6
import Derived.Test.YtkpdoedpkncboaaGreatP3
import Derived.Laws.EntriesVeiled
import Derived.Test.YtkpdoedpkncboaaGreatP4
import Derived.Test.YtkpdoedpkncboaaGreatP5
import Derived.Deep.RegionHeld3
import Derived.Deep.Cut
import Derived.Deep.CutRange
import Derived.Deep.RegionLaw
import Derived.Deep.RegionWith
import Derived.Test.YtkpdoedpkncboaaGreatP2
import Derived.Test.YtkpdoedpkncboaaGreatP9
import Derived.Test.YtkpdoedpkncboaaGreatP11
import Derived.Test.YtkpdoedpkncboaaGreatP1
namespace Go.Proofs.YtkpdoedpkncboaaGreat
open Go.RowKit
structure St11 (W : World) (B L F g cp : Nat) (t : List Nd) (a : Nat) : Prop where
 left : ∃ A, W.cell? ⟨L, 0, none⟩ = some (.slice A (t.length - a) (cp - a)) ∧ (a < t.length → A = some ⟨g, a * 4, none⟩)
 lfz : W.frozen? ⟨L, 0, none⟩ = false
 fn : W.cell? ⟨F, 0, none⟩ = some (.func (.func 76) #[] #[.pointer (some ⟨L, 0, none⟩), .pointer (some ⟨F, 0, none⟩)])
 tree : za4 W (some ⟨g, 0, none⟩) t.length t
 cap : t.length ≤ cp
 cmax : cp ≤ maxLen
 lb : L < B
 fb : F < B
 gb : g < B
 lf : L ≠ F
 lg : L ≠ g
 bs : B ≤ W.heap.size
theorem St11.grown {W Y : World} {B L F g cp : Nat} {t : List Nd} {a : Nat} {row : Option Nat} (h : St11 W B L F g cp t a) (hg : W.grownBy Y row) (hr : ∀ k, row = some k → B ≤ k) : St11 Y B L F g cp t a := by
 have hb := h.bs
 have hl := h.lb
 have hf := h.fb
 have hgb := h.gb
 have kl : Y.heap[L]? = W.heap[L]? := hg.block L (by omega) (fun e => by have := hr L e.symm; omega)
 have kf : Y.heap[F]? = W.heap[F]? := hg.block F (by omega) (fun e => by have := hr F e.symm; omega)
 have kg : Y.heap[g]? = W.heap[g]? := hg.block g (by omega) (fun e => by have := hr g e.symm; omega)
 obtain ⟨A, e, hA⟩ := h.left
 refine ⟨⟨A, (World.cell?_of_block (a := ⟨L, 0, none⟩) kl).trans e, hA⟩, ?_, (World.cell?_of_block (a := ⟨F, 0, none⟩) kf).trans h.fn, h.tree.keep hg.size (fun b off e _ => by injection e with e; injection e with e1 _ _; subst e1; exact kg), h.cap, h.cmax, h.lb, h.fb, h.gb, h.lf, h.lg, Nat.le_trans h.bs hg.size⟩
 have h2 := h.lfz
 simp only [World.frozen?] at h2 ⊢
 rw [kl]
 exact h2
theorem St11.below {W Y : World} {B L F g cp : Nat} {t : List Nd} {a : Nat} (h : St11 W B L F g cp t a) (hb : Below W.heap.size W Y) : St11 Y B L F g cp t a := h.grown (row := none) (Below.by hb) (fun k e => by cases e)
theorem St11.next {W : World} {B L F g cp : Nat} {t : List Nd} {a : Nat} (h : St11 W B L F g cp t a) : St11 (W.setCell ⟨L, 0, none⟩ (.slice (if cp - a = 1 then some ⟨g, a * 4, none⟩ else some ⟨g, a * 4 + 4, none⟩) (t.length - a - 1) (cp - a - 1))) B L F g cp t (a + 1) := by
 have hc := h.cap
 have hg := zaC W L 0 (.slice (if cp - a = 1 then some ⟨g, a * 4, none⟩ else some ⟨g, a * 4 + 4, none⟩) (t.length - a - 1) (cp - a - 1))
 have hbs := h.bs
 have kf := hg.block F (by have := h.fb; omega) (fun e => h.lf (by injection e with e; exact e.symm))
 have kg := hg.block g (by have := h.gb; omega) (fun e => h.lg (by injection e with e; exact e.symm))
 obtain ⟨A, e, hA⟩ := h.left
 refine ⟨⟨_, by rw [show t.length - (a + 1) = t.length - a - 1 by omega, show cp - (a + 1) = cp - a - 1 by omega]; exact World.cell?_setCell_same _ _ _ e, fun h2 => ?_⟩, by simpa using h.lfz, (World.cell?_of_block (a := ⟨F, 0, none⟩) kf).trans h.fn, h.tree.keep hg.size (fun b off e _ => by injection e with e; injection e with e1 _ _; subst e1; exact kg), h.cap, h.cmax, h.lb, h.fb, h.gb, h.lf, h.lg, Nat.le_trans h.bs hg.size⟩
 rw [if_neg (by omega)]
 congr 2
 omega
theorem NdAt.keep {W Y : World} {D : Nat} {k a : Int} {p f : List UInt8} (h : NdAt W D k a p f) (e : Y.heap[D]? = W.heap[D]?) : NdAt Y D k a p f :=
 ⟨(World.cell?_of_block (a := ⟨D, 0, none⟩) e).trans h.c0, (World.cell?_of_block (a := ⟨D, 1, none⟩) e).trans h.c1, (World.cell?_of_block (a := ⟨D, 2, none⟩) e).trans h.c2, (World.cell?_of_block (a := ⟨D, 3, none⟩) e).trans h.c3⟩
theorem NdAt.lt {W : World} {D : Nat} {k a : Int} {p f : List UInt8} (h : NdAt W D k a p f) : D < W.heap.size := World.block_lt_of_cell? W ⟨D, 0, none⟩ h.c0
theorem zkF {w : World} {base e size n : Nat} {v : Value} {xs : List Value} (h : w.ownsRow base e size v n xs) : ∃ a c, v = .slice a n c := by
 rcases zar h with ⟨rfl, rfl, _⟩ | ⟨g, cp, rfl⟩
 ·
  exact ⟨none, 0, rfl⟩
 ·
  exact ⟨some ⟨g, 0, none⟩, cp, rfl⟩
structure Lp11 (W wx : World) (B L F g cp N : Nat) (t : List Nd) (a : Nat) (n : Nd) (ks : List (List Nd)) (i : Nat) (pv : Value) (vs : List Value) (rs : List (List Nd)) : Prop where
 st : St11 wx B L F g cp t (a + 1 + flN ks i)
 nd : NdAt wx N n.1 n.2.1 n.2.2.1 n.2.2.2
 row : wx.ownsRow (N + 1) 46 1 pv i vs
 vl : vs.length = i
 rl : rs.length = i
 rows : ∀ j, j < i → wx.ownsRow B 90 4 (vs.getD j (.slice none 0 0)) (rs.getD j []).length (za0 (rs.getD j []))
 fo : ∀ j, j < i → Fo (ks.getD j []) (rs.getD j [])
 nb : B ≤ N
 gr : W.grownBy wx (some L)
theorem Lp11.below {W wx Y : World} {B L F g cp N : Nat} {t : List Nd} {a : Nat} {n : Nd} {ks : List (List Nd)} {i : Nat} {pv : Value} {vs : List Value} {rs : List (List Nd)} (h : Lp11 W wx B L F g cp N t a n ks i pv vs rs) (hb : Below wx.heap.size wx Y) : Lp11 W Y B L F g cp N t a n ks i pv vs rs :=
 ⟨h.st.below hb, h.nd.below hb, za2 h.row hb, h.vl, h.rl, fun j hj => za2 (h.rows j hj) hb, h.fo, h.nb, World.grownBy.trans h.gr ⟨hb.os, hb.tape, hb.output, hb.size, fun k hk _ => hb.block k hk⟩⟩
theorem zcy {α : Type} (l : List α) (x d : α) (j : Nat) : (j < l.length → (l ++ [x]).getD j d = l.getD j d) ∧ (j = l.length → (l ++ [x]).getD j d = x) := by
 refine ⟨fun h => ?_, fun h => ?_⟩
 ·
  simp [List.getD, List.getElem?_append_left h]
 ·
  subst h; simp [List.getD]
set_option maxHeartbeats 8000000 in
set_option maxRecDepth 100000 in
theorem zi2 (B L F g cp : Nat) (t : List Nd) (hlen : t.length ≤ 60) (hsh : zam t) (hint : IntT t) {s : List Nd} (hs : One s) : ∀ (W : World) (a : Nat) (post : List Nd), t.drop a = s ++ post → St11 W B L F g cp t a →
 Calls Tryz.prog 76 #[.pointer (some ⟨L, 0, none⟩), .pointer (some ⟨F, 0, none⟩)] W fun e W' => ∃ v r, e = .returned v ∧ Fo s r ∧ W'.ownsRow B 90 4 v r.length (za0 r) ∧ St11 W' B L F g cp t (a + s.length) ∧ W.grownBy W' (some L) := by
 induction hs with
 | mk n ks hn hk ho ih =>
 intro W a post hd st
 have hal : a < t.length := by
  have h2 := congrArg List.length hd
  simp at h2
  omega
 have hna : t.getD a nd0 = n := (zbG hd hk ho).1
 obtain ⟨b, off, eb, hbl, c0, c1, c2, c3⟩ := st.tree.2 a hal
 injection eb with eb
 injection eb with eb1 eb2
 subst eb1 eb2
 rw [hna] at c0 c1 c2 c3
 rw [Nat.zero_add] at c0 c1 c2 c3
 obtain ⟨A, e0, hA⟩ := st.left
 obtain rfl := hA hal
 obtain ⟨W1, hW1⟩ : ∃ W1, W.alloc (.cells #[.int .i64 n.1, .int .i64 n.2.1, .string ⟨n.2.2.1.toArray⟩, .string ⟨n.2.2.2.toArray⟩] 90) = W1 := ⟨_, rfl⟩
 have nd := NdAt.new W n.1 n.2.1 n.2.2.1 n.2.2.2
 have hb1 : Below W.heap.size W W1 := by rw [← hW1]; exact (Below.refl _ W).alloc (Nat.le_refl _) _
 rw [hW1] at nd
 have st1 := st.below hb1
 obtain ⟨A, f0, hA⟩ := st1.left
 obtain rfl := hA hal
 have f1 := st1.lfz
 have st2 := st1.next
 obtain ⟨N, hN⟩ : ∃ N, W.heap.size = N := ⟨_, rfl⟩
 rw [hN] at nd
 obtain ⟨m, hm⟩ : ∃ m, t.length - a = m := ⟨_, rfl⟩
 obtain ⟨c, hc⟩ : ∃ c, cp - a = c := ⟨_, rfl⟩
 have hcap := st.cap
 have hcm := st.cmax
 rw [hm, hc] at e0 f0 st2
 have hm1 : (1 : Int) ≤ (m : Int) := by omega
 have hm0 : (0 : Int) < (m : Int) := by omega
 have hmc : (m : Int) ≤ (c : Int) := by omega
 obtain ⟨A2, hA2⟩ : ∃ A2 : Option Addr, (if c = 1 then some ⟨g, a * 4, none⟩ else some ⟨g, a * 4 + 4, none⟩) = A2 := ⟨_, rfl⟩
 rw [hA2] at st2
 obtain ⟨W2, hW2⟩ : ∃ W2, W1.setCell ⟨L, 0, none⟩ (.slice A2 (m - 1) (c - 1)) = W2 := ⟨_, rfl⟩
 rw [hW2] at st2
 have HSt2 : Hid (St11 W2 B L F g cp t (a + 1)) := st2
 have hN2 : NdAt W2 N n.1 n.2.1 n.2.2.1 n.2.2.2 := by
  rw [← hW2]
  refine nd.keep ((zaC W1 L 0 _).block N nd.lt (fun e => ?_))
  injection e with e
  have := st.lb
  have := st.bs
  omega
 have hg2 : W.grownBy W2 (some L) := by
  rw [← hW2]
  exact World.grownBy.trans ⟨hb1.os, hb1.tape, hb1.output, hb1.size, fun k hk _ => hb1.block k hk⟩ (zaC W1 L 0 _)
 obtain ⟨W3, hW3⟩ : ∃ W3, W2.alloc (.cells #[] 46) = W3 := ⟨_, rfl⟩
 have hb3 : Below W2.heap.size W2 W3 := by rw [← hW3]; exact (Below.refl _ W2).alloc (Nat.le_refl _) _
 have hN3 := hN2.below hb3
 have hNW2 : N + 1 ≤ W2.heap.size := hN2.lt
 have hP3 : W3.ownsRow (N + 1) 46 1 (.slice (some ⟨W2.heap.size, 0, none⟩) 0 0) 0 [] := by
  rw [← hW3]
  exact World.ownsRow_lit (base := N + 1) (e := 46) (size := 1) W2 #[] 0 hNW2 (by decide) rfl
 obtain ⟨P2, hP2⟩ : ∃ P2, W2.heap.size = P2 := ⟨_, rfl⟩
 rw [hP2] at hP3
 have HL0 : Hid (Lp11 W W3 B L F g cp N t a n ks 0 (.slice (some ⟨P2, 0, none⟩) 0 0) [] []) :=
  ⟨HSt2.out.below hb3, hN3, hP3, rfl, rfl, fun j hj => absurd hj (Nat.not_lt_zero _), fun j hj => absurd hj (Nat.not_lt_zero _), by rw [← hN]; exact st.bs, World.grownBy.trans hg2 ⟨hb3.os, hb3.tape, hb3.output, hb3.size, fun k hk _ => hb3.block k hk⟩⟩
 have hkk := zaT hn
 have hkv : zbK n = (za7 n : Int) := by unfold zbK; rw [if_pos hn]; exact hkk.1
 have hsa := hsh a
 have hia : IntN n := by rw [← hna]; exact hint a
 rw [hna] at hsa
 have HK : Hid (Calls Tryz.prog 77 #[zaa n] W3 fun e w' => e = .returned (.int .i64 (ks.length : Int)) ∧ Below W3.heap.size W3 w') := by
  have h := zfS n W3 hia hsa.1 hsa.2
  rw [hkv, ← hk] at h
  exact h
 have n0 := hN3.c0
 have n1 := hN3.c1
 have n2 := hN3.c2
 have n3 := hN3.c3
 have HIh : Hid (∀ i, i < ks.length → ∀ wx, St11 wx B L F g cp t (a + 1 + flN ks i) → Calls Tryz.prog 76 #[.pointer (some ⟨L, 0, none⟩), .pointer (some ⟨F, 0, none⟩)] wx fun e W' => ∃ v r, e = .returned v ∧ Fo (ks.getD i []) r ∧ W'.ownsRow B 90 4 v r.length (za0 r) ∧ St11 W' B L F g cp t (a + 1 + flN ks (i + 1)) ∧ wx.grownBy W' (some L)) := fun i hi wx hx => by
  obtain ⟨_, e2⟩ := zf4 hd ho i (by omega)
  have hmem : ks.getD i [] ∈ ks := zbo hi
  have e3 : t.drop (a + 1 + flN ks i) = ks.getD i [] ++ ((ks.drop (i + 1)).flatten ++ post) := by
   rw [show flN ks i = (ks.take i).flatten.length from rfl, e2, List.drop_eq_getElem_cons hi, List.flatten_cons, List.append_assoc]
   simp [List.getD, hi]
  have h := ih _ hmem wx _ _ e3 hx
  rw [Nat.add_assoc, ← (zeV ks i hi).1] at h
  exact h
 have HMa : Hid (∀ wx pv vs rs, Lp11 W wx B L F g cp N t a n ks ks.length pv vs rs → Calls Tryz.prog 78 #[zaa n, pv] wx fun e W' => ∃ v r, e = .returned v ∧ Fo (n :: ks.flatten) r ∧ W'.ownsRow B 90 4 v r.length (za0 r) ∧ St11 W' B L F g cp t (a + (n :: ks.flatten).length) ∧ W.grownBy W' (some L)) := fun wx pv vs rs h => by
  obtain ⟨pa, pc, rfl⟩ := zkF h.row
  have hones : ∀ r ∈ rs, One r := fun r hr => by
   obtain ⟨i, hi, e⟩ := zeg (d := []) hr
   rw [← e]; exact (h.fo i (by rw [← h.rl]; exact hi)).res.1
  have hfo : Fo (n :: ks.flatten) (mk11 n rs) := Fo.mk n ks rs hn hk h.rl ho h.fo
  have hpt : zfC wx pa B vs rs := by
   refine ⟨by rw [h.vl, h.rl], fun j hj => ?_, fun j hj => h.rows j (by rw [← h.rl]; exact hj)⟩
   rw [h.rl] at hj
   obtain ⟨gq, cq, eq⟩ := zag h.row (by omega)
   injection eq with eq1 _ eq3
   subst eq1 eq3
   refine ⟨gq, 0, rfl, (h.row.lt gq rfl).2, ?_⟩
   rw [Nat.zero_add]
   have := h.row.cellAt j (by omega)
   rw [this]
   simp [List.getD, show j < vs.length by rw [h.vl]; exact hj]
  have hfl : rs.flatten.length ≤ ks.flatten.length := by
   have key : ∀ i, i ≤ ks.length → flN rs i ≤ flN ks i := by
    intro i
    induction i with
    | zero => intro _; exact Nat.le_refl _
    | succ i ihi =>
     intro hi
     have h1 := (zeV ks i hi).1
     have h2 := (zeV rs i (by rw [h.rl]; exact hi)).1
     have h3 := (h.fo i hi).res.2.1
     have h4 := ihi (by omega)
     omega
   have h5 := key ks.length (Nat.le_refl _)
   unfold flN at h5
   rw [List.take_length, ← h.rl, List.take_length] at h5
   exact h5
  have hdl := congrArg List.length hd
  simp only [List.length_drop, List.length_append, List.length_cons] at hdl
  have hm := implMade n hn B pa pc vs rs wx h.st.bs hpt (by rw [h.rl, hk]) hones (by omega)
  rw [h.rl] at hm
  refine hm.mono ?_
  rintro e W' ⟨v, rfl, h1, h2⟩
  refine ⟨v, _, rfl, hfo, h1, ?_, World.grownBy.trans h.gr ⟨h2.os, h2.tape, h2.output, h2.size, fun k hk _ => h2.block k hk⟩⟩
  have h3 := h.st.below h2
  have h4 : flN ks ks.length = ks.flatten.length := by unfold flN; rw [List.take_length]
  rw [h4] at h3
  rw [List.length_cons, show a + (ks.flatten.length + 1) = a + 1 + ks.flatten.length by omega]
  exact h3
 have HPu : Hid (∀ wx pv vs rs i, i < ks.length → Lp11 W wx B L F g cp N t a n ks i pv vs rs → ∀ w5 v r, Fo (ks.getD i []) r → w5.ownsRow B 90 4 v r.length (za0 r) → St11 w5 B L F g cp t (a + 1 + flN ks (i + 1)) → wx.grownBy w5 (some L) → ∃ av lv cv, v = .slice av lv cv ∧ ∃ pv' Y, (Builtin.append_ #[93, 93] 93 #[pv, .slice (some ⟨w5.heap.size, 0, none⟩) 1 1]).run Tryz.prog (w5.alloc (.cells #[.slice av lv cv] 46)) = .ok pv' Y ∧ Lp11 W Y B L F g cp N t a n ks (i + 1) pv' (vs ++ [v]) (rs ++ [r])) := fun wx pv vs rs i hi h w5 v r hfo hv hst hg => by
  obtain ⟨av, cv, rfl⟩ := zkF hv
  have hlb := h.st.lb
  have hnb := h.nb
  have row5 := zaz h.row (by omega : L < N + 1) hg
  have rows5 := fun j (hj : j < i) => zaz (h.rows j hj) hlb hg
  have nd5 := h.nd.keep (hg.block N h.nd.lt (fun e => by injection e with e; omega))
  obtain ⟨pv', Y, hrun, hrow, hgY⟩ := zbO av r.length cv row5 nd5.lt (by omega)
  have h5 := World.grownBy.trans h.gr hg
  refine ⟨av, r.length, cv, rfl, pv', Y, hrun, hst.grown hgY (fun k e => by have := (row5.lt k e).1; omega), nd5.keep (hgY.block N nd5.lt (fun e => by have := (row5.lt N e.symm).1; omega)), hrow, by rw [List.length_append, h.vl]; rfl, by rw [List.length_append, h.rl]; rfl, fun j hj => ?_, fun j hj => ?_, hnb, ⟨hgY.os.trans h5.os, hgY.tape.trans h5.tape, hgY.output.trans h5.output, Nat.le_trans h5.size hgY.size, fun k hk hne => (hgY.block k (Nat.lt_of_lt_of_le hk h5.size) (fun e => by have := (row5.lt k e.symm).1; omega)).trans (h5.block k hk hne)⟩⟩
  ·
   rcases Nat.lt_or_ge j i with h1 | h1
   ·
    rw [(zcy vs _ _ j).1 (by rw [h.vl]; exact h1), (zcy rs _ _ j).1 (by rw [h.rl]; exact h1)]
    exact (rows5 j h1).kept hgY (zah (rows5 j h1) row5 (by decide))
   ·
    obtain rfl : j = i := by omega
    rw [(zcy vs _ _ j).2 h.vl.symm, (zcy rs _ _ j).2 h.rl.symm]
    exact hv.kept hgY (zah hv row5 (by decide))
  ·
   rcases Nat.lt_or_ge j i with h1 | h1
   ·
    rw [(zcy rs _ _ j).1 (by rw [h.rl]; exact h1)]
    exact h.fo j h1
   ·
    obtain rfl : j = i := by omega
    rw [(zcy rs _ _ j).2 h.rl.symm]
    exact hfo
 have HF0 : Hid (∀ wx i pv vs rs, Lp11 W wx B L F g cp N t a n ks i pv vs rs → wx.cell? ⟨F, 0, none⟩ = some (.func (.func 76) #[] #[.pointer (some ⟨L, 0, none⟩), .pointer (some ⟨F, 0, none⟩)]) ∧ NdAt wx N n.1 n.2.1 n.2.2.1 n.2.2.2) := fun wx i pv vs rs h => ⟨h.st.fn, h.nd⟩
 obtain ⟨q, hq⟩ : ∃ q, ks.length = q := ⟨_, rfl⟩
 have hq3 : q ≤ 3 := by have := hkk.2; omega
 rw [hq] at HK HIh HMa HPu
 generalize (n :: ks.flatten).length = sl at HMa ⊢
 generalize (n :: ks.flatten) = sn at HMa ⊢
 obtain ⟨nk, nA, np, nf⟩ := n
 unfold zaa at HK HMa
 simp only at HK HMa HF0 c0 c1 c2 c3 n0 n1 n2 n3 hW1
 have hcI : (c : Int) ≤ 9223372036854775807 := by unfold maxLen at hcm; omega
 clear ih hn hk ho hna hsa hia hkk hkv hint hsh hd st st1 st2 nd hb1 hN2 hg2 hN3 hb3 hP3 HSt2 hq hA
 go_enter Tryz.func76, Tryz.ntmps76
 go_wp2_with fail
 refine Calls.mono HK.out ?_
 rintro e w4 ⟨rfl, hb4⟩
 have HL4 : Hid (_) := HL0.out.below hb4
 clear hb4 HL0 HK e0 f0 f1 c0 c1 c2 c3 n0 n1 n2 n3
 go_wp2
 go_loopw [4, 13] (fun pv iv wx => ∃ (i : Nat) (vs : List Value) (rs : List (List Nd)), iv = .int .i64 (i : Int) ∧ i ≤ q ∧ Hid (Lp11 W wx B L F g cp N t a (nk, nA, np, nf) ks i pv vs rs)) (fun _ iv _ => q - (intOf iv).toNat)
 case atStart => exact ⟨0, [], [], rfl, Nat.zero_le _, HL4⟩
 case round =>
  obtain ⟨i, vs, rs, rfl, hi, HLp⟩ := hrel
  clear HL4
  obtain ⟨z0, ndx⟩ := HF0.out _ _ _ _ _ HLp.out
  by_cases hlt : (i : Int) < (q : Int)
  ·
   have hi2 : i < q := by omega
   clear ndx
   go_wp2_with fail
   refine Calls.mono (HIh.out i hi2 _ HLp.out.st) ?_
   rintro e w5 ⟨v, r, rfl, hfo, hv, hst, hg⟩
   obtain ⟨av, lv, cv, rfl, pv', Y, hrun, hlp⟩ := HPu.out _ _ _ _ i hi2 HLp.out w5 v r hfo hv hst hg
   have HLq : Hid (_) := hlp
   clear hfo hv hst hg hlp HLp z0
   go_wp2_with (at_builtin; refine wpList_append_run rfl (.tmp 15) (.tmp 18) 93 rfl _ _ _ rfl rfl hrun ?_; clear hrun)
   go_roundw
   case rel => exact ⟨i + 1, _, _, by go_num, by omega, HLq⟩
   case measure => simp [intOf]; omega
  ·
   obtain rfl : i = q := by omega
   have n0 := ndx.c0
   have n1 := ndx.c1
   have n2 := ndx.c2
   have n3 := ndx.c3
   clear ndx z0
   go_wp2_with fail
   refine Calls.mono (HMa.out _ _ _ _ HLp.out) ?_
   rintro e w5 ⟨v, r, rfl, hfo, hv, hst, hg⟩
   have HO : Hid (_) := And.intro hfo (And.intro hv (And.intro hst hg))
   clear hfo hv hst hg
   go_wp2
   go_ret
   first | exact ⟨_, _, rfl, HO.out⟩ | exact ⟨_, HO.out⟩
theorem own_capT {w : World} {base e size n c : Nat} {a : Option Addr} {xs : List Value} (h : w.ownsRow base e size (.slice a n c) n xs) : n ≤ c := by
 rcases h.2 with ⟨h', _⟩ | ⟨g', cap', cur, h', _, _, hnc, _⟩
 ·
  injection h' with _ h1 h2
  omega
 ·
  injection h' with _ _ h2
  omega
theorem own_capM {w : World} {base e size n c : Nat} {a : Option Addr} {xs : List Value} (h : w.ownsRow base e size (.slice a n c) n xs) : c ≤ maxLen := by
 rcases h.2 with ⟨h', _⟩ | ⟨g', cap', cur, h', _, _, hnc, hcm, _⟩
 ·
  injection h' with _ h1 h2
  rw [h2]; exact Nat.zero_le _
 ·
  injection h' with _ _ h2
  omega
theorem za4.drop {w : World} {b off n : Nat} {ns : List Nd} (h : za4 w (some ⟨b, off, none⟩) n ns) (q : Nat) : za4 w (some ⟨b, off + q * 4, none⟩) (n - q) (ns.drop q) := by
 refine ⟨by rw [List.length_drop, h.1], fun j hj => ?_⟩
 obtain ⟨b', off', e, hlt, c0, c1, c2, c3⟩ := h.2 (q + j) (by omega)
 injection e with e
 injection e with e1 e2 _
 subst e1 e2
 have hg : (ns.drop q).getD j nd0 = ns.getD (q + j) nd0 := by simp [List.getD, List.getElem?_drop]
 rw [show off + (q + j) * 4 = off + q * 4 + j * 4 by omega] at c0 c1 c2 c3
 rw [hg]
 exact ⟨_, _, rfl, hlt, c0, c1, c2, c3⟩
theorem zdq (ns : List Nd) (q j : Nat) (h : j < q) : (ns.take q).getD j nd0 = ns.getD j nd0 := by
 simp [List.getD, h]
theorem za4.take {w : World} {a : Option Addr} {n : Nat} {ns : List Nd} (h : za4 w a n ns) (q : Nat) (hq : q ≤ n) : za4 w a q (ns.take q) := by
 refine ⟨by rw [List.length_take, h.1]; omega, fun j hj => ?_⟩
 have h2 := h.2 j (by omega)
 rw [zdq ns q j hj]
 exact h2
theorem IntT.drop {ns : List Nd} (h : IntT ns) (q : Nat) : IntT (ns.drop q) := fun j => by
 have hg : (ns.drop q).getD j nd0 = ns.getD (q + j) nd0 := by simp [List.getD, List.getElem?_drop]
 rw [hg]
 exact h (q + j)
theorem IntT.take {ns : List Nd} (h : IntT ns) (q : Nat) : IntT (ns.take q) := fun j => by
 by_cases hj : j < q
 ·
  rw [zdq ns q j hj]; exact h j
 ·
  have hg : (ns.take q).getD j nd0 = ns.getD ns.length nd0 := by simp [List.getD, List.getElem?_take, hj]
  rw [hg]; exact h ns.length
theorem zam.drop {ns : List Nd} (h : zam ns) (q : Nat) : zam (ns.drop q) := fun j => by
 have hg : (ns.drop q).getD j nd0 = ns.getD (q + j) nd0 := by simp [List.getD, List.getElem?_drop]
 rw [hg]
 exact h (q + j)
theorem zam.take {ns : List Nd} (h : zam ns) (q : Nat) : zam (ns.take q) := fun j => by
 by_cases hj : j < q
 ·
  rw [zdq ns q j hj]; exact h j
 ·
  have hg : (ns.take q).getD j nd0 = nd0 := by simp [List.getD, List.getElem?_take, hj]
  rw [hg]; exact ⟨by decide, by decide⟩
set_option maxHeartbeats 4000000 in
set_option maxRecDepth 100000 in
theorem zfA (a : Option Addr) (len cap : Nat) (ns : List Nd) (w : World) (hin : za4 w a len ns) (hint : IntT ns) (hsh : zam ns) (hlen : len ≤ 1048576) :
 Calls Tryz.prog 44 #[.slice a len cap] w fun e w' => ∃ v, e = .returned v ∧ w'.ownsRow w.heap.size 90 4 v (zb2 ns).length (za0 (zb2 ns)) ∧ Below w.heap.size w w' := by
 obtain rfl : ns.length = len := hin.1
 have HT : Hid (_) := zd9 a ns.length cap ns w hin hint hsh hlen
 rcases hb : zaI ns with _ | _
 ·
  rw [hb] at HT
  have HF : Hid (zb2 ns = []) := by exact (by unfold zb2; rw [hb]; rfl : zb2 ns = [])
  clear hin hb
  go_enter Tryz.func44, Tryz.ntmps44
  go_wp2_with fail
  refine Calls.mono HT.out ?_
  rintro e w1 ⟨rfl, hb1⟩
  have HO : Hid ((w1.alloc (.cells #[] 90)).ownsRow w.heap.size 90 4 (.slice (some ⟨w1.heap.size, 0, none⟩) 0 0) 0 (za0 [])) := World.ownsRow_lit (base := w.heap.size) (e := 90) (size := 4) w1 #[] 0 hb1.size (by decide) rfl
  have HB : Hid (Below w.heap.size w (w1.alloc (.cells #[] 90))) := hb1.alloc hb1.size _
  clear hb1
  go_wp2
  go_ret
  rw [HF.out]
  first | exact ⟨_, rfl, HO.out, HB.out⟩ | exact ⟨HO.out, HB.out⟩
 ·
  rw [hb] at HT
  obtain ⟨hl, ho⟩ := zaM.1 hb
  have hpos := ho.pos
  obtain ⟨b, off, rfl, _⟩ := hin.at hpos
  have HCp : Hid (∀ Z, Below w.heap.size w Z → _) := fun Z (hz : Below w.heap.size w Z) => zhd (some ⟨b, off, none⟩) ns.length cap ns Z (hin.below hz) (fun e => by cases e) hlen hsh
  have HFo : Hid (Fo ns (zb2 ns)) := zgA hb
  generalize zb2 ns = res at HFo ⊢
  have HI : Hid (IntT ns) := hint
  have HS : Hid (zam ns) := hsh
  have HOn : Hid (One ns) := ho
  obtain ⟨n, hn⟩ : ∃ n, ns.length = n := ⟨_, rfl⟩
  have HN : Hid (ns.length = n) := hn
  rw [hn] at HT HCp hpos hl ⊢
  clear hin hb hint hsh ho hn
  go_enter Tryz.func44, Tryz.ntmps44
  go_wp2_with fail
  refine Calls.mono HT.out ?_
  rintro e w1 ⟨rfl, hb1⟩
  have HC1 : Hid (_) := HCp.out w1 hb1
  have HB1 : Hid (Below w.heap.size w w1) := hb1
  clear hb1 HT HCp
  go_wp2_with fail
  refine Calls.mono HC1.out ?_
  rintro e w2 ⟨v, rfl, hv, hb2⟩
  obtain ⟨g, cp, rfl⟩ := zag hv (by omega)
  have HB2 : Hid (Below w.heap.size w w2) := HB1.out.trans (hb2.mono HB1.out.size)
  have HV : Hid (w2.ownsRow w.heap.size 90 4 (.slice (some ⟨g, 0, none⟩) n cp) n (za0 ns)) := zaj hv HB1.out.size
  clear hv hb2 HC1 HB1
  obtain ⟨X1, hX1⟩ : ∃ X1, w2.alloc (.cells #[.slice (some ⟨g, 0, none⟩) n cp] 46) = X1 := ⟨_, rfl⟩
  have hs1 : X1.heap.size = w2.heap.size + 1 := by rw [← hX1]; simp
  obtain ⟨X2, hX2⟩ : ∃ X2, X1.alloc (.cells #[.nilFunc] 102) = X2 := ⟨_, rfl⟩
  have hs2 : X2.heap.size = w2.heap.size + 2 := by rw [← hX2]; simp [hs1]
  have hb21 : Below w2.heap.size w2 X1 := by rw [← hX1]; exact (Below.refl _ w2).alloc (Nat.le_refl _) _
  have hb22 : Below X1.heap.size X1 X2 := by rw [← hX2]; exact (Below.refl _ X1).alloc (Nat.le_refl _) _
  have cl1 : X1.cell? ⟨w2.heap.size, 0, none⟩ = some (.slice (some ⟨g, 0, none⟩) n cp) := by rw [← hX1]; simp
  have cz1 : X1.frozen? ⟨w2.heap.size, 0, none⟩ = false := by rw [← hX1]; exact World.frozen?_alloc_at _ _ _ _ rfl
  have cl2 : X2.cell? ⟨w2.heap.size, 0, none⟩ = some (.slice (some ⟨g, 0, none⟩) n cp) := (hb22.cell (p := ⟨w2.heap.size, 0, none⟩) (by rw [hs1]; exact Nat.lt_succ_self _)).trans cl1
  have cf2 : X2.cell? ⟨w2.heap.size + 1, 0, none⟩ = some .nilFunc := by rw [← hX2, ← hs1]; simp
  have cz2 : X2.frozen? ⟨w2.heap.size + 1, 0, none⟩ = false := by rw [← hX2, ← hs1]; exact World.frozen?_alloc_at _ _ _ _ rfl
  obtain ⟨X3, hX3⟩ : ∃ X3, X2.setCell ⟨w2.heap.size + 1, 0, none⟩ (.func (.func 76) #[] #[.pointer (some ⟨w2.heap.size, 0, none⟩), .pointer (some ⟨w2.heap.size + 1, 0, none⟩)]) = X3 := ⟨_, rfl⟩
  have cf3 : X3.cell? ⟨w2.heap.size + 1, 0, none⟩ = some (.func (.func 76) #[] #[.pointer (some ⟨w2.heap.size, 0, none⟩), .pointer (some ⟨w2.heap.size + 1, 0, none⟩)]) := by rw [← hX3]; exact World.cell?_setCell_same _ _ _ cf2
  have hg3 : X2.grownBy X3 (some (w2.heap.size + 1)) := by rw [← hX3]; exact zaC _ _ _ _
  have hgl := HV.out.lt g rfl
  have hb20 : Below w2.heap.size w2 X2 := hb21.trans (hb22.mono hb21.size)
  have hst : St11 X3 (w2.heap.size + 2) w2.heap.size (w2.heap.size + 1) g cp ns 0 := by
   obtain ⟨_, a', c', e, hnin⟩ := zaq HV.out
   injection e with e1 _ e3
   subst e1 e3
   obtain ⟨hcp1, hcp2⟩ : n ≤ cp ∧ cp ≤ maxLen := by
    rcases HV.out.2 with ⟨h', _⟩ | ⟨g', cap', cur, h', _, _, hnc, hcm, _⟩
    ·
     simp at h'
    ·
     simp only [Value.slice.injEq, Option.some.injEq, Addr.mk.injEq, and_true, true_and] at h'
     obtain ⟨rfl, rfl⟩ := h'
     exact ⟨hnc, hcm⟩
   have kl := hg3.block w2.heap.size (by omega) (fun e => by injection e with e; omega)
   refine ⟨⟨_, by rw [HN.out]; exact (World.cell?_of_block (a := ⟨w2.heap.size, 0, none⟩) kl).trans cl2, fun _ => rfl⟩, ?_, cf3, ?_, by rw [HN.out]; exact hcp1, hcp2, by omega, by omega, by omega, by omega, by omega, by have := hg3.size; omega⟩
   ·
    have h2 : X2.frozen? ⟨w2.heap.size, 0, none⟩ = false := by
     have h1 := cz1
     have kb := hb22.block w2.heap.size (by omega)
     simp only [World.frozen?] at h1 ⊢
     rw [kb]; exact h1
    simp only [World.frozen?] at h2 ⊢
    rw [kl]; exact h2
   ·
    rw [HN.out]
    refine (hnin.below hb20).keep hg3.size (fun b off e _ => ?_)
    injection e with e
    injection e with e1 _ _
    subst e1
    exact hg3.block _ (by omega) (fun e => by injection e with e; omega)
  have HSt : Hid (_) := zi2 (w2.heap.size + 2) w2.heap.size (w2.heap.size + 1) g cp ns (by rw [HN.out]; exact hl) HS.out HI.out HOn.out X3 0 [] (by simp) hst
  have HB3 : Hid (Below w.heap.size w X3) := by
   have hbw := HB2.out.trans (hb20.mono HB2.out.size)
   exact hbw.grown hg3 hbw.size (fun k e => by injection e with e; have := HB2.out.size; omega)
  have hw2 := HB2.out.size
  clear hst cl1 cz1 hb21 hb22 hb20 hgl hg3 HV
  go_wp2_with fail
  refine Calls.mono HSt.out ?_
  rintro e w5 ⟨v, r, rfl, hfo, hv, _, hg⟩
  have HR : Hid (r = res) := hfo.uniq HFo.out
  have HO : Hid (w5.ownsRow w.heap.size 90 4 v r.length (za0 r)) := zaj hv (by omega)
  have HB : Hid (Below w.heap.size w w5) := HB3.out.grown hg HB3.out.size (fun k e => by injection e with e; omega)
  rw [HR.out] at HO
  clear hfo hv hg HSt HR
  go_wp2
  go_ret
  first | exact ⟨_, rfl, HO.out, HB.out⟩ | exact ⟨HO.out, HB.out⟩
theorem push_fv {X : World} {B : Nat} {v : Value} {xs : List FV} (h : zas X B v xs) (x : FV) (ht : X.ownsRow B 90 4 (fvT x) x.1.2.2.length (za0 x.1.2.2)) (hb : B ≤ X.heap.size) (hn : xs.length ≤ 1048576) :
 ∃ v' Y, (Builtin.append_ #[31, 31] 31 #[v, .slice (some ⟨X.heap.size, 0, none⟩) 1 1]).run Tryz.prog (X.alloc (.cells #[.string ⟨x.1.1.toArray⟩, .int .i64 x.1.2.1, fvT x] 48)) = .ok v' Y ∧ zas Y B v' (xs ++ [x]) ∧ X.grownBy Y v.ownBlock := by
 obtain ⟨i0, hi, hz0, hz1, hz2⟩ := info_parts ziF
 obtain ⟨v', Y, hrun, hown, hg, _⟩ := zaS (P := Tryz.prog) (X.alloc (.cells #[.string ⟨x.1.1.toArray⟩, .int .i64 x.1.2.1, fvT x] 48)) B 31 31 48 i0 _ 3 48 Tryz.underlying31 hi hz0 hz1 hz2 rfl (by decide) _ _ _ (h.row.alloc _) _ 1 (fnsV [x]) (new_fn X x 1) (by unfold maxLen; omega) (by omega) (by simp; omega)
 refine ⟨v', Y, hrun, ⟨?_, fun z hz => ?_⟩, (World.grownBy_alloc X _ _).trans hg⟩
 ·
  rw [zi4, List.length_append]
  exact hown
 ·
  have hrow := h.row.alloc (.cells #[.string ⟨x.1.1.toArray⟩, .int .i64 x.1.2.1, fvT x] 48)
  rcases List.mem_append.1 hz with h1 | h1
  ·
   have h2 := (h.trees z h1).alloc (.cells #[.string ⟨x.1.1.toArray⟩, .int .i64 x.1.2.1, fvT x] 48)
   exact h2.kept hg (zah h2 hrow (by decide))
  ·
   rw [List.mem_singleton.1 h1]
   have h2 := ht.alloc (.cells #[.string ⟨x.1.1.toArray⟩, .int .i64 x.1.2.1, fvT x] 48)
   exact h2.kept hg (zah h2 hrow (by decide))
structure Bq (Z : World) (k : Nat) (a b c : Value) : Prop where
 box : Box3 Z k a b c
 fr : ∀ j, Z.frozen? ⟨k, j, none⟩ = false
theorem Bq.new (w : World) (a b c : Value) (t : TypeId) : Bq (w.alloc (.cells #[a, b, c] t)) w.heap.size a b c ∧ Below w.heap.size w (w.alloc (.cells #[a, b, c] t)) := by
 obtain ⟨h1, h2⟩ := Box3.new w a b c t
 exact ⟨⟨h1, fun j => World.frozen?_alloc_at _ _ _ _ rfl⟩, h2⟩
theorem Bq.keep {Z Y : World} {k : Nat} {a b c : Value} (h : Bq Z k a b c) (e : Y.heap[k]? = Z.heap[k]?) : Bq Y k a b c := ⟨h.box.keep e, fun j => by have := h.fr j; simp only [World.frozen?] at this ⊢; rw [e]; exact this⟩
theorem Bq.below {Z Y : World} {k : Nat} {a b c : Value} (h : Bq Z k a b c) (hb : Below Z.heap.size Z Y) : Bq Y k a b c := h.keep (hb.block k h.box.lt)
theorem Bq.s2 {Z : World} {k : Nat} {a b c : Value} (h : Bq Z k a b c) (v : Value) : Bq (Z.setCell ⟨k, 2, none⟩ v) k a b v :=
 ⟨⟨(World.cell?_setCell_other _ _ _ _ (by simp)).trans h.box.c0, (World.cell?_setCell_other _ _ _ _ (by simp)).trans h.box.c1, World.cell?_setCell_same _ _ _ h.box.c2⟩, fun j => by simpa using h.fr j⟩

def zbU (f : Fn) : Fn := (f.1, f.2.1, zb2 f.2.2)
def zfB (p : Pk) : Pk := (p.1, p.2.1, p.2.2.map zbU)
theorem foldF_0 : zbU fn0 = fn0 := rfl
theorem foldP_1 (p : Pk) : (zfB p).1 = p.1 := rfl
theorem foldP_2 (p : Pk) : (zfB p).2.1 = p.2.1 := rfl
theorem zeS (p : Pk) : (zfB p).2.2.length = p.2.2.length := by unfold zfB; simp
theorem zjH (fs : List Fn) (k : Nat) : (fs.map zbU).getD k fn0 = zbU (fs.getD k fn0) := by
 by_cases h : k < fs.length
 ·
  simp [List.getD, h]
 ·
  simp [List.getD, List.getElem?_eq_none (Nat.le_of_not_lt h), foldF_0]
theorem zej (p : Pk) (k : Nat) : ((zfB p).2.2.getD k fn0).1 = (p.2.2.getD k fn0).1 ∧ ((zfB p).2.2.getD k fn0).2.1 = (p.2.2.getD k fn0).2.1 := by
 show ((p.2.2.map zbU).getD k fn0).1 = _ ∧ ((p.2.2.map zbU).getD k fn0).2.1 = _
 rw [zjH]
 exact ⟨rfl, rfl⟩
def zao (p : Pk) : Pk := if pkgB p = true then zfB p else ([], [], [])
theorem zhH {X : World} {B n : Nat} {v : Value} {ts : List (List UInt8)} (s : List UInt8) (hv : X.ownsRow B 9 1 v n (strV ts)) (hb : B ≤ X.heap.size) (hn : n ≤ 1048576) :
 ∃ v' Y, (Builtin.append_ #[22, 22] 22 #[v, .slice (some ⟨X.heap.size, 0, none⟩) 1 1]).run Tryz.prog (X.alloc (.cells #[.string ⟨s.toArray⟩] 9)) = .ok v' Y ∧ Y.ownsRow B 9 1 v' (n + 1) (strV (ts ++ [s])) ∧ X.grownBy Y v.ownBlock := by
 obtain ⟨i0, hi, hz0, hz1, hz2⟩ := info_parts info9
 obtain ⟨v', Y, hrun, hown, hg, _⟩ := zaS (P := Tryz.prog) (X.alloc (.cells #[.string ⟨s.toArray⟩] 9)) B 22 22 9 i0 _ 1 16 Tryz.underlying22 hi hz0 hz1 hz2 rfl (by decide) _ _ _ (hv.alloc _) _ 1 (strV [s]) (new_str X s 1) (by unfold maxLen; omega) (by omega) (by simp; omega)
 refine ⟨v', Y, hrun, ?_, (World.grownBy_alloc X _ _).trans hg⟩
 rw [← zgH]
 exact hown
structure Sp11 (w X : World) (E S : Nat) (nm : List UInt8) (va : Option Addr) (vl vc : Nat) (ts : List (List UInt8)) (ga : Option Addr) (gl gc : Nat) (zs : List FV) : Prop where
 box : Bq X S (.string ⟨nm.toArray⟩) (.slice va vl vc) (.slice ga gl gc)
 txt : X.ownsRow (S + 1) 9 1 (.slice va vl vc) vl (strV ts)
 fns : zas X (S + 1) (.slice ga gl gc) zs
 vl : ts.length = vl
 gl : zs.length = gl
 ap : zc5 (zs.map fvT)
 es : E ≤ S
 b : Below E w X
section
variable {w X Y : World} {E S : Nat} {nm : List UInt8} {va : Option Addr} {vl vc : Nat} {ts : List (List UInt8)} {ga : Option Addr} {gl gc : Nat} {zs : List FV}
theorem Sp11.below (h : Sp11 w X E S nm va vl vc ts ga gl gc zs) (hb : Below X.heap.size X Y) : Sp11 w Y E S nm va vl vc ts ga gl gc zs :=
 ⟨h.box.below hb, za2 h.txt hb, h.fns.below hb, h.vl, h.gl, h.ap, h.es, h.b.trans (hb.mono (Nat.le_trans h.es (Nat.le_of_lt h.box.box.lt)))⟩
theorem Bq.s1 {Z : World} {k : Nat} {a b c : Value} (h : Bq Z k a b c) (v : Value) : Bq (Z.setCell ⟨k, 1, none⟩ v) k a v c :=
 ⟨⟨(World.cell?_setCell_other _ _ _ _ (by simp)).trans h.box.c0, World.cell?_setCell_same _ _ _ h.box.c1, (World.cell?_setCell_other _ _ _ _ (by simp)).trans h.box.c2⟩, fun j => by simpa using h.fr j⟩
theorem Sp11.text (h : Sp11 w X E S nm va vl vc ts ga gl gc zs) (s : List UInt8) (hl : vl ≤ 1048576) :
 ∃ g' c' Y, (Builtin.append_ #[22, 22] 22 #[.slice va vl vc, .slice (some ⟨X.heap.size, 0, none⟩) 1 1]).run Tryz.prog (X.alloc (.cells #[.string ⟨s.toArray⟩] 9)) = .ok (.slice (some ⟨g', 0, none⟩) (vl + 1) c') Y ∧ Y.cell? ⟨S, 1, none⟩ = some (.slice va vl vc) ∧ Y.frozen? ⟨S, 1, none⟩ = false ∧ Sp11 w (Y.setCell ⟨S, 1, none⟩ (.slice (some ⟨g', 0, none⟩) (vl + 1) c')) E S nm (some ⟨g', 0, none⟩) (vl + 1) c' (ts ++ [s]) ga gl gc zs := by
 have hsl := h.box.box.lt
 obtain ⟨v', Y, hr, ho, hg⟩ := zhH s h.txt (by omega : S + 1 ≤ X.heap.size) hl
 obtain ⟨g', c', rfl⟩ := zag ho (by omega)
 have hbY : Bq Y S (.string ⟨nm.toArray⟩) (.slice va vl vc) (.slice ga gl gc) := h.box.keep (hg.block S hsl (fun e => by have := (h.txt.lt S e.symm).1; omega))
 have hfY : zas Y (S + 1) (.slice ga gl gc) zs := ⟨h.fns.row.kept hg (zah h.fns.row h.txt (by decide)), fun x hx => (h.fns.trees x hx).kept hg (zah (h.fns.trees x hx) h.txt (by decide))⟩
 have hbb : Below E w Y := h.b.grown hg (Nat.le_trans h.es (Nat.le_of_lt hsl)) (fun k e => by have := (h.txt.lt k e).1; have := h.es; omega)
 have hg2 := zaC Y S 1 (.slice (some ⟨g', 0, none⟩) (vl + 1) c')
 refine ⟨g', c', Y, hr, hbY.box.c1, hbY.fr 1, hbY.s1 _, zaz ho (Nat.lt_succ_self _) hg2, ⟨zaz hfY.row (Nat.lt_succ_self _) hg2, fun x hx => zaz (hfY.trees x hx) (Nat.lt_succ_self _) hg2⟩, by rw [List.length_append, h.vl]; rfl, h.gl, h.ap, h.es, hbb.grown hg2 (by have := hbY.box.lt; have := h.es; omega) (fun k e => by injection e with e; have := h.es; omega)⟩
theorem Sp11.func (h : Sp11 w X E S nm va vl vc ts ga gl gc zs) (x : FV) (ht : X.ownsRow (S + 1) 90 4 (fvT x) x.1.2.2.length (za0 x.1.2.2)) (hap : ∀ z ∈ zs, (fvT z).ownBlock = none ∨ (fvT z).ownBlock ≠ (fvT x).ownBlock) (hl : gl ≤ 1048576) :
 ∃ g' c' Y, (Builtin.append_ #[31, 31] 31 #[.slice ga gl gc, .slice (some ⟨X.heap.size, 0, none⟩) 1 1]).run Tryz.prog (X.alloc (.cells #[.string ⟨x.1.1.toArray⟩, .int .i64 x.1.2.1, fvT x] 48)) = .ok (.slice (some ⟨g', 0, none⟩) (gl + 1) c') Y ∧ Y.cell? ⟨S, 2, none⟩ = some (.slice ga gl gc) ∧ Y.frozen? ⟨S, 2, none⟩ = false ∧ Sp11 w (Y.setCell ⟨S, 2, none⟩ (.slice (some ⟨g', 0, none⟩) (gl + 1) c')) E S nm va vl vc ts (some ⟨g', 0, none⟩) (gl + 1) c' (zs ++ [x]) ∧ X.grownBy Y (Value.slice ga gl gc).ownBlock := by
 have hsl := h.box.box.lt
 obtain ⟨v', Y, hr, ho, hg⟩ := push_fv h.fns x ht (by omega : S + 1 ≤ X.heap.size) (by rw [h.gl]; exact hl)
 have hlen : (zs ++ [x]).length = gl + 1 := by rw [List.length_append, h.gl]; rfl
 obtain ⟨g', c', rfl⟩ := zag ho.row (by omega)
 rw [hlen] at hr ho
 have hrow : X.ownsRow (S + 1) 48 3 (.slice ga gl gc) gl (fnsV zs) := by have := h.fns.row; rw [h.gl] at this; exact this
 have hbY : Bq Y S (.string ⟨nm.toArray⟩) (.slice va vl vc) (.slice ga gl gc) := h.box.keep (hg.block S hsl (fun e => by have := (hrow.lt S e.symm).1; omega))
 have htY := h.txt.kept hg (zah h.txt hrow (by decide))
 have hbb : Below E w Y := h.b.grown hg (Nat.le_trans h.es (Nat.le_of_lt hsl)) (fun k e => by have := (hrow.lt k e).1; have := h.es; omega)
 have hg2 := zaC Y S 2 (.slice (some ⟨g', 0, none⟩) (gl + 1) c')
 refine ⟨g', c', Y, hr, hbY.box.c2, hbY.fr 2, ⟨hbY.s2 _, zaz htY (Nat.lt_succ_self _) hg2, ⟨?_, fun x hx => zaz (ho.trees x hx) (Nat.lt_succ_self _) hg2⟩, h.vl, hlen, ?_, h.es, hbb.grown hg2 (by have := hbY.box.lt; have := h.es; omega) (fun k e => by injection e with e; have := h.es; omega)⟩, hg⟩
 ·
  exact zaz ho.row (Nat.lt_succ_self _) hg2
 ·
  rw [List.map_append]
  refine zc5.snoc h.ap (fun v hv => ?_)
  obtain ⟨z, hz, rfl⟩ := List.mem_map.1 hv
  exact hap z hz
end
structure Fq11 (w X : World) (E S F : Nat) (nm : List UInt8) (va : Option Addr) (vl vc : Nat) (ts : List (List UInt8)) (ga : Option Addr) (gl gc : Nat) (zs : List FV) (s : List UInt8) (n : Int) (ta : Option Addr) (tl tc : Nat) (tt : List Nd) : Prop where
 sp : Sp11 w X E S nm va vl vc ts ga gl gc zs
 fb : Box3 X F (.string ⟨s.toArray⟩) (.int .i64 n) (.slice ta tl tc)
 no : za4 X ta tl tt
theorem Fq11.below {w X Y : World} {E S F : Nat} {nm : List UInt8} {va : Option Addr} {vl vc : Nat} {ts : List (List UInt8)} {ga : Option Addr} {gl gc : Nat} {zs : List FV} {s : List UInt8} {n : Int} {ta : Option Addr} {tl tc : Nat} {tt : List Nd} (h : Fq11 w X E S F nm va vl vc ts ga gl gc zs s n ta tl tc tt) (hb : Below X.heap.size X Y) : Fq11 w Y E S F nm va vl vc ts ga gl gc zs s n ta tl tc tt :=
 ⟨h.sp.below hb, h.fb.below hb, h.no.below hb⟩
set_option maxHeartbeats 8000000 in
set_option maxRecDepth 100000 in
theorem zdT (nm : List UInt8) (ia : Option Addr) (il ic : Nat) (fa : Option Addr) (fl fc : Nat) (ims : List (List UInt8)) (fs : List Fn) (w : World) (h : PkOk w nm ia il ic fa fl fc ims fs) :
 Calls Tryz.prog 19 #[.agg #[.string ⟨nm.toArray⟩, .slice ia il ic, .slice fa fl fc]] w fun e w' => ∃ vi vf xs, e = .returned (.agg #[.string ⟨(zao (nm, ims, fs)).1.toArray⟩, vi, vf]) ∧ xs.map (·.1) = (zao (nm, ims, fs)).2.2 ∧ w'.ownsRow w.heap.size 9 1 vi (zao (nm, ims, fs)).2.1.length (strV (zao (nm, ims, fs)).2.1) ∧ zas w' w.heap.size vf xs ∧ zc5 (xs.map fvT) ∧ Below w.heap.size w w' := by
 obtain ⟨bP, hb1⟩ := Bq.new w (.string ⟨nm.toArray⟩) (.slice ia il ic) (.slice fa fl fc) 33
 obtain ⟨W1, hW1⟩ : ∃ W1, w.alloc (.cells #[.string ⟨nm.toArray⟩, .slice ia il ic, .slice fa fl fc] 33) = W1 := ⟨_, rfl⟩
 rw [hW1] at bP hb1
 obtain ⟨bR, hb2⟩ := Bq.new W1 (.string ⟨#[]⟩) (.slice none 0 0) (.slice none 0 0) 33
 obtain ⟨W2, hW2⟩ : ∃ W2, W1.alloc (.cells #[.string ⟨#[]⟩, .slice none 0 0, .slice none 0 0] 33) = W2 := ⟨_, rfl⟩
 rw [hW2] at bR hb2
 obtain ⟨P0, hP0⟩ : ∃ P0, w.heap.size = P0 := ⟨_, rfl⟩
 obtain ⟨R0, hR0⟩ : ∃ R0, W1.heap.size = R0 := ⟨_, rfl⟩
 rw [hP0] at bP
 rw [hR0] at bR
 have hPl : P0 < W1.heap.size := bP.box.lt
 have hRl : R0 < W2.heap.size := bR.box.lt
 have hPR : P0 ≤ R0 := by omega
 have hbw : Below w.heap.size w W2 := hb1.trans (hb2.mono hb1.size)
 have HZ : Hid (∀ Y, Below W2.heap.size W2 Y → Bq Y P0 (.string ⟨nm.toArray⟩) (.slice ia il ic) (.slice fa fl fc) ∧ Bq Y R0 (.string ⟨#[]⟩) (.slice none 0 0) (.slice none 0 0) ∧ Below w.heap.size w Y) := fun Y hy => ⟨(bP.below hb2).below hy, bR.below hy, hbw.trans (hy.mono hbw.size)⟩
 have HOk : Hid (_) := zgu nm ia il ic fa fl fc ims fs W2 (h.below hbw)
 have HPk : Hid (∀ Y, Below W2.heap.size W2 Y → PkOk Y nm ia il ic fa fl fc ims fs) := fun Y hy => (h.below hbw).below hy
 obtain ⟨b0, _, _⟩ := HZ.out W2 (Below.refl _ _)
 have p0 := b0.box.c0
 have p1 := b0.box.c1
 have p2 := b0.box.c2
 have hwE := hbw.size
 have hnl := h.nm
 have hil := h.il
 have hfl := h.fl
 have HIl : Hid (ims.length = il) := h.i.1
 have HFl : Hid (fs.length = fl) := h.f.1
 have HIs : Hid (∀ i, (ims.getD i []).length ≤ 1048576) := h.is
 have HFs : Hid (zdk fs) := h.fs
 have HIF : Hid (IntF fs) := h.int
 clear b0 bP bR hb1 hb2 h
 rcases hp : pkgB (nm, ims, fs) with _ | _
 ·
  have hF : zao (nm, ims, fs) = ([], [], []) := by unfold zao; rw [hp]; rfl
  rw [hF]
  rw [hp] at HOk
  simp only
  clear hF hp hbw
  go_enter Tryz.func19, Tryz.ntmps19
  go_wp2_with fail
  refine Calls.mono HOk.out ?_
  rintro e w3 ⟨rfl, hb3⟩
  obtain ⟨_, br, hbw⟩ := HZ.out w3 hb3
  have r0 := br.box.c0
  have r1 := br.box.c1
  have r2 := br.box.c2
  have rf0 := br.fr 0
  have rf1 := br.fr 1
  have rf2 := br.fr 2
  obtain ⟨V, hV, v0, v1, v2, hgV⟩ := set3 (.string ⟨#[]⟩) (.slice none 0 0) (.slice none 0 0) r0 r1 r2
  have HR1 : Hid (V.ownsRow w.heap.size 9 1 (.slice none 0 0) 0 (strV [])) := World.ownsRow_nil V _ _ _
  have HR2 : Hid (zas V w.heap.size (.slice none 0 0) []) := zas.nil V _
  have HR3 : Hid (Below w.heap.size w V) := hbw.grown hgV hbw.size (fun k e => by injection e with e; omega)
  clear hbw hgV br hb3
  go_wp2
  refine bodyPost_ret (v := .agg #[.string ⟨#[]⟩, .slice none 0 0, .slice none 0 0]) (by simp [results, Tryz.results19, go_sem, v0, v1, v2]) rfl ?_
  have q1 := HR1.out
  have q2 := HR2.out
  have q3 := HR3.out
  first | exact ⟨_, _, _, rfl, rfl, q1, q2, zc5.nil, q3⟩ | (rw [hP0] at q1 q2 q3; exact ⟨_, _, _, rfl, rfl, q1, q2, zc5.nil, q3⟩) | (rw [hP0] at q1 q2 q3; exact ⟨_, _, rfl, [], rfl, q1, q2, zc5.nil, q3⟩)
 ·
  have hF : zao (nm, ims, fs) = (nm, ims, fs.map zbU) := by unfold zao; rw [hp]; rfl
  rw [hF]
  rw [hp] at HOk
  simp only
  have HPp : Hid (pkgB (nm, ims, fs) = true) := hp
  clear hF hp hbw
  go_enter Tryz.func19, Tryz.ntmps19
  go_wp2_with fail
  refine Calls.mono HOk.out ?_
  rintro e w3 ⟨rfl, hb3⟩
  obtain ⟨bp, _, _⟩ := HZ.out w3 hb3
  have y0 := bp.box.c0
  have y1 := bp.box.c1
  have y2 := bp.box.c2
  have HB3 : Hid (Below W2.heap.size W2 w3) := hb3
  clear bp hb3 p0 p1 p2 HOk
  go_wp2_with fail
  refine (zbY nm _ hnl).mono ?_
  rintro e w4 ⟨rfl, hb4⟩
  have hb24 := HB3.out.trans (hb4.mono HB3.out.size)
  obtain ⟨bS, hb5⟩ := Bq.new w4 (.string ⟨nm.toArray⟩) (.slice none 0 0) (.slice none 0 0) 33
  obtain ⟨X, hX⟩ : ∃ X, w4.alloc (.cells #[.string ⟨nm.toArray⟩, .slice none 0 0, .slice none 0 0] 33) = X := ⟨_, rfl⟩
  rw [hX] at bS hb5
  obtain ⟨S, hS⟩ : ∃ S, w4.heap.size = S := ⟨_, rfl⟩
  rw [hS] at bS
  have z1 := bS.box.c1
  have z2 := bS.box.c2
  have zf1 := bS.fr 1
  have zf2 := bS.fr 2
  have hSl : S < X.heap.size := bS.box.lt
  have bS2 := (bS.s1 (.slice none 0 0)).s2 (.slice none 0 0)
  have hbX : Below W2.heap.size W2 X := hb24.trans (hb5.mono hb24.size)
  have hES : W2.heap.size ≤ S := by rw [← hS]; exact hb24.size
  have hg1 := zaC X S 1 (.slice none 0 0)
  have hg2 := zaC (X.setCell ⟨S, 1, none⟩ (.slice none 0 0)) S 2 (.slice none 0 0)
  have hbX1 := hbX.grown hg1 hbX.size (fun k e => by injection e with e; omega)
  have hbX2 := hbX1.grown hg2 hbX1.size (fun k e => by injection e with e; omega)
  obtain ⟨X2, hX2⟩ : ∃ X2, (X.setCell ⟨S, 1, none⟩ (.slice none 0 0)).setCell ⟨S, 2, none⟩ (.slice none 0 0) = X2 := ⟨_, rfl⟩
  rw [hX2] at bS2 hbX2
  have HS0 : Hid (Sp11 W2 X2 W2.heap.size S nm none 0 0 [] none 0 0 []) := ⟨bS2, World.ownsRow_nil _ _ _ _, zas.nil _ _, rfl, rfl, zc5.nil, hES, hbX2⟩
  obtain ⟨bp, _, _⟩ := HZ.out X2 HS0.out.b
  have x0 := bp.box.c0
  have x1 := bp.box.c1
  have x2 := bp.box.c2
  clear bp hb24 hb4 hb5 bS y0 y1 y2 bS2 hbX hg1 hg2 hbX1 hbX2 hSl
  go_wp2
  go_loopw [19] (fun iv wx => ∃ (i : Nat) (va : Option Addr) (vc : Nat), iv = .int .i64 (i : Int) ∧ i ≤ il ∧ Hid (Sp11 W2 wx W2.heap.size S nm va i vc (ims.take i) none 0 0 [])) (fun iv _ => il - (intOf iv).toNat)
  case atStart => exact ⟨0, none, 0, rfl, Nat.zero_le _, by exact HS0⟩
  case round =>
   obtain ⟨i, va, vc, rfl, hi, HSr⟩ := hrel
   clear HS0 x0 x1 x2 z1 z2 zf1 zf2
   by_cases hlt : (i : Int) < (il : Int)
   ·
    obtain ⟨b, off, rfl, hbl, hcells⟩ := (HPk.out wr HSr.out.b).i.at (by omega)
    have ck := hcells i (by omega)
    have hs := HIs.out i
    have htk : ims.take (i + 1) = ims.take i ++ [ims.getD i []] := by
     have hil2 : i < ims.length := by rw [HIl.out]; omega
     have hg : ims.getD i [] = ims[i] := by simp [List.getD, hil2]
     rw [hg, List.take_succ_eq_append_getElem hil2]
    obtain ⟨s, hse⟩ : ∃ s, ims.getD i [] = s := ⟨_, rfl⟩
    rw [hse] at ck hs htk
    have HTk : Hid (ims.take (i + 1) = ims.take i ++ [s]) := htk
    have o1 := HSr.out.box.box.c1
    have hSl : S < wr.heap.size := HSr.out.box.box.lt
    have HSt : Hid (∀ w5, Below wr.heap.size wr w5 → ∃ g' c' Y, (Builtin.append_ #[22, 22] 22 #[.slice va i vc, .slice (some ⟨w5.heap.size, 0, none⟩) 1 1]).run Tryz.prog (w5.alloc (.cells #[.string ⟨s.toArray⟩] 9)) = .ok (.slice (some ⟨g', 0, none⟩) (i + 1) c') Y ∧ Y.cell? ⟨S, 1, none⟩ = some (.slice va i vc) ∧ Y.frozen? ⟨S, 1, none⟩ = false ∧ Sp11 W2 (Y.setCell ⟨S, 1, none⟩ (.slice (some ⟨g', 0, none⟩) (i + 1) c')) W2.heap.size S nm (some ⟨g', 0, none⟩) (i + 1) c' (ims.take (i + 1)) none 0 0 [] ∧ w5.cell? ⟨S, 1, none⟩ = some (.slice va i vc) ∧ (w5.alloc (.cells #[.string ⟨s.toArray⟩] 9)).cell? ⟨S, 1, none⟩ = some (.slice va i vc)) := fun w5 hb5 => by
     obtain ⟨g', c', Y, h1, h2, h3, h4⟩ := (HSr.out.below hb5).text s (by omega)
     rw [← HTk.out] at h4
     have h5 := (hb5.cell (p := ⟨S, 1, none⟩) hSl).trans o1
     exact ⟨g', c', Y, h1, h2, h3, h4, h5, (((Below.refl _ w5).alloc (Nat.le_refl _) (.cells #[.string ⟨s.toArray⟩] 9)).cell (p := ⟨S, 1, none⟩) (Nat.lt_of_lt_of_le hSl hb5.size)).trans h5⟩
    clear hcells htk hse HSr
    go_wp2_with fail
    go_region_law (first | (refine za8 (by rfl) (.tmp 24) (.tmp 27) 22 (by rfl) _ _ _ (by rfl) (by rfl) hr ?_) | (go_simp; go_at_call 43; refine (zbY s _ hs).mono ?_; rintro e w5 ⟨rfl, hb5⟩; have hb6 : Below wr.heap.size wr w5 := ⟨hb5.os, hb5.tape, hb5.output, hb5.size, hb5.block⟩; obtain ⟨g', c', Y, hr, y1, yf, hq, o15, o16⟩ := HSt.out w5 hb6; have HQ : Hid (_) := hq; clear hb5 hb6 hq; dsimp only))
    all_goals
     go_wp2
     go_roundw
     case rel => exact ⟨i + 1, some ⟨g', 0, none⟩, c', by go_num, by omega, HQ⟩
     case measure => simp [intOf]; omega
   ·
    obtain rfl : i = il := by omega
    have htk : ims.take i = ims := List.take_of_length_le (by rw [HIl.out]; exact Nat.le_refl _)
    rw [htk] at HSr
    obtain ⟨bp, _, _⟩ := HZ.out wr HSr.out.b
    have x2 := bp.box.c2
    have HF0 : Hid (([] : List FV).map (·.1) = (fs.take 0).map zbU) := by exact (by simp : ([] : List FV).map (·.1) = (fs.take 0).map zbU)
    clear bp htk
    go_wp2
    go_loopw [34] (fun jv wx => ∃ (j : Nat) (zs : List FV) (ga : Option Addr) (gc : Nat), jv = .int .i64 (j : Int) ∧ j ≤ fl ∧ Hid (zs.map (·.1) = (fs.take j).map zbU) ∧ Hid (Sp11 W2 wx W2.heap.size S nm va i vc ims ga j gc zs)) (fun jv _ => fl - (intOf jv).toNat)
    case atStart => exact ⟨0, [], none, 0, rfl, Nat.zero_le _, HF0, HSr⟩
    case round =>
     obtain ⟨j, zs, ga, gc, rfl, hj, HM, HSq⟩ := hrel
     clear HF0 HSr x2
     obtain ⟨bp, br, hbw⟩ := HZ.out _ HSq.out.b
     by_cases hlt2 : (j : Int) < (fl : Int)
     ·
      have hj2 : j < fl := by omega
      obtain ⟨b, off, rfl, hbl, c0, c1, ta, tl, tc, c2, htn, hno⟩ := (HPk.out _ HSq.out.b).f.2 j hj2
      have hsm := HFs.out j
      have hin := HIF.out j
      have htk : fs.take (j + 1) = fs.take j ++ [fs.getD j fn0] := by
       have hjl : j < fs.length := by rw [HFl.out]; omega
       have hg : fs.getD j fn0 = fs[j] := by simp [List.getD, hjl]
       rw [hg, List.take_succ_eq_append_getElem hjl]
      obtain ⟨f, hf⟩ : ∃ f, fs.getD j fn0 = f := ⟨_, rfl⟩
      rw [hf] at c0 c1 hno hsm htk hin
      obtain ⟨s, n, tt⟩ := f
      simp only at c0 c1 hno hsm hin
      have hs := hsm.1
      have HTk : Hid (fs.take (j + 1) = fs.take j ++ [(s, n, tt)]) := htk
      obtain ⟨bF, hbF⟩ := Box3.new wr (.string ⟨s.toArray⟩) (.int .i64 n) (.slice ta tl tc) 48
      obtain ⟨X1, hX1⟩ : ∃ X1, wr.alloc (.cells #[.string ⟨s.toArray⟩, .int .i64 n, .slice ta tl tc] 48) = X1 := ⟨_, rfl⟩
      rw [hX1] at bF hbF
      have hrF0 : ∀ k, (Value.slice ga j gc).ownBlock = some k → k < wr.heap.size := fun k e => (HSq.out.fns.row.lt k e).2
      have hSF0 : S < wr.heap.size := HSq.out.box.box.lt
      obtain ⟨F, hFe⟩ : ∃ F, wr.heap.size = F := ⟨_, rfl⟩
      rw [hFe] at bF hrF0 hSF0
      have HrF : Hid (∀ k, (Value.slice ga j gc).ownBlock = some k → k < F) := hrF0
      have st : Fq11 W2 X1 W2.heap.size S F nm va i vc ims ga j gc zs s n ta tl tc tt := ⟨HSq.out.below hbF, bF, hno.below hbF⟩
      have HFt : Hid (∀ Z, za4 Z ta tl tt → Calls Tryz.prog 44 #[.slice ta tl tc] Z fun e w' => ∃ v, e = .returned v ∧ w'.ownsRow Z.heap.size 90 4 v (zb2 tt).length (za0 (zb2 tt)) ∧ Below Z.heap.size Z w') := fun Z hz => zfA ta tl tc tt Z hz hin.2 hsm.2.2 (by have := hz.1; have := hsm.2.1; omega)
      have HSt : Hid (∀ wm wn v, Fq11 W2 wm W2.heap.size S F nm va i vc ims ga j gc zs s n ta tl tc tt → wn.ownsRow wm.heap.size 90 4 v (zb2 tt).length (za0 (zb2 tt)) → Below wm.heap.size wm wn → ∃ a' l' c' g' d' Y zs', v = .slice a' l' c' ∧ (Builtin.append_ #[31, 31] 31 #[.slice ga j gc, .slice (some ⟨wn.heap.size, 0, none⟩) 1 1]).run Tryz.prog (wn.alloc (.cells #[.string ⟨s.toArray⟩, .int .i64 n, .slice a' l' c'] 48)) = .ok (.slice (some ⟨g', 0, none⟩) (j + 1) d') Y ∧ Y.cell? ⟨S, 2, none⟩ = some (.slice ga j gc) ∧ Y.frozen? ⟨S, 2, none⟩ = false ∧ Sp11 W2 (Y.setCell ⟨S, 2, none⟩ (.slice (some ⟨g', 0, none⟩) (j + 1) d')) W2.heap.size S nm va i vc ims (some ⟨g', 0, none⟩) (j + 1) d' zs' ∧ zs'.map (·.1) = (fs.take (j + 1)).map zbU ∧ Box3 wn F (.string ⟨s.toArray⟩) (.int .i64 n) (.slice ta tl tc) ∧ Box3 Y F (.string ⟨s.toArray⟩) (.int .i64 n) (.slice ta tl tc) ∧ wn.cell? ⟨S, 2, none⟩ = some (.slice ga j gc) ∧ (wn.alloc (.cells #[.string ⟨s.toArray⟩, .int .i64 n, .slice a' l' c'] 48)).cell? ⟨S, 2, none⟩ = some (.slice ga j gc)) := fun wm wn v hq hv hb => by
       obtain ⟨_, a', c', rfl, _⟩ := zaq hv
       have hqn := hq.below hb
       have hsl := hq.sp.box.box.lt
       obtain ⟨g', d', Y, h1, h2, h3, h4, h5⟩ := hqn.sp.func ((s, n, zb2 tt), a', c') (zaj hv hsl) (fun z hz => zgQ (hq.sp.fns.trees z hz) hv (Nat.le_refl _)) (by omega)
       have hFl : F < wn.heap.size := hqn.fb.lt
       refine ⟨a', _, c', g', d', Y, _, rfl, h1, h2, h3, h4, ?_, hqn.fb, hqn.fb.keep (h5.block F hFl (fun e => by have := HrF.out F e.symm; omega)), hqn.sp.box.box.c2, (((Below.refl _ wn).alloc (Nat.le_refl _) _).cell (p := ⟨S, 2, none⟩) hqn.sp.box.box.lt).trans hqn.sp.box.box.c2⟩
       rw [List.map_append, HM.out, HTk.out, List.map_append]
       rfl
      have o2 := st.sp.box.box.c2
      have d0 := st.fb.c0
      have d1 := st.fb.c1
      have d2 := st.fb.c2
      have hSF : S ≠ F := by omega
      clear bp br hbw hno htn hsm hin htk hf HSq HM HTk bF hbF hrF0 hSF0
      go_wp2_with fail
      replace st : Fq11 W2 X1.drew W2.heap.size S F nm va i vc ims ga j gc zs s n ta tl tc tt := st.below ⟨rfl, rfl, rfl, Nat.le_refl _, fun _ _ => rfl⟩
      refine Till.region (S := (fun w' => w'.cell? ⟨F, 0, none⟩ = some (.string ⟨s.toArray⟩) ∧ w'.cell? ⟨F, 1, none⟩ = some (.int .i64 n) ∧ w'.cell? ⟨F, 2, none⟩ = some (.slice ta tl tc) ∧ w'.cell? ⟨S, 2, none⟩ = some (.slice ga j gc))) (E := [14]) (by kernel_rfl) ?_ (fun hHeld hSh => ?_)
      ·
       first | (dsimp only; done) | (dsimp only; go_keep) | go_keep
      refine tkO [(0, 38), (1, 39), (2, 40), (3, 41), (5, 43), (6, 44), (7, 45), (8, 46)] ?_
      repeat (refine tlY ?_ rfl (by rfl) ?_ (fun hSh2 => ?_); rotate_left; (focus (intro wq hSw; (try dsimp only at hSw); first | (go_simp; done) | (go_simp; with_reducible rfl))); clear hSh; rename zaJ _ _ _ => hSh; simp only [zP])
      refine tkZ ?_
      refine Till.one (i := 4) (by kernel_rfl) rfl hSh (fun K hK => ?_)
      clear hSh
      go_simp
      go_at_call 43; refine (zbY s _ hs).mono ?_; rintro e wm ⟨rfl, hbm⟩; replace st := st.below hbm; replace o2 := st.sp.box.box.c2; replace d0 := st.fb.c0; replace d1 := st.fb.c1; replace d2 := st.fb.c2; clear hbm; dsimp only
      refine hK.out _ _ ?_ (fun hHeld hSh => ?_)
      ·
       first | (dsimp only; done) | (dsimp only; go_keep) | go_keep
      clear hK K
      refine Till.one (i := 9) (by kernel_rfl) rfl hSh (fun K hK => ?_)
      clear hSh
      go_simp
      go_at_call 44; refine Calls.mono (HFt.out _ st.no) ?_; rintro e wn ⟨v, rfl, hv, hbn⟩; obtain ⟨a', l', c', g', d', Y, zs', rfl, hr, y2, yf, hq, hm, fbn, fbY, o25, o26⟩ := HSt.out _ wn v st hv hbn; replace d0 := fbn.c0; replace d1 := fbn.c1; replace d2 := fbn.c2; have e0 := fbY.c0; have e1 := fbY.c1; have e2 := fbY.c2; have HQ : Hid (_) := hq; have HQm : Hid (_) := hm; clear hv hbn hq hm fbn fbY st; dsimp only
      refine hK.out _ _ ?_ (fun hHeld hSh => ?_)
      ·
       first | (dsimp only; done) | (dsimp only; go_keep) | go_keep
      clear hK K
      refine tkO [(10, 48)] ?_
      repeat (refine tlY ?_ rfl (by rfl) ?_ (fun hSh2 => ?_); rotate_left; (focus (intro wq hSw; (try dsimp only at hSw); first | (go_simp; done) | (go_simp; with_reducible rfl))); clear hSh; rename zaJ _ _ _ => hSh; simp only [zP])
      refine tkZ ?_
      refine Till.one (i := 11) (by kernel_rfl) rfl hSh (fun K hK => ?_)
      clear hSh
      go_simp
      skip
      refine hK.out _ _ ?_ (fun hHeld hSh => ?_)
      ·
       first | (dsimp only; done) | (dsimp only; go_keep) | go_keep
      clear hK K
      refine Till.one (i := 12) (by kernel_rfl) rfl hSh (fun K hK => ?_)
      clear hSh
      refine za8 (by rfl) (.tmp 39) (.tmp 49) 31 (by rfl) _ _ _ (by rfl) (by rfl) hr ?_
      refine hK.out _ _ ?_ (fun hHeld hSh => ?_)
      ·
       first | (dsimp only; done) | (dsimp only; go_keep) | go_keep
      clear hK K
      refine Till.take (i := 13) (o := ⟨some 51, _, _, _, _, _⟩) (v := ?v13) (d := 30) rfl (by kernel_rfl) (by kernel_rfl) (by kernel_rfl) (by kernel_rfl) (fun _ _ _ h => h) (Or.inl ⟨by rfl, ?hy13⟩) (by assumption) hSh (fun hSh2 => ?rest13)
      case hy13 => (intro wq hSw; (try dsimp only at hSw); first | (go_simp; done) | (go_simp; with_reducible rfl))
      clear hSh; rename zaJ _ _ _ => hSh
      simp only [Act.put, zA]
      refine Till.last (i := 14) (by kernel_rfl) rfl (by decide) (fun K hK => ?_)
      go_simp
      refine hK.out _ _ ?_
      clear hK K
      refine Till.done (by kernel_rfl) ?_ _
      all_goals
       go_wp2
       go_roundw
       case rel => exact ⟨j + 1, zs', some ⟨g', 0, none⟩, d', by go_num, by omega, HQm, HQ⟩
       case measure => simp [intOf]; omega
     ·
      have hje : j = fl := by omega
      have o0 := HSq.out.box.box.c0
      have o1 := HSq.out.box.box.c1
      have o2 := HSq.out.box.box.c2
      have r0 := br.box.c0
      have r1 := br.box.c1
      have r2 := br.box.c2
      have rf0 := br.fr 0
      have rf1 := br.fr 1
      have rf2 := br.fr 2
      obtain ⟨V, hV, v0, v1, v2, hgV⟩ := set3 (.string ⟨nm.toArray⟩) (.slice va i vc) (.slice ga j gc) r0 r1 r2
      have hwV : zb4 _ V (fun k => k = R0) := zb4.of_grown hgV (fun k e => by injection e with e; exact e.symm)
      have hfx := HSq.out.fns
      have htx := HSq.out.txt
      have HR1 : Hid (V.ownsRow w.heap.size 9 1 (.slice va i vc) i (strV ims)) := zaj (zbH htx hwV (fun k e h => by have := (htx.lt k e).1; omega)) (by omega)
      have HR2 : Hid (zas V w.heap.size (.slice ga j gc) zs) := zas.base ⟨zbH hfx.row hwV (fun k e h => by have := (hfx.row.lt k e).1; omega), fun z hz => zbH (hfx.trees z hz) hwV (fun k e h => by have := ((hfx.trees z hz).lt k e).1; omega)⟩ (by omega)
      have HR3 : Hid (Below w.heap.size w V) := hbw.grown hgV hbw.size (fun k e => by injection e with e; omega)
      have HR4 : Hid (zc5 (zs.map fvT)) := HSq.out.ap
      have HM2 : Hid (zs.map (·.1) = fs.map zbU) := by
       have h1 := HM.out
       rw [List.take_of_length_le (by rw [HFl.out]; omega)] at h1
       exact h1
      clear bp br hbw hgV hwV HSq hje hfx htx HM
      go_wp2
      refine bodyPost_ret (v := .agg #[.string ⟨nm.toArray⟩, .slice va i vc, .slice ga j gc]) (by simp [results, Tryz.results19, go_sem, v0, v1, v2]) rfl ?_
      have q1 := HR1.out
      have q2 := HR2.out
      have q3 := HR3.out
      first | exact ⟨.slice va i vc, .slice ga j gc, rfl, zs, HM2.out, by rw [HIl.out]; exact q1, q2, HR4.out, q3⟩ | (rw [hP0] at q1 q2 q3; exact ⟨.slice va i vc, .slice ga j gc, rfl, zs, HM2.out, by rw [HIl.out]; exact q1, q2, HR4.out, q3⟩)
end Go.Proofs.YtkpdoedpkncboaaGreat
