/-
  Parts of one proof, one behind the other: Draw7C, Draw7D, Math8, Math8R, HasS, ProjS, ProjS2, ProjS3, ProjS4, ProjS5, ProjS6, EqT, FnE, ProjL, CellA, FnT, NodeM, FnMS, FnMP, ProjT, ProjM, ProjK.
-/
import Derived.Test.YtenaaneckobdpaaGreatP4
import Derived.Maps.AppendAt
import Derived.Laws.OwnMore
import Derived.Test.YtenaaneckobdpaaGreatP2
import Derived.Deep.RegionHeld3
import Derived.Deep.Cut
import Derived.Test.YtenaaneckobdpaaGreatP3
import Derived.Deep.RegionWith
namespace Go.Proofs.YtenaaneckobdpaaGreat
open Go.RowKit
section
variable {V X Y w : World} {B : Nat} {a : Option Addr} {len cap R P : Nat} {nm : List UInt8} {vi : Value} {fa : Option Addr} {fc : Nat} {xs : List FV} {vo : Value} {ns : List Nd}
theorem DrSt.row_ne (h : DrSt X w B a len cap R P nm vi fa fc xs vo ns) {k : Nat} (hk : k ≤ P) : some k ≠ (Value.slice fa xs.length fc).ownBlock := fun e => by have := (h.fo.row.lt k e.symm).1; omega
theorem dr_fn (h : DrSt X w B a len cap R P nm vi fa fc xs vo ns) (y : FV) (hy : X.ownsRow (P + 1) 99 4 (fvT y) y.1.2.2.length (za5 y.1.2.2)) (hap : (fvT y).ownBlock = none ∨ (fvT y).ownBlock ≠ vo.ownBlock) (hn : xs.length ≤ 1048576) :
 ∃ g' c' Y, (Builtin.append_ #[83, 83] 83 #[.slice fa xs.length fc, .slice (some ⟨X.heap.size, 0, none⟩) 1 1]).run Tryz.prog (X.alloc (.cells #[.string ⟨y.1.1.toArray⟩, .int .i64 y.1.2.1, fvT y] 102)) = .ok (.slice (some ⟨g', 0, none⟩) (xs.length + 1) c') Y ∧
  Y.cell? ⟨P, 2, none⟩ = some (.slice fa xs.length fc) ∧ Y.frozen? ⟨P, 2, none⟩ = false ∧
  DrSt (Y.setCell ⟨P, 2, none⟩ (.slice (some ⟨g', 0, none⟩) (xs.length + 1) c')) w B a len cap R P nm vi (some ⟨g', 0, none⟩) c' (xs ++ [y]) vo ns ∧
  (∀ k, k < X.heap.size → k ≠ P → some k ≠ (Value.slice fa xs.length fc).ownBlock → (Y.setCell ⟨P, 2, none⟩ (.slice (some ⟨g', 0, none⟩) (xs.length + 1) c')).heap[k]? = X.heap[k]?) := by
 have hpl := h.p.lt
 obtain ⟨g', c', Y, hrun, hfo, hg⟩ := push_fn X (P + 1) (.slice fa xs.length fc) xs y h.fo hy (by omega) hn
 have hrp := h.rp
 have hbr := h.br
 have hnP := h.row_ne (k := P) (by omega)
 have hnR := h.row_ne (k := R) (by omega)
 have e1 : (xs ++ [y]).length = xs.length + 1 := by simp
 have hp := h.p.grown hg hnP
 have hpf : ∀ j, Y.frozen? ⟨P, j, none⟩ = false := fun j => (World.frozen?_of_block (a := ⟨P, j, none⟩) (hg.block P hpl hnP)).trans (h.pf j)
 have hr := h.r.grown hg hnR
 have hrf : ∀ j, Y.frozen? ⟨R, j, none⟩ = false := fun j => (World.frozen?_of_block (a := ⟨R, j, none⟩) (hg.block R h.r.lt hnR)).trans (h.rf j)
 have how := h.ow.kept hg (za4 h.ow h.fo.row (by decide))
 have hcur := h.cur.kept hg (fun k e => by have := (h.fo.row.lt k e).1; omega)
 have hgw : w.grownBy Y (some B) := by
  have hw := h.g
  have hwr := h.wr
  exact ⟨hg.os.trans hw.os, hg.tape.trans hw.tape, hg.output.trans hw.output, Nat.le_trans hw.size hg.size, fun q hq hn => (hg.block q (Nat.lt_of_lt_of_le hq hw.size) (h.row_ne (by omega))).trans (hw.block q hq hn)⟩
 have hs := zay Y P 2 (.slice (some ⟨g', 0, none⟩) (xs.length + 1) c')
 have hRP : some R ≠ some P := fun e => by injection e with e; omega
 have hlt : ∀ k, some P = some k → k < P + 1 := fun k e => by injection e with e; omega
 refine ⟨g', c', Y, hrun, hp.c2, hpf 2, ?_, ?_⟩
 ·
  refine ⟨⟨(World.cell?_setCell_other _ _ _ _ (by simp)).trans hp.c0, (World.cell?_setCell_other _ _ _ _ (by simp)).trans hp.c1, ?_⟩, fun j => (World.frozen?_setCell ..).trans (hpf j), hr.grown hs hRP, fun j => (World.frozen?_setCell ..).trans (hrf j), hfo.grown hs hlt, zaR how hs hlt, hcur.kept hs (fun k e => by injection e with e; omega), ?_, h.br, h.rp, h.wr, ?_⟩
  ·
   rw [e1]; exact World.cell?_setCell_same _ _ _ hp.c2
  ·
   have hwr := h.wr
   exact ⟨hs.os.trans hgw.os, hs.tape.trans hgw.tape, hs.output.trans hgw.output, Nat.le_trans hgw.size hs.size, fun q hq hn => (hs.block q (Nat.lt_of_lt_of_le hq hgw.size) (fun e => by injection e with e; omega)).trans (hgw.block q hq hn)⟩
  ·
   intro x hx
   rw [List.mem_append, List.mem_singleton] at hx
   rcases hx with hx | rfl
   ·
    exact h.ap x hx
   ·
    exact hap
 ·
  intro k hk hkP hkr
  exact (hs.block k (Nat.lt_of_lt_of_le hk hg.size) (fun e => by injection e with e; exact hkP e)).trans (hg.block k hk hkr)
theorem dr_own (h : DrSt X w B a len cap R P nm vi fa fc xs vo ns) (n : Nd) (hn : ns.length ≤ 1048576) :
 ∃ v' Y, (Builtin.append_ #[97, 97] 97 #[vo, .slice (some ⟨X.heap.size, 0, none⟩) 1 1]).run Tryz.prog (X.alloc (.cells #[.int .i64 n.1, .int .i64 n.2.1, .string ⟨n.2.2.1.toArray⟩, .string ⟨n.2.2.2.toArray⟩] 99)) = .ok v' Y ∧
  DrSt Y w B a len cap R P nm vi fa fc xs v' (ns ++ [n]) := by
 obtain ⟨i0, hi, hz0, hz1, hz2⟩ := info_parts zd0
 obtain ⟨W, hW⟩ : ∃ W, X.alloc (.cells #[.int .i64 n.1, .int .i64 n.2.1, .string ⟨n.2.2.1.toArray⟩, .string ⟨n.2.2.2.toArray⟩] 99) = W := ⟨_, rfl⟩
 have h1 : DrSt W w B a len cap R P nm vi fa fc xs vo ns := by rw [← hW]; exact h.alloc _
 have hnew := zfw X n
 rw [hW] at hnew ⊢
 have hpl := h1.p.lt
 have hrp := h.rp
 have hbr := h.br
 obtain ⟨v', Y, hrun, hown, hg, _, hat⟩ := run_append_own_at (P := Tryz.prog) W (P + 1) 97 97 99 i0 _ 4 48 Tryz.underlying97 hi hz0 hz1 hz2 rfl (by decide) _ _ _ h1.ow ⟨X.heap.size, 0, none⟩ 1 1 (za5 [n]) (by rw [zc5]; rfl) hnew (zc4 _) (by unfold maxLen; omega) (by omega) (by omega)
 have hne : ∀ {k : Nat}, k ≤ P → some k ≠ vo.ownBlock := fun {k} hk e => by have := (h1.ow.lt k e.symm).1; omega
 have e1 : (ns ++ [n]).length = ns.length + 1 := by simp
 have hown2 : Y.ownsRow (P + 1) 99 4 v' (ns ++ [n]).length (za5 (ns ++ [n])) := by
  rw [e1, zbL]; exact hown
 refine ⟨v', Y, hrun, ⟨h1.p.grown hg (hne (Nat.le_refl _)), fun j => (World.frozen?_of_block (a := ⟨P, j, none⟩) (hg.block P h1.p.lt (hne (Nat.le_refl _)))).trans (h1.pf j), h1.r.grown hg (hne (by omega)), fun j => (World.frozen?_of_block (a := ⟨R, j, none⟩) (hg.block R h1.r.lt (hne (by omega)))).trans (h1.rf j),
  h1.fo.kept hg (za4 h1.fo.row h1.ow (by decide)) h1.ap, hown2, h1.cur.kept hg (fun k e => by have := (h1.ow.lt k e).1; omega), ?_, h.br, h.rp, h.wr, ?_⟩⟩
 ·
  have hw := h1.g
  have hwr := h.wr
  exact ⟨hg.os.trans hw.os, hg.tape.trans hw.tape, hg.output.trans hw.output, Nat.le_trans hw.size hg.size, fun q hq hn => (hg.block q (Nat.lt_of_lt_of_le hq hw.size) (hne (by omega))).trans (hw.block q hq hn)⟩
 ·
  intro x hx
  rcases hat with e | e
  ·
   rw [e]; exact h1.ap x hx
  ·
   rw [e]
   cases hv : (fvT x).ownBlock with
   | none => exact Or.inl rfl
   | some k => exact Or.inr (fun e2 => by injection e2 with e2; have := ((h1.fo.trees x hx).lt k hv).2; omega)
theorem zgP (a b c : List UInt8) (k : Nat) (hk : k < 3) (ha : a.length ≤ 9) (hb : b.length ≤ 9) (hc : c.length ≤ 9) : ∃ fn : List UInt8, fn.length ≤ 9 ∧ ∀ h, ([Value.string ⟨a.toArray⟩, Value.string ⟨b.toArray⟩, Value.string ⟨c.toArray⟩] : List Value)[k]'h = Value.string ⟨fn.toArray⟩ := by
 rcases (show k = 0 ∨ k = 1 ∨ k = 2 by omega) with rfl | rfl | rfl
 ·
  exact ⟨a, ha, fun _ => rfl⟩
 ·
  exact ⟨b, hb, fun _ => rfl⟩
 ·
  exact ⟨c, hc, fun _ => rfl⟩
theorem zeM {Z : World} {k j : Nat} {a b c fn : List UInt8} (hb : Box3 Z k (.string ⟨a.toArray⟩) (.string ⟨b.toArray⟩) (.string ⟨c.toArray⟩)) (hj : j < 3) (hget : ∀ h, ([Value.string ⟨a.toArray⟩, Value.string ⟨b.toArray⟩, Value.string ⟨c.toArray⟩] : List Value)[j]'h = Value.string ⟨fn.toArray⟩) : Z.cell? ⟨k, j, none⟩ = some (.string ⟨fn.toArray⟩) := by
 have hg := hget hj
 rcases (show j = 0 ∨ j = 1 ∨ j = 2 by omega) with rfl | rfl | rfl
 ·
  rw [← hg]; exact hb.c0
 ·
  rw [← hg]; exact hb.c1
 ·
  rw [← hg]; exact hb.c2
theorem zkj {y : Int} (hy0 : 0 ≤ y) (hy1 : y ≤ 3) {n f : List UInt8} (hn : n.length ≤ 9) (hf : f.length ≤ 9) : zbG ((8, y, n, f) : Nd) ∧ zbm ((8, y, n, f) : Nd) ≤ 3 := by
 refine ⟨⟨?_, hn, hf⟩, ?_⟩
 ·
  unfold IntN; simp only; omega
 ·
  unfold zbm; simp only; simp; omega
theorem kid_at {ns : List Nd} (h : ∀ n ∈ ns, zbm n ≤ 3) (j : Nat) : zbm (ns.getD j nd0) ≤ 3 := by
 rw [List.getD_eq_getElem?_getD]
 cases hj : ns[j]? with
 | none => simp only [Option.getD_none]; decide
 | some n => exact h n (List.mem_of_getElem? hj)
theorem dr_tree (st : DrSt V w B a len cap R P nm vi fa fc xs vo ns) (h : DrSt X w B a len cap R P nm vi fa fc xs vo ns) {F : Nat} (hF : V.heap.size ≤ F) {z0 z1 z2 : Value} (hb : Box3 X F z0 z1 z2 ∧ ∀ j, X.frozen? ⟨F, j, none⟩ = false) {y : Int} (hy0 : 0 ≤ y) (hy1 : y ≤ 3) (hns : ns.length ≤ 1000) (hsm : zbz ns) (hkd : ∀ n ∈ ns, zbm n ≤ 3) :
 Calls Tryz.prog 102 #[.pointer (some ⟨B, 0, none⟩), .int .i64 y, vo] X fun e w' => ∃ (ta : Option Addr) (tc : Nat) (t : List Nd), e = .returned (.slice ta t.length tc) ∧ (t.length ≤ 60 ∧ zbz t ∧ zb9 t = true) ∧ DrSt w' w B a len cap R P nm vi fa fc xs vo ns ∧ (Box3 w' F z0 z1 z2 ∧ ∀ j, w'.frozen? ⟨F, j, none⟩ = false) ∧
  w'.ownsRow (P + 1) 99 4 (.slice ta t.length tc) t.length (za5 t) ∧ ((Value.slice ta t.length tc).ownBlock = none ∨ (Value.slice ta t.length tc).ownBlock ≠ vo.ownBlock) ∧ (∀ q, (Value.slice ta t.length tc).ownBlock = some q → q ≠ F) := by
 obtain ⟨hl, ca, cc, rfl, hin⟩ := zaL h.ow
 have hpl := h.p.lt
 have hbr := h.br
 have hrp := h.rp
 have hbl := st.cur.lt
 refine (zfg X B a len cap y ca ns.length cc ns hy0 (by omega) h.cur hin hns (zcS hsm) (kid_at hkd) (fun b off e => ?_)).mono ?_
 ·
  intro e2
  subst e2
  have := (h.ow.lt b (by rw [e]; rfl)).1
  omega
 ·
  rintro e w' ⟨v, t, rfl, hown, htr, hst, hc, hg⟩
  obtain ⟨_, ta, tc, rfl, _⟩ := zaL hown
  obtain ⟨⟨_, ht2⟩, _⟩ := zhz htr
  refine ⟨ta, tc, t, rfl, ⟨ht2, hst, htr⟩, h.next hg hc, zgG hb hg (by omega), zai hown (by omega), ?_, fun q e => ?_⟩
  ·
   cases hv : (Value.slice ta t.length tc).ownBlock with
   | none => exact Or.inl rfl
   | some q => exact Or.inr (fun e2 => by have := (hown.lt q hv).1; have := (h.ow.lt q e2.symm).2; omega)
  ·
   have := (hown.lt q e).1
   have := hb.1.lt
   omega
theorem dr_store (st : DrSt V w B a len cap R P nm vi fa fc xs vo ns) (h : DrSt X w B a len cap R P nm vi fa fc xs vo ns) {F : Nat} (hF : V.heap.size ≤ F) {z0 z1 z2 : Value} (hb : Box3 X F z0 z1 z2 ∧ ∀ j, X.frozen? ⟨F, j, none⟩ = false) {u : Value} {t : List Nd} (ho : X.ownsRow (P + 1) 99 4 u t.length (za5 t)) (hu : ∀ q, u.ownBlock = some q → q ≠ F) :
 DrSt (X.setCell ⟨F, 2, none⟩ u) w B a len cap R P nm vi fa fc xs vo ns ∧ Box3 (X.setCell ⟨F, 2, none⟩ u) F z0 z1 u ∧ (X.setCell ⟨F, 2, none⟩ u).ownsRow (P + 1) 99 4 u t.length (za5 t) := by
 have hs := zay X F 2 u
 refine ⟨zki st h hF hs, ⟨(World.cell?_setCell_other _ _ _ _ (by simp)).trans hb.1.c0, (World.cell?_setCell_other _ _ _ _ (by simp)).trans hb.1.c1, World.cell?_setCell_same _ _ _ hb.1.c2⟩, ho.kept hs ?_⟩
 cases hv : u.ownBlock with
 | none => exact Or.inl rfl
 | some q => exact Or.inr (fun e => by injection e with e; exact hu q hv e)
end
section
variable {X Y w : World} {B : Nat} {a : Option Addr} {len cap R P : Nat} {nm : List UInt8} {ia : Option Addr} {ic : Nat} {ims : List (List UInt8)} {fa : Option Addr} {fc : Nat} {xs : List FV} {gF : Nat}
theorem zcs {n e size base : Nat} {v : Value} {ys : List Value} (h : X.ownsRow base e size v n ys) : ∃ ad c, v = .slice ad n c := by
 rcases zaH h with ⟨rfl, h0, _⟩ | ⟨g, cp, rfl⟩
 ·
  exact ⟨none, 0, by rw [h0]⟩
 ·
  exact ⟨_, _, rfl⟩
end
theorem zc9 : ∀ x : List UInt8, Op.bytesLess x x = false
 | [] => rfl
 | a :: r => by simp [Op.bytesLess, zc9 r]
theorem zbZ : ∀ {x y z : List UInt8}, Op.bytesLess x y = true → Op.bytesLess y z = true → Op.bytesLess x z = true
 | x, y, [], _, h => by cases y <;> simp [Op.bytesLess] at h
 | [], y, c :: z, _, _ => rfl
 | a :: x, [], c :: z, h, _ => by simp [Op.bytesLess] at h
 | a :: x, b :: y, c :: z, h, k => by
  simp only [Op.bytesLess, Bool.or_eq_true, decide_eq_true_eq, Bool.and_eq_true, beq_iff_eq] at h k ⊢
  rcases h with h | ⟨rfl, h⟩
  ·
   rcases k with k | ⟨rfl, k⟩
   ·
    exact Or.inl (UInt8.lt_trans h k)
   ·
    exact Or.inl h
  ·
   rcases k with k | ⟨rfl, k⟩
   ·
    exact Or.inl k
   ·
    exact Or.inr ⟨rfl, zbZ h k⟩
theorem zcN : ∀ {x y : List UInt8}, Op.bytesLess x y = false → Op.bytesLess y x = false → x = y
 | [], [], _, _ => rfl
 | [], b :: y, h, _ => by simp [Op.bytesLess] at h
 | a :: x, [], _, k => by simp [Op.bytesLess] at k
 | a :: x, b :: y, h, k => by
  simp only [Op.bytesLess, Bool.or_eq_false_iff, decide_eq_false_iff_not, Bool.and_eq_false_iff, beq_eq_false_iff_ne] at h k
  have hab : a = b := by
   have h1 := h.1
   have h2 := k.1
   rw [UInt8.lt_iff_toNat_lt] at h1 h2
   exact UInt8.toNat_inj.1 (by omega)
  subst hab
  rw [zcN (h.2.resolve_left (by simp)) (k.2.resolve_left (by simp))]
theorem zhV {a b : List UInt8} : leT b a = false ↔ Op.bytesLess a b = true := by
 unfold leT
 rw [Bool.or_eq_false_iff, beq_eq_false_iff_ne]
 constructor
 ·
  rintro ⟨h, hne⟩
  rcases hx : Op.bytesLess a b with _ | _
  ·
   exact absurd (zcN h hx) hne
  ·
   rfl
 ·
  intro h
  refine ⟨?_, fun e => ?_⟩
  ·
   rcases hx : Op.bytesLess b a with _ | _
   ·
    rfl
   ·
    have := zbZ h hx; rw [zc9] at this; cases this
  ·
   subst e; rw [zc9] at h; cases h
def Rise (ts : List (List UInt8)) : Prop := ts.Pairwise (fun a b => Op.bytesLess a b = true)
theorem Rise.nodup {ts : List (List UInt8)} (h : Rise ts) : ts.Nodup := h.imp (fun {a b} hab e => by subst e; rw [zc9] at hab; cases hab)
theorem zjk {ts : List (List UInt8)} (h : Rise ts) : zcJ ts = true := by
 unfold zcJ
 refine decide_eq_true (fun i hi => zhV.2 ?_)
 have := List.pairwise_iff_getElem.1 h i (i + 1) (by omega) (by omega) (by omega)
 simpa [List.getD, show i < ts.length by omega, show i + 1 < ts.length by omega] using this
def names8 (ps : List Pk) : List (List UInt8) := ps.map (·.1)
def pj8 (ps : List Pk) (i : Nat) : Prop := pkgB (ps.getD i pk0) = true ∧ (0 < i → leT (ps.getD i pk0).1 (ps.getD (i - 1) pk0).1 = false)
instance (ps : List Pk) (i : Nat) : Decidable (pj8 ps i) := by unfold pj8; infer_instance
def projB (ps : List Pk) : Bool := decide (∀ i, i < ps.length → pj8 ps i) && inB (ps.length : Int) 1 8
def at8Go (s : List UInt8) : List Pk → Nat → Int
 | [], _ => -1
 | p :: r, k => if p.1 = s then (k : Int) else at8Go s r (k + 1)
def at8 (ps : List Pk) (s : List UInt8) : Int := at8Go s ps 0
def free8 (ps : List Pk) (out : List (List UInt8)) (p : Pk) : Prop := ¬ p.1 ∈ out ∧ ∀ m ∈ p.2.1, m ∈ names8 ps → m ∈ out
instance (ps : List Pk) (out : List (List UInt8)) (p : Pk) : Decidable (free8 ps out p) := by unfold free8; infer_instance
def low8 (s : List UInt8) : List (List UInt8) → Nat
 | [] => 0
 | x :: r => if Op.bytesLess x s = true then low8 s r + 1 else 0
theorem zjG (s : List UInt8) : ∀ ts, low8 s ts ≤ ts.length
 | [] => Nat.le_refl _
 | x :: r => by unfold low8; split <;> simp; exact zjG s r
theorem zh7 (s : List UInt8) : ∀ (ts : List (List UInt8)) (k : Nat), (∀ i, i < k → Op.bytesLess (ts.getD i []) s = true) → k ≤ ts.length → (k = ts.length ∨ Op.bytesLess (ts.getD k []) s = false) → low8 s ts = k
 | [], k, _, h, _ => by simp at h; subst h; rfl
 | x :: r, 0, _, _, h => by
  rcases h with h | h
  ·
   simp at h
  ·
   unfold low8; rw [if_neg (by simpa using h)]
 | x :: r, k + 1, h1, h2, h3 => by
  have h0 := h1 0 (by omega)
  unfold low8
  rw [if_pos (by simpa using h0)]
  rw [zh7 s r k (fun i hi => by simpa using h1 (i + 1) (by omega)) (by simpa using h2) (by rcases h3 with h | h; exact Or.inl (by simpa using h); exact Or.inr (by simpa using h))]
def put8 (ts : List (List UInt8)) (s : List UInt8) : List (List UInt8) := if ts[low8 s ts]? = some s then ts else ts.take (low8 s ts) ++ s :: ts.drop (low8 s ts)
theorem zcB {ts : List (List UInt8)} {s x : List UInt8} : x ∈ put8 ts s ↔ x = s ∨ x ∈ ts := by
 unfold put8
 split
 ·
  rename_i h
  exact ⟨Or.inr, fun g => g.elim (fun e => by rw [e]; exact List.mem_of_getElem? h) id⟩
 ·
  have e := List.take_append_drop (low8 s ts) ts
  rw [List.mem_append, List.mem_cons]
  constructor
  ·
   rintro (h | h | h)
   ·
    exact Or.inr (List.mem_of_mem_take h)
   ·
    exact Or.inl h
   ·
    exact Or.inr (List.mem_of_mem_drop h)
  ·
   rintro (h | h)
   ·
    exact Or.inr (Or.inl h)
   ·
    rw [← e, List.mem_append] at h
    rcases h with h | h
    ·
     exact Or.inl h
    ·
     exact Or.inr (Or.inr h)
theorem zcL {s : List UInt8} : ∀ {ts : List (List UInt8)}, Rise ts → Rise (put8 ts s)
 | [], _ => by simp [put8, low8, Rise]
 | x :: r, h => by
  have hx := List.pairwise_cons.1 h
  by_cases hl : Op.bytesLess x s = true
  ·
   have ih := zcL (s := s) (ts := r) hx.2
   have e : put8 (x :: r) s = x :: put8 r s := by
    unfold put8
    rw [show low8 s (x :: r) = low8 s r + 1 by rw [low8, if_pos hl]]
    rw [List.getElem?_cons_succ]
    split
    ·
     rfl
    ·
     rfl
   rw [e]
   refine List.pairwise_cons.2 ⟨fun y hy => ?_, ih⟩
   rcases zcB.1 hy with rfl | hy
   ·
    exact hl
   ·
    exact hx.1 y hy
  ·
   have hl0 : low8 s (x :: r) = 0 := by rw [low8, if_neg hl]
   unfold put8
   rw [hl0]
   simp only [List.getElem?_cons_zero, Option.some.injEq, List.take_zero, List.drop_zero, List.nil_append]
   split
   ·
    exact h
   ·
    rename_i hne
    have hsx : Op.bytesLess s x = true := by
     rcases hb : Op.bytesLess s x with _ | _
     ·
      exact absurd (zcN (by simpa using hl) hb) hne
     ·
      rfl
    refine List.pairwise_cons.2 ⟨fun y hy => ?_, h⟩
    rcases List.mem_cons.1 hy with rfl | hy
    ·
     exact hsx
    ·
     exact zbZ hsx (hx.1 y hy)
theorem zhJ (ts : List (List UInt8)) (s : List UInt8) : ts.length ≤ (put8 ts s).length ∧ (put8 ts s).length ≤ ts.length + 1 := by
 unfold put8
 have h := zjG s ts
 split
 ·
  omega
 ·
  rw [List.length_append, List.length_cons, List.length_take, List.length_drop]; omega
theorem zdt {ts : List (List UInt8)} {s : List UInt8} {k : Nat} (h : ∀ i, i < k → ts.getD i [] ≠ s) (hk : ts.length ≤ k) : ¬ s ∈ ts := fun hm => by
 obtain ⟨i, hi, rfl⟩ := List.mem_iff_getElem.1 hm
 exact h i (by omega) (by simp [List.getD, hi])
theorem zeG {ts : List (List UInt8)} {k : Nat} (hk : k < ts.length) : ts.getD k [] ∈ ts := by
 rw [List.getD_eq_getElem?_getD, List.getElem?_eq_getElem hk]; exact List.getElem_mem hk
set_option maxHeartbeats 1000000 in
set_option maxRecDepth 100000 in
theorem zj9 (a : Option Addr) (len cap : Nat) (ts : List (List UInt8)) (s : List UInt8) (w : World) (hin : zah w a len ts) (hlen : len ≤ 4194304) :
 Calls Tryz.prog 47 #[.slice a len cap, .string ⟨s.toArray⟩] w fun e w' => e = .returned (.bool (decide (s ∈ ts))) ∧ w' = w := by
 obtain rfl : ts.length = len := hin.1
 have HI : Hid (zah w a ts.length ts) := hin
 clear hin
 go_enter Tryz.func47, Tryz.ntmps47
 go_wp2
 go_loopw [5] (fun iv wr => ∃ k : Nat, iv = .int .i64 (k : Int) ∧ k ≤ ts.length ∧ Hid (∀ i, i < k → ts.getD i [] ≠ s) ∧ wr = w) (fun iv _ => ts.length - (intOf iv).toNat)
 case atStart => exact ⟨0, rfl, by omega, (fun i hi => by omega), rfl⟩
 case round =>
  obtain ⟨k, rfl, hk, HA, rfl⟩ := hrel
  by_cases hlt : (k : Int) < (ts.length : Int)
  ·
   have hk2 : k < ts.length := by omega
   obtain ⟨b, off, rfl, hbl, c0⟩ := HI.out.2 k hk2
   have hmem := zeG hk2
   obtain ⟨x, hx⟩ : ∃ x, ts.getD k [] = x := ⟨_, rfl⟩
   rw [hx] at c0 hmem
   by_cases hxs : x = s
   ·
    subst hxs
    have HR : Hid (decide (x ∈ ts) = true) := decide_eq_true hmem
    have hself : (x == x) = true := by simp
    clear HA hx hmem
    go_wp2
    go_ret
    exact ⟨by rw [HR.out]; rfl, rfl⟩
   ·
    have HA2 : Hid (∀ i, i < k + 1 → ts.getD i [] ≠ s) := fun i hi => by
     rcases Nat.lt_or_ge i k with h | h
     ·
      exact HA.out i h
     ·
      obtain rfl : i = k := by omega
      rw [hx]; exact hxs
    have hne : (x == s) = false := by rw [beq_eq_false_iff_ne]; exact hxs
    clear HA hx hmem
    go_wp2
    go_roundw
    case rel => exact ⟨k + 1, by go_num, by omega, HA2, trivial⟩
    case measure => simp [intOf]; omega
  ·
   have HR : Hid (decide (s ∈ ts) = false) := decide_eq_false (zdt HA.out (by omega))
   go_wp2
   go_ret
   exact ⟨by rw [HR.out]; rfl, rfl⟩
def zib (w : World) (a : Option Addr) (len : Nat) (ps : List Pk) : Prop :=
 ps.length = len ∧ ∀ j, j < len → ∃ b off, a = some ⟨b, off, none⟩ ∧ b < w.heap.size ∧ w.cell? ⟨b, off + j * 3, none⟩ = some (.string ⟨(ps.getD j pk0).1.toArray⟩) ∧
  ∃ ia il ic fa fl fc, w.cell? ⟨b, off + j * 3 + 1, none⟩ = some (.slice ia il ic) ∧ w.cell? ⟨b, off + j * 3 + 2, none⟩ = some (.slice fa fl fc) ∧ zah w ia il (ps.getD j pk0).2.1 ∧ zcF w fa fl (ps.getD j pk0).2.2
theorem zib.below {w w' : World} {a : Option Addr} {len : Nat} {ps : List Pk} (h : zib w a len ps) (hb : Below w.heap.size w w') : zib w' a len ps := by
 refine ⟨h.1, fun j hj => ?_⟩
 obtain ⟨b, off, e, hlt, c0, ia, il, ic, fa, fl, fc, c1, c2, hi, hf⟩ := h.2 j hj
 exact ⟨b, off, e, Nat.lt_of_lt_of_le hlt hb.size, (hb.cell (p := ⟨b, off + j * 3, none⟩) hlt).trans c0, ia, il, ic, fa, fl, fc, (hb.cell (p := ⟨b, off + j * 3 + 1, none⟩) hlt).trans c1, (hb.cell (p := ⟨b, off + j * 3 + 2, none⟩) hlt).trans c2, hi.below hb, hf.below hb⟩
def ShortPs (ps : List Pk) : Prop := ∀ j, (ps.getD j pk0).1.length ≤ 1048576 ∧ (ps.getD j pk0).2.1.length ≤ 1048576 ∧ (∀ i, ((ps.getD j pk0).2.1.getD i []).length ≤ 1048576) ∧ (ps.getD j pk0).2.2.length ≤ 1048576 ∧ zkp (ps.getD j pk0).2.2

theorem new_str8 (w : World) (x : List UInt8) (c : Nat) : Src (w.alloc (.cells #[.string ⟨x.toArray⟩] 9)) (.slice (some ⟨w.heap.size, 0, none⟩) 1 c) 1 1 (strV [x]) := by
 refine ⟨rfl, fun u hu => ?_, Or.inr ⟨_, c, rfl, fun j u hu => ?_⟩⟩
 ·
  simp [strV] at hu; subst hu; rfl
 ·
  exact cell_one_new w _ 9 j u hu
theorem zdq {X : World} {B : Nat} {v : Value} {n : Nat} {ls : List (List UInt8)} (x : List UInt8) (hv : X.ownsRow B 9 1 v n (strV ls)) (hb : B ≤ X.heap.size) (hn : n ≤ 1048576) :
 ∃ v' Y, (Builtin.append_ #[31, 31] 31 #[v, .slice (some ⟨X.heap.size, 0, none⟩) 1 1]).run Tryz.prog (X.alloc (.cells #[.string ⟨x.toArray⟩] 9)) = .ok v' Y ∧ Y.ownsRow B 9 1 v' (n + 1) (strV (ls ++ [x])) ∧ X.grownBy Y v.ownBlock := by
 obtain ⟨i0, hi, hz0, hz1, hz2⟩ := info_parts zjS
 obtain ⟨v', Y, hrun, hown, hg, _⟩ := zal (P := Tryz.prog) (X.alloc (.cells #[.string ⟨x.toArray⟩] 9)) B 31 31 9 i0 _ 1 16 Tryz.underlying31 hi hz0 hz1 hz2 rfl (by decide) _ _ _ (hv.alloc _) _ 1 (strV [x]) (new_str8 X x 1) (by unfold maxLen; omega) (by omega) (by simp; omega)
 exact ⟨v', Y, hrun, by rw [← zfV]; exact hown, (World.grownBy_alloc X _ _).trans hg⟩
theorem app8 {X : World} {B : Nat} {v x : Value} {n m : Nat} {ls ms : List (List UInt8)} (hv : X.ownsRow B 9 1 v n (strV ls)) (hb : B ≤ X.heap.size) (hs : Src X x m 1 (strV ms)) (hn : n + m ≤ 4194304) :
 ∃ v' Y, (Builtin.append_ #[31, 31] 31 #[v, x]).run Tryz.prog X = .ok v' Y ∧ Y.ownsRow B 9 1 v' (n + m) (strV (ls ++ ms)) ∧ X.grownBy Y v.ownBlock := by
 obtain ⟨i0, hi, hz0, hz1, hz2⟩ := info_parts zjS
 obtain ⟨v', Y, hrun, hown, hg, _⟩ := zal (P := Tryz.prog) X B 31 31 9 i0 _ 1 16 Tryz.underlying31 hi hz0 hz1 hz2 rfl (by decide) _ _ _ hv x m (strV ms) hs (by unfold maxLen; omega) (by omega) hb
 have e : strV (ls ++ ms) = strV ls ++ strV ms := by simp [strV]
 exact ⟨v', Y, hrun, by rw [e]; exact hown, hg⟩
theorem zah.src8 {w : World} {a : Option Addr} {len cap : Nat} {ts : List (List UInt8)} (h : zah w a len ts) (hc : a = none → cap = 0) : Src w (.slice a len cap) len 1 (strV ts) := by
 have hl : (strV ts).length = len := by simp [strV, h.1]
 refine ⟨by omega, fun u hu => ?_, ?_⟩
 ·
  simp only [strV, List.mem_map] at hu
  obtain ⟨l, _, rfl⟩ := hu
  rfl
 ·
  rcases Nat.eq_zero_or_pos len with h0 | h0
  ·
   cases a with
   | none => left; rw [hc rfl, h0]; exact ⟨rfl, rfl⟩
   | some ad => right; exact ⟨ad, cap, rfl, fun j u hu => by rw [List.getElem?_eq_none (by omega)] at hu; cases hu⟩
  ·
   obtain ⟨b, off, rfl, _, hcell⟩ := h.at h0
   right
   refine ⟨_, cap, rfl, fun j u hu => ?_⟩
   have hj : j < len := by have := (List.getElem?_eq_some_iff.1 hu).1; omega
   have e : (⟨b, off, none⟩ : Addr).add j = ⟨b, off + j, none⟩ := by unfold Addr.add; split <;> simp_all
   rw [e, hcell j hj]
   have h2 : (strV ts)[j]? = some (.string ⟨(ts.getD j []).toArray⟩) := by simp [strV, List.getD, List.getElem?_eq_getElem (show j < ts.length by rw [h.1]; exact hj)]
   rw [← h2]; exact hu
theorem src_take {w : World} {B g cap : Nat} {ts : List (List UInt8)} (h : w.ownsRow B 9 1 (.slice (some ⟨g, 0, none⟩) ts.length cap) ts.length (strV ts)) {k : Nat} (hk : k ≤ ts.length) : Src w (.slice (some ⟨g, 0, none⟩) k cap) k 1 (strV (ts.take k)) := by
 refine ⟨by simp [strV]; omega, fun u hu => ?_, Or.inr ⟨_, cap, rfl, fun j u hu => ?_⟩⟩
 ·
  simp only [strV, List.mem_map] at hu
  obtain ⟨l, _, rfl⟩ := hu
  rfl
 ·
  have hj : j < k := by
   have := (List.getElem?_eq_some_iff.1 hu).1
   simp [strV] at this
   omega
  have e : (⟨g, 0, none⟩ : Addr).add j = ⟨g, j, none⟩ := by unfold Addr.add; split <;> simp_all
  rw [e, World.ownsRow.cellAt h j (by omega)]
  rw [← ziR, List.getElem?_take, if_pos hj] at hu
  exact hu
theorem src_drop {w : World} {B g cap : Nat} {ts : List (List UInt8)} (h : w.ownsRow B 9 1 (.slice (some ⟨g, 0, none⟩) ts.length cap) ts.length (strV ts)) {k : Nat} (hk : k ≤ ts.length) : Src w (.slice (if cap = k then some ⟨g, 0, none⟩ else some ⟨g, k, none⟩) (ts.length - k) (cap - k)) (ts.length - k) 1 (strV (ts.drop k)) := by
 have hcap := zjr h
 have hone : ∀ u ∈ strV (ts.drop k), u.oneCell' = true := fun u hu => by
  simp only [strV, List.mem_map] at hu
  obtain ⟨l, _, rfl⟩ := hu
  rfl
 by_cases hc : cap = k
 ·
  rw [if_pos hc]
  have hd : ts.drop k = [] := List.drop_eq_nil_of_le (by omega)
  rw [hd]
  exact ⟨by simp [strV]; omega, fun u hu => by simp [strV] at hu, Or.inr ⟨_, _, rfl, fun j u hu => by simp [strV] at hu⟩⟩
 ·
  rw [if_neg hc]
  refine ⟨by simp [strV], hone, Or.inr ⟨_, cap - k, rfl, fun j u hu => ?_⟩⟩
  have hj : j < ts.length - k := by
   have := (List.getElem?_eq_some_iff.1 hu).1
   simpa [strV] using this
  have e : (⟨g, k, none⟩ : Addr).add j = ⟨g, k + j, none⟩ := by unfold Addr.add; split <;> simp_all
  rw [e, World.ownsRow.cellAt h (k + j) (by omega)]
  have e2 : (strV (ts.drop k))[j]? = (strV ts)[k + j]? := by simp [strV, List.getElem?_drop]
  rw [← e2]
  exact hu
set_option maxHeartbeats 1000000 in
set_option maxRecDepth 100000 in
theorem ziX (B g cap : Nat) (ts : List (List UInt8)) (s : List UInt8) (w : World) (h : w.ownsRow B 9 1 (.slice (some ⟨g, 0, none⟩) ts.length cap) ts.length (strV ts)) (hB : B ≤ w.heap.size) (hlen : ts.length ≤ 1048576) :
 Calls Tryz.prog 46 #[.slice (some ⟨g, 0, none⟩) ts.length cap, .string ⟨s.toArray⟩] w fun e w' => ∃ g' c', e = .returned (.slice (some ⟨g', 0, none⟩) (put8 ts s).length c') ∧ w'.ownsRow B 9 1 (.slice (some ⟨g', 0, none⟩) (put8 ts s).length c') (put8 ts s).length (strV (put8 ts s)) ∧ Below w.heap.size w w' := by
 have hcap := zjr h
 have HO : Hid (w.ownsRow B 9 1 (.slice (some ⟨g, 0, none⟩) ts.length cap) ts.length (strV ts)) := h
 have hc1 : (ts.length : Int) ≤ (cap : Int) := by omega
 go_enter Tryz.func46, Tryz.ntmps46
 go_wp2
 go_loopw [5] (fun iv wr => ∃ k : Nat, iv = .int .i64 (k : Int) ∧ k ≤ ts.length ∧ Hid (∀ i, i < k → Op.bytesLess (ts.getD i []) s = true) ∧ w = wr) (fun iv _ => ts.length - (intOf iv).toNat)
 case atStart => exact ⟨0, rfl, by omega, (fun i hi => by omega), rfl⟩
 case round =>
  obtain ⟨k, rfl, hk, HA, rfl⟩ := hrel
  -- the way on where the text is not there
  have HW : Hid (low8 s ts = k → ts[k]? ≠ some s → ∃ v1 Y1 v2 Y2 v3 Y3 g' c' Y4, (Builtin.append_ #[31, 31] 31 #[.slice (some ⟨w.heap.size, 0, none⟩) 0 0, .slice (if cap = k then some ⟨g, 0, none⟩ else some ⟨g, k, none⟩) (ts.length - k) (cap - k)]).run Tryz.prog (w.alloc (.cells #[] 9)) = .ok v1 Y1 ∧
   (Builtin.append_ #[31, 31] 31 #[.slice (some ⟨Y1.heap.size, 0, none⟩) 0 0, .slice (some ⟨g, 0, none⟩) k cap]).run Tryz.prog (Y1.alloc (.cells #[] 9)) = .ok v2 Y2 ∧
   (Builtin.append_ #[31, 31] 31 #[v2, .slice (some ⟨Y2.heap.size, 0, none⟩) 1 1]).run Tryz.prog (Y2.alloc (.cells #[.string ⟨s.toArray⟩] 9)) = .ok v3 Y3 ∧
   (Builtin.append_ #[31, 31] 31 #[v3, v1]).run Tryz.prog Y3 = .ok (.slice (some ⟨g', 0, none⟩) (put8 ts s).length c') Y4 ∧ Y4.ownsRow B 9 1 (.slice (some ⟨g', 0, none⟩) (put8 ts s).length c') (put8 ts s).length (strV (put8 ts s)) ∧ Below w.heap.size w Y4) := fun hlow hno => by
   have hput : put8 ts s = ts.take k ++ s :: ts.drop k := by unfold put8; rw [hlow, if_neg hno]
   have hb1 : Below w.heap.size w (w.alloc (.cells #[] 9)) := (Below.refl _ _).alloc (Nat.le_refl _) _
   have ho1 := (World.ownsRow_lit (base := w.heap.size) (e := 9) (size := 1) w #[] 0 (Nat.le_refl _) (by decide) rfl)
   obtain ⟨v1, Y1, hr1, hv1, hg1⟩ := app8 (ls := []) ho1 hb1.size (src_drop (za6 HO.out hb1) hk) (by omega)
   have hbY1 : Below w.heap.size w Y1 := hb1.grown hg1 hb1.size (fun q e => by simp [Value.ownBlock] at e; omega)
   have hb2 : Below Y1.heap.size Y1 (Y1.alloc (.cells #[] 9)) := (Below.refl _ _).alloc (Nat.le_refl _) _
   have ho2 := (World.ownsRow_lit (base := Y1.heap.size) (e := 9) (size := 1) Y1 #[] 0 (Nat.le_refl _) (by decide) rfl)
   obtain ⟨v2, Y2, hr2, hv2, hg2⟩ := app8 (ls := []) ho2 hb2.size (src_take (za6 (za6 HO.out hbY1) hb2) hk) (by omega)
   have hbY2 : Below Y1.heap.size Y1 Y2 := hb2.grown hg2 hb2.size (fun q e => by simp [Value.ownBlock] at e; omega)
   obtain ⟨v3, Y3, hr3, hv3, hg3⟩ := zdq s hv2 hbY2.size (by simp; omega)
   have hbY3 : Below Y1.heap.size Y1 Y3 := hbY2.grown hg3 hbY2.size (fun q e => (hv2.lt q e).1)
   have hv1Y3 := za6 hv1 hbY3
   obtain ⟨_, a1, c1, rfl, hin1⟩ := zbt hv1
   have hsrc1 : Src Y3 (.slice a1 (0 + (ts.length - k)) c1) (0 + (ts.length - k)) 1 (strV ([] ++ ts.drop k)) := by
    obtain ⟨_, a2, c2, e2, hin2⟩ := zbt hv1Y3
    injection e2 with e2a _ e2c
    subst e2a e2c
    refine hin2.src8 (fun e => ?_)
    rcases zaH hv1Y3 with ⟨e3, _, _⟩ | ⟨g3, cp3, e3⟩
    ·
     injection e3
    ·
     injection e3 with e3; rw [e] at e3; cases e3
   obtain ⟨v4, Y4, hr4, hv4, hg4⟩ := app8 hv3 hbY3.size hsrc1 (by omega)
   have e4 : [] ++ ts.take k ++ [s] ++ ([] ++ ts.drop k) = put8 ts s := by rw [hput]; simp
   have e5 : 0 + k + 1 + (0 + (ts.length - k)) = (put8 ts s).length := by rw [hput]; simp; omega
   rw [e4, e5] at hv4
   obtain ⟨g', c', rfl⟩ := za9 hv4 (by rw [← e5]; omega)
   exact ⟨_, Y1, v2, Y2, v3, Y3, g', c', Y4, hr1, hr2, hr3, hr4, zai hv4 (Nat.le_trans hB hbY1.size), hbY1.trans ((hbY3.grown hg4 hbY3.size (fun q e => (hv3.lt q e).1)).mono hbY1.size)⟩
  by_cases hkl : (k : Int) < (ts.length : Int)
  ·
   have hk2 : k < ts.length := by omega
   have c0 := zco HO.out rfl k hk2
   have hat : ts[k]? = some (ts.getD k []) := by simp [List.getD, hk2]
   have hlow := zh7 s ts k HA.out hk
   obtain ⟨x, hx⟩ : ∃ x, ts.getD k [] = x := ⟨_, rfl⟩
   rw [hx] at c0 hat hlow
   rcases hb : Op.bytesLess x s with _ | _
   ·
    have hl := hlow (Or.inr hb)
    by_cases hxs : x = s
    ·
     subst hxs
     have HPt : Hid (put8 ts x = ts) := by exact (by unfold put8; rw [hl, if_pos hat] : put8 ts x = ts)
     have hself : (x == x) = true := by simp
     clear HW HA hat hlow hx hl
     go_wp2
     go_ret
     exact ⟨g, cap, by rw [HPt.out]; rfl, by rw [HPt.out]; exact HO.out, Below.refl _ _⟩
    ·
     obtain ⟨v1, Y1, v2, Y2, v3, Y3, g', c', Y4, hr1, hr2, hr3, hr4, hv4, hbY4⟩ := HW.out hl (by rw [hat]; intro e; injection e with e; exact hxs e)
     have hne : (x == s) = false := by rw [beq_eq_false_iff_ne]; exact hxs
     have HV4 : Hid (Y4.ownsRow B 9 1 (.slice (some ⟨g', 0, none⟩) (put8 ts s).length c') (put8 ts s).length (strV (put8 ts s))) := hv4
     rw [if_neg (show ¬ cap = k by omega)] at hr1
     clear HW HA hat hlow hx hl hv4 h
     have hkc : (k : Int) ≤ (cap : Int) := by omega
     go_wp2_with (at_builtin; first | (refine za0 rfl (.tmp 34) (.tmp 37) 31 rfl _ _ _ rfl rfl hr1 ?_; clear hr1) | (refine za0 rfl (.tmp 39) (.tmp 42) 31 rfl _ _ _ rfl rfl hr2 ?_; clear hr2) | (refine za0 rfl (.tmp 43) (.tmp 45) 31 rfl _ _ _ rfl rfl hr3 ?_; clear hr3) | (refine za0 rfl (.tmp 46) (.tmp 47) 31 rfl _ _ _ rfl rfl hr4 ?_; clear hr4))
     go_ret
     exact ⟨g', c', rfl, HV4.out, hbY4⟩
   ·
    have HA2 : Hid (∀ i, i < k + 1 → Op.bytesLess (ts.getD i []) s = true) := fun i hi => by
     rcases Nat.lt_or_ge i k with h | h
     ·
      exact HA.out i h
     ·
      obtain rfl : i = k := by omega
      rw [hx]; exact hb
    clear HW HA hat hlow hx
    go_wp2
    go_roundw
    case rel => exact ⟨k + 1, by go_num, by omega, HA2, trivial⟩
    case measure => simp [intOf]; omega
  ·
   obtain rfl : k = ts.length := by omega
   obtain ⟨v1, Y1, v2, Y2, v3, Y3, g', c', Y4, hr1, hr2, hr3, hr4, hv4, hbY4⟩ := HW.out (zh7 s ts _ HA.out hk (Or.inl rfl)) (by simp)
   have HV4 : Hid (Y4.ownsRow B 9 1 (.slice (some ⟨g', 0, none⟩) (put8 ts s).length c') (put8 ts s).length (strV (put8 ts s))) := hv4
   clear HW HA hv4
   by_cases hcl : cap = ts.length
   ·
    subst hcl
    rw [if_pos rfl] at hr1
    simp only [Nat.sub_self] at hr1
    clear h
    go_wp2_with (at_builtin; first | (refine za0 rfl (.tmp 34) (.tmp 37) 31 rfl _ _ _ rfl rfl hr1 ?_; clear hr1) | (refine za0 rfl (.tmp 39) (.tmp 42) 31 rfl _ _ _ rfl rfl hr2 ?_; clear hr2) | (refine za0 rfl (.tmp 43) (.tmp 45) 31 rfl _ _ _ rfl rfl hr3 ?_; clear hr3) | (refine za0 rfl (.tmp 46) (.tmp 47) 31 rfl _ _ _ rfl rfl hr4 ?_; clear hr4))
    go_ret
    exact ⟨g', c', rfl, HV4.out, hbY4⟩
   ·
    rw [if_neg hcl, Nat.sub_self] at hr1
    clear h
    have hcl2 : ¬ (cap : Int) = (ts.length : Int) := by omega
    go_wp2_with (at_builtin; first | (refine za0 rfl (.tmp 34) (.tmp 37) 31 rfl _ _ _ rfl rfl hr1 ?_; clear hr1) | (refine za0 rfl (.tmp 39) (.tmp 42) 31 rfl _ _ _ rfl rfl hr2 ?_; clear hr2) | (refine za0 rfl (.tmp 43) (.tmp 45) 31 rfl _ _ _ rfl rfl hr3 ?_; clear hr3) | (refine za0 rfl (.tmp 46) (.tmp 47) 31 rfl _ _ _ rfl rfl hr4 ?_; clear hr4))
    go_ret
    exact ⟨g', c', rfl, HV4.out, hbY4⟩





theorem zbA {w : World} {a : Addr} {v : Value} (o : Obj) (h : w.cell? a = some v) : (w.alloc o).cell? a = some v :=
 (World.cell?_of_block (Below.heap_alloc _ _ _ (World.block_lt_of_cell? w a h))).trans h


def FnBlocks (v : Value) (xs : List FV) (k : Nat) : Prop := v.ownBlock = some k ∨ ∃ x ∈ xs, (fvT x).ownBlock = some k
theorem zaP.alloc {w : World} {base : Nat} {v : Value} {xs : List FV} (h : zaP w base v xs) (o : Obj) : zaP (w.alloc o) base v xs := ⟨h.row.alloc o, fun x hx => (h.trees x hx).alloc o⟩
theorem zaP.none {w w' : World} {base : Nat} {v : Value} {xs : List FV} (h : zaP w base v xs) (hg : w.grownBy w' none) : zaP w' base v xs := ⟨zba h.row hg, fun x hx => zba (h.trees x hx) hg⟩
def PkBlocks (vi vf : Value) (xs : List FV) (k : Nat) : Prop := vi.ownBlock = some k ∨ FnBlocks vf xs k
structure PV where
 nm : List UInt8
 ims : List (List UInt8)
 xs : List FV
 ia : Option Addr
 ic : Nat
 fa : Option Addr
 fc : Nat
 lo : Nat
 hi : Nat
def pvI (y : PV) : Value := .slice y.ia y.ims.length y.ic
def pvF (y : PV) : Value := .slice y.fa y.xs.length y.fc
def pvP (y : PV) : Pk := (y.nm, y.ims, y.xs.map (·.1))
def pv0 : PV := ⟨[], [], [], none, 0, none, 0, 0, 0⟩
def pvsV : List PV → List Value
 | [] => []
 | y :: r => .string ⟨y.nm.toArray⟩ :: pvI y :: pvF y :: pvsV r
theorem zjm (ys : List PV) (j : Nat) (hj : j < ys.length) : (pvsV ys)[j * 3]? = some (.string ⟨(ys.getD j pv0).nm.toArray⟩) ∧ (pvsV ys)[j * 3 + 1]? = some (pvI (ys.getD j pv0)) ∧ (pvsV ys)[j * 3 + 2]? = some (pvF (ys.getD j pv0)) := by
 induction ys generalizing j with
 | nil => simp at hj
 | cons n r ih =>
  cases j with
  | zero => simp [pvsV]
  | succ j =>
   obtain ⟨h0, h1, h2⟩ := ih j (by simpa using hj)
   refine ⟨?_, ?_, ?_⟩
   ·
    rw [show (j + 1) * 3 = j * 3 + 1 + 1 + 1 by omega]; simpa [pvsV] using h0
   ·
    rw [show (j + 1) * 3 + 1 = j * 3 + 1 + 1 + 1 + 1 by omega]; simpa [pvsV] using h1
   ·
    rw [show (j + 1) * 3 + 2 = j * 3 + 2 + 1 + 1 + 1 by omega]; simpa [pvsV] using h2
theorem zhk (ys : List PV) (j : Nat) : (ys.map pvP).getD j pk0 = pvP (ys.getD j pv0) := by
 rw [List.getD_eq_getElem?_getD, List.getD_eq_getElem?_getD, List.getElem?_map]
 cases ys[j]? <;> rfl
theorem zha : (Tryz.prog.info? 85).map (fun i => (i.zero, i.size, i.bytes)) = some (some (.agg #[.string ⟨#[]⟩, .slice none 0 0, .slice none 0 0]), 3, 64) := by kernel_rfl

structure zcv (w : World) (a : Option Addr) (len cap : Nat) (ps : List Pk) : Prop where
 hlen : ps.length = len
 nil : a = none → cap = 0
 hcap : len ≤ cap
 small : len ≤ 1048576
 each : ∀ j, j < len → ∃ b off, a = some ⟨b, off, none⟩ ∧ b < w.heap.size ∧ w.cell? ⟨b, off + j * 3, none⟩ = some (.string ⟨(ps.getD j pk0).1.toArray⟩) ∧
  ∃ ia il ic fa fl fc, w.cell? ⟨b, off + j * 3 + 1, none⟩ = some (.slice ia il ic) ∧ w.cell? ⟨b, off + j * 3 + 2, none⟩ = some (.slice fa fl fc) ∧ PkOk w (ps.getD j pk0).1 ia il ic fa fl fc (ps.getD j pk0).2.1 (ps.getD j pk0).2.2
theorem zcv.below {w w' : World} {a : Option Addr} {len cap : Nat} {ps : List Pk} (h : zcv w a len cap ps) (hb : Below w.heap.size w w') : zcv w' a len cap ps :=
 ⟨h.hlen, h.nil, h.hcap, h.small, fun j hj => by
  obtain ⟨b, off, e, hlt, c0, ia, il, ic, fa, fl, fc, c1, c2, hk⟩ := h.each j hj
  exact ⟨b, off, e, Nat.lt_of_lt_of_le hlt hb.size, (hb.cell (p := ⟨b, off + j * 3, none⟩) hlt).trans c0, ia, il, ic, fa, fl, fc, (hb.cell (p := ⟨b, off + j * 3 + 1, none⟩) hlt).trans c1, (hb.cell (p := ⟨b, off + j * 3 + 2, none⟩) hlt).trans c2, hk.below hb⟩⟩
theorem zcv.in {w : World} {a : Option Addr} {len cap : Nat} {ps : List Pk} (h : zcv w a len cap ps) : zib w a len ps :=
 ⟨h.hlen, fun j hj => by
  obtain ⟨b, off, e, hlt, c0, ia, il, ic, fa, fl, fc, c1, c2, hk⟩ := h.each j hj
  exact ⟨b, off, e, hlt, c0, ia, il, ic, fa, fl, fc, c1, c2, hk.i, hk.f⟩⟩
theorem zcv.short {w : World} {a : Option Addr} {len cap : Nat} {ps : List Pk} (h : zcv w a len cap ps) : ShortPs ps := fun j => by
 by_cases hj : j < len
 ·
  obtain ⟨b, off, e, hlt, c0, ia, il, ic, fa, fl, fc, c1, c2, hk⟩ := h.each j hj
  exact ⟨hk.nm, by rw [hk.i.1]; exact hk.il, hk.is, by rw [hk.f.1]; exact hk.fl, hk.fs⟩
 ·
  have : ps.getD j pk0 = pk0 := by rw [List.getD, List.getElem?_eq_none (by rw [h.hlen]; omega)]; rfl
  rw [this]
  exact ⟨by simp [pk0], by simp [pk0], fun i => by simp [pk0], by simp [pk0], fun i => by simp [pk0, fn0, zaX, nd0]⟩
end Go.Proofs.YtenaaneckobdpaaGreat
