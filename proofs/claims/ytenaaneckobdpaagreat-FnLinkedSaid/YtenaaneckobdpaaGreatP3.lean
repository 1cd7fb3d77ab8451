/-
  Parts of one proof, one behind the other: TreeS3, TreeS4, TreeS5, NodeL, Draw3, DrawW, DrawT, Bend1, Bend2, DrawX, DrawN, DrawTr, Math6D, DrawTr2, DrawTr3, DrawTr4, Math7, PackS.
-/
import Derived.Test.YtenaaneckobdpaaGreatP2
import Derived.Deep.RegionHeld3
import Derived.Deep.RegionWith
import Derived.Test.YtenaaneckobdpaaGreatP1
import Derived.Deep.RegionLaw
import Derived.Deep.DrawnRows
import Derived.Deep.Cut
import Derived.BigQuiet
namespace Go.Proofs.YtenaaneckobdpaaGreat
open Go.RowKit
set_option maxHeartbeats 1000000 in
set_option maxRecDepth 100000 in
theorem zid (a : Option Addr) (len cap : Nat) (ns : List Nd) (w : World) (hin : zag w a len ns) (hsh : zaX ns) (hlen : len ≤ 1048576) :
 Calls Tryz.prog 125 #[.slice a len cap] w fun e w' => e = .returned (.bool (zb9 ns)) ∧ Below w.heap.size w w' := by
 obtain rfl : ns.length = len := hin.1
 have HC : Hid (_) := fun W (h : zag W a ns.length ns) => zfZ a ns.length cap ns 0 W h hsh hlen
 have HI : Hid (zag w a ns.length ns) := hin
 clear hin hsh
 by_cases h : 1 ≤ (ns.length : Int) ∧ (ns.length : Int) ≤ 60
 ·
  have HB : Hid (inB (ns.length : Int) 1 60 = true) := zdP _ _ _ h.1 h.2
  have HT : Hid (zb9 ns = (endV ns 0 == (ns.length : Int))) := by
   exact (by unfold zb9; rw [Bool.eq_iff_iff, decide_eq_true_iff, beq_iff_eq]; constructor; exact fun x => x.2; exact fun x => ⟨by omega, x⟩ : zb9 ns = (endV ns 0 == (ns.length : Int)))
  go_enter Tryz.func125, Tryz.ntmps125
  go_wp2_with fail
  refine (zcf _ _ _ _).mono ?_
  rintro e w1 ⟨rfl, rfl⟩
  rw [HB.out]
  go_wp2_with fail
  refine Calls.mono (HC.out _ HI.out) ?_
  rintro e w2 ⟨rfl, hb2⟩
  go_wp2
  go_ret
  exact ⟨by rw [HT.out]; rfl, hb2⟩
 ·
  have HB : Hid (inB (ns.length : Int) 1 60 = false) := zdx _ _ _ (by omega)
  have HT : Hid (zb9 ns = false) := by exact (decide_eq_false (fun x => h (by omega)) : zb9 ns = false)
  go_enter Tryz.func125, Tryz.ntmps125
  go_wp2_with fail
  refine (zcf _ _ _ _).mono ?_
  rintro e w1 ⟨rfl, rfl⟩
  rw [HB.out]
  go_wp2
  go_ret
  exact ⟨by rw [HT.out]; rfl, Below.refl _ _⟩

def za5 : List Nd → List Value
 | [] => []
 | n :: r => .int .i64 n.1 :: .int .i64 n.2.1 :: .string ⟨n.2.2.1.toArray⟩ :: .string ⟨n.2.2.2.toArray⟩ :: za5 r
theorem zc5 (ns : List Nd) : (za5 ns).length = ns.length * 4 := by
 induction ns with
 | nil => rfl
 | cons n r ih => simp only [za5, List.length_cons, ih]; omega
theorem zbL (x y : List Nd) : za5 (x ++ y) = za5 x ++ za5 y := by
 induction x with
 | nil => rfl
 | cons n r ih => simp only [List.cons_append, za5, ih]
theorem zc4 (ns : List Nd) : ∀ u ∈ za5 ns, u.oneCell' = true := by
 induction ns with
 | nil => intro u hu; cases hu
 | cons n r ih =>
  intro u hu
  simp only [za5, List.mem_cons] at hu
  rcases hu with rfl | rfl | rfl | rfl | h
  ·
   rfl
  ·
   rfl
  ·
   rfl
  ·
   rfl
  ·
   exact ih u h
theorem zg8 (ns : List Nd) (j : Nat) (hj : j < ns.length) : (za5 ns)[j * 4]? = some (.int .i64 (ns.getD j nd0).1) ∧ (za5 ns)[j * 4 + 1]? = some (.int .i64 (ns.getD j nd0).2.1) ∧ (za5 ns)[j * 4 + 2]? = some (.string ⟨(ns.getD j nd0).2.2.1.toArray⟩) ∧ (za5 ns)[j * 4 + 3]? = some (.string ⟨(ns.getD j nd0).2.2.2.toArray⟩) := by
 induction ns generalizing j with
 | nil => simp at hj
 | cons n r ih =>
  cases j with
  | zero => simp [za5]
  | succ j =>
   have h := ih j (by simpa using hj)
   rw [show (j + 1) * 4 = j * 4 + 1 + 1 + 1 + 1 by omega]
   simpa [za5] using h
theorem zaL {w : World} {base n : Nat} {v : Value} {ns : List Nd} (h : w.ownsRow base 99 4 v n (za5 ns)) : ns.length = n ∧ ∃ a cap, v = .slice a n cap ∧ zag w a n ns := by
 have hlen : ns.length = n := by have := h.1; rw [zc5] at this; omega
 refine ⟨hlen, ?_⟩
 rcases zaH h with ⟨rfl, rfl, _⟩ | ⟨g, cp, rfl⟩
 ·
  exact ⟨none, 0, rfl, hlen, fun j hj => by omega⟩
 ·
  refine ⟨some ⟨g, 0, none⟩, cp, rfl, hlen, fun j hj => ?_⟩
  obtain ⟨v0, v1, v2, v3⟩ := zg8 ns j (by omega)
  have c0 := h.cellAt (j * 4) (by omega)
  have c1 := h.cellAt (j * 4 + 1) (by omega)
  have c2 := h.cellAt (j * 4 + 2) (by omega)
  have c3 := h.cellAt (j * 4 + 3) (by omega)
  rw [v0] at c0
  rw [v1] at c1
  rw [v2] at c2
  rw [v3] at c3
  refine ⟨g, 0, rfl, (h.lt g rfl).2, ?_, ?_, ?_, ?_⟩
  ·
   rw [Nat.zero_add]; exact c0
  ·
   rw [Nat.zero_add]; exact c1
  ·
   rw [Nat.zero_add]; exact c2
  ·
   rw [Nat.zero_add]; exact c3
theorem zd0 : (Tryz.prog.info? 99).map (fun i => (i.zero, i.size, i.bytes)) = some (some (.agg #[.int .i64 0, .int .i64 0, .string ⟨#[]⟩, .string ⟨#[]⟩]), 4, 48) := by kernel_rfl
theorem zfw (w : World) (n : Nd) : ∀ j u, (za5 [n])[j]? = some u → (w.alloc (.cells #[.int .i64 n.1, .int .i64 n.2.1, .string ⟨n.2.2.1.toArray⟩, .string ⟨n.2.2.2.toArray⟩] 99)).cell? ((⟨w.heap.size, 0, none⟩ : Addr).add j) = some u := by
 intro j u hu
 have e : (⟨w.heap.size, 0, none⟩ : Addr).add j = ⟨w.heap.size, j, none⟩ := by unfold Addr.add; split <;> simp_all
 rw [e]
 match j, hu with
 | 0, hu => simp [za5] at hu; subst hu; simp
 | 1, hu => simp [za5] at hu; subst hu; simp
 | 2, hu => simp [za5] at hu; subst hu; simp
 | 3, hu => simp [za5] at hu; subst hu; simp
 | j + 4, hu => simp [za5] at hu
def IntN (n : Nd) : Prop := (-9223372036854775808 ≤ n.1 ∧ n.1 ≤ 9223372036854775807) ∧ (-9223372036854775808 ≤ n.2.1 ∧ n.2.1 ≤ 9223372036854775807)
def IntT (ns : List Nd) : Prop := ∀ j, IntN (ns.getD j nd0)
theorem zhX : IntN nd0 := by unfold IntN nd0; decide
theorem IntT.nil : IntT [] := fun j => by rw [show ([] : List Nd).getD j nd0 = nd0 by simp]; exact zhX
def pick (l : List Int) (x : Int) : Int := l.getD x.toNat 0
theorem zdr (l : List Int) (x : Int) (h0 : 0 ≤ x) (h1 : x < l.length) (W : World) (e : TypeId) :
 (W.alloc (.cells (l.map (Value.int .i64)).toArray e)).cell? ⟨W.heap.size, x.toNat, none⟩ = some (.int .i64 (pick l x)) := by
 have hx : x.toNat < l.length := by omega
 rw [World.cell?_alloc_mark]
 simp [pick, hx]
theorem zfs (l : List Int) (x lo hi : Int) (h0 : 0 ≤ x) (h1 : x < l.length) (h : ∀ y ∈ l, lo ≤ y ∧ y ≤ hi) : lo ≤ pick l x ∧ pick l x ≤ hi := by
 have hx : x.toNat < l.length := by omega
 have : pick l x = l[x.toNat] := by simp [pick, List.getD, hx]
 rw [this]
 exact h _ (List.getElem_mem hx)
set_option maxHeartbeats 1000000 in
set_option maxRecDepth 100000 in
theorem zdB (w : World) (B : Nat) (a : Option Addr) (len cap : Nat) (h : Cur w B a len cap) :
 Calls Tryz.prog 130 #[.pointer (some ⟨B, 0, none⟩)] w fun e w' => ∃ x : Int, e = .returned (.int .i64 x) ∧ -2147483648 ≤ x ∧ x ≤ 2147483647 ∧ Cur w' B a len cap ∧ w.grownBy w' (some B) := by
 go_enter Tryz.func130, Tryz.ntmps130
 go_wp2_with fail
 refine (zbe _ B a len cap 6 (by omega) (by omega) h).mono ?_
 rintro e w1 ⟨o, rfl, hc1, hg1⟩
 have hB := hc1.lt
 rcases o with _ | _
 ·
  go_wp2_with fail
  refine (zaf _ B a len cap 12 (by omega) (by omega) hc1).mono ?_
  rintro e w2 ⟨x, rfl, hx0, hx1, hc2, hg2⟩
  go_wp2
  go_ret
  exact ⟨_, rfl, by omega, by omega, hc2, hg1.trans hg2⟩
 ·
  go_wp2_with fail
  refine (zaf _ B a len cap 4 (by omega) (by omega) (hc1.kept (World.grownBy_alloc _ _ none) (by simp))).mono ?_
  rintro e w2 ⟨x, rfl, hx0, hx1, hc2, hg2⟩
  have hcx := hg2.cell (zdr [2147483647, -2147483648, 65536, -1] x hx0 hx1 w1 2) (by simp; omega)
  have hpi := zfs [2147483647, -2147483648, 65536, -1] x (-2147483648) 2147483647 hx0 hx1 (by simp)
  generalize pick [2147483647, -2147483648, 65536, -1] x = y at hcx hpi
  have hg := (hg1.trans (World.grownBy_alloc _ _ _)).trans hg2
  clear hc1 hg1 hg2
  go_wp2
  go_ret
  exact ⟨_, rfl, hpi.1, hpi.2, hc2, hg⟩

theorem zcc (b off j : Nat) : (⟨b, off, none⟩ : Addr).add j = ⟨b, off + j, none⟩ := by unfold Addr.add; split <;> simp_all

def zim (l : List (List UInt8)) (x : Int) : List UInt8 := l.getD x.toNat []
theorem zeY (l : List (List UInt8)) (x : Int) (h0 : 0 ≤ x) (h1 : x < l.length) (W : World) (e : TypeId) :
 (W.alloc (.cells (strV l).toArray e)).cell? ⟨W.heap.size, x.toNat, none⟩ = some (.string ⟨(zim l x).toArray⟩) := by
 have hx : x.toNat < l.length := by omega
 rw [World.cell?_alloc_mark]
 simp [zim, strV, hx]
theorem zg2 (l : List (List UInt8)) (x : Int) (n : Nat) (h : ∀ y ∈ l, y.length ≤ n) : (zim l x).length ≤ n := by
 unfold zim
 by_cases hx : x.toNat < l.length
 ·
  have : l.getD x.toNat [] = l[x.toNat] := by simp [List.getD, hx]
  rw [this]; exact h _ (List.getElem_mem hx)
 ·
  have : l.getD x.toNat [] = [] := by simp [List.getD, hx]
  rw [this]; simp
theorem Code.alloc {w : World} {B : Nat} {a : Option Addr} {len : Nat} (h : Code w B a len) (hB : B ≤ w.heap.size) (o : Obj) : Code (w.alloc o) (B + 1) a len := by
 intro j hj
 obtain ⟨b, off, x, e1, e2, e3, e0⟩ := h j hj
 exact ⟨b, off, x, e1, by omega, (World.cell?_of_block (a := ⟨b, off + j, none⟩) (Below.heap_alloc _ _ _ (by show b < _; omega))).trans e3, e0⟩
def zbG (n : Nd) : Prop := IntN n ∧ n.2.2.1.length ≤ 9 ∧ n.2.2.2.length ≤ 9
def zbz (ns : List Nd) : Prop := ∀ n ∈ ns, zbG n
theorem zgY {w : World} {base e size n : Nat} {v : Value} {xs : List Value} (h : w.ownsRow base e size v n xs) (h1 : ∀ u ∈ xs, u.oneCell' = true) : Src w v n size xs := by
 refine ⟨h.1, h1, ?_⟩
 rcases zaH h with ⟨rfl, rfl, _⟩ | ⟨g, cp, rfl⟩
 ·
  exact Or.inl ⟨rfl, rfl⟩
 ·
  refine Or.inr ⟨⟨g, 0, none⟩, cp, rfl, fun j u hu => ?_⟩
  have e : (⟨g, 0, none⟩ : Addr).add j = ⟨g, j, none⟩ := by unfold Addr.add; split <;> simp_all
  have hj : j < xs.length := by
   rcases Nat.lt_or_ge j xs.length with h | h
   ·
    exact h
   ·
    rw [List.getElem?_eq_none h] at hu; cases hu
  rw [e, h.cellAt j (by rw [← h.1]; exact hj)]
  exact hu
theorem lit1 (w W : World) (n : Nd) (hb : w.heap.size ≤ W.heap.size) :
 (W.alloc (.cells #[.int .i64 n.1, .int .i64 n.2.1, .string ⟨n.2.2.1.toArray⟩, .string ⟨n.2.2.2.toArray⟩] 99)).ownsRow w.heap.size 99 4 (.slice (some ⟨W.heap.size, 0, none⟩) 1 1) 1 (za5 [n]) := by
 have := World.ownsRow_lit (base := w.heap.size) (e := 99) (size := 4) W #[.int .i64 n.1, .int .i64 n.2.1, .string ⟨n.2.2.1.toArray⟩, .string ⟨n.2.2.2.toArray⟩] 1 hb (by decide) rfl
 simpa [za5] using this
theorem own_ge {w : World} {base e size n : Nat} {v : Value} {xs : List Value} (h : w.ownsRow base e size v n xs) : ∀ q, v.ownBlock = some q → base ≤ q := fun q e => (h.lt q e).1
def BoxN (W : World) (D : Nat) (n : Nd) : Prop :=
 W.cell? ⟨D, 0, none⟩ = some (.int .i64 n.1) ∧ W.cell? ⟨D, 1, none⟩ = some (.int .i64 n.2.1) ∧ W.cell? ⟨D, 2, none⟩ = some (.string ⟨n.2.2.1.toArray⟩) ∧ W.cell? ⟨D, 3, none⟩ = some (.string ⟨n.2.2.2.toArray⟩) ∧ ∀ j, W.frozen? ⟨D, j, none⟩ = false
theorem BoxN.lt {W : World} {D : Nat} {n : Nd} (h : BoxN W D n) : D < W.heap.size := World.block_lt_of_cell? _ ⟨D, 0, none⟩ h.1
theorem BoxN.kept {W W' : World} {D B : Nat} {n : Nd} (h : BoxN W D n) (hg : W.grownBy W' (some B)) (hne : D ≠ B) : BoxN W' D n := by
 have hb : W'.heap[D]? = W.heap[D]? := hg.block D h.lt (by simp; omega)
 obtain ⟨h0, h1, h2, h3, hf⟩ := h
 exact ⟨(World.cell?_of_block (a := ⟨D, 0, none⟩) hb).trans h0, (World.cell?_of_block (a := ⟨D, 1, none⟩) hb).trans h1, (World.cell?_of_block (a := ⟨D, 2, none⟩) hb).trans h2, (World.cell?_of_block (a := ⟨D, 3, none⟩) hb).trans h3, fun j => (World.frozen?_of_block (a := ⟨D, j, none⟩) hb).trans (hf j)⟩
theorem box_kind {W : World} {D : Nat} {n : Nd} (h : BoxN W D n) (k : Int) : BoxN (W.setCell ⟨D, 0, none⟩ (.int .i64 k)) D (k, n.2) := by
 obtain ⟨h0, h1, h2, h3, hf⟩ := h
 exact ⟨World.cell?_setCell_same _ _ _ h0, (World.cell?_setCell_other _ _ _ _ (by simp)).trans h1, (World.cell?_setCell_other _ _ _ _ (by simp)).trans h2, (World.cell?_setCell_other _ _ _ _ (by simp)).trans h3, fun j => by simpa using hf j⟩
theorem zfe (W : World) (D : Nat) (a b c d : Value) : W.grownBy ((((W.setCell ⟨D, 0, none⟩ a).setCell ⟨D, 1, none⟩ b).setCell ⟨D, 2, none⟩ c).setCell ⟨D, 3, none⟩ d) (some D) :=
 (((zay _ _ _ _).trans (zay _ _ _ _)).trans (zay _ _ _ _)).trans (zay _ _ _ _)
theorem small0 (k : Int) (h0 : -9223372036854775808 ≤ k) (h1 : k ≤ 9223372036854775807) : zbG ((k, 0, [], []) : Nd) := ⟨⟨⟨h0, h1⟩, ⟨by simp, by simp⟩⟩, by simp, by simp⟩
theorem kids0 (k : Int) : zbm ((k, 0, [], []) : Nd) ≤ 3 := by unfold zbm; simp only; split <;> (try split) <;> (try split) <;> omega
theorem own_ne4 {v : Value} {B : Nat} (hd : ∀ q, v.ownBlock = some q → q = B → False) : v.ownBlock = none ∨ v.ownBlock ≠ some B := by
 rcases hv : v.ownBlock with _ | q
 ·
  exact Or.inl rfl
 ·
  exact Or.inr (fun e => hd q hv (by injection e))
theorem put4c {W : World} {D : Nat} {u0 u1 u2 u3 : Value} (a b c d : Value) (r0 : W.cell? ⟨D, 0, none⟩ = some u0) (r1 : W.cell? ⟨D, 1, none⟩ = some u1) (r2 : W.cell? ⟨D, 2, none⟩ = some u2) (r3 : W.cell? ⟨D, 3, none⟩ = some u3) :
 ((((W.setCell ⟨D, 0, none⟩ a).setCell ⟨D, 1, none⟩ b).setCell ⟨D, 2, none⟩ c).setCell ⟨D, 3, none⟩ d).cell? ⟨D, 0, none⟩ = some a ∧
 ((((W.setCell ⟨D, 0, none⟩ a).setCell ⟨D, 1, none⟩ b).setCell ⟨D, 2, none⟩ c).setCell ⟨D, 3, none⟩ d).cell? ⟨D, 1, none⟩ = some b ∧
 ((((W.setCell ⟨D, 0, none⟩ a).setCell ⟨D, 1, none⟩ b).setCell ⟨D, 2, none⟩ c).setCell ⟨D, 3, none⟩ d).cell? ⟨D, 2, none⟩ = some c ∧
 ((((W.setCell ⟨D, 0, none⟩ a).setCell ⟨D, 1, none⟩ b).setCell ⟨D, 2, none⟩ c).setCell ⟨D, 3, none⟩ d).cell? ⟨D, 3, none⟩ = some d := by
 refine ⟨?_, ?_, ?_, ?_⟩
 ·
  exact (World.cell?_setCell_other _ _ _ _ (by simp)).trans ((World.cell?_setCell_other _ _ _ _ (by simp)).trans ((World.cell?_setCell_other _ _ _ _ (by simp)).trans (World.cell?_setCell_same _ _ _ r0)))
 ·
  exact (World.cell?_setCell_other _ _ _ _ (by simp)).trans ((World.cell?_setCell_other _ _ _ _ (by simp)).trans (World.cell?_setCell_same _ _ _ ((World.cell?_setCell_other _ _ _ _ (by simp)).trans r1)))
 ·
  exact (World.cell?_setCell_other _ _ _ _ (by simp)).trans (World.cell?_setCell_same _ _ _ ((World.cell?_setCell_other _ _ _ _ (by simp)).trans ((World.cell?_setCell_other _ _ _ _ (by simp)).trans r2)))
 ·
  exact World.cell?_setCell_same _ _ _ ((World.cell?_setCell_other _ _ _ _ (by simp)).trans ((World.cell?_setCell_other _ _ _ _ (by simp)).trans ((World.cell?_setCell_other _ _ _ _ (by simp)).trans r3)))
theorem box_all {W : World} {D : Nat} {n : Nd} (h : BoxN W D n) (m : Nd) : BoxN ((((W.setCell ⟨D, 0, none⟩ (.int .i64 m.1)).setCell ⟨D, 1, none⟩ (.int .i64 m.2.1)).setCell ⟨D, 2, none⟩ (.string ⟨m.2.2.1.toArray⟩)).setCell ⟨D, 3, none⟩ (.string ⟨m.2.2.2.toArray⟩)) D m := by
 obtain ⟨h0, h1, h2, h3, hf⟩ := h
 obtain ⟨g0, g1, g2, g3⟩ := put4c (.int .i64 m.1) (.int .i64 m.2.1) (.string ⟨m.2.2.1.toArray⟩) (.string ⟨m.2.2.2.toArray⟩) h0 h1 h2 h3
 exact ⟨g0, g1, g2, g3, fun j => by simpa using hf j⟩
set_option maxHeartbeats 8000000 in
set_option maxRecDepth 100000 in
theorem zke : ∀ (d : Nat) (w : World) (B : Nat) (a : Option Addr) (len cap : Nat) (args : Int) (ca : Option Addr) (cl cc : Nat) (calls : List Nd), d ≤ 100 → 0 ≤ args → args ≤ 1000 → Cur w B a len cap → zag w ca cl calls → cl ≤ 1000 → (∀ j, zbG (calls.getD j nd0)) → (∀ j, zbm (calls.getD j nd0) ≤ 3) → (∀ b off, ca = some ⟨b, off, none⟩ → b ≠ B) →
 Calls Tryz.prog 124 #[.pointer (some ⟨B, 0, none⟩), .int .i64 d, .int .i64 args, .slice ca cl cc] w fun e w' => ∃ v ns, e = .returned v ∧ w'.ownsRow w.heap.size 99 4 v ns.length (za5 ns) ∧ ns.length ≤ 60 ∧ zbz ns ∧ Cur w' B a len cap ∧ w.grownBy w' (some B) := by
 intro d
 induction d with
 | zero =>
  intro w B a len cap args ca cl cc calls hd ha0 ha1 hc hin hcl hsm hkd hne
  have hg : w.grownBy w (some B) := World.grownBy.refl _ _
  clear hin hsm hkd hne
  go_enter Tryz.func124, Tryz.ntmps124
  by_cases hap : 0 < args
  ·
   go_wp2_with fail
   refine (zbe _ B a len cap 2 (by omega) (by omega) hc).mono ?_
   rintro e wo ⟨bo, rfl, hco, hgo⟩
   have hgp := hg.trans hgo
   rcases bo with _ | _
   ·
    go_wp2_with fail
    refine (zdB _ B a len cap hco).mono ?_
    rintro e wv ⟨xv, rfl, hv0, hv1, hcv, hgv⟩
    have hgw := hgp.trans hgv
    have hown := lit1 w wv ((1, xv, [], []) : Nd) hgw.size
    have hgz := hgw.trans (World.grownBy_alloc wv (.cells #[.int .i64 1, .int .i64 xv, .string ⟨#[]⟩, .string ⟨#[]⟩] 99) (some B))
    have hcz := hcv.kept (World.grownBy_alloc wv (.cells #[.int .i64 1, .int .i64 xv, .string ⟨#[]⟩, .string ⟨#[]⟩] 99) none) (by simp)
    simp only at hown
    go_wp2
    go_ret
    exact ⟨_, [((1, xv, [], []) : Nd)], rfl, hown, by simp, by intro m hm; rw [List.mem_singleton] at hm; subst hm; exact ⟨⟨⟨by simp, by simp⟩, ⟨by simp only; omega, by simp only; omega⟩⟩, by simp, by simp⟩, hcz, hgz⟩
   ·
    go_wp2_with fail
    refine (zaf _ B a len cap args (by omega) (by omega) hco).mono ?_
    rintro e wv ⟨xv, rfl, hv0, hv1, hcv, hgv⟩
    have hgw := hgp.trans hgv
    have hown := lit1 w wv ((2, xv, [], []) : Nd) hgw.size
    have hgz := hgw.trans (World.grownBy_alloc wv (.cells #[.int .i64 2, .int .i64 xv, .string ⟨#[]⟩, .string ⟨#[]⟩] 99) (some B))
    have hcz := hcv.kept (World.grownBy_alloc wv (.cells #[.int .i64 2, .int .i64 xv, .string ⟨#[]⟩, .string ⟨#[]⟩] 99) none) (by simp)
    simp only at hown
    go_wp2
    go_ret
    exact ⟨_, [((2, xv, [], []) : Nd)], rfl, hown, by simp, by intro m hm; rw [List.mem_singleton] at hm; subst hm; exact ⟨⟨⟨by simp, by simp⟩, ⟨by simp only; omega, by simp only; omega⟩⟩, by simp, by simp⟩, hcz, hgz⟩
  ·
   go_wp2_with fail
   refine (zdB _ B a len cap hc).mono ?_
   rintro e wv ⟨xv, rfl, hv0, hv1, hcv, hgv⟩
   have hgw := hg.trans hgv
   have hown := lit1 w wv ((1, xv, [], []) : Nd) hgw.size
   have hgz := hgw.trans (World.grownBy_alloc wv (.cells #[.int .i64 1, .int .i64 xv, .string ⟨#[]⟩, .string ⟨#[]⟩] 99) (some B))
   have hcz := hcv.kept (World.grownBy_alloc wv (.cells #[.int .i64 1, .int .i64 xv, .string ⟨#[]⟩, .string ⟨#[]⟩] 99) none) (by simp)
   simp only at hown
   go_wp2
   go_ret
   exact ⟨_, [((1, xv, [], []) : Nd)], rfl, hown, by simp, by intro m hm; rw [List.mem_singleton] at hm; subst hm; exact ⟨⟨⟨by simp, by simp⟩, ⟨by simp only; omega, by simp only; omega⟩⟩, by simp, by simp⟩, hcz, hgz⟩
 | succ d ih =>
  intro w B a len cap args ca cl cc calls hd ha0 ha1 hc hin hcl hsm hkd hne
  have HIH : Hid (_) := ih
  have HIN : Hid (zag w ca cl calls) := hin
  have HSM : Hid (∀ j, zbG (calls.getD j nd0)) := hsm
  have HKD : Hid (∀ j, zbm (calls.getD j nd0) ≤ 3) := hkd
  have HNE : Hid (∀ b off, ca = some ⟨b, off, none⟩ → b ≠ B) := hne
  have hBw := hc.lt
  have hd0 : ((d + 1 : Nat) : Int) ≠ 0 := by omega
  have hd1 : (((d + 1 : Nat) : Int) == 0) = false := by rw [beq_eq_false_iff_ne]; exact hd0
  clear ih hin hsm hkd hne
  go_enter Tryz.func124, Tryz.ntmps124
  go_wp2_with fail
  refine (zbe _ B a len cap 4 (by omega) (by omega) hc).mono ?_
  rintro e w1 ⟨b1, rfl, hc1, hg1⟩
  rcases b1 with _ | _
  rotate_left
  ·
   clear HIH HIN HSM HKD HNE
   by_cases hap : 0 < args
   ·
    go_wp2_with fail
    refine (zbe _ B a len cap 2 (by omega) (by omega) hc1).mono ?_
    rintro e wo ⟨bo, rfl, hco, hgo⟩
    have hgp := hg1.trans hgo
    rcases bo with _ | _
    ·
     go_wp2_with fail
     refine (zdB _ B a len cap hco).mono ?_
     rintro e wv ⟨xv, rfl, hv0, hv1, hcv, hgv⟩
     have hgw := hgp.trans hgv
     have hown := lit1 w wv ((1, xv, [], []) : Nd) hgw.size
     have hgz := hgw.trans (World.grownBy_alloc wv (.cells #[.int .i64 1, .int .i64 xv, .string ⟨#[]⟩, .string ⟨#[]⟩] 99) (some B))
     have hcz := hcv.kept (World.grownBy_alloc wv (.cells #[.int .i64 1, .int .i64 xv, .string ⟨#[]⟩, .string ⟨#[]⟩] 99) none) (by simp)
     simp only at hown
     go_wp2
     go_ret
     exact ⟨_, [((1, xv, [], []) : Nd)], rfl, hown, by simp, by intro m hm; rw [List.mem_singleton] at hm; subst hm; exact ⟨⟨⟨by simp, by simp⟩, ⟨by simp only; omega, by simp only; omega⟩⟩, by simp, by simp⟩, hcz, hgz⟩
    ·
     go_wp2_with fail
     refine (zaf _ B a len cap args (by omega) (by omega) hco).mono ?_
     rintro e wv ⟨xv, rfl, hv0, hv1, hcv, hgv⟩
     have hgw := hgp.trans hgv
     have hown := lit1 w wv ((2, xv, [], []) : Nd) hgw.size
     have hgz := hgw.trans (World.grownBy_alloc wv (.cells #[.int .i64 2, .int .i64 xv, .string ⟨#[]⟩, .string ⟨#[]⟩] 99) (some B))
     have hcz := hcv.kept (World.grownBy_alloc wv (.cells #[.int .i64 2, .int .i64 xv, .string ⟨#[]⟩, .string ⟨#[]⟩] 99) none) (by simp)
     simp only at hown
     go_wp2
     go_ret
     exact ⟨_, [((2, xv, [], []) : Nd)], rfl, hown, by simp, by intro m hm; rw [List.mem_singleton] at hm; subst hm; exact ⟨⟨⟨by simp, by simp⟩, ⟨by simp only; omega, by simp only; omega⟩⟩, by simp, by simp⟩, hcz, hgz⟩
   ·
    go_wp2_with fail
    refine (zdB _ B a len cap hc1).mono ?_
    rintro e wv ⟨xv, rfl, hv0, hv1, hcv, hgv⟩
    have hgw := hg1.trans hgv
    have hown := lit1 w wv ((1, xv, [], []) : Nd) hgw.size
    have hgz := hgw.trans (World.grownBy_alloc wv (.cells #[.int .i64 1, .int .i64 xv, .string ⟨#[]⟩, .string ⟨#[]⟩] 99) (some B))
    have hcz := hcv.kept (World.grownBy_alloc wv (.cells #[.int .i64 1, .int .i64 xv, .string ⟨#[]⟩, .string ⟨#[]⟩] 99) none) (by simp)
    simp only at hown
    go_wp2
    go_ret
    exact ⟨_, [((1, xv, [], []) : Nd)], rfl, hown, by simp, by intro m hm; rw [List.mem_singleton] at hm; subst hm; exact ⟨⟨⟨by simp, by simp⟩, ⟨by simp only; omega, by simp only; omega⟩⟩, by simp, by simp⟩, hcz, hgz⟩
  ·
   go_wp2_with fail
   refine (zaf _ B a len cap 4 (by omega) (by omega) hc1).mono ?_
   rintro e w2 ⟨x2, rfl, hx20, hx21, hc2, hg2⟩
   have hG2 := hg1.trans hg2
   have hB2 := hc2.lt
   have hw2 := hG2.size
   obtain ⟨i0, hi, hz0, hz1, hz2⟩ := info_parts zd0
   clear hc1 hg1 hg2
   go_wp2_with fail
   obtain ⟨X, hX⟩ : ∃ X, w2.alloc (.cells #[.int .i64 (3 + x2), .int .i64 0, .string ⟨#[]⟩, .string ⟨#[]⟩] 99) = X := ⟨_, rfl⟩
   obtain ⟨D, hD⟩ : ∃ D, w2.heap.size = D := ⟨_, rfl⟩
   have hAX : X.heap[D]? = some (.cells #[.int .i64 (3 + x2), .int .i64 0, .string ⟨#[]⟩, .string ⟨#[]⟩] 99) := by rw [← hX, ← hD]; exact heap_alloc_new w2 _
   have hcX : Cur X B a len cap := by rw [← hX]; exact hc2.kept (World.grownBy_alloc _ _ none) (by simp)
   have hGX : w.grownBy X (some B) := by rw [← hX]; exact hG2.trans (World.grownBy_alloc _ _ (some B))
   have hBX : BoxN X D ((3 + x2, 0, [], []) : Nd) := ⟨by simp [World.cell?, hAX], by simp [World.cell?, hAX], by simp [World.cell?, hAX], by simp [World.cell?, hAX], fun j => by simp [World.frozen?, hAX]⟩
   rw [hX, hD]
   rw [hD] at hB2 hw2
   clear hX hD hAX hc2 hG2
   refine (zbe X B a len cap 5 (by omega) (by omega) hcX).mono ?_
   rintro e w3 ⟨b3, rfl, hc3, hg3⟩
   have hG3 := hGX.trans hg3
   have hB3 := hBX.kept hg3 (by omega)
   clear hcX hGX hBX hg3
   go_upto_if 39 with fail
   go_cut [] from 39 (fun wx => Hid (∃ n : Nd, BoxN wx D n ∧ zbG n ∧ zbm n ≤ 3 ∧ Cur wx B a len cap ∧ w.grownBy wx (some B)))
   case first =>
    rcases b3 with _ | _
    ·
     go_wp2_with fail
     go_meet
     case rel => exact ⟨_, hB3, small0 _ (by omega) (by omega), kids0 _, hc3, hG3⟩
    ·
     obtain ⟨n0, n1, n2, n3, m⟩ := hB3
     have e30 := m 0
     go_wp2_with fail
     go_meet
     case rel => exact ⟨((7, 0, [], []) : Nd), box_kind (n := ((3 + x2, 0, [], []) : Nd)) ⟨n0, n1, n2, n3, m⟩ 7, small0 _ (by omega) (by omega), kids0 _, hc3.kept (zay _ _ _ _) (by simp; omega), hG3.andThen (zay _ _ _ _) (fun q e => Or.inl (by simp at e; omega))⟩
   case rest =>
    clear hB3 hc3 hG3
    go_upto_region 9 with fail
    go_cut [48] from 43 (fun v wx => ∃ b, v = .bool b ∧ (b = true → (0 : Int) < (cl : Int)) ∧ Hid (∃ n : Nd, BoxN wx D n ∧ zbG n ∧ zbm n ≤ 3 ∧ Cur wx B a len cap ∧ w.grownBy wx (some B)))
    case first =>
     by_cases hclp : (0 : Int) < (cl : Int)
     ·
      obtain ⟨n, hBn, hsn, hkn, hcn, hGn⟩ := hcut.out
      go_wp2_with fail
      refine (zbe _ B a len cap 4 (by omega) (by omega) hcn).mono ?_
      rintro e w4 ⟨b4, rfl, hc4, hg4⟩
      go_wp2_with fail
      go_meet
      case rel => exact ⟨_, rfl, fun _ => hclp, n, hBn.kept hg4 (by omega), hsn, hkn, hc4, hGn.trans hg4⟩
     ·
      go_wp2_with fail
      go_meet
      case rel => exact ⟨_, rfl, (fun h => by cases h), hcut⟩
    case rest =>
     obtain ⟨b4, rfl, hbc, hcut⟩ := hcut
     go_upto_if 48 with fail
     go_cut [] from 49 (fun wx => Hid (∃ n : Nd, BoxN wx D n ∧ zbG n ∧ zbm n ≤ 3 ∧ Cur wx B a len cap ∧ w.grownBy wx (some B)))
     case first =>
      rcases b4 with _ | _
      ·
       go_wp2_with fail
       go_meet
       case rel => exact hcut
      ·
       have hclp := hbc rfl
       obtain ⟨n4, hB4, hs4, hk4, hc4, hG4⟩ := hcut.out
       go_wp2_with fail
       refine (zaf _ B a len cap (cl : Int) (by omega) (by omega) hc4).mono ?_
       rintro e w5 ⟨x5, rfl, h50, h51, hc5, hg5⟩
       have hG5 := hG4.trans hg5
       have hB5 := hB4.kept hg5 (by omega)
       obtain ⟨j5, rfl⟩ : ∃ j5 : Nat, x5 = (j5 : Int) := Int.eq_ofNat_of_zero_le h50
       have hin5 : zag w5 ca cl calls := HIN.out.keep hG5.size (fun b off e hlt => hG5.block b hlt (fun e2 => HNE.out b off e (by injection e2)))
       obtain ⟨cb, co, hca, hcbl, hcells⟩ := hin5.at (by omega)
       subst hca
       obtain ⟨q0, q1, q2, q3⟩ := hcells j5 (by omega)
       have hsm5 := HSM.out j5
       have hkd5 := HKD.out j5
       obtain ⟨n5, hn5⟩ : ∃ n, calls.getD j5 nd0 = n := ⟨_, rfl⟩
       rw [hn5] at q0 q1 q2 q3 hsm5 hkd5
       obtain ⟨kd5, a5, p5, f5⟩ := n5
       simp only at q0 q1 q2 q3
       obtain ⟨n0, n1, n2, n3, m⟩ := hB5
       have e50 := m 0
       have e51 := m 1
       have e52 := m 2
       have e53 := m 3
       clear hn5 hcells hin5 hg5 hc4 hG4 hB4 hcut
       go_wp2_with fail
       go_meet
       case rel => exact ⟨((kd5, a5, p5, f5) : Nd), box_all ⟨n0, n1, n2, n3, m⟩ (kd5, a5, p5, f5), hsm5, hkd5, hc5.kept (zfe _ _ _ _ _ _) (by simp; omega), hG5.andThen (zfe _ _ _ _ _ _) (fun q e => Or.inl (by simp at e; omega))⟩
     case rest =>
      obtain ⟨n, hBn, hsn, hkn, hcn, hGn⟩ := hcut.out
      obtain ⟨kd, aa, p, f⟩ := n
      obtain ⟨n0, n1, n2, n3, _⟩ := hBn
      simp only at n0 n1 n2 n3
      clear hcut
      have HK : Hid (_) := fun W : World => zfm ((kd, aa, p, f) : Nd) W
      unfold zdc at HK
      simp only at HK
      obtain ⟨q, hq⟩ : ∃ q, zbm ((kd, aa, p, f) : Nd) = q := ⟨_, rfl⟩
      rw [hq] at HK hkn
      clear hq
      have hownT := lit1 w wc ((kd, aa, p, f) : Nd) hGn.size
      simp only at hownT
      have hcT := hcn.kept (World.grownBy_alloc wc (.cells #[.int .i64 kd, .int .i64 aa, .string ⟨p.toArray⟩, .string ⟨f.toArray⟩] 99) none) (by simp)
      have hGT := hGn.trans (World.grownBy_alloc wc (.cells #[.int .i64 kd, .int .i64 aa, .string ⟨p.toArray⟩, .string ⟨f.toArray⟩] 99) (some B))
      have HSO : Hid (∀ n ∈ [((kd, aa, p, f) : Nd)], zbG n) := by intro m hm; rw [List.mem_singleton] at hm; subst hm; exact hsn
      have hDl : D < wc.heap.size := World.block_lt_of_cell? _ ⟨D, 0, none⟩ n0
      go_wp2_with fail
      refine Calls.mono (HK.out _) ?_
      rintro e wk ⟨rfl, hbk⟩
      have hownk := za6 hownT hbk
      have hck : Cur wk B a len cap := hcT.below hbk
      have hGk : w.grownBy wk (some B) := hGT.andThen (Below.by hbk) (by simp)
      clear hownT hcT hGT hbk HK hGn hcn n0 n1 n2 n3
      go_wp2
      go_loopw [11, 12] (fun v kv wr => ∃ (ns : List Nd) (r : Int), kv = .int .i64 r ∧ r ≤ 3 ∧ ns.length ≤ 181 ∧ (0 ≤ r → (ns.length : Int) + 60 * r ≤ 181) ∧ Hid (∀ n ∈ ns, zbG n) ∧ Hid (wr.ownsRow w.heap.size 99 4 v ns.length (za5 ns)) ∧ Hid (Cur wr B a len cap) ∧ Hid (w.grownBy wr (some B))) (fun _ kv _ => (intOf kv).toNat)
      case atStart => exact ⟨[((kd, aa, p, f) : Nd)], q, rfl, hkn, by simp, (fun h => by simp only [List.length_singleton]; omega), HSO, hownk, hck, hGk⟩
      case round =>
       obtain ⟨ns, r, rfl, hr3, hl1, hl2, HSN, HV, hcr, hGr⟩ := hrel
       clear hownk hck hGk HSO
       by_cases hr0 : 0 < r
       ·
        have hin8 : zag wr ca cl calls := HIN.out.keep hGr.out.size (fun b off e hlt => hGr.out.block b hlt (fun e2 => HNE.out b off e (by injection e2)))
        have hC8 : Hid (_) := HIH.out wr B a len cap args ca cl cc calls (by omega) ha0 ha1 hcr.out hin8 hcl HSM.out HKD.out HNE.out
        clear hin8
        go_wp2_with fail
        refine Calls.mono hC8.out ?_
        rintro e w8 ⟨v8, ns8, rfl, hown8, hl8, hs8, hc8, hg8⟩
        have hvl := own_ge HV.out
        have hV8 := HV.out.kept hg8 (own_ne4 (fun q e1 e2 => by have := hvl q e1; omega))
        have hG8 := hGr.out.trans hg8
        obtain ⟨v9, w9, hrun, hown9, hg9, _⟩ := zal (P := Tryz.prog) w8 w.heap.size 97 97 99 i0 _ 4 48 Tryz.underlying97 hi hz0 hz1 hz2 rfl (by decide) _ _ _ hV8 v8 ns8.length (za5 ns8) (zgY hown8 (zc4 _)) (by unfold maxLen; omega) (by omega) hG8.size
        have hG9 : Hid (w.grownBy w9 (some B)) := hG8.andThen hg9 (fun q e => Or.inl (hvl q e))
        have hc9 : Hid (Cur w9 B a len cap) := hc8.kept hg9 (fun q e => by have := hvl q e; omega)
        have HV9 : Hid (w9.ownsRow w.heap.size 99 4 v9 (ns ++ ns8).length (za5 (ns ++ ns8))) := by exact (by rw [zbL, List.length_append]; exact hown9 : w9.ownsRow w.heap.size 99 4 v9 (ns ++ ns8).length (za5 (ns ++ ns8)))
        have HS9 : Hid (∀ n ∈ ns ++ ns8, zbG n) := fun m hm => (List.mem_append.1 hm).elim (HSN.out m) (hs8 m)
        have hl9 : (ns ++ ns8).length = ns.length + ns8.length := List.length_append
        clear hown9 hg9 hG8 hV8 hown8 hg8 hc8 hC8 hGr hcr HV HSN hs8 hvl
        go_wp2_with (at_builtin; refine za0 rfl (.tmp 63) (.tmp 69) 97 rfl _ _ _ rfl rfl hrun ?_; clear hrun)
        go_roundw
        case rel => exact ⟨ns ++ ns8, r - 1, by go_num, by omega, by rw [hl9]; have := hl2 (by omega); omega, (fun h => by rw [hl9]; have := hl2 (by omega); omega), HS9, HV9, hc9, hG9⟩
        case measure => simp [intOf]; omega
       ·
        obtain ⟨_, av, cv, rfl, _⟩ := zaL HV.out
        by_cases hbig : 60 < (ns.length : Int)
        ·
         have hownE := (World.ownsRow_lit (base := w.heap.size) (e := 99) (size := 4) wr #[] 0 hGr.out.size (by decide) rfl)
         have hcE := hcr.out.kept (World.grownBy_alloc wr (.cells #[] 99) none) (by simp)
         have hGE := hGr.out.trans (World.grownBy_alloc wr (.cells #[] 99) (some B))
         go_wp2
         go_ret
         exact ⟨_, rfl, [], hownE, by simp, (fun m hm => by cases hm), hcE, hGE⟩
        ·
         go_wp2
         go_ret
         exact ⟨_, rfl, ns, HV.out, by omega, HSN.out, hcr.out, hGr.out⟩

theorem zcS {ns : List Nd} (h : zbz ns) (j : Nat) : zbG (ns.getD j nd0) := by
 rw [List.getD_eq_getElem?_getD]
 rcases Nat.lt_or_ge j ns.length with hj | hj
 ·
  rw [List.getElem?_eq_getElem hj]; exact h _ (List.getElem_mem hj)
 ·
  rw [List.getElem?_eq_none hj]; exact ⟨zhX, by decide, by decide⟩
theorem zbz.short {ns : List Nd} (h : zbz ns) : zaX ns := fun j => ⟨Nat.le_trans (zcS h j).2.1 (by omega), Nat.le_trans (zcS h j).2.2 (by omega)⟩
theorem zbz.int {ns : List Nd} (h : zbz ns) : IntT ns := fun j => (zcS h j).1
set_option maxHeartbeats 2000000 in
set_option maxRecDepth 100000 in
theorem zfg (w : World) (B : Nat) (a : Option Addr) (len cap : Nat) (args : Int) (ca : Option Addr) (cl cc : Nat) (calls : List Nd) (ha0 : 0 ≤ args) (ha1 : args ≤ 1000) (hc : Cur w B a len cap) (hin : zag w ca cl calls) (hcl : cl ≤ 1000) (hsm : ∀ j, zbG (calls.getD j nd0)) (hkd : ∀ j, zbm (calls.getD j nd0) ≤ 3) (hne : ∀ b off, ca = some ⟨b, off, none⟩ → b ≠ B) :
 Calls Tryz.prog 102 #[.pointer (some ⟨B, 0, none⟩), .int .i64 args, .slice ca cl cc] w fun e w' => ∃ v ns, e = .returned v ∧ w'.ownsRow w.heap.size 99 4 v ns.length (za5 ns) ∧ zb9 ns = true ∧ zbz ns ∧ Cur w' B a len cap ∧ w.grownBy w' (some B) := by
 have HIN : Hid (zag w ca cl calls) := hin
 have HSM : Hid (∀ j, zbG (calls.getD j nd0)) := hsm
 have HKD : Hid (∀ j, zbm (calls.getD j nd0) ≤ 3) := hkd
 have HNE : Hid (∀ b off, ca = some ⟨b, off, none⟩ → b ≠ B) := hne
 clear hin hsm hkd hne
 go_enter Tryz.func102, Tryz.ntmps102
 go_wp2_with fail
 refine (zaf _ B a len cap 3 (by omega) (by omega) hc).mono ?_
 rintro e w1 ⟨x1, rfl, h10, h11, hc1, hg1⟩
 obtain ⟨d1, rfl⟩ : ∃ d1 : Nat, x1 = (d1 : Int) := Int.eq_ofNat_of_zero_le h10
 have hin1 : zag w1 ca cl calls := HIN.out.keep hg1.size (fun b off e hlt => hg1.block b hlt (fun e2 => HNE.out b off e (by injection e2)))
 have hC : Hid (_) := zke (1 + d1) w1 B a len cap args ca cl cc calls (by omega) ha0 ha1 hc1 hin1 hcl HSM.out HKD.out HNE.out
 rw [show ((1 + d1 : Nat) : Int) = 1 + (d1 : Int) by omega] at hC
 clear HIN HSM HKD HNE hin1 hc hc1
 go_wp2_with fail
 refine Calls.mono hC.out ?_
 rintro e w2 ⟨v2, ns, rfl, hown2, hl2, hs2, hc2, hg2⟩
 have hG2 := hg1.trans hg2
 obtain ⟨_, a2, c2, rfl, hin2⟩ := zaL hown2
 have hT : Hid (_) := zid a2 ns.length c2 ns w2 hin2 hs2.short (by omega)
 have hown3 := zai hown2 hg1.size
 clear hC hg1 hg2 hown2 hin2
 go_wp2_with fail
 refine Calls.mono hT.out ?_
 rintro e w4 ⟨rfl, hb4⟩
 have hown4 := za6 hown3 hb4
 have hc4 := hc2.below hb4
 have hG4 : w.grownBy w4 (some B) := hG2.andThen (Below.by hb4) (by simp)
 clear hT hb4 hown3 hc2 hG2
 rcases htb : zb9 ns with _ | _
 ·
  have hown := lit1 w w4 ((1, 7, [], []) : Nd) hG4.size
  have hgz := hG4.trans (World.grownBy_alloc w4 (.cells #[.int .i64 1, .int .i64 7, .string ⟨#[]⟩, .string ⟨#[]⟩] 99) (some B))
  have hcz := hc4.kept (World.grownBy_alloc w4 (.cells #[.int .i64 1, .int .i64 7, .string ⟨#[]⟩, .string ⟨#[]⟩] 99) none) (by simp)
  simp only at hown
  go_wp2
  go_ret
  exact ⟨_, [((1, 7, [], []) : Nd)], rfl, hown, by decide, by intro m hm; rw [List.mem_singleton] at hm; subst hm; exact ⟨⟨by decide, by decide⟩, by decide, by decide⟩, hcz, hgz⟩
 ·
  have HB : Hid (zb9 ns = true) := htb
  clear htb
  go_wp2
  go_ret
  exact ⟨_, ns, rfl, hown4, HB.out, hs2, hc4, hG4⟩
theorem zen {ns ms : List Nd} (h : zbz ns) (k : zbz ms) : zbz (ns ++ ms) := fun n hn => (List.mem_append.1 hn).elim (h n) (k n)

def leT (a b : List UInt8) : Bool := Op.bytesLess a b || (a == b)
def zcJ (l : List (List UInt8)) : Bool := decide (∀ i, i < l.length - 1 → leT (l.getD (i + 1) []) (l.getD i []) = false)
theorem zep {l : List (List UInt8)} {j : Nat} (hj : l.length ≤ j + 1) (h : ∀ i, i < j → leT (l.getD (i + 1) []) (l.getD i []) = false) : zcJ l = true := decide_eq_true (fun i hi => h i (by omega))
theorem zfq {l : List (List UInt8)} {j : Nat} (hj : j + 1 < l.length) (h : leT (l.getD (j + 1) []) (l.getD j []) = true) : zcJ l = false := decide_eq_false (fun g => by rw [g j (by omega)] at h; cases h)
def zaE (l : List (List UInt8)) : Bool := decide (∀ i, i < l.length → zaz (l.getD i []) = true) && (decide (l.length ≤ 6) && zcJ l)
theorem zhc {l : List (List UInt8)} {j : Nat} (hj : j < l.length) (h : zaz (l.getD j []) = false) : zaE l = false := by
 unfold zaE
 rw [decide_eq_false (fun g => by rw [g j hj] at h; cases h)]; rfl
theorem zgp {l : List (List UInt8)} (h : ∀ i, i < l.length → zaz (l.getD i []) = true) : zaE l = (decide (l.length ≤ 6) && zcJ l) := by
 unfold zaE
 rw [decide_eq_true h]; rfl
abbrev Fn := List UInt8 × Int × List Nd
abbrev Pk := List UInt8 × List (List UInt8) × List Fn
def fn0 : Fn := ([], 0, [])
def funcB (f : Fn) : Bool := zaz f.1 && (inB f.2.1 0 3 && zb9 f.2.2)
def atGo (s : List UInt8) : List Fn → Nat → Int
 | [], _ => -1
 | f :: r, k => if f.1 = s then (k : Int) else atGo s r (k + 1)
def atV (fs : List Fn) (s : List UInt8) : Int := atGo s fs 0
def zhm (fs : List Fn) (i : Nat) : Prop := funcB (fs.getD i fn0) = true ∧ atV fs (fs.getD i fn0).1 = (i : Int)
instance (fs : List Fn) (i : Nat) : Decidable (zhm fs i) := by unfold zhm; infer_instance
def pkgB (p : Pk) : Bool := (zaz p.1 && (zaE p.2.1 && inB (p.2.2.length : Int) 1 8)) && decide (∀ i, i < p.2.2.length → zhm p.2.2 i)
set_option maxHeartbeats 2000000 in
set_option maxRecDepth 100000 in
theorem specRise (a : Option Addr) (len cap : Nat) (ts : List (List UInt8)) (w : World) (hin : zah w a len ts) (hlen : len ≤ 1048576) :
 Calls Tryz.prog 99 #[.slice a len cap] w fun e w' => e = .returned (.bool (zcJ ts)) ∧ Below w.heap.size w w' := by
 obtain rfl : ts.length = len := hin.1
 have HI : Hid (zah w a ts.length ts) := hin
 clear hin
 go_enter Tryz.func99, Tryz.ntmps99
 go_wp2
 go_loopw [3] (fun iv wr => ∃ j : Nat, iv = .int .i64 ((j : Int) + 1) ∧ j ≤ ts.length ∧ Hid (∀ i, i < j → leT (ts.getD (i + 1) []) (ts.getD i []) = false) ∧ Hid (zah wr a ts.length ts) ∧ Hid (Below w.heap.size w wr)) (fun iv _ => ts.length + 1 - (intOf iv).toNat)
 case atStart => exact ⟨0, rfl, by omega, (fun i hi => by omega), HI, Below.refl _ _⟩
 case round =>
  obtain ⟨j, rfl, hj, HA, HT, HB⟩ := hrel
  clear HI
  by_cases hlt : (j : Int) + 1 < (ts.length : Int)
  ·
   obtain ⟨b, off, rfl, hbl, c0⟩ := HT.out.2 j (by omega)
   obtain ⟨b', off', he, _, c1⟩ := HT.out.2 (j + 1) (by omega)
   simp only [Option.some.injEq, Addr.mk.injEq, and_true] at he
   obtain ⟨rfl, rfl⟩ := he
   obtain ⟨x, hx⟩ : ∃ x, ts.getD j [] = x := ⟨_, rfl⟩
   obtain ⟨y, hy⟩ : ∃ y, ts.getD (j + 1) [] = y := ⟨_, rfl⟩
   rw [hx] at c0
   rw [hy] at c1
   rcases hle : leT y x with _ | _
   ·
    have HA2 : Hid (∀ i, i < j + 1 → leT (ts.getD (i + 1) []) (ts.getD i []) = false) := fun i hi => by
     rcases Nat.lt_or_ge i j with h | h
     ·
      exact HA.out i h
     ·
      obtain rfl : i = j := by omega
      rw [hx, hy]; exact hle
    have HT2 : Hid (zah wr (some ⟨b, off, none⟩) ts.length ts) := HT.out
    unfold leT at hle
    clear HA HT hx hy
    go_wp2_with fail
    go_quiet (fail)
    go_wp2
    go_roundw
    case rel => exact ⟨j + 1, by go_num, by omega, HA2, HT2, HB.out.trans ⟨rfl, rfl, rfl, Nat.le_refl _, fun _ _ => rfl⟩⟩
    case measure => simp [intOf]; omega
   ·
    have HR : Hid (zcJ ts = false) := zfq (j := j) (by omega) (by rw [hx, hy]; exact hle)
    unfold leT at hle
    clear HA HT hx hy
    go_wp2_with fail
    go_quiet (fail)
    go_wp2
    go_ret
    exact ⟨by rw [HR.out]; rfl, HB.out.trans ⟨rfl, rfl, rfl, Nat.le_refl _, fun _ _ => rfl⟩⟩
  ·
   have HR : Hid (zcJ ts = true) := zep (j := j) (by omega) HA.out
   go_wp2
   go_ret
   exact ⟨by rw [HR.out]; rfl, HB.out⟩
set_option maxHeartbeats 2000000 in
set_option maxRecDepth 100000 in
theorem zgS (a : Option Addr) (len cap : Nat) (ts : List (List UInt8)) (w : World) (hin : zah w a len ts) (hlen : len ≤ 1048576) (hs : ∀ i, (ts.getD i []).length ≤ 1048576) :
 Calls Tryz.prog 66 #[.slice a len cap] w fun e w' => e = .returned (.bool (zaE ts)) ∧ Below w.heap.size w w' := by
 obtain rfl : ts.length = len := hin.1
 have HI : Hid (zah w a ts.length ts) := hin
 have HS : Hid (∀ i, (ts.getD i []).length ≤ 1048576) := hs
 clear hin hs
 go_enter Tryz.func66, Tryz.ntmps66
 go_wp2
 go_loopw [3] (fun iv wr => ∃ j : Nat, iv = .int .i64 (j : Int) ∧ j ≤ ts.length ∧ Hid (∀ i, i < j → zaz (ts.getD i []) = true) ∧ Hid (zah wr a ts.length ts) ∧ Hid (Below w.heap.size w wr)) (fun iv _ => ts.length - (intOf iv).toNat)
 case atStart => exact ⟨0, rfl, by omega, (fun i hi => by omega), HI, Below.refl _ _⟩
 case round =>
  obtain ⟨j, rfl, hj, HA, HT, HB⟩ := hrel
  clear HI
  by_cases hlt : (j : Int) < (ts.length : Int)
  ·
   obtain ⟨b, off, rfl, hbl, c0⟩ := HT.out.2 j (by omega)
   have hxl := HS.out j
   obtain ⟨x, hx⟩ : ∃ x, ts.getD j [] = x := ⟨_, rfl⟩
   rw [hx] at c0 hxl
   have hC : Hid (_) := zbR x wr hxl
   rcases hnb : zaz x with _ | _
   ·
    have HR : Hid (zaE ts = false) := zhc (j := j) (by omega) (by rw [hx]; exact hnb)
    rw [hnb] at hC
    clear HA HT hx hnb
    go_wp2_with (go_at_call 65; refine Calls.mono hC.out ?_; rintro e w1 ⟨rfl, rfl⟩)
    go_ret
    exact ⟨by rw [HR.out]; rfl, HB.out⟩
   ·
    have HA2 : Hid (∀ i, i < j + 1 → zaz (ts.getD i []) = true) := fun i hi => by
     rcases Nat.lt_or_ge i j with h | h
     ·
      exact HA.out i h
     ·
      obtain rfl : i = j := by omega
      rw [hx]; exact hnb
    rw [hnb] at hC
    clear HA hx hnb
    go_wp2_with (go_at_call 65; refine Calls.mono hC.out ?_; rintro e w1 ⟨rfl, rfl⟩)
    go_roundw
    case rel => exact ⟨j + 1, by go_num, by omega, HA2, HT, HB⟩
    case measure => simp [intOf]; omega
  ·
   have hall := zgp (l := ts) (fun i hi => HA.out i (by omega))
   by_cases h6 : (ts.length : Int) ≤ 6
   ·
    have HR : Hid (zaE ts = zcJ ts) := by
     exact (by rw [hall, decide_eq_true (show ts.length ≤ 6 by omega)]; rfl : zaE ts = zcJ ts)
    have hC : Hid (_) := specRise a ts.length cap ts wr HT.out hlen
    clear hall HA HT
    go_wp2_with (go_at_call 99; refine Calls.mono hC.out ?_; rintro e w1 ⟨rfl, hb1⟩)
    go_ret
    exact ⟨by rw [HR.out]; rfl, HB.out.trans (hb1.mono HB.out.size)⟩
   ·
    have HR : Hid (zaE ts = false) := by
     exact (by rw [hall, decide_eq_false (show ¬ ts.length ≤ 6 by omega)]; rfl : zaE ts = false)
    clear hall HA HT
    go_wp2
    go_ret
    exact ⟨by rw [HR.out]; rfl, HB.out⟩
end Go.Proofs.YtenaaneckobdpaaGreat
