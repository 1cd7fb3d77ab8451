/-
  Parts of one proof, one behind the other: Draw9, ErrI, TreeS6.
-/
import Derived.Test.YtdjglpcllcjcfaaDoorP24
import Derived.Test.YtdjglpcllcjcfaaDoorP21
import Derived.Test.YtdjglpcllcjcfaaDoorP23
import Derived.Test.YtdjglpcllcjcfaaDoorP2
import Derived.LaidEql
import Derived.Stop.Asserts
import Derived.RowKitTokens
import Derived.Test.YtdjglpcllcjcfaaDoorP9

/-! Chapter 9's draws. -/
namespace Go.Proofs.YtdjglpcllcjcfaaDoor
open Go.RowKit

/-- A node that is told of. -/
def Nd9 (n : Nd) : Prop := IntN n ∧ n.2.2.1.length ≤ 1048576 ∧ n.2.2.2.length ≤ 1048576
/-- A node's box. -/
structure NBox (Y : World) (N : Nat) (n : Nd) : Prop where
  c0 : Y.cell? ⟨N, 0, none⟩ = some (.int .i64 n.1)
  c1 : Y.cell? ⟨N, 1, none⟩ = some (.int .i64 n.2.1)
  c2 : Y.cell? ⟨N, 2, none⟩ = some (.string ⟨n.2.2.1.toArray⟩)
  c3 : Y.cell? ⟨N, 3, none⟩ = some (.string ⟨n.2.2.2.toArray⟩)
  fz : ∀ j, Y.frozen? ⟨N, j, none⟩ = false
theorem NBox.lt {Y : World} {N : Nat} {n : Nd} (h : NBox Y N n) : N < Y.heap.size := World.block_lt_of_cell? Y ⟨N, 0, none⟩ h.c0
theorem NBox.keep {Y Z : World} {N : Nat} {n : Nd} (h : NBox Y N n) (hb : Z.heap[N]? = Y.heap[N]?) : NBox Z N n :=
  ⟨(World.cell?_of_block (a := ⟨N, 0, none⟩) hb).trans h.c0, (World.cell?_of_block (a := ⟨N, 1, none⟩) hb).trans h.c1, (World.cell?_of_block (a := ⟨N, 2, none⟩) hb).trans h.c2, (World.cell?_of_block (a := ⟨N, 3, none⟩) hb).trans h.c3, fun j => (World.frozen?_of_block (a := ⟨N, j, none⟩) hb).trans (h.fz j)⟩
theorem NBox.grown {Y Z : World} {N : Nat} {n : Nd} {row : Option Nat} (h : NBox Y N n) (hg : Y.grownBy Z row) (hne : some N ≠ row) : NBox Z N n := h.keep (hg.block N h.lt hne)
theorem NBox.new (V : World) (n : Nd) (t : TypeId) : NBox (V.alloc (.cells #[.int .i64 n.1, .int .i64 n.2.1, .string ⟨n.2.2.1.toArray⟩, .string ⟨n.2.2.2.toArray⟩] t)) V.heap.size n := by
  obtain ⟨⟨h0, h1, h2, h3⟩, _⟩ := node_new V (.int .i64 n.1) (.int .i64 n.2.1) (.string ⟨n.2.2.1.toArray⟩) (.string ⟨n.2.2.2.toArray⟩) t
  exact ⟨h0, h1, h2, h3, fun j => World.frozen?_alloc_at _ _ _ _ rfl⟩
theorem NBox.put {Y : World} {N : Nat} {n : Nd} (h : NBox Y N n) (m : Nd) : ∃ Z, (((Y.setCell ⟨N, 0, none⟩ (.int .i64 m.1)).setCell ⟨N, 1, none⟩ (.int .i64 m.2.1)).setCell ⟨N, 2, none⟩ (.string ⟨m.2.2.1.toArray⟩)).setCell ⟨N, 3, none⟩ (.string ⟨m.2.2.2.toArray⟩) = Z ∧ NBox Z N m ∧ Y.grownBy Z (some N) := by
  refine ⟨_, rfl, ⟨?_, ?_, ?_, ?_, fun j => ?_⟩, (((grown_set Y N 0 _).trans (grown_set _ N 1 _)).trans (grown_set _ N 2 _)).trans (grown_set _ N 3 _)⟩
  · exact (World.cell?_setCell_other _ _ _ _ (by simp)).trans ((World.cell?_setCell_other _ _ _ _ (by simp)).trans ((World.cell?_setCell_other _ _ _ _ (by simp)).trans (World.cell?_setCell_same _ _ _ h.c0)))
  · exact (World.cell?_setCell_other _ _ _ _ (by simp)).trans ((World.cell?_setCell_other _ _ _ _ (by simp)).trans (World.cell?_setCell_same _ _ _ ((World.cell?_setCell_other _ _ _ _ (by simp)).trans h.c1)))
  · exact (World.cell?_setCell_other _ _ _ _ (by simp)).trans (World.cell?_setCell_same _ _ _ ((World.cell?_setCell_other _ _ _ _ (by simp)).trans ((World.cell?_setCell_other _ _ _ _ (by simp)).trans h.c2)))
  · exact World.cell?_setCell_same _ _ _ ((World.cell?_setCell_other _ _ _ _ (by simp)).trans ((World.cell?_setCell_other _ _ _ _ (by simp)).trans ((World.cell?_setCell_other _ _ _ _ (by simp)).trans h.c3)))
  · exact (World.frozen?_setCell ..).trans ((World.frozen?_setCell ..).trans ((World.frozen?_setCell ..).trans ((World.frozen?_setCell ..).trans (h.fz j))))
theorem fn9_at {V Y : World} {B k : Nat} (hg : (V.alloc (.cells #[.string ⟨#[102]⟩, .string ⟨#[103]⟩, .string ⟨#[104]⟩, .string ⟨#[109, 97, 105, 110]⟩] 9)).grownBy Y (some B)) (hB : B < V.heap.size) (hk : k < 4) : ∃ fn : List UInt8, fn.length ≤ 9 ∧ Y.cell? ⟨V.heap.size, k, none⟩ = some (.string ⟨fn.toArray⟩) := by
  have ho := World.ownsRow_lit (base := V.heap.size) (e := 9) (size := 1) V #[.string ⟨#[102]⟩, .string ⟨#[103]⟩, .string ⟨#[104]⟩, .string ⟨#[109, 97, 105, 110]⟩] 4 (Nat.le_refl _) (by decide) rfl
  have ho2 := own_grown ho hg (fun k e => by injection e with e; omega)
  have h := World.ownsRow.cellAt ho2 k (by omega)
  match k, hk with
  | 0, _ => exact ⟨[102], by simp, h⟩
  | 1, _ => exact ⟨[103], by simp, h⟩
  | 2, _ => exact ⟨[104], by simp, h⟩
  | 3, _ => exact ⟨[109, 97, 105, 110], by simp, h⟩

/-- What DrawCallCode holds behind its project: the cursor, the node. -/
structure S9 (Y w2 : World) (B N : Nat) (a : Option Addr) (len cap : Nat) (n : Nd) : Prop where
  g : w2.grownBy Y (some B)
  cur : Cur Y B a len cap
  nb : NBox Y N n
  nl : w2.heap.size ≤ N
  bl : B < w2.heap.size
  ok : Nd9 n
section
variable {Y Z w2 : World} {B N : Nat} {a : Option Addr} {len cap : Nat} {n : Nd}
theorem S9.next (h : S9 Y w2 B N a len cap n) (hg : Y.grownBy Z (some B)) (hc : Cur Z B a len cap) : S9 Z w2 B N a len cap n :=
  ⟨h.g.trans hg, hc, h.nb.grown hg (fun e => by injection e with e; have := h.nl; have := h.bl; omega), h.nl, h.bl, h.ok⟩
theorem S9.alloc (h : S9 Y w2 B N a len cap n) (o : Obj) : S9 (Y.alloc o) w2 B N a len cap n :=
  ⟨h.g.trans (World.grownBy_alloc Y o _), h.cur.kept (World.grownBy_alloc Y o none) (by simp), h.nb.grown (World.grownBy_alloc Y o none) (by simp), h.nl, h.bl, h.ok⟩
theorem S9.drew (h : S9 Y w2 B N a len cap n) : S9 Y.drew w2 B N a len cap n :=
  ⟨h.g.trans (grown_drew Y _), h.cur.drew, h.nb.grown (grown_drew Y none) (by simp), h.nl, h.bl, h.ok⟩
theorem S9.put (h : S9 Y w2 B N a len cap n) (m : Nd) (hm : Nd9 m) : ∃ Z, (((Y.setCell ⟨N, 0, none⟩ (.int .i64 m.1)).setCell ⟨N, 1, none⟩ (.int .i64 m.2.1)).setCell ⟨N, 2, none⟩ (.string ⟨m.2.2.1.toArray⟩)).setCell ⟨N, 3, none⟩ (.string ⟨m.2.2.2.toArray⟩) = Z ∧ S9 Z w2 B N a len cap m := by
  obtain ⟨Z, hZ, hn, hg⟩ := h.nb.put m
  have hnl := h.nl
  have hbl := h.bl
  refine ⟨Z, hZ, ⟨⟨hg.os.trans h.g.os, hg.tape.trans h.g.tape, hg.output.trans h.g.output, Nat.le_trans h.g.size hg.size, fun k hk hne => (hg.block k (Nat.lt_of_lt_of_le hk h.g.size) (fun e => by injection e with e; omega)).trans (h.g.block k hk hne)⟩, h.cur.kept hg (fun k e => by injection e with e; omega), hn, h.nl, h.bl, hm⟩⟩
end

/-- A package of a project that was drawn stays, whatever lies ahead of it. -/
theorem pk_stays {w2 : World} {c b off n lc : Nat} {ps : List Pk} (hok : ∀ Y, Agree w2 Y c → PkgsOk Y (some ⟨b, off, none⟩) n lc ps) (hb : c ≤ b) {j : Nat} (hj : j < n) :
    ∃ ia il ic fa fl fc, ∀ Y, Agree w2 Y c → Y.cell? ⟨b, off + j * 3, none⟩ = some (.string ⟨(ps.getD j pk0).1.toArray⟩) ∧ Y.cell? ⟨b, off + j * 3 + 1, none⟩ = some (.slice ia il ic) ∧ Y.cell? ⟨b, off + j * 3 + 2, none⟩ = some (.slice fa fl fc) ∧ PkOk Y (ps.getD j pk0).1 ia il ic fa fl fc (ps.getD j pk0).2.1 (ps.getD j pk0).2.2 := by
  obtain ⟨b0, off0, he, hlt, c0, ia, il, ic, fa, fl, fc, c1, c2, _⟩ := (hok w2 (Agree.refl _ _)).each j hj
  simp only [Option.some.injEq, Addr.mk.injEq, and_true] at he
  obtain ⟨rfl, rfl⟩ := he
  refine ⟨ia, il, ic, fa, fl, fc, fun Y hg => ?_⟩
  have hbk : Y.heap[b]? = w2.heap[b]? := hg.2 b hb hlt
  have d0 := (World.cell?_of_block (a := ⟨b, off + j * 3, none⟩) hbk).trans c0
  have d1 := (World.cell?_of_block (a := ⟨b, off + j * 3 + 1, none⟩) hbk).trans c1
  have d2 := (World.cell?_of_block (a := ⟨b, off + j * 3 + 2, none⟩) hbk).trans c2
  obtain ⟨b1, off1, he, _, _, ia', il', ic', fa', fl', fc', c1', c2', hk⟩ := (hok Y hg).each j hj
  simp only [Option.some.injEq, Addr.mk.injEq, and_true] at he
  obtain ⟨rfl, rfl⟩ := he
  rw [d1] at c1'
  rw [d2] at c2'
  simp only [Option.some.injEq, Value.slice.injEq] at c1' c2'
  obtain ⟨rfl, rfl, rfl⟩ := c1'
  obtain ⟨rfl, rfl, rfl⟩ := c2'
  exact ⟨d0, d1, d2, hk⟩
/-- A node of a function of a package, told of. -/
theorem nd9_of {Y : World} {nm : List UInt8} {ia : Option Addr} {il ic : Nat} {fa : Option Addr} {fl fc : Nat} {ims : List (List UInt8)} {fs : List Fn} (h : PkOk Y nm ia il ic fa fl fc ims fs) (i k : Nat) : Nd9 ((fs.getD i fn0).2.2.getD k nd0) := ⟨(h.int i).2 k, (h.fs i).2.2 k⟩

/-- .. and the package that it looks into. -/
structure T9 (Y w2 : World) (B N P : Nat) (a : Option Addr) (len cap : Nat) (n : Nd) (u0 u1 u2 : Value) : Prop where
  s : S9 Y w2 B N a len cap n
  p : Box3 Y P u0 u1 u2
  np : N < P
section
variable {Y Z w2 : World} {B N P : Nat} {a : Option Addr} {len cap : Nat} {n : Nd} {u0 u1 u2 : Value}
theorem T9.next (h : T9 Y w2 B N P a len cap n u0 u1 u2) (hg : Y.grownBy Z (some B)) (hc : Cur Z B a len cap) : T9 Z w2 B N P a len cap n u0 u1 u2 :=
  ⟨h.s.next hg hc, h.p.grown hg (fun e => by injection e with e; have := h.s.nl; have := h.s.bl; have := h.np; omega), h.np⟩
theorem T9.alloc (h : T9 Y w2 B N P a len cap n u0 u1 u2) (o : Obj) : T9 (Y.alloc o) w2 B N P a len cap n u0 u1 u2 :=
  ⟨h.s.alloc o, h.p.grown (World.grownBy_alloc Y o none) (by simp), h.np⟩
theorem T9.put (h : T9 Y w2 B N P a len cap n u0 u1 u2) (m : Nd) (hm : Nd9 m) : ∃ Z, (((Y.setCell ⟨N, 0, none⟩ (.int .i64 m.1)).setCell ⟨N, 1, none⟩ (.int .i64 m.2.1)).setCell ⟨N, 2, none⟩ (.string ⟨m.2.2.1.toArray⟩)).setCell ⟨N, 3, none⟩ (.string ⟨m.2.2.2.toArray⟩) = Z ∧ T9 Z w2 B N P a len cap m u0 u1 u2 := by
  obtain ⟨Z, hZ, hs⟩ := h.s.put m hm
  obtain ⟨Z2, hZ2, _, hg⟩ := h.s.nb.put m
  have e : Z2 = Z := hZ2.symm.trans hZ
  subst e
  exact ⟨Z2, hZ, hs, h.p.grown hg (fun e => by injection e with e; have := h.np; omega), h.np⟩
end
/-- What DrawCallCode leaves. -/
def Drawn9 (w w' : World) (v : Value) (s : List UInt8) (at_ : Int) (n : Nd) : Prop := s.length ≤ 1048576 ∧ (-1 ≤ at_ ∧ at_ ≤ 6) ∧ Nd9 n ∧ Drawn8 w w' v

/-- The end of it. -/
theorem end9 {w w2 w9 Z : World} {B C N : Nat} {a : Option Addr} {len cap : Nat} {la : Option Addr} {n lc : Nat} {ps : List Pk} {s2 : List UInt8} {x : Int} {m : Nd} (hok : ∀ Y, Agree w2 Y C → PkgsOk Y la n lc ps) (hB2 : Below w.heap.size w w2) (hn4 : n ≤ 4) (hs : s2.length ≤ 1048576) (hx : -1 ≤ x ∧ x ≤ 6) (h9 : S9 w9 w2 B N a len cap m) (hBC : B < C) (hRC : w.heap.size < C) (hg : w9.grownBy Z (some w.heap.size)) (hn : NBox Z w.heap.size m) (hBw : w.heap.size < B) :
    Drawn9 w Z (.slice la n lc) s2 x m ∧ NBox Z w.heap.size m := by
  refine ⟨⟨hs, hx, h9.ok, la, n, lc, ps, rfl, hn4, hok Z ⟨Nat.le_trans h9.g.size hg.size, fun k hk hkl => (hg.block k (Nat.lt_of_lt_of_le hkl h9.g.size) (fun e => by injection e with e; omega)).trans (h9.g.block k hkl (fun e => by injection e with e; omega))⟩, ?_⟩, hn⟩
  have h1 := hB2.grown h9.g hB2.size (fun k e => by injection e with e; omega)
  exact h1.grown hg h1.size (fun k e => by injection e with e; omega)

set_option maxHeartbeats 8000000 in
set_option maxRecDepth 100000 in
theorem drawCallCode9 (w : World) (a : Option Addr) (len cap : Nat) (hl : len ≤ 4096) (hc : Code w w.heap.size a len) :
    Calls Tryd.prog 7 #[.slice a len cap] w fun e w' => ∃ v s at_ n, e = .returned (.tuple #[v, .string ⟨(s : List UInt8).toArray⟩, .int .i64 at_, nodeVal n]) ∧ Drawn9 w w' v s at_ n := by
  have hg0 := World.grownBy_alloc w (.cells #[.int .i64 0, .int .i64 0, .string ⟨#[]⟩, .string ⟨#[]⟩] 26) none
  have hR0 : NBox (w.alloc (.cells #[.int .i64 0, .int .i64 0, .string ⟨#[]⟩, .string ⟨#[]⟩] 26)) w.heap.size nd0 := NBox.new w nd0 _
  obtain ⟨W0, hW0⟩ : ∃ W0, w.alloc (.cells #[.int .i64 0, .int .i64 0, .string ⟨#[]⟩, .string ⟨#[]⟩] 26) = W0 := ⟨_, rfl⟩
  have hs0 : W0.heap.size = w.heap.size + 1 := by rw [← hW0]; simp
  rw [hW0] at hg0 hR0
  have hcode := code_grown hc hg0
  have HR0 : Hid (NBox W0 w.heap.size nd0) := hR0
  have HB0 : Hid (Below w.heap.size w W0) := (Below.refl _ _).grown hg0 (Nat.le_refl _) (by simp)
  clear hg0 hR0 hc
  go_enter Tryd.func7, Tryd.ntmps7
  go_wp2_with fail
  refine (drawNew _ a len cap hl hcode).mono ?_
  rintro e w1 ⟨rfl, hc1, hg1⟩
  rw [hs0] at hc1
  have hB1 : Below w.heap.size w w1 := HB0.out.grown hg1 HB0.out.size (fun k e => by cases e)
  have hR1 := HR0.out.grown hg1 (by simp)
  obtain ⟨B, hBe⟩ : ∃ B, w.heap.size + 1 = B := ⟨_, rfl⟩
  rw [hBe] at hc1
  clear hcode hg1 HR0 HB0
  go_wp2_with fail
  refine (drawAny8 w1 B a len cap hc1).mono ?_
  rintro e w2 ⟨v, rfl, la, n, lc, ps, rfl, ⟨hn1, hn4, hlb⟩, hok, hc2, hg2⟩
  have hB2 := hB1.grown hg2 hB1.size (fun k e => by injection e with e; omega)
  have HR2 : Hid (NBox w2 w.heap.size nd0) := hR1.grown hg2 (fun e => by injection e with e; omega)
  have hB1l := hc1.lt
  obtain ⟨C, hCe⟩ : ∃ C, w1.heap.size = C := ⟨_, rfl⟩
  rw [hCe] at hok hlb hB1l
  have HOK : Hid (∀ Y, Agree w2 Y C → PkgsOk Y la n lc ps) := hok
  have HLB : Hid (∀ b off, la = some ⟨b, off, none⟩ → C ≤ b) := hlb
  have HB2 : Hid (Below w.heap.size w w2) := hB2
  have hbl := hc2.lt
  clear hok hlb hg2 hc1 hR1 hB1 hB2 hCe
  go_wp2_with fail
  refine (drawBelow w2 B a len cap 4 (by omega) (by omega) hc2).mono ?_
  rintro e w3 ⟨A, rfl, hA0, hA1, hc3, hg3⟩
  go_wp2_with fail
  refine (drawName8 w3 B a len cap hc3).mono ?_
  rintro e w4 ⟨pk, rfl, hpk, hc4, hg4⟩
  have hB4 := hc4.lt
  have hc4a := hc4.kept (World.grownBy_alloc w4 (.cells #[.string ⟨#[102]⟩, .string ⟨#[103]⟩, .string ⟨#[104]⟩, .string ⟨#[109, 97, 105, 110]⟩] 9) none) (by simp)
  go_wp2_with fail
  refine (drawBelow _ B a len cap 4 (by omega) (by omega) hc4a).mono ?_
  rintro e w5 ⟨x, rfl, hx0, hx1, hc5, hg5⟩
  obtain ⟨k, rfl⟩ : ∃ k : Nat, x = (k : Int) := Int.eq_ofNat_of_zero_le hx0
  obtain ⟨fn, hfn, e0⟩ := fn9_at hg5 hB4 (show k < 4 by omega)
  have hnd : Nd9 (8, A, pk, fn) := ⟨⟨⟨by simp, by simp⟩, by simp only; omega⟩, by simp only; omega, by simp only; omega⟩
  have hg25 : w2.grownBy w5 (some B) := ((hg3.trans hg4).trans (World.grownBy_alloc w4 _ (some B))).trans hg5
  have hs5 : S9 (w5.alloc (.cells #[.int .i64 8, .int .i64 A, .string ⟨pk.toArray⟩, .string ⟨fn.toArray⟩] 26)) w2 B w5.heap.size a len cap (8, A, pk, fn) := ⟨hg25.trans (World.grownBy_alloc w5 _ _), hc5.kept (World.grownBy_alloc w5 _ none) (by simp), NBox.new w5 (8, A, pk, fn) _, hg25.size, hbl, hnd⟩
  obtain ⟨W5, hW5⟩ : ∃ W5, w5.alloc (.cells #[.int .i64 8, .int .i64 A, .string ⟨pk.toArray⟩, .string ⟨fn.toArray⟩] 26) = W5 := ⟨_, rfl⟩
  obtain ⟨N, hN⟩ : ∃ N, w5.heap.size = N := ⟨_, rfl⟩
  rw [hW5, hN] at hs5
  clear hc2 hc3 hg3 hc4 hg4 hB4 hc4a hc5 hg5 hnd hg25 hx0
  go_wp2_with fail
  refine (drawName8 W5 B a len cap hs5.cur).mono ?_
  rintro e w6 ⟨s, rfl, hsl, hc6, hg6⟩
  have hs6 := hs5.next hg6 hc6
  clear hs5 hc6 hg6 hW5 e0
  go_wp2_with fail
  refine (drawOnce w6 B a len cap 2 (by omega) (by omega) hs6.cur).mono ?_
  rintro e w7 ⟨bb, rfl, hc7, hg7⟩
  have HS7 : Hid (S9 w7 w2 B N a len cap (8, A, pk, fn)) := hs6.next hg7 hc7
  clear hs6 hc7 hg7
  go_upto_if 31 with fail
  go_cut [9] from 10 (fun fv wx => ∃ (s2 : List UInt8) (m : Nd), fv = .string ⟨s2.toArray⟩ ∧ s2.length ≤ 1048576 ∧ Hid (S9 wx w2 B N a len cap m))
  case first =>
    rcases bb with _ | _
    · go_wp2_with fail
      go_meet
      case rel => exact ⟨s, (8, A, pk, fn), rfl, by omega, HS7⟩
    · go_wp2_with fail
      refine (drawBelow w7 B a len cap (n : Int) (by omega) (by omega) HS7.out.cur).mono ?_
      rintro e w8 ⟨x, rfl, hx0, hx1, hc8, hg8⟩
      obtain ⟨j, rfl⟩ : ∃ j : Nat, x = (j : Int) := Int.eq_ofNat_of_zero_le hx0
      have hj : j < n := by omega
      have hs8 := HS7.out.next hg8 hc8
      have hok8 := HOK.out w8 (Agree.of_grown hs8.g hB1l)
      obtain ⟨b, off, rfl, -⟩ := hok8.each j hj
      obtain ⟨ia, il, ic, fa, fl, fc, hst⟩ := pk_stays HOK.out (HLB.out b off rfl) hj
      obtain ⟨c0, c1, c2, hpk8⟩ := hst w8 (Agree.of_grown hs8.g hB1l)
      obtain ⟨p, hpe⟩ : ∃ p, ps.getD j pk0 = p := ⟨_, rfl⟩
      rw [hpe] at c0 hpk8 hst
      obtain ⟨nm, ims, fs⟩ := p
      simp only at c0 hpk8 hst
      have HST : Hid (∀ Y, w2.grownBy Y (some B) → PkOk Y nm ia il ic fa fl fc ims fs) := fun Y h1 => (hst Y (Agree.of_grown h1 hB1l)).2.2.2
      have hnml := hpk8.nm
      have hfl := hpk8.fl
      have t0 : T9 (w8.alloc (.cells #[.string ⟨nm.toArray⟩, .slice ia il ic, .slice fa fl fc] 33)) w2 B N w8.heap.size a len cap (8, A, pk, fn) (.string ⟨nm.toArray⟩) (.slice ia il ic) (.slice fa fl fc) := ⟨hs8.alloc _, (Box3.new w8 _ _ _ _).1, hs8.nb.lt⟩
      obtain ⟨X, hX⟩ : ∃ X, w8.alloc (.cells #[.string ⟨nm.toArray⟩, .slice ia il ic, .slice fa fl fc] 33) = X := ⟨_, rfl⟩
      obtain ⟨P, hP⟩ : ∃ P, w8.heap.size = P := ⟨_, rfl⟩
      rw [hX, hP] at t0
      have HT0 : Hid (T9 X w2 B N P a len cap (8, A, pk, fn) (.string ⟨nm.toArray⟩) (.slice ia il ic) (.slice fa fl fc)) := t0
      have hjz : (j : Int) < (n : Int) := by omega
      have q0 := t0.p.c0
      have q1 := t0.p.c1
      have q2 := t0.p.c2
      clear hs8 hok8 hst hpk8 hpe hc8 hg8 HS7 t0 hx0
      go_wp2
      clear c0 c1 c2 q0 q1 q2 hX
      go_loopw [11] (fun iv wx => ∃ (i : Nat) (m : Nd), iv = .int .i64 (i : Int) ∧ i ≤ fl ∧ Hid (T9 wx w2 B N P a len cap m (.string ⟨nm.toArray⟩) (.slice ia il ic) (.slice fa fl fc))) (fun iv _ => fl - (intOf iv).toNat)
      case atStart => exact ⟨0, _, rfl, by omega, HT0⟩
      case round =>
        obtain ⟨i, m, rfl, hi, HT⟩ := hrel
        clear HT0
        have p2 := HT.out.p.c2
        by_cases hlt : (i : Int) < (fl : Int)
        · have hi2 : i < fl := by omega
          go_wp2
          clear p2
          go_loopw [12] (fun kv wx => ∃ (k : Nat) (m : Nd), kv = .int .i64 (k : Int) ∧ k ≤ (fs.getD i fn0).2.2.length ∧ Hid (T9 wx w2 B N P a len cap m (.string ⟨nm.toArray⟩) (.slice ia il ic) (.slice fa fl fc))) (fun kv _ => (fs.getD i fn0).2.2.length - (intOf kv).toNat)
          case atStart => exact ⟨0, m, rfl, by omega, HT⟩
          case round =>
            obtain ⟨k, m, rfl, hk, HT⟩ := hrel
            have p2 := HT.out.p.c2
            have hpk := HST.out wr HT.out.s.g
            obtain ⟨bf, of, rfl, hbf, _, _, ta, tl, tc, r2, _, hnd⟩ := hpk.f.2 i hi2
            have hnd9 := nd9_of hpk i k
            have htl9 := (hpk.fs i).2.1
            obtain ⟨t, ht⟩ : ∃ t, (fs.getD i fn0).2.2 = t := ⟨_, rfl⟩
            rw [ht] at hnd hnd9 hk htl9
            obtain rfl : t.length = tl := hnd.1
            by_cases hkl : (k : Int) < (t.length : Int)
            · have hk2 : k < t.length := by omega
              obtain ⟨bn, on, rfl, _, m0, m1, m2, m3⟩ := hnd.2 k hk2
              obtain ⟨z, hz⟩ : ∃ z, t.getD k nd0 = z := ⟨_, rfl⟩
              rw [hz] at m0 m1 m2 m3 hnd9
              obtain ⟨zk, zA, zp, zf⟩ := z
              simp only at m0 m1 m2 m3
              obtain ⟨⟨x0, x1, x2, x3⟩, _⟩ := node_new wr (.int .i64 zk) (.int .i64 zA) (.string ⟨zp.toArray⟩) (.string ⟨zf.toArray⟩) 26
              have htX := HT.out.alloc (.cells #[.int .i64 zk, .int .i64 zA, .string ⟨zp.toArray⟩, .string ⟨zf.toArray⟩] 26)
              obtain ⟨X9, hX9⟩ : ∃ X9, wr.alloc (.cells #[.int .i64 zk, .int .i64 zA, .string ⟨zp.toArray⟩, .string ⟨zf.toArray⟩] 26) = X9 := ⟨_, rfl⟩
              rw [hX9] at x0 x1 x2 x3 htX
              obtain ⟨E, hE⟩ : ∃ E, wr.heap.size = E := ⟨_, rfl⟩
              rw [hE] at x0 x1 x2 x3
              have hEN : N < E ∧ B < E := by
                have h1 := HT.out.s.nb.lt
                have h2 := HT.out.s.nl
                have h3 := HT.out.s.bl
                omega
              have HX : Hid (T9 X9 w2 B N P a len cap m (.string ⟨nm.toArray⟩) (.slice ia il ic) (.slice (some ⟨bf, of, none⟩) fl fc)) := htX
              have HND : Hid (Nd9 (zk, zA, zp, zf)) := hnd9
              clear hpk hnd htX hz hnd9
              by_cases hk8 : zk = 8
              · subst hk8
                go_wp2_with fail
                refine (drawOnce X9 B a len cap 3 (by omega) (by omega) HX.out.s.cur).mono ?_
                rintro e w9 ⟨b9, rfl, hc9, hg9⟩
                have ht9 := HX.out.next hg9 hc9
                have HT9 : Hid (T9 w9 w2 B N P a len cap m (.string ⟨nm.toArray⟩) (.slice ia il ic) (.slice (some ⟨bf, of, none⟩) fl fc)) := ht9
                have hEX : E < X9.heap.size := World.block_lt_of_cell? X9 ⟨E, 0, none⟩ x0
                have hbk : w9.heap[E]? = X9.heap[E]? := hg9.block E hEX (fun e => by injection e with e; omega)
                have y0 := (World.cell?_of_block (a := ⟨E, 0, none⟩) hbk).trans x0
                have y1 := (World.cell?_of_block (a := ⟨E, 1, none⟩) hbk).trans x1
                have y2 := (World.cell?_of_block (a := ⟨E, 2, none⟩) hbk).trans x2
                have y3 := (World.cell?_of_block (a := ⟨E, 3, none⟩) hbk).trans x3
                rcases b9 with _ | _
                · clear hc9 hg9 ht9 hbk
                  go_wp2
                  go_roundw
                  case rel => exact ⟨k + 1, m, by go_num, by rw [ht]; omega, HT9⟩
                  case measure => rw [ht]; simp [intOf]; omega
                · obtain ⟨Z, hZ, htZ⟩ := ht9.put (8, zA, zp, zf) HND.out
                  simp only at hZ
                  have n0 := ht9.s.nb.c0
                  have n1 := ht9.s.nb.c1
                  have n2 := ht9.s.nb.c2
                  have n3 := ht9.s.nb.c3
                  have f0 := ht9.s.nb.fz 0
                  have f1 := ht9.s.nb.fz 1
                  have f2 := ht9.s.nb.fz 2
                  have f3 := ht9.s.nb.fz 3
                  have HTZ : Hid (T9 Z w2 B N P a len cap (8, zA, zp, zf) (.string ⟨nm.toArray⟩) (.slice ia il ic) (.slice (some ⟨bf, of, none⟩) fl fc)) := htZ
                  clear hc9 hg9 ht9 hbk htZ
                  go_wp2
                  go_roundw
                  case rel => exact ⟨k + 1, _, by go_num, by rw [ht]; omega, HTZ⟩
                  case measure => rw [ht]; simp [intOf]; omega
              · have hkb : (zk == 8) = false := beq_eq_false_iff_ne.2 hk8
                go_wp2
                go_roundw
                case rel => exact ⟨k + 1, m, by go_num, by rw [ht]; omega, HX⟩
                case measure => rw [ht]; simp [intOf]; omega
            · clear hpk hnd
              go_wp2
              go_roundw
              case rel => exact ⟨i + 1, m, by go_num, by omega, HT⟩
              case measure => simp [intOf]; omega
        · have HSm : Hid (S9 wr w2 B N a len cap m) := HT.out.s
          go_wp2
          go_meet
          case rel => exact ⟨nm, m, rfl, hnml, HSm⟩
  case rest =>
    obtain ⟨s2, m, rfl, hs2l, HS⟩ := hcut
    clear HS7
    have hRl : w.heap.size < C := by have := HR2.out.lt; omega
    have hR := HR2.out.grown HS.out.g (fun e => by injection e with e; omega)
    have r0 := hR.c0
    have r1 := hR.c1
    have r2 := hR.c2
    have r3 := hR.c3
    have f0 := hR.fz 0
    have f1 := hR.fz 1
    have f2 := hR.fz 2
    have f3 := hR.fz 3
    have n0 := HS.out.nb.c0
    have n1 := HS.out.nb.c1
    have n2 := HS.out.nb.c2
    have n3 := HS.out.nb.c3
    obtain ⟨mk, mA, mp, mf⟩ := m
    simp only at n0 n1 n2 n3
    clear hR
    go_wp2_with fail
    go_region_law (first | (go_simp; go_at_call 30; refine (drawFromG _ B a len cap (-1) 6 (by omega) (by omega) (by omega) HS.out.drew.cur).mono ?_; rintro e w9 ⟨x, rfl, hx0, hx1, hc9, hg9⟩; have hs9 := HS.out.drew.next hg9 hc9; have hR9 := HR2.out.grown hs9.g (fun e => by injection e with e; omega); have r09 := hR9.c0; have r19 := hR9.c1; have r29 := hR9.c2; have r39 := hR9.c3; have f09 := hR9.fz 0; have f19 := hR9.fz 1; have f29 := hR9.fz 2; have f39 := hR9.fz 3; have n09 := hs9.nb.c0; have n19 := hs9.nb.c1; have n29 := hs9.nb.c2; have n39 := hs9.nb.c3; simp only at n09 n19 n29 n39; obtain ⟨Z, hZ, hnZ, hgZ⟩ := hR9.put (mk, mA, mp, mf); simp only at hZ; have HEnd : Hid (Drawn9 w Z (.slice la n lc) s2 x (mk, mA, mp, mf) ∧ NBox Z w.heap.size (mk, mA, mp, mf)) := end9 HOK.out HB2.out hn4 hs2l ⟨hx0, hx1⟩ hs9 hB1l hRl hgZ hnZ (by omega); clear hs9 hR9 hc9 hg9 hnZ hgZ; dsimp only))
    all_goals
      have z0 := HEnd.out.2.c0
      have z1 := HEnd.out.2.c1
      have z2 := HEnd.out.2.c2
      have z3 := HEnd.out.2.c3
      simp only at z0 z1 z2 z3
      go_wp2
      refine bodyPost_ret (v := .tuple #[.slice la n lc, .string ⟨s2.toArray⟩, .int .i64 x, nodeVal (mk, mA, mp, mf)]) (by unfold nodeVal; simp [results, Tryd.results7, go_sem, z0, z1, z2, z3]) rfl ?_
      exact ⟨_, s2, x, (mk, mA, mp, mf), rfl, HEnd.out.1⟩

end Go.Proofs.YtdjglpcllcjcfaaDoor

/-! Errors of errors.New's make: what a package-level variable of them holds, and errors.Is of one at another (Go's own text walked). -/
namespace Go.Proofs.YtdjglpcllcjcfaaDoor
open Go.RowKit Go.Extern.Stop Go.Stop Go.Extern

/-- An error of errors.New's make, at a. -/
def sentV (a : Addr) : Value := .iface 167 (.pointer (some a))
/-- Its block bears no mark. -/
def SentAt (w : World) (a : Addr) : Prop := ∃ c t, w.heap[a.block]? = some (.cells c t (0, 0))
theorem SentAt.below {w w' : World} {a : Addr} (h : SentAt w a) (hb : Below w.heap.size w w') : SentAt w' a := by
  obtain ⟨c, t, e⟩ := h
  have hlt : a.block < w.heap.size := by
    rcases Nat.lt_or_ge a.block w.heap.size with h | h
    · exact h
    · rw [Array.getElem?_eq_none h] at e; cases e
  exact ⟨c, t, (hb.block a.block hlt).trans e⟩

/-- The four that CallCode asks: 0 not told, 1 far, 2 func, 3 count. -/
structure Err4 (w : World) (e : Nat → Addr) : Prop where
  told : w.cell? ⟨3, 0, none⟩ = some (sentV (e 0))
  far : w.cell? ⟨0, 0, none⟩ = some (sentV (e 1))
  func : w.cell? ⟨1, 0, none⟩ = some (sentV (e 2))
  count : w.cell? ⟨2, 0, none⟩ = some (sentV (e 3))
  at0 : SentAt w (e 0)
  at1 : SentAt w (e 1)
  at2 : SentAt w (e 2)
  at3 : SentAt w (e 3)
  ne : e 0 ≠ e 1 ∧ e 0 ≠ e 2 ∧ e 0 ≠ e 3 ∧ e 1 ≠ e 2 ∧ e 1 ≠ e 3 ∧ e 2 ≠ e 3
theorem sent_below {w w' : World} {g : Nat} {v : Value} (h : w.cell? ⟨g, 0, none⟩ = some v) (hb : Below w.heap.size w w') : w'.cell? ⟨g, 0, none⟩ = some v := (hb.cell (p := ⟨g, 0, none⟩) (World.block_lt_of_cell? w ⟨g, 0, none⟩ h)).trans h
theorem Err4.below {w w' : World} {e : Nat → Addr} (h : Err4 w e) (hb : Below w.heap.size w w') : Err4 w' e :=
  ⟨sent_below h.told hb, sent_below h.far hb, sent_below h.func hb, sent_below h.count hb, h.at0.below hb, h.at1.below hb, h.at2.below hb, h.at3.below hb, h.ne⟩

/-! ### Closed facts. -/
theorem isTypeOf (v : Value) (w : World) : (Extern.ReflectliteType.typeOf #[.iface 167 v]).run Tryd.prog w = .ok (.iface 130 (.agg #[.pointer (some ⟨7, 167, none⟩)])) w := by kernel_rfl
/-- What the model does at (rtype).Comparable. -/
noncomputable def cmpE : Array Value → Sem Value := (Go.Extern.find Tryd.f130).getD (fun _ => pure (.bool false))
theorem isComparable (w : World) : (cmpE #[.agg #[.pointer (some ⟨7, 167, none⟩)]]).run Tryd.prog w = .ok (.bool true) w := by kernel_rfl
theorem isMethodComparable (v : Value) (w : World) : (Go.method 304 130 v "Comparable").run Tryd.prog w = .ok (130, v) w := by kernel_rfl
theorem isComp : (Tryd.prog.info? 167).map (·.comparable) = some true := by kernel_rfl
theorem isSize : (Tryd.prog.info? 192).map (·.size) = some 1 := by kernel_rfl
theorem noIsE (v : Value) (xT : TypeId) (w : World) : (Instr.typeAssert (.iface 167 v) xT 132 true).run Tryd.prog w = .ok (.tuple #[.nilIface, .bool false]) w := run_typeAssert_lacksB Tryd.underlying132 (by kernel_rfl) (by kernel_rfl) v xT w
theorem noUnwrapE (v : Value) (xT : TypeId) (w : World) : (Instr.typeAssert (.iface 167 v) xT 135 true).run Tryd.prog w = .ok (.tuple #[.nilIface, .bool false]) w := run_typeAssert_lacksB Tryd.underlying135 (by kernel_rfl) (by kernel_rfl) v xT w
theorem noUnwrapsE (v : Value) (xT : TypeId) (w : World) : (Instr.typeAssert (.iface 167 v) xT 137 true).run Tryd.prog w = .ok (.tuple #[.nilIface, .bool false]) w := run_typeAssert_lacksB Tryd.underlying137 (by kernel_rfl) (by kernel_rfl) v xT w

set_option maxHeartbeats 2000000 in
set_option maxRecDepth 100000 in
theorem is_same (a : Addr) (w : World) :
    Calls Tryd.prog 53 #[.iface 167 (.pointer (some a)), .iface 167 (.pointer (some a))] w fun e w' => e = .returned (.bool true) ∧ w' = w := by
  obtain ⟨i, hi, hcmp⟩ := Option.map_eq_some_iff.1 isComp
  obtain ⟨j, hj, hjs⟩ := Option.map_eq_some_iff.1 isSize
  have h8 := @run_callFunc_extern Tryd.prog 74 _ Extern.ReflectliteType.typeOf Tryd.func74 (by kernel_rfl) (by kernel_rfl) (by kernel_rfl) (by kernel_rfl)
  have h32 := @run_callFunc_extern Tryd.prog 130 _ cmpE Tryd.func130 (by kernel_rfl) (by kernel_rfl) (by kernel_rfl) (by kernel_rfl)
  have tT := isTypeOf
  have cT := isComparable
  have mR := isMethodComparable
  have heq := run_eql_iface_ptr_same (P := Tryd.prog) w a Tryd.underlying66 Tryd.underlying167 hi hcmp hj
  go_enter Tryd.func53, Tryd.ntmps53
  go_wp2
  refine wp_loop_rounds 1 ?_
  rw [rounds_succ]
  go_wp2
  go_ret
  exact ⟨rfl, rfl⟩

set_option maxHeartbeats 2000000 in
set_option maxRecDepth 100000 in
theorem is_other (a b : Addr) (w : World) (hne : a ≠ b) (hsa : SentAt w a) (hsb : SentAt w b) :
    Calls Tryd.prog 53 #[.iface 167 (.pointer (some a)), .iface 167 (.pointer (some b))] w fun e w' => e = .returned (.bool false) ∧ w' = w := by
  obtain ⟨ca, ta, ha⟩ := hsa
  obtain ⟨cb, tb, hb⟩ := hsb
  obtain ⟨i, hi, hcmp⟩ := Option.map_eq_some_iff.1 isComp
  obtain ⟨j, hj, hjs⟩ := Option.map_eq_some_iff.1 isSize
  have h8 := @run_callFunc_extern Tryd.prog 74 _ Extern.ReflectliteType.typeOf Tryd.func74 (by kernel_rfl) (by kernel_rfl) (by kernel_rfl) (by kernel_rfl)
  have h32 := @run_callFunc_extern Tryd.prog 130 _ cmpE Tryd.func130 (by kernel_rfl) (by kernel_rfl) (by kernel_rfl) (by kernel_rfl)
  have tT := isTypeOf
  have cT := isComparable
  have mR := isMethodComparable
  have nE := noIsE
  have uE := noUnwrapE
  have vE := noUnwrapsE
  have heq := run_eql_iface_ptr_other (P := Tryd.prog) w Tryd.underlying66 Tryd.underlying167 hi hcmp hj (by rw [hjs]; decide) hne ha hb
  go_enter Tryd.func53, Tryd.ntmps53
  go_wp2
  refine wp_loop_rounds 1 ?_
  rw [rounds_succ]
  go_wp2
  go_ret
  exact ⟨rfl, rfl⟩

/-- errors.Is of two errors of errors.New's make. -/
theorem isFlat (a b : Addr) (w : World) (ha : SentAt w a) (hb : SentAt w b) :
    Calls Tryd.prog 53 #[.iface 167 (.pointer (some a)), .iface 167 (.pointer (some b))] w fun e w' => e = .returned (.bool (decide (a = b))) ∧ w' = w := by
  by_cases h : a = b
  · subst h
    rw [decide_eq_true rfl]
    exact is_same a w
  · rw [decide_eq_false h]
    exact is_other a b w h ha hb

end Go.Proofs.YtdjglpcllcjcfaaDoor

/-! The contracts of chapter 6's specification: l6Parts, PartsOf. -/
namespace Go.Proofs.YtdjglpcllcjcfaaDoor
open Go.RowKit

/-- What a row of numbers holds. -/
def intsV (l : List Int) : List Value := l.map (fun i => Value.int .i64 i)
theorem intsV_len (l : List Int) : (intsV l).length = l.length := by simp [intsV]
theorem intsV_append (x y : List Int) : intsV (x ++ y) = intsV x ++ intsV y := by simp [intsV]
theorem intsV_one (l : List Int) : ∀ u ∈ intsV l, u.oneCell' = true := by
  intro u hu
  simp only [intsV, List.mem_map] at hu
  obtain ⟨i, _, rfl⟩ := hu
  rfl
theorem infoInt : (Tryd.prog.info? 2).map (fun i => (i.zero, i.size, i.bytes)) = some (some (.int .i64 0), 1, 8) := by kernel_rfl

theorem new_int (w : World) (n : Int) : ∀ j u, (intsV [n])[j]? = some u → (w.alloc (.cells #[.int .i64 n] 2)).cell? ((⟨w.heap.size, 0, none⟩ : Addr).add j) = some u := by
  intro j u hu
  have e : (⟨w.heap.size, 0, none⟩ : Addr).add j = ⟨w.heap.size, j, none⟩ := by unfold Addr.add; split <;> simp_all
  rw [e]
  match j, hu with
  | 0, hu => simp [intsV] at hu; subst hu; simp
  | j + 1, hu => simp [intsV] at hu

theorem endV_le (l : List Nd) (a : Int) : -1 ≤ endV l a ∧ endV l a ≤ l.length := by
  by_cases h : 0 ≤ endV l a
  · by_cases ha : a < 0 ∨ (l.length : Int) ≤ a
    · rw [endV_out l a ha] at h; omega
    · obtain ⟨k, rfl⟩ : ∃ k : Nat, a = (k : Int) := Int.eq_ofNat_of_zero_le (by omega)
      have := end_parts h
      omega
  · by_cases ha : a < 0 ∨ (l.length : Int) ≤ a
    · rw [endV_out l a ha]; omega
    · obtain ⟨k, rfl⟩ : ∃ k : Nat, a = (k : Int) := Int.eq_ofNat_of_zero_le (by omega)
      rw [endV_nat] at h ⊢
      unfold endN at h ⊢
      rw [if_pos (by omega)] at h ⊢
      cases he : endGo (l.drop k) 1 with
      | none => simp only; omega
      | some d => rw [he] at h; simp only at h; omega



end Go.Proofs.YtdjglpcllcjcfaaDoor
