/-
  Parts of one proof, one behind the other: Draw8P, Draw8Q, Draw10, LawFo.
-/
import Derived.Test.YtkjojhkpoooimaaGreatP38
import Derived.Test.YtkjojhkpoooimaaGreatP5
import Derived.Test.YtkjojhkpoooimaaGreatP4
import Derived.Test.YtkjojhkpoooimaaGreatP37
import Derived.Test.YtkjojhkpoooimaaGreatP2
import Derived.Test.YtkjojhkpoooimaaGreatP3
import Derived.Deep.RegionWith
import Derived.Test.YtkjojhkpoooimaaGreatP9
import Derived.Test.YtkjojhkpoooimaaGreatP32
import Derived.Test.YtkjojhkpoooimaaGreatP33

/-! l8DrawAny. -/
namespace Go.Proofs.YtkjojhkpoooimaaGreat
open Go.RowKit

theorem Q8.cells {X w : World} {B : Nat} {a : Option Addr} {len cap g lc : Nat} {ys : List PV} (h : Q8 X w B a len cap g lc ys) {j : Nat} (hj : j < ys.length) : X.cell? ⟨g, j * 3, none⟩ = some (.string ⟨(ys.getD j pv0).nm.toArray⟩) ∧ X.cell? ⟨g, j * 3 + 1, none⟩ = some (pvI (ys.getD j pv0)) ∧ X.cell? ⟨g, j * 3 + 2, none⟩ = some (pvF (ys.getD j pv0)) := by
  obtain ⟨v0, v1, v2⟩ := pvsV_at ys j hj
  have hc := fun k (hk : k < ys.length * 3) => World.ownsRow.cellAt h.row k hk
  exact ⟨(hc _ (by omega)).trans v0, (hc _ (by omega)).trans v1, (hc _ (by omega)).trans v2⟩
theorem Q8.frozen {X w : World} {B : Nat} {a : Option Addr} {len cap g lc : Nat} {ys : List PV} (h : Q8 X w B a len cap g lc ys) (k : Nat) : X.frozen? ⟨g, k, none⟩ = false := World.ownsRow.frozenAt h.row k
theorem Q8.fcell {X w : World} {B : Nat} {a : Option Addr} {len cap g lc : Nat} {ys : List PV} (h : Q8 X w B a len cap g lc ys) {j : Nat} (hj : j < ys.length) {gF : Nat} (hF : (ys.getD j pv0).fa = some ⟨gF, 0, none⟩) : (∃ v, X.cell? ⟨gF, 1, none⟩ = some v) ∧ (∃ v, X.cell? ⟨gF, 2, none⟩ = some v) ∧ ∀ k, X.frozen? ⟨gF, k, none⟩ = false := by
  have hy := h.at hj
  have hr := hy.fo.row
  have hF2 : pvF (ys.getD j pv0) = .slice (some ⟨gF, 0, none⟩) (ys.getD j pv0).xs.length (ys.getD j pv0).fc := by unfold pvF; rw [hF]
  rw [hF2] at hr
  have hn := hy.n
  obtain ⟨_, f1, f2⟩ := fnsV_at (ys.getD j pv0).xs 0 (by omega)
  exact ⟨⟨_, (World.ownsRow.cellAt hr 1 (by omega)).trans f1⟩, ⟨_, (World.ownsRow.cellAt hr 2 (by omega)).trans f2⟩, fun k => World.ownsRow.frozenAt hr k⟩

/-- One package of it, opened. -/
theorem Q8.open {X w : World} {B : Nat} {a : Option Addr} {len cap g lc : Nat} {ys : List PV} (h : Q8 X w B a len cap g lc ys) (hA : A8 ys) {j : Nat} (hj : j < ys.length) : ∃ (gI gF ic fc nF : Nat) (ims : List (List UInt8)), (ys.getD j pv0).fa = some ⟨gF, 0, none⟩ ∧ (1 ≤ nF ∧ nF ≤ 3) ∧ (ims.length ≤ 8 ∧ ∀ t ∈ ims, t.length ≤ 9) ∧
    ∀ Z, Q8 Z w B a len cap g lc ys → Z.cell? ⟨g, j * 3 + 1, none⟩ = some (.slice (some ⟨gI, 0, none⟩) ims.length ic) ∧ Z.cell? ⟨g, j * 3 + 2, none⟩ = some (.slice (some ⟨gF, 0, none⟩) nF fc) ∧ Z.ownsRow w.heap.size 9 1 (.slice (some ⟨gI, 0, none⟩) ims.length ic) ims.length (strV ims) := by
  have hm : ys.getD j pv0 ∈ ys := by simp [List.getD, hj]
  obtain ⟨gF, hF⟩ := h.fn0 hj
  obtain ⟨gI, hI⟩ := hA.sa _ hm
  have hy := h.at hj
  refine ⟨gI, gF, (ys.getD j pv0).ic, (ys.getD j pv0).fc, (ys.getD j pv0).xs.length, (ys.getD j pv0).ims, hF, hy.n, ⟨hA.il _ hm, hy.is.2⟩, fun Z hZ => ?_⟩
  obtain ⟨_, q1, q2⟩ := hZ.cells hj
  have hi := (hZ.at hj).im
  unfold pvI at q1 hi
  unfold pvF at q2
  rw [hI] at q1 hi
  rw [hF] at q2
  exact ⟨q1, q2, hi⟩

theorem put8_small {ims : List (List UInt8)} {fn : List UInt8} (h : ims.length ≤ 8 ∧ ∀ t ∈ ims, t.length ≤ 9) (hf : fn.length ≤ 9) : (put8 ims fn).length ≤ 9 ∧ ∀ t ∈ put8 ims fn, t.length ≤ 9 := by
  refine ⟨by have := (put8_len ims fn).2; omega, fun t ht => ?_⟩
  rcases put8_mem.1 ht with rfl | h1
  · exact hf
  · exact h.2 t h1

set_option maxHeartbeats 8000000 in
set_option maxRecDepth 100000 in
theorem drawAny8 (w : World) (B : Nat) (a : Option Addr) (len cap : Nat) (hc : Cur w B a len cap) :
    Calls Tryz.prog 38 #[.pointer (some ⟨B, 0, none⟩)] w fun e w' => ∃ v, e = .returned v ∧ L8 w w' B a len cap v := by
  go_enter Tryz.func38, Tryz.ntmps38
  go_wp2_with fail
  refine (drawPs w B a len cap hc).mono ?_
  rintro e w1 ⟨L, la, lc, ys, vc, cs, rfl, hd, hn1, hn4⟩
  obtain ⟨g, c, e0⟩ := own_some hd.row (by omega)
  injection e0 with e0 _ e2
  subst e0
  clear e2
  obtain ⟨hq, hA⟩ := hd.q8 ⟨hn1, hn4⟩
  have HA : Hid (A8 ys) := hA
  clear hd hA
  go_wp2_with fail
  refine (drawOnce w1 B a len cap 6 (by omega) (by omega) hq.cur).mono ?_
  rintro e w2 ⟨b2, rfl, hc2, hg2⟩
  have HQ2 : Hid (Q8 w2 w B a len cap g lc ys) := hq.next hg2 hc2
  clear hq hc2 hg2
  rcases b2 with _ | _
  · go_wp2
    go_ret
    exact ⟨_, rfl, HQ2.out.l8⟩
  · go_wp2_with fail
    refine (drawBelow w2 B a len cap (ys.length : Int) (by omega) (by omega) HQ2.out.cur).mono ?_
    rintro e w3 ⟨x3, rfl, h30, h31, hc3, hg3⟩
    obtain ⟨j, rfl⟩ : ∃ j : Nat, x3 = (j : Int) := Int.eq_ofNat_of_zero_le h30
    have HQ3 : Hid (Q8 w3 w B a len cap g lc ys) := HQ2.out.next hg3 hc3
    have hj : j < ys.length := by omega
    clear HQ2 hc3 hg3
    go_wp2_with fail
    refine (drawBelow w3 B a len cap 6 (by omega) (by omega) HQ3.out.cur).mono ?_
    rintro e w4 ⟨x4, rfl, h40, h41, hc4, hg4⟩
    have HQ4 : Hid (Q8 w4 w B a len cap g lc ys) := HQ3.out.next hg4 hc4
    clear HQ3 hc4 hg4
    obtain ⟨gI, gF, ic, fc, nF, ims, hF, hnF, his, hZ⟩ := HQ4.out.open HA.out hj
    have HF : Hid ((ys.getD j pv0).fa = some ⟨gF, 0, none⟩) := hF
    have HIs : Hid (ims.length ≤ 8 ∧ ∀ t ∈ ims, t.length ≤ 9) := his
    have HZ : Hid (∀ Z, Q8 Z w B a len cap g lc ys → Z.cell? ⟨g, j * 3 + 1, none⟩ = some (.slice (some ⟨gI, 0, none⟩) ims.length ic) ∧ Z.cell? ⟨g, j * 3 + 2, none⟩ = some (.slice (some ⟨gF, 0, none⟩) nF fc) ∧ Z.ownsRow w.heap.size 9 1 (.slice (some ⟨gI, 0, none⟩) ims.length ic) ims.length (strV ims)) := hZ
    obtain ⟨q1, q2, _⟩ := HZ.out w4 HQ4.out
    have hnF0 : (0 : Int) < (nF : Int) := by omega
    have hcap : (ys.length : Int) ≤ (lc : Int) := by have := HQ4.out.ok.hcap; omega
    have hB4 : B < w4.heap.size := HQ4.out.cur.lt
    have hs4 : w.heap.size ≤ w4.heap.size := HQ4.out.g.size
    clear hF his hZ
    obtain ⟨m, rfl⟩ : ∃ m : Nat, x4 = (m : Int) := Int.eq_ofNat_of_zero_le h40
    have hm : m = 0 ∨ m = 1 ∨ m = 2 ∨ m = 3 ∨ m = 4 ∨ m = 5 := by omega
    rcases hm with rfl | rfl | rfl | rfl | rfl | rfl
    · have q1a : ∀ o, (w4.alloc o).cell? ⟨g, j * 3 + 1, none⟩ = some (.slice (some ⟨gI, 0, none⟩) ims.length ic) := fun o => (HZ.out (w4.alloc o) (HQ4.out.alloc o)).1
      have hil : ims.length ≤ 1048576 := by have := HIs.out.1; omega
      go_wp2_with fail
      go_region_with (first | (go_at_call 39; refine (drawBelow _ B a len cap 3 (by omega) (by omega) (by first | exact (HQ4.out.alloc _).drew.cur | exact HQ4.out.drew.cur)).mono ?_; rintro e w5 ⟨x, rfl, hx0, hx1, hc5, hg5⟩; obtain ⟨T, rfl⟩ : ∃ T : Nat, x = (T : Int) := Int.eq_ofNat_of_zero_le hx0; have hT3 : T < 3 := (by omega); obtain ⟨fn, hfn, hget⟩ := str3_at [109, 97, 105, 110] [122, 122] [99] T hT3 (by decide) (by decide) (by decide); have HPs : Hid ((put8 ims fn).length ≤ 9 ∧ ∀ t ∈ put8 ims fn, t.length ≤ 9) := put8_small HIs.out hfn; (first | (have nL := box3_at (box_up1 (V := w4) hg5 hB4).1 hT3 hget; have HQ5 : Hid (Q8 w5 w B a len cap g lc ys) := (HQ4.out.alloc _).drew.next hg5 hc5) | (have HQ5 : Hid (Q8 w5 w B a len cap g lc ys) := HQ4.out.drew.next hg5 hc5)); have p1 := (HZ.out w5 HQ5.out).1; have p1a : ∀ o, (w5.alloc o).cell? ⟨g, j * 3 + 1, none⟩ = some (.slice (some ⟨gI, 0, none⟩) ims.length ic) := (fun o => (HZ.out (w5.alloc o) (HQ5.out.alloc o)).1); clear hg5 hc5) | (go_at_call 69; refine (specPut w.heap.size gI ic ims fn _ (by first | exact (HZ.out _ HQ5.out).2.2 | exact (HZ.out _ (HQ5.out.alloc _)).2.2) (by first | exact HQ5.out.g.size | exact (HQ5.out.alloc _).g.size) hil).mono ?_; rintro e w6 ⟨g6, c6, rfl, ho6, hb6⟩; have HQ6 : Hid (Q8 w6 w B a len cap g lc ys) := (by first | exact HQ5.out.below hb6 | exact (HQ5.out.alloc _).below hb6); have p6 := (HZ.out w6 HQ6.out).1; have z6 := HQ6.out.frozen (j * 3 + 1); clear hb6))
      all_goals
        go_wp2
        go_ret
        exact ⟨_, rfl, by have h := (HQ6.out.imps hj ho6 HPs.out).l8; rw [List.length_set] at h; exact h⟩
    · go_wp2_with fail
      go_region_with (go_at_call 39; refine (drawBelow _ B a len cap 4 (by omega) (by omega) HQ4.out.drew.cur).mono ?_; rintro e w5 ⟨x, rfl, hx0, hx1, hc5, hg5⟩; have hq5 := HQ4.out.drew.next hg5 hc5; have p2 := (HZ.out w5 hq5).2.1; obtain ⟨⟨v1, s1⟩, _, z⟩ := hq5.fcell hj HF.out; have z1 := z 1; clear z)
      all_goals
        go_wp2
        go_ret
        obtain ⟨ys', hl, hq'⟩ := hq5.args HA.out hj HF.out x (by omega)
        exact ⟨_, rfl, by have h := hq'.l8; rw [hl] at h; exact h⟩
    · go_wp2_with fail
      go_region_with (go_at_call 46; refine (drawAny6 _ B a len cap HQ4.out.drew.cur).mono ?_; rintro e w5 ⟨v, rfl, t, ho, htl, hts, _, hc5, hg5⟩; have hq5 := HQ4.out.drew.next hg5 hc5; have p2 := (HZ.out w5 hq5).2.1; obtain ⟨ta, tc, rfl, _, _⟩ := own_nodes0 ho; obtain ⟨_, ⟨v2, s2⟩, z⟩ := hq5.fcell hj HF.out; have z2 := z 2; clear z)
      all_goals
        go_wp2
        go_ret
        obtain ⟨ys', hl, hq'⟩ := hq5.tree HA.out hj HF.out ta tc t (own_base ho hs4) (by omega) hts
        exact ⟨_, rfl, by have h := hq'.l8; rw [hl] at h; exact h⟩
    · go_wp2_with fail
      refine (drawBelow _ B a len cap 3 (by omega) (by omega) (HQ4.out.alloc _).cur).mono ?_
      rintro e w5 ⟨x, rfl, hx0, hx1, hc5, hg5⟩
      have hq5 := (HQ4.out.alloc _).next hg5 hc5
      obtain ⟨T, rfl⟩ : ∃ T : Nat, x = (T : Int) := Int.eq_ofNat_of_zero_le hx0
      have bL := box_on box_new hg5 (by omega)
      obtain ⟨fn, hfn, hget⟩ := str3_at [98] [122, 122] [] T (by omega) (by decide) (by decide) (by decide)
      have nL := box3_at bL.1 (by omega) hget
      have p0 := (hq5.cells hj).1
      have z0 := hq5.frozen (j * 3)
      have HL : Hid (Q8 _ w B a len cap g lc _) := hq5.name hj fn hfn
      clear hq5 bL hg5 hc5 hget
      go_wp2_with fail
      go_ret
      exact ⟨_, rfl, by have h := HL.out.l8; rw [List.length_set] at h; exact h⟩
    · by_cases h1 : (1 : Int) < (ys.length : Int)
      · go_wp2
        go_ret
        exact ⟨_, rfl, HQ4.out.l8cut (by omega) (by omega)⟩
      · go_wp2
        go_ret
        exact ⟨_, rfl, HQ4.out.l8⟩
    · go_wp2_with fail
      refine (specTexts (some ⟨gI, 0, none⟩) 0 ic [] _ ⟨rfl, fun q hq => absurd hq (by omega)⟩ (fun e => by cases e) (by omega)).mono ?_
      rintro e w5 ⟨v, rfl, ho, hb5⟩
      have hq5 := HQ4.out.below hb5
      obtain ⟨ia5, ic5, rfl, _, _⟩ := own_texts0 ho
      have p1 := (HZ.out w5 hq5).1
      have z1 := hq5.frozen (j * 3 + 1)
      have HL : Hid (Q8 _ w B a len cap g lc _) := hq5.imps hj (own_base ho hs4) ⟨by simp, fun t ht => by cases ht⟩
      clear hq5
      go_wp2_with fail
      go_ret
      exact ⟨_, rfl, by have h := HL.out.l8; rw [List.length_set] at h; exact h⟩

end Go.Proofs.YtkjojhkpoooimaaGreat

/-! Chapter 8's draws. -/
namespace Go.Proofs.YtkjojhkpoooimaaGreat
open Go.RowKit

/-- What the draws of projects leave. -/
def Drawn8 (w w' : World) (v : Value) : Prop := ∃ la n lc ps, v = .slice la n lc ∧ n ≤ 4 ∧ PkgsOk w' la n lc ps ∧ Below w.heap.size w w'


end Go.Proofs.YtkjojhkpoooimaaGreat

/-! Chapter 10's draws. -/
namespace Go.Proofs.YtkjojhkpoooimaaGreat
open Go.RowKit

/-- A package of a project that was drawn stays, whatever lies ahead of it. -/
theorem pk_stays10 {w2 : World} {c b off n lc : Nat} {ps : List Pk} (hok : ∀ Y, Agree w2 Y c → PkgsOk Y (some ⟨b, off, none⟩) n lc ps) (hb : c ≤ b) {j : Nat} (hj : j < n) :
    ∃ ia il ic fa fl fc, ∀ Y, Agree w2 Y c → Y.cell? ⟨b, off + j * 3, none⟩ = some (.string ⟨(ps.getD j pk0).1.toArray⟩) ∧ Y.cell? ⟨b, off + j * 3 + 1, none⟩ = some (.slice ia il ic) ∧ Y.cell? ⟨b, off + j * 3 + 2, none⟩ = some (.slice fa fl fc) ∧ PkOk Y (ps.getD j pk0).1 ia il ic fa fl fc (ps.getD j pk0).2.1 (ps.getD j pk0).2.2 := by
  obtain ⟨b0, off0, he, hlt, c0, ia, il, ic, fa, fl, fc, c1, c2, _⟩ := (hok w2 (Agree.refl _ _)).each j hj
  simp only [Option.some.injEq, Addr.mk.injEq, and_true] at he
  obtain ⟨rfl, rfl⟩ := he
  refine ⟨ia, il, ic, fa, fl, fc, fun Y hg => ?_⟩
  have hbk : Y.heap[b]? = w2.heap[b]? := hg.2 b hb hlt
  have d0 := (World.cell?_of_block (a := ⟨b, off + j * 3, none⟩) hbk).trans c0
  have d1 := (World.cell?_of_block (a := ⟨b, off + j * 3 + 1, none⟩) hbk).trans c1
  have d2 := (World.cell?_of_block (a := ⟨b, off + j * 3 + 2, none⟩) hbk).trans c2
  obtain ⟨b1, off1, he, _, _, ia', il', ic', fa', fl', fc', c1', c2', hk⟩ := (hok Y hg).each j hj
  simp only [Option.some.injEq, Addr.mk.injEq, and_true] at he
  obtain ⟨rfl, rfl⟩ := he
  rw [d1] at c1'
  rw [d2] at c2'
  simp only [Option.some.injEq, Value.slice.injEq] at c1' c2'
  obtain ⟨rfl, rfl, rfl⟩ := c1'
  obtain ⟨rfl, rfl, rfl⟩ := c2'
  exact ⟨d0, d1, d2, hk⟩

/-- What DrawMeant holds behind its project: the cursor, the numbers that it makes. -/
structure D10 (Y w2 : World) (B : Nat) (a : Option Addr) (len cap L : Nat) (v : Value) (xs : List Int) : Prop where
  g : w2.grownBy Y (some B)
  cur : Cur Y B a len cap
  row : Y.ownsRow L 2 1 v xs.length (intsV xs)
  ll : w2.heap.size ≤ L
  lh : L ≤ Y.heap.size
  bl : B < w2.heap.size
  wf : ∀ x ∈ xs, -9223372036854775808 ≤ x ∧ x ≤ 9223372036854775807
  so : ∃ g c, v = .slice (some ⟨g, 0, none⟩) xs.length c
theorem nums_wf {xs : List Int} (h : ∀ x ∈ xs, -9223372036854775808 ≤ x ∧ x ≤ 9223372036854775807) {x : Int} (hx : -9223372036854775808 ≤ x ∧ x ≤ 9223372036854775807) : ∀ y ∈ xs ++ [x], -9223372036854775808 ≤ y ∧ y ≤ 9223372036854775807 := fun y hy => by
  rw [List.mem_append, List.mem_singleton] at hy
  rcases hy with hy | rfl
  · exact h y hy
  · exact hx
theorem new_num (w : World) (x : Int) (c : Nat) : Src (w.alloc (.cells #[.int .i64 x] 2)) (.slice (some ⟨w.heap.size, 0, none⟩) 1 c) 1 1 (intsV [x]) := by
  refine ⟨rfl, fun u hu => ?_, Or.inr ⟨⟨w.heap.size, 0, none⟩, c, rfl, fun j u hu => ?_⟩⟩
  · simp [intsV] at hu; subst hu; rfl
  · exact cell_one_new w _ 2 j u hu
section
variable {Y Z w2 : World} {B : Nat} {a : Option Addr} {len cap L : Nat} {v : Value} {xs : List Int}
theorem D10.next (h : D10 Y w2 B a len cap L v xs) (hg : Y.grownBy Z (some B)) (hc : Cur Z B a len cap) : D10 Z w2 B a len cap L v xs :=
  ⟨h.g.trans hg, hc, own_grown h.row hg (fun k e => by injection e with e; have := h.ll; have := h.bl; omega), h.ll, Nat.le_trans h.lh hg.size, h.bl, h.wf, h.so⟩
theorem D10.alloc (h : D10 Y w2 B a len cap L v xs) (o : Obj) : D10 (Y.alloc o) w2 B a len cap L v xs :=
  ⟨h.g.trans (World.grownBy_alloc Y o _), h.cur.kept (World.grownBy_alloc Y o none) (by simp), own_none h.row (World.grownBy_alloc Y o none), h.ll, Nat.le_trans h.lh (World.grownBy_alloc Y o none).size, h.bl, h.wf, h.so⟩
theorem D10.drew (h : D10 Y w2 B a len cap L v xs) : D10 Y.drew w2 B a len cap L v xs :=
  ⟨h.g.trans (grown_drew Y _), h.cur.drew, own_none h.row (grown_drew Y none), h.ll, h.lh, h.bl, h.wf, h.so⟩
theorem D10.new (hg : w2.grownBy Y (some B)) (hc : Cur Y B a len cap) (hb : B < w2.heap.size) (x : Int) (hx : -9223372036854775808 ≤ x ∧ x ≤ 9223372036854775807) : D10 (Y.alloc (.cells #[.int .i64 x] 2)) w2 B a len cap Y.heap.size (.slice (some ⟨Y.heap.size, 0, none⟩) 1 1) [x] :=
  ⟨hg.trans (World.grownBy_alloc Y _ _), hc.kept (World.grownBy_alloc Y _ none) (by simp), World.ownsRow_lit (base := Y.heap.size) (e := 2) (size := 1) Y #[.int .i64 x] 1 (Nat.le_refl _) (by decide) rfl, hg.size, (World.grownBy_alloc Y _ none).size, hb, fun y hy => by rw [List.mem_singleton] at hy; subst hy; exact hx, ⟨_, _, rfl⟩⟩
theorem D10.new0 (hg : w2.grownBy Y (some B)) (hc : Cur Y B a len cap) (hb : B < w2.heap.size) : D10 (Y.alloc (.cells #[] 2)) w2 B a len cap Y.heap.size (.slice (some ⟨Y.heap.size, 0, none⟩) 0 0) [] :=
  ⟨hg.trans (World.grownBy_alloc Y _ _), hc.kept (World.grownBy_alloc Y _ none) (by simp), World.ownsRow_lit (base := Y.heap.size) (e := 2) (size := 1) Y #[] 0 (Nat.le_refl _) (by decide) rfl, hg.size, (World.grownBy_alloc Y _ none).size, hb, fun y hy => (by cases hy), ⟨_, _, rfl⟩⟩
theorem D10.push (h : D10 Y w2 B a len cap L v xs) (x : Int) (hx : -9223372036854775808 ≤ x ∧ x ≤ 9223372036854775807) (hn : xs.length ≤ 100) :
    ∃ g' c' Z, (Builtin.append_ #[38, 38] 38 #[v, .slice (some ⟨Y.heap.size, 0, none⟩) 1 1]).run Tryz.prog (Y.alloc (.cells #[.int .i64 x] 2)) = .ok (.slice (some ⟨g', 0, none⟩) (xs.length + 1) c') Z ∧ D10 Z w2 B a len cap L (.slice (some ⟨g', 0, none⟩) (xs.length + 1) c') (xs ++ [x]) ∧ Y.grownBy Z v.ownBlock := by
  obtain ⟨i0, hi, hz0, hz1, hz2⟩ := info_parts info2
  have h1 := h.alloc (.cells #[.int .i64 x] 2)
  obtain ⟨v', Z, hrun, hown, hg, _⟩ := run_append_src (P := Tryz.prog) (Y.alloc (.cells #[.int .i64 x] 2)) L 38 38 2 i0 _ 1 8 Tryz.underlying38 hi hz0 hz1 hz2 rfl (by decide) _ _ _ h1.row _ 1 (intsV [x]) (new_num Y x 1) (by unfold maxLen; omega) (by omega) h1.lh
  have e1 : (xs ++ [x]).length = xs.length + 1 := by simp
  rw [← intsV_append] at hown
  obtain ⟨g', c', rfl⟩ := own_some hown (by omega)
  have hvB : ∀ k, v.ownBlock = some k → L ≤ k := fun k e => (h.row.lt k e).1
  have hgY : Y.grownBy Z v.ownBlock := (World.grownBy_alloc Y _ _).trans hg
  have hll := h.ll
  have hbl := h.bl
  refine ⟨g', c', Z, hrun, ⟨?_, h.cur.kept hgY (fun k e => by have := hvB k e; omega), by rw [e1]; exact hown, hll, Nat.le_trans h.lh hgY.size, hbl, nums_wf h.wf hx, ⟨_, _, by rw [e1]⟩⟩, hgY⟩
  exact ⟨hgY.os.trans h.g.os, hgY.tape.trans h.g.tape, hgY.output.trans h.g.output, Nat.le_trans h.g.size hgY.size, fun k hk hne => (hgY.block k (Nat.lt_of_lt_of_le hk h.g.size) (fun e => by have := hvB k e.symm; omega)).trans (h.g.block k hk hne)⟩
end

/-- What DrawMeant leaves. -/
def Drawn10 (w w' : World) (v : Value) (s fn : List UInt8) (u : Value) (xs : List Int) (fuel : Int) : Prop :=
  s.length ≤ 1048576 ∧ fn.length ≤ 1048576 ∧ (-1 ≤ fuel ∧ fuel ≤ 20001) ∧ (∃ g c, u = .slice (some ⟨g, 0, none⟩) xs.length c) ∧ w'.ownsRow w.heap.size 2 1 u xs.length (intsV xs) ∧ xs.length ≤ 6 ∧ (∀ x ∈ xs, -9223372036854775808 ≤ x ∧ x ≤ 9223372036854775807) ∧ Drawn8 w w' v
theorem D10.fin {F w w2 : World} {B C : Nat} {a : Option Addr} {len cap L : Nat} {v : Value} {xs : List Int} {la : Option Addr} {n lc : Nat} {ps : List Pk} {s fn : List UInt8} {fuel : Int} (h : D10 F w2 B a len cap L v xs) (hok : ∀ Y, Agree w2 Y C → PkgsOk Y la n lc ps) (hB : w.heap.size = B) (hbel : Below B w w2) (hC : B < C) (hn : n ≤ 4) (hs : s.length ≤ 1048576) (hf : fn.length ≤ 1048576) (hx : xs.length ≤ 6) (hfu : -1 ≤ fuel ∧ fuel ≤ 20001) : Drawn10 w F (.slice la n lc) s fn v xs fuel := by
  subst hB
  refine ⟨hs, hf, hfu, h.so, own_base h.row (Nat.le_trans (Nat.le_of_lt h.bl) h.ll), hx, h.wf, la, n, lc, ps, rfl, hn, hok F (Agree.of_grown h.g hC), ?_⟩
  exact hbel.grown h.g hbel.size (fun k e => by injection e with e; omega)
theorem fuel_bd (y : Int) (h0 : 0 ≤ y) (h1 : y < 10) : -1 ≤ pick [0, 1, 5, 20, 60, 20000, 20000, 20000, 20001, -1] y ∧ pick [0, 1, 5, 20, 60, 20000, 20000, 20000, 20001, -1] y ≤ 20001 := by
  rcases (show y = 0 ∨ y = 1 ∨ y = 2 ∨ y = 3 ∨ y = 4 ∨ y = 5 ∨ y = 6 ∨ y = 7 ∨ y = 8 ∨ y = 9 by omega) with rfl | rfl | rfl | rfl | rfl | rfl | rfl | rfl | rfl | rfl <;> exact ⟨by decide, by decide⟩

end Go.Proofs.YtkjojhkpoooimaaGreat

/-! What FnFolded holds: a project whose packages are folded, one behind the other. -/
namespace Go.Proofs.YtkjojhkpoooimaaGreat
open Go.RowKit

/-- One package of the list, in rows of its own. -/
structure One11 (W : World) (B : Nat) (y : PV) (p : Pk) : Prop where
  nm : y.nm = p.1
  im : y.ims = p.2.1
  xm : y.xs.map (·.1) = p.2.2
  oi : W.ownsRow B 9 1 (pvI y) y.ims.length (strV y.ims)
  fo : FnsOwn W B (pvF y) y.xs
/-- The list so far. -/
structure Ls11 (W wx : World) (B : Nat) (lv : Value) (ps : List Pk) (i : Nat) (ys : List PV) : Prop where
  row : wx.ownsRow B 30 3 lv i (pvsV ys)
  yl : ys.length = i
  each : ∀ j, j < i → One11 wx B (ys.getD j pv0) (foldP (ps.getD j pk0))
  b : Below B W wx
  bs : B ≤ wx.heap.size
theorem Ls11.below {W wx Y : World} {B : Nat} {lv : Value} {ps : List Pk} {i : Nat} {ys : List PV} (h : Ls11 W wx B lv ps i ys) (hb : Below wx.heap.size wx Y) : Ls11 W Y B lv ps i ys :=
  ⟨own_below h.row hb, h.yl, fun j hj => ⟨(h.each j hj).nm, (h.each j hj).im, (h.each j hj).xm, own_below (h.each j hj).oi hb, (h.each j hj).fo.below hb⟩, h.b.trans (hb.mono h.bs), Nat.le_trans h.bs hb.size⟩
theorem Ls11.push {W X : World} {B : Nat} {lv : Value} {ps : List Pk} {i : Nat} {ys : List PV} (h : Ls11 W X B lv ps i ys) (y : PV) (hy : One11 X B y (foldP (ps.getD i pk0))) (hi : i ≤ 1048576) :
    ∃ v' Y, (Builtin.append_ #[37, 37] 37 #[lv, .slice (some ⟨X.heap.size, 0, none⟩) 1 1]).run Tryz.prog (X.alloc (.cells #[.string ⟨y.nm.toArray⟩, pvI y, pvF y] 30)) = .ok v' Y ∧ Ls11 W Y B v' ps (i + 1) (ys ++ [y]) := by
  obtain ⟨v', Y, hr, ho, hw, _⟩ := push_pv y h.row h.bs hi
  have keep : ∀ {e size n : Nat} {v : Value} {zs : List Value}, X.ownsRow B e size v n zs → e ≠ 30 → Y.ownsRow B e size v n zs := fun ho he => own_wrote ho hw (fun k e1 e2 => by
    rcases own_types ho h.row he with h1 | h1
    · rw [h1] at e1; cases e1
    · exact h1 (e1.trans e2.symm))
  have kone : ∀ {z : PV} {p : Pk}, One11 X B z p → One11 Y B z p := fun hz => ⟨hz.nm, hz.im, hz.xm, keep hz.oi (by decide), ⟨keep hz.fo.row (by decide), fun x hx => keep (hz.fo.trees x hx) (by decide)⟩⟩
  refine ⟨v', Y, hr, ho, by rw [List.length_append, h.yl]; rfl, fun j hj => ?_, h.b.trans (hw.below h.bs (fun k e => (h.row.lt k e).1)), Nat.le_trans h.bs hw.size⟩
  rcases Nat.lt_or_ge j i with h1 | h1
  · rw [(getD_snoc ys y pv0 j).1 (by rw [h.yl]; exact h1)]
    exact kone (h.each j h1)
  · obtain rfl : j = i := by omega
    rw [(getD_snoc ys y pv0 j).2 h.yl.symm]
    exact kone hy
theorem Ls11.in {W wx : World} {B : Nat} {lv : Value} {ps : List Pk} {ys : List PV} (h : Ls11 W wx B lv ps ps.length ys) : ∃ a c, lv = .slice a ps.length c ∧ PkgsIn wx a ps.length (foldV ps) := by
  obtain ⟨a, c, rfl⟩ := own_any h.row
  refine ⟨a, c, rfl, fold11_len ps, fun j hj => ?_⟩
  obtain ⟨g, cg, e⟩ := own_some h.row (by omega)
  injection e with e1 _ e3
  subst e1 e3
  obtain ⟨v0, v1, v2⟩ := pvsV_at ys j (by rw [h.yl]; exact hj)
  have hc := fun k (hk : k < ps.length * 3) => World.ownsRow.cellAt h.row k hk
  have hy := h.each j hj
  rw [fold11_getD]
  refine ⟨g, 0, rfl, (h.row.lt g rfl).2, ?_, (ys.getD j pv0).ia, (ys.getD j pv0).ims.length, (ys.getD j pv0).ic, (ys.getD j pv0).fa, (ys.getD j pv0).xs.length, (ys.getD j pv0).fc, ?_, ?_, ?_, ?_⟩
  · rw [Nat.zero_add, hc _ (by omega), v0, hy.nm]
  · rw [Nat.zero_add, hc _ (by omega), v1]; rfl
  · rw [Nat.zero_add, hc _ (by omega), v2]; rfl
  · obtain ⟨a', c', e, _, ht⟩ := own_texts0 hy.oi
    unfold pvI at e
    injection e with e1
    subst e1
    rw [← hy.im]
    exact ht
  · obtain ⟨a', c', e, _, ht⟩ := hy.fo.in
    unfold pvF at e
    injection e with e1
    subst e1
    rw [hy.xm] at ht
    exact ht
theorem shortPs_fold {ps : List Pk} (h : ∀ p ∈ ps, pkgB p = true) : ShortPs (foldV ps) := fun j => by
  rw [fold11_getD]
  rcases Nat.lt_or_ge j ps.length with h1 | h1
  · have hm : ps.getD j pk0 ∈ ps := getD_mem11 h1
    have hp := fold11_pkg (h _ hm)
    obtain ⟨n1, n2, n3, n4, n5⟩ := pkgB_parts hp
    refine ⟨by have := (name_letters n1).1; omega, by omega, fun i => ?_, by omega, fun k => ?_⟩
    · rcases Nat.lt_or_ge i (foldP (ps.getD j pk0)).2.1.length with h2 | h2
      · have := (name_letters (n2 _ (getD_mem11 (d := []) h2))).1
        omega
      · rw [List.getD_eq_getElem?_getD, List.getElem?_eq_none h2]; simp
    · have hs := pkgB_fn hp k
      exact ⟨by have := hs.1; omega, by have := hs.2.2.1; omega, hs.2.2.2.short⟩
  · have e : ps.getD j pk0 = pk0 := by simp [List.getD, List.getElem?_eq_none h1]
    rw [e]
    exact ⟨by simp [foldP, pk0], by simp [foldP, pk0], fun i => by simp [foldP, pk0], by simp [foldP, pk0], fun k => ⟨by simp [foldP, pk0, fn0], by simp [foldP, pk0, fn0], fun i => by simp [foldP, pk0, fn0, nd0]⟩⟩

end Go.Proofs.YtkjojhkpoooimaaGreat
