/-
  Parts of one proof, one behind the other: Draw8P, Draw8Q, MeanL, Draw10, MeanS8, Codes, Math8L, LawO, LawM.
-/
import Derived.Test.YtmloocbbcnhooaaGreatDoorP36
import Derived.Test.YtmloocbbcnhooaaGreatDoorP9
import Derived.Test.YtmloocbbcnhooaaGreatDoorP33
import Derived.Test.YtmloocbbcnhooaaGreatDoorP31
import Derived.Test.YtmloocbbcnhooaaGreatDoorP11
import Derived.Test.YtmloocbbcnhooaaGreatDoorP10
import Derived.Test.YtmloocbbcnhooaaGreatDoorP26
import Derived.Deep.RegionWith
import Derived.Test.YtmloocbbcnhooaaGreatDoorP2
import Derived.Test.YtmloocbbcnhooaaGreatDoorP3
import Derived.Test.YtmloocbbcnhooaaGreatDoorP6
import Derived.Test.YtmloocbbcnhooaaGreatDoorP32
import Derived.WalkArith

/-! l8DrawAny. -/
namespace Go.Proofs.YtmloocbbcnhooaaGreatDoor
open Go.RowKit

theorem Q8.cells {X w : World} {B : Nat} {a : Option Addr} {len cap g lc : Nat} {ys : List PV} (h : Q8 X w B a len cap g lc ys) {j : Nat} (hj : j < ys.length) : X.cell? ⟨g, j * 3, none⟩ = some (.string ⟨(ys.getD j pv0).nm.toArray⟩) ∧ X.cell? ⟨g, j * 3 + 1, none⟩ = some (pvI (ys.getD j pv0)) ∧ X.cell? ⟨g, j * 3 + 2, none⟩ = some (pvF (ys.getD j pv0)) := by
  obtain ⟨v0, v1, v2⟩ := pvsV_at ys j hj
  have hc := fun k (hk : k < ys.length * 3) => World.ownsRow.cellAt h.row k hk
  exact ⟨(hc _ (by omega)).trans v0, (hc _ (by omega)).trans v1, (hc _ (by omega)).trans v2⟩
theorem Q8.frozen {X w : World} {B : Nat} {a : Option Addr} {len cap g lc : Nat} {ys : List PV} (h : Q8 X w B a len cap g lc ys) (k : Nat) : X.frozen? ⟨g, k, none⟩ = false := World.ownsRow.frozenAt h.row k
theorem Q8.fcell {X w : World} {B : Nat} {a : Option Addr} {len cap g lc : Nat} {ys : List PV} (h : Q8 X w B a len cap g lc ys) {j : Nat} (hj : j < ys.length) {gF : Nat} (hF : (ys.getD j pv0).fa = some ⟨gF, 0, none⟩) : (∃ v, X.cell? ⟨gF, 1, none⟩ = some v) ∧ (∃ v, X.cell? ⟨gF, 2, none⟩ = some v) ∧ ∀ k, X.frozen? ⟨gF, k, none⟩ = false := by
  have hy := h.at hj
  have hr := hy.fo.row
  have hF2 : pvF (ys.getD j pv0) = .slice (some ⟨gF, 0, none⟩) (ys.getD j pv0).xs.length (ys.getD j pv0).fc := by unfold pvF; rw [hF]
  rw [hF2] at hr
  have hn := hy.n
  obtain ⟨_, f1, f2⟩ := fnsV_at (ys.getD j pv0).xs 0 (by omega)
  exact ⟨⟨_, (World.ownsRow.cellAt hr 1 (by omega)).trans f1⟩, ⟨_, (World.ownsRow.cellAt hr 2 (by omega)).trans f2⟩, fun k => World.ownsRow.frozenAt hr k⟩

/-- One package of it, opened. -/
theorem Q8.open {X w : World} {B : Nat} {a : Option Addr} {len cap g lc : Nat} {ys : List PV} (h : Q8 X w B a len cap g lc ys) (hA : A8 ys) {j : Nat} (hj : j < ys.length) : ∃ (gI gF ic fc nF : Nat) (ims : List (List UInt8)), (ys.getD j pv0).fa = some ⟨gF, 0, none⟩ ∧ (1 ≤ nF ∧ nF ≤ 3) ∧ (ims.length ≤ 8 ∧ ∀ t ∈ ims, t.length ≤ 9) ∧
    ∀ Z, Q8 Z w B a len cap g lc ys → Z.cell? ⟨g, j * 3 + 1, none⟩ = some (.slice (some ⟨gI, 0, none⟩) ims.length ic) ∧ Z.cell? ⟨g, j * 3 + 2, none⟩ = some (.slice (some ⟨gF, 0, none⟩) nF fc) ∧ Z.ownsRow w.heap.size 9 1 (.slice (some ⟨gI, 0, none⟩) ims.length ic) ims.length (strV ims) := by
  have hm : ys.getD j pv0 ∈ ys := by simp [List.getD, hj]
  obtain ⟨gF, hF⟩ := h.fn0 hj
  obtain ⟨gI, hI⟩ := hA.sa _ hm
  have hy := h.at hj
  refine ⟨gI, gF, (ys.getD j pv0).ic, (ys.getD j pv0).fc, (ys.getD j pv0).xs.length, (ys.getD j pv0).ims, hF, hy.n, ⟨hA.il _ hm, hy.is.2⟩, fun Z hZ => ?_⟩
  obtain ⟨_, q1, q2⟩ := hZ.cells hj
  have hi := (hZ.at hj).im
  unfold pvI at q1 hi
  unfold pvF at q2
  rw [hI] at q1 hi
  rw [hF] at q2
  exact ⟨q1, q2, hi⟩

theorem put8_small {ims : List (List UInt8)} {fn : List UInt8} (h : ims.length ≤ 8 ∧ ∀ t ∈ ims, t.length ≤ 9) (hf : fn.length ≤ 9) : (put8 ims fn).length ≤ 9 ∧ ∀ t ∈ put8 ims fn, t.length ≤ 9 := by
  refine ⟨by have := (put8_len ims fn).2; omega, fun t ht => ?_⟩
  rcases put8_mem.1 ht with rfl | h1
  · exact hf
  · exact h.2 t h1

set_option maxHeartbeats 8000000 in
set_option maxRecDepth 100000 in
theorem drawAny8 (w : World) (B : Nat) (a : Option Addr) (len cap : Nat) (hc : Cur w B a len cap) :
    Calls Tryz.prog 23 #[.pointer (some ⟨B, 0, none⟩)] w fun e w' => ∃ v, e = .returned v ∧ L8 w w' B a len cap v := by
  go_enter Tryz.func23, Tryz.ntmps23
  go_wp2_with fail
  refine (drawPs w B a len cap hc).mono ?_
  rintro e w1 ⟨L, la, lc, ys, vc, cs, rfl, hd, hn1, hn4⟩
  obtain ⟨g, c, e0⟩ := own_some hd.row (by omega)
  injection e0 with e0 _ e2
  subst e0
  clear e2
  obtain ⟨hq, hA⟩ := hd.q8 ⟨hn1, hn4⟩
  have HA : Hid (A8 ys) := hA
  clear hd hA
  go_wp2_with fail
  refine (drawOnce w1 B a len cap 6 (by omega) (by omega) hq.cur).mono ?_
  rintro e w2 ⟨b2, rfl, hc2, hg2⟩
  have HQ2 : Hid (Q8 w2 w B a len cap g lc ys) := hq.next hg2 hc2
  clear hq hc2 hg2
  rcases b2 with _ | _
  · go_wp2
    go_ret
    exact ⟨_, rfl, HQ2.out.l8⟩
  · go_wp2_with fail
    refine (drawBelow w2 B a len cap (ys.length : Int) (by omega) (by omega) HQ2.out.cur).mono ?_
    rintro e w3 ⟨x3, rfl, h30, h31, hc3, hg3⟩
    obtain ⟨j, rfl⟩ : ∃ j : Nat, x3 = (j : Int) := Int.eq_ofNat_of_zero_le h30
    have HQ3 : Hid (Q8 w3 w B a len cap g lc ys) := HQ2.out.next hg3 hc3
    have hj : j < ys.length := by omega
    clear HQ2 hc3 hg3
    go_wp2_with fail
    refine (drawBelow w3 B a len cap 6 (by omega) (by omega) HQ3.out.cur).mono ?_
    rintro e w4 ⟨x4, rfl, h40, h41, hc4, hg4⟩
    have HQ4 : Hid (Q8 w4 w B a len cap g lc ys) := HQ3.out.next hg4 hc4
    clear HQ3 hc4 hg4
    obtain ⟨gI, gF, ic, fc, nF, ims, hF, hnF, his, hZ⟩ := HQ4.out.open HA.out hj
    have HF : Hid ((ys.getD j pv0).fa = some ⟨gF, 0, none⟩) := hF
    have HIs : Hid (ims.length ≤ 8 ∧ ∀ t ∈ ims, t.length ≤ 9) := his
    have HZ : Hid (∀ Z, Q8 Z w B a len cap g lc ys → Z.cell? ⟨g, j * 3 + 1, none⟩ = some (.slice (some ⟨gI, 0, none⟩) ims.length ic) ∧ Z.cell? ⟨g, j * 3 + 2, none⟩ = some (.slice (some ⟨gF, 0, none⟩) nF fc) ∧ Z.ownsRow w.heap.size 9 1 (.slice (some ⟨gI, 0, none⟩) ims.length ic) ims.length (strV ims)) := hZ
    obtain ⟨q1, q2, _⟩ := HZ.out w4 HQ4.out
    have hnF0 : (0 : Int) < (nF : Int) := by omega
    have hcap : (ys.length : Int) ≤ (lc : Int) := by have := HQ4.out.ok.hcap; omega
    have hB4 : B < w4.heap.size := HQ4.out.cur.lt
    have hs4 : w.heap.size ≤ w4.heap.size := HQ4.out.g.size
    clear hF his hZ
    obtain ⟨m, rfl⟩ : ∃ m : Nat, x4 = (m : Int) := Int.eq_ofNat_of_zero_le h40
    have hm : m = 0 ∨ m = 1 ∨ m = 2 ∨ m = 3 ∨ m = 4 ∨ m = 5 := by omega
    rcases hm with rfl | rfl | rfl | rfl | rfl | rfl
    · have q1a : ∀ o, (w4.alloc o).cell? ⟨g, j * 3 + 1, none⟩ = some (.slice (some ⟨gI, 0, none⟩) ims.length ic) := fun o => (HZ.out (w4.alloc o) (HQ4.out.alloc o)).1
      have hil : ims.length ≤ 1048576 := by have := HIs.out.1; omega
      go_wp2_with fail
      go_region_with (first | (go_at_call 24; refine (drawBelow _ B a len cap 3 (by omega) (by omega) (by first | exact (HQ4.out.alloc _).drew.cur | exact HQ4.out.drew.cur)).mono ?_; rintro e w5 ⟨x, rfl, hx0, hx1, hc5, hg5⟩; obtain ⟨T, rfl⟩ : ∃ T : Nat, x = (T : Int) := Int.eq_ofNat_of_zero_le hx0; have hT3 : T < 3 := (by omega); obtain ⟨fn, hfn, hget⟩ := str3_at [109, 97, 105, 110] [122, 122] [99] T hT3 (by decide) (by decide) (by decide); have HPs : Hid ((put8 ims fn).length ≤ 9 ∧ ∀ t ∈ put8 ims fn, t.length ≤ 9) := put8_small HIs.out hfn; (first | (have nL := box3_at (box_up1 (V := w4) hg5 hB4).1 hT3 hget; have HQ5 : Hid (Q8 w5 w B a len cap g lc ys) := (HQ4.out.alloc _).drew.next hg5 hc5) | (have HQ5 : Hid (Q8 w5 w B a len cap g lc ys) := HQ4.out.drew.next hg5 hc5)); have p1 := (HZ.out w5 HQ5.out).1; have p1a : ∀ o, (w5.alloc o).cell? ⟨g, j * 3 + 1, none⟩ = some (.slice (some ⟨gI, 0, none⟩) ims.length ic) := (fun o => (HZ.out (w5.alloc o) (HQ5.out.alloc o)).1); clear hg5 hc5) | (go_at_call 39; refine (specPut w.heap.size gI ic ims fn _ (by first | exact (HZ.out _ HQ5.out).2.2 | exact (HZ.out _ (HQ5.out.alloc _)).2.2) (by first | exact HQ5.out.g.size | exact (HQ5.out.alloc _).g.size) hil).mono ?_; rintro e w6 ⟨g6, c6, rfl, ho6, hb6⟩; have HQ6 : Hid (Q8 w6 w B a len cap g lc ys) := (by first | exact HQ5.out.below hb6 | exact (HQ5.out.alloc _).below hb6); have p6 := (HZ.out w6 HQ6.out).1; have z6 := HQ6.out.frozen (j * 3 + 1); clear hb6))
      all_goals
        go_wp2
        go_ret
        exact ⟨_, rfl, by have h := (HQ6.out.imps hj ho6 HPs.out).l8; rw [List.length_set] at h; exact h⟩
    · go_wp2_with fail
      go_region_with (go_at_call 24; refine (drawBelow _ B a len cap 4 (by omega) (by omega) HQ4.out.drew.cur).mono ?_; rintro e w5 ⟨x, rfl, hx0, hx1, hc5, hg5⟩; have hq5 := HQ4.out.drew.next hg5 hc5; have p2 := (HZ.out w5 hq5).2.1; obtain ⟨⟨v1, s1⟩, _, z⟩ := hq5.fcell hj HF.out; have z1 := z 1; clear z)
      all_goals
        go_wp2
        go_ret
        obtain ⟨ys', hl, hq'⟩ := hq5.args HA.out hj HF.out x (by omega)
        exact ⟨_, rfl, by have h := hq'.l8; rw [hl] at h; exact h⟩
    · go_wp2_with fail
      go_region_with (go_at_call 40; refine (drawAny6 _ B a len cap HQ4.out.drew.cur).mono ?_; rintro e w5 ⟨v, rfl, t, ho, htl, hts, _, hc5, hg5⟩; have hq5 := HQ4.out.drew.next hg5 hc5; have p2 := (HZ.out w5 hq5).2.1; obtain ⟨ta, tc, rfl, _, _⟩ := own_nodes0 ho; obtain ⟨_, ⟨v2, s2⟩, z⟩ := hq5.fcell hj HF.out; have z2 := z 2; clear z)
      all_goals
        go_wp2
        go_ret
        obtain ⟨ys', hl, hq'⟩ := hq5.tree HA.out hj HF.out ta tc t (own_base ho hs4) (by omega) hts
        exact ⟨_, rfl, by have h := hq'.l8; rw [hl] at h; exact h⟩
    · go_wp2_with fail
      refine (drawBelow _ B a len cap 3 (by omega) (by omega) (HQ4.out.alloc _).cur).mono ?_
      rintro e w5 ⟨x, rfl, hx0, hx1, hc5, hg5⟩
      have hq5 := (HQ4.out.alloc _).next hg5 hc5
      obtain ⟨T, rfl⟩ : ∃ T : Nat, x = (T : Int) := Int.eq_ofNat_of_zero_le hx0
      have bL := box_on box_new hg5 (by omega)
      obtain ⟨fn, hfn, hget⟩ := str3_at [98] [122, 122] [] T (by omega) (by decide) (by decide) (by decide)
      have nL := box3_at bL.1 (by omega) hget
      have p0 := (hq5.cells hj).1
      have z0 := hq5.frozen (j * 3)
      have HL : Hid (Q8 _ w B a len cap g lc _) := hq5.name hj fn hfn
      clear hq5 bL hg5 hc5 hget
      go_wp2_with fail
      go_ret
      exact ⟨_, rfl, by have h := HL.out.l8; rw [List.length_set] at h; exact h⟩
    · by_cases h1 : (1 : Int) < (ys.length : Int)
      · go_wp2
        go_ret
        exact ⟨_, rfl, HQ4.out.l8cut (by omega) (by omega)⟩
      · go_wp2
        go_ret
        exact ⟨_, rfl, HQ4.out.l8⟩
    · go_wp2_with fail
      refine (specTexts (some ⟨gI, 0, none⟩) 0 ic [] _ ⟨rfl, fun q hq => absurd hq (by omega)⟩ (fun e => by cases e) (by omega)).mono ?_
      rintro e w5 ⟨v, rfl, ho, hb5⟩
      have hq5 := HQ4.out.below hb5
      obtain ⟨ia5, ic5, rfl, _, _⟩ := own_texts0 ho
      have p1 := (HZ.out w5 hq5).1
      have z1 := hq5.frozen (j * 3 + 1)
      have HL : Hid (Q8 _ w B a len cap g lc _) := hq5.imps hj (own_base ho hs4) ⟨by simp, fun t ht => by cases ht⟩
      clear hq5
      go_wp2_with fail
      go_ret
      exact ⟨_, rfl, by have h := HL.out.l8; rw [List.length_set] at h; exact h⟩

end Go.Proofs.YtmloocbbcnhooaaGreatDoor

/-! Chapter 8's draws. -/
namespace Go.Proofs.YtmloocbbcnhooaaGreatDoor
open Go.RowKit

/-- What the draws of projects leave. -/
def Drawn8 (w w' : World) (v : Value) : Prop := ∃ la n lc ps, v = .slice la n lc ∧ n ≤ 4 ∧ PkgsOk w' la n lc ps ∧ Below w.heap.size w w'


end Go.Proofs.YtmloocbbcnhooaaGreatDoor

/-! Numbers that came in, as the walks of chapter 10's laws take them; the exact laws' helper over such rows: toInt64S. -/
namespace Go.Proofs.YtmloocbbcnhooaaGreatDoor
open Go.ChangeShapes Go.WideShapes Go.ChangeAt Go.RowKit

theorem info2 : (Tryz.prog.info? 2).map (fun i => (i.zero, i.size, i.bytes)) = some (some (.int .i64 0), 1, 8) := by kernel_rfl

/-- A row of numbers that a call owns is one that can be handed on. -/
theorem nums_as {w : World} {B g n cp : Nat} {xs : List Int} (h : w.ownsRow B 2 1 (.slice (some ⟨g, 0, none⟩) n cp) n (intsV xs)) (hn : xs.length = n) : AsIn w (some ⟨g, 0, none⟩) xs := fun j hj => by
  have hc := h.cellAt j (by omega)
  rw [intsV_at xs j hj] at hc
  refine ⟨g, 0, rfl, World.block_lt_of_cell? w ⟨g, j, none⟩ hc, ?_⟩
  rw [Nat.zero_add, hc]
  simp [List.getD, hj]

end Go.Proofs.YtmloocbbcnhooaaGreatDoor

/-! Chapter 10's draws. -/
namespace Go.Proofs.YtmloocbbcnhooaaGreatDoor
open Go.RowKit

/-- A package of a project that was drawn stays, whatever lies ahead of it. -/
theorem pk_stays10 {w2 : World} {c b off n lc : Nat} {ps : List Pk} (hok : ∀ Y, Agree w2 Y c → PkgsOk Y (some ⟨b, off, none⟩) n lc ps) (hb : c ≤ b) {j : Nat} (hj : j < n) :
    ∃ ia il ic fa fl fc, ∀ Y, Agree w2 Y c → Y.cell? ⟨b, off + j * 3, none⟩ = some (.string ⟨(ps.getD j pk0).1.toArray⟩) ∧ Y.cell? ⟨b, off + j * 3 + 1, none⟩ = some (.slice ia il ic) ∧ Y.cell? ⟨b, off + j * 3 + 2, none⟩ = some (.slice fa fl fc) ∧ PkOk Y (ps.getD j pk0).1 ia il ic fa fl fc (ps.getD j pk0).2.1 (ps.getD j pk0).2.2 := by
  obtain ⟨b0, off0, he, hlt, c0, ia, il, ic, fa, fl, fc, c1, c2, _⟩ := (hok w2 (Agree.refl _ _)).each j hj
  simp only [Option.some.injEq, Addr.mk.injEq, and_true] at he
  obtain ⟨rfl, rfl⟩ := he
  refine ⟨ia, il, ic, fa, fl, fc, fun Y hg => ?_⟩
  have hbk : Y.heap[b]? = w2.heap[b]? := hg.2 b hb hlt
  have d0 := (World.cell?_of_block (a := ⟨b, off + j * 3, none⟩) hbk).trans c0
  have d1 := (World.cell?_of_block (a := ⟨b, off + j * 3 + 1, none⟩) hbk).trans c1
  have d2 := (World.cell?_of_block (a := ⟨b, off + j * 3 + 2, none⟩) hbk).trans c2
  obtain ⟨b1, off1, he, _, _, ia', il', ic', fa', fl', fc', c1', c2', hk⟩ := (hok Y hg).each j hj
  simp only [Option.some.injEq, Addr.mk.injEq, and_true] at he
  obtain ⟨rfl, rfl⟩ := he
  rw [d1] at c1'
  rw [d2] at c2'
  simp only [Option.some.injEq, Value.slice.injEq] at c1' c2'
  obtain ⟨rfl, rfl, rfl⟩ := c1'
  obtain ⟨rfl, rfl, rfl⟩ := c2'
  exact ⟨d0, d1, d2, hk⟩

/-- What DrawMeant holds behind its project: the cursor, the numbers that it makes. -/
structure D10 (Y w2 : World) (B : Nat) (a : Option Addr) (len cap L : Nat) (v : Value) (xs : List Int) : Prop where
  g : w2.grownBy Y (some B)
  cur : Cur Y B a len cap
  row : Y.ownsRow L 2 1 v xs.length (intsV xs)
  ll : w2.heap.size ≤ L
  lh : L ≤ Y.heap.size
  bl : B < w2.heap.size
  wf : ∀ x ∈ xs, -9223372036854775808 ≤ x ∧ x ≤ 9223372036854775807
  so : ∃ g c, v = .slice (some ⟨g, 0, none⟩) xs.length c
theorem nums_wf {xs : List Int} (h : ∀ x ∈ xs, -9223372036854775808 ≤ x ∧ x ≤ 9223372036854775807) {x : Int} (hx : -9223372036854775808 ≤ x ∧ x ≤ 9223372036854775807) : ∀ y ∈ xs ++ [x], -9223372036854775808 ≤ y ∧ y ≤ 9223372036854775807 := fun y hy => by
  rw [List.mem_append, List.mem_singleton] at hy
  rcases hy with hy | rfl
  · exact h y hy
  · exact hx
theorem new_num (w : World) (x : Int) (c : Nat) : Src (w.alloc (.cells #[.int .i64 x] 2)) (.slice (some ⟨w.heap.size, 0, none⟩) 1 c) 1 1 (intsV [x]) := by
  refine ⟨rfl, fun u hu => ?_, Or.inr ⟨⟨w.heap.size, 0, none⟩, c, rfl, fun j u hu => ?_⟩⟩
  · simp [intsV] at hu; subst hu; rfl
  · exact cell_one_new w _ 2 j u hu
section
variable {Y Z w2 : World} {B : Nat} {a : Option Addr} {len cap L : Nat} {v : Value} {xs : List Int}
theorem D10.next (h : D10 Y w2 B a len cap L v xs) (hg : Y.grownBy Z (some B)) (hc : Cur Z B a len cap) : D10 Z w2 B a len cap L v xs :=
  ⟨h.g.trans hg, hc, own_grown h.row hg (fun k e => by injection e with e; have := h.ll; have := h.bl; omega), h.ll, Nat.le_trans h.lh hg.size, h.bl, h.wf, h.so⟩
theorem D10.alloc (h : D10 Y w2 B a len cap L v xs) (o : Obj) : D10 (Y.alloc o) w2 B a len cap L v xs :=
  ⟨h.g.trans (World.grownBy_alloc Y o _), h.cur.kept (World.grownBy_alloc Y o none) (by simp), own_none h.row (World.grownBy_alloc Y o none), h.ll, Nat.le_trans h.lh (World.grownBy_alloc Y o none).size, h.bl, h.wf, h.so⟩
theorem D10.drew (h : D10 Y w2 B a len cap L v xs) : D10 Y.drew w2 B a len cap L v xs :=
  ⟨h.g.trans (grown_drew Y _), h.cur.drew, own_none h.row (grown_drew Y none), h.ll, h.lh, h.bl, h.wf, h.so⟩
theorem D10.new (hg : w2.grownBy Y (some B)) (hc : Cur Y B a len cap) (hb : B < w2.heap.size) (x : Int) (hx : -9223372036854775808 ≤ x ∧ x ≤ 9223372036854775807) : D10 (Y.alloc (.cells #[.int .i64 x] 2)) w2 B a len cap Y.heap.size (.slice (some ⟨Y.heap.size, 0, none⟩) 1 1) [x] :=
  ⟨hg.trans (World.grownBy_alloc Y _ _), hc.kept (World.grownBy_alloc Y _ none) (by simp), World.ownsRow_lit (base := Y.heap.size) (e := 2) (size := 1) Y #[.int .i64 x] 1 (Nat.le_refl _) (by decide) rfl, hg.size, (World.grownBy_alloc Y _ none).size, hb, fun y hy => by rw [List.mem_singleton] at hy; subst hy; exact hx, ⟨_, _, rfl⟩⟩
theorem D10.new0 (hg : w2.grownBy Y (some B)) (hc : Cur Y B a len cap) (hb : B < w2.heap.size) : D10 (Y.alloc (.cells #[] 2)) w2 B a len cap Y.heap.size (.slice (some ⟨Y.heap.size, 0, none⟩) 0 0) [] :=
  ⟨hg.trans (World.grownBy_alloc Y _ _), hc.kept (World.grownBy_alloc Y _ none) (by simp), World.ownsRow_lit (base := Y.heap.size) (e := 2) (size := 1) Y #[] 0 (Nat.le_refl _) (by decide) rfl, hg.size, (World.grownBy_alloc Y _ none).size, hb, fun y hy => (by cases hy), ⟨_, _, rfl⟩⟩
theorem D10.push (h : D10 Y w2 B a len cap L v xs) (x : Int) (hx : -9223372036854775808 ≤ x ∧ x ≤ 9223372036854775807) (hn : xs.length ≤ 100) :
    ∃ g' c' Z, (Builtin.append_ #[25, 25] 25 #[v, .slice (some ⟨Y.heap.size, 0, none⟩) 1 1]).run Tryz.prog (Y.alloc (.cells #[.int .i64 x] 2)) = .ok (.slice (some ⟨g', 0, none⟩) (xs.length + 1) c') Z ∧ D10 Z w2 B a len cap L (.slice (some ⟨g', 0, none⟩) (xs.length + 1) c') (xs ++ [x]) ∧ Y.grownBy Z v.ownBlock := by
  obtain ⟨i0, hi, hz0, hz1, hz2⟩ := info_parts info2
  have h1 := h.alloc (.cells #[.int .i64 x] 2)
  obtain ⟨v', Z, hrun, hown, hg, _⟩ := run_append_src (P := Tryz.prog) (Y.alloc (.cells #[.int .i64 x] 2)) L 25 25 2 i0 _ 1 8 Tryz.underlying25 hi hz0 hz1 hz2 rfl (by decide) _ _ _ h1.row _ 1 (intsV [x]) (new_num Y x 1) (by unfold maxLen; omega) (by omega) h1.lh
  have e1 : (xs ++ [x]).length = xs.length + 1 := by simp
  rw [← intsV_append] at hown
  obtain ⟨g', c', rfl⟩ := own_some hown (by omega)
  have hvB : ∀ k, v.ownBlock = some k → L ≤ k := fun k e => (h.row.lt k e).1
  have hgY : Y.grownBy Z v.ownBlock := (World.grownBy_alloc Y _ _).trans hg
  have hll := h.ll
  have hbl := h.bl
  refine ⟨g', c', Z, hrun, ⟨?_, h.cur.kept hgY (fun k e => by have := hvB k e; omega), by rw [e1]; exact hown, hll, Nat.le_trans h.lh hgY.size, hbl, nums_wf h.wf hx, ⟨_, _, by rw [e1]⟩⟩, hgY⟩
  exact ⟨hgY.os.trans h.g.os, hgY.tape.trans h.g.tape, hgY.output.trans h.g.output, Nat.le_trans h.g.size hgY.size, fun k hk hne => (hgY.block k (Nat.lt_of_lt_of_le hk h.g.size) (fun e => by have := hvB k e.symm; omega)).trans (h.g.block k hk hne)⟩
end

/-- What DrawMeant leaves. -/
def Drawn10 (w w' : World) (v : Value) (s fn : List UInt8) (u : Value) (xs : List Int) (fuel : Int) : Prop :=
  s.length ≤ 1048576 ∧ fn.length ≤ 1048576 ∧ (-1 ≤ fuel ∧ fuel ≤ 20001) ∧ (∃ g c, u = .slice (some ⟨g, 0, none⟩) xs.length c) ∧ w'.ownsRow w.heap.size 2 1 u xs.length (intsV xs) ∧ xs.length ≤ 6 ∧ (∀ x ∈ xs, -9223372036854775808 ≤ x ∧ x ≤ 9223372036854775807) ∧ Drawn8 w w' v
theorem D10.fin {F w w2 : World} {B C : Nat} {a : Option Addr} {len cap L : Nat} {v : Value} {xs : List Int} {la : Option Addr} {n lc : Nat} {ps : List Pk} {s fn : List UInt8} {fuel : Int} (h : D10 F w2 B a len cap L v xs) (hok : ∀ Y, Agree w2 Y C → PkgsOk Y la n lc ps) (hB : w.heap.size = B) (hbel : Below B w w2) (hC : B < C) (hn : n ≤ 4) (hs : s.length ≤ 1048576) (hf : fn.length ≤ 1048576) (hx : xs.length ≤ 6) (hfu : -1 ≤ fuel ∧ fuel ≤ 20001) : Drawn10 w F (.slice la n lc) s fn v xs fuel := by
  subst hB
  refine ⟨hs, hf, hfu, h.so, own_base h.row (Nat.le_trans (Nat.le_of_lt h.bl) h.ll), hx, h.wf, la, n, lc, ps, rfl, hn, hok F (Agree.of_grown h.g hC), ?_⟩
  exact hbel.grown h.g hbel.size (fun k e => by injection e with e; omega)
theorem fuel_bd (y : Int) (h0 : 0 ≤ y) (h1 : y < 10) : -1 ≤ pick [0, 1, 5, 20, 60, 20000, 20000, 20000, 20001, -1] y ∧ pick [0, 1, 5, 20, 60, 20000, 20000, 20000, 20001, -1] y ≤ 20001 := by
  rcases (show y = 0 ∨ y = 1 ∨ y = 2 ∨ y = 3 ∨ y = 4 ∨ y = 5 ∨ y = 6 ∨ y = 7 ∨ y = 8 ∨ y = 9 by omega) with rfl | rfl | rfl | rfl | rfl | rfl | rfl | rfl | rfl | rfl <;> exact ⟨by decide, by decide⟩

end Go.Proofs.YtmloocbbcnhooaaGreatDoor

/-! The contracts of chapter 10's specification: Meant and Burnt. -/
namespace Go.Proofs.YtmloocbbcnhooaaGreatDoor
open Go.RowKit

set_option maxHeartbeats 4000000 in
set_option maxRecDepth 100000 in
theorem specMeant (a : Option Addr) (len cap : Nat) (ps : List Pk) (nm fn : List UInt8) (aa : Option Addr) (ac : Nat) (xs : List Int) (fuel : Int) (w : World) (hP : PkgsIn w a len ps) (hlen : len ≤ 1048576) (hsh : ShortPs ps) (hx : AsIn w aa xs) (hxl : xs.length ≤ 1048576) :
    Calls Tryz.prog 11 #[.slice a len cap, .string ⟨nm.toArray⟩, .string ⟨fn.toArray⟩, .slice aa xs.length ac, .int .i64 fuel] w fun e w' => e = .returned (.tuple #[.int .i64 (meantV ps nm fn xs fuel).1, .int .i64 (meantV ps nm fn xs fuel).2]) ∧ Below w.heap.size w w' := by
  have HR : Hid (_) := specRun a len cap ps nm fn aa ac xs fuel w hP hlen hsh hx hxl
  obtain ⟨M, hM⟩ : ∃ M, meantV ps nm fn xs fuel = M := ⟨_, rfl⟩
  have HM : Hid (meantV ps nm fn xs fuel = M) := hM
  rw [hM]
  clear hM hP hsh hx
  go_enter Tryz.func11, Tryz.ntmps11
  go_wp2_with fail
  refine Calls.mono HR.out ?_
  rintro e w1 ⟨hr, hb⟩
  rcases hr with ⟨hno, rfl⟩ | ⟨hok, rfl, l, hwk⟩
  · obtain rfl : M = (0, 3) := HM.out.symm.trans (meant_no hno).1
    clear hno HM HR
    go_wp2
    go_ret2
    exact ⟨rfl, hb⟩
  · have hMe := HM.out.symm.trans (meant_yes hok).1
    obtain ⟨rr, hrr⟩ : ∃ rr, run10 ps nm fn xs fuel.toNat = rr := ⟨_, rfl⟩
    rw [hrr] at hwk hMe ⊢
    obtain ⟨rv, rf, rc⟩ := rr
    simp only at hwk hMe
    subst hMe
    have s2 := hwk.c2
    clear hok HM HR hwk hrr
    go_wp2_with fail
    go_quiet (fail)
    go_wp2
    go_ret2
    exact ⟨rfl, hb.trans ⟨rfl, rfl, rfl, Nat.le_refl _, fun _ _ => rfl⟩⟩

set_option maxHeartbeats 4000000 in
set_option maxRecDepth 100000 in
theorem specBurnt (a : Option Addr) (len cap : Nat) (ps : List Pk) (nm fn : List UInt8) (aa : Option Addr) (ac : Nat) (xs : List Int) (fuel : Int) (w : World) (hP : PkgsIn w a len ps) (hlen : len ≤ 1048576) (hsh : ShortPs ps) (hx : AsIn w aa xs) (hxl : xs.length ≤ 1048576) :
    Calls Tryz.prog 12 #[.slice a len cap, .string ⟨nm.toArray⟩, .string ⟨fn.toArray⟩, .slice aa xs.length ac, .int .i64 fuel] w fun e w' => e = .returned (.int .i64 (burntV ps nm fn xs fuel)) ∧ Below w.heap.size w w' := by
  have HR : Hid (_) := specRun a len cap ps nm fn aa ac xs fuel w hP hlen hsh hx hxl
  obtain ⟨M, hM⟩ : ∃ M, burntV ps nm fn xs fuel = M := ⟨_, rfl⟩
  have HM : Hid (burntV ps nm fn xs fuel = M) := hM
  rw [hM]
  clear hM hP hsh hx
  go_enter Tryz.func12, Tryz.ntmps12
  go_wp2_with fail
  refine Calls.mono HR.out ?_
  rintro e w1 ⟨hr, hb⟩
  rcases hr with ⟨hno, rfl⟩ | ⟨hok, rfl, l, hwk⟩
  · obtain rfl : M = -1 := HM.out.symm.trans (meant_no hno).2
    clear hno HM HR
    go_wp2
    go_ret
    exact ⟨rfl, hb⟩
  · have hle := (Sk10.val ps 20001 (fnOf10 ps nm fn).2.2 0 xs).less (fuel.toNat, 0)
    have hrr0 : run10 ps nm fn xs fuel.toNat = val10 ps 20001 (fnOf10 ps nm fn).2.2 0 xs (fuel.toNat, 0) := rfl
    rw [← hrr0] at hle
    have hf0 := hok.fuel0
    have hf1 := hok.fuel1
    have hMe : M = fuel - ((run10 ps nm fn xs fuel.toNat).2.1 : Int) := HM.out.symm.trans (meant_yes hok).2
    obtain ⟨rr, hrr⟩ : ∃ rr, run10 ps nm fn xs fuel.toNat = rr := ⟨_, rfl⟩
    rw [hrr] at hwk hle hMe ⊢
    obtain ⟨rv, rf, rc⟩ := rr
    simp only at hwk hle hMe
    have s1 := hwk.c1
    have hlo : -9223372036854775808 ≤ fuel - (rf : Int) := by omega
    have hhi : fuel - (rf : Int) ≤ 9223372036854775807 := by omega
    subst hMe
    clear hok HM HR hwk hrr hrr0
    go_wp2
    go_ret
    exact ⟨by first | rfl | (simp; done), hb⟩

end Go.Proofs.YtmloocbbcnhooaaGreatDoor

/-! A code that came in, as the laws' walks take it. -/
namespace Go.Proofs.YtmloocbbcnhooaaGreatDoor
open Go.RowKit

theorem code_nil (w : World) : Code w w.heap.size none 0 := fun j hj => by omega

theorem code_of (w : World) (x : Addr) (len : Nat) (zs : List Int) (h : ∀ i, i < zs.length → w.cell? (x.add i) = some (.int .u8 (zs.getD i 0))) (hl : len ≤ zs.length) (hw : ∀ n ∈ zs, (Lit.int .u8 n).wf = true) : Code w w.heap.size (some x) len := by
  intro j hj
  obtain ⟨b, off, spot⟩ := x
  have hc := h j (by omega)
  have hspot : spot = none := by simpa [Addr.add] using World.cell?_spot (h 0 (by omega))
  subst hspot
  have e : (⟨b, off, none⟩ : Addr).add j = ⟨b, off + j, none⟩ := by unfold Addr.add; split <;> simp_all
  rw [e] at hc
  have hb := bounds_u8 (hw (zs.getD j 0) (by rw [List.getD_eq_getElem?_getD, List.getElem?_eq_getElem (by omega)]; exact List.getElem_mem _))
  exact ⟨b, off, _, rfl, World.block_lt_of_cell? w ⟨b, off + j, none⟩ hc, hc, hb⟩

theorem Code.later {w w' : World} {a : Option Addr} {len : Nat} (h : Code w w.heap.size a len) (hb : Below w.heap.size w w') : Code w' w'.heap.size a len := by
  intro j hj
  obtain ⟨b, off, x, e1, e2, e3, e0⟩ := h j hj
  exact ⟨b, off, x, e1, Nat.lt_of_lt_of_le e2 hb.size, (hb.cell (p := ⟨b, off + j, none⟩) e2).trans e3, e0⟩

theorem Code.kept {w w' : World} {a : Option Addr} {len : Nat} (h : Code w w.heap.size a len) (hg : w.grownBy w' none) : Code w' w'.heap.size a len :=
  h.later ⟨hg.os, hg.tape, hg.output, hg.size, fun k hk => hg.block k hk (by simp)⟩

set_option maxHeartbeats 400000 in
set_option maxRecDepth 100000 in
theorem bigB (w : World) (a : Option Addr) (len cap : Nat) :
    Calls Tryz.prog 7 #[.slice a len cap] w fun e w' => e = .returned (.bool (decide (4096 < (len : Int)))) ∧ w' = w := by
  go_enter Tryz.func7, Tryz.ntmps7
  go_wp2
  go_ret
  exact ⟨rfl, rfl⟩

end Go.Proofs.YtmloocbbcnhooaaGreatDoor

/-! Plain facts of chapter 8: what FnOrder and FnReaches test. -/
namespace Go.Proofs.YtmloocbbcnhooaaGreatDoor
open Go.RowKit

/-- What FnReaches looks for in the answer. -/
def Seed8 (ps : List Pk) (o : List (List UInt8)) (s x : List UInt8) : Prop := x = s ∨ ∃ p ∈ ps, p.1 ∈ o ∧ x ∈ p.2.1 ∧ x ∈ names8 ps
end Go.Proofs.YtmloocbbcnhooaaGreatDoor

/-! The laws' own helpers for chapter 8: has, rises. -/
namespace Go.Proofs.YtmloocbbcnhooaaGreatDoor
open Go.RowKit

set_option maxHeartbeats 1000000 in
set_option maxRecDepth 100000 in
theorem lawHas (a : Option Addr) (len cap : Nat) (ts : List (List UInt8)) (s : List UInt8) (w : World) (hin : TextsIn w a len ts) (hlen : len ≤ 4194304) :
    Calls Tryz.prog 16 #[.slice a len cap, .string ⟨s.toArray⟩] w fun e w' => e = .returned (.bool (decide (s ∈ ts))) ∧ w' = w := by
  obtain rfl : ts.length = len := hin.1
  have HI : Hid (TextsIn w a ts.length ts) := hin
  clear hin
  go_enter Tryz.func16, Tryz.ntmps16
  go_wp2
  go_loopw [5] (fun iv wr => ∃ k : Nat, iv = .int .i64 (k : Int) ∧ k ≤ ts.length ∧ Hid (∀ i, i < k → ts.getD i [] ≠ s) ∧ wr = w) (fun iv _ => ts.length - (intOf iv).toNat)
  case atStart => exact ⟨0, rfl, by omega, (fun i hi => by omega), rfl⟩
  case round =>
    obtain ⟨k, rfl, hk, HA, rfl⟩ := hrel
    by_cases hlt : (k : Int) < (ts.length : Int)
    · have hk2 : k < ts.length := by omega
      obtain ⟨b, off, rfl, hbl, c0⟩ := HI.out.2 k hk2
      have hmem := getD_mem8 hk2
      obtain ⟨x, hx⟩ : ∃ x, ts.getD k [] = x := ⟨_, rfl⟩
      rw [hx] at c0 hmem
      by_cases hxs : x = s
      · subst hxs
        have HR : Hid (decide (x ∈ ts) = true) := decide_eq_true hmem
        have hself : (x == x) = true := by simp
        clear HA hx hmem
        go_wp2
        go_ret
        exact ⟨by rw [HR.out]; rfl, rfl⟩
      · have HA2 : Hid (∀ i, i < k + 1 → ts.getD i [] ≠ s) := fun i hi => by
          rcases Nat.lt_or_ge i k with h | h
          · exact HA.out i h
          · obtain rfl : i = k := by omega
            rw [hx]; exact hxs
        have hne : (x == s) = false := by rw [beq_eq_false_iff_ne]; exact hxs
        clear HA hx hmem
        go_wp2
        go_roundw
        case rel => exact ⟨k + 1, by go_num, by omega, HA2, trivial⟩
        case measure => simp [intOf]; omega
    · have HR : Hid (decide (s ∈ ts) = false) := decide_eq_false (mem_take_step HA.out (by omega))
      go_wp2
      go_ret
      exact ⟨by rw [HR.out]; rfl, rfl⟩



end Go.Proofs.YtmloocbbcnhooaaGreatDoor

/-! The law FnMeans, over what DrawMeant leaves. -/
namespace Go.Proofs.YtmloocbbcnhooaaGreatDoor
open Go.RowKit

set_option maxHeartbeats 8000000 in
set_option maxRecDepth 100000 in
theorem lawMeans (hdr : ∀ (w : World) (a : Option Addr) (len cap : Nat), len ≤ 4096 → Code w w.heap.size a len → Calls Tryz.prog 8 #[.slice a len cap] w fun e w' => ∃ v s fn u xs fuel, e = .returned (.tuple #[v, .string ⟨(s : List UInt8).toArray⟩, .string ⟨(fn : List UInt8).toArray⟩, u, .int .i64 fuel]) ∧ Drawn10 w w' v s fn u xs fuel)
    (w : World) (a : Option Addr) (len cap : Nat) (hcode : Code w w.heap.size a len) (er : Nat → Addr) (hT : Err8 w er) :
    Calls Tryz.prog 3 #[.slice a len cap] w fun e w' => e = .returned (.bool true) ∧ Below w.heap.size w w' := by
  by_cases hbig : 4096 < (len : Int)
  · have hd : decide (4096 < (len : Int)) = true := decide_eq_true hbig
    go_enter Tryz.func3, Tryz.ntmps3
    go_wp2_with (go_at_call 7; refine (bigB _ _ _ _).mono ?_; rintro e w' ⟨rfl, rfl⟩)
    go_ret
    exact ⟨rfl, Below.refl _ _⟩
  · have hd : decide (4096 < (len : Int)) = false := decide_eq_false hbig
    go_enter Tryz.func3, Tryz.ntmps3
    go_wp2_with fail
    refine (bigB _ _ _ _).mono ?_
    rintro e w1 ⟨rfl, hw1⟩
    obtain rfl := hw1.symm
    go_wp2_with fail
    refine (hdr _ _ _ _ (by omega) hcode).mono ?_
    rintro e w2 ⟨v, s, fn, u, xs, fuel, rfl, hsl, hfl, ⟨hfu0, hfu1⟩, ⟨g, c, rfl⟩, hrow, hxl, hxw, la, n, lc, ps, rfl, hn, hok, hB2⟩
    obtain rfl : ps.length = n := hok.hlen
    have has : AsIn w2 (some ⟨g, 0, none⟩) xs := nums_as hrow rfl
    have HIm : Hid (∀ f Z, -9223372036854775808 ≤ f → f ≤ 9223372036854775807 → Below w2.heap.size w2 Z → Calls Tryz.prog 9 #[.slice la ps.length lc, .string ⟨s.toArray⟩, .string ⟨fn.toArray⟩, .slice (some ⟨g, 0, none⟩) xs.length c, .int .i64 f] Z fun e w' => e = .returned (.tuple #[.int .i64 (meantV ps s fn xs f).1, .int .i64 (meantV ps s fn xs f).2]) ∧ Below Z.heap.size Z w') := fun f Z _ _ hz => implMeant _ _ _ ps s fn _ _ xs f er Z (hT.below (hB2.trans (hz.mono hB2.size))) (hok.below hz) (has.below hz) (by omega)
    have HIb : Hid (∀ Z, Below w2.heap.size w2 Z → Calls Tryz.prog 10 #[.slice la ps.length lc, .string ⟨s.toArray⟩, .string ⟨fn.toArray⟩, .slice (some ⟨g, 0, none⟩) xs.length c, .int .i64 fuel] Z fun e w' => e = .returned (.int .i64 (burntV ps s fn xs fuel)) ∧ Below Z.heap.size Z w') := fun Z hz => implBurnt _ _ _ ps s fn _ _ xs fuel er Z (hT.below (hB2.trans (hz.mono hB2.size))) (hok.below hz) (has.below hz) (by omega)
    have HSm : Hid (∀ Z, Below w2.heap.size w2 Z → Calls Tryz.prog 11 #[.slice la ps.length lc, .string ⟨s.toArray⟩, .string ⟨fn.toArray⟩, .slice (some ⟨g, 0, none⟩) xs.length c, .int .i64 fuel] Z fun e w' => e = .returned (.tuple #[.int .i64 (meantV ps s fn xs fuel).1, .int .i64 (meantV ps s fn xs fuel).2]) ∧ Below Z.heap.size Z w') := fun Z hz => specMeant _ _ _ ps s fn _ _ xs fuel Z (hok.below hz).in (by omega) (hok.short) (has.below hz) (by omega)
    have HSb : Hid (∀ Z, Below w2.heap.size w2 Z → Calls Tryz.prog 12 #[.slice la ps.length lc, .string ⟨s.toArray⟩, .string ⟨fn.toArray⟩, .slice (some ⟨g, 0, none⟩) xs.length c, .int .i64 fuel] Z fun e w' => e = .returned (.int .i64 (burntV ps s fn xs fuel)) ∧ Below Z.heap.size Z w') := fun Z hz => specBurnt _ _ _ ps s fn _ _ xs fuel Z (hok.below hz).in (by omega) (hok.short) (has.below hz) (by omega)
    have HL := means_law ps s fn xs fuel
    have HI0 : Hid (∀ Z, Below w2.heap.size w2 Z → Calls Tryz.prog 9 #[.slice la ps.length lc, .string ⟨s.toArray⟩, .string ⟨fn.toArray⟩, .slice (some ⟨g, 0, none⟩) xs.length c, .int .i64 fuel] Z fun e w' => e = .returned (.tuple #[.int .i64 (meantV ps s fn xs fuel).1, .int .i64 (meantV ps s fn xs fuel).2]) ∧ Below Z.heap.size Z w') := fun Z hz => HIm.out fuel Z (by omega) (by omega) hz
    obtain ⟨M, hM⟩ : ∃ M, meantV ps s fn xs fuel = M := ⟨_, rfl⟩
    obtain ⟨b, hb⟩ : ∃ b, burntV ps s fn xs fuel = b := ⟨_, rfl⟩
    rw [hM] at HSm HL HI0
    rw [hb] at HIb HSb HL
    obtain ⟨mv, mk⟩ := M
    simp only at HSm HI0 HL
    clear hM hb hok has hrow hxw hcode hdr hT
    have hB : Below w2.heap.size w2 w2 := Below.refl _ _
    have HB0 : Hid (Below w.heap.size w w2) := hB2
    clear hB2
    have hs1 : (mv != mv) = false := by simp
    have hs2 : (mk != mk) = false := by simp
    have hs3 : (b != b) = false := by simp
    generalize xs.length = nx at *
    go_wp2_with fail
    refine (HI0.out _ hB).mono ?_
    rintro e w3 ⟨rfl, hb3⟩
    replace hB := hB.trans (hb3.mono hB.size)
    clear hb3
    go_wp2_with fail
    refine (HIb.out _ hB).mono ?_
    rintro e w4 ⟨rfl, hb4⟩
    replace hB := hB.trans (hb4.mono hB.size)
    clear hb4
    go_wp2_with fail
    refine (HSm.out _ hB).mono ?_
    rintro e w5 ⟨rfl, hb5⟩
    replace hB := hB.trans (hb5.mono hB.size)
    clear hb5
    go_wp2_with fail
    refine (HSb.out _ hB).mono ?_
    rintro e w6 ⟨rfl, hb6⟩
    replace hB := hB.trans (hb6.mono hB.size)
    have HE6 : Hid (Below w.heap.size w w6) := HB0.out.trans (hB.mono HB0.out.size)
    clear hb6
    by_cases h3 : mk = 3
    · obtain ⟨rfl, rfl⟩ := HL.1 h3
      subst h3
      clear HL
      go_wp2
      go_ret
      exact ⟨rfl, HE6.out⟩
    have h3b : (mk == 3) = false := beq_eq_false_iff_ne.2 h3
    obtain ⟨⟨hb0, hb1⟩, hfu, hw, hk, h2, h0⟩ := HL.2 h3
    have hwi : inB mv (-2147483648) 2147483647 = true := inB_yes _ _ _ hw.1 hw.2
    have hn0 : ¬ b < 0 := by omega
    have hn1 : ¬ fuel < b := by omega
    clear HL
    by_cases h2k : mk = 2
    · obtain ⟨rfl, rfl⟩ := h2 h2k
      subst h2k
      go_wp2_with (go_at_call 13; refine (specWordOk _ _).mono ?_; rintro e w' ⟨rfl, rfl⟩)
      go_ret
      exact ⟨rfl, HE6.out⟩
    have h2b : (mk == 2) = false := beq_eq_false_iff_ne.2 h2k
    obtain ⟨ha, hm, hls⟩ := h0 h2k
    have HX : Hid (∀ Z, Below w2.heap.size w2 Z → Calls Tryz.prog 9 #[.slice la ps.length lc, .string ⟨s.toArray⟩, .string ⟨fn.toArray⟩, .slice (some ⟨g, 0, none⟩) nx c, .int .i64 b] Z fun e w' => e = .returned (.tuple #[.int .i64 mv, .int .i64 mk]) ∧ Below Z.heap.size Z w') := fun Z hz => by have := HIm.out b Z (by omega) (by omega) hz; rw [ha] at this; exact this
    have HY : Hid (∀ Z, Below w2.heap.size w2 Z → Calls Tryz.prog 9 #[.slice la ps.length lc, .string ⟨s.toArray⟩, .string ⟨fn.toArray⟩, .slice (some ⟨g, 0, none⟩) nx c, .int .i64 20000] Z fun e w' => e = .returned (.tuple #[.int .i64 mv, .int .i64 mk]) ∧ Below Z.heap.size Z w') := fun Z hz => by have := HIm.out 20000 Z (by omega) (by omega) hz; rw [hm] at this; exact this
    have HW : Hid (∀ Z, Below w2.heap.size w2 Z → Calls Tryz.prog 9 #[.slice la ps.length lc, .string ⟨s.toArray⟩, .string ⟨fn.toArray⟩, .slice (some ⟨g, 0, none⟩) nx c, .int .i64 (b - 1)] Z fun e w' => e = .returned (.tuple #[.int .i64 (meantV ps s fn xs (b - 1)).1, .int .i64 (meantV ps s fn xs (b - 1)).2]) ∧ Below Z.heap.size Z w') := fun Z hz => HIm.out (b - 1) Z (by omega) (by omega) hz
    obtain ⟨N, hN⟩ : ∃ N, meantV ps s fn xs (b - 1) = N := ⟨_, rfl⟩
    rw [hN] at HW hls
    obtain ⟨nv, nk⟩ := N
    simp only at HW hls
    have hnk : (nk != 0) = true := by simpa using hls
    clear hN ha hm h0 h2 HIm HI0 HIb HSm HSb
    go_wp2_with (go_at_call 13; refine (specWordOk _ _).mono ?_; rintro e w' ⟨rfl, rfl⟩)
    refine (HX.out _ hB).mono ?_
    rintro e w7 ⟨rfl, hb7⟩
    replace hB := hB.trans (hb7.mono hB.size)
    clear hb7
    go_wp2_with fail
    refine (HY.out _ hB).mono ?_
    rintro e w8 ⟨rfl, hb8⟩
    replace hB := hB.trans (hb8.mono hB.size)
    clear hb8
    go_wp2_with fail
    refine (HW.out _ hB).mono ?_
    rintro e w9 ⟨rfl, hb9⟩
    replace hB := hB.trans (hb9.mono hB.size)
    have HE9 : Hid (Below w.heap.size w w9) := HB0.out.trans (hB.mono HB0.out.size)
    clear hb9
    go_wp2
    go_ret
    exact ⟨rfl, HE9.out⟩

end Go.Proofs.YtmloocbbcnhooaaGreatDoor
