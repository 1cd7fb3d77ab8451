/-
  Parts of one proof, one behind the other: DrawTr, DrawTr2, DrawTr3, DrawTr4.
-/
import Derived.Test.YtogobeegibngiaaGreatDoorP12
import Derived.Test.YtogobeegibngiaaGreatDoorP6
import Derived.Test.YtogobeegibngiaaGreatDoorP5
import Derived.Deep.Cut
import Derived.Test.YtogobeegibngiaaGreatDoorP4

/-! A tree is drawn. -/
namespace Go.Proofs.YtogobeegibngiaaGreatDoor
open Go.RowKit

def SmallN (n : Nd) : Prop := IntN n ∧ n.2.2.1.length ≤ 9 ∧ n.2.2.2.length ≤ 9

def SmallT (ns : List Nd) : Prop := ∀ n ∈ ns, SmallN n

theorem own_src {w : World} {base e size n : Nat} {v : Value} {xs : List Value} (h : w.ownsRow base e size v n xs) (h1 : ∀ u ∈ xs, u.oneCell' = true) : Src w v n size xs := by
  refine ⟨h.1, h1, ?_⟩
  rcases own_forms h with ⟨rfl, rfl, _⟩ | ⟨g, cp, rfl⟩
  · exact Or.inl ⟨rfl, rfl⟩
  · refine Or.inr ⟨⟨g, 0, none⟩, cp, rfl, fun j u hu => ?_⟩
    have e : (⟨g, 0, none⟩ : Addr).add j = ⟨g, j, none⟩ := by unfold Addr.add; split <;> simp_all
    have hj : j < xs.length := by
      rcases Nat.lt_or_ge j xs.length with h | h
      · exact h
      · rw [List.getElem?_eq_none h] at hu; cases hu
    rw [e, h.cellAt j (by rw [← h.1]; exact hj)]
    exact hu

theorem lit1 (w W : World) (n : Nd) (hb : w.heap.size ≤ W.heap.size) :
    (W.alloc (.cells #[.int .i64 n.1, .int .i64 n.2.1, .string ⟨n.2.2.1.toArray⟩, .string ⟨n.2.2.2.toArray⟩] 91)).ownsRow w.heap.size 91 4 (.slice (some ⟨W.heap.size, 0, none⟩) 1 1) 1 (nodesV [n]) := by
  have := World.ownsRow_lit (base := w.heap.size) (e := 91) (size := 4) W #[.int .i64 n.1, .int .i64 n.2.1, .string ⟨n.2.2.1.toArray⟩, .string ⟨n.2.2.2.toArray⟩] 1 hb (by decide) rfl
  simpa [nodesV] using this

theorem own_ge {w : World} {base e size n : Nat} {v : Value} {xs : List Value} (h : w.ownsRow base e size v n xs) : ∀ q, v.ownBlock = some q → base ≤ q := fun q e => (h.lt q e).1

def BoxN (W : World) (D : Nat) (n : Nd) : Prop :=
  W.cell? ⟨D, 0, none⟩ = some (.int .i64 n.1) ∧ W.cell? ⟨D, 1, none⟩ = some (.int .i64 n.2.1) ∧ W.cell? ⟨D, 2, none⟩ = some (.string ⟨n.2.2.1.toArray⟩) ∧ W.cell? ⟨D, 3, none⟩ = some (.string ⟨n.2.2.2.toArray⟩) ∧ ∀ j, W.frozen? ⟨D, j, none⟩ = false

theorem BoxN.lt {W : World} {D : Nat} {n : Nd} (h : BoxN W D n) : D < W.heap.size := World.block_lt_of_cell? _ ⟨D, 0, none⟩ h.1

theorem BoxN.kept {W W' : World} {D B : Nat} {n : Nd} (h : BoxN W D n) (hg : W.grownBy W' (some B)) (hne : D ≠ B) : BoxN W' D n := by
  have hb : W'.heap[D]? = W.heap[D]? := hg.block D h.lt (by simp; omega)
  obtain ⟨h0, h1, h2, h3, hf⟩ := h
  exact ⟨(World.cell?_of_block (a := ⟨D, 0, none⟩) hb).trans h0, (World.cell?_of_block (a := ⟨D, 1, none⟩) hb).trans h1, (World.cell?_of_block (a := ⟨D, 2, none⟩) hb).trans h2, (World.cell?_of_block (a := ⟨D, 3, none⟩) hb).trans h3, fun j => (World.frozen?_of_block (a := ⟨D, j, none⟩) hb).trans (hf j)⟩

theorem box_kind {W : World} {D : Nat} {n : Nd} (h : BoxN W D n) (k : Int) : BoxN (W.setCell ⟨D, 0, none⟩ (.int .i64 k)) D (k, n.2) := by
  obtain ⟨h0, h1, h2, h3, hf⟩ := h
  exact ⟨World.cell?_setCell_same _ _ _ h0, (World.cell?_setCell_other _ _ _ _ (by simp)).trans h1, (World.cell?_setCell_other _ _ _ _ (by simp)).trans h2, (World.cell?_setCell_other _ _ _ _ (by simp)).trans h3, fun j => by simpa using hf j⟩

theorem grown_set4 (W : World) (D : Nat) (a b c d : Value) : W.grownBy ((((W.setCell ⟨D, 0, none⟩ a).setCell ⟨D, 1, none⟩ b).setCell ⟨D, 2, none⟩ c).setCell ⟨D, 3, none⟩ d) (some D) :=
  (((grown_setCell _ _ _ _).trans (grown_setCell _ _ _ _)).trans (grown_setCell _ _ _ _)).trans (grown_setCell _ _ _ _)

theorem small0 (k : Int) (h0 : -9223372036854775808 ≤ k) (h1 : k ≤ 9223372036854775807) : SmallN ((k, 0, [], []) : Nd) := ⟨⟨⟨h0, h1⟩, ⟨by simp, by simp⟩⟩, by simp, by simp⟩

theorem kids0 (k : Int) : kidsV ((k, 0, [], []) : Nd) ≤ 3 := by unfold kidsV; simp only; split <;> (try split) <;> (try split) <;> omega

theorem own_ne4 {v : Value} {B : Nat} (hd : ∀ q, v.ownBlock = some q → q = B → False) : v.ownBlock = none ∨ v.ownBlock ≠ some B := by
  rcases hv : v.ownBlock with _ | q
  · exact Or.inl rfl
  · exact Or.inr (fun e => hd q hv (by injection e))

theorem put4c {W : World} {D : Nat} {u0 u1 u2 u3 : Value} (a b c d : Value) (r0 : W.cell? ⟨D, 0, none⟩ = some u0) (r1 : W.cell? ⟨D, 1, none⟩ = some u1) (r2 : W.cell? ⟨D, 2, none⟩ = some u2) (r3 : W.cell? ⟨D, 3, none⟩ = some u3) :
    ((((W.setCell ⟨D, 0, none⟩ a).setCell ⟨D, 1, none⟩ b).setCell ⟨D, 2, none⟩ c).setCell ⟨D, 3, none⟩ d).cell? ⟨D, 0, none⟩ = some a ∧
    ((((W.setCell ⟨D, 0, none⟩ a).setCell ⟨D, 1, none⟩ b).setCell ⟨D, 2, none⟩ c).setCell ⟨D, 3, none⟩ d).cell? ⟨D, 1, none⟩ = some b ∧
    ((((W.setCell ⟨D, 0, none⟩ a).setCell ⟨D, 1, none⟩ b).setCell ⟨D, 2, none⟩ c).setCell ⟨D, 3, none⟩ d).cell? ⟨D, 2, none⟩ = some c ∧
    ((((W.setCell ⟨D, 0, none⟩ a).setCell ⟨D, 1, none⟩ b).setCell ⟨D, 2, none⟩ c).setCell ⟨D, 3, none⟩ d).cell? ⟨D, 3, none⟩ = some d := by
  refine ⟨?_, ?_, ?_, ?_⟩
  · exact (World.cell?_setCell_other _ _ _ _ (by simp)).trans ((World.cell?_setCell_other _ _ _ _ (by simp)).trans ((World.cell?_setCell_other _ _ _ _ (by simp)).trans (World.cell?_setCell_same _ _ _ r0)))
  · exact (World.cell?_setCell_other _ _ _ _ (by simp)).trans ((World.cell?_setCell_other _ _ _ _ (by simp)).trans (World.cell?_setCell_same _ _ _ ((World.cell?_setCell_other _ _ _ _ (by simp)).trans r1)))
  · exact (World.cell?_setCell_other _ _ _ _ (by simp)).trans (World.cell?_setCell_same _ _ _ ((World.cell?_setCell_other _ _ _ _ (by simp)).trans ((World.cell?_setCell_other _ _ _ _ (by simp)).trans r2)))
  · exact World.cell?_setCell_same _ _ _ ((World.cell?_setCell_other _ _ _ _ (by simp)).trans ((World.cell?_setCell_other _ _ _ _ (by simp)).trans ((World.cell?_setCell_other _ _ _ _ (by simp)).trans r3)))

theorem box_all {W : World} {D : Nat} {n : Nd} (h : BoxN W D n) (m : Nd) : BoxN ((((W.setCell ⟨D, 0, none⟩ (.int .i64 m.1)).setCell ⟨D, 1, none⟩ (.int .i64 m.2.1)).setCell ⟨D, 2, none⟩ (.string ⟨m.2.2.1.toArray⟩)).setCell ⟨D, 3, none⟩ (.string ⟨m.2.2.2.toArray⟩)) D m := by
  obtain ⟨h0, h1, h2, h3, hf⟩ := h
  obtain ⟨g0, g1, g2, g3⟩ := put4c (.int .i64 m.1) (.int .i64 m.2.1) (.string ⟨m.2.2.1.toArray⟩) (.string ⟨m.2.2.2.toArray⟩) h0 h1 h2 h3
  exact ⟨g0, g1, g2, g3, fun j => by simpa using hf j⟩

set_option maxHeartbeats 8000000 in
set_option maxRecDepth 100000 in
theorem drawTree6 : ∀ (d : Nat) (w : World) (B : Nat) (a : Option Addr) (len cap : Nat) (args : Int) (ca : Option Addr) (cl cc : Nat) (calls : List Nd), d ≤ 100 → 0 ≤ args → args ≤ 1000 → Cur w B a len cap → NodesIn w ca cl calls → cl ≤ 1000 → (∀ j, SmallN (calls.getD j nd0)) → (∀ j, kidsV (calls.getD j nd0) ≤ 3) → (∀ b off, ca = some ⟨b, off, none⟩ → b ≠ B) →
    Calls Tryz.prog 74 #[.pointer (some ⟨B, 0, none⟩), .int .i64 d, .int .i64 args, .slice ca cl cc] w fun e w' => ∃ v ns, e = .returned v ∧ w'.ownsRow w.heap.size 91 4 v ns.length (nodesV ns) ∧ ns.length ≤ 60 ∧ SmallT ns ∧ Cur w' B a len cap ∧ w.grownBy w' (some B) := by
  intro d
  induction d with
  | zero =>
    intro w B a len cap args ca cl cc calls hd ha0 ha1 hc hin hcl hsm hkd hne
    have hg : w.grownBy w (some B) := World.grownBy.refl _ _
    clear hin hsm hkd hne
    go_enter Tryz.func74, Tryz.ntmps74
    by_cases hap : 0 < args
    · go_wp2_with fail
      refine (drawOnce _ B a len cap 2 (by omega) (by omega) hc).mono ?_
      rintro e wo ⟨bo, rfl, hco, hgo⟩
      have hgp := hg.trans hgo
      rcases bo with _ | _
      · go_wp2_with fail
        refine (drawWord _ B a len cap hco).mono ?_
        rintro e wv ⟨xv, rfl, hv0, hv1, hcv, hgv⟩
        have hgw := hgp.trans hgv
        have hown := lit1 w wv ((1, xv, [], []) : Nd) hgw.size
        have hgz := hgw.trans (World.grownBy_alloc wv (.cells #[.int .i64 1, .int .i64 xv, .string ⟨#[]⟩, .string ⟨#[]⟩] 91) (some B))
        have hcz := hcv.kept (World.grownBy_alloc wv (.cells #[.int .i64 1, .int .i64 xv, .string ⟨#[]⟩, .string ⟨#[]⟩] 91) none) (by simp)
        simp only at hown
        go_wp2
        go_ret
        exact ⟨_, [((1, xv, [], []) : Nd)], rfl, hown, by simp, by intro m hm; rw [List.mem_singleton] at hm; subst hm; exact ⟨⟨⟨by simp, by simp⟩, ⟨by simp only; omega, by simp only; omega⟩⟩, by simp, by simp⟩, hcz, hgz⟩
      · go_wp2_with fail
        refine (drawBelow _ B a len cap args (by omega) (by omega) hco).mono ?_
        rintro e wv ⟨xv, rfl, hv0, hv1, hcv, hgv⟩
        have hgw := hgp.trans hgv
        have hown := lit1 w wv ((2, xv, [], []) : Nd) hgw.size
        have hgz := hgw.trans (World.grownBy_alloc wv (.cells #[.int .i64 2, .int .i64 xv, .string ⟨#[]⟩, .string ⟨#[]⟩] 91) (some B))
        have hcz := hcv.kept (World.grownBy_alloc wv (.cells #[.int .i64 2, .int .i64 xv, .string ⟨#[]⟩, .string ⟨#[]⟩] 91) none) (by simp)
        simp only at hown
        go_wp2
        go_ret
        exact ⟨_, [((2, xv, [], []) : Nd)], rfl, hown, by simp, by intro m hm; rw [List.mem_singleton] at hm; subst hm; exact ⟨⟨⟨by simp, by simp⟩, ⟨by simp only; omega, by simp only; omega⟩⟩, by simp, by simp⟩, hcz, hgz⟩
    · go_wp2_with fail
      refine (drawWord _ B a len cap hc).mono ?_
      rintro e wv ⟨xv, rfl, hv0, hv1, hcv, hgv⟩
      have hgw := hg.trans hgv
      have hown := lit1 w wv ((1, xv, [], []) : Nd) hgw.size
      have hgz := hgw.trans (World.grownBy_alloc wv (.cells #[.int .i64 1, .int .i64 xv, .string ⟨#[]⟩, .string ⟨#[]⟩] 91) (some B))
      have hcz := hcv.kept (World.grownBy_alloc wv (.cells #[.int .i64 1, .int .i64 xv, .string ⟨#[]⟩, .string ⟨#[]⟩] 91) none) (by simp)
      simp only at hown
      go_wp2
      go_ret
      exact ⟨_, [((1, xv, [], []) : Nd)], rfl, hown, by simp, by intro m hm; rw [List.mem_singleton] at hm; subst hm; exact ⟨⟨⟨by simp, by simp⟩, ⟨by simp only; omega, by simp only; omega⟩⟩, by simp, by simp⟩, hcz, hgz⟩
  | succ d ih =>
    intro w B a len cap args ca cl cc calls hd ha0 ha1 hc hin hcl hsm hkd hne
    have HIH : Hid (_) := ih
    have HIN : Hid (NodesIn w ca cl calls) := hin
    have HSM : Hid (∀ j, SmallN (calls.getD j nd0)) := hsm
    have HKD : Hid (∀ j, kidsV (calls.getD j nd0) ≤ 3) := hkd
    have HNE : Hid (∀ b off, ca = some ⟨b, off, none⟩ → b ≠ B) := hne
    have hBw := hc.lt
    have hd0 : ((d + 1 : Nat) : Int) ≠ 0 := by omega
    have hd1 : (((d + 1 : Nat) : Int) == 0) = false := by rw [beq_eq_false_iff_ne]; exact hd0
    clear ih hin hsm hkd hne
    go_enter Tryz.func74, Tryz.ntmps74
    go_wp2_with fail
    refine (drawOnce _ B a len cap 4 (by omega) (by omega) hc).mono ?_
    rintro e w1 ⟨b1, rfl, hc1, hg1⟩
    rcases b1 with _ | _
    rotate_left
    · clear HIH HIN HSM HKD HNE
      by_cases hap : 0 < args
      · go_wp2_with fail
        refine (drawOnce _ B a len cap 2 (by omega) (by omega) hc1).mono ?_
        rintro e wo ⟨bo, rfl, hco, hgo⟩
        have hgp := hg1.trans hgo
        rcases bo with _ | _
        · go_wp2_with fail
          refine (drawWord _ B a len cap hco).mono ?_
          rintro e wv ⟨xv, rfl, hv0, hv1, hcv, hgv⟩
          have hgw := hgp.trans hgv
          have hown := lit1 w wv ((1, xv, [], []) : Nd) hgw.size
          have hgz := hgw.trans (World.grownBy_alloc wv (.cells #[.int .i64 1, .int .i64 xv, .string ⟨#[]⟩, .string ⟨#[]⟩] 91) (some B))
          have hcz := hcv.kept (World.grownBy_alloc wv (.cells #[.int .i64 1, .int .i64 xv, .string ⟨#[]⟩, .string ⟨#[]⟩] 91) none) (by simp)
          simp only at hown
          go_wp2
          go_ret
          exact ⟨_, [((1, xv, [], []) : Nd)], rfl, hown, by simp, by intro m hm; rw [List.mem_singleton] at hm; subst hm; exact ⟨⟨⟨by simp, by simp⟩, ⟨by simp only; omega, by simp only; omega⟩⟩, by simp, by simp⟩, hcz, hgz⟩
        · go_wp2_with fail
          refine (drawBelow _ B a len cap args (by omega) (by omega) hco).mono ?_
          rintro e wv ⟨xv, rfl, hv0, hv1, hcv, hgv⟩
          have hgw := hgp.trans hgv
          have hown := lit1 w wv ((2, xv, [], []) : Nd) hgw.size
          have hgz := hgw.trans (World.grownBy_alloc wv (.cells #[.int .i64 2, .int .i64 xv, .string ⟨#[]⟩, .string ⟨#[]⟩] 91) (some B))
          have hcz := hcv.kept (World.grownBy_alloc wv (.cells #[.int .i64 2, .int .i64 xv, .string ⟨#[]⟩, .string ⟨#[]⟩] 91) none) (by simp)
          simp only at hown
          go_wp2
          go_ret
          exact ⟨_, [((2, xv, [], []) : Nd)], rfl, hown, by simp, by intro m hm; rw [List.mem_singleton] at hm; subst hm; exact ⟨⟨⟨by simp, by simp⟩, ⟨by simp only; omega, by simp only; omega⟩⟩, by simp, by simp⟩, hcz, hgz⟩
      · go_wp2_with fail
        refine (drawWord _ B a len cap hc1).mono ?_
        rintro e wv ⟨xv, rfl, hv0, hv1, hcv, hgv⟩
        have hgw := hg1.trans hgv
        have hown := lit1 w wv ((1, xv, [], []) : Nd) hgw.size
        have hgz := hgw.trans (World.grownBy_alloc wv (.cells #[.int .i64 1, .int .i64 xv, .string ⟨#[]⟩, .string ⟨#[]⟩] 91) (some B))
        have hcz := hcv.kept (World.grownBy_alloc wv (.cells #[.int .i64 1, .int .i64 xv, .string ⟨#[]⟩, .string ⟨#[]⟩] 91) none) (by simp)
        simp only at hown
        go_wp2
        go_ret
        exact ⟨_, [((1, xv, [], []) : Nd)], rfl, hown, by simp, by intro m hm; rw [List.mem_singleton] at hm; subst hm; exact ⟨⟨⟨by simp, by simp⟩, ⟨by simp only; omega, by simp only; omega⟩⟩, by simp, by simp⟩, hcz, hgz⟩
    · go_wp2_with fail
      refine (drawBelow _ B a len cap 4 (by omega) (by omega) hc1).mono ?_
      rintro e w2 ⟨x2, rfl, hx20, hx21, hc2, hg2⟩
      have hG2 := hg1.trans hg2
      have hB2 := hc2.lt
      have hw2 := hG2.size
      obtain ⟨i0, hi, hz0, hz1, hz2⟩ := info_parts infoNode
      clear hc1 hg1 hg2
      go_wp2_with fail
      obtain ⟨X, hX⟩ : ∃ X, w2.alloc (.cells #[.int .i64 (3 + x2), .int .i64 0, .string ⟨#[]⟩, .string ⟨#[]⟩] 91) = X := ⟨_, rfl⟩
      obtain ⟨D, hD⟩ : ∃ D, w2.heap.size = D := ⟨_, rfl⟩
      have hAX : X.heap[D]? = some (.cells #[.int .i64 (3 + x2), .int .i64 0, .string ⟨#[]⟩, .string ⟨#[]⟩] 91) := by rw [← hX, ← hD]; exact heap_alloc_new w2 _
      have hcX : Cur X B a len cap := by rw [← hX]; exact hc2.kept (World.grownBy_alloc _ _ none) (by simp)
      have hGX : w.grownBy X (some B) := by rw [← hX]; exact hG2.trans (World.grownBy_alloc _ _ (some B))
      have hBX : BoxN X D ((3 + x2, 0, [], []) : Nd) := ⟨by simp [World.cell?, hAX], by simp [World.cell?, hAX], by simp [World.cell?, hAX], by simp [World.cell?, hAX], fun j => by simp [World.frozen?, hAX]⟩
      rw [hX, hD]
      rw [hD] at hB2 hw2
      clear hX hD hAX hc2 hG2
      refine (drawOnce X B a len cap 5 (by omega) (by omega) hcX).mono ?_
      rintro e w3 ⟨b3, rfl, hc3, hg3⟩
      have hG3 := hGX.trans hg3
      have hB3 := hBX.kept hg3 (by omega)
      clear hcX hGX hBX hg3
      go_upto_if 39 with fail
      go_cut [] from 39 (fun wx => Hid (∃ n : Nd, BoxN wx D n ∧ SmallN n ∧ kidsV n ≤ 3 ∧ Cur wx B a len cap ∧ w.grownBy wx (some B)))
      case first =>
        rcases b3 with _ | _
        · go_wp2_with fail
          go_meet
          case rel => exact ⟨_, hB3, small0 _ (by omega) (by omega), kids0 _, hc3, hG3⟩
        · obtain ⟨n0, n1, n2, n3, m⟩ := hB3
          have e30 := m 0
          go_wp2_with fail
          go_meet
          case rel => exact ⟨((7, 0, [], []) : Nd), box_kind (n := ((3 + x2, 0, [], []) : Nd)) ⟨n0, n1, n2, n3, m⟩ 7, small0 _ (by omega) (by omega), kids0 _, hc3.kept (grown_setCell _ _ _ _) (by simp; omega), hG3.andThen (grown_setCell _ _ _ _) (fun q e => Or.inl (by simp at e; omega))⟩
      case rest =>
        clear hB3 hc3 hG3
        go_upto_region 9 with fail
        go_cut [48] from 43 (fun v wx => ∃ b, v = .bool b ∧ (b = true → (0 : Int) < (cl : Int)) ∧ Hid (∃ n : Nd, BoxN wx D n ∧ SmallN n ∧ kidsV n ≤ 3 ∧ Cur wx B a len cap ∧ w.grownBy wx (some B)))
        case first =>
          by_cases hclp : (0 : Int) < (cl : Int)
          · obtain ⟨n, hBn, hsn, hkn, hcn, hGn⟩ := hcut.out
            go_wp2_with fail
            refine (drawOnce _ B a len cap 4 (by omega) (by omega) hcn).mono ?_
            rintro e w4 ⟨b4, rfl, hc4, hg4⟩
            go_wp2_with fail
            go_meet
            case rel => exact ⟨_, rfl, fun _ => hclp, n, hBn.kept hg4 (by omega), hsn, hkn, hc4, hGn.trans hg4⟩
          · go_wp2_with fail
            go_meet
            case rel => exact ⟨_, rfl, (fun h => by cases h), hcut⟩
        case rest =>
          obtain ⟨b4, rfl, hbc, hcut⟩ := hcut
          go_upto_if 48 with fail
          go_cut [] from 49 (fun wx => Hid (∃ n : Nd, BoxN wx D n ∧ SmallN n ∧ kidsV n ≤ 3 ∧ Cur wx B a len cap ∧ w.grownBy wx (some B)))
          case first =>
            rcases b4 with _ | _
            · go_wp2_with fail
              go_meet
              case rel => exact hcut
            · have hclp := hbc rfl
              obtain ⟨n4, hB4, hs4, hk4, hc4, hG4⟩ := hcut.out
              go_wp2_with fail
              refine (drawBelow _ B a len cap (cl : Int) (by omega) (by omega) hc4).mono ?_
              rintro e w5 ⟨x5, rfl, h50, h51, hc5, hg5⟩
              have hG5 := hG4.trans hg5
              have hB5 := hB4.kept hg5 (by omega)
              obtain ⟨j5, rfl⟩ : ∃ j5 : Nat, x5 = (j5 : Int) := Int.eq_ofNat_of_zero_le h50
              have hin5 : NodesIn w5 ca cl calls := HIN.out.keep hG5.size (fun b off e hlt => hG5.block b hlt (fun e2 => HNE.out b off e (by injection e2)))
              obtain ⟨cb, co, hca, hcbl, hcells⟩ := hin5.at (by omega)
              subst hca
              obtain ⟨q0, q1, q2, q3⟩ := hcells j5 (by omega)
              have hsm5 := HSM.out j5
              have hkd5 := HKD.out j5
              obtain ⟨n5, hn5⟩ : ∃ n, calls.getD j5 nd0 = n := ⟨_, rfl⟩
              rw [hn5] at q0 q1 q2 q3 hsm5 hkd5
              obtain ⟨kd5, a5, p5, f5⟩ := n5
              simp only at q0 q1 q2 q3
              obtain ⟨n0, n1, n2, n3, m⟩ := hB5
              have e50 := m 0
              have e51 := m 1
              have e52 := m 2
              have e53 := m 3
              clear hn5 hcells hin5 hg5 hc4 hG4 hB4 hcut
              go_wp2_with fail
              go_meet
              case rel => exact ⟨((kd5, a5, p5, f5) : Nd), box_all ⟨n0, n1, n2, n3, m⟩ (kd5, a5, p5, f5), hsm5, hkd5, hc5.kept (grown_set4 _ _ _ _ _ _) (by simp; omega), hG5.andThen (grown_set4 _ _ _ _ _ _) (fun q e => Or.inl (by simp at e; omega))⟩
          case rest =>
            obtain ⟨n, hBn, hsn, hkn, hcn, hGn⟩ := hcut.out
            obtain ⟨kd, aa, p, f⟩ := n
            obtain ⟨n0, n1, n2, n3, _⟩ := hBn
            simp only at n0 n1 n2 n3
            clear hcut
            have HK : Hid (_) := fun W : World => specKids ((kd, aa, p, f) : Nd) W
            unfold nodeVal at HK
            simp only at HK
            obtain ⟨q, hq⟩ : ∃ q, kidsV ((kd, aa, p, f) : Nd) = q := ⟨_, rfl⟩
            rw [hq] at HK hkn
            clear hq
            have hownT := lit1 w wc ((kd, aa, p, f) : Nd) hGn.size
            simp only at hownT
            have hcT := hcn.kept (World.grownBy_alloc wc (.cells #[.int .i64 kd, .int .i64 aa, .string ⟨p.toArray⟩, .string ⟨f.toArray⟩] 91) none) (by simp)
            have hGT := hGn.trans (World.grownBy_alloc wc (.cells #[.int .i64 kd, .int .i64 aa, .string ⟨p.toArray⟩, .string ⟨f.toArray⟩] 91) (some B))
            have HSO : Hid (∀ n ∈ [((kd, aa, p, f) : Nd)], SmallN n) := by intro m hm; rw [List.mem_singleton] at hm; subst hm; exact hsn
            have hDl : D < wc.heap.size := World.block_lt_of_cell? _ ⟨D, 0, none⟩ n0
            go_wp2_with fail
            refine Calls.mono (HK.out _) ?_
            rintro e wk ⟨rfl, hbk⟩
            have hownk := own_below hownT hbk
            have hck : Cur wk B a len cap := hcT.below hbk
            have hGk : w.grownBy wk (some B) := hGT.andThen (Below.by hbk) (by simp)
            clear hownT hcT hGT hbk HK hGn hcn n0 n1 n2 n3
            go_wp2
            go_loopw [11, 12] (fun v kv wr => ∃ (ns : List Nd) (r : Int), kv = .int .i64 r ∧ r ≤ 3 ∧ ns.length ≤ 181 ∧ (0 ≤ r → (ns.length : Int) + 60 * r ≤ 181) ∧ Hid (∀ n ∈ ns, SmallN n) ∧ Hid (wr.ownsRow w.heap.size 91 4 v ns.length (nodesV ns)) ∧ Hid (Cur wr B a len cap) ∧ Hid (w.grownBy wr (some B))) (fun _ kv _ => (intOf kv).toNat)
            case atStart => exact ⟨[((kd, aa, p, f) : Nd)], q, rfl, hkn, by simp, (fun h => by simp only [List.length_singleton]; omega), HSO, hownk, hck, hGk⟩
            case round =>
              obtain ⟨ns, r, rfl, hr3, hl1, hl2, HSN, HV, hcr, hGr⟩ := hrel
              clear hownk hck hGk HSO
              by_cases hr0 : 0 < r
              · have hin8 : NodesIn wr ca cl calls := HIN.out.keep hGr.out.size (fun b off e hlt => hGr.out.block b hlt (fun e2 => HNE.out b off e (by injection e2)))
                have hC8 : Hid (_) := HIH.out wr B a len cap args ca cl cc calls (by omega) ha0 ha1 hcr.out hin8 hcl HSM.out HKD.out HNE.out
                clear hin8
                go_wp2_with fail
                refine Calls.mono hC8.out ?_
                rintro e w8 ⟨v8, ns8, rfl, hown8, hl8, hs8, hc8, hg8⟩
                have hvl := own_ge HV.out
                have hV8 := HV.out.kept hg8 (own_ne4 (fun q e1 e2 => by have := hvl q e1; omega))
                have hG8 := hGr.out.trans hg8
                obtain ⟨v9, w9, hrun, hown9, hg9, _⟩ := run_append_src (P := Tryz.prog) w8 w.heap.size 84 84 91 i0 _ 4 48 Tryz.underlying84 hi hz0 hz1 hz2 rfl (by decide) _ _ _ hV8 v8 ns8.length (nodesV ns8) (own_src hown8 (nodesV_one _)) (by unfold maxLen; omega) (by omega) hG8.size
                have hG9 : Hid (w.grownBy w9 (some B)) := hG8.andThen hg9 (fun q e => Or.inl (hvl q e))
                have hc9 : Hid (Cur w9 B a len cap) := hc8.kept hg9 (fun q e => by have := hvl q e; omega)
                have HV9 : Hid (w9.ownsRow w.heap.size 91 4 v9 (ns ++ ns8).length (nodesV (ns ++ ns8))) := by exact (by rw [nodesV_append, List.length_append]; exact hown9 : w9.ownsRow w.heap.size 91 4 v9 (ns ++ ns8).length (nodesV (ns ++ ns8)))
                have HS9 : Hid (∀ n ∈ ns ++ ns8, SmallN n) := fun m hm => (List.mem_append.1 hm).elim (HSN.out m) (hs8 m)
                have hl9 : (ns ++ ns8).length = ns.length + ns8.length := List.length_append
                clear hown9 hg9 hG8 hV8 hown8 hg8 hc8 hC8 hGr hcr HV HSN hs8 hvl
                go_wp2_with (at_builtin; refine wpList_append_run rfl (.tmp 63) (.tmp 69) 84 rfl _ _ _ rfl rfl hrun ?_; clear hrun)
                go_roundw
                case rel => exact ⟨ns ++ ns8, r - 1, by go_num, by omega, by rw [hl9]; have := hl2 (by omega); omega, (fun h => by rw [hl9]; have := hl2 (by omega); omega), HS9, HV9, hc9, hG9⟩
                case measure => simp [intOf]; omega
              · obtain ⟨_, av, cv, rfl, _⟩ := own_nodes HV.out
                by_cases hbig : 60 < (ns.length : Int)
                · have hownE := (World.ownsRow_lit (base := w.heap.size) (e := 91) (size := 4) wr #[] 0 hGr.out.size (by decide) rfl)
                  have hcE := hcr.out.kept (World.grownBy_alloc wr (.cells #[] 91) none) (by simp)
                  have hGE := hGr.out.trans (World.grownBy_alloc wr (.cells #[] 91) (some B))
                  go_wp2
                  go_ret
                  exact ⟨_, rfl, [], hownE, by simp, (fun m hm => by cases hm), hcE, hGE⟩
                · go_wp2
                  go_ret
                  exact ⟨_, rfl, ns, HV.out, by omega, HSN.out, hcr.out, hGr.out⟩

end Go.Proofs.YtogobeegibngiaaGreatDoor

/-! A right tree is drawn, and any list of nodes. -/
namespace Go.Proofs.YtogobeegibngiaaGreatDoor
open Go.RowKit

theorem small_at {ns : List Nd} (h : SmallT ns) (j : Nat) : SmallN (ns.getD j nd0) := by
  rw [List.getD_eq_getElem?_getD]
  rcases Nat.lt_or_ge j ns.length with hj | hj
  · rw [List.getElem?_eq_getElem hj]; exact h _ (List.getElem_mem hj)
  · rw [List.getElem?_eq_none hj]; exact ⟨intN_nd0, by decide, by decide⟩

theorem SmallT.short {ns : List Nd} (h : SmallT ns) : ShortT ns := fun j => ⟨Nat.le_trans (small_at h j).2.1 (by omega), Nat.le_trans (small_at h j).2.2 (by omega)⟩
theorem SmallT.int {ns : List Nd} (h : SmallT ns) : IntT ns := fun j => (small_at h j).1

set_option maxHeartbeats 2000000 in
set_option maxRecDepth 100000 in
theorem drawTreeOk (w : World) (B : Nat) (a : Option Addr) (len cap : Nat) (args : Int) (ca : Option Addr) (cl cc : Nat) (calls : List Nd) (ha0 : 0 ≤ args) (ha1 : args ≤ 1000) (hc : Cur w B a len cap) (hin : NodesIn w ca cl calls) (hcl : cl ≤ 1000) (hsm : ∀ j, SmallN (calls.getD j nd0)) (hkd : ∀ j, kidsV (calls.getD j nd0) ≤ 3) (hne : ∀ b off, ca = some ⟨b, off, none⟩ → b ≠ B) :
    Calls Tryz.prog 53 #[.pointer (some ⟨B, 0, none⟩), .int .i64 args, .slice ca cl cc] w fun e w' => ∃ v ns, e = .returned v ∧ w'.ownsRow w.heap.size 91 4 v ns.length (nodesV ns) ∧ treeB ns = true ∧ SmallT ns ∧ Cur w' B a len cap ∧ w.grownBy w' (some B) := by
  have HIN : Hid (NodesIn w ca cl calls) := hin
  have HSM : Hid (∀ j, SmallN (calls.getD j nd0)) := hsm
  have HKD : Hid (∀ j, kidsV (calls.getD j nd0) ≤ 3) := hkd
  have HNE : Hid (∀ b off, ca = some ⟨b, off, none⟩ → b ≠ B) := hne
  clear hin hsm hkd hne
  go_enter Tryz.func53, Tryz.ntmps53
  go_wp2_with fail
  refine (drawBelow _ B a len cap 3 (by omega) (by omega) hc).mono ?_
  rintro e w1 ⟨x1, rfl, h10, h11, hc1, hg1⟩
  obtain ⟨d1, rfl⟩ : ∃ d1 : Nat, x1 = (d1 : Int) := Int.eq_ofNat_of_zero_le h10
  have hin1 : NodesIn w1 ca cl calls := HIN.out.keep hg1.size (fun b off e hlt => hg1.block b hlt (fun e2 => HNE.out b off e (by injection e2)))
  have hC : Hid (_) := drawTree6 (1 + d1) w1 B a len cap args ca cl cc calls (by omega) ha0 ha1 hc1 hin1 hcl HSM.out HKD.out HNE.out
  rw [show ((1 + d1 : Nat) : Int) = 1 + (d1 : Int) by omega] at hC
  clear HIN HSM HKD HNE hin1 hc hc1
  go_wp2_with fail
  refine Calls.mono hC.out ?_
  rintro e w2 ⟨v2, ns, rfl, hown2, hl2, hs2, hc2, hg2⟩
  have hG2 := hg1.trans hg2
  obtain ⟨_, a2, c2, rfl, hin2⟩ := own_nodes hown2
  have hT : Hid (_) := specTreeOk a2 ns.length c2 ns w2 hin2 hs2.short (by omega)
  have hown3 := own_base hown2 hg1.size
  clear hC hg1 hg2 hown2 hin2
  go_wp2_with fail
  refine Calls.mono hT.out ?_
  rintro e w4 ⟨rfl, hb4⟩
  have hown4 := own_below hown3 hb4
  have hc4 := hc2.below hb4
  have hG4 : w.grownBy w4 (some B) := hG2.andThen (Below.by hb4) (by simp)
  clear hT hb4 hown3 hc2 hG2
  rcases htb : treeB ns with _ | _
  · have hown := lit1 w w4 ((1, 7, [], []) : Nd) hG4.size
    have hgz := hG4.trans (World.grownBy_alloc w4 (.cells #[.int .i64 1, .int .i64 7, .string ⟨#[]⟩, .string ⟨#[]⟩] 91) (some B))
    have hcz := hc4.kept (World.grownBy_alloc w4 (.cells #[.int .i64 1, .int .i64 7, .string ⟨#[]⟩, .string ⟨#[]⟩] 91) none) (by simp)
    simp only at hown
    go_wp2
    go_ret
    exact ⟨_, [((1, 7, [], []) : Nd)], rfl, hown, by decide, by intro m hm; rw [List.mem_singleton] at hm; subst hm; exact ⟨⟨by decide, by decide⟩, by decide, by decide⟩, hcz, hgz⟩
  · have HB : Hid (treeB ns = true) := htb
    clear htb
    go_wp2
    go_ret
    exact ⟨_, ns, rfl, hown4, HB.out, hs2, hc4, hG4⟩

end Go.Proofs.YtogobeegibngiaaGreatDoor

/-! Any list of nodes is drawn. -/
namespace Go.Proofs.YtogobeegibngiaaGreatDoor
open Go.RowKit

theorem small_app {ns ms : List Nd} (h : SmallT ns) (k : SmallT ms) : SmallT (ns ++ ms) := fun n hn => (List.mem_append.1 hn).elim (h n) (k n)
end Go.Proofs.YtogobeegibngiaaGreatDoor

/-! The contracts of DrawTreeOk, DrawShowTree, DrawEndOf, DrawPartsOf, DrawReadTree. -/
namespace Go.Proofs.YtogobeegibngiaaGreatDoor
open Go.RowKit

end Go.Proofs.YtogobeegibngiaaGreatDoor
