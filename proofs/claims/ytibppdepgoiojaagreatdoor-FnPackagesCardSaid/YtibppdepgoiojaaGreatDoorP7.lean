/-
  Parts of one proof, one behind the other: Bend2, DrawX, DrawN.
-/
import Derived.Test.YtibppdepgoiojaaGreatDoorP6
import Derived.Deep.DrawnRows
import Derived.Test.YtibppdepgoiojaaGreatDoorP3

/-! The contract of l1Bend: a text that is bent at most twice. -/
namespace Go.Proofs.YtibppdepgoiojaaGreatDoor
open Go.RowKit

set_option maxHeartbeats 2000000 in
set_option maxRecDepth 100000 in
theorem drawBend (w : World) (B : Nat) (a : Option Addr) (len cap : Nat) (s g : List UInt8) (h : Cur w B a len cap) (hs : s.length ≤ 1000000) (hg0 : 0 < g.length) (hg1 : g.length ≤ 256) :
    Calls Tryz.prog 27 #[.pointer (some ⟨B, 0, none⟩), .string ⟨s.toArray⟩, .string ⟨g.toArray⟩] w fun e w' => ∃ l : List UInt8, e = .returned (.string ⟨l.toArray⟩) ∧ l.length ≤ s.length + 2 ∧ Cur w' B a len cap ∧ w.grownBy w' (some B) := by
  obtain ⟨i0, hi, hz0, hz1, hz2⟩ := info_parts info5
  have hBlt := h.lt
  have hconv := run_bytes_of_string (P := Tryz.prog) w 9 22 5 ⟨s.toArray⟩ Tryz.underlying9 Tryz.underlying22 Tryz.underlying5
  have hrow := RowB.made w s (by unfold maxLen; omega)
  have hszs : (⟨s.toArray⟩ : ByteArray).size = s.length := rfl
  rw [hszs] at hconv
  clear hszs
  generalize hC : bytesRow ⟨s.toArray⟩ (grownCap w s.length 0 5) = C at hconv hrow
  generalize hcp : grownCap w s.length 0 5 = cp at hconv hrow
  clear hC hcp
  go_enter Tryz.func27, Tryz.ntmps27
  go_wp2_with fail
  refine (drawBelow _ B a len cap 3 (by omega) (by omega) (by exact (h.kept (World.grownBy_alloc _ _ none) (by simp)).drew)).mono ?_
  rintro e w1 ⟨n, rfl, hn0, hn1, hc1, hg1'⟩
  have hrow1 : RowB w1 w.heap.size w.heap.size cp s := hrow.kept hg1' (by intro e; injection e with e; omega)
  have hgr1 : w.grownBy w1 (some B) := ((World.grownBy_alloc _ _ _).trans (grown_drew _ _)).trans hg1'
  clear hrow hconv hg1' h
  go_wp2_with fail
  go_loopw [7, 8] (fun v i wr => ∃ l : List UInt8, ∃ b cp k : Nat, l.length + k ≤ s.length + 2 ∧ i = .int .i64 k ∧ v = .slice (some ⟨b, 0, none⟩) l.length cp ∧ RowB wr w.heap.size b cp l ∧ Cur wr B a len cap ∧ w.grownBy wr (some B)) (fun _ i _ => (intOf i).toNat)
  case atStart => exact ⟨s, w.heap.size, cp, n.toNat, by omega, by rw [Int.toNat_of_nonneg hn0], rfl, hrow1, hc1, hgr1⟩
  case round =>
    obtain ⟨l, b, cp, k, hk, rfl, rfl, hrow, hc, hgr⟩ := hrel
    clear hrow1 hc1 hgr1
    by_cases hgo : 0 < k ∧ 0 < l.length
    · obtain ⟨hk0, hl0⟩ := hgo
      go_wp2_with fail
      refine (drawBelow _ B a len cap (l.length : Int) (by omega) (by omega) hc).mono ?_
      rintro e w2 ⟨p, rfl, hp0, hp1, hc2, hg2⟩
      have hrow2 := hrow.kept hg2 (by intro e; injection e with e; have := hrow.new; omega)
      have hgr2 := hgr.trans hg2
      clear hrow hc hgr hg2
      obtain ⟨p, rfl⟩ := Int.eq_ofNat_of_zero_le hp0
      go_wp2_with fail
      refine (drawBelow _ B a len cap 4 (by omega) (by omega) hc2).mono ?_
      rintro e w3 ⟨t, rfl, ht0, ht1, hc3, hg3⟩
      have hrow3 := hrow2.kept hg3 (by intro e; injection e with e; have := hrow2.new; omega)
      have hgr3 := hgr2.trans hg3
      clear hrow2 hc2 hgr2 hg3
      have hpc : (p : Int) ≤ (cp : Int) := by have := hrow3.room; omega
      have hlc : (l.length : Int) ≤ (cp : Int) := by have := hrow3.room; omega
      have hcm : (cp : Int) ≤ 9223372036854775807 := by have := hrow3.most; unfold maxLen at this; omega
      have hp2 : (p : Int) + 1 ≤ (l.length : Int) := by omega
      have hp5 : (p : Int) ≤ (l.length : Int) := by omega
      have hp3 : (0 : Int) ≤ (p : Int) + 1 := by omega
      have hp4 : (p : Int) + 1 ≤ (cp : Int) := by omega
      have hll : (l.length : Int) ≤ 1000002 := by omega
      have hwr : IntKind.i64.wrap ((p : Int) + 1) = (p : Int) + 1 := by rw [IntKind.wrap_i64]; omega
      rcases (show t = 0 ∨ t = 1 ∨ t = 2 ∨ t = 3 by omega) with rfl | rfl | rfl | rfl
      · go_wp2_with fail
        refine (drawBelow _ B a len cap (g.length : Int) (by omega) (by omega) hc3).mono ?_
        rintro e w4 ⟨x, rfl, hx0, hx1, hc4, hg4⟩
        have hrow4 := hrow3.kept hg4 (by intro e; injection e with e; have := hrow3.new; omega)
        have hgr4 := hgr3.trans hg4
        clear hrow3 hc3 hgr3 hg4
        have hcell4 := hrow4.cells p (by omega)
        have hfree4 := hrow4.free p (by omega)
        go_wp2
        go_roundw
        case rel => exact ⟨l.set p _, b, cp, k - 1, by rw [List.length_set]; omega, by go_num, by rw [List.length_set], hrow4.store p (by omega) _, hc4.kept (grown_setCell _ b p _) (fun j e => by injection e with e; have := hrow4.new; omega), hgr4.andThen (grown_setCell _ b p _) (fun j e => by injection e with e; have := hrow4.new; exact Or.inl (by omega))⟩
        case measure => simp [intOf]; omega
      · go_wp2
        go_roundw
        case rel => exact ⟨l.take p, b, cp, k - 1, by rw [List.length_take]; omega, by go_num, by rw [List.length_take, Nat.min_eq_left (by omega)], hrow3.cut p, hc3, hgr3⟩
        case measure => simp [intOf]; omega
      · go_wp2_with fail
        have hnew3 : w.heap.size ≤ w3.heap.size := hgr3.size
        have hrow5 : RowB (w3.alloc (.cells #[] 5)).drew w.heap.size b cp l := (hrow3.kept (World.grownBy_alloc _ _ none) (by simp)).drew
        have hown0 : Hid ((w3.alloc (.cells #[] 5)).drew.ownsRow w.heap.size 5 1 (.slice (some ⟨w3.heap.size, 0, none⟩) 0 0) 0 []) := own_empty w3 w.heap.size hnew3
        have hlt' : Hid ((bytesV (l.take p)).length = p * 1) := by exact (by rw [bytesV_len, List.length_take, Nat.min_eq_left (by omega), Nat.mul_one] : (bytesV (l.take p)).length = p * 1)
        obtain ⟨A, hA, hAn⟩ : ∃ A : Addr, (if cp = p + 1 then some (⟨b, 0, none⟩ : Addr) else some ⟨b, p + 1, none⟩) = some A ∧ ∀ W, RowB W w.heap.size b cp l → ∀ j u, (bytesV (l.drop (p + 1)))[j]? = some u → W.cell? (A.add j) = some u := by
          by_cases e : cp = p + 1
          · refine ⟨⟨b, 0, none⟩, by rw [if_pos e], fun W _ j u hu => ?_⟩
            obtain ⟨hj, _⟩ := bytesV_at _ _ _ hu
            rw [List.length_drop] at hj
            omega
          · exact ⟨⟨b, p + 1, none⟩, by rw [if_neg e], fun W hr => hr.tail (p + 1)⟩
        have HAn : Hid (∀ W, RowB W w.heap.size b cp l → ∀ j u, (bytesV (l.drop (p + 1)))[j]? = some u → W.cell? (A.add j) = some u) := hAn
        have hdl : Hid ((bytesV (l.drop (p + 1))).length = (l.length - (p + 1)) * 1) := by exact (by rw [bytesV_len, List.length_drop, Nat.mul_one] : (bytesV (l.drop (p + 1))).length = (l.length - (p + 1)) * 1)
        clear hAn
        go_region_held3 (fun _ => True) (exact True.intro) (first | (refine step_append_own (by rfl) (.tmp 51) (.tmp 55) 22 (by rfl) w.heap.size 5 i0 (.int .u8 0) 1 1 Tryz.underlying22 hi hz0 hz1 hz2 rfl (by decide) _ _ _ (by rfl) hown5 A (l.length - (p + 1)) (cp - (p + 1)) (bytesV (l.drop (p + 1))) (by first | rfl | simp [Act.eval, hA]) hdl.out (HAn.out _ (hrow5.kept hgrow5 (by intro e; injection e with e; have := hrow3.there; simp at e; omega))) (bytesV_one _) (by unfold maxLen; omega) (by omega) (by have := hgrow5.size; simp at this; omega) ?_; intro v2 w6 hown6 hgrow6 hnil6) | (refine step_append_own (by rfl) (.tmp 47) (.tmp 50) 22 (by rfl) w.heap.size 5 i0 (.int .u8 0) 1 1 Tryz.underlying22 hi hz0 hz1 hz2 rfl (by decide) _ 0 [] (by rfl) hown0.out ⟨b, 0, none⟩ p cp (bytesV (l.take p)) (by rfl) hlt'.out (hrow5.head p) (bytesV_one _) (by unfold maxLen; omega) (by omega) (by simp; omega) ?_; intro v1 w5 hown5 hgrow5 hnil5))
        have hv1 : v1 ≠ .slice none 0 0 := fun e => by have := (hnil5.1 e).1; cases this
        have hv2 : v2 ≠ .slice none 0 0 := fun e => hv1 (hnil6.1 e).1
        obtain ⟨g', cp', hv, hrow6⟩ := own_done (l.take p ++ l.drop (p + 1)) hown6 (by rw [List.nil_append, bytesV_append]) (by rw [List.length_append, List.length_take, List.length_drop]; omega) hv2
        have hk6 := step_keep hBlt (step_keep hBlt (step_keep hBlt (step_keep hBlt ⟨hc3, hgr3⟩ (World.grownBy_alloc _ _ none) (by simp)) (grown_drew _ none) (by simp)) hgrow5 (fun k e => by injection e with e; simp at e; omega)) hgrow6 (fun k e => (hown5.lt k e).1)
        obtain ⟨hc6, hgr6⟩ := hk6
        rw [hv]
        clear hown5 hown6 hgrow5 hgrow6 hnil5 hnil6 hown0 hlt' HAn hdl hA hrow5 hrow3 hc3 hgr3 hv1 hv2 hv
        go_wp2
        go_roundw
        case rel => exact ⟨l.take p ++ l.drop (p + 1), g', cp', k - 1, by rw [List.length_append, List.length_take, List.length_drop]; omega, by go_num, rfl, hrow6, hc6, hgr6⟩
        case measure => simp [intOf]; omega
      · have hne : ¬ cp = p := by omega
        have hnew3 : w.heap.size ≤ w3.heap.size := hgr3.size
        have hrow5 : RowB (w3.alloc (.cells #[] 5)).drew w.heap.size b cp l := (hrow3.kept (World.grownBy_alloc _ _ none) (by simp)).drew
        have hown0 : Hid ((w3.alloc (.cells #[] 5)).drew.ownsRow w3.heap.size 5 1 (.slice (some ⟨w3.heap.size, 0, none⟩) 0 0) 0 []) := own_empty w3 w3.heap.size (Nat.le_refl _)
        have hB3 : B < w3.heap.size := hc3.lt
        have hk4 := step_keep hBlt (step_keep hBlt ⟨hc3, hgr3⟩ (World.grownBy_alloc w3 (.cells #[] 5) none) (by simp)) (grown_drew _ none) (by simp)
        have hlt' : Hid ((bytesV (l.take p)).length = p * 1) := by exact (by rw [bytesV_len, List.length_take, Nat.min_eq_left (by omega), Nat.mul_one] : (bytesV (l.take p)).length = p * 1)
        have hdl : Hid ((bytesV (l.drop p)).length = (l.length - p) * 1) := by exact (by rw [bytesV_len, List.length_drop, Nat.mul_one] : (bytesV (l.drop p)).length = (l.length - p) * 1)
        go_wp2_with fail
        have hbB : B < b := by have := hrow3.new; omega
        go_region_held3 (fun _ => True) (exact True.intro) (first
          | (refine step_append_own (by rfl) (.tmp 71) (.tmp 74) 22 (by rfl) w3.heap.size 5 i0 (.int .u8 0) 1 1 Tryz.underlying22 hi hz0 hz1 hz2 rfl (by decide) _ _ _ (by rfl) hown8 ⟨b, p, none⟩ (l.length - p) (cp - p) (bytesV (l.drop p)) (by rfl) hdl.out (hrow8.tail p) (bytesV_one _) (by unfold maxLen; omega) (by omega) hz8 ?_; intro v9 w9 hown9 hgrow9 hnil9)
          | (refine step_append_own (by rfl) (.tmp 63) (.tmp 70) 22 (by rfl) w3.heap.size 5 i0 (.int .u8 0) 1 1 Tryz.underlying22 hi hz0 hz1 hz2 rfl (by decide) _ _ _ (by rfl) (hown7.alloc _) ⟨w7.heap.size, 0, none⟩ 1 1 _ (by rfl) (by rfl) (cell_one_new _ _ _) (by intro u hu; simp at hu; subst hu; rfl) (by unfold maxLen; omega) (by omega) (size_one _ _ _ hz7) ?_; intro v8 w8 hown8 hgrow8 hnil8; have hrow8 := (hrow7.kept (World.grownBy_alloc _ _ none) (by simp)).kept hgrow8 (own_ne hown7 hrow3.there); have hz8 := Nat.le_trans (size_one _ _ _ hz7) hgrow8.size; have hk8 := step_keep hBlt (step_keep hBlt hk7 (World.grownBy_alloc _ _ none) (by simp)) hgrow8 (fun k e => Nat.le_trans hnew3 (hown7.lt k e).1))
          | (have hk5' := hk5; go_at_call 30; refine (drawBelow _ B a len cap (g.length : Int) (by omega) (by omega) hk5'.1).mono ?_; rintro e w7 ⟨x, rfl, hx0, hx1, hc7, hg7⟩; have hown7 := own_other hown5 hB3 hg7; have hrow7 := hrow6.kept hg7 (ne_some hbB); have hz7 := Nat.le_trans hz5 hg7.size; have hk7 : Cur w7 B a len cap ∧ w.grownBy w7 (some B) := ⟨hc7, hk5'.2.trans hg7⟩)
          | (refine step_append_own (by rfl) (.tmp 59) (.tmp 62) 22 (by rfl) w3.heap.size 5 i0 (.int .u8 0) 1 1 Tryz.underlying22 hi hz0 hz1 hz2 rfl (by decide) _ 0 [] (by rfl) hown0.out ⟨b, 0, none⟩ p cp (bytesV (l.take p)) (by rfl) hlt'.out (hrow5.head p) (bytesV_one _) (by unfold maxLen; omega) (by omega) (size_empty w3) ?_; intro v5 w5 hown5 hgrow5 hnil5; have hrow6 := hrow5.kept hgrow5 (ne_empty w3 b hrow3.there); have hz5 := Nat.le_trans (size_empty w3) hgrow5.size; have hk5 := step_keep hBlt hk4 hgrow5 (fun k e => Nat.le_trans hnew3 (row_empty w3 k e))))
        have hv5 : v5 ≠ .slice none 0 0 := fun e => by have := (hnil5.1 e).1; cases this
        have hv8 : v8 ≠ .slice none 0 0 := fun e => hv5 (hnil8.1 e).1
        have hv9 : v9 ≠ .slice none 0 0 := fun e => hv8 (hnil9.1 e).1
        obtain ⟨g', cp', hv, hrow9⟩ := own_done (l.take p ++ [_] ++ l.drop p) hown9 (by rw [List.nil_append, ← bytesV_append, ← bytesV_append]; rfl) (by simp only [List.length_append, List.length_take, List.length_drop, List.length_singleton]; omega) hv9
        have hrow9' := hrow9.base hnew3
        obtain ⟨hc9, hgr9⟩ := step_keep hBlt hk8 hgrow9 (fun k e => Nat.le_trans hnew3 (hown8.lt k e).1)
        rw [hv]
        clear hown5 hown7 hown8 hown9 hgrow5 hgrow8 hgrow9 hnil5 hnil8 hnil9 hown0 hlt' hdl hrow5 hrow6 hrow7 hrow8 hrow9 hrow3 hc3 hgr3 hv5 hv8 hv9 hv hk4 hk5 hk5' hk7 hk8
        go_wp2
        go_roundw
        case rel => exact ⟨_, g', cp', k - 1, by simp only [List.length_append, List.length_take, List.length_drop, List.length_singleton]; omega, by go_num, rfl, hrow9', hc9, hgr9⟩
        case measure => simp [intOf]; omega
    · by_cases hk0 : 0 < k
      · obtain rfl : l = [] := List.eq_nil_of_length_eq_zero (by omega)
        have hback := hrow.back
        simp only [List.length_nil] at hback
        go_wp2
        go_ret
        exact ⟨[], rfl, by simp, hc, hgr⟩
      · have hback := hrow.back
        go_wp2
        go_ret
        exact ⟨l, rfl, by omega, hc, hgr⟩

end Go.Proofs.YtibppdepgoiojaaGreatDoor

/-! The contracts of DrawLines, DrawWords, DrawNameOk, DrawNumberOf. -/
namespace Go.Proofs.YtibppdepgoiojaaGreatDoor
open Go.RowKit



def pickT (l : List (List UInt8)) (x : Int) : List UInt8 := l.getD x.toNat []

theorem pickT_cell (l : List (List UInt8)) (x : Int) (h0 : 0 ≤ x) (h1 : x < l.length) (W : World) (e : TypeId) :
    (W.alloc (.cells (strV l).toArray e)).cell? ⟨W.heap.size, x.toNat, none⟩ = some (.string ⟨(pickT l x).toArray⟩) := by
  have hx : x.toNat < l.length := by omega
  rw [World.cell?_alloc_mark]
  simp [pickT, strV, hx]

theorem pickT_len (l : List (List UInt8)) (x : Int) (n : Nat) (h : ∀ y ∈ l, y.length ≤ n) : (pickT l x).length ≤ n := by
  unfold pickT
  by_cases hx : x.toNat < l.length
  · have : l.getD x.toNat [] = l[x.toNat] := by simp [List.getD, hx]
    rw [this]; exact h _ (List.getElem_mem hx)
  · have : l.getD x.toNat [] = [] := by simp [List.getD, hx]
    rw [this]; simp



end Go.Proofs.YtibppdepgoiojaaGreatDoor

/-! A node is drawn. -/
namespace Go.Proofs.YtibppdepgoiojaaGreatDoor
open Go.RowKit

theorem Code.alloc {w : World} {B : Nat} {a : Option Addr} {len : Nat} (h : Code w B a len) (hB : B ≤ w.heap.size) (o : Obj) : Code (w.alloc o) (B + 1) a len := by
  intro j hj
  obtain ⟨b, off, x, e1, e2, e3, e0⟩ := h j hj
  exact ⟨b, off, x, e1, by omega, (World.cell?_of_block (a := ⟨b, off + j, none⟩) (Below.heap_alloc _ _ _ (by show b < _; omega))).trans e3, e0⟩

theorem put4 {w W : World} {u0 u1 u2 u3 : Value} (a b c d : Value) (r0 : W.cell? ⟨w.heap.size, 0, none⟩ = some u0) (r1 : W.cell? ⟨w.heap.size, 1, none⟩ = some u1) (r2 : W.cell? ⟨w.heap.size, 2, none⟩ = some u2) (r3 : W.cell? ⟨w.heap.size, 3, none⟩ = some u3) (hb : Below w.heap.size w W) :
    ((((W.setCell ⟨w.heap.size, 0, none⟩ a).setCell ⟨w.heap.size, 1, none⟩ b).setCell ⟨w.heap.size, 2, none⟩ c).setCell ⟨w.heap.size, 3, none⟩ d).cell? ⟨w.heap.size, 0, none⟩ = some a ∧
    ((((W.setCell ⟨w.heap.size, 0, none⟩ a).setCell ⟨w.heap.size, 1, none⟩ b).setCell ⟨w.heap.size, 2, none⟩ c).setCell ⟨w.heap.size, 3, none⟩ d).cell? ⟨w.heap.size, 1, none⟩ = some b ∧
    ((((W.setCell ⟨w.heap.size, 0, none⟩ a).setCell ⟨w.heap.size, 1, none⟩ b).setCell ⟨w.heap.size, 2, none⟩ c).setCell ⟨w.heap.size, 3, none⟩ d).cell? ⟨w.heap.size, 2, none⟩ = some c ∧
    ((((W.setCell ⟨w.heap.size, 0, none⟩ a).setCell ⟨w.heap.size, 1, none⟩ b).setCell ⟨w.heap.size, 2, none⟩ c).setCell ⟨w.heap.size, 3, none⟩ d).cell? ⟨w.heap.size, 3, none⟩ = some d ∧
    Below w.heap.size w ((((W.setCell ⟨w.heap.size, 0, none⟩ a).setCell ⟨w.heap.size, 1, none⟩ b).setCell ⟨w.heap.size, 2, none⟩ c).setCell ⟨w.heap.size, 3, none⟩ d) := by
  have s1 := (World.cell?_setCell_other W ⟨w.heap.size, 0, none⟩ ⟨w.heap.size, 1, none⟩ a (by simp)).trans r1
  refine ⟨?_, ?_, ?_, ?_, (((hb.setCell (p := ⟨w.heap.size, 0, none⟩) (Nat.le_refl _) a).setCell (p := ⟨w.heap.size, 1, none⟩) (Nat.le_refl _) b).setCell (p := ⟨w.heap.size, 2, none⟩) (Nat.le_refl _) c).setCell (p := ⟨w.heap.size, 3, none⟩) (Nat.le_refl _) d⟩
  · exact (World.cell?_setCell_other _ _ _ _ (by simp)).trans ((World.cell?_setCell_other _ _ _ _ (by simp)).trans ((World.cell?_setCell_other _ _ _ _ (by simp)).trans (World.cell?_setCell_same _ _ _ r0)))
  · exact (World.cell?_setCell_other _ _ _ _ (by simp)).trans ((World.cell?_setCell_other _ _ _ _ (by simp)).trans (World.cell?_setCell_same _ _ _ s1))
  · exact (World.cell?_setCell_other _ _ _ _ (by simp)).trans (World.cell?_setCell_same _ _ _ ((World.cell?_setCell_other _ _ _ _ (by simp)).trans ((World.cell?_setCell_other _ _ _ _ (by simp)).trans r2)))
  · exact World.cell?_setCell_same _ _ _ ((World.cell?_setCell_other _ _ _ _ (by simp)).trans ((World.cell?_setCell_other _ _ _ _ (by simp)).trans ((World.cell?_setCell_other _ _ _ _ (by simp)).trans r3)))


end Go.Proofs.YtibppdepgoiojaaGreatDoor
