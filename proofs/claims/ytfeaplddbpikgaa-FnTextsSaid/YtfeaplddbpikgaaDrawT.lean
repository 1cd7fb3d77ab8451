/-
  A text is drawn.
-/
import Derived.Test.YtfeaplddbpikgaaOwn
import Derived.Test.YtfeaplddbpikgaaDraw2
namespace Go.Proofs.Ytfeaplddbpikgaa
open Go.RowKit

set_option maxHeartbeats 1000000 in
set_option maxRecDepth 100000 in
theorem drawText (w : World) (B : Nat) (a : Option Addr) (len cap : Nat) (sg : ByteArray) (most : Int) (hs0 : 0 < sg.size) (hs1 : sg.size ≤ 200) (hm0 : 0 < most) (hm1 : most ≤ 200) (h : Cur w B a len cap) :
    Calls Try.prog 27 #[.pointer (some ⟨B, 0, none⟩), .string sg, .int .i64 most] w fun e w' => ∃ l : List UInt8, e = .returned (.string ⟨l.toArray⟩) ∧ (l.length : Int) < most ∧ Cur w' B a len cap ∧ w.grownBy w' (some B) := by
  obtain ⟨i0, hi, hz0, hz1, hz2⟩ := info_parts info5
  have hBlt := h.lt
  go_enter Try.func27, Try.ntmps27
  go_wp2_with fail
  refine (drawBelow _ B a len cap most (by omega) (by omega) (by exact h.kept (World.grownBy_alloc _ _ none) (by simp))).mono ?_
  rintro e w1 ⟨n, rfl, hn0, hn1, hc1, hg1⟩
  have hown1 : w1.ownsRow w.heap.size 5 1 (.slice (some ⟨w.heap.size, 0, none⟩) 0 0) ([] : List UInt8).length (bytesV []) :=
    (World.ownsRow_lit (base := w.heap.size) (e := 5) (size := 1) w #[] 0 (Nat.le_refl _) (by decide) rfl).kept hg1 (Or.inr (by intro e; injection e with e; simp at e; omega))
  have hg0 : w.grownBy w1 (some B) := (World.grownBy_alloc _ _ _).trans hg1
  clear hg1
  go_wp2_with fail
  go_loopw [7, 8] (fun v i wr => ∃ l : List UInt8, ∃ k : Nat, (l.length : Int) + k < most ∧ i = .int .i64 k ∧ wr.ownsRow w.heap.size 5 1 v l.length (bytesV l) ∧ Cur wr B a len cap ∧ w.grownBy wr (some B)) (fun _ i _ => (intOf i).toNat)
  case atStart => exact ⟨[], n.toNat, by simp; omega, by rw [Int.toNat_of_nonneg hn0], hown1, hc1, hg0⟩
  case round =>
    obtain ⟨l, k, hk, rfl, hown, hc, hg⟩ := hrel
    by_cases hlt : 0 < k
    · go_wp2_with fail
      refine (drawBelow _ B a len cap (sg.size : Int) (by omega) (by omega) hc).mono ?_
      rintro e w2 ⟨x, rfl, hx0, hx1, hc2, hg2⟩
      obtain ⟨j, rfl⟩ := Int.eq_ofNat_of_zero_le hx0
      have hj : j < sg.size := by omega
      have hy0 : (0 : Int) ≤ (sg[j].toNat : Int) := by omega
      have hy1 : (sg[j].toNat : Int) ≤ 255 := by have := sg[j].toNat_lt; omega
      have hown2 := own_other hown hBlt hg2
      have hB2 := hc2.lt
      clear hown hc
      go_wp2_with (at_builtin; refine wpList_append_own _ rfl _ _ 22 rfl w.heap.size 5 i0 (.int .u8 0) 1 1 Try.underlying22 hi hz0 hz1 hz2 rfl (by decide) _ _ _ rfl (hown2.alloc _) ⟨w2.heap.size, 0, none⟩ 1 1 [.int .u8 (sg[j].toNat : Int)] rfl rfl ?c1 ?c2 ?c3 ?c4 ?c5 ?_)
      case c1 => exact cell_one_new _ _ _
      case c2 => first | rfl | (intro u hu; simp at hu; subst hu; rfl)
      case c3 => unfold maxLen; omega
      case c4 => omega
      case c5 => have := hg.size; have := hg2.size; simp; omega
      intro v' w3 hown3 hgrow3 _
      have hown4 := own_snoc hy0 hy1 hown3
      have hrow : ∀ k, Value.ownBlock _ = some k → w.heap.size ≤ k ∧ k < w2.heap.size := hown2.lt
      have hc3 : Cur w3 B a len cap := (hc2.kept (World.grownBy_alloc _ _ none) (by simp)).kept hgrow3 (fun k e => by have := hrow k e; omega)
      have hg3 : w.grownBy w3 (some B) := ((hg.trans hg2).trans (World.grownBy_alloc _ _ _)).andThen hgrow3 (fun j e => Or.inl (hrow j e).1)
      clear hown3 hown2 hgrow3 hrow hc2 hg2 hg
      go_wp2
      go_roundw
      case rel => exact ⟨l ++ [UInt8.ofNat (sg[j].toNat : Int).toNat], k - 1, by rw [List.length_append, List.length_singleton]; omega, by go_num, hown4, hc3, hg3⟩
      case measure => simp [intOf]; omega
    · have hback := back_own wr w.heap.size _ l hown
      go_wp2
      go_ret
      exact ⟨l, rfl, by omega, hc, hg⟩

end Go.Proofs.Ytfeaplddbpikgaa
