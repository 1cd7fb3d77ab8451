/-
  The contracts of chapter 2's draws: DrawFramed, DrawUnframed.
-/
import Derived.Test.YtdjbcjmnegjndaaDraw2
import Derived.Test.YtdjbcjmnegjndaaBend2
import Derived.Test.YtdjbcjmnegjndaaFrameS
namespace Go.Proofs.Ytdjbcjmnegjndaa
open Go.RowKit

theorem below_g2 {w W W' : World} (h : Below w.heap.size w W) (hg : W.grownBy W' (some w.heap.size)) : Below w.heap.size w W' := h.grown hg h.size (by simp)

/-- A world that has at most new blocks keeps the cursor. -/
theorem Cur.below {w w' : World} {B : Nat} {a : Option Addr} {len cap : Nat} (h : Cur w B a len cap) (hb : Below w.heap.size w w') : Cur w' B a len cap :=
  h.kept (row := none) ⟨hb.os, hb.tape, hb.output, hb.size, fun k hk _ => hb.block k hk⟩ (by simp)

theorem zeros_back (w : World) (n : Nat) (v : Value) (base : Nat) (h0 : w.ownsRow base 5 1 v n (madeCells (Value.cells (.int .u8 0)) (n * 1)).toList) : (convert 22 9 v).run Try.prog w = .ok (.string ⟨(List.replicate n (0 : UInt8)).toArray⟩) w := by
  have h : w.ownsRow base 5 1 v n (List.replicate n (.int .u8 0)) := by
    have e1 : (madeCells (Value.cells (.int .u8 0)) (n * 1)).toList = List.replicate n (.int .u8 0) := by
      rw [Nat.mul_one]; exact toList_madeCells_one _ n
    rw [← e1]; exact h0
  have e : bytesV (List.replicate n (0 : UInt8)) = List.replicate n (.int .u8 0) := by simp [bytesV]
  have h2 : w.ownsRow base 5 1 v (List.replicate n (0 : UInt8)).length (bytesV (List.replicate n (0 : UInt8))) := by rw [e, List.length_replicate]; exact h
  exact back_own w base v _ h2

set_option maxHeartbeats 1000000 in
theorem drawFramed (w : World) (a : Option Addr) (len cap : Nat) (hl : len ≤ 4096) (hc : Code w w.heap.size a len) :
    Calls Try.prog 9 #[.slice a len cap] w fun e w' => ∃ l : List UInt8, e = .returned (.string ⟨l.toArray⟩) ∧ l.length ≤ 20001 ∧ Below w.heap.size w w' := by
  obtain ⟨i0, hi, hz0, hz1, hz2⟩ := info_parts info5
  go_enter Try.func9, Try.ntmps9
  go_wp2_with fail
  refine (drawNew _ a len cap hl hc).mono ?_
  rintro e w1 ⟨rfl, hc1, hg1⟩
  have hb1 : Below w.heap.size w w1 := (Below.refl _ _).grown hg1 (Nat.le_refl _) (by simp)
  clear hg1
  go_wp2_with fail
  refine (drawOnce _ _ a len cap 60 (by omega) (by omega) hc1).mono ?_
  rintro e w2 ⟨o, rfl, hc2, hg2⟩
  have hb2 := below_g2 hb1 hg2
  clear hc1 hg2 hb1
  rcases o with _ | _
  · go_wp2_with fail
    refine (drawBytes _ _ a len cap hc2).mono ?_
    rintro e w3 ⟨l, rfl, hl3, hc3, hg3⟩
    go_wp2
    go_ret
    exact ⟨l, rfl, by omega, below_g2 hb2 hg3⟩
  · go_wp2_with fail
    refine (drawBelow _ _ a len cap 2 (by omega) (by omega) hc2).mono ?_
    rintro e w3 ⟨x, rfl, hx0, hx1, hc3, hg3⟩
    have hb3 := below_g2 hb2 hg3
    clear hc2 hg3 hb2 hc3
    obtain ⟨x, rfl⟩ := Int.eq_ofNat_of_zero_le hx0
    go_wp2_with (at_make; refine wpList_make_full _ rfl _ _ 22 rfl w.heap.size 5 i0 (.int .u8 0) 1 Try.underlying22 hi hz0 hz1 .i64 .i64 _ _ (20000 + x) rfl rfl (by omega) (by omega) (by rw [hz2]; omega) (by unfold maxLen; omega) hb3.size ?_; intro w4 hown4 hgrow4; have hbk := zeros_back w4 (20000 + x) _ _ hown4)
    go_ret
    exact ⟨_, rfl, by rw [List.length_replicate]; omega, hb3.grown hgrow4 hb3.size (by simp)⟩

set_option maxHeartbeats 1000000 in
theorem drawUnframed (w : World) (a : Option Addr) (len cap : Nat) (hl : len ≤ 4096) (hc : Code w w.heap.size a len) :
    Calls Try.prog 11 #[.slice a len cap] w fun e w' => ∃ l : List UInt8, e = .returned (.string ⟨l.toArray⟩) ∧ l.length ≤ 26 ∧ Below w.heap.size w w' := by
  go_enter Try.func11, Try.ntmps11
  go_wp2_with fail
  refine (drawNew _ a len cap hl hc).mono ?_
  rintro e w1 ⟨rfl, hc1, hg1⟩
  have hb1 : Below w.heap.size w w1 := (Below.refl _ _).grown hg1 (Nat.le_refl _) (by simp)
  clear hg1
  go_wp2_with fail
  refine (drawBytes _ _ a len cap hc1).mono ?_
  rintro e w2 ⟨t, rfl, ht, hc2, hg2⟩
  have hb2 := below_g2 hb1 hg2
  clear hc1 hg2 hb1
  go_wp2_with fail
  refine (specL2Framed t _ (by omega)).mono ?_
  rintro e w3 ⟨rfl, hg3⟩
  have hb3 : Below w.heap.size w w3 := hb2.trans (hg3.mono hb2.size)
  have hc3 := hc2.below hg3
  have hlen : (framedL t).length = 16 + t.length := by unfold framedL; rw [List.length_append, List.length_append]; rfl
  clear hc2 hg3 hb2
  have hlen' : (framedL t).length ≤ 24 := by omega
  clear hlen
  generalize framedL t = s at hlen' ⊢
  go_wp2_with fail
  refine (drawOnce _ _ a len cap 2 (by omega) (by omega) hc3).mono ?_
  rintro e w4 ⟨o, rfl, hc4, hg4⟩
  have hb4 := below_g2 hb3 hg4
  clear hc3 hg4 hb3
  rcases o with _ | _
  · go_wp2
    go_ret
    exact ⟨s, rfl, by omega, hb4⟩
  · go_wp2_with fail
    refine (drawBend _ _ a len cap s [48, 102, 57, 97, 0, 122] hc4 (by omega) (by simp) (by simp)).mono ?_
    rintro e w5 ⟨l, rfl, hl5, hc5, hg5⟩
    go_wp2
    go_ret
    exact ⟨l, rfl, by omega, below_g2 hb4 hg5⟩

end Go.Proofs.Ytdjbcjmnegjndaa
