/-
  The contracts that FnTorn wants: DrawFrames, likeTexts, a list of texts cut at its end.
-/
import Derived.Test.YtdjbcjmnegjndaaMath2T
import Derived.Test.YtdjbcjmnegjndaaDraw5
import Derived.Test.YtdjbcjmnegjndaaMarks3
namespace Go.Proofs.Ytdjbcjmnegjndaa
open Go.RowKit

set_option maxHeartbeats 1000000 in
theorem drawFrames (w : World) (a : Option Addr) (len cap : Nat) (hl : len ≤ 4096) (hc : Code w w.heap.size a len) :
    Calls Try.prog 17 #[.slice a len cap] w fun e w' => ∃ l : List UInt8, e = .returned (.string ⟨l.toArray⟩) ∧ l.length ≤ 98 ∧ Below w.heap.size w w' := by
  have hcat := cat_list
  go_enter Try.func17, Try.ntmps17
  go_wp2_with fail
  refine (drawNew _ a len cap hl hc).mono ?_
  rintro e w1 ⟨rfl, hc1, hg1⟩
  have hb1 : Below w.heap.size w w1 := (Below.refl _ _).grown hg1 (Nat.le_refl _) (by simp)
  clear hg1
  go_wp2_with fail
  refine (drawBelow _ _ a len cap 5 (by omega) (by omega) hc1).mono ?_
  rintro e w2 ⟨n, rfl, hn0, hn1, hc2, hg2⟩
  have hb2 := below_g2 hb1 hg2
  clear hc1 hg2 hb1
  go_wp2_with fail
  go_loopw [4, 5] (fun v i wr => ∃ l : List UInt8, ∃ k : Nat, l.length + 24 * k ≤ 96 ∧ i = .int .i64 k ∧ v = .string ⟨l.toArray⟩ ∧ Cur wr w.heap.size a len cap ∧ Below w.heap.size w wr) (fun _ i _ => (intOf i).toNat)
  case atStart => exact ⟨[], n.toNat, by simp; omega, by rw [Int.toNat_of_nonneg hn0], rfl, hc2, hb2⟩
  case round =>
    obtain ⟨l, k, hk, rfl, rfl, hcr, hbr⟩ := hrel
    clear hc2 hb2
    by_cases hlt : 0 < k
    · go_wp2_with fail
      refine (drawBytes _ _ a len cap hcr).mono ?_
      rintro e w3 ⟨t, rfl, ht, hc3, hg3⟩
      have hb3 := below_g2 hbr hg3
      clear hcr hg3 hbr
      go_wp2_with fail
      refine (specL2Framed t _ (by omega)).mono ?_
      rintro e w4 ⟨rfl, hg4⟩
      have hb4 : Below w.heap.size w w4 := hb3.trans (hg4.mono hb3.size)
      have hc4 := hc3.below hg4
      have hlen : (framedL t).length ≤ 24 := by rw [framedL_len]; omega
      clear hc3 hg4 hb3
      generalize framedL t = f at hlen ⊢
      go_wp2
      go_roundw
      case rel => exact ⟨l ++ f, k - 1, by rw [List.length_append]; omega, by go_num, rfl, hc4, hb4⟩
      case measure => simp [intOf]; omega
    · go_wp2_with fail
      refine (drawOnce _ _ a len cap 2 (by omega) (by omega) hcr).mono ?_
      rintro e w4 ⟨o, rfl, hc4, hg4⟩
      have hb4 := below_g2 hbr hg4
      clear hcr hg4 hbr
      rcases o with _ | _
      · go_wp2
        go_ret
        exact ⟨l, rfl, by omega, hb4⟩
      · go_wp2_with fail
        refine (drawBend _ _ a len cap l [48, 102, 57, 97, 0, 122] hc4 (by omega) (by simp) (by simp)).mono ?_
        rintro e w5 ⟨y, rfl, hl5, hc5, hg5⟩
        go_wp2
        go_ret
        exact ⟨y, rfl, by omega, below_g2 hb4 hg5⟩

set_option maxHeartbeats 1000000 in
theorem likeC (w : World) (ba bb ga gb ca cb : Nat) (ls : List (List UInt8)) (hn : ls.length ≤ 1000000)
    (ha : w.ownsRow ba 9 1 (.slice (some ⟨ga, 0, none⟩) ls.length ca) ls.length (strV ls)) (hb : w.ownsRow bb 9 1 (.slice (some ⟨gb, 0, none⟩) ls.length cb) ls.length (strV ls)) :
    Calls Try.prog 20 #[.slice (some ⟨ga, 0, none⟩) ls.length ca, .slice (some ⟨gb, 0, none⟩) ls.length cb] w fun e w' => e = .returned (.bool true) ∧ w.grownBy w' none := by
  have hne : ((ls.length : Int) != (ls.length : Int)) = false := by simp
  have hself : ∀ l : List UInt8, (l != l) = false := by simp
  have HA : Hid (∀ j (hj : j < ls.length), w.cell? ⟨ga, j, none⟩ = some (.string ⟨ls[j].toArray⟩)) := fun j hj => str_cells ha j hj
  have HB : Hid (∀ j (hj : j < ls.length), w.cell? ⟨gb, j, none⟩ = some (.string ⟨ls[j].toArray⟩)) := fun j hj => str_cells hb j hj
  clear ha hb
  go_enter Try.func20, Try.ntmps20
  go_wp2
  go_loopw [5] (fun i wr => ∃ k : Nat, k ≤ ls.length ∧ i = .int .i64 k ∧ w.grownBy wr none) (fun i _ => ls.length - (intOf i).toNat)
  case atStart => exact ⟨0, Nat.zero_le _, rfl, World.grownBy.refl _ _⟩
  case round =>
    obtain ⟨k, hk, rfl, hg⟩ := hrel
    by_cases hlt : k < ls.length
    · obtain ⟨t, ht⟩ : ∃ t, ls[k] = t := ⟨_, rfl⟩
      have hca : wr.cell? ⟨ga, k, none⟩ = some (.string ⟨t.toArray⟩) := by rw [← ht]; exact hg.cell (HA.out k hlt) (by simp)
      have hcb : wr.cell? ⟨gb, k, none⟩ = some (.string ⟨t.toArray⟩) := by rw [← ht]; exact hg.cell (HB.out k hlt) (by simp)
      clear ht
      go_wp2
      go_region
      all_goals (try go_wp2)
      go_roundw
      case rel => exact ⟨k + 1, by omega, by go_num, hg.trans (grown_drew _ _)⟩
      case measure => simp [intOf]; omega
    · go_wp2
      go_ret
      exact ⟨rfl, hg⟩

set_option maxHeartbeats 400000 in
theorem likeEmpty (w : World) (aa ab : Option Addr) (ca cb : Nat) :
    Calls Try.prog 20 #[.slice aa 0 ca, .slice ab 0 cb] w fun e w' => e = .returned (.bool true) ∧ w.grownBy w' none := by
  go_enter Try.func20, Try.ntmps20
  go_wp2
  refine wp_loop_rounds 1 ?_
  rw [rounds_succ]
  go_wp2
  go_ret
  exact ⟨rfl, World.grownBy.refl _ _⟩

theorem likeV (w : World) (ba bb : Nat) (va vb : Value) (ls : List (List UInt8)) (hn : ls.length ≤ 1000000)
    (ha : w.ownsRow ba 9 1 va ls.length (strV ls)) (hb : w.ownsRow bb 9 1 vb ls.length (strV ls)) :
    Calls Try.prog 20 #[va, vb] w fun e w' => e = .returned (.bool true) ∧ w.grownBy w' none := by
  rcases own_forms ha with ⟨rfl, h0, _⟩ | ⟨ga, ca, rfl⟩
  · rcases own_forms hb with ⟨rfl, _, _⟩ | ⟨gb, cb, rfl⟩
    · exact likeEmpty w none none 0 0
    · rw [h0]; exact likeEmpty w none (some ⟨gb, 0, none⟩) 0 cb
  · rcases own_forms hb with ⟨rfl, h0, _⟩ | ⟨gb, cb, rfl⟩
    · rw [h0]; exact likeEmpty w (some ⟨ga, 0, none⟩) none ca 0
    · exact likeC w ba bb ga gb ca cb ls hn ha hb

theorem likeN (w : World) (ba bb n : Nat) (va vb : Value) (ls : List (List UInt8)) (hl : ls.length = n) (hn : n ≤ 1000000)
    (ha : w.ownsRow ba 9 1 va n (strV ls)) (hb : w.ownsRow bb 9 1 vb n (strV ls)) :
    Calls Try.prog 20 #[va, vb] w fun e w' => e = .returned (.bool true) ∧ w.grownBy w' none := by
  subst hl; exact likeV w ba bb va vb ls hn ha hb

theorem own_cap {w : World} {base e g n cp : Nat} {xs : List Value} (h : w.ownsRow base e 1 (.slice (some ⟨g, 0, none⟩) n cp) n xs) : n ≤ cp ∧ cp ≤ maxLen := by
  rcases h.2 with ⟨h', _⟩ | ⟨g', cap', cur, h', hb, hg, hnc, hcm, hcs, htake⟩
  · simp at h'
  · simp only [Value.slice.injEq, Option.some.injEq, Addr.mk.injEq, and_true, true_and] at h'
    obtain ⟨rfl, rfl⟩ := h'
    exact ⟨hnc, hcm⟩

theorem own_some {w : World} {base e size n : Nat} {v : Value} {xs : List Value} (h : w.ownsRow base e size v n xs) (hn : n ≠ 0) : ∃ g cp, v = .slice (some ⟨g, 0, none⟩) n cp := by
  rcases own_forms h with ⟨_, h0, _⟩ | h1
  · exact absurd h0 hn
  · exact h1

/-- A row cut at its end. -/
theorem own_take {w : World} {base e g n cp : Nat} {xs : List Value} (h : w.ownsRow base e 1 (.slice (some ⟨g, 0, none⟩) n cp) n xs) (m : Nat) (hm : m ≤ n) : w.ownsRow base e 1 (.slice (some ⟨g, 0, none⟩) m cp) m (xs.take m) := by
  have h0 := h.1
  rcases h.2 with ⟨h', _⟩ | ⟨g', cap', cur, h', hb, hg, hnc, hcm, hcs, htake⟩
  · simp at h'
  · simp only [Value.slice.injEq, Option.some.injEq, Addr.mk.injEq, and_true, true_and] at h'
    obtain ⟨rfl, rfl⟩ := h'
    refine ⟨by rw [List.length_take]; omega, .inr ⟨g, cp, cur, rfl, hb, hg, by omega, hcm, hcs, ?_⟩⟩
    rw [← htake, List.take_take]
    congr 1
    omega

theorem str_cellsD {w : World} {base g cp n : Nat} {ls : List (List UInt8)} (h : w.ownsRow base 9 1 (.slice (some ⟨g, 0, none⟩) n cp) n (strV ls)) (hn : ls.length = n) (j : Nat) (hj : j < n) :
    w.cell? ⟨g, j, none⟩ = some (.string ⟨(ls.getD j []).toArray⟩) := by
  rw [h.cellAt j (by omega), strV_at ls j (by omega), List.getD_eq_getElem?_getD, List.getElem?_eq_getElem (by omega)]; rfl

theorem strV_take (ls : List (List UInt8)) (m : Nat) : (strV ls).take m = strV (ls.take m) := by simp [strV, List.map_take]

end Go.Proofs.Ytdjbcjmnegjndaa
