/-
  Parts of one proof, one behind the other: ImgS5, InsL, RtO, NodeIn, InsX.
-/
import Derived.Test.YthjemelnbbpdcaaP17
import Derived.Test.YthjemelnbbpdcaaP2
import Derived.Test.YthjemelnbbpdcaaP13
import Derived.Test.YthjemelnbbpdcaaP14
import Derived.Test.YthjemelnbbpdcaaP16
import Derived.Test.YthjemelnbbpdcaaP11
import Derived.Test.YthjemelnbbpdcaaRows
import Derived.WalkKit
import Derived.ProofKit
import Derived.OpenShut
import Derived.ShutString
import Derived.ChangeOld
import Derived.Below
import Derived.Lib.SmallJoins
import Derived.Deep.SlicePairs

/-! The contract of chapter 14's specification: RunImage. -/
namespace Go.Proofs.Ythjemelnbbpdcaa
open Go.RowKit

theorem runV_no {rs : List Rt} {nm : List UInt8} {xs : List Int} {fuel : Int} (h : ¬ runP rs nm xs fuel) : runV rs nm xs fuel = (0, 3) := if_neg h
theorem runV_yes {rs : List Rt} {nm : List UInt8} {xs : List Int} {f κ : Nat} (h : runP rs nm xs (f : Int)) (hk : at14 rs nm = (κ : Int)) : runV rs nm xs (f : Int) = if (run14 rs f f κ xs row14 0).2.1 = 0 then ((run14 rs f f κ xs row14 0).1, 0) else (0, (run14 rs f f κ xs row14 0).2.1) := by
  have hg := run14_gas rs 20000 f f κ xs row14 0 (by have := h.2.2.2.1; omega) (Nat.le_refl _)
  unfold runV
  rw [if_pos h, hk, Int.toNat_natCast, Int.toNat_natCast, hg]

set_option maxHeartbeats 8000000 in
set_option maxRecDepth 100000 in
theorem specRunImage (a : Option Addr) (len cap : Nat) (rs : List Rt) (nm : List UInt8) (aa : Option Addr) (ac : Nat) (xs : List Int) (fuel : Int) (w : World) (hin : RtsIn w a len rs) (hsh : ShortR rs) (hlen : len ≤ 1048576) (hx : AsIn w aa xs) (hxl : xs.length ≤ 1048576) :
    Calls Try.prog 9 #[.agg #[.slice a len cap], .string ⟨nm.toArray⟩, .slice aa xs.length ac, .int .i64 fuel] w fun e w' => e = .returned (.tuple #[.int .i64 (runV rs nm xs fuel).1, .int .i64 (runV rs nm xs fuel).2]) ∧ Below w.heap.size w w' := by
  obtain rfl : rs.length = len := hin.1
  obtain ⟨W, hW⟩ : ∃ W, w.alloc (.cells #[.slice a rs.length cap] 26) = W := ⟨_, rfl⟩
  have hbW : Below w.heap.size w W := by rw [← hW]; exact (Below.refl _ _).alloc (Nat.le_refl _) _
  have hA : W.heap[w.heap.size]? = some (.cells #[.slice a rs.length cap] 26) := by rw [← hW]; exact heap_alloc_new w _
  obtain ⟨D, hD⟩ : ∃ D, w.heap.size = D := ⟨_, rfl⟩
  rw [hD] at hA
  have k0 : W.cell? ⟨D, 0, none⟩ = some (.slice a rs.length cap) := by simp [World.cell?, hA]
  have hDl : D < W.heap.size := World.block_lt_of_cell? W ⟨D, 0, none⟩ k0
  have HK : Hid (∀ Z, Below W.heap.size W Z → Z.cell? ⟨D, 0, none⟩ = some (.slice a rs.length cap)) := fun Z hz => (hz.cell (p := ⟨D, 0, none⟩) hDl).trans k0
  have HI : Hid (∀ Z, Below W.heap.size W Z → RtsIn Z a rs.length rs ∧ AsIn Z aa xs ∧ Below w.heap.size w Z) := fun Z hz => ⟨(hin.below hbW).below hz, (hx.below hbW).below hz, hbW.trans (hz.mono hbW.size)⟩
  have HA : Hid (_) := specAt14 a rs.length cap rs nm W (hin.below hbW) hlen
  have HO : Hid (_) := specImageOk a rs.length cap rs W (hin.below hbW) hsh hlen
  obtain ⟨M, hM⟩ : ∃ M, runV rs nm xs fuel = M := ⟨_, rfl⟩
  have HM : Hid (runV rs nm xs fuel = M) := hM
  rw [hM]
  obtain ⟨κi, hκ⟩ : ∃ κi, at14 rs nm = κi := ⟨_, rfl⟩
  have hκb := at14_bd rs nm
  rw [hκ] at HA hκb
  have HKp : Hid (at14 rs nm = κi) := hκ
  obtain ⟨ok, hok⟩ : ∃ ok, imageB rs = ok := ⟨_, rfl⟩
  have HOk : Hid (imageB rs = ok) := hok
  rw [hok] at HO
  have HD : Hid (w.heap.size = D) := hD
  clear hin hsh hbW hA hDl hx hM hκ hok
  go_enter Try.func9, Try.ntmps9
  go_wp2_with fail
  refine Calls.mono HA.out ?_
  rintro e w0 ⟨rfl, hw0⟩
  obtain rfl := hw0.symm
  clear hw0 HA
  go_wp2_with fail
  refine Calls.mono HO.out ?_
  rintro e w1 ⟨rfl, hb1⟩
  clear HO k0
  have k0 := HK.out w1 hb1
  obtain ⟨hI1, hX1, hB1⟩ := HI.out w1 hb1
  have HB1 : Hid (Below w.heap.size w w1) := hB1
  have HI1 : Hid (RtsIn w1 a rs.length rs) := hI1
  have HX1 : Hid (AsIn w1 aa xs) := hX1
  clear hB1 hX1
  cases ok
  · obtain rfl : M = (0, 3) := HM.out.symm.trans (runV_no (fun h => by have := h.1; rw [HOk.out] at this; cases this))
    clear HM hI1
    go_wp2
    go_ret2
    exact ⟨rfl, by rw [← HD.out]; exact HB1.out⟩
  by_cases hκ0 : κi < 0
  · obtain rfl : M = (0, 3) := HM.out.symm.trans (runV_no (fun h => by have := h.2.1; rw [HKp.out] at this; omega))
    clear HM hI1
    go_wp2
    go_ret2
    exact ⟨rfl, by rw [← HD.out]; exact HB1.out⟩
  obtain ⟨κ, rfl⟩ : ∃ κ : Nat, κi = (κ : Int) := Int.eq_ofNat_of_zero_le (by omega)
  clear hκ0
  have hκn : κ < rs.length := by omega
  obtain ⟨b, off, rfl, hbl, -, q1, -⟩ := hI1.2 κ hκn
  have HP : Hid (runP rs nm xs fuel ↔ (xs.length : Int) = (rs.getD κ rt0).2.1 ∧ (0 ≤ fuel ∧ fuel ≤ 20000) ∧ WordL xs) := ⟨fun h => by have h3 := h.2.2.1; rw [HKp.out, Int.toNat_natCast] at h3; exact ⟨h3, h.2.2.2⟩, fun h => ⟨HOk.out, by rw [HKp.out]; omega, by rw [HKp.out, Int.toNat_natCast]; exact h.1, h.2⟩⟩
  have HAg : Hid (∃ ag, (rs.getD κ rt0).2.1 = ag) := ⟨_, rfl⟩
  obtain ⟨ag, hag⟩ := HAg.out
  rw [hag] at q1 HP
  have HAG : Hid ((rs.getD κ rt0).2.1 = ag) := hag
  have HKn : Hid (κ < rs.length) := hκn
  obtain ⟨n, hn⟩ : ∃ n, rs.length = n := ⟨_, rfl⟩
  have HN : Hid (rs.length = n) := hn
  obtain ⟨nx, hnx⟩ : ∃ nx, xs.length = nx := ⟨_, rfl⟩
  have HNx : Hid (xs.length = nx) := hnx
  have hkn2 : (κ : Int) < (n : Int) := by omega
  have hk00 : ¬ (κ : Int) < 0 := by omega
  rw [hnx] at hxl HP ⊢
  rw [hn] at hlen k0
  clear hI1 hag hbl HAg hn hnx hκb hκn HI HK
  by_cases hal : (nx : Int) = ag
  rotate_left
  · have halb : ((nx : Int) != ag) = true := by rw [bne_iff_ne]; exact hal
    obtain rfl : M = (0, 3) := HM.out.symm.trans (runV_no (fun h => hal (HP.out.1 h).1))
    clear HM hal
    go_wp2
    go_ret2
    exact ⟨rfl, by rw [← HD.out]; exact HB1.out⟩
  have halb : ((nx : Int) != ag) = false := by rw [hal]; simp
  have HAl : Hid ((nx : Int) = ag) := hal
  clear hal
  go_wp2_with fail
  refine Calls.mono (specIn fuel 0 20000 _) ?_
  rintro e w2 ⟨rfl, hw2⟩
  obtain rfl := hw2.symm
  clear hw2
  by_cases hfu : 0 ≤ fuel ∧ fuel ≤ 20000
  rotate_left
  · have hib : inB fuel 0 20000 = false := decide_eq_false hfu
    obtain rfl : M = (0, 3) := HM.out.symm.trans (runV_no (fun h => hfu (HP.out.1 h).2.1))
    rw [hib]
    clear HM hfu hib
    go_wp2
    go_ret2
    exact ⟨rfl, by rw [← HD.out]; exact HB1.out⟩
  have hib : inB fuel 0 20000 = true := decide_eq_true hfu
  rw [hib]
  obtain ⟨f, rfl⟩ : ∃ f : Nat, fuel = (f : Int) := ⟨fuel.toNat, by omega⟩
  have HFu : Hid (0 ≤ (f : Int) ∧ (f : Int) ≤ 20000) := hfu
  clear hib hfu q1 halb
  go_wp2
  go_loopw [11] (fun iv wx => ∃ i : Nat, iv = .int .i64 (i : Int) ∧ i ≤ nx ∧ Hid (∀ j, j < i → -2147483648 ≤ xs.getD j 0 ∧ xs.getD j 0 ≤ 2147483647) ∧ wx = w1) (fun iv _ => nx - (intOf iv).toNat)
  case atStart => exact ⟨0, rfl, by omega, (fun j hj => absurd hj (Nat.not_lt_zero _)), rfl⟩
  case round =>
    obtain ⟨i, rfl, hi, HWs, rfl⟩ := hrel
    by_cases hlt : (i : Int) < (nx : Int)
    · have hi2 : i < xs.length := by have := HNx.out; omega
      obtain ⟨ba, oa, rfl, hba, hca⟩ := HX1.out i hi2
      have hmem : xs.getD i 0 ∈ xs := by simp [List.getD, hi2]
      have HNx2 : Hid ((-2147483648 ≤ xs.getD i 0 ∧ xs.getD i 0 ≤ 2147483647) → ∀ j, j < i + 1 → -2147483648 ≤ xs.getD j 0 ∧ xs.getD j 0 ≤ 2147483647) := fun h j hj => by
        rcases Nat.lt_or_ge j i with h1 | h1
        · exact HWs.out j h1
        · obtain rfl : j = i := by omega
          exact h
      generalize xs.getD i 0 = xv at hca hmem HNx2
      have HC : Hid (_) := specWordOk xv wr
      clear hi2 hba
      by_cases hwd : -2147483648 ≤ xv ∧ xv ≤ 2147483647
      · have hib : inB xv (-2147483648) 2147483647 = true := decide_eq_true hwd
        rw [hib] at HC
        have HW2 : Hid (_) := HNx2.out hwd
        clear hib hwd HNx2 hmem
        go_wp2_with fail
        refine Calls.mono HC.out ?_
        rintro e w4 ⟨rfl, hw4⟩
        obtain rfl := hw4.symm
        go_wp2
        go_roundw
        case rel => exact ⟨i + 1, by go_num, by omega, HW2, trivial⟩
        case measure => simp [intOf]; omega
      · have hib : inB xv (-2147483648) 2147483647 = false := decide_eq_false hwd
        rw [hib] at HC
        obtain rfl : M = (0, 3) := HM.out.symm.trans (runV_no (fun h => hwd ((HP.out.1 h).2.2 xv hmem)))
        clear hib hwd HNx2 hmem HM
        go_wp2_with fail
        refine Calls.mono HC.out ?_
        rintro e w4 ⟨rfl, hw4⟩
        obtain rfl := hw4.symm
        go_wp2
        go_ret2
        exact ⟨rfl, by rw [← HD.out]; exact HB1.out⟩
    · have hwl : WordL xs := fun x hx => by
        obtain ⟨j, hj, e⟩ := List.mem_iff_getElem.1 hx
        have h := HWs.out j (by have := HNx.out; omega)
        simp only [List.getD, hj, List.getElem?_eq_getElem, Option.getD_some] at h
        rw [e] at h
        exact h
      have hMe := HM.out.symm.trans (runV_yes (HP.out.2 ⟨HAl.out, HFu.out, hwl⟩) HKp.out)
      obtain ⟨G, hG⟩ : ∃ G, wr.heap.size = G := ⟨_, rfl⟩
      obtain ⟨X1, hX1⟩ : ∃ X1, wr.alloc (.cells #[.slice (some ⟨b, off, none⟩) n cap, .int .i64 (f : Int), .int .i64 0] 64) = X1 := ⟨_, rfl⟩
      have hbX : Below wr.heap.size wr X1 := by rw [← hX1]; exact (Below.refl _ _).alloc (Nat.le_refl _) _
      have hAX : X1.heap[G]? = some (.cells #[.slice (some ⟨b, off, none⟩) n cap, .int .i64 (f : Int), .int .i64 0] 64 (0, 0)) := by rw [← hX1, ← hG]; exact heap_alloc_new wr _
      have hca := cal14 wr rs (some ⟨b, off, none⟩) cap G HI1.out HOk.out f (by have := HFu.out; omega) X1 κ xs aa ac (by rw [HN.out]; exact hAX) hbX (by omega) HKn.out (by rw [HAG.out, HNx.out]; exact HAl.out) hwl (fun j hj => by
        obtain ⟨b3, o3, e3, h3, h4⟩ := (HX1.out.below hbX) j hj
        obtain ⟨b4, o4, e4, h5, _⟩ := HX1.out j hj
        have : b3 = b4 := by rw [e3] at e4; injection e4 with e4; injection e4
        exact ⟨b3, o3, e3, by omega, h3, h4⟩)
      rw [HNx.out, HN.out] at hca
      obtain ⟨RR, hRR⟩ : ∃ RR, run14 rs f f κ xs row14 0 = RR := ⟨_, rfl⟩
      rw [hRR] at hca hMe
      obtain ⟨rv, rc, rf⟩ := RR
      simp only at hca hMe
      have HCa : Hid (_) := hca
      have HBX : Hid (Below wr.heap.size wr X1 ∧ wr.heap.size = G) := ⟨hbX, hG⟩
      clear hca hbX hAX hwl hRR HWs HM
      go_wp2_with fail
      refine Calls.mono HCa.out ?_
      rintro e w4 ⟨rfl, hw4, hbk4⟩
      have s2 : w4.cell? ⟨G, 2, none⟩ = some (.int .i64 rc) := by rw [cell_of_row _ _ _ _ _ _ hbk4]; rfl
      have HB4 : Hid (Below w.heap.size w w4) := by
        have h1 := HB1.out.trans (HBX.out.1.mono HB1.out.size)
        exact h1.trans (hw4.below h1.size (fun q e => by have := HBX.out.2; have := HB1.out.size; omega))
      clear hw4 hbk4 HCa HBX
      by_cases hrc : rc = 0
      · subst hrc
        rw [if_pos rfl] at hMe
        subst hMe
        go_wp2
        go_ret2
        exact ⟨rfl, by rw [← HD.out]; exact HB4.out⟩
      · have hrb : (rc != 0) = true := by rw [bne_iff_ne]; exact hrc
        rw [if_neg hrc] at hMe
        subst hMe
        go_wp2_with fail
        go_quiet (fail)
        go_wp2
        go_ret2
        exact ⟨rfl, by rw [← HD.out]; exact HB4.out.trans ⟨rfl, rfl, rfl, Nat.le_refl _, fun _ _ => rfl⟩⟩

end Go.Proofs.Ythjemelnbbpdcaa

/-! A row of instructions. -/
namespace Go.Proofs.Ythjemelnbbpdcaa
open Go.RowKit

def insV : List In13 → List Value
  | [] => []
  | i :: r => .int .i64 i.1 :: .int .i64 i.2.1 :: .int .i64 i.2.2.1 :: .int .i64 i.2.2.2.1 :: .string ⟨i.2.2.2.2.toArray⟩ :: insV r
theorem insV_len (is : List In13) : (insV is).length = is.length * 5 := by
  induction is with
  | nil => rfl
  | cons n r ih => simp only [insV, List.length_cons, ih]; omega
theorem insV_append (x y : List In13) : insV (x ++ y) = insV x ++ insV y := by
  induction x with
  | nil => rfl
  | cons n r ih => simp only [List.cons_append, insV, ih]
theorem insV_one (is : List In13) : ∀ u ∈ insV is, u.oneCell' = true := by
  induction is with
  | nil => intro u hu; cases hu
  | cons n r ih =>
    intro u hu
    simp only [insV, List.mem_cons] at hu
    rcases hu with rfl | rfl | rfl | rfl | rfl | h
    · rfl
    · rfl
    · rfl
    · rfl
    · rfl
    · exact ih u h
theorem insV_at (is : List In13) (j : Nat) (hj : j < is.length) : (insV is)[j * 5]? = some (.int .i64 (is.getD j in0).1) ∧ (insV is)[j * 5 + 1]? = some (.int .i64 (is.getD j in0).2.1) ∧ (insV is)[j * 5 + 2]? = some (.int .i64 (is.getD j in0).2.2.1) ∧ (insV is)[j * 5 + 3]? = some (.int .i64 (is.getD j in0).2.2.2.1) ∧ (insV is)[j * 5 + 4]? = some (.string ⟨(is.getD j in0).2.2.2.2.toArray⟩) := by
  induction is generalizing j with
  | nil => simp at hj
  | cons n r ih =>
    cases j with
    | zero => simp [insV]
    | succ j =>
      have h := ih j (by simpa using hj)
      rw [show (j + 1) * 5 = j * 5 + 1 + 1 + 1 + 1 + 1 by omega]
      simpa [insV] using h
theorem own_ins {w : World} {base n : Nat} {v : Value} {is : List In13} (h : w.ownsRow base 69 5 v n (insV is)) : is.length = n ∧ ∃ a cap, v = .slice a n cap ∧ InsIn w a n is := by
  have hlen : is.length = n := by have := h.1; rw [insV_len] at this; omega
  refine ⟨hlen, ?_⟩
  rcases own_forms h with ⟨rfl, rfl, _⟩ | ⟨g, cp, rfl⟩
  · exact ⟨none, 0, rfl, hlen, fun j hj => by omega⟩
  · refine ⟨some ⟨g, 0, none⟩, cp, rfl, hlen, fun j hj => ?_⟩
    obtain ⟨v0, v1, v2, v3, v4⟩ := insV_at is j (by omega)
    have c0 := h.cellAt (j * 5) (by omega)
    have c1 := h.cellAt (j * 5 + 1) (by omega)
    have c2 := h.cellAt (j * 5 + 2) (by omega)
    have c3 := h.cellAt (j * 5 + 3) (by omega)
    have c4 := h.cellAt (j * 5 + 4) (by omega)
    rw [v0] at c0
    rw [v1] at c1
    rw [v2] at c2
    rw [v3] at c3
    rw [v4] at c4
    refine ⟨g, 0, rfl, (h.lt g rfl).2, ?_, ?_, ?_, ?_, ?_⟩ <;> (rw [Nat.zero_add]; assumption)
theorem infoIns : (Try.prog.info? 69).map (fun i => (i.zero, i.size, i.bytes)) = some (some (.agg #[.int .i64 0, .int .i64 0, .int .i64 0, .int .i64 0, .string ⟨#[]⟩]), 5, 48) := by kernel_rfl
theorem new_ins (w : World) (n : In13) : ∀ j u, (insV [n])[j]? = some u → (w.alloc (.cells #[.int .i64 n.1, .int .i64 n.2.1, .int .i64 n.2.2.1, .int .i64 n.2.2.2.1, .string ⟨n.2.2.2.2.toArray⟩] 69)).cell? ((⟨w.heap.size, 0, none⟩ : Addr).add j) = some u := by
  intro j u hu
  have e : (⟨w.heap.size, 0, none⟩ : Addr).add j = ⟨w.heap.size, j, none⟩ := by unfold Addr.add; split <;> simp_all
  rw [e]
  match j, hu with
  | 0, hu => simp [insV] at hu; subst hu; simp
  | 1, hu => simp [insV] at hu; subst hu; simp
  | 2, hu => simp [insV] at hu; subst hu; simp
  | 3, hu => simp [insV] at hu; subst hu; simp
  | 4, hu => simp [insV] at hu; subst hu; simp
  | j + 5, hu => simp [insV] at hu
theorem push_ins13 {X : World} {B n : Nat} {v : Value} {xs : List In13} (x : In13) (hv : X.ownsRow B 69 5 v n (insV xs)) (hb : B ≤ X.heap.size) (hn : n ≤ 1048576) :
    ∃ v' Y, (Builtin.append_ #[49, 49] 49 #[v, .slice (some ⟨X.heap.size, 0, none⟩) 1 1]).run Try.prog (X.alloc (.cells #[.int .i64 x.1, .int .i64 x.2.1, .int .i64 x.2.2.1, .int .i64 x.2.2.2.1, .string ⟨x.2.2.2.2.toArray⟩] 69)) = .ok v' Y ∧ Y.ownsRow B 69 5 v' (n + 1) (insV (xs ++ [x])) ∧ X.grownBy Y v.ownBlock := by
  obtain ⟨i0, hi, hz0, hz1, hz2⟩ := info_parts infoIns
  obtain ⟨v', Y, hrun, hown, hg, _⟩ := run_append_src (P := Try.prog) (X.alloc (.cells #[.int .i64 x.1, .int .i64 x.2.1, .int .i64 x.2.2.1, .int .i64 x.2.2.2.1, .string ⟨x.2.2.2.2.toArray⟩] 69)) B 49 49 69 i0 _ 5 48 Try.underlying49 hi hz0 hz1 hz2 rfl (by decide) _ _ _ (hv.alloc _) (.slice (some ⟨X.heap.size, 0, none⟩) 1 1) 1 (insV [x]) ⟨rfl, insV_one _, Or.inr ⟨_, 1, rfl, new_ins X x⟩⟩ (by unfold maxLen; omega) (by omega) (by simp; omega)
  refine ⟨v', Y, hrun, ?_, (World.grownBy_alloc X _ _).trans hg⟩
  rw [insV_append]
  exact hown

end Go.Proofs.Ythjemelnbbpdcaa

/-! Routines that a call has made: each with its code in a row of its own. -/
namespace Go.Proofs.Ythjemelnbbpdcaa
open Go.RowKit

/-- A function, and where its tree lies. -/
abbrev RV := Rt × Option Addr × Nat
def rvT (x : RV) : Value := .slice x.2.1 x.1.2.2.length x.2.2
def rtsV : List RV → List Value
  | [] => []
  | x :: r => .string ⟨x.1.1.toArray⟩ :: .int .i64 x.1.2.1 :: rvT x :: rtsV r

def rv0 : RV := (rt0, none, 0)

theorem rtsV_len (xs : List RV) : (rtsV xs).length = xs.length * 3 := by
  induction xs with
  | nil => rfl
  | cons n r ih => simp only [rtsV, List.length_cons, ih]; omega

theorem rtsV_append (x y : List RV) : rtsV (x ++ y) = rtsV x ++ rtsV y := by
  induction x with
  | nil => rfl
  | cons n r ih => simp [rtsV, ih]

theorem rtsV_one (xs : List RV) : ∀ u ∈ rtsV xs, u.oneCell' = true := by
  induction xs with
  | nil => intro u hu; cases hu
  | cons n r ih =>
    intro u hu
    simp only [rtsV, List.mem_cons] at hu
    rcases hu with rfl | rfl | rfl | h
    · rfl
    · rfl
    · rfl
    · exact ih u h

theorem rtsV_at (xs : List RV) (j : Nat) (hj : j < xs.length) : (rtsV xs)[j * 3]? = some (.string ⟨(xs.getD j rv0).1.1.toArray⟩) ∧ (rtsV xs)[j * 3 + 1]? = some (.int .i64 (xs.getD j rv0).1.2.1) ∧ (rtsV xs)[j * 3 + 2]? = some (rvT (xs.getD j rv0)) := by
  induction xs generalizing j with
  | nil => simp at hj
  | cons n r ih =>
    cases j with
    | zero => simp [rtsV]
    | succ j =>
      obtain ⟨h0, h1, h2⟩ := ih j (by simpa using hj)
      refine ⟨?_, ?_, ?_⟩
      · rw [show (j + 1) * 3 = j * 3 + 1 + 1 + 1 by omega]; simpa [rtsV] using h0
      · rw [show (j + 1) * 3 + 1 = j * 3 + 1 + 1 + 1 + 1 by omega]; simpa [rtsV] using h1
      · rw [show (j + 1) * 3 + 2 = j * 3 + 2 + 1 + 1 + 1 by omega]; simpa [rtsV] using h2

structure RtsOwn (w : World) (base : Nat) (v : Value) (xs : List RV) : Prop where
  row : w.ownsRow base 51 3 v xs.length (rtsV xs)
  trees : ∀ x ∈ xs, w.ownsRow base 69 5 (rvT x) x.1.2.2.length (insV x.1.2.2)

theorem RtsOwn.below {w w' : World} {base : Nat} {v : Value} {xs : List RV} (h : RtsOwn w base v xs) (hb : Below w.heap.size w w') : RtsOwn w' base v xs := ⟨own_below h.row hb, fun x hx => own_below (h.trees x hx) hb⟩

theorem RtsOwn.kept {w w' : World} {base : Nat} {v : Value} {xs : List RV} {row : Option Nat} (h : RtsOwn w base v xs) (hg : w.grownBy w' row) (h1 : v.ownBlock = none ∨ v.ownBlock ≠ row) (h2 : ∀ x ∈ xs, (rvT x).ownBlock = none ∨ (rvT x).ownBlock ≠ row) : RtsOwn w' base v xs :=
  ⟨h.row.kept hg h1, fun x hx => (h.trees x hx).kept hg (h2 x hx)⟩

theorem RtsOwn.base {w : World} {base b2 : Nat} {v : Value} {xs : List RV} (h : RtsOwn w base v xs) (hb : b2 ≤ base) : RtsOwn w b2 v xs := ⟨own_base h.row hb, fun x hx => own_base (h.trees x hx) hb⟩

theorem RtsOwn.nil (w : World) (base : Nat) : RtsOwn w base (.slice none 0 0) [] := ⟨World.ownsRow_nil w _ _ _, fun x hx => by cases hx⟩

theorem getD_map_rt (xs : List RV) (j : Nat) : (xs.map (·.1)).getD j rt0 = (xs.getD j rv0).1 := by
  rw [List.getD_eq_getElem?_getD, List.getD_eq_getElem?_getD, List.getElem?_map]
  cases xs[j]? <;> rfl

/-- What is owned can be read. -/
theorem RtsOwn.in {w : World} {base : Nat} {v : Value} {xs : List RV} (h : RtsOwn w base v xs) : ∃ a cap, v = .slice a xs.length cap ∧ (a = none → cap = 0) ∧ RtsIn w a xs.length (xs.map (·.1)) := by
  rcases own_forms h.row with ⟨rfl, h0, _⟩ | ⟨g, cp, rfl⟩
  · exact ⟨none, 0, by rw [h0], fun _ => rfl, by simp, fun j hj => by omega⟩
  · refine ⟨some ⟨g, 0, none⟩, cp, rfl, fun e => (by cases e), by simp, fun j hj => ?_⟩
    obtain ⟨v0, v1, v2⟩ := rtsV_at xs j hj
    have hc := fun k (hk : k < xs.length * 3) => World.ownsRow.cellAt h.row k hk
    have hmem : xs.getD j rv0 ∈ xs := by rw [List.getD_eq_getElem?_getD, List.getElem?_eq_getElem hj]; exact List.getElem_mem hj
    obtain ⟨hl, a, cap, e, hn⟩ := own_ins (h.trees _ hmem)
    refine ⟨g, 0, rfl, (h.row.lt g rfl).2, ?_, ?_, (xs.getD j rv0).2.1, (xs.getD j rv0).1.2.2.length, (xs.getD j rv0).2.2, ?_, ?_⟩
    · rw [Nat.zero_add, hc _ (by omega), v0, getD_map_rt]
    · rw [Nat.zero_add, hc _ (by omega), v1, getD_map_rt]
    · rw [Nat.zero_add, hc _ (by omega), v2]; rfl
    · rw [getD_map_rt]
      unfold rvT at e
      injection e with e1 e2 e3
      rw [e1]; exact hn

theorem infoRt : (Try.prog.info? 51).map (fun i => (i.zero, i.size, i.bytes)) = some (some (.agg #[.string ⟨#[]⟩, .int .i64 0, .slice none 0 0]), 3, 48) := by kernel_rfl

/-- A new block of one function, as 'append' reads it. -/
theorem new_rt (w : World) (x : RV) (c : Nat) : Src (w.alloc (.cells #[.string ⟨x.1.1.toArray⟩, .int .i64 x.1.2.1, rvT x] 51)) (.slice (some ⟨w.heap.size, 0, none⟩) 1 c) 1 3 (rtsV [x]) := by
  refine ⟨rfl, rtsV_one _, Or.inr ⟨_, c, rfl, fun j u hu => ?_⟩⟩
  rw [add_plainR, Nat.zero_add]
  match j, hu with
  | 0, hu => simp [rtsV] at hu; subst hu; simp
  | 1, hu => simp [rtsV] at hu; subst hu; simp
  | 2, hu => simp [rtsV] at hu; subst hu; simp
  | j + 3, hu => simp [rtsV] at hu

end Go.Proofs.Ythjemelnbbpdcaa

/-! A node, and a row of nodes, that came in, as the walks take them. -/
namespace Go.Proofs.Ythjemelnbbpdcaa
open Go.ChangeShapes Go.WideShapes Go.ChangeAt Go.RowKit Go.Joins Go.Deep


end Go.Proofs.Ythjemelnbbpdcaa

/-! An instruction that came in, as the walks take it; szIns, toIns. -/
namespace Go.Proofs.Ythjemelnbbpdcaa
open Go.ChangeShapes Go.WideShapes Go.ChangeAt Go.RowKit Go.Joins Go.Deep

/-- An instruction's numbers are numbers of 64 bits. -/
def IntI (i : In13) : Prop := (-9223372036854775808 ≤ i.1 ∧ i.1 ≤ 9223372036854775807) ∧ (-9223372036854775808 ≤ i.2.1 ∧ i.2.1 ≤ 9223372036854775807) ∧ (-9223372036854775808 ≤ i.2.2.1 ∧ i.2.2.1 ≤ 9223372036854775807) ∧ (-9223372036854775808 ≤ i.2.2.2.1 ∧ i.2.2.2.1 ≤ 9223372036854775807)

theorem five {α : Type} {cs : Array α} (h : cs.size = 5) : ∃ a b c d e, cs = #[a, b, c, d, e] := by
  obtain ⟨l⟩ := cs
  match l, h with
  | [a, b, c, d, e], _ => exact ⟨a, b, c, d, e, rfl⟩
theorem cellsIns : Try.prog.cellsOf 131 = 5 := by kernel_rfl
theorem cells2 : Try.prog.cellsOf 2 = 1 := by kernel_rfl
theorem cells9 : Try.prog.cellsOf 9 = 1 := by kernel_rfl

set_option maxRecDepth 100000 in
theorem open_ins {H : Type} {enc : TypeId × Value → H} {W : World} {base b0 : Nat} {spare : Nat → Bool} {held : Bool} {v : Value} {d : DataW H} {p : List MemPlace}
    (hv : Value.okWide Try.prog W .any b0 131 v) (h : DataW.Trod enc Try.prog W base spare held 131 v d p) :
    ∃ i : In13, v = insVal i ∧ IntI i ∧ i.2.2.2.2.length ≤ maxLen := by
  obtain ⟨cs, rfl, hsz⟩ := okWide_struct Try.underlying131 hv
  obtain ⟨c0, c1, c2, c3, c4, rfl⟩ := five (hsz.trans cellsIns)
  obtain ⟨fuel, hf⟩ := h
  obtain ⟨xs, n, _, _, hl, hlen, hx⟩ := DataW.trod_struct Try.underlying131 hf
  match xs, hlen with
  | [y0, y1, y2, y3, y4], _ =>
    have t0 := hx 0 _ rfl
    have t1 := hx 1 _ rfl
    have t2 := hx 2 _ rfl
    have t3 := hx 3 _ rfl
    have t4 := hx 4 _ rfl
    simp only [Value.cells] at t0 t1 t2 t3 t4
    obtain ⟨k0, e0, _, w0⟩ := DataW.trod_int Try.underlying2 t0
    obtain ⟨k1, e1, _, w1⟩ := DataW.trod_int Try.underlying2 t1
    obtain ⟨k2, e2, _, w2⟩ := DataW.trod_int Try.underlying2 t2
    obtain ⟨k3, e3, _, w3⟩ := DataW.trod_int Try.underlying2 t3
    obtain ⟨s4, e4, _, h4⟩ := DataW.trod_string Try.underlying9 t4
    simp [cells2] at e0 e1 e2 e3
    simp [cells9] at e4
    subst e0 e1 e2 e3 e4
    exact ⟨(k0, k1, k2, k3, s4.data.toList), rfl, ⟨bounds_i64 w0, bounds_i64 w1, bounds_i64 w2, bounds_i64 w3⟩, h4⟩

def szI (m : Nat) (left : Int) : Int := if (m : Int) ≤ left then left - (m : Int) else -1

set_option maxHeartbeats 400000 in
set_option maxRecDepth 100000 in
theorem szInsC (k r a b left : Int) (s : List UInt8) (w : World) (h0 : 0 ≤ left) (h1 : left ≤ 1048576) (hs : s.length ≤ maxLen) :
    Calls Try.prog 81 #[.agg #[.int .i64 k, .int .i64 r, .int .i64 a, .int .i64 b, .string ⟨s.toArray⟩], .int .i64 left] w fun e w' => e = .returned (.int .i64 (szI s.length left)) ∧ Below w.heap.size w w' := by
  unfold maxLen at hs
  have hs2 : (s.length : Int) ≤ 9223372036854775807 := by omega
  by_cases hA : (s.length : Int) ≤ left
  · have HS : Hid (szI s.length left = left - (s.length : Int)) := by exact (by unfold szI; rw [if_pos hA] : szI s.length left = left - (s.length : Int))
    go_enter Try.func81, Try.ntmps81
    go_wp2
    go_ret
    exact ⟨by rw [HS.out]; rfl, (Below.refl _ w).alloc (Nat.le_refl _) _⟩
  · have HS : Hid (szI s.length left = -1) := by exact (by unfold szI; rw [if_neg hA] : szI s.length left = -1)
    go_enter Try.func81, Try.ntmps81
    go_wp2
    go_ret
    exact ⟨by rw [HS.out]; rfl, (Below.refl _ w).alloc (Nat.le_refl _) _⟩

set_option maxHeartbeats 400000 in
set_option maxRecDepth 100000 in
theorem toInsC (k r a b : Int) (s : List UInt8) (w : World) :
    Calls Try.prog 83 #[.agg #[.int .i64 k, .int .i64 r, .int .i64 a, .int .i64 b, .string ⟨s.toArray⟩]] w fun e w' => e = .returned (.agg #[.int .i64 k, .int .i64 r, .int .i64 a, .int .i64 b, .string ⟨s.toArray⟩]) ∧ Below w.heap.size w w' := by
  go_enter Try.func83, Try.ntmps83
  go_wp2
  refine bodyPost_ret (v := .agg #[.int .i64 k, .int .i64 r, .int .i64 a, .int .i64 b, .string ⟨s.toArray⟩]) (by simp [results, Try.results83, go_sem]) rfl ?_
  exact ⟨rfl, (((Below.refl _ w).alloc (Nat.le_refl _) _).alloc (by simp) _).alloc (by simp; omega) _⟩

end Go.Proofs.Ythjemelnbbpdcaa
