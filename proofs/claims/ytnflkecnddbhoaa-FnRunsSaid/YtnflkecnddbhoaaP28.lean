/-
  Parts of one proof, one behind the other: ImgS5, Math14I, ImgA, WordI, Jumps, Clone.
-/
import Derived.Test.YtnflkecnddbhoaaP27
import Derived.Test.YtnflkecnddbhoaaP1
import Derived.Test.YtnflkecnddbhoaaP15
import Derived.Test.YtnflkecnddbhoaaP3
import Derived.Test.YtnflkecnddbhoaaP17
import Derived.Lib.Bytealg
import Derived.Laws.Externs
import Derived.Deep.RegionHeld3
import Derived.Shelf.Abstract
import Derived.Scope
import Derived.WalkMore
import Derived.Lib.Strings
import Derived.Lib.Walk
import Derived.Lib.BufferWrite
import Derived.Lib.UnsafeStr
import Derived.Lib.Hide
import Derived.Laws.MakeOwn
import Derived.Test.YtnflkecnddbhoaaRows
import Derived.WalkKit
import Derived.WalkLawsBesides
import Derived.OpenShut

/-! The contract of chapter 14's specification: RunImage. -/
namespace Go.Proofs.Ytnflkecnddbhoaa
open Go.RowKit

theorem runV_no {rs : List Rt} {nm : List UInt8} {xs : List Int} {fuel : Int} (h : ¬ runP rs nm xs fuel) : runV rs nm xs fuel = (0, 3) := if_neg h
theorem runV_yes {rs : List Rt} {nm : List UInt8} {xs : List Int} {f κ : Nat} (h : runP rs nm xs (f : Int)) (hk : at14 rs nm = (κ : Int)) : runV rs nm xs (f : Int) = if (run14 rs f f κ xs row14 0).2.1 = 0 then ((run14 rs f f κ xs row14 0).1, 0) else (0, (run14 rs f f κ xs row14 0).2.1) := by
  have hg := run14_gas rs 20000 f f κ xs row14 0 (by have := h.2.2.2.1; omega) (Nat.le_refl _)
  unfold runV
  rw [if_pos h, hk, Int.toNat_natCast, Int.toNat_natCast, hg]

set_option maxHeartbeats 8000000 in
set_option maxRecDepth 100000 in
theorem specRunImage (a : Option Addr) (len cap : Nat) (rs : List Rt) (nm : List UInt8) (aa : Option Addr) (ac : Nat) (xs : List Int) (fuel : Int) (w : World) (hin : RtsIn w a len rs) (hsh : ShortR rs) (hlen : len ≤ 1048576) (hx : AsIn w aa xs) (hxl : xs.length ≤ 1048576) :
    Calls Try.prog 8 #[.agg #[.slice a len cap], .string ⟨nm.toArray⟩, .slice aa xs.length ac, .int .i64 fuel] w fun e w' => e = .returned (.tuple #[.int .i64 (runV rs nm xs fuel).1, .int .i64 (runV rs nm xs fuel).2]) ∧ Below w.heap.size w w' := by
  obtain rfl : rs.length = len := hin.1
  obtain ⟨W, hW⟩ : ∃ W, w.alloc (.cells #[.slice a rs.length cap] 26) = W := ⟨_, rfl⟩
  have hbW : Below w.heap.size w W := by rw [← hW]; exact (Below.refl _ _).alloc (Nat.le_refl _) _
  have hA : W.heap[w.heap.size]? = some (.cells #[.slice a rs.length cap] 26) := by rw [← hW]; exact heap_alloc_new w _
  obtain ⟨D, hD⟩ : ∃ D, w.heap.size = D := ⟨_, rfl⟩
  rw [hD] at hA
  have k0 : W.cell? ⟨D, 0, none⟩ = some (.slice a rs.length cap) := by simp [World.cell?, hA]
  have hDl : D < W.heap.size := World.block_lt_of_cell? W ⟨D, 0, none⟩ k0
  have HK : Hid (∀ Z, Below W.heap.size W Z → Z.cell? ⟨D, 0, none⟩ = some (.slice a rs.length cap)) := fun Z hz => (hz.cell (p := ⟨D, 0, none⟩) hDl).trans k0
  have HI : Hid (∀ Z, Below W.heap.size W Z → RtsIn Z a rs.length rs ∧ AsIn Z aa xs ∧ Below w.heap.size w Z) := fun Z hz => ⟨(hin.below hbW).below hz, (hx.below hbW).below hz, hbW.trans (hz.mono hbW.size)⟩
  have HA : Hid (_) := specAt14 a rs.length cap rs nm W (hin.below hbW) hlen
  have HO : Hid (_) := specImageOk a rs.length cap rs W (hin.below hbW) hsh hlen
  obtain ⟨M, hM⟩ : ∃ M, runV rs nm xs fuel = M := ⟨_, rfl⟩
  have HM : Hid (runV rs nm xs fuel = M) := hM
  rw [hM]
  obtain ⟨κi, hκ⟩ : ∃ κi, at14 rs nm = κi := ⟨_, rfl⟩
  have hκb := at14_bd rs nm
  rw [hκ] at HA hκb
  have HKp : Hid (at14 rs nm = κi) := hκ
  obtain ⟨ok, hok⟩ : ∃ ok, imageB rs = ok := ⟨_, rfl⟩
  have HOk : Hid (imageB rs = ok) := hok
  rw [hok] at HO
  have HD : Hid (w.heap.size = D) := hD
  clear hin hsh hbW hA hDl hx hM hκ hok
  go_enter Try.func8, Try.ntmps8
  go_wp2_with fail
  refine Calls.mono HA.out ?_
  rintro e w0 ⟨rfl, hw0⟩
  obtain rfl := hw0.symm
  clear hw0 HA
  go_wp2_with fail
  refine Calls.mono HO.out ?_
  rintro e w1 ⟨rfl, hb1⟩
  clear HO k0
  have k0 := HK.out w1 hb1
  obtain ⟨hI1, hX1, hB1⟩ := HI.out w1 hb1
  have HB1 : Hid (Below w.heap.size w w1) := hB1
  have HI1 : Hid (RtsIn w1 a rs.length rs) := hI1
  have HX1 : Hid (AsIn w1 aa xs) := hX1
  clear hB1 hX1
  cases ok
  · obtain rfl : M = (0, 3) := HM.out.symm.trans (runV_no (fun h => by have := h.1; rw [HOk.out] at this; cases this))
    clear HM hI1
    go_wp2
    go_ret2
    exact ⟨rfl, by rw [← HD.out]; exact HB1.out⟩
  by_cases hκ0 : κi < 0
  · obtain rfl : M = (0, 3) := HM.out.symm.trans (runV_no (fun h => by have := h.2.1; rw [HKp.out] at this; omega))
    clear HM hI1
    go_wp2
    go_ret2
    exact ⟨rfl, by rw [← HD.out]; exact HB1.out⟩
  obtain ⟨κ, rfl⟩ : ∃ κ : Nat, κi = (κ : Int) := Int.eq_ofNat_of_zero_le (by omega)
  clear hκ0
  have hκn : κ < rs.length := by omega
  obtain ⟨b, off, rfl, hbl, -, q1, -⟩ := hI1.2 κ hκn
  have HP : Hid (runP rs nm xs fuel ↔ (xs.length : Int) = (rs.getD κ rt0).2.1 ∧ (0 ≤ fuel ∧ fuel ≤ 20000) ∧ WordL xs) := ⟨fun h => by have h3 := h.2.2.1; rw [HKp.out, Int.toNat_natCast] at h3; exact ⟨h3, h.2.2.2⟩, fun h => ⟨HOk.out, by rw [HKp.out]; omega, by rw [HKp.out, Int.toNat_natCast]; exact h.1, h.2⟩⟩
  have HAg : Hid (∃ ag, (rs.getD κ rt0).2.1 = ag) := ⟨_, rfl⟩
  obtain ⟨ag, hag⟩ := HAg.out
  rw [hag] at q1 HP
  have HAG : Hid ((rs.getD κ rt0).2.1 = ag) := hag
  have HKn : Hid (κ < rs.length) := hκn
  obtain ⟨n, hn⟩ : ∃ n, rs.length = n := ⟨_, rfl⟩
  have HN : Hid (rs.length = n) := hn
  obtain ⟨nx, hnx⟩ : ∃ nx, xs.length = nx := ⟨_, rfl⟩
  have HNx : Hid (xs.length = nx) := hnx
  have hkn2 : (κ : Int) < (n : Int) := by omega
  have hk00 : ¬ (κ : Int) < 0 := by omega
  rw [hnx] at hxl HP ⊢
  rw [hn] at hlen k0
  clear hI1 hag hbl HAg hn hnx hκb hκn HI HK
  by_cases hal : (nx : Int) = ag
  rotate_left
  · have halb : ((nx : Int) != ag) = true := by rw [bne_iff_ne]; exact hal
    obtain rfl : M = (0, 3) := HM.out.symm.trans (runV_no (fun h => hal (HP.out.1 h).1))
    clear HM hal
    go_wp2
    go_ret2
    exact ⟨rfl, by rw [← HD.out]; exact HB1.out⟩
  have halb : ((nx : Int) != ag) = false := by rw [hal]; simp
  have HAl : Hid ((nx : Int) = ag) := hal
  clear hal
  go_wp2_with fail
  refine Calls.mono (specIn fuel 0 20000 _) ?_
  rintro e w2 ⟨rfl, hw2⟩
  obtain rfl := hw2.symm
  clear hw2
  by_cases hfu : 0 ≤ fuel ∧ fuel ≤ 20000
  rotate_left
  · have hib : inB fuel 0 20000 = false := decide_eq_false hfu
    obtain rfl : M = (0, 3) := HM.out.symm.trans (runV_no (fun h => hfu (HP.out.1 h).2.1))
    rw [hib]
    clear HM hfu hib
    go_wp2
    go_ret2
    exact ⟨rfl, by rw [← HD.out]; exact HB1.out⟩
  have hib : inB fuel 0 20000 = true := decide_eq_true hfu
  rw [hib]
  obtain ⟨f, rfl⟩ : ∃ f : Nat, fuel = (f : Int) := ⟨fuel.toNat, by omega⟩
  have HFu : Hid (0 ≤ (f : Int) ∧ (f : Int) ≤ 20000) := hfu
  clear hib hfu q1 halb
  go_wp2
  go_loopw [11] (fun iv wx => ∃ i : Nat, iv = .int .i64 (i : Int) ∧ i ≤ nx ∧ Hid (∀ j, j < i → -2147483648 ≤ xs.getD j 0 ∧ xs.getD j 0 ≤ 2147483647) ∧ wx = w1) (fun iv _ => nx - (intOf iv).toNat)
  case atStart => exact ⟨0, rfl, by omega, (fun j hj => absurd hj (Nat.not_lt_zero _)), rfl⟩
  case round =>
    obtain ⟨i, rfl, hi, HWs, rfl⟩ := hrel
    by_cases hlt : (i : Int) < (nx : Int)
    · have hi2 : i < xs.length := by have := HNx.out; omega
      obtain ⟨ba, oa, rfl, hba, hca⟩ := HX1.out i hi2
      have hmem : xs.getD i 0 ∈ xs := by simp [List.getD, hi2]
      have HNx2 : Hid ((-2147483648 ≤ xs.getD i 0 ∧ xs.getD i 0 ≤ 2147483647) → ∀ j, j < i + 1 → -2147483648 ≤ xs.getD j 0 ∧ xs.getD j 0 ≤ 2147483647) := fun h j hj => by
        rcases Nat.lt_or_ge j i with h1 | h1
        · exact HWs.out j h1
        · obtain rfl : j = i := by omega
          exact h
      generalize xs.getD i 0 = xv at hca hmem HNx2
      have HC : Hid (_) := specWordOk xv wr
      clear hi2 hba
      by_cases hwd : -2147483648 ≤ xv ∧ xv ≤ 2147483647
      · have hib : inB xv (-2147483648) 2147483647 = true := decide_eq_true hwd
        rw [hib] at HC
        have HW2 : Hid (_) := HNx2.out hwd
        clear hib hwd HNx2 hmem
        go_wp2_with fail
        refine Calls.mono HC.out ?_
        rintro e w4 ⟨rfl, hw4⟩
        obtain rfl := hw4.symm
        go_wp2
        go_roundw
        case rel => exact ⟨i + 1, by go_num, by omega, HW2, trivial⟩
        case measure => simp [intOf]; omega
      · have hib : inB xv (-2147483648) 2147483647 = false := decide_eq_false hwd
        rw [hib] at HC
        obtain rfl : M = (0, 3) := HM.out.symm.trans (runV_no (fun h => hwd ((HP.out.1 h).2.2 xv hmem)))
        clear hib hwd HNx2 hmem HM
        go_wp2_with fail
        refine Calls.mono HC.out ?_
        rintro e w4 ⟨rfl, hw4⟩
        obtain rfl := hw4.symm
        go_wp2
        go_ret2
        exact ⟨rfl, by rw [← HD.out]; exact HB1.out⟩
    · have hwl : WordL xs := fun x hx => by
        obtain ⟨j, hj, e⟩ := List.mem_iff_getElem.1 hx
        have h := HWs.out j (by have := HNx.out; omega)
        simp only [List.getD, hj, List.getElem?_eq_getElem, Option.getD_some] at h
        rw [e] at h
        exact h
      have hMe := HM.out.symm.trans (runV_yes (HP.out.2 ⟨HAl.out, HFu.out, hwl⟩) HKp.out)
      obtain ⟨G, hG⟩ : ∃ G, wr.heap.size = G := ⟨_, rfl⟩
      obtain ⟨X1, hX1⟩ : ∃ X1, wr.alloc (.cells #[.slice (some ⟨b, off, none⟩) n cap, .int .i64 (f : Int), .int .i64 0] 65) = X1 := ⟨_, rfl⟩
      have hbX : Below wr.heap.size wr X1 := by rw [← hX1]; exact (Below.refl _ _).alloc (Nat.le_refl _) _
      have hAX : X1.heap[G]? = some (.cells #[.slice (some ⟨b, off, none⟩) n cap, .int .i64 (f : Int), .int .i64 0] 65 (0, 0)) := by rw [← hX1, ← hG]; exact heap_alloc_new wr _
      have hca := cal14 wr rs (some ⟨b, off, none⟩) cap G HI1.out HOk.out f (by have := HFu.out; omega) X1 κ xs aa ac (by rw [HN.out]; exact hAX) hbX (by omega) HKn.out (by rw [HAG.out, HNx.out]; exact HAl.out) hwl (fun j hj => by
        obtain ⟨b3, o3, e3, h3, h4⟩ := (HX1.out.below hbX) j hj
        obtain ⟨b4, o4, e4, h5, _⟩ := HX1.out j hj
        have : b3 = b4 := by rw [e3] at e4; injection e4 with e4; injection e4
        exact ⟨b3, o3, e3, by omega, h3, h4⟩)
      rw [HNx.out, HN.out] at hca
      obtain ⟨RR, hRR⟩ : ∃ RR, run14 rs f f κ xs row14 0 = RR := ⟨_, rfl⟩
      rw [hRR] at hca hMe
      obtain ⟨rv, rc, rf⟩ := RR
      simp only at hca hMe
      have HCa : Hid (_) := hca
      have HBX : Hid (Below wr.heap.size wr X1 ∧ wr.heap.size = G) := ⟨hbX, hG⟩
      clear hca hbX hAX hwl hRR HWs HM
      go_wp2_with fail
      refine Calls.mono HCa.out ?_
      rintro e w4 ⟨rfl, hw4, hbk4⟩
      have s2 : w4.cell? ⟨G, 2, none⟩ = some (.int .i64 rc) := by rw [cell_of_row _ _ _ _ _ _ hbk4]; rfl
      have HB4 : Hid (Below w.heap.size w w4) := by
        have h1 := HB1.out.trans (HBX.out.1.mono HB1.out.size)
        exact h1.trans (hw4.below h1.size (fun q e => by have := HBX.out.2; have := HB1.out.size; omega))
      clear hw4 hbk4 HCa HBX
      by_cases hrc : rc = 0
      · subst hrc
        rw [if_pos rfl] at hMe
        subst hMe
        go_wp2
        go_ret2
        exact ⟨rfl, by rw [← HD.out]; exact HB4.out⟩
      · have hrb : (rc != 0) = true := by rw [bne_iff_ne]; exact hrc
        rw [if_neg hrc] at hMe
        subst hMe
        go_wp2_with fail
        go_quiet (fail)
        go_wp2
        go_ret2
        exact ⟨rfl, by rw [← HD.out]; exact HB4.out.trans ⟨rfl, rfl, rfl, Nat.le_refl _, fun _ _ => rfl⟩⟩

end Go.Proofs.Ytnflkecnddbhoaa

/-! Plain facts of chapter 14 as the landed code goes about it: routines whose names rise, one found by halving. -/
namespace Go.Proofs.Ytnflkecnddbhoaa
open Go.RowKit

/-- Right routines whose names rise, at most so many. -/
def RiseR (rs : List Rt) : Prop := ∀ i j, i < j → j < rs.length → Op.bytesLess (rs.getD i rt0).1 (rs.getD j rt0).1 = true
theorem riseR_of {rs : List Rt} (h : ∀ i, i + 1 < rs.length → leT (rs.getD (i + 1) rt0).1 (rs.getD i rt0).1 = false) : RiseR rs := by
  have hd : ∀ d i, i + d + 1 < rs.length → Op.bytesLess (rs.getD i rt0).1 (rs.getD (i + d + 1) rt0).1 = true := by
    intro d
    induction d with
    | zero => intro i hi; exact leT_no.1 (h i hi)
    | succ d ih => intro i hi; exact lt8_trans (ih i (by omega)) (leT_no.1 (h (i + d + 1) (by omega)))
  intro i j hij hj
  have hh := hd (j - i - 1) i (by omega)
  rw [show i + (j - i - 1) + 1 = j by omega] at hh
  exact hh
def rtsB (rs : List Rt) (most : Int) : Bool := decide ((1 ≤ (rs.length : Int) ∧ (rs.length : Int) ≤ most) ∧ (∀ i, i < rs.length → rtB (rs.getD i rt0) = true) ∧ ∀ i, i < rs.length - 1 → leT (rs.getD (i + 1) rt0).1 (rs.getD i rt0).1 = false)
theorem rtsB_rise {rs : List Rt} {m : Int} (h : rtsB rs m = true) : RiseR rs := riseR_of (fun i hi => (of_decide_eq_true h).2.2 i (by omega))
theorem rtsB_few {rs : List Rt} {m : Int} (h : (rs.length : Int) < 1 ∨ m < (rs.length : Int)) : rtsB rs m = false := decide_eq_false (fun e => by have := e.1; omega)
structure RrSt (rs : List Rt) (k : Nat) (z : List UInt8) : Prop where
  oks : ∀ i, i < k → rtB (rs.getD i rt0) = true
  rise : ∀ i, i + 1 < k → leT (rs.getD (i + 1) rt0).1 (rs.getD i rt0).1 = false
  last : (k = 0 ∧ z = []) ∨ (0 < k ∧ z = (rs.getD (k - 1) rt0).1)
theorem RrSt.start (rs : List Rt) : RrSt rs 0 [] := ⟨fun i hi => by omega, fun i hi => by omega, Or.inl ⟨rfl, rfl⟩⟩
theorem RrSt.noOk {rs : List Rt} {k : Nat} {m : Int} (hk : k < rs.length) (hn : rtB (rs.getD k rt0) = false) : rtsB rs m = false := decide_eq_false (fun g => by rw [g.2.1 k hk] at hn; cases hn)
theorem leT_nilR {x : List UInt8} (h : name13 x = true) : leT x [] = false := by
  have h1 := (name13_len h).1
  cases x with
  | nil => simp at h1
  | cons c r => simp [leT, Op.bytesLess]
theorem RrSt.noRise {rs : List Rt} {k : Nat} {z : List UInt8} {m : Int} (h : RrSt rs k z) (hk : k < rs.length) (hn : rtB (rs.getD k rt0) = true) (hl : leT (rs.getD k rt0).1 z = true) : rtsB rs m = false := by
  rcases h.last with ⟨rfl, rfl⟩ | ⟨h0, rfl⟩
  · rw [leT_nilR (rtB_parts hn).1] at hl; cases hl
  · refine decide_eq_false (fun g => ?_)
    have := g.2.2 (k - 1) (by omega)
    rw [show k - 1 + 1 = k by omega, hl] at this
    cases this
theorem RrSt.step {rs : List Rt} {k : Nat} {z : List UInt8} (h : RrSt rs k z) (hn : rtB (rs.getD k rt0) = true) (hl : leT (rs.getD k rt0).1 z = false) : RrSt rs (k + 1) (rs.getD k rt0).1 := by
  refine ⟨fun i hi => ?_, fun i hi => ?_, Or.inr ⟨by omega, by rw [Nat.add_sub_cancel]⟩⟩
  · rcases Nat.lt_or_ge i k with g | g
    · exact h.oks i g
    · obtain rfl : i = k := by omega
      exact hn
  · rcases Nat.lt_or_ge (i + 1) k with g | g
    · exact h.rise i g
    · obtain rfl : k = i + 1 := by omega
      rcases h.last with ⟨e, _⟩ | ⟨_, rfl⟩
      · omega
      · rw [Nat.add_sub_cancel] at hl; exact hl
theorem RrSt.all {rs : List Rt} {z : List UInt8} {m : Int} (h : RrSt rs rs.length z) (hl : 1 ≤ (rs.length : Int) ∧ (rs.length : Int) ≤ m) : rtsB rs m = true := decide_eq_true ⟨hl, h.oks, fun i hi => h.rise i (by omega)⟩

theorem imageB_rts (rs : List Rt) : imageB rs = (rtsB rs 64 && decide (∀ j, j < rs.length → (rs.getD j rt0).2.2.all (clsB rs) = true)) := by
  rw [Bool.eq_iff_iff]
  unfold imageB rtsB oneB
  simp only [Bool.and_eq_true, decide_eq_true_eq]
  constructor
  · rintro ⟨h, h1, h2⟩
    refine ⟨⟨⟨by omega, by omega⟩, fun i hi => (h i hi).1, fun i hi => ?_⟩, fun j hj => (h j hj).2.2⟩
    have := (h (i + 1) (by omega)).2.1 (by omega)
    rw [Nat.add_sub_cancel] at this
    exact this
  · rintro ⟨⟨h1, h2, h3⟩, h4⟩
    refine ⟨fun j hj => ⟨h2 j hj, fun h0 => ?_, h4 j hj⟩, by omega, by omega⟩
    have := h3 (j - 1) (by omega)
    rw [show j - 1 + 1 = j by omega] at this
    exact this
theorem image_rise {rs : List Rt} (h : imageB rs = true) : RiseR rs := by
  rw [imageB_rts, Bool.and_eq_true] at h
  exact rtsB_rise h.1
theorem image_noR {rs : List Rt} (h : rtsB rs 64 = false) : imageB rs = false := by rw [imageB_rts, h]; rfl
theorem image_noC {rs : List Rt} {j : Nat} (hj : j < rs.length) (h : (rs.getD j rt0).2.2.all (clsB rs) = false) : imageB rs = false := by
  rw [imageB_rts, decide_eq_false (fun g => by rw [g j hj] at h; cases h), Bool.and_false]
theorem image_yes {rs : List Rt} (h : rtsB rs 64 = true) (hc : ∀ j, j < rs.length → (rs.getD j rt0).2.2.all (clsB rs) = true) : imageB rs = true := by
  rw [imageB_rts, h, decide_eq_true hc]; rfl

/-- The place of a name. -/
theorem at14Go_yes (s : List UInt8) : ∀ (rs : List Rt) (k j : Nat), j < rs.length → (rs.getD j rt0).1 = s → (∀ i, i < j → (rs.getD i rt0).1 ≠ s) → at14Go s rs k = ((k + j : Nat) : Int)
  | [], _, j, hj, _, _ => by simp at hj
  | r :: rs, k, 0, _, h, _ => by
    rw [at14Go, if_pos (by simpa using h)]; simp
  | r :: rs, k, j + 1, hj, h, hn => by
    have h0 := hn 0 (by omega)
    rw [at14Go, if_neg (by simpa using h0), at14Go_yes s rs (k + 1) j (by simpa using hj) (by simpa using h) (fun i hi => by have := hn (i + 1) (by omega); simpa using this)]
    omega
theorem at14Go_no (s : List UInt8) : ∀ (rs : List Rt) (k : Nat), (∀ i, i < rs.length → (rs.getD i rt0).1 ≠ s) → at14Go s rs k = -1
  | [], _, _ => rfl
  | r :: rs, k, hn => by
    have h0 := hn 0 (by simp)
    rw [at14Go, if_neg (by simpa using h0), at14Go_no s rs (k + 1) (fun i hi => by have := hn (i + 1) (by simpa using hi); simpa using this)]
theorem at14_yes {rs : List Rt} (hr : RiseR rs) {s : List UInt8} {j : Nat} (hj : j < rs.length) (h : (rs.getD j rt0).1 = s) : at14 rs s = (j : Int) := by
  unfold at14
  rw [at14Go_yes s rs 0 j hj h (fun i hi e => ?_), Nat.zero_add]
  have := hr i j hi hj
  rw [e, h, lt8_irr] at this
  cases this
/-- Halving: what stands ahead is less, what stands behind is not. -/
structure Half (rs : List Rt) (s : List UInt8) (lo hi : Nat) : Prop where
  a : ∀ t, t < lo → Op.bytesLess (rs.getD t rt0).1 s = true
  b : ∀ t, hi ≤ t → t < rs.length → Op.bytesLess (rs.getD t rt0).1 s = false
theorem Half.start (rs : List Rt) (s : List UInt8) : Half rs s 0 rs.length := ⟨fun t h => by omega, fun t h1 h2 => by omega⟩
theorem Half.up {rs : List Rt} {s : List UInt8} {lo hi m : Nat} (hr : RiseR rs) (h : Half rs s lo hi) (hm : m < rs.length) (e : Op.bytesLess (rs.getD m rt0).1 s = true) : Half rs s (m + 1) hi :=
  ⟨fun t ht => by
    rcases Nat.lt_or_ge t m with g | g
    · exact lt8_trans (hr t m g hm) e
    · obtain rfl : t = m := by omega
      exact e, h.b⟩
theorem Half.down {rs : List Rt} {s : List UInt8} {lo hi m : Nat} (hr : RiseR rs) (h : Half rs s lo hi) (e : Op.bytesLess (rs.getD m rt0).1 s = false) : Half rs s lo m :=
  ⟨h.a, fun t ht hl => by
    rcases Nat.lt_or_ge m t with g | g
    · rcases hx : Op.bytesLess (rs.getD t rt0).1 s with _ | _
      · rfl
      · rw [lt8_trans (hr m t g hl) hx] at e; cases e
    · obtain rfl : t = m := by omega
      exact e⟩
theorem Half.no {rs : List Rt} {s : List UInt8} {i : Nat} (hr : RiseR rs) (h : Half rs s i i) (hn : i < rs.length → (rs.getD i rt0).1 ≠ s) : at14 rs s = -1 := by
  refine at14Go_no s rs 0 (fun t ht e => ?_)
  rcases Nat.lt_trichotomy t i with g | g | g
  · have := h.a t g; rw [e, lt8_irr] at this; cases this
  · subst g; exact hn ht e
  · have h1 := hr i t g ht
    have h2 := h.b i (Nat.le_refl _) (by omega)
    rw [e] at h1
    rw [h1] at h2
    cases h2

theorem cls_allI {rs : List Rt} {c : List In13} : c.all (clsB rs) = true ↔ ∀ k, k < c.length → clsB rs (c.getD k in0) = true := by
  rw [List.all_eq_true]
  constructor
  · intro h k hk
    exact h _ (by rw [List.getD_eq_getElem?_getD, List.getElem?_eq_getElem hk]; exact List.getElem_mem hk)
  · intro h x hx
    obtain ⟨k, hk, rfl⟩ := List.getElem_of_mem hx
    have := h k hk
    simpa [List.getD, hk] using this
theorem cls_noI {rs : List Rt} {c : List In13} {k : Nat} (hk : k < c.length) (h : clsB rs (c.getD k in0) = false) : c.all (clsB rs) = false := by
  rcases hx : c.all (clsB rs) with _ | _
  · rfl
  · rw [cls_allI.1 hx k hk] at h; cases h
theorem arg_allI {n : Int} {c : List In13} : c.all (argB n) = true ↔ ∀ k, k < c.length → argB n (c.getD k in0) = true := by
  rw [List.all_eq_true]
  constructor
  · intro h k hk
    exact h _ (by rw [List.getD_eq_getElem?_getD, List.getElem?_eq_getElem hk]; exact List.getElem_mem hk)
  · intro h x hx
    obtain ⟨k, hk, rfl⟩ := List.getElem_of_mem hx
    have := h k hk
    simpa [List.getD, hk] using this
theorem arg_noI {n : Int} {c : List In13} {k : Nat} (hk : k < c.length) (h : argB n (c.getD k in0) = false) : c.all (argB n) = false := by
  rcases hx : c.all (argB n) with _ | _
  · rfl
  · rw [arg_allI.1 hx k hk] at h; cases h

end Go.Proofs.Ytnflkecnddbhoaa

/-! Contracts of chapter 14's landed code: texts compared, a routine found by halving (routineNamed). -/
namespace Go.Proofs.Ytnflkecnddbhoaa
open Go.RowKit

theorem cmp_less : ∀ (a b : List UInt8), (Lib.compareBytes a b < 0 ↔ Op.bytesLess a b = true) ∧ (Lib.compareBytes a b = 0 ↔ a = b)
  | [], [] => by simp [Lib.compareBytes, Op.bytesLess]
  | [], _ :: _ => by simp [Lib.compareBytes, Op.bytesLess]
  | _ :: _, [] => by simp [Lib.compareBytes, Op.bytesLess]
  | a :: x, b :: y => by
    have ih := cmp_less x y
    unfold Lib.compareBytes Op.bytesLess
    by_cases h1 : a < b
    · have hne : a ≠ b := fun e => by subst e; exact UInt8.lt_irrefl _ h1
      simp [h1, hne]
    · by_cases h2 : b < a
      · have hne : a ≠ b := fun e => by subst e; exact UInt8.lt_irrefl _ h2
        simp [h1, h2, hne]
      · have e : a = b := by
          rw [UInt8.lt_iff_toNat_lt] at h1 h2
          exact UInt8.toNat_inj.1 (by omega)
        subst e
        simp only [h1, if_false, decide_false, Bool.false_or, beq_self_eq_true, Bool.true_and, List.cons.injEq, true_and]
        exact ih

set_option maxHeartbeats 1000000 in
set_option maxRecDepth 100000 in
theorem implCompareB (a b : List UInt8) (w : World) :
    Calls Try.prog 74 #[.string ⟨a.toArray⟩, .string ⟨b.toArray⟩] w fun e w' => e = .returned (.int .i64 (Lib.compareBytes a b)) ∧ w' = w := by
  go_enter Try.func74, Try.ntmps74
  go_wp2
  rw [run_callFunc_extern Try.func92 (by kernel_rfl) (by kernel_rfl) (by kernel_rfl) (e := Extern.BytealgCompare.compare) (by kernel_rfl), Lib.run_compareString]
  simp only [Result.andThen]
  rw [Oper.upon_value]
  go_wp2
  go_ret
  exact ⟨rfl, rfl⟩
set_option maxHeartbeats 1000000 in
set_option maxRecDepth 100000 in
theorem implCompare (a b : List UInt8) (w : World) :
    Calls Try.prog 53 #[.string ⟨a.toArray⟩, .string ⟨b.toArray⟩] w fun e w' => e = .returned (.int .i64 (Lib.compareBytes a b)) ∧ w' = w := by
  go_enter Try.func53, Try.ntmps53
  go_wp2_with (go_at_call 74; refine (implCompareB a b _).mono ?_; rintro e w' ⟨rfl, rfl⟩)
  go_ret
  exact ⟨rfl, rfl⟩
set_option maxHeartbeats 1000000 in
set_option maxRecDepth 100000 in
theorem implNamed1 (n : List UInt8) (ar : Int) (cv : Value) (s : List UInt8) (w : World) :
    Calls Try.prog 52 #[.agg #[.string ⟨n.toArray⟩, .int .i64 ar, cv], .string ⟨s.toArray⟩] w fun e w' => e = .returned (.int .i64 (Lib.compareBytes n s)) ∧ Below w.heap.size w w' := by
  have HB : Hid (Below w.heap.size w (w.alloc (.cells #[.string ⟨n.toArray⟩, .int .i64 ar, cv] 51))) := (Below.refl _ w).alloc (Nat.le_refl _) _
  go_enter Try.func52, Try.ntmps52
  go_wp2_with (go_at_call 53; refine (implCompare n s _).mono ?_; rintro e w' ⟨rfl, rfl⟩)
  go_ret
  exact ⟨rfl, HB.out⟩

/-- Where a routine is found. -/
def NmOut (rs : List Rt) (s : List UInt8) (i : Nat) (b : Bool) : Prop :=
  (b = true ∧ i < rs.length ∧ at14 rs s = (i : Int)) ∨ (b = false ∧ at14 rs s = -1)
def SrOut (w : World) (rs : List Rt) (s : List UInt8) (e : Ending) (w' : World) : Prop := ∃ (i : Nat) (b : Bool), e = .returned (.tuple #[.int .i64 (i : Int), .bool b]) ∧ NmOut rs s i b ∧ Below w.heap.size w w'
set_option maxHeartbeats 4000000 in
set_option maxRecDepth 100000 in
theorem implSearch (a : Option Addr) (cap : Nat) (rs : List Rt) (s : List UInt8) (w : World) (h : RtsCap w a rs.length cap rs) (hr : RiseR rs) (hn : rs.length ≤ 1048576) :
    Calls Try.prog 51 #[.slice a rs.length cap, .string ⟨s.toArray⟩, .func (.func 52) #[] #[]] w fun e w' => SrOut w rs s e w' := by
  have HI : Hid (RtsCap w a rs.length cap rs) := h
  have HR : Hid (RiseR rs) := hr
  have HH0 : Hid (Half rs s 0 rs.length) := Half.start rs s
  have HYes : Hid (∀ i, i < rs.length → (rs.getD i rt0).1 = s → at14 rs s = (i : Int)) := fun i hi e => at14_yes hr hi e
  have HNo : Hid (∀ i, Half rs s i i → (i < rs.length → (rs.getD i rt0).1 ≠ s) → at14 rs s = -1) := fun i h1 h2 => Half.no hr h1 h2
  have HB0 : Hid (Below w.heap.size w w) := Below.refl _ w
  obtain ⟨n, hnn⟩ : ∃ n, rs.length = n := ⟨_, rfl⟩
  have HN : Hid (rs.length = n) := hnn
  rw [hnn] at HI HH0 HYes HNo hn ⊢
  clear h hr hnn
  go_enter Try.func51, Try.ntmps51
  go_wp2
  go_loopw [9, 10] (fun iv jv wr => ∃ lo hi : Nat, iv = .int .i64 (lo : Int) ∧ jv = .int .i64 (hi : Int) ∧ lo ≤ hi ∧ hi ≤ n ∧ Hid (Half rs s lo hi) ∧ Hid (Below w.heap.size w wr)) (fun iv jv _ => (intOf jv).toNat - (intOf iv).toNat)
  case atStart => exact ⟨0, n, rfl, rfl, Nat.zero_le _, Nat.le_refl _, HH0, HB0⟩
  case round =>
    obtain ⟨lo, hi, rfl, rfl, hlh, hin, HF, HB⟩ := hrel
    clear HH0 HB0
    by_cases hlt : (lo : Int) < (hi : Int)
    · obtain ⟨m, hm⟩ : ∃ m, (lo + hi) / 2 = m := ⟨_, rfl⟩
      have hmi : ((lo : Int) + (hi : Int)) / 2 = (m : Int) := by omega
      have hm1 : lo ≤ m := by omega
      have hm2 : m < hi := by omega
      obtain ⟨b, off, rfl, hbl, c0, c1, ca, cl, cc, c2, _, _, _⟩ := (HI.out.below HB.out).2.2.2 m (by omega)
      have hF := HF.out
      have hup := hF.up (m := m) HR.out (by rw [HN.out]; omega)
      have hdn := hF.down (m := m) HR.out
      obtain ⟨r, hrr⟩ : ∃ r, rs.getD m rt0 = r := ⟨_, rfl⟩
      rw [hrr] at c0 c1 hup hdn
      obtain ⟨nm, ar, cd⟩ := r
      simp only at c0 c1 hup hdn
      have hcl := (cmp_less nm s).1
      have HC : Hid (_) := fun W => implNamed1 nm ar (.slice ca cl cc) s W
      generalize Lib.compareBytes nm s = cv at hcl HC
      have eg : ∀ args w, (callFunc 52 args).run Try.prog w = .ok (.enter 52 args) w := enters_of Try.func52 (by kernel_rfl) rfl
      by_cases hc : cv < 0
      · have HF2 : Hid (Half rs s (m + 1) hi) := hup (hcl.1 hc)
        clear hup hdn hF HF hcl hrr hm
        go_wp2_with (go_at_call 52; refine (HC.out _).mono ?_; rintro e w' ⟨rfl, hb1⟩)
        have HB2 : Hid (Below w.heap.size w w') := HB.out.trans (hb1.mono HB.out.size)
        go_roundw
        case rel => exact ⟨m + 1, hi, by go_num, rfl, by omega, hin, HF2, HB2⟩
        case measure => simp [intOf]; omega
      · have hno : Op.bytesLess nm s = false := by
          rcases hx : Op.bytesLess nm s with _ | _
          · rfl
          · exact absurd (hcl.2 hx) hc
        have HF2 : Hid (Half rs s lo m) := hdn hno
        clear hup hdn hF HF hcl hrr hm hno
        go_wp2_with (go_at_call 52; refine (HC.out _).mono ?_; rintro e w' ⟨rfl, hb1⟩)
        have HB2 : Hid (Below w.heap.size w w') := HB.out.trans (hb1.mono HB.out.size)
        go_roundw
        case rel => exact ⟨lo, m, rfl, by go_num, by omega, by omega, HF2, HB2⟩
        case measure => simp [intOf]; omega
    · obtain rfl : hi = lo := by omega
      by_cases hl : (hi : Int) < (n : Int)
      · obtain ⟨b, off, rfl, hbl, c0, c1, ca, cl, cc, c2, _, _, _⟩ := (HI.out.below HB.out).2.2.2 hi (by omega)
        have hyes := HYes.out hi (by omega)
        have hno := HNo.out hi HF.out
        obtain ⟨r, hrr⟩ : ∃ r, rs.getD hi rt0 = r := ⟨_, rfl⟩
        rw [hrr] at c0 c1 hyes hno
        obtain ⟨nm, ar, cd⟩ := r
        simp only at c0 c1 hyes hno
        have hcl := (cmp_less nm s).2
        have HC : Hid (_) := fun W => implNamed1 nm ar (.slice ca cl cc) s W
        generalize Lib.compareBytes nm s = cv at hcl HC
        have eg : ∀ args w, (callFunc 52 args).run Try.prog w = .ok (.enter 52 args) w := enters_of Try.func52 (by kernel_rfl) rfl
        by_cases hc : cv = 0
        · have HO : Hid (NmOut rs s hi true) := Or.inl ⟨rfl, by rw [HN.out]; omega, hyes (hcl.1 hc)⟩
          clear hyes hno hcl hrr
          go_wp2_with (go_at_call 52; refine (HC.out _).mono ?_; rintro e w' ⟨rfl, hb1⟩)
          go_ret2
          unfold SrOut
          exact ⟨hi, true, rfl, HO.out, HB.out.trans (hb1.mono HB.out.size)⟩
        · have HO : Hid (NmOut rs s hi false) := Or.inr ⟨rfl, hno (fun _ e => hc (hcl.2 e))⟩
          have hcb : (cv == 0) = false := beq_eq_false_iff_ne.2 hc
          clear hyes hno hcl hrr
          go_wp2_with (go_at_call 52; refine (HC.out _).mono ?_; rintro e w' ⟨rfl, hb1⟩)
          go_ret2
          unfold SrOut
          exact ⟨hi, false, rfl, HO.out, HB.out.trans (hb1.mono HB.out.size)⟩
      · have HO : Hid (NmOut rs s hi false) := Or.inr ⟨rfl, HNo.out hi HF.out (fun e => by omega)⟩
        go_wp2
        go_ret2
        unfold SrOut
        exact ⟨hi, false, rfl, HO.out, HB.out⟩

/-- What routineNamed gives. -/
def NdOut (w : World) (a : Option Addr) (rs : List Rt) (s : List UInt8) (e : Ending) : Prop :=
  (at14 rs s = -1 ∧ e = .returned (.tuple #[.agg #[.string ⟨#[]⟩, .int .i64 0, .slice none 0 0], .bool false])) ∨
  (∃ (i : Nat) (b off : Nat) (ca : Option Addr) (cl cc : Nat), i < rs.length ∧ at14 rs s = (i : Int) ∧ a = some ⟨b, off, none⟩ ∧ w.cell? ⟨b, off + i * 3 + 2, none⟩ = some (.slice ca cl cc) ∧ InsIn w ca cl (rs.getD i rt0).2.2 ∧ cl ≤ cc ∧ cc ≤ maxLen ∧
    e = .returned (.tuple #[.agg #[.string ⟨(rs.getD i rt0).1.toArray⟩, .int .i64 (rs.getD i rt0).2.1, .slice ca cl cc], .bool true]))
set_option maxHeartbeats 2000000 in
set_option maxRecDepth 100000 in
theorem implNamed (a : Option Addr) (cap : Nat) (rs : List Rt) (s : List UInt8) (w : World) (h : RtsCap w a rs.length cap rs) (hr : RiseR rs) (hn : rs.length ≤ 1048576) :
    Calls Try.prog 23 #[.slice a rs.length cap, .string ⟨s.toArray⟩] w fun e w' => NdOut w a rs s e ∧ Below w.heap.size w w' := by
  obtain ⟨W, hW⟩ : ∃ W, w.alloc (.cells #[.string ⟨#[]⟩, .int .i64 0, .slice none 0 0] 51) = W := ⟨_, rfl⟩
  have hb : Below w.heap.size w W := by rw [← hW]; exact (Below.refl _ _).alloc (Nat.le_refl _) _
  have hR : W.heap[w.heap.size]? = some (.cells #[.string ⟨#[]⟩, .int .i64 0, .slice none 0 0] 51) := by rw [← hW]; exact heap_alloc_new w _
  have hsW : W.heap.size = w.heap.size + 1 := by rw [← hW]; simp
  have HI : Hid (RtsCap w a rs.length cap rs) := h
  have HC : Hid (_) := implSearch a cap rs s W (h.below hb) hr hn
  obtain ⟨n, hnn⟩ : ∃ n, rs.length = n := ⟨_, rfl⟩
  have HN : Hid (rs.length = n) := hnn
  rw [hnn] at HI HC hn ⊢
  obtain ⟨D, hD⟩ : ∃ D, w.heap.size = D := ⟨_, rfl⟩
  rw [hD] at hR hsW hb
  clear h hr hnn
  go_enter Try.func23, Try.ntmps23
  go_wp2_with fail
  refine Calls.mono HC.out ?_
  rintro e w1 ⟨i, b, rfl, hO, hb1⟩
  obtain ⟨r0, r1, r2, fr⟩ := threeR hb1 (by omega) hR
  have f0 := fr 0
  have f1 := fr 1
  have f2 := fr 2
  have HBd : Hid (Below D w w1) := hb.trans (hb1.mono (by omega))
  have hsd : D + 1 ≤ w1.heap.size := by have := hb1.size; omega
  rcases hO with ⟨rfl, hi, hat⟩ | ⟨rfl, hat⟩
  · rw [HN.out] at hi
    have HBw : Hid (Below w.heap.size w w1) := by rw [hD]; exact HBd
    obtain ⟨b, off, rfl, hbl, c0, c1, ca, cl, cc, c2, hin, hcc, hcm⟩ := (HI.out.below HBw.out).2.2.2 i hi
    obtain ⟨b', off', e', hbl', _, _, ca', cl', cc', c2', hin', _, _⟩ := HI.out.2.2.2 i hi
    injection e' with e'
    injection e' with e1 e2 _
    subst e1 e2
    have e3 : w1.cell? ⟨b, off + i * 3 + 2, none⟩ = w.cell? ⟨b, off + i * 3 + 2, none⟩ := HBw.out.cell (p := ⟨b, off + i * 3 + 2, none⟩) hbl'
    rw [c2', c2] at e3
    injection e3 with e3
    injection e3 with e4 e5 e6
    subst e4 e5 e6
    have HO : Hid (NdOut w (some ⟨b, off, none⟩) rs s (.returned (.tuple #[.agg #[.string ⟨(rs.getD i rt0).1.toArray⟩, .int .i64 (rs.getD i rt0).2.1, .slice ca cl cc], .bool true]))) :=
      Or.inr ⟨i, b, off, ca, cl, cc, by rw [HN.out]; exact hi, hat, rfl, c2', hin', hcc, hcm, rfl⟩
    generalize (rs.getD i rt0).1 = nm at c0 HO
    generalize (rs.getD i rt0).2.1 = ar at c1 HO
    have hne : b ≠ D := by omega
    clear hin hin' hat hb1 fr hR hb HI c2'
    go_wp2
    obtain ⟨Y, hY, y0, y1, y2, hg⟩ := set3R (.string ⟨nm.toArray⟩) (.int .i64 ar) (.slice ca cl cc) r0 r1 r2
    rw [hY]
    refine bodyPost_ret (v := .tuple #[.agg #[.string ⟨nm.toArray⟩, .int .i64 ar, .slice ca cl cc], .bool true]) (by simp [results, Try.results23, go_sem, y0, y1, y2]) rfl ?_
    exact ⟨HO.out, by rw [hD]; exact HBd.out.grown hg (by omega) (fun k e => by injection e with e; omega)⟩
  · have HO : Hid (NdOut w a rs s (.returned (.tuple #[.agg #[.string ⟨#[]⟩, .int .i64 0, .slice none 0 0], .bool false]))) := Or.inl ⟨hat, rfl⟩
    clear hat hb1 fr hR hb HI
    go_wp2
    obtain ⟨Y, hY, y0, y1, y2, hg⟩ := set3R (.string ⟨#[]⟩) (.int .i64 0) (.slice none 0 0) r0 r1 r2
    rw [hY]
    refine bodyPost_ret (v := .tuple #[.agg #[.string ⟨#[]⟩, .int .i64 0, .slice none 0 0], .bool false]) (by simp [results, Try.results23, go_sem, y0, y1, y2]) rfl ?_
    exact ⟨HO.out, by rw [hD]; exact HBd.out.grown hg (by omega) (fun k e => by injection e with e; omega)⟩

end Go.Proofs.Ytnflkecnddbhoaa

/-! The contracts of chapter 4's landed code: WordOk, Wrap, Done. -/
namespace Go.Proofs.Ytnflkecnddbhoaa
open Go.RowKit

set_option maxHeartbeats 400000 in
set_option maxRecDepth 100000 in
theorem implWordOkS (n : Int) (w : World) : Calls Try.prog 54 #[.int .i64 n] w fun e w' => e = .returned (.bool (inB n (-2147483648) 2147483647)) ∧ w' = w := by
  by_cases h1 : -2147483648 ≤ n
  · by_cases h2 : n ≤ 2147483647
    · have hB : Hid (inB n (-2147483648) 2147483647 = true) := inB_yes _ _ _ h1 h2
      go_enter Try.func54, Try.ntmps54
      go_wp2
      go_ret
      exact ⟨by rw [hB.out]; rfl, rfl⟩
    · have hB : Hid (inB n (-2147483648) 2147483647 = false) := inB_no _ _ _ (Or.inr (by omega))
      go_enter Try.func54, Try.ntmps54
      go_wp2
      go_ret
      exact ⟨by rw [hB.out]; rfl, rfl⟩
  · have hB : Hid (inB n (-2147483648) 2147483647 = false) := inB_no _ _ _ (Or.inl (by omega))
    go_enter Try.func54, Try.ntmps54
    go_wp2
    go_ret
    exact ⟨by rw [hB.out]; rfl, rfl⟩

set_option maxHeartbeats 400000 in
set_option maxRecDepth 100000 in
theorem implWrapS (n : Int) (w : World) : Calls Try.prog 106 #[.int .i64 n] w fun e w' => e = .returned (.int .i64 (wrapW n)) ∧ w' = w := by
  go_enter Try.func106, Try.ntmps106
  go_wp2
  go_ret
  exact ⟨ret_int (wrapWW n), rfl⟩

set_option maxHeartbeats 2000000 in
set_option maxRecDepth 100000 in
theorem implDoneS (kind a b : Int) (w : World) :
    Calls Try.prog 94 #[.int .i64 kind, .int .i64 a, .int .i64 b] w fun e w' => e = .returned (.tuple #[.int .i64 (doneV kind a b), .bool (doneB kind a b)]) ∧ w' = w := by
  by_cases ha : -2147483648 ≤ a ∧ a ≤ 2147483647
  · have da : inB a (-2147483648) 2147483647 = true := inB_yes _ _ _ ha.1 ha.2
    by_cases hb : -2147483648 ≤ b ∧ b ≤ 2147483647
    · have db : inB b (-2147483648) 2147483647 = true := inB_yes _ _ _ hb.1 hb.2
      obtain ⟨h3, h4, h5, h6, h0⟩ := done_in kind a b ⟨ha, hb⟩
      obtain ⟨hm1, hm2⟩ := mul_bd a b ha hb
      obtain ⟨ha1, ha2⟩ := ha
      obtain ⟨hb1, hb2⟩ := hb
      by_cases k4 : kind = 4
      · have HO : Hid (doneV kind a b = wrapW (a + -b) ∧ doneB kind a b = true) := h4 k4
        clear h3 h4 h5 h6 h0
        subst k4
        go_enter Try.func94, Try.ntmps94
        go_wp2_with (first | (go_at_call 106; refine (implWrapS _ _).mono ?_; rintro e w' ⟨rfl, rfl⟩) | (go_at_call 54; refine (implWordOkS _ _).mono ?_; rintro e w' ⟨rfl, rfl⟩))
        go_ret2
        exact ⟨by rw [HO.out.1, HO.out.2]; rfl, rfl⟩
      · have d4 : (kind == 4) = false := beq_eq_false_iff_ne.2 k4
        by_cases k3 : kind = 3
        · have HO : Hid (doneV kind a b = wrapW (a + b) ∧ doneB kind a b = true) := h3 k3
          clear h3 h4 h5 h6 h0 d4 k4
          subst k3
          go_enter Try.func94, Try.ntmps94
          go_wp2_with (first | (go_at_call 106; refine (implWrapS _ _).mono ?_; rintro e w' ⟨rfl, rfl⟩) | (go_at_call 54; refine (implWordOkS _ _).mono ?_; rintro e w' ⟨rfl, rfl⟩))
          go_ret2
          exact ⟨by rw [HO.out.1, HO.out.2]; rfl, rfl⟩
        · have d3 : (kind == 3) = false := beq_eq_false_iff_ne.2 k3
          by_cases k5 : kind = 5
          · have HO : Hid (doneV kind a b = wrapW (a * b) ∧ doneB kind a b = true) := h5 k5
            clear h3 h4 h5 h6 h0 d3 k3 d4 k4
            subst k5
            go_enter Try.func94, Try.ntmps94
            go_wp2_with (first | (go_at_call 106; refine (implWrapS _ _).mono ?_; rintro e w' ⟨rfl, rfl⟩) | (go_at_call 54; refine (implWordOkS _ _).mono ?_; rintro e w' ⟨rfl, rfl⟩))
            go_ret2
            exact ⟨by rw [HO.out.1, HO.out.2]; rfl, rfl⟩
          · have d5 : (kind == 5) = false := beq_eq_false_iff_ne.2 k5
            by_cases k6 : kind = 6
            · by_cases kb : b = 0
              · have HO : Hid (doneV kind a b = 0 ∧ doneB kind a b = false) := h0 k3 k4 k5 (fun h => h.2 kb)
                clear h3 h4 h5 h6 h0 d3 k3 d4 k4 d5 k5
                subst k6 kb
                go_enter Try.func94, Try.ntmps94
                go_wp2_with (first | (go_at_call 106; refine (implWrapS _ _).mono ?_; rintro e w' ⟨rfl, rfl⟩) | (go_at_call 54; refine (implWordOkS _ _).mono ?_; rintro e w' ⟨rfl, rfl⟩))
                go_ret2
                exact ⟨by rw [HO.out.1, HO.out.2]; rfl, rfl⟩
              · have HO : Hid (doneV kind a b = wrapW (a.tdiv b) ∧ doneB kind a b = true) := h6 k6 kb
                have dz : (b == 0) = false := beq_eq_false_iff_ne.2 kb
                have dy : (b != 0) = true := bne_iff_ne.2 kb
                obtain ⟨hq1, hq2⟩ := tdiv_bd a b ⟨ha1, ha2⟩
                clear h3 h4 h5 h6 h0 d3 k3 d4 k4 d5 k5
                subst k6
                go_enter Try.func94, Try.ntmps94
                go_wp2_with (first | (go_at_call 106; refine (implWrapS _ _).mono ?_; rintro e w' ⟨rfl, rfl⟩) | (go_at_call 54; refine (implWordOkS _ _).mono ?_; rintro e w' ⟨rfl, rfl⟩))
                go_ret2
                exact ⟨by rw [HO.out.1, HO.out.2]; rfl, rfl⟩
            · have HO : Hid (doneV kind a b = 0 ∧ doneB kind a b = false) := h0 k3 k4 k5 (fun h => k6 h.1)
              have d6 : (kind == 6) = false := beq_eq_false_iff_ne.2 k6
              clear h3 h4 h5 h6 h0 k3 k4 k5 k6
              go_enter Try.func94, Try.ntmps94
              go_wp2_with (first | (go_at_call 106; refine (implWrapS _ _).mono ?_; rintro e w' ⟨rfl, rfl⟩) | (go_at_call 54; refine (implWordOkS _ _).mono ?_; rintro e w' ⟨rfl, rfl⟩))
              go_ret2
              exact ⟨by rw [HO.out.1, HO.out.2]; rfl, rfl⟩
    · have db : inB b (-2147483648) 2147483647 = false := inB_no _ _ _ (by omega)
      have HO : Hid (doneV kind a b = 0 ∧ doneB kind a b = false) := done_no kind a b (fun h => hb h.2)
      clear ha hb
      go_enter Try.func94, Try.ntmps94
      go_wp2_with (first | (go_at_call 106; refine (implWrapS _ _).mono ?_; rintro e w' ⟨rfl, rfl⟩) | (go_at_call 54; refine (implWordOkS _ _).mono ?_; rintro e w' ⟨rfl, rfl⟩))
      go_ret2
      exact ⟨by rw [HO.out.1, HO.out.2]; rfl, rfl⟩
  · have da : inB a (-2147483648) 2147483647 = false := inB_no _ _ _ (by omega)
    have HO : Hid (doneV kind a b = 0 ∧ doneB kind a b = false) := done_no kind a b (fun h => ha h.1)
    clear ha
    go_enter Try.func94, Try.ntmps94
    go_wp2_with (first | (go_at_call 106; refine (implWrapS _ _).mono ?_; rintro e w' ⟨rfl, rfl⟩) | (go_at_call 54; refine (implWordOkS _ _).mono ?_; rintro e w' ⟨rfl, rfl⟩))
    go_ret2
    exact ⟨by rw [HO.out.1, HO.out.2]; rfl, rfl⟩

end Go.Proofs.Ytnflkecnddbhoaa

/-! A scope in which the run jumps to several labels: what holds at every jump to each of them, and a measure that every pass from a label lowers. -/
namespace Go.Proofs.Ytnflkecnddbhoaa
open Go.RowKit

/-- As Q; by a goto to label l: J l. -/
def Hops (J : Nat → Act → World → Prop) (Q : Exit → Act → World → Prop) : Exit → Act → World → Prop
  | .goto l, a, w => J l a w
  | e, a, w => Q e a w

end Go.Proofs.Ytnflkecnddbhoaa

/-! The contract of strings.Clone: the same bytes, in memory of their own. -/
namespace Go.Proofs.Ytnflkecnddbhoaa
open Go.RowKit

end Go.Proofs.Ytnflkecnddbhoaa
