/-
  Parts of one proof, one behind the other: MeanS7, ValN.
-/
import Derived.Test.YtmloocbbcnhooaaGreatDoorP30
import Derived.Test.YtmloocbbcnhooaaGreatDoorP23
import Derived.Test.YtmloocbbcnhooaaGreatDoorP1
import Derived.Laws.StructEq
import Derived.Test.YtmloocbbcnhooaaGreatDoorP20
import Derived.Test.YtmloocbbcnhooaaGreatDoorP29

/-! The contracts of chapter 10's specification: Meant and Burnt. -/
namespace Go.Proofs.YtmloocbbcnhooaaGreatDoor
open Go.RowKit

theorem fault_ne (c : Int) (p g : List UInt8) (w : World) : (binOp .neq 87 (.agg #[.int .i64 c, .string ⟨p.toArray⟩, .string ⟨g.toArray⟩]) (.agg #[.int .i64 0, .string ⟨#[]⟩, .string ⟨#[]⟩])).run Tryz.prog w = .ok (.bool (decide (¬ (c = 0 ∧ p = [] ∧ g = [])))) w := by
  rw [run_neq_struct]
  simp [go_sem]
  by_cases h1 : c = 0
  · by_cases h2 : p = []
    · by_cases h3 : g = []
      · simp [h1, h2, h3]
      · simp [h1, h2, h3]
    · simp [h1, h2]
  · simp [h1]

/-- Numbers that can be read. -/
def AsIn (w : World) (a : Option Addr) (xs : List Int) : Prop := ∀ j, j < xs.length → ∃ b off, a = some ⟨b, off, none⟩ ∧ b < w.heap.size ∧ w.cell? ⟨b, off + j, none⟩ = some (.int .i64 (xs.getD j 0))
theorem AsIn.below {w w' : World} {a : Option Addr} {xs : List Int} (h : AsIn w a xs) (hb : Below w.heap.size w w') : AsIn w' a xs := fun j hj => by
  obtain ⟨b, off, e, hl, hc⟩ := h j hj
  exact ⟨b, off, e, Nat.lt_of_lt_of_le hl hb.size, (hb.cell (p := ⟨b, off + j, none⟩) hl).trans hc⟩
theorem AsIn.off {w w' : World} {a : Option Addr} {xs : List Int} (h : AsIn w a xs) (hb : Below w.heap.size w w') {W : Nat} (hW : w.heap.size ≤ W) : As w' W a xs := fun j hj => by
  obtain ⟨b, off, e, hl, hc⟩ := h j hj
  exact ⟨b, off, e, by omega, Nat.lt_of_lt_of_le hl hb.size, (hb.cell (p := ⟨b, off + j, none⟩) hl).trans hc⟩
/-- What l10Run hands back. -/
def Run10 (w Z : World) (ps : List Pk) (nm fn : List UInt8) (xs : List Int) (fuel : Int) (e : Ending) : Prop :=
  (¬ Ok10 ps nm fn xs fuel ∧ e = .returned (.tuple #[.int .i64 0, .pointer (some ⟨w.heap.size, 0, none⟩), .bool false])) ∨
  (Ok10 ps nm fn xs fuel ∧ e = .returned (.tuple #[.int .i64 (run10 ps nm fn xs fuel.toNat).1, .pointer (some ⟨w.heap.size, 0, none⟩), .bool true]) ∧ ∃ l, Wk Z w.heap.size l (run10 ps nm fn xs fuel.toNat).2.1 (run10 ps nm fn xs fuel.toNat).2.2)

set_option maxHeartbeats 8000000 in
set_option maxRecDepth 100000 in
theorem specRun (a : Option Addr) (len cap : Nat) (ps : List Pk) (nm fn : List UInt8) (aa : Option Addr) (ac : Nat) (xs : List Int) (fuel : Int) (w : World) (hP : PkgsIn w a len ps) (hlen : len ≤ 1048576) (hsh : ShortPs ps) (hx : AsIn w aa xs) (hxl : xs.length ≤ 1048576) :
    Calls Tryz.prog 31 #[.slice a len cap, .string ⟨nm.toArray⟩, .string ⟨fn.toArray⟩, .slice aa xs.length ac, .int .i64 fuel] w fun e w' => Run10 w w' ps nm fn xs fuel e ∧ Below w.heap.size w w' := by
  obtain rfl : ps.length = len := hP.1
  obtain ⟨bx, hb0⟩ := Box3.new w (.slice a ps.length cap) (.int .i64 fuel) (.int .i64 0) 65
  obtain ⟨W0, hW0⟩ : ∃ W0, w.alloc (.cells #[.slice a ps.length cap, .int .i64 fuel, .int .i64 0] 65) = W0 := ⟨_, rfl⟩
  have hfr : ∀ j, W0.frozen? ⟨w.heap.size, j, none⟩ = false := fun j => by rw [← hW0]; exact World.frozen?_alloc_at _ _ _ _ rfl
  rw [hW0] at bx hb0
  obtain ⟨D, hD⟩ : ∃ D, w.heap.size = D := ⟨_, rfl⟩
  rw [hD] at bx hfr
  have hDl : D < W0.heap.size := bx.lt
  have HF : Hid (_) := specFaultOf a ps.length cap ps W0 (hP.below hb0) hlen hsh
  obtain ⟨F, hFe⟩ : ∃ F, faultV ps = F := ⟨_, rfl⟩
  have HFe : Hid (faultV ps = F) := hFe
  rw [hFe] at HF
  obtain ⟨fc, fp, fg⟩ := F
  unfold fltVal at HF
  simp only at HF
  have HNe : Hid (_) := fault_ne fc fp fg
  have HZ : Hid (∀ Z, Below W0.heap.size W0 Z → (Box3 Z D (.slice a ps.length cap) (.int .i64 fuel) (.int .i64 0) ∧ ∀ j, Z.frozen? ⟨D, j, none⟩ = false) ∧ PkgsIn Z a ps.length ps ∧ AsIn Z aa xs ∧ Below D w Z) := fun Z hz => ⟨⟨bx.below hz, fun j => (hz.frozen (p := ⟨D, j, none⟩) hDl).trans (hfr j)⟩, (hP.below hb0).below hz, (hx.below hb0).below hz, by rw [← hD]; exact hb0.trans (hz.mono hb0.size)⟩
  have HA8 : Hid (∀ Y, Below W0.heap.size W0 Y → Calls Tryz.prog 27 #[.slice a ps.length cap, .string ⟨nm.toArray⟩] Y fun e w' => e = .returned (.int .i64 (at8 ps nm)) ∧ w' = Y) := fun Y hy => specAt8 a ps.length cap ps nm Y ((hP.below hb0).below hy) hlen
  have hb00 : Below D w W0 := by rw [← hD]; exact hb0
  have HPw : Hid (PkgsIn w a ps.length ps) := hP
  have HXw : Hid (AsIn w aa xs) := hx
  clear bx hfr hb0 hP hx hb00
  go_enter Tryz.func31, Tryz.ntmps31
  go_wp2_with fail
  refine Calls.mono HF.out ?_
  rintro e w1 ⟨rfl, hb1⟩
  clear HF
  have hne := HNe.out w1
  clear HNe
  by_cases hz : fc = 0 ∧ fp = [] ∧ fg = []
  rotate_left
  · rw [decide_eq_true hz] at hne
    have HNo : Hid (¬ Ok10 ps nm fn xs fuel) := fun h => hz (by have e := HFe.out.symm.trans h.flt; simp only [Prod.mk.injEq] at e; exact e)
    have HBW : Hid (Below D w w1) := (HZ.out w1 hb1).2.2.2
    have HNz : Hid (¬ (fc = 0 ∧ fp = [] ∧ fg = [])) := hz
    clear hz hb1
    go_wp2
    all_goals first
      | (refine bodyPost_ret (v := .tuple #[.int .i64 0, .pointer (some ⟨D, 0, none⟩), .bool false]) (by simp [results, Tryz.results31, go_sem]) rfl ?_; exact ⟨Or.inl ⟨HNo.out, by first | rfl | rw [hD]⟩, by first | exact HBW.out | (rw [hD]; exact HBW.out)⟩)
      | (exfalso; have h := HNz.out; simp_all; done)
  · rw [decide_eq_false (fun e => e hz)] at hne
    obtain ⟨rfl, rfl, rfl⟩ := hz
    have HC8 : Hid (_) := HA8.out w1 hb1
    rcases at8_is ps nm with ⟨e8, _⟩ | ⟨q, hq, e8, hnq, _⟩
    · rw [e8] at HC8
      have HNo : Hid (¬ Ok10 ps nm fn xs fuel) := fun h => by have := h.at8; omega
      have HBW : Hid (Below D w w1) := (HZ.out w1 hb1).2.2.2
      clear hb1
      go_wp2_with fail
      refine Calls.mono HC8.out ?_
      rintro e w2 ⟨rfl, hw2⟩
      obtain rfl := hw2.symm
      go_wp2
      refine bodyPost_ret (v := .tuple #[.int .i64 0, .pointer (some ⟨D, 0, none⟩), .bool false]) (by simp [results, Tryz.results31, go_sem]) rfl ?_
      exact ⟨Or.inl ⟨HNo.out, by first | rfl | rw [hD]⟩, by first | exact HBW.out | (rw [hD]; exact HBW.out)⟩
    · rw [e8] at HC8 HA8
      have hq0 : ¬ (q : Int) < 0 := by omega
      go_wp2_with fail
      refine Calls.mono HC8.out ?_
      rintro e w2 ⟨rfl, hw2⟩
      obtain rfl := hw2.symm
      clear HC8 hw2
      go_wp2_with fail
      refine Calls.mono (specIn fuel 0 20000 _) ?_
      rintro e w2 ⟨rfl, hw2⟩
      obtain rfl := hw2.symm
      clear hw2
      by_cases hfu : 0 ≤ fuel ∧ fuel ≤ 20000
      rotate_left
      · have hib : inB fuel 0 20000 = false := decide_eq_false hfu
        have HNo : Hid (¬ Ok10 ps nm fn xs fuel) := fun h => hfu ⟨h.fuel0, h.fuel1⟩
        have HBW : Hid (Below D w w1) := (HZ.out w1 hb1).2.2.2
        clear hb1
        rw [hib]
        go_wp2
        refine bodyPost_ret (v := .tuple #[.int .i64 0, .pointer (some ⟨D, 0, none⟩), .bool false]) (by simp [results, Tryz.results31, go_sem]) rfl ?_
        exact ⟨Or.inl ⟨HNo.out, by first | rfl | rw [hD]⟩, by first | exact HBW.out | (rw [hD]; exact HBW.out)⟩
      · have hib : inB fuel 0 20000 = true := decide_eq_true hfu
        rw [hib]
        clear hib hne
        obtain ⟨fN, rfl⟩ : ∃ n : Nat, fuel = (n : Int) := ⟨fuel.toNat, by omega⟩
        have hpq : pkOf ps nm = ps.getD q pk0 := by unfold pkOf; rw [e8, Int.toNat_natCast]
        obtain ⟨lb, lo, rfl, hlb, l0, ia, il, ic, fa, fl, fcp, l1, l2, _, hFB⟩ := HPw.out.2 q hq
        rw [← hpq] at l0 hFB
        have hsq := hsh q
        rw [← hpq] at hsq
        have hflN : (pkOf ps nm).2.2.length = fl := hFB.1
        have hfl2 : fl ≤ 1048576 := by rw [← hflN]; exact hsq.2.2.2.1
        have hBw1 : Below w.heap.size w w1 := by rw [hD]; exact (HZ.out w1 hb1).2.2.2
        replace l0 := (hBw1.cell (p := ⟨lb, lo + q * 3, none⟩) hlb).trans l0
        replace l1 := (hBw1.cell (p := ⟨lb, lo + q * 3 + 1, none⟩) hlb).trans l1
        replace l2 := (hBw1.cell (p := ⟨lb, lo + q * 3 + 2, none⟩) hlb).trans l2
        obtain ⟨nmq, hnmq⟩ : ∃ x, (pkOf ps nm).1 = x := ⟨_, rfl⟩
        obtain ⟨fsq, hfsq⟩ : ∃ x, (pkOf ps nm).2.2 = x := ⟨_, rfl⟩
        rw [hnmq] at l0
        have hq2 : (q : Int) < (ps.length : Int) := by omega
        have HC8 : Hid (_) := HA8.out w1 hb1
        obtain ⟨bE, hbE⟩ := Box3.new w1 (.string ⟨nmq.toArray⟩) (.slice ia il ic) (.slice fa fl fcp) 36
        obtain ⟨X1, hX1⟩ : ∃ X1, w1.alloc (.cells #[.string ⟨nmq.toArray⟩, .slice ia il ic, .slice fa fl fcp] 36) = X1 := ⟨_, rfl⟩
        obtain ⟨E, hE⟩ : ∃ E, w1.heap.size = E := ⟨_, rfl⟩
        rw [hX1] at bE hbE
        rw [hE] at bE
        have hDE : D < E := by rw [← hE]; exact Nat.lt_of_lt_of_le hDl hb1.size
        have hbX : Below W0.heap.size W0 X1 := hb1.trans (hbE.mono hb1.size)
        have HY : Hid (∀ Z, Below X1.heap.size X1 Z → Box3 Z E (.string ⟨nmq.toArray⟩) (.slice ia il ic) (.slice fa fl fcp) ∧ Below W0.heap.size W0 Z ∧ Below w.heap.size w Z) := fun Z hz => by
          have h1 := hbX.trans (hz.mono hbX.size)
          exact ⟨bE.below hz, h1, by rw [hD]; exact (HZ.out Z h1).2.2.2⟩
        have HA7 : Hid (_) := specAt nmq fn ia il ic fa fl fcp fsq X1 (by rw [← hfsq]; exact hFB.below (HY.out X1 (Below.refl _ _)).2.2) hfl2
        have e0 := bE.c0
        have e1 := bE.c1
        have e2 := bE.c2
        have HOk : Hid (∀ xs', xs' = xs → (Ok10 ps nm fn xs (fN : Int) → 0 ≤ atV fsq fn ∧ (xs.length : Int) = (fsq.getD (atV fsq fn).toNat fn0).2.1 ∧ ∀ x ∈ xs, Word10 x)) := fun _ _ h => by
          rw [← hfsq]; exact ⟨h.at7, h.len, h.word⟩
        clear bE hbE hbX
        go_wp2_with fail
        refine Calls.mono HC8.out ?_
        rintro e w2 ⟨rfl, hw2⟩
        obtain rfl := hw2.symm
        clear HC8 hw2
        go_wp2_with fail
        refine Calls.mono HA7.out ?_
        rintro e w3 ⟨rfl, hb3⟩
        obtain ⟨b3, hb03, hbw3⟩ := HY.out w3 hb3
        have f2 := b3.c2
        have HBW : Hid (Below D w w3) := by exact (by rw [← hD]; exact hbw3 : Below D w w3)
        clear HA7 e0 e1 e2 l0 l1 l2
        rcases at7_is fsq fn with e7 | ⟨kf, hkf, e7, _⟩
        · rw [e7]
          have HNo : Hid (¬ Ok10 ps nm fn xs (fN : Int)) := fun h => by have := (HOk.out xs rfl h).1; omega
          clear b3 hb03 hbw3 hb3
          go_wp2
          refine bodyPost_ret (v := .tuple #[.int .i64 0, .pointer (some ⟨D, 0, none⟩), .bool false]) (by simp [results, Tryz.results31, go_sem]) rfl ?_
          exact ⟨Or.inl ⟨HNo.out, by first | rfl | rw [hD]⟩, by first | exact HBW.out | (rw [hD]; exact HBW.out)⟩
        · rw [e7]
          obtain ⟨fb, fo, rfl, hfb, _, u1, ua, ul, uc, u2, _, hNB⟩ := hFB.2 kf (by rw [hfsq] at hflN; omega)
          rw [hfsq] at u1 hNB
          have v1 := (hbw3.cell (p := ⟨fb, fo + kf * 3 + 1, none⟩) hfb).trans u1
          have hk0 : ¬ (kf : Int) < 0 := by omega
          have hk2 : (kf : Int) < (fl : Int) := by rw [hfsq] at hflN; omega
          obtain ⟨ag, hag⟩ : ∃ ag, (fsq.getD kf fn0).2.1 = ag := ⟨_, rfl⟩
          rw [hag] at v1
          rw [e7, Int.toNat_natCast, hag] at HOk
          by_cases hal : (xs.length : Int) = ag
          rotate_left
          · have halb : ((xs.length : Int) != ag) = true := by rw [bne_iff_ne]; exact hal
            have HNo : Hid (¬ Ok10 ps nm fn xs (fN : Int)) := fun h => hal (HOk.out xs rfl h).2.1
            clear b3 hb03 hbw3 hb3 u1 u2 hNB
            go_wp2
            refine bodyPost_ret (v := .tuple #[.int .i64 0, .pointer (some ⟨D, 0, none⟩), .bool false]) (by simp [results, Tryz.results31, go_sem]) rfl ?_
            exact ⟨Or.inl ⟨HNo.out, by first | rfl | rw [hD]⟩, by first | exact HBW.out | (rw [hD]; exact HBW.out)⟩
          · have halb : ((xs.length : Int) != ag) = false := by rw [hal]; simp
            have hfo : fnOf10 ps nm fn = fsq.getD kf fn0 := by unfold fnOf10; rw [hfsq, e7, Int.toNat_natCast]
            have HAll : Hid ((∀ x ∈ xs, Word10 x) → Ok10 ps nm fn xs (fN : Int)) := fun h => ⟨HFe.out, by omega, by omega, by omega, by rw [hfsq, e7]; omega, by rw [hfo, hag]; exact hal, h⟩
            have HB0 : Hid (Below X1.heap.size X1 w3) := hb3
            have HU : Hid (_) := (show fb < w.heap.size ∧ w.cell? ⟨fb, fo + kf * 3 + 2, none⟩ = some (.slice ua ul uc) ∧ NodesIn w ua ul (fsq.getD kf fn0).2.2 from ⟨hfb, u2, hNB⟩)
            have HSq : Hid (ShortT (fsq.getD kf fn0).2.2 ∧ (fsq.getD kf fn0).2.2.length ≤ 1048576) := by
              have h := hsq.2.2.2.2 kf
              rw [hfsq] at h
              exact ⟨h.2.2, h.2.1⟩
            clear b3 hb03 hbw3 hb3 u1 u2 hNB HBW hal hag
            go_wp2
            go_loopw [16] (fun iv wx => ∃ i : Nat, iv = .int .i64 (i : Int) ∧ i ≤ xs.length ∧ Hid (∀ j, j < i → Word10 (xs.getD j 0)) ∧ Hid (Below X1.heap.size X1 wx)) (fun iv _ => xs.length - (intOf iv).toNat)
            case atStart => exact ⟨0, rfl, by omega, (fun j hj => absurd hj (Nat.not_lt_zero _)), HB0⟩
            case round =>
              obtain ⟨i, rfl, hi, HWs, HBr⟩ := hrel
              clear HB0 v1 f2
              obtain ⟨b3, hb03, hbw3⟩ := HY.out wr HBr.out
              have HBW : Hid (Below D w wr) := by exact (by rw [← hD]; exact hbw3 : Below D w wr)
              by_cases hlt : (i : Int) < (xs.length : Int)
              · have hi2 : i < xs.length := by omega
                obtain ⟨ba, oa, rfl, hba, hca⟩ := (HXw.out.below hbw3) i hi2
                have hmem : xs.getD i 0 ∈ xs := by simp [List.getD, hi2]
                have HNx : Hid (Word10 (xs.getD i 0) → ∀ j, j < i + 1 → Word10 (xs.getD j 0)) := fun h j hj => by
                  rcases Nat.lt_or_ge j i with h1 | h1
                  · exact HWs.out j h1
                  · obtain rfl : j = i := by omega
                    exact h
                generalize xs.getD i 0 = xv at hca hmem HNx
                have HC : Hid (_) := specWordOk xv wr
                clear b3 hb03 hbw3
                by_cases hwd : Word10 xv
                · have hib : inB xv (-2147483648) 2147483647 = true := decide_eq_true hwd
                  rw [hib] at HC
                  have HW2 : Hid (_) := HNx.out hwd
                  clear hib hwd HNx hmem
                  go_wp2_with fail
                  refine Calls.mono HC.out ?_
                  rintro e w4 ⟨rfl, hw4⟩
                  obtain rfl := hw4.symm
                  go_wp2
                  go_roundw
                  case rel => exact ⟨i + 1, by go_num, by omega, HW2, HBr⟩
                  case measure => simp [intOf]; omega
                · have hib : inB xv (-2147483648) 2147483647 = false := decide_eq_false hwd
                  rw [hib] at HC
                  have HNo : Hid (¬ Ok10 ps nm fn xs (fN : Int)) := fun h => hwd (h.word xv hmem)
                  clear hib hwd HNx hmem
                  go_wp2_with fail
                  refine Calls.mono HC.out ?_
                  rintro e w4 ⟨rfl, hw4⟩
                  obtain rfl := hw4.symm
                  go_wp2
                  refine bodyPost_ret (v := .tuple #[.int .i64 0, .pointer (some ⟨D, 0, none⟩), .bool false]) (by simp [results, Tryz.results31, go_sem]) rfl ?_
                  exact ⟨Or.inl ⟨HNo.out, by first | rfl | rw [hD]⟩, by first | exact HBW.out | (rw [hD]; exact HBW.out)⟩
              · have hok : Ok10 ps nm fn xs (fN : Int) := HAll.out (fun x hx => by
                  obtain ⟨j, hj, e⟩ := List.mem_iff_getElem.1 hx
                  have h := HWs.out j (by omega)
                  simp only [List.getD, hj, List.getElem?_eq_getElem, Option.getD_some] at h
                  rw [e] at h
                  exact h)
                obtain ⟨hfb', u2', hNB'⟩ := HU.out
                obtain rfl : (fsq.getD kf fn0).2.2.length = ul := hNB'.1
                have u3 := (hbw3.cell (p := ⟨fb, fo + kf * 3 + 2, none⟩) hfb').trans u2'
                have f2 := b3.c2
                obtain ⟨⟨bW, frW⟩, _, _, _⟩ := HZ.out wr hb03
                have hwk : Wk wr D (.slice (some ⟨lb, lo, none⟩) ps.length cap) fN 0 := ⟨bW.c0, bW.c1, bW.c2, frW⟩
                have htr := tr_of hok.flt hok.at8 hok.at7
                rw [hfo] at htr
                have hV := (specVal w (some ⟨lb, lo, none⟩) cap ps D HPw.out hsh hlen hok.flt (by omega) 20001 (Nat.le_refl _)).at hbw3 (show fN < 20001 by have := hok.fuel1; omega) hwk hNB' htr HSq.out.1 HSq.out.2 (q := 0) (k := 0) rfl htr.root (HXw.out.off hbw3 (by omega)) (by rw [← hfo]; exact hok.len) hok.word uc ac
                have hrun : val10 ps 20001 (fsq.getD kf fn0).2.2 0 xs (fN, 0) = run10 ps nm fn xs (fN : Int).toNat := by unfold run10; rw [Int.toNat_natCast, hfo]
                rw [hrun] at hV
                have hzr : (run10 ps nm fn xs (fN : Int).toNat).2.2 ≠ 0 → (run10 ps nm fn xs (fN : Int).toNat).1 = 0 := fun h => (Sk10.val ps 20001 _ 0 xs).zero _ h
                have HOk2 : Hid (Ok10 ps nm fn xs (fN : Int)) := hok
                obtain ⟨rr, hrr⟩ : ∃ rr, run10 ps nm fn xs (fN : Int).toNat = rr := ⟨_, rfl⟩
                have HRR : Hid (run10 ps nm fn xs (fN : Int).toNat = rr) := hrr
                rw [hrr] at hV hzr
                have HV : Hid (_) := hV
                have HZr : Hid (rr.2.2 ≠ 0 → rr.1 = 0) := hzr
                obtain ⟨rv, rf, rc⟩ := rr
                obtain ⟨tl8, htl8⟩ : ∃ n, (fsq.getD kf fn0).2.2.length = n := ⟨_, rfl⟩
                rw [htl8] at HV u3
                simp only at HV HZr
                clear hV hzr hrr hrun htr hwk bW frW hok hNB' u2' b3 hb03 HAll HU HSq HOk HWs htl8
                go_wp2_with fail
                refine Calls.mono HV.out ?_
                rintro e w4 ⟨rfl, hw4, hy4⟩
                have s2 := hw4.c2
                have HWk : Hid (_) := hw4
                have HB4 : Hid (Below D w w4) := by exact (by rw [← hD]; exact wr_base hbw3 (by omega) hy4 : Below D w w4)
                clear hw4 hy4 hbw3
                by_cases hrc : rc = 0
                · subst hrc
                  go_wp2
                  refine bodyPost_ret (v := .tuple #[.int .i64 rv, .pointer (some ⟨D, 0, none⟩), .bool true]) (by simp [results, Tryz.results31, go_sem]) rfl ?_
                  refine ⟨Or.inr ⟨HOk2.out, ?_, .slice (some ⟨lb, lo, none⟩) ps.length cap, ?_⟩, by rw [hD]; exact HB4.out⟩
                  · rw [HRR.out, hD]
                  · rw [HRR.out, hD]; exact HWk.out
                · have hrb : (rc != 0) = true := by rw [bne_iff_ne]; exact hrc
                  obtain rfl : rv = 0 := HZr.out hrc
                  go_wp2
                  refine bodyPost_ret (v := .tuple #[.int .i64 0, .pointer (some ⟨D, 0, none⟩), .bool true]) (by simp [results, Tryz.results31, go_sem]) rfl ?_
                  refine ⟨Or.inr ⟨HOk2.out, ?_, .slice (some ⟨lb, lo, none⟩) ps.length cap, ?_⟩, by rw [hD]; exact HB4.out⟩
                  · rw [HRR.out, hD]
                  · rw [HRR.out, hD]; exact HWk.out

end Go.Proofs.YtmloocbbcnhooaaGreatDoor

/-! The contracts of chapter 10's landed code: what is asked. -/
namespace Go.Proofs.YtmloocbbcnhooaaGreatDoor
open Go.RowKit

/-- What funcAsked hands back. -/
def AskedE (B : World) (ps : List Pk) (nm fn : List UInt8) (xs : List Int) (fuel : Int) (e : Ending) : Prop :=
  (Ok10 ps nm fn xs fuel ∧ ∃ ta tc, e = .returned (.agg #[.string ⟨(fnOf10 ps nm fn).1.toArray⟩, .int .i64 (fnOf10 ps nm fn).2.1, .slice ta (fnOf10 ps nm fn).2.2.length tc]) ∧ NodesIn B ta (fnOf10 ps nm fn).2.2.length (fnOf10 ps nm fn).2.2 ∧ IntT (fnOf10 ps nm fn).2.2 ∧ ShortT (fnOf10 ps nm fn).2.2 ∧ (fnOf10 ps nm fn).2.2.length ≤ 1048576) ∨
  (¬ Ok10 ps nm fn xs fuel ∧ e = gu 3)

set_option maxHeartbeats 8000000 in
set_option maxRecDepth 100000 in
theorem implAsked (B w : World) (A : Nat) (la : Option Addr) (lc : Nat) (ps : List Pk) (nm fn : List UInt8) (aa : Option Addr) (ac : Nat) (xs : List Int) (fuel : Int) (er : Nat → Addr) (hB : Below B.heap.size B w) (hK : PkgsOk B la ps.length lc ps) (hE : Err8 B er) (c0 : w.cell? ⟨A, 0, none⟩ = some (.slice la ps.length lc)) (c1 : w.cell? ⟨A, 1, none⟩ = some (.int .i64 fuel)) (hx : AsIn B aa xs) (hxl : xs.length ≤ 1048576) :
    Calls Tryz.prog 45 #[.pointer (some ⟨A, 0, none⟩), .string ⟨nm.toArray⟩, .string ⟨fn.toArray⟩, .slice aa xs.length ac] w fun e w' => AskedE B ps nm fn xs fuel e ∧ Below w.heap.size w w' := by
  have hAl : A < w.heap.size := World.block_lt_of_cell? w ⟨A, 0, none⟩ c0
  obtain ⟨bD, hb0⟩ := Bk.new w (.string ⟨#[]⟩) (.int .i64 0) (.slice none 0 0) 42
  obtain ⟨W0, hW0⟩ : ∃ W0, w.alloc (.cells #[.string ⟨#[]⟩, .int .i64 0, .slice none 0 0] 42) = W0 := ⟨_, rfl⟩
  rw [hW0] at bD hb0
  have HY : Hid (∀ Y, Below W0.heap.size W0 Y → (Y.cell? ⟨A, 0, none⟩ = some (.slice la ps.length lc) ∧ Y.cell? ⟨A, 1, none⟩ = some (.int .i64 fuel)) ∧ Bk Y w.heap.size (.string ⟨#[]⟩) (.int .i64 0) (.slice none 0 0) ∧ Below w.heap.size w Y ∧ Below B.heap.size B Y) := fun Y hy => by
    have h1 : Below w.heap.size w Y := hb0.trans (hy.mono hb0.size)
    exact ⟨⟨(h1.cell (p := ⟨A, 0, none⟩) hAl).trans c0, (h1.cell (p := ⟨A, 1, none⟩) hAl).trans c1⟩, bD.below hy, h1, hB.trans (h1.mono hB.size)⟩
  obtain ⟨⟨s0, s1⟩, _, hw0, hB0⟩ := HY.out W0 (Below.refl _ _)
  have HW0 : Hid (Below w.heap.size w W0) := hw0
  obtain ⟨D, hD⟩ : ∃ D, w.heap.size = D := ⟨_, rfl⟩
  rw [hD] at HY HW0 ⊢
  have HF : Hid (_) := implFaultOf la ps.length lc ps er W0 (hE.below hB0) (hK.below hB0)
  obtain ⟨F, hFe⟩ : ∃ F, faultV ps = F := ⟨_, rfl⟩
  have HFe : Hid (faultV ps = F) := hFe
  rw [hFe] at HF
  obtain ⟨fc, fp, fg⟩ := F
  unfold fltVal at HF
  simp only at HF
  have HNe : Hid (_) := fault_ne fc fp fg
  have HNm : Hid (∀ Y, Below B.heap.size B Y → Calls Tryz.prog 62 #[.slice la ps.length lc, .string ⟨nm.toArray⟩, .string ⟨fn.toArray⟩] Y fun e w' => Named10 B ps nm fn e ∧ Below Y.heap.size Y w') := fun Y hy => implNamed B Y la ps.length lc ps nm fn hy hK
  have HAr : Hid (∀ Y (many : Int), Below B.heap.size B Y → Calls Tryz.prog 63 #[.slice aa xs.length ac, .int .i64 many] Y fun e w' => ArgsE xs many e ∧ Below Y.heap.size Y w') := fun Y many hy => implArgsOk aa ac xs many Y (hx.below hy) hxl
  clear bD hb0 hw0 hB0 hB hK hE c0 c1 hx hFe hAl
  by_cases hf0 : fuel < 0
  · have HNo : Hid (¬ Ok10 ps nm fn xs fuel) := fun h => by have := h.fuel0; omega
    clear HF HNe HNm HAr HY
    go_enter Tryz.func45, Tryz.ntmps45
    go_wp2
    exact ⟨rfl, Or.inr ⟨HNo.out, rfl⟩, HW0.out⟩
  by_cases hf1 : 20000 < fuel
  · have HNo : Hid (¬ Ok10 ps nm fn xs fuel) := fun h => by have := h.fuel1; omega
    clear HF HNe HNm HAr HY
    go_enter Tryz.func45, Tryz.ntmps45
    go_wp2
    exact ⟨rfl, Or.inr ⟨HNo.out, rfl⟩, HW0.out⟩
  go_enter Tryz.func45, Tryz.ntmps45
  go_wp2_with fail
  refine Calls.mono HF.out ?_
  rintro e w1 ⟨rfl, hb1⟩
  clear HF
  have hne := HNe.out w1
  clear HNe
  obtain ⟨⟨t0, t1⟩, _, hw1, hB1⟩ := HY.out w1 hb1
  have HW1 : Hid (Below D w w1) := hw1
  have HB1 : Hid (Below W0.heap.size W0 w1) := hb1
  have HC1 : Hid (_) := HNm.out w1 hB1
  by_cases hz : fc = 0 ∧ fp = [] ∧ fg = []
  rotate_left
  · rw [decide_eq_true hz] at hne
    have HNo : Hid (¬ Ok10 ps nm fn xs fuel) := fun h => hz (by have e := HFe.out.symm.trans h.flt; simp only [Prod.mk.injEq] at e; exact e)
    have HNz : Hid (¬ (fc = 0 ∧ fp = [] ∧ fg = [])) := hz
    clear hz hb1 hw1 hB1 HC1 HNm HAr HY
    go_wp2
    all_goals first
      | (exact ⟨rfl, Or.inr ⟨HNo.out, rfl⟩, HW1.out⟩)
      | (exfalso; have h := HNz.out; simp_all; done)
  rw [decide_eq_false (fun e => e hz)] at hne
  obtain ⟨rfl, rfl, rfl⟩ := hz
  clear hb1 hw1 hB1 HNm
  go_wp2_with fail
  refine Calls.mono HC1.out ?_
  rintro e w2 ⟨hn, hb2⟩
  have hb02 : Below W0.heap.size W0 w2 := HB1.out.trans (hb2.mono HB1.out.size)
  obtain ⟨_, _, hw2, hB2⟩ := HY.out w2 hb02
  rcases hn with ⟨h8, h7, ta, tc, rfl, hN1, hN2, hN3, hN4⟩ | ⟨hno, rfl⟩
  rotate_left
  · have HNo : Hid (¬ Ok10 ps nm fn xs fuel) := fun h => hno ⟨h.at8, h.at7⟩
    have HBx : Hid (Below D w (w2.alloc (.cells #[.string ⟨#[]⟩, .int .i64 0, .slice none 0 0] 42))) := hw2.alloc (by rw [← hD]; exact hw2.size) _
    clear hno hb2 hb02 hw2 hB2 HC1 HAr HY hne
    go_wp2
    exact ⟨rfl, Or.inr ⟨HNo.out, rfl⟩, HBx.out⟩
  obtain ⟨FF, hFF⟩ : ∃ FF, fnOf10 ps nm fn = FF := ⟨_, rfl⟩
  have HFF : Hid (fnOf10 ps nm fn = FF) := hFF
  rw [hFF] at hN1 hN2 hN3 hN4 ⊢
  obtain ⟨Fn, Fa, Ft⟩ := FF
  simp only at hN1 hN2 hN3 hN4 ⊢
  have HIn : Hid (NodesIn B ta Ft.length Ft ∧ IntT Ft ∧ ShortT Ft ∧ Ft.length ≤ 1048576) := ⟨hN1, hN2, hN3, hN4⟩
  obtain ⟨bx, hbx⟩ := Box3.new w2 (.string ⟨Fn.toArray⟩) (.int .i64 Fa) (.slice ta Ft.length tc) 42
  obtain ⟨X, hX⟩ : ∃ X, w2.alloc (.cells #[.string ⟨Fn.toArray⟩, .int .i64 Fa, .slice ta Ft.length tc] 42) = X := ⟨_, rfl⟩
  obtain ⟨K8, hK8⟩ : ∃ K8, w2.heap.size = K8 := ⟨_, rfl⟩
  rw [hX] at bx hbx
  rw [hK8] at bx
  have hb0X : Below W0.heap.size W0 X := hb02.trans (hbx.mono hb02.size)
  have HC2 : Hid (_) := HAr.out X Fa (HY.out X hb0X).2.2.2
  have HX3 : Hid (∀ Y, Below X.heap.size X Y → Box3 Y K8 (.string ⟨Fn.toArray⟩) (.int .i64 Fa) (.slice ta Ft.length tc) ∧ Bk Y D (.string ⟨#[]⟩) (.int .i64 0) (.slice none 0 0) ∧ Below D w Y) := fun Y hy => by
    have h := HY.out Y (hb0X.trans (hy.mono hb0X.size))
    exact ⟨bx.below hy, h.2.1, h.2.2.1⟩
  have u1 := bx.c1
  have HOk : Hid (((xs.length : Int) = Fa ∧ ∀ x ∈ xs, Word10 x) ↔ Ok10 ps nm fn xs fuel) := ⟨fun h => ⟨HFe.out, h8, by omega, by omega, h7, by rw [HFF.out]; exact h.1, h.2⟩, fun h => ⟨by have := h.len; rw [HFF.out] at this; exact this, h.word⟩⟩
  clear hFF hN1 hN2 hN3 hN4 bx hbx hb2 hb02 hw2 hB2 hb0X HC1 HAr HY hne h8 h7 t0 t1 s0 s1
  go_wp2_with fail
  refine Calls.mono HC2.out ?_
  rintro e w3 ⟨⟨b, rfl, hb⟩, hb3⟩
  obtain ⟨bx, bD, hw3⟩ := HX3.out w3 hb3
  have HW3 : Hid (Below D w w3) := hw3
  cases b with
  | false =>
    have HNo : Hid (¬ Ok10 ps nm fn xs fuel) := fun h => by have := hb.2 (HOk.out.2 h); cases this
    clear hb bx bD hw3 hb3 HC2 HX3
    go_wp2
    exact ⟨rfl, Or.inr ⟨HNo.out, rfl⟩, HW3.out⟩
  | true =>
    have HYes : Hid (Ok10 ps nm fn xs fuel) := HOk.out.1 (hb.1 rfl)
    have v0 := bx.c0
    have v1 := bx.c1
    have v2 := bx.c2
    have r0 := bD.box.c0
    have r1 := bD.box.c1
    have r2 := bD.box.c2
    have f0 := bD.fr 0
    have f1 := bD.fr 1
    have f2 := bD.fr 2
    obtain ⟨Y, hY, y0, y1, y2, hg⟩ := set3 (.string ⟨Fn.toArray⟩) (.int .i64 Fa) (.slice ta Ft.length tc) r0 r1 r2
    have HBY : Hid (Below D w Y) := HW3.out.grown hg (by rw [← hD]; exact HW3.out.size) (fun k e => by injection e with e; omega)
    clear hb bx bD hw3 hb3 HC2 HX3 u1
    go_wp2
    refine bodyPost_ret (v := .agg #[.string ⟨Fn.toArray⟩, .int .i64 Fa, .slice ta Ft.length tc]) (by simp [results, Tryz.results45, go_sem, y0, y1, y2]) rfl ?_
    refine ⟨Or.inl ⟨HYes.out, ?_⟩, HBY.out⟩
    rw [HFF.out]
    exact ⟨ta, tc, rfl, HIn.out⟩

end Go.Proofs.YtmloocbbcnhooaaGreatDoor
