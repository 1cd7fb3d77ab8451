/-
  Parts of one proof, one behind the other: MeanS7, MeanS8, MeanL, Codes, Draw8L.
-/
import Derived.Test.YtkjojhkpoooimaaGreatP36
import Derived.Test.YtkjojhkpoooimaaGreatP35
import Derived.Test.YtkjojhkpoooimaaGreatP1
import Derived.Laws.StructEq
import Derived.Test.YtkjojhkpoooimaaGreatP16
import Derived.Test.YtkjojhkpoooimaaGreatP6
import Derived.Test.YtkjojhkpoooimaaGreatP2
import Derived.Test.YtkjojhkpoooimaaGreatP33

/-! The contracts of chapter 10's specification: Meant and Burnt. -/
namespace Go.Proofs.YtkjojhkpoooimaaGreat
open Go.RowKit

theorem fault_ne (c : Int) (p g : List UInt8) (w : World) : (binOp .neq 96 (.agg #[.int .i64 c, .string ⟨p.toArray⟩, .string ⟨g.toArray⟩]) (.agg #[.int .i64 0, .string ⟨#[]⟩, .string ⟨#[]⟩])).run Tryz.prog w = .ok (.bool (decide (¬ (c = 0 ∧ p = [] ∧ g = [])))) w := by
  rw [run_neq_struct]
  simp [go_sem]
  by_cases h1 : c = 0
  · by_cases h2 : p = []
    · by_cases h3 : g = []
      · simp [h1, h2, h3]
      · simp [h1, h2, h3]
    · simp [h1, h2]
  · simp [h1]

/-- Numbers that can be read. -/
def AsIn (w : World) (a : Option Addr) (xs : List Int) : Prop := ∀ j, j < xs.length → ∃ b off, a = some ⟨b, off, none⟩ ∧ b < w.heap.size ∧ w.cell? ⟨b, off + j, none⟩ = some (.int .i64 (xs.getD j 0))
theorem AsIn.below {w w' : World} {a : Option Addr} {xs : List Int} (h : AsIn w a xs) (hb : Below w.heap.size w w') : AsIn w' a xs := fun j hj => by
  obtain ⟨b, off, e, hl, hc⟩ := h j hj
  exact ⟨b, off, e, Nat.lt_of_lt_of_le hl hb.size, (hb.cell (p := ⟨b, off + j, none⟩) hl).trans hc⟩
theorem AsIn.off {w w' : World} {a : Option Addr} {xs : List Int} (h : AsIn w a xs) (hb : Below w.heap.size w w') {W : Nat} (hW : w.heap.size ≤ W) : As w' W a xs := fun j hj => by
  obtain ⟨b, off, e, hl, hc⟩ := h j hj
  exact ⟨b, off, e, by omega, Nat.lt_of_lt_of_le hl hb.size, (hb.cell (p := ⟨b, off + j, none⟩) hl).trans hc⟩
/-- What l10Run hands back. -/
def Run10 (w Z : World) (ps : List Pk) (nm fn : List UInt8) (xs : List Int) (fuel : Int) (e : Ending) : Prop :=
  (¬ Ok10 ps nm fn xs fuel ∧ e = .returned (.tuple #[.int .i64 0, .pointer (some ⟨w.heap.size, 0, none⟩), .bool false])) ∨
  (Ok10 ps nm fn xs fuel ∧ e = .returned (.tuple #[.int .i64 (run10 ps nm fn xs fuel.toNat).1, .pointer (some ⟨w.heap.size, 0, none⟩), .bool true]) ∧ ∃ l, Wk Z w.heap.size l (run10 ps nm fn xs fuel.toNat).2.1 (run10 ps nm fn xs fuel.toNat).2.2)

set_option maxHeartbeats 8000000 in
set_option maxRecDepth 100000 in
theorem specRun (a : Option Addr) (len cap : Nat) (ps : List Pk) (nm fn : List UInt8) (aa : Option Addr) (ac : Nat) (xs : List Int) (fuel : Int) (w : World) (hP : PkgsIn w a len ps) (hlen : len ≤ 1048576) (hsh : ShortPs ps) (hx : AsIn w aa xs) (hxl : xs.length ≤ 1048576) :
    Calls Tryz.prog 45 #[.slice a len cap, .string ⟨nm.toArray⟩, .string ⟨fn.toArray⟩, .slice aa xs.length ac, .int .i64 fuel] w fun e w' => Run10 w w' ps nm fn xs fuel e ∧ Below w.heap.size w w' := by
  obtain rfl : ps.length = len := hP.1
  obtain ⟨bx, hb0⟩ := Box3.new w (.slice a ps.length cap) (.int .i64 fuel) (.int .i64 0) 74
  obtain ⟨W0, hW0⟩ : ∃ W0, w.alloc (.cells #[.slice a ps.length cap, .int .i64 fuel, .int .i64 0] 74) = W0 := ⟨_, rfl⟩
  have hfr : ∀ j, W0.frozen? ⟨w.heap.size, j, none⟩ = false := fun j => by rw [← hW0]; exact World.frozen?_alloc_at _ _ _ _ rfl
  rw [hW0] at bx hb0
  obtain ⟨D, hD⟩ : ∃ D, w.heap.size = D := ⟨_, rfl⟩
  rw [hD] at bx hfr
  have hDl : D < W0.heap.size := bx.lt
  have HF : Hid (_) := specFaultOf a ps.length cap ps W0 (hP.below hb0) hlen hsh
  obtain ⟨F, hFe⟩ : ∃ F, faultV ps = F := ⟨_, rfl⟩
  have HFe : Hid (faultV ps = F) := hFe
  rw [hFe] at HF
  obtain ⟨fc, fp, fg⟩ := F
  unfold fltVal at HF
  simp only at HF
  have HNe : Hid (_) := fault_ne fc fp fg
  have HZ : Hid (∀ Z, Below W0.heap.size W0 Z → (Box3 Z D (.slice a ps.length cap) (.int .i64 fuel) (.int .i64 0) ∧ ∀ j, Z.frozen? ⟨D, j, none⟩ = false) ∧ PkgsIn Z a ps.length ps ∧ AsIn Z aa xs ∧ Below D w Z) := fun Z hz => ⟨⟨bx.below hz, fun j => (hz.frozen (p := ⟨D, j, none⟩) hDl).trans (hfr j)⟩, (hP.below hb0).below hz, (hx.below hb0).below hz, by rw [← hD]; exact hb0.trans (hz.mono hb0.size)⟩
  have HA8 : Hid (∀ Y, Below W0.heap.size W0 Y → Calls Tryz.prog 42 #[.slice a ps.length cap, .string ⟨nm.toArray⟩] Y fun e w' => e = .returned (.int .i64 (at8 ps nm)) ∧ w' = Y) := fun Y hy => specAt8 a ps.length cap ps nm Y ((hP.below hb0).below hy) hlen
  have hb00 : Below D w W0 := by rw [← hD]; exact hb0
  have HPw : Hid (PkgsIn w a ps.length ps) := hP
  have HXw : Hid (AsIn w aa xs) := hx
  clear bx hfr hb0 hP hx hb00
  go_enter Tryz.func45, Tryz.ntmps45
  go_wp2_with fail
  refine Calls.mono HF.out ?_
  rintro e w1 ⟨rfl, hb1⟩
  clear HF
  have hne := HNe.out w1
  clear HNe
  by_cases hz : fc = 0 ∧ fp = [] ∧ fg = []
  rotate_left
  · rw [decide_eq_true hz] at hne
    have HNo : Hid (¬ Ok10 ps nm fn xs fuel) := fun h => hz (by have e := HFe.out.symm.trans h.flt; simp only [Prod.mk.injEq] at e; exact e)
    have HBW : Hid (Below D w w1) := (HZ.out w1 hb1).2.2.2
    have HNz : Hid (¬ (fc = 0 ∧ fp = [] ∧ fg = [])) := hz
    clear hz hb1
    go_wp2
    all_goals first
      | (refine bodyPost_ret (v := .tuple #[.int .i64 0, .pointer (some ⟨D, 0, none⟩), .bool false]) (by simp [results, Tryz.results45, go_sem]) rfl ?_; exact ⟨Or.inl ⟨HNo.out, by first | rfl | rw [hD]⟩, by first | exact HBW.out | (rw [hD]; exact HBW.out)⟩)
      | (exfalso; have h := HNz.out; simp_all; done)
  · rw [decide_eq_false (fun e => e hz)] at hne
    obtain ⟨rfl, rfl, rfl⟩ := hz
    have HC8 : Hid (_) := HA8.out w1 hb1
    rcases at8_is ps nm with ⟨e8, _⟩ | ⟨q, hq, e8, hnq, _⟩
    · rw [e8] at HC8
      have HNo : Hid (¬ Ok10 ps nm fn xs fuel) := fun h => by have := h.at8; omega
      have HBW : Hid (Below D w w1) := (HZ.out w1 hb1).2.2.2
      clear hb1
      go_wp2_with fail
      refine Calls.mono HC8.out ?_
      rintro e w2 ⟨rfl, hw2⟩
      obtain rfl := hw2.symm
      go_wp2
      refine bodyPost_ret (v := .tuple #[.int .i64 0, .pointer (some ⟨D, 0, none⟩), .bool false]) (by simp [results, Tryz.results45, go_sem]) rfl ?_
      exact ⟨Or.inl ⟨HNo.out, by first | rfl | rw [hD]⟩, by first | exact HBW.out | (rw [hD]; exact HBW.out)⟩
    · rw [e8] at HC8 HA8
      have hq0 : ¬ (q : Int) < 0 := by omega
      go_wp2_with fail
      refine Calls.mono HC8.out ?_
      rintro e w2 ⟨rfl, hw2⟩
      obtain rfl := hw2.symm
      clear HC8 hw2
      go_wp2_with fail
      refine Calls.mono (specIn fuel 0 20000 _) ?_
      rintro e w2 ⟨rfl, hw2⟩
      obtain rfl := hw2.symm
      clear hw2
      by_cases hfu : 0 ≤ fuel ∧ fuel ≤ 20000
      rotate_left
      · have hib : inB fuel 0 20000 = false := decide_eq_false hfu
        have HNo : Hid (¬ Ok10 ps nm fn xs fuel) := fun h => hfu ⟨h.fuel0, h.fuel1⟩
        have HBW : Hid (Below D w w1) := (HZ.out w1 hb1).2.2.2
        clear hb1
        rw [hib]
        go_wp2
        refine bodyPost_ret (v := .tuple #[.int .i64 0, .pointer (some ⟨D, 0, none⟩), .bool false]) (by simp [results, Tryz.results45, go_sem]) rfl ?_
        exact ⟨Or.inl ⟨HNo.out, by first | rfl | rw [hD]⟩, by first | exact HBW.out | (rw [hD]; exact HBW.out)⟩
      · have hib : inB fuel 0 20000 = true := decide_eq_true hfu
        rw [hib]
        clear hib hne
        obtain ⟨fN, rfl⟩ : ∃ n : Nat, fuel = (n : Int) := ⟨fuel.toNat, by omega⟩
        have hpq : pkOf ps nm = ps.getD q pk0 := by unfold pkOf; rw [e8, Int.toNat_natCast]
        obtain ⟨lb, lo, rfl, hlb, l0, ia, il, ic, fa, fl, fcp, l1, l2, _, hFB⟩ := HPw.out.2 q hq
        rw [← hpq] at l0 hFB
        have hsq := hsh q
        rw [← hpq] at hsq
        have hflN : (pkOf ps nm).2.2.length = fl := hFB.1
        have hfl2 : fl ≤ 1048576 := by rw [← hflN]; exact hsq.2.2.2.1
        have hBw1 : Below w.heap.size w w1 := by rw [hD]; exact (HZ.out w1 hb1).2.2.2
        replace l0 := (hBw1.cell (p := ⟨lb, lo + q * 3, none⟩) hlb).trans l0
        replace l1 := (hBw1.cell (p := ⟨lb, lo + q * 3 + 1, none⟩) hlb).trans l1
        replace l2 := (hBw1.cell (p := ⟨lb, lo + q * 3 + 2, none⟩) hlb).trans l2
        obtain ⟨nmq, hnmq⟩ : ∃ x, (pkOf ps nm).1 = x := ⟨_, rfl⟩
        obtain ⟨fsq, hfsq⟩ : ∃ x, (pkOf ps nm).2.2 = x := ⟨_, rfl⟩
        rw [hnmq] at l0
        have hq2 : (q : Int) < (ps.length : Int) := by omega
        have HC8 : Hid (_) := HA8.out w1 hb1
        obtain ⟨bE, hbE⟩ := Box3.new w1 (.string ⟨nmq.toArray⟩) (.slice ia il ic) (.slice fa fl fcp) 30
        obtain ⟨X1, hX1⟩ : ∃ X1, w1.alloc (.cells #[.string ⟨nmq.toArray⟩, .slice ia il ic, .slice fa fl fcp] 30) = X1 := ⟨_, rfl⟩
        obtain ⟨E, hE⟩ : ∃ E, w1.heap.size = E := ⟨_, rfl⟩
        rw [hX1] at bE hbE
        rw [hE] at bE
        have hDE : D < E := by rw [← hE]; exact Nat.lt_of_lt_of_le hDl hb1.size
        have hbX : Below W0.heap.size W0 X1 := hb1.trans (hbE.mono hb1.size)
        have HY : Hid (∀ Z, Below X1.heap.size X1 Z → Box3 Z E (.string ⟨nmq.toArray⟩) (.slice ia il ic) (.slice fa fl fcp) ∧ Below W0.heap.size W0 Z ∧ Below w.heap.size w Z) := fun Z hz => by
          have h1 := hbX.trans (hz.mono hbX.size)
          exact ⟨bE.below hz, h1, by rw [hD]; exact (HZ.out Z h1).2.2.2⟩
        have HA7 : Hid (_) := specAt nmq fn ia il ic fa fl fcp fsq X1 (by rw [← hfsq]; exact hFB.below (HY.out X1 (Below.refl _ _)).2.2) hfl2
        have e0 := bE.c0
        have e1 := bE.c1
        have e2 := bE.c2
        have HOk : Hid (∀ xs', xs' = xs → (Ok10 ps nm fn xs (fN : Int) → 0 ≤ atV fsq fn ∧ (xs.length : Int) = (fsq.getD (atV fsq fn).toNat fn0).2.1 ∧ ∀ x ∈ xs, Word10 x)) := fun _ _ h => by
          rw [← hfsq]; exact ⟨h.at7, h.len, h.word⟩
        clear bE hbE hbX
        go_wp2_with fail
        refine Calls.mono HC8.out ?_
        rintro e w2 ⟨rfl, hw2⟩
        obtain rfl := hw2.symm
        clear HC8 hw2
        go_wp2_with fail
        refine Calls.mono HA7.out ?_
        rintro e w3 ⟨rfl, hb3⟩
        obtain ⟨b3, hb03, hbw3⟩ := HY.out w3 hb3
        have f2 := b3.c2
        have HBW : Hid (Below D w w3) := by exact (by rw [← hD]; exact hbw3 : Below D w w3)
        clear HA7 e0 e1 e2 l0 l1 l2
        rcases at7_is fsq fn with e7 | ⟨kf, hkf, e7, _⟩
        · rw [e7]
          have HNo : Hid (¬ Ok10 ps nm fn xs (fN : Int)) := fun h => by have := (HOk.out xs rfl h).1; omega
          clear b3 hb03 hbw3 hb3
          go_wp2
          refine bodyPost_ret (v := .tuple #[.int .i64 0, .pointer (some ⟨D, 0, none⟩), .bool false]) (by simp [results, Tryz.results45, go_sem]) rfl ?_
          exact ⟨Or.inl ⟨HNo.out, by first | rfl | rw [hD]⟩, by first | exact HBW.out | (rw [hD]; exact HBW.out)⟩
        · rw [e7]
          obtain ⟨fb, fo, rfl, hfb, _, u1, ua, ul, uc, u2, _, hNB⟩ := hFB.2 kf (by rw [hfsq] at hflN; omega)
          rw [hfsq] at u1 hNB
          have v1 := (hbw3.cell (p := ⟨fb, fo + kf * 3 + 1, none⟩) hfb).trans u1
          have hk0 : ¬ (kf : Int) < 0 := by omega
          have hk2 : (kf : Int) < (fl : Int) := by rw [hfsq] at hflN; omega
          obtain ⟨ag, hag⟩ : ∃ ag, (fsq.getD kf fn0).2.1 = ag := ⟨_, rfl⟩
          rw [hag] at v1
          rw [e7, Int.toNat_natCast, hag] at HOk
          by_cases hal : (xs.length : Int) = ag
          rotate_left
          · have halb : ((xs.length : Int) != ag) = true := by rw [bne_iff_ne]; exact hal
            have HNo : Hid (¬ Ok10 ps nm fn xs (fN : Int)) := fun h => hal (HOk.out xs rfl h).2.1
            clear b3 hb03 hbw3 hb3 u1 u2 hNB
            go_wp2
            refine bodyPost_ret (v := .tuple #[.int .i64 0, .pointer (some ⟨D, 0, none⟩), .bool false]) (by simp [results, Tryz.results45, go_sem]) rfl ?_
            exact ⟨Or.inl ⟨HNo.out, by first | rfl | rw [hD]⟩, by first | exact HBW.out | (rw [hD]; exact HBW.out)⟩
          · have halb : ((xs.length : Int) != ag) = false := by rw [hal]; simp
            have hfo : fnOf10 ps nm fn = fsq.getD kf fn0 := by unfold fnOf10; rw [hfsq, e7, Int.toNat_natCast]
            have HAll : Hid ((∀ x ∈ xs, Word10 x) → Ok10 ps nm fn xs (fN : Int)) := fun h => ⟨HFe.out, by omega, by omega, by omega, by rw [hfsq, e7]; omega, by rw [hfo, hag]; exact hal, h⟩
            have HB0 : Hid (Below X1.heap.size X1 w3) := hb3
            have HU : Hid (_) := (show fb < w.heap.size ∧ w.cell? ⟨fb, fo + kf * 3 + 2, none⟩ = some (.slice ua ul uc) ∧ NodesIn w ua ul (fsq.getD kf fn0).2.2 from ⟨hfb, u2, hNB⟩)
            have HSq : Hid (ShortT (fsq.getD kf fn0).2.2 ∧ (fsq.getD kf fn0).2.2.length ≤ 1048576) := by
              have h := hsq.2.2.2.2 kf
              rw [hfsq] at h
              exact ⟨h.2.2, h.2.1⟩
            clear b3 hb03 hbw3 hb3 u1 u2 hNB HBW hal hag
            go_wp2
            go_loopw [16] (fun iv wx => ∃ i : Nat, iv = .int .i64 (i : Int) ∧ i ≤ xs.length ∧ Hid (∀ j, j < i → Word10 (xs.getD j 0)) ∧ Hid (Below X1.heap.size X1 wx)) (fun iv _ => xs.length - (intOf iv).toNat)
            case atStart => exact ⟨0, rfl, by omega, (fun j hj => absurd hj (Nat.not_lt_zero _)), HB0⟩
            case round =>
              obtain ⟨i, rfl, hi, HWs, HBr⟩ := hrel
              clear HB0 v1 f2
              obtain ⟨b3, hb03, hbw3⟩ := HY.out wr HBr.out
              have HBW : Hid (Below D w wr) := by exact (by rw [← hD]; exact hbw3 : Below D w wr)
              by_cases hlt : (i : Int) < (xs.length : Int)
              · have hi2 : i < xs.length := by omega
                obtain ⟨ba, oa, rfl, hba, hca⟩ := (HXw.out.below hbw3) i hi2
                have hmem : xs.getD i 0 ∈ xs := by simp [List.getD, hi2]
                have HNx : Hid (Word10 (xs.getD i 0) → ∀ j, j < i + 1 → Word10 (xs.getD j 0)) := fun h j hj => by
                  rcases Nat.lt_or_ge j i with h1 | h1
                  · exact HWs.out j h1
                  · obtain rfl : j = i := by omega
                    exact h
                generalize xs.getD i 0 = xv at hca hmem HNx
                have HC : Hid (_) := specWordOk xv wr
                clear b3 hb03 hbw3
                by_cases hwd : Word10 xv
                · have hib : inB xv (-2147483648) 2147483647 = true := decide_eq_true hwd
                  rw [hib] at HC
                  have HW2 : Hid (_) := HNx.out hwd
                  clear hib hwd HNx hmem
                  go_wp2_with fail
                  refine Calls.mono HC.out ?_
                  rintro e w4 ⟨rfl, hw4⟩
                  obtain rfl := hw4.symm
                  go_wp2
                  go_roundw
                  case rel => exact ⟨i + 1, by go_num, by omega, HW2, HBr⟩
                  case measure => simp [intOf]; omega
                · have hib : inB xv (-2147483648) 2147483647 = false := decide_eq_false hwd
                  rw [hib] at HC
                  have HNo : Hid (¬ Ok10 ps nm fn xs (fN : Int)) := fun h => hwd (h.word xv hmem)
                  clear hib hwd HNx hmem
                  go_wp2_with fail
                  refine Calls.mono HC.out ?_
                  rintro e w4 ⟨rfl, hw4⟩
                  obtain rfl := hw4.symm
                  go_wp2
                  refine bodyPost_ret (v := .tuple #[.int .i64 0, .pointer (some ⟨D, 0, none⟩), .bool false]) (by simp [results, Tryz.results45, go_sem]) rfl ?_
                  exact ⟨Or.inl ⟨HNo.out, by first | rfl | rw [hD]⟩, by first | exact HBW.out | (rw [hD]; exact HBW.out)⟩
              · have hok : Ok10 ps nm fn xs (fN : Int) := HAll.out (fun x hx => by
                  obtain ⟨j, hj, e⟩ := List.mem_iff_getElem.1 hx
                  have h := HWs.out j (by omega)
                  simp only [List.getD, hj, List.getElem?_eq_getElem, Option.getD_some] at h
                  rw [e] at h
                  exact h)
                obtain ⟨hfb', u2', hNB'⟩ := HU.out
                obtain rfl : (fsq.getD kf fn0).2.2.length = ul := hNB'.1
                have u3 := (hbw3.cell (p := ⟨fb, fo + kf * 3 + 2, none⟩) hfb').trans u2'
                have f2 := b3.c2
                obtain ⟨⟨bW, frW⟩, _, _, _⟩ := HZ.out wr hb03
                have hwk : Wk wr D (.slice (some ⟨lb, lo, none⟩) ps.length cap) fN 0 := ⟨bW.c0, bW.c1, bW.c2, frW⟩
                have htr := tr_of hok.flt hok.at8 hok.at7
                rw [hfo] at htr
                have hV := (specVal w (some ⟨lb, lo, none⟩) cap ps D HPw.out hsh hlen hok.flt (by omega) 20001 (Nat.le_refl _)).at hbw3 (show fN < 20001 by have := hok.fuel1; omega) hwk hNB' htr HSq.out.1 HSq.out.2 (q := 0) (k := 0) rfl htr.root (HXw.out.off hbw3 (by omega)) (by rw [← hfo]; exact hok.len) hok.word uc ac
                have hrun : val10 ps 20001 (fsq.getD kf fn0).2.2 0 xs (fN, 0) = run10 ps nm fn xs (fN : Int).toNat := by unfold run10; rw [Int.toNat_natCast, hfo]
                rw [hrun] at hV
                have hzr : (run10 ps nm fn xs (fN : Int).toNat).2.2 ≠ 0 → (run10 ps nm fn xs (fN : Int).toNat).1 = 0 := fun h => (Sk10.val ps 20001 _ 0 xs).zero _ h
                have HOk2 : Hid (Ok10 ps nm fn xs (fN : Int)) := hok
                obtain ⟨rr, hrr⟩ : ∃ rr, run10 ps nm fn xs (fN : Int).toNat = rr := ⟨_, rfl⟩
                have HRR : Hid (run10 ps nm fn xs (fN : Int).toNat = rr) := hrr
                rw [hrr] at hV hzr
                have HV : Hid (_) := hV
                have HZr : Hid (rr.2.2 ≠ 0 → rr.1 = 0) := hzr
                obtain ⟨rv, rf, rc⟩ := rr
                obtain ⟨tl8, htl8⟩ : ∃ n, (fsq.getD kf fn0).2.2.length = n := ⟨_, rfl⟩
                rw [htl8] at HV u3
                simp only at HV HZr
                clear hV hzr hrr hrun htr hwk bW frW hok hNB' u2' b3 hb03 HAll HU HSq HOk HWs htl8
                go_wp2_with fail
                refine Calls.mono HV.out ?_
                rintro e w4 ⟨rfl, hw4, hy4⟩
                have s2 := hw4.c2
                have HWk : Hid (_) := hw4
                have HB4 : Hid (Below D w w4) := by exact (by rw [← hD]; exact wr_base hbw3 (by omega) hy4 : Below D w w4)
                clear hw4 hy4 hbw3
                by_cases hrc : rc = 0
                · subst hrc
                  go_wp2
                  refine bodyPost_ret (v := .tuple #[.int .i64 rv, .pointer (some ⟨D, 0, none⟩), .bool true]) (by simp [results, Tryz.results45, go_sem]) rfl ?_
                  refine ⟨Or.inr ⟨HOk2.out, ?_, .slice (some ⟨lb, lo, none⟩) ps.length cap, ?_⟩, by rw [hD]; exact HB4.out⟩
                  · rw [HRR.out, hD]
                  · rw [HRR.out, hD]; exact HWk.out
                · have hrb : (rc != 0) = true := by rw [bne_iff_ne]; exact hrc
                  obtain rfl : rv = 0 := HZr.out hrc
                  go_wp2
                  refine bodyPost_ret (v := .tuple #[.int .i64 0, .pointer (some ⟨D, 0, none⟩), .bool true]) (by simp [results, Tryz.results45, go_sem]) rfl ?_
                  refine ⟨Or.inr ⟨HOk2.out, ?_, .slice (some ⟨lb, lo, none⟩) ps.length cap, ?_⟩, by rw [hD]; exact HB4.out⟩
                  · rw [HRR.out, hD]
                  · rw [HRR.out, hD]; exact HWk.out

end Go.Proofs.YtkjojhkpoooimaaGreat

/-! The contracts of chapter 10's specification: Meant and Burnt. -/
namespace Go.Proofs.YtkjojhkpoooimaaGreat
open Go.RowKit

set_option maxHeartbeats 4000000 in
set_option maxRecDepth 100000 in
theorem specMeant (a : Option Addr) (len cap : Nat) (ps : List Pk) (nm fn : List UInt8) (aa : Option Addr) (ac : Nat) (xs : List Int) (fuel : Int) (w : World) (hP : PkgsIn w a len ps) (hlen : len ≤ 1048576) (hsh : ShortPs ps) (hx : AsIn w aa xs) (hxl : xs.length ≤ 1048576) :
    Calls Tryz.prog 16 #[.slice a len cap, .string ⟨nm.toArray⟩, .string ⟨fn.toArray⟩, .slice aa xs.length ac, .int .i64 fuel] w fun e w' => e = .returned (.tuple #[.int .i64 (meantV ps nm fn xs fuel).1, .int .i64 (meantV ps nm fn xs fuel).2]) ∧ Below w.heap.size w w' := by
  have HR : Hid (_) := specRun a len cap ps nm fn aa ac xs fuel w hP hlen hsh hx hxl
  obtain ⟨M, hM⟩ : ∃ M, meantV ps nm fn xs fuel = M := ⟨_, rfl⟩
  have HM : Hid (meantV ps nm fn xs fuel = M) := hM
  rw [hM]
  clear hM hP hsh hx
  go_enter Tryz.func16, Tryz.ntmps16
  go_wp2_with fail
  refine Calls.mono HR.out ?_
  rintro e w1 ⟨hr, hb⟩
  rcases hr with ⟨hno, rfl⟩ | ⟨hok, rfl, l, hwk⟩
  · obtain rfl : M = (0, 3) := HM.out.symm.trans (meant_no hno).1
    clear hno HM HR
    go_wp2
    go_ret2
    exact ⟨rfl, hb⟩
  · have hMe := HM.out.symm.trans (meant_yes hok).1
    obtain ⟨rr, hrr⟩ : ∃ rr, run10 ps nm fn xs fuel.toNat = rr := ⟨_, rfl⟩
    rw [hrr] at hwk hMe ⊢
    obtain ⟨rv, rf, rc⟩ := rr
    simp only at hwk hMe
    subst hMe
    have s2 := hwk.c2
    clear hok HM HR hwk hrr
    go_wp2_with fail
    go_quiet (fail)
    go_wp2
    go_ret2
    exact ⟨rfl, hb.trans ⟨rfl, rfl, rfl, Nat.le_refl _, fun _ _ => rfl⟩⟩

set_option maxHeartbeats 4000000 in
set_option maxRecDepth 100000 in
theorem specBurnt (a : Option Addr) (len cap : Nat) (ps : List Pk) (nm fn : List UInt8) (aa : Option Addr) (ac : Nat) (xs : List Int) (fuel : Int) (w : World) (hP : PkgsIn w a len ps) (hlen : len ≤ 1048576) (hsh : ShortPs ps) (hx : AsIn w aa xs) (hxl : xs.length ≤ 1048576) :
    Calls Tryz.prog 17 #[.slice a len cap, .string ⟨nm.toArray⟩, .string ⟨fn.toArray⟩, .slice aa xs.length ac, .int .i64 fuel] w fun e w' => e = .returned (.int .i64 (burntV ps nm fn xs fuel)) ∧ Below w.heap.size w w' := by
  have HR : Hid (_) := specRun a len cap ps nm fn aa ac xs fuel w hP hlen hsh hx hxl
  obtain ⟨M, hM⟩ : ∃ M, burntV ps nm fn xs fuel = M := ⟨_, rfl⟩
  have HM : Hid (burntV ps nm fn xs fuel = M) := hM
  rw [hM]
  clear hM hP hsh hx
  go_enter Tryz.func17, Tryz.ntmps17
  go_wp2_with fail
  refine Calls.mono HR.out ?_
  rintro e w1 ⟨hr, hb⟩
  rcases hr with ⟨hno, rfl⟩ | ⟨hok, rfl, l, hwk⟩
  · obtain rfl : M = -1 := HM.out.symm.trans (meant_no hno).2
    clear hno HM HR
    go_wp2
    go_ret
    exact ⟨rfl, hb⟩
  · have hle := (Sk10.val ps 20001 (fnOf10 ps nm fn).2.2 0 xs).less (fuel.toNat, 0)
    have hrr0 : run10 ps nm fn xs fuel.toNat = val10 ps 20001 (fnOf10 ps nm fn).2.2 0 xs (fuel.toNat, 0) := rfl
    rw [← hrr0] at hle
    have hf0 := hok.fuel0
    have hf1 := hok.fuel1
    have hMe : M = fuel - ((run10 ps nm fn xs fuel.toNat).2.1 : Int) := HM.out.symm.trans (meant_yes hok).2
    obtain ⟨rr, hrr⟩ : ∃ rr, run10 ps nm fn xs fuel.toNat = rr := ⟨_, rfl⟩
    rw [hrr] at hwk hle hMe ⊢
    obtain ⟨rv, rf, rc⟩ := rr
    simp only at hwk hle hMe
    have s1 := hwk.c1
    have hlo : -9223372036854775808 ≤ fuel - (rf : Int) := by omega
    have hhi : fuel - (rf : Int) ≤ 9223372036854775807 := by omega
    subst hMe
    clear hok HM HR hwk hrr hrr0
    go_wp2
    go_ret
    exact ⟨by first | rfl | (simp; done), hb⟩

end Go.Proofs.YtkjojhkpoooimaaGreat

/-! Numbers that came in, as the walks of chapter 10's laws take them; the exact laws' helper over such rows: toInt64S. -/
namespace Go.Proofs.YtkjojhkpoooimaaGreat
open Go.ChangeShapes Go.WideShapes Go.ChangeAt Go.RowKit

theorem info2 : (Tryz.prog.info? 2).map (fun i => (i.zero, i.size, i.bytes)) = some (some (.int .i64 0), 1, 8) := by kernel_rfl

/-- A row of numbers that a call owns is one that can be handed on. -/
theorem nums_as {w : World} {B g n cp : Nat} {xs : List Int} (h : w.ownsRow B 2 1 (.slice (some ⟨g, 0, none⟩) n cp) n (intsV xs)) (hn : xs.length = n) : AsIn w (some ⟨g, 0, none⟩) xs := fun j hj => by
  have hc := h.cellAt j (by omega)
  rw [intsV_at xs j hj] at hc
  refine ⟨g, 0, rfl, World.block_lt_of_cell? w ⟨g, j, none⟩ hc, ?_⟩
  rw [Nat.zero_add, hc]
  simp [List.getD, hj]


end Go.Proofs.YtkjojhkpoooimaaGreat

/-! A code that came in, as the laws' walks take it. -/
namespace Go.Proofs.YtkjojhkpoooimaaGreat
open Go.RowKit

theorem code_nil (w : World) : Code w w.heap.size none 0 := fun j hj => by omega

theorem code_of (w : World) (x : Addr) (len : Nat) (zs : List Int) (h : ∀ i, i < zs.length → w.cell? (x.add i) = some (.int .u8 (zs.getD i 0))) (hl : len ≤ zs.length) (hw : ∀ n ∈ zs, (Lit.int .u8 n).wf = true) : Code w w.heap.size (some x) len := by
  intro j hj
  obtain ⟨b, off, spot⟩ := x
  have hc := h j (by omega)
  have hspot : spot = none := by simpa [Addr.add] using World.cell?_spot (h 0 (by omega))
  subst hspot
  have e : (⟨b, off, none⟩ : Addr).add j = ⟨b, off + j, none⟩ := by unfold Addr.add; split <;> simp_all
  rw [e] at hc
  have hb := bounds_u8 (hw (zs.getD j 0) (by rw [List.getD_eq_getElem?_getD, List.getElem?_eq_getElem (by omega)]; exact List.getElem_mem _))
  exact ⟨b, off, _, rfl, World.block_lt_of_cell? w ⟨b, off + j, none⟩ hc, hc, hb⟩

theorem Code.later {w w' : World} {a : Option Addr} {len : Nat} (h : Code w w.heap.size a len) (hb : Below w.heap.size w w') : Code w' w'.heap.size a len := by
  intro j hj
  obtain ⟨b, off, x, e1, e2, e3, e0⟩ := h j hj
  exact ⟨b, off, x, e1, Nat.lt_of_lt_of_le e2 hb.size, (hb.cell (p := ⟨b, off + j, none⟩) e2).trans e3, e0⟩

theorem Code.kept {w w' : World} {a : Option Addr} {len : Nat} (h : Code w w.heap.size a len) (hg : w.grownBy w' none) : Code w' w'.heap.size a len :=
  h.later ⟨hg.os, hg.tape, hg.output, hg.size, fun k hk => hg.block k hk (by simp)⟩

set_option maxHeartbeats 400000 in
set_option maxRecDepth 100000 in
theorem bigB (w : World) (a : Option Addr) (len cap : Nat) :
    Calls Tryz.prog 4 #[.slice a len cap] w fun e w' => e = .returned (.bool (decide (4096 < (len : Int)))) ∧ w' = w := by
  go_enter Tryz.func4, Tryz.ntmps4
  go_wp2
  go_ret
  exact ⟨rfl, rfl⟩

end Go.Proofs.YtkjojhkpoooimaaGreat

/-! l8Draw. -/
namespace Go.Proofs.YtkjojhkpoooimaaGreat
open Go.RowKit

theorem D8.start {w w1 : World} {B : Nat} {a : Option Addr} {len cap : Nat} (hc : Cur w B a len cap) (hc1 : Cur w1 B a len cap) (hg : (w.alloc (.cells #[.string ⟨#[97]⟩, .string ⟨#[98]⟩, .string ⟨#[99]⟩] 9)).grownBy w1 (some B)) :
    D8 ((w1.alloc (.cells #[] 30)).alloc (.cells #[] 46)) w B a len cap w.heap.size (w1.heap.size + 2) (some ⟨w1.heap.size, 0, none⟩) 0 [] (.slice (some ⟨w1.heap.size + 1, 0, none⟩) 0 0) [] := by
  have hB := hc.lt
  have hs1 := hg.size
  rw [World.size_alloc] at hs1
  have hn0 := World.ownsRow_lit (base := w.heap.size) (e := 9) (size := 1) w #[.string ⟨#[97]⟩, .string ⟨#[98]⟩, .string ⟨#[99]⟩] 3 (Nat.le_refl _) (by decide) rfl
  have hn1 := own_grown hn0 hg (fun k e => by injection e with e; omega)
  have hb : Below w1.heap.size w1 ((w1.alloc (.cells #[] 30)).alloc (.cells #[] 46)) := ((Below.refl _ _).alloc (Nat.le_refl _) _).alloc (by simp) _
  have hr := (World.ownsRow_lit (base := w.heap.size) (e := 30) (size := 3) w1 #[] 0 (by omega) (by decide) rfl).alloc (.cells #[] 46)
  have hl := World.ownsRow_lit (base := w.heap.size) (e := 46) (size := 4) (w1.alloc (.cells #[] 30)) #[] 0 (by simp; omega) (by decide) rfl
  rw [World.size_alloc] at hl
  refine ⟨own_below hn1 hb, hr, hl, fun y hy => (by cases hy), List.Pairwise.nil, by omega, fun k e => ?_, fun k e => ⟨?_, fun y hy => (by cases hy)⟩, ⟨fun n hn => (by cases hn), fun n hn => (by cases hn)⟩, hc1.below hb, ?_, hB, by omega, by simp⟩
  · simp [Value.ownBlock] at e; omega
  · simp [Value.ownBlock] at e; omega
  · exact (((World.grownBy_alloc w _ (some B)).trans hg).trans (World.grownBy_alloc w1 _ (some B))).trans (World.grownBy_alloc _ _ (some B))
theorem D8.drew {X w : World} {B : Nat} {a : Option Addr} {len cap N L : Nat} {la : Option Addr} {lc : Nat} {ys : List PV} {vc : Value} {cs : List Nd} (h : D8 X w B a len cap N L la lc ys vc cs) : D8 X.drew w B a len cap N L la lc ys vc cs := h.upper (grown_drew X none) (by simp)
theorem D8.name {X w : World} {B : Nat} {a : Option Addr} {len cap N L : Nat} {la : Option Addr} {lc : Nat} {ys : List PV} {vc : Value} {cs : List Nd} (h : D8 X w B a len cap N L la lc ys vc cs) {k : Nat} (hk : k < 3) : ∃ x : List UInt8, x.length ≤ 9 ∧ X.cell? ⟨N, k, none⟩ = some (.string ⟨x.toArray⟩) := by
  refine ⟨_, ?_, str_cellsD h.nms rfl k hk⟩
  match k, hk with
  | 0, _ => simp
  | 1, _ => simp
  | 2, _ => simp
theorem own_nodes0 {w : World} {base n : Nat} {v : Value} {ns : List Nd} (h : w.ownsRow base 46 4 v n (nodesV ns)) : ∃ a c, v = .slice a n c ∧ (a = none → c = 0) ∧ NodesIn w a n ns := by
  obtain ⟨_, a, c, rfl, hin⟩ := own_nodes h
  refine ⟨a, c, rfl, fun e => ?_, hin⟩
  rcases own_forms h with ⟨e1, _, _⟩ | ⟨g, cp, e1⟩
  · injection e1
  · injection e1 with e1; rw [e] at e1; cases e1

/-- The package that l7Draw has drawn. -/
theorem pv8_mk {X Y : World} {H B : Nat} {nm : List UInt8} {ia fa : Option Addr} {ic fc : Nat} {ims : List (List UInt8)} {xs : List FV} {vo : Value} {os : List Nd} (hI : I8 X H (.slice ia ims.length ic) ims vo os) (hg : X.grownBy Y (some B)) (hB : B < H) (hH : H ≤ X.heap.size) (hf : FnsOwn Y X.heap.size (.slice fa xs.length fc) xs) (hn : 1 ≤ xs.length ∧ xs.length ≤ 3) (hx : DrawnXs xs) (hnm : nm.length ≤ 9) (hil : ims.length ≤ 8) :
    Pv8 Y ⟨nm, ims, xs, ia, ic, fa, fc, H, Y.heap.size⟩ := by
  have him := own_grown hI.im hg (fun k e => by injection e with e; omega)
  have hfo := hf.base hH
  refine ⟨⟨him, hfo, fun k hk => ?_⟩, hx, hn, hnm, ⟨hil, hI.is⟩, by obtain ⟨g, c, e⟩ := hI.so; injection e with e; exact ⟨g, e⟩⟩
  rcases hk with e | e | ⟨x, hx, e⟩
  · exact (him.lt k e).2
  · exact (hfo.row.lt k e).2
  · exact ((hfo.trees x hx).lt k e).2

/-- What the loop over the functions of a new package holds. -/
structure E8 (X w : World) (B : Nat) (a : Option Addr) (len cap N : Nat) (la : Option Addr) (lc : Nat) (ys : List PV) (vc : Value) (cs : List Nd) (y : PV) (P : Nat) : Prop where
  d : ∃ L, D8 X w B a len cap N L la lc ys vc cs
  y8 : Pv8 X y
  lo : w.heap.size ≤ y.lo ∧ ∀ z ∈ ys, z.hi ≤ y.lo
  hi : y.hi ≤ P
  off : ∀ k, vc.ownBlock = some k → k ≠ P ∧ (k < y.lo ∨ y.hi ≤ k)
  box : Box3 X P (.string ⟨y.nm.toArray⟩) (pvI y) (pvF y)
theorem E8.drew {X w : World} {B : Nat} {a : Option Addr} {len cap N : Nat} {la : Option Addr} {lc : Nat} {ys : List PV} {vc : Value} {cs : List Nd} {y : PV} {P : Nat} (h : E8 X w B a len cap N la lc ys vc cs y P) : E8 X.drew w B a len cap N la lc ys vc cs y P := by
  obtain ⟨L, d⟩ := h.d
  exact ⟨⟨L, d.drew⟩, ⟨h.y8.ok.wrote (S := fun _ => False) (Wrote.of_grown (grown_drew X none) (by simp)) (fun _ e => e.elim), h.y8.sm, h.y8.n, h.y8.nm, h.y8.im, h.y8.sa⟩, h.lo, h.hi, h.off, h.box.drew⟩
theorem E8.call {X w : World} {B : Nat} {a : Option Addr} {len cap N : Nat} {la : Option Addr} {lc : Nat} {ys : List PV} {vc : Value} {cs : List Nd} {y : PV} {P : Nat} (h : E8 X w B a len cap N la lc ys vc cs y P) (n : Nd) (hn : SmallN n) (hk : kidsV n ≤ 3) (hc : cs.length ≤ 1000) :
    ∃ v' Y, (Builtin.append_ #[24, 24] 24 #[vc, .slice (some ⟨X.heap.size, 0, none⟩) 1 1]).run Tryz.prog (X.alloc (.cells #[.int .i64 n.1, .int .i64 n.2.1, .string ⟨n.2.2.1.toArray⟩, .string ⟨n.2.2.2.toArray⟩] 46)) = .ok v' Y ∧ E8 Y w B a len cap N la lc ys v' (cs ++ [n]) y P := by
  obtain ⟨L, d⟩ := h.d
  obtain ⟨v', Y, hrun, hd, hg, hat⟩ := d.call n hn hk hc
  have hP := h.box.lt
  have hhi := h.hi
  refine ⟨v', Y, hrun, ⟨_, hd⟩, ⟨h.y8.ok.wrote (S := fun k => vc.ownBlock = some k) (Wrote.of_grown hg (fun k e => e)) (fun k e => (h.off k e).2), h.y8.sm, h.y8.n, h.y8.nm, h.y8.im, h.y8.sa⟩, h.lo, h.hi, fun k e => ?_, h.box.grown hg (fun e => (h.off P e.symm).1 rfl)⟩
  rcases hat with e2 | e2
  · exact h.off k (by rw [← e2]; exact e)
  · rw [e2] at e
    injection e with e
    exact ⟨by omega, Or.inr (by omega)⟩
theorem E8.push {X w : World} {B : Nat} {a : Option Addr} {len cap N : Nat} {la : Option Addr} {lc : Nat} {ys : List PV} {vc : Value} {cs : List Nd} {y : PV} {P : Nat} (h : E8 X w B a len cap N la lc ys vc cs y P) (hn : ys.length ≤ 8) :
    ∃ g' c' Y L, (Builtin.append_ #[37, 37] 37 #[.slice la ys.length lc, .slice (some ⟨X.heap.size, 0, none⟩) 1 1]).run Tryz.prog (X.alloc (.cells #[.string ⟨y.nm.toArray⟩, pvI y, pvF y] 30)) = .ok (.slice (some ⟨g', 0, none⟩) (ys.length + 1) c') Y ∧
      D8 Y w B a len cap N L (some ⟨g', 0, none⟩) c' (ys ++ [y]) vc cs := by
  obtain ⟨L, d⟩ := h.d
  have hP := h.box.lt
  have hhi := h.hi
  obtain ⟨g', c', Y, hrun, hd⟩ := d.push y h.y8 h.lo.1 h.lo.2 (by omega) hn (fun k e => (h.off k e).2)
  exact ⟨g', c', Y, _, hrun, hd⟩
/-- The box of the new package. -/
theorem E8.start {X Y Z w : World} {B : Nat} {a : Option Addr} {len cap N H : Nat} {la : Option Addr} {lc : Nat} {ys : List PV} {vc : Value} {cs : List Nd} {nm : List UInt8} {ia fa : Option Addr} {ic fc : Nat} {ims : List (List UInt8)} {xs : List FV} {vo : Value} {os : List Nd} (hd : D8 X w B a len cap N H la lc ys vc cs) (hI : I8 X H (.slice ia ims.length ic) ims vo os) (hg : X.grownBy Y (some B)) (hcu : Cur Y B a len cap) (hf : FnsOwn Y X.heap.size (.slice fa xs.length fc) xs) (hn : 1 ≤ xs.length ∧ xs.length ≤ 3) (hx : DrawnXs xs) (hnm : nm.length ≤ 9) (hil : ims.length ≤ 8)
    (hZ : Below Y.heap.size Y Z) (hbx : Box3 Z Y.heap.size (.string ⟨nm.toArray⟩) (.slice ia ims.length ic) (.slice fa xs.length fc)) : E8 Z w B a len cap N la lc ys vc cs ⟨nm, ims, xs, ia, ic, fa, fc, H, Y.heap.size⟩ Y.heap.size := by
  have hy := pv8_mk (nm := nm) hI hg (by have := hd.br; have := hd.wl; omega) hd.ls hf hn hx hnm hil
  have hls := hd.ls
  have hgs := hg.size
  refine ⟨⟨H, (hd.next hg hcu).below hZ⟩, ⟨hy.ok.below hZ, hy.sm, hy.n, hy.nm, hy.im, hy.sa⟩, ⟨hd.wl, fun z hz => (hd.each z hz).2.2⟩, Nat.le_refl _, fun k e => ?_, hbx⟩
  have := (hd.cl k e).1
  exact ⟨by omega, Or.inl this⟩
theorem E8.fn {X w : World} {B : Nat} {a : Option Addr} {len cap N : Nat} {la : Option Addr} {lc : Nat} {ys : List PV} {vc : Value} {cs : List Nd} {y : PV} {P : Nat} (h : E8 X w B a len cap N la lc ys vc cs y P) {g : Nat} (hg : y.fa = some ⟨g, 0, none⟩) {j : Nat} (hj : j < y.xs.length) :
    ∃ (s : List UInt8) (z : Int), X.cell? ⟨g, j * 3, none⟩ = some (.string ⟨s.toArray⟩) ∧ X.cell? ⟨g, j * 3 + 1, none⟩ = some (.int .i64 z) ∧ s.length ≤ 9 ∧ 0 ≤ z ∧ z ≤ 3 := by
  have hr := h.y8.ok.fo.row
  unfold pvF at hr
  rw [hg] at hr
  have hm : y.xs.getD j fv0 ∈ y.xs := by simp [List.getD, hj]
  obtain ⟨h1, h2, h3⟩ := h.y8.sm _ hm
  exact ⟨_, _, (World.ownsRow.cellAt hr (j * 3) (by omega)).trans (fnsV_at y.xs j hj).1, (World.ownsRow.cellAt hr (j * 3 + 1) (by omega)).trans (fnsV_at y.xs j hj).2.1, h1.1, h2, h3⟩
theorem I8.start (W : World) : I8 ((W.alloc (.cells #[] 9)).alloc (.cells #[] 46)) W.heap.size (.slice (some ⟨W.heap.size, 0, none⟩) 0 0) [] (.slice (some ⟨W.heap.size + 1, 0, none⟩) 0 0) [] := by
  have hl := World.ownsRow_lit (base := W.heap.size) (e := 46) (size := 4) (W.alloc (.cells #[] 9)) #[] 0 (by simp) (by decide) rfl
  rw [World.size_alloc] at hl
  exact ⟨(World.ownsRow_lit (base := W.heap.size) (e := 9) (size := 1) W #[] 0 (Nat.le_refl _) (by decide) rfl).alloc _, hl, fun t ht => (by cases ht), ⟨fun n hn => (by cases hn), fun n hn => (by cases hn)⟩, ⟨_, _, rfl⟩⟩
end Go.Proofs.YtkjojhkpoooimaaGreat
