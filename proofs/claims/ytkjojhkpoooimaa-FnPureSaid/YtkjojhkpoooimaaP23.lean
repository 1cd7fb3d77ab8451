/-
  Parts of one proof, one behind the other: MeanS7, MeanS8, Codes.
-/
import Derived.Test.YtkjojhkpoooimaaP22
import Derived.Test.YtkjojhkpoooimaaP21
import Derived.Test.YtkjojhkpoooimaaP1
import Derived.Laws.StructEq
import Derived.Test.YtkjojhkpoooimaaP2

/-! The contracts of chapter 10's specification: Meant and Burnt. -/
namespace Go.Proofs.Ytkjojhkpoooimaa
open Go.RowKit

theorem fault_ne (c : Int) (p g : List UInt8) (w : World) : (binOp .neq 98 (.agg #[.int .i64 c, .string ⟨p.toArray⟩, .string ⟨g.toArray⟩]) (.agg #[.int .i64 0, .string ⟨#[]⟩, .string ⟨#[]⟩])).run Try.prog w = .ok (.bool (decide (¬ (c = 0 ∧ p = [] ∧ g = [])))) w := by
  rw [run_neq_struct]
  simp [go_sem]
  by_cases h1 : c = 0
  · by_cases h2 : p = []
    · by_cases h3 : g = []
      · simp [h1, h2, h3]
      · simp [h1, h2, h3]
    · simp [h1, h2]
  · simp [h1]

/-- Numbers that can be read. -/
def AsIn (w : World) (a : Option Addr) (xs : List Int) : Prop := ∀ j, j < xs.length → ∃ b off, a = some ⟨b, off, none⟩ ∧ b < w.heap.size ∧ w.cell? ⟨b, off + j, none⟩ = some (.int .i64 (xs.getD j 0))
theorem AsIn.below {w w' : World} {a : Option Addr} {xs : List Int} (h : AsIn w a xs) (hb : Below w.heap.size w w') : AsIn w' a xs := fun j hj => by
  obtain ⟨b, off, e, hl, hc⟩ := h j hj
  exact ⟨b, off, e, Nat.lt_of_lt_of_le hl hb.size, (hb.cell (p := ⟨b, off + j, none⟩) hl).trans hc⟩
theorem AsIn.off {w w' : World} {a : Option Addr} {xs : List Int} (h : AsIn w a xs) (hb : Below w.heap.size w w') {W : Nat} (hW : w.heap.size ≤ W) : As w' W a xs := fun j hj => by
  obtain ⟨b, off, e, hl, hc⟩ := h j hj
  exact ⟨b, off, e, by omega, Nat.lt_of_lt_of_le hl hb.size, (hb.cell (p := ⟨b, off + j, none⟩) hl).trans hc⟩
/-- What l10Run hands back. -/
def Run10 (w Z : World) (ps : List Pk) (nm fn : List UInt8) (xs : List Int) (fuel : Int) (e : Ending) : Prop :=
  (¬ Ok10 ps nm fn xs fuel ∧ e = .returned (.tuple #[.int .i64 0, .pointer (some ⟨w.heap.size, 0, none⟩), .bool false])) ∨
  (Ok10 ps nm fn xs fuel ∧ e = .returned (.tuple #[.int .i64 (run10 ps nm fn xs fuel.toNat).1, .pointer (some ⟨w.heap.size, 0, none⟩), .bool true]) ∧ ∃ l, Wk Z w.heap.size l (run10 ps nm fn xs fuel.toNat).2.1 (run10 ps nm fn xs fuel.toNat).2.2)

set_option maxHeartbeats 8000000 in
set_option maxRecDepth 100000 in
theorem specRun (a : Option Addr) (len cap : Nat) (ps : List Pk) (nm fn : List UInt8) (aa : Option Addr) (ac : Nat) (xs : List Int) (fuel : Int) (w : World) (hP : PkgsIn w a len ps) (hlen : len ≤ 1048576) (hsh : ShortPs ps) (hx : AsIn w aa xs) (hxl : xs.length ≤ 1048576) :
    Calls Try.prog 36 #[.slice a len cap, .string ⟨nm.toArray⟩, .string ⟨fn.toArray⟩, .slice aa xs.length ac, .int .i64 fuel] w fun e w' => Run10 w w' ps nm fn xs fuel e ∧ Below w.heap.size w w' := by
  obtain rfl : ps.length = len := hP.1
  obtain ⟨bx, hb0⟩ := Box3.new w (.slice a ps.length cap) (.int .i64 fuel) (.int .i64 0) 66
  obtain ⟨W0, hW0⟩ : ∃ W0, w.alloc (.cells #[.slice a ps.length cap, .int .i64 fuel, .int .i64 0] 66) = W0 := ⟨_, rfl⟩
  have hfr : ∀ j, W0.frozen? ⟨w.heap.size, j, none⟩ = false := fun j => by rw [← hW0]; exact World.frozen?_alloc_at _ _ _ _ rfl
  rw [hW0] at bx hb0
  obtain ⟨D, hD⟩ : ∃ D, w.heap.size = D := ⟨_, rfl⟩
  rw [hD] at bx hfr
  have hDl : D < W0.heap.size := bx.lt
  have HF : Hid (_) := specFaultOf a ps.length cap ps W0 (hP.below hb0) hlen hsh
  obtain ⟨F, hFe⟩ : ∃ F, faultV ps = F := ⟨_, rfl⟩
  have HFe : Hid (faultV ps = F) := hFe
  rw [hFe] at HF
  obtain ⟨fc, fp, fg⟩ := F
  unfold fltVal at HF
  simp only at HF
  have HNe : Hid (_) := fault_ne fc fp fg
  have HZ : Hid (∀ Z, Below W0.heap.size W0 Z → (Box3 Z D (.slice a ps.length cap) (.int .i64 fuel) (.int .i64 0) ∧ ∀ j, Z.frozen? ⟨D, j, none⟩ = false) ∧ PkgsIn Z a ps.length ps ∧ AsIn Z aa xs ∧ Below D w Z) := fun Z hz => ⟨⟨bx.below hz, fun j => (hz.frozen (p := ⟨D, j, none⟩) hDl).trans (hfr j)⟩, (hP.below hb0).below hz, (hx.below hb0).below hz, by rw [← hD]; exact hb0.trans (hz.mono hb0.size)⟩
  have HA8 : Hid (∀ Y, Below W0.heap.size W0 Y → Calls Try.prog 72 #[.slice a ps.length cap, .string ⟨nm.toArray⟩] Y fun e w' => e = .returned (.int .i64 (at8 ps nm)) ∧ w' = Y) := fun Y hy => specAt8 a ps.length cap ps nm Y ((hP.below hb0).below hy) hlen
  have hb00 : Below D w W0 := by rw [← hD]; exact hb0
  have HPw : Hid (PkgsIn w a ps.length ps) := hP
  have HXw : Hid (AsIn w aa xs) := hx
  clear bx hfr hb0 hP hx hb00
  go_enter Try.func36, Try.ntmps36
  go_wp2_with fail
  refine Calls.mono HF.out ?_
  rintro e w1 ⟨rfl, hb1⟩
  clear HF
  have hne := HNe.out w1
  clear HNe
  by_cases hz : fc = 0 ∧ fp = [] ∧ fg = []
  rotate_left
  · rw [decide_eq_true hz] at hne
    have HNo : Hid (¬ Ok10 ps nm fn xs fuel) := fun h => hz (by have e := HFe.out.symm.trans h.flt; simp only [Prod.mk.injEq] at e; exact e)
    have HBW : Hid (Below D w w1) := (HZ.out w1 hb1).2.2.2
    have HNz : Hid (¬ (fc = 0 ∧ fp = [] ∧ fg = [])) := hz
    clear hz hb1
    go_wp2
    all_goals first
      | (refine bodyPost_ret (v := .tuple #[.int .i64 0, .pointer (some ⟨D, 0, none⟩), .bool false]) (by simp [results, Try.results36, go_sem]) rfl ?_; exact ⟨Or.inl ⟨HNo.out, by first | rfl | rw [hD]⟩, by first | exact HBW.out | (rw [hD]; exact HBW.out)⟩)
      | (exfalso; have h := HNz.out; simp_all; done)
  · rw [decide_eq_false (fun e => e hz)] at hne
    obtain ⟨rfl, rfl, rfl⟩ := hz
    have HC8 : Hid (_) := HA8.out w1 hb1
    rcases at8_is ps nm with ⟨e8, _⟩ | ⟨q, hq, e8, hnq, _⟩
    · rw [e8] at HC8
      have HNo : Hid (¬ Ok10 ps nm fn xs fuel) := fun h => by have := h.at8; omega
      have HBW : Hid (Below D w w1) := (HZ.out w1 hb1).2.2.2
      clear hb1
      go_wp2_with fail
      refine Calls.mono HC8.out ?_
      rintro e w2 ⟨rfl, hw2⟩
      obtain rfl := hw2.symm
      go_wp2
      refine bodyPost_ret (v := .tuple #[.int .i64 0, .pointer (some ⟨D, 0, none⟩), .bool false]) (by simp [results, Try.results36, go_sem]) rfl ?_
      exact ⟨Or.inl ⟨HNo.out, by first | rfl | rw [hD]⟩, by first | exact HBW.out | (rw [hD]; exact HBW.out)⟩
    · rw [e8] at HC8 HA8
      have hq0 : ¬ (q : Int) < 0 := by omega
      go_wp2_with fail
      refine Calls.mono HC8.out ?_
      rintro e w2 ⟨rfl, hw2⟩
      obtain rfl := hw2.symm
      clear HC8 hw2
      go_wp2_with fail
      refine Calls.mono (specIn fuel 0 20000 _) ?_
      rintro e w2 ⟨rfl, hw2⟩
      obtain rfl := hw2.symm
      clear hw2
      by_cases hfu : 0 ≤ fuel ∧ fuel ≤ 20000
      rotate_left
      · have hib : inB fuel 0 20000 = false := decide_eq_false hfu
        have HNo : Hid (¬ Ok10 ps nm fn xs fuel) := fun h => hfu ⟨h.fuel0, h.fuel1⟩
        have HBW : Hid (Below D w w1) := (HZ.out w1 hb1).2.2.2
        clear hb1
        rw [hib]
        go_wp2
        refine bodyPost_ret (v := .tuple #[.int .i64 0, .pointer (some ⟨D, 0, none⟩), .bool false]) (by simp [results, Try.results36, go_sem]) rfl ?_
        exact ⟨Or.inl ⟨HNo.out, by first | rfl | rw [hD]⟩, by first | exact HBW.out | (rw [hD]; exact HBW.out)⟩
      · have hib : inB fuel 0 20000 = true := decide_eq_true hfu
        rw [hib]
        clear hib hne
        obtain ⟨fN, rfl⟩ : ∃ n : Nat, fuel = (n : Int) := ⟨fuel.toNat, by omega⟩
        have hpq : pkOf ps nm = ps.getD q pk0 := by unfold pkOf; rw [e8, Int.toNat_natCast]
        obtain ⟨lb, lo, rfl, hlb, l0, ia, il, ic, fa, fl, fcp, l1, l2, _, hFB⟩ := HPw.out.2 q hq
        rw [← hpq] at l0 hFB
        have hsq := hsh q
        rw [← hpq] at hsq
        have hflN : (pkOf ps nm).2.2.length = fl := hFB.1
        have hfl2 : fl ≤ 1048576 := by rw [← hflN]; exact hsq.2.2.2.1
        have hBw1 : Below w.heap.size w w1 := by rw [hD]; exact (HZ.out w1 hb1).2.2.2
        replace l0 := (hBw1.cell (p := ⟨lb, lo + q * 3, none⟩) hlb).trans l0
        replace l1 := (hBw1.cell (p := ⟨lb, lo + q * 3 + 1, none⟩) hlb).trans l1
        replace l2 := (hBw1.cell (p := ⟨lb, lo + q * 3 + 2, none⟩) hlb).trans l2
        obtain ⟨nmq, hnmq⟩ : ∃ x, (pkOf ps nm).1 = x := ⟨_, rfl⟩
        obtain ⟨fsq, hfsq⟩ : ∃ x, (pkOf ps nm).2.2 = x := ⟨_, rfl⟩
        rw [hnmq] at l0
        have hq2 : (q : Int) < (ps.length : Int) := by omega
        have HC8 : Hid (_) := HA8.out w1 hb1
        obtain ⟨bE, hbE⟩ := Box3.new w1 (.string ⟨nmq.toArray⟩) (.slice ia il ic) (.slice fa fl fcp) 35
        obtain ⟨X1, hX1⟩ : ∃ X1, w1.alloc (.cells #[.string ⟨nmq.toArray⟩, .slice ia il ic, .slice fa fl fcp] 35) = X1 := ⟨_, rfl⟩
        obtain ⟨E, hE⟩ : ∃ E, w1.heap.size = E := ⟨_, rfl⟩
        rw [hX1] at bE hbE
        rw [hE] at bE
        have hDE : D < E := by rw [← hE]; exact Nat.lt_of_lt_of_le hDl hb1.size
        have hbX : Below W0.heap.size W0 X1 := hb1.trans (hbE.mono hb1.size)
        have HY : Hid (∀ Z, Below X1.heap.size X1 Z → Box3 Z E (.string ⟨nmq.toArray⟩) (.slice ia il ic) (.slice fa fl fcp) ∧ Below W0.heap.size W0 Z ∧ Below w.heap.size w Z) := fun Z hz => by
          have h1 := hbX.trans (hz.mono hbX.size)
          exact ⟨bE.below hz, h1, by rw [hD]; exact (HZ.out Z h1).2.2.2⟩
        have HA7 : Hid (_) := specAt nmq fn ia il ic fa fl fcp fsq X1 (by rw [← hfsq]; exact hFB.below (HY.out X1 (Below.refl _ _)).2.2) hfl2
        have e0 := bE.c0
        have e1 := bE.c1
        have e2 := bE.c2
        have HOk : Hid (∀ xs', xs' = xs → (Ok10 ps nm fn xs (fN : Int) → 0 ≤ atV fsq fn ∧ (xs.length : Int) = (fsq.getD (atV fsq fn).toNat fn0).2.1 ∧ ∀ x ∈ xs, Word10 x)) := fun _ _ h => by
          rw [← hfsq]; exact ⟨h.at7, h.len, h.word⟩
        clear bE hbE hbX
        go_wp2_with fail
        refine Calls.mono HC8.out ?_
        rintro e w2 ⟨rfl, hw2⟩
        obtain rfl := hw2.symm
        clear HC8 hw2
        go_wp2_with fail
        refine Calls.mono HA7.out ?_
        rintro e w3 ⟨rfl, hb3⟩
        obtain ⟨b3, hb03, hbw3⟩ := HY.out w3 hb3
        have f2 := b3.c2
        have HBW : Hid (Below D w w3) := by exact (by rw [← hD]; exact hbw3 : Below D w w3)
        clear HA7 e0 e1 e2 l0 l1 l2
        rcases at7_is fsq fn with e7 | ⟨kf, hkf, e7, _⟩
        · rw [e7]
          have HNo : Hid (¬ Ok10 ps nm fn xs (fN : Int)) := fun h => by have := (HOk.out xs rfl h).1; omega
          clear b3 hb03 hbw3 hb3
          go_wp2
          refine bodyPost_ret (v := .tuple #[.int .i64 0, .pointer (some ⟨D, 0, none⟩), .bool false]) (by simp [results, Try.results36, go_sem]) rfl ?_
          exact ⟨Or.inl ⟨HNo.out, by first | rfl | rw [hD]⟩, by first | exact HBW.out | (rw [hD]; exact HBW.out)⟩
        · rw [e7]
          obtain ⟨fb, fo, rfl, hfb, _, u1, ua, ul, uc, u2, _, hNB⟩ := hFB.2 kf (by rw [hfsq] at hflN; omega)
          rw [hfsq] at u1 hNB
          have v1 := (hbw3.cell (p := ⟨fb, fo + kf * 3 + 1, none⟩) hfb).trans u1
          have hk0 : ¬ (kf : Int) < 0 := by omega
          have hk2 : (kf : Int) < (fl : Int) := by rw [hfsq] at hflN; omega
          obtain ⟨ag, hag⟩ : ∃ ag, (fsq.getD kf fn0).2.1 = ag := ⟨_, rfl⟩
          rw [hag] at v1
          rw [e7, Int.toNat_natCast, hag] at HOk
          by_cases hal : (xs.length : Int) = ag
          rotate_left
          · have halb : ((xs.length : Int) != ag) = true := by rw [bne_iff_ne]; exact hal
            have HNo : Hid (¬ Ok10 ps nm fn xs (fN : Int)) := fun h => hal (HOk.out xs rfl h).2.1
            clear b3 hb03 hbw3 hb3 u1 u2 hNB
            go_wp2
            refine bodyPost_ret (v := .tuple #[.int .i64 0, .pointer (some ⟨D, 0, none⟩), .bool false]) (by simp [results, Try.results36, go_sem]) rfl ?_
            exact ⟨Or.inl ⟨HNo.out, by first | rfl | rw [hD]⟩, by first | exact HBW.out | (rw [hD]; exact HBW.out)⟩
          · have halb : ((xs.length : Int) != ag) = false := by rw [hal]; simp
            have hfo : fnOf10 ps nm fn = fsq.getD kf fn0 := by unfold fnOf10; rw [hfsq, e7, Int.toNat_natCast]
            have HAll : Hid ((∀ x ∈ xs, Word10 x) → Ok10 ps nm fn xs (fN : Int)) := fun h => ⟨HFe.out, by omega, by omega, by omega, by rw [hfsq, e7]; omega, by rw [hfo, hag]; exact hal, h⟩
            have HB0 : Hid (Below X1.heap.size X1 w3) := hb3
            have HU : Hid (_) := (show fb < w.heap.size ∧ w.cell? ⟨fb, fo + kf * 3 + 2, none⟩ = some (.slice ua ul uc) ∧ NodesIn w ua ul (fsq.getD kf fn0).2.2 from ⟨hfb, u2, hNB⟩)
            have HSq : Hid (ShortT (fsq.getD kf fn0).2.2 ∧ (fsq.getD kf fn0).2.2.length ≤ 1048576) := by
              have h := hsq.2.2.2.2 kf
              rw [hfsq] at h
              exact ⟨h.2.2, h.2.1⟩
            clear b3 hb03 hbw3 hb3 u1 u2 hNB HBW hal hag
            go_wp2
            go_loopw [16] (fun iv wx => ∃ i : Nat, iv = .int .i64 (i : Int) ∧ i ≤ xs.length ∧ Hid (∀ j, j < i → Word10 (xs.getD j 0)) ∧ Hid (Below X1.heap.size X1 wx)) (fun iv _ => xs.length - (intOf iv).toNat)
            case atStart => exact ⟨0, rfl, by omega, (fun j hj => absurd hj (Nat.not_lt_zero _)), HB0⟩
            case round =>
              obtain ⟨i, rfl, hi, HWs, HBr⟩ := hrel
              clear HB0 v1 f2
              obtain ⟨b3, hb03, hbw3⟩ := HY.out wr HBr.out
              have HBW : Hid (Below D w wr) := by exact (by rw [← hD]; exact hbw3 : Below D w wr)
              by_cases hlt : (i : Int) < (xs.length : Int)
              · have hi2 : i < xs.length := by omega
                obtain ⟨ba, oa, rfl, hba, hca⟩ := (HXw.out.below hbw3) i hi2
                have hmem : xs.getD i 0 ∈ xs := by simp [List.getD, hi2]
                have HNx : Hid (Word10 (xs.getD i 0) → ∀ j, j < i + 1 → Word10 (xs.getD j 0)) := fun h j hj => by
                  rcases Nat.lt_or_ge j i with h1 | h1
                  · exact HWs.out j h1
                  · obtain rfl : j = i := by omega
                    exact h
                generalize xs.getD i 0 = xv at hca hmem HNx
                have HC : Hid (_) := specWordOk xv wr
                clear b3 hb03 hbw3
                by_cases hwd : Word10 xv
                · have hib : inB xv (-2147483648) 2147483647 = true := decide_eq_true hwd
                  rw [hib] at HC
                  have HW2 : Hid (_) := HNx.out hwd
                  clear hib hwd HNx hmem
                  go_wp2_with fail
                  refine Calls.mono HC.out ?_
                  rintro e w4 ⟨rfl, hw4⟩
                  obtain rfl := hw4.symm
                  go_wp2
                  go_roundw
                  case rel => exact ⟨i + 1, by go_num, by omega, HW2, HBr⟩
                  case measure => simp [intOf]; omega
                · have hib : inB xv (-2147483648) 2147483647 = false := decide_eq_false hwd
                  rw [hib] at HC
                  have HNo : Hid (¬ Ok10 ps nm fn xs (fN : Int)) := fun h => hwd (h.word xv hmem)
                  clear hib hwd HNx hmem
                  go_wp2_with fail
                  refine Calls.mono HC.out ?_
                  rintro e w4 ⟨rfl, hw4⟩
                  obtain rfl := hw4.symm
                  go_wp2
                  refine bodyPost_ret (v := .tuple #[.int .i64 0, .pointer (some ⟨D, 0, none⟩), .bool false]) (by simp [results, Try.results36, go_sem]) rfl ?_
                  exact ⟨Or.inl ⟨HNo.out, by first | rfl | rw [hD]⟩, by first | exact HBW.out | (rw [hD]; exact HBW.out)⟩
              · have hok : Ok10 ps nm fn xs (fN : Int) := HAll.out (fun x hx => by
                  obtain ⟨j, hj, e⟩ := List.mem_iff_getElem.1 hx
                  have h := HWs.out j (by omega)
                  simp only [List.getD, hj, List.getElem?_eq_getElem, Option.getD_some] at h
                  rw [e] at h
                  exact h)
                obtain ⟨hfb', u2', hNB'⟩ := HU.out
                obtain rfl : (fsq.getD kf fn0).2.2.length = ul := hNB'.1
                have u3 := (hbw3.cell (p := ⟨fb, fo + kf * 3 + 2, none⟩) hfb').trans u2'
                have f2 := b3.c2
                obtain ⟨⟨bW, frW⟩, _, _, _⟩ := HZ.out wr hb03
                have hwk : Wk wr D (.slice (some ⟨lb, lo, none⟩) ps.length cap) fN 0 := ⟨bW.c0, bW.c1, bW.c2, frW⟩
                have htr := tr_of hok.flt hok.at8 hok.at7
                rw [hfo] at htr
                have hV := (specVal w (some ⟨lb, lo, none⟩) cap ps D HPw.out hsh hlen hok.flt (by omega) 20001 (Nat.le_refl _)).at hbw3 (show fN < 20001 by have := hok.fuel1; omega) hwk hNB' htr HSq.out.1 HSq.out.2 (q := 0) (k := 0) rfl htr.root (HXw.out.off hbw3 (by omega)) (by rw [← hfo]; exact hok.len) hok.word uc ac
                have hrun : val10 ps 20001 (fsq.getD kf fn0).2.2 0 xs (fN, 0) = run10 ps nm fn xs (fN : Int).toNat := by unfold run10; rw [Int.toNat_natCast, hfo]
                rw [hrun] at hV
                have hzr : (run10 ps nm fn xs (fN : Int).toNat).2.2 ≠ 0 → (run10 ps nm fn xs (fN : Int).toNat).1 = 0 := fun h => (Sk10.val ps 20001 _ 0 xs).zero _ h
                have HOk2 : Hid (Ok10 ps nm fn xs (fN : Int)) := hok
                obtain ⟨rr, hrr⟩ : ∃ rr, run10 ps nm fn xs (fN : Int).toNat = rr := ⟨_, rfl⟩
                have HRR : Hid (run10 ps nm fn xs (fN : Int).toNat = rr) := hrr
                rw [hrr] at hV hzr
                have HV : Hid (_) := hV
                have HZr : Hid (rr.2.2 ≠ 0 → rr.1 = 0) := hzr
                obtain ⟨rv, rf, rc⟩ := rr
                obtain ⟨tl8, htl8⟩ : ∃ n, (fsq.getD kf fn0).2.2.length = n := ⟨_, rfl⟩
                rw [htl8] at HV u3
                simp only at HV HZr
                clear hV hzr hrr hrun htr hwk bW frW hok hNB' u2' b3 hb03 HAll HU HSq HOk HWs htl8
                go_wp2_with fail
                refine Calls.mono HV.out ?_
                rintro e w4 ⟨rfl, hw4, hy4⟩
                have s2 := hw4.c2
                have HWk : Hid (_) := hw4
                have HB4 : Hid (Below D w w4) := by exact (by rw [← hD]; exact wr_base hbw3 (by omega) hy4 : Below D w w4)
                clear hw4 hy4 hbw3
                by_cases hrc : rc = 0
                · subst hrc
                  go_wp2
                  refine bodyPost_ret (v := .tuple #[.int .i64 rv, .pointer (some ⟨D, 0, none⟩), .bool true]) (by simp [results, Try.results36, go_sem]) rfl ?_
                  refine ⟨Or.inr ⟨HOk2.out, ?_, .slice (some ⟨lb, lo, none⟩) ps.length cap, ?_⟩, by rw [hD]; exact HB4.out⟩
                  · rw [HRR.out, hD]
                  · rw [HRR.out, hD]; exact HWk.out
                · have hrb : (rc != 0) = true := by rw [bne_iff_ne]; exact hrc
                  obtain rfl : rv = 0 := HZr.out hrc
                  go_wp2
                  refine bodyPost_ret (v := .tuple #[.int .i64 0, .pointer (some ⟨D, 0, none⟩), .bool true]) (by simp [results, Try.results36, go_sem]) rfl ?_
                  refine ⟨Or.inr ⟨HOk2.out, ?_, .slice (some ⟨lb, lo, none⟩) ps.length cap, ?_⟩, by rw [hD]; exact HB4.out⟩
                  · rw [HRR.out, hD]
                  · rw [HRR.out, hD]; exact HWk.out

end Go.Proofs.Ytkjojhkpoooimaa

/-! The contracts of chapter 10's specification: Meant and Burnt. -/
namespace Go.Proofs.Ytkjojhkpoooimaa
open Go.RowKit

set_option maxHeartbeats 4000000 in
set_option maxRecDepth 100000 in
theorem specMeant (a : Option Addr) (len cap : Nat) (ps : List Pk) (nm fn : List UInt8) (aa : Option Addr) (ac : Nat) (xs : List Int) (fuel : Int) (w : World) (hP : PkgsIn w a len ps) (hlen : len ≤ 1048576) (hsh : ShortPs ps) (hx : AsIn w aa xs) (hxl : xs.length ≤ 1048576) :
    Calls Try.prog 13 #[.slice a len cap, .string ⟨nm.toArray⟩, .string ⟨fn.toArray⟩, .slice aa xs.length ac, .int .i64 fuel] w fun e w' => e = .returned (.tuple #[.int .i64 (meantV ps nm fn xs fuel).1, .int .i64 (meantV ps nm fn xs fuel).2]) ∧ Below w.heap.size w w' := by
  have HR : Hid (_) := specRun a len cap ps nm fn aa ac xs fuel w hP hlen hsh hx hxl
  obtain ⟨M, hM⟩ : ∃ M, meantV ps nm fn xs fuel = M := ⟨_, rfl⟩
  have HM : Hid (meantV ps nm fn xs fuel = M) := hM
  rw [hM]
  clear hM hP hsh hx
  go_enter Try.func13, Try.ntmps13
  go_wp2_with fail
  refine Calls.mono HR.out ?_
  rintro e w1 ⟨hr, hb⟩
  rcases hr with ⟨hno, rfl⟩ | ⟨hok, rfl, l, hwk⟩
  · obtain rfl : M = (0, 3) := HM.out.symm.trans (meant_no hno).1
    clear hno HM HR
    go_wp2
    go_ret2
    exact ⟨rfl, hb⟩
  · have hMe := HM.out.symm.trans (meant_yes hok).1
    obtain ⟨rr, hrr⟩ : ∃ rr, run10 ps nm fn xs fuel.toNat = rr := ⟨_, rfl⟩
    rw [hrr] at hwk hMe ⊢
    obtain ⟨rv, rf, rc⟩ := rr
    simp only at hwk hMe
    subst hMe
    have s2 := hwk.c2
    clear hok HM HR hwk hrr
    go_wp2_with fail
    go_quiet (fail)
    go_wp2
    go_ret2
    exact ⟨rfl, hb.trans ⟨rfl, rfl, rfl, Nat.le_refl _, fun _ _ => rfl⟩⟩


end Go.Proofs.Ytkjojhkpoooimaa

/-! A code that came in, as the laws' walks take it. -/
namespace Go.Proofs.Ytkjojhkpoooimaa
open Go.RowKit

theorem code_nil (w : World) : Code w w.heap.size none 0 := fun j hj => by omega

theorem code_of (w : World) (x : Addr) (len : Nat) (zs : List Int) (h : ∀ i, i < zs.length → w.cell? (x.add i) = some (.int .u8 (zs.getD i 0))) (hl : len ≤ zs.length) (hw : ∀ n ∈ zs, (Lit.int .u8 n).wf = true) : Code w w.heap.size (some x) len := by
  intro j hj
  obtain ⟨b, off, spot⟩ := x
  have hc := h j (by omega)
  have hspot : spot = none := by simpa [Addr.add] using World.cell?_spot (h 0 (by omega))
  subst hspot
  have e : (⟨b, off, none⟩ : Addr).add j = ⟨b, off + j, none⟩ := by unfold Addr.add; split <;> simp_all
  rw [e] at hc
  have hb := bounds_u8 (hw (zs.getD j 0) (by rw [List.getD_eq_getElem?_getD, List.getElem?_eq_getElem (by omega)]; exact List.getElem_mem _))
  exact ⟨b, off, _, rfl, World.block_lt_of_cell? w ⟨b, off + j, none⟩ hc, hc, hb⟩

theorem Code.later {w w' : World} {a : Option Addr} {len : Nat} (h : Code w w.heap.size a len) (hb : Below w.heap.size w w') : Code w' w'.heap.size a len := by
  intro j hj
  obtain ⟨b, off, x, e1, e2, e3, e0⟩ := h j hj
  exact ⟨b, off, x, e1, Nat.lt_of_lt_of_le e2 hb.size, (hb.cell (p := ⟨b, off + j, none⟩) e2).trans e3, e0⟩

set_option maxHeartbeats 400000 in
set_option maxRecDepth 100000 in
theorem bigB (w : World) (a : Option Addr) (len cap : Nat) :
    Calls Try.prog 7 #[.slice a len cap] w fun e w' => e = .returned (.bool (decide (4096 < (len : Int)))) ∧ w' = w := by
  go_enter Try.func7, Try.ntmps7
  go_wp2
  go_ret
  exact ⟨rfl, rfl⟩

theorem code_some {w : World} {B : Nat} {a : Option Addr} {len : Nat} (h : Code w B a len) (hz : len ≠ 0) : ∃ b off, a = some ⟨b, off, none⟩ ∧ ∀ j, j < len → ∃ x : Int, w.cell? ⟨b, off + j, none⟩ = some (.int .u8 x) ∧ 0 ≤ x ∧ x ≤ 255 := by
  obtain ⟨b, off, x, rfl, _, _⟩ := h 0 (by omega)
  refine ⟨b, off, rfl, fun j hj => ?_⟩
  obtain ⟨b', off', x', e1, _, e3, e4⟩ := h j hj
  injection e1 with e1
  injection e1 with e5 e6
  subst e5 e6
  exact ⟨x', e3, e4⟩

set_option maxHeartbeats 1000000 in
set_option maxRecDepth 100000 in
theorem pickSome (w : World) (b off len cap : Nat) (seed n : Int) (hl : len ≤ 4096) (hs0 : 0 ≤ seed) (hs1 : seed ≤ 100) (hn : 0 < n) (hc : ∀ j, j < len → ∃ x : Int, w.cell? ⟨b, off + j, none⟩ = some (.int .u8 x) ∧ 0 ≤ x ∧ x ≤ 255) :
    Calls Try.prog 12 #[.slice (some ⟨b, off, none⟩) len cap, .int .i64 seed, .int .i64 n] w fun e w' => (∃ x : Int, e = .returned (.int .i64 x) ∧ 0 ≤ x ∧ x < n) ∧ w' = w := by
  have HC : Hid (∀ j, j < len → ∃ x : Int, w.cell? ⟨b, off + j, none⟩ = some (.int .u8 x) ∧ 0 ≤ x ∧ x ≤ 255) := hc
  have hz : (n == 0) = false := beq_eq_false_iff_ne.2 (by omega)
  clear hc
  go_enter Try.func12, Try.ntmps12
  go_wp2
  go_loop [7, 8] (fun h i => ∃ k : Nat, ∃ m : Int, k ≤ len ∧ i = .int .i64 k ∧ h = .int .i64 m ∧ 0 ≤ m ∧ m ≤ 2000000) (fun _ i => len - (intOf i).toNat)
  case atStart => exact ⟨0, _, Nat.zero_le _, rfl, rfl, by omega, by omega⟩
  case round =>
    obtain ⟨k, m, hk, rfl, rfl, hm0, hm1⟩ := hrel
    by_cases hlt : k < len
    · obtain ⟨x, cx, hx0, hx1⟩ := HC.out k hlt
      go_wp2
      go_round
      case rel => exact ⟨k + 1, _, by omega, by go_num, rfl, by omega, by omega⟩
      case measure => simp [intOf]; omega
    · go_wp2
      go_ret
      exact ⟨⟨_, rfl, Int.emod_nonneg _ (by omega), Int.emod_lt_of_pos _ hn⟩, rfl⟩

set_option maxHeartbeats 1000000 in
set_option maxRecDepth 100000 in
theorem pickNone (w : World) (a : Option Addr) (cap : Nat) (seed n : Int) (hs0 : 0 ≤ seed) (hs1 : seed ≤ 100) (hn : 0 < n) :
    Calls Try.prog 12 #[.slice a 0 cap, .int .i64 seed, .int .i64 n] w fun e w' => (∃ x : Int, e = .returned (.int .i64 x) ∧ 0 ≤ x ∧ x < n) ∧ w' = w := by
  have hz : (n == 0) = false := beq_eq_false_iff_ne.2 (by omega)
  go_enter Try.func12, Try.ntmps12
  go_wp2
  refine wp_loop_rounds 1 ?_
  rw [rounds_succ]
  go_wp2
  go_ret
  exact ⟨⟨_, rfl, Int.emod_nonneg _ (by omega), Int.emod_lt_of_pos _ hn⟩, rfl⟩

theorem pickB (w : World) (B : Nat) (a : Option Addr) (len cap : Nat) (seed n : Int) (hl : len ≤ 4096) (hs0 : 0 ≤ seed) (hs1 : seed ≤ 100) (hn : 0 < n) (hc : Code w B a len) :
    Calls Try.prog 12 #[.slice a len cap, .int .i64 seed, .int .i64 n] w fun e w' => (∃ x : Int, e = .returned (.int .i64 x) ∧ 0 ≤ x ∧ x < n) ∧ w' = w := by
  by_cases hz : len = 0
  · subst hz; exact pickNone w a cap seed n hs0 hs1 hn
  · obtain ⟨b, off, rfl, hcc⟩ := code_some hc hz
    exact pickSome w b off len cap seed n hl hs0 hs1 hn hcc

end Go.Proofs.Ytkjojhkpoooimaa
