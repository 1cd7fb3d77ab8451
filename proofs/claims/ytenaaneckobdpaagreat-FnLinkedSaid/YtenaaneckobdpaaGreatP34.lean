/-
  Parts of one proof, one behind the other: ImgB, ImpI, HasI, ObI.
-/
import Derived.Test.YtenaaneckobdpaaGreatP33
import Derived.Test.YtenaaneckobdpaaGreatP31
import Derived.Deep.RegionHeld3
import Derived.Test.YtenaaneckobdpaaGreatP3
import Derived.Test.YtenaaneckobdpaaGreatP2
import Derived.Test.YtenaaneckobdpaaGreatP25
import Derived.Test.YtenaaneckobdpaaGreatP16
namespace Go.Proofs.YtenaaneckobdpaaGreat
open Go.RowKit
set_option maxHeartbeats 2000000 in
set_option maxRecDepth 100000 in
theorem zfL (a : Option Addr) (len cap : Nat) (is : List In13) (n : Int) (w : World) (hin : zb4 w a len is) (hlen : len ≤ 1048576) :
 Calls Tryz.prog 117 #[.slice a len cap, .int .i64 n] w fun e w' => e = .returned (.bool (is.all (argB n))) ∧ Below w.heap.size w w' := by
 obtain rfl : is.length = len := hin.1
 have HI : Hid (zb4 w a is.length is) := hin
 have HAll : Hid ((∀ k, k < is.length → argB n (is.getD k in0) = true) → is.all (argB n) = true) := zia.2
 have HNo : Hid (∀ k, k < is.length → argB n (is.getD k in0) = false → is.all (argB n) = false) := fun k hk h => arg_noI hk h
 have HB0 : Hid (Below w.heap.size w w) := Below.refl _ w
 obtain ⟨m, hm⟩ : ∃ m, is.length = m := ⟨_, rfl⟩
 rw [hm] at HI HAll HNo hlen ⊢
 generalize is.all (argB n) = res at HAll HNo ⊢
 clear hin hm
 go_enter Tryz.func117, Tryz.ntmps117
 go_wp2
 go_loopw [9] (fun iv wr => ∃ k : Nat, iv = .int .i64 (k : Int) ∧ k ≤ m ∧ Hid (∀ j, j < k → argB n (is.getD j in0) = true) ∧ Hid (Below w.heap.size w wr)) (fun iv _ => m - (intOf iv).toNat)
 case atStart => exact ⟨0, rfl, Nat.zero_le _, (fun j hj => absurd hj (Nat.not_lt_zero _)), HB0⟩
 case round =>
  obtain ⟨k, rfl, hk, HA, HB⟩ := hrel
  clear HB0
  by_cases hlt : (k : Int) < (m : Int)
  ·
   obtain ⟨b, off, rfl, hbl, c0, c1, c2, c3, c4⟩ := (HI.out.below HB.out).2 k (by omega)
   have hno := HNo.out k (by omega)
   have hst : argB n (is.getD k in0) = true → ∀ j, j < k + 1 → argB n (is.getD j in0) = true := fun h j hj => by
    rcases Nat.lt_or_ge j k with g | g
    ·
     exact HA.out j g
    ·
     obtain rfl : j = k := by omega
     exact h
   obtain ⟨i, hi⟩ : ∃ i, is.getD k in0 = i := ⟨_, rfl⟩
   rw [hi] at c0 c1 c2 c3 c4 hno hst
   obtain ⟨ik, iR, iA, iB, inm⟩ := i
   simp only at c0 c1 c2 c3 c4
   have HB1 : Hid (Below w.heap.size w (wr.alloc (.cells #[.int .i64 ik, .int .i64 iR, .int .i64 iA, .int .i64 iB, .string ⟨inm.toArray⟩] 58))) := HB.out.alloc HB.out.size _
   unfold argB at hno hst
   simp only at hno hst
   by_cases h2 : ik = 2
   ·
    subst h2
    by_cases hA : n ≤ iA
    ·
     have HR : Hid (res = false) := hno (by simp [hA])
     clear hno hst hi
     go_wp2
     go_ret
     exact ⟨by rw [HR.out]; rfl, HB1.out⟩
    ·
     have HS : Hid (∀ j, j < k + 1 → argB n (is.getD j in0) = true) := by unfold argB; exact hst (by simp [hA])
     clear hno hst hi
     go_wp2
     go_roundw
     case rel => exact ⟨k + 1, by go_num, by omega, HS, HB1⟩
     case measure => simp [intOf]; omega
   ·
    have HS : Hid (∀ j, j < k + 1 → argB n (is.getD j in0) = true) := by unfold argB; exact hst (by simp [h2])
    clear hno hst hi
    go_wp2
    go_roundw
    case rel => exact ⟨k + 1, by go_num, by omega, HS, HB1⟩
    case measure => simp [intOf]; omega
  ·
   obtain rfl : k = m := by omega
   have HR : Hid (res = true) := HAll.out HA.out
   go_wp2
   go_ret
   exact ⟨by rw [HR.out]; rfl, HB.out⟩
set_option maxHeartbeats 2000000 in
set_option maxRecDepth 100000 in
theorem zfH (nm : List UInt8) (ar : Int) (cd : List In13) (ca : Option Addr) (cl cc : Nat) (w : World) (hin : zb4 w ca cl cd) (hint : zhx cd) (hsh : zcm cd) (hlen : cl ≤ 1048576) (hc : cl ≤ cc) (hm : cc ≤ maxLen) (hn : nm.length ≤ 1048576) :
 Calls Tryz.prog 87 #[.agg #[.string ⟨nm.toArray⟩, .int .i64 ar, .slice ca cl cc]] w fun e w' => e = .returned (.bool (rtB (nm, ar, cd))) ∧ Below w.heap.size w w' := by
 obtain ⟨W, hW⟩ : ∃ W, w.alloc (.cells #[.string ⟨nm.toArray⟩, .int .i64 ar, .slice ca cl cc] 41) = W := ⟨_, rfl⟩
 have hb : Below w.heap.size w W := by rw [← hW]; exact (Below.refl _ _).alloc (Nat.le_refl _) _
 have hsW : W.heap.size = w.heap.size + 1 := by rw [← hW]; simp
 have hR : W.heap[w.heap.size]? = some (.cells #[.string ⟨nm.toArray⟩, .int .i64 ar, .slice ca cl cc] 41) := by rw [← hW]; exact heap_alloc_new w _
 have HC1 : Hid (_) := zgr nm W hn
 have HC2 : Hid (∀ X, Below W.heap.size W X → _) := fun X (hX : Below W.heap.size W X) => ziC ca cl cc cd X ((hin.below hb).below hX) hint hsh hlen hc hm
 have HC3 : Hid (∀ X, Below W.heap.size W X → _) := fun X (hX : Below W.heap.size W X) => zfL ca cl cc cd ar X ((hin.below hb).below hX) hlen
 have HB : Hid (Below w.heap.size w W) := hb
 have HQ : Hid (rtB (nm, ar, cd) = ((zb3 nm && (inB ar 0 3 && zbP cd)) && cd.all (argB ar))) := rfl
 generalize rtB (nm, ar, cd) = res at HQ ⊢
 generalize zb3 nm = b1 at HC1 HQ
 generalize zbP cd = b2 at HC2 HQ
 generalize cd.all (argB ar) = b3 at HC3 HQ
 obtain ⟨D, hD⟩ : ∃ D, w.heap.size = D := ⟨_, rfl⟩
 rw [hD] at hR hsW HB ⊢
 obtain ⟨q0, _, _, _⟩ := zcG (Below.refl _ W) (by omega) hR
 clear hin hint hsh hb
 go_enter Tryz.func87, Tryz.ntmps87
 go_wp2_with fail
 refine Calls.mono HC1.out ?_
 rintro e w1 ⟨rfl, hb1⟩
 obtain ⟨r0, r1, r2, _⟩ := zcG hb1 (by omega) hR
 rcases b1 with _ | _
 ·
  have HR : Hid (res = false) := HQ.out
  go_wp2
  go_ret
  exact ⟨by rw [HR.out]; rfl, HB.out.trans (hb1.mono (by omega))⟩
 by_cases h0 : 0 ≤ ar
 ·
  by_cases h3 : ar ≤ 3
  ·
   go_wp2_with fail
   refine Calls.mono (HC2.out _ hb1) ?_
   rintro e w2 ⟨rfl, hb2⟩
   have hb12 := hb1.trans (hb2.mono hb1.size)
   obtain ⟨s0, s1, s2, _⟩ := zcG hb12 (by omega) hR
   rcases b2 with _ | _
   ·
    have HR : Hid (res = false) := by exact (by rw [HQ.out]; simp : res = false)
    go_wp2
    go_ret
    exact ⟨by rw [HR.out]; rfl, HB.out.trans (hb12.mono (by omega))⟩
   ·
    have HR : Hid (res = b3) := by exact (by rw [HQ.out]; unfold inB; simp [h0, h3] : res = b3)
    go_wp2_with fail
    refine Calls.mono (HC3.out _ hb12) ?_
    rintro e w3 ⟨rfl, hb3⟩
    have hb13 := hb12.trans (hb3.mono hb12.size)
    go_wp2
    go_ret
    exact ⟨by rw [HR.out]; rfl, HB.out.trans (hb13.mono (by omega))⟩
  ·
   have HR : Hid (res = false) := by exact (by rw [HQ.out]; unfold inB; simp [h3] : res = false)
   go_wp2
   go_ret
   exact ⟨by rw [HR.out]; rfl, HB.out.trans (hb1.mono (by omega))⟩
 ·
  have HR : Hid (res = false) := by exact (by rw [HQ.out]; unfold inB; simp [h0] : res = false)
  go_wp2
  go_ret
  exact ⟨by rw [HR.out]; rfl, HB.out.trans (hb1.mono (by omega))⟩
set_option maxHeartbeats 4000000 in
set_option maxRecDepth 100000 in
theorem zeQ (a : Option Addr) (len cap : Nat) (rs : List Rt) (most : Int) (w : World) (h : RtOk w a len cap rs) :
 Calls Tryz.prog 61 #[.slice a len cap, .int .i64 most] w fun e w' => e = .returned (.bool (rtsB rs most)) ∧ Below w.heap.size w w' := by
 obtain rfl : rs.length = len := h.c.1
 have HI : Hid (ze7 w a rs.length cap rs) := h.c
 have HInt : Hid (IntR rs) := h.i
 have HSh : Hid (zc0 rs) := h.s
 have hlen := h.l
 have HFew : Hid ((rs.length : Int) < 1 ∨ most < (rs.length : Int) → rtsB rs most = false) := rtsB_few
 have HNo : Hid (∀ k, k < rs.length → rtB (rs.getD k rt0) = false → rtsB rs most = false) := fun k hk e => RrSt.noOk hk e
 have HNr : Hid (∀ k z, k < rs.length → RrSt rs k z → rtB (rs.getD k rt0) = true → leT (rs.getD k rt0).1 z = true → rtsB rs most = false) := fun k z hk hs e1 e2 => hs.noRise hk e1 e2
 have HAll : Hid (∀ z, RrSt rs rs.length z → 1 ≤ (rs.length : Int) ∧ (rs.length : Int) ≤ most → rtsB rs most = true) := fun z hs hl => hs.all hl
 have HS0 : Hid (RrSt rs 0 []) := RrSt.start rs
 have HB0 : Hid (Below w.heap.size w w) := Below.refl _ w
 obtain ⟨n, hnn⟩ : ∃ n, rs.length = n := ⟨_, rfl⟩
 have HN : Hid (rs.length = n) := hnn
 rw [hnn] at HI HFew HNo HNr HAll hlen ⊢
 generalize rtsB rs most = res at HFew HNo HNr HAll ⊢
 clear h hnn
 by_cases h1 : (n : Int) < 1
 ·
  have HR : Hid (res = false) := HFew.out (Or.inl h1)
  go_enter Tryz.func61, Tryz.ntmps61
  go_wp2
  go_ret
  exact ⟨by rw [HR.out]; rfl, HB0.out⟩
 by_cases h2 : most < (n : Int)
 ·
  have HR : Hid (res = false) := HFew.out (Or.inr h2)
  go_enter Tryz.func61, Tryz.ntmps61
  go_wp2
  go_ret
  exact ⟨by rw [HR.out]; rfl, HB0.out⟩
 have HL : Hid (1 ≤ (n : Int) ∧ (n : Int) ≤ most) := ⟨by omega, by omega⟩
 go_enter Tryz.func61, Tryz.ntmps61
 go_wp2
 go_loopw [5, 19] (fun zv iv wr => ∃ (k : Nat) (z : List UInt8), iv = .int .i64 (k : Int) ∧ zv = .string ⟨z.toArray⟩ ∧ k ≤ n ∧ Hid (RrSt rs k z) ∧ Hid (Below w.heap.size w wr)) (fun _ iv _ => n - (intOf iv).toNat)
 case atStart => exact ⟨0, [], rfl, rfl, Nat.zero_le _, HS0, HB0⟩
 case round =>
  obtain ⟨k, z, rfl, rfl, hk, HS, HB⟩ := hrel
  clear HB0 HS0
  by_cases hlt : (k : Int) < (n : Int)
  ·
   obtain ⟨b, off, rfl, hbl, c0, c1, ca, cl, cc, c2, hin, hcc, hcm⟩ := (HI.out.below HB.out).2.2.2 k (by omega)
   have hno := HNo.out k (by omega)
   have hnr := HNr.out k z (by omega) HS.out
   have hst := HS.out.step
   have hint := (HInt.out k).2
   have hsh := HSh.out k
   obtain ⟨r, hrr⟩ : ∃ r, rs.getD k rt0 = r := ⟨_, rfl⟩
   rw [hrr] at c0 c1 hin hno hnr hst hint hsh
   obtain ⟨nm, ar, cd⟩ := r
   simp only at c0 c1 hin hno hnr hst hint hsh
   obtain ⟨Y, hY⟩ : ∃ Y, wr.alloc (.cells #[.string ⟨nm.toArray⟩, .int .i64 ar, .slice ca cl cc] 41) = Y := ⟨_, rfl⟩
   have hb : Below wr.heap.size wr Y := by rw [← hY]; exact (Below.refl _ _).alloc (Nat.le_refl _) _
   have hsY : Y.heap.size = wr.heap.size + 1 := by rw [← hY]; simp
   have hR : Y.heap[wr.heap.size]? = some (.cells #[.string ⟨nm.toArray⟩, .int .i64 ar, .slice ca cl cc] 41) := by rw [← hY]; exact heap_alloc_new wr _
   have HBY : Hid (Below w.heap.size w Y) := HB.out.trans (hb.mono HB.out.size)
   have hcl : cl ≤ 1048576 := by rw [← hin.1]; exact hsh.2.1
   have HC : Hid (_) := zfH nm ar cd ca cl cc Y (hin.below hb) hint hsh.2.2 hcl hcc hcm hsh.1
   obtain ⟨y0, y1, y2, _⟩ := zcG (Below.refl _ Y) (by omega) hR
   obtain ⟨E, hE⟩ : ∃ E, wr.heap.size = E := ⟨_, rfl⟩
   rw [hE] at hR hsY y0 y1 y2
   rcases hb1 : rtB (nm, ar, cd) with _ | _
   ·
    have HR : Hid (res = false) := hno hb1
    rw [hb1] at HC
    clear hno hnr hst hint hsh hrr hb1 hin hb HS
    go_wp2_with fail
    refine Calls.mono HC.out ?_
    rintro e w1 ⟨rfl, hb1⟩
    go_wp2
    go_ret
    exact ⟨by rw [HR.out]; rfl, HBY.out.trans (hb1.mono HBY.out.size)⟩
   ·
    rw [hb1] at HC
    rcases hle : leT nm z with _ | _
    ·
     have HS2 : Hid (RrSt rs (k + 1) nm) := hst hb1 hle
     unfold leT at hle
     clear hno hnr hst hint hsh hrr hb1 hin hb HS
     go_wp2_with fail
     refine Calls.mono HC.out ?_
     rintro e w1 ⟨rfl, hb1⟩
     obtain ⟨r0, _, _, _⟩ := zcG hb1 (by omega) hR
     have HB2 : Hid (Below w.heap.size w w1) := HBY.out.trans (hb1.mono HBY.out.size)
     clear hb1
     go_wp2
     go_roundw
     case rel => exact ⟨k + 1, nm, by go_num, rfl, by omega, HS2, HB2⟩
     case measure => simp [intOf]; omega
    ·
     have HR : Hid (res = false) := hnr hb1 hle
     unfold leT at hle
     clear hno hnr hst hint hsh hrr hb1 hin hb HS
     go_wp2_with fail
     refine Calls.mono HC.out ?_
     rintro e w1 ⟨rfl, hb1⟩
     obtain ⟨r0, _, _, _⟩ := zcG hb1 (by omega) hR
     have HB2 : Hid (Below w.heap.size w w1) := HBY.out.trans (hb1.mono HBY.out.size)
     clear hb1
     go_wp2
     go_ret
     exact ⟨by rw [HR.out]; rfl, HB2.out⟩
  ·
   obtain rfl : k = n := by omega
   have HR : Hid (res = true) := HAll.out z HS.out HL.out
   go_wp2
   go_ret
   exact ⟨by rw [HR.out]; rfl, HB.out⟩
def zcq (ts : List (List UInt8)) : Bool := decide (∀ i, i < ts.length → zaz (ts.getD i []) = true) && zcJ ts
theorem zfG (ts : List (List UInt8)) : zaE ts = (decide (ts.length ≤ 6) && zcq ts) := by
 unfold zaE zcq
 cases decide (∀ i, i < ts.length → zaz (ts.getD i []) = true) <;> cases decide (ts.length ≤ 6) <;> cases zcJ ts <;> rfl
structure NrSt (ts : List (List UInt8)) (k : Nat) (z : List UInt8) : Prop where
 names : ∀ i, i < k → zaz (ts.getD i []) = true
 rise : ∀ i, i + 1 < k → leT (ts.getD (i + 1) []) (ts.getD i []) = false
 last : (k = 0 ∧ z = []) ∨ (0 < k ∧ z = ts.getD (k - 1) [])
theorem NrSt.noName {ts : List (List UInt8)} {k : Nat} (hk : k < ts.length) (hn : zaz (ts.getD k []) = false) : zcq ts = false := by
 unfold zcq
 rw [decide_eq_false (fun g => by rw [g k hk] at hn; cases hn)]
 rfl
theorem leT_nil {x : List UInt8} (h : zaz x = true) : leT x [] = false := by
 have h1 := (zci h).1.1
 cases x with
 | nil => simp at h1
 | cons c r => simp [leT, Op.bytesLess]
theorem NrSt.noRise {ts : List (List UInt8)} {k : Nat} {z : List UInt8} (h : NrSt ts k z) (hk : k < ts.length) (hn : zaz (ts.getD k []) = true) (hl : leT (ts.getD k []) z = true) : zcq ts = false := by
 rcases h.last with ⟨rfl, rfl⟩ | ⟨h0, rfl⟩
 ·
  rw [leT_nil hn] at hl; cases hl
 ·
  unfold zcq
  rw [zfq (j := k - 1) (by omega) (by rw [show k - 1 + 1 = k by omega]; exact hl), Bool.and_false]
theorem NrSt.step {ts : List (List UInt8)} {k : Nat} {z : List UInt8} (h : NrSt ts k z) (hn : zaz (ts.getD k []) = true) (hl : leT (ts.getD k []) z = false) : NrSt ts (k + 1) (ts.getD k []) := by
 refine ⟨fun i hi => ?_, fun i hi => ?_, Or.inr ⟨by omega, by rw [Nat.add_sub_cancel]⟩⟩
 ·
  rcases Nat.lt_or_ge i k with g | g
  ·
   exact h.names i g
  ·
   obtain rfl : i = k := by omega
   exact hn
 ·
  rcases Nat.lt_or_ge (i + 1) k with g | g
  ·
   exact h.rise i g
  ·
   obtain rfl : k = i + 1 := by omega
   rcases h.last with ⟨e, _⟩ | ⟨_, rfl⟩
   ·
    omega
   ·
    rw [Nat.add_sub_cancel] at hl; exact hl
theorem NrSt.all {ts : List (List UInt8)} {z : List UInt8} (h : NrSt ts ts.length z) : zcq ts = true := by
 unfold zcq
 rw [decide_eq_true h.names, zep (j := ts.length - 1) (by omega) (fun i hi => h.rise i (by omega))]
 rfl
set_option maxHeartbeats 2000000 in
set_option maxRecDepth 100000 in
theorem zfI (a : Option Addr) (len cap : Nat) (ts : List (List UInt8)) (w : World) (hin : zah w a len ts) (hlen : len ≤ 1048576) (hs : ∀ i, (ts.getD i []).length ≤ 1048576) :
 Calls Tryz.prog 86 #[.slice a len cap] w fun e w' => e = .returned (.bool (zcq ts)) ∧ w' = w := by
 obtain rfl : ts.length = len := hin.1
 have HI : Hid (zah w a ts.length ts) := hin
 have HS : Hid (∀ i, (ts.getD i []).length ≤ 1048576) := hs
 clear hin hs
 go_enter Tryz.func86, Tryz.ntmps86
 go_wp2
 go_loopw [3, 8] (fun lv iv wr => ∃ k : Nat, iv = .int .i64 (k : Int) ∧ k ≤ ts.length ∧ (∃ z : List UInt8, lv = .string ⟨z.toArray⟩ ∧ Hid (NrSt ts k z)) ∧ wr = w) (fun _ iv _ => ts.length - (intOf iv).toNat)
 case atStart => exact ⟨0, rfl, by omega, ⟨[], rfl, (⟨fun i hi => by omega, fun i hi => by omega, Or.inl ⟨rfl, rfl⟩⟩ : NrSt ts 0 [])⟩, rfl⟩
 case round =>
  obtain ⟨k, rfl, hk, ⟨z, rfl, HZ⟩, rfl⟩ := hrel
  by_cases hlt : (k : Int) < (ts.length : Int)
  ·
   have hk2 : k < ts.length := by omega
   obtain ⟨b, off, rfl, hbl, c0⟩ := HI.out.2 k hk2
   have hxl := HS.out k
   obtain ⟨x, hx⟩ : ∃ x, ts.getD k [] = x := ⟨_, rfl⟩
   rw [hx] at c0 hxl
   have hC : Hid (_) := zeD x wr hxl
   rcases hnb : zaz x with _ | _
   ·
    have HR : Hid (zcq ts = false) := NrSt.noName hk2 (by rw [hx]; exact hnb)
    rw [hnb] at hC
    clear hx hnb HZ
    go_wp2_with (go_at_call 59; refine Calls.mono hC.out ?_; rintro e w1 ⟨rfl, rfl⟩)
    go_ret
    exact ⟨by rw [HR.out]; rfl, rfl⟩
   ·
    rcases hle : leT x z with _ | _
    ·
     have HZ2 : Hid (NrSt ts (k + 1) x) := by
      have h := HZ.out.step (by rw [hx]; exact hnb) (by rw [hx]; exact hle)
      rw [hx] at h
      exact h
     rw [hnb] at hC
     unfold leT at hle
     clear hx hnb HZ
     go_wp2_with (go_at_call 59; refine Calls.mono hC.out ?_; rintro e w1 ⟨rfl, rfl⟩)
     go_roundw
     case rel => exact ⟨k + 1, by go_num, by omega, ⟨x, rfl, HZ2⟩, trivial⟩
     case measure => simp [intOf]; omega
    ·
     have HR : Hid (zcq ts = false) := HZ.out.noRise hk2 (by rw [hx]; exact hnb) (by rw [hx]; exact hle)
     rw [hnb] at hC
     unfold leT at hle
     clear hx hnb HZ
     go_wp2_with (go_at_call 59; refine Calls.mono hC.out ?_; rintro e w1 ⟨rfl, rfl⟩)
     go_ret
     exact ⟨by rw [HR.out]; rfl, rfl⟩
  ·
   obtain rfl : k = ts.length := by omega
   have HR : Hid (zcq ts = true) := HZ.out.all
   go_wp2
   go_ret
   exact ⟨by rw [HR.out]; rfl, rfl⟩
set_option maxHeartbeats 1000000 in
set_option maxRecDepth 100000 in
theorem zfJ (a : Option Addr) (len cap : Nat) (ts : List (List UInt8)) (w : World) (hin : zah w a len ts) (hlen : len ≤ 1048576) (hs : ∀ i, (ts.getD i []).length ≤ 1048576) :
 Calls Tryz.prog 60 #[.slice a len cap] w fun e w' => e = .returned (.bool (zaE ts)) ∧ w' = w := by
 have hC : Hid (_) := zfI a len cap ts w hin hlen hs
 obtain rfl : ts.length = len := hin.1
 have HR : Hid (zaE ts = (decide (ts.length ≤ 6) && zcq ts)) := zfG ts
 clear hin hs
 go_enter Tryz.func60, Tryz.ntmps60
 by_cases h6 : (ts.length : Int) ≤ 6
 ·
  have HD : Hid (decide (ts.length ≤ 6) = true) := decide_eq_true (by omega)
  go_wp2_with (go_at_call 86; refine Calls.mono hC.out ?_; rintro e w1 ⟨rfl, rfl⟩)
  go_ret
  exact ⟨by rw [HR.out, HD.out]; rfl, rfl⟩
 ·
  have HD : Hid (decide (ts.length ≤ 6) = false) := decide_eq_false (by omega)
  go_wp2
  go_ret
  exact ⟨by rw [HR.out, HD.out]; rfl, rfl⟩
theorem zjx {l : List (List UInt8)} {x : List UInt8} (h : ∀ i, i < l.length → l.getD i [] ≠ x) : ¬ x ∈ l := fun hm => by
 obtain ⟨i, hi, e⟩ := List.mem_iff_getElem.1 hm
 exact h i hi (by simp [List.getD, hi, e])
set_option maxHeartbeats 1000000 in
set_option maxRecDepth 100000 in
theorem indexStr (a : Option Addr) (n c : Nat) (l : List (List UInt8)) (x : List UInt8) (w : World) (hin : zah w a n l) (hn : n ≤ 1048576) :
 Calls Tryz.prog 119 #[.slice a n c, .string ⟨x.toArray⟩] w fun e w' => ∃ y : Int, e = .returned (.int .i64 y) ∧ Hid (0 ≤ y ↔ x ∈ l) ∧ w' = w := by
 obtain rfl : l.length = n := hin.1
 have HI : Hid (zah w a l.length l) := hin
 clear hin
 go_enter Tryz.func119, Tryz.ntmps119
 go_wp2
 go_loopw [8] (fun iv wr => ∃ k : Nat, iv = .int .i64 (k : Int) ∧ k ≤ l.length ∧ Hid (∀ i, i < k → l.getD i [] ≠ x) ∧ wr = w) (fun iv _ => l.length - (intOf iv).toNat)
 case atStart => exact ⟨0, rfl, by omega, (fun i hi => by omega), rfl⟩
 case round =>
  obtain ⟨k, rfl, hk, HA, hwr⟩ := hrel
  obtain rfl := hwr.symm
  by_cases hlt : (k : Int) < (l.length : Int)
  ·
   have hk2 : k < l.length := by omega
   obtain ⟨b, off, rfl, hbl, c0⟩ := HI.out.2 k hk2
   have hmem : l.getD k [] ∈ l := by simp [List.getD, hk2]
   obtain ⟨y, hy⟩ : ∃ y, l.getD k [] = y := ⟨_, rfl⟩
   rw [hy] at c0 hmem
   by_cases hxy : x = y
   ·
    subst hxy
    have HM : Hid (0 ≤ (k : Int) ↔ x ∈ l) := ⟨fun _ => hmem, fun _ => by omega⟩
    have hself : (x == x) = true := by simp
    clear HA hy hmem
    go_wp2
    go_ret
    exact ⟨_, rfl, HM, rfl⟩
   ·
    have HA2 : Hid (∀ i, i < k + 1 → l.getD i [] ≠ x) := fun i hi => by
     rcases Nat.lt_or_ge i k with h | h
     ·
      exact HA.out i h
     ·
      obtain rfl : i = k := by omega
      rw [hy]; exact fun e => hxy e.symm
    have hne : (x == y) = false := beq_eq_false_iff_ne.2 hxy
    clear HA hy hmem
    go_wp2
    go_roundw
    case rel => exact ⟨k + 1, by go_num, by omega, HA2, trivial⟩
    case measure => simp [intOf]; omega
  ·
   have HM : Hid (0 ≤ (-1 : Int) ↔ x ∈ l) := ⟨fun h => by omega, fun h => absurd h (zjx (fun i hi => HA.out i (by omega)))⟩
   go_wp2
   go_ret
   exact ⟨_, rfl, HM, rfl⟩
theorem zhr (a : Option Addr) (n c : Nat) (l : List (List UInt8)) (x : List UInt8) (w : World) (hin : zah w a n l) (hn : n ≤ 1048576) :
 Calls Tryz.prog 89 #[.slice a n c, .string ⟨x.toArray⟩] w fun e w' => e = .returned (.bool (decide (x ∈ l))) ∧ w' = w := by
 have hI := indexStr a n c l x w hin hn
 go_enter Tryz.func89, Tryz.ntmps89
 go_wp2_with fail
 refine hI.mono ?_
 rintro e w1 ⟨y, rfl, HM, hw⟩
 obtain rfl := hw.symm
 clear hI
 go_wp2
 go_ret
 exact ⟨by rw [decide_eq_decide.2 HM.out.symm]; rfl, rfl⟩
set_option maxHeartbeats 1000000 in
set_option maxRecDepth 100000 in
theorem zdz (s : List UInt8) (w : World) (hl : s.length ≤ 1048576) :
 Calls Tryz.prog 62 #[.string ⟨s.toArray⟩] w fun e w' => e = .returned (.string ⟨(cutA 46 s).toArray⟩) ∧ Below w.heap.size w w' := by
 have HC : Hid (_) := zi4 s 46 w hl
 generalize cutA 46 s = x at HC ⊢
 generalize cutB 46 s = y at HC
 go_enter Tryz.func62, Tryz.ntmps62
 go_wp2_with fail
 refine Calls.mono HC.out ?_
 rintro e w1 ⟨g, rfl, hb1⟩
 go_wp2
 go_ret
 exact ⟨rfl, hb1⟩
set_option maxHeartbeats 4000000 in
set_option maxRecDepth 100000 in
theorem zfK (nm : List UInt8) (ia : Option Addr) (il ic : Nat) (fv : Value) (ims : List (List UInt8)) (ca : Option Addr) (cl cc : Nat) (is : List In13) (w : World) (hi : zah w ia il ims) (hil : il ≤ 1048576) (hin : zb4 w ca cl is) (hsh : zcm is) (hcl : cl ≤ 1048576) :
 Calls Tryz.prog 63 #[.agg #[.string ⟨nm.toArray⟩, .slice ia il ic, fv], .slice ca cl cc] w fun e w' => e = .returned (.bool (is.all (zbv nm ims))) ∧ Below w.heap.size w w' := by
 obtain rfl : is.length = cl := hin.1
 obtain ⟨W, hW⟩ : ∃ W, w.alloc (.cells #[.string ⟨nm.toArray⟩, .slice ia il ic, fv] 37) = W := ⟨_, rfl⟩
 have hbW : Below w.heap.size w W := by rw [← hW]; exact (Below.refl _ _).alloc (Nat.le_refl _) _
 have hA : W.heap[w.heap.size]? = some (.cells #[.string ⟨nm.toArray⟩, .slice ia il ic, fv] 37) := by rw [← hW]; exact heap_alloc_new w _
 obtain ⟨D, hD⟩ : ∃ D, w.heap.size = D := ⟨_, rfl⟩
 rw [hD] at hA
 have hDl : D < W.heap.size := lt_of_block hA
 have HK : Hid (∀ Z, Below W.heap.size W Z → Z.cell? ⟨D, 0, none⟩ = some (.string ⟨nm.toArray⟩) ∧ Z.cell? ⟨D, 1, none⟩ = some (.slice ia il ic)) := fun Z hz => ⟨(hz.cell (p := ⟨D, 0, none⟩) hDl).trans (by simp [World.cell?, hA]), (hz.cell (p := ⟨D, 1, none⟩) hDl).trans (by simp [World.cell?, hA])⟩
 have HI : Hid (∀ Z, Below W.heap.size W Z → zb4 Z ca is.length is) := fun Z hz => (hin.below hbW).below hz
 have HT : Hid (∀ Z, Below W.heap.size W Z → zah Z ia il ims) := fun Z hz => (hi.below hbW).below hz
 have HS : Hid (zcm is) := hsh
 have HB0 : Hid (Below w.heap.size w W) := hbW
 have HAll : Hid ((∀ k, k < is.length → zbv nm ims (is.getD k in0) = true) → is.all (zbv nm ims) = true) := zhT
 have HNo : Hid (∀ k, k < is.length → zbv nm ims (is.getD k in0) = false → is.all (zbv nm ims) = false) := fun k hk h => zjE hk h
 obtain ⟨m, hm⟩ : ∃ m, is.length = m := ⟨_, rfl⟩
 rw [hm] at HI HAll HNo hcl ⊢
 generalize is.all (zbv nm ims) = res at HAll HNo ⊢
 clear hin hm hi hsh hA hbW
 go_enter Tryz.func63, Tryz.ntmps63
 go_wp2
 go_loopw [10] (fun iv wr => ∃ k : Nat, iv = .int .i64 (k : Int) ∧ k ≤ m ∧ Hid (∀ j, j < k → zbv nm ims (is.getD j in0) = true) ∧ Hid (Below W.heap.size W wr)) (fun iv _ => m - (intOf iv).toNat)
 case atStart => exact ⟨0, rfl, Nat.zero_le _, (fun j hj => absurd hj (Nat.not_lt_zero _)), Below.refl _ _⟩
 case round =>
  obtain ⟨k, rfl, hk, HA, HB⟩ := hrel
  by_cases hlt : (k : Int) < (m : Int)
  ·
   obtain ⟨b, off, rfl, hbl, c0, c1, c2, c3, c4⟩ := (HI.out _ HB.out).2 k (by omega)
   have hno := HNo.out k (by omega)
   have hst : zbv nm ims (is.getD k in0) = true → ∀ j, j < k + 1 → zbv nm ims (is.getD j in0) = true := fun h j hj => by
    rcases Nat.lt_or_ge j k with g | g
    ·
     exact HA.out j g
    ·
     obtain rfl : j = k := by omega
     exact h
   have hsk := HS.out k
   obtain ⟨i, hi⟩ : ∃ i, is.getD k in0 = i := ⟨_, rfl⟩
   rw [hi] at c0 c1 c2 c3 c4 hno hst hsk
   obtain ⟨ik, iR, iA, iB, inm⟩ := i
   simp only at c0 c1 c2 c3 c4 hsk
   obtain ⟨Y, hY⟩ : ∃ Y, wr.alloc (.cells #[.int .i64 ik, .int .i64 iR, .int .i64 iA, .int .i64 iB, .string ⟨inm.toArray⟩] 58) = Y := ⟨_, rfl⟩
   have hb : Below wr.heap.size wr Y := by rw [← hY]; exact (Below.refl _ _).alloc (Nat.le_refl _) _
   have hsY : Y.heap.size = wr.heap.size + 1 := by rw [← hY]; simp
   have hR : Y.heap[wr.heap.size]? = some (.cells #[.int .i64 ik, .int .i64 iR, .int .i64 iA, .int .i64 iB, .string ⟨inm.toArray⟩] 58) := by rw [← hY]; exact heap_alloc_new wr _
   have HBY : Hid (Below W.heap.size W Y) := HB.out.trans (hb.mono HB.out.size)
   have hcls : zbv nm ims (ik, iR, iA, iB, inm) = (decide (ik ≠ 9) || (decide (cutA 46 inm = nm) || decide (cutA 46 inm ∈ ims))) := rfl
   rw [hcls] at hno hst
   have y0 : Y.cell? ⟨wr.heap.size, 0, none⟩ = some (.int .i64 ik) := by rw [cell_of_row _ _ _ _ _ _ hR]; rfl
   have y4 : Y.cell? ⟨wr.heap.size, 4, none⟩ = some (.string ⟨inm.toArray⟩) := by rw [cell_of_row _ _ _ _ _ _ hR]; rfl
   obtain ⟨E, hE⟩ : ∃ E, wr.heap.size = E := ⟨_, rfl⟩
   rw [hE] at hR hsY y0 y4
   by_cases h9 : ik = 9
   ·
    subst h9
    have HC : Hid (_) := zdz inm Y hsk
    obtain ⟨x, hx⟩ : ∃ x, cutA 46 inm = x := ⟨_, rfl⟩
    rw [hx] at hno hst HC
    have HQ : Hid ((x = nm ∨ x ∈ ims → ∀ j, j < k + 1 → zbv nm ims (is.getD j in0) = true) ∧ (¬ (x = nm ∨ x ∈ ims) → res = false)) :=
     ⟨fun e => hst (by rcases e with e | e <;> simp [e]), fun e => hno (by simp only [not_or] at e; simp [e.1, e.2])⟩
    clear hno hst hi hcls HA hb hsk hx
    go_wp2_with fail
    refine Calls.mono HC.out ?_
    rintro e w1 ⟨rfl, hb1⟩
    have HB1 : Hid (Below W.heap.size W w1) := HBY.out.trans (hb1.mono HBY.out.size)
    obtain ⟨d0, d1⟩ := HK.out _ HB1.out
    clear hb1
    by_cases he : x = nm
    ·
     subst he
     have HS2 : Hid (∀ j, j < k + 1 → zbv x ims (is.getD j in0) = true) := HQ.out.1 (Or.inl rfl)
     have heb : (x != x) = false := by simp
     have heb2 : (x == x) = true := by simp
     clear HQ
     go_wp2
     go_roundw
     case rel => exact ⟨k + 1, by go_num, by omega, HS2, HB1⟩
     case measure => simp [intOf]; omega
    ·
     have heb : (x != nm) = true := bne_iff_ne.2 he
     have heb2 : (x == nm) = false := beq_eq_false_iff_ne.2 he
     have HCt : Hid (_) := zhr ia il ic ims x w1 (HT.out _ HB1.out) hil
     have HQ2 : Hid ((x ∈ ims → ∀ j, j < k + 1 → zbv nm ims (is.getD j in0) = true) ∧ (¬ x ∈ ims → res = false)) := ⟨fun e => HQ.out.1 (Or.inr e), fun e => HQ.out.2 (fun g => by rcases g with g | g; exact he g; exact e g)⟩
     by_cases hm : x ∈ ims
     ·
      have HS2 := HQ2.out.1 hm
      rw [decide_eq_true hm] at HCt
      have HS2h : Hid (∀ j, j < k + 1 → zbv nm ims (is.getD j in0) = true) := HS2
      clear HQ HQ2 hm HS2 he
      go_wp2_with fail
      refine Calls.mono HCt.out ?_
      rintro e w2 ⟨rfl, hw2⟩
      obtain rfl := hw2.symm
      go_wp2
      go_roundw
      case rel => exact ⟨k + 1, by go_num, by omega, HS2h, HB1⟩
      case measure => simp [intOf]; omega
     ·
      have HR : Hid (res = false) := HQ2.out.2 hm
      rw [decide_eq_false hm] at HCt
      clear HQ HQ2 hm he
      go_wp2_with fail
      refine Calls.mono HCt.out ?_
      rintro e w2 ⟨rfl, hw2⟩
      obtain rfl := hw2.symm
      go_wp2
      go_ret
      exact ⟨by rw [HR.out]; rfl, hD ▸ HB0.out.trans (HB1.out.mono HB0.out.size)⟩
   ·
    have HS2 : Hid (∀ j, j < k + 1 → zbv nm ims (is.getD j in0) = true) := hst (by simp [h9])
    have hne : (ik != 9) = true := bne_iff_ne.2 h9
    clear hno hst hi hcls HA hb
    go_wp2
    go_roundw
    case rel => exact ⟨k + 1, by go_num, by omega, HS2, HBY⟩
    case measure => simp [intOf]; omega
  ·
   obtain rfl : k = m := by omega
   have HR : Hid (res = true) := HAll.out HA.out
   go_wp2
   go_ret
   exact ⟨by rw [HR.out]; rfl, hD ▸ HB0.out.trans (HB.out.mono HB0.out.size)⟩
set_option maxHeartbeats 4000000 in
set_option maxRecDepth 100000 in
theorem zgt (nm : List UInt8) (ia : Option Addr) (il ic : Nat) (fa : Option Addr) (fl fc : Nat) (ims : List (List UInt8)) (rs : List Rt) (w : World) (h : ObOk w nm ia il ic fa fl fc ims rs) :
 Calls Tryz.prog 42 #[.agg #[.string ⟨nm.toArray⟩, .slice ia il ic, .slice fa fl fc]] w fun e w' => e = .returned (.bool (objB (nm, ims, rs))) ∧ Below w.heap.size w w' := by
 obtain rfl : ims.length = il := h.i.1
 obtain rfl : rs.length = fl := h.r.c.1
 obtain ⟨W, hW⟩ : ∃ W, w.alloc (.cells #[.string ⟨nm.toArray⟩, .slice ia ims.length ic, .slice fa rs.length fc] 37) = W := ⟨_, rfl⟩
 have hb : Below w.heap.size w W := by rw [← hW]; exact (Below.refl _ _).alloc (Nat.le_refl _) _
 have hsW : W.heap.size = w.heap.size + 1 := by rw [← hW]; simp
 have hA : W.heap[w.heap.size]? = some (.cells #[.string ⟨nm.toArray⟩, .slice ia ims.length ic, .slice fa rs.length fc] 37) := by rw [← hW]; exact heap_alloc_new w _
 obtain ⟨D, hD⟩ : ∃ D, w.heap.size = D := ⟨_, rfl⟩
 rw [hD] at hA hsW
 have hDl : D < W.heap.size := lt_of_block hA
 have HK : Hid (∀ Z, Below W.heap.size W Z → Z.cell? ⟨D, 0, none⟩ = some (.string ⟨nm.toArray⟩) ∧ Z.cell? ⟨D, 1, none⟩ = some (.slice ia ims.length ic) ∧ Z.cell? ⟨D, 2, none⟩ = some (.slice fa rs.length fc)) := fun Z hz => ⟨(hz.cell (p := ⟨D, 0, none⟩) hDl).trans (by simp [World.cell?, hA]), (hz.cell (p := ⟨D, 1, none⟩) hDl).trans (by simp [World.cell?, hA]), (hz.cell (p := ⟨D, 2, none⟩) hDl).trans (by simp [World.cell?, hA])⟩
 have HO : Hid (∀ Z, Below W.heap.size W Z → ObOk Z nm ia ims.length ic fa rs.length fc ims rs) := fun Z hz => (h.below hb).below hz
 have HC1 : Hid (_) := zdR nm W h.nm
 have HC2 : Hid (∀ Z, Below W.heap.size W Z → _) := fun Z (hz : Below W.heap.size W Z) => zfJ ia ims.length ic ims Z (HO.out Z hz).i h.il h.is
 have HC3 : Hid (∀ Z, Below W.heap.size W Z → _) := fun Z (hz : Below W.heap.size W Z) => zeQ fa rs.length fc rs 8 Z (HO.out Z hz).r
 have HBW : Hid (Below w.heap.size w W) := hb
 have HSh : Hid (zc0 rs) := h.r.s
 have hlen := h.r.l
 have hil := h.il
 have HN1 : Hid (zaz nm = false → objB (nm, ims, rs) = false) := fun e => zhP (o := (nm, ims, rs)) e
 have HN2 : Hid (zaE ims = false → objB (nm, ims, rs) = false) := fun e => zhQ (o := (nm, ims, rs)) e
 have HN3 : Hid (rtsB rs 8 = false → objB (nm, ims, rs) = false) := fun e => objI_rts (o := (nm, ims, rs)) e
 have HYes : Hid (zaz nm = true → zaE ims = true → rtsB rs 8 = true → (∀ j, j < rs.length → zeg (nm, ims, rs) j) → objB (nm, ims, rs) = true) := fun e1 e2 e3 e4 => objI_yes (o := (nm, ims, rs)) e1 e2 e3 e4
 have HNo : Hid (∀ j, j < rs.length → ¬ zeg (nm, ims, rs) j → objB (nm, ims, rs) = false) := fun j hj e => objI_no (o := (nm, ims, rs)) hj e
 obtain ⟨n, hnn⟩ : ∃ n, rs.length = n := ⟨_, rfl⟩
 obtain ⟨q, hqq⟩ : ∃ q, ims.length = q := ⟨_, rfl⟩
 rw [hnn] at HK HO HC3 HYes HNo hlen hA hW ⊢
 rw [hqq] at HK HO HC2 hil hA hW ⊢
 generalize objB (nm, ims, rs) = res at HN1 HN2 HN3 HYes HNo ⊢
 generalize zaz nm = b1 at HN1 HYes HC1
 generalize zaE ims = b2 at HN2 HYes HC2
 generalize rtsB rs 8 = b3 at HN3 HYes HC3
 obtain ⟨k0, k1, k2⟩ := HK.out W (Below.refl _ _)
 clear h hb hnn hqq hA
 go_enter Tryz.func42, Tryz.ntmps42
 go_wp2_with fail
 refine Calls.mono HC1.out ?_
 rintro e w1 ⟨rfl, hb1⟩
 replace k0 := (HK.out _ hb1).1
 replace k1 := (HK.out _ hb1).2.1
 replace k2 := (HK.out _ hb1).2.2
 rcases b1 with _ | _
 ·
  have HR : Hid (res = false) := HN1.out rfl
  go_wp2
  go_ret
  exact ⟨by rw [HR.out]; rfl, hD ▸ HBW.out.trans (hb1.mono HBW.out.size)⟩
 go_wp2_with fail
 refine Calls.mono (HC2.out _ hb1) ?_
 rintro e w2 ⟨rfl, hw2⟩
 obtain rfl := hw2.symm
 rcases b2 with _ | _
 ·
  have HR : Hid (res = false) := HN2.out rfl
  go_wp2
  go_ret
  exact ⟨by rw [HR.out]; rfl, hD ▸ HBW.out.trans (hb1.mono HBW.out.size)⟩
 go_wp2_with fail
 refine Calls.mono (HC3.out _ hb1) ?_
 rintro e w3 ⟨rfl, hb3⟩
 have HB3 : Hid (Below W.heap.size W w3) := hb1.trans (hb3.mono hb1.size)
 replace k0 := (HK.out _ HB3.out).1
 replace k1 := (HK.out _ HB3.out).2.1
 replace k2 := (HK.out _ HB3.out).2.2
 clear hb1 hb3
 rcases b3 with _ | _
 ·
  have HR : Hid (res = false) := HN3.out rfl
  go_wp2
  go_ret
  exact ⟨by rw [HR.out]; rfl, hD ▸ HBW.out.trans (HB3.out.mono HBW.out.size)⟩
 have HY2 : Hid ((∀ j, j < n → zeg (nm, ims, rs) j) → res = true) := HYes.out (by trivial) (by trivial) (by trivial)
 clear HYes HN1 HN2 HN3 HC1 HC2 HC3
 go_wp2
 go_loopw [24] (fun iv wr => ∃ k : Nat, iv = .int .i64 (k : Int) ∧ k ≤ n ∧ Hid (∀ j, j < k → zeg (nm, ims, rs) j) ∧ Hid (Below W.heap.size W wr)) (fun iv _ => n - (intOf iv).toNat)
 case atStart => exact ⟨0, rfl, Nat.zero_le _, (fun j hj => absurd hj (Nat.not_lt_zero _)), HB3⟩
 case round =>
  obtain ⟨k, rfl, hk, HA, HB⟩ := hrel
  clear HB3 k0 k1 k2
  obtain ⟨k0, k1, k2⟩ := HK.out _ HB.out
  by_cases hlt : (k : Int) < (n : Int)
  ·
   have ho := HO.out _ HB.out
   obtain ⟨b, off, rfl, hbl, c0, c1, ca, cl, cc, c2, hin, hcc, hcm⟩ := ho.r.c.2.2.2 k (by omega)
   have hti := ho.i
   have hno := HNo.out k (by omega)
   have hsh := HSh.out k
   have hst : zeg (nm, ims, rs) k → ∀ j, j < k + 1 → zeg (nm, ims, rs) j := fun h j hj => by
    rcases Nat.lt_or_ge j k with g | g
    ·
     exact HA.out j g
    ·
     obtain rfl : j = k := by omega
     exact h
   have htw : zeg (nm, ims, rs) k = (cutA 46 (rs.getD k rt0).1 = nm ∧ (rs.getD k rt0).2.2.all (zbv nm ims) = true) := rfl
   rw [htw] at hno hst
   obtain ⟨r, hrr⟩ : ∃ r, rs.getD k rt0 = r := ⟨_, rfl⟩
   rw [hrr] at c0 c1 hin hno hsh hst
   obtain ⟨rn, ar, cd⟩ := r
   simp only at c0 c1 hin hno hsh hst
   obtain ⟨Y, hY⟩ : ∃ Y, wr.alloc (.cells #[.string ⟨rn.toArray⟩, .int .i64 ar, .slice ca cl cc] 41) = Y := ⟨_, rfl⟩
   have hbY : Below wr.heap.size wr Y := by rw [← hY]; exact (Below.refl _ _).alloc (Nat.le_refl _) _
   have hRY : Y.heap[wr.heap.size]? = some (.cells #[.string ⟨rn.toArray⟩, .int .i64 ar, .slice ca cl cc] 41) := by rw [← hY]; exact heap_alloc_new wr _
   have hsY : Y.heap.size = wr.heap.size + 1 := by rw [← hY]; simp
   have HBY : Hid (Below W.heap.size W Y) := HB.out.trans (hbY.mono HB.out.size)
   obtain ⟨E, hE⟩ : ∃ E, wr.heap.size = E := ⟨_, rfl⟩
   rw [hE] at hRY hsY
   have hEl : E < Y.heap.size := by omega
   have HE : Hid (∀ Z, Below Y.heap.size Y Z → Z.cell? ⟨E, 0, none⟩ = some (.string ⟨rn.toArray⟩) ∧ Z.cell? ⟨E, 2, none⟩ = some (.slice ca cl cc)) := fun Z hz => ⟨(hz.cell (p := ⟨E, 0, none⟩) hEl).trans (by simp [World.cell?, hRY]), (hz.cell (p := ⟨E, 2, none⟩) hEl).trans (by simp [World.cell?, hRY])⟩
   have HP : Hid (∀ Z, Below Y.heap.size Y Z → Calls Tryz.prog 62 #[.string ⟨rn.toArray⟩] Z fun e w' => e = .returned (.string ⟨(cutA 46 rn).toArray⟩) ∧ Below Z.heap.size Z w') := fun Z _ => zdz rn Z hsh.1
   have HCn : Hid (∀ Z, Below Y.heap.size Y Z → Calls Tryz.prog 63 #[.agg #[.string ⟨nm.toArray⟩, .slice ia q ic, .slice (some ⟨b, off, none⟩) n fc], .slice ca cl cc] Z fun e w' => e = .returned (.bool (cd.all (zbv nm ims))) ∧ Below Z.heap.size Z w') := fun Z hz => zfK nm ia q ic (.slice (some ⟨b, off, none⟩) n fc) ims ca cl cc cd Z ((hti.below hbY).below hz) hil ((hin.below hbY).below hz) hsh.2.2 (by rw [← hin.1]; exact hsh.2.1)
   obtain ⟨y0, y2⟩ := HE.out Y (Below.refl _ _)
   obtain ⟨d0, d1, d2⟩ := HK.out _ HBY.out
   obtain ⟨x, hx⟩ : ∃ x, cutA 46 rn = x := ⟨_, rfl⟩
   rw [hx] at hno hst HP
   generalize cd.all (zbv nm ims) = b4 at hno hst HCn
   have HNo2 : Hid (¬ (x = nm ∧ b4 = true) → res = false) := hno
   have HSt2 : Hid (x = nm ∧ b4 = true → ∀ j, j < k + 1 → zeg (nm, ims, rs) j) := hst
   have hV : Below Y.heap.size Y Y := Below.refl _ _
   clear hrr hsh hin ho hti hbY hRY hno hst htw hx HA HB k0 k1 k2
   by_cases he : x = nm
   ·
    subst he
    have heb : (x != x) = false := by simp
    have heb2 : (x == x) = true := by simp
    rcases b4 with _ | _
    ·
     have HR : Hid (res = false) := HNo2.out (fun e => by cases e.2)
     go_wp2_with fail
     replace hV := hV.drew
     go_region_held3 (fun w' => w'.cell? ⟨E, 0, none⟩ = some (.string ⟨rn.toArray⟩) ∧ w'.cell? ⟨E, 2, none⟩ = some (.slice ca cl cc) ∧ w'.cell? ⟨D, 0, none⟩ = some (.string ⟨x.toArray⟩) ∧ w'.cell? ⟨D, 1, none⟩ = some (.slice ia q ic) ∧ w'.cell? ⟨D, 2, none⟩ = some (.slice (some ⟨b, off, none⟩) n fc)) (go_keep) (first
      | (go_at_call 62; refine Calls.mono (HP.out _ hV) ?_; rintro e wn ⟨rfl, hbn⟩; replace hV := hV.trans (hbn.mono hV.size); clear hbn; replace y0 := (HE.out _ hV).1; replace y2 := (HE.out _ hV).2; replace d0 := (HK.out _ (HBY.out.trans (hV.mono HBY.out.size))).1; replace d1 := (HK.out _ (HBY.out.trans (hV.mono HBY.out.size))).2.1; replace d2 := (HK.out _ (HBY.out.trans (hV.mono HBY.out.size))).2.2)
      | (go_at_call 63; refine Calls.mono (HCn.out _ hV) ?_; rintro e wn ⟨rfl, hbn⟩; replace hV := hV.trans (hbn.mono hV.size); clear hbn; replace y0 := (HE.out _ hV).1; replace y2 := (HE.out _ hV).2; replace d0 := (HK.out _ (HBY.out.trans (hV.mono HBY.out.size))).1; replace d1 := (HK.out _ (HBY.out.trans (hV.mono HBY.out.size))).2.1; replace d2 := (HK.out _ (HBY.out.trans (hV.mono HBY.out.size))).2.2))
     all_goals
      go_wp2
      go_ret
      exact ⟨by rw [HR.out]; rfl, hD ▸ HBW.out.trans ((HBY.out.trans (hV.mono HBY.out.size)).mono HBW.out.size)⟩
    ·
     have HS : Hid (∀ j, j < k + 1 → zeg (x, ims, rs) j) := HSt2.out ⟨rfl, rfl⟩
     go_wp2_with fail
     replace hV := hV.drew
     go_region_held3 (fun w' => w'.cell? ⟨E, 0, none⟩ = some (.string ⟨rn.toArray⟩) ∧ w'.cell? ⟨E, 2, none⟩ = some (.slice ca cl cc) ∧ w'.cell? ⟨D, 0, none⟩ = some (.string ⟨x.toArray⟩) ∧ w'.cell? ⟨D, 1, none⟩ = some (.slice ia q ic) ∧ w'.cell? ⟨D, 2, none⟩ = some (.slice (some ⟨b, off, none⟩) n fc)) (go_keep) (first
      | (go_at_call 62; refine Calls.mono (HP.out _ hV) ?_; rintro e wn ⟨rfl, hbn⟩; replace hV := hV.trans (hbn.mono hV.size); clear hbn; replace y0 := (HE.out _ hV).1; replace y2 := (HE.out _ hV).2; replace d0 := (HK.out _ (HBY.out.trans (hV.mono HBY.out.size))).1; replace d1 := (HK.out _ (HBY.out.trans (hV.mono HBY.out.size))).2.1; replace d2 := (HK.out _ (HBY.out.trans (hV.mono HBY.out.size))).2.2)
      | (go_at_call 63; refine Calls.mono (HCn.out _ hV) ?_; rintro e wn ⟨rfl, hbn⟩; replace hV := hV.trans (hbn.mono hV.size); clear hbn; replace y0 := (HE.out _ hV).1; replace y2 := (HE.out _ hV).2; replace d0 := (HK.out _ (HBY.out.trans (hV.mono HBY.out.size))).1; replace d1 := (HK.out _ (HBY.out.trans (hV.mono HBY.out.size))).2.1; replace d2 := (HK.out _ (HBY.out.trans (hV.mono HBY.out.size))).2.2))
     all_goals
      have HB5 : Hid (_) := HBY.out.trans (hV.mono HBY.out.size)
      go_wp2
      go_roundw
      case rel => exact ⟨k + 1, by go_num, by omega, HS, HB5⟩
      case measure => simp [intOf]; omega
   ·
    have heb : (x != nm) = true := bne_iff_ne.2 he
    have heb2 : (x == nm) = false := beq_eq_false_iff_ne.2 he
    have HR : Hid (res = false) := HNo2.out (fun e => he e.1)
    clear he hV
    go_wp2_with fail
    refine wp_region_held_drew (S := fun Z => Below Y.heap.size Y Z) (by kernel_rfl) (by exact ⟨rfl, rfl, rfl, Nat.le_refl _, fun _ _ => rfl⟩) (fun hHeld => ?_)
    refine tkO [(0, 28), (1, 29), (3, 31), (4, 32)] ?_
    repeat (refine tkY ?_ rfl (by rfl) ?_ ?_; rotate_left; (focus (intro wq hSw; obtain ⟨y0, y2⟩ := HE.out wq hSw; obtain ⟨d0, d1, d2⟩ := HK.out wq (HBY.out.trans (hSw.mono HBY.out.size)); clear hSw; first | (go_simp; done) | (go_simp; with_reducible rfl))); simp only [zP])
    refine tkZ ?_
    refine zR 2 rfl (fun K hK => ?_)
    go_simp
    refine Calls.mono (HP.out _ hHeld) ?_
    rintro e V1 ⟨rfl, hb1⟩
    dsimp only
    refine hK.out _ _ (by exact hHeld.trans (hb1.mono hHeld.size)) (fun hHeld => ?_)
    clear hK K
    (try simp only [zP])
    refine tkO [(5, 33), (6, 34), (7, 35), (8, 36), (9, 37), (10, 38), (11, 39), (12, 40)] ?_
    repeat ((first | (refine tkY ?_ rfl (by rfl) ?_ ?_; rotate_left; (focus (intro wq hSw; obtain ⟨y0, y2⟩ := HE.out wq hSw; obtain ⟨d0, d1, d2⟩ := HK.out wq (HBY.out.trans (hSw.mono HBY.out.size)); clear hSw; first | (go_simp; done) | (go_simp; with_reducible rfl)))) | refine tkN rfl (by rfl) ?_); simp only [zP])
    refine tkZ ?_
    have hV2 : Below Y.heap.size Y _ := hHeld
    refine wpAnyH_done (by kernel_rfl) ?_ _
    clear hHeld hb1
    go_wp2
    go_ret
    exact ⟨by rw [HR.out]; rfl, hD ▸ HBW.out.trans ((HBY.out.trans (hV2.mono HBY.out.size)).mono HBW.out.size)⟩
  ·
   obtain rfl : k = n := by omega
   have HR : Hid (res = true) := HY2.out HA.out
   go_wp2
   go_ret
   exact ⟨by rw [HR.out]; rfl, hD ▸ HBW.out.trans (HB.out.mono HBW.out.size)⟩
end Go.Proofs.YtenaaneckobdpaaGreat
