/-
  Parts of one proof, one behind the other: RetI, RegT.
-/
import Derived.Test.YtglhbcbilepomaaDoorP18
import Derived.Test.YtglhbcbilepomaaDoorP17
import Derived.Test.YtglhbcbilepomaaDoorP2
import Derived.Deep.RegionHeld
import Derived.RegionTactic

/-! The contracts of chapter 18's landed code: doneText, numberOfTaskOk, doneCode, returnCode, asDone. -/
namespace Go.Proofs.YtglhbcbilepomaaDoor
open Go.RowKit

theorem fmtInt64 (n : Int) (w : World) (ht : PowIs w) (h0 : -9223372036854775808 ≤ n) (h1 : n ≤ 9223372036854775807) :
    Calls Tryd.prog 62 #[.int .i64 n, .int .i64 10] w fun e w' => e = .returned (.string ⟨(intL n).toArray⟩) ∧ Below w.heap.size w w' := by
  refine (Tryd.strconv_FormatInt_10 n (by omega) (by omega) w ht).mono ?_
  rintro e w' ⟨rfl, k, os, rfl⟩
  exact ⟨by rw [itoa_int], Lib.below_grow _ w (Nat.le_refl _) k os⟩

set_option maxHeartbeats 1000000 in
set_option maxRecDepth 100000 in
theorem implDoneText (k key : Int) (w : World) (ht : PowIs w) (hk0 : -9223372036854775808 ≤ k) (hk1 : k ≤ 9223372036854775807) (hy0 : -9223372036854775808 ≤ key) (hy1 : key ≤ 9223372036854775807) :
    Calls Tryd.prog 42 #[.int .i64 k, .int .i64 key] w fun e w' => e = .returned (.string ⟨(doneT k key).toArray⟩) ∧ Below w.heap.size w w' := by
  have HF1 : Hid (_) := fmtInt64 k w ht hk0 hk1
  have HF2 : Hid (∀ Z, Below w.heap.size w Z → _) := fun Z hz => fmtInt64 key Z (ht.below hz) hy0 hy1
  have HDT : Hid (doneT k key = (([100, 111, 110, 101, 32] ++ intL k) ++ [32]) ++ intL key) := rfl
  have hcat := cat_list
  have hi1 := intL_len64 hk0 hk1
  have hi2 := intL_len64 hy0 hy1
  have hd5 : (⟨#[100, 111, 110, 101, 32]⟩ : ByteArray) = ⟨([100, 111, 110, 101, 32] : List UInt8).toArray⟩ := rfl
  have hd1 : (⟨#[32]⟩ : ByteArray) = ⟨([32] : List UInt8).toArray⟩ := rfl
  rw [HDT.out]
  clear ht HDT
  go_enter Tryd.func42, Tryd.ntmps42
  go_wp2_with fail
  refine Calls.mono HF1.out ?_
  rintro e w1 ⟨rfl, hb1⟩
  have HB1 : Hid (Below w.heap.size w w1) := hb1
  clear hb1
  go_wp2_with fail
  refine Calls.mono (HF2.out _ HB1.out) ?_
  rintro e w2 ⟨rfl, hb2⟩
  have HB2 : Hid (Below w.heap.size w w2) := HB1.out.trans (hb2.mono HB1.out.size)
  clear hb2
  go_wp2
  go_ret
  exact ⟨by simp, HB2.out⟩

theorem implNumOk (a : Option Addr) (n c : Nat) (k : Int) (w : World) :
    Calls Tryd.prog 43 #[.slice a n c, .int .i64 k] w fun e w' => e = .returned (.bool (decide (0 ≤ k ∧ k < (n : Int)))) ∧ w' = w := by
  by_cases h0 : 0 ≤ k
  · by_cases h1 : k < (n : Int)
    · have HR : Hid (decide (0 ≤ k ∧ k < (n : Int)) = true) := decide_eq_true ⟨h0, h1⟩
      generalize decide (0 ≤ k ∧ k < (n : Int)) = res at HR ⊢
      go_enter Tryd.func43, Tryd.ntmps43
      go_wp2
      go_ret
      exact ⟨by rw [HR.out]; rfl, rfl⟩
    · have HR : Hid (decide (0 ≤ k ∧ k < (n : Int)) = false) := decide_eq_false (fun h => h1 h.2)
      generalize decide (0 ≤ k ∧ k < (n : Int)) = res at HR ⊢
      go_enter Tryd.func43, Tryd.ntmps43
      go_wp2
      go_ret
      exact ⟨by rw [HR.out]; rfl, rfl⟩
  · have HR : Hid (decide (0 ≤ k ∧ k < (n : Int)) = false) := decide_eq_false (fun h => h0 h.1)
    generalize decide (0 ≤ k ∧ k < (n : Int)) = res at HR ⊢
    go_enter Tryd.func43, Tryd.ntmps43
    go_wp2
    go_ret
    exact ⟨by rw [HR.out]; rfl, rfl⟩

def codeV (ts : List Ta) (t : Ta) : Int := if t.2.2.1 = 2 then 2 else if free18 ts t = false then 4 else 0
set_option maxHeartbeats 1000000 in
set_option maxRecDepth 100000 in
theorem implDoneCode (a : Option Addr) (len cap : Nat) (ts : List Ta) (i : Nat) (w : World) (hin : TasksIn w a len ts) (hsh : ShortTa ts) (hlen : len ≤ 1048576) (hi : i < len) (hnd : ∀ q, q < (ts.getD i ta0).2.1.length → 0 ≤ (ts.getD i ta0).2.1.getD q 0 ∧ (ts.getD i ta0).2.1.getD q 0 < len) :
    Calls Tryd.prog 45 #[.slice a len cap, .int .i64 (i : Int)] w fun e w' => e = .returned (.int .i64 (codeV ts (ts.getD i ta0))) ∧ Below w.heap.size w w' := by
  obtain ⟨b, off, e, hbl, c0, ⟨na, nc, c1, hn1⟩, c2, c3, c4, c5⟩ := hin.2 i hi
  have hsi := (hsh i).2
  obtain ⟨x, hx⟩ : ∃ x, ts.getD i ta0 = x := ⟨_, rfl⟩
  rw [hx] at c0 c1 c2 c3 c4 c5 hn1 hsi hnd ⊢
  obtain ⟨nm, ns, st, wk, un, ke⟩ := x
  simp only at c0 c1 c2 c3 c4 c5 hn1 hsi hnd
  obtain ⟨Y, hY⟩ : ∃ Y, w.alloc (.cells #[.string ⟨nm.toArray⟩, .slice na ns.length nc, .int .i64 st, .int .i64 wk, .int .i64 un, .int .i64 ke] 52) = Y := ⟨_, rfl⟩
  have hbY : Below w.heap.size w Y := by rw [← hY]; exact (Below.refl _ _).alloc (Nat.le_refl _) _
  have bE := B6.new w (.string ⟨nm.toArray⟩) (.slice na ns.length nc) (.int .i64 st) (.int .i64 wk) (.int .i64 un) (.int .i64 ke) 52
  rw [hY] at bE
  have HN : Hid (_) := implNeedsDone a na len cap nc ts ns Y (hin.below hbY) (hn1.below hbY) hsi hlen hnd
  have HFr : Hid (free18 ts (nm, ns, st, wk, un, ke) = decide (∀ i, i < ns.length → (ts.getD (ns.getD i 0).toNat ta0).2.2.1 = 2)) := rfl
  have HC : Hid (codeV ts (nm, ns, st, wk, un, ke) = if st = 2 then 2 else if free18 ts (nm, ns, st, wk, un, ke) = false then 4 else 0) := rfl
  rw [HFr.out] at HC
  generalize codeV ts (nm, ns, st, wk, un, ke) = res at HC ⊢
  generalize decide (∀ i, i < ns.length → (ts.getD (ns.getD i 0).toNat ta0).2.2.1 = 2) = fr at HN HC
  obtain ⟨E, hE⟩ : ∃ E, w.heap.size = E := ⟨_, rfl⟩
  rw [hE] at bE
  have y1 := bE.c1
  have y2 := bE.c2
  have HB : Hid (Below w.heap.size w Y) := hbY
  subst e
  clear hin hsh hx hn1 hsi hnd bE hbY HFr
  by_cases h2 : st = 2
  · have HR : Hid (res = 2) := by exact (by rw [HC.out, if_pos h2] : res = 2)
    subst h2
    clear HC HN
    go_enter Tryd.func45, Tryd.ntmps45
    go_wp2
    go_ret
    exact ⟨by rw [HR.out]; rfl, HB.out⟩
  · have h2b : (st == 2) = false := beq_eq_false_iff_ne.2 h2
    rcases fr with _ | _
    · have HR : Hid (res = 4) := by exact (by rw [HC.out, if_neg h2, if_pos rfl] : res = 4)
      clear HC
      go_enter Tryd.func45, Tryd.ntmps45
      go_wp2_with (go_at_call 63; refine Calls.mono HN.out ?_; rintro e wn ⟨rfl, rfl⟩)
      go_ret
      exact ⟨by rw [HR.out]; rfl, HB.out⟩
    · have HR : Hid (res = 0) := by exact (by rw [HC.out, if_neg h2, if_neg (by simp)] : res = 0)
      clear HC
      go_enter Tryd.func45, Tryd.ntmps45
      go_wp2_with (go_at_call 63; refine Calls.mono HN.out ?_; rintro e wn ⟨rfl, rfl⟩)
      go_ret
      exact ⟨by rw [HR.out]; rfl, HB.out⟩

set_option maxHeartbeats 4000000 in
set_option maxRecDepth 100000 in
theorem implRetCode (a : Option Addr) (len cap : Nat) (ts : List Ta) (ep nw : Int) (jr : List UInt8) (kk ee key : Int) (w : World) (hin : TasksIn w a len ts) (hsh : ShortTa ts) (hd : deskB (ts, ep, nw, jr) = true) (ht : PowIs w) (hk0 : -9223372036854775808 ≤ kk) (hk1 : kk ≤ 9223372036854775807) (hy0 : -9223372036854775808 ≤ key) (hy1 : key ≤ 9223372036854775807) :
    Calls Tryd.prog 18 #[.agg #[.slice a len cap, .int .i64 ep, .int .i64 nw, .string ⟨jr.toArray⟩], .int .i64 kk, .int .i64 ee, .int .i64 key] w fun e w' => e = .returned (.int .i64 (retCode (ts, ep, nw, jr) kk ee key)) ∧ Below w.heap.size w w' := by
  obtain rfl : ts.length = len := hin.1
  have hP := deskB_iff.1 hd
  have hn8 := hP.n
  have hj6 := hP.j
  simp only at hn8 hj6
  have hln : ts.length ≤ 1048576 := by omega
  obtain ⟨W, hW⟩ : ∃ W, w.alloc (.cells #[.slice a ts.length cap, .int .i64 ep, .int .i64 nw, .string ⟨jr.toArray⟩] 28) = W := ⟨_, rfl⟩
  have hbW : Below w.heap.size w W := by rw [← hW]; exact (Below.refl _ _).alloc (Nat.le_refl _) _
  have bD := B4.new w (.slice a ts.length cap) (.int .i64 ep) (.int .i64 nw) (.string ⟨jr.toArray⟩) 28
  rw [hW] at bD
  have HB : Hid (∀ Z, Below W.heap.size W Z → Below w.heap.size w Z) := fun Z hz => hbW.trans (hz.mono hbW.size)
  obtain ⟨D, hD⟩ : ∃ D, w.heap.size = D := ⟨_, rfl⟩
  rw [hD] at bD
  have HK : Hid (∀ Z, Below W.heap.size W Z → B4 Z D (.slice a ts.length cap) (.int .i64 ep) (.int .i64 nw) (.string ⟨jr.toArray⟩) ∧ TasksIn Z a ts.length ts) := fun Z hz => ⟨bD.below hz, (hin.below hbW).below hz⟩
  have HT1 : Hid (_) := implDoneText kk key W (ht.below hbW) hk0 hk1 hy0 hy1
  have HF1 : Hid (∀ Z, _) := fun Z => implFramed (doneT kk key) Z (by have := doneT_len hk0 hk1 hy0 hy1; omega)
  have hlr : framedS (doneT kk key) = lineR kk key := rfl
  rw [hlr] at HF1
  have hll := lineR_len hk0 hk1 hy0 hy1
  have HNo : Hid (∀ Z, _) := fun Z => implNumOk a ts.length cap kk Z
  have HKy : Hid (∀ Z, _) := fun Z => implKeyOk key Z
  have HJ : Hid (∀ Z, _) := fun Z => implJournalOk (jr.length + (lineR kk key).length) Z
  have HDc : Hid (∀ (Z : World) (i : Nat), Below W.heap.size W Z → i < ts.length → _) := fun Z i hz hi => implDoneCode a ts.length cap ts i Z ((hin.below hbW).below hz) hsh hln hi (needs_of hP hi)
  have HBad : Hid ((kk < 0 ∨ (ts.length : Int) ≤ kk) ∨ key18 key = false → retCode (ts, ep, nw, jr) kk ee key = 3) := fun h => ret_bad h
  have HRoom : Hid (¬ ((kk < 0 ∨ (ts.length : Int) ≤ kk) ∨ key18 key = false) → 60000 < jr.length + (lineR kk key).length → retCode (ts, ep, nw, jr) kk ee key = 3) := fun h h2 => ret_room h h2
  have HOld : Hid (¬ ((kk < 0 ∨ (ts.length : Int) ≤ kk) ∨ key18 key = false) → ¬ 60000 < jr.length + (lineR kk key).length → ee ≠ ep → retCode (ts, ep, nw, jr) kk ee key = 1) := fun h h2 h3 => ret_old h h2 h3
  have HElse : Hid (¬ ((kk < 0 ∨ (ts.length : Int) ≤ kk) ∨ key18 key = false) → ¬ 60000 < jr.length + (lineR kk key).length → ee = ep → retCode (ts, ep, nw, jr) kk ee key = codeV ts (ts.getD kk.toNat ta0)) := fun h h2 h3 => by
    unfold retCode codeV
    rw [if_neg h, if_neg h2, if_neg (fun x => x h3)]
  have hkey : key18 key = inB key 0 2147483646 := rfl
  rw [hkey] at HBad HRoom HOld HElse
  generalize retCode (ts, ep, nw, jr) kk ee key = res at HBad HRoom HOld HElse ⊢
  generalize lineR kk key = ln at HF1 hll HJ HRoom HOld HElse
  generalize hdt : doneT kk key = dt at HT1 HF1
  have d0 := bD.c0
  clear hin hsh hd hP bD hbW ht hlr hdt
  go_enter Tryd.func18, Tryd.ntmps18
  go_wp2_with fail
  refine Calls.mono HT1.out ?_
  rintro e w1 ⟨rfl, hb1⟩
  have HB1 : Hid (Below W.heap.size W w1) := hb1
  clear hb1 d0
  go_wp2_with fail
  refine Calls.mono (HF1.out _) ?_
  rintro e w2 ⟨rfl, hb2⟩
  have HB2 : Hid (Below W.heap.size W w2) := HB1.out.trans (hb2.mono HB1.out.size)
  clear hb2
  have bD := (HK.out w2 HB2.out).1
  have d0 := bD.c0
  have d1 := bD.c1
  have d3 := bD.c3
  clear bD
  by_cases hkn : kk < 0
  · have HR : Hid (_) := HBad.out (Or.inl (Or.inl hkn))
    have hno : decide (0 ≤ kk ∧ kk < (ts.length : Int)) = false := decide_eq_false (by omega)
    rw [hno] at HNo
    clear hno HRoom HOld HElse HBad
    go_wp2_with (go_at_call 43; refine Calls.mono (HNo.out _) ?_; rintro e wn ⟨rfl, hwn⟩; obtain rfl := hwn.symm; clear hwn)
    go_ret
    exact ⟨by rw [HR.out]; rfl, HB.out _ HB2.out⟩
  by_cases hkl : (ts.length : Int) ≤ kk
  · have HR : Hid (_) := HBad.out (Or.inl (Or.inr hkl))
    have hno : decide (0 ≤ kk ∧ kk < (ts.length : Int)) = false := decide_eq_false (by omega)
    rw [hno] at HNo
    clear hno HRoom HOld HElse HBad
    go_wp2_with (go_at_call 43; refine Calls.mono (HNo.out _) ?_; rintro e wn ⟨rfl, hwn⟩; obtain rfl := hwn.symm; clear hwn)
    go_ret
    exact ⟨by rw [HR.out]; rfl, HB.out _ HB2.out⟩
  have hno : decide (0 ≤ kk ∧ kk < (ts.length : Int)) = true := decide_eq_true (by omega)
  rw [hno] at HNo
  generalize inB key 0 2147483646 = ky at HKy HBad HRoom HOld HElse
  rcases ky with _ | _
  · have HR : Hid (_) := HBad.out (Or.inr rfl)
    clear hno HRoom HOld HElse HBad
    go_wp2_with (first | (go_at_call 43; refine Calls.mono (HNo.out _) ?_; rintro e wn ⟨rfl, hwn⟩; obtain rfl := hwn.symm; clear hwn) | (go_at_call 44; refine Calls.mono (HKy.out _) ?_; rintro e wn ⟨rfl, hwn⟩; obtain rfl := hwn.symm; clear hwn))
    go_ret
    exact ⟨by rw [HR.out]; rfl, HB.out _ HB2.out⟩
  have hnb : ¬ ((kk < 0 ∨ (ts.length : Int) ≤ kk) ∨ true = false) := by simp; omega
  have HRoom1 : Hid (_) := HRoom.out hnb
  have HOld1 : Hid (_) := HOld.out hnb
  have HElse1 : Hid (_) := HElse.out hnb
  have hcast : ((jr.length : Int) + (ln.length : Int)) = ((jr.length + ln.length : Nat) : Int) := by omega
  clear HBad HRoom HOld HElse hno hnb
  by_cases hrm : 60000 < jr.length + ln.length
  · have HR : Hid (_) := HRoom1.out hrm
    have hj : decide (jr.length + ln.length ≤ 60000) = false := decide_eq_false (by omega)
    rw [hj, ← hcast] at HJ
    clear HRoom1 HOld1 HElse1 hj hcast
    go_wp2_with (first | (go_at_call 43; refine Calls.mono (HNo.out _) ?_; rintro e wn ⟨rfl, hwn⟩; obtain rfl := hwn.symm; clear hwn) | (go_at_call 44; refine Calls.mono (HKy.out _) ?_; rintro e wn ⟨rfl, hwn⟩; obtain rfl := hwn.symm; clear hwn) | (go_at_call 37; refine Calls.mono (HJ.out _) ?_; rintro e wn ⟨rfl, hwn⟩; obtain rfl := hwn.symm; clear hwn))
    go_ret
    exact ⟨by rw [HR.out]; rfl, HB.out _ HB2.out⟩
  have hj : decide (jr.length + ln.length ≤ 60000) = true := decide_eq_true (by omega)
  rw [hj, ← hcast] at HJ
  clear hj hcast
  by_cases hee : ee = ep
  · subst hee
    have HR : Hid (_) := HElse1.out hrm rfl
    obtain ⟨i, rfl⟩ : ∃ i : Nat, kk = (i : Int) := ⟨kk.toNat, by omega⟩
    rw [Int.toNat_natCast] at HR
    have HD2 : Hid (_) := HDc.out w2 i HB2.out (by omega)
    generalize codeV ts (ts.getD i ta0) = cd at HR HD2
    have heb : (ee != ee) = false := by simp
    clear HRoom1 HOld1 HElse1
    go_wp2_with (first | (go_at_call 43; refine Calls.mono (HNo.out _) ?_; rintro e wn ⟨rfl, hwn⟩; obtain rfl := hwn.symm; clear hwn) | (go_at_call 44; refine Calls.mono (HKy.out _) ?_; rintro e wn ⟨rfl, hwn⟩; obtain rfl := hwn.symm; clear hwn) | (go_at_call 37; refine Calls.mono (HJ.out _) ?_; rintro e wn ⟨rfl, hwn⟩; obtain rfl := hwn.symm; clear hwn) | (go_at_call 45; refine Calls.mono HD2.out ?_; rintro e w3 ⟨rfl, hb3⟩))
    go_ret
    exact ⟨by rw [HR.out]; rfl, HB.out _ (HB2.out.trans (hb3.mono HB2.out.size))⟩
  · have HR : Hid (_) := HOld1.out hrm hee
    have heb : (ee != ep) = true := by simp [hee]
    clear HRoom1 HOld1 HElse1
    go_wp2_with (first | (go_at_call 43; refine Calls.mono (HNo.out _) ?_; rintro e wn ⟨rfl, hwn⟩; obtain rfl := hwn.symm; clear hwn) | (go_at_call 44; refine Calls.mono (HKy.out _) ?_; rintro e wn ⟨rfl, hwn⟩; obtain rfl := hwn.symm; clear hwn) | (go_at_call 37; refine Calls.mono (HJ.out _) ?_; rintro e wn ⟨rfl, hwn⟩; obtain rfl := hwn.symm; clear hwn))
    go_ret
    exact ⟨by rw [HR.out]; rfl, HB.out _ HB2.out⟩

set_option maxHeartbeats 1000000 in
set_option maxRecDepth 100000 in
theorem implAsDone (nm : List UInt8) (na : Option Addr) (nl nc : Nat) (st wk un ke k2 : Int) (w : World) :
    Calls Tryd.prog 46 #[.agg #[.string ⟨nm.toArray⟩, .slice na nl nc, .int .i64 st, .int .i64 wk, .int .i64 un, .int .i64 ke], .int .i64 k2] w fun e w' => e = .returned (.agg #[.string ⟨nm.toArray⟩, .slice na nl nc, .int .i64 2, .int .i64 0, .int .i64 0, .int .i64 k2]) ∧ Below w.heap.size w w' := by
  obtain ⟨D, hD⟩ : ∃ D, w.heap.size = D := ⟨_, rfl⟩
  obtain ⟨W1, hW1⟩ : ∃ W, w.alloc (.cells #[.string ⟨nm.toArray⟩, .slice na nl nc, .int .i64 st, .int .i64 wk, .int .i64 un, .int .i64 ke] 52) = W := ⟨_, rfl⟩
  obtain ⟨W2, hW2⟩ : ∃ W, W1.alloc (.cells #[.string ⟨#[]⟩, .slice none 0 0, .int .i64 0, .int .i64 0, .int .i64 0, .int .i64 0] 52) = W := ⟨_, rfl⟩
  have hs1 : W1.heap.size = D + 1 := by rw [← hW1, ← hD]; simp
  have hb1 : Below D w W1 := by rw [← hW1, ← hD]; exact (Below.refl _ _).alloc (Nat.le_refl _) _
  have hb12 : Below W1.heap.size W1 W2 := by rw [← hW2]; exact (Below.refl _ _).alloc (Nat.le_refl _) _
  have HB : Hid (Below D w W2) := hb1.trans (hb12.mono (by omega))
  have bD := B6.new w (.string ⟨nm.toArray⟩) (.slice na nl nc) (.int .i64 st) (.int .i64 wk) (.int .i64 un) (.int .i64 ke) 52
  rw [hW1, hD] at bD
  have bR := B6.new W1 (.string ⟨#[]⟩) (.slice none 0 0) (.int .i64 0) (.int .i64 0) (.int .i64 0) (.int .i64 0) 52
  rw [hW2, hs1] at bR
  have bD2 := bD.below hb12
  have d0 := bD2.c0
  have d1 := bD2.c1
  have r0 := bR.c0
  have r1 := bR.c1
  have r2 := bR.c2
  have r3 := bR.c3
  have r4 := bR.c4
  have r5 := bR.c5
  have f0 := bR.fr 0
  have f1 := bR.fr 1
  have f2 := bR.fr 2
  have f3 := bR.fr 3
  have f4 := bR.fr 4
  have f5 := bR.fr 5
  obtain ⟨X, hX, y0, y1, y2, y3, y4, y5, hg⟩ := set6 (.string ⟨nm.toArray⟩) (.slice na nl nc) (.int .i64 2) (.int .i64 0) (.int .i64 0) (.int .i64 k2) r0 r1 r2 r3 r4 r5
  have HG : Hid (W2.grownBy X (some (D + 1)) ∧ D + 1 ≤ W2.heap.size) := ⟨hg, by have := bR.lt; omega⟩
  clear bD bR bD2 hb1 hb12 hg
  go_enter Tryd.func46, Tryd.ntmps46
  go_wp2
  refine bodyPost_ret (v := .agg #[.string ⟨nm.toArray⟩, .slice na nl nc, .int .i64 2, .int .i64 0, .int .i64 0, .int .i64 k2]) (by simp [results, Tryd.results46, go_sem, y0, y1, y2, y3, y4, y5]) rfl ?_
  exact ⟨rfl, by rw [hD]; exact HB.out.grown HG.out.1 (by have := HG.out.2; omega) (fun k e => by injection e with e; omega)⟩

end Go.Proofs.YtglhbcbilepomaaDoor

/-! A region that draws its order and stores, at its end, into a cell that it has read: what is held of the world is asked for behind every operation but those of E, which wait for all that is taken first. -/
namespace Go.Proofs.YtglhbcbilepomaaDoor
open Go.RowKit

section
variable {P : Program} {ops : Array Oper} {Q : Exit → Act → World → Prop} {md : Region.Mode} {S : World → Prop} {E : List Nat}

/-- Whatever comes up next, and so on to the end; S holds behind each that is not of E. -/
def Till (P : Program) (md : Region.Mode) (ops : Array Oper) (Q : Exit → Act → World → Prop) (E : List Nat) (S : World → Prop) : Nat → Array Bool → Act → World → Prop
  | 0 => fun listed a w => Region.ready md ops listed = [] ∧ Q .normal a w
  | k + 1 => fun listed a w => (Region.ready md ops listed = [] → Q .normal a w) ∧
      ∀ i, i ∈ Region.ready md ops listed → wpOp P ops Q i (fun b v => (i ∉ E → S v) ∧ Till P md ops Q E S k (listed.setIfInBounds i true) b v) a w

theorem Till.any : ∀ (k : Nat) {listed : Array Bool} {a : Act} {w : World}, Till P md ops Q E S k listed a w → wpAny P md ops Q k listed a w
  | 0, _, _, _, h => h
  | k + 1, _, _, _, h => ⟨h.1, fun i hi => wpOp_mono (fun _ _ x => Till.any k x.2) (h.2 i hi)⟩
theorem Till.done {listed : Array Bool} {a : Act} {w : World} (hr : Region.ready md ops listed = []) (h : Q .normal a w) : ∀ k, Till P md ops Q E S k listed a w
  | 0 => ⟨hr, h⟩
  | _ + 1 => ⟨fun _ => h, fun i hi => by rw [hr] at hi; cases hi⟩

/-- What has come up has come behind all that it waits for. -/
def Shut11 (md : Region.Mode) (ops : Array Oper) (listed : Array Bool) : Prop := ∀ j o, ops[j]? = some o → listed.getD j false = true → ∀ e ∈ o.after, Region.binds md e = true → listed.getD e.on false = true
theorem Shut11.start (n : Nat) : Shut11 md ops (Array.replicate n false) := fun j o _ h => by
  rw [Array.getD_eq_getD_getElem?] at h
  simp only [Array.getElem?_replicate] at h
  split at h <;> cases h
theorem Shut11.set {listed : Array Bool} {i : Nat} (h : Shut11 md ops listed) (hi : i ∈ Region.ready md ops listed) : Shut11 md ops (listed.setIfInBounds i true) := fun j o ho hj e he hb => by
  refine getD_set_true ?_
  rcases Nat.decEq i j with hne | heq
  · rw [getD_set_ne false hne] at hj
    exact h j o ho hj e he hb
  · subst heq
    obtain ⟨_, p, hp, hall⟩ := mem_ready.1 hi
    rw [ho] at hp
    injection hp with hp
    subst hp
    exact hall e he hb
/-- m waits for i, by way of others. -/
def waitsB (md : Region.Mode) (ops : Array Oper) : Nat → Nat → Nat → Bool
  | 0, _, _ => false
  | k + 1, m, i => match ops[m]? with
    | some o => o.after.any (fun e => Region.binds md e && (e.on == i || waitsB md ops k e.on i))
    | none => false
theorem waits_listed {listed : Array Bool} (h : Shut11 md ops listed) {i : Nat} : ∀ (k m : Nat), (∀ o, ops[m]? = some o → ∀ e ∈ o.after, Region.binds md e = true → listed.getD e.on false = true) → waitsB md ops k m i = true → listed.getD i false = true
  | 0, _, _, hw => by cases hw
  | k + 1, m, hd, hw => by
    unfold waitsB at hw
    cases ho : ops[m]? with
    | none => rw [ho] at hw; cases hw
    | some o =>
      rw [ho] at hw
      simp only [Array.any_eq_true'] at hw
      obtain ⟨e, he, h2⟩ := hw
      rw [Bool.and_eq_true, Bool.or_eq_true] at h2
      have hl := hd o ho e he h2.1
      rcases h2.2 with h3 | h3
      · rw [← beq_iff_eq.1 h3]; exact hl
      · exact waits_listed h k e.on (fun p hp f hf hb => h e.on p hp hl f hf hb) h3

/-- One that may come up, and for which all of E wait, is taken first. -/
theorem Till.first {i : Nat} {o : Oper} {v : Value} {d : Nat} (ho : ops[i]? = some o) (hE : E.all (fun m => waitsB md ops d m i) = true) (hsel : ∀ (j : Nat) (p : Oper) cs b, ops[j]? = some p → p.op ≠ .select cs b)
    (hQ : ∀ c a w, Q (.panic c) (a.put o.dst v) w → Q (.panic c) a w) : ∀ (k : Nat) (listed : Array Bool) (a : Act) (w : World), Shut11 md ops listed →
      (∀ j p, ops[j]? = some p → j ≠ i → listed.getD j true = false → (∀ e ∈ p.after, Region.binds md e = true → e.on ≠ i) → o.apart ops p = true) →
      i ∈ Region.ready md ops listed → YieldsIf P ops S o v a → S w →
      Till P md ops Q E S k (listed.setIfInBounds i true) (a.put o.dst v) w → Till P md ops Q E S (k + 1) listed a w := by
  intro k
  induction k with
  | zero =>
    intro listed a w hsh hfree hr hy hS H
    refine ⟨fun h => (by rw [h] at hr; cases hr), fun j hj => ?_⟩
    rcases Nat.decEq j i with hne | heq
    · have hji : j ∈ Region.ready md ops (listed.setIfInBounds i true) := ready_mono hj hne
      rw [H.1] at hji
      cases hji
    · subst heq
      exact hy.wpOp ho hS ⟨fun _ => hS, H⟩
  | succ k ih =>
    intro listed a w hsh hfree hr hy hS H
    refine ⟨fun h => (by rw [h] at hr; cases hr), fun j hj => ?_⟩
    rcases Nat.decEq j i with hne | heq
    · have hji : j ∈ Region.ready md ops (listed.setIfInBounds i true) := ready_mono hj hne
      obtain ⟨hun, p, hp, hall⟩ := mem_ready.1 hj
      have h0 : listed.getD i true = false := (mem_ready.1 hr).1
      have h0f : listed.getD i false = false := by
        rcases Nat.lt_or_ge i listed.size with hl | hl
        · simp [hl] at h0 ⊢; exact h0
        · simp [Array.getElem?_eq_none hl] at h0
      have hnot : ∀ e ∈ p.after, Region.binds md e = true → e.on ≠ i := fun e he hb hei => by
        have h1 := hall e he hb
        rw [hei, h0f] at h1
        cases h1
      have hjE : j ∉ E := fun hjE => by
        have h1 := waits_listed hsh d j (fun q hq e he hb => by rw [hp] at hq; injection hq with hq; subst hq; exact hall e he hb) (List.all_eq_true.1 hE j hjE)
        rw [h0f] at h1
        cases h1
      have h2 := wpOp_putIf hp (hfree j p hp hne hun hnot) (fun cs b => hsel i o cs b ho) (fun cs b => hsel j p cs b hp) hQ hy (H.2 j hji)
      have hfree' : ∀ q r, ops[q]? = some r → q ≠ i → (listed.setIfInBounds j true).getD q true = false → (∀ e ∈ r.after, Region.binds md e = true → e.on ≠ i) → o.apart ops r = true := fun q r hq hqi hqu hqn => by
        refine hfree q r hq hqi ?_ hqn
        rcases Nat.decEq j q with hjq | hjq
        · rw [getD_set_ne true hjq] at hqu; exact hqu
        · subst hjq; exact hun
      refine wpOp_mono (fun b u h3 => ⟨h3.2.1, ih (listed.setIfInBounds j true) b u (hsh.set hj) hfree' (ready_mono hr (Ne.symm hne)) h3.1 (h3.2.1 hjE) ?_⟩) h2
      rw [Array.setIfInBounds_comm _ _ hne]
      exact h3.2.2
    · subst heq
      exact hy.wpOp ho hS ⟨fun _ => hS, H⟩

/-! The moves of a walk. -/
theorem Till.region {id : Nat} {a : Act} {w : World} (hm : P.follows .mixedOrders = true) (hS : S w.drew) (h : S w.drew → Shut11 .any ops (Array.replicate ops.size false) → Till P .any ops Q E S ops.size (Array.replicate ops.size false) a w.drew) : (Code.region id ops true).wp P Q a w :=
  wp_region_any hm (Till.any _ (h hS (Shut11.start _)))
theorem Till.take {i : Nat} {o : Oper} {v : Value} {d k : Nat} {listed : Array Bool} {a : Act} {w : World} (ho : ops[i]? = some o) (hs : Region.noSelect ops = true) (hf : Region.free md ops listed i = true) (hr : (Region.ready md ops listed).contains i = true) (hE : E.all (fun m => waitsB md ops d m i) = true)
    (hQ : ∀ c a w, Q (.panic c) (a.put o.dst v) w → Q (.panic c) a w) (hy : YieldsIf P ops S o v a) (hS : S w) (hsh : Shut11 md ops listed)
    (h : Shut11 md ops (listed.setIfInBounds i true) → Till P md ops Q E S k (listed.setIfInBounds i true) (a.put o.dst v) w) : Till P md ops Q E S (k + 1) listed a w :=
  Till.first ho hE (Region.noSelect_spec hs) hQ k listed a w hsh (Region.free_spec ho hf) (by simpa using hr) hy hS (h (hsh.set (by simpa using hr)))
theorem Till.one {i : Nat} {o : Oper} {k : Nat} {listed : Array Bool} {a : Act} {w : World} (hr : Region.ready md ops listed = [i]) (ho : ops[i]? = some o) (hsh : Shut11 md ops listed)
    (h : ∀ K' : Act → World → Prop, Shut (∀ b v, S v → (S v → Shut11 md ops (listed.setIfInBounds i true) → Till P md ops Q E S k (listed.setIfInBounds i true) b v) → K' b v) → if Region.wanted o (yielded ops a.tmps) = true then Oper.wp P o a w K' Q else K' (a.put o.dst undef) w) : Till P md ops Q E S (k + 1) listed a w := by
  have hi : i ∈ Region.ready md ops listed := by rw [hr]; exact List.mem_singleton_self i
  refine ⟨fun h0 => (by rw [h0] at hi; cases hi), fun j hj => ?_⟩
  rw [hr] at hj
  obtain rfl := List.mem_singleton.1 hj
  exact wpOp_step ho (fun K' hK => h K' (fun b v hS hW => hK b v ⟨fun _ => hS, hW hS (hsh.set hi)⟩))
theorem Till.last {i : Nat} {o : Oper} {k : Nat} {listed : Array Bool} {a : Act} {w : World} (hr : Region.ready md ops listed = [i]) (ho : ops[i]? = some o) (hiE : i ∈ E)
    (h : ∀ K' : Act → World → Prop, Shut (∀ b v, Till P md ops Q E S k (listed.setIfInBounds i true) b v → K' b v) → if Region.wanted o (yielded ops a.tmps) = true then Oper.wp P o a w K' Q else K' (a.put o.dst undef) w) : Till P md ops Q E S (k + 1) listed a w := by
  have hi : i ∈ Region.ready md ops listed := by rw [hr]; exact List.mem_singleton_self i
  refine ⟨fun h0 => (by rw [h0] at hi; cases hi), fun j hj => ?_⟩
  rw [hr] at hj
  obtain rfl := List.mem_singleton.1 hj
  exact wpOp_step ho (fun K' hK => h K' (fun b v hW => hK b v ⟨fun hn => absurd hiE hn, hW⟩))
end

theorem step_of_wp {P : Program} {ops : Array Oper} {o : Oper} {a : Act} {w : World} {K : Act → World → Prop} {Q : Exit → Act → World → Prop} {E : Prop} (hgd : o.guard = none) (h : Oper.wp P o a w K Q) :
    if Region.wanted o (yielded ops a.tmps) = true then Oper.wp P o a w K Q else E := by
  rw [if_pos (by simp [Region.wanted, hgd])]
  exact h

end Go.Proofs.YtglhbcbilepomaaDoor
