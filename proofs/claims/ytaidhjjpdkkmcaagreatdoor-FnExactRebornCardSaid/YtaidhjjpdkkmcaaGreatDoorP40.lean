/-
  Parts of one proof, one behind the other: LendJ, RetI, RebI, RebI2, RetT, RetJ, RebI3.
-/
import Derived.Test.YtaidhjjpdkkmcaaGreatDoorP39
import Derived.Deep.RegionHeld3
import Derived.Test.YtaidhjjpdkkmcaaGreatDoorP38
import Derived.Test.YtaidhjjpdkkmcaaGreatDoorP33
import Derived.Test.YtaidhjjpdkkmcaaGreatDoorP14
import Derived.Test.YtaidhjjpdkkmcaaGreatDoorP34
import Derived.Test.YtaidhjjpdkkmcaaGreatDoorP35

/-! The contracts of chapter 18's landed code: needsDone, firstToLend, asLeased, Lent. -/
namespace Go.Proofs.YtaidhjjpdkkmcaaGreatDoor
open Go.RowKit

set_option maxHeartbeats 2000000 in
set_option maxRecDepth 100000 in
theorem implNeedsDone (a na : Option Addr) (len cap nc : Nat) (ts : List Ta) (ns : List Int) (w : World) (hin : TasksIn w a len ts) (hns : AsIn w na ns) (hnl : ns.length ≤ 1048576) (hlen : len ≤ 1048576) (hnd : ∀ q, q < ns.length → 0 ≤ ns.getD q 0 ∧ ns.getD q 0 < len) :
 Calls Tryz.prog 90 #[.slice a len cap, .slice na ns.length nc] w fun e w' => e = .returned (.bool (decide (∀ i, i < ns.length → (ts.getD (ns.getD i 0).toNat ta0).2.2.1 = 2))) ∧ w' = w := by
 obtain rfl : ts.length = len := hin.1
 have HI : Hid (TasksIn w a ts.length ts) := hin
 have HM : Hid (AsIn w na ns) := hns
 have HD : Hid (∀ q, q < ns.length → 0 ≤ ns.getD q 0 ∧ ns.getD q 0 < ts.length) := hnd
 have HN : Hid (∀ i, i < ns.length → (ts.getD (ns.getD i 0).toNat ta0).2.2.1 ≠ 2 → decide (∀ i, i < ns.length → (ts.getD (ns.getD i 0).toNat ta0).2.2.1 = 2) = false) := fun i hi h => decide_eq_false (fun e => h (e i hi))
 have HY : Hid ((∀ i, i < ns.length → (ts.getD (ns.getD i 0).toNat ta0).2.2.1 = 2) → decide (∀ i, i < ns.length → (ts.getD (ns.getD i 0).toNat ta0).2.2.1 = 2) = true) := fun h => decide_eq_true h
 generalize decide (∀ i, i < ns.length → (ts.getD (ns.getD i 0).toNat ta0).2.2.1 = 2) = res at HN HY ⊢
 clear hin hns hnd
 go_enter Tryz.func90, Tryz.ntmps90
 go_wp2
 go_loopw [9] (fun iv wr => ∃ i : Nat, iv = .int .i64 (i : Int) ∧ i ≤ ns.length ∧ Hid (∀ q, q < i → (ts.getD (ns.getD q 0).toNat ta0).2.2.1 = 2) ∧ wr = w) (fun iv _ => ns.length - (intOf iv).toNat)
 case atStart => exact ⟨0, rfl, Nat.zero_le _, (fun q hq => absurd hq (Nat.not_lt_zero _)), rfl⟩
 case round =>
  obtain ⟨i, rfl, hi, HA, hwr⟩ := hrel
  obtain rfl := hwr.symm
  by_cases hlt : (i : Int) < (ns.length : Int)
  ·
   obtain ⟨nb, no, rfl, _, d0⟩ := HM.out i (by omega)
   obtain ⟨h0, h1⟩ := HD.out i (by omega)
   have HNi : Hid (_) := HN.out i (by omega)
   obtain ⟨y, hy⟩ : ∃ y, ns.getD i 0 = y := ⟨_, rfl⟩
   rw [hy] at d0 h0 h1 HNi
   obtain ⟨m, rfl⟩ : ∃ m : Nat, y = (m : Int) := ⟨y.toNat, by omega⟩
   obtain ⟨b, off, rfl, hbl, _, _, c2, _⟩ := HI.out.2 m (by omega)
   rw [Int.toNat_natCast] at HNi
   obtain ⟨x, hx⟩ : ∃ x, (ts.getD m ta0).2.2.1 = x := ⟨_, rfl⟩
   rw [hx] at c2 HNi
   by_cases h2 : x = 2
   ·
    have HR : Hid (∀ q, q < i + 1 → (ts.getD (ns.getD q 0).toNat ta0).2.2.1 = 2) := fun q hq => by
     rcases Nat.lt_or_ge q i with g | g
     ·
      exact HA.out q g
     ·
      obtain rfl : q = i := by omega
      rw [hy, Int.toNat_natCast, hx]; exact h2
    clear HA hx hy HNi
    subst h2
    go_wp2
    go_roundw
    case rel => exact ⟨i + 1, by go_num, by omega, HR, trivial⟩
    case measure => simp [intOf]; omega
   ·
    have HF : Hid (res = false) := HNi.out h2
    have hxb : (x != 2) = true := by simp [h2]
    clear HA hx hy HN HY HNi
    go_wp2
    go_ret
    exact ⟨by rw [HF.out]; rfl, rfl⟩
  ·
   have HF : Hid (res = true) := HY.out (fun q hq => HA.out q (by omega))
   clear HA HN HY
   go_wp2
   go_ret
   exact ⟨by rw [HF.out]; rfl, rfl⟩




end Go.Proofs.YtaidhjjpdkkmcaaGreatDoor

/-! The contracts of chapter 18's landed code: doneText, numberOfTaskOk, doneCode, returnCode, asDone. -/
namespace Go.Proofs.YtaidhjjpdkkmcaaGreatDoor
open Go.RowKit

theorem fmtInt64 (n : Int) (w : World) (ht : PowIs w) (h0 : -9223372036854775808 ≤ n) (h1 : n ≤ 9223372036854775807) :
 Calls Tryz.prog 86 #[.int .i64 n, .int .i64 10] w fun e w' => e = .returned (.string ⟨(intL n).toArray⟩) ∧ Below w.heap.size w w' := by
 refine (Tryz.strconv_FormatInt_10 n (by omega) (by omega) w ht).mono ?_
 rintro e w' ⟨rfl, k, os, rfl⟩
 exact ⟨by rw [itoa_int], Lib.below_grow _ w (Nat.le_refl _) k os⟩

set_option maxHeartbeats 1000000 in
set_option maxRecDepth 100000 in
theorem implDoneText (k key : Int) (w : World) (ht : PowIs w) (hk0 : -9223372036854775808 ≤ k) (hk1 : k ≤ 9223372036854775807) (hy0 : -9223372036854775808 ≤ key) (hy1 : key ≤ 9223372036854775807) :
 Calls Tryz.prog 89 #[.int .i64 k, .int .i64 key] w fun e w' => e = .returned (.string ⟨(doneT k key).toArray⟩) ∧ Below w.heap.size w w' := by
 have HF1 : Hid (_) := fmtInt64 k w ht hk0 hk1
 have HF2 : Hid (∀ Z, Below w.heap.size w Z → _) := fun Z hz => fmtInt64 key Z (ht.below hz) hy0 hy1
 have HDT : Hid (doneT k key = (([100, 111, 110, 101, 32] ++ intL k) ++ [32]) ++ intL key) := rfl
 have hcat := cat_list
 have hi1 := intL_len64 hk0 hk1
 have hi2 := intL_len64 hy0 hy1
 have hd5 : (⟨#[100, 111, 110, 101, 32]⟩ : ByteArray) = ⟨([100, 111, 110, 101, 32] : List UInt8).toArray⟩ := rfl
 have hd1 : (⟨#[32]⟩ : ByteArray) = ⟨([32] : List UInt8).toArray⟩ := rfl
 rw [HDT.out]
 clear ht HDT
 go_enter Tryz.func89, Tryz.ntmps89
 go_wp2_with fail
 refine Calls.mono HF1.out ?_
 rintro e w1 ⟨rfl, hb1⟩
 have HB1 : Hid (Below w.heap.size w w1) := hb1
 clear hb1
 go_wp2_with fail
 refine Calls.mono (HF2.out _ HB1.out) ?_
 rintro e w2 ⟨rfl, hb2⟩
 have HB2 : Hid (Below w.heap.size w w2) := HB1.out.trans (hb2.mono HB1.out.size)
 clear hb2
 go_wp2
 go_ret
 exact ⟨by simp, HB2.out⟩

theorem implNumOk (a : Option Addr) (n c : Nat) (k : Int) (w : World) :
 Calls Tryz.prog 56 #[.slice a n c, .int .i64 k] w fun e w' => e = .returned (.bool (decide (0 ≤ k ∧ k < (n : Int)))) ∧ w' = w := by
 by_cases h0 : 0 ≤ k
 ·
  by_cases h1 : k < (n : Int)
  ·
   have HR : Hid (decide (0 ≤ k ∧ k < (n : Int)) = true) := decide_eq_true ⟨h0, h1⟩
   generalize decide (0 ≤ k ∧ k < (n : Int)) = res at HR ⊢
   go_enter Tryz.func56, Tryz.ntmps56
   go_wp2
   go_ret
   exact ⟨by rw [HR.out]; rfl, rfl⟩
  ·
   have HR : Hid (decide (0 ≤ k ∧ k < (n : Int)) = false) := decide_eq_false (fun h => h1 h.2)
   generalize decide (0 ≤ k ∧ k < (n : Int)) = res at HR ⊢
   go_enter Tryz.func56, Tryz.ntmps56
   go_wp2
   go_ret
   exact ⟨by rw [HR.out]; rfl, rfl⟩
 ·
  have HR : Hid (decide (0 ≤ k ∧ k < (n : Int)) = false) := decide_eq_false (fun h => h0 h.1)
  generalize decide (0 ≤ k ∧ k < (n : Int)) = res at HR ⊢
  go_enter Tryz.func56, Tryz.ntmps56
  go_wp2
  go_ret
  exact ⟨by rw [HR.out]; rfl, rfl⟩

def codeV (ts : List Ta) (t : Ta) : Int := if t.2.2.1 = 2 then 2 else if free18 ts t = false then 4 else 0
set_option maxHeartbeats 1000000 in
set_option maxRecDepth 100000 in
theorem implDoneCode (a : Option Addr) (len cap : Nat) (ts : List Ta) (i : Nat) (w : World) (hin : TasksIn w a len ts) (hsh : ShortTa ts) (hlen : len ≤ 1048576) (hi : i < len) (hnd : ∀ q, q < (ts.getD i ta0).2.1.length → 0 ≤ (ts.getD i ta0).2.1.getD q 0 ∧ (ts.getD i ta0).2.1.getD q 0 < len) :
 Calls Tryz.prog 58 #[.slice a len cap, .int .i64 (i : Int)] w fun e w' => e = .returned (.int .i64 (codeV ts (ts.getD i ta0))) ∧ Below w.heap.size w w' := by
 obtain ⟨b, off, e, hbl, c0, ⟨na, nc, c1, hn1⟩, c2, c3, c4, c5⟩ := hin.2 i hi
 have hsi := (hsh i).2
 obtain ⟨x, hx⟩ : ∃ x, ts.getD i ta0 = x := ⟨_, rfl⟩
 rw [hx] at c0 c1 c2 c3 c4 c5 hn1 hsi hnd ⊢
 obtain ⟨nm, ns, st, wk, un, ke⟩ := x
 simp only at c0 c1 c2 c3 c4 c5 hn1 hsi hnd
 obtain ⟨Y, hY⟩ : ∃ Y, w.alloc (.cells #[.string ⟨nm.toArray⟩, .slice na ns.length nc, .int .i64 st, .int .i64 wk, .int .i64 un, .int .i64 ke] 72) = Y := ⟨_, rfl⟩
 have hbY : Below w.heap.size w Y := by rw [← hY]; exact (Below.refl _ _).alloc (Nat.le_refl _) _
 have bE := B6.new w (.string ⟨nm.toArray⟩) (.slice na ns.length nc) (.int .i64 st) (.int .i64 wk) (.int .i64 un) (.int .i64 ke) 72
 rw [hY] at bE
 have HN : Hid (_) := implNeedsDone a na len cap nc ts ns Y (hin.below hbY) (hn1.below hbY) hsi hlen hnd
 have HFr : Hid (free18 ts (nm, ns, st, wk, un, ke) = decide (∀ i, i < ns.length → (ts.getD (ns.getD i 0).toNat ta0).2.2.1 = 2)) := rfl
 have HC : Hid (codeV ts (nm, ns, st, wk, un, ke) = if st = 2 then 2 else if free18 ts (nm, ns, st, wk, un, ke) = false then 4 else 0) := rfl
 rw [HFr.out] at HC
 generalize codeV ts (nm, ns, st, wk, un, ke) = res at HC ⊢
 generalize decide (∀ i, i < ns.length → (ts.getD (ns.getD i 0).toNat ta0).2.2.1 = 2) = fr at HN HC
 obtain ⟨E, hE⟩ : ∃ E, w.heap.size = E := ⟨_, rfl⟩
 rw [hE] at bE
 have y1 := bE.c1
 have y2 := bE.c2
 have HB : Hid (Below w.heap.size w Y) := hbY
 subst e
 clear hin hsh hx hn1 hsi hnd bE hbY HFr
 by_cases h2 : st = 2
 ·
  have HR : Hid (res = 2) := by exact (by rw [HC.out, if_pos h2] : res = 2)
  subst h2
  clear HC HN
  go_enter Tryz.func58, Tryz.ntmps58
  go_wp2
  go_ret
  exact ⟨by rw [HR.out]; rfl, HB.out⟩
 ·
  have h2b : (st == 2) = false := beq_eq_false_iff_ne.2 h2
  rcases fr with _ | _
  ·
   have HR : Hid (res = 4) := by exact (by rw [HC.out, if_neg h2, if_pos rfl] : res = 4)
   clear HC
   go_enter Tryz.func58, Tryz.ntmps58
   go_wp2_with (go_at_call 90; refine Calls.mono HN.out ?_; rintro e wn ⟨rfl, rfl⟩)
   go_ret
   exact ⟨by rw [HR.out]; rfl, HB.out⟩
  ·
   have HR : Hid (res = 0) := by exact (by rw [HC.out, if_neg h2, if_neg (by simp)] : res = 0)
   clear HC
   go_enter Tryz.func58, Tryz.ntmps58
   go_wp2_with (go_at_call 90; refine Calls.mono HN.out ?_; rintro e wn ⟨rfl, rfl⟩)
   go_ret
   exact ⟨by rw [HR.out]; rfl, HB.out⟩


set_option maxHeartbeats 1000000 in
set_option maxRecDepth 100000 in
theorem implAsDone (nm : List UInt8) (na : Option Addr) (nl nc : Nat) (st wk un ke k2 : Int) (w : World) :
 Calls Tryz.prog 91 #[.agg #[.string ⟨nm.toArray⟩, .slice na nl nc, .int .i64 st, .int .i64 wk, .int .i64 un, .int .i64 ke], .int .i64 k2] w fun e w' => e = .returned (.agg #[.string ⟨nm.toArray⟩, .slice na nl nc, .int .i64 2, .int .i64 0, .int .i64 0, .int .i64 k2]) ∧ Below w.heap.size w w' := by
 obtain ⟨D, hD⟩ : ∃ D, w.heap.size = D := ⟨_, rfl⟩
 obtain ⟨W1, hW1⟩ : ∃ W, w.alloc (.cells #[.string ⟨nm.toArray⟩, .slice na nl nc, .int .i64 st, .int .i64 wk, .int .i64 un, .int .i64 ke] 72) = W := ⟨_, rfl⟩
 obtain ⟨W2, hW2⟩ : ∃ W, W1.alloc (.cells #[.string ⟨#[]⟩, .slice none 0 0, .int .i64 0, .int .i64 0, .int .i64 0, .int .i64 0] 72) = W := ⟨_, rfl⟩
 have hs1 : W1.heap.size = D + 1 := by rw [← hW1, ← hD]; simp
 have hb1 : Below D w W1 := by rw [← hW1, ← hD]; exact (Below.refl _ _).alloc (Nat.le_refl _) _
 have hb12 : Below W1.heap.size W1 W2 := by rw [← hW2]; exact (Below.refl _ _).alloc (Nat.le_refl _) _
 have HB : Hid (Below D w W2) := hb1.trans (hb12.mono (by omega))
 have bD := B6.new w (.string ⟨nm.toArray⟩) (.slice na nl nc) (.int .i64 st) (.int .i64 wk) (.int .i64 un) (.int .i64 ke) 72
 rw [hW1, hD] at bD
 have bR := B6.new W1 (.string ⟨#[]⟩) (.slice none 0 0) (.int .i64 0) (.int .i64 0) (.int .i64 0) (.int .i64 0) 72
 rw [hW2, hs1] at bR
 have bD2 := bD.below hb12
 have d0 := bD2.c0
 have d1 := bD2.c1
 have r0 := bR.c0
 have r1 := bR.c1
 have r2 := bR.c2
 have r3 := bR.c3
 have r4 := bR.c4
 have r5 := bR.c5
 have f0 := bR.fr 0
 have f1 := bR.fr 1
 have f2 := bR.fr 2
 have f3 := bR.fr 3
 have f4 := bR.fr 4
 have f5 := bR.fr 5
 obtain ⟨X, hX, y0, y1, y2, y3, y4, y5, hg⟩ := set6 (.string ⟨nm.toArray⟩) (.slice na nl nc) (.int .i64 2) (.int .i64 0) (.int .i64 0) (.int .i64 k2) r0 r1 r2 r3 r4 r5
 have HG : Hid (W2.grownBy X (some (D + 1)) ∧ D + 1 ≤ W2.heap.size) := ⟨hg, by have := bR.lt; omega⟩
 clear bD bR bD2 hb1 hb12 hg
 go_enter Tryz.func91, Tryz.ntmps91
 go_wp2
 refine bodyPost_ret (v := .agg #[.string ⟨nm.toArray⟩, .slice na nl nc, .int .i64 2, .int .i64 0, .int .i64 0, .int .i64 k2]) (by simp [results, Tryz.results91, go_sem, y0, y1, y2, y3, y4, y5]) rfl ?_
 exact ⟨rfl, by rw [hD]; exact HB.out.grown HG.out.1 (by have := HG.out.2; omega) (fun k e => by injection e with e; omega)⟩

end Go.Proofs.YtaidhjjpdkkmcaaGreatDoor

/-! The contract of chapter 18's landed code: doneIn. -/
namespace Go.Proofs.YtaidhjjpdkkmcaaGreatDoor
open Go.RowKit

/-- What doneIn reads: three words, two of them numbers, and the text that these make. -/
noncomputable def dnV (f : List UInt8) : Int × Int × Bool :=
 if (wordsL f).length = 3 then (readV ((wordsL f).getD 1 []), readV ((wordsL f).getD 2 []), decide (f = doneT (readV ((wordsL f).getD 1 [])) (readV ((wordsL f).getD 2 [])))) else (0, 0, false)
theorem wordsL_part (l : List UInt8) (i : Nat) : ((wordsL l).getD i []).length ≤ l.length := by
 by_cases hi : i < (wordsL l).length
 ·
  have hg : (wordsL l).getD i [] = (wordsL l)[i] := by simp [List.getD, hi]
  rw [hg]
  have h1 : ((wordsL l)[i]).length ≤ (wordsL l).flatten.length := by
   have hm := List.getElem_mem hi
   generalize (wordsL l)[i] = x at hm ⊢
   generalize wordsL l = ws at hm ⊢
   clear hi hg
   induction ws with
   | nil => cases hm
   | cons a r ih =>
    rw [List.flatten_cons, List.length_append]
    rcases List.mem_cons.1 hm with e | h
    ·
     subst e; omega
    ·
     have := ih h; omega
  have h2 : (wordsL l).flatten.length ≤ l.length := by
   unfold wordsL
   split
   ·
    simp
   ·
    have := splitGo_flat 32 l []
    simpa [splitL] using this
  omega
 ·
  rw [List.getD_eq_getElem?_getD, List.getElem?_eq_none (by omega)]
  simp

set_option maxHeartbeats 2000000 in
set_option maxRecDepth 100000 in
theorem implDoneIn (f : List UInt8) (w : World) (ht : ∀ Z, Below w.heap.size w Z → PowIs Z) (hl : f.length ≤ 1048576) :
 Calls Tryz.prog 55 #[.string ⟨f.toArray⟩] w fun e w' => e = .returned (.tuple #[.int .i64 (dnV f).1, .int .i64 (dnV f).2.1, .bool (dnV f).2.2]) ∧ Below w.heap.size w w' := by
 have HW : Hid (_) := implWords f w hl
 have hp1 := wordsL_part f 1
 have hp2 := wordsL_part f 2
 have HV : Hid (dnV f = if (wordsL f).length = 3 then (readV ((wordsL f).getD 1 []), readV ((wordsL f).getD 2 []), decide (f = doneT (readV ((wordsL f).getD 1 [])) (readV ((wordsL f).getD 2 [])))) else (0, 0, false)) := rfl
 generalize dnV f = res at HV ⊢
 generalize wordsL f = ws at HW HV hp1 hp2
 by_cases h3 : ws.length = 3
 ·
  rw [if_pos h3] at HV
  have HN1 : Hid (∀ Z, _) := fun Z => implNumberIn (ws.getD 1 []) Z (by omega)
  have HN2 : Hid (∀ Z, _) := fun Z => implNumberIn (ws.getD 2 []) Z (by omega)
  have hb1 := readV_bd (ws.getD 1 [])
  have hb2 := readV_bd (ws.getD 2 [])
  have HT : Hid (∀ Z, Below w.heap.size w Z → _) := fun Z (hz : Below w.heap.size w Z) => implDoneText (readV (ws.getD 1 [])) (readV (ws.getD 2 [])) Z (ht Z hz) (by omega) (by omega) (by omega) (by omega)
  obtain ⟨x, hx⟩ : ∃ x, ws.getD 1 [] = x := ⟨_, rfl⟩
  obtain ⟨y, hy⟩ : ∃ y, ws.getD 2 [] = y := ⟨_, rfl⟩
  rw [hx, hy] at HT HV
  rw [hx] at HN1
  rw [hy] at HN2
  generalize hvx : readV x = k at HT HV HN1
  generalize hvy : readV y = key at HT HV HN2
  obtain ⟨t, htx⟩ : ∃ t, doneT k key = t := ⟨_, rfl⟩
  rw [htx] at HT HV
  have HXY : Hid (ws.getD 1 [] = x ∧ ws.getD 2 [] = y) := ⟨hx, hy⟩
  have HFF : Hid (decide (f = t) = (f == t)) := by exact (by by_cases e : f = t <;> simp [e] : decide (f = t) = (f == t))
  rw [HFF.out] at HV
  clear hp1 hp2 hx hy hvx hvy htx ht hb1 hb2
  go_enter Tryz.func55, Tryz.ntmps55
  go_wp2_with fail
  refine Calls.mono HW.out ?_
  rintro e w1 ⟨v, rfl, ho, hb1⟩
  obtain ⟨_, a, c, rfl, hin⟩ := own_texts ho
  rw [h3] at hin ⊢
  obtain ⟨b, off, rfl, hbl, d1⟩ := hin.2 1 (by omega)
  obtain ⟨_, _, e2, _, d2⟩ := hin.2 2 (by omega)
  injection e2 with e2
  injection e2 with e3 e4 _
  subst e3 e4
  rw [HXY.out.1] at d1
  rw [HXY.out.2] at d2
  have HB1 : Hid (Below w.heap.size w w1) := hb1
  have HD2 : Hid (∀ Z, Below w1.heap.size w1 Z → Z.cell? ⟨b, off + 2, none⟩ = some (.string ⟨y.toArray⟩)) := fun Z hz => (hz.cell (p := ⟨b, off + 2, none⟩) hbl).trans d2
  clear ho hin hb1 d2 HW
  go_wp2_with fail
  refine Calls.mono (HN1.out _) ?_
  rintro e w2 ⟨rfl, hb2⟩
  have HB2 : Hid (Below w.heap.size w w2) := HB1.out.trans (hb2.mono HB1.out.size)
  have d2 := HD2.out w2 hb2
  clear hb2 d1
  go_wp2_with fail
  refine Calls.mono (HN2.out _) ?_
  rintro e w3 ⟨rfl, hb3⟩
  have HB3 : Hid (Below w.heap.size w w3) := HB2.out.trans (hb3.mono HB2.out.size)
  clear hb3 d2
  go_wp2_with fail
  refine Calls.mono (HT.out _ HB3.out) ?_
  rintro e w4 ⟨rfl, hb4⟩
  have HB4 : Hid (Below w.heap.size w w4) := HB3.out.trans (hb4.mono HB3.out.size)
  clear hb4
  go_wp2
  go_ret3
  exact ⟨by rw [HV.out]; rfl, HB4.out⟩
 ·
  rw [if_neg h3] at HV
  obtain ⟨n, hn⟩ : ∃ n, ws.length = n := ⟨_, rfl⟩
  rw [hn] at HW h3
  have h3i : ¬ (n : Int) = 3 := by omega
  have h3b : ((n : Int) != 3) = true := by simp [h3i]
  clear hp1 hp2 ht hn
  go_enter Tryz.func55, Tryz.ntmps55
  go_wp2_with fail
  refine Calls.mono HW.out ?_
  rintro e w1 ⟨v, rfl, ho, hb1⟩
  obtain ⟨a, c, rfl⟩ := own_slice18 ho
  have HB1 : Hid (Below w.heap.size w w1) := hb1
  clear ho hb1
  go_wp2
  go_ret3
  exact ⟨by rw [HV.out]; rfl, HB1.out⟩

end Go.Proofs.YtaidhjjpdkkmcaaGreatDoor

/-! The contract of chapter 18's landed code: doAgain, at a start. -/
namespace Go.Proofs.YtaidhjjpdkkmcaaGreatDoor
open Go.RowKit

set_option maxHeartbeats 2000000 in
set_option maxRecDepth 100000 in
theorem implAgainStart (B base : Nat) (v0 : Value) (ep nw : Int) (jr : List UInt8) (w : World) (hb4 : B4 w B v0 (.int .i64 ep) (.int .i64 nw) (.string ⟨jr.toArray⟩)) (hbase : base ≤ w.heap.size) (hbB : base ≤ B)
 (h0 : 0 ≤ ep) (h1 : ep ≤ 1000000) (hj : jr.length ≤ 60000) (ht : ∀ Z, Below base w Z → PowIs Z) :
 Calls Tryz.prog 22 #[.pointer (some ⟨B, 0, none⟩), .string ⟨(startT (ep + 1)).toArray⟩] w fun e w' => e = .returned (.bool true) ∧ B4 w' B v0 (.int .i64 (ep + 1)) (.int .i64 nw) (.string ⟨(jr ++ startL (ep + 1)).toArray⟩) ∧ w.grownBy w' (some B) := by
 have HS1 : Hid (_) := implStartText (ep + 1) w (ht w (Below.refl _ _)) (by omega) (by omega)
 have HS2 : Hid (∀ Z, Below w.heap.size w Z → _) := fun Z hz => implStart B base v0 ep nw jr Z (hb4.below hz) (Nat.le_trans hbase hz.size) hbB h0 h1 hj (fun X hX => ht X ((hz.mono hbase).trans hX))
 have hwi : IntKind.i64.wrap (ep + 1) = ep + 1 := by rw [IntKind.wrap_i64]; omega
 have b1 := hb4.c1
 generalize startT (ep + 1) = t at HS1 ⊢
 have hself : (t == t) = true := by simp
 clear ht hb4
 go_enter Tryz.func22, Tryz.ntmps22
 go_wp2_with fail
 refine Calls.mono HS1.out ?_
 rintro e w1 ⟨rfl, hb1⟩
 have HB1 : Hid (Below w.heap.size w w1) := hb1
 have HC : Hid (_) := HS2.out w1 hb1
 clear hb1 b1 HS1 HS2
 go_wp2_with fail
 refine Calls.mono HC.out ?_
 rintro e w2 ⟨rfl, b4, hg⟩
 have HG : Hid (B4 w2 B v0 (.int .i64 (ep + 1)) (.int .i64 nw) (.string ⟨(jr ++ startL (ep + 1)).toArray⟩) ∧ w.grownBy w2 (some B)) := ⟨b4, (below_row18 HB1.out _).trans hg⟩
 clear b4 hg HC
 go_wp2
 go_ret
 exact ⟨rfl, HG.out.1, HG.out.2⟩

end Go.Proofs.YtaidhjjpdkkmcaaGreatDoor

/-! The contract of chapter 18's specification: Returned. -/
namespace Go.Proofs.YtaidhjjpdkkmcaaGreatDoor
open Go.RowKit


end Go.Proofs.YtaidhjjpdkkmcaaGreatDoor

/-! The contract of chapter 18's landed code: writeDown. -/
namespace Go.Proofs.YtaidhjjpdkkmcaaGreatDoor
open Go.RowKit

set_option maxHeartbeats 8000000 in
set_option maxRecDepth 100000 in
theorem implWriteDownW (B base : Nat) (va : Option Addr) (vc : Nat) (xs : List TV) (ts : List Ta) (ep nw : Int) (jr : List UInt8) (i : Nat) (key : Int) (w : World) (hb4 : B4 w B (.slice va ts.length vc) (.int .i64 ep) (.int .i64 nw) (.string ⟨jr.toArray⟩)) (ho : TksOwn w base (.slice va ts.length vc) xs) (hx : xs.map (·.1) = ts) (hap : ApartR (xs.map tvT)) (hne : ∀ k, TkBlocks (.slice va ts.length vc) xs k → k ≠ B) (hbase : base ≤ w.heap.size) (hbB : base ≤ B)
 (hi : i < ts.length) (hn : ts.length ≤ 1048576) (hj : jr.length ≤ 60000) (ht : ∀ Z, Below base w Z → PowIs Z) (hy0 : -9223372036854775808 ≤ key) (hy1 : key ≤ 9223372036854775807) :
 Calls Tryz.prog 59 #[.pointer (some ⟨B, 0, none⟩), .int .i64 (i : Int), .int .i64 key] w fun e w' => e = .returned (.tuple #[]) ∧ ∃ xs', xs'.map (·.1) = ts.set i (done18 (ts.getD i ta0) key) ∧ TksOwn w' base (.slice va ts.length vc) xs' ∧ ApartR (xs'.map tvT) ∧ B4 w' B (.slice va ts.length vc) (.int .i64 ep) (.int .i64 nw) (.string ⟨(jr ++ lineR (i : Int) key).toArray⟩) ∧ WroteR w w' (fun k => (Value.slice va ts.length vc).ownBlock = some k ∨ k = B) ∧ (∀ k, TkBlocks (.slice va ts.length vc) xs' k → TkBlocks (.slice va ts.length vc) xs k) := by
 obtain ⟨g, cp, he⟩ := own_some ho.row (by rw [← hx, List.length_map] at hi; omega)
 injection he with e1 e2 e3
 subst e1 e3
 have hxl : xs.length = ts.length := e2.symm
 have HTx : Hid (∀ Z, Below base w Z → _) := fun Z (hz : Below base w Z) => implDoneText (i : Int) key Z (ht Z hz) (by omega) (by omega) hy0 hy1
 have HFm : Hid (∀ Z, _) := fun Z => implFramed (doneT (i : Int) key) Z (by have := doneT_len (k := (i : Int)) (by omega) (by omega) hy0 hy1; omega)
 have hlr : framedS (doneT (i : Int) key) = lineR (i : Int) key := rfl
 rw [hlr] at HFm
 have hll := lineR_len (k := (i : Int)) (by omega) (by omega) hy0 hy1
 generalize lineR (i : Int) key = ln at HFm hll ⊢
 generalize doneT (i : Int) key = dt at HTx HFm
 have HO : Hid (∀ Z, Below w.heap.size w Z → TksOwn Z base (.slice (some ⟨g, 0, none⟩) ts.length vc) xs) := fun Z hz => ho.below hz
 have HBx : Hid (∀ Z, Below w.heap.size w Z → B4 Z B (.slice (some ⟨g, 0, none⟩) ts.length vc) (.int .i64 ep) (.int .i64 nw) (.string ⟨jr.toArray⟩)) := fun Z hz => hb4.below hz
 have HX : Hid (xs.map (·.1) = ts ∧ ApartR (xs.map tvT) ∧ xs.length = ts.length) := ⟨hx, hap, hxl⟩
 have HgB : Hid (g ≠ B ∧ base ≤ g ∧ base ≤ w.heap.size ∧ base ≤ B) := ⟨hne g (Or.inl rfl), (ho.row.lt g rfl).1, hbase, hbB⟩
 have HNe : Hid (∀ k, TkBlocks (.slice (some ⟨g, 0, none⟩) ts.length vc) xs k → k ≠ B) := hne
 have HX1 : Hid (_) := getD_xs hx (i := i) (by omega)
 have hix : i < xs.length := by omega
 have hgx : xs.getD i tv0 = xs[i] := by simp [List.getD, hix]
 have HT : Hid (_) := tksV_at xs i hix
 rw [hgx] at HT
 obtain ⟨tv, htv⟩ : ∃ tv, xs[i] = tv := ⟨_, rfl⟩
 rw [htv] at HT HX1
 have HTV : Hid (∃ h : i < xs.length, xs[i] = tv) := ⟨hix, htv⟩
 obtain ⟨⟨nm, ns, st, wk, un, ke⟩, na, nc⟩ := tv
 simp only [tvT] at HT
 simp only at HX1
 have HXi : Hid ((nm, ns, st, wk, un, ke) = ts.getD i ta0) := HX1.out
 have HRow : Hid (∀ Z, Below w.heap.size w Z → Z.ownsRow base 72 6 (.slice (some ⟨g, 0, none⟩) ts.length vc) ts.length (tksV xs)) := fun Z hz => by
  have h := (HO.out Z hz).row
  rw [HX.out.2.2] at h
  exact h
 have HCe : Hid (∀ Z, Below w.heap.size w Z → Z.cell? ⟨g, i * 6, none⟩ = some (.string ⟨nm.toArray⟩) ∧ Z.cell? ⟨g, i * 6 + 1, none⟩ = some (.slice na ns.length nc) ∧ Z.cell? ⟨g, i * 6 + 2, none⟩ = some (.int .i64 st) ∧ Z.cell? ⟨g, i * 6 + 3, none⟩ = some (.int .i64 wk) ∧ Z.cell? ⟨g, i * 6 + 4, none⟩ = some (.int .i64 un) ∧ Z.cell? ⟨g, i * 6 + 5, none⟩ = some (.int .i64 ke)) := fun Z hz => by
  obtain ⟨v0, v1, v2, v3, v4, v5⟩ := HT.out
  have hr := HRow.out Z hz
  exact ⟨(hr.cellAt _ (by omega)).trans v0, (hr.cellAt _ (by omega)).trans v1, (hr.cellAt _ (by omega)).trans v2, (hr.cellAt _ (by omega)).trans v3, (hr.cellAt _ (by omega)).trans v4, (hr.cellAt _ (by omega)).trans v5⟩
 have HAs : Hid (∀ Z, _) := fun Z => implAsDone nm na ns.length nc st wk un ke key Z
 have hwi : IntKind.i64.wrap (i : Int) = (i : Int) := by rw [IntKind.wrap_i64]; omega
 have HB0 : Hid (Below w.heap.size w w.drew) := ⟨rfl, rfl, rfl, Nat.le_refl _, fun _ _ => rfl⟩
 have b0 := (HBx.out w (Below.refl _ _)).c0
 obtain ⟨c0, c1, c2, c3, c4, c5⟩ := HCe.out w (Below.refl _ _)
 clear hb4 ho hx hap hne hbase hbB hxl e2 HX1 hgx htv hix hlr ht
 go_enter Tryz.func59, Tryz.ntmps59
 go_wp2
 refine Till.region (S := (fun Z => Z.cell? ⟨B, 0, none⟩ = some (.slice (some ⟨g, 0, none⟩) ts.length vc) ∧ Z.cell? ⟨g, i * 6, none⟩ = some (.string ⟨nm.toArray⟩) ∧ Z.cell? ⟨g, i * 6 + 1, none⟩ = some (.slice na ns.length nc) ∧ Z.cell? ⟨g, i * 6 + 2, none⟩ = some (.int .i64 st) ∧ Z.cell? ⟨g, i * 6 + 3, none⟩ = some (.int .i64 wk) ∧ Z.cell? ⟨g, i * 6 + 4, none⟩ = some (.int .i64 un) ∧ Z.cell? ⟨g, i * 6 + 5, none⟩ = some (.int .i64 ke))) (E := [15]) (by kernel_rfl) ?_ (fun hHeld hSh => ?_)
 ·
  exact ⟨b0, c0, c1, c2, c3, c4, c5⟩
 refine tkO [(0, 6), (1, 7), (2, 8), (3, 9), (4, 10), (5, 11), (6, 12), (7, 13), (8, 14), (9, 15), (10, 16), (11, 17), (12, 18)] ?_
 repeat (refine tlY ?_ rfl (by rfl) ?_ (fun hSh2 => ?_); rotate_left; (focus (intro wq hSw; (try dsimp only at hSw); first | (go_simp; done) | (go_simp; with_reducible rfl))); clear hSh; rename Shut11 _ _ _ => hSh; simp only [zP])
 refine tkZ ?_
 refine Till.one (i := 13) (by kernel_rfl) rfl hSh (fun K hK => ?_)
 clear hSh
 go_simp
 (go_at_call 91; refine Calls.mono (HAs.out _) ?_; rintro e w6 ⟨rfl, hb6⟩; have HB6 : Hid (Below w.heap.size w w6) := HB0.out.trans (hb6.mono HB0.out.size); clear hb6 b0 c0 c1 c2 c3 c4 c5; have b0 := (HBx.out w6 HB6.out).c0; obtain ⟨c0, c1, c2, c3, c4, c5⟩ := HCe.out w6 HB6.out)
 refine hK.out _ _ ?_ (fun hHeld hSh => ?_)
 ·
  exact ⟨b0, c0, c1, c2, c3, c4, c5⟩
 clear hK K
 refine tkO [(14, 20)] ?_
 repeat (refine tlY ?_ rfl (by rfl) ?_ (fun hSh2 => ?_); rotate_left; (focus (intro wq hSw; (try dsimp only at hSw); first | (go_simp; done) | (go_simp; with_reducible rfl))); clear hSh; rename Shut11 _ _ _ => hSh; simp only [zP])
 refine tkZ ?_
 have hr0 := HRow.out w6 HB6.out
 have e0 := hr0.frozenAt (i * 6)
 have hs0 := hr0.stored (i * 6) (.string ⟨nm.toArray⟩)
 have e1 := hr0.frozenAt (i * 6 + 1)
 have hs1 := hs0.1.stored (i * 6 + 1) (.slice na ns.length nc)
 have e2 := hr0.frozenAt (i * 6 + 2)
 have hs2 := hs1.1.stored (i * 6 + 2) (.int .i64 2)
 have e3 := hr0.frozenAt (i * 6 + 3)
 have hs3 := hs2.1.stored (i * 6 + 3) (.int .i64 0)
 have e4 := hr0.frozenAt (i * 6 + 4)
 have hs4 := hs3.1.stored (i * 6 + 4) (.int .i64 0)
 have e5 := hr0.frozenAt (i * 6 + 5)
 have hs5 := hs4.1.stored (i * 6 + 5) (.int .i64 key)
 obtain ⟨V, hV⟩ : ∃ V, ((((((w6.setCell ⟨g, i * 6, none⟩ (.string ⟨nm.toArray⟩)).setCell ⟨g, i * 6 + 1, none⟩ (.slice na ns.length nc)).setCell ⟨g, i * 6 + 2, none⟩ (.int .i64 2)).setCell ⟨g, i * 6 + 3, none⟩ (.int .i64 0)).setCell ⟨g, i * 6 + 4, none⟩ (.int .i64 0)).setCell ⟨g, i * 6 + 5, none⟩ (.int .i64 key)) = V := ⟨_, rfl⟩
 have hgV : w6.grownBy V (some g) := by rw [← hV]; exact ((((hs0.2.trans hs1.2).trans hs2.2).trans hs3.2).trans hs4.2).trans hs5.2
 have hrV := hs5.1
 have hset := tksV_set xs i ((nm, ns, 2, 0, 0, key), na, nc)
 simp only [tvT] at hset
 rw [hset, hV] at hrV
 have bQV := (HBx.out w6 HB6.out).grown hgV (by intro e; injection e with e; exact HgB.out.1 e)
 have HBV : Hid (Below base w V) := (HB6.out.mono HgB.out.2.2.1).grown hgV (Nat.le_trans HgB.out.2.2.1 HB6.out.size) (fun k e => by injection e with e; have := HgB.out.2.1; omega)
 have HBVs : Hid (base ≤ V.heap.size) := by have h1 := HBV.out.size; have h2 := HgB.out.2.2.1; exact (by omega : base ≤ V.heap.size)
 have HOV : Hid (∃ h : i < xs.length, TksOwn V base (.slice (some ⟨g, 0, none⟩) ts.length vc) (xs.set i ((nm, ns, 2, 0, 0, key), na, nc)) ∧ ApartR ((xs.set i ((nm, ns, 2, 0, 0, key), na, nc)).map tvT)) := by
  obtain ⟨h, e⟩ := HTV.out
  exact ⟨h, (HO.out _ HB6.out).put h _ hgV (by rw [HX.out.2.2]; exact hrV) (by rw [e]) (by rw [e]), apart_set h _ (by rw [e]) (by rw [e]) HX.out.2.1⟩
 have p3 := bQV.c3
 have pf3 := bQV.fr 3
 have HBQ : Hid (B4 V B (.slice (some ⟨g, 0, none⟩) ts.length vc) (.int .i64 ep) (.int .i64 nw) (.string ⟨jr.toArray⟩)) := bQV
 have HGV : Hid (w6.grownBy V (some g)) := hgV
 clear hs0 hs1 hs2 hs3 hs4 hs5 hr0 hrV hset bQV hgV
 refine Till.last (i := 15) (by kernel_rfl) rfl (by decide) (fun K hK => ?_)
 go_simp
 refine hK.out _ _ ?_
 clear hK K
 (try rw [hV])
 refine Till.done (by kernel_rfl) ?_ _
 go_wp2
 have HVd : Hid (Below V.heap.size V V.drew) := ⟨rfl, rfl, rfl, Nat.le_refl _, fun _ _ => rfl⟩
 refine Till.region (S := (fun Z => Z.cell? ⟨B, 3, none⟩ = some (.string ⟨jr.toArray⟩))) (E := [11]) (by kernel_rfl) ?_ (fun hHeld hSh => ?_)
 ·
  exact p3
 refine tkO [(0, 21), (1, 22), (2, 23), (3, 24), (4, 25), (5, 26)] ?_
 repeat (refine tlY ?_ rfl (by rfl) ?_ (fun hSh2 => ?_); rotate_left; (focus (intro wq hSw; (try dsimp only at hSw); first | (go_simp; done) | (go_simp; with_reducible rfl))); clear hSh; rename Shut11 _ _ _ => hSh; simp only [zP])
 refine tkZ ?_
 refine Till.one (i := 6) (by kernel_rfl) rfl hSh (fun K hK => ?_)
 clear hSh
 go_simp
 (go_at_call 89; refine Calls.mono (HTx.out _ (HBV.out.trans (HVd.out.mono HBVs.out))) ?_; rintro e w8 ⟨rfl, hb8⟩; have HB8 : Hid (Below V.heap.size V w8) := HVd.out.trans (hb8.mono HVd.out.size); clear hb8 p3 pf3; have p3 := (HBQ.out.below HB8.out).c3; have pf3 := (HBQ.out.below HB8.out).fr 3)
 refine hK.out _ _ ?_ (fun hHeld hSh => ?_)
 ·
  exact p3
 clear hK K
 refine Till.one (i := 7) (by kernel_rfl) rfl hSh (fun K hK => ?_)
 clear hSh
 go_simp
 (go_at_call 60; refine Calls.mono (HFm.out _) ?_; rintro e w9 ⟨rfl, hb9⟩; have HB9 : Hid (Below V.heap.size V w9) := HB8.out.trans (hb9.mono HB8.out.size); clear hb9 p3 pf3; have p3 := (HBQ.out.below HB9.out).c3; have pf3 := (HBQ.out.below HB9.out).fr 3)
 refine hK.out _ _ ?_ (fun hHeld hSh => ?_)
 ·
  exact p3
 clear hK K
 have hcat := cat_list
 refine tkO [(8, 29)] ?_
 repeat (refine tlY ?_ rfl (by rfl) ?_ (fun hSh2 => ?_); rotate_left; (focus (intro wq hSw; (try dsimp only at hSw); first | (go_simp; done) | (go_simp; with_reducible rfl) | (go_simp; rw [if_neg (by omega)]))); clear hSh; rename Shut11 _ _ _ => hSh; simp only [zP])
 refine tkZ ?_
 refine tkO [(9, 30), (10, 31)] ?_
 repeat (refine tlY ?_ rfl (by rfl) ?_ (fun hSh2 => ?_); rotate_left; (focus (intro wq hSw; (try dsimp only at hSw); first | (go_simp; done) | (go_simp; with_reducible rfl))); clear hSh; rename Shut11 _ _ _ => hSh; simp only [zP])
 refine tkZ ?_
 refine Till.last (i := 11) (by kernel_rfl) rfl (by decide) (fun K hK => ?_)
 go_simp
 refine hK.out _ _ ?_
 clear hK K
 refine Till.done (by kernel_rfl) ?_ _
 go_wp2
 first | go_end0 | refine bodyPost_ret (results_none rfl _ _ _) rfl ?_
 obtain ⟨hix, hoV, hapV⟩ := HOV.out
 have hoff : ∀ k, TkBlocks (.slice (some ⟨g, 0, none⟩) ts.length vc) (xs.set i ((nm, ns, 2, 0, 0, key), na, nc)) k → TkBlocks (.slice (some ⟨g, 0, none⟩) ts.length vc) xs k := by
  rintro k (e | ⟨y, hy, e⟩)
  ·
   exact Or.inl e
  ·
   rcases List.mem_or_eq_of_mem_set hy with h | h
   ·
    exact Or.inr ⟨y, h, e⟩
   ·
    subst h
    obtain ⟨h1, h2⟩ := HTV.out
    exact Or.inr ⟨xs[i], List.getElem_mem h1, by rw [h2]; exact e⟩
 have hgF := grown_set w9 B 3 (.string ⟨(jr ++ ln).toArray⟩)
 have hoW := (hoV.below HB9.out).kept hgF (by
  rcases h : (Value.slice (some ⟨g, 0, none⟩) ts.length vc).ownBlock with _ | k
  ·
   exact Or.inl rfl
  ·
   exact Or.inr (fun e => by injection e with e; exact HNe.out k (Or.inl h) e)) (fun x hx => by
  rcases h : (tvT x).ownBlock with _ | k
  ·
   exact Or.inl rfl
  ·
   exact Or.inr (fun e => by injection e with e; exact HNe.out k (hoff k (Or.inr ⟨x, hx, h⟩)) e))
 have hW6 : WroteR w w6 (fun k => (Value.slice (some ⟨g, 0, none⟩) ts.length vc).ownBlock = some k ∨ k = B) := WroteR.of_below HB6.out
 have hWV := hW6.trans (WroteR.of_grown HGV.out (fun k e => Or.inl e))
 have hW9 := hWV.trans (WroteR.of_below HB9.out)
 have hWF := hW9.trans (WroteR.of_grown hgF (fun k e => Or.inr (by injection e with e; exact e.symm)))
 refine ⟨rfl, _, ?_, hoW, hapV, (HBQ.out.below HB9.out).s3 _, hWF, hoff⟩
 rw [List.map_set, HX.out.1]
 show ts.set i _ = ts.set i _
 congr 1
 unfold done18
 rw [← HXi.out]

end Go.Proofs.YtaidhjjpdkkmcaaGreatDoor

/-! The contract of chapter 18's landed code: doAgain, at a task that is done. -/
namespace Go.Proofs.YtaidhjjpdkkmcaaGreatDoor
open Go.RowKit

theorem dnV_done {ts : List Ta} {f : List UInt8} {k key : Int} (hl : ts.length ≤ 8) (h : okDone ts f k key) : dnV f = (k, key, true) := by
 obtain ⟨e1, e2⟩ := okDone_nums hl h
 obtain ⟨h1, h2, h3, _⟩ := h
 have hk : 0 ≤ key ∧ key ≤ 2147483646 := by unfold key18 inB at h3; exact of_decide_eq_true h3
 obtain ⟨w, u, hs, _⟩ := (isDone_iff (f := f) (k := k) (key := key) (by omega) (by omega) (by omega) (by omega)).2 (by rw [h1, doneT_words])
 have hf : f ≠ [] := by rw [h1, doneT_words]; simp [doneW]
 have hw : wordsL f = splitL 32 f := by unfold wordsL; rw [if_neg hf]
 unfold numAt at e1 e2
 unfold dnV
 rw [hw, e1, e2, if_pos (by rw [hs]; rfl), decide_eq_true h1]

set_option maxHeartbeats 4000000 in
set_option maxRecDepth 100000 in
theorem implAgainDone (B base : Nat) (va : Option Addr) (vc : Nat) (xs : List TV) (ts : List Ta) (ep nw : Int) (jr f : List UInt8) (i : Nat) (key : Int) (w : World) (hb4 : B4 w B (.slice va ts.length vc) (.int .i64 ep) (.int .i64 nw) (.string ⟨jr.toArray⟩)) (ho : TksOwn w base (.slice va ts.length vc) xs) (hx : xs.map (·.1) = ts) (hap : ApartR (xs.map tvT)) (hne : ∀ k, TkBlocks (.slice va ts.length vc) xs k → k ≠ B) (hbase : base ≤ w.heap.size) (hbB : base ≤ B)
 (h8 : ts.length ≤ 8) (hsh : ShortTa ts) (hnd : ∀ p, p < ts.length → ∀ q, q < (ts.getD p ta0).2.1.length → 0 ≤ (ts.getD p ta0).2.1.getD q 0 ∧ (ts.getD p ta0).2.1.getD q 0 < ts.length) (h0 : 0 ≤ ep) (h1 : ep ≤ 1000000) (hj : jr.length ≤ 60000) (hf : f.length ≤ 1048576) (ht : ∀ Z, Below base w Z → PowIs Z) (hd : okDone ts f (i : Int) key) :
 Calls Tryz.prog 22 #[.pointer (some ⟨B, 0, none⟩), .string ⟨f.toArray⟩] w fun e w' => e = .returned (.bool true) ∧ ∃ xs', xs'.map (·.1) = ts.set i (done18 (ts.getD i ta0) key) ∧ TksOwn w' base (.slice va ts.length vc) xs' ∧ ApartR (xs'.map tvT) ∧ B4 w' B (.slice va ts.length vc) (.int .i64 ep) (.int .i64 nw) (.string ⟨(jr ++ lineR (i : Int) key).toArray⟩) ∧ WroteR w w' (fun k => (Value.slice va ts.length vc).ownBlock = some k ∨ k = B) ∧ (∀ k, TkBlocks (.slice va ts.length vc) xs' k → TkBlocks (.slice va ts.length vc) xs k) := by
 have hdn := dnV_done h8 hd
 obtain ⟨hfd, ⟨_, hi⟩, hk18, hst, hfr⟩ := hd
 have hi2 : i < ts.length := by omega
 have hky : 0 ≤ key ∧ key ≤ 2147483646 := by unfold key18 inB at hk18; exact of_decide_eq_true hk18
 have HS1 : Hid (_) := implStartText (ep + 1) w (ht w (Below.refl _ _)) (by omega) (by omega)
 have hfs : (f == startT (ep + 1)) = false := by rw [beq_eq_false_iff_ne, hfd]; exact fun e => start_not_done e.symm
 have HDn : Hid (∀ Z, Below w.heap.size w Z → _) := fun Z (hz : Below w.heap.size w Z) => implDoneIn f Z (fun X hX => ht X ((hz.mono hbase).trans (hX.mono (Nat.le_trans hbase hz.size)))) hf
 rw [hdn] at HDn
 have hnum : decide (0 ≤ (i : Int) ∧ (i : Int) < (ts.length : Int)) = true := decide_eq_true ⟨by omega, hi⟩
 have HNum : Hid (∀ Z, _) := fun Z => implNumOk va ts.length vc (i : Int) Z
 rw [hnum] at HNum
 have HKey : Hid (∀ Z, _) := fun Z => implKeyOk key Z
 rw [show inB key 0 2147483646 = true from hk18] at HKey
 have hcode : codeV ts (ts.getD i ta0) = 0 := by
  rw [Int.toNat_natCast] at hst hfr
  unfold codeV; rw [if_neg hst, hfr]; simp
 have HIn : Hid (∀ Z, Below w.heap.size w Z → TasksIn Z va ts.length ts) := fun Z hz => by
  obtain ⟨a7, c7, e7, hok7⟩ := (ho.below hz).ok
  have hxl : xs.length = ts.length := by rw [← hx, List.length_map]
  rw [hx, hxl] at hok7
  rw [hxl] at e7
  injection e7 with e7 _ _
  subst e7
  exact hok7.in
 have HCo : Hid (∀ Z, Below w.heap.size w Z → _) := fun Z hz => implDoneCode va ts.length vc ts i Z (HIn.out Z hz) hsh (by omega) hi2 (hnd i hi2)
 rw [hcode] at HCo
 have HWr : Hid (∀ Z, Below w.heap.size w Z → _) := fun Z (hz : Below w.heap.size w Z) => implWriteDownW B base va vc xs ts ep nw jr i key Z (hb4.below hz) (ho.below hz) hx hap hne (Nat.le_trans hbase hz.size) hbB hi2 (by omega) hj (fun X hX => ht X ((hz.mono hbase).trans hX)) (by omega) (by omega)
 have HBx : Hid (∀ Z, Below w.heap.size w Z → B4 Z B (.slice va ts.length vc) (.int .i64 ep) (.int .i64 nw) (.string ⟨jr.toArray⟩)) := fun Z hz => hb4.below hz
 have HBs : Hid (base ≤ w.heap.size) := hbase
 have hwi : IntKind.i64.wrap (ep + 1) = ep + 1 := by rw [IntKind.wrap_i64]; omega
 have b1 := hb4.c1
 generalize startT (ep + 1) = t at HS1 hfs
 clear ht hb4 ho hx hap hne hsh hnd hdn hfd hk18 hst hfr hnum hcode hbase hi hky
 go_enter Tryz.func22, Tryz.ntmps22
 go_wp2_with fail
 refine Calls.mono HS1.out ?_
 rintro e w1 ⟨rfl, hb1⟩
 have HB1 : Hid (Below w.heap.size w w1) := hb1
 clear hb1 b1 HS1
 go_wp2_with fail
 refine Calls.mono (HDn.out w1 HB1.out) ?_
 rintro e w2 ⟨rfl, hb2⟩
 have HB2 : Hid (Below w.heap.size w w2) := HB1.out.trans (hb2.mono HB1.out.size)
 have b0 := (HBx.out w2 HB2.out).c0
 clear hb2 HDn
 go_wp2_with (first
  | (go_at_call 56; refine Calls.mono (HNum.out _) ?_; rintro e wn ⟨rfl, hwn⟩; obtain rfl := hwn.symm; clear hwn)
  | (go_at_call 57; refine Calls.mono (HKey.out _) ?_; rintro e wn ⟨rfl, hwn⟩; obtain rfl := hwn.symm; clear hwn))
 refine Calls.mono (HCo.out _ HB2.out) ?_
 rintro e w3 ⟨rfl, hb3⟩
 have HB3 : Hid (Below w.heap.size w w3) := HB2.out.trans (hb3.mono HB2.out.size)
 clear hb3 b0
 go_wp2_with fail
 refine Calls.mono (HWr.out _ HB3.out) ?_
 rintro e w4 ⟨rfl, xs4, hx4, ho4, hap4, hb44, hb4, hk4⟩
 have HE : Hid (∃ xs', xs'.map (·.1) = ts.set i (done18 (ts.getD i ta0) key) ∧ TksOwn w4 base (.slice va ts.length vc) xs' ∧ ApartR (xs'.map tvT) ∧ B4 w4 B (.slice va ts.length vc) (.int .i64 ep) (.int .i64 nw) (.string ⟨(jr ++ lineR (i : Int) key).toArray⟩) ∧ WroteR w w4 (fun k => (Value.slice va ts.length vc).ownBlock = some k ∨ k = B) ∧ (∀ k, TkBlocks (.slice va ts.length vc) xs' k → TkBlocks (.slice va ts.length vc) xs k)) := ⟨xs4, hx4, ho4, hap4, hb44, (WroteR.of_below HB3.out).trans hb4, hk4⟩
 clear hx4 ho4 hap4 hb44 hb4 hk4 HWr
 go_wp2
 go_ret
 exact ⟨rfl, HE.out⟩

end Go.Proofs.YtaidhjjpdkkmcaaGreatDoor
