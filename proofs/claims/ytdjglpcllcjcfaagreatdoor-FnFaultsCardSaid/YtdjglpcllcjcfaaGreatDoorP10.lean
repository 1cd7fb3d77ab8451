/-
  Parts of one proof, one behind the other: FnL, PackK, Draw7, Draw7A.
-/
import Derived.Test.YtdjglpcllcjcfaaGreatDoorP9
import Derived.Test.YtdjglpcllcjcfaaGreatDoorP4
import Derived.Test.YtdjglpcllcjcfaaGreatDoorP7
import Derived.Test.YtdjglpcllcjcfaaGreatDoorP6
import Derived.Deep.RegionLaw
import Derived.Lib.SmallJoins

/-! The laws' own helpers over functions and packages: szFunc, szFuncS, szPackage, eqFunc, eqFuncS, eqStringS, eqPackage. -/
namespace Go.Proofs.YtdjglpcllcjcfaaGreatDoor
open Go.RowKit

def szM (m : Nat) (left : Int) : Int := if (m : Int) ≤ left then left - (m : Int) else -1
theorem szM_yes {m : Nat} {left : Int} (h : (m : Int) ≤ left) : szM m left = left - (m : Int) := by unfold szM; rw [if_pos h]
theorem szM_no {m : Nat} {left : Int} (h : ¬ (m : Int) ≤ left) : szM m left = -1 := by unfold szM; rw [if_neg h]

def fnSz (f : Fn) : Nat := f.1.length + (f.2.2.length + textsN f.2.2)
def fnsSz : List Fn → Nat
  | [] => 0
  | f :: r => fnSz f + fnsSz r
theorem fnsSz_append (x y : List Fn) : fnsSz (x ++ y) = fnsSz x + fnsSz y := by
  induction x with
  | nil => simp [fnsSz]
  | cons n r ih => simp only [List.cons_append, fnsSz, ih]; omega
theorem fnsSz_snoc (fs : List Fn) (k : Nat) (hk : k < fs.length) : fnsSz (fs.take (k + 1)) = fnsSz (fs.take k) + fnSz (fs.getD k fn0) := by
  have hg : fs.getD k fn0 = fs[k] := by simp [List.getD, hk]
  rw [hg, List.take_succ_eq_append_getElem hk, fnsSz_append]
  simp [fnsSz]
theorem fnsSz_take (fs : List Fn) (k : Nat) : fnsSz (fs.take k) ≤ fnsSz fs := by
  have := fnsSz_append (fs.take k) (fs.drop k)
  rw [List.take_append_drop] at this
  omega
theorem fnsSz_at (fs : List Fn) (j : Nat) : fnSz (fs.getD j fn0) ≤ fnsSz fs := by
  by_cases hj : j < fs.length
  · have h1 := fnsSz_snoc fs j hj
    have h2 := fnsSz_take fs (j + 1)
    omega
  · have : fs.getD j fn0 = fn0 := by rw [List.getD, List.getElem?_eq_none (by omega)]; rfl
    rw [this]; simp [fn0, fnSz, textsN]

/-- How much a package has in all. -/
def pkSz (nm : List UInt8) (ims : List (List UInt8)) (fs : List Fn) : Nat := nm.length + (ims.length + joinN ims) + (fs.length + fnsSz fs)

def LongF (fs : List Fn) : Prop := ∀ j, (fs.getD j fn0).1.length ≤ maxLen ∧ (fs.getD j fn0).2.2.length ≤ maxLen ∧ LongT (fs.getD j fn0).2.2

theorem shortF_of {fs : List Fn} (h : fnsSz fs ≤ 1048576) : ShortF fs := fun j => by
  have h1 := fnsSz_at fs j
  unfold fnSz at h1
  exact ⟨by omega, by omega, short_of (by omega)⟩

set_option maxHeartbeats 1000000 in
set_option maxRecDepth 100000 in
theorem szFuncC (s : List UInt8) (n : Int) (t : List Nd) (ta : Option Addr) (tl tc : Nat) (left : Int) (w : World) (hin : NodesIn w ta tl t) (h0 : 0 ≤ left) (h1 : left ≤ 1048576) (hs : s.length ≤ maxLen) (ht : t.length ≤ maxLen) (hm : LongT t) :
    Calls Tryz.prog 109 #[.agg #[.string ⟨s.toArray⟩, .int .i64 n, .slice ta tl tc], .int .i64 left] w fun e w' => e = .returned (.int .i64 (szM (fnSz (s, n, t)) left)) ∧ Below w.heap.size w w' := by
  obtain rfl : t.length = tl := hin.1
  unfold maxLen at hs
  have hs2 : (s.length : Int) ≤ 9223372036854775807 := by omega
  obtain ⟨W, hW⟩ : ∃ W, w.alloc (.cells #[.string ⟨s.toArray⟩, .int .i64 n, .slice ta t.length tc] 161) = W := ⟨_, rfl⟩
  have hbW : Below w.heap.size w W := by rw [← hW]; exact (Below.refl _ _).alloc (Nat.le_refl _) _
  have hA : W.heap[w.heap.size]? = some (.cells #[.string ⟨s.toArray⟩, .int .i64 n, .slice ta t.length tc] 161) := by rw [← hW]; exact heap_alloc_new w _
  have k0 : W.cell? ⟨w.heap.size, 0, none⟩ = some (.string ⟨s.toArray⟩) := by simp [World.cell?, hA]
  have k2 : W.cell? ⟨w.heap.size, 2, none⟩ = some (.slice ta t.length tc) := by simp [World.cell?, hA]
  have hinW := hin.below hbW
  clear hin hA
  by_cases hfit : (s.length : Int) ≤ left
  · have HC := szNodeSC ta t.length tc t (left - (s.length : Int)) W hinW (by omega) (by omega) ht hm
    by_cases hfit2 : (t.length : Int) + (textsN t : Int) ≤ left - (s.length : Int)
    · have HZ : Hid (szN t.length (textsN t) (left - (s.length : Int)) = szM (fnSz (s, n, t)) left) := by exact (by rw [szN_yes hfit2, szM_yes (by unfold fnSz; simp only; omega)]; unfold fnSz; simp only; omega : szN t.length (textsN t) (left - (s.length : Int)) = szM (fnSz (s, n, t)) left)
      have hge : 0 ≤ szM (fnSz (s, n, t)) left := by rw [← HZ.out, szN_yes hfit2]; omega
      have hge2 : 0 ≤ left - (s.length : Int) := by omega
      rw [HZ.out] at HC
      generalize szM (fnSz (s, n, t)) left = z at HC hge ⊢
      clear HZ
      go_enter Tryz.func109, Tryz.ntmps109
      go_wp2_with fail
      refine HC.mono ?_
      rintro e w1 ⟨rfl, hb1⟩
      have hb : Below w.heap.size w w1 := hbW.trans (hb1.mono hbW.size)
      clear HC hb1
      go_wp2
      go_ret
      exact ⟨rfl, hb⟩
    · have HZ : Hid (szN t.length (textsN t) (left - (s.length : Int)) = -1) := szN_no hfit2
      have HR : Hid (szM (fnSz (s, n, t)) left = -1) := szM_no (by unfold fnSz; simp only; omega)
      have hge2 : 0 ≤ left - (s.length : Int) := by omega
      rw [HZ.out] at HC
      go_enter Tryz.func109, Tryz.ntmps109
      go_wp2_with fail
      refine HC.mono ?_
      rintro e w1 ⟨rfl, hb1⟩
      have hb : Below w.heap.size w w1 := hbW.trans (hb1.mono hbW.size)
      clear HC hb1
      go_wp2
      go_ret
      exact ⟨by rw [HR.out]; rfl, hb⟩
  · have HR : Hid (szM (fnSz (s, n, t)) left = -1) := szM_no (by unfold fnSz; simp only; omega)
    have hlt : left - (s.length : Int) < 0 := by omega
    go_enter Tryz.func109, Tryz.ntmps109
    go_wp2
    go_ret
    exact ⟨by rw [HR.out]; rfl, hbW⟩

set_option maxHeartbeats 2000000 in
set_option maxRecDepth 100000 in
theorem szFuncSC (a : Option Addr) (len cap : Nat) (fs : List Fn) (left : Int) (w : World) (hin : FuncsIn w a len fs) (h0 : 0 ≤ left) (h1 : left ≤ 1048576) (hl : len ≤ maxLen) (hm : LongF fs) :
    Calls Tryz.prog 72 #[.slice a len cap, .int .i64 left] w fun e w' => e = .returned (.int .i64 (szM (len + fnsSz fs) left)) ∧ Below w.heap.size w w' := by
  unfold maxLen at hl
  have hl2 : (len : Int) ≤ 9223372036854775807 := by omega
  have hlb := hin.1
  by_cases h : (len : Int) ≤ left
  · have hlen : len ≤ 1048576 := by omega
    have HI : Hid (FuncsIn w a len fs) := hin
    have HM : Hid (LongF fs) := hm
    clear hin hm
    go_enter Tryz.func72, Tryz.ntmps72
    go_wp2
    go_loopw [1, 5] (fun l i wr => ∃ k : Nat, k ≤ len ∧ i = .int .i64 k ∧ l = .int .i64 (left - (len : Int) - (fnsSz (fs.take k) : Int)) ∧ (fnsSz (fs.take k) : Int) ≤ left - (len : Int) ∧ Below w.heap.size w wr) (fun _ i _ => len - (intOf i).toNat)
    case atStart => exact ⟨0, Nat.zero_le _, rfl, by simp [fnsSz], by simp [fnsSz]; omega, Below.refl _ _⟩
    case round =>
      obtain ⟨k, hk, rfl, rfl, hle, hB⟩ := hrel
      by_cases hkl : (k : Int) < (len : Int)
      · obtain ⟨b, off, rfl, hbl, c0, c1, ta, tl, tc, c2, hnc, hnin⟩ := (HI.out.below hB).2 k (by omega)
        have hmk := HM.out k
        have hst := fnsSz_snoc fs k (by omega)
        have htt := fnsSz_take fs (k + 1)
        obtain ⟨f, hf⟩ : ∃ f, fs.getD k fn0 = f := ⟨_, rfl⟩
        rw [hf] at c0 c1 hmk hst hnin
        obtain ⟨s, n, t⟩ := f
        simp only at c0 c1 hmk hnin
        obtain ⟨m, hmm⟩ : ∃ m, fnsSz (fs.take k) = m := ⟨_, rfl⟩
        rw [hmm] at hle hst ⊢
        obtain ⟨z, hz⟩ : ∃ z, fnSz (s, n, t) = z := ⟨_, rfl⟩
        have HC := szFuncC s n t ta tl tc (left - (len : Int) - (m : Int)) wr hnin (by omega) (by omega) hmk.1 hmk.2.1 hmk.2.2
        rw [hz] at hst HC
        have HS : Hid (fnsSz (fs.take (k + 1)) = m + z) := hst
        clear hst hf hmm hz hnin hnc
        by_cases hfit : (z : Int) ≤ left - (len : Int) - (m : Int)
        · have HZ : Hid (szM z (left - (len : Int) - (m : Int)) = left - (len : Int) - (fnsSz (fs.take (k + 1)) : Int)) := by
            exact (by rw [HS.out, szM_yes (by omega)]; omega : szM z (left - (len : Int) - (m : Int)) = left - (len : Int) - (fnsSz (fs.take (k + 1)) : Int))
          rw [HZ.out] at HC
          go_wp2_with fail
          refine HC.mono ?_
          rintro e w1 ⟨rfl, hb1⟩
          have hle2 : (fnsSz (fs.take (k + 1)) : Int) ≤ left - (len : Int) := by rw [HS.out]; omega
          have hge : (0 : Int) ≤ left - (len : Int) - (fnsSz (fs.take (k + 1)) : Int) := by omega
          clear HC
          go_wp2
          go_roundw
          case rel => exact ⟨k + 1, by omega, by go_num, rfl, hle2, hB.trans (hb1.mono hB.size)⟩
          case measure => simp [intOf]; omega
        · have HZ : Hid (szM z (left - (len : Int) - (m : Int)) = -1) := szM_no (by omega)
          have HR : Hid (szM (len + fnsSz fs) left = -1) := szM_no (by have := HS.out; omega)
          rw [HZ.out] at HC
          go_wp2_with fail
          refine HC.mono ?_
          rintro e w1 ⟨rfl, hb1⟩
          clear HC
          go_wp2
          go_ret
          exact ⟨by rw [HR.out]; rfl, hB.trans (hb1.mono hB.size)⟩
      · have HT : Hid (fs.take k = fs) := List.take_of_length_le (by omega)
        have HR : Hid (szM (len + fnsSz fs) left = left - (len : Int) - (fnsSz (fs.take k) : Int)) := by exact (by rw [HT.out] at hle ⊢; rw [szM_yes (by omega)]; omega : szM (len + fnsSz fs) left = left - (len : Int) - (fnsSz (fs.take k) : Int))
        go_wp2
        go_ret
        exact ⟨by rw [HR.out]; rfl, hB⟩
  · have HR : Hid (szM (len + fnsSz fs) left = -1) := szM_no (by omega)
    clear hin hm
    go_enter Tryz.func72, Tryz.ntmps72
    go_wp2
    go_ret
    exact ⟨by rw [HR.out]; rfl, Below.refl _ _⟩

set_option maxHeartbeats 2000000 in
set_option maxRecDepth 100000 in
theorem szPackageC (nm : List UInt8) (ia : Option Addr) (il ic : Nat) (fa : Option Addr) (fl fc : Nat) (ims : List (List UInt8)) (fs : List Fn) (left : Int) (w : World) (hi : TextsIn w ia il ims) (hf : FuncsIn w fa fl fs) (h0 : 0 ≤ left) (h1 : left ≤ 1048576) (hnm : nm.length ≤ maxLen) (hil : il ≤ maxLen) (him : ∀ j, (ims.getD j []).length ≤ maxLen) (hfl : fl ≤ maxLen) (hfm : LongF fs) :
    Calls Tryz.prog 42 #[.agg #[.string ⟨nm.toArray⟩, .slice ia il ic, .slice fa fl fc], .int .i64 left] w fun e w' => e = .returned (.int .i64 (szM (pkSz nm ims fs) left)) ∧ Below w.heap.size w w' := by
  obtain rfl : ims.length = il := hi.1
  obtain rfl : fs.length = fl := hf.1
  unfold maxLen at hnm
  have hs2 : (nm.length : Int) ≤ 9223372036854775807 := by omega
  obtain ⟨W, hW⟩ : ∃ W, w.alloc (.cells #[.string ⟨nm.toArray⟩, .slice ia ims.length ic, .slice fa fs.length fc] 73) = W := ⟨_, rfl⟩
  have hbW : Below w.heap.size w W := by rw [← hW]; exact (Below.refl _ _).alloc (Nat.le_refl _) _
  have hA : W.heap[w.heap.size]? = some (.cells #[.string ⟨nm.toArray⟩, .slice ia ims.length ic, .slice fa fs.length fc] 73) := by rw [← hW]; exact heap_alloc_new w _
  have k0 : W.cell? ⟨w.heap.size, 0, none⟩ = some (.string ⟨nm.toArray⟩) := by simp [World.cell?, hA]
  have k1 : W.cell? ⟨w.heap.size, 1, none⟩ = some (.slice ia ims.length ic) := by simp [World.cell?, hA]
  have k2 : W.cell? ⟨w.heap.size, 2, none⟩ = some (.slice fa fs.length fc) := by simp [World.cell?, hA]
  have hlt : w.heap.size < W.heap.size := by rw [← hW]; simp
  have hiW := hi.below hbW
  have hfW := hf.below hbW
  have hpk : pkSz nm ims fs = nm.length + (ims.length + joinN ims) + (fs.length + fnsSz fs) := rfl
  clear hi hf hA
  by_cases hfit : (nm.length : Int) ≤ left
  · have hge1 : 0 ≤ left - (nm.length : Int) := by omega
    have HC := szStringSC ia ims.length ic ims (left - (nm.length : Int)) W hiW (by omega) (by omega) hil him
    by_cases hfit2 : (ims.length : Int) + (joinN ims : Int) ≤ left - (nm.length : Int)
    · rw [szT_yes hfit2] at HC
      have hge2 : 0 ≤ left - (nm.length : Int) - (ims.length : Int) - (joinN ims : Int) := by omega
      have HC2 := szFuncSC fa fs.length fc fs (left - (nm.length : Int) - (ims.length : Int) - (joinN ims : Int)) W hfW (by omega) (by omega) hfl hfm
      by_cases hfit3 : ((fs.length + fnsSz fs : Nat) : Int) ≤ left - (nm.length : Int) - (ims.length : Int) - (joinN ims : Int)
      · have HZ : Hid (szM (fs.length + fnsSz fs) (left - (nm.length : Int) - (ims.length : Int) - (joinN ims : Int)) = szM (pkSz nm ims fs) left) := by exact (by rw [szM_yes hfit3, szM_yes (by rw [hpk]; omega), hpk]; omega : szM (fs.length + fnsSz fs) (left - (nm.length : Int) - (ims.length : Int) - (joinN ims : Int)) = szM (pkSz nm ims fs) left)
        have hge : 0 ≤ szM (pkSz nm ims fs) left := by rw [← HZ.out, szM_yes hfit3]; omega
        rw [HZ.out] at HC2
        generalize szM (pkSz nm ims fs) left = z at HC2 hge ⊢
        generalize left - (nm.length : Int) - (ims.length : Int) - (joinN ims : Int) = y at HC HC2 hge2
        clear HZ hfit3 hfit2
        go_enter Tryz.func42, Tryz.ntmps42
        go_wp2_with fail
        refine HC.mono ?_
        rintro e w1 ⟨rfl, rfl⟩
        go_wp2_with fail
        refine HC2.mono ?_
        rintro e w2 ⟨rfl, hb2⟩
        have hb : Below w.heap.size w w2 := hbW.trans (hb2.mono hbW.size)
        clear HC HC2 hb2
        go_wp2
        go_ret
        exact ⟨rfl, hb⟩
      · have HR : Hid (szM (pkSz nm ims fs) left = -1) := szM_no (by rw [hpk]; omega)
        rw [szM_no hfit3] at HC2
        generalize left - (nm.length : Int) - (ims.length : Int) - (joinN ims : Int) = y at HC HC2 hge2
        clear hfit3 hfit2
        go_enter Tryz.func42, Tryz.ntmps42
        go_wp2_with fail
        refine HC.mono ?_
        rintro e w1 ⟨rfl, rfl⟩
        go_wp2_with fail
        refine HC2.mono ?_
        rintro e w2 ⟨rfl, hb2⟩
        have hb : Below w.heap.size w w2 := hbW.trans (hb2.mono hbW.size)
        clear HC HC2 hb2
        go_wp2
        go_ret
        exact ⟨by rw [HR.out]; rfl, hb⟩
    · have HR : Hid (szM (pkSz nm ims fs) left = -1) := szM_no (by rw [hpk]; omega)
      rw [szT_no hfit2] at HC
      go_enter Tryz.func42, Tryz.ntmps42
      go_wp2_with fail
      refine HC.mono ?_
      rintro e w1 ⟨rfl, rfl⟩
      clear HC
      go_wp2
      go_ret
      exact ⟨by rw [HR.out]; rfl, hbW⟩
  · have HR : Hid (szM (pkSz nm ims fs) left = -1) := szM_no (by rw [hpk]; omega)
    have hlt2 : left - (nm.length : Int) < 0 := by omega
    clear hpk
    go_enter Tryz.func42, Tryz.ntmps42
    go_wp2
    go_ret
    exact ⟨by rw [HR.out]; rfl, hbW⟩

end Go.Proofs.YtdjglpcllcjcfaaGreatDoor

/-! What the landed functions of chapter 7 are told of a package; what the laws hold. -/
namespace Go.Proofs.YtdjglpcllcjcfaaGreatDoor
open Go.RowKit

def IntF (fs : List Fn) : Prop := ∀ j, (-9223372036854775808 ≤ (fs.getD j fn0).2.1 ∧ (fs.getD j fn0).2.1 ≤ 9223372036854775807) ∧ IntT (fs.getD j fn0).2.2

/-- What the landed functions are told of a package that they are handed. -/
structure PkOk (w : World) (nm : List UInt8) (ia : Option Addr) (il ic : Nat) (fa : Option Addr) (fl fc : Nat) (ims : List (List UInt8)) (fs : List Fn) : Prop where
  i : TextsIn w ia il ims
  f : FuncsIn w fa fl fs
  ic : ia = none → ic = 0
  fc : (fa = none → fc = 0) ∧ fl ≤ fc
  int : IntF fs
  il : il ≤ 1048576
  fl : fl ≤ 1048576
  nm : nm.length ≤ 1048576
  is : ∀ i, (ims.getD i []).length ≤ 1048576
  fs : ShortF fs

theorem PkOk.below {w w' : World} {nm : List UInt8} {ia : Option Addr} {il ic : Nat} {fa : Option Addr} {fl fc : Nat} {ims : List (List UInt8)} {fs : List Fn} (h : PkOk w nm ia il ic fa fl fc ims fs) (hb : Below w.heap.size w w') : PkOk w' nm ia il ic fa fl fc ims fs :=
  ⟨h.i.below hb, h.f.below hb, h.ic, h.fc, h.int, h.il, h.fl, h.nm, h.is, h.fs⟩

theorem own_texts0 {w : World} {base n : Nat} {v : Value} {ts : List (List UInt8)} (h : w.ownsRow base 9 1 v n (strV ts)) : ∃ a c, v = .slice a n c ∧ (a = none → c = 0) ∧ TextsIn w a n ts := by
  obtain ⟨_, a, c, rfl, hin⟩ := own_texts h
  refine ⟨a, c, rfl, fun e => ?_, hin⟩
  rcases own_forms h with ⟨e2, _, _⟩ | ⟨g, cp, e2⟩
  · injection e2
  · injection e2 with e3; rw [e] at e3; cases e3

/-- A package small enough: every bound. -/
theorem pk_small {nm : List UInt8} {ims : List (List UInt8)} {fs : List Fn} (h : pkSz nm ims fs ≤ 1048576) : ims.length ≤ 1048576 ∧ fs.length ≤ 1048576 ∧ nm.length ≤ 1048576 ∧ (∀ i, (ims.getD i []).length ≤ 1048576) ∧ ShortF fs := by
  unfold pkSz at h
  refine ⟨by omega, by omega, by omega, fun i => ?_, shortF_of (by omega)⟩
  have h1 := part_le ims i
  have h2 : joinN ims = ims.flatten.length := rfl
  omega

/-- The law's own argument, in a block of its own. -/
theorem PkIn.newL {w : World} {nm : List UInt8} {ia : Option Addr} {il ic : Nat} {fa : Option Addr} {fl fc : Nat} {ims : List (List UInt8)} {fs : List Fn} (t : TypeId) (hi : TextsIn w ia il ims) (hf : FuncsIn w fa fl fs) :
    PkIn (w.alloc (.cells #[.string ⟨nm.toArray⟩, .slice ia il ic, .slice fa fl fc] t)) w.heap.size nm ia il ic fa fl fc ims fs ∧ Below w.heap.size w (w.alloc (.cells #[.string ⟨nm.toArray⟩, .slice ia il ic, .slice fa fl fc] t)) := by
  have hb : Below w.heap.size w (w.alloc (.cells #[.string ⟨nm.toArray⟩, .slice ia il ic, .slice fa fl fc] t)) := (Below.refl _ _).alloc (Nat.le_refl _) _
  have hA := heap_alloc_new w (.cells #[.string ⟨nm.toArray⟩, .slice ia il ic, .slice fa fl fc] t)
  generalize w.alloc (.cells #[.string ⟨nm.toArray⟩, .slice ia il ic, .slice fa fl fc] t) = W at hb hA ⊢
  exact ⟨⟨by simp [World.cell?, hA], by simp [World.cell?, hA], by simp [World.cell?, hA], hi.below hb, hf.below hb⟩, hb⟩

/-- Three cells of a block. -/
structure Box3 (V : World) (k : Nat) (a b c : Value) : Prop where
  c0 : V.cell? ⟨k, 0, none⟩ = some a
  c1 : V.cell? ⟨k, 1, none⟩ = some b
  c2 : V.cell? ⟨k, 2, none⟩ = some c

theorem Box3.lt {V : World} {k : Nat} {a b c : Value} (h : Box3 V k a b c) : k < V.heap.size := World.block_lt_of_cell? V ⟨k, 0, none⟩ h.c0
theorem Box3.keep {V V' : World} {k : Nat} {a b c : Value} (h : Box3 V k a b c) (hb : V'.heap[k]? = V.heap[k]?) : Box3 V' k a b c :=
  ⟨(World.cell?_of_block (a := ⟨k, 0, none⟩) hb).trans h.c0, (World.cell?_of_block (a := ⟨k, 1, none⟩) hb).trans h.c1, (World.cell?_of_block (a := ⟨k, 2, none⟩) hb).trans h.c2⟩
theorem Box3.below {V V' : World} {k : Nat} {a b c : Value} (h : Box3 V k a b c) (hb : Below V.heap.size V V') : Box3 V' k a b c := h.keep (hb.block k h.lt)
theorem Box3.wrote {V V' : World} {k : Nat} {a b c : Value} {S : Nat → Prop} (h : Box3 V k a b c) (hw : Wrote V V' S) (hk : ¬ S k) : Box3 V' k a b c := h.keep (hw.block k h.lt hk)
theorem Box3.grown {V V' : World} {k : Nat} {a b c : Value} {row : Option Nat} (h : Box3 V k a b c) (hg : V.grownBy V' row) (hk : some k ≠ row) : Box3 V' k a b c := h.keep (hg.block k h.lt hk)
theorem Box3.drew {V : World} {k : Nat} {a b c : Value} (h : Box3 V k a b c) : Box3 V.drew k a b c := ⟨h.c0, h.c1, h.c2⟩
theorem Box3.new (V : World) (a b c : Value) (t : TypeId) : Box3 (V.alloc (.cells #[a, b, c] t)) V.heap.size a b c ∧ Below V.heap.size V (V.alloc (.cells #[a, b, c] t)) := by
  have hb : Below V.heap.size V (V.alloc (.cells #[a, b, c] t)) := (Below.refl _ _).alloc (Nat.le_refl _) _
  have hA := heap_alloc_new V (.cells #[a, b, c] t)
  generalize V.alloc (.cells #[a, b, c] t) = W at hb hA ⊢
  exact ⟨⟨by simp [World.cell?, hA], by simp [World.cell?, hA], by simp [World.cell?, hA]⟩, hb⟩

theorem short_mem {fs : List Fn} (h : ShortF fs) {f : Fn} (hf : f ∈ fs) : f.2.2.length ≤ 1048576 := by
  obtain ⟨j, hj, rfl⟩ := List.mem_iff_getElem.1 hf
  have := (h j).2.1
  rw [List.getD_eq_getElem?_getD, List.getElem?_eq_getElem hj] at this
  exact this

/-- A package that a call owns can be read. -/
theorem own_pk {w : World} {base : Nat} {vi vf : Value} {ims : List (List UInt8)} {xs : List FV} {fs : List Fn} (hoi : w.ownsRow base 9 1 vi ims.length (strV ims)) (hof : FnsOwn w base vf xs) (hxs : xs.map (·.1) = fs) :
    ∃ ai ci af cf, vi = .slice ai ims.length ci ∧ vf = .slice af fs.length cf ∧ (ai = none → ci = 0) ∧ ((af = none → cf = 0) ∧ fs.length ≤ cf) ∧ TextsIn w ai ims.length ims ∧ FuncsIn w af fs.length fs := by
  obtain ⟨ai, ci, rfl, hic, hit⟩ := own_texts0 hoi
  obtain ⟨af, cf, rfl, hfc, hif⟩ := hof.in
  have hl : xs.length = fs.length := by rw [← hxs, List.length_map]
  have hcp : fs.length ≤ cf := by
    rcases hof.row.2 with ⟨e, h0⟩ | ⟨g, cap, cur, e, _, _, hc, _⟩
    · rw [← hl, h0]; exact Nat.zero_le _
    · injection e with _ _ e3
      rw [e3, ← hl]; exact hc
  rw [hxs, hl] at hif
  exact ⟨ai, ci, af, cf, rfl, by rw [hl], hic, ⟨hfc, hcp⟩, hit, hif⟩

/-- A right package is small. -/
theorem pkgB_small {p : Pk} (h : pkgB p = true) : p.2.1.length ≤ 6 ∧ p.2.2.length ≤ 8 ∧ ∀ f ∈ p.2.2, f.2.2.length ≤ 60 := by
  unfold pkgB at h
  rw [Bool.and_eq_true, Bool.and_eq_true, Bool.and_eq_true] at h
  obtain ⟨⟨_, hi, hf⟩, ha⟩ := h
  unfold importsB at hi
  rw [Bool.and_eq_true, Bool.and_eq_true] at hi
  have hf2 := of_decide_eq_true hf
  refine ⟨of_decide_eq_true hi.2.1, by omega, fun f hm => ?_⟩
  obtain ⟨j, hj, rfl⟩ := List.mem_iff_getElem.1 hm
  have h1 := ((of_decide_eq_true ha) j hj).1
  have hg : p.2.2.getD j fn0 = p.2.2[j] := by simp [List.getD, hj]
  rw [hg] at h1
  unfold funcB at h1
  rw [Bool.and_eq_true, Bool.and_eq_true] at h1
  exact (tree_end h1.2.2).1.2

end Go.Proofs.YtdjglpcllcjcfaaGreatDoor

/-! A package is drawn: what the drawing holds. -/
namespace Go.Proofs.YtdjglpcllcjcfaaGreatDoor
open Go.RowKit

theorem FnsOwn.grown {w w' : World} {base : Nat} {v : Value} {xs : List FV} {row : Option Nat} (h : FnsOwn w base v xs) (hg : w.grownBy w' row) (hr : ∀ k, row = some k → k < base) : FnsOwn w' base v xs := by
  have off : ∀ {e size n : Nat} {u : Value} {ys : List Value}, w.ownsRow base e size u n ys → u.ownBlock = Option.none ∨ u.ownBlock ≠ row := fun {e size n u ys} ho => by
    cases hu : u.ownBlock with
    | none => exact Or.inl rfl
    | some k => exact Or.inr (fun e2 => by have := (ho.lt k hu).1; have := hr k e2.symm; omega)
  exact ⟨h.row.kept hg (off h.row), fun x hx => (h.trees x hx).kept hg (off (h.trees x hx))⟩

theorem own_grown {w w' : World} {base e size n : Nat} {u : Value} {ys : List Value} {row : Option Nat} (h : w.ownsRow base e size u n ys) (hg : w.grownBy w' row) (hr : ∀ k, row = some k → k < base) : w'.ownsRow base e size u n ys := h.kept hg (by
  cases hu : u.ownBlock with
  | none => exact Or.inl rfl
  | some k => exact Or.inr (fun e2 => by have := (h.lt k hu).1; have := hr k e2.symm; omega))

/-- A function is put behind a row of them. -/
theorem push_fn (X : World) (base : Nat) (v : Value) (xs : List FV) (y : FV) (h : FnsOwn X base v xs) (hy : X.ownsRow base 44 4 (fvT y) y.1.2.2.length (nodesV y.1.2.2)) (hb : base ≤ X.heap.size) (hn : xs.length ≤ 1048576) :
    ∃ g' c' Y, (Builtin.append_ #[30, 30] 30 #[v, .slice (some ⟨X.heap.size, 0, none⟩) 1 1]).run Tryz.prog (X.alloc (.cells #[.string ⟨y.1.1.toArray⟩, .int .i64 y.1.2.1, fvT y] 42)) = .ok (.slice (some ⟨g', 0, none⟩) (xs.length + 1) c') Y ∧
      FnsOwn Y base (.slice (some ⟨g', 0, none⟩) (xs ++ [y]).length c') (xs ++ [y]) ∧ X.grownBy Y v.ownBlock := by
  obtain ⟨i0, hi, hz0, hz1, hz2⟩ := info_parts infoFunc
  have hX1 : Below X.heap.size X (X.alloc (.cells #[.string ⟨y.1.1.toArray⟩, .int .i64 y.1.2.1, fvT y] 42)) := (Below.refl _ _).alloc (Nat.le_refl _) _
  have h1 := h.below hX1
  have hy1 := own_below hy hX1
  obtain ⟨v', Y, hrun, hown, hg, _⟩ := run_append_src (P := Tryz.prog) (X.alloc (.cells #[.string ⟨y.1.1.toArray⟩, .int .i64 y.1.2.1, fvT y] 42)) base 30 30 42 i0 _ 3 48 Tryz.underlying30 hi hz0 hz1 hz2 rfl (by decide) _ _ _ h1.row _ 1 (fnsV [y]) (new_fn X y 1) (by unfold maxLen; omega) (by omega) (by simp; omega)
  obtain ⟨g', c', rfl⟩ := own_some hown (by omega)
  have e1 : (xs ++ [y]).length = xs.length + 1 := by simp
  have hown2 : Y.ownsRow base 42 3 (.slice (some ⟨g', 0, none⟩) (xs ++ [y]).length c') (xs ++ [y]).length (fnsV (xs ++ [y])) := by
    rw [e1, fnsV_append]; exact hown
  have htr : ∀ z ∈ xs ++ [y], Y.ownsRow base 44 4 (fvT z) z.1.2.2.length (nodesV z.1.2.2) := fun z hz => by
    rw [List.mem_append, List.mem_singleton] at hz
    rcases hz with hz | rfl
    · exact (h1.trees z hz).kept hg (own_types (h1.trees z hz) h1.row (by decide))
    · exact hy1.kept hg (own_types hy1 h1.row (by decide))
  exact ⟨g', c', Y, hrun, ⟨hown2, htr⟩, (World.grownBy_alloc X _ _).trans hg⟩

/-- What l7Draw holds: the package so far (at P), the answer's zero cells (at R), the calls that are known (vo). -/
structure DrSt (X w : World) (B : Nat) (a : Option Addr) (len cap : Nat) (R P : Nat) (nm : List UInt8) (vi : Value) (fa : Option Addr) (fc : Nat) (xs : List FV) (vo : Value) (ns : List Nd) : Prop where
  p : Box3 X P (.string ⟨nm.toArray⟩) vi (.slice fa xs.length fc)
  pf : ∀ j, X.frozen? ⟨P, j, none⟩ = false
  r : Box3 X R (.string ⟨#[]⟩) (.slice none 0 0) (.slice none 0 0)
  rf : ∀ j, X.frozen? ⟨R, j, none⟩ = false
  fo : FnsOwn X (P + 1) (.slice fa xs.length fc) xs
  ow : X.ownsRow (P + 1) 44 4 vo ns.length (nodesV ns)
  cur : Cur X B a len cap
  g : w.grownBy X (some B)
  br : B < R
  rp : R < P
  wr : w.heap.size = R
  ap : ∀ x ∈ xs, (fvT x).ownBlock = none ∨ (fvT x).ownBlock ≠ vo.ownBlock

section
variable {X Y w : World} {B : Nat} {a : Option Addr} {len cap R P : Nat} {nm : List UInt8} {vi : Value} {fa : Option Addr} {fc : Nat} {xs : List FV} {vo : Value} {ns : List Nd}

/-- The cursor went on, or something was made. -/
theorem DrSt.next (h : DrSt X w B a len cap R P nm vi fa fc xs vo ns) (hg : X.grownBy Y (some B)) (hc : Cur Y B a len cap) : DrSt Y w B a len cap R P nm vi fa fc xs vo ns :=
  have hp : some P ≠ some B := fun e => by injection e with e; have := h.br; have := h.rp; omega
  have hr : some R ≠ some B := fun e => by injection e with e; have := h.br; omega
  have hlt : ∀ k, some B = some k → k < P + 1 := fun k e => by injection e with e; have := h.br; have := h.rp; omega
  ⟨h.p.grown hg hp, fun j => (World.frozen?_of_block (a := ⟨P, j, none⟩) (hg.block P h.p.lt hp)).trans (h.pf j), h.r.grown hg hr, fun j => (World.frozen?_of_block (a := ⟨R, j, none⟩) (hg.block R h.r.lt hr)).trans (h.rf j),
   h.fo.grown hg hlt, own_grown h.ow hg hlt, hc, h.g.trans hg, h.br, h.rp, h.wr, h.ap⟩
theorem DrSt.made (h : DrSt X w B a len cap R P nm vi fa fc xs vo ns) (hg : X.grownBy Y none) : DrSt Y w B a len cap R P nm vi fa fc xs vo ns :=
  h.next ⟨hg.os, hg.tape, hg.output, hg.size, fun k hk _ => hg.block k hk (by simp)⟩ (h.cur.kept hg (by simp))
theorem DrSt.alloc (h : DrSt X w B a len cap R P nm vi fa fc xs vo ns) (o : Obj) : DrSt (X.alloc o) w B a len cap R P nm vi fa fc xs vo ns := h.made (World.grownBy_alloc X o none)
theorem DrSt.drew (h : DrSt X w B a len cap R P nm vi fa fc xs vo ns) : DrSt X.drew w B a len cap R P nm vi fa fc xs vo ns := h.made (grown_drew X none)
/-- A block of one's own, apart from all that, is written. -/
theorem DrSt.side (h : DrSt X w B a len cap R P nm vi fa fc xs vo ns) {k : Nat} (hg : X.grownBy Y (some k)) (hk : P < k) (hf : ∀ q, (Value.slice fa xs.length fc).ownBlock = some q → q ≠ k) (ht : ∀ x ∈ xs, ∀ q, (fvT x).ownBlock = some q → q ≠ k) (ho : ∀ q, vo.ownBlock = some q → q ≠ k) : DrSt Y w B a len cap R P nm vi fa fc xs vo ns := by
  have hB := h.br
  have hR := h.rp
  have hW := h.wr
  have hp : some P ≠ some k := fun e => by injection e with e; omega
  have hr : some R ≠ some k := fun e => by injection e with e; omega
  have off : ∀ {u : Value}, (∀ q, u.ownBlock = some q → q ≠ k) → u.ownBlock = none ∨ u.ownBlock ≠ some k := fun {u} hu => by
    cases hv : u.ownBlock with
    | none => exact Or.inl rfl
    | some q => exact Or.inr (fun e => by injection e with e; exact hu q hv e)
  refine ⟨h.p.grown hg hp, fun j => (World.frozen?_of_block (a := ⟨P, j, none⟩) (hg.block P h.p.lt hp)).trans (h.pf j), h.r.grown hg hr, fun j => (World.frozen?_of_block (a := ⟨R, j, none⟩) (hg.block R h.r.lt hr)).trans (h.rf j),
    h.fo.kept hg (off hf) (fun x hx => off (ht x hx)), h.ow.kept hg (off ho), h.cur.kept hg (fun q e => by injection e with e; omega), ?_, h.br, h.rp, h.wr, h.ap⟩
  exact ⟨hg.os.trans h.g.os, hg.tape.trans h.g.tape, hg.output.trans h.g.output, Nat.le_trans h.g.size hg.size, fun q hq hn => (hg.block q (Nat.lt_of_lt_of_le hq h.g.size) (fun e => by injection e with e; omega)).trans (h.g.block q hq hn)⟩
end

/-- A block of three cells that was just made, behind a draw. -/
theorem box_new {V : World} {a b c : Value} {t : TypeId} : Box3 (V.alloc (.cells #[a, b, c] t)) V.heap.size a b c ∧ ∀ j, (V.alloc (.cells #[a, b, c] t)).frozen? ⟨V.heap.size, j, none⟩ = false :=
  ⟨(Box3.new V a b c t).1, fun j => Go.Joins.unfrozen_of_block (heap_alloc_new V (.cells #[a, b, c] t)) j⟩
theorem box_on {V Y : World} {B k : Nat} {a b c : Value} (h : Box3 V k a b c ∧ ∀ j, V.frozen? ⟨k, j, none⟩ = false) (hg : V.grownBy Y (some B)) (hk : k ≠ B) : Box3 Y k a b c ∧ ∀ j, Y.frozen? ⟨k, j, none⟩ = false :=
  have hn : some k ≠ some B := fun e => by injection e with e; exact hk e
  ⟨h.1.grown hg hn, fun j => (World.frozen?_of_block (a := ⟨k, j, none⟩) (hg.block k h.1.lt hn)).trans (h.2 j)⟩
theorem box_up1 {V Y : World} {B : Nat} {a b c : Value} {t : TypeId} (hg : (V.alloc (.cells #[a, b, c] t)).drew.grownBy Y (some B)) (hB : B < V.heap.size) : Box3 Y V.heap.size a b c ∧ ∀ j, Y.frozen? ⟨V.heap.size, j, none⟩ = false :=
  box_on (V := (V.alloc (.cells #[a, b, c] t)).drew) ⟨box_new.1.drew, box_new.2⟩ hg (by omega)
theorem box_up2 {V Y : World} {B : Nat} {o : Obj} {a b c : Value} {t : TypeId} (hg : ((V.alloc o).alloc (.cells #[a, b, c] t)).drew.grownBy Y (some B)) (hB : B < V.heap.size) : Box3 Y (V.heap.size + 1) a b c ∧ ∀ j, Y.frozen? ⟨V.heap.size + 1, j, none⟩ = false := by
  have h := box_up1 (V := V.alloc o) hg (by simp; omega)
  rw [World.size_alloc] at h
  exact h
theorem box_up3 {V Y : World} {B : Nat} {o : Obj} {a b c : Value} {t : TypeId} (hg : ((V.alloc (.cells #[a, b, c] t)).alloc o).drew.grownBy Y (some B)) (hB : B < V.heap.size) : Box3 Y V.heap.size a b c ∧ ∀ j, Y.frozen? ⟨V.heap.size, j, none⟩ = false := by
  have hb : Below (V.alloc (.cells #[a, b, c] t)).heap.size (V.alloc (.cells #[a, b, c] t)) ((V.alloc (.cells #[a, b, c] t)).alloc o) := (Below.refl _ _).alloc (Nat.le_refl _) _
  have h := box_new (V := V) (a := a) (b := b) (c := c) (t := t)
  exact box_on (V := ((V.alloc (.cells #[a, b, c] t)).alloc o).drew) ⟨(h.1.below hb).drew, fun j => (hb.frozen (p := ⟨V.heap.size, j, none⟩) (by simp)).trans (h.2 j)⟩ hg (by omega)
/-- The three cells are written. -/
theorem box_set {V : World} {k : Nat} {a b c : Value} (a' b' c' : Value) (h : Box3 V k a b c ∧ ∀ j, V.frozen? ⟨k, j, none⟩ = false) :
    (Box3 (((V.setCell ⟨k, 0, none⟩ a').setCell ⟨k, 1, none⟩ b').setCell ⟨k, 2, none⟩ c') k a' b' c' ∧ ∀ j, (((V.setCell ⟨k, 0, none⟩ a').setCell ⟨k, 1, none⟩ b').setCell ⟨k, 2, none⟩ c').frozen? ⟨k, j, none⟩ = false) ∧ V.grownBy (((V.setCell ⟨k, 0, none⟩ a').setCell ⟨k, 1, none⟩ b').setCell ⟨k, 2, none⟩ c') (some k) := by
  obtain ⟨Y, hY, y0, y1, y2, hg⟩ := set3 a' b' c' h.1.c0 h.1.c1 h.1.c2
  rw [hY]
  refine ⟨⟨⟨y0, y1, y2⟩, fun j => ?_⟩, hg⟩
  rw [← hY]
  exact (World.frozen?_setCell ..).trans ((World.frozen?_setCell ..).trans ((World.frozen?_setCell ..).trans (h.2 j)))

theorem frozen_alw {w : World} {k j : Nat} (o : Obj) (hk : k < w.heap.size) (h : w.frozen? ⟨k, j, none⟩ = false) : (w.alloc o).frozen? ⟨k, j, none⟩ = false :=
  (World.frozen?_of_block (a := ⟨k, j, none⟩) (Below.heap_alloc w o k hk)).trans h

end Go.Proofs.YtdjglpcllcjcfaaGreatDoor

/-! A package is drawn: what stands behind its sixth region, and a function and a call put behind their rows. -/
namespace Go.Proofs.YtdjglpcllcjcfaaGreatDoor
open Go.RowKit

section
variable {V X Y w : World} {B : Nat} {a : Option Addr} {len cap R P : Nat} {nm : List UInt8} {vi : Value} {fa : Option Addr} {fc : Nat} {xs : List FV} {vo : Value} {ns : List Nd}

/-- The function's box at F: made behind V, the rows as they were. -/
def Dr12 (V w : World) (B : Nat) (a : Option Addr) (len cap R P : Nat) (nm : List UInt8) (vi : Value) (fa : Option Addr) (fc : Nat) (xs : List FV) (vo : Value) (ns : List Nd) (v : Value) (wx : World) : Prop :=
  ∃ (F : Nat) (y : Int) (fn : List UInt8), v = .pointer (some ⟨F, 0, none⟩) ∧ (0 ≤ y ∧ y ≤ 3) ∧ fn.length ≤ 9 ∧ V.heap.size ≤ F ∧ DrSt wx w B a len cap R P nm vi fa fc xs vo ns ∧ (Box3 wx F (.string ⟨fn.toArray⟩) (.int .i64 y) (.slice none 0 0) ∧ ∀ j, wx.frozen? ⟨F, j, none⟩ = false)

theorem dr_off (st : DrSt V w B a len cap R P nm vi fa fc xs vo ns) (h : DrSt X w B a len cap R P nm vi fa fc xs vo ns) {F : Nat} (hF : V.heap.size ≤ F) (hg : X.grownBy Y (some F)) : DrSt Y w B a len cap R P nm vi fa fc xs vo ns := by
  have hp := st.p.lt
  exact h.side hg (by omega) (fun q e => by have := (st.fo.row.lt q e).2; omega) (fun x hx q e => by have := ((st.fo.trees x hx).lt q e).2; omega) (fun q e => by have := (st.ow.lt q e).2; omega)

theorem dr_set (st : DrSt V w B a len cap R P nm vi fa fc xs vo ns) (h : DrSt X w B a len cap R P nm vi fa fc xs vo ns) {F : Nat} (hF : V.heap.size ≤ F) {z0 z1 z2 : Value} (hb : Box3 X F z0 z1 z2 ∧ ∀ j, X.frozen? ⟨F, j, none⟩ = false) (fn : List UInt8) (hfn : fn.length ≤ 9) {y : Int} (hy0 : 0 ≤ y) (hy1 : y ≤ 3) :
    Dr12 V w B a len cap R P nm vi fa fc xs vo ns (.pointer (some ⟨F, 0, none⟩)) (((X.setCell ⟨F, 0, none⟩ (.string ⟨fn.toArray⟩)).setCell ⟨F, 1, none⟩ (.int .i64 y)).setCell ⟨F, 2, none⟩ (.slice none 0 0)) := by
  obtain ⟨hb2, hg⟩ := box_set (.string ⟨fn.toArray⟩) (.int .i64 y) (.slice none 0 0) hb
  exact ⟨F, y, fn, rfl, ⟨hy0, hy1⟩, hfn, hF, dr_off st h hF hg, hb2⟩

theorem dr_new (h : DrSt X w B a len cap R P nm vi fa fc xs vo ns) (hF : V.heap.size ≤ X.heap.size) (fn : List UInt8) (hfn : fn.length ≤ 9) {y : Int} (hy0 : 0 ≤ y) (hy1 : y ≤ 3) :
    Dr12 V w B a len cap R P nm vi fa fc xs vo ns (.pointer (some ⟨X.heap.size, 0, none⟩)) (X.alloc (.cells #[.string ⟨fn.toArray⟩, .int .i64 y, .slice none 0 0] 42)) :=
  ⟨X.heap.size, y, fn, rfl, ⟨hy0, hy1⟩, hfn, hF, h.alloc _, box_new⟩
theorem dr_new2 (h : DrSt X w B a len cap R P nm vi fa fc xs vo ns) (hF : V.heap.size ≤ X.heap.size) (fn : List UInt8) (hfn : fn.length ≤ 9) {y : Int} (hy0 : 0 ≤ y) (hy1 : y ≤ 3) (o : Obj) :
    Dr12 V w B a len cap R P nm vi fa fc xs vo ns (.pointer (some ⟨X.heap.size + 1, 0, none⟩)) ((X.alloc o).alloc (.cells #[.string ⟨fn.toArray⟩, .int .i64 y, .slice none 0 0] 42)) := by
  have h2 := dr_new (V := V) (h.alloc o) (by rw [World.size_alloc]; omega) fn hfn hy0 hy1
  rw [World.size_alloc] at h2
  exact h2
theorem box_alw {F : Nat} {z0 z1 z2 : Value} (o : Obj) (hb : Box3 X F z0 z1 z2 ∧ ∀ j, X.frozen? ⟨F, j, none⟩ = false) : Box3 (X.alloc o) F z0 z1 z2 ∧ ∀ j, (X.alloc o).frozen? ⟨F, j, none⟩ = false :=
  ⟨hb.1.below ((Below.refl _ _).alloc (Nat.le_refl _) o), fun j => frozen_alw o hb.1.lt (hb.2 j)⟩
theorem dr_new3 (h : DrSt X w B a len cap R P nm vi fa fc xs vo ns) (hF : V.heap.size ≤ X.heap.size) (fn : List UInt8) (hfn : fn.length ≤ 9) {y : Int} (hy0 : 0 ≤ y) (hy1 : y ≤ 3) (o : Obj) :
    Dr12 V w B a len cap R P nm vi fa fc xs vo ns (.pointer (some ⟨X.heap.size, 0, none⟩)) ((X.alloc (.cells #[.string ⟨fn.toArray⟩, .int .i64 y, .slice none 0 0] 42)).alloc o) :=
  ⟨X.heap.size, y, fn, rfl, ⟨hy0, hy1⟩, hfn, hF, (h.alloc _).alloc o, box_alw o box_new⟩
theorem dr_set1 (st : DrSt V w B a len cap R P nm vi fa fc xs vo ns) (h : DrSt X w B a len cap R P nm vi fa fc xs vo ns) {F : Nat} (hF : V.heap.size ≤ F) {z0 z1 z2 : Value} (hb : Box3 X F z0 z1 z2 ∧ ∀ j, X.frozen? ⟨F, j, none⟩ = false) (fn : List UInt8) (hfn : fn.length ≤ 9) {y : Int} (hy0 : 0 ≤ y) (hy1 : y ≤ 3) (o : Obj) :
    Dr12 V w B a len cap R P nm vi fa fc xs vo ns (.pointer (some ⟨F, 0, none⟩)) ((((X.alloc o).setCell ⟨F, 0, none⟩ (.string ⟨fn.toArray⟩)).setCell ⟨F, 1, none⟩ (.int .i64 y)).setCell ⟨F, 2, none⟩ (.slice none 0 0)) :=
  dr_set st (h.alloc o) hF (box_alw o hb) fn hfn hy0 hy1

theorem sz0 {row : Option Nat} (h : V.drew.grownBy Y row) : V.heap.size ≤ Y.heap.size := h.size
theorem sz1 {row : Option Nat} {o : Obj} (h : (V.alloc o).drew.grownBy Y row) : V.heap.size ≤ Y.heap.size := by
  have h1 : (V.alloc o).heap.size ≤ Y.heap.size := h.size
  rw [World.size_alloc] at h1; omega
theorem sz2 {row : Option Nat} {o o' : Obj} (h : ((V.alloc o).alloc o').drew.grownBy Y row) : V.heap.size ≤ Y.heap.size := by
  have h1 : ((V.alloc o).alloc o').heap.size ≤ Y.heap.size := h.size
  rw [World.size_alloc, World.size_alloc] at h1; omega
end

end Go.Proofs.YtdjglpcllcjcfaaGreatDoor
