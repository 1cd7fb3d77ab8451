/-
  Parts of one proof, one behind the other: FnL, PackK, CheckS, IntsL, EqT, FnE, ProjL, CellA, FnT.
-/
import Derived.Test.YtkpdoedpkncboaaGreatP4
import Derived.Test.YtkpdoedpkncboaaGreatP3
import Derived.Test.YtkpdoedpkncboaaGreatP2
import Derived.Test.YtkpdoedpkncboaaGreatP1
namespace Go.Proofs.YtkpdoedpkncboaaGreat
open Go.RowKit
def szM (m : Nat) (left : Int) : Int := if (m : Int) ≤ left then left - (m : Int) else -1
theorem zdl {m : Nat} {left : Int} (h : (m : Int) ≤ left) : szM m left = left - (m : Int) := by unfold szM; rw [if_pos h]
theorem zdi {m : Nat} {left : Int} (h : ¬ (m : Int) ≤ left) : szM m left = -1 := by unfold szM; rw [if_neg h]
def fnSz (f : Fn) : Nat := f.1.length + (f.2.2.length + zaR f.2.2)
def zbl : List Fn → Nat
 | [] => 0
 | f :: r => fnSz f + zbl r
theorem ze0 (x y : List Fn) : zbl (x ++ y) = zbl x + zbl y := by
 induction x with
 | nil => simp [zbl]
 | cons n r ih => simp only [List.cons_append, zbl, ih]; omega
theorem zfV (fs : List Fn) (k : Nat) (hk : k < fs.length) : zbl (fs.take (k + 1)) = zbl (fs.take k) + fnSz (fs.getD k fn0) := by
 have hg : fs.getD k fn0 = fs[k] := by simp [List.getD, hk]
 rw [hg, List.take_succ_eq_append_getElem hk, ze0]
 simp [zbl]
theorem zfU (fs : List Fn) (k : Nat) : zbl (fs.take k) ≤ zbl fs := by
 have := ze0 (fs.take k) (fs.drop k)
 rw [List.take_append_drop] at this
 omega
theorem fnsSz_at (fs : List Fn) (j : Nat) : fnSz (fs.getD j fn0) ≤ zbl fs := by
 by_cases hj : j < fs.length
 ·
  have h1 := zfV fs j hj
  have h2 := zfU fs (j + 1)
  omega
 ·
  have : fs.getD j fn0 = fn0 := by rw [List.getD, List.getElem?_eq_none (by omega)]; rfl
  rw [this]; simp [fn0, fnSz, zaR]
def pkSz (nm : List UInt8) (ims : List (List UInt8)) (fs : List Fn) : Nat := nm.length + (ims.length + zbx ims) + (fs.length + zbl fs)
def zjQ (fs : List Fn) : Prop := ∀ j, (fs.getD j fn0).1.length ≤ maxLen ∧ (fs.getD j fn0).2.2.length ≤ maxLen ∧ zht (fs.getD j fn0).2.2
theorem zko {fs : List Fn} (h : zbl fs ≤ 1048576) : zdk fs := fun j => by
 have h1 := fnsSz_at fs j
 unfold fnSz at h1
 exact ⟨by omega, by omega, short_of (by omega)⟩
set_option maxHeartbeats 1000000 in
set_option maxRecDepth 100000 in
theorem szFuncC (s : List UInt8) (n : Int) (t : List Nd) (ta : Option Addr) (tl tc : Nat) (left : Int) (w : World) (hin : za4 w ta tl t) (h0 : 0 ≤ left) (h1 : left ≤ 1048576) (hs : s.length ≤ maxLen) (ht : t.length ≤ maxLen) (hm : zht t) :
 Calls Tryz.prog 31 #[.agg #[.string ⟨s.toArray⟩, .int .i64 n, .slice ta tl tc], .int .i64 left] w fun e w' => e = .returned (.int .i64 (szM (fnSz (s, n, t)) left)) ∧ Below w.heap.size w w' := by
 obtain rfl : t.length = tl := hin.1
 unfold maxLen at hs
 have hs2 : (s.length : Int) ≤ 9223372036854775807 := by omega
 obtain ⟨W, hW⟩ : ∃ W, w.alloc (.cells #[.string ⟨s.toArray⟩, .int .i64 n, .slice ta t.length tc] 63) = W := ⟨_, rfl⟩
 have hbW : Below w.heap.size w W := by rw [← hW]; exact (Below.refl _ _).alloc (Nat.le_refl _) _
 have hA : W.heap[w.heap.size]? = some (.cells #[.string ⟨s.toArray⟩, .int .i64 n, .slice ta t.length tc] 63) := by rw [← hW]; exact heap_alloc_new w _
 have k0 : W.cell? ⟨w.heap.size, 0, none⟩ = some (.string ⟨s.toArray⟩) := by simp [World.cell?, hA]
 have k2 : W.cell? ⟨w.heap.size, 2, none⟩ = some (.slice ta t.length tc) := by simp [World.cell?, hA]
 have hinW := hin.below hbW
 clear hin hA
 by_cases hfit : (s.length : Int) ≤ left
 ·
  have HC := szNodeSC ta t.length tc t (left - (s.length : Int)) W hinW (by omega) (by omega) ht hm
  by_cases hfit2 : (t.length : Int) + (zaR t : Int) ≤ left - (s.length : Int)
  ·
   have HZ : Hid (szN t.length (zaR t) (left - (s.length : Int)) = szM (fnSz (s, n, t)) left) := by exact (by rw [zeq hfit2, zdl (by unfold fnSz; simp only; omega)]; unfold fnSz; simp only; omega : szN t.length (zaR t) (left - (s.length : Int)) = szM (fnSz (s, n, t)) left)
   have hge : 0 ≤ szM (fnSz (s, n, t)) left := by rw [← HZ.out, zeq hfit2]; omega
   have hge2 : 0 ≤ left - (s.length : Int) := by omega
   rw [HZ.out] at HC
   generalize szM (fnSz (s, n, t)) left = z at HC hge ⊢
   clear HZ
   go_enter Tryz.func31, Tryz.ntmps31
   go_wp2_with fail
   refine HC.mono ?_
   rintro e w1 ⟨rfl, hb1⟩
   have hb : Below w.heap.size w w1 := hbW.trans (hb1.mono hbW.size)
   clear HC hb1
   go_wp2
   go_ret
   exact ⟨rfl, hb⟩
  ·
   have HZ : Hid (szN t.length (zaR t) (left - (s.length : Int)) = -1) := zfG hfit2
   have HR : Hid (szM (fnSz (s, n, t)) left = -1) := zdi (by unfold fnSz; simp only; omega)
   have hge2 : 0 ≤ left - (s.length : Int) := by omega
   rw [HZ.out] at HC
   go_enter Tryz.func31, Tryz.ntmps31
   go_wp2_with fail
   refine HC.mono ?_
   rintro e w1 ⟨rfl, hb1⟩
   have hb : Below w.heap.size w w1 := hbW.trans (hb1.mono hbW.size)
   clear HC hb1
   go_wp2
   go_ret
   exact ⟨by rw [HR.out]; rfl, hb⟩
 ·
  have HR : Hid (szM (fnSz (s, n, t)) left = -1) := zdi (by unfold fnSz; simp only; omega)
  have hlt : left - (s.length : Int) < 0 := by omega
  go_enter Tryz.func31, Tryz.ntmps31
  go_wp2
  go_ret
  exact ⟨by rw [HR.out]; rfl, hbW⟩
set_option maxHeartbeats 2000000 in
set_option maxRecDepth 100000 in
theorem szFuncSC (a : Option Addr) (len cap : Nat) (fs : List Fn) (left : Int) (w : World) (hin : zav w a len fs) (h0 : 0 ≤ left) (h1 : left ≤ 1048576) (hl : len ≤ maxLen) (hm : zjQ fs) :
 Calls Tryz.prog 14 #[.slice a len cap, .int .i64 left] w fun e w' => e = .returned (.int .i64 (szM (len + zbl fs) left)) ∧ Below w.heap.size w w' := by
 unfold maxLen at hl
 have hl2 : (len : Int) ≤ 9223372036854775807 := by omega
 have hlb := hin.1
 by_cases h : (len : Int) ≤ left
 ·
  have hlen : len ≤ 1048576 := by omega
  have HI : Hid (zav w a len fs) := hin
  have HM : Hid (zjQ fs) := hm
  clear hin hm
  go_enter Tryz.func14, Tryz.ntmps14
  go_wp2
  go_loopw [1, 5] (fun l i wr => ∃ k : Nat, k ≤ len ∧ i = .int .i64 k ∧ l = .int .i64 (left - (len : Int) - (zbl (fs.take k) : Int)) ∧ (zbl (fs.take k) : Int) ≤ left - (len : Int) ∧ Below w.heap.size w wr) (fun _ i _ => len - (intOf i).toNat)
  case atStart => exact ⟨0, Nat.zero_le _, rfl, by simp [zbl], by simp [zbl]; omega, Below.refl _ _⟩
  case round =>
   obtain ⟨k, hk, rfl, rfl, hle, hB⟩ := hrel
   by_cases hkl : (k : Int) < (len : Int)
   ·
    obtain ⟨b, off, rfl, hbl, c0, c1, ta, tl, tc, c2, hnc, hnin⟩ := (HI.out.below hB).2 k (by omega)
    have hmk := HM.out k
    have hst := zfV fs k (by omega)
    have htt := zfU fs (k + 1)
    obtain ⟨f, hf⟩ : ∃ f, fs.getD k fn0 = f := ⟨_, rfl⟩
    rw [hf] at c0 c1 hmk hst hnin
    obtain ⟨s, n, t⟩ := f
    simp only at c0 c1 hmk hnin
    obtain ⟨m, hmm⟩ : ∃ m, zbl (fs.take k) = m := ⟨_, rfl⟩
    rw [hmm] at hle hst ⊢
    obtain ⟨z, hz⟩ : ∃ z, fnSz (s, n, t) = z := ⟨_, rfl⟩
    have HC := szFuncC s n t ta tl tc (left - (len : Int) - (m : Int)) wr hnin (by omega) (by omega) hmk.1 hmk.2.1 hmk.2.2
    rw [hz] at hst HC
    have HS : Hid (zbl (fs.take (k + 1)) = m + z) := hst
    clear hst hf hmm hz hnin hnc
    by_cases hfit : (z : Int) ≤ left - (len : Int) - (m : Int)
    ·
     have HZ : Hid (szM z (left - (len : Int) - (m : Int)) = left - (len : Int) - (zbl (fs.take (k + 1)) : Int)) := by
      exact (by rw [HS.out, zdl (by omega)]; omega : szM z (left - (len : Int) - (m : Int)) = left - (len : Int) - (zbl (fs.take (k + 1)) : Int))
     rw [HZ.out] at HC
     go_wp2_with fail
     refine HC.mono ?_
     rintro e w1 ⟨rfl, hb1⟩
     have hle2 : (zbl (fs.take (k + 1)) : Int) ≤ left - (len : Int) := by rw [HS.out]; omega
     have hge : (0 : Int) ≤ left - (len : Int) - (zbl (fs.take (k + 1)) : Int) := by omega
     clear HC
     go_wp2
     go_roundw
     case rel => exact ⟨k + 1, by omega, by go_num, rfl, hle2, hB.trans (hb1.mono hB.size)⟩
     case measure => simp [intOf]; omega
    ·
     have HZ : Hid (szM z (left - (len : Int) - (m : Int)) = -1) := zdi (by omega)
     have HR : Hid (szM (len + zbl fs) left = -1) := zdi (by have := HS.out; omega)
     rw [HZ.out] at HC
     go_wp2_with fail
     refine HC.mono ?_
     rintro e w1 ⟨rfl, hb1⟩
     clear HC
     go_wp2
     go_ret
     exact ⟨by rw [HR.out]; rfl, hB.trans (hb1.mono hB.size)⟩
   ·
    have HT : Hid (fs.take k = fs) := List.take_of_length_le (by omega)
    have HR : Hid (szM (len + zbl fs) left = left - (len : Int) - (zbl (fs.take k) : Int)) := by exact (by rw [HT.out] at hle ⊢; rw [zdl (by omega)]; omega : szM (len + zbl fs) left = left - (len : Int) - (zbl (fs.take k) : Int))
    go_wp2
    go_ret
    exact ⟨by rw [HR.out]; rfl, hB⟩
 ·
  have HR : Hid (szM (len + zbl fs) left = -1) := zdi (by omega)
  clear hin hm
  go_enter Tryz.func14, Tryz.ntmps14
  go_wp2
  go_ret
  exact ⟨by rw [HR.out]; rfl, Below.refl _ _⟩
set_option maxHeartbeats 2000000 in
set_option maxRecDepth 100000 in
theorem zfF (nm : List UInt8) (ia : Option Addr) (il ic : Nat) (fa : Option Addr) (fl fc : Nat) (ims : List (List UInt8)) (fs : List Fn) (left : Int) (w : World) (hi : zae w ia il ims) (hf : zav w fa fl fs) (h0 : 0 ≤ left) (h1 : left ≤ 1048576) (hnm : nm.length ≤ maxLen) (hil : il ≤ maxLen) (him : ∀ j, (ims.getD j []).length ≤ maxLen) (hfl : fl ≤ maxLen) (hfm : zjQ fs) :
 Calls Tryz.prog 4 #[.agg #[.string ⟨nm.toArray⟩, .slice ia il ic, .slice fa fl fc], .int .i64 left] w fun e w' => e = .returned (.int .i64 (szM (pkSz nm ims fs) left)) ∧ Below w.heap.size w w' := by
 obtain rfl : ims.length = il := hi.1
 obtain rfl : fs.length = fl := hf.1
 unfold maxLen at hnm
 have hs2 : (nm.length : Int) ≤ 9223372036854775807 := by omega
 obtain ⟨W, hW⟩ : ∃ W, w.alloc (.cells #[.string ⟨nm.toArray⟩, .slice ia ims.length ic, .slice fa fs.length fc] 25) = W := ⟨_, rfl⟩
 have hbW : Below w.heap.size w W := by rw [← hW]; exact (Below.refl _ _).alloc (Nat.le_refl _) _
 have hA : W.heap[w.heap.size]? = some (.cells #[.string ⟨nm.toArray⟩, .slice ia ims.length ic, .slice fa fs.length fc] 25) := by rw [← hW]; exact heap_alloc_new w _
 have k0 : W.cell? ⟨w.heap.size, 0, none⟩ = some (.string ⟨nm.toArray⟩) := by simp [World.cell?, hA]
 have k1 : W.cell? ⟨w.heap.size, 1, none⟩ = some (.slice ia ims.length ic) := by simp [World.cell?, hA]
 have k2 : W.cell? ⟨w.heap.size, 2, none⟩ = some (.slice fa fs.length fc) := by simp [World.cell?, hA]
 have hlt : w.heap.size < W.heap.size := by rw [← hW]; simp
 have hiW := hi.below hbW
 have hfW := hf.below hbW
 have hpk : pkSz nm ims fs = nm.length + (ims.length + zbx ims) + (fs.length + zbl fs) := rfl
 clear hi hf hA
 by_cases hfit : (nm.length : Int) ≤ left
 ·
  have hge1 : 0 ≤ left - (nm.length : Int) := by omega
  have HC := zj1 ia ims.length ic ims (left - (nm.length : Int)) W hiW (by omega) (by omega) hil him
  by_cases hfit2 : (ims.length : Int) + (zbx ims : Int) ≤ left - (nm.length : Int)
  ·
   rw [zjX hfit2] at HC
   have hge2 : 0 ≤ left - (nm.length : Int) - (ims.length : Int) - (zbx ims : Int) := by omega
   have HC2 := szFuncSC fa fs.length fc fs (left - (nm.length : Int) - (ims.length : Int) - (zbx ims : Int)) W hfW (by omega) (by omega) hfl hfm
   by_cases hfit3 : ((fs.length + zbl fs : Nat) : Int) ≤ left - (nm.length : Int) - (ims.length : Int) - (zbx ims : Int)
   ·
    have HZ : Hid (szM (fs.length + zbl fs) (left - (nm.length : Int) - (ims.length : Int) - (zbx ims : Int)) = szM (pkSz nm ims fs) left) := by exact (by rw [zdl hfit3, zdl (by rw [hpk]; omega), hpk]; omega : szM (fs.length + zbl fs) (left - (nm.length : Int) - (ims.length : Int) - (zbx ims : Int)) = szM (pkSz nm ims fs) left)
    have hge : 0 ≤ szM (pkSz nm ims fs) left := by rw [← HZ.out, zdl hfit3]; omega
    rw [HZ.out] at HC2
    generalize szM (pkSz nm ims fs) left = z at HC2 hge ⊢
    generalize left - (nm.length : Int) - (ims.length : Int) - (zbx ims : Int) = y at HC HC2 hge2
    clear HZ hfit3 hfit2
    go_enter Tryz.func4, Tryz.ntmps4
    go_wp2_with fail
    refine HC.mono ?_
    rintro e w1 ⟨rfl, rfl⟩
    go_wp2_with fail
    refine HC2.mono ?_
    rintro e w2 ⟨rfl, hb2⟩
    have hb : Below w.heap.size w w2 := hbW.trans (hb2.mono hbW.size)
    clear HC HC2 hb2
    go_wp2
    go_ret
    exact ⟨rfl, hb⟩
   ·
    have HR : Hid (szM (pkSz nm ims fs) left = -1) := zdi (by rw [hpk]; omega)
    rw [zdi hfit3] at HC2
    generalize left - (nm.length : Int) - (ims.length : Int) - (zbx ims : Int) = y at HC HC2 hge2
    clear hfit3 hfit2
    go_enter Tryz.func4, Tryz.ntmps4
    go_wp2_with fail
    refine HC.mono ?_
    rintro e w1 ⟨rfl, rfl⟩
    go_wp2_with fail
    refine HC2.mono ?_
    rintro e w2 ⟨rfl, hb2⟩
    have hb : Below w.heap.size w w2 := hbW.trans (hb2.mono hbW.size)
    clear HC HC2 hb2
    go_wp2
    go_ret
    exact ⟨by rw [HR.out]; rfl, hb⟩
  ·
   have HR : Hid (szM (pkSz nm ims fs) left = -1) := zdi (by rw [hpk]; omega)
   rw [zjY hfit2] at HC
   go_enter Tryz.func4, Tryz.ntmps4
   go_wp2_with fail
   refine HC.mono ?_
   rintro e w1 ⟨rfl, rfl⟩
   clear HC
   go_wp2
   go_ret
   exact ⟨by rw [HR.out]; rfl, hbW⟩
 ·
  have HR : Hid (szM (pkSz nm ims fs) left = -1) := zdi (by rw [hpk]; omega)
  have hlt2 : left - (nm.length : Int) < 0 := by omega
  clear hpk
  go_enter Tryz.func4, Tryz.ntmps4
  go_wp2
  go_ret
  exact ⟨by rw [HR.out]; rfl, hbW⟩
def IntF (fs : List Fn) : Prop := ∀ j, (-9223372036854775808 ≤ (fs.getD j fn0).2.1 ∧ (fs.getD j fn0).2.1 ≤ 9223372036854775807) ∧ IntT (fs.getD j fn0).2.2
structure PkOk (w : World) (nm : List UInt8) (ia : Option Addr) (il ic : Nat) (fa : Option Addr) (fl fc : Nat) (ims : List (List UInt8)) (fs : List Fn) : Prop where
 i : zae w ia il ims
 f : zav w fa fl fs
 ic : ia = none → ic = 0
 fc : (fa = none → fc = 0) ∧ fl ≤ fc
 int : IntF fs
 il : il ≤ 1048576
 fl : fl ≤ 1048576
 nm : nm.length ≤ 1048576
 is : ∀ i, (ims.getD i []).length ≤ 1048576
 fs : zdk fs
theorem PkOk.below {w w' : World} {nm : List UInt8} {ia : Option Addr} {il ic : Nat} {fa : Option Addr} {fl fc : Nat} {ims : List (List UInt8)} {fs : List Fn} (h : PkOk w nm ia il ic fa fl fc ims fs) (hb : Below w.heap.size w w') : PkOk w' nm ia il ic fa fl fc ims fs :=
 ⟨h.i.below hb, h.f.below hb, h.ic, h.fc, h.int, h.il, h.fl, h.nm, h.is, h.fs⟩
theorem zd3 {w : World} {base n : Nat} {v : Value} {ts : List (List UInt8)} (h : w.ownsRow base 9 1 v n (strV ts)) : ∃ a c, v = .slice a n c ∧ (a = none → c = 0) ∧ zae w a n ts := by
 obtain ⟨_, a, c, rfl, hin⟩ := zdt h
 refine ⟨a, c, rfl, fun e => ?_, hin⟩
 rcases zar h with ⟨e2, _, _⟩ | ⟨g, cp, e2⟩
 ·
  injection e2
 ·
  injection e2 with e3; rw [e] at e3; cases e3
theorem pk_small {nm : List UInt8} {ims : List (List UInt8)} {fs : List Fn} (h : pkSz nm ims fs ≤ 1048576) : ims.length ≤ 1048576 ∧ fs.length ≤ 1048576 ∧ nm.length ≤ 1048576 ∧ (∀ i, (ims.getD i []).length ≤ 1048576) ∧ zdk fs := by
 unfold pkSz at h
 refine ⟨by omega, by omega, by omega, fun i => ?_, zko (by omega)⟩
 have h1 := part_le ims i
 have h2 : zbx ims = ims.flatten.length := rfl
 omega
structure Box3 (V : World) (k : Nat) (a b c : Value) : Prop where
 c0 : V.cell? ⟨k, 0, none⟩ = some a
 c1 : V.cell? ⟨k, 1, none⟩ = some b
 c2 : V.cell? ⟨k, 2, none⟩ = some c
theorem Box3.lt {V : World} {k : Nat} {a b c : Value} (h : Box3 V k a b c) : k < V.heap.size := World.block_lt_of_cell? V ⟨k, 0, none⟩ h.c0
theorem Box3.keep {V V' : World} {k : Nat} {a b c : Value} (h : Box3 V k a b c) (hb : V'.heap[k]? = V.heap[k]?) : Box3 V' k a b c :=
 ⟨(World.cell?_of_block (a := ⟨k, 0, none⟩) hb).trans h.c0, (World.cell?_of_block (a := ⟨k, 1, none⟩) hb).trans h.c1, (World.cell?_of_block (a := ⟨k, 2, none⟩) hb).trans h.c2⟩
theorem Box3.below {V V' : World} {k : Nat} {a b c : Value} (h : Box3 V k a b c) (hb : Below V.heap.size V V') : Box3 V' k a b c := h.keep (hb.block k h.lt)
theorem Box3.wrote {V V' : World} {k : Nat} {a b c : Value} {S : Nat → Prop} (h : Box3 V k a b c) (hw : zb4 V V' S) (hk : ¬ S k) : Box3 V' k a b c := h.keep (hw.block k h.lt hk)
theorem Box3.grown {V V' : World} {k : Nat} {a b c : Value} {row : Option Nat} (h : Box3 V k a b c) (hg : V.grownBy V' row) (hk : some k ≠ row) : Box3 V' k a b c := h.keep (hg.block k h.lt hk)
theorem Box3.drew {V : World} {k : Nat} {a b c : Value} (h : Box3 V k a b c) : Box3 V.drew k a b c := ⟨h.c0, h.c1, h.c2⟩
theorem Box3.new (V : World) (a b c : Value) (t : TypeId) : Box3 (V.alloc (.cells #[a, b, c] t)) V.heap.size a b c ∧ Below V.heap.size V (V.alloc (.cells #[a, b, c] t)) := by
 have hb : Below V.heap.size V (V.alloc (.cells #[a, b, c] t)) := (Below.refl _ _).alloc (Nat.le_refl _) _
 have hA := heap_alloc_new V (.cells #[a, b, c] t)
 generalize V.alloc (.cells #[a, b, c] t) = W at hb hA ⊢
 exact ⟨⟨by simp [World.cell?, hA], by simp [World.cell?, hA], by simp [World.cell?, hA]⟩, hb⟩
theorem zkn {fs : List Fn} (h : zdk fs) {f : Fn} (hf : f ∈ fs) : f.2.2.length ≤ 1048576 := by
 obtain ⟨j, hj, rfl⟩ := List.mem_iff_getElem.1 hf
 have := (h j).2.1
 rw [List.getD_eq_getElem?_getD, List.getElem?_eq_getElem hj] at this
 exact this
theorem own_pk {w : World} {base : Nat} {vi vf : Value} {ims : List (List UInt8)} {xs : List FV} {fs : List Fn} (hoi : w.ownsRow base 9 1 vi ims.length (strV ims)) (hof : zas w base vf xs) (hxs : xs.map (·.1) = fs) :
 ∃ ai ci af cf, vi = .slice ai ims.length ci ∧ vf = .slice af fs.length cf ∧ (ai = none → ci = 0) ∧ ((af = none → cf = 0) ∧ fs.length ≤ cf) ∧ zae w ai ims.length ims ∧ zav w af fs.length fs := by
 obtain ⟨ai, ci, rfl, hic, hit⟩ := zd3 hoi
 obtain ⟨af, cf, rfl, hfc, hif⟩ := hof.in
 have hl : xs.length = fs.length := by rw [← hxs, List.length_map]
 have hcp : fs.length ≤ cf := by
  rcases hof.row.2 with ⟨e, h0⟩ | ⟨g, cap, cur, e, _, _, hc, _⟩
  ·
   rw [← hl, h0]; exact Nat.zero_le _
  ·
   injection e with _ _ e3
   rw [e3, ← hl]; exact hc
 rw [hxs, hl] at hif
 exact ⟨ai, ci, af, cf, rfl, by rw [hl], hic, ⟨hfc, hcp⟩, hit, hif⟩
theorem zjd {p : Pk} (h : pkgB p = true) : p.2.1.length ≤ 6 ∧ p.2.2.length ≤ 8 ∧ ∀ f ∈ p.2.2, f.2.2.length ≤ 60 := by
 unfold pkgB at h
 rw [Bool.and_eq_true, Bool.and_eq_true, Bool.and_eq_true] at h
 obtain ⟨⟨_, hi, hf⟩, ha⟩ := h
 unfold zal at hi
 rw [Bool.and_eq_true, Bool.and_eq_true] at hi
 have hf2 := of_decide_eq_true hf
 refine ⟨of_decide_eq_true hi.2.1, by omega, fun f hm => ?_⟩
 obtain ⟨j, hj, rfl⟩ := List.mem_iff_getElem.1 hm
 have h1 := ((of_decide_eq_true ha) j hj).1
 have hg : p.2.2.getD j fn0 = p.2.2[j] := by simp [List.getD, hj]
 rw [hg] at h1
 unfold zcW at h1
 rw [Bool.and_eq_true, Bool.and_eq_true] at h1
 exact (zic h1.2.2).1.2
theorem zd6 (V : World) (a b c d : Value) (t : TypeId) : ((V.alloc (.cells #[a, b, c, d] t)).cell? ⟨V.heap.size, 0, none⟩ = some a ∧ (V.alloc (.cells #[a, b, c, d] t)).cell? ⟨V.heap.size, 1, none⟩ = some b ∧ (V.alloc (.cells #[a, b, c, d] t)).cell? ⟨V.heap.size, 2, none⟩ = some c ∧ (V.alloc (.cells #[a, b, c, d] t)).cell? ⟨V.heap.size, 3, none⟩ = some d) ∧ Below V.heap.size V (V.alloc (.cells #[a, b, c, d] t)) := by
 have hb : Below V.heap.size V (V.alloc (.cells #[a, b, c, d] t)) := (Below.refl _ _).alloc (Nat.le_refl _) _
 have hA := heap_alloc_new V (.cells #[a, b, c, d] t)
 generalize V.alloc (.cells #[a, b, c, d] t) = W at hb hA ⊢
 exact ⟨⟨by simp [World.cell?, hA], by simp [World.cell?, hA], by simp [World.cell?, hA], by simp [World.cell?, hA]⟩, hb⟩
theorem zgm (l : List Int) (j : Nat) (h : j < l.length) : (zaF l)[j]? = some (.int .i64 l[j]) := by
 unfold zaF; rw [List.getElem?_map, List.getElem?_eq_getElem h]; rfl
set_option maxHeartbeats 1000000 in
set_option maxRecDepth 100000 in
theorem ziL (a b : Option Addr) (len ca cb : Nat) (ts : List (List UInt8)) (w : World) (ha : zae w a len ts) (hb : zae w b len ts) (hlen : len ≤ 4194304) :
 Calls Tryz.prog 23 #[.slice a len ca, .slice b len cb] w fun e w' => e = .returned (.bool true) ∧ Below w.heap.size w w' := by
 have hne : ((len : Int) != (len : Int)) = false := by simp
 have hself : ∀ l : List UInt8, (l != l) = false := by simp
 have HA : Hid (zae w a len ts) := ha
 have HB : Hid (zae w b len ts) := hb
 clear ha hb
 go_enter Tryz.func23, Tryz.ntmps23
 go_wp2
 go_loopw [5] (fun i wr => ∃ k : Nat, k ≤ len ∧ i = .int .i64 k ∧ Below w.heap.size w wr) (fun i _ => len - (intOf i).toNat)
 case atStart => exact ⟨0, Nat.zero_le _, rfl, Below.refl _ _⟩
 case round =>
  obtain ⟨k, hk, rfl, hB⟩ := hrel
  by_cases hkl : (k : Int) < (len : Int)
  ·
   obtain ⟨b1, o1, rfl, hb1, hca⟩ := (HA.out.below hB).2 k (by omega)
   obtain ⟨b2, o2, rfl, hb2, hcb⟩ := (HB.out.below hB).2 k (by omega)
   obtain ⟨t, ht⟩ : ∃ t, ts.getD k [] = t := ⟨_, rfl⟩
   rw [ht] at hca hcb
   clear ht
   go_wp2
   go_region
   all_goals (try go_wp2)
   go_roundw
   case rel => exact ⟨k + 1, by omega, by go_num, hB.drew⟩
   case measure => simp [intOf]; omega
  ·
   go_wp2
   go_ret
   exact ⟨rfl, hB⟩
set_option maxHeartbeats 1000000 in
set_option maxRecDepth 100000 in
theorem eqFuncC (s : List UInt8) (n : Int) (t : List Nd) (ta tb : Option Addr) (tl ca cb : Nat) (w : World) (ha : za4 w ta tl t) (hb : za4 w tb tl t) (hlen : tl ≤ 4194304) :
 Calls Tryz.prog 55 #[.agg #[.string ⟨s.toArray⟩, .int .i64 n, .slice ta tl ca], .agg #[.string ⟨s.toArray⟩, .int .i64 n, .slice tb tl cb]] w fun e w' => e = .returned (.bool true) ∧ Below w.heap.size w w' := by
 have h1 : ∀ n : Int, (n != n) = false := by simp
 have h2 : ∀ l : List UInt8, (l != l) = false := by simp
 have hbW : Below w.heap.size w ((w.alloc (.cells #[.string ⟨s.toArray⟩, .int .i64 n, .slice ta tl ca] 48)).alloc (.cells #[.string ⟨s.toArray⟩, .int .i64 n, .slice tb tl cb] 48)) := ((Below.refl _ _).alloc (Nat.le_refl _) _).alloc (by simp) _
 have HC := eqNodeSC ta tb tl ca cb t _ (ha.below hbW) (hb.below hbW) hlen
 clear ha hb
 go_enter Tryz.func55, Tryz.ntmps55
 go_wp2_with fail
 refine HC.mono ?_
 rintro e w1 ⟨rfl, hb1⟩
 have hbd : Below w.heap.size w w1 := hbW.trans (hb1.mono hbW.size)
 clear HC hb1 hbW
 go_wp2
 go_ret
 exact ⟨rfl, hbd⟩
set_option maxHeartbeats 2000000 in
set_option maxRecDepth 100000 in
theorem eqFuncSC (a b : Option Addr) (len ca cb : Nat) (fs : List Fn) (w : World) (ha : zav w a len fs) (hb : zav w b len fs) (hlen : len ≤ 4194304) (hsh : ∀ j, (fs.getD j fn0).2.2.length ≤ 4194304) :
 Calls Tryz.prog 25 #[.slice a len ca, .slice b len cb] w fun e w' => e = .returned (.bool true) ∧ Below w.heap.size w w' := by
 have HA : Hid (zav w a len fs) := ha
 have HB : Hid (zav w b len fs) := hb
 have HSH : Hid (∀ j, (fs.getD j fn0).2.2.length ≤ 4194304) := hsh
 clear ha hb hsh
 have h1 : ((len : Int) != (len : Int)) = false := by simp
 go_enter Tryz.func25, Tryz.ntmps25
 go_wp2
 go_loopw [5] (fun i wr => ∃ k : Nat, k ≤ len ∧ i = .int .i64 k ∧ Below w.heap.size w wr) (fun i _ => len - (intOf i).toNat)
 case atStart => exact ⟨0, Nat.zero_le _, rfl, Below.refl _ _⟩
 case round =>
  obtain ⟨k, hk, rfl, hB⟩ := hrel
  by_cases hkl : (k : Int) < (len : Int)
  ·
   obtain ⟨b1, o1, rfl, hb1, x0, x1, ta, tl, tc, x2, _, hn1⟩ := (HA.out.below hB).2 k (by omega)
   obtain ⟨b2, o2, rfl, hb2, y0, y1, tb, tl2, tc2, y2, _, hn2⟩ := (HB.out.below hB).2 k (by omega)
   have hts := HSH.out k
   obtain ⟨f, hf⟩ : ∃ f, fs.getD k fn0 = f := ⟨_, rfl⟩
   rw [hf] at x0 x1 y0 y1 hn1 hn2 hts
   obtain ⟨s, n, t⟩ := f
   simp only at x0 x1 y0 y1 hn1 hn2 hts
   obtain rfl : t.length = tl := hn1.1
   obtain rfl : t.length = tl2 := hn2.1
   have hn1' : za4 wr.drew ta t.length t := hn1.below ⟨rfl, rfl, rfl, Nat.le_refl _, fun _ _ => rfl⟩
   have hn2' : za4 wr.drew tb t.length t := hn2.below ⟨rfl, rfl, rfl, Nat.le_refl _, fun _ _ => rfl⟩
   clear hf hn1 hn2
   go_wp2
   go_region_held3 (fun w' => w'.cell? ⟨b1, o1 + k * 3, none⟩ = some (.string ⟨s.toArray⟩) ∧ w'.cell? ⟨b1, o1 + k * 3 + 1, none⟩ = some (.int .i64 n) ∧ w'.cell? ⟨b1, o1 + k * 3 + 2, none⟩ = some (.slice ta t.length tc) ∧ w'.cell? ⟨b2, o2 + k * 3, none⟩ = some (.string ⟨s.toArray⟩) ∧ w'.cell? ⟨b2, o2 + k * 3 + 1, none⟩ = some (.int .i64 n) ∧ w'.cell? ⟨b2, o2 + k * 3 + 2, none⟩ = some (.slice tb t.length tc2)) (go_keep) (first | (go_at_call 55; refine (eqFuncC s n t ta tb t.length tc tc2 _ hn1' hn2' hts).mono ?_; rintro e w1 ⟨rfl, hw1⟩; have d0 : w1.cell? ⟨b1, o1 + k * 3, none⟩ = some (.string ⟨s.toArray⟩) := (hw1.cell (p := ⟨b1, o1 + k * 3, none⟩) hb1).trans x0; have d1 : w1.cell? ⟨b1, o1 + k * 3 + 1, none⟩ = some (.int .i64 n) := (hw1.cell (p := ⟨b1, o1 + k * 3 + 1, none⟩) hb1).trans x1; have d2 : w1.cell? ⟨b1, o1 + k * 3 + 2, none⟩ = some (.slice ta t.length tc) := (hw1.cell (p := ⟨b1, o1 + k * 3 + 2, none⟩) hb1).trans x2; have e0 : w1.cell? ⟨b2, o2 + k * 3, none⟩ = some (.string ⟨s.toArray⟩) := (hw1.cell (p := ⟨b2, o2 + k * 3, none⟩) hb2).trans y0; have e1 : w1.cell? ⟨b2, o2 + k * 3 + 1, none⟩ = some (.int .i64 n) := (hw1.cell (p := ⟨b2, o2 + k * 3 + 1, none⟩) hb2).trans y1; have e2 : w1.cell? ⟨b2, o2 + k * 3 + 2, none⟩ = some (.slice tb t.length tc2) := (hw1.cell (p := ⟨b2, o2 + k * 3 + 2, none⟩) hb2).trans y2))
   all_goals go_wp2
   go_roundw
   case rel => exact ⟨k + 1, by omega, by go_num, hB.trans ⟨hw1.os, hw1.tape, hw1.output, hw1.size, fun q hq => hw1.block q (by have := hB.size; show q < wr.heap.size; omega)⟩⟩
   case measure => simp [intOf]; omega
  ·
   go_wp2
   go_ret
   exact ⟨rfl, hB⟩
set_option maxHeartbeats 2000000 in
set_option maxRecDepth 100000 in
theorem zjL (nm : List UInt8) (ia ib fa fb : Option Addr) (il ica icb fl fca fcb : Nat) (ims : List (List UInt8)) (fs : List Fn) (w : World) (hia : zae w ia il ims) (hib : zae w ib il ims) (hfa : zav w fa fl fs) (hfb : zav w fb fl fs) (hil : il ≤ 4194304) (hfl : fl ≤ 4194304) (hsh : ∀ j, (fs.getD j fn0).2.2.length ≤ 4194304) :
 Calls Tryz.prog 9 #[.agg #[.string ⟨nm.toArray⟩, .slice ia il ica, .slice fa fl fca], .agg #[.string ⟨nm.toArray⟩, .slice ib il icb, .slice fb fl fcb]] w fun e w' => e = .returned (.bool true) ∧ Below w.heap.size w w' := by
 have h2 : ∀ l : List UInt8, (l != l) = false := by simp
 obtain ⟨sa, hBa⟩ := PkIn.new (w := w) (nm := nm) (ic := ica) (fc := fca) hia hfa
 obtain ⟨W1, hW1⟩ : ∃ W, w.alloc (.cells #[.string ⟨nm.toArray⟩, .slice ia il ica, .slice fa fl fca] 33) = W := ⟨_, rfl⟩
 rw [hW1] at sa hBa
 obtain ⟨sb, hBb⟩ := PkIn.new (w := W1) (nm := nm) (ic := icb) (fc := fcb) (hib.below hBa) (hfb.below hBa)
 obtain ⟨W, hW⟩ : ∃ W, W1.alloc (.cells #[.string ⟨nm.toArray⟩, .slice ib il icb, .slice fb fl fcb] 33) = W := ⟨_, rfl⟩
 rw [hW] at sb hBb
 have hs1 : W1.heap.size = w.heap.size + 1 := by rw [← hW1]; simp
 have sa2 := sa.below hBb
 have hB : Below w.heap.size w W := hBa.trans (hBb.mono hBa.size)
 rw [hs1] at sb
 have HC := ziL ia ib il ica icb ims W sa2.i sb.i hil
 have k0 := sa2.k0
 have k1 := sa2.k1
 have k2 := sa2.k2
 have j0 := sb.k0
 have j1 := sb.k1
 have j2 := sb.k2
 clear hia hib hfa hfb sa hBa hBb
 go_enter Tryz.func9, Tryz.ntmps9
 go_wp2_with fail
 refine HC.mono ?_
 rintro e w1 ⟨rfl, hb1⟩
 have ta := sa2.below hb1
 have tb := sb.below hb1
 have HC2 := eqFuncSC fa fb fl fca fcb fs w1 ta.f tb.f hfl hsh
 have hB1 : Below w.heap.size w w1 := hB.trans (hb1.mono hB.size)
 replace k0 := ta.k0
 replace k1 := ta.k1
 replace k2 := ta.k2
 replace j0 := tb.k0
 replace j1 := tb.k1
 replace j2 := tb.k2
 clear HC hb1 sa2 sb hB
 go_wp2_with fail
 refine HC2.mono ?_
 rintro e w2 ⟨rfl, hb2⟩
 have hB2 : Below w.heap.size w w2 := hB1.trans (hb2.mono hB1.size)
 clear HC2 hb2 ta tb hB1 k0 k1 k2 j0 j1 j2
 go_wp2
 go_ret
 exact ⟨rfl, hB2⟩

theorem zdB {w : World} {a : Addr} {v : Value} (o : Obj) (h : w.cell? a = some v) : (w.alloc o).cell? a = some v :=
 (World.cell?_of_block (Below.heap_alloc _ _ _ (World.block_lt_of_cell? w a h))).trans h
set_option maxHeartbeats 2000000 in
set_option maxRecDepth 100000 in
theorem toFuncC (s : List UInt8) (n : Int) (t : List Nd) (ta : Option Addr) (tl tc : Nat) (w : World) (hin : za4 w ta tl t) (hlen : tl ≤ 1048576) :
 Calls Tryz.prog 41 #[.agg #[.string ⟨s.toArray⟩, .int .i64 n, .slice ta tl tc]] w fun e w' => ∃ a c, e = .returned (.agg #[.string ⟨s.toArray⟩, .int .i64 n, .slice a t.length c]) ∧ w'.ownsRow w.heap.size 90 4 (.slice a t.length c) t.length (za0 t) ∧ Below w.heap.size w w' := by
 obtain rfl : t.length = tl := hin.1
 obtain ⟨D, hD⟩ : ∃ D, w.heap.size = D := ⟨_, rfl⟩
 obtain ⟨W1, hW1⟩ : ∃ W, w.alloc (.cells #[.string ⟨s.toArray⟩, .int .i64 n, .slice ta t.length tc] 63) = W := ⟨_, rfl⟩
 obtain ⟨W2, hW2⟩ : ∃ W, W1.alloc (.cells #[.string ⟨#[]⟩, .int .i64 0, .slice none 0 0] 48) = W := ⟨_, rfl⟩
 have hs1 : W1.heap.size = D + 1 := by rw [← hW1, ← hD]; simp
 have hs2 : W2.heap.size = D + 2 := by rw [← hW2]; simp [hs1]
 have hb1 : Below D w W1 := by rw [← hW1, ← hD]; exact (Below.refl _ _).alloc (Nat.le_refl _) _
 have hb12 : Below W1.heap.size W1 W2 := by rw [← hW2]; exact (Below.refl _ _).alloc (Nat.le_refl _) _
 have hb2 : Below D w W2 := hb1.trans (hb12.mono (by omega))
 have hA1 : W1.heap[D]? = some (.cells #[.string ⟨s.toArray⟩, .int .i64 n, .slice ta t.length tc] 63) := by rw [← hW1, ← hD]; exact heap_alloc_new w _
 have hR : W2.heap[D + 1]? = some (.cells #[.string ⟨#[]⟩, .int .i64 0, .slice none 0 0] 48) := by rw [← hs1, ← hW2]; exact heap_alloc_new W1 _
 obtain ⟨q0, q1, q2, _⟩ := zhy hb12 (by omega) hA1
 have a0 : ∀ o, (W2.alloc o).cell? ⟨D, 0, none⟩ = some (.string ⟨s.toArray⟩) := fun o => zdB o q0
 have a1 : ∀ o, (W2.alloc o).cell? ⟨D, 1, none⟩ = some (.int .i64 n) := fun o => zdB o q1
 have a2 : ∀ o, (W2.alloc o).cell? ⟨D, 2, none⟩ = some (.slice ta t.length tc) := fun o => zdB o q2
 have HIN : Hid (za4 W2 ta t.length t) := hin.below (by rw [hD]; exact hb2)
 clear hin hA1 q0 q1 q2
 go_enter Tryz.func41, Tryz.ntmps41
 go_wp2_with fail
 obtain ⟨V, hV⟩ : ∃ V, W2.alloc (.cells #[.string ⟨s.toArray⟩, .int .i64 n, .slice none 0 0] 48) = V := ⟨_, rfl⟩
 rw [hV]
 have hbV : Below W2.heap.size W2 V := by rw [← hV]; exact (Below.refl _ _).alloc (Nat.le_refl _) _
 have hsV : V.heap.size = D + 3 := by rw [← hV]; simp [hs2]
 have hL : V.heap[D + 2]? = some (.cells #[.string ⟨s.toArray⟩, .int .i64 n, .slice none 0 0] 48) := by rw [← hs2, ← hV]; exact heap_alloc_new W2 _
 have hRV : V.heap[D + 1]? = some (.cells #[.string ⟨#[]⟩, .int .i64 0, .slice none 0 0] 48) := (hbV.block _ (by omega)).trans hR
 refine (toNodeSC ta t.length tc t V (HIN.out.below hbV) hlen).mono ?_
 rintro e w4 ⟨v, rfl, hown, _, hb4⟩
 obtain ⟨_, a', c', rfl, _⟩ := zaq hown
 obtain ⟨l0, l1, l2, lf⟩ := zhy hb4 (by omega) hL
 obtain ⟨r0, r1, r2, rf⟩ := zhy hb4 (by omega) hRV
 have hB4 : Below D w w4 := hb2.trans ((hbV.mono (by omega)).trans (hb4.mono (by omega)))
 have hs4 : D + 3 ≤ w4.heap.size := by have := hb4.size; omega
 rw [hsV] at hown
 obtain ⟨U, hU⟩ : ∃ U, w4.setCell ⟨D + 2, 2, none⟩ (.slice a' t.length c') = U := ⟨_, rfl⟩
 have hgU : w4.grownBy U (some (D + 2)) := by rw [← hU]; exact zaC _ _ _ _
 have u0 : U.cell? ⟨D + 2, 0, none⟩ = some (.string ⟨s.toArray⟩) := by rw [← hU]; exact (World.cell?_setCell_other _ _ _ _ (by simp)).trans l0
 have u1 : U.cell? ⟨D + 2, 1, none⟩ = some (.int .i64 n) := by rw [← hU]; exact (World.cell?_setCell_other _ _ _ _ (by simp)).trans l1
 have u2 : U.cell? ⟨D + 2, 2, none⟩ = some (.slice a' t.length c') := by rw [← hU]; exact World.cell?_setCell_same _ _ _ l2
 have p0 : U.cell? ⟨D + 1, 0, none⟩ = some (.string ⟨#[]⟩) := by rw [← hU]; exact (World.cell?_setCell_other _ _ _ _ (by simp)).trans r0
 have p1 : U.cell? ⟨D + 1, 1, none⟩ = some (.int .i64 0) := by rw [← hU]; exact (World.cell?_setCell_other _ _ _ _ (by simp)).trans r1
 have p2 : U.cell? ⟨D + 1, 2, none⟩ = some (.slice none 0 0) := by rw [← hU]; exact (World.cell?_setCell_other _ _ _ _ (by simp)).trans r2
 have pf : ∀ j, U.frozen? ⟨D + 1, j, none⟩ = false := fun j => by rw [← hU]; exact (World.frozen?_setCell ..).trans (rf j)
 have pf0 := pf 0
 have pf1 := pf 1
 have pf2 := pf 2
 have lf2 := lf 2
 have HOU : Hid (U.ownsRow (D + 3) 90 4 (.slice a' t.length c') t.length (za0 t)) := hown.kept hgU (zcs hown (by omega))
 have HBU : Hid (Below D w U) := hB4.grown hgU (by omega) (fun k e => by injection e with e; omega)
 have hsU : D + 3 ≤ U.heap.size := Nat.le_trans hs4 hgU.size
 clear hown hb4 hB4 hgU pf lf rf l0 l1 r0 r1 r2 a0 a1 a2 hL hRV hR hbV hb12 hb1 hb2 HIN
 go_wp2
 obtain ⟨Y, hY, y0, y1, y2, hg⟩ := set3 (.string ⟨s.toArray⟩) (.int .i64 n) (.slice a' t.length c') p0 p1 p2
 rw [hY]
 refine bodyPost_ret (v := .agg #[.string ⟨s.toArray⟩, .int .i64 n, .slice a' t.length c']) (by simp [results, Tryz.results41, go_sem, y0, y1, y2]) rfl ?_
 exact ⟨a', c', rfl, zaj (HOU.out.kept hg (zcs HOU.out (by omega))) (by omega), by rw [hD]; exact HBU.out.grown hg (by omega) (fun k e => by injection e with e; omega)⟩
theorem ziH (xs : List FV) (j : Nat) (y : FV) : (((fnsV xs).set (j * 3) (.string ⟨y.1.1.toArray⟩)).set (j * 3 + 1) (.int .i64 y.1.2.1)).set (j * 3 + 2) (fvT y) = fnsV (xs.set j y) := by
 induction xs generalizing j with
 | nil => simp [fnsV]
 | cons b r ih =>
  cases j with
  | zero => simp [fnsV]
  | succ j => rw [show (j + 1) * 3 = j * 3 + 1 + 1 + 1 by omega]; simp [fnsV, ih]
theorem made_fns (n : Nat) : (madeCells (Value.agg #[.string ⟨#[]⟩, .int .i64 0, .slice none 0 0]).cells (n * 3)).toList = fnsV (List.replicate n fv0) := by
 have hc : (Value.agg #[.string ⟨#[]⟩, .int .i64 0, .slice none 0 0]).cells = #[.string ⟨#[]⟩, .int .i64 0, .slice none 0 0] := rfl
 rw [hc]
 apply List.ext_getElem?
 intro j
 by_cases hj : j < n * 3
 ·
  obtain ⟨v0, v1, v2⟩ := zeT (List.replicate n fv0) (j / 3) (by simp; omega)
  have hg : (List.replicate n fv0).getD (j / 3) fv0 = fv0 := by simp [List.getD, List.getElem?_replicate]; split <;> rfl
  rw [hg] at v0 v1 v2
  have h3 : j % 3 = 0 ∨ j % 3 = 1 ∨ j % 3 = 2 := by omega
  rcases h3 with h' | h' | h'
  ·
   have ej : j = j / 3 * 3 := by omega
   rw [← ej] at v0
   rw [v0]
   simp [madeCells, hj, h', fv0, fn0]
  ·
   have ej : j = j / 3 * 3 + 1 := by omega
   rw [← ej] at v1
   rw [v1]
   simp [madeCells, hj, h', fv0, fn0]
  ·
   have ej : j = j / 3 * 3 + 2 := by omega
   rw [← ej] at v2
   rw [v2]
   simp [madeCells, hj, h', fv0, fn0, fvT]
 ·
  rw [List.getElem?_eq_none (by simp [madeCells]; omega), List.getElem?_eq_none (by rw [fnsV_len]; simp; omega)]
theorem fill_fn (ys : List FV) (len k : Nat) (y : FV) (hy : ys.length = k) (hk : k < len) : (ys ++ List.replicate (len - k) fv0).set k y = (ys ++ [y]) ++ List.replicate (len - (k + 1)) fv0 := by
 rw [List.set_append_right _ _ (by omega), hy, Nat.sub_self, show len - k = (len - (k + 1)) + 1 by omega, List.replicate_succ, zB, List.append_assoc]
 rfl
set_option maxHeartbeats 4000000 in
set_option maxRecDepth 100000 in
theorem toFuncSC (a : Option Addr) (len cap : Nat) (fs : List Fn) (w : World) (hin : zav w a len fs) (hlen : len ≤ 1048576) (hsh : ∀ j, (fs.getD j fn0).2.2.length ≤ 1048576) :
 Calls Tryz.prog 18 #[.slice a len cap] w fun e w' => ∃ g xs, e = .returned (.slice (some ⟨g, 0, none⟩) len len) ∧ xs.map (·.1) = fs ∧ zas w' w.heap.size (.slice (some ⟨g, 0, none⟩) len len) xs ∧ zc5 (xs.map fvT) ∧ Below w.heap.size w w' := by
 obtain ⟨i0, hi, hz0, hz1, hz2⟩ := info_parts ziF
 have hlb := hin.1
 have HI : Hid (zav w a len fs) := hin
 have HSH : Hid (∀ j, (fs.getD j fn0).2.2.length ≤ 1048576) := hsh
 clear hin hsh
 go_enter Tryz.func18, Tryz.ntmps18
 go_wp2_with (at_make; refine wpList_make_full _ rfl _ _ 31 rfl w.heap.size 48 i0 _ 3 Tryz.underlying31 hi hz0 hz1 .i64 .i64 _ _ len rfl rfl rfl rfl (by rw [hz2]; omega) (by unfold maxLen; omega) (Nat.le_refl _) ?_; intro w1 hown1 hgrow1)
 rw [made_fns] at hown1
 have hB1 : Below w.heap.size w w1 := (Below.refl _ _).grown hgrow1 (Nat.le_refl _) (by simp)
 clear hgrow1
 go_loopw [4] (fun i wr => ∃ (k : Nat) (ys : List FV), k ≤ len ∧ i = .int .i64 k ∧ ys.length = k ∧ Hid (ys.map (·.1) = fs.take k) ∧ Hid (wr.ownsRow w.heap.size 48 3 (.slice (some ⟨w.heap.size, 0, none⟩) len len) len (fnsV (ys ++ List.replicate (len - k) fv0))) ∧ Hid (∀ x ∈ ys, wr.ownsRow w.heap.size 90 4 (fvT x) x.1.2.2.length (za0 x.1.2.2)) ∧ Hid (zc5 (ys.map fvT)) ∧ Below w.heap.size w wr) (fun i _ => len - (intOf i).toNat)
 case atStart => exact ⟨0, [], Nat.zero_le _, rfl, rfl, (by simp : ([] : List FV).map (·.1) = fs.take 0), (by simpa using hown1 : w1.ownsRow w.heap.size 48 3 (.slice (some ⟨w.heap.size, 0, none⟩) len len) len (fnsV ([] ++ List.replicate (len - 0) fv0))), (fun x hx => (by cases hx) : ∀ x ∈ ([] : List FV), _), zc5.nil, hB1⟩
 case round =>
  obtain ⟨k, ys, hk, rfl, hyl, HM, HR, HT, HAP, hB⟩ := hrel
  clear hown1 hB1
  by_cases hkl : (k : Int) < (len : Int)
  ·
   obtain ⟨b, off, rfl, hbl, c0, c1, ta, tl, tc, c2, hnc, hnin⟩ := (HI.out.below hB).2 k (by omega)
   have hts := HSH.out k
   have hmk : fs.take (k + 1) = fs.take k ++ [fs.getD k fn0] := by
    have hg : fs.getD k fn0 = fs[k]'(by omega) := by simp [List.getD, show k < fs.length by omega]
    rw [hg, List.take_succ_eq_append_getElem]
   obtain ⟨f, hf⟩ : ∃ f, fs.getD k fn0 = f := ⟨_, rfl⟩
   rw [hf] at c0 c1 hnin hts hmk
   obtain ⟨s, n, t⟩ := f
   simp only at c0 c1 hnin hts
   obtain rfl : t.length = tl := hnin.1
   have HMK : Hid (fs.take (k + 1) = fs.take k ++ [(s, n, t)]) := hmk
   have HC := toFuncC s n t ta t.length tc wr hnin (by omega)
   clear hf hnin hmk
   go_wp2_with fail
   refine HC.mono ?_
   rintro e w2 ⟨av, cv, rfl, hownT, hb2⟩
   have hown2 := za2 HR.out hb2
   have hT2 : ∀ x ∈ ys, w2.ownsRow w.heap.size 90 4 (fvT x) x.1.2.2.length (za0 x.1.2.2) := fun x hx => za2 (HT.out x hx) hb2
   have hl2 : (ys ++ List.replicate (len - k) fv0).length = len := by rw [List.length_append, List.length_replicate]; omega
   obtain ⟨v0, v1, v2⟩ := zeT (ys ++ List.replicate (len - k) fv0) k (by omega)
   obtain ⟨u0, d0⟩ : ∃ u, w2.cell? ⟨w.heap.size, k * 3, none⟩ = some u := by
    rw [hown2.cellAt (k * 3) (by omega), v0]; exact ⟨_, rfl⟩
   obtain ⟨u1, d1⟩ : ∃ u, w2.cell? ⟨w.heap.size, k * 3 + 1, none⟩ = some u := by
    rw [hown2.cellAt (k * 3 + 1) (by omega), v1]; exact ⟨_, rfl⟩
   obtain ⟨u2, d2⟩ : ∃ u, w2.cell? ⟨w.heap.size, k * 3 + 2, none⟩ = some u := by
    rw [hown2.cellAt (k * 3 + 2) (by omega), v2]; exact ⟨_, rfl⟩
   have e0 := hown2.frozenAt (k * 3)
   have e1 := hown2.frozenAt (k * 3 + 1)
   have e2 := hown2.frozenAt (k * 3 + 2)
   have hs1 := hown2.stored (k * 3) (.string ⟨s.toArray⟩)
   have hs2 := hs1.1.stored (k * 3 + 1) (.int .i64 n)
   have hs3 := hs2.1.stored (k * 3 + 2) (.slice av t.length cv)
   have hnew := hs3.1
   have hset := ziH (ys ++ List.replicate (len - k) fv0) k ((s, n, t), av, cv)
   rw [fill_fn ys len k _ hyl (by omega)] at hset
   have hfv : fvT ((s, n, t), av, cv) = .slice av t.length cv := rfl
   rw [hfv] at hset
   simp only at hset
   rw [hset] at hnew
   have hgr : w2.grownBy (((w2.setCell ⟨w.heap.size, k * 3, none⟩ (.string ⟨s.toArray⟩)).setCell ⟨w.heap.size, k * 3 + 1, none⟩ (.int .i64 n)).setCell ⟨w.heap.size, k * 3 + 2, none⟩ (.slice av t.length cv)) (some w.heap.size) := ((zaC _ _ _ _).trans (zaC _ _ _ _)).trans (zaC _ _ _ _)
   have hsome : (Value.slice (some ⟨w.heap.size, 0, none⟩) len len).ownBlock = some w.heap.size := rfl
   have offT : ∀ {v : Value} {m : Nat} {zs : List Value}, w2.ownsRow w.heap.size 90 4 v m zs → v.ownBlock = none ∨ v.ownBlock ≠ some w.heap.size := fun ho => by rw [← hsome]; exact zah ho hown2 (by decide)
   have hB2 : Below w.heap.size w w2 := hB.trans (hb2.mono hB.size)
   have hownT2 := zaj hownT hB.size
   have HAP2 : Hid (zc5 ((ys ++ [((s, n, t), av, cv)]).map fvT)) := by
    rw [List.map_append]
    refine HAP.out.snoc (fun v hv => ?_)
    obtain ⟨x, hx, rfl⟩ := List.mem_map.1 hv
    exact zgQ (HT.out x hx) hownT (Nat.le_refl _)
   have HN : Hid (Below w.heap.size w (((w2.setCell ⟨w.heap.size, k * 3, none⟩ (.string ⟨s.toArray⟩)).setCell ⟨w.heap.size, k * 3 + 1, none⟩ (.int .i64 n)).setCell ⟨w.heap.size, k * 3 + 2, none⟩ (.slice av t.length cv))) := hB2.grown hgr hB2.size (fun q e => by injection e with e; omega)
   have HR2 : Hid ((((w2.setCell ⟨w.heap.size, k * 3, none⟩ (.string ⟨s.toArray⟩)).setCell ⟨w.heap.size, k * 3 + 1, none⟩ (.int .i64 n)).setCell ⟨w.heap.size, k * 3 + 2, none⟩ (.slice av t.length cv)).ownsRow w.heap.size 48 3 (.slice (some ⟨w.heap.size, 0, none⟩) len len) len (fnsV ((ys ++ [((s, n, t), av, cv)]) ++ List.replicate (len - (k + 1)) fv0))) := hnew
   have HT2 : Hid (∀ x ∈ ys ++ [((s, n, t), av, cv)], (((w2.setCell ⟨w.heap.size, k * 3, none⟩ (.string ⟨s.toArray⟩)).setCell ⟨w.heap.size, k * 3 + 1, none⟩ (.int .i64 n)).setCell ⟨w.heap.size, k * 3 + 2, none⟩ (.slice av t.length cv)).ownsRow w.heap.size 90 4 (fvT x) x.1.2.2.length (za0 x.1.2.2)) := fun x hx => by
    rw [List.mem_append, List.mem_singleton] at hx
    rcases hx with hx | rfl
    ·
     exact (hT2 x hx).kept hgr (offT (hT2 x hx))
    ·
     exact hownT2.kept hgr (offT hownT2)
   have HM2 : Hid ((ys ++ [((s, n, t), av, cv)]).map (·.1) = fs.take (k + 1)) := by exact (by rw [List.map_append, HM.out, HMK.out]; rfl : (ys ++ [((s, n, t), av, cv)]).map (·.1) = fs.take (k + 1))
   have hsz2 : w.heap.size < w2.heap.size := World.block_lt_of_cell? w2 ⟨w.heap.size, k * 3, none⟩ d0
   clear hown2 hs1 hs2 hs3 hl2 v0 v1 v2 hnew hset hfv hgr hsome offT hB2 hownT2 hownT HC HR HT HM hT2 HMK
   go_wp2
   go_roundw
   case rel => exact ⟨k + 1, ys ++ [((s, n, t), av, cv)], by omega, by go_num, by simp [hyl], HM2, HR2, HT2, HAP2, HN.out⟩
   case measure => simp [intOf]; omega
  ·
   have hd : ys ++ List.replicate (len - k) fv0 = ys := by rw [show len - k = 0 by omega]; simp
   have hrow := HR.out
   rw [hd] at hrow
   have HF : Hid (zas wr w.heap.size (.slice (some ⟨w.heap.size, 0, none⟩) len len) ys) := (⟨by rw [show ys.length = len by omega]; exact hrow, HT.out⟩ : zas wr w.heap.size (.slice (some ⟨w.heap.size, 0, none⟩) len len) ys)
   have HM2 : Hid (ys.map (·.1) = fs) := by exact (by rw [HM.out]; exact List.take_of_length_le (by omega) : ys.map (·.1) = fs)
   clear hd hrow HR HT HM
   go_wp2
   go_ret
   exact ⟨w.heap.size, rfl, ys, HM2.out, HF.out, HAP.out, hB⟩
set_option maxHeartbeats 4000000 in
set_option maxRecDepth 100000 in
theorem zcY (nm : List UInt8) (ia : Option Addr) (il ic : Nat) (fa : Option Addr) (fl fc : Nat) (ims : List (List UInt8)) (fs : List Fn) (w : World) (hi : zae w ia il ims) (hf : zav w fa fl fs) (hil : il ≤ 1048576) (hfl : fl ≤ 1048576) (hsh : ∀ j, (fs.getD j fn0).2.2.length ≤ 1048576) :
 Calls Tryz.prog 6 #[.agg #[.string ⟨nm.toArray⟩, .slice ia il ic, .slice fa fl fc]] w fun e w' => ∃ a1 c1 g2 xs, e = .returned (.agg #[.string ⟨nm.toArray⟩, .slice a1 il c1, .slice (some ⟨g2, 0, none⟩) fl fl]) ∧ xs.map (·.1) = fs ∧ w'.ownsRow w.heap.size 9 1 (.slice a1 il c1) il (strV ims) ∧ zas w' w.heap.size (.slice (some ⟨g2, 0, none⟩) fl fl) xs ∧ zc5 (xs.map fvT) ∧ Below w.heap.size w w' := by
 obtain ⟨D, hD⟩ : ∃ D, w.heap.size = D := ⟨_, rfl⟩
 obtain ⟨W1, hW1⟩ : ∃ W, w.alloc (.cells #[.string ⟨nm.toArray⟩, .slice ia il ic, .slice fa fl fc] 25) = W := ⟨_, rfl⟩
 obtain ⟨W2, hW2⟩ : ∃ W, W1.alloc (.cells #[.string ⟨#[]⟩, .slice none 0 0, .slice none 0 0] 33) = W := ⟨_, rfl⟩
 have hs1 : W1.heap.size = D + 1 := by rw [← hW1, ← hD]; simp
 have hs2 : W2.heap.size = D + 2 := by rw [← hW2]; simp [hs1]
 have hb1 : Below D w W1 := by rw [← hW1, ← hD]; exact (Below.refl _ _).alloc (Nat.le_refl _) _
 have hb12 : Below W1.heap.size W1 W2 := by rw [← hW2]; exact (Below.refl _ _).alloc (Nat.le_refl _) _
 have hb2 : Below D w W2 := hb1.trans (hb12.mono (by omega))
 have hA1 : W1.heap[D]? = some (.cells #[.string ⟨nm.toArray⟩, .slice ia il ic, .slice fa fl fc] 25) := by rw [← hW1, ← hD]; exact heap_alloc_new w _
 have hA2 : W2.heap[D]? = some (.cells #[.string ⟨nm.toArray⟩, .slice ia il ic, .slice fa fl fc] 25) := (hb12.block _ (by omega)).trans hA1
 have hR : W2.heap[D + 1]? = some (.cells #[.string ⟨#[]⟩, .slice none 0 0, .slice none 0 0] 33) := by rw [← hs1, ← hW2]; exact heap_alloc_new W1 _
 obtain ⟨q0, q1, q2, _⟩ := zhy hb12 (by omega) hA1
 have a0 : ∀ o, (W2.alloc o).cell? ⟨D, 0, none⟩ = some (.string ⟨nm.toArray⟩) := fun o => zdB o q0
 have a1 : ∀ o, (W2.alloc o).cell? ⟨D, 1, none⟩ = some (.slice ia il ic) := fun o => zdB o q1
 have HI2 : Hid (zae W2 ia il ims) := hi.below (by rw [hD]; exact hb2)
 have HF0 : Hid (zav w fa fl fs) := hf
 have HSH : Hid (∀ j, (fs.getD j fn0).2.2.length ≤ 1048576) := hsh
 clear hi hf hA1 q0 q1 q2 hsh
 go_enter Tryz.func6, Tryz.ntmps6
 go_wp2_with fail
 obtain ⟨V, hV⟩ : ∃ V, W2.alloc (.cells #[.string ⟨nm.toArray⟩, .slice none 0 0, .slice none 0 0] 33) = V := ⟨_, rfl⟩
 rw [hV]
 have hbV : Below W2.heap.size W2 V := by rw [← hV]; exact (Below.refl _ _).alloc (Nat.le_refl _) _
 have hsV : V.heap.size = D + 3 := by rw [← hV]; simp [hs2]
 have hL : V.heap[D + 2]? = some (.cells #[.string ⟨nm.toArray⟩, .slice none 0 0, .slice none 0 0] 33) := by rw [← hs2, ← hV]; exact heap_alloc_new W2 _
 have hRV : V.heap[D + 1]? = some (.cells #[.string ⟨#[]⟩, .slice none 0 0, .slice none 0 0] 33) := (hbV.block _ (by omega)).trans hR
 have hAV : V.heap[D]? = some (.cells #[.string ⟨nm.toArray⟩, .slice ia il ic, .slice fa fl fc] 25) := (hbV.block _ (by omega)).trans hA2
 refine (zj0 ia il ic ims V (HI2.out.below hbV) hil).mono ?_
 rintro e w4 ⟨v, rfl, hown, _, hb4⟩
 obtain ⟨_, a', c', rfl, _⟩ := zdt hown
 obtain ⟨l0, l1, l2, lf⟩ := zhy hb4 (by omega) hL
 obtain ⟨r0, r1, r2, rf⟩ := zhy hb4 (by omega) hRV
 obtain ⟨_, _, b2, _⟩ := zhy hb4 (by omega) hAV
 have hB4 : Below D w w4 := hb2.trans ((hbV.mono (by omega)).trans (hb4.mono (by omega)))
 have hs4 : D + 3 ≤ w4.heap.size := by have := hb4.size; omega
 rw [hsV] at hown
 obtain ⟨U, hU⟩ : ∃ U, w4.setCell ⟨D + 2, 1, none⟩ (.slice a' il c') = U := ⟨_, rfl⟩
 have hgU : w4.grownBy U (some (D + 2)) := by rw [← hU]; exact zaC _ _ _ _
 have u0 : U.cell? ⟨D + 2, 0, none⟩ = some (.string ⟨nm.toArray⟩) := by rw [← hU]; exact (World.cell?_setCell_other _ _ _ _ (by simp)).trans l0
 have u1 : U.cell? ⟨D + 2, 1, none⟩ = some (.slice a' il c') := by rw [← hU]; exact World.cell?_setCell_same _ _ _ l1
 have u2 : U.cell? ⟨D + 2, 2, none⟩ = some (.slice none 0 0) := by rw [← hU]; exact (World.cell?_setCell_other _ _ _ _ (by simp)).trans l2
 have d2 : U.cell? ⟨D, 2, none⟩ = some (.slice fa fl fc) := by rw [← hU]; exact (World.cell?_setCell_other _ _ _ _ (by simp)).trans b2
 have p0 : U.cell? ⟨D + 1, 0, none⟩ = some (.string ⟨#[]⟩) := by rw [← hU]; exact (World.cell?_setCell_other _ _ _ _ (by simp)).trans r0
 have p1 : U.cell? ⟨D + 1, 1, none⟩ = some (.slice none 0 0) := by rw [← hU]; exact (World.cell?_setCell_other _ _ _ _ (by simp)).trans r1
 have p2 : U.cell? ⟨D + 1, 2, none⟩ = some (.slice none 0 0) := by rw [← hU]; exact (World.cell?_setCell_other _ _ _ _ (by simp)).trans r2
 have pf : ∀ j, U.frozen? ⟨D + 1, j, none⟩ = false := fun j => by rw [← hU]; exact (World.frozen?_setCell ..).trans (rf j)
 have uf : ∀ j, U.frozen? ⟨D + 2, j, none⟩ = false := fun j => by rw [← hU]; exact (World.frozen?_setCell ..).trans (lf j)
 have lf1 := lf 1
 have hOU : U.ownsRow (D + 3) 9 1 (.slice a' il c') il (strV ims) := hown.kept hgU (zcs hown (by omega))
 have hBU : Below D w U := hB4.grown hgU (by omega) (fun k e => by injection e with e; omega)
 have hsU : D + 3 ≤ U.heap.size := Nat.le_trans hs4 hgU.size
 have hFU : zav U fa fl fs := HF0.out.below (by rw [hD]; exact hBU)
 have HC2 := toFuncSC fa fl fc fs U hFU hfl HSH.out
 have hl2 : D + 2 < U.heap.size := by omega
 have hl1 : D + 1 < U.heap.size := by omega
 clear hown hb4 hB4 hgU lf rf l0 l2 r0 r1 r2 a0 a1 hL hRV hR hbV hb12 hb1 hb2 HI2 b2 hA2 hAV HF0 HSH
 go_wp2_with fail
 refine HC2.mono ?_
 rintro e w5 ⟨g2, xs, rfl, hxs, hfo, hap, hb5⟩
 have HAP : Hid (zc5 (xs.map fvT)) := hap
 clear hap
 have n0 := (hb5.cell (p := ⟨D + 2, 0, none⟩) hl2).trans u0
 have n1 := (hb5.cell (p := ⟨D + 2, 1, none⟩) hl2).trans u1
 have n2 := (hb5.cell (p := ⟨D + 2, 2, none⟩) hl2).trans u2
 have m0 := (hb5.cell (p := ⟨D + 1, 0, none⟩) hl1).trans p0
 have m1 := (hb5.cell (p := ⟨D + 1, 1, none⟩) hl1).trans p1
 have m2 := (hb5.cell (p := ⟨D + 1, 2, none⟩) hl1).trans p2
 have mf : ∀ j, w5.frozen? ⟨D + 1, j, none⟩ = false := fun j => (hb5.frozen (p := ⟨D + 1, j, none⟩) hl1).trans (pf j)
 have nf2 := (hb5.frozen (p := ⟨D + 2, 2, none⟩) hl2).trans (uf 2)
 have hO5 := za2 hOU hb5
 have hfo5 := hfo.base hsU
 have hB5 : Below D w w5 := hBU.trans (hb5.mono (by omega))
 have hs5 : D + 3 ≤ w5.heap.size := Nat.le_trans hsU hb5.size
 obtain ⟨X, hX⟩ : ∃ X, w5.setCell ⟨D + 2, 2, none⟩ (.slice (some ⟨g2, 0, none⟩) fl fl) = X := ⟨_, rfl⟩
 have hgX : w5.grownBy X (some (D + 2)) := by rw [← hX]; exact zaC _ _ _ _
 have x0 : X.cell? ⟨D + 2, 0, none⟩ = some (.string ⟨nm.toArray⟩) := by rw [← hX]; exact (World.cell?_setCell_other _ _ _ _ (by simp)).trans n0
 have x1 : X.cell? ⟨D + 2, 1, none⟩ = some (.slice a' il c') := by rw [← hX]; exact (World.cell?_setCell_other _ _ _ _ (by simp)).trans n1
 have x2 : X.cell? ⟨D + 2, 2, none⟩ = some (.slice (some ⟨g2, 0, none⟩) fl fl) := by rw [← hX]; exact World.cell?_setCell_same _ _ _ n2
 have z0 : X.cell? ⟨D + 1, 0, none⟩ = some (.string ⟨#[]⟩) := by rw [← hX]; exact (World.cell?_setCell_other _ _ _ _ (by simp)).trans m0
 have z1 : X.cell? ⟨D + 1, 1, none⟩ = some (.slice none 0 0) := by rw [← hX]; exact (World.cell?_setCell_other _ _ _ _ (by simp)).trans m1
 have z2 : X.cell? ⟨D + 1, 2, none⟩ = some (.slice none 0 0) := by rw [← hX]; exact (World.cell?_setCell_other _ _ _ _ (by simp)).trans m2
 have zf : ∀ j, X.frozen? ⟨D + 1, j, none⟩ = false := fun j => by rw [← hX]; exact (World.frozen?_setCell ..).trans (mf j)
 have zf0 := zf 0
 have zf1 := zf 1
 have zf2 := zf 2
 have HXS : Hid (xs.map (·.1) = fs) := hxs
 have HOX : Hid (X.ownsRow (D + 3) 9 1 (.slice a' il c') il (strV ims)) := hO5.kept hgX (zcs hO5 (by omega))
 have HFX : Hid (zas X (D + 3) (.slice (some ⟨g2, 0, none⟩) fl fl) xs) := hfo5.kept hgX (zcs hfo5.row (by omega)) (fun y hy => zcs (hfo5.trees y hy) (by omega))
 have HBX : Hid (Below D w X) := hB5.grown hgX (by omega) (fun k e => by injection e with e; omega)
 have hsX : D + 3 ≤ X.heap.size := Nat.le_trans hs5 hgX.size
 clear HC2 hfo hfo5 hb5 hO5 hOU hB5 hgX zf mf pf uf u0 u1 u2 p0 p1 p2 d2 n0 n1 m0 m1 m2 hxs hFU hBU lf1
 go_wp2
 obtain ⟨Y, hY, y0, y1, y2, hg⟩ := set3 (.string ⟨nm.toArray⟩) (.slice a' il c') (.slice (some ⟨g2, 0, none⟩) fl fl) z0 z1 z2
 rw [hY]
 refine bodyPost_ret (v := .agg #[.string ⟨nm.toArray⟩, .slice a' il c', .slice (some ⟨g2, 0, none⟩) fl fl]) (by simp [results, Tryz.results6, go_sem, y0, y1, y2]) rfl ?_
 have hfx := HFX.out
 exact ⟨a', c', g2, xs, rfl, HXS.out, zaj (HOX.out.kept hg (zcs HOX.out (by omega))) (by omega), (hfx.kept hg (zcs hfx.row (by omega)) (fun y hy => zcs (hfx.trees y hy) (by omega))).base (by omega), HAP.out, by rw [hD]; exact HBX.out.grown hg (by omega) (fun k e => by injection e with e; omega)⟩
end Go.Proofs.YtkpdoedpkncboaaGreat
