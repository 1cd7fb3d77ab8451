/-
  Parts of one proof, one behind the other: OsL, InsM, RtM.
-/
import Derived.Test.YteolfnceobjonaaGreatP10
import Derived.Test.YteolfnceobjonaaGreatP8
import Derived.Test.YteolfnceobjonaaGreatP5
import Derived.Deep.RegionWith

/-! The laws' own helpers over lists of objects: szObjectS, eqObjectS. -/
namespace Go.Proofs.YteolfnceobjonaaGreat
open Go.RowKit

def obZ (p : Ob) : Nat := obSz p.1 p.2.1 p.2.2
def osSz : List Ob → Nat
  | [] => 0
  | p :: r => obZ p + osSz r
theorem osSz_append (x y : List Ob) : osSz (x ++ y) = osSz x + osSz y := by
  induction x with
  | nil => simp [osSz]
  | cons n r ih => simp only [List.cons_append, osSz, ih]; omega
theorem osSz_snoc (os : List Ob) (k : Nat) (hk : k < os.length) : osSz (os.take (k + 1)) = osSz (os.take k) + obZ (os.getD k ob0) := by
  have hg : os.getD k ob0 = os[k] := by simp [List.getD, hk]
  rw [hg, List.take_succ_eq_append_getElem hk, osSz_append]
  simp [osSz]
theorem osSz_take (os : List Ob) (k : Nat) : osSz (os.take k) ≤ osSz os := by
  have := osSz_append (os.take k) (os.drop k)
  rw [List.take_append_drop] at this
  omega
theorem osSz_at (os : List Ob) (j : Nat) : obZ (os.getD j ob0) ≤ osSz os := by
  by_cases hj : j < os.length
  · have h1 := osSz_snoc os j hj
    have h2 := osSz_take os (j + 1)
    omega
  · have : os.getD j ob0 = ob0 := by rw [List.getD, List.getElem?_eq_none (by omega)]; rfl
    rw [this]; simp [ob0, obZ, obSz, joinN, rtsSz]
def LongOs (os : List Ob) : Prop := ∀ j, (os.getD j ob0).1.length ≤ maxLen ∧ (os.getD j ob0).2.1.length ≤ maxLen ∧ (∀ i, ((os.getD j ob0).2.1.getD i []).length ≤ maxLen) ∧ (os.getD j ob0).2.2.length ≤ maxLen ∧ LongR (os.getD j ob0).2.2
def IntOs (os : List Ob) : Prop := ∀ j, IntR (os.getD j ob0).2.2
theorem shortOs_of {os : List Ob} (h : osSz os ≤ 1048576) : ShortOs os := fun j => by
  have h1 := osSz_at os j
  obtain ⟨a, b, c, d, e⟩ := ob_small (nm := (os.getD j ob0).1) (ims := (os.getD j ob0).2.1) (fs := (os.getD j ob0).2.2) (by unfold obZ at h1; omega)
  exact ⟨c, a, d, b, e⟩

set_option maxHeartbeats 2000000 in
set_option maxRecDepth 100000 in
theorem szObjectSC (a : Option Addr) (len cap : Nat) (os : List Ob) (left : Int) (w : World) (hin : ObjsIn w a len os) (h0 : 0 ≤ left) (h1 : left ≤ 1048576) (hl : len ≤ maxLen) (hm : LongOs os) :
    Calls Tryz.prog 7 #[.slice a len cap, .int .i64 left] w fun e w' => e = .returned (.int .i64 (szR (len + osSz os) left)) ∧ Below w.heap.size w w' := by
  unfold maxLen at hl
  have hl2 : (len : Int) ≤ 9223372036854775807 := by omega
  have hlb := hin.1
  by_cases h : (len : Int) ≤ left
  · have hlen : len ≤ 1048576 := by omega
    have HI : Hid (ObjsIn w a len os) := hin
    have HM : Hid (LongOs os) := hm
    clear hin hm
    go_enter Tryz.func7, Tryz.ntmps7
    go_wp2
    go_loopw [1, 5] (fun l i wr => ∃ k : Nat, k ≤ len ∧ i = .int .i64 k ∧ l = .int .i64 (left - (len : Int) - (osSz (os.take k) : Int)) ∧ (osSz (os.take k) : Int) ≤ left - (len : Int) ∧ Below w.heap.size w wr) (fun _ i _ => len - (intOf i).toNat)
    case atStart => exact ⟨0, Nat.zero_le _, rfl, by simp [osSz], by simp [osSz]; omega, Below.refl _ _⟩
    case round =>
      obtain ⟨k, hk, rfl, rfl, hle, hB⟩ := hrel
      by_cases hkl : (k : Int) < (len : Int)
      · obtain ⟨b, off, rfl, hbl, c0, ia, il, ic, fa, fl, fc, c1, c2, hii, hff⟩ := (HI.out.below hB).2 k (by omega)
        have hmk := HM.out k
        have hst := osSz_snoc os k (by omega)
        have htt := osSz_take os (k + 1)
        obtain ⟨p, hp⟩ : ∃ p, os.getD k ob0 = p := ⟨_, rfl⟩
        rw [hp] at c0 hmk hst hii hff
        obtain ⟨nm, ims, fs⟩ := p
        simp only at c0 hmk hii hff
        obtain ⟨m, hmm⟩ : ∃ m, osSz (os.take k) = m := ⟨_, rfl⟩
        rw [hmm] at hle hst ⊢
        obtain ⟨z, hz⟩ : ∃ z, obZ (nm, ims, fs) = z := ⟨_, rfl⟩
        have HC := szObjectC nm ia il ic fa fl fc ims fs (left - (len : Int) - (m : Int)) wr hii hff (by omega) (by omega) hmk.1 (by rw [← hii.1]; exact hmk.2.1) hmk.2.2.1 (by rw [← hff.1]; exact hmk.2.2.2.1) hmk.2.2.2.2
        rw [show obSz nm ims fs = z from hz] at HC
        rw [hz] at hst
        have HS : Hid (osSz (os.take (k + 1)) = m + z) := hst
        clear hst hp hmm hz hii hff
        by_cases hfit : (z : Int) ≤ left - (len : Int) - (m : Int)
        · have HZ : Hid (szR z (left - (len : Int) - (m : Int)) = left - (len : Int) - (osSz (os.take (k + 1)) : Int)) := by
            exact (by rw [HS.out, szR_yes (by omega)]; omega : szR z (left - (len : Int) - (m : Int)) = left - (len : Int) - (osSz (os.take (k + 1)) : Int))
          rw [HZ.out] at HC
          go_wp2_with fail
          refine HC.mono ?_
          rintro e w1 ⟨rfl, hb1⟩
          have hle2 : (osSz (os.take (k + 1)) : Int) ≤ left - (len : Int) := by rw [HS.out]; omega
          have hge : (0 : Int) ≤ left - (len : Int) - (osSz (os.take (k + 1)) : Int) := by omega
          clear HC
          go_wp2
          go_roundw
          case rel => exact ⟨k + 1, by omega, by go_num, rfl, hle2, hB.trans (hb1.mono hB.size)⟩
          case measure => simp [intOf]; omega
        · have HZ : Hid (szR z (left - (len : Int) - (m : Int)) = -1) := szR_no (by omega)
          have HR : Hid (szR (len + osSz os) left = -1) := szR_no (by have := HS.out; omega)
          rw [HZ.out] at HC
          go_wp2_with fail
          refine HC.mono ?_
          rintro e w1 ⟨rfl, hb1⟩
          clear HC
          go_wp2
          go_ret
          exact ⟨by rw [HR.out]; rfl, hB.trans (hb1.mono hB.size)⟩
      · have HT : Hid (os.take k = os) := List.take_of_length_le (by omega)
        have HR : Hid (szR (len + osSz os) left = left - (len : Int) - (osSz (os.take k) : Int)) := by exact (by rw [HT.out] at hle ⊢; rw [szR_yes (by omega)]; omega : szR (len + osSz os) left = left - (len : Int) - (osSz (os.take k) : Int))
        go_wp2
        go_ret
        exact ⟨by rw [HR.out]; rfl, hB⟩
  · have HR : Hid (szR (len + osSz os) left = -1) := szR_no (by omega)
    clear hin hm
    go_enter Tryz.func7, Tryz.ntmps7
    go_wp2
    go_ret
    exact ⟨by rw [HR.out]; rfl, Below.refl _ _⟩

set_option maxHeartbeats 2000000 in
set_option maxRecDepth 100000 in
theorem eqObjectSC (a b : Option Addr) (len ca cb : Nat) (os : List Ob) (w : World) (ha : ObjsIn w a len os) (hb : ObjsIn w b len os) (hlen : len ≤ 4194304) (hsh : ShortOs os) :
    Calls Tryz.prog 12 #[.slice a len ca, .slice b len cb] w fun e w' => e = .returned (.bool true) ∧ Below w.heap.size w w' := by
  have HA : Hid (ObjsIn w a len os) := ha
  have HB : Hid (ObjsIn w b len os) := hb
  have HSH : Hid (ShortOs os) := hsh
  clear ha hb hsh
  have h1 : ((len : Int) != (len : Int)) = false := by simp
  go_enter Tryz.func12, Tryz.ntmps12
  go_wp2
  go_loopw [5] (fun i wr => ∃ k : Nat, k ≤ len ∧ i = .int .i64 k ∧ Hid (Below w.heap.size w wr)) (fun i _ => len - (intOf i).toNat)
  case atStart => exact ⟨0, Nat.zero_le _, rfl, Below.refl _ _⟩
  case round =>
    obtain ⟨k, hk, rfl, HBl⟩ := hrel
    have hB := HBl.out
    clear HBl
    by_cases hkl : (k : Int) < (len : Int)
    · obtain ⟨b1, o1, rfl, hb1, x0, ia, il, ic, fa, fl, fc, x1, x2, hi1, hf1⟩ := (HA.out.below hB).2 k (by omega)
      obtain ⟨b2, o2, rfl, hb2, y0, ja, jl, jc, ga, gl, gc, y1, y2, hi2, hf2⟩ := (HB.out.below hB).2 k (by omega)
      have hts := HSH.out k
      obtain ⟨p, hp⟩ : ∃ p, os.getD k ob0 = p := ⟨_, rfl⟩
      rw [hp] at x0 y0 hi1 hi2 hf1 hf2 hts
      obtain ⟨nm, ims, fs⟩ := p
      simp only at x0 y0 hi1 hi2 hf1 hf2 hts
      obtain rfl : ims.length = il := hi1.1
      obtain rfl : ims.length = jl := hi2.1
      obtain rfl : fs.length = fl := hf1.1
      obtain rfl : fs.length = gl := hf2.1
      have hdr : Below wr.heap.size wr wr.drew := ⟨rfl, rfl, rfl, Nat.le_refl _, fun _ _ => rfl⟩
      have HC : Hid (_) := eqObjectC nm ia ja fa ga ims.length ic jc fs.length fc gc ims fs wr.drew (hi1.below hdr) (hi2.below hdr) (hf1.below hdr) (hf2.below hdr) (Nat.le_trans hts.2.1 (by omega)) (Nat.le_trans hts.2.2.2.1 (by omega)) (fun j => Nat.le_trans (hts.2.2.2.2 j).2.1 (by omega))
      clear hp hi1 hi2 hf1 hf2 hts hdr
      go_wp2
      go_region_held3 (fun w' => w'.cell? ⟨b1, o1 + k * 3, none⟩ = some (.string ⟨nm.toArray⟩) ∧ w'.cell? ⟨b1, o1 + k * 3 + 1, none⟩ = some (.slice ia ims.length ic) ∧ w'.cell? ⟨b1, o1 + k * 3 + 2, none⟩ = some (.slice fa fs.length fc) ∧ w'.cell? ⟨b2, o2 + k * 3, none⟩ = some (.string ⟨nm.toArray⟩) ∧ w'.cell? ⟨b2, o2 + k * 3 + 1, none⟩ = some (.slice ja ims.length jc) ∧ w'.cell? ⟨b2, o2 + k * 3 + 2, none⟩ = some (.slice ga fs.length gc)) (go_keep) (first | (go_at_call 27; refine Calls.mono HC.out ?_; rintro e w2 ⟨rfl, hw1⟩; replace x0 := (hw1.cell (p := ⟨b1, o1 + k * 3, none⟩) hb1).trans x0; replace x1 := (hw1.cell (p := ⟨b1, o1 + k * 3 + 1, none⟩) hb1).trans x1; replace x2 := (hw1.cell (p := ⟨b1, o1 + k * 3 + 2, none⟩) hb1).trans x2; replace y0 := (hw1.cell (p := ⟨b2, o2 + k * 3, none⟩) hb2).trans y0; replace y1 := (hw1.cell (p := ⟨b2, o2 + k * 3 + 1, none⟩) hb2).trans y1; replace y2 := (hw1.cell (p := ⟨b2, o2 + k * 3 + 2, none⟩) hb2).trans y2))
      all_goals
        have HB2 : Hid (Below w.heap.size w w2) := hB.trans ⟨hw1.os, hw1.tape, hw1.output, hw1.size, fun q hq => hw1.block q (by have := hB.size; show q < wr.heap.size; omega)⟩
        go_wp2
        go_roundw
        case rel => exact ⟨k + 1, by omega, by go_num, HB2⟩
        case measure => simp [intOf]; omega
    · go_wp2
      go_ret
      exact ⟨rfl, hB⟩

end Go.Proofs.YteolfnceobjonaaGreat

/-! The laws' own helpers over rows of instructions: markInsS, heldInsS. -/
namespace Go.Proofs.YteolfnceobjonaaGreat
open Go.RowKit

/-- The marks of m instructions, from k on. -/
def marksC (k : Nat) : Nat → List In13
  | 0 => []
  | m + 1 => marksC k m ++ [(((k + 5 * m : Nat) : Int), ((k + 5 * m + 1 : Nat) : Int), ((k + 5 * m + 1 + 1 : Nat) : Int), ((k + 5 * m + 1 + 1 + 1 : Nat) : Int), markL (k + 5 * m + 1 + 1 + 1 + 1))]
theorem marksC_len (k m : Nat) : (marksC k m).length = m := by
  induction m with
  | zero => rfl
  | succ m ih => simp [marksC, ih]
theorem marksC_at (k m j : Nat) (h : j < m) : (marksC k m).getD j in0 = (((k + 5 * j : Nat) : Int), ((k + 5 * j + 1 : Nat) : Int), ((k + 5 * j + 1 + 1 : Nat) : Int), ((k + 5 * j + 1 + 1 + 1 : Nat) : Int), markL (k + 5 * j + 1 + 1 + 1 + 1)) := by
  induction m with
  | zero => omega
  | succ m ih =>
    unfold marksC
    by_cases hj : j < m
    · rw [← ih hj]
      simp [List.getD, List.getElem?_append, marksC_len, hj]
    · obtain rfl : j = m := by omega
      simp [List.getD, marksC_len]
theorem marksC_set (k i : Nat) (ns : List In13) (h : i < ns.length) : (marksC k i ++ ns.drop i).set i (((k + 5 * i : Nat) : Int), ((k + 5 * i + 1 : Nat) : Int), ((k + 5 * i + 1 + 1 : Nat) : Int), ((k + 5 * i + 1 + 1 + 1 : Nat) : Int), markL (k + 5 * i + 1 + 1 + 1 + 1)) = marksC k (i + 1) ++ ns.drop (i + 1) := by
  rw [List.set_append_right _ _ (by rw [marksC_len]; omega), marksC_len, Nat.sub_self, List.drop_eq_getElem_cons h, List.set_cons_zero]
  conv => rhs; unfold marksC
  rw [List.append_assoc]; rfl

set_option maxHeartbeats 4000000 in
set_option maxRecDepth 100000 in
theorem markInsSC (w : World) (base g cp n k0 : Nat) (ns : List In13) (hn : n ≤ 1100000) (hk0 : 0 < k0) (hk1 : k0 ≤ 30000000)
    (h : w.ownsRow base 102 5 (.slice (some ⟨g, 0, none⟩) n cp) n (insV ns)) :
    Calls Tryz.prog 69 #[.slice (some ⟨g, 0, none⟩) n cp, .int .i64 k0] w fun e w' => e = .returned (.int .i64 ((k0 + 5 * n : Nat) : Int)) ∧ w'.ownsRow base 102 5 (.slice (some ⟨g, 0, none⟩) n cp) n (insV (marksC k0 n)) ∧ w.grownBy w' (some g) := by
  have hbl := (own_ins h).1
  go_enter Tryz.func69, Tryz.ntmps69
  go_wp2
  go_loopw [1, 5] (fun k i wr => ∃ m : Nat, m ≤ n ∧ i = .int .i64 m ∧ k = .int .i64 ((k0 + 5 * m : Nat) : Int) ∧ wr.ownsRow base 102 5 (.slice (some ⟨g, 0, none⟩) n cp) n (insV (marksC k0 m ++ ns.drop m)) ∧ w.grownBy wr (some g)) (fun _ i _ => n - (intOf i).toNat)
  case atStart => exact ⟨0, Nat.zero_le _, rfl, rfl, h, World.grownBy.refl _ _⟩
  case round =>
    obtain ⟨m, hm, rfl, rfl, hown, hg⟩ := hrel
    by_cases hlt : (m : Int) < (n : Int)
    · have hl2 : (marksC k0 m ++ ns.drop m).length = n := (own_ins hown).1
      have hset := marksC_set k0 m ns (by omega)
      obtain ⟨q, hq⟩ : ∃ q, k0 + 5 * m = q := ⟨_, rfl⟩
      have hq3 : q ≤ 36500000 := by omega
      have HQ2 : Hid (k0 + 5 * (m + 1) = q + 1 + 1 + 1 + 1 + 1) := by exact (by omega : k0 + 5 * (m + 1) = q + 1 + 1 + 1 + 1 + 1)
      rw [hq] at hset ⊢
      clear hq
      obtain ⟨v0, v1, v2, v3, v4⟩ := insV_at (marksC k0 m ++ ns.drop m) m (by omega)
      obtain ⟨xs, hxs⟩ : ∃ xs, insV (marksC k0 m ++ ns.drop m) = xs := ⟨_, rfl⟩
      have hset2 := insV_set (marksC k0 m ++ ns.drop m) m (q : Int) ((q + 1 : Nat) : Int) ((q + 1 + 1 : Nat) : Int) ((q + 1 + 1 + 1 : Nat) : Int) (markL (q + 1 + 1 + 1 + 1))
      rw [hset, hxs] at hset2
      rw [hxs] at hown v0 v1 v2 v3 v4
      have HSET : Hid (_) := hset2
      clear hset hset2 hxs
      obtain ⟨u0, d0⟩ : ∃ u, wr.cell? ⟨g, m * 5, none⟩ = some u := by rw [hown.cellAt (m * 5) (by omega), v0]; exact ⟨_, rfl⟩
      obtain ⟨u1, d1⟩ : ∃ u, wr.cell? ⟨g, m * 5 + 1, none⟩ = some u := by rw [hown.cellAt (m * 5 + 1) (by omega), v1]; exact ⟨_, rfl⟩
      obtain ⟨u2, d2⟩ : ∃ u, wr.cell? ⟨g, m * 5 + 2, none⟩ = some u := by rw [hown.cellAt (m * 5 + 2) (by omega), v2]; exact ⟨_, rfl⟩
      obtain ⟨u3, d3⟩ : ∃ u, wr.cell? ⟨g, m * 5 + 3, none⟩ = some u := by rw [hown.cellAt (m * 5 + 3) (by omega), v3]; exact ⟨_, rfl⟩
      have e0 := hown.frozenAt (m * 5)
      have e1 := hown.frozenAt (m * 5 + 1)
      have e2 := hown.frozenAt (m * 5 + 2)
      have e3 := hown.frozenAt (m * 5 + 3)
      have hs1 := hown.stored (m * 5) (.int .i64 (q : Int))
      have hs2 := hs1.1.stored (m * 5 + 1) (.int .i64 ((q + 1 : Nat) : Int))
      have hs3 := hs2.1.stored (m * 5 + 2) (.int .i64 ((q + 1 + 1 : Nat) : Int))
      have hs4 := hs3.1.stored (m * 5 + 3) (.int .i64 ((q + 1 + 1 + 1 : Nat) : Int))
      obtain ⟨W1, hW1⟩ : ∃ W1, (((wr.setCell ⟨g, m * 5, none⟩ (.int .i64 (q : Int))).setCell ⟨g, m * 5 + 1, none⟩ (.int .i64 ((q + 1 : Nat) : Int))).setCell ⟨g, m * 5 + 2, none⟩ (.int .i64 ((q + 1 + 1 : Nat) : Int))).setCell ⟨g, m * 5 + 3, none⟩ (.int .i64 ((q + 1 + 1 + 1 : Nat) : Int)) = W1 := ⟨_, rfl⟩
      rw [hW1] at hs4
      have HS1 : Hid (_) := hs4.1
      have HG1 : Hid (w.grownBy W1 (some g)) := (((hg.trans hs1.2).trans hs2.2).trans hs3.2).trans hs4.2
      clear hs1 hs2 hs3 hs4
      go_wp2_with fail
      refine (markTextC (q + 1 + 1 + 1 + 1) _ (by omega) (by omega)).mono ?_
      rintro e w2 ⟨rfl, hg2⟩
      first | (have hg2' : W1.grownBy w2 none := hg2) | (have hg2' : W1.grownBy w2 none := by rw [← hW1]; exact hg2)
      have hown2 := own_none HS1.out hg2'
      obtain ⟨u4, d4⟩ : ∃ u, w2.cell? ⟨g, m * 5 + 4, none⟩ = some u := by
        rw [hown2.cellAt (m * 5 + 4) (by omega), List.getElem?_set_ne (by omega), List.getElem?_set_ne (by omega), List.getElem?_set_ne (by omega), List.getElem?_set_ne (by omega), v4]; exact ⟨_, rfl⟩
      have e4 := hown2.frozenAt (m * 5 + 4)
      have hs5 := hown2.stored (m * 5 + 4) (.string ⟨(markL (q + 1 + 1 + 1 + 1)).toArray⟩)
      rw [HSET.out] at hs5
      have hg5 := (HG1.out.andThen hg2' (by simp)).trans hs5.2
      have hs6 := hs5.1
      clear hown2 hs5 hg2 hg2' hown hg HS1 HG1 d0 d1 d2 d3 e0 e1 e2 e3 v0 v1 v2 v3 v4 HSET
      go_wp2
      go_roundw
      case rel => exact ⟨m + 1, by omega, by go_num, by rw [HQ2.out]; go_num, hs6, hg5⟩
      case measure => simp [intOf]; omega
    · obtain rfl : m = n := by omega
      have hd : ns.drop m = [] := List.drop_eq_nil_of_le (by omega)
      rw [hd, List.append_nil] at hown
      clear hd
      go_wp2
      go_ret
      exact ⟨rfl, hown, hg⟩

set_option maxHeartbeats 1000000 in
set_option maxRecDepth 100000 in
theorem markInsSNil (w : World) (k0 : Nat) :
    Calls Tryz.prog 69 #[.slice none 0 0, .int .i64 k0] w fun e w' => e = .returned (.int .i64 (k0 : Int)) ∧ w' = w := by
  go_enter Tryz.func69, Tryz.ntmps69
  go_wp2
  refine wp_loop_rounds 1 ?_
  rw [rounds_succ]
  go_wp2
  go_ret
  exact ⟨rfl, rfl⟩

theorem markInsSV (w : World) (base n k0 : Nat) (v : Value) (ns : List In13) (hn : n ≤ 1100000) (hk0 : 0 < k0) (hk1 : k0 ≤ 30000000) (h : w.ownsRow base 102 5 v n (insV ns)) :
    Calls Tryz.prog 69 #[v, .int .i64 k0] w fun e w' => e = .returned (.int .i64 ((k0 + 5 * n : Nat) : Int)) ∧ w'.ownsRow base 102 5 v n (insV (marksC k0 n)) ∧ w.grownBy w' v.ownBlock := by
  rcases own_forms h with ⟨rfl, rfl, _⟩ | ⟨g, cp, rfl⟩
  · refine (markInsSNil w k0).mono ?_
    rintro e w' ⟨rfl, rfl⟩
    exact ⟨rfl, World.ownsRow_nil _ _ _ _, World.grownBy.refl _ _⟩
  · exact markInsSC w base g cp n k0 ns hn hk0 hk1 h

set_option maxHeartbeats 4000000 in
set_option maxRecDepth 100000 in
theorem heldInsSC (w : World) (a : Option Addr) (cap n k0 : Nat) (hn : n ≤ 1100000) (hk0 : 0 < k0) (hk1 : k0 ≤ 30000000) (h : InsIn w a n (marksC k0 n)) :
    Calls Tryz.prog 78 #[.slice a n cap, .int .i64 k0] w fun e w' => e = .returned (.int .i64 ((k0 + 5 * n : Nat) : Int)) ∧ w.grownBy w' none := by
  have hself : ∀ l : List UInt8, (l != l) = false := by simp
  have hne : ∀ n : Int, (n != n) = false := by simp
  have HI : Hid (InsIn w a n (marksC k0 n)) := h
  clear h
  go_enter Tryz.func78, Tryz.ntmps78
  go_wp2
  go_loopw [1, 5] (fun k i wr => ∃ m : Nat, m ≤ n ∧ i = .int .i64 m ∧ k = .int .i64 ((k0 + 5 * m : Nat) : Int) ∧ w.grownBy wr none) (fun _ i _ => n - (intOf i).toNat)
  case atStart => exact ⟨0, Nat.zero_le _, rfl, rfl, World.grownBy.refl _ _⟩
  case round =>
    obtain ⟨m, hm, rfl, rfl, hg⟩ := hrel
    by_cases hlt : (m : Int) < (n : Int)
    · obtain ⟨b, off, rfl, hbl, c0, c1, c2, c3, c4⟩ := HI.out.2 m (by omega)
      rw [marksC_at k0 n m (by omega)] at c0 c1 c2 c3 c4
      simp only at c0 c1 c2 c3 c4
      obtain ⟨q, hq⟩ : ∃ q, k0 + 5 * m = q := ⟨_, rfl⟩
      have HQ2 : Hid (k0 + 5 * (m + 1) = q + 1 + 1 + 1 + 1 + 1) := by exact (by omega : k0 + 5 * (m + 1) = q + 1 + 1 + 1 + 1 + 1)
      have hq3 : q ≤ 36500000 := by omega
      rw [hq] at c0 c1 c2 c3 c4 ⊢
      clear hq
      have x0 : wr.cell? ⟨b, off + m * 5, none⟩ = some (.int .i64 (q : Int)) := hg.cell c0 (by simp)
      have x1 : wr.cell? ⟨b, off + m * 5 + 1, none⟩ = some (.int .i64 ((q : Int) + 1)) := hg.cell c1 (by simp)
      have x2 : wr.cell? ⟨b, off + m * 5 + 2, none⟩ = some (.int .i64 ((q : Int) + 1 + 1)) := hg.cell c2 (by simp)
      have x3 : wr.cell? ⟨b, off + m * 5 + 3, none⟩ = some (.int .i64 ((q : Int) + 1 + 1 + 1)) := hg.cell c3 (by simp)
      have x4 : wr.cell? ⟨b, off + m * 5 + 4, none⟩ = some (.string ⟨(markL (q + 1 + 1 + 1 + 1)).toArray⟩) := hg.cell c4 (by simp)
      clear c0 c1 c2 c3 c4
      go_wp2
      go_region_with (go_at_call 40; refine (markTextC (q + 1 + 1 + 1 + 1) _ (by omega) (by omega)).mono ?_; rintro e w1 ⟨rfl, hg1⟩; have x41 := hg1.cell (a := ⟨b, off + m * 5 + 4, none⟩) x4 (by simp))
      all_goals (try go_wp2)
      all_goals
        go_roundw
        case rel => exact ⟨m + 1, by omega, by go_num, by rw [HQ2.out]; go_num, by first | exact hg.trans hg1 | exact (hg.trans (grown_drew _ _)).trans hg1⟩
        case measure => simp [intOf]; omega
    · obtain rfl : m = n := by omega
      go_wp2
      go_ret
      exact ⟨rfl, hg⟩

theorem heldInsSV (w : World) (base n k0 : Nat) (v : Value) (hn : n ≤ 1100000) (hk0 : 0 < k0) (hk1 : k0 ≤ 30000000) (h : w.ownsRow base 102 5 v n (insV (marksC k0 n))) :
    Calls Tryz.prog 78 #[v, .int .i64 k0] w fun e w' => e = .returned (.int .i64 ((k0 + 5 * n : Nat) : Int)) ∧ w.grownBy w' none := by
  obtain ⟨_, a, cap, rfl, hin⟩ := own_ins h
  exact heldInsSC w a cap n k0 hn hk0 hk1 hin

end Go.Proofs.YteolfnceobjonaaGreat

/-! The laws' own helpers over routines: markRoutineS, heldRoutineS. -/
namespace Go.Proofs.YteolfnceobjonaaGreat
open Go.RowKit

/-- What functions hold when they are marked from k on, and the next mark. -/
def rmk (k : Nat) (x : RV) : RV := ((markL k, ((k + 1 : Nat) : Int), marksC (k + 2) x.1.2.2.length), x.2)
def rmark (k : Nat) : List RV → List RV
  | [] => []
  | x :: r => rmk k x :: rmark (k + 2 + 5 * x.1.2.2.length) r
def rend (k : Nat) : List RV → Nat
  | [] => k
  | x :: r => rend (k + 2 + 5 * x.1.2.2.length) r

theorem rmk_T (k : Nat) (x : RV) : rvT (rmk k x) = rvT x := by unfold rvT rmk; rw [marksC_len]
theorem rmark_len (k : Nat) (xs : List RV) : (rmark k xs).length = xs.length := by
  induction xs generalizing k with
  | nil => rfl
  | cons x r ih => simp [rmark, ih]
theorem rmark_snoc (k : Nat) (xs : List RV) (x : RV) : rmark k (xs ++ [x]) = rmark k xs ++ [rmk (rend k xs) x] ∧ rend k (xs ++ [x]) = rend k xs + 2 + 5 * x.1.2.2.length := by
  induction xs generalizing k with
  | nil => exact ⟨rfl, rfl⟩
  | cons y r ih =>
    have := ih (k + 2 + 5 * y.1.2.2.length)
    exact ⟨by rw [List.cons_append, rmark, this.1]; rfl, by rw [List.cons_append, rend, this.2]; rfl⟩
theorem rend_ge (k : Nat) (xs : List RV) : k ≤ rend k xs := by
  induction xs generalizing k with
  | nil => exact Nat.le_refl _
  | cons x r ih => have := ih (k + 2 + 5 * x.1.2.2.length); unfold rend; omega
theorem rend_app (k : Nat) (xs ys : List RV) : rend k (xs ++ ys) = rend (rend k xs) ys := by
  induction xs generalizing k with
  | nil => rfl
  | cons x r ih => rw [List.cons_append, rend, ih]; rfl
theorem rend_take (k : Nat) (xs : List RV) (m : Nat) : rend k (xs.take m) ≤ rend k xs := by
  conv => rhs; rw [← List.take_append_drop m xs, rend_app]
  exact rend_ge _ _

/-- Half way: m functions are marked. -/
def rhalf (k : Nat) (xs : List RV) (m : Nat) : List RV := rmark k (xs.take m) ++ xs.drop m
theorem rhalf_len (k : Nat) (xs : List RV) (m : Nat) : (rhalf k xs m).length = xs.length := by
  unfold rhalf; rw [List.length_append, rmark_len, ← List.length_append, List.take_append_drop]
theorem rhalf_at (k : Nat) (xs : List RV) (m : Nat) (hm : m < xs.length) : (rhalf k xs m).getD m rv0 = xs[m] := by
  unfold rhalf
  have hl : (rmark k (xs.take m)).length = m := by rw [rmark_len, List.length_take]; omega
  rw [List.getD_eq_getElem?_getD, List.getElem?_append_right (by omega), hl, Nat.sub_self, List.getElem?_drop, Nat.add_zero, List.getElem?_eq_getElem hm]
  rfl
theorem rhalf_step (k : Nat) (xs : List RV) (m : Nat) (hm : m < xs.length) : (rhalf k xs m).set m (rmk (rend k (xs.take m)) xs[m]) = rhalf k xs (m + 1) ∧ rend k (xs.take (m + 1)) = rend k (xs.take m) + 2 + 5 * xs[m].1.2.2.length := by
  have h1 := rmark_snoc k (xs.take m) xs[m]
  rw [← List.take_succ_eq_append_getElem hm] at h1
  refine ⟨?_, h1.2⟩
  have hl : (rmark k (xs.take m)).length = m := by rw [rmark_len, List.length_take]; omega
  unfold rhalf
  rw [h1.1, List.set_append_right _ _ (by omega), hl, Nat.sub_self, List.drop_eq_getElem_cons hm, List.set_cons_zero, List.append_assoc]
  rfl
theorem rhalf_T (k : Nat) (xs : List RV) (m : Nat) : (rhalf k xs m).map rvT = xs.map rvT := by
  have key : ∀ (k : Nat) (l : List RV), (rmark k l).map rvT = l.map rvT := by
    intro k l
    induction l generalizing k with
    | nil => rfl
    | cons x r ih => rw [rmark, List.map_cons, List.map_cons, rmk_T, ih]
  unfold rhalf
  rw [List.map_append, key, ← List.map_append, List.take_append_drop]

theorem set_sameR {α : Type} {l : List α} {i : Nat} {a : α} (h : l[i]? = some a) : l.set i a = l := by
  apply List.ext_getElem?
  intro j
  rw [List.getElem?_set]
  split
  · rename_i e
    subst e
    split
    · exact h.symm
    · rename_i hl; rw [List.getElem?_eq_none (by omega)]
  · rfl

def RtBlocks (v : Value) (xs : List RV) (k : Nat) : Prop := v.ownBlock = some k ∨ ∃ x ∈ xs, (rvT x).ownBlock = some k

set_option maxHeartbeats 2000000 in
set_option maxRecDepth 100000 in
theorem markRoutineSC (w : World) (base g cp k0 : Nat) (xs : List RV) (hn : xs.length ≤ 1100000) (hk0 : 0 < k0) (hk1 : rend k0 xs ≤ 30000000) (hls : ∀ x ∈ xs, x.1.2.2.length ≤ 1100000) (hap : ApartR (xs.map rvT))
    (h : RtsOwn w base (.slice (some ⟨g, 0, none⟩) xs.length cp) xs) :
    Calls Tryz.prog 41 #[.slice (some ⟨g, 0, none⟩) xs.length cp, .int .i64 k0] w fun e w' => e = .returned (.int .i64 ((rend k0 xs : Nat) : Int)) ∧ RtsOwn w' base (.slice (some ⟨g, 0, none⟩) xs.length cp) (rmark k0 xs) ∧ WroteR w w' (RtBlocks (.slice (some ⟨g, 0, none⟩) xs.length cp) xs) := by
  have HAP : Hid (ApartR (xs.map rvT)) := hap
  have HLS : Hid (∀ x ∈ xs, x.1.2.2.length ≤ 1100000) := hls
  have hst0 : rhalf k0 xs 0 = xs := rfl
  have H0 : Hid (RtsOwn w base (.slice (some ⟨g, 0, none⟩) xs.length cp) (rhalf k0 xs 0)) := h
  clear hap hls h hst0
  go_enter Tryz.func41, Tryz.ntmps41
  go_wp2
  go_loopw [1, 5] (fun k i wr => ∃ m : Nat, m ≤ xs.length ∧ i = .int .i64 m ∧ k = .int .i64 ((rend k0 (xs.take m) : Nat) : Int) ∧ Hid (RtsOwn wr base (.slice (some ⟨g, 0, none⟩) xs.length cp) (rhalf k0 xs m)) ∧ Hid (WroteR w wr (RtBlocks (.slice (some ⟨g, 0, none⟩) xs.length cp) xs))) (fun _ i _ => xs.length - (intOf i).toNat)
  case atStart => exact ⟨0, Nat.zero_le _, rfl, rfl, H0, WroteR.refl _ _⟩
  case round =>
    obtain ⟨m, hm, rfl, rfl, HO, HW⟩ := hrel
    clear H0
    by_cases hlt : (m : Int) < (xs.length : Int)
    · have hm2 : m < xs.length := by omega
      obtain ⟨hset, hend⟩ := rhalf_step k0 xs m hm2
      have hat := rhalf_at k0 xs m hm2
      have hfl := rhalf_len k0 xs m
      have hT := rhalf_T k0 xs m
      have hend2 := rend_take k0 xs (m + 1)
      have hxl := HLS.out xs[m] (List.getElem_mem hm2)
      obtain ⟨ys, hys⟩ : ∃ ys, rhalf k0 xs m = ys := ⟨_, rfl⟩
      rw [hys] at hset hat hfl hT HO
      obtain ⟨x, hx⟩ : ∃ x, xs[m] = x := ⟨_, rfl⟩
      rw [hx] at hset hat hend hxl
      obtain ⟨q, hq⟩ : ∃ q, rend k0 (xs.take m) = q := ⟨_, rfl⟩
      have hq0 : 0 < q := by rw [← hq]; have := rend_ge k0 (xs.take m); omega
      rw [hq] at hset hend ⊢
      have hq3 : q + 2 + 5 * x.1.2.2.length ≤ 30000000 := by omega
      have HSET : Hid (ys.set m (rmk q x) = rhalf k0 xs (m + 1)) := hset
      have HEND : Hid (rend k0 (xs.take (m + 1)) = q + 2 + 5 * x.1.2.2.length) := hend
      have HT : Hid (ys.map rvT = xs.map rvT) := hT
      have HX : Hid (∃ h : m < ys.length, ys[m] = x) := ⟨by omega, by rw [List.getD_eq_getElem?_getD, List.getElem?_eq_getElem (by omega)] at hat; exact hat⟩
      have HFL : Hid (ys.length = xs.length) := hfl
      have HXM : Hid (x ∈ xs) := by rw [← hx]; exact List.getElem_mem hm2
      obtain ⟨v0, v1, v2⟩ := rtsV_at ys m (by omega)
      rw [hat] at v0 v1 v2
      have hrow := HO.out.row
      rw [hfl] at hrow
      clear hset hend hend2 hys hx hq hT hat hfl
      obtain ⟨zs, hzs⟩ : ∃ zs, rtsV ys = zs := ⟨_, rfl⟩
      have hzset := rtsV_set ys m (rmk q x)
      rw [hzs] at hrow v0 v1 v2 hzset
      have HZ : Hid (((zs.set (m * 3) (.string ⟨(markL q).toArray⟩)).set (m * 3 + 1) (.int .i64 ((q : Int) + 1))).set (m * 3 + 2) (rvT x) = rtsV (ys.set m (rmk q x))) := by
        rw [← rmk_T q x, show (q : Int) + 1 = ((q + 1 : Nat) : Int) by omega]; exact hzset
      clear hzset
      have htree : wr.ownsRow base 102 5 (rvT x) x.1.2.2.length (insV x.1.2.2) := by
        obtain ⟨hl, he⟩ := HX.out
        rw [← he]; exact HO.out.trees _ (List.getElem_mem hl)
      obtain ⟨hxl2, ta, tc, htv, _⟩ := own_ins htree
      have HTV : Hid (rvT x = .slice ta x.1.2.2.length tc) := htv
      rw [htv] at v2
      clear hzs htv
      go_wp2_with fail
      refine (markTextC q _ (by omega) (by omega)).mono ?_
      rintro e w2 ⟨rfl, hg2⟩
      have hrow2 := own_none hrow hg2
      obtain ⟨u0, d0⟩ : ∃ u, w2.cell? ⟨g, m * 3, none⟩ = some u := by rw [hrow2.cellAt (m * 3) (by omega), v0]; exact ⟨_, rfl⟩
      obtain ⟨u1, d1⟩ : ∃ u, w2.cell? ⟨g, m * 3 + 1, none⟩ = some u := by rw [hrow2.cellAt (m * 3 + 1) (by omega), v1]; exact ⟨_, rfl⟩
      have d2 : w2.cell? ⟨g, m * 3 + 2, none⟩ = some (.slice ta x.1.2.2.length tc) := by rw [hrow2.cellAt (m * 3 + 2) (by omega), v2]
      have e0 := hrow2.frozenAt (m * 3)
      have e1 := hrow2.frozenAt (m * 3 + 1)
      have hs1 := hrow2.stored (m * 3) (.string ⟨(markL q).toArray⟩)
      have hs2 := hs1.1.stored (m * 3 + 1) (.int .i64 ((q : Int) + 1))
      have hW3 : WroteR w ((w2.setCell ⟨g, m * 3, none⟩ (.string ⟨(markL q).toArray⟩)).setCell ⟨g, m * 3 + 1, none⟩ (.int .i64 ((q : Int) + 1))) (RtBlocks (.slice (some ⟨g, 0, none⟩) xs.length cp) xs) :=
        ((HW.out.trans (WroteR.of_grown hg2 (fun _ e => by cases e))).trans (WroteR.of_grown hs1.2 (fun _ e => Or.inl e))).trans (WroteR.of_grown hs2.2 (fun _ e => Or.inl e))
      have htrees : ∀ z ∈ ys, ((w2.setCell ⟨g, m * 3, none⟩ (.string ⟨(markL q).toArray⟩)).setCell ⟨g, m * 3 + 1, none⟩ (.int .i64 ((q : Int) + 1))).ownsRow base 102 5 (rvT z) z.1.2.2.length (insV z.1.2.2) := by
        intro z hz
        have t1 := own_none (HO.out.trees z hz) hg2
        have hd := own_typesR t1 hrow2 (by decide)
        have t2 := t1.kept hs1.2 hd
        exact t2.kept hs2.2 hd
      have d2b : ((w2.setCell ⟨g, m * 3, none⟩ (.string ⟨(markL q).toArray⟩)).setCell ⟨g, m * 3 + 1, none⟩ (.int .i64 ((q : Int) + 1))).cell? ⟨g, m * 3 + 2, none⟩ = some (.slice ta x.1.2.2.length tc) := by
        rw [hs2.1.cellAt (m * 3 + 2) (by omega), List.getElem?_set_ne (by omega), List.getElem?_set_ne (by omega), v2]
      obtain ⟨W3, hW3e⟩ : ∃ W3, (w2.setCell ⟨g, m * 3, none⟩ (.string ⟨(markL q).toArray⟩)).setCell ⟨g, m * 3 + 1, none⟩ (.int .i64 ((q : Int) + 1)) = W3 := ⟨_, rfl⟩
      have hrow3 := hs2.1
      rw [hW3e] at hrow3 hW3 htrees d2b
      have HR3 : Hid (W3.ownsRow base 75 3 (.slice (some ⟨g, 0, none⟩) xs.length cp) xs.length ((zs.set (m * 3) (.string ⟨(markL q).toArray⟩)).set (m * 3 + 1) (.int .i64 ((q : Int) + 1)))) := hrow3
      have HW3 : Hid (WroteR w W3 (RtBlocks (.slice (some ⟨g, 0, none⟩) xs.length cp) xs)) := hW3
      have HTR : Hid (∀ z ∈ ys, W3.ownsRow base 102 5 (rvT z) z.1.2.2.length (insV z.1.2.2)) := htrees
      have htree3 : W3.ownsRow base 102 5 (.slice ta x.1.2.2.length tc) x.1.2.2.length (insV x.1.2.2) := by
        obtain ⟨hl, he⟩ := HX.out
        have h3 := htrees _ (List.getElem_mem hl)
        rw [he, HTV.out] at h3
        exact h3
      have HM : Hid (_) := markInsSV W3 base x.1.2.2.length (q + 2) (.slice ta x.1.2.2.length tc) x.1.2.2 (by omega) (by omega) (by omega) htree3
      rw [show ((q + 2 : Nat) : Int) = (q : Int) + 1 + 1 by omega] at HM
      have HT3 : Hid (W3.ownsRow base 102 5 (.slice ta x.1.2.2.length tc) x.1.2.2.length (insV x.1.2.2)) := htree3
      have HV2 : Hid (zs[m * 3 + 2]? = some (.slice ta x.1.2.2.length tc)) := v2
      clear hs1 hs2 hW3 htrees hrow3 hrow2 hrow hg2 htree htree3 HW v0 v1 v2
      go_wp2_with fail
      refine Calls.mono HM.out ?_
      rintro e w4 ⟨rfl, hown4, hg4⟩
      have HO4 : Hid (RtsOwn w4 base (.slice (some ⟨g, 0, none⟩) xs.length cp) (rhalf k0 xs (m + 1))) := by
        have hrow4 := HR3.out.kept hg4 (own_typesR HR3.out HT3.out (by decide))
        have hz3 : ((zs.set (m * 3) (.string ⟨(markL q).toArray⟩)).set (m * 3 + 1) (.int .i64 ((q : Int) + 1))) = rtsV (ys.set m (rmk q x)) := by
          rw [← HZ.out, HTV.out]
          exact (set_sameR (by rw [List.getElem?_set_ne (by omega), List.getElem?_set_ne (by omega)]; exact HV2.out)).symm
        rw [hz3] at hrow4
        rw [← HSET.out]
        refine ⟨by rw [List.length_set, HFL.out]; exact hrow4, fun z hz => ?_⟩
        obtain ⟨j, hj, rfl⟩ := List.mem_iff_getElem.1 hz
        rw [List.length_set] at hj
        rw [List.getElem_set]
        by_cases hjm : m = j
        · subst hjm
          rw [if_pos rfl, rmk_T, HTV.out]
          show w4.ownsRow base _ 5 _ (marksC (q + 2) x.1.2.2.length).length (insV (marksC (q + 2) x.1.2.2.length))
          rw [marksC_len]
          exact hown4
        · rw [if_neg hjm]
          refine (HTR.out _ (List.getElem_mem hj)).kept hg4 ?_
          obtain ⟨hl, he⟩ := HX.out
          have hap : ApartR (ys.map rvT) := by rw [HT.out]; exact HAP.out
          have hne := hap.ne (i := j) (j := m) (by simpa using hj) (by simpa using hl) (fun e => hjm e.symm)
          rw [List.getElem_map, List.getElem_map, he, HTV.out] at hne
          exact hne
      have HW4 : Hid (WroteR w w4 (RtBlocks (.slice (some ⟨g, 0, none⟩) xs.length cp) xs)) := HW3.out.trans (WroteR.of_grown hg4 (fun k e => Or.inr ⟨x, HXM.out, by rw [HTV.out]; exact e⟩))
      clear hown4 hg4 HR3 HT3 HTR HW3 HM HZ HSET HT HX HV2 HTV HXM HFL d0 d1 d2 d2b e0 e1 HO
      go_wp2
      go_roundw
      case rel => exact ⟨m + 1, by omega, by go_num, by rw [HEND.out]; go_num, HO4, HW4⟩
      case measure => simp [intOf]; omega
    · obtain rfl : m = xs.length := by omega
      have hO := HO.out
      have HK : Hid (rend k0 (xs.take xs.length) = rend k0 xs) := by exact (by rw [List.take_length] : rend k0 (xs.take xs.length) = rend k0 xs)
      have HH : Hid (rhalf k0 xs xs.length = rmark k0 xs) := by exact (by unfold rhalf; rw [List.take_length, List.drop_length, List.append_nil] : rhalf k0 xs xs.length = rmark k0 xs)
      rw [HH.out] at hO
      go_wp2
      go_ret
      exact ⟨by rw [← HK.out]; rfl, hO, HW.out⟩

theorem rmark_at (k : Nat) (xs : List RV) (m : Nat) (hm : m < xs.length) : (rmark k xs).getD m rv0 = rmk (rend k (xs.take m)) xs[m] := by
  induction xs generalizing k m with
  | nil => simp at hm
  | cons x r ih =>
    cases m with
    | zero => rfl
    | succ m =>
      have := ih (k + 2 + 5 * x.1.2.2.length) m (by simpa using hm)
      rw [List.take_succ_cons, rend, List.getElem_cons_succ, ← this]
      rfl

set_option maxHeartbeats 2000000 in
set_option maxRecDepth 100000 in
theorem heldRoutineSC (w : World) (base g cp k0 : Nat) (xs : List RV) (hn : xs.length ≤ 1100000) (hk0 : 0 < k0) (hk1 : rend k0 xs ≤ 30000000) (hls : ∀ x ∈ xs, x.1.2.2.length ≤ 1100000)
    (h : RtsOwn w base (.slice (some ⟨g, 0, none⟩) xs.length cp) (rmark k0 xs)) :
    Calls Tryz.prog 50 #[.slice (some ⟨g, 0, none⟩) xs.length cp, .int .i64 k0] w fun e w' => e = .returned (.int .i64 ((rend k0 xs : Nat) : Int)) ∧ w.grownBy w' none := by
  have hself : ∀ l : List UInt8, (l != l) = false := by simp
  have hne : ∀ n : Int, (n != n) = false := by simp
  have HLS : Hid (∀ x ∈ xs, x.1.2.2.length ≤ 1100000) := hls
  have HF : Hid (RtsOwn w base (.slice (some ⟨g, 0, none⟩) xs.length cp) (rmark k0 xs)) := h
  clear hls h
  go_enter Tryz.func50, Tryz.ntmps50
  go_wp2
  go_loopw [1, 5] (fun k i wr => ∃ m : Nat, m ≤ xs.length ∧ i = .int .i64 m ∧ k = .int .i64 ((rend k0 (xs.take m) : Nat) : Int) ∧ w.grownBy wr none) (fun _ i _ => xs.length - (intOf i).toNat)
  case atStart => exact ⟨0, Nat.zero_le _, rfl, rfl, World.grownBy.refl _ _⟩
  case round =>
    obtain ⟨m, hm, rfl, rfl, hg⟩ := hrel
    by_cases hlt : (m : Int) < (xs.length : Int)
    · have hm2 : m < xs.length := by omega
      have hend := (rhalf_step k0 xs m hm2).2
      have hend2 := rend_take k0 xs (m + 1)
      have hat := rmark_at k0 xs m hm2
      have hxl := HLS.out xs[m] (List.getElem_mem hm2)
      have hfl := rmark_len k0 xs
      have hrow := HF.out.row
      rw [hfl] at hrow
      obtain ⟨v0, v1, v2⟩ := rtsV_at (rmark k0 xs) m (by omega)
      have hmem : (rmark k0 xs).getD m rv0 ∈ rmark k0 xs := by rw [List.getD_eq_getElem?_getD, List.getElem?_eq_getElem (by omega)]; exact List.getElem_mem (by omega)
      have htr := HF.out.trees _ hmem
      rw [hat] at v0 v1 v2 htr
      obtain ⟨x, hx⟩ : ∃ x, xs[m] = x := ⟨_, rfl⟩
      obtain ⟨q, hq⟩ : ∃ q, rend k0 (xs.take m) = q := ⟨_, rfl⟩
      rw [hx, hq] at v0 v1 v2 htr
      rw [hx, hq] at hend
      rw [hx] at hxl
      have hq0 : 0 < q := by rw [← hq]; have := rend_ge k0 (xs.take m); omega
      have hq3 : q + 2 + 5 * x.1.2.2.length ≤ 30000000 := by omega
      have HEND : Hid (rend k0 (xs.take (m + 1)) = q + 2 + 5 * x.1.2.2.length) := hend
      rw [hq]
      have c0 : wr.cell? ⟨g, m * 3, none⟩ = some (.string ⟨(markL q).toArray⟩) := hg.cell (a := ⟨g, m * 3, none⟩) ((hrow.cellAt (m * 3) (by omega)).trans v0) (by simp)
      have c1 : wr.cell? ⟨g, m * 3 + 1, none⟩ = some (.int .i64 ((q : Int) + 1)) := hg.cell (a := ⟨g, m * 3 + 1, none⟩) ((hrow.cellAt (m * 3 + 1) (by omega)).trans (v1.trans (by show some (Value.int .i64 ((q + 1 : Nat) : Int)) = _; rw [show ((q + 1 : Nat) : Int) = (q : Int) + 1 by omega]))) (by simp)
      have c2 : wr.cell? ⟨g, m * 3 + 2, none⟩ = some (rvT (rmk q x)) := hg.cell (a := ⟨g, m * 3 + 2, none⟩) ((hrow.cellAt (m * 3 + 2) (by omega)).trans v2) (by simp)
      have ht3 : wr.ownsRow base 102 5 (rvT x) x.1.2.2.length (insV (marksC (q + 2) x.1.2.2.length)) := by
        have t := own_none htr hg
        rw [rmk_T] at t
        have e1 : (rmk q x).1.2.2 = marksC (q + 2) x.1.2.2.length := rfl
        rw [e1, marksC_len] at t
        exact t
      rw [rmk_T] at c2
      obtain ⟨_, ta, tc, htv, _⟩ := own_ins ht3
      rw [htv] at c2 ht3
      have HT3 : Hid (wr.ownsRow base 102 5 (.slice ta x.1.2.2.length tc) x.1.2.2.length (insV (marksC (q + 2) x.1.2.2.length))) := ht3
      generalize x.1.2.2.length = n at c2 HT3 HEND hq3 hxl
      have hge : ¬ ((q + 2 + 5 * n : Nat) : Int) < 0 := by omega
      clear v0 v1 v2 hrow htr hmem hat hfl hend hend2 hx hq ht3 htv
      go_wp2
      go_region_with (go_at_call 40; refine (markTextC q _ (by omega) (by omega)).mono ?_; rintro e w1 ⟨rfl, hg1⟩; have x0 := hg1.cell (a := ⟨g, m * 3, none⟩) c0 (by simp); have x1 := hg1.cell (a := ⟨g, m * 3 + 1, none⟩) c1 (by simp); have x2 := hg1.cell (a := ⟨g, m * 3 + 2, none⟩) c2 (by simp))
      all_goals
        have hG1 : wr.grownBy w1 none := by first | exact hg1 | exact (grown_drew _ _).trans hg1
        have HM := heldInsSV w1 base n (q + 2) (.slice ta n tc) (by omega) (by omega) (by omega) (own_none HT3.out hG1)
        rw [show ((q + 2 : Nat) : Int) = (q : Int) + 1 + 1 by omega] at HM
        have HM2 : Hid (_) := HM
        clear HM hg1
        go_wp2_with fail
        refine Calls.mono HM2.out ?_
        rintro e w2 ⟨rfl, hg2⟩
        have hG2 := (hg.trans hG1).trans hg2
        clear HM2 hg2
        go_wp2
        go_roundw
        case rel => exact ⟨m + 1, by omega, by go_num, by rw [HEND.out]; go_num, hG2⟩
        case measure => simp [intOf]; omega
    · obtain rfl : m = xs.length := by omega
      have HK : Hid (rend k0 (xs.take xs.length) = rend k0 xs) := by exact (by rw [List.take_length] : rend k0 (xs.take xs.length) = rend k0 xs)
      go_wp2
      go_ret
      exact ⟨by rw [← HK.out]; rfl, hg⟩

end Go.Proofs.YteolfnceobjonaaGreat
