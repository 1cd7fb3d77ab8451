/-
  Parts of one proof, one behind the other: ProjS6, FnE, ProjL.
-/
import Derived.Test.YtdjglpcllcjcfaaGreatDoorP14
import Derived.Test.YtdjglpcllcjcfaaGreatDoorP9
import Derived.Test.YtdjglpcllcjcfaaGreatDoorP4
import Derived.Test.YtdjglpcllcjcfaaGreatDoorP10

/-! The contracts of chapter 8's specification: l8Needs, Order, Reaches, Needs. -/
namespace Go.Proofs.YtdjglpcllcjcfaaGreatDoor
open Go.RowKit

def keep8 (r : List (List UInt8)) (s x : List UInt8) : Bool := decide (x ≠ s ∧ x ∈ r)
theorem keep8_take (o r : List (List UInt8)) (s : List UInt8) (k : Nat) (hk : k < o.length) : (o.take (k + 1)).filter (keep8 r s) = (o.take k).filter (keep8 r s) ++ (if keep8 r s (o.getD k []) = true then [o.getD k []] else []) := by
  have e : o.getD k [] = o[k] := by simp [List.getD, hk]
  rw [List.take_succ_eq_append_getElem hk, List.filter_append, e]
  congr 1
  by_cases h : keep8 r s o[k] = true
  · rw [if_pos h]; simp [h]
  · rw [if_neg h]; simp [h]
theorem need8_keep (ps : List Pk) (s : List UInt8) : need8 ps s = (order8 ps).filter (keep8 (reach8 ps s) s) := rfl


set_option maxHeartbeats 1000000 in
set_option maxRecDepth 100000 in
theorem specOrder (a : Option Addr) (len cap : Nat) (ps : List Pk) (w : World) (hin : PkgsIn w a len ps) (hlen : len ≤ 1048576) (hsh : ShortPs ps) :
    Calls Tryz.prog 15 #[.slice a len cap] w fun e w' => ∃ v, e = .returned v ∧ w'.ownsRow w.heap.size 9 1 v (orderV ps).length (strV (orderV ps)) ∧ Below w.heap.size w w' := by
  have HC : Hid (_) := specProjectOk a len cap ps w hin hlen hsh
  have HI : Hid (PkgsIn w a len ps) := hin
  rcases hp : projB ps with _ | _
  · have HV : Hid (orderV ps = []) := by exact (by unfold orderV; rw [if_neg (by rw [hp]; simp)] : orderV ps = [])
    rw [hp] at HC
    clear hin hsh hp
    go_enter Tryz.func15, Tryz.ntmps15
    go_wp2_with fail
    refine Calls.mono HC.out ?_
    rintro e w1 ⟨rfl, hb1⟩
    have ho := (World.ownsRow_lit (base := w.heap.size) (e := 9) (size := 1) w1 #[] 0 hb1.size (by decide) rfl)
    go_wp2
    go_ret
    exact ⟨_, rfl, by rw [HV.out]; exact ho, hb1.alloc hb1.size _⟩
  · have HV : Hid (orderV ps = order8 ps) := by exact (by unfold orderV; rw [if_pos hp] : orderV ps = order8 ps)
    have HC2 : Hid (_) := fun (V : World) (h : PkgsIn V a len ps) => specOrder8 a len cap ps V h hp
    rw [hp] at HC
    clear hin hsh hp
    go_enter Tryz.func15, Tryz.ntmps15
    go_wp2_with fail
    refine Calls.mono HC.out ?_
    rintro e w1 ⟨rfl, hb1⟩
    go_wp2_with fail
    refine Calls.mono (HC2.out _ (HI.out.below hb1)) ?_
    rintro e w2 ⟨v, rfl, hv, hb2⟩
    go_wp2
    go_ret
    exact ⟨_, rfl, by rw [HV.out]; exact own_base hv hb1.size, hb1.trans (hb2.mono hb1.size)⟩

set_option maxHeartbeats 1000000 in
set_option maxRecDepth 100000 in
theorem specReaches (a : Option Addr) (len cap : Nat) (ps : List Pk) (s : List UInt8) (w : World) (hin : PkgsIn w a len ps) (hlen : len ≤ 1048576) (hsh : ShortPs ps) :
    Calls Tryz.prog 16 #[.slice a len cap, .string ⟨s.toArray⟩] w fun e w' => ∃ v, e = .returned v ∧ w'.ownsRow w.heap.size 9 1 v (reachV ps s).length (strV (reachV ps s)) ∧ Below w.heap.size w w' := by
  have HC : Hid (_) := specProjectOk a len cap ps w hin hlen hsh
  have HA : Hid (_) := fun (V : World) (h : PkgsIn V a len ps) => specAt8 a len cap ps s V h hlen
  have HI : Hid (PkgsIn w a len ps) := hin
  have hh : hereB ps s = (projB ps && decide (0 ≤ at8 ps s)) := rfl
  have hmem := (at8_mem ps s).1
  rcases hp : projB ps with _ | _
  · have HV : Hid (reachV ps s = []) := by exact (by unfold reachV; rw [if_neg (by rw [hh, hp]; simp)] : reachV ps s = [])
    rw [hp] at HC
    clear hin hsh hp hh hmem
    go_enter Tryz.func16, Tryz.ntmps16
    go_wp2_with fail
    refine Calls.mono HC.out ?_
    rintro e w1 ⟨rfl, hb1⟩
    have ho := (World.ownsRow_lit (base := w.heap.size) (e := 9) (size := 1) w1 #[] 0 hb1.size (by decide) rfl)
    go_wp2
    go_ret
    exact ⟨_, rfl, by rw [HV.out]; exact ho, hb1.alloc hb1.size _⟩
  · by_cases h0 : at8 ps s < 0
    · have HV : Hid (reachV ps s = []) := by exact (by unfold reachV; rw [if_neg (by rw [hh, hp, decide_eq_false (show ¬ 0 ≤ at8 ps s by omega)]; simp)] : reachV ps s = [])
      rw [hp] at HC
      generalize at8 ps s = z at HA h0
      clear hin hsh hp hh hmem
      go_enter Tryz.func16, Tryz.ntmps16
      go_wp2_with fail
      refine Calls.mono HC.out ?_
      rintro e w1 ⟨rfl, hb1⟩
      have HA1 : Hid (_) := HA.out w1 (HI.out.below hb1)
      have ho := (World.ownsRow_lit (base := w.heap.size) (e := 9) (size := 1) w1 #[] 0 hb1.size (by decide) rfl)
      have HO : Hid ((w1.alloc (.cells #[] 9)).ownsRow w.heap.size 9 1 (.slice (some ⟨w1.heap.size, 0, none⟩) 0 0) 0 (strV [])) := ho
      clear HA ho
      go_wp2_with (go_at_call 38; refine Calls.mono HA1.out ?_; rintro e w2 ⟨rfl, hw2⟩; obtain rfl := hw2.symm)
      go_ret
      exact ⟨_, rfl, by rw [HV.out]; exact HO.out, hb1.alloc hb1.size _⟩
    · have HV : Hid (reachV ps s = reach8 ps s) := by exact (by unfold reachV; rw [if_pos (by rw [hh, hp, decide_eq_true (show 0 ≤ at8 ps s by omega)]; rfl)] : reachV ps s = reach8 ps s)
      have hs := hmem (by omega)
      have HC2 : Hid (_) := fun (V : World) (h : PkgsIn V a len ps) => specReach8 a len cap ps s V h hp hs
      rw [hp] at HC
      generalize at8 ps s = z at HA h0
      have h1 : ¬ z < 0 := h0
      clear hin hsh hp hh hmem hs h0
      go_enter Tryz.func16, Tryz.ntmps16
      go_wp2_with fail
      refine Calls.mono HC.out ?_
      rintro e w1 ⟨rfl, hb1⟩
      have HA1 : Hid (_) := HA.out w1 (HI.out.below hb1)
      have HC3 : Hid (_) := HC2.out w1 (HI.out.below hb1)
      clear HA HC2
      go_wp2_with (first | (go_at_call 38; refine Calls.mono HA1.out ?_; rintro e w2 ⟨rfl, hw2⟩; obtain rfl := hw2.symm) | (go_at_call 39; refine Calls.mono HC3.out ?_; rintro e w3 ⟨g3, c3, rfl, hv, hb3⟩))
      go_ret
      exact ⟨_, rfl, by rw [HV.out]; exact own_base hv hb1.size, hb1.trans (hb3.mono hb1.size)⟩


end Go.Proofs.YtdjglpcllcjcfaaGreatDoor

/-! The laws' own helpers over functions and packages: eqFunc, eqFuncS, eqStringS over texts that can be read, eqPackage. -/
namespace Go.Proofs.YtdjglpcllcjcfaaGreatDoor
open Go.RowKit

set_option maxHeartbeats 1000000 in
set_option maxRecDepth 100000 in
theorem eqFuncC (s : List UInt8) (n : Int) (t : List Nd) (ta tb : Option Addr) (tl ca cb : Nat) (w : World) (ha : NodesIn w ta tl t) (hb : NodesIn w tb tl t) (hlen : tl ≤ 4194304) :
    Calls Tryz.prog 111 #[.agg #[.string ⟨s.toArray⟩, .int .i64 n, .slice ta tl ca], .agg #[.string ⟨s.toArray⟩, .int .i64 n, .slice tb tl cb]] w fun e w' => e = .returned (.bool true) ∧ Below w.heap.size w w' := by
  have h1 : ∀ n : Int, (n != n) = false := by simp
  have h2 : ∀ l : List UInt8, (l != l) = false := by simp
  have hbW : Below w.heap.size w ((w.alloc (.cells #[.string ⟨s.toArray⟩, .int .i64 n, .slice ta tl ca] 42)).alloc (.cells #[.string ⟨s.toArray⟩, .int .i64 n, .slice tb tl cb] 42)) := ((Below.refl _ _).alloc (Nat.le_refl _) _).alloc (by simp) _
  have HC := eqNodeSC ta tb tl ca cb t _ (ha.below hbW) (hb.below hbW) hlen
  clear ha hb
  go_enter Tryz.func111, Tryz.ntmps111
  go_wp2_with fail
  refine HC.mono ?_
  rintro e w1 ⟨rfl, hb1⟩
  have hbd : Below w.heap.size w w1 := hbW.trans (hb1.mono hbW.size)
  clear HC hb1 hbW
  go_wp2
  go_ret
  exact ⟨rfl, hbd⟩

set_option maxHeartbeats 2000000 in
set_option maxRecDepth 100000 in
theorem eqFuncSC (a b : Option Addr) (len ca cb : Nat) (fs : List Fn) (w : World) (ha : FuncsIn w a len fs) (hb : FuncsIn w b len fs) (hlen : len ≤ 4194304) (hsh : ∀ j, (fs.getD j fn0).2.2.length ≤ 4194304) :
    Calls Tryz.prog 76 #[.slice a len ca, .slice b len cb] w fun e w' => e = .returned (.bool true) ∧ Below w.heap.size w w' := by
  have HA : Hid (FuncsIn w a len fs) := ha
  have HB : Hid (FuncsIn w b len fs) := hb
  have HSH : Hid (∀ j, (fs.getD j fn0).2.2.length ≤ 4194304) := hsh
  clear ha hb hsh
  have h1 : ((len : Int) != (len : Int)) = false := by simp
  go_enter Tryz.func76, Tryz.ntmps76
  go_wp2
  go_loopw [5] (fun i wr => ∃ k : Nat, k ≤ len ∧ i = .int .i64 k ∧ Below w.heap.size w wr) (fun i _ => len - (intOf i).toNat)
  case atStart => exact ⟨0, Nat.zero_le _, rfl, Below.refl _ _⟩
  case round =>
    obtain ⟨k, hk, rfl, hB⟩ := hrel
    by_cases hkl : (k : Int) < (len : Int)
    · obtain ⟨b1, o1, rfl, hb1, x0, x1, ta, tl, tc, x2, _, hn1⟩ := (HA.out.below hB).2 k (by omega)
      obtain ⟨b2, o2, rfl, hb2, y0, y1, tb, tl2, tc2, y2, _, hn2⟩ := (HB.out.below hB).2 k (by omega)
      have hts := HSH.out k
      obtain ⟨f, hf⟩ : ∃ f, fs.getD k fn0 = f := ⟨_, rfl⟩
      rw [hf] at x0 x1 y0 y1 hn1 hn2 hts
      obtain ⟨s, n, t⟩ := f
      simp only at x0 x1 y0 y1 hn1 hn2 hts
      obtain rfl : t.length = tl := hn1.1
      obtain rfl : t.length = tl2 := hn2.1
      have hn1' : NodesIn wr.drew ta t.length t := hn1.below ⟨rfl, rfl, rfl, Nat.le_refl _, fun _ _ => rfl⟩
      have hn2' : NodesIn wr.drew tb t.length t := hn2.below ⟨rfl, rfl, rfl, Nat.le_refl _, fun _ _ => rfl⟩
      clear hf hn1 hn2
      go_wp2
      go_region_held3 (fun w' => w'.cell? ⟨b1, o1 + k * 3, none⟩ = some (.string ⟨s.toArray⟩) ∧ w'.cell? ⟨b1, o1 + k * 3 + 1, none⟩ = some (.int .i64 n) ∧ w'.cell? ⟨b1, o1 + k * 3 + 2, none⟩ = some (.slice ta t.length tc) ∧ w'.cell? ⟨b2, o2 + k * 3, none⟩ = some (.string ⟨s.toArray⟩) ∧ w'.cell? ⟨b2, o2 + k * 3 + 1, none⟩ = some (.int .i64 n) ∧ w'.cell? ⟨b2, o2 + k * 3 + 2, none⟩ = some (.slice tb t.length tc2)) (go_keep) (first | (go_at_call 111; refine (eqFuncC s n t ta tb t.length tc tc2 _ hn1' hn2' hts).mono ?_; rintro e w1 ⟨rfl, hw1⟩; have d0 : w1.cell? ⟨b1, o1 + k * 3, none⟩ = some (.string ⟨s.toArray⟩) := (hw1.cell (p := ⟨b1, o1 + k * 3, none⟩) hb1).trans x0; have d1 : w1.cell? ⟨b1, o1 + k * 3 + 1, none⟩ = some (.int .i64 n) := (hw1.cell (p := ⟨b1, o1 + k * 3 + 1, none⟩) hb1).trans x1; have d2 : w1.cell? ⟨b1, o1 + k * 3 + 2, none⟩ = some (.slice ta t.length tc) := (hw1.cell (p := ⟨b1, o1 + k * 3 + 2, none⟩) hb1).trans x2; have e0 : w1.cell? ⟨b2, o2 + k * 3, none⟩ = some (.string ⟨s.toArray⟩) := (hw1.cell (p := ⟨b2, o2 + k * 3, none⟩) hb2).trans y0; have e1 : w1.cell? ⟨b2, o2 + k * 3 + 1, none⟩ = some (.int .i64 n) := (hw1.cell (p := ⟨b2, o2 + k * 3 + 1, none⟩) hb2).trans y1; have e2 : w1.cell? ⟨b2, o2 + k * 3 + 2, none⟩ = some (.slice tb t.length tc2) := (hw1.cell (p := ⟨b2, o2 + k * 3 + 2, none⟩) hb2).trans y2))
      all_goals go_wp2
      go_roundw
      case rel => exact ⟨k + 1, by omega, by go_num, hB.trans ⟨hw1.os, hw1.tape, hw1.output, hw1.size, fun q hq => hw1.block q (by have := hB.size; show q < wr.heap.size; omega)⟩⟩
      case measure => simp [intOf]; omega
    · go_wp2
      go_ret
      exact ⟨rfl, hB⟩

set_option maxHeartbeats 1000000 in
set_option maxRecDepth 100000 in
theorem eqTextsC (a b : Option Addr) (len ca cb : Nat) (ts : List (List UInt8)) (w : World) (ha : TextsIn w a len ts) (hb : TextsIn w b len ts) (hlen : len ≤ 4194304) :
    Calls Tryz.prog 75 #[.slice a len ca, .slice b len cb] w fun e w' => e = .returned (.bool true) ∧ Below w.heap.size w w' := by
  have hne : ((len : Int) != (len : Int)) = false := by simp
  have hself : ∀ l : List UInt8, (l != l) = false := by simp
  have HA : Hid (TextsIn w a len ts) := ha
  have HB : Hid (TextsIn w b len ts) := hb
  clear ha hb
  go_enter Tryz.func75, Tryz.ntmps75
  go_wp2
  go_loopw [5] (fun i wr => ∃ k : Nat, k ≤ len ∧ i = .int .i64 k ∧ Below w.heap.size w wr) (fun i _ => len - (intOf i).toNat)
  case atStart => exact ⟨0, Nat.zero_le _, rfl, Below.refl _ _⟩
  case round =>
    obtain ⟨k, hk, rfl, hB⟩ := hrel
    by_cases hkl : (k : Int) < (len : Int)
    · obtain ⟨b1, o1, rfl, hb1, hca⟩ := (HA.out.below hB).2 k (by omega)
      obtain ⟨b2, o2, rfl, hb2, hcb⟩ := (HB.out.below hB).2 k (by omega)
      obtain ⟨t, ht⟩ : ∃ t, ts.getD k [] = t := ⟨_, rfl⟩
      rw [ht] at hca hcb
      clear ht
      go_wp2
      go_region
      all_goals (try go_wp2)
      go_roundw
      case rel => exact ⟨k + 1, by omega, by go_num, hB.drew⟩
      case measure => simp [intOf]; omega
    · go_wp2
      go_ret
      exact ⟨rfl, hB⟩

set_option maxHeartbeats 2000000 in
set_option maxRecDepth 100000 in
theorem eqPackageC (nm : List UInt8) (ia ib fa fb : Option Addr) (il ica icb fl fca fcb : Nat) (ims : List (List UInt8)) (fs : List Fn) (w : World) (hia : TextsIn w ia il ims) (hib : TextsIn w ib il ims) (hfa : FuncsIn w fa fl fs) (hfb : FuncsIn w fb fl fs) (hil : il ≤ 4194304) (hfl : fl ≤ 4194304) (hsh : ∀ j, (fs.getD j fn0).2.2.length ≤ 4194304) :
    Calls Tryz.prog 44 #[.agg #[.string ⟨nm.toArray⟩, .slice ia il ica, .slice fa fl fca], .agg #[.string ⟨nm.toArray⟩, .slice ib il icb, .slice fb fl fcb]] w fun e w' => e = .returned (.bool true) ∧ Below w.heap.size w w' := by
  have h2 : ∀ l : List UInt8, (l != l) = false := by simp
  obtain ⟨sa, hBa⟩ := PkIn.new (w := w) (nm := nm) (ic := ica) (fc := fca) hia hfa
  obtain ⟨W1, hW1⟩ : ∃ W, w.alloc (.cells #[.string ⟨nm.toArray⟩, .slice ia il ica, .slice fa fl fca] 32) = W := ⟨_, rfl⟩
  rw [hW1] at sa hBa
  obtain ⟨sb, hBb⟩ := PkIn.new (w := W1) (nm := nm) (ic := icb) (fc := fcb) (hib.below hBa) (hfb.below hBa)
  obtain ⟨W, hW⟩ : ∃ W, W1.alloc (.cells #[.string ⟨nm.toArray⟩, .slice ib il icb, .slice fb fl fcb] 32) = W := ⟨_, rfl⟩
  rw [hW] at sb hBb
  have hs1 : W1.heap.size = w.heap.size + 1 := by rw [← hW1]; simp
  have sa2 := sa.below hBb
  have hB : Below w.heap.size w W := hBa.trans (hBb.mono hBa.size)
  rw [hs1] at sb
  have HC := eqTextsC ia ib il ica icb ims W sa2.i sb.i hil
  have k0 := sa2.k0
  have k1 := sa2.k1
  have k2 := sa2.k2
  have j0 := sb.k0
  have j1 := sb.k1
  have j2 := sb.k2
  clear hia hib hfa hfb sa hBa hBb
  go_enter Tryz.func44, Tryz.ntmps44
  go_wp2_with fail
  refine HC.mono ?_
  rintro e w1 ⟨rfl, hb1⟩
  have ta := sa2.below hb1
  have tb := sb.below hb1
  have HC2 := eqFuncSC fa fb fl fca fcb fs w1 ta.f tb.f hfl hsh
  have hB1 : Below w.heap.size w w1 := hB.trans (hb1.mono hB.size)
  replace k0 := ta.k0
  replace k1 := ta.k1
  replace k2 := ta.k2
  replace j0 := tb.k0
  replace j1 := tb.k1
  replace j2 := tb.k2
  clear HC hb1 sa2 sb hB
  go_wp2_with fail
  refine HC2.mono ?_
  rintro e w2 ⟨rfl, hb2⟩
  have hB2 : Below w.heap.size w w2 := hB1.trans (hb2.mono hB1.size)
  clear HC2 hb2 ta tb hB1 k0 k1 k2 j0 j1 j2
  go_wp2
  go_ret
  exact ⟨rfl, hB2⟩

end Go.Proofs.YtdjglpcllcjcfaaGreatDoor

/-! The laws' own helpers over projects: szPackageS, eqPackageS. -/
namespace Go.Proofs.YtdjglpcllcjcfaaGreatDoor
open Go.RowKit

def pkZ (p : Pk) : Nat := pkSz p.1 p.2.1 p.2.2
def psSz : List Pk → Nat
  | [] => 0
  | p :: r => pkZ p + psSz r
theorem psSz_append (x y : List Pk) : psSz (x ++ y) = psSz x + psSz y := by
  induction x with
  | nil => simp [psSz]
  | cons n r ih => simp only [List.cons_append, psSz, ih]; omega
theorem psSz_snoc (ps : List Pk) (k : Nat) (hk : k < ps.length) : psSz (ps.take (k + 1)) = psSz (ps.take k) + pkZ (ps.getD k pk0) := by
  have hg : ps.getD k pk0 = ps[k] := by simp [List.getD, hk]
  rw [hg, List.take_succ_eq_append_getElem hk, psSz_append]
  simp [psSz]
theorem psSz_take (ps : List Pk) (k : Nat) : psSz (ps.take k) ≤ psSz ps := by
  have := psSz_append (ps.take k) (ps.drop k)
  rw [List.take_append_drop] at this
  omega
theorem psSz_at (ps : List Pk) (j : Nat) : pkZ (ps.getD j pk0) ≤ psSz ps := by
  by_cases hj : j < ps.length
  · have h1 := psSz_snoc ps j hj
    have h2 := psSz_take ps (j + 1)
    omega
  · have : ps.getD j pk0 = pk0 := by rw [List.getD, List.getElem?_eq_none (by omega)]; rfl
    rw [this]; simp [pk0, pkZ, pkSz, joinN, fnsSz]
def LongPs (ps : List Pk) : Prop := ∀ j, (ps.getD j pk0).1.length ≤ maxLen ∧ (ps.getD j pk0).2.1.length ≤ maxLen ∧ (∀ i, ((ps.getD j pk0).2.1.getD i []).length ≤ maxLen) ∧ (ps.getD j pk0).2.2.length ≤ maxLen ∧ LongF (ps.getD j pk0).2.2
def IntPs (ps : List Pk) : Prop := ∀ j, IntF (ps.getD j pk0).2.2
theorem shortPs_of {ps : List Pk} (h : psSz ps ≤ 1048576) : ShortPs ps := fun j => by
  have h1 := psSz_at ps j
  obtain ⟨a, b, c, d, e⟩ := pk_small (nm := (ps.getD j pk0).1) (ims := (ps.getD j pk0).2.1) (fs := (ps.getD j pk0).2.2) (by unfold pkZ at h1; omega)
  exact ⟨c, a, d, b, e⟩

set_option maxHeartbeats 2000000 in
set_option maxRecDepth 100000 in
theorem szPackageSC (a : Option Addr) (len cap : Nat) (ps : List Pk) (left : Int) (w : World) (hin : PkgsIn w a len ps) (h0 : 0 ≤ left) (h1 : left ≤ 1048576) (hl : len ≤ maxLen) (hm : LongPs ps) :
    Calls Tryz.prog 18 #[.slice a len cap, .int .i64 left] w fun e w' => e = .returned (.int .i64 (szM (len + psSz ps) left)) ∧ Below w.heap.size w w' := by
  unfold maxLen at hl
  have hl2 : (len : Int) ≤ 9223372036854775807 := by omega
  have hlb := hin.1
  by_cases h : (len : Int) ≤ left
  · have hlen : len ≤ 1048576 := by omega
    have HI : Hid (PkgsIn w a len ps) := hin
    have HM : Hid (LongPs ps) := hm
    clear hin hm
    go_enter Tryz.func18, Tryz.ntmps18
    go_wp2
    go_loopw [1, 5] (fun l i wr => ∃ k : Nat, k ≤ len ∧ i = .int .i64 k ∧ l = .int .i64 (left - (len : Int) - (psSz (ps.take k) : Int)) ∧ (psSz (ps.take k) : Int) ≤ left - (len : Int) ∧ Below w.heap.size w wr) (fun _ i _ => len - (intOf i).toNat)
    case atStart => exact ⟨0, Nat.zero_le _, rfl, by simp [psSz], by simp [psSz]; omega, Below.refl _ _⟩
    case round =>
      obtain ⟨k, hk, rfl, rfl, hle, hB⟩ := hrel
      by_cases hkl : (k : Int) < (len : Int)
      · obtain ⟨b, off, rfl, hbl, c0, ia, il, ic, fa, fl, fc, c1, c2, hii, hff⟩ := (HI.out.below hB).2 k (by omega)
        have hmk := HM.out k
        have hst := psSz_snoc ps k (by omega)
        have htt := psSz_take ps (k + 1)
        obtain ⟨p, hp⟩ : ∃ p, ps.getD k pk0 = p := ⟨_, rfl⟩
        rw [hp] at c0 hmk hst hii hff
        obtain ⟨nm, ims, fs⟩ := p
        simp only at c0 hmk hii hff
        obtain ⟨m, hmm⟩ : ∃ m, psSz (ps.take k) = m := ⟨_, rfl⟩
        rw [hmm] at hle hst ⊢
        obtain ⟨z, hz⟩ : ∃ z, pkZ (nm, ims, fs) = z := ⟨_, rfl⟩
        have HC := szPackageC nm ia il ic fa fl fc ims fs (left - (len : Int) - (m : Int)) wr hii hff (by omega) (by omega) hmk.1 (by rw [← hii.1]; exact hmk.2.1) hmk.2.2.1 (by rw [← hff.1]; exact hmk.2.2.2.1) hmk.2.2.2.2
        rw [show pkSz nm ims fs = z from hz] at HC
        rw [hz] at hst
        have HS : Hid (psSz (ps.take (k + 1)) = m + z) := hst
        clear hst hp hmm hz hii hff
        by_cases hfit : (z : Int) ≤ left - (len : Int) - (m : Int)
        · have HZ : Hid (szM z (left - (len : Int) - (m : Int)) = left - (len : Int) - (psSz (ps.take (k + 1)) : Int)) := by
            exact (by rw [HS.out, szM_yes (by omega)]; omega : szM z (left - (len : Int) - (m : Int)) = left - (len : Int) - (psSz (ps.take (k + 1)) : Int))
          rw [HZ.out] at HC
          go_wp2_with fail
          refine HC.mono ?_
          rintro e w1 ⟨rfl, hb1⟩
          have hle2 : (psSz (ps.take (k + 1)) : Int) ≤ left - (len : Int) := by rw [HS.out]; omega
          have hge : (0 : Int) ≤ left - (len : Int) - (psSz (ps.take (k + 1)) : Int) := by omega
          clear HC
          go_wp2
          go_roundw
          case rel => exact ⟨k + 1, by omega, by go_num, rfl, hle2, hB.trans (hb1.mono hB.size)⟩
          case measure => simp [intOf]; omega
        · have HZ : Hid (szM z (left - (len : Int) - (m : Int)) = -1) := szM_no (by omega)
          have HR : Hid (szM (len + psSz ps) left = -1) := szM_no (by have := HS.out; omega)
          rw [HZ.out] at HC
          go_wp2_with fail
          refine HC.mono ?_
          rintro e w1 ⟨rfl, hb1⟩
          clear HC
          go_wp2
          go_ret
          exact ⟨by rw [HR.out]; rfl, hB.trans (hb1.mono hB.size)⟩
      · have HT : Hid (ps.take k = ps) := List.take_of_length_le (by omega)
        have HR : Hid (szM (len + psSz ps) left = left - (len : Int) - (psSz (ps.take k) : Int)) := by exact (by rw [HT.out] at hle ⊢; rw [szM_yes (by omega)]; omega : szM (len + psSz ps) left = left - (len : Int) - (psSz (ps.take k) : Int))
        go_wp2
        go_ret
        exact ⟨by rw [HR.out]; rfl, hB⟩
  · have HR : Hid (szM (len + psSz ps) left = -1) := szM_no (by omega)
    clear hin hm
    go_enter Tryz.func18, Tryz.ntmps18
    go_wp2
    go_ret
    exact ⟨by rw [HR.out]; rfl, Below.refl _ _⟩

set_option maxHeartbeats 2000000 in
set_option maxRecDepth 100000 in
theorem eqPackageSC (a b : Option Addr) (len ca cb : Nat) (ps : List Pk) (w : World) (ha : PkgsIn w a len ps) (hb : PkgsIn w b len ps) (hlen : len ≤ 4194304) (hsh : ShortPs ps) :
    Calls Tryz.prog 21 #[.slice a len ca, .slice b len cb] w fun e w' => e = .returned (.bool true) ∧ Below w.heap.size w w' := by
  have HA : Hid (PkgsIn w a len ps) := ha
  have HB : Hid (PkgsIn w b len ps) := hb
  have HSH : Hid (ShortPs ps) := hsh
  clear ha hb hsh
  have h1 : ((len : Int) != (len : Int)) = false := by simp
  go_enter Tryz.func21, Tryz.ntmps21
  go_wp2
  go_loopw [5] (fun i wr => ∃ k : Nat, k ≤ len ∧ i = .int .i64 k ∧ Hid (Below w.heap.size w wr)) (fun i _ => len - (intOf i).toNat)
  case atStart => exact ⟨0, Nat.zero_le _, rfl, Below.refl _ _⟩
  case round =>
    obtain ⟨k, hk, rfl, HBl⟩ := hrel
    have hB := HBl.out
    clear HBl
    by_cases hkl : (k : Int) < (len : Int)
    · obtain ⟨b1, o1, rfl, hb1, x0, ia, il, ic, fa, fl, fc, x1, x2, hi1, hf1⟩ := (HA.out.below hB).2 k (by omega)
      obtain ⟨b2, o2, rfl, hb2, y0, ja, jl, jc, ga, gl, gc, y1, y2, hi2, hf2⟩ := (HB.out.below hB).2 k (by omega)
      have hts := HSH.out k
      obtain ⟨p, hp⟩ : ∃ p, ps.getD k pk0 = p := ⟨_, rfl⟩
      rw [hp] at x0 y0 hi1 hi2 hf1 hf2 hts
      obtain ⟨nm, ims, fs⟩ := p
      simp only at x0 y0 hi1 hi2 hf1 hf2 hts
      obtain rfl : ims.length = il := hi1.1
      obtain rfl : ims.length = jl := hi2.1
      obtain rfl : fs.length = fl := hf1.1
      obtain rfl : fs.length = gl := hf2.1
      have hdr : Below wr.heap.size wr wr.drew := ⟨rfl, rfl, rfl, Nat.le_refl _, fun _ _ => rfl⟩
      have HC : Hid (_) := eqPackageC nm ia ja fa ga ims.length ic jc fs.length fc gc ims fs wr.drew (hi1.below hdr) (hi2.below hdr) (hf1.below hdr) (hf2.below hdr) (Nat.le_trans hts.2.1 (by omega)) (Nat.le_trans hts.2.2.2.1 (by omega)) (fun j => Nat.le_trans (hts.2.2.2.2 j).2.1 (by omega))
      clear hp hi1 hi2 hf1 hf2 hts hdr
      go_wp2
      go_region_held3 (fun w' => w'.cell? ⟨b1, o1 + k * 3, none⟩ = some (.string ⟨nm.toArray⟩) ∧ w'.cell? ⟨b1, o1 + k * 3 + 1, none⟩ = some (.slice ia ims.length ic) ∧ w'.cell? ⟨b1, o1 + k * 3 + 2, none⟩ = some (.slice fa fs.length fc) ∧ w'.cell? ⟨b2, o2 + k * 3, none⟩ = some (.string ⟨nm.toArray⟩) ∧ w'.cell? ⟨b2, o2 + k * 3 + 1, none⟩ = some (.slice ja ims.length jc) ∧ w'.cell? ⟨b2, o2 + k * 3 + 2, none⟩ = some (.slice ga fs.length gc)) (go_keep) (first | (go_at_call 44; refine Calls.mono HC.out ?_; rintro e w2 ⟨rfl, hw1⟩; replace x0 := (hw1.cell (p := ⟨b1, o1 + k * 3, none⟩) hb1).trans x0; replace x1 := (hw1.cell (p := ⟨b1, o1 + k * 3 + 1, none⟩) hb1).trans x1; replace x2 := (hw1.cell (p := ⟨b1, o1 + k * 3 + 2, none⟩) hb1).trans x2; replace y0 := (hw1.cell (p := ⟨b2, o2 + k * 3, none⟩) hb2).trans y0; replace y1 := (hw1.cell (p := ⟨b2, o2 + k * 3 + 1, none⟩) hb2).trans y1; replace y2 := (hw1.cell (p := ⟨b2, o2 + k * 3 + 2, none⟩) hb2).trans y2))
      all_goals
        have HB2 : Hid (Below w.heap.size w w2) := hB.trans ⟨hw1.os, hw1.tape, hw1.output, hw1.size, fun q hq => hw1.block q (by have := hB.size; show q < wr.heap.size; omega)⟩
        go_wp2
        go_roundw
        case rel => exact ⟨k + 1, by omega, by go_num, HB2⟩
        case measure => simp [intOf]; omega
    · go_wp2
      go_ret
      exact ⟨rfl, hB⟩

end Go.Proofs.YtdjglpcllcjcfaaGreatDoor
