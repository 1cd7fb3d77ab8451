/-
  Parts of one proof, one behind the other: TaskC, TaskD, WordI, Jumps, Clone, TextI.
-/
import Derived.Test.YtglhbcbilepomaaDoorP13
import Derived.Test.YtglhbcbilepomaaDoorP12
import Derived.Test.YtglhbcbilepomaaDoorP2
import Derived.Scope
import Derived.WalkMore
import Derived.Lib.Strings
import Derived.Lib.Walk
import Derived.Lib.BufferWrite
import Derived.Lib.UnsafeStr
import Derived.Lib.Hide
import Derived.Laws.MakeOwn
import Derived.Test.YtglhbcbilepomaaDoorRows
import Derived.WalkKit
import Derived.WalkLawsBesides
import Derived.OpenShut
import Derived.Test.YtglhbcbilepomaaDoorP3
import Derived.BigQuiet

/-! The contracts of chapter 18's specification: l1Copy at numbers that can be read; l18Copy. -/
namespace Go.Proofs.YtglhbcbilepomaaDoor
open Go.RowKit

/-- Numbers that can be read, as 'append' takes them. -/
theorem as_src {w : World} {a : Option Addr} {c : Nat} {xs : List Int} (h : AsIn w a xs) (hc : a = none → c = 0) : Src w (.slice a xs.length c) xs.length 1 (intsV xs) := by
  refine ⟨by rw [intsV_len, Nat.mul_one], intsV_one _, ?_⟩
  rcases a with _ | ad
  · have h0 : xs.length = 0 := by
      rcases Nat.eq_zero_or_pos xs.length with g | g
      · exact g
      · obtain ⟨b, off, e, _⟩ := h 0 g; cases e
    rw [hc rfl, h0]
    exact Or.inl ⟨rfl, rfl⟩
  · refine Or.inr ⟨ad, c, rfl, fun j u hu => ?_⟩
    have hj : j < xs.length := by have := (List.getElem?_eq_some_iff.1 hu).1; rw [intsV_len] at this; exact this
    obtain ⟨b, off, e, _, hcell⟩ := h j hj
    injection e with e
    subst e
    rw [add_plainR, hcell, ← hu, intsV_at _ j hj]
    simp [List.getD, hj]

set_option maxHeartbeats 1000000 in
set_option maxRecDepth 100000 in
theorem specCopy18 (a : Option Addr) (c : Nat) (xs : List Int) (w : World) (hin : AsIn w a xs) (hc : a = none → c = 0) (hn : xs.length ≤ 1048576) :
    Calls Tryd.prog 28 #[.slice a xs.length c] w fun e w' => ∃ va vc, e = .returned (.slice va xs.length vc) ∧ w'.ownsRow w.heap.size 2 1 (.slice va xs.length vc) xs.length (intsV xs) ∧ Below w.heap.size w w' := by
  obtain ⟨i0, hi, hz0, hz1, hz2⟩ := info_parts info2
  have hb0 : Below w.heap.size w (w.alloc (.cells #[] 2)) := (Below.refl _ _).alloc (Nat.le_refl _) _
  have hP0 : (w.alloc (.cells #[] 2)).ownsRow w.heap.size 2 1 (.slice (some ⟨w.heap.size, 0, none⟩) 0 0) 0 [] := World.ownsRow_lit w #[] 0 (Nat.le_refl _) (by decide) rfl
  obtain ⟨v', Y, hrun, hown, hg, _⟩ := run_append_src (P := Tryd.prog) (w.alloc (.cells #[] 2)) w.heap.size 46 46 2 i0 _ 1 8 Tryd.underlying46 hi hz0 hz1 hz2 rfl (by decide) _ _ _ hP0 _ xs.length (intsV xs) (as_src (hin.below hb0) hc) (by unfold maxLen; omega) (by omega) hb0.size
  rw [Nat.zero_add, List.nil_append] at hown
  have hval : ∃ va vc, v' = .slice va xs.length vc := by
    rcases own_forms hown with ⟨rfl, h0, _⟩ | ⟨g, cp, rfl⟩
    · exact ⟨none, 0, by rw [h0]⟩
    · exact ⟨_, _, rfl⟩
  obtain ⟨va, vc, rfl⟩ := hval
  have HF : Hid (Y.ownsRow w.heap.size 2 1 (.slice va xs.length vc) xs.length (intsV xs) ∧ Below w.heap.size w Y) := by
    refine ⟨hown, hb0.grown hg hb0.size (fun q e => ?_)⟩
    have : w.heap.size = q := by simpa [Value.ownBlock] using e
    omega
  clear hown hg hP0 hb0 hin
  go_enter Tryd.func28, Tryd.ntmps28
  go_wp2_with (at_builtin; refine wpList_append_run rfl (.tmp 3) (.tmp 4) 46 rfl _ _ _ rfl rfl hrun ?_; clear hrun)
  go_ret
  exact ⟨va, vc, rfl, HF.out⟩

set_option maxHeartbeats 4000000 in
set_option maxRecDepth 100000 in
theorem specCopyD (a : Option Addr) (len cap : Nat) (ts : List Ta) (ep nw : Int) (jr : List UInt8) (w : World) (hin : TasksOk w a len cap ts) (hsh : ShortTa ts) (hlen : len ≤ 1048576) :
    Calls Tryd.prog 13 #[.agg #[.slice a len cap, .int .i64 ep, .int .i64 nw, .string ⟨jr.toArray⟩]] w
      fun e w' => ∃ va vc xs, e = .returned (.agg #[.slice va len vc, .int .i64 ep, .int .i64 nw, .string ⟨jr.toArray⟩]) ∧ xs.map (·.1) = ts ∧ TksOwn w' w.heap.size (.slice va len vc) xs ∧ ApartR (xs.map tvT) ∧ Below w.heap.size w w' := by
  obtain rfl : ts.length = len := hin.1
  obtain ⟨D, hD⟩ : ∃ D, w.heap.size = D := ⟨_, rfl⟩
  obtain ⟨W1, hW1⟩ : ∃ W, w.alloc (.cells #[.slice a ts.length cap, .int .i64 ep, .int .i64 nw, .string ⟨jr.toArray⟩] 28) = W := ⟨_, rfl⟩
  obtain ⟨W2, hW2⟩ : ∃ W, W1.alloc (.cells #[.slice none 0 0, .int .i64 0, .int .i64 0, .string ⟨#[]⟩] 28) = W := ⟨_, rfl⟩
  have hs1 : W1.heap.size = D + 1 := by rw [← hW1, ← hD]; simp
  have hs2 : W2.heap.size = D + 2 := by rw [← hW2]; simp [hs1]
  have hb1 : Below D w W1 := by rw [← hW1, ← hD]; exact (Below.refl _ _).alloc (Nat.le_refl _) _
  have hb12 : Below W1.heap.size W1 W2 := by rw [← hW2]; exact (Below.refl _ _).alloc (Nat.le_refl _) _
  have hb2 : Below D w W2 := hb1.trans (hb12.mono (by omega))
  have bD := B4.new w (.slice a ts.length cap) (.int .i64 ep) (.int .i64 nw) (.string ⟨jr.toArray⟩) 28
  rw [hW1, hD] at bD
  have bR := B4.new W1 (.slice none 0 0) (.int .i64 0) (.int .i64 0) (.string ⟨#[]⟩) 28
  rw [hW2, hs1] at bR
  have HD : Hid (∀ Z, Below W2.heap.size W2 Z → B4 Z D (.slice a ts.length cap) (.int .i64 ep) (.int .i64 nw) (.string ⟨jr.toArray⟩) ∧ B4 Z (D + 1) (.slice none 0 0) (.int .i64 0) (.int .i64 0) (.string ⟨#[]⟩) ∧ TasksOk Z a ts.length cap ts ∧ Below D w Z) := fun Z hz =>
    ⟨(bD.below hb12).below hz, bR.below hz, (hin.below (by rw [hD]; exact hb2)).below hz, hb2.trans (hz.mono (by omega))⟩
  have HS : Hid (ShortTa ts) := hsh
  obtain ⟨d0, d1, d2, d3⟩ : W2.cell? ⟨D, 0, none⟩ = some (.slice a ts.length cap) ∧ W2.cell? ⟨D, 1, none⟩ = some (.int .i64 ep) ∧ W2.cell? ⟨D, 2, none⟩ = some (.int .i64 nw) ∧ W2.cell? ⟨D, 3, none⟩ = some (.string ⟨jr.toArray⟩) := by
    have h := (HD.out W2 (Below.refl _ _)).1
    exact ⟨h.c0, h.c1, h.c2, h.c3⟩
  obtain ⟨V, hV⟩ : ∃ V, W2.alloc (.cells #[.slice (some ⟨D + 2 + 1, 0, none⟩) 0 0, .int .i64 ep, .int .i64 nw, .string ⟨jr.toArray⟩] 28) = V := ⟨_, rfl⟩
  have bO := B4.new W2 (.slice (some ⟨D + 2 + 1, 0, none⟩) 0 0) (.int .i64 ep) (.int .i64 nw) (.string ⟨jr.toArray⟩) 28
  rw [hV, hs2] at bO
  have hsV : V.heap.size = D + 2 + 1 := by rw [← hV]; simp [hs2]
  have hbV : Below W2.heap.size W2 V := by rw [← hV]; exact (Below.refl _ _).alloc (Nat.le_refl _) _
  have hbV2 : Below V.heap.size V (V.alloc (.cells #[] 52)) := (Below.refl _ _).alloc (Nat.le_refl _) _
  have HO0 : Hid (B4 (V.alloc (.cells #[] 52)) (D + 2) (.slice (some ⟨D + 2 + 1, 0, none⟩) 0 0) (.int .i64 ep) (.int .i64 nw) (.string ⟨jr.toArray⟩)) := bO.below hbV2
  have HF0 : Hid (TksOwn (V.alloc (.cells #[] 52)) (D + 3) (.slice (some ⟨D + 2 + 1, 0, none⟩) 0 0) []) := by
    have h := World.ownsRow_lit (base := V.heap.size) (e := 52) (size := 6) V #[] 0 (Nat.le_refl _) (by decide) rfl
    rw [hsV] at h
    exact ⟨h, fun x hx => by cases hx⟩
  have HB0 : Hid (Below W2.heap.size W2 (V.alloc (.cells #[] 52))) := hbV.trans (hbV2.mono hbV.size)
  clear hin hsh bD bR hb1 hb12 hb2 bO hsV hbV hbV2
  go_enter Tryd.func13, Tryd.ntmps13
  go_wp2
  go_loopw [4] (fun iv wx => ∃ (i : Nat) (xs : List TV) (ga : Option Addr) (gc : Nat), iv = .int .i64 (i : Int) ∧ i ≤ ts.length ∧ xs.length = i ∧ Hid (xs.map (·.1) = ts.take i) ∧ Hid (B4 wx (D + 2) (.slice ga i gc) (.int .i64 ep) (.int .i64 nw) (.string ⟨jr.toArray⟩)) ∧ Hid (TksOwn wx (D + 3) (.slice ga i gc) xs) ∧ Hid (ApartR (xs.map tvT)) ∧ Hid (Below W2.heap.size W2 wx)) (fun iv _ => ts.length - (intOf iv).toNat)
  case atStart => exact ⟨0, [], some ⟨D + 2 + 1, 0, none⟩, 0, rfl, Nat.zero_le _, rfl, rfl, HO0, HF0, ApartR.nil, HB0⟩
  case round =>
    obtain ⟨i, xs, ga, gc, rfl, hi, hxl, HM, HO, HF, HAP, HBr⟩ := hrel
    clear HO0 HF0 HB0 d0 d1 d2 d3
    have hsr : D + 3 ≤ wr.heap.size := by have := HO.out.lt; omega
    obtain ⟨bd, br, hok, hbD⟩ := HD.out wr HBr.out
    have d0 := bd.c0
    have o0 := HO.out.c0
    by_cases hlt : (i : Int) < (ts.length : Int)
    · obtain ⟨b, off, rfl, hbl, c0, ⟨na, nc, c1, hn1, hnz⟩, c2, c3, c4, c5⟩ := hok.2.2 i (by omega)
      have hsi := HS.out i
      have hmk : ts.take (i + 1) = ts.take i ++ [ts.getD i ta0] := by
        have hg : ts.getD i ta0 = ts[i]'(by omega) := by simp [List.getD, show i < ts.length by omega]
        rw [hg, List.take_succ_eq_append_getElem]
      obtain ⟨f, hf⟩ : ∃ f, ts.getD i ta0 = f := ⟨_, rfl⟩
      rw [hf] at c0 c1 c2 c3 c4 c5 hn1 hsi hmk
      obtain ⟨nm, ns, st, wk, un, ke⟩ := f
      simp only at c0 c1 c2 c3 c4 c5 hn1 hsi
      have HMK : Hid (ts.take (i + 1) = ts.take i ++ [(nm, ns, st, wk, un, ke)]) := hmk
      obtain ⟨Y, hY⟩ : ∃ Y, wr.alloc (.cells #[.string ⟨nm.toArray⟩, .slice na ns.length nc, .int .i64 st, .int .i64 wk, .int .i64 un, .int .i64 ke] 52) = Y := ⟨_, rfl⟩
      have hbY : Below wr.heap.size wr Y := by rw [← hY]; exact (Below.refl _ _).alloc (Nat.le_refl _) _
      have hsY : Y.heap.size = wr.heap.size + 1 := by rw [← hY]; simp
      have bE := B6.new wr (.string ⟨nm.toArray⟩) (.slice na ns.length nc) (.int .i64 st) (.int .i64 wk) (.int .i64 un) (.int .i64 ke) 52
      rw [hY] at bE
      obtain ⟨E, hE⟩ : ∃ E, wr.heap.size = E := ⟨_, rfl⟩
      have HC : Hid (_) := specCopy18 na nc ns Y (hn1.below hbY) hnz hsi.2
      have HBE : Hid (B6 Y E (.string ⟨nm.toArray⟩) (.slice na ns.length nc) (.int .i64 st) (.int .i64 wk) (.int .i64 un) (.int .i64 ke)) := by rw [← hE]; exact bE
      have HbY : Hid (Below wr.heap.size wr Y) := hbY
      rw [hE] at hsY
      have e1 := HBE.out.c1
      have HE : Hid (wr.heap.size = E) := hE
      clear hf hn1 hmk bE hbY bd br hbD hok
      go_wp2_with fail
      refine Calls.mono HC.out ?_
      rintro e w2 ⟨va, vc, rfl, hown, hb2⟩
      have hb2r : Below wr.heap.size wr w2 := HbY.out.trans (hb2.mono HbY.out.size)
      have b2 := HBE.out.below hb2
      have bU := b2.s1 (.slice va ns.length vc)
      have q1 := b2.c1
      have qf := b2.fr 1
      obtain ⟨U, hU⟩ : ∃ U, w2.setCell ⟨E, 1, none⟩ (.slice va ns.length vc) = U := ⟨_, rfl⟩
      have hgU : w2.grownBy U (some E) := by rw [← hU]; exact grown_set _ _ _ _
      rw [hU] at bU
      have hrE := HE.out
      have hFU : TksOwn U (D + 3) (.slice ga i gc) xs := (HF.out.below hb2r).kept hgU (own_under HF.out.row (by omega)) (fun x hx => own_under (HF.out.trees x hx) (by omega))
      have hnU : U.ownsRow (E + 1) 2 1 (.slice va ns.length vc) ns.length (intsV ns) := by rw [← hsY]; exact hown.kept hgU (own_offR hown (by omega))
      have hBU : Below W2.heap.size W2 U := (HBr.out.trans (hb2r.mono HBr.out.size)).grown hgU (Nat.le_trans HBr.out.size hb2r.size) (fun k e => by injection e with e; have := HBr.out.size; omega)
      have bO := (HO.out.below hb2r).grown hgU (by simp; omega)
      obtain ⟨v', Z, hrun, hFZ, hgZ⟩ := push_tk hFU ((nm, ns, st, wk, un, ke), va, vc) (own_base hnU (by omega)) (by have := hb2r.size; have := hgU.size; omega) (by omega)
      simp only at hrun
      have hT : tvT ((nm, ns, st, wk, un, ke), va, vc) = .slice va ns.length vc := rfl
      rw [hT] at hrun
      obtain ⟨ga2, gc2, rfl⟩ := own_deskV hFZ
      have hoff : (Value.slice ga i gc).ownBlock ≠ some (D + 2) := by
        rcases own_offR (R := D + 2) HF.out.row (by omega) with h | h
        · rw [h]; simp
        · exact h
      have bOZ := bO.grown hgZ hoff
      have bOF := bOZ.s0 (.slice ga2 (xs ++ [((nm, ns, st, wk, un, ke), va, vc)]).length gc2)
      have z0 := bOZ.c0
      have zf := bOZ.fr 0
      have hl1 : (xs ++ [((nm, ns, st, wk, un, ke), va, vc)]).length = i + 1 := by simp [hxl]
      rw [hl1] at hFZ bOF hrun
      obtain ⟨Zf, hZf⟩ : ∃ Zf, Z.setCell ⟨D + 2, 0, none⟩ (.slice ga2 (i + 1) gc2) = Zf := ⟨_, rfl⟩
      have hgF : Z.grownBy Zf (some (D + 2)) := by rw [← hZf]; exact grown_set _ _ _ _
      rw [hZf] at bOF
      have HO2 : Hid (B4 Zf (D + 2) (.slice ga2 (i + 1) gc2) (.int .i64 ep) (.int .i64 nw) (.string ⟨jr.toArray⟩)) := bOF
      have HF2 : Hid (TksOwn Zf (D + 3) (.slice ga2 (i + 1) gc2) (xs ++ [((nm, ns, st, wk, un, ke), va, vc)])) := hFZ.kept hgF (own_offR hFZ.row (by omega)) (fun x hx => own_offR (hFZ.trees x hx) (by omega))
      have HM2 : Hid ((xs ++ [((nm, ns, st, wk, un, ke), va, vc)]).map (·.1) = ts.take (i + 1)) := by exact (by rw [List.map_append, HM.out, HMK.out]; rfl : (xs ++ [((nm, ns, st, wk, un, ke), va, vc)]).map (·.1) = ts.take (i + 1))
      have HAP2 : Hid (ApartR ((xs ++ [((nm, ns, st, wk, un, ke), va, vc)]).map tvT)) := by
        rw [List.map_append]
        refine HAP.out.snoc (fun v hv => ?_)
        obtain ⟨x, hx, rfl⟩ := List.mem_map.1 hv
        exact own_aheadR (HF.out.trees x hx) hnU (by omega)
      have HB2 : Hid (Below W2.heap.size W2 Zf) := by
        have h1 : Below W2.heap.size W2 Z := hBU.grown hgZ hBU.size (fun k e => by have := (HF.out.row.lt k e).1; omega)
        exact h1.grown hgF h1.size (fun k e => by injection e with e; omega)
      have HL2 : Hid ((xs ++ [((nm, ns, st, wk, un, ke), va, vc)]).length = i + 1) := hl1
      have u0 := bU.c0
      have u1 := bU.c1
      have u2 := bU.c2
      have u3 := bU.c3
      have u4 := bU.c4
      have u5 := bU.c5
      have x0 := bO.c0
      have hEO : ¬ E = D + 2 := by omega
      clear hown hb2 hb2r b2 bU hgU hFU hnU hBU bO hFZ hgZ hoff bOZ bOF hl1 hgF HC HBE HF HO HM HAP HBr HMK hT d0 o0
      go_wp2_with (at_builtin; refine wpList_append_run rfl (.tmp 26) (.tmp 28) 26 rfl _ _ _ rfl rfl hrun ?_; clear hrun)
      go_roundw
      case rel => exact ⟨i + 1, _, ga2, gc2, by go_num, by omega, HL2.out, HM2, HO2, HF2, HAP2, HB2⟩
      case measure => simp [intOf]; omega
    · obtain rfl : i = ts.length := by omega
      have HM2 : Hid (xs.map (·.1) = ts) := by exact (by rw [HM.out, List.take_length] : xs.map (·.1) = ts)
      have o1 := HO.out.c1
      have o2 := HO.out.c2
      have o3 := HO.out.c3
      have r0 := br.c0
      have r1 := br.c1
      have r2 := br.c2
      have r3 := br.c3
      have f0 := br.fr 0
      have f1 := br.fr 1
      have f2 := br.fr 2
      have f3 := br.fr 3
      have HBD : Hid (Below D w wr) := hbD
      clear hbD hok bd br HM
      go_wp2
      obtain ⟨X, hX, y0, y1, y2, y3, hg⟩ := set4 (.slice ga ts.length gc) (.int .i64 ep) (.int .i64 nw) (.string ⟨jr.toArray⟩) r0 r1 r2 r3
      rw [hX]
      refine bodyPost_ret (v := .agg #[.slice ga ts.length gc, .int .i64 ep, .int .i64 nw, .string ⟨jr.toArray⟩]) (by simp [results, Tryd.results13, go_sem, y0, y1, y2, y3]) rfl ?_
      have hk := HF.out.kept hg (own_offR HF.out.row (by omega)) (fun y hy => own_offR (HF.out.trees y hy) (by omega))
      exact ⟨ga, gc, rfl, xs, HM2.out, hk.base (by omega), HAP.out, HBD.out.grown hg (by omega) (fun k e => by injection e with e; omega)⟩

end Go.Proofs.YtglhbcbilepomaaDoor

/-! The contracts of chapter 18's specification: l18Tick, Ticked. -/
namespace Go.Proofs.YtglhbcbilepomaaDoor
open Go.RowKit

/-- A desk that a call hands out, in memory of its own. -/
def DkOut (w w' : World) (v : Value) (d : Dk) : Prop := ∃ va vc xs, v = .agg #[.slice va d.1.length vc, .int .i64 d.2.1, .int .i64 d.2.2.1, .string ⟨d.2.2.2.toArray⟩] ∧ xs.map (·.1) = d.1 ∧ TksOwn w' w.heap.size (.slice va d.1.length vc) xs ∧ ApartR (xs.map tvT) ∧ Below w.heap.size w w'
theorem DkOut.zero {w w' : World} (h : Below w.heap.size w w') : DkOut w w' (.agg #[.slice none 0 0, .int .i64 0, .int .i64 0, .string ⟨#[]⟩]) dk0 := ⟨none, 0, [], rfl, rfl, TksOwn.nil _ _, ApartR.nil, h⟩



end Go.Proofs.YtglhbcbilepomaaDoor

/-! The contracts of chapter 4's landed code: WordOk, Wrap, Done. -/
namespace Go.Proofs.YtglhbcbilepomaaDoor
open Go.RowKit




end Go.Proofs.YtglhbcbilepomaaDoor

/-! A scope in which the run jumps to several labels: what holds at every jump to each of them, and a measure that every pass from a label lowers. -/
namespace Go.Proofs.YtglhbcbilepomaaDoor
open Go.RowKit

/-- As Q; by a goto to label l: J l. -/
def Hops (J : Nat → Act → World → Prop) (Q : Exit → Act → World → Prop) : Exit → Act → World → Prop
  | .goto l, a, w => J l a w
  | e, a, w => Q e a w

theorem hops_goto {J : Nat → Act → World → Prop} {Q : Exit → Act → World → Prop} {l : Nat} {a : Act} {w : World} (h : J l a w) : Hops J Q (.goto l) a w := h
theorem hops_ret {J : Nat → Act → World → Prop} {Q : Exit → Act → World → Prop} {a : Act} {w : World} (h : Q .ret a w) : Hops J Q .ret a w := h

theorem hops_mono {J J' : Nat → Act → World → Prop} {Q : Exit → Act → World → Prop} (h : ∀ l a w, J l a w → J' l a w) : ∀ e a w, Hops J Q e a w → Hops J' Q e a w := by
  intro e a w hq
  cases e with
  | goto l => exact h l a w hq
  | _ => exact hq

/-- At each label what holds there (J), and a measure (μ) that every jump lowers; a run that falls into a label from above goes on as one that jumped there. -/
theorem wp_scope_hops {P : Program} {a : Act} {w : World} {Q : Exit → Act → World → Prop} {c : Go.Code} (J : Nat → Act → World → Prop) (μ : Nat → Act → World → Nat)
    (pass : ∀ l a w, J l a w → (∀ l' a' w', J l' a' w' → μ l' a' w' < μ l a w → ∀ R, findLabel c l' = some (.seq .skip R) → R.wp P (Hops (fun l₂ a₂ w₂ => J l₂ a₂ w₂ ∧ μ l₂ a₂ w₂ < μ l a w) Q) a' w') →
      ∃ R, findLabel c l = some (.seq .skip R) ∧ R.wp P (Hops (fun l' a' w' => J l' a' w' ∧ μ l' a' w' < μ l a w) Q) a w)
    (first : (∀ l a w, J l a w → ∀ R, findLabel c l = some (.seq .skip R) → R.wp P (Hops J Q) a w) → c.wp P (Hops J Q) a w) : (Code.scope c).wp P Q a w := by
  have all : ∀ n l a w, μ l a w = n → J l a w → ∃ R, findLabel c l = some (.seq .skip R) ∧ R.wp P (Hops (fun l' a' w' => J l' a' w' ∧ μ l' a' w' < μ l a w) Q) a w := by
    intro n
    induction n using Nat.strongRecOn with
    | _ n ih =>
      intro l a w hn hJ
      refine pass l a w hJ fun l' a' w' hJ' hlt R hf => ?_
      obtain ⟨R', hf', hw⟩ := ih _ (by omega) l' a' w' rfl hJ'
      rw [hf] at hf'
      cases hf'
      exact wp_mono hw (hops_mono fun l₂ a₂ w₂ h => ⟨h.1, Nat.lt_trans h.2 hlt⟩)
  intro b k cs
  have key : ∀ n l a w, μ l a w = n → J l a w → ∃ rest, findLabel c l = some rest ∧ ∃ e a' w', Q e a' w' ∧ Arrives P (lone (b.at a (.code rest :: .inScope c :: k)) cs w) b k cs e a' w' := by
    intro n
    induction n using Nat.strongRecOn with
    | _ n ih =>
      intro l a w hn hJ
      obtain ⟨R, hf, hR⟩ := all _ l a w rfl hJ
      have hp : (Code.seq .skip R).wp P (Hops (fun l' a' w' => J l' a' w' ∧ μ l' a' w' < μ l a w) Q) a w := wp_seq (wp_skip hR)
      refine ⟨_, hf, ?_⟩
      obtain ⟨e, a₁, w₁, hq, harr⟩ := hp b (.inScope c :: k) cs
      cases e with
      | normal => exact ⟨.normal, a₁, w₁, hq, Steps.trans harr (.one step_inScope)⟩
      | exit id => exact ⟨.exit id, a₁, w₁, hq, fun k' hk => harr k' (by simp [exitTo, hk])⟩
      | goto l' =>
        obtain ⟨hJ', hlt⟩ := hq
        obtain ⟨rest', hf', e₂, a₂, w₂, hq₂, harr₂⟩ := ih _ (by omega) l' a₁ w₁ rfl hJ'
        exact ⟨e₂, a₂, w₂, hq₂, .of_steps (harr _ (by simp [gotoIn, hf'])) harr₂⟩
      | ret => exact ⟨_, a₁, w₁, hq, harr⟩
      | panic ch => exact ⟨_, a₁, w₁, hq, harr⟩
      | outgrown => exact ⟨_, a₁, w₁, hq, harr⟩
  have first' := first fun l a w hJ R hf => by
    obtain ⟨R', hf', hw⟩ := all _ l a w rfl hJ
    rw [hf] at hf'
    cases hf'
    exact wp_mono hw (hops_mono fun l₂ a₂ w₂ h => h.1)
  obtain ⟨e, a₁, w₁, hq, harr⟩ := first' b (.inScope c :: k) cs
  cases e with
  | normal => exact ⟨.normal, a₁, w₁, hq, .head step_scope (Steps.trans harr (.one step_inScope))⟩
  | exit id => exact ⟨.exit id, a₁, w₁, hq, fun k' hk => .head step_scope (harr k' (by simp [exitTo, hk]))⟩
  | goto l' =>
    obtain ⟨rest', hf', e₂, a₂, w₂, hq₂, harr₂⟩ := key _ l' a₁ w₁ rfl hq
    exact ⟨e₂, a₂, w₂, hq₂, .of_steps (.head step_scope (harr _ (by simp [gotoIn, hf']))) harr₂⟩
  | ret => exact ⟨_, a₁, w₁, hq, .of_steps (.one step_scope) harr⟩
  | panic ch => exact ⟨_, a₁, w₁, hq, .of_steps (.one step_scope) harr⟩
  | outgrown => exact ⟨_, a₁, w₁, hq, .of_steps (.one step_scope) harr⟩

end Go.Proofs.YtglhbcbilepomaaDoor

/-! The contract of strings.Clone: the same bytes, in memory of their own. -/
namespace Go.Proofs.YtglhbcbilepomaaDoor
open Go.RowKit

theorem infoByte : (Tryd.prog.info? 5).map (fun i => (i.zero, i.size, i.bytes)) = some (some (.int .u8 0), 1, 1) := by kernel_rfl

set_option maxHeartbeats 4000000 in
set_option maxRecDepth 100000 in
theorem liteClone (s : ByteArray) (w : World) (hlim : s.size ≤ 281474976710656) :
    Calls Tryd.prog 59 #[.string s] w fun e w' => e = .returned (.string s) ∧ Below w.heap.size w w' := by
  by_cases h0 : s.size = 0
  · have hs : s = ⟨#[]⟩ := by
      apply ByteArray.ext
      exact Array.eq_empty_of_size_eq_zero h0
    subst hs
    go_enter Tryd.func59, Tryd.ntmps59
    go_wp2
    go_ret
    exact ⟨rfl, Below.refl _ _⟩
  · obtain ⟨i0, hi, hz0, hz1, hz2⟩ := info_parts infoByte
    have hinfo : (Tryd.prog.info? 5).map (·.size) = some 1 := by rw [hi]; simp [hz1]
    have hco : Tryd.prog.cellsOf 5 = 1 := by simp [Program.cellsOf, hi, hz1]
    obtain ⟨M, hM⟩ : ∃ M, M = madeCells (Value.int .u8 0).cells (((s.size : Nat) : Int).toNat * i0.size) := ⟨_, rfl⟩
    have hMs : M.size = s.size := by rw [hM, size_madeCells, hz1]; simp
    have hmk : ∀ W : World, (Instr.makeSlice 71 (.int .i64 (s.size : Int)) (.int .i64 (s.size : Int))).run Tryd.prog W = .ok (.slice (some ⟨W.heap.size, 0, none⟩) s.size s.size) (W.alloc (.cells M 5)) := fun W => by
      have h := run_make (P := Tryd.prog) W 71 5 i0 (.int .u8 0) Tryd.underlying71 hi hz0 .i64 .i64 (s.size : Int) (s.size : Int) (by omega) (by omega) (by rw [hz2]; omega) (by omega)
      rw [← hM] at h
      simpa using h
    clear hM
    have hcp := Lib.run_copy_row_string (P := Tryd.prog) (w.alloc (.cells M 5)) 71 9 3 5 w.heap.size 0 s.size s.size s M 5 Tryd.underlying71 hinfo (heap_alloc_new w _) (Nat.le_refl _) (by omega)
    obtain ⟨Y, hY⟩ : ∃ Y, Y = (M.toList.take 0 ++ Lib.byteCells s.data.toList ++ M.toList.drop (0 + s.size)).toArray := ⟨_, rfl⟩
    rw [← hY] at hcp
    have hYl : Y.toList = Lib.byteCells s.data.toList := by
      rw [hY, List.toList_toArray, List.take_zero, List.nil_append, List.drop_of_length_le (by rw [Array.length_toList]; omega), List.append_nil]
    have hYs : Y.size = s.size := by rw [← Array.length_toList, hYl, Lib.byteCells_length, ← Lib.size_eq]
    have hgY : ((w.alloc (.cells M 5)).setRow w.heap.size Y).heap[w.heap.size]? = some (.cells Y 5 (0, 0)) := setRow_heap _ _ M _ 5 (0, 0) (heap_alloc_new w _)
    have hne : s.data.toList ≠ [] := fun e => h0 (by rw [Lib.size_eq, e]; rfl)
    have hUS := Lib.run_unsafeString_row (P := Tryd.prog) ((w.alloc (.cells M 5)).setRow w.heap.size Y) 79 3 9 5 Tryd.underlying79 hco w.heap.size Y.size (by unfold World.shape?; rw [hgY]) s.data.toList hne (by rw [← Lib.size_eq]; omega) (by rw [← Lib.size_eq]; omega)
      (fun j x hx => Lib.cells_of_row hgY Y.size j _ (by rw [List.take_of_length_le (by rw [Array.length_toList]; exact Nat.le_refl _), hYl]; simp [Lib.byteCells, hx]))
    rw [← Lib.size_eq] at hUS
    clear hY
    go_enter Tryd.func59, Tryd.ntmps59
    go_wp2
    go_ret
    have hb1 : Below w.heap.size w (w.alloc (.cells M 5)) := (Below.refl _ w).alloc (Nat.le_refl _) _
    have hb2 : Below w.heap.size (w.alloc (.cells M 5)) ((w.alloc (.cells M 5)).setRow w.heap.size Y) := ⟨rfl, rfl, rfl, by simp, fun k hk => setRow_other _ _ _ _ (by omega)⟩
    exact ⟨rfl, Lib.below_freeze (hb1.trans hb2) (p := ⟨w.heap.size, 0, none⟩) (Nat.le_refl _) _⟩

set_option maxHeartbeats 400000 in
set_option maxRecDepth 100000 in
theorem stringsClone (l : List UInt8) (w : World) (hl : l.length ≤ 1048576) :
    Calls Tryd.prog 39 #[.string ⟨l.toArray⟩] w fun e w' => e = .returned (.string ⟨l.toArray⟩) ∧ Below w.heap.size w w' := by
  go_enter Tryd.func39, Tryd.ntmps39
  go_wp2_with fail
  refine (liteClone ⟨l.toArray⟩ _ (by have : (⟨l.toArray⟩ : ByteArray).size = l.length := List.size_toArray; omega)).mono ?_
  rintro e w1 ⟨rfl, hb⟩
  go_wp2
  go_ret
  exact ⟨rfl, hb⟩

end Go.Proofs.YtglhbcbilepomaaDoor

/-! The contracts of chapter 5's landed code: the pieces between marks (labels and gotos), Lines, Words, NameOk, NumberOf. -/
namespace Go.Proofs.YtglhbcbilepomaaDoor
open Go.RowKit




set_option maxHeartbeats 1000000 in
set_option maxRecDepth 100000 in
theorem implNameOkS (l : List UInt8) (w : World) (hl : l.length ≤ 1048576) :
    Calls Tryd.prog 55 #[.string ⟨l.toArray⟩] w fun e w' => e = .returned (.bool (nameB l)) ∧ w' = w := by
  go_enter Tryd.func55, Tryd.ntmps55
  go_wp2
  go_loop [6] (fun ix => ∃ k : Nat, k ≤ l.length ∧ ix = .int .i64 k ∧ Hid (∀ j (hj : j < l.length), j < k → 97 ≤ l[j].toNat ∧ l[j].toNat ≤ 122)) (fun ix => l.length - (intOf ix).toNat)
  case atStart => exact ⟨0, Nat.zero_le _, rfl, (fun j _ h => by omega : ∀ j (hj : j < l.length), j < 0 → _)⟩
  case round =>
    obtain ⟨k, hk, rfl, HK⟩ := hrel
    by_cases hkl : (k : Int) < (l.length : Int)
    · have hk2 : k < l.length := by omega
      obtain ⟨x, hx⟩ : ∃ x : UInt8, l[k] = x := ⟨_, rfl⟩
      have hxb : (⟨l.toArray⟩ : ByteArray)[k]'(by show k < l.toArray.size; simpa using hk2) = x := hx
      by_cases h1 : (x.toNat : Int) < 97
      · have HF : Hid (nameB l = false) := name_bad l k hk2 (by rw [hx]; omega)
        clear hx
        go_wp2
        go_ret
        exact ⟨by rw [HF.out]; rfl, rfl⟩
      · by_cases h2 : 122 < (x.toNat : Int)
        · have HF : Hid (nameB l = false) := name_bad l k hk2 (by rw [hx]; omega)
          clear hx
          go_wp2
          go_ret
          exact ⟨by rw [HF.out]; rfl, rfl⟩
        · have HS : Hid (∀ j (hj : j < l.length), j < k + 1 → 97 ≤ l[j].toNat ∧ l[j].toNat ≤ 122) := fun j hj hjk => by
            by_cases e : j = k
            · subst e; rw [hx]; omega
            · exact HK.out j hj (by omega)
          clear hx
          go_wp2
          go_round
          case rel => exact ⟨k + 1, by omega, by go_num, HS⟩
          case measure => simp [intOf]; omega
    · have HF : Hid (nameB l = inB (l.length : Int) 1 8) := name_good l (fun j hj => HK.out j hj (by omega))
      by_cases h1 : 1 ≤ (l.length : Int)
      · by_cases h2 : (l.length : Int) ≤ 8
        · have HB : Hid (inB (l.length : Int) 1 8 = true) := inB_yes _ _ _ h1 h2
          go_wp2
          go_ret
          exact ⟨by rw [HF.out, HB.out]; rfl, rfl⟩
        · have HB : Hid (inB (l.length : Int) 1 8 = false) := inB_no _ _ _ (by omega)
          go_wp2
          go_ret
          exact ⟨by rw [HF.out, HB.out]; rfl, rfl⟩
      · have HB : Hid (inB (l.length : Int) 1 8 = false) := inB_no _ _ _ (by omega)
        go_wp2
        go_ret
        exact ⟨by rw [HF.out, HB.out]; rfl, rfl⟩

theorem implNameOk (l : List UInt8) (w : World) (hl : l.length ≤ 1048576) :
    Calls Tryd.prog 55 #[.string ⟨l.toArray⟩] w fun e w' => e = .returned (.bool (nameB l)) ∧ Below w.heap.size w w' :=
  (implNameOkS l w hl).mono fun _ _ h => ⟨h.1, by rw [h.2]; exact Below.refl _ _⟩



end Go.Proofs.YtglhbcbilepomaaDoor
