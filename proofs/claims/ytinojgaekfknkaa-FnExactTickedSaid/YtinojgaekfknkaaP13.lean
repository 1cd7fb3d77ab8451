/-
  Parts of one proof, one behind the other: TaskC, TaskD, WordI, Jumps, Clone, TextI.
-/
import Derived.Test.YtinojgaekfknkaaP12
import Derived.Test.YtinojgaekfknkaaP11
import Derived.Test.YtinojgaekfknkaaP2
import Derived.Scope
import Derived.WalkMore
import Derived.Lib.Strings
import Derived.Lib.Walk
import Derived.Lib.BufferWrite
import Derived.Lib.UnsafeStr
import Derived.Lib.Hide
import Derived.Laws.MakeOwn
import Derived.Test.YtinojgaekfknkaaRows
import Derived.WalkKit
import Derived.WalkLawsBesides
import Derived.OpenShut
import Derived.Test.YtinojgaekfknkaaP3
import Derived.BigQuiet

/-! The contracts of chapter 18's specification: l1Copy at numbers that can be read; l18Copy. -/
namespace Go.Proofs.Ytinojgaekfknkaa
open Go.RowKit

/-- Numbers that can be read, as 'append' takes them. -/
theorem as_src {w : World} {a : Option Addr} {c : Nat} {xs : List Int} (h : AsIn w a xs) (hc : a = none → c = 0) : Src w (.slice a xs.length c) xs.length 1 (intsV xs) := by
  refine ⟨by rw [intsV_len, Nat.mul_one], intsV_one _, ?_⟩
  rcases a with _ | ad
  · have h0 : xs.length = 0 := by
      rcases Nat.eq_zero_or_pos xs.length with g | g
      · exact g
      · obtain ⟨b, off, e, _⟩ := h 0 g; cases e
    rw [hc rfl, h0]
    exact Or.inl ⟨rfl, rfl⟩
  · refine Or.inr ⟨ad, c, rfl, fun j u hu => ?_⟩
    have hj : j < xs.length := by have := (List.getElem?_eq_some_iff.1 hu).1; rw [intsV_len] at this; exact this
    obtain ⟨b, off, e, _, hcell⟩ := h j hj
    injection e with e
    subst e
    rw [add_plainR, hcell, ← hu, intsV_at _ j hj]
    simp [List.getD, hj]

set_option maxHeartbeats 1000000 in
set_option maxRecDepth 100000 in
theorem specCopy18 (a : Option Addr) (c : Nat) (xs : List Int) (w : World) (hin : AsIn w a xs) (hc : a = none → c = 0) (hn : xs.length ≤ 1048576) :
    Calls Try.prog 49 #[.slice a xs.length c] w fun e w' => ∃ va vc, e = .returned (.slice va xs.length vc) ∧ w'.ownsRow w.heap.size 2 1 (.slice va xs.length vc) xs.length (intsV xs) ∧ Below w.heap.size w w' := by
  obtain ⟨i0, hi, hz0, hz1, hz2⟩ := info_parts info2
  have hb0 : Below w.heap.size w (w.alloc (.cells #[] 2)) := (Below.refl _ _).alloc (Nat.le_refl _) _
  have hP0 : (w.alloc (.cells #[] 2)).ownsRow w.heap.size 2 1 (.slice (some ⟨w.heap.size, 0, none⟩) 0 0) 0 [] := World.ownsRow_lit w #[] 0 (Nat.le_refl _) (by decide) rfl
  obtain ⟨v', Y, hrun, hown, hg, _⟩ := run_append_src (P := Try.prog) (w.alloc (.cells #[] 2)) w.heap.size 43 43 2 i0 _ 1 8 Try.underlying43 hi hz0 hz1 hz2 rfl (by decide) _ _ _ hP0 _ xs.length (intsV xs) (as_src (hin.below hb0) hc) (by unfold maxLen; omega) (by omega) hb0.size
  rw [Nat.zero_add, List.nil_append] at hown
  have hval : ∃ va vc, v' = .slice va xs.length vc := by
    rcases own_forms hown with ⟨rfl, h0, _⟩ | ⟨g, cp, rfl⟩
    · exact ⟨none, 0, by rw [h0]⟩
    · exact ⟨_, _, rfl⟩
  obtain ⟨va, vc, rfl⟩ := hval
  have HF : Hid (Y.ownsRow w.heap.size 2 1 (.slice va xs.length vc) xs.length (intsV xs) ∧ Below w.heap.size w Y) := by
    refine ⟨hown, hb0.grown hg hb0.size (fun q e => ?_)⟩
    have : w.heap.size = q := by simpa [Value.ownBlock] using e
    omega
  clear hown hg hP0 hb0 hin
  go_enter Try.func49, Try.ntmps49
  go_wp2_with (at_builtin; refine wpList_append_run rfl (.tmp 3) (.tmp 4) 43 rfl _ _ _ rfl rfl hrun ?_; clear hrun)
  go_ret
  exact ⟨va, vc, rfl, HF.out⟩

set_option maxHeartbeats 4000000 in
set_option maxRecDepth 100000 in
theorem specCopyD (a : Option Addr) (len cap : Nat) (ts : List Ta) (ep nw : Int) (jr : List UInt8) (w : World) (hin : TasksOk w a len cap ts) (hsh : ShortTa ts) (hlen : len ≤ 1048576) :
    Calls Try.prog 31 #[.agg #[.slice a len cap, .int .i64 ep, .int .i64 nw, .string ⟨jr.toArray⟩]] w
      fun e w' => ∃ va vc xs, e = .returned (.agg #[.slice va len vc, .int .i64 ep, .int .i64 nw, .string ⟨jr.toArray⟩]) ∧ xs.map (·.1) = ts ∧ TksOwn w' w.heap.size (.slice va len vc) xs ∧ ApartR (xs.map tvT) ∧ Below w.heap.size w w' := by
  obtain rfl : ts.length = len := hin.1
  obtain ⟨D, hD⟩ : ∃ D, w.heap.size = D := ⟨_, rfl⟩
  obtain ⟨W1, hW1⟩ : ∃ W, w.alloc (.cells #[.slice a ts.length cap, .int .i64 ep, .int .i64 nw, .string ⟨jr.toArray⟩] 29) = W := ⟨_, rfl⟩
  obtain ⟨W2, hW2⟩ : ∃ W, W1.alloc (.cells #[.slice none 0 0, .int .i64 0, .int .i64 0, .string ⟨#[]⟩] 29) = W := ⟨_, rfl⟩
  have hs1 : W1.heap.size = D + 1 := by rw [← hW1, ← hD]; simp
  have hs2 : W2.heap.size = D + 2 := by rw [← hW2]; simp [hs1]
  have hb1 : Below D w W1 := by rw [← hW1, ← hD]; exact (Below.refl _ _).alloc (Nat.le_refl _) _
  have hb12 : Below W1.heap.size W1 W2 := by rw [← hW2]; exact (Below.refl _ _).alloc (Nat.le_refl _) _
  have hb2 : Below D w W2 := hb1.trans (hb12.mono (by omega))
  have bD := B4.new w (.slice a ts.length cap) (.int .i64 ep) (.int .i64 nw) (.string ⟨jr.toArray⟩) 29
  rw [hW1, hD] at bD
  have bR := B4.new W1 (.slice none 0 0) (.int .i64 0) (.int .i64 0) (.string ⟨#[]⟩) 29
  rw [hW2, hs1] at bR
  have HD : Hid (∀ Z, Below W2.heap.size W2 Z → B4 Z D (.slice a ts.length cap) (.int .i64 ep) (.int .i64 nw) (.string ⟨jr.toArray⟩) ∧ B4 Z (D + 1) (.slice none 0 0) (.int .i64 0) (.int .i64 0) (.string ⟨#[]⟩) ∧ TasksOk Z a ts.length cap ts ∧ Below D w Z) := fun Z hz =>
    ⟨(bD.below hb12).below hz, bR.below hz, (hin.below (by rw [hD]; exact hb2)).below hz, hb2.trans (hz.mono (by omega))⟩
  have HS : Hid (ShortTa ts) := hsh
  obtain ⟨d0, d1, d2, d3⟩ : W2.cell? ⟨D, 0, none⟩ = some (.slice a ts.length cap) ∧ W2.cell? ⟨D, 1, none⟩ = some (.int .i64 ep) ∧ W2.cell? ⟨D, 2, none⟩ = some (.int .i64 nw) ∧ W2.cell? ⟨D, 3, none⟩ = some (.string ⟨jr.toArray⟩) := by
    have h := (HD.out W2 (Below.refl _ _)).1
    exact ⟨h.c0, h.c1, h.c2, h.c3⟩
  obtain ⟨V, hV⟩ : ∃ V, W2.alloc (.cells #[.slice (some ⟨D + 2 + 1, 0, none⟩) 0 0, .int .i64 ep, .int .i64 nw, .string ⟨jr.toArray⟩] 29) = V := ⟨_, rfl⟩
  have bO := B4.new W2 (.slice (some ⟨D + 2 + 1, 0, none⟩) 0 0) (.int .i64 ep) (.int .i64 nw) (.string ⟨jr.toArray⟩) 29
  rw [hV, hs2] at bO
  have hsV : V.heap.size = D + 2 + 1 := by rw [← hV]; simp [hs2]
  have hbV : Below W2.heap.size W2 V := by rw [← hV]; exact (Below.refl _ _).alloc (Nat.le_refl _) _
  have hbV2 : Below V.heap.size V (V.alloc (.cells #[] 45)) := (Below.refl _ _).alloc (Nat.le_refl _) _
  have HO0 : Hid (B4 (V.alloc (.cells #[] 45)) (D + 2) (.slice (some ⟨D + 2 + 1, 0, none⟩) 0 0) (.int .i64 ep) (.int .i64 nw) (.string ⟨jr.toArray⟩)) := bO.below hbV2
  have HF0 : Hid (TksOwn (V.alloc (.cells #[] 45)) (D + 3) (.slice (some ⟨D + 2 + 1, 0, none⟩) 0 0) []) := by
    have h := World.ownsRow_lit (base := V.heap.size) (e := 45) (size := 6) V #[] 0 (Nat.le_refl _) (by decide) rfl
    rw [hsV] at h
    exact ⟨h, fun x hx => by cases hx⟩
  have HB0 : Hid (Below W2.heap.size W2 (V.alloc (.cells #[] 45))) := hbV.trans (hbV2.mono hbV.size)
  clear hin hsh bD bR hb1 hb12 hb2 bO hsV hbV hbV2
  go_enter Try.func31, Try.ntmps31
  go_wp2
  go_loopw [4] (fun iv wx => ∃ (i : Nat) (xs : List TV) (ga : Option Addr) (gc : Nat), iv = .int .i64 (i : Int) ∧ i ≤ ts.length ∧ xs.length = i ∧ Hid (xs.map (·.1) = ts.take i) ∧ Hid (B4 wx (D + 2) (.slice ga i gc) (.int .i64 ep) (.int .i64 nw) (.string ⟨jr.toArray⟩)) ∧ Hid (TksOwn wx (D + 3) (.slice ga i gc) xs) ∧ Hid (ApartR (xs.map tvT)) ∧ Hid (Below W2.heap.size W2 wx)) (fun iv _ => ts.length - (intOf iv).toNat)
  case atStart => exact ⟨0, [], some ⟨D + 2 + 1, 0, none⟩, 0, rfl, Nat.zero_le _, rfl, rfl, HO0, HF0, ApartR.nil, HB0⟩
  case round =>
    obtain ⟨i, xs, ga, gc, rfl, hi, hxl, HM, HO, HF, HAP, HBr⟩ := hrel
    clear HO0 HF0 HB0 d0 d1 d2 d3
    have hsr : D + 3 ≤ wr.heap.size := by have := HO.out.lt; omega
    obtain ⟨bd, br, hok, hbD⟩ := HD.out wr HBr.out
    have d0 := bd.c0
    have o0 := HO.out.c0
    by_cases hlt : (i : Int) < (ts.length : Int)
    · obtain ⟨b, off, rfl, hbl, c0, ⟨na, nc, c1, hn1, hnz⟩, c2, c3, c4, c5⟩ := hok.2.2 i (by omega)
      have hsi := HS.out i
      have hmk : ts.take (i + 1) = ts.take i ++ [ts.getD i ta0] := by
        have hg : ts.getD i ta0 = ts[i]'(by omega) := by simp [List.getD, show i < ts.length by omega]
        rw [hg, List.take_succ_eq_append_getElem]
      obtain ⟨f, hf⟩ : ∃ f, ts.getD i ta0 = f := ⟨_, rfl⟩
      rw [hf] at c0 c1 c2 c3 c4 c5 hn1 hsi hmk
      obtain ⟨nm, ns, st, wk, un, ke⟩ := f
      simp only at c0 c1 c2 c3 c4 c5 hn1 hsi
      have HMK : Hid (ts.take (i + 1) = ts.take i ++ [(nm, ns, st, wk, un, ke)]) := hmk
      obtain ⟨Y, hY⟩ : ∃ Y, wr.alloc (.cells #[.string ⟨nm.toArray⟩, .slice na ns.length nc, .int .i64 st, .int .i64 wk, .int .i64 un, .int .i64 ke] 45) = Y := ⟨_, rfl⟩
      have hbY : Below wr.heap.size wr Y := by rw [← hY]; exact (Below.refl _ _).alloc (Nat.le_refl _) _
      have hsY : Y.heap.size = wr.heap.size + 1 := by rw [← hY]; simp
      have bE := B6.new wr (.string ⟨nm.toArray⟩) (.slice na ns.length nc) (.int .i64 st) (.int .i64 wk) (.int .i64 un) (.int .i64 ke) 45
      rw [hY] at bE
      obtain ⟨E, hE⟩ : ∃ E, wr.heap.size = E := ⟨_, rfl⟩
      have HC : Hid (_) := specCopy18 na nc ns Y (hn1.below hbY) hnz hsi.2
      have HBE : Hid (B6 Y E (.string ⟨nm.toArray⟩) (.slice na ns.length nc) (.int .i64 st) (.int .i64 wk) (.int .i64 un) (.int .i64 ke)) := by rw [← hE]; exact bE
      have HbY : Hid (Below wr.heap.size wr Y) := hbY
      rw [hE] at hsY
      have e1 := HBE.out.c1
      have HE : Hid (wr.heap.size = E) := hE
      clear hf hn1 hmk bE hbY bd br hbD hok
      go_wp2_with fail
      refine Calls.mono HC.out ?_
      rintro e w2 ⟨va, vc, rfl, hown, hb2⟩
      have hb2r : Below wr.heap.size wr w2 := HbY.out.trans (hb2.mono HbY.out.size)
      have b2 := HBE.out.below hb2
      have bU := b2.s1 (.slice va ns.length vc)
      have q1 := b2.c1
      have qf := b2.fr 1
      obtain ⟨U, hU⟩ : ∃ U, w2.setCell ⟨E, 1, none⟩ (.slice va ns.length vc) = U := ⟨_, rfl⟩
      have hgU : w2.grownBy U (some E) := by rw [← hU]; exact grown_set _ _ _ _
      rw [hU] at bU
      have hrE := HE.out
      have hFU : TksOwn U (D + 3) (.slice ga i gc) xs := (HF.out.below hb2r).kept hgU (own_under HF.out.row (by omega)) (fun x hx => own_under (HF.out.trees x hx) (by omega))
      have hnU : U.ownsRow (E + 1) 2 1 (.slice va ns.length vc) ns.length (intsV ns) := by rw [← hsY]; exact hown.kept hgU (own_offR hown (by omega))
      have hBU : Below W2.heap.size W2 U := (HBr.out.trans (hb2r.mono HBr.out.size)).grown hgU (Nat.le_trans HBr.out.size hb2r.size) (fun k e => by injection e with e; have := HBr.out.size; omega)
      have bO := (HO.out.below hb2r).grown hgU (by simp; omega)
      obtain ⟨v', Z, hrun, hFZ, hgZ⟩ := push_tk hFU ((nm, ns, st, wk, un, ke), va, vc) (own_base hnU (by omega)) (by have := hb2r.size; have := hgU.size; omega) (by omega)
      simp only at hrun
      have hT : tvT ((nm, ns, st, wk, un, ke), va, vc) = .slice va ns.length vc := rfl
      rw [hT] at hrun
      obtain ⟨ga2, gc2, rfl⟩ := own_deskV hFZ
      have hoff : (Value.slice ga i gc).ownBlock ≠ some (D + 2) := by
        rcases own_offR (R := D + 2) HF.out.row (by omega) with h | h
        · rw [h]; simp
        · exact h
      have bOZ := bO.grown hgZ hoff
      have bOF := bOZ.s0 (.slice ga2 (xs ++ [((nm, ns, st, wk, un, ke), va, vc)]).length gc2)
      have z0 := bOZ.c0
      have zf := bOZ.fr 0
      have hl1 : (xs ++ [((nm, ns, st, wk, un, ke), va, vc)]).length = i + 1 := by simp [hxl]
      rw [hl1] at hFZ bOF hrun
      obtain ⟨Zf, hZf⟩ : ∃ Zf, Z.setCell ⟨D + 2, 0, none⟩ (.slice ga2 (i + 1) gc2) = Zf := ⟨_, rfl⟩
      have hgF : Z.grownBy Zf (some (D + 2)) := by rw [← hZf]; exact grown_set _ _ _ _
      rw [hZf] at bOF
      have HO2 : Hid (B4 Zf (D + 2) (.slice ga2 (i + 1) gc2) (.int .i64 ep) (.int .i64 nw) (.string ⟨jr.toArray⟩)) := bOF
      have HF2 : Hid (TksOwn Zf (D + 3) (.slice ga2 (i + 1) gc2) (xs ++ [((nm, ns, st, wk, un, ke), va, vc)])) := hFZ.kept hgF (own_offR hFZ.row (by omega)) (fun x hx => own_offR (hFZ.trees x hx) (by omega))
      have HM2 : Hid ((xs ++ [((nm, ns, st, wk, un, ke), va, vc)]).map (·.1) = ts.take (i + 1)) := by exact (by rw [List.map_append, HM.out, HMK.out]; rfl : (xs ++ [((nm, ns, st, wk, un, ke), va, vc)]).map (·.1) = ts.take (i + 1))
      have HAP2 : Hid (ApartR ((xs ++ [((nm, ns, st, wk, un, ke), va, vc)]).map tvT)) := by
        rw [List.map_append]
        refine HAP.out.snoc (fun v hv => ?_)
        obtain ⟨x, hx, rfl⟩ := List.mem_map.1 hv
        exact own_aheadR (HF.out.trees x hx) hnU (by omega)
      have HB2 : Hid (Below W2.heap.size W2 Zf) := by
        have h1 : Below W2.heap.size W2 Z := hBU.grown hgZ hBU.size (fun k e => by have := (HF.out.row.lt k e).1; omega)
        exact h1.grown hgF h1.size (fun k e => by injection e with e; omega)
      have HL2 : Hid ((xs ++ [((nm, ns, st, wk, un, ke), va, vc)]).length = i + 1) := hl1
      have u0 := bU.c0
      have u1 := bU.c1
      have u2 := bU.c2
      have u3 := bU.c3
      have u4 := bU.c4
      have u5 := bU.c5
      have x0 := bO.c0
      have hEO : ¬ E = D + 2 := by omega
      clear hown hb2 hb2r b2 bU hgU hFU hnU hBU bO hFZ hgZ hoff bOZ bOF hl1 hgF HC HBE HF HO HM HAP HBr HMK hT d0 o0
      go_wp2_with (at_builtin; refine wpList_append_run rfl (.tmp 26) (.tmp 28) 27 rfl _ _ _ rfl rfl hrun ?_; clear hrun)
      go_roundw
      case rel => exact ⟨i + 1, _, ga2, gc2, by go_num, by omega, HL2.out, HM2, HO2, HF2, HAP2, HB2⟩
      case measure => simp [intOf]; omega
    · obtain rfl : i = ts.length := by omega
      have HM2 : Hid (xs.map (·.1) = ts) := by exact (by rw [HM.out, List.take_length] : xs.map (·.1) = ts)
      have o1 := HO.out.c1
      have o2 := HO.out.c2
      have o3 := HO.out.c3
      have r0 := br.c0
      have r1 := br.c1
      have r2 := br.c2
      have r3 := br.c3
      have f0 := br.fr 0
      have f1 := br.fr 1
      have f2 := br.fr 2
      have f3 := br.fr 3
      have HBD : Hid (Below D w wr) := hbD
      clear hbD hok bd br HM
      go_wp2
      obtain ⟨X, hX, y0, y1, y2, y3, hg⟩ := set4 (.slice ga ts.length gc) (.int .i64 ep) (.int .i64 nw) (.string ⟨jr.toArray⟩) r0 r1 r2 r3
      rw [hX]
      refine bodyPost_ret (v := .agg #[.slice ga ts.length gc, .int .i64 ep, .int .i64 nw, .string ⟨jr.toArray⟩]) (by simp [results, Try.results31, go_sem, y0, y1, y2, y3]) rfl ?_
      have hk := HF.out.kept hg (own_offR HF.out.row (by omega)) (fun y hy => own_offR (HF.out.trees y hy) (by omega))
      exact ⟨ga, gc, rfl, xs, HM2.out, hk.base (by omega), HAP.out, HBD.out.grown hg (by omega) (fun k e => by injection e with e; omega)⟩

end Go.Proofs.Ytinojgaekfknkaa

/-! The contracts of chapter 18's specification: l18Tick, Ticked. -/
namespace Go.Proofs.Ytinojgaekfknkaa
open Go.RowKit

/-- A desk that a call hands out, in memory of its own. -/
def DkOut (w w' : World) (v : Value) (d : Dk) : Prop := ∃ va vc xs, v = .agg #[.slice va d.1.length vc, .int .i64 d.2.1, .int .i64 d.2.2.1, .string ⟨d.2.2.2.toArray⟩] ∧ xs.map (·.1) = d.1 ∧ TksOwn w' w.heap.size (.slice va d.1.length vc) xs ∧ ApartR (xs.map tvT) ∧ Below w.heap.size w w'
theorem DkOut.zero {w w' : World} (h : Below w.heap.size w w') : DkOut w w' (.agg #[.slice none 0 0, .int .i64 0, .int .i64 0, .string ⟨#[]⟩]) dk0 := ⟨none, 0, [], rfl, rfl, TksOwn.nil _ _, ApartR.nil, h⟩

set_option maxHeartbeats 1000000 in
set_option maxRecDepth 100000 in
theorem specTick (B : Nat) (va v1 v3 : Value) (nw n : Int) (w : World) (h : B4 w B va v1 (.int .i64 nw) v3) (h0 : 0 ≤ nw) (h1 : nw ≤ 1000000) (hn0 : -9223372036854775808 ≤ n) (hn1 : n ≤ 9223372036854775807) :
    Calls Try.prog 39 #[.pointer (some ⟨B, 0, none⟩), .int .i64 n] w fun e w' => e = .returned (.bool (inB n 0 (1000000 - nw))) ∧ w' = if inB n 0 (1000000 - nw) = true then w.setCell ⟨B, 2, none⟩ (.int .i64 (nw + n)) else w := by
  have HI : Hid (_) := specIn n 0 (1000000 - nw) w
  have k2 := h.c2
  have kf := h.fr 2
  have HB : Hid (inB n 0 (1000000 - nw) = true → 0 ≤ n ∧ n ≤ 1000000 - nw) := fun e => by unfold inB at e; exact of_decide_eq_true e
  generalize inB n 0 (1000000 - nw) = b at HI HB ⊢
  clear h
  rcases b with _ | _
  · go_enter Try.func39, Try.ntmps39
    go_wp2_with (go_at_call 21; refine Calls.mono HI.out ?_; rintro e w1 ⟨rfl, rfl⟩)
    go_ret
    exact ⟨rfl, rfl⟩
  · obtain ⟨hb0, hb1⟩ := HB.out rfl
    go_enter Try.func39, Try.ntmps39
    go_wp2_with (go_at_call 21; refine Calls.mono HI.out ?_; rintro e w1 ⟨rfl, rfl⟩)
    go_ret
    exact ⟨rfl, rfl⟩

set_option maxHeartbeats 4000000 in
set_option maxRecDepth 100000 in
theorem specTicked (a : Option Addr) (len cap : Nat) (ts : List Ta) (ep nw : Int) (jr : List UInt8) (n : Int) (w : World) (hin : TasksOk w a len cap ts) (hsh : ShortTa ts) (hlen : len ≤ 1048576) (hn0 : -9223372036854775808 ≤ n) (hn1 : n ≤ 9223372036854775807) :
    Calls Try.prog 16 #[.agg #[.slice a len cap, .int .i64 ep, .int .i64 nw, .string ⟨jr.toArray⟩], .int .i64 n] w
      fun e w' => ∃ v, e = .returned (.tuple #[v, .bool (tickedV (ts, ep, nw, jr) n).2]) ∧ DkOut w w' v (tickedV (ts, ep, nw, jr) n).1 := by
  obtain rfl : ts.length = len := hin.1
  obtain ⟨D, hD⟩ : ∃ D, w.heap.size = D := ⟨_, rfl⟩
  obtain ⟨W1, hW1⟩ : ∃ W, w.alloc (.cells #[.slice a ts.length cap, .int .i64 ep, .int .i64 nw, .string ⟨jr.toArray⟩] 29) = W := ⟨_, rfl⟩
  obtain ⟨W2, hW2⟩ : ∃ W, W1.alloc (.cells #[.slice none 0 0, .int .i64 0, .int .i64 0, .string ⟨#[]⟩] 29) = W := ⟨_, rfl⟩
  have hs1 : W1.heap.size = D + 1 := by rw [← hW1, ← hD]; simp
  have hs2 : W2.heap.size = D + 2 := by rw [← hW2]; simp [hs1]
  have hb1 : Below D w W1 := by rw [← hW1, ← hD]; exact (Below.refl _ _).alloc (Nat.le_refl _) _
  have hb12 : Below W1.heap.size W1 W2 := by rw [← hW2]; exact (Below.refl _ _).alloc (Nat.le_refl _) _
  have hb2 : Below D w W2 := hb1.trans (hb12.mono (by omega))
  have bD := B4.new w (.slice a ts.length cap) (.int .i64 ep) (.int .i64 nw) (.string ⟨jr.toArray⟩) 29
  rw [hW1, hD] at bD
  have bR := B4.new W1 (.slice none 0 0) (.int .i64 0) (.int .i64 0) (.string ⟨#[]⟩) 29
  rw [hW2, hs1] at bR
  have HD : Hid (∀ Z, Below W2.heap.size W2 Z → B4 Z D (.slice a ts.length cap) (.int .i64 ep) (.int .i64 nw) (.string ⟨jr.toArray⟩) ∧ B4 Z (D + 1) (.slice none 0 0) (.int .i64 0) (.int .i64 0) (.string ⟨#[]⟩) ∧ TasksOk Z a ts.length cap ts ∧ Below D w Z) := fun Z hz =>
    ⟨(bD.below hb12).below hz, bR.below hz, (hin.below (by rw [hD]; exact hb2)).below hz, hb2.trans (hz.mono (by omega))⟩
  have HK : Hid (_) := specDeskOk a ts.length cap ts ep nw jr W2 (hin.in.below (by rw [hD]; exact hb2)) hsh hlen
  have HCp : Hid (∀ Z, TasksOk Z a ts.length cap ts → _) := fun Z hz => specCopyD a ts.length cap ts ep nw jr Z hz hsh hlen
  have HV0 : Hid (deskB (ts, ep, nw, jr) = false → tickedV (ts, ep, nw, jr) n = (dk0, false)) := fun h => by unfold tickedV; rw [h]; rfl
  have HV1 : Hid (deskB (ts, ep, nw, jr) = true → inB n 0 (1000000 - nw) = false → tickedV (ts, ep, nw, jr) n = ((ts, ep, nw, jr), false)) := fun h h2 => by unfold tickedV; rw [h, if_pos rfl]; simp only; rw [h2]; rfl
  have HV2 : Hid (deskB (ts, ep, nw, jr) = true → inB n 0 (1000000 - nw) = true → tickedV (ts, ep, nw, jr) n = ((ts, ep, nw + n, jr), true)) := fun h h2 => by unfold tickedV; rw [h, if_pos rfl]; simp only; rw [h2]; rfl
  have HP : Hid (deskB (ts, ep, nw, jr) = true → 0 ≤ nw ∧ nw ≤ 1000000) := fun h => (deskB_iff.1 h).t
  obtain ⟨d0, d1, d2, d3⟩ : W2.cell? ⟨D, 0, none⟩ = some (.slice a ts.length cap) ∧ W2.cell? ⟨D, 1, none⟩ = some (.int .i64 ep) ∧ W2.cell? ⟨D, 2, none⟩ = some (.int .i64 nw) ∧ W2.cell? ⟨D, 3, none⟩ = some (.string ⟨jr.toArray⟩) := by
    have h := (HD.out W2 (Below.refl _ _)).1
    exact ⟨h.c0, h.c1, h.c2, h.c3⟩
  generalize tickedV (ts, ep, nw, jr) n = res at HV0 HV1 HV2 ⊢
  generalize deskB (ts, ep, nw, jr) = b1 at HK HV0 HV1 HV2 HP
  clear hin hsh bD bR hb1 hb12 hb2
  rcases b1 with _ | _
  · have HR : Hid (res = (dk0, false)) := HV0.out rfl
    clear HV0 HV1 HV2 HP HCp
    go_enter Try.func16, Try.ntmps16
    go_wp2_with fail
    refine Calls.mono HK.out ?_
    rintro e w1 ⟨rfl, hb1⟩
    obtain ⟨_, br, _, hbD⟩ := HD.out w1 hb1
    have r0 := br.c0
    have r1 := br.c1
    have r2 := br.c2
    have r3 := br.c3
    have f0 := br.fr 0
    have f1 := br.fr 1
    have f2 := br.fr 2
    have f3 := br.fr 3
    have HBD : Hid (Below D w w1) := hbD
    clear hbD br hb1 d0 d1 d2 d3
    go_wp2
    obtain ⟨X, hX, y0, y1, y2, y3, hg⟩ := set4 (.slice none 0 0) (.int .i64 0) (.int .i64 0) (.string ⟨#[]⟩) r0 r1 r2 r3
    rw [hX]
    refine bodyPost_ret (v := .tuple #[.agg #[.slice none 0 0, .int .i64 0, .int .i64 0, .string ⟨#[]⟩], .bool false]) (by simp [results, Try.results16, go_sem, y0, y1, y2, y3]) rfl ?_
    rw [HR.out]
    exact ⟨_, rfl, DkOut.zero (by rw [hD]; exact HBD.out.grown hg (by have := HBD.out.size; omega) (fun k e => by injection e with e; omega))⟩
  · have HV1b : Hid (_) := HV1.out rfl
    have HV2b : Hid (_) := HV2.out rfl
    obtain ⟨hp0, hp1⟩ := HP.out rfl
    clear HV0 HV1 HV2 HP
    go_enter Try.func16, Try.ntmps16
    go_wp2_with fail
    refine Calls.mono HK.out ?_
    rintro e w1 ⟨rfl, hb1⟩
    have HB1 : Hid (Below W2.heap.size W2 w1) := hb1
    clear d0 d1 d2 d3 hb1 HK
    obtain ⟨bd, _, hok1, _⟩ := HD.out w1 HB1.out
    have d0 := bd.c0
    have d1 := bd.c1
    have d2 := bd.c2
    have d3 := bd.c3
    have HC1 : Hid (_) := HCp.out w1 hok1
    clear bd hok1 HCp
    go_wp2_with fail
    refine Calls.mono HC1.out ?_
    rintro e w2 ⟨va, vc, xs, rfl, hx, ho, hap, hb2⟩
    have hB2 := HB1.out.trans (hb2.mono HB1.out.size)
    obtain ⟨Q, hQ⟩ : ∃ Q, w2.heap.size = Q := ⟨_, rfl⟩
    obtain ⟨w3, hw3⟩ : ∃ W, w2.alloc (.cells #[.slice va ts.length vc, .int .i64 ep, .int .i64 nw, .string ⟨jr.toArray⟩] 29) = W := ⟨_, rfl⟩
    have bQ := B4.new w2 (.slice va ts.length vc) (.int .i64 ep) (.int .i64 nw) (.string ⟨jr.toArray⟩) 29
    have hb3 : Below w2.heap.size w2 w3 := by rw [← hw3]; exact (Below.refl _ _).alloc (Nat.le_refl _) _
    have hs3 : w3.heap.size = Q + 1 := by rw [← hw3, ← hQ]; simp
    rw [hw3, hQ] at bQ
    have hB3 : Below W2.heap.size W2 w3 := hB2.trans (hb3.mono hB2.size)
    have HT : Hid (_) := specTick Q _ _ _ nw n w3 bQ hp0 hp1 hn0 hn1
    have hw1 : D + 2 ≤ w1.heap.size := by have := HB1.out.size; omega
    have hQl : w1.heap.size ≤ Q := by rw [← hQ]; exact hb2.size
    have HO3 : Hid (TksOwn w3 w1.heap.size (.slice va ts.length vc) xs ∧ xs.map (·.1) = ts ∧ ApartR (xs.map tvT)) := ⟨ho.below hb3, hx, hap⟩
    have hO3 : ∀ k, (Value.slice va ts.length vc).ownBlock = some k ∨ (∃ x ∈ xs, (tvT x).ownBlock = some k) → k < Q := by
      intro k hk
      rw [← hQ]
      rcases hk with e | ⟨x, hx, e⟩
      · exact (ho.row.lt k e).2
      · exact ((ho.trees x hx).lt k e).2
    have HO3l : Hid (_) := hO3
    have HBQ : Hid (B4 w3 Q (.slice va ts.length vc) (.int .i64 ep) (.int .i64 nw) (.string ⟨jr.toArray⟩)) := bQ
    have HB3 : Hid (Below W2.heap.size W2 w3) := hB3
    clear d0 d1 d2 d3 hb2 ho hap hx hb3 bQ hB3 hB2 hO3 HC1
    rcases hbb : inB n 0 (1000000 - nw) with _ | _
    · have HR : Hid (res = ((ts, ep, nw, jr), false)) := HV1b.out hbb
      rw [hbb, if_neg (by simp)] at HT
      clear HV1b HV2b hbb
      go_wp2_with fail
      refine Calls.mono HT.out ?_
      rintro e w4 ⟨rfl, rfl⟩
      obtain ⟨_, br, _, hbD⟩ := HD.out w4 HB3.out
      have q0 := HBQ.out.c0
      have q1 := HBQ.out.c1
      have q2 := HBQ.out.c2
      have q3 := HBQ.out.c3
      have r0 := br.c0
      have r1 := br.c1
      have r2 := br.c2
      have r3 := br.c3
      have f0 := br.fr 0
      have f1 := br.fr 1
      have f2 := br.fr 2
      have f3 := br.fr 3
      have HBD : Hid (Below D w w4) := hbD
      clear hbD br
      go_wp2
      obtain ⟨X, hX, y0, y1, y2, y3, hg⟩ := set4 (.slice va ts.length vc) (.int .i64 ep) (.int .i64 nw) (.string ⟨jr.toArray⟩) r0 r1 r2 r3
      rw [hX]
      refine bodyPost_ret (v := .tuple #[.agg #[.slice va ts.length vc, .int .i64 ep, .int .i64 nw, .string ⟨jr.toArray⟩], .bool false]) (by simp [results, Try.results16, go_sem, y0, y1, y2, y3]) rfl ?_
      rw [HR.out]
      have hk := HO3.out.1.kept hg (own_offR HO3.out.1.row (by omega)) (fun y hy => own_offR (HO3.out.1.trees y hy) (by omega))
      exact ⟨_, rfl, va, vc, xs, rfl, HO3.out.2.1, hk.base (by omega), HO3.out.2.2, by rw [hD]; exact HBD.out.grown hg (by have := HBD.out.size; omega) (fun k e => by injection e with e; omega)⟩
    · have HR : Hid (res = ((ts, ep, nw + n, jr), true)) := HV2b.out hbb
      rw [hbb, if_pos rfl] at HT
      clear HV1b HV2b hbb
      go_wp2_with fail
      refine Calls.mono HT.out ?_
      rintro e w4 ⟨rfl, hw4⟩
      have bQ4 := HBQ.out.s2 (.int .i64 (nw + n))
      have hg4 : w3.grownBy w4 (some Q) := by rw [hw4]; exact grown_set _ _ _ _
      rw [← hw4] at bQ4
      have HB4 : Hid (Below W2.heap.size W2 w4) := HB3.out.grown hg4 HB3.out.size (fun k e => by injection e with e; have := HB1.out.size; omega)
      have HO4 : Hid (TksOwn w4 w1.heap.size (.slice va ts.length vc) xs) := HO3.out.1.kept hg4 (by
        rcases h : (Value.slice va ts.length vc).ownBlock with _ | k
        · exact Or.inl rfl
        · exact Or.inr (fun e => by injection e with e; have := HO3l.out k (Or.inl h); omega)) (fun x hx => by
        rcases h : (tvT x).ownBlock with _ | k
        · exact Or.inl rfl
        · exact Or.inr (fun e => by injection e with e; have := HO3l.out k (Or.inr ⟨x, hx, h⟩); omega))
      obtain ⟨_, br, _, hbD⟩ := HD.out w4 HB4.out
      have q0 := bQ4.c0
      have q1 := bQ4.c1
      have q2 := bQ4.c2
      have q3 := bQ4.c3
      have r0 := br.c0
      have r1 := br.c1
      have r2 := br.c2
      have r3 := br.c3
      have f0 := br.fr 0
      have f1 := br.fr 1
      have f2 := br.fr 2
      have f3 := br.fr 3
      have HBD : Hid (Below D w w4) := hbD
      clear hbD br hw4 bQ4 hg4
      go_wp2
      obtain ⟨X, hX, y0, y1, y2, y3, hg⟩ := set4 (.slice va ts.length vc) (.int .i64 ep) (.int .i64 (nw + n)) (.string ⟨jr.toArray⟩) r0 r1 r2 r3
      rw [hX]
      refine bodyPost_ret (v := .tuple #[.agg #[.slice va ts.length vc, .int .i64 ep, .int .i64 (nw + n), .string ⟨jr.toArray⟩], .bool true]) (by simp [results, Try.results16, go_sem, y0, y1, y2, y3]) rfl ?_
      rw [HR.out]
      have hk := HO4.out.kept hg (own_offR HO4.out.row (by omega)) (fun y hy => own_offR (HO4.out.trees y hy) (by omega))
      exact ⟨_, rfl, va, vc, xs, rfl, HO3.out.2.1, hk.base (by omega), HO3.out.2.2, by rw [hD]; exact HBD.out.grown hg (by have := HBD.out.size; omega) (fun k e => by injection e with e; omega)⟩

end Go.Proofs.Ytinojgaekfknkaa

/-! The contracts of chapter 4's landed code: WordOk, Wrap, Done. -/
namespace Go.Proofs.Ytinojgaekfknkaa
open Go.RowKit




end Go.Proofs.Ytinojgaekfknkaa

/-! A scope in which the run jumps to several labels: what holds at every jump to each of them, and a measure that every pass from a label lowers. -/
namespace Go.Proofs.Ytinojgaekfknkaa
open Go.RowKit

/-- As Q; by a goto to label l: J l. -/
def Hops (J : Nat → Act → World → Prop) (Q : Exit → Act → World → Prop) : Exit → Act → World → Prop
  | .goto l, a, w => J l a w
  | e, a, w => Q e a w

theorem hops_goto {J : Nat → Act → World → Prop} {Q : Exit → Act → World → Prop} {l : Nat} {a : Act} {w : World} (h : J l a w) : Hops J Q (.goto l) a w := h
theorem hops_ret {J : Nat → Act → World → Prop} {Q : Exit → Act → World → Prop} {a : Act} {w : World} (h : Q .ret a w) : Hops J Q .ret a w := h

theorem hops_mono {J J' : Nat → Act → World → Prop} {Q : Exit → Act → World → Prop} (h : ∀ l a w, J l a w → J' l a w) : ∀ e a w, Hops J Q e a w → Hops J' Q e a w := by
  intro e a w hq
  cases e with
  | goto l => exact h l a w hq
  | _ => exact hq

/-- At each label what holds there (J), and a measure (μ) that every jump lowers; a run that falls into a label from above goes on as one that jumped there. -/
theorem wp_scope_hops {P : Program} {a : Act} {w : World} {Q : Exit → Act → World → Prop} {c : Go.Code} (J : Nat → Act → World → Prop) (μ : Nat → Act → World → Nat)
    (pass : ∀ l a w, J l a w → (∀ l' a' w', J l' a' w' → μ l' a' w' < μ l a w → ∀ R, findLabel c l' = some (.seq .skip R) → R.wp P (Hops (fun l₂ a₂ w₂ => J l₂ a₂ w₂ ∧ μ l₂ a₂ w₂ < μ l a w) Q) a' w') →
      ∃ R, findLabel c l = some (.seq .skip R) ∧ R.wp P (Hops (fun l' a' w' => J l' a' w' ∧ μ l' a' w' < μ l a w) Q) a w)
    (first : (∀ l a w, J l a w → ∀ R, findLabel c l = some (.seq .skip R) → R.wp P (Hops J Q) a w) → c.wp P (Hops J Q) a w) : (Code.scope c).wp P Q a w := by
  have all : ∀ n l a w, μ l a w = n → J l a w → ∃ R, findLabel c l = some (.seq .skip R) ∧ R.wp P (Hops (fun l' a' w' => J l' a' w' ∧ μ l' a' w' < μ l a w) Q) a w := by
    intro n
    induction n using Nat.strongRecOn with
    | _ n ih =>
      intro l a w hn hJ
      refine pass l a w hJ fun l' a' w' hJ' hlt R hf => ?_
      obtain ⟨R', hf', hw⟩ := ih _ (by omega) l' a' w' rfl hJ'
      rw [hf] at hf'
      cases hf'
      exact wp_mono hw (hops_mono fun l₂ a₂ w₂ h => ⟨h.1, Nat.lt_trans h.2 hlt⟩)
  intro b k cs
  have key : ∀ n l a w, μ l a w = n → J l a w → ∃ rest, findLabel c l = some rest ∧ ∃ e a' w', Q e a' w' ∧ Arrives P (lone (b.at a (.code rest :: .inScope c :: k)) cs w) b k cs e a' w' := by
    intro n
    induction n using Nat.strongRecOn with
    | _ n ih =>
      intro l a w hn hJ
      obtain ⟨R, hf, hR⟩ := all _ l a w rfl hJ
      have hp : (Code.seq .skip R).wp P (Hops (fun l' a' w' => J l' a' w' ∧ μ l' a' w' < μ l a w) Q) a w := wp_seq (wp_skip hR)
      refine ⟨_, hf, ?_⟩
      obtain ⟨e, a₁, w₁, hq, harr⟩ := hp b (.inScope c :: k) cs
      cases e with
      | normal => exact ⟨.normal, a₁, w₁, hq, Steps.trans harr (.one step_inScope)⟩
      | exit id => exact ⟨.exit id, a₁, w₁, hq, fun k' hk => harr k' (by simp [exitTo, hk])⟩
      | goto l' =>
        obtain ⟨hJ', hlt⟩ := hq
        obtain ⟨rest', hf', e₂, a₂, w₂, hq₂, harr₂⟩ := ih _ (by omega) l' a₁ w₁ rfl hJ'
        exact ⟨e₂, a₂, w₂, hq₂, .of_steps (harr _ (by simp [gotoIn, hf'])) harr₂⟩
      | ret => exact ⟨_, a₁, w₁, hq, harr⟩
      | panic ch => exact ⟨_, a₁, w₁, hq, harr⟩
      | outgrown => exact ⟨_, a₁, w₁, hq, harr⟩
  have first' := first fun l a w hJ R hf => by
    obtain ⟨R', hf', hw⟩ := all _ l a w rfl hJ
    rw [hf] at hf'
    cases hf'
    exact wp_mono hw (hops_mono fun l₂ a₂ w₂ h => h.1)
  obtain ⟨e, a₁, w₁, hq, harr⟩ := first' b (.inScope c :: k) cs
  cases e with
  | normal => exact ⟨.normal, a₁, w₁, hq, .head step_scope (Steps.trans harr (.one step_inScope))⟩
  | exit id => exact ⟨.exit id, a₁, w₁, hq, fun k' hk => .head step_scope (harr k' (by simp [exitTo, hk]))⟩
  | goto l' =>
    obtain ⟨rest', hf', e₂, a₂, w₂, hq₂, harr₂⟩ := key _ l' a₁ w₁ rfl hq
    exact ⟨e₂, a₂, w₂, hq₂, .of_steps (.head step_scope (harr _ (by simp [gotoIn, hf']))) harr₂⟩
  | ret => exact ⟨_, a₁, w₁, hq, .of_steps (.one step_scope) harr⟩
  | panic ch => exact ⟨_, a₁, w₁, hq, .of_steps (.one step_scope) harr⟩
  | outgrown => exact ⟨_, a₁, w₁, hq, .of_steps (.one step_scope) harr⟩

end Go.Proofs.Ytinojgaekfknkaa

/-! The contract of strings.Clone: the same bytes, in memory of their own. -/
namespace Go.Proofs.Ytinojgaekfknkaa
open Go.RowKit

theorem infoByte : (Try.prog.info? 5).map (fun i => (i.zero, i.size, i.bytes)) = some (some (.int .u8 0), 1, 1) := by kernel_rfl

set_option maxHeartbeats 4000000 in
set_option maxRecDepth 100000 in
theorem liteClone (s : ByteArray) (w : World) (hlim : s.size ≤ 281474976710656) :
    Calls Try.prog 65 #[.string s] w fun e w' => e = .returned (.string s) ∧ Below w.heap.size w w' := by
  by_cases h0 : s.size = 0
  · have hs : s = ⟨#[]⟩ := by
      apply ByteArray.ext
      exact Array.eq_empty_of_size_eq_zero h0
    subst hs
    go_enter Try.func65, Try.ntmps65
    go_wp2
    go_ret
    exact ⟨rfl, Below.refl _ _⟩
  · obtain ⟨i0, hi, hz0, hz1, hz2⟩ := info_parts infoByte
    have hinfo : (Try.prog.info? 5).map (·.size) = some 1 := by rw [hi]; simp [hz1]
    have hco : Try.prog.cellsOf 5 = 1 := by simp [Program.cellsOf, hi, hz1]
    obtain ⟨M, hM⟩ : ∃ M, M = madeCells (Value.int .u8 0).cells (((s.size : Nat) : Int).toNat * i0.size) := ⟨_, rfl⟩
    have hMs : M.size = s.size := by rw [hM, size_madeCells, hz1]; simp
    have hmk : ∀ W : World, (Instr.makeSlice 76 (.int .i64 (s.size : Int)) (.int .i64 (s.size : Int))).run Try.prog W = .ok (.slice (some ⟨W.heap.size, 0, none⟩) s.size s.size) (W.alloc (.cells M 5)) := fun W => by
      have h := run_make (P := Try.prog) W 76 5 i0 (.int .u8 0) Try.underlying76 hi hz0 .i64 .i64 (s.size : Int) (s.size : Int) (by omega) (by omega) (by rw [hz2]; omega) (by omega)
      rw [← hM] at h
      simpa using h
    clear hM
    have hcp := Lib.run_copy_row_string (P := Try.prog) (w.alloc (.cells M 5)) 76 9 3 5 w.heap.size 0 s.size s.size s M 5 Try.underlying76 hinfo (heap_alloc_new w _) (Nat.le_refl _) (by omega)
    obtain ⟨Y, hY⟩ : ∃ Y, Y = (M.toList.take 0 ++ Lib.byteCells s.data.toList ++ M.toList.drop (0 + s.size)).toArray := ⟨_, rfl⟩
    rw [← hY] at hcp
    have hYl : Y.toList = Lib.byteCells s.data.toList := by
      rw [hY, List.toList_toArray, List.take_zero, List.nil_append, List.drop_of_length_le (by rw [Array.length_toList]; omega), List.append_nil]
    have hYs : Y.size = s.size := by rw [← Array.length_toList, hYl, Lib.byteCells_length, ← Lib.size_eq]
    have hgY : ((w.alloc (.cells M 5)).setRow w.heap.size Y).heap[w.heap.size]? = some (.cells Y 5 (0, 0)) := setRow_heap _ _ M _ 5 (0, 0) (heap_alloc_new w _)
    have hne : s.data.toList ≠ [] := fun e => h0 (by rw [Lib.size_eq, e]; rfl)
    have hUS := Lib.run_unsafeString_row (P := Try.prog) ((w.alloc (.cells M 5)).setRow w.heap.size Y) 78 3 9 5 Try.underlying78 hco w.heap.size Y.size (by unfold World.shape?; rw [hgY]) s.data.toList hne (by rw [← Lib.size_eq]; omega) (by rw [← Lib.size_eq]; omega)
      (fun j x hx => Lib.cells_of_row hgY Y.size j _ (by rw [List.take_of_length_le (by rw [Array.length_toList]; exact Nat.le_refl _), hYl]; simp [Lib.byteCells, hx]))
    rw [← Lib.size_eq] at hUS
    clear hY
    go_enter Try.func65, Try.ntmps65
    go_wp2
    go_ret
    have hb1 : Below w.heap.size w (w.alloc (.cells M 5)) := (Below.refl _ w).alloc (Nat.le_refl _) _
    have hb2 : Below w.heap.size (w.alloc (.cells M 5)) ((w.alloc (.cells M 5)).setRow w.heap.size Y) := ⟨rfl, rfl, rfl, by simp, fun k hk => setRow_other _ _ _ _ (by omega)⟩
    exact ⟨rfl, Lib.below_freeze (hb1.trans hb2) (p := ⟨w.heap.size, 0, none⟩) (Nat.le_refl _) _⟩

set_option maxHeartbeats 400000 in
set_option maxRecDepth 100000 in
theorem stringsClone (l : List UInt8) (w : World) (hl : l.length ≤ 1048576) :
    Calls Try.prog 53 #[.string ⟨l.toArray⟩] w fun e w' => e = .returned (.string ⟨l.toArray⟩) ∧ Below w.heap.size w w' := by
  go_enter Try.func53, Try.ntmps53
  go_wp2_with fail
  refine (liteClone ⟨l.toArray⟩ _ (by have : (⟨l.toArray⟩ : ByteArray).size = l.length := List.size_toArray; omega)).mono ?_
  rintro e w1 ⟨rfl, hb⟩
  go_wp2
  go_ret
  exact ⟨rfl, hb⟩

end Go.Proofs.Ytinojgaekfknkaa

/-! The contracts of chapter 5's landed code: the pieces between marks (labels and gotos), Lines, Words, NameOk, NumberOf. -/
namespace Go.Proofs.Ytinojgaekfknkaa
open Go.RowKit




set_option maxHeartbeats 1000000 in
set_option maxRecDepth 100000 in
theorem implNameOkS (l : List UInt8) (w : World) (hl : l.length ≤ 1048576) :
    Calls Try.prog 44 #[.string ⟨l.toArray⟩] w fun e w' => e = .returned (.bool (nameB l)) ∧ w' = w := by
  go_enter Try.func44, Try.ntmps44
  go_wp2
  go_loop [6] (fun ix => ∃ k : Nat, k ≤ l.length ∧ ix = .int .i64 k ∧ Hid (∀ j (hj : j < l.length), j < k → 97 ≤ l[j].toNat ∧ l[j].toNat ≤ 122)) (fun ix => l.length - (intOf ix).toNat)
  case atStart => exact ⟨0, Nat.zero_le _, rfl, (fun j _ h => by omega : ∀ j (hj : j < l.length), j < 0 → _)⟩
  case round =>
    obtain ⟨k, hk, rfl, HK⟩ := hrel
    by_cases hkl : (k : Int) < (l.length : Int)
    · have hk2 : k < l.length := by omega
      obtain ⟨x, hx⟩ : ∃ x : UInt8, l[k] = x := ⟨_, rfl⟩
      have hxb : (⟨l.toArray⟩ : ByteArray)[k]'(by show k < l.toArray.size; simpa using hk2) = x := hx
      by_cases h1 : (x.toNat : Int) < 97
      · have HF : Hid (nameB l = false) := name_bad l k hk2 (by rw [hx]; omega)
        clear hx
        go_wp2
        go_ret
        exact ⟨by rw [HF.out]; rfl, rfl⟩
      · by_cases h2 : 122 < (x.toNat : Int)
        · have HF : Hid (nameB l = false) := name_bad l k hk2 (by rw [hx]; omega)
          clear hx
          go_wp2
          go_ret
          exact ⟨by rw [HF.out]; rfl, rfl⟩
        · have HS : Hid (∀ j (hj : j < l.length), j < k + 1 → 97 ≤ l[j].toNat ∧ l[j].toNat ≤ 122) := fun j hj hjk => by
            by_cases e : j = k
            · subst e; rw [hx]; omega
            · exact HK.out j hj (by omega)
          clear hx
          go_wp2
          go_round
          case rel => exact ⟨k + 1, by omega, by go_num, HS⟩
          case measure => simp [intOf]; omega
    · have HF : Hid (nameB l = inB (l.length : Int) 1 8) := name_good l (fun j hj => HK.out j hj (by omega))
      by_cases h1 : 1 ≤ (l.length : Int)
      · by_cases h2 : (l.length : Int) ≤ 8
        · have HB : Hid (inB (l.length : Int) 1 8 = true) := inB_yes _ _ _ h1 h2
          go_wp2
          go_ret
          exact ⟨by rw [HF.out, HB.out]; rfl, rfl⟩
        · have HB : Hid (inB (l.length : Int) 1 8 = false) := inB_no _ _ _ (by omega)
          go_wp2
          go_ret
          exact ⟨by rw [HF.out, HB.out]; rfl, rfl⟩
      · have HB : Hid (inB (l.length : Int) 1 8 = false) := inB_no _ _ _ (by omega)
        go_wp2
        go_ret
        exact ⟨by rw [HF.out, HB.out]; rfl, rfl⟩

theorem implNameOk (l : List UInt8) (w : World) (hl : l.length ≤ 1048576) :
    Calls Try.prog 44 #[.string ⟨l.toArray⟩] w fun e w' => e = .returned (.bool (nameB l)) ∧ Below w.heap.size w w' :=
  (implNameOkS l w hl).mono fun _ _ h => ⟨h.1, by rw [h.2]; exact Below.refl _ _⟩



end Go.Proofs.Ytinojgaekfknkaa
