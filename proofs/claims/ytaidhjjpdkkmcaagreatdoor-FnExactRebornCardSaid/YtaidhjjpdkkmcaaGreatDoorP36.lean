/-
  Parts of one proof, one behind the other: Math2G, FramesS, FramesI.
-/
import Derived.Test.YtaidhjjpdkkmcaaGreatDoorP35
import Derived.Test.YtaidhjjpdkkmcaaGreatDoorP28
import Derived.Test.YtaidhjjpdkkmcaaGreatDoorP1
import Derived.Test.YtaidhjjpdkkmcaaGreatDoorP33
import Derived.Test.YtaidhjjpdkkmcaaGreatDoorP4
import Derived.RangeFuncNested
import Derived.RangeFuncBound
import Derived.RangeFuncCalls
import Derived.RangeFuncLeaves
import Derived.RangeFuncBox
import Derived.Shelf.Abstract
import Derived.Shelf.RegionOpen
import Derived.WalkKit
import Derived.OwnWalkIn
import Derived.TacticsInMore
import Derived.LoopNIn
import Derived.LoopIn
import Derived.Maps.AppendAt

/-! Plain facts for Frames: frames one right behind the other. -/
namespace Go.Proofs.YtaidhjjpdkkmcaaGreatDoor

def framesGo : Nat → List UInt8 → List (List UInt8)
 | 0, _ => []
 | k + 1, l => if firstB l = true then firstT l :: framesGo k (l.drop (16 + (firstT l).length)) else []

def framesU : List (List UInt8) → Nat
 | [] => 0
 | t :: r => 16 + t.length + framesU r

def framesL (l : List UInt8) : List (List UInt8) := framesGo 400 l

theorem framesGo_no (k : Nat) (l : List UInt8) (h : firstB l = false) : framesGo k l = [] := by
 cases k with
 | zero => rfl
 | succ k => unfold framesGo; rw [h]; rfl

theorem framesGo_yes (k : Nat) (l : List UInt8) (h : firstB l = true) : framesGo (k + 1) l = firstT l :: framesGo k (l.drop (16 + (firstT l).length)) := by
 conv => lhs; unfold framesGo
 rw [if_pos h]

theorem framesU_snoc (o : List (List UInt8)) (t : List UInt8) : framesU (o ++ [t]) = framesU o + (16 + t.length) := by
 induction o with
 | nil => simp [framesU]
 | cons a r ih => simp only [List.cons_append, framesU, ih]; omega

theorem first_fits (t : List UInt8) (h : firstB t = true) : 16 + (firstT t).length ≤ t.length := by
 have hf := first_is t h
 have e := congrArg List.length hf.2.2
 rw [List.length_append, framedL_len] at e
 omega

/-- One round of the loop. -/
theorem frames_step (l : List UInt8) (o : List (List UInt8)) (u : Nat) (ho : o.length < 400) (hu : u = framesU o) (hle : u ≤ l.length) (h : o ++ framesGo (400 - o.length) (l.drop u) = framesL l) (hb : firstB (l.drop u) = true) :
 (o ++ [firstT (l.drop u)]) ++ framesGo (400 - (o ++ [firstT (l.drop u)]).length) (l.drop (u + (16 + (firstT (l.drop u)).length))) = framesL l ∧ u + (16 + (firstT (l.drop u)).length) = framesU (o ++ [firstT (l.drop u)]) ∧ u + (16 + (firstT (l.drop u)).length) ≤ l.length := by
 have hfit := first_fits _ hb
 rw [List.length_drop] at hfit
 refine ⟨?_, by rw [framesU_snoc, ← hu], by omega⟩
 rw [← h, List.append_assoc, List.length_append, List.length_singleton]
 obtain ⟨k, hk⟩ : ∃ k, 400 - o.length = k + 1 := ⟨400 - o.length - 1, by omega⟩
 rw [hk, framesGo_yes k _ hb, List.drop_drop, show 400 - (o.length + 1) = k by omega]
 rfl

theorem framesGo_len (k : Nat) (l : List UInt8) : (framesGo k l).length ≤ k := by
 induction k generalizing l with
 | zero => exact Nat.le_refl _
 | succ k ih =>
  unfold framesGo
  split
  ·
   rw [List.length_cons]; have := ih (l.drop (16 + (firstT l).length)); omega
  ·
   exact Nat.zero_le _
theorem framesL_len (l : List UInt8) : (framesL l).length ≤ 400 := framesGo_len 400 l

end Go.Proofs.YtaidhjjpdkkmcaaGreatDoor

/-! The contract of spec.Frames. -/
namespace Go.Proofs.YtaidhjjpdkkmcaaGreatDoor
open Go.RowKit

theorem specFirstX (l t : List UInt8) (n : Int) (b : Bool) (w : World) (hl : l.length ≤ 1048576) (ht : firstT l = t) (hn : firstN l = n) (hb : firstB l = b) :
 Calls Tryz.prog 36 #[.string ⟨l.toArray⟩] w fun e w' => e = .returned (.tuple #[.string ⟨t.toArray⟩, .int .i64 n, .bool b]) ∧ w' = w := by
 subst ht hn hb; exact specFirst l w hl

set_option maxHeartbeats 2000000 in
set_option maxRecDepth 100000 in
theorem specFrames (l : List UInt8) (w : World) (hl : l.length ≤ 1048576) :
 Calls Tryz.prog 15 #[.string ⟨l.toArray⟩] w fun e w' => ∃ v, e = .returned (.tuple #[v, .int .i64 (framesU (framesL l) : Nat)]) ∧ w'.ownsRow w.heap.size 9 1 v (framesL l).length (strV (framesL l)) ∧ v ≠ .slice none 0 0 ∧ Below w.heap.size w w' := by
 obtain ⟨i0, hi, hz0, hz1, hz2⟩ := info_parts info9
 have hext := ext_list
 have htk : ∀ u, List.take (l.length - u) (List.drop u l) = List.drop u l := fun u => List.take_of_length_le (by rw [List.length_drop]; omega)
 have hown0 := (World.ownsRow_lit (base := w.heap.size) (e := 9) (size := 1) w #[] 0 (Nat.le_refl _) (by decide) rfl)
 go_enter Tryz.func15, Tryz.ntmps15
 go_wp2_with fail
 go_loopw [4, 5] (fun v i wr => ∃ o : List (List UInt8), ∃ u cp g : Nat, o.length ≤ 400 ∧ u = framesU o ∧ u ≤ l.length ∧ o ++ framesGo (400 - o.length) (l.drop u) = framesL l ∧ i = .int .i64 u ∧ v = .slice (some ⟨g, 0, none⟩) o.length cp ∧ wr.ownsRow w.heap.size 9 1 v o.length (strV o) ∧ Below w.heap.size w wr) (fun v _ _ => 400 - (match v with | .slice _ n _ => n | _ => 0))
 case atStart => exact ⟨[], 0, 0, w.heap.size, by simp, rfl, Nat.zero_le _, by simp [framesL], rfl, rfl, hown0, (Below.refl _ _).alloc (Nat.le_refl _) _⟩
 case round =>
  obtain ⟨o, u, cp, g, ho, hu, hle, hgo, rfl, rfl, hown, hb⟩ := hrel
  clear hown0
  have HU : Hid (u = framesU o) := hu
  have HG : Hid (o ++ framesGo (400 - o.length) (l.drop u) = framesL l) := hgo
  clear hu hgo
  by_cases hlt : (o.length : Int) < 400
  ·
   have hdl : (l.drop u).length ≤ 1048576 := by rw [List.length_drop]; omega
   have hul : (u : Int) ≤ (l.length : Int) := by omega
   rcases hbb : firstB (l.drop u) with _ | _
   ·
    have HF : Hid (o = framesL l) := by
     have := HG.out
     rw [framesGo_no _ _ hbb, List.append_nil] at this
     exact this
    have hfn := firstB_no (l.drop u) (of_decide_eq_false hbb)
    have HX : Hid (firstT (l.drop u) = [] ∧ firstN (l.drop u) = 0 ∧ firstB (l.drop u) = false) := hfn
    clear hfn hbb
    go_wp2_with fail
    refine (specFirstX (l.drop u) [] 0 false _ hdl HX.out.1 HX.out.2.1 HX.out.2.2).mono ?_
    rintro e w1 ⟨rfl, rfl⟩
    go_wp2
    go_ret2
    refine ⟨.slice (some ⟨g, 0, none⟩) o.length cp, ?_, ?_, ?_, hb⟩
    ·
     rw [← HF.out, ← HU.out]; rfl
    ·
     rw [← HF.out]; exact hown
    ·
     intro e; cases e
   ·
    have hst := frames_step l o u (by omega) HU.out hle HG.out hbb
    obtain ⟨t, ht⟩ : ∃ t, firstT (l.drop u) = t := ⟨_, rfl⟩
    have hN := (first_is (l.drop u) hbb).2.1
    rw [ht] at hst hN
    have HX : Hid (firstT (l.drop u) = t ∧ firstN (l.drop u) = 16 + (t.length : Int) ∧ firstB (l.drop u) = true) := ⟨ht, hN, hbb⟩
    have HS : Hid (o ++ [t] ++ framesGo (400 - (o ++ [t]).length) (l.drop (u + (16 + t.length))) = framesL l ∧ u + (16 + t.length) = framesU (o ++ [t])) := ⟨hst.1, hst.2.1⟩
    have hfit := hst.2.2
    clear hst ht hN hbb
    go_wp2_with fail
    refine (specFirstX (l.drop u) t (16 + (t.length : Int)) true _ hdl HX.out.1 HX.out.2.1 HX.out.2.2).mono ?_
    rintro e w1 ⟨rfl, rfl⟩
    go_wp2_with (at_builtin; refine wpList_append_own _ rfl _ _ 37 rfl w.heap.size 9 i0 (.string ⟨#[]⟩) 1 16 Tryz.underlying37 hi hz0 hz1 hz2 rfl (by decide) _ _ _ rfl (hown.alloc _) ⟨w1.heap.size, 0, none⟩ 1 1 [.string ⟨t.toArray⟩] rfl rfl ?c1 ?c2 ?c3 ?c4 ?c5 ?_)
    case c1 => exact cell_one_new _ _ _
    case c2 => first | rfl | (intro u hu; simp at hu; subst hu; rfl)
    case c3 => unfold maxLen; omega
    case c4 => omega
    case c5 => have := hb.size; simp; omega
    intro v' w3 hown3 hgrow3 hnil3
    have hown4 := own_str hown3
    have hv' : v' ≠ .slice none 0 0 := hnil3
    obtain ⟨g', cp', hv⟩ := own_shape hown4 hv'
    have hb3 : Below w.heap.size w w3 := (hb.alloc hb.size _).grown hgrow3 (by have := hb.size; simp; omega) (fun k e => (hown.lt k e).1)
    clear hown3 hgrow3 hnil3 hown hb hv'
    go_wp2
    go_roundw
    case rel => exact ⟨o ++ [t], u + (16 + t.length), cp', g', by rw [List.length_append, List.length_singleton]; omega, HS.out.2, hfit, HS.out.1, by go_num, hv, hown4, hb3⟩
    case measure => rw [hv, List.length_append, List.length_singleton]; simp; omega
  ·
   have HF : Hid (o = framesL l) := by
    have := HG.out
    rw [show 400 - o.length = 0 by omega] at this
    exact (by simpa [framesGo] using this : o = framesL l)
   go_wp2
   go_ret2
   refine ⟨.slice (some ⟨g, 0, none⟩) o.length cp, ?_, ?_, ?_, hb⟩
   ·
    rw [← HF.out, ← HU.out]; rfl
   ·
    rw [← HF.out]; exact hown
   ·
    intro e; cases e

end Go.Proofs.YtaidhjjpdkkmcaaGreatDoor

/-! The contract of impl.Frames: the frames are gone through by a range over a function. -/
namespace Go.Proofs.YtaidhjjpdkkmcaaGreatDoor
open Go.RowKit Go.Shelf

attribute [local go_sem] Oper.semAt_some

/-- A text that is no longer than a frame's may be. -/
abbrev Txt := { t : List UInt8 // t.length ≤ 20000 }

def txts (xs : List Txt) : List (List UInt8) := xs.map (·.1)

theorem txts_snoc (xs : List Txt) (x : Txt) : txts (xs ++ [x]) = txts xs ++ [x.1] := by simp [txts]
theorem txts_len (xs : List Txt) : (txts xs).length = xs.length := by simp [txts]

/-- More fuel: the same, and maybe more. -/
theorem framesGo_take : ∀ (j k : Nat) (l : List UInt8), j ≤ k → framesGo j l = (framesGo k l).take j
 | 0, _, _, _ => by simp [framesGo]
 | j + 1, 0, _, h => absurd h (by omega)
 | j + 1, k + 1, l, h => by
  unfold framesGo
  by_cases hb : firstB l = true
  ·
   rw [if_pos hb, if_pos hb, List.take_succ_cons, framesGo_take j k _ (by omega)]
  ·
   rw [if_neg hb, if_neg hb, List.take_nil]

theorem framesU_bd : ∀ xs : List Txt, framesU (txts xs) ≤ xs.length * 20016
 | [] => by simp [txts, framesU]
 | x :: xs => by
  have h := framesU_bd xs
  have hx := x.2
  have e : framesU (txts (x :: xs)) = 16 + x.1.length + framesU (txts xs) := rfl
  rw [e, List.length_cons]
  omega

set_option maxHeartbeats 1000000 in
set_option maxRecDepth 100000 in
/-- wholeAhead: the text is boxed; the function value captures the box. -/
theorem wholeAhead (l : List UInt8) (n : Nat) (w : World) :
 CallsIn Fence.wide n Tryz.prog 52 #[.string ⟨l.toArray⟩] w fun e w' => e = .returned (.func (.func 83) #[] #[.pointer (some ⟨w.heap.size, 0, none⟩)]) ∧ w' = w.alloc (.cells #[.string ⟨l.toArray⟩] 9) := by
 refine callsIn_of_wp Tryz.func52 rfl trivial ?_ rfl
 simp only [Tryz.ntmps52, List.size_toArray, List.length_cons, List.length_nil, Nat.reduceAdd, Nat.reduceSub, Array.replicate_succ, Array.replicate_zero, List.push_toArray, List.append_toArray, List.nil_append, List.cons_append]
 gi_wp2
 go_ret
 exact ⟨rfl, rfl⟩

/-- One round of the iterator. -/
theorem whole_step (K : Nat) (l r : List UInt8) (pre : List Txt) (hlen : pre.length + r.length < K) (hgo : txts pre ++ framesGo (K - pre.length) r = framesGo K l) (hb : firstB r = true) :
 (firstT r).length ≤ 20000 ∧ 16 + (firstT r).length ≤ r.length ∧ ∀ x : Txt, x.1 = firstT r → txts (pre ++ [x]) ++ framesGo (K - (pre ++ [x]).length) (r.drop (16 + (firstT r).length)) = framesGo K l := by
 refine ⟨(first_is r hb).1, first_fits r hb, fun x hx => ?_⟩
 rw [txts_snoc, hx, List.length_append, List.length_singleton, ← hgo, show K - pre.length = (K - (pre.length + 1)) + 1 by omega, framesGo_yes _ _ hb, List.append_assoc, List.singleton_append]

set_option maxRecDepth 100000 in
set_option maxHeartbeats 2000000 in
set_option maxRecDepth 100000 in
theorem whole1 (n l Bn K : Nat) (h1 : 1 ≤ n) (s : List UInt8) (hs : s.length ≤ 1048576) (hK : s.length < K) (n₀ : Nat) (J Jx : List Txt → World → Prop)
 (hY : ∀ pre x W, J pre W → pre.length < K → YieldAt Fence.wide (n - 1) Tryz.prog l #[.string ⟨x.1.toArray⟩] W fun e W' =>
  (e = .returned (.bool true) ∧ J (pre ++ [x]) W' ∧ Below n₀ W W') ∨ (e = .returned (.bool false) ∧ Jx (pre ++ [x]) W'))
 (W : World) (hBn : W.cell? ⟨Bn, 0, none⟩ = some (.string ⟨s.toArray⟩)) (h0 : J [] W) :
 CallsIn Fence.wide n Tryz.prog 83 #[.func (.yield l) #[] #[], .pointer (some ⟨Bn, 0, none⟩)] W fun e W' => (∃ v, e = .returned v) ∧
  ((∃ ys, txts ys = framesGo K s ∧ J ys W') ∨ (∃ pre, txts pre <+: framesGo K s ∧ Jx pre W')) := by
 have hext := ext_list
 refine callsIn_of_wp Tryz.func83 rfl trivial ?_ rfl
 simp only [Tryz.ntmps83, List.size_toArray, List.length_cons, List.length_nil, Nat.reduceAdd, Nat.reduceSub, Array.replicate_succ, Array.replicate_zero, List.push_toArray, List.append_toArray, List.nil_append, List.cons_append]
 gi_wp2
 gi_loopw [3] (fun p wr => ∃ (pre : List Txt) (r : List UInt8), p = .string ⟨r.toArray⟩ ∧ r.length ≤ s.length ∧ pre.length + r.length < K ∧ txts pre ++ framesGo (K - pre.length) r = framesGo K s ∧ J pre wr)
  (fun p _ => match p with | .string b => b.size | _ => 0)
 case atStart => exact ⟨[], s, rfl, Nat.le_refl _, by simpa using hK, by simp [txts], h0⟩
 case round =>
  obtain ⟨pre, r, rfl, hrl, hlen, hgo, hJs⟩ := hrel
  have HG : Hid (txts pre ++ framesGo (K - pre.length) r = framesGo K s) := hgo
  clear hgo
  have hr1 : r.length ≤ 1048576 := by omega
  rcases hbb : firstB r with _ | _
  ·
   have HX : Hid (firstT r = [] ∧ firstB r = false) := ⟨(firstB_no r (of_decide_eq_false hbb)).1, hbb⟩
   have HE : Hid (txts pre = framesGo K s) := by
    have := HG.out
    rw [framesGo_no _ _ hbb, List.append_nil] at this
    exact this
   clear hbb
   gi_wp2_with (refine ⟨trivial, ?_⟩; gi_at_call 84; refine (callsIn_wide.2 (implAheadX r [] false _ hr1 HX.out.1 HX.out.2)).mono ?_; rintro e w1 ⟨rfl, rfl⟩)
   refine ⟨fun _ h => (by cases h), ?_⟩
   gi_wp2
   refine bodyPost_ret (results_none rfl _ _ _) rfl ?_
   exact ⟨⟨_, rfl⟩, .inl ⟨pre, HE.out, hJs⟩⟩
  ·
   obtain ⟨hT, hfit, hst⟩ := whole_step K s r pre hlen HG.out hbb
   obtain ⟨x, hx⟩ : ∃ x : Txt, x.1 = firstT r := ⟨⟨firstT r, hT⟩, rfl⟩
   have HS : Hid (txts (pre ++ [x]) ++ framesGo (K - (pre ++ [x]).length) (r.drop (16 + x.1.length)) = framesGo K s) := by
    have := hst x hx
    rw [← hx] at this
    exact this
   rw [← hx] at hfit hT
   have HX : Hid (firstT r = x.1 ∧ firstB r = true) := ⟨hx.symm, hbb⟩
   clear hst hx hbb
   have hfit2 : 16 + (x.1.length : Int) ≤ (r.length : Int) := by omega
   have htk : List.take (r.length - (16 + x.1.length)) (List.drop (16 + x.1.length) r) = List.drop (16 + x.1.length) r := List.take_of_length_le (by rw [List.length_drop]; omega)
   obtain ⟨fn, tmps, assign, body, hy, hR⟩ := hY pre x wr hJs (by omega)
   gi_wp2_with (refine ⟨trivial, ?_⟩; gi_at_call 84; refine (callsIn_wide.2 (implAheadX r x.1 true _ hr1 HX.out.1 HX.out.2)).mono ?_; rintro e w1 ⟨rfl, rfl⟩)
   refine hR.mono ?_
   rintro e W3 (⟨rfl, hJ3, hk3⟩ | ⟨rfl, hJx3⟩)
   ·
    gi_wp2
    refine ⟨⟨pre ++ [x], r.drop (16 + x.1.length), by rw [htk], by rw [List.length_drop]; omega, by rw [List.length_drop, List.length_append, List.length_singleton]; omega, HS.out, hJ3⟩, ?_⟩
    rw [htk]
    show (List.drop (16 + x.1.length) r).toArray.size < r.toArray.size
    rw [List.size_toArray, List.size_toArray, List.length_drop]
    omega
   ·
    gi_wp2
    refine bodyPost_ret (results_none rfl _ _ _) rfl ?_
    refine ⟨⟨_, rfl⟩, .inr ⟨pre ++ [x], ?_, hJx3⟩⟩
    rw [← HS.out]
    exact List.prefix_append _ _

theorem whole_stops (n Bn K : Nat) (h1 : 1 ≤ n) (s : List UInt8) (hs : s.length ≤ 1048576) (hK : s.length < K) (n₀ : Nat) (w : World) (hBn : Bn < w.heap.size) (hc : w.cell? ⟨Bn, 0, none⟩ = some (.string ⟨s.toArray⟩)) :
 SeqStopsK Fence.wide n Tryz.prog 83 #[.pointer (some ⟨Bn, 0, none⟩)] (fun x : Txt => #[Value.string ⟨x.1.toArray⟩]) (Below n₀) (fun ys => txts ys = framesGo K s) (fun pre => txts pre <+: framesGo K s) K w := fun l J Jx W hW _ _ hY h0 =>
 whole1 n l Bn K h1 s hs hK n₀ J Jx hY W ((hW.cell (p := ⟨Bn, 0, none⟩) hBn).trans hc) h0

/-- 'append' at a step of a region that draws, inside a fence. -/
theorem stepIn_append {F : Fence} {n : Nat} {P : Program} {w w' : World} {ops : Array Oper} {o : Oper} {a : Act} {K : Act → World → Prop} {Q : Exit → Act → World → Prop} {E : Prop} (hgd : o.guard = none) (s x : Operand) (t : TypeId)
 (hop : o.op = .call { callee := .builtin .append, args := #[s, x], argTypes := #[t, t] }) (v u v' : Value) (hs : a.eval s = v) (hx : a.eval x = u)
 (hrun : (Builtin.append_ #[t, t] o.type #[v, u]).run P w = .ok v' w') (h : K (a.put o.dst v') w') :
 if Region.wanted o (yielded ops a.tmps) = true then Oper.wpIn F n P o a w K Q else E := by
 have hw : Region.wanted o (yielded ops a.tmps) = true := by simp [Region.wanted, hgd]
 rw [if_pos hw]
 unfold Oper.wpIn
 refine ⟨?_, ?_⟩
 ·
  simp [Oper.about, hop, resolve, Target.leads, Sem.run_pure]
 ·
  rw [Oper.semAt_plain F _ _ (by rw [hop]; intro c hc'; cases hc')]
  simp [execOp, hop, resolve, invoke, builtin, hs, hx, hrun, Result.andThen]
  exact h

theorem row_past {W w1 : World} {h n g k cp : Nat} {xs : List Value} (hrow : W.ownsRow h 9 1 (.slice (some ⟨g, 0, none⟩) k cp) n xs) (hb : Below W.drew.heap.size W.drew w1) : w1.ownsRow h 9 1 (.slice (some ⟨g, 0, none⟩) k cp) n xs :=
 World.ownsRow.kept (show W.drew.ownsRow h 9 1 (.slice (some ⟨g, 0, none⟩) k cp) n xs from hrow) (Below.by hb) (.inr (by simp [Value.ownBlock]))

theorem box_past {W w1 : World} {B : Nat} {t : TypeId} {v : Value} (hv : Boxed W B t v) (hb : Below W.drew.heap.size W.drew w1) : Boxed w1 B t v := (hb.block B hv.lt).trans hv

theorem round_end {W X : World} {h B g k cp : Nat} {pre : List Txt} {x : Txt} {u : Value} (hkk : KeepsOthers W X) (hbb : Below h W X) (hv : Boxed X (h + 1) 37 (.slice (some ⟨g, 0, none⟩) k cp)) (hu : Boxed X (h + 1 + 1) 3 u)
 (hr : X.ownsRow h 9 1 (.slice (some ⟨g, 0, none⟩) k cp) (txts pre ++ [x.1]).length (strV (txts pre ++ [x.1]))) (Y : World) (hY : Y = X.setCell ⟨h + 1 + 1, 0, none⟩ (.int .i64 ((framesU (txts pre) : Int) + (16 + (x.1.length : Int))))) :
 KeepsFrom B W Y ∧ Below h W Y ∧ (∃ v, Boxed Y (h + 1) 37 v ∧ Y.ownsRow h 9 1 v (txts (pre ++ [x])).length (strV (txts (pre ++ [x]))) ∧ v ≠ .slice none 0 0) ∧ Boxed Y (h + 1 + 1) 3 (.int .i64 (framesU (txts (pre ++ [x])) : Nat)) := by
 subst hY
 refine ⟨(hkk.trans (KeepsOthers.setCell _ _ _)).from _, hbb.setCell (p := ⟨h + 1 + 1, 0, none⟩) (by show h ≤ h + 1 + 1; omega) _, ⟨_, hv.other (by omega) _, ?_, by simp⟩, ?_⟩
 ·
  rw [txts_snoc]
  exact hr.kept (grownBy_setCell' X (h + 1 + 1) _) (.inr (hu.not_row (by decide) hr).symm)
 ·
  rw [txts_snoc, framesU_snoc]
  have e : ((framesU (txts pre) + (16 + x.1.length) : Nat) : Int) = (framesU (txts pre) : Int) + (16 + (x.1.length : Int)) := by omega
  rw [e]
  exact hu.set _

set_option maxRecDepth 100000 in
set_option maxHeartbeats 4000000 in
set_option maxRecDepth 100000 in
theorem implFrames0 (l : List UInt8) (w : World) (hl : l.length ≤ 1048576) :
 Calls Tryz.prog 21 #[.string ⟨l.toArray⟩] w fun e w' => ∃ v, e = .returned (.tuple #[v, .int .i64 (framesU (framesL l) : Nat)]) ∧ w'.ownsRow w.heap.size 9 1 v (framesL l).length (strV (framesL l)) ∧ v ≠ .slice none 0 0 ∧ Below w.heap.size w w' := by
 obtain ⟨i0, hi, hz0, hz1, hz2⟩ := info_parts info9
 have hown0 := (World.ownsRow_lit (base := w.heap.size) (e := 9) (size := 1) w #[] 0 (Nat.le_refl _) (by decide) rfl)
 refine (callsIn_wide (n := 6)).1 ?_
 refine callsIn_of_wp_marks Tryz.func21 rfl trivial ?_ rfl
 simp only [Tryz.ntmps21, List.size_toArray, List.length_cons, List.length_nil, Nat.reduceAdd, Nat.reduceSub, Array.replicate_succ, Array.replicate_zero, List.push_toArray, List.append_toArray, List.nil_append, List.cons_append]
 gi_wp2_with (refine ⟨trivial, ?_⟩; gi_at_call 52; refine (wholeAhead l _ _).mono ?_; rintro e w' ⟨rfl, rfl⟩)
 obtain ⟨h, hh⟩ : ∃ h, w.heap.size = h := ⟨_, rfl⟩
 obtain ⟨W0, hW0⟩ : ∃ W0, ((((w.alloc (.cells #[] 9)).alloc (.cells #[.slice (some ⟨w.heap.size, 0, none⟩) 0 0] 37)).alloc (.cells #[.int .i64 0] 3)).alloc (.cells #[.string ⟨l.toArray⟩] 9)) = W0 := ⟨_, rfl⟩
 have hB0 : Below w.heap.size w W0 := by
  rw [← hW0]; exact ((((Below.refl _ w).alloc (Nat.le_refl _) _).alloc (by simp) _).alloc (by simp; omega) _).alloc (by simp; omega) _
 have hsz : W0.heap.size = h + 4 := by rw [← hW0]; simp [hh]
 have bT : Boxed W0 (h + 1) 37 (.slice (some ⟨h, 0, none⟩) 0 0) := by
  have b := Boxed.new (w.alloc (.cells #[] 9)) 37 (.slice (some ⟨w.heap.size, 0, none⟩) 0 0)
  rw [World.size_alloc, hh] at b
  rw [← hW0, hh]; exact (b.alloc _).alloc _
 have bU : Boxed W0 (h + 1 + 1) 3 (.int .i64 0) := by
  have b := Boxed.new ((w.alloc (.cells #[] 9)).alloc (.cells #[.slice (some ⟨w.heap.size, 0, none⟩) 0 0] 37)) 3 (.int .i64 0)
  rw [World.size_alloc, World.size_alloc, hh] at b
  rw [← hW0, hh]; exact b.alloc _
 have bS : Boxed W0 (h + 1 + 1 + 1) 9 (.string ⟨l.toArray⟩) := by
  have b := Boxed.new (((w.alloc (.cells #[] 9)).alloc (.cells #[.slice (some ⟨w.heap.size, 0, none⟩) 0 0] 37)).alloc (.cells #[.int .i64 0] 3)) 9 (.string ⟨l.toArray⟩)
  rw [World.size_alloc, World.size_alloc, World.size_alloc, hh] at b
  rw [← hW0, hh]; exact b
 have hown : W0.ownsRow h 9 1 (.slice (some ⟨h, 0, none⟩) 0 0) 0 (strV []) := by
  rw [hh] at hown0
  rw [← hW0, hh]; exact ((hown0.alloc _).alloc _).alloc _
 rw [hW0, hh]
 rw [hh] at hB0
 clear hown0 hW0
 have hmix : Tryz.prog.follows .mixedOrders = true := by kernel_rfl
 refine wpIn_rangeFunc_ownG rfl (by omega) (gf := 83) (lb := #[.pointer (some ⟨h + 1 + 1 + 1, 0, none⟩)]) rfl trivial (enters_of Tryz.func83 (by kernel_rfl) rfl)
  (whole_stops _ (h + 1 + 1 + 1) (l.length + 401) (by omega) l hl (by omega) h W0 bS.lt bS.cell) belowK_t (belowK_b (by omega)) (Below.refl _ _) (fun _ => rfl)
  (fun pre W => (∃ v, Boxed W (h + 1) 37 v ∧ W.ownsRow h 9 1 v (txts pre).length (strV (txts pre)) ∧ v ≠ .slice none 0 0) ∧ Boxed W (h + 1 + 1) 3 (.int .i64 (framesU (txts pre) : Nat)) ∧ pre.length < 400 ∧ Below h w W)
  (fun c pre W => (∃ v, Boxed W (h + 1) 37 v ∧ W.ownsRow h 9 1 v (txts pre).length (strV (txts pre)) ∧ v ≠ .slice none 0 0) ∧ Boxed W (h + 1 + 1) 3 (.int .i64 (framesU (txts pre) : Nat)) ∧ (c = .exit 0 ∧ pre.length = 400) ∧ Below h w W)
  (OwnFrom.and (Own.from (holdsRow_own h (h + 1) 37 9 1 (fun pre => (txts pre).length) (fun pre => strV (txts pre)) (fun _ v => v ≠ .slice none 0 0)) _) (OwnFrom.and (Own.from (boxed_own _ _ _) _) (OwnFrom.and (ownFrom_pure _ _) (ownFrom_below (by omega) (by omega)))))
  (fun c => OwnFrom.and (Own.from (holdsRow_own h (h + 1) 37 9 1 (fun pre => (txts pre).length) (fun pre => strV (txts pre)) (fun _ v => v ≠ .slice none 0 0)) _) (OwnFrom.and (Own.from (boxed_own _ _ _) _) (OwnFrom.and (ownFrom_pure _ _) (ownFrom_below (by omega) (by omega)))))
  ⟨⟨_, bT, hown, by simp⟩, bU, by simp, hB0⟩
  (fun x => { tmps := #[.string ⟨l.toArray⟩, undef, .slice none 0 0, .int .i64 0, .pointer (some ⟨h + 1, 0, none⟩), .pointer (some ⟨h + 1 + 1, 0, none⟩), .string ⟨x.1.toArray⟩, .slice (some ⟨h, 0, none⟩) 0 0, .string ⟨l.toArray⟩, .func (.func 83) #[] #[.pointer (some ⟨h + 1 + 1 + 1, 0, none⟩)], .string ⟨x.1.toArray⟩, undef, undef, undef, undef, undef, undef, undef, undef, undef, undef, undef, undef, undef, undef, undef], defers := [] }) ?assign ?body ?done ?stop
 case assign =>
  intro l x W K hK
  gi_wp2
  exact hK
 case body =>
  rintro l' pre x W ⟨⟨v, hv, hrow, hne⟩, hu, hlt, hB⟩ _
  obtain ⟨g, cp, rfl⟩ := own_shape hrow hne
  have hc := hv.cell
  have hcu := hu.cell
  have hx := x.2
  gi_wp2
  refine wpIn_region_any hmix ?_
  change wpAnyIn _ _ _ _ _ _ _ _ _ (World.drew _)
  refine wpAnyIn_ready (rs := [0, 1]) (by kernel_rfl) (by simp) ?_
  refine AllReadyIn.cons rfl (fun K hK => ?_) (AllReadyIn.cons rfl (fun K hK => ?_) AllReadyIn.nil)
  ·
   go_simp
   refine hK _ _ ?_
   clear hK K
   refine wpAnyIn_ready (rs := [1]) (by kernel_rfl) (by simp) ?_
   refine AllReadyIn.cons rfl (fun K hK => ?_) AllReadyIn.nil
   go_simp
   refine hK _ _ ?_
   clear hK K
   refine wpAnyIn_ready (rs := [2]) (by kernel_rfl) (by simp) ?_
   refine AllReadyIn.cons rfl (fun K hK => ?_) AllReadyIn.nil
   go_simp
   refine ⟨trivial, (CallsIn.inRound l' (callsIn_wide.2 (stringsClone x.1 _ (by omega)))).mono ?_⟩
   rintro e w1 ⟨rfl, hb1⟩
   have hv1 := box_past hv hb1
   have hu1 := box_past hu hb1
   have hrow1 := row_past hrow hb1
   have hc1 := hv1.cell
   have hc1a := (hv1.alloc (.cells #[.string ⟨x.1.toArray⟩] 9)).cell
   refine hK _ _ ?_
   clear hK K
   refine wpAnyIn_ready (rs := [3]) (by kernel_rfl) (by simp) ?_
   refine AllReadyIn.cons rfl (fun K hK => ?_) AllReadyIn.nil
   go_simp
   refine hK _ _ ?_
   clear hK K
   refine wpAnyIn_ready (rs := [4]) (by kernel_rfl) (by simp) ?_
   refine AllReadyIn.cons rfl (fun K hK => ?_) AllReadyIn.nil
   obtain ⟨v', w3, hrun3, hown3, hgrow3, _⟩ := run_append_own (P := Tryz.prog) (w1.alloc (.cells #[.string ⟨x.1.toArray⟩] 9)) h 37 37 9 i0 (.string ⟨#[]⟩) 1 16 Tryz.underlying37 hi hz0 hz1 hz2 rfl (by decide) _ _ _ (hrow1.alloc _) ⟨w1.heap.size, 0, none⟩ 1 1 [.string ⟨x.1.toArray⟩] rfl (cell_one_new _ _ _) (by simp [Value.oneCell']) (by rw [txts_len]; unfold maxLen; omega) (by rw [txts_len]; omega) (by have := hB.size; have := hb1.size; simp at this ⊢; omega)
   obtain ⟨g', cap', rfl⟩ := ownsRow_succ hown3
   refine stepIn_append rfl _ _ 37 rfl _ _ _ rfl rfl hrun3 ?_
   obtain ⟨hv2, hv3, hr3, hk3, hb3⟩ := hv1.appended (by decide) hrow1 (by have := hB.size; have := hb1.size; simp at this; omega) (by omega) hown3 hgrow3
   have hu2 : Boxed w3 (h + 1 + 1) 3 _ := (hu1.alloc _).kept hgrow3 (hu1.not_row (by decide) hrow1)
   have hu3 := hu2.other (B' := h + 1) (by omega) (.slice (some ⟨g', 0, none⟩) ((txts pre).length + 1) cap')
   have hc2 := hv2.cell
   have hf2 := hv2.frozen
   have hc3 := hv3.cell
   have hcu3 := hu3.cell
   have hfu3 := hu3.frozen
   have hkk : KeepsOthers W (w3.setCell ⟨h + 1, 0, none⟩ (.slice (some ⟨g', 0, none⟩) ((txts pre).length + 1) cap')) := ((KeepsOthers.drew W).trans (KeepsOthers.of_grownBy (Below.by hb1) (fun _ _ e => by cases e))).trans hk3
   have hbb : Below h W (w3.setCell ⟨h + 1, 0, none⟩ (.slice (some ⟨g', 0, none⟩) ((txts pre).length + 1) cap')) := (show Below h W w1 from (⟨hb1.os, hb1.tape, hb1.output, hb1.size, fun k hk => hb1.block k (by have := hB.size; simp; omega)⟩)).trans hb3
   go_simp
   refine hK _ _ ?_
   clear hK K
   refine wpAnyIn_ready (rs := [5]) (by kernel_rfl) (by simp) ?_
   refine AllReadyIn.cons rfl (fun K hK => ?_) AllReadyIn.nil
   go_simp
   refine hK _ _ ?_
   clear hK K
   refine wpAnyIn_done (by kernel_rfl) ?_ _
   have hbd := framesU_bd pre
   have hbd2 : (framesU (txts pre) : Int) ≤ 8006400 := by omega
   have hr4 := own_str hr3
   by_cases hq : (((txts pre).length : Int) + 1) = 400
   ·
    gi_wp2
    obtain ⟨e1, _, e3, e4⟩ := round_end (B := W0.heap.size) hkk hbb hv3 hu3 hr4 _ rfl
    exact ⟨e1, e3, e4, ⟨rfl, by rw [List.length_append, List.length_singleton]; rw [txts_len] at hq; omega⟩, hB.trans (round_end (B := 0) hkk hbb hv3 hu3 hr4 _ rfl).2.1⟩
   ·
    gi_wp2
    obtain ⟨e1, e2, e3, e4⟩ := round_end (B := W0.heap.size) hkk hbb hv3 hu3 hr4 _ rfl
    exact ⟨e1, e2, e3, e4, by rw [List.length_append, List.length_singleton]; rw [txts_len] at hq; omega, hB.trans e2⟩
  ·
   go_simp
   refine hK _ _ ?_
   clear hK K
   refine wpAnyIn_ready (rs := [0, 2]) (by kernel_rfl) (by simp) ?_
   refine AllReadyIn.cons rfl (fun K hK => ?_) (AllReadyIn.cons rfl (fun K hK => ?_) AllReadyIn.nil)
   ·
    go_simp
    refine hK _ _ ?_
    clear hK K
    refine wpAnyIn_ready (rs := [2]) (by kernel_rfl) (by simp) ?_
    refine AllReadyIn.cons rfl (fun K hK => ?_) AllReadyIn.nil
    go_simp
    refine ⟨trivial, (CallsIn.inRound l' (callsIn_wide.2 (stringsClone x.1 _ (by omega)))).mono ?_⟩
    rintro e w1 ⟨rfl, hb1⟩
    have hv1 := box_past hv hb1
    have hu1 := box_past hu hb1
    have hrow1 := row_past hrow hb1
    have hc1 := hv1.cell
    have hc1a := (hv1.alloc (.cells #[.string ⟨x.1.toArray⟩] 9)).cell
    refine hK _ _ ?_
    clear hK K
    refine wpAnyIn_ready (rs := [3]) (by kernel_rfl) (by simp) ?_
    refine AllReadyIn.cons rfl (fun K hK => ?_) AllReadyIn.nil
    go_simp
    refine hK _ _ ?_
    clear hK K
    refine wpAnyIn_ready (rs := [4]) (by kernel_rfl) (by simp) ?_
    refine AllReadyIn.cons rfl (fun K hK => ?_) AllReadyIn.nil
    obtain ⟨v', w3, hrun3, hown3, hgrow3, _⟩ := run_append_own (P := Tryz.prog) (w1.alloc (.cells #[.string ⟨x.1.toArray⟩] 9)) h 37 37 9 i0 (.string ⟨#[]⟩) 1 16 Tryz.underlying37 hi hz0 hz1 hz2 rfl (by decide) _ _ _ (hrow1.alloc _) ⟨w1.heap.size, 0, none⟩ 1 1 [.string ⟨x.1.toArray⟩] rfl (cell_one_new _ _ _) (by simp [Value.oneCell']) (by rw [txts_len]; unfold maxLen; omega) (by rw [txts_len]; omega) (by have := hB.size; have := hb1.size; simp at this ⊢; omega)
    obtain ⟨g', cap', rfl⟩ := ownsRow_succ hown3
    refine stepIn_append rfl _ _ 37 rfl _ _ _ rfl rfl hrun3 ?_
    obtain ⟨hv2, hv3, hr3, hk3, hb3⟩ := hv1.appended (by decide) hrow1 (by have := hB.size; have := hb1.size; simp at this; omega) (by omega) hown3 hgrow3
    have hu2 : Boxed w3 (h + 1 + 1) 3 _ := (hu1.alloc _).kept hgrow3 (hu1.not_row (by decide) hrow1)
    have hu3 := hu2.other (B' := h + 1) (by omega) (.slice (some ⟨g', 0, none⟩) ((txts pre).length + 1) cap')
    have hc2 := hv2.cell
    have hf2 := hv2.frozen
    have hc3 := hv3.cell
    have hcu3 := hu3.cell
    have hfu3 := hu3.frozen
    have hkk : KeepsOthers W (w3.setCell ⟨h + 1, 0, none⟩ (.slice (some ⟨g', 0, none⟩) ((txts pre).length + 1) cap')) := ((KeepsOthers.drew W).trans (KeepsOthers.of_grownBy (Below.by hb1) (fun _ _ e => by cases e))).trans hk3
    have hbb : Below h W (w3.setCell ⟨h + 1, 0, none⟩ (.slice (some ⟨g', 0, none⟩) ((txts pre).length + 1) cap')) := (show Below h W w1 from (⟨hb1.os, hb1.tape, hb1.output, hb1.size, fun k hk => hb1.block k (by have := hB.size; simp; omega)⟩)).trans hb3
    go_simp
    refine hK _ _ ?_
    clear hK K
    refine wpAnyIn_ready (rs := [5]) (by kernel_rfl) (by simp) ?_
    refine AllReadyIn.cons rfl (fun K hK => ?_) AllReadyIn.nil
    go_simp
    refine hK _ _ ?_
    clear hK K
    refine wpAnyIn_done (by kernel_rfl) ?_ _
    have hbd := framesU_bd pre
    have hbd2 : (framesU (txts pre) : Int) ≤ 8006400 := by omega
    have hr4 := own_str hr3
    by_cases hq : (((txts pre).length : Int) + 1) = 400
    ·
     gi_wp2
     obtain ⟨e1, _, e3, e4⟩ := round_end (B := W0.heap.size) hkk hbb hv3 hu3 hr4 _ rfl
     exact ⟨e1, e3, e4, ⟨rfl, by rw [List.length_append, List.length_singleton]; rw [txts_len] at hq; omega⟩, hB.trans (round_end (B := 0) hkk hbb hv3 hu3 hr4 _ rfl).2.1⟩
    ·
     gi_wp2
     obtain ⟨e1, e2, e3, e4⟩ := round_end (B := W0.heap.size) hkk hbb hv3 hu3 hr4 _ rfl
     exact ⟨e1, e2, e3, e4, by rw [List.length_append, List.length_singleton]; rw [txts_len] at hq; omega, hB.trans e2⟩
   ·
    go_simp
    refine ⟨trivial, (CallsIn.inRound l' (callsIn_wide.2 (stringsClone x.1 _ (by omega)))).mono ?_⟩
    rintro e w1 ⟨rfl, hb1⟩
    have hv1 := box_past hv hb1
    have hu1 := box_past hu hb1
    have hrow1 := row_past hrow hb1
    have hc1 := hv1.cell
    have hc1a := (hv1.alloc (.cells #[.string ⟨x.1.toArray⟩] 9)).cell
    refine hK _ _ ?_
    clear hK K
    refine wpAnyIn_ready (rs := [0, 3]) (by kernel_rfl) (by simp) ?_
    refine AllReadyIn.cons rfl (fun K hK => ?_) (AllReadyIn.cons rfl (fun K hK => ?_) AllReadyIn.nil)
    ·
     go_simp
     refine hK _ _ ?_
     clear hK K
     refine wpAnyIn_ready (rs := [3]) (by kernel_rfl) (by simp) ?_
     refine AllReadyIn.cons rfl (fun K hK => ?_) AllReadyIn.nil
     go_simp
     refine hK _ _ ?_
     clear hK K
     refine wpAnyIn_ready (rs := [4]) (by kernel_rfl) (by simp) ?_
     refine AllReadyIn.cons rfl (fun K hK => ?_) AllReadyIn.nil
     obtain ⟨v', w3, hrun3, hown3, hgrow3, _⟩ := run_append_own (P := Tryz.prog) (w1.alloc (.cells #[.string ⟨x.1.toArray⟩] 9)) h 37 37 9 i0 (.string ⟨#[]⟩) 1 16 Tryz.underlying37 hi hz0 hz1 hz2 rfl (by decide) _ _ _ (hrow1.alloc _) ⟨w1.heap.size, 0, none⟩ 1 1 [.string ⟨x.1.toArray⟩] rfl (cell_one_new _ _ _) (by simp [Value.oneCell']) (by rw [txts_len]; unfold maxLen; omega) (by rw [txts_len]; omega) (by have := hB.size; have := hb1.size; simp at this ⊢; omega)
     obtain ⟨g', cap', rfl⟩ := ownsRow_succ hown3
     refine stepIn_append rfl _ _ 37 rfl _ _ _ rfl rfl hrun3 ?_
     obtain ⟨hv2, hv3, hr3, hk3, hb3⟩ := hv1.appended (by decide) hrow1 (by have := hB.size; have := hb1.size; simp at this; omega) (by omega) hown3 hgrow3
     have hu2 : Boxed w3 (h + 1 + 1) 3 _ := (hu1.alloc _).kept hgrow3 (hu1.not_row (by decide) hrow1)
     have hu3 := hu2.other (B' := h + 1) (by omega) (.slice (some ⟨g', 0, none⟩) ((txts pre).length + 1) cap')
     have hc2 := hv2.cell
     have hf2 := hv2.frozen
     have hc3 := hv3.cell
     have hcu3 := hu3.cell
     have hfu3 := hu3.frozen
     have hkk : KeepsOthers W (w3.setCell ⟨h + 1, 0, none⟩ (.slice (some ⟨g', 0, none⟩) ((txts pre).length + 1) cap')) := ((KeepsOthers.drew W).trans (KeepsOthers.of_grownBy (Below.by hb1) (fun _ _ e => by cases e))).trans hk3
     have hbb : Below h W (w3.setCell ⟨h + 1, 0, none⟩ (.slice (some ⟨g', 0, none⟩) ((txts pre).length + 1) cap')) := (show Below h W w1 from (⟨hb1.os, hb1.tape, hb1.output, hb1.size, fun k hk => hb1.block k (by have := hB.size; simp; omega)⟩)).trans hb3
     go_simp
     refine hK _ _ ?_
     clear hK K
     refine wpAnyIn_ready (rs := [5]) (by kernel_rfl) (by simp) ?_
     refine AllReadyIn.cons rfl (fun K hK => ?_) AllReadyIn.nil
     go_simp
     refine hK _ _ ?_
     clear hK K
     refine wpAnyIn_done (by kernel_rfl) ?_ _
     have hbd := framesU_bd pre
     have hbd2 : (framesU (txts pre) : Int) ≤ 8006400 := by omega
     have hr4 := own_str hr3
     by_cases hq : (((txts pre).length : Int) + 1) = 400
     ·
      gi_wp2
      obtain ⟨e1, _, e3, e4⟩ := round_end (B := W0.heap.size) hkk hbb hv3 hu3 hr4 _ rfl
      exact ⟨e1, e3, e4, ⟨rfl, by rw [List.length_append, List.length_singleton]; rw [txts_len] at hq; omega⟩, hB.trans (round_end (B := 0) hkk hbb hv3 hu3 hr4 _ rfl).2.1⟩
     ·
      gi_wp2
      obtain ⟨e1, e2, e3, e4⟩ := round_end (B := W0.heap.size) hkk hbb hv3 hu3 hr4 _ rfl
      exact ⟨e1, e2, e3, e4, by rw [List.length_append, List.length_singleton]; rw [txts_len] at hq; omega, hB.trans e2⟩
    ·
     go_simp
     refine hK _ _ ?_
     clear hK K
     refine wpAnyIn_ready (rs := [0]) (by kernel_rfl) (by simp) ?_
     refine AllReadyIn.cons rfl (fun K hK => ?_) AllReadyIn.nil
     go_simp
     refine hK _ _ ?_
     clear hK K
     refine wpAnyIn_ready (rs := [4]) (by kernel_rfl) (by simp) ?_
     refine AllReadyIn.cons rfl (fun K hK => ?_) AllReadyIn.nil
     obtain ⟨v', w3, hrun3, hown3, hgrow3, _⟩ := run_append_own (P := Tryz.prog) (w1.alloc (.cells #[.string ⟨x.1.toArray⟩] 9)) h 37 37 9 i0 (.string ⟨#[]⟩) 1 16 Tryz.underlying37 hi hz0 hz1 hz2 rfl (by decide) _ _ _ (hrow1.alloc _) ⟨w1.heap.size, 0, none⟩ 1 1 [.string ⟨x.1.toArray⟩] rfl (cell_one_new _ _ _) (by simp [Value.oneCell']) (by rw [txts_len]; unfold maxLen; omega) (by rw [txts_len]; omega) (by have := hB.size; have := hb1.size; simp at this ⊢; omega)
     obtain ⟨g', cap', rfl⟩ := ownsRow_succ hown3
     refine stepIn_append rfl _ _ 37 rfl _ _ _ rfl rfl hrun3 ?_
     obtain ⟨hv2, hv3, hr3, hk3, hb3⟩ := hv1.appended (by decide) hrow1 (by have := hB.size; have := hb1.size; simp at this; omega) (by omega) hown3 hgrow3
     have hu2 : Boxed w3 (h + 1 + 1) 3 _ := (hu1.alloc _).kept hgrow3 (hu1.not_row (by decide) hrow1)
     have hu3 := hu2.other (B' := h + 1) (by omega) (.slice (some ⟨g', 0, none⟩) ((txts pre).length + 1) cap')
     have hc2 := hv2.cell
     have hf2 := hv2.frozen
     have hc3 := hv3.cell
     have hcu3 := hu3.cell
     have hfu3 := hu3.frozen
     have hkk : KeepsOthers W (w3.setCell ⟨h + 1, 0, none⟩ (.slice (some ⟨g', 0, none⟩) ((txts pre).length + 1) cap')) := ((KeepsOthers.drew W).trans (KeepsOthers.of_grownBy (Below.by hb1) (fun _ _ e => by cases e))).trans hk3
     have hbb : Below h W (w3.setCell ⟨h + 1, 0, none⟩ (.slice (some ⟨g', 0, none⟩) ((txts pre).length + 1) cap')) := (show Below h W w1 from (⟨hb1.os, hb1.tape, hb1.output, hb1.size, fun k hk => hb1.block k (by have := hB.size; simp; omega)⟩)).trans hb3
     go_simp
     refine hK _ _ ?_
     clear hK K
     refine wpAnyIn_ready (rs := [5]) (by kernel_rfl) (by simp) ?_
     refine AllReadyIn.cons rfl (fun K hK => ?_) AllReadyIn.nil
     go_simp
     refine hK _ _ ?_
     clear hK K
     refine wpAnyIn_done (by kernel_rfl) ?_ _
     have hbd := framesU_bd pre
     have hbd2 : (framesU (txts pre) : Int) ≤ 8006400 := by omega
     have hr4 := own_str hr3
     by_cases hq : (((txts pre).length : Int) + 1) = 400
     ·
      gi_wp2
      obtain ⟨e1, _, e3, e4⟩ := round_end (B := W0.heap.size) hkk hbb hv3 hu3 hr4 _ rfl
      exact ⟨e1, e3, e4, ⟨rfl, by rw [List.length_append, List.length_singleton]; rw [txts_len] at hq; omega⟩, hB.trans (round_end (B := 0) hkk hbb hv3 hu3 hr4 _ rfl).2.1⟩
     ·
      gi_wp2
      obtain ⟨e1, e2, e3, e4⟩ := round_end (B := W0.heap.size) hkk hbb hv3 hu3 hr4 _ rfl
      exact ⟨e1, e2, e3, e4, by rw [List.length_append, List.length_singleton]; rw [txts_len] at hq; omega, hB.trans e2⟩
 case done =>
  rintro D ys W hD hS ⟨⟨v, hv, hrow, hne⟩, hu, hlt, hB⟩ hK
  have HF : Hid (framesL l = txts ys) := by
   unfold framesL
   rw [framesGo_take 400 (l.length + 401) l (by omega), ← hS]
   exact List.take_of_length_le (by rw [txts_len]; omega)
  have hc := hv.cell
  have hcu := hu.cell
  clear hS
  gi_wp2
  gi_region
  gi_wp2
  have hKd : W.drew.heap[D]? = some (.deferred (some [])) := hK
  refine ⟨by simp, .inl ⟨_, _, rfl, run_takeDeferred hKd, ?_⟩⟩
  refine ⟨_, results_tmp2 rfl _ _ _, v, ?_, ?_, hne, ?_⟩
  ·
   rw [HF.out]; rfl
  ·
   rw [HF.out, hh]; exact ownsRow_putObj (show W.drew.ownsRow h 9 1 v _ _ from hrow) _ hKd rfl
  ·
   rw [hh]; exact (show Below h w W.drew from ⟨hB.os, hB.tape, hB.output, hB.size, hB.block⟩).trans (belowK_b (w := w) (by omega) W.drew D _ _ (by omega) hKd rfl rfl)
 case stop =>
  rintro D c pre W hD hS ⟨⟨v, hv, hrow, hne⟩, hu, ⟨rfl, hlt⟩, hB⟩ hK
  have HF : Hid (framesL l = txts pre) := by
   unfold framesL
   rw [framesGo_take 400 (l.length + 401) l (by omega)]
   obtain ⟨r, hr⟩ := hS
   rw [← hr, List.take_append_of_le_length (by rw [txts_len]; omega)]
   exact List.take_of_length_le (by rw [txts_len]; omega)
  have hc := hv.cell
  have hcu := hu.cell
  clear hS
  gi_wp2
  gi_region
  gi_wp2
  have hKd : W.drew.heap[D]? = some (.deferred (some [])) := hK
  refine ⟨by simp, .inl ⟨_, _, rfl, run_takeDeferred hKd, ?_⟩⟩
  refine ⟨_, results_tmp2 rfl _ _ _, v, ?_, ?_, hne, ?_⟩
  ·
   rw [HF.out]; rfl
  ·
   rw [HF.out, hh]; exact ownsRow_putObj (show W.drew.ownsRow h 9 1 v _ _ from hrow) _ hKd rfl
  ·
   rw [hh]; exact (show Below h w W.drew from ⟨hB.os, hB.tape, hB.output, hB.size, hB.block⟩).trans (belowK_b (w := w) (by omega) W.drew D _ _ (by omega) hKd rfl rfl)

theorem implFrames (l : List UInt8) (w : World) (hl : l.length ≤ 1048576) :
 Calls Tryz.prog 21 #[.string ⟨l.toArray⟩] w fun e w' => ∃ v, e = .returned (.tuple #[v, .int .i64 (framesU (framesL l) : Nat)]) ∧ w'.ownsRow w.heap.size 9 1 v (framesL l).length (strV (framesL l)) ∧ Below w.heap.size w w' :=
 (implFrames0 l w hl).mono fun _ _ ⟨v, h, k, _, m⟩ => ⟨v, h, k, m⟩

theorem implFramesU (l : List UInt8) (fs : List (List UInt8)) (k u : Nat) (w : World) (hl : l.length ≤ 1048576) (hf : framesL l = fs) (hk : fs.length = k) (hu : framesU fs = u) :
 Calls Tryz.prog 21 #[.string ⟨l.toArray⟩] w fun e w' => ∃ v, e = .returned (.tuple #[v, .int .i64 (u : Int)]) ∧ w'.ownsRow w.heap.size 9 1 v k (strV fs) ∧ Below w.heap.size w w' := by
 subst hf hk hu; exact implFrames l w hl

theorem specFramesX (l : List UInt8) (fs : List (List UInt8)) (w : World) (hl : l.length ≤ 1048576) (hf : framesL l = fs) :
 Calls Tryz.prog 15 #[.string ⟨l.toArray⟩] w fun e w' => ∃ v, e = .returned (.tuple #[v, .int .i64 (framesU fs : Nat)]) ∧ w'.ownsRow w.heap.size 9 1 v fs.length (strV fs) ∧ Below w.heap.size w w' := by
 subst hf; exact (specFrames l w hl).mono fun _ _ ⟨v, h, k, _, m⟩ => ⟨v, h, k, m⟩

end Go.Proofs.YtaidhjjpdkkmcaaGreatDoor
