/-
  Parts of one proof, one behind the other: FramesS.
-/
import Derived.Test.YtaioedcaopbgkaaP22
import Derived.Test.YtaioedcaopbgkaaP6
import Derived.Test.YtaioedcaopbgkaaP18
import Derived.Test.YtaioedcaopbgkaaP3
import Derived.Test.YtaioedcaopbgkaaP1

/-! The contract of spec.Frames. -/
namespace Go.Proofs.Ytaioedcaopbgkaa
open Go.RowKit

theorem specFirstX (l t : List UInt8) (n : Int) (b : Bool) (w : World) (hl : l.length ≤ 1048576) (ht : firstT l = t) (hn : firstN l = n) (hb : firstB l = b) :
 Calls Try.prog 76 #[.string ⟨l.toArray⟩] w fun e w' => e = .returned (.tuple #[.string ⟨t.toArray⟩, .int .i64 n, .bool b]) ∧ w' = w := by
 subst ht hn hb; exact specFirst l w hl

set_option maxHeartbeats 2000000 in
set_option maxRecDepth 100000 in
theorem specFrames (l : List UInt8) (w : World) (hl : l.length ≤ 1048576) :
 Calls Try.prog 64 #[.string ⟨l.toArray⟩] w fun e w' => ∃ v, e = .returned (.tuple #[v, .int .i64 (framesU (framesL l) : Nat)]) ∧ w'.ownsRow w.heap.size 9 1 v (framesL l).length (strV (framesL l)) ∧ v ≠ .slice none 0 0 ∧ Below w.heap.size w w' := by
 obtain ⟨i0, hi, hz0, hz1, hz2⟩ := info_parts info9
 have hext := ext_list
 have htk : ∀ u, List.take (l.length - u) (List.drop u l) = List.drop u l := fun u => List.take_of_length_le (by rw [List.length_drop]; omega)
 have hown0 := (World.ownsRow_lit (base := w.heap.size) (e := 9) (size := 1) w #[] 0 (Nat.le_refl _) (by decide) rfl)
 go_enter Try.func64, Try.ntmps64
 go_wp2_with fail
 go_loopw [4, 5] (fun v i wr => ∃ o : List (List UInt8), ∃ u cp g : Nat, o.length ≤ 400 ∧ u = framesU o ∧ u ≤ l.length ∧ o ++ framesGo (400 - o.length) (l.drop u) = framesL l ∧ i = .int .i64 u ∧ v = .slice (some ⟨g, 0, none⟩) o.length cp ∧ wr.ownsRow w.heap.size 9 1 v o.length (strV o) ∧ Below w.heap.size w wr) (fun v _ _ => 400 - (match v with | .slice _ n _ => n | _ => 0))
 case atStart => exact ⟨[], 0, 0, w.heap.size, by simp, rfl, Nat.zero_le _, by simp [framesL], rfl, rfl, hown0, (Below.refl _ _).alloc (Nat.le_refl _) _⟩
 case round =>
  obtain ⟨o, u, cp, g, ho, hu, hle, hgo, rfl, rfl, hown, hb⟩ := hrel
  clear hown0
  have HU : Hid (u = framesU o) := hu
  have HG : Hid (o ++ framesGo (400 - o.length) (l.drop u) = framesL l) := hgo
  clear hu hgo
  by_cases hlt : (o.length : Int) < 400
  ·
   have hdl : (l.drop u).length ≤ 1048576 := by rw [List.length_drop]; omega
   have hul : (u : Int) ≤ (l.length : Int) := by omega
   rcases hbb : firstB (l.drop u) with _ | _
   ·
    have HF : Hid (o = framesL l) := by
     have := HG.out
     rw [framesGo_no _ _ hbb, List.append_nil] at this
     exact this
    have hfn := firstB_no (l.drop u) (of_decide_eq_false hbb)
    have HX : Hid (firstT (l.drop u) = [] ∧ firstN (l.drop u) = 0 ∧ firstB (l.drop u) = false) := hfn
    clear hfn hbb
    go_wp2_with fail
    refine (specFirstX (l.drop u) [] 0 false _ hdl HX.out.1 HX.out.2.1 HX.out.2.2).mono ?_
    rintro e w1 ⟨rfl, rfl⟩
    go_wp2
    go_ret2
    refine ⟨.slice (some ⟨g, 0, none⟩) o.length cp, ?_, ?_, ?_, hb⟩
    ·
     rw [← HF.out, ← HU.out]; rfl
    ·
     rw [← HF.out]; exact hown
    ·
     intro e; cases e
   ·
    have hst := frames_step l o u (by omega) HU.out hle HG.out hbb
    obtain ⟨t, ht⟩ : ∃ t, firstT (l.drop u) = t := ⟨_, rfl⟩
    have hN := (first_is (l.drop u) hbb).2.1
    rw [ht] at hst hN
    have HX : Hid (firstT (l.drop u) = t ∧ firstN (l.drop u) = 16 + (t.length : Int) ∧ firstB (l.drop u) = true) := ⟨ht, hN, hbb⟩
    have HS : Hid (o ++ [t] ++ framesGo (400 - (o ++ [t]).length) (l.drop (u + (16 + t.length))) = framesL l ∧ u + (16 + t.length) = framesU (o ++ [t])) := ⟨hst.1, hst.2.1⟩
    have hfit := hst.2.2
    clear hst ht hN hbb
    go_wp2_with fail
    refine (specFirstX (l.drop u) t (16 + (t.length : Int)) true _ hdl HX.out.1 HX.out.2.1 HX.out.2.2).mono ?_
    rintro e w1 ⟨rfl, rfl⟩
    go_wp2_with (at_builtin; refine wpList_append_own _ rfl _ _ 59 rfl w.heap.size 9 i0 (.string ⟨#[]⟩) 1 16 Try.underlying59 hi hz0 hz1 hz2 rfl (by decide) _ _ _ rfl (hown.alloc _) ⟨w1.heap.size, 0, none⟩ 1 1 [.string ⟨t.toArray⟩] rfl rfl ?c1 ?c2 ?c3 ?c4 ?c5 ?_)
    case c1 => exact cell_one_new _ _ _
    case c2 => first | rfl | (intro u hu; simp at hu; subst hu; rfl)
    case c3 => unfold maxLen; omega
    case c4 => omega
    case c5 => have := hb.size; simp; omega
    intro v' w3 hown3 hgrow3 hnil3
    have hown4 := own_str hown3
    have hv' : v' ≠ .slice none 0 0 := hnil3
    obtain ⟨g', cp', hv⟩ := own_shape hown4 hv'
    have hb3 : Below w.heap.size w w3 := (hb.alloc hb.size _).grown hgrow3 (by have := hb.size; simp; omega) (fun k e => (hown.lt k e).1)
    clear hown3 hgrow3 hnil3 hown hb hv'
    go_wp2
    go_roundw
    case rel => exact ⟨o ++ [t], u + (16 + t.length), cp', g', by rw [List.length_append, List.length_singleton]; omega, HS.out.2, hfit, HS.out.1, by go_num, hv, hown4, hb3⟩
    case measure => rw [hv, List.length_append, List.length_singleton]; simp; omega
  ·
   have HF : Hid (o = framesL l) := by
    have := HG.out
    rw [show 400 - o.length = 0 by omega] at this
    exact (by simpa [framesGo] using this : o = framesL l)
   go_wp2
   go_ret2
   refine ⟨.slice (some ⟨g, 0, none⟩) o.length cp, ?_, ?_, ?_, hb⟩
   ·
    rw [← HF.out, ← HU.out]; rfl
   ·
    rw [← HF.out]; exact hown
   ·
    intro e; cases e

end Go.Proofs.Ytaioedcaopbgkaa
