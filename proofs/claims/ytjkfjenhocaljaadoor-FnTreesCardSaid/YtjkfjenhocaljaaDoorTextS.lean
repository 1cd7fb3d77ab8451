/-
  The contracts of chapter 5's specification: pieces, Lines, Words, NameOk.
-/
import Derived.Test.YtjkfjenhocaljaaDoorMath5N
import Derived.Test.YtjkfjenhocaljaaDoorOwn
import Derived.Test.YtjkfjenhocaljaaDoorWordS
namespace Go.Proofs.YtjkfjenhocaljaaDoor
open Go.RowKit

set_option maxHeartbeats 2000000 in
set_option maxRecDepth 100000 in
theorem specSplit (l : List UInt8) (b : UInt8) (c : Int) (w : World) (hc : c = (b.toNat : Int)) (hl : l.length ≤ 1048576) :
    Calls Tryd.prog 38 #[.string ⟨l.toArray⟩, .int .u8 c] w fun e w' => ∃ g cp, e = .returned (.slice (some ⟨g, 0, none⟩) (splitL b l).length cp) ∧ w'.ownsRow w.heap.size 9 1 (.slice (some ⟨g, 0, none⟩) (splitL b l).length cp) (splitL b l).length (strV (splitL b l)) ∧ Below w.heap.size w w' := by
  obtain ⟨i0, hi, hz0, hz1, hz2⟩ := info_parts info9
  have hext := ext_list
  have hown0 := (World.ownsRow_lit (base := w.heap.size) (e := 9) (size := 1) w #[] 0 (Nat.le_refl _) (by decide) rfl)
  have HC : Hid (c = (b.toNat : Int)) := hc
  clear hc
  go_enter Tryd.func38, Tryd.ntmps38
  go_wp2
  go_loopw [5, 6, 7] (fun v fr ix wr => ∃ (o : List (List UInt8)) (f i g cp : Nat), v = .slice (some ⟨g, 0, none⟩) o.length cp ∧ fr = .int .i64 f ∧ ix = .int .i64 i ∧ o.length ≤ i ∧ i ≤ l.length + 1 ∧ Hid ((i ≤ l.length ∧ f ≤ i ∧ o ++ splitGo b ((l.drop f).take (i - f)) (l.drop i) = splitL b l) ∨ (i = l.length + 1 ∧ o = splitL b l)) ∧ wr.ownsRow w.heap.size 9 1 v o.length (strV o) ∧ Below w.heap.size w wr) (fun _ _ ix _ => l.length + 1 - (intOf ix).toNat)
  case atStart => exact ⟨[], 0, 0, w.heap.size, 0, rfl, rfl, rfl, by simp, by omega, (Or.inl ⟨by omega, by omega, by simp [splitL]⟩ : _ ∨ _), hown0, (Below.refl _ _).alloc (Nat.le_refl _) _⟩
  case round =>
    obtain ⟨o, f, i, g, cp, rfl, rfl, rfl, hoi, hil, HG, hown, hb⟩ := hrel
    clear hown0
    by_cases hlt : (i : Int) ≤ (l.length : Int)
    · obtain ⟨_, hfi, hg⟩ : i ≤ l.length ∧ f ≤ i ∧ o ++ splitGo b ((l.drop f).take (i - f)) (l.drop i) = splitL b l := by
        rcases HG.out with h | h
        · exact h
        · omega
      have HE : Hid (o ++ splitGo b ((l.drop f).take (i - f)) (l.drop i) = splitL b l) := hg
      clear hg HG
      have hfi1 : (f : Int) ≤ (i : Int) := by omega
      have hf0 : (0 : Int) ≤ (f : Int) := by omega
      by_cases hend : i = l.length
      · subst hend
        have HF : Hid (o ++ [(l.drop f).take (l.length - f)] = splitL b l) := split_end b l o _ HE.out
        have htk : List.take (l.length - f) (List.drop f l) = List.drop f l := List.take_of_length_le (by rw [List.length_drop]; omega)
        rw [htk] at HF
        clear HE
        go_wp2_with (at_builtin; refine wpList_append_own _ rfl _ _ 43 rfl w.heap.size 9 i0 (.string ⟨#[]⟩) 1 16 Tryd.underlying43 hi hz0 hz1 hz2 rfl (by decide) _ _ _ rfl (hown.alloc _) ⟨wr.heap.size, 0, none⟩ 1 1 [.string ⟨(l.drop f).toArray⟩] rfl rfl ?c1 ?c2 ?c3 ?c4 ?c5 ?_)
        first | (case c1 => exact cell_one_new _ _ _) | skip
        first | (case c2 => first | rfl | (intro u hu; simp at hu; subst hu; rfl)) | skip
        first | (case c3 => unfold maxLen; omega) | skip
        first | (case c4 => omega) | skip
        first | (case c5 => have := hb.size; simp; try omega) | skip
        intro v' w3 hown3 hgrow3 hnil3
        have hown4 := own_str hown3
        have hv' : v' ≠ .slice none 0 0 := hnil3
        obtain ⟨g', cp', hv⟩ := own_shape hown4 hv'
        have hb3 : Below w.heap.size w w3 := (hb.alloc hb.size _).grown hgrow3 (by have := hb.size; simp; omega) (fun k e => (hown.lt k e).1)
        clear hown3 hgrow3 hnil3 hown hb hv'
        go_wp2
        go_roundw
        case rel => exact ⟨o ++ [l.drop f], l.length + 1, l.length + 1, g', cp', hv, by go_num, by go_num, by rw [List.length_append, List.length_singleton]; omega, by omega, (Or.inr ⟨rfl, HF.out⟩ : _ ∨ _), hown4, hb3⟩
        case measure => simp [intOf]
      · have de : ((i : Int) == (l.length : Int)) = false := beq_eq_false_iff_ne.2 (by omega)
        have hil2 : i < l.length := by omega
        have hil3 : (i : Int) < (l.length : Int) := by omega
        obtain ⟨x, hx⟩ : ∃ x, l[i] = x := ⟨_, rfl⟩
        by_cases hxb : x = b
        · have HF : Hid ((o ++ [(l.drop f).take (i - f)]) ++ splitGo b [] (l.drop (i + 1)) = splitL b l) := split_hit b l o _ i hil2 (by rw [hx]; exact hxb) HE.out
          have dx : ((((⟨l.toArray⟩ : ByteArray)[i]'(by show i < l.toArray.size; simpa using hil2)).toNat : Int) == c) = true := by show ((l[i].toNat : Int) == c) = true; rw [hx, hxb, HC.out]; simp
          clear HE hx hxb hend
          go_wp2_with (at_builtin; refine wpList_append_own _ rfl _ _ 43 rfl w.heap.size 9 i0 (.string ⟨#[]⟩) 1 16 Tryd.underlying43 hi hz0 hz1 hz2 rfl (by decide) _ _ _ rfl (hown.alloc _) ⟨wr.heap.size, 0, none⟩ 1 1 [.string ⟨((l.drop f).take (i - f)).toArray⟩] rfl rfl ?c1 ?c2 ?c3 ?c4 ?c5 ?_)
          first | (case c1 => exact cell_one_new _ _ _) | skip
          first | (case c2 => first | rfl | (intro u hu; simp at hu; subst hu; rfl)) | skip
          first | (case c3 => unfold maxLen; omega) | skip
          first | (case c4 => omega) | skip
          first | (case c5 => have := hb.size; simp; try omega) | skip
          intro v' w3 hown3 hgrow3 hnil3
          have hown4 := own_str hown3
          have hv' : v' ≠ .slice none 0 0 := hnil3
          obtain ⟨g', cp', hv⟩ := own_shape hown4 hv'
          have hb3 : Below w.heap.size w w3 := (hb.alloc hb.size _).grown hgrow3 (by have := hb.size; simp; omega) (fun k e => (hown.lt k e).1)
          clear hown3 hgrow3 hnil3 hown hb hv'
          go_wp2
          go_roundw
          case rel => exact ⟨o ++ [(l.drop f).take (i - f)], i + 1, i + 1, g', cp', hv, by go_num, by go_num, by rw [List.length_append, List.length_singleton]; omega, by omega, (Or.inl ⟨by omega, by omega, by rw [Nat.sub_self, List.take_zero]; exact HF.out⟩ : _ ∨ _), hown4, hb3⟩
          case measure => simp [intOf]; omega
        · have HF : Hid (o ++ splitGo b ((l.drop f).take (i + 1 - f)) (l.drop (i + 1)) = splitL b l) := by
            have := split_miss b l o _ i hil2 (by rw [hx]; exact hxb) HE.out
            rw [cut_snoc l f i hfi hil2]
            exact this
          have dx : ((((⟨l.toArray⟩ : ByteArray)[i]'(by show i < l.toArray.size; simpa using hil2)).toNat : Int) == c) = false := by show ((l[i].toNat : Int) == c) = false; rw [hx, HC.out]; exact beq_eq_false_iff_ne.2 (fun e => hxb (UInt8.toNat_inj.1 (by omega)))
          clear HE hx hxb hend
          go_wp2
          go_roundw
          case rel => exact ⟨o, f, i + 1, g, cp, rfl, rfl, by go_num, by omega, by omega, (Or.inl ⟨by omega, by omega, HF.out⟩ : _ ∨ _), hown, hb⟩
          case measure => simp [intOf]; omega
    · have HF : Hid (o = splitL b l) := by
        rcases HG.out with h | h
        · omega
        · exact h.2
      go_wp2
      go_ret
      exact ⟨g, cp, by rw [← HF.out]; rfl, by rw [← HF.out]; exact hown, hb⟩

end Go.Proofs.YtjkfjenhocaljaaDoor
