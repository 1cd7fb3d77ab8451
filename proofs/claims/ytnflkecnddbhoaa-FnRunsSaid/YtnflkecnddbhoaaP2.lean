/-
  Parts of one proof, one behind the other: TextS, TextS2, TextS3, Turned, TextS4, TextS5, TreeS, TreeS2, Math7, Math3C.
-/
import Derived.Test.YtnflkecnddbhoaaP1
import Derived.Test.YtnflkecnddbhoaaRows
import Derived.WalkKit
import Derived.WalkLawsBesides
import Derived.Laws.IdiomStrings
import Derived.Laws.Concat
import Derived.OpenShut
import Derived.Handy

/-! The contracts of chapter 5's specification: pieces, Lines, Words, NameOk. -/
namespace Go.Proofs.Ytnflkecnddbhoaa
open Go.RowKit

set_option maxHeartbeats 2000000 in
set_option maxRecDepth 100000 in
theorem specSplit (l : List UInt8) (b : UInt8) (c : Int) (w : World) (hc : c = (b.toNat : Int)) (hl : l.length ≤ 1048576) :
    Calls Try.prog 35 #[.string ⟨l.toArray⟩, .int .u8 c] w fun e w' => ∃ g cp, e = .returned (.slice (some ⟨g, 0, none⟩) (splitL b l).length cp) ∧ w'.ownsRow w.heap.size 9 1 (.slice (some ⟨g, 0, none⟩) (splitL b l).length cp) (splitL b l).length (strV (splitL b l)) ∧ Below w.heap.size w w' := by
  obtain ⟨i0, hi, hz0, hz1, hz2⟩ := info_parts info9
  have hext := ext_list
  have hown0 := (World.ownsRow_lit (base := w.heap.size) (e := 9) (size := 1) w #[] 0 (Nat.le_refl _) (by decide) rfl)
  have HC : Hid (c = (b.toNat : Int)) := hc
  clear hc
  go_enter Try.func35, Try.ntmps35
  go_wp2
  go_loopw [5, 6, 7] (fun v fr ix wr => ∃ (o : List (List UInt8)) (f i g cp : Nat), v = .slice (some ⟨g, 0, none⟩) o.length cp ∧ fr = .int .i64 f ∧ ix = .int .i64 i ∧ o.length ≤ i ∧ i ≤ l.length + 1 ∧ Hid ((i ≤ l.length ∧ f ≤ i ∧ o ++ splitGo b ((l.drop f).take (i - f)) (l.drop i) = splitL b l) ∨ (i = l.length + 1 ∧ o = splitL b l)) ∧ wr.ownsRow w.heap.size 9 1 v o.length (strV o) ∧ Below w.heap.size w wr) (fun _ _ ix _ => l.length + 1 - (intOf ix).toNat)
  case atStart => exact ⟨[], 0, 0, w.heap.size, 0, rfl, rfl, rfl, by simp, by omega, (Or.inl ⟨by omega, by omega, by simp [splitL]⟩ : _ ∨ _), hown0, (Below.refl _ _).alloc (Nat.le_refl _) _⟩
  case round =>
    obtain ⟨o, f, i, g, cp, rfl, rfl, rfl, hoi, hil, HG, hown, hb⟩ := hrel
    clear hown0
    by_cases hlt : (i : Int) ≤ (l.length : Int)
    · obtain ⟨_, hfi, hg⟩ : i ≤ l.length ∧ f ≤ i ∧ o ++ splitGo b ((l.drop f).take (i - f)) (l.drop i) = splitL b l := by
        rcases HG.out with h | h
        · exact h
        · omega
      have HE : Hid (o ++ splitGo b ((l.drop f).take (i - f)) (l.drop i) = splitL b l) := hg
      clear hg HG
      have hfi1 : (f : Int) ≤ (i : Int) := by omega
      have hf0 : (0 : Int) ≤ (f : Int) := by omega
      by_cases hend : i = l.length
      · subst hend
        have HF : Hid (o ++ [(l.drop f).take (l.length - f)] = splitL b l) := split_end b l o _ HE.out
        have htk : List.take (l.length - f) (List.drop f l) = List.drop f l := List.take_of_length_le (by rw [List.length_drop]; omega)
        rw [htk] at HF
        clear HE
        go_wp2_with (at_builtin; refine wpList_append_own _ rfl _ _ 33 rfl w.heap.size 9 i0 (.string ⟨#[]⟩) 1 16 Try.underlying33 hi hz0 hz1 hz2 rfl (by decide) _ _ _ rfl (hown.alloc _) ⟨wr.heap.size, 0, none⟩ 1 1 [.string ⟨(l.drop f).toArray⟩] rfl rfl ?c1 ?c2 ?c3 ?c4 ?c5 ?_)
        first | (case c1 => exact cell_one_new _ _ _) | skip
        first | (case c2 => first | rfl | (intro u hu; simp at hu; subst hu; rfl)) | skip
        first | (case c3 => unfold maxLen; omega) | skip
        first | (case c4 => omega) | skip
        first | (case c5 => have := hb.size; simp; try omega) | skip
        intro v' w3 hown3 hgrow3 hnil3
        have hown4 := own_str hown3
        have hv' : v' ≠ .slice none 0 0 := hnil3
        obtain ⟨g', cp', hv⟩ := own_shape hown4 hv'
        have hb3 : Below w.heap.size w w3 := (hb.alloc hb.size _).grown hgrow3 (by have := hb.size; simp; omega) (fun k e => (hown.lt k e).1)
        clear hown3 hgrow3 hnil3 hown hb hv'
        go_wp2
        go_roundw
        case rel => exact ⟨o ++ [l.drop f], l.length + 1, l.length + 1, g', cp', hv, by go_num, by go_num, by rw [List.length_append, List.length_singleton]; omega, by omega, (Or.inr ⟨rfl, HF.out⟩ : _ ∨ _), hown4, hb3⟩
        case measure => simp [intOf]
      · have de : ((i : Int) == (l.length : Int)) = false := beq_eq_false_iff_ne.2 (by omega)
        have hil2 : i < l.length := by omega
        have hil3 : (i : Int) < (l.length : Int) := by omega
        obtain ⟨x, hx⟩ : ∃ x, l[i] = x := ⟨_, rfl⟩
        by_cases hxb : x = b
        · have HF : Hid ((o ++ [(l.drop f).take (i - f)]) ++ splitGo b [] (l.drop (i + 1)) = splitL b l) := split_hit b l o _ i hil2 (by rw [hx]; exact hxb) HE.out
          have dx : ((((⟨l.toArray⟩ : ByteArray)[i]'(by show i < l.toArray.size; simpa using hil2)).toNat : Int) == c) = true := by show ((l[i].toNat : Int) == c) = true; rw [hx, hxb, HC.out]; simp
          clear HE hx hxb hend
          go_wp2_with (at_builtin; refine wpList_append_own _ rfl _ _ 33 rfl w.heap.size 9 i0 (.string ⟨#[]⟩) 1 16 Try.underlying33 hi hz0 hz1 hz2 rfl (by decide) _ _ _ rfl (hown.alloc _) ⟨wr.heap.size, 0, none⟩ 1 1 [.string ⟨((l.drop f).take (i - f)).toArray⟩] rfl rfl ?c1 ?c2 ?c3 ?c4 ?c5 ?_)
          first | (case c1 => exact cell_one_new _ _ _) | skip
          first | (case c2 => first | rfl | (intro u hu; simp at hu; subst hu; rfl)) | skip
          first | (case c3 => unfold maxLen; omega) | skip
          first | (case c4 => omega) | skip
          first | (case c5 => have := hb.size; simp; try omega) | skip
          intro v' w3 hown3 hgrow3 hnil3
          have hown4 := own_str hown3
          have hv' : v' ≠ .slice none 0 0 := hnil3
          obtain ⟨g', cp', hv⟩ := own_shape hown4 hv'
          have hb3 : Below w.heap.size w w3 := (hb.alloc hb.size _).grown hgrow3 (by have := hb.size; simp; omega) (fun k e => (hown.lt k e).1)
          clear hown3 hgrow3 hnil3 hown hb hv'
          go_wp2
          go_roundw
          case rel => exact ⟨o ++ [(l.drop f).take (i - f)], i + 1, i + 1, g', cp', hv, by go_num, by go_num, by rw [List.length_append, List.length_singleton]; omega, by omega, (Or.inl ⟨by omega, by omega, by rw [Nat.sub_self, List.take_zero]; exact HF.out⟩ : _ ∨ _), hown4, hb3⟩
          case measure => simp [intOf]; omega
        · have HF : Hid (o ++ splitGo b ((l.drop f).take (i + 1 - f)) (l.drop (i + 1)) = splitL b l) := by
            have := split_miss b l o _ i hil2 (by rw [hx]; exact hxb) HE.out
            rw [cut_snoc l f i hfi hil2]
            exact this
          have dx : ((((⟨l.toArray⟩ : ByteArray)[i]'(by show i < l.toArray.size; simpa using hil2)).toNat : Int) == c) = false := by show ((l[i].toNat : Int) == c) = false; rw [hx, HC.out]; exact beq_eq_false_iff_ne.2 (fun e => hxb (UInt8.toNat_inj.1 (by omega)))
          clear HE hx hxb hend
          go_wp2
          go_roundw
          case rel => exact ⟨o, f, i + 1, g, cp, rfl, rfl, by go_num, by omega, by omega, (Or.inl ⟨by omega, by omega, HF.out⟩ : _ ∨ _), hown, hb⟩
          case measure => simp [intOf]; omega
    · have HF : Hid (o = splitL b l) := by
        rcases HG.out with h | h
        · omega
        · exact h.2
      go_wp2
      go_ret
      exact ⟨g, cp, by rw [← HF.out]; rfl, by rw [← HF.out]; exact hown, hb⟩

end Go.Proofs.Ytnflkecnddbhoaa

/-! The contracts of chapter 5's specification: Lines, Words, NameOk. -/
namespace Go.Proofs.Ytnflkecnddbhoaa
open Go.RowKit

set_option maxHeartbeats 1000000 in
set_option maxRecDepth 100000 in
theorem specNameOk (l : List UInt8) (w : World) (hl : l.length ≤ 1048576) :
    Calls Try.prog 32 #[.string ⟨l.toArray⟩] w fun e w' => e = .returned (.bool (nameB l)) ∧ w' = w := by
  go_enter Try.func32, Try.ntmps32
  go_wp2
  go_loop [3] (fun ix => ∃ k : Nat, k ≤ l.length ∧ ix = .int .i64 k ∧ Hid (∀ j (hj : j < l.length), j < k → 97 ≤ l[j].toNat ∧ l[j].toNat ≤ 122)) (fun ix => l.length - (intOf ix).toNat)
  case atStart => exact ⟨0, Nat.zero_le _, rfl, (fun j _ h => by omega : ∀ j (hj : j < l.length), j < 0 → _)⟩
  case round =>
    obtain ⟨k, hk, rfl, HK⟩ := hrel
    by_cases hkl : (k : Int) < (l.length : Int)
    · have hk2 : k < l.length := by omega
      obtain ⟨x, hx⟩ : ∃ x : UInt8, l[k] = x := ⟨_, rfl⟩
      have hxb : (⟨l.toArray⟩ : ByteArray)[k]'(by show k < l.toArray.size; simpa using hk2) = x := hx
      by_cases h1 : (x.toNat : Int) < 97
      · have HF : Hid (nameB l = false) := name_bad l k hk2 (by rw [hx]; omega)
        clear hx
        go_wp2
        go_ret
        exact ⟨by rw [HF.out]; rfl, rfl⟩
      · by_cases h2 : 122 < (x.toNat : Int)
        · have HF : Hid (nameB l = false) := name_bad l k hk2 (by rw [hx]; omega)
          clear hx
          go_wp2
          go_ret
          exact ⟨by rw [HF.out]; rfl, rfl⟩
        · have HS : Hid (∀ j (hj : j < l.length), j < k + 1 → 97 ≤ l[j].toNat ∧ l[j].toNat ≤ 122) := fun j hj hjk => by
            by_cases e : j = k
            · subst e; rw [hx]; omega
            · exact HK.out j hj (by omega)
          clear hx
          go_wp2
          go_round
          case rel => exact ⟨k + 1, by omega, by go_num, HS⟩
          case measure => simp [intOf]; omega
    · have HF : Hid (nameB l = inB (l.length : Int) 1 8) := name_good l (fun j hj => HK.out j hj (by omega))
      go_wp2_with (go_at_call 28; refine (specIn _ _ _ _).mono ?_; rintro e w' ⟨rfl, rfl⟩)
      go_ret
      exact ⟨by rw [HF.out]; rfl, rfl⟩

end Go.Proofs.Ytnflkecnddbhoaa

/-! The contracts of chapter 5's specification: a number is read; NumberOf. -/
namespace Go.Proofs.Ytnflkecnddbhoaa
open Go.RowKit

/-- What is read of the digits from place i on, up to place k. -/
def valTo (t : List UInt8) (i k : Nat) : Nat := valL ((t.drop i).take (k - i))

end Go.Proofs.Ytnflkecnddbhoaa

/-! The contracts of spec.Turned and impl.Turned. -/
namespace Go.Proofs.Ytnflkecnddbhoaa
open Go.RowKit

end Go.Proofs.Ytnflkecnddbhoaa

/-! The contracts of chapter 5's specification: NumberOf; a number is written (l1Int, digits). -/
namespace Go.Proofs.Ytnflkecnddbhoaa
open Go.RowKit


end Go.Proofs.Ytnflkecnddbhoaa

/-! The contract of l1Int: a number is written, with a minus ahead below 0. -/
namespace Go.Proofs.Ytnflkecnddbhoaa
open Go.RowKit


end Go.Proofs.Ytnflkecnddbhoaa

/-! The contracts of chapter 6's specification: NodeOk, how many parts, KidsOf. -/
namespace Go.Proofs.Ytnflkecnddbhoaa
open Go.RowKit

def nodeVal (n : Nd) : Value := .agg #[.int .i64 n.1, .int .i64 n.2.1, .string ⟨n.2.2.1.toArray⟩, .string ⟨n.2.2.2.toArray⟩]

theorem nodeB_texts (k a : Int) (p f : List UInt8) (hk : k ≠ 8) (h : p ≠ [] ∨ f ≠ []) : nodeB (k, a, p, f) = false := nodeB_no (fun hp => by
  unfold nodeP at hp
  simp only at hp
  rcases hp with ⟨_, _, h1, h2⟩ | ⟨_, _, h1, h2⟩ | ⟨_, _, h1, h2⟩ | ⟨h1, _⟩
  · rcases h with h | h; exact h h1; exact h h2
  · rcases h with h | h; exact h h1; exact h h2
  · rcases h with h | h; exact h h1; exact h h2
  · exact hk h1)
theorem nodeB_num (a : Int) : nodeB (1, a, [], []) = inB a (-2147483648) 2147483647 := by
  unfold nodeB inB
  exact decide_eq_decide.2 (by unfold nodeP; simp)
theorem nodeB_arg (a : Int) : nodeB (2, a, [], []) = inB a 0 2 := by
  unfold nodeB inB
  exact decide_eq_decide.2 (by unfold nodeP; simp)
theorem nodeB_op (k a : Int) (h : 3 ≤ k ∧ k ≤ 7) : nodeB (k, a, [], []) = (a == 0) := by
  rw [Bool.eq_iff_iff, nodeB_iff, beq_iff_eq]
  unfold nodeP
  simp
  omega
theorem nodeB_call (a : Int) (p f : List UInt8) : nodeB (8, a, p, f) = (inB a 0 3 && (nameB p && nameB f)) := by
  rw [Bool.eq_iff_iff, nodeB_iff]
  unfold nodeP inB
  simp
theorem nodeB_other (k a : Int) (p f : List UInt8) (h : k < 1 ∨ 8 < k) : nodeB (k, a, p, f) = false := nodeB_no (fun hp => by
  unfold nodeP at hp
  simp only at hp
  omega)

set_option maxHeartbeats 2000000 in
set_option maxRecDepth 100000 in
theorem specNodeOk (n : Nd) (w : World) (hp : n.2.2.1.length ≤ 1048576) (hf : n.2.2.2.length ≤ 1048576) :
    Calls Try.prog 114 #[nodeVal n] w fun e w' => e = .returned (.bool (nodeB n)) ∧ Below w.heap.size w w' := by
  obtain ⟨k, a, p, f⟩ := n
  simp only at hp hf
  unfold nodeVal
  simp only
  by_cases h8 : k = 8
  · subst h8
    have HN := nodeB_call a p f
    rw [HN]
    clear HN
    rcases hia : inB a 0 3 with _ | _
    · have HA : Hid (inB a 0 3 = false) := hia
      clear hia
      go_enter Try.func114, Try.ntmps114
      go_wp2_with fail
      refine (specIn _ _ _ _).mono ?_
      rintro e w1 ⟨rfl, rfl⟩
      rw [HA.out]
      go_wp2
      go_ret
      exact ⟨rfl, (Below.refl _ w).alloc (Nat.le_refl _) _⟩
    · have HA : Hid (inB a 0 3 = true) := hia
      clear hia
      rcases hnp : nameB p with _ | _
      · have HP : Hid (nameB p = false) := hnp
        clear hnp
        go_enter Try.func114, Try.ntmps114
        go_wp2_with fail
        refine (specIn _ _ _ _).mono ?_
        rintro e w1 ⟨rfl, rfl⟩
        rw [HA.out]
        go_wp2_with fail
        refine (specNameOk p _ hp).mono ?_
        rintro e w1 ⟨rfl, rfl⟩
        rw [HP.out]
        go_wp2
        go_ret
        exact ⟨rfl, (Below.refl _ w).alloc (Nat.le_refl _) _⟩
      · have HP : Hid (nameB p = true) := hnp
        clear hnp
        go_enter Try.func114, Try.ntmps114
        go_wp2_with fail
        refine (specIn _ _ _ _).mono ?_
        rintro e w1 ⟨rfl, rfl⟩
        rw [HA.out]
        go_wp2_with fail
        refine (specNameOk p _ hp).mono ?_
        rintro e w1 ⟨rfl, rfl⟩
        rw [HP.out]
        go_wp2_with fail
        refine (specNameOk f _ hf).mono ?_
        rintro e w1 ⟨rfl, rfl⟩
        go_wp2
        go_ret
        exact ⟨rfl, (Below.refl _ w).alloc (Nat.le_refl _) _⟩
  · have d8 : (k != 8) = true := bne_iff_ne.2 h8
    have d8' : (k == 8) = false := beq_eq_false_iff_ne.2 h8
    by_cases hpe : p = []
    · subst hpe
      by_cases hfe : f = []
      · subst hfe
        by_cases h1 : k = 1
        · subst h1
          have HN := nodeB_num a
          rw [HN]
          clear HN
          go_enter Try.func114, Try.ntmps114
          go_wp2_with fail
          refine (specWordOk _ _).mono ?_
          rintro e w1 ⟨rfl, rfl⟩
          go_wp2
          go_ret
          exact ⟨rfl, (Below.refl _ w).alloc (Nat.le_refl _) _⟩
        · have d1 : (k == 1) = false := beq_eq_false_iff_ne.2 h1
          by_cases h2 : k = 2
          · subst h2
            have HN := nodeB_arg a
            rw [HN]
            clear HN
            go_enter Try.func114, Try.ntmps114
            go_wp2_with fail
            refine (specIn _ _ _ _).mono ?_
            rintro e w1 ⟨rfl, rfl⟩
            go_wp2
            go_ret
            exact ⟨rfl, (Below.refl _ w).alloc (Nat.le_refl _) _⟩
          · have d2 : (k == 2) = false := beq_eq_false_iff_ne.2 h2
            by_cases h37 : 3 ≤ k ∧ k ≤ 7
            · have HN := nodeB_op k a h37
              rw [HN]
              clear HN
              rcases (show k = 3 ∨ k = 4 ∨ k = 5 ∨ k = 6 ∨ k = 7 by omega) with rfl | rfl | rfl | rfl | rfl
              all_goals
                go_enter Try.func114, Try.ntmps114
                go_wp2
                go_ret
                exact ⟨rfl, (Below.refl _ w).alloc (Nat.le_refl _) _⟩
            · have HN := nodeB_other k a [] [] (by omega)
              rw [HN]
              clear HN
              have d3 : (k == 3) = false := beq_eq_false_iff_ne.2 (by omega)
              have d4 : (k == 4) = false := beq_eq_false_iff_ne.2 (by omega)
              have d5 : (k == 5) = false := beq_eq_false_iff_ne.2 (by omega)
              have d6 : (k == 6) = false := beq_eq_false_iff_ne.2 (by omega)
              have d7 : (k == 7) = false := beq_eq_false_iff_ne.2 (by omega)
              clear h37 h1 h2 h8
              go_enter Try.func114, Try.ntmps114
              go_wp2
              go_ret
              exact ⟨rfl, (Below.refl _ w).alloc (Nat.le_refl _) _⟩
      · have HN := nodeB_texts k a [] f h8 (Or.inr hfe)
        rw [HN]
        have hfb : f.isEmpty = false := by simp [hfe]
        clear HN hfe h8
        go_enter Try.func114, Try.ntmps114
        go_wp2
        go_ret
        exact ⟨rfl, (Below.refl _ w).alloc (Nat.le_refl _) _⟩
    · have HN := nodeB_texts k a p f h8 (Or.inl hpe)
      rw [HN]
      have hpb : p.isEmpty = false := by simp [hpe]
      clear HN hpe h8
      go_enter Try.func114, Try.ntmps114
      go_wp2
      go_ret
      exact ⟨rfl, (Below.refl _ w).alloc (Nat.le_refl _) _⟩

theorem kids_two (k a : Int) (p f : List UInt8) (h : 3 ≤ k ∧ k ≤ 6) : kidsV (k, a, p, f) = 2 := if_pos h
theorem kids_if (a : Int) (p f : List UInt8) : kidsV (7, a, p, f) = 3 := by unfold kidsV; simp
theorem kids_call (a : Int) (p f : List UInt8) : kidsV (8, a, p, f) = a := by unfold kidsV; simp
theorem kids_none (k a : Int) (p f : List UInt8) (h : k < 3 ∨ 8 < k) : kidsV (k, a, p, f) = 0 := by
  unfold kidsV
  simp only
  rw [if_neg (by omega), if_neg (by omega), if_neg (by omega)]

set_option maxHeartbeats 2000000 in
set_option maxRecDepth 100000 in
theorem specKids (n : Nd) (w : World) :
    Calls Try.prog 103 #[nodeVal n] w fun e w' => e = .returned (.int .i64 (kidsV n)) ∧ Below w.heap.size w w' := by
  obtain ⟨k, a, p, f⟩ := n
  unfold nodeVal
  simp only
  by_cases h36 : 3 ≤ k ∧ k ≤ 6
  · rw [kids_two k a p f h36]
    rcases (show k = 3 ∨ k = 4 ∨ k = 5 ∨ k = 6 by omega) with rfl | rfl | rfl | rfl
    all_goals
      go_enter Try.func103, Try.ntmps103
      go_wp2
      go_ret
      exact ⟨rfl, (Below.refl _ w).alloc (Nat.le_refl _) _⟩
  · by_cases h7 : k = 7
    · subst h7
      rw [kids_if]
      go_enter Try.func103, Try.ntmps103
      go_wp2
      go_ret
      exact ⟨rfl, (Below.refl _ w).alloc (Nat.le_refl _) _⟩
    · by_cases h8 : k = 8
      · subst h8
        rw [kids_call]
        go_enter Try.func103, Try.ntmps103
        go_wp2
        go_ret
        exact ⟨rfl, (Below.refl _ w).alloc (Nat.le_refl _) _⟩
      · rw [kids_none k a p f (by omega)]
        have d3 : (k == 3) = false := beq_eq_false_iff_ne.2 (by omega)
        have d4 : (k == 4) = false := beq_eq_false_iff_ne.2 (by omega)
        have d5 : (k == 5) = false := beq_eq_false_iff_ne.2 (by omega)
        have d6 : (k == 6) = false := beq_eq_false_iff_ne.2 (by omega)
        have d7 : (k == 7) = false := beq_eq_false_iff_ne.2 h7
        have d8 : (k == 8) = false := beq_eq_false_iff_ne.2 h8
        clear h36 h7 h8
        go_enter Try.func103, Try.ntmps103
        go_wp2
        go_ret
        exact ⟨rfl, (Below.refl _ w).alloc (Nat.le_refl _) _⟩

theorem below_boxed {w w1 : World} {o : Obj} (h : Below (w.alloc o).heap.size (w.alloc o) w1) : Below w.heap.size w w1 :=
  ((Below.refl _ w).alloc (Nat.le_refl _) o).trans (h.mono (by simp))

end Go.Proofs.Ytnflkecnddbhoaa

/-! The contracts of chapter 6's specification over lists of nodes: EndOf, TreeOk. -/
namespace Go.Proofs.Ytnflkecnddbhoaa
open Go.RowKit

def nd0 : Nd := (0, 0, [], [])

/-- The nodes ns lie at a, four cells each. -/
def NodesIn (w : World) (a : Option Addr) (len : Nat) (ns : List Nd) : Prop :=
  ns.length = len ∧ ∀ j, j < len → ∃ b off, a = some ⟨b, off, none⟩ ∧ b < w.heap.size ∧ w.cell? ⟨b, off + j * 4, none⟩ = some (.int .i64 (ns.getD j nd0).1) ∧ w.cell? ⟨b, off + j * 4 + 1, none⟩ = some (.int .i64 (ns.getD j nd0).2.1) ∧ w.cell? ⟨b, off + j * 4 + 2, none⟩ = some (.string ⟨(ns.getD j nd0).2.2.1.toArray⟩) ∧ w.cell? ⟨b, off + j * 4 + 3, none⟩ = some (.string ⟨(ns.getD j nd0).2.2.2.toArray⟩)

theorem NodesIn.keep {w w' : World} {a : Option Addr} {len : Nat} {ns : List Nd} (h : NodesIn w a len ns) (hs : w.heap.size ≤ w'.heap.size) (hb : ∀ b off, a = some ⟨b, off, none⟩ → b < w.heap.size → w'.heap[b]? = w.heap[b]?) : NodesIn w' a len ns := by
  refine ⟨h.1, fun j hj => ?_⟩
  obtain ⟨b, off, e, hlt, c0, c1, c2, c3⟩ := h.2 j hj
  have hk := hb b off e hlt
  exact ⟨b, off, e, Nat.lt_of_lt_of_le hlt hs, (World.cell?_of_block (a := ⟨b, off + j * 4, none⟩) hk).trans c0, (World.cell?_of_block (a := ⟨b, off + j * 4 + 1, none⟩) hk).trans c1, (World.cell?_of_block (a := ⟨b, off + j * 4 + 2, none⟩) hk).trans c2, (World.cell?_of_block (a := ⟨b, off + j * 4 + 3, none⟩) hk).trans c3⟩

theorem NodesIn.below {w w' : World} {a : Option Addr} {len : Nat} {ns : List Nd} (h : NodesIn w a len ns) (hb : Below w.heap.size w w') : NodesIn w' a len ns :=
  h.keep hb.size (fun b _ _ hlt => hb.block b hlt)

theorem NodesIn.at {w : World} {a : Option Addr} {len : Nat} {ns : List Nd} (h : NodesIn w a len ns) (hz : 0 < len) : ∃ b off, a = some ⟨b, off, none⟩ ∧ b < w.heap.size ∧
    ∀ j, j < len → w.cell? ⟨b, off + j * 4, none⟩ = some (.int .i64 (ns.getD j nd0).1) ∧ w.cell? ⟨b, off + j * 4 + 1, none⟩ = some (.int .i64 (ns.getD j nd0).2.1) ∧ w.cell? ⟨b, off + j * 4 + 2, none⟩ = some (.string ⟨(ns.getD j nd0).2.2.1.toArray⟩) ∧ w.cell? ⟨b, off + j * 4 + 3, none⟩ = some (.string ⟨(ns.getD j nd0).2.2.2.toArray⟩) := by
  obtain ⟨b, off, rfl, hb, _⟩ := h.2 0 hz
  refine ⟨b, off, rfl, hb, fun j hj => ?_⟩
  obtain ⟨b', off', e, _, c⟩ := h.2 j hj
  injection e with e
  injection e with e1 e2
  subst e1 e2
  exact c

/-- No text of a node is too long. -/
def ShortT (ns : List Nd) : Prop := ∀ j, (ns.getD j nd0).2.2.1.length ≤ 1048576 ∧ (ns.getD j nd0).2.2.2.length ≤ 1048576

/-- What is still to go, from place k on with o open. -/
def endTo (ns : List Nd) (k o : Nat) : Int := match endGo (ns.drop k) o with | some d => (k : Int) + d | none => -1

theorem endTo_start {ns : List Nd} {k : Nat} (hk : k < ns.length) : endTo ns k 1 = endV ns (k : Int) := by rw [endV_nat]; unfold endN endTo; rw [if_pos hk]; cases endGo (ns.drop k) 1 <;> rfl
theorem endTo_zero (ns : List Nd) (k : Nat) : endTo ns k 0 = (k : Int) := by unfold endTo; rw [endGo_zero]; simp
theorem endTo_over {ns : List Nd} {k o : Nat} (hk : ns.length ≤ k) : endTo ns k (o + 1) = -1 := by unfold endTo; rw [end_over hk]
theorem endTo_bad {ns : List Nd} {k o : Nat} (hk : k < ns.length) (hn : nodeB (ns.getD k nd0) = false) : endTo ns k (o + 1) = -1 := by
  have hg : ns.getD k nd0 = ns[k] := by simp [List.getD, hk]
  rw [hg] at hn
  unfold endTo
  rw [end_bad hk hn]
theorem endTo_round {ns : List Nd} {k o : Nat} (hk : k < ns.length) (hn : nodeB (ns.getD k nd0) = true) : endTo ns k (o + 1) = endTo ns (k + 1) (o + kidsN (ns.getD k nd0)) := by
  have hg : ns.getD k nd0 = ns[k] := by simp [List.getD, hk]
  rw [hg] at hn ⊢
  unfold endTo
  rw [end_round hk hn]
  cases endGo (ns.drop (k + 1)) (o + kidsN ns[k]) with
  | none => rfl
  | some d => simp only [Option.map_some]; omega

set_option maxHeartbeats 2000000 in
set_option maxRecDepth 100000 in
theorem specEndOf (a : Option Addr) (len cap : Nat) (ns : List Nd) (at_ : Int) (w : World) (hin : NodesIn w a len ns) (hsh : ShortT ns) (hlen : len ≤ 1048576) :
    Calls Try.prog 104 #[.slice a len cap, .int .i64 at_] w fun e w' => e = .returned (.int .i64 (endV ns at_)) ∧ Below w.heap.size w w' := by
  obtain rfl : ns.length = len := hin.1
  by_cases hout : at_ < 0 ∨ (ns.length : Int) ≤ at_
  · have HE : Hid (endV ns at_ = -1) := endV_out ns at_ hout
    by_cases h0 : at_ < 0
    · go_enter Try.func104, Try.ntmps104
      go_wp2
      go_ret
      exact ⟨by rw [HE.out]; rfl, Below.refl _ _⟩
    · have h1 : (ns.length : Int) ≤ at_ := by omega
      clear hout
      go_enter Try.func104, Try.ntmps104
      go_wp2
      go_ret
      exact ⟨by rw [HE.out]; rfl, Below.refl _ _⟩
  · obtain ⟨k0, rfl⟩ : ∃ k0 : Nat, at_ = (k0 : Int) := Int.eq_ofNat_of_zero_le (by omega)
    have hk0 : k0 < ns.length := by omega
    have h0 : ¬ (k0 : Int) < 0 := by omega
    have h1 : ¬ (ns.length : Int) ≤ (k0 : Int) := by omega
    have HE : Hid (endTo ns k0 1 = endV ns (k0 : Int)) := endTo_start hk0
    have HI : Hid (NodesIn w a ns.length ns) := hin
    have HS : Hid (ShortT ns) := hsh
    clear hout hin hsh
    go_enter Try.func104, Try.ntmps104
    go_wp2
    go_loopw [1, 5] (fun av ov wr => ∃ k o : Nat, av = .int .i64 k ∧ ov = .int .i64 o ∧ k ≤ ns.length ∧ o ≤ 1 + 3 * k ∧ Hid (endTo ns k o = endV ns (k0 : Int)) ∧ Below w.heap.size w wr) (fun av _ _ => ns.length - (intOf av).toNat)
    case atStart => exact ⟨k0, 1, rfl, rfl, by omega, by omega, HE, Below.refl _ _⟩
    case round =>
      obtain ⟨k, o, rfl, rfl, hk, ho, HT, hb⟩ := hrel
      clear HE
      by_cases hoz : o = 0
      · subst hoz
        have HF : Hid ((k : Int) = endV ns (k0 : Int)) := by exact (by rw [← HT.out, endTo_zero] : (k : Int) = endV ns (k0 : Int))
        go_wp2
        go_ret
        exact ⟨by rw [← HF.out]; rfl, hb⟩
      · obtain ⟨o', rfl⟩ : ∃ o', o = o' + 1 := ⟨o - 1, by omega⟩
        have ho1 : (0 : Int) < ((o' + 1 : Nat) : Int) := by omega
        by_cases hkl : (ns.length : Int) ≤ (k : Int)
        · have HF : Hid (endV ns (k0 : Int) = -1) := by exact (by rw [← HT.out, endTo_over (by omega)] : endV ns (k0 : Int) = -1)
          clear hoz
          go_wp2
          go_ret
          exact ⟨by rw [HF.out]; rfl, hb⟩
        · obtain ⟨b, off, rfl, hbl, hcells⟩ := (HI.out.below hb).at (by omega)
          obtain ⟨c0, c1, c2, c3⟩ := hcells k (by omega)
          have hs := HS.out k
          obtain ⟨n, hn⟩ : ∃ n, ns.getD k nd0 = n := ⟨_, rfl⟩
          rw [hn] at c0 c1 c2 c3 hs
          have HN : Hid (ns.getD k nd0 = n) := hn
          have HC : Hid (_) := fun W : World => specNodeOk n W hs.1 hs.2
          have HK : Hid (_) := fun W : World => specKids n W
          have hkv := @kidsV_ok n
          obtain ⟨kd, aa, p, f⟩ := n
          unfold nodeVal at HC HK
          simp only at c0 c1 c2 c3 hs HC HK
          clear hn hcells hoz
          go_wp2_with fail
          refine Calls.mono (HC.out _) ?_
          rintro e w1 ⟨rfl, hb1⟩
          have hB1 := hb.trans (hb1.mono hb.size)
          have bc := hb1.block b hbl
          have d0 := (World.cell?_of_block (a := ⟨b, off + k * 4, none⟩) bc).trans c0
          have d1 := (World.cell?_of_block (a := ⟨b, off + k * 4 + 1, none⟩) bc).trans c1
          have d2 := (World.cell?_of_block (a := ⟨b, off + k * 4 + 2, none⟩) bc).trans c2
          have d3 := (World.cell?_of_block (a := ⟨b, off + k * 4 + 3, none⟩) bc).trans c3
          clear c0 c1 c2 c3 hb1 hb HC bc
          rcases hnb : nodeB (kd, aa, p, f) with _ | _
          · have HF : Hid (endV ns (k0 : Int) = -1) := by exact (by rw [← HT.out, endTo_bad (by omega) (by rw [HN.out]; exact hnb)] : endV ns (k0 : Int) = -1)
            clear hnb hkv
            go_wp2
            go_ret
            exact ⟨by rw [HF.out]; rfl, hB1⟩
          · obtain ⟨hk1, hk3⟩ := hkv hnb
            have HT2 : Hid (endTo ns (k + 1) (o' + kidsN (kd, aa, p, f)) = endV ns (k0 : Int)) := by
              have := endTo_round (o := o') (show k < ns.length by omega) (by rw [HN.out]; exact hnb)
              rw [HN.out] at this
              exact (by rw [← this]; exact HT.out : endTo ns (k + 1) (o' + kidsN (kd, aa, p, f)) = endV ns (k0 : Int))
            clear hnb hkv
            go_wp2_with fail
            refine Calls.mono (HK.out _) ?_
            rintro e w2 ⟨rfl, hb2⟩
            rw [hk1]
            have hB2 := hB1.trans (hb2.mono hB1.size)
            obtain ⟨q, hq⟩ : ∃ q, kidsN (kd, aa, p, f) = q := ⟨_, rfl⟩
            rw [hq] at HT2 hk3 ⊢
            have hqi : (q : Int) ≤ 3 := by omega
            clear hk1 hq hb2 hB1 d0 d1 d2 d3 HK
            go_wp2
            go_roundw
            case rel => exact ⟨k + 1, o' + q, by go_num, by go_num, by omega, by omega, HT2, hB2⟩
            case measure => simp [intOf]; omega

end Go.Proofs.Ytnflkecnddbhoaa

/-! Plain facts for chapter 7 (packages). -/
namespace Go.Proofs.Ytnflkecnddbhoaa
open Go.RowKit

def leT (a b : List UInt8) : Bool := Op.bytesLess a b || (a == b)

/-- Each is behind the one ahead of it. -/
def riseB (l : List (List UInt8)) : Bool := decide (∀ i, i < l.length - 1 → leT (l.getD (i + 1) []) (l.getD i []) = false)
def importsB (l : List (List UInt8)) : Bool := decide (∀ i, i < l.length → nameB (l.getD i []) = true) && (decide (l.length ≤ 6) && riseB l)
/-- A function: its name, how many arguments, its tree. -/
abbrev Fn := List UInt8 × Int × List Nd
/-- A package: its name, its imports, its functions. -/
abbrev Pk := List UInt8 × List (List UInt8) × List Fn

def fn0 : Fn := ([], 0, [])
def funcB (f : Fn) : Bool := nameB f.1 && (inB f.2.1 0 3 && treeB f.2.2)

/-- The first of such a name, from k on. -/
def atGo (s : List UInt8) : List Fn → Nat → Int
  | [], _ => -1
  | f :: r, k => if f.1 = s then (k : Int) else atGo s r (k + 1)
def atV (fs : List Fn) (s : List UInt8) : Int := atGo s fs 0

def funcsOk (fs : List Fn) (i : Nat) : Prop := funcB (fs.getD i fn0) = true ∧ atV fs (fs.getD i fn0).1 = (i : Int)
instance (fs : List Fn) (i : Nat) : Decidable (funcsOk fs i) := by unfold funcsOk; infer_instance

def pkgB (p : Pk) : Bool := (nameB p.1 && (importsB p.2.1 && inB (p.2.2.length : Int) 1 8)) && decide (∀ i, i < p.2.2.length → funcsOk p.2.2 i)

end Go.Proofs.Ytnflkecnddbhoaa

/-! Plain facts for chapter 3: a text in pieces. -/
namespace Go.Proofs.Ytnflkecnddbhoaa
open Go.RowKit

def chunksGo : Nat → Nat → List UInt8 → List (List UInt8)
  | 0, _, _ => []
  | f + 1, n, l => if l = [] then [] else l.take n :: chunksGo f n (l.drop n)

def chunksL (l : List UInt8) (size : Int) : List (List UInt8) := if size < 1 then [] else chunksGo l.length size.toNat l

end Go.Proofs.Ytnflkecnddbhoaa
