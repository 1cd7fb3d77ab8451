/-
  Parts of one proof, one behind the other: HexOf, WordS, TextS, TextS2, TextS3, Turned, TextS4, TextS5.
-/
import Derived.Test.YtaioedcaopbgkaaP1
import Derived.Test.YtaioedcaopbgkaaRows
import Derived.WalkKit
import Derived.WalkLawsBesides
import Derived.Laws.IdiomStrings
import Derived.OpenShut
import Derived.Handy
import Derived.Laws.Concat

/-! The contracts of spec.HexOf and impl.HexOf. -/
namespace Go.Proofs.Ytaioedcaopbgkaa
open Go.RowKit

theorem back8 (b0 b1 b2 b3 b4 b5 b6 b7 : UInt8) (w : World) :
 (convert 22 9 (.slice (some ⟨w.heap.size, 0, none⟩) 8 8)).run Try.prog (w.alloc (.cells #[.int .u8 b0.toNat, .int .u8 b1.toNat, .int .u8 b2.toNat, .int .u8 b3.toNat, .int .u8 b4.toNat, .int .u8 b5.toNat, .int .u8 b6.toNat, .int .u8 b7.toNat] 5)) =
  .ok (.string ⟨#[b0, b1, b2, b3, b4, b5, b6, b7]⟩) (w.alloc (.cells #[.int .u8 b0.toNat, .int .u8 b1.toNat, .int .u8 b2.toNat, .int .u8 b3.toNat, .int .u8 b4.toNat, .int .u8 b5.toNat, .int .u8 b6.toNat, .int .u8 b7.toNat] 5)) := by
 have h := run_convert_bytes_back (P := Try.prog) (w.alloc (.cells #[.int .u8 b0.toNat, .int .u8 b1.toNat, .int .u8 b2.toNat, .int .u8 b3.toNat, .int .u8 b4.toNat, .int .u8 b5.toNat, .int .u8 b6.toNat, .int .u8 b7.toNat] 5)) 22 9 5 ⟨w.heap.size, 0, none⟩ 8 [b0, b1, b2, b3, b4, b5, b6, b7] Try.underlying22 Try.underlying5 Try.underlying9 (by
  intro j hj
  have hj' : j < 8 := by simpa using hj
  match j, hj' with
  | 0, _ => simp [Addr.add, go_sem]
  | 1, _ => simp [Addr.add, go_sem]
  | 2, _ => simp [Addr.add, go_sem]
  | 3, _ => simp [Addr.add, go_sem]
  | 4, _ => simp [Addr.add, go_sem]
  | 5, _ => simp [Addr.add, go_sem]
  | 6, _ => simp [Addr.add, go_sem]
  | 7, _ => simp [Addr.add, go_sem])
 exact h

set_option maxHeartbeats 400000 in
set_option maxRecDepth 100000 in
theorem specL1Hex (n : Int) (w : World) (h0 : 0 ≤ n) (h1 : n ≤ 4294967295) :
 Calls Try.prog 74 #[.int .i64 n] w fun e w' => e = .returned (.string ⟨(hexL n.toNat).toArray⟩) ∧ Below w.heap.size w w' := by
 have hmk : ∀ w, (Instr.makeSlice 22 (.int .i64 8) (.int .i64 8)).run Try.prog w = .ok (.slice (some ⟨w.heap.size, 0, none⟩) 8 8) (w.alloc (.cells #[.int .u8 0, .int .u8 0, .int .u8 0, .int .u8 0, .int .u8 0, .int .u8 0, .int .u8 0, .int .u8 0] 5)) := fun _ => by kernel_rfl
 have hD : ∀ (m : Int) (h : m.toNat < (ByteArray.mk #[48, 49, 50, 51, 52, 53, 54, 55, 56, 57, 97, 98, 99, 100, 101, 102]).size), (ByteArray.mk #[48, 49, 50, 51, 52, 53, 54, 55, 56, 57, 97, 98, 99, 100, 101, 102])[m.toNat] = hexD m.toNat := hexD_at
 have hback := back8
 go_enter Try.func74, Try.ntmps74
 go_wp2
 go_rounds 9
 go_ret
 exact ⟨ret_str (hexW n h0), (Below.refl _ _).alloc (Nat.le_refl _) _⟩


set_option maxHeartbeats 400000 in
set_option maxRecDepth 100000 in
theorem specIn (x lo hi : Int) (w : World) :
 Calls Try.prog 36 #[.int .i64 x, .int .i64 lo, .int .i64 hi] w fun e w' => e = .returned (.bool (inB x lo hi)) ∧ w' = w := by
 by_cases h1 : lo ≤ x
 ·
  by_cases h2 : x ≤ hi
  ·
   have hB : Hid (inB x lo hi = true) := inB_yes x lo hi h1 h2
   go_enter Try.func36, Try.ntmps36
   go_wp2
   go_ret
   exact ⟨by rw [hB.out]; rfl, rfl⟩
  ·
   have hB : Hid (inB x lo hi = false) := inB_no x lo hi (Or.inr (by omega))
   go_enter Try.func36, Try.ntmps36
   go_wp2
   go_ret
   exact ⟨by rw [hB.out]; rfl, rfl⟩
 ·
  have hB : Hid (inB x lo hi = false) := inB_no x lo hi (Or.inl (by omega))
  go_enter Try.func36, Try.ntmps36
  go_wp2
  go_ret
  exact ⟨by rw [hB.out]; rfl, rfl⟩



end Go.Proofs.Ytaioedcaopbgkaa

/-! The contracts of chapter 4's specification: WordOk, Wrap, Done. -/
namespace Go.Proofs.Ytaioedcaopbgkaa
open Go.RowKit

set_option maxHeartbeats 400000 in
set_option maxRecDepth 100000 in
theorem specWordOk (n : Int) (w : World) : Calls Try.prog 94 #[.int .i64 n] w fun e w' => e = .returned (.bool (inB n (-2147483648) 2147483647)) ∧ w' = w := by
 go_enter Try.func94, Try.ntmps94
 go_wp2_with (go_at_call 36; refine (specIn _ _ _ _).mono ?_; rintro e w' ⟨rfl, rfl⟩)
 go_ret
 exact ⟨rfl, rfl⟩


theorem ret_ib {m n : Int} {c d : Bool} (h : m = n) (j : c = d) : Ending.returned (.tuple #[.int .i64 m, .bool c]) = .returned (.tuple #[.int .i64 n, .bool d]) := by rw [h, j]



end Go.Proofs.Ytaioedcaopbgkaa

/-! The contracts of chapter 5's specification: pieces, Lines, Words, NameOk. -/
namespace Go.Proofs.Ytaioedcaopbgkaa
open Go.RowKit

set_option maxHeartbeats 2000000 in
set_option maxRecDepth 100000 in
theorem specSplit (l : List UInt8) (b : UInt8) (c : Int) (w : World) (hc : c = (b.toNat : Int)) (hl : l.length ≤ 1048576) :
 Calls Try.prog 77 #[.string ⟨l.toArray⟩, .int .u8 c] w fun e w' => ∃ g cp, e = .returned (.slice (some ⟨g, 0, none⟩) (splitL b l).length cp) ∧ w'.ownsRow w.heap.size 9 1 (.slice (some ⟨g, 0, none⟩) (splitL b l).length cp) (splitL b l).length (strV (splitL b l)) ∧ Below w.heap.size w w' := by
 obtain ⟨i0, hi, hz0, hz1, hz2⟩ := info_parts info9
 have hext := ext_list
 have hown0 := (World.ownsRow_lit (base := w.heap.size) (e := 9) (size := 1) w #[] 0 (Nat.le_refl _) (by decide) rfl)
 have HC : Hid (c = (b.toNat : Int)) := hc
 clear hc
 go_enter Try.func77, Try.ntmps77
 go_wp2
 go_loopw [5, 6, 7] (fun v fr ix wr => ∃ (o : List (List UInt8)) (f i g cp : Nat), v = .slice (some ⟨g, 0, none⟩) o.length cp ∧ fr = .int .i64 f ∧ ix = .int .i64 i ∧ o.length ≤ i ∧ i ≤ l.length + 1 ∧ Hid ((i ≤ l.length ∧ f ≤ i ∧ o ++ splitGo b ((l.drop f).take (i - f)) (l.drop i) = splitL b l) ∨ (i = l.length + 1 ∧ o = splitL b l)) ∧ wr.ownsRow w.heap.size 9 1 v o.length (strV o) ∧ Below w.heap.size w wr) (fun _ _ ix _ => l.length + 1 - (intOf ix).toNat)
 case atStart => exact ⟨[], 0, 0, w.heap.size, 0, rfl, rfl, rfl, by simp, by omega, (Or.inl ⟨by omega, by omega, by simp [splitL]⟩ : _ ∨ _), hown0, (Below.refl _ _).alloc (Nat.le_refl _) _⟩
 case round =>
  obtain ⟨o, f, i, g, cp, rfl, rfl, rfl, hoi, hil, HG, hown, hb⟩ := hrel
  clear hown0
  by_cases hlt : (i : Int) ≤ (l.length : Int)
  ·
   obtain ⟨_, hfi, hg⟩ : i ≤ l.length ∧ f ≤ i ∧ o ++ splitGo b ((l.drop f).take (i - f)) (l.drop i) = splitL b l := by
    rcases HG.out with h | h
    ·
     exact h
    ·
     omega
   have HE : Hid (o ++ splitGo b ((l.drop f).take (i - f)) (l.drop i) = splitL b l) := hg
   clear hg HG
   have hfi1 : (f : Int) ≤ (i : Int) := by omega
   have hf0 : (0 : Int) ≤ (f : Int) := by omega
   by_cases hend : i = l.length
   ·
    subst hend
    have HF : Hid (o ++ [(l.drop f).take (l.length - f)] = splitL b l) := split_end b l o _ HE.out
    have htk : List.take (l.length - f) (List.drop f l) = List.drop f l := List.take_of_length_le (by rw [List.length_drop]; omega)
    rw [htk] at HF
    clear HE
    go_wp2_with (at_builtin; refine wpList_append_own _ rfl _ _ 59 rfl w.heap.size 9 i0 (.string ⟨#[]⟩) 1 16 Try.underlying59 hi hz0 hz1 hz2 rfl (by decide) _ _ _ rfl (hown.alloc _) ⟨wr.heap.size, 0, none⟩ 1 1 [.string ⟨(l.drop f).toArray⟩] rfl rfl ?c1 ?c2 ?c3 ?c4 ?c5 ?_)
    first | (case c1 => exact cell_one_new _ _ _) | skip
    first | (case c2 => first | rfl | (intro u hu; simp at hu; subst hu; rfl)) | skip
    first | (case c3 => unfold maxLen; omega) | skip
    first | (case c4 => omega) | skip
    first | (case c5 => have := hb.size; simp; try omega) | skip
    intro v' w3 hown3 hgrow3 hnil3
    have hown4 := own_str hown3
    have hv' : v' ≠ .slice none 0 0 := hnil3
    obtain ⟨g', cp', hv⟩ := own_shape hown4 hv'
    have hb3 : Below w.heap.size w w3 := (hb.alloc hb.size _).grown hgrow3 (by have := hb.size; simp; omega) (fun k e => (hown.lt k e).1)
    clear hown3 hgrow3 hnil3 hown hb hv'
    go_wp2
    go_roundw
    case rel => exact ⟨o ++ [l.drop f], l.length + 1, l.length + 1, g', cp', hv, by go_num, by go_num, by rw [List.length_append, List.length_singleton]; omega, by omega, (Or.inr ⟨rfl, HF.out⟩ : _ ∨ _), hown4, hb3⟩
    case measure => simp [intOf]
   ·
    have de : ((i : Int) == (l.length : Int)) = false := beq_eq_false_iff_ne.2 (by omega)
    have hil2 : i < l.length := by omega
    have hil3 : (i : Int) < (l.length : Int) := by omega
    obtain ⟨x, hx⟩ : ∃ x, l[i] = x := ⟨_, rfl⟩
    by_cases hxb : x = b
    ·
     have HF : Hid ((o ++ [(l.drop f).take (i - f)]) ++ splitGo b [] (l.drop (i + 1)) = splitL b l) := split_hit b l o _ i hil2 (by rw [hx]; exact hxb) HE.out
     have dx : ((((⟨l.toArray⟩ : ByteArray)[i]'(by show i < l.toArray.size; simpa using hil2)).toNat : Int) == c) = true := by show ((l[i].toNat : Int) == c) = true; rw [hx, hxb, HC.out]; simp
     clear HE hx hxb hend
     go_wp2_with (at_builtin; refine wpList_append_own _ rfl _ _ 59 rfl w.heap.size 9 i0 (.string ⟨#[]⟩) 1 16 Try.underlying59 hi hz0 hz1 hz2 rfl (by decide) _ _ _ rfl (hown.alloc _) ⟨wr.heap.size, 0, none⟩ 1 1 [.string ⟨((l.drop f).take (i - f)).toArray⟩] rfl rfl ?c1 ?c2 ?c3 ?c4 ?c5 ?_)
     first | (case c1 => exact cell_one_new _ _ _) | skip
     first | (case c2 => first | rfl | (intro u hu; simp at hu; subst hu; rfl)) | skip
     first | (case c3 => unfold maxLen; omega) | skip
     first | (case c4 => omega) | skip
     first | (case c5 => have := hb.size; simp; try omega) | skip
     intro v' w3 hown3 hgrow3 hnil3
     have hown4 := own_str hown3
     have hv' : v' ≠ .slice none 0 0 := hnil3
     obtain ⟨g', cp', hv⟩ := own_shape hown4 hv'
     have hb3 : Below w.heap.size w w3 := (hb.alloc hb.size _).grown hgrow3 (by have := hb.size; simp; omega) (fun k e => (hown.lt k e).1)
     clear hown3 hgrow3 hnil3 hown hb hv'
     go_wp2
     go_roundw
     case rel => exact ⟨o ++ [(l.drop f).take (i - f)], i + 1, i + 1, g', cp', hv, by go_num, by go_num, by rw [List.length_append, List.length_singleton]; omega, by omega, (Or.inl ⟨by omega, by omega, by rw [Nat.sub_self, List.take_zero]; exact HF.out⟩ : _ ∨ _), hown4, hb3⟩
     case measure => simp [intOf]; omega
    ·
     have HF : Hid (o ++ splitGo b ((l.drop f).take (i + 1 - f)) (l.drop (i + 1)) = splitL b l) := by
      have := split_miss b l o _ i hil2 (by rw [hx]; exact hxb) HE.out
      rw [cut_snoc l f i hfi hil2]
      exact this
     have dx : ((((⟨l.toArray⟩ : ByteArray)[i]'(by show i < l.toArray.size; simpa using hil2)).toNat : Int) == c) = false := by show ((l[i].toNat : Int) == c) = false; rw [hx, HC.out]; exact beq_eq_false_iff_ne.2 (fun e => hxb (UInt8.toNat_inj.1 (by omega)))
     clear HE hx hxb hend
     go_wp2
     go_roundw
     case rel => exact ⟨o, f, i + 1, g, cp, rfl, rfl, by go_num, by omega, by omega, (Or.inl ⟨by omega, by omega, HF.out⟩ : _ ∨ _), hown, hb⟩
     case measure => simp [intOf]; omega
  ·
   have HF : Hid (o = splitL b l) := by
    rcases HG.out with h | h
    ·
     omega
    ·
     exact h.2
   go_wp2
   go_ret
   exact ⟨g, cp, by rw [← HF.out]; rfl, by rw [← HF.out]; exact hown, hb⟩

end Go.Proofs.Ytaioedcaopbgkaa

/-! The contracts of chapter 5's specification: Lines, Words, NameOk. -/
namespace Go.Proofs.Ytaioedcaopbgkaa
open Go.RowKit

set_option maxHeartbeats 1000000 in
set_option maxRecDepth 100000 in
theorem specNameOk (l : List UInt8) (w : World) (hl : l.length ≤ 1048576) :
 Calls Try.prog 38 #[.string ⟨l.toArray⟩] w fun e w' => e = .returned (.bool (nameB l)) ∧ w' = w := by
 go_enter Try.func38, Try.ntmps38
 go_wp2
 go_loop [3] (fun ix => ∃ k : Nat, k ≤ l.length ∧ ix = .int .i64 k ∧ Hid (∀ j (hj : j < l.length), j < k → 97 ≤ l[j].toNat ∧ l[j].toNat ≤ 122)) (fun ix => l.length - (intOf ix).toNat)
 case atStart => exact ⟨0, Nat.zero_le _, rfl, (fun j _ h => by omega : ∀ j (hj : j < l.length), j < 0 → _)⟩
 case round =>
  obtain ⟨k, hk, rfl, HK⟩ := hrel
  by_cases hkl : (k : Int) < (l.length : Int)
  ·
   have hk2 : k < l.length := by omega
   obtain ⟨x, hx⟩ : ∃ x : UInt8, l[k] = x := ⟨_, rfl⟩
   have hxb : (⟨l.toArray⟩ : ByteArray)[k]'(by show k < l.toArray.size; simpa using hk2) = x := hx
   by_cases h1 : (x.toNat : Int) < 97
   ·
    have HF : Hid (nameB l = false) := name_bad l k hk2 (by rw [hx]; omega)
    clear hx
    go_wp2
    go_ret
    exact ⟨by rw [HF.out]; rfl, rfl⟩
   ·
    by_cases h2 : 122 < (x.toNat : Int)
    ·
     have HF : Hid (nameB l = false) := name_bad l k hk2 (by rw [hx]; omega)
     clear hx
     go_wp2
     go_ret
     exact ⟨by rw [HF.out]; rfl, rfl⟩
    ·
     have HS : Hid (∀ j (hj : j < l.length), j < k + 1 → 97 ≤ l[j].toNat ∧ l[j].toNat ≤ 122) := fun j hj hjk => by
      by_cases e : j = k
      ·
       subst e; rw [hx]; omega
      ·
       exact HK.out j hj (by omega)
     clear hx
     go_wp2
     go_round
     case rel => exact ⟨k + 1, by omega, by go_num, HS⟩
     case measure => simp [intOf]; omega
  ·
   have HF : Hid (nameB l = inB (l.length : Int) 1 8) := name_good l (fun j hj => HK.out j hj (by omega))
   go_wp2_with (go_at_call 36; refine (specIn _ _ _ _).mono ?_; rintro e w' ⟨rfl, rfl⟩)
   go_ret
   exact ⟨by rw [HF.out]; rfl, rfl⟩

end Go.Proofs.Ytaioedcaopbgkaa

/-! The contracts of chapter 5's specification: a number is read; NumberOf. -/
namespace Go.Proofs.Ytaioedcaopbgkaa
open Go.RowKit

/-- What is read of the digits from place i on, up to place k. -/
def valTo (t : List UInt8) (i k : Nat) : Nat := valL ((t.drop i).take (k - i))

theorem valTo_start (t : List UInt8) (i : Nat) : valTo t i i = 0 := by simp [valTo, valL]

theorem valTo_step (t : List UInt8) (i k : Nat) (hi : i ≤ k) (hk : k < t.length) : valTo t i (k + 1) = valTo t i k * 10 + (t[k].toNat - 48) := by
 unfold valTo
 rw [cut_snoc t i k hi hk, valL_snoc]

theorem valTo_end (t : List UInt8) (i : Nat) : valTo t i t.length = valL (t.drop i) := by
 unfold valTo
 rw [List.take_of_length_le (by rw [List.length_drop]; omega)]

theorem valTo_bd (t : List UInt8) (i k : Nat) (hi : i ≤ k) (hk : k ≤ t.length) (h10 : t.length - i ≤ 10) (h : ∀ j (hj : j < t.length), i ≤ j → j < k → isDig t[j]) : valTo t i k < 10000000000 := by
 unfold valTo
 have hd : ∀ c ∈ (t.drop i).take (k - i), isDig c := by
  intro c hc
  obtain ⟨j, hj, rfl⟩ := List.getElem_of_mem hc
  rw [List.length_take, List.length_drop] at hj
  rw [List.getElem_take, List.getElem_drop]
  exact h (i + j) (by omega) (by omega) (by omega)
 have h1 := valL_bd _ hd
 have h2 : ((t.drop i).take (k - i)).length ≤ 10 := by rw [List.length_take, List.length_drop]; omega
 have h3 : (10 : Nat) ^ ((t.drop i).take (k - i)).length ≤ 10 ^ 10 := Nat.pow_le_pow_right (by omega) h2
 omega

theorem body_drop (t : List UInt8) (i : Nat) (hi : (negB t = true ∧ i = 1) ∨ (negB t = false ∧ i = 0)) : bodyL t = t.drop i := by
 unfold bodyL
 rcases hi with ⟨h, rfl⟩ | ⟨h, rfl⟩
 ·
  rw [if_pos h]; simp
 ·
  rw [if_neg (by rw [h]; simp)]; simp

/-- The four ways in which a text is no number. -/
theorem form_short {t : List UInt8} {i : Nat} (hi : bodyL t = t.drop i) (h : ¬ (1 ≤ t.length - i ∧ t.length - i ≤ 10)) : ¬ formP t := fun hf => by
 have := hf.1
 rw [hi, List.length_drop] at this
 exact h this

theorem form_digit {t : List UInt8} {i k : Nat} (hi : bodyL t = t.drop i) (hik : i ≤ k) (hk : k < t.length) (h : ¬ isDig t[k]) : ¬ formP t := fun hf => by
 refine h (hf.2.1 t[k] ?_)
 rw [hi, List.mem_iff_getElem]
 exact ⟨k - i, by rw [List.length_drop]; omega, by rw [List.getElem_drop]; congr 1; omega⟩

theorem form_head {t : List UInt8} {i : Nat} (hi : bodyL t = t.drop i) (hl : i < t.length) : (bodyL t).head? = some t[i] := by
 rw [hi, List.head?_drop, List.getElem?_eq_getElem hl]

theorem form_yes {t : List UInt8} {i : Nat} (hi : bodyL t = t.drop i) (h1 : 1 ≤ t.length - i ∧ t.length - i ≤ 10) (h2 : ∀ j (hj : j < t.length), i ≤ j → isDig t[j]) (h3 : ¬ ((bodyL t).head? = some 48 ∧ 1 < t.length)) : formP t := by
 refine ⟨by rw [hi, List.length_drop]; exact h1, ?_, h3⟩
 intro c hc
 rw [hi] at hc
 obtain ⟨j, hj, rfl⟩ := List.getElem_of_mem hc
 rw [List.length_drop] at hj
 rw [List.getElem_drop]
 exact h2 (i + j) (by omega) (by omega)

theorem readV_no {t : List UInt8} (h : ¬ formP t) : readV t = 0 ∧ readB t = false := by
 unfold readV
 rw [readB_no h]
 exact ⟨if_neg (by simp), rfl⟩

theorem readV_yes {t : List UInt8} {i : Nat} (h : formP t) (hi : bodyL t = t.drop i) : readV t = (if negB t = true then -(valTo t i t.length : Int) else (valTo t i t.length : Int)) ∧ readB t = true := by
 unfold readV
 rw [if_pos (readB_yes h), hi, valTo_end]
 exact ⟨rfl, readB_yes h⟩

set_option maxHeartbeats 4000000 in
set_option maxRecDepth 100000 in
theorem specRead (t : List UInt8) (w : World) (hl : t.length ≤ 1048576) :
 Calls Try.prog 78 #[.string ⟨t.toArray⟩] w fun e w' => e = .returned (.tuple #[.int .i64 (readV t), .bool (readB t)]) ∧ w' = w := by
 by_cases hte : t = []
 ·
  subst hte
  have HO : Hid (readV ([] : List UInt8) = 0 ∧ readB ([] : List UInt8) = false) := readV_no (fun hf => by have := hf.1; simp [bodyL, negB] at this)
  go_enter Try.func78, Try.ntmps78
  go_wp2
  go_ret2
  exact ⟨by rw [HO.out.1, HO.out.2]; rfl, rfl⟩
 ·
  have htl : 0 < t.length := List.length_pos_iff.2 hte
  have htb : t.isEmpty = false := by simp [hte]
  obtain ⟨x0, hx0⟩ : ∃ x0, t[0] = x0 := ⟨_, rfl⟩
  have hx0b : (⟨t.toArray⟩ : ByteArray)[0]'(by show 0 < t.toArray.size; simpa using htl) = x0 := hx0
  have hng : negB t = (x0 == 45) := by
   unfold negB
   cases t with
   | nil => exact absurd rfl hte
   | cons y r => simp at hx0; rw [← hx0]; simp
  have HX0 : Hid (t[0] = x0) := hx0
  clear hx0 hte
  by_cases hxm : x0 = 45
  ·
   have hdx : ((x0.toNat : Int) == 45) = true := by rw [hxm]; rfl
   have hn : negB t = true := by rw [hng]; rw [hxm]; rfl
   have hbd := body_drop t 1 (Or.inl ⟨hn, rfl⟩)
   have HB : Hid (bodyL t = t.drop 1) := hbd
   have HNG : Hid (negB t = true) := hn
   clear hng hn hbd hxm
   by_cases hs1 : t.length = 1
   ·
    have HO : Hid (readV t = 0 ∧ readB t = false) := readV_no (form_short HB.out (by omega))
    have hs1' : (t.length : Int) - 1 < 1 := by omega
    clear hs1
    go_enter Try.func78, Try.ntmps78
    go_wp2
    go_ret2
    exact ⟨by rw [HO.out.1, HO.out.2]; rfl, rfl⟩
   have hs1' : ¬ (t.length : Int) - 1 < 1 := by omega
   by_cases hs2 : 10 < (t.length : Int) - 1
   ·
    have HO : Hid (readV t = 0 ∧ readB t = false) := readV_no (form_short HB.out (by omega))
    go_enter Try.func78, Try.ntmps78
    go_wp2
    go_ret2
    exact ⟨by rw [HO.out.1, HO.out.2]; rfl, rfl⟩
   go_enter Try.func78, Try.ntmps78
   go_wp2
   go_loop [6, 7] (fun nv ix => ∃ k : Nat, 1 ≤ k ∧ k ≤ t.length ∧ ix = .int .i64 k ∧ nv = .int .i64 (valTo t 1 k : Nat) ∧ Hid (∀ j (hj : j < t.length), 1 ≤ j → j < k → isDig t[j])) (fun _ ix => t.length - (intOf ix).toNat)
   case atStart => exact ⟨1, by omega, by omega, rfl, by rw [valTo_start]; rfl, (fun j hj h1 h2 => by omega : ∀ j (hj : j < t.length), 1 ≤ j → j < 1 → isDig t[j])⟩
   case round =>
    obtain ⟨k, hk0, hk1, rfl, rfl, HK⟩ := hrel
    have hvb := valTo_bd t 1 k hk0 hk1 (by omega) HK.out
    have hvb2 : (valTo t 1 k : Int) < 10000000000 := by omega
    by_cases hkl : (k : Int) < (t.length : Int)
    ·
     have hk2 : k < t.length := by omega
     obtain ⟨x, hx⟩ : ∃ x : UInt8, t[k] = x := ⟨_, rfl⟩
     have hxb : (⟨t.toArray⟩ : ByteArray)[k]'(by show k < t.toArray.size; simpa using hk2) = x := hx
     by_cases hd1 : (x.toNat : Int) < 48
     ·
      have HO : Hid (readV t = 0 ∧ readB t = false) := readV_no (form_digit HB.out hk0 hk2 (by rw [hx]; unfold isDig; omega))
      clear hx
      go_wp2
      go_ret2
      exact ⟨by rw [HO.out.1, HO.out.2]; rfl, rfl⟩
     ·
      by_cases hd2 : 57 < (x.toNat : Int)
      ·
       have HO : Hid (readV t = 0 ∧ readB t = false) := readV_no (form_digit HB.out hk0 hk2 (by rw [hx]; unfold isDig; omega))
       clear hx
       go_wp2
       go_ret2
       exact ⟨by rw [HO.out.1, HO.out.2]; rfl, rfl⟩
      ·
       have HS : Hid (∀ j (hj : j < t.length), 1 ≤ j → j < k + 1 → isDig t[j]) := fun j hj h1 h2 => by
        by_cases e : j = k
        ·
         subst e; rw [hx]; unfold isDig; omega
        ·
         exact HK.out j hj h1 (by omega)
       have hst := valTo_step t 1 k hk0 hk2
       rw [hx] at hst
       have HV : Hid (valTo t 1 (k + 1) = valTo t 1 k * 10 + (x.toNat - 48)) := hst
       clear hx hst
       go_wp2
       go_round
       case rel => exact ⟨k + 1, by omega, by omega, by go_num, by rw [HV.out, show (((valTo t 1 k * 10 + (x.toNat - 48) : Nat)) : Int) = (valTo t 1 k : Int) * 10 + ((x.toNat : Int) - 48) by omega], HS⟩
       case measure => simp [intOf]; omega
    ·
     obtain rfl : k = t.length := by omega
     have hIl : 1 < t.length := by omega
     obtain ⟨y, hy⟩ : ∃ y : UInt8, t[1] = y := ⟨_, rfl⟩
     have hyb : (⟨t.toArray⟩ : ByteArray)[1]'(by show 1 < t.toArray.size; simpa using hIl) = y := hy
     have hhd := form_head HB.out hIl
     rw [hy] at hhd
     by_cases hy0 : y = 48
     ·
      have HO : Hid (readV t = 0 ∧ readB t = false) := readV_no (fun hf => hf.2.2 ⟨by rw [hhd, hy0], by omega⟩)
      have hdy : ((y.toNat : Int) == 48) = true := by rw [hy0]; rfl
      clear hy hy0
      clear hhd
      go_wp2
      go_ret2
      exact ⟨by rw [HO.out.1, HO.out.2]; rfl, rfl⟩
     ·
      have hdy : ((y.toNat : Int) == 48) = false := beq_eq_false_iff_ne.2 (fun e => hy0 (UInt8.toNat_inj.1 (by have h48 : (48 : UInt8).toNat = 48 := rfl; omega)))
      have hf : formP t := form_yes HB.out (by omega) (fun j hj h1 => HK.out j hj h1 (by omega)) (fun h => hy0 (by have := h.1; rw [hhd] at this; exact Option.some.inj this))
      have hv := readV_yes hf HB.out
      rw [HNG.out] at hv
      have HV : Hid (readV t = -(valTo t 1 t.length : Int) ∧ readB t = true) := by
       exact (by simpa using hv : readV t = -(valTo t 1 t.length : Int) ∧ readB t = true)
      clear hf hv hhd
      clear hy hy0
      go_wp2
      go_ret2
      exact ⟨by rw [HV.out.1, HV.out.2]; rfl, rfl⟩
  ·
   have hdx : ((x0.toNat : Int) == 45) = false := beq_eq_false_iff_ne.2 (fun e => hxm (UInt8.toNat_inj.1 (by have h45 : (45 : UInt8).toNat = 45 := rfl; omega)))
   have hn : negB t = false := by rw [hng]; exact beq_eq_false_iff_ne.2 hxm
   have hbd := body_drop t 0 (Or.inr ⟨hn, rfl⟩)
   have HB : Hid (bodyL t = t.drop 0) := hbd
   have HNG : Hid (negB t = false) := hn
   clear hng hn hbd hxm
   have hs1' : ¬ (t.length : Int) < 1 := by omega
   by_cases hs2 : 10 < (t.length : Int)
   ·
    have HO : Hid (readV t = 0 ∧ readB t = false) := readV_no (form_short HB.out (by omega))
    go_enter Try.func78, Try.ntmps78
    go_wp2
    go_ret2
    exact ⟨by rw [HO.out.1, HO.out.2]; rfl, rfl⟩
   go_enter Try.func78, Try.ntmps78
   go_wp2
   go_loop [6, 7] (fun nv ix => ∃ k : Nat, 0 ≤ k ∧ k ≤ t.length ∧ ix = .int .i64 k ∧ nv = .int .i64 (valTo t 0 k : Nat) ∧ Hid (∀ j (hj : j < t.length), 0 ≤ j → j < k → isDig t[j])) (fun _ ix => t.length - (intOf ix).toNat)
   case atStart => exact ⟨0, by omega, by omega, rfl, by rw [valTo_start]; rfl, (fun j hj h1 h2 => by omega : ∀ j (hj : j < t.length), 0 ≤ j → j < 0 → isDig t[j])⟩
   case round =>
    obtain ⟨k, hk0, hk1, rfl, rfl, HK⟩ := hrel
    have hvb := valTo_bd t 0 k hk0 hk1 (by omega) HK.out
    have hvb2 : (valTo t 0 k : Int) < 10000000000 := by omega
    by_cases hkl : (k : Int) < (t.length : Int)
    ·
     have hk2 : k < t.length := by omega
     obtain ⟨x, hx⟩ : ∃ x : UInt8, t[k] = x := ⟨_, rfl⟩
     have hxb : (⟨t.toArray⟩ : ByteArray)[k]'(by show k < t.toArray.size; simpa using hk2) = x := hx
     by_cases hd1 : (x.toNat : Int) < 48
     ·
      have HO : Hid (readV t = 0 ∧ readB t = false) := readV_no (form_digit HB.out hk0 hk2 (by rw [hx]; unfold isDig; omega))
      clear hx
      go_wp2
      go_ret2
      exact ⟨by rw [HO.out.1, HO.out.2]; rfl, rfl⟩
     ·
      by_cases hd2 : 57 < (x.toNat : Int)
      ·
       have HO : Hid (readV t = 0 ∧ readB t = false) := readV_no (form_digit HB.out hk0 hk2 (by rw [hx]; unfold isDig; omega))
       clear hx
       go_wp2
       go_ret2
       exact ⟨by rw [HO.out.1, HO.out.2]; rfl, rfl⟩
      ·
       have HS : Hid (∀ j (hj : j < t.length), 0 ≤ j → j < k + 1 → isDig t[j]) := fun j hj h1 h2 => by
        by_cases e : j = k
        ·
         subst e; rw [hx]; unfold isDig; omega
        ·
         exact HK.out j hj h1 (by omega)
       have hst := valTo_step t 0 k hk0 hk2
       rw [hx] at hst
       have HV : Hid (valTo t 0 (k + 1) = valTo t 0 k * 10 + (x.toNat - 48)) := hst
       clear hx hst
       go_wp2
       go_round
       case rel => exact ⟨k + 1, by omega, by omega, by go_num, by rw [HV.out, show (((valTo t 0 k * 10 + (x.toNat - 48) : Nat)) : Int) = (valTo t 0 k : Int) * 10 + ((x.toNat : Int) - 48) by omega], HS⟩
       case measure => simp [intOf]; omega
    ·
     obtain rfl : k = t.length := by omega
     have hIl : 0 < t.length := by omega
     have hy := HX0.out
     have hhd := form_head HB.out hIl
     rw [hy] at hhd
     by_cases hy0 : x0 = 48
     ·
      have hdy : ((x0.toNat : Int) == 48) = true := by rw [hy0]; rfl
      by_cases h1l : 1 < (t.length : Int)
      ·
       have HO : Hid (readV t = 0 ∧ readB t = false) := readV_no (fun hf => hf.2.2 ⟨by rw [hhd, hy0], by omega⟩)
       clear hy hy0
       clear hhd
       go_wp2
       go_ret2
       exact ⟨by rw [HO.out.1, HO.out.2]; rfl, rfl⟩
      ·
       have hf : formP t := form_yes HB.out (by omega) (fun j hj h1 => HK.out j hj h1 (by omega)) (fun h => absurd h.2 (by omega))
       have hv := readV_yes hf HB.out
       rw [HNG.out] at hv
       have HV : Hid (readV t = (valTo t 0 t.length : Int) ∧ readB t = true) := by
        exact (by simpa using hv : readV t = (valTo t 0 t.length : Int) ∧ readB t = true)
       clear hf hv hhd
       clear hy hy0
       go_wp2
       go_ret2
       exact ⟨by rw [HV.out.1, HV.out.2]; rfl, rfl⟩
     ·
      have hdy : ((x0.toNat : Int) == 48) = false := beq_eq_false_iff_ne.2 (fun e => hy0 (UInt8.toNat_inj.1 (by have h48 : (48 : UInt8).toNat = 48 := rfl; omega)))
      have hf : formP t := form_yes HB.out (by omega) (fun j hj h1 => HK.out j hj h1 (by omega)) (fun h => hy0 (by have := h.1; rw [hhd] at this; exact Option.some.inj this))
      have hv := readV_yes hf HB.out
      rw [HNG.out] at hv
      have HV : Hid (readV t = (valTo t 0 t.length : Int) ∧ readB t = true) := by
       exact (by simpa using hv : readV t = (valTo t 0 t.length : Int) ∧ readB t = true)
      clear hf hv hhd
      clear hy hy0
      go_wp2
      go_ret2
      exact ⟨by rw [HV.out.1, HV.out.2]; rfl, rfl⟩

end Go.Proofs.Ytaioedcaopbgkaa

/-! The contracts of spec.Turned and impl.Turned. -/
namespace Go.Proofs.Ytaioedcaopbgkaa
open Go.RowKit

end Go.Proofs.Ytaioedcaopbgkaa

/-! The contracts of chapter 5's specification: NumberOf; a number is written (l1Int, digits). -/
namespace Go.Proofs.Ytaioedcaopbgkaa
open Go.RowKit


theorem back1p (t : Int) (h2 : 0 ≤ t) (h3 : t ≤ 255) (W : World) :
 (convert 22 9 (.slice (some ⟨W.heap.size, 0, none⟩) 1 1)).run Try.prog (W.alloc (.cells #[.int .u8 t] 5)) = .ok (.string ⟨#[UInt8.ofNat t.toNat]⟩) (W.alloc (.cells #[.int .u8 t] 5)) := by
 have ht : ((UInt8.ofNat t.toNat).toNat : Int) = t := by
  rw [UInt8.toNat_ofNat']; omega
 have h := run_convert_bytes_back (P := Try.prog) (W.alloc (.cells #[.int .u8 t] 5)) 22 9 5 ⟨W.heap.size, 0, none⟩ 1 [UInt8.ofNat t.toNat] Try.underlying22 Try.underlying5 Try.underlying9 (by
  intro j hj
  have hj' : j < 1 := by simpa using hj
  match j, hj' with
  | 0, _ => simp only [List.getElem_cons_zero, ht]; simp [Addr.add, go_sem])
 exact h

theorem back_dig (k : Nat) (W : World) :
 (convert 22 9 (.slice (some ⟨W.heap.size, 0, none⟩) 1 1)).run Try.prog (W.alloc (.cells #[.int .u8 (48 + (k : Int) % 10)] 5)) = .ok (.string ⟨[digit k].toArray⟩) (W.alloc (.cells #[.int .u8 (48 + (k : Int) % 10)] 5)) := by
 have h := back1p (48 + (k : Int) % 10) (by omega) (by omega) W
 have e : UInt8.ofNat (48 + (k : Int) % 10).toNat = digit k := by unfold digit; congr 1
 rw [e] at h
 exact h


end Go.Proofs.Ytaioedcaopbgkaa

/-! The contract of l1Int: a number is written, with a minus ahead below 0. -/
namespace Go.Proofs.Ytaioedcaopbgkaa
open Go.RowKit

set_option maxHeartbeats 1000000 in
set_option maxRecDepth 100000 in
theorem specIntPos (N : Nat) (w : World) (hN : (N : Int) ≤ 9223372036854775807) :
 Calls Try.prog 63 #[.int .i64 (N : Int)] w fun e w' => e = .returned (.string ⟨(digL N).toArray⟩) ∧ Below w.heap.size w w' := by
 have hcat := cat_list
 have hneg : decide ((N : Int) < 0) = false := decide_eq_false (by omega)
 go_enter Try.func63, Try.ntmps63
 go_wp2
 go_loopw [0, 3] (fun nv sv wr => ∃ (k : Nat) (s : List UInt8), nv = .int .i64 k ∧ sv = .string ⟨s.toArray⟩ ∧ (k : Int) ≤ 9223372036854775807 ∧ Hid (digTo k s = digL N) ∧ Below w.heap.size w wr) (fun nv sv _ => (intOf nv).toNat + (match sv with | .string b => if b.size = 0 then 1 else 0 | _ => 0))
 case atStart => exact ⟨N, [], rfl, rfl, hN, digTo_start N, Below.refl _ _⟩
 case round =>
  obtain ⟨k, s, rfl, rfl, hk, HD, hb⟩ := hrel
  have hs19 : (s.length : Int) ≤ 19 := by have := digTo_len k N s HD.out (by omega); omega
  by_cases hc : s = [] ∨ k ≠ 0
  ·
   have hbk := back_dig k wr
   have HD2 : Hid (digTo (k / 10) (digit k :: s) = digL N) := by exact (by rw [digTo_step k s hc]; exact HD.out : digTo (k / 10) (digit k :: s) = digL N)
   have hd10 : ((k / 10 : Nat) : Int) = (k : Int) / 10 := by omega
   have hnn : ¬ (k : Int) % 10 < 0 := by omega
   rcases hc with rfl | hc
   ·
    go_wp2
    refine ⟨⟨k / 10, [digit k], by rw [hd10], rfl, by omega, HD2, hb.alloc hb.size _⟩, ?_⟩
    simp [intOf, ByteArray.size]
    omega
   ·
    have hk0 : ((k : Int) != 0) = true := bne_iff_ne.2 (by omega)
    by_cases hs : s = []
    ·
     subst hs
     go_wp2
     refine ⟨⟨k / 10, [digit k], by rw [hd10], rfl, by omega, HD2, hb.alloc hb.size _⟩, ?_⟩
     simp [intOf, ByteArray.size]
     omega
    ·
     have hse : s.isEmpty = false := by simp [hs]
     have hz : s.length ≠ 0 := by have := List.length_pos_iff.2 hs; omega
     clear hs
     go_wp2
     refine ⟨⟨k / 10, digit k :: s, by rw [hd10], rfl, by omega, HD2, hb.alloc hb.size _⟩, ?_⟩
     simp [intOf, ByteArray.size, hz]
     omega
  ·
   have hs : s ≠ [] := fun e => hc (Or.inl e)
   have hk0 : k = 0 := by
    by_cases e : k = 0
    ·
     exact e
    ·
     exact absurd (Or.inr e) hc
   subst hk0
   have hse : s.isEmpty = false := by simp [hs]
   have HF : Hid (s = digL N) := by exact (by rw [← HD.out, digTo_end hs] : s = digL N)
   clear hs hc
   go_wp2
   go_ret
   exact ⟨by rw [← HF.out]; rfl, hb⟩

theorem neg_tmod (k : Nat) : (-(k : Int)).tmod 10 = -((k : Int) % 10) := by
 rw [Int.neg_tmod, Int.tmod_eq_emod_of_nonneg (by omega)]
theorem neg_tdiv (k : Nat) : (-(k : Int)).tdiv 10 = -((k : Int) / 10) := by
 rw [Int.neg_tdiv, Int.tdiv_eq_ediv_of_nonneg (by omega)]

set_option maxHeartbeats 2000000 in
set_option maxRecDepth 100000 in
theorem specIntNeg (N : Nat) (w : World) (hN0 : 0 < N) (hN : (N : Int) ≤ 9223372036854775808) :
 Calls Try.prog 63 #[.int .i64 (-(N : Int))] w fun e w' => e = .returned (.string ⟨(45 :: digL N).toArray⟩) ∧ Below w.heap.size w w' := by
 have hcat := cat_list
 have hneg : decide (-(N : Int) < 0) = true := decide_eq_true (by omega)
 have hneg2 : -(N : Int) < 0 := by omega
 go_enter Try.func63, Try.ntmps63
 go_wp2
 go_loopw [0, 3] (fun nv sv wr => ∃ (k : Nat) (s : List UInt8), nv = .int .i64 (-(k : Int)) ∧ sv = .string ⟨s.toArray⟩ ∧ (k : Int) ≤ 9223372036854775808 ∧ Hid (digTo k s = digL N) ∧ Below w.heap.size w wr) (fun nv sv _ => (intOf nv).natAbs + (match sv with | .string b => if b.size = 0 then 1 else 0 | _ => 0))
 case atStart => exact ⟨N, [], rfl, rfl, hN, digTo_start N, Below.refl _ _⟩
 case round =>
  obtain ⟨k, s, rfl, rfl, hk, HD, hb⟩ := hrel
  have hs19 : (s.length : Int) ≤ 19 := by have := digTo_len k N s HD.out (by omega); omega
  have htm := neg_tmod k
  have htd := neg_tdiv k
  by_cases hc : s = [] ∨ k ≠ 0
  ·
   have hbk := back_dig k wr
   have HD2 : Hid (digTo (k / 10) (digit k :: s) = digL N) := by exact (by rw [digTo_step k s hc]; exact HD.out : digTo (k / 10) (digit k :: s) = digL N)
   have hd10 : ((k / 10 : Nat) : Int) = (k : Int) / 10 := by omega
   have hr0 : 0 ≤ (k : Int) % 10 := by omega
   have hr1 : (k : Int) % 10 < 10 := by omega
   have hc2 : s = [] ∨ (s ≠ [] ∧ k ≠ 0) := by
    by_cases e : s = []
    ·
     exact Or.inl e
    ·
     exact Or.inr ⟨e, by rcases hc with h | h; exact absurd h e; exact h⟩
   clear hc
   by_cases hr : 0 < (k : Int) % 10
   ·
    have hr2 : -((k : Int) % 10) < 0 := by omega
    rcases hc2 with rfl | ⟨hs, hc⟩
    ·
     go_wp2
     refine ⟨⟨k / 10, [digit k], by rw [hd10], rfl, by omega, HD2, hb.alloc hb.size _⟩, ?_⟩
     simp [intOf, ByteArray.size]
     omega
    ·
     have hk0 : (-(k : Int) != 0) = true := bne_iff_ne.2 (by omega)
     have hse : s.isEmpty = false := by simp [hs]
     have hz : s.length ≠ 0 := by have := List.length_pos_iff.2 hs; omega
     clear hs
     go_wp2
     refine ⟨⟨k / 10, digit k :: s, by rw [hd10], rfl, by omega, HD2, hb.alloc hb.size _⟩, ?_⟩
     simp [intOf, ByteArray.size, hz]
     omega
   ·
    have hr2 : ¬ -((k : Int) % 10) < 0 := by omega
    have hbk2 : (convert 22 9 (.slice (some ⟨wr.heap.size, 0, none⟩) 1 1)).run Try.prog (wr.alloc (.cells #[.int .u8 (48 + -((k : Int) % 10))] 5)) = .ok (.string ⟨[digit k].toArray⟩) (wr.alloc (.cells #[.int .u8 (48 + -((k : Int) % 10))] 5)) := by
     rw [show (48 : Int) + -((k : Int) % 10) = 48 + (k : Int) % 10 by omega]
     exact back_dig k wr
    rcases hc2 with rfl | ⟨hs, hc⟩
    ·
     go_wp2
     refine ⟨⟨k / 10, [digit k], by rw [hd10], rfl, by omega, HD2, hb.alloc hb.size _⟩, ?_⟩
     simp [intOf, ByteArray.size]
     omega
    ·
     have hk0 : (-(k : Int) != 0) = true := bne_iff_ne.2 (by omega)
     have hse : s.isEmpty = false := by simp [hs]
     have hz : s.length ≠ 0 := by have := List.length_pos_iff.2 hs; omega
     clear hs
     go_wp2
     refine ⟨⟨k / 10, digit k :: s, by rw [hd10], rfl, by omega, HD2, hb.alloc hb.size _⟩, ?_⟩
     simp [intOf, ByteArray.size, hz]
     omega
  ·
   have hs : s ≠ [] := fun e => hc (Or.inl e)
   have hk0 : k = 0 := by
    by_cases e : k = 0
    ·
     exact e
    ·
     exact absurd (Or.inr e) hc
   subst hk0
   have hse : s.isEmpty = false := by simp [hs]
   have HF : Hid (s = digL N) := by exact (by rw [← HD.out, digTo_end hs] : s = digL N)
   clear hs hc htm htd
   go_wp2
   go_ret
   exact ⟨by rw [← HF.out]; rfl, hb⟩

theorem specInt (n : Int) (w : World) (h0 : -9223372036854775808 ≤ n) (h1 : n ≤ 9223372036854775807) :
 Calls Try.prog 63 #[.int .i64 n] w fun e w' => e = .returned (.string ⟨(intL n).toArray⟩) ∧ Below w.heap.size w w' := by
 by_cases h : n < 0
 ·
  obtain ⟨N, rfl⟩ : ∃ N : Nat, n = -(N : Int) := ⟨n.natAbs, by omega⟩
  have e : intL (-(N : Int)) = 45 :: digL N := by unfold intL; rw [if_pos h]; congr 2; omega
  rw [e]
  exact specIntNeg N w (by omega) (by omega)
 ·
  obtain ⟨N, rfl⟩ : ∃ N : Nat, n = (N : Int) := ⟨n.natAbs, by omega⟩
  have e : intL (N : Int) = digL N := by unfold intL; rw [if_neg h]; congr 1
  rw [e]
  exact specIntPos N w (by omega)

end Go.Proofs.Ytaioedcaopbgkaa
