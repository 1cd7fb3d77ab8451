/-
  Parts of one proof, one behind the other: Jumps, Clone, TextI.
-/
import Derived.Test.YtaidhjjpdkkmcaaGreatDoorP13
import Derived.Test.YtaidhjjpdkkmcaaGreatDoorP1
import Derived.Scope
import Derived.WalkMore
import Derived.Lib.Strings
import Derived.Lib.Walk
import Derived.Lib.BufferWrite
import Derived.Lib.UnsafeStr
import Derived.Lib.Hide
import Derived.Laws.MakeOwn
import Derived.Test.YtaidhjjpdkkmcaaGreatDoorRows
import Derived.WalkKit
import Derived.WalkLawsBesides
import Derived.OpenShut
import Derived.Test.YtaidhjjpdkkmcaaGreatDoorP3
import Derived.BigQuiet

/-! A scope in which the run jumps to several labels: what holds at every jump to each of them, and a measure that every pass from a label lowers. -/
namespace Go.Proofs.YtaidhjjpdkkmcaaGreatDoor
open Go.RowKit

/-- As Q; by a goto to label l: J l. -/
def Hops (J : Nat → Act → World → Prop) (Q : Exit → Act → World → Prop) : Exit → Act → World → Prop
 | .goto l, a, w => J l a w
 | e, a, w => Q e a w

theorem hops_ret {J : Nat → Act → World → Prop} {Q : Exit → Act → World → Prop} {a : Act} {w : World} (h : Q .ret a w) : Hops J Q .ret a w := h

theorem hops_mono {J J' : Nat → Act → World → Prop} {Q : Exit → Act → World → Prop} (h : ∀ l a w, J l a w → J' l a w) : ∀ e a w, Hops J Q e a w → Hops J' Q e a w := by
 intro e a w hq
 cases e with
 | goto l => exact h l a w hq
 | _ => exact hq

/-- At each label what holds there (J), and a measure (μ) that every jump lowers; a run that falls into a label from above goes on as one that jumped there. -/
theorem wp_scope_hops {P : Program} {a : Act} {w : World} {Q : Exit → Act → World → Prop} {c : Go.Code} (J : Nat → Act → World → Prop) (μ : Nat → Act → World → Nat)
 (pass : ∀ l a w, J l a w → (∀ l' a' w', J l' a' w' → μ l' a' w' < μ l a w → ∀ R, findLabel c l' = some (.seq .skip R) → R.wp P (Hops (fun l₂ a₂ w₂ => J l₂ a₂ w₂ ∧ μ l₂ a₂ w₂ < μ l a w) Q) a' w') →
  ∃ R, findLabel c l = some (.seq .skip R) ∧ R.wp P (Hops (fun l' a' w' => J l' a' w' ∧ μ l' a' w' < μ l a w) Q) a w)
 (first : (∀ l a w, J l a w → ∀ R, findLabel c l = some (.seq .skip R) → R.wp P (Hops J Q) a w) → c.wp P (Hops J Q) a w) : (Code.scope c).wp P Q a w := by
 have all : ∀ n l a w, μ l a w = n → J l a w → ∃ R, findLabel c l = some (.seq .skip R) ∧ R.wp P (Hops (fun l' a' w' => J l' a' w' ∧ μ l' a' w' < μ l a w) Q) a w := by
  intro n
  induction n using Nat.strongRecOn with
  | _ n ih =>
   intro l a w hn hJ
   refine pass l a w hJ fun l' a' w' hJ' hlt R hf => ?_
   obtain ⟨R', hf', hw⟩ := ih _ (by omega) l' a' w' rfl hJ'
   rw [hf] at hf'
   cases hf'
   exact wp_mono hw (hops_mono fun l₂ a₂ w₂ h => ⟨h.1, Nat.lt_trans h.2 hlt⟩)
 intro b k cs
 have key : ∀ n l a w, μ l a w = n → J l a w → ∃ rest, findLabel c l = some rest ∧ ∃ e a' w', Q e a' w' ∧ Arrives P (lone (b.at a (.code rest :: .inScope c :: k)) cs w) b k cs e a' w' := by
  intro n
  induction n using Nat.strongRecOn with
  | _ n ih =>
   intro l a w hn hJ
   obtain ⟨R, hf, hR⟩ := all _ l a w rfl hJ
   have hp : (Code.seq .skip R).wp P (Hops (fun l' a' w' => J l' a' w' ∧ μ l' a' w' < μ l a w) Q) a w := wp_seq (wp_skip hR)
   refine ⟨_, hf, ?_⟩
   obtain ⟨e, a₁, w₁, hq, harr⟩ := hp b (.inScope c :: k) cs
   cases e with
   | normal => exact ⟨.normal, a₁, w₁, hq, Steps.trans harr (.one step_inScope)⟩
   | exit id => exact ⟨.exit id, a₁, w₁, hq, fun k' hk => harr k' (by simp [exitTo, hk])⟩
   | goto l' =>
    obtain ⟨hJ', hlt⟩ := hq
    obtain ⟨rest', hf', e₂, a₂, w₂, hq₂, harr₂⟩ := ih _ (by omega) l' a₁ w₁ rfl hJ'
    exact ⟨e₂, a₂, w₂, hq₂, .of_steps (harr _ (by simp [gotoIn, hf'])) harr₂⟩
   | ret => exact ⟨_, a₁, w₁, hq, harr⟩
   | panic ch => exact ⟨_, a₁, w₁, hq, harr⟩
   | outgrown => exact ⟨_, a₁, w₁, hq, harr⟩
 have first' := first fun l a w hJ R hf => by
  obtain ⟨R', hf', hw⟩ := all _ l a w rfl hJ
  rw [hf] at hf'
  cases hf'
  exact wp_mono hw (hops_mono fun l₂ a₂ w₂ h => h.1)
 obtain ⟨e, a₁, w₁, hq, harr⟩ := first' b (.inScope c :: k) cs
 cases e with
 | normal => exact ⟨.normal, a₁, w₁, hq, .head step_scope (Steps.trans harr (.one step_inScope))⟩
 | exit id => exact ⟨.exit id, a₁, w₁, hq, fun k' hk => .head step_scope (harr k' (by simp [exitTo, hk]))⟩
 | goto l' =>
  obtain ⟨rest', hf', e₂, a₂, w₂, hq₂, harr₂⟩ := key _ l' a₁ w₁ rfl hq
  exact ⟨e₂, a₂, w₂, hq₂, .of_steps (.head step_scope (harr _ (by simp [gotoIn, hf']))) harr₂⟩
 | ret => exact ⟨_, a₁, w₁, hq, .of_steps (.one step_scope) harr⟩
 | panic ch => exact ⟨_, a₁, w₁, hq, .of_steps (.one step_scope) harr⟩
 | outgrown => exact ⟨_, a₁, w₁, hq, .of_steps (.one step_scope) harr⟩

end Go.Proofs.YtaidhjjpdkkmcaaGreatDoor

/-! The contract of strings.Clone: the same bytes, in memory of their own. -/
namespace Go.Proofs.YtaidhjjpdkkmcaaGreatDoor
open Go.RowKit

theorem infoByte : (Tryz.prog.info? 5).map (fun i => (i.zero, i.size, i.bytes)) = some (some (.int .u8 0), 1, 1) := by kernel_rfl

set_option maxHeartbeats 4000000 in
set_option maxRecDepth 100000 in
theorem liteClone (s : ByteArray) (w : World) (hlim : s.size ≤ 281474976710656) :
 Calls Tryz.prog 85 #[.string s] w fun e w' => e = .returned (.string s) ∧ Below w.heap.size w w' := by
 by_cases h0 : s.size = 0
 ·
  have hs : s = ⟨#[]⟩ := by
   apply ByteArray.ext
   exact Array.eq_empty_of_size_eq_zero h0
  subst hs
  go_enter Tryz.func85, Tryz.ntmps85
  go_wp2
  go_ret
  exact ⟨rfl, Below.refl _ _⟩
 ·
  obtain ⟨i0, hi, hz0, hz1, hz2⟩ := info_parts infoByte
  have hinfo : (Tryz.prog.info? 5).map (·.size) = some 1 := by rw [hi]; simp [hz1]
  have hco : Tryz.prog.cellsOf 5 = 1 := by simp [Program.cellsOf, hi, hz1]
  obtain ⟨M, hM⟩ : ∃ M, M = madeCells (Value.int .u8 0).cells (((s.size : Nat) : Int).toNat * i0.size) := ⟨_, rfl⟩
  have hMs : M.size = s.size := by rw [hM, size_madeCells, hz1]; simp
  have hmk : ∀ W : World, (Instr.makeSlice 95 (.int .i64 (s.size : Int)) (.int .i64 (s.size : Int))).run Tryz.prog W = .ok (.slice (some ⟨W.heap.size, 0, none⟩) s.size s.size) (W.alloc (.cells M 5)) := fun W => by
   have h := run_make (P := Tryz.prog) W 95 5 i0 (.int .u8 0) Tryz.underlying95 hi hz0 .i64 .i64 (s.size : Int) (s.size : Int) (by omega) (by omega) (by rw [hz2]; omega) (by omega)
   rw [← hM] at h
   simpa using h
  clear hM
  have hcp := Lib.run_copy_row_string (P := Tryz.prog) (w.alloc (.cells M 5)) 95 9 3 5 w.heap.size 0 s.size s.size s M 5 Tryz.underlying95 hinfo (heap_alloc_new w _) (Nat.le_refl _) (by omega)
  obtain ⟨Y, hY⟩ : ∃ Y, Y = (M.toList.take 0 ++ Lib.byteCells s.data.toList ++ M.toList.drop (0 + s.size)).toArray := ⟨_, rfl⟩
  rw [← hY] at hcp
  have hYl : Y.toList = Lib.byteCells s.data.toList := by
   rw [hY, List.toList_toArray, List.take_zero, List.nil_append, List.drop_of_length_le (by rw [Array.length_toList]; omega), List.append_nil]
  have hYs : Y.size = s.size := by rw [← Array.length_toList, hYl, Lib.byteCells_length, ← Lib.size_eq]
  have hgY : ((w.alloc (.cells M 5)).setRow w.heap.size Y).heap[w.heap.size]? = some (.cells Y 5 (0, 0)) := setRow_heap _ _ M _ 5 (0, 0) (heap_alloc_new w _)
  have hne : s.data.toList ≠ [] := fun e => h0 (by rw [Lib.size_eq, e]; rfl)
  have hUS := Lib.run_unsafeString_row (P := Tryz.prog) ((w.alloc (.cells M 5)).setRow w.heap.size Y) 143 3 9 5 Tryz.underlying143 hco w.heap.size Y.size (by unfold World.shape?; rw [hgY]) s.data.toList hne (by rw [← Lib.size_eq]; omega) (by rw [← Lib.size_eq]; omega)
   (fun j x hx => Lib.cells_of_row hgY Y.size j _ (by rw [List.take_of_length_le (by rw [Array.length_toList]; exact Nat.le_refl _), hYl]; simp [Lib.byteCells, hx]))
  rw [← Lib.size_eq] at hUS
  clear hY
  go_enter Tryz.func85, Tryz.ntmps85
  go_wp2
  go_ret
  have hb1 : Below w.heap.size w (w.alloc (.cells M 5)) := (Below.refl _ w).alloc (Nat.le_refl _) _
  have hb2 : Below w.heap.size (w.alloc (.cells M 5)) ((w.alloc (.cells M 5)).setRow w.heap.size Y) := ⟨rfl, rfl, rfl, by simp, fun k hk => setRow_other _ _ _ _ (by omega)⟩
  exact ⟨rfl, Lib.below_freeze (hb1.trans hb2) (p := ⟨w.heap.size, 0, none⟩) (Nat.le_refl _) _⟩

set_option maxHeartbeats 400000 in
set_option maxRecDepth 100000 in
theorem stringsClone (l : List UInt8) (w : World) (hl : l.length ≤ 1048576) :
 Calls Tryz.prog 53 #[.string ⟨l.toArray⟩] w fun e w' => e = .returned (.string ⟨l.toArray⟩) ∧ Below w.heap.size w w' := by
 go_enter Tryz.func53, Tryz.ntmps53
 go_wp2_with fail
 refine (liteClone ⟨l.toArray⟩ _ (by have : (⟨l.toArray⟩ : ByteArray).size = l.length := List.size_toArray; omega)).mono ?_
 rintro e w1 ⟨rfl, hb⟩
 go_wp2
 go_ret
 exact ⟨rfl, hb⟩

end Go.Proofs.YtaidhjjpdkkmcaaGreatDoor

/-! The contracts of chapter 5's landed code: the pieces between marks (labels and gotos), Lines, Words, NameOk, NumberOf. -/
namespace Go.Proofs.YtaidhjjpdkkmcaaGreatDoor
open Go.RowKit

/-- What holds at the labels: 1 inside, 2 at a mark, 0 behind the text. -/
def BetJ (l : List UInt8) (b : UInt8) (c : Int) (w : World) (L : Nat) (a : Act) (wr : World) : Prop :=
 ∃ (o : List (List UInt8)) (f i g cp : Nat) (u2 u3 u4 u8 u9 u10 u11 u12 u13 u14 u15 u16 u17 u18 u19 u20 u21 u22 u23 u24 u25 u26 u27 u28 u29 u30 u31 u32 u33 u34 u35 u36 u37 : Value), a = { tmps := #[.string ⟨l.toArray⟩, .int .u8 c, u2, u3, u4, .slice (some ⟨g, 0, none⟩) o.length cp, .int .i64 (f : Int), .int .i64 (i : Int), u8, u9, u10, u11, u12, u13, u14, u15, u16, u17, u18, u19, u20, u21, u22, u23, u24, u25, u26, u27, u28, u29, u30, u31, u32, u33, u34, u35, u36, u37], defers := [] } ∧ o.length ≤ i ∧ i ≤ l.length ∧ f ≤ i ∧ Hid (o ++ splitGo b ((l.drop f).take (i - f)) (l.drop i) = splitL b l) ∧ wr.ownsRow w.heap.size 9 1 (.slice (some ⟨g, 0, none⟩) o.length cp) o.length (strV o) ∧ Below w.heap.size w wr ∧
  (L = 1 ∨ (L = 2 ∧ ∃ hi : i < l.length, l[i] = b) ∨ (L = 0 ∧ i = l.length))

/-- The measure: what is left of the text, in three steps a byte. -/
def betM (l : List UInt8) (L : Nat) (a : Act) (_ : World) : Nat :=
 match L with
 | 0 => 0
 | 1 => 2 * (l.length - (intOf (a.tmps.getD 7 undef)).toNat) + 2
 | _ => 2 * (l.length - (intOf (a.tmps.getD 7 undef)).toNat) + 1

set_option maxHeartbeats 4000000 in
set_option maxRecDepth 100000 in
theorem implBetween (l : List UInt8) (b : UInt8) (c : Int) (w : World) (hc : c = (b.toNat : Int)) (hl : l.length ≤ 1048576) :
 Calls Tryz.prog 116 #[.string ⟨l.toArray⟩, .int .u8 c] w fun e w' => ∃ g cp, e = .returned (.slice (some ⟨g, 0, none⟩) (splitL b l).length cp) ∧ w'.ownsRow w.heap.size 9 1 (.slice (some ⟨g, 0, none⟩) (splitL b l).length cp) (splitL b l).length (strV (splitL b l)) ∧ Below w.heap.size w w' := by
 obtain ⟨i0, hi, hz0, hz1, hz2⟩ := info_parts info9
 have hext := ext_list
 have hown0 := (World.ownsRow_lit (base := w.heap.size) (e := 9) (size := 1) w #[] 0 (Nat.le_refl _) (by decide) rfl)
 have HC : Hid (c = (b.toNat : Int)) := hc
 clear hc
 go_enter Tryz.func116, Tryz.ntmps116
 go_wp2
 refine wp_scope_hops (BetJ l b c w) (betM l) ?pass ?first
 case first =>
  intro fall
  go_wp2
  go_step3
  rename_i K hK
  apply hK
  refine fall 1 _ _ ?_ _ rfl
  exact ⟨[], 0, 0, w.heap.size, 0, _, _, _, _, _, _, _, _, _, _, _, _, _, _, _, _, _, _, _, _, _, _, _, _, _, _, _, _, _, _, _, _, _, rfl, by simp, by omega, by omega, (by simp [splitL] : _ = _), hown0, (Below.refl _ _).alloc (Nat.le_refl _) _, Or.inl rfl⟩
 case pass =>
  clear hown0
  rintro L a wr ⟨o, f, i, g, cp, u2, u3, u4, u8, u9, u10, u11, u12, u13, u14, u15, u16, u17, u18, u19, u20, u21, u22, u23, u24, u25, u26, u27, u28, u29, u30, u31, u32, u33, u34, u35, u36, u37, rfl, hoi, hil, hfi, HE, hown, hb, hL⟩ -
  have hfi1 : (f : Int) ≤ (i : Int) := by omega
  have hf0 : (0 : Int) ≤ (f : Int) := by omega
  rcases hL with rfl | ⟨rfl, hi2, hib⟩ | ⟨rfl, hend⟩
  ·
   refine ⟨_, rfl, ?_⟩
   by_cases hend : i = l.length
   ·
    subst hend
    go_wp2
    go_step3
    show BetJ l b c w 0 _ _ ∧ betM l 0 _ _ < betM l 1 _ _
    refine ⟨⟨o, f, l.length, g, cp, _, _, _, _, _, _, _, _, _, _, _, _, _, _, _, _, _, _, _, _, _, _, _, _, _, _, _, _, _, _, _, _, _, rfl, hoi, by omega, hfi, HE, hown, hb, Or.inr (Or.inr ⟨rfl, rfl⟩)⟩, ?_⟩
    simp [betM]
   ·
    have de : ((i : Int) == (l.length : Int)) = false := beq_eq_false_iff_ne.2 (by omega)
    have hil2 : i < l.length := by omega
    have hil3 : (i : Int) < (l.length : Int) := by omega
    obtain ⟨x, hx⟩ : ∃ x, l[i] = x := ⟨_, rfl⟩
    by_cases hxb : x = b
    ·
     have dx : ((((⟨l.toArray⟩ : ByteArray)[i]'(by show i < l.toArray.size; simpa using hil2)).toNat : Int) == c) = true := by show ((l[i].toNat : Int) == c) = true; rw [hx, hxb, HC.out]; simp
     have HX : Hid (∃ hi : i < l.length, l[i] = b) := (⟨hil2, hx.trans hxb⟩ : ∃ hi : i < l.length, l[i] = b)
     clear hx hxb hend
     go_wp2
     go_step3
     show BetJ l b c w 2 _ _ ∧ betM l 2 _ _ < betM l 1 _ _
     refine ⟨⟨o, f, i, g, cp, _, _, _, _, _, _, _, _, _, _, _, _, _, _, _, _, _, _, _, _, _, _, _, _, _, _, _, _, _, _, _, _, _, rfl, hoi, by omega, hfi, HE, hown, hb, Or.inr (Or.inl ⟨rfl, HX.out⟩)⟩, ?_⟩
     simp [betM, intOf]
    ·
     have HF : Hid (o ++ splitGo b ((l.drop f).take (i + 1 - f)) (l.drop (i + 1)) = splitL b l) := by
      have := split_miss b l o _ i hil2 (by rw [hx]; exact hxb) HE.out
      rw [cut_snoc l f i hfi hil2]
      exact this
     have dx : ((((⟨l.toArray⟩ : ByteArray)[i]'(by show i < l.toArray.size; simpa using hil2)).toNat : Int) == c) = false := by show ((l[i].toNat : Int) == c) = false; rw [hx, HC.out]; exact beq_eq_false_iff_ne.2 (fun e => hxb (UInt8.toNat_inj.1 (by omega)))
     clear HE hx hxb hend
     go_wp2
     go_step3
     show BetJ l b c w 1 _ _ ∧ betM l 1 _ _ < betM l 1 _ _
     refine ⟨⟨o, f, i + 1, g, cp, _, _, _, _, _, _, _, _, _, _, _, _, _, _, _, _, _, _, _, _, _, _, _, _, _, _, _, _, _, _, _, _, _, rfl, by omega, by omega, by omega, HF, hown, hb, Or.inl rfl⟩, ?_⟩
     simp [betM, intOf]
     omega
  ·
   refine ⟨_, rfl, ?_⟩
   have HF : Hid ((o ++ [(l.drop f).take (i - f)]) ++ splitGo b [] (l.drop (i + 1)) = splitL b l) := split_hit b l o _ i hi2 hib HE.out
   have hil3 : (i : Int) < (l.length : Int) := by omega
   have hil4 : (i : Int) ≤ (l.length : Int) := by omega
   clear HE hib
   go_wp2_with fail
   refine (stringsClone ((l.drop f).take (i - f)) _ (by rw [List.length_take, List.length_drop]; omega)).mono ?_
   rintro e wc ⟨rfl, hbc⟩
   have hbd : Below w.heap.size w wc := hb.trans (hbc.mono hb.size)
   have hownc := own_below hown hbc
   have hsc : w.heap.size ≤ wc.heap.size := hbd.size
   clear hown hb hbc
   go_wp2_with (at_builtin; refine wpList_append_own _ rfl _ _ 37 rfl w.heap.size 9 i0 (.string ⟨#[]⟩) 1 16 Tryz.underlying37 hi hz0 hz1 hz2 rfl (by decide) _ _ _ rfl (hownc.alloc _) ⟨wc.heap.size, 0, none⟩ 1 1 [.string ⟨(((l.drop f).take (i - f))).toArray⟩] rfl rfl ?c1 ?c2 ?c3 ?c4 ?c5 ?_)
   first | (case c1 => exact cell_one_new _ _ _) | skip
   first | (case c2 => first | rfl | (intro u hu; simp at hu; subst hu; rfl)) | skip
   first | (case c3 => unfold maxLen; omega) | skip
   first | (case c4 => omega) | skip
   first | (case c5 => simp; try omega) | skip
   intro v' w3 hown3 hgrow3 hnil3
   have hown4 := own_str hown3
   have hv' : v' ≠ .slice none 0 0 := hnil3
   obtain ⟨g', cp', rfl⟩ := own_shape hown4 hv'
   have hb3 : Below w.heap.size w w3 := (hbd.alloc hbd.size _).grown hgrow3 (by simp; omega) (fun k e => (hownc.lt k e).1)
   clear hown3 hgrow3 hnil3 hownc hbd hv'
   go_wp2
   go_step3
   show BetJ l b c w 1 _ _ ∧ betM l 1 _ _ < betM l 2 _ _
   refine ⟨⟨o ++ [(l.drop f).take (i - f)], i + 1, i + 1, g', cp', _, _, _, _, _, _, _, _, _, _, _, _, _, _, _, _, _, _, _, _, _, _, _, _, _, _, _, _, _, _, _, _, _, rfl, by rw [List.length_append, List.length_singleton]; omega, by omega, by omega, (by rw [Nat.sub_self, List.take_zero]; exact HF.out : _ = _), hown4, hb3, Or.inl rfl⟩, ?_⟩
   simp [betM, intOf]
   omega
  ·
   refine ⟨_, rfl, ?_⟩
   subst hend
   have HF : Hid (o ++ [(l.drop f).take (l.length - f)] = splitL b l) := split_end b l o _ HE.out
   have htk : List.take (l.length - f) (List.drop f l) = List.drop f l := List.take_of_length_le (by rw [List.length_drop]; omega)
   rw [htk] at HF
   clear HE
   go_wp2_with fail
   refine (stringsClone (l.drop f) _ (by rw [List.length_drop]; omega)).mono ?_
   rintro e wc ⟨rfl, hbc⟩
   have hbd : Below w.heap.size w wc := hb.trans (hbc.mono hb.size)
   have hownc := own_below hown hbc
   have hsc : w.heap.size ≤ wc.heap.size := hbd.size
   clear hown hb hbc
   go_wp2_with (at_builtin; refine wpList_append_own _ rfl _ _ 37 rfl w.heap.size 9 i0 (.string ⟨#[]⟩) 1 16 Tryz.underlying37 hi hz0 hz1 hz2 rfl (by decide) _ _ _ rfl (hownc.alloc _) ⟨wc.heap.size, 0, none⟩ 1 1 [.string ⟨((l.drop f)).toArray⟩] rfl rfl ?c1 ?c2 ?c3 ?c4 ?c5 ?_)
   first | (case c1 => exact cell_one_new _ _ _) | skip
   first | (case c2 => first | rfl | (intro u hu; simp at hu; subst hu; rfl)) | skip
   first | (case c3 => unfold maxLen; omega) | skip
   first | (case c4 => omega) | skip
   first | (case c5 => simp; try omega) | skip
   intro v' w3 hown3 hgrow3 hnil3
   have hown4 := own_str hown3
   have hv' : v' ≠ .slice none 0 0 := hnil3
   obtain ⟨g', cp', rfl⟩ := own_shape hown4 hv'
   have hb3 : Below w.heap.size w w3 := (hbd.alloc hbd.size _).grown hgrow3 (by simp; omega) (fun k e => (hownc.lt k e).1)
   clear hown3 hgrow3 hnil3 hownc hbd hv'
   go_wp2
   refine hops_ret ?_
   go_ret
   have hlen : (o ++ [l.drop f]).length = o.length + 1 := by simp
   rw [hlen] at hown4
   exact ⟨g', cp', by rw [← HF.out, hlen]; rfl, by rw [← HF.out, hlen]; exact hown4, hb3⟩


set_option maxHeartbeats 1000000 in
set_option maxRecDepth 100000 in
theorem implWords (l : List UInt8) (w : World) (hl : l.length ≤ 1048576) :
 Calls Tryz.prog 87 #[.string ⟨l.toArray⟩] w fun e w' => ∃ v, e = .returned v ∧ w'.ownsRow w.heap.size 9 1 v (wordsL l).length (strV (wordsL l)) ∧ Below w.heap.size w w' := by
 by_cases hle : l = []
 ·
  subst hle
  have hown0 := (World.ownsRow_lit (base := w.heap.size) (e := 9) (size := 1) w #[] 0 (Nat.le_refl _) (by decide) rfl)
  go_enter Tryz.func87, Tryz.ntmps87
  go_wp2
  go_ret
  exact ⟨_, rfl, hown0, (Below.refl _ _).alloc (Nat.le_refl _) _⟩
 ·
  have hlb : l.isEmpty = false := by simp [hle]
  have HW : Hid (wordsL l = splitL 32 l) := by exact (if_neg hle : wordsL l = splitL 32 l)
  clear hle
  go_enter Tryz.func87, Tryz.ntmps87
  go_wp2_with fail
  refine (implBetween l 32 32 _ (by rfl) hl).mono ?_
  rintro e w1 ⟨g, cp, rfl, hown, hb⟩
  go_wp2
  go_ret
  exact ⟨_, rfl, by rw [HW.out]; exact hown, hb⟩

set_option maxHeartbeats 1000000 in
set_option maxRecDepth 100000 in
theorem implNameOkS (l : List UInt8) (w : World) (hl : l.length ≤ 1048576) :
 Calls Tryz.prog 94 #[.string ⟨l.toArray⟩] w fun e w' => e = .returned (.bool (nameB l)) ∧ w' = w := by
 go_enter Tryz.func94, Tryz.ntmps94
 go_wp2
 go_loop [6] (fun ix => ∃ k : Nat, k ≤ l.length ∧ ix = .int .i64 k ∧ Hid (∀ j (hj : j < l.length), j < k → 97 ≤ l[j].toNat ∧ l[j].toNat ≤ 122)) (fun ix => l.length - (intOf ix).toNat)
 case atStart => exact ⟨0, Nat.zero_le _, rfl, (fun j _ h => by omega : ∀ j (hj : j < l.length), j < 0 → _)⟩
 case round =>
  obtain ⟨k, hk, rfl, HK⟩ := hrel
  by_cases hkl : (k : Int) < (l.length : Int)
  ·
   have hk2 : k < l.length := by omega
   obtain ⟨x, hx⟩ : ∃ x : UInt8, l[k] = x := ⟨_, rfl⟩
   have hxb : (⟨l.toArray⟩ : ByteArray)[k]'(by show k < l.toArray.size; simpa using hk2) = x := hx
   by_cases h1 : (x.toNat : Int) < 97
   ·
    have HF : Hid (nameB l = false) := name_bad l k hk2 (by rw [hx]; omega)
    clear hx
    go_wp2
    go_ret
    exact ⟨by rw [HF.out]; rfl, rfl⟩
   ·
    by_cases h2 : 122 < (x.toNat : Int)
    ·
     have HF : Hid (nameB l = false) := name_bad l k hk2 (by rw [hx]; omega)
     clear hx
     go_wp2
     go_ret
     exact ⟨by rw [HF.out]; rfl, rfl⟩
    ·
     have HS : Hid (∀ j (hj : j < l.length), j < k + 1 → 97 ≤ l[j].toNat ∧ l[j].toNat ≤ 122) := fun j hj hjk => by
      by_cases e : j = k
      ·
       subst e; rw [hx]; omega
      ·
       exact HK.out j hj (by omega)
     clear hx
     go_wp2
     go_round
     case rel => exact ⟨k + 1, by omega, by go_num, HS⟩
     case measure => simp [intOf]; omega
  ·
   have HF : Hid (nameB l = inB (l.length : Int) 1 8) := name_good l (fun j hj => HK.out j hj (by omega))
   by_cases h1 : 1 ≤ (l.length : Int)
   ·
    by_cases h2 : (l.length : Int) ≤ 8
    ·
     have HB : Hid (inB (l.length : Int) 1 8 = true) := inB_yes _ _ _ h1 h2
     go_wp2
     go_ret
     exact ⟨by rw [HF.out, HB.out]; rfl, rfl⟩
    ·
     have HB : Hid (inB (l.length : Int) 1 8 = false) := inB_no _ _ _ (by omega)
     go_wp2
     go_ret
     exact ⟨by rw [HF.out, HB.out]; rfl, rfl⟩
   ·
    have HB : Hid (inB (l.length : Int) 1 8 = false) := inB_no _ _ _ (by omega)
    go_wp2
    go_ret
    exact ⟨by rw [HF.out, HB.out]; rfl, rfl⟩

/-- Facts of a number's form, over its digits. -/
def sgn (t : List UInt8) : Int := if negB t = true then -1 else 1

theorem readV_sg {t : List UInt8} (h : formP t) : readV t = sgn t * (valL (bodyL t) : Int) ∧ readB t = true := by
 refine ⟨?_, readB_yes h⟩
 unfold readV sgn
 rw [if_pos (readB_yes h)]
 split <;> omega

theorem form_zero : readV [48] = 0 ∧ readB [48] = true := by
 have hb : bodyL [48] = [48] := by decide
 have hf : formP [48] := by
  refine ⟨by rw [hb]; simp, ?_, fun h => by have := h.2; simp at this⟩
  intro c hc
  rw [hb] at hc
  simp at hc
  subst hc
  decide
 have h := readV_sg hf
 rw [hb] at h
 exact ⟨by rw [h.1]; simp [valL], h.2⟩

theorem form_noLen {t : List UInt8} (h : ¬ (1 ≤ (bodyL t).length ∧ (bodyL t).length ≤ 10)) : readV t = 0 ∧ readB t = false := readV_no fun hf => h hf.1

theorem form_noHead {t q : List UInt8} (h : bodyL t = 48 :: q) (ht : t ≠ [48]) : readV t = 0 ∧ readB t = false := readV_no fun hf => by
 refine hf.2.2 ⟨by rw [h]; rfl, ?_⟩
 unfold bodyL at h
 split at h
 ·
  cases t with
  | nil => simp at h
  | cons x r => simp at h; subst h; simp
 ·
  subst h
  cases q with
  | nil => exact absurd rfl ht
  | cons y r => simp

theorem form_noDig {t p q : List UInt8} {x : UInt8} (h : bodyL t = p ++ x :: q) (hx : ¬ isDig x) : readV t = 0 ∧ readB t = false := readV_no fun hf => hx (hf.2.1 x (by rw [h]; simp))

theorem form_all {t : List UInt8} (hl : 1 ≤ (bodyL t).length ∧ (bodyL t).length ≤ 10) (hd : ∀ c ∈ bodyL t, isDig c) (hh : (bodyL t).head? ≠ some 48) : readV t = sgn t * (valL (bodyL t) : Int) ∧ readB t = true :=
 readV_sg ⟨hl, hd, fun h => hh h.1⟩

theorem digs_bd {p : List UInt8} (hl : p.length ≤ 10) (hd : ∀ c ∈ p, isDig c) : (valL p : Int) < 10000000000 := by
 have h1 := valL_bd p hd
 have h2 : (10 : Nat) ^ p.length ≤ 10 ^ 10 := Nat.pow_le_pow_right (by omega) hl
 omega

set_option maxHeartbeats 1000000 in
set_option maxRecDepth 100000 in
theorem hasMinus (t : List UInt8) (w : World) (hl : t.length ≤ 1048576) :
 Calls Tryz.prog 117 #[.string ⟨t.toArray⟩, .string ⟨#[45]⟩] w fun e w' => e = .returned (.bool (negB t)) ∧ w' = w := by
 have hlite : Calls Tryz.prog 153 #[.string ⟨t.toArray⟩, .string ⟨#[45]⟩] w fun e w' => e = .returned (.bool (negB t)) ∧ w' = w := by
  cases t with
  | nil =>
   go_enter Tryz.func153, Tryz.ntmps153
   go_wp2
   go_ret
   exact ⟨rfl, rfl⟩
  | cons x r =>
   have hext := ext_list
   have hl1 : (1 : Int) ≤ ((r.length + 1 : Nat) : Int) := by omega
   go_enter Tryz.func153, Tryz.ntmps153
   go_wp2
   go_ret
   exact ⟨rfl, rfl⟩
 go_enter Tryz.func117, Tryz.ntmps117
 go_wp2_with fail
 refine hlite.mono ?_
 rintro e w1 ⟨rfl, rfl⟩
 go_wp2
 go_ret
 exact ⟨rfl, rfl⟩

/-- What holds at the labels: 1 ahead of the digits, 3 at a digit, 0 all read, 2 no number. -/
def NumJ (t : List UInt8) (w : World) (L : Nat) (a : Act) (wr : World) : Prop :=
 Below w.heap.size w wr ∧ ∃ (n sg : Int) (r : List UInt8) (u1 u2 u3 u7 u8 u9 u10 u11 u12 u13 u14 u15 u16 u17 u18 u19 u20 u21 u22 u23 u24 u25 u26 u27 u28 u29 u30 u31 u32 u33 u34 u35 u36 u37 u38 u39 u40 u41 u42 u43 u44 u45 u46 u47 u48 : Value), a = { tmps := #[.string ⟨t.toArray⟩, u1, u2, u3, .int .i64 n, .int .i64 sg, .string ⟨r.toArray⟩, u7, u8, u9, u10, u11, u12, u13, u14, u15, u16, u17, u18, u19, u20, u21, u22, u23, u24, u25, u26, u27, u28, u29, u30, u31, u32, u33, u34, u35, u36, u37, u38, u39, u40, u41, u42, u43, u44, u45, u46, u47, u48], defers := [] } ∧
  ((L = 1 ∧ r = bodyL t ∧ n = 0 ∧ sg = sgn t ∧ t ≠ [48]) ∨
   (L = 3 ∧ sg = sgn t ∧ ∃ p x q, r = x :: q ∧ Hid (bodyL t = p ++ x :: q) ∧ n = (valL p : Int) ∧ (bodyL t).length ≤ 10 ∧ (∀ c ∈ p, isDig c) ∧ (bodyL t).head? ≠ some 48) ∨
   (L = 0 ∧ Hid (readV t = sg * n ∧ readB t = true)) ∨
   (L = 2 ∧ Hid (readV t = 0 ∧ readB t = false)))

def lenOfT : Value → Nat | .string s => s.size | _ => 0

def numM (t : List UInt8) (L : Nat) (a : Act) (_ : World) : Nat :=
 match L with
 | 0 => 0
 | 1 => t.length + 10
 | 2 => 0
 | _ => lenOfT (a.tmps.getD 6 undef) + 1

theorem bodyL_len (t : List UInt8) : (bodyL t).length ≤ t.length := by
 unfold bodyL
 split
 ·
  rw [List.length_tail]; omega
 ·
  exact Nat.le_refl _

set_option maxHeartbeats 4000000 in
set_option maxRecDepth 100000 in
theorem implNumberIn (t : List UInt8) (w : World) (hl : t.length ≤ 1048576) :
 Calls Tryz.prog 88 #[.string ⟨t.toArray⟩] w fun e w' => e = .returned (.tuple #[.int .i64 (readV t), .bool (readB t)]) ∧ Below w.heap.size w w' := by
 have hext := ext_list
 have hbl := bodyL_len t
 go_enter Tryz.func88, Tryz.ntmps88
 go_wp2
 refine wp_scope_hops (NumJ t w) (numM t) ?pass ?first
 case first =>
  intro fall
  by_cases ht : t = [48]
  ·
   subst ht
   go_wp2
   go_step3
   exact ⟨Below.refl _ _, 0, 1, [48], _, _, _, _, _, _, _, _, _, _, _, _, _, _, _, _, _, _, _, _, _, _, _, _, _, _, _, _, _, _, _, _, _, _, _, _, _, _, _, _, _, _, _, _, _, rfl, Or.inr (Or.inr (Or.inl ⟨rfl, (by rw [form_zero.1, form_zero.2]; exact ⟨rfl, rfl⟩ : _ ∧ _)⟩))⟩
  ·
   have htb : (t == [48]) = false := beq_eq_false_iff_ne.2 ht
   rcases hn : negB t with _ | _
   ·
    have HN : Hid (negB t = false) := hn
    have HB : Hid (bodyL t = t) := by exact (by unfold bodyL; rw [hn]; simp : bodyL t = t)
    have HG : Hid (sgn t = 1) := by exact (by unfold sgn; rw [hn]; simp : sgn t = 1)
    have HT : Hid (t ≠ [48]) := ht
    clear hn ht
    go_wp2_with (go_at_call 117; refine (hasMinus t _ hl).mono ?_; rintro e w' ⟨rfl, rfl⟩; rw [HN.out])
    go_step3
    exact ⟨Below.refl _ _, 0, 1, t, _, _, _, _, _, _, _, _, _, _, _, _, _, _, _, _, _, _, _, _, _, _, _, _, _, _, _, _, _, _, _, _, _, _, _, _, _, _, _, _, _, _, _, _, _, rfl, Or.inl ⟨rfl, HB.out.symm, rfl, HG.out.symm, HT.out⟩⟩
   ·
    obtain ⟨q, rfl⟩ : ∃ q, t = 45 :: q := by
     unfold negB at hn
     cases t with
     | nil => simp at hn
     | cons x r => simp at hn; exact ⟨r, by rw [hn]⟩
    have HN : Hid (negB (45 :: q) = true) := hn
    have HB : Hid (bodyL (45 :: q) = q) := by exact (by unfold bodyL; rw [hn]; simp : bodyL (45 :: q) = q)
    have HG : Hid (sgn (45 :: q) = -1) := by exact (by unfold sgn; rw [hn]; simp : sgn (45 :: q) = -1)
    have HT : Hid (45 :: q ≠ [48]) := ht
    clear hn ht
    go_wp2_with (go_at_call 117; refine (hasMinus (45 :: q) _ hl).mono ?_; rintro e w' ⟨rfl, rfl⟩; rw [HN.out])
    go_quiet (fail)
    go_wp2
    go_step3
    rename_i K hK
    apply hK
    refine fall 1 _ _ ?_ _ rfl
    exact ⟨⟨rfl, rfl, rfl, Nat.le_refl _, fun _ _ => rfl⟩, 0, -1, q, _, _, _, _, _, _, _, _, _, _, _, _, _, _, _, _, _, _, _, _, _, _, _, _, _, _, _, _, _, _, _, _, _, _, _, _, _, _, _, _, _, _, _, _, _, rfl, Or.inl ⟨rfl, HB.out.symm, rfl, HG.out.symm, HT.out⟩⟩
 case pass =>
  rintro L a wr ⟨hb, n, sg, r, u1, u2, u3, u7, u8, u9, u10, u11, u12, u13, u14, u15, u16, u17, u18, u19, u20, u21, u22, u23, u24, u25, u26, u27, u28, u29, u30, u31, u32, u33, u34, u35, u36, u37, u38, u39, u40, u41, u42, u43, u44, u45, u46, u47, u48, rfl, hL⟩ fall
  rcases hL with ⟨rfl, hr, rfl, hsg0, ht⟩ | ⟨rfl, hsg0, p, x, q, rfl, HB, rfl, hlen, hd, hh⟩ | ⟨rfl, HO⟩ | ⟨rfl, HO⟩
  ·
   refine ⟨_, rfl, ?_⟩
   have HSG : Hid (sg = sgn t) := hsg0
   clear hsg0
   cases r with
   | nil =>
    have HO : Hid (readV t = 0 ∧ readB t = false) := form_noLen (by rw [← hr]; simp)
    clear hr
    go_wp2
    go_step3
    show NumJ t w 2 _ _ ∧ numM t 2 _ _ < numM t 1 _ _
    exact ⟨⟨hb, 0, sg, [], _, _, _, _, _, _, _, _, _, _, _, _, _, _, _, _, _, _, _, _, _, _, _, _, _, _, _, _, _, _, _, _, _, _, _, _, _, _, _, _, _, _, _, _, _, rfl, Or.inr (Or.inr (Or.inr ⟨rfl, HO⟩))⟩, by simp [numM]⟩
   | cons x q =>
    have hxb : (⟨(x :: q).toArray⟩ : ByteArray)[0]'(by show 0 < (x :: q).toArray.size; simp) = x := rfl
    have hql : q.length + 1 ≤ t.length := by rw [← hr] at hbl; simpa using hbl
    by_cases hx : x = 48
    ·
     subst hx
     have HO : Hid (readV t = 0 ∧ readB t = false) := form_noHead hr.symm ht
     clear hr
     go_wp2
     go_step3
     show NumJ t w 2 _ _ ∧ numM t 2 _ _ < numM t 1 _ _
     exact ⟨⟨hb, 0, sg, 48 :: q, _, _, _, _, _, _, _, _, _, _, _, _, _, _, _, _, _, _, _, _, _, _, _, _, _, _, _, _, _, _, _, _, _, _, _, _, _, _, _, _, _, _, _, _, _, rfl, Or.inr (Or.inr (Or.inr ⟨rfl, HO⟩))⟩, by simp [numM]⟩
    ·
     have hdx : ((x.toNat : Int) == 48) = false := beq_eq_false_iff_ne.2 (fun e => hx (UInt8.toNat_inj.1 (by have h48 : (48 : UInt8).toNat = 48 := rfl; omega)))
     by_cases h10 : 10 < ((q.length : Int) + 1)
     ·
      have HO : Hid (readV t = 0 ∧ readB t = false) := form_noLen (by rw [← hr]; simp; omega)
      clear hr hx
      go_wp2
      go_step3
      show NumJ t w 2 _ _ ∧ numM t 2 _ _ < numM t 1 _ _
      exact ⟨⟨hb, 0, sg, x :: q, _, _, _, _, _, _, _, _, _, _, _, _, _, _, _, _, _, _, _, _, _, _, _, _, _, _, _, _, _, _, _, _, _, _, _, _, _, _, _, _, _, _, _, _, _, rfl, Or.inr (Or.inr (Or.inr ⟨rfl, HO⟩))⟩, by simp [numM]⟩
     ·
      have HB : Hid (bodyL t = [] ++ x :: q) := hr.symm
      have HH : Hid ((bodyL t).head? ≠ some 48) := by exact (by rw [← hr]; simpa using hx : (bodyL t).head? ≠ some 48)
      have HL : Hid ((bodyL t).length ≤ 10) := by exact (by rw [← hr]; simp; omega : (bodyL t).length ≤ 10)
      clear hr hx
      go_wp2
      go_step3
      rename_i K hK
      apply hK
      refine fall 3 _ _ ?_ ?_ _ rfl
      ·
       exact ⟨hb, 0, sg, x :: q, _, _, _, _, _, _, _, _, _, _, _, _, _, _, _, _, _, _, _, _, _, _, _, _, _, _, _, _, _, _, _, _, _, _, _, _, _, _, _, _, _, _, _, _, _, rfl, Or.inr (Or.inl ⟨rfl, HSG.out, [], x, q, rfl, HB, by simp [valL], HL.out, by simp, HH.out⟩)⟩
      ·
       show lenOfT (.string ⟨(x :: q).toArray⟩) + 1 < t.length + 10
       have : lenOfT (.string ⟨(x :: q).toArray⟩) = (x :: q).length := List.size_toArray
       rw [this, List.length_cons]; omega
  ·
   refine ⟨_, rfl, ?_⟩
   have HSG : Hid (sg = sgn t) := hsg0
   clear hsg0
   have hxb : (⟨(x :: q).toArray⟩ : ByteArray)[0]'(by show 0 < (x :: q).toArray.size; simp) = x := rfl
   have hpl : p.length + 1 ≤ 10 := by rw [HB.out] at hlen; simp at hlen; omega
   have hvb := digs_bd (by omega) hd
   by_cases hd1 : (x.toNat : Int) < 48
   ·
    have HO : Hid (readV t = 0 ∧ readB t = false) := form_noDig HB.out (by unfold isDig; omega)
    go_wp2
    go_step3
    show NumJ t w 2 _ _ ∧ numM t 2 _ _ < numM t 3 _ _
    exact ⟨⟨hb, _, sg, x :: q, _, _, _, _, _, _, _, _, _, _, _, _, _, _, _, _, _, _, _, _, _, _, _, _, _, _, _, _, _, _, _, _, _, _, _, _, _, _, _, _, _, _, _, _, _, rfl, Or.inr (Or.inr (Or.inr ⟨rfl, HO⟩))⟩, by simp [numM]⟩
   ·
    by_cases hd2 : 57 < (x.toNat : Int)
    ·
     have HO : Hid (readV t = 0 ∧ readB t = false) := form_noDig HB.out (by unfold isDig; omega)
     go_wp2
     go_step3
     show NumJ t w 2 _ _ ∧ numM t 2 _ _ < numM t 3 _ _
     exact ⟨⟨hb, _, sg, x :: q, _, _, _, _, _, _, _, _, _, _, _, _, _, _, _, _, _, _, _, _, _, _, _, _, _, _, _, _, _, _, _, _, _, _, _, _, _, _, _, _, _, _, _, _, _, rfl, Or.inr (Or.inr (Or.inr ⟨rfl, HO⟩))⟩, by simp [numM]⟩
    ·
     have hdx : ∀ c ∈ p ++ [x], isDig c := fun c hc => by
      rw [List.mem_append] at hc
      rcases hc with hc | hc
      ·
       exact hd c hc
      ·
       simp at hc; subst hc; unfold isDig; omega
     have hv := valL_snoc p x
     cases q with
     | nil =>
      have hO := form_all (t := t) (by rw [HB.out]; simp; omega) (by rw [HB.out]; exact hdx) hh
      rw [HB.out, ← HSG.out, hv] at hO
      rw [show (((valL p * 10 + (x.toNat - 48) : Nat)) : Int) = 10 * (valL p : Int) + ((x.toNat : Int) - 48) by omega] at hO
      have HO : Hid (readV t = sg * (10 * (valL p : Int) + ((x.toNat : Int) - 48)) ∧ readB t = true) := hO
      clear hO hv hh hdx hd
      go_wp2
      go_step3
      rename_i K hK
      apply hK
      refine fall 0 _ _ ?_ ?_ _ rfl
      ·
       exact ⟨hb, _, sg, [], _, _, _, _, _, _, _, _, _, _, _, _, _, _, _, _, _, _, _, _, _, _, _, _, _, _, _, _, _, _, _, _, _, _, _, _, _, _, _, _, _, _, _, _, _, rfl, Or.inr (Or.inr (Or.inl ⟨rfl, HO⟩))⟩
      ·
       simp [numM]
     | cons y q =>
      have HB2 : Hid (bodyL t = (p ++ [x]) ++ y :: q) := by exact (by rw [HB.out]; simp : bodyL t = (p ++ [x]) ++ y :: q)
      have HV : Hid (valL (p ++ [x]) = valL p * 10 + (x.toNat - 48)) := hv
      have HD : Hid (∀ c ∈ p ++ [x], isDig c) := hdx
      clear hv hdx hd HB
      go_wp2
      go_step3
      show NumJ t w 3 _ _ ∧ numM t 3 _ _ < numM t 3 _ _
      refine ⟨⟨hb, _, sg, y :: q, _, _, _, _, _, _, _, _, _, _, _, _, _, _, _, _, _, _, _, _, _, _, _, _, _, _, _, _, _, _, _, _, _, _, _, _, _, _, _, _, _, _, _, _, _, rfl, Or.inr (Or.inl ⟨rfl, HSG.out, p ++ [x], y, q, rfl, HB2, ?_, hlen, HD.out, hh⟩)⟩, ?_⟩
      ·
       rw [HV.out]; omega
      ·
       show lenOfT (.string ⟨(y :: q).toArray⟩) + 1 < lenOfT (.string ⟨(x :: y :: q).toArray⟩) + 1
       have e1 : lenOfT (.string ⟨(y :: q).toArray⟩) = (y :: q).length := List.size_toArray
       have e2 : lenOfT (.string ⟨(x :: y :: q).toArray⟩) = (x :: y :: q).length := List.size_toArray
       rw [e1, e2]; simp
  ·
   refine ⟨_, rfl, ?_⟩
   have hbd := readV_bd t
   rw [HO.out.1] at hbd
   obtain ⟨hb1, hb2⟩ := hbd
   go_wp2
   refine hops_ret ?_
   go_ret2
   exact ⟨by rw [HO.out.1, HO.out.2]; rfl, hb⟩
  ·
   refine ⟨_, rfl, ?_⟩
   go_wp2
   refine hops_ret ?_
   go_ret2
   exact ⟨by rw [HO.out.1, HO.out.2]; rfl, hb⟩


end Go.Proofs.YtaidhjjpdkkmcaaGreatDoor
