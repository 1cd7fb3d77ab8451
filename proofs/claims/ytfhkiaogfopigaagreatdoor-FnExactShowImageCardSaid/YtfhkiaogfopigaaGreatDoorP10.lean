/-
  Parts of one proof, one behind the other: StepA, NeedA, StepB, RegT.
-/
import Derived.Test.YtfhkiaogfopigaaGreatDoorP9
import Derived.Test.YtfhkiaogfopigaaGreatDoorP3
import Derived.Test.YtfhkiaogfopigaaGreatDoorP6
import Derived.Test.YtfhkiaogfopigaaGreatDoorP8
import Derived.Test.YtfhkiaogfopigaaGreatDoorP2
import Derived.Laws.StructEq
import Derived.BigQuiet
import Derived.Test.YtfhkiaogfopigaaGreatDoorP1
import Derived.Deep.MidRow
import Derived.Great.Walk
import Derived.Below
import Derived.Laws.EntriesVeiled
import Derived.Deep.RegionHeld
import Derived.RegionTactic

/-! Contracts of chapter 13's landed code: what a kind of instruction tells, which registers it names, what else of it is asked. -/
namespace Go.Proofs.YtfhkiaogfopigaaGreatDoor
open Go.RowKit

theorem ins_eq (x y : In13) (w : World) : (binOp .eql 81 (insVal x) (insVal y)).run Tryz.prog w = .ok (.bool (decide (x = y))) w := by
  obtain ⟨k, R, A, B, nm⟩ := x
  obtain ⟨k2, R2, A2, B2, nm2⟩ := y
  unfold insVal
  rw [run_eql_struct]
  simp [go_sem]
  by_cases h1 : k = k2
  · by_cases h2 : R = R2
    · by_cases h3 : A = A2
      · by_cases h4 : B = B2
        · by_cases h5 : nm = nm2
          · simp [h1, h2, h3, h4, h5]
          · simp [h1, h2, h3, h4, h5]
        · simp [h1, h2, h3, h4]
      · simp [h1, h2, h3]
    · simp [h1, h2]
  · simp [h1]

/-- What a function tells of an instruction. -/
def Tld (f : Nat) (t : In13 → In13) : Prop := ∀ (i : In13) (w : World), Calls Tryz.prog f #[insVal i] w fun e w' => e = .returned (insVal (t i)) ∧ Below w.heap.size w w'
/-- Which registers it names. -/
def Rgs (f : Nat) (rs : In13 → List Int) : Prop := ∀ (i : In13) (w : World), Calls Tryz.prog f #[insVal i] w fun e w' => ∃ a c, e = .returned (.slice a (rs i).length c) ∧ AsIn w' a (rs i) ∧ Below w.heap.size w w'
/-- What else it asks. -/
def Rit (f : Nat) (q : In13 → Int → Bool) : Prop := ∀ (i : In13) (n : Int) (w : World), i.2.2.2.2.length ≤ 1048576 → Calls Tryz.prog f #[insVal i, .int .i64 n] w fun e w' => e = .returned (.bool (q i n)) ∧ Below w.heap.size w w'

def tlR (i : In13) : In13 := (i.1, i.2.1, 0, 0, [])
def tlA (i : In13) : In13 := (i.1, 0, i.2.2.1, 0, [])
def tlRA (i : In13) : In13 := (i.1, i.2.1, i.2.2.1, 0, [])
def tlRAB (i : In13) : In13 := (i.1, i.2.1, i.2.2.1, i.2.2.2.1, [])
def tlRAN (i : In13) : In13 := (i.1, i.2.1, i.2.2.1, 0, i.2.2.2.2)

set_option maxHeartbeats 1000000 in
set_option maxRecDepth 100000 in
theorem impl_withR : Tld 158 tlR := by
  rintro ⟨k, R, A, B, nm⟩ w
  unfold insVal tlR
  dsimp only
  go_enter Tryz.func158, Tryz.ntmps158
  go_wp2
  refine bodyPost_ret (v := insVal (tlR (k, R, A, B, nm))) (by simp [results, Tryz.results158, go_sem, insVal, tlR]) rfl ⟨rfl, ?_⟩
  exact ((Below.refl _ w).alloc (Nat.le_refl _) _).alloc (by simp) _
set_option maxHeartbeats 1000000 in
set_option maxRecDepth 100000 in
theorem impl_withA : Tld 153 tlA := by
  rintro ⟨k, R, A, B, nm⟩ w
  unfold insVal tlA
  dsimp only
  go_enter Tryz.func153, Tryz.ntmps153
  go_wp2
  refine bodyPost_ret (v := insVal (tlA (k, R, A, B, nm))) (by simp [results, Tryz.results153, go_sem, insVal, tlA]) rfl ⟨rfl, ?_⟩
  exact ((Below.refl _ w).alloc (Nat.le_refl _) _).alloc (by simp) _
set_option maxHeartbeats 1000000 in
set_option maxRecDepth 100000 in
theorem impl_withRA : Tld 148 tlRA := by
  rintro ⟨k, R, A, B, nm⟩ w
  unfold insVal tlRA
  dsimp only
  go_enter Tryz.func148, Tryz.ntmps148
  go_wp2
  refine bodyPost_ret (v := insVal (tlRA (k, R, A, B, nm))) (by simp [results, Tryz.results148, go_sem, insVal, tlRA]) rfl ⟨rfl, ?_⟩
  exact ((Below.refl _ w).alloc (Nat.le_refl _) _).alloc (by simp) _
set_option maxHeartbeats 1000000 in
set_option maxRecDepth 100000 in
theorem impl_withRAB : Tld 145 tlRAB := by
  rintro ⟨k, R, A, B, nm⟩ w
  unfold insVal tlRAB
  dsimp only
  go_enter Tryz.func145, Tryz.ntmps145
  go_wp2
  refine bodyPost_ret (v := insVal (tlRAB (k, R, A, B, nm))) (by simp [results, Tryz.results145, go_sem, insVal, tlRAB]) rfl ⟨rfl, ?_⟩
  exact ((Below.refl _ w).alloc (Nat.le_refl _) _).alloc (by simp) _
set_option maxHeartbeats 1000000 in
set_option maxRecDepth 100000 in
theorem impl_withRAName : Tld 155 tlRAN := by
  rintro ⟨k, R, A, B, nm⟩ w
  unfold insVal tlRAN
  dsimp only
  go_enter Tryz.func155, Tryz.ntmps155
  go_wp2
  refine bodyPost_ret (v := insVal (tlRAN (k, R, A, B, nm))) (by simp [results, Tryz.results155, go_sem, insVal, tlRAN]) rfl ⟨rfl, ?_⟩
  exact ((Below.refl _ w).alloc (Nat.le_refl _) _).alloc (by simp) _
def rsN (_i : In13) : List Int := []
def rsR (i : In13) : List Int := [i.2.1]
def rsRAB (i : In13) : List Int := [i.2.1, i.2.2.1, i.2.2.2.1]
def rsC (i : In13) : List Int := [i.2.1, max i.2.1 (wrap64 (wrap64 (i.2.1 + i.2.2.1) - 1))]
theorem as_new (w : World) (xs : List Int) (t : TypeId) : AsIn (w.alloc (.cells (intsV xs).toArray t)) (some ⟨w.heap.size, 0, none⟩) xs := by
  have hA := heap_alloc_new w (.cells (intsV xs).toArray t)
  intro j hj
  refine ⟨_, 0, rfl, by simp, ?_⟩
  rw [cell_of_row _ _ _ _ _ _ hA, Nat.zero_add]
  simp [intsV, List.getD, hj]
set_option maxHeartbeats 1000000 in
set_option maxRecDepth 100000 in
theorem impl_noRegister : Rgs 154 rsN := by
  rintro ⟨k, R, A, B, nm⟩ w
  unfold insVal
  dsimp only
  have hA := fun W => as_new W (rsN (k, R, A, B, nm)) 2
  unfold rsN at hA ⊢
  (try dsimp only at hA ⊢)
  go_enter Tryz.func154, Tryz.ntmps154
  go_wp2
  go_ret
  refine ⟨_, _, rfl, ?_, ((Below.refl _ w).alloc (Nat.le_refl _) _).alloc (by simp) _⟩
  have h := hA (w.alloc (.cells #[.int .i64 k, .int .i64 R, .int .i64 A, .int .i64 B, .string ⟨nm.toArray⟩] 81))
  simpa [intsV] using h
set_option maxHeartbeats 1000000 in
set_option maxRecDepth 100000 in
theorem impl_registerR : Rgs 149 rsR := by
  rintro ⟨k, R, A, B, nm⟩ w
  unfold insVal
  dsimp only
  have hA := fun W => as_new W (rsR (k, R, A, B, nm)) 2
  unfold rsR at hA ⊢
  (try dsimp only at hA ⊢)
  go_enter Tryz.func149, Tryz.ntmps149
  go_wp2
  go_ret
  refine ⟨_, _, rfl, ?_, ((Below.refl _ w).alloc (Nat.le_refl _) _).alloc (by simp) _⟩
  have h := hA (w.alloc (.cells #[.int .i64 k, .int .i64 R, .int .i64 A, .int .i64 B, .string ⟨nm.toArray⟩] 81))
  simpa [intsV] using h
set_option maxHeartbeats 1000000 in
set_option maxRecDepth 100000 in
theorem impl_registersRAB : Rgs 146 rsRAB := by
  rintro ⟨k, R, A, B, nm⟩ w
  unfold insVal
  dsimp only
  have hA := fun W => as_new W (rsRAB (k, R, A, B, nm)) 2
  unfold rsRAB at hA ⊢
  (try dsimp only at hA ⊢)
  go_enter Tryz.func146, Tryz.ntmps146
  go_wp2
  go_ret
  refine ⟨_, _, rfl, ?_, ((Below.refl _ w).alloc (Nat.le_refl _) _).alloc (by simp) _⟩
  have h := hA (w.alloc (.cells #[.int .i64 k, .int .i64 R, .int .i64 A, .int .i64 B, .string ⟨nm.toArray⟩] 81))
  simpa [intsV] using h
set_option maxHeartbeats 1000000 in
set_option maxRecDepth 100000 in
theorem impl_registersOfCall : Rgs 156 rsC := by
  rintro ⟨k, R, A, B, nm⟩ w
  unfold insVal
  dsimp only
  have hA := fun W => as_new W (rsC (k, R, A, B, nm)) 2
  unfold rsC at hA ⊢
  (try dsimp only at hA ⊢)
  go_enter Tryz.func156, Tryz.ntmps156
  go_wp2
  go_ret
  refine ⟨_, _, rfl, ?_, ((Below.refl _ w).alloc (Nat.le_refl _) _).alloc (by simp) _⟩
  have h := hA (w.alloc (.cells #[.int .i64 k, .int .i64 R, .int .i64 A, .int .i64 B, .string ⟨nm.toArray⟩] 81))
  simpa [intsV] using h
def rqY (_i : In13) (_n : Int) : Bool := true
def rqW (i : In13) (_n : Int) : Bool := inB i.2.2.1 (-2147483648) 2147483647
def rqA (i : In13) (_n : Int) : Bool := decide (0 ≤ i.2.2.1) && decide (i.2.2.1 ≤ 2)
def rqP (i : In13) (n : Int) : Bool := decide (0 ≤ i.2.2.1) && decide (i.2.2.1 < n)
def rqC (i : In13) (_n : Int) : Bool := decide (0 ≤ i.2.2.1) && decide (i.2.2.1 ≤ 3) && name13 i.2.2.2.2
set_option maxHeartbeats 1000000 in
set_option maxRecDepth 100000 in
theorem impl_nothingElse : Rit 147 rqY := by
  rintro ⟨k, R, A, B, nm⟩ n w _
  unfold insVal rqY
  go_enter Tryz.func147, Tryz.ntmps147
  go_wp2
  go_ret
  exact ⟨rfl, (Below.refl _ w).alloc (Nat.le_refl _) _⟩
set_option maxHeartbeats 1000000 in
set_option maxRecDepth 100000 in
theorem impl_wordInA : Rit 150 rqW := by
  rintro ⟨k, R, A, B, nm⟩ n w _
  unfold insVal rqW
  dsimp only
  go_enter Tryz.func150, Tryz.ntmps150
  go_wp2_with (go_at_call 109; refine (implWordOkS _ _).mono ?_; rintro e w' ⟨rfl, rfl⟩)
  go_ret
  exact ⟨rfl, (Below.refl _ w).alloc (Nat.le_refl _) _⟩
set_option maxHeartbeats 1000000 in
set_option maxRecDepth 100000 in
theorem impl_argInA : Rit 151 rqA := by
  rintro ⟨k, R, A, B, nm⟩ n w _
  unfold insVal rqA
  dsimp only
  by_cases h1 : 0 ≤ A
  · by_cases h2 : A ≤ 2
    · rw [decide_eq_true h1, decide_eq_true h2]
      go_enter Tryz.func151, Tryz.ntmps151
      go_wp2
      go_ret
      exact ⟨rfl, (Below.refl _ w).alloc (Nat.le_refl _) _⟩
    · rw [decide_eq_true h1, decide_eq_false h2]
      go_enter Tryz.func151, Tryz.ntmps151
      go_wp2
      go_ret
      exact ⟨rfl, (Below.refl _ w).alloc (Nat.le_refl _) _⟩
  · rw [decide_eq_false h1]
    go_enter Tryz.func151, Tryz.ntmps151
    go_wp2
    go_ret
    exact ⟨rfl, (Below.refl _ w).alloc (Nat.le_refl _) _⟩
set_option maxHeartbeats 1000000 in
set_option maxRecDepth 100000 in
theorem impl_placeInA : Rit 152 rqP := by
  rintro ⟨k, R, A, B, nm⟩ n w _
  unfold insVal rqP
  dsimp only
  by_cases h1 : 0 ≤ A
  · by_cases h2 : A < n
    · rw [decide_eq_true h1, decide_eq_true h2]
      go_enter Tryz.func152, Tryz.ntmps152
      go_wp2
      go_ret
      exact ⟨rfl, (Below.refl _ w).alloc (Nat.le_refl _) _⟩
    · rw [decide_eq_true h1, decide_eq_false h2]
      go_enter Tryz.func152, Tryz.ntmps152
      go_wp2
      go_ret
      exact ⟨rfl, (Below.refl _ w).alloc (Nat.le_refl _) _⟩
  · rw [decide_eq_false h1]
    go_enter Tryz.func152, Tryz.ntmps152
    go_wp2
    go_ret
    exact ⟨rfl, (Below.refl _ w).alloc (Nat.le_refl _) _⟩
set_option maxHeartbeats 1000000 in
set_option maxRecDepth 100000 in
theorem liteCut13 (l : List UInt8) (b : UInt8) (w : World) (hl : l.length ≤ 1048576) :
    Calls Tryz.prog 94 #[.string ⟨l.toArray⟩, .string ⟨#[b]⟩] w fun e w' => ∃ g, e = .returned (.tuple #[.string ⟨(cutA b l).toArray⟩, .string ⟨(cutB b l).toArray⟩, .bool g]) ∧ Below w.heap.size w w' := by
  have hext := ext_list
  have HC : Hid (_) := fun W : World => Tryz.stringslite_Index_one ⟨l.toArray⟩ b W
  rcases cut_at b l with ⟨h1, h2, h3⟩ | ⟨k, h1, hk, h3, h4⟩
  · rw [h2, h3]
    rw [show (⟨l.toArray⟩ : ByteArray).data.toList = l from rfl, h1] at HC
    clear h1 h2 h3
    go_enter Tryz.func94, Tryz.ntmps94
    go_wp2_with (go_at_call 115; refine Calls.mono (HC.out _) ?_; rintro e w' ⟨rfl, rfl⟩)
    go_ret3
    exact ⟨_, rfl, Below.refl _ _⟩
  · rw [h3, h4]
    rw [show (⟨l.toArray⟩ : ByteArray).data.toList = l from rfl, h1] at HC
    have c2 : (k : Int) ≤ (l.length : Int) := by omega
    have c4 : (k : Int) + 1 ≤ (l.length : Int) := by omega
    have c5 : (l.length : Int) ≤ 1048576 := by omega
    have htk : List.take (l.length - (k + 1)) (List.drop (k + 1) l) = List.drop (k + 1) l := List.take_of_length_le (by rw [List.length_drop]; omega)
    clear h1 h3 h4
    go_enter Tryz.func94, Tryz.ntmps94
    go_wp2_with (go_at_call 115; refine Calls.mono (HC.out _) ?_; rintro e w' ⟨rfl, rfl⟩)
    go_quiet (fail)
    go_wp2
    go_ret3
    exact ⟨_, rfl, ⟨rfl, rfl, rfl, Nat.le_refl _, fun _ _ => rfl⟩⟩

set_option maxHeartbeats 1000000 in
set_option maxRecDepth 100000 in
theorem cutOne13 (l : List UInt8) (b : UInt8) (w : World) (hl : l.length ≤ 1048576) :
    Calls Tryz.prog 75 #[.string ⟨l.toArray⟩, .string ⟨#[b]⟩] w fun e w' => ∃ g, e = .returned (.tuple #[.string ⟨(cutA b l).toArray⟩, .string ⟨(cutB b l).toArray⟩, .bool g]) ∧ Below w.heap.size w w' := by
  have HC : Hid (_) := liteCut13 l b w hl
  generalize cutA b l = x at HC ⊢
  generalize cutB b l = y at HC ⊢
  go_enter Tryz.func75, Tryz.ntmps75
  go_wp2_with fail
  refine Calls.mono HC.out ?_
  rintro e w1 ⟨g, rfl, hb1⟩
  go_wp2
  go_ret3
  exact ⟨_, rfl, hb1⟩

theorem drop_none : ∀ (s : List UInt8), (∀ c ∈ s, c ≠ 46) → s.dropWhile (fun c => c != 46) = []
  | [], _ => rfl
  | c :: r, h => by rw [List.dropWhile_cons, if_pos (bne_iff_ne.2 (h c (by simp)))]; exact drop_none r (fun d hd => h d (by simp [hd]))
theorem name_cut (s : List UInt8) : (nameB (cutA 46 s) && nameB (cutB 46 s)) = name13 s := by
  have hno : ∀ {l : List UInt8}, nameB l = true → ∀ c ∈ l, c ≠ 46 := fun h c hc e => by
    unfold nameB at h
    rw [Bool.and_eq_true, List.all_eq_true] at h
    have := h.2 c hc
    subst e
    simp at this
  have hnil : nameB [] = false := by decide
  by_cases hm : (46 : UInt8) ∈ s
  · obtain ⟨x, y, rfl, hx⟩ := List.eq_append_cons_of_mem hm
    have hx2 : ∀ c ∈ x, c ≠ 46 := fun c hc e => hx (e ▸ hc)
    obtain ⟨ea, eb⟩ := cut_one 46 x y hx2
    rw [ea, eb]
    by_cases hy : (46 : UInt8) ∈ y
    · have hny : nameB y = false := by
        rcases h : nameB y with _ | _
        · rfl
        · exact absurd rfl (hno h 46 hy)
      obtain ⟨y1, y2, rfl, hy1⟩ := List.eq_append_cons_of_mem hy
      have hy2 : ∀ c ∈ y1, c ≠ 46 := fun c hc e => hy1 (e ▸ hc)
      have hs : splitL 46 (x ++ 46 :: (y1 ++ 46 :: y2)) = x :: y1 :: splitGo 46 [] y2 := by
        unfold splitL
        rw [split_one 46 x _ [] hx2, split_one 46 y1 y2 [] hy2]
        rfl
      have hne := splitGo_ne 46 y2 []
      unfold name13
      rw [hs, hny, Bool.and_false]
      have : ((x :: y1 :: splitGo 46 [] y2).length == 2) = false := by
        rcases hq : splitGo 46 [] y2 with _ | _
        · exact absurd hq hne
        · simp
      rw [this]
      rfl
    · have hy2 : ∀ c ∈ y, c ≠ 46 := fun c hc e => hy (e ▸ hc)
      have hs : splitL 46 (x ++ 46 :: y) = [x, y] := by
        unfold splitL
        rw [split_one 46 x y [] hx2, split_none 46 y [] hy2]
        rfl
      unfold name13
      rw [hs]
      simp
  · have h2 : ∀ c ∈ s, c ≠ 46 := fun c hc e => hm (e ▸ hc)
    have hb : cutB 46 s = [] := by
      unfold cutB
      rw [drop_none s h2]
      rfl
    have hs : splitL 46 s = [s] := by
      unfold splitL
      rw [split_none 46 s [] h2]
      rfl
    rw [hb, hnil, Bool.and_false]
    unfold name13
    rw [hs]
    rfl
set_option maxHeartbeats 1000000 in
set_option maxRecDepth 100000 in
theorem implWhole (s : List UInt8) (w : World) (hl : s.length ≤ 1048576) :
    Calls Tryz.prog 98 #[.string ⟨s.toArray⟩] w fun e w' => e = .returned (.bool (name13 s)) ∧ Below w.heap.size w w' := by
  rw [← name_cut]
  have HC : Hid (_) := cutOne13 s 46 w hl
  have h1 := cutA_len 46 s
  have h2 := cutB_len 46 s
  generalize cutA 46 s = x at HC h1 ⊢
  generalize cutB 46 s = y at HC h2 ⊢
  have HX : Hid (_) := fun W : World => implNameOk x W (by omega)
  have HY : Hid (_) := fun W : World => implNameOk y W (by omega)
  generalize nameB y = by2 at HY ⊢
  generalize nameB x = bx at HX ⊢
  cases bx
  · go_enter Tryz.func98, Tryz.ntmps98
    go_wp2_with fail
    refine Calls.mono HC.out ?_
    rintro e w1 ⟨g, rfl, hb1⟩
    go_wp2_with fail
    refine Calls.mono (HX.out _) ?_
    rintro e w2 ⟨rfl, hb2⟩
    go_wp2
    go_ret
    exact ⟨rfl, hb1.trans (hb2.mono hb1.size)⟩
  · go_enter Tryz.func98, Tryz.ntmps98
    go_wp2_with fail
    refine Calls.mono HC.out ?_
    rintro e w1 ⟨g, rfl, hb1⟩
    go_wp2_with fail
    refine Calls.mono (HX.out _) ?_
    rintro e w2 ⟨rfl, hb2⟩
    go_wp2_with fail
    refine Calls.mono (HY.out _) ?_
    rintro e w3 ⟨rfl, hb3⟩
    have hB2 := hb1.trans (hb2.mono hb1.size)
    go_wp2
    go_ret
    exact ⟨rfl, hB2.trans (hb3.mono hB2.size)⟩
set_option maxHeartbeats 1000000 in
set_option maxRecDepth 100000 in
theorem impl_countAndName : Rit 157 rqC := by
  rintro ⟨k, R, A, B, nm⟩ n w hl
  unfold insVal rqC
  dsimp only at hl ⊢
  by_cases h1 : 0 ≤ A
  · by_cases h2 : A ≤ 3
    · rw [decide_eq_true h1, decide_eq_true h2]
      have HC : Hid (_) := fun W : World => implWhole nm W hl
      generalize name13 nm = bn at HC ⊢
      go_enter Tryz.func157, Tryz.ntmps157
      go_wp2_with fail
      refine Calls.mono (HC.out _) ?_
      rintro e w2 ⟨rfl, hb2⟩
      go_wp2
      go_ret
      have hb1 : Below w.heap.size w _ := (Below.refl _ w).alloc (Nat.le_refl _) (.cells #[.int .i64 k, .int .i64 R, .int .i64 A, .int .i64 B, .string ⟨nm.toArray⟩] 81)
      exact ⟨rfl, hb1.trans (hb2.mono hb1.size)⟩
    · rw [decide_eq_true h1, decide_eq_false h2]
      go_enter Tryz.func157, Tryz.ntmps157
      go_wp2
      go_ret
      exact ⟨rfl, (Below.refl _ w).alloc (Nat.le_refl _) _⟩
  · rw [decide_eq_false h1]
    go_enter Tryz.func157, Tryz.ntmps157
    go_wp2
    go_ret
    exact ⟨rfl, (Below.refl _ w).alloc (Nat.le_refl _) _⟩
def regB (rs : List Int) : Bool := rs.all (fun r => inB r 0 63)
theorem regB_snoc (rs : List Int) (j : Nat) (hj : j < rs.length) : regB (rs.take (j + 1)) = (regB (rs.take j) && inB (rs.getD j 0) 0 63) := by
  have hg : rs.getD j 0 = rs[j] := by simp [List.getD, hj]
  rw [hg, List.take_succ_eq_append_getElem hj]
  unfold regB
  rw [List.all_append]
  simp
theorem regB_no {rs : List Int} {j : Nat} (hj : j < rs.length) (h : inB (rs.getD j 0) 0 63 = false) : regB rs = false := by
  have hg : rs.getD j 0 = rs[j] := by simp [List.getD, hj]
  rcases hb : regB rs with _ | _
  · rfl
  · have := List.all_eq_true.1 hb rs[j] (List.getElem_mem hj)
    rw [← hg, h] at this
    cases this
set_option maxHeartbeats 1000000 in
set_option maxRecDepth 100000 in
theorem implRegistersOk (a : Option Addr) (n c : Nat) (rs : List Int) (w : World) (hn : rs.length = n) (hin : AsIn w a rs) (hnl : n ≤ 1048576) :
    Calls Tryz.prog 133 #[.slice a n c] w fun e w' => e = .returned (.bool (regB rs)) ∧ w' = w := by
  have HIn : Hid (AsIn w a rs) := hin
  have HN : Hid (rs.length = n) := hn
  clear hin hn
  go_enter Tryz.func133, Tryz.ntmps133
  go_wp2
  go_loop [4, 7] (fun _ jv => ∃ j : Nat, jv = .int .i64 (j : Int) ∧ j ≤ n ∧ Hid (regB (rs.take j) = true)) (fun _ jv => n - (intOf jv).toNat)
  case atStart => exact ⟨0, rfl, Nat.zero_le _, rfl⟩
  case round =>
    obtain ⟨j, rfl, hj, st⟩ := hrel
    by_cases hlt : (j : Int) < (n : Int)
    · obtain ⟨b, off, rfl, hbl, hc⟩ := HIn.out j (by rw [HN.out]; omega)
      have HS : Hid (_) := regB_snoc rs j (by rw [HN.out]; omega)
      have HO : Hid (inB (rs.getD j 0) 0 63 = false → regB rs = false) := fun h => regB_no (by rw [HN.out]; omega) h
      rw [st.out, Bool.true_and] at HS
      generalize rs.getD j 0 = r at hc HS HO
      by_cases h1 : r < 0
      · have HF : Hid (regB rs = false) := HO.out (inB_no _ _ _ (Or.inl (by omega)))
        clear HS HO
        go_wp2
        go_ret
        exact ⟨by rw [HF.out]; rfl, rfl⟩
      · by_cases h2 : 63 < r
        · have HF : Hid (regB rs = false) := HO.out (inB_no _ _ _ (Or.inr (by omega)))
          clear HS HO
          go_wp2
          go_ret
          exact ⟨by rw [HF.out]; rfl, rfl⟩
        · have HF : Hid (regB (rs.take (j + 1)) = true) := by exact (by rw [HS.out]; exact inB_yes _ _ _ (by omega) (by omega) : regB (rs.take (j + 1)) = true)
          clear HS HO
          go_wp2
          go_round
          case rel => exact ⟨j + 1, by go_num, by omega, HF⟩
          case measure => simp [intOf]; omega
    · have HE : Hid (regB rs = true) := by
        have h := st.out
        rw [List.take_of_length_le (by rw [HN.out]; omega)] at h
        exact h
      go_wp2
      go_ret
      exact ⟨by rw [HE.out]; rfl, rfl⟩

end Go.Proofs.YtfhkiaogfopigaaGreatDoor

/-! Needs as the landed code of chapter 12 holds them: arrays of sixty marks, the first k of them set; what is read and written of them as a whole. -/
namespace Go.Proofs.YtfhkiaogfopigaaGreatDoor
open Go.RowKit

def nvL (k : Nat) : List Value := (List.range 60).map fun j => .bool (decide (j < k))
def nv (k : Nat) : Array Value := (nvL k).toArray
section
variable {X Y : World} {b o k : Nat}
end
theorem grown_setNv (b : Nat) : ∀ (vs : List Value) (o : Nat) (w : World), w.grownBy (w.setCells b o vs) (some b)
  | [], _, w => World.grownBy.refl w _
  | v :: r, o, w => by
    rw [World.setCells]
    exact (grown_set w b o v).trans (grown_setNv b r (o + 1) _)

end Go.Proofs.YtfhkiaogfopigaaGreatDoor

/-! Contracts of chapter 13's landed code: the table of steps. -/
namespace Go.Proofs.YtfhkiaogfopigaaGreatDoor
open Go.RowKit

def fv (f : Nat) : Value := .func (.func f) #[] #[]
/-- What a kind's step is. -/
def st13 (k : Nat) : List Value :=
  if k = 1 then [fv 148, fv 149, fv 150]
  else if k = 2 then [fv 148, fv 149, fv 151]
  else if k = 3 ∨ k = 4 ∨ k = 5 ∨ k = 6 then [fv 145, fv 146, fv 147]
  else if k = 7 then [fv 148, fv 149, fv 152]
  else if k = 8 then [fv 153, fv 154, fv 152]
  else if k = 9 then [fv 155, fv 156, fv 157]
  else if k = 10 then [fv 158, fv 149, fv 147]
  else [.nilFunc, .nilFunc, .nilFunc]
def tbL : List Value := (List.range 11).flatMap st13
def tb : Array Value := tbL.toArray
def tz : Array Value := (List.replicate 33 Value.nilFunc).toArray
theorem tbL_len : tbL.length = 33 := by decide +kernel
theorem tbL_one : ∀ v ∈ tbL, v.oneCell' = true := by
  intro v hv
  have h : tbL.all (fun v => v.oneCell') = true := by kernel_rfl
  exact List.all_eq_true.1 h v hv

/-- A row of cells lies in block b from o on, and may be written. -/
structure Rb (X : World) (b o : Nat) (vs : List Value) : Prop where
  cs : X.rangeAt b o vs
  ok : X.there b o vs.length
  lt : b < X.heap.size
section
variable {X Y : World} {b o : Nat} {vs : List Value}
theorem Rb.keep (h : Rb X b o vs) (hb : Y.heap[b]? = X.heap[b]?) (hs : X.heap.size ≤ Y.heap.size) : Rb Y b o vs :=
  ⟨fun j v hv => (World.cell?_of_block (a := ⟨b, o + j, none⟩) hb).trans (h.cs j v hv), fun j hj => by rw [World.cell?_of_block (a := ⟨b, o + j, none⟩) hb, World.frozen?_of_block (a := ⟨b, o + j, none⟩) hb]; exact h.ok j hj, Nat.lt_of_lt_of_le h.lt hs⟩
theorem Rb.below (h : Rb X b o vs) (hb : Below X.heap.size X Y) : Rb Y b o vs := h.keep (hb.block b h.lt) hb.size
theorem Rb.kept {row : Option Nat} (h : Rb X b o vs) (hg : X.grownBy Y row) (hne : some b ≠ row) : Rb Y b o vs := h.keep (hg.block b h.lt hne) hg.size
theorem Rb.cell (h : Rb X b o vs) (j : Nat) (v : Value) (hv : vs[j]? = some v) : X.cell? ⟨b, o + j, none⟩ = some v := h.cs j v hv
theorem Rb.new (w : World) (vs : Array Value) (t : TypeId) : Rb (w.alloc (.cells vs t)) w.heap.size 0 vs.toList := by
  have hA := heap_alloc_new w (.cells vs t)
  refine ⟨fun j v hv => ?_, fun j hj => ?_, by simp⟩
  · rw [cell_of_row _ _ _ _ _ _ hA, Nat.zero_add]
    simpa using hv
  · rw [cell_of_row _ _ _ _ _ _ hA, frozen_of_row _ _ _ _ _ hA, Nat.zero_add]
    refine ⟨?_, rfl⟩
    have : j < vs.size := by simpa using hj
    simp [this]
theorem Rb.store (h : X.there b o vs.length) (hl : b < X.heap.size) : Rb (X.setCells b o vs) b o vs :=
  ⟨World.rangeAt_setCells_same X b o vs h, World.there_setCells h b o _, by have := (grown_setNv b vs o X).size; omega⟩
end

section
variable {ops : Array Oper} {rest : List Oper} {op : Oper} {a : Act} {w : World} {Q : Exit → Act → World → Prop} {K : Act → World → Prop}
theorem run_zero85 (w : World) : (zeroValue 153).run Tryz.prog w = .ok (.agg tz) w := Tryz.zeroValue153 w
theorem size85 : (Tryz.prog.info? 153).map (·.size) = some 33 := by kernel_rfl
theorem wp_alloc_tb (ho : op.op = .alloc 153) (h : ∀ Y g, Rb Y g 0 tz.toList → Below w.heap.size w Y → w.heap.size ≤ g → K (a.put op.dst (.pointer (some ⟨g, 0, none⟩))) Y) : op.wp Tryz.prog a w K Q := by
  unfold Oper.wp execOp
  simp only [ho, Instr.alloc, Sem.run_bind, run_zero85, Result.andThen_ok, newVar, newRow, run_newObj_alloc, Sem.run_pure, Value.cells]
  exact h _ _ (Rb.new w tz _) ((Below.refl _ _).alloc (Nat.le_refl _) _) (Nat.le_refl _)
theorem list_alloc_tb (hgd : op.guard = none) (ho : op.op = .alloc 153) (d : Nat) (hd : op.dst = some d) (h : ∀ Y g, Rb Y g 0 tz.toList → Below w.heap.size w Y → w.heap.size ≤ g → wpList Tryz.prog ops Q rest (a.put (some d) (.pointer (some ⟨g, 0, none⟩))) Y) : wpList Tryz.prog ops Q (op :: rest) a w :=
  wpList_plain hgd fun _ hK => wp_alloc_tb ho (fun Y g h1 h2 h3 => by rw [hd]; exact hK _ _ (h Y g h1 h2 h3))
theorem tz_len : tz.toList.length = 33 := by simp [tz]
theorem wp_store_tb (x y : Operand) (ho : op.op = .store 153 x y) (b : Nat) (hx : a.eval x = .pointer (some ⟨b, 0, none⟩)) (hy : a.eval y = .agg tb) (ht : Rb w b 0 tz.toList)
    (h : ∀ Y, Rb Y b 0 tbL → w.grownBy Y (some b) → K (a.put op.dst undef) Y) : op.wp Tryz.prog a w K Q := by
  have hth : w.there b 0 33 := by have := ht.ok; rw [tz_len] at this; exact this
  have hsz : tb.size = 33 := tbL_len
  refine wp_store_mid _ x y ho b 0 tb hx hy (by rw [hsz]; exact hth) (by rw [hsz]; exact size85) (all_oneCell_toArray tbL_one) ?_
  exact h _ (Rb.store (vs := tbL) (by rw [tbL_len]; exact hth) ht.lt) (grown_setNv b _ 0 w)
theorem list_store_tb (hgd : op.guard = none) (x y : Operand) (ho : op.op = .store 153 x y) (b : Nat) (hx : a.eval x = .pointer (some ⟨b, 0, none⟩)) (hy : a.eval y = .agg tb) (ht : Rb w b 0 tz.toList)
    (h : ∀ Y, Rb Y b 0 tbL → w.grownBy Y (some b) → wpList Tryz.prog ops Q rest (a.put op.dst undef) Y) : wpList Tryz.prog ops Q (op :: rest) a w :=
  wpList_plain hgd fun _ hK => wp_store_tb x y ho b hx hy ht (fun Y h1 h2 => hK _ _ (h Y h1 h2))
theorem results_tb {fn : Func} {p : Tmp} (h : fn.results = #[.cell p 153]) (tmps : Array Value) (w : World) (b : Nat) (hp : tmps.getD p undef = .pointer (some ⟨b, 0, none⟩)) (hc : w.rangeAt b 0 tbL) : (results fn tmps).run Tryz.prog w = .ok (.agg tb) w := by
  have hp' : tmps[p]?.getD undef = .pointer (some ⟨b, 0, none⟩) := by simpa using hp
  have hl := run_loadVar_mid (P := Tryz.prog) w b 0 153 tbL _ hc Tryz.underlying153 rfl (by rw [tbL_len]; exact size85)
  simp [results, h, hp', asAddr, hl, tb]
theorem built_tb : Tryz.prog.built 153 [(1, .agg (st13 1).toArray), (2, .agg (st13 2).toArray), (3, .agg (st13 3).toArray), (4, .agg (st13 4).toArray), (5, .agg (st13 5).toArray), (6, .agg (st13 6).toArray), (7, .agg (st13 7).toArray), (8, .agg (st13 8).toArray), (9, .agg (st13 9).toArray), (10, .agg (st13 10).toArray)] = some tb := by kernel_rfl
end
/-! The steps of the table. -/
theorem index_tb1 (W : World) : (Instr.index 153 (.agg tb) (.int .i64 1)).run Tryz.prog W = .ok (.agg #[fv 148, fv 149, fv 150]) W := by kernel_rfl
theorem index_tb2 (W : World) : (Instr.index 153 (.agg tb) (.int .i64 2)).run Tryz.prog W = .ok (.agg #[fv 148, fv 149, fv 151]) W := by kernel_rfl
theorem index_tb3 (W : World) : (Instr.index 153 (.agg tb) (.int .i64 3)).run Tryz.prog W = .ok (.agg #[fv 145, fv 146, fv 147]) W := by kernel_rfl
theorem index_tb4 (W : World) : (Instr.index 153 (.agg tb) (.int .i64 4)).run Tryz.prog W = .ok (.agg #[fv 145, fv 146, fv 147]) W := by kernel_rfl
theorem index_tb5 (W : World) : (Instr.index 153 (.agg tb) (.int .i64 5)).run Tryz.prog W = .ok (.agg #[fv 145, fv 146, fv 147]) W := by kernel_rfl
theorem index_tb6 (W : World) : (Instr.index 153 (.agg tb) (.int .i64 6)).run Tryz.prog W = .ok (.agg #[fv 145, fv 146, fv 147]) W := by kernel_rfl
theorem index_tb7 (W : World) : (Instr.index 153 (.agg tb) (.int .i64 7)).run Tryz.prog W = .ok (.agg #[fv 148, fv 149, fv 152]) W := by kernel_rfl
theorem index_tb8 (W : World) : (Instr.index 153 (.agg tb) (.int .i64 8)).run Tryz.prog W = .ok (.agg #[fv 153, fv 154, fv 152]) W := by kernel_rfl
theorem index_tb9 (W : World) : (Instr.index 153 (.agg tb) (.int .i64 9)).run Tryz.prog W = .ok (.agg #[fv 155, fv 156, fv 157]) W := by kernel_rfl
theorem index_tb10 (W : World) : (Instr.index 153 (.agg tb) (.int .i64 10)).run Tryz.prog W = .ok (.agg #[fv 158, fv 149, fv 147]) W := by kernel_rfl

set_option maxHeartbeats 4000000 in
set_option maxRecDepth 100000 in
theorem implSteps (w : World) : Calls Tryz.prog 132 #[] w fun e w' => e = .returned (.agg tb) ∧ Below w.heap.size w w' := by
  go_enter Tryz.func132, Tryz.ntmps132
  go_wp2_with (guard_target = wpList _ _ _ _ _ _; first | (refine list_alloc_tb rfl rfl 0 rfl (fun Y1 g1 hN1 hB1 hG1 => ?_)) | (refine wpList_buildTo rfl _ _ (op := ⟨some 13, _, _, _, _, _⟩) rfl _ rfl tb (by exact built_tb) ?_) | (refine list_store_tb rfl _ _ rfl g1 rfl rfl ?_ (fun Y2 hN2 hG2 => ?_)))
  · exact hN1.below ((Below.refl _ _).alloc (Nat.le_refl _) _)
  · have hb2 : Below w.heap.size w (Y1.alloc (.cells #[fv 145, fv 146, fv 147] 152)) := hB1.alloc hB1.size _
    refine bodyPost_ret (v := .agg tb) (results_tb Tryz.results132 _ _ g1 rfl hN2.cs) rfl ⟨rfl, ?_⟩
    exact hb2.grown hG2 hb2.size (fun q e => by injection e with e; omega)

end Go.Proofs.YtfhkiaogfopigaaGreatDoor

/-! A region that draws its order and stores, at its end, into a cell that it has read: what is held of the world is asked for behind every operation but those of E, which wait for all that is taken first. -/
namespace Go.Proofs.YtfhkiaogfopigaaGreatDoor
open Go.RowKit

section
variable {P : Program} {ops : Array Oper} {Q : Exit → Act → World → Prop} {md : Region.Mode} {S : World → Prop} {E : List Nat}

/-! The moves of a walk. -/
end

theorem step_of_wp {P : Program} {ops : Array Oper} {o : Oper} {a : Act} {w : World} {K : Act → World → Prop} {Q : Exit → Act → World → Prop} {E : Prop} (hgd : o.guard = none) (h : Oper.wp P o a w K Q) :
    if Region.wanted o (yielded ops a.tmps) = true then Oper.wp P o a w K Q else E := by
  rw [if_pos (by simp [Region.wanted, hgd])]
  exact h

end Go.Proofs.YtfhkiaogfopigaaGreatDoor
