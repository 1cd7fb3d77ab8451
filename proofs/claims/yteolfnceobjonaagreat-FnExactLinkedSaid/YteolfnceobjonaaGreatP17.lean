/-
  Parts of one proof, one behind the other: StepA, NeedA, StepB, RegT.
-/
import Derived.Test.YteolfnceobjonaaGreatP16
import Derived.Test.YteolfnceobjonaaGreatP6
import Derived.Test.YteolfnceobjonaaGreatP8
import Derived.Test.YteolfnceobjonaaGreatP4
import Derived.Test.YteolfnceobjonaaGreatP5
import Derived.Laws.StructEq
import Derived.BigQuiet
import Derived.Test.YteolfnceobjonaaGreatP1
import Derived.Deep.MidRow
import Derived.Great.Walk
import Derived.Below
import Derived.Laws.EntriesVeiled
import Derived.Deep.RegionHeld
import Derived.RegionTactic

/-! Contracts of chapter 13's landed code: what a kind of instruction tells, which registers it names, what else of it is asked. -/
namespace Go.Proofs.YteolfnceobjonaaGreat
open Go.RowKit

theorem ins_eq (x y : In13) (w : World) : (binOp .eql 102 (insVal x) (insVal y)).run Tryz.prog w = .ok (.bool (decide (x = y))) w := by
  obtain ⟨k, R, A, B, nm⟩ := x
  obtain ⟨k2, R2, A2, B2, nm2⟩ := y
  unfold insVal
  rw [run_eql_struct]
  simp [go_sem]
  by_cases h1 : k = k2
  · by_cases h2 : R = R2
    · by_cases h3 : A = A2
      · by_cases h4 : B = B2
        · by_cases h5 : nm = nm2
          · simp [h1, h2, h3, h4, h5]
          · simp [h1, h2, h3, h4, h5]
        · simp [h1, h2, h3, h4]
      · simp [h1, h2, h3]
    · simp [h1, h2]
  · simp [h1]

/-- What a function tells of an instruction. -/
def Tld (f : Nat) (t : In13 → In13) : Prop := ∀ (i : In13) (w : World), Calls Tryz.prog f #[insVal i] w fun e w' => e = .returned (insVal (t i)) ∧ Below w.heap.size w w'
/-- Which registers it names. -/
def Rgs (f : Nat) (rs : In13 → List Int) : Prop := ∀ (i : In13) (w : World), Calls Tryz.prog f #[insVal i] w fun e w' => ∃ a c, e = .returned (.slice a (rs i).length c) ∧ AsIn w' a (rs i) ∧ Below w.heap.size w w'
/-- What else it asks. -/
def Rit (f : Nat) (q : In13 → Int → Bool) : Prop := ∀ (i : In13) (n : Int) (w : World), i.2.2.2.2.length ≤ 1048576 → Calls Tryz.prog f #[insVal i, .int .i64 n] w fun e w' => e = .returned (.bool (q i n)) ∧ Below w.heap.size w w'

def tlR (i : In13) : In13 := (i.1, i.2.1, 0, 0, [])
def tlA (i : In13) : In13 := (i.1, 0, i.2.2.1, 0, [])
def tlRA (i : In13) : In13 := (i.1, i.2.1, i.2.2.1, 0, [])
def tlRAB (i : In13) : In13 := (i.1, i.2.1, i.2.2.1, i.2.2.2.1, [])
def tlRAN (i : In13) : In13 := (i.1, i.2.1, i.2.2.1, 0, i.2.2.2.2)

set_option maxHeartbeats 1000000 in
set_option maxRecDepth 100000 in
theorem impl_withR : Tld 241 tlR := by
  rintro ⟨k, R, A, B, nm⟩ w
  unfold insVal tlR
  dsimp only
  go_enter Tryz.func241, Tryz.ntmps241
  go_wp2
  refine bodyPost_ret (v := insVal (tlR (k, R, A, B, nm))) (by simp [results, Tryz.results241, go_sem, insVal, tlR]) rfl ⟨rfl, ?_⟩
  exact ((Below.refl _ w).alloc (Nat.le_refl _) _).alloc (by simp) _
set_option maxHeartbeats 1000000 in
set_option maxRecDepth 100000 in
theorem impl_withA : Tld 236 tlA := by
  rintro ⟨k, R, A, B, nm⟩ w
  unfold insVal tlA
  dsimp only
  go_enter Tryz.func236, Tryz.ntmps236
  go_wp2
  refine bodyPost_ret (v := insVal (tlA (k, R, A, B, nm))) (by simp [results, Tryz.results236, go_sem, insVal, tlA]) rfl ⟨rfl, ?_⟩
  exact ((Below.refl _ w).alloc (Nat.le_refl _) _).alloc (by simp) _
set_option maxHeartbeats 1000000 in
set_option maxRecDepth 100000 in
theorem impl_withRA : Tld 231 tlRA := by
  rintro ⟨k, R, A, B, nm⟩ w
  unfold insVal tlRA
  dsimp only
  go_enter Tryz.func231, Tryz.ntmps231
  go_wp2
  refine bodyPost_ret (v := insVal (tlRA (k, R, A, B, nm))) (by simp [results, Tryz.results231, go_sem, insVal, tlRA]) rfl ⟨rfl, ?_⟩
  exact ((Below.refl _ w).alloc (Nat.le_refl _) _).alloc (by simp) _
set_option maxHeartbeats 1000000 in
set_option maxRecDepth 100000 in
theorem impl_withRAB : Tld 228 tlRAB := by
  rintro ⟨k, R, A, B, nm⟩ w
  unfold insVal tlRAB
  dsimp only
  go_enter Tryz.func228, Tryz.ntmps228
  go_wp2
  refine bodyPost_ret (v := insVal (tlRAB (k, R, A, B, nm))) (by simp [results, Tryz.results228, go_sem, insVal, tlRAB]) rfl ⟨rfl, ?_⟩
  exact ((Below.refl _ w).alloc (Nat.le_refl _) _).alloc (by simp) _
set_option maxHeartbeats 1000000 in
set_option maxRecDepth 100000 in
theorem impl_withRAName : Tld 238 tlRAN := by
  rintro ⟨k, R, A, B, nm⟩ w
  unfold insVal tlRAN
  dsimp only
  go_enter Tryz.func238, Tryz.ntmps238
  go_wp2
  refine bodyPost_ret (v := insVal (tlRAN (k, R, A, B, nm))) (by simp [results, Tryz.results238, go_sem, insVal, tlRAN]) rfl ⟨rfl, ?_⟩
  exact ((Below.refl _ w).alloc (Nat.le_refl _) _).alloc (by simp) _
def rsN (_i : In13) : List Int := []
def rsR (i : In13) : List Int := [i.2.1]
def rsRAB (i : In13) : List Int := [i.2.1, i.2.2.1, i.2.2.2.1]
def rsC (i : In13) : List Int := [i.2.1, max i.2.1 (wrap64 (wrap64 (i.2.1 + i.2.2.1) - 1))]
theorem as_new (w : World) (xs : List Int) (t : TypeId) : AsIn (w.alloc (.cells (intsV xs).toArray t)) (some ⟨w.heap.size, 0, none⟩) xs := by
  have hA := heap_alloc_new w (.cells (intsV xs).toArray t)
  intro j hj
  refine ⟨_, 0, rfl, by simp, ?_⟩
  rw [cell_of_row _ _ _ _ _ _ hA, Nat.zero_add]
  simp [intsV, List.getD, hj]
set_option maxHeartbeats 1000000 in
set_option maxRecDepth 100000 in
theorem impl_noRegister : Rgs 237 rsN := by
  rintro ⟨k, R, A, B, nm⟩ w
  unfold insVal
  dsimp only
  have hA := fun W => as_new W (rsN (k, R, A, B, nm)) 2
  unfold rsN at hA ⊢
  (try dsimp only at hA ⊢)
  go_enter Tryz.func237, Tryz.ntmps237
  go_wp2
  go_ret
  refine ⟨_, _, rfl, ?_, ((Below.refl _ w).alloc (Nat.le_refl _) _).alloc (by simp) _⟩
  have h := hA (w.alloc (.cells #[.int .i64 k, .int .i64 R, .int .i64 A, .int .i64 B, .string ⟨nm.toArray⟩] 102))
  simpa [intsV] using h
set_option maxHeartbeats 1000000 in
set_option maxRecDepth 100000 in
theorem impl_registerR : Rgs 232 rsR := by
  rintro ⟨k, R, A, B, nm⟩ w
  unfold insVal
  dsimp only
  have hA := fun W => as_new W (rsR (k, R, A, B, nm)) 2
  unfold rsR at hA ⊢
  (try dsimp only at hA ⊢)
  go_enter Tryz.func232, Tryz.ntmps232
  go_wp2
  go_ret
  refine ⟨_, _, rfl, ?_, ((Below.refl _ w).alloc (Nat.le_refl _) _).alloc (by simp) _⟩
  have h := hA (w.alloc (.cells #[.int .i64 k, .int .i64 R, .int .i64 A, .int .i64 B, .string ⟨nm.toArray⟩] 102))
  simpa [intsV] using h
set_option maxHeartbeats 1000000 in
set_option maxRecDepth 100000 in
theorem impl_registersRAB : Rgs 229 rsRAB := by
  rintro ⟨k, R, A, B, nm⟩ w
  unfold insVal
  dsimp only
  have hA := fun W => as_new W (rsRAB (k, R, A, B, nm)) 2
  unfold rsRAB at hA ⊢
  (try dsimp only at hA ⊢)
  go_enter Tryz.func229, Tryz.ntmps229
  go_wp2
  go_ret
  refine ⟨_, _, rfl, ?_, ((Below.refl _ w).alloc (Nat.le_refl _) _).alloc (by simp) _⟩
  have h := hA (w.alloc (.cells #[.int .i64 k, .int .i64 R, .int .i64 A, .int .i64 B, .string ⟨nm.toArray⟩] 102))
  simpa [intsV] using h
set_option maxHeartbeats 1000000 in
set_option maxRecDepth 100000 in
theorem impl_registersOfCall : Rgs 239 rsC := by
  rintro ⟨k, R, A, B, nm⟩ w
  unfold insVal
  dsimp only
  have hA := fun W => as_new W (rsC (k, R, A, B, nm)) 2
  unfold rsC at hA ⊢
  (try dsimp only at hA ⊢)
  go_enter Tryz.func239, Tryz.ntmps239
  go_wp2
  go_ret
  refine ⟨_, _, rfl, ?_, ((Below.refl _ w).alloc (Nat.le_refl _) _).alloc (by simp) _⟩
  have h := hA (w.alloc (.cells #[.int .i64 k, .int .i64 R, .int .i64 A, .int .i64 B, .string ⟨nm.toArray⟩] 102))
  simpa [intsV] using h
def rqY (_i : In13) (_n : Int) : Bool := true
def rqW (i : In13) (_n : Int) : Bool := inB i.2.2.1 (-2147483648) 2147483647
def rqA (i : In13) (_n : Int) : Bool := decide (0 ≤ i.2.2.1) && decide (i.2.2.1 ≤ 2)
def rqP (i : In13) (n : Int) : Bool := decide (0 ≤ i.2.2.1) && decide (i.2.2.1 < n)
def rqC (i : In13) (_n : Int) : Bool := decide (0 ≤ i.2.2.1) && decide (i.2.2.1 ≤ 3) && name13 i.2.2.2.2
set_option maxHeartbeats 1000000 in
set_option maxRecDepth 100000 in
theorem impl_nothingElse : Rit 230 rqY := by
  rintro ⟨k, R, A, B, nm⟩ n w _
  unfold insVal rqY
  go_enter Tryz.func230, Tryz.ntmps230
  go_wp2
  go_ret
  exact ⟨rfl, (Below.refl _ w).alloc (Nat.le_refl _) _⟩
set_option maxHeartbeats 1000000 in
set_option maxRecDepth 100000 in
theorem impl_wordInA : Rit 233 rqW := by
  rintro ⟨k, R, A, B, nm⟩ n w _
  unfold insVal rqW
  dsimp only
  go_enter Tryz.func233, Tryz.ntmps233
  go_wp2_with (go_at_call 219; refine (implWordOkS _ _).mono ?_; rintro e w' ⟨rfl, rfl⟩)
  go_ret
  exact ⟨rfl, (Below.refl _ w).alloc (Nat.le_refl _) _⟩
set_option maxHeartbeats 1000000 in
set_option maxRecDepth 100000 in
theorem impl_argInA : Rit 234 rqA := by
  rintro ⟨k, R, A, B, nm⟩ n w _
  unfold insVal rqA
  dsimp only
  by_cases h1 : 0 ≤ A
  · by_cases h2 : A ≤ 2
    · rw [decide_eq_true h1, decide_eq_true h2]
      go_enter Tryz.func234, Tryz.ntmps234
      go_wp2
      go_ret
      exact ⟨rfl, (Below.refl _ w).alloc (Nat.le_refl _) _⟩
    · rw [decide_eq_true h1, decide_eq_false h2]
      go_enter Tryz.func234, Tryz.ntmps234
      go_wp2
      go_ret
      exact ⟨rfl, (Below.refl _ w).alloc (Nat.le_refl _) _⟩
  · rw [decide_eq_false h1]
    go_enter Tryz.func234, Tryz.ntmps234
    go_wp2
    go_ret
    exact ⟨rfl, (Below.refl _ w).alloc (Nat.le_refl _) _⟩
set_option maxHeartbeats 1000000 in
set_option maxRecDepth 100000 in
theorem impl_placeInA : Rit 235 rqP := by
  rintro ⟨k, R, A, B, nm⟩ n w _
  unfold insVal rqP
  dsimp only
  by_cases h1 : 0 ≤ A
  · by_cases h2 : A < n
    · rw [decide_eq_true h1, decide_eq_true h2]
      go_enter Tryz.func235, Tryz.ntmps235
      go_wp2
      go_ret
      exact ⟨rfl, (Below.refl _ w).alloc (Nat.le_refl _) _⟩
    · rw [decide_eq_true h1, decide_eq_false h2]
      go_enter Tryz.func235, Tryz.ntmps235
      go_wp2
      go_ret
      exact ⟨rfl, (Below.refl _ w).alloc (Nat.le_refl _) _⟩
  · rw [decide_eq_false h1]
    go_enter Tryz.func235, Tryz.ntmps235
    go_wp2
    go_ret
    exact ⟨rfl, (Below.refl _ w).alloc (Nat.le_refl _) _⟩
set_option maxHeartbeats 1000000 in
set_option maxRecDepth 100000 in
theorem liteCut13 (l : List UInt8) (b : UInt8) (w : World) (hl : l.length ≤ 1048576) :
    Calls Tryz.prog 184 #[.string ⟨l.toArray⟩, .string ⟨#[b]⟩] w fun e w' => ∃ g, e = .returned (.tuple #[.string ⟨(cutA b l).toArray⟩, .string ⟨(cutB b l).toArray⟩, .bool g]) ∧ Below w.heap.size w w' := by
  have hext := ext_list
  have HC : Hid (_) := fun W : World => Tryz.stringslite_Index_one ⟨l.toArray⟩ b W
  rcases cut_at b l with ⟨h1, h2, h3⟩ | ⟨k, h1, hk, h3, h4⟩
  · rw [h2, h3]
    rw [show (⟨l.toArray⟩ : ByteArray).data.toList = l from rfl, h1] at HC
    clear h1 h2 h3
    go_enter Tryz.func184, Tryz.ntmps184
    go_wp2_with (go_at_call 213; refine Calls.mono (HC.out _) ?_; rintro e w' ⟨rfl, rfl⟩)
    go_ret3
    exact ⟨_, rfl, Below.refl _ _⟩
  · rw [h3, h4]
    rw [show (⟨l.toArray⟩ : ByteArray).data.toList = l from rfl, h1] at HC
    have c2 : (k : Int) ≤ (l.length : Int) := by omega
    have c4 : (k : Int) + 1 ≤ (l.length : Int) := by omega
    have c5 : (l.length : Int) ≤ 1048576 := by omega
    have htk : List.take (l.length - (k + 1)) (List.drop (k + 1) l) = List.drop (k + 1) l := List.take_of_length_le (by rw [List.length_drop]; omega)
    clear h1 h3 h4
    go_enter Tryz.func184, Tryz.ntmps184
    go_wp2_with (go_at_call 213; refine Calls.mono (HC.out _) ?_; rintro e w' ⟨rfl, rfl⟩)
    go_quiet (fail)
    go_wp2
    go_ret3
    exact ⟨_, rfl, ⟨rfl, rfl, rfl, Nat.le_refl _, fun _ _ => rfl⟩⟩

set_option maxHeartbeats 1000000 in
set_option maxRecDepth 100000 in
theorem cutOne13 (l : List UInt8) (b : UInt8) (w : World) (hl : l.length ≤ 1048576) :
    Calls Tryz.prog 130 #[.string ⟨l.toArray⟩, .string ⟨#[b]⟩] w fun e w' => ∃ g, e = .returned (.tuple #[.string ⟨(cutA b l).toArray⟩, .string ⟨(cutB b l).toArray⟩, .bool g]) ∧ Below w.heap.size w w' := by
  have HC : Hid (_) := liteCut13 l b w hl
  generalize cutA b l = x at HC ⊢
  generalize cutB b l = y at HC ⊢
  go_enter Tryz.func130, Tryz.ntmps130
  go_wp2_with fail
  refine Calls.mono HC.out ?_
  rintro e w1 ⟨g, rfl, hb1⟩
  go_wp2
  go_ret3
  exact ⟨_, rfl, hb1⟩

theorem drop_none : ∀ (s : List UInt8), (∀ c ∈ s, c ≠ 46) → s.dropWhile (fun c => c != 46) = []
  | [], _ => rfl
  | c :: r, h => by rw [List.dropWhile_cons, if_pos (bne_iff_ne.2 (h c (by simp)))]; exact drop_none r (fun d hd => h d (by simp [hd]))
theorem name_cut (s : List UInt8) : (nameB (cutA 46 s) && nameB (cutB 46 s)) = name13 s := by
  have hno : ∀ {l : List UInt8}, nameB l = true → ∀ c ∈ l, c ≠ 46 := fun h c hc e => by
    unfold nameB at h
    rw [Bool.and_eq_true, List.all_eq_true] at h
    have := h.2 c hc
    subst e
    simp at this
  have hnil : nameB [] = false := by decide
  by_cases hm : (46 : UInt8) ∈ s
  · obtain ⟨x, y, rfl, hx⟩ := List.eq_append_cons_of_mem hm
    have hx2 : ∀ c ∈ x, c ≠ 46 := fun c hc e => hx (e ▸ hc)
    obtain ⟨ea, eb⟩ := cut_one 46 x y hx2
    rw [ea, eb]
    by_cases hy : (46 : UInt8) ∈ y
    · have hny : nameB y = false := by
        rcases h : nameB y with _ | _
        · rfl
        · exact absurd rfl (hno h 46 hy)
      obtain ⟨y1, y2, rfl, hy1⟩ := List.eq_append_cons_of_mem hy
      have hy2 : ∀ c ∈ y1, c ≠ 46 := fun c hc e => hy1 (e ▸ hc)
      have hs : splitL 46 (x ++ 46 :: (y1 ++ 46 :: y2)) = x :: y1 :: splitGo 46 [] y2 := by
        unfold splitL
        rw [split_one 46 x _ [] hx2, split_one 46 y1 y2 [] hy2]
        rfl
      have hne := splitGo_ne 46 y2 []
      unfold name13
      rw [hs, hny, Bool.and_false]
      have : ((x :: y1 :: splitGo 46 [] y2).length == 2) = false := by
        rcases hq : splitGo 46 [] y2 with _ | _
        · exact absurd hq hne
        · simp
      rw [this]
      rfl
    · have hy2 : ∀ c ∈ y, c ≠ 46 := fun c hc e => hy (e ▸ hc)
      have hs : splitL 46 (x ++ 46 :: y) = [x, y] := by
        unfold splitL
        rw [split_one 46 x y [] hx2, split_none 46 y [] hy2]
        rfl
      unfold name13
      rw [hs]
      simp
  · have h2 : ∀ c ∈ s, c ≠ 46 := fun c hc e => hm (e ▸ hc)
    have hb : cutB 46 s = [] := by
      unfold cutB
      rw [drop_none s h2]
      rfl
    have hs : splitL 46 s = [s] := by
      unfold splitL
      rw [split_none 46 s [] h2]
      rfl
    rw [hb, hnil, Bool.and_false]
    unfold name13
    rw [hs]
    rfl
set_option maxHeartbeats 1000000 in
set_option maxRecDepth 100000 in
theorem implWhole (s : List UInt8) (w : World) (hl : s.length ≤ 1048576) :
    Calls Tryz.prog 181 #[.string ⟨s.toArray⟩] w fun e w' => e = .returned (.bool (name13 s)) ∧ Below w.heap.size w w' := by
  rw [← name_cut]
  have HC : Hid (_) := cutOne13 s 46 w hl
  have h1 := cutA_len 46 s
  have h2 := cutB_len 46 s
  generalize cutA 46 s = x at HC h1 ⊢
  generalize cutB 46 s = y at HC h2 ⊢
  have HX : Hid (_) := fun W : World => implNameOk x W (by omega)
  have HY : Hid (_) := fun W : World => implNameOk y W (by omega)
  generalize nameB y = by2 at HY ⊢
  generalize nameB x = bx at HX ⊢
  cases bx
  · go_enter Tryz.func181, Tryz.ntmps181
    go_wp2_with fail
    refine Calls.mono HC.out ?_
    rintro e w1 ⟨g, rfl, hb1⟩
    go_wp2_with fail
    refine Calls.mono (HX.out _) ?_
    rintro e w2 ⟨rfl, hb2⟩
    go_wp2
    go_ret
    exact ⟨rfl, hb1.trans (hb2.mono hb1.size)⟩
  · go_enter Tryz.func181, Tryz.ntmps181
    go_wp2_with fail
    refine Calls.mono HC.out ?_
    rintro e w1 ⟨g, rfl, hb1⟩
    go_wp2_with fail
    refine Calls.mono (HX.out _) ?_
    rintro e w2 ⟨rfl, hb2⟩
    go_wp2_with fail
    refine Calls.mono (HY.out _) ?_
    rintro e w3 ⟨rfl, hb3⟩
    have hB2 := hb1.trans (hb2.mono hb1.size)
    go_wp2
    go_ret
    exact ⟨rfl, hB2.trans (hb3.mono hB2.size)⟩
set_option maxHeartbeats 1000000 in
set_option maxRecDepth 100000 in
theorem impl_countAndName : Rit 240 rqC := by
  rintro ⟨k, R, A, B, nm⟩ n w hl
  unfold insVal rqC
  dsimp only at hl ⊢
  by_cases h1 : 0 ≤ A
  · by_cases h2 : A ≤ 3
    · rw [decide_eq_true h1, decide_eq_true h2]
      have HC : Hid (_) := fun W : World => implWhole nm W hl
      generalize name13 nm = bn at HC ⊢
      go_enter Tryz.func240, Tryz.ntmps240
      go_wp2_with fail
      refine Calls.mono (HC.out _) ?_
      rintro e w2 ⟨rfl, hb2⟩
      go_wp2
      go_ret
      have hb1 : Below w.heap.size w _ := (Below.refl _ w).alloc (Nat.le_refl _) (.cells #[.int .i64 k, .int .i64 R, .int .i64 A, .int .i64 B, .string ⟨nm.toArray⟩] 102)
      exact ⟨rfl, hb1.trans (hb2.mono hb1.size)⟩
    · rw [decide_eq_true h1, decide_eq_false h2]
      go_enter Tryz.func240, Tryz.ntmps240
      go_wp2
      go_ret
      exact ⟨rfl, (Below.refl _ w).alloc (Nat.le_refl _) _⟩
  · rw [decide_eq_false h1]
    go_enter Tryz.func240, Tryz.ntmps240
    go_wp2
    go_ret
    exact ⟨rfl, (Below.refl _ w).alloc (Nat.le_refl _) _⟩
def regB (rs : List Int) : Bool := rs.all (fun r => inB r 0 63)
theorem regB_snoc (rs : List Int) (j : Nat) (hj : j < rs.length) : regB (rs.take (j + 1)) = (regB (rs.take j) && inB (rs.getD j 0) 0 63) := by
  have hg : rs.getD j 0 = rs[j] := by simp [List.getD, hj]
  rw [hg, List.take_succ_eq_append_getElem hj]
  unfold regB
  rw [List.all_append]
  simp
theorem regB_no {rs : List Int} {j : Nat} (hj : j < rs.length) (h : inB (rs.getD j 0) 0 63 = false) : regB rs = false := by
  have hg : rs.getD j 0 = rs[j] := by simp [List.getD, hj]
  rcases hb : regB rs with _ | _
  · rfl
  · have := List.all_eq_true.1 hb rs[j] (List.getElem_mem hj)
    rw [← hg, h] at this
    cases this
set_option maxHeartbeats 1000000 in
set_option maxRecDepth 100000 in
theorem implRegistersOk (a : Option Addr) (n c : Nat) (rs : List Int) (w : World) (hn : rs.length = n) (hin : AsIn w a rs) (hnl : n ≤ 1048576) :
    Calls Tryz.prog 223 #[.slice a n c] w fun e w' => e = .returned (.bool (regB rs)) ∧ w' = w := by
  have HIn : Hid (AsIn w a rs) := hin
  have HN : Hid (rs.length = n) := hn
  clear hin hn
  go_enter Tryz.func223, Tryz.ntmps223
  go_wp2
  go_loop [4, 7] (fun _ jv => ∃ j : Nat, jv = .int .i64 (j : Int) ∧ j ≤ n ∧ Hid (regB (rs.take j) = true)) (fun _ jv => n - (intOf jv).toNat)
  case atStart => exact ⟨0, rfl, Nat.zero_le _, rfl⟩
  case round =>
    obtain ⟨j, rfl, hj, st⟩ := hrel
    by_cases hlt : (j : Int) < (n : Int)
    · obtain ⟨b, off, rfl, hbl, hc⟩ := HIn.out j (by rw [HN.out]; omega)
      have HS : Hid (_) := regB_snoc rs j (by rw [HN.out]; omega)
      have HO : Hid (inB (rs.getD j 0) 0 63 = false → regB rs = false) := fun h => regB_no (by rw [HN.out]; omega) h
      rw [st.out, Bool.true_and] at HS
      generalize rs.getD j 0 = r at hc HS HO
      by_cases h1 : r < 0
      · have HF : Hid (regB rs = false) := HO.out (inB_no _ _ _ (Or.inl (by omega)))
        clear HS HO
        go_wp2
        go_ret
        exact ⟨by rw [HF.out]; rfl, rfl⟩
      · by_cases h2 : 63 < r
        · have HF : Hid (regB rs = false) := HO.out (inB_no _ _ _ (Or.inr (by omega)))
          clear HS HO
          go_wp2
          go_ret
          exact ⟨by rw [HF.out]; rfl, rfl⟩
        · have HF : Hid (regB (rs.take (j + 1)) = true) := by exact (by rw [HS.out]; exact inB_yes _ _ _ (by omega) (by omega) : regB (rs.take (j + 1)) = true)
          clear HS HO
          go_wp2
          go_round
          case rel => exact ⟨j + 1, by go_num, by omega, HF⟩
          case measure => simp [intOf]; omega
    · have HE : Hid (regB rs = true) := by
        have h := st.out
        rw [List.take_of_length_le (by rw [HN.out]; omega)] at h
        exact h
      go_wp2
      go_ret
      exact ⟨by rw [HE.out]; rfl, rfl⟩

end Go.Proofs.YteolfnceobjonaaGreat

/-! Needs as the landed code of chapter 12 holds them: arrays of sixty marks, the first k of them set; what is read and written of them as a whole. -/
namespace Go.Proofs.YteolfnceobjonaaGreat
open Go.RowKit

def nvL (k : Nat) : List Value := (List.range 60).map fun j => .bool (decide (j < k))
def nv (k : Nat) : Array Value := (nvL k).toArray
theorem nvL_len (k : Nat) : (nvL k).length = 60 := by simp [nvL]
theorem nvL_at (k j : Nat) (h : j < 60) : (nvL k)[j]? = some (.bool (decide (j < k))) := by simp [nvL, h]
theorem nv_at (k j : Nat) (h : j < 60) : (nv k)[j]? = some (.bool (decide (j < k))) := by simp [nv, nvL_at k j h]
/-- A need lies in block b from o on, and may be written. -/
structure Nb (X : World) (b o k : Nat) : Prop where
  cs : X.rangeAt b o (nvL k)
  ok : X.there b o 60
section
variable {X Y : World} {b o k : Nat}
theorem Nb.cell (h : Nb X b o k) (j : Nat) (hj : j < 60) : X.cell? ⟨b, o + j, none⟩ = some (.bool (decide (j < k))) := h.cs j _ (nvL_at k j hj)
theorem Nb.lt (h : Nb X b o k) : b < X.heap.size := World.block_lt_of_cell? X _ (h.cell 0 (by omega))
theorem Nb.keep (h : Nb X b o k) (hb : Y.heap[b]? = X.heap[b]?) : Nb Y b o k :=
  ⟨fun j v hv => (World.cell?_of_block (a := ⟨b, o + j, none⟩) hb).trans (h.cs j v hv), fun j hj => by rw [World.cell?_of_block (a := ⟨b, o + j, none⟩) hb, World.frozen?_of_block (a := ⟨b, o + j, none⟩) hb]; exact h.ok j hj⟩
theorem Nb.kept {row : Option Nat} (h : Nb X b o k) (hg : X.grownBy Y row) (hne : some b ≠ row) : Nb Y b o k := h.keep (hg.block b h.lt hne)
theorem Nb.below (h : Nb X b o k) (hb : Below X.heap.size X Y) : Nb Y b o k := h.kept (row := none) (Below.by hb) (by simp)
theorem Nb.new (w : World) (k : Nat) (t : TypeId) : Nb (w.alloc (.cells (nv k) t)) w.heap.size 0 k := by
  have hA := heap_alloc_new w (.cells (nv k) t)
  refine ⟨fun j v hv => ?_, fun j hj => ?_⟩
  · rw [cell_of_row _ _ _ _ _ _ hA]
    simpa [nv] using hv
  · rw [cell_of_row _ _ _ _ _ _ hA, frozen_of_row _ _ _ _ _ hA, Nat.zero_add, nv_at k j hj]
    exact ⟨rfl, rfl⟩
theorem Nb.set (h : Nb X b o k) (i m : Nat) (v : Bool) (hi : i < 60) (hm : ∀ j, j < 60 → (j < m ↔ (if j = i then v = true else j < k))) : Nb (X.setCell ⟨b, o + i, none⟩ (.bool v)) b o m := by
  refine ⟨fun j u hu => ?_, fun j hj => ?_⟩
  · have hj : j < 60 := by have := (List.getElem?_eq_some_iff.1 hu).1; rw [nvL_len] at this; exact this
    rw [nvL_at m j hj] at hu
    injection hu with hu
    subst hu
    have h1 := hm j hj
    by_cases e : j = i
    · subst e
      rw [World.cell?_setCell_same _ _ _ (h.cell j hj)]
      rw [if_pos rfl] at h1
      cases v <;> simp_all
    · rw [World.cell?_setCell_other _ _ _ _ (fun e2 => by injection e2 with _ e2 _; omega), h.cell j hj]
      rw [if_neg e] at h1
      rw [decide_eq_decide.2 h1]
  · rw [World.frozen?_setCell]
    refine ⟨?_, (h.ok j hj).2⟩
    by_cases e : j = i
    · subst e
      rw [World.cell?_setCell_same _ _ _ (h.cell j hj)]; rfl
    · rw [World.cell?_setCell_other _ _ _ _ (fun e2 => by injection e2 with _ e2 _; omega)]; exact (h.ok j hj).1
theorem Nb.store (h : X.there b o 60) (k : Nat) : Nb (X.setCells b o (nvL k)) b o k :=
  ⟨World.rangeAt_setCells_same X b o (nvL k) (by rw [nvL_len]; exact h), World.there_setCells h b o _⟩
end
theorem grown_setNv (b : Nat) : ∀ (vs : List Value) (o : Nat) (w : World), w.grownBy (w.setCells b o vs) (some b)
  | [], _, w => World.grownBy.refl w _
  | v :: r, o, w => by
    rw [World.setCells]
    exact (grown_set w b o v).trans (grown_setNv b r (o + 1) _)

section
variable {ops : Array Oper} {rest : List Oper} {op : Oper} {a : Act} {w : World} {Q : Exit → Act → World → Prop} {K : Act → World → Prop}
end
end Go.Proofs.YteolfnceobjonaaGreat

/-! Contracts of chapter 13's landed code: the table of steps. -/
namespace Go.Proofs.YteolfnceobjonaaGreat
open Go.RowKit

def fv (f : Nat) : Value := .func (.func f) #[] #[]
/-- What a kind's step is. -/
def st13 (k : Nat) : List Value :=
  if k = 1 then [fv 231, fv 232, fv 233]
  else if k = 2 then [fv 231, fv 232, fv 234]
  else if k = 3 ∨ k = 4 ∨ k = 5 ∨ k = 6 then [fv 228, fv 229, fv 230]
  else if k = 7 then [fv 231, fv 232, fv 235]
  else if k = 8 then [fv 236, fv 237, fv 235]
  else if k = 9 then [fv 238, fv 239, fv 240]
  else if k = 10 then [fv 241, fv 232, fv 230]
  else [.nilFunc, .nilFunc, .nilFunc]
def tbL : List Value := (List.range 11).flatMap st13
def tb : Array Value := tbL.toArray
def tz : Array Value := (List.replicate 33 Value.nilFunc).toArray
theorem tbL_len : tbL.length = 33 := by decide +kernel
theorem tbL_one : ∀ v ∈ tbL, v.oneCell' = true := by
  intro v hv
  have h : tbL.all (fun v => v.oneCell') = true := by kernel_rfl
  exact List.all_eq_true.1 h v hv

/-- A row of cells lies in block b from o on, and may be written. -/
structure Rb (X : World) (b o : Nat) (vs : List Value) : Prop where
  cs : X.rangeAt b o vs
  ok : X.there b o vs.length
  lt : b < X.heap.size
section
variable {X Y : World} {b o : Nat} {vs : List Value}
theorem Rb.keep (h : Rb X b o vs) (hb : Y.heap[b]? = X.heap[b]?) (hs : X.heap.size ≤ Y.heap.size) : Rb Y b o vs :=
  ⟨fun j v hv => (World.cell?_of_block (a := ⟨b, o + j, none⟩) hb).trans (h.cs j v hv), fun j hj => by rw [World.cell?_of_block (a := ⟨b, o + j, none⟩) hb, World.frozen?_of_block (a := ⟨b, o + j, none⟩) hb]; exact h.ok j hj, Nat.lt_of_lt_of_le h.lt hs⟩
theorem Rb.below (h : Rb X b o vs) (hb : Below X.heap.size X Y) : Rb Y b o vs := h.keep (hb.block b h.lt) hb.size
theorem Rb.kept {row : Option Nat} (h : Rb X b o vs) (hg : X.grownBy Y row) (hne : some b ≠ row) : Rb Y b o vs := h.keep (hg.block b h.lt hne) hg.size
theorem Rb.cell (h : Rb X b o vs) (j : Nat) (v : Value) (hv : vs[j]? = some v) : X.cell? ⟨b, o + j, none⟩ = some v := h.cs j v hv
theorem Rb.new (w : World) (vs : Array Value) (t : TypeId) : Rb (w.alloc (.cells vs t)) w.heap.size 0 vs.toList := by
  have hA := heap_alloc_new w (.cells vs t)
  refine ⟨fun j v hv => ?_, fun j hj => ?_, by simp⟩
  · rw [cell_of_row _ _ _ _ _ _ hA, Nat.zero_add]
    simpa using hv
  · rw [cell_of_row _ _ _ _ _ _ hA, frozen_of_row _ _ _ _ _ hA, Nat.zero_add]
    refine ⟨?_, rfl⟩
    have : j < vs.size := by simpa using hj
    simp [this]
theorem Rb.store (h : X.there b o vs.length) (hl : b < X.heap.size) : Rb (X.setCells b o vs) b o vs :=
  ⟨World.rangeAt_setCells_same X b o vs h, World.there_setCells h b o _, by have := (grown_setNv b vs o X).size; omega⟩
end

section
variable {ops : Array Oper} {rest : List Oper} {op : Oper} {a : Act} {w : World} {Q : Exit → Act → World → Prop} {K : Act → World → Prop}
theorem run_zero85 (w : World) : (zeroValue 260).run Tryz.prog w = .ok (.agg tz) w := Tryz.zeroValue260 w
theorem size85 : (Tryz.prog.info? 260).map (·.size) = some 33 := by kernel_rfl
theorem wp_alloc_tb (ho : op.op = .alloc 260) (h : ∀ Y g, Rb Y g 0 tz.toList → Below w.heap.size w Y → w.heap.size ≤ g → K (a.put op.dst (.pointer (some ⟨g, 0, none⟩))) Y) : op.wp Tryz.prog a w K Q := by
  unfold Oper.wp execOp
  simp only [ho, Instr.alloc, Sem.run_bind, run_zero85, Result.andThen_ok, newVar, newRow, run_newObj_alloc, Sem.run_pure, Value.cells]
  exact h _ _ (Rb.new w tz _) ((Below.refl _ _).alloc (Nat.le_refl _) _) (Nat.le_refl _)
theorem list_alloc_tb (hgd : op.guard = none) (ho : op.op = .alloc 260) (d : Nat) (hd : op.dst = some d) (h : ∀ Y g, Rb Y g 0 tz.toList → Below w.heap.size w Y → w.heap.size ≤ g → wpList Tryz.prog ops Q rest (a.put (some d) (.pointer (some ⟨g, 0, none⟩))) Y) : wpList Tryz.prog ops Q (op :: rest) a w :=
  wpList_plain hgd fun _ hK => wp_alloc_tb ho (fun Y g h1 h2 h3 => by rw [hd]; exact hK _ _ (h Y g h1 h2 h3))
theorem tz_len : tz.toList.length = 33 := by simp [tz]
theorem wp_store_tb (x y : Operand) (ho : op.op = .store 260 x y) (b : Nat) (hx : a.eval x = .pointer (some ⟨b, 0, none⟩)) (hy : a.eval y = .agg tb) (ht : Rb w b 0 tz.toList)
    (h : ∀ Y, Rb Y b 0 tbL → w.grownBy Y (some b) → K (a.put op.dst undef) Y) : op.wp Tryz.prog a w K Q := by
  have hth : w.there b 0 33 := by have := ht.ok; rw [tz_len] at this; exact this
  have hsz : tb.size = 33 := tbL_len
  refine wp_store_mid _ x y ho b 0 tb hx hy (by rw [hsz]; exact hth) (by rw [hsz]; exact size85) (all_oneCell_toArray tbL_one) ?_
  exact h _ (Rb.store (vs := tbL) (by rw [tbL_len]; exact hth) ht.lt) (grown_setNv b _ 0 w)
theorem list_store_tb (hgd : op.guard = none) (x y : Operand) (ho : op.op = .store 260 x y) (b : Nat) (hx : a.eval x = .pointer (some ⟨b, 0, none⟩)) (hy : a.eval y = .agg tb) (ht : Rb w b 0 tz.toList)
    (h : ∀ Y, Rb Y b 0 tbL → w.grownBy Y (some b) → wpList Tryz.prog ops Q rest (a.put op.dst undef) Y) : wpList Tryz.prog ops Q (op :: rest) a w :=
  wpList_plain hgd fun _ hK => wp_store_tb x y ho b hx hy ht (fun Y h1 h2 => hK _ _ (h Y h1 h2))
theorem results_tb {fn : Func} {p : Tmp} (h : fn.results = #[.cell p 260]) (tmps : Array Value) (w : World) (b : Nat) (hp : tmps.getD p undef = .pointer (some ⟨b, 0, none⟩)) (hc : w.rangeAt b 0 tbL) : (results fn tmps).run Tryz.prog w = .ok (.agg tb) w := by
  have hp' : tmps[p]?.getD undef = .pointer (some ⟨b, 0, none⟩) := by simpa using hp
  have hl := run_loadVar_mid (P := Tryz.prog) w b 0 260 tbL _ hc Tryz.underlying260 rfl (by rw [tbL_len]; exact size85)
  simp [results, h, hp', asAddr, hl, tb]
theorem built_tb : Tryz.prog.built 260 [(1, .agg (st13 1).toArray), (2, .agg (st13 2).toArray), (3, .agg (st13 3).toArray), (4, .agg (st13 4).toArray), (5, .agg (st13 5).toArray), (6, .agg (st13 6).toArray), (7, .agg (st13 7).toArray), (8, .agg (st13 8).toArray), (9, .agg (st13 9).toArray), (10, .agg (st13 10).toArray)] = some tb := by kernel_rfl
end
/-! The steps of the table. -/
theorem index_tb1 (W : World) : (Instr.index 260 (.agg tb) (.int .i64 1)).run Tryz.prog W = .ok (.agg #[fv 231, fv 232, fv 233]) W := by kernel_rfl
theorem index_tb2 (W : World) : (Instr.index 260 (.agg tb) (.int .i64 2)).run Tryz.prog W = .ok (.agg #[fv 231, fv 232, fv 234]) W := by kernel_rfl
theorem index_tb3 (W : World) : (Instr.index 260 (.agg tb) (.int .i64 3)).run Tryz.prog W = .ok (.agg #[fv 228, fv 229, fv 230]) W := by kernel_rfl
theorem index_tb4 (W : World) : (Instr.index 260 (.agg tb) (.int .i64 4)).run Tryz.prog W = .ok (.agg #[fv 228, fv 229, fv 230]) W := by kernel_rfl
theorem index_tb5 (W : World) : (Instr.index 260 (.agg tb) (.int .i64 5)).run Tryz.prog W = .ok (.agg #[fv 228, fv 229, fv 230]) W := by kernel_rfl
theorem index_tb6 (W : World) : (Instr.index 260 (.agg tb) (.int .i64 6)).run Tryz.prog W = .ok (.agg #[fv 228, fv 229, fv 230]) W := by kernel_rfl
theorem index_tb7 (W : World) : (Instr.index 260 (.agg tb) (.int .i64 7)).run Tryz.prog W = .ok (.agg #[fv 231, fv 232, fv 235]) W := by kernel_rfl
theorem index_tb8 (W : World) : (Instr.index 260 (.agg tb) (.int .i64 8)).run Tryz.prog W = .ok (.agg #[fv 236, fv 237, fv 235]) W := by kernel_rfl
theorem index_tb9 (W : World) : (Instr.index 260 (.agg tb) (.int .i64 9)).run Tryz.prog W = .ok (.agg #[fv 238, fv 239, fv 240]) W := by kernel_rfl
theorem index_tb10 (W : World) : (Instr.index 260 (.agg tb) (.int .i64 10)).run Tryz.prog W = .ok (.agg #[fv 241, fv 232, fv 230]) W := by kernel_rfl

set_option maxHeartbeats 4000000 in
set_option maxRecDepth 100000 in
theorem implSteps (w : World) : Calls Tryz.prog 222 #[] w fun e w' => e = .returned (.agg tb) ∧ Below w.heap.size w w' := by
  go_enter Tryz.func222, Tryz.ntmps222
  go_wp2_with (guard_target = wpList _ _ _ _ _ _; first | (refine list_alloc_tb rfl rfl 0 rfl (fun Y1 g1 hN1 hB1 hG1 => ?_)) | (refine wpList_buildTo rfl _ _ (op := ⟨some 13, _, _, _, _, _⟩) rfl _ rfl tb (by exact built_tb) ?_) | (refine list_store_tb rfl _ _ rfl g1 rfl rfl ?_ (fun Y2 hN2 hG2 => ?_)))
  · exact hN1.below ((Below.refl _ _).alloc (Nat.le_refl _) _)
  · have hb2 : Below w.heap.size w (Y1.alloc (.cells #[fv 228, fv 229, fv 230] 259)) := hB1.alloc hB1.size _
    refine bodyPost_ret (v := .agg tb) (results_tb Tryz.results222 _ _ g1 rfl hN2.cs) rfl ⟨rfl, ?_⟩
    exact hb2.grown hG2 hb2.size (fun q e => by injection e with e; omega)

end Go.Proofs.YteolfnceobjonaaGreat

/-! A region that draws its order and stores, at its end, into a cell that it has read: what is held of the world is asked for behind every operation but those of E, which wait for all that is taken first. -/
namespace Go.Proofs.YteolfnceobjonaaGreat
open Go.RowKit

section
variable {P : Program} {ops : Array Oper} {Q : Exit → Act → World → Prop} {md : Region.Mode} {S : World → Prop} {E : List Nat}

/-- Whatever comes up next, and so on to the end; S holds behind each that is not of E. -/
def Till (P : Program) (md : Region.Mode) (ops : Array Oper) (Q : Exit → Act → World → Prop) (E : List Nat) (S : World → Prop) : Nat → Array Bool → Act → World → Prop
  | 0 => fun listed a w => Region.ready md ops listed = [] ∧ Q .normal a w
  | k + 1 => fun listed a w => (Region.ready md ops listed = [] → Q .normal a w) ∧
      ∀ i, i ∈ Region.ready md ops listed → wpOp P ops Q i (fun b v => (i ∉ E → S v) ∧ Till P md ops Q E S k (listed.setIfInBounds i true) b v) a w

theorem Till.any : ∀ (k : Nat) {listed : Array Bool} {a : Act} {w : World}, Till P md ops Q E S k listed a w → wpAny P md ops Q k listed a w
  | 0, _, _, _, h => h
  | k + 1, _, _, _, h => ⟨h.1, fun i hi => wpOp_mono (fun _ _ x => Till.any k x.2) (h.2 i hi)⟩
theorem Till.done {listed : Array Bool} {a : Act} {w : World} (hr : Region.ready md ops listed = []) (h : Q .normal a w) : ∀ k, Till P md ops Q E S k listed a w
  | 0 => ⟨hr, h⟩
  | _ + 1 => ⟨fun _ => h, fun i hi => by rw [hr] at hi; cases hi⟩

/-- What has come up has come behind all that it waits for. -/
def Shut11 (md : Region.Mode) (ops : Array Oper) (listed : Array Bool) : Prop := ∀ j o, ops[j]? = some o → listed.getD j false = true → ∀ e ∈ o.after, Region.binds md e = true → listed.getD e.on false = true
theorem Shut11.start (n : Nat) : Shut11 md ops (Array.replicate n false) := fun j o _ h => by
  rw [Array.getD_eq_getD_getElem?] at h
  simp only [Array.getElem?_replicate] at h
  split at h <;> cases h
theorem Shut11.set {listed : Array Bool} {i : Nat} (h : Shut11 md ops listed) (hi : i ∈ Region.ready md ops listed) : Shut11 md ops (listed.setIfInBounds i true) := fun j o ho hj e he hb => by
  refine getD_set_true ?_
  rcases Nat.decEq i j with hne | heq
  · rw [getD_set_ne false hne] at hj
    exact h j o ho hj e he hb
  · subst heq
    obtain ⟨_, p, hp, hall⟩ := mem_ready.1 hi
    rw [ho] at hp
    injection hp with hp
    subst hp
    exact hall e he hb
/-- m waits for i, by way of others. -/
def waitsB (md : Region.Mode) (ops : Array Oper) : Nat → Nat → Nat → Bool
  | 0, _, _ => false
  | k + 1, m, i => match ops[m]? with
    | some o => o.after.any (fun e => Region.binds md e && (e.on == i || waitsB md ops k e.on i))
    | none => false
theorem waits_listed {listed : Array Bool} (h : Shut11 md ops listed) {i : Nat} : ∀ (k m : Nat), (∀ o, ops[m]? = some o → ∀ e ∈ o.after, Region.binds md e = true → listed.getD e.on false = true) → waitsB md ops k m i = true → listed.getD i false = true
  | 0, _, _, hw => by cases hw
  | k + 1, m, hd, hw => by
    unfold waitsB at hw
    cases ho : ops[m]? with
    | none => rw [ho] at hw; cases hw
    | some o =>
      rw [ho] at hw
      simp only [Array.any_eq_true'] at hw
      obtain ⟨e, he, h2⟩ := hw
      rw [Bool.and_eq_true, Bool.or_eq_true] at h2
      have hl := hd o ho e he h2.1
      rcases h2.2 with h3 | h3
      · rw [← beq_iff_eq.1 h3]; exact hl
      · exact waits_listed h k e.on (fun p hp f hf hb => h e.on p hp hl f hf hb) h3

/-- One that may come up, and for which all of E wait, is taken first. -/
theorem Till.first {i : Nat} {o : Oper} {v : Value} {d : Nat} (ho : ops[i]? = some o) (hE : E.all (fun m => waitsB md ops d m i) = true) (hsel : ∀ (j : Nat) (p : Oper) cs b, ops[j]? = some p → p.op ≠ .select cs b)
    (hQ : ∀ c a w, Q (.panic c) (a.put o.dst v) w → Q (.panic c) a w) : ∀ (k : Nat) (listed : Array Bool) (a : Act) (w : World), Shut11 md ops listed →
      (∀ j p, ops[j]? = some p → j ≠ i → listed.getD j true = false → (∀ e ∈ p.after, Region.binds md e = true → e.on ≠ i) → o.apart ops p = true) →
      i ∈ Region.ready md ops listed → YieldsIf P ops S o v a → S w →
      Till P md ops Q E S k (listed.setIfInBounds i true) (a.put o.dst v) w → Till P md ops Q E S (k + 1) listed a w := by
  intro k
  induction k with
  | zero =>
    intro listed a w hsh hfree hr hy hS H
    refine ⟨fun h => (by rw [h] at hr; cases hr), fun j hj => ?_⟩
    rcases Nat.decEq j i with hne | heq
    · have hji : j ∈ Region.ready md ops (listed.setIfInBounds i true) := ready_mono hj hne
      rw [H.1] at hji
      cases hji
    · subst heq
      exact hy.wpOp ho hS ⟨fun _ => hS, H⟩
  | succ k ih =>
    intro listed a w hsh hfree hr hy hS H
    refine ⟨fun h => (by rw [h] at hr; cases hr), fun j hj => ?_⟩
    rcases Nat.decEq j i with hne | heq
    · have hji : j ∈ Region.ready md ops (listed.setIfInBounds i true) := ready_mono hj hne
      obtain ⟨hun, p, hp, hall⟩ := mem_ready.1 hj
      have h0 : listed.getD i true = false := (mem_ready.1 hr).1
      have h0f : listed.getD i false = false := by
        rcases Nat.lt_or_ge i listed.size with hl | hl
        · simp [hl] at h0 ⊢; exact h0
        · simp [Array.getElem?_eq_none hl] at h0
      have hnot : ∀ e ∈ p.after, Region.binds md e = true → e.on ≠ i := fun e he hb hei => by
        have h1 := hall e he hb
        rw [hei, h0f] at h1
        cases h1
      have hjE : j ∉ E := fun hjE => by
        have h1 := waits_listed hsh d j (fun q hq e he hb => by rw [hp] at hq; injection hq with hq; subst hq; exact hall e he hb) (List.all_eq_true.1 hE j hjE)
        rw [h0f] at h1
        cases h1
      have h2 := wpOp_putIf hp (hfree j p hp hne hun hnot) (fun cs b => hsel i o cs b ho) (fun cs b => hsel j p cs b hp) hQ hy (H.2 j hji)
      have hfree' : ∀ q r, ops[q]? = some r → q ≠ i → (listed.setIfInBounds j true).getD q true = false → (∀ e ∈ r.after, Region.binds md e = true → e.on ≠ i) → o.apart ops r = true := fun q r hq hqi hqu hqn => by
        refine hfree q r hq hqi ?_ hqn
        rcases Nat.decEq j q with hjq | hjq
        · rw [getD_set_ne true hjq] at hqu; exact hqu
        · subst hjq; exact hun
      refine wpOp_mono (fun b u h3 => ⟨h3.2.1, ih (listed.setIfInBounds j true) b u (hsh.set hj) hfree' (ready_mono hr (Ne.symm hne)) h3.1 (h3.2.1 hjE) ?_⟩) h2
      rw [Array.setIfInBounds_comm _ _ hne]
      exact h3.2.2
    · subst heq
      exact hy.wpOp ho hS ⟨fun _ => hS, H⟩

/-! The moves of a walk. -/
theorem Till.take {i : Nat} {o : Oper} {v : Value} {d k : Nat} {listed : Array Bool} {a : Act} {w : World} (ho : ops[i]? = some o) (hs : Region.noSelect ops = true) (hf : Region.free md ops listed i = true) (hr : (Region.ready md ops listed).contains i = true) (hE : E.all (fun m => waitsB md ops d m i) = true)
    (hQ : ∀ c a w, Q (.panic c) (a.put o.dst v) w → Q (.panic c) a w) (hy : YieldsIf P ops S o v a) (hS : S w) (hsh : Shut11 md ops listed)
    (h : Shut11 md ops (listed.setIfInBounds i true) → Till P md ops Q E S k (listed.setIfInBounds i true) (a.put o.dst v) w) : Till P md ops Q E S (k + 1) listed a w :=
  Till.first ho hE (Region.noSelect_spec hs) hQ k listed a w hsh (Region.free_spec ho hf) (by simpa using hr) hy hS (h (hsh.set (by simpa using hr)))
theorem Till.last {i : Nat} {o : Oper} {k : Nat} {listed : Array Bool} {a : Act} {w : World} (hr : Region.ready md ops listed = [i]) (ho : ops[i]? = some o) (hiE : i ∈ E)
    (h : ∀ K' : Act → World → Prop, Shut (∀ b v, Till P md ops Q E S k (listed.setIfInBounds i true) b v → K' b v) → if Region.wanted o (yielded ops a.tmps) = true then Oper.wp P o a w K' Q else K' (a.put o.dst undef) w) : Till P md ops Q E S (k + 1) listed a w := by
  have hi : i ∈ Region.ready md ops listed := by rw [hr]; exact List.mem_singleton_self i
  refine ⟨fun h0 => (by rw [h0] at hi; cases hi), fun j hj => ?_⟩
  rw [hr] at hj
  obtain rfl := List.mem_singleton.1 hj
  exact wpOp_step ho (fun K' hK => h K' (fun b v hW => hK b v ⟨fun hn => absurd hiE hn, hW⟩))
end

theorem step_of_wp {P : Program} {ops : Array Oper} {o : Oper} {a : Act} {w : World} {K : Act → World → Prop} {Q : Exit → Act → World → Prop} {E : Prop} (hgd : o.guard = none) (h : Oper.wp P o a w K Q) :
    if Region.wanted o (yielded ops a.tmps) = true then Oper.wp P o a w K Q else E := by
  rw [if_pos (by simp [Region.wanted, hgd])]
  exact h

end Go.Proofs.YteolfnceobjonaaGreat
