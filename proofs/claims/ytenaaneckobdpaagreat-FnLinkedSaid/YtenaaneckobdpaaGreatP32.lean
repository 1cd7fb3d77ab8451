/-
  Parts of one proof, one behind the other: StepA, StepB.
-/
import Derived.Test.YtenaaneckobdpaaGreatP31
import Derived.Test.YtenaaneckobdpaaGreatP9
import Derived.Test.YtenaaneckobdpaaGreatP10
import Derived.Test.YtenaaneckobdpaaGreatP16
import Derived.Test.YtenaaneckobdpaaGreatP8
import Derived.Laws.StructEq
import Derived.BigQuiet
import Derived.Test.YtenaaneckobdpaaGreatP22
import Derived.Laws.EntriesVeiled
namespace Go.Proofs.YtenaaneckobdpaaGreat
open Go.RowKit
theorem ins_eq (x y : In13) (w : World) : (binOp .eql 58 (zak x) (zak y)).run Tryz.prog w = .ok (.bool (decide (x = y))) w := by
 obtain ⟨k, R, A, B, nm⟩ := x
 obtain ⟨k2, R2, A2, B2, nm2⟩ := y
 unfold zak
 rw [run_eql_struct]
 simp [go_sem]
 by_cases h1 : k = k2
 ·
  by_cases h2 : R = R2
  ·
   by_cases h3 : A = A2
   ·
    by_cases h4 : B = B2
    ·
     by_cases h5 : nm = nm2
     ·
      simp [h1, h2, h3, h4, h5]
     ·
      simp [h1, h2, h3, h4, h5]
    ·
     simp [h1, h2, h3, h4]
   ·
    simp [h1, h2, h3]
  ·
   simp [h1, h2]
 ·
  simp [h1]
def Tld (f : Nat) (t : In13 → In13) : Prop := ∀ (i : In13) (w : World), Calls Tryz.prog f #[zak i] w fun e w' => e = .returned (zak (t i)) ∧ Below w.heap.size w w'
def Rgs (f : Nat) (rs : In13 → List Int) : Prop := ∀ (i : In13) (w : World), Calls Tryz.prog f #[zak i] w fun e w' => ∃ a c, e = .returned (.slice a (rs i).length c) ∧ AsIn w' a (rs i) ∧ Below w.heap.size w w'
def Rit (f : Nat) (q : In13 → Int → Bool) : Prop := ∀ (i : In13) (n : Int) (w : World), i.2.2.2.2.length ≤ 1048576 → Calls Tryz.prog f #[zak i, .int .i64 n] w fun e w' => e = .returned (.bool (q i n)) ∧ Below w.heap.size w w'
def tlR (i : In13) : In13 := (i.1, i.2.1, 0, 0, [])
def tlA (i : In13) : In13 := (i.1, 0, i.2.2.1, 0, [])
def tlRA (i : In13) : In13 := (i.1, i.2.1, i.2.2.1, 0, [])
def zd5 (i : In13) : In13 := (i.1, i.2.1, i.2.2.1, i.2.2.2.1, [])
def zgN (i : In13) : In13 := (i.1, i.2.1, i.2.2.1, 0, i.2.2.2.2)
set_option maxHeartbeats 1000000 in
set_option maxRecDepth 100000 in
theorem zix : Tld 157 tlR := by
 rintro ⟨k, R, A, B, nm⟩ w
 unfold zak tlR
 dsimp only
 go_enter Tryz.func157, Tryz.ntmps157
 go_wp2
 refine bodyPost_ret (v := zak (tlR (k, R, A, B, nm))) (by simp [results, Tryz.results157, go_sem, zak, tlR]) rfl ⟨rfl, ?_⟩
 exact ((Below.refl _ w).alloc (Nat.le_refl _) _).alloc (by simp) _
set_option maxHeartbeats 1000000 in
set_option maxRecDepth 100000 in
theorem ziy : Tld 152 tlA := by
 rintro ⟨k, R, A, B, nm⟩ w
 unfold zak tlA
 dsimp only
 go_enter Tryz.func152, Tryz.ntmps152
 go_wp2
 refine bodyPost_ret (v := zak (tlA (k, R, A, B, nm))) (by simp [results, Tryz.results152, go_sem, zak, tlA]) rfl ⟨rfl, ?_⟩
 exact ((Below.refl _ w).alloc (Nat.le_refl _) _).alloc (by simp) _
set_option maxHeartbeats 1000000 in
set_option maxRecDepth 100000 in
theorem zdd : Tld 147 tlRA := by
 rintro ⟨k, R, A, B, nm⟩ w
 unfold zak tlRA
 dsimp only
 go_enter Tryz.func147, Tryz.ntmps147
 go_wp2
 refine bodyPost_ret (v := zak (tlRA (k, R, A, B, nm))) (by simp [results, Tryz.results147, go_sem, zak, tlRA]) rfl ⟨rfl, ?_⟩
 exact ((Below.refl _ w).alloc (Nat.le_refl _) _).alloc (by simp) _
set_option maxHeartbeats 1000000 in
set_option maxRecDepth 100000 in
theorem zck : Tld 144 zd5 := by
 rintro ⟨k, R, A, B, nm⟩ w
 unfold zak zd5
 dsimp only
 go_enter Tryz.func144, Tryz.ntmps144
 go_wp2
 refine bodyPost_ret (v := zak (zd5 (k, R, A, B, nm))) (by simp [results, Tryz.results144, go_sem, zak, zd5]) rfl ⟨rfl, ?_⟩
 exact ((Below.refl _ w).alloc (Nat.le_refl _) _).alloc (by simp) _
set_option maxHeartbeats 1000000 in
set_option maxRecDepth 100000 in
theorem zez : Tld 154 zgN := by
 rintro ⟨k, R, A, B, nm⟩ w
 unfold zak zgN
 dsimp only
 go_enter Tryz.func154, Tryz.ntmps154
 go_wp2
 refine bodyPost_ret (v := zak (zgN (k, R, A, B, nm))) (by simp [results, Tryz.results154, go_sem, zak, zgN]) rfl ⟨rfl, ?_⟩
 exact ((Below.refl _ w).alloc (Nat.le_refl _) _).alloc (by simp) _
def rsN (_i : In13) : List Int := []
def rsR (i : In13) : List Int := [i.2.1]
def zcA (i : In13) : List Int := [i.2.1, i.2.2.1, i.2.2.2.1]
def rsC (i : In13) : List Int := [i.2.1, max i.2.1 (wrap64 (wrap64 (i.2.1 + i.2.2.1) - 1))]
theorem zi8 (w : World) (xs : List Int) (t : TypeId) : AsIn (w.alloc (.cells (zaI xs).toArray t)) (some ⟨w.heap.size, 0, none⟩) xs := by
 have hA := heap_alloc_new w (.cells (zaI xs).toArray t)
 intro j hj
 refine ⟨_, 0, rfl, by simp, ?_⟩
 rw [cell_of_row _ _ _ _ _ _ hA, Nat.zero_add]
 simp [zaI, List.getD, hj]
set_option maxHeartbeats 1000000 in
set_option maxRecDepth 100000 in
theorem zeA : Rgs 153 rsN := by
 rintro ⟨k, R, A, B, nm⟩ w
 unfold zak
 dsimp only
 have hA := fun W => zi8 W (rsN (k, R, A, B, nm)) 2
 unfold rsN at hA ⊢
 (try dsimp only at hA ⊢)
 go_enter Tryz.func153, Tryz.ntmps153
 go_wp2
 go_ret
 refine ⟨_, _, rfl, ?_, ((Below.refl _ w).alloc (Nat.le_refl _) _).alloc (by simp) _⟩
 have h := hA (w.alloc (.cells #[.int .i64 k, .int .i64 R, .int .i64 A, .int .i64 B, .string ⟨nm.toArray⟩] 58))
 simpa [zaI] using h
set_option maxHeartbeats 1000000 in
set_option maxRecDepth 100000 in
theorem zbW : Rgs 148 rsR := by
 rintro ⟨k, R, A, B, nm⟩ w
 unfold zak
 dsimp only
 have hA := fun W => zi8 W (rsR (k, R, A, B, nm)) 2
 unfold rsR at hA ⊢
 (try dsimp only at hA ⊢)
 go_enter Tryz.func148, Tryz.ntmps148
 go_wp2
 go_ret
 refine ⟨_, _, rfl, ?_, ((Below.refl _ w).alloc (Nat.le_refl _) _).alloc (by simp) _⟩
 have h := hA (w.alloc (.cells #[.int .i64 k, .int .i64 R, .int .i64 A, .int .i64 B, .string ⟨nm.toArray⟩] 58))
 simpa [zaI] using h
set_option maxHeartbeats 1000000 in
set_option maxRecDepth 100000 in
theorem zbo : Rgs 145 zcA := by
 rintro ⟨k, R, A, B, nm⟩ w
 unfold zak
 dsimp only
 have hA := fun W => zi8 W (zcA (k, R, A, B, nm)) 2
 unfold zcA at hA ⊢
 (try dsimp only at hA ⊢)
 go_enter Tryz.func145, Tryz.ntmps145
 go_wp2
 go_ret
 refine ⟨_, _, rfl, ?_, ((Below.refl _ w).alloc (Nat.le_refl _) _).alloc (by simp) _⟩
 have h := hA (w.alloc (.cells #[.int .i64 k, .int .i64 R, .int .i64 A, .int .i64 B, .string ⟨nm.toArray⟩] 58))
 simpa [zaI] using h
set_option maxHeartbeats 1000000 in
set_option maxRecDepth 100000 in
theorem zd6 : Rgs 155 rsC := by
 rintro ⟨k, R, A, B, nm⟩ w
 unfold zak
 dsimp only
 have hA := fun W => zi8 W (rsC (k, R, A, B, nm)) 2
 unfold rsC at hA ⊢
 (try dsimp only at hA ⊢)
 go_enter Tryz.func155, Tryz.ntmps155
 go_wp2
 go_ret
 refine ⟨_, _, rfl, ?_, ((Below.refl _ w).alloc (Nat.le_refl _) _).alloc (by simp) _⟩
 have h := hA (w.alloc (.cells #[.int .i64 k, .int .i64 R, .int .i64 A, .int .i64 B, .string ⟨nm.toArray⟩] 58))
 simpa [zaI] using h
def rqY (_i : In13) (_n : Int) : Bool := true
def rqW (i : In13) (_n : Int) : Bool := inB i.2.2.1 (-2147483648) 2147483647
def rqA (i : In13) (_n : Int) : Bool := decide (0 ≤ i.2.2.1) && decide (i.2.2.1 ≤ 2)
def rqP (i : In13) (n : Int) : Bool := decide (0 ≤ i.2.2.1) && decide (i.2.2.1 < n)
def rqC (i : In13) (_n : Int) : Bool := decide (0 ≤ i.2.2.1) && decide (i.2.2.1 ≤ 3) && zb3 i.2.2.2.2
set_option maxHeartbeats 1000000 in
set_option maxRecDepth 100000 in
theorem zbf : Rit 146 rqY := by
 rintro ⟨k, R, A, B, nm⟩ n w _
 unfold zak rqY
 go_enter Tryz.func146, Tryz.ntmps146
 go_wp2
 go_ret
 exact ⟨rfl, (Below.refl _ w).alloc (Nat.le_refl _) _⟩
set_option maxHeartbeats 1000000 in
set_option maxRecDepth 100000 in
theorem zgq : Rit 149 rqW := by
 rintro ⟨k, R, A, B, nm⟩ n w _
 unfold zak rqW
 dsimp only
 go_enter Tryz.func149, Tryz.ntmps149
 go_wp2_with (go_at_call 160; refine (zhe _ _).mono ?_; rintro e w' ⟨rfl, rfl⟩)
 go_ret
 exact ⟨rfl, (Below.refl _ w).alloc (Nat.le_refl _) _⟩
set_option maxHeartbeats 1000000 in
set_option maxRecDepth 100000 in
theorem zhd : Rit 150 rqA := by
 rintro ⟨k, R, A, B, nm⟩ n w _
 unfold zak rqA
 dsimp only
 by_cases h1 : 0 ≤ A
 ·
  by_cases h2 : A ≤ 2
  ·
   rw [decide_eq_true h1, decide_eq_true h2]
   go_enter Tryz.func150, Tryz.ntmps150
   go_wp2
   go_ret
   exact ⟨rfl, (Below.refl _ w).alloc (Nat.le_refl _) _⟩
  ·
   rw [decide_eq_true h1, decide_eq_false h2]
   go_enter Tryz.func150, Tryz.ntmps150
   go_wp2
   go_ret
   exact ⟨rfl, (Below.refl _ w).alloc (Nat.le_refl _) _⟩
 ·
  rw [decide_eq_false h1]
  go_enter Tryz.func150, Tryz.ntmps150
  go_wp2
  go_ret
  exact ⟨rfl, (Below.refl _ w).alloc (Nat.le_refl _) _⟩
set_option maxHeartbeats 1000000 in
set_option maxRecDepth 100000 in
theorem zdy : Rit 151 rqP := by
 rintro ⟨k, R, A, B, nm⟩ n w _
 unfold zak rqP
 dsimp only
 by_cases h1 : 0 ≤ A
 ·
  by_cases h2 : A < n
  ·
   rw [decide_eq_true h1, decide_eq_true h2]
   go_enter Tryz.func151, Tryz.ntmps151
   go_wp2
   go_ret
   exact ⟨rfl, (Below.refl _ w).alloc (Nat.le_refl _) _⟩
  ·
   rw [decide_eq_true h1, decide_eq_false h2]
   go_enter Tryz.func151, Tryz.ntmps151
   go_wp2
   go_ret
   exact ⟨rfl, (Below.refl _ w).alloc (Nat.le_refl _) _⟩
 ·
  rw [decide_eq_false h1]
  go_enter Tryz.func151, Tryz.ntmps151
  go_wp2
  go_ret
  exact ⟨rfl, (Below.refl _ w).alloc (Nat.le_refl _) _⟩
set_option maxHeartbeats 1000000 in
set_option maxRecDepth 100000 in
theorem zjH (l : List UInt8) (b : UInt8) (w : World) (hl : l.length ≤ 1048576) :
 Calls Tryz.prog 118 #[.string ⟨l.toArray⟩, .string ⟨#[b]⟩] w fun e w' => ∃ g, e = .returned (.tuple #[.string ⟨(cutA b l).toArray⟩, .string ⟨(cutB b l).toArray⟩, .bool g]) ∧ Below w.heap.size w w' := by
 have hext := zi0
 have HC : Hid (_) := fun W : World => Tryz.stringslite_Index_one ⟨l.toArray⟩ b W
 rcases cut_at b l with ⟨h1, h2, h3⟩ | ⟨k, h1, hk, h3, h4⟩
 ·
  rw [h2, h3]
  rw [show (⟨l.toArray⟩ : ByteArray).data.toList = l from rfl, h1] at HC
  clear h1 h2 h3
  go_enter Tryz.func118, Tryz.ntmps118
  go_wp2_with (go_at_call 133; refine Calls.mono (HC.out _) ?_; rintro e w' ⟨rfl, rfl⟩)
  go_ret3
  exact ⟨_, rfl, Below.refl _ _⟩
 ·
  rw [h3, h4]
  rw [show (⟨l.toArray⟩ : ByteArray).data.toList = l from rfl, h1] at HC
  have c2 : (k : Int) ≤ (l.length : Int) := by omega
  have c4 : (k : Int) + 1 ≤ (l.length : Int) := by omega
  have c5 : (l.length : Int) ≤ 1048576 := by omega
  have htk : List.take (l.length - (k + 1)) (List.drop (k + 1) l) = List.drop (k + 1) l := List.take_of_length_le (by rw [List.length_drop]; omega)
  clear h1 h3 h4
  go_enter Tryz.func118, Tryz.ntmps118
  go_wp2_with (go_at_call 133; refine Calls.mono (HC.out _) ?_; rintro e w' ⟨rfl, rfl⟩)
  go_quiet (fail)
  go_wp2
  go_ret3
  exact ⟨_, rfl, ⟨rfl, rfl, rfl, Nat.le_refl _, fun _ _ => rfl⟩⟩
set_option maxHeartbeats 1000000 in
set_option maxRecDepth 100000 in
theorem zi4 (l : List UInt8) (b : UInt8) (w : World) (hl : l.length ≤ 1048576) :
 Calls Tryz.prog 88 #[.string ⟨l.toArray⟩, .string ⟨#[b]⟩] w fun e w' => ∃ g, e = .returned (.tuple #[.string ⟨(cutA b l).toArray⟩, .string ⟨(cutB b l).toArray⟩, .bool g]) ∧ Below w.heap.size w w' := by
 have HC : Hid (_) := zjH l b w hl
 generalize cutA b l = x at HC ⊢
 generalize cutB b l = y at HC ⊢
 go_enter Tryz.func88, Tryz.ntmps88
 go_wp2_with fail
 refine Calls.mono HC.out ?_
 rintro e w1 ⟨g, rfl, hb1⟩
 go_wp2
 go_ret3
 exact ⟨_, rfl, hb1⟩
theorem zgz : ∀ (s : List UInt8), (∀ c ∈ s, c ≠ 46) → s.dropWhile (fun c => c != 46) = []
 | [], _ => rfl
 | c :: r, h => by rw [List.dropWhile_cons, if_pos (bne_iff_ne.2 (h c (by simp)))]; exact zgz r (fun d hd => h d (by simp [hd]))
theorem name_cut (s : List UInt8) : (zaz (cutA 46 s) && zaz (cutB 46 s)) = zb3 s := by
 have hno : ∀ {l : List UInt8}, zaz l = true → ∀ c ∈ l, c ≠ 46 := fun h c hc e => by
  unfold zaz at h
  rw [Bool.and_eq_true, List.all_eq_true] at h
  have := h.2 c hc
  subst e
  simp at this
 have hnil : zaz [] = false := by decide
 by_cases hm : (46 : UInt8) ∈ s
 ·
  obtain ⟨x, y, rfl, hx⟩ := List.eq_append_cons_of_mem hm
  have hx2 : ∀ c ∈ x, c ≠ 46 := fun c hc e => hx (e ▸ hc)
  obtain ⟨ea, eb⟩ := cut_one 46 x y hx2
  rw [ea, eb]
  by_cases hy : (46 : UInt8) ∈ y
  ·
   have hny : zaz y = false := by
    rcases h : zaz y with _ | _
    ·
     rfl
    ·
     exact absurd rfl (hno h 46 hy)
   obtain ⟨y1, y2, rfl, hy1⟩ := List.eq_append_cons_of_mem hy
   have hy2 : ∀ c ∈ y1, c ≠ 46 := fun c hc e => hy1 (e ▸ hc)
   have hs : zaD 46 (x ++ 46 :: (y1 ++ 46 :: y2)) = x :: y1 :: zas 46 [] y2 := by
    unfold zaD
    rw [zdn 46 x _ [] hx2, zdn 46 y1 y2 [] hy2]
    rfl
   have hne := zdG 46 y2 []
   unfold zb3
   rw [hs, hny, Bool.and_false]
   have : ((x :: y1 :: zas 46 [] y2).length == 2) = false := by
    rcases hq : zas 46 [] y2 with _ | _
    ·
     exact absurd hq hne
    ·
     simp
   rw [this]
   rfl
  ·
   have hy2 : ∀ c ∈ y, c ≠ 46 := fun c hc e => hy (e ▸ hc)
   have hs : zaD 46 (x ++ 46 :: y) = [x, y] := by
    unfold zaD
    rw [zdn 46 x y [] hx2, zdF 46 y [] hy2]
    rfl
   unfold zb3
   rw [hs]
   simp
 ·
  have h2 : ∀ c ∈ s, c ≠ 46 := fun c hc e => hm (e ▸ hc)
  have hb : cutB 46 s = [] := by
   unfold cutB
   rw [zgz s h2]
   rfl
  have hs : zaD 46 s = [s] := by
   unfold zaD
   rw [zdF 46 s [] h2]
   rfl
  rw [hb, hnil, Bool.and_false]
  unfold zb3
  rw [hs]
  rfl
set_option maxHeartbeats 1000000 in
set_option maxRecDepth 100000 in
theorem zgr (s : List UInt8) (w : World) (hl : s.length ≤ 1048576) :
 Calls Tryz.prog 115 #[.string ⟨s.toArray⟩] w fun e w' => e = .returned (.bool (zb3 s)) ∧ Below w.heap.size w w' := by
 rw [← name_cut]
 have HC : Hid (_) := zi4 s 46 w hl
 have h1 := cutA_len 46 s
 have h2 := cutB_len 46 s
 generalize cutA 46 s = x at HC h1 ⊢
 generalize cutB 46 s = y at HC h2 ⊢
 have HX : Hid (_) := fun W : World => zdR x W (by omega)
 have HY : Hid (_) := fun W : World => zdR y W (by omega)
 generalize zaz y = by2 at HY ⊢
 generalize zaz x = bx at HX ⊢
 cases bx
 ·
  go_enter Tryz.func115, Tryz.ntmps115
  go_wp2_with fail
  refine Calls.mono HC.out ?_
  rintro e w1 ⟨g, rfl, hb1⟩
  go_wp2_with fail
  refine Calls.mono (HX.out _) ?_
  rintro e w2 ⟨rfl, hb2⟩
  go_wp2
  go_ret
  exact ⟨rfl, hb1.trans (hb2.mono hb1.size)⟩
 ·
  go_enter Tryz.func115, Tryz.ntmps115
  go_wp2_with fail
  refine Calls.mono HC.out ?_
  rintro e w1 ⟨g, rfl, hb1⟩
  go_wp2_with fail
  refine Calls.mono (HX.out _) ?_
  rintro e w2 ⟨rfl, hb2⟩
  go_wp2_with fail
  refine Calls.mono (HY.out _) ?_
  rintro e w3 ⟨rfl, hb3⟩
  have hB2 := hb1.trans (hb2.mono hb1.size)
  go_wp2
  go_ret
  exact ⟨rfl, hB2.trans (hb3.mono hB2.size)⟩
set_option maxHeartbeats 1000000 in
set_option maxRecDepth 100000 in
theorem zdQ : Rit 156 rqC := by
 rintro ⟨k, R, A, B, nm⟩ n w hl
 unfold zak rqC
 dsimp only at hl ⊢
 by_cases h1 : 0 ≤ A
 ·
  by_cases h2 : A ≤ 3
  ·
   rw [decide_eq_true h1, decide_eq_true h2]
   have HC : Hid (_) := fun W : World => zgr nm W hl
   generalize zb3 nm = bn at HC ⊢
   go_enter Tryz.func156, Tryz.ntmps156
   go_wp2_with fail
   refine Calls.mono (HC.out _) ?_
   rintro e w2 ⟨rfl, hb2⟩
   go_wp2
   go_ret
   have hb1 : Below w.heap.size w _ := (Below.refl _ w).alloc (Nat.le_refl _) (.cells #[.int .i64 k, .int .i64 R, .int .i64 A, .int .i64 B, .string ⟨nm.toArray⟩] 58)
   exact ⟨rfl, hb1.trans (hb2.mono hb1.size)⟩
  ·
   rw [decide_eq_true h1, decide_eq_false h2]
   go_enter Tryz.func156, Tryz.ntmps156
   go_wp2
   go_ret
   exact ⟨rfl, (Below.refl _ w).alloc (Nat.le_refl _) _⟩
 ·
  rw [decide_eq_false h1]
  go_enter Tryz.func156, Tryz.ntmps156
  go_wp2
  go_ret
  exact ⟨rfl, (Below.refl _ w).alloc (Nat.le_refl _) _⟩
def regB (rs : List Int) : Bool := rs.all (fun r => inB r 0 63)
theorem zjl (rs : List Int) (j : Nat) (hj : j < rs.length) : regB (rs.take (j + 1)) = (regB (rs.take j) && inB (rs.getD j 0) 0 63) := by
 have hg : rs.getD j 0 = rs[j] := by simp [List.getD, hj]
 rw [hg, List.take_succ_eq_append_getElem hj]
 unfold regB
 rw [List.all_append]
 simp
theorem regB_no {rs : List Int} {j : Nat} (hj : j < rs.length) (h : inB (rs.getD j 0) 0 63 = false) : regB rs = false := by
 have hg : rs.getD j 0 = rs[j] := by simp [List.getD, hj]
 rcases hb : regB rs with _ | _
 ·
  rfl
 ·
  have := List.all_eq_true.1 hb rs[j] (List.getElem_mem hj)
  rw [← hg, h] at this
  cases this
set_option maxHeartbeats 1000000 in
set_option maxRecDepth 100000 in
theorem zeB (a : Option Addr) (n c : Nat) (rs : List Int) (w : World) (hn : rs.length = n) (hin : AsIn w a rs) (hnl : n ≤ 1048576) :
 Calls Tryz.prog 138 #[.slice a n c] w fun e w' => e = .returned (.bool (regB rs)) ∧ w' = w := by
 have HIn : Hid (AsIn w a rs) := hin
 have HN : Hid (rs.length = n) := hn
 clear hin hn
 go_enter Tryz.func138, Tryz.ntmps138
 go_wp2
 go_loop [4, 7] (fun _ jv => ∃ j : Nat, jv = .int .i64 (j : Int) ∧ j ≤ n ∧ Hid (regB (rs.take j) = true)) (fun _ jv => n - (intOf jv).toNat)
 case atStart => exact ⟨0, rfl, Nat.zero_le _, rfl⟩
 case round =>
  obtain ⟨j, rfl, hj, st⟩ := hrel
  by_cases hlt : (j : Int) < (n : Int)
  ·
   obtain ⟨b, off, rfl, hbl, hc⟩ := HIn.out j (by rw [HN.out]; omega)
   have HS : Hid (_) := zjl rs j (by rw [HN.out]; omega)
   have HO : Hid (inB (rs.getD j 0) 0 63 = false → regB rs = false) := fun h => regB_no (by rw [HN.out]; omega) h
   rw [st.out, Bool.true_and] at HS
   generalize rs.getD j 0 = r at hc HS HO
   by_cases h1 : r < 0
   ·
    have HF : Hid (regB rs = false) := HO.out (zdx _ _ _ (Or.inl (by omega)))
    clear HS HO
    go_wp2
    go_ret
    exact ⟨by rw [HF.out]; rfl, rfl⟩
   ·
    by_cases h2 : 63 < r
    ·
     have HF : Hid (regB rs = false) := HO.out (zdx _ _ _ (Or.inr (by omega)))
     clear HS HO
     go_wp2
     go_ret
     exact ⟨by rw [HF.out]; rfl, rfl⟩
    ·
     have HF : Hid (regB (rs.take (j + 1)) = true) := by exact (by rw [HS.out]; exact zdP _ _ _ (by omega) (by omega) : regB (rs.take (j + 1)) = true)
     clear HS HO
     go_wp2
     go_round
     case rel => exact ⟨j + 1, by go_num, by omega, HF⟩
     case measure => simp [intOf]; omega
  ·
   have HE : Hid (regB rs = true) := by
    have h := st.out
    rw [List.take_of_length_le (by rw [HN.out]; omega)] at h
    exact h
   go_wp2
   go_ret
   exact ⟨by rw [HE.out]; rfl, rfl⟩
def fv (f : Nat) : Value := .func (.func f) #[] #[]
def st13 (k : Nat) : List Value :=
 if k = 1 then [fv 147, fv 148, fv 149]
 else if k = 2 then [fv 147, fv 148, fv 150]
 else if k = 3 ∨ k = 4 ∨ k = 5 ∨ k = 6 then [fv 144, fv 145, fv 146]
 else if k = 7 then [fv 147, fv 148, fv 151]
 else if k = 8 then [fv 152, fv 153, fv 151]
 else if k = 9 then [fv 154, fv 155, fv 156]
 else if k = 10 then [fv 157, fv 148, fv 146]
 else [.nilFunc, .nilFunc, .nilFunc]
def tbL : List Value := (List.range 11).flatMap st13
def tb : Array Value := tbL.toArray
def tz : Array Value := (List.replicate 33 Value.nilFunc).toArray
theorem zgO : tbL.length = 33 := by decide +kernel
theorem tbL_one : ∀ v ∈ tbL, v.oneCell' = true := by
 intro v hv
 have h : tbL.all (fun v => v.oneCell') = true := by kernel_rfl
 exact List.all_eq_true.1 h v hv
structure Rb (X : World) (b o : Nat) (vs : List Value) : Prop where
 cs : X.rangeAt b o vs
 ok : X.there b o vs.length
 lt : b < X.heap.size
section
variable {X Y : World} {b o : Nat} {vs : List Value}
theorem Rb.keep (h : Rb X b o vs) (hb : Y.heap[b]? = X.heap[b]?) (hs : X.heap.size ≤ Y.heap.size) : Rb Y b o vs :=
 ⟨fun j v hv => (World.cell?_of_block (a := ⟨b, o + j, none⟩) hb).trans (h.cs j v hv), fun j hj => by rw [World.cell?_of_block (a := ⟨b, o + j, none⟩) hb, World.frozen?_of_block (a := ⟨b, o + j, none⟩) hb]; exact h.ok j hj, Nat.lt_of_lt_of_le h.lt hs⟩
theorem Rb.below (h : Rb X b o vs) (hb : Below X.heap.size X Y) : Rb Y b o vs := h.keep (hb.block b h.lt) hb.size
theorem Rb.kept {row : Option Nat} (h : Rb X b o vs) (hg : X.grownBy Y row) (hne : some b ≠ row) : Rb Y b o vs := h.keep (hg.block b h.lt hne) hg.size
theorem Rb.cell (h : Rb X b o vs) (j : Nat) (v : Value) (hv : vs[j]? = some v) : X.cell? ⟨b, o + j, none⟩ = some v := h.cs j v hv
theorem Rb.new (w : World) (vs : Array Value) (t : TypeId) : Rb (w.alloc (.cells vs t)) w.heap.size 0 vs.toList := by
 have hA := heap_alloc_new w (.cells vs t)
 refine ⟨fun j v hv => ?_, fun j hj => ?_, by simp⟩
 ·
  rw [cell_of_row _ _ _ _ _ _ hA, Nat.zero_add]
  simpa using hv
 ·
  rw [cell_of_row _ _ _ _ _ _ hA, frozen_of_row _ _ _ _ _ hA, Nat.zero_add]
  refine ⟨?_, rfl⟩
  have : j < vs.size := by simpa using hj
  simp [this]
theorem Rb.store (h : X.there b o vs.length) (hl : b < X.heap.size) : Rb (X.setCells b o vs) b o vs :=
 ⟨World.rangeAt_setCells_same X b o vs h, World.there_setCells h b o _, by have := (zcD b vs o X).size; omega⟩
end
section
variable {ops : Array Oper} {rest : List Oper} {op : Oper} {a : Act} {w : World} {Q : Exit → Act → World → Prop} {K : Act → World → Prop}
theorem zii (w : World) : (zeroValue 166).run Tryz.prog w = .ok (.agg tz) w := Tryz.zeroValue166 w
theorem size85 : (Tryz.prog.info? 166).map (·.size) = some 33 := by kernel_rfl
theorem zgM (ho : op.op = .alloc 166) (h : ∀ Y g, Rb Y g 0 tz.toList → Below w.heap.size w Y → w.heap.size ≤ g → K (a.put op.dst (.pointer (some ⟨g, 0, none⟩))) Y) : op.wp Tryz.prog a w K Q := by
 unfold Oper.wp execOp
 simp only [ho, Instr.alloc, Sem.run_bind, zii, Result.andThen_ok, newVar, newRow, run_newObj_alloc, Sem.run_pure, Value.cells]
 exact h _ _ (Rb.new w tz _) ((Below.refl _ _).alloc (Nat.le_refl _) _) (Nat.le_refl _)
theorem zfA (hgd : op.guard = none) (ho : op.op = .alloc 166) (d : Nat) (hd : op.dst = some d) (h : ∀ Y g, Rb Y g 0 tz.toList → Below w.heap.size w Y → w.heap.size ≤ g → wpList Tryz.prog ops Q rest (a.put (some d) (.pointer (some ⟨g, 0, none⟩))) Y) : wpList Tryz.prog ops Q (op :: rest) a w :=
 wpList_plain hgd fun _ hK => zgM ho (fun Y g h1 h2 h3 => by rw [hd]; exact hK _ _ (h Y g h1 h2 h3))
theorem tz_len : tz.toList.length = 33 := by simp [tz]
theorem zgL (x y : Operand) (ho : op.op = .store 166 x y) (b : Nat) (hx : a.eval x = .pointer (some ⟨b, 0, none⟩)) (hy : a.eval y = .agg tb) (ht : Rb w b 0 tz.toList)
 (h : ∀ Y, Rb Y b 0 tbL → w.grownBy Y (some b) → K (a.put op.dst undef) Y) : op.wp Tryz.prog a w K Q := by
 have hth : w.there b 0 33 := by have := ht.ok; rw [tz_len] at this; exact this
 have hsz : tb.size = 33 := zgO
 refine wp_store_mid _ x y ho b 0 tb hx hy (by rw [hsz]; exact hth) (by rw [hsz]; exact size85) (all_oneCell_toArray tbL_one) ?_
 exact h _ (Rb.store (vs := tbL) (by rw [zgO]; exact hth) ht.lt) (zcD b _ 0 w)
theorem zfz (hgd : op.guard = none) (x y : Operand) (ho : op.op = .store 166 x y) (b : Nat) (hx : a.eval x = .pointer (some ⟨b, 0, none⟩)) (hy : a.eval y = .agg tb) (ht : Rb w b 0 tz.toList)
 (h : ∀ Y, Rb Y b 0 tbL → w.grownBy Y (some b) → wpList Tryz.prog ops Q rest (a.put op.dst undef) Y) : wpList Tryz.prog ops Q (op :: rest) a w :=
 wpList_plain hgd fun _ hK => zgL x y ho b hx hy ht (fun Y h1 h2 => hK _ _ (h Y h1 h2))
theorem zij {fn : Func} {p : Tmp} (h : fn.results = #[.cell p 166]) (tmps : Array Value) (w : World) (b : Nat) (hp : tmps.getD p undef = .pointer (some ⟨b, 0, none⟩)) (hc : w.rangeAt b 0 tbL) : (results fn tmps).run Tryz.prog w = .ok (.agg tb) w := by
 have hp' : tmps[p]?.getD undef = .pointer (some ⟨b, 0, none⟩) := by simpa using hp
 have hl := run_loadVar_mid (P := Tryz.prog) w b 0 166 tbL _ hc Tryz.underlying166 rfl (by rw [zgO]; exact size85)
 simp [results, h, hp', asAddr, hl, tb]
theorem built_tb : Tryz.prog.built 166 [(1, .agg (st13 1).toArray), (2, .agg (st13 2).toArray), (3, .agg (st13 3).toArray), (4, .agg (st13 4).toArray), (5, .agg (st13 5).toArray), (6, .agg (st13 6).toArray), (7, .agg (st13 7).toArray), (8, .agg (st13 8).toArray), (9, .agg (st13 9).toArray), (10, .agg (st13 10).toArray)] = some tb := by kernel_rfl
end
theorem zk1 (W : World) : (Instr.index 166 (.agg tb) (.int .i64 1)).run Tryz.prog W = .ok (.agg #[fv 147, fv 148, fv 149]) W := by kernel_rfl
theorem zk0 (W : World) : (Instr.index 166 (.agg tb) (.int .i64 2)).run Tryz.prog W = .ok (.agg #[fv 147, fv 148, fv 150]) W := by kernel_rfl
theorem zjZ (W : World) : (Instr.index 166 (.agg tb) (.int .i64 3)).run Tryz.prog W = .ok (.agg #[fv 144, fv 145, fv 146]) W := by kernel_rfl
theorem zjY (W : World) : (Instr.index 166 (.agg tb) (.int .i64 4)).run Tryz.prog W = .ok (.agg #[fv 144, fv 145, fv 146]) W := by kernel_rfl
theorem zjX (W : World) : (Instr.index 166 (.agg tb) (.int .i64 5)).run Tryz.prog W = .ok (.agg #[fv 144, fv 145, fv 146]) W := by kernel_rfl
theorem zjW (W : World) : (Instr.index 166 (.agg tb) (.int .i64 6)).run Tryz.prog W = .ok (.agg #[fv 144, fv 145, fv 146]) W := by kernel_rfl
theorem zjV (W : World) : (Instr.index 166 (.agg tb) (.int .i64 7)).run Tryz.prog W = .ok (.agg #[fv 147, fv 148, fv 151]) W := by kernel_rfl
theorem zjU (W : World) : (Instr.index 166 (.agg tb) (.int .i64 8)).run Tryz.prog W = .ok (.agg #[fv 152, fv 153, fv 151]) W := by kernel_rfl
theorem zjT (W : World) : (Instr.index 166 (.agg tb) (.int .i64 9)).run Tryz.prog W = .ok (.agg #[fv 154, fv 155, fv 156]) W := by kernel_rfl
theorem ziv (W : World) : (Instr.index 166 (.agg tb) (.int .i64 10)).run Tryz.prog W = .ok (.agg #[fv 157, fv 148, fv 146]) W := by kernel_rfl
set_option maxHeartbeats 4000000 in
set_option maxRecDepth 100000 in
theorem zk2 (w : World) : Calls Tryz.prog 137 #[] w fun e w' => e = .returned (.agg tb) ∧ Below w.heap.size w w' := by
 go_enter Tryz.func137, Tryz.ntmps137
 go_wp2_with (guard_target = wpList _ _ _ _ _ _; first | (refine zfA rfl rfl 0 rfl (fun Y1 g1 hN1 hB1 hG1 => ?_)) | (refine wpList_buildTo rfl _ _ (op := ⟨some 13, _, _, _, _, _⟩) rfl _ rfl tb (by exact built_tb) ?_) | (refine zfz rfl _ _ rfl g1 rfl rfl ?_ (fun Y2 hN2 hG2 => ?_)))
 ·
  exact hN1.below ((Below.refl _ _).alloc (Nat.le_refl _) _)
 ·
  have hb2 : Below w.heap.size w (Y1.alloc (.cells #[fv 144, fv 145, fv 146] 165)) := hB1.alloc hB1.size _
  refine bodyPost_ret (v := .agg tb) (zij Tryz.results137 _ _ g1 rfl hN2.cs) rfl ⟨rfl, ?_⟩
  exact hb2.grown hG2 hb2.size (fun q e => by injection e with e; omega)
end Go.Proofs.YtenaaneckobdpaaGreat
