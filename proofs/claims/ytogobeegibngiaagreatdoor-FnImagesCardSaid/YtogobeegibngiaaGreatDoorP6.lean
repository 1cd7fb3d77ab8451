/-
  Parts of one proof, one behind the other: DrawX, DrawN, NeedS, InsS, InsS2, Math13L.
-/
import Derived.Test.YtogobeegibngiaaGreatDoorP5
import Derived.Test.YtogobeegibngiaaGreatDoorP2
import Derived.Test.YtogobeegibngiaaGreatDoorP4
import Derived.Test.YtogobeegibngiaaGreatDoorP1
import Derived.Deep.Cut

/-! The contracts of DrawLines, DrawWords, DrawNameOk, DrawNumberOf. -/
namespace Go.Proofs.YtogobeegibngiaaGreatDoor
open Go.RowKit



def pickT (l : List (List UInt8)) (x : Int) : List UInt8 := l.getD x.toNat []

theorem pickT_cell (l : List (List UInt8)) (x : Int) (h0 : 0 ≤ x) (h1 : x < l.length) (W : World) (e : TypeId) :
    (W.alloc (.cells (strV l).toArray e)).cell? ⟨W.heap.size, x.toNat, none⟩ = some (.string ⟨(pickT l x).toArray⟩) := by
  have hx : x.toNat < l.length := by omega
  rw [World.cell?_alloc_mark]
  simp [pickT, strV, hx]

theorem pickT_len (l : List (List UInt8)) (x : Int) (n : Nat) (h : ∀ y ∈ l, y.length ≤ n) : (pickT l x).length ≤ n := by
  unfold pickT
  by_cases hx : x.toNat < l.length
  · have : l.getD x.toNat [] = l[x.toNat] := by simp [List.getD, hx]
    rw [this]; exact h _ (List.getElem_mem hx)
  · have : l.getD x.toNat [] = [] := by simp [List.getD, hx]
    rw [this]; simp



end Go.Proofs.YtogobeegibngiaaGreatDoor

/-! A node is drawn. -/
namespace Go.Proofs.YtogobeegibngiaaGreatDoor
open Go.RowKit

theorem Code.alloc {w : World} {B : Nat} {a : Option Addr} {len : Nat} (h : Code w B a len) (hB : B ≤ w.heap.size) (o : Obj) : Code (w.alloc o) (B + 1) a len := by
  intro j hj
  obtain ⟨b, off, x, e1, e2, e3, e0⟩ := h j hj
  exact ⟨b, off, x, e1, by omega, (World.cell?_of_block (a := ⟨b, off + j, none⟩) (Below.heap_alloc _ _ _ (by show b < _; omega))).trans e3, e0⟩

end Go.Proofs.YtogobeegibngiaaGreatDoor

/-! What the contracts of chapter 12's specification lean on. -/
namespace Go.Proofs.YtogobeegibngiaaGreatDoor
open Go.RowKit

set_option maxHeartbeats 400000 in
set_option maxRecDepth 100000 in
theorem specMax12 (x y : Int) (w : World) : Calls Tryz.prog 132 #[.int .i64 x, .int .i64 y] w fun e w' => e = .returned (.int .i64 (max x y)) ∧ w' = w := by
  by_cases h : x > y
  · have HF : Hid (max x y = x) := by exact (by omega : max x y = x)
    go_enter Tryz.func132, Tryz.ntmps132
    go_wp2
    go_ret
    exact ⟨by rw [HF.out]; rfl, rfl⟩
  · have HF : Hid (max x y = y) := by exact (by omega : max x y = y)
    go_enter Tryz.func132, Tryz.ntmps132
    go_wp2
    go_ret
    exact ⟨by rw [HF.out]; rfl, rfl⟩
theorem node_new12 (V : World) (a b c d : Value) (t : TypeId) : ((V.alloc (.cells #[a, b, c, d] t)).cell? ⟨V.heap.size, 0, none⟩ = some a ∧ (V.alloc (.cells #[a, b, c, d] t)).cell? ⟨V.heap.size, 1, none⟩ = some b ∧ (V.alloc (.cells #[a, b, c, d] t)).cell? ⟨V.heap.size, 2, none⟩ = some c ∧ (V.alloc (.cells #[a, b, c, d] t)).cell? ⟨V.heap.size, 3, none⟩ = some d) ∧ Below V.heap.size V (V.alloc (.cells #[a, b, c, d] t)) := by
  have hb : Below V.heap.size V (V.alloc (.cells #[a, b, c, d] t)) := (Below.refl _ _).alloc (Nat.le_refl _) _
  have hA := heap_alloc_new V (.cells #[a, b, c, d] t)
  generalize V.alloc (.cells #[a, b, c, d] t) = W at hb hA ⊢
  exact ⟨⟨by simp [World.cell?, hA], by simp [World.cell?, hA], by simp [World.cell?, hA], by simp [World.cell?, hA]⟩, hb⟩

theorem push_int12 {X : World} {B n : Nat} {v : Value} {xs : List Int} (x : Int) (hv : X.ownsRow B 2 1 v n (intsV xs)) (hb : B ≤ X.heap.size) (hn : n ≤ 1048576) :
    ∃ v' Y, (Builtin.append_ #[102, 102] 102 #[v, .slice (some ⟨X.heap.size, 0, none⟩) 1 1]).run Tryz.prog (X.alloc (.cells #[.int .i64 x] 2)) = .ok v' Y ∧ Y.ownsRow B 2 1 v' (n + 1) (intsV (xs ++ [x])) ∧ X.grownBy Y v.ownBlock := by
  obtain ⟨i0, hi, hz0, hz1, hz2⟩ := info_parts info2
  obtain ⟨v', Y, hrun, hown, hg, _⟩ := run_append_src (P := Tryz.prog) (X.alloc (.cells #[.int .i64 x] 2)) B 102 102 2 i0 _ 1 8 Tryz.underlying102 hi hz0 hz1 hz2 rfl (by decide) _ _ _ (hv.alloc _) (.slice (some ⟨X.heap.size, 0, none⟩) 1 1) 1 (intsV [x]) ⟨rfl, intsV_one _, Or.inr ⟨_, 1, rfl, new_int X x⟩⟩ (by unfold maxLen; omega) (by omega) (by simp; omega)
  refine ⟨v', Y, hrun, ?_, (World.grownBy_alloc X _ _).trans hg⟩
  rw [intsV_append]
  exact hown
theorem own_any12 {w : World} {base e size n : Nat} {v : Value} {xs : List Value} (h : w.ownsRow base e size v n xs) : ∃ a c, v = .slice a n c := by
  rcases own_forms h with ⟨rfl, rfl, _⟩ | ⟨g, cp, rfl⟩
  · exact ⟨none, 0, rfl⟩
  · exact ⟨some ⟨g, 0, none⟩, cp, rfl⟩
theorem ints_cell {w : World} {B g c n : Nat} {xs : List Int} (h : w.ownsRow B 2 1 (.slice (some ⟨g, 0, none⟩) n c) n (intsV xs)) (j : Nat) (hj : j < xs.length) : w.cell? ⟨g, j, none⟩ = some (.int .i64 (xs.getD j 0)) := by
  have hl := h.1
  rw [intsV_len] at hl
  rw [h.cellAt j (by omega), intsV_at xs j hj]
  simp [List.getD, hj]
theorem own_as {w : World} {B n : Nat} {v : Value} {xs : List Int} (h : w.ownsRow B 2 1 v n (intsV xs)) : ∃ a c, v = .slice a n c ∧ AsIn w a xs := by
  have hl := h.1
  rw [intsV_len] at hl
  rcases own_forms h with ⟨rfl, rfl, _⟩ | ⟨g, cp, rfl⟩
  · exact ⟨none, 0, rfl, fun j hj => by omega⟩
  · exact ⟨_, cp, rfl, nums_as h (by omega)⟩
theorem need_place {t : List Nd} {a : Nat} (hp : 0 ≤ endV t (a : Int)) {i : Nat} (hi : i < kidsN (t.getD a nd0)) : ∃ q : Nat, (pts10 t (a : Int)).getD i 0 = (q : Int) ∧ a < q ∧ 0 ≤ endV t (q : Int) := by
  obtain ⟨q, hq, _, hqe⟩ := part_place hp hi
  refine ⟨q, hq, ?_, hqe⟩
  obtain ⟨s, post, e, hs⟩ := sub_of hp
  cases hs with
  | mk n ks hn hk ho =>
    obtain ⟨e1, e2, e3⟩ := pts_sub e hk ho
    rw [e1] at hi
    obtain ⟨_, e4, _⟩ := e3 i (by omega)
    rw [hq] at e4
    omega
theorem need_at {t : List Nd} {os : List Int} {q d : Nat} (h : 0 ≤ endV t (q : Int)) (hd : t.length ≤ q + d) (hl : t.length ≤ 60) : 1 ≤ need12 d t os (q : Int) ∧ need12 d t os (q : Int) ≤ 60 := by
  obtain ⟨s, post, e, hs⟩ := sub_of h
  have h2 := congrArg List.length e
  rw [List.length_drop, List.length_append] at h2
  have := need_bd hs os d t post q (by omega) e
  omega
/-- What l12Need is told. -/
def Nee12 (B : World) (ta : Option Addr) (tc : Nat) (t : List Nd) (oa : Option Addr) (oc : Nat) (os : List Int) (d : Nat) : Prop := ∀ (w : World) (a : Nat), Below B.heap.size B w → 0 ≤ endV t (a : Int) → t.length ≤ a + d →
  Calls Tryz.prog 110 #[.slice ta t.length tc, .int .i64 (a : Int), .slice oa os.length oc] w fun e w' => e = .returned (.int .i64 (need12 d t os (a : Int))) ∧ Below w.heap.size w w'

end Go.Proofs.YtogobeegibngiaaGreatDoor

/-! The contracts of chapter 13's specification: registers, names, one instruction. -/
namespace Go.Proofs.YtogobeegibngiaaGreatDoor
open Go.RowKit

def insVal (i : In13) : Value := .agg #[.int .i64 i.1, .int .i64 i.2.1, .int .i64 i.2.2.1, .int .i64 i.2.2.2.1, .string ⟨i.2.2.2.2.toArray⟩]
def bad13 (k B : Int) (nm : List UInt8) : Bool := (decide (k ≠ 9) && !nm.isEmpty) || (!(inB k 3 6) && decide (B ≠ 0))
def kind13 (k R A B : Int) (nm : List UInt8) : Bool :=
  if k = 1 then inB R 0 63 && inB A (-2147483648) 2147483647
  else if k = 2 then inB R 0 63 && inB A 0 2
  else if 3 ≤ k ∧ k ≤ 6 then inB R 0 63 && inB A 0 63 && inB B 0 63
  else if k = 7 then inB R 0 63 && inB A 0 199
  else if k = 8 then decide (R = 0) && inB A 0 199
  else if k = 9 then inB R 0 63 && inB A 0 3 && decide (R + A - 1 ≤ 63) && name13 nm
  else if k = 10 then inB R 0 63 && decide (A = 0)
  else false
theorem insB_two (k R A B : Int) (nm : List UInt8) : insB (k, R, A, B, nm) = (!bad13 k B nm && kind13 k R A B nm) := by
  have hnm : nm.isEmpty = decide (nm = []) := by cases nm <;> simp
  rw [Bool.eq_iff_iff]
  unfold insB insP bad13 kind13 inB
  rw [hnm]
  dsimp only
  grind

set_option maxHeartbeats 400000 in
set_option maxRecDepth 100000 in
theorem specReg13 (r : Int) (w : World) : Calls Tryz.prog 84 #[.int .i64 r] w fun e w' => e = .returned (.bool (inB r 0 63)) ∧ w' = w := by
  go_enter Tryz.func84, Tryz.ntmps84
  go_wp2_with (go_at_call 31; refine (specIn _ _ _ _).mono ?_; rintro e w' ⟨rfl, rfl⟩)
  go_ret
  exact ⟨rfl, rfl⟩

set_option maxHeartbeats 1000000 in
set_option maxRecDepth 100000 in
theorem specName13 (s : List UInt8) (w : World) (hl : s.length ≤ 1048576) : Calls Tryz.prog 44 #[.string ⟨s.toArray⟩] w fun e w' => e = .returned (.bool (name13 s)) ∧ Below w.heap.size w w' := by
  obtain ⟨ws, hws⟩ : ∃ ws, splitL 46 s = ws := ⟨_, rfl⟩
  have HW : Hid (splitL 46 s = ws) := hws
  have hfl := splitGo_flat 46 s []
  have hwl : ∀ j, (ws.getD j []).length ≤ 1048576 := fun j => by
    rw [← hws]
    by_cases hj : j < (splitL 46 s).length
    · have hm : (splitL 46 s).getD j [] ∈ splitL 46 s := by simp [List.getD, hj]
      have h1 : ((splitL 46 s).getD j []).length ≤ (splitL 46 s).flatten.length := (List.sublist_flatten_of_mem hm).length_le
      have h2 : (splitL 46 s).flatten.length ≤ 0 + s.length := hfl
      omega
    · simp [List.getD, hj]
  have hN : name13 s = (decide (ws.length = 2) && nameB (ws.getD 0 []) && nameB (ws.getD 1 [])) := by unfold name13; rw [hws]; congr 1
  rw [hN]
  by_cases h2 : ws.length = 2
  · have hd : decide (ws.length = 2) = true := decide_eq_true h2
    rw [hd]
    obtain ⟨x, hx⟩ : ∃ x, ws.getD 0 [] = x := ⟨_, rfl⟩
    obtain ⟨y, hy⟩ : ∃ y, ws.getD 1 [] = y := ⟨_, rfl⟩
    have hw0 := hwl 0
    have hw1 := hwl 1
    have HX : Hid (ws.getD 0 [] = x ∧ ws.getD 1 [] = y) := ⟨hx, hy⟩
    rw [hx] at hw0 ⊢
    rw [hy] at hw1 ⊢
    have HP : Hid (_) := fun W : World => specNameOk x W hw0
    have HQ : Hid (_) := fun W : World => specNameOk y W hw1
    obtain ⟨nx, hnx⟩ : ∃ b, nameB x = b := ⟨_, rfl⟩
    obtain ⟨ny, hny⟩ : ∃ b, nameB y = b := ⟨_, rfl⟩
    rw [hnx] at HP ⊢
    rw [hny] at HQ ⊢
    clear hx hy hnx hny
    have H2 : Hid (ws.length = 2) := h2
    clear hN hws hfl hwl h2 hd
    go_enter Tryz.func44, Tryz.ntmps44
    go_wp2_with fail
    refine (specSplit s 46 46 _ (by rfl) hl).mono ?_
    rintro e w1 ⟨g, cp, rfl, hown, hb1⟩
    rw [HW.out] at hown ⊢
    rw [H2.out] at hown ⊢
    have c0 := str_cellsD hown H2.out 0 (by omega)
    have c1 := str_cellsD hown H2.out 1 (by omega)
    rw [HX.out.1] at c0
    rw [HX.out.2] at c1
    clear hown
    rcases nx with _ | _
    · go_wp2_with fail
      refine Calls.mono (HP.out _) ?_
      rintro e w2 ⟨rfl, rfl⟩
      go_wp2
      go_ret
      exact ⟨rfl, hb1⟩
    · go_wp2_with fail
      refine Calls.mono (HP.out _) ?_
      rintro e w2 ⟨rfl, rfl⟩
      go_wp2_with fail
      refine Calls.mono (HQ.out _) ?_
      rintro e w3 ⟨rfl, rfl⟩
      go_wp2
      go_ret
      exact ⟨rfl, hb1⟩
  · have hd : decide (ws.length = 2) = false := decide_eq_false h2
    rw [hd]
    have hne : ((ws.length : Int) == 2) = false := beq_eq_false_iff_ne.2 (by omega)
    clear hN hws hfl hwl h2 hd
    go_enter Tryz.func44, Tryz.ntmps44
    go_wp2_with fail
    refine (specSplit s 46 46 _ (by rfl) hl).mono ?_
    rintro e w1 ⟨g, cp, rfl, hown, hb1⟩
    rw [HW.out]
    clear hown
    go_wp2
    go_ret
    exact ⟨rfl, hb1⟩

end Go.Proofs.YtogobeegibngiaaGreatDoor

/-! The contract of chapter 13's specification: InsOk. -/
namespace Go.Proofs.YtogobeegibngiaaGreatDoor
open Go.RowKit

theorem ins_new13 (V : World) (a b c d f : Value) (t : TypeId) : ((V.alloc (.cells #[a, b, c, d, f] t)).cell? ⟨V.heap.size, 0, none⟩ = some a ∧ (V.alloc (.cells #[a, b, c, d, f] t)).cell? ⟨V.heap.size, 1, none⟩ = some b ∧ (V.alloc (.cells #[a, b, c, d, f] t)).cell? ⟨V.heap.size, 2, none⟩ = some c ∧ (V.alloc (.cells #[a, b, c, d, f] t)).cell? ⟨V.heap.size, 3, none⟩ = some d ∧ (V.alloc (.cells #[a, b, c, d, f] t)).cell? ⟨V.heap.size, 4, none⟩ = some f) ∧ Below V.heap.size V (V.alloc (.cells #[a, b, c, d, f] t)) := by
  have hb : Below V.heap.size V (V.alloc (.cells #[a, b, c, d, f] t)) := (Below.refl _ _).alloc (Nat.le_refl _) _
  have hA := heap_alloc_new V (.cells #[a, b, c, d, f] t)
  generalize V.alloc (.cells #[a, b, c, d, f] t) = W at hb hA ⊢
  exact ⟨⟨by simp [World.cell?, hA], by simp [World.cell?, hA], by simp [World.cell?, hA], by simp [World.cell?, hA], by simp [World.cell?, hA]⟩, hb⟩

theorem inB_iff13 {x lo hi : Int} : inB x lo hi = true ↔ lo ≤ x ∧ x ≤ hi := by unfold inB; simp

set_option maxHeartbeats 8000000 in
set_option maxRecDepth 100000 in
theorem specInsOk (i : In13) (w : World) (hl : i.2.2.2.2.length ≤ 1048576) :
    Calls Tryz.prog 67 #[insVal i] w fun e w' => e = .returned (.bool (insB i)) ∧ Below w.heap.size w w' := by
  obtain ⟨k, R, A, B, nm⟩ := i
  simp only at hl
  rw [insB_two]
  unfold insVal
  simp only
  obtain ⟨⟨n0, n1, n2, n3, n4⟩, hbg⟩ := ins_new13 w (.int .i64 k) (.int .i64 R) (.int .i64 A) (.int .i64 B) (.string ⟨nm.toArray⟩) 56
  obtain ⟨X, hX⟩ : ∃ X, w.alloc (.cells #[.int .i64 k, .int .i64 R, .int .i64 A, .int .i64 B, .string ⟨nm.toArray⟩] 56) = X := ⟨_, rfl⟩
  obtain ⟨N, hN⟩ : ∃ N, w.heap.size = N := ⟨_, rfl⟩
  rw [hX] at n0 n1 n2 n3 n4 hbg
  rw [hN] at n0 n1 n2 n3 n4 hbg ⊢
  have HBX : Hid (Below N w X) := hbg
  obtain ⟨bb, hbb⟩ : ∃ b, bad13 k B nm = b := ⟨_, rfl⟩
  have HBb : Hid (bad13 k B nm = bb) := hbb
  obtain ⟨res, hres⟩ : ∃ b, (!bad13 k B nm && kind13 k R A B nm) = b := ⟨_, rfl⟩
  rw [hres]
  rw [hbb] at hres
  have HR : Hid ((!bb && kind13 k R A B nm) = res) := hres
  have HRg : Hid (_) := fun (r : Int) (W : World) => specReg13 r W
  have HIn : Hid (_) := fun (x lo hi : Int) (W : World) => specIn x lo hi W
  have HWd : Hid (_) := fun (x : Int) (W : World) => specWordOk x W
  have HNm : Hid (_) := specName13 nm X hl
  clear hres hbg hbb hl
  go_enter Tryz.func67, Tryz.ntmps67
  go_wp2_with fail
  refine Calls.mono (HIn.out A 0 199 _) ?_
  rintro e wz ⟨rfl, hz⟩
  obtain rfl := hz.symm
  clear hz
  go_upto_region 2 with fail
  go_cut [25] from 7 (fun v wx => v = .bool bb ∧ wx = X)
  case first =>
    by_cases h9 : k = 9
    · subst h9
      have h3 : inB 9 3 6 = false := by decide
      have HF : Hid (bb = (B != 0)) := by exact (by rw [← HBb.out]; unfold bad13; rw [h3]; by_cases h : B = 0 <;> simp [h] : bb = (B != 0))
      clear HBb HR
      go_wp2_with fail
      refine Calls.mono (HIn.out _ _ _ _) ?_
      rintro e wz ⟨rfl, hz⟩
      obtain rfl := hz.symm
      rw [h3]
      clear hz h3
      go_wp2_with fail
      go_meet
      case rel => exact ⟨by rw [HF.out], rfl⟩
    · have d9 : (k != 9) = true := bne_iff_ne.2 h9
      rcases hnm : nm.isEmpty with _ | _
      · have HF : Hid (bb = true) := by exact (by rw [← HBb.out]; unfold bad13; simp [h9, hnm] : bb = true)
        clear HBb HR h9
        go_wp2_with fail
        go_meet
        case rel => exact ⟨by rw [HF.out], rfl⟩
      · obtain rfl : nm = [] := List.isEmpty_iff.1 hnm
        rcases h3 : inB k 3 6 with _ | _
        · have HF : Hid (bb = (B != 0)) := by exact (by rw [← HBb.out]; unfold bad13; rw [h3]; by_cases h : B = 0 <;> simp [h] : bb = (B != 0))
          clear HBb HR h9 hnm
          go_wp2_with fail
          refine Calls.mono (HIn.out _ _ _ _) ?_
          rintro e wz ⟨rfl, hz⟩
          obtain rfl := hz.symm
          rw [h3]
          clear hz h3
          go_wp2_with fail
          go_meet
          case rel => exact ⟨by rw [HF.out], rfl⟩
        · have HF : Hid (bb = false) := by exact (by rw [← HBb.out]; unfold bad13; rw [h3]; simp : bb = false)
          clear HBb HR h9 hnm
          go_wp2_with fail
          refine Calls.mono (HIn.out _ _ _ _) ?_
          rintro e wz ⟨rfl, hz⟩
          obtain rfl := hz.symm
          rw [h3]
          clear hz h3
          go_wp2_with fail
          go_meet
          case rel => exact ⟨by rw [HF.out], rfl⟩
  case rest =>
  obtain ⟨rfl, hz⟩ := hcut
  obtain rfl := hz.symm
  clear HBb hz
  rcases bb with _ | _
  rotate_left
  · have HK : Hid (res = false) := by exact (by rw [← HR.out]; rfl : res = false)
    go_wp2
    go_ret
    exact ⟨by rw [HK.out]; rfl, HBX.out⟩
  by_cases h1 : k = 1
  · subst h1
    have HK : Hid (res = (inB R 0 63 && inB A (-2147483648) 2147483647)) := by exact (by rw [← HR.out]; simp [kind13] : res = (inB R 0 63 && inB A (-2147483648) 2147483647))
    clear HR
    go_wp2_with fail
    refine Calls.mono (HRg.out R _) ?_
    rintro e wz ⟨rfl, hz⟩
    obtain rfl := hz.symm
    clear hz
    rcases hb0 : inB R 0 63 with _ | _
    · rw [hb0] at HK
      clear hb0
      go_wp2
      go_ret
      exact ⟨by rw [HK.out]; rfl, HBX.out⟩
    · rw [hb0] at HK
      clear hb0
      go_wp2_with fail
      refine Calls.mono (HWd.out A _) ?_
      rintro e wz ⟨rfl, hz⟩
      obtain rfl := hz.symm
      clear hz
      go_wp2
      go_ret
      exact ⟨by rw [HK.out]; rfl, HBX.out⟩
  have d1 : (k == 1) = false := beq_eq_false_iff_ne.2 h1
  by_cases h2 : k = 2
  · subst h2
    clear h1 d1
    have HK : Hid (res = (inB R 0 63 && inB A 0 2)) := by exact (by rw [← HR.out]; simp [kind13] : res = (inB R 0 63 && inB A 0 2))
    clear HR
    go_wp2_with fail
    refine Calls.mono (HRg.out R _) ?_
    rintro e wz ⟨rfl, hz⟩
    obtain rfl := hz.symm
    clear hz
    rcases hb0 : inB R 0 63 with _ | _
    · rw [hb0] at HK
      clear hb0
      go_wp2
      go_ret
      exact ⟨by rw [HK.out]; rfl, HBX.out⟩
    · rw [hb0] at HK
      clear hb0
      go_wp2_with fail
      refine Calls.mono (HIn.out A 0 2 _) ?_
      rintro e wz ⟨rfl, hz⟩
      obtain rfl := hz.symm
      clear hz
      go_wp2
      go_ret
      exact ⟨by rw [HK.out]; rfl, HBX.out⟩
  have d2 : (k == 2) = false := beq_eq_false_iff_ne.2 h2
  by_cases h3 : k = 3
  · subst h3
    clear h1 d1 h2 d2
    have HK : Hid (res = (inB R 0 63 && inB A 0 63 && inB B 0 63)) := by exact (by rw [← HR.out]; simp [kind13] : res = (inB R 0 63 && inB A 0 63 && inB B 0 63))
    clear HR
    go_wp2_with fail
    refine Calls.mono (HRg.out R _) ?_
    rintro e wz ⟨rfl, hz⟩
    obtain rfl := hz.symm
    clear hz
    rcases hb0 : inB R 0 63 with _ | _
    · rw [hb0] at HK
      clear hb0
      go_wp2
      go_ret
      exact ⟨by rw [HK.out]; rfl, HBX.out⟩
    · rw [hb0] at HK
      clear hb0
      go_wp2_with fail
      refine Calls.mono (HRg.out A _) ?_
      rintro e wz ⟨rfl, hz⟩
      obtain rfl := hz.symm
      clear hz
      rcases hb1 : inB A 0 63 with _ | _
      · rw [hb1] at HK
        clear hb1
        go_wp2
        go_ret
        exact ⟨by rw [HK.out]; rfl, HBX.out⟩
      · rw [hb1] at HK
        clear hb1
        go_wp2_with fail
        refine Calls.mono (HRg.out B _) ?_
        rintro e wz ⟨rfl, hz⟩
        obtain rfl := hz.symm
        clear hz
        go_wp2
        go_ret
        exact ⟨by rw [HK.out]; rfl, HBX.out⟩
  have d3 : (k == 3) = false := beq_eq_false_iff_ne.2 h3
  by_cases h4 : k = 4
  · subst h4
    clear h1 d1 h2 d2 h3 d3
    have HK : Hid (res = (inB R 0 63 && inB A 0 63 && inB B 0 63)) := by exact (by rw [← HR.out]; simp [kind13] : res = (inB R 0 63 && inB A 0 63 && inB B 0 63))
    clear HR
    go_wp2_with fail
    refine Calls.mono (HRg.out R _) ?_
    rintro e wz ⟨rfl, hz⟩
    obtain rfl := hz.symm
    clear hz
    rcases hb0 : inB R 0 63 with _ | _
    · rw [hb0] at HK
      clear hb0
      go_wp2
      go_ret
      exact ⟨by rw [HK.out]; rfl, HBX.out⟩
    · rw [hb0] at HK
      clear hb0
      go_wp2_with fail
      refine Calls.mono (HRg.out A _) ?_
      rintro e wz ⟨rfl, hz⟩
      obtain rfl := hz.symm
      clear hz
      rcases hb1 : inB A 0 63 with _ | _
      · rw [hb1] at HK
        clear hb1
        go_wp2
        go_ret
        exact ⟨by rw [HK.out]; rfl, HBX.out⟩
      · rw [hb1] at HK
        clear hb1
        go_wp2_with fail
        refine Calls.mono (HRg.out B _) ?_
        rintro e wz ⟨rfl, hz⟩
        obtain rfl := hz.symm
        clear hz
        go_wp2
        go_ret
        exact ⟨by rw [HK.out]; rfl, HBX.out⟩
  have d4 : (k == 4) = false := beq_eq_false_iff_ne.2 h4
  by_cases h5 : k = 5
  · subst h5
    clear h1 d1 h2 d2 h3 d3 h4 d4
    have HK : Hid (res = (inB R 0 63 && inB A 0 63 && inB B 0 63)) := by exact (by rw [← HR.out]; simp [kind13] : res = (inB R 0 63 && inB A 0 63 && inB B 0 63))
    clear HR
    go_wp2_with fail
    refine Calls.mono (HRg.out R _) ?_
    rintro e wz ⟨rfl, hz⟩
    obtain rfl := hz.symm
    clear hz
    rcases hb0 : inB R 0 63 with _ | _
    · rw [hb0] at HK
      clear hb0
      go_wp2
      go_ret
      exact ⟨by rw [HK.out]; rfl, HBX.out⟩
    · rw [hb0] at HK
      clear hb0
      go_wp2_with fail
      refine Calls.mono (HRg.out A _) ?_
      rintro e wz ⟨rfl, hz⟩
      obtain rfl := hz.symm
      clear hz
      rcases hb1 : inB A 0 63 with _ | _
      · rw [hb1] at HK
        clear hb1
        go_wp2
        go_ret
        exact ⟨by rw [HK.out]; rfl, HBX.out⟩
      · rw [hb1] at HK
        clear hb1
        go_wp2_with fail
        refine Calls.mono (HRg.out B _) ?_
        rintro e wz ⟨rfl, hz⟩
        obtain rfl := hz.symm
        clear hz
        go_wp2
        go_ret
        exact ⟨by rw [HK.out]; rfl, HBX.out⟩
  have d5 : (k == 5) = false := beq_eq_false_iff_ne.2 h5
  by_cases h6 : k = 6
  · subst h6
    clear h1 d1 h2 d2 h3 d3 h4 d4 h5 d5
    have HK : Hid (res = (inB R 0 63 && inB A 0 63 && inB B 0 63)) := by exact (by rw [← HR.out]; simp [kind13] : res = (inB R 0 63 && inB A 0 63 && inB B 0 63))
    clear HR
    go_wp2_with fail
    refine Calls.mono (HRg.out R _) ?_
    rintro e wz ⟨rfl, hz⟩
    obtain rfl := hz.symm
    clear hz
    rcases hb0 : inB R 0 63 with _ | _
    · rw [hb0] at HK
      clear hb0
      go_wp2
      go_ret
      exact ⟨by rw [HK.out]; rfl, HBX.out⟩
    · rw [hb0] at HK
      clear hb0
      go_wp2_with fail
      refine Calls.mono (HRg.out A _) ?_
      rintro e wz ⟨rfl, hz⟩
      obtain rfl := hz.symm
      clear hz
      rcases hb1 : inB A 0 63 with _ | _
      · rw [hb1] at HK
        clear hb1
        go_wp2
        go_ret
        exact ⟨by rw [HK.out]; rfl, HBX.out⟩
      · rw [hb1] at HK
        clear hb1
        go_wp2_with fail
        refine Calls.mono (HRg.out B _) ?_
        rintro e wz ⟨rfl, hz⟩
        obtain rfl := hz.symm
        clear hz
        go_wp2
        go_ret
        exact ⟨by rw [HK.out]; rfl, HBX.out⟩
  have d6 : (k == 6) = false := beq_eq_false_iff_ne.2 h6
  by_cases h7 : k = 7
  · subst h7
    clear h1 d1 h2 d2 h3 d3 h4 d4 h5 d5 h6 d6
    have HK : Hid (res = (inB R 0 63 && inB A 0 199)) := by exact (by rw [← HR.out]; simp [kind13] : res = (inB R 0 63 && inB A 0 199))
    clear HR
    go_wp2_with fail
    refine Calls.mono (HRg.out R _) ?_
    rintro e wz ⟨rfl, hz⟩
    obtain rfl := hz.symm
    clear hz
    rcases hb0 : inB R 0 63 with _ | _
    · rw [hb0] at HK
      clear hb0
      go_wp2
      go_ret
      exact ⟨by rw [HK.out]; rfl, HBX.out⟩
    · rw [hb0] at HK
      clear hb0
      go_wp2
      go_ret
      exact ⟨by rw [HK.out]; rfl, HBX.out⟩
  have d7 : (k == 7) = false := beq_eq_false_iff_ne.2 h7
  by_cases h8 : k = 8
  · subst h8
    clear h1 d1 h2 d2 h3 d3 h4 d4 h5 d5 h6 d6 h7 d7
    have HK : Hid (res = (decide (R = 0) && inB A 0 199)) := by exact (by rw [← HR.out]; simp [kind13] : res = (decide (R = 0) && inB A 0 199))
    clear HR
    by_cases h0 : R = 0
    · have hd : decide (R = 0) = true := decide_eq_true h0
      rw [hd] at HK
      clear hd
      have hq : (R == 0) = true := by simp [h0]
      clear h0
      go_wp2
      go_ret
      exact ⟨by rw [HK.out]; rfl, HBX.out⟩
    · have hd : decide (R = 0) = false := decide_eq_false h0
      rw [hd] at HK
      clear hd
      have hq : (R == 0) = false := beq_eq_false_iff_ne.2 h0
      clear h0
      go_wp2
      go_ret
      exact ⟨by rw [HK.out]; rfl, HBX.out⟩
  have d8 : (k == 8) = false := beq_eq_false_iff_ne.2 h8
  by_cases h9 : k = 9
  · subst h9
    clear h1 d1 h2 d2 h3 d3 h4 d4 h5 d5 h6 d6 h7 d7 h8 d8
    have HK : Hid (res = (inB R 0 63 && inB A 0 3 && decide (R + A - 1 ≤ 63) && name13 nm)) := by exact (by rw [← HR.out]; simp [kind13] : res = (inB R 0 63 && inB A 0 3 && decide (R + A - 1 ≤ 63) && name13 nm))
    clear HR
    go_wp2_with fail
    refine Calls.mono (HRg.out R _) ?_
    rintro e wz ⟨rfl, hz⟩
    obtain rfl := hz.symm
    clear hz
    rcases hb0 : inB R 0 63 with _ | _
    · rw [hb0] at HK
      clear hb0
      go_wp2
      go_ret
      exact ⟨by rw [HK.out]; rfl, HBX.out⟩
    · rw [hb0] at HK
      go_wp2_with fail
      refine Calls.mono (HIn.out A 0 3 _) ?_
      rintro e wz ⟨rfl, hz⟩
      obtain rfl := hz.symm
      clear hz
      rcases hb1 : inB A 0 3 with _ | _
      · rw [hb1] at HK
        clear hb1
        go_wp2
        go_ret
        exact ⟨by rw [HK.out]; rfl, HBX.out⟩
      · rw [hb1] at HK
        have hr := inB_iff13.1 hb0
        have ha := inB_iff13.1 hb1
        by_cases h2 : R + A - 1 ≤ 63
        · have hd : decide (R + A - 1 ≤ 63) = true := decide_eq_true h2
          rw [hd] at HK
          clear hd
          go_wp2_with fail
          refine Calls.mono HNm.out ?_
          rintro e wz ⟨rfl, hbz⟩
          have HBz := HBX.out.trans (hbz.mono (hN ▸ HBX.out.size))
          clear hbz
          go_wp2
          go_ret
          exact ⟨by rw [HK.out]; rfl, HBz⟩
        · have hd : decide (R + A - 1 ≤ 63) = false := decide_eq_false h2
          rw [hd] at HK
          clear hd
          go_wp2
          go_ret
          exact ⟨by rw [HK.out]; rfl, HBX.out⟩
  have d9 : (k == 9) = false := beq_eq_false_iff_ne.2 h9
  by_cases h10 : k = 10
  · subst h10
    clear h1 d1 h2 d2 h3 d3 h4 d4 h5 d5 h6 d6 h7 d7 h8 d8 h9 d9
    have HK : Hid (res = (inB R 0 63 && decide (A = 0))) := by exact (by rw [← HR.out]; simp [kind13] : res = (inB R 0 63 && decide (A = 0)))
    clear HR
    go_wp2_with fail
    refine Calls.mono (HRg.out R _) ?_
    rintro e wz ⟨rfl, hz⟩
    obtain rfl := hz.symm
    clear hz
    rcases hb0 : inB R 0 63 with _ | _
    · rw [hb0] at HK
      clear hb0
      go_wp2
      go_ret
      exact ⟨by rw [HK.out]; rfl, HBX.out⟩
    · rw [hb0] at HK
      clear hb0
      have he : (A == 0) = decide (A = 0) := by by_cases h : A = 0 <;> simp [h]
      rw [← he] at HK
      clear he
      go_wp2
      go_ret
      exact ⟨by rw [HK.out]; rfl, HBX.out⟩
  have d10 : (k == 10) = false := beq_eq_false_iff_ne.2 h10
  have HK : Hid (res = false) := by exact (by rw [← HR.out]; unfold kind13; rw [if_neg h1, if_neg h2, if_neg (by omega), if_neg h7, if_neg h8, if_neg h9, if_neg h10]; rfl : res = false)
  clear HR h1 h2 h3 h4 h5 h6 h7 h8 h9 h10
  go_wp2
  go_ret
  exact ⟨by rw [HK.out]; rfl, HBX.out⟩

end Go.Proofs.YtogobeegibngiaaGreatDoor

/-! Plain facts of chapter 13: what FnCompiled asks. -/
namespace Go.Proofs.YtogobeegibngiaaGreatDoor
open Go.RowKit

theorem into_leaf {r c k v : Int} (hk : (k = 1 ∧ -2147483648 ≤ v ∧ v ≤ 2147483647) ∨ (k = 2 ∧ 0 ≤ v ∧ v ≤ 2)) (hr : 0 ≤ r) : G13 1 [(k, r, v, 0, [])] r c 1 := by
  refine ⟨by simp, by simp, ?_, ?_, ?_⟩
  · intro i hi
    rw [List.mem_singleton] at hi
    subst hi
    simp only
    omega
  · intro hc hlen hn i hi
    rw [List.mem_singleton] at hi
    subst hi
    refine ⟨⟨Or.inr rfl, Or.inr rfl, ?_⟩, fun e => by simp only at e; omega⟩
    rcases hk with ⟨h1, h2, h3⟩ | ⟨h1, h2, h3⟩
    · exact Or.inl ⟨h1, ⟨hr, by simp only; omega⟩, h2, h3⟩
    · exact Or.inr (Or.inl ⟨h1, ⟨hr, by simp only; omega⟩, h2, h3⟩)
  · rw [mx13_one]
    unfold top13
    simp only
    rw [if_neg (by omega), if_neg (by omega), if_neg (by omega)]
    omega

theorem sum_flat (ks : List (List Nd)) : ks.flatten.length = (ks.map List.length).sum := by simp [List.length_flatten]

theorem into_ok {s : List Nd} (h : One s) : ∀ (d : Nat) (t post : List Nd) (a : Nat) (r c : Int), s.length ≤ 60 → s.length ≤ d → t.drop a = s ++ post → 0 ≤ r → G13 s.length (into13 d t (a : Int) r c) r c (need12 60 t [] (a : Int)) := by
  induction h with
  | mk n ks hn hk ho ih =>
    intro d t post a r c h60 hd ht hr
    rcases d with _ | d
    · simp at hd
    obtain ⟨e1, e2, e3⟩ := pts_sub ht hk ho
    have hfl : ∀ k ∈ ks, k.length ≤ ks.flatten.length := fun k hm => (List.sublist_flatten_of_mem hm).length_le
    simp only [List.length_cons] at h60 hd
    have hb : ∀ i, i < ks.length → 1 ≤ need12 60 t [] ((pts10 t (a : Int)).getD i 0) ∧ (∀ r c, 0 ≤ r → G13 (ks.getD i []).length (into13 d t ((pts10 t (a : Int)).getD i 0) r c) r c (need12 60 t [] ((pts10 t (a : Int)).getD i 0))) ∧ need12 59 t [] ((pts10 t (a : Int)).getD i 0) = need12 60 t [] ((pts10 t (a : Int)).getD i 0) := fun i hi => by
      obtain ⟨post', e4, e5⟩ := e3 i hi
      have hm : ks.getD i [] ∈ ks := getD_mem11 hi
      have h1 := hfl _ hm
      rw [e4]
      exact ⟨(need_bd (ho _ hm) [] 60 t post' _ (by omega) e5).1, fun r c hr => ih _ hm d t post' _ r c (by omega) (by omega) e5 hr, need_fuel (ho _ hm) (by omega) (by omega) e5⟩
    have hN : need12 60 t [] (a : Int) = mk12 none n ((pts10 t (a : Int)).map (need12 60 t [])) := by
      show need12 (59 + 1) t [] (a : Int) = _
      rw [need12, Int.toNat_natCast, e1]
      have hm : (pts10 t (a : Int)).map (need12 59 t []) = (pts10 t (a : Int)).map (need12 60 t []) := by
        refine List.map_congr_left (fun p hp => ?_)
        obtain ⟨i, hi, rfl⟩ := List.getElem_of_mem hp
        have := (hb i (by omega)).2.2
        simpa [List.getD, hi] using this
      rw [hm]
      rfl
    rw [hN, into13, Int.toNat_natCast, e1]
    simp only
    have hkd := nodeB_iff.1 hn
    have hpl : (pts10 t (a : Int)).length = ks.length := e2
    rcases hkd with ⟨h1, h2, h3, h4⟩ | ⟨h1, h2, h3, h4⟩ | ⟨h1, h2, h3, h4⟩ | ⟨h1, h2, h3, h4⟩
    · have hz : ks = [] := by
        have : kidsN n = 0 := by unfold kidsN; rw [if_neg (by omega), if_neg (by omega), if_neg (by omega)]
        exact List.eq_nil_of_length_eq_zero (by omega)
      subst hz
      have hp0 : pts10 t (a : Int) = [] := List.eq_nil_of_length_eq_zero hpl
      rw [if_pos h1, hp0]
      unfold mk12
      rw [if_neg (by omega), if_neg (by omega)]
      exact into_leaf (k := 1) (Or.inl ⟨rfl, h2.1, h2.2⟩) hr
    · have hz : ks = [] := by
        have : kidsN n = 0 := by unfold kidsN; rw [if_neg (by omega), if_neg (by omega), if_neg (by omega)]
        exact List.eq_nil_of_length_eq_zero (by omega)
      subst hz
      have hp0 : pts10 t (a : Int) = [] := List.eq_nil_of_length_eq_zero hpl
      rw [if_neg (by omega), if_pos h1, hp0]
      unfold mk12
      rw [if_neg (by omega), if_neg (by omega)]
      exact into_leaf (k := 2) (Or.inr ⟨rfl, h2.1, h2.2⟩) hr
    · rw [if_neg (by omega), if_neg (by omega)]
      by_cases h7 : n.1 = 7
      · have hk2 : ks.length = 3 := by rw [hk]; exact kids_seven h7
        obtain ⟨k1, k2, k3, rfl⟩ : ∃ x y z, ks = [x, y, z] := by
          match ks, hk2 with
          | [x, y, z], _ => exact ⟨x, y, z, rfl⟩
        rw [if_pos h7]
        unfold mk12
        rw [if_neg (by omega), if_pos h7, map_getD12 (by omega), map_getD12 (by omega), map_getD12 (by omega)]
        obtain ⟨b0, g0, _⟩ := hb 0 (by simp)
        obtain ⟨b1, g1, _⟩ := hb 1 (by simp)
        obtain ⟨b2, g2, _⟩ := hb 2 (by simp)
        have hl : (n :: [k1, k2, k3].flatten).length = k1.length + k2.length + k3.length + 1 := by simp; omega
        rw [hl]
        exact into_if (g0 r c hr) (g1 r _ hr) (g2 r _ hr) hr b0 b1 b2
      · have h36 : 3 ≤ n.1 ∧ n.1 ≤ 6 := by omega
        have hk2 : ks.length = 2 := by rw [hk]; exact kids_four h36
        obtain ⟨k1, k2, rfl⟩ : ∃ x y, ks = [x, y] := by
          match ks, hk2 with
          | [x, y], _ => exact ⟨x, y, rfl⟩
        rw [if_neg h7, if_neg (by omega)]
        unfold mk12
        rw [if_pos h36, map_getD12 (by omega), map_getD12 (by omega)]
        obtain ⟨b0, g0, _⟩ := hb 0 (by simp)
        obtain ⟨b1, g1, _⟩ := hb 1 (by simp)
        have hl : (n :: [k1, k2].flatten).length = k1.length + k2.length + 1 := by simp
        have hl' : (n :: [k1, k2].flatten).length = k2.length + k1.length + 1 := by rw [hl]; omega
        simp only [show ([k1, k2] : List (List Nd)).getD 0 [] = k1 from rfl, show ([k1, k2] : List (List Nd)).getD 1 [] = k2 from rfl] at g0 g1
        unfold pair12
        simp only
        generalize need12 60 t [] ((pts10 t (a : Int)).getD 0 0) = x at b0 g0 ⊢
        generalize need12 60 t [] ((pts10 t (a : Int)).getD 1 0) = y at b1 g1 ⊢
        by_cases hyx : y ≤ x
        · rw [if_pos hyx, hl]
          have hg := into_pair (g0 r c hr) (g1 (r + 1) _ (by omega)) hr h36 b0 b1 (Or.inl ⟨rfl, rfl⟩)
          have hmx : (if x = y then x + 1 else max x y) = max x (y + 1) := by split <;> omega
          rw [hmx]
          exact hg
        · rw [if_neg hyx, hl']
          have hg := into_pair (g1 r c hr) (g0 (r + 1) _ (by omega)) hr h36 b1 b0 (Or.inr ⟨rfl, rfl⟩)
          have hmx : (if x = y then x + 1 else max x y) = max y (x + 1) := by split <;> omega
          rw [hmx]
          exact hg
    · rw [if_neg (by omega), if_neg (by omega), if_neg (by omega), if_pos h1]
      unfold mk12
      rw [if_neg (by omega), if_neg (by omega)]
      have hsz : (pts10 t (a : Int)).map (fun p => (endV t p - p).toNat) = ks.map List.length := by
        refine List.ext_getElem (by simp [hpl]) (fun i q1 q2 => ?_)
        rw [List.length_map] at q1 q2
        obtain ⟨post', e4, e5⟩ := e3 i q2
        have hm : ks.getD i [] ∈ ks := getD_mem11 q2
        have he := endV_sub e5 (ho _ hm)
        have hg : (pts10 t (a : Int))[i] = (pts10 t (a : Int)).getD i 0 := by simp [List.getD, q1]
        have hg2 : ks.getD i [] = ks[i] := by simp [List.getD, q2]
        rw [List.getElem_map, List.getElem_map, hg, e4, he, ← hg2]
        omega
      have hall : ∀ p ∈ pts10 t (a : Int), 1 ≤ need12 60 t [] p ∧ ∀ r c, 0 ≤ r → G13 ((fun p => (endV t p - p).toNat) p) (into13 d t p r c) r c (need12 60 t [] p) := fun p hp => by
        obtain ⟨i, hi, rfl⟩ := List.getElem_of_mem hp
        have hi2 : i < ks.length := by omega
        obtain ⟨b, g, _⟩ := hb i hi2
        have hg : (pts10 t (a : Int)).getD i 0 = (pts10 t (a : Int))[i] := by simp [List.getD, hi]
        have hs : (endV t (pts10 t (a : Int))[i] - (pts10 t (a : Int))[i]).toNat = (ks.getD i []).length := by
          have hq := congrArg (fun l => l.getD i 0) hsz
          have q1 : ((pts10 t (a : Int)).map (fun p => (endV t p - p).toNat)).getD i 0 = (endV t (pts10 t (a : Int))[i] - (pts10 t (a : Int))[i]).toNat := by simp [List.getD, hi]
          have q2 : (ks.map List.length).getD i 0 = (ks.getD i []).length := by simp [List.getD, hi2]
          rw [← q1, ← q2]
          exact hq
        rw [hg] at b g
        simp only
        rw [hs]
        exact ⟨b, g⟩
      obtain ⟨i1, i2, i3, i4⟩ := args_ok (into13 d t) (need12 60 t []) (fun p => (endV t p - p).toNat) (pts10 t (a : Int)) r c hr hall
      rw [hsz, ← sum_flat] at i1
      have hkn : (kidsN n : Int) = n.2.1 := by
        unfold kidsN
        rw [if_neg (by omega), if_neg (by omega), if_pos h1]
        omega
      have h4' := i4 1 (by omega)
      exact into_call (s := ks.flatten.length) (by omega) i2 (i3 1) h4'.1 h2.1 h2.2 (by omega) hr h3 h4

/-- What FnCompiled asks of code that a right tree became. -/
theorem compiled_law {t : List Nd} (h : treeB t = true) : codeB (compiledV t) = true ∧ regsV (compiledV t) = needT t ∧ (compiledV t).length ≤ 121 ∧ 1 ≤ (compiledV t).length ∧ (compiledV t).countP (fun i => i.1 == 10) = 1 := by
  obtain ⟨h60, ho⟩ := treeB_one.1 h
  have hg := into_ok ho 60 t [] 0 0 0 h60 h60 (by simp) (Int.le_refl 0)
  have hb := need_bd ho [] 60 t [] 0 h60 (by simp)
  rw [show ((0 : Nat) : Int) = 0 from rfl] at hg hb
  have hc : compiledV t = into13 60 t 0 0 0 ++ [(10, 0, 0, 0, [])] := by unfold compiledV; rw [if_pos h]
  have hn : needT t = need12 60 t [] 0 := by unfold needT; rw [if_pos h]
  rw [hc, hn]
  generalize into13 60 t 0 0 0 = x at hg ⊢
  generalize need12 60 t [] 0 = m at hg hb ⊢
  have hl : (x ++ [((10, 0, 0, 0, []) : In13)]).length = x.length + 1 := by simp
  have hlen := hg.len
  have hcode : codeB (x ++ [((10, 0, 0, 0, []) : In13)]) = true := by
    unfold codeB
    refine decide_eq_true ⟨by rw [hl]; omega, fun i hi => ?_, Or.inl ?_⟩
    · rw [hl]
      rcases List.mem_append.1 hi with hi | hi
      · obtain ⟨q1, q2⟩ := hg.ok (Int.le_refl 0) (by omega) (by omega) i hi
        exact ⟨q1, fun e => by have := q2 e; omega⟩
      · rw [List.mem_singleton] at hi
        subst hi
        exact ⟨by decide, fun e => by simp at e⟩
    · rw [hl]; simp [List.getD]
  refine ⟨hcode, ?_, by rw [hl]; omega, by rw [hl]; omega, ?_⟩
  · unfold regsV
    rw [if_pos hcode, mx13_append, hg.top]
    have e1 : mx13 [((10, 0, 0, 0, []) : In13)] = 1 := by decide
    rw [e1]
    omega
  · rw [List.countP_append]
    have : x.countP (fun i => i.1 == 10) = 0 := by
      rw [List.countP_eq_zero]
      intro i hi
      have := hg.noEnd i hi
      simpa using this
    rw [this]
    rfl
end Go.Proofs.YtogobeegibngiaaGreatDoor
