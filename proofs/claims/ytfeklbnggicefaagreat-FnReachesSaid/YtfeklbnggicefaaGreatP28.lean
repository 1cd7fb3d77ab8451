/-
  Parts of one proof, one behind the other: LawRe.
-/
import Derived.Test.YtfeklbnggicefaaGreatP27

/-! FnReaches, whole. -/
namespace Go.Proofs.YtfeklbnggicefaaGreat
open Go.RowKit

/-- What a list that is led to holds. -/
def LedIs (led : List (List UInt8)) (Q : List UInt8 → Prop) : Prop := ∀ x, x ∈ led ↔ Q x
def Seed8T (ps qs : List Pk) (o : List (List UInt8)) (s x : List UInt8) : Prop := x = s ∨ ∃ p ∈ qs, p.1 ∈ o ∧ x ∈ p.2.1 ∧ x ∈ names8 ps
theorem LedIs.congr {led : List (List UInt8)} {Q R : List UInt8 → Prop} (h : LedIs led Q) (e : ∀ x, Q x ↔ R x) : LedIs led R := fun x => (h x).trans (e x)
theorem ps_take (ps : List Pk) {i : Nat} (hi : i < ps.length) : ps.take (i + 1) = ps.take i ++ [ps.getD i pk0] := by
  rw [List.take_succ_eq_append_getElem hi]; simp [List.getD, hi]
theorem seedT_zero (ps : List Pk) (o : List (List UInt8)) (s : List UInt8) : LedIs [s] (Seed8T ps (ps.take 0) o s) := fun x => by
  rw [List.mem_singleton]
  exact ⟨fun e => Or.inl e, fun h => h.elim id (fun ⟨p, hp, _⟩ => by simp at hp)⟩
theorem seedT_skip {ps : List Pk} {o : List (List UInt8)} {s : List UInt8} {i : Nat} (hi : i < ps.length) (hn : ¬ (ps.getD i pk0).1 ∈ o) (x : List UInt8) : Seed8T ps (ps.take i) o s x ↔ Seed8T ps (ps.take (i + 1)) o s x := by
  unfold Seed8T
  rw [ps_take ps hi]
  constructor
  · rintro (e | ⟨p, hp, h⟩)
    · exact Or.inl e
    · exact Or.inr ⟨p, List.mem_append_left _ hp, h⟩
  · rintro (e | ⟨p, hp, h⟩)
    · exact Or.inl e
    · rw [List.mem_append, List.mem_singleton] at hp
      rcases hp with hp | hp
      · exact Or.inr ⟨p, hp, h⟩
      · subst hp; exact absurd h.1 hn
theorem seedT_step {ps : List Pk} {o : List (List UInt8)} {s : List UInt8} {i : Nat} (hi : i < ps.length) (hn : (ps.getD i pk0).1 ∈ o) (x : List UInt8) : (Seed8T ps (ps.take i) o s x ∨ (x ∈ (ps.getD i pk0).2.1 ∧ x ∈ names8 ps)) ↔ Seed8T ps (ps.take (i + 1)) o s x := by
  unfold Seed8T
  rw [ps_take ps hi]
  constructor
  · rintro ((e | ⟨p, hp, h⟩) | h)
    · exact Or.inl e
    · exact Or.inr ⟨p, List.mem_append_left _ hp, h⟩
    · exact Or.inr ⟨_, by simp, hn, h⟩
  · rintro (e | ⟨p, hp, h⟩)
    · exact Or.inl (Or.inl e)
    · rw [List.mem_append, List.mem_singleton] at hp
      rcases hp with hp | hp
      · exact Or.inl (Or.inr ⟨p, hp, h⟩)
      · subst hp; exact Or.inr h.2
theorem led_imp {Q : List UInt8 → Prop} {ps : List Pk} {ims : List (List UInt8)} {k : Nat} (hk : k < ims.length) (x : List UInt8) :
    ((Q x ∨ (x ∈ ims.take k ∧ x ∈ names8 ps)) ∨ (x = ims.getD k [] ∧ ims.getD k [] ∈ names8 ps)) ↔ (Q x ∨ (x ∈ ims.take (k + 1) ∧ x ∈ names8 ps)) := by
  have e : ims.getD k [] = ims[k] := by simp [List.getD, hk]
  rw [List.take_succ_eq_append_getElem hk, ← e, List.mem_append, List.mem_singleton]
  constructor
  · rintro ((h | h) | ⟨h1, h2⟩)
    · exact Or.inl h
    · exact Or.inr ⟨Or.inl h.1, h.2⟩
    · exact Or.inr ⟨Or.inr h1, by rw [h1]; exact h2⟩
  · rintro (h | ⟨h1 | h1, h2⟩)
    · exact Or.inl (Or.inl h)
    · exact Or.inl (Or.inr ⟨h1, h2⟩)
    · exact Or.inr ⟨h1, by rw [← h1]; exact h2⟩
theorem led_name_no {Q : List UInt8 → Prop} {ps : List Pk} {m : List UInt8} {j : Nat} (hj : j < ps.length) (hn : (ps.getD j pk0).1 ≠ m) (x : List UInt8) :
    (Q x ∨ (x = m ∧ m ∈ (names8 ps).take j)) ↔ (Q x ∨ (x = m ∧ m ∈ (names8 ps).take (j + 1))) := by
  rw [names8_take ps j hj, List.mem_append, List.mem_singleton]
  constructor
  · rintro (h | ⟨h1, h2⟩)
    · exact Or.inl h
    · exact Or.inr ⟨h1, Or.inl h2⟩
  · rintro (h | ⟨h1, h2 | h2⟩)
    · exact Or.inl h
    · exact Or.inr ⟨h1, h2⟩
    · exact absurd h2.symm hn
theorem led_name_yes {led : List (List UInt8)} {Q : List UInt8 → Prop} {ps : List Pk} {m : List UInt8} {j : Nat} (hj : j < ps.length) (hn : (ps.getD j pk0).1 = m) (h : LedIs led (fun x => Q x ∨ (x = m ∧ m ∈ (names8 ps).take j))) :
    LedIs (led ++ [m]) (fun x => Q x ∨ (x = m ∧ m ∈ (names8 ps).take (j + 1))) := fun x => by
  rw [names8_take ps j hj, List.mem_append, List.mem_singleton, List.mem_append, List.mem_singleton, h x]
  constructor
  · rintro ((h | ⟨h1, h2⟩) | h)
    · exact Or.inl h
    · exact Or.inr ⟨h1, Or.inl h2⟩
    · exact Or.inr ⟨h, Or.inr hn.symm⟩
  · rintro (h | ⟨h1, _⟩)
    · exact Or.inl (Or.inl h)
    · exact Or.inr h1

set_option maxHeartbeats 8000000 in
set_option maxRecDepth 100000 in
theorem lawReaches (w : World) (a : Option Addr) (len cap : Nat) (hcode : Code w w.heap.size a len) :
    Calls Tryz.prog 3 #[.slice a len cap] w fun e w' => e = .returned (.bool true) ∧ Below w.heap.size w w' := by
  by_cases hbig : 4096 < (len : Int)
  · have hd : decide (4096 < (len : Int)) = true := decide_eq_true hbig
    go_enter Tryz.func3, Tryz.ntmps3
    go_wp2_with (go_at_call 4; refine (bigB _ _ _ _).mono ?_; rintro e w' ⟨rfl, rfl⟩)
    go_ret
    exact ⟨rfl, Below.refl _ _⟩
  · have hd : decide (4096 < (len : Int)) = false := decide_eq_false hbig
    go_enter Tryz.func3, Tryz.ntmps3
    go_wp2_with fail
    refine (bigB _ _ _ _).mono ?_
    rintro e w1 ⟨rfl, hw1⟩
    obtain rfl := hw1.symm
    go_wp2_with fail
    refine (drawReaches8 _ _ _ _ (by omega) hcode).mono ?_
    rintro e w2 ⟨v, s, rfl, hsl, la, n, lc, ps, rfl, hn, hok, hB2⟩
    have HOK2 : Hid (PkgsOk w2 la n lc ps) := hok
    clear hok hcode
    go_wp2_with fail
    refine (implReaches la n lc ps s w2 HOK2.out (by omega)).mono ?_
    rintro e w3 ⟨v3, rfl, ho3, hb3⟩
    obtain ⟨R, hR⟩ : ∃ R, reachV ps s = R := ⟨_, rfl⟩
    have HR : Hid (reachV ps s = R) := hR
    have hRl : R.length ≤ 8 := by rw [← hR]; exact reachV_len ps s
    rw [hR] at ho3
    have HOK3 : Hid (PkgsOk w3 la n lc ps) := HOK2.out.below hb3
    have hB3 := hB2.trans (hb3.mono hB2.size)
    obtain ⟨_, ra, rc, rfl, hin3⟩ := own_texts ho3
    clear hR hb3 HOK2 hB2 ho3
    go_wp2_with fail
    refine (implNeeds la n lc ps s w3 HOK3.out (by omega)).mono ?_
    rintro e w4 ⟨v4, rfl, ho4, hb4⟩
    obtain ⟨N, hN⟩ : ∃ N, needV ps s = N := ⟨_, rfl⟩
    have HN : Hid (needV ps s = N) := hN
    have hNl : N.length ≤ 8 := by rw [← hN]; exact needV_len ps s
    rw [hN] at ho4
    have HOK4 : Hid (PkgsOk w4 la n lc ps) := HOK3.out.below hb4
    have hB4 := hB3.trans (hb4.mono hB3.size)
    have hin4 := hin3.below hb4
    obtain ⟨_, na, nc, rfl, hnn4⟩ := own_texts ho4
    clear hN hb4 HOK3 hB3 hin3 ho4
    go_wp2_with fail
    refine (specReaches la n lc ps s w4 HOK4.out.in HOK4.out.small HOK4.out.short).mono ?_
    rintro e w5 ⟨v5, rfl, ho5, hb5⟩
    rw [HR.out] at ho5
    have HOK5 : Hid (PkgsOk w5 la n lc ps) := HOK4.out.below hb5
    have hB5 := hB4.trans (hb5.mono hB4.size)
    have hin5 := hin4.below hb5
    have hnn5 := hnn4.below hb5
    obtain ⟨_, ra5, rc5, rfl, hq5⟩ := own_texts ho5
    clear hb5 HOK4 hB4 hin4 hnn4 ho5
    go_wp2_with fail
    refine (likeTexts8 ra ra5 R.length rc rc5 R w5 hin5 hq5 (by omega)).mono ?_
    rintro e w6 ⟨rfl, hb6⟩
    have HOK6 : Hid (PkgsOk w6 la n lc ps) := HOK5.out.below hb6
    have hB6 := hB5.trans (hb6.mono hB5.size)
    have hin6 := hin5.below hb6
    have hnn6 := hnn5.below hb6
    clear hb6 HOK5 hB5 hin5 hnn5 hq5
    go_wp2_with fail
    refine (specNeeds la n lc ps s w6 HOK6.out.in HOK6.out.small HOK6.out.short).mono ?_
    rintro e w7 ⟨v7, rfl, ho7, hb7⟩
    rw [HN.out] at ho7
    have HOK7 : Hid (PkgsOk w7 la n lc ps) := HOK6.out.below hb7
    have hB7 := hB6.trans (hb7.mono hB6.size)
    have hin7 := hin6.below hb7
    have hnn7 := hnn6.below hb7
    obtain ⟨_, na7, nc7, rfl, hq7⟩ := own_texts ho7
    clear hb7 HOK6 hB6 hin6 hnn6 ho7
    go_wp2_with fail
    refine (likeTexts8 na na7 N.length nc nc7 N w7 hnn7 hq7 (by omega)).mono ?_
    rintro e w8 ⟨rfl, hb8⟩
    have HOK8 : Hid (PkgsOk w8 la n lc ps) := HOK7.out.below hb8
    have hB8 := hB7.trans (hb8.mono hB7.size)
    have hin8 := hin7.below hb8
    have hnn8 := hnn7.below hb8
    clear hb8 HOK7 hB7 hin7 hnn7 hq7
    have hrs : riseB R = true := by
      rw [← HR.out]
      unfold reachV
      split
      · rename_i h
        exact rise_to (reach8_end (here_parts h).2).1.rise
      · rfl
    have HRs : Hid (_) := lawRises ra R.length rc R w8 hin8 (by omega)
    rw [hrs] at HRs
    clear hrs
    go_wp2_with fail
    refine Calls.mono HRs.out ?_
    rintro e V ⟨rfl, hb9⟩
    have HBV : Hid (Below w.heap.size w V) := hB8.trans (hb9.mono hB8.size)
    have HOKV : Hid (PkgsOk V la n lc ps) := HOK8.out.below hb9
    have HRV : Hid (TextsIn V ra R.length R) := hin8.below hb9
    have HNV : Hid (TextsIn V na N.length N) := hnn8.below hb9
    clear hb9 HOK8 hB8 hin8 hnn8 HRs
    rcases hhe : hereB ps s with _ | _
    · have e0 : R = [] := by rw [← HR.out]; unfold reachV; rw [if_neg (by rw [hhe]; simp)]
      have e1 : N = [] := by rw [← HN.out]; unfold needV; rw [if_neg (by rw [hhe]; simp)]
      subst e0
      subst e1
      go_wp2
      go_ret
      exact ⟨rfl, HBV.out⟩
    · obtain ⟨hpj, hsn⟩ := here_parts hhe
      have eR : reach8 ps s = R := by rw [← HR.out]; unfold reachV; rw [if_pos hhe]
      have eN : need8 ps s = N := by rw [← HN.out]; unfold needV; rw [if_pos hhe]
      have HSeed : Hid (∀ x, Seed8 ps R s x ↔ x ∈ R) := fun x => by rw [← eR]; exact seed8_law hsn x
      have HNeed : Hid (N = (order8 ps).filter (fun x => decide (x ≠ s ∧ x ∈ R))) := by exact (by rw [← eN, ← eR]; rfl : N = (order8 ps).filter (fun x => decide (x ≠ s ∧ x ∈ R)))
      have HOv : Hid (orderV ps = order8 ps) := by exact (by unfold orderV; rw [if_pos hpj] : orderV ps = order8 ps)
      have HPk : Hid (∀ i, i < ps.length → (ps.getD i pk0).2.1.length ≤ 6) := fun i hi => (ims_nodup hpj hi).2
      have hR0 : R.length ≠ 0 := fun e => by
        have := (reach8_end hsn).1.self
        rw [eR, List.eq_nil_of_length_eq_zero e] at this
        simp at this
      have hRz : ¬ (R.length : Int) = 0 := by omega
      have hRb : ((R.length : Int) == 0) = false := beq_eq_false_iff_ne.2 hRz
      obtain rfl : ps.length = n := HOKV.out.hlen
      have HL0 : Hid ((V.alloc (.cells #[.string ⟨s.toArray⟩] 9)).ownsRow V.heap.size 9 1 (.slice (some ⟨V.heap.size, 0, none⟩) 1 1) 1 (strV [s])) := World.ownsRow_lit (base := V.heap.size) (e := 9) (size := 1) V #[.string ⟨s.toArray⟩] 1 (Nat.le_refl _) (by decide) rfl
      have HB0 : Hid (Below V.heap.size V (V.alloc (.cells #[.string ⟨s.toArray⟩] 9))) := (Below.refl _ _).alloc (Nat.le_refl _) _
      have HQ0 : Hid (LedIs [s] (Seed8T ps (ps.take 0) R s)) := seedT_zero ps R s
      clear hhe hpj hsn eR eN HR HN
      go_wp2
      go_loopw [7, 8] (fun dv iv wx => ∃ (i m : Nat) (da : Option Addr) (dc : Nat) (led : List (List UInt8)), dv = .slice da m dc ∧ iv = .int .i64 (i : Int) ∧ i ≤ ps.length ∧ m ≤ 1 + 48 * i ∧ Hid (wx.ownsRow V.heap.size 9 1 (.slice da m dc) m (strV led)) ∧ Hid (LedIs led (Seed8T ps (ps.take i) R s)) ∧ Hid (Below V.heap.size V wx)) (fun _ iv _ => ps.length - (intOf iv).toNat)
      case atStart => exact ⟨0, 1, _, 1, [s], rfl, rfl, by omega, by omega, HL0, HQ0, HB0⟩
      case round =>
        obtain ⟨i, m, da, dc, led, rfl, rfl, hi, hm, HL, HQ, HB⟩ := hrel
        clear HL0 HB0 HQ0
        by_cases hil : (i : Int) < (ps.length : Int)
        · have hi2 : i < ps.length := by omega
          obtain ⟨X, hX⟩ : ∃ X, X = wr := ⟨_, rfl⟩
          subst hX
          have hok := HOKV.out.below HB.out
          obtain ⟨b, off, rfl, hbl, c0, ia, il, ic, fa, fl, fc, c1, _, hpk⟩ := hok.each i hi2
          have hil6 := HPk.out i hi2
          have hti := hpk.i
          obtain ⟨x, hx⟩ : ∃ x, (ps.getD i pk0).1 = x := ⟨_, rfl⟩
          obtain ⟨ims, hims⟩ : ∃ ims, (ps.getD i pk0).2.1 = ims := ⟨_, rfl⟩
          have HSk : Hid (¬ x ∈ R → ∀ y, Seed8T ps (ps.take i) R s y ↔ Seed8T ps (ps.take (i + 1)) R s y) := fun h y => seedT_skip hi2 (by rw [hx]; exact h) y
          have HSt : Hid (x ∈ R → ∀ y, (Seed8T ps (ps.take i) R s y ∨ (y ∈ ims ∧ y ∈ names8 ps)) ↔ Seed8T ps (ps.take (i + 1)) R s y) := fun h y => by rw [← hims]; exact seedT_step hi2 (by rw [hx]; exact h) y
          rw [hx] at c0
          rw [hims] at hti hil6
          obtain rfl : ims.length = il := hti.1
          have HC : Hid (_) := lawHas ra R.length rc R x X (HRV.out.below HB.out) (by omega)
          have HCell : Hid (∀ Z, Below V.heap.size V Z → Z.cell? ⟨b, off + i * 3 + 1, none⟩ = some (.slice ia ims.length ic) ∧ TextsIn Z ia ims.length ims ∧ ∀ j, j < ps.length → Z.cell? ⟨b, off + j * 3, none⟩ = some (.string ⟨(ps.getD j pk0).1.toArray⟩)) := fun Z hZ => by
            have hokz := HOKV.out.below hZ
            obtain ⟨b', off', he, _, _, ia', il', ic', fa', fl', fc', c1', _, hpk'⟩ := hokz.each i hi2
            simp only [Option.some.injEq, Addr.mk.injEq, and_true] at he
            obtain ⟨rfl, rfl⟩ := he
            obtain ⟨b0, off0, he0, hbl0, _, ia0, il0, ic0, fa0, fl0, fc0, c10, _, hpk0⟩ := HOKV.out.each i hi2
            simp only [Option.some.injEq, Addr.mk.injEq, and_true] at he0
            obtain ⟨rfl, rfl⟩ := he0
            have e1 : (some (.slice ia0 il0 ic0) : Option Value) = some (.slice ia ims.length ic) := by rw [← c10, ← c1]; exact ((HB.out).cell (p := ⟨b, off + i * 3 + 1, none⟩) hbl0).symm
            injection e1 with e1
            injection e1 with e1 e2 e3
            subst e1
            subst e2
            subst e3
            refine ⟨(hZ.cell (p := ⟨b, off + i * 3 + 1, none⟩) hbl0).trans c10, by have h0 := hpk0.i.below hZ; rw [hims] at h0; exact h0, fun j hj => ?_⟩
            obtain ⟨b2, off2, he2, _, c02, _⟩ := hokz.each j hj
            simp only [Option.some.injEq, Addr.mk.injEq, and_true] at he2
            obtain ⟨rfl, rfl⟩ := he2
            exact c02
          clear hok hpk hti hx hims
          by_cases hxr : x ∈ R
          · rw [decide_eq_true hxr] at HC
            have HSt2 : Hid (∀ y, (Seed8T ps (ps.take i) R s y ∨ (y ∈ ims ∧ y ∈ names8 ps)) ↔ Seed8T ps (ps.take (i + 1)) R s y) := HSt.out hxr
            have HQk : Hid (LedIs led (fun y => Seed8T ps (ps.take i) R s y ∨ (y ∈ ims.take 0 ∧ y ∈ names8 ps))) := HQ.out.congr (fun y => ⟨Or.inl, fun h => h.elim id (fun h => by simp at h)⟩)
            clear hxr HSk HSt HQ
            go_wp2_with (go_at_call 12; refine Calls.mono HC.out ?_; rintro e w9 ⟨rfl, hw9⟩; obtain rfl := hw9.symm)
            clear c0 c1
            go_loopw [7, 9] (fun dv kv wx => ∃ (k m : Nat) (da : Option Addr) (dc : Nat) (led : List (List UInt8)), dv = .slice da m dc ∧ kv = .int .i64 (k : Int) ∧ k ≤ ims.length ∧ m ≤ 1 + 48 * i + 8 * k ∧ Hid (wx.ownsRow V.heap.size 9 1 (.slice da m dc) m (strV led)) ∧ Hid (LedIs led (fun y => Seed8T ps (ps.take i) R s y ∨ (y ∈ ims.take k ∧ y ∈ names8 ps))) ∧ Hid (Below V.heap.size V wx)) (fun _ kv _ => ims.length - (intOf kv).toNat)
            case atStart => exact ⟨0, m, _, dc, led, rfl, rfl, by omega, by omega, HL, HQk, HB⟩
            case round =>
              obtain ⟨k, m, da, dc, led, rfl, rfl, hk, hm, HL, HQ, HB⟩ := hrel
              clear HQk
              obtain ⟨c1, hti, _⟩ := HCell.out wr HB.out
              by_cases hkl : (k : Int) < (ims.length : Int)
              · have hk2 : k < ims.length := by omega
                obtain ⟨bi, oi, rfl, _, d0⟩ := hti.2 k hk2
                have himp := led_imp (Q := Seed8T ps (ps.take i) R s) (ps := ps) hk2
                obtain ⟨q, hq⟩ : ∃ q, ims.getD k [] = q := ⟨_, rfl⟩
                rw [hq] at d0 himp
                have HImp : Hid (∀ y, ((Seed8T ps (ps.take i) R s y ∨ (y ∈ ims.take k ∧ y ∈ names8 ps)) ∨ (y = q ∧ q ∈ names8 ps)) ↔ (Seed8T ps (ps.take i) R s y ∨ (y ∈ ims.take (k + 1) ∧ y ∈ names8 ps))) := himp
                have HQj : Hid (LedIs led (fun y => (Seed8T ps (ps.take i) R s y ∨ (y ∈ ims.take k ∧ y ∈ names8 ps)) ∨ (y = q ∧ q ∈ (names8 ps).take 0))) := HQ.out.congr (fun y => ⟨Or.inl, fun h => h.elim id (fun h => by simp at h)⟩)
                clear himp hq HQ hti
                go_wp2
                clear c1 d0
                go_loopw [7, 11] (fun dv jv wx => ∃ (j m : Nat) (da : Option Addr) (dc : Nat) (led : List (List UInt8)), dv = .slice da m dc ∧ jv = .int .i64 (j : Int) ∧ j ≤ ps.length ∧ m ≤ 1 + 48 * i + 8 * k + j ∧ Hid (wx.ownsRow V.heap.size 9 1 (.slice da m dc) m (strV led)) ∧ Hid (LedIs led (fun y => (Seed8T ps (ps.take i) R s y ∨ (y ∈ ims.take k ∧ y ∈ names8 ps)) ∨ (y = q ∧ q ∈ (names8 ps).take j))) ∧ Hid (Below V.heap.size V wx)) (fun _ jv _ => ps.length - (intOf jv).toNat)
                case atStart => exact ⟨0, m, _, dc, led, rfl, rfl, by omega, by omega, HL, HQj, HB⟩
                case round =>
                  obtain ⟨j, m, da, dc, led, rfl, rfl, hj, hm, HL, HQ, HB⟩ := hrel
                  clear HQj
                  by_cases hjl : (j : Int) < (ps.length : Int)
                  · have hj2 : j < ps.length := by omega
                    have d1 := (HCell.out wr HB.out).2.2 j hj2
                    obtain ⟨y, hy⟩ : ∃ y, (ps.getD j pk0).1 = y := ⟨_, rfl⟩
                    rw [hy] at d1
                    by_cases hyq : y = q
                    · have HQ2 : Hid (LedIs (led ++ [q]) (fun z => (Seed8T ps (ps.take i) R s z ∨ (z ∈ ims.take k ∧ z ∈ names8 ps)) ∨ (z = q ∧ q ∈ (names8 ps).take (j + 1)))) := led_name_yes hj2 (by rw [hy]; exact hyq) HQ.out
                      subst hyq
                      have hself : (y == y) = true := by simp
                      obtain ⟨v', Y, hr, ho, hg⟩ := push_text y HL.out HB.out.size (by omega)
                      obtain ⟨g', c', rfl⟩ := own_some ho (by omega)
                      have HLY : Hid (Y.ownsRow V.heap.size 9 1 (.slice (some ⟨g', 0, none⟩) (m + 1) c') (m + 1) (strV (led ++ [y]))) := ho
                      have HBY : Hid (Below V.heap.size V Y) := HB.out.grown hg HB.out.size (fun q e => (HL.out.lt q e).1)
                      clear hy ho hg
                      go_wp2_with (at_builtin; refine wpList_append_run rfl (.tmp 102) (.tmp 104) 27 rfl _ _ _ rfl rfl hr ?_; clear hr)
                      go_roundw
                      case rel => exact ⟨j + 1, m + 1, _, c', led ++ [y], rfl, by go_num, by omega, by omega, HLY, HQ2, HBY⟩
                      case measure => simp [intOf]; omega
                    · have HQ2 : Hid (LedIs led (fun z => (Seed8T ps (ps.take i) R s z ∨ (z ∈ ims.take k ∧ z ∈ names8 ps)) ∨ (z = q ∧ q ∈ (names8 ps).take (j + 1)))) := HQ.out.congr (led_name_no hj2 (by rw [hy]; exact hyq))
                      have hne : (y == q) = false := beq_eq_false_iff_ne.2 hyq
                      clear hy
                      go_wp2
                      go_roundw
                      case rel => exact ⟨j + 1, m, da, dc, led, rfl, by go_num, by omega, by omega, HL, HQ2, HB⟩
                      case measure => simp [intOf]; omega
                  · have HQ2 : Hid (LedIs led (fun z => Seed8T ps (ps.take i) R s z ∨ (z ∈ ims.take (k + 1) ∧ z ∈ names8 ps))) := (HQ.out.congr (fun z => by rw [show (names8 ps).take j = names8 ps from List.take_of_length_le (by simp [names8]; omega)])).congr HImp.out
                    go_wp2
                    go_roundw
                    case rel => exact ⟨k + 1, m, da, dc, led, rfl, by go_num, by omega, by omega, HL, HQ2, HB⟩
                    case measure => simp [intOf]; omega
              · have HQ2 : Hid (LedIs led (Seed8T ps (ps.take (i + 1)) R s)) := (HQ.out.congr (fun z => by rw [show ims.take k = ims from List.take_of_length_le (by omega)])).congr HSt2.out
                clear hti
                go_wp2
                go_roundw
                case rel => exact ⟨i + 1, m, da, dc, led, rfl, by go_num, by omega, by omega, HL, HQ2, HB⟩
                case measure => simp [intOf]; omega
          · rw [decide_eq_false hxr] at HC
            have HQ2 : Hid (LedIs led (Seed8T ps (ps.take (i + 1)) R s)) := HQ.out.congr (HSk.out hxr)
            clear hxr HSk HSt HQ
            go_wp2_with (go_at_call 12; refine Calls.mono HC.out ?_; rintro e w9 ⟨rfl, hw9⟩; obtain rfl := hw9.symm)
            go_roundw
            case rel => exact ⟨i + 1, m, da, dc, led, rfl, by go_num, by omega, by omega, HL, HQ2, HB⟩
            case measure => simp [intOf]; omega
        · obtain ⟨X, hX⟩ : ∃ X, X = wr := ⟨_, rfl⟩
          subst hX
          have HLed : Hid (∀ x, x ∈ led ↔ x ∈ R) := fun x => by
            have h1 := HQ.out x
            rw [List.take_of_length_le (show ps.length ≤ i by omega)] at h1
            exact h1.trans (HSeed.out x)
          obtain ⟨hll, da', dc', he, hlin⟩ := own_texts HL.out
          injection he with e1 _ e3
          subst e1
          subst e3
          have HLi : Hid (TextsIn X da m led) := hlin
          have HLl : Hid (led.length = m) := hll
          have HRX : Hid (TextsIn X ra R.length R) := HRV.out.below HB.out
          have HNX : Hid (TextsIn X na N.length N) := HNV.out.below HB.out
          have HOKX : Hid (PkgsOk X la ps.length lc ps) := HOKV.out.below HB.out
          have HBX : Hid (Below w.heap.size w X) := HBV.out.trans (HB.out.mono HBV.out.size)
          have hm2 : m ≤ 1048576 := by omega
          clear HQ HL hll hlin HB HRV HNV HOKV HBV HSeed HPk
          go_wp2
          go_loopw [12] (fun iv wx => ∃ k : Nat, iv = .int .i64 (k : Int) ∧ k ≤ m ∧ wx = X) (fun iv _ => m - (intOf iv).toNat)
          case atStart => exact ⟨0, rfl, by omega, rfl⟩
          case round =>
            obtain ⟨k, rfl, hk, hwx⟩ := hrel
            obtain rfl := hwx.symm
            by_cases hkm : (k : Int) < (m : Int)
            · have hk2 : k < m := by omega
              obtain ⟨bd, od, rfl, _, d0⟩ := HLi.out.2 k hk2
              have hin : led.getD k [] ∈ R := (HLed.out _).1 (by rw [List.getD_eq_getElem?_getD, List.getElem?_eq_getElem (by rw [HLl.out]; exact hk2)]; exact List.getElem_mem _)
              obtain ⟨x, hx⟩ : ∃ x, led.getD k [] = x := ⟨_, rfl⟩
              rw [hx] at d0 hin
              have HC : Hid (_) := lawHas ra R.length rc R x X HRX.out (by omega)
              rw [decide_eq_true hin] at HC
              clear hin hx
              go_wp2_with (go_at_call 12; refine Calls.mono HC.out ?_; rintro e w9 ⟨rfl, hw9⟩; obtain rfl := hw9.symm)
              go_roundw
              case rel => exact ⟨k + 1, by go_num, by omega, trivial⟩
              case measure => simp [intOf]; omega
            · go_wp2
              go_loopw [13] (fun iv wx => ∃ k : Nat, iv = .int .i64 (k : Int) ∧ k ≤ R.length ∧ wx = X) (fun iv _ => R.length - (intOf iv).toNat)
              case atStart => exact ⟨0, rfl, by omega, rfl⟩
              case round =>
                obtain ⟨k2, rfl, hk2, hwx⟩ := hrel
                obtain rfl := hwx.symm
                by_cases hkr : (k2 : Int) < (R.length : Int)
                · have hk3 : k2 < R.length := by omega
                  obtain ⟨bd, od, rfl, _, d0⟩ := HRX.out.2 k2 hk3
                  have hin : R.getD k2 [] ∈ led := (HLed.out _).2 (by rw [List.getD_eq_getElem?_getD, List.getElem?_eq_getElem hk3]; exact List.getElem_mem _)
                  obtain ⟨x, hx⟩ : ∃ x, R.getD k2 [] = x := ⟨_, rfl⟩
                  rw [hx] at d0 hin
                  have HC : Hid (_) := lawHas da m dc led x X HLi.out (by omega)
                  rw [decide_eq_true hin] at HC
                  clear hin hx
                  go_wp2_with (go_at_call 12; refine Calls.mono HC.out ?_; rintro e w9 ⟨rfl, hw9⟩; obtain rfl := hw9.symm)
                  go_roundw
                  case rel => exact ⟨k2 + 1, by go_num, by omega, trivial⟩
                  case measure => simp [intOf]; omega
                · have HO : Hid (_) := specOrder la ps.length lc ps X HOKX.out.in HOKX.out.small HOKX.out.short
                  rw [HOv.out] at HO
                  have hol := orderV_len ps
                  rw [HOv.out] at hol
                  obtain ⟨O, hO⟩ : ∃ O, order8 ps = O := ⟨_, rfl⟩
                  rw [hO] at HO hol
                  have HNe : Hid (N = O.filter (fun x => decide (x ≠ s ∧ x ∈ R))) := by exact (by rw [HNeed.out, hO] : N = O.filter (fun x => decide (x ≠ s ∧ x ∈ R)))
                  clear hO HNeed HOv
                  go_wp2_with fail
                  refine Calls.mono HO.out ?_
                  rintro e Y ⟨vo, rfl, hoY, hbY⟩
                  obtain ⟨_, oa, oc, rfl, hoin⟩ := own_texts hoY
                  have HOY : Hid (TextsIn Y oa O.length O) := hoin
                  have HRY : Hid (TextsIn Y ra R.length R) := HRX.out.below hbY
                  have HNY : Hid (TextsIn Y na N.length N) := HNX.out.below hbY
                  have HBY : Hid (Below w.heap.size w Y) := HBX.out.trans (hbY.mono HBX.out.size)
                  have HW0 : Hid ((Y.alloc (.cells #[] 9)).ownsRow Y.heap.size 9 1 (.slice (some ⟨Y.heap.size, 0, none⟩) 0 0) 0 (strV ((O.take 0).filter (fun x => decide (x ≠ s ∧ x ∈ R))))) := World.ownsRow_lit (base := Y.heap.size) (e := 9) (size := 1) Y #[] 0 (Nat.le_refl _) (by decide) rfl
                  have HB0 : Hid (Below Y.heap.size Y (Y.alloc (.cells #[] 9))) := (Below.refl _ _).alloc (Nat.le_refl _) _
                  clear hoY hbY hoin HO HRX HNX HBX HOKX HLi HLed HLl
                  go_wp2
                  go_loopw [15, 16] (fun tv iv wx => ∃ (k m : Nat) (ta : Option Addr) (tc : Nat) (W : List (List UInt8)), tv = .slice ta m tc ∧ iv = .int .i64 (k : Int) ∧ k ≤ O.length ∧ m ≤ k ∧ Hid ((O.take k).filter (fun x => decide (x ≠ s ∧ x ∈ R)) = W) ∧ Hid (wx.ownsRow Y.heap.size 9 1 (.slice ta m tc) m (strV W)) ∧ Hid (Below Y.heap.size Y wx)) (fun _ iv _ => O.length - (intOf iv).toNat)
                  case atStart => exact ⟨0, 0, _, 0, [], rfl, rfl, by omega, by omega, rfl, HW0, HB0⟩
                  case round =>
                    obtain ⟨k, m, ta, tc, W, rfl, rfl, hk, hmk, HF, HW, HB⟩ := hrel
                    clear HW0 HB0
                    by_cases hkl : (k : Int) < (O.length : Int)
                    · have hk2 : k < O.length := by omega
                      obtain ⟨bo, oo, rfl, _, d0⟩ := (HOY.out.below HB.out).2 k hk2
                      have hft := filter8_take O (fun x => decide (x ≠ s ∧ x ∈ R)) k hk2
                      rw [HF.out] at hft
                      obtain ⟨x, hx⟩ : ∃ x, O.getD k [] = x := ⟨_, rfl⟩
                      rw [hx] at d0 hft
                      have HC : Hid (_) := lawHas ra R.length rc R x wr (HRY.out.below HB.out) (by omega)
                      clear hx
                      by_cases hxr : x ∈ R
                      · rw [decide_eq_true hxr] at HC
                        by_cases hxs : x = s
                        · subst hxs
                          rw [if_neg (by simp), List.append_nil] at hft
                          have HF2 : Hid ((O.take (k + 1)).filter (fun y => decide (y ≠ x ∧ y ∈ R)) = W) := hft
                          have hne : (x != x) = false := by simp
                          have hne2 : (x == x) = true := by simp
                          clear hft hxr
                          go_wp2_with (go_at_call 12; refine Calls.mono HC.out ?_; rintro e w9 ⟨rfl, hw9⟩; obtain rfl := hw9.symm)
                          go_roundw
                          case rel => exact ⟨k + 1, m, ta, tc, W, rfl, by go_num, by omega, by omega, HF2, HW, HB⟩
                          case measure => simp [intOf]; omega
                        · rw [if_pos (by simp [hxs, hxr])] at hft
                          have HF2 : Hid ((O.take (k + 1)).filter (fun y => decide (y ≠ s ∧ y ∈ R)) = W ++ [x]) := hft
                          have hne : (x != s) = true := by rw [bne_iff_ne]; exact hxs
                          have hne2 : (x == s) = false := beq_eq_false_iff_ne.2 hxs
                          have hne3 : ¬ x = s := hxs
                          obtain ⟨v', Y2, hr, ho, hg⟩ := push_text x HW.out HB.out.size (by omega)
                          obtain ⟨g', c', rfl⟩ := own_some ho (by omega)
                          have HWY : Hid (Y2.ownsRow Y.heap.size 9 1 (.slice (some ⟨g', 0, none⟩) (m + 1) c') (m + 1) (strV (W ++ [x]))) := ho
                          have HBY2 : Hid (Below Y.heap.size Y Y2) := HB.out.grown hg HB.out.size (fun q e => (HW.out.lt q e).1)
                          clear hft hxr hxs ho hg
                          go_wp2_with (first | (go_at_call 12; refine Calls.mono HC.out ?_; rintro e w9 ⟨rfl, hw9⟩; obtain rfl := hw9.symm) | (at_builtin; refine wpList_append_run rfl (.tmp 155) (.tmp 160) 27 rfl _ _ _ rfl rfl hr ?_; clear hr))
                          go_roundw
                          case rel => exact ⟨k + 1, m + 1, _, c', W ++ [x], rfl, by go_num, by omega, by omega, HF2, HWY, HBY2⟩
                          case measure => simp [intOf]; omega
                      · rw [decide_eq_false hxr] at HC
                        rw [if_neg (by simp [hxr]), List.append_nil] at hft
                        have HF2 : Hid ((O.take (k + 1)).filter (fun y => decide (y ≠ s ∧ y ∈ R)) = W) := hft
                        clear hft hxr
                        go_wp2_with (go_at_call 12; refine Calls.mono HC.out ?_; rintro e w9 ⟨rfl, hw9⟩; obtain rfl := hw9.symm)
                        go_roundw
                        case rel => exact ⟨k + 1, m, ta, tc, W, rfl, by go_num, by omega, by omega, HF2, HW, HB⟩
                        case measure => simp [intOf]; omega
                    · have hWN : N = W := by rw [HNe.out, ← HF.out, show O.take k = O from List.take_of_length_le (by omega)]
                      subst hWN
                      obtain ⟨hml, ta', tc', he, htin⟩ := own_texts HW.out
                      injection he with e1 _ e3
                      subst e1
                      subst e3
                      subst hml
                      have HLk : Hid (_) := likeTexts8 na ta N.length nc tc N wr (HNY.out.below HB.out) htin (by omega)
                      clear htin
                      go_wp2_with fail
                      refine Calls.mono HLk.out ?_
                      rintro e Z ⟨rfl, hbz⟩
                      have HE : Hid (Below w.heap.size w Z) := by
                        have h1 := HBY.out.trans (HB.out.mono HBY.out.size)
                        exact h1.trans (hbz.mono h1.size)
                      clear hbz
                      go_wp2
                      go_ret
                      exact ⟨rfl, HE.out⟩

end Go.Proofs.YtfeklbnggicefaaGreat
