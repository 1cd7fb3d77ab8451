/-
  Parts of one proof, one behind the other: CallI, ErrJ, ErrK, ErrL, CheckS4.
-/
import Derived.Test.YtbojdcggnpdhcaaGreatDoorP26
import Derived.Test.YtbojdcggnpdhcaaGreatDoorP17
import Derived.Test.YtbojdcggnpdhcaaGreatDoorP16
import Derived.Test.YtbojdcggnpdhcaaGreatDoorP22
import Derived.Test.YtbojdcggnpdhcaaGreatDoorP21
import Derived.Deep.RegionWith
import Derived.Deep.Quiet
import Derived.Test.YtbojdcggnpdhcaaGreatDoorP15
import Derived.Laws.Rows
import Derived.Test.YtbojdcggnpdhcaaGreatDoorP3
import Derived.Test.YtbojdcggnpdhcaaGreatDoorP4

/-! The contracts of chapter 9's landed code: where a call goes, what is wrong with it, CallCode. -/
namespace Go.Proofs.YtbojdcggnpdhcaaGreatDoor
open Go.RowKit

/-- What callWrong hands back: nothing, or the error of that code. -/
def cwV (e : Nat → Addr) (c : Int) : Value := if c = 0 then .nilIface else sentV (e c.toNat)

set_option maxHeartbeats 2000000 in
set_option maxRecDepth 100000 in
theorem implPlaceCalled (a : Option Addr) (len cap : Nat) (ps : List Pk) (f : Nat) (q : List UInt8) (w : World) (h : PkgsOk w a len cap ps) (hf : f < len) :
    Calls Tryz.prog 102 #[.slice a len cap, .int .i64 (f : Int), .string ⟨q.toArray⟩] w fun e w' => e = .returned (.int .i64 (toV ps f q)) ∧ Below w.heap.size w w' := by
  obtain ⟨b, off, rfl, hbl, c0, ia, il, ic, fa, fl, fc, c1, c2, hpk⟩ := h.each f hf
  have hsm := h.small
  have hf2 : (f : Int) < (len : Int) := by omega
  have hilb := hpk.il
  have HP : Hid (_) := implPlacePk (some ⟨b, off, none⟩) len cap ps q w h.in h.small
  have HC : Hid (_) := containsStr ia il ic (imsAt ps f) q w hpk.i hpk.il
  obtain ⟨ov, hov⟩ : ∃ ov, toV ps f q = ov := ⟨_, rfl⟩
  have HV : Hid (toV ps f q = ov) := hov
  rw [hov]
  unfold toV at hov
  obtain ⟨x, hx⟩ : ∃ x, (ps.getD f pk0).1 = x := ⟨_, rfl⟩
  have hx2 : nmAt ps f = x := hx
  rw [hx] at c0
  rw [hx2] at hov
  clear hx hx2 hpk c2 h
  by_cases h1 : q = x
  · rw [if_pos h1] at hov
    have hb1 : (q == x) = true := by rw [h1]; simp
    subst hov
    go_enter Tryz.func102, Tryz.ntmps102
    go_wp2
    go_ret
    exact ⟨rfl, Below.refl _ _⟩
  · rw [if_neg h1] at hov
    have hb1 : (q == x) = false := by rw [beq_eq_false_iff_ne]; exact h1
    by_cases h2 : q ∈ imsAt ps f
    · rw [if_pos h2] at hov
      rw [decide_eq_true h2] at HC
      rw [hov] at HP
      clear hov h2 HV
      go_enter Tryz.func102, Tryz.ntmps102
      go_wp2_with fail
      refine Calls.mono HC.out ?_
      rintro e w1 ⟨rfl, hw1⟩
      obtain rfl := hw1.symm
      go_wp2_with fail
      refine Calls.mono HP.out ?_
      rintro e w2 ⟨rfl, hb2⟩
      go_wp2
      go_ret
      exact ⟨rfl, hb2⟩
    · rw [if_neg h2] at hov
      rw [decide_eq_false h2] at HC
      subst hov
      clear h2 HV
      go_enter Tryz.func102, Tryz.ntmps102
      go_wp2_with fail
      refine Calls.mono HC.out ?_
      rintro e w1 ⟨rfl, hw1⟩
      obtain rfl := hw1.symm
      go_wp2
      go_ret
      exact ⟨rfl, Below.refl _ _⟩

set_option maxHeartbeats 4000000 in
set_option maxRecDepth 100000 in
theorem implCallWrong (a : Option Addr) (len cap : Nat) (ps : List Pk) (f i : Nat) (n : Nd) (er : Nat → Addr) (w : World) (h : PkgsOk w a len cap ps) (hE : Err4 w er) (hf : f < len) (hi : i ≤ (ps.getD f pk0).2.2.length) :
    Calls Tryz.prog 96 #[.slice a len cap, .int .i64 (f : Int), .int .i64 (i : Int), nodeVal n] w fun e w' => e = .returned (cwV er (call9 ps (ps.getD f pk0) (i : Int) n)) ∧ Below w.heap.size w w' := by
  obtain rfl : ps.length = len := h.hlen
  obtain ⟨k, A, x, fn⟩ := n
  have hw := toV_ways hf x
  have hway : ∀ t, farB ps (ps.getD f pk0) x = false → ofPk ps (ps.getD f pk0) x = ps.getD t pk0 → (x = (ps.getD f pk0).1 ↔ t = f) → _ := fun t h1 h2 h3 => call9_ways (i := i) (n := (k, A, x, fn)) h1 h2 h3
  have hfar : farB ps (ps.getD f pk0) x = true → _ := fun h1 => call9_far (i := i) (n := (k, A, x, fn)) h1
  simp only at hway hfar
  obtain ⟨cv, hcv⟩ : ∃ cv, call9 ps (ps.getD f pk0) (i : Int) (k, A, x, fn) = cv := ⟨_, rfl⟩
  rw [hcv] at hfar hway ⊢
  unfold nodeVal
  simp only
  obtain ⟨⟨n0, n1, n2, n3⟩, hb0⟩ := node_new w (.int .i64 k) (.int .i64 A) (.string ⟨x.toArray⟩) (.string ⟨fn.toArray⟩) 107
  obtain ⟨W, hW⟩ : ∃ W, w.alloc (.cells #[.int .i64 k, .int .i64 A, .string ⟨x.toArray⟩, .string ⟨fn.toArray⟩] 107) = W := ⟨_, rfl⟩
  rw [hW] at n0 n1 n2 n3 hb0
  have hsW : w.heap.size < W.heap.size := by rw [← hW]; simp
  obtain ⟨D, hD⟩ : ∃ D, w.heap.size = D := ⟨_, rfl⟩
  rw [hD] at n0 n1 n2 n3 hsW
  have HZ : Hid (∀ Z, Below W.heap.size W Z → (Z.cell? ⟨D, 0, none⟩ = some (.int .i64 k) ∧ Z.cell? ⟨D, 1, none⟩ = some (.int .i64 A) ∧ Z.cell? ⟨D, 2, none⟩ = some (.string ⟨x.toArray⟩) ∧ Z.cell? ⟨D, 3, none⟩ = some (.string ⟨fn.toArray⟩)) ∧ PkgsOk Z a ps.length cap ps ∧ Err4 Z er ∧ Below w.heap.size w Z) := fun Z hz => ⟨⟨(hz.cell (p := ⟨D, 0, none⟩) hsW).trans n0, (hz.cell (p := ⟨D, 1, none⟩) hsW).trans n1, (hz.cell (p := ⟨D, 2, none⟩) hsW).trans n2, (hz.cell (p := ⟨D, 3, none⟩) hsW).trans n3⟩, (h.below hb0).below hz, (hE.below hb0).below hz, hb0.trans (hz.mono hb0.size)⟩
  have HT : Hid (_) := implPlaceCalled a ps.length cap ps f x W (HZ.out W (Below.refl _ _)).2.1 hf
  have hsm := h.small
  have HI : Hid (i ≤ (ps.getD f pk0).2.2.length) := hi
  clear h hE hb0 hcv hi
  go_enter Tryz.func96, Tryz.ntmps96
  go_wp2_with fail
  refine Calls.mono HT.out ?_
  rintro e w1 ⟨rfl, hb1⟩
  clear HT n0 n1 n2 n3
  obtain ⟨⟨n0, n1, n2, n3⟩, hok, hE, HB⟩ := HZ.out w1 hb1
  rcases hw with ⟨et, hfr⟩ | ⟨t, ht, et, hfr, hof, hiff⟩
  · rw [et]
    obtain rfl := hfar hfr
    have g1 := hE.far
    have HB2 : Hid (_) := HB
    clear hok hE HB hway hfar
    go_wp2
    go_ret
    exact ⟨rfl, HB2.out⟩
  · rw [et]
    have hw2 := hway t hfr hof hiff
    have hln := fsTo_len (ps := ps) (f := f) (t := t) (i := i) (fun e => by rw [e]; exact HI.out)
    obtain ⟨b, off, rfl, hbl, c0, ia, il, ic, fa, fl, fc, c1, c2, hpk⟩ := hok.each t ht
    have ht2 : (t : Int) < (ps.length : Int) := by omega
    have htn : ¬ (t : Int) = -1 := by omega
    have htb : ((t : Int) == -1) = false := beq_eq_false_iff_ne.2 htn
    have hfll := hpk.fl
    have hfcc := hpk.fc.2
    have hflen : (ps.getD t pk0).2.2.length = fl := hpk.f.1
    have hFI : ∀ m : Nat, m = (if t = f then i else fl) → FuncsIn w1 fa m (fsTo ps f t i) := fun m hm => by
      unfold fsTo
      by_cases e : t = f
      · rw [if_pos e] at hm ⊢
        subst hm
        exact hpk.f.take (by have := HI.out; rw [← e, hflen] at this; exact this)
      · rw [if_neg e] at hm ⊢
        subst hm
        exact hpk.f
    have hml : (if t = f then i else fl) ≤ fl := by
      by_cases e : t = f
      · rw [if_pos e]; have := HI.out; rw [← e, hflen] at this; exact this
      · rw [if_neg e]; exact Nat.le_refl _
    generalize fsTo ps f t i = m at hw2 hln hFI
    have gf := hE.func
    have gc := hE.count
    have HE : Hid (Err4 w1 er) := hE
    have HB1 : Hid (Below W.heap.size W w1) := hb1
    have HP : Hid (FuncsIn w1 fa (if t = f then i else fl) m) := hFI _ rfl
    have HW : Hid (_) := hw2
    clear hway hfar hok hpk hE HB hb1 hiff hof hfr hw2 hFI c0 c1 hflen
    by_cases htf : t = f
    · subst htf
      rw [if_pos rfl] at HP hml
      have hself : ((t : Int) == (t : Int)) = true := by simp
      have hic : (i : Int) ≤ (fc : Int) := by omega
      have hic2 : i ≤ fc := by omega
      have HC : Hid (∀ cp, _) := fun cp => implPlaceOf fa i cp m fn w1 HP.out (by omega)
      clear hln
      go_wp2_with fail
      refine Calls.mono (HC.out _) ?_
      rintro e w2 ⟨rfl, hb2⟩
      have hP2 : FuncsIn w2 fa i m := HP.out.below hb2
      replace hb2 := HB1.out.trans (hb2.mono HB1.out.size)
      clear n0 n1 n2 n3 gf gc c2
      obtain ⟨⟨n0, n1, n2, n3⟩, hok, hE, HB⟩ := HZ.out w2 hb2
      have HB2 : Hid (_) := HB
      have gf := hE.func
      have gc := hE.count
      have hl2 : m.length = i := hP2.1
      rcases HW.out with ⟨ea, rfl⟩ | ⟨c, hc, ea, hw3⟩
      · rw [ea]
        clear hok hE HB HC HW hP2 HE hl2
        go_wp2
        go_ret
        exact ⟨rfl, HB2.out⟩
      · rw [ea]
        obtain ⟨b2, o2, rfl, hb2l, r0, r1, ta, tl, tc, r2, _, _⟩ := hP2.2 c (by omega)
        have hcn : ((c : Int) == -1) = false := beq_eq_false_iff_ne.2 (by omega)
        have hcl : (c : Int) < (i : Int) := by omega
        obtain ⟨ag, hag⟩ : ∃ ag, (m.getD c fn0).2.1 = ag := ⟨_, rfl⟩
        rw [hag] at hw3 r1
        clear hok hE HB HC HW hP2 HE hl2 HP ea hag r0 r2
        rcases hw3 with ⟨hA, rfl⟩ | ⟨rfl, rfl⟩
        · have hAb : (ag != A) = true := by rw [bne_iff_ne]; exact hA
          go_wp2_with fail
          go_quiet (fail)
          go_wp2
          go_ret
          exact ⟨rfl, HB2.out.trans ⟨rfl, rfl, rfl, Nat.le_refl _, fun _ _ => rfl⟩⟩
        · have hAb : (ag != ag) = false := by simp
          go_wp2_with fail
          go_quiet (fail)
          go_wp2
          go_ret
          exact ⟨rfl, HB2.out.trans ⟨rfl, rfl, rfl, Nat.le_refl _, fun _ _ => rfl⟩⟩
    · rw [if_neg htf] at HP hml
      have hne : ((t : Int) == (f : Int)) = false := beq_eq_false_iff_ne.2 (by omega)
      have HC : Hid (∀ cp, _) := fun cp => implPlaceOf fa fl cp m fn w1 HP.out (by omega)
      clear hln
      go_wp2_with fail
      refine Calls.mono (HC.out _) ?_
      rintro e w2 ⟨rfl, hb2⟩
      have hP2 : FuncsIn w2 fa fl m := HP.out.below hb2
      replace hb2 := HB1.out.trans (hb2.mono HB1.out.size)
      clear n0 n1 n2 n3 gf gc c2
      obtain ⟨⟨n0, n1, n2, n3⟩, hok, hE, HB⟩ := HZ.out w2 hb2
      have HB2 : Hid (_) := HB
      have gf := hE.func
      have gc := hE.count
      have hl2 : m.length = fl := hP2.1
      rcases HW.out with ⟨ea, rfl⟩ | ⟨c, hc, ea, hw3⟩
      · rw [ea]
        clear hok hE HB HC HW hP2 HE hl2
        go_wp2
        go_ret
        exact ⟨rfl, HB2.out⟩
      · rw [ea]
        obtain ⟨b2, o2, rfl, hb2l, r0, r1, ta, tl, tc, r2, _, _⟩ := hP2.2 c (by omega)
        have hcn : ((c : Int) == -1) = false := beq_eq_false_iff_ne.2 (by omega)
        have hcl : (c : Int) < (fl : Int) := by omega
        obtain ⟨ag, hag⟩ : ∃ ag, (m.getD c fn0).2.1 = ag := ⟨_, rfl⟩
        rw [hag] at hw3 r1
        clear hok hE HB HC HW hP2 HE hl2 HP ea hag r0 r2
        rcases hw3 with ⟨hA, rfl⟩ | ⟨rfl, rfl⟩
        · have hAb : (ag != A) = true := by rw [bne_iff_ne]; exact hA
          go_wp2_with fail
          go_quiet (fail)
          go_wp2
          go_ret
          exact ⟨rfl, HB2.out.trans ⟨rfl, rfl, rfl, Nat.le_refl _, fun _ _ => rfl⟩⟩
        · have hAb : (ag != ag) = false := by simp
          go_wp2_with fail
          go_quiet (fail)
          go_wp2
          go_ret
          exact ⟨rfl, HB2.out.trans ⟨rfl, rfl, rfl, Nat.le_refl _, fun _ _ => rfl⟩⟩

set_option maxHeartbeats 4000000 in
set_option maxRecDepth 100000 in
theorem implCodeOfCall (c : Int) (er : Nat → Addr) (w : World) (hE : Err4 w er) (hc : -1 ≤ c ∧ c ≤ 3) :
    Calls Tryz.prog 56 #[cwV er c] w fun e w' => e = .returned (.int .i64 c) ∧ w' = w := by
  have gt := hE.told
  have g1 := hE.far
  have g2 := hE.func
  have g3 := hE.count
  unfold sentV at gt g1 g2 g3
  have h0 := hE.at0
  have h1 := hE.at1
  have h2 := hE.at2
  have h3 := hE.at3
  obtain ⟨d01, d02, d03, d12, d13, d23⟩ := hE.ne
  clear hE
  rcases (show c = 0 ∨ c = -1 ∨ c = 1 ∨ c = 2 ∨ c = 3 by omega) with rfl | rfl | rfl | rfl | rfl
  · have hv : cwV er 0 = .nilIface := rfl
    rw [hv]
    go_enter Tryz.func56, Tryz.ntmps56
    go_wp2
    go_ret
    exact ⟨rfl, rfl⟩
  · have hv : cwV er (-1) = .iface 177 (.pointer (some (er 0))) := rfl
    rw [hv]
    go_enter Tryz.func56, Tryz.ntmps56
    go_wp2_with fail
    refine Calls.mono (is_other (er 0) (er 1) w d01 h0 h1) ?_
    rintro e w1 ⟨rfl, hw⟩
    obtain rfl := hw.symm
    clear hw
    go_wp2_with fail
    refine Calls.mono (is_other (er 0) (er 2) w d02 h0 h2) ?_
    rintro e w2 ⟨rfl, hw⟩
    obtain rfl := hw.symm
    clear hw
    go_wp2_with fail
    refine Calls.mono (is_other (er 0) (er 3) w d03 h0 h3) ?_
    rintro e w3 ⟨rfl, hw⟩
    obtain rfl := hw.symm
    clear hw
    go_wp2
    go_ret
    exact ⟨rfl, rfl⟩
  · have hv : cwV er (1) = .iface 177 (.pointer (some (er 1))) := rfl
    rw [hv]
    go_enter Tryz.func56, Tryz.ntmps56
    go_wp2_with fail
    refine Calls.mono (is_same (er 1) w) ?_
    rintro e w1 ⟨rfl, hw⟩
    obtain rfl := hw.symm
    clear hw
    go_wp2
    go_ret
    exact ⟨rfl, rfl⟩
  · have hv : cwV er (2) = .iface 177 (.pointer (some (er 2))) := rfl
    rw [hv]
    go_enter Tryz.func56, Tryz.ntmps56
    go_wp2_with fail
    refine Calls.mono (is_other (er 2) (er 1) w d12.symm h2 h1) ?_
    rintro e w1 ⟨rfl, hw⟩
    obtain rfl := hw.symm
    clear hw
    go_wp2_with fail
    refine Calls.mono (is_same (er 2) w) ?_
    rintro e w2 ⟨rfl, hw⟩
    obtain rfl := hw.symm
    clear hw
    go_wp2
    go_ret
    exact ⟨rfl, rfl⟩
  · have hv : cwV er (3) = .iface 177 (.pointer (some (er 3))) := rfl
    rw [hv]
    go_enter Tryz.func56, Tryz.ntmps56
    go_wp2_with fail
    refine Calls.mono (is_other (er 3) (er 1) w d13.symm h3 h1) ?_
    rintro e w1 ⟨rfl, hw⟩
    obtain rfl := hw.symm
    clear hw
    go_wp2_with fail
    refine Calls.mono (is_other (er 3) (er 2) w d23.symm h3 h2) ?_
    rintro e w2 ⟨rfl, hw⟩
    obtain rfl := hw.symm
    clear hw
    go_wp2_with fail
    refine Calls.mono (is_same (er 3) w) ?_
    rintro e w3 ⟨rfl, hw⟩
    obtain rfl := hw.symm
    clear hw
    go_wp2
    go_ret
    exact ⟨rfl, rfl⟩

theorem callV_no {ps : List Pk} {s : List UInt8} {i : Int} {n : Nd} (h : ¬ callB ps s i n) : callV ps s i n = -1 := if_neg h
/-- Where a package is looked for in a project: nowhere, or at its place. -/
theorem in_cases (ps : List Pk) (s : List UInt8) : ((if projB ps = true then at8 ps s else -1) = -1 ∧ ¬ (projB ps = true ∧ 0 ≤ at8 ps s)) ∨ ∃ f, f < ps.length ∧ (if projB ps = true then at8 ps s else -1) = (f : Int) ∧ projB ps = true ∧ 0 ≤ at8 ps s ∧ pkOf ps s = ps.getD f pk0 := by
  by_cases h : projB ps = true
  · rw [if_pos h]
    rcases at8_is ps s with ⟨e, _⟩ | ⟨f, hf, e, _, _⟩
    · exact Or.inl ⟨e, fun g => by have := g.2; omega⟩
    · exact Or.inr ⟨f, hf, e, h, by omega, by unfold pkOf; rw [e, Int.toNat_natCast]⟩
  · rw [if_neg h]
    exact Or.inl ⟨rfl, fun g => h g.1⟩



end Go.Proofs.YtbojdcggnpdhcaaGreatDoor

/-! An error that is wrapped by the program's own type: errors.Is and errors.As of it (Go's own text walked). -/
namespace Go.Proofs.YtbojdcggnpdhcaaGreatDoor
open Go.RowKit Go.Extern.Stop Go.Stop Go.Extern

/-- An error that tells where: package, function, and what. -/
def wrapV (p f : List UInt8) (a : Addr) : Value := .iface 58 (.agg #[.string ⟨p.toArray⟩, .string ⟨f.toArray⟩, sentV a])

/-- All eight: 0 not told, 1 far, 2 func, 3 count, 4 import, 5 ring, 6 arg, 7 main; and errors.errorType. -/
structure Err8 (w : World) (e : Nat → Addr) : Prop where
  four : Err4 w e
  imp : w.cell? ⟨2, 0, none⟩ = some (sentV (e 4))
  ring : w.cell? ⟨3, 0, none⟩ = some (sentV (e 5))
  arg : w.cell? ⟨4, 0, none⟩ = some (sentV (e 6))
  main : w.cell? ⟨1, 0, none⟩ = some (sentV (e 7))
  at_ : ∀ i, i < 8 → SentAt w (e i)
  ne : ∀ i j, i < 8 → j < 8 → i ≠ j → e i ≠ e j
  ety : w.cell? ⟨5, 0, none⟩ = some (.iface 121 (.agg #[.pointer (some ⟨9, 54, none⟩)]))
theorem Err8.below {w w' : World} {e : Nat → Addr} (h : Err8 w e) (hb : Below w.heap.size w w') : Err8 w' e :=
  ⟨h.four.below hb, sent_below h.imp hb, sent_below h.ring hb, sent_below h.arg hb, sent_below h.main hb, fun i hi => (h.at_ i hi).below hb, h.ne, sent_below h.ety hb⟩

/-! ### Closed facts. -/
theorem noIsW (v : Value) (xT : TypeId) (w : World) : (Instr.typeAssert (.iface 58 v) xT 147 true).run Tryz.prog w = .ok (.tuple #[.nilIface, .bool false]) w := run_typeAssert_lacksB Tryz.underlying147 (by kernel_rfl) (by kernel_rfl) v xT w
theorem hasUnwrapW (v : Value) (xT : TypeId) (w : World) : (Instr.typeAssert (.iface 58 v) xT 128 true).run Tryz.prog w = .ok (.tuple #[.iface 58 v, .bool true]) w := run_typeAssert_hasB Tryz.underlying128 (by kernel_rfl) v xT w
theorem methodUnwrapW (v : Value) (w : World) : (Go.method 309 58 v "Unwrap").run Tryz.prog w = .ok (133, v) w := by kernel_rfl

set_option maxHeartbeats 4000000 in
set_option maxRecDepth 100000 in
theorem is_wrap_same (p f : List UInt8) (a : Addr) (w : World) :
    Calls Tryz.prog 55 #[.iface 58 (.agg #[.string ⟨p.toArray⟩, .string ⟨f.toArray⟩, .iface 177 (.pointer (some a))]), .iface 177 (.pointer (some a))] w fun e w' => e = .returned (.bool true) ∧ Below w.heap.size w w' := by
  obtain ⟨i, hi, hcmp⟩ := Option.map_eq_some_iff.1 isComp
  obtain ⟨j, hj, hjs⟩ := Option.map_eq_some_iff.1 isSize
  have h8 := @run_callFunc_extern Tryz.prog 80 _ Extern.ReflectliteType.typeOf Tryz.func80 (by kernel_rfl) (by kernel_rfl) (by kernel_rfl) (by kernel_rfl)
  have h32 := @run_callFunc_extern Tryz.prog 144 _ cmpE Tryz.func144 (by kernel_rfl) (by kernel_rfl) (by kernel_rfl) (by kernel_rfl)
  have tT := isTypeOf
  have cT := isComparable
  have mR := isMethodComparable
  have nW := noIsW
  have uW := hasUnwrapW
  have mU := methodUnwrapW
  have heq : ∀ W : World, _ := fun W => run_eql_iface_ptr_same (P := Tryz.prog) W a Tryz.underlying54 Tryz.underlying177 hi hcmp hj
  have hty : ∀ W : World, _ := fun W => run_eql_iface_types (P := Tryz.prog) 58 177 (.agg #[.string ⟨p.toArray⟩, .string ⟨f.toArray⟩, .iface 177 (.pointer (some a))]) (.pointer (some a)) Tryz.underlying54 (by decide) W
  have hbn : Below w.heap.size w (w.alloc (.cells #[.string ⟨p.toArray⟩, .string ⟨f.toArray⟩, .iface 177 (.pointer (some a))] 58)) := (Below.refl _ _).alloc (Nat.le_refl _) _
  go_enter Tryz.func55, Tryz.ntmps55
  go_wp2
  refine wp_loop_rounds 2 ?_
  rw [rounds_succ]
  go_wp2
  rw [rounds_succ]
  go_wp2
  go_ret
  exact ⟨rfl, hbn⟩

set_option maxHeartbeats 4000000 in
set_option maxRecDepth 100000 in
theorem is_wrap_other (p f : List UInt8) (a b : Addr) (w : World) (hne : a ≠ b) (hsa : SentAt w a) (hsb : SentAt w b) :
    Calls Tryz.prog 55 #[.iface 58 (.agg #[.string ⟨p.toArray⟩, .string ⟨f.toArray⟩, .iface 177 (.pointer (some a))]), .iface 177 (.pointer (some b))] w fun e w' => e = .returned (.bool false) ∧ Below w.heap.size w w' := by
  have hbn : Below w.heap.size w (w.alloc (.cells #[.string ⟨p.toArray⟩, .string ⟨f.toArray⟩, .iface 177 (.pointer (some a))] 58)) := (Below.refl _ _).alloc (Nat.le_refl _) _
  obtain ⟨ca, ta, ha⟩ := hsa.below hbn
  obtain ⟨cb, tb, hb⟩ := hsb.below hbn
  obtain ⟨i, hi, hcmp⟩ := Option.map_eq_some_iff.1 isComp
  obtain ⟨j, hj, hjs⟩ := Option.map_eq_some_iff.1 isSize
  have h8 := @run_callFunc_extern Tryz.prog 80 _ Extern.ReflectliteType.typeOf Tryz.func80 (by kernel_rfl) (by kernel_rfl) (by kernel_rfl) (by kernel_rfl)
  have h32 := @run_callFunc_extern Tryz.prog 144 _ cmpE Tryz.func144 (by kernel_rfl) (by kernel_rfl) (by kernel_rfl) (by kernel_rfl)
  have tT := isTypeOf
  have cT := isComparable
  have mR := isMethodComparable
  have nE := noIsE
  have uE := noUnwrapE
  have vE := noUnwrapsE
  have nW := noIsW
  have uW := hasUnwrapW
  have mU := methodUnwrapW
  have heq := run_eql_iface_ptr_other (P := Tryz.prog) (w.alloc (.cells #[.string ⟨p.toArray⟩, .string ⟨f.toArray⟩, .iface 177 (.pointer (some a))] 58)) Tryz.underlying54 Tryz.underlying177 hi hcmp hj (by rw [hjs]; decide) hne ha hb
  have hty : ∀ W : World, _ := fun W => run_eql_iface_types (P := Tryz.prog) 58 177 (.agg #[.string ⟨p.toArray⟩, .string ⟨f.toArray⟩, .iface 177 (.pointer (some a))]) (.pointer (some b)) Tryz.underlying54 (by decide) W
  clear ha hb
  go_enter Tryz.func55, Tryz.ntmps55
  go_wp2
  refine wp_loop_rounds 2 ?_
  rw [rounds_succ]
  go_wp2
  rw [rounds_succ]
  go_wp2
  go_ret
  exact ⟨rfl, hbn⟩

end Go.Proofs.YtbojdcggnpdhcaaGreatDoor

/-! errors.As at the program's own error type (Go's own text walked): of an error that tells where, and of one that does not. -/
namespace Go.Proofs.YtbojdcggnpdhcaaGreatDoor
open Go.RowKit Go.Extern.Stop Go.Stop Go.Extern

/-! ### What the model does at reflectlite's entries. -/
noncomputable def valE : Array Value → Sem Value := (Go.Extern.find Tryz.f57).getD (fun _ => pure (.bool false))
noncomputable def typE : Array Value → Sem Value := (Go.Extern.find Tryz.f58).getD (fun _ => pure (.bool false))
noncomputable def nilE : Array Value → Sem Value := (Go.Extern.find Tryz.f59).getD (fun _ => pure (.bool false))
noncomputable def kinE : Array Value → Sem Value := (Go.Extern.find Tryz.f128).getD (fun _ => pure (.bool false))
noncomputable def eltE : Array Value → Sem Value := (Go.Extern.find Tryz.f145).getD (fun _ => pure (.bool false))
noncomputable def impE : Array Value → Sem Value := (Go.Extern.find Tryz.f146).getD (fun _ => pure (.bool false))
noncomputable def asgE : Array Value → Sem Value := (Go.Extern.find Tryz.f143).getD (fun _ => pure (.bool false))
noncomputable def elvE : Array Value → Sem Value := (Go.Extern.find Tryz.f82).getD (fun _ => pure (.bool false))
noncomputable def setE : Array Value → Sem Value := (Go.Extern.find Tryz.f83).getD (fun _ => pure (.bool false))

/-- A type's handle, as a Type; a Value of it. -/
abbrev rtV (t : TypeId) : Value := .iface 121 (.agg #[.pointer (some ⟨9, t, none⟩)])
abbrev vlV (t : TypeId) (a : Addr) (f : Int) : Value := .agg #[.pointer (some ⟨9, t, none⟩), .pointer (some a), .int .u64 f]

theorem asVal (t : Addr) (w : World) : (valE #[.iface 60 (.pointer (some t))]).run Tryz.prog w = .ok (vlV 60 ⟨w.heap.size, 0, none⟩ 150) (w.alloc (.cells #[.pointer (some t)] 60)) := by kernel_rfl
theorem asTyp (a : Addr) (w : World) : (typE #[vlV 60 a 150]).run Tryz.prog w = .ok (rtV 60) w := by kernel_rfl
theorem asMKind (h : Value) (w : World) : (Go.method 309 121 (.agg #[h]) "Kind").run Tryz.prog w = .ok (128, h) w := by kernel_rfl
theorem asKindP (w : World) : (kinE #[.pointer (some ⟨9, 60, none⟩)]).run Tryz.prog w = .ok (.int .u8 22) w := by kernel_rfl
theorem asKindS (w : World) : (kinE #[.pointer (some ⟨9, 58, none⟩)]).run Tryz.prog w = .ok (.int .u8 25) w := by kernel_rfl
theorem asMElem (h : Value) (w : World) : (Go.method 309 121 (.agg #[h]) "Elem").run Tryz.prog w = .ok (145, .agg #[h]) w := by kernel_rfl
theorem asElem (w : World) : (eltE #[.agg #[.pointer (some ⟨9, 60, none⟩)]]).run Tryz.prog w = .ok (rtV 58) w := by kernel_rfl
theorem asMImpl (h : Value) (w : World) : (Go.method 309 121 (.agg #[h]) "Implements").run Tryz.prog w = .ok (146, .agg #[h]) w := by kernel_rfl
theorem asImpl (w : World) : (impE #[.agg #[.pointer (some ⟨9, 58, none⟩)], rtV 54]).run Tryz.prog w = .ok (.bool true) w := by kernel_rfl
theorem asMAsg (h : Value) (w : World) : (Go.method 309 121 (.agg #[h]) "AssignableTo").run Tryz.prog w = .ok (143, .agg #[h]) w := by kernel_rfl
theorem asAsgW (w : World) : (asgE #[.agg #[.pointer (some ⟨9, 58, none⟩)], rtV 58]).run Tryz.prog w = .ok (.bool true) w := by kernel_rfl
theorem asAsgE (w : World) : (asgE #[.agg #[.pointer (some ⟨9, 177, none⟩)], rtV 58]).run Tryz.prog w = .ok (.bool false) w := by kernel_rfl
theorem asTypeOfW (v : Value) (w : World) : (Extern.ReflectliteType.typeOf #[.iface 58 v]).run Tryz.prog w = .ok (rtV 58) w := by kernel_rfl
theorem asValW (a b c : Value) (w : World) : (valE #[.iface 58 (.agg #[a, b, c])]).run Tryz.prog w = .ok (vlV 58 ⟨w.heap.size, 0, none⟩ 153) (w.alloc (.cells #[a, b, c] 58)) := by kernel_rfl
theorem noAsE (v : Value) (xT : TypeId) (w : World) : (Instr.typeAssert (.iface 177 v) xT 125 true).run Tryz.prog w = .ok (.tuple #[.nilIface, .bool false]) w := run_typeAssert_lacksB Tryz.underlying125 (by kernel_rfl) (by kernel_rfl) v xT w

/-! ### The entries that read or write memory. -/
theorem asPartsP (a : Addr) (w : World) : (ReflectliteValue.parts (vlV 60 a 150)).run Tryz.prog w = .ok (some (60, a, 150)) w := by kernel_rfl
theorem asPartsT (a : Addr) (w : World) : (ReflectliteValue.parts (vlV 58 a 409)).run Tryz.prog w = .ok (some (58, a, 409)) w := by kernel_rfl
theorem asPartsS (a : Addr) (w : World) : (ReflectliteValue.parts (vlV 58 a 153)).run Tryz.prog w = .ok (some (58, a, 153)) w := by kernel_rfl
theorem asElemOf (w : World) : (Rtype.elem? 60).run Tryz.prog w = .ok (some 58) w := by kernel_rfl
theorem asMk (p : Addr) (w : World) : (ReflectliteValue.mk 58 p ReflectliteValue.flagAddr).run Tryz.prog w = .ok (vlV 58 p 409) w := by kernel_rfl
theorem asDirect (w : World) : (Rtype.directlyAssignable 58 58).run Tryz.prog w = .ok true w := by kernel_rfl
theorem asInfo : (Tryz.prog.info? 58).map (·.size) = some 3 := by kernel_rfl
theorem asNil (a p : Addr) (W : World) (ha : W.cell? a = some (.pointer (some p))) : (nilE #[vlV 60 a 150]).run Tryz.prog W = .ok (.bool false) W := by
  have e : nilE = ReflectliteValue.method (ReflectliteValue.valueError "reflectlite.Value.IsNil" 0) ReflectliteValue.isNil := by kernel_rfl
  rw [e, show ReflectliteValue.method (ReflectliteValue.valueError "reflectlite.Value.IsNil" 0) ReflectliteValue.isNil #[vlV 60 a 150] = (ReflectliteValue.parts (vlV 60 a 150) >>= _) from rfl]
  simp only [Sem.run_bind, asPartsP, Result.andThen]
  simp [ReflectliteValue.isNil, loadVar, isAgg, underlying, Tryz.underlying60, ha, Result.andThen]
theorem asElv (a p : Addr) (W : World) (ha : W.cell? a = some (.pointer (some p))) : (elvE #[vlV 60 a 150]).run Tryz.prog W = .ok (vlV 58 p 409) W := by
  have e : elvE = ReflectliteValue.method (ReflectliteValue.valueError "reflectlite.Value.Elem" 0) ReflectliteValue.elem := by kernel_rfl
  rw [e, show ReflectliteValue.method (ReflectliteValue.valueError "reflectlite.Value.Elem" 0) ReflectliteValue.elem #[vlV 60 a 150] = (ReflectliteValue.parts (vlV 60 a 150) >>= _) from rfl]
  simp only [Sem.run_bind, asPartsP, Result.andThen]
  simp [ReflectliteValue.elem, loadVar, isAgg, underlying, Tryz.underlying60, ha, Result.andThen, asElemOf, asMk]
theorem asSet (T b : Nat) (t0 t1 : TypeId) (old : Array Value) (x y z : Value) (W : World) (ho : W.heap[T]? = some (.cells old t0 (0, 0))) (hs : old.size = 3) (hb : W.heap[b]? = some (.cells #[x, y, z] t1 (0, 0))) (h1 : (#[x, y, z].all (·.oneCell')) = true) :
    (setE #[vlV 58 ⟨T, 0, none⟩ 409, vlV 58 ⟨b, 0, none⟩ 153]).run Tryz.prog W = .ok (.tuple #[]) (W.setRow T #[x, y, z]) := by
  have e : setE = ReflectliteValue.set := by kernel_rfl
  have hl : (loadVar 58 ⟨b, 0, none⟩).run Tryz.prog W = .ok (.agg #[x, y, z]) W := run_loadVar_row W b t1 58 #[x, y, z] (0, 0) _ hb Tryz.underlying58 rfl (by rw [asInfo]; rfl)
  have hst : (storeVar 58 ⟨T, 0, none⟩ (.agg #[x, y, z])).run Tryz.prog W = .ok () (W.setRow T #[x, y, z]) := run_storeVar_row W T t0 58 old #[x, y, z] ho (by rw [asInfo]; rfl) (by rw [hs]; rfl) h1
  rw [e, show ReflectliteValue.set #[vlV 58 ⟨T, 0, none⟩ 409, vlV 58 ⟨b, 0, none⟩ 153] = (ReflectliteValue.parts (vlV 58 ⟨T, 0, none⟩ 409) >>= fun p => ReflectliteValue.parts (vlV 58 ⟨b, 0, none⟩ 153) >>= _) from rfl]
  simp only [Sem.run_bind, asPartsT, asPartsS, Result.andThen]
  simp [ReflectliteValue.flagAddr, hl, hst, asDirect, Result.andThen]

end Go.Proofs.YtbojdcggnpdhcaaGreatDoor

/-! errors.As at the program's own error type: its two contracts. -/
namespace Go.Proofs.YtbojdcggnpdhcaaGreatDoor
open Go.RowKit Go.Extern.Stop Go.Stop Go.Extern

/-- The Value of the target, in a block. -/
abbrev tgO (w : World) : Obj := .cells #[.pointer (some ⟨9, 60, none⟩), .pointer (some ⟨w.heap.size, 0, none⟩), .int .u64 150] 89
abbrev tg1 (w : World) (t : Addr) : World := w.alloc (.cells #[.pointer (some t)] 60)
abbrev tg2 (w : World) (t : Addr) : World := (tg1 w t).alloc (tgO w)
abbrev tg3 (w : World) (t : Addr) : World := (tg2 w t).alloc (tgO w)
theorem tg_cell (w : World) (t : Addr) : (tg2 w t).cell? ⟨w.heap.size, 0, none⟩ = some (.pointer (some t)) ∧ (tg3 w t).cell? ⟨w.heap.size, 0, none⟩ = some (.pointer (some t)) := by
  have h1 : (tg1 w t).cell? ⟨w.heap.size, 0, none⟩ = some (.pointer (some t)) := by rw [World.cell?_alloc_at _ _ _ _ (by simp)]; rfl
  have h2 : (tg2 w t).cell? ⟨w.heap.size, 0, none⟩ = some (.pointer (some t)) := by rw [World.cell?_alloc_lt _ _ ⟨w.heap.size, 0, none⟩ (by simp)]; exact h1
  exact ⟨h2, by rw [World.cell?_alloc_lt _ _ ⟨w.heap.size, 0, none⟩ (by simp; omega)]; exact h2⟩
theorem tg_below (w : World) (t : Addr) : Below w.heap.size w (tg2 w t) ∧ Below w.heap.size w (tg3 w t) := by
  have h1 : Below w.heap.size w (tg1 w t) := (Below.refl _ _).alloc (Nat.le_refl _) _
  have h2 : Below w.heap.size w (tg2 w t) := h1.alloc (by simp) _
  exact ⟨h2, h2.alloc (by simp; omega) _⟩

set_option maxHeartbeats 8000000 in
set_option maxRecDepth 100000 in
theorem as_miss (a t : Addr) (w : World) (hg : w.cell? ⟨5, 0, none⟩ = some (.iface 121 (.agg #[.pointer (some ⟨9, 54, none⟩)]))) :
    Calls Tryz.prog 32 #[.iface 177 (.pointer (some a)), .iface 60 (.pointer (some t))] w fun e w' => e = .returned (.bool false) ∧ Below w.heap.size w w' := by
  have h6 := @run_callFunc_extern Tryz.prog 57 _ valE Tryz.func57 (by kernel_rfl) (by kernel_rfl) (by kernel_rfl) (by kernel_rfl)
  have h7 := @run_callFunc_extern Tryz.prog 58 _ typE Tryz.func58 (by kernel_rfl) (by kernel_rfl) (by kernel_rfl) (by kernel_rfl)
  have h8 := @run_callFunc_extern Tryz.prog 59 _ nilE Tryz.func59 (by kernel_rfl) (by kernel_rfl) (by kernel_rfl) (by kernel_rfl)
  have h27 := @run_callFunc_extern Tryz.prog 128 _ kinE Tryz.func128 (by kernel_rfl) (by kernel_rfl) (by kernel_rfl) (by kernel_rfl)
  have h37 := @run_callFunc_extern Tryz.prog 145 _ eltE Tryz.func145 (by kernel_rfl) (by kernel_rfl) (by kernel_rfl) (by kernel_rfl)
  have h38 := @run_callFunc_extern Tryz.prog 146 _ impE Tryz.func146 (by kernel_rfl) (by kernel_rfl) (by kernel_rfl) (by kernel_rfl)
  have h10 := @run_callFunc_extern Tryz.prog 80 _ Extern.ReflectliteType.typeOf Tryz.func80 (by kernel_rfl) (by kernel_rfl) (by kernel_rfl) (by kernel_rfl)
  have h35 := @run_callFunc_extern Tryz.prog 143 _ asgE Tryz.func143 (by kernel_rfl) (by kernel_rfl) (by kernel_rfl) (by kernel_rfl)
  have tO := isTypeOf
  have mA := asMAsg
  have aE := asAsgE
  have f6 := asVal
  have f7 := asTyp
  have mK := asMKind
  have mE := asMElem
  have mI := asMImpl
  have kP := asKindP
  have kS := asKindS
  have e27 := asElem
  have i25 := asImpl
  have nA := noAsE
  have uE := noUnwrapE
  have vE := noUnwrapsE
  have n8 := asNil ⟨w.heap.size, 0, none⟩ t (tg2 w t) (tg_cell w t).1
  have hlt : 5 < w.heap.size := World.block_lt_of_cell? w ⟨5, 0, none⟩ hg
  have hg2 : (tg2 w t).cell? ⟨5, 0, none⟩ = some (.iface 121 (.agg #[.pointer (some ⟨9, 54, none⟩)])) := ((tg_below w t).1.cell (p := ⟨5, 0, none⟩) hlt).trans hg
  have hbt := (tg_below w t).2
  go_enter Tryz.func32, Tryz.ntmps32
  go_wp2
  refine wp_loop_rounds 1 ?_
  rw [rounds_succ]
  go_wp2
  go_ret
  exact ⟨rfl, hbt⟩

set_option maxHeartbeats 8000000 in
set_option maxRecDepth 100000 in
theorem as_hit (p f : List UInt8) (a : Addr) (T : Nat) (t0 : TypeId) (old : Array Value) (w : World) (ho : w.heap[T]? = some (.cells old t0 (0, 0))) (hs : old.size = 3) (hg : w.cell? ⟨5, 0, none⟩ = some (.iface 121 (.agg #[.pointer (some ⟨9, 54, none⟩)]))) :
    Calls Tryz.prog 32 #[.iface 58 (.agg #[.string ⟨p.toArray⟩, .string ⟨f.toArray⟩, .iface 177 (.pointer (some a))]), .iface 60 (.pointer (some ⟨T, 0, none⟩))] w fun e w' => e = .returned (.bool true) ∧ ∃ w0, Below w.heap.size w w0 ∧ w0.heap[T]? = some (.cells old t0 (0, 0)) ∧ w' = w0.setRow T #[.string ⟨p.toArray⟩, .string ⟨f.toArray⟩, .iface 177 (.pointer (some a))] := by
  have hTl : T < w.heap.size := by
    rcases Nat.lt_or_ge T w.heap.size with h | h
    · exact h
    · rw [Array.getElem?_eq_none h] at ho; cases ho
  have hb4 : Below w.heap.size w ((tg3 w ⟨T, 0, none⟩).alloc (.cells #[.string ⟨p.toArray⟩, .string ⟨f.toArray⟩, .iface 177 (.pointer (some a))] 58)) := (tg_below w _).2.alloc (tg_below w ⟨T, 0, none⟩).2.size _
  have ho4 := (hb4.block T hTl).trans ho
  have h6 := @run_callFunc_extern Tryz.prog 57 _ valE Tryz.func57 (by kernel_rfl) (by kernel_rfl) (by kernel_rfl) (by kernel_rfl)
  have h7 := @run_callFunc_extern Tryz.prog 58 _ typE Tryz.func58 (by kernel_rfl) (by kernel_rfl) (by kernel_rfl) (by kernel_rfl)
  have h8 := @run_callFunc_extern Tryz.prog 59 _ nilE Tryz.func59 (by kernel_rfl) (by kernel_rfl) (by kernel_rfl) (by kernel_rfl)
  have h27 := @run_callFunc_extern Tryz.prog 128 _ kinE Tryz.func128 (by kernel_rfl) (by kernel_rfl) (by kernel_rfl) (by kernel_rfl)
  have h37 := @run_callFunc_extern Tryz.prog 145 _ eltE Tryz.func145 (by kernel_rfl) (by kernel_rfl) (by kernel_rfl) (by kernel_rfl)
  have h38 := @run_callFunc_extern Tryz.prog 146 _ impE Tryz.func146 (by kernel_rfl) (by kernel_rfl) (by kernel_rfl) (by kernel_rfl)
  have h10 := @run_callFunc_extern Tryz.prog 80 _ Extern.ReflectliteType.typeOf Tryz.func80 (by kernel_rfl) (by kernel_rfl) (by kernel_rfl) (by kernel_rfl)
  have h35 := @run_callFunc_extern Tryz.prog 143 _ asgE Tryz.func143 (by kernel_rfl) (by kernel_rfl) (by kernel_rfl) (by kernel_rfl)
  have h11 := @run_callFunc_extern Tryz.prog 82 _ elvE Tryz.func82 (by kernel_rfl) (by kernel_rfl) (by kernel_rfl) (by kernel_rfl)
  have h12 := @run_callFunc_extern Tryz.prog 83 _ setE Tryz.func83 (by kernel_rfl) (by kernel_rfl) (by kernel_rfl) (by kernel_rfl)
  have tO := asTypeOfW
  have mA := asMAsg
  have aW := asAsgW
  have vW := asValW
  have f6 := asVal
  have f7 := asTyp
  have mK := asMKind
  have mE := asMElem
  have mI := asMImpl
  have kP := asKindP
  have kS := asKindS
  have e27 := asElem
  have i25 := asImpl
  have n8 := asNil ⟨w.heap.size, 0, none⟩ ⟨T, 0, none⟩ (tg2 w ⟨T, 0, none⟩) (tg_cell w _).1
  have el := asElv ⟨w.heap.size, 0, none⟩ ⟨T, 0, none⟩ (tg3 w ⟨T, 0, none⟩) (tg_cell w _).2
  have st := asSet T (w.heap.size + 1 + 1 + 1) t0 58 old (.string ⟨p.toArray⟩) (.string ⟨f.toArray⟩) (.iface 177 (.pointer (some a))) _ ho4 hs (by rw [show w.heap.size + 1 + 1 + 1 = (tg3 w ⟨T, 0, none⟩).heap.size by simp]; exact heap_alloc_new _ _) (by simp [Value.oneCell'])
  have hlt : 5 < w.heap.size := World.block_lt_of_cell? w ⟨5, 0, none⟩ hg
  have hg2 : (tg2 w ⟨T, 0, none⟩).cell? ⟨5, 0, none⟩ = some (.iface 121 (.agg #[.pointer (some ⟨9, 54, none⟩)])) := ((tg_below w _).1.cell (p := ⟨5, 0, none⟩) hlt).trans hg
  clear ho
  go_enter Tryz.func32, Tryz.ntmps32
  go_wp2
  refine wp_loop_rounds 1 ?_
  rw [rounds_succ]
  go_wp2
  go_ret
  exact ⟨rfl, _, hb4, ho4, rfl⟩

end Go.Proofs.YtbojdcggnpdhcaaGreatDoor

/-! The contracts of chapter 9's specification: FaultOf, Exports. -/
namespace Go.Proofs.YtbojdcggnpdhcaaGreatDoor
open Go.RowKit

set_option maxHeartbeats 2000000 in
set_option maxRecDepth 100000 in
theorem specFaultOf (a : Option Addr) (len cap : Nat) (ps : List Pk) (w : World) (hl : PkgsIn w a len ps) (hlen : len ≤ 1048576) (hsh : ShortPs ps) :
    Calls Tryz.prog 14 #[.slice a len cap] w fun e w' => e = .returned (fltVal (faultV ps)) ∧ Below w.heap.size w w' := by
  obtain ⟨fb, hb0⟩ := FBox.new w 38
  obtain ⟨W0, hW0⟩ : ∃ W0, w.alloc (.cells #[.int .i64 0, .string ⟨#[]⟩, .string ⟨#[]⟩] 38) = W0 := ⟨_, rfl⟩
  rw [hW0] at fb hb0
  have HP0 : Hid (PkgsIn W0 a len ps) := hl.below hb0
  have HF0 : Hid (FBox W0 w.heap.size) := fb
  have HB0 : Hid (Below w.heap.size w W0) := hb0
  have HSH : Hid (ShortPs ps) := hsh
  have HPr : Hid (_) := specProjectOk a len cap ps W0 HP0.out hlen hsh
  clear fb hb0 hl hsh
  rcases hp : projB ps with _ | _
  · have HR : Hid (faultV ps = (6, [], [])) := by exact (by unfold faultV; rw [if_neg (by rw [hp]; simp)] : faultV ps = (6, [], []))
    rw [hp] at HPr
    clear hp
    go_enter Tryz.func14, Tryz.ntmps14
    go_wp2_with fail
    refine Calls.mono HPr.out ?_
    rintro e w1 ⟨rfl, hb1⟩
    have hfb := HF0.out.below hb1
    have hbw := HB0.out.trans (hb1.mono HB0.out.size)
    have f0 := hfb.1.c0
    have f1 := hfb.1.c1
    have f2 := hfb.1.c2
    have z0 := hfb.2 0
    have z1 := hfb.2 1
    have z2 := hfb.2 2
    obtain ⟨Y, hY, y0, y1, y2, hbY⟩ := hfb.put hbw (Nat.le_refl _) (6, [], [])
    simp only at hY y0 y1 y2
    have HE : Hid (Below w.heap.size w Y) := hbY
    clear hfb hbw hbY hb1
    go_wp2
    refine bodyPost_ret (v := fltVal (6, [], [])) (by unfold fltVal; simp [results, Tryz.results14, go_sem, y0, y1, y2]) rfl ?_
    exact ⟨by rw [HR.out], HE.out⟩
  · have HR : Hid (faultV ps = fault9 ps) := by exact (by unfold faultV; rw [if_pos hp] : faultV ps = fault9 ps)
    rw [hp] at HPr
    go_enter Tryz.func14, Tryz.ntmps14
    go_wp2_with fail
    refine Calls.mono HPr.out ?_
    rintro e w1 ⟨rfl, hb1⟩
    have HP1 : Hid (PkgsIn w1 a len ps) := HP0.out.below hb1
    have HF1 : Hid (FBox w1 w.heap.size) := HF0.out.below hb1
    have HB1 : Hid (Below w.heap.size w w1) := HB0.out.trans (hb1.mono HB0.out.size)
    have HFl : Hid (_) := specFault9 a len cap ps w1 HP1.out HSH.out hp
    obtain ⟨f, hf⟩ : ∃ f, fault9 ps = f := ⟨_, rfl⟩
    rw [hf] at HR HFl
    clear hp hb1 hf
    go_wp2_with fail
    refine Calls.mono HFl.out ?_
    rintro e w2 ⟨rfl, hb2⟩
    have hfb := HF1.out.below hb2
    have hbw := HB1.out.trans (hb2.mono HB1.out.size)
    have f0 := hfb.1.c0
    have f1 := hfb.1.c1
    have f2 := hfb.1.c2
    have z0 := hfb.2 0
    have z1 := hfb.2 1
    have z2 := hfb.2 2
    obtain ⟨Y, hY, y0, y1, y2, hbY⟩ := hfb.put hbw (Nat.le_refl _) f
    have HE : Hid (Below w.heap.size w Y) := hbY
    unfold fltVal
    clear hfb hbw hbY hb2 HFl
    go_wp2
    refine bodyPost_ret (v := fltVal f) (by unfold fltVal; simp [results, Tryz.results14, go_sem, y0, y1, y2]) rfl ?_
    exact ⟨by rw [HR.out], HE.out⟩

theorem exp_take (fs : List Fn) {k : Nat} (hk : k < fs.length) : exports9 (fs.take (k + 1)) = exports9 (fs.take k) ++ [exp9 (fs.getD k fn0)] := by
  unfold exports9
  rw [List.take_succ_eq_append_getElem hk, List.map_append]
  simp [List.getD, hk]
theorem exportsV_len (p : Pk) : (exportsV p).length ≤ 8 := by
  unfold exportsV
  split
  · rename_i h
    have := (pkgB_parts h).2.2.2.1.2
    unfold exports9
    rw [List.length_map]
    exact this
  · simp

end Go.Proofs.YtbojdcggnpdhcaaGreatDoor
