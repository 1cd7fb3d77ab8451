/-
  Parts of one proof, one behind the other: CallI, ErrJ, ErrK, ErrL.
-/
import Derived.Test.YtdjglpcllcjcfaaGreatDoorP27
import Derived.Test.YtdjglpcllcjcfaaGreatDoorP20
import Derived.Test.YtdjglpcllcjcfaaGreatDoorP22
import Derived.Test.YtdjglpcllcjcfaaGreatDoorP26
import Derived.Deep.RegionWith
import Derived.Deep.Quiet
import Derived.Test.YtdjglpcllcjcfaaGreatDoorP10
import Derived.Laws.Rows

/-! The contracts of chapter 9's landed code: where a call goes, what is wrong with it, CallCode. -/
namespace Go.Proofs.YtdjglpcllcjcfaaGreatDoor
open Go.RowKit

/-- What callWrong hands back: nothing, or the error of that code. -/
def cwV (e : Nat → Addr) (c : Int) : Value := if c = 0 then .nilIface else sentV (e c.toNat)

set_option maxHeartbeats 2000000 in
set_option maxRecDepth 100000 in
theorem implPlaceCalled (a : Option Addr) (len cap : Nat) (ps : List Pk) (f : Nat) (q : List UInt8) (w : World) (h : PkgsOk w a len cap ps) (hf : f < len) :
    Calls Tryz.prog 108 #[.slice a len cap, .int .i64 (f : Int), .string ⟨q.toArray⟩] w fun e w' => e = .returned (.int .i64 (toV ps f q)) ∧ Below w.heap.size w w' := by
  obtain ⟨b, off, rfl, hbl, c0, ia, il, ic, fa, fl, fc, c1, c2, hpk⟩ := h.each f hf
  have hsm := h.small
  have hf2 : (f : Int) < (len : Int) := by omega
  have hilb := hpk.il
  have HP : Hid (_) := implPlacePk (some ⟨b, off, none⟩) len cap ps q w h.in h.small
  have HC : Hid (_) := containsStr ia il ic (imsAt ps f) q w hpk.i hpk.il
  obtain ⟨ov, hov⟩ : ∃ ov, toV ps f q = ov := ⟨_, rfl⟩
  have HV : Hid (toV ps f q = ov) := hov
  rw [hov]
  unfold toV at hov
  obtain ⟨x, hx⟩ : ∃ x, (ps.getD f pk0).1 = x := ⟨_, rfl⟩
  have hx2 : nmAt ps f = x := hx
  rw [hx] at c0
  rw [hx2] at hov
  clear hx hx2 hpk c2 h
  by_cases h1 : q = x
  · rw [if_pos h1] at hov
    have hb1 : (q == x) = true := by rw [h1]; simp
    subst hov
    go_enter Tryz.func108, Tryz.ntmps108
    go_wp2
    go_ret
    exact ⟨rfl, Below.refl _ _⟩
  · rw [if_neg h1] at hov
    have hb1 : (q == x) = false := by rw [beq_eq_false_iff_ne]; exact h1
    by_cases h2 : q ∈ imsAt ps f
    · rw [if_pos h2] at hov
      rw [decide_eq_true h2] at HC
      rw [hov] at HP
      clear hov h2 HV
      go_enter Tryz.func108, Tryz.ntmps108
      go_wp2_with fail
      refine Calls.mono HC.out ?_
      rintro e w1 ⟨rfl, hw1⟩
      obtain rfl := hw1.symm
      go_wp2_with fail
      refine Calls.mono HP.out ?_
      rintro e w2 ⟨rfl, hb2⟩
      go_wp2
      go_ret
      exact ⟨rfl, hb2⟩
    · rw [if_neg h2] at hov
      rw [decide_eq_false h2] at HC
      subst hov
      clear h2 HV
      go_enter Tryz.func108, Tryz.ntmps108
      go_wp2_with fail
      refine Calls.mono HC.out ?_
      rintro e w1 ⟨rfl, hw1⟩
      obtain rfl := hw1.symm
      go_wp2
      go_ret
      exact ⟨rfl, Below.refl _ _⟩

set_option maxHeartbeats 4000000 in
set_option maxRecDepth 100000 in
theorem implCallWrong (a : Option Addr) (len cap : Nat) (ps : List Pk) (f i : Nat) (n : Nd) (er : Nat → Addr) (w : World) (h : PkgsOk w a len cap ps) (hE : Err4 w er) (hf : f < len) (hi : i ≤ (ps.getD f pk0).2.2.length) :
    Calls Tryz.prog 70 #[.slice a len cap, .int .i64 (f : Int), .int .i64 (i : Int), nodeVal n] w fun e w' => e = .returned (cwV er (call9 ps (ps.getD f pk0) (i : Int) n)) ∧ Below w.heap.size w w' := by
  obtain rfl : ps.length = len := h.hlen
  obtain ⟨k, A, x, fn⟩ := n
  have hw := toV_ways hf x
  have hway : ∀ t, farB ps (ps.getD f pk0) x = false → ofPk ps (ps.getD f pk0) x = ps.getD t pk0 → (x = (ps.getD f pk0).1 ↔ t = f) → _ := fun t h1 h2 h3 => call9_ways (i := i) (n := (k, A, x, fn)) h1 h2 h3
  have hfar : farB ps (ps.getD f pk0) x = true → _ := fun h1 => call9_far (i := i) (n := (k, A, x, fn)) h1
  simp only at hway hfar
  obtain ⟨cv, hcv⟩ : ∃ cv, call9 ps (ps.getD f pk0) (i : Int) (k, A, x, fn) = cv := ⟨_, rfl⟩
  rw [hcv] at hfar hway ⊢
  unfold nodeVal
  simp only
  obtain ⟨⟨n0, n1, n2, n3⟩, hb0⟩ := node_new w (.int .i64 k) (.int .i64 A) (.string ⟨x.toArray⟩) (.string ⟨fn.toArray⟩) 44
  obtain ⟨W, hW⟩ : ∃ W, w.alloc (.cells #[.int .i64 k, .int .i64 A, .string ⟨x.toArray⟩, .string ⟨fn.toArray⟩] 44) = W := ⟨_, rfl⟩
  rw [hW] at n0 n1 n2 n3 hb0
  have hsW : w.heap.size < W.heap.size := by rw [← hW]; simp
  obtain ⟨D, hD⟩ : ∃ D, w.heap.size = D := ⟨_, rfl⟩
  rw [hD] at n0 n1 n2 n3 hsW
  have HZ : Hid (∀ Z, Below W.heap.size W Z → (Z.cell? ⟨D, 0, none⟩ = some (.int .i64 k) ∧ Z.cell? ⟨D, 1, none⟩ = some (.int .i64 A) ∧ Z.cell? ⟨D, 2, none⟩ = some (.string ⟨x.toArray⟩) ∧ Z.cell? ⟨D, 3, none⟩ = some (.string ⟨fn.toArray⟩)) ∧ PkgsOk Z a ps.length cap ps ∧ Err4 Z er ∧ Below w.heap.size w Z) := fun Z hz => ⟨⟨(hz.cell (p := ⟨D, 0, none⟩) hsW).trans n0, (hz.cell (p := ⟨D, 1, none⟩) hsW).trans n1, (hz.cell (p := ⟨D, 2, none⟩) hsW).trans n2, (hz.cell (p := ⟨D, 3, none⟩) hsW).trans n3⟩, (h.below hb0).below hz, (hE.below hb0).below hz, hb0.trans (hz.mono hb0.size)⟩
  have HT : Hid (_) := implPlaceCalled a ps.length cap ps f x W (HZ.out W (Below.refl _ _)).2.1 hf
  have hsm := h.small
  have HI : Hid (i ≤ (ps.getD f pk0).2.2.length) := hi
  clear h hE hb0 hcv hi
  go_enter Tryz.func70, Tryz.ntmps70
  go_wp2_with fail
  refine Calls.mono HT.out ?_
  rintro e w1 ⟨rfl, hb1⟩
  clear HT n0 n1 n2 n3
  obtain ⟨⟨n0, n1, n2, n3⟩, hok, hE, HB⟩ := HZ.out w1 hb1
  rcases hw with ⟨et, hfr⟩ | ⟨t, ht, et, hfr, hof, hiff⟩
  · rw [et]
    obtain rfl := hfar hfr
    have g1 := hE.far
    have HB2 : Hid (_) := HB
    clear hok hE HB hway hfar
    go_wp2
    go_ret
    exact ⟨rfl, HB2.out⟩
  · rw [et]
    have hw2 := hway t hfr hof hiff
    have hln := fsTo_len (ps := ps) (f := f) (t := t) (i := i) (fun e => by rw [e]; exact HI.out)
    obtain ⟨b, off, rfl, hbl, c0, ia, il, ic, fa, fl, fc, c1, c2, hpk⟩ := hok.each t ht
    have ht2 : (t : Int) < (ps.length : Int) := by omega
    have htn : ¬ (t : Int) = -1 := by omega
    have htb : ((t : Int) == -1) = false := beq_eq_false_iff_ne.2 htn
    have hfll := hpk.fl
    have hfcc := hpk.fc.2
    have hflen : (ps.getD t pk0).2.2.length = fl := hpk.f.1
    have hFI : ∀ m : Nat, m = (if t = f then i else fl) → FuncsIn w1 fa m (fsTo ps f t i) := fun m hm => by
      unfold fsTo
      by_cases e : t = f
      · rw [if_pos e] at hm ⊢
        subst hm
        exact hpk.f.take (by have := HI.out; rw [← e, hflen] at this; exact this)
      · rw [if_neg e] at hm ⊢
        subst hm
        exact hpk.f
    have hml : (if t = f then i else fl) ≤ fl := by
      by_cases e : t = f
      · rw [if_pos e]; have := HI.out; rw [← e, hflen] at this; exact this
      · rw [if_neg e]; exact Nat.le_refl _
    generalize fsTo ps f t i = m at hw2 hln hFI
    have gf := hE.func
    have gc := hE.count
    have HE : Hid (Err4 w1 er) := hE
    have HB1 : Hid (Below W.heap.size W w1) := hb1
    have HP : Hid (FuncsIn w1 fa (if t = f then i else fl) m) := hFI _ rfl
    have HW : Hid (_) := hw2
    clear hway hfar hok hpk hE HB hb1 hiff hof hfr hw2 hFI c0 c1 hflen
    by_cases htf : t = f
    · subst htf
      rw [if_pos rfl] at HP hml
      have hself : ((t : Int) == (t : Int)) = true := by simp
      have hic : (i : Int) ≤ (fc : Int) := by omega
      have hic2 : i ≤ fc := by omega
      have HC : Hid (∀ cp, _) := fun cp => implPlaceOf fa i cp m fn w1 HP.out (by omega)
      clear hln
      go_wp2_with fail
      refine Calls.mono (HC.out _) ?_
      rintro e w2 ⟨rfl, hb2⟩
      have hP2 : FuncsIn w2 fa i m := HP.out.below hb2
      replace hb2 := HB1.out.trans (hb2.mono HB1.out.size)
      clear n0 n1 n2 n3 gf gc c2
      obtain ⟨⟨n0, n1, n2, n3⟩, hok, hE, HB⟩ := HZ.out w2 hb2
      have HB2 : Hid (_) := HB
      have gf := hE.func
      have gc := hE.count
      have hl2 : m.length = i := hP2.1
      rcases HW.out with ⟨ea, rfl⟩ | ⟨c, hc, ea, hw3⟩
      · rw [ea]
        clear hok hE HB HC HW hP2 HE hl2
        go_wp2
        go_ret
        exact ⟨rfl, HB2.out⟩
      · rw [ea]
        obtain ⟨b2, o2, rfl, hb2l, r0, r1, ta, tl, tc, r2, _, _⟩ := hP2.2 c (by omega)
        have hcn : ((c : Int) == -1) = false := beq_eq_false_iff_ne.2 (by omega)
        have hcl : (c : Int) < (i : Int) := by omega
        obtain ⟨ag, hag⟩ : ∃ ag, (m.getD c fn0).2.1 = ag := ⟨_, rfl⟩
        rw [hag] at hw3 r1
        clear hok hE HB HC HW hP2 HE hl2 HP ea hag r0 r2
        rcases hw3 with ⟨hA, rfl⟩ | ⟨rfl, rfl⟩
        · have hAb : (ag != A) = true := by rw [bne_iff_ne]; exact hA
          go_wp2_with fail
          go_quiet (fail)
          go_wp2
          go_ret
          exact ⟨rfl, HB2.out.trans ⟨rfl, rfl, rfl, Nat.le_refl _, fun _ _ => rfl⟩⟩
        · have hAb : (ag != ag) = false := by simp
          go_wp2_with fail
          go_quiet (fail)
          go_wp2
          go_ret
          exact ⟨rfl, HB2.out.trans ⟨rfl, rfl, rfl, Nat.le_refl _, fun _ _ => rfl⟩⟩
    · rw [if_neg htf] at HP hml
      have hne : ((t : Int) == (f : Int)) = false := beq_eq_false_iff_ne.2 (by omega)
      have HC : Hid (∀ cp, _) := fun cp => implPlaceOf fa fl cp m fn w1 HP.out (by omega)
      clear hln
      go_wp2_with fail
      refine Calls.mono (HC.out _) ?_
      rintro e w2 ⟨rfl, hb2⟩
      have hP2 : FuncsIn w2 fa fl m := HP.out.below hb2
      replace hb2 := HB1.out.trans (hb2.mono HB1.out.size)
      clear n0 n1 n2 n3 gf gc c2
      obtain ⟨⟨n0, n1, n2, n3⟩, hok, hE, HB⟩ := HZ.out w2 hb2
      have HB2 : Hid (_) := HB
      have gf := hE.func
      have gc := hE.count
      have hl2 : m.length = fl := hP2.1
      rcases HW.out with ⟨ea, rfl⟩ | ⟨c, hc, ea, hw3⟩
      · rw [ea]
        clear hok hE HB HC HW hP2 HE hl2
        go_wp2
        go_ret
        exact ⟨rfl, HB2.out⟩
      · rw [ea]
        obtain ⟨b2, o2, rfl, hb2l, r0, r1, ta, tl, tc, r2, _, _⟩ := hP2.2 c (by omega)
        have hcn : ((c : Int) == -1) = false := beq_eq_false_iff_ne.2 (by omega)
        have hcl : (c : Int) < (fl : Int) := by omega
        obtain ⟨ag, hag⟩ : ∃ ag, (m.getD c fn0).2.1 = ag := ⟨_, rfl⟩
        rw [hag] at hw3 r1
        clear hok hE HB HC HW hP2 HE hl2 HP ea hag r0 r2
        rcases hw3 with ⟨hA, rfl⟩ | ⟨rfl, rfl⟩
        · have hAb : (ag != A) = true := by rw [bne_iff_ne]; exact hA
          go_wp2_with fail
          go_quiet (fail)
          go_wp2
          go_ret
          exact ⟨rfl, HB2.out.trans ⟨rfl, rfl, rfl, Nat.le_refl _, fun _ _ => rfl⟩⟩
        · have hAb : (ag != ag) = false := by simp
          go_wp2_with fail
          go_quiet (fail)
          go_wp2
          go_ret
          exact ⟨rfl, HB2.out.trans ⟨rfl, rfl, rfl, Nat.le_refl _, fun _ _ => rfl⟩⟩

set_option maxHeartbeats 4000000 in
set_option maxRecDepth 100000 in
theorem implCodeOfCall (c : Int) (er : Nat → Addr) (w : World) (hE : Err4 w er) (hc : -1 ≤ c ∧ c ≤ 3) :
    Calls Tryz.prog 40 #[cwV er c] w fun e w' => e = .returned (.int .i64 c) ∧ w' = w := by
  have gt := hE.told
  have g1 := hE.far
  have g2 := hE.func
  have g3 := hE.count
  unfold sentV at gt g1 g2 g3
  have h0 := hE.at0
  have h1 := hE.at1
  have h2 := hE.at2
  have h3 := hE.at3
  obtain ⟨d01, d02, d03, d12, d13, d23⟩ := hE.ne
  clear hE
  rcases (show c = 0 ∨ c = -1 ∨ c = 1 ∨ c = 2 ∨ c = 3 by omega) with rfl | rfl | rfl | rfl | rfl
  · have hv : cwV er 0 = .nilIface := rfl
    rw [hv]
    go_enter Tryz.func40, Tryz.ntmps40
    go_wp2
    go_ret
    exact ⟨rfl, rfl⟩
  · have hv : cwV er (-1) = .iface 215 (.pointer (some (er 0))) := rfl
    rw [hv]
    go_enter Tryz.func40, Tryz.ntmps40
    go_wp2_with fail
    refine Calls.mono (is_other (er 0) (er 1) w d01 h0 h1) ?_
    rintro e w1 ⟨rfl, hw⟩
    obtain rfl := hw.symm
    clear hw
    go_wp2_with fail
    refine Calls.mono (is_other (er 0) (er 2) w d02 h0 h2) ?_
    rintro e w2 ⟨rfl, hw⟩
    obtain rfl := hw.symm
    clear hw
    go_wp2_with fail
    refine Calls.mono (is_other (er 0) (er 3) w d03 h0 h3) ?_
    rintro e w3 ⟨rfl, hw⟩
    obtain rfl := hw.symm
    clear hw
    go_wp2
    go_ret
    exact ⟨rfl, rfl⟩
  · have hv : cwV er (1) = .iface 215 (.pointer (some (er 1))) := rfl
    rw [hv]
    go_enter Tryz.func40, Tryz.ntmps40
    go_wp2_with fail
    refine Calls.mono (is_same (er 1) w) ?_
    rintro e w1 ⟨rfl, hw⟩
    obtain rfl := hw.symm
    clear hw
    go_wp2
    go_ret
    exact ⟨rfl, rfl⟩
  · have hv : cwV er (2) = .iface 215 (.pointer (some (er 2))) := rfl
    rw [hv]
    go_enter Tryz.func40, Tryz.ntmps40
    go_wp2_with fail
    refine Calls.mono (is_other (er 2) (er 1) w d12.symm h2 h1) ?_
    rintro e w1 ⟨rfl, hw⟩
    obtain rfl := hw.symm
    clear hw
    go_wp2_with fail
    refine Calls.mono (is_same (er 2) w) ?_
    rintro e w2 ⟨rfl, hw⟩
    obtain rfl := hw.symm
    clear hw
    go_wp2
    go_ret
    exact ⟨rfl, rfl⟩
  · have hv : cwV er (3) = .iface 215 (.pointer (some (er 3))) := rfl
    rw [hv]
    go_enter Tryz.func40, Tryz.ntmps40
    go_wp2_with fail
    refine Calls.mono (is_other (er 3) (er 1) w d13.symm h3 h1) ?_
    rintro e w1 ⟨rfl, hw⟩
    obtain rfl := hw.symm
    clear hw
    go_wp2_with fail
    refine Calls.mono (is_other (er 3) (er 2) w d23.symm h3 h2) ?_
    rintro e w2 ⟨rfl, hw⟩
    obtain rfl := hw.symm
    clear hw
    go_wp2_with fail
    refine Calls.mono (is_same (er 3) w) ?_
    rintro e w3 ⟨rfl, hw⟩
    obtain rfl := hw.symm
    clear hw
    go_wp2
    go_ret
    exact ⟨rfl, rfl⟩

theorem callV_no {ps : List Pk} {s : List UInt8} {i : Int} {n : Nd} (h : ¬ callB ps s i n) : callV ps s i n = -1 := if_neg h
/-- Where a package is looked for in a project: nowhere, or at its place. -/
theorem in_cases (ps : List Pk) (s : List UInt8) : ((if projB ps = true then at8 ps s else -1) = -1 ∧ ¬ (projB ps = true ∧ 0 ≤ at8 ps s)) ∨ ∃ f, f < ps.length ∧ (if projB ps = true then at8 ps s else -1) = (f : Int) ∧ projB ps = true ∧ 0 ≤ at8 ps s ∧ pkOf ps s = ps.getD f pk0 := by
  by_cases h : projB ps = true
  · rw [if_pos h]
    rcases at8_is ps s with ⟨e, _⟩ | ⟨f, hf, e, _, _⟩
    · exact Or.inl ⟨e, fun g => by have := g.2; omega⟩
    · exact Or.inr ⟨f, hf, e, h, by omega, by unfold pkOf; rw [e, Int.toNat_natCast]⟩
  · rw [if_neg h]
    exact Or.inl ⟨rfl, fun g => h g.1⟩

set_option maxHeartbeats 4000000 in
set_option maxRecDepth 100000 in
theorem implAsked (a : Option Addr) (len cap : Nat) (ps : List Pk) (s : List UInt8) (i : Int) (n : Nd) (er : Nat → Addr) (w : World) (h : PkgsOk w a len cap ps) (hE : Err4 w er) (hn : IntN n) (hp : n.2.2.1.length ≤ 1048576) (hf : n.2.2.2.length ≤ 1048576) :
    Calls Tryz.prog 41 #[.slice a len cap, .string ⟨s.toArray⟩, .int .i64 i, nodeVal n] w fun e w' => e = .returned (cwV er (callV ps s i n)) ∧ Below w.heap.size w w' := by
  obtain rfl : ps.length = len := h.hlen
  obtain ⟨k, A, x, fn⟩ := n
  obtain ⟨cv, hcv⟩ : ∃ cv, callV ps s i (k, A, x, fn) = cv := ⟨_, rfl⟩
  have hw := in_cases ps s
  have HNo : Hid (∀ Z, Calls Tryz.prog 69 #[.agg #[.int .i64 k, .int .i64 A, .string ⟨x.toArray⟩, .string ⟨fn.toArray⟩]] Z fun e w' => e = .returned (.bool (nodeB (k, A, x, fn))) ∧ Below Z.heap.size Z w') := fun Z => implNodeOk (k, A, x, fn) Z hn hp hf
  rw [hcv]
  unfold nodeVal
  simp only
  obtain ⟨⟨n0, n1, n2, n3⟩, hb0⟩ := node_new w (.int .i64 k) (.int .i64 A) (.string ⟨x.toArray⟩) (.string ⟨fn.toArray⟩) 44
  obtain ⟨W, hW⟩ : ∃ W, w.alloc (.cells #[.int .i64 k, .int .i64 A, .string ⟨x.toArray⟩, .string ⟨fn.toArray⟩] 44) = W := ⟨_, rfl⟩
  rw [hW] at n0 n1 n2 n3 hb0
  have hsW : w.heap.size < W.heap.size := by rw [← hW]; simp
  obtain ⟨D, hD⟩ : ∃ D, w.heap.size = D := ⟨_, rfl⟩
  rw [hD] at n0 n1 n2 n3 hsW
  have HZ : Hid (∀ Z, Below W.heap.size W Z → (Z.cell? ⟨D, 0, none⟩ = some (.int .i64 k) ∧ Z.cell? ⟨D, 1, none⟩ = some (.int .i64 A) ∧ Z.cell? ⟨D, 2, none⟩ = some (.string ⟨x.toArray⟩) ∧ Z.cell? ⟨D, 3, none⟩ = some (.string ⟨fn.toArray⟩)) ∧ PkgsOk Z a ps.length cap ps ∧ Err4 Z er ∧ Below w.heap.size w Z) := fun Z hz => ⟨⟨(hz.cell (p := ⟨D, 0, none⟩) hsW).trans n0, (hz.cell (p := ⟨D, 1, none⟩) hsW).trans n1, (hz.cell (p := ⟨D, 2, none⟩) hsW).trans n2, (hz.cell (p := ⟨D, 3, none⟩) hsW).trans n3⟩, (h.below hb0).below hz, (hE.below hb0).below hz, hb0.trans (hz.mono hb0.size)⟩
  have HT : Hid (_) := implPlaceIn a ps.length cap ps s W (HZ.out W (Below.refl _ _)).2.1
  have hsm := h.small
  have HCV : Hid (callV ps s i (k, A, x, fn) = cv) := hcv
  clear h hE hb0 hcv hn hp hf
  go_enter Tryz.func41, Tryz.ntmps41
  go_wp2_with fail
  refine Calls.mono HT.out ?_
  rintro e w1 ⟨rfl, hb1⟩
  clear HT n0 n1 n2 n3
  obtain ⟨⟨n0, n1, n2, n3⟩, hok, hE, HB⟩ := HZ.out w1 hb1
  rcases hw with ⟨et, hno⟩ | ⟨f, hfl, et, hpj, hat, hpk⟩
  · rw [et]
    obtain rfl : cv = -1 := HCV.out.symm.trans (callV_no (fun g => hno ⟨g.1, g.2.1⟩))
    have g1 := hE.told
    have HB2 : Hid (_) := HB
    clear hok hE HB HNo hno et HCV
    go_wp2
    go_ret
    exact ⟨rfl, HB2.out⟩
  · rw [et]
    have hfn : ¬ (f : Int) = -1 := by omega
    have hfb : ((f : Int) == -1) = false := beq_eq_false_iff_ne.2 hfn
    have HB2 : Hid (_) := HB
    by_cases hk : k = 8
    · subst hk
      obtain ⟨nb, hnb⟩ : ∃ nb, nodeB (8, A, x, fn) = nb := ⟨_, rfl⟩
      have HNB : Hid (nodeB (8, A, x, fn) = nb) := hnb
      rw [hnb] at HNo
      have g1 := hE.told
      clear hnb et hok hE HB
      go_wp2_with fail
      refine Calls.mono (HNo.out _) ?_
      rintro e w2 ⟨rfl, hb2⟩
      replace hb2 := hb1.trans (hb2.mono hb1.size)
      clear n0 n1 n2 n3 g1 HB2
      obtain ⟨⟨n0, n1, n2, n3⟩, hok, hE, HB⟩ := HZ.out w2 hb2
      rcases nb with _ | _
      · obtain rfl : cv = -1 := HCV.out.symm.trans (callV_no (fun g => by have h1 := g.2.2.1; rw [HNB.out] at h1; cases h1))
        have g1 := hE.told
        have HB2 : Hid (_) := HB
        clear hok hE HB HNo HCV HNB
        go_wp2
        go_ret
        exact ⟨rfl, HB2.out⟩
      · obtain ⟨b, off, rfl, hbl, c0, ia, il, ic, fa, fl, fc, c1, c2, hpk2⟩ := hok.each f hfl
        have hf2 : (f : Int) < (ps.length : Int) := by omega
        have hfll := hpk2.fl
        have hflen : (ps.getD f pk0).2.2.length = fl := hpk2.f.1
        have g1 := hE.told
        have HB2 : Hid (_) := HB
        by_cases hlo : i < 0
        · obtain rfl : cv = -1 := HCV.out.symm.trans (callV_no (fun g => by have h1 := g.2.2.2.2.1; omega))
          clear hok hE HB HNo HCV HNB hpk2 c0 c1
          go_wp2
          go_ret
          exact ⟨rfl, HB2.out⟩
        · by_cases hhi : (fl : Int) ≤ i
          · obtain rfl : cv = -1 := HCV.out.symm.trans (callV_no (fun g => by have h1 := g.2.2.2.2.2; rw [hpk, hflen] at h1; omega))
            clear hok hE HB HNo HCV HNB hpk2 c0 c1
            go_wp2
            go_ret
            exact ⟨rfl, HB2.out⟩
          · obtain ⟨j, rfl⟩ : ∃ j : Nat, i = (j : Int) := ⟨i.toNat, by omega⟩
            have hV : callV ps s (j : Int) (8, A, x, fn) = call9 ps (ps.getD f pk0) (j : Int) (8, A, x, fn) := by
              unfold callV
              rw [if_pos ⟨hpj, hat, HNB.out, rfl, by omega, by rw [hpk, hflen]; omega⟩, hpk]
            have HC : Hid (_) := implCallWrong (some ⟨b, off, none⟩) ps.length cap ps f j (8, A, x, fn) er w2 hok hE hfl (by rw [hflen]; omega)
            rw [← hV, HCV.out] at HC
            unfold nodeVal at HC
            simp only at HC
            clear hok hE HB HNo HCV HNB hpk2 c0 c1 hV
            go_wp2_with fail
            refine Calls.mono HC.out ?_
            rintro e w3 ⟨rfl, hb3⟩
            have HB3 : Hid (_) := HB2.out.trans (hb3.mono HB2.out.size)
            clear hb3
            go_wp2
            go_ret
            exact ⟨rfl, HB3.out⟩
    · obtain rfl : cv = -1 := HCV.out.symm.trans (callV_no (fun g => hk g.2.2.2.1))
      have hkb : (k != 8) = true := by rw [bne_iff_ne]; exact hk
      have g1 := hE.told
      clear hok hE HB HNo et HCV
      go_wp2
      go_ret
      exact ⟨rfl, HB2.out⟩

theorem implCallCode (a : Option Addr) (len cap : Nat) (ps : List Pk) (s : List UInt8) (at_ : Int) (n : Nd) (er : Nat → Addr) (w : World) (hE : Err4 w er) (h : PkgsOk w a len cap ps) (_hs : s.length ≤ 1048576) (hn : IntN n) (hp : n.2.2.1.length ≤ 1048576) (hf : n.2.2.2.length ≤ 1048576) (_hat : -9223372036854775808 ≤ at_ ∧ at_ ≤ 9223372036854775807) :
    Calls Tryz.prog 17 #[.slice a len cap, .string ⟨s.toArray⟩, .int .i64 at_, nodeVal n] w fun e w' => e = .returned (.int .i64 (callV ps s at_ n)) ∧ Below w.heap.size w w' := by
  obtain ⟨k, A, x, fn⟩ := n
  have hbd := callV_bd ps s at_ (k, A, x, fn)
  obtain ⟨⟨n0, n1, n2, n3⟩, hb0⟩ := node_new w (.int .i64 k) (.int .i64 A) (.string ⟨x.toArray⟩) (.string ⟨fn.toArray⟩) 44
  obtain ⟨W, hW⟩ : ∃ W, w.alloc (.cells #[.int .i64 k, .int .i64 A, .string ⟨x.toArray⟩, .string ⟨fn.toArray⟩] 44) = W := ⟨_, rfl⟩
  rw [hW] at n0 n1 n2 n3 hb0
  have HA : Hid (_) := implAsked a len cap ps s at_ (k, A, x, fn) er W (h.below hb0) (hE.below hb0) hn hp hf
  have hEW := hE.below hb0
  generalize callV ps s at_ (k, A, x, fn) = cv at hbd HA ⊢
  unfold nodeVal at HA ⊢
  simp only at HA ⊢
  clear h hE
  go_enter Tryz.func17, Tryz.ntmps17
  go_wp2_with fail
  refine Calls.mono HA.out ?_
  rintro e w1 ⟨rfl, hb1⟩
  have HC : Hid (_) := implCodeOfCall cv er w1 (hEW.below hb1) hbd
  have HB : Hid (Below w.heap.size w w1) := hb0.trans (hb1.mono hb0.size)
  clear HA hEW hb1 n0 n1 n2 n3
  go_wp2_with fail
  refine Calls.mono HC.out ?_
  rintro e w2 ⟨rfl, hw2⟩
  obtain rfl := hw2.symm
  go_wp2
  go_ret
  exact ⟨rfl, HB.out⟩

end Go.Proofs.YtdjglpcllcjcfaaGreatDoor

/-! An error that is wrapped by the program's own type: errors.Is and errors.As of it (Go's own text walked). -/
namespace Go.Proofs.YtdjglpcllcjcfaaGreatDoor
open Go.RowKit Go.Extern.Stop Go.Stop Go.Extern

/-- An error that tells where: package, function, and what. -/
def wrapV (p f : List UInt8) (a : Addr) : Value := .iface 57 (.agg #[.string ⟨p.toArray⟩, .string ⟨f.toArray⟩, sentV a])

/-- All eight: 0 not told, 1 far, 2 func, 3 count, 4 import, 5 ring, 6 arg, 7 main; and errors.errorType. -/
structure Err8 (w : World) (e : Nat → Addr) : Prop where
  four : Err4 w e
  imp : w.cell? ⟨2, 0, none⟩ = some (sentV (e 4))
  ring : w.cell? ⟨3, 0, none⟩ = some (sentV (e 5))
  arg : w.cell? ⟨4, 0, none⟩ = some (sentV (e 6))
  main : w.cell? ⟨1, 0, none⟩ = some (sentV (e 7))
  at_ : ∀ i, i < 8 → SentAt w (e i)
  ne : ∀ i j, i < 8 → j < 8 → i ≠ j → e i ≠ e j
  ety : w.cell? ⟨5, 0, none⟩ = some (.iface 128 (.agg #[.pointer (some ⟨12, 53, none⟩)]))
theorem Err8.below {w w' : World} {e : Nat → Addr} (h : Err8 w e) (hb : Below w.heap.size w w') : Err8 w' e :=
  ⟨h.four.below hb, sent_below h.imp hb, sent_below h.ring hb, sent_below h.arg hb, sent_below h.main hb, fun i hi => (h.at_ i hi).below hb, h.ne, sent_below h.ety hb⟩

/-! ### Closed facts. -/
theorem noIsW (v : Value) (xT : TypeId) (w : World) : (Instr.typeAssert (.iface 57 v) xT 174 true).run Tryz.prog w = .ok (.tuple #[.nilIface, .bool false]) w := run_typeAssert_lacksB Tryz.underlying174 (by kernel_rfl) (by kernel_rfl) v xT w
theorem hasUnwrapW (v : Value) (xT : TypeId) (w : World) : (Instr.typeAssert (.iface 57 v) xT 135 true).run Tryz.prog w = .ok (.tuple #[.iface 57 v, .bool true]) w := run_typeAssert_hasB Tryz.underlying135 (by kernel_rfl) v xT w
theorem methodUnwrapW (v : Value) (w : World) : (Go.method 346 57 v "Unwrap").run Tryz.prog w = .ok (162, v) w := by kernel_rfl

set_option maxHeartbeats 4000000 in
set_option maxRecDepth 100000 in
theorem is_wrap_same (p f : List UInt8) (a : Addr) (w : World) :
    Calls Tryz.prog 52 #[.iface 57 (.agg #[.string ⟨p.toArray⟩, .string ⟨f.toArray⟩, .iface 215 (.pointer (some a))]), .iface 215 (.pointer (some a))] w fun e w' => e = .returned (.bool true) ∧ Below w.heap.size w w' := by
  obtain ⟨i, hi, hcmp⟩ := Option.map_eq_some_iff.1 isComp
  obtain ⟨j, hj, hjs⟩ := Option.map_eq_some_iff.1 isSize
  have h8 := @run_callFunc_extern Tryz.prog 92 _ Extern.ReflectliteType.typeOf Tryz.func92 (by kernel_rfl) (by kernel_rfl) (by kernel_rfl) (by kernel_rfl)
  have h32 := @run_callFunc_extern Tryz.prog 173 _ cmpE Tryz.func173 (by kernel_rfl) (by kernel_rfl) (by kernel_rfl) (by kernel_rfl)
  have tT := isTypeOf
  have cT := isComparable
  have mR := isMethodComparable
  have nW := noIsW
  have uW := hasUnwrapW
  have mU := methodUnwrapW
  have heq : ∀ W : World, _ := fun W => run_eql_iface_ptr_same (P := Tryz.prog) W a Tryz.underlying53 Tryz.underlying215 hi hcmp hj
  have hty : ∀ W : World, _ := fun W => run_eql_iface_types (P := Tryz.prog) 57 215 (.agg #[.string ⟨p.toArray⟩, .string ⟨f.toArray⟩, .iface 215 (.pointer (some a))]) (.pointer (some a)) Tryz.underlying53 (by decide) W
  have hbn : Below w.heap.size w (w.alloc (.cells #[.string ⟨p.toArray⟩, .string ⟨f.toArray⟩, .iface 215 (.pointer (some a))] 57)) := (Below.refl _ _).alloc (Nat.le_refl _) _
  go_enter Tryz.func52, Tryz.ntmps52
  go_wp2
  refine wp_loop_rounds 2 ?_
  rw [rounds_succ]
  go_wp2
  rw [rounds_succ]
  go_wp2
  go_ret
  exact ⟨rfl, hbn⟩

set_option maxHeartbeats 4000000 in
set_option maxRecDepth 100000 in
theorem is_wrap_other (p f : List UInt8) (a b : Addr) (w : World) (hne : a ≠ b) (hsa : SentAt w a) (hsb : SentAt w b) :
    Calls Tryz.prog 52 #[.iface 57 (.agg #[.string ⟨p.toArray⟩, .string ⟨f.toArray⟩, .iface 215 (.pointer (some a))]), .iface 215 (.pointer (some b))] w fun e w' => e = .returned (.bool false) ∧ Below w.heap.size w w' := by
  have hbn : Below w.heap.size w (w.alloc (.cells #[.string ⟨p.toArray⟩, .string ⟨f.toArray⟩, .iface 215 (.pointer (some a))] 57)) := (Below.refl _ _).alloc (Nat.le_refl _) _
  obtain ⟨ca, ta, ha⟩ := hsa.below hbn
  obtain ⟨cb, tb, hb⟩ := hsb.below hbn
  obtain ⟨i, hi, hcmp⟩ := Option.map_eq_some_iff.1 isComp
  obtain ⟨j, hj, hjs⟩ := Option.map_eq_some_iff.1 isSize
  have h8 := @run_callFunc_extern Tryz.prog 92 _ Extern.ReflectliteType.typeOf Tryz.func92 (by kernel_rfl) (by kernel_rfl) (by kernel_rfl) (by kernel_rfl)
  have h32 := @run_callFunc_extern Tryz.prog 173 _ cmpE Tryz.func173 (by kernel_rfl) (by kernel_rfl) (by kernel_rfl) (by kernel_rfl)
  have tT := isTypeOf
  have cT := isComparable
  have mR := isMethodComparable
  have nE := noIsE
  have uE := noUnwrapE
  have vE := noUnwrapsE
  have nW := noIsW
  have uW := hasUnwrapW
  have mU := methodUnwrapW
  have heq := run_eql_iface_ptr_other (P := Tryz.prog) (w.alloc (.cells #[.string ⟨p.toArray⟩, .string ⟨f.toArray⟩, .iface 215 (.pointer (some a))] 57)) Tryz.underlying53 Tryz.underlying215 hi hcmp hj (by rw [hjs]; decide) hne ha hb
  have hty : ∀ W : World, _ := fun W => run_eql_iface_types (P := Tryz.prog) 57 215 (.agg #[.string ⟨p.toArray⟩, .string ⟨f.toArray⟩, .iface 215 (.pointer (some a))]) (.pointer (some b)) Tryz.underlying53 (by decide) W
  clear ha hb
  go_enter Tryz.func52, Tryz.ntmps52
  go_wp2
  refine wp_loop_rounds 2 ?_
  rw [rounds_succ]
  go_wp2
  rw [rounds_succ]
  go_wp2
  go_ret
  exact ⟨rfl, hbn⟩

end Go.Proofs.YtdjglpcllcjcfaaGreatDoor

/-! errors.As at the program's own error type (Go's own text walked): of an error that tells where, and of one that does not. -/
namespace Go.Proofs.YtdjglpcllcjcfaaGreatDoor
open Go.RowKit Go.Extern.Stop Go.Stop Go.Extern

/-! ### What the model does at reflectlite's entries. -/
noncomputable def valE : Array Value → Sem Value := (Go.Extern.find Tryz.f53).getD (fun _ => pure (.bool false))
noncomputable def typE : Array Value → Sem Value := (Go.Extern.find Tryz.f54).getD (fun _ => pure (.bool false))
noncomputable def nilE : Array Value → Sem Value := (Go.Extern.find Tryz.f55).getD (fun _ => pure (.bool false))
noncomputable def kinE : Array Value → Sem Value := (Go.Extern.find Tryz.f157).getD (fun _ => pure (.bool false))
noncomputable def eltE : Array Value → Sem Value := (Go.Extern.find Tryz.f174).getD (fun _ => pure (.bool false))
noncomputable def impE : Array Value → Sem Value := (Go.Extern.find Tryz.f175).getD (fun _ => pure (.bool false))
noncomputable def asgE : Array Value → Sem Value := (Go.Extern.find Tryz.f172).getD (fun _ => pure (.bool false))
noncomputable def elvE : Array Value → Sem Value := (Go.Extern.find Tryz.f94).getD (fun _ => pure (.bool false))
noncomputable def setE : Array Value → Sem Value := (Go.Extern.find Tryz.f95).getD (fun _ => pure (.bool false))

/-- A type's handle, as a Type; a Value of it. -/
abbrev rtV (t : TypeId) : Value := .iface 128 (.agg #[.pointer (some ⟨12, t, none⟩)])
abbrev vlV (t : TypeId) (a : Addr) (f : Int) : Value := .agg #[.pointer (some ⟨12, t, none⟩), .pointer (some a), .int .u64 f]

theorem asVal (t : Addr) (w : World) : (valE #[.iface 59 (.pointer (some t))]).run Tryz.prog w = .ok (vlV 59 ⟨w.heap.size, 0, none⟩ 150) (w.alloc (.cells #[.pointer (some t)] 59)) := by kernel_rfl
theorem asTyp (a : Addr) (w : World) : (typE #[vlV 59 a 150]).run Tryz.prog w = .ok (rtV 59) w := by kernel_rfl
theorem asMKind (h : Value) (w : World) : (Go.method 346 128 (.agg #[h]) "Kind").run Tryz.prog w = .ok (157, h) w := by kernel_rfl
theorem asKindP (w : World) : (kinE #[.pointer (some ⟨12, 59, none⟩)]).run Tryz.prog w = .ok (.int .u8 22) w := by kernel_rfl
theorem asKindS (w : World) : (kinE #[.pointer (some ⟨12, 57, none⟩)]).run Tryz.prog w = .ok (.int .u8 25) w := by kernel_rfl
theorem asMElem (h : Value) (w : World) : (Go.method 346 128 (.agg #[h]) "Elem").run Tryz.prog w = .ok (174, .agg #[h]) w := by kernel_rfl
theorem asElem (w : World) : (eltE #[.agg #[.pointer (some ⟨12, 59, none⟩)]]).run Tryz.prog w = .ok (rtV 57) w := by kernel_rfl
theorem asMImpl (h : Value) (w : World) : (Go.method 346 128 (.agg #[h]) "Implements").run Tryz.prog w = .ok (175, .agg #[h]) w := by kernel_rfl
theorem asImpl (w : World) : (impE #[.agg #[.pointer (some ⟨12, 57, none⟩)], rtV 53]).run Tryz.prog w = .ok (.bool true) w := by kernel_rfl
theorem asMAsg (h : Value) (w : World) : (Go.method 346 128 (.agg #[h]) "AssignableTo").run Tryz.prog w = .ok (172, .agg #[h]) w := by kernel_rfl
theorem asAsgW (w : World) : (asgE #[.agg #[.pointer (some ⟨12, 57, none⟩)], rtV 57]).run Tryz.prog w = .ok (.bool true) w := by kernel_rfl
theorem asAsgE (w : World) : (asgE #[.agg #[.pointer (some ⟨12, 215, none⟩)], rtV 57]).run Tryz.prog w = .ok (.bool false) w := by kernel_rfl
theorem asTypeOfW (v : Value) (w : World) : (Extern.ReflectliteType.typeOf #[.iface 57 v]).run Tryz.prog w = .ok (rtV 57) w := by kernel_rfl
theorem asValW (a b c : Value) (w : World) : (valE #[.iface 57 (.agg #[a, b, c])]).run Tryz.prog w = .ok (vlV 57 ⟨w.heap.size, 0, none⟩ 153) (w.alloc (.cells #[a, b, c] 57)) := by kernel_rfl
theorem noAsE (v : Value) (xT : TypeId) (w : World) : (Instr.typeAssert (.iface 215 v) xT 132 true).run Tryz.prog w = .ok (.tuple #[.nilIface, .bool false]) w := run_typeAssert_lacksB Tryz.underlying132 (by kernel_rfl) (by kernel_rfl) v xT w

/-! ### The entries that read or write memory. -/
theorem asPartsP (a : Addr) (w : World) : (ReflectliteValue.parts (vlV 59 a 150)).run Tryz.prog w = .ok (some (59, a, 150)) w := by kernel_rfl
theorem asPartsT (a : Addr) (w : World) : (ReflectliteValue.parts (vlV 57 a 409)).run Tryz.prog w = .ok (some (57, a, 409)) w := by kernel_rfl
theorem asPartsS (a : Addr) (w : World) : (ReflectliteValue.parts (vlV 57 a 153)).run Tryz.prog w = .ok (some (57, a, 153)) w := by kernel_rfl
theorem asElemOf (w : World) : (Rtype.elem? 59).run Tryz.prog w = .ok (some 57) w := by kernel_rfl
theorem asMk (p : Addr) (w : World) : (ReflectliteValue.mk 57 p ReflectliteValue.flagAddr).run Tryz.prog w = .ok (vlV 57 p 409) w := by kernel_rfl
theorem asDirect (w : World) : (Rtype.directlyAssignable 57 57).run Tryz.prog w = .ok true w := by kernel_rfl
theorem asInfo : (Tryz.prog.info? 57).map (·.size) = some 3 := by kernel_rfl
theorem asNil (a p : Addr) (W : World) (ha : W.cell? a = some (.pointer (some p))) : (nilE #[vlV 59 a 150]).run Tryz.prog W = .ok (.bool false) W := by
  have e : nilE = ReflectliteValue.method (ReflectliteValue.valueError "reflectlite.Value.IsNil" 0) ReflectliteValue.isNil := by kernel_rfl
  rw [e, show ReflectliteValue.method (ReflectliteValue.valueError "reflectlite.Value.IsNil" 0) ReflectliteValue.isNil #[vlV 59 a 150] = (ReflectliteValue.parts (vlV 59 a 150) >>= _) from rfl]
  simp only [Sem.run_bind, asPartsP, Result.andThen]
  simp [ReflectliteValue.isNil, loadVar, isAgg, underlying, Tryz.underlying59, ha, Result.andThen]
theorem asElv (a p : Addr) (W : World) (ha : W.cell? a = some (.pointer (some p))) : (elvE #[vlV 59 a 150]).run Tryz.prog W = .ok (vlV 57 p 409) W := by
  have e : elvE = ReflectliteValue.method (ReflectliteValue.valueError "reflectlite.Value.Elem" 0) ReflectliteValue.elem := by kernel_rfl
  rw [e, show ReflectliteValue.method (ReflectliteValue.valueError "reflectlite.Value.Elem" 0) ReflectliteValue.elem #[vlV 59 a 150] = (ReflectliteValue.parts (vlV 59 a 150) >>= _) from rfl]
  simp only [Sem.run_bind, asPartsP, Result.andThen]
  simp [ReflectliteValue.elem, loadVar, isAgg, underlying, Tryz.underlying59, ha, Result.andThen, asElemOf, asMk]
theorem asSet (T b : Nat) (t0 t1 : TypeId) (old : Array Value) (x y z : Value) (W : World) (ho : W.heap[T]? = some (.cells old t0 (0, 0))) (hs : old.size = 3) (hb : W.heap[b]? = some (.cells #[x, y, z] t1 (0, 0))) (h1 : (#[x, y, z].all (·.oneCell')) = true) :
    (setE #[vlV 57 ⟨T, 0, none⟩ 409, vlV 57 ⟨b, 0, none⟩ 153]).run Tryz.prog W = .ok (.tuple #[]) (W.setRow T #[x, y, z]) := by
  have e : setE = ReflectliteValue.set := by kernel_rfl
  have hl : (loadVar 57 ⟨b, 0, none⟩).run Tryz.prog W = .ok (.agg #[x, y, z]) W := run_loadVar_row W b t1 57 #[x, y, z] (0, 0) _ hb Tryz.underlying57 rfl (by rw [asInfo]; rfl)
  have hst : (storeVar 57 ⟨T, 0, none⟩ (.agg #[x, y, z])).run Tryz.prog W = .ok () (W.setRow T #[x, y, z]) := run_storeVar_row W T t0 57 old #[x, y, z] ho (by rw [asInfo]; rfl) (by rw [hs]; rfl) h1
  rw [e, show ReflectliteValue.set #[vlV 57 ⟨T, 0, none⟩ 409, vlV 57 ⟨b, 0, none⟩ 153] = (ReflectliteValue.parts (vlV 57 ⟨T, 0, none⟩ 409) >>= fun p => ReflectliteValue.parts (vlV 57 ⟨b, 0, none⟩ 153) >>= _) from rfl]
  simp only [Sem.run_bind, asPartsT, asPartsS, Result.andThen]
  simp [ReflectliteValue.flagAddr, hl, hst, asDirect, Result.andThen]

end Go.Proofs.YtdjglpcllcjcfaaGreatDoor

/-! errors.As at the program's own error type: its two contracts. -/
namespace Go.Proofs.YtdjglpcllcjcfaaGreatDoor
open Go.RowKit Go.Extern.Stop Go.Stop Go.Extern

/-- The Value of the target, in a block. -/
abbrev tgO (w : World) : Obj := .cells #[.pointer (some ⟨12, 59, none⟩), .pointer (some ⟨w.heap.size, 0, none⟩), .int .u64 150] 87
abbrev tg1 (w : World) (t : Addr) : World := w.alloc (.cells #[.pointer (some t)] 59)
abbrev tg2 (w : World) (t : Addr) : World := (tg1 w t).alloc (tgO w)
abbrev tg3 (w : World) (t : Addr) : World := (tg2 w t).alloc (tgO w)
theorem tg_cell (w : World) (t : Addr) : (tg2 w t).cell? ⟨w.heap.size, 0, none⟩ = some (.pointer (some t)) ∧ (tg3 w t).cell? ⟨w.heap.size, 0, none⟩ = some (.pointer (some t)) := by
  have h1 : (tg1 w t).cell? ⟨w.heap.size, 0, none⟩ = some (.pointer (some t)) := by rw [World.cell?_alloc_at _ _ _ _ (by simp)]; rfl
  have h2 : (tg2 w t).cell? ⟨w.heap.size, 0, none⟩ = some (.pointer (some t)) := by rw [World.cell?_alloc_lt _ _ ⟨w.heap.size, 0, none⟩ (by simp)]; exact h1
  exact ⟨h2, by rw [World.cell?_alloc_lt _ _ ⟨w.heap.size, 0, none⟩ (by simp; omega)]; exact h2⟩
theorem tg_below (w : World) (t : Addr) : Below w.heap.size w (tg2 w t) ∧ Below w.heap.size w (tg3 w t) := by
  have h1 : Below w.heap.size w (tg1 w t) := (Below.refl _ _).alloc (Nat.le_refl _) _
  have h2 : Below w.heap.size w (tg2 w t) := h1.alloc (by simp) _
  exact ⟨h2, h2.alloc (by simp; omega) _⟩

set_option maxHeartbeats 8000000 in
set_option maxRecDepth 100000 in
theorem as_miss (a t : Addr) (w : World) (hg : w.cell? ⟨5, 0, none⟩ = some (.iface 128 (.agg #[.pointer (some ⟨12, 53, none⟩)]))) :
    Calls Tryz.prog 25 #[.iface 215 (.pointer (some a)), .iface 59 (.pointer (some t))] w fun e w' => e = .returned (.bool false) ∧ Below w.heap.size w w' := by
  have h6 := @run_callFunc_extern Tryz.prog 53 _ valE Tryz.func53 (by kernel_rfl) (by kernel_rfl) (by kernel_rfl) (by kernel_rfl)
  have h7 := @run_callFunc_extern Tryz.prog 54 _ typE Tryz.func54 (by kernel_rfl) (by kernel_rfl) (by kernel_rfl) (by kernel_rfl)
  have h8 := @run_callFunc_extern Tryz.prog 55 _ nilE Tryz.func55 (by kernel_rfl) (by kernel_rfl) (by kernel_rfl) (by kernel_rfl)
  have h27 := @run_callFunc_extern Tryz.prog 157 _ kinE Tryz.func157 (by kernel_rfl) (by kernel_rfl) (by kernel_rfl) (by kernel_rfl)
  have h37 := @run_callFunc_extern Tryz.prog 174 _ eltE Tryz.func174 (by kernel_rfl) (by kernel_rfl) (by kernel_rfl) (by kernel_rfl)
  have h38 := @run_callFunc_extern Tryz.prog 175 _ impE Tryz.func175 (by kernel_rfl) (by kernel_rfl) (by kernel_rfl) (by kernel_rfl)
  have h10 := @run_callFunc_extern Tryz.prog 92 _ Extern.ReflectliteType.typeOf Tryz.func92 (by kernel_rfl) (by kernel_rfl) (by kernel_rfl) (by kernel_rfl)
  have h35 := @run_callFunc_extern Tryz.prog 172 _ asgE Tryz.func172 (by kernel_rfl) (by kernel_rfl) (by kernel_rfl) (by kernel_rfl)
  have tO := isTypeOf
  have mA := asMAsg
  have aE := asAsgE
  have f6 := asVal
  have f7 := asTyp
  have mK := asMKind
  have mE := asMElem
  have mI := asMImpl
  have kP := asKindP
  have kS := asKindS
  have e27 := asElem
  have i25 := asImpl
  have nA := noAsE
  have uE := noUnwrapE
  have vE := noUnwrapsE
  have n8 := asNil ⟨w.heap.size, 0, none⟩ t (tg2 w t) (tg_cell w t).1
  have hlt : 5 < w.heap.size := World.block_lt_of_cell? w ⟨5, 0, none⟩ hg
  have hg2 : (tg2 w t).cell? ⟨5, 0, none⟩ = some (.iface 128 (.agg #[.pointer (some ⟨12, 53, none⟩)])) := ((tg_below w t).1.cell (p := ⟨5, 0, none⟩) hlt).trans hg
  have hbt := (tg_below w t).2
  go_enter Tryz.func25, Tryz.ntmps25
  go_wp2
  refine wp_loop_rounds 1 ?_
  rw [rounds_succ]
  go_wp2
  go_ret
  exact ⟨rfl, hbt⟩

set_option maxHeartbeats 8000000 in
set_option maxRecDepth 100000 in
theorem as_hit (p f : List UInt8) (a : Addr) (T : Nat) (t0 : TypeId) (old : Array Value) (w : World) (ho : w.heap[T]? = some (.cells old t0 (0, 0))) (hs : old.size = 3) (hg : w.cell? ⟨5, 0, none⟩ = some (.iface 128 (.agg #[.pointer (some ⟨12, 53, none⟩)]))) :
    Calls Tryz.prog 25 #[.iface 57 (.agg #[.string ⟨p.toArray⟩, .string ⟨f.toArray⟩, .iface 215 (.pointer (some a))]), .iface 59 (.pointer (some ⟨T, 0, none⟩))] w fun e w' => e = .returned (.bool true) ∧ ∃ w0, Below w.heap.size w w0 ∧ w0.heap[T]? = some (.cells old t0 (0, 0)) ∧ w' = w0.setRow T #[.string ⟨p.toArray⟩, .string ⟨f.toArray⟩, .iface 215 (.pointer (some a))] := by
  have hTl : T < w.heap.size := by
    rcases Nat.lt_or_ge T w.heap.size with h | h
    · exact h
    · rw [Array.getElem?_eq_none h] at ho; cases ho
  have hb4 : Below w.heap.size w ((tg3 w ⟨T, 0, none⟩).alloc (.cells #[.string ⟨p.toArray⟩, .string ⟨f.toArray⟩, .iface 215 (.pointer (some a))] 57)) := (tg_below w _).2.alloc (tg_below w ⟨T, 0, none⟩).2.size _
  have ho4 := (hb4.block T hTl).trans ho
  have h6 := @run_callFunc_extern Tryz.prog 53 _ valE Tryz.func53 (by kernel_rfl) (by kernel_rfl) (by kernel_rfl) (by kernel_rfl)
  have h7 := @run_callFunc_extern Tryz.prog 54 _ typE Tryz.func54 (by kernel_rfl) (by kernel_rfl) (by kernel_rfl) (by kernel_rfl)
  have h8 := @run_callFunc_extern Tryz.prog 55 _ nilE Tryz.func55 (by kernel_rfl) (by kernel_rfl) (by kernel_rfl) (by kernel_rfl)
  have h27 := @run_callFunc_extern Tryz.prog 157 _ kinE Tryz.func157 (by kernel_rfl) (by kernel_rfl) (by kernel_rfl) (by kernel_rfl)
  have h37 := @run_callFunc_extern Tryz.prog 174 _ eltE Tryz.func174 (by kernel_rfl) (by kernel_rfl) (by kernel_rfl) (by kernel_rfl)
  have h38 := @run_callFunc_extern Tryz.prog 175 _ impE Tryz.func175 (by kernel_rfl) (by kernel_rfl) (by kernel_rfl) (by kernel_rfl)
  have h10 := @run_callFunc_extern Tryz.prog 92 _ Extern.ReflectliteType.typeOf Tryz.func92 (by kernel_rfl) (by kernel_rfl) (by kernel_rfl) (by kernel_rfl)
  have h35 := @run_callFunc_extern Tryz.prog 172 _ asgE Tryz.func172 (by kernel_rfl) (by kernel_rfl) (by kernel_rfl) (by kernel_rfl)
  have h11 := @run_callFunc_extern Tryz.prog 94 _ elvE Tryz.func94 (by kernel_rfl) (by kernel_rfl) (by kernel_rfl) (by kernel_rfl)
  have h12 := @run_callFunc_extern Tryz.prog 95 _ setE Tryz.func95 (by kernel_rfl) (by kernel_rfl) (by kernel_rfl) (by kernel_rfl)
  have tO := asTypeOfW
  have mA := asMAsg
  have aW := asAsgW
  have vW := asValW
  have f6 := asVal
  have f7 := asTyp
  have mK := asMKind
  have mE := asMElem
  have mI := asMImpl
  have kP := asKindP
  have kS := asKindS
  have e27 := asElem
  have i25 := asImpl
  have n8 := asNil ⟨w.heap.size, 0, none⟩ ⟨T, 0, none⟩ (tg2 w ⟨T, 0, none⟩) (tg_cell w _).1
  have el := asElv ⟨w.heap.size, 0, none⟩ ⟨T, 0, none⟩ (tg3 w ⟨T, 0, none⟩) (tg_cell w _).2
  have st := asSet T (w.heap.size + 1 + 1 + 1) t0 57 old (.string ⟨p.toArray⟩) (.string ⟨f.toArray⟩) (.iface 215 (.pointer (some a))) _ ho4 hs (by rw [show w.heap.size + 1 + 1 + 1 = (tg3 w ⟨T, 0, none⟩).heap.size by simp]; exact heap_alloc_new _ _) (by simp [Value.oneCell'])
  have hlt : 5 < w.heap.size := World.block_lt_of_cell? w ⟨5, 0, none⟩ hg
  have hg2 : (tg2 w ⟨T, 0, none⟩).cell? ⟨5, 0, none⟩ = some (.iface 128 (.agg #[.pointer (some ⟨12, 53, none⟩)])) := ((tg_below w _).1.cell (p := ⟨5, 0, none⟩) hlt).trans hg
  clear ho
  go_enter Tryz.func25, Tryz.ntmps25
  go_wp2
  refine wp_loop_rounds 1 ?_
  rw [rounds_succ]
  go_wp2
  go_ret
  exact ⟨rfl, _, hb4, ho4, rfl⟩

end Go.Proofs.YtdjglpcllcjcfaaGreatDoor
