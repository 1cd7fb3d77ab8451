/-
  Parts of one proof, one behind the other: CallI, CheckS2, CheckS3.
-/
import Derived.Test.YtdjglpcllcjcfaaDoorP30
import Derived.Test.YtdjglpcllcjcfaaDoorP25
import Derived.Test.YtdjglpcllcjcfaaDoorP23
import Derived.Test.YtdjglpcllcjcfaaDoorP29
import Derived.Deep.RegionWith
import Derived.Deep.Quiet

/-! The contracts of chapter 9's landed code: where a call goes, what is wrong with it, CallCode. -/
namespace Go.Proofs.YtdjglpcllcjcfaaDoor
open Go.RowKit

/-- What callWrong hands back: nothing, or the error of that code. -/
def cwV (e : Nat → Addr) (c : Int) : Value := if c = 0 then .nilIface else sentV (e c.toNat)

set_option maxHeartbeats 2000000 in
set_option maxRecDepth 100000 in
theorem implPlaceCalled (a : Option Addr) (len cap : Nat) (ps : List Pk) (f : Nat) (q : List UInt8) (w : World) (h : PkgsOk w a len cap ps) (hf : f < len) :
    Calls Tryd.prog 80 #[.slice a len cap, .int .i64 (f : Int), .string ⟨q.toArray⟩] w fun e w' => e = .returned (.int .i64 (toV ps f q)) ∧ Below w.heap.size w w' := by
  obtain ⟨b, off, rfl, hbl, c0, ia, il, ic, fa, fl, fc, c1, c2, hpk⟩ := h.each f hf
  have hsm := h.small
  have hf2 : (f : Int) < (len : Int) := by omega
  have hilb := hpk.il
  have HP : Hid (_) := implPlacePk (some ⟨b, off, none⟩) len cap ps q w h.in h.small
  have HC : Hid (_) := containsStr ia il ic (imsAt ps f) q w hpk.i hpk.il
  obtain ⟨ov, hov⟩ : ∃ ov, toV ps f q = ov := ⟨_, rfl⟩
  have HV : Hid (toV ps f q = ov) := hov
  rw [hov]
  unfold toV at hov
  obtain ⟨x, hx⟩ : ∃ x, (ps.getD f pk0).1 = x := ⟨_, rfl⟩
  have hx2 : nmAt ps f = x := hx
  rw [hx] at c0
  rw [hx2] at hov
  clear hx hx2 hpk c2 h
  by_cases h1 : q = x
  · rw [if_pos h1] at hov
    have hb1 : (q == x) = true := by rw [h1]; simp
    subst hov
    go_enter Tryd.func80, Tryd.ntmps80
    go_wp2
    go_ret
    exact ⟨rfl, Below.refl _ _⟩
  · rw [if_neg h1] at hov
    have hb1 : (q == x) = false := by rw [beq_eq_false_iff_ne]; exact h1
    by_cases h2 : q ∈ imsAt ps f
    · rw [if_pos h2] at hov
      rw [decide_eq_true h2] at HC
      rw [hov] at HP
      clear hov h2 HV
      go_enter Tryd.func80, Tryd.ntmps80
      go_wp2_with fail
      refine Calls.mono HC.out ?_
      rintro e w1 ⟨rfl, hw1⟩
      obtain rfl := hw1.symm
      go_wp2_with fail
      refine Calls.mono HP.out ?_
      rintro e w2 ⟨rfl, hb2⟩
      go_wp2
      go_ret
      exact ⟨rfl, hb2⟩
    · rw [if_neg h2] at hov
      rw [decide_eq_false h2] at HC
      subst hov
      clear h2 HV
      go_enter Tryd.func80, Tryd.ntmps80
      go_wp2_with fail
      refine Calls.mono HC.out ?_
      rintro e w1 ⟨rfl, hw1⟩
      obtain rfl := hw1.symm
      go_wp2
      go_ret
      exact ⟨rfl, Below.refl _ _⟩

set_option maxHeartbeats 4000000 in
set_option maxRecDepth 100000 in
theorem implCallWrong (a : Option Addr) (len cap : Nat) (ps : List Pk) (f i : Nat) (n : Nd) (er : Nat → Addr) (w : World) (h : PkgsOk w a len cap ps) (hE : Err4 w er) (hf : f < len) (hi : i ≤ (ps.getD f pk0).2.2.length) :
    Calls Tryd.prog 56 #[.slice a len cap, .int .i64 (f : Int), .int .i64 (i : Int), nodeVal n] w fun e w' => e = .returned (cwV er (call9 ps (ps.getD f pk0) (i : Int) n)) ∧ Below w.heap.size w w' := by
  obtain rfl : ps.length = len := h.hlen
  obtain ⟨k, A, x, fn⟩ := n
  have hw := toV_ways hf x
  have hway : ∀ t, farB ps (ps.getD f pk0) x = false → ofPk ps (ps.getD f pk0) x = ps.getD t pk0 → (x = (ps.getD f pk0).1 ↔ t = f) → _ := fun t h1 h2 h3 => call9_ways (i := i) (n := (k, A, x, fn)) h1 h2 h3
  have hfar : farB ps (ps.getD f pk0) x = true → _ := fun h1 => call9_far (i := i) (n := (k, A, x, fn)) h1
  simp only at hway hfar
  obtain ⟨cv, hcv⟩ : ∃ cv, call9 ps (ps.getD f pk0) (i : Int) (k, A, x, fn) = cv := ⟨_, rfl⟩
  rw [hcv] at hfar hway ⊢
  unfold nodeVal
  simp only
  obtain ⟨⟨n0, n1, n2, n3⟩, hb0⟩ := node_new w (.int .i64 k) (.int .i64 A) (.string ⟨x.toArray⟩) (.string ⟨fn.toArray⟩) 26
  obtain ⟨W, hW⟩ : ∃ W, w.alloc (.cells #[.int .i64 k, .int .i64 A, .string ⟨x.toArray⟩, .string ⟨fn.toArray⟩] 26) = W := ⟨_, rfl⟩
  rw [hW] at n0 n1 n2 n3 hb0
  have hsW : w.heap.size < W.heap.size := by rw [← hW]; simp
  obtain ⟨D, hD⟩ : ∃ D, w.heap.size = D := ⟨_, rfl⟩
  rw [hD] at n0 n1 n2 n3 hsW
  have HZ : Hid (∀ Z, Below W.heap.size W Z → (Z.cell? ⟨D, 0, none⟩ = some (.int .i64 k) ∧ Z.cell? ⟨D, 1, none⟩ = some (.int .i64 A) ∧ Z.cell? ⟨D, 2, none⟩ = some (.string ⟨x.toArray⟩) ∧ Z.cell? ⟨D, 3, none⟩ = some (.string ⟨fn.toArray⟩)) ∧ PkgsOk Z a ps.length cap ps ∧ Err4 Z er ∧ Below w.heap.size w Z) := fun Z hz => ⟨⟨(hz.cell (p := ⟨D, 0, none⟩) hsW).trans n0, (hz.cell (p := ⟨D, 1, none⟩) hsW).trans n1, (hz.cell (p := ⟨D, 2, none⟩) hsW).trans n2, (hz.cell (p := ⟨D, 3, none⟩) hsW).trans n3⟩, (h.below hb0).below hz, (hE.below hb0).below hz, hb0.trans (hz.mono hb0.size)⟩
  have HT : Hid (_) := implPlaceCalled a ps.length cap ps f x W (HZ.out W (Below.refl _ _)).2.1 hf
  have hsm := h.small
  have HI : Hid (i ≤ (ps.getD f pk0).2.2.length) := hi
  clear h hE hb0 hcv hi
  go_enter Tryd.func56, Tryd.ntmps56
  go_wp2_with fail
  refine Calls.mono HT.out ?_
  rintro e w1 ⟨rfl, hb1⟩
  clear HT n0 n1 n2 n3
  obtain ⟨⟨n0, n1, n2, n3⟩, hok, hE, HB⟩ := HZ.out w1 hb1
  rcases hw with ⟨et, hfr⟩ | ⟨t, ht, et, hfr, hof, hiff⟩
  · rw [et]
    obtain rfl := hfar hfr
    have g1 := hE.far
    have HB2 : Hid (_) := HB
    clear hok hE HB hway hfar
    go_wp2
    go_ret
    exact ⟨rfl, HB2.out⟩
  · rw [et]
    have hw2 := hway t hfr hof hiff
    have hln := fsTo_len (ps := ps) (f := f) (t := t) (i := i) (fun e => by rw [e]; exact HI.out)
    obtain ⟨b, off, rfl, hbl, c0, ia, il, ic, fa, fl, fc, c1, c2, hpk⟩ := hok.each t ht
    have ht2 : (t : Int) < (ps.length : Int) := by omega
    have htn : ¬ (t : Int) = -1 := by omega
    have htb : ((t : Int) == -1) = false := beq_eq_false_iff_ne.2 htn
    have hfll := hpk.fl
    have hfcc := hpk.fc.2
    have hflen : (ps.getD t pk0).2.2.length = fl := hpk.f.1
    have hFI : ∀ m : Nat, m = (if t = f then i else fl) → FuncsIn w1 fa m (fsTo ps f t i) := fun m hm => by
      unfold fsTo
      by_cases e : t = f
      · rw [if_pos e] at hm ⊢
        subst hm
        exact hpk.f.take (by have := HI.out; rw [← e, hflen] at this; exact this)
      · rw [if_neg e] at hm ⊢
        subst hm
        exact hpk.f
    have hml : (if t = f then i else fl) ≤ fl := by
      by_cases e : t = f
      · rw [if_pos e]; have := HI.out; rw [← e, hflen] at this; exact this
      · rw [if_neg e]; exact Nat.le_refl _
    generalize fsTo ps f t i = m at hw2 hln hFI
    have gf := hE.func
    have gc := hE.count
    have HE : Hid (Err4 w1 er) := hE
    have HB1 : Hid (Below W.heap.size W w1) := hb1
    have HP : Hid (FuncsIn w1 fa (if t = f then i else fl) m) := hFI _ rfl
    have HW : Hid (_) := hw2
    clear hway hfar hok hpk hE HB hb1 hiff hof hfr hw2 hFI c0 c1 hflen
    by_cases htf : t = f
    · subst htf
      rw [if_pos rfl] at HP hml
      have hself : ((t : Int) == (t : Int)) = true := by simp
      have hic : (i : Int) ≤ (fc : Int) := by omega
      have hic2 : i ≤ fc := by omega
      have HC : Hid (∀ cp, _) := fun cp => implPlaceOf fa i cp m fn w1 HP.out (by omega)
      clear hln
      go_wp2_with fail
      refine Calls.mono (HC.out _) ?_
      rintro e w2 ⟨rfl, hb2⟩
      have hP2 : FuncsIn w2 fa i m := HP.out.below hb2
      replace hb2 := HB1.out.trans (hb2.mono HB1.out.size)
      clear n0 n1 n2 n3 gf gc c2
      obtain ⟨⟨n0, n1, n2, n3⟩, hok, hE, HB⟩ := HZ.out w2 hb2
      have HB2 : Hid (_) := HB
      have gf := hE.func
      have gc := hE.count
      have hl2 : m.length = i := hP2.1
      rcases HW.out with ⟨ea, rfl⟩ | ⟨c, hc, ea, hw3⟩
      · rw [ea]
        clear hok hE HB HC HW hP2 HE hl2
        go_wp2
        go_ret
        exact ⟨rfl, HB2.out⟩
      · rw [ea]
        obtain ⟨b2, o2, rfl, hb2l, r0, r1, ta, tl, tc, r2, _, _⟩ := hP2.2 c (by omega)
        have hcn : ((c : Int) == -1) = false := beq_eq_false_iff_ne.2 (by omega)
        have hcl : (c : Int) < (i : Int) := by omega
        obtain ⟨ag, hag⟩ : ∃ ag, (m.getD c fn0).2.1 = ag := ⟨_, rfl⟩
        rw [hag] at hw3 r1
        clear hok hE HB HC HW hP2 HE hl2 HP ea hag r0 r2
        rcases hw3 with ⟨hA, rfl⟩ | ⟨rfl, rfl⟩
        · have hAb : (ag != A) = true := by rw [bne_iff_ne]; exact hA
          go_wp2_with fail
          go_quiet (fail)
          go_wp2
          go_ret
          exact ⟨rfl, HB2.out.trans ⟨rfl, rfl, rfl, Nat.le_refl _, fun _ _ => rfl⟩⟩
        · have hAb : (ag != ag) = false := by simp
          go_wp2_with fail
          go_quiet (fail)
          go_wp2
          go_ret
          exact ⟨rfl, HB2.out.trans ⟨rfl, rfl, rfl, Nat.le_refl _, fun _ _ => rfl⟩⟩
    · rw [if_neg htf] at HP hml
      have hne : ((t : Int) == (f : Int)) = false := beq_eq_false_iff_ne.2 (by omega)
      have HC : Hid (∀ cp, _) := fun cp => implPlaceOf fa fl cp m fn w1 HP.out (by omega)
      clear hln
      go_wp2_with fail
      refine Calls.mono (HC.out _) ?_
      rintro e w2 ⟨rfl, hb2⟩
      have hP2 : FuncsIn w2 fa fl m := HP.out.below hb2
      replace hb2 := HB1.out.trans (hb2.mono HB1.out.size)
      clear n0 n1 n2 n3 gf gc c2
      obtain ⟨⟨n0, n1, n2, n3⟩, hok, hE, HB⟩ := HZ.out w2 hb2
      have HB2 : Hid (_) := HB
      have gf := hE.func
      have gc := hE.count
      have hl2 : m.length = fl := hP2.1
      rcases HW.out with ⟨ea, rfl⟩ | ⟨c, hc, ea, hw3⟩
      · rw [ea]
        clear hok hE HB HC HW hP2 HE hl2
        go_wp2
        go_ret
        exact ⟨rfl, HB2.out⟩
      · rw [ea]
        obtain ⟨b2, o2, rfl, hb2l, r0, r1, ta, tl, tc, r2, _, _⟩ := hP2.2 c (by omega)
        have hcn : ((c : Int) == -1) = false := beq_eq_false_iff_ne.2 (by omega)
        have hcl : (c : Int) < (fl : Int) := by omega
        obtain ⟨ag, hag⟩ : ∃ ag, (m.getD c fn0).2.1 = ag := ⟨_, rfl⟩
        rw [hag] at hw3 r1
        clear hok hE HB HC HW hP2 HE hl2 HP ea hag r0 r2
        rcases hw3 with ⟨hA, rfl⟩ | ⟨rfl, rfl⟩
        · have hAb : (ag != A) = true := by rw [bne_iff_ne]; exact hA
          go_wp2_with fail
          go_quiet (fail)
          go_wp2
          go_ret
          exact ⟨rfl, HB2.out.trans ⟨rfl, rfl, rfl, Nat.le_refl _, fun _ _ => rfl⟩⟩
        · have hAb : (ag != ag) = false := by simp
          go_wp2_with fail
          go_quiet (fail)
          go_wp2
          go_ret
          exact ⟨rfl, HB2.out.trans ⟨rfl, rfl, rfl, Nat.le_refl _, fun _ _ => rfl⟩⟩

set_option maxHeartbeats 4000000 in
set_option maxRecDepth 100000 in
theorem implCodeOfCall (c : Int) (er : Nat → Addr) (w : World) (hE : Err4 w er) (hc : -1 ≤ c ∧ c ≤ 3) :
    Calls Tryd.prog 31 #[cwV er c] w fun e w' => e = .returned (.int .i64 c) ∧ w' = w := by
  have gt := hE.told
  have g1 := hE.far
  have g2 := hE.func
  have g3 := hE.count
  unfold sentV at gt g1 g2 g3
  have h0 := hE.at0
  have h1 := hE.at1
  have h2 := hE.at2
  have h3 := hE.at3
  obtain ⟨d01, d02, d03, d12, d13, d23⟩ := hE.ne
  clear hE
  rcases (show c = 0 ∨ c = -1 ∨ c = 1 ∨ c = 2 ∨ c = 3 by omega) with rfl | rfl | rfl | rfl | rfl
  · have hv : cwV er 0 = .nilIface := rfl
    rw [hv]
    go_enter Tryd.func31, Tryd.ntmps31
    go_wp2
    go_ret
    exact ⟨rfl, rfl⟩
  · have hv : cwV er (-1) = .iface 167 (.pointer (some (er 0))) := rfl
    rw [hv]
    go_enter Tryd.func31, Tryd.ntmps31
    go_wp2_with fail
    refine Calls.mono (is_other (er 0) (er 1) w d01 h0 h1) ?_
    rintro e w1 ⟨rfl, hw⟩
    obtain rfl := hw.symm
    clear hw
    go_wp2_with fail
    refine Calls.mono (is_other (er 0) (er 2) w d02 h0 h2) ?_
    rintro e w2 ⟨rfl, hw⟩
    obtain rfl := hw.symm
    clear hw
    go_wp2_with fail
    refine Calls.mono (is_other (er 0) (er 3) w d03 h0 h3) ?_
    rintro e w3 ⟨rfl, hw⟩
    obtain rfl := hw.symm
    clear hw
    go_wp2
    go_ret
    exact ⟨rfl, rfl⟩
  · have hv : cwV er (1) = .iface 167 (.pointer (some (er 1))) := rfl
    rw [hv]
    go_enter Tryd.func31, Tryd.ntmps31
    go_wp2_with fail
    refine Calls.mono (is_same (er 1) w) ?_
    rintro e w1 ⟨rfl, hw⟩
    obtain rfl := hw.symm
    clear hw
    go_wp2
    go_ret
    exact ⟨rfl, rfl⟩
  · have hv : cwV er (2) = .iface 167 (.pointer (some (er 2))) := rfl
    rw [hv]
    go_enter Tryd.func31, Tryd.ntmps31
    go_wp2_with fail
    refine Calls.mono (is_other (er 2) (er 1) w d12.symm h2 h1) ?_
    rintro e w1 ⟨rfl, hw⟩
    obtain rfl := hw.symm
    clear hw
    go_wp2_with fail
    refine Calls.mono (is_same (er 2) w) ?_
    rintro e w2 ⟨rfl, hw⟩
    obtain rfl := hw.symm
    clear hw
    go_wp2
    go_ret
    exact ⟨rfl, rfl⟩
  · have hv : cwV er (3) = .iface 167 (.pointer (some (er 3))) := rfl
    rw [hv]
    go_enter Tryd.func31, Tryd.ntmps31
    go_wp2_with fail
    refine Calls.mono (is_other (er 3) (er 1) w d13.symm h3 h1) ?_
    rintro e w1 ⟨rfl, hw⟩
    obtain rfl := hw.symm
    clear hw
    go_wp2_with fail
    refine Calls.mono (is_other (er 3) (er 2) w d23.symm h3 h2) ?_
    rintro e w2 ⟨rfl, hw⟩
    obtain rfl := hw.symm
    clear hw
    go_wp2_with fail
    refine Calls.mono (is_same (er 3) w) ?_
    rintro e w3 ⟨rfl, hw⟩
    obtain rfl := hw.symm
    clear hw
    go_wp2
    go_ret
    exact ⟨rfl, rfl⟩

theorem callV_no {ps : List Pk} {s : List UInt8} {i : Int} {n : Nd} (h : ¬ callB ps s i n) : callV ps s i n = -1 := if_neg h
/-- Where a package is looked for in a project: nowhere, or at its place. -/
theorem in_cases (ps : List Pk) (s : List UInt8) : ((if projB ps = true then at8 ps s else -1) = -1 ∧ ¬ (projB ps = true ∧ 0 ≤ at8 ps s)) ∨ ∃ f, f < ps.length ∧ (if projB ps = true then at8 ps s else -1) = (f : Int) ∧ projB ps = true ∧ 0 ≤ at8 ps s ∧ pkOf ps s = ps.getD f pk0 := by
  by_cases h : projB ps = true
  · rw [if_pos h]
    rcases at8_is ps s with ⟨e, _⟩ | ⟨f, hf, e, _, _⟩
    · exact Or.inl ⟨e, fun g => by have := g.2; omega⟩
    · exact Or.inr ⟨f, hf, e, h, by omega, by unfold pkOf; rw [e, Int.toNat_natCast]⟩
  · rw [if_neg h]
    exact Or.inl ⟨rfl, fun g => h g.1⟩

set_option maxHeartbeats 4000000 in
set_option maxRecDepth 100000 in
theorem implAsked (a : Option Addr) (len cap : Nat) (ps : List Pk) (s : List UInt8) (i : Int) (n : Nd) (er : Nat → Addr) (w : World) (h : PkgsOk w a len cap ps) (hE : Err4 w er) (hn : IntN n) (hp : n.2.2.1.length ≤ 1048576) (hf : n.2.2.2.length ≤ 1048576) :
    Calls Tryd.prog 32 #[.slice a len cap, .string ⟨s.toArray⟩, .int .i64 i, nodeVal n] w fun e w' => e = .returned (cwV er (callV ps s i n)) ∧ Below w.heap.size w w' := by
  obtain rfl : ps.length = len := h.hlen
  obtain ⟨k, A, x, fn⟩ := n
  obtain ⟨cv, hcv⟩ : ∃ cv, callV ps s i (k, A, x, fn) = cv := ⟨_, rfl⟩
  have hw := in_cases ps s
  have HNo : Hid (∀ Z, Calls Tryd.prog 55 #[.agg #[.int .i64 k, .int .i64 A, .string ⟨x.toArray⟩, .string ⟨fn.toArray⟩]] Z fun e w' => e = .returned (.bool (nodeB (k, A, x, fn))) ∧ Below Z.heap.size Z w') := fun Z => implNodeOk (k, A, x, fn) Z hn hp hf
  rw [hcv]
  unfold nodeVal
  simp only
  obtain ⟨⟨n0, n1, n2, n3⟩, hb0⟩ := node_new w (.int .i64 k) (.int .i64 A) (.string ⟨x.toArray⟩) (.string ⟨fn.toArray⟩) 26
  obtain ⟨W, hW⟩ : ∃ W, w.alloc (.cells #[.int .i64 k, .int .i64 A, .string ⟨x.toArray⟩, .string ⟨fn.toArray⟩] 26) = W := ⟨_, rfl⟩
  rw [hW] at n0 n1 n2 n3 hb0
  have hsW : w.heap.size < W.heap.size := by rw [← hW]; simp
  obtain ⟨D, hD⟩ : ∃ D, w.heap.size = D := ⟨_, rfl⟩
  rw [hD] at n0 n1 n2 n3 hsW
  have HZ : Hid (∀ Z, Below W.heap.size W Z → (Z.cell? ⟨D, 0, none⟩ = some (.int .i64 k) ∧ Z.cell? ⟨D, 1, none⟩ = some (.int .i64 A) ∧ Z.cell? ⟨D, 2, none⟩ = some (.string ⟨x.toArray⟩) ∧ Z.cell? ⟨D, 3, none⟩ = some (.string ⟨fn.toArray⟩)) ∧ PkgsOk Z a ps.length cap ps ∧ Err4 Z er ∧ Below w.heap.size w Z) := fun Z hz => ⟨⟨(hz.cell (p := ⟨D, 0, none⟩) hsW).trans n0, (hz.cell (p := ⟨D, 1, none⟩) hsW).trans n1, (hz.cell (p := ⟨D, 2, none⟩) hsW).trans n2, (hz.cell (p := ⟨D, 3, none⟩) hsW).trans n3⟩, (h.below hb0).below hz, (hE.below hb0).below hz, hb0.trans (hz.mono hb0.size)⟩
  have HT : Hid (_) := implPlaceIn a ps.length cap ps s W (HZ.out W (Below.refl _ _)).2.1
  have hsm := h.small
  have HCV : Hid (callV ps s i (k, A, x, fn) = cv) := hcv
  clear h hE hb0 hcv hn hp hf
  go_enter Tryd.func32, Tryd.ntmps32
  go_wp2_with fail
  refine Calls.mono HT.out ?_
  rintro e w1 ⟨rfl, hb1⟩
  clear HT n0 n1 n2 n3
  obtain ⟨⟨n0, n1, n2, n3⟩, hok, hE, HB⟩ := HZ.out w1 hb1
  rcases hw with ⟨et, hno⟩ | ⟨f, hfl, et, hpj, hat, hpk⟩
  · rw [et]
    obtain rfl : cv = -1 := HCV.out.symm.trans (callV_no (fun g => hno ⟨g.1, g.2.1⟩))
    have g1 := hE.told
    have HB2 : Hid (_) := HB
    clear hok hE HB HNo hno et HCV
    go_wp2
    go_ret
    exact ⟨rfl, HB2.out⟩
  · rw [et]
    have hfn : ¬ (f : Int) = -1 := by omega
    have hfb : ((f : Int) == -1) = false := beq_eq_false_iff_ne.2 hfn
    have HB2 : Hid (_) := HB
    by_cases hk : k = 8
    · subst hk
      obtain ⟨nb, hnb⟩ : ∃ nb, nodeB (8, A, x, fn) = nb := ⟨_, rfl⟩
      have HNB : Hid (nodeB (8, A, x, fn) = nb) := hnb
      rw [hnb] at HNo
      have g1 := hE.told
      clear hnb et hok hE HB
      go_wp2_with fail
      refine Calls.mono (HNo.out _) ?_
      rintro e w2 ⟨rfl, hb2⟩
      replace hb2 := hb1.trans (hb2.mono hb1.size)
      clear n0 n1 n2 n3 g1 HB2
      obtain ⟨⟨n0, n1, n2, n3⟩, hok, hE, HB⟩ := HZ.out w2 hb2
      rcases nb with _ | _
      · obtain rfl : cv = -1 := HCV.out.symm.trans (callV_no (fun g => by have h1 := g.2.2.1; rw [HNB.out] at h1; cases h1))
        have g1 := hE.told
        have HB2 : Hid (_) := HB
        clear hok hE HB HNo HCV HNB
        go_wp2
        go_ret
        exact ⟨rfl, HB2.out⟩
      · obtain ⟨b, off, rfl, hbl, c0, ia, il, ic, fa, fl, fc, c1, c2, hpk2⟩ := hok.each f hfl
        have hf2 : (f : Int) < (ps.length : Int) := by omega
        have hfll := hpk2.fl
        have hflen : (ps.getD f pk0).2.2.length = fl := hpk2.f.1
        have g1 := hE.told
        have HB2 : Hid (_) := HB
        by_cases hlo : i < 0
        · obtain rfl : cv = -1 := HCV.out.symm.trans (callV_no (fun g => by have h1 := g.2.2.2.2.1; omega))
          clear hok hE HB HNo HCV HNB hpk2 c0 c1
          go_wp2
          go_ret
          exact ⟨rfl, HB2.out⟩
        · by_cases hhi : (fl : Int) ≤ i
          · obtain rfl : cv = -1 := HCV.out.symm.trans (callV_no (fun g => by have h1 := g.2.2.2.2.2; rw [hpk, hflen] at h1; omega))
            clear hok hE HB HNo HCV HNB hpk2 c0 c1
            go_wp2
            go_ret
            exact ⟨rfl, HB2.out⟩
          · obtain ⟨j, rfl⟩ : ∃ j : Nat, i = (j : Int) := ⟨i.toNat, by omega⟩
            have hV : callV ps s (j : Int) (8, A, x, fn) = call9 ps (ps.getD f pk0) (j : Int) (8, A, x, fn) := by
              unfold callV
              rw [if_pos ⟨hpj, hat, HNB.out, rfl, by omega, by rw [hpk, hflen]; omega⟩, hpk]
            have HC : Hid (_) := implCallWrong (some ⟨b, off, none⟩) ps.length cap ps f j (8, A, x, fn) er w2 hok hE hfl (by rw [hflen]; omega)
            rw [← hV, HCV.out] at HC
            unfold nodeVal at HC
            simp only at HC
            clear hok hE HB HNo HCV HNB hpk2 c0 c1 hV
            go_wp2_with fail
            refine Calls.mono HC.out ?_
            rintro e w3 ⟨rfl, hb3⟩
            have HB3 : Hid (_) := HB2.out.trans (hb3.mono HB2.out.size)
            clear hb3
            go_wp2
            go_ret
            exact ⟨rfl, HB3.out⟩
    · obtain rfl : cv = -1 := HCV.out.symm.trans (callV_no (fun g => hk g.2.2.2.1))
      have hkb : (k != 8) = true := by rw [bne_iff_ne]; exact hk
      have g1 := hE.told
      clear hok hE HB HNo et HCV
      go_wp2
      go_ret
      exact ⟨rfl, HB2.out⟩

theorem implCallCode (a : Option Addr) (len cap : Nat) (ps : List Pk) (s : List UInt8) (at_ : Int) (n : Nd) (er : Nat → Addr) (w : World) (hE : Err4 w er) (h : PkgsOk w a len cap ps) (_hs : s.length ≤ 1048576) (hn : IntN n) (hp : n.2.2.1.length ≤ 1048576) (hf : n.2.2.2.length ≤ 1048576) (_hat : -9223372036854775808 ≤ at_ ∧ at_ ≤ 9223372036854775807) :
    Calls Tryd.prog 8 #[.slice a len cap, .string ⟨s.toArray⟩, .int .i64 at_, nodeVal n] w fun e w' => e = .returned (.int .i64 (callV ps s at_ n)) ∧ Below w.heap.size w w' := by
  obtain ⟨k, A, x, fn⟩ := n
  have hbd := callV_bd ps s at_ (k, A, x, fn)
  obtain ⟨⟨n0, n1, n2, n3⟩, hb0⟩ := node_new w (.int .i64 k) (.int .i64 A) (.string ⟨x.toArray⟩) (.string ⟨fn.toArray⟩) 26
  obtain ⟨W, hW⟩ : ∃ W, w.alloc (.cells #[.int .i64 k, .int .i64 A, .string ⟨x.toArray⟩, .string ⟨fn.toArray⟩] 26) = W := ⟨_, rfl⟩
  rw [hW] at n0 n1 n2 n3 hb0
  have HA : Hid (_) := implAsked a len cap ps s at_ (k, A, x, fn) er W (h.below hb0) (hE.below hb0) hn hp hf
  have hEW := hE.below hb0
  generalize callV ps s at_ (k, A, x, fn) = cv at hbd HA ⊢
  unfold nodeVal at HA ⊢
  simp only at HA ⊢
  clear h hE
  go_enter Tryd.func8, Tryd.ntmps8
  go_wp2_with fail
  refine Calls.mono HA.out ?_
  rintro e w1 ⟨rfl, hb1⟩
  have HC : Hid (_) := implCodeOfCall cv er w1 (hEW.below hb1) hbd
  have HB : Hid (Below w.heap.size w w1) := hb0.trans (hb1.mono hb0.size)
  clear HA hEW hb1 n0 n1 n2 n3
  go_wp2_with fail
  refine Calls.mono HC.out ?_
  rintro e w2 ⟨rfl, hw2⟩
  obtain rfl := hw2.symm
  go_wp2
  go_ret
  exact ⟨rfl, HB.out⟩

end Go.Proofs.YtdjglpcllcjcfaaDoor

/-! The contracts of chapter 9's specification: CallCode, what is wrong in a function. -/
namespace Go.Proofs.YtdjglpcllcjcfaaDoor
open Go.RowKit

set_option maxHeartbeats 4000000 in
set_option maxRecDepth 100000 in
theorem specCallCode (a : Option Addr) (len cap : Nat) (ps : List Pk) (s : List UInt8) (at_ : Int) (n : Nd) (w : World) (hl : PkgsIn w a len ps) (hlen : len ≤ 1048576) (hsh : ShortPs ps) (hnp : n.2.2.1.length ≤ 1048576) (hnf : n.2.2.2.length ≤ 1048576) :
    Calls Tryd.prog 9 #[.slice a len cap, .string ⟨s.toArray⟩, .int .i64 at_, nodeVal n] w fun e w' => e = .returned (.int .i64 (callV ps s at_ n)) ∧ Below w.heap.size w w' := by
  have HNo : Hid (∀ W, Calls Tryd.prog 35 #[nodeVal n] W fun e w' => e = .returned (.bool (nodeB n)) ∧ Below W.heap.size W w') := fun W => specNodeOk n W hnp hnf
  have HC9 : Hid (∀ W (nm : List UInt8) (ia : Option Addr) (il ic : Nat) (fa : Option Addr) (fl fc : Nat) (ims : List (List UInt8)) (fs : List Fn), PkgsIn W a len ps → TextsIn W ia il ims → FuncsIn W fa fl fs → il ≤ 1048576 → fl ≤ 1048576 → Calls Tryd.prog 36 #[.slice a len cap, .agg #[.string ⟨nm.toArray⟩, .slice ia il ic, .slice fa fl fc], .int .i64 at_, nodeVal n] W fun e w' => e = .returned (.int .i64 (call9 ps (nm, ims, fs) at_ n)) ∧ Below W.heap.size W w') := fun W nm ia il ic fa fl fc ims fs h1 h2 h3 h4 h5 => specCall9 a len cap ps nm ia il ic fa fl fc ims fs at_ n W h1 h2 h3 hlen h4 h5 hsh
  have HV : Hid (callV ps s at_ n = if callB ps s at_ n then call9 ps (pkOf ps s) at_ n else -1) := rfl
  obtain ⟨k, A, x, fn⟩ := n
  unfold nodeVal at HNo HC9 ⊢
  simp only at HNo HC9 ⊢
  obtain ⟨⟨n0, n1, n2, n3⟩, hb1⟩ := node_new w (.int .i64 k) (.int .i64 A) (.string ⟨x.toArray⟩) (.string ⟨fn.toArray⟩) 26
  obtain ⟨W1, hW1⟩ : ∃ W1, w.alloc (.cells #[.int .i64 k, .int .i64 A, .string ⟨x.toArray⟩, .string ⟨fn.toArray⟩] 26) = W1 := ⟨_, rfl⟩
  have hs1 : W1.heap.size = w.heap.size + 1 := by rw [← hW1]; simp
  rw [hW1] at n0 n1 n2 n3 hb1
  have HP1 : Hid (PkgsIn W1 a len ps) := hl.below hb1
  have HB1 : Hid (Below w.heap.size w W1) := hb1
  have HPr : Hid (_) := specProjectOk a len cap ps W1 HP1.out hlen hsh
  clear hl hb1
  rcases hp : projB ps with _ | _
  · have HR : Hid (callV ps s at_ (k, A, x, fn) = -1) := by exact (by rw [HV.out, if_neg (fun h => by have := h.1; rw [hp] at this; cases this)] : callV ps s at_ (k, A, x, fn) = -1)
    rw [hp] at HPr
    clear hp
    go_enter Tryd.func9, Tryd.ntmps9
    go_wp2_with (go_at_call 33; refine Calls.mono HPr.out ?_; rintro e w2 ⟨rfl, hb2⟩)
    go_ret
    exact ⟨by rw [HR.out]; rfl, HB1.out.trans (hb2.mono HB1.out.size)⟩
  rw [hp] at HPr
  have HA8 : Hid (∀ W, PkgsIn W a len ps → Calls Tryd.prog 34 #[.slice a len cap, .string ⟨s.toArray⟩] W fun e w' => e = .returned (.int .i64 (at8 ps s)) ∧ w' = W) := fun W hW => specAt8 a len cap ps s W hW hlen
  go_enter Tryd.func9, Tryd.ntmps9
  go_wp2_with fail
  refine Calls.mono HPr.out ?_
  rintro e w2 ⟨rfl, hb2⟩
  have HP2 : Hid (PkgsIn w2 a len ps) := HP1.out.below hb2
  have HB2 : Hid (Below w.heap.size w w2) := HB1.out.trans (hb2.mono HB1.out.size)
  have c0 := (hb2.cell (p := ⟨w.heap.size, 0, none⟩) (by rw [hs1]; simp)).trans n0
  have c1 := (hb2.cell (p := ⟨w.heap.size, 1, none⟩) (by rw [hs1]; simp)).trans n1
  have c2 := (hb2.cell (p := ⟨w.heap.size, 2, none⟩) (by rw [hs1]; simp)).trans n2
  have c3 := (hb2.cell (p := ⟨w.heap.size, 3, none⟩) (by rw [hs1]; simp)).trans n3
  have hsz2 : w.heap.size < w2.heap.size := by have := hb2.size; omega
  clear hb2 HPr HP1 HB1 n0 n1 n2 n3 hW1
  have HAs : Hid (_) := HA8.out w2 HP2.out
  rcases at8_is ps s with ⟨e8, _⟩ | ⟨j, hj, e8, hjn, hsn⟩
  · have HR : Hid (callV ps s at_ (k, A, x, fn) = -1) := by exact (by rw [HV.out, if_neg (fun h => by have := h.2.1; omega)] : callV ps s at_ (k, A, x, fn) = -1)
    rw [e8] at HAs
    clear hp e8
    go_wp2_with (go_at_call 34; refine Calls.mono HAs.out ?_; rintro e w3 ⟨rfl, hw3⟩; obtain rfl := hw3.symm)
    go_ret
    exact ⟨by rw [HR.out]; rfl, HB2.out⟩
  have hj0 : ¬ (j : Int) < 0 := by omega
  have hpk : pkOf ps s = ps.getD j pk0 := by unfold pkOf; rw [e8]; rfl
  rw [e8] at HAs
  go_wp2_with fail
  refine Calls.mono HAs.out ?_
  rintro e w3 ⟨rfl, hw3⟩
  obtain rfl := hw3.symm
  have HNk : Hid (_) := HNo.out w2
  clear HAs
  go_wp2_with fail
  rcases hnb : nodeB (k, A, x, fn) with _ | _
  · have HR : Hid (callV ps s at_ (k, A, x, fn) = -1) := by exact (by rw [HV.out, if_neg (fun h => by have := h.2.2.1; rw [hnb] at this; cases this)] : callV ps s at_ (k, A, x, fn) = -1)
    rw [hnb] at HNk
    refine Calls.mono HNk.out ?_
    rintro e w4 ⟨rfl, hb4⟩
    have HB4 : Hid (Below w.heap.size w w4) := HB2.out.trans (hb4.mono HB2.out.size)
    clear hb4 hnb hp
    go_wp2
    go_ret
    exact ⟨by rw [HR.out]; rfl, HB4.out⟩
  rw [hnb] at HNk
  refine Calls.mono HNk.out ?_
  rintro e w4 ⟨rfl, hb4⟩
  have HB4 : Hid (Below w.heap.size w w4) := HB2.out.trans (hb4.mono HB2.out.size)
  have HP4 : Hid (PkgsIn w4 a len ps) := HP2.out.below hb4
  have d0 := (hb4.cell (p := ⟨w.heap.size, 0, none⟩) hsz2).trans c0
  have d1 := (hb4.cell (p := ⟨w.heap.size, 1, none⟩) hsz2).trans c1
  have d2 := (hb4.cell (p := ⟨w.heap.size, 2, none⟩) hsz2).trans c2
  have d3 := (hb4.cell (p := ⟨w.heap.size, 3, none⟩) hsz2).trans c3
  have hsz4 : w.heap.size < w4.heap.size := Nat.lt_of_lt_of_le hsz2 hb4.size
  clear hb4 HP2 HB2 c0 c1 c2 c3 HNk HNo
  by_cases hk8 : k = 8
  · subst hk8
    obtain ⟨b, off, rfl, hbl, r0, ia, il, ic, fa, fl, fc, r1, r2, hti, hfi⟩ := HP4.out.2 j (by rw [← HP4.out.1]; exact hj)
    have hsj := hsh j
    have hil : il ≤ 1048576 := by rw [← hti.1]; exact hsj.2.1
    have hfl : fl ≤ 1048576 := by rw [← hfi.1]; exact hsj.2.2.2.1
    have hfl0 := hfi.1
    have hjlen : (j : Int) < (len : Int) := by have := HP4.out.1; omega
    obtain ⟨p, hpe⟩ : ∃ p, ps.getD j pk0 = p := ⟨_, rfl⟩
    rw [hpe] at hpk r0 hti hfi hfl0
    have HB : Hid (callB ps s at_ (8, A, x, fn) ↔ 0 ≤ at_ ∧ at_ < (fl : Int)) := by exact (by
      unfold callB
      rw [hpk, hp, hnb, hfl0]
      exact ⟨fun h => ⟨h.2.2.2.2.1, h.2.2.2.2.2⟩, fun h => ⟨rfl, by omega, rfl, rfl, h.1, h.2⟩⟩ : callB ps s at_ (8, A, x, fn) ↔ 0 ≤ at_ ∧ at_ < (fl : Int))
    rw [hpk] at HV
    obtain ⟨nm, ims, fs⟩ := p
    simp only at r0 hti hfi
    obtain ⟨bx, hbx⟩ := Box3.new w4 (.string ⟨nm.toArray⟩) (.slice ia il ic) (.slice fa fl fc) 33
    obtain ⟨W5, hW5⟩ : ∃ W5, w4.alloc (.cells #[.string ⟨nm.toArray⟩, .slice ia il ic, .slice fa fl fc] 33) = W5 := ⟨_, rfl⟩
    rw [hW5] at bx hbx
    have b0 := bx.c0
    have b1 := bx.c1
    have b2 := bx.c2
    have e0 := (hbx.cell (p := ⟨w.heap.size, 0, none⟩) hsz4).trans d0
    have e1 := (hbx.cell (p := ⟨w.heap.size, 1, none⟩) hsz4).trans d1
    have e2 := (hbx.cell (p := ⟨w.heap.size, 2, none⟩) hsz4).trans d2
    have e3 := (hbx.cell (p := ⟨w.heap.size, 3, none⟩) hsz4).trans d3
    have HB5 : Hid (Below w.heap.size w W5) := HB4.out.trans (hbx.mono HB4.out.size)
    have HAs : Hid (_) := HA8.out w4 HP4.out
    rw [e8] at HAs
    have HCl : Hid (_) := HC9.out W5 nm ia il ic fa fl fc ims fs (HP4.out.below hbx) (hti.below hbx) (hfi.below hbx) hil hfl
    clear bx hbx hp hnb hpk hpe hti hfi hsj e8 hfl0 HC9 HA8 hsh
    by_cases hat0 : at_ < 0
    · have HR : Hid (callV ps s at_ (8, A, x, fn) = -1) := by exact (by rw [HV.out, if_neg (fun h => by have := (HB.out.1 h).1; omega)] : callV ps s at_ (8, A, x, fn) = -1)
      go_wp2_with (go_at_call 34; refine Calls.mono HAs.out ?_; rintro e w6 ⟨rfl, hw6⟩; obtain rfl := hw6.symm)
      go_ret
      exact ⟨by rw [HR.out]; rfl, HB5.out⟩
    · by_cases hatl : (fl : Int) ≤ at_
      · have HR : Hid (callV ps s at_ (8, A, x, fn) = -1) := by exact (by rw [HV.out, if_neg (fun h => by have := (HB.out.1 h).2; omega)] : callV ps s at_ (8, A, x, fn) = -1)
        go_wp2_with (go_at_call 34; refine Calls.mono HAs.out ?_; rintro e w6 ⟨rfl, hw6⟩; obtain rfl := hw6.symm)
        go_ret
        exact ⟨by rw [HR.out]; rfl, HB5.out⟩
      · have HR : Hid (callV ps s at_ (8, A, x, fn) = call9 ps (nm, ims, fs) at_ (8, A, x, fn)) := by exact (by rw [HV.out, if_pos (HB.out.2 ⟨by omega, by omega⟩)] : callV ps s at_ (8, A, x, fn) = call9 ps (nm, ims, fs) at_ (8, A, x, fn))
        go_wp2_with fail
        refine Calls.mono HAs.out ?_
        rintro e w6 ⟨rfl, hw6⟩
        obtain rfl := hw6.symm
        go_wp2_with fail
        refine Calls.mono HCl.out ?_
        rintro e w7 ⟨rfl, hb7⟩
        have HB7 : Hid (Below w.heap.size w w7) := HB5.out.trans (hb7.mono HB5.out.size)
        clear hb7
        go_wp2
        go_ret
        exact ⟨by rw [HR.out]; rfl, HB7.out⟩
  · have HR : Hid (callV ps s at_ (k, A, x, fn) = -1) := by exact (by rw [HV.out, if_neg (fun h => hk8 h.2.2.2.1)] : callV ps s at_ (k, A, x, fn) = -1)
    have hkb : (k != 8) = true := by rw [bne_iff_ne]; exact hk8
    have hkb2 : (k == 8) = false := beq_eq_false_iff_ne.2 hk8
    clear hp hnb
    go_wp2
    go_ret
    exact ⟨by rw [HR.out]; rfl, HB4.out⟩


end Go.Proofs.YtdjglpcllcjcfaaDoor

/-! The contracts of chapter 9's specification: the first that is wrong in a project. -/
namespace Go.Proofs.YtdjglpcllcjcfaaDoor
open Go.RowKit

def fltVal (f : Flt) : Value := .agg #[.int .i64 f.1, .string ⟨f.2.1.toArray⟩, .string ⟨f.2.2.toArray⟩]
/-- The box of the answer. -/
def FBox (Z : World) (R : Nat) : Prop := Box3 Z R (.int .i64 0) (.string ⟨#[]⟩) (.string ⟨#[]⟩) ∧ ∀ j, Z.frozen? ⟨R, j, none⟩ = false
theorem FBox.below {Z Y : World} {R : Nat} (h : FBox Z R) (hb : Below Z.heap.size Z Y) : FBox Y R := ⟨h.1.below hb, fun j => (hb.frozen (p := ⟨R, j, none⟩) h.1.lt).trans (h.2 j)⟩
theorem FBox.new (w : World) (t : TypeId) : FBox (w.alloc (.cells #[.int .i64 0, .string ⟨#[]⟩, .string ⟨#[]⟩] t)) w.heap.size ∧ Below w.heap.size w (w.alloc (.cells #[.int .i64 0, .string ⟨#[]⟩, .string ⟨#[]⟩] t)) := by
  obtain ⟨h1, h2⟩ := Box3.new w (.int .i64 0) (.string ⟨#[]⟩) (.string ⟨#[]⟩) t
  exact ⟨⟨h1, fun j => World.frozen?_alloc_at _ _ _ _ rfl⟩, h2⟩
/-- The answer is written. -/
theorem FBox.put {Z w : World} {R : Nat} (h : FBox Z R) (hw : Below w.heap.size w Z) (hR : w.heap.size ≤ R) (f : Flt) : ∃ Y, ((Z.setCell ⟨R, 0, none⟩ (.int .i64 f.1)).setCell ⟨R, 1, none⟩ (.string ⟨f.2.1.toArray⟩)).setCell ⟨R, 2, none⟩ (.string ⟨f.2.2.toArray⟩) = Y ∧ Y.cell? ⟨R, 0, none⟩ = some (.int .i64 f.1) ∧ Y.cell? ⟨R, 1, none⟩ = some (.string ⟨f.2.1.toArray⟩) ∧ Y.cell? ⟨R, 2, none⟩ = some (.string ⟨f.2.2.toArray⟩) ∧ Below w.heap.size w Y := by
  obtain ⟨Y, hY, y0, y1, y2, hg⟩ := set3 (.int .i64 f.1) (.string ⟨f.2.1.toArray⟩) (.string ⟨f.2.2.toArray⟩) h.1.c0 h.1.c1 h.1.c2
  exact ⟨Y, hY, y0, y1, y2, hw.grown hg hw.size (fun k e => by injection e with e; have e2 : R = k := e; omega)⟩

/-- As far as i: the order, and behind it those that are left out. -/
def ordTo (ps : List Pk) (i : Nat) : List (List UInt8) := order8 ps ++ ((names8 ps).take i).filter (fun x => decide (¬ x ∈ order8 ps))
theorem ordTo_zero (ps : List Pk) : ordTo ps 0 = order8 ps := by simp [ordTo]
theorem ordTo_all {ps : List Pk} {i : Nat} (h : ps.length ≤ i) : ordTo ps i = ord9 ps := by
  unfold ordTo ord9
  rw [List.take_of_length_le (by simpa [names8] using h)]
theorem ordTo_step {ps : List Pk} {i : Nat} (hi : i < ps.length) : ordTo ps (i + 1) = if nmAt ps i ∈ order8 ps then ordTo ps i else ordTo ps i ++ [nmAt ps i] := by
  unfold ordTo
  have h1 : i < (names8 ps).length := by simpa [names8] using hi
  rw [List.take_succ_eq_append_getElem h1, nmAt_el hi, List.filter_append]
  by_cases h : nmAt ps i ∈ order8 ps
  · rw [if_pos h]; simp [h]
  · rw [if_neg h]; simp [h]
theorem ordTo_mem {ps : List Pk} (hn : (names8 ps).Nodup) {i : Nat} (hi : i < ps.length) : nmAt ps i ∈ ordTo ps i ↔ nmAt ps i ∈ order8 ps := by
  unfold ordTo
  rw [List.mem_append, List.mem_filter]
  refine ⟨fun h => h.elim id (fun h => ?_), Or.inl⟩
  obtain ⟨k, hk, e⟩ := List.mem_iff_getElem.1 h.1
  rw [List.length_take] at hk
  rw [List.getElem_take, nmAt_el (by simp [names8] at hk; omega)] at e
  have := nmAt_inj hn (by simp [names8] at hk; omega) hi e
  omega
theorem ordTo_len (ps : List Pk) (h : projB ps = true) (i : Nat) : (ordTo ps i).length ≤ 8 + i := by
  unfold ordTo
  rw [List.length_append]
  have h1 := (order8_end h).1.len
  have h2 := (projB_parts h).2.1.2
  have h3 := List.length_filter_le (fun x => decide (¬ x ∈ order8 ps)) ((names8 ps).take i)
  rw [List.length_take] at h3
  omega


end Go.Proofs.YtdjglpcllcjcfaaDoor
