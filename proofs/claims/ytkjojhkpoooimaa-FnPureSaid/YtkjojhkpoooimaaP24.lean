/-
  Parts of one proof, one behind the other: LawPu.
-/
import Derived.Test.YtkjojhkpoooimaaP23
import Derived.Test.YtkjojhkpoooimaaP4
import Derived.Test.YtkjojhkpoooimaaP19
import Derived.Test.YtkjojhkpoooimaaP13
import Derived.Test.YtkjojhkpoooimaaP20

/-! The law FnPure: a pure tree is never stopped but by fuel, and folded without arguments it is one number. -/
namespace Go.Proofs.Ytkjojhkpoooimaa
open Go.RowKit

/-- The project of one package that FnPure asks. -/
theorem pkgs11 {W : World} {ta : Option Addr} {tc : Nat} {t : List Nd} (ht : NodesIn W ta t.length t) (hc : ta = none → tc = 0) {a b c : World} {pA pB pC : Nat}
    (hA : W.alloc (.cells #[.int .i64 2, .int .i64 0, .string ⟨#[]⟩, .string ⟨#[]⟩] 28) = a) (hpA : W.heap.size = pA)
    (hB : a.alloc (.cells #[.string ⟨#[102]⟩, .int .i64 3, .slice ta t.length tc, .string ⟨#[109, 97, 105, 110]⟩, .int .i64 1, .slice (some ⟨pA, 0, none⟩) 1 1] 31) = b) (hpB : a.heap.size = pB)
    (hC : b.alloc (.cells #[.string ⟨#[109, 97, 105, 110]⟩, .slice none 0 0, .slice (some ⟨pB, 0, none⟩) 2 2] 35) = c) (hpC : b.heap.size = pC) :
    PkgsIn c (some ⟨pC, 0, none⟩) 1 [pk11 t] ∧ Below W.heap.size W c := by
  have b1 : Below W.heap.size W a := by rw [← hA]; exact (Below.refl _ W).alloc (Nat.le_refl _) _
  have b2 : Below a.heap.size a b := by rw [← hB]; exact (Below.refl _ a).alloc (Nat.le_refl _) _
  have b3 : Below b.heap.size b c := by rw [← hC]; exact (Below.refl _ b).alloc (Nat.le_refl _) _
  have hbc : Below W.heap.size W c := (b1.trans (b2.mono b1.size)).trans (b3.mono (Nat.le_trans b1.size b2.size))
  have nA : NodesIn a (some ⟨pA, 0, none⟩) 1 [((2, 0, [], []) : Nd)] := by
    refine ⟨rfl, fun j hj => ?_⟩
    obtain rfl : j = 0 := by omega
    refine ⟨pA, 0, rfl, by rw [← hA, ← hpA]; simp, ?_, ?_, ?_, ?_⟩ <;> (rw [← hA, ← hpA]; simp)
  have fB : FuncsIn b (some ⟨pB, 0, none⟩) 2 [(fT11, 3, t), (mainT, 1, [(2, 0, [], [])])] := by
    refine ⟨rfl, fun j hj => ⟨pB, 0, rfl, by rw [← hB, ← hpB]; simp, ?_⟩⟩
    match j, hj with
    | 0, _ =>
      refine ⟨by rw [← hB, ← hpB]; simp; rfl, by rw [← hB, ← hpB]; simp, ta, t.length, tc, by rw [← hB, ← hpB]; simp, hc, ?_⟩
      exact (ht.below b1).below b2
    | 1, _ =>
      refine ⟨by rw [← hB, ← hpB]; simp; rfl, by rw [← hB, ← hpB]; simp, some ⟨pA, 0, none⟩, 1, 1, by rw [← hB, ← hpB]; simp, (fun e => by cases e), ?_⟩
      exact nA.below b2
  refine ⟨⟨rfl, fun j hj => ?_⟩, hbc⟩
  obtain rfl : j = 0 := by omega
  refine ⟨pC, 0, rfl, by rw [← hC, ← hpC]; simp, by rw [← hC, ← hpC]; simp; rfl, none, 0, 0, some ⟨pB, 0, none⟩, 2, 2, by rw [← hC, ← hpC]; simp, by rw [← hC, ← hpC]; simp, ⟨rfl, fun i hi => by omega⟩, fB.below b3⟩
theorem short11 {t : List Nd} (h : ShortT t) (hl : t.length ≤ 60) : ShortPs [pk11 t] := fun j => by
  match j with
  | 0 =>
    refine ⟨by simp [pk11, mainT], by simp [pk11], fun i => by simp [pk11], by simp [pk11], fun k => ?_⟩
    match k with
    | 0 => exact ⟨by simp [pk11, fT11], by simp [pk11]; omega, h⟩
    | 1 => exact ⟨by simp [pk11, mainT], by simp [pk11], fun i => by match i with | 0 => exact ⟨by simp [pk11], by simp [pk11]⟩ | i + 1 => exact ⟨by simp [pk11, nd0], by simp [pk11, nd0]⟩⟩
    | k + 2 => exact ⟨by simp [pk11, fn0], by simp [pk11, fn0], fun i => by simp [pk11, fn0, nd0]⟩
  | j + 1 => exact ⟨by simp [pk0], by simp [pk0], fun i => by simp [pk0], by simp [pk0], fun k => ⟨by simp [pk0, fn0], by simp [pk0, fn0], fun i => by simp [pk0, fn0, nd0]⟩⟩

def argB (ns : List Nd) (i : Nat) : Bool := (ns.take i).any (fun n => n.1 == 2)
theorem argB_step (ns : List Nd) (i : Nat) (h : i < ns.length) : argB ns (i + 1) = (argB ns i || (ns.getD i nd0).1 == 2) := by
  unfold argB
  rw [List.take_succ_eq_append_getElem h, List.any_append]
  simp [List.getD, h]
theorem argB_no {ns : List Nd} (h : argB ns ns.length = false) : ∀ n ∈ ns, n.1 ≠ 2 := fun n hn e => by
  unfold argB at h
  rw [List.take_length, List.any_eq_false] at h
  have := h n hn
  simp [e] at this
theorem own_nil0 {w : World} {base e size n c : Nat} {a : Option Addr} {xs : List Value} (h : w.ownsRow base e size (.slice a n c) n xs) : a = none → c = 0 := fun e => by
  subst e
  rcases own_forms h with ⟨h1, _⟩ | ⟨g, cp, h1⟩
  · injection h1
  · cases h1

set_option maxHeartbeats 8000000 in
set_option maxRecDepth 100000 in
theorem lawPure (w : World) (a : Option Addr) (len cap : Nat) (hcode : Code w w.heap.size a len) :
    Calls Try.prog 3 #[.slice a len cap] w fun e w' => e = .returned (.bool true) ∧ Below w.heap.size w w' := by
  by_cases hbig : 4096 < (len : Int)
  · have hd : decide (4096 < (len : Int)) = true := decide_eq_true hbig
    go_enter Try.func3, Try.ntmps3
    go_wp2_with (go_at_call 7; refine (bigB _ _ _ _).mono ?_; rintro e w' ⟨rfl, rfl⟩)
    go_ret
    exact ⟨rfl, Below.refl _ _⟩
  · have hd : decide (4096 < (len : Int)) = false := decide_eq_false hbig
    have hl : len ≤ 4096 := by omega
    go_enter Try.func3, Try.ntmps3
    go_wp2_with fail
    refine (bigB _ _ _ _).mono ?_
    rintro e w1 ⟨rfl, hw1⟩
    obtain rfl := hw1.symm
    go_wp2_with fail
    refine (drawPure11 _ _ _ _ hl hcode).mono ?_
    rintro e w2 ⟨v, ns, rfl, ⟨hown, hn62, hsm, _⟩, hB2⟩
    obtain ⟨_, ta, tc, rfl, hin⟩ := own_nodes hown
    have hcap := own_capT hown
    have hcm := own_capM hown
    have hnil := own_nil0 hown
    have hsh := hsm.short
    have hint := hsm.int
    have HPi : Hid (∀ Z, Below w2.heap.size w2 Z → Calls Try.prog 9 #[.slice ta ns.length tc] Z fun e w' => e = .returned (.bool (pureB ns)) ∧ Below Z.heap.size Z w') := fun Z hz => implPure ta ns.length tc ns Z (hin.below hz) hint hsh (by omega) hcap hcm
    have HPs : Hid (∀ Z, Below w2.heap.size w2 Z → Calls Try.prog 10 #[.slice ta ns.length tc] Z fun e w' => e = .returned (.bool (pureB ns)) ∧ Below Z.heap.size Z w') := fun Z hz => specPure ta ns.length tc ns Z (hin.below hz) hsh (by omega)
    have HFi : Hid (∀ Z, Below w2.heap.size w2 Z → Calls Try.prog 11 #[.slice ta ns.length tc] Z fun e w' => ∃ v, e = .returned v ∧ w'.ownsRow Z.heap.size 28 4 v (foldT ns).length (nodesV (foldT ns)) ∧ Below Z.heap.size Z w') := fun Z hz => implFoldedTree ta ns.length tc ns Z (hin.below hz) hint hsh (by omega)
    have HIn : Hid (∀ Z, Below w2.heap.size w2 Z → NodesIn Z ta ns.length ns) := fun Z hz => hin.below hz
    have HNil : Hid (ta = none → tc = 0) := hnil
    have HCd : Hid (∀ Z, Below w2.heap.size w2 Z → Code Z Z.heap.size a len) := fun Z hz => hcode.later (hB2.trans (hz.mono hB2.size))
    have HB0 : Hid (Below w.heap.size w w2) := hB2
    have hB : Below w2.heap.size w2 w2 := Below.refl _ _
    obtain ⟨z, hzp⟩ : ∃ z, pureB ns = z := ⟨_, rfl⟩
    have HPz : Hid (pureB ns = z) := hzp
    rw [hzp] at HPi HPs
    have hne : (z != z) = false := by simp
    have HSh : Hid (ShortT ns) := hsh
    clear hown hin hcap hcm hnil hsh hint hsm hcode hB2 hzp
    go_wp2_with fail
    refine (HPi.out _ hB).mono ?_
    rintro e w3 ⟨rfl, hb3⟩
    replace hB := hB.trans (hb3.mono hB.size)
    clear hb3
    go_wp2_with fail
    refine (HPs.out _ hB).mono ?_
    rintro e w4 ⟨rfl, hb4⟩
    replace hB := hB.trans (hb4.mono hB.size)
    have HE4 : Hid (Below w.heap.size w w4) := HB0.out.trans (hB.mono HB0.out.size)
    clear hb4 HPi HPs
    rcases z with _ | _
    · go_wp2
      go_ret
      exact ⟨rfl, HE4.out⟩
    · have hpu := HPz.out
      obtain ⟨htb, _⟩ := pureB_pure hpu
      have h60 := (treeB_one.1 htb).1
      have HSp : Hid (ShortPs [pk11 ns]) := short11 HSh.out h60
      have HLw : Hid (∀ xs : List Int, xs.length = 3 → (∀ x ∈ xs, Word10 x) → (meantV [pk11 ns] mainT fT11 xs 20000).2 = 0 ∧ ((∀ n ∈ ns, n.1 ≠ 2) → foldT ns = [(1, (meantV [pk11 ns] mainT fT11 xs 20000).1, [], [])])) := fun xs h1 h2 => pure_law hpu h1 h2
      have HB4 : Hid (Below w2.heap.size w2 w4) := hB
      have HA0 : Hid (argB ns 0 = false) := rfl
      clear hB htb hpu HPz HSh
      go_wp2
      go_loopw [5, 6] (fun av iv wx => ∃ i : Nat, iv = .int .i64 (i : Int) ∧ i ≤ ns.length ∧ ∃ ab, av = .bool ab ∧ Hid (argB ns i = ab) ∧ Hid (Below w2.heap.size w2 wx)) (fun _ iv _ => ns.length - (intOf iv).toNat)
      case atStart => exact ⟨0, rfl, Nat.zero_le _, false, rfl, HA0, HB4⟩
      case round =>
        obtain ⟨i, rfl, hi, ab, rfl, HAb, HBr⟩ := hrel
        clear HA0 HB4
        by_cases hlt : (i : Int) < (ns.length : Int)
        · have hi2 : i < ns.length := by omega
          obtain ⟨b, off, rfl, hbl, c0, _⟩ := (HIn.out _ HBr.out).2 i hi2
          have hst := argB_step ns i hi2
          rw [HAb.out] at hst
          obtain ⟨kd, hkd⟩ : ∃ kd, (ns.getD i nd0).1 = kd := ⟨_, rfl⟩
          rw [hkd] at c0 hst
          rcases ab with _ | _
          · obtain ⟨kb, hkb⟩ : ∃ kb, (kd == 2) = kb := ⟨_, rfl⟩
            rw [hkb] at hst
            have HS : Hid (argB ns (i + 1) = kb) := by exact (by rw [hst]; rfl : argB ns (i + 1) = kb)
            clear hst hkd HAb
            go_wp2
            go_roundw
            case rel => exact ⟨i + 1, by go_num, by omega, kb, rfl, HS, HBr⟩
            case measure => simp [intOf]; omega
          · have HS : Hid (argB ns (i + 1) = true) := by exact (by rw [hst]; rfl : argB ns (i + 1) = true)
            clear hst hkd HAb c0
            go_wp2
            go_roundw
            case rel => exact ⟨i + 1, by go_num, by omega, true, rfl, HS, HBr⟩
            case measure => simp [intOf]; omega
        · obtain rfl : i = ns.length := by omega
          go_wp2_with fail
          refine (HFi.out _ HBr.out).mono ?_
          rintro e w5 ⟨vf, rfl, hvf, hb5⟩
          have HB5 : Hid (Below w2.heap.size w2 w5) := HBr.out.trans (hb5.mono HBr.out.size)
          obtain ⟨A1, hA⟩ : ∃ A1, w5.alloc (.cells #[.int .i64 2, .int .i64 0, .string ⟨#[]⟩, .string ⟨#[]⟩] 28) = A1 := ⟨_, rfl⟩
          obtain ⟨pA, hpA⟩ : ∃ p, w5.heap.size = p := ⟨_, rfl⟩
          obtain ⟨B1, hB1⟩ : ∃ B1, A1.alloc (.cells #[.string ⟨#[102]⟩, .int .i64 3, .slice ta ns.length tc, .string ⟨#[109, 97, 105, 110]⟩, .int .i64 1, .slice (some ⟨pA, 0, none⟩) 1 1] 31) = B1 := ⟨_, rfl⟩
          obtain ⟨pB, hpB⟩ : ∃ p, A1.heap.size = p := ⟨_, rfl⟩
          obtain ⟨C1, hC1⟩ : ∃ C1, B1.alloc (.cells #[.string ⟨#[109, 97, 105, 110]⟩, .slice none 0 0, .slice (some ⟨pB, 0, none⟩) 2 2] 35) = C1 := ⟨_, rfl⟩
          obtain ⟨pC, hpC⟩ : ∃ p, B1.heap.size = p := ⟨_, rfl⟩
          obtain ⟨hpk, hbC⟩ := pkgs11 (HIn.out _ HB5.out) HNil.out hA hpA hB1 hpB hC1 hpC
          have HPk : Hid (PkgsIn C1 (some ⟨pC, 0, none⟩) 1 [pk11 ns]) := hpk
          have HBC : Hid (Below w2.heap.size w2 C1) := HB5.out.trans (hbC.mono HB5.out.size)
          have HbC : Hid (Below w5.heap.size w5 C1) := hbC
          have HCode : Hid (Code C1 C1.heap.size a len) := HCd.out C1 HBC.out
          have HMn : Hid (∀ D1 pX x y, 0 ≤ x → x < 50 → 0 ≤ y → y < 9 → C1.alloc (.cells #[.int .i64 (x - 20), .int .i64 y, .int .i64 0] 2) = D1 → C1.heap.size = pX → Calls Try.prog 13 #[.slice (some ⟨pC, 0, none⟩) 1 1, .string ⟨#[109, 97, 105, 110]⟩, .string ⟨#[102]⟩, .slice (some ⟨pX, 0, none⟩) 3 3, .int .i64 20000] D1 fun e w' => ∃ m, e = .returned (.tuple #[.int .i64 m, .int .i64 0]) ∧ ((∀ n ∈ ns, n.1 ≠ 2) → foldT ns = [(1, m, [], [])]) ∧ Below C1.heap.size C1 w') := fun D1 pX x y hx0 hx1 hy0 hy1 hD hpX => by
            have hbD : Below C1.heap.size C1 D1 := by rw [← hD]; exact (Below.refl _ C1).alloc (Nat.le_refl _) _
            have has : AsIn D1 (some ⟨pX, 0, none⟩) [x - 20, y, 0] := fun j hj => by
              refine ⟨pX, 0, rfl, by rw [← hD, ← hpX]; simp, ?_⟩
              match j, hj with
              | 0, _ => rw [← hD, ← hpX]; simp
              | 1, _ => rw [← hD, ← hpX]; simp
              | 2, _ => rw [← hD, ← hpX]; simp
            obtain ⟨hk, hf⟩ := HLw.out [x - 20, y, 0] rfl (fun u hu => by
              unfold Word10
              simp only [List.mem_cons, List.not_mem_nil, or_false] at hu
              rcases hu with rfl | rfl | rfl <;> omega)
            have h := specMeant (some ⟨pC, 0, none⟩) 1 1 [pk11 ns] mainT fT11 (some ⟨pX, 0, none⟩) 3 [x - 20, y, 0] 20000 D1 (HPk.out.below hbD) (by omega) HSp.out has (by simp)
            rw [hk] at h
            refine h.mono ?_
            rintro e w' ⟨rfl, hb⟩
            exact ⟨_, rfl, hf, hbD.trans (hb.mono hbD.size)⟩
          clear hb5 hpk hbC HFi HIn HNil HCd HSp HPk
          rcases ab with _ | _
          · have h2 := argB_no HAb.out
            obtain ⟨m0, hm0⟩ : ∃ m, foldT ns = [(1, m, [], [])] := ⟨_, (HLw.out [0, 0, 0] rfl (fun u hu => by
              unfold Word10
              simp only [List.mem_cons, List.not_mem_nil, or_false] at hu
              rcases hu with rfl | rfl | rfl <;> omega)).2 h2⟩
            rw [hm0] at hvf
            obtain ⟨gf, cf, rfl⟩ := own_some hvf (by simp)
            have f0 : w5.cell? ⟨gf, 0, none⟩ = some (.int .i64 1) := hvf.cellAt 0 (by simp)
            have f1 : w5.cell? ⟨gf, 1, none⟩ = some (.int .i64 m0) := hvf.cellAt 1 (by simp)
            have hgl := (hvf.lt gf rfl).2
            have g1 := (HbC.out.cell (p := ⟨gf, 1, none⟩) hgl).trans f1
            have hgC : gf < C1.heap.size := Nat.lt_of_lt_of_le hgl HbC.out.size
            have H2 : Hid (∀ n ∈ ns, n.1 ≠ 2) := h2
            have Hm0 : Hid (foldT ns = [(1, m0, [], [])]) := hm0
            have hl1 : ([((1, m0, [], []) : Nd)]).length = 1 := rfl
            rw [hl1]
            clear h2 hm0 hvf HAb HLw hgl hl1
            go_wp2_with fail
            refine (pickB _ _ _ _ _ _ _ hl (by omega) (by omega) (by omega) HCode.out).mono ?_
            rintro e w6 ⟨⟨x, rfl, hx0, hx1⟩, hw6⟩
            obtain rfl := hw6.symm
            go_wp2_with fail
            refine (pickB _ _ _ _ _ _ _ hl (by omega) (by omega) (by omega) HCode.out).mono ?_
            rintro e w7 ⟨⟨y, rfl, hy0, hy1⟩, hw7⟩
            obtain rfl := hw7.symm
            obtain ⟨D1, hD1⟩ : ∃ D1, C1.alloc (.cells #[.int .i64 (x - 20), .int .i64 y, .int .i64 0] 2) = D1 := ⟨_, rfl⟩
            obtain ⟨pX, hpX⟩ : ∃ p, C1.heap.size = p := ⟨_, rfl⟩
            have HMe : Hid (_) := HMn.out D1 pX x y hx0 hx1 hy0 hy1 hD1 hpX
            clear HMn
            go_wp2_with fail
            refine Calls.mono HMe.out ?_
            rintro e w8 ⟨m, rfl, hf, hb8⟩
            have hmm : m = m0 := by
              have h3 := hf H2.out
              rw [Hm0.out] at h3
              injection h3 with h3
              injection h3 with _ h3
              injection h3 with h3
              exact h3.symm
            subst hmm
            have g2 := (hb8.cell (p := ⟨gf, 1, none⟩) hgC).trans g1
            have HBf : Hid (Below w.heap.size w w8) := by
              have h3 := HBC.out.trans (hb8.mono HBC.out.size)
              exact HB0.out.trans (h3.mono HB0.out.size)
            clear hf hb8 HMe
            go_wp2
            go_ret
            exact ⟨rfl, HBf.out⟩
          · clear hvf HLw HAb
            go_wp2_with fail
            refine (pickB _ _ _ _ _ _ _ hl (by omega) (by omega) (by omega) HCode.out).mono ?_
            rintro e w6 ⟨⟨x, rfl, hx0, hx1⟩, hw6⟩
            obtain rfl := hw6.symm
            go_wp2_with fail
            refine (pickB _ _ _ _ _ _ _ hl (by omega) (by omega) (by omega) HCode.out).mono ?_
            rintro e w7 ⟨⟨y, rfl, hy0, hy1⟩, hw7⟩
            obtain rfl := hw7.symm
            obtain ⟨D1, hD1⟩ : ∃ D1, C1.alloc (.cells #[.int .i64 (x - 20), .int .i64 y, .int .i64 0] 2) = D1 := ⟨_, rfl⟩
            obtain ⟨pX, hpX⟩ : ∃ p, C1.heap.size = p := ⟨_, rfl⟩
            have HMe : Hid (_) := HMn.out D1 pX x y hx0 hx1 hy0 hy1 hD1 hpX
            clear HMn
            go_wp2_with fail
            refine Calls.mono HMe.out ?_
            rintro e w8 ⟨m, rfl, hf, hb8⟩
            have HBf : Hid (Below w.heap.size w w8) := by
              have h3 := HBC.out.trans (hb8.mono HBC.out.size)
              exact HB0.out.trans (h3.mono HB0.out.size)
            clear hf hb8 HMe
            go_wp2
            go_ret
            exact ⟨rfl, HBf.out⟩

end Go.Proofs.Ytkjojhkpoooimaa
