/-
  Parts of one proof, one behind the other: LawSe, LawFi.
-/
import Derived.Test.YtdnehneldmmeoaaP17
import Derived.Test.YtdnehneldmmeoaaP5
import Derived.Test.YtdnehneldmmeoaaP7
import Derived.Test.YtdnehneldmmeoaaP1
import Derived.WalkArith
import Derived.Deep.RegionHeld
import Derived.Deep.Cut

/-! The law FnSethi: no order takes fewer than Need, and by the greater part first it is just that. -/
namespace Go.Proofs.Ytdnehneldmmeoaa
open Go.RowKit

theorem ints_lit12 {xs : List Int} (h : ∀ x ∈ xs, -9223372036854775808 ≤ x ∧ x ≤ 9223372036854775807) : ∀ x ∈ xs, (Lit.int .i64 x).wf = true := fun x hx => by
  exact WalkArith.wf_i64 (h x hx)
theorem first_range (t : List Nd) (a : Int) : -1 ≤ firstT t a ∧ firstT t a ≤ 1 := by
  unfold firstT
  split
  · split <;> omega
  · omega

/-- The orders that FnSethi makes, so far. -/
structure Best12 (w2 wx : World) (L : Nat) (v : Value) (ns : List Nd) (ys : List Int) : Prop where
  row : wx.ownsRow L 2 1 v ys.length (intsV ys)
  ll : w2.heap.size ≤ L
  lh : L ≤ wx.heap.size
  bel : Below w2.heap.size w2 wx
  val : ∀ i : Nat, i < ys.length → 3 ≤ (ns.getD i nd0).1 → (ns.getD i nd0).1 ≤ 6 → ys.getD i 0 = firstT ns (i : Int)
  bd : ∀ y ∈ ys, -9223372036854775808 ≤ y ∧ y ≤ 9223372036854775807
section
variable {w2 wx Z : World} {L : Nat} {v : Value} {ns : List Nd} {ys : List Int}
theorem Best12.below (h : Best12 w2 wx L v ns ys) (hb : Below wx.heap.size wx Z) : Best12 w2 Z L v ns ys :=
  ⟨own_below h.row hb, h.ll, Nat.le_trans h.lh hb.size, h.bel.trans (hb.mono h.bel.size), h.val, h.bd⟩
theorem Best12.new (hB : Below w2.heap.size w2 wx) (ns : List Nd) : Best12 w2 (wx.alloc (.cells #[] 2)) wx.heap.size (.slice (some ⟨wx.heap.size, 0, none⟩) 0 0) ns [] :=
  ⟨World.ownsRow_lit (base := wx.heap.size) (e := 2) (size := 1) wx #[] 0 (Nat.le_refl _) (by decide) rfl, hB.size, (World.grownBy_alloc wx _ none).size, hB.alloc hB.size _, fun i hi => by simp at hi, fun y hy => by cases hy⟩
theorem Best12.push (h : Best12 w2 wx L v ns ys) (x : Int) (hx : -9223372036854775808 ≤ x ∧ x ≤ 9223372036854775807) (hn : ys.length ≤ 1000) (hk : 3 ≤ (ns.getD ys.length nd0).1 → (ns.getD ys.length nd0).1 ≤ 6 → x = firstT ns (ys.length : Int)) :
    ∃ a' c' Y, (Builtin.append_ #[25, 25] 25 #[v, .slice (some ⟨wx.heap.size, 0, none⟩) 1 1]).run Try.prog (wx.alloc (.cells #[.int .i64 x] 2)) = .ok (.slice a' (ys.length + 1) c') Y ∧ Best12 w2 Y L (.slice a' (ys.length + 1) c') ns (ys ++ [x]) := by
  obtain ⟨v', Y, hrun, hown, hg⟩ := push_int12 x h.row h.lh (by omega)
  obtain ⟨a', c', rfl⟩ := own_any12 hown
  have e1 : (ys ++ [x]).length = ys.length + 1 := by simp
  have hll := h.ll
  refine ⟨a', c', Y, hrun, ⟨by rw [e1]; exact hown, hll, Nat.le_trans h.lh hg.size, h.bel.grown hg h.bel.size (fun k e => by have := (h.row.lt k e).1; omega), fun i hi h3 h6 => ?_, fun y hy => ?_⟩⟩
  · rw [e1] at hi
    by_cases hl : i < ys.length
    · rw [← h.val i hl h3 h6]; simp [List.getD, List.getElem?_append, hl]
    · obtain rfl : i = ys.length := by omega
      rw [← hk h3 h6]; simp [List.getD]
  · rw [List.mem_append, List.mem_singleton] at hy
    rcases hy with hy | rfl
    · exact h.bd y hy
    · exact hx
end

set_option maxHeartbeats 8000000 in
set_option maxRecDepth 100000 in
theorem lawSethi (w : World) (a : Option Addr) (len cap : Nat) (hcode : Code w w.heap.size a len) :
    Calls Try.prog 3 #[.slice a len cap] w fun e w' => e = .returned (.bool true) ∧ Below w.heap.size w w' := by
  by_cases hbig : 4096 < (len : Int)
  · have hd : decide (4096 < (len : Int)) = true := decide_eq_true hbig
    go_enter Try.func3, Try.ntmps3
    go_wp2_with (go_at_call 8; refine (bigB _ _ _ _).mono ?_; rintro e w' ⟨rfl, rfl⟩)
    go_ret
    exact ⟨rfl, Below.refl _ _⟩
  · have hd : decide (4096 < (len : Int)) = false := decide_eq_false hbig
    have hl : len ≤ 4096 := by omega
    go_enter Try.func3, Try.ntmps3
    go_wp2_with fail
    refine (bigB _ _ _ _).mono ?_
    rintro e w1 ⟨rfl, hw1⟩
    obtain rfl := hw1.symm
    go_wp2_with fail
    refine (drawNeedBy _ _ _ _ hl hcode).mono ?_
    rintro e w2 ⟨v, u, ns, xs, rfl, ⟨hown, hn62, hsm, _⟩, hrow, hxl, hxw, hB2⟩
    obtain ⟨_, ta, tc, rfl, hin⟩ := own_nodes hown
    have hcap := own_capT hown
    have hcm := own_capM hown
    obtain ⟨oa, oc, rfl, hos⟩ := own_as hrow
    have hoc := own_capT hrow
    have hom := own_capM hrow
    have hsh := hsm.short
    have hint := hsm.int
    have HNi : Hid (∀ Z, Below w2.heap.size w2 Z → Calls Try.prog 10 #[.slice ta ns.length tc, .slice oa xs.length oc] Z fun e w' => e = .returned (.int .i64 (needByT ns xs)) ∧ Below Z.heap.size Z w') := fun Z hz => implNeedBy ta ns.length tc ns oa oc xs Z (hin.below hz) hint hsh (by omega) hcap hcm (hos.below hz) (by omega) (ints_lit12 hxw) hoc hom
    have HNs : Hid (∀ Z, Below w2.heap.size w2 Z → Calls Try.prog 12 #[.slice ta ns.length tc, .slice oa xs.length oc] Z fun e w' => e = .returned (.int .i64 (needByT ns xs)) ∧ Below Z.heap.size Z w') := fun Z hz => specNeedBy ta ns.length tc ns oa oc xs Z (hin.below hz) (hos.below hz) hsh (by omega)
    have HNe : Hid (∀ Z, Below w2.heap.size w2 Z → Calls Try.prog 13 #[.slice ta ns.length tc] Z fun e w' => e = .returned (.int .i64 (needT ns)) ∧ Below Z.heap.size Z w') := fun Z hz => implNeed ta ns.length tc ns Z (hin.below hz) hint hsh (by omega) hcap hcm
    have HTr : Hid (∀ Z, Below w2.heap.size w2 Z → Calls Try.prog 15 #[.slice ta ns.length tc] Z fun e w' => e = .returned (.bool (treeB ns)) ∧ Below Z.heap.size Z w') := fun Z hz => specTreeOk ta ns.length tc ns Z (hin.below hz) hsh (by omega)
    have HFp : Hid (∀ Z (i : Nat), i < ns.length → Below w2.heap.size w2 Z → Calls Try.prog 16 #[.slice ta ns.length tc, .int .i64 (i : Int)] Z fun e w' => e = .returned (.int .i64 (firstT ns (i : Int))) ∧ Below Z.heap.size Z w') := fun Z i hi hz => specFirstPart ta ns.length tc ns (i : Int) Z (hin.below hz) hsh (by omega) (by omega) (by omega)
    have HBy : Hid (∀ Z L v ys, Best12 w2 Z L v ns ys → ys.length ≤ 62 → Calls Try.prog 10 #[.slice ta ns.length tc, v] Z fun e w' => e = .returned (.int .i64 (needByT ns ys)) ∧ Below Z.heap.size Z w') := fun Z L v ys h hy => by
      obtain ⟨oa, oc, rfl, hos⟩ := own_as h.row
      exact implNeedBy ta ns.length tc ns oa oc ys Z (hin.below h.bel) hint hsh (by omega) hcap hcm hos (by omega) (ints_lit12 h.bd) (own_capT h.row) (own_capM h.row)
    have HIn : Hid (∀ Z, Below w2.heap.size w2 Z → NodesIn Z ta ns.length ns) := fun Z hz => hin.below hz
    have HCd : Hid (∀ Z, Below w2.heap.size w2 Z → Code Z Z.heap.size a len) := fun Z hz => hcode.later (hB2.trans (hz.mono hB2.size))
    have HB0 : Hid (Below w.heap.size w w2) := hB2
    have hB : Below w2.heap.size w2 w2 := Below.refl _ _
    have HM : Hid (treeB ns = false → needByT ns xs = 0 ∧ needT ns = 0) := fun h => ⟨(need_none h xs).2, (need_none h xs).1⟩
    have HG : Hid (treeB ns = true → xs.length = ns.length → needT ns ≤ needByT ns xs) := fun h e => sethi_ge h e
    have HS : Hid (treeB ns = true → ∀ ys : List Int, ys.length = ns.length → (∀ i : Nat, i < ys.length → 3 ≤ (ns.getD i nd0).1 → (ns.getD i nd0).1 ≤ 6 → ys.getD i 0 = firstT ns (i : Int)) → needByT ns ys = needT ns) := fun h ys e hv => sethi_best h e (fun i hi => hv i (by omega))
    generalize needByT ns xs = m at HNi HNs HM HG
    generalize needT ns = k at HNe HM HG HS
    have hne : (m != m) = false := by simp
    have hke : (k == k) = true := by simp
    have hxl2 : xs.length ≤ 63 := by omega
    clear hown hin hcap hcm hsh hint hsm hcode hB2 hrow hos hoc hom hxw hxl
    go_wp2_with fail
    refine (HNi.out _ hB).mono ?_
    rintro e w3 ⟨rfl, hb3⟩
    replace hB := hB.trans (hb3.mono hB.size)
    clear hb3 HNi
    go_wp2_with fail
    refine (drawNeed _ _ _ _ hl (HCd.out _ hB)).mono ?_
    rintro e w4 ⟨v4, qs, rfl, ⟨hown4, hq62, hsm4, _⟩, hb4⟩
    obtain ⟨_, qa, qc, rfl, hin4⟩ := own_nodes hown4
    have hcap4 := own_capT hown4
    have hcm4 := own_capM hown4
    have HQi : Hid (∀ Z, Below w4.heap.size w4 Z → Calls Try.prog 13 #[.slice qa qs.length qc] Z fun e w' => e = .returned (.int .i64 (needT qs)) ∧ Below Z.heap.size Z w') := fun Z hz => implNeed qa qs.length qc qs Z (hin4.below hz) hsm4.int hsm4.short (by omega) hcap4 hcm4
    have HQs : Hid (∀ Z, Below w4.heap.size w4 Z → Calls Try.prog 14 #[.slice qa qs.length qc] Z fun e w' => e = .returned (.int .i64 (needT qs)) ∧ Below Z.heap.size Z w') := fun Z hz => specNeedT qa qs.length qc qs Z (hin4.below hz) hsm4.short (by omega)
    generalize needT qs = kq at HQi HQs
    have hqe : (kq != kq) = false := by simp
    replace hB := hB.trans (hb4.mono hB.size)
    have hC : Below w4.heap.size w4 w4 := Below.refl _ _
    clear hb4 HCd hown4 hin4 hcap4 hcm4 hsm4
    go_wp2_with fail
    refine (HNs.out _ hB).mono ?_
    rintro e w5 ⟨rfl, hb5⟩
    replace hC := hC.trans (hb5.mono hC.size)
    replace hB := hB.trans (hb5.mono hB.size)
    clear hb5 HNs
    go_wp2_with fail
    refine (HQi.out _ hC).mono ?_
    rintro e w6 ⟨rfl, hb6⟩
    replace hC := hC.trans (hb6.mono hC.size)
    replace hB := hB.trans (hb6.mono hB.size)
    clear hb6 HQi
    go_wp2_with fail
    refine (HQs.out _ hC).mono ?_
    rintro e w7 ⟨rfl, hb7⟩
    replace hB := hB.trans (hb7.mono hB.size)
    clear hb7 HQs hC
    go_wp2_with fail
    refine (HTr.out _ hB).mono ?_
    rintro e w8 ⟨rfl, hb8⟩
    replace hB := hB.trans (hb8.mono hB.size)
    clear hb8 HTr
    rcases hz : treeB ns with _ | _
    · obtain ⟨rfl, rfl⟩ := HM.out hz
      have HE : Hid (∀ Z, Below w8.heap.size w8 Z → Below w.heap.size w Z) := fun Z hz => HB0.out.trans ((hB.trans (hz.mono hB.size)).mono HB0.out.size)
      clear HM HG HS hz HBy HFp HIn
      go_wp2_with fail
      refine (HNe.out _ hB).mono ?_
      rintro e w9 ⟨rfl, hb9⟩
      have HF := HE.out _ hb9
      clear hb9 hB HNe
      go_wp2
      go_ret
      exact ⟨rfl, HF⟩
    have HG2 : Hid (xs.length = ns.length → k ≤ m) := HG.out hz
    have HS2 : Hid (_) := HS.out hz
    have HB8 : Hid (Below w2.heap.size w2 w8) := hB
    clear HM HG HS hz hne
    go_upto_region 10 with fail
    go_cut [53] from 43 (fun v wx => v = .bool false ∧ Hid (Below w2.heap.size w2 wx))
    case first =>
      by_cases he : xs.length = ns.length
      · have hkm := HG2.out he
        have hlk : decide (m < k) = false := decide_eq_false (by omega)
        have hee : ((xs.length : Int) == (ns.length : Int)) = true := by rw [he]; simp
        clear HG2 hkm he
        go_wp2_with fail
        refine (HNe.out _ hB).mono ?_
        rintro e w9 ⟨rfl, hb9⟩
        have HB9 : Hid (Below w2.heap.size w2 w9) := hB.trans (hb9.mono hB.size)
        clear hb9 hB
        go_wp2_with fail
        go_meet
        case rel => exact ⟨by first | rfl | rw [hlk], HB9⟩
      · have hee : ((xs.length : Int) == (ns.length : Int)) = false := beq_eq_false_iff_ne.2 (by omega)
        clear HG2 he
        go_wp2_with fail
        go_meet
        case rel => exact ⟨rfl, HB8⟩
    case rest =>
    obtain ⟨rfl, HBc⟩ := hcut
    have hbst := Best12.new HBc.out ns
    obtain ⟨Y0, hY0⟩ : ∃ Y0, wc.alloc (.cells #[] 2) = Y0 := ⟨_, rfl⟩
    obtain ⟨L0, hL0⟩ : ∃ L0, wc.heap.size = L0 := ⟨_, rfl⟩
    rw [hY0, hL0] at hbst
    have HBs : Hid (Best12 w2 Y0 L0 (.slice (some ⟨L0, 0, none⟩) 0 0) ns []) := hbst
    obtain ⟨n, hn⟩ : ∃ n, ns.length = n := ⟨_, rfl⟩
    have HLn : Hid (ns.length = n) := hn
    rw [hn] at HNe HFp HBy HIn HS2 hn62 ⊢
    clear hbst HB8 hB HBc HG2 hn hxl2 hq62
    go_wp2_with fail
    go_loopw [7, 8] (fun uv iv wx => ∃ (ua : Option Addr) (uc : Nat) (ys : List Int), uv = .slice ua ys.length uc ∧ iv = .int .i64 (ys.length : Int) ∧ ys.length ≤ n ∧ Hid (Best12 w2 wx L0 (.slice ua ys.length uc) ns ys)) (fun _ iv _ => n - (intOf iv).toNat)
    case atStart => exact ⟨_, _, [], rfl, rfl, Nat.zero_le _, HBs⟩
    case round =>
      obtain ⟨ua, uc, ys, rfl, rfl, hyl, HB⟩ := hrel
      clear HBs
      by_cases hlt : (ys.length : Int) < (n : Int)
      · have hi : ys.length < n := by omega
        obtain ⟨b, off, rfl, hbl, c0, _⟩ := (HIn.out _ HB.out.bel).2 ys.length hi
        have HK : Hid (∀ x : Int, (3 ≤ (ns.getD ys.length nd0).1 → (ns.getD ys.length nd0).1 ≤ 6 → x = firstT ns (ys.length : Int)) → ∀ Z, Best12 w2 Z L0 (.slice ua ys.length uc) ns ys → -1 ≤ x ∧ x ≤ 1 → ∃ a' c' Y, (Builtin.append_ #[25, 25] 25 #[.slice ua ys.length uc, .slice (some ⟨Z.heap.size, 0, none⟩) 1 1]).run Try.prog (Z.alloc (.cells #[.int .i64 x] 2)) = .ok (.slice a' (ys.length + 1) c') Y ∧ Best12 w2 Y L0 (.slice a' (ys.length + 1) c') ns (ys ++ [x])) := fun x hx Z h hb => h.push x (by omega) (by omega) hx
        have HFr : Hid (_) := first_range ns (ys.length : Int)
        have HFc : Hid (_) := fun Z => HFp.out Z ys.length hi
        generalize (ns.getD ys.length nd0).1 = kd at c0 HK
        generalize firstT ns (ys.length : Int) = fi at HK HFr HFc
        by_cases h36 : 3 ≤ kd ∧ kd ≤ 6
        · obtain ⟨h3, h6⟩ := h36
          go_wp2_with fail
          refine (HFc.out _ HB.out.bel).mono ?_
          rintro e w9 ⟨rfl, hb9⟩
          obtain ⟨a', c', Y, hrun, hbest⟩ := HK.out fi (fun _ _ => rfl) w9 (HB.out.below hb9) HFr.out
          have HN : Hid (Best12 w2 Y L0 (.slice a' (ys.length + 1) c') ns (ys ++ [fi])) := hbest
          clear hbest hb9 HK HFr HFc c0
          go_wp2_with (at_builtin; refine wpList_append_run rfl (.tmp 75) (.tmp 79) 25 rfl _ _ _ rfl rfl hrun ?_; clear hrun)
          go_roundw
          case rel => exact ⟨a', c', ys ++ [fi], by rw [List.length_append]; rfl, by rw [List.length_append, List.length_singleton]; go_num, by rw [List.length_append, List.length_singleton]; omega, by rw [List.length_append]; exact HN⟩
          case measure => simp [intOf]; omega
        · obtain ⟨a', c', Y, hrun, hbest⟩ := HK.out 0 (fun h3 h6 => absurd ⟨h3, h6⟩ h36) wr HB.out (by omega)
          have HN : Hid (Best12 w2 Y L0 (.slice a' (ys.length + 1) c') ns (ys ++ [0])) := hbest
          clear hbest HK HFr HFc
          by_cases h3 : 3 ≤ kd
          · have h6 : ¬ kd ≤ 6 := fun h => h36 ⟨h3, h⟩
            clear h36
            go_wp2_with (at_builtin; refine wpList_append_run rfl (.tmp 81) (.tmp 82) 25 rfl _ _ _ rfl rfl hrun ?_; clear hrun)
            go_roundw
            case rel => exact ⟨a', c', ys ++ [0], by rw [List.length_append]; rfl, by rw [List.length_append, List.length_singleton]; go_num, by rw [List.length_append, List.length_singleton]; omega, by rw [List.length_append]; exact HN⟩
            case measure => simp [intOf]; omega
          · clear h36
            go_wp2_with (at_builtin; refine wpList_append_run rfl (.tmp 81) (.tmp 82) 25 rfl _ _ _ rfl rfl hrun ?_; clear hrun)
            go_roundw
            case rel => exact ⟨a', c', ys ++ [0], by rw [List.length_append]; rfl, by rw [List.length_append, List.length_singleton]; go_num, by rw [List.length_append, List.length_singleton]; omega, by rw [List.length_append]; exact HN⟩
            case measure => simp [intOf]; omega
      · have hyn : ys.length = n := by omega
        have HV := HBy.out _ _ _ _ HB.out (by omega)
        have hkk : needByT ns ys = k := HS2.out ys hyn HB.out.val
        rw [hkk] at HV
        have HV2 : Hid (_) := HV
        have hBw := HB.out.bel
        clear HV hkk HS2 HBy HFp HIn hyn
        go_wp2_with fail
        refine Calls.mono HV2.out ?_
        rintro e w9 ⟨rfl, hb9⟩
        replace hBw := hBw.trans (hb9.mono hBw.size)
        clear hb9 HV2 HB
        go_wp2_with fail
        refine (HNe.out _ hBw).mono ?_
        rintro e w10 ⟨rfl, hb10⟩
        have HF : Hid (Below w.heap.size w w10) := HB0.out.trans ((hBw.trans (hb10.mono hBw.size)).mono HB0.out.size)
        clear hb10 hBw HNe
        go_wp2
        go_ret
        exact ⟨by first | rfl | simp, HF.out⟩

end Go.Proofs.Ytdnehneldmmeoaa

/-! The law FnFirst: the part that goes first needs no less than the other one. -/
namespace Go.Proofs.Ytdnehneldmmeoaa
open Go.RowKit

theorem first_no {t : List Nd} {a : Int} (h : ¬ (treeB t = true ∧ 0 ≤ a ∧ a < t.length ∧ 3 ≤ (t.getD a.toNat nd0).1 ∧ (t.getD a.toNat nd0).1 ≤ 6)) : firstT t a = -1 := by
  unfold firstT
  rw [if_neg h]
theorem nodes_cut12 {w : World} {g off n : Nat} {ns : List Nd} (h : NodesIn w (some ⟨g, off, none⟩) n ns) (p q : Nat) (hp : p ≤ q) (hq : q ≤ n) : NodesIn w (some ⟨g, off + p * 4, none⟩) (q - p) ((ns.drop p).take (q - p)) :=
  (h.drop p).take (q - p) (by omega)

set_option maxHeartbeats 8000000 in
set_option maxRecDepth 100000 in
theorem lawFirst (w : World) (a : Option Addr) (len cap : Nat) (hcode : Code w w.heap.size a len) :
    Calls Try.prog 4 #[.slice a len cap] w fun e w' => e = .returned (.bool true) ∧ Below w.heap.size w w' := by
  by_cases hbig : 4096 < (len : Int)
  · have hd : decide (4096 < (len : Int)) = true := decide_eq_true hbig
    go_enter Try.func4, Try.ntmps4
    go_wp2_with (go_at_call 8; refine (bigB _ _ _ _).mono ?_; rintro e w' ⟨rfl, rfl⟩)
    go_ret
    exact ⟨rfl, Below.refl _ _⟩
  · have hd : decide (4096 < (len : Int)) = false := decide_eq_false hbig
    have hl : len ≤ 4096 := by omega
    go_enter Try.func4, Try.ntmps4
    go_wp2_with fail
    refine (bigB _ _ _ _).mono ?_
    rintro e w1 ⟨rfl, hw1⟩
    obtain rfl := hw1.symm
    go_wp2_with fail
    refine (drawFirstPart _ _ _ _ hl hcode).mono ?_
    rintro e w2 ⟨v, ns, x, rfl, ⟨hown, hn62, hsm, _⟩, hx0, hx1, hB2⟩
    obtain ⟨_, ta, tc, rfl, hin⟩ := own_nodes hown
    have hcap := own_capT hown
    have hcm := own_capM hown
    have hsh := hsm.short
    have hint := hsm.int
    have HFi : Hid (∀ Z, Below w2.heap.size w2 Z → Calls Try.prog 18 #[.slice ta ns.length tc, .int .i64 x] Z fun e w' => e = .returned (.int .i64 (firstT ns x)) ∧ Below Z.heap.size Z w') := fun Z hz => implFirstPart ta ns.length tc ns x Z (hin.below hz) hint hsh (by omega) hcap hcm ⟨by omega, by omega⟩
    have HFs : Hid (∀ Z, Below w2.heap.size w2 Z → Calls Try.prog 16 #[.slice ta ns.length tc, .int .i64 x] Z fun e w' => e = .returned (.int .i64 (firstT ns x)) ∧ Below Z.heap.size Z w') := fun Z hz => specFirstPart ta ns.length tc ns x Z (hin.below hz) hsh (by omega) (by omega) (by omega)
    have HTr : Hid (∀ Z, Below w2.heap.size w2 Z → Calls Try.prog 15 #[.slice ta ns.length tc] Z fun e w' => e = .returned (.bool (treeB ns)) ∧ Below Z.heap.size Z w') := fun Z hz => specTreeOk ta ns.length tc ns Z (hin.below hz) hsh (by omega)
    have HPt : Hid (∀ Z, Below w2.heap.size w2 Z → Calls Try.prog 19 #[.slice ta ns.length tc, .int .i64 x] Z fun e w' => ∃ v, e = .returned v ∧ w'.ownsRow Z.heap.size 2 1 v (partsV ns x).length (intsV (partsV ns x)) ∧ Below Z.heap.size Z w') := fun Z hz => specPartsOf ta ns.length tc ns x Z (hin.below hz) hsh (by omega)
    have HEn : Hid (∀ Z, Below w2.heap.size w2 Z → Calls Try.prog 20 #[.slice ta ns.length tc, .int .i64 x] Z fun e w' => e = .returned (.int .i64 (endV ns x)) ∧ Below Z.heap.size Z w') := fun Z hz => specEndOf ta ns.length tc ns x Z (hin.below hz) hsh (by omega)
    have HCu : Hid (∀ b off, ta = some ⟨b, off, none⟩ → ∀ p q : Nat, p ≤ q → q ≤ ns.length → ∀ Z, Below w2.heap.size w2 Z → Calls Try.prog 13 #[.slice (some ⟨b, off + p * 4, none⟩) (q - p) (tc - p)] Z fun e w' => e = .returned (.int .i64 (needT ((ns.drop p).take (q - p)))) ∧ Below Z.heap.size Z w') := fun b off e p q hp hq Z hz => by
      subst e
      exact implNeed _ (q - p) (tc - p) _ Z (nodes_cut12 (hin.below hz) p q hp hq) ((hint.drop p).take _) ((hsh.drop p).take _) (by omega) (by omega) (by omega)
    have HIn : Hid (∀ Z, Below w2.heap.size w2 Z → NodesIn Z ta ns.length ns) := fun Z hz => hin.below hz
    have HB0 : Hid (Below w.heap.size w w2) := hB2
    have HE : Hid (∀ Z, Below w2.heap.size w2 Z → Below w.heap.size w Z) := fun Z hz => HB0.out.trans (hz.mono HB0.out.size)
    have hB : Below w2.heap.size w2 w2 := Below.refl _ _
    obtain ⟨f, hf⟩ : ∃ f, firstT ns x = f := ⟨_, rfl⟩
    have HF : Hid (firstT ns x = f) := hf
    rw [hf] at HFi HFs
    have hne : (f != f) = false := by simp
    have hcT : (ns.length : Int) ≤ (tc : Int) := by omega
    clear hown hin hcap hcm hsh hint hsm hcode hB2 hf HB0
    go_wp2_with fail
    refine (HFi.out _ hB).mono ?_
    rintro e w3 ⟨rfl, hb3⟩
    replace hB := hB.trans (hb3.mono hB.size)
    clear hb3 HFi
    go_wp2_with fail
    refine (HFs.out _ hB).mono ?_
    rintro e w4 ⟨rfl, hb4⟩
    replace hB := hB.trans (hb4.mono hB.size)
    clear hb4 HFs
    by_cases hc : treeB ns = true ∧ 0 ≤ x ∧ x < ns.length ∧ 3 ≤ (ns.getD x.toNat nd0).1 ∧ (ns.getD x.toNat nd0).1 ≤ 6
    rotate_left
    · obtain rfl : f = -1 := HF.out.symm.trans (first_no hc)
      have HV : Hid (_) := HTr.out _ hB
      have HE4 : Hid (∀ Z, Below w4.heap.size w4 Z → Below w.heap.size w Z) := fun Z hz => HE.out _ (hB.trans (hz.mono hB.size))
      have HI4 : Hid (∀ Z, Below w4.heap.size w4 Z → NodesIn Z ta ns.length ns) := fun Z hz => HIn.out _ (hB.trans (hz.mono hB.size))
      clear HF HPt HEn HCu HTr hcT
      rcases hz : treeB ns with _ | _
      · rw [hz] at HV
        clear hz hc HIn HI4
        go_wp2_with fail
        refine Calls.mono HV.out ?_
        rintro e w5 ⟨rfl, hb5⟩
        have HF := HE4.out _ hb5
        clear hb5
        go_wp2
        go_ret
        exact ⟨rfl, HF⟩
      rw [hz] at HV
      by_cases h0 : x < 0
      · clear hz hc HIn HI4
        go_wp2_with fail
        refine Calls.mono HV.out ?_
        rintro e w5 ⟨rfl, hb5⟩
        have HF := HE4.out _ hb5
        clear hb5
        go_wp2
        go_ret
        exact ⟨rfl, HF⟩
      by_cases h1 : (ns.length : Int) ≤ x
      · clear hz hc HIn HI4
        go_wp2_with fail
        refine Calls.mono HV.out ?_
        rintro e w5 ⟨rfl, hb5⟩
        have HF := HE4.out _ hb5
        clear hb5
        go_wp2
        go_ret
        exact ⟨rfl, HF⟩
      obtain ⟨k, rfl⟩ : ∃ k : Nat, x = (k : Int) := Int.eq_ofNat_of_zero_le (by omega)
      rw [Int.toNat_natCast] at hc
      have hk : k < ns.length := by omega
      have hkd : (ns.getD k nd0).1 < 3 ∨ 6 < (ns.getD k nd0).1 := by
        rcases Int.lt_or_le (ns.getD k nd0).1 3 with h | h
        · exact Or.inl h
        · exact Or.inr (Int.lt_of_not_ge (fun h6 => hc ⟨hz, by omega, by omega, h, h6⟩))
      clear hz hc HIn
      go_wp2_with fail
      refine Calls.mono HV.out ?_
      rintro e w5 ⟨rfl, hb5⟩
      have HF := HE4.out _ hb5
      obtain ⟨b, off, rfl, hbl, c0, _⟩ := (HI4.out _ hb5).2 k hk
      generalize (ns.getD k nd0).1 = kd at c0 hkd
      clear hb5 HI4 HE4
      rcases hkd with h3 | h6
      · go_wp2
        go_ret
        exact ⟨rfl, HF⟩
      · have h3 : ¬ kd < 3 := by omega
        go_wp2
        go_ret
        exact ⟨rfl, HF⟩
    obtain ⟨htb, h0, h1, h3, h6⟩ := hc
    obtain ⟨k, rfl⟩ : ∃ k : Nat, x = (k : Int) := Int.eq_ofNat_of_zero_le (by omega)
    rw [Int.toNat_natCast] at h3 h6
    have hk : k < ns.length := by omega
    obtain ⟨p, q, ee, hpt, hen, hpq, hqe, hel, hA, hBq⟩ := first_law htb hk ⟨h3, h6⟩
    have hpv : partsV ns (k : Int) = [(p : Int), (q : Int)] := by unfold partsV; rw [if_neg (by rw [hen]; omega)]; exact hpt
    have hfv : f = if need12 60 ns [] (q : Int) ≤ need12 60 ns [] (p : Int) then 0 else 1 := by
      rw [← HF.out]
      unfold firstT
      rw [Int.toNat_natCast, if_pos ⟨htb, by omega, by omega, h3, h6⟩, hpt]
      rfl
    obtain ⟨b, off, rfl, hbl, _⟩ := (HIn.out _ hB).2 k hk
    rw [hpv] at HPt
    rw [hen] at HEn
    have HNp : Hid (_) := HCu.out b off rfl p q (by omega) (by omega)
    have HNq : Hid (_) := HCu.out b off rfl q ee (by omega) (by omega)
    rw [hA] at HNp
    rw [hBq] at HNq
    generalize need12 60 ns [] (p : Int) = y at HNp hfv
    generalize need12 60 ns [] (q : Int) = z at HNq hfv
    have HFv : Hid (f = if z ≤ y then 0 else 1) := hfv
    have hf0 : ¬ f < 0 := by rw [hfv]; split <;> omega
    obtain ⟨n, hn⟩ : ∃ n, ns.length = n := ⟨_, rfl⟩
    have HLn : Hid (ns.length = n) := hn
    have hpq2 : (p : Int) ≤ (q : Int) := by omega
    have hqe2 : (q : Int) ≤ (ee : Int) := by omega
    have hqt : (q : Int) ≤ (tc : Int) := by omega
    have het : (ee : Int) ≤ (tc : Int) := by omega
    have htp : ¬ tc = p := by omega
    have htq : ¬ tc = q := by omega
    rw [hn] at HPt HEn ⊢
    clear hA hBq hpv hpt hen htb h3 h6 hfv HTr HF HCu HIn hn h1 h0 hbl hel hcT hn62 hk
    go_wp2_with fail
    refine (HPt.out _ hB).mono ?_
    rintro e V ⟨v, rfl, hv, hbV⟩
    replace hB := hB.trans (hbV.mono hB.size)
    obtain ⟨gp, cp, rfl⟩ := own_some hv (by simp)
    have c0 : V.cell? ⟨gp, 0, none⟩ = some (.int .i64 (p : Int)) := ints_cell hv 0 (by simp)
    have c1 : V.cell? ⟨gp, 1, none⟩ = some (.int .i64 (q : Int)) := ints_cell hv 1 (by simp)
    have hgl := (hv.lt gp rfl).2
    have HBV : Hid (Below w2.heap.size w2 V.drew) := ⟨hB.os, hB.tape, hB.output, hB.size, hB.block⟩
    have hl2 : ([(p : Int), (q : Int)] : List Int).length = 2 := rfl
    rw [hl2]
    clear hv HPt hbV hB hl2
    go_upto_region 10 with fail
    go_cut [7] from 58 (fun v wx => v = .int .i64 y ∧ gp < wx.heap.size ∧ wx.cell? ⟨gp, 1, none⟩ = some (.int .i64 (q : Int)) ∧ Hid (Below w2.heap.size w2 wx))
    case first =>
      refine wp_region_held_drew (S := (fun w' => w'.cell? ⟨gp, 0, none⟩ = some (.int .i64 (p : Int)) ∧ w'.cell? ⟨gp, 1, none⟩ = some (.int .i64 (q : Int)))) (by kernel_rfl) ?_ (fun hHeld => ?_)
      · first | (dsimp only; done) | (dsimp only; go_keep) | go_keep
      refine wpAnyH_take (i := 0) (oi := ⟨some 58, _, _, _, _, _⟩) (v := ?vf0) rfl (by kernel_rfl) (by kernel_rfl) (by kernel_rfl) (fun _ _ _ h => h) (Or.inl ⟨by rfl, ?hyf0⟩) (by assumption) ?restf0
      case hyf0 => (intro wq hSw; (try dsimp only at hSw); first | (go_simp; done) | (go_simp; with_reducible rfl))
      simp only [Act.put, List.setIfInBounds_toArray, List.set_cons_zero, List.set_cons_succ]
      refine wpAnyH_take (i := 1) (oi := ⟨some 59, _, _, _, _, _⟩) (v := ?vf1) rfl (by kernel_rfl) (by kernel_rfl) (by kernel_rfl) (fun _ _ _ h => h) (Or.inl ⟨by rfl, ?hyf1⟩) (by assumption) ?restf1
      case hyf1 => (intro wq hSw; (try dsimp only at hSw); first | (go_simp; done) | (go_simp; with_reducible rfl))
      simp only [Act.put, List.setIfInBounds_toArray, List.set_cons_zero, List.set_cons_succ]
      refine wpAnyH_take (i := 2) (oi := ⟨some 60, _, _, _, _, _⟩) (v := ?vf2) rfl (by kernel_rfl) (by kernel_rfl) (by kernel_rfl) (fun _ _ _ h => h) (Or.inl ⟨by rfl, ?hyf2⟩) (by assumption) ?restf2
      case hyf2 => (intro wq hSw; (try dsimp only at hSw); first | (go_simp; done) | (go_simp; with_reducible rfl))
      simp only [Act.put, List.setIfInBounds_toArray, List.set_cons_zero, List.set_cons_succ]
      refine wpAnyH_take (i := 3) (oi := ⟨some 61, _, _, _, _, _⟩) (v := ?vf3) rfl (by kernel_rfl) (by kernel_rfl) (by kernel_rfl) (fun _ _ _ h => h) (Or.inl ⟨by rfl, ?hyf3⟩) (by assumption) ?restf3
      case hyf3 => (intro wq hSw; (try dsimp only at hSw); first | (go_simp; done) | (go_simp; with_reducible rfl))
      simp only [Act.put, List.setIfInBounds_toArray, List.set_cons_zero, List.set_cons_succ]
      refine wpAnyH_take (i := 4) (oi := ⟨some 62, _, _, _, _, _⟩) (v := ?vf4) rfl (by kernel_rfl) (by kernel_rfl) (by kernel_rfl) (fun _ _ _ h => h) (Or.inl ⟨by rfl, ?hyf4⟩) (by assumption) ?restf4
      case hyf4 => (intro wq hSw; (try dsimp only at hSw); first | (go_simp; done) | (go_simp; with_reducible rfl))
      simp only [Act.put, List.setIfInBounds_toArray, List.set_cons_zero, List.set_cons_succ]
      refine wpAnyH_take (i := 5) (oi := ⟨some 63, _, _, _, _, _⟩) (v := ?vf5) rfl (by kernel_rfl) (by kernel_rfl) (by kernel_rfl) (fun _ _ _ h => h) (Or.inl ⟨by rfl, ?hyf5⟩) (by assumption) ?restf5
      case hyf5 => (intro wq hSw; (try dsimp only at hSw); first | (go_simp; done) | (go_simp; with_reducible rfl))
      simp only [Act.put, List.setIfInBounds_toArray, List.set_cons_zero, List.set_cons_succ]
      refine wpAnyH_take (i := 6) (oi := ⟨some 64, _, _, _, _, _⟩) (v := ?vf6) rfl (by kernel_rfl) (by kernel_rfl) (by kernel_rfl) (fun _ _ _ h => h) (Or.inl ⟨by rfl, ?hyf6⟩) (by assumption) ?restf6
      case hyf6 => (intro wq hSw; (try dsimp only at hSw); first | (go_simp; done) | (go_simp; with_reducible rfl))
      simp only [Act.put, List.setIfInBounds_toArray, List.set_cons_zero, List.set_cons_succ]
      refine wpAnyH_take (i := 7) (oi := ⟨some 65, _, _, _, _, _⟩) (v := ?vf7) rfl (by kernel_rfl) (by kernel_rfl) (by kernel_rfl) (fun _ _ _ h => h) (Or.inl ⟨by rfl, ?hyf7⟩) (by assumption) ?restf7
      case hyf7 => (intro wq hSw; (try dsimp only at hSw); first | (go_simp; done) | (go_simp; with_reducible rfl))
      simp only [Act.put, List.setIfInBounds_toArray, List.set_cons_zero, List.set_cons_succ]
      refine wpAnyH_ready (rs := [8]) (by kernel_rfl) (by simp) ?_
      refine AllReadyH.cons rfl (fun K hK => ?_) AllReadyH.nil
      go_simp
      go_at_call 13; refine Calls.mono (HNp.out _ HBV.out) ?_; rintro e wn ⟨rfl, hbn⟩; have hgwn : gp < wn.heap.size := Nat.lt_of_lt_of_le hgl hbn.size; replace c0 := (hbn.cell (p := ⟨gp, 0, none⟩) hgl).trans c0; replace c1 := (hbn.cell (p := ⟨gp, 1, none⟩) hgl).trans c1; have HBwn : Hid (Below w2.heap.size w2 wn) := HBV.out.trans (hbn.mono HBV.out.size); clear hbn; dsimp only
      refine hK.out _ _ ?_ (fun hHeld => ?_)
      · first | (dsimp only; done) | (dsimp only; go_keep) | go_keep
      clear hK K
      refine wpAnyH_take (i := 9) (oi := ⟨some 7, _, _, _, _, _⟩) (v := ?vf9) rfl (by kernel_rfl) (by kernel_rfl) (by kernel_rfl) (fun _ _ _ h => h) (Or.inl ⟨by rfl, ?hyf9⟩) (by assumption) ?restf9
      case hyf9 => (intro wq hSw; (try dsimp only at hSw); first | (go_simp; done) | (go_simp; with_reducible rfl))
      simp only [Act.put, List.setIfInBounds_toArray, List.set_cons_zero, List.set_cons_succ]
      refine wpAnyH_done (by kernel_rfl) ?_ _
      go_wp2_with fail
      go_meet
      case rel => exact ⟨rfl, hgwn, c1, HBwn⟩
    case rest =>
    obtain ⟨rfl, hgc, c1, HBc⟩ := hcut
    have HBd : Hid (Below w2.heap.size w2 wc.drew) := ⟨HBc.out.os, HBc.out.tape, HBc.out.output, HBc.out.size, HBc.out.block⟩
    clear HBc HBV hgl HNp
    go_upto_region 11 with fail
    go_cut [8] from 67 (fun v wx => v = .int .i64 z ∧ Hid (Below w2.heap.size w2 wx))
    case first =>
      refine wp_region_held_drew (S := (fun w' => w'.cell? ⟨gp, 1, none⟩ = some (.int .i64 (q : Int)))) (by kernel_rfl) ?_ (fun hHeld => ?_)
      · first | (dsimp only; done) | (dsimp only; go_keep) | go_keep
      refine wpAnyH_take (i := 0) (oi := ⟨some 67, _, _, _, _, _⟩) (v := ?vg0) rfl (by kernel_rfl) (by kernel_rfl) (by kernel_rfl) (fun _ _ _ h => h) (Or.inl ⟨by rfl, ?hyg0⟩) (by assumption) ?restg0
      case hyg0 => (intro wq hSw; (try dsimp only at hSw); first | (go_simp; done) | (go_simp; with_reducible rfl))
      simp only [Act.put, List.setIfInBounds_toArray, List.set_cons_zero, List.set_cons_succ]
      refine wpAnyH_take (i := 1) (oi := ⟨some 68, _, _, _, _, _⟩) (v := ?vg1) rfl (by kernel_rfl) (by kernel_rfl) (by kernel_rfl) (fun _ _ _ h => h) (Or.inl ⟨by rfl, ?hyg1⟩) (by assumption) ?restg1
      case hyg1 => (intro wq hSw; (try dsimp only at hSw); first | (go_simp; done) | (go_simp; with_reducible rfl))
      simp only [Act.put, List.setIfInBounds_toArray, List.set_cons_zero, List.set_cons_succ]
      refine wpAnyH_take (i := 2) (oi := ⟨some 69, _, _, _, _, _⟩) (v := ?vg2) rfl (by kernel_rfl) (by kernel_rfl) (by kernel_rfl) (fun _ _ _ h => h) (Or.inl ⟨by rfl, ?hyg2⟩) (by assumption) ?restg2
      case hyg2 => (intro wq hSw; (try dsimp only at hSw); first | (go_simp; done) | (go_simp; with_reducible rfl))
      simp only [Act.put, List.setIfInBounds_toArray, List.set_cons_zero, List.set_cons_succ]
      refine wpAnyH_take (i := 3) (oi := ⟨some 70, _, _, _, _, _⟩) (v := ?vg3) rfl (by kernel_rfl) (by kernel_rfl) (by kernel_rfl) (fun _ _ _ h => h) (Or.inl ⟨by rfl, ?hyg3⟩) (by assumption) ?restg3
      case hyg3 => (intro wq hSw; (try dsimp only at hSw); first | (go_simp; done) | (go_simp; with_reducible rfl))
      simp only [Act.put, List.setIfInBounds_toArray, List.set_cons_zero, List.set_cons_succ]
      refine wpAnyH_take (i := 4) (oi := ⟨some 71, _, _, _, _, _⟩) (v := ?vg4) rfl (by kernel_rfl) (by kernel_rfl) (by kernel_rfl) (fun _ _ _ h => h) (Or.inl ⟨by rfl, ?hyg4⟩) (by assumption) ?restg4
      case hyg4 => (intro wq hSw; (try dsimp only at hSw); first | (go_simp; done) | (go_simp; with_reducible rfl))
      simp only [Act.put, List.setIfInBounds_toArray, List.set_cons_zero, List.set_cons_succ]
      refine wpAnyH_take (i := 5) (oi := ⟨some 72, _, _, _, _, _⟩) (v := ?vg5) rfl (by kernel_rfl) (by kernel_rfl) (by kernel_rfl) (fun _ _ _ h => h) (Or.inl ⟨by rfl, ?hyg5⟩) (by assumption) ?restg5
      case hyg5 => (intro wq hSw; (try dsimp only at hSw); first | (go_simp; done) | (go_simp; with_reducible rfl))
      simp only [Act.put, List.setIfInBounds_toArray, List.set_cons_zero, List.set_cons_succ]
      refine wpAnyH_ready (rs := [6]) (by kernel_rfl) (by simp) ?_
      refine AllReadyH.cons rfl (fun K hK => ?_) AllReadyH.nil
      go_simp
      go_at_call 20; refine Calls.mono (HEn.out _ HBd.out) ?_; rintro e wm ⟨rfl, hbn⟩; have hgwm : gp < wm.heap.size := Nat.lt_of_lt_of_le hgc hbn.size; replace c1 := (hbn.cell (p := ⟨gp, 1, none⟩) hgc).trans c1; have HBwm : Hid (Below w2.heap.size w2 wm) := HBd.out.trans (hbn.mono HBd.out.size); clear hbn; dsimp only
      refine hK.out _ _ ?_ (fun hHeld => ?_)
      · first | (dsimp only; done) | (dsimp only; go_keep) | go_keep
      clear hK K
      refine wpAnyH_take (i := 7) (oi := ⟨some 74, _, _, _, _, _⟩) (v := ?vg7) rfl (by kernel_rfl) (by kernel_rfl) (by kernel_rfl) (fun _ _ _ h => h) (Or.inl ⟨by rfl, ?hyg7⟩) (by assumption) ?restg7
      case hyg7 => (intro wq hSw; (try dsimp only at hSw); first | (go_simp; done) | (go_simp; with_reducible rfl))
      simp only [Act.put, List.setIfInBounds_toArray, List.set_cons_zero, List.set_cons_succ]
      refine wpAnyH_ready (rs := [8]) (by kernel_rfl) (by simp) ?_
      refine AllReadyH.cons rfl (fun K hK => ?_) AllReadyH.nil
      go_simp
      go_at_call 13; refine Calls.mono (HNq.out _ HBwm.out) ?_; rintro e wo ⟨rfl, hbn⟩; have hgwo : gp < wo.heap.size := Nat.lt_of_lt_of_le hgwm hbn.size; replace c1 := (hbn.cell (p := ⟨gp, 1, none⟩) hgwm).trans c1; have HBwo : Hid (Below w2.heap.size w2 wo) := HBwm.out.trans (hbn.mono HBwm.out.size); clear hbn; dsimp only
      refine hK.out _ _ ?_ (fun hHeld => ?_)
      · first | (dsimp only; done) | (dsimp only; go_keep) | go_keep
      clear hK K
      refine wpAnyH_take (i := 9) (oi := ⟨some 8, _, _, _, _, _⟩) (v := ?vg9) rfl (by kernel_rfl) (by kernel_rfl) (by kernel_rfl) (fun _ _ _ h => h) (Or.inl ⟨by rfl, ?hyg9⟩) (by assumption) ?restg9
      case hyg9 => (intro wq hSw; (try dsimp only at hSw); first | (go_simp; done) | (go_simp; with_reducible rfl))
      simp only [Act.put, List.setIfInBounds_toArray, List.set_cons_zero, List.set_cons_succ]
      refine wpAnyH_done (by kernel_rfl) ?_ _
      go_wp2_with fail
      go_meet
      case rel => exact ⟨rfl, HBwo⟩
    case rest =>
    obtain ⟨rfl, HBf⟩ := hcut
    have HFin := HE.out _ HBf.out
    clear HBd c1 hgc HBf HNq HEn HE hf0
    by_cases h : z ≤ y
    · obtain rfl : f = 0 := by rw [HFv.out, if_pos h]
      clear HFv
      go_wp2
      go_ret
      exact ⟨rfl, HFin⟩
    · obtain rfl : f = 1 := by rw [HFv.out, if_neg h]
      have h2 : y < z := by omega
      clear HFv h
      go_wp2
      go_ret
      exact ⟨rfl, HFin⟩

end Go.Proofs.Ytdnehneldmmeoaa
