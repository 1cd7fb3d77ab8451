/-
  FnWords returns true at every code and leaves it as it was: words go round, and by one what is done comes back.
-/
import Derived.Test.YtfegekencoccdaaRows
import Derived.Test.YtfegekencoccdaaMath1
import Derived.Test.YtfegekencoccdaaMathT
import Derived.Test.YtfegekencoccdaaHexOf
import Derived.Test.YtfegekencoccdaaMath4
import Derived.Test.YtfegekencoccdaaWordS
import Derived.Test.YtfegekencoccdaaWordI
import Derived.Test.YtfegekencoccdaaDraw
import Derived.Test.YtfegekencoccdaaOwn
import Derived.Test.YtfegekencoccdaaDraw2
import Derived.Test.YtfegekencoccdaaDraw3
import Derived.Test.YtfegekencoccdaaDrawW
import Derived.Test.YtfegekencoccdaaCodes
import Derived.WalkKit
import Derived.ProofKit
import Derived.OpenShut
import Derived.ShutString
import Derived.ChangeOld
import Derived.Below
namespace Go.Proofs.Ytfegekencoccdaa.fnWords
open Go.ChangeShapes Go.WideShapes Go.ChangeAt Go.RowKit
open Go.ChangeMaps (open_string shut_string)
set_option linter.unusedVariables false

theorem own : ownKnob Try.prog.godebug = none := by kernel_rfl
theorem laidOut : laidOutB Try.prog = true := by kernel_rfl

/-- WHAT THE WALK IS TOLD OF A SLICE OF INTEGERS THAT CAME IN: it is nil; or it leads to a row of 'cap' cells, the numbers 'zs' (the first 'len' are its elements, the rest its spare room), each fitting its kind. -/
def IsRow (k : IntKind) (w : World) (a : Option Addr) (len cap : Nat) (zs : List Int) : Prop :=
  (a = none ∧ len = 0 ∧ cap = 0 ∧ zs = []) ∨
  ∃ x, a = some x ∧ len ≤ cap ∧ cap ≤ maxLen ∧ zs.length = cap ∧ (∀ i, i < zs.length → w.cell? (x.add i) = some (.int k (zs.getD i 0))) ∧ ∀ n ∈ zs, (Lit.int k n).wf = true

/-! ### STEP 1: THE WALK: the Go text returns true, AND WRITES NOTHING THAT WAS THERE: 'Below w.heap.size w w'' (Derived/Below.lean: '.refl', '.alloc', '.drew', '.setCell' at a new block, '.trans'). Open each 'IsRow' by 'rcases' AHEAD of 'go_enter'; part every test ahead of the walk. -/
set_option maxHeartbeats 1000000 in
set_option maxRecDepth 1000000 in
theorem walk (a0 : Option Addr) (len0 cap0 : Nat) (z0 : List Int) (w : World) (w0 : IsRow .u8 w a0 len0 cap0 z0) :
    Calls Try.prog 3 #[.slice a0 len0 cap0] w fun e w' => e = .returned (.bool true) ∧ Below w.heap.size w w' := by
  have hcode : Code w w.heap.size a0 len0 := by
    rcases w0 with ⟨rfl, rfl, rfl, rfl⟩ | ⟨x, rfl, hl, hm, hz, hcell, hwz⟩
    · exact code_nil w
    · exact code_of w x len0 z0 hcell (by omega) hwz
  clear w0
  by_cases hbig : 4096 < (len0 : Int)
  · have hd : decide (4096 < (len0 : Int)) = true := decide_eq_true hbig
    go_enter Try.func3, Try.ntmps3
    go_wp2_with (go_at_call 7; refine (bigB _ _ _ _).mono ?_; rintro e w' ⟨rfl, rfl⟩)
    go_ret
    exact ⟨rfl, Below.refl _ _⟩
  · have hd : decide (4096 < (len0 : Int)) = false := decide_eq_false hbig
    have hself : ∀ n : Int, (n != n) = false := by simp
    have hselfb : ∀ n : Bool, (n != n) = false := by simp
    have hselfe : ∀ n : Int, (n == n) = true := by simp
    go_enter Try.func3, Try.ntmps3
    go_wp2_with fail
    refine (bigB _ _ _ _).mono ?_
    rintro e w1 ⟨rfl, rfl⟩
    go_wp2_with fail
    refine (drawDoneN _ _ _ _ (by omega) hcode).mono ?_
    rintro e w2 ⟨k, x, y, rfl, hk, hx, hy, hb2⟩
    have hcode2 := hcode.later hb2
    have HK : Hid (-9223372036854775808 ≤ k ∧ k ≤ 9223372036854775807) := hk
    have HX : Hid (-9223372036854775808 ≤ x ∧ x ≤ 9223372036854775807) := hx
    have HY : Hid (-9223372036854775808 ≤ y ∧ y ≤ 9223372036854775807) := hy
    clear hcode hk hx hy
    go_wp2_with fail
    refine (implDone k x y _ HK.out HX.out HY.out).mono ?_
    rintro e w3 ⟨rfl, hb3⟩
    have hb3' := hb2.trans (hb3.mono hb2.size)
    have hcode3 := hcode2.later hb3
    clear hcode2 hb2 hb3
    go_wp2_with fail
    refine (drawWrapN _ _ _ _ (by omega) hcode3).mono ?_
    rintro e w4 ⟨n, rfl, hn0, hn1, hb4⟩
    have hb4' := hb3'.trans (hb4.mono hb3'.size)
    have HN : Hid (-9223372036854775808 ≤ n ∧ n ≤ 9223372036854775807) := ⟨hn0, hn1⟩
    clear hcode3 hb3' hb4 hn0 hn1
    go_wp2_with fail
    refine (implWrap n _ HN.out).mono ?_
    rintro e w5 ⟨rfl, hb5⟩
    have hb5' := hb4'.trans (hb5.mono hb4'.size)
    clear hb4' hb5
    have hwb := wrapW_bd n
    have hwd := wrapW_diff n
    obtain ⟨z, hz⟩ : ∃ z, wrapW n = z := ⟨_, rfl⟩
    have HZ : Hid (wrapW n = z) := hz
    rw [hz] at hwb hwd ⊢
    obtain ⟨hz0, hz1⟩ := hwb
    have hzi : inB z (-2147483648) 2147483647 = true := inB_yes _ _ _ hz0 hz1
    have HDf : Hid ((wrap64 (n - z)).tmod 4294967296 = 0) := hwd
    have hvb := doneV_bd k x y
    have hvn := doneV_not k x y
    have hyes := done_yes k x y
    obtain ⟨v, hv⟩ : ∃ v, doneV k x y = v := ⟨_, rfl⟩
    obtain ⟨is, his⟩ : ∃ is, doneB k x y = is := ⟨_, rfl⟩
    have HV : Hid (doneV k x y = v ∧ doneB k x y = is) := ⟨hv, his⟩
    rw [hv] at hvb hvn ⊢
    rw [his] at hvn hyes ⊢
    clear hz hv his hwd
    go_wp2_with fail
    refine (specDone k x y _).mono ?_
    rintro e w6 ⟨rfl, rfl⟩
    rw [HV.out.1, HV.out.2]
    go_wp2_with fail
    refine (specWrap n _).mono ?_
    rintro e w7 ⟨rfl, rfl⟩
    rw [HZ.out]
    go_wp2_with fail
    refine (implWordOk x _ HX.out).mono ?_
    rintro e w8 ⟨rfl, hb8⟩
    have hb8' := hb5'.trans (hb8.mono hb5'.size)
    clear hb5' hb8
    go_wp2_with fail
    refine (specWordOk x _).mono ?_
    rintro e w9 ⟨rfl, rfl⟩
    obtain ⟨u, hu⟩ : ∃ u, inB x (-2147483648) 2147483647 = u := ⟨_, rfl⟩
    rw [hu]
    clear hu
    go_wp2_with fail
    refine (implWordOk z _ (by omega)).mono ?_
    rintro e w10 ⟨rfl, hb10⟩
    have hb10' := hb8'.trans (hb10.mono hb8'.size)
    clear hb8' hb10
    rw [hzi]
    have hdd : ((wrap64 (n - z)).tmod 4294967296 != 0) = false := by rw [HDf.out]; rfl
    rcases is with _ | _
    · obtain rfl : v = 0 := hvn rfl
      clear hvn hyes hvb
      go_wp2
      go_ret
      exact ⟨rfl, hb10'⟩
    · obtain ⟨hxw, hyw⟩ := hyes rfl
      obtain ⟨e1, e2, e3, e4, e5, e6⟩ := done_back x y hxw hyw
      have HE : Hid (doneV 4 (doneV 3 x y) y = x ∧ doneB 3 x y = true ∧ doneB 4 (doneV 3 x y) y = true ∧ doneB 5 x y = true ∧ doneB 5 y x = true ∧ doneV 5 x y = doneV 5 y x) := ⟨e1, e2, e3, e4, e5, e6⟩
      have hsb := doneV_bd 3 x y
      have hvi : inB v (-2147483648) 2147483647 = true := inB_yes _ _ _ hvb.1 hvb.2
      clear hvn hyes e1 e2 e3 e4 e5 e6
      go_wp2_with fail
      refine (implDone 3 x y _ (by omega) HX.out HY.out).mono ?_
      rintro e w11 ⟨rfl, hb11⟩
      have hb11' := hb10'.trans (hb11.mono hb10'.size)
      rw [HE.out.2.1]
      obtain ⟨s, hs⟩ : ∃ s, doneV 3 x y = s := ⟨_, rfl⟩
      have HS : Hid (doneV 3 x y = s) := hs
      rw [hs] at hsb ⊢
      clear hb10' hb11 hs
      go_wp2_with fail
      refine (implDone 4 s y _ (by omega) (by omega) HY.out).mono ?_
      rintro e w12 ⟨rfl, hb12⟩
      have hb12' := hb11'.trans (hb12.mono hb11'.size)
      have h4 := HE.out.1
      have h5 := HE.out.2.2.1
      rw [HS.out] at h4 h5
      rw [h4, h5]
      clear hb11' hb12 h4 h5
      go_wp2_with fail
      refine (implDone 5 x y _ (by omega) HX.out HY.out).mono ?_
      rintro e w13 ⟨rfl, hb13⟩
      have hb13' := hb12'.trans (hb13.mono hb12'.size)
      rw [HE.out.2.2.2.1, HE.out.2.2.2.2.2]
      clear hb12' hb13
      go_wp2_with fail
      refine (implDone 5 y x _ (by omega) HY.out HX.out).mono ?_
      rintro e w14 ⟨rfl, hb14⟩
      have hb14' := hb13'.trans (hb14.mono hb13'.size)
      rw [HE.out.2.2.2.2.1]
      generalize doneV 5 y x = m
      clear hb13' hb14
      go_wp2_with fail
      refine (implWordOk v _ (by omega)).mono ?_
      rintro e w15 ⟨rfl, hb15⟩
      have hb15' := hb14'.trans (hb15.mono hb14'.size)
      rw [hvi]
      clear hb14' hb15
      go_wp2
      go_ret
      exact ⟨rfl, hb15'⟩

/-! ### THE ROW's STEP: WRITTEN OUT: LEAVE IT -/
set_option maxRecDepth 100000 in
theorem lifted (os : Os) (started : os.Started) (H : Type) (enc : TypeId × Value → H) :
    ReturnsInHanded {} Try.checked os 3 .any (Rows.fnWordsSpec.pre6 enc Try.prog Try.f3 Rows.fnWordsRow.domain false) (Rows.fnWordsSpec.post enc Try.prog Try.f3 false true false false) := by
  refine returnsInHanded_of_change (C := Try.checked) own started (by kernel_rfl) Try.func3
    (ChangeSpec.witness6 (enc := enc) (C := Try.checked) false ⟨#[], #[.slice none 0 0], []⟩ 8 (by kernel_rfl) (by kernel_rfl) (by kernel_rfl) (by kernel_rfl)) ?_
  intro W base args ds gs before hval0 hW hcnd _
  have hval : ∀ (j : Nat) t v, Try.f3.params[j]? = some t → args[j]? = some v → Value.okWide Try.prog W .any base t v := hval0
  have hW' := hW
  obtain ⟨p, q, hA0, hV, rfl, hfz, hnd⟩ := hW
  have hA : DataW.TrodAll enc Try.prog W 0 (fun _ => true) true Try.f3.params.toList args.toList ds p := hA0
  rw [Try.params3] at hA hval
  obtain ⟨v0, vs0, d0, ds0, p0, q0, hargs, rfl, rfl, h0, r0⟩ := trodAll_cons hA
  obtain ⟨rfl, rfl, rfl⟩ := trodAll_nil r0
  obtain rfl : args = #[v0] := by cases args; simp_all
  obtain ⟨rfl, rfl⟩ := trodVars_none hV
  obtain ⟨a0, len0, cap0, rfl⟩ := okWide_slice Try.underlying22 (hval 0 22 v0 rfl rfl)
  have k0 := h0
  have lt0 : ∀ x ∈ p0, x.block < W.heap.size := by obtain ⟨m, hm⟩ := k0; exact DataW.trod_lt m _ _ _ hm
  obtain ⟨z0, w0⟩ : ∃ zs, IsRow .u8 W a0 len0 cap0 zs := by
    obtain ⟨fuel, hf⟩ := h0
    rcases open_ints Try.underlying22 Try.underlying5 (by kernel_rfl) hf with ⟨hcs, _⟩ | ⟨x, l, c, zs, hcs, _, hl, hm, hz, _, hcell, hwz⟩
    · simp [Value.cells] at hcs
      obtain ⟨rfl, rfl, rfl⟩ := hcs
      exact ⟨[], .inl ⟨rfl, rfl, rfl, rfl⟩⟩
    · simp [Value.cells] at hcs
      obtain ⟨rfl, rfl, rfl⟩ := hcs
      exact ⟨zs, .inr ⟨_, rfl, hl, hm, by simpa using hz, hcell, hwz⟩⟩
  clear hA0 hval0
  refine (walk a0 len0 cap0 z0 W w0).mono fun e W' ⟨he, bel⟩ => ?_
  subst he
  exact ⟨_, rfl, _, _, _, [], _, [], hW', trodAll_mk1 (shut_bool Try.underlying4 _), (trodAll_cons_mk (Below.trod laidOut (by kernel_rfl) (of_decide_eq_true (by kernel_rfl)) k0 bel lt0) trodAll_mk0), rfl, bel.frame _, fun h => by cases h⟩

theorem over : Rows.fnWordsRow.holds Try.pinned (OpenSpec.ofChange Rows.fnWordsSpec) :=
  OpenClaim.holds_of_wide 3 Try.f3 rfl rfl rfl rfl rfl rfl rfl ⟨rfl, rfl, rfl, rfl, rfl⟩ rfl rfl rfl rfl rfl (by kernel_rfl) Try.func3 (by kernel_rfl)
    (of_decide_eq_true (by kernel_rfl)) (by unfold Func.isWrapper; first | (rw [if_pos (by decide +kernel)]; kernel_rfl) | (rw [if_neg (by decide +kernel)]; exact ⟨rfl, rfl⟩))
    (fun os started H enc _ => lifted os started H enc)

/-- ████ THE STATEMENT ████ -/
theorem proved : Rows.FnWordsSaid := over
#print axioms proved
end Go.Proofs.Ytfegekencoccdaa.fnWords
