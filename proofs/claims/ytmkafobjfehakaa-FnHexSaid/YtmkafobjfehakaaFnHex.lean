/-
  FnHex returns true at every code and leaves it as it was: eight letters are read as what they were made of, and nothing else is read.
-/
import Derived.Test.YtmkafobjfehakaaRows
import Derived.Test.YtmkafobjfehakaaMath1
import Derived.Test.YtmkafobjfehakaaMathT
import Derived.Test.YtmkafobjfehakaaMathF
import Derived.Test.YtmkafobjfehakaaMathX
import Derived.Test.YtmkafobjfehakaaHexOf
import Derived.Test.YtmkafobjfehakaaFromHex
import Derived.Test.YtmkafobjfehakaaListsX
import Derived.Test.YtmkafobjfehakaaDraw
import Derived.Test.YtmkafobjfehakaaDraw2
import Derived.Test.YtmkafobjfehakaaDraw3
import Derived.Test.YtmkafobjfehakaaBend1
import Derived.Test.YtmkafobjfehakaaBend2
import Derived.Test.YtmkafobjfehakaaDraw4
import Derived.Test.YtmkafobjfehakaaCodes
import Derived.WalkKit
import Derived.ProofKit
import Derived.OpenShut
import Derived.ShutString
import Derived.ChangeOld
import Derived.Below
namespace Go.Proofs.Ytmkafobjfehakaa.fnHex
open Go.ChangeShapes Go.WideShapes Go.ChangeAt Go.RowKit
open Go.ChangeMaps (open_string shut_string)
set_option linter.unusedVariables false

theorem own : ownKnob Try.prog.godebug = none := by kernel_rfl
theorem laidOut : laidOutB Try.prog = true := by kernel_rfl

/-- WHAT THE WALK IS TOLD OF A SLICE OF INTEGERS THAT CAME IN: it is nil; or it leads to a row of 'cap' cells, the numbers 'zs' (the first 'len' are its elements, the rest its spare room), each fitting its kind. -/
def IsRow (k : IntKind) (w : World) (a : Option Addr) (len cap : Nat) (zs : List Int) : Prop :=
  (a = none ∧ len = 0 ∧ cap = 0 ∧ zs = []) ∨
  ∃ x, a = some x ∧ len ≤ cap ∧ cap ≤ maxLen ∧ zs.length = cap ∧ (∀ i, i < zs.length → w.cell? (x.add i) = some (.int k (zs.getD i 0))) ∧ ∀ n ∈ zs, (Lit.int k n).wf = true

/-! ### STEP 1: THE WALK: the Go text returns true, AND WRITES NOTHING THAT WAS THERE: 'Below w.heap.size w w'' (Derived/Below.lean: '.refl', '.alloc', '.drew', '.setCell' at a new block, '.trans'). Open each 'IsRow' by 'rcases' AHEAD of 'go_enter'; part every test ahead of the walk. -/
set_option maxHeartbeats 1000000 in
set_option maxRecDepth 100000 in
theorem walk (a0 : Option Addr) (len0 cap0 : Nat) (z0 : List Int) (w : World) (w0 : IsRow .u8 w a0 len0 cap0 z0) :
    Calls Try.prog 4 #[.slice a0 len0 cap0] w fun e w' => e = .returned (.bool true) ∧ Below w.heap.size w w' := by
  have hcode : Code w w.heap.size a0 len0 := by
    rcases w0 with ⟨rfl, rfl, rfl, rfl⟩ | ⟨x, rfl, hl, hm, hz, hcell, hwz⟩
    · exact code_nil w
    · exact code_of w x len0 z0 hcell (by omega)
  clear w0
  by_cases hbig : 4096 < (len0 : Int)
  · have hd : decide (4096 < (len0 : Int)) = true := decide_eq_true hbig
    go_enter Try.func4, Try.ntmps4
    go_wp2_with (go_at_call 5; refine (bigB _ _ _ _).mono ?_; rintro e w' ⟨rfl, rfl⟩)
    go_ret
    exact ⟨rfl, Below.refl _ _⟩
  · have hd : decide (4096 < (len0 : Int)) = false := decide_eq_false hbig
    have hself : ∀ l : List UInt8, (l != l) = false := by simp
    have hself2 : ∀ n : Int, (n != n) = false := by simp
    have hself3 : ∀ n : Int, (n == n) = true := by simp
    go_enter Try.func4, Try.ntmps4
    go_wp2_with fail
    refine (bigB _ _ _ _).mono ?_
    rintro e w1 ⟨rfl, rfl⟩
    go_wp2_with fail
    refine (drawHexOf _ _ _ _ (by omega) hcode).mono ?_
    rintro e w2 ⟨n, rfl, hb2⟩
    have hcode2 := hcode.later hb2
    clear hcode
    obtain ⟨s, hs⟩ : ∃ s, hexS n = s := ⟨_, rfl⟩
    have HS : Hid (hexS n = s) := hs
    clear hs
    go_wp2_with fail
    refine (implHexOfX n s _ HS.out).mono ?_
    rintro e w3 ⟨rfl, hb3⟩
    have hb3' := hb2.trans (hb3.mono hb2.size)
    have hcode3 := hcode2.later hb3
    clear hcode2 hb2 hb3
    go_wp2_with fail
    refine (drawFromHex _ _ _ _ (by omega) hcode3).mono ?_
    rintro e w4 ⟨t, rfl, ht, hb4⟩
    have hb4' := hb3'.trans (hb4.mono hb3'.size)
    clear hcode3 hb3' hb4
    obtain ⟨x, hx⟩ : ∃ x, fromN t = x := ⟨_, rfl⟩
    obtain ⟨b, hb⟩ : ∃ b, fromB t = b := ⟨_, rfl⟩
    have HX : Hid (fromN t = x) := hx
    have HB : Hid (fromB t = b) := hb
    clear hx hb
    go_wp2_with fail
    refine (implFromHexX t x b _ HX.out HB.out).mono ?_
    rintro e w5 ⟨rfl, rfl⟩
    go_wp2_with fail
    refine (specFromHexX t x b _ HX.out HB.out).mono ?_
    rintro e w6 ⟨rfl, rfl⟩
    have hbb : (b != b) = false := by simp
    go_wp2_with fail
    refine (specHexOfX n s _ HS.out).mono ?_
    rintro e w7 ⟨rfl, hb7⟩
    have hb7' := hb4'.trans (hb7.mono hb4'.size)
    clear hb4' hb7 hbb
    rcases b with _ | _
    · clear HX HB
      rcases (show (n < 0 ∨ 4294967295 < n) ∨ (0 ≤ n ∧ n ≤ 4294967295) by omega) with hn | ⟨hn0, hn1⟩
      · obtain rfl : s = [] := by rw [← HS.out]; exact hexS_no n hn
        clear HS
        rcases hn with hn | hn
        all_goals
          go_wp2
          go_ret
          exact ⟨rfl, hb7'⟩
      · have HF : Hid (fromB s = true ∧ fromN s = n ∧ s.length = 8) := by
          have := from_hexS n hn0 hn1
          rw [HS.out] at this
          exact this
        have hse : s.isEmpty = false := by
          rcases s with _ | _
          · exact absurd HF.out.2.2 (by simp)
          · rfl
        have hs8 : ((s.length : Int) == 8) = true := by rw [HF.out.2.2]; rfl
        clear HS
        go_wp2_with fail
        refine (implFromHexX s n true _ HF.out.2.1 HF.out.1).mono ?_
        rintro e w9 ⟨rfl, rfl⟩
        go_wp2
        go_ret
        exact ⟨rfl, hb7'⟩
    · have HT : Hid (hexS x = t) := by
        have := hexS_from t HB.out
        rw [HX.out] at this
        exact this
      clear HX HB
      go_wp2_with fail
      refine (implHexOfX x t _ HT.out).mono ?_
      rintro e w8 ⟨rfl, hb8⟩
      have hb8' := hb7'.trans (hb8.mono hb7'.size)
      clear hb8 hb7' HT
      rcases (show (n < 0 ∨ 4294967295 < n) ∨ (0 ≤ n ∧ n ≤ 4294967295) by omega) with hn | ⟨hn0, hn1⟩
      · obtain rfl : s = [] := by rw [← HS.out]; exact hexS_no n hn
        clear HS
        rcases hn with hn | hn
        all_goals
          go_wp2
          go_ret
          exact ⟨rfl, hb8'⟩
      · have HF : Hid (fromB s = true ∧ fromN s = n ∧ s.length = 8) := by
          have := from_hexS n hn0 hn1
          rw [HS.out] at this
          exact this
        have hse : s.isEmpty = false := by
          rcases s with _ | _
          · exact absurd HF.out.2.2 (by simp)
          · rfl
        have hs8 : ((s.length : Int) == 8) = true := by rw [HF.out.2.2]; rfl
        clear HS
        go_wp2_with fail
        refine (implFromHexX s n true _ HF.out.2.1 HF.out.1).mono ?_
        rintro e w9 ⟨rfl, rfl⟩
        go_wp2
        go_ret
        exact ⟨rfl, hb8'⟩

/-! ### THE ROW's STEP: WRITTEN OUT: LEAVE IT -/
set_option maxRecDepth 100000 in
theorem lifted (os : Os) (started : os.Started) (H : Type) (enc : TypeId × Value → H) :
    ReturnsInHanded {} Try.checked os 4 .any (Rows.fnHexSpec.pre6 enc Try.prog Try.f4 Rows.fnHexRow.domain false) (Rows.fnHexSpec.post enc Try.prog Try.f4 false true false false) := by
  refine returnsInHanded_of_change (C := Try.checked) own started (by kernel_rfl) Try.func4
    (ChangeSpec.witness6 (enc := enc) (C := Try.checked) false ⟨#[], #[.slice none 0 0], []⟩ 8 (by kernel_rfl) (by kernel_rfl) (by kernel_rfl) (by kernel_rfl)) ?_
  intro W base args ds gs before hval0 hW hcnd _
  have hval : ∀ (j : Nat) t v, Try.f4.params[j]? = some t → args[j]? = some v → Value.okWide Try.prog W .any base t v := hval0
  have hW' := hW
  obtain ⟨p, q, hA0, hV, rfl, hfz, hnd⟩ := hW
  have hA : DataW.TrodAll enc Try.prog W 0 (fun _ => true) true Try.f4.params.toList args.toList ds p := hA0
  rw [Try.params4] at hA hval
  obtain ⟨v0, vs0, d0, ds0, p0, q0, hargs, rfl, rfl, h0, r0⟩ := trodAll_cons hA
  obtain ⟨rfl, rfl, rfl⟩ := trodAll_nil r0
  obtain rfl : args = #[v0] := by cases args; simp_all
  obtain ⟨rfl, rfl⟩ := trodVars_none hV
  obtain ⟨a0, len0, cap0, rfl⟩ := okWide_slice Try.underlying22 (hval 0 22 v0 rfl rfl)
  have k0 := h0
  have lt0 : ∀ x ∈ p0, x.block < W.heap.size := by obtain ⟨m, hm⟩ := k0; exact DataW.trod_lt m _ _ _ hm
  obtain ⟨z0, w0⟩ : ∃ zs, IsRow .u8 W a0 len0 cap0 zs := by
    obtain ⟨fuel, hf⟩ := h0
    rcases open_ints Try.underlying22 Try.underlying5 (by kernel_rfl) hf with ⟨hcs, _⟩ | ⟨x, l, c, zs, hcs, _, hl, hm, hz, _, hcell, hwz⟩
    · simp [Value.cells] at hcs
      obtain ⟨rfl, rfl, rfl⟩ := hcs
      exact ⟨[], .inl ⟨rfl, rfl, rfl, rfl⟩⟩
    · simp [Value.cells] at hcs
      obtain ⟨rfl, rfl, rfl⟩ := hcs
      exact ⟨zs, .inr ⟨_, rfl, hl, hm, by simpa using hz, hcell, hwz⟩⟩
  clear hA0 hval0
  refine (walk a0 len0 cap0 z0 W w0).mono fun e W' ⟨he, bel⟩ => ?_
  subst he
  exact ⟨_, rfl, _, _, _, [], _, [], hW', trodAll_mk1 (shut_bool Try.underlying4 _), (trodAll_cons_mk (Below.trod laidOut (by kernel_rfl) (of_decide_eq_true (by kernel_rfl)) k0 bel lt0) trodAll_mk0), rfl, bel.frame _, fun h => by cases h⟩

theorem over : Rows.fnHexRow.holds Try.pinned (OpenSpec.ofChange Rows.fnHexSpec) :=
  OpenClaim.holds_of_wide 4 Try.f4 rfl rfl rfl rfl rfl rfl rfl ⟨rfl, rfl, rfl, rfl, rfl⟩ rfl rfl rfl rfl rfl (by kernel_rfl) Try.func4 (by kernel_rfl)
    (of_decide_eq_true (by kernel_rfl)) (by unfold Func.isWrapper; first | (rw [if_pos (by decide +kernel)]; kernel_rfl) | (rw [if_neg (by decide +kernel)]; exact ⟨rfl, rfl⟩))
    (fun os started H enc _ => lifted os started H enc)

/-- ████ THE STATEMENT ████ -/
theorem proved : Rows.FnHexSaid := over
#print axioms proved
end Go.Proofs.Ytmkafobjfehakaa.fnHex
