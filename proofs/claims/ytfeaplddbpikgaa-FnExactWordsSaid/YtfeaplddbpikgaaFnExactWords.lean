/-
  FnExactWords returns true at every text and leaves it as it was: impl.Words answers as spec.Words, in memory of its own.
-/
import Derived.Test.YtfeaplddbpikgaaRows
import Derived.Test.YtfeaplddbpikgaaMath1
import Derived.Test.YtfeaplddbpikgaaMathT
import Derived.Test.YtfeaplddbpikgaaOwn
import Derived.Test.YtfeaplddbpikgaaHexOf
import Derived.Test.YtfeaplddbpikgaaTurned
import Derived.Test.YtfeaplddbpikgaaMath4
import Derived.Test.YtfeaplddbpikgaaWordS
import Derived.Test.YtfeaplddbpikgaaMath5
import Derived.Test.YtfeaplddbpikgaaMath5N
import Derived.Test.YtfeaplddbpikgaaTextS
import Derived.Test.YtfeaplddbpikgaaTextS2
import Derived.Test.YtfeaplddbpikgaaTextS3
import Derived.Test.YtfeaplddbpikgaaTextS4
import Derived.Test.YtfeaplddbpikgaaTextS5
import Derived.Test.YtfeaplddbpikgaaWordI
import Derived.Test.YtfeaplddbpikgaaJumps
import Derived.Test.YtfeaplddbpikgaaClone
import Derived.Test.YtfeaplddbpikgaaTextI
import Derived.Test.YtfeaplddbpikgaaTextX
import Derived.Test.YtfeaplddbpikgaaDraw
import Derived.Test.YtfeaplddbpikgaaDraw2
import Derived.Test.YtfeaplddbpikgaaMarks
import Derived.Test.YtfeaplddbpikgaaMarks2
import Derived.Test.YtfeaplddbpikgaaMarks3
import Derived.WalkKit
import Derived.ProofKit
import Derived.OpenShut
import Derived.ShutString
import Derived.ChangeOld
import Derived.Below
namespace Go.Proofs.Ytfeaplddbpikgaa.fnExactWords
open Go.ChangeShapes Go.WideShapes Go.ChangeAt Go.RowKit
open Go.ChangeMaps (open_string shut_string)
set_option linter.unusedVariables false      -- a walk need not use every 'w<i>' (that an integer argument fits its kind)

theorem own : ownKnob Try.prog.godebug = none := by kernel_rfl

/-! ### STEP 1: THE WALK: the Go text returns true. 'Below w.heap.size w w'': the world has at most new blocks (Derived/RowKit3.lean). Part the cases AHEAD of 'go_enter' where a test parts the walk; take each callee by a contract of your own. -/
set_option maxHeartbeats 8000000 in
set_option maxRecDepth 1000000 in
theorem walk (a0 : ByteArray) (w0 : a0.size ≤ maxLen) (w : World) :
    Calls Try.prog 5 #[.string a0] w fun e w' => e = .returned (.bool true) ∧ Below w.heap.size w w' := by
  obtain ⟨l, rfl⟩ : ∃ l : List UInt8, a0 = ⟨l.toArray⟩ := ⟨a0.data.toList, by cases a0; simp⟩
  by_cases hb : 1048576 < (l.length : Int)
  · go_enter Try.func5, Try.ntmps5
    go_wp2
    go_ret
    exact ⟨rfl, Below.refl _ _⟩
  · have hself : ∀ n : Int, (n != n) = false := by simp
    obtain ⟨fs, hF⟩ : ∃ fs, wordsL l = fs := ⟨_, rfl⟩
    have hfl : fs.length ≤ 1048577 := by rw [← hF]; have := wordsL_len l; omega
    have HF : Hid (wordsL l = fs) := hF
    clear hF
    go_enter Try.func5, Try.ntmps5
    go_wp2_with fail
    refine (specWordsX l fs _ (by omega) HF.out).mono ?_
    rintro e w1 ⟨v1, rfl, hown1, hb1⟩
    have hlt1 : Hid (∀ k, v1.ownBlock = some k → k < w1.heap.size) := fun k e => (hown1.lt k e).2
    go_wp2_with fail
    refine (implWordsX l fs _ (by omega) HF.out).mono ?_
    rintro e w2 ⟨v2, rfl, hown2, hb2⟩
    have hown1a := own_below hown1 hb2
    have hb2' := hb1.trans (hb2.mono hb1.size)
    have hz1 := hb1.size
    clear hown1 hb2 hb1
    go_wp2_with fail
    refine (eqStrV _ _ _ v2 v1 fs (by omega) hown2 hown1a).mono ?_
    rintro e w3 ⟨rfl, hg3⟩
    have hown1b := own_none hown1a hg3
    have hown2b := own_none hown2 hg3
    have hb3 : Below w.heap.size w w3 := hb2'.grown hg3 hb2'.size (by simp)
    clear hown1a hown2 hb2' hg3
    go_wp2_with fail
    refine (markStrV _ _ _ 1 v2 _ (by omega) (by omega) (by omega) hown2b).mono ?_
    rintro e w4 ⟨rfl, hown2c, hg4⟩
    have hown1c := own_apart hown1b hlt1.out hown2b hg4
    have hb4 : Below w.heap.size w w4 := hb3.grown hg4 hb3.size (fun k e => Nat.le_trans hz1 (hown2b.lt k e).1)
    clear hown1b hown2b hb3 hg4
    go_wp2_with fail
    refine (heldStrV _ _ _ 1 v2 (by omega) (by omega) (by omega) hown2c).mono ?_
    rintro e w5 ⟨rfl, hg5⟩
    have hown1d := own_none hown1c hg5
    have hown2d := own_none hown2c hg5
    have hb5 : Below w.heap.size w w5 := hb4.grown hg5 hb4.size (by simp)
    clear hown1c hown2c hb4 hg5
    go_wp2_with fail
    refine (implWordsX l fs _ (by omega) HF.out).mono ?_
    rintro e w6 ⟨v6, rfl, hown6, hb6⟩
    have hown1e := own_below hown1d hb6
    have hown2e := own_below hown2d hb6
    have hb6' := hb5.trans (hb6.mono hb5.size)
    clear hown1d hown2d hb6 hb5
    go_wp2_with fail
    refine (eqStrV _ _ _ v6 v1 fs (by omega) hown6 hown1e).mono ?_
    rintro e w7 ⟨rfl, hg7⟩
    have hown2f := own_none hown2e hg7
    have hb7 : Below w.heap.size w w7 := hb6'.grown hg7 hb6'.size (by simp)
    clear hown1e hown2e hown6 hg7 hb6'
    go_wp2_with fail
    refine (heldStrV _ _ _ 1 v2 (by omega) (by omega) (by omega) hown2f).mono ?_
    rintro e w8 ⟨rfl, hg8⟩
    have hb8 : Below w.heap.size w w8 := hb7.grown hg8 hb7.size (by simp)
    clear hown2f hg8 hb7
    go_wp2
    go_ret
    exact ⟨rfl, hb8⟩

/-! ### THE ROW's STEP: WRITTEN OUT: LEAVE IT -/
set_option maxRecDepth 100000 in
theorem lifted (os : Os) (started : os.Started) (H : Type) (enc : TypeId × Value → H) :
    ReturnsInHanded {} Try.checked os 5 .any (Rows.fnExactWordsSpec.pre6 enc Try.prog Try.f5 Rows.fnExactWordsRow.domain false) (Rows.fnExactWordsSpec.post enc Try.prog Try.f5 false true false false) := by
  refine returnsInHanded_of_change (C := Try.checked) own started (by kernel_rfl) Try.func5
    (ChangeSpec.witness6 (enc := enc) (C := Try.checked) false ⟨#[], #[.string ByteArray.empty], []⟩ 8 (by kernel_rfl) (by kernel_rfl) (by kernel_rfl) (by kernel_rfl)) ?_
  intro W base args ds gs before hval0 hW hcnd _
  have hval : ∀ (j : Nat) t v, Try.f5.params[j]? = some t → args[j]? = some v → Value.okWide Try.prog W .any base t v := hval0
  have hW' := hW
  obtain ⟨p, q, hA0, hV, rfl, hfz, hnd⟩ := hW
  have hA : DataW.TrodAll enc Try.prog W 0 (fun _ => true) true Try.f5.params.toList args.toList ds p := hA0
  rw [Try.params5] at hA hval
  obtain ⟨v0, vs0, d0, ds0, p0, q0, hargs, rfl, rfl, h0, r0⟩ := trodAll_cons hA
  obtain ⟨rfl, rfl, rfl⟩ := trodAll_nil r0
  obtain rfl : args = #[v0] := by cases args; simp_all
  obtain ⟨rfl, rfl⟩ := trodVars_none hV
  obtain ⟨a0, rfl, rfl, rfl, w0⟩ := open_string Try.underlying9 (hval 0 9 v0 rfl rfl) h0
  clear hA0 hval0
  simp only [List.append_nil] at hW'
  refine (walk a0 w0 W).mono fun e W' ⟨he, hg⟩ => ?_
  subst he
  exact ⟨_, rfl, _, _, _, [], _, [], hW', trodAll_mk1 (shut_bool Try.underlying4 _), (trodAll_cons_mk (shut_string Try.underlying9 w0) trodAll_mk0), rfl, hg.frame _, fun h => by cases h⟩

theorem over : Rows.fnExactWordsRow.holds Try.pinned (OpenSpec.ofChange Rows.fnExactWordsSpec) :=
  OpenClaim.holds_of_wide 5 Try.f5 rfl rfl rfl rfl rfl rfl rfl ⟨rfl, rfl, rfl, rfl, rfl⟩ rfl rfl rfl rfl rfl (by kernel_rfl) Try.func5 (by kernel_rfl)
    (of_decide_eq_true (by kernel_rfl)) (by unfold Func.isWrapper; first | (rw [if_pos (by decide +kernel)]; kernel_rfl) | (rw [if_neg (by decide +kernel)]; exact ⟨rfl, rfl⟩))
    (fun os started H enc _ => lifted os started H enc)

/-- ████ THE STATEMENT ████ -/
theorem proved : Rows.FnExactWordsSaid :=
  over
#print axioms proved
end Go.Proofs.Ytfeaplddbpikgaa.fnExactWords
