/-
  FnFrames returns true at every code and leaves it as it was: a frame is read as its text, and cut, or with one byte turned, it is none.
-/
import Derived.Test.YtdjbcjmnegjndaaRows
import Derived.Test.YtdjbcjmnegjndaaMath1
import Derived.Test.YtdjbcjmnegjndaaMathT
import Derived.Test.YtdjbcjmnegjndaaMathF
import Derived.Test.YtdjbcjmnegjndaaMathH
import Derived.Test.YtdjbcjmnegjndaaMathX
import Derived.Test.YtdjbcjmnegjndaaHash
import Derived.Test.YtdjbcjmnegjndaaHexOf
import Derived.Test.YtdjbcjmnegjndaaTurned
import Derived.Test.YtdjbcjmnegjndaaFromHex
import Derived.Test.YtdjbcjmnegjndaaLists
import Derived.Test.YtdjbcjmnegjndaaListsX
import Derived.Test.YtdjbcjmnegjndaaMath2
import Derived.Test.YtdjbcjmnegjndaaMath2F
import Derived.Test.YtdjbcjmnegjndaaFrameS
import Derived.Test.YtdjbcjmnegjndaaClone
import Derived.Test.YtdjbcjmnegjndaaFrameI
import Derived.Test.YtdjbcjmnegjndaaLists2
import Derived.Test.YtdjbcjmnegjndaaDraw
import Derived.Test.YtdjbcjmnegjndaaDraw2
import Derived.Test.YtdjbcjmnegjndaaBend1
import Derived.Test.YtdjbcjmnegjndaaBend2
import Derived.Test.YtdjbcjmnegjndaaDraw5
import Derived.Test.YtdjbcjmnegjndaaCodes
import Derived.WalkKit
import Derived.ProofKit
import Derived.OpenShut
import Derived.ShutString
import Derived.ChangeOld
import Derived.Below
namespace Go.Proofs.Ytdjbcjmnegjndaa.fnFrames
open Go.ChangeShapes Go.WideShapes Go.ChangeAt Go.RowKit
open Go.ChangeMaps (open_string shut_string)
set_option linter.unusedVariables false

theorem own : ownKnob Try.prog.godebug = none := by kernel_rfl
theorem laidOut : laidOutB Try.prog = true := by kernel_rfl

/-- WHAT THE WALK IS TOLD OF A SLICE OF INTEGERS THAT CAME IN: it is nil; or it leads to a row of 'cap' cells, the numbers 'zs' (the first 'len' are its elements, the rest its spare room), each fitting its kind. -/
def IsRow (k : IntKind) (w : World) (a : Option Addr) (len cap : Nat) (zs : List Int) : Prop :=
  (a = none ∧ len = 0 ∧ cap = 0 ∧ zs = []) ∨
  ∃ x, a = some x ∧ len ≤ cap ∧ cap ≤ maxLen ∧ zs.length = cap ∧ (∀ i, i < zs.length → w.cell? (x.add i) = some (.int k (zs.getD i 0))) ∧ ∀ n ∈ zs, (Lit.int k n).wf = true

/-! ### STEP 1: THE WALK: the Go text returns true, AND WRITES NOTHING THAT WAS THERE: 'Below w.heap.size w w'' (Derived/Below.lean: '.refl', '.alloc', '.drew', '.setCell' at a new block, '.trans'). Open each 'IsRow' by 'rcases' AHEAD of 'go_enter'; part every test ahead of the walk. -/
set_option maxHeartbeats 1000000 in
set_option maxRecDepth 1000000 in
theorem walk (a0 : Option Addr) (len0 cap0 : Nat) (z0 : List Int) (w : World) (w0 : IsRow .u8 w a0 len0 cap0 z0) :
    Calls Try.prog 3 #[.slice a0 len0 cap0] w fun e w' => e = .returned (.bool true) ∧ Below w.heap.size w w' := by
  have hcode : Code w w.heap.size a0 len0 := by
    rcases w0 with ⟨rfl, rfl, rfl, rfl⟩ | ⟨x, rfl, hl, hm, hz, hcell, hwz⟩
    · exact code_nil w
    · exact code_of w x len0 z0 hcell (by omega) hwz
  clear w0
  by_cases hbig : 4096 < (len0 : Int)
  · have hd : decide (4096 < (len0 : Int)) = true := decide_eq_true hbig
    go_enter Try.func3, Try.ntmps3
    go_wp2_with (go_at_call 8; refine (bigB _ _ _ _).mono ?_; rintro e w' ⟨rfl, rfl⟩)
    go_ret
    exact ⟨rfl, Below.refl _ _⟩
  · have hd : decide (4096 < (len0 : Int)) = false := decide_eq_false hbig
    have hself : ∀ l : List UInt8, (l != l) = false := by simp
    have hselfe : ∀ l : List UInt8, (l == l) = true := by simp
    have hself3 : ∀ b : Bool, (b == b) = true := by simp
    go_enter Try.func3, Try.ntmps3
    go_wp2_with fail
    refine (bigB _ _ _ _).mono ?_
    rintro e w1 ⟨rfl, rfl⟩
    go_wp2_with fail
    refine (drawFramed _ _ _ _ (by omega) hcode).mono ?_
    rintro e w2 ⟨s, rfl, hs, hb2⟩
    have hcode2 := hcode.later hb2
    clear hcode
    obtain ⟨f, hf⟩ : ∃ f, framedS s = f := ⟨_, rfl⟩
    have HF : Hid (framedS s = f) := hf
    clear hf
    go_wp2_with fail
    refine (implFramedX s f _ (by omega) HF.out).mono ?_
    rintro e w3 ⟨rfl, hb3⟩
    have hb3' := hb2.trans (hb3.mono hb2.size)
    have hcode3 := hcode2.later hb3
    clear hcode2 hb2 hb3
    go_wp2_with fail
    refine (drawUnframed _ _ _ _ (by omega) hcode3).mono ?_
    rintro e w4 ⟨t, rfl, ht, hb4⟩
    have hb4' := hb3'.trans (hb4.mono hb3'.size)
    have hcode4 := hcode3.later hb4
    clear hcode3 hb3' hb4
    obtain ⟨x, hx⟩ : ∃ x, unframedT t = x := ⟨_, rfl⟩
    obtain ⟨b, hb⟩ : ∃ b, unframedB t = b := ⟨_, rfl⟩
    have HX : Hid (unframedT t = x) := hx
    have HB : Hid (unframedB t = b) := hb
    clear hx hb
    go_wp2_with fail
    refine (implUnframedX t x b _ (by omega) HX.out HB.out).mono ?_
    rintro e w5 ⟨rfl, hb5⟩
    have hb5' := hb4'.trans (hb5.mono hb4'.size)
    have hcode5 := hcode4.later hb5
    clear hcode4 hb4' hb5
    go_wp2_with fail
    refine (specUnframedX t x b _ (by omega) HX.out HB.out).mono ?_
    rintro e w6 ⟨rfl, rfl⟩
    have hbb : (b != b) = false := by simp
    go_wp2_with fail
    refine (specFramedX s f _ (by omega) HF.out).mono ?_
    rintro e w7 ⟨rfl, hb7⟩
    have hb7' := hb5'.trans (hb7.mono hb5'.size)
    have hcode7 := hcode5.later hb7
    clear hb5' hb7 hbb hcode5
    rcases b with _ | _
    · clear HX HB
      by_cases hn : 20000 < (s.length : Int)
      · obtain rfl : f = [] := by rw [← HF.out]; exact framedS_no s (by omega)
        clear HF
        go_wp2
        go_ret
        exact ⟨rfl, hb7'⟩
      · obtain rfl : f = framedL s := by rw [← HF.out]; exact framedS_yes s (by omega)
        have hlen : (framedL s).length = 16 + s.length := framedL_len s
        have HU : Hid (unframedB (framedL s) = true ∧ unframedT (framedL s) = s) := unframed_framed s (by omega)
        have HC : Hid (∀ k : Nat, k < 16 + s.length → unframedB ((framedL s).take k) = false) := fun k hk => unframed_cut s (by omega) k hk
        have HT : Hid (∀ p q : Int, unframedB (turnedL (framedL s) p q) = (turnedL (framedL s) p q == framedL s)) := fun p q => unframed_turned s (by omega) p q
        have HTL : Hid (∀ p q : Int, (turnedL (framedL s) p q).length = 16 + s.length) := fun p q => by rw [turned_len, framedL_len]
        clear HF
        obtain ⟨f, hf⟩ : ∃ f, framedL s = f := ⟨_, rfl⟩
        rw [hf] at hlen HU HC HT HTL ⊢
        clear hf
        have HL : Hid (f.length = 16 + s.length) := hlen
        have hl0 : 0 < (f.length : Int) := by omega
        have hl1 : (f.length : Int) ≤ 20016 := by omega
        have hfe : f.isEmpty = false := by
          rcases f with _ | _
          · simp at hl0
          · rfl
        clear hlen
        go_wp2_with fail
        refine (implUnframedX f s true _ (by omega) HU.out.2 HU.out.1).mono ?_
        rintro e v1 ⟨rfl, kb1⟩
        have kb1' := hb7'.trans (kb1.mono hb7'.size)
        have kc1 := hcode7.later kb1
        clear kb1 hb7' hcode7
        go_wp2_with fail
        refine (pickB _ _ _ _ _ 1 (f.length : Int) (by omega) (by omega) (by omega) hl0 kc1).mono ?_
        rintro e v2 ⟨⟨p1, rfl, hp10, hp11⟩, rfl⟩
        obtain ⟨p1, rfl⟩ := Int.eq_ofNat_of_zero_le hp10
        have hext := ext_list
        go_wp2_with fail
        refine (implUnframedX (f.take p1) _ false _ (by have := List.length_take_le p1 f; omega) rfl (HC.out p1 (by have := HL.out; omega))).mono ?_
        rintro e v3 ⟨rfl, kb3⟩
        have kb3' := kb1'.trans (kb3.mono kb1'.size)
        have kc3 := kc1.later kb3
        clear kb3 kb1' kc1
        generalize unframedT (f.take p1) = u3
        go_wp2_with fail
        refine (pickB _ _ _ _ _ 2 (f.length : Int) (by omega) (by omega) (by omega) hl0 kc3).mono ?_
        rintro e v4 ⟨⟨p2, rfl, hp20, hp21⟩, rfl⟩
        go_wp2_with fail
        refine (pickB _ _ _ _ _ 3 256 (by omega) (by omega) (by omega) (by omega) kc3).mono ?_
        rintro e v5 ⟨⟨p3, rfl, hp30, hp31⟩, rfl⟩
        obtain ⟨y, hy⟩ : ∃ y, turnedL f p2 p3 = y := ⟨_, rfl⟩
        have HY : Hid (turnedL f p2 p3 = y) := hy
        have HYB : Hid (unframedB y = (y == f)) := by rw [← hy]; exact HT.out p2 p3
        have hyl : (y.length : Int) ≤ 20016 := by rw [← hy, HTL.out]; have := HL.out; omega
        clear hy
        go_wp2_with fail
        refine (specTurnedX f y p2 p3 _ HY.out (by omega)).mono ?_
        rintro e v6 ⟨rfl, kb6⟩
        have kb6' := kb3'.trans (kb6.mono kb3'.size)
        clear kb6 kb3' kc3
        go_wp2_with fail
        refine (implUnframedX y _ (y == f) _ (by omega) rfl HYB.out).mono ?_
        rintro e v7 ⟨rfl, kb7⟩
        have kb7' := kb6'.trans (kb7.mono kb6'.size)
        clear kb7 kb6'
        generalize unframedT y = u7
        go_wp2
        go_ret
        exact ⟨rfl, kb7'⟩
    · have HT : Hid (framedS x = t) := by
        have := unframed_back t HB.out
        rw [HX.out] at this
        exact this
      have hxl : x.length ≤ 20000 := by
        have := (unframed_is t HB.out).1
        rw [HX.out] at this
        exact this
      clear HX HB
      go_wp2_with fail
      refine (implFramedX x t _ (by omega) HT.out).mono ?_
      rintro e w8 ⟨rfl, hb8⟩
      have hb8' := hb7'.trans (hb8.mono hb7'.size)
      have hcode8 := hcode7.later hb8
      clear hb8 hb7' HT hcode7 hxl
      by_cases hn : 20000 < (s.length : Int)
      · obtain rfl : f = [] := by rw [← HF.out]; exact framedS_no s (by omega)
        clear HF
        go_wp2
        go_ret
        exact ⟨rfl, hb8'⟩
      · obtain rfl : f = framedL s := by rw [← HF.out]; exact framedS_yes s (by omega)
        have hlen : (framedL s).length = 16 + s.length := framedL_len s
        have HU : Hid (unframedB (framedL s) = true ∧ unframedT (framedL s) = s) := unframed_framed s (by omega)
        have HC : Hid (∀ k : Nat, k < 16 + s.length → unframedB ((framedL s).take k) = false) := fun k hk => unframed_cut s (by omega) k hk
        have HT : Hid (∀ p q : Int, unframedB (turnedL (framedL s) p q) = (turnedL (framedL s) p q == framedL s)) := fun p q => unframed_turned s (by omega) p q
        have HTL : Hid (∀ p q : Int, (turnedL (framedL s) p q).length = 16 + s.length) := fun p q => by rw [turned_len, framedL_len]
        clear HF
        obtain ⟨f, hf⟩ : ∃ f, framedL s = f := ⟨_, rfl⟩
        rw [hf] at hlen HU HC HT HTL ⊢
        clear hf
        have HL : Hid (f.length = 16 + s.length) := hlen
        have hl0 : 0 < (f.length : Int) := by omega
        have hl1 : (f.length : Int) ≤ 20016 := by omega
        have hfe : f.isEmpty = false := by
          rcases f with _ | _
          · simp at hl0
          · rfl
        clear hlen
        go_wp2_with fail
        refine (implUnframedX f s true _ (by omega) HU.out.2 HU.out.1).mono ?_
        rintro e v1 ⟨rfl, kb1⟩
        have kb1' := hb8'.trans (kb1.mono hb8'.size)
        have kc1 := hcode8.later kb1
        clear kb1 hb8' hcode8
        go_wp2_with fail
        refine (pickB _ _ _ _ _ 1 (f.length : Int) (by omega) (by omega) (by omega) hl0 kc1).mono ?_
        rintro e v2 ⟨⟨p1, rfl, hp10, hp11⟩, rfl⟩
        obtain ⟨p1, rfl⟩ := Int.eq_ofNat_of_zero_le hp10
        have hext := ext_list
        go_wp2_with fail
        refine (implUnframedX (f.take p1) _ false _ (by have := List.length_take_le p1 f; omega) rfl (HC.out p1 (by have := HL.out; omega))).mono ?_
        rintro e v3 ⟨rfl, kb3⟩
        have kb3' := kb1'.trans (kb3.mono kb1'.size)
        have kc3 := kc1.later kb3
        clear kb3 kb1' kc1
        generalize unframedT (f.take p1) = u3
        go_wp2_with fail
        refine (pickB _ _ _ _ _ 2 (f.length : Int) (by omega) (by omega) (by omega) hl0 kc3).mono ?_
        rintro e v4 ⟨⟨p2, rfl, hp20, hp21⟩, rfl⟩
        go_wp2_with fail
        refine (pickB _ _ _ _ _ 3 256 (by omega) (by omega) (by omega) (by omega) kc3).mono ?_
        rintro e v5 ⟨⟨p3, rfl, hp30, hp31⟩, rfl⟩
        obtain ⟨y, hy⟩ : ∃ y, turnedL f p2 p3 = y := ⟨_, rfl⟩
        have HY : Hid (turnedL f p2 p3 = y) := hy
        have HYB : Hid (unframedB y = (y == f)) := by rw [← hy]; exact HT.out p2 p3
        have hyl : (y.length : Int) ≤ 20016 := by rw [← hy, HTL.out]; have := HL.out; omega
        clear hy
        go_wp2_with fail
        refine (specTurnedX f y p2 p3 _ HY.out (by omega)).mono ?_
        rintro e v6 ⟨rfl, kb6⟩
        have kb6' := kb3'.trans (kb6.mono kb3'.size)
        clear kb6 kb3' kc3
        go_wp2_with fail
        refine (implUnframedX y _ (y == f) _ (by omega) rfl HYB.out).mono ?_
        rintro e v7 ⟨rfl, kb7⟩
        have kb7' := kb6'.trans (kb7.mono kb6'.size)
        clear kb7 kb6'
        generalize unframedT y = u7
        go_wp2
        go_ret
        exact ⟨rfl, kb7'⟩

/-! ### THE ROW's STEP: WRITTEN OUT: LEAVE IT -/
set_option maxRecDepth 100000 in
theorem lifted (os : Os) (started : os.Started) (H : Type) (enc : TypeId × Value → H) :
    ReturnsInHanded {} Try.checked os 3 .any (Rows.fnFramesSpec.pre6 enc Try.prog Try.f3 Rows.fnFramesRow.domain false) (Rows.fnFramesSpec.post enc Try.prog Try.f3 false true false false) := by
  refine returnsInHanded_of_change (C := Try.checked) own started (by kernel_rfl) Try.func3
    (ChangeSpec.witness6 (enc := enc) (C := Try.checked) false ⟨#[], #[.slice none 0 0], []⟩ 8 (by kernel_rfl) (by kernel_rfl) (by kernel_rfl) (by kernel_rfl)) ?_
  intro W base args ds gs before hval0 hW hcnd _
  have hval : ∀ (j : Nat) t v, Try.f3.params[j]? = some t → args[j]? = some v → Value.okWide Try.prog W .any base t v := hval0
  have hW' := hW
  obtain ⟨p, q, hA0, hV, rfl, hfz, hnd⟩ := hW
  have hA : DataW.TrodAll enc Try.prog W 0 (fun _ => true) true Try.f3.params.toList args.toList ds p := hA0
  rw [Try.params3] at hA hval
  obtain ⟨v0, vs0, d0, ds0, p0, q0, hargs, rfl, rfl, h0, r0⟩ := trodAll_cons hA
  obtain ⟨rfl, rfl, rfl⟩ := trodAll_nil r0
  obtain rfl : args = #[v0] := by cases args; simp_all
  obtain ⟨rfl, rfl⟩ := trodVars_none hV
  obtain ⟨a0, len0, cap0, rfl⟩ := okWide_slice Try.underlying22 (hval 0 22 v0 rfl rfl)
  have k0 := h0
  have lt0 : ∀ x ∈ p0, x.block < W.heap.size := by obtain ⟨m, hm⟩ := k0; exact DataW.trod_lt m _ _ _ hm
  obtain ⟨z0, w0⟩ : ∃ zs, IsRow .u8 W a0 len0 cap0 zs := by
    obtain ⟨fuel, hf⟩ := h0
    rcases open_ints Try.underlying22 Try.underlying5 (by kernel_rfl) hf with ⟨hcs, _⟩ | ⟨x, l, c, zs, hcs, _, hl, hm, hz, _, hcell, hwz⟩
    · simp [Value.cells] at hcs
      obtain ⟨rfl, rfl, rfl⟩ := hcs
      exact ⟨[], .inl ⟨rfl, rfl, rfl, rfl⟩⟩
    · simp [Value.cells] at hcs
      obtain ⟨rfl, rfl, rfl⟩ := hcs
      exact ⟨zs, .inr ⟨_, rfl, hl, hm, by simpa using hz, hcell, hwz⟩⟩
  clear hA0 hval0
  refine (walk a0 len0 cap0 z0 W w0).mono fun e W' ⟨he, bel⟩ => ?_
  subst he
  exact ⟨_, rfl, _, _, _, [], _, [], hW', trodAll_mk1 (shut_bool Try.underlying4 _), (trodAll_cons_mk (Below.trod laidOut (by kernel_rfl) (of_decide_eq_true (by kernel_rfl)) k0 bel lt0) trodAll_mk0), rfl, bel.frame _, fun h => by cases h⟩

theorem over : Rows.fnFramesRow.holds Try.pinned (OpenSpec.ofChange Rows.fnFramesSpec) :=
  OpenClaim.holds_of_wide 3 Try.f3 rfl rfl rfl rfl rfl rfl rfl ⟨rfl, rfl, rfl, rfl, rfl⟩ rfl rfl rfl rfl rfl (by kernel_rfl) Try.func3 (by kernel_rfl)
    (of_decide_eq_true (by kernel_rfl)) (by unfold Func.isWrapper; first | (rw [if_pos (by decide +kernel)]; kernel_rfl) | (rw [if_neg (by decide +kernel)]; exact ⟨rfl, rfl⟩))
    (fun os started H enc _ => lifted os started H enc)

/-- ████ THE STATEMENT ████ -/
theorem proved : Rows.FnFramesSaid := over
#print axioms proved
end Go.Proofs.Ytdjbcjmnegjndaa.fnFrames
