/-
  FnChunks returns true at every code and leaves it as it was: pieces joined are the text, and all but the last one have their size.
-/
import Derived.Test.YtfjpbbacibfnmaaRows
import Derived.Test.YtfjpbbacibfnmaaMath1
import Derived.Test.YtfjpbbacibfnmaaMathT
import Derived.Test.YtfjpbbacibfnmaaOwn
import Derived.Test.YtfjpbbacibfnmaaMath3C
import Derived.Test.YtfjpbbacibfnmaaHexOf
import Derived.Test.YtfjpbbacibfnmaaTurned
import Derived.Test.YtfjpbbacibfnmaaDraw
import Derived.Test.YtfjpbbacibfnmaaDraw2
import Derived.Test.YtfjpbbacibfnmaaDraw3
import Derived.Test.YtfjpbbacibfnmaaDrawT
import Derived.Test.YtfjpbbacibfnmaaDrawC
import Derived.Test.YtfjpbbacibfnmaaChunkS
import Derived.Test.YtfjpbbacibfnmaaChunkI
import Derived.Test.YtfjpbbacibfnmaaChunkX
import Derived.Test.YtfjpbbacibfnmaaMarks
import Derived.Test.YtfjpbbacibfnmaaMarks2
import Derived.Test.YtfjpbbacibfnmaaMarks3
import Derived.Test.YtfjpbbacibfnmaaLike
import Derived.Test.YtfjpbbacibfnmaaCodes
import Derived.WalkKit
import Derived.ProofKit
import Derived.OpenShut
import Derived.ShutString
import Derived.ChangeOld
import Derived.Below
namespace Go.Proofs.Ytfjpbbacibfnmaa.fnChunks
open Go.ChangeShapes Go.WideShapes Go.ChangeAt Go.RowKit
open Go.ChangeMaps (open_string shut_string)
set_option linter.unusedVariables false

theorem own : ownKnob Try.prog.godebug = none := by kernel_rfl
theorem laidOut : laidOutB Try.prog = true := by kernel_rfl

/-- WHAT THE WALK IS TOLD OF A SLICE OF INTEGERS THAT CAME IN: it is nil; or it leads to a row of 'cap' cells, the numbers 'zs' (the first 'len' are its elements, the rest its spare room), each fitting its kind. -/
def IsRow (k : IntKind) (w : World) (a : Option Addr) (len cap : Nat) (zs : List Int) : Prop :=
  (a = none ∧ len = 0 ∧ cap = 0 ∧ zs = []) ∨
  ∃ x, a = some x ∧ len ≤ cap ∧ cap ≤ maxLen ∧ zs.length = cap ∧ (∀ i, i < zs.length → w.cell? (x.add i) = some (.int k (zs.getD i 0))) ∧ ∀ n ∈ zs, (Lit.int k n).wf = true

/-! ### STEP 1: THE WALK: the Go text returns true, AND WRITES NOTHING THAT WAS THERE: 'Below w.heap.size w w'' (Derived/Below.lean: '.refl', '.alloc', '.drew', '.setCell' at a new block, '.trans'). Open each 'IsRow' by 'rcases' AHEAD of 'go_enter'; part every test ahead of the walk. -/
set_option maxHeartbeats 1000000 in
set_option maxRecDepth 1000000 in
theorem walk (a0 : Option Addr) (len0 cap0 : Nat) (z0 : List Int) (w : World) (w0 : IsRow .u8 w a0 len0 cap0 z0) :
    Calls Try.prog 4 #[.slice a0 len0 cap0] w fun e w' => e = .returned (.bool true) ∧ Below w.heap.size w w' := by
  have hcode : Code w w.heap.size a0 len0 := by
    rcases w0 with ⟨rfl, rfl, rfl, rfl⟩ | ⟨x, rfl, hl, hm, hz, hcell, hwz⟩
    · exact code_nil w
    · exact code_of w x len0 z0 hcell (by omega) hwz
  clear w0
  by_cases hbig : 4096 < (len0 : Int)
  · have hd : decide (4096 < (len0 : Int)) = true := decide_eq_true hbig
    go_enter Try.func4, Try.ntmps4
    go_wp2_with (go_at_call 11; refine (bigB _ _ _ _).mono ?_; rintro e w' ⟨rfl, rfl⟩)
    go_ret
    exact ⟨rfl, Below.refl _ _⟩
  · have hd : decide (4096 < (len0 : Int)) = false := decide_eq_false hbig
    have hself : ∀ l : List UInt8, (l != l) = false := by simp
    have hself2 : ∀ l : List UInt8, (l == l) = true := by simp
    go_enter Try.func4, Try.ntmps4
    go_wp2_with fail
    refine (bigB _ _ _ _).mono ?_
    rintro e w1 ⟨rfl, rfl⟩
    go_wp2_with fail
    refine (drawChunks _ _ _ _ (by omega) hcode).mono ?_
    rintro e w2 ⟨s, size, rfl, hs, hb2⟩
    have hcode2 := hcode.later hb2
    clear hcode
    obtain ⟨fs, hF⟩ : ∃ fs, chunksL s size = fs := ⟨_, rfl⟩
    have hfl : fs.length ≤ 13 := by rw [← hF]; have := chunksL_len s size; omega
    have HF : Hid (chunksL s size = fs) := hF
    clear hF
    go_wp2_with fail
    refine (implChunksX s size fs _ (by omega) HF.out).mono ?_
    rintro e w3 ⟨v3, rfl, hown3, hb3⟩
    have hb3' := hb2.trans (hb3.mono hb2.size)
    have hcode3 := hcode2.later hb3
    clear hcode2 hb2 hb3
    go_wp2_with fail
    refine (drawJoined _ _ _ _ (by omega) hcode3).mono ?_
    rintro e w4 ⟨v4, ts, rfl, hown4, htl, htf, hb4⟩
    have hb4' := hb3'.trans (hb4.mono hb3'.size)
    have hown3b := own_below hown3 hb4
    obtain ⟨_, a4, cap4, rfl, hin4⟩ := own_texts hown4
    have HTF : Hid (ts.flatten.length ≤ 15) := htf
    obtain ⟨j, hj⟩ : ∃ j, ts.flatten = j := ⟨_, rfl⟩
    have HJ : Hid (ts.flatten = j) := hj
    clear hcode3 hb4 hb3' hown3 hown4 hj htf
    go_wp2_with fail
    refine (specChunksX s size fs _ (by omega) HF.out).mono ?_
    rintro e w5 ⟨v5, rfl, hown5, hb5⟩
    have hb5' := hb4'.trans (hb5.mono hb4'.size)
    have hown3c := own_below hown3b hb5
    have hin5 := hin4.below hb5
    clear hb5 hb4' hown3b hin4
    go_wp2_with fail
    refine (likeV _ _ _ v3 v5 fs (by omega) hown3c hown5).mono ?_
    rintro e w6 ⟨rfl, hg6⟩
    have hown3d := own_none hown3c hg6
    have hb6 := hb5'.grown hg6 hb5'.size (fun k e => by cases e)
    have hin6 : TextsIn w6 a4 ts.length ts := hin5.below ((Below.refl _ _).grown hg6 (Nat.le_refl _) (fun k e => by cases e))
    clear hown3c hown5 hin5 hb5' hg6
    obtain ⟨_, a3, cap3, rfl, hin3⟩ := own_texts hown3d
    go_wp2_with fail
    refine (implJoined a4 ts.length cap4 ts _ hin6 (by have := HTF.out; omega) (by omega)).mono ?_
    rintro e w7 ⟨rfl, hb7⟩
    rw [HJ.out]
    have hb7' := hb6.trans (hb7.mono hb6.size)
    have hin7 := hin6.below hb7
    have hin37 := hin3.below hb7
    clear hb7 hb6 hin6 hin3 hown3d
    go_wp2_with fail
    refine (specJoined a4 ts.length cap4 ts _ hin7 (by have := HTF.out; omega) (by omega)).mono ?_
    rintro e w8 ⟨rfl, hb8⟩
    rw [HJ.out]
    have hb8' := hb7'.trans (hb8.mono hb7'.size)
    have HIN : Hid (TextsIn w8 a3 fs.length fs) := hin37.below hb8
    clear hb8 hb7' hin7 hin37
    by_cases hsz : size < 1
    · have hfn : fs = [] := by rw [← HF.out]; exact (if_pos hsz : chunksL s size = [])
      subst hfn
      go_wp2
      go_ret
      exact ⟨rfl, hb8'⟩
    · obtain ⟨n, rfl⟩ : ∃ n : Nat, size = (n : Int) := Int.eq_ofNat_of_zero_le (by omega)
      have HC : Hid (fs = chunksGo s.length n s) := by
        exact (by rw [← HF.out]; unfold chunksL; rw [if_neg hsz, Int.toNat_natCast] : fs = chunksGo s.length n s)
      have HA : Hid (∀ i, i < fs.length → fs.getD i [] ≠ [] ∧ (fs.getD i []).length ≤ n ∧ (i + 1 < fs.length → (fs.getD i []).length = n)) := by
        exact (by rw [HC.out]; exact chunks_at n (by omega) s.length s (Nat.le_refl _) : ∀ i, i < fs.length → fs.getD i [] ≠ [] ∧ (fs.getD i []).length ≤ n ∧ (i + 1 < fs.length → (fs.getD i []).length = n))
      have HJS : Hid (fs.flatten = s) := by exact (by rw [HC.out]; exact chunks_join n (by omega) s.length s (Nat.le_refl _) : fs.flatten = s)
      go_wp2
      go_loop [7] (fun i => ∃ k : Nat, k ≤ fs.length ∧ i = .int .i64 k) (fun i => fs.length - (intOf i).toNat)
      case atStart => exact ⟨0, Nat.zero_le _, rfl⟩
      case round =>
        obtain ⟨k, hk, rfl⟩ := hrel
        by_cases hkl : (k : Int) < (fs.length : Int)
        · obtain ⟨b, off, rfl, hbl, hcells⟩ := HIN.out.at (by omega)
          have ck := hcells k (by omega)
          obtain ⟨h1, h2, h3⟩ := HA.out k (by omega)
          obtain ⟨t, ht⟩ : ∃ t, fs.getD k [] = t := ⟨_, rfl⟩
          rw [ht] at ck h1 h2 h3
          have hte : t.isEmpty = false := by simp [h1]
          have htb : (t == []) = false := beq_eq_false_iff_ne.2 h1
          have hgt : decide ((n : Int) < (t.length : Int)) = false := decide_eq_false (by omega)
          clear hcells ht
          by_cases hq : t.length = n
          · have hqb : ((t.length : Int) != (n : Int)) = false := by rw [hq]; simp
            clear h3 hq
            go_wp2
            go_round
            case rel => exact ⟨k + 1, by omega, by go_num⟩
            case measure => simp [intOf]; omega
          · have hqb : ((t.length : Int) != (n : Int)) = true := bne_iff_ne.2 (by omega)
            have hlast : decide ((k : Int) < (fs.length : Int) - 1) = false := decide_eq_false (by
              intro h4
              exact hq (h3 (by omega)))
            clear h3 hq
            go_wp2
            go_round
            case rel => exact ⟨k + 1, by omega, by go_num⟩
            case measure => simp [intOf]; omega
        · go_wp2_with fail
          refine (implJoined a3 fs.length cap3 fs _ HIN.out (by rw [HJS.out]; omega) (by omega)).mono ?_
          rintro e w9 ⟨rfl, hb9⟩
          rw [HJS.out]
          go_wp2
          go_ret
          exact ⟨rfl, hb8'.trans (hb9.mono hb8'.size)⟩

/-! ### THE ROW's STEP: WRITTEN OUT: LEAVE IT -/
set_option maxRecDepth 100000 in
theorem lifted (os : Os) (started : os.Started) (H : Type) (enc : TypeId × Value → H) :
    ReturnsInHanded {} Try.checked os 4 .any (Rows.fnChunksSpec.pre6 enc Try.prog Try.f4 Rows.fnChunksRow.domain false) (Rows.fnChunksSpec.post enc Try.prog Try.f4 false true false false) := by
  refine returnsInHanded_of_change (C := Try.checked) own started (by kernel_rfl) Try.func4
    (ChangeSpec.witness6 (enc := enc) (C := Try.checked) false ⟨#[], #[.slice none 0 0], []⟩ 8 (by kernel_rfl) (by kernel_rfl) (by kernel_rfl) (by kernel_rfl)) ?_
  intro W base args ds gs before hval0 hW hcnd _
  have hval : ∀ (j : Nat) t v, Try.f4.params[j]? = some t → args[j]? = some v → Value.okWide Try.prog W .any base t v := hval0
  have hW' := hW
  obtain ⟨p, q, hA0, hV, rfl, hfz, hnd⟩ := hW
  have hA : DataW.TrodAll enc Try.prog W 0 (fun _ => true) true Try.f4.params.toList args.toList ds p := hA0
  rw [Try.params4] at hA hval
  obtain ⟨v0, vs0, d0, ds0, p0, q0, hargs, rfl, rfl, h0, r0⟩ := trodAll_cons hA
  obtain ⟨rfl, rfl, rfl⟩ := trodAll_nil r0
  obtain rfl : args = #[v0] := by cases args; simp_all
  obtain ⟨rfl, rfl⟩ := trodVars_none hV
  obtain ⟨a0, len0, cap0, rfl⟩ := okWide_slice Try.underlying22 (hval 0 22 v0 rfl rfl)
  have k0 := h0
  have lt0 : ∀ x ∈ p0, x.block < W.heap.size := by obtain ⟨m, hm⟩ := k0; exact DataW.trod_lt m _ _ _ hm
  obtain ⟨z0, w0⟩ : ∃ zs, IsRow .u8 W a0 len0 cap0 zs := by
    obtain ⟨fuel, hf⟩ := h0
    rcases open_ints Try.underlying22 Try.underlying5 (by kernel_rfl) hf with ⟨hcs, _⟩ | ⟨x, l, c, zs, hcs, _, hl, hm, hz, _, hcell, hwz⟩
    · simp [Value.cells] at hcs
      obtain ⟨rfl, rfl, rfl⟩ := hcs
      exact ⟨[], .inl ⟨rfl, rfl, rfl, rfl⟩⟩
    · simp [Value.cells] at hcs
      obtain ⟨rfl, rfl, rfl⟩ := hcs
      exact ⟨zs, .inr ⟨_, rfl, hl, hm, by simpa using hz, hcell, hwz⟩⟩
  clear hA0 hval0
  refine (walk a0 len0 cap0 z0 W w0).mono fun e W' ⟨he, bel⟩ => ?_
  subst he
  exact ⟨_, rfl, _, _, _, [], _, [], hW', trodAll_mk1 (shut_bool Try.underlying4 _), (trodAll_cons_mk (Below.trod laidOut (by kernel_rfl) (of_decide_eq_true (by kernel_rfl)) k0 bel lt0) trodAll_mk0), rfl, bel.frame _, fun h => by cases h⟩

theorem over : Rows.fnChunksRow.holds Try.pinned (OpenSpec.ofChange Rows.fnChunksSpec) :=
  OpenClaim.holds_of_wide 4 Try.f4 rfl rfl rfl rfl rfl rfl rfl ⟨rfl, rfl, rfl, rfl, rfl⟩ rfl rfl rfl rfl rfl (by kernel_rfl) Try.func4 (by kernel_rfl)
    (of_decide_eq_true (by kernel_rfl)) (by unfold Func.isWrapper; first | (rw [if_pos (by decide +kernel)]; kernel_rfl) | (rw [if_neg (by decide +kernel)]; exact ⟨rfl, rfl⟩))
    (fun os started H enc _ => lifted os started H enc)

/-- ████ THE STATEMENT ████ -/
theorem proved : Rows.FnChunksSaid := over
#print axioms proved
end Go.Proofs.Ytfjpbbacibfnmaa.fnChunks
