/-
  FnTorn returns true at every code and leaves it as it was: frames one behind the other are read, as many as are whole, whatever the last one lost.
-/
import Derived.Test.YtdjbcjmnegjndaaRows
import Derived.Test.YtdjbcjmnegjndaaMath1
import Derived.Test.YtdjbcjmnegjndaaMathT
import Derived.Test.YtdjbcjmnegjndaaMathF
import Derived.Test.YtdjbcjmnegjndaaMathH
import Derived.Test.YtdjbcjmnegjndaaMathX
import Derived.Test.YtdjbcjmnegjndaaHash
import Derived.Test.YtdjbcjmnegjndaaHexOf
import Derived.Test.YtdjbcjmnegjndaaTurned
import Derived.Test.YtdjbcjmnegjndaaFromHex
import Derived.Test.YtdjbcjmnegjndaaLists
import Derived.Test.YtdjbcjmnegjndaaListsX
import Derived.Test.YtdjbcjmnegjndaaMath2
import Derived.Test.YtdjbcjmnegjndaaMath2F
import Derived.Test.YtdjbcjmnegjndaaMath2G
import Derived.Test.YtdjbcjmnegjndaaMath2T
import Derived.Test.YtdjbcjmnegjndaaFrameS
import Derived.Test.YtdjbcjmnegjndaaClone
import Derived.Test.YtdjbcjmnegjndaaFrameI
import Derived.Test.YtdjbcjmnegjndaaLists2
import Derived.Test.YtdjbcjmnegjndaaDraw
import Derived.Test.YtdjbcjmnegjndaaDraw2
import Derived.Test.YtdjbcjmnegjndaaBend1
import Derived.Test.YtdjbcjmnegjndaaBend2
import Derived.Test.YtdjbcjmnegjndaaDraw5
import Derived.Test.YtdjbcjmnegjndaaFramesS
import Derived.Test.YtdjbcjmnegjndaaFramesI
import Derived.Test.YtdjbcjmnegjndaaMarks
import Derived.Test.YtdjbcjmnegjndaaMarks2
import Derived.Test.YtdjbcjmnegjndaaMarks3
import Derived.Test.YtdjbcjmnegjndaaTorn
import Derived.Test.YtdjbcjmnegjndaaCodes
import Derived.WalkKit
import Derived.Deep.RegionWith
import Derived.ProofKit
import Derived.OpenShut
import Derived.ShutString
import Derived.ChangeOld
import Derived.Below
namespace Go.Proofs.Ytdjbcjmnegjndaa.fnTorn
open Go.ChangeShapes Go.WideShapes Go.ChangeAt Go.RowKit
open Go.ChangeMaps (open_string shut_string)
set_option linter.unusedVariables false

theorem own : ownKnob Try.prog.godebug = none := by kernel_rfl
theorem laidOut : laidOutB Try.prog = true := by kernel_rfl

/-- WHAT THE WALK IS TOLD OF A SLICE OF INTEGERS THAT CAME IN: it is nil; or it leads to a row of 'cap' cells, the numbers 'zs' (the first 'len' are its elements, the rest its spare room), each fitting its kind. -/
def IsRow (k : IntKind) (w : World) (a : Option Addr) (len cap : Nat) (zs : List Int) : Prop :=
  (a = none ∧ len = 0 ∧ cap = 0 ∧ zs = []) ∨
  ∃ x, a = some x ∧ len ≤ cap ∧ cap ≤ maxLen ∧ zs.length = cap ∧ (∀ i, i < zs.length → w.cell? (x.add i) = some (.int k (zs.getD i 0))) ∧ ∀ n ∈ zs, (Lit.int k n).wf = true

/-! ### STEP 1: THE WALK: the Go text returns true, AND WRITES NOTHING THAT WAS THERE: 'Below w.heap.size w w'' (Derived/Below.lean: '.refl', '.alloc', '.drew', '.setCell' at a new block, '.trans'). Open each 'IsRow' by 'rcases' AHEAD of 'go_enter'; part every test ahead of the walk. -/
set_option maxHeartbeats 1000000 in
set_option maxRecDepth 1000000 in
theorem walk (a0 : Option Addr) (len0 cap0 : Nat) (z0 : List Int) (w : World) (w0 : IsRow .u8 w a0 len0 cap0 z0) :
    Calls Try.prog 4 #[.slice a0 len0 cap0] w fun e w' => e = .returned (.bool true) ∧ Below w.heap.size w w' := by
  have hcode : Code w w.heap.size a0 len0 := by
    rcases w0 with ⟨rfl, rfl, rfl, rfl⟩ | ⟨x, rfl, hl, hm, hz, hcell, hwz⟩
    · exact code_nil w
    · exact code_of w x len0 z0 hcell (by omega) hwz
  clear w0
  by_cases hbig : 4096 < (len0 : Int)
  · have hd : decide (4096 < (len0 : Int)) = true := decide_eq_true hbig
    go_enter Try.func4, Try.ntmps4
    go_wp2_with (go_at_call 8; refine (bigB _ _ _ _).mono ?_; rintro e w' ⟨rfl, rfl⟩)
    go_ret
    exact ⟨rfl, Below.refl _ _⟩
  · have hd : decide (4096 < (len0 : Int)) = false := decide_eq_false hbig
    have hself : ∀ l : List UInt8, (l != l) = false := by simp
    have hself2 : ∀ n : Int, (n != n) = false := by simp
    have hself3 : ∀ n : Int, (n == n) = true := by simp
    go_enter Try.func4, Try.ntmps4
    go_wp2_with fail
    refine (bigB _ _ _ _).mono ?_
    rintro e w1 ⟨rfl, rfl⟩
    go_wp2_with fail
    refine (drawFrames _ _ _ _ (by omega) hcode).mono ?_
    rintro e w2 ⟨s, rfl, hs, hb2⟩
    have hcode2 := hcode.later hb2
    clear hcode
    obtain ⟨fs, hF⟩ : ∃ fs, framesL s = fs := ⟨_, rfl⟩
    have HI : Hid (shortF fs ∧ s.take (framesU fs) = catF fs) := by
      have := frames_is s
      rw [hF] at this
      exact ⟨this.1, this.2.1⟩
    have hul : framesU fs ≤ s.length := by
      have := frames_is s
      rw [hF] at this
      exact this.2.2
    have hfl : fs.length ≤ 6 := by have := frames_few fs; omega
    have HF : Hid (framesL s = fs) := hF
    clear hF
    go_wp2_with fail
    refine (implFramesX s fs _ (by omega) HF.out).mono ?_
    rintro e w3 ⟨v1, rfl, hown1, hb3⟩
    have hb3' := hb2.trans (hb3.mono hb2.size)
    have hcode3 := hcode2.later hb3
    clear hcode2 hb2 hb3
    go_wp2_with fail
    refine (specFramesX s fs _ (by omega) HF.out).mono ?_
    rintro e w4 ⟨v2, rfl, hown2, hb4⟩
    have hown1a := own_below hown1 hb4
    have hb4' := hb3'.trans (hb4.mono hb3'.size)
    have hcode4 := hcode3.later hb4
    clear hcode3 hb3' hb4 hown1
    go_wp2_with fail
    refine (likeV _ _ _ v1 v2 fs (by omega) hown1a hown2).mono ?_
    rintro e w5 ⟨rfl, hg5⟩
    have hown1b := own_none hown1a hg5
    have hb5 : Below w1.heap.size w1 w5 := hb4'.grown hg5 hb4'.size (by simp)
    have hcode5 := hcode4.kept hg5
    clear hcode4 hb4' hown1a hown2 hg5
    have hulI : ((framesU fs : Nat) : Int) ≤ (s.length : Int) := by omega
    have hext := ext_list
    by_cases hz : fs.length = 0
    · obtain rfl : fs = [] := List.eq_nil_of_length_eq_zero hz
      obtain ⟨ao, cp, rfl⟩ : ∃ ao cp, v1 = .slice ao 0 cp := by
        rcases own_forms hown1b with ⟨e, _, _⟩ | ⟨g, cp, e⟩
        · exact ⟨none, 0, e⟩
        · exact ⟨some ⟨g, 0, none⟩, cp, e⟩
      have hU0 : framesU [] = 0 := rfl
      rw [hU0]
      clear hU0 hz HI hulI hul
      go_wp2
      refine wp_loop_rounds 1 ?_
      rw [rounds_succ]
      go_wp2
      go_ret
      exact ⟨rfl, hb5⟩
    · obtain ⟨g, cp, rfl⟩ : ∃ g cp, v1 = .slice (some ⟨g, 0, none⟩) fs.length cp := by
        rcases own_forms hown1b with ⟨_, e, _⟩ | ⟨g, cp, e⟩
        · exact absurd e hz
        · exact ⟨g, cp, e⟩
      obtain ⟨n, hn⟩ : ∃ n, fs.length = n + 1 := ⟨fs.length - 1, by omega⟩
      obtain ⟨u, hu⟩ : ∃ u, framesU fs = u := ⟨_, rfl⟩
      rw [hn] at hown1b hfl ⊢
      rw [hu] at hul hulI HI ⊢
      have HN : Hid (fs.length = n + 1) := hn
      have HU : Hid (framesU fs = u) := hu
      have htk : List.take u s = catF fs := HI.out.2
      clear hn hu hz
      have hdu : decide (s.length < u) = false := decide_eq_false (by omega)
      have hne0 : (((n : Int) + 1) == 0) = false := beq_eq_false_iff_ne.2 (by omega)
      go_wp2_with fail
      go_loopw [8, 9] (fun v i wr => ∃ k : Nat, k ≤ n + 1 ∧ i = .int .i64 k ∧ v = .string ⟨(catF (fs.take k)).toArray⟩ ∧ (∃ B, wr.ownsRow B 9 1 (.slice (some ⟨g, 0, none⟩) (n + 1) cp) (n + 1) (strV fs)) ∧ Code wr wr.heap.size a0 len0 ∧ Below w1.heap.size w1 wr) (fun _ i _ => n + 1 - (intOf i).toNat)
      case atStart => exact ⟨0, Nat.zero_le _, rfl, rfl, ⟨_, hown1b⟩, hcode5, hb5⟩
      case round =>
        obtain ⟨k, hk, rfl, rfl, ⟨B, hown⟩, hcode, hb⟩ := hrel
        clear hown1b hcode5 hb5
        by_cases hlt : k < n + 1
        · have hca := str_cellsD hown HN.out k hlt
          have HS : Hid (catF (fs.take (k + 1)) = catF (fs.take k) ++ framedL (fs.getD k [])) := catF_take fs k (by have := HN.out; omega)
          have hshort := shortF_getD fs HI.out.1 k
          have hcl : (catF (fs.take k)).length ≤ 98 := by rw [catF_len]; have := framesU_take fs k; have := HU.out; omega
          generalize fs.getD k [] = t at hca HS hshort
          have hfl2 : (framedL t).length ≤ 20016 := by rw [framedL_len]; omega
          go_wp2_with fail
          refine (specFramedX t (framedL t) _ (by omega) (framedS_yes t hshort)).mono ?_
          rintro e w6 ⟨rfl, hb6⟩
          have hown6 := own_below hown hb6
          have hcode6 := hcode.later hb6
          have hb6' := hb.trans (hb6.mono hb.size)
          have hcat := cat_list
          clear hown hcode hb hb6
          go_wp2
          go_roundw
          case rel => exact ⟨k + 1, by omega, by go_num, by rw [HS.out], ⟨B, hown6⟩, hcode6, hb6'⟩
          case measure => simp [intOf]; omega
        · have hk1 : k = n + 1 := by omega
          have hct : catF (fs.take k) = catF fs := by rw [List.take_of_length_le (by have := HN.out; omega)]
          rw [hct]
          have hca := str_cellsD hown HN.out n (by omega)
          have hshort := shortF_getD fs HI.out.1 n
          have HL : Hid (fs = fs.take n ++ [fs.getD n []]) := by
            have h1 := take_getD fs n [] (by have := HN.out; omega)
            rw [List.take_of_length_le (by have := HN.out; omega)] at h1
            exact h1
          obtain ⟨ts, hts⟩ : ∃ ts, fs.take n = ts := ⟨_, rfl⟩
          obtain ⟨t, ht⟩ : ∃ t, fs.getD n [] = t := ⟨_, rfl⟩
          rw [ht] at hca hshort
          rw [hts, ht] at HL
          have htsl : ts.length = n := by rw [← hts, List.length_take]; have := HN.out; omega
          have HTL : Hid (ts.length = n) := htsl
          have HTS : Hid (fs.take n = ts) := hts
          obtain ⟨u2, hu2⟩ : ∃ u2, framesU ts = u2 := ⟨_, rfl⟩
          have huu : u = u2 + (16 + t.length) := by
            have := HU.out
            rw [HL.out, framesU_snoc, hu2] at this
            exact this.symm
          have HU2 : Hid (framesU ts = u2) := hu2
          subst huu
          clear hct hts ht htsl hu2 hk hlt hdu
          have hlast0 : 0 < (t.length : Int) + 16 := by omega
          go_wp2_with fail
          refine (pickB _ _ _ _ _ 1 ((t.length : Int) + 16) (by omega) (by omega) (by omega) hlast0 hcode).mono ?_
          rintro e w7 ⟨⟨p, rfl, hp0, hp1⟩, rfl⟩
          obtain ⟨p, rfl⟩ := Int.eq_ofNat_of_zero_le hp0
          have HTORN : Hid (framesL (s.take (u2 + (16 + t.length) - (1 + p))) = ts) := by
            have h1 := frames_torn ts t (by rw [← HL.out]; exact HI.out.1) (by have := HTL.out; omega) (1 + p) (by omega) (by omega)
            rw [← HL.out, HU.out, ← htk, List.take_take] at h1
            have e1 : min (u2 + (16 + t.length) - (1 + p)) (u2 + (16 + t.length)) = u2 + (16 + t.length) - (1 + p) := by omega
            rw [e1] at h1
            exact h1
          have hcp := own_cap hown
          have hcp1 : (n : Int) ≤ (cp : Int) := by omega
          have hcp2 : (cp : Int) ≤ 9223372036854775807 := by have := hcp.2; unfold maxLen at this; omega
          have HW : Hid (∃ B, w7.ownsRow B 9 1 (.slice (some ⟨g, 0, none⟩) n cp) n (strV ts)) := by
            have h1 := own_take hown n (by omega)
            rw [strV_take, HTS.out] at h1
            exact ⟨B, h1⟩
          go_wp2_with fail
          refine (implFramesU _ ts n u2 _ (by have := List.length_take_le (u2 + (16 + t.length) - (1 + p)) s; omega) HTORN.out HTL.out HU2.out).mono ?_
          rintro e w8 ⟨v8, rfl, hown8, hb8⟩
          obtain ⟨B2, hownT⟩ := HW.out
          have hownT8 := own_below hownT hb8
          have hb8' := hb.trans (hb8.mono hb.size)
          clear hown hownT hb hb8 hcode HW hca hcp
          have HM : Hid (framesL (catF fs ++ framedL [109, 111, 114, 101]) = fs ++ [[109, 111, 114, 101]]) := frames_more fs _ HI.out.1 (by simp) (by have := HN.out; omega)
          have HM1 : Hid ((fs ++ [[109, 111, 114, 101]]).length = n + 2) := by
            exact (by rw [List.length_append, HN.out]; rfl : (fs ++ [[109, 111, 114, 101]]).length = n + 2)
          have HM2 : Hid (framesU (fs ++ [[109, 111, 114, 101]]) = u2 + (16 + t.length) + 20) := by
            exact (by rw [framesU_snoc, HU.out]; rfl : framesU (fs ++ [[109, 111, 114, 101]]) = u2 + (16 + t.length) + 20)
          have hcat := cat_list
          have hcfl : (catF fs).length ≤ 98 := by rw [catF_len, HU.out]; omega
          have hmore : (framedL [109, 111, 114, 101]).length = 20 := by rw [framedL_len]; rfl
          go_wp2_with fail
          go_region_with (first | (go_at_call 18; refine (implFramesU (catF fs ++ framedL [109, 111, 114, 101]) (fs ++ [[109, 111, 114, 101]]) (n + 2) (u2 + (16 + t.length) + 20) _ (by rw [List.length_append]; omega) HM.out HM1.out HM2.out).mono ?_; rintro e w10 ⟨v10, rfl, hown10, hb10⟩; obtain ⟨g10, cp10, rfl⟩ := own_some hown10 (by omega)) | (go_at_call 14; refine (specFramedX [109, 111, 114, 101] (framedL [109, 111, 114, 101]) _ (by simp) (framedS_yes _ (by simp))).mono ?_; rintro e w9 ⟨rfl, hb9⟩))
          all_goals
            have hnq : (((n : Int) + 2) == (n : Int) + 1 + 1) = true := beq_iff_eq.2 (by omega)
            have hub : (u2 : Int) + (16 + (t.length : Int)) ≤ 98 := by omega
            have hb9' := hb8'.drew.trans (hb9.mono hb8'.size)
            have hb10' := hb9'.trans (hb10.mono hb9'.size)
            have hownT10 := own_below (own_below hownT8.drew hb9) hb10
            have hown8a := own_below (own_below hown8.drew hb9) hb10
            clear hownT8 hown8 hb9 hb10 hb9' hb8' hown10 hext hcat htk hcfl hmore HM HM1 HM2 HTORN HI HL HTS HU HN HF hs hd hbig hulI hul hself hself2
            have hmq : (((u2 : Int)) == (u2 : Int) + (16 + (t.length : Int)) - ((t.length : Int) + 16)) = true := beq_iff_eq.2 (by omega)
            go_wp2_with fail
            refine (likeN _ _ _ n v8 _ ts HTL.out (by omega) hown8a hownT10).mono ?_
            rintro e w11 ⟨rfl, hg11⟩
            have hb11 : Below w1.heap.size w1 w11 := hb10'.grown hg11 hb10'.size (by simp)
            clear hown8a hownT10 hg11 hb10'
            go_wp2
            go_ret
            exact ⟨rfl, hb11⟩

/-! ### THE ROW's STEP: WRITTEN OUT: LEAVE IT -/
set_option maxRecDepth 100000 in
theorem lifted (os : Os) (started : os.Started) (H : Type) (enc : TypeId × Value → H) :
    ReturnsInHanded {} Try.checked os 4 .any (Rows.fnTornSpec.pre6 enc Try.prog Try.f4 Rows.fnTornRow.domain false) (Rows.fnTornSpec.post enc Try.prog Try.f4 false true false false) := by
  refine returnsInHanded_of_change (C := Try.checked) own started (by kernel_rfl) Try.func4
    (ChangeSpec.witness6 (enc := enc) (C := Try.checked) false ⟨#[], #[.slice none 0 0], []⟩ 8 (by kernel_rfl) (by kernel_rfl) (by kernel_rfl) (by kernel_rfl)) ?_
  intro W base args ds gs before hval0 hW hcnd _
  have hval : ∀ (j : Nat) t v, Try.f4.params[j]? = some t → args[j]? = some v → Value.okWide Try.prog W .any base t v := hval0
  have hW' := hW
  obtain ⟨p, q, hA0, hV, rfl, hfz, hnd⟩ := hW
  have hA : DataW.TrodAll enc Try.prog W 0 (fun _ => true) true Try.f4.params.toList args.toList ds p := hA0
  rw [Try.params4] at hA hval
  obtain ⟨v0, vs0, d0, ds0, p0, q0, hargs, rfl, rfl, h0, r0⟩ := trodAll_cons hA
  obtain ⟨rfl, rfl, rfl⟩ := trodAll_nil r0
  obtain rfl : args = #[v0] := by cases args; simp_all
  obtain ⟨rfl, rfl⟩ := trodVars_none hV
  obtain ⟨a0, len0, cap0, rfl⟩ := okWide_slice Try.underlying22 (hval 0 22 v0 rfl rfl)
  have k0 := h0
  have lt0 : ∀ x ∈ p0, x.block < W.heap.size := by obtain ⟨m, hm⟩ := k0; exact DataW.trod_lt m _ _ _ hm
  obtain ⟨z0, w0⟩ : ∃ zs, IsRow .u8 W a0 len0 cap0 zs := by
    obtain ⟨fuel, hf⟩ := h0
    rcases open_ints Try.underlying22 Try.underlying5 (by kernel_rfl) hf with ⟨hcs, _⟩ | ⟨x, l, c, zs, hcs, _, hl, hm, hz, _, hcell, hwz⟩
    · simp [Value.cells] at hcs
      obtain ⟨rfl, rfl, rfl⟩ := hcs
      exact ⟨[], .inl ⟨rfl, rfl, rfl, rfl⟩⟩
    · simp [Value.cells] at hcs
      obtain ⟨rfl, rfl, rfl⟩ := hcs
      exact ⟨zs, .inr ⟨_, rfl, hl, hm, by simpa using hz, hcell, hwz⟩⟩
  clear hA0 hval0
  refine (walk a0 len0 cap0 z0 W w0).mono fun e W' ⟨he, bel⟩ => ?_
  subst he
  exact ⟨_, rfl, _, _, _, [], _, [], hW', trodAll_mk1 (shut_bool Try.underlying4 _), (trodAll_cons_mk (Below.trod laidOut (by kernel_rfl) (of_decide_eq_true (by kernel_rfl)) k0 bel lt0) trodAll_mk0), rfl, bel.frame _, fun h => by cases h⟩

theorem over : Rows.fnTornRow.holds Try.pinned (OpenSpec.ofChange Rows.fnTornSpec) :=
  OpenClaim.holds_of_wide 4 Try.f4 rfl rfl rfl rfl rfl rfl rfl ⟨rfl, rfl, rfl, rfl, rfl⟩ rfl rfl rfl rfl rfl (by kernel_rfl) Try.func4 (by kernel_rfl)
    (of_decide_eq_true (by kernel_rfl)) (by unfold Func.isWrapper; first | (rw [if_pos (by decide +kernel)]; kernel_rfl) | (rw [if_neg (by decide +kernel)]; exact ⟨rfl, rfl⟩))
    (fun os started H enc _ => lifted os started H enc)

/-- ████ THE STATEMENT ████ -/
theorem proved : Rows.FnTornSaid := over
#print axioms proved
end Go.Proofs.Ytdjbcjmnegjndaa.fnTorn
