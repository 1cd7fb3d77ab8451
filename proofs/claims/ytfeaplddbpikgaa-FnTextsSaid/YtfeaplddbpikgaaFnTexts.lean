/-
  FnTexts returns true at every code and leaves it as it was: lines and words joined are the text, and a number is read as it is written.
-/
import Derived.Test.YtfeaplddbpikgaaRows
import Derived.Test.YtfeaplddbpikgaaMath1
import Derived.Test.YtfeaplddbpikgaaMathT
import Derived.Test.YtfeaplddbpikgaaOwn
import Derived.Test.YtfeaplddbpikgaaHexOf
import Derived.Test.YtfeaplddbpikgaaTurned
import Derived.Test.YtfeaplddbpikgaaMath4
import Derived.Test.YtfeaplddbpikgaaWordS
import Derived.Test.YtfeaplddbpikgaaMath5
import Derived.Test.YtfeaplddbpikgaaMath5N
import Derived.Test.YtfeaplddbpikgaaMath5J
import Derived.Test.YtfeaplddbpikgaaTextS
import Derived.Test.YtfeaplddbpikgaaTextS2
import Derived.Test.YtfeaplddbpikgaaTextS3
import Derived.Test.YtfeaplddbpikgaaTextS4
import Derived.Test.YtfeaplddbpikgaaTextS5
import Derived.Test.YtfeaplddbpikgaaWordI
import Derived.Test.YtfeaplddbpikgaaJumps
import Derived.Test.YtfeaplddbpikgaaClone
import Derived.Test.YtfeaplddbpikgaaTextI
import Derived.Test.YtfeaplddbpikgaaTextX
import Derived.Test.YtfeaplddbpikgaaDraw
import Derived.Test.YtfeaplddbpikgaaDraw2
import Derived.Test.YtfeaplddbpikgaaDraw3
import Derived.Test.YtfeaplddbpikgaaDrawW
import Derived.Test.YtfeaplddbpikgaaDrawT
import Derived.Test.YtfeaplddbpikgaaBend1
import Derived.Test.YtfeaplddbpikgaaBend2
import Derived.Test.YtfeaplddbpikgaaDrawX
import Derived.Test.YtfeaplddbpikgaaCodes
import Derived.Test.YtfeaplddbpikgaaMarks
import Derived.Test.YtfeaplddbpikgaaMarks2
import Derived.Test.YtfeaplddbpikgaaMarks3
import Derived.Test.YtfeaplddbpikgaaLike
import Derived.WalkKit
import Derived.ProofKit
import Derived.OpenShut
import Derived.ShutString
import Derived.ChangeOld
import Derived.Below
namespace Go.Proofs.Ytfeaplddbpikgaa.fnTexts
open Go.ChangeShapes Go.WideShapes Go.ChangeAt Go.RowKit
open Go.ChangeMaps (open_string shut_string)
set_option linter.unusedVariables false

theorem own : ownKnob Try.prog.godebug = none := by kernel_rfl
theorem laidOut : laidOutB Try.prog = true := by kernel_rfl

/-- WHAT THE WALK IS TOLD OF A SLICE OF INTEGERS THAT CAME IN: it is nil; or it leads to a row of 'cap' cells, the numbers 'zs' (the first 'len' are its elements, the rest its spare room), each fitting its kind. -/
def IsRow (k : IntKind) (w : World) (a : Option Addr) (len cap : Nat) (zs : List Int) : Prop :=
  (a = none ∧ len = 0 ∧ cap = 0 ∧ zs = []) ∨
  ∃ x, a = some x ∧ len ≤ cap ∧ cap ≤ maxLen ∧ zs.length = cap ∧ (∀ i, i < zs.length → w.cell? (x.add i) = some (.int k (zs.getD i 0))) ∧ ∀ n ∈ zs, (Lit.int k n).wf = true

/-! ### STEP 1: THE WALK: the Go text returns true, AND WRITES NOTHING THAT WAS THERE: 'Below w.heap.size w w'' (Derived/Below.lean: '.refl', '.alloc', '.drew', '.setCell' at a new block, '.trans'). Open each 'IsRow' by 'rcases' AHEAD of 'go_enter'; part every test ahead of the walk. -/
set_option maxHeartbeats 8000000 in
set_option maxRecDepth 1000000 in
theorem walk (a0 : Option Addr) (len0 cap0 : Nat) (z0 : List Int) (w : World) (w0 : IsRow .u8 w a0 len0 cap0 z0) :
    Calls Try.prog 3 #[.slice a0 len0 cap0] w fun e w' => e = .returned (.bool true) ∧ Below w.heap.size w w' := by
  have hcode : Code w w.heap.size a0 len0 := by
    rcases w0 with ⟨rfl, rfl, rfl, rfl⟩ | ⟨x, rfl, hl, hm, hz, hcell, hwz⟩
    · exact code_nil w
    · exact code_of w x len0 z0 hcell (by omega) hwz
  clear w0
  by_cases hbig : 4096 < (len0 : Int)
  · have hd : decide (4096 < (len0 : Int)) = true := decide_eq_true hbig
    go_enter Try.func3, Try.ntmps3
    go_wp2_with (go_at_call 8; refine (bigB _ _ _ _).mono ?_; rintro e w' ⟨rfl, rfl⟩)
    go_ret
    exact ⟨rfl, Below.refl _ _⟩
  · have hd : decide (4096 < (len0 : Int)) = false := decide_eq_false hbig
    have hself : ∀ n : Int, (n != n) = false := by simp
    have hselfb : ∀ n : Bool, (n != n) = false := by simp
    have hselfl : ∀ n : List UInt8, (n != n) = false := by simp
    have hselfe : ∀ n : List UInt8, (n == n) = true := by simp
    have hcat := cat_list
    go_enter Try.func3, Try.ntmps3
    go_wp2_with fail
    refine (bigB _ _ _ _).mono ?_
    rintro e w1 ⟨rfl, rfl⟩
    go_wp2_with fail
    refine (drawLines _ _ _ _ (by omega) hcode).mono ?_
    rintro e w2 ⟨s, rfl, hs, hb2⟩
    have hcode2 := hcode.later hb2
    clear hcode
    obtain ⟨ls, hls⟩ : ∃ ls, linesL s = ls := ⟨_, rfl⟩
    have HLS : Hid (linesL s = ls) := hls
    have hlsl : ls.length ≤ 201 := by rw [← hls]; have := linesL_len s; omega
    have HLT : Hid ((termJ ls).length ≤ 201) := by have := lines_len s; rw [hls] at this; exact (by omega : (termJ ls).length ≤ 201)
    have HLJ : Hid (termJ ls = s ∨ termJ ls = s ++ [10]) := by have := lines_join s; rw [hls] at this; exact this
    clear hls
    go_wp2_with fail
    refine (implLinesX s ls _ (by omega) HLS.out).mono ?_
    rintro e w3 ⟨v3, rfl, hown3, hb3⟩
    have hcode3 := hcode2.later hb3
    have hb3' := hb2.trans (hb3.mono hb2.size)
    clear hcode2 hb2 hb3
    go_wp2_with fail
    refine (drawWords _ _ _ _ (by omega) hcode3).mono ?_
    rintro e w4 ⟨t, rfl, ht, hb4⟩
    have hcode4 := hcode3.later hb4
    have hown4 := own_below hown3 hb4
    have hb4' := hb3'.trans (hb4.mono hb3'.size)
    clear hcode3 hb3' hb4 hown3
    obtain ⟨ws, hws⟩ : ∃ ws, wordsL t = ws := ⟨_, rfl⟩
    have HWS : Hid (wordsL t = ws) := hws
    have hwsl : ws.length ≤ 201 := by rw [← hws]; have := wordsL_len t; omega
    have HWJ : Hid (joinBy 32 ws = t) := by have := words_join t; rw [hws] at this; exact this
    clear hws
    go_wp2_with fail
    refine (implWordsX t ws _ (by omega) HWS.out).mono ?_
    rintro e w5 ⟨v5, rfl, hown5, hb5⟩
    have hcode5 := hcode4.later hb5
    have hown4a := own_below hown4 hb5
    have hb5' := hb4'.trans (hb5.mono hb4'.size)
    clear hcode4 hb4' hb5 hown4
    go_wp2_with fail
    refine (drawNumberOf _ _ _ _ (by omega) hcode5).mono ?_
    rintro e w6 ⟨n, rfl, hn, hb6⟩
    have hcode6 := hcode5.later hb6
    have hown4b := own_below hown4a hb6
    have hown5b := own_below hown5 hb6
    have hb6' := hb5'.trans (hb6.mono hb5'.size)
    clear hcode5 hb5' hb6 hown4a hown5
    obtain ⟨x, hx⟩ : ∃ x, numV n = x := ⟨_, rfl⟩
    obtain ⟨is, his⟩ : ∃ is, numB n = is := ⟨_, rfl⟩
    have HX : Hid (numV n = x) := hx
    have HI : Hid (numB n = is) := his
    have hxb := numV_bd n
    have hni := num_int n
    rw [hx] at hxb hni
    rw [his] at hni
    have HNI : Hid (is = true → (0 ≤ x → digL x.natAbs = n) ∧ (x < 0 → (45 : UInt8) :: digL x.natAbs = n)) := hni
    clear hx his hni
    go_wp2_with fail
    refine (implNumberOf n _ (by omega)).mono ?_
    rintro e w7 ⟨rfl, hb7⟩
    rw [HX.out, HI.out]
    have hcode7 := hcode6.later hb7
    have hown4c := own_below hown4b hb7
    have hown5c := own_below hown5b hb7
    have hb7' := hb6'.trans (hb7.mono hb6'.size)
    clear hcode6 hb6' hb7 hown4b hown5b
    go_wp2_with fail
    refine (drawNameOk _ _ _ _ (by omega) hcode7).mono ?_
    rintro e w8 ⟨nm, rfl, hnm, hb8⟩
    have hown4d := own_below hown4c hb8
    have hown5d := own_below hown5c hb8
    have hb8' := hb7'.trans (hb8.mono hb7'.size)
    clear hcode7 hb7' hb8 hown4c hown5c
    go_wp2_with fail
    refine (specNumberOf n _ (by omega)).mono ?_
    rintro e w9 ⟨rfl, rfl⟩
    rw [HX.out, HI.out]
    go_wp2_with fail
    refine (specLinesX s ls _ (by omega) HLS.out).mono ?_
    rintro e w10 ⟨v10, rfl, hown10, hb10⟩
    have hown4e := own_below hown4d hb10
    have hown5e := own_below hown5d hb10
    have hb10' := hb8'.trans (hb10.mono hb8'.size)
    clear hb8' hb10 hown4d hown5d
    go_wp2_with fail
    refine (likeV _ _ _ _ _ ls (by omega) hown4e hown10).mono ?_
    rintro e w11 ⟨rfl, hg11⟩
    have hown4f := own_none hown4e hg11
    have hown5f := own_none hown5e hg11
    have hb11 : Below w1.heap.size w1 w11 := hb10'.grown hg11 hb10'.size (by simp)
    clear hb10' hg11 hown4e hown5e hown10
    go_wp2_with fail
    refine (specWordsX t ws _ (by omega) HWS.out).mono ?_
    rintro e w12 ⟨v12, rfl, hown12, hb12⟩
    have hown4g := own_below hown4f hb12
    have hown5g := own_below hown5f hb12
    have hb12' := hb11.trans (hb12.mono hb11.size)
    clear hb11 hb12 hown4f hown5f
    go_wp2_with fail
    refine (likeV _ _ _ _ _ ws (by omega) hown5g hown12).mono ?_
    rintro e w13 ⟨rfl, hg13⟩
    have hown4h := own_none hown4g hg13
    have hown5h := own_none hown5g hg13
    have hb13 : Below w1.heap.size w1 w13 := hb12'.grown hg13 hb12'.size (by simp)
    clear hb12' hg13 hown4g hown5g hown12
    go_wp2_with fail
    refine (implNameOk nm _ (by omega)).mono ?_
    rintro e w14 ⟨rfl, hb14⟩
    have hown4i := own_below hown4h hb14
    have hown5i := own_below hown5h hb14
    have hb14' := hb13.trans (hb14.mono hb13.size)
    clear hb13 hb14 hown4h hown5h
    go_wp2_with fail
    refine (specNameOk nm _ (by omega)).mono ?_
    rintro e w15 ⟨rfl, rfl⟩
    generalize nameB nm = nb
    have hv3 : ∃ a3 c3, v3 = .slice a3 ls.length c3 := by
      rcases own_forms hown4i with ⟨h1, h2, _⟩ | ⟨g, cp, h1⟩
      · exact ⟨none, 0, by rw [h1, h2]⟩
      · exact ⟨_, _, h1⟩
    have hv5 : ∃ a5 c5, v5 = .slice a5 ws.length c5 := by
      rcases own_forms hown5i with ⟨h1, h2, _⟩ | ⟨g, cp, h1⟩
      · exact ⟨none, 0, by rw [h1, h2]⟩
      · exact ⟨_, _, h1⟩
    obtain ⟨a3, c3, rfl⟩ := hv3
    obtain ⟨a5, c5, rfl⟩ := hv5
    have H3 : Hid (w15.ownsRow w2.heap.size 9 1 (.slice a3 ls.length c3) ls.length (strV ls)) := hown4i
    have H5 : Hid (w15.ownsRow w4.heap.size 9 1 (.slice a5 ws.length c5) ws.length (strV ws)) := hown5i
    clear hown4i hown5i HLS HWS HX HI
    go_wp2
    go_loop [13, 14] (fun sv ix => ∃ k : Nat, k ≤ ls.length ∧ ix = .int .i64 k ∧ sv = .string ⟨(termJ (ls.take k)).toArray⟩) (fun _ ix => ls.length - (intOf ix).toNat)
    case atStart => exact ⟨0, Nat.zero_le _, rfl, rfl⟩
    case round =>
      obtain ⟨k, hk, rfl, rfl⟩ := hrel
      by_cases hkl : (k : Int) < (ls.length : Int)
      · have hk2 : k < ls.length := by omega
        obtain ⟨g, cp, hv⟩ := own_some H3.out (by omega)
        simp only [Value.slice.injEq, true_and] at hv
        obtain ⟨rfl, rfl⟩ := hv
        have hcell := str_cellsD H3.out rfl k hk2
        have hst := termJ_step ls k hk2
        have hbd := termJ_take ls (k + 1)
        have hlt := HLT.out
        obtain ⟨y, hy⟩ : ∃ y, ls.getD k [] = y := ⟨_, rfl⟩
        rw [hy] at hcell hst
        obtain ⟨A, hA⟩ : ∃ A, termJ (ls.take k) = A := ⟨_, rfl⟩
        rw [hA] at hst ⊢
        have HS : Hid (termJ (ls.take (k + 1)) = A ++ y ++ [10]) := hst
        have hyl : (A.length : Int) + (y.length : Int) + 1 ≤ 201 := by rw [hst] at hbd; simp at hbd; omega
        clear hst hbd hy hA hlt
        go_wp2
        go_round
        case rel => exact ⟨k + 1, by omega, by go_num, by rw [HS.out]; simp⟩
        case measure => simp [intOf]; omega
      · obtain rfl : k = ls.length := by omega
        rw [List.take_length]
        rcases HLJ.out with hJ | hJ
        · rw [hJ]
          clear hJ
          go_wp2
          go_loop [13, 15] (fun sv ix => ∃ k : Nat, k ≤ ws.length ∧ ix = .int .i64 k ∧ sv = .string ⟨(joinBy 32 (ws.take k)).toArray⟩) (fun _ ix => ws.length - (intOf ix).toNat)
          case atStart => exact ⟨0, Nat.zero_le _, rfl, rfl⟩
          case round =>
            obtain ⟨q, hq, rfl, rfl⟩ := hrel
            by_cases hql : (q : Int) < (ws.length : Int)
            · have hq2 : q < ws.length := by omega
              obtain ⟨g, cp, hv⟩ := own_some H5.out (by omega)
              simp only [Value.slice.injEq, true_and] at hv
              obtain ⟨rfl, rfl⟩ := hv
              have hcell := str_cellsD H5.out rfl q hq2
              have hst := joinBy_step 32 ws q hq2
              have hbd := joinBy_take 32 ws (q + 1)
              rw [HWJ.out] at hbd
              obtain ⟨y, hy⟩ : ∃ y, ws.getD q [] = y := ⟨_, rfl⟩
              rw [hy] at hcell hst
              obtain ⟨A, hA⟩ : ∃ A, joinBy 32 (ws.take q) = A := ⟨_, rfl⟩
              rw [hA] at hst ⊢
              by_cases hq0 : q = 0
              · subst hq0
                obtain rfl : A = [] := by rw [← hA]; rfl
                rw [if_pos rfl] at hst
                have HS : Hid (joinBy 32 (ws.take (0 + 1)) = y) := hst
                have hyl : (y.length : Int) ≤ 200 := by rw [hst] at hbd; omega
                clear hst hbd hy hA
                go_wp2
                go_round
                case rel => exact ⟨0 + 1, by omega, by go_num, by rw [HS.out]⟩
                case measure => simp [intOf]; omega
              · rw [if_neg hq0] at hst
                have HS : Hid (joinBy 32 (ws.take (q + 1)) = A ++ [32] ++ y) := hst
                have hyl : (A.length : Int) + (y.length : Int) + 1 ≤ 200 := by rw [hst] at hbd; simp at hbd; omega
                have hq1 : 0 < (q : Int) := by omega
                clear hst hbd hy hA hq0
                go_wp2
                go_round
                case rel => exact ⟨q + 1, by omega, by go_num, by rw [HS.out]; simp⟩
                case measure => simp [intOf]; omega
            · obtain rfl : q = ws.length := by omega
              rw [List.take_length, HWJ.out]
              rcases is with _ | _
              · go_wp2
                go_ret
                exact ⟨rfl, hb14'⟩
              · obtain ⟨hn1, hn2⟩ := HNI.out rfl
                by_cases hx0 : 0 ≤ x
                · obtain ⟨N, rfl⟩ := Int.eq_ofNat_of_zero_le hx0
                  have HN : Hid (digL N = n) := by have := hn1 hx0; rw [Int.natAbs_natCast] at this; exact this
                  have hdx : decide (0 ≤ (N : Int)) = true := decide_eq_true hx0
                  clear hn1 hn2 HNI
                  go_wp2_with fail
                  refine (lawDigits N _ (by omega)).mono ?_
                  rintro e w16 ⟨rfl, hb16⟩
                  rw [HN.out]
                  have hb16' := hb14'.trans (hb16.mono hb14'.size)
                  clear hb14' hb16
                  go_wp2
                  go_ret
                  exact ⟨rfl, hb16'⟩
                · obtain ⟨N, rfl⟩ : ∃ N : Nat, x = -(N : Int) := ⟨x.natAbs, by omega⟩
                  have HN : Hid ((45 : UInt8) :: digL N = n) := by have := hn2 (by omega); rw [Int.natAbs_neg, Int.natAbs_natCast] at this; exact this
                  have hdx : decide (0 ≤ -(N : Int)) = false := decide_eq_false hx0
                  have hdx2 : -(N : Int) < 0 := by omega
                  clear hn1 hn2 HNI
                  go_wp2_with fail
                  refine (lawDigits N _ (by omega)).mono ?_
                  rintro e w16 ⟨rfl, hb16⟩
                  have hdl : ((digL N).length : Int) ≤ 19 := by have := digL_len 18 N (by omega); omega
                  have heq : ((45 :: digL N : List UInt8) == n) = true := by rw [HN.out]; simp
                  generalize digL N = D at hdl heq ⊢
                  have hb16' := hb14'.trans (hb16.mono hb14'.size)
                  clear hb14' hb16
                  go_wp2
                  go_ret
                  exact ⟨rfl, hb16'⟩
        · rw [hJ]
          clear hJ
          have hne : (s ++ [10] != s) = true := by rw [bne_iff_ne]; intro e; have := congrArg List.length e; simp at this
          go_wp2
          go_loop [13, 15] (fun sv ix => ∃ k : Nat, k ≤ ws.length ∧ ix = .int .i64 k ∧ sv = .string ⟨(joinBy 32 (ws.take k)).toArray⟩) (fun _ ix => ws.length - (intOf ix).toNat)
          case atStart => exact ⟨0, Nat.zero_le _, rfl, rfl⟩
          case round =>
            obtain ⟨q, hq, rfl, rfl⟩ := hrel
            by_cases hql : (q : Int) < (ws.length : Int)
            · have hq2 : q < ws.length := by omega
              obtain ⟨g, cp, hv⟩ := own_some H5.out (by omega)
              simp only [Value.slice.injEq, true_and] at hv
              obtain ⟨rfl, rfl⟩ := hv
              have hcell := str_cellsD H5.out rfl q hq2
              have hst := joinBy_step 32 ws q hq2
              have hbd := joinBy_take 32 ws (q + 1)
              rw [HWJ.out] at hbd
              obtain ⟨y, hy⟩ : ∃ y, ws.getD q [] = y := ⟨_, rfl⟩
              rw [hy] at hcell hst
              obtain ⟨A, hA⟩ : ∃ A, joinBy 32 (ws.take q) = A := ⟨_, rfl⟩
              rw [hA] at hst ⊢
              by_cases hq0 : q = 0
              · subst hq0
                obtain rfl : A = [] := by rw [← hA]; rfl
                rw [if_pos rfl] at hst
                have HS : Hid (joinBy 32 (ws.take (0 + 1)) = y) := hst
                have hyl : (y.length : Int) ≤ 200 := by rw [hst] at hbd; omega
                clear hst hbd hy hA
                go_wp2
                go_round
                case rel => exact ⟨0 + 1, by omega, by go_num, by rw [HS.out]⟩
                case measure => simp [intOf]; omega
              · rw [if_neg hq0] at hst
                have HS : Hid (joinBy 32 (ws.take (q + 1)) = A ++ [32] ++ y) := hst
                have hyl : (A.length : Int) + (y.length : Int) + 1 ≤ 200 := by rw [hst] at hbd; simp at hbd; omega
                have hq1 : 0 < (q : Int) := by omega
                clear hst hbd hy hA hq0
                go_wp2
                go_round
                case rel => exact ⟨q + 1, by omega, by go_num, by rw [HS.out]; simp⟩
                case measure => simp [intOf]; omega
            · obtain rfl : q = ws.length := by omega
              rw [List.take_length, HWJ.out]
              rcases is with _ | _
              · go_wp2
                go_ret
                exact ⟨rfl, hb14'⟩
              · obtain ⟨hn1, hn2⟩ := HNI.out rfl
                by_cases hx0 : 0 ≤ x
                · obtain ⟨N, rfl⟩ := Int.eq_ofNat_of_zero_le hx0
                  have HN : Hid (digL N = n) := by have := hn1 hx0; rw [Int.natAbs_natCast] at this; exact this
                  have hdx : decide (0 ≤ (N : Int)) = true := decide_eq_true hx0
                  clear hn1 hn2 HNI
                  go_wp2_with fail
                  refine (lawDigits N _ (by omega)).mono ?_
                  rintro e w16 ⟨rfl, hb16⟩
                  rw [HN.out]
                  have hb16' := hb14'.trans (hb16.mono hb14'.size)
                  clear hb14' hb16
                  go_wp2
                  go_ret
                  exact ⟨rfl, hb16'⟩
                · obtain ⟨N, rfl⟩ : ∃ N : Nat, x = -(N : Int) := ⟨x.natAbs, by omega⟩
                  have HN : Hid ((45 : UInt8) :: digL N = n) := by have := hn2 (by omega); rw [Int.natAbs_neg, Int.natAbs_natCast] at this; exact this
                  have hdx : decide (0 ≤ -(N : Int)) = false := decide_eq_false hx0
                  have hdx2 : -(N : Int) < 0 := by omega
                  clear hn1 hn2 HNI
                  go_wp2_with fail
                  refine (lawDigits N _ (by omega)).mono ?_
                  rintro e w16 ⟨rfl, hb16⟩
                  have hdl : ((digL N).length : Int) ≤ 19 := by have := digL_len 18 N (by omega); omega
                  have heq : ((45 :: digL N : List UInt8) == n) = true := by rw [HN.out]; simp
                  generalize digL N = D at hdl heq ⊢
                  have hb16' := hb14'.trans (hb16.mono hb14'.size)
                  clear hb14' hb16
                  go_wp2
                  go_ret
                  exact ⟨rfl, hb16'⟩

/-! ### THE ROW's STEP: WRITTEN OUT: LEAVE IT -/
set_option maxRecDepth 100000 in
theorem lifted (os : Os) (started : os.Started) (H : Type) (enc : TypeId × Value → H) :
    ReturnsInHanded {} Try.checked os 3 .any (Rows.fnTextsSpec.pre6 enc Try.prog Try.f3 Rows.fnTextsRow.domain false) (Rows.fnTextsSpec.post enc Try.prog Try.f3 false true false false) := by
  refine returnsInHanded_of_change (C := Try.checked) own started (by kernel_rfl) Try.func3
    (ChangeSpec.witness6 (enc := enc) (C := Try.checked) false ⟨#[], #[.slice none 0 0], []⟩ 8 (by kernel_rfl) (by kernel_rfl) (by kernel_rfl) (by kernel_rfl)) ?_
  intro W base args ds gs before hval0 hW hcnd _
  have hval : ∀ (j : Nat) t v, Try.f3.params[j]? = some t → args[j]? = some v → Value.okWide Try.prog W .any base t v := hval0
  have hW' := hW
  obtain ⟨p, q, hA0, hV, rfl, hfz, hnd⟩ := hW
  have hA : DataW.TrodAll enc Try.prog W 0 (fun _ => true) true Try.f3.params.toList args.toList ds p := hA0
  rw [Try.params3] at hA hval
  obtain ⟨v0, vs0, d0, ds0, p0, q0, hargs, rfl, rfl, h0, r0⟩ := trodAll_cons hA
  obtain ⟨rfl, rfl, rfl⟩ := trodAll_nil r0
  obtain rfl : args = #[v0] := by cases args; simp_all
  obtain ⟨rfl, rfl⟩ := trodVars_none hV
  obtain ⟨a0, len0, cap0, rfl⟩ := okWide_slice Try.underlying22 (hval 0 22 v0 rfl rfl)
  have k0 := h0
  have lt0 : ∀ x ∈ p0, x.block < W.heap.size := by obtain ⟨m, hm⟩ := k0; exact DataW.trod_lt m _ _ _ hm
  obtain ⟨z0, w0⟩ : ∃ zs, IsRow .u8 W a0 len0 cap0 zs := by
    obtain ⟨fuel, hf⟩ := h0
    rcases open_ints Try.underlying22 Try.underlying5 (by kernel_rfl) hf with ⟨hcs, _⟩ | ⟨x, l, c, zs, hcs, _, hl, hm, hz, _, hcell, hwz⟩
    · simp [Value.cells] at hcs
      obtain ⟨rfl, rfl, rfl⟩ := hcs
      exact ⟨[], .inl ⟨rfl, rfl, rfl, rfl⟩⟩
    · simp [Value.cells] at hcs
      obtain ⟨rfl, rfl, rfl⟩ := hcs
      exact ⟨zs, .inr ⟨_, rfl, hl, hm, by simpa using hz, hcell, hwz⟩⟩
  clear hA0 hval0
  refine (walk a0 len0 cap0 z0 W w0).mono fun e W' ⟨he, bel⟩ => ?_
  subst he
  exact ⟨_, rfl, _, _, _, [], _, [], hW', trodAll_mk1 (shut_bool Try.underlying4 _), (trodAll_cons_mk (Below.trod laidOut (by kernel_rfl) (of_decide_eq_true (by kernel_rfl)) k0 bel lt0) trodAll_mk0), rfl, bel.frame _, fun h => by cases h⟩

theorem over : Rows.fnTextsRow.holds Try.pinned (OpenSpec.ofChange Rows.fnTextsSpec) :=
  OpenClaim.holds_of_wide 3 Try.f3 rfl rfl rfl rfl rfl rfl rfl ⟨rfl, rfl, rfl, rfl, rfl⟩ rfl rfl rfl rfl rfl (by kernel_rfl) Try.func3 (by kernel_rfl)
    (of_decide_eq_true (by kernel_rfl)) (by unfold Func.isWrapper; first | (rw [if_pos (by decide +kernel)]; kernel_rfl) | (rw [if_neg (by decide +kernel)]; exact ⟨rfl, rfl⟩))
    (fun os started H enc _ => lifted os started H enc)

/-- ████ THE STATEMENT ████ -/
theorem proved : Rows.FnTextsSaid := over
#print axioms proved
end Go.Proofs.Ytfeaplddbpikgaa.fnTexts
