/-
  FnParts returns true at every code and leaves it as it was: parts are one behind the other, from behind their node to its end, as many as its kind has.
-/
import Derived.Test.YtjkfjenhocaljaaRows
import Derived.Test.YtjkfjenhocaljaaMath1
import Derived.Test.YtjkfjenhocaljaaMath4
import Derived.Test.YtjkfjenhocaljaaMath5
import Derived.Test.YtjkfjenhocaljaaMath5N
import Derived.Test.YtjkfjenhocaljaaMath5J
import Derived.Test.YtjkfjenhocaljaaMath6
import Derived.Test.YtjkfjenhocaljaaMath6R
import Derived.Test.YtjkfjenhocaljaaMath6P
import Derived.Test.YtjkfjenhocaljaaMathT
import Derived.Test.YtjkfjenhocaljaaOwn
import Derived.Test.YtjkfjenhocaljaaHexOf
import Derived.Test.YtjkfjenhocaljaaWordS
import Derived.Test.YtjkfjenhocaljaaTextS
import Derived.Test.YtjkfjenhocaljaaTextS2
import Derived.Test.YtjkfjenhocaljaaTextS3
import Derived.Test.YtjkfjenhocaljaaTurned
import Derived.Test.YtjkfjenhocaljaaTextS4
import Derived.Test.YtjkfjenhocaljaaTextS5
import Derived.Test.YtjkfjenhocaljaaTreeS
import Derived.Test.YtjkfjenhocaljaaTreeS2
import Derived.Test.YtjkfjenhocaljaaMath3C
import Derived.Test.YtjkfjenhocaljaaDraw
import Derived.Test.YtjkfjenhocaljaaDraw2
import Derived.Test.YtjkfjenhocaljaaChunkS
import Derived.Test.YtjkfjenhocaljaaTreeS3
import Derived.Test.YtjkfjenhocaljaaTreeS4
import Derived.Test.YtjkfjenhocaljaaTreeS5
import Derived.Test.YtjkfjenhocaljaaNodeL
import Derived.Test.YtjkfjenhocaljaaDraw3
import Derived.Test.YtjkfjenhocaljaaDrawW
import Derived.Test.YtjkfjenhocaljaaDrawT
import Derived.Test.YtjkfjenhocaljaaBend1
import Derived.Test.YtjkfjenhocaljaaBend2
import Derived.Test.YtjkfjenhocaljaaDrawX
import Derived.Test.YtjkfjenhocaljaaDrawN
import Derived.Test.YtjkfjenhocaljaaDrawTr
import Derived.Test.YtjkfjenhocaljaaMath6D
import Derived.Test.YtjkfjenhocaljaaDrawTr2
import Derived.Test.YtjkfjenhocaljaaDrawTr3
import Derived.Test.YtjkfjenhocaljaaDrawTr4
import Derived.Test.YtjkfjenhocaljaaNodeK
import Derived.Test.YtjkfjenhocaljaaTreeS6
import Derived.Test.YtjkfjenhocaljaaIntsL
import Derived.Test.YtjkfjenhocaljaaMath6I
import Derived.Test.YtjkfjenhocaljaaWordI
import Derived.Test.YtjkfjenhocaljaaJumps
import Derived.Test.YtjkfjenhocaljaaClone
import Derived.Test.YtjkfjenhocaljaaTextI
import Derived.Test.YtjkfjenhocaljaaTreeI
import Derived.Test.YtjkfjenhocaljaaTreeI2
import Derived.Test.YtjkfjenhocaljaaTreeI3
import Derived.Test.YtjkfjenhocaljaaTreeX
import Derived.Test.YtjkfjenhocaljaaLawT
import Derived.Test.YtjkfjenhocaljaaLawP
import Derived.Test.YtjkfjenhocaljaaCodes
import Derived.WalkKit
import Derived.ProofKit
import Derived.OpenShut
import Derived.ShutString
import Derived.ChangeOld
import Derived.Below
namespace Go.Proofs.Ytjkfjenhocaljaa.fnParts
open Go.ChangeShapes Go.WideShapes Go.ChangeAt Go.RowKit
open Go.ChangeMaps (open_string shut_string)
set_option linter.unusedVariables false

theorem own : ownKnob Try.prog.godebug = none := by kernel_rfl
theorem laidOut : laidOutB Try.prog = true := by kernel_rfl

/-- WHAT THE WALK IS TOLD OF A SLICE OF INTEGERS THAT CAME IN: it is nil; or it leads to a row of 'cap' cells, the numbers 'zs' (the first 'len' are its elements, the rest its spare room), each fitting its kind. -/
def IsRow (k : IntKind) (w : World) (a : Option Addr) (len cap : Nat) (zs : List Int) : Prop :=
  (a = none ∧ len = 0 ∧ cap = 0 ∧ zs = []) ∨
  ∃ x, a = some x ∧ len ≤ cap ∧ cap ≤ maxLen ∧ zs.length = cap ∧ (∀ i, i < zs.length → w.cell? (x.add i) = some (.int k (zs.getD i 0))) ∧ ∀ n ∈ zs, (Lit.int k n).wf = true

/-! ### STEP 1: THE WALK: the Go text returns true, AND WRITES NOTHING THAT WAS THERE: 'Below w.heap.size w w'' (Derived/Below.lean: '.refl', '.alloc', '.drew', '.setCell' at a new block, '.trans'). Open each 'IsRow' by 'rcases' AHEAD of 'go_enter'; part every test ahead of the walk. -/
set_option maxHeartbeats 8000000 in
set_option maxRecDepth 1000000 in
theorem walk (a0 : Option Addr) (len0 cap0 : Nat) (z0 : List Int) (w : World) (w0 : IsRow .u8 w a0 len0 cap0 z0) :
    Calls Try.prog 3 #[.slice a0 len0 cap0] w fun e w' => e = .returned (.bool true) ∧ Below w.heap.size w w' := by
  have hcode : Code w w.heap.size a0 len0 := by
    rcases w0 with ⟨rfl, rfl, rfl, rfl⟩ | ⟨x, rfl, hl, hm, hz, hcell, hwz⟩
    · exact code_nil w
    · exact code_of w x len0 z0 hcell (by omega) hwz
  clear w0
  by_cases hbig : 4096 < (len0 : Int)
  · have hd : decide (4096 < (len0 : Int)) = true := decide_eq_true hbig
    go_enter Try.func3, Try.ntmps3
    go_wp2_with (go_at_call 9; refine (bigB _ _ _ _).mono ?_; rintro e w' ⟨rfl, rfl⟩)
    go_ret
    exact ⟨rfl, Below.refl _ _⟩
  · have hd : decide (4096 < (len0 : Int)) = false := decide_eq_false hbig
    have hself : ∀ n : Int, (n != n) = false := by simp
    have hselfb : ∀ n : Bool, (n != n) = false := by simp
    have hselfl : ∀ n : List UInt8, (n != n) = false := by simp
    have hselfe : ∀ n : List UInt8, (n == n) = true := by simp
    go_enter Try.func3, Try.ntmps3
    go_wp2_with fail
    refine (bigB _ _ _ _).mono ?_
    rintro e w1 ⟨rfl, rfl⟩
    go_wp2_with fail
    refine (drawPartsOf _ _ _ _ (by omega) hcode).mono ?_
    rintro e w2 ⟨v2, T, x, rfl, hd2, hx0, hx1, hb2⟩
    obtain ⟨hownT, hlT, hsT, heT⟩ := hd2
    obtain ⟨_, aT, cT, rfl, hinT⟩ := own_nodes hownT
    have HIT : Hid (IntT T) := hsT.int
    have HST : Hid (ShortT T) := hsT.short
    have HSM : Hid (SmallT T) := hsT
    have HEO : Hid (EndsOk T) := heT
    clear hcode hsT heT
    go_wp2_with fail
    refine (implPartsOf aT T.length cT T x _ hinT HIT.out HST.out (by omega) (by omega)).mono ?_
    rintro e w3 ⟨v3, rfl, hown3, hb3⟩
    have hownT3 := own_below hownT hb3
    have hinT3 := hinT.below hb3
    have hB3 := hb2.trans (hb3.mono hb2.size)
    obtain ⟨P, hP⟩ : ∃ P, partsV T x = P := ⟨_, rfl⟩
    have hPl : P.length ≤ 3 := by rw [← hP]; exact partsV_len T x
    rw [hP] at hown3
    have HP : Hid (partsV T x = P) := hP
    clear hP hb2 hb3 hownT hinT
    go_wp2_with fail
    refine (implEndOf aT T.length cT T x _ hinT3 HIT.out HST.out (by omega) (by omega)).mono ?_
    rintro e w4 ⟨rfl, hb4⟩
    have hownT4 := own_below hownT3 hb4
    have hinT4 := hinT3.below hb4
    have hown4 := own_below hown3 hb4
    have hB4 := hB3.trans (hb4.mono hB3.size)
    obtain ⟨E, hE⟩ : ∃ E, endV T x = E := ⟨_, rfl⟩
    rw [hE]
    have hEb := endV_bd T x
    rw [hE] at hEb
    have HE : Hid (endV T x = E) := hE
    clear hE hb4 hB3 hownT3 hinT3 hown3
    go_wp2_with fail
    refine (specPartsOf aT T.length cT T x _ hinT4 HST.out (by omega)).mono ?_
    rintro e w5 ⟨v5, rfl, hown5, hb5⟩
    rw [HP.out] at hown5
    have hownT5 := own_below hownT4 hb5
    have hinT5 := hinT4.below hb5
    have hownP5 := own_below hown4 hb5
    have hB5 := hB4.trans (hb5.mono hB4.size)
    clear hb5 hB4 hownT4 hinT4 hown4
    go_wp2_with fail
    refine (likeIntV _ _ _ _ _ P (by omega) hownP5 hown5).mono ?_
    rintro e w6 ⟨rfl, hg6⟩
    have hownT6 := own_none hownT5 hg6
    have hownP6 := own_none hownP5 hg6
    have hB6 : Below w1.heap.size w1 w6 := hB5.grown hg6 hB5.size (by simp)
    obtain ⟨_, aT', cT', heq, hinT6⟩ := own_nodes hownT6
    obtain ⟨rfl, rfl⟩ : aT' = aT ∧ cT' = cT := by
      simp only [Value.slice.injEq, true_and] at heq
      exact ⟨heq.1.symm, heq.2.symm⟩
    clear hg6 hB5 hownT5 hinT5 hownP5 hown5 heq
    go_wp2_with fail
    refine (specEndOf aT' T.length cT' T x _ hinT6 HST.out (by omega)).mono ?_
    rintro e w7 ⟨rfl, hb7⟩
    rw [HE.out]
    have hownT7 := own_below hownT6 hb7
    have hinT7 := hinT6.below hb7
    have hownP7 := own_below hownP6 hb7
    have hB7 := hB6.trans (hb7.mono hB6.size)
    have hv3 : ∃ a3 c3, v3 = .slice a3 P.length c3 := by
      rcases own_forms hownP7 with ⟨h1, h2, _⟩ | ⟨g, cp, h1⟩
      · exact ⟨none, 0, by rw [h1, h2]⟩
      · exact ⟨_, _, h1⟩
    obtain ⟨a3, c3, rfl⟩ := hv3
    clear hb7 hB6 hownT6 hinT6 hownP6
    by_cases hneg : E < 0
    · obtain rfl : P = [] := by rw [← HP.out]; unfold partsV; rw [HE.out, if_pos hneg]
      go_wp2
      go_ret
      exact ⟨rfl, hB7⟩
    · obtain ⟨k, q, rfl, hkl, hq3, hPq, hkq, hch, hxE, hEl, htr⟩ := parts_facts (T := T) (x := x) (by rw [HE.out]; omega) HEO.out
      rw [HP.out] at hPq
      rw [HE.out] at hch hxE hEl htr
      have hPlen : P.length = q := by rw [hPq]; exact partsGo_len T q _
      have HPQ : Hid (P = partsGo T q ((k : Int) + 1)) := hPq
      have HKQ : Hid (kidsOfV (T.getD k nd0) = (q : Int)) := hkq
      have HCH : Hid (chain T q ((k : Int) + 1) = E) := hch
      have HTR : Hid (treeB ((T.drop k).take (E - k).toNat) = true) := htr
      have HPN : Hid (P.length = q) := hPlen
      rw [hPlen] at hownP7
      obtain ⟨g, cg, hgT⟩ := own_some hownT7 (by omega)
      simp only [Value.slice.injEq, true_and] at hgT
      obtain ⟨rfl, rfl⟩ := hgT
      obtain ⟨hcap, _⟩ := own_capG hownT7
      clear hPq hkq hch htr hownT7 HP HE HEO hneg
      have H7 : Hid (NodesIn w7 (some ⟨g, 0, none⟩) T.length T) := hinT7
      have P7 : Hid (w7.ownsRow w2.heap.size 2 1 (.slice a3 q c3) q (intsV P)) := hownP7
      have B7 : Hid (Below w1.heap.size w1 w7) := hB7
      clear hinT7 hownP7 hB7
      rw [hPlen]
      clear hPlen
      go_wp2
      go_loopw [7, 8] (fun nv iv wr => ∃ i : Nat, i ≤ q ∧ iv = .int .i64 i ∧ nv = .int .i64 (chain T i ((k : Int) + 1)) ∧ Hid (NodesIn wr (some ⟨g, 0, none⟩) T.length T) ∧ Hid (wr.ownsRow w2.heap.size 2 1 (.slice a3 q c3) q (intsV P)) ∧ Hid (Below w1.heap.size w1 wr)) (fun _ iv _ => q - (intOf iv).toNat)
      case atStart => exact ⟨0, by omega, rfl, rfl, H7, P7, B7⟩
      case round =>
        obtain ⟨i, hi, rfl, rfl, HT, HPo, HB⟩ := hrel
        clear H7 P7 B7
        by_cases hiq : (i : Int) < (q : Int)
        · have hcb := chain_bd T i ((k : Int) + 1) (by omega) (by omega) (by omega)
          have hcs := chain_succ T i ((k : Int) + 1)
          have hat := partsGo_at T q i ((k : Int) + 1) (by omega)
          rw [← HPQ.out] at hat
          obtain ⟨g3, c3', hg3⟩ := own_some HPo.out (by omega)
          simp only [Value.slice.injEq, true_and] at hg3
          obtain ⟨rfl, rfl⟩ := hg3
          have hcell := HPo.out.cellAt i (by omega)
          have hiv : (intsV P)[i]? = some (.int .i64 (chain T i ((k : Int) + 1))) := by
            unfold intsV
            rw [List.getElem?_map, hat]; rfl
          rw [hiv] at hcell
          obtain ⟨c, hc⟩ : ∃ c, chain T i ((k : Int) + 1) = c := ⟨_, rfl⟩
          rw [hc] at hcb hcs hcell ⊢
          have HCS : Hid (chain T (i + 1) ((k : Int) + 1) = endV T c) := hcs
          have hC : Hid (_) := implEndOf (some ⟨g, 0, none⟩) T.length cT' T c wr HT.out HIT.out HST.out (by omega) (by omega)
          clear hat hiv hc hcs
          go_wp2_with fail
          refine Calls.mono hC.out ?_
          rintro e w8 ⟨rfl, hb8⟩
          have HT8 : Hid (NodesIn w8 (some ⟨g, 0, none⟩) T.length T) := HT.out.below hb8
          have HP8 : Hid (w8.ownsRow w2.heap.size 2 1 (.slice (some ⟨g3, 0, none⟩) q c3) q (intsV P)) := own_below HPo.out hb8
          have HB8 : Hid (Below w1.heap.size w1 w8) := HB.out.trans (hb8.mono HB.out.size)
          clear hC hb8 HT HPo HB hcell
          go_wp2
          go_roundw
          case rel => exact ⟨i + 1, by omega, by go_num, by rw [HCS.out], HT8, HP8, HB8⟩
          case measure => simp [intOf]; omega
        · obtain rfl : i = q := by omega
          rw [HCH.out]
          obtain ⟨b, off, hab, hbl, hcells⟩ := HT.out.at (by omega)
          simp only [Option.some.injEq, Addr.mk.injEq, and_true] at hab
          obtain ⟨rfl, rfl⟩ := hab
          obtain ⟨q0, q1, q2, q3⟩ := hcells k hkl
          simp only [Nat.zero_add] at q0 q1 q2 q3
          have hsmk := small_at HSM.out k
          have hmn : (E - (k : Int)).toNat ≤ T.length - k := by omega
          have hinS : Hid (NodesIn wr (some ⟨g, 0 + k * 4, none⟩) (E - (k : Int)).toNat ((T.drop k).take (E - (k : Int)).toNat)) := nodes_sub HT.out k (E - (k : Int)).toNat (by omega)
          rw [Nat.zero_add] at hinS
          have hsS : SmallT ((T.drop k).take (E - (k : Int)).toNat) := fun n hn => HSM.out n (List.mem_of_mem_drop (List.mem_of_mem_take hn))
          have HIS : Hid (IntT ((T.drop k).take (E - (k : Int)).toNat)) := hsS.int
          have HSS : Hid (ShortT ((T.drop k).take (E - (k : Int)).toNat)) := hsS.short
          obtain ⟨n, hn⟩ : ∃ n, T.getD k nd0 = n := ⟨_, rfl⟩
          rw [hn] at q0 q1 q2 q3 hsmk HKQ
          obtain ⟨hni, hnp, hnf⟩ := hsmk
          have hck : ¬ (cT' = k) := by omega
          have hEE : (E == E) = true := by simp
          clear hcells hn hsS
          go_wp2_with fail
          refine (implKidsOf n _ hni (by omega) (by omega)).mono ?_
          rintro e w8 ⟨rfl, hb8⟩
          rw [HKQ.out]
          have hinS8 : Hid (NodesIn w8 (some ⟨g, k * 4, none⟩) (E - (k : Int)).toNat ((T.drop k).take (E - (k : Int)).toNat)) := hinS.out.below hb8
          have hB8 := HB.out.trans (hb8.mono HB.out.size)
          clear hb8 hinS HB HT HPo
          go_wp2_with fail
          rw [show E.toNat - k = (E - (k : Int)).toNat by omega]
          refine (implTreeOk (some ⟨g, k * 4, none⟩) (E - (k : Int)).toNat (cT' - k) ((T.drop k).take (E - (k : Int)).toNat) _ hinS8.out HIS.out HSS.out (by omega)).mono ?_
          rintro e w9 ⟨rfl, hb9⟩
          rw [HTR.out]
          go_wp2
          go_ret
          exact ⟨rfl, hB8.trans (hb9.mono hB8.size)⟩

/-! ### THE ROW's STEP: WRITTEN OUT: LEAVE IT -/
set_option maxRecDepth 100000 in
theorem lifted (os : Os) (started : os.Started) (H : Type) (enc : TypeId × Value → H) :
    ReturnsInHanded {} Try.checked os 3 .any (Rows.fnPartsSpec.pre6 enc Try.prog Try.f3 Rows.fnPartsRow.domain false) (Rows.fnPartsSpec.post enc Try.prog Try.f3 false true false false) := by
  refine returnsInHanded_of_change (C := Try.checked) own started (by kernel_rfl) Try.func3
    (ChangeSpec.witness6 (enc := enc) (C := Try.checked) false ⟨#[], #[.slice none 0 0], []⟩ 8 (by kernel_rfl) (by kernel_rfl) (by kernel_rfl) (by kernel_rfl)) ?_
  intro W base args ds gs before hval0 hW hcnd _
  have hval : ∀ (j : Nat) t v, Try.f3.params[j]? = some t → args[j]? = some v → Value.okWide Try.prog W .any base t v := hval0
  have hW' := hW
  obtain ⟨p, q, hA0, hV, rfl, hfz, hnd⟩ := hW
  have hA : DataW.TrodAll enc Try.prog W 0 (fun _ => true) true Try.f3.params.toList args.toList ds p := hA0
  rw [Try.params3] at hA hval
  obtain ⟨v0, vs0, d0, ds0, p0, q0, hargs, rfl, rfl, h0, r0⟩ := trodAll_cons hA
  obtain ⟨rfl, rfl, rfl⟩ := trodAll_nil r0
  obtain rfl : args = #[v0] := by cases args; simp_all
  obtain ⟨rfl, rfl⟩ := trodVars_none hV
  obtain ⟨a0, len0, cap0, rfl⟩ := okWide_slice Try.underlying22 (hval 0 22 v0 rfl rfl)
  have k0 := h0
  have lt0 : ∀ x ∈ p0, x.block < W.heap.size := by obtain ⟨m, hm⟩ := k0; exact DataW.trod_lt m _ _ _ hm
  obtain ⟨z0, w0⟩ : ∃ zs, IsRow .u8 W a0 len0 cap0 zs := by
    obtain ⟨fuel, hf⟩ := h0
    rcases open_ints Try.underlying22 Try.underlying5 (by kernel_rfl) hf with ⟨hcs, _⟩ | ⟨x, l, c, zs, hcs, _, hl, hm, hz, _, hcell, hwz⟩
    · simp [Value.cells] at hcs
      obtain ⟨rfl, rfl, rfl⟩ := hcs
      exact ⟨[], .inl ⟨rfl, rfl, rfl, rfl⟩⟩
    · simp [Value.cells] at hcs
      obtain ⟨rfl, rfl, rfl⟩ := hcs
      exact ⟨zs, .inr ⟨_, rfl, hl, hm, by simpa using hz, hcell, hwz⟩⟩
  clear hA0 hval0
  refine (walk a0 len0 cap0 z0 W w0).mono fun e W' ⟨he, bel⟩ => ?_
  subst he
  exact ⟨_, rfl, _, _, _, [], _, [], hW', trodAll_mk1 (shut_bool Try.underlying4 _), (trodAll_cons_mk (Below.trod laidOut (by kernel_rfl) (of_decide_eq_true (by kernel_rfl)) k0 bel lt0) trodAll_mk0), rfl, bel.frame _, fun h => by cases h⟩

theorem over : Rows.fnPartsRow.holds Try.pinned (OpenSpec.ofChange Rows.fnPartsSpec) :=
  OpenClaim.holds_of_wide 3 Try.f3 rfl rfl rfl rfl rfl rfl rfl ⟨rfl, rfl, rfl, rfl, rfl⟩ rfl rfl rfl rfl rfl (by kernel_rfl) Try.func3 (by kernel_rfl)
    (of_decide_eq_true (by kernel_rfl)) (by unfold Func.isWrapper; first | (rw [if_pos (by decide +kernel)]; kernel_rfl) | (rw [if_neg (by decide +kernel)]; exact ⟨rfl, rfl⟩))
    (fun os started H enc _ => lifted os started H enc)

/-- ████ THE STATEMENT ████ -/
theorem proved : Rows.FnPartsSaid := over
#print axioms proved
end Go.Proofs.Ytjkfjenhocaljaa.fnParts
