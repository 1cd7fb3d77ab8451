/-
  Parts of one proof, one behind the other: LawRu.
-/
import Derived.Test.YtnflkecnddbhoaaP35
import Derived.Test.YtnflkecnddbhoaaP24
import Derived.Test.YtnflkecnddbhoaaP28
import Derived.Test.YtnflkecnddbhoaaP1

/-! The law FnRuns: an image that is run gives a word or why not, and with all fuel what it gave with less, if it came to its end. -/
namespace Go.Proofs.Ytnflkecnddbhoaa
open Go.RowKit

theorem nums_litR {xs : List Int} (h : ∀ x ∈ xs, -9223372036854775808 ≤ x ∧ x ≤ 9223372036854775807) : ∀ x ∈ xs, (Lit.int .i64 x).wf = true := fun x hx => by
  exact WalkArith.wf_i64 (h x hx)
theorem allI_short {c : List In13} (h : AllI c) : ShortI c ∧ IntIs c := by
  refine ⟨fun j => ?_, fun j => ?_⟩
  · by_cases hj : j < c.length
    · have hm : c.getD j in0 ∈ c := by rw [List.getD_eq_getElem?_getD, List.getElem?_eq_getElem hj]; exact List.getElem_mem hj
      have := h _ hm
      unfold SmI at this
      omega
    · rw [List.getD_eq_getElem?_getD, List.getElem?_eq_none (by omega)]; simp [in0]
  · by_cases hj : j < c.length
    · have hm : c.getD j in0 ∈ c := by rw [List.getD_eq_getElem?_getD, List.getElem?_eq_getElem hj]; exact List.getElem_mem hj
      have := h _ hm
      unfold SmI at this
      unfold IntI
      omega
    · rw [List.getD_eq_getElem?_getD, List.getElem?_eq_none (by omega)]; exact intI_in0
theorem smRt_short {rs : List Rt} (h : ∀ r ∈ rs, SmRt r) : ShortR rs ∧ IntR rs := by
  have key : ∀ j, j < rs.length → SmRt (rs.getD j rt0) := fun j hj => h _ (by rw [List.getD_eq_getElem?_getD, List.getElem?_eq_getElem hj]; exact List.getElem_mem hj)
  have e : ∀ j, ¬ j < rs.length → rs.getD j rt0 = rt0 := fun j hj => by rw [List.getD_eq_getElem?_getD, List.getElem?_eq_none (by omega)]; rfl
  refine ⟨fun j => ?_, fun j => ?_⟩
  · by_cases hj : j < rs.length
    · have hk := key j hj
      exact ⟨by have := hk.1; omega, by have := hk.2.2.1; omega, (allI_short hk.2.2.2).1⟩
    · rw [e j hj]
      exact ⟨by simp [rt0], by simp [rt0], fun k => by simp [rt0, in0]⟩
  · by_cases hj : j < rs.length
    · have hk := key j hj
      exact ⟨by have := hk.2.1; omega, (allI_short hk.2.2.2).2⟩
    · rw [e j hj]
      exact ⟨by simp [rt0], intIs_nil⟩

set_option maxHeartbeats 8000000 in
set_option maxRecDepth 100000 in
theorem lawRuns (w : World) (a : Option Addr) (len cap : Nat) (hcode : Code w w.heap.size a len) :
    Calls Try.prog 3 #[.slice a len cap] w fun e w' => e = .returned (.bool true) ∧ Below w.heap.size w w' := by
  by_cases hbig : 4096 < (len : Int)
  · have hd : decide (4096 < (len : Int)) = true := decide_eq_true hbig
    go_enter Try.func3, Try.ntmps3
    go_wp2_with (go_at_call 5; refine (bigB _ _ _ _).mono ?_; rintro e w' ⟨rfl, rfl⟩)
    go_ret
    exact ⟨rfl, Below.refl _ _⟩
  · have hd : decide (4096 < (len : Int)) = false := decide_eq_false hbig
    have hl : len ≤ 4096 := by omega
    go_enter Try.func3, Try.ntmps3
    go_wp2_with fail
    refine (bigB _ _ _ _).mono ?_
    rintro e w1 ⟨rfl, hw1⟩
    obtain rfl := hw1.symm
    go_wp2_with fail
    refine (drawRunImage _ _ _ _ hl hcode).mono ?_
    rintro e w2 ⟨la, n, lc, rs, nm, u, xs, fuel, rfl, hn, hf, ⟨g, c, rfl⟩, hrow, hx4, hxw, him, hB2⟩
    have hrc := him.1 w2 (Agr.refl _ _)
    obtain ⟨hsh, hint⟩ := smRt_short him.2.1
    have hn12 := him.2.2
    have has := nums_as hrow rfl
    have hcp := own_capR hrow
    have hwf : ∀ x ∈ xs, (Lit.int .i64 x).wf = true := nums_litR hxw
    obtain ⟨W, hW⟩ : ∃ W, w2.alloc (.cells #[.slice la n lc] 26) = W := ⟨_, rfl⟩
    have hbW : Below w2.heap.size w2 W := by rw [← hW]; exact (Below.refl _ _).alloc (Nat.le_refl _) _
    have hA := heap_alloc_new w2 (.cells #[.slice la n lc] 26)
    rw [hW] at hA
    obtain ⟨M, hM⟩ : ∃ M, w2.heap.size = M := ⟨_, rfl⟩
    rw [hM] at hA
    have hMl : M < W.heap.size := lt_of_block hA
    have HK : Hid (∀ Z, Below W.heap.size W Z → Z.cell? ⟨M, 0, none⟩ = some (.slice la n lc)) := fun Z hz => (hz.cell (p := ⟨M, 0, none⟩) hMl).trans (cell_of_one hA)
    have HE : Hid (∀ Z, Below W.heap.size W Z → Below w.heap.size w Z) := fun Z hz => (hB2.trans (hbW.mono hB2.size)).trans (hz.mono (Nat.le_trans hB2.size hbW.size))
    have HIm : Hid (∀ Z fu, -9223372036854775808 ≤ fu ∧ fu ≤ 9223372036854775807 → Below W.heap.size W Z → Calls Try.prog 7 #[.agg #[.slice la n lc], .string ⟨nm.toArray⟩, .slice (some ⟨g, 0, none⟩) xs.length c, .int .i64 fu] Z fun e w' => e = .returned (.tuple #[.int .i64 (runV rs nm xs fu).1, .int .i64 (runV rs nm xs fu).2]) ∧ Below Z.heap.size Z w') := fun Z fu hfu hz => implRunImage la n lc rs nm (some ⟨g, 0, none⟩) c xs fu Z ⟨(hrc.below hbW).below hz, hint, hsh, by omega⟩ (by omega) ((has.below hbW).below hz) (by omega) hcp.1 hcp.2 hwf hfu
    have HSp : Hid (∀ Z, Below W.heap.size W Z → Calls Try.prog 8 #[.agg #[.slice la n lc], .string ⟨nm.toArray⟩, .slice (some ⟨g, 0, none⟩) xs.length c, .int .i64 fuel] Z fun e w' => e = .returned (.tuple #[.int .i64 (runV rs nm xs fuel).1, .int .i64 (runV rs nm xs fuel).2]) ∧ Below Z.heap.size Z w') := fun Z hz => specRunImage la n lc rs nm (some ⟨g, 0, none⟩) c xs fuel Z ((hrc.below hbW).below hz).in hsh (by omega) ((has.below hbW).below hz) (by omega)
    obtain ⟨hz1, hz2, hz3, hz4⟩ := runs_law rs nm xs fuel
    have HI1 : Hid (_) := fun Z hz => HIm.out Z fuel (by omega) hz
    have HI2 : Hid (_) := fun Z hz => HIm.out Z 20000 (by omega) hz
    obtain ⟨P, hP⟩ : ∃ P, runV rs nm xs fuel = P := ⟨_, rfl⟩
    obtain ⟨Q, hQ⟩ : ∃ Q, runV rs nm xs 20000 = Q := ⟨_, rfl⟩
    rw [hP] at hz1 hz2 hz3 hz4 HI1 HSp
    rw [hQ] at hz4 HI2
    obtain ⟨v, k⟩ := P
    simp only at hz1 hz2 hz3 hz4 HI1 HSp
    have hvv : (v != v) = false := by simp
    have hkk : (k != k) = false := by simp
    have hwd : inB v (-2147483648) 2147483647 = true := inB_yes _ _ _ hz2.1 hz2.2
    have k0 := HK.out W (Below.refl _ _)
    have hB : Below W.heap.size W W := Below.refl _ _
    clear hrow him hrc has hcp hwf hbW hA hP hQ HIm hxw hsh hint hcode hB2
    go_wp2_with fail
    refine (HI1.out _ hB).mono ?_
    rintro e w3 ⟨rfl, hb3⟩
    replace hB := hB.trans (hb3.mono hB.size)
    replace k0 := HK.out _ hB
    clear hb3 HI1
    go_wp2_with fail
    refine (HSp.out _ hB).mono ?_
    rintro e w4 ⟨rfl, hb4⟩
    replace hB := hB.trans (hb4.mono hB.size)
    replace k0 := HK.out _ hB
    have HF4 : Hid (Below w.heap.size w w4) := HE.out _ hB
    clear hb4 HSp
    rcases (show k = 0 ∨ k = 1 ∨ k = 2 ∨ k = 3 by omega) with rfl | rfl | rfl | rfl
    · obtain rfl := hz4 (by decide) (by decide)
      clear hz1 hz2 hz3 hz4
      simp only at HI2
      have hvq : (v == v) = true := by simp
      go_wp2_with fail
      refine (specWordOk v _).mono ?_
      rintro e w5 ⟨rfl, hw5⟩
      obtain rfl := hw5.symm
      rw [hwd]
      go_wp2_with fail
      refine (HI2.out _ hB).mono ?_
      rintro e w6 ⟨rfl, hb6⟩
      replace hB := hB.trans (hb6.mono hB.size)
      have HF6 : Hid (Below w.heap.size w w6) := HE.out _ hB
      clear hb6
      go_wp2
      go_ret
      exact ⟨rfl, HF6.out⟩
    · obtain rfl := hz1 (by decide)
      obtain rfl := hz4 (by decide) (by decide)
      clear hz1 hz2 hz3 hz4
      simp only at HI2
      go_wp2_with fail
      refine (specWordOk 0 _).mono ?_
      rintro e w5 ⟨rfl, hw5⟩
      obtain rfl := hw5.symm
      rw [hwd]
      go_wp2_with fail
      refine (HI2.out _ hB).mono ?_
      rintro e w6 ⟨rfl, hb6⟩
      replace hB := hB.trans (hb6.mono hB.size)
      have HF6 : Hid (Below w.heap.size w w6) := HE.out _ hB
      clear hb6
      go_wp2
      go_ret
      exact ⟨rfl, HF6.out⟩
    · obtain rfl := hz1 (by decide)
      clear hz1 hz2 hz3 hz4 HI2
      go_wp2_with fail
      refine (specWordOk 0 _).mono ?_
      rintro e w5 ⟨rfl, hw5⟩
      obtain rfl := hw5.symm
      rw [hwd]
      go_wp2
      go_ret
      exact ⟨rfl, HF4.out⟩
    · obtain rfl := hz1 (by decide)
      clear hz1 hz2 hz3 hz4 HI2
      go_wp2_with fail
      refine (specWordOk 0 _).mono ?_
      rintro e w5 ⟨rfl, hw5⟩
      obtain rfl := hw5.symm
      rw [hwd]
      go_wp2
      go_ret
      exact ⟨rfl, HF4.out⟩

end Go.Proofs.Ytnflkecnddbhoaa
