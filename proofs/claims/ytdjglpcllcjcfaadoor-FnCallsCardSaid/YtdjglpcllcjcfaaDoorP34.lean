/-
  Parts of one proof, one behind the other: LaidE.
-/
import Derived.Test.YtdjglpcllcjcfaaDoorP33
import Derived.Test.YtdjglpcllcjcfaaDoorP25
import Derived.LaidLaws
import Derived.Stop.LaidErr

/-! What listed errors of errors.New's make give a walk: each variable's cell, and that no two are one. -/
namespace Go.Proofs.YtdjglpcllcjcfaaDoor
open Go.RowKit

def sentD (text : List UInt8) : DataW Unit := .iface "*errors.errorString" (.ptr (.agg [.lit (.string text)]))
noncomputable def errTy (n : String) : Bool := ((Tryd.prog.globalNamed n).bind fun g => (Tryd.prog.globals[g]?).map (·.type)) == some 66
theorem errStar : "*errors.errorString" = "*" ++ "errors.errorString" := by decide
theorem errRow (u : TypeId) (h : Tryd.prog.typeName? 3 u = some "*errors.errorString") : u = 167 :=
  typeName_ptr_named (nm := "errors.errorString") (by rw [← errStar]; kernel_rfl) (by kernel_rfl) (by decide) u (by rw [← errStar]; exact h)
set_option maxRecDepth 100000 in
theorem sents_of {W : World} : ∀ (l : List (String × List UInt8)) (ps : List MemPlace), (l.all fun x => errTy x.1) = true → DataW.LaidVars Tryd.prog W (l.map fun x => (x.1, sentD x.2)) ps → ps.Nodup →
    (∀ b off, MemPlace.cell b off ∈ ps → (∃ c t, W.heap[b]? = some (.cells c t (0, 0))) ∧ ∀ u v, W.cell? ⟨b, off, none⟩ = some (.iface u v) → Value.okWide Tryd.prog W .any 0 u v) →
    ∃ al : List Addr, al.length = l.length ∧ al.Nodup ∧ (∀ a ∈ al, MemPlace.cell a.block a.off ∈ ps) ∧ ∀ i, i < l.length → W.var? Tryd.prog (l.getD i ("", [])).1 = some #[sentV (al.getD i ⟨0, 0, none⟩)] ∧ SentAt W (al.getD i ⟨0, 0, none⟩)
  | [], ps, _, _, _, _ => ⟨[], rfl, List.nodup_nil, (fun a ha => by cases ha), (fun i hi => absurd hi (Nat.not_lt_zero _))⟩
  | x :: r, ps, hty, h, hnd, hrows => by
    obtain ⟨g, t, cs, fuel, p, q, hg, ht, hv, hd, hr, e⟩ := h
    rw [List.all_cons, Bool.and_eq_true] at hty
    have h1 := hty.1
    unfold errTy at h1
    rw [hg, Option.bind_some, ht] at h1
    obtain rfl : t = 66 := by simpa using h1
    subst e
    obtain ⟨l0⟩ := cs
    have ok : ∀ u v, l0 = [.iface u v] → Value.okWide Tryd.prog W .any 0 u v := fun u v e => by
      subst e
      exact (hrows g 0 (by simp [MemPlace.row])).2 u v (by simpa using World.var?_cell hg hv 0)
    obtain ⟨a, s, rfl, hc, hs, hz, rfl⟩ := errorString_of_trod Tryd.underlying66 errRow Tryd.underlying167 Tryd.underlying192 rfl rfl Tryd.underlying9 (by kernel_rfl) (by kernel_rfl) hd ok
    obtain ⟨al, hl, has, hin, hall⟩ := sents_of r q hty.2 hr (List.Nodup.sublist (List.sublist_append_right _ _) hnd) (fun b off hm => hrows b off (List.mem_append_right _ hm))
    have hca : MemPlace.cell a.block a.off ∈ MemPlace.row a 1 := by simp [MemPlace.row]
    refine ⟨a :: al, by simp [hl], List.nodup_cons.2 ⟨fun ha => ?_, has⟩, fun b hb => ?_, fun i hi => ?_⟩
    · have h2 := hin a ha
      rw [List.append_assoc] at hnd
      have h3 := (List.nodup_append.1 hnd).2.1
      exact (List.nodup_append.1 h3).2.2 _ hca _ h2 rfl
    · rcases List.mem_cons.1 hb with rfl | hb
      · exact List.mem_append_left _ (List.mem_append_right _ hca)
      · exact List.mem_append_right _ (hin b hb)
    · rcases i with _ | i
      · exact ⟨hv, (hrows a.block a.off (List.mem_append_left _ (List.mem_append_right _ hca))).1⟩
      · have := hall i (by simpa using hi)
        simpa using this

theorem nodup_at {al : List Addr} (h : al.Nodup) {i j : Nat} (hi : i < al.length) (hj : j < al.length) (hne : i ≠ j) : al.getD i ⟨0, 0, none⟩ ≠ al.getD j ⟨0, 0, none⟩ := by
  intro e
  have e1 : al.getD i ⟨0, 0, none⟩ = al[i] := by simp [List.getD, hi]
  have e2 : al.getD j ⟨0, 0, none⟩ = al[j] := by simp [List.getD, hj]
  rw [e1, e2] at e
  exact hne ((List.getElem_inj h).1 e)

/-- The four that CallCode asks, in the order of the list: not told, far, func, count. -/
theorem err4_of {W : World} {t0 t1 t2 t3 : List UInt8} {l : List (String × List UInt8)} (h : laidMet Tryd.prog ((("loop.example/g00346/impl.errNotTold", t0) :: ("loop.example/g00346/impl.errFar", t1) :: ("loop.example/g00346/impl.errFunc", t2) :: ("loop.example/g00346/impl.errCount", t3) :: l).map fun x => (x.1, sentD x.2)) W)
    (hty : (l.all fun x => errTy x.1) = true) :
    ∃ al : List Addr, al.length = l.length + 4 ∧ al.Nodup ∧ Err4 W (fun i => al.getD i ⟨0, 0, none⟩) ∧ ∀ i, i < l.length → W.var? Tryd.prog (l.getD i ("", [])).1 = some #[sentV (al.getD (i + 4) ⟨0, 0, none⟩)] ∧ SentAt W (al.getD (i + 4) ⟨0, 0, none⟩) := by
  obtain ⟨ps, hv, hnd, hrows⟩ := h
  have ht4 : errTy "loop.example/g00346/impl.errNotTold" = true ∧ errTy "loop.example/g00346/impl.errFar" = true ∧ errTy "loop.example/g00346/impl.errFunc" = true ∧ errTy "loop.example/g00346/impl.errCount" = true := ⟨by kernel_rfl, by kernel_rfl, by kernel_rfl, by kernel_rfl⟩
  obtain ⟨al, hl, has, _, hall⟩ := sents_of _ ps (by simp only [List.all_cons, ht4, Bool.true_and, hty]) hv hnd hrows
  have hl4 : al.length = l.length + 4 := by simpa using hl
  have c : ∀ i g n, i < 4 → (([("loop.example/g00346/impl.errNotTold", t0), ("loop.example/g00346/impl.errFar", t1), ("loop.example/g00346/impl.errFunc", t2), ("loop.example/g00346/impl.errCount", t3)] ++ l).getD i ("", [])).1 = n → Tryd.prog.globalNamed n = some g → W.cell? ⟨g, 0, none⟩ = some (sentV (al.getD i ⟨0, 0, none⟩)) := fun i g n hi hn hg => by
    have h1 := (hall i (by simp; omega)).1
    have h2 : (([("loop.example/g00346/impl.errNotTold", t0), ("loop.example/g00346/impl.errFar", t1), ("loop.example/g00346/impl.errFunc", t2), ("loop.example/g00346/impl.errCount", t3)] ++ l).getD i ("", [])).1 = n := hn
    simp only [List.cons_append, List.nil_append] at h2
    rw [h2] at h1
    simpa using World.var?_cell hg h1 0
  have at_ : ∀ i, i < 4 → SentAt W (al.getD i ⟨0, 0, none⟩) := fun i hi => (hall i (by simp; omega)).2
  have ne : ∀ i j, i < 4 → j < 4 → i ≠ j → al.getD i ⟨0, 0, none⟩ ≠ al.getD j ⟨0, 0, none⟩ := fun i j hi hj hne => nodup_at has (by omega) (by omega) hne
  refine ⟨al, hl4, has, ⟨c 0 3 _ (by decide) rfl (by kernel_rfl), c 1 0 _ (by decide) rfl (by kernel_rfl), c 2 1 _ (by decide) rfl (by kernel_rfl), c 3 2 _ (by decide) rfl (by kernel_rfl), at_ 0 (by decide), at_ 1 (by decide), at_ 2 (by decide), at_ 3 (by decide), ⟨ne 0 1 (by decide) (by decide) (by decide), ne 0 2 (by decide) (by decide) (by decide), ne 0 3 (by decide) (by decide) (by decide), ne 1 2 (by decide) (by decide) (by decide), ne 1 3 (by decide) (by decide) (by decide), ne 2 3 (by decide) (by decide) (by decide)⟩⟩, fun i hi => ?_⟩
  have h1 := hall (i + 4) (by simp; omega)
  simpa using h1

end Go.Proofs.YtdjglpcllcjcfaaDoor
