/-
  Parts of one proof, one behind the other: ImgE3.
-/
import Derived.Test.YtnflkecnddbhoaaP32
import Derived.Deep.RegionWith
import Derived.BigQuiet

/-! Contracts of chapter 14's landed code: one instruction is done, at kinds 3 to 6 (pairDone). -/
namespace Go.Proofs.Ytnflkecnddbhoaa
open Go.RowKit

/-- What pairDone makes. -/
def PdOut (X : World) (Rb G : Nat) (tv : Value) (m : Nat) (row : List Int) (av : Value) (q : Int) (kd R A Bq : Int) (e : Ending) (w' : World) : Prop :=
  (doneB kd (row.getD A.toNat 0) (row.getD Bq.toNat 0) = false ∧ e = .returned (.int .i64 1) ∧ Rq14 w' Rb G tv (m : Int) row av q ∧ WroteR X w' (fun q => q = Rb ∨ q = G)) ∨
  (doneB kd (row.getD A.toNat 0) (row.getD Bq.toNat 0) = true ∧ e = .returned (.int .i64 0) ∧ Rq14 w' Rb G tv (m : Int) (row.set R.toNat (doneV kd (row.getD A.toNat 0) (row.getD Bq.toNat 0))) av q ∧ WroteR X w' (fun q => q = Rb ∨ q = G))
theorem Du14.drewN {X Z : World} {Rb G N : Nat} {tv : Value} {m : Nat} {row : List Int} {av : Value} {q : Int} {i : In13} (h : Du14 X Z Rb G N tv m row av q i) (n : Nat) : Du14 X (Z.drewN n) Rb G N tv m row av q i := h.below ⟨rfl, rfl, rfl, Nat.le_refl _, fun _ _ => rfl⟩
section
variable (rs : List Rt) (X : World) (Rb G : Nat) (tv : Value) (m k p : Nat) (xs row : List Int) (kd R A Bq : Int) (nm : List UInt8)
set_option maxHeartbeats 8000000 in
set_option maxRecDepth 100000 in
theorem implPairDone (av : Value) (q : Int) (h : Rq14 X Rb G tv (m : Int) row av q) (hR : 0 ≤ R ∧ R < 64) (hA : 0 ≤ A ∧ A < 64) (hB : 0 ≤ Bq ∧ Bq < 64) :
    Calls Try.prog 77 #[.pointer (some ⟨G, 0, none⟩), .agg #[.int .i64 kd, .int .i64 R, .int .i64 A, .int .i64 Bq, .string ⟨nm.toArray⟩]] X fun e w' => PdOut X Rb G tv m row av q kd R A Bq e w' := by
  have hb : Below X.heap.size X (X.alloc (.cells #[.int .i64 kd, .int .i64 R, .int .i64 A, .int .i64 Bq, .string ⟨nm.toArray⟩] 74)) := (Below.refl _ _).alloc (Nat.le_refl _) _
  have hAl := heap_alloc_new X (.cells #[.int .i64 kd, .int .i64 R, .int .i64 A, .int .i64 Bq, .string ⟨nm.toArray⟩] 74)
  have hlr := h.lr
  have hlg := h.lg
  obtain ⟨Z, hZ⟩ : ∃ Z, X.alloc (.cells #[.int .i64 kd, .int .i64 R, .int .i64 A, .int .i64 Bq, .string ⟨nm.toArray⟩] 74) = Z := ⟨_, rfl⟩
  rw [hZ] at hb hAl
  have st : Du14 X Z Rb G X.heap.size tv m row av q (kd, R, A, Bq, nm) := ⟨h.below hb, hAl, by omega, by omega, WroteR.of_below hb⟩
  obtain ⟨N, hN⟩ : ∃ N, X.heap.size = N := ⟨_, rfl⟩
  rw [hN] at st
  have hga : ∀ V, Du14 X V Rb G N tv m row av q (kd, R, A, Bq, nm) → V.cell? ⟨G, A.toNat, none⟩ = some (.int .i64 (row.getD A.toNat 0)) := fun V hV => hV.r.gc _ (by omega)
  have hgb : ∀ V, Du14 X V Rb G N tv m row av q (kd, R, A, Bq, nm) → V.cell? ⟨G, Bq.toNat, none⟩ = some (.int .i64 (row.getD Bq.toNat 0)) := fun V hV => hV.r.gc _ (by omega)
  have HFa : Hid (∀ V, Du14 X V Rb G N tv m row av q (kd, R, A, Bq, nm) → doneB kd (row.getD A.toNat 0) (row.getD Bq.toNat 0) = false → PdOut X Rb G tv m row av q kd R A Bq (.returned (.int .i64 1)) V) := fun V hV e => Or.inl ⟨e, rfl, hV.r, hV.w⟩
  have HFb : Hid (∀ V, Du14 X V Rb G N tv m row av q (kd, R, A, Bq, nm) → doneB kd (row.getD A.toNat 0) (row.getD Bq.toNat 0) = true → PdOut X Rb G tv m row av q kd R A Bq (.returned (.int .i64 0)) (V.setCell ⟨G, R.toNat, none⟩ (.int .i64 (doneV kd (row.getD A.toNat 0) (row.getD Bq.toNat 0))))) := fun V hV e =>
    Or.inr ⟨e, rfl, (hV.hold R.toNat (by omega) _).r, (hV.hold R.toNat (by omega) (doneV kd (row.getD A.toNat 0) (row.getD Bq.toNat 0))).w⟩
  obtain ⟨va, hva⟩ : ∃ va, row.getD A.toNat 0 = va := ⟨_, rfl⟩
  obtain ⟨vb, hvb⟩ : ∃ vb, row.getD Bq.toNat 0 = vb := ⟨_, rfl⟩
  rw [hva] at hga HFa HFb
  rw [hvb] at hgb HFa HFb
  have HCa : Hid (∀ V, Du14 X V Rb G N tv m row av q (kd, R, A, Bq, nm) → Calls Try.prog 55 #[.pointer (some ⟨G, 0, none⟩), .int .i64 A] V fun e w' => e = .returned (.int .i64 va) ∧ w' = V) := fun V hV => implHeld V G A va hA (hga V hV)
  have HCb : Hid (∀ V, Du14 X V Rb G N tv m row av q (kd, R, A, Bq, nm) → Calls Try.prog 55 #[.pointer (some ⟨G, 0, none⟩), .int .i64 Bq] V fun e w' => e = .returned (.int .i64 vb) ∧ w' = V) := fun V hV => implHeld V G Bq vb hB (hgb V hV)
  have HCd : Hid (∀ V, Calls Try.prog 94 #[.int .i64 kd, .int .i64 va, .int .i64 vb] V fun e w' => e = .returned (.tuple #[.int .i64 (doneV kd va vb), .bool (doneB kd va vb)]) ∧ w' = V) := fun V => implDoneS kd va vb V
  have HCh : Hid (∀ V, Du14 X V Rb G N tv m row av q (kd, R, A, Bq, nm) → Calls Try.prog 75 #[.pointer (some ⟨G, 0, none⟩), .int .i64 R, .int .i64 (doneV kd va vb)] V fun e w' => e = .returned (.tuple #[]) ∧ w' = V.setCell ⟨G, R.toNat, none⟩ (.int .i64 (doneV kd va vb))) := fun V hV => implHold V G R _ _ hR (hV.r.gc _ (by omega)) (hV.r.gz _)
  generalize doneV kd va vb = dv at HFa HFb HCd HCh
  generalize doneB kd va vb = db at HFa HFb HCd
  have i0 := st.i0
  have i2 := st.i2
  have i3 := st.i3
  simp only at i0 i2 i3
  have HSt : Hid (Du14 X Z Rb G N tv m row av q (kd, R, A, Bq, nm)) := st
  clear h hR hA hB st hb hAl hlr hlg hga hgb hva hvb
  go_enter Try.func77, Try.ntmps77
  go_wp2_with fail
  go_quiet (first | (go_at_call 94; exact Calls.quiet_of_same (HCd.out _)) | (go_at_call 55; first | exact Calls.quiet_of_same (HCa.out _ (HSt.out.drewN _)) | exact Calls.quiet_of_same (HCb.out _ (HSt.out.drewN _))))
  have HT : Hid (Du14 X (Z.drewN nq) Rb G N tv m row av q (kd, R, A, Bq, nm)) := HSt.out.drewN nq
  clear HSt i0 i2 i3
  generalize Z.drewN nq = V at HT ⊢
  rcases db with _ | _
  · go_wp2
    go_ret
    exact HFa.out _ HT.out trivial
  · have i1 := HT.out.drew.i1
    simp only at i1
    go_wp2_with fail
    go_region_with (go_at_call 75; refine (HCh.out _ HT.out.drew).mono ?_; rintro e w1 ⟨rfl, rfl⟩)
    all_goals
      go_wp2
      go_ret
      exact HFb.out _ HT.out.drew trivial
set_option maxHeartbeats 8000000 in
set_option maxRecDepth 100000 in
theorem implDo3 (av : Value) (h : Rq14 X Rb G tv (m : Int) row av (p : Int)) (hir : Ir14 rs k p (kd, R, A, Bq, nm)) (hkd : 3 ≤ kd ∧ kd ≤ 6) (hw : WordL row) (hpl : p ≤ 200) :
    Calls Try.prog 56 #[.pointer (some ⟨Rb, 0, none⟩), .pointer (some ⟨G, 0, none⟩), .agg #[.int .i64 kd, .int .i64 R, .int .i64 A, .int .i64 Bq, .string ⟨nm.toArray⟩]] X fun e w' => DoOut rs X Rb G tv m k p xs row av e w' := by
  have hok := hir.ok.2.2
  simp only at hok
  have hR : 0 ≤ R ∧ R < 64 := by omega
  have hA : 0 ≤ A ∧ A < 64 := by omega
  have hB : 0 ≤ Bq ∧ Bq < 64 := by omega
  have st := du_start h (kd, R, A, Bq, nm) ((p : Int) + 1)
  have gp := (h.below ((Below.refl _ X).alloc (Nat.le_refl _) (.cells #[.int .i64 kd, .int .i64 R, .int .i64 A, .int .i64 Bq, .string ⟨nm.toArray⟩] 74))).gp
  have gz := (h.below ((Below.refl _ X).alloc (Nat.le_refl _) (.cells #[.int .i64 kd, .int .i64 R, .int .i64 A, .int .i64 Bq, .string ⟨nm.toArray⟩] 74))).gz 65
  obtain ⟨Y, hY⟩ : ∃ Y, X.alloc (.cells #[.int .i64 kd, .int .i64 R, .int .i64 A, .int .i64 Bq, .string ⟨nm.toArray⟩] 74) = Y := ⟨_, rfl⟩
  simp only at st
  rw [hY] at st gp gz
  obtain ⟨Z, hZ⟩ : ∃ Z, Y.setCell ⟨G, 65, none⟩ (.int .i64 ((p : Int) + 1)) = Z := ⟨_, rfl⟩
  rw [hZ] at st
  have hs3 := hir.s3 (xs := xs) (row := row) hkd
  simp only at hs3
  have HF : Hid (∀ e V, PdOut Z Rb G tv m row av ((p : Int) + 1) kd R A Bq e V → DoOut rs X Rb G tv m k p xs row av e V) := fun e V hV => by
    rcases hV with ⟨e1, rfl, e2, e3⟩ | ⟨e1, rfl, e2, e3⟩
    · rw [e1] at hs3
      exact ⟨1, row, p + 1, m, rfl, e2, st.w.trans e3, hw, Nat.le_refl _, Or.inr ⟨by decide, run14_stop hs3⟩⟩
    · rw [e1] at hs3
      refine ⟨0, _, p + 1, m, rfl, e2, st.w.trans e3, hw.set _ (doneV_bd _ _ _), Nat.le_refl _, Or.inl ⟨rfl, hir.nx (fun e => ?_) (fun e => ?_), run14_go hs3⟩⟩
      · simp only at e; omega
      · simp only at e; omega
  have HC : Hid (_) := implPairDone Z Rb G tv m row kd R A Bq nm av ((p : Int) + 1) st.r hR hA hB
  have hn := st.n
  have i0 := st.i0
  have i1 := st.i1
  have i2 := st.i2
  have i3 := st.i3
  have i4 := st.i4
  obtain ⟨N, hN⟩ : ∃ N, X.heap.size = N := ⟨_, rfl⟩
  rw [hN] at hn i0 i1 i2 i3 i4
  simp only at hn i0 i1 i2 i3 i4
  have k1 : (kd == 1) = false := beq_eq_false_iff_ne.2 (by omega)
  have k2 : (kd == 2) = false := beq_eq_false_iff_ne.2 (by omega)
  have k7 : (kd == 7) = false := beq_eq_false_iff_ne.2 (by omega)
  have k8 : (kd == 8) = false := beq_eq_false_iff_ne.2 (by omega)
  have k9 : (kd == 9) = false := beq_eq_false_iff_ne.2 (by omega)
  clear h hir hok hR hA hB st hs3 hkd
  go_enter Try.func56, Try.ntmps56
  go_wp2_with fail
  refine Calls.mono HC.out ?_
  intro e w1 hO
  have HO : Hid (_) := HF.out _ _ hO
  rcases hO with ⟨-, rfl, -, -⟩ | ⟨-, rfl, -, -⟩
  · go_wp2
    go_ret
    exact HO.out
  · go_wp2
    go_ret
    exact HO.out
end

end Go.Proofs.Ytnflkecnddbhoaa
