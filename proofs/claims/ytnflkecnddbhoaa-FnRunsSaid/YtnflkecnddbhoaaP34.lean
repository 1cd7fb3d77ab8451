/-
  Parts of one proof, one behind the other: ImgF.
-/
import Derived.Test.YtnflkecnddbhoaaP33
import Derived.Test.YtnflkecnddbhoaaP29
import Derived.Test.YtnflkecnddbhoaaP21

/-! Contracts of chapter 14's landed code: a call (running.call), by what is given with what is left of the fuel (written by gen_imgf.py). -/
namespace Go.Proofs.Ytnflkecnddbhoaa
open Go.RowKit

section
variable {op : Oper} {a : Act} {w : World} {Q : Exit → Act → World → Prop} {K : Act → World → Prop}
theorem sizeRt : (Try.prog.info? 51).map (·.size) = some 3 := by kernel_rfl
theorem wp_alloc_rt (ho : op.op = .alloc 51) (d : Nat) (hd : op.dst = some d) (h : ∀ Y g, Rb Y g 0 [.string ⟨#[]⟩, .int .i64 0, .slice none 0 0] → Below w.heap.size w Y → w.heap.size ≤ g → K (a.put (some d) (.pointer (some ⟨g, 0, none⟩))) Y) : op.wp Try.prog a w K Q := by
  unfold Oper.wp execOp
  simp only [ho, Instr.alloc, Sem.run_bind, Try.zeroValue51, Result.andThen_ok, newVar, newRow, run_newObj_alloc, Sem.run_pure, Value.cells]
  have h2 := h _ _ (Rb.new w #[.string ⟨#[]⟩, .int .i64 0, .slice none 0 0] 51) ((Below.refl _ _).alloc (Nat.le_refl _) _) (Nat.le_refl _)
  rw [← hd] at h2
  exact h2
theorem wp_store_rt (x y : Operand) (ho : op.op = .store 51 x y) (b : Nat) (n : List UInt8) (A : Int) (ca : Option Addr) (cl cc : Nat) (hx : a.eval x = .pointer (some ⟨b, 0, none⟩)) (hy : a.eval y = .agg #[.string ⟨n.toArray⟩, .int .i64 A, .slice ca cl cc]) (ht : Rb w b 0 [.string ⟨#[]⟩, .int .i64 0, .slice none 0 0])
    (h : ∀ Y, Rb Y b 0 [.string ⟨n.toArray⟩, .int .i64 A, .slice ca cl cc] → w.grownBy Y (some b) → K (a.put op.dst undef) Y) : op.wp Try.prog a w K Q := by
  refine wp_store_mid _ x y ho b 0 #[.string ⟨n.toArray⟩, .int .i64 A, .slice ca cl cc] hx hy ht.ok sizeRt (all_oneCell_toArray (by intro v hv; simp only [List.mem_cons, List.not_mem_nil, or_false] at hv; rcases hv with rfl | rfl | rfl <;> rfl)) ?_
  exact h _ (Rb.store (vs := [.string ⟨n.toArray⟩, .int .i64 A, .slice ca cl cc]) ht.ok ht.lt) (grown_setNv b _ 0 w)
end
/-- What is asked of given with this much fuel. -/
def Giv14 (B : World) (rs : List Rt) (ia : Option Addr) (ic Rb f : Nat) : Prop := ∀ (w : World) (k : Nat) (xs : List Int) (aa : Option Addr) (ac : Nat) (nm : List UInt8) (ar : Int) (ca : Option Addr) (cl cc : Nat),
  w.heap[Rb]? = some (.cells #[.slice ia rs.length ic, .int .i64 (f : Int)] 59 (0, 0)) → Below B.heap.size B w → B.heap.size ≤ Rb → k < rs.length → (xs.length : Int) = (rs.getD k rt0).2.1 → WordL xs → (∀ j, j < xs.length → ∃ b off, aa = some ⟨b, off, none⟩ ∧ b ≠ Rb ∧ b < w.heap.size ∧ w.cell? ⟨b, off + j, none⟩ = some (.int .i64 (xs.getD j 0))) →
  InsIn B ca cl (rs.getD k rt0).2.2 →
  Calls Try.prog 25 #[.pointer (some ⟨Rb, 0, none⟩), .agg #[.string ⟨nm.toArray⟩, .int .i64 ar, .slice ca cl cc], .slice aa xs.length ac] w fun e w' => e = .returned (.tuple #[.int .i64 (run14 rs f f k xs row14 0).1, .int .i64 (run14 rs f f k xs row14 0).2.1]) ∧ WroteR w w' (fun q => q = Rb) ∧ w'.heap[Rb]? = some (.cells #[.slice ia rs.length ic, .int .i64 ((run14 rs f f k xs row14 0).2.2 : Int)] 59 (0, 0))

/-- What is called lies in a block of its own. -/
structure Cl14 (X V : World) (Rn G N g7 : Nat) (tv : Value) (m : Nat) (row : List Int) (av : Value) (q : Int) (i : In13) (nm2 : List UInt8) (ar2 : Int) (cv2 : Value) : Prop where
  d : Du14 X V Rn G N tv m row av q i
  c : Rb V g7 0 [.string ⟨nm2.toArray⟩, .int .i64 ar2, cv2]
  ne : g7 ≠ Rn
section
variable {X V Y : World} {Rn G N g7 : Nat} {tv : Value} {m m2 : Nat} {row : List Int} {av : Value} {q : Int} {i : In13} {nm2 : List UInt8} {ar2 : Int} {cv2 : Value}
theorem Cl14.below (h : Cl14 X V Rn G N g7 tv m row av q i nm2 ar2 cv2) (hb : Below V.heap.size V Y) : Cl14 X Y Rn G N g7 tv m row av q i nm2 ar2 cv2 := ⟨h.d.below hb, h.c.below hb, h.ne⟩
theorem Cl14.drew (h : Cl14 X V Rn G N g7 tv m row av q i nm2 ar2 cv2) : Cl14 X V.drew Rn G N g7 tv m row av q i nm2 ar2 cv2 := h.below ⟨rfl, rfl, rfl, Nat.le_refl _, fun _ _ => rfl⟩
theorem Du14.wrote {Z : World} (h : Du14 X Z Rn G N tv m row av q i) (hw : WroteR Z Y (fun q => q = Rn)) (hb : Y.heap[Rn]? = some (.cells #[tv, .int .i64 (m2 : Int)] 59 (0, 0))) : Du14 X Y Rn G N tv m2 row av q i :=
  ⟨h.r.call hw hb, (hw.block N h.ln h.nr).trans h.n, h.nr, h.ng, h.w.trans (hw.mono (fun _ e => Or.inl e))⟩
theorem Cl14.wrote (h : Cl14 X V Rn G N g7 tv m row av q i nm2 ar2 cv2) (hw : WroteR V Y (fun q => q = Rn)) (hb : Y.heap[Rn]? = some (.cells #[tv, .int .i64 (m2 : Int)] 59 (0, 0))) : Cl14 X Y Rn G N g7 tv m2 row av q i nm2 ar2 cv2 :=
  ⟨h.d.wrote hw hb, h.c.keep (hw.block g7 h.c.lt h.ne) hw.size, h.ne⟩
theorem Cl14.cells (h : Cl14 X V Rn G N g7 tv m row av q i nm2 ar2 cv2) : V.cell? ⟨g7, 0, none⟩ = some (.string ⟨nm2.toArray⟩) ∧ V.cell? ⟨g7, 1, none⟩ = some (.int .i64 ar2) ∧ V.cell? ⟨g7, 2, none⟩ = some cv2 ∧ V.cell? ⟨N, 1, none⟩ = some (.int .i64 i.2.1) ∧ V.cell? ⟨N, 2, none⟩ = some (.int .i64 i.2.2.1) :=
  ⟨h.c.cell 0 _ rfl, h.c.cell 1 _ rfl, h.c.cell 2 _ rfl, h.d.i1, h.d.i2⟩
end

section
variable (B : World) (rs : List Rt) (ia : Option Addr) (ic : Nat) (X : World) (Rn G : Nat) (m k p : Nat) (row : List Int) (R A Bq : Int) (nm : List UInt8)
set_option maxHeartbeats 16000000 in
set_option maxRecDepth 100000 in
theorem implCall14 (av : Value) (hin : RtsCap B ia rs.length ic rs) (hp : imageB rs = true) (hBX : Below B.heap.size B X) (hBR : B.heap.size ≤ Rn) (ih : Giv14 B rs ia ic Rn m) (q : Int)
    (h : Rq14 X Rn G (.slice ia rs.length ic) (m : Int) row av q) (hir : Ir14 rs k p (9, R, A, Bq, nm)) (hw : WordL row) :
    Calls Try.prog 76 #[.pointer (some ⟨Rn, 0, none⟩), .pointer (some ⟨G, 0, none⟩), .agg #[.int .i64 9, .int .i64 R, .int .i64 A, .int .i64 Bq, .string ⟨nm.toArray⟩]] X fun e w' =>
      e = .returned (.int .i64 (run14 rs m m (at14 rs nm).toNat ((row.drop R.toNat).take A.toNat) row14 0).2.1) ∧
      Rq14 w' Rn G (.slice ia rs.length ic) ((run14 rs m m (at14 rs nm).toNat ((row.drop R.toNat).take A.toNat) row14 0).2.2 : Int) (row.set R.toNat (run14 rs m m (at14 rs nm).toNat ((row.drop R.toNat).take A.toNat) row14 0).1) av q ∧ WroteR X w' (fun q => q = Rn ∨ q = G) := by
  have hok := hir.ok.2.2
  simp only at hok
  have hR : 0 ≤ R ∧ R < 64 := by omega
  have hA : 0 ≤ A ∧ A ≤ 3 := by omega
  have hRA : R + A ≤ 64 := by omega
  obtain ⟨hc0, hc1, hc2⟩ := hir.ca rfl
  simp only at hc0 hc1 hc2
  obtain ⟨k2, hk2⟩ : ∃ k2 : Nat, at14 rs nm = (k2 : Int) := ⟨(at14 rs nm).toNat, by omega⟩
  rw [hk2] at hc0 hc1 hc2 ⊢
  rw [Int.toNat_natCast] at hc2 ⊢
  have hkl : k2 < rs.length := by omega
  have hn64 : rs.length ≤ 64 := (of_decide_eq_true hp).2.2
  obtain ⟨b, off, rfl, hbl, q0, q1, ca, cl, cc, q2, hins, hcc, hcm⟩ := hin.2.2.2 k2 hkl
  have hbB : Below X.heap.size X (X.alloc (.cells #[.int .i64 9, .int .i64 R, .int .i64 A, .int .i64 Bq, .string ⟨nm.toArray⟩] 74)) := (Below.refl _ _).alloc (Nat.le_refl _) _
  have hAl := heap_alloc_new X (.cells #[.int .i64 9, .int .i64 R, .int .i64 A, .int .i64 Bq, .string ⟨nm.toArray⟩] 74)
  have hlr := h.lr
  have hlg := h.lg
  obtain ⟨Z, hZ⟩ : ∃ Z, X.alloc (.cells #[.int .i64 9, .int .i64 R, .int .i64 A, .int .i64 Bq, .string ⟨nm.toArray⟩] 74) = Z := ⟨_, rfl⟩
  rw [hZ] at hbB hAl
  have hBZ : Below B.heap.size B Z := hBX.trans (hbB.mono hBX.size)
  have HNm : Hid (∀ V, Below Z.heap.size Z V → Calls Try.prog 23 #[.slice (some ⟨b, off, none⟩) rs.length ic, .string ⟨nm.toArray⟩] V fun e w' => e = .returned (.tuple #[.agg #[.string ⟨(rs.getD k2 rt0).1.toArray⟩, .int .i64 (rs.getD k2 rt0).2.1, .slice ca cl cc], .bool true]) ∧ Below V.heap.size V w') := fun V hZV => by
    have hV : Below B.heap.size B V := hBZ.trans (hZV.mono hBZ.size)
    refine Calls.mono (implNamed (some ⟨b, off, none⟩) ic rs nm V (hin.below hV) (image_rise hp) (by omega)) ?_
    rintro e w' ⟨hO, hb⟩
    rcases hO with ⟨e1, _⟩ | ⟨i, b2, off2, ca2, cl2, cc2, _, e1, e2, e3, _, _, _, rfl⟩
    · rw [hk2] at e1; omega
    · rw [hk2] at e1
      obtain rfl : k2 = i := by omega
      injection e2 with e2
      injection e2 with e4 e5 _
      subst e4 e5
      rw [hV.cell (p := ⟨b, off + k2 * 3 + 2, none⟩) hbl, q2] at e3
      injection e3 with e3
      injection e3 with e6 e7 e8
      subst e6 e7 e8
      exact ⟨rfl, hb⟩
  obtain ⟨ys, hys⟩ : ∃ ys, (row.drop R.toNat).take A.toNat = ys := ⟨_, rfl⟩
  rw [hys]
  have hyl : ys.length = A.toNat := by rw [← hys, List.length_take, List.length_drop, h.ln]; omega
  have hyw : WordL ys := fun x hx => by rw [← hys] at hx; exact hw x (List.mem_of_mem_drop (List.mem_of_mem_take hx))
  have HGv : Hid (∀ (w : World) (aa : Option Addr) (ac : Nat) (nm' : List UInt8) (ar' : Int), w.heap[Rn]? = some (.cells #[.slice (some ⟨b, off, none⟩) rs.length ic, .int .i64 (m : Int)] 59 (0, 0)) → Below Z.heap.size Z w → (∀ j, j < A.toNat → ∃ b off, aa = some ⟨b, off, none⟩ ∧ b ≠ Rn ∧ b < w.heap.size ∧ w.cell? ⟨b, off + j, none⟩ = some (.int .i64 (ys.getD j 0))) →
      Calls Try.prog 25 #[.pointer (some ⟨Rn, 0, none⟩), .agg #[.string ⟨nm'.toArray⟩, .int .i64 ar', .slice ca cl cc], .slice aa A.toNat ac] w fun e w' => e = .returned (.tuple #[.int .i64 (run14 rs m m k2 ys row14 0).1, .int .i64 (run14 rs m m k2 ys row14 0).2.1]) ∧ WroteR w w' (fun q => q = Rn) ∧ w'.heap[Rn]? = some (.cells #[.slice (some ⟨b, off, none⟩) rs.length ic, .int .i64 ((run14 rs m m k2 ys row14 0).2.2 : Int)] 59 (0, 0))) := fun w aa ac nm' ar' h1 h2 h3 => by
    have := ih w k2 ys aa ac nm' ar' ca cl cc h1 (hBZ.trans (h2.mono hBZ.size)) hBR hkl (by rw [hyl, hc2]; omega) hyw (by rw [hyl]; exact h3) hins
    rw [hyl] at this
    exact this
  have st : Du14 X Z Rn G X.heap.size (.slice (some ⟨b, off, none⟩) rs.length ic) m row av q (9, R, A, Bq, nm) := ⟨h.below hbB, hAl, by omega, by omega, WroteR.of_below hbB⟩
  obtain ⟨N, hN⟩ : ∃ N, X.heap.size = N := ⟨_, rfl⟩
  rw [hN] at st
  obtain ⟨nr, hnr⟩ : ∃ nr, rs.length = nr := ⟨_, rfl⟩
  rw [hnr] at st HNm HGv ⊢
  have HFr : Hid (∀ V, Du14 X V Rn G N (.slice (some ⟨b, off, none⟩) nr ic) m row av q (9, R, A, Bq, nm) → Calls Try.prog 93 #[.pointer (some ⟨G, 0, none⟩), .int .i64 R, .int .i64 A] V fun e w' => ∃ a' c', e = .returned (.slice a' A.toNat c') ∧ (∀ j, j < A.toNat → ∃ b' off', a' = some ⟨b', off', none⟩ ∧ b' ≠ Rn ∧ b' < w'.heap.size ∧ w'.cell? ⟨b', off' + j, none⟩ = some (.int .i64 (ys.getD j 0))) ∧ Below V.heap.size V w') := fun V hV => by
    have hf := implFrom V Rn G _ _ row av q hV.r R A ⟨by omega, by omega, by omega⟩ (by omega)
    rw [hys] at hf
    refine hf.mono ?_
    rintro e w' ⟨a', c', rfl, h1, h2⟩
    have hlV := hV.r.lr
    refine ⟨a', c', rfl, fun j hj => ?_, h2⟩
    obtain ⟨b', off', e1, e2, e3, e4⟩ := h1 j hj
    exact ⟨b', off', e1, by omega, e3, e4⟩
  generalize (rs.getD k2 rt0).1 = nm2 at HNm
  generalize (rs.getD k2 rt0).2.1 = ar2 at HNm hc2
  obtain ⟨RR, hRR⟩ : ∃ RR, run14 rs m m k2 ys row14 0 = RR := ⟨_, rfl⟩
  rw [hRR] at HGv ⊢
  obtain ⟨v2, c2, m2⟩ := RR
  simp only at HGv ⊢
  have HG : Hid (∀ V, Below Z.heap.size Z V → V.cell? ⟨Rn, 0, none⟩ = some (.slice (some ⟨b, off, none⟩) nr ic) ∧ V.cell? ⟨N, 4, none⟩ = some (.string ⟨nm.toArray⟩)) := fun V hV => ⟨(st.below hV).r.c0, (st.below hV).i4⟩
  have HHo : Hid (∀ V, Du14 X V Rn G N (.slice (some ⟨b, off, none⟩) nr ic) m2 row av q (9, R, A, Bq, nm) → Calls Try.prog 75 #[.pointer (some ⟨G, 0, none⟩), .int .i64 R, .int .i64 v2] V fun e w' => e = .returned (.tuple #[]) ∧ w' = V.setCell ⟨G, R.toNat, none⟩ (.int .i64 v2)) := fun V hV => implHold V G R v2 _ hR (hV.r.gc _ (by omega)) (hV.r.gz _)
  have HHd : Hid (∀ V, Du14 X V Rn G N (.slice (some ⟨b, off, none⟩) nr ic) m2 row av q (9, R, A, Bq, nm) → Du14 X (V.setCell ⟨G, R.toNat, none⟩ (.int .i64 v2)) Rn G N (.slice (some ⟨b, off, none⟩) nr ic) m2 (row.set R.toNat v2) av q (9, R, A, Bq, nm)) := fun V hV => hV.hold _ (by omega) _
  have hlz := st.r.lr
  have hlN := st.ln
  have HSt : Hid (Du14 X Z Rn G N (.slice (some ⟨b, off, none⟩) nr ic) m row av q (9, R, A, Bq, nm)) := st
  clear hin hp hBX hBR ih h hir hw hok hR hA hRA hc0 hc1 hc2 hk2 hkl hn64 hbl q0 q1 q2 hins hcc hcm hbB hAl hlr hlg hBZ hys hyl hyw st hRR hnr
  go_enter Try.func76, Try.ntmps76
  go_wp2_with fail
  refine wp_region_held_drew (S := fun V => Below Z.heap.size Z V) (by kernel_rfl) ⟨rfl, rfl, rfl, Nat.le_refl _, fun _ _ => rfl⟩ (fun hHeld => ?_)
  refine wpAnyH_take (i := 0) (oi := ⟨some 12, _, _, _, _, _⟩) (v := ?v1) rfl (by kernel_rfl) (by kernel_rfl) (by kernel_rfl) (fun _ _ _ h => h) (Or.inl ⟨by rfl, ?hy1⟩) (by assumption) ?rest1
  case hy1 => (intro wq hSw; have e0 := (HG.out wq hSw).1; have e1 := (HG.out wq hSw).2; clear hSw; first | (go_simp; done) | (go_simp; with_reducible rfl))
  simp only [Act.put, List.setIfInBounds_toArray, List.set_cons_zero, List.set_cons_succ]
  refine wpAnyH_take (i := 1) (oi := ⟨some 13, _, _, _, _, _⟩) (v := ?v2) rfl (by kernel_rfl) (by kernel_rfl) (by kernel_rfl) (fun _ _ _ h => h) (Or.inl ⟨by rfl, ?hy2⟩) (by assumption) ?rest2
  case hy2 => (intro wq hSw; have e0 := (HG.out wq hSw).1; have e1 := (HG.out wq hSw).2; clear hSw; first | (go_simp; done) | (go_simp; with_reducible rfl))
  simp only [Act.put, List.setIfInBounds_toArray, List.set_cons_zero, List.set_cons_succ]
  refine wpAnyH_take (i := 2) (oi := ⟨some 14, _, _, _, _, _⟩) (v := ?v3) rfl (by kernel_rfl) (by kernel_rfl) (by kernel_rfl) (fun _ _ _ h => h) (Or.inl ⟨by rfl, ?hy3⟩) (by assumption) ?rest3
  case hy3 => (intro wq hSw; have e0 := (HG.out wq hSw).1; have e1 := (HG.out wq hSw).2; clear hSw; first | (go_simp; done) | (go_simp; with_reducible rfl))
  simp only [Act.put, List.setIfInBounds_toArray, List.set_cons_zero, List.set_cons_succ]
  refine wpAnyH_take (i := 3) (oi := ⟨some 15, _, _, _, _, _⟩) (v := ?v4) rfl (by kernel_rfl) (by kernel_rfl) (by kernel_rfl) (fun _ _ _ h => h) (Or.inl ⟨by rfl, ?hy4⟩) (by assumption) ?rest4
  case hy4 => (intro wq hSw; have e0 := (HG.out wq hSw).1; have e1 := (HG.out wq hSw).2; clear hSw; first | (go_simp; done) | (go_simp; with_reducible rfl))
  simp only [Act.put, List.setIfInBounds_toArray, List.set_cons_zero, List.set_cons_succ]
  refine wpAnyH_take (i := 4) (oi := ⟨some 16, _, _, _, _, _⟩) (v := ?v5) rfl (by kernel_rfl) (by kernel_rfl) (by kernel_rfl) (fun _ _ _ h => h) (Or.inl ⟨by rfl, ?hy5⟩) (by assumption) ?rest5
  case hy5 => (intro wq hSw; have e0 := (HG.out wq hSw).1; have e1 := (HG.out wq hSw).2; clear hSw; first | (go_simp; done) | (go_simp; with_reducible rfl))
  simp only [Act.put, List.setIfInBounds_toArray, List.set_cons_zero, List.set_cons_succ]
  refine wpAnyH_take (i := 5) (oi := ⟨some 17, _, _, _, _, _⟩) (v := ?v6) rfl (by kernel_rfl) (by kernel_rfl) (by kernel_rfl) (fun _ _ _ h => h) (Or.inl ⟨by rfl, ?hy6⟩) (by assumption) ?rest6
  case hy6 => (intro wq hSw; have e0 := (HG.out wq hSw).1; have e1 := (HG.out wq hSw).2; clear hSw; first | (go_simp; done) | (go_simp; with_reducible rfl))
  simp only [Act.put, List.setIfInBounds_toArray, List.set_cons_zero, List.set_cons_succ]
  refine wpAnyH_ready (rs := [6, 10]) (by kernel_rfl) (by simp) ?_
  refine AllReadyH.cons rfl (fun K hK => ?_) (AllReadyH.cons rfl (fun K hK => ?_) AllReadyH.nil)
  ·
    go_simp
    refine Calls.mono (HNm.out _ hHeld) ?_
    rintro e W1 ⟨rfl, hb1⟩
    dsimp only
    refine hK.out _ _ (by exact hHeld.trans (hb1.mono hHeld.size)) (fun hHeld => ?_)
    clear hK K
    (try simp only [Act.put, List.setIfInBounds_toArray, List.set_cons_zero, List.set_cons_succ])
    refine wpAnyH_take (i := 7) (oi := ⟨some 11, _, _, _, _, _⟩) (v := ?v7) rfl (by kernel_rfl) (by kernel_rfl) (by kernel_rfl) (fun _ _ _ h => h) (Or.inl ⟨by rfl, ?hy7⟩) (by assumption) ?rest7
    case hy7 => (intro wq hSw; clear hSw; first | (go_simp; done) | (go_simp; with_reducible rfl))
    simp only [Act.put, List.setIfInBounds_toArray, List.set_cons_zero, List.set_cons_succ]
    refine wpAnyH_take (i := 8) (oi := ⟨some 19, _, _, _, _, _⟩) (v := ?v8) rfl (by kernel_rfl) (by kernel_rfl) (by kernel_rfl) (fun _ _ _ h => h) (Or.inl ⟨by rfl, ?hy8⟩) (by assumption) ?rest8
    case hy8 => (intro wq hSw; clear hSw; first | (go_simp; done) | (go_simp; with_reducible rfl))
    simp only [Act.put, List.setIfInBounds_toArray, List.set_cons_zero, List.set_cons_succ]
    refine wpAnyH_take (i := 9) (oi := ⟨some 20, _, _, _, _, _⟩) (v := ?v9) rfl (by kernel_rfl) (by kernel_rfl) (by kernel_rfl) (fun _ _ _ h => h) (Or.inl ⟨by rfl, ?hy9⟩) (by assumption) ?rest9
    case hy9 => (intro wq hSw; clear hSw; first | (go_simp; done) | (go_simp; with_reducible rfl))
    simp only [Act.put, List.setIfInBounds_toArray, List.set_cons_zero, List.set_cons_succ]
    refine wpAnyH_ready (rs := [10]) (by kernel_rfl) (by simp) ?_
    refine AllReadyH.cons rfl (fun K hK => ?_) AllReadyH.nil
    refine step_of_wp rfl (wp_alloc_rt rfl 7 rfl (fun Y2 gn hR2 hB2 hG2 => ?_))
    have hlo : Z.heap.size ≤ gn := Nat.le_trans hHeld.size hG2
    refine hK.out _ _ (by exact hHeld.trans (hB2.mono hHeld.size)) (fun hHeld => ?_)
    clear hK K
    (try simp only [Act.put, List.setIfInBounds_toArray, List.set_cons_zero, List.set_cons_succ])
    refine wpAnyH_ready (rs := [11]) (by kernel_rfl) (by simp) ?_
    refine AllReadyH.cons rfl (fun K hK => ?_) AllReadyH.nil
    refine step_of_wp rfl (wp_store_rt _ _ rfl gn nm2 ar2 ca cl cc rfl rfl hR2 (fun Y3 hR3 hG3 => ?_))
    refine hK.out _ _ (by exact hHeld.grown hG3 hHeld.size (fun q e => by injection e with e; omega)) (fun hHeld => ?_)
    clear hK K
    (try simp only [Act.put])
    refine wpAnyH_take (i := 12) (oi := ⟨some 8, _, _, _, _, _⟩) (v := ?v10) rfl (by kernel_rfl) (by kernel_rfl) (by kernel_rfl) (fun _ _ _ h => h) (Or.inl ⟨by rfl, ?hy10⟩) (by assumption) ?rest10
    case hy10 => (intro wq hSw; clear hSw; first | (go_simp; done) | (go_simp; with_reducible rfl))
    simp only [Act.put, List.setIfInBounds_toArray]
    have ct : Hid (Cl14 X Y3 Rn G N gn (.slice (some ⟨b, off, none⟩) nr ic) m row av q (9, R, A, Bq, nm) nm2 ar2 (.slice ca cl cc)) := ⟨HSt.out.below hHeld, hR3, by omega⟩
    have HBl : Hid (Below Z.heap.size Z Y3) := hHeld
    refine wpAnyH_done (by kernel_rfl) ?_ _
    clear hHeld hR2 hR3 hG3 hB2 hG2 hb1 hlo HNm HG HSt
    go_wp2_with fail
    refine wp_region_held_drew (S := fun V => V.cell? ⟨gn, 0, none⟩ = some (.string ⟨nm2.toArray⟩) ∧ V.cell? ⟨gn, 1, none⟩ = some (.int .i64 ar2) ∧ V.cell? ⟨gn, 2, none⟩ = some (.slice ca cl cc) ∧ V.cell? ⟨N, 1, none⟩ = some (.int .i64 R) ∧ V.cell? ⟨N, 2, none⟩ = some (.int .i64 A)) (by kernel_rfl) ct.out.drew.cells (fun hHeld => ?_)
    refine wpAnyH_take (i := 0) (oi := ⟨some 22, _, _, _, _, _⟩) (v := ?v11) rfl (by kernel_rfl) (by kernel_rfl) (by kernel_rfl) (fun _ _ _ h => h) (Or.inl ⟨by rfl, ?hy11⟩) (by assumption) ?rest11
    case hy11 => (intro wq hSw; have e0 := hSw.1; have e1 := hSw.2.1; have e2 := hSw.2.2.1; have e3 := hSw.2.2.2.1; have e4 := hSw.2.2.2.2; clear hSw; first | (go_simp; done) | (go_simp; with_reducible rfl))
    simp only [Act.put, List.setIfInBounds_toArray, List.set_cons_zero, List.set_cons_succ]
    refine wpAnyH_take (i := 1) (oi := ⟨some 23, _, _, _, _, _⟩) (v := ?v12) rfl (by kernel_rfl) (by kernel_rfl) (by kernel_rfl) (fun _ _ _ h => h) (Or.inl ⟨by rfl, ?hy12⟩) (by assumption) ?rest12
    case hy12 => (intro wq hSw; have e0 := hSw.1; have e1 := hSw.2.1; have e2 := hSw.2.2.1; have e3 := hSw.2.2.2.1; have e4 := hSw.2.2.2.2; clear hSw; first | (go_simp; done) | (go_simp; with_reducible rfl))
    simp only [Act.put, List.setIfInBounds_toArray, List.set_cons_zero, List.set_cons_succ]
    refine wpAnyH_take (i := 2) (oi := ⟨some 24, _, _, _, _, _⟩) (v := ?v13) rfl (by kernel_rfl) (by kernel_rfl) (by kernel_rfl) (fun _ _ _ h => h) (Or.inl ⟨by rfl, ?hy13⟩) (by assumption) ?rest13
    case hy13 => (intro wq hSw; have e0 := hSw.1; have e1 := hSw.2.1; have e2 := hSw.2.2.1; have e3 := hSw.2.2.2.1; have e4 := hSw.2.2.2.2; clear hSw; first | (go_simp; done) | (go_simp; with_reducible rfl))
    simp only [Act.put, List.setIfInBounds_toArray, List.set_cons_zero, List.set_cons_succ]
    refine wpAnyH_take (i := 3) (oi := ⟨some 25, _, _, _, _, _⟩) (v := ?v14) rfl (by kernel_rfl) (by kernel_rfl) (by kernel_rfl) (fun _ _ _ h => h) (Or.inl ⟨by rfl, ?hy14⟩) (by assumption) ?rest14
    case hy14 => (intro wq hSw; have e0 := hSw.1; have e1 := hSw.2.1; have e2 := hSw.2.2.1; have e3 := hSw.2.2.2.1; have e4 := hSw.2.2.2.2; clear hSw; first | (go_simp; done) | (go_simp; with_reducible rfl))
    simp only [Act.put, List.setIfInBounds_toArray, List.set_cons_zero, List.set_cons_succ]
    refine wpAnyH_take (i := 4) (oi := ⟨some 26, _, _, _, _, _⟩) (v := ?v15) rfl (by kernel_rfl) (by kernel_rfl) (by kernel_rfl) (fun _ _ _ h => h) (Or.inl ⟨by rfl, ?hy15⟩) (by assumption) ?rest15
    case hy15 => (intro wq hSw; have e0 := hSw.1; have e1 := hSw.2.1; have e2 := hSw.2.2.1; have e3 := hSw.2.2.2.1; have e4 := hSw.2.2.2.2; clear hSw; first | (go_simp; done) | (go_simp; with_reducible rfl))
    simp only [Act.put, List.setIfInBounds_toArray, List.set_cons_zero, List.set_cons_succ]
    refine wpAnyH_take (i := 5) (oi := ⟨some 27, _, _, _, _, _⟩) (v := ?v16) rfl (by kernel_rfl) (by kernel_rfl) (by kernel_rfl) (fun _ _ _ h => h) (Or.inl ⟨by rfl, ?hy16⟩) (by assumption) ?rest16
    case hy16 => (intro wq hSw; have e0 := hSw.1; have e1 := hSw.2.1; have e2 := hSw.2.2.1; have e3 := hSw.2.2.2.1; have e4 := hSw.2.2.2.2; clear hSw; first | (go_simp; done) | (go_simp; with_reducible rfl))
    simp only [Act.put, List.setIfInBounds_toArray, List.set_cons_zero, List.set_cons_succ]
    refine wpAnyH_take (i := 6) (oi := ⟨some 28, _, _, _, _, _⟩) (v := ?v17) rfl (by kernel_rfl) (by kernel_rfl) (by kernel_rfl) (fun _ _ _ h => h) (Or.inl ⟨by rfl, ?hy17⟩) (by assumption) ?rest17
    case hy17 => (intro wq hSw; have e0 := hSw.1; have e1 := hSw.2.1; have e2 := hSw.2.2.1; have e3 := hSw.2.2.2.1; have e4 := hSw.2.2.2.2; clear hSw; first | (go_simp; done) | (go_simp; with_reducible rfl))
    simp only [Act.put, List.setIfInBounds_toArray, List.set_cons_zero, List.set_cons_succ]
    refine wpAnyH_take (i := 7) (oi := ⟨some 29, _, _, _, _, _⟩) (v := ?v18) rfl (by kernel_rfl) (by kernel_rfl) (by kernel_rfl) (fun _ _ _ h => h) (Or.inl ⟨by rfl, ?hy18⟩) (by assumption) ?rest18
    case hy18 => (intro wq hSw; have e0 := hSw.1; have e1 := hSw.2.1; have e2 := hSw.2.2.1; have e3 := hSw.2.2.2.1; have e4 := hSw.2.2.2.2; clear hSw; first | (go_simp; done) | (go_simp; with_reducible rfl))
    simp only [Act.put, List.setIfInBounds_toArray, List.set_cons_zero, List.set_cons_succ]
    refine wpAnyH_take (i := 8) (oi := ⟨some 30, _, _, _, _, _⟩) (v := ?v19) rfl (by kernel_rfl) (by kernel_rfl) (by kernel_rfl) (fun _ _ _ h => h) (Or.inl ⟨by rfl, ?hy19⟩) (by assumption) ?rest19
    case hy19 => (intro wq hSw; have e0 := hSw.1; have e1 := hSw.2.1; have e2 := hSw.2.2.1; have e3 := hSw.2.2.2.1; have e4 := hSw.2.2.2.2; clear hSw; first | (go_simp; done) | (go_simp; with_reducible rfl))
    simp only [Act.put, List.setIfInBounds_toArray, List.set_cons_zero, List.set_cons_succ]
    refine wpAnyH_ready (rs := [9]) (by kernel_rfl) (by simp) ?_
    refine AllReadyH.cons rfl (fun K hK => ?_) AllReadyH.nil
    go_simp
    refine Calls.mono (HFr.out _ ct.out.drew.d) ?_
    rintro e W5 ⟨a', c', rfl, hAs, hb5⟩
    dsimp only
    have ct5 : Hid (_) := ct.out.drew.below hb5
    have HB5 : Hid (Below Z.heap.size Z W5) := HBl.out.trans (Below.mono ⟨hb5.os, hb5.tape, hb5.output, hb5.size, hb5.block⟩ HBl.out.size)
    refine hK.out _ _ (by exact ct5.out.cells) (fun hHeld => ?_)
    clear hK K
    (try simp only [Act.put, List.setIfInBounds_toArray, List.set_cons_zero, List.set_cons_succ])
    refine wpAnyH_ready (rs := [10]) (by kernel_rfl) (by simp) ?_
    refine AllReadyH.cons rfl (fun K hK => ?_) AllReadyH.nil
    go_simp
    refine Calls.mono (HGv.out _ a' c' nm2 ar2 ct5.out.d.r.rb HB5.out hAs) ?_
    rintro e W6 ⟨rfl, hw6, hb6⟩
    dsimp only
    have ct6 : Hid (_) := ct5.out.wrote hw6 hb6
    refine hK.out _ _ (by exact ct6.out.cells) (fun hHeld => ?_)
    clear hK K
    (try simp only [Act.put, List.setIfInBounds_toArray, List.set_cons_zero, List.set_cons_succ])
    refine wpAnyH_take (i := 11) (oi := ⟨some 21, _, _, _, _, _⟩) (v := ?v20) rfl (by kernel_rfl) (by kernel_rfl) (by kernel_rfl) (fun _ _ _ h => h) (Or.inl ⟨by rfl, ?hy20⟩) (by assumption) ?rest20
    case hy20 => (intro wq hSw; clear hSw; first | (go_simp; done) | (go_simp; with_reducible rfl))
    simp only [Act.put, List.setIfInBounds_toArray, List.set_cons_zero, List.set_cons_succ]
    refine wpAnyH_take (i := 12) (oi := ⟨some 33, _, _, _, _, _⟩) (v := ?v21) rfl (by kernel_rfl) (by kernel_rfl) (by kernel_rfl) (fun _ _ _ h => h) (Or.inl ⟨by rfl, ?hy21⟩) (by assumption) ?rest21
    case hy21 => (intro wq hSw; clear hSw; first | (go_simp; done) | (go_simp; with_reducible rfl))
    simp only [Act.put, List.setIfInBounds_toArray, List.set_cons_zero, List.set_cons_succ]
    refine wpAnyH_take (i := 13) (oi := ⟨some 34, _, _, _, _, _⟩) (v := ?v22) rfl (by kernel_rfl) (by kernel_rfl) (by kernel_rfl) (fun _ _ _ h => h) (Or.inl ⟨by rfl, ?hy22⟩) (by assumption) ?rest22
    case hy22 => (intro wq hSw; clear hSw; first | (go_simp; done) | (go_simp; with_reducible rfl))
    simp only [Act.put, List.setIfInBounds_toArray, List.set_cons_zero, List.set_cons_succ]
    refine wpAnyH_take (i := 14) (oi := ⟨some 9, _, _, _, _, _⟩) (v := ?v23) rfl (by kernel_rfl) (by kernel_rfl) (by kernel_rfl) (fun _ _ _ h => h) (Or.inl ⟨by rfl, ?hy23⟩) (by assumption) ?rest23
    case hy23 => (intro wq hSw; clear hSw; first | (go_simp; done) | (go_simp; with_reducible rfl))
    simp only [Act.put, List.setIfInBounds_toArray, List.set_cons_zero, List.set_cons_succ]
    refine wpAnyH_take (i := 15) (oi := ⟨some 10, _, _, _, _, _⟩) (v := ?v24) rfl (by kernel_rfl) (by kernel_rfl) (by kernel_rfl) (fun _ _ _ h => h) (Or.inl ⟨by rfl, ?hy24⟩) (by assumption) ?rest24
    case hy24 => (intro wq hSw; clear hSw; first | (go_simp; done) | (go_simp; with_reducible rfl))
    simp only [Act.put, List.setIfInBounds_toArray, List.set_cons_zero, List.set_cons_succ]
    refine wpAnyH_done (by kernel_rfl) ?_ _
    have HD6 : Hid (_) := ct6.out.d
    have i1 := HD6.out.drew.i1
    simp only at i1
    clear hHeld hAs hb5 hw6 hb6 ct ct5 ct6 HB5 HBl HGv HFr
    go_wp2_with fail
    go_region_with (go_at_call 75; refine (HHo.out _ HD6.out.drew).mono ?_; rintro e w1 ⟨rfl, rfl⟩)
    all_goals
      go_wp2
      go_ret
      exact ⟨rfl, (HHd.out _ HD6.out.drew).r, (HHd.out _ HD6.out.drew).w⟩
  ·
    refine step_of_wp rfl (wp_alloc_rt rfl 7 rfl (fun Y2 gn hR2 hB2 hG2 => ?_))
    have hlo : Z.heap.size ≤ gn := Nat.le_trans hHeld.size hG2
    refine hK.out _ _ (by exact hHeld.trans (hB2.mono hHeld.size)) (fun hHeld => ?_)
    clear hK K
    (try simp only [Act.put, List.setIfInBounds_toArray, List.set_cons_zero, List.set_cons_succ])
    refine wpAnyH_ready (rs := [6]) (by kernel_rfl) (by simp) ?_
    refine AllReadyH.cons rfl (fun K hK => ?_) AllReadyH.nil
    go_simp
    refine Calls.mono (HNm.out _ hHeld) ?_
    rintro e W1 ⟨rfl, hb1⟩
    dsimp only
    replace hR2 := hR2.below hb1
    refine hK.out _ _ (by exact hHeld.trans (hb1.mono hHeld.size)) (fun hHeld => ?_)
    clear hK K
    (try simp only [Act.put, List.setIfInBounds_toArray, List.set_cons_zero, List.set_cons_succ])
    refine wpAnyH_take (i := 7) (oi := ⟨some 11, _, _, _, _, _⟩) (v := ?v25) rfl (by kernel_rfl) (by kernel_rfl) (by kernel_rfl) (fun _ _ _ h => h) (Or.inl ⟨by rfl, ?hy25⟩) (by assumption) ?rest25
    case hy25 => (intro wq hSw; clear hSw; first | (go_simp; done) | (go_simp; with_reducible rfl))
    simp only [Act.put, List.setIfInBounds_toArray, List.set_cons_zero, List.set_cons_succ]
    refine wpAnyH_take (i := 8) (oi := ⟨some 19, _, _, _, _, _⟩) (v := ?v26) rfl (by kernel_rfl) (by kernel_rfl) (by kernel_rfl) (fun _ _ _ h => h) (Or.inl ⟨by rfl, ?hy26⟩) (by assumption) ?rest26
    case hy26 => (intro wq hSw; clear hSw; first | (go_simp; done) | (go_simp; with_reducible rfl))
    simp only [Act.put, List.setIfInBounds_toArray, List.set_cons_zero, List.set_cons_succ]
    refine wpAnyH_take (i := 9) (oi := ⟨some 20, _, _, _, _, _⟩) (v := ?v27) rfl (by kernel_rfl) (by kernel_rfl) (by kernel_rfl) (fun _ _ _ h => h) (Or.inl ⟨by rfl, ?hy27⟩) (by assumption) ?rest27
    case hy27 => (intro wq hSw; clear hSw; first | (go_simp; done) | (go_simp; with_reducible rfl))
    simp only [Act.put, List.setIfInBounds_toArray, List.set_cons_zero, List.set_cons_succ]
    refine wpAnyH_ready (rs := [11]) (by kernel_rfl) (by simp) ?_
    refine AllReadyH.cons rfl (fun K hK => ?_) AllReadyH.nil
    refine step_of_wp rfl (wp_store_rt _ _ rfl gn nm2 ar2 ca cl cc rfl rfl hR2 (fun Y3 hR3 hG3 => ?_))
    refine hK.out _ _ (by exact hHeld.grown hG3 hHeld.size (fun q e => by injection e with e; omega)) (fun hHeld => ?_)
    clear hK K
    (try simp only [Act.put])
    refine wpAnyH_take (i := 12) (oi := ⟨some 8, _, _, _, _, _⟩) (v := ?v28) rfl (by kernel_rfl) (by kernel_rfl) (by kernel_rfl) (fun _ _ _ h => h) (Or.inl ⟨by rfl, ?hy28⟩) (by assumption) ?rest28
    case hy28 => (intro wq hSw; clear hSw; first | (go_simp; done) | (go_simp; with_reducible rfl))
    simp only [Act.put, List.setIfInBounds_toArray]
    have ct : Hid (Cl14 X Y3 Rn G N gn (.slice (some ⟨b, off, none⟩) nr ic) m row av q (9, R, A, Bq, nm) nm2 ar2 (.slice ca cl cc)) := ⟨HSt.out.below hHeld, hR3, by omega⟩
    have HBl : Hid (Below Z.heap.size Z Y3) := hHeld
    refine wpAnyH_done (by kernel_rfl) ?_ _
    clear hHeld hR2 hR3 hG3 hB2 hG2 hb1 hlo HNm HG HSt
    go_wp2_with fail
    refine wp_region_held_drew (S := fun V => V.cell? ⟨gn, 0, none⟩ = some (.string ⟨nm2.toArray⟩) ∧ V.cell? ⟨gn, 1, none⟩ = some (.int .i64 ar2) ∧ V.cell? ⟨gn, 2, none⟩ = some (.slice ca cl cc) ∧ V.cell? ⟨N, 1, none⟩ = some (.int .i64 R) ∧ V.cell? ⟨N, 2, none⟩ = some (.int .i64 A)) (by kernel_rfl) ct.out.drew.cells (fun hHeld => ?_)
    refine wpAnyH_take (i := 0) (oi := ⟨some 22, _, _, _, _, _⟩) (v := ?v29) rfl (by kernel_rfl) (by kernel_rfl) (by kernel_rfl) (fun _ _ _ h => h) (Or.inl ⟨by rfl, ?hy29⟩) (by assumption) ?rest29
    case hy29 => (intro wq hSw; have e0 := hSw.1; have e1 := hSw.2.1; have e2 := hSw.2.2.1; have e3 := hSw.2.2.2.1; have e4 := hSw.2.2.2.2; clear hSw; first | (go_simp; done) | (go_simp; with_reducible rfl))
    simp only [Act.put, List.setIfInBounds_toArray, List.set_cons_zero, List.set_cons_succ]
    refine wpAnyH_take (i := 1) (oi := ⟨some 23, _, _, _, _, _⟩) (v := ?v30) rfl (by kernel_rfl) (by kernel_rfl) (by kernel_rfl) (fun _ _ _ h => h) (Or.inl ⟨by rfl, ?hy30⟩) (by assumption) ?rest30
    case hy30 => (intro wq hSw; have e0 := hSw.1; have e1 := hSw.2.1; have e2 := hSw.2.2.1; have e3 := hSw.2.2.2.1; have e4 := hSw.2.2.2.2; clear hSw; first | (go_simp; done) | (go_simp; with_reducible rfl))
    simp only [Act.put, List.setIfInBounds_toArray, List.set_cons_zero, List.set_cons_succ]
    refine wpAnyH_take (i := 2) (oi := ⟨some 24, _, _, _, _, _⟩) (v := ?v31) rfl (by kernel_rfl) (by kernel_rfl) (by kernel_rfl) (fun _ _ _ h => h) (Or.inl ⟨by rfl, ?hy31⟩) (by assumption) ?rest31
    case hy31 => (intro wq hSw; have e0 := hSw.1; have e1 := hSw.2.1; have e2 := hSw.2.2.1; have e3 := hSw.2.2.2.1; have e4 := hSw.2.2.2.2; clear hSw; first | (go_simp; done) | (go_simp; with_reducible rfl))
    simp only [Act.put, List.setIfInBounds_toArray, List.set_cons_zero, List.set_cons_succ]
    refine wpAnyH_take (i := 3) (oi := ⟨some 25, _, _, _, _, _⟩) (v := ?v32) rfl (by kernel_rfl) (by kernel_rfl) (by kernel_rfl) (fun _ _ _ h => h) (Or.inl ⟨by rfl, ?hy32⟩) (by assumption) ?rest32
    case hy32 => (intro wq hSw; have e0 := hSw.1; have e1 := hSw.2.1; have e2 := hSw.2.2.1; have e3 := hSw.2.2.2.1; have e4 := hSw.2.2.2.2; clear hSw; first | (go_simp; done) | (go_simp; with_reducible rfl))
    simp only [Act.put, List.setIfInBounds_toArray, List.set_cons_zero, List.set_cons_succ]
    refine wpAnyH_take (i := 4) (oi := ⟨some 26, _, _, _, _, _⟩) (v := ?v33) rfl (by kernel_rfl) (by kernel_rfl) (by kernel_rfl) (fun _ _ _ h => h) (Or.inl ⟨by rfl, ?hy33⟩) (by assumption) ?rest33
    case hy33 => (intro wq hSw; have e0 := hSw.1; have e1 := hSw.2.1; have e2 := hSw.2.2.1; have e3 := hSw.2.2.2.1; have e4 := hSw.2.2.2.2; clear hSw; first | (go_simp; done) | (go_simp; with_reducible rfl))
    simp only [Act.put, List.setIfInBounds_toArray, List.set_cons_zero, List.set_cons_succ]
    refine wpAnyH_take (i := 5) (oi := ⟨some 27, _, _, _, _, _⟩) (v := ?v34) rfl (by kernel_rfl) (by kernel_rfl) (by kernel_rfl) (fun _ _ _ h => h) (Or.inl ⟨by rfl, ?hy34⟩) (by assumption) ?rest34
    case hy34 => (intro wq hSw; have e0 := hSw.1; have e1 := hSw.2.1; have e2 := hSw.2.2.1; have e3 := hSw.2.2.2.1; have e4 := hSw.2.2.2.2; clear hSw; first | (go_simp; done) | (go_simp; with_reducible rfl))
    simp only [Act.put, List.setIfInBounds_toArray, List.set_cons_zero, List.set_cons_succ]
    refine wpAnyH_take (i := 6) (oi := ⟨some 28, _, _, _, _, _⟩) (v := ?v35) rfl (by kernel_rfl) (by kernel_rfl) (by kernel_rfl) (fun _ _ _ h => h) (Or.inl ⟨by rfl, ?hy35⟩) (by assumption) ?rest35
    case hy35 => (intro wq hSw; have e0 := hSw.1; have e1 := hSw.2.1; have e2 := hSw.2.2.1; have e3 := hSw.2.2.2.1; have e4 := hSw.2.2.2.2; clear hSw; first | (go_simp; done) | (go_simp; with_reducible rfl))
    simp only [Act.put, List.setIfInBounds_toArray, List.set_cons_zero, List.set_cons_succ]
    refine wpAnyH_take (i := 7) (oi := ⟨some 29, _, _, _, _, _⟩) (v := ?v36) rfl (by kernel_rfl) (by kernel_rfl) (by kernel_rfl) (fun _ _ _ h => h) (Or.inl ⟨by rfl, ?hy36⟩) (by assumption) ?rest36
    case hy36 => (intro wq hSw; have e0 := hSw.1; have e1 := hSw.2.1; have e2 := hSw.2.2.1; have e3 := hSw.2.2.2.1; have e4 := hSw.2.2.2.2; clear hSw; first | (go_simp; done) | (go_simp; with_reducible rfl))
    simp only [Act.put, List.setIfInBounds_toArray, List.set_cons_zero, List.set_cons_succ]
    refine wpAnyH_take (i := 8) (oi := ⟨some 30, _, _, _, _, _⟩) (v := ?v37) rfl (by kernel_rfl) (by kernel_rfl) (by kernel_rfl) (fun _ _ _ h => h) (Or.inl ⟨by rfl, ?hy37⟩) (by assumption) ?rest37
    case hy37 => (intro wq hSw; have e0 := hSw.1; have e1 := hSw.2.1; have e2 := hSw.2.2.1; have e3 := hSw.2.2.2.1; have e4 := hSw.2.2.2.2; clear hSw; first | (go_simp; done) | (go_simp; with_reducible rfl))
    simp only [Act.put, List.setIfInBounds_toArray, List.set_cons_zero, List.set_cons_succ]
    refine wpAnyH_ready (rs := [9]) (by kernel_rfl) (by simp) ?_
    refine AllReadyH.cons rfl (fun K hK => ?_) AllReadyH.nil
    go_simp
    refine Calls.mono (HFr.out _ ct.out.drew.d) ?_
    rintro e W5 ⟨a', c', rfl, hAs, hb5⟩
    dsimp only
    have ct5 : Hid (_) := ct.out.drew.below hb5
    have HB5 : Hid (Below Z.heap.size Z W5) := HBl.out.trans (Below.mono ⟨hb5.os, hb5.tape, hb5.output, hb5.size, hb5.block⟩ HBl.out.size)
    refine hK.out _ _ (by exact ct5.out.cells) (fun hHeld => ?_)
    clear hK K
    (try simp only [Act.put, List.setIfInBounds_toArray, List.set_cons_zero, List.set_cons_succ])
    refine wpAnyH_ready (rs := [10]) (by kernel_rfl) (by simp) ?_
    refine AllReadyH.cons rfl (fun K hK => ?_) AllReadyH.nil
    go_simp
    refine Calls.mono (HGv.out _ a' c' nm2 ar2 ct5.out.d.r.rb HB5.out hAs) ?_
    rintro e W6 ⟨rfl, hw6, hb6⟩
    dsimp only
    have ct6 : Hid (_) := ct5.out.wrote hw6 hb6
    refine hK.out _ _ (by exact ct6.out.cells) (fun hHeld => ?_)
    clear hK K
    (try simp only [Act.put, List.setIfInBounds_toArray, List.set_cons_zero, List.set_cons_succ])
    refine wpAnyH_take (i := 11) (oi := ⟨some 21, _, _, _, _, _⟩) (v := ?v38) rfl (by kernel_rfl) (by kernel_rfl) (by kernel_rfl) (fun _ _ _ h => h) (Or.inl ⟨by rfl, ?hy38⟩) (by assumption) ?rest38
    case hy38 => (intro wq hSw; clear hSw; first | (go_simp; done) | (go_simp; with_reducible rfl))
    simp only [Act.put, List.setIfInBounds_toArray, List.set_cons_zero, List.set_cons_succ]
    refine wpAnyH_take (i := 12) (oi := ⟨some 33, _, _, _, _, _⟩) (v := ?v39) rfl (by kernel_rfl) (by kernel_rfl) (by kernel_rfl) (fun _ _ _ h => h) (Or.inl ⟨by rfl, ?hy39⟩) (by assumption) ?rest39
    case hy39 => (intro wq hSw; clear hSw; first | (go_simp; done) | (go_simp; with_reducible rfl))
    simp only [Act.put, List.setIfInBounds_toArray, List.set_cons_zero, List.set_cons_succ]
    refine wpAnyH_take (i := 13) (oi := ⟨some 34, _, _, _, _, _⟩) (v := ?v40) rfl (by kernel_rfl) (by kernel_rfl) (by kernel_rfl) (fun _ _ _ h => h) (Or.inl ⟨by rfl, ?hy40⟩) (by assumption) ?rest40
    case hy40 => (intro wq hSw; clear hSw; first | (go_simp; done) | (go_simp; with_reducible rfl))
    simp only [Act.put, List.setIfInBounds_toArray, List.set_cons_zero, List.set_cons_succ]
    refine wpAnyH_take (i := 14) (oi := ⟨some 9, _, _, _, _, _⟩) (v := ?v41) rfl (by kernel_rfl) (by kernel_rfl) (by kernel_rfl) (fun _ _ _ h => h) (Or.inl ⟨by rfl, ?hy41⟩) (by assumption) ?rest41
    case hy41 => (intro wq hSw; clear hSw; first | (go_simp; done) | (go_simp; with_reducible rfl))
    simp only [Act.put, List.setIfInBounds_toArray, List.set_cons_zero, List.set_cons_succ]
    refine wpAnyH_take (i := 15) (oi := ⟨some 10, _, _, _, _, _⟩) (v := ?v42) rfl (by kernel_rfl) (by kernel_rfl) (by kernel_rfl) (fun _ _ _ h => h) (Or.inl ⟨by rfl, ?hy42⟩) (by assumption) ?rest42
    case hy42 => (intro wq hSw; clear hSw; first | (go_simp; done) | (go_simp; with_reducible rfl))
    simp only [Act.put, List.setIfInBounds_toArray, List.set_cons_zero, List.set_cons_succ]
    refine wpAnyH_done (by kernel_rfl) ?_ _
    have HD6 : Hid (_) := ct6.out.d
    have i1 := HD6.out.drew.i1
    simp only at i1
    clear hHeld hAs hb5 hw6 hb6 ct ct5 ct6 HB5 HBl HGv HFr
    go_wp2_with fail
    go_region_with (go_at_call 75; refine (HHo.out _ HD6.out.drew).mono ?_; rintro e w1 ⟨rfl, rfl⟩)
    all_goals
      go_wp2
      go_ret
      exact ⟨rfl, (HHd.out _ HD6.out.drew).r, (HHd.out _ HD6.out.drew).w⟩
end

end Go.Proofs.Ytnflkecnddbhoaa
