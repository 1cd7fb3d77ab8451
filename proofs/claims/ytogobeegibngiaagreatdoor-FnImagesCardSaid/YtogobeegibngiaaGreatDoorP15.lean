/-
  Parts of one proof, one behind the other: ImgS, RtU.
-/
import Derived.Test.YtogobeegibngiaaGreatDoorP14
import Derived.Test.YtogobeegibngiaaGreatDoorP7
import Derived.Deep.RegionHeld3
import Derived.Deep.Cut
import Derived.BigQuiet
import Derived.Test.YtogobeegibngiaaGreatDoorP1

/-! The contracts of chapter 14's specification: l14At, l14Routine. -/
namespace Go.Proofs.YtogobeegibngiaaGreatDoor
open Go.RowKit

/-- The routines rs lie at a, three cells each, their code where those say. -/
def RtsIn (w : World) (a : Option Addr) (len : Nat) (rs : List Rt) : Prop :=
  rs.length = len ∧ ∀ j, j < len → ∃ b off, a = some ⟨b, off, none⟩ ∧ b < w.heap.size ∧ w.cell? ⟨b, off + j * 3, none⟩ = some (.string ⟨(rs.getD j rt0).1.toArray⟩) ∧ w.cell? ⟨b, off + j * 3 + 1, none⟩ = some (.int .i64 (rs.getD j rt0).2.1) ∧
    ∃ ca cl cc, w.cell? ⟨b, off + j * 3 + 2, none⟩ = some (.slice ca cl cc) ∧ InsIn w ca cl (rs.getD j rt0).2.2
theorem RtsIn.below {w w' : World} {a : Option Addr} {len : Nat} {rs : List Rt} (h : RtsIn w a len rs) (hb : Below w.heap.size w w') : RtsIn w' a len rs := by
  refine ⟨h.1, fun j hj => ?_⟩
  obtain ⟨b, off, e, hlt, c0, c1, ca, cl, cc, c2, hn⟩ := h.2 j hj
  exact ⟨b, off, e, Nat.lt_of_lt_of_le hlt hb.size, (hb.cell (p := ⟨b, off + j * 3, none⟩) hlt).trans c0, (hb.cell (p := ⟨b, off + j * 3 + 1, none⟩) hlt).trans c1, ca, cl, cc, (hb.cell (p := ⟨b, off + j * 3 + 2, none⟩) hlt).trans c2, hn.below hb⟩
/-- No name, no code is longer than a law lets them be. -/
def ShortR (rs : List Rt) : Prop := ∀ j, (rs.getD j rt0).1.length ≤ 1048576 ∧ (rs.getD j rt0).2.2.length ≤ 1048576 ∧ ShortI (rs.getD j rt0).2.2

set_option maxHeartbeats 2000000 in
set_option maxRecDepth 100000 in
theorem specAt14 (a : Option Addr) (len cap : Nat) (rs : List Rt) (s : List UInt8) (w : World) (hin : RtsIn w a len rs) (hlen : len ≤ 1048576) :
    Calls Tryz.prog 30 #[.slice a len cap, .string ⟨s.toArray⟩] w fun e w' => e = .returned (.int .i64 (at14 rs s)) ∧ w' = w := by
  obtain rfl : rs.length = len := hin.1
  have HI : Hid (RtsIn w a rs.length rs) := hin
  clear hin
  go_enter Tryz.func30, Tryz.ntmps30
  go_wp2
  go_loop [5] (fun iv => ∃ j : Nat, iv = .int .i64 (j : Int) ∧ j ≤ rs.length ∧ Hid (at14 rs s = at14Go s (rs.drop j) j)) (fun iv => rs.length - (intOf iv).toNat)
  case atStart => exact ⟨0, rfl, by omega, (rfl : at14 rs s = at14Go s (rs.drop 0) 0)⟩
  case round =>
    obtain ⟨j, rfl, hj, HA⟩ := hrel
    by_cases hlt : (j : Int) < (rs.length : Int)
    · obtain ⟨b, off, rfl, hbl, c0, _⟩ := HI.out.2 j (by omega)
      have hg := at14Go_drop (rs := rs) (k := j) (by omega) s
      obtain ⟨x, hx⟩ : ∃ x, (rs.getD j rt0).1 = x := ⟨_, rfl⟩
      rw [hx] at c0 hg
      by_cases hxs : x = s
      · subst hxs
        have HR : Hid (at14 rs x = (j : Int)) := by exact (by rw [HA.out, hg, if_pos rfl] : at14 rs x = (j : Int))
        have hself : (x == x) = true := by simp
        clear HA hg hx
        go_wp2
        go_ret
        exact ⟨by rw [HR.out]; rfl, rfl⟩
      · have HR : Hid (at14 rs s = at14Go s (rs.drop (j + 1)) (j + 1)) := by exact (by rw [HA.out, hg, if_neg hxs] : at14 rs s = at14Go s (rs.drop (j + 1)) (j + 1))
        have hne : (x == s) = false := by rw [beq_eq_false_iff_ne]; exact hxs
        clear HA hg hx
        go_wp2
        go_round
        case rel => exact ⟨j + 1, by go_num, by omega, HR⟩
        case measure => simp [intOf]; omega
    · have HR : Hid (at14 rs s = -1) := by exact (by rw [HA.out, List.drop_of_length_le (by omega)]; rfl : at14 rs s = -1)
      go_wp2
      go_ret
      exact ⟨by rw [HR.out]; rfl, rfl⟩

theorem arg_all {c : List In13} {n : Int} (h : ∀ j, j < c.length → argB n (c.getD j in0) = true) : c.all (argB n) = true := by
  rw [List.all_eq_true]
  intro i hi
  obtain ⟨j, hj, rfl⟩ := List.getElem_of_mem hi
  have := h j hj
  simpa only [List.getD, List.getElem?_eq_getElem hj, Option.getD_some] using this
theorem arg_no {c : List In13} {n : Int} {j : Nat} (hj : j < c.length) (h : argB n (c.getD j in0) = false) : c.all (argB n) = false := by
  rw [Bool.eq_false_iff]
  intro e
  have := List.all_eq_true.1 e c[j] (List.getElem_mem hj)
  simp only [List.getD, List.getElem?_eq_getElem hj, Option.getD_some] at h
  rw [h] at this
  cases this
set_option maxHeartbeats 4000000 in
set_option maxRecDepth 100000 in
theorem specRoutine (n : List UInt8) (a : Int) (ca : Option Addr) (cl cc : Nat) (c : List In13) (w : World) (hin : InsIn w ca cl c) (hsh : ShortI c) (hlen : cl ≤ 1048576) (hn : n.length ≤ 1048576) :
    Calls Tryz.prog 29 #[.agg #[.string ⟨n.toArray⟩, .int .i64 a, .slice ca cl cc]] w fun e w' => e = .returned (.bool (rtB (n, a, c))) ∧ Below w.heap.size w w' := by
  obtain rfl : c.length = cl := hin.1
  obtain ⟨W, hW⟩ : ∃ W, w.alloc (.cells #[.string ⟨n.toArray⟩, .int .i64 a, .slice ca c.length cc] 50) = W := ⟨_, rfl⟩
  have hbW : Below w.heap.size w W := by rw [← hW]; exact (Below.refl _ _).alloc (Nat.le_refl _) _
  have hA : W.heap[w.heap.size]? = some (.cells #[.string ⟨n.toArray⟩, .int .i64 a, .slice ca c.length cc] 50) := by rw [← hW]; exact heap_alloc_new w _
  obtain ⟨D, hD⟩ : ∃ D, w.heap.size = D := ⟨_, rfl⟩
  rw [hD] at hA
  have k0 : W.cell? ⟨D, 0, none⟩ = some (.string ⟨n.toArray⟩) := by simp [World.cell?, hA]
  have k1 : W.cell? ⟨D, 1, none⟩ = some (.int .i64 a) := by simp [World.cell?, hA]
  have k2 : W.cell? ⟨D, 2, none⟩ = some (.slice ca c.length cc) := by simp [World.cell?, hA]
  have hDl : D < W.heap.size := World.block_lt_of_cell? W ⟨D, 0, none⟩ k0
  have HK : Hid (∀ Z, Below W.heap.size W Z → Z.cell? ⟨D, 0, none⟩ = some (.string ⟨n.toArray⟩) ∧ Z.cell? ⟨D, 1, none⟩ = some (.int .i64 a) ∧ Z.cell? ⟨D, 2, none⟩ = some (.slice ca c.length cc)) := fun Z hz => ⟨(hz.cell (p := ⟨D, 0, none⟩) hDl).trans k0, (hz.cell (p := ⟨D, 1, none⟩) hDl).trans k1, (hz.cell (p := ⟨D, 2, none⟩) hDl).trans k2⟩
  have HI : Hid (∀ Z, Below W.heap.size W Z → InsIn Z ca c.length c) := fun Z hz => (hin.below hbW).below hz
  have HN : Hid (_) := specName13 n W hn
  have HC : Hid (∀ Z, Below W.heap.size W Z → Calls Tryz.prog 45 #[.slice ca c.length cc] Z fun e w' => e = .returned (.bool (codeB c)) ∧ Below Z.heap.size Z w') := fun Z hz => specCodeOk ca c.length cc c Z ((hin.below hbW).below hz) hsh hlen
  have HIn : Hid (_) := fun Z : World => specIn a 0 3 Z
  have HB : Hid (Below w.heap.size w W) := hbW
  have HV : Hid (rtB (n, a, c) = ((name13 n && (inB a 0 3 && codeB c)) && c.all (argB a))) := rfl
  generalize name13 n = b1 at HN HV
  generalize inB a 0 3 = b2 at HIn HV
  generalize codeB c = b3 at HC HV
  clear hin hsh hbW hA k1 k2 hDl
  go_enter Tryz.func29, Tryz.ntmps29
  go_wp2_with fail
  refine Calls.mono HN.out ?_
  rintro e W1 ⟨rfl, hb1⟩
  obtain ⟨_, k1, k2⟩ := HK.out W1 hb1
  have HB1 : Hid (Below W.heap.size W W1) := hb1
  have HF1 : Hid (Below w.heap.size w W1) := HB.out.trans (hb1.mono HB.out.size)
  clear hb1 k0
  rcases b1 with _ | _
  · go_wp2
    go_ret
    exact ⟨by rw [HV.out]; rfl, hD ▸ HF1.out⟩
  · go_wp2_with fail
    refine Calls.mono (HIn.out _) ?_
    rintro e W2 ⟨rfl, hw2⟩
    obtain rfl := hw2.symm
    clear hw2
    rcases b2 with _ | _
    · go_wp2
      go_ret
      exact ⟨by rw [HV.out]; rfl, hD ▸ HF1.out⟩
    · go_wp2_with fail
      refine Calls.mono (HC.out _ HB1.out) ?_
      rintro e W3 ⟨rfl, hb3⟩
      have HB3 : Hid (Below W.heap.size W W3) := HB1.out.trans (hb3.mono HB1.out.size)
      clear hb3 k1 k2
      obtain ⟨_, k1, k2⟩ := HK.out W3 HB3.out
      have HF3 : Hid (Below w.heap.size w W3) := HB.out.trans (HB3.out.mono HB.out.size)
      rcases b3 with _ | _
      · go_wp2
        go_ret
        exact ⟨by rw [HV.out]; rfl, hD ▸ HF3.out⟩
      · go_wp2
        go_loopw [3] (fun iv wr => ∃ q : Nat, iv = .int .i64 (q : Int) ∧ q ≤ c.length ∧ Hid (∀ u, u < q → argB a (c.getD u in0) = true) ∧ Hid (Below W.heap.size W wr)) (fun iv _ => c.length - (intOf iv).toNat)
        case atStart => exact ⟨0, rfl, Nat.zero_le _, fun u hu => by omega, HB3⟩
        case round =>
          obtain ⟨q, rfl, hq, HQ, HBr⟩ := hrel
          clear k1 k2 HB3 HF3
          obtain ⟨_, k1, k2⟩ := HK.out wr HBr.out
          by_cases hlt : (q : Int) < (c.length : Int)
          · obtain ⟨cb, co, rfl, _, x0, _, x2, _, _⟩ := (HI.out wr HBr.out).2 q (by omega)
            obtain ⟨i, hi⟩ : ∃ i, c.getD q in0 = i := ⟨_, rfl⟩
            rw [hi] at x0 x2
            obtain ⟨kd, r, aa, bb, s⟩ := i
            simp only at x0 x2
            have hBd : Below W.heap.size W wr.drew := HBr.out.trans ⟨rfl, rfl, rfl, Nat.le_refl _, fun _ _ => rfl⟩
            have HBd : Hid (Below W.heap.size W wr.drew) := hBd
            clear hBd
            by_cases h2 : kd = 2
            · subst h2
              by_cases hge : a ≤ aa
              · have HN2 : Hid (c.all (argB a) = false) := arg_no (j := q) (by omega) (by rw [hi]; unfold argB; simp [hge])
                have hge2 : aa ≥ a := hge
                clear hi
                go_wp2
                refine wp_region_held_drew (S := (fun Z => Z.cell? ⟨D, 1, none⟩ = some (.int .i64 a) ∧ Z.cell? ⟨D, 2, none⟩ = some (.slice (some ⟨cb, co, none⟩) c.length cc) ∧ Z.cell? ⟨cb, co + q * 5, none⟩ = some (.int .i64 2) ∧ Z.cell? ⟨cb, co + q * 5 + 2, none⟩ = some (.int .i64 aa))) (by kernel_rfl) ?_ (fun hHeld => ?_)
                · first | (dsimp only; done) | (dsimp only; go_keep) | go_keep
                refine wpAnyH_take (i := 0) (oi := ⟨some 27, _, _, _, _, _⟩) (v := ?va0) rfl (by kernel_rfl) (by kernel_rfl) (by kernel_rfl) (fun _ _ _ h => h) (Or.inl ⟨by rfl, ?hya0⟩) (by assumption) ?resta0
                case hya0 => (intro wq hSw; (try dsimp only at hSw); first | (go_simp; done) | (go_simp; with_reducible rfl))
                simp only [Act.put, List.setIfInBounds_toArray, List.set_cons_zero, List.set_cons_succ]
                refine wpAnyH_take (i := 1) (oi := ⟨some 28, _, _, _, _, _⟩) (v := ?va1) rfl (by kernel_rfl) (by kernel_rfl) (by kernel_rfl) (fun _ _ _ h => h) (Or.inl ⟨by rfl, ?hya1⟩) (by assumption) ?resta1
                case hya1 => (intro wq hSw; (try dsimp only at hSw); first | (go_simp; done) | (go_simp; with_reducible rfl))
                simp only [Act.put, List.setIfInBounds_toArray, List.set_cons_zero, List.set_cons_succ]
                refine wpAnyH_take (i := 2) (oi := ⟨some 29, _, _, _, _, _⟩) (v := ?va2) rfl (by kernel_rfl) (by kernel_rfl) (by kernel_rfl) (fun _ _ _ h => h) (Or.inl ⟨by rfl, ?hya2⟩) (by assumption) ?resta2
                case hya2 => (intro wq hSw; (try dsimp only at hSw); first | (go_simp; done) | (go_simp; with_reducible rfl))
                simp only [Act.put, List.setIfInBounds_toArray, List.set_cons_zero, List.set_cons_succ]
                refine wpAnyH_take (i := 3) (oi := ⟨some 30, _, _, _, _, _⟩) (v := ?va3) rfl (by kernel_rfl) (by kernel_rfl) (by kernel_rfl) (fun _ _ _ h => h) (Or.inl ⟨by rfl, ?hya3⟩) (by assumption) ?resta3
                case hya3 => (intro wq hSw; (try dsimp only at hSw); first | (go_simp; done) | (go_simp; with_reducible rfl))
                simp only [Act.put, List.setIfInBounds_toArray, List.set_cons_zero, List.set_cons_succ]
                refine wpAnyH_take (i := 4) (oi := ⟨some 31, _, _, _, _, _⟩) (v := ?va4) rfl (by kernel_rfl) (by kernel_rfl) (by kernel_rfl) (fun _ _ _ h => h) (Or.inl ⟨by rfl, ?hya4⟩) (by assumption) ?resta4
                case hya4 => (intro wq hSw; (try dsimp only at hSw); first | (go_simp; done) | (go_simp; with_reducible rfl))
                simp only [Act.put, List.setIfInBounds_toArray, List.set_cons_zero, List.set_cons_succ]
                refine wpAnyH_take (i := 5) (oi := ⟨some 32, _, _, _, _, _⟩) (v := ?va5) rfl (by kernel_rfl) (by kernel_rfl) (by kernel_rfl) (fun _ _ _ h => h) (Or.inl ⟨by rfl, ?hya5⟩) (by assumption) ?resta5
                case hya5 => (intro wq hSw; (try dsimp only at hSw); first | (go_simp; done) | (go_simp; with_reducible rfl))
                simp only [Act.put, List.setIfInBounds_toArray, List.set_cons_zero, List.set_cons_succ]
                refine wpAnyH_take (i := 6) (oi := ⟨some 33, _, _, _, _, _⟩) (v := ?va6) rfl (by kernel_rfl) (by kernel_rfl) (by kernel_rfl) (fun _ _ _ h => h) (Or.inl ⟨by rfl, ?hya6⟩) (by assumption) ?resta6
                case hya6 => (intro wq hSw; (try dsimp only at hSw); first | (go_simp; done) | (go_simp; with_reducible rfl))
                simp only [Act.put, List.setIfInBounds_toArray, List.set_cons_zero, List.set_cons_succ]
                refine wpAnyH_take (i := 7) (oi := ⟨some 34, _, _, _, _, _⟩) (v := ?va7) rfl (by kernel_rfl) (by kernel_rfl) (by kernel_rfl) (fun _ _ _ h => h) (Or.inl ⟨by rfl, ?hya7⟩) (by assumption) ?resta7
                case hya7 => (intro wq hSw; (try dsimp only at hSw); first | (go_simp; done) | (go_simp; with_reducible rfl))
                simp only [Act.put, List.setIfInBounds_toArray, List.set_cons_zero, List.set_cons_succ]
                refine wpAnyH_take (i := 8) (oi := ⟨some 35, _, _, _, _, _⟩) (v := ?va8) rfl (by kernel_rfl) (by kernel_rfl) (by kernel_rfl) (fun _ _ _ h => h) (Or.inl ⟨by rfl, ?hya8⟩) (by assumption) ?resta8
                case hya8 => (intro wq hSw; (try dsimp only at hSw); first | (go_simp; done) | (go_simp; with_reducible rfl))
                simp only [Act.put, List.setIfInBounds_toArray, List.set_cons_zero, List.set_cons_succ]
                refine wpAnyH_take (i := 9) (oi := ⟨some 36, _, _, _, _, _⟩) (v := ?va9) rfl (by kernel_rfl) (by kernel_rfl) (by kernel_rfl) (fun _ _ _ h => h) (Or.inl ⟨by rfl, ?hya9⟩) (by assumption) ?resta9
                case hya9 => (intro wq hSw; (try dsimp only at hSw); first | (go_simp; done) | (go_simp; with_reducible rfl))
                simp only [Act.put, List.setIfInBounds_toArray, List.set_cons_zero, List.set_cons_succ]
                refine wpAnyH_take (i := 10) (oi := ⟨some 37, _, _, _, _, _⟩) (v := ?va10) rfl (by kernel_rfl) (by kernel_rfl) (by kernel_rfl) (fun _ _ _ h => h) (Or.inl ⟨by rfl, ?hya10⟩) (by assumption) ?resta10
                case hya10 => (intro wq hSw; (try dsimp only at hSw); first | (go_simp; done) | (go_simp; with_reducible rfl))
                simp only [Act.put, List.setIfInBounds_toArray, List.set_cons_zero, List.set_cons_succ]
                refine wpAnyH_take (i := 11) (oi := ⟨some 38, _, _, _, _, _⟩) (v := ?va11) rfl (by kernel_rfl) (by kernel_rfl) (by kernel_rfl) (fun _ _ _ h => h) (Or.inl ⟨by rfl, ?hya11⟩) (by assumption) ?resta11
                case hya11 => (intro wq hSw; (try dsimp only at hSw); first | (go_simp; done) | (go_simp; with_reducible rfl))
                simp only [Act.put, List.setIfInBounds_toArray, List.set_cons_zero, List.set_cons_succ]
                refine wpAnyH_take (i := 12) (oi := ⟨some 39, _, _, _, _, _⟩) (v := ?va12) rfl (by kernel_rfl) (by kernel_rfl) (by kernel_rfl) (fun _ _ _ h => h) (Or.inl ⟨by rfl, ?hya12⟩) (by assumption) ?resta12
                case hya12 => (intro wq hSw; (try dsimp only at hSw); first | (go_simp; done) | (go_simp; with_reducible rfl))
                simp only [Act.put, List.setIfInBounds_toArray, List.set_cons_zero, List.set_cons_succ]
                refine wpAnyH_take (i := 13) (oi := ⟨some 40, _, _, _, _, _⟩) (v := ?va13) rfl (by kernel_rfl) (by kernel_rfl) (by kernel_rfl) (fun _ _ _ h => h) (Or.inl ⟨by rfl, ?hya13⟩) (by assumption) ?resta13
                case hya13 => (intro wq hSw; (try dsimp only at hSw); first | (go_simp; done) | (go_simp; with_reducible rfl))
                simp only [Act.put, List.setIfInBounds_toArray, List.set_cons_zero, List.set_cons_succ]
                refine wpAnyH_take (i := 14) (oi := ⟨some 41, _, _, _, _, _⟩) (v := ?va14) rfl (by kernel_rfl) (by kernel_rfl) (by kernel_rfl) (fun _ _ _ h => h) (Or.inl ⟨by rfl, ?hya14⟩) (by assumption) ?resta14
                case hya14 => (intro wq hSw; (try dsimp only at hSw); first | (go_simp; done) | (go_simp; with_reducible rfl))
                simp only [Act.put, List.setIfInBounds_toArray, List.set_cons_zero, List.set_cons_succ]
                refine wpAnyH_take (i := 15) (oi := ⟨some 42, _, _, _, _, _⟩) (v := ?va15) rfl (by kernel_rfl) (by kernel_rfl) (by kernel_rfl) (fun _ _ _ h => h) (Or.inl ⟨by rfl, ?hya15⟩) (by assumption) ?resta15
                case hya15 => (intro wq hSw; (try dsimp only at hSw); first | (go_simp; done) | (go_simp; with_reducible rfl))
                simp only [Act.put, List.setIfInBounds_toArray, List.set_cons_zero, List.set_cons_succ]
                refine wpAnyH_take (i := 16) (oi := ⟨some 43, _, _, _, _, _⟩) (v := ?va16) rfl (by kernel_rfl) (by kernel_rfl) (by kernel_rfl) (fun _ _ _ h => h) (Or.inl ⟨by rfl, ?hya16⟩) (by assumption) ?resta16
                case hya16 => (intro wq hSw; (try dsimp only at hSw); first | (go_simp; done) | (go_simp; with_reducible rfl))
                simp only [Act.put, List.setIfInBounds_toArray, List.set_cons_zero, List.set_cons_succ]
                refine wpAnyH_take (i := 17) (oi := ⟨some 44, _, _, _, _, _⟩) (v := ?va17) rfl (by kernel_rfl) (by kernel_rfl) (by kernel_rfl) (fun _ _ _ h => h) (Or.inl ⟨by rfl, ?hya17⟩) (by assumption) ?resta17
                case hya17 => (intro wq hSw; (try dsimp only at hSw); first | (go_simp; done) | (go_simp; with_reducible rfl))
                simp only [Act.put, List.setIfInBounds_toArray, List.set_cons_zero, List.set_cons_succ]
                refine wpAnyH_done (by kernel_rfl) ?_ _
                go_wp2
                go_ret
                exact ⟨by rw [HV.out, HN2.out]; rfl, hD ▸ (HB.out.trans (HBd.out.mono HB.out.size))⟩
              · have HQ2 : Hid (∀ u, u < q + 1 → argB a (c.getD u in0) = true) := fun u hu => by
                  by_cases e : u = q
                  · rw [e, hi]; unfold argB; simp; omega
                  · exact HQ.out u (by omega)
                have hge2 : ¬ aa ≥ a := hge
                clear hi
                go_wp2
                refine wp_region_held_drew (S := (fun Z => Z.cell? ⟨D, 1, none⟩ = some (.int .i64 a) ∧ Z.cell? ⟨D, 2, none⟩ = some (.slice (some ⟨cb, co, none⟩) c.length cc) ∧ Z.cell? ⟨cb, co + q * 5, none⟩ = some (.int .i64 2) ∧ Z.cell? ⟨cb, co + q * 5 + 2, none⟩ = some (.int .i64 aa))) (by kernel_rfl) ?_ (fun hHeld => ?_)
                · first | (dsimp only; done) | (dsimp only; go_keep) | go_keep
                refine wpAnyH_take (i := 0) (oi := ⟨some 27, _, _, _, _, _⟩) (v := ?vb0) rfl (by kernel_rfl) (by kernel_rfl) (by kernel_rfl) (fun _ _ _ h => h) (Or.inl ⟨by rfl, ?hyb0⟩) (by assumption) ?restb0
                case hyb0 => (intro wq hSw; (try dsimp only at hSw); first | (go_simp; done) | (go_simp; with_reducible rfl))
                simp only [Act.put, List.setIfInBounds_toArray, List.set_cons_zero, List.set_cons_succ]
                refine wpAnyH_take (i := 1) (oi := ⟨some 28, _, _, _, _, _⟩) (v := ?vb1) rfl (by kernel_rfl) (by kernel_rfl) (by kernel_rfl) (fun _ _ _ h => h) (Or.inl ⟨by rfl, ?hyb1⟩) (by assumption) ?restb1
                case hyb1 => (intro wq hSw; (try dsimp only at hSw); first | (go_simp; done) | (go_simp; with_reducible rfl))
                simp only [Act.put, List.setIfInBounds_toArray, List.set_cons_zero, List.set_cons_succ]
                refine wpAnyH_take (i := 2) (oi := ⟨some 29, _, _, _, _, _⟩) (v := ?vb2) rfl (by kernel_rfl) (by kernel_rfl) (by kernel_rfl) (fun _ _ _ h => h) (Or.inl ⟨by rfl, ?hyb2⟩) (by assumption) ?restb2
                case hyb2 => (intro wq hSw; (try dsimp only at hSw); first | (go_simp; done) | (go_simp; with_reducible rfl))
                simp only [Act.put, List.setIfInBounds_toArray, List.set_cons_zero, List.set_cons_succ]
                refine wpAnyH_take (i := 3) (oi := ⟨some 30, _, _, _, _, _⟩) (v := ?vb3) rfl (by kernel_rfl) (by kernel_rfl) (by kernel_rfl) (fun _ _ _ h => h) (Or.inl ⟨by rfl, ?hyb3⟩) (by assumption) ?restb3
                case hyb3 => (intro wq hSw; (try dsimp only at hSw); first | (go_simp; done) | (go_simp; with_reducible rfl))
                simp only [Act.put, List.setIfInBounds_toArray, List.set_cons_zero, List.set_cons_succ]
                refine wpAnyH_take (i := 4) (oi := ⟨some 31, _, _, _, _, _⟩) (v := ?vb4) rfl (by kernel_rfl) (by kernel_rfl) (by kernel_rfl) (fun _ _ _ h => h) (Or.inl ⟨by rfl, ?hyb4⟩) (by assumption) ?restb4
                case hyb4 => (intro wq hSw; (try dsimp only at hSw); first | (go_simp; done) | (go_simp; with_reducible rfl))
                simp only [Act.put, List.setIfInBounds_toArray, List.set_cons_zero, List.set_cons_succ]
                refine wpAnyH_take (i := 5) (oi := ⟨some 32, _, _, _, _, _⟩) (v := ?vb5) rfl (by kernel_rfl) (by kernel_rfl) (by kernel_rfl) (fun _ _ _ h => h) (Or.inl ⟨by rfl, ?hyb5⟩) (by assumption) ?restb5
                case hyb5 => (intro wq hSw; (try dsimp only at hSw); first | (go_simp; done) | (go_simp; with_reducible rfl))
                simp only [Act.put, List.setIfInBounds_toArray, List.set_cons_zero, List.set_cons_succ]
                refine wpAnyH_take (i := 6) (oi := ⟨some 33, _, _, _, _, _⟩) (v := ?vb6) rfl (by kernel_rfl) (by kernel_rfl) (by kernel_rfl) (fun _ _ _ h => h) (Or.inl ⟨by rfl, ?hyb6⟩) (by assumption) ?restb6
                case hyb6 => (intro wq hSw; (try dsimp only at hSw); first | (go_simp; done) | (go_simp; with_reducible rfl))
                simp only [Act.put, List.setIfInBounds_toArray, List.set_cons_zero, List.set_cons_succ]
                refine wpAnyH_take (i := 7) (oi := ⟨some 34, _, _, _, _, _⟩) (v := ?vb7) rfl (by kernel_rfl) (by kernel_rfl) (by kernel_rfl) (fun _ _ _ h => h) (Or.inl ⟨by rfl, ?hyb7⟩) (by assumption) ?restb7
                case hyb7 => (intro wq hSw; (try dsimp only at hSw); first | (go_simp; done) | (go_simp; with_reducible rfl))
                simp only [Act.put, List.setIfInBounds_toArray, List.set_cons_zero, List.set_cons_succ]
                refine wpAnyH_take (i := 8) (oi := ⟨some 35, _, _, _, _, _⟩) (v := ?vb8) rfl (by kernel_rfl) (by kernel_rfl) (by kernel_rfl) (fun _ _ _ h => h) (Or.inl ⟨by rfl, ?hyb8⟩) (by assumption) ?restb8
                case hyb8 => (intro wq hSw; (try dsimp only at hSw); first | (go_simp; done) | (go_simp; with_reducible rfl))
                simp only [Act.put, List.setIfInBounds_toArray, List.set_cons_zero, List.set_cons_succ]
                refine wpAnyH_take (i := 9) (oi := ⟨some 36, _, _, _, _, _⟩) (v := ?vb9) rfl (by kernel_rfl) (by kernel_rfl) (by kernel_rfl) (fun _ _ _ h => h) (Or.inl ⟨by rfl, ?hyb9⟩) (by assumption) ?restb9
                case hyb9 => (intro wq hSw; (try dsimp only at hSw); first | (go_simp; done) | (go_simp; with_reducible rfl))
                simp only [Act.put, List.setIfInBounds_toArray, List.set_cons_zero, List.set_cons_succ]
                refine wpAnyH_take (i := 10) (oi := ⟨some 37, _, _, _, _, _⟩) (v := ?vb10) rfl (by kernel_rfl) (by kernel_rfl) (by kernel_rfl) (fun _ _ _ h => h) (Or.inl ⟨by rfl, ?hyb10⟩) (by assumption) ?restb10
                case hyb10 => (intro wq hSw; (try dsimp only at hSw); first | (go_simp; done) | (go_simp; with_reducible rfl))
                simp only [Act.put, List.setIfInBounds_toArray, List.set_cons_zero, List.set_cons_succ]
                refine wpAnyH_take (i := 11) (oi := ⟨some 38, _, _, _, _, _⟩) (v := ?vb11) rfl (by kernel_rfl) (by kernel_rfl) (by kernel_rfl) (fun _ _ _ h => h) (Or.inl ⟨by rfl, ?hyb11⟩) (by assumption) ?restb11
                case hyb11 => (intro wq hSw; (try dsimp only at hSw); first | (go_simp; done) | (go_simp; with_reducible rfl))
                simp only [Act.put, List.setIfInBounds_toArray, List.set_cons_zero, List.set_cons_succ]
                refine wpAnyH_take (i := 12) (oi := ⟨some 39, _, _, _, _, _⟩) (v := ?vb12) rfl (by kernel_rfl) (by kernel_rfl) (by kernel_rfl) (fun _ _ _ h => h) (Or.inl ⟨by rfl, ?hyb12⟩) (by assumption) ?restb12
                case hyb12 => (intro wq hSw; (try dsimp only at hSw); first | (go_simp; done) | (go_simp; with_reducible rfl))
                simp only [Act.put, List.setIfInBounds_toArray, List.set_cons_zero, List.set_cons_succ]
                refine wpAnyH_take (i := 13) (oi := ⟨some 40, _, _, _, _, _⟩) (v := ?vb13) rfl (by kernel_rfl) (by kernel_rfl) (by kernel_rfl) (fun _ _ _ h => h) (Or.inl ⟨by rfl, ?hyb13⟩) (by assumption) ?restb13
                case hyb13 => (intro wq hSw; (try dsimp only at hSw); first | (go_simp; done) | (go_simp; with_reducible rfl))
                simp only [Act.put, List.setIfInBounds_toArray, List.set_cons_zero, List.set_cons_succ]
                refine wpAnyH_take (i := 14) (oi := ⟨some 41, _, _, _, _, _⟩) (v := ?vb14) rfl (by kernel_rfl) (by kernel_rfl) (by kernel_rfl) (fun _ _ _ h => h) (Or.inl ⟨by rfl, ?hyb14⟩) (by assumption) ?restb14
                case hyb14 => (intro wq hSw; (try dsimp only at hSw); first | (go_simp; done) | (go_simp; with_reducible rfl))
                simp only [Act.put, List.setIfInBounds_toArray, List.set_cons_zero, List.set_cons_succ]
                refine wpAnyH_take (i := 15) (oi := ⟨some 42, _, _, _, _, _⟩) (v := ?vb15) rfl (by kernel_rfl) (by kernel_rfl) (by kernel_rfl) (fun _ _ _ h => h) (Or.inl ⟨by rfl, ?hyb15⟩) (by assumption) ?restb15
                case hyb15 => (intro wq hSw; (try dsimp only at hSw); first | (go_simp; done) | (go_simp; with_reducible rfl))
                simp only [Act.put, List.setIfInBounds_toArray, List.set_cons_zero, List.set_cons_succ]
                refine wpAnyH_take (i := 16) (oi := ⟨some 43, _, _, _, _, _⟩) (v := ?vb16) rfl (by kernel_rfl) (by kernel_rfl) (by kernel_rfl) (fun _ _ _ h => h) (Or.inl ⟨by rfl, ?hyb16⟩) (by assumption) ?restb16
                case hyb16 => (intro wq hSw; (try dsimp only at hSw); first | (go_simp; done) | (go_simp; with_reducible rfl))
                simp only [Act.put, List.setIfInBounds_toArray, List.set_cons_zero, List.set_cons_succ]
                refine wpAnyH_take (i := 17) (oi := ⟨some 44, _, _, _, _, _⟩) (v := ?vb17) rfl (by kernel_rfl) (by kernel_rfl) (by kernel_rfl) (fun _ _ _ h => h) (Or.inl ⟨by rfl, ?hyb17⟩) (by assumption) ?restb17
                case hyb17 => (intro wq hSw; (try dsimp only at hSw); first | (go_simp; done) | (go_simp; with_reducible rfl))
                simp only [Act.put, List.setIfInBounds_toArray, List.set_cons_zero, List.set_cons_succ]
                refine wpAnyH_done (by kernel_rfl) ?_ _
                go_wp2
                go_roundw
                case rel => exact ⟨q + 1, by go_num, by omega, HQ2, HBd⟩
                case measure => simp [intOf]; omega
            · have HQ2 : Hid (∀ u, u < q + 1 → argB a (c.getD u in0) = true) := fun u hu => by
                by_cases e : u = q
                · rw [e, hi]; unfold argB; simp [h2]
                · exact HQ.out u (by omega)
              have h2b : (kd == 2) = false := beq_eq_false_iff_ne.2 h2
              clear hi
              go_wp2
              refine wp_region_held_drew (S := (fun Z => Z.cell? ⟨D, 1, none⟩ = some (.int .i64 a) ∧ Z.cell? ⟨D, 2, none⟩ = some (.slice (some ⟨cb, co, none⟩) c.length cc) ∧ Z.cell? ⟨cb, co + q * 5, none⟩ = some (.int .i64 kd) ∧ Z.cell? ⟨cb, co + q * 5 + 2, none⟩ = some (.int .i64 aa))) (by kernel_rfl) ?_ (fun hHeld => ?_)
              · first | (dsimp only; done) | (dsimp only; go_keep) | go_keep
              refine wpAnyH_take (i := 0) (oi := ⟨some 27, _, _, _, _, _⟩) (v := ?vc0) rfl (by kernel_rfl) (by kernel_rfl) (by kernel_rfl) (fun _ _ _ h => h) (Or.inl ⟨by rfl, ?hyc0⟩) (by assumption) ?restc0
              case hyc0 => (intro wq hSw; (try dsimp only at hSw); first | (go_simp; done) | (go_simp; with_reducible rfl))
              simp only [Act.put, List.setIfInBounds_toArray, List.set_cons_zero, List.set_cons_succ]
              refine wpAnyH_take (i := 1) (oi := ⟨some 28, _, _, _, _, _⟩) (v := ?vc1) rfl (by kernel_rfl) (by kernel_rfl) (by kernel_rfl) (fun _ _ _ h => h) (Or.inl ⟨by rfl, ?hyc1⟩) (by assumption) ?restc1
              case hyc1 => (intro wq hSw; (try dsimp only at hSw); first | (go_simp; done) | (go_simp; with_reducible rfl))
              simp only [Act.put, List.setIfInBounds_toArray, List.set_cons_zero, List.set_cons_succ]
              refine wpAnyH_take (i := 2) (oi := ⟨some 29, _, _, _, _, _⟩) (v := ?vc2) rfl (by kernel_rfl) (by kernel_rfl) (by kernel_rfl) (fun _ _ _ h => h) (Or.inl ⟨by rfl, ?hyc2⟩) (by assumption) ?restc2
              case hyc2 => (intro wq hSw; (try dsimp only at hSw); first | (go_simp; done) | (go_simp; with_reducible rfl))
              simp only [Act.put, List.setIfInBounds_toArray, List.set_cons_zero, List.set_cons_succ]
              refine wpAnyH_take (i := 3) (oi := ⟨some 30, _, _, _, _, _⟩) (v := ?vc3) rfl (by kernel_rfl) (by kernel_rfl) (by kernel_rfl) (fun _ _ _ h => h) (Or.inl ⟨by rfl, ?hyc3⟩) (by assumption) ?restc3
              case hyc3 => (intro wq hSw; (try dsimp only at hSw); first | (go_simp; done) | (go_simp; with_reducible rfl))
              simp only [Act.put, List.setIfInBounds_toArray, List.set_cons_zero, List.set_cons_succ]
              refine wpAnyH_take (i := 4) (oi := ⟨some 31, _, _, _, _, _⟩) (v := ?vc4) rfl (by kernel_rfl) (by kernel_rfl) (by kernel_rfl) (fun _ _ _ h => h) (Or.inl ⟨by rfl, ?hyc4⟩) (by assumption) ?restc4
              case hyc4 => (intro wq hSw; (try dsimp only at hSw); first | (go_simp; done) | (go_simp; with_reducible rfl))
              simp only [Act.put, List.setIfInBounds_toArray, List.set_cons_zero, List.set_cons_succ]
              refine wpAnyH_take (i := 5) (oi := ⟨some 32, _, _, _, _, _⟩) (v := ?vc5) rfl (by kernel_rfl) (by kernel_rfl) (by kernel_rfl) (fun _ _ _ h => h) (Or.inl ⟨by rfl, ?hyc5⟩) (by assumption) ?restc5
              case hyc5 => (intro wq hSw; (try dsimp only at hSw); first | (go_simp; done) | (go_simp; with_reducible rfl))
              simp only [Act.put, List.setIfInBounds_toArray, List.set_cons_zero, List.set_cons_succ]
              refine wpAnyH_take (i := 6) (oi := ⟨some 33, _, _, _, _, _⟩) (v := ?vc6) rfl (by kernel_rfl) (by kernel_rfl) (by kernel_rfl) (fun _ _ _ h => h) (Or.inl ⟨by rfl, ?hyc6⟩) (by assumption) ?restc6
              case hyc6 => (intro wq hSw; (try dsimp only at hSw); first | (go_simp; done) | (go_simp; with_reducible rfl))
              simp only [Act.put, List.setIfInBounds_toArray, List.set_cons_zero, List.set_cons_succ]
              refine wpAnyH_take (i := 7) (oi := ⟨some 34, _, _, _, _, _⟩) (v := ?vc7) rfl (by kernel_rfl) (by kernel_rfl) (by kernel_rfl) (fun _ _ _ h => h) (Or.inl ⟨by rfl, ?hyc7⟩) (by assumption) ?restc7
              case hyc7 => (intro wq hSw; (try dsimp only at hSw); first | (go_simp; done) | (go_simp; with_reducible rfl))
              simp only [Act.put, List.setIfInBounds_toArray, List.set_cons_zero, List.set_cons_succ]
              refine wpAnyH_take (i := 8) (oi := ⟨some 35, _, _, _, _, _⟩) (v := undef) rfl (by kernel_rfl) (by kernel_rfl) (by kernel_rfl) (fun _ _ _ h => h) (Or.inr ⟨by rfl, rfl⟩) (by assumption) ?_
              simp only [Act.put, List.setIfInBounds_toArray, List.set_cons_zero, List.set_cons_succ]
              refine wpAnyH_take (i := 9) (oi := ⟨some 36, _, _, _, _, _⟩) (v := undef) rfl (by kernel_rfl) (by kernel_rfl) (by kernel_rfl) (fun _ _ _ h => h) (Or.inr ⟨by rfl, rfl⟩) (by assumption) ?_
              simp only [Act.put, List.setIfInBounds_toArray, List.set_cons_zero, List.set_cons_succ]
              refine wpAnyH_take (i := 10) (oi := ⟨some 37, _, _, _, _, _⟩) (v := undef) rfl (by kernel_rfl) (by kernel_rfl) (by kernel_rfl) (fun _ _ _ h => h) (Or.inr ⟨by rfl, rfl⟩) (by assumption) ?_
              simp only [Act.put, List.setIfInBounds_toArray, List.set_cons_zero, List.set_cons_succ]
              refine wpAnyH_take (i := 11) (oi := ⟨some 38, _, _, _, _, _⟩) (v := undef) rfl (by kernel_rfl) (by kernel_rfl) (by kernel_rfl) (fun _ _ _ h => h) (Or.inr ⟨by rfl, rfl⟩) (by assumption) ?_
              simp only [Act.put, List.setIfInBounds_toArray, List.set_cons_zero, List.set_cons_succ]
              refine wpAnyH_take (i := 12) (oi := ⟨some 39, _, _, _, _, _⟩) (v := undef) rfl (by kernel_rfl) (by kernel_rfl) (by kernel_rfl) (fun _ _ _ h => h) (Or.inr ⟨by rfl, rfl⟩) (by assumption) ?_
              simp only [Act.put, List.setIfInBounds_toArray, List.set_cons_zero, List.set_cons_succ]
              refine wpAnyH_take (i := 13) (oi := ⟨some 40, _, _, _, _, _⟩) (v := undef) rfl (by kernel_rfl) (by kernel_rfl) (by kernel_rfl) (fun _ _ _ h => h) (Or.inr ⟨by rfl, rfl⟩) (by assumption) ?_
              simp only [Act.put, List.setIfInBounds_toArray, List.set_cons_zero, List.set_cons_succ]
              refine wpAnyH_take (i := 14) (oi := ⟨some 41, _, _, _, _, _⟩) (v := undef) rfl (by kernel_rfl) (by kernel_rfl) (by kernel_rfl) (fun _ _ _ h => h) (Or.inr ⟨by rfl, rfl⟩) (by assumption) ?_
              simp only [Act.put, List.setIfInBounds_toArray, List.set_cons_zero, List.set_cons_succ]
              refine wpAnyH_take (i := 15) (oi := ⟨some 42, _, _, _, _, _⟩) (v := undef) rfl (by kernel_rfl) (by kernel_rfl) (by kernel_rfl) (fun _ _ _ h => h) (Or.inr ⟨by rfl, rfl⟩) (by assumption) ?_
              simp only [Act.put, List.setIfInBounds_toArray, List.set_cons_zero, List.set_cons_succ]
              refine wpAnyH_take (i := 16) (oi := ⟨some 43, _, _, _, _, _⟩) (v := undef) rfl (by kernel_rfl) (by kernel_rfl) (by kernel_rfl) (fun _ _ _ h => h) (Or.inr ⟨by rfl, rfl⟩) (by assumption) ?_
              simp only [Act.put, List.setIfInBounds_toArray, List.set_cons_zero, List.set_cons_succ]
              refine wpAnyH_take (i := 17) (oi := ⟨some 44, _, _, _, _, _⟩) (v := ?vc17) rfl (by kernel_rfl) (by kernel_rfl) (by kernel_rfl) (fun _ _ _ h => h) (Or.inl ⟨by rfl, ?hyc17⟩) (by assumption) ?restc17
              case hyc17 => (intro wq hSw; (try dsimp only at hSw); first | (go_simp; done) | (go_simp; with_reducible rfl))
              simp only [Act.put, List.setIfInBounds_toArray, List.set_cons_zero, List.set_cons_succ]
              refine wpAnyH_done (by kernel_rfl) ?_ _
              go_wp2
              go_roundw
              case rel => exact ⟨q + 1, by go_num, by omega, HQ2, HBd⟩
              case measure => simp [intOf]; omega
          · have HN2 : Hid (c.all (argB a) = true) := arg_all (fun u hu => HQ.out u (by omega))
            go_wp2
            go_ret
            exact ⟨by rw [HV.out, HN2.out]; rfl, hD ▸ (HB.out.trans (HBr.out.mono HB.out.size))⟩

end Go.Proofs.YtogobeegibngiaaGreatDoor

/-! What the writing of several blocks leaves; rows that lie apart; blocks of three cells. -/
namespace Go.Proofs.YtogobeegibngiaaGreatDoor
open Go.RowKit

/-- The trees lie apart, one by one. -/
def ApartR (vs : List Value) : Prop := vs.Pairwise (fun a b => a.ownBlock = none ∨ a.ownBlock ≠ b.ownBlock)
theorem ApartR.ne {vs : List Value} (h : ApartR vs) {i j : Nat} (hi : i < vs.length) (hj : j < vs.length) (hij : i ≠ j) : vs[i].ownBlock = none ∨ vs[i].ownBlock ≠ vs[j].ownBlock := by
  rcases Nat.lt_or_gt_of_ne hij with hl | hl
  · exact List.pairwise_iff_getElem.1 h i j hi hj hl
  · rcases List.pairwise_iff_getElem.1 h j i hj hi hl with e | e
    · rw [e]; cases vs[i].ownBlock <;> simp
    · exact Or.inr (fun e2 => e e2.symm)

theorem ApartR.nil : ApartR [] := List.Pairwise.nil
theorem ApartR.snoc {vs : List Value} {u : Value} (h : ApartR vs) (hu : ∀ v ∈ vs, v.ownBlock = none ∨ v.ownBlock ≠ u.ownBlock) : ApartR (vs ++ [u]) :=
  List.pairwise_append.2 ⟨h, List.pairwise_singleton _ _, fun a ha b hb => by rw [List.mem_singleton] at hb; subst hb; exact hu a ha⟩
theorem cell_alwR {w : World} {a : Addr} {v : Value} (o : Obj) (h : w.cell? a = some v) : (w.alloc o).cell? a = some v :=
  (World.cell?_of_block (Below.heap_alloc _ _ _ (World.block_lt_of_cell? w a h))).trans h

/-- Three cells of a block are written. -/
theorem set3R {X : World} {R : Nat} {a0 a1 a2 : Value} (u0 u1 u2 : Value) (r0 : X.cell? ⟨R, 0, none⟩ = some a0) (r1 : X.cell? ⟨R, 1, none⟩ = some a1) (r2 : X.cell? ⟨R, 2, none⟩ = some a2) :
    ∃ Y, ((X.setCell ⟨R, 0, none⟩ u0).setCell ⟨R, 1, none⟩ u1).setCell ⟨R, 2, none⟩ u2 = Y ∧ Y.cell? ⟨R, 0, none⟩ = some u0 ∧ Y.cell? ⟨R, 1, none⟩ = some u1 ∧ Y.cell? ⟨R, 2, none⟩ = some u2 ∧ X.grownBy Y (some R) := by
  refine ⟨_, rfl, ?_, ?_, ?_, ?_⟩
  · exact (World.cell?_setCell_other _ _ _ _ (by simp)).trans ((World.cell?_setCell_other _ _ _ _ (by simp)).trans (World.cell?_setCell_same _ _ _ r0))
  · exact (World.cell?_setCell_other _ _ _ _ (by simp)).trans (World.cell?_setCell_same _ _ _ ((World.cell?_setCell_other _ _ _ _ (by simp)).trans r1))
  · exact World.cell?_setCell_same _ _ _ ((World.cell?_setCell_other _ _ _ _ (by simp)).trans ((World.cell?_setCell_other _ _ _ _ (by simp)).trans r2))
  · exact ((grown_set _ _ _ _).trans (grown_set _ _ _ _)).trans (grown_set _ _ _ _)

/-- The cells of a block of threeR that lies as it was made. -/
theorem threeR {X W : World} {R : Nat} {u0 u1 u2 : Value} {T : TypeId} (hX : Below W.heap.size W X) (hlt : R < W.heap.size) (hR : W.heap[R]? = some (.cells #[u0, u1, u2] T)) :
    X.cell? ⟨R, 0, none⟩ = some u0 ∧ X.cell? ⟨R, 1, none⟩ = some u1 ∧ X.cell? ⟨R, 2, none⟩ = some u2 ∧ ∀ j, X.frozen? ⟨R, j, none⟩ = false := by
  have e := (hX.block R hlt).trans hR
  clear hX hR
  exact ⟨by simp [World.cell?, e], by simp [World.cell?, e], by simp [World.cell?, e], fun j => by simp [World.frozen?, e]⟩

/-- A row that is owned above a block does not lie in it. -/
theorem own_offR {w : World} {base e size n R : Nat} {v : Value} {xs : List Value} (h : w.ownsRow base e size v n xs) (hR : R < base) : v.ownBlock = none ∨ v.ownBlock ≠ some R := by
  rcases hv : v.ownBlock with _ | k
  · exact Or.inl rfl
  · refine Or.inr (fun e => ?_)
    have := (h.lt k hv).1
    injection e with e
    omega

/-- Rows of elements of two types lie in two blocks. -/
theorem own_typesR {w : World} {b1 b2 e1 e2 s1 s2 n1 n2 : Nat} {v1 v2 : Value} {xs ys : List Value} (h1 : w.ownsRow b1 e1 s1 v1 n1 xs) (h2 : w.ownsRow b2 e2 s2 v2 n2 ys) (he : e1 ≠ e2) : v1.ownBlock = none ∨ v1.ownBlock ≠ v2.ownBlock := by
  rcases h1.2 with ⟨rfl, _⟩ | ⟨g, c, cur, rfl, _, hg, _⟩
  · exact Or.inl rfl
  · rcases h2.2 with ⟨rfl, _⟩ | ⟨g2, c2, cur2, rfl, _, hg2, _⟩
    · exact Or.inr (by simp [Value.ownBlock])
    · refine Or.inr (fun e => ?_)
      simp only [Value.ownBlock, Option.some.injEq] at e
      subst e
      rw [hg] at hg2
      simp only [Option.some.injEq, Obj.cells.injEq] at hg2
      exact he hg2.2.1

theorem add_plainR (b off i : Nat) : (⟨b, off, none⟩ : Addr).add i = ⟨b, off + i, none⟩ := by unfold Addr.add; split <;> simp_all

end Go.Proofs.YtogobeegibngiaaGreatDoor
