/-
  Parts of one proof, one behind the other: TaskS4, TaskS5, TaskC, TaskD.
-/
import Derived.Test.YtaioedcaopbgkaaP16
import Derived.Test.YtaioedcaopbgkaaP14
import Derived.Test.YtaioedcaopbgkaaP15

/-! The contract of chapter 18's specification: DeskOk. -/
namespace Go.Proofs.Ytaioedcaopbgkaa
open Go.RowKit

theorem deskB_head {ts : List Ta} {e n : Int} {j : List UInt8} (h : ¬ (((inB (ts.length : Int) 1 8 && inB e 1 1000) && inB n 0 1000000) = true ∧ j.length ≤ 60000)) : deskB (ts, e, n, j) = false := by
 rw [Bool.eq_false_iff]
 intro k
 obtain ⟨h1, h2, h3, h4, _⟩ := deskB_iff.1 k
 refine h ⟨?_, h4⟩
 simp only at h1 h2 h3
 unfold inB
 simp only [Bool.and_eq_true, decide_eq_true_eq]
 omega
theorem deskB_no {ts : List Ta} {e n : Int} {j : List UInt8} {i : Nat} (hi : i < ts.length) (h : ¬ one18 ts i) : deskB (ts, e, n, j) = false := by
 rw [Bool.eq_false_iff]
 intro k
 exact h ((deskB_iff.1 k).one i hi)
theorem deskB_yes {ts : List Ta} {e n : Int} {j : List UInt8} (h1 : inB (ts.length : Int) 1 8 = true) (h2 : inB e 1 1000 = true) (h3 : inB n 0 1000000 = true) (h4 : j.length ≤ 60000) (h : ∀ i, i < ts.length → one18 ts i) : deskB (ts, e, n, j) = true := by
 unfold inB at h1 h2 h3
 have h1 := of_decide_eq_true h1
 exact deskB_iff.2 ⟨by show 1 ≤ ts.length ∧ ts.length ≤ 8; omega, of_decide_eq_true h2, of_decide_eq_true h3, h4, h⟩

set_option maxHeartbeats 4000000 in
set_option maxRecDepth 100000 in
theorem specDeskOk (a : Option Addr) (len cap : Nat) (ts : List Ta) (ep nw : Int) (jr : List UInt8) (w : World) (hin : TasksIn w a len ts) (hsh : ShortTa ts) (hlen : len ≤ 1048576) :
 Calls Try.prog 19 #[.agg #[.slice a len cap, .int .i64 ep, .int .i64 nw, .string ⟨jr.toArray⟩]] w
  fun e w' => e = .returned (.bool (deskB (ts, ep, nw, jr))) ∧ Below w.heap.size w w' := by
 obtain rfl : ts.length = len := hin.1
 obtain ⟨W, hW⟩ : ∃ W, w.alloc (.cells #[.slice a ts.length cap, .int .i64 ep, .int .i64 nw, .string ⟨jr.toArray⟩] 26) = W := ⟨_, rfl⟩
 have hbW : Below w.heap.size w W := by rw [← hW]; exact (Below.refl _ _).alloc (Nat.le_refl _) _
 have hA : W.heap[w.heap.size]? = some (.cells #[.slice a ts.length cap, .int .i64 ep, .int .i64 nw, .string ⟨jr.toArray⟩] 26) := by rw [← hW]; exact heap_alloc_new w _
 obtain ⟨D, hD⟩ : ∃ D, w.heap.size = D := ⟨_, rfl⟩
 rw [hD] at hA
 have k0 : W.cell? ⟨D, 0, none⟩ = some (.slice a ts.length cap) := by simp [World.cell?, hA]
 have k1 : W.cell? ⟨D, 1, none⟩ = some (.int .i64 ep) := by simp [World.cell?, hA]
 have k2 : W.cell? ⟨D, 2, none⟩ = some (.int .i64 nw) := by simp [World.cell?, hA]
 have k3 : W.cell? ⟨D, 3, none⟩ = some (.string ⟨jr.toArray⟩) := by simp [World.cell?, hA]
 have hDl : D < W.heap.size := World.block_lt_of_cell? W ⟨D, 0, none⟩ k0
 have HI : Hid (∀ Z, Below W.heap.size W Z → TasksIn Z a ts.length ts) := fun Z hz => (hin.below hbW).below hz
 have HB : Hid (∀ Z, Below W.heap.size W Z → Below D w Z) := fun Z hz => hD ▸ hbW.trans (hz.mono hbW.size)
 have HC : Hid (∀ Z, Below W.heap.size W Z → Z.cell? ⟨D, 0, none⟩ = some (.slice a ts.length cap)) := fun Z hz => (hz.cell (p := ⟨D, 0, none⟩) hDl).trans k0
 have HN : Hid (_) := specIn (ts.length : Int) 1 8 W
 have HE : Hid (_) := specIn ep 1 1000 W
 have HT : Hid (_) := specTime nw W
 have HS : Hid (ShortTa ts) := hsh
 have HB0 : Hid (Below W.heap.size W W) := Below.refl _ _
 have HH : Hid (¬ (((inB (ts.length : Int) 1 8 && inB ep 1 1000) && inB nw 0 1000000) = true ∧ jr.length ≤ 60000) → deskB (ts, ep, nw, jr) = false) := deskB_head
 have HY : Hid (inB (ts.length : Int) 1 8 = true → inB ep 1 1000 = true → inB nw 0 1000000 = true → jr.length ≤ 60000 → (∀ i, i < ts.length → one18 ts i) → deskB (ts, ep, nw, jr) = true) := deskB_yes
 generalize inB (ts.length : Int) 1 8 = b1 at HN HH HY
 generalize inB ep 1 1000 = b2 at HE HH HY
 generalize inB nw 0 1000000 = b3 at HT HH HY
 clear hin hsh hbW hA hDl
 go_enter Try.func19, Try.ntmps19
 go_wp2_with fail
 refine Calls.mono HN.out ?_
 rintro e W1 ⟨rfl, hw1⟩
 obtain rfl := hw1.symm
 clear hw1 HN
 rcases b1 with _ | _
 ·
  have HF : Hid (_) := HH.out (fun e => by cases e.1)
  go_wp2
  go_ret
  exact ⟨by rw [HF.out]; rfl, hD ▸ HB.out _ HB0.out⟩
 ·
  go_wp2_with fail
  refine Calls.mono HE.out ?_
  rintro e W2 ⟨rfl, hw2⟩
  obtain rfl := hw2.symm
  clear hw2 HE
  rcases b2 with _ | _
  ·
   have HF : Hid (_) := HH.out (fun e => by cases e.1)
   go_wp2
   go_ret
   exact ⟨by rw [HF.out]; rfl, hD ▸ HB.out _ HB0.out⟩
  ·
   go_wp2_with fail
   refine Calls.mono HT.out ?_
   rintro e W3 ⟨rfl, hw3⟩
   obtain rfl := hw3.symm
   clear hw3 HT
   rcases b3 with _ | _
   ·
    have HF : Hid (_) := HH.out (fun e => by cases e.1)
    go_wp2
    go_ret
    exact ⟨by rw [HF.out]; rfl, hD ▸ HB.out _ HB0.out⟩
   ·
    by_cases hj6 : jr.length ≤ 60000
    ·
     have HY2 : Hid (_) := HY.out (by first | rfl | trivial) (by first | rfl | trivial) (by first | rfl | trivial) hj6
     clear HY HH
     go_wp2
     go_loopw [4] (fun iv wr => ∃ i : Nat, iv = .int .i64 (i : Int) ∧ i ≤ ts.length ∧ Hid (∀ q, q < i → one18 ts q) ∧ Hid (Below W.heap.size W wr)) (fun iv _ => ts.length - (intOf iv).toNat)
     case atStart => exact ⟨0, rfl, by omega, fun q hq => by omega, HB0⟩
     case round =>
      obtain ⟨i, rfl, hi, HA, HBr⟩ := hrel
      by_cases hlt : (i : Int) < (ts.length : Int)
      ·
       have hI := HI.out wr HBr.out
       obtain ⟨b, off, rfl, hbl, c0, ⟨na, nc, c1, hn⟩, c2, c3, c4, c5⟩ := hI.2 i (by omega)
       clear k0
       have k0 := HC.out wr HBr.out
       have hsh := HS.out i
       have hN1 : one18 ts i ↔ nameB (ts.getD i ta0).1 = true ∧ taskB (i : Int) (ts.getD i ta0) = true ∧ ∀ k, k < i → (ts.getD k ta0).1 ≠ (ts.getD i ta0).1 := Iff.rfl
       obtain ⟨x, hx⟩ : ∃ x, ts.getD i ta0 = x := ⟨_, rfl⟩
       rw [hx] at c0 c1 hn c2 c3 c4 c5 hsh hN1
       obtain ⟨nm, ns, st, wk, un, ke⟩ := x
       simp only at c0 c1 hn c2 c3 c4 c5 hsh hN1
       have HNm : Hid (_) := specNameOk nm wr hsh.1
       have HTk : Hid (_) := specTask nm na nc ns st wk un ke i wr hn hsh.2
       have HNo : Hid (¬ one18 ts i → deskB (ts, ep, nw, jr) = false) := fun h => deskB_no (by omega) h
       have HN1 : Hid (_) := hN1
       clear hN1 hI hn hsh
       generalize nameB nm = b1 at HNm HN1
       generalize taskB (i : Int) (nm, ns, st, wk, un, ke) = b2 at HTk HN1
       rcases b1 with _ | _
       ·
        have HF : Hid (_) := HNo.out (fun h => by cases (HN1.out.1 h).1)
        clear HNo HN1 HA HY2
        go_wp2_with (go_at_call 38; refine Calls.mono HNm.out ?_; rintro e w1 ⟨rfl, rfl⟩)
        go_ret
        exact ⟨by rw [HF.out]; rfl, hD ▸ HB.out _ HBr.out⟩
       ·
        rcases b2 with _ | _
        ·
         have HF : Hid (_) := HNo.out (fun h => by cases (HN1.out.1 h).2.1)
         clear HNo HN1 HA HY2
         go_wp2_with (first | (go_at_call 38; refine Calls.mono HNm.out ?_; rintro e w1 ⟨rfl, rfl⟩) | (go_at_call 39; refine Calls.mono HTk.out ?_; rintro e w2 ⟨rfl, hb2⟩))
         go_ret
         exact ⟨by rw [HF.out]; rfl, hD ▸ HB.out _ (HBr.out.trans (hb2.mono HBr.out.size))⟩
        ·
         go_wp2_with (first | (go_at_call 38; refine Calls.mono HNm.out ?_; rintro e w1 ⟨rfl, rfl⟩) | (go_at_call 39; refine Calls.mono HTk.out ?_; rintro e w2 ⟨rfl, hb2⟩))
         have HB2 : Hid (Below W.heap.size W w2) := HBr.out.trans (hb2.mono HBr.out.size)
         have HX : Hid (∀ Z, Below W.heap.size W Z → Z.cell? ⟨b, off + i * 6, none⟩ = some (.string ⟨nm.toArray⟩)) := fun Z hz => by
          obtain ⟨b', off', e, _, d0, _⟩ := (HI.out Z hz).2 i (by omega)
          injection e with e
          injection e with e1 e2 _
          subst e1 e2
          rw [hx] at d0
          exact d0
         have HXn : Hid ((ts.getD i ta0).1 = nm) := by exact (by rw [hx] : (ts.getD i ta0).1 = nm)
         clear hb2 c0 c1 c2 c3 c4 c5 k0 HBr HTk HNm hx
         go_loopw [5] (fun iv wr => ∃ k : Nat, iv = .int .i64 (k : Int) ∧ k ≤ i ∧ Hid (∀ q, q < k → (ts.getD q ta0).1 ≠ nm) ∧ Hid (Below W.heap.size W wr)) (fun iv _ => i - (intOf iv).toNat)
         case atStart => exact ⟨0, rfl, by omega, fun q hq => by omega, HB2⟩
         case round =>
          obtain ⟨k, rfl, hk, HQ, HBk⟩ := hrel
          rename World => U
          clear HB2
          have k0 := HC.out U HBk.out
          have c0 := HX.out U HBk.out
          have HBd : Hid (Below W.heap.size W U.drew) := HBk.out.trans (by exact ⟨rfl, rfl, rfl, Nat.le_refl _, fun _ _ => rfl⟩)
          by_cases hkl : (k : Int) < (i : Int)
          ·
           obtain ⟨b', off', e, _, d0, _⟩ := (HI.out U HBk.out).2 k (by omega)
           injection e with e
           injection e with e1 e2 _
           subst e1 e2
           obtain ⟨y, hy⟩ : ∃ y, (ts.getD k ta0).1 = y := ⟨_, rfl⟩
           rw [hy] at d0
           by_cases hyn : y = nm
           ·
            have HF : Hid (_) := HNo.out (fun h => (HN1.out.1 h).2.2 k (by omega) (by rw [hy]; exact hyn))
            have heb : (y == nm) = true := by rw [hyn]; simp
            clear HQ HNo HN1 HX HI HC HA hy hyn
            go_wp2
            refine wp_region_held_drew (S := fun Z => Z.cell? ⟨D, 0, none⟩ = some (.slice (some ⟨b, off, none⟩) ts.length cap) ∧ Z.cell? ⟨b, off + k * 6, none⟩ = some (.string ⟨y.toArray⟩) ∧ Z.cell? ⟨b, off + i * 6, none⟩ = some (.string ⟨nm.toArray⟩)) (by kernel_rfl) (by exact ⟨k0, d0, c0⟩) (fun hHeld => ?_)
            refine wpAnyH_take (i := 0) (oi := ⟨some 58, _, _, _, _, _⟩) (v := ?v232) rfl (by kernel_rfl) (by kernel_rfl) (by kernel_rfl) (fun _ _ _ h => h) (Or.inl ⟨by rfl, ?hy232⟩) (by assumption) ?rest232
            case hy232 => (intro wq hSw; obtain ⟨z0, z1, z2⟩ := hSw; first | (go_simp; done) | (go_simp; with_reducible rfl) | (go_simp; rw [if_pos (by omega)]))
            simp only [Act.put, List.setIfInBounds_toArray, List.set_cons_zero, List.set_cons_succ]
            refine wpAnyH_take (i := 1) (oi := ⟨some 59, _, _, _, _, _⟩) (v := ?v233) rfl (by kernel_rfl) (by kernel_rfl) (by kernel_rfl) (fun _ _ _ h => h) (Or.inl ⟨by rfl, ?hy233⟩) (by assumption) ?rest233
            case hy233 => (intro wq hSw; obtain ⟨z0, z1, z2⟩ := hSw; first | (go_simp; done) | (go_simp; with_reducible rfl) | (go_simp; rw [if_pos (by omega)]))
            simp only [Act.put, List.setIfInBounds_toArray, List.set_cons_zero, List.set_cons_succ]
            refine wpAnyH_take (i := 2) (oi := ⟨some 60, _, _, _, _, _⟩) (v := ?v234) rfl (by kernel_rfl) (by kernel_rfl) (by kernel_rfl) (fun _ _ _ h => h) (Or.inl ⟨by rfl, ?hy234⟩) (by assumption) ?rest234
            case hy234 => (intro wq hSw; obtain ⟨z0, z1, z2⟩ := hSw; first | (go_simp; done) | (go_simp; with_reducible rfl) | (go_simp; rw [if_pos (by omega)]))
            simp only [Act.put, List.setIfInBounds_toArray, List.set_cons_zero, List.set_cons_succ]
            refine wpAnyH_take (i := 3) (oi := ⟨some 61, _, _, _, _, _⟩) (v := ?v235) rfl (by kernel_rfl) (by kernel_rfl) (by kernel_rfl) (fun _ _ _ h => h) (Or.inl ⟨by rfl, ?hy235⟩) (by assumption) ?rest235
            case hy235 => (intro wq hSw; obtain ⟨z0, z1, z2⟩ := hSw; first | (go_simp; done) | (go_simp; with_reducible rfl) | (go_simp; rw [if_pos (by omega)]))
            simp only [Act.put, List.setIfInBounds_toArray, List.set_cons_zero, List.set_cons_succ]
            refine wpAnyH_take (i := 4) (oi := ⟨some 62, _, _, _, _, _⟩) (v := ?v236) rfl (by kernel_rfl) (by kernel_rfl) (by kernel_rfl) (fun _ _ _ h => h) (Or.inl ⟨by rfl, ?hy236⟩) (by assumption) ?rest236
            case hy236 => (intro wq hSw; obtain ⟨z0, z1, z2⟩ := hSw; first | (go_simp; done) | (go_simp; with_reducible rfl) | (go_simp; rw [if_pos (by omega)]))
            simp only [Act.put, List.setIfInBounds_toArray, List.set_cons_zero, List.set_cons_succ]
            refine wpAnyH_take (i := 5) (oi := ⟨some 63, _, _, _, _, _⟩) (v := ?v237) rfl (by kernel_rfl) (by kernel_rfl) (by kernel_rfl) (fun _ _ _ h => h) (Or.inl ⟨by rfl, ?hy237⟩) (by assumption) ?rest237
            case hy237 => (intro wq hSw; obtain ⟨z0, z1, z2⟩ := hSw; first | (go_simp; done) | (go_simp; with_reducible rfl) | (go_simp; rw [if_pos (by omega)]))
            simp only [Act.put, List.setIfInBounds_toArray, List.set_cons_zero, List.set_cons_succ]
            refine wpAnyH_take (i := 6) (oi := ⟨some 64, _, _, _, _, _⟩) (v := ?v238) rfl (by kernel_rfl) (by kernel_rfl) (by kernel_rfl) (fun _ _ _ h => h) (Or.inl ⟨by rfl, ?hy238⟩) (by assumption) ?rest238
            case hy238 => (intro wq hSw; obtain ⟨z0, z1, z2⟩ := hSw; first | (go_simp; done) | (go_simp; with_reducible rfl) | (go_simp; rw [if_pos (by omega)]))
            simp only [Act.put, List.setIfInBounds_toArray, List.set_cons_zero, List.set_cons_succ]
            refine wpAnyH_take (i := 7) (oi := ⟨some 65, _, _, _, _, _⟩) (v := ?v239) rfl (by kernel_rfl) (by kernel_rfl) (by kernel_rfl) (fun _ _ _ h => h) (Or.inl ⟨by rfl, ?hy239⟩) (by assumption) ?rest239
            case hy239 => (intro wq hSw; obtain ⟨z0, z1, z2⟩ := hSw; first | (go_simp; done) | (go_simp; with_reducible rfl) | (go_simp; rw [if_pos (by omega)]))
            simp only [Act.put, List.setIfInBounds_toArray, List.set_cons_zero, List.set_cons_succ]
            refine wpAnyH_take (i := 8) (oi := ⟨some 66, _, _, _, _, _⟩) (v := ?v240) rfl (by kernel_rfl) (by kernel_rfl) (by kernel_rfl) (fun _ _ _ h => h) (Or.inl ⟨by rfl, ?hy240⟩) (by assumption) ?rest240
            case hy240 => (intro wq hSw; obtain ⟨z0, z1, z2⟩ := hSw; first | (go_simp; done) | (go_simp; with_reducible rfl) | (go_simp; rw [if_pos (by omega)]))
            simp only [Act.put, List.setIfInBounds_toArray, List.set_cons_zero, List.set_cons_succ]
            refine wpAnyH_take (i := 9) (oi := ⟨some 67, _, _, _, _, _⟩) (v := ?v241) rfl (by kernel_rfl) (by kernel_rfl) (by kernel_rfl) (fun _ _ _ h => h) (Or.inl ⟨by rfl, ?hy241⟩) (by assumption) ?rest241
            case hy241 => (intro wq hSw; obtain ⟨z0, z1, z2⟩ := hSw; first | (go_simp; done) | (go_simp; with_reducible rfl) | (go_simp; rw [if_pos (by omega)]))
            simp only [Act.put, List.setIfInBounds_toArray, List.set_cons_zero, List.set_cons_succ]
            refine wpAnyH_take (i := 10) (oi := ⟨some 68, _, _, _, _, _⟩) (v := ?v242) rfl (by kernel_rfl) (by kernel_rfl) (by kernel_rfl) (fun _ _ _ h => h) (Or.inl ⟨by rfl, ?hy242⟩) (by assumption) ?rest242
            case hy242 => (intro wq hSw; obtain ⟨z0, z1, z2⟩ := hSw; first | (go_simp; done) | (go_simp; with_reducible rfl) | (go_simp; rw [if_pos (by omega)]))
            simp only [Act.put, List.setIfInBounds_toArray, List.set_cons_zero, List.set_cons_succ]
            refine wpAnyH_take (i := 11) (oi := ⟨some 69, _, _, _, _, _⟩) (v := ?v243) rfl (by kernel_rfl) (by kernel_rfl) (by kernel_rfl) (fun _ _ _ h => h) (Or.inl ⟨by rfl, ?hy243⟩) (by assumption) ?rest243
            case hy243 => (intro wq hSw; obtain ⟨z0, z1, z2⟩ := hSw; first | (go_simp; done) | (go_simp; with_reducible rfl) | (go_simp; rw [if_pos (by omega)]))
            simp only [Act.put, List.setIfInBounds_toArray, List.set_cons_zero, List.set_cons_succ]
            refine wpAnyH_take (i := 12) (oi := ⟨some 70, _, _, _, _, _⟩) (v := .bool true) rfl (by kernel_rfl) (by kernel_rfl) (by kernel_rfl) (fun _ _ _ h => h) (Or.inl ⟨by rfl, ?hy244⟩) (by assumption) ?rest244
            case hy244 => (intro wq hSw; clear hSw; first | (go_simp; done) | (go_simp; with_reducible rfl) | (go_simp; simp only [Result.ok.injEq, Next.value.injEq, Value.bool.injEq, decide_eq_true_eq, decide_eq_false_iff_not, and_true]; first | omega | assumption))
            simp only [Act.put, List.setIfInBounds_toArray, List.set_cons_zero, List.set_cons_succ]
            refine wpAnyH_done (by kernel_rfl) ?_ _
            (try dsimp only)
            go_wp2
            go_ret
            exact ⟨by rw [HF.out]; rfl, hD ▸ HB.out _ HBd.out⟩
           ·
            have heb : (y == nm) = false := beq_eq_false_iff_ne.2 hyn
            have HR : Hid (∀ q, q < k + 1 → (ts.getD q ta0).1 ≠ nm) := fun q hq => by
             rcases Nat.lt_or_ge q k with g | g
             ·
              exact HQ.out q g
             ·
              obtain rfl : q = k := by omega
              rw [hy]; exact hyn
            clear HQ hy hyn
            go_wp2
            refine wp_region_held_drew (S := fun Z => Z.cell? ⟨D, 0, none⟩ = some (.slice (some ⟨b, off, none⟩) ts.length cap) ∧ Z.cell? ⟨b, off + k * 6, none⟩ = some (.string ⟨y.toArray⟩) ∧ Z.cell? ⟨b, off + i * 6, none⟩ = some (.string ⟨nm.toArray⟩)) (by kernel_rfl) (by exact ⟨k0, d0, c0⟩) (fun hHeld => ?_)
            refine wpAnyH_take (i := 0) (oi := ⟨some 58, _, _, _, _, _⟩) (v := ?v245) rfl (by kernel_rfl) (by kernel_rfl) (by kernel_rfl) (fun _ _ _ h => h) (Or.inl ⟨by rfl, ?hy245⟩) (by assumption) ?rest245
            case hy245 => (intro wq hSw; obtain ⟨z0, z1, z2⟩ := hSw; first | (go_simp; done) | (go_simp; with_reducible rfl) | (go_simp; rw [if_pos (by omega)]))
            simp only [Act.put, List.setIfInBounds_toArray, List.set_cons_zero, List.set_cons_succ]
            refine wpAnyH_take (i := 1) (oi := ⟨some 59, _, _, _, _, _⟩) (v := ?v246) rfl (by kernel_rfl) (by kernel_rfl) (by kernel_rfl) (fun _ _ _ h => h) (Or.inl ⟨by rfl, ?hy246⟩) (by assumption) ?rest246
            case hy246 => (intro wq hSw; obtain ⟨z0, z1, z2⟩ := hSw; first | (go_simp; done) | (go_simp; with_reducible rfl) | (go_simp; rw [if_pos (by omega)]))
            simp only [Act.put, List.setIfInBounds_toArray, List.set_cons_zero, List.set_cons_succ]
            refine wpAnyH_take (i := 2) (oi := ⟨some 60, _, _, _, _, _⟩) (v := ?v247) rfl (by kernel_rfl) (by kernel_rfl) (by kernel_rfl) (fun _ _ _ h => h) (Or.inl ⟨by rfl, ?hy247⟩) (by assumption) ?rest247
            case hy247 => (intro wq hSw; obtain ⟨z0, z1, z2⟩ := hSw; first | (go_simp; done) | (go_simp; with_reducible rfl) | (go_simp; rw [if_pos (by omega)]))
            simp only [Act.put, List.setIfInBounds_toArray, List.set_cons_zero, List.set_cons_succ]
            refine wpAnyH_take (i := 3) (oi := ⟨some 61, _, _, _, _, _⟩) (v := ?v248) rfl (by kernel_rfl) (by kernel_rfl) (by kernel_rfl) (fun _ _ _ h => h) (Or.inl ⟨by rfl, ?hy248⟩) (by assumption) ?rest248
            case hy248 => (intro wq hSw; obtain ⟨z0, z1, z2⟩ := hSw; first | (go_simp; done) | (go_simp; with_reducible rfl) | (go_simp; rw [if_pos (by omega)]))
            simp only [Act.put, List.setIfInBounds_toArray, List.set_cons_zero, List.set_cons_succ]
            refine wpAnyH_take (i := 4) (oi := ⟨some 62, _, _, _, _, _⟩) (v := ?v249) rfl (by kernel_rfl) (by kernel_rfl) (by kernel_rfl) (fun _ _ _ h => h) (Or.inl ⟨by rfl, ?hy249⟩) (by assumption) ?rest249
            case hy249 => (intro wq hSw; obtain ⟨z0, z1, z2⟩ := hSw; first | (go_simp; done) | (go_simp; with_reducible rfl) | (go_simp; rw [if_pos (by omega)]))
            simp only [Act.put, List.setIfInBounds_toArray, List.set_cons_zero, List.set_cons_succ]
            refine wpAnyH_take (i := 5) (oi := ⟨some 63, _, _, _, _, _⟩) (v := ?v250) rfl (by kernel_rfl) (by kernel_rfl) (by kernel_rfl) (fun _ _ _ h => h) (Or.inl ⟨by rfl, ?hy250⟩) (by assumption) ?rest250
            case hy250 => (intro wq hSw; obtain ⟨z0, z1, z2⟩ := hSw; first | (go_simp; done) | (go_simp; with_reducible rfl) | (go_simp; rw [if_pos (by omega)]))
            simp only [Act.put, List.setIfInBounds_toArray, List.set_cons_zero, List.set_cons_succ]
            refine wpAnyH_take (i := 6) (oi := ⟨some 64, _, _, _, _, _⟩) (v := ?v251) rfl (by kernel_rfl) (by kernel_rfl) (by kernel_rfl) (fun _ _ _ h => h) (Or.inl ⟨by rfl, ?hy251⟩) (by assumption) ?rest251
            case hy251 => (intro wq hSw; obtain ⟨z0, z1, z2⟩ := hSw; first | (go_simp; done) | (go_simp; with_reducible rfl) | (go_simp; rw [if_pos (by omega)]))
            simp only [Act.put, List.setIfInBounds_toArray, List.set_cons_zero, List.set_cons_succ]
            refine wpAnyH_take (i := 7) (oi := ⟨some 65, _, _, _, _, _⟩) (v := ?v252) rfl (by kernel_rfl) (by kernel_rfl) (by kernel_rfl) (fun _ _ _ h => h) (Or.inl ⟨by rfl, ?hy252⟩) (by assumption) ?rest252
            case hy252 => (intro wq hSw; obtain ⟨z0, z1, z2⟩ := hSw; first | (go_simp; done) | (go_simp; with_reducible rfl) | (go_simp; rw [if_pos (by omega)]))
            simp only [Act.put, List.setIfInBounds_toArray, List.set_cons_zero, List.set_cons_succ]
            refine wpAnyH_take (i := 8) (oi := ⟨some 66, _, _, _, _, _⟩) (v := ?v253) rfl (by kernel_rfl) (by kernel_rfl) (by kernel_rfl) (fun _ _ _ h => h) (Or.inl ⟨by rfl, ?hy253⟩) (by assumption) ?rest253
            case hy253 => (intro wq hSw; obtain ⟨z0, z1, z2⟩ := hSw; first | (go_simp; done) | (go_simp; with_reducible rfl) | (go_simp; rw [if_pos (by omega)]))
            simp only [Act.put, List.setIfInBounds_toArray, List.set_cons_zero, List.set_cons_succ]
            refine wpAnyH_take (i := 9) (oi := ⟨some 67, _, _, _, _, _⟩) (v := ?v254) rfl (by kernel_rfl) (by kernel_rfl) (by kernel_rfl) (fun _ _ _ h => h) (Or.inl ⟨by rfl, ?hy254⟩) (by assumption) ?rest254
            case hy254 => (intro wq hSw; obtain ⟨z0, z1, z2⟩ := hSw; first | (go_simp; done) | (go_simp; with_reducible rfl) | (go_simp; rw [if_pos (by omega)]))
            simp only [Act.put, List.setIfInBounds_toArray, List.set_cons_zero, List.set_cons_succ]
            refine wpAnyH_take (i := 10) (oi := ⟨some 68, _, _, _, _, _⟩) (v := ?v255) rfl (by kernel_rfl) (by kernel_rfl) (by kernel_rfl) (fun _ _ _ h => h) (Or.inl ⟨by rfl, ?hy255⟩) (by assumption) ?rest255
            case hy255 => (intro wq hSw; obtain ⟨z0, z1, z2⟩ := hSw; first | (go_simp; done) | (go_simp; with_reducible rfl) | (go_simp; rw [if_pos (by omega)]))
            simp only [Act.put, List.setIfInBounds_toArray, List.set_cons_zero, List.set_cons_succ]
            refine wpAnyH_take (i := 11) (oi := ⟨some 69, _, _, _, _, _⟩) (v := ?v256) rfl (by kernel_rfl) (by kernel_rfl) (by kernel_rfl) (fun _ _ _ h => h) (Or.inl ⟨by rfl, ?hy256⟩) (by assumption) ?rest256
            case hy256 => (intro wq hSw; obtain ⟨z0, z1, z2⟩ := hSw; first | (go_simp; done) | (go_simp; with_reducible rfl) | (go_simp; rw [if_pos (by omega)]))
            simp only [Act.put, List.setIfInBounds_toArray, List.set_cons_zero, List.set_cons_succ]
            refine wpAnyH_take (i := 12) (oi := ⟨some 70, _, _, _, _, _⟩) (v := .bool false) rfl (by kernel_rfl) (by kernel_rfl) (by kernel_rfl) (fun _ _ _ h => h) (Or.inl ⟨by rfl, ?hy257⟩) (by assumption) ?rest257
            case hy257 => (intro wq hSw; clear hSw; first | (go_simp; done) | (go_simp; with_reducible rfl) | (go_simp; simp only [Result.ok.injEq, Next.value.injEq, Value.bool.injEq, decide_eq_true_eq, decide_eq_false_iff_not, and_true]; first | omega | assumption))
            simp only [Act.put, List.setIfInBounds_toArray, List.set_cons_zero, List.set_cons_succ]
            refine wpAnyH_done (by kernel_rfl) ?_ _
            (try dsimp only)
            go_wp2
            go_roundw
            case rel => exact ⟨k + 1, by go_num, by omega, HR, HBd⟩
            case measure => simp [intOf]; omega
          ·
           have HR : Hid (∀ q, q < i + 1 → one18 ts q) := fun q hq => by
            rcases Nat.lt_or_ge q i with g | g
            ·
             exact HA.out q g
            ·
             obtain rfl : q = i := by omega
             exact HN1.out.2 ⟨by first | rfl | trivial, by first | rfl | trivial, fun k' hk' => HQ.out k' (by omega)⟩
           clear HQ HNo HN1 HA
           go_wp2
           go_roundw
           case rel => exact ⟨i + 1, by go_num, by omega, HR, HBk⟩
           case measure => simp [intOf]; omega
      ·
       have HF : Hid (_) := HY2.out (fun q hq => HA.out q (by omega))
       clear HA HY2
       go_wp2
       go_ret
       exact ⟨by rw [HF.out]; rfl, hD ▸ HB.out _ HBr.out⟩
    ·
     have HF : Hid (_) := HH.out (fun e => hj6 e.2)
     go_wp2
     go_ret
     exact ⟨by rw [HF.out]; rfl, hD ▸ HB.out _ HB0.out⟩

end Go.Proofs.Ytaioedcaopbgkaa

/-! The contracts of chapter 18's specification: l18AllDone, AllDone. -/
namespace Go.Proofs.Ytaioedcaopbgkaa
open Go.RowKit

end Go.Proofs.Ytaioedcaopbgkaa

/-! The contracts of chapter 18's specification: l1Copy at numbers that can be read; l18Copy. -/
namespace Go.Proofs.Ytaioedcaopbgkaa
open Go.RowKit

/-- Numbers that can be read, as 'append' takes them. -/
theorem as_src {w : World} {a : Option Addr} {c : Nat} {xs : List Int} (h : AsIn w a xs) (hc : a = none → c = 0) : Src w (.slice a xs.length c) xs.length 1 (intsV xs) := by
 refine ⟨by rw [intsV_len, Nat.mul_one], intsV_one _, ?_⟩
 rcases a with _ | ad
 ·
  have h0 : xs.length = 0 := by
   rcases Nat.eq_zero_or_pos xs.length with g | g
   ·
    exact g
   ·
    obtain ⟨b, off, e, _⟩ := h 0 g; cases e
  rw [hc rfl, h0]
  exact Or.inl ⟨rfl, rfl⟩
 ·
  refine Or.inr ⟨ad, c, rfl, fun j u hu => ?_⟩
  have hj : j < xs.length := by have := (List.getElem?_eq_some_iff.1 hu).1; rw [intsV_len] at this; exact this
  obtain ⟨b, off, e, _, hcell⟩ := h j hj
  injection e with e
  subst e
  rw [add_plainR, hcell, ← hu, intsV_at _ j hj]
  simp [List.getD, hj]

set_option maxHeartbeats 1000000 in
set_option maxRecDepth 100000 in
theorem specCopy18 (a : Option Addr) (c : Nat) (xs : List Int) (w : World) (hin : AsIn w a xs) (hc : a = none → c = 0) (hn : xs.length ≤ 1048576) :
 Calls Try.prog 40 #[.slice a xs.length c] w fun e w' => ∃ va vc, e = .returned (.slice va xs.length vc) ∧ w'.ownsRow w.heap.size 2 1 (.slice va xs.length vc) xs.length (intsV xs) ∧ Below w.heap.size w w' := by
 obtain ⟨i0, hi, hz0, hz1, hz2⟩ := info_parts info2
 have hb0 : Below w.heap.size w (w.alloc (.cells #[] 2)) := (Below.refl _ _).alloc (Nat.le_refl _) _
 have hP0 : (w.alloc (.cells #[] 2)).ownsRow w.heap.size 2 1 (.slice (some ⟨w.heap.size, 0, none⟩) 0 0) 0 [] := World.ownsRow_lit w #[] 0 (Nat.le_refl _) (by decide) rfl
 obtain ⟨v', Y, hrun, hown, hg, _⟩ := run_append_src (P := Try.prog) (w.alloc (.cells #[] 2)) w.heap.size 44 44 2 i0 _ 1 8 Try.underlying44 hi hz0 hz1 hz2 rfl (by decide) _ _ _ hP0 _ xs.length (intsV xs) (as_src (hin.below hb0) hc) (by unfold maxLen; omega) (by omega) hb0.size
 rw [Nat.zero_add, List.nil_append] at hown
 have hval : ∃ va vc, v' = .slice va xs.length vc := by
  rcases own_forms hown with ⟨rfl, h0, _⟩ | ⟨g, cp, rfl⟩
  ·
   exact ⟨none, 0, by rw [h0]⟩
  ·
   exact ⟨_, _, rfl⟩
 obtain ⟨va, vc, rfl⟩ := hval
 have HF : Hid (Y.ownsRow w.heap.size 2 1 (.slice va xs.length vc) xs.length (intsV xs) ∧ Below w.heap.size w Y) := by
  refine ⟨hown, hb0.grown hg hb0.size (fun q e => ?_)⟩
  have : w.heap.size = q := by simpa [Value.ownBlock] using e
  omega
 clear hown hg hP0 hb0 hin
 go_enter Try.func40, Try.ntmps40
 go_wp2_with (at_builtin; refine wpList_append_run rfl (.tmp 3) (.tmp 4) 44 rfl _ _ _ rfl rfl hrun ?_; clear hrun)
 go_ret
 exact ⟨va, vc, rfl, HF.out⟩

set_option maxHeartbeats 4000000 in
set_option maxRecDepth 100000 in
theorem specCopyD (a : Option Addr) (len cap : Nat) (ts : List Ta) (ep nw : Int) (jr : List UInt8) (w : World) (hin : TasksOk w a len cap ts) (hsh : ShortTa ts) (hlen : len ≤ 1048576) :
 Calls Try.prog 20 #[.agg #[.slice a len cap, .int .i64 ep, .int .i64 nw, .string ⟨jr.toArray⟩]] w
  fun e w' => ∃ va vc xs, e = .returned (.agg #[.slice va len vc, .int .i64 ep, .int .i64 nw, .string ⟨jr.toArray⟩]) ∧ xs.map (·.1) = ts ∧ TksOwn w' w.heap.size (.slice va len vc) xs ∧ ApartR (xs.map tvT) ∧ Below w.heap.size w w' := by
 obtain rfl : ts.length = len := hin.1
 obtain ⟨D, hD⟩ : ∃ D, w.heap.size = D := ⟨_, rfl⟩
 obtain ⟨W1, hW1⟩ : ∃ W, w.alloc (.cells #[.slice a ts.length cap, .int .i64 ep, .int .i64 nw, .string ⟨jr.toArray⟩] 26) = W := ⟨_, rfl⟩
 obtain ⟨W2, hW2⟩ : ∃ W, W1.alloc (.cells #[.slice none 0 0, .int .i64 0, .int .i64 0, .string ⟨#[]⟩] 26) = W := ⟨_, rfl⟩
 have hs1 : W1.heap.size = D + 1 := by rw [← hW1, ← hD]; simp
 have hs2 : W2.heap.size = D + 2 := by rw [← hW2]; simp [hs1]
 have hb1 : Below D w W1 := by rw [← hW1, ← hD]; exact (Below.refl _ _).alloc (Nat.le_refl _) _
 have hb12 : Below W1.heap.size W1 W2 := by rw [← hW2]; exact (Below.refl _ _).alloc (Nat.le_refl _) _
 have hb2 : Below D w W2 := hb1.trans (hb12.mono (by omega))
 have bD := B4.new w (.slice a ts.length cap) (.int .i64 ep) (.int .i64 nw) (.string ⟨jr.toArray⟩) 26
 rw [hW1, hD] at bD
 have bR := B4.new W1 (.slice none 0 0) (.int .i64 0) (.int .i64 0) (.string ⟨#[]⟩) 26
 rw [hW2, hs1] at bR
 have HD : Hid (∀ Z, Below W2.heap.size W2 Z → B4 Z D (.slice a ts.length cap) (.int .i64 ep) (.int .i64 nw) (.string ⟨jr.toArray⟩) ∧ B4 Z (D + 1) (.slice none 0 0) (.int .i64 0) (.int .i64 0) (.string ⟨#[]⟩) ∧ TasksOk Z a ts.length cap ts ∧ Below D w Z) := fun Z hz =>
  ⟨(bD.below hb12).below hz, bR.below hz, (hin.below (by rw [hD]; exact hb2)).below hz, hb2.trans (hz.mono (by omega))⟩
 have HS : Hid (ShortTa ts) := hsh
 obtain ⟨d0, d1, d2, d3⟩ : W2.cell? ⟨D, 0, none⟩ = some (.slice a ts.length cap) ∧ W2.cell? ⟨D, 1, none⟩ = some (.int .i64 ep) ∧ W2.cell? ⟨D, 2, none⟩ = some (.int .i64 nw) ∧ W2.cell? ⟨D, 3, none⟩ = some (.string ⟨jr.toArray⟩) := by
  have h := (HD.out W2 (Below.refl _ _)).1
  exact ⟨h.c0, h.c1, h.c2, h.c3⟩
 obtain ⟨V, hV⟩ : ∃ V, W2.alloc (.cells #[.slice (some ⟨D + 2 + 1, 0, none⟩) 0 0, .int .i64 ep, .int .i64 nw, .string ⟨jr.toArray⟩] 26) = V := ⟨_, rfl⟩
 have bO := B4.new W2 (.slice (some ⟨D + 2 + 1, 0, none⟩) 0 0) (.int .i64 ep) (.int .i64 nw) (.string ⟨jr.toArray⟩) 26
 rw [hV, hs2] at bO
 have hsV : V.heap.size = D + 2 + 1 := by rw [← hV]; simp [hs2]
 have hbV : Below W2.heap.size W2 V := by rw [← hV]; exact (Below.refl _ _).alloc (Nat.le_refl _) _
 have hbV2 : Below V.heap.size V (V.alloc (.cells #[] 46)) := (Below.refl _ _).alloc (Nat.le_refl _) _
 have HO0 : Hid (B4 (V.alloc (.cells #[] 46)) (D + 2) (.slice (some ⟨D + 2 + 1, 0, none⟩) 0 0) (.int .i64 ep) (.int .i64 nw) (.string ⟨jr.toArray⟩)) := bO.below hbV2
 have HF0 : Hid (TksOwn (V.alloc (.cells #[] 46)) (D + 3) (.slice (some ⟨D + 2 + 1, 0, none⟩) 0 0) []) := by
  have h := World.ownsRow_lit (base := V.heap.size) (e := 46) (size := 6) V #[] 0 (Nat.le_refl _) (by decide) rfl
  rw [hsV] at h
  exact ⟨h, fun x hx => by cases hx⟩
 have HB0 : Hid (Below W2.heap.size W2 (V.alloc (.cells #[] 46))) := hbV.trans (hbV2.mono hbV.size)
 clear hin hsh bD bR hb1 hb12 hb2 bO hsV hbV hbV2
 go_enter Try.func20, Try.ntmps20
 go_wp2
 go_loopw [4] (fun iv wx => ∃ (i : Nat) (xs : List TV) (ga : Option Addr) (gc : Nat), iv = .int .i64 (i : Int) ∧ i ≤ ts.length ∧ xs.length = i ∧ Hid (xs.map (·.1) = ts.take i) ∧ Hid (B4 wx (D + 2) (.slice ga i gc) (.int .i64 ep) (.int .i64 nw) (.string ⟨jr.toArray⟩)) ∧ Hid (TksOwn wx (D + 3) (.slice ga i gc) xs) ∧ Hid (ApartR (xs.map tvT)) ∧ Hid (Below W2.heap.size W2 wx)) (fun iv _ => ts.length - (intOf iv).toNat)
 case atStart => exact ⟨0, [], some ⟨D + 2 + 1, 0, none⟩, 0, rfl, Nat.zero_le _, rfl, rfl, HO0, HF0, ApartR.nil, HB0⟩
 case round =>
  obtain ⟨i, xs, ga, gc, rfl, hi, hxl, HM, HO, HF, HAP, HBr⟩ := hrel
  clear HO0 HF0 HB0 d0 d1 d2 d3
  have hsr : D + 3 ≤ wr.heap.size := by have := HO.out.lt; omega
  obtain ⟨bd, br, hok, hbD⟩ := HD.out wr HBr.out
  have d0 := bd.c0
  have o0 := HO.out.c0
  by_cases hlt : (i : Int) < (ts.length : Int)
  ·
   obtain ⟨b, off, rfl, hbl, c0, ⟨na, nc, c1, hn1, hnz⟩, c2, c3, c4, c5⟩ := hok.2.2 i (by omega)
   have hsi := HS.out i
   have hmk : ts.take (i + 1) = ts.take i ++ [ts.getD i ta0] := by
    have hg : ts.getD i ta0 = ts[i]'(by omega) := by simp [List.getD, show i < ts.length by omega]
    rw [hg, List.take_succ_eq_append_getElem]
   obtain ⟨f, hf⟩ : ∃ f, ts.getD i ta0 = f := ⟨_, rfl⟩
   rw [hf] at c0 c1 c2 c3 c4 c5 hn1 hsi hmk
   obtain ⟨nm, ns, st, wk, un, ke⟩ := f
   simp only at c0 c1 c2 c3 c4 c5 hn1 hsi
   have HMK : Hid (ts.take (i + 1) = ts.take i ++ [(nm, ns, st, wk, un, ke)]) := hmk
   obtain ⟨Y, hY⟩ : ∃ Y, wr.alloc (.cells #[.string ⟨nm.toArray⟩, .slice na ns.length nc, .int .i64 st, .int .i64 wk, .int .i64 un, .int .i64 ke] 46) = Y := ⟨_, rfl⟩
   have hbY : Below wr.heap.size wr Y := by rw [← hY]; exact (Below.refl _ _).alloc (Nat.le_refl _) _
   have hsY : Y.heap.size = wr.heap.size + 1 := by rw [← hY]; simp
   have bE := B6.new wr (.string ⟨nm.toArray⟩) (.slice na ns.length nc) (.int .i64 st) (.int .i64 wk) (.int .i64 un) (.int .i64 ke) 46
   rw [hY] at bE
   obtain ⟨E, hE⟩ : ∃ E, wr.heap.size = E := ⟨_, rfl⟩
   have HC : Hid (_) := specCopy18 na nc ns Y (hn1.below hbY) hnz hsi.2
   have HBE : Hid (B6 Y E (.string ⟨nm.toArray⟩) (.slice na ns.length nc) (.int .i64 st) (.int .i64 wk) (.int .i64 un) (.int .i64 ke)) := by rw [← hE]; exact bE
   have HbY : Hid (Below wr.heap.size wr Y) := hbY
   rw [hE] at hsY
   have e1 := HBE.out.c1
   have HE : Hid (wr.heap.size = E) := hE
   clear hf hn1 hmk bE hbY bd br hbD hok
   go_wp2_with fail
   refine Calls.mono HC.out ?_
   rintro e w2 ⟨va, vc, rfl, hown, hb2⟩
   have hb2r : Below wr.heap.size wr w2 := HbY.out.trans (hb2.mono HbY.out.size)
   have b2 := HBE.out.below hb2
   have bU := b2.s1 (.slice va ns.length vc)
   have q1 := b2.c1
   have qf := b2.fr 1
   obtain ⟨U, hU⟩ : ∃ U, w2.setCell ⟨E, 1, none⟩ (.slice va ns.length vc) = U := ⟨_, rfl⟩
   have hgU : w2.grownBy U (some E) := by rw [← hU]; exact grown_set _ _ _ _
   rw [hU] at bU
   have hrE := HE.out
   have hFU : TksOwn U (D + 3) (.slice ga i gc) xs := (HF.out.below hb2r).kept hgU (own_under HF.out.row (by omega)) (fun x hx => own_under (HF.out.trees x hx) (by omega))
   have hnU : U.ownsRow (E + 1) 2 1 (.slice va ns.length vc) ns.length (intsV ns) := by rw [← hsY]; exact hown.kept hgU (own_offR hown (by omega))
   have hBU : Below W2.heap.size W2 U := (HBr.out.trans (hb2r.mono HBr.out.size)).grown hgU (Nat.le_trans HBr.out.size hb2r.size) (fun k e => by injection e with e; have := HBr.out.size; omega)
   have bO := (HO.out.below hb2r).grown hgU (by simp; omega)
   obtain ⟨v', Z, hrun, hFZ, hgZ⟩ := push_tk hFU ((nm, ns, st, wk, un, ke), va, vc) (own_base hnU (by omega)) (by have := hb2r.size; have := hgU.size; omega) (by omega)
   simp only at hrun
   have hT : tvT ((nm, ns, st, wk, un, ke), va, vc) = .slice va ns.length vc := rfl
   rw [hT] at hrun
   obtain ⟨ga2, gc2, rfl⟩ := own_deskV hFZ
   have hoff : (Value.slice ga i gc).ownBlock ≠ some (D + 2) := by
    rcases own_offR (R := D + 2) HF.out.row (by omega) with h | h
    ·
     rw [h]; simp
    ·
     exact h
   have bOZ := bO.grown hgZ hoff
   have bOF := bOZ.s0 (.slice ga2 (xs ++ [((nm, ns, st, wk, un, ke), va, vc)]).length gc2)
   have z0 := bOZ.c0
   have zf := bOZ.fr 0
   have hl1 : (xs ++ [((nm, ns, st, wk, un, ke), va, vc)]).length = i + 1 := by simp [hxl]
   rw [hl1] at hFZ bOF hrun
   obtain ⟨Zf, hZf⟩ : ∃ Zf, Z.setCell ⟨D + 2, 0, none⟩ (.slice ga2 (i + 1) gc2) = Zf := ⟨_, rfl⟩
   have hgF : Z.grownBy Zf (some (D + 2)) := by rw [← hZf]; exact grown_set _ _ _ _
   rw [hZf] at bOF
   have HO2 : Hid (B4 Zf (D + 2) (.slice ga2 (i + 1) gc2) (.int .i64 ep) (.int .i64 nw) (.string ⟨jr.toArray⟩)) := bOF
   have HF2 : Hid (TksOwn Zf (D + 3) (.slice ga2 (i + 1) gc2) (xs ++ [((nm, ns, st, wk, un, ke), va, vc)])) := hFZ.kept hgF (own_offR hFZ.row (by omega)) (fun x hx => own_offR (hFZ.trees x hx) (by omega))
   have HM2 : Hid ((xs ++ [((nm, ns, st, wk, un, ke), va, vc)]).map (·.1) = ts.take (i + 1)) := by exact (by rw [List.map_append, HM.out, HMK.out]; rfl : (xs ++ [((nm, ns, st, wk, un, ke), va, vc)]).map (·.1) = ts.take (i + 1))
   have HAP2 : Hid (ApartR ((xs ++ [((nm, ns, st, wk, un, ke), va, vc)]).map tvT)) := by
    rw [List.map_append]
    refine HAP.out.snoc (fun v hv => ?_)
    obtain ⟨x, hx, rfl⟩ := List.mem_map.1 hv
    exact own_aheadR (HF.out.trees x hx) hnU (by omega)
   have HB2 : Hid (Below W2.heap.size W2 Zf) := by
    have h1 : Below W2.heap.size W2 Z := hBU.grown hgZ hBU.size (fun k e => by have := (HF.out.row.lt k e).1; omega)
    exact h1.grown hgF h1.size (fun k e => by injection e with e; omega)
   have HL2 : Hid ((xs ++ [((nm, ns, st, wk, un, ke), va, vc)]).length = i + 1) := hl1
   have u0 := bU.c0
   have u1 := bU.c1
   have u2 := bU.c2
   have u3 := bU.c3
   have u4 := bU.c4
   have u5 := bU.c5
   have x0 := bO.c0
   have hEO : ¬ E = D + 2 := by omega
   clear hown hb2 hb2r b2 bU hgU hFU hnU hBU bO hFZ hgZ hoff bOZ bOF hl1 hgF HC HBE HF HO HM HAP HBr HMK hT d0 o0
   go_wp2_with (at_builtin; refine wpList_append_run rfl (.tmp 26) (.tmp 28) 24 rfl _ _ _ rfl rfl hrun ?_; clear hrun)
   go_roundw
   case rel => exact ⟨i + 1, _, ga2, gc2, by go_num, by omega, HL2.out, HM2, HO2, HF2, HAP2, HB2⟩
   case measure => simp [intOf]; omega
  ·
   obtain rfl : i = ts.length := by omega
   have HM2 : Hid (xs.map (·.1) = ts) := by exact (by rw [HM.out, List.take_length] : xs.map (·.1) = ts)
   have o1 := HO.out.c1
   have o2 := HO.out.c2
   have o3 := HO.out.c3
   have r0 := br.c0
   have r1 := br.c1
   have r2 := br.c2
   have r3 := br.c3
   have f0 := br.fr 0
   have f1 := br.fr 1
   have f2 := br.fr 2
   have f3 := br.fr 3
   have HBD : Hid (Below D w wr) := hbD
   clear hbD hok bd br HM
   go_wp2
   obtain ⟨X, hX, y0, y1, y2, y3, hg⟩ := set4 (.slice ga ts.length gc) (.int .i64 ep) (.int .i64 nw) (.string ⟨jr.toArray⟩) r0 r1 r2 r3
   rw [hX]
   refine bodyPost_ret (v := .agg #[.slice ga ts.length gc, .int .i64 ep, .int .i64 nw, .string ⟨jr.toArray⟩]) (by simp [results, Try.results20, go_sem, y0, y1, y2, y3]) rfl ?_
   have hk := HF.out.kept hg (own_offR HF.out.row (by omega)) (fun y hy => own_offR (HF.out.trees y hy) (by omega))
   exact ⟨ga, gc, rfl, xs, HM2.out, hk.base (by omega), HAP.out, HBD.out.grown hg (by omega) (fun k e => by injection e with e; omega)⟩

end Go.Proofs.Ytaioedcaopbgkaa

/-! The contracts of chapter 18's specification: l18Tick, Ticked. -/
namespace Go.Proofs.Ytaioedcaopbgkaa
open Go.RowKit

/-- A desk that a call hands out, in memory of its own. -/
def DkOut (w w' : World) (v : Value) (d : Dk) : Prop := ∃ va vc xs, v = .agg #[.slice va d.1.length vc, .int .i64 d.2.1, .int .i64 d.2.2.1, .string ⟨d.2.2.2.toArray⟩] ∧ xs.map (·.1) = d.1 ∧ TksOwn w' w.heap.size (.slice va d.1.length vc) xs ∧ ApartR (xs.map tvT) ∧ Below w.heap.size w w'
theorem DkOut.zero {w w' : World} (h : Below w.heap.size w w') : DkOut w w' (.agg #[.slice none 0 0, .int .i64 0, .int .i64 0, .string ⟨#[]⟩]) dk0 := ⟨none, 0, [], rfl, rfl, TksOwn.nil _ _, ApartR.nil, h⟩

set_option maxHeartbeats 1000000 in
set_option maxRecDepth 100000 in
theorem specTick (B : Nat) (va v1 v3 : Value) (nw n : Int) (w : World) (h : B4 w B va v1 (.int .i64 nw) v3) (h0 : 0 ≤ nw) (h1 : nw ≤ 1000000) (hn0 : -9223372036854775808 ≤ n) (hn1 : n ≤ 9223372036854775807) :
 Calls Try.prog 48 #[.pointer (some ⟨B, 0, none⟩), .int .i64 n] w fun e w' => e = .returned (.bool (inB n 0 (1000000 - nw))) ∧ w' = if inB n 0 (1000000 - nw) = true then w.setCell ⟨B, 2, none⟩ (.int .i64 (nw + n)) else w := by
 have HI : Hid (_) := specIn n 0 (1000000 - nw) w
 have k2 := h.c2
 have kf := h.fr 2
 have HB : Hid (inB n 0 (1000000 - nw) = true → 0 ≤ n ∧ n ≤ 1000000 - nw) := fun e => by unfold inB at e; exact of_decide_eq_true e
 generalize inB n 0 (1000000 - nw) = b at HI HB ⊢
 clear h
 rcases b with _ | _
 ·
  go_enter Try.func48, Try.ntmps48
  go_wp2_with (go_at_call 36; refine Calls.mono HI.out ?_; rintro e w1 ⟨rfl, rfl⟩)
  go_ret
  exact ⟨rfl, rfl⟩
 ·
  obtain ⟨hb0, hb1⟩ := HB.out rfl
  go_enter Try.func48, Try.ntmps48
  go_wp2_with (go_at_call 36; refine Calls.mono HI.out ?_; rintro e w1 ⟨rfl, rfl⟩)
  go_ret
  exact ⟨rfl, rfl⟩


end Go.Proofs.Ytaioedcaopbgkaa
