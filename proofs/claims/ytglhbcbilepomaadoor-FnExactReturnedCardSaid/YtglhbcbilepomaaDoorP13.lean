/-
  Parts of one proof, one behind the other: TkM2, TaskS4, TaskS5.
-/
import Derived.Test.YtglhbcbilepomaaDoorP12
import Derived.Test.YtglhbcbilepomaaDoorP8

/-! A desk's marks, also where it has no task at all (nil). -/
namespace Go.Proofs.YtglhbcbilepomaaDoor
open Go.RowKit

set_option maxHeartbeats 1000000 in
set_option maxRecDepth 100000 in
theorem markTaskN (w : World) (k0 : Nat) : Calls Tryd.prog 21 #[.slice none 0 0, .int .i64 k0] w fun e w' => e = .returned (.int .i64 (k0 : Int)) ∧ w' = w := by
  go_enter Tryd.func21, Tryd.ntmps21
  go_wp2
  go_loopw [1, 5] (fun k i wr => k = .int .i64 (k0 : Int) ∧ i = .int .i64 0 ∧ wr = w) (fun _ _ _ => 0)
  case atStart => exact ⟨rfl, rfl, rfl⟩
  case round =>
    obtain ⟨rfl, rfl, rfl⟩ := hrel
    go_wp2
    go_ret
    exact ⟨rfl, rfl⟩
set_option maxHeartbeats 1000000 in
set_option maxRecDepth 100000 in
theorem heldTaskN (w : World) (k0 : Nat) : Calls Tryd.prog 22 #[.slice none 0 0, .int .i64 k0] w fun e w' => e = .returned (.int .i64 (k0 : Int)) ∧ w' = w := by
  go_enter Tryd.func22, Tryd.ntmps22
  go_wp2
  go_loopw [1, 5] (fun k i wr => k = .int .i64 (k0 : Int) ∧ i = .int .i64 0 ∧ wr = w) (fun _ _ _ => 0)
  case atStart => exact ⟨rfl, rfl, rfl⟩
  case round =>
    obtain ⟨rfl, rfl, rfl⟩ := hrel
    go_wp2
    go_ret
    exact ⟨rfl, rfl⟩
theorem markTaskV (w : World) (base k0 : Nat) (v : Value) (xs : List TV) (hn : xs.length ≤ 1100000) (hk0 : 0 < k0) (hk1 : tend k0 xs ≤ 30000000) (hls : ∀ x ∈ xs, x.1.2.1.length ≤ 1100000) (hap : ApartR (xs.map tvT)) (h : TksOwn w base v xs) :
    Calls Tryd.prog 21 #[v, .int .i64 k0] w fun e w' => e = .returned (.int .i64 ((tend k0 xs : Nat) : Int)) ∧ TksOwn w' base v (tmark k0 xs) ∧ WroteR w w' (TkBlocks v xs) := by
  rcases own_forms h.row with ⟨rfl, h0, _⟩ | ⟨g, cp, rfl⟩
  · obtain rfl : xs = [] := List.eq_nil_of_length_eq_zero h0
    refine (markTaskN w k0).mono ?_
    rintro e w' ⟨rfl, rfl⟩
    exact ⟨rfl, TksOwn.nil _ _, WroteR.refl _ _⟩
  · exact markTaskSC w base g cp k0 xs hn hk0 hk1 hls hap h
theorem heldTaskV (w : World) (base k0 : Nat) (v : Value) (xs : List TV) (hn : xs.length ≤ 1100000) (hk0 : 0 < k0) (hk1 : tend k0 xs ≤ 30000000) (hls : ∀ x ∈ xs, x.1.2.1.length ≤ 1100000) (h : TksOwn w base v (tmark k0 xs)) :
    Calls Tryd.prog 22 #[v, .int .i64 k0] w fun e w' => e = .returned (.int .i64 ((tend k0 xs : Nat) : Int)) ∧ w.grownBy w' none := by
  have hrow := h.row
  rw [tmark_len] at hrow
  rcases own_forms hrow with ⟨rfl, h0, _⟩ | ⟨g, cp, rfl⟩
  · obtain rfl : xs = [] := List.eq_nil_of_length_eq_zero h0
    refine (heldTaskN w k0).mono ?_
    rintro e w' ⟨rfl, rfl⟩
    exact ⟨rfl, World.grownBy.refl _ _⟩
  · exact heldTaskSC w base g cp k0 xs hn hk0 hk1 hls h

set_option maxHeartbeats 1000000 in
set_option maxRecDepth 100000 in
theorem markDeskV (w : World) (base k0 : Nat) (v v1 v2 v3 : Value) (xs : List TV) (hn : xs.length ≤ 1100000) (hk0 : 0 < k0) (hk1 : tend k0 xs ≤ 30000000) (hls : ∀ x ∈ xs, x.1.2.1.length ≤ 1100000) (hap : ApartR (xs.map tvT)) (h : TksOwn w base v xs) :
    Calls Tryd.prog 9 #[.agg #[v, v1, v2, v3], .int .i64 k0] w fun e w' => e = .returned (.int .i64 ((tend k0 xs : Nat) : Int)) ∧ TksOwn w' base v (tmark k0 xs) ∧ WroteR w w' (TkBlocks v xs) := by
  obtain ⟨D, hD⟩ : ∃ D, w.heap.size = D := ⟨_, rfl⟩
  obtain ⟨W, hW⟩ : ∃ W, w.alloc (.cells #[v, v1, v2, v3] 28) = W := ⟨_, rfl⟩
  have bD := B4.new w v v1 v2 v3 28
  rw [hW, hD] at bD
  have hbW : Below w.heap.size w W := by rw [← hW]; exact (Below.refl _ _).alloc (Nat.le_refl _) _
  have HC : Hid (_) := markTaskV W base k0 v xs hn hk0 hk1 hls hap (h.below hbW)
  have HB : Hid (Below w.heap.size w W) := hbW
  have k0c := bD.c0
  clear h hbW hap hls bD
  go_enter Tryd.func9, Tryd.ntmps9
  go_wp2_with fail
  refine Calls.mono HC.out ?_
  rintro e w1 ⟨rfl, ho, hw⟩
  have HF : Hid (TksOwn w1 base v (tmark k0 xs) ∧ WroteR w w1 (TkBlocks v xs)) := ⟨ho, (WroteR.of_below HB.out).trans hw⟩
  clear ho hw HC
  go_wp2
  go_ret
  exact ⟨rfl, HF.out⟩
set_option maxHeartbeats 1000000 in
set_option maxRecDepth 100000 in
theorem heldDeskV (w : World) (base k0 : Nat) (v v1 v2 v3 : Value) (xs : List TV) (hn : xs.length ≤ 1100000) (hk0 : 0 < k0) (hk1 : tend k0 xs ≤ 30000000) (hls : ∀ x ∈ xs, x.1.2.1.length ≤ 1100000) (h : TksOwn w base v (tmark k0 xs)) :
    Calls Tryd.prog 10 #[.agg #[v, v1, v2, v3], .int .i64 k0] w fun e w' => e = .returned (.int .i64 ((tend k0 xs : Nat) : Int)) ∧ w.grownBy w' none := by
  obtain ⟨D, hD⟩ : ∃ D, w.heap.size = D := ⟨_, rfl⟩
  obtain ⟨W, hW⟩ : ∃ W, w.alloc (.cells #[v, v1, v2, v3] 28) = W := ⟨_, rfl⟩
  have bD := B4.new w v v1 v2 v3 28
  rw [hW, hD] at bD
  have hbW : Below w.heap.size w W := by rw [← hW]; exact (Below.refl _ _).alloc (Nat.le_refl _) _
  have HC : Hid (_) := heldTaskV W base k0 v xs hn hk0 hk1 hls (h.below hbW)
  have HB : Hid (w.grownBy W none) := by rw [← hW]; exact World.grownBy_alloc w _ _
  have hge : ¬ ((tend k0 xs : Nat) : Int) < 0 := by omega
  have k0c := bD.c0
  generalize tend k0 xs = z at HC hge ⊢
  clear h hbW hls hk1 bD
  go_enter Tryd.func10, Tryd.ntmps10
  go_wp2_with fail
  refine Calls.mono HC.out ?_
  rintro e w1 ⟨rfl, hg⟩
  have HG : Hid (w.grownBy w1 none) := HB.out.trans hg
  clear HC hg
  go_wp2
  go_ret
  exact ⟨rfl, HG.out⟩

end Go.Proofs.YtglhbcbilepomaaDoor

/-! The contract of chapter 18's specification: DeskOk. -/
namespace Go.Proofs.YtglhbcbilepomaaDoor
open Go.RowKit

theorem deskB_head {ts : List Ta} {e n : Int} {j : List UInt8} (h : ¬ (((inB (ts.length : Int) 1 8 && inB e 1 1000) && inB n 0 1000000) = true ∧ j.length ≤ 60000)) : deskB (ts, e, n, j) = false := by
  rw [Bool.eq_false_iff]
  intro k
  obtain ⟨h1, h2, h3, h4, _⟩ := deskB_iff.1 k
  refine h ⟨?_, h4⟩
  simp only at h1 h2 h3
  unfold inB
  simp only [Bool.and_eq_true, decide_eq_true_eq]
  omega
theorem deskB_no {ts : List Ta} {e n : Int} {j : List UInt8} {i : Nat} (hi : i < ts.length) (h : ¬ one18 ts i) : deskB (ts, e, n, j) = false := by
  rw [Bool.eq_false_iff]
  intro k
  exact h ((deskB_iff.1 k).one i hi)
theorem deskB_yes {ts : List Ta} {e n : Int} {j : List UInt8} (h1 : inB (ts.length : Int) 1 8 = true) (h2 : inB e 1 1000 = true) (h3 : inB n 0 1000000 = true) (h4 : j.length ≤ 60000) (h : ∀ i, i < ts.length → one18 ts i) : deskB (ts, e, n, j) = true := by
  unfold inB at h1 h2 h3
  have h1 := of_decide_eq_true h1
  exact deskB_iff.2 ⟨by show 1 ≤ ts.length ∧ ts.length ≤ 8; omega, of_decide_eq_true h2, of_decide_eq_true h3, h4, h⟩

set_option maxHeartbeats 4000000 in
set_option maxRecDepth 100000 in
theorem specDeskOk (a : Option Addr) (len cap : Nat) (ts : List Ta) (ep nw : Int) (jr : List UInt8) (w : World) (hin : TasksIn w a len ts) (hsh : ShortTa ts) (hlen : len ≤ 1048576) :
    Calls Tryd.prog 12 #[.agg #[.slice a len cap, .int .i64 ep, .int .i64 nw, .string ⟨jr.toArray⟩]] w
      fun e w' => e = .returned (.bool (deskB (ts, ep, nw, jr))) ∧ Below w.heap.size w w' := by
  obtain rfl : ts.length = len := hin.1
  obtain ⟨W, hW⟩ : ∃ W, w.alloc (.cells #[.slice a ts.length cap, .int .i64 ep, .int .i64 nw, .string ⟨jr.toArray⟩] 28) = W := ⟨_, rfl⟩
  have hbW : Below w.heap.size w W := by rw [← hW]; exact (Below.refl _ _).alloc (Nat.le_refl _) _
  have hA : W.heap[w.heap.size]? = some (.cells #[.slice a ts.length cap, .int .i64 ep, .int .i64 nw, .string ⟨jr.toArray⟩] 28) := by rw [← hW]; exact heap_alloc_new w _
  obtain ⟨D, hD⟩ : ∃ D, w.heap.size = D := ⟨_, rfl⟩
  rw [hD] at hA
  have k0 : W.cell? ⟨D, 0, none⟩ = some (.slice a ts.length cap) := by simp [World.cell?, hA]
  have k1 : W.cell? ⟨D, 1, none⟩ = some (.int .i64 ep) := by simp [World.cell?, hA]
  have k2 : W.cell? ⟨D, 2, none⟩ = some (.int .i64 nw) := by simp [World.cell?, hA]
  have k3 : W.cell? ⟨D, 3, none⟩ = some (.string ⟨jr.toArray⟩) := by simp [World.cell?, hA]
  have hDl : D < W.heap.size := World.block_lt_of_cell? W ⟨D, 0, none⟩ k0
  have HI : Hid (∀ Z, Below W.heap.size W Z → TasksIn Z a ts.length ts) := fun Z hz => (hin.below hbW).below hz
  have HB : Hid (∀ Z, Below W.heap.size W Z → Below D w Z) := fun Z hz => hD ▸ hbW.trans (hz.mono hbW.size)
  have HC : Hid (∀ Z, Below W.heap.size W Z → Z.cell? ⟨D, 0, none⟩ = some (.slice a ts.length cap)) := fun Z hz => (hz.cell (p := ⟨D, 0, none⟩) hDl).trans k0
  have HN : Hid (_) := specIn (ts.length : Int) 1 8 W
  have HE : Hid (_) := specIn ep 1 1000 W
  have HT : Hid (_) := specTime nw W
  have HS : Hid (ShortTa ts) := hsh
  have HB0 : Hid (Below W.heap.size W W) := Below.refl _ _
  have HH : Hid (¬ (((inB (ts.length : Int) 1 8 && inB ep 1 1000) && inB nw 0 1000000) = true ∧ jr.length ≤ 60000) → deskB (ts, ep, nw, jr) = false) := deskB_head
  have HY : Hid (inB (ts.length : Int) 1 8 = true → inB ep 1 1000 = true → inB nw 0 1000000 = true → jr.length ≤ 60000 → (∀ i, i < ts.length → one18 ts i) → deskB (ts, ep, nw, jr) = true) := deskB_yes
  generalize inB (ts.length : Int) 1 8 = b1 at HN HH HY
  generalize inB ep 1 1000 = b2 at HE HH HY
  generalize inB nw 0 1000000 = b3 at HT HH HY
  clear hin hsh hbW hA hDl
  go_enter Tryd.func12, Tryd.ntmps12
  go_wp2_with fail
  refine Calls.mono HN.out ?_
  rintro e W1 ⟨rfl, hw1⟩
  obtain rfl := hw1.symm
  clear hw1 HN
  rcases b1 with _ | _
  · have HF : Hid (_) := HH.out (fun e => by cases e.1)
    go_wp2
    go_ret
    exact ⟨by rw [HF.out]; rfl, hD ▸ HB.out _ HB0.out⟩
  · go_wp2_with fail
    refine Calls.mono HE.out ?_
    rintro e W2 ⟨rfl, hw2⟩
    obtain rfl := hw2.symm
    clear hw2 HE
    rcases b2 with _ | _
    · have HF : Hid (_) := HH.out (fun e => by cases e.1)
      go_wp2
      go_ret
      exact ⟨by rw [HF.out]; rfl, hD ▸ HB.out _ HB0.out⟩
    · go_wp2_with fail
      refine Calls.mono HT.out ?_
      rintro e W3 ⟨rfl, hw3⟩
      obtain rfl := hw3.symm
      clear hw3 HT
      rcases b3 with _ | _
      · have HF : Hid (_) := HH.out (fun e => by cases e.1)
        go_wp2
        go_ret
        exact ⟨by rw [HF.out]; rfl, hD ▸ HB.out _ HB0.out⟩
      · by_cases hj6 : jr.length ≤ 60000
        · have HY2 : Hid (_) := HY.out (by first | rfl | trivial) (by first | rfl | trivial) (by first | rfl | trivial) hj6
          clear HY HH
          go_wp2
          go_loopw [4] (fun iv wr => ∃ i : Nat, iv = .int .i64 (i : Int) ∧ i ≤ ts.length ∧ Hid (∀ q, q < i → one18 ts q) ∧ Hid (Below W.heap.size W wr)) (fun iv _ => ts.length - (intOf iv).toNat)
          case atStart => exact ⟨0, rfl, by omega, fun q hq => by omega, HB0⟩
          case round =>
            obtain ⟨i, rfl, hi, HA, HBr⟩ := hrel
            by_cases hlt : (i : Int) < (ts.length : Int)
            · have hI := HI.out wr HBr.out
              obtain ⟨b, off, rfl, hbl, c0, ⟨na, nc, c1, hn⟩, c2, c3, c4, c5⟩ := hI.2 i (by omega)
              clear k0
              have k0 := HC.out wr HBr.out
              have hsh := HS.out i
              have hN1 : one18 ts i ↔ nameB (ts.getD i ta0).1 = true ∧ taskB (i : Int) (ts.getD i ta0) = true ∧ ∀ k, k < i → (ts.getD k ta0).1 ≠ (ts.getD i ta0).1 := Iff.rfl
              obtain ⟨x, hx⟩ : ∃ x, ts.getD i ta0 = x := ⟨_, rfl⟩
              rw [hx] at c0 c1 hn c2 c3 c4 c5 hsh hN1
              obtain ⟨nm, ns, st, wk, un, ke⟩ := x
              simp only at c0 c1 hn c2 c3 c4 c5 hsh hN1
              have HNm : Hid (_) := specNameOk nm wr hsh.1
              have HTk : Hid (_) := specTask nm na nc ns st wk un ke i wr hn hsh.2
              have HNo : Hid (¬ one18 ts i → deskB (ts, ep, nw, jr) = false) := fun h => deskB_no (by omega) h
              have HN1 : Hid (_) := hN1
              clear hN1 hI hn hsh
              generalize nameB nm = b1 at HNm HN1
              generalize taskB (i : Int) (nm, ns, st, wk, un, ke) = b2 at HTk HN1
              rcases b1 with _ | _
              · have HF : Hid (_) := HNo.out (fun h => by cases (HN1.out.1 h).1)
                clear HNo HN1 HA HY2
                go_wp2_with (go_at_call 26; refine Calls.mono HNm.out ?_; rintro e w1 ⟨rfl, rfl⟩)
                go_ret
                exact ⟨by rw [HF.out]; rfl, hD ▸ HB.out _ HBr.out⟩
              · rcases b2 with _ | _
                · have HF : Hid (_) := HNo.out (fun h => by cases (HN1.out.1 h).2.1)
                  clear HNo HN1 HA HY2
                  go_wp2_with (first | (go_at_call 26; refine Calls.mono HNm.out ?_; rintro e w1 ⟨rfl, rfl⟩) | (go_at_call 27; refine Calls.mono HTk.out ?_; rintro e w2 ⟨rfl, hb2⟩))
                  go_ret
                  exact ⟨by rw [HF.out]; rfl, hD ▸ HB.out _ (HBr.out.trans (hb2.mono HBr.out.size))⟩
                · go_wp2_with (first | (go_at_call 26; refine Calls.mono HNm.out ?_; rintro e w1 ⟨rfl, rfl⟩) | (go_at_call 27; refine Calls.mono HTk.out ?_; rintro e w2 ⟨rfl, hb2⟩))
                  have HB2 : Hid (Below W.heap.size W w2) := HBr.out.trans (hb2.mono HBr.out.size)
                  have HX : Hid (∀ Z, Below W.heap.size W Z → Z.cell? ⟨b, off + i * 6, none⟩ = some (.string ⟨nm.toArray⟩)) := fun Z hz => by
                    obtain ⟨b', off', e, _, d0, _⟩ := (HI.out Z hz).2 i (by omega)
                    injection e with e
                    injection e with e1 e2 _
                    subst e1 e2
                    rw [hx] at d0
                    exact d0
                  have HXn : Hid ((ts.getD i ta0).1 = nm) := by exact (by rw [hx] : (ts.getD i ta0).1 = nm)
                  clear hb2 c0 c1 c2 c3 c4 c5 k0 HBr HTk HNm hx
                  go_loopw [5] (fun iv wr => ∃ k : Nat, iv = .int .i64 (k : Int) ∧ k ≤ i ∧ Hid (∀ q, q < k → (ts.getD q ta0).1 ≠ nm) ∧ Hid (Below W.heap.size W wr)) (fun iv _ => i - (intOf iv).toNat)
                  case atStart => exact ⟨0, rfl, by omega, fun q hq => by omega, HB2⟩
                  case round =>
                    obtain ⟨k, rfl, hk, HQ, HBk⟩ := hrel
                    rename World => U
                    clear HB2
                    have k0 := HC.out U HBk.out
                    have c0 := HX.out U HBk.out
                    have HBd : Hid (Below W.heap.size W U.drew) := HBk.out.trans (by exact ⟨rfl, rfl, rfl, Nat.le_refl _, fun _ _ => rfl⟩)
                    by_cases hkl : (k : Int) < (i : Int)
                    · obtain ⟨b', off', e, _, d0, _⟩ := (HI.out U HBk.out).2 k (by omega)
                      injection e with e
                      injection e with e1 e2 _
                      subst e1 e2
                      obtain ⟨y, hy⟩ : ∃ y, (ts.getD k ta0).1 = y := ⟨_, rfl⟩
                      rw [hy] at d0
                      by_cases hyn : y = nm
                      · have HF : Hid (_) := HNo.out (fun h => (HN1.out.1 h).2.2 k (by omega) (by rw [hy]; exact hyn))
                        have heb : (y == nm) = true := by rw [hyn]; simp
                        clear HQ HNo HN1 HX HI HC HA hy hyn
                        go_wp2
                        refine wp_region_held_drew (S := fun Z => Z.cell? ⟨D, 0, none⟩ = some (.slice (some ⟨b, off, none⟩) ts.length cap) ∧ Z.cell? ⟨b, off + k * 6, none⟩ = some (.string ⟨y.toArray⟩) ∧ Z.cell? ⟨b, off + i * 6, none⟩ = some (.string ⟨nm.toArray⟩)) (by kernel_rfl) (by exact ⟨k0, d0, c0⟩) (fun hHeld => ?_)
                        refine wpAnyH_take (i := 0) (oi := ⟨some 58, _, _, _, _, _⟩) (v := ?v232) rfl (by kernel_rfl) (by kernel_rfl) (by kernel_rfl) (fun _ _ _ h => h) (Or.inl ⟨by rfl, ?hy232⟩) (by assumption) ?rest232
                        case hy232 => (intro wq hSw; obtain ⟨z0, z1, z2⟩ := hSw; first | (go_simp; done) | (go_simp; with_reducible rfl) | (go_simp; rw [if_pos (by omega)]))
                        simp only [Act.put, List.setIfInBounds_toArray, List.set_cons_zero, List.set_cons_succ]
                        refine wpAnyH_take (i := 1) (oi := ⟨some 59, _, _, _, _, _⟩) (v := ?v233) rfl (by kernel_rfl) (by kernel_rfl) (by kernel_rfl) (fun _ _ _ h => h) (Or.inl ⟨by rfl, ?hy233⟩) (by assumption) ?rest233
                        case hy233 => (intro wq hSw; obtain ⟨z0, z1, z2⟩ := hSw; first | (go_simp; done) | (go_simp; with_reducible rfl) | (go_simp; rw [if_pos (by omega)]))
                        simp only [Act.put, List.setIfInBounds_toArray, List.set_cons_zero, List.set_cons_succ]
                        refine wpAnyH_take (i := 2) (oi := ⟨some 60, _, _, _, _, _⟩) (v := ?v234) rfl (by kernel_rfl) (by kernel_rfl) (by kernel_rfl) (fun _ _ _ h => h) (Or.inl ⟨by rfl, ?hy234⟩) (by assumption) ?rest234
                        case hy234 => (intro wq hSw; obtain ⟨z0, z1, z2⟩ := hSw; first | (go_simp; done) | (go_simp; with_reducible rfl) | (go_simp; rw [if_pos (by omega)]))
                        simp only [Act.put, List.setIfInBounds_toArray, List.set_cons_zero, List.set_cons_succ]
                        refine wpAnyH_take (i := 3) (oi := ⟨some 61, _, _, _, _, _⟩) (v := ?v235) rfl (by kernel_rfl) (by kernel_rfl) (by kernel_rfl) (fun _ _ _ h => h) (Or.inl ⟨by rfl, ?hy235⟩) (by assumption) ?rest235
                        case hy235 => (intro wq hSw; obtain ⟨z0, z1, z2⟩ := hSw; first | (go_simp; done) | (go_simp; with_reducible rfl) | (go_simp; rw [if_pos (by omega)]))
                        simp only [Act.put, List.setIfInBounds_toArray, List.set_cons_zero, List.set_cons_succ]
                        refine wpAnyH_take (i := 4) (oi := ⟨some 62, _, _, _, _, _⟩) (v := ?v236) rfl (by kernel_rfl) (by kernel_rfl) (by kernel_rfl) (fun _ _ _ h => h) (Or.inl ⟨by rfl, ?hy236⟩) (by assumption) ?rest236
                        case hy236 => (intro wq hSw; obtain ⟨z0, z1, z2⟩ := hSw; first | (go_simp; done) | (go_simp; with_reducible rfl) | (go_simp; rw [if_pos (by omega)]))
                        simp only [Act.put, List.setIfInBounds_toArray, List.set_cons_zero, List.set_cons_succ]
                        refine wpAnyH_take (i := 5) (oi := ⟨some 63, _, _, _, _, _⟩) (v := ?v237) rfl (by kernel_rfl) (by kernel_rfl) (by kernel_rfl) (fun _ _ _ h => h) (Or.inl ⟨by rfl, ?hy237⟩) (by assumption) ?rest237
                        case hy237 => (intro wq hSw; obtain ⟨z0, z1, z2⟩ := hSw; first | (go_simp; done) | (go_simp; with_reducible rfl) | (go_simp; rw [if_pos (by omega)]))
                        simp only [Act.put, List.setIfInBounds_toArray, List.set_cons_zero, List.set_cons_succ]
                        refine wpAnyH_take (i := 6) (oi := ⟨some 64, _, _, _, _, _⟩) (v := ?v238) rfl (by kernel_rfl) (by kernel_rfl) (by kernel_rfl) (fun _ _ _ h => h) (Or.inl ⟨by rfl, ?hy238⟩) (by assumption) ?rest238
                        case hy238 => (intro wq hSw; obtain ⟨z0, z1, z2⟩ := hSw; first | (go_simp; done) | (go_simp; with_reducible rfl) | (go_simp; rw [if_pos (by omega)]))
                        simp only [Act.put, List.setIfInBounds_toArray, List.set_cons_zero, List.set_cons_succ]
                        refine wpAnyH_take (i := 7) (oi := ⟨some 65, _, _, _, _, _⟩) (v := ?v239) rfl (by kernel_rfl) (by kernel_rfl) (by kernel_rfl) (fun _ _ _ h => h) (Or.inl ⟨by rfl, ?hy239⟩) (by assumption) ?rest239
                        case hy239 => (intro wq hSw; obtain ⟨z0, z1, z2⟩ := hSw; first | (go_simp; done) | (go_simp; with_reducible rfl) | (go_simp; rw [if_pos (by omega)]))
                        simp only [Act.put, List.setIfInBounds_toArray, List.set_cons_zero, List.set_cons_succ]
                        refine wpAnyH_take (i := 8) (oi := ⟨some 66, _, _, _, _, _⟩) (v := ?v240) rfl (by kernel_rfl) (by kernel_rfl) (by kernel_rfl) (fun _ _ _ h => h) (Or.inl ⟨by rfl, ?hy240⟩) (by assumption) ?rest240
                        case hy240 => (intro wq hSw; obtain ⟨z0, z1, z2⟩ := hSw; first | (go_simp; done) | (go_simp; with_reducible rfl) | (go_simp; rw [if_pos (by omega)]))
                        simp only [Act.put, List.setIfInBounds_toArray, List.set_cons_zero, List.set_cons_succ]
                        refine wpAnyH_take (i := 9) (oi := ⟨some 67, _, _, _, _, _⟩) (v := ?v241) rfl (by kernel_rfl) (by kernel_rfl) (by kernel_rfl) (fun _ _ _ h => h) (Or.inl ⟨by rfl, ?hy241⟩) (by assumption) ?rest241
                        case hy241 => (intro wq hSw; obtain ⟨z0, z1, z2⟩ := hSw; first | (go_simp; done) | (go_simp; with_reducible rfl) | (go_simp; rw [if_pos (by omega)]))
                        simp only [Act.put, List.setIfInBounds_toArray, List.set_cons_zero, List.set_cons_succ]
                        refine wpAnyH_take (i := 10) (oi := ⟨some 68, _, _, _, _, _⟩) (v := ?v242) rfl (by kernel_rfl) (by kernel_rfl) (by kernel_rfl) (fun _ _ _ h => h) (Or.inl ⟨by rfl, ?hy242⟩) (by assumption) ?rest242
                        case hy242 => (intro wq hSw; obtain ⟨z0, z1, z2⟩ := hSw; first | (go_simp; done) | (go_simp; with_reducible rfl) | (go_simp; rw [if_pos (by omega)]))
                        simp only [Act.put, List.setIfInBounds_toArray, List.set_cons_zero, List.set_cons_succ]
                        refine wpAnyH_take (i := 11) (oi := ⟨some 69, _, _, _, _, _⟩) (v := ?v243) rfl (by kernel_rfl) (by kernel_rfl) (by kernel_rfl) (fun _ _ _ h => h) (Or.inl ⟨by rfl, ?hy243⟩) (by assumption) ?rest243
                        case hy243 => (intro wq hSw; obtain ⟨z0, z1, z2⟩ := hSw; first | (go_simp; done) | (go_simp; with_reducible rfl) | (go_simp; rw [if_pos (by omega)]))
                        simp only [Act.put, List.setIfInBounds_toArray, List.set_cons_zero, List.set_cons_succ]
                        refine wpAnyH_take (i := 12) (oi := ⟨some 70, _, _, _, _, _⟩) (v := .bool true) rfl (by kernel_rfl) (by kernel_rfl) (by kernel_rfl) (fun _ _ _ h => h) (Or.inl ⟨by rfl, ?hy244⟩) (by assumption) ?rest244
                        case hy244 => (intro wq hSw; clear hSw; first | (go_simp; done) | (go_simp; with_reducible rfl) | (go_simp; simp only [Result.ok.injEq, Next.value.injEq, Value.bool.injEq, decide_eq_true_eq, decide_eq_false_iff_not, and_true]; first | omega | assumption))
                        simp only [Act.put, List.setIfInBounds_toArray, List.set_cons_zero, List.set_cons_succ]
                        refine wpAnyH_done (by kernel_rfl) ?_ _
                        (try dsimp only)
                        go_wp2
                        go_ret
                        exact ⟨by rw [HF.out]; rfl, hD ▸ HB.out _ HBd.out⟩
                      · have heb : (y == nm) = false := beq_eq_false_iff_ne.2 hyn
                        have HR : Hid (∀ q, q < k + 1 → (ts.getD q ta0).1 ≠ nm) := fun q hq => by
                          rcases Nat.lt_or_ge q k with g | g
                          · exact HQ.out q g
                          · obtain rfl : q = k := by omega
                            rw [hy]; exact hyn
                        clear HQ hy hyn
                        go_wp2
                        refine wp_region_held_drew (S := fun Z => Z.cell? ⟨D, 0, none⟩ = some (.slice (some ⟨b, off, none⟩) ts.length cap) ∧ Z.cell? ⟨b, off + k * 6, none⟩ = some (.string ⟨y.toArray⟩) ∧ Z.cell? ⟨b, off + i * 6, none⟩ = some (.string ⟨nm.toArray⟩)) (by kernel_rfl) (by exact ⟨k0, d0, c0⟩) (fun hHeld => ?_)
                        refine wpAnyH_take (i := 0) (oi := ⟨some 58, _, _, _, _, _⟩) (v := ?v245) rfl (by kernel_rfl) (by kernel_rfl) (by kernel_rfl) (fun _ _ _ h => h) (Or.inl ⟨by rfl, ?hy245⟩) (by assumption) ?rest245
                        case hy245 => (intro wq hSw; obtain ⟨z0, z1, z2⟩ := hSw; first | (go_simp; done) | (go_simp; with_reducible rfl) | (go_simp; rw [if_pos (by omega)]))
                        simp only [Act.put, List.setIfInBounds_toArray, List.set_cons_zero, List.set_cons_succ]
                        refine wpAnyH_take (i := 1) (oi := ⟨some 59, _, _, _, _, _⟩) (v := ?v246) rfl (by kernel_rfl) (by kernel_rfl) (by kernel_rfl) (fun _ _ _ h => h) (Or.inl ⟨by rfl, ?hy246⟩) (by assumption) ?rest246
                        case hy246 => (intro wq hSw; obtain ⟨z0, z1, z2⟩ := hSw; first | (go_simp; done) | (go_simp; with_reducible rfl) | (go_simp; rw [if_pos (by omega)]))
                        simp only [Act.put, List.setIfInBounds_toArray, List.set_cons_zero, List.set_cons_succ]
                        refine wpAnyH_take (i := 2) (oi := ⟨some 60, _, _, _, _, _⟩) (v := ?v247) rfl (by kernel_rfl) (by kernel_rfl) (by kernel_rfl) (fun _ _ _ h => h) (Or.inl ⟨by rfl, ?hy247⟩) (by assumption) ?rest247
                        case hy247 => (intro wq hSw; obtain ⟨z0, z1, z2⟩ := hSw; first | (go_simp; done) | (go_simp; with_reducible rfl) | (go_simp; rw [if_pos (by omega)]))
                        simp only [Act.put, List.setIfInBounds_toArray, List.set_cons_zero, List.set_cons_succ]
                        refine wpAnyH_take (i := 3) (oi := ⟨some 61, _, _, _, _, _⟩) (v := ?v248) rfl (by kernel_rfl) (by kernel_rfl) (by kernel_rfl) (fun _ _ _ h => h) (Or.inl ⟨by rfl, ?hy248⟩) (by assumption) ?rest248
                        case hy248 => (intro wq hSw; obtain ⟨z0, z1, z2⟩ := hSw; first | (go_simp; done) | (go_simp; with_reducible rfl) | (go_simp; rw [if_pos (by omega)]))
                        simp only [Act.put, List.setIfInBounds_toArray, List.set_cons_zero, List.set_cons_succ]
                        refine wpAnyH_take (i := 4) (oi := ⟨some 62, _, _, _, _, _⟩) (v := ?v249) rfl (by kernel_rfl) (by kernel_rfl) (by kernel_rfl) (fun _ _ _ h => h) (Or.inl ⟨by rfl, ?hy249⟩) (by assumption) ?rest249
                        case hy249 => (intro wq hSw; obtain ⟨z0, z1, z2⟩ := hSw; first | (go_simp; done) | (go_simp; with_reducible rfl) | (go_simp; rw [if_pos (by omega)]))
                        simp only [Act.put, List.setIfInBounds_toArray, List.set_cons_zero, List.set_cons_succ]
                        refine wpAnyH_take (i := 5) (oi := ⟨some 63, _, _, _, _, _⟩) (v := ?v250) rfl (by kernel_rfl) (by kernel_rfl) (by kernel_rfl) (fun _ _ _ h => h) (Or.inl ⟨by rfl, ?hy250⟩) (by assumption) ?rest250
                        case hy250 => (intro wq hSw; obtain ⟨z0, z1, z2⟩ := hSw; first | (go_simp; done) | (go_simp; with_reducible rfl) | (go_simp; rw [if_pos (by omega)]))
                        simp only [Act.put, List.setIfInBounds_toArray, List.set_cons_zero, List.set_cons_succ]
                        refine wpAnyH_take (i := 6) (oi := ⟨some 64, _, _, _, _, _⟩) (v := ?v251) rfl (by kernel_rfl) (by kernel_rfl) (by kernel_rfl) (fun _ _ _ h => h) (Or.inl ⟨by rfl, ?hy251⟩) (by assumption) ?rest251
                        case hy251 => (intro wq hSw; obtain ⟨z0, z1, z2⟩ := hSw; first | (go_simp; done) | (go_simp; with_reducible rfl) | (go_simp; rw [if_pos (by omega)]))
                        simp only [Act.put, List.setIfInBounds_toArray, List.set_cons_zero, List.set_cons_succ]
                        refine wpAnyH_take (i := 7) (oi := ⟨some 65, _, _, _, _, _⟩) (v := ?v252) rfl (by kernel_rfl) (by kernel_rfl) (by kernel_rfl) (fun _ _ _ h => h) (Or.inl ⟨by rfl, ?hy252⟩) (by assumption) ?rest252
                        case hy252 => (intro wq hSw; obtain ⟨z0, z1, z2⟩ := hSw; first | (go_simp; done) | (go_simp; with_reducible rfl) | (go_simp; rw [if_pos (by omega)]))
                        simp only [Act.put, List.setIfInBounds_toArray, List.set_cons_zero, List.set_cons_succ]
                        refine wpAnyH_take (i := 8) (oi := ⟨some 66, _, _, _, _, _⟩) (v := ?v253) rfl (by kernel_rfl) (by kernel_rfl) (by kernel_rfl) (fun _ _ _ h => h) (Or.inl ⟨by rfl, ?hy253⟩) (by assumption) ?rest253
                        case hy253 => (intro wq hSw; obtain ⟨z0, z1, z2⟩ := hSw; first | (go_simp; done) | (go_simp; with_reducible rfl) | (go_simp; rw [if_pos (by omega)]))
                        simp only [Act.put, List.setIfInBounds_toArray, List.set_cons_zero, List.set_cons_succ]
                        refine wpAnyH_take (i := 9) (oi := ⟨some 67, _, _, _, _, _⟩) (v := ?v254) rfl (by kernel_rfl) (by kernel_rfl) (by kernel_rfl) (fun _ _ _ h => h) (Or.inl ⟨by rfl, ?hy254⟩) (by assumption) ?rest254
                        case hy254 => (intro wq hSw; obtain ⟨z0, z1, z2⟩ := hSw; first | (go_simp; done) | (go_simp; with_reducible rfl) | (go_simp; rw [if_pos (by omega)]))
                        simp only [Act.put, List.setIfInBounds_toArray, List.set_cons_zero, List.set_cons_succ]
                        refine wpAnyH_take (i := 10) (oi := ⟨some 68, _, _, _, _, _⟩) (v := ?v255) rfl (by kernel_rfl) (by kernel_rfl) (by kernel_rfl) (fun _ _ _ h => h) (Or.inl ⟨by rfl, ?hy255⟩) (by assumption) ?rest255
                        case hy255 => (intro wq hSw; obtain ⟨z0, z1, z2⟩ := hSw; first | (go_simp; done) | (go_simp; with_reducible rfl) | (go_simp; rw [if_pos (by omega)]))
                        simp only [Act.put, List.setIfInBounds_toArray, List.set_cons_zero, List.set_cons_succ]
                        refine wpAnyH_take (i := 11) (oi := ⟨some 69, _, _, _, _, _⟩) (v := ?v256) rfl (by kernel_rfl) (by kernel_rfl) (by kernel_rfl) (fun _ _ _ h => h) (Or.inl ⟨by rfl, ?hy256⟩) (by assumption) ?rest256
                        case hy256 => (intro wq hSw; obtain ⟨z0, z1, z2⟩ := hSw; first | (go_simp; done) | (go_simp; with_reducible rfl) | (go_simp; rw [if_pos (by omega)]))
                        simp only [Act.put, List.setIfInBounds_toArray, List.set_cons_zero, List.set_cons_succ]
                        refine wpAnyH_take (i := 12) (oi := ⟨some 70, _, _, _, _, _⟩) (v := .bool false) rfl (by kernel_rfl) (by kernel_rfl) (by kernel_rfl) (fun _ _ _ h => h) (Or.inl ⟨by rfl, ?hy257⟩) (by assumption) ?rest257
                        case hy257 => (intro wq hSw; clear hSw; first | (go_simp; done) | (go_simp; with_reducible rfl) | (go_simp; simp only [Result.ok.injEq, Next.value.injEq, Value.bool.injEq, decide_eq_true_eq, decide_eq_false_iff_not, and_true]; first | omega | assumption))
                        simp only [Act.put, List.setIfInBounds_toArray, List.set_cons_zero, List.set_cons_succ]
                        refine wpAnyH_done (by kernel_rfl) ?_ _
                        (try dsimp only)
                        go_wp2
                        go_roundw
                        case rel => exact ⟨k + 1, by go_num, by omega, HR, HBd⟩
                        case measure => simp [intOf]; omega
                    · have HR : Hid (∀ q, q < i + 1 → one18 ts q) := fun q hq => by
                        rcases Nat.lt_or_ge q i with g | g
                        · exact HA.out q g
                        · obtain rfl : q = i := by omega
                          exact HN1.out.2 ⟨by first | rfl | trivial, by first | rfl | trivial, fun k' hk' => HQ.out k' (by omega)⟩
                      clear HQ HNo HN1 HA
                      go_wp2
                      go_roundw
                      case rel => exact ⟨i + 1, by go_num, by omega, HR, HBk⟩
                      case measure => simp [intOf]; omega
            · have HF : Hid (_) := HY2.out (fun q hq => HA.out q (by omega))
              clear HA HY2
              go_wp2
              go_ret
              exact ⟨by rw [HF.out]; rfl, hD ▸ HB.out _ HBr.out⟩
        · have HF : Hid (_) := HH.out (fun e => hj6 e.2)
          go_wp2
          go_ret
          exact ⟨by rw [HF.out]; rfl, hD ▸ HB.out _ HB0.out⟩

end Go.Proofs.YtglhbcbilepomaaDoor

/-! The contracts of chapter 18's specification: l18AllDone, AllDone. -/
namespace Go.Proofs.YtglhbcbilepomaaDoor
open Go.RowKit

theorem doneD_no {d : Dk} {i : Nat} (hi : i < d.1.length) (h : (d.1.getD i ta0).2.2.1 ≠ 2) : doneD d = false := decide_eq_false (fun e => h (e i hi))
theorem doneD_yes {d : Dk} (h : ∀ i, i < d.1.length → (d.1.getD i ta0).2.2.1 = 2) : doneD d = true := decide_eq_true h


end Go.Proofs.YtglhbcbilepomaaDoor
