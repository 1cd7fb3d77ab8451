/-
  Parts of one proof, one behind the other: TkT.
-/
import Derived.Test.YtglhbcbilepomaaDoorP10
import Derived.Test.YtglhbcbilepomaaDoorP9
import Derived.Test.YtglhbcbilepomaaDoorP7

/-! The laws' own helpers over tasks: toTask, toTaskS, toDesk. -/
namespace Go.Proofs.YtglhbcbilepomaaDoor
open Go.RowKit

theorem setO {X : World} {R i j : Nat} {v a : Value} (h : j ≠ i) (e : X.cell? ⟨R, j, none⟩ = some a) : (X.setCell ⟨R, i, none⟩ v).cell? ⟨R, j, none⟩ = some a :=
  (World.cell?_setCell_other _ _ _ _ (by simp)).trans e
theorem setS {X : World} {R i : Nat} {v a : Value} (e : X.cell? ⟨R, i, none⟩ = some a) : (X.setCell ⟨R, i, none⟩ v).cell? ⟨R, i, none⟩ = some v := World.cell?_setCell_same _ _ _ e
/-- Six cells of a block are written. -/
theorem set6 {X : World} {R : Nat} {a0 a1 a2 a3 a4 a5 : Value} (u0 u1 u2 u3 u4 u5 : Value) (r0 : X.cell? ⟨R, 0, none⟩ = some a0) (r1 : X.cell? ⟨R, 1, none⟩ = some a1) (r2 : X.cell? ⟨R, 2, none⟩ = some a2) (r3 : X.cell? ⟨R, 3, none⟩ = some a3) (r4 : X.cell? ⟨R, 4, none⟩ = some a4) (r5 : X.cell? ⟨R, 5, none⟩ = some a5) :
    ∃ Y, (((((X.setCell ⟨R, 0, none⟩ u0).setCell ⟨R, 1, none⟩ u1).setCell ⟨R, 2, none⟩ u2).setCell ⟨R, 3, none⟩ u3).setCell ⟨R, 4, none⟩ u4).setCell ⟨R, 5, none⟩ u5 = Y ∧ Y.cell? ⟨R, 0, none⟩ = some u0 ∧ Y.cell? ⟨R, 1, none⟩ = some u1 ∧ Y.cell? ⟨R, 2, none⟩ = some u2 ∧ Y.cell? ⟨R, 3, none⟩ = some u3 ∧ Y.cell? ⟨R, 4, none⟩ = some u4 ∧ Y.cell? ⟨R, 5, none⟩ = some u5 ∧ X.grownBy Y (some R) :=
  ⟨_, rfl, setO (by decide) (setO (by decide) (setO (by decide) (setO (by decide) (setO (by decide) (setS (r0)))))), setO (by decide) (setO (by decide) (setO (by decide) (setO (by decide) (setS (setO (by decide) (r1)))))), setO (by decide) (setO (by decide) (setO (by decide) (setS (setO (by decide) (setO (by decide) (r2)))))), setO (by decide) (setO (by decide) (setS (setO (by decide) (setO (by decide) (setO (by decide) (r3)))))), setO (by decide) (setS (setO (by decide) (setO (by decide) (setO (by decide) (setO (by decide) (r4)))))), setS (setO (by decide) (setO (by decide) (setO (by decide) (setO (by decide) (setO (by decide) (r5)))))), (((((grown_set _ _ _ _).trans (grown_set _ _ _ _)).trans (grown_set _ _ _ _)).trans (grown_set _ _ _ _)).trans (grown_set _ _ _ _)).trans (grown_set _ _ _ _)⟩
/-- Five cells of a block are written. -/
theorem set5 {X : World} {R : Nat} {a0 a1 a2 a3 a4 a5 : Value} (u1 u2 u3 u4 u5 : Value) (r0 : X.cell? ⟨R, 0, none⟩ = some a0) (r1 : X.cell? ⟨R, 1, none⟩ = some a1) (r2 : X.cell? ⟨R, 2, none⟩ = some a2) (r3 : X.cell? ⟨R, 3, none⟩ = some a3) (r4 : X.cell? ⟨R, 4, none⟩ = some a4) (r5 : X.cell? ⟨R, 5, none⟩ = some a5) :
    ∃ Y, ((((X.setCell ⟨R, 1, none⟩ u1).setCell ⟨R, 2, none⟩ u2).setCell ⟨R, 3, none⟩ u3).setCell ⟨R, 4, none⟩ u4).setCell ⟨R, 5, none⟩ u5 = Y ∧ Y.cell? ⟨R, 0, none⟩ = some a0 ∧ Y.cell? ⟨R, 1, none⟩ = some u1 ∧ Y.cell? ⟨R, 2, none⟩ = some u2 ∧ Y.cell? ⟨R, 3, none⟩ = some u3 ∧ Y.cell? ⟨R, 4, none⟩ = some u4 ∧ Y.cell? ⟨R, 5, none⟩ = some u5 ∧ X.grownBy Y (some R) :=
  ⟨_, rfl, setO (by decide) (setO (by decide) (setO (by decide) (setO (by decide) (setO (by decide) (r0))))), setO (by decide) (setO (by decide) (setO (by decide) (setO (by decide) (setS (r1))))), setO (by decide) (setO (by decide) (setO (by decide) (setS (setO (by decide) (r2))))), setO (by decide) (setO (by decide) (setS (setO (by decide) (setO (by decide) (r3))))), setO (by decide) (setS (setO (by decide) (setO (by decide) (setO (by decide) (r4))))), setS (setO (by decide) (setO (by decide) (setO (by decide) (setO (by decide) (r5))))), ((((grown_set _ _ _ _).trans (grown_set _ _ _ _)).trans (grown_set _ _ _ _)).trans (grown_set _ _ _ _)).trans (grown_set _ _ _ _)⟩
/-- Four cells of a block are written. -/
theorem set4 {X : World} {R : Nat} {a0 a1 a2 a3 : Value} (u0 u1 u2 u3 : Value) (r0 : X.cell? ⟨R, 0, none⟩ = some a0) (r1 : X.cell? ⟨R, 1, none⟩ = some a1) (r2 : X.cell? ⟨R, 2, none⟩ = some a2) (r3 : X.cell? ⟨R, 3, none⟩ = some a3) :
    ∃ Y, (((X.setCell ⟨R, 0, none⟩ u0).setCell ⟨R, 1, none⟩ u1).setCell ⟨R, 2, none⟩ u2).setCell ⟨R, 3, none⟩ u3 = Y ∧ Y.cell? ⟨R, 0, none⟩ = some u0 ∧ Y.cell? ⟨R, 1, none⟩ = some u1 ∧ Y.cell? ⟨R, 2, none⟩ = some u2 ∧ Y.cell? ⟨R, 3, none⟩ = some u3 ∧ X.grownBy Y (some R) :=
  ⟨_, rfl, setO (by decide) (setO (by decide) (setO (by decide) (setS (r0)))), setO (by decide) (setO (by decide) (setS (setO (by decide) (r1)))), setO (by decide) (setS (setO (by decide) (setO (by decide) (r2)))), setS (setO (by decide) (setO (by decide) (setO (by decide) (r3)))), (((grown_set _ _ _ _).trans (grown_set _ _ _ _)).trans (grown_set _ _ _ _)).trans (grown_set _ _ _ _)⟩

/-- The cells of a block of six, and of four, that lies as it was made. -/
theorem sixF {X W : World} {R : Nat} {u0 u1 u2 u3 u4 u5 : Value} {T : TypeId} (hX : Below W.heap.size W X) (hlt : R < W.heap.size) (hR : W.heap[R]? = some (.cells #[u0, u1, u2, u3, u4, u5] T)) :
    (X.cell? ⟨R, 0, none⟩ = some u0 ∧ X.cell? ⟨R, 1, none⟩ = some u1 ∧ X.cell? ⟨R, 2, none⟩ = some u2 ∧ X.cell? ⟨R, 3, none⟩ = some u3 ∧ X.cell? ⟨R, 4, none⟩ = some u4 ∧ X.cell? ⟨R, 5, none⟩ = some u5) ∧ ∀ j, X.frozen? ⟨R, j, none⟩ = false := by
  have e := (hX.block R hlt).trans hR
  clear hX hR
  exact ⟨⟨by simp [World.cell?, e], by simp [World.cell?, e], by simp [World.cell?, e], by simp [World.cell?, e], by simp [World.cell?, e], by simp [World.cell?, e]⟩, fun j => by simp [World.frozen?, e]⟩
theorem fourF {X W : World} {R : Nat} {u0 u1 u2 u3 : Value} {T : TypeId} (hX : Below W.heap.size W X) (hlt : R < W.heap.size) (hR : W.heap[R]? = some (.cells #[u0, u1, u2, u3] T)) :
    (X.cell? ⟨R, 0, none⟩ = some u0 ∧ X.cell? ⟨R, 1, none⟩ = some u1 ∧ X.cell? ⟨R, 2, none⟩ = some u2 ∧ X.cell? ⟨R, 3, none⟩ = some u3) ∧ ∀ j, X.frozen? ⟨R, j, none⟩ = false := by
  have e := (hX.block R hlt).trans hR
  clear hX hR
  exact ⟨⟨by simp [World.cell?, e], by simp [World.cell?, e], by simp [World.cell?, e], by simp [World.cell?, e]⟩, fun j => by simp [World.frozen?, e]⟩

set_option maxHeartbeats 2000000 in
set_option maxRecDepth 100000 in
theorem toTaskC (s : List UInt8) (ns : List Int) (na : Option Addr) (nc : Nat) (st wk un ke : Int) (w : World) (hin : AsIn w na ns) (hlen : ns.length ≤ 1048576) :
    Calls Tryd.prog 33 #[.agg #[.string ⟨s.toArray⟩, .slice na ns.length nc, .int .i64 st, .int .i64 wk, .int .i64 un, .int .i64 ke]] w fun e w' => ∃ a c, e = .returned (.agg #[.string ⟨s.toArray⟩, .slice a ns.length c, .int .i64 st, .int .i64 wk, .int .i64 un, .int .i64 ke]) ∧ w'.ownsRow w.heap.size 2 1 (.slice a ns.length c) ns.length (intsV ns) ∧ Below w.heap.size w w' := by
  obtain ⟨D, hD⟩ : ∃ D, w.heap.size = D := ⟨_, rfl⟩
  obtain ⟨W1, hW1⟩ : ∃ W, w.alloc (.cells #[.string ⟨s.toArray⟩, .slice na ns.length nc, .int .i64 st, .int .i64 wk, .int .i64 un, .int .i64 ke] 48) = W := ⟨_, rfl⟩
  obtain ⟨W2, hW2⟩ : ∃ W, W1.alloc (.cells #[.string ⟨#[]⟩, .slice none 0 0, .int .i64 0, .int .i64 0, .int .i64 0, .int .i64 0] 52) = W := ⟨_, rfl⟩
  have hs1 : W1.heap.size = D + 1 := by rw [← hW1, ← hD]; simp
  have hs2 : W2.heap.size = D + 2 := by rw [← hW2]; simp [hs1]
  have hb1 : Below D w W1 := by rw [← hW1, ← hD]; exact (Below.refl _ _).alloc (Nat.le_refl _) _
  have hb12 : Below W1.heap.size W1 W2 := by rw [← hW2]; exact (Below.refl _ _).alloc (Nat.le_refl _) _
  have hb2 : Below D w W2 := hb1.trans (hb12.mono (by omega))
  have hA1 : W1.heap[D]? = some (.cells #[.string ⟨s.toArray⟩, .slice na ns.length nc, .int .i64 st, .int .i64 wk, .int .i64 un, .int .i64 ke] 48) := by rw [← hW1, ← hD]; exact heap_alloc_new w _
  have hR : W2.heap[D + 1]? = some (.cells #[.string ⟨#[]⟩, .slice none 0 0, .int .i64 0, .int .i64 0, .int .i64 0, .int .i64 0] 52) := by rw [← hs1, ← hW2]; exact heap_alloc_new W1 _
  have hA2 : W2.heap[D]? = some (.cells #[.string ⟨s.toArray⟩, .slice na ns.length nc, .int .i64 st, .int .i64 wk, .int .i64 un, .int .i64 ke] 48) := (hb12.block _ (by omega)).trans hA1
  obtain ⟨⟨q0, q1, q2, q3, q4, q5⟩, _⟩ := sixF hb12 (by omega) hA1
  have a0 : ∀ o, (W2.alloc o).cell? ⟨D, 0, none⟩ = some (.string ⟨s.toArray⟩) := fun o => cell_alwR o q0
  have a1 : ∀ o, (W2.alloc o).cell? ⟨D, 1, none⟩ = some (.slice na ns.length nc) := fun o => cell_alwR o q1
  have HIN : Hid (AsIn W2 na ns) := hin.below (by rw [hD]; exact hb2)
  clear hin hA1 q0 q1 q2 q3 q4 q5
  go_enter Tryd.func33, Tryd.ntmps33
  go_wp2_with fail
  obtain ⟨V, hV⟩ : ∃ V, W2.alloc (.cells #[.string ⟨s.toArray⟩, .slice none 0 0, .int .i64 0, .int .i64 0, .int .i64 0, .int .i64 0] 52) = V := ⟨_, rfl⟩
  rw [hV]
  have hbV : Below W2.heap.size W2 V := by rw [← hV]; exact (Below.refl _ _).alloc (Nat.le_refl _) _
  have hsV : V.heap.size = D + 3 := by rw [← hV]; simp [hs2]
  have hL : V.heap[D + 2]? = some (.cells #[.string ⟨s.toArray⟩, .slice none 0 0, .int .i64 0, .int .i64 0, .int .i64 0, .int .i64 0] 52) := by rw [← hs2, ← hV]; exact heap_alloc_new W2 _
  have hRV : V.heap[D + 1]? = some (.cells #[.string ⟨#[]⟩, .slice none 0 0, .int .i64 0, .int .i64 0, .int .i64 0, .int .i64 0] 52) := (hbV.block _ (by omega)).trans hR
  have hAV : V.heap[D]? = some (.cells #[.string ⟨s.toArray⟩, .slice na ns.length nc, .int .i64 st, .int .i64 wk, .int .i64 un, .int .i64 ke] 48) := (hbV.block _ (by omega)).trans hA2
  refine (toInt64SC na nc ns V (HIN.out.below hbV) hlen).mono ?_
  rintro e w4 ⟨rfl, hown, hb4⟩
  obtain ⟨av, hav⟩ : ∃ a : Option Addr, some ⟨V.heap.size, 0, none⟩ = a := ⟨_, rfl⟩
  obtain ⟨cv, hcv⟩ : ∃ c : Nat, ns.length = c := ⟨_, rfl⟩
  obtain ⟨⟨x0, x1, x2, x3, x4, x5⟩, _⟩ := sixF hb4 (by omega) hAV
  obtain ⟨⟨l0, l1, l2, l3, l4, l5⟩, lf⟩ := sixF hb4 (by omega) hL
  obtain ⟨⟨r0, r1, r2, r3, r4, r5⟩, rf⟩ := sixF hb4 (by omega) hRV
  have hB4 : Below D w w4 := hb2.trans ((hbV.mono (by omega)).trans (hb4.mono (by omega)))
  have hs4 : D + 3 ≤ w4.heap.size := by have := hb4.size; omega
  rw [hav, hsV] at hown
  rw [hav]
  obtain ⟨U, hU, u0, u1, u2, u3, u4, u5, hgU⟩ := set5 (.slice av ns.length ns.length) (.int .i64 st) (.int .i64 wk) (.int .i64 un) (.int .i64 ke) l0 l1 l2 l3 l4 l5
  have hc : ∀ j, U.cell? ⟨D + 1, j, none⟩ = w4.cell? ⟨D + 1, j, none⟩ := fun j => by
    rw [← hU]
    iterate 5 (refine (World.cell?_setCell_other _ _ _ _ (by simp)).trans ?_)
    rfl
  have p0 := (hc 0).trans r0
  have p1 := (hc 1).trans r1
  have p2 := (hc 2).trans r2
  have p3 := (hc 3).trans r3
  have p4 := (hc 4).trans r4
  have p5 := (hc 5).trans r5
  have pf : ∀ j, U.frozen? ⟨D + 1, j, none⟩ = false := fun j => by
    rw [← hU]
    iterate 5 (refine (World.frozen?_setCell ..).trans ?_)
    exact rf j
  have pf0 := pf 0
  have pf1 := pf 1
  have pf2 := pf 2
  have pf3 := pf 3
  have pf4 := pf 4
  have pf5 := pf 5
  have lf1 := lf 1
  have lf2 := lf 2
  have lf3 := lf 3
  have lf4 := lf 4
  have lf5 := lf 5
  have HOU : Hid (U.ownsRow (D + 3) 2 1 (.slice av ns.length ns.length) ns.length (intsV ns)) := hown.kept hgU (own_offR hown (by omega))
  have HBU : Hid (Below D w U) := hB4.grown hgU (by omega) (fun k e => by injection e with e; omega)
  have hsU : D + 3 ≤ U.heap.size := Nat.le_trans hs4 hgU.size
  clear hown hb4 hB4 hgU pf lf rf r0 r1 r2 r3 r4 r5 a0 a1 hL hRV hR hAV hA2 hbV hb12 hb1 hb2 HIN hc hcv hav
  go_wp2
  obtain ⟨Y, hY, y0, y1, y2, y3, y4, y5, hg⟩ := set6 (.string ⟨s.toArray⟩) (.slice av ns.length ns.length) (.int .i64 st) (.int .i64 wk) (.int .i64 un) (.int .i64 ke) p0 p1 p2 p3 p4 p5
  rw [hY]
  refine bodyPost_ret (v := .agg #[.string ⟨s.toArray⟩, .slice av ns.length ns.length, .int .i64 st, .int .i64 wk, .int .i64 un, .int .i64 ke]) (by simp [results, Tryd.results33, go_sem, y0, y1, y2, y3, y4, y5]) rfl ?_
  exact ⟨av, ns.length, rfl, own_base (HOU.out.kept hg (own_offR HOU.out (by omega))) (by omega), by rw [hD]; exact HBU.out.grown hg (by omega) (fun k e => by injection e with e; omega)⟩

set_option maxHeartbeats 4000000 in
set_option maxRecDepth 100000 in
theorem toTaskSC (a : Option Addr) (len cap : Nat) (fs : List Ta) (w : World) (hin : TasksIn w a len fs) (hlen : len ≤ 1048576) (hsh : ∀ j, (fs.getD j ta0).2.1.length ≤ 1048576) :
    Calls Tryd.prog 15 #[.slice a len cap] w fun e w' => ∃ g xs, e = .returned (.slice (some ⟨g, 0, none⟩) len len) ∧ xs.map (·.1) = fs ∧ TksOwn w' w.heap.size (.slice (some ⟨g, 0, none⟩) len len) xs ∧ ApartR (xs.map tvT) ∧ Below w.heap.size w w' := by
  obtain ⟨i0, hi, hz0, hz1, hz2⟩ := info_parts infoTask
  have hlb := hin.1
  have HI : Hid (TasksIn w a len fs) := hin
  have HSH : Hid (∀ j, (fs.getD j ta0).2.1.length ≤ 1048576) := hsh
  clear hin hsh
  go_enter Tryd.func15, Tryd.ntmps15
  go_wp2_with (at_make; refine wpList_make_full _ rfl _ _ 26 rfl w.heap.size 52 i0 _ 6 Tryd.underlying26 hi hz0 hz1 .i64 .i64 _ _ len rfl rfl rfl rfl (by rw [hz2]; omega) (by unfold maxLen; omega) (Nat.le_refl _) ?_; intro w1 hown1 hgrow1)
  rw [made_tks] at hown1
  have hB1 : Below w.heap.size w w1 := (Below.refl _ _).grown hgrow1 (Nat.le_refl _) (by simp)
  clear hgrow1
  go_loopw [4] (fun i wr => ∃ (k : Nat) (ys : List TV), k ≤ len ∧ i = .int .i64 k ∧ ys.length = k ∧ Hid (ys.map (·.1) = fs.take k) ∧ Hid (wr.ownsRow w.heap.size 52 6 (.slice (some ⟨w.heap.size, 0, none⟩) len len) len (tksV (ys ++ List.replicate (len - k) tv0))) ∧ Hid (∀ x ∈ ys, wr.ownsRow w.heap.size 2 1 (tvT x) x.1.2.1.length (intsV x.1.2.1)) ∧ Hid (ApartR (ys.map tvT)) ∧ Below w.heap.size w wr) (fun i _ => len - (intOf i).toNat)
  case atStart => exact ⟨0, [], Nat.zero_le _, rfl, rfl, (by simp : ([] : List TV).map (·.1) = fs.take 0), (by simpa using hown1 : w1.ownsRow w.heap.size 52 6 (.slice (some ⟨w.heap.size, 0, none⟩) len len) len (tksV ([] ++ List.replicate (len - 0) tv0))), (fun x hx => (by cases hx) : ∀ x ∈ ([] : List TV), _), ApartR.nil, hB1⟩
  case round =>
    obtain ⟨k, ys, hk, rfl, hyl, HM, HR, HT, HAP, hB⟩ := hrel
    clear hown1 hB1
    by_cases hkl : (k : Int) < (len : Int)
    · obtain ⟨b, off, rfl, hbl, c0, ⟨na, nc, c1, hn1⟩, c2, c3, c4, c5⟩ := (HI.out.below hB).2 k (by omega)
      have hts := HSH.out k
      have hmk : fs.take (k + 1) = fs.take k ++ [fs.getD k ta0] := by
        have hg : fs.getD k ta0 = fs[k]'(by omega) := by simp [List.getD, show k < fs.length by omega]
        rw [hg, List.take_succ_eq_append_getElem]
      obtain ⟨f, hf⟩ : ∃ f, fs.getD k ta0 = f := ⟨_, rfl⟩
      rw [hf] at c0 c1 c2 c3 c4 c5 hn1 hts hmk
      obtain ⟨s, ns, st, wk, un, ke⟩ := f
      simp only at c0 c1 c2 c3 c4 c5 hn1 hts
      have HMK : Hid (fs.take (k + 1) = fs.take k ++ [(s, ns, st, wk, un, ke)]) := hmk
      have HC : Hid (_) := toTaskC s ns na nc st wk un ke wr hn1 (by omega)
      clear hf hn1 hmk
      go_wp2_with fail
      refine Calls.mono HC.out ?_
      rintro e w2 ⟨av, cv, rfl, hownT, hb2⟩
      have hown2 := own_below HR.out hb2
      have hT2 : ∀ x ∈ ys, w2.ownsRow w.heap.size 2 1 (tvT x) x.1.2.1.length (intsV x.1.2.1) := fun x hx => own_below (HT.out x hx) hb2
      have hl2 : (ys ++ List.replicate (len - k) tv0).length = len := by rw [List.length_append, List.length_replicate]; omega
      obtain ⟨v0, v1, v2, v3, v4, v5⟩ := tksV_at (ys ++ List.replicate (len - k) tv0) k (by omega)
      obtain ⟨u0, d0⟩ : ∃ u, w2.cell? ⟨w.heap.size, k * 6, none⟩ = some u := by
        rw [hown2.cellAt (k * 6) (by omega), v0]; exact ⟨_, rfl⟩
      obtain ⟨u1, d1⟩ : ∃ u, w2.cell? ⟨w.heap.size, k * 6 + 1, none⟩ = some u := by
        rw [hown2.cellAt (k * 6 + 1) (by omega), v1]; exact ⟨_, rfl⟩
      obtain ⟨u2, d2⟩ : ∃ u, w2.cell? ⟨w.heap.size, k * 6 + 2, none⟩ = some u := by
        rw [hown2.cellAt (k * 6 + 2) (by omega), v2]; exact ⟨_, rfl⟩
      obtain ⟨u3, d3⟩ : ∃ u, w2.cell? ⟨w.heap.size, k * 6 + 3, none⟩ = some u := by
        rw [hown2.cellAt (k * 6 + 3) (by omega), v3]; exact ⟨_, rfl⟩
      obtain ⟨u4, d4⟩ : ∃ u, w2.cell? ⟨w.heap.size, k * 6 + 4, none⟩ = some u := by
        rw [hown2.cellAt (k * 6 + 4) (by omega), v4]; exact ⟨_, rfl⟩
      obtain ⟨u5, d5⟩ : ∃ u, w2.cell? ⟨w.heap.size, k * 6 + 5, none⟩ = some u := by
        rw [hown2.cellAt (k * 6 + 5) (by omega), v5]; exact ⟨_, rfl⟩
      have e0 := hown2.frozenAt (k * 6)
      have e1 := hown2.frozenAt (k * 6 + 1)
      have e2 := hown2.frozenAt (k * 6 + 2)
      have e3 := hown2.frozenAt (k * 6 + 3)
      have e4 := hown2.frozenAt (k * 6 + 4)
      have e5 := hown2.frozenAt (k * 6 + 5)
      have hs1 := hown2.stored (k * 6) (.string ⟨s.toArray⟩)
      have hs2 := hs1.1.stored (k * 6 + 1) (.slice av ns.length cv)
      have hs3 := hs2.1.stored (k * 6 + 2) (.int .i64 st)
      have hs4 := hs3.1.stored (k * 6 + 3) (.int .i64 wk)
      have hs5 := hs4.1.stored (k * 6 + 4) (.int .i64 un)
      have hs6 := hs5.1.stored (k * 6 + 5) (.int .i64 ke)
      have hnew := hs6.1
      have hset := tksV_set (ys ++ List.replicate (len - k) tv0) k ((s, ns, st, wk, un, ke), av, cv)
      rw [fill_tk ys len k _ hyl (by omega)] at hset
      have hfv : tvT ((s, ns, st, wk, un, ke), av, cv) = .slice av ns.length cv := rfl
      rw [hfv] at hset
      simp only at hset
      rw [hset] at hnew
      have hgr : w2.grownBy ((((((w2.setCell ⟨w.heap.size, k * 6, none⟩ (.string ⟨s.toArray⟩)).setCell ⟨w.heap.size, k * 6 + 1, none⟩ (.slice av ns.length cv)).setCell ⟨w.heap.size, k * 6 + 2, none⟩ (.int .i64 st)).setCell ⟨w.heap.size, k * 6 + 3, none⟩ (.int .i64 wk)).setCell ⟨w.heap.size, k * 6 + 4, none⟩ (.int .i64 un)).setCell ⟨w.heap.size, k * 6 + 5, none⟩ (.int .i64 ke)) (some w.heap.size) := (((((grown_set _ _ _ _).trans (grown_set _ _ _ _)).trans (grown_set _ _ _ _)).trans (grown_set _ _ _ _)).trans (grown_set _ _ _ _)).trans (grown_set _ _ _ _)
      have hsome : (Value.slice (some ⟨w.heap.size, 0, none⟩) len len).ownBlock = some w.heap.size := rfl
      have offT : ∀ {v : Value} {m : Nat} {zs : List Value}, w2.ownsRow w.heap.size 2 1 v m zs → v.ownBlock = none ∨ v.ownBlock ≠ some w.heap.size := fun ho => by rw [← hsome]; exact own_typesR ho hown2 (by decide)
      have hB2 : Below w.heap.size w w2 := hB.trans (hb2.mono hB.size)
      have hownT2 := own_base hownT hB.size
      have HAP2 : Hid (ApartR ((ys ++ [((s, ns, st, wk, un, ke), av, cv)]).map tvT)) := by
        rw [List.map_append]
        refine HAP.out.snoc (fun v hv => ?_)
        obtain ⟨x, hx, rfl⟩ := List.mem_map.1 hv
        exact own_aheadR (HT.out x hx) hownT (Nat.le_refl _)
      have HN : Hid (Below w.heap.size w ((((((w2.setCell ⟨w.heap.size, k * 6, none⟩ (.string ⟨s.toArray⟩)).setCell ⟨w.heap.size, k * 6 + 1, none⟩ (.slice av ns.length cv)).setCell ⟨w.heap.size, k * 6 + 2, none⟩ (.int .i64 st)).setCell ⟨w.heap.size, k * 6 + 3, none⟩ (.int .i64 wk)).setCell ⟨w.heap.size, k * 6 + 4, none⟩ (.int .i64 un)).setCell ⟨w.heap.size, k * 6 + 5, none⟩ (.int .i64 ke))) := hB2.grown hgr hB2.size (fun q e => by injection e with e; omega)
      have HR2 : Hid (((((((w2.setCell ⟨w.heap.size, k * 6, none⟩ (.string ⟨s.toArray⟩)).setCell ⟨w.heap.size, k * 6 + 1, none⟩ (.slice av ns.length cv)).setCell ⟨w.heap.size, k * 6 + 2, none⟩ (.int .i64 st)).setCell ⟨w.heap.size, k * 6 + 3, none⟩ (.int .i64 wk)).setCell ⟨w.heap.size, k * 6 + 4, none⟩ (.int .i64 un)).setCell ⟨w.heap.size, k * 6 + 5, none⟩ (.int .i64 ke)).ownsRow w.heap.size 52 6 (.slice (some ⟨w.heap.size, 0, none⟩) len len) len (tksV ((ys ++ [((s, ns, st, wk, un, ke), av, cv)]) ++ List.replicate (len - (k + 1)) tv0))) := hnew
      have HT2 : Hid (∀ x ∈ ys ++ [((s, ns, st, wk, un, ke), av, cv)], ((((((w2.setCell ⟨w.heap.size, k * 6, none⟩ (.string ⟨s.toArray⟩)).setCell ⟨w.heap.size, k * 6 + 1, none⟩ (.slice av ns.length cv)).setCell ⟨w.heap.size, k * 6 + 2, none⟩ (.int .i64 st)).setCell ⟨w.heap.size, k * 6 + 3, none⟩ (.int .i64 wk)).setCell ⟨w.heap.size, k * 6 + 4, none⟩ (.int .i64 un)).setCell ⟨w.heap.size, k * 6 + 5, none⟩ (.int .i64 ke)).ownsRow w.heap.size 2 1 (tvT x) x.1.2.1.length (intsV x.1.2.1)) := fun x hx => by
        rw [List.mem_append, List.mem_singleton] at hx
        rcases hx with hx | rfl
        · exact (hT2 x hx).kept hgr (offT (hT2 x hx))
        · exact hownT2.kept hgr (offT hownT2)
      have HM2 : Hid ((ys ++ [((s, ns, st, wk, un, ke), av, cv)]).map (·.1) = fs.take (k + 1)) := by exact (by rw [List.map_append, HM.out, HMK.out]; rfl : (ys ++ [((s, ns, st, wk, un, ke), av, cv)]).map (·.1) = fs.take (k + 1))
      have hsz2 : w.heap.size < w2.heap.size := World.block_lt_of_cell? w2 ⟨w.heap.size, k * 6, none⟩ d0
      clear hown2 hs1 hs2 hs3 hs4 hs5 hs6 hl2 v0 v1 v2 v3 v4 v5 hnew hset hfv hgr hsome offT hB2 hownT2 hownT HC HR HT HM hT2 HMK
      go_wp2
      go_roundw
      case rel => exact ⟨k + 1, ys ++ [((s, ns, st, wk, un, ke), av, cv)], by omega, by go_num, by simp [hyl], HM2, HR2, HT2, HAP2, HN.out⟩
      case measure => simp [intOf]; omega
    · have hd : ys ++ List.replicate (len - k) tv0 = ys := by rw [show len - k = 0 by omega]; simp
      have hrow := HR.out
      rw [hd] at hrow
      have HF : Hid (TksOwn wr w.heap.size (.slice (some ⟨w.heap.size, 0, none⟩) len len) ys) := (⟨by rw [show ys.length = len by omega]; exact hrow, HT.out⟩ : TksOwn wr w.heap.size (.slice (some ⟨w.heap.size, 0, none⟩) len len) ys)
      have HM2 : Hid (ys.map (·.1) = fs) := by exact (by rw [HM.out]; exact List.take_of_length_le (by omega) : ys.map (·.1) = fs)
      clear hd hrow HR HT HM
      go_wp2
      go_ret
      exact ⟨w.heap.size, rfl, ys, HM2.out, HF.out, HAP.out, hB⟩

set_option maxHeartbeats 2000000 in
set_option maxRecDepth 100000 in
theorem toDeskC (a : Option Addr) (len cap : Nat) (ts : List Ta) (ep nw : Int) (jr : List UInt8) (w : World) (hin : TasksIn w a len ts) (hlen : len ≤ 1048576) (hsh : ∀ j, (ts.getD j ta0).2.1.length ≤ 1048576) :
    Calls Tryd.prog 6 #[.agg #[.slice a len cap, .int .i64 ep, .int .i64 nw, .string ⟨jr.toArray⟩]] w fun e w' => ∃ g xs, e = .returned (.agg #[.slice (some ⟨g, 0, none⟩) len len, .int .i64 ep, .int .i64 nw, .string ⟨jr.toArray⟩]) ∧ xs.map (·.1) = ts ∧ TksOwn w' w.heap.size (.slice (some ⟨g, 0, none⟩) len len) xs ∧ ApartR (xs.map tvT) ∧ Below w.heap.size w w' := by
  obtain ⟨D, hD⟩ : ∃ D, w.heap.size = D := ⟨_, rfl⟩
  obtain ⟨W1, hW1⟩ : ∃ W, w.alloc (.cells #[.slice a len cap, .int .i64 ep, .int .i64 nw, .string ⟨jr.toArray⟩] 24) = W := ⟨_, rfl⟩
  obtain ⟨W2, hW2⟩ : ∃ W, W1.alloc (.cells #[.slice none 0 0, .int .i64 0, .int .i64 0, .string ⟨#[]⟩] 28) = W := ⟨_, rfl⟩
  obtain ⟨W3, hW3⟩ : ∃ W, W2.alloc (.cells #[.slice none 0 0, .int .i64 0, .int .i64 0, .string ⟨#[]⟩] 28) = W := ⟨_, rfl⟩
  have hs1 : W1.heap.size = D + 1 := by rw [← hW1, ← hD]; simp
  have hs2 : W2.heap.size = D + 2 := by rw [← hW2]; simp [hs1]
  have hs3 : W3.heap.size = D + 3 := by rw [← hW3]; simp [hs2]
  have hb1 : Below D w W1 := by rw [← hW1, ← hD]; exact (Below.refl _ _).alloc (Nat.le_refl _) _
  have hb12 : Below W1.heap.size W1 W2 := by rw [← hW2]; exact (Below.refl _ _).alloc (Nat.le_refl _) _
  have hb23 : Below W2.heap.size W2 W3 := by rw [← hW3]; exact (Below.refl _ _).alloc (Nat.le_refl _) _
  have hb3 : Below D w W3 := (hb1.trans (hb12.mono (by omega))).trans (hb23.mono (by omega))
  have hA1 : W1.heap[D]? = some (.cells #[.slice a len cap, .int .i64 ep, .int .i64 nw, .string ⟨jr.toArray⟩] 24) := by rw [← hW1, ← hD]; exact heap_alloc_new w _
  have hR2 : W2.heap[D + 1]? = some (.cells #[.slice none 0 0, .int .i64 0, .int .i64 0, .string ⟨#[]⟩] 28) := by rw [← hs1, ← hW2]; exact heap_alloc_new W1 _
  have hR3 : W3.heap[D + 2]? = some (.cells #[.slice none 0 0, .int .i64 0, .int .i64 0, .string ⟨#[]⟩] 28) := by rw [← hs2, ← hW3]; exact heap_alloc_new W2 _
  have hA3 : W3.heap[D]? = some (.cells #[.slice a len cap, .int .i64 ep, .int .i64 nw, .string ⟨jr.toArray⟩] 24) := ((hb23.block _ (by omega)).trans (hb12.block _ (by omega))).trans hA1
  have hR23 : W3.heap[D + 1]? = some (.cells #[.slice none 0 0, .int .i64 0, .int .i64 0, .string ⟨#[]⟩] 28) := (hb23.block _ (by omega)).trans hR2
  obtain ⟨⟨a0, _, _, _⟩, _⟩ := fourF (Below.refl _ W3) (by omega) hA3
  have HC : Hid (_) := toTaskSC a len cap ts W3 (hin.below (by rw [hD]; exact hb3)) hlen hsh
  clear hin hA1 hR2 hb12 hb23 hb1 hsh
  go_enter Tryd.func6, Tryd.ntmps6
  go_wp2_with fail
  refine Calls.mono HC.out ?_
  rintro e w4 ⟨g, xs, rfl, hxs, hfo, hap, hb4⟩
  obtain ⟨⟨x0, x1, x2, x3⟩, _⟩ := fourF hb4 (by omega) hA3
  obtain ⟨⟨l0, l1, l2, l3⟩, lf⟩ := fourF hb4 (by omega) hR3
  obtain ⟨⟨r0, r1, r2, r3⟩, rf⟩ := fourF hb4 (by omega) hR23
  have hs4 : D + 3 ≤ w4.heap.size := by have := hb4.size; omega
  have hB4 : Below D w w4 := hb3.trans (hb4.mono (by omega))
  rw [hs3] at hfo
  obtain ⟨U, hU, u0, u1, u2, u3, hgU⟩ := set4 (.slice (some ⟨g, 0, none⟩) len len) (.int .i64 ep) (.int .i64 nw) (.string ⟨jr.toArray⟩) l0 l1 l2 l3
  have hc : ∀ j, U.cell? ⟨D + 1, j, none⟩ = w4.cell? ⟨D + 1, j, none⟩ := fun j => by
    rw [← hU]
    iterate 4 (refine (World.cell?_setCell_other _ _ _ _ (by simp)).trans ?_)
    rfl
  have p0 := (hc 0).trans r0
  have p1 := (hc 1).trans r1
  have p2 := (hc 2).trans r2
  have p3 := (hc 3).trans r3
  have pf : ∀ j, U.frozen? ⟨D + 1, j, none⟩ = false := fun j => by
    rw [← hU]
    iterate 4 (refine (World.frozen?_setCell ..).trans ?_)
    exact rf j
  have pf0 := pf 0
  have pf1 := pf 1
  have pf2 := pf 2
  have pf3 := pf 3
  have lf0 := lf 0
  have lf1 := lf 1
  have lf2 := lf 2
  have lf3 := lf 3
  have hfU := hfo.kept hgU (own_offR hfo.row (by omega)) (fun y hy => own_offR (hfo.trees y hy) (by omega))
  have HBU : Hid (Below D w U) := hB4.grown hgU (by omega) (fun k e => by injection e with e; omega)
  have HFU : Hid (TksOwn U (D + 3) (.slice (some ⟨g, 0, none⟩) len len) xs) := hfU
  have HXA : Hid (xs.map (·.1) = ts ∧ ApartR (xs.map tvT)) := ⟨hxs, hap⟩
  have hsU : D + 3 ≤ U.heap.size := Nat.le_trans hs4 hgU.size
  clear hxs hfo hap hb4 hB4 hgU hfU hR23 hR3 hA3 a0 HC hb3 hc pf rf lf r0 r1 r2 r3
  go_wp2
  obtain ⟨Y, hY, y0, y1, y2, y3, hg⟩ := set4 (.slice (some ⟨g, 0, none⟩) len len) (.int .i64 ep) (.int .i64 nw) (.string ⟨jr.toArray⟩) p0 p1 p2 p3
  rw [hY]
  refine bodyPost_ret (v := .agg #[.slice (some ⟨g, 0, none⟩) len len, .int .i64 ep, .int .i64 nw, .string ⟨jr.toArray⟩]) (by simp [results, Tryd.results6, go_sem, y0, y1, y2, y3]) rfl ?_
  have hk := HFU.out.kept hg (own_offR HFU.out.row (by omega)) (fun y hy => own_offR (HFU.out.trees y hy) (by omega))
  exact ⟨g, xs, rfl, HXA.out.1, hk.base (by omega), HXA.out.2, by rw [hD]; exact HBU.out.grown hg (by omega) (fun k e => by injection e with e; omega)⟩

end Go.Proofs.YtglhbcbilepomaaDoor
