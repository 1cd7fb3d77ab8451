/-
  Parts of one proof, one behind the other: RetJ.
-/
import Derived.Test.YtglhbcbilepomaaDoorP20
import Derived.Test.YtglhbcbilepomaaDoorP19

/-! The contract of chapter 18's landed code: writeDown. -/
namespace Go.Proofs.YtglhbcbilepomaaDoor
open Go.RowKit

set_option maxHeartbeats 8000000 in
set_option maxRecDepth 100000 in
theorem implWriteDown (B base : Nat) (va : Option Addr) (vc : Nat) (xs : List TV) (ts : List Ta) (ep nw : Int) (jr : List UInt8) (i : Nat) (key : Int) (w : World) (hb4 : B4 w B (.slice va ts.length vc) (.int .i64 ep) (.int .i64 nw) (.string ⟨jr.toArray⟩)) (ho : TksOwn w base (.slice va ts.length vc) xs) (hx : xs.map (·.1) = ts) (hap : ApartR (xs.map tvT)) (hne : ∀ k, TkBlocks (.slice va ts.length vc) xs k → k ≠ B) (hbase : base ≤ w.heap.size) (hbB : base ≤ B)
    (hi : i < ts.length) (hn : ts.length ≤ 1048576) (hj : jr.length ≤ 60000) (ht : ∀ Z, Below base w Z → PowIs Z) (hy0 : -9223372036854775808 ≤ key) (hy1 : key ≤ 9223372036854775807) :
    Calls Tryd.prog 19 #[.pointer (some ⟨B, 0, none⟩), .int .i64 (i : Int), .int .i64 key] w fun e w' => e = .returned (.tuple #[]) ∧ ∃ xs', xs'.map (·.1) = ts.set i (done18 (ts.getD i ta0) key) ∧ TksOwn w' base (.slice va ts.length vc) xs' ∧ ApartR (xs'.map tvT) ∧ B4 w' B (.slice va ts.length vc) (.int .i64 ep) (.int .i64 nw) (.string ⟨(jr ++ lineR (i : Int) key).toArray⟩) ∧ Below base w w' := by
  obtain ⟨g, cp, he⟩ := own_some ho.row (by rw [← hx, List.length_map] at hi; omega)
  injection he with e1 e2 e3
  subst e1 e3
  have hxl : xs.length = ts.length := e2.symm
  have HTx : Hid (∀ Z, Below base w Z → _) := fun Z (hz : Below base w Z) => implDoneText (i : Int) key Z (ht Z hz) (by omega) (by omega) hy0 hy1
  have HFm : Hid (∀ Z, _) := fun Z => implFramed (doneT (i : Int) key) Z (by have := doneT_len (k := (i : Int)) (by omega) (by omega) hy0 hy1; omega)
  have hlr : framedS (doneT (i : Int) key) = lineR (i : Int) key := rfl
  rw [hlr] at HFm
  have hll := lineR_len (k := (i : Int)) (by omega) (by omega) hy0 hy1
  generalize lineR (i : Int) key = ln at HFm hll ⊢
  generalize doneT (i : Int) key = dt at HTx HFm
  have HO : Hid (∀ Z, Below w.heap.size w Z → TksOwn Z base (.slice (some ⟨g, 0, none⟩) ts.length vc) xs) := fun Z hz => ho.below hz
  have HBx : Hid (∀ Z, Below w.heap.size w Z → B4 Z B (.slice (some ⟨g, 0, none⟩) ts.length vc) (.int .i64 ep) (.int .i64 nw) (.string ⟨jr.toArray⟩)) := fun Z hz => hb4.below hz
  have HX : Hid (xs.map (·.1) = ts ∧ ApartR (xs.map tvT) ∧ xs.length = ts.length) := ⟨hx, hap, hxl⟩
  have HgB : Hid (g ≠ B ∧ base ≤ g ∧ base ≤ w.heap.size ∧ base ≤ B) := ⟨hne g (Or.inl rfl), (ho.row.lt g rfl).1, hbase, hbB⟩
  have HNe : Hid (∀ k, TkBlocks (.slice (some ⟨g, 0, none⟩) ts.length vc) xs k → k ≠ B) := hne
  have HX1 : Hid (_) := getD_xs hx (i := i) (by omega)
  have hix : i < xs.length := by omega
  have hgx : xs.getD i tv0 = xs[i] := by simp [List.getD, hix]
  have HT : Hid (_) := tksV_at xs i hix
  rw [hgx] at HT
  obtain ⟨tv, htv⟩ : ∃ tv, xs[i] = tv := ⟨_, rfl⟩
  rw [htv] at HT HX1
  have HTV : Hid (∃ h : i < xs.length, xs[i] = tv) := ⟨hix, htv⟩
  obtain ⟨⟨nm, ns, st, wk, un, ke⟩, na, nc⟩ := tv
  simp only [tvT] at HT
  simp only at HX1
  have HXi : Hid ((nm, ns, st, wk, un, ke) = ts.getD i ta0) := HX1.out
  have HRow : Hid (∀ Z, Below w.heap.size w Z → Z.ownsRow base 52 6 (.slice (some ⟨g, 0, none⟩) ts.length vc) ts.length (tksV xs)) := fun Z hz => by
    have h := (HO.out Z hz).row
    rw [HX.out.2.2] at h
    exact h
  have HCe : Hid (∀ Z, Below w.heap.size w Z → Z.cell? ⟨g, i * 6, none⟩ = some (.string ⟨nm.toArray⟩) ∧ Z.cell? ⟨g, i * 6 + 1, none⟩ = some (.slice na ns.length nc) ∧ Z.cell? ⟨g, i * 6 + 2, none⟩ = some (.int .i64 st) ∧ Z.cell? ⟨g, i * 6 + 3, none⟩ = some (.int .i64 wk) ∧ Z.cell? ⟨g, i * 6 + 4, none⟩ = some (.int .i64 un) ∧ Z.cell? ⟨g, i * 6 + 5, none⟩ = some (.int .i64 ke)) := fun Z hz => by
    obtain ⟨v0, v1, v2, v3, v4, v5⟩ := HT.out
    have hr := HRow.out Z hz
    exact ⟨(hr.cellAt _ (by omega)).trans v0, (hr.cellAt _ (by omega)).trans v1, (hr.cellAt _ (by omega)).trans v2, (hr.cellAt _ (by omega)).trans v3, (hr.cellAt _ (by omega)).trans v4, (hr.cellAt _ (by omega)).trans v5⟩
  have HAs : Hid (∀ Z, _) := fun Z => implAsDone nm na ns.length nc st wk un ke key Z
  have hwi : IntKind.i64.wrap (i : Int) = (i : Int) := by rw [IntKind.wrap_i64]; omega
  have HB0 : Hid (Below w.heap.size w w.drew) := ⟨rfl, rfl, rfl, Nat.le_refl _, fun _ _ => rfl⟩
  have b0 := (HBx.out w (Below.refl _ _)).c0
  obtain ⟨c0, c1, c2, c3, c4, c5⟩ := HCe.out w (Below.refl _ _)
  clear hb4 ho hx hap hne hbase hbB hxl e2 HX1 hgx htv hix hlr ht
  go_enter Tryd.func19, Tryd.ntmps19
  go_wp2
  refine Till.region (S := (fun Z => Z.cell? ⟨B, 0, none⟩ = some (.slice (some ⟨g, 0, none⟩) ts.length vc) ∧ Z.cell? ⟨g, i * 6, none⟩ = some (.string ⟨nm.toArray⟩) ∧ Z.cell? ⟨g, i * 6 + 1, none⟩ = some (.slice na ns.length nc) ∧ Z.cell? ⟨g, i * 6 + 2, none⟩ = some (.int .i64 st) ∧ Z.cell? ⟨g, i * 6 + 3, none⟩ = some (.int .i64 wk) ∧ Z.cell? ⟨g, i * 6 + 4, none⟩ = some (.int .i64 un) ∧ Z.cell? ⟨g, i * 6 + 5, none⟩ = some (.int .i64 ke))) (E := [15]) (by kernel_rfl) ?_ (fun hHeld hSh => ?_)
  · exact ⟨b0, c0, c1, c2, c3, c4, c5⟩
  refine Till.take (i := 0) (o := ⟨some 6, _, _, _, _, _⟩) (v := ?v0) (d := 30) rfl (by kernel_rfl) (by kernel_rfl) (by kernel_rfl) (by kernel_rfl) (fun _ _ _ h => h) (Or.inl ⟨by rfl, ?hy0⟩) (by assumption) hSh (fun hSh2 => ?rest0)
  case hy0 => (intro wq hSw; (try dsimp only at hSw); first | (go_simp; done) | (go_simp; with_reducible rfl))
  clear hSh; rename Shut11 _ _ _ => hSh
  simp only [Act.put, List.setIfInBounds_toArray, List.set_cons_zero, List.set_cons_succ]
  refine Till.take (i := 1) (o := ⟨some 7, _, _, _, _, _⟩) (v := ?v1) (d := 30) rfl (by kernel_rfl) (by kernel_rfl) (by kernel_rfl) (by kernel_rfl) (fun _ _ _ h => h) (Or.inl ⟨by rfl, ?hy1⟩) (by assumption) hSh (fun hSh2 => ?rest1)
  case hy1 => (intro wq hSw; (try dsimp only at hSw); first | (go_simp; done) | (go_simp; with_reducible rfl))
  clear hSh; rename Shut11 _ _ _ => hSh
  simp only [Act.put, List.setIfInBounds_toArray, List.set_cons_zero, List.set_cons_succ]
  refine Till.take (i := 2) (o := ⟨some 8, _, _, _, _, _⟩) (v := ?v2) (d := 30) rfl (by kernel_rfl) (by kernel_rfl) (by kernel_rfl) (by kernel_rfl) (fun _ _ _ h => h) (Or.inl ⟨by rfl, ?hy2⟩) (by assumption) hSh (fun hSh2 => ?rest2)
  case hy2 => (intro wq hSw; (try dsimp only at hSw); first | (go_simp; done) | (go_simp; with_reducible rfl))
  clear hSh; rename Shut11 _ _ _ => hSh
  simp only [Act.put, List.setIfInBounds_toArray, List.set_cons_zero, List.set_cons_succ]
  refine Till.take (i := 3) (o := ⟨some 9, _, _, _, _, _⟩) (v := ?v3) (d := 30) rfl (by kernel_rfl) (by kernel_rfl) (by kernel_rfl) (by kernel_rfl) (fun _ _ _ h => h) (Or.inl ⟨by rfl, ?hy3⟩) (by assumption) hSh (fun hSh2 => ?rest3)
  case hy3 => (intro wq hSw; (try dsimp only at hSw); first | (go_simp; done) | (go_simp; with_reducible rfl))
  clear hSh; rename Shut11 _ _ _ => hSh
  simp only [Act.put, List.setIfInBounds_toArray, List.set_cons_zero, List.set_cons_succ]
  refine Till.take (i := 4) (o := ⟨some 10, _, _, _, _, _⟩) (v := ?v4) (d := 30) rfl (by kernel_rfl) (by kernel_rfl) (by kernel_rfl) (by kernel_rfl) (fun _ _ _ h => h) (Or.inl ⟨by rfl, ?hy4⟩) (by assumption) hSh (fun hSh2 => ?rest4)
  case hy4 => (intro wq hSw; (try dsimp only at hSw); first | (go_simp; done) | (go_simp; with_reducible rfl))
  clear hSh; rename Shut11 _ _ _ => hSh
  simp only [Act.put, List.setIfInBounds_toArray, List.set_cons_zero, List.set_cons_succ]
  refine Till.take (i := 5) (o := ⟨some 11, _, _, _, _, _⟩) (v := ?v5) (d := 30) rfl (by kernel_rfl) (by kernel_rfl) (by kernel_rfl) (by kernel_rfl) (fun _ _ _ h => h) (Or.inl ⟨by rfl, ?hy5⟩) (by assumption) hSh (fun hSh2 => ?rest5)
  case hy5 => (intro wq hSw; (try dsimp only at hSw); first | (go_simp; done) | (go_simp; with_reducible rfl))
  clear hSh; rename Shut11 _ _ _ => hSh
  simp only [Act.put, List.setIfInBounds_toArray, List.set_cons_zero, List.set_cons_succ]
  refine Till.take (i := 6) (o := ⟨some 12, _, _, _, _, _⟩) (v := ?v6) (d := 30) rfl (by kernel_rfl) (by kernel_rfl) (by kernel_rfl) (by kernel_rfl) (fun _ _ _ h => h) (Or.inl ⟨by rfl, ?hy6⟩) (by assumption) hSh (fun hSh2 => ?rest6)
  case hy6 => (intro wq hSw; (try dsimp only at hSw); first | (go_simp; done) | (go_simp; with_reducible rfl))
  clear hSh; rename Shut11 _ _ _ => hSh
  simp only [Act.put, List.setIfInBounds_toArray, List.set_cons_zero, List.set_cons_succ]
  refine Till.take (i := 7) (o := ⟨some 13, _, _, _, _, _⟩) (v := ?v7) (d := 30) rfl (by kernel_rfl) (by kernel_rfl) (by kernel_rfl) (by kernel_rfl) (fun _ _ _ h => h) (Or.inl ⟨by rfl, ?hy7⟩) (by assumption) hSh (fun hSh2 => ?rest7)
  case hy7 => (intro wq hSw; (try dsimp only at hSw); first | (go_simp; done) | (go_simp; with_reducible rfl))
  clear hSh; rename Shut11 _ _ _ => hSh
  simp only [Act.put, List.setIfInBounds_toArray, List.set_cons_zero, List.set_cons_succ]
  refine Till.take (i := 8) (o := ⟨some 14, _, _, _, _, _⟩) (v := ?v8) (d := 30) rfl (by kernel_rfl) (by kernel_rfl) (by kernel_rfl) (by kernel_rfl) (fun _ _ _ h => h) (Or.inl ⟨by rfl, ?hy8⟩) (by assumption) hSh (fun hSh2 => ?rest8)
  case hy8 => (intro wq hSw; (try dsimp only at hSw); first | (go_simp; done) | (go_simp; with_reducible rfl))
  clear hSh; rename Shut11 _ _ _ => hSh
  simp only [Act.put, List.setIfInBounds_toArray, List.set_cons_zero, List.set_cons_succ]
  refine Till.take (i := 9) (o := ⟨some 15, _, _, _, _, _⟩) (v := ?v9) (d := 30) rfl (by kernel_rfl) (by kernel_rfl) (by kernel_rfl) (by kernel_rfl) (fun _ _ _ h => h) (Or.inl ⟨by rfl, ?hy9⟩) (by assumption) hSh (fun hSh2 => ?rest9)
  case hy9 => (intro wq hSw; (try dsimp only at hSw); first | (go_simp; done) | (go_simp; with_reducible rfl))
  clear hSh; rename Shut11 _ _ _ => hSh
  simp only [Act.put, List.setIfInBounds_toArray, List.set_cons_zero, List.set_cons_succ]
  refine Till.take (i := 10) (o := ⟨some 16, _, _, _, _, _⟩) (v := ?v10) (d := 30) rfl (by kernel_rfl) (by kernel_rfl) (by kernel_rfl) (by kernel_rfl) (fun _ _ _ h => h) (Or.inl ⟨by rfl, ?hy10⟩) (by assumption) hSh (fun hSh2 => ?rest10)
  case hy10 => (intro wq hSw; (try dsimp only at hSw); first | (go_simp; done) | (go_simp; with_reducible rfl))
  clear hSh; rename Shut11 _ _ _ => hSh
  simp only [Act.put, List.setIfInBounds_toArray, List.set_cons_zero, List.set_cons_succ]
  refine Till.take (i := 11) (o := ⟨some 17, _, _, _, _, _⟩) (v := ?v11) (d := 30) rfl (by kernel_rfl) (by kernel_rfl) (by kernel_rfl) (by kernel_rfl) (fun _ _ _ h => h) (Or.inl ⟨by rfl, ?hy11⟩) (by assumption) hSh (fun hSh2 => ?rest11)
  case hy11 => (intro wq hSw; (try dsimp only at hSw); first | (go_simp; done) | (go_simp; with_reducible rfl))
  clear hSh; rename Shut11 _ _ _ => hSh
  simp only [Act.put, List.setIfInBounds_toArray, List.set_cons_zero, List.set_cons_succ]
  refine Till.take (i := 12) (o := ⟨some 18, _, _, _, _, _⟩) (v := ?v12) (d := 30) rfl (by kernel_rfl) (by kernel_rfl) (by kernel_rfl) (by kernel_rfl) (fun _ _ _ h => h) (Or.inl ⟨by rfl, ?hy12⟩) (by assumption) hSh (fun hSh2 => ?rest12)
  case hy12 => (intro wq hSw; (try dsimp only at hSw); first | (go_simp; done) | (go_simp; with_reducible rfl))
  clear hSh; rename Shut11 _ _ _ => hSh
  simp only [Act.put, List.setIfInBounds_toArray, List.set_cons_zero, List.set_cons_succ]
  refine Till.one (i := 13) (by kernel_rfl) rfl hSh (fun K hK => ?_)
  clear hSh
  go_simp
  (go_at_call 46; refine Calls.mono (HAs.out _) ?_; rintro e w6 ⟨rfl, hb6⟩; have HB6 : Hid (Below w.heap.size w w6) := HB0.out.trans (hb6.mono HB0.out.size); clear hb6 b0 c0 c1 c2 c3 c4 c5; have b0 := (HBx.out w6 HB6.out).c0; obtain ⟨c0, c1, c2, c3, c4, c5⟩ := HCe.out w6 HB6.out)
  refine hK.out _ _ ?_ (fun hHeld hSh => ?_)
  · exact ⟨b0, c0, c1, c2, c3, c4, c5⟩
  clear hK K
  refine Till.take (i := 14) (o := ⟨some 20, _, _, _, _, _⟩) (v := ?v14) (d := 30) rfl (by kernel_rfl) (by kernel_rfl) (by kernel_rfl) (by kernel_rfl) (fun _ _ _ h => h) (Or.inl ⟨by rfl, ?hy14⟩) (by assumption) hSh (fun hSh2 => ?rest14)
  case hy14 => (intro wq hSw; (try dsimp only at hSw); first | (go_simp; done) | (go_simp; with_reducible rfl))
  clear hSh; rename Shut11 _ _ _ => hSh
  simp only [Act.put, List.setIfInBounds_toArray, List.set_cons_zero, List.set_cons_succ]
  have hr0 := HRow.out w6 HB6.out
  have e0 := hr0.frozenAt (i * 6)
  have hs0 := hr0.stored (i * 6) (.string ⟨nm.toArray⟩)
  have e1 := hr0.frozenAt (i * 6 + 1)
  have hs1 := hs0.1.stored (i * 6 + 1) (.slice na ns.length nc)
  have e2 := hr0.frozenAt (i * 6 + 2)
  have hs2 := hs1.1.stored (i * 6 + 2) (.int .i64 2)
  have e3 := hr0.frozenAt (i * 6 + 3)
  have hs3 := hs2.1.stored (i * 6 + 3) (.int .i64 0)
  have e4 := hr0.frozenAt (i * 6 + 4)
  have hs4 := hs3.1.stored (i * 6 + 4) (.int .i64 0)
  have e5 := hr0.frozenAt (i * 6 + 5)
  have hs5 := hs4.1.stored (i * 6 + 5) (.int .i64 key)
  obtain ⟨V, hV⟩ : ∃ V, ((((((w6.setCell ⟨g, i * 6, none⟩ (.string ⟨nm.toArray⟩)).setCell ⟨g, i * 6 + 1, none⟩ (.slice na ns.length nc)).setCell ⟨g, i * 6 + 2, none⟩ (.int .i64 2)).setCell ⟨g, i * 6 + 3, none⟩ (.int .i64 0)).setCell ⟨g, i * 6 + 4, none⟩ (.int .i64 0)).setCell ⟨g, i * 6 + 5, none⟩ (.int .i64 key)) = V := ⟨_, rfl⟩
  have hgV : w6.grownBy V (some g) := by rw [← hV]; exact ((((hs0.2.trans hs1.2).trans hs2.2).trans hs3.2).trans hs4.2).trans hs5.2
  have hrV := hs5.1
  have hset := tksV_set xs i ((nm, ns, 2, 0, 0, key), na, nc)
  simp only [tvT] at hset
  rw [hset, hV] at hrV
  have bQV := (HBx.out w6 HB6.out).grown hgV (by intro e; injection e with e; exact HgB.out.1 e)
  have HBV : Hid (Below base w V) := (HB6.out.mono HgB.out.2.2.1).grown hgV (Nat.le_trans HgB.out.2.2.1 HB6.out.size) (fun k e => by injection e with e; have := HgB.out.2.1; omega)
  have HBVs : Hid (base ≤ V.heap.size) := by have h1 := HBV.out.size; have h2 := HgB.out.2.2.1; exact (by omega : base ≤ V.heap.size)
  have HOV : Hid (∃ h : i < xs.length, TksOwn V base (.slice (some ⟨g, 0, none⟩) ts.length vc) (xs.set i ((nm, ns, 2, 0, 0, key), na, nc)) ∧ ApartR ((xs.set i ((nm, ns, 2, 0, 0, key), na, nc)).map tvT)) := by
    obtain ⟨h, e⟩ := HTV.out
    exact ⟨h, (HO.out _ HB6.out).put h _ hgV (by rw [HX.out.2.2]; exact hrV) (by rw [e]) (by rw [e]), apart_set h _ (by rw [e]) (by rw [e]) HX.out.2.1⟩
  have p3 := bQV.c3
  have pf3 := bQV.fr 3
  have HBQ : Hid (B4 V B (.slice (some ⟨g, 0, none⟩) ts.length vc) (.int .i64 ep) (.int .i64 nw) (.string ⟨jr.toArray⟩)) := bQV
  clear hs0 hs1 hs2 hs3 hs4 hs5 hr0 hrV hset bQV hgV
  refine Till.last (i := 15) (by kernel_rfl) rfl (by decide) (fun K hK => ?_)
  go_simp
  refine hK.out _ _ ?_
  clear hK K
  (try rw [hV])
  refine Till.done (by kernel_rfl) ?_ _
  go_wp2
  have HVd : Hid (Below V.heap.size V V.drew) := ⟨rfl, rfl, rfl, Nat.le_refl _, fun _ _ => rfl⟩
  refine Till.region (S := (fun Z => Z.cell? ⟨B, 3, none⟩ = some (.string ⟨jr.toArray⟩))) (E := [11]) (by kernel_rfl) ?_ (fun hHeld hSh => ?_)
  · exact p3
  refine Till.take (i := 0) (o := ⟨some 21, _, _, _, _, _⟩) (v := ?vz0) (d := 30) rfl (by kernel_rfl) (by kernel_rfl) (by kernel_rfl) (by kernel_rfl) (fun _ _ _ h => h) (Or.inl ⟨by rfl, ?hyz0⟩) (by assumption) hSh (fun hSh2 => ?restz0)
  case hyz0 => (intro wq hSw; (try dsimp only at hSw); first | (go_simp; done) | (go_simp; with_reducible rfl))
  clear hSh; rename Shut11 _ _ _ => hSh
  simp only [Act.put, List.setIfInBounds_toArray, List.set_cons_zero, List.set_cons_succ]
  refine Till.take (i := 1) (o := ⟨some 22, _, _, _, _, _⟩) (v := ?vz1) (d := 30) rfl (by kernel_rfl) (by kernel_rfl) (by kernel_rfl) (by kernel_rfl) (fun _ _ _ h => h) (Or.inl ⟨by rfl, ?hyz1⟩) (by assumption) hSh (fun hSh2 => ?restz1)
  case hyz1 => (intro wq hSw; (try dsimp only at hSw); first | (go_simp; done) | (go_simp; with_reducible rfl))
  clear hSh; rename Shut11 _ _ _ => hSh
  simp only [Act.put, List.setIfInBounds_toArray, List.set_cons_zero, List.set_cons_succ]
  refine Till.take (i := 2) (o := ⟨some 23, _, _, _, _, _⟩) (v := ?vz2) (d := 30) rfl (by kernel_rfl) (by kernel_rfl) (by kernel_rfl) (by kernel_rfl) (fun _ _ _ h => h) (Or.inl ⟨by rfl, ?hyz2⟩) (by assumption) hSh (fun hSh2 => ?restz2)
  case hyz2 => (intro wq hSw; (try dsimp only at hSw); first | (go_simp; done) | (go_simp; with_reducible rfl))
  clear hSh; rename Shut11 _ _ _ => hSh
  simp only [Act.put, List.setIfInBounds_toArray, List.set_cons_zero, List.set_cons_succ]
  refine Till.take (i := 3) (o := ⟨some 24, _, _, _, _, _⟩) (v := ?vz3) (d := 30) rfl (by kernel_rfl) (by kernel_rfl) (by kernel_rfl) (by kernel_rfl) (fun _ _ _ h => h) (Or.inl ⟨by rfl, ?hyz3⟩) (by assumption) hSh (fun hSh2 => ?restz3)
  case hyz3 => (intro wq hSw; (try dsimp only at hSw); first | (go_simp; done) | (go_simp; with_reducible rfl))
  clear hSh; rename Shut11 _ _ _ => hSh
  simp only [Act.put, List.setIfInBounds_toArray, List.set_cons_zero, List.set_cons_succ]
  refine Till.take (i := 4) (o := ⟨some 25, _, _, _, _, _⟩) (v := ?vz4) (d := 30) rfl (by kernel_rfl) (by kernel_rfl) (by kernel_rfl) (by kernel_rfl) (fun _ _ _ h => h) (Or.inl ⟨by rfl, ?hyz4⟩) (by assumption) hSh (fun hSh2 => ?restz4)
  case hyz4 => (intro wq hSw; (try dsimp only at hSw); first | (go_simp; done) | (go_simp; with_reducible rfl))
  clear hSh; rename Shut11 _ _ _ => hSh
  simp only [Act.put, List.setIfInBounds_toArray, List.set_cons_zero, List.set_cons_succ]
  refine Till.take (i := 5) (o := ⟨some 26, _, _, _, _, _⟩) (v := ?vz5) (d := 30) rfl (by kernel_rfl) (by kernel_rfl) (by kernel_rfl) (by kernel_rfl) (fun _ _ _ h => h) (Or.inl ⟨by rfl, ?hyz5⟩) (by assumption) hSh (fun hSh2 => ?restz5)
  case hyz5 => (intro wq hSw; (try dsimp only at hSw); first | (go_simp; done) | (go_simp; with_reducible rfl))
  clear hSh; rename Shut11 _ _ _ => hSh
  simp only [Act.put, List.setIfInBounds_toArray, List.set_cons_zero, List.set_cons_succ]
  refine Till.one (i := 6) (by kernel_rfl) rfl hSh (fun K hK => ?_)
  clear hSh
  go_simp
  (go_at_call 42; refine Calls.mono (HTx.out _ (HBV.out.trans (HVd.out.mono HBVs.out))) ?_; rintro e w8 ⟨rfl, hb8⟩; have HB8 : Hid (Below V.heap.size V w8) := HVd.out.trans (hb8.mono HVd.out.size); clear hb8 p3 pf3; have p3 := (HBQ.out.below HB8.out).c3; have pf3 := (HBQ.out.below HB8.out).fr 3)
  refine hK.out _ _ ?_ (fun hHeld hSh => ?_)
  · exact p3
  clear hK K
  refine Till.one (i := 7) (by kernel_rfl) rfl hSh (fun K hK => ?_)
  clear hSh
  go_simp
  (go_at_call 41; refine Calls.mono (HFm.out _) ?_; rintro e w9 ⟨rfl, hb9⟩; have HB9 : Hid (Below V.heap.size V w9) := HB8.out.trans (hb9.mono HB8.out.size); clear hb9 p3 pf3; have p3 := (HBQ.out.below HB9.out).c3; have pf3 := (HBQ.out.below HB9.out).fr 3)
  refine hK.out _ _ ?_ (fun hHeld hSh => ?_)
  · exact p3
  clear hK K
  have hcat := cat_list
  refine Till.take (i := 8) (o := ⟨some 29, _, _, _, _, _⟩) (v := ?vz8) (d := 30) rfl (by kernel_rfl) (by kernel_rfl) (by kernel_rfl) (by kernel_rfl) (fun _ _ _ h => h) (Or.inl ⟨by rfl, ?hyz8⟩) (by assumption) hSh (fun hSh2 => ?restz8)
  case hyz8 => (intro wq hSw; (try dsimp only at hSw); first | (go_simp; done) | (go_simp; with_reducible rfl) | (go_simp; rw [if_neg (by omega)]))
  clear hSh; rename Shut11 _ _ _ => hSh
  simp only [Act.put, List.setIfInBounds_toArray, List.set_cons_zero, List.set_cons_succ]
  refine Till.take (i := 9) (o := ⟨some 30, _, _, _, _, _⟩) (v := ?vz9) (d := 30) rfl (by kernel_rfl) (by kernel_rfl) (by kernel_rfl) (by kernel_rfl) (fun _ _ _ h => h) (Or.inl ⟨by rfl, ?hyz9⟩) (by assumption) hSh (fun hSh2 => ?restz9)
  case hyz9 => (intro wq hSw; (try dsimp only at hSw); first | (go_simp; done) | (go_simp; with_reducible rfl))
  clear hSh; rename Shut11 _ _ _ => hSh
  simp only [Act.put, List.setIfInBounds_toArray, List.set_cons_zero, List.set_cons_succ]
  refine Till.take (i := 10) (o := ⟨some 31, _, _, _, _, _⟩) (v := ?vz10) (d := 30) rfl (by kernel_rfl) (by kernel_rfl) (by kernel_rfl) (by kernel_rfl) (fun _ _ _ h => h) (Or.inl ⟨by rfl, ?hyz10⟩) (by assumption) hSh (fun hSh2 => ?restz10)
  case hyz10 => (intro wq hSw; (try dsimp only at hSw); first | (go_simp; done) | (go_simp; with_reducible rfl))
  clear hSh; rename Shut11 _ _ _ => hSh
  simp only [Act.put, List.setIfInBounds_toArray, List.set_cons_zero, List.set_cons_succ]
  refine Till.last (i := 11) (by kernel_rfl) rfl (by decide) (fun K hK => ?_)
  go_simp
  refine hK.out _ _ ?_
  clear hK K
  refine Till.done (by kernel_rfl) ?_ _
  go_wp2
  first | go_end0 | refine bodyPost_ret (results_none rfl _ _ _) rfl ?_
  obtain ⟨hix, hoV, hapV⟩ := HOV.out
  have hoff : ∀ k, TkBlocks (.slice (some ⟨g, 0, none⟩) ts.length vc) (xs.set i ((nm, ns, 2, 0, 0, key), na, nc)) k → TkBlocks (.slice (some ⟨g, 0, none⟩) ts.length vc) xs k := by
    rintro k (e | ⟨y, hy, e⟩)
    · exact Or.inl e
    · rcases List.mem_or_eq_of_mem_set hy with h | h
      · exact Or.inr ⟨y, h, e⟩
      · subst h
        obtain ⟨h1, h2⟩ := HTV.out
        exact Or.inr ⟨xs[i], List.getElem_mem h1, by rw [h2]; exact e⟩
  have hgF := grown_set w9 B 3 (.string ⟨(jr ++ ln).toArray⟩)
  have hoW := (hoV.below HB9.out).kept hgF (by
    rcases h : (Value.slice (some ⟨g, 0, none⟩) ts.length vc).ownBlock with _ | k
    · exact Or.inl rfl
    · exact Or.inr (fun e => by injection e with e; exact HNe.out k (Or.inl h) e)) (fun x hx => by
    rcases h : (tvT x).ownBlock with _ | k
    · exact Or.inl rfl
    · exact Or.inr (fun e => by injection e with e; exact HNe.out k (hoff k (Or.inr ⟨x, hx, h⟩)) e))
  have hb9 : Below base w w9 := HBV.out.trans (HB9.out.mono HBVs.out)
  refine ⟨rfl, _, ?_, hoW, hapV, (HBQ.out.below HB9.out).s3 _, hb9.grown hgF (Nat.le_trans HgB.out.2.2.1 hb9.size) (fun k e => by injection e with e; have := HgB.out.2.2.2; omega)⟩
  rw [List.map_set, HX.out.1]
  show ts.set i _ = ts.set i _
  congr 1
  unfold done18
  rw [← HXi.out]

end Go.Proofs.YtglhbcbilepomaaDoor
