/-
  Parts of one proof, one behind the other: OsM, OsK, Math15O.
-/
import Derived.Test.YteolfnceobjonaaGreatP12
import Derived.Deep.RegionWith
import Derived.Test.YteolfnceobjonaaGreatP9
import Derived.Test.YteolfnceobjonaaGreatP4

/-! The laws' own helper markObjectS. -/
namespace Go.Proofs.YteolfnceobjonaaGreat
open Go.RowKit

set_option maxHeartbeats 1000000 in
set_option maxRecDepth 100000 in
theorem markStrCO (w : World) (base g cp n k0 : Nat) (xs : List Value) (hn : n ≤ 1100000) (hk0 : 0 < k0) (hk1 : k0 ≤ 30000000)
    (h : w.ownsRow base 9 1 (.slice (some ⟨g, 0, none⟩) n cp) n xs) :
    Calls Tryz.prog 14 #[.slice (some ⟨g, 0, none⟩) n cp, .int .i64 k0] w fun e w' => e = .returned (.int .i64 ((k0 + n : Nat) : Int)) ∧ w'.ownsRow base 9 1 (.slice (some ⟨g, 0, none⟩) n cp) n (marksV k0 n) ∧ w.grownBy w' (some g) := by
  have hxl : Hid (xs.length = n) := by exact (by have := h.1; omega : xs.length = n)
  have hgl : g < w.heap.size := (h.lt g rfl).2
  go_enter Tryz.func14, Tryz.ntmps14
  go_wp2
  go_loopw [1, 5] (fun k i wr => ∃ m : Nat, m ≤ n ∧ i = .int .i64 m ∧ k = .int .i64 ((k0 + m : Nat) : Int) ∧ wr.ownsRow base 9 1 (.slice (some ⟨g, 0, none⟩) n cp) n (marksV k0 m ++ xs.drop m) ∧ w.grownBy wr (some g)) (fun _ i _ => n - (intOf i).toNat)
  case atStart => exact ⟨0, Nat.zero_le _, rfl, rfl, h, World.grownBy.refl _ _⟩
  case round =>
    obtain ⟨m, hm, rfl, rfl, hown, hg⟩ := hrel
    by_cases hlt : m < n
    · go_wp2_with fail
      refine (markTextC (k0 + m) _ (by omega) (by omega)).mono ?_
      rintro e w1 ⟨rfl, hg1⟩
      have hown1 := own_none hown hg1
      have hc1 : ∃ u, w1.cell? ⟨g, m, none⟩ = some u := by
        rw [hown1.cellAt m (by omega)]
        have hl : m < (marksV k0 m ++ xs.drop m).length := by rw [List.length_append, marksV_len, List.length_drop]; have := hxl.out; omega
        exact ⟨_, List.getElem?_eq_getElem hl⟩
      obtain ⟨u, hc1⟩ := hc1
      have hf1 := hown1.frozenAt m
      have hst := hown1.stored m (.string ⟨(markL (k0 + m)).toArray⟩)
      rw [marks_set k0 m xs (by have := hxl.out; omega)] at hst
      have hg2 : w.grownBy w1 (some g) := hg.andThen hg1 (by simp)
      have hst2 := hg2.trans hst.2
      have hst1 := hst.1
      clear hown hown1 hg1 hst hg2 hg
      go_wp2
      go_roundw
      case rel => exact ⟨m + 1, by omega, by go_num, by go_num, hst1, hst2⟩
      case measure => simp [intOf]; omega
    · obtain rfl : m = n := by omega
      have hd : xs.drop m = [] := List.drop_eq_nil_of_le (by have := hxl.out; omega)
      rw [hd, List.append_nil] at hown
      clear hd
      go_wp2
      go_ret
      exact ⟨rfl, hown, hg⟩

theorem markStrVO (w : World) (base n k0 : Nat) (v : Value) (xs : List Value) (hn : n ≤ 1100000) (hk0 : 0 < k0) (hk1 : k0 ≤ 30000000) (h : w.ownsRow base 9 1 v n xs) :
    Calls Tryz.prog 14 #[v, .int .i64 k0] w fun e w' => e = .returned (.int .i64 ((k0 + n : Nat) : Int)) ∧ w'.ownsRow base 9 1 v n (marksV k0 n) ∧ w.grownBy w' v.ownBlock := by
  rcases own_forms h with ⟨rfl, rfl, rfl⟩ | ⟨g, cp, rfl⟩
  · refine (markStrNil w k0).mono ?_
    rintro e w' ⟨rfl, rfl⟩
    exact ⟨rfl, h, World.grownBy.refl _ _⟩
  · exact markStrCO w base g cp n k0 xs hn hk0 hk1 h

/-- Where the marks end. -/
def oend (k : Nat) : List OV → Nat
  | [] => k
  | y :: r => oend (rend (k + 1 + y.ims.length) y.xs) r
theorem oend_snoc (k : Nat) (ys : List OV) (j : Nat) (hj : j < ys.length) : oend k (ys.take (j + 1)) = rend (oend k (ys.take j) + 1 + (ys.getD j ov0).ims.length) (ys.getD j ov0).xs := by
  have e : ys.getD j ov0 = ys[j] := by simp [List.getD, hj]
  have app : ∀ (x y : List OV) (k : Nat), oend k (x ++ y) = oend (oend k x) y := by
    intro x
    induction x with
    | nil => intro y k; rfl
    | cons a r ih => intro y k; simp only [List.cons_append, oend, ih]
  rw [List.take_succ_eq_append_getElem hj, app, e]
  rfl
theorem oend_ge (k : Nat) (ys : List OV) : k ≤ oend k ys := by
  induction ys generalizing k with
  | nil => exact Nat.le_refl _
  | cons y r ih =>
    have h1 := ih (rend (k + 1 + y.ims.length) y.xs)
    have h2 := rend_ge (k + 1 + y.ims.length) y.xs
    unfold oend; omega
theorem oend_take (k : Nat) (ys : List OV) (j : Nat) : oend k (ys.take j) ≤ oend k ys := by
  have app : ∀ (x y : List OV) (k : Nat), oend k (x ++ y) = oend (oend k x) y := by
    intro x
    induction x with
    | nil => intro y k; rfl
    | cons a r ih => intro y k; simp only [List.cons_append, oend, ih]
  have := app (ys.take j) (ys.drop j) k
  rw [List.take_append_drop] at this
  rw [this]
  exact oend_ge _ _
theorem ovsV_name (ys : List OV) (j : Nat) (x : List UInt8) : (ovsV ys).set (j * 3) (.string ⟨x.toArray⟩) = ovsV (ys.set j ⟨x, (ys.getD j ov0).ims, (ys.getD j ov0).xs, (ys.getD j ov0).ia, (ys.getD j ov0).ic, (ys.getD j ov0).fa, (ys.getD j ov0).fc, (ys.getD j ov0).lo, (ys.getD j ov0).hi⟩) := by
  induction ys generalizing j with
  | nil => simp [ovsV]
  | cons b r ih =>
    cases j with
    | zero => simp [ovsV, ovI, ovF]
    | succ j => rw [show (j + 1) * 3 = j * 3 + 1 + 1 + 1 by omega]; simp [ovsV, ih]
theorem OvOk.blocks {w : World} {y : OV} (h : OvOk w y) {q : Nat} (hq : ObBlocks (ovI y) (ovF y) y.xs q) : y.lo ≤ q ∧ q < y.hi := by
  refine ⟨?_, h.top q hq⟩
  rcases hq with e | e | ⟨x, hx, e⟩
  · exact (h.im.lt q e).1
  · exact (h.fo.row.lt q e).1
  · exact ((h.fo.trees x hx).lt q e).1
/-- Rows that bear the same lists. -/
def SameO (zs ys : List OV) : Prop := zs.length = ys.length ∧ ∀ i, ovI (zs.getD i ov0) = ovI (ys.getD i ov0) ∧ ovF (zs.getD i ov0) = ovF (ys.getD i ov0)
theorem SameO.name {zs ys : List OV} (h : SameO zs ys) (j : Nat) (x : List UInt8) : SameO (zs.set j ⟨x, (zs.getD j ov0).ims, (zs.getD j ov0).xs, (zs.getD j ov0).ia, (zs.getD j ov0).ic, (zs.getD j ov0).fa, (zs.getD j ov0).fc, (zs.getD j ov0).lo, (zs.getD j ov0).hi⟩) ys := by
  refine ⟨by rw [List.length_set]; exact h.1, fun i => ?_⟩
  by_cases hij : j = i
  · subst hij
    by_cases hj : j < zs.length
    · rw [show (zs.set j _).getD j ov0 = ⟨x, (zs.getD j ov0).ims, (zs.getD j ov0).xs, (zs.getD j ov0).ia, (zs.getD j ov0).ic, (zs.getD j ov0).fa, (zs.getD j ov0).fc, (zs.getD j ov0).lo, (zs.getD j ov0).hi⟩ by simp [List.getD, hj]]
      exact ⟨(h.2 j).1, (h.2 j).2⟩
    · rw [List.set_eq_of_length_le (by omega)]; exact h.2 j
  · rw [show (zs.set j _).getD i ov0 = zs.getD i ov0 by simp [List.getD, List.getElem?_set_ne hij]]
    exact h.2 i

set_option maxHeartbeats 4000000 in
set_option maxRecDepth 100000 in
theorem markObjectSC (w : World) (B T g cp k0 : Nat) (ys : List OV) (h : OjOwn w B T (.slice (some ⟨g, 0, none⟩) ys.length cp) ys) (hn : ys.length ≤ 1048576) (hb : ∀ y ∈ ys, y.ims.length ≤ 1100000 ∧ y.xs.length ≤ 1100000 ∧ ∀ x ∈ y.xs, x.1.2.2.length ≤ 1100000) (hk0 : 0 < k0) (hk1 : oend k0 ys ≤ 30000000) :
    Calls Tryz.prog 13 #[.slice (some ⟨g, 0, none⟩) ys.length cp, .int .i64 k0] w fun e w' => e = .returned (.int .i64 ((oend k0 ys : Nat) : Int)) ∧ WroteR w w' (fun q => B ≤ q ∧ q < T) := by
  have HB : Hid (∀ y ∈ ys, y.ims.length ≤ 1100000 ∧ y.xs.length ≤ 1100000 ∧ ∀ x ∈ y.xs, x.1.2.2.length ≤ 1100000) := hb
  have hgb := h.row.lt g rfl
  have hgo := h.off g rfl
  have HGO : Hid (∀ y ∈ ys, g < y.lo ∨ y.hi ≤ g) := hgo.2
  have hgT : g < T := hgo.1
  have HSQ : Hid (ys.Pairwise (fun a b => a.hi ≤ b.lo)) := h.seq
  have HLH : Hid (∀ y ∈ ys, B ≤ y.lo ∧ y.hi ≤ T) := fun y hy => (h.each y hy).2
  have HR0 : Hid (w.ownsRow B 45 3 (.slice (some ⟨g, 0, none⟩) ys.length cp) ys.length (ovsV ys)) := h.row
  have HE0 : Hid (∀ j, 0 ≤ j → j < ys.length → OvOk w (ys.getD j ov0)) := fun j _ hj => (h.each _ (by simp [List.getD, hj])).1
  have HS0 : Hid (SameO ys ys) := ⟨rfl, fun _ => ⟨rfl, rfl⟩⟩
  have HMT : Hid (∀ j, oend k0 (ys.take j) ≤ oend k0 ys) := oend_take k0 ys
  have HMG : Hid (∀ j, k0 ≤ oend k0 (ys.take j)) := fun j => oend_ge _ _
  clear h hb hgo
  go_enter Tryz.func13, Tryz.ntmps13
  go_wp2
  go_loopw [1, 5] (fun kv iv wr => ∃ (j : Nat) (zs : List OV), j ≤ ys.length ∧ iv = .int .i64 (j : Int) ∧ kv = .int .i64 ((oend k0 (ys.take j) : Nat) : Int) ∧ Hid (SameO zs ys) ∧ Hid (wr.ownsRow B 45 3 (.slice (some ⟨g, 0, none⟩) ys.length cp) ys.length (ovsV zs)) ∧ Hid (∀ i, j ≤ i → i < ys.length → OvOk wr (ys.getD i ov0)) ∧ Hid (WroteR w wr (fun q => B ≤ q ∧ q < T))) (fun _ iv _ => ys.length - (intOf iv).toNat)
  case atStart => exact ⟨0, ys, by omega, rfl, rfl, HS0, HR0, HE0, WroteR.refl _ _⟩
  case round =>
    obtain ⟨j, zs, hj, rfl, rfl, HS, HR, HE, HW⟩ := hrel
    clear HS0 HR0 HE0
    by_cases hlt : (j : Int) < (ys.length : Int)
    · have hj2 : j < ys.length := by omega
      have hmem : ys.getD j ov0 ∈ ys := by simp [List.getD, hj2]
      have hyok := HE.out j (Nat.le_refl _) hj2
      have hbd := HB.out _ hmem
      have hlh := HLH.out _ hmem
      have hgo := HGO.out _ hmem
      have hst := oend_snoc k0 ys j hj2
      have hm1 := HMT.out (j + 1)
      have hmg := HMG.out j
      have hsi := HS.out.2 j
      have hzl := HS.out.1
      obtain ⟨v0, v1, v2⟩ := ovsV_at zs j (by omega)
      rw [hsi.1] at v1
      rw [hsi.2] at v2
      have hrow := HR.out
      have hlater : ∀ i, j + 1 ≤ i → i < ys.length → (ys.getD j ov0).hi ≤ (ys.getD i ov0).lo := fun i hi1 hi2 => by
        have := List.pairwise_iff_getElem.1 HSQ.out j i hj2 hi2 (by omega)
        simpa [List.getD, hj2, hi2] using this
      have HLT : Hid (∀ i, j + 1 ≤ i → i < ys.length → (ys.getD j ov0).hi ≤ (ys.getD i ov0).lo) := hlater
      obtain ⟨y, hy⟩ : ∃ y, ys.getD j ov0 = y := ⟨_, rfl⟩
      rw [hy] at hyok hbd hlh hgo hst v1 v2 HLT
      obtain ⟨m, hm⟩ : ∃ m, oend k0 (ys.take j) = m := ⟨_, rfl⟩
      rw [hm] at hst hmg ⊢
      obtain ⟨u0, d0⟩ : ∃ u, wr.cell? ⟨g, j * 3, none⟩ = some u := by
        rw [hrow.cellAt (j * 3) (by omega), v0]; exact ⟨_, rfl⟩
      have HY : Hid (ys.getD j ov0 = y) := hy
      have HMJ : Hid (oend k0 (ys.take j) = m) := hm
      clear hlater hy hm hsi hmem
      have hfg := rend_ge (m + 1 + y.ims.length) y.xs
      have hM : m + 1 + y.ims.length ≤ 30000000 := by omega
      go_wp2_with fail
      refine (markTextC m _ (by omega) (by omega)).mono ?_
      rintro e w1 ⟨rfl, hg1⟩
      have hrow1 := own_none hrow hg1
      have hb1 : Below wr.heap.size wr w1 := ⟨hg1.os, hg1.tape, hg1.output, hg1.size, fun q hq => hg1.block q hq (by simp)⟩
      obtain ⟨x0, hx0⟩ : ∃ x0, markL m = x0 := ⟨_, rfl⟩
      rw [hx0]
      have e0 : w1.cell? ⟨g, j * 3, none⟩ = some u0 := (hb1.cell (p := ⟨g, j * 3, none⟩) (hrow.lt g rfl).2).trans d0
      have f0 := hrow1.frozenAt (j * 3)
      obtain ⟨hrow2, hg2⟩ := hrow1.stored (j * 3) (.string ⟨x0.toArray⟩)
      rw [ovsV_name zs j x0] at hrow2
      have HS2 := HS.out.name j x0
      generalize zs.set j _ = zs2 at hrow2 HS2
      obtain ⟨Z, hZ⟩ : ∃ Z, w1.setCell ⟨g, j * 3, none⟩ (.string ⟨x0.toArray⟩) = Z := ⟨_, rfl⟩
      rw [hZ] at hrow2 hg2
      have hwZ : WroteR wr Z (fun q => q = g) := (WroteR.of_below hb1).trans (WroteR.of_grown hg2 (fun q e => by injection e with e; exact e.symm))
      have hyZ : OvOk Z y := hyok.wrote hwZ (fun q e => by rw [e]; exact hgo)
      have hsz2 := HS2.1
      obtain ⟨_, t1, t2⟩ := ovsV_at zs2 j (by omega)
      rw [(HS2.2 j).1, HY.out] at t1
      rw [(HS2.2 j).2, HY.out] at t2
      have k1 : Z.cell? ⟨g, j * 3 + 1, none⟩ = some (ovI y) := (hrow2.cellAt (j * 3 + 1) (by omega)).trans t1
      have HC1 := markStrVO Z y.lo y.ims.length (m + 1) (ovI y) _ hbd.1 (by omega) (by omega) hyZ.im
      rw [show ((m + 1 : Nat) : Int) = (m : Int) + 1 by omega] at HC1
      have HS3 : Hid (SameO zs2 ys) := HS2
      have HR2 : Hid (Z.ownsRow B 45 3 (.slice (some ⟨g, 0, none⟩) ys.length cp) ys.length (ovsV zs2)) := hrow2
      have HYZ : Hid (OvOk Z y) := hyZ
      have HWZ : Hid (WroteR wr Z (fun q => q = g)) := hwZ
      have HT2 : Hid ((ovsV zs2)[j * 3 + 2]? = some (ovF y)) := t2
      clear hrow hrow1 hrow2 hg1 hb1 hg2 hwZ hyok hyZ t1 t2 v0 v1 v2 HS2 HS HR hx0
      go_wp2_with fail
      refine HC1.mono ?_
      rintro e w3 ⟨rfl, _, hg3⟩
      have hrow3 := HR2.out.kept hg3 (own_typesR HR2.out HYZ.out.im (by decide))
      have k2 : w3.cell? ⟨g, j * 3 + 2, none⟩ = some (ovF y) := (hrow3.cellAt (j * 3 + 2) (by omega)).trans HT2.out
      have hf3 := HYZ.out.fo.texts HYZ.out.im hg3
      have HC2 := markRoutineSV w3 y.lo (m + 1 + y.ims.length) (ovF y) y.xs hbd.2.1 (by omega) (by omega) hbd.2.2 HYZ.out.ap hf3
      have HW3 : Hid (WroteR Z w3 (ObBlocks (ovI y) (ovF y) y.xs)) := WroteR.of_grown hg3 (fun q e => Or.inl e)
      clear HC1 hg3 hrow3 hf3 k1 HT2
      go_wp2_with fail
      refine HC2.mono ?_
      rintro e w4 ⟨rfl, _, hw4⟩
      have hWy : WroteR Z w4 (fun q => y.lo ≤ q ∧ q < y.hi) := (HW3.out.trans (hw4.mono (fun _ e => Or.inr e))).mono (fun q hq => HYZ.out.blocks hq)
      have hWr : WroteR wr w4 (fun q => q = g ∨ (y.lo ≤ q ∧ q < y.hi)) := (HWZ.out.mono (fun _ e => Or.inl e)).trans (hWy.mono (fun _ e => Or.inr e))
      have HR4 : Hid (w4.ownsRow B 45 3 (.slice (some ⟨g, 0, none⟩) ys.length cp) ys.length (ovsV zs2)) := own_wroteR HR2.out hWy (fun q hq hS => by
        have e2 : g = q := by simpa [Value.ownBlock] using hq
        omega)
      have HE4 : Hid (∀ i, j + 1 ≤ i → i < ys.length → OvOk w4 (ys.getD i ov0)) := fun i hi1 hi2 => (HE.out i (by omega) hi2).wrote hWr (fun q hq => by
        rcases hq with e | e
        · rw [e]; exact HGO.out _ (by simp [List.getD, hi2])
        · have := HLT.out i hi1 hi2; omega)
      have HW4 : Hid (WroteR w w4 (fun q => B ≤ q ∧ q < T)) := HW.out.trans (hWr.mono (fun q hq => by
        rcases hq with e | e
        · rw [e]; exact ⟨hgb.1, hgT⟩
        · omega))
      have HMS : Hid (oend k0 (ys.take (j + 1)) = rend (m + 1 + y.ims.length) y.xs) := hst
      clear HC2 hw4 hWy hWr HW3 HYZ HWZ HR2 HE HW k2 hst
      go_wp2
      go_roundw
      case rel => exact ⟨j + 1, zs2, by omega, by go_num, by rw [HMS.out], HS3, HR4, HE4, HW4⟩
      case measure => simp [intOf]; omega
    · obtain rfl : j = ys.length := by omega
      have HEnd : Hid (oend k0 (ys.take ys.length) = oend k0 ys) := by exact (by rw [List.take_of_length_le (Nat.le_refl _)] : oend k0 (ys.take ys.length) = oend k0 ys)
      clear HS HR HE
      go_wp2
      go_ret
      exact ⟨by rw [← HEnd.out]; rfl, HW.out⟩

end Go.Proofs.YteolfnceobjonaaGreat

/-! What the landed functions of chapter 16 are told of a list of objects. -/
namespace Go.Proofs.YteolfnceobjonaaGreat
open Go.RowKit

/-- What the landed functions are told of a project that they are handed. -/
structure ObjsOk (w : World) (a : Option Addr) (len cap : Nat) (os : List Ob) : Prop where
  hlen : os.length = len
  nil : a = none → cap = 0
  hcap : len ≤ cap
  small : len ≤ 1048576
  each : ∀ j, j < len → ∃ b off, a = some ⟨b, off, none⟩ ∧ b < w.heap.size ∧ w.cell? ⟨b, off + j * 3, none⟩ = some (.string ⟨(os.getD j ob0).1.toArray⟩) ∧
    ∃ ia il ic fa fl fc, w.cell? ⟨b, off + j * 3 + 1, none⟩ = some (.slice ia il ic) ∧ w.cell? ⟨b, off + j * 3 + 2, none⟩ = some (.slice fa fl fc) ∧ ObOk w (os.getD j ob0).1 ia il ic fa fl fc (os.getD j ob0).2.1 (os.getD j ob0).2.2
theorem ObjsOk.below {w w' : World} {a : Option Addr} {len cap : Nat} {os : List Ob} (h : ObjsOk w a len cap os) (hb : Below w.heap.size w w') : ObjsOk w' a len cap os :=
  ⟨h.hlen, h.nil, h.hcap, h.small, fun j hj => by
    obtain ⟨b, off, e, hlt, c0, ia, il, ic, fa, fl, fc, c1, c2, hk⟩ := h.each j hj
    exact ⟨b, off, e, Nat.lt_of_lt_of_le hlt hb.size, (hb.cell (p := ⟨b, off + j * 3, none⟩) hlt).trans c0, ia, il, ic, fa, fl, fc, (hb.cell (p := ⟨b, off + j * 3 + 1, none⟩) hlt).trans c1, (hb.cell (p := ⟨b, off + j * 3 + 2, none⟩) hlt).trans c2, hk.below hb⟩⟩
theorem ObjsOk.in {w : World} {a : Option Addr} {len cap : Nat} {os : List Ob} (h : ObjsOk w a len cap os) : ObjsIn w a len os :=
  ⟨h.hlen, fun j hj => by
    obtain ⟨b, off, e, hlt, c0, ia, il, ic, fa, fl, fc, c1, c2, hk⟩ := h.each j hj
    exact ⟨b, off, e, hlt, c0, ia, il, ic, fa, fl, fc, c1, c2, hk.i, hk.r.c.in⟩⟩
/-- A project that a call owns, as they are told of it. -/
theorem OjOwn.ok {w : World} {B T : Nat} {g len cap : Nat} {ys : List OV} {os : List Ob} (h : OjOwn w B T (.slice (some ⟨g, 0, none⟩) len cap) ys) (hp : ys.map ovP = os) (hi : IntOs os) (hs : ShortOs os) (hl : os.length = len) (hlen : len ≤ 1048576) : ObjsOk w (some ⟨g, 0, none⟩) len cap os := by
  have hyl : ys.length = len := by rw [← hl, ← hp, List.length_map]
  have hrow := h.row
  rw [hyl] at hrow
  have hcap : len ≤ cap := by
    rcases hrow.2 with ⟨e, _⟩ | ⟨g', cap', cur, e, _, _, hc, _⟩
    · cases e
    · injection e with _ _ e3; rw [e3]; exact hc
  refine ⟨hl, (fun e => (by cases e)), hcap, hlen, fun j hj => ?_⟩
  obtain ⟨v0, v1, v2⟩ := ovsV_at ys j (by omega)
  have hc := fun k (hk : k < len * 3) => World.ownsRow.cellAt hrow k hk
  have hmem : ys.getD j ov0 ∈ ys := by simp [List.getD, show j < ys.length by omega]
  have hy := (h.each _ hmem).1
  obtain ⟨ai, ci, af, cf, e1, e2, h3, h4, hti, hfi⟩ := own_ob hy.im hy.fo rfl
  have hro : RtOk w af ((os.getD j ob0).2.2).length cf (os.getD j ob0).2.2 := by
    have hfo := hy.fo
    rw [e2] at hfo
    have hpj : os.getD j ob0 = ovP (ys.getD j ov0) := by rw [← hp]; exact getD_map_ov ys j
    have hsj := hs j
    have hij := hi j
    rw [hpj] at hsj hij ⊢
    exact ⟨hfo.cap rfl rfl, hij, hsj.2.2.2.2, hsj.2.2.2.1⟩
  have hpj : os.getD j ob0 = ovP (ys.getD j ov0) := by rw [← hp]; exact getD_map_ov ys j
  have hsj := hs j
  have hij := hi j
  rw [hpj] at hsj hij hro ⊢
  refine ⟨g, 0, rfl, (hrow.lt g rfl).2, ?_, ai, (ys.getD j ov0).ims.length, ci, af, ((ys.getD j ov0).xs.map (fun x : RV => x.1)).length, cf, ?_, ?_, ⟨hti, hro, h3, hsj.2.1, hsj.1, hsj.2.2.1⟩⟩
  · rw [Nat.zero_add, hc _ (by omega), v0]; rfl
  · rw [Nat.zero_add, hc _ (by omega), v1, e1]
  · rw [Nat.zero_add, hc _ (by omega), v2, e2]

theorem rend_le16 (k : Nat) (xs : List RV) : rend k xs ≤ k + 5 * (xs.length + rtsSz (xs.map (·.1))) := by
  induction xs generalizing k with
  | nil => simp [rend, rtsSz]
  | cons x r ih =>
    have h1 := ih (k + 2 + 5 * x.1.2.2.length)
    have h2 : x.1.2.2.length ≤ rtSz x.1 := by unfold rtSz; omega
    simp only [rend, List.length_cons, List.map_cons, rtsSz]
    omega
theorem oend_le16 (k : Nat) (ys : List OV) : oend k ys ≤ k + ys.length + 5 * osSz (ys.map ovP) := by
  induction ys generalizing k with
  | nil => simp [oend, osSz]
  | cons y r ih =>
    have h1 := ih (rend (k + 1 + y.ims.length) y.xs)
    have h2 := rend_le16 (k + 1 + y.ims.length) y.xs
    have h3 : obZ (ovP y) = y.nm.length + (y.ims.length + joinN y.ims) + (y.xs.length + rtsSz (y.xs.map (·.1))) := by unfold obZ obSz ovP; simp
    simp only [oend, List.length_cons, List.map_cons, osSz]
    omega
/-- How much the marks of a project may be. -/
theorem oj_small {ys : List OV} {os : List Ob} (hp : ys.map ovP = os) (hz : os.length + osSz os ≤ 1048576) : (∀ y ∈ ys, y.ims.length ≤ 1100000 ∧ y.xs.length ≤ 1100000 ∧ ∀ x ∈ y.xs, x.1.2.2.length ≤ 1100000) ∧ oend 1 ys ≤ 30000000 := by
  have hyl : ys.length = os.length := by rw [← hp, List.length_map]
  refine ⟨fun y hy => ?_, ?_⟩
  · obtain ⟨i, hi, rfl⟩ := List.mem_iff_getElem.1 hy
    have h1 := osSz_at os i
    have h2 : os.getD i ob0 = ovP ys[i] := by rw [← hp, getD_map_ov]; simp [List.getD, hi]
    rw [h2] at h1
    have h3 : obZ (ovP ys[i]) = ys[i].nm.length + (ys[i].ims.length + joinN ys[i].ims) + (ys[i].xs.length + rtsSz (ys[i].xs.map (·.1))) := by unfold obZ obSz ovP; simp
    refine ⟨by omega, by omega, fun x hx => ?_⟩
    obtain ⟨j, hj, rfl⟩ := List.mem_iff_getElem.1 hx
    have h4 := rtsSz_at (ys[i].xs.map (·.1)) j
    have h5 : (ys[i].xs.map (·.1)).getD j rt0 = (ys[i].xs[j]).1 := by simp [List.getD, hj]
    rw [h5] at h4
    unfold rtSz at h4
    omega
  · have := oend_le16 1 ys
    rw [hp] at this
    omega

end Go.Proofs.YteolfnceobjonaaGreat

/-! Plain facts of ObjectOf: the routines of a package's functions, in the order of their names. -/
namespace Go.Proofs.YteolfnceobjonaaGreat
open Go.RowKit

/-- A function, compiled: its routine. -/
def rtF (nm : List UInt8) (f : Fn) : Rt := (nm ++ [46] ++ f.1, f.2.1, compiledV f.2.2)
/-- Behind those whose names are less, one after another. -/
def putN (r : Rt) : List Rt → Nat
  | [] => 0
  | x :: xs => if Op.bytesLess x.1 r.1 = true then putN r xs + 1 else 0
def put15 (r : Rt) (rs : List Rt) : List Rt := rs.take (putN r rs) ++ r :: rs.drop (putN r rs)
def sort15 (rs : List Rt) : List Rt := rs.foldl (fun z r => put15 r z) []
theorem putN_lt (r : Rt) : ∀ (rs : List Rt) (j : Nat), j < putN r rs → Op.bytesLess (rs.getD j rt0).1 r.1 = true
  | [], j, h => by simp [putN] at h
  | x :: xs, j, h => by
    unfold putN at h
    split at h
    · rename_i hx
      cases j with
      | zero => exact hx
      | succ j => exact putN_lt r xs j (by omega)
    · omega
theorem putN_end (r : Rt) : ∀ rs : List Rt, putN r rs < rs.length → Op.bytesLess (rs.getD (putN r rs) rt0).1 r.1 = false
  | [], h => by simp at h
  | x :: xs, h => by
    unfold putN at h ⊢
    split
    · rename_i hx
      rw [if_pos hx] at h
      exact putN_end r xs (by simp only [List.length_cons] at h; omega)
    · rename_i hx
      exact Bool.eq_false_iff.2 hx
theorem put15_perm (r : Rt) (rs : List Rt) : (put15 r rs).Perm (r :: rs) := by
  unfold put15
  refine List.perm_middle.trans ?_
  rw [List.take_append_drop]
theorem foldl_perm15 : ∀ (rs z : List Rt), (rs.foldl (fun z r => put15 r z) z).Perm (z ++ rs)
  | [], z => by simp
  | r :: rs, z => by
    refine (foldl_perm15 rs (put15 r z)).trans ?_
    refine ((put15_perm r z).append_right rs).trans ?_
    exact List.perm_middle.symm
theorem sort15_perm (rs : List Rt) : (sort15 rs).Perm rs := foldl_perm15 rs []
theorem sort15_len (rs : List Rt) : (sort15 rs).length = rs.length := (sort15_perm rs).length_eq
/-- None is less than one ahead of it. -/
abbrev SortR (rs : List Rt) : Prop := rs.Pairwise fun a b => Op.bytesLess b.1 a.1 = false
theorem lt8_not {x y : List UInt8} (h : Op.bytesLess x y = true) : Op.bytesLess y x = false := by
  rcases e : Op.bytesLess y x with _ | _
  · rfl
  · have := lt8_trans h e
    rw [lt8_irr] at this
    cases this
theorem lt8_ntrans {x y z : List UInt8} (h1 : Op.bytesLess y x = false) (h2 : Op.bytesLess z y = false) : Op.bytesLess z x = false := by
  rcases e : Op.bytesLess z x with _ | _
  · rfl
  · rcases e2 : Op.bytesLess x y with _ | _
    · have hxy := lt8_tri e2 h1
      rw [hxy, h2] at e
      cases e
    · rw [lt8_trans e e2] at h2
      cases h2
theorem put15_sort {r : Rt} {rs : List Rt} (h : SortR rs) : SortR (put15 r rs) := by
  have ht : SortR (rs.take (putN r rs)) := h.sublist (List.take_sublist _ _)
  have hd : SortR (rs.drop (putN r rs)) := h.sublist (List.drop_sublist _ _)
  have h12 : ∀ a ∈ rs.take (putN r rs), ∀ b ∈ rs.drop (putN r rs), Op.bytesLess b.1 a.1 = false := by
    have h' := h
    rw [← List.take_append_drop (putN r rs) rs] at h'
    exact (List.pairwise_append.1 h').2.2
  have hl : ∀ a ∈ rs.take (putN r rs), Op.bytesLess a.1 r.1 = true := fun a ha => by
    obtain ⟨j, hj, rfl⟩ := List.mem_iff_getElem.1 ha
    rw [List.length_take] at hj
    have := putN_lt r rs j (by omega)
    rw [List.getD_eq_getElem?_getD, List.getElem?_eq_getElem (by omega)] at this
    rw [List.getElem_take]
    exact this
  have hg : ∀ b ∈ rs.drop (putN r rs), Op.bytesLess b.1 r.1 = false := fun b hb => by
    obtain ⟨j, hj, rfl⟩ := List.mem_iff_getElem.1 hb
    rw [List.length_drop] at hj
    have he := putN_end r rs (by omega)
    rw [List.getElem_drop]
    rw [List.getD_eq_getElem?_getD, List.getElem?_eq_getElem (by omega)] at he
    simp only [Option.getD_some] at he
    cases j with
    | zero => exact he
    | succ j =>
      have hp := List.pairwise_iff_getElem.1 h (putN r rs) (putN r rs + (j + 1)) (by omega) (by omega) (by omega)
      exact lt8_ntrans he hp
  unfold put15
  refine List.pairwise_append.2 ⟨ht, List.pairwise_cons.2 ⟨fun b hb => hg b hb, hd⟩, fun a ha b hb => ?_⟩
  rcases List.mem_cons.1 hb with rfl | hb
  · exact lt8_not (hl a ha)
  · exact h12 a ha b hb
theorem foldl_sort15 : ∀ (rs z : List Rt), SortR z → SortR (rs.foldl (fun z r => put15 r z) z)
  | [], _, h => h
  | r :: rs, z, h => foldl_sort15 rs (put15 r z) (put15_sort h)
theorem sort15_sort (rs : List Rt) : SortR (sort15 rs) := foldl_sort15 rs [] List.Pairwise.nil
/-- Sorted in any way: the same, where each name is there once. -/
theorem sort15_eq {rs zs : List Rt} (hn : ∀ a ∈ rs, ∀ b ∈ rs, a.1 = b.1 → a = b) (hp : zs.Perm rs) (hs : SortR zs) : zs = sort15 rs := by
  refine List.Perm.eq_of_pairwise (le := fun a b : Rt => Op.bytesLess b.1 a.1 = false) (fun a b ha hb h1 h2 => ?_) hs (sort15_sort rs) (hp.trans (sort15_perm rs).symm)
  exact hn a (hp.mem_iff.1 ha) b ((sort15_perm rs).mem_iff.1 hb) (lt8_tri h2 h1)

/-- The object of a package whose trees are folded. -/
def obOf (q : Pk) : Ob := (q.1, q.2.1, sort15 (q.2.2.map (rtF q.1)))
def objOf (q : Pk) : Ob := if objB (obOf q) = true then obOf q else ob0
end Go.Proofs.YteolfnceobjonaaGreat
