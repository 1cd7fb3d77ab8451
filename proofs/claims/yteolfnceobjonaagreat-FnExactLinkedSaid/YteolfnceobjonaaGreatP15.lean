/-
  Parts of one proof, one behind the other: LkC, LkD, HasS, PackS.
-/
import Derived.Test.YteolfnceobjonaaGreatP14
import Derived.Test.YteolfnceobjonaaGreatP2
import Derived.Test.YteolfnceobjonaaGreatP1
import Derived.BigQuiet

/-! Contracts of chapter 16's landed code: facesOf, callsIn. -/
namespace Go.Proofs.YteolfnceobjonaaGreat
open Go.RowKit Go.Maps

def fcs16 (rs : List Rt) : List Fc := rs.map (fun r => (r.1, r.2.1))
theorem fcs16_names (rs : List Rt) : (fcs16 rs).map (fun c => c.1) = nms16 rs := by unfold fcs16 nms16; rw [List.map_map]; rfl
theorem fcs16_take (rs : List Rt) (k : Nat) (hk : k < rs.length) : fcs16 (rs.take (k + 1)) = fcs16 (rs.take k) ++ [((rs.getD k rt0).1, (rs.getD k rt0).2.1)] := by
  unfold fcs16
  rw [List.take_succ_eq_append_getElem hk, List.map_append, List.getD_eq_getElem?_getD, List.getElem?_eq_getElem hk]
  rfl

set_option maxHeartbeats 4000000 in
set_option maxRecDepth 100000 in
theorem implFacesOf (a : Option Addr) (len cap : Nat) (rs : List Rt) (w : World) (hin : RtsIn w a len rs) (hlen : len ≤ 1048576) (hsh : ∀ j, (rs.getD j rt0).1.length ≤ 1048576) :
    Calls Tryz.prog 37 #[.slice a len cap] w fun e w' => ∃ b n D, e = .returned (.map (some b)) ∧ w.heap.size ≤ b ∧ n ≤ 1048576 ∧ w'.ownsMap Tryz.prog 9 fcR b n D ∧ MapF D (fcs16 rs) ∧ Below w.heap.size w w' := by
  have hl := hin.1
  have HI : Hid (RtsIn w a len rs) := hin
  have HSh : Hid (∀ j, (rs.getD j rt0).1.length ≤ 1048576) := hsh
  have HX0 : Hid ((w.alloc (.map #[] 0)).ownsMap Tryz.prog 9 fcR w.heap.size 0 (.map []) ∧ MapF (.map []) (fcs16 (rs.take 0)) ∧ Below w.heap.size w (w.alloc (.map #[] 0))) := ⟨World.ownsMap_made w _ _ _, by simpa [fcs16] using MapF.empty, (Below.refl _ _).alloc (Nat.le_refl _) _⟩
  have HTk : Hid (∀ k, k < len → fcs16 (rs.take (k + 1)) = fcs16 (rs.take k) ++ [((rs.getD k rt0).1, (rs.getD k rt0).2.1)]) := fun k hk => fcs16_take rs k (by omega)
  clear hin hsh
  have hmm := @run_makeMap Tryz.prog
  go_enter Tryz.func37, Tryz.ntmps37
  go_wp2
  go_loopw [9] (fun iv wr => ∃ (k : Nat) (D : DataW Unit), iv = .int .i64 (k : Int) ∧ k ≤ len ∧ Hid (wr.ownsMap Tryz.prog 9 fcR w.heap.size k D ∧ MapF D (fcs16 (rs.take k)) ∧ Below w.heap.size w wr)) (fun iv _ => len - (intOf iv).toNat)
  case atStart => exact ⟨0, .map [], rfl, Nat.zero_le _, HX0⟩
  case round =>
    obtain ⟨k, D, rfl, hk, HX⟩ := hrel
    clear HX0
    by_cases hlt : (k : Int) < (len : Int)
    · obtain ⟨b, off, rfl, hbl, c0, c1, ca, cl, cc, c2, _⟩ := (HI.out.below HX.out.2.2).2 k (by omega)
      have hst := HTk.out k (by omega)
      have hsn := HSh.out k
      obtain ⟨r, hr⟩ : ∃ r, rs.getD k rt0 = r := ⟨_, rfl⟩
      rw [hr] at c0 c1 hst hsn
      obtain ⟨nm, ar, cd⟩ := r
      simp only at c0 c1 hst hsn
      obtain ⟨Y, hY⟩ : ∃ Y, wr.alloc (.cells #[.string ⟨nm.toArray⟩, .int .i64 ar, .slice ca cl cc] 75) = Y := ⟨_, rfl⟩
      have hb : Below wr.heap.size wr Y := by rw [← hY]; exact (Below.refl _ _).alloc (Nat.le_refl _) _
      have hsY : wr.heap.size < Y.heap.size := by rw [← hY]; simp
      have hR : Y.heap[wr.heap.size]? = some (.cells #[.string ⟨nm.toArray⟩, .int .i64 ar, .slice ca cl cc] 75) := by rw [← hY]; exact heap_alloc_new wr _
      have hoY : Y.ownsMap Tryz.prog 9 fcR w.heap.size k D := by rw [← hY]; exact HX.out.1.alloc _
      have hBY : Below w.heap.size w Y := HX.out.2.2.trans (hb.mono HX.out.2.2.size)
      have HBY : Hid (Below w.heap.size w Y) := hBY
      have HC : Hid (_) := implPut16 (nm, ar) w.heap.size k D (fcs16 (rs.take k)) Y hoY HX.out.2.1 (by unfold maxLen; omega) (by show nm.length ≤ maxLen; unfold maxLen; omega)
      rw [← hst] at HC
      obtain ⟨y0, y1, y2, _⟩ := threeR (Below.refl _ Y) hsY hR
      obtain ⟨E, hE⟩ : ∃ E, wr.heap.size = E := ⟨_, rfl⟩
      rw [hE] at y0 y1 y2
      clear hst hr hb hR hoY hBY hsn HX
      go_wp2_with fail
      refine Calls.mono HC.out ?_
      rintro e w1 ⟨rfl, D', h1, h2, h3⟩
      have HX2 : Hid (w1.ownsMap Tryz.prog 9 fcR w.heap.size (k + 1) D' ∧ MapF D' (fcs16 (rs.take (k + 1))) ∧ Below w.heap.size w w1) := ⟨h1, h2, HBY.out.grown h3 HBY.out.size (fun q e => by injection e with e; omega)⟩
      clear h1 h2 h3 HC
      go_wp2
      go_roundw
      case rel => exact ⟨k + 1, D', by go_num, by omega, HX2⟩
      case measure => simp [intOf]; omega
    · obtain rfl : k = len := by omega
      have HT : Hid (rs.take k = rs) := List.take_of_length_le (by omega)
      have hx := HX.out
      rw [HT.out] at hx
      have HX2 : Hid (wr.ownsMap Tryz.prog 9 fcR w.heap.size k D ∧ MapF D (fcs16 rs) ∧ Below w.heap.size w wr) := hx
      clear hx HX
      go_wp2
      go_ret
      exact ⟨w.heap.size, rfl, Nat.le_refl _, k, hlen, D, HX2.out⟩

/-- A row of faces. -/
def fcV : List Fc → List Value
  | [] => []
  | c :: r => .string ⟨c.1.toArray⟩ :: .int .i64 c.2 :: fcV r
theorem fcV_append (x y : List Fc) : fcV (x ++ y) = fcV x ++ fcV y := by
  induction x with
  | nil => rfl
  | cons c r ih => simp [fcV, ih]
theorem fcV_one (cs : List Fc) : ∀ u ∈ fcV cs, u.oneCell' = true := by
  induction cs with
  | nil => intro u hu; cases hu
  | cons c r ih =>
    intro u hu
    simp only [fcV, List.mem_cons] at hu
    rcases hu with rfl | rfl | hu
    · rfl
    · rfl
    · exact ih u hu
def fc0 : Fc := ([], 0)
theorem fcV_at (cs : List Fc) (j : Nat) (hj : j < cs.length) : (fcV cs)[j * 2]? = some (.string ⟨(cs.getD j fc0).1.toArray⟩) ∧ (fcV cs)[j * 2 + 1]? = some (.int .i64 (cs.getD j fc0).2) := by
  induction cs generalizing j with
  | nil => simp at hj
  | cons c r ih =>
    cases j with
    | zero => simp [fcV]
    | succ j =>
      obtain ⟨h0, h1⟩ := ih j (by simpa using hj)
      refine ⟨?_, ?_⟩
      · rw [show (j + 1) * 2 = j * 2 + 1 + 1 by omega]; simpa [fcV] using h0
      · rw [show (j + 1) * 2 + 1 = j * 2 + 1 + 1 + 1 by omega]; simpa [fcV] using h1
theorem infoFc : (Tryz.prog.info? 96).map (fun i => (i.zero, i.size, i.bytes)) = some (some (.agg #[.string ⟨#[]⟩, .int .i64 0]), 2, 24) := by kernel_rfl
theorem push_fc {X : World} {B g cp : Nat} {cs : List Fc} (h : X.ownsRow B 96 2 (.slice (some ⟨g, 0, none⟩) cs.length cp) cs.length (fcV cs)) (c : Fc) (hB : B ≤ X.heap.size) (hn : cs.length ≤ 1048576000) :
    ∃ g' c' Y, (Builtin.append_ #[70, 70] 70 #[.slice (some ⟨g, 0, none⟩) cs.length cp, .slice (some ⟨X.heap.size, 0, none⟩) 1 1]).run Tryz.prog (X.alloc (.cells #[.string ⟨c.1.toArray⟩, .int .i64 c.2] 96)) = .ok (.slice (some ⟨g', 0, none⟩) (cs.length + 1) c') Y ∧ Y.ownsRow B 96 2 (.slice (some ⟨g', 0, none⟩) (cs.length + 1) c') (cs.length + 1) (fcV (cs ++ [c])) ∧ X.grownBy Y (some g) := by
  obtain ⟨i0, hi, hz0, hz1, hz2⟩ := info_parts infoFc
  have hA := heap_alloc_new X (.cells #[.string ⟨c.1.toArray⟩, .int .i64 c.2] 96)
  have hsrc : Src (X.alloc (.cells #[.string ⟨c.1.toArray⟩, .int .i64 c.2] 96)) (.slice (some ⟨X.heap.size, 0, none⟩) 1 1) 1 2 (fcV [c]) := by
    refine ⟨rfl, fcV_one _, Or.inr ⟨_, 1, rfl, fun j u hu => ?_⟩⟩
    have he : ∀ i, (⟨X.heap.size, 0, none⟩ : Addr).add i = ⟨X.heap.size, 0 + i, none⟩ := fun i => by unfold Addr.add; split <;> simp_all
    rw [he, Nat.zero_add]
    match j, hu with
    | 0, hu => simp [fcV] at hu; subst hu; rw [cell_of_row _ _ _ _ _ _ hA]; rfl
    | 1, hu => simp [fcV] at hu; subst hu; rw [cell_of_row _ _ _ _ _ _ hA]; rfl
    | j + 2, hu => simp [fcV] at hu
  obtain ⟨v', Y, hrun, hown, hg, _⟩ := run_append_src (P := Tryz.prog) (X.alloc (.cells #[.string ⟨c.1.toArray⟩, .int .i64 c.2] 96)) B 70 70 96 i0 _ 2 24 Tryz.underlying70 hi hz0 hz1 hz2 rfl (by decide) _ _ _ (h.alloc _) _ 1 (fcV [c]) hsrc (by unfold maxLen; omega) (by omega) (by simp; omega)
  rw [← fcV_append] at hown
  obtain ⟨g', c', rfl⟩ := own_some hown (by omega)
  exact ⟨g', c', Y, hrun, hown, (World.grownBy_alloc X _ _).trans hg⟩

set_option maxHeartbeats 8000000 in
set_option maxRecDepth 100000 in
theorem implCallsIn (a : Option Addr) (len cap : Nat) (rs : List Rt) (w : World) (hin : RtsIn w a len rs) (hlen : len ≤ 64) (hsh : ∀ j, (rs.getD j rt0).2.2.length ≤ 1048576) :
    Calls Tryz.prog 44 #[.slice a len cap] w fun e w' => ∃ g c, e = .returned (.slice (some ⟨g, 0, none⟩) (calls16 rs).length c) ∧ w'.ownsRow w.heap.size 96 2 (.slice (some ⟨g, 0, none⟩) (calls16 rs).length c) (calls16 rs).length (fcV (calls16 rs)) ∧ Below w.heap.size w w' := by
  have hl := hin.1
  have HI : Hid (RtsIn w a len rs) := hin
  have HSh : Hid (∀ j, (rs.getD j rt0).2.2.length ≤ 1048576) := hsh
  have HX0 : Hid ((w.alloc (.cells #[] 96)).ownsRow w.heap.size 96 2 (.slice (some ⟨w.heap.size, 0, none⟩) 0 0) 0 (fcV []) ∧ Below w.heap.size w (w.alloc (.cells #[] 96))) := ⟨World.ownsRow_lit w #[] 0 (Nat.le_refl _) (by decide) rfl, (Below.refl _ _).alloc (Nat.le_refl _) _⟩
  have HTk : Hid (∀ k, k < len → calls16 (rs.take (k + 1)) = calls16 (rs.take k) ++ calR (rs.getD k rt0).2.2) := fun k hk => calls16_take rs k (by omega)
  have HAll : Hid (calls16 (rs.take len) = calls16 rs) := by exact (by rw [List.take_of_length_le (by omega)] : calls16 (rs.take len) = calls16 rs)
  have HZ : Hid (calls16 (rs.take 0) = []) := by exact (by simp [calls16] : calls16 (rs.take 0) = [])
  clear hin hsh
  go_enter Tryz.func44, Tryz.ntmps44
  go_wp2
  go_loopw [3, 11] (fun vv iv wr => ∃ (k g c : Nat) (cs : List Fc), iv = .int .i64 (k : Int) ∧ k ≤ len ∧ vv = .slice (some ⟨g, 0, none⟩) cs.length c ∧ cs.length ≤ 1048576 * k ∧ Hid (cs = calls16 (rs.take k)) ∧ Hid (wr.ownsRow w.heap.size 96 2 (.slice (some ⟨g, 0, none⟩) cs.length c) cs.length (fcV cs) ∧ Below w.heap.size w wr)) (fun _ iv _ => len - (intOf iv).toNat)
  case atStart => exact ⟨0, w.heap.size, 0, [], rfl, Nat.zero_le _, rfl, by simp, HZ.out.symm, HX0⟩
  case round =>
    obtain ⟨k, g, c, cs, rfl, hk, rfl, hcl, HM, HX⟩ := hrel
    clear HX0
    by_cases hlt : (k : Int) < (len : Int)
    · obtain ⟨b, off, rfl, hbl, c0, c1, ca, cl, cc, c2, hins⟩ := (HI.out.below HX.out.2).2 k (by omega)
      have hst := HTk.out k (by omega)
      have hsn := HSh.out k
      obtain ⟨r, hr⟩ : ∃ r, rs.getD k rt0 = r := ⟨_, rfl⟩
      rw [hr] at c0 c1 hst hsn hins
      obtain ⟨nm, ar, cd⟩ := r
      simp only at c0 c1 hst hsn hins
      obtain rfl : cd.length = cl := hins.1
      obtain ⟨Y, hY⟩ : ∃ Y, wr.alloc (.cells #[.string ⟨nm.toArray⟩, .int .i64 ar, .slice ca cd.length cc] 75) = Y := ⟨_, rfl⟩
      have hb : Below wr.heap.size wr Y := by rw [← hY]; exact (Below.refl _ _).alloc (Nat.le_refl _) _
      have hsY : wr.heap.size < Y.heap.size := by rw [← hY]; simp
      have hR : Y.heap[wr.heap.size]? = some (.cells #[.string ⟨nm.toArray⟩, .int .i64 ar, .slice ca cd.length cc] 75) := by rw [← hY]; exact heap_alloc_new wr _
      have HX1 : Hid (Y.ownsRow w.heap.size 96 2 (.slice (some ⟨g, 0, none⟩) cs.length c) cs.length (fcV cs) ∧ Below w.heap.size w Y) := ⟨own_below HX.out.1 hb, HX.out.2.trans (hb.mono HX.out.2.size)⟩
      have HIn : Hid (InsIn w ca cd.length cd) := by
        obtain ⟨b', off', e', _, _, _, ca', cl', cc', c2', hins'⟩ := HI.out.2 k (by omega)
        injection e' with e'
        injection e' with e1 e2 _
        subst e1 e2
        have hf := (HX.out.2.cell (p := ⟨b, off + k * 3 + 2, none⟩) (World.block_lt_of_cell? w ⟨b, off + k * 3 + 2, none⟩ c2')).trans c2'
        rw [c2] at hf
        injection hf with hf
        injection hf with f1 f2 f3
        subst f1 f2 f3
        rw [hr] at hins'
        exact hins'
      obtain ⟨y0, y1, y2, _⟩ := threeR (Below.refl _ Y) hsY hR
      obtain ⟨E, hE⟩ : ∃ E, wr.heap.size = E := ⟨_, rfl⟩
      rw [hE] at y0 y1 y2
      have HTk2 : Hid (∀ j, j < cd.length → calR (cd.take (j + 1)) = if (cd.getD j in0).1 = 9 then calR (cd.take j) ++ [((cd.getD j in0).2.2.2.2, (cd.getD j in0).2.2.1)] else calR (cd.take j)) := fun j hj => calR_take cd j hj
      have HEn : Hid (calR (cd.take cd.length) = calR cd) := by exact (by rw [List.take_of_length_le (Nat.le_refl _)] : calR (cd.take cd.length) = calR cd)
      have HZ2 : Hid (cs ++ calR (cd.take 0) = cs) := by exact (by simp [calR] : cs ++ calR (cd.take 0) = cs)
      have HST : Hid (calls16 (rs.take (k + 1)) = cs ++ calR cd) := by exact (by rw [hst, HM.out] : calls16 (rs.take (k + 1)) = cs ++ calR cd)
      obtain ⟨m, hm⟩ : ∃ m, cd.length = m := ⟨_, rfl⟩
      rw [hm] at HIn HTk2 HEn hsn y2 c2 hY
      clear hst hr hb hR hins HX HM hm
      go_wp2
      go_loopw [3, 18] (fun vv jv wx => ∃ (j g c : Nat) (ds : List Fc), jv = .int .i64 (j : Int) ∧ j ≤ m ∧ vv = .slice (some ⟨g, 0, none⟩) ds.length c ∧ ds.length ≤ cs.length + j ∧ Hid (ds = cs ++ calR (cd.take j)) ∧ Hid (wx.ownsRow w.heap.size 96 2 (.slice (some ⟨g, 0, none⟩) ds.length c) ds.length (fcV ds) ∧ Below w.heap.size w wx)) (fun _ jv _ => m - (intOf jv).toNat)
      case atStart => exact ⟨0, g, c, cs, rfl, Nat.zero_le _, rfl, by omega, HZ2.out.symm, HX1⟩
      case round =>
        clear HX1
        obtain ⟨j, g, c, ds, rfl, hj, rfl, hdl, HM, HX⟩ := hrel
        by_cases hjm : (j : Int) < (m : Int)
        · obtain ⟨b2, off2, rfl, hbl2, d0, d1, d2, d3, d4⟩ := (HIn.out.below HX.out.2).2 j (by omega)
          have hst := HTk2.out j (by omega)
          obtain ⟨i, hi⟩ : ∃ i, cd.getD j in0 = i := ⟨_, rfl⟩
          rw [hi] at d0 d1 d2 d3 d4 hst
          obtain ⟨ik, iR, iA, iB, inm⟩ := i
          simp only at d0 d1 d2 d3 d4 hst
          obtain ⟨Z, hZ⟩ : ∃ Z, wr.alloc (.cells #[.int .i64 ik, .int .i64 iR, .int .i64 iA, .int .i64 iB, .string ⟨inm.toArray⟩] 102) = Z := ⟨_, rfl⟩
          have hb : Below wr.heap.size wr Z := by rw [← hZ]; exact (Below.refl _ _).alloc (Nat.le_refl _) _
          have hR : Z.heap[wr.heap.size]? = some (.cells #[.int .i64 ik, .int .i64 iR, .int .i64 iA, .int .i64 iB, .string ⟨inm.toArray⟩] 102) := by rw [← hZ]; exact heap_alloc_new wr _
          have HX1 : Hid (Z.ownsRow w.heap.size 96 2 (.slice (some ⟨g, 0, none⟩) ds.length c) ds.length (fcV ds) ∧ Below w.heap.size w Z) := ⟨own_below HX.out.1 hb, HX.out.2.trans (hb.mono HX.out.2.size)⟩
          have z0 : Z.cell? ⟨wr.heap.size, 0, none⟩ = some (.int .i64 ik) := by rw [cell_of_row _ _ _ _ _ _ hR]; rfl
          have z2 : Z.cell? ⟨wr.heap.size, 2, none⟩ = some (.int .i64 iA) := by rw [cell_of_row _ _ _ _ _ _ hR]; rfl
          have z4 : Z.cell? ⟨wr.heap.size, 4, none⟩ = some (.string ⟨inm.toArray⟩) := by rw [cell_of_row _ _ _ _ _ _ hR]; rfl
          obtain ⟨F, hF⟩ : ∃ F, wr.heap.size = F := ⟨_, rfl⟩
          rw [hF] at z0 z2 z4
          by_cases h9 : ik = 9
          · subst h9
            rw [if_pos rfl] at hst
            obtain ⟨g', c', V, hrun, hown, hg⟩ := push_fc HX1.out.1 (inm, iA) HX1.out.2.size (by omega)
            have hdsl : (ds ++ [((inm, iA) : Fc)]).length = ds.length + 1 := by simp
            have HM2 : Hid (ds ++ [((inm, iA) : Fc)] = cs ++ calR (cd.take (j + 1))) := by exact (by rw [hst, HM.out, List.append_assoc] : ds ++ [((inm, iA) : Fc)] = cs ++ calR (cd.take (j + 1)))
            have HX2 : Hid (V.ownsRow w.heap.size 96 2 (.slice (some ⟨g', 0, none⟩) (ds ++ [((inm, iA) : Fc)]).length c') (ds ++ [((inm, iA) : Fc)]).length (fcV (ds ++ [((inm, iA) : Fc)])) ∧ Below w.heap.size w V) := ⟨by rw [hdsl]; exact hown, HX1.out.2.grown hg HX1.out.2.size (fun q e => by injection e with e; have := (HX1.out.1.lt g rfl).1; omega)⟩
            simp only at hrun
            have HDL : Hid ((ds ++ [((inm, iA) : Fc)]).length = ds.length + 1) := hdsl
            clear hown hg hst hb hR hdsl HX1 HX HM hi
            generalize ds ++ [((inm, iA) : Fc)] = es at HX2 HM2 HDL
            go_wp2_with (at_builtin; refine wpList_append_run rfl (.tmp 25) (.tmp 31) 70 rfl _ _ _ rfl rfl hrun ?_; clear hrun)
            go_wp2
            go_roundw
            case rel => exact ⟨j + 1, g', c', es, by go_num, by omega, by rw [HDL.out], by rw [HDL.out]; omega, HM2, HX2⟩
            case measure => simp [intOf]; omega
          · rw [if_neg h9] at hst
            have HM2 : Hid (ds = cs ++ calR (cd.take (j + 1))) := by exact (by rw [hst]; exact HM.out : ds = cs ++ calR (cd.take (j + 1)))
            have h9b : (ik == 9) = false := beq_eq_false_iff_ne.2 h9
            clear hst hb hR HX HM hi
            go_wp2
            go_roundw
            case rel => exact ⟨j + 1, g, c, ds, by go_num, by omega, rfl, by omega, HM2, HX1⟩
            case measure => simp [intOf]; omega
        · obtain rfl : j = m := by omega
          have HM2 : Hid (ds = calls16 (rs.take (k + 1))) := by exact (by rw [HST.out, ← HEn.out]; exact HM.out : ds = calls16 (rs.take (k + 1)))
          go_wp2
          go_roundw
          case rel => exact ⟨k + 1, g, c, ds, by go_num, by omega, rfl, by omega, HM2, HX⟩
          case measure => simp [intOf]; omega
    · obtain rfl : k = len := by omega
      have HM2 : Hid (cs = calls16 rs) := by exact (by rw [← HAll.out]; exact HM.out : cs = calls16 rs)
      go_wp2
      go_ret
      exact ⟨g, c, by rw [← HM2.out]; rfl, by rw [← HM2.out]; exact HX.out.1, HX.out.2⟩

end Go.Proofs.YteolfnceobjonaaGreat

/-! Contracts of chapter 16's landed code: missing, fit. -/
namespace Go.Proofs.YteolfnceobjonaaGreat
open Go.RowKit Go.Maps

/-- The calls that are not there. -/
def outC (ns : List (List UInt8)) (cs : List Fc) : List Fc := cs.filter (fun c => decide (c.1 ∉ ns))
theorem outC_names (rs : List Rt) (cs : List Fc) : (outC (nms16 rs) cs).map (fun c => c.1) = outN rs cs := by
  unfold outC outN
  rw [List.filter_map]
  rfl
theorem outC_take (ns : List (List UInt8)) (cs : List Fc) (k : Nat) (hk : k < cs.length) : outC ns (cs.take (k + 1)) = if (cs.getD k fc0).1 ∈ ns then outC ns (cs.take k) else outC ns (cs.take k) ++ [cs.getD k fc0] := by
  have hg : cs.getD k fc0 = cs[k] := by rw [List.getD_eq_getElem?_getD, List.getElem?_eq_getElem hk]; rfl
  rw [List.take_succ_eq_append_getElem hk, hg]
  unfold outC
  rw [List.filter_append]
  split
  · rename_i h
    simp [h]
  · rename_i h
    simp [h]
theorem fcRow_own {X : World} {B g cp : Nat} {cs : List Fc} (h : X.ownsRow B 96 2 (.slice (some ⟨g, 0, none⟩) cs.length cp) cs.length (fcV cs)) : ∀ j, j < cs.length → X.cell? ⟨g, j * 2, none⟩ = some (.string ⟨(cs.getD j fc0).1.toArray⟩) ∧ X.cell? ⟨g, j * 2 + 1, none⟩ = some (.int .i64 (cs.getD j fc0).2) := fun j hj => by
  obtain ⟨v0, v1⟩ := fcV_at cs j hj
  exact ⟨by rw [World.ownsRow.cellAt h (j * 2) (by omega), v0], by rw [World.ownsRow.cellAt h (j * 2 + 1) (by omega), v1]⟩

set_option maxHeartbeats 8000000 in
set_option maxRecDepth 100000 in
theorem implMissingF (b n : Nat) (D : DataW Unit) (l : List Fc) (B g cp : Nat) (cs : List Fc) (w : World) (hown : w.ownsMap Tryz.prog 9 fcR b n D) (hM : MapF D l) (hr : w.ownsRow B 96 2 (.slice (some ⟨g, 0, none⟩) cs.length cp) cs.length (fcV cs)) (hlen : cs.length ≤ 1048576000) (hsh : ∀ j, (cs.getD j fc0).1.length ≤ 1048576) :
    Calls Tryz.prog 43 #[.map (some b), .slice (some ⟨g, 0, none⟩) cs.length cp] w fun e w' => ∃ b2 n2 D2, e = .returned (.map (some b2)) ∧ w.heap.size ≤ b2 ∧ n2 ≤ cs.length ∧ w'.ownsMap Tryz.prog 9 fcR b2 n2 D2 ∧ MapF D2 (outC (l.map (fun c => c.1)) cs) ∧ Below w.heap.size w w' := by
  have hbl := hown.lt
  have hgl : g < w.heap.size := (hr.lt g rfl).2
  obtain ⟨ns, hns⟩ : ∃ ns, l.map (fun c => c.1) = ns := ⟨_, rfl⟩
  have HLk : Hid (∀ (X : World) (s : List UInt8), Below w.heap.size w X → s.length ≤ 1048576 → ∃ x : Fc, (Instr.lookup 63 (.map (some b)) (.string ⟨s.toArray⟩) true).run Tryz.prog X = .ok (.tuple #[.agg #[.string ⟨x.1.toArray⟩, .int .i64 x.2], .bool (decide (s ∈ ns))]) X) := fun X s hX hs => by
    obtain ⟨x, h1, _⟩ := look_face true (hown.kept (row := none) ⟨hX.os, hX.tape, hX.output, hX.size, fun i hi _ => hX.block i hi⟩ (by simp)) hM (s := s) (by unfold maxLen; omega)
    rw [hns] at h1
    exact ⟨x, h1⟩
  rw [hns]
  have HI : Hid (∀ j, j < cs.length → w.cell? ⟨g, j * 2, none⟩ = some (.string ⟨(cs.getD j fc0).1.toArray⟩) ∧ w.cell? ⟨g, j * 2 + 1, none⟩ = some (.int .i64 (cs.getD j fc0).2)) := fcRow_own hr
  have HSh : Hid (∀ j, (cs.getD j fc0).1.length ≤ 1048576) := hsh
  have HX0 : Hid ((w.alloc (.map #[] 0)).ownsMap Tryz.prog 9 fcR w.heap.size 0 (.map []) ∧ MapF (.map []) (outC ns (cs.take 0)) ∧ Below w.heap.size w (w.alloc (.map #[] 0))) := ⟨World.ownsMap_made w _ _ _, by simpa [outC] using MapF.empty, (Below.refl _ _).alloc (Nat.le_refl _) _⟩
  have HTk : Hid (∀ k, k < cs.length → outC ns (cs.take (k + 1)) = if (cs.getD k fc0).1 ∈ ns then outC ns (cs.take k) else outC ns (cs.take k) ++ [cs.getD k fc0]) := fun k hk => outC_take ns cs k hk
  have HAll : Hid (outC ns (cs.take cs.length) = outC ns cs) := by exact (by rw [List.take_of_length_le (Nat.le_refl _)] : outC ns (cs.take cs.length) = outC ns cs)
  obtain ⟨m, hm⟩ : ∃ m, cs.length = m := ⟨_, rfl⟩
  rw [hm] at HI HTk HAll hlen ⊢
  clear hown hM hr hsh hm hns
  have hmm := @run_makeMap Tryz.prog
  go_enter Tryz.func43, Tryz.ntmps43
  go_wp2
  go_loopw [13] (fun iv wr => ∃ (k n2 : Nat) (D2 : DataW Unit), iv = .int .i64 (k : Int) ∧ k ≤ m ∧ n2 ≤ k ∧ Hid (wr.ownsMap Tryz.prog 9 fcR w.heap.size n2 D2 ∧ MapF D2 (outC ns (cs.take k)) ∧ Below w.heap.size w wr)) (fun iv _ => m - (intOf iv).toNat)
  case atStart => exact ⟨0, 0, .map [], rfl, Nat.zero_le _, Nat.zero_le _, HX0⟩
  case round =>
    obtain ⟨k, n2, D2, rfl, hk, hn2, HX⟩ := hrel
    clear HX0
    by_cases hlt : (k : Int) < (m : Int)
    · obtain ⟨c0, c1⟩ := HI.out k (by omega)
      replace c0 := (HX.out.2.2.cell (p := ⟨g, k * 2, none⟩) hgl).trans c0
      replace c1 := (HX.out.2.2.cell (p := ⟨g, k * 2 + 1, none⟩) hgl).trans c1
      have hst := HTk.out k (by omega)
      have hsn := HSh.out k
      obtain ⟨r, hr⟩ : ∃ r, cs.getD k fc0 = r := ⟨_, rfl⟩
      rw [hr] at c0 c1 hst hsn
      obtain ⟨nm, ar⟩ := r
      simp only at c0 c1 hst hsn
      obtain ⟨Y, hY⟩ : ∃ Y, wr.alloc (.cells #[.string ⟨nm.toArray⟩, .int .i64 ar] 96) = Y := ⟨_, rfl⟩
      have hb : Below wr.heap.size wr Y := by rw [← hY]; exact (Below.refl _ _).alloc (Nat.le_refl _) _
      have hsY : wr.heap.size < Y.heap.size := by rw [← hY]; simp
      have hR : Y.heap[wr.heap.size]? = some (.cells #[.string ⟨nm.toArray⟩, .int .i64 ar] 96) := by rw [← hY]; exact heap_alloc_new wr _
      have hBY : Below w.heap.size w Y := HX.out.2.2.trans (hb.mono HX.out.2.2.size)
      obtain ⟨x, hlk⟩ := HLk.out Y nm hBY hsn
      obtain ⟨Z, hZ⟩ : ∃ Z, Y.alloc (.cells #[.string ⟨x.1.toArray⟩, .int .i64 x.2] 96) = Z := ⟨_, rfl⟩
      have hbZ : Below Y.heap.size Y Z := by rw [← hZ]; exact (Below.refl _ _).alloc (Nat.le_refl _) _
      have HBZ : Hid (Below w.heap.size w Z) := hBY.trans (hbZ.mono hBY.size)
      have hoZ : Z.ownsMap Tryz.prog 9 fcR w.heap.size n2 D2 := by rw [← hZ, ← hY]; exact (HX.out.1.alloc _).alloc _
      have y0 : Y.cell? ⟨wr.heap.size, 0, none⟩ = some (.string ⟨nm.toArray⟩) := by rw [cell_of_row _ _ _ _ _ _ hR]; rfl
      have y1 : Y.cell? ⟨wr.heap.size, 1, none⟩ = some (.int .i64 ar) := by rw [cell_of_row _ _ _ _ _ _ hR]; rfl
      have z0 : Z.cell? ⟨wr.heap.size, 0, none⟩ = some (.string ⟨nm.toArray⟩) := (hbZ.cell (p := ⟨wr.heap.size, 0, none⟩) hsY).trans y0
      have z1 : Z.cell? ⟨wr.heap.size, 1, none⟩ = some (.int .i64 ar) := (hbZ.cell (p := ⟨wr.heap.size, 1, none⟩) hsY).trans y1
      have HP : Hid (_) := implPut16 (nm, ar) w.heap.size n2 D2 (outC ns (cs.take k)) Z hoZ HX.out.2.1 (by unfold maxLen; omega) (by show nm.length ≤ maxLen; unfold maxLen; omega)
      have HK : Hid (Z.ownsMap Tryz.prog 9 fcR w.heap.size n2 D2 ∧ MapF D2 (outC ns (cs.take k)) ∧ Below w.heap.size w Z) := ⟨hoZ, HX.out.2.1, HBZ.out⟩
      obtain ⟨E, hE⟩ : ∃ E, wr.heap.size = E := ⟨_, rfl⟩
      rw [hE] at y0 y1 z0 z1
      by_cases hin : nm ∈ ns
      · rw [if_pos hin] at hst
        rw [decide_eq_true hin] at hlk
        rw [← hst] at HK
        clear hst hr hb hR hBY hsn HX HP hin hbZ hoZ
        go_wp2
        go_roundw
        case rel => exact ⟨k + 1, n2, D2, by go_num, by omega, by omega, HK⟩
        case measure => simp [intOf]; omega
      · rw [if_neg hin] at hst
        rw [decide_eq_false hin] at hlk
        rw [← hst] at HP
        clear hst hr hb hR hBY hsn HX HK hin hbZ hoZ
        go_wp2_with fail
        refine Calls.mono HP.out ?_
        rintro e w1 ⟨rfl, D', h1, h2, h3⟩
        have HX2 : Hid (w1.ownsMap Tryz.prog 9 fcR w.heap.size (n2 + 1) D' ∧ MapF D' (outC ns (cs.take (k + 1))) ∧ Below w.heap.size w w1) := ⟨h1, h2, HBZ.out.grown h3 HBZ.out.size (fun q e => by injection e with e; omega)⟩
        clear h1 h2 h3 HP
        go_wp2
        go_roundw
        case rel => exact ⟨k + 1, n2 + 1, D', by go_num, by omega, by omega, HX2⟩
        case measure => simp [intOf]; omega
    · obtain rfl : k = m := by omega
      have hx := HX.out
      rw [HAll.out] at hx
      have HX2 : Hid (wr.ownsMap Tryz.prog 9 fcR w.heap.size n2 D2 ∧ MapF D2 (outC ns cs) ∧ Below w.heap.size w wr) := hx
      clear hx HX
      go_wp2
      go_ret
      exact ⟨w.heap.size, rfl, Nat.le_refl _, n2, by omega, D2, HX2.out⟩

set_option maxHeartbeats 8000000 in
set_option maxRecDepth 100000 in
/-- Every call has the face that is there under its name. -/
theorem implFitF (b n : Nat) (D : DataW Unit) (l : List Fc) (B g cp : Nat) (cs : List Fc) (w : World) (hown : w.ownsMap Tryz.prog 9 fcR b n D) (hM : MapF D l) (hon : ∀ x ∈ l, ∀ y ∈ l, x.1 = y.1 → x = y) (hcl : ∀ c ∈ cs, c.1 ∈ l.map (fun c => c.1)) (hr : w.ownsRow B 96 2 (.slice (some ⟨g, 0, none⟩) cs.length cp) cs.length (fcV cs)) (hlen : cs.length ≤ 1048576000) (hsh : ∀ j, (cs.getD j fc0).1.length ≤ 1048576) :
    Calls Tryz.prog 73 #[.map (some b), .slice (some ⟨g, 0, none⟩) cs.length cp] w fun e w' => e = .returned (.bool (cs.all (fun c => decide (c ∈ l)))) ∧ Below w.heap.size w w' := by
  have hgl : g < w.heap.size := (hr.lt g rfl).2
  have HLk : Hid (∀ (X : World) (k : Nat), Below w.heap.size w X → k < cs.length → ∃ x : Fc, (Instr.lookup 63 (.map (some b)) (.string ⟨(cs.getD k fc0).1.toArray⟩) false).run Tryz.prog X = .ok (.agg #[.string ⟨x.1.toArray⟩, .int .i64 x.2]) X ∧ x.1 = (cs.getD k fc0).1 ∧ (cs.getD k fc0 ∈ l ↔ x.2 = (cs.getD k fc0).2)) := fun X k hX hk => by
    obtain ⟨x, h1, h2, _⟩ := look_face false (hown.kept (row := none) ⟨hX.os, hX.tape, hX.output, hX.size, fun i hi _ => hX.block i hi⟩ (by simp)) hM (s := (cs.getD k fc0).1) (by have := hsh k; unfold maxLen; omega)
    have hmem : cs.getD k fc0 ∈ cs := by rw [List.getD_eq_getElem?_getD, List.getElem?_eq_getElem hk]; exact List.getElem_mem hk
    obtain ⟨hx, hxn⟩ := h2 (hcl _ hmem)
    refine ⟨x, h1, hxn, fun h => ?_, fun h => ?_⟩
    · rw [hon x hx _ h hxn]
    · have : x = cs.getD k fc0 := Prod.ext hxn h
      exact this ▸ hx
  have HI : Hid (∀ j, j < cs.length → w.cell? ⟨g, j * 2, none⟩ = some (.string ⟨(cs.getD j fc0).1.toArray⟩) ∧ w.cell? ⟨g, j * 2 + 1, none⟩ = some (.int .i64 (cs.getD j fc0).2)) := fcRow_own hr
  have HNo : Hid (∀ k, k < cs.length → cs.getD k fc0 ∉ l → cs.all (fun c => decide (c ∈ l)) = false) := fun k hk e => by
    rw [List.all_eq_false]
    refine ⟨cs.getD k fc0, by rw [List.getD_eq_getElem?_getD, List.getElem?_eq_getElem hk]; exact List.getElem_mem hk, ?_⟩
    simpa using e
  have HYes : Hid ((∀ k, k < cs.length → cs.getD k fc0 ∈ l) → cs.all (fun c => decide (c ∈ l)) = true) := fun h => by
    rw [List.all_eq_true]
    intro c hc
    obtain ⟨j, hj, rfl⟩ := List.mem_iff_getElem.1 hc
    have := h j hj
    rw [List.getD_eq_getElem?_getD, List.getElem?_eq_getElem hj] at this
    exact decide_eq_true this
  generalize cs.all (fun c => decide (c ∈ l)) = res at HNo HYes ⊢
  have HB0 : Hid (Below w.heap.size w w) := Below.refl _ w
  obtain ⟨m, hm⟩ : ∃ m, cs.length = m := ⟨_, rfl⟩
  rw [hm] at HI HLk HNo HYes hlen ⊢
  clear hown hM hr hsh hm hon hcl
  go_enter Tryz.func73, Tryz.ntmps73
  go_wp2
  go_loopw [9] (fun iv wr => ∃ k : Nat, iv = .int .i64 (k : Int) ∧ k ≤ m ∧ Hid (∀ j, j < k → cs.getD j fc0 ∈ l) ∧ Hid (Below w.heap.size w wr)) (fun iv _ => m - (intOf iv).toNat)
  case atStart => exact ⟨0, rfl, Nat.zero_le _, (fun j hj => absurd hj (Nat.not_lt_zero _)), HB0⟩
  case round =>
    obtain ⟨k, rfl, hk, HA, HB⟩ := hrel
    clear HB0
    by_cases hlt : (k : Int) < (m : Int)
    · obtain ⟨c0, c1⟩ := HI.out k (by omega)
      replace c0 := (HB.out.cell (p := ⟨g, k * 2, none⟩) hgl).trans c0
      replace c1 := (HB.out.cell (p := ⟨g, k * 2 + 1, none⟩) hgl).trans c1
      have hno := HNo.out k (by omega)
      have hst : cs.getD k fc0 ∈ l → ∀ j, j < k + 1 → cs.getD j fc0 ∈ l := fun h j hj => by
        rcases Nat.lt_or_ge j k with g | g
        · exact HA.out j g
        · obtain rfl : j = k := by omega
          exact h
      obtain ⟨Y, hY⟩ : ∃ Y, wr.alloc (.cells #[.string ⟨(cs.getD k fc0).1.toArray⟩, .int .i64 (cs.getD k fc0).2] 96) = Y := ⟨_, rfl⟩
      have hb : Below wr.heap.size wr Y := by rw [← hY]; exact (Below.refl _ _).alloc (Nat.le_refl _) _
      have hsY : wr.heap.size < Y.heap.size := by rw [← hY]; simp
      have hR : Y.heap[wr.heap.size]? = some (.cells #[.string ⟨(cs.getD k fc0).1.toArray⟩, .int .i64 (cs.getD k fc0).2] 96) := by rw [← hY]; exact heap_alloc_new wr _
      have HBY : Hid (Below w.heap.size w Y) := HB.out.trans (hb.mono HB.out.size)
      obtain ⟨⟨xn, xa⟩, hlk, hxn, hxa⟩ := HLk.out Y k HBY.out (by omega)
      simp only at hlk hxn hxa
      subst hxn
      obtain ⟨r, hr⟩ : ∃ r, cs.getD k fc0 = r := ⟨_, rfl⟩
      rw [hr] at c0 c1 hst hno hY hR hlk hxa
      obtain ⟨nm, ar⟩ := r
      simp only at c0 c1 hst hno hY hR hlk hxa
      have y0 : Y.cell? ⟨wr.heap.size, 0, none⟩ = some (.string ⟨nm.toArray⟩) := by rw [cell_of_row _ _ _ _ _ _ hR]; rfl
      have y1 : Y.cell? ⟨wr.heap.size, 1, none⟩ = some (.int .i64 ar) := by rw [cell_of_row _ _ _ _ _ _ hR]; rfl
      obtain ⟨E, hE⟩ : ∃ E, wr.heap.size = E := ⟨_, rfl⟩
      rw [hE] at y0 y1
      by_cases he : xa = ar
      · have HS : Hid (∀ j, j < k + 1 → cs.getD j fc0 ∈ l) := hst (hxa.2 he)
        subst he
        clear hst hno hr hb hR hxa HA HB
        go_wp2
        go_roundw
        case rel => exact ⟨k + 1, by go_num, by omega, HS, HBY⟩
        case measure => simp [intOf]; omega
      · have HR : Hid (res = false) := hno (fun h => he (hxa.1 h))
        have heb : (xa == ar) = false := beq_eq_false_iff_ne.2 he
        clear hst hno hr hb hR hxa HA HB
        go_wp2
        go_ret
        exact ⟨by rw [HR.out]; rfl, HBY.out⟩
    · obtain rfl : k = m := by omega
      have HR : Hid (res = true) := HYes.out HA.out
      go_wp2
      go_ret
      exact ⟨by rw [HR.out]; rfl, HB.out⟩

end Go.Proofs.YteolfnceobjonaaGreat

/-! The contract of the specification's l1Has. -/
namespace Go.Proofs.YteolfnceobjonaaGreat
open Go.RowKit

theorem mem_take_step {ts : List (List UInt8)} {s : List UInt8} {k : Nat} (h : ∀ i, i < k → ts.getD i [] ≠ s) (hk : ts.length ≤ k) : ¬ s ∈ ts := fun hm => by
  obtain ⟨i, hi, rfl⟩ := List.mem_iff_getElem.1 hm
  exact h i (by omega) (by simp [List.getD, hi])
theorem getD_mem8 {ts : List (List UInt8)} {k : Nat} (hk : k < ts.length) : ts.getD k [] ∈ ts := by
  rw [List.getD_eq_getElem?_getD, List.getElem?_eq_getElem hk]; exact List.getElem_mem hk

set_option maxHeartbeats 1000000 in
set_option maxRecDepth 100000 in
theorem specHas (a : Option Addr) (len cap : Nat) (ts : List (List UInt8)) (s : List UInt8) (w : World) (hin : TextsIn w a len ts) (hlen : len ≤ 4194304) :
    Calls Tryz.prog 70 #[.slice a len cap, .string ⟨s.toArray⟩] w fun e w' => e = .returned (.bool (decide (s ∈ ts))) ∧ w' = w := by
  obtain rfl : ts.length = len := hin.1
  have HI : Hid (TextsIn w a ts.length ts) := hin
  clear hin
  go_enter Tryz.func70, Tryz.ntmps70
  go_wp2
  go_loopw [5] (fun iv wr => ∃ k : Nat, iv = .int .i64 (k : Int) ∧ k ≤ ts.length ∧ Hid (∀ i, i < k → ts.getD i [] ≠ s) ∧ wr = w) (fun iv _ => ts.length - (intOf iv).toNat)
  case atStart => exact ⟨0, rfl, by omega, (fun i hi => by omega), rfl⟩
  case round =>
    obtain ⟨k, rfl, hk, HA, rfl⟩ := hrel
    by_cases hlt : (k : Int) < (ts.length : Int)
    · have hk2 : k < ts.length := by omega
      obtain ⟨b, off, rfl, hbl, c0⟩ := HI.out.2 k hk2
      have hmem := getD_mem8 hk2
      obtain ⟨x, hx⟩ : ∃ x, ts.getD k [] = x := ⟨_, rfl⟩
      rw [hx] at c0 hmem
      by_cases hxs : x = s
      · subst hxs
        have HR : Hid (decide (x ∈ ts) = true) := decide_eq_true hmem
        have hself : (x == x) = true := by simp
        clear HA hx hmem
        go_wp2
        go_ret
        exact ⟨by rw [HR.out]; rfl, rfl⟩
      · have HA2 : Hid (∀ i, i < k + 1 → ts.getD i [] ≠ s) := fun i hi => by
          rcases Nat.lt_or_ge i k with h | h
          · exact HA.out i h
          · obtain rfl : i = k := by omega
            rw [hx]; exact hxs
        have hne : (x == s) = false := by rw [beq_eq_false_iff_ne]; exact hxs
        clear HA hx hmem
        go_wp2
        go_roundw
        case rel => exact ⟨k + 1, by go_num, by omega, HA2, trivial⟩
        case measure => simp [intOf]; omega
    · have HR : Hid (decide (s ∈ ts) = false) := decide_eq_false (mem_take_step HA.out (by omega))
      go_wp2
      go_ret
      exact ⟨by rw [HR.out]; rfl, rfl⟩

end Go.Proofs.YteolfnceobjonaaGreat

/-! The contracts of chapter 7's specification: l1Rise, l7Imports, l7Func. -/
namespace Go.Proofs.YteolfnceobjonaaGreat
open Go.RowKit

set_option maxHeartbeats 2000000 in
set_option maxRecDepth 100000 in
theorem specRise (a : Option Addr) (len cap : Nat) (ts : List (List UInt8)) (w : World) (hin : TextsIn w a len ts) (hlen : len ≤ 1048576) :
    Calls Tryz.prog 110 #[.slice a len cap] w fun e w' => e = .returned (.bool (riseB ts)) ∧ Below w.heap.size w w' := by
  obtain rfl : ts.length = len := hin.1
  have HI : Hid (TextsIn w a ts.length ts) := hin
  clear hin
  go_enter Tryz.func110, Tryz.ntmps110
  go_wp2
  go_loopw [3] (fun iv wr => ∃ j : Nat, iv = .int .i64 ((j : Int) + 1) ∧ j ≤ ts.length ∧ Hid (∀ i, i < j → leT (ts.getD (i + 1) []) (ts.getD i []) = false) ∧ Hid (TextsIn wr a ts.length ts) ∧ Hid (Below w.heap.size w wr)) (fun iv _ => ts.length + 1 - (intOf iv).toNat)
  case atStart => exact ⟨0, rfl, by omega, (fun i hi => by omega), HI, Below.refl _ _⟩
  case round =>
    obtain ⟨j, rfl, hj, HA, HT, HB⟩ := hrel
    clear HI
    by_cases hlt : (j : Int) + 1 < (ts.length : Int)
    · obtain ⟨b, off, rfl, hbl, c0⟩ := HT.out.2 j (by omega)
      obtain ⟨b', off', he, _, c1⟩ := HT.out.2 (j + 1) (by omega)
      simp only [Option.some.injEq, Addr.mk.injEq, and_true] at he
      obtain ⟨rfl, rfl⟩ := he
      obtain ⟨x, hx⟩ : ∃ x, ts.getD j [] = x := ⟨_, rfl⟩
      obtain ⟨y, hy⟩ : ∃ y, ts.getD (j + 1) [] = y := ⟨_, rfl⟩
      rw [hx] at c0
      rw [hy] at c1
      rcases hle : leT y x with _ | _
      · have HA2 : Hid (∀ i, i < j + 1 → leT (ts.getD (i + 1) []) (ts.getD i []) = false) := fun i hi => by
          rcases Nat.lt_or_ge i j with h | h
          · exact HA.out i h
          · obtain rfl : i = j := by omega
            rw [hx, hy]; exact hle
        have HT2 : Hid (TextsIn wr (some ⟨b, off, none⟩) ts.length ts) := HT.out
        unfold leT at hle
        clear HA HT hx hy
        go_wp2_with fail
        go_quiet (fail)
        go_wp2
        go_roundw
        case rel => exact ⟨j + 1, by go_num, by omega, HA2, HT2, HB.out.trans ⟨rfl, rfl, rfl, Nat.le_refl _, fun _ _ => rfl⟩⟩
        case measure => simp [intOf]; omega
      · have HR : Hid (riseB ts = false) := riseB_no (j := j) (by omega) (by rw [hx, hy]; exact hle)
        unfold leT at hle
        clear HA HT hx hy
        go_wp2_with fail
        go_quiet (fail)
        go_wp2
        go_ret
        exact ⟨by rw [HR.out]; rfl, HB.out.trans ⟨rfl, rfl, rfl, Nat.le_refl _, fun _ _ => rfl⟩⟩
    · have HR : Hid (riseB ts = true) := riseB_yes (j := j) (by omega) HA.out
      go_wp2
      go_ret
      exact ⟨by rw [HR.out]; rfl, HB.out⟩

set_option maxHeartbeats 2000000 in
set_option maxRecDepth 100000 in
theorem specImports (a : Option Addr) (len cap : Nat) (ts : List (List UInt8)) (w : World) (hin : TextsIn w a len ts) (hlen : len ≤ 1048576) (hs : ∀ i, (ts.getD i []).length ≤ 1048576) :
    Calls Tryz.prog 81 #[.slice a len cap] w fun e w' => e = .returned (.bool (importsB ts)) ∧ Below w.heap.size w w' := by
  obtain rfl : ts.length = len := hin.1
  have HI : Hid (TextsIn w a ts.length ts) := hin
  have HS : Hid (∀ i, (ts.getD i []).length ≤ 1048576) := hs
  clear hin hs
  go_enter Tryz.func81, Tryz.ntmps81
  go_wp2
  go_loopw [3] (fun iv wr => ∃ j : Nat, iv = .int .i64 (j : Int) ∧ j ≤ ts.length ∧ Hid (∀ i, i < j → nameB (ts.getD i []) = true) ∧ Hid (TextsIn wr a ts.length ts) ∧ Hid (Below w.heap.size w wr)) (fun iv _ => ts.length - (intOf iv).toNat)
  case atStart => exact ⟨0, rfl, by omega, (fun i hi => by omega), HI, Below.refl _ _⟩
  case round =>
    obtain ⟨j, rfl, hj, HA, HT, HB⟩ := hrel
    clear HI
    by_cases hlt : (j : Int) < (ts.length : Int)
    · obtain ⟨b, off, rfl, hbl, c0⟩ := HT.out.2 j (by omega)
      have hxl := HS.out j
      obtain ⟨x, hx⟩ : ∃ x, ts.getD j [] = x := ⟨_, rfl⟩
      rw [hx] at c0 hxl
      have hC : Hid (_) := specNameOk x wr hxl
      rcases hnb : nameB x with _ | _
      · have HR : Hid (importsB ts = false) := importsB_no (j := j) (by omega) (by rw [hx]; exact hnb)
        rw [hnb] at hC
        clear HA HT hx hnb
        go_wp2_with (go_at_call 80; refine Calls.mono hC.out ?_; rintro e w1 ⟨rfl, rfl⟩)
        go_ret
        exact ⟨by rw [HR.out]; rfl, HB.out⟩
      · have HA2 : Hid (∀ i, i < j + 1 → nameB (ts.getD i []) = true) := fun i hi => by
          rcases Nat.lt_or_ge i j with h | h
          · exact HA.out i h
          · obtain rfl : i = j := by omega
            rw [hx]; exact hnb
        rw [hnb] at hC
        clear HA hx hnb
        go_wp2_with (go_at_call 80; refine Calls.mono hC.out ?_; rintro e w1 ⟨rfl, rfl⟩)
        go_roundw
        case rel => exact ⟨j + 1, by go_num, by omega, HA2, HT, HB⟩
        case measure => simp [intOf]; omega
    · have hall := importsB_all (l := ts) (fun i hi => HA.out i (by omega))
      by_cases h6 : (ts.length : Int) ≤ 6
      · have HR : Hid (importsB ts = riseB ts) := by
          exact (by rw [hall, decide_eq_true (show ts.length ≤ 6 by omega)]; rfl : importsB ts = riseB ts)
        have hC : Hid (_) := specRise a ts.length cap ts wr HT.out hlen
        clear hall HA HT
        go_wp2_with (go_at_call 110; refine Calls.mono hC.out ?_; rintro e w1 ⟨rfl, hb1⟩)
        go_ret
        exact ⟨by rw [HR.out]; rfl, HB.out.trans (hb1.mono HB.out.size)⟩
      · have HR : Hid (importsB ts = false) := by
          exact (by rw [hall, decide_eq_false (show ¬ ts.length ≤ 6 by omega)]; rfl : importsB ts = false)
        clear hall HA HT
        go_wp2
        go_ret
        exact ⟨by rw [HR.out]; rfl, HB.out⟩

/-- A function, as a value. -/
def FnVal (f : Fn) (ta : Option Addr) (tl tc : Nat) : Value := .agg #[.string ⟨f.1.toArray⟩, .int .i64 f.2.1, .slice ta tl tc]

end Go.Proofs.YteolfnceobjonaaGreat
