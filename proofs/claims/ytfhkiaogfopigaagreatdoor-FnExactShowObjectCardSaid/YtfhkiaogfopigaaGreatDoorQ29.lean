/-
  Parts of one proof, one behind the other: ObI, PowI.
-/
import Derived.Test.YtfhkiaogfopigaaGreatDoorQ28
import Derived.Test.YtfhkiaogfopigaaGreatDoorQ10
import Derived.Test.YtfhkiaogfopigaaGreatDoorQ25
import Derived.Test.YtfhkiaogfopigaaGreatDoorQ11
import Derived.Test.YtfhkiaogfopigaaGreatDoorQ22
import Derived.Lib.AppendIntMem
import Derived.Lib.SmallJoins
import Derived.Lib.LaidTab
import Derived.Deep.RegionHeld3

/-! Contracts of chapter 15's landed code: packageOf, callsNear, ObjectOk. -/
namespace Go.Proofs.YtfhkiaogfopigaaGreatDoor
open Go.RowKit

set_option maxHeartbeats 1000000 in
set_option maxRecDepth 100000 in
theorem implPackageOf (s : List UInt8) (w : World) (hl : s.length ≤ 1048576) :
    Calls Tryz.prog 72 #[.string ⟨s.toArray⟩] w fun e w' => e = .returned (.string ⟨(cutA 46 s).toArray⟩) ∧ Below w.heap.size w w' := by
  have HC : Hid (_) := cutOne13 s 46 w hl
  generalize cutA 46 s = x at HC ⊢
  generalize cutB 46 s = y at HC
  go_enter Tryz.func72, Tryz.ntmps72
  go_wp2_with fail
  refine Calls.mono HC.out ?_
  rintro e w1 ⟨g, rfl, hb1⟩
  go_wp2
  go_ret
  exact ⟨rfl, hb1⟩

set_option maxHeartbeats 4000000 in
set_option maxRecDepth 100000 in
theorem implCallsNear (nm : List UInt8) (ia : Option Addr) (il ic : Nat) (fv : Value) (ims : List (List UInt8)) (ca : Option Addr) (cl cc : Nat) (is : List In13) (w : World) (hi : TextsIn w ia il ims) (hil : il ≤ 1048576) (hin : InsIn w ca cl is) (hsh : ShortI is) (hcl : cl ≤ 1048576) :
    Calls Tryz.prog 73 #[.agg #[.string ⟨nm.toArray⟩, .slice ia il ic, fv], .slice ca cl cc] w fun e w' => e = .returned (.bool (is.all (nearB nm ims))) ∧ Below w.heap.size w w' := by
  obtain rfl : is.length = cl := hin.1
  obtain ⟨W, hW⟩ : ∃ W, w.alloc (.cells #[.string ⟨nm.toArray⟩, .slice ia il ic, fv] 43) = W := ⟨_, rfl⟩
  have hbW : Below w.heap.size w W := by rw [← hW]; exact (Below.refl _ _).alloc (Nat.le_refl _) _
  have hA : W.heap[w.heap.size]? = some (.cells #[.string ⟨nm.toArray⟩, .slice ia il ic, fv] 43) := by rw [← hW]; exact heap_alloc_new w _
  obtain ⟨D, hD⟩ : ∃ D, w.heap.size = D := ⟨_, rfl⟩
  rw [hD] at hA
  have hDl : D < W.heap.size := lt_of_block hA
  have HK : Hid (∀ Z, Below W.heap.size W Z → Z.cell? ⟨D, 0, none⟩ = some (.string ⟨nm.toArray⟩) ∧ Z.cell? ⟨D, 1, none⟩ = some (.slice ia il ic)) := fun Z hz => ⟨(hz.cell (p := ⟨D, 0, none⟩) hDl).trans (by simp [World.cell?, hA]), (hz.cell (p := ⟨D, 1, none⟩) hDl).trans (by simp [World.cell?, hA])⟩
  have HI : Hid (∀ Z, Below W.heap.size W Z → InsIn Z ca is.length is) := fun Z hz => (hin.below hbW).below hz
  have HT : Hid (∀ Z, Below W.heap.size W Z → TextsIn Z ia il ims) := fun Z hz => (hi.below hbW).below hz
  have HS : Hid (ShortI is) := hsh
  have HB0 : Hid (Below w.heap.size w W) := hbW
  have HAll : Hid ((∀ k, k < is.length → nearB nm ims (is.getD k in0) = true) → is.all (nearB nm ims) = true) := near_all
  have HNo : Hid (∀ k, k < is.length → nearB nm ims (is.getD k in0) = false → is.all (nearB nm ims) = false) := fun k hk h => near_no hk h
  obtain ⟨m, hm⟩ : ∃ m, is.length = m := ⟨_, rfl⟩
  rw [hm] at HI HAll HNo hcl ⊢
  generalize is.all (nearB nm ims) = res at HAll HNo ⊢
  clear hin hm hi hsh hA hbW
  go_enter Tryz.func73, Tryz.ntmps73
  go_wp2
  go_loopw [10] (fun iv wr => ∃ k : Nat, iv = .int .i64 (k : Int) ∧ k ≤ m ∧ Hid (∀ j, j < k → nearB nm ims (is.getD j in0) = true) ∧ Hid (Below W.heap.size W wr)) (fun iv _ => m - (intOf iv).toNat)
  case atStart => exact ⟨0, rfl, Nat.zero_le _, (fun j hj => absurd hj (Nat.not_lt_zero _)), Below.refl _ _⟩
  case round =>
    obtain ⟨k, rfl, hk, HA, HB⟩ := hrel
    by_cases hlt : (k : Int) < (m : Int)
    · obtain ⟨b, off, rfl, hbl, c0, c1, c2, c3, c4⟩ := (HI.out _ HB.out).2 k (by omega)
      have hno := HNo.out k (by omega)
      have hst : nearB nm ims (is.getD k in0) = true → ∀ j, j < k + 1 → nearB nm ims (is.getD j in0) = true := fun h j hj => by
        rcases Nat.lt_or_ge j k with g | g
        · exact HA.out j g
        · obtain rfl : j = k := by omega
          exact h
      have hsk := HS.out k
      obtain ⟨i, hi⟩ : ∃ i, is.getD k in0 = i := ⟨_, rfl⟩
      rw [hi] at c0 c1 c2 c3 c4 hno hst hsk
      obtain ⟨ik, iR, iA, iB, inm⟩ := i
      simp only at c0 c1 c2 c3 c4 hsk
      obtain ⟨Y, hY⟩ : ∃ Y, wr.alloc (.cells #[.int .i64 ik, .int .i64 iR, .int .i64 iA, .int .i64 iB, .string ⟨inm.toArray⟩] 81) = Y := ⟨_, rfl⟩
      have hb : Below wr.heap.size wr Y := by rw [← hY]; exact (Below.refl _ _).alloc (Nat.le_refl _) _
      have hsY : Y.heap.size = wr.heap.size + 1 := by rw [← hY]; simp
      have hR : Y.heap[wr.heap.size]? = some (.cells #[.int .i64 ik, .int .i64 iR, .int .i64 iA, .int .i64 iB, .string ⟨inm.toArray⟩] 81) := by rw [← hY]; exact heap_alloc_new wr _
      have HBY : Hid (Below W.heap.size W Y) := HB.out.trans (hb.mono HB.out.size)
      have hcls : nearB nm ims (ik, iR, iA, iB, inm) = (decide (ik ≠ 9) || (decide (cutA 46 inm = nm) || decide (cutA 46 inm ∈ ims))) := rfl
      rw [hcls] at hno hst
      have y0 : Y.cell? ⟨wr.heap.size, 0, none⟩ = some (.int .i64 ik) := by rw [cell_of_row _ _ _ _ _ _ hR]; rfl
      have y4 : Y.cell? ⟨wr.heap.size, 4, none⟩ = some (.string ⟨inm.toArray⟩) := by rw [cell_of_row _ _ _ _ _ _ hR]; rfl
      obtain ⟨E, hE⟩ : ∃ E, wr.heap.size = E := ⟨_, rfl⟩
      rw [hE] at hR hsY y0 y4
      by_cases h9 : ik = 9
      · subst h9
        have HC : Hid (_) := implPackageOf inm Y hsk
        obtain ⟨x, hx⟩ : ∃ x, cutA 46 inm = x := ⟨_, rfl⟩
        rw [hx] at hno hst HC
        have HQ : Hid ((x = nm ∨ x ∈ ims → ∀ j, j < k + 1 → nearB nm ims (is.getD j in0) = true) ∧ (¬ (x = nm ∨ x ∈ ims) → res = false)) :=
          ⟨fun e => hst (by rcases e with e | e <;> simp [e]), fun e => hno (by simp only [not_or] at e; simp [e.1, e.2])⟩
        clear hno hst hi hcls HA hb hsk hx
        go_wp2_with fail
        refine Calls.mono HC.out ?_
        rintro e w1 ⟨rfl, hb1⟩
        have HB1 : Hid (Below W.heap.size W w1) := HBY.out.trans (hb1.mono HBY.out.size)
        obtain ⟨d0, d1⟩ := HK.out _ HB1.out
        clear hb1
        by_cases he : x = nm
        · subst he
          have HS2 : Hid (∀ j, j < k + 1 → nearB x ims (is.getD j in0) = true) := HQ.out.1 (Or.inl rfl)
          have heb : (x != x) = false := by simp
          have heb2 : (x == x) = true := by simp
          clear HQ
          go_wp2
          go_roundw
          case rel => exact ⟨k + 1, by go_num, by omega, HS2, HB1⟩
          case measure => simp [intOf]; omega
        · have heb : (x != nm) = true := bne_iff_ne.2 he
          have heb2 : (x == nm) = false := beq_eq_false_iff_ne.2 he
          have HCt : Hid (_) := containsStr ia il ic ims x w1 (HT.out _ HB1.out) hil
          have HQ2 : Hid ((x ∈ ims → ∀ j, j < k + 1 → nearB nm ims (is.getD j in0) = true) ∧ (¬ x ∈ ims → res = false)) := ⟨fun e => HQ.out.1 (Or.inr e), fun e => HQ.out.2 (fun g => by rcases g with g | g; exact he g; exact e g)⟩
          by_cases hm : x ∈ ims
          · have HS2 := HQ2.out.1 hm
            rw [decide_eq_true hm] at HCt
            have HS2h : Hid (∀ j, j < k + 1 → nearB nm ims (is.getD j in0) = true) := HS2
            clear HQ HQ2 hm HS2 he
            go_wp2_with fail
            refine Calls.mono HCt.out ?_
            rintro e w2 ⟨rfl, hw2⟩
            obtain rfl := hw2.symm
            go_wp2
            go_roundw
            case rel => exact ⟨k + 1, by go_num, by omega, HS2h, HB1⟩
            case measure => simp [intOf]; omega
          · have HR : Hid (res = false) := HQ2.out.2 hm
            rw [decide_eq_false hm] at HCt
            clear HQ HQ2 hm he
            go_wp2_with fail
            refine Calls.mono HCt.out ?_
            rintro e w2 ⟨rfl, hw2⟩
            obtain rfl := hw2.symm
            go_wp2
            go_ret
            exact ⟨by rw [HR.out]; rfl, hD ▸ HB0.out.trans (HB1.out.mono HB0.out.size)⟩
      · have HS2 : Hid (∀ j, j < k + 1 → nearB nm ims (is.getD j in0) = true) := hst (by simp [h9])
        have hne : (ik != 9) = true := bne_iff_ne.2 h9
        clear hno hst hi hcls HA hb
        go_wp2
        go_roundw
        case rel => exact ⟨k + 1, by go_num, by omega, HS2, HBY⟩
        case measure => simp [intOf]; omega
    · obtain rfl : k = m := by omega
      have HR : Hid (res = true) := HAll.out HA.out
      go_wp2
      go_ret
      exact ⟨by rw [HR.out]; rfl, hD ▸ HB0.out.trans (HB.out.mono HB0.out.size)⟩

set_option maxHeartbeats 4000000 in
set_option maxRecDepth 100000 in
theorem implObjectOk (nm : List UInt8) (ia : Option Addr) (il ic : Nat) (fa : Option Addr) (fl fc : Nat) (ims : List (List UInt8)) (rs : List Rt) (w : World) (h : ObOk w nm ia il ic fa fl fc ims rs) :
    Calls Tryz.prog 43 #[.agg #[.string ⟨nm.toArray⟩, .slice ia il ic, .slice fa fl fc]] w fun e w' => e = .returned (.bool (objB (nm, ims, rs))) ∧ Below w.heap.size w w' := by
  obtain rfl : ims.length = il := h.i.1
  obtain rfl : rs.length = fl := h.r.c.1
  obtain ⟨W, hW⟩ : ∃ W, w.alloc (.cells #[.string ⟨nm.toArray⟩, .slice ia ims.length ic, .slice fa rs.length fc] 43) = W := ⟨_, rfl⟩
  have hb : Below w.heap.size w W := by rw [← hW]; exact (Below.refl _ _).alloc (Nat.le_refl _) _
  have hsW : W.heap.size = w.heap.size + 1 := by rw [← hW]; simp
  have hA : W.heap[w.heap.size]? = some (.cells #[.string ⟨nm.toArray⟩, .slice ia ims.length ic, .slice fa rs.length fc] 43) := by rw [← hW]; exact heap_alloc_new w _
  obtain ⟨D, hD⟩ : ∃ D, w.heap.size = D := ⟨_, rfl⟩
  rw [hD] at hA hsW
  have hDl : D < W.heap.size := lt_of_block hA
  have HK : Hid (∀ Z, Below W.heap.size W Z → Z.cell? ⟨D, 0, none⟩ = some (.string ⟨nm.toArray⟩) ∧ Z.cell? ⟨D, 1, none⟩ = some (.slice ia ims.length ic) ∧ Z.cell? ⟨D, 2, none⟩ = some (.slice fa rs.length fc)) := fun Z hz => ⟨(hz.cell (p := ⟨D, 0, none⟩) hDl).trans (by simp [World.cell?, hA]), (hz.cell (p := ⟨D, 1, none⟩) hDl).trans (by simp [World.cell?, hA]), (hz.cell (p := ⟨D, 2, none⟩) hDl).trans (by simp [World.cell?, hA])⟩
  have HO : Hid (∀ Z, Below W.heap.size W Z → ObOk Z nm ia ims.length ic fa rs.length fc ims rs) := fun Z hz => (h.below hb).below hz
  have HC1 : Hid (_) := implNameOk nm W h.nm
  have HC2 : Hid (∀ Z, Below W.heap.size W Z → _) := fun Z (hz : Below W.heap.size W Z) => implImportsOk ia ims.length ic ims Z (HO.out Z hz).i h.il h.is
  have HC3 : Hid (∀ Z, Below W.heap.size W Z → _) := fun Z (hz : Below W.heap.size W Z) => implRoutinesOk fa rs.length fc rs 8 Z (HO.out Z hz).r
  have HBW : Hid (Below w.heap.size w W) := hb
  have HSh : Hid (ShortR rs) := h.r.s
  have hlen := h.r.l
  have hil := h.il
  have HN1 : Hid (nameB nm = false → objB (nm, ims, rs) = false) := fun e => obj_name (o := (nm, ims, rs)) e
  have HN2 : Hid (importsB ims = false → objB (nm, ims, rs) = false) := fun e => obj_imps (o := (nm, ims, rs)) e
  have HN3 : Hid (rtsB rs 8 = false → objB (nm, ims, rs) = false) := fun e => objI_rts (o := (nm, ims, rs)) e
  have HYes : Hid (nameB nm = true → importsB ims = true → rtsB rs 8 = true → (∀ j, j < rs.length → two15 (nm, ims, rs) j) → objB (nm, ims, rs) = true) := fun e1 e2 e3 e4 => objI_yes (o := (nm, ims, rs)) e1 e2 e3 e4
  have HNo : Hid (∀ j, j < rs.length → ¬ two15 (nm, ims, rs) j → objB (nm, ims, rs) = false) := fun j hj e => objI_no (o := (nm, ims, rs)) hj e
  obtain ⟨n, hnn⟩ : ∃ n, rs.length = n := ⟨_, rfl⟩
  obtain ⟨q, hqq⟩ : ∃ q, ims.length = q := ⟨_, rfl⟩
  rw [hnn] at HK HO HC3 HYes HNo hlen hA hW ⊢
  rw [hqq] at HK HO HC2 hil hA hW ⊢
  generalize objB (nm, ims, rs) = res at HN1 HN2 HN3 HYes HNo ⊢
  generalize nameB nm = b1 at HN1 HYes HC1
  generalize importsB ims = b2 at HN2 HYes HC2
  generalize rtsB rs 8 = b3 at HN3 HYes HC3
  obtain ⟨k0, k1, k2⟩ := HK.out W (Below.refl _ _)
  clear h hb hnn hqq hA
  go_enter Tryz.func43, Tryz.ntmps43
  go_wp2_with fail
  refine Calls.mono HC1.out ?_
  rintro e w1 ⟨rfl, hb1⟩
  replace k0 := (HK.out _ hb1).1
  replace k1 := (HK.out _ hb1).2.1
  replace k2 := (HK.out _ hb1).2.2
  rcases b1 with _ | _
  · have HR : Hid (res = false) := HN1.out rfl
    go_wp2
    go_ret
    exact ⟨by rw [HR.out]; rfl, hD ▸ HBW.out.trans (hb1.mono HBW.out.size)⟩
  go_wp2_with fail
  refine Calls.mono (HC2.out _ hb1) ?_
  rintro e w2 ⟨rfl, hw2⟩
  obtain rfl := hw2.symm
  rcases b2 with _ | _
  · have HR : Hid (res = false) := HN2.out rfl
    go_wp2
    go_ret
    exact ⟨by rw [HR.out]; rfl, hD ▸ HBW.out.trans (hb1.mono HBW.out.size)⟩
  go_wp2_with fail
  refine Calls.mono (HC3.out _ hb1) ?_
  rintro e w3 ⟨rfl, hb3⟩
  have HB3 : Hid (Below W.heap.size W w3) := hb1.trans (hb3.mono hb1.size)
  replace k0 := (HK.out _ HB3.out).1
  replace k1 := (HK.out _ HB3.out).2.1
  replace k2 := (HK.out _ HB3.out).2.2
  clear hb1 hb3
  rcases b3 with _ | _
  · have HR : Hid (res = false) := HN3.out rfl
    go_wp2
    go_ret
    exact ⟨by rw [HR.out]; rfl, hD ▸ HBW.out.trans (HB3.out.mono HBW.out.size)⟩
  have HY2 : Hid ((∀ j, j < n → two15 (nm, ims, rs) j) → res = true) := HYes.out (by trivial) (by trivial) (by trivial)
  clear HYes HN1 HN2 HN3 HC1 HC2 HC3
  go_wp2
  go_loopw [24] (fun iv wr => ∃ k : Nat, iv = .int .i64 (k : Int) ∧ k ≤ n ∧ Hid (∀ j, j < k → two15 (nm, ims, rs) j) ∧ Hid (Below W.heap.size W wr)) (fun iv _ => n - (intOf iv).toNat)
  case atStart => exact ⟨0, rfl, Nat.zero_le _, (fun j hj => absurd hj (Nat.not_lt_zero _)), HB3⟩
  case round =>
    obtain ⟨k, rfl, hk, HA, HB⟩ := hrel
    clear HB3 k0 k1 k2
    obtain ⟨k0, k1, k2⟩ := HK.out _ HB.out
    by_cases hlt : (k : Int) < (n : Int)
    · have ho := HO.out _ HB.out
      obtain ⟨b, off, rfl, hbl, c0, c1, ca, cl, cc, c2, hin, hcc, hcm⟩ := ho.r.c.2.2.2 k (by omega)
      have hti := ho.i
      have hno := HNo.out k (by omega)
      have hsh := HSh.out k
      have hst : two15 (nm, ims, rs) k → ∀ j, j < k + 1 → two15 (nm, ims, rs) j := fun h j hj => by
        rcases Nat.lt_or_ge j k with g | g
        · exact HA.out j g
        · obtain rfl : j = k := by omega
          exact h
      have htw : two15 (nm, ims, rs) k = (cutA 46 (rs.getD k rt0).1 = nm ∧ (rs.getD k rt0).2.2.all (nearB nm ims) = true) := rfl
      rw [htw] at hno hst
      obtain ⟨r, hrr⟩ : ∃ r, rs.getD k rt0 = r := ⟨_, rfl⟩
      rw [hrr] at c0 c1 hin hno hsh hst
      obtain ⟨rn, ar, cd⟩ := r
      simp only at c0 c1 hin hno hsh hst
      obtain ⟨Y, hY⟩ : ∃ Y, wr.alloc (.cells #[.string ⟨rn.toArray⟩, .int .i64 ar, .slice ca cl cc] 78) = Y := ⟨_, rfl⟩
      have hbY : Below wr.heap.size wr Y := by rw [← hY]; exact (Below.refl _ _).alloc (Nat.le_refl _) _
      have hRY : Y.heap[wr.heap.size]? = some (.cells #[.string ⟨rn.toArray⟩, .int .i64 ar, .slice ca cl cc] 78) := by rw [← hY]; exact heap_alloc_new wr _
      have hsY : Y.heap.size = wr.heap.size + 1 := by rw [← hY]; simp
      have HBY : Hid (Below W.heap.size W Y) := HB.out.trans (hbY.mono HB.out.size)
      obtain ⟨E, hE⟩ : ∃ E, wr.heap.size = E := ⟨_, rfl⟩
      rw [hE] at hRY hsY
      have hEl : E < Y.heap.size := by omega
      have HE : Hid (∀ Z, Below Y.heap.size Y Z → Z.cell? ⟨E, 0, none⟩ = some (.string ⟨rn.toArray⟩) ∧ Z.cell? ⟨E, 2, none⟩ = some (.slice ca cl cc)) := fun Z hz => ⟨(hz.cell (p := ⟨E, 0, none⟩) hEl).trans (by simp [World.cell?, hRY]), (hz.cell (p := ⟨E, 2, none⟩) hEl).trans (by simp [World.cell?, hRY])⟩
      have HP : Hid (∀ Z, Below Y.heap.size Y Z → Calls Tryz.prog 72 #[.string ⟨rn.toArray⟩] Z fun e w' => e = .returned (.string ⟨(cutA 46 rn).toArray⟩) ∧ Below Z.heap.size Z w') := fun Z _ => implPackageOf rn Z hsh.1
      have HCn : Hid (∀ Z, Below Y.heap.size Y Z → Calls Tryz.prog 73 #[.agg #[.string ⟨nm.toArray⟩, .slice ia q ic, .slice (some ⟨b, off, none⟩) n fc], .slice ca cl cc] Z fun e w' => e = .returned (.bool (cd.all (nearB nm ims))) ∧ Below Z.heap.size Z w') := fun Z hz => implCallsNear nm ia q ic (.slice (some ⟨b, off, none⟩) n fc) ims ca cl cc cd Z ((hti.below hbY).below hz) hil ((hin.below hbY).below hz) hsh.2.2 (by rw [← hin.1]; exact hsh.2.1)
      obtain ⟨y0, y2⟩ := HE.out Y (Below.refl _ _)
      obtain ⟨d0, d1, d2⟩ := HK.out _ HBY.out
      obtain ⟨x, hx⟩ : ∃ x, cutA 46 rn = x := ⟨_, rfl⟩
      rw [hx] at hno hst HP
      generalize cd.all (nearB nm ims) = b4 at hno hst HCn
      have HNo2 : Hid (¬ (x = nm ∧ b4 = true) → res = false) := hno
      have HSt2 : Hid (x = nm ∧ b4 = true → ∀ j, j < k + 1 → two15 (nm, ims, rs) j) := hst
      have hV : Below Y.heap.size Y Y := Below.refl _ _
      clear hrr hsh hin ho hti hbY hRY hno hst htw hx HA HB k0 k1 k2
      by_cases he : x = nm
      · subst he
        have heb : (x != x) = false := by simp
        have heb2 : (x == x) = true := by simp
        rcases b4 with _ | _
        · have HR : Hid (res = false) := HNo2.out (fun e => by cases e.2)
          go_wp2_with fail
          replace hV := hV.drew
          go_region_held3 (fun w' => w'.cell? ⟨E, 0, none⟩ = some (.string ⟨rn.toArray⟩) ∧ w'.cell? ⟨E, 2, none⟩ = some (.slice ca cl cc) ∧ w'.cell? ⟨D, 0, none⟩ = some (.string ⟨x.toArray⟩) ∧ w'.cell? ⟨D, 1, none⟩ = some (.slice ia q ic) ∧ w'.cell? ⟨D, 2, none⟩ = some (.slice (some ⟨b, off, none⟩) n fc)) (go_keep) (first
            | (go_at_call 72; refine Calls.mono (HP.out _ hV) ?_; rintro e wn ⟨rfl, hbn⟩; replace hV := hV.trans (hbn.mono hV.size); clear hbn; replace y0 := (HE.out _ hV).1; replace y2 := (HE.out _ hV).2; replace d0 := (HK.out _ (HBY.out.trans (hV.mono HBY.out.size))).1; replace d1 := (HK.out _ (HBY.out.trans (hV.mono HBY.out.size))).2.1; replace d2 := (HK.out _ (HBY.out.trans (hV.mono HBY.out.size))).2.2)
            | (go_at_call 73; refine Calls.mono (HCn.out _ hV) ?_; rintro e wn ⟨rfl, hbn⟩; replace hV := hV.trans (hbn.mono hV.size); clear hbn; replace y0 := (HE.out _ hV).1; replace y2 := (HE.out _ hV).2; replace d0 := (HK.out _ (HBY.out.trans (hV.mono HBY.out.size))).1; replace d1 := (HK.out _ (HBY.out.trans (hV.mono HBY.out.size))).2.1; replace d2 := (HK.out _ (HBY.out.trans (hV.mono HBY.out.size))).2.2))
          all_goals
            go_wp2
            go_ret
            exact ⟨by rw [HR.out]; rfl, hD ▸ HBW.out.trans ((HBY.out.trans (hV.mono HBY.out.size)).mono HBW.out.size)⟩
        · have HS : Hid (∀ j, j < k + 1 → two15 (x, ims, rs) j) := HSt2.out ⟨rfl, rfl⟩
          go_wp2_with fail
          replace hV := hV.drew
          go_region_held3 (fun w' => w'.cell? ⟨E, 0, none⟩ = some (.string ⟨rn.toArray⟩) ∧ w'.cell? ⟨E, 2, none⟩ = some (.slice ca cl cc) ∧ w'.cell? ⟨D, 0, none⟩ = some (.string ⟨x.toArray⟩) ∧ w'.cell? ⟨D, 1, none⟩ = some (.slice ia q ic) ∧ w'.cell? ⟨D, 2, none⟩ = some (.slice (some ⟨b, off, none⟩) n fc)) (go_keep) (first
            | (go_at_call 72; refine Calls.mono (HP.out _ hV) ?_; rintro e wn ⟨rfl, hbn⟩; replace hV := hV.trans (hbn.mono hV.size); clear hbn; replace y0 := (HE.out _ hV).1; replace y2 := (HE.out _ hV).2; replace d0 := (HK.out _ (HBY.out.trans (hV.mono HBY.out.size))).1; replace d1 := (HK.out _ (HBY.out.trans (hV.mono HBY.out.size))).2.1; replace d2 := (HK.out _ (HBY.out.trans (hV.mono HBY.out.size))).2.2)
            | (go_at_call 73; refine Calls.mono (HCn.out _ hV) ?_; rintro e wn ⟨rfl, hbn⟩; replace hV := hV.trans (hbn.mono hV.size); clear hbn; replace y0 := (HE.out _ hV).1; replace y2 := (HE.out _ hV).2; replace d0 := (HK.out _ (HBY.out.trans (hV.mono HBY.out.size))).1; replace d1 := (HK.out _ (HBY.out.trans (hV.mono HBY.out.size))).2.1; replace d2 := (HK.out _ (HBY.out.trans (hV.mono HBY.out.size))).2.2))
          all_goals
            have HB5 : Hid (_) := HBY.out.trans (hV.mono HBY.out.size)
            go_wp2
            go_roundw
            case rel => exact ⟨k + 1, by go_num, by omega, HS, HB5⟩
            case measure => simp [intOf]; omega
      · have heb : (x != nm) = true := bne_iff_ne.2 he
        have heb2 : (x == nm) = false := beq_eq_false_iff_ne.2 he
        have HR : Hid (res = false) := HNo2.out (fun e => he e.1)
        clear he hV
        go_wp2_with fail
        refine wp_region_held_drew (S := fun Z => Below Y.heap.size Y Z) (by kernel_rfl) (by exact ⟨rfl, rfl, rfl, Nat.le_refl _, fun _ _ => rfl⟩) (fun hHeld => ?_)
        refine wpAnyH_take (i := 0) (oi := ⟨some 28, _, _, _, _, _⟩) (v := ?v1) rfl (by kernel_rfl) (by kernel_rfl) (by kernel_rfl) (fun _ _ _ h => h) (Or.inl ⟨by rfl, ?hy1⟩) (by assumption) ?rest1
        case hy1 => (intro wq hSw; obtain ⟨y0, y2⟩ := HE.out wq hSw; obtain ⟨d0, d1, d2⟩ := HK.out wq (HBY.out.trans (hSw.mono HBY.out.size)); clear hSw; first | (go_simp; done) | (go_simp; with_reducible rfl))
        simp only [Act.put, List.setIfInBounds_toArray, List.set_cons_zero, List.set_cons_succ]
        refine wpAnyH_take (i := 1) (oi := ⟨some 29, _, _, _, _, _⟩) (v := ?v2) rfl (by kernel_rfl) (by kernel_rfl) (by kernel_rfl) (fun _ _ _ h => h) (Or.inl ⟨by rfl, ?hy2⟩) (by assumption) ?rest2
        case hy2 => (intro wq hSw; obtain ⟨y0, y2⟩ := HE.out wq hSw; obtain ⟨d0, d1, d2⟩ := HK.out wq (HBY.out.trans (hSw.mono HBY.out.size)); clear hSw; first | (go_simp; done) | (go_simp; with_reducible rfl))
        simp only [Act.put, List.setIfInBounds_toArray, List.set_cons_zero, List.set_cons_succ]
        refine wpAnyH_take (i := 3) (oi := ⟨some 31, _, _, _, _, _⟩) (v := ?v3) rfl (by kernel_rfl) (by kernel_rfl) (by kernel_rfl) (fun _ _ _ h => h) (Or.inl ⟨by rfl, ?hy3⟩) (by assumption) ?rest3
        case hy3 => (intro wq hSw; obtain ⟨y0, y2⟩ := HE.out wq hSw; obtain ⟨d0, d1, d2⟩ := HK.out wq (HBY.out.trans (hSw.mono HBY.out.size)); clear hSw; first | (go_simp; done) | (go_simp; with_reducible rfl))
        simp only [Act.put, List.setIfInBounds_toArray, List.set_cons_zero, List.set_cons_succ]
        refine wpAnyH_take (i := 4) (oi := ⟨some 32, _, _, _, _, _⟩) (v := ?v4) rfl (by kernel_rfl) (by kernel_rfl) (by kernel_rfl) (fun _ _ _ h => h) (Or.inl ⟨by rfl, ?hy4⟩) (by assumption) ?rest4
        case hy4 => (intro wq hSw; obtain ⟨y0, y2⟩ := HE.out wq hSw; obtain ⟨d0, d1, d2⟩ := HK.out wq (HBY.out.trans (hSw.mono HBY.out.size)); clear hSw; first | (go_simp; done) | (go_simp; with_reducible rfl))
        simp only [Act.put, List.setIfInBounds_toArray, List.set_cons_zero, List.set_cons_succ]
        refine wpAnyH_ready (rs := [2]) (by kernel_rfl) (by simp) ?_
        refine AllReadyH.cons rfl (fun K hK => ?_) AllReadyH.nil
        go_simp
        refine Calls.mono (HP.out _ hHeld) ?_
        rintro e V1 ⟨rfl, hb1⟩
        dsimp only
        refine hK.out _ _ (by exact hHeld.trans (hb1.mono hHeld.size)) (fun hHeld => ?_)
        clear hK K
        (try simp only [Act.put, List.setIfInBounds_toArray, List.set_cons_zero, List.set_cons_succ])
        refine wpAnyH_take (i := 5) (oi := ⟨some 33, _, _, _, _, _⟩) (v := ?v5) rfl (by kernel_rfl) (by kernel_rfl) (by kernel_rfl) (fun _ _ _ h => h) (Or.inl ⟨by rfl, ?hy5⟩) (by assumption) ?rest5
        case hy5 => (intro wq hSw; obtain ⟨y0, y2⟩ := HE.out wq hSw; obtain ⟨d0, d1, d2⟩ := HK.out wq (HBY.out.trans (hSw.mono HBY.out.size)); clear hSw; first | (go_simp; done) | (go_simp; with_reducible rfl))
        simp only [Act.put, List.setIfInBounds_toArray, List.set_cons_zero, List.set_cons_succ]
        refine wpAnyH_take (i := 6) (oi := ⟨some 34, _, _, _, _, _⟩) (v := ?v6) rfl (by kernel_rfl) (by kernel_rfl) (by kernel_rfl) (fun _ _ _ h => h) (Or.inl ⟨by rfl, ?hy6⟩) (by assumption) ?rest6
        case hy6 => (intro wq hSw; obtain ⟨y0, y2⟩ := HE.out wq hSw; obtain ⟨d0, d1, d2⟩ := HK.out wq (HBY.out.trans (hSw.mono HBY.out.size)); clear hSw; first | (go_simp; done) | (go_simp; with_reducible rfl))
        simp only [Act.put, List.setIfInBounds_toArray, List.set_cons_zero, List.set_cons_succ]
        refine wpAnyH_take (i := 7) (oi := ⟨some 35, _, _, _, _, _⟩) (v := undef) rfl (by kernel_rfl) (by kernel_rfl) (by kernel_rfl) (fun _ _ _ h => h) (Or.inr ⟨by rfl, rfl⟩) (by assumption) ?_
        simp only [Act.put, List.setIfInBounds_toArray, List.set_cons_zero, List.set_cons_succ]
        refine wpAnyH_take (i := 8) (oi := ⟨some 36, _, _, _, _, _⟩) (v := undef) rfl (by kernel_rfl) (by kernel_rfl) (by kernel_rfl) (fun _ _ _ h => h) (Or.inr ⟨by rfl, rfl⟩) (by assumption) ?_
        simp only [Act.put, List.setIfInBounds_toArray, List.set_cons_zero, List.set_cons_succ]
        refine wpAnyH_take (i := 9) (oi := ⟨some 37, _, _, _, _, _⟩) (v := undef) rfl (by kernel_rfl) (by kernel_rfl) (by kernel_rfl) (fun _ _ _ h => h) (Or.inr ⟨by rfl, rfl⟩) (by assumption) ?_
        simp only [Act.put, List.setIfInBounds_toArray, List.set_cons_zero, List.set_cons_succ]
        refine wpAnyH_take (i := 10) (oi := ⟨some 38, _, _, _, _, _⟩) (v := undef) rfl (by kernel_rfl) (by kernel_rfl) (by kernel_rfl) (fun _ _ _ h => h) (Or.inr ⟨by rfl, rfl⟩) (by assumption) ?_
        simp only [Act.put, List.setIfInBounds_toArray, List.set_cons_zero, List.set_cons_succ]
        refine wpAnyH_take (i := 11) (oi := ⟨some 39, _, _, _, _, _⟩) (v := undef) rfl (by kernel_rfl) (by kernel_rfl) (by kernel_rfl) (fun _ _ _ h => h) (Or.inr ⟨by rfl, rfl⟩) (by assumption) ?_
        simp only [Act.put, List.setIfInBounds_toArray, List.set_cons_zero, List.set_cons_succ]
        refine wpAnyH_take (i := 12) (oi := ⟨some 40, _, _, _, _, _⟩) (v := ?v7) rfl (by kernel_rfl) (by kernel_rfl) (by kernel_rfl) (fun _ _ _ h => h) (Or.inl ⟨by rfl, ?hy7⟩) (by assumption) ?rest7
        case hy7 => (intro wq hSw; obtain ⟨y0, y2⟩ := HE.out wq hSw; obtain ⟨d0, d1, d2⟩ := HK.out wq (HBY.out.trans (hSw.mono HBY.out.size)); clear hSw; first | (go_simp; done) | (go_simp; with_reducible rfl))
        simp only [Act.put, List.setIfInBounds_toArray, List.set_cons_zero, List.set_cons_succ]
        have hV2 : Below Y.heap.size Y _ := hHeld
        refine wpAnyH_done (by kernel_rfl) ?_ _
        clear hHeld hb1
        go_wp2
        go_ret
        exact ⟨by rw [HR.out]; rfl, hD ▸ HBW.out.trans ((HBY.out.trans (hV2.mono HBY.out.size)).mono HBW.out.size)⟩
    · obtain rfl : k = n := by omega
      have HR : Hid (res = true) := HY2.out HA.out
      go_wp2
      go_ret
      exact ⟨by rw [HR.out]; rfl, hD ▸ HBW.out.trans (HB.out.mono HBW.out.size)⟩

end Go.Proofs.YtfhkiaogfopigaaGreatDoor

/-! The landed code's numbers and texts: the library's table of powers of ten, numbers written, texts joined. -/
namespace Go.Proofs.YtfhkiaogfopigaaGreatDoor
open Go.RowKit

/-- The library's table of powers of ten lies as its text lays it. -/
def PowIs (w : World) : Prop := Lib.TabIs Tryz.prog w "internal/strconv.uint64pow10" .u64 Lib.pow10Tab
theorem powAt : (Tryz.prog.globalNamed "internal/strconv.uint64pow10").isSome = true := by kernel_rfl
theorem powTy : (Tryz.prog.globalNamed "internal/strconv.uint64pow10").bind (fun g => (Tryz.prog.globals[g]?).map (·.type)) = some 157 := by kernel_rfl
/-- A listed variable that reads as the table holds it. -/
theorem pow_of_cells {W : World} {g : Nat} {t : TypeId} {cs : Array Value} {fuel : Nat} {p : List MemPlace} (hg : Tryz.prog.globalNamed "internal/strconv.uint64pow10" = some g) (ht : (Tryz.prog.globals[g]?).map (·.type) = some t)
    (hv : W.var? Tryz.prog "internal/strconv.uint64pow10" = some cs) (hd : DataW.trod (fun _ => ()) Tryz.prog W 0 (fun _ => true) false fuel t cs.toList = some (Lib.tabData .u64 Lib.pow10Tab, p)) : PowIs W := by
  have h1 := powTy
  rw [hg, Option.bind_some, ht] at h1
  obtain rfl := Option.some.inj h1
  unfold PowIs Lib.TabIs
  rw [hv, ← Lib.cells_of_tab Tryz.underlying157 Tryz.underlying140 (by kernel_rfl) (by kernel_rfl) hd]
theorem PowIs.below {w w' : World} (h : PowIs w) (hb : Below w.heap.size w w') : PowIs w' := by
  obtain ⟨g, hg⟩ := Option.isSome_iff_exists.1 powAt
  exact Go.Joins.tab_stays hg h hb (Nat.le_refl _)
theorem PowIs.drew {w : World} (h : PowIs w) : PowIs w.drew := h

theorem fmtInt (n : Int) (w : World) (ht : PowIs w) (h0 : -2147483648 ≤ n) (h1 : n ≤ 2147483647) :
    Calls Tryz.prog 82 #[.int .i64 n, .int .i64 10] w fun e w' => e = .returned (.string ⟨(intL n).toArray⟩) ∧ Below w.heap.size w w' := by
  refine (Tryz.strconv_FormatInt_10 n (by omega) (by omega) w ht).mono ?_
  rintro e w' ⟨rfl, k, os, rfl⟩
  exact ⟨by rw [itoa_int], Lib.below_grow _ w (Nat.le_refl _) k os⟩

theorem joinTexts (v : Value) (ts : List (List UInt8)) (base : Nat) (w : World) (h : w.ownsRow base 9 1 v ts.length (strV ts)) (hn : ts.length ≤ 1048576) (hl : (joinBy 32 ts).length ≤ 1048576) :
    Calls Tryz.prog 93 #[v, .string ⟨#[32]⟩] w fun e w' => e = .returned (.string ⟨(joinBy 32 ts).toArray⟩) ∧ Below w.heap.size w w' := by
  rcases h.2 with ⟨rfl, h0⟩ | ⟨g, cap, cur, rfl, hb, hg, hcap, _⟩
  · obtain rfl : ts = [] := List.eq_nil_of_length_eq_zero h0
    refine (Tryz.strings_Join_none none 0 ⟨#[32]⟩ w).mono ?_
    rintro e w' ⟨rfl, rfl⟩
    exact ⟨rfl, Below.refl _ _⟩
  · have hx : (ts.map (fun l => (⟨l.toArray⟩ : ByteArray))).map (·.data.toList) = ts := by rw [List.map_map]; exact (List.map_congr_left (fun l _ => rfl)).trans (List.map_id ts)
    have hxl : (ts.map (fun l => (⟨l.toArray⟩ : ByteArray))).length = ts.length := by simp
    have hj : Lib.join ((ts.map (fun l => (⟨l.toArray⟩ : ByteArray))).map (·.data.toList)) (⟨#[32]⟩ : ByteArray).data.toList = joinBy 32 ts := by rw [hx]; exact join_by ts
    have hc := Tryz.strings_Join g 0 cap (ts.map (fun l => (⟨l.toArray⟩ : ByteArray))) ⟨#[32]⟩ w (by
      intro j x hjx
      rw [List.getElem?_map, Option.map_eq_some_iff] at hjx
      obtain ⟨l, hl1, rfl⟩ := hjx
      obtain ⟨hj2, hl2⟩ := List.getElem?_eq_some_iff.1 hl1
      have := str_cellsD h rfl j hj2
      rw [Nat.zero_add, this, List.getD_eq_getElem?_getD, hl1]
      rfl) (h.lt g rfl).2 (by rw [hxl]; omega) (by rw [hxl]; exact hcap) (by rw [hj]; omega)
    rw [hj, hxl] at hc
    exact hc

end Go.Proofs.YtfhkiaogfopigaaGreatDoor
