/-
  Parts of one proof, one behind the other: ImgJ2, ImgJ3, ObJ.
-/
import Derived.Test.YtfhkiaogfopigaaGreatDoorQ30
import Derived.Test.YtfhkiaogfopigaaGreatDoorQ17
import Derived.Test.YtfhkiaogfopigaaGreatDoorQ29

/-! Contracts of chapter 14's landed code: the lines of a routine, ShowImage (written by gen_imgj2.py). -/
namespace Go.Proofs.YtfhkiaogfopigaaGreatDoor
open Go.RowKit

def rtLs (r : Rt) : List (List UInt8) := (rtLines r).map lineT
theorem rtLs_len (r : Rt) : (rtLs r).length = r.2.2.length + 1 := by unfold rtLs rtLines; simp
def rtLsK (r : Rt) (k : Nat) : List (List UInt8) := lineT (rtLn r) :: (r.2.2.take k).map (fun i => lineT (insLn i))
theorem rtLsK_step (r : Rt) (k : Nat) (hk : k < r.2.2.length) : rtLsK r (k + 1) = rtLsK r k ++ [lineT (insLn (r.2.2.getD k in0))] := by
  have e : r.2.2.getD k in0 = r.2.2[k] := by rw [List.getD_eq_getElem?_getD, List.getElem?_eq_getElem hk]; rfl
  unfold rtLsK
  rw [List.take_succ_eq_append_getElem hk, List.map_append, e]
  rfl
theorem rtLsK_all (r : Rt) : rtLsK r r.2.2.length = rtLs r := by
  unfold rtLsK rtLs rtLines
  rw [List.take_of_length_le (Nat.le_refl _)]
  simp
theorem rtLn_join (r : Rt) : joinBy 32 [kwRt, r.1, intL r.2.1, intL (r.2.2.length : Int)] = rtLn r := by simp [rtLn, joinBy]
def imLs (rs : List Rt) : List (List UInt8) := rs.flatMap rtLs
theorem imLs_flat (rs : List Rt) : (imLs rs).flatten = showI rs := by
  unfold imLs showI imLines termJ rtLs lineT
  rw [List.map_flatMap]
theorem imLs_take (rs : List Rt) (k : Nat) (hk : k < rs.length) : imLs (rs.take (k + 1)) = imLs (rs.take k) ++ rtLs (rs.getD k rt0) := by
  have e : rs.getD k rt0 = rs[k] := by rw [List.getD_eq_getElem?_getD, List.getElem?_eq_getElem hk]; rfl
  unfold imLs
  rw [List.take_succ_eq_append_getElem hk, List.flatMap_append, e]
  simp
theorem imLs_len (rs : List Rt) (h : ∀ r ∈ rs, rtB r = true) : (imLs rs).length ≤ rs.length * 201 := by
  induction rs with
  | nil => simp [imLs]
  | cons r rs ih =>
    have h1 := codeB_len (rtB_parts (h r (by simp))).2.2.1
    have h2 := ih (fun q hq => h q (by simp [hq]))
    unfold imLs at h2 ⊢
    rw [List.flatMap_cons, List.length_append, rtLs_len, List.length_cons]
    omega
theorem mem_getI {rs : List Rt} {k : Nat} (hk : k < rs.length) : rs.getD k rt0 ∈ rs := by rw [List.getD_eq_getElem?_getD, List.getElem?_eq_getElem hk]; exact List.getElem_mem hk
theorem mem_getC {c : List In13} {k : Nat} (hk : k < c.length) : c.getD k in0 ∈ c := by rw [List.getD_eq_getElem?_getD, List.getElem?_eq_getElem hk]; exact List.getElem_mem hk

/-- A routine's box, its code, the lines so far. -/
structure Ls14 (w X : World) (D : Nat) (nm : List UInt8) (ar : Int) (ca : Option Addr) (cc : Nat) (cd : List In13) (v : Value) (n : Nat) (ls : List (List UInt8)) : Prop where
  b : X.ownsRow w.heap.size 78 3 (.slice (some ⟨D, 0, none⟩) 1 1) 1 [.string ⟨nm.toArray⟩, .int .i64 ar, .slice ca cd.length cc]
  vv : X.ownsRow w.heap.size 9 1 v n (strV ls)
  h : Below w.heap.size w X
section
variable {w X Y : World} {D : Nat} {nm : List UInt8} {ar : Int} {ca : Option Addr} {cc : Nat} {cd : List In13} {v v' : Value} {n : Nat} {ls : List (List UInt8)}
theorem Ls14.below (h : Ls14 w X D nm ar ca cc cd v n ls) (hb : Below X.heap.size X Y) : Ls14 w Y D nm ar ca cc cd v n ls := ⟨own_below h.b hb, own_below h.vv hb, h.h.trans (hb.mono h.h.size)⟩
theorem Ls14.push (h : Ls14 w X D nm ar ca cc cd v n ls) (x : List UInt8) (hn : n ≤ 1000) : ∃ v' Y, (Builtin.append_ #[37, 37] 37 #[v, .slice (some ⟨X.heap.size, 0, none⟩) 1 1]).run Tryz.prog (X.alloc (.cells #[.string ⟨x.toArray⟩] 9)) = .ok v' Y ∧ Ls14 w Y D nm ar ca cc cd v' (n + 1) (ls ++ [x]) := by
  obtain ⟨v', Y, hrun, hv, hg⟩ := push_str x h.vv h.h.size (by omega)
  have h1 := h.below ((Below.refl _ X).alloc (Nat.le_refl _) (.cells #[.string ⟨x.toArray⟩] 9))
  exact ⟨v', Y, hrun, h1.b.kept hg (own_typesR h1.b h1.vv (by decide)), hv, h1.h.grown hg h1.h.size (fun q e => (h1.vv.lt q e).1)⟩
end
set_option maxHeartbeats 8000000 in
set_option maxRecDepth 100000 in
theorem implLinesOf (nm : List UInt8) (ar : Int) (ca : Option Addr) (cc : Nat) (cd : List In13) (w : World) (ht : PowIs w) (hr : rtB (nm, ar, cd) = true) (hin : InsIn w ca cd.length cd) :
    Calls Tryz.prog 59 #[.agg #[.string ⟨nm.toArray⟩, .int .i64 ar, .slice ca cd.length cc]] w fun e w' => ∃ v, e = .returned v ∧ w'.ownsRow w.heap.size 9 1 v (cd.length + 1) (strV (rtLs (nm, ar, cd))) ∧ Below w.heap.size w w' := by
  obtain ⟨hn13, har, hcb, _⟩ := rtB_parts hr
  simp only at hn13 har hcb
  have hcl := codeB_len hcb
  have hrl := rtLn_len hr
  have HP : Hid (∀ i ∈ cd, insP i) := codeB_ins hcb
  have HI : Hid (InsIn w ca cd.length cd) := hin
  have HT : Hid (∀ X, Below w.heap.size w X → PowIs X) := fun X hb => ht.below hb
  have HSt : Hid (∀ k, k < cd.length → rtLsK (nm, ar, cd) (k + 1) = rtLsK (nm, ar, cd) k ++ [lineT (insLn (cd.getD k in0))]) := fun k hk => rtLsK_step (nm, ar, cd) k hk
  have HAl : Hid (rtLsK (nm, ar, cd) cd.length = rtLs (nm, ar, cd)) := rtLsK_all (nm, ar, cd)
  have HF : Hid (∀ X, Below w.heap.size w X → Calls Tryz.prog 82 #[.int .i64 ar, .int .i64 10] X fun e w' => e = .returned (.string ⟨(intL ar).toArray⟩) ∧ Below X.heap.size X w') := fun X hb => fmtInt ar X (HT.out X hb) (by omega) (by omega)
  have HA : Hid (∀ X, Below w.heap.size w X → Calls Tryz.prog 83 #[.int .i64 (cd.length : Int)] X fun e w' => e = .returned (.string ⟨(intL (cd.length : Int)).toArray⟩) ∧ Below X.heap.size X w') := fun X hb => itoaInt (cd.length : Int) X (HT.out X hb) (by omega) (by omega)
  have HL : Hid (∀ (v : Value) (X : World) (B : Nat), X.ownsRow B 9 1 v 4 (strV [kwRt, nm, intL ar, intL (cd.length : Int)]) → Calls Tryz.prog 74 #[v] X fun e w' => e = .returned (.string ⟨(lineT (rtLn (nm, ar, cd))).toArray⟩) ∧ Below X.heap.size X w') := fun v X B hv => by
    have hj := rtLn_join (nm, ar, cd)
    simp only at hj
    have := implLineOf v [kwRt, nm, intL ar, intL (cd.length : Int)] B X hv (by simp) (by rw [hj]; omega)
    rw [hj] at this
    exact this
  have HL0 : Hid (rtLsK (nm, ar, cd) 0 = [lineT (rtLn (nm, ar, cd))]) := rfl
  have hb0 := World.ownsRow_lit (base := w.heap.size) (e := 78) (size := 3) w #[.string ⟨nm.toArray⟩, .int .i64 ar, .slice ca cd.length cc] 1 (Nat.le_refl _) (by decide) rfl
  obtain ⟨W, hW⟩ : ∃ W, w.alloc (.cells #[.string ⟨nm.toArray⟩, .int .i64 ar, .slice ca cd.length cc] 78) = W := ⟨_, rfl⟩
  rw [hW] at hb0
  have hB : Below w.heap.size w W := by rw [← hW]; exact (Below.refl _ _).alloc (Nat.le_refl _) _
  have hsW : W.heap.size = w.heap.size + 1 := by rw [← hW]; simp
  have HBW : Hid (Below w.heap.size w W) := hB
  obtain ⟨D, hD⟩ : ∃ D, w.heap.size = D := ⟨_, rfl⟩
  have HB0 : Hid (∀ X, Below W.heap.size W X → X.ownsRow w.heap.size 78 3 (.slice (some ⟨D, 0, none⟩) 1 1) 1 [.string ⟨nm.toArray⟩, .int .i64 ar, .slice ca cd.length cc]) := fun X hX => by
    have := own_below hb0 hX
    rw [← hD]
    exact this
  have HG : Hid (∀ X, Below W.heap.size W X → X.cell? ⟨D, 1, none⟩ = some (.int .i64 ar) ∧ X.cell? ⟨D, 2, none⟩ = some (.slice ca cd.length cc) ∧ X.cell? ⟨D, 0, none⟩ = some (.string ⟨nm.toArray⟩)) := fun X hX => ⟨(HB0.out X hX).cells rfl 1 _ rfl, (HB0.out X hX).cells rfl 2 _ rfl, (HB0.out X hX).cells rfl 0 _ rfl⟩
  have HWX : Hid (∀ X, Below W.heap.size W X → Below w.heap.size w X) := fun X hX => hB.trans (hX.mono hB.size)
  generalize lineT (rtLn (nm, ar, cd)) = q0 at HL HL0
  generalize rtLs (nm, ar, cd) = out at HAl ⊢
  generalize hKK : rtLsK (nm, ar, cd) = KK at HSt HAl HL0
  generalize intL ar = sa at HF HL
  generalize intL (cd.length : Int) = sl at HA HL
  obtain ⟨m, hm⟩ : ∃ m, cd.length = m := ⟨_, rfl⟩
  have HM : Hid (cd.length = m) := hm
  rw [hm] at HI HSt HAl HA HG HB0 hcl hW ⊢
  clear hin ht hr hn13 har hcb hb0 hB hKK hrl hm
  go_enter Tryz.func59, Tryz.ntmps59
  go_wp2_with fail
  refine wp_region_held_drew (S := fun X => Below W.heap.size W X) (by kernel_rfl) ⟨rfl, rfl, rfl, Nat.le_refl _, fun _ _ => rfl⟩ (fun hHeld => ?_)
  refine wpAnyH_take (i := 0) (oi := ⟨some 8, _, _, _, _, _⟩) (v := ?v1) rfl (by kernel_rfl) (by kernel_rfl) (by kernel_rfl) (fun _ _ _ h => h) (Or.inl ⟨by rfl, ?hy1⟩) (by assumption) ?rest1
  case hy1 => (intro wq hSw; have e0 := (HG.out wq hSw).1; have e1 := (HG.out wq hSw).2.1; clear hSw; first | (go_simp; done) | (go_simp; with_reducible rfl))
  simp only [Act.put, List.setIfInBounds_toArray, List.set_cons_zero, List.set_cons_succ]
  refine wpAnyH_take (i := 1) (oi := ⟨some 9, _, _, _, _, _⟩) (v := ?v2) rfl (by kernel_rfl) (by kernel_rfl) (by kernel_rfl) (fun _ _ _ h => h) (Or.inl ⟨by rfl, ?hy2⟩) (by assumption) ?rest2
  case hy2 => (intro wq hSw; have e0 := (HG.out wq hSw).1; have e1 := (HG.out wq hSw).2.1; clear hSw; first | (go_simp; done) | (go_simp; with_reducible rfl))
  simp only [Act.put, List.setIfInBounds_toArray, List.set_cons_zero, List.set_cons_succ]
  refine wpAnyH_take (i := 3) (oi := ⟨some 11, _, _, _, _, _⟩) (v := ?v3) rfl (by kernel_rfl) (by kernel_rfl) (by kernel_rfl) (fun _ _ _ h => h) (Or.inl ⟨by rfl, ?hy3⟩) (by assumption) ?rest3
  case hy3 => (intro wq hSw; have e0 := (HG.out wq hSw).1; have e1 := (HG.out wq hSw).2.1; clear hSw; first | (go_simp; done) | (go_simp; with_reducible rfl))
  simp only [Act.put, List.setIfInBounds_toArray, List.set_cons_zero, List.set_cons_succ]
  refine wpAnyH_take (i := 4) (oi := ⟨some 12, _, _, _, _, _⟩) (v := ?v4) rfl (by kernel_rfl) (by kernel_rfl) (by kernel_rfl) (fun _ _ _ h => h) (Or.inl ⟨by rfl, ?hy4⟩) (by assumption) ?rest4
  case hy4 => (intro wq hSw; have e0 := (HG.out wq hSw).1; have e1 := (HG.out wq hSw).2.1; clear hSw; first | (go_simp; done) | (go_simp; with_reducible rfl))
  simp only [Act.put, List.setIfInBounds_toArray, List.set_cons_zero, List.set_cons_succ]
  refine wpAnyH_take (i := 5) (oi := ⟨some 13, _, _, _, _, _⟩) (v := ?v5) rfl (by kernel_rfl) (by kernel_rfl) (by kernel_rfl) (fun _ _ _ h => h) (Or.inl ⟨by rfl, ?hy5⟩) (by assumption) ?rest5
  case hy5 => (intro wq hSw; have e0 := (HG.out wq hSw).1; have e1 := (HG.out wq hSw).2.1; clear hSw; first | (go_simp; done) | (go_simp; with_reducible rfl))
  simp only [Act.put, List.setIfInBounds_toArray, List.set_cons_zero, List.set_cons_succ]
  refine wpAnyH_ready (rs := [2]) (by kernel_rfl) (by simp) ?_
  refine AllReadyH.cons rfl (fun K hK => ?_) AllReadyH.nil
  go_simp
  refine Calls.mono (HF.out _ (HWX.out _ hHeld)) ?_
  rintro e W1 ⟨rfl, hb1⟩
  dsimp only
  refine hK.out _ _ (by exact hHeld.trans (hb1.mono hHeld.size)) (fun hHeld => ?_)
  clear hK K
  (try simp only [Act.put, List.setIfInBounds_toArray, List.set_cons_zero, List.set_cons_succ])
  refine wpAnyH_ready (rs := [6]) (by kernel_rfl) (by simp) ?_
  refine AllReadyH.cons rfl (fun K hK => ?_) AllReadyH.nil
  go_simp
  refine Calls.mono (HA.out _ (HWX.out _ hHeld)) ?_
  rintro e W2 ⟨rfl, hb2⟩
  dsimp only
  refine hK.out _ _ (by exact hHeld.trans (hb2.mono hHeld.size)) (fun hHeld => ?_)
  clear hK K
  (try simp only [Act.put, List.setIfInBounds_toArray, List.set_cons_zero, List.set_cons_succ])
  refine wpAnyH_take (i := 7) (oi := ⟨some 3, _, _, _, _, _⟩) (v := ?v6) rfl (by kernel_rfl) (by kernel_rfl) (by kernel_rfl) (fun _ _ _ h => h) (Or.inl ⟨by rfl, ?hy6⟩) (by assumption) ?rest6
  case hy6 => (intro wq hSw; clear hSw; first | (go_simp; done) | (go_simp; with_reducible rfl))
  simp only [Act.put, List.setIfInBounds_toArray, List.set_cons_zero, List.set_cons_succ]
  refine wpAnyH_take (i := 8) (oi := ⟨some 4, _, _, _, _, _⟩) (v := ?v7) rfl (by kernel_rfl) (by kernel_rfl) (by kernel_rfl) (fun _ _ _ h => h) (Or.inl ⟨by rfl, ?hy7⟩) (by assumption) ?rest7
  case hy7 => (intro wq hSw; clear hSw; first | (go_simp; done) | (go_simp; with_reducible rfl))
  simp only [Act.put, List.setIfInBounds_toArray, List.set_cons_zero, List.set_cons_succ]
  have HB5 : Hid (Below W.heap.size W W2) := hHeld
  refine wpAnyH_done (by kernel_rfl) ?_ _
  clear hHeld hb1 hb2
  have k0 := (HG.out _ HB5.out).2.2
  have ho1 := World.ownsRow_lit (base := W2.heap.size) (e := 9) (size := 1) W2 #[.string ⟨#[114, 111, 117, 116, 105, 110, 101]⟩, .string ⟨nm.toArray⟩, .string ⟨sa.toArray⟩, .string ⟨sl.toArray⟩] 4 (Nat.le_refl _) (by decide) rfl
  have HC1 : Hid (_) := HL.out _ _ _ ho1
  have hbA : Below W2.heap.size W2 (W2.alloc (.cells #[.string ⟨#[114, 111, 117, 116, 105, 110, 101]⟩, .string ⟨nm.toArray⟩, .string ⟨sa.toArray⟩, .string ⟨sl.toArray⟩] 9)) := (Below.refl _ _).alloc (Nat.le_refl _) _
  clear ho1
  go_wp2_with fail
  refine Calls.mono HC1.out ?_
  rintro e w2 ⟨rfl, hb2⟩
  have hB2 : Below W.heap.size W w2 := HB5.out.trans ((hbA.trans (hb2.mono hbA.size)).mono HB5.out.size)
  have hBA : Below w2.heap.size w2 (w2.alloc (.cells #[.string ⟨q0.toArray⟩] 9)) := (Below.refl _ _).alloc (Nat.le_refl _) _
  have hB3 : Below W.heap.size W (w2.alloc (.cells #[.string ⟨q0.toArray⟩] 9)) := hB2.trans (hBA.mono hB2.size)
  have ho2 := World.ownsRow_lit (base := w.heap.size) (e := 9) (size := 1) w2 #[.string ⟨q0.toArray⟩] 1 (by have := hB2.size; omega) (by decide) rfl
  obtain ⟨V3, hV3⟩ : ∃ V, w2.alloc (.cells #[.string ⟨q0.toArray⟩] 9) = V := ⟨_, rfl⟩
  rw [hV3] at hB3 ho2 hBA
  have k2 := (HG.out _ hB3).2.1
  have HS0 : Hid (Ls14 w V3 D nm ar ca cc cd (.slice (some ⟨w2.heap.size, 0, none⟩) 1 1) (0 + 1) (KK 0)) := ⟨by rw [HM.out]; exact HB0.out _ hB3, by rw [HL0.out]; exact ho2, HWX.out _ hB3⟩
  clear HL HF HA HC1 hb2 hB2 hB3 ho2 hBA hbA k0 HB5 HL0
  go_wp2
  go_loopw [5, 25] (fun vv iv wx => ∃ k : Nat, iv = .int .i64 (k : Int) ∧ k ≤ m ∧ Hid (Ls14 w wx D nm ar ca cc cd vv (k + 1) (KK k))) (fun _ iv _ => m - (intOf iv).toNat)
  case atStart => exact ⟨0, rfl, Nat.zero_le _, HS0⟩
  case round =>
    obtain ⟨k, rfl, hk, sr⟩ := hrel
    clear HS0 k2
    by_cases hlt : (k : Int) < (m : Int)
    · obtain ⟨b, off, rfl, hbl, c0, c1, c2, c3, c4⟩ := (HI.out.below sr.out.h).2 k (by omega)
      have hst := HSt.out k (by omega)
      have hip := HP.out _ (mem_getC (k := k) (by rw [HM.out]; omega))
      obtain ⟨i, hi⟩ : ∃ i, cd.getD k in0 = i := ⟨_, rfl⟩
      rw [hi] at c0 c1 c2 c3 c4 hst hip
      have hb4 : Below wr.heap.size wr (wr.alloc (.cells #[.int .i64 i.1, .int .i64 i.2.1, .int .i64 i.2.2.1, .int .i64 i.2.2.2.1, .string ⟨i.2.2.2.2.toArray⟩] 81)) := (Below.refl _ _).alloc (Nat.le_refl _) _
      have s4 := sr.out.below hb4
      have HC : Hid (_) := implShownIns i _ (HT.out _ s4.h) hip
      unfold insVal at HC
      generalize lineT (insLn i) = sx at HC hst
      have HTK : Hid (KK (k + 1) = KK k ++ [sx]) := hst
      obtain ⟨kd, R, A, Bq, nq⟩ := i
      simp only at c0 c1 c2 c3 c4 HC s4 hb4
      have S4 : Hid (_) := s4
      clear hst hip hi hb4 s4 sr
      go_wp2_with fail
      refine Calls.mono HC.out ?_
      rintro e w5 ⟨rfl, hb5⟩
      obtain ⟨v', Y, hrun, s6⟩ := (S4.out.below hb5).push sx (by omega)
      have HS6 : Hid (Ls14 w Y D nm ar (some ⟨b, off, none⟩) cc cd v' (k + 1 + 1) (KK (k + 1))) := by exact (by rw [HTK.out]; exact s6 : Ls14 w Y D nm ar (some ⟨b, off, none⟩) cc cd v' (k + 1 + 1) (KK (k + 1)))
      clear s6 hb5 S4 HTK c0 c1 c2 c3 c4
      go_wp2_with (at_builtin; refine wpList_append_run rfl (.tmp 29) (.tmp 32) 37 rfl _ _ _ rfl rfl hrun ?_; clear hrun)
      go_roundw
      case rel => exact ⟨k + 1, by go_num, by omega, HS6⟩
      case measure => simp [intOf]; omega
    · obtain rfl : k = m := by omega
      have HE : Hid (wr.ownsRow w.heap.size 9 1 u5 (k + 1) (strV out) ∧ Below w.heap.size w wr) := by
        have h1 := sr.out.vv
        rw [HAl.out] at h1
        exact ⟨h1, sr.out.h⟩
      clear sr
      go_wp2
      go_ret
      exact ⟨_, rfl, by first | exact HE.out.1 | (rw [hD]; exact HE.out.1) | (rw [← hD]; exact HE.out.1), by first | exact HE.out.2 | (rw [hD]; exact HE.out.2) | (rw [← hD]; exact HE.out.2)⟩

end Go.Proofs.YtfhkiaogfopigaaGreatDoor

/-! Contracts of chapter 14's landed code: ShowImage. -/
namespace Go.Proofs.YtfhkiaogfopigaaGreatDoor
open Go.RowKit

theorem strV_oneL (ls : List (List UInt8)) : ∀ u ∈ strV ls, u.oneCell' = true := by
  intro u hu
  unfold strV at hu
  obtain ⟨l, _, rfl⟩ := List.mem_map.1 hu
  rfl
theorem imLs_bd {rs : List Rt} (h : ∀ r ∈ rs, rtB r = true) (h64 : rs.length ≤ 64) (k : Nat) : (imLs (rs.take k)).length ≤ 12864 := by
  have h1 := imLs_len (rs.take k) (fun r hr => h r (List.mem_of_mem_take hr))
  have h2 : (rs.take k).length ≤ 64 := by rw [List.length_take]; omega
  omega
set_option maxHeartbeats 8000000 in
set_option maxRecDepth 100000 in
theorem implLinesOfRts (a : Option Addr) (len cap : Nat) (rs : List Rt) (w : World) (h : RtsCap w a len cap rs) (hrt : ∀ r ∈ rs, rtB r = true) (h64 : rs.length ≤ 64) (ht : PowIs w) :
    Calls Tryz.prog 31 #[.slice a len cap] w fun e w' => ∃ v, e = .returned v ∧ w'.ownsRow w.heap.size 9 1 v (imLs rs).length (strV (imLs rs)) ∧ Below w.heap.size w w' := by
  obtain rfl : rs.length = len := h.1
  have HI : Hid (RtsCap w a rs.length cap rs) := h
  have HT : Hid (∀ X, Below w.heap.size w X → PowIs X) := fun X hX => ht.below hX
  have HLn : Hid (∀ k, (imLs (rs.take k)).length ≤ 12864) := fun k => imLs_bd hrt h64 k
  have HTk : Hid (∀ k, k < rs.length → imLs (rs.take (k + 1)) = imLs (rs.take k) ++ rtLs (rs.getD k rt0)) := fun k hk => imLs_take rs k hk
  have HAl : Hid (rs.take rs.length = rs) := List.take_of_length_le (Nat.le_refl _)
  have HOk : Hid (∀ k, k < rs.length → rtB (rs.getD k rt0) = true) := fun k hk => hrt _ (mem_getI hk)
  obtain ⟨n, hnn⟩ : ∃ n, rs.length = n := ⟨_, rfl⟩
  have HN : Hid (rs.length = n) := hnn
  have hn64 : n ≤ 64 := by omega
  have ho := World.ownsRow_lit (base := w.heap.size) (e := 9) (size := 1) w #[] 0 (Nat.le_refl _) (by decide) rfl
  have hbA : Below w.heap.size w (w.alloc (.cells #[] 9)) := (Below.refl _ _).alloc (Nat.le_refl _) _
  obtain ⟨V2, hV2⟩ : ∃ V, w.alloc (.cells #[] 9) = V := ⟨_, rfl⟩
  rw [hV2] at ho hbA
  have HS0 : Hid (V2.ownsRow w.heap.size 9 1 (.slice (some ⟨w.heap.size, 0, none⟩) 0 0) (imLs (rs.take 0)).length (strV (imLs (rs.take 0))) ∧ Below w.heap.size w V2) := ⟨ho, hbA⟩
  rw [hnn] at HI HTk HOk HAl ⊢
  clear h hrt h64 ht hnn ho hbA
  go_enter Tryz.func31, Tryz.ntmps31
  go_wp2
  go_loopw [3, 9] (fun vv iv wx => ∃ k : Nat, iv = .int .i64 (k : Int) ∧ k ≤ n ∧ Hid (wx.ownsRow w.heap.size 9 1 vv (imLs (rs.take k)).length (strV (imLs (rs.take k))) ∧ Below w.heap.size w wx)) (fun _ iv _ => n - (intOf iv).toNat)
  case atStart => exact ⟨0, rfl, Nat.zero_le _, HS0⟩
  case round =>
    obtain ⟨k, rfl, hk, sr⟩ := hrel
    clear HS0
    by_cases hlt : (k : Int) < (n : Int)
    · obtain ⟨b, off, rfl, hbl, c0, c1, ca, cl, cc, c2, hin, hcc, hcm⟩ := (HI.out.below sr.out.2).2.2.2 k (by omega)
      have hok := HOk.out k (by omega)
      have htk := HTk.out k (by omega)
      have hlk := HLn.out k
      have hlk2 := HLn.out (k + 1)
      obtain ⟨r, hrr⟩ : ∃ r, rs.getD k rt0 = r := ⟨_, rfl⟩
      rw [hrr] at c0 c1 hin hok htk
      rw [htk, List.length_append] at hlk2
      obtain ⟨nm, ar, cd⟩ := r
      simp only at c0 c1 hin
      obtain rfl : cd.length = cl := hin.1
      have hlr := rtLs_len (nm, ar, cd)
      simp only at hlr
      obtain ⟨Y, hY⟩ : ∃ Y, wr.alloc (.cells #[.string ⟨nm.toArray⟩, .int .i64 ar, .slice ca cd.length cc] 78) = Y := ⟨_, rfl⟩
      have hbY : Below wr.heap.size wr Y := by rw [← hY]; exact (Below.refl _ _).alloc (Nat.le_refl _) _
      have hRY : Y.heap[wr.heap.size]? = some (.cells #[.string ⟨nm.toArray⟩, .int .i64 ar, .slice ca cd.length cc] 78) := by rw [← hY]; exact heap_alloc_new wr _
      obtain ⟨y0, y1, y2, _⟩ := threeR (Below.refl _ Y) (lt_of_block hRY) hRY
      have hBY : Below w.heap.size w Y := sr.out.2.trans (hbY.mono sr.out.2.size)
      have HC : Hid (_) := implLinesOf nm ar ca cc cd Y (HT.out _ hBY) hok (hin.below hbY)
      have HV : Hid (Y.ownsRow w.heap.size 9 1 u3 (imLs (rs.take k)).length (strV (imLs (rs.take k)))) := own_below sr.out.1 hbY
      have HBY : Hid (Below w.heap.size w Y) := hBY
      generalize rtLs (nm, ar, cd) = ns at HC htk hlr hlk2
      have HTK : Hid (imLs (rs.take (k + 1)) = imLs (rs.take k) ++ ns ∧ ns.length = cd.length + 1) := ⟨htk, hlr⟩
      obtain ⟨m, hm⟩ : ∃ m, cd.length = m := ⟨_, rfl⟩
      rw [hm] at HC HTK c2 hY y2
      have hmn : (imLs (rs.take k)).length + (m + 1) ≤ 12864 := by have h1 := HTK.out.2; omega
      clear hrr hok htk hlr hlk hlk2 hin hcc hcm hbY hBY sr hm hRY
      go_wp2_with fail
      refine Calls.mono HC.out ?_
      rintro e w5 ⟨v2, rfl, hv2, hb5⟩
      obtain ⟨i0, hi, hz0, hz1, hz2⟩ := info_parts info9
      have hv5 := own_below HV.out hb5
      obtain ⟨v', Y2, hrun, hown, hg, _⟩ := run_append_src (P := Tryz.prog) w5 w.heap.size 37 37 9 i0 _ 1 16 Tryz.underlying37 hi hz0 hz1 hz2 rfl (by decide) _ _ _ hv5 v2 (m + 1) (strV ns) (own_srcL hv2 (strV_oneL _)) (by unfold maxLen; omega) (by omega) (by have := HBY.out.size; have := hb5.size; omega)
      have HS6 : Hid (Y2.ownsRow w.heap.size 9 1 v' (imLs (rs.take (k + 1))).length (strV (imLs (rs.take (k + 1)))) ∧ Below w.heap.size w Y2) := by
        have h5 : Below w.heap.size w w5 := HBY.out.trans (hb5.mono HBY.out.size)
        refine ⟨?_, h5.grown hg h5.size (fun q e => (hv5.lt q e).1)⟩
        rw [HTK.out.1, List.length_append, HTK.out.2, show strV (imLs (rs.take k) ++ ns) = strV (imLs (rs.take k)) ++ strV ns by simp [strV]]
        exact hown
      clear hown hg hv5 hv2 hb5 HV HBY HTK c0 c1 c2 hi hz0 hz1 hz2
      go_wp2_with (at_builtin; refine wpList_append_run rfl (.tmp 13) (.tmp 15) 37 rfl _ _ _ rfl rfl hrun ?_; clear hrun)
      go_roundw
      case rel => exact ⟨k + 1, by go_num, by omega, HS6⟩
      case measure => simp [intOf]; omega
    · obtain rfl : k = n := by omega
      have hV := sr.out
      rw [HAl.out] at hV
      have HV : Hid (_) := hV
      clear hV sr
      go_wp2
      go_ret
      exact ⟨_, rfl, HV.out⟩

set_option maxHeartbeats 8000000 in
set_option maxRecDepth 100000 in
theorem implShowImage (a : Option Addr) (len cap : Nat) (rs : List Rt) (w : World) (h : RtOk w a len cap rs) (ht : PowIs w) :
    Calls Tryz.prog 10 #[.agg #[.slice a len cap]] w fun e w' => e = .returned (.string ⟨(showIm rs).toArray⟩) ∧ Below w.heap.size w w' := by
  obtain rfl : rs.length = len := h.c.1
  obtain ⟨W, hW⟩ : ∃ W, w.alloc (.cells #[.slice a rs.length cap] 29) = W := ⟨_, rfl⟩
  have hb : Below w.heap.size w W := by rw [← hW]; exact (Below.refl _ _).alloc (Nat.le_refl _) _
  have hsW : W.heap.size = w.heap.size + 1 := by rw [← hW]; simp
  have hR : W.heap[w.heap.size]? = some (.cells #[.slice a rs.length cap] 29) := by rw [← hW]; exact heap_alloc_new w _
  have hW2 := h.below hb
  have HC1 : Hid (_) := implImageOk a rs.length cap rs W hW2
  have HI : Hid (RtsCap W a rs.length cap rs) := hW2.c
  have HT : Hid (∀ X, Below w.heap.size w X → PowIs X) := fun X hX => ht.below hX
  have HBW : Hid (Below w.heap.size w W) := hb
  have c0 : W.cell? ⟨w.heap.size, 0, none⟩ = some (.slice a rs.length cap) := by rw [cell_of_row _ _ _ _ _ _ hR]; rfl
  obtain ⟨D, hD⟩ : ∃ D, w.heap.size = D := ⟨_, rfl⟩
  rcases hib : imageB rs with _ | _
  · have HR : Hid (showIm rs = []) := by exact (by unfold showIm; rw [hib]; rfl : showIm rs = [])
    rw [hib] at HC1
    generalize showIm rs = out at HR ⊢
    obtain ⟨n, hnn⟩ : ∃ n, rs.length = n := ⟨_, rfl⟩
    rw [hnn] at HC1 hW c0 ⊢
    rw [hD] at c0 hsW HBW ⊢
    clear h hW2 hb ht hib hnn HI hR
    go_enter Tryz.func10, Tryz.ntmps10
    go_wp2_with fail
    refine Calls.mono HC1.out ?_
    rintro e w1 ⟨rfl, hb1⟩
    go_wp2
    go_ret
    exact ⟨by rw [HR.out]; rfl, HBW.out.trans (hb1.mono (by omega))⟩
  · have HR : Hid (showIm rs = (imLs rs).flatten) := by exact (by unfold showIm; rw [hib, imLs_flat]; rfl : showIm rs = (imLs rs).flatten)
    have HFl : Hid ((imLs rs).flatten.length ≤ 400000 ∧ (imLs rs).length ≤ 12864) := ⟨by rw [imLs_flat]; exact showI_len hib, by
      have h1 := imLs_bd (image_rts hib) (of_decide_eq_true hib).2.2 rs.length
      rw [List.take_of_length_le (Nat.le_refl _)] at h1
      exact h1⟩
    have HLs : Hid (∀ X, Below W.heap.size W X → Calls Tryz.prog 31 #[.slice a rs.length cap] X fun e w' => ∃ v, e = .returned v ∧ w'.ownsRow X.heap.size 9 1 v (imLs rs).length (strV (imLs rs)) ∧ Below X.heap.size X w') := fun X hX => implLinesOfRts a rs.length cap rs X (HI.out.below hX) (image_rts hib) (of_decide_eq_true hib).2.2 (HT.out _ (hb.trans (hX.mono hb.size)))
    rw [hib] at HC1
    generalize showIm rs = out at HR ⊢
    obtain ⟨n, hnn⟩ : ∃ n, rs.length = n := ⟨_, rfl⟩
    rw [hnn] at HC1 hW c0 HI HLs ⊢
    rw [hD] at c0 hsW
    clear h hW2 hb ht hib hnn hR
    go_enter Tryz.func10, Tryz.ntmps10
    go_wp2_with fail
    refine Calls.mono HC1.out ?_
    rintro e w1 ⟨rfl, hb1⟩
    have d0 : w1.cell? ⟨D, 0, none⟩ = some (.slice a n cap) := (hb1.cell (p := ⟨D, 0, none⟩) (by show D < _; omega)).trans c0
    go_wp2_with fail
    refine Calls.mono (HLs.out _ hb1) ?_
    rintro e w2 ⟨v, rfl, hv, hb2⟩
    have HB6 : Hid (Below W.heap.size W w2) := hb1.trans (hb2.mono hb1.size)
    obtain ⟨_, av, cv, hve, hin⟩ := own_texts hv
    have HJ : Hid (_) := implJoined av (imLs rs).length cv (imLs rs) w2 hin (by have := HFl.out.1; omega) (by have := HFl.out.2; omega)
    subst hve
    generalize (imLs rs).flatten = fl at HR HJ
    generalize (imLs rs).length = nl at HJ ⊢
    clear hv hin hb1 hb2 d0 c0
    go_wp2_with fail
    refine Calls.mono HJ.out ?_
    rintro e w7 ⟨rfl, hb7⟩
    have HB8 : Hid (Below w.heap.size w w7) := HBW.out.trans ((HB6.out.trans (hb7.mono HB6.out.size)).mono HBW.out.size)
    clear hb7
    go_wp2
    go_ret
    exact ⟨by rw [HR.out]; rfl, by first | exact HB8.out | (rw [hD]; exact HB8.out) | (rw [← hD]; exact HB8.out)⟩

end Go.Proofs.YtfhkiaogfopigaaGreatDoor

/-! Contracts of chapter 15's landed code: ShowObject. -/
namespace Go.Proofs.YtfhkiaogfopigaaGreatDoor
open Go.RowKit

theorem obLs_flat (o : Ob) : (hdLs kwObject o.1 o.2.1 ++ imLs o.2.2).flatten = showO o := by
  rw [List.flatten_append, imLs_flat, showO_eq]
  unfold hdLs objLn lineT termJ
  simp [List.map_map, Function.comp_def]

set_option maxHeartbeats 8000000 in
set_option maxRecDepth 100000 in
theorem implShowObject (nm : List UInt8) (ia : Option Addr) (il ic : Nat) (fa : Option Addr) (fl fc : Nat) (ims : List (List UInt8)) (rs : List Rt) (w : World) (h : ObOk w nm ia il ic fa fl fc ims rs) (ht : PowIs w) :
    Calls Tryz.prog 19 #[.agg #[.string ⟨nm.toArray⟩, .slice ia il ic, .slice fa fl fc]] w fun e w' => e = .returned (.string ⟨(showOb (nm, ims, rs)).toArray⟩) ∧ Below w.heap.size w w' := by
  obtain rfl : ims.length = il := h.i.1
  obtain rfl : rs.length = fl := h.r.c.1
  obtain ⟨W, hW⟩ : ∃ W, w.alloc (.cells #[.string ⟨nm.toArray⟩, .slice ia ims.length ic, .slice fa rs.length fc] 43) = W := ⟨_, rfl⟩
  have hb : Below w.heap.size w W := by rw [← hW]; exact (Below.refl _ _).alloc (Nat.le_refl _) _
  have hA : W.heap[w.heap.size]? = some (.cells #[.string ⟨nm.toArray⟩, .slice ia ims.length ic, .slice fa rs.length fc] 43) := by rw [← hW]; exact heap_alloc_new w _
  obtain ⟨D, hD⟩ : ∃ D, w.heap.size = D := ⟨_, rfl⟩
  rw [hD] at hA
  have hDl : D < W.heap.size := lt_of_block hA
  have HK : Hid (∀ Z, Below W.heap.size W Z → Z.cell? ⟨D, 0, none⟩ = some (.string ⟨nm.toArray⟩) ∧ Z.cell? ⟨D, 1, none⟩ = some (.slice ia ims.length ic) ∧ Z.cell? ⟨D, 2, none⟩ = some (.slice fa rs.length fc)) := fun Z hz => ⟨(hz.cell (p := ⟨D, 0, none⟩) hDl).trans (by simp [World.cell?, hA]), (hz.cell (p := ⟨D, 1, none⟩) hDl).trans (by simp [World.cell?, hA]), (hz.cell (p := ⟨D, 2, none⟩) hDl).trans (by simp [World.cell?, hA])⟩
  have hW2 := h.below hb
  have HC1 : Hid (_) := implObjectOk nm ia ims.length ic fa rs.length fc ims rs W hW2
  have HB : Hid (Below w.heap.size w W) := hb
  have HT : Hid (∀ X, Below W.heap.size W X → PowIs X) := fun X hX => (ht.below hb).below hX
  obtain ⟨k0, k1, k2⟩ := HK.out W (Below.refl _ _)
  rcases hp : objB (nm, ims, rs) with _ | _
  · have HS : Hid (showOb (nm, ims, rs) = []) := obj_not hp
    rw [hp] at HC1
    generalize showOb (nm, ims, rs) = out at HS ⊢
    clear h ht hp hW2 hb hA
    go_enter Tryz.func19, Tryz.ntmps19
    go_wp2_with fail
    refine Calls.mono HC1.out ?_
    rintro e w1 ⟨rfl, hb1⟩
    go_wp2
    go_ret
    exact ⟨by rw [HS.out]; rfl, HB.out.trans (hb1.mono HB.out.size)⟩
  · have HS : Hid (showOb (nm, ims, rs) = (hdLs kwObject nm ims ++ imLs rs).flatten) := by exact (by rw [obLs_flat (nm, ims, rs)]; exact if_pos hp : showOb (nm, ims, rs) = (hdLs kwObject nm ims ++ imLs rs).flatten)
    have HFl : Hid ((hdLs kwObject nm ims ++ imLs rs).flatten.length ≤ 100000) := by exact (by rw [obLs_flat (nm, ims, rs)]; exact showO_len hp : (hdLs kwObject nm ims ++ imLs rs).flatten.length ≤ 100000)
    have hP := objB_parts hp
    have hl8 := hP.l
    simp only at hl8
    have him := obj_imn hp
    simp only at him
    have hnm : nm.length ≤ 8 := (name_letters hP.nm).1.2
    have hil2 : (imLs rs).length ≤ 12864 := by
      have h1 := imLs_bd (obj_rts hp) (by simp only; omega) rs.length
      rw [List.take_of_length_le (Nat.le_refl _)] at h1
      exact h1
    have hil1 : (hdLs kwObject nm ims).length = ims.length + 1 := hdLs_len kwObject nm ims
    have HHd : Hid (∀ X, Below W.heap.size W X → Calls Tryz.prog 44 #[.string ⟨kwObject.toArray⟩, .string ⟨nm.toArray⟩, .slice ia ims.length ic] X fun e w' => ∃ v, e = .returned v ∧ w'.ownsRow X.heap.size 9 1 v (ims.length + 1) (strV (hdLs kwObject nm ims)) ∧ Below X.heap.size X w') := fun X hX => implHeadLines kwObject nm ia ic ims X (hW2.i.below hX) (by simp [kwObject]) (by omega) him.2 (by omega)
    have HLs : Hid (∀ X, Below W.heap.size W X → Calls Tryz.prog 31 #[.slice fa rs.length fc] X fun e w' => ∃ v, e = .returned v ∧ w'.ownsRow X.heap.size 9 1 v (imLs rs).length (strV (imLs rs)) ∧ Below X.heap.size X w') := fun X hX => implLinesOfRts fa rs.length fc rs X (hW2.r.c.below hX) (obj_rts hp) (by omega) (HT.out X hX)
    rw [hp] at HC1
    generalize showOb (nm, ims, rs) = out at HS ⊢
    obtain ⟨n, hnn⟩ : ∃ n, rs.length = n := ⟨_, rfl⟩
    obtain ⟨q, hqq⟩ : ∃ q, ims.length = q := ⟨_, rfl⟩
    rw [hnn] at HC1 hW HK HLs k2 hl8 ⊢
    rw [hqq] at HC1 hW HK HHd k1 him hil1 ⊢
    generalize hdLs kwObject nm ims = A at HS HFl hil1 HHd
    generalize imLs rs = C at HS HFl hil2 HLs
    unfold kwObject at HHd
    have hq6 : q ≤ 6 := him.1
    clear h ht hp hW2 hb hA hP him hnn hqq
    go_enter Tryz.func19, Tryz.ntmps19
    go_wp2_with fail
    refine Calls.mono HC1.out ?_
    rintro e w1 ⟨rfl, hb1⟩
    replace k0 := (HK.out _ hb1).1
    replace k1 := (HK.out _ hb1).2.1
    replace k2 := (HK.out _ hb1).2.2
    go_wp2_with fail
    refine Calls.mono (HHd.out _ hb1) ?_
    rintro e w2 ⟨v, rfl, hv, hb2⟩
    have hB2 := hb1.trans (hb2.mono hb1.size)
    replace k0 := (HK.out _ hB2).1
    replace k1 := (HK.out _ hB2).2.1
    replace k2 := (HK.out _ hB2).2.2
    go_wp2_with fail
    refine Calls.mono (HLs.out _ hB2) ?_
    rintro e w3 ⟨v2, rfl, hv2, hb3⟩
    have hB3 := hB2.trans (hb3.mono hB2.size)
    have hv3 := own_base (own_below hv hb3) hb1.size
    obtain ⟨i0, hi, hz0, hz1, hz2⟩ := info_parts info9
    obtain ⟨v', Y2, hrun, hown, hg, _⟩ := run_append_src (P := Tryz.prog) w3 W.heap.size 37 37 9 i0 _ 1 16 Tryz.underlying37 hi hz0 hz1 hz2 rfl (by decide) _ _ _ hv3 v2 C.length (strV C) (own_srcL hv2 (strV_oneL _)) (by unfold maxLen; omega) (by omega) hB3.size
    have HBY : Hid (Below W.heap.size W Y2) := hB3.grown hg hB3.size (fun q e => (hv3.lt q e).1)
    have hown2 : Y2.ownsRow W.heap.size 9 1 v' (A ++ C).length (strV (A ++ C)) := by
      rw [List.length_append, hil1, show strV (A ++ C) = strV A ++ strV C by simp [strV]]
      exact hown
    obtain ⟨_, av, cv, hve, hin⟩ := own_texts hown2
    have hlen3 : (A ++ C).length ≤ 1048576 := by rw [List.length_append]; omega
    have HJ : Hid (_) := implJoined av (A ++ C).length cv (A ++ C) Y2 hin (by have := HFl.out; omega) (by omega)
    subst hve
    generalize (A ++ C).flatten = fl at HS HJ
    generalize (A ++ C).length = nl at HJ hrun
    clear hv hv2 hv3 hown hown2 hin hb1 hb2 hb3 hB2 hB3 hg hi hz0 hz1 hz2 HFl hlen3
    go_wp2_with (at_builtin; refine wpList_append_run rfl (.tmp 12) (.tmp 15) 37 rfl _ _ _ rfl rfl hrun ?_; clear hrun)
    refine Calls.mono HJ.out ?_
    rintro e w7 ⟨rfl, hb7⟩
    have HB8 : Hid (Below w.heap.size w w7) := HB.out.trans ((HBY.out.trans (hb7.mono HBY.out.size)).mono HB.out.size)
    clear hb7
    go_wp2
    go_ret
    exact ⟨by rw [HS.out]; rfl, by first | exact HB8.out | (rw [hD]; exact HB8.out) | (rw [← hD]; exact HB8.out)⟩

end Go.Proofs.YtfhkiaogfopigaaGreatDoor
