/-
  Parts of one proof, one behind the other: ImgJ2, ImgJ3.
-/
import Derived.Test.YthjemelnbbpdcaaGreatDoorP32
import Derived.Test.YthjemelnbbpdcaaGreatDoorP18

/-! Contracts of chapter 14's landed code: the lines of a routine, ShowImage (written by gen_imgj2.py). -/
namespace Go.Proofs.YthjemelnbbpdcaaGreatDoor
open Go.RowKit

def rtLs (r : Rt) : List (List UInt8) := (rtLines r).map lineT
theorem rtLs_len (r : Rt) : (rtLs r).length = r.2.2.length + 1 := by unfold rtLs rtLines; simp
def rtLsK (r : Rt) (k : Nat) : List (List UInt8) := lineT (rtLn r) :: (r.2.2.take k).map (fun i => lineT (insLn i))
theorem rtLsK_step (r : Rt) (k : Nat) (hk : k < r.2.2.length) : rtLsK r (k + 1) = rtLsK r k ++ [lineT (insLn (r.2.2.getD k in0))] := by
  have e : r.2.2.getD k in0 = r.2.2[k] := by rw [List.getD_eq_getElem?_getD, List.getElem?_eq_getElem hk]; rfl
  unfold rtLsK
  rw [List.take_succ_eq_append_getElem hk, List.map_append, e]
  rfl
theorem rtLsK_all (r : Rt) : rtLsK r r.2.2.length = rtLs r := by
  unfold rtLsK rtLs rtLines
  rw [List.take_of_length_le (Nat.le_refl _)]
  simp
theorem rtLn_join (r : Rt) : joinBy 32 [kwRt, r.1, intL r.2.1, intL (r.2.2.length : Int)] = rtLn r := by simp [rtLn, joinBy]
def imLs (rs : List Rt) : List (List UInt8) := rs.flatMap rtLs
theorem imLs_flat (rs : List Rt) : (imLs rs).flatten = showI rs := by
  unfold imLs showI imLines termJ rtLs lineT
  rw [List.map_flatMap]
theorem imLs_take (rs : List Rt) (k : Nat) (hk : k < rs.length) : imLs (rs.take (k + 1)) = imLs (rs.take k) ++ rtLs (rs.getD k rt0) := by
  have e : rs.getD k rt0 = rs[k] := by rw [List.getD_eq_getElem?_getD, List.getElem?_eq_getElem hk]; rfl
  unfold imLs
  rw [List.take_succ_eq_append_getElem hk, List.flatMap_append, e]
  simp
theorem imLs_len (rs : List Rt) (h : ∀ r ∈ rs, rtB r = true) : (imLs rs).length ≤ rs.length * 201 := by
  induction rs with
  | nil => simp [imLs]
  | cons r rs ih =>
    have h1 := codeB_len (rtB_parts (h r (by simp))).2.2.1
    have h2 := ih (fun q hq => h q (by simp [hq]))
    unfold imLs at h2 ⊢
    rw [List.flatMap_cons, List.length_append, rtLs_len, List.length_cons]
    omega
theorem mem_getI {rs : List Rt} {k : Nat} (hk : k < rs.length) : rs.getD k rt0 ∈ rs := by rw [List.getD_eq_getElem?_getD, List.getElem?_eq_getElem hk]; exact List.getElem_mem hk
theorem mem_getC {c : List In13} {k : Nat} (hk : k < c.length) : c.getD k in0 ∈ c := by rw [List.getD_eq_getElem?_getD, List.getElem?_eq_getElem hk]; exact List.getElem_mem hk

/-- A routine's box, its code, the lines so far. -/
structure Ls14 (w X : World) (D : Nat) (nm : List UInt8) (ar : Int) (ca : Option Addr) (cc : Nat) (cd : List In13) (v : Value) (n : Nat) (ls : List (List UInt8)) : Prop where
  b : X.ownsRow w.heap.size 40 3 (.slice (some ⟨D, 0, none⟩) 1 1) 1 [.string ⟨nm.toArray⟩, .int .i64 ar, .slice ca cd.length cc]
  vv : X.ownsRow w.heap.size 9 1 v n (strV ls)
  h : Below w.heap.size w X
section
variable {w X Y : World} {D : Nat} {nm : List UInt8} {ar : Int} {ca : Option Addr} {cc : Nat} {cd : List In13} {v v' : Value} {n : Nat} {ls : List (List UInt8)}
theorem Ls14.below (h : Ls14 w X D nm ar ca cc cd v n ls) (hb : Below X.heap.size X Y) : Ls14 w Y D nm ar ca cc cd v n ls := ⟨own_below h.b hb, own_below h.vv hb, h.h.trans (hb.mono h.h.size)⟩
theorem Ls14.push (h : Ls14 w X D nm ar ca cc cd v n ls) (x : List UInt8) (hn : n ≤ 1000) : ∃ v' Y, (Builtin.append_ #[37, 37] 37 #[v, .slice (some ⟨X.heap.size, 0, none⟩) 1 1]).run Tryz.prog (X.alloc (.cells #[.string ⟨x.toArray⟩] 9)) = .ok v' Y ∧ Ls14 w Y D nm ar ca cc cd v' (n + 1) (ls ++ [x]) := by
  obtain ⟨v', Y, hrun, hv, hg⟩ := push_str x h.vv h.h.size (by omega)
  have h1 := h.below ((Below.refl _ X).alloc (Nat.le_refl _) (.cells #[.string ⟨x.toArray⟩] 9))
  exact ⟨v', Y, hrun, h1.b.kept hg (own_typesR h1.b h1.vv (by decide)), hv, h1.h.grown hg h1.h.size (fun q e => (h1.vv.lt q e).1)⟩
end
set_option maxHeartbeats 8000000 in
set_option maxRecDepth 100000 in
theorem implLinesOf (nm : List UInt8) (ar : Int) (ca : Option Addr) (cc : Nat) (cd : List In13) (w : World) (ht : PowIs w) (hr : rtB (nm, ar, cd) = true) (hin : InsIn w ca cd.length cd) :
    Calls Tryz.prog 19 #[.agg #[.string ⟨nm.toArray⟩, .int .i64 ar, .slice ca cd.length cc]] w fun e w' => ∃ v, e = .returned v ∧ w'.ownsRow w.heap.size 9 1 v (cd.length + 1) (strV (rtLs (nm, ar, cd))) ∧ Below w.heap.size w w' := by
  obtain ⟨hn13, har, hcb, _⟩ := rtB_parts hr
  simp only at hn13 har hcb
  have hcl := codeB_len hcb
  have hrl := rtLn_len hr
  have HP : Hid (∀ i ∈ cd, insP i) := codeB_ins hcb
  have HI : Hid (InsIn w ca cd.length cd) := hin
  have HT : Hid (∀ X, Below w.heap.size w X → PowIs X) := fun X hb => ht.below hb
  have HSt : Hid (∀ k, k < cd.length → rtLsK (nm, ar, cd) (k + 1) = rtLsK (nm, ar, cd) k ++ [lineT (insLn (cd.getD k in0))]) := fun k hk => rtLsK_step (nm, ar, cd) k hk
  have HAl : Hid (rtLsK (nm, ar, cd) cd.length = rtLs (nm, ar, cd)) := rtLsK_all (nm, ar, cd)
  have HF : Hid (∀ X, Below w.heap.size w X → Calls Tryz.prog 39 #[.int .i64 ar, .int .i64 10] X fun e w' => e = .returned (.string ⟨(intL ar).toArray⟩) ∧ Below X.heap.size X w') := fun X hb => fmtInt ar X (HT.out X hb) (by omega) (by omega)
  have HA : Hid (∀ X, Below w.heap.size w X → Calls Tryz.prog 40 #[.int .i64 (cd.length : Int)] X fun e w' => e = .returned (.string ⟨(intL (cd.length : Int)).toArray⟩) ∧ Below X.heap.size X w') := fun X hb => itoaInt (cd.length : Int) X (HT.out X hb) (by omega) (by omega)
  have HL : Hid (∀ (v : Value) (X : World) (B : Nat), X.ownsRow B 9 1 v 4 (strV [kwRt, nm, intL ar, intL (cd.length : Int)]) → Calls Tryz.prog 41 #[v] X fun e w' => e = .returned (.string ⟨(lineT (rtLn (nm, ar, cd))).toArray⟩) ∧ Below X.heap.size X w') := fun v X B hv => by
    have hj := rtLn_join (nm, ar, cd)
    simp only at hj
    have := implLineOf v [kwRt, nm, intL ar, intL (cd.length : Int)] B X hv (by simp) (by rw [hj]; omega)
    rw [hj] at this
    exact this
  have HL0 : Hid (rtLsK (nm, ar, cd) 0 = [lineT (rtLn (nm, ar, cd))]) := rfl
  have hb0 := World.ownsRow_lit (base := w.heap.size) (e := 40) (size := 3) w #[.string ⟨nm.toArray⟩, .int .i64 ar, .slice ca cd.length cc] 1 (Nat.le_refl _) (by decide) rfl
  obtain ⟨W, hW⟩ : ∃ W, w.alloc (.cells #[.string ⟨nm.toArray⟩, .int .i64 ar, .slice ca cd.length cc] 40) = W := ⟨_, rfl⟩
  rw [hW] at hb0
  have hB : Below w.heap.size w W := by rw [← hW]; exact (Below.refl _ _).alloc (Nat.le_refl _) _
  have hsW : W.heap.size = w.heap.size + 1 := by rw [← hW]; simp
  have HBW : Hid (Below w.heap.size w W) := hB
  obtain ⟨D, hD⟩ : ∃ D, w.heap.size = D := ⟨_, rfl⟩
  have HB0 : Hid (∀ X, Below W.heap.size W X → X.ownsRow w.heap.size 40 3 (.slice (some ⟨D, 0, none⟩) 1 1) 1 [.string ⟨nm.toArray⟩, .int .i64 ar, .slice ca cd.length cc]) := fun X hX => by
    have := own_below hb0 hX
    rw [← hD]
    exact this
  have HG : Hid (∀ X, Below W.heap.size W X → X.cell? ⟨D, 1, none⟩ = some (.int .i64 ar) ∧ X.cell? ⟨D, 2, none⟩ = some (.slice ca cd.length cc) ∧ X.cell? ⟨D, 0, none⟩ = some (.string ⟨nm.toArray⟩)) := fun X hX => ⟨(HB0.out X hX).cells rfl 1 _ rfl, (HB0.out X hX).cells rfl 2 _ rfl, (HB0.out X hX).cells rfl 0 _ rfl⟩
  have HWX : Hid (∀ X, Below W.heap.size W X → Below w.heap.size w X) := fun X hX => hB.trans (hX.mono hB.size)
  generalize lineT (rtLn (nm, ar, cd)) = q0 at HL HL0
  generalize rtLs (nm, ar, cd) = out at HAl ⊢
  generalize hKK : rtLsK (nm, ar, cd) = KK at HSt HAl HL0
  generalize intL ar = sa at HF HL
  generalize intL (cd.length : Int) = sl at HA HL
  obtain ⟨m, hm⟩ : ∃ m, cd.length = m := ⟨_, rfl⟩
  have HM : Hid (cd.length = m) := hm
  rw [hm] at HI HSt HAl HA HG HB0 hcl hW ⊢
  clear hin ht hr hn13 har hcb hb0 hB hKK hrl hm
  go_enter Tryz.func19, Tryz.ntmps19
  go_wp2_with fail
  refine wp_region_held_drew (S := fun X => Below W.heap.size W X) (by kernel_rfl) ⟨rfl, rfl, rfl, Nat.le_refl _, fun _ _ => rfl⟩ (fun hHeld => ?_)
  refine wpAnyH_take (i := 0) (oi := ⟨some 8, _, _, _, _, _⟩) (v := ?v1) rfl (by kernel_rfl) (by kernel_rfl) (by kernel_rfl) (fun _ _ _ h => h) (Or.inl ⟨by rfl, ?hy1⟩) (by assumption) ?rest1
  case hy1 => (intro wq hSw; have e0 := (HG.out wq hSw).1; have e1 := (HG.out wq hSw).2.1; clear hSw; first | (go_simp; done) | (go_simp; with_reducible rfl))
  simp only [Act.put, List.setIfInBounds_toArray, List.set_cons_zero, List.set_cons_succ]
  refine wpAnyH_take (i := 1) (oi := ⟨some 9, _, _, _, _, _⟩) (v := ?v2) rfl (by kernel_rfl) (by kernel_rfl) (by kernel_rfl) (fun _ _ _ h => h) (Or.inl ⟨by rfl, ?hy2⟩) (by assumption) ?rest2
  case hy2 => (intro wq hSw; have e0 := (HG.out wq hSw).1; have e1 := (HG.out wq hSw).2.1; clear hSw; first | (go_simp; done) | (go_simp; with_reducible rfl))
  simp only [Act.put, List.setIfInBounds_toArray, List.set_cons_zero, List.set_cons_succ]
  refine wpAnyH_take (i := 3) (oi := ⟨some 11, _, _, _, _, _⟩) (v := ?v3) rfl (by kernel_rfl) (by kernel_rfl) (by kernel_rfl) (fun _ _ _ h => h) (Or.inl ⟨by rfl, ?hy3⟩) (by assumption) ?rest3
  case hy3 => (intro wq hSw; have e0 := (HG.out wq hSw).1; have e1 := (HG.out wq hSw).2.1; clear hSw; first | (go_simp; done) | (go_simp; with_reducible rfl))
  simp only [Act.put, List.setIfInBounds_toArray, List.set_cons_zero, List.set_cons_succ]
  refine wpAnyH_take (i := 4) (oi := ⟨some 12, _, _, _, _, _⟩) (v := ?v4) rfl (by kernel_rfl) (by kernel_rfl) (by kernel_rfl) (fun _ _ _ h => h) (Or.inl ⟨by rfl, ?hy4⟩) (by assumption) ?rest4
  case hy4 => (intro wq hSw; have e0 := (HG.out wq hSw).1; have e1 := (HG.out wq hSw).2.1; clear hSw; first | (go_simp; done) | (go_simp; with_reducible rfl))
  simp only [Act.put, List.setIfInBounds_toArray, List.set_cons_zero, List.set_cons_succ]
  refine wpAnyH_take (i := 5) (oi := ⟨some 13, _, _, _, _, _⟩) (v := ?v5) rfl (by kernel_rfl) (by kernel_rfl) (by kernel_rfl) (fun _ _ _ h => h) (Or.inl ⟨by rfl, ?hy5⟩) (by assumption) ?rest5
  case hy5 => (intro wq hSw; have e0 := (HG.out wq hSw).1; have e1 := (HG.out wq hSw).2.1; clear hSw; first | (go_simp; done) | (go_simp; with_reducible rfl))
  simp only [Act.put, List.setIfInBounds_toArray, List.set_cons_zero, List.set_cons_succ]
  refine wpAnyH_ready (rs := [2]) (by kernel_rfl) (by simp) ?_
  refine AllReadyH.cons rfl (fun K hK => ?_) AllReadyH.nil
  go_simp
  refine Calls.mono (HF.out _ (HWX.out _ hHeld)) ?_
  rintro e W1 ⟨rfl, hb1⟩
  dsimp only
  refine hK.out _ _ (by exact hHeld.trans (hb1.mono hHeld.size)) (fun hHeld => ?_)
  clear hK K
  (try simp only [Act.put, List.setIfInBounds_toArray, List.set_cons_zero, List.set_cons_succ])
  refine wpAnyH_ready (rs := [6]) (by kernel_rfl) (by simp) ?_
  refine AllReadyH.cons rfl (fun K hK => ?_) AllReadyH.nil
  go_simp
  refine Calls.mono (HA.out _ (HWX.out _ hHeld)) ?_
  rintro e W2 ⟨rfl, hb2⟩
  dsimp only
  refine hK.out _ _ (by exact hHeld.trans (hb2.mono hHeld.size)) (fun hHeld => ?_)
  clear hK K
  (try simp only [Act.put, List.setIfInBounds_toArray, List.set_cons_zero, List.set_cons_succ])
  refine wpAnyH_take (i := 7) (oi := ⟨some 3, _, _, _, _, _⟩) (v := ?v6) rfl (by kernel_rfl) (by kernel_rfl) (by kernel_rfl) (fun _ _ _ h => h) (Or.inl ⟨by rfl, ?hy6⟩) (by assumption) ?rest6
  case hy6 => (intro wq hSw; clear hSw; first | (go_simp; done) | (go_simp; with_reducible rfl))
  simp only [Act.put, List.setIfInBounds_toArray, List.set_cons_zero, List.set_cons_succ]
  refine wpAnyH_take (i := 8) (oi := ⟨some 4, _, _, _, _, _⟩) (v := ?v7) rfl (by kernel_rfl) (by kernel_rfl) (by kernel_rfl) (fun _ _ _ h => h) (Or.inl ⟨by rfl, ?hy7⟩) (by assumption) ?rest7
  case hy7 => (intro wq hSw; clear hSw; first | (go_simp; done) | (go_simp; with_reducible rfl))
  simp only [Act.put, List.setIfInBounds_toArray, List.set_cons_zero, List.set_cons_succ]
  have HB5 : Hid (Below W.heap.size W W2) := hHeld
  refine wpAnyH_done (by kernel_rfl) ?_ _
  clear hHeld hb1 hb2
  have k0 := (HG.out _ HB5.out).2.2
  have ho1 := World.ownsRow_lit (base := W2.heap.size) (e := 9) (size := 1) W2 #[.string ⟨#[114, 111, 117, 116, 105, 110, 101]⟩, .string ⟨nm.toArray⟩, .string ⟨sa.toArray⟩, .string ⟨sl.toArray⟩] 4 (Nat.le_refl _) (by decide) rfl
  have HC1 : Hid (_) := HL.out _ _ _ ho1
  have hbA : Below W2.heap.size W2 (W2.alloc (.cells #[.string ⟨#[114, 111, 117, 116, 105, 110, 101]⟩, .string ⟨nm.toArray⟩, .string ⟨sa.toArray⟩, .string ⟨sl.toArray⟩] 9)) := (Below.refl _ _).alloc (Nat.le_refl _) _
  clear ho1
  go_wp2_with fail
  refine Calls.mono HC1.out ?_
  rintro e w2 ⟨rfl, hb2⟩
  have hB2 : Below W.heap.size W w2 := HB5.out.trans ((hbA.trans (hb2.mono hbA.size)).mono HB5.out.size)
  have hBA : Below w2.heap.size w2 (w2.alloc (.cells #[.string ⟨q0.toArray⟩] 9)) := (Below.refl _ _).alloc (Nat.le_refl _) _
  have hB3 : Below W.heap.size W (w2.alloc (.cells #[.string ⟨q0.toArray⟩] 9)) := hB2.trans (hBA.mono hB2.size)
  have ho2 := World.ownsRow_lit (base := w.heap.size) (e := 9) (size := 1) w2 #[.string ⟨q0.toArray⟩] 1 (by have := hB2.size; omega) (by decide) rfl
  obtain ⟨V3, hV3⟩ : ∃ V, w2.alloc (.cells #[.string ⟨q0.toArray⟩] 9) = V := ⟨_, rfl⟩
  rw [hV3] at hB3 ho2 hBA
  have k2 := (HG.out _ hB3).2.1
  have HS0 : Hid (Ls14 w V3 D nm ar ca cc cd (.slice (some ⟨w2.heap.size, 0, none⟩) 1 1) (0 + 1) (KK 0)) := ⟨by rw [HM.out]; exact HB0.out _ hB3, by rw [HL0.out]; exact ho2, HWX.out _ hB3⟩
  clear HL HF HA HC1 hb2 hB2 hB3 ho2 hBA hbA k0 HB5 HL0
  go_wp2
  go_loopw [5, 25] (fun vv iv wx => ∃ k : Nat, iv = .int .i64 (k : Int) ∧ k ≤ m ∧ Hid (Ls14 w wx D nm ar ca cc cd vv (k + 1) (KK k))) (fun _ iv _ => m - (intOf iv).toNat)
  case atStart => exact ⟨0, rfl, Nat.zero_le _, HS0⟩
  case round =>
    obtain ⟨k, rfl, hk, sr⟩ := hrel
    clear HS0 k2
    by_cases hlt : (k : Int) < (m : Int)
    · obtain ⟨b, off, rfl, hbl, c0, c1, c2, c3, c4⟩ := (HI.out.below sr.out.h).2 k (by omega)
      have hst := HSt.out k (by omega)
      have hip := HP.out _ (mem_getC (k := k) (by rw [HM.out]; omega))
      obtain ⟨i, hi⟩ : ∃ i, cd.getD k in0 = i := ⟨_, rfl⟩
      rw [hi] at c0 c1 c2 c3 c4 hst hip
      have hb4 : Below wr.heap.size wr (wr.alloc (.cells #[.int .i64 i.1, .int .i64 i.2.1, .int .i64 i.2.2.1, .int .i64 i.2.2.2.1, .string ⟨i.2.2.2.2.toArray⟩] 57)) := (Below.refl _ _).alloc (Nat.le_refl _) _
      have s4 := sr.out.below hb4
      have HC : Hid (_) := implShownIns i _ (HT.out _ s4.h) hip
      unfold insVal at HC
      generalize lineT (insLn i) = sx at HC hst
      have HTK : Hid (KK (k + 1) = KK k ++ [sx]) := hst
      obtain ⟨kd, R, A, Bq, nq⟩ := i
      simp only at c0 c1 c2 c3 c4 HC s4 hb4
      have S4 : Hid (_) := s4
      clear hst hip hi hb4 s4 sr
      go_wp2_with fail
      refine Calls.mono HC.out ?_
      rintro e w5 ⟨rfl, hb5⟩
      obtain ⟨v', Y, hrun, s6⟩ := (S4.out.below hb5).push sx (by omega)
      have HS6 : Hid (Ls14 w Y D nm ar (some ⟨b, off, none⟩) cc cd v' (k + 1 + 1) (KK (k + 1))) := by exact (by rw [HTK.out]; exact s6 : Ls14 w Y D nm ar (some ⟨b, off, none⟩) cc cd v' (k + 1 + 1) (KK (k + 1)))
      clear s6 hb5 S4 HTK c0 c1 c2 c3 c4
      go_wp2_with (at_builtin; refine wpList_append_run rfl (.tmp 29) (.tmp 32) 37 rfl _ _ _ rfl rfl hrun ?_; clear hrun)
      go_roundw
      case rel => exact ⟨k + 1, by go_num, by omega, HS6⟩
      case measure => simp [intOf]; omega
    · obtain rfl : k = m := by omega
      have HE : Hid (wr.ownsRow w.heap.size 9 1 u5 (k + 1) (strV out) ∧ Below w.heap.size w wr) := by
        have h1 := sr.out.vv
        rw [HAl.out] at h1
        exact ⟨h1, sr.out.h⟩
      clear sr
      go_wp2
      go_ret
      exact ⟨_, rfl, by first | exact HE.out.1 | (rw [hD]; exact HE.out.1) | (rw [← hD]; exact HE.out.1), by first | exact HE.out.2 | (rw [hD]; exact HE.out.2) | (rw [← hD]; exact HE.out.2)⟩

end Go.Proofs.YthjemelnbbpdcaaGreatDoor

/-! Contracts of chapter 14's landed code: ShowImage. -/
namespace Go.Proofs.YthjemelnbbpdcaaGreatDoor
open Go.RowKit

theorem strV_oneL (ls : List (List UInt8)) : ∀ u ∈ strV ls, u.oneCell' = true := by
  intro u hu
  unfold strV at hu
  obtain ⟨l, _, rfl⟩ := List.mem_map.1 hu
  rfl
theorem imLs_bd {rs : List Rt} (h : imageB rs = true) (k : Nat) : (imLs (rs.take k)).length ≤ 12864 := by
  have h1 := imLs_len (rs.take k) (fun r hr => image_rts h r (List.mem_of_mem_take hr))
  have h2 : (rs.take k).length ≤ 64 := by rw [List.length_take]; have := (of_decide_eq_true h).2.2; omega
  omega
set_option maxHeartbeats 8000000 in
set_option maxRecDepth 100000 in
theorem implShowImage (a : Option Addr) (len cap : Nat) (rs : List Rt) (w : World) (h : RtOk w a len cap rs) (ht : PowIs w) :
    Calls Tryz.prog 7 #[.agg #[.slice a len cap]] w fun e w' => e = .returned (.string ⟨(showIm rs).toArray⟩) ∧ Below w.heap.size w w' := by
  obtain rfl : rs.length = len := h.c.1
  obtain ⟨W, hW⟩ : ∃ W, w.alloc (.cells #[.slice a rs.length cap] 26) = W := ⟨_, rfl⟩
  have hb : Below w.heap.size w W := by rw [← hW]; exact (Below.refl _ _).alloc (Nat.le_refl _) _
  have hsW : W.heap.size = w.heap.size + 1 := by rw [← hW]; simp
  have hR : W.heap[w.heap.size]? = some (.cells #[.slice a rs.length cap] 26) := by rw [← hW]; exact heap_alloc_new w _
  have hW2 := h.below hb
  have HC1 : Hid (_) := implImageOk a rs.length cap rs W hW2
  have HI : Hid (RtsCap W a rs.length cap rs) := hW2.c
  have HT : Hid (∀ X, Below w.heap.size w X → PowIs X) := fun X hX => ht.below hX
  have HBW : Hid (Below w.heap.size w W) := hb
  have c0 : W.cell? ⟨w.heap.size, 0, none⟩ = some (.slice a rs.length cap) := by rw [cell_of_row _ _ _ _ _ _ hR]; rfl
  obtain ⟨D, hD⟩ : ∃ D, w.heap.size = D := ⟨_, rfl⟩
  rcases hib : imageB rs with _ | _
  · have HR : Hid (showIm rs = []) := by exact (by unfold showIm; rw [hib]; rfl : showIm rs = [])
    rw [hib] at HC1
    generalize showIm rs = out at HR ⊢
    obtain ⟨n, hnn⟩ : ∃ n, rs.length = n := ⟨_, rfl⟩
    rw [hnn] at HC1 hW c0 ⊢
    rw [hD] at c0 hsW HBW ⊢
    clear h hW2 hb ht hib hnn HI hR
    go_enter Tryz.func7, Tryz.ntmps7
    go_wp2_with fail
    refine Calls.mono HC1.out ?_
    rintro e w1 ⟨rfl, hb1⟩
    go_wp2
    go_ret
    exact ⟨by rw [HR.out]; rfl, HBW.out.trans (hb1.mono (by omega))⟩
  · have HR : Hid (showIm rs = (imLs rs).flatten) := by exact (by unfold showIm; rw [hib, imLs_flat]; rfl : showIm rs = (imLs rs).flatten)
    have HFl : Hid ((imLs rs).flatten.length ≤ 400000) := by exact (by rw [imLs_flat]; exact showI_len hib : (imLs rs).flatten.length ≤ 400000)
    have HLn : Hid (∀ k, (imLs (rs.take k)).length ≤ 12864) := fun k => imLs_bd hib k
    have HTk : Hid (∀ k, k < rs.length → imLs (rs.take (k + 1)) = imLs (rs.take k) ++ rtLs (rs.getD k rt0)) := fun k hk => imLs_take rs k hk
    have HAl : Hid (rs.take rs.length = rs) := List.take_of_length_le (Nat.le_refl _)
    have HOk : Hid (∀ k, k < rs.length → rtB (rs.getD k rt0) = true) := fun k hk => image_rts hib _ (mem_getI hk)
    rw [hib] at HC1
    generalize showIm rs = out at HR ⊢
    obtain ⟨n, hnn⟩ : ∃ n, rs.length = n := ⟨_, rfl⟩
    have hn64 : n ≤ 64 := by rw [← hnn]; exact (of_decide_eq_true hib).2.2
    have HN : Hid (rs.length = n) := hnn
    rw [hnn] at HC1 hW c0 HI HTk HOk HAl ⊢
    rw [hD] at c0 hsW
    clear h hW2 hb ht hib hnn hR
    go_enter Tryz.func7, Tryz.ntmps7
    go_wp2_with fail
    refine Calls.mono HC1.out ?_
    rintro e w1 ⟨rfl, hb1⟩
    have hbA : Below w1.heap.size w1 (w1.alloc (.cells #[] 9)) := (Below.refl _ _).alloc (Nat.le_refl _) _
    have hB2 : Below W.heap.size W (w1.alloc (.cells #[] 9)) := hb1.trans (hbA.mono hb1.size)
    have ho := World.ownsRow_lit (base := W.heap.size) (e := 9) (size := 1) w1 #[] 0 hb1.size (by decide) rfl
    obtain ⟨V2, hV2⟩ : ∃ V, w1.alloc (.cells #[] 9) = V := ⟨_, rfl⟩
    rw [hV2] at hB2 ho
    have d0 : V2.cell? ⟨D, 0, none⟩ = some (.slice a n cap) := (hB2.cell (p := ⟨D, 0, none⟩) (by show D < _; omega)).trans c0
    have HS0 : Hid (V2.ownsRow W.heap.size 9 1 (.slice (some ⟨w1.heap.size, 0, none⟩) 0 0) (imLs (rs.take 0)).length (strV (imLs (rs.take 0))) ∧ Below W.heap.size W V2) := ⟨ho, hB2⟩
    clear hb1 hbA hB2 ho c0 HC1
    go_wp2
    go_loopw [3, 13] (fun vv iv wx => ∃ k : Nat, iv = .int .i64 (k : Int) ∧ k ≤ n ∧ Hid (wx.ownsRow W.heap.size 9 1 vv (imLs (rs.take k)).length (strV (imLs (rs.take k))) ∧ Below W.heap.size W wx)) (fun _ iv _ => n - (intOf iv).toNat)
    case atStart => exact ⟨0, rfl, Nat.zero_le _, HS0⟩
    case round =>
      obtain ⟨k, rfl, hk, sr⟩ := hrel
      clear HS0 d0
      by_cases hlt : (k : Int) < (n : Int)
      · obtain ⟨b, off, rfl, hbl, c0, c1, ca, cl, cc, c2, hin, hcc, hcm⟩ := (HI.out.below sr.out.2).2.2.2 k (by omega)
        have hok := HOk.out k (by omega)
        have htk := HTk.out k (by omega)
        have hlk := HLn.out k
        have hlk2 := HLn.out (k + 1)
        obtain ⟨r, hrr⟩ : ∃ r, rs.getD k rt0 = r := ⟨_, rfl⟩
        rw [hrr] at c0 c1 hin hok htk
        rw [htk, List.length_append] at hlk2
        obtain ⟨nm, ar, cd⟩ := r
        simp only at c0 c1 hin
        obtain rfl : cd.length = cl := hin.1
        have hlr := rtLs_len (nm, ar, cd)
        simp only at hlr
        obtain ⟨Y, hY⟩ : ∃ Y, wr.alloc (.cells #[.string ⟨nm.toArray⟩, .int .i64 ar, .slice ca cd.length cc] 40) = Y := ⟨_, rfl⟩
        have hbY : Below wr.heap.size wr Y := by rw [← hY]; exact (Below.refl _ _).alloc (Nat.le_refl _) _
        have hRY : Y.heap[wr.heap.size]? = some (.cells #[.string ⟨nm.toArray⟩, .int .i64 ar, .slice ca cd.length cc] 40) := by rw [← hY]; exact heap_alloc_new wr _
        obtain ⟨y0, y1, y2, _⟩ := threeR (Below.refl _ Y) (lt_of_block hRY) hRY
        have hBY : Below W.heap.size W Y := sr.out.2.trans (hbY.mono sr.out.2.size)
        have HC : Hid (_) := implLinesOf nm ar ca cc cd Y (HT.out _ (HBW.out.trans (hBY.mono HBW.out.size))) hok (hin.below hbY)
        have HV : Hid (Y.ownsRow W.heap.size 9 1 u3 (imLs (rs.take k)).length (strV (imLs (rs.take k)))) := own_below sr.out.1 hbY
        have HBY : Hid (Below W.heap.size W Y) := hBY
        generalize rtLs (nm, ar, cd) = ns at HC htk hlr hlk2
        have HTK : Hid (imLs (rs.take (k + 1)) = imLs (rs.take k) ++ ns ∧ ns.length = cd.length + 1) := ⟨htk, hlr⟩
        obtain ⟨m, hm⟩ : ∃ m, cd.length = m := ⟨_, rfl⟩
        rw [hm] at HC HTK c2 hY y2
        have hmn : (imLs (rs.take k)).length + (m + 1) ≤ 12864 := by have h1 := HTK.out.2; omega
        clear hrr hok htk hlr hlk hlk2 hin hcc hcm hbY hBY sr hm hRY
        go_wp2_with fail
        refine Calls.mono HC.out ?_
        rintro e w5 ⟨v2, rfl, hv2, hb5⟩
        obtain ⟨i0, hi, hz0, hz1, hz2⟩ := info_parts info9
        have hv5 := own_below HV.out hb5
        obtain ⟨v', Y2, hrun, hown, hg, _⟩ := run_append_src (P := Tryz.prog) w5 W.heap.size 37 37 9 i0 _ 1 16 Tryz.underlying37 hi hz0 hz1 hz2 rfl (by decide) _ _ _ hv5 v2 (m + 1) (strV ns) (own_srcL hv2 (strV_oneL _)) (by unfold maxLen; omega) (by omega) (by have := HBY.out.size; have := hb5.size; omega)
        have HS6 : Hid (Y2.ownsRow W.heap.size 9 1 v' (imLs (rs.take (k + 1))).length (strV (imLs (rs.take (k + 1)))) ∧ Below W.heap.size W Y2) := by
          have h5 : Below W.heap.size W w5 := HBY.out.trans (hb5.mono HBY.out.size)
          refine ⟨?_, h5.grown hg h5.size (fun q e => (hv5.lt q e).1)⟩
          rw [HTK.out.1, List.length_append, HTK.out.2, show strV (imLs (rs.take k) ++ ns) = strV (imLs (rs.take k)) ++ strV ns by simp [strV]]
          exact hown
        clear hown hg hv5 hv2 hb5 HV HBY HTK c0 c1 c2 hi hz0 hz1 hz2
        go_wp2_with (at_builtin; refine wpList_append_run rfl (.tmp 17) (.tmp 19) 37 rfl _ _ _ rfl rfl hrun ?_; clear hrun)
        go_roundw
        case rel => exact ⟨k + 1, by go_num, by omega, HS6⟩
        case measure => simp [intOf]; omega
      · obtain rfl : k = n := by omega
        have hV := sr.out.1
        rw [HAl.out] at hV
        obtain ⟨_, av, cv, hve, hin⟩ := own_texts hV
        have hl1 := HLn.out k
        rw [HAl.out] at hl1
        have HJ : Hid (_) := implJoined av (imLs rs).length cv (imLs rs) wr hin (by have := HFl.out; omega) (by omega)
        have HB6 : Hid (Below W.heap.size W wr) := sr.out.2
        subst hve
        generalize (imLs rs).flatten = fl at HR HJ
        generalize (imLs rs).length = nl at HJ ⊢
        clear hV hin sr hl1
        go_wp2_with fail
        refine Calls.mono HJ.out ?_
        rintro e w7 ⟨rfl, hb7⟩
        have HB8 : Hid (Below w.heap.size w w7) := HBW.out.trans ((HB6.out.trans (hb7.mono HB6.out.size)).mono HBW.out.size)
        clear hb7
        go_wp2
        go_ret
        exact ⟨by rw [HR.out]; rfl, by first | exact HB8.out | (rw [hD]; exact HB8.out) | (rw [← hD]; exact HB8.out)⟩

end Go.Proofs.YthjemelnbbpdcaaGreatDoor
