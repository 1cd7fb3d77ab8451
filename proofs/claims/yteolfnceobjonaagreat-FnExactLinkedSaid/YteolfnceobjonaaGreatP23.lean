/-
  Parts of one proof, one behind the other: ProjS4, LsA, LsB, PushR.
-/
import Derived.Test.YteolfnceobjonaaGreatP22
import Derived.Test.YteolfnceobjonaaGreatP16
import Derived.Test.YteolfnceobjonaaGreatP13
import Derived.Test.YteolfnceobjonaaGreatP14
import Derived.Test.YteolfnceobjonaaGreatP15
import Derived.Test.YteolfnceobjonaaGreatP10
import Derived.Test.YteolfnceobjonaaGreatP8

/-! The contracts of chapter 8's specification: l1Put. -/
namespace Go.Proofs.YteolfnceobjonaaGreat
open Go.RowKit

/-- A row of texts behind a row of texts. -/
theorem app8 {X : World} {B : Nat} {v x : Value} {n m : Nat} {ls ms : List (List UInt8)} (hv : X.ownsRow B 9 1 v n (strV ls)) (hb : B ≤ X.heap.size) (hs : Src X x m 1 (strV ms)) (hn : n + m ≤ 4194304) :
    ∃ v' Y, (Builtin.append_ #[24, 24] 24 #[v, x]).run Tryz.prog X = .ok v' Y ∧ Y.ownsRow B 9 1 v' (n + m) (strV (ls ++ ms)) ∧ X.grownBy Y v.ownBlock := by
  obtain ⟨i0, hi, hz0, hz1, hz2⟩ := info_parts info9
  obtain ⟨v', Y, hrun, hown, hg, _⟩ := run_append_src (P := Tryz.prog) X B 24 24 9 i0 _ 1 16 Tryz.underlying24 hi hz0 hz1 hz2 rfl (by decide) _ _ _ hv x m (strV ms) hs (by unfold maxLen; omega) (by omega) hb
  have e : strV (ls ++ ms) = strV ls ++ strV ms := by simp [strV]
  exact ⟨v', Y, hrun, by rw [e]; exact hown, hg⟩
theorem TextsIn.src8 {w : World} {a : Option Addr} {len cap : Nat} {ts : List (List UInt8)} (h : TextsIn w a len ts) (hc : a = none → cap = 0) : Src w (.slice a len cap) len 1 (strV ts) := by
  have hl : (strV ts).length = len := by simp [strV, h.1]
  refine ⟨by omega, fun u hu => ?_, ?_⟩
  · simp only [strV, List.mem_map] at hu
    obtain ⟨l, _, rfl⟩ := hu
    rfl
  · rcases Nat.eq_zero_or_pos len with h0 | h0
    · cases a with
      | none => left; rw [hc rfl, h0]; exact ⟨rfl, rfl⟩
      | some ad => right; exact ⟨ad, cap, rfl, fun j u hu => by rw [List.getElem?_eq_none (by omega)] at hu; cases hu⟩
    · obtain ⟨b, off, rfl, _, hcell⟩ := h.at h0
      right
      refine ⟨_, cap, rfl, fun j u hu => ?_⟩
      have hj : j < len := by have := (List.getElem?_eq_some_iff.1 hu).1; omega
      have e : (⟨b, off, none⟩ : Addr).add j = ⟨b, off + j, none⟩ := by unfold Addr.add; split <;> simp_all
      rw [e, hcell j hj]
      have h2 : (strV ts)[j]? = some (.string ⟨(ts.getD j []).toArray⟩) := by simp [strV, List.getD, List.getElem?_eq_getElem (show j < ts.length by rw [h.1]; exact hj)]
      rw [← h2]; exact hu
/-- Parts of a row of texts that a call owns, as 'append' reads them. -/
theorem src_take {w : World} {B g cap : Nat} {ts : List (List UInt8)} (h : w.ownsRow B 9 1 (.slice (some ⟨g, 0, none⟩) ts.length cap) ts.length (strV ts)) {k : Nat} (hk : k ≤ ts.length) : Src w (.slice (some ⟨g, 0, none⟩) k cap) k 1 (strV (ts.take k)) := by
  refine ⟨by simp [strV]; omega, fun u hu => ?_, Or.inr ⟨_, cap, rfl, fun j u hu => ?_⟩⟩
  · simp only [strV, List.mem_map] at hu
    obtain ⟨l, _, rfl⟩ := hu
    rfl
  · have hj : j < k := by
      have := (List.getElem?_eq_some_iff.1 hu).1
      simp [strV] at this
      omega
    have e : (⟨g, 0, none⟩ : Addr).add j = ⟨g, j, none⟩ := by unfold Addr.add; split <;> simp_all
    rw [e, World.ownsRow.cellAt h j (by omega)]
    rw [← strV_take, List.getElem?_take, if_pos hj] at hu
    exact hu
theorem src_drop {w : World} {B g cap : Nat} {ts : List (List UInt8)} (h : w.ownsRow B 9 1 (.slice (some ⟨g, 0, none⟩) ts.length cap) ts.length (strV ts)) {k : Nat} (hk : k ≤ ts.length) : Src w (.slice (if cap = k then some ⟨g, 0, none⟩ else some ⟨g, k, none⟩) (ts.length - k) (cap - k)) (ts.length - k) 1 (strV (ts.drop k)) := by
  have hcap := own_cap h
  have hone : ∀ u ∈ strV (ts.drop k), u.oneCell' = true := fun u hu => by
    simp only [strV, List.mem_map] at hu
    obtain ⟨l, _, rfl⟩ := hu
    rfl
  by_cases hc : cap = k
  · rw [if_pos hc]
    have hd : ts.drop k = [] := List.drop_eq_nil_of_le (by omega)
    rw [hd]
    exact ⟨by simp [strV]; omega, fun u hu => by simp [strV] at hu, Or.inr ⟨_, _, rfl, fun j u hu => by simp [strV] at hu⟩⟩
  · rw [if_neg hc]
    refine ⟨by simp [strV], hone, Or.inr ⟨_, cap - k, rfl, fun j u hu => ?_⟩⟩
    have hj : j < ts.length - k := by
      have := (List.getElem?_eq_some_iff.1 hu).1
      simpa [strV] using this
    have e : (⟨g, k, none⟩ : Addr).add j = ⟨g, k + j, none⟩ := by unfold Addr.add; split <;> simp_all
    rw [e, World.ownsRow.cellAt h (k + j) (by omega)]
    have e2 : (strV (ts.drop k))[j]? = (strV ts)[k + j]? := by simp [strV, List.getElem?_drop]
    rw [← e2]
    exact hu

set_option maxHeartbeats 1000000 in
set_option maxRecDepth 100000 in
theorem specPut (B g cap : Nat) (ts : List (List UInt8)) (s : List UInt8) (w : World) (h : w.ownsRow B 9 1 (.slice (some ⟨g, 0, none⟩) ts.length cap) ts.length (strV ts)) (hB : B ≤ w.heap.size) (hlen : ts.length ≤ 1048576) :
    Calls Tryz.prog 64 #[.slice (some ⟨g, 0, none⟩) ts.length cap, .string ⟨s.toArray⟩] w fun e w' => ∃ g' c', e = .returned (.slice (some ⟨g', 0, none⟩) (put8 ts s).length c') ∧ w'.ownsRow B 9 1 (.slice (some ⟨g', 0, none⟩) (put8 ts s).length c') (put8 ts s).length (strV (put8 ts s)) ∧ Below w.heap.size w w' := by
  have hcap := own_cap h
  have HO : Hid (w.ownsRow B 9 1 (.slice (some ⟨g, 0, none⟩) ts.length cap) ts.length (strV ts)) := h
  have hc1 : (ts.length : Int) ≤ (cap : Int) := by omega
  go_enter Tryz.func64, Tryz.ntmps64
  go_wp2
  go_loopw [5] (fun iv wr => ∃ k : Nat, iv = .int .i64 (k : Int) ∧ k ≤ ts.length ∧ Hid (∀ i, i < k → Op.bytesLess (ts.getD i []) s = true) ∧ w = wr) (fun iv _ => ts.length - (intOf iv).toNat)
  case atStart => exact ⟨0, rfl, by omega, (fun i hi => by omega), rfl⟩
  case round =>
    obtain ⟨k, rfl, hk, HA, rfl⟩ := hrel
    -- the way on where the text is not there
    have HW : Hid (low8 s ts = k → ts[k]? ≠ some s → ∃ v1 Y1 v2 Y2 v3 Y3 g' c' Y4, (Builtin.append_ #[24, 24] 24 #[.slice (some ⟨w.heap.size, 0, none⟩) 0 0, .slice (if cap = k then some ⟨g, 0, none⟩ else some ⟨g, k, none⟩) (ts.length - k) (cap - k)]).run Tryz.prog (w.alloc (.cells #[] 9)) = .ok v1 Y1 ∧
        (Builtin.append_ #[24, 24] 24 #[.slice (some ⟨Y1.heap.size, 0, none⟩) 0 0, .slice (some ⟨g, 0, none⟩) k cap]).run Tryz.prog (Y1.alloc (.cells #[] 9)) = .ok v2 Y2 ∧
        (Builtin.append_ #[24, 24] 24 #[v2, .slice (some ⟨Y2.heap.size, 0, none⟩) 1 1]).run Tryz.prog (Y2.alloc (.cells #[.string ⟨s.toArray⟩] 9)) = .ok v3 Y3 ∧
        (Builtin.append_ #[24, 24] 24 #[v3, v1]).run Tryz.prog Y3 = .ok (.slice (some ⟨g', 0, none⟩) (put8 ts s).length c') Y4 ∧ Y4.ownsRow B 9 1 (.slice (some ⟨g', 0, none⟩) (put8 ts s).length c') (put8 ts s).length (strV (put8 ts s)) ∧ Below w.heap.size w Y4) := fun hlow hno => by
      have hput : put8 ts s = ts.take k ++ s :: ts.drop k := by unfold put8; rw [hlow, if_neg hno]
      have hb1 : Below w.heap.size w (w.alloc (.cells #[] 9)) := (Below.refl _ _).alloc (Nat.le_refl _) _
      have ho1 := (World.ownsRow_lit (base := w.heap.size) (e := 9) (size := 1) w #[] 0 (Nat.le_refl _) (by decide) rfl)
      obtain ⟨v1, Y1, hr1, hv1, hg1⟩ := app8 (ls := []) ho1 hb1.size (src_drop (own_below HO.out hb1) hk) (by omega)
      have hbY1 : Below w.heap.size w Y1 := hb1.grown hg1 hb1.size (fun q e => by simp [Value.ownBlock] at e; omega)
      have hb2 : Below Y1.heap.size Y1 (Y1.alloc (.cells #[] 9)) := (Below.refl _ _).alloc (Nat.le_refl _) _
      have ho2 := (World.ownsRow_lit (base := Y1.heap.size) (e := 9) (size := 1) Y1 #[] 0 (Nat.le_refl _) (by decide) rfl)
      obtain ⟨v2, Y2, hr2, hv2, hg2⟩ := app8 (ls := []) ho2 hb2.size (src_take (own_below (own_below HO.out hbY1) hb2) hk) (by omega)
      have hbY2 : Below Y1.heap.size Y1 Y2 := hb2.grown hg2 hb2.size (fun q e => by simp [Value.ownBlock] at e; omega)
      obtain ⟨v3, Y3, hr3, hv3, hg3⟩ := push_text s hv2 hbY2.size (by simp; omega)
      have hbY3 : Below Y1.heap.size Y1 Y3 := hbY2.grown hg3 hbY2.size (fun q e => (hv2.lt q e).1)
      have hv1Y3 := own_below hv1 hbY3
      obtain ⟨_, a1, c1, rfl, hin1⟩ := own_texts hv1
      have hsrc1 : Src Y3 (.slice a1 (0 + (ts.length - k)) c1) (0 + (ts.length - k)) 1 (strV ([] ++ ts.drop k)) := by
        obtain ⟨_, a2, c2, e2, hin2⟩ := own_texts hv1Y3
        injection e2 with e2a _ e2c
        subst e2a e2c
        refine hin2.src8 (fun e => ?_)
        rcases own_forms hv1Y3 with ⟨e3, _, _⟩ | ⟨g3, cp3, e3⟩
        · injection e3
        · injection e3 with e3; rw [e] at e3; cases e3
      obtain ⟨v4, Y4, hr4, hv4, hg4⟩ := app8 hv3 hbY3.size hsrc1 (by omega)
      have e4 : [] ++ ts.take k ++ [s] ++ ([] ++ ts.drop k) = put8 ts s := by rw [hput]; simp
      have e5 : 0 + k + 1 + (0 + (ts.length - k)) = (put8 ts s).length := by rw [hput]; simp; omega
      rw [e4, e5] at hv4
      obtain ⟨g', c', rfl⟩ := own_some hv4 (by rw [← e5]; omega)
      exact ⟨_, Y1, v2, Y2, v3, Y3, g', c', Y4, hr1, hr2, hr3, hr4, own_base hv4 (Nat.le_trans hB hbY1.size), hbY1.trans ((hbY3.grown hg4 hbY3.size (fun q e => (hv3.lt q e).1)).mono hbY1.size)⟩
    by_cases hkl : (k : Int) < (ts.length : Int)
    · have hk2 : k < ts.length := by omega
      have c0 := str_cellsD HO.out rfl k hk2
      have hat : ts[k]? = some (ts.getD k []) := by simp [List.getD, hk2]
      have hlow := low8_at s ts k HA.out hk
      obtain ⟨x, hx⟩ : ∃ x, ts.getD k [] = x := ⟨_, rfl⟩
      rw [hx] at c0 hat hlow
      rcases hb : Op.bytesLess x s with _ | _
      · have hl := hlow (Or.inr hb)
        by_cases hxs : x = s
        · subst hxs
          have HPt : Hid (put8 ts x = ts) := by exact (by unfold put8; rw [hl, if_pos hat] : put8 ts x = ts)
          have hself : (x == x) = true := by simp
          clear HW HA hat hlow hx hl
          go_wp2
          go_ret
          exact ⟨g, cap, by rw [HPt.out]; rfl, by rw [HPt.out]; exact HO.out, Below.refl _ _⟩
        · obtain ⟨v1, Y1, v2, Y2, v3, Y3, g', c', Y4, hr1, hr2, hr3, hr4, hv4, hbY4⟩ := HW.out hl (by rw [hat]; intro e; injection e with e; exact hxs e)
          have hne : (x == s) = false := by rw [beq_eq_false_iff_ne]; exact hxs
          have HV4 : Hid (Y4.ownsRow B 9 1 (.slice (some ⟨g', 0, none⟩) (put8 ts s).length c') (put8 ts s).length (strV (put8 ts s))) := hv4
          rw [if_neg (show ¬ cap = k by omega)] at hr1
          clear HW HA hat hlow hx hl hv4 h
          have hkc : (k : Int) ≤ (cap : Int) := by omega
          go_wp2_with (at_builtin; first | (refine wpList_append_run rfl (.tmp 34) (.tmp 37) 24 rfl _ _ _ rfl rfl hr1 ?_; clear hr1) | (refine wpList_append_run rfl (.tmp 39) (.tmp 42) 24 rfl _ _ _ rfl rfl hr2 ?_; clear hr2) | (refine wpList_append_run rfl (.tmp 43) (.tmp 45) 24 rfl _ _ _ rfl rfl hr3 ?_; clear hr3) | (refine wpList_append_run rfl (.tmp 46) (.tmp 47) 24 rfl _ _ _ rfl rfl hr4 ?_; clear hr4))
          go_ret
          exact ⟨g', c', rfl, HV4.out, hbY4⟩
      · have HA2 : Hid (∀ i, i < k + 1 → Op.bytesLess (ts.getD i []) s = true) := fun i hi => by
          rcases Nat.lt_or_ge i k with h | h
          · exact HA.out i h
          · obtain rfl : i = k := by omega
            rw [hx]; exact hb
        clear HW HA hat hlow hx
        go_wp2
        go_roundw
        case rel => exact ⟨k + 1, by go_num, by omega, HA2, trivial⟩
        case measure => simp [intOf]; omega
    · obtain rfl : k = ts.length := by omega
      obtain ⟨v1, Y1, v2, Y2, v3, Y3, g', c', Y4, hr1, hr2, hr3, hr4, hv4, hbY4⟩ := HW.out (low8_at s ts _ HA.out hk (Or.inl rfl)) (by simp)
      have HV4 : Hid (Y4.ownsRow B 9 1 (.slice (some ⟨g', 0, none⟩) (put8 ts s).length c') (put8 ts s).length (strV (put8 ts s))) := hv4
      clear HW HA hv4
      by_cases hcl : cap = ts.length
      · subst hcl
        rw [if_pos rfl] at hr1
        simp only [Nat.sub_self] at hr1
        clear h
        go_wp2_with (at_builtin; first | (refine wpList_append_run rfl (.tmp 34) (.tmp 37) 24 rfl _ _ _ rfl rfl hr1 ?_; clear hr1) | (refine wpList_append_run rfl (.tmp 39) (.tmp 42) 24 rfl _ _ _ rfl rfl hr2 ?_; clear hr2) | (refine wpList_append_run rfl (.tmp 43) (.tmp 45) 24 rfl _ _ _ rfl rfl hr3 ?_; clear hr3) | (refine wpList_append_run rfl (.tmp 46) (.tmp 47) 24 rfl _ _ _ rfl rfl hr4 ?_; clear hr4))
        go_ret
        exact ⟨g', c', rfl, HV4.out, hbY4⟩
      · rw [if_neg hcl, Nat.sub_self] at hr1
        clear h
        have hcl2 : ¬ (cap : Int) = (ts.length : Int) := by omega
        go_wp2_with (at_builtin; first | (refine wpList_append_run rfl (.tmp 34) (.tmp 37) 24 rfl _ _ _ rfl rfl hr1 ?_; clear hr1) | (refine wpList_append_run rfl (.tmp 39) (.tmp 42) 24 rfl _ _ _ rfl rfl hr2 ?_; clear hr2) | (refine wpList_append_run rfl (.tmp 43) (.tmp 45) 24 rfl _ _ _ rfl rfl hr3 ?_; clear hr3) | (refine wpList_append_run rfl (.tmp 46) (.tmp 47) 24 rfl _ _ _ rfl rfl hr4 ?_; clear hr4))
        go_ret
        exact ⟨g', c', rfl, HV4.out, hbY4⟩

end Go.Proofs.YteolfnceobjonaaGreat

/-! Contracts of chapter 16's specification: l16Ok, l16Defined, Defined. -/
namespace Go.Proofs.YteolfnceobjonaaGreat
open Go.RowKit

set_option maxHeartbeats 4000000 in
set_option maxRecDepth 100000 in
theorem specOk16 (a : Option Addr) (len cap : Nat) (os : List Ob) (w : World) (hin : ObjsIn w a len os) (hlen : len ≤ 1048576) (hsh : ShortOs os) :
    Calls Tryz.prog 33 #[.slice a len cap] w fun e w' => e = .returned (.bool (objsB os)) ∧ Below w.heap.size w w' := by
  have hl := hin.1
  have HI : Hid (ObjsIn w a len os) := hin
  have HS : Hid (ShortOs os) := hsh
  have HB0 : Hid (Below w.heap.size w w) := Below.refl _ w
  have HNo : Hid (∀ j, j < len → objB (os.getD j ob0) = false → objsB os = false) := fun j hj e => objsB_no (by rw [hl]; exact hj) e
  have HYes : Hid ((∀ j, j < len → objB (os.getD j ob0) = true) → objsB os = decide ((len : Int) ≤ 8)) := fun hj => by
    by_cases h8 : len ≤ 8
    · rw [objsB_yes (by rw [hl]; exact h8) (fun j hj' => hj j (by rw [← hl]; exact hj')), decide_eq_true (by omega)]
    · rw [objsB_far (by rw [hl]; exact h8), decide_eq_false (by omega)]
  generalize objsB os = res at HNo HYes ⊢
  clear hin hsh hl
  go_enter Tryz.func33, Tryz.ntmps33
  go_wp2
  go_loopw [3] (fun iv wr => ∃ k : Nat, iv = .int .i64 (k : Int) ∧ k ≤ len ∧ Hid (∀ j, j < k → objB (os.getD j ob0) = true) ∧ Hid (Below w.heap.size w wr)) (fun iv _ => len - (intOf iv).toNat)
  case atStart => exact ⟨0, rfl, Nat.zero_le _, (fun j hj => absurd hj (Nat.not_lt_zero _)), HB0⟩
  case round =>
    obtain ⟨k, rfl, hk, HA, HB⟩ := hrel
    clear HB0
    by_cases hlt : (k : Int) < (len : Int)
    · obtain ⟨b, off, rfl, hbl, c0, ia, il, ic, fa, fl, fc, c1, c2, hii, hff⟩ := (HI.out.below HB.out).2 k (by omega)
      have hts := HS.out k
      have hno := HNo.out k (by omega)
      have hst : objB (os.getD k ob0) = true → ∀ j, j < k + 1 → objB (os.getD j ob0) = true := fun h j hj => by
        rcases Nat.lt_or_ge j k with g | g
        · exact HA.out j g
        · obtain rfl : j = k := by omega
          exact h
      obtain ⟨o, ho⟩ : ∃ o, os.getD k ob0 = o := ⟨_, rfl⟩
      rw [ho] at c0 hii hff hts hno hst
      obtain ⟨nm, ims, rs⟩ := o
      simp only at c0 hii hff hts
      obtain rfl : ims.length = il := hii.1
      obtain rfl : rs.length = fl := hff.1
      have HC : Hid (_) := specObjectOk nm ia ims.length ic fa rs.length fc ims rs wr hii hff hts.2.1 hts.2.2.2.1 hts.1 hts.2.2.1 hts.2.2.2.2
      rcases hb1 : objB (nm, ims, rs) with _ | _
      · have HR : Hid (res = false) := hno hb1
        rw [hb1] at HC
        clear hno hst ho hb1 hii hff hts HA
        go_wp2_with fail
        refine Calls.mono HC.out ?_
        rintro e w1 ⟨rfl, hb1⟩
        have HB1 : Hid (Below w.heap.size w w1) := HB.out.trans (hb1.mono HB.out.size)
        clear hb1 HC
        go_wp2
        go_ret
        exact ⟨by rw [HR.out]; rfl, HB1.out⟩
      · have HS2 : Hid (∀ j, j < k + 1 → objB (os.getD j ob0) = true) := hst hb1
        rw [hb1] at HC
        clear hno hst ho hb1 hii hff hts HA
        go_wp2_with fail
        refine Calls.mono HC.out ?_
        rintro e w1 ⟨rfl, hb1⟩
        have HB1 : Hid (Below w.heap.size w w1) := HB.out.trans (hb1.mono HB.out.size)
        clear hb1 HC
        go_wp2
        go_roundw
        case rel => exact ⟨k + 1, by go_num, by omega, HS2, HB1⟩
        case measure => simp [intOf]; omega
    · obtain rfl : k = len := by omega
      have HR : Hid (res = decide ((k : Int) ≤ 8)) := HYes.out HA.out
      go_wp2
      go_ret
      exact ⟨by rw [HR.out]; rfl, HB.out⟩

set_option maxHeartbeats 8000000 in
set_option maxRecDepth 100000 in
theorem specDef16 (a : Option Addr) (len cap : Nat) (os : List Ob) (w : World) (hin : ObjsIn w a len os) (hB : objsB os = true) :
    Calls Tryz.prog 34 #[.slice a len cap] w fun e w' => ∃ g c, e = .returned (.slice (some ⟨g, 0, none⟩) (def16 (rts16 os)).length c) ∧ w'.ownsRow w.heap.size 9 1 (.slice (some ⟨g, 0, none⟩) (def16 (rts16 os)).length c) (def16 (rts16 os)).length (strV (def16 (rts16 os))) ∧ Below w.heap.size w w' := by
  have hl := hin.1
  have h8 : len ≤ 8 := by have := (objsB_parts hB).2; omega
  have HI : Hid (ObjsIn w a len os) := hin
  have HOb : Hid (∀ k, k < len → rts16 (os.take (k + 1)) = rts16 (os.take k) ++ (os.getD k ob0).2.2 ∧ (os.getD k ob0).2.2.length ≤ 8 ∧ (rts16 (os.take k)).length ≤ 64) := fun k hk => by
    have hm := (objsB_parts hB).1
    refine ⟨rts16_take os k (by omega), (objB_parts (hm (os.getD k ob0) (by rw [List.getD_eq_getElem?_getD, List.getElem?_eq_getElem (by omega)]; exact List.getElem_mem (by omega)))).l.2, ?_⟩
    have := (rts16_len (os := os.take k) (fun o ho => hm o (List.mem_of_mem_take ho))).2
    rw [List.length_take] at this
    omega
  have HAll : Hid (rts16 (os.take len) = rts16 os) := by exact (by rw [List.take_of_length_le (by omega)] : rts16 (os.take len) = rts16 os)
  have HX0 : Hid ((w.alloc (.cells #[] 9)).ownsRow w.heap.size 9 1 (.slice (some ⟨w.heap.size, 0, none⟩) 0 0) 0 (strV []) ∧ Below w.heap.size w (w.alloc (.cells #[] 9))) := ⟨World.ownsRow_lit w #[] 0 (Nat.le_refl _) (by decide) rfl, (Below.refl _ _).alloc (Nat.le_refl _) _⟩
  clear hin hB hl
  go_enter Tryz.func34, Tryz.ntmps34
  go_wp2
  go_loopw [3, 4] (fun vv iv wr => ∃ (k g c : Nat) (ts : List (List UInt8)), iv = .int .i64 (k : Int) ∧ k ≤ len ∧ vv = .slice (some ⟨g, 0, none⟩) ts.length c ∧ Hid (ts = def16 (rts16 (os.take k))) ∧ Hid (wr.ownsRow w.heap.size 9 1 (.slice (some ⟨g, 0, none⟩) ts.length c) ts.length (strV ts) ∧ Below w.heap.size w wr)) (fun _ iv _ => len - (intOf iv).toNat)
  case atStart => exact ⟨0, w.heap.size, 0, [], rfl, Nat.zero_le _, rfl, (by simp [def16, rts16, nms16, set16] : ([] : List (List UInt8)) = def16 (rts16 (os.take 0))), HX0⟩
  case round =>
    obtain ⟨k, g, c, ts, rfl, hk, rfl, HM, HX⟩ := hrel
    clear HX0
    by_cases hlt : (k : Int) < (len : Int)
    · obtain ⟨hst, hle, h64⟩ := HOb.out k (by omega)
      obtain ⟨b, off, rfl, hbl, d0, ia, il, ic, fa, fl, fc, d1, d2, hii, hff⟩ := HI.out.2 k (by omega)
      obtain ⟨o, ho⟩ : ∃ o, os.getD k ob0 = o := ⟨_, rfl⟩
      rw [ho] at hst hle hff
      obtain ⟨nm, ims, rs⟩ := o
      simp only at hst hle hff
      have c2 := (HX.out.2.cell (p := ⟨b, off + k * 3 + 2, none⟩) hbl).trans d2
      obtain rfl : rs.length = fl := hff.1
      have HF : Hid (RtsIn w fa rs.length rs) := hff
      have HD2 : Hid (w.cell? ⟨b, off + k * 3 + 2, none⟩ = some (.slice fa rs.length fc)) := d2
      obtain ⟨qs, hqs⟩ : ∃ qs, rts16 (os.take k) = qs := ⟨_, rfl⟩
      rw [hqs] at hst h64
      rw [hqs] at HM
      have HTk : Hid (∀ j, j < rs.length → def16 (qs ++ rs.take (j + 1)) = put8 (def16 (qs ++ rs.take j)) (rs.getD j rt0).1) := fun j hj => by
        have hg : rs.getD j rt0 = rs[j] := by rw [List.getD_eq_getElem?_getD, List.getElem?_eq_getElem hj]; rfl
        rw [hg, List.take_succ_eq_append_getElem hj, ← List.append_assoc]
        unfold def16 nms16
        rw [List.map_append]
        exact set16_snoc _ _
      have HEn : Hid (def16 (qs ++ rs.take rs.length) = def16 (rts16 (os.take (k + 1)))) := by exact (by rw [List.take_of_length_le (Nat.le_refl _), hst] : def16 (qs ++ rs.take rs.length) = def16 (rts16 (os.take (k + 1))))
      have HZ : Hid (ts = def16 (qs ++ rs.take 0)) := by exact (by rw [List.take_zero, List.append_nil]; exact HM.out : ts = def16 (qs ++ rs.take 0))
      have HBd : Hid (∀ j, j ≤ rs.length → (def16 (qs ++ rs.take j)).length ≤ 1000) := fun j hj => by
        have h1 := set16_len (nms16 (qs ++ rs.take j))
        have h2 : (nms16 (qs ++ rs.take j)).length ≤ 72 := by unfold nms16; rw [List.length_map, List.length_append, List.length_take]; omega
        unfold def16; omega
      obtain ⟨m, hm⟩ : ∃ m, rs.length = m := ⟨_, rfl⟩
      rw [hm] at c2 HF HD2 HTk HEn hle HBd
      clear hst ho hff hqs HM hm d0 d1 d2 hii
      go_wp2
      go_loopw [3, 5] (fun vv jv wx => ∃ (j g c : Nat) (us : List (List UInt8)), jv = .int .i64 (j : Int) ∧ j ≤ m ∧ vv = .slice (some ⟨g, 0, none⟩) us.length c ∧ Hid (us = def16 (qs ++ rs.take j)) ∧ Hid (wx.ownsRow w.heap.size 9 1 (.slice (some ⟨g, 0, none⟩) us.length c) us.length (strV us) ∧ Below w.heap.size w wx)) (fun _ jv _ => m - (intOf jv).toNat)
      case atStart => exact ⟨0, g, c, ts, rfl, Nat.zero_le _, rfl, HZ, HX⟩
      case round =>
        clear HX c2 HZ
        obtain ⟨j, g, c, us, rfl, hj, rfl, HM, HX⟩ := hrel
        have c2 := (HX.out.2.cell (p := ⟨b, off + k * 3 + 2, none⟩) hbl).trans HD2.out
        by_cases hjm : (j : Int) < (m : Int)
        · obtain ⟨b2, off2, rfl, hbl2, e0, _⟩ := (HF.out.below HX.out.2).2 j (by omega)
          have hst := HTk.out j (by omega)
          have hbd := HBd.out j (by omega)
          rw [← HM.out] at hst hbd
          obtain ⟨rn, hrn⟩ : ∃ rn, (rs.getD j rt0).1 = rn := ⟨_, rfl⟩
          rw [hrn] at hst e0
          have HC : Hid (_) := specPut w.heap.size g c us rn wr HX.out.1 HX.out.2.size (by omega)
          have HSt : Hid (def16 (qs ++ rs.take (j + 1)) = put8 us rn) := hst
          have HB : Hid (Below w.heap.size w wr) := HX.out.2
          clear hst hrn HX HM
          go_wp2_with fail
          refine Calls.mono HC.out ?_
          rintro e w1 ⟨g1, c1, rfl, hr1, hb1⟩
          have HX2 : Hid (w1.ownsRow w.heap.size 9 1 (.slice (some ⟨g1, 0, none⟩) (put8 us rn).length c1) (put8 us rn).length (strV (put8 us rn)) ∧ Below w.heap.size w w1) := ⟨hr1, HB.out.trans (hb1.mono HB.out.size)⟩
          clear hr1 hb1 HC
          generalize put8 us rn = vs at HX2 HSt
          go_wp2
          go_roundw
          case rel => exact ⟨j + 1, g1, c1, vs, by go_num, by omega, rfl, HSt.out.symm, HX2⟩
          case measure => simp [intOf]; omega
        · obtain rfl : j = m := by omega
          have HM2 : Hid (us = def16 (rts16 (os.take (k + 1)))) := by exact (by rw [← HEn.out]; exact HM.out : us = def16 (rts16 (os.take (k + 1))))
          go_wp2
          go_roundw
          case rel => exact ⟨k + 1, g, c, us, by go_num, by omega, rfl, HM2, HX⟩
          case measure => simp [intOf]; omega
    · obtain rfl : k = len := by omega
      have HM2 : Hid (ts = def16 (rts16 os)) := by exact (by rw [← HAll.out]; exact HM.out : ts = def16 (rts16 os))
      go_wp2
      go_ret
      exact ⟨g, c, by rw [← HM2.out]; rfl, by rw [← HM2.out]; exact HX.out.1, HX.out.2⟩

end Go.Proofs.YteolfnceobjonaaGreat

/-! Contracts of chapter 16's specification: l16Missing, Missing. -/
namespace Go.Proofs.YteolfnceobjonaaGreat
open Go.RowKit

theorem getD_mem16 {α : Type} (l : List α) (d : α) {j : Nat} (hj : j < l.length) : l.getD j d ∈ l := by rw [List.getD_eq_getElem?_getD, List.getElem?_eq_getElem hj]; exact List.getElem_mem hj
theorem outN_append (rs : List Rt) (xs ys : List Fc) : outN rs (xs ++ ys) = outN rs xs ++ outN rs ys := by unfold outN; rw [List.map_append, List.filter_append]
theorem mis16_step (rs : List Rt) (cs : List Fc) (c : Fc) : mis16 rs (cs ++ [c]) = if c.1 ∈ nms16 rs then mis16 rs cs else put8 (mis16 rs cs) c.1 := by
  unfold mis16
  rw [outN_append]
  by_cases h : c.1 ∈ nms16 rs
  · rw [if_pos h]
    have : outN rs [c] = [] := by unfold outN; simp [h]
    rw [this, List.append_nil]
  · rw [if_neg h]
    have : outN rs [c] = [c.1] := by unfold outN; simp [h]
    rw [this, set16_snoc]
set_option maxHeartbeats 16000000 in
set_option maxRecDepth 100000 in
theorem specMis16 (a : Option Addr) (len cap : Nat) (os : List Ob) (w : World) (hin : ObjsIn w a len os) (hB : objsB os = true) :
    Calls Tryz.prog 42 #[.slice a len cap] w fun e w' => ∃ g c, e = .returned (.slice (some ⟨g, 0, none⟩) (mis16 (rts16 os) (calls16 (rts16 os))).length c) ∧ w'.ownsRow w.heap.size 9 1 (.slice (some ⟨g, 0, none⟩) (mis16 (rts16 os) (calls16 (rts16 os))).length c) (mis16 (rts16 os) (calls16 (rts16 os))).length (strV (mis16 (rts16 os) (calls16 (rts16 os)))) ∧ Below w.heap.size w w' := by
  have hl := hin.1
  have h8 : len ≤ 8 := by have := (objsB_parts hB).2; omega
  have HI : Hid (ObjsIn w a len os) := hin
  have HC0 : Hid (_) := specDef16 a len cap os w hin hB
  have HDm : Hid (∀ s, s ∈ def16 (rts16 os) ↔ s ∈ nms16 (rts16 os)) := fun s => set16_mem
  have HDl : Hid ((def16 (rts16 os)).length ≤ 1000) := by
    have h1 := set16_len (nms16 (rts16 os))
    have h2 := (rts16_len (objsB_parts hB).1).2
    have h3 : (nms16 (rts16 os)).length = (rts16 os).length := by unfold nms16; rw [List.length_map]
    show (def16 (rts16 os)).length ≤ 1000
    unfold def16; omega
  have HOb : Hid (∀ k, k < len → rts16 (os.take (k + 1)) = rts16 (os.take k) ++ (os.getD k ob0).2.2 ∧ (os.getD k ob0).2.2.length ≤ 8 ∧ (∀ j, j < (os.getD k ob0).2.2.length → ((os.getD k ob0).2.2.getD j rt0).2.2.length ≤ 200)) := fun k hk => by
    have hm := (objsB_parts hB).1
    have hmm : os.getD k ob0 ∈ os := by rw [List.getD_eq_getElem?_getD, List.getElem?_eq_getElem (by omega)]; exact List.getElem_mem (by omega)
    have ho := hm _ hmm
    refine ⟨rts16_take os k (by omega), (objB_parts ho).l.2, fun j hj => ?_⟩
    have hr := objB_rt ho (getD_mem16 (os.getD k ob0).2.2 rt0 hj)
    exact (codeB_len (rtB_parts hr).2.2.1).2
  have HAll : Hid (rts16 (os.take len) = rts16 os) := by exact (by rw [List.take_of_length_le (by omega)] : rts16 (os.take len) = rts16 os)
  have HZ0 : Hid (rts16 (os.take 0) = []) := by exact (by simp [rts16] : rts16 (os.take 0) = [])
  obtain ⟨ds, hds⟩ : ∃ ds, def16 (rts16 os) = ds := ⟨_, rfl⟩
  rw [hds] at HC0 HDm HDl
  obtain ⟨RS, hRS⟩ : ∃ RS, rts16 os = RS := ⟨_, rfl⟩
  rw [hRS] at HDm HAll ⊢
  clear hin hB hl hds hRS
  go_enter Tryz.func42, Tryz.ntmps42
  go_wp2_with fail
  refine Calls.mono HC0.out ?_
  rintro e w0 ⟨gd, cd0, rfl, hrd, hbd0⟩
  have HD0 : Hid (∀ X, Below w0.heap.size w0 X → TextsIn X (some ⟨gd, 0, none⟩) ds.length ds) := fun X hX => by
    obtain ⟨a', c', e', _, ht⟩ := own_textsO (own_below hrd hX)
    injection e' with e1 _ _
    subst e1
    exact ht
  have HX0 : Hid ((w0.alloc (.cells #[] 9)).ownsRow w0.heap.size 9 1 (.slice (some ⟨w0.heap.size, 0, none⟩) 0 0) 0 (strV []) ∧ Below w0.heap.size w0 (w0.alloc (.cells #[] 9))) := ⟨World.ownsRow_lit w0 #[] 0 (Nat.le_refl _) (by decide) rfl, (Below.refl _ _).alloc (Nat.le_refl _) _⟩
  have HB0 : Hid (Below w.heap.size w w0) := hbd0
  obtain ⟨nd, hnd⟩ : ∃ nd, ds.length = nd := ⟨_, rfl⟩
  have hndl := HDl.out
  rw [hnd] at HD0 hndl ⊢
  have HI0 : Hid (ObjsIn w0 a len os) := HI.out.below hbd0
  clear HC0 hrd hbd0 hnd HI HDl
  go_wp2
  go_loopw [4, 5] (fun vv iv wr => ∃ (k g c : Nat) (ts : List (List UInt8)), iv = .int .i64 (k : Int) ∧ k ≤ len ∧ vv = .slice (some ⟨g, 0, none⟩) ts.length c ∧ ts.length ≤ 1600 * k ∧ Hid (ts = mis16 RS (calls16 (rts16 (os.take k)))) ∧ Hid (wr.ownsRow w0.heap.size 9 1 (.slice (some ⟨g, 0, none⟩) ts.length c) ts.length (strV ts) ∧ Below w0.heap.size w0 wr)) (fun _ iv _ => len - (intOf iv).toNat)
  case atStart => exact ⟨0, w0.heap.size, 0, [], rfl, Nat.zero_le _, rfl, by simp, (by rw [HZ0.out]; simp [mis16, outN, calls16, set16] : ([] : List (List UInt8)) = mis16 RS (calls16 (rts16 (os.take 0)))), HX0⟩
  case round =>
    obtain ⟨k, g, c, ts, rfl, hk, rfl, htl, HM, HX⟩ := hrel
    clear HX0
    by_cases hlt : (k : Int) < (len : Int)
    · obtain ⟨hst, hle, hcl⟩ := HOb.out k (by omega)
      obtain ⟨b, off, rfl, hbl, d0, ia, il, ic, fa, fl, fc, d1, d2, hii, hff⟩ := HI0.out.2 k (by omega)
      obtain ⟨o, ho⟩ : ∃ o, os.getD k ob0 = o := ⟨_, rfl⟩
      rw [ho] at hst hle hff hcl
      obtain ⟨nm, ims, rs⟩ := o
      simp only at hst hle hff hcl
      have c2 := (HX.out.2.cell (p := ⟨b, off + k * 3 + 2, none⟩) hbl).trans d2
      obtain rfl : rs.length = fl := hff.1
      have HF : Hid (RtsIn w0 fa rs.length rs) := hff
      have HD2 : Hid (w0.cell? ⟨b, off + k * 3 + 2, none⟩ = some (.slice fa rs.length fc)) := d2
      have HCL : Hid (∀ j, j < rs.length → (rs.getD j rt0).2.2.length ≤ 200) := hcl
      obtain ⟨qs, hqs⟩ : ∃ qs, rts16 (os.take k) = qs := ⟨_, rfl⟩
      rw [hqs] at hst HM
      have HTk : Hid (∀ j, j < rs.length → calls16 (qs ++ rs.take (j + 1)) = calls16 (qs ++ rs.take j) ++ calR (rs.getD j rt0).2.2) := fun j hj => by
        rw [calls16_append, calls16_append, calls16_take rs j hj, List.append_assoc]
      have HEn : Hid (calls16 (qs ++ rs.take rs.length) = calls16 (rts16 (os.take (k + 1)))) := by exact (by rw [List.take_of_length_le (Nat.le_refl _), hst] : calls16 (qs ++ rs.take rs.length) = calls16 (rts16 (os.take (k + 1))))
      have HZ : Hid (ts = mis16 RS (calls16 (qs ++ rs.take 0))) := by exact (by rw [List.take_zero, List.append_nil]; exact HM.out : ts = mis16 RS (calls16 (qs ++ rs.take 0)))
      obtain ⟨m, hm⟩ : ∃ m, rs.length = m := ⟨_, rfl⟩
      rw [hm] at c2 HF HD2 HTk HEn hle HCL
      clear hst ho hff hqs HM hm d0 d1 d2 hii hcl
      go_wp2
      go_loopw [4, 6] (fun vv jv wx => ∃ (j g c : Nat) (us : List (List UInt8)), jv = .int .i64 (j : Int) ∧ j ≤ m ∧ vv = .slice (some ⟨g, 0, none⟩) us.length c ∧ us.length ≤ 1600 * k + 200 * j ∧ Hid (us = mis16 RS (calls16 (qs ++ rs.take j))) ∧ Hid (wx.ownsRow w0.heap.size 9 1 (.slice (some ⟨g, 0, none⟩) us.length c) us.length (strV us) ∧ Below w0.heap.size w0 wx)) (fun _ jv _ => m - (intOf jv).toNat)
      case atStart => exact ⟨0, g, c, ts, rfl, Nat.zero_le _, rfl, by omega, HZ, HX⟩
      case round =>
        clear HX c2 HZ htl
        obtain ⟨j, g, c, us, rfl, hj, rfl, hul, HM, HX⟩ := hrel
        have c2 := (HX.out.2.cell (p := ⟨b, off + k * 3 + 2, none⟩) hbl).trans HD2.out
        by_cases hjm : (j : Int) < (m : Int)
        · obtain ⟨b2, off2, hfa, hbl2, e0, e1, ca, cl, cc, e2, hins⟩ := HF.out.2 j (by omega)
          subst hfa
          have f2 := (HX.out.2.cell (p := ⟨b2, off2 + j * 3 + 2, none⟩) hbl2).trans e2
          have hst := HTk.out j (by omega)
          have hcl := HCL.out j (by omega)
          obtain ⟨cd, hcd⟩ : ∃ cd, (rs.getD j rt0).2.2 = cd := ⟨_, rfl⟩
          rw [hcd] at hst hcl hins
          obtain rfl : cd.length = cl := hins.1
          have HIn : Hid (InsIn w0 ca cd.length cd) := hins
          obtain ⟨cs, hcs⟩ : ∃ cs, calls16 (qs ++ rs.take j) = cs := ⟨_, rfl⟩
          rw [hcs] at hst HM
          have HTk2 : Hid (∀ i, i < cd.length → calR (cd.take (i + 1)) = if (cd.getD i in0).1 = 9 then calR (cd.take i) ++ [((cd.getD i in0).2.2.2.2, (cd.getD i in0).2.2.1)] else calR (cd.take i)) := fun i hi => calR_take cd i hi
          have HEn2 : Hid (calls16 (qs ++ rs.take (j + 1)) = cs ++ calR (cd.take cd.length)) := by exact (by rw [List.take_of_length_le (Nat.le_refl _), hst] : calls16 (qs ++ rs.take (j + 1)) = cs ++ calR (cd.take cd.length))
          have HZ2 : Hid (us = mis16 RS (cs ++ calR (cd.take 0))) := by exact (by rw [show calR (cd.take 0) = [] by simp [calR], List.append_nil]; exact HM.out : us = mis16 RS (cs ++ calR (cd.take 0)))
          obtain ⟨n, hn⟩ : ∃ n, cd.length = n := ⟨_, rfl⟩
          rw [hn] at f2 HIn HTk2 HEn2 hcl
          clear hst hcd hins hcs HM hn e0 e1 e2
          go_wp2
          go_loopw [4, 8] (fun vv iv wy => ∃ (i g c : Nat) (vs : List (List UInt8)), iv = .int .i64 (i : Int) ∧ i ≤ n ∧ vv = .slice (some ⟨g, 0, none⟩) vs.length c ∧ vs.length ≤ us.length + i ∧ Hid (vs = mis16 RS (cs ++ calR (cd.take i))) ∧ Hid (wy.ownsRow w0.heap.size 9 1 (.slice (some ⟨g, 0, none⟩) vs.length c) vs.length (strV vs) ∧ Below w0.heap.size w0 wy)) (fun _ iv _ => n - (intOf iv).toNat)
          case atStart => exact ⟨0, g, c, us, rfl, Nat.zero_le _, rfl, by omega, HZ2, HX⟩
          case round =>
            clear HX c2 f2 HZ2
            obtain ⟨i, g, c, vs, rfl, hi, rfl, hvl, HM, HX⟩ := hrel
            by_cases hin : (i : Int) < (n : Int)
            · obtain ⟨b3, off3, rfl, hbl3, x0, x1, x2, x3, x4⟩ := (HIn.out.below HX.out.2).2 i (by omega)
              have hst := HTk2.out i (by omega)
              obtain ⟨q, hq⟩ : ∃ q, cd.getD i in0 = q := ⟨_, rfl⟩
              rw [hq] at x0 x4 hst
              obtain ⟨ik, iR, iA, iB, inm⟩ := q
              simp only at x0 x4 hst
              by_cases h9 : ik = 9
              · subst h9
                rw [if_pos rfl] at hst
                have hms := mis16_step RS (cs ++ calR (cd.take i)) (inm, iA)
                rw [List.append_assoc, ← hst, ← HM.out] at hms
                simp only at hms
                have HC : Hid (_) := specHas (some ⟨gd, 0, none⟩) nd cd0 ds inm wr (HD0.out wr HX.out.2) (by omega)
                by_cases hmem : inm ∈ ds
                · rw [decide_eq_true hmem] at HC
                  rw [if_pos ((HDm.out inm).1 hmem)] at hms
                  have HM2 : Hid (vs = mis16 RS (cs ++ calR (cd.take (i + 1)))) := hms.symm
                  clear hst hms hmem hq HM
                  go_wp2_with fail
                  refine Calls.mono HC.out ?_
                  rintro e w1 ⟨rfl, rfl⟩
                  clear HC
                  go_wp2
                  go_roundw
                  case rel => exact ⟨i + 1, g, c, vs, by go_num, by omega, rfl, by omega, HM2, HX⟩
                  case measure => simp [intOf]; omega
                · rw [decide_eq_false hmem] at HC
                  rw [if_neg (fun h => hmem ((HDm.out inm).2 h))] at hms
                  have hpl := (put8_len vs inm).2
                  have HC2 : Hid (_) := specPut w0.heap.size g c vs inm wr HX.out.1 HX.out.2.size (by omega)
                  have HM2 : Hid (mis16 RS (cs ++ calR (cd.take (i + 1))) = put8 vs inm) := hms
                  have HB : Hid (Below w0.heap.size w0 wr) := HX.out.2
                  clear hst hms hmem hq HM HX
                  go_wp2_with fail
                  refine Calls.mono HC.out ?_
                  rintro e w1 ⟨rfl, rfl⟩
                  clear HC
                  go_wp2_with fail
                  refine Calls.mono HC2.out ?_
                  rintro e w2 ⟨g2, c3, rfl, hr2, hb2⟩
                  have HX2 : Hid (w2.ownsRow w0.heap.size 9 1 (.slice (some ⟨g2, 0, none⟩) (put8 vs inm).length c3) (put8 vs inm).length (strV (put8 vs inm)) ∧ Below w0.heap.size w0 w2) := ⟨hr2, HB.out.trans (hb2.mono HB.out.size)⟩
                  clear hr2 hb2 HC2
                  generalize put8 vs inm = zs at HX2 HM2 hpl
                  go_wp2
                  go_roundw
                  case rel => exact ⟨i + 1, g2, c3, zs, by go_num, by omega, rfl, by omega, HM2.out.symm, HX2⟩
                  case measure => simp [intOf]; omega
              · rw [if_neg h9] at hst
                have HM2 : Hid (vs = mis16 RS (cs ++ calR (cd.take (i + 1)))) := by exact (by rw [hst]; exact HM.out : vs = mis16 RS (cs ++ calR (cd.take (i + 1))))
                have h9b : (ik == 9) = false := beq_eq_false_iff_ne.2 h9
                clear hst hq HM
                go_wp2
                go_roundw
                case rel => exact ⟨i + 1, g, c, vs, by go_num, by omega, rfl, by omega, HM2, HX⟩
                case measure => simp [intOf]; omega
            · obtain rfl : i = n := by omega
              have HM2 : Hid (vs = mis16 RS (calls16 (qs ++ rs.take (j + 1)))) := by exact (by rw [HEn2.out]; exact HM.out : vs = mis16 RS (calls16 (qs ++ rs.take (j + 1))))
              go_wp2
              go_roundw
              case rel => exact ⟨j + 1, g, c, vs, by go_num, by omega, rfl, by omega, HM2, HX⟩
              case measure => simp [intOf]; omega
        · obtain rfl : j = m := by omega
          have HM2 : Hid (us = mis16 RS (calls16 (rts16 (os.take (k + 1))))) := by exact (by rw [← HEn.out]; exact HM.out : us = mis16 RS (calls16 (rts16 (os.take (k + 1)))))
          go_wp2
          go_roundw
          case rel => exact ⟨k + 1, g, c, us, by go_num, by omega, rfl, by omega, HM2, HX⟩
          case measure => simp [intOf]; omega
    · obtain rfl : k = len := by omega
      have HM2 : Hid (ts = mis16 RS (calls16 RS)) := by exact (by rw [HAll.out] at HM; exact HM.out : ts = mis16 RS (calls16 RS))
      have HR : Hid (wr.ownsRow w.heap.size 9 1 (.slice (some ⟨g, 0, none⟩) ts.length c) ts.length (strV ts) ∧ Below w.heap.size w wr) := ⟨own_base HX.out.1 HB0.out.size, HB0.out.trans (HX.out.2.mono HB0.out.size)⟩
      clear HX
      go_wp2
      go_ret
      exact ⟨g, c, by rw [← HM2.out]; rfl, by rw [← HM2.out]; exact HR.out.1, HR.out.2⟩

end Go.Proofs.YteolfnceobjonaaGreat

/-! One more routine behind those that a call has made. -/
namespace Go.Proofs.YteolfnceobjonaaGreat
open Go.RowKit

theorem push_rv {X : World} {B : Nat} {v : Value} {xs : List RV} (h : RtsOwn X B v xs) (x : RV) (ht : X.ownsRow B 102 5 (rvT x) x.1.2.2.length (insV x.1.2.2)) (hb : B ≤ X.heap.size) (hn : xs.length ≤ 1048576) :
    ∃ v' Y, (Builtin.append_ #[33, 33] 33 #[v, .slice (some ⟨X.heap.size, 0, none⟩) 1 1]).run Tryz.prog (X.alloc (.cells #[.string ⟨x.1.1.toArray⟩, .int .i64 x.1.2.1, rvT x] 75)) = .ok v' Y ∧ RtsOwn Y B v' (xs ++ [x]) ∧ X.grownBy Y v.ownBlock := by
  obtain ⟨i0, hi, hz0, hz1, hz2⟩ := info_parts infoRt
  obtain ⟨v', Y, hrun, hown, hg, _⟩ := run_append_src (P := Tryz.prog) (X.alloc (.cells #[.string ⟨x.1.1.toArray⟩, .int .i64 x.1.2.1, rvT x] 75)) B 33 33 75 i0 _ 3 48 Tryz.underlying33 hi hz0 hz1 hz2 rfl (by decide) _ _ _ (h.row.alloc _) _ 1 (rtsV [x]) (new_rt X x 1) (by unfold maxLen; omega) (by omega) (by simp; omega)
  refine ⟨v', Y, hrun, ⟨?_, fun z hz => ?_⟩, (World.grownBy_alloc X _ _).trans hg⟩
  · rw [rtsV_append, List.length_append]
    exact hown
  · have hrow := h.row.alloc (.cells #[.string ⟨x.1.1.toArray⟩, .int .i64 x.1.2.1, rvT x] 75)
    rcases List.mem_append.1 hz with h1 | h1
    · have h2 := (h.trees z h1).alloc (.cells #[.string ⟨x.1.1.toArray⟩, .int .i64 x.1.2.1, rvT x] 75)
      exact h2.kept hg (own_typesR h2 hrow (by decide))
    · rw [List.mem_singleton.1 h1]
      have h2 := ht.alloc (.cells #[.string ⟨x.1.1.toArray⟩, .int .i64 x.1.2.1, rvT x] 75)
      exact h2.kept hg (own_typesR h2 hrow (by decide))

end Go.Proofs.YteolfnceobjonaaGreat
