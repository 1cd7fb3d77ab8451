/-
  Parts of one proof, one behind the other: ProjS4, ProjS5, ProjS6, CheckS.
-/
import Derived.Test.YtdjglpcllcjcfaaDoorP17
import Derived.Test.YtdjglpcllcjcfaaDoorP16
import Derived.Test.YtdjglpcllcjcfaaDoorP12

/-! The contracts of chapter 8's specification: l1Put. -/
namespace Go.Proofs.YtdjglpcllcjcfaaDoor
open Go.RowKit

/-- A row of texts behind a row of texts. -/
theorem app8 {X : World} {B : Nat} {v x : Value} {n m : Nat} {ls ms : List (List UInt8)} (hv : X.ownsRow B 9 1 v n (strV ls)) (hb : B ≤ X.heap.size) (hs : Src X x m 1 (strV ms)) (hn : n + m ≤ 4194304) :
    ∃ v' Y, (Builtin.append_ #[30, 30] 30 #[v, x]).run Tryd.prog X = .ok v' Y ∧ Y.ownsRow B 9 1 v' (n + m) (strV (ls ++ ms)) ∧ X.grownBy Y v.ownBlock := by
  obtain ⟨i0, hi, hz0, hz1, hz2⟩ := info_parts info9
  obtain ⟨v', Y, hrun, hown, hg, _⟩ := run_append_src (P := Tryd.prog) X B 30 30 9 i0 _ 1 16 Tryd.underlying30 hi hz0 hz1 hz2 rfl (by decide) _ _ _ hv x m (strV ms) hs (by unfold maxLen; omega) (by omega) hb
  have e : strV (ls ++ ms) = strV ls ++ strV ms := by simp [strV]
  exact ⟨v', Y, hrun, by rw [e]; exact hown, hg⟩
theorem TextsIn.src8 {w : World} {a : Option Addr} {len cap : Nat} {ts : List (List UInt8)} (h : TextsIn w a len ts) (hc : a = none → cap = 0) : Src w (.slice a len cap) len 1 (strV ts) := by
  have hl : (strV ts).length = len := by simp [strV, h.1]
  refine ⟨by omega, fun u hu => ?_, ?_⟩
  · simp only [strV, List.mem_map] at hu
    obtain ⟨l, _, rfl⟩ := hu
    rfl
  · rcases Nat.eq_zero_or_pos len with h0 | h0
    · cases a with
      | none => left; rw [hc rfl, h0]; exact ⟨rfl, rfl⟩
      | some ad => right; exact ⟨ad, cap, rfl, fun j u hu => by rw [List.getElem?_eq_none (by omega)] at hu; cases hu⟩
    · obtain ⟨b, off, rfl, _, hcell⟩ := h.at h0
      right
      refine ⟨_, cap, rfl, fun j u hu => ?_⟩
      have hj : j < len := by have := (List.getElem?_eq_some_iff.1 hu).1; omega
      have e : (⟨b, off, none⟩ : Addr).add j = ⟨b, off + j, none⟩ := by unfold Addr.add; split <;> simp_all
      rw [e, hcell j hj]
      have h2 : (strV ts)[j]? = some (.string ⟨(ts.getD j []).toArray⟩) := by simp [strV, List.getD, List.getElem?_eq_getElem (show j < ts.length by rw [h.1]; exact hj)]
      rw [← h2]; exact hu
/-- Parts of a row of texts that a call owns, as 'append' reads them. -/
theorem src_take {w : World} {B g cap : Nat} {ts : List (List UInt8)} (h : w.ownsRow B 9 1 (.slice (some ⟨g, 0, none⟩) ts.length cap) ts.length (strV ts)) {k : Nat} (hk : k ≤ ts.length) : Src w (.slice (some ⟨g, 0, none⟩) k cap) k 1 (strV (ts.take k)) := by
  refine ⟨by simp [strV]; omega, fun u hu => ?_, Or.inr ⟨_, cap, rfl, fun j u hu => ?_⟩⟩
  · simp only [strV, List.mem_map] at hu
    obtain ⟨l, _, rfl⟩ := hu
    rfl
  · have hj : j < k := by
      have := (List.getElem?_eq_some_iff.1 hu).1
      simp [strV] at this
      omega
    have e : (⟨g, 0, none⟩ : Addr).add j = ⟨g, j, none⟩ := by unfold Addr.add; split <;> simp_all
    rw [e, World.ownsRow.cellAt h j (by omega)]
    rw [← strV_take, List.getElem?_take, if_pos hj] at hu
    exact hu
theorem src_drop {w : World} {B g cap : Nat} {ts : List (List UInt8)} (h : w.ownsRow B 9 1 (.slice (some ⟨g, 0, none⟩) ts.length cap) ts.length (strV ts)) {k : Nat} (hk : k ≤ ts.length) : Src w (.slice (if cap = k then some ⟨g, 0, none⟩ else some ⟨g, k, none⟩) (ts.length - k) (cap - k)) (ts.length - k) 1 (strV (ts.drop k)) := by
  have hcap := own_cap h
  have hone : ∀ u ∈ strV (ts.drop k), u.oneCell' = true := fun u hu => by
    simp only [strV, List.mem_map] at hu
    obtain ⟨l, _, rfl⟩ := hu
    rfl
  by_cases hc : cap = k
  · rw [if_pos hc]
    have hd : ts.drop k = [] := List.drop_eq_nil_of_le (by omega)
    rw [hd]
    exact ⟨by simp [strV]; omega, fun u hu => by simp [strV] at hu, Or.inr ⟨_, _, rfl, fun j u hu => by simp [strV] at hu⟩⟩
  · rw [if_neg hc]
    refine ⟨by simp [strV], hone, Or.inr ⟨_, cap - k, rfl, fun j u hu => ?_⟩⟩
    have hj : j < ts.length - k := by
      have := (List.getElem?_eq_some_iff.1 hu).1
      simpa [strV] using this
    have e : (⟨g, k, none⟩ : Addr).add j = ⟨g, k + j, none⟩ := by unfold Addr.add; split <;> simp_all
    rw [e, World.ownsRow.cellAt h (k + j) (by omega)]
    have e2 : (strV (ts.drop k))[j]? = (strV ts)[k + j]? := by simp [strV, List.getElem?_drop]
    rw [← e2]
    exact hu

set_option maxHeartbeats 1000000 in
set_option maxRecDepth 100000 in
theorem specPut (B g cap : Nat) (ts : List (List UInt8)) (s : List UInt8) (w : World) (h : w.ownsRow B 9 1 (.slice (some ⟨g, 0, none⟩) ts.length cap) ts.length (strV ts)) (hB : B ≤ w.heap.size) (hlen : ts.length ≤ 1048576) :
    Calls Tryd.prog 49 #[.slice (some ⟨g, 0, none⟩) ts.length cap, .string ⟨s.toArray⟩] w fun e w' => ∃ g' c', e = .returned (.slice (some ⟨g', 0, none⟩) (put8 ts s).length c') ∧ w'.ownsRow B 9 1 (.slice (some ⟨g', 0, none⟩) (put8 ts s).length c') (put8 ts s).length (strV (put8 ts s)) ∧ Below w.heap.size w w' := by
  have hcap := own_cap h
  have HO : Hid (w.ownsRow B 9 1 (.slice (some ⟨g, 0, none⟩) ts.length cap) ts.length (strV ts)) := h
  have hc1 : (ts.length : Int) ≤ (cap : Int) := by omega
  go_enter Tryd.func49, Tryd.ntmps49
  go_wp2
  go_loopw [5] (fun iv wr => ∃ k : Nat, iv = .int .i64 (k : Int) ∧ k ≤ ts.length ∧ Hid (∀ i, i < k → Op.bytesLess (ts.getD i []) s = true) ∧ w = wr) (fun iv _ => ts.length - (intOf iv).toNat)
  case atStart => exact ⟨0, rfl, by omega, (fun i hi => by omega), rfl⟩
  case round =>
    obtain ⟨k, rfl, hk, HA, rfl⟩ := hrel
    -- the way on where the text is not there
    have HW : Hid (low8 s ts = k → ts[k]? ≠ some s → ∃ v1 Y1 v2 Y2 v3 Y3 g' c' Y4, (Builtin.append_ #[30, 30] 30 #[.slice (some ⟨w.heap.size, 0, none⟩) 0 0, .slice (if cap = k then some ⟨g, 0, none⟩ else some ⟨g, k, none⟩) (ts.length - k) (cap - k)]).run Tryd.prog (w.alloc (.cells #[] 9)) = .ok v1 Y1 ∧
        (Builtin.append_ #[30, 30] 30 #[.slice (some ⟨Y1.heap.size, 0, none⟩) 0 0, .slice (some ⟨g, 0, none⟩) k cap]).run Tryd.prog (Y1.alloc (.cells #[] 9)) = .ok v2 Y2 ∧
        (Builtin.append_ #[30, 30] 30 #[v2, .slice (some ⟨Y2.heap.size, 0, none⟩) 1 1]).run Tryd.prog (Y2.alloc (.cells #[.string ⟨s.toArray⟩] 9)) = .ok v3 Y3 ∧
        (Builtin.append_ #[30, 30] 30 #[v3, v1]).run Tryd.prog Y3 = .ok (.slice (some ⟨g', 0, none⟩) (put8 ts s).length c') Y4 ∧ Y4.ownsRow B 9 1 (.slice (some ⟨g', 0, none⟩) (put8 ts s).length c') (put8 ts s).length (strV (put8 ts s)) ∧ Below w.heap.size w Y4) := fun hlow hno => by
      have hput : put8 ts s = ts.take k ++ s :: ts.drop k := by unfold put8; rw [hlow, if_neg hno]
      have hb1 : Below w.heap.size w (w.alloc (.cells #[] 9)) := (Below.refl _ _).alloc (Nat.le_refl _) _
      have ho1 := (World.ownsRow_lit (base := w.heap.size) (e := 9) (size := 1) w #[] 0 (Nat.le_refl _) (by decide) rfl)
      obtain ⟨v1, Y1, hr1, hv1, hg1⟩ := app8 (ls := []) ho1 hb1.size (src_drop (own_below HO.out hb1) hk) (by omega)
      have hbY1 : Below w.heap.size w Y1 := hb1.grown hg1 hb1.size (fun q e => by simp [Value.ownBlock] at e; omega)
      have hb2 : Below Y1.heap.size Y1 (Y1.alloc (.cells #[] 9)) := (Below.refl _ _).alloc (Nat.le_refl _) _
      have ho2 := (World.ownsRow_lit (base := Y1.heap.size) (e := 9) (size := 1) Y1 #[] 0 (Nat.le_refl _) (by decide) rfl)
      obtain ⟨v2, Y2, hr2, hv2, hg2⟩ := app8 (ls := []) ho2 hb2.size (src_take (own_below (own_below HO.out hbY1) hb2) hk) (by omega)
      have hbY2 : Below Y1.heap.size Y1 Y2 := hb2.grown hg2 hb2.size (fun q e => by simp [Value.ownBlock] at e; omega)
      obtain ⟨v3, Y3, hr3, hv3, hg3⟩ := push_text s hv2 hbY2.size (by simp; omega)
      have hbY3 : Below Y1.heap.size Y1 Y3 := hbY2.grown hg3 hbY2.size (fun q e => (hv2.lt q e).1)
      have hv1Y3 := own_below hv1 hbY3
      obtain ⟨_, a1, c1, rfl, hin1⟩ := own_texts hv1
      have hsrc1 : Src Y3 (.slice a1 (0 + (ts.length - k)) c1) (0 + (ts.length - k)) 1 (strV ([] ++ ts.drop k)) := by
        obtain ⟨_, a2, c2, e2, hin2⟩ := own_texts hv1Y3
        injection e2 with e2a _ e2c
        subst e2a e2c
        refine hin2.src8 (fun e => ?_)
        rcases own_forms hv1Y3 with ⟨e3, _, _⟩ | ⟨g3, cp3, e3⟩
        · injection e3
        · injection e3 with e3; rw [e] at e3; cases e3
      obtain ⟨v4, Y4, hr4, hv4, hg4⟩ := app8 hv3 hbY3.size hsrc1 (by omega)
      have e4 : [] ++ ts.take k ++ [s] ++ ([] ++ ts.drop k) = put8 ts s := by rw [hput]; simp
      have e5 : 0 + k + 1 + (0 + (ts.length - k)) = (put8 ts s).length := by rw [hput]; simp; omega
      rw [e4, e5] at hv4
      obtain ⟨g', c', rfl⟩ := own_some hv4 (by rw [← e5]; omega)
      exact ⟨_, Y1, v2, Y2, v3, Y3, g', c', Y4, hr1, hr2, hr3, hr4, own_base hv4 (Nat.le_trans hB hbY1.size), hbY1.trans ((hbY3.grown hg4 hbY3.size (fun q e => (hv3.lt q e).1)).mono hbY1.size)⟩
    by_cases hkl : (k : Int) < (ts.length : Int)
    · have hk2 : k < ts.length := by omega
      have c0 := str_cellsD HO.out rfl k hk2
      have hat : ts[k]? = some (ts.getD k []) := by simp [List.getD, hk2]
      have hlow := low8_at s ts k HA.out hk
      obtain ⟨x, hx⟩ : ∃ x, ts.getD k [] = x := ⟨_, rfl⟩
      rw [hx] at c0 hat hlow
      rcases hb : Op.bytesLess x s with _ | _
      · have hl := hlow (Or.inr hb)
        by_cases hxs : x = s
        · subst hxs
          have HPt : Hid (put8 ts x = ts) := by exact (by unfold put8; rw [hl, if_pos hat] : put8 ts x = ts)
          have hself : (x == x) = true := by simp
          clear HW HA hat hlow hx hl
          go_wp2
          go_ret
          exact ⟨g, cap, by rw [HPt.out]; rfl, by rw [HPt.out]; exact HO.out, Below.refl _ _⟩
        · obtain ⟨v1, Y1, v2, Y2, v3, Y3, g', c', Y4, hr1, hr2, hr3, hr4, hv4, hbY4⟩ := HW.out hl (by rw [hat]; intro e; injection e with e; exact hxs e)
          have hne : (x == s) = false := by rw [beq_eq_false_iff_ne]; exact hxs
          have HV4 : Hid (Y4.ownsRow B 9 1 (.slice (some ⟨g', 0, none⟩) (put8 ts s).length c') (put8 ts s).length (strV (put8 ts s))) := hv4
          rw [if_neg (show ¬ cap = k by omega)] at hr1
          clear HW HA hat hlow hx hl hv4 h
          have hkc : (k : Int) ≤ (cap : Int) := by omega
          go_wp2_with (at_builtin; first | (refine wpList_append_run rfl (.tmp 34) (.tmp 37) 30 rfl _ _ _ rfl rfl hr1 ?_; clear hr1) | (refine wpList_append_run rfl (.tmp 39) (.tmp 42) 30 rfl _ _ _ rfl rfl hr2 ?_; clear hr2) | (refine wpList_append_run rfl (.tmp 43) (.tmp 45) 30 rfl _ _ _ rfl rfl hr3 ?_; clear hr3) | (refine wpList_append_run rfl (.tmp 46) (.tmp 47) 30 rfl _ _ _ rfl rfl hr4 ?_; clear hr4))
          go_ret
          exact ⟨g', c', rfl, HV4.out, hbY4⟩
      · have HA2 : Hid (∀ i, i < k + 1 → Op.bytesLess (ts.getD i []) s = true) := fun i hi => by
          rcases Nat.lt_or_ge i k with h | h
          · exact HA.out i h
          · obtain rfl : i = k := by omega
            rw [hx]; exact hb
        clear HW HA hat hlow hx
        go_wp2
        go_roundw
        case rel => exact ⟨k + 1, by go_num, by omega, HA2, trivial⟩
        case measure => simp [intOf]; omega
    · obtain rfl : k = ts.length := by omega
      obtain ⟨v1, Y1, v2, Y2, v3, Y3, g', c', Y4, hr1, hr2, hr3, hr4, hv4, hbY4⟩ := HW.out (low8_at s ts _ HA.out hk (Or.inl rfl)) (by simp)
      have HV4 : Hid (Y4.ownsRow B 9 1 (.slice (some ⟨g', 0, none⟩) (put8 ts s).length c') (put8 ts s).length (strV (put8 ts s))) := hv4
      clear HW HA hv4
      by_cases hcl : cap = ts.length
      · subst hcl
        rw [if_pos rfl] at hr1
        simp only [Nat.sub_self] at hr1
        clear h
        go_wp2_with (at_builtin; first | (refine wpList_append_run rfl (.tmp 34) (.tmp 37) 30 rfl _ _ _ rfl rfl hr1 ?_; clear hr1) | (refine wpList_append_run rfl (.tmp 39) (.tmp 42) 30 rfl _ _ _ rfl rfl hr2 ?_; clear hr2) | (refine wpList_append_run rfl (.tmp 43) (.tmp 45) 30 rfl _ _ _ rfl rfl hr3 ?_; clear hr3) | (refine wpList_append_run rfl (.tmp 46) (.tmp 47) 30 rfl _ _ _ rfl rfl hr4 ?_; clear hr4))
        go_ret
        exact ⟨g', c', rfl, HV4.out, hbY4⟩
      · rw [if_neg hcl, Nat.sub_self] at hr1
        clear h
        have hcl2 : ¬ (cap : Int) = (ts.length : Int) := by omega
        go_wp2_with (at_builtin; first | (refine wpList_append_run rfl (.tmp 34) (.tmp 37) 30 rfl _ _ _ rfl rfl hr1 ?_; clear hr1) | (refine wpList_append_run rfl (.tmp 39) (.tmp 42) 30 rfl _ _ _ rfl rfl hr2 ?_; clear hr2) | (refine wpList_append_run rfl (.tmp 43) (.tmp 45) 30 rfl _ _ _ rfl rfl hr3 ?_; clear hr3) | (refine wpList_append_run rfl (.tmp 46) (.tmp 47) 30 rfl _ _ _ rfl rfl hr4 ?_; clear hr4))
        go_ret
        exact ⟨g', c', rfl, HV4.out, hbY4⟩

end Go.Proofs.YtdjglpcllcjcfaaDoor

/-! The contracts of chapter 8's specification: l8Reaches. -/
namespace Go.Proofs.YtdjglpcllcjcfaaDoor
open Go.RowKit

theorem step8_take (ps qs : List Pk) (o : List (List UInt8)) (k : Nat) (hk : k < qs.length) : step8 ps (qs.take (k + 1)) o = pass8 ps (step8 ps (qs.take k) o) (qs.getD k pk0) := by
  have e : qs.getD k pk0 = qs[k] := by simp [List.getD, hk]
  unfold step8
  rw [List.take_succ_eq_append_getElem hk, List.foldl_append, e]
  rfl
theorem inner8_take (ps : List Pk) (o ms : List (List UInt8)) (k : Nat) (hk : k < ms.length) : inner8 ps o (ms.take (k + 1)) = in8 ps (inner8 ps o (ms.take k)) (ms.getD k []) := by
  have e : ms.getD k [] = ms[k] := by simp [List.getD, hk]
  unfold inner8
  rw [List.take_succ_eq_append_getElem hk, List.foldl_append, e]
  rfl
theorem in8_at (ps : List Pk) (o : List (List UInt8)) (m : List UInt8) : in8 ps o m = if at8 ps m < 0 then o else put8 o m := by
  unfold in8
  have h := at8_mem ps m
  by_cases hm : m ∈ names8 ps
  · rw [if_pos hm, if_neg (by have := h.2 hm; omega)]
  · rw [if_neg hm, if_pos (by
      rcases Int.lt_or_le (at8 ps m) 0 with g | g
      · exact g
      · exact absurd (h.1 g) hm)]
theorem Re8.prefix {ps : List Pk} {s : List UInt8} {o : List (List UInt8)} (h : Re8 ps s o) (k : Nat) : Re8 ps s (step8 ps (ps.take k) o) := Re8.step _ _ (fun _ hq => List.mem_of_mem_take hq) h
theorem Re8.part {ps : List Pk} {s : List UInt8} {o : List (List UInt8)} (h : Re8 ps s o) {p : Pk} (hp : p ∈ ps) (hpo : p.1 ∈ o) (i : Nat) : Re8 ps s (inner8 ps o (p.2.1.take i)) := Re8.inner hp _ _ h hpo (fun _ hm => List.mem_of_mem_take hm)

/-- What l8Reaches holds of a list of names. -/
structure Ro8 (w X : World) (ps : List Pk) (g c : Nat) (o : List (List UInt8)) : Prop where
  own : X.ownsRow w.heap.size 9 1 (.slice (some ⟨g, 0, none⟩) o.length c) o.length (strV o)
  h : Below w.heap.size w X
theorem Ro8.texts {w X : World} {ps : List Pk} {g c : Nat} {o : List (List UInt8)} (r : Ro8 w X ps g c o) : TextsIn X (some ⟨g, 0, none⟩) o.length o := by
  obtain ⟨_, a', c', e, h⟩ := own_texts r.own
  injection e with e1 _ _
  subst e1
  exact h


end Go.Proofs.YtdjglpcllcjcfaaDoor

/-! The contracts of chapter 8's specification: l8Needs, Order, Reaches, Needs. -/
namespace Go.Proofs.YtdjglpcllcjcfaaDoor
open Go.RowKit

def keep8 (r : List (List UInt8)) (s x : List UInt8) : Bool := decide (x ≠ s ∧ x ∈ r)
theorem keep8_take (o r : List (List UInt8)) (s : List UInt8) (k : Nat) (hk : k < o.length) : (o.take (k + 1)).filter (keep8 r s) = (o.take k).filter (keep8 r s) ++ (if keep8 r s (o.getD k []) = true then [o.getD k []] else []) := by
  have e : o.getD k [] = o[k] := by simp [List.getD, hk]
  rw [List.take_succ_eq_append_getElem hk, List.filter_append, e]
  congr 1
  by_cases h : keep8 r s o[k] = true
  · rw [if_pos h]; simp [h]
  · rw [if_neg h]; simp [h]
theorem need8_keep (ps : List Pk) (s : List UInt8) : need8 ps s = (order8 ps).filter (keep8 (reach8 ps s) s) := rfl





end Go.Proofs.YtdjglpcllcjcfaaDoor

/-! The contracts of chapter 9's specification: what a call is told. -/
namespace Go.Proofs.YtdjglpcllcjcfaaDoor
open Go.RowKit

theorem node_new (V : World) (a b c d : Value) (t : TypeId) : ((V.alloc (.cells #[a, b, c, d] t)).cell? ⟨V.heap.size, 0, none⟩ = some a ∧ (V.alloc (.cells #[a, b, c, d] t)).cell? ⟨V.heap.size, 1, none⟩ = some b ∧ (V.alloc (.cells #[a, b, c, d] t)).cell? ⟨V.heap.size, 2, none⟩ = some c ∧ (V.alloc (.cells #[a, b, c, d] t)).cell? ⟨V.heap.size, 3, none⟩ = some d) ∧ Below V.heap.size V (V.alloc (.cells #[a, b, c, d] t)) := by
  have hb : Below V.heap.size V (V.alloc (.cells #[a, b, c, d] t)) := (Below.refl _ _).alloc (Nat.le_refl _) _
  have hA := heap_alloc_new V (.cells #[a, b, c, d] t)
  generalize V.alloc (.cells #[a, b, c, d] t) = W at hb hA ⊢
  exact ⟨⟨by simp [World.cell?, hA], by simp [World.cell?, hA], by simp [World.cell?, hA], by simp [World.cell?, hA]⟩, hb⟩

set_option maxHeartbeats 8000000 in
set_option maxRecDepth 100000 in
theorem specCall9 (a : Option Addr) (len cap : Nat) (ps : List Pk) (nm : List UInt8) (ia : Option Addr) (il ic : Nat) (fa : Option Addr) (fl fc : Nat) (ims : List (List UInt8)) (fs : List Fn) (at_ : Int) (n : Nd) (w : World)
    (hl : PkgsIn w a len ps) (hi : TextsIn w ia il ims) (hf : FuncsIn w fa fl fs) (hlen : len ≤ 1048576) (hil : il ≤ 1048576) (hfl : fl ≤ 1048576) (hsh : ShortPs ps) :
    Calls Tryd.prog 36 #[.slice a len cap, .agg #[.string ⟨nm.toArray⟩, .slice ia il ic, .slice fa fl fc], .int .i64 at_, nodeVal n] w fun e w' => e = .returned (.int .i64 (call9 ps (nm, ims, fs) at_ n)) ∧ Below w.heap.size w w' := by
  obtain ⟨k, A, x, fn⟩ := n
  unfold nodeVal
  simp only
  obtain ⟨bx, hbx⟩ := Box3.new w (.string ⟨nm.toArray⟩) (.slice ia il ic) (.slice fa fl fc) 33
  obtain ⟨W1, hW1⟩ : ∃ W1, w.alloc (.cells #[.string ⟨nm.toArray⟩, .slice ia il ic, .slice fa fl fc] 33) = W1 := ⟨_, rfl⟩
  have hs1 : W1.heap.size = w.heap.size + 1 := by rw [← hW1]; simp
  rw [hW1] at bx hbx
  obtain ⟨⟨n0, n1, n2, n3⟩, hb2⟩ := node_new W1 (.int .i64 k) (.int .i64 A) (.string ⟨x.toArray⟩) (.string ⟨fn.toArray⟩) 26
  obtain ⟨W2, hW2⟩ : ∃ W2, W1.alloc (.cells #[.int .i64 k, .int .i64 A, .string ⟨x.toArray⟩, .string ⟨fn.toArray⟩] 26) = W2 := ⟨_, rfl⟩
  have hs2 : W2.heap.size = w.heap.size + 1 + 1 := by rw [← hW2]; simp [hs1]
  rw [hW2, hs1] at n0 n1 n2 n3
  rw [hW2] at hb2
  have bx2 := bx.below hb2
  have hbw : Below w.heap.size w W2 := hbx.trans (hb2.mono (by omega))
  have p0 := bx2.c0
  have p1 := bx2.c1
  have p2 := bx2.c2
  have HI2 : Hid (TextsIn W2 ia il ims) := hi.below hbw
  have HF2 : Hid (FuncsIn W2 fa fl fs) := hf.below hbw
  have HP2 : Hid (PkgsIn W2 a len ps) := hl.below hbw
  have HB2 : Hid (Below w.heap.size w W2) := hbw
  have HBp2 : Hid (Box3 W2 w.heap.size (.string ⟨nm.toArray⟩) (.slice ia il ic) (.slice fa fl fc)) := bx2
  clear bx hbx bx2 hb2 hbw hi hf
  by_cases hxn : x = nm
  · subst hxn
    have hself : (x == x) = true := by simp
    have hselfn : (x != x) = false := by simp
    have HV : Hid (call9 ps (x, ims, fs) at_ (k, A, x, fn) = if atV fs fn < 0 ∨ (x = x ∧ at_ ≤ atV fs fn) then 2 else if (fs.getD (atV fs fn).toNat fn0).2.1 ≠ A then 3 else 0) := by exact (by
      unfold call9
      have h1 : farB ps (x, ims, fs) x = false := by unfold farB; exact decide_eq_false (fun h => h.1 rfl)
      have h2 : ofPk ps (x, ims, fs) x = (x, ims, fs) := by unfold ofPk; rw [if_pos rfl]
      simp only
      rw [h1, h2, if_neg (by simp)] : call9 ps (x, ims, fs) at_ (k, A, x, fn) = if atV fs fn < 0 ∨ (x = x ∧ at_ ≤ atV fs fn) then 2 else if (fs.getD (atV fs fn).toNat fn0).2.1 ≠ A then 3 else 0)
    obtain ⟨bq, hbq⟩ := Box3.new W2 (.string ⟨x.toArray⟩) (.slice ia il ic) (.slice fa fl fc) 33
    obtain ⟨W3, hW3⟩ : ∃ W3, W2.alloc (.cells #[.string ⟨x.toArray⟩, .slice ia il ic, .slice fa fl fc] 33) = W3 := ⟨_, rfl⟩
    rw [hW3] at bq hbq
    rw [hs2] at bq
    have HBq : Hid (Box3 W3 (w.heap.size + 1 + 1) (.string ⟨x.toArray⟩) (.slice ia il ic) (.slice fa fl fc)) := bq
    have HBp : Hid (Box3 W3 w.heap.size (.string ⟨x.toArray⟩) (.slice ia il ic) (.slice fa fl fc)) := HBp2.out.below hbq
    have HGn : Hid (w.heap.size + 1 < W3.heap.size) := by have := hbq.size; exact (by omega : w.heap.size + 1 < W3.heap.size)
    have HN2 : Hid (W3.cell? ⟨w.heap.size + 1, 2, none⟩ = some (.string ⟨x.toArray⟩)) := (hbq.cell (p := ⟨w.heap.size + 1, 2, none⟩) (by rw [hs2]; simp)).trans n2
    have HN1 : Hid (W3.cell? ⟨w.heap.size + 1, 1, none⟩ = some (.int .i64 A)) := (hbq.cell (p := ⟨w.heap.size + 1, 1, none⟩) (by rw [hs2]; simp)).trans n1
    have e3 := (hbq.cell (p := ⟨w.heap.size + 1, 3, none⟩) (by rw [hs2]; simp)).trans n3
    have e2 := HN2.out
    have q0 := bq.c0
    have q1 := bq.c1
    have q2 := bq.c2
    have pp0 := HBp.out.c0
    have HBW : Hid (Below w.heap.size w W3) := HB2.out.trans (hbq.mono HB2.out.size)
    have hqf := HF2.out.below hbq
    have HAt : Hid (_) := specAt x fn ia il ic fa fl fc fs W3 hqf hfl
    clear bq hbq
    go_enter Tryd.func36, Tryd.ntmps36
    obtain ⟨qfa, hqfa⟩ : ∃ qfa, qfa = fa := ⟨_, rfl⟩
    obtain ⟨qfl, hqfl⟩ : ∃ qfl, qfl = fl := ⟨_, rfl⟩
    obtain ⟨qfs, hqfs⟩ : ∃ qfs, qfs = fs := ⟨_, rfl⟩
    subst hqfa
    subst hqfl
    subst hqfs
    have HQ : Hid (FuncsIn W3 qfa qfl qfs) := hqf
    rcases at7_is qfs fn with eK | ⟨j, hj, eK, hjn⟩
    · have HR : Hid (call9 ps (x, ims, qfs) at_ (k, A, x, fn) = 2) := by exact (by rw [HV.out, eK, if_pos (Or.inl (by omega))] : call9 ps (x, ims, qfs) at_ (k, A, x, fn) = 2)
      rw [eK] at HAt
      go_wp2_with fail
      refine Calls.mono HAt.out ?_
      rintro e w5 ⟨rfl, hb5⟩
      have HB5 : Hid (Below w.heap.size w w5) := HBW.out.trans (hb5.mono HBW.out.size)
      have g0 := (HBq.out.below hb5).c0
      have g1 := (HBq.out.below hb5).c1
      have g2 := (HBq.out.below hb5).c2
      have m0 := (HBp.out.below hb5).c0
      have m2 := (hb5.cell (p := ⟨w.heap.size + 1, 2, none⟩) HGn.out).trans HN2.out
      have m1 := (hb5.cell (p := ⟨w.heap.size + 1, 1, none⟩) HGn.out).trans HN1.out
      clear hb5 hqf eK
      go_wp2
      go_ret
      exact ⟨by rw [HR.out]; rfl, HB5.out⟩
    · rw [eK] at HAt
      have hj0 : ¬ (j : Int) < 0 := by omega
      have hjl : j < qfl := by rw [← HQ.out.1]; exact hj
      have hjz : (j : Int) < (qfl : Int) := by omega
      by_cases hat : at_ ≤ (j : Int)
      · have HR : Hid (call9 ps (x, ims, qfs) at_ (k, A, x, fn) = 2) := by exact (by rw [HV.out, eK, if_pos (Or.inr ⟨rfl, hat⟩)] : call9 ps (x, ims, qfs) at_ (k, A, x, fn) = 2)
        go_wp2_with fail
        refine Calls.mono HAt.out ?_
        rintro e w5 ⟨rfl, hb5⟩
        have HB5 : Hid (Below w.heap.size w w5) := HBW.out.trans (hb5.mono HBW.out.size)
        have g0 := (HBq.out.below hb5).c0
        have g1 := (HBq.out.below hb5).c1
        have g2 := (HBq.out.below hb5).c2
        have m0 := (HBp.out.below hb5).c0
        have m2 := (hb5.cell (p := ⟨w.heap.size + 1, 2, none⟩) HGn.out).trans HN2.out
        have m1 := (hb5.cell (p := ⟨w.heap.size + 1, 1, none⟩) HGn.out).trans HN1.out
        clear hb5 hqf eK
        go_wp2
        go_ret
        exact ⟨by rw [HR.out]; rfl, HB5.out⟩
      · have HC7 : Hid (¬ ((j : Int) < 0 ∨ (x = x ∧ at_ ≤ (j : Int)))) := fun h => h.elim hj0 (fun h => hat h.2)
        go_wp2_with fail
        refine Calls.mono HAt.out ?_
        rintro e w5 ⟨rfl, hb5⟩
        have HB5 : Hid (Below w.heap.size w w5) := HBW.out.trans (hb5.mono HBW.out.size)
        have g0 := (HBq.out.below hb5).c0
        have g1 := (HBq.out.below hb5).c1
        have g2 := (HBq.out.below hb5).c2
        have m0 := (HBp.out.below hb5).c0
        have m2 := (hb5.cell (p := ⟨w.heap.size + 1, 2, none⟩) HGn.out).trans HN2.out
        have m1 := (hb5.cell (p := ⟨w.heap.size + 1, 1, none⟩) HGn.out).trans HN1.out
        have hq5 := HQ.out.below hb5
        obtain ⟨bq, oq, rfl, _, _, r1, _⟩ := hq5.2 j hjl
        obtain ⟨B, hB⟩ : ∃ B, (qfs.getD j fn0).2.1 = B := ⟨_, rfl⟩
        rw [hB] at r1
        clear hb5 hqf hq5
        by_cases hBA : B = A
        · have HR : Hid (call9 ps (x, ims, qfs) at_ (k, A, x, fn) = 0) := by exact (by rw [HV.out, eK, if_neg HC7.out, Int.toNat_natCast, hB, if_neg (by simpa using hBA)] : call9 ps (x, ims, qfs) at_ (k, A, x, fn) = 0)
          have hne : (B != A) = false := by simp [hBA]
          subst hBA
          have hne2 : (B == B) = true := by simp
          clear eK hB
          go_wp2_with fail
          go_quiet (fail)
          go_wp2
          go_ret
          exact ⟨by rw [HR.out]; rfl, HB5.out.trans ⟨rfl, rfl, rfl, Nat.le_refl _, fun _ _ => rfl⟩⟩
        · have HR : Hid (call9 ps (x, ims, qfs) at_ (k, A, x, fn) = 3) := by exact (by rw [HV.out, eK, if_neg HC7.out, Int.toNat_natCast, hB, if_pos hBA] : call9 ps (x, ims, qfs) at_ (k, A, x, fn) = 3)
          have hne : (B != A) = true := by rw [bne_iff_ne]; exact hBA
          have hne2 : (B == A) = false := beq_eq_false_iff_ne.2 hBA
          have hne3 : ¬ B = A := hBA
          clear eK hB
          go_wp2_with fail
          go_quiet (fail)
          go_wp2
          go_ret
          exact ⟨by rw [HR.out]; rfl, HB5.out.trans ⟨rfl, rfl, rfl, Nat.le_refl _, fun _ _ => rfl⟩⟩
  · have hne : (x != nm) = true := by rw [bne_iff_ne]; exact hxn
    have hne2 : (x == nm) = false := beq_eq_false_iff_ne.2 hxn
    by_cases hin : x ∈ ims
    · have HH : Hid (_) := specHas ia il ic ims x W2 HI2.out (by omega)
      rw [decide_eq_true hin] at HH
      have HA8 : Hid (∀ W, PkgsIn W a len ps → Calls Tryd.prog 34 #[.slice a len cap, .string ⟨x.toArray⟩] W fun e w' => e = .returned (.int .i64 (at8 ps x)) ∧ w' = W) := fun W hW => specAt8 a len cap ps x W hW hlen
      rcases at8_is ps x with ⟨e8, _⟩ | ⟨j0, hj0, e8, hjn, _⟩
      · have HR : Hid (call9 ps (nm, ims, fs) at_ (k, A, x, fn) = 1) := by exact (by
          unfold call9
          rw [if_pos (by unfold farB; exact decide_eq_true ⟨hxn, Or.inr (by show at8 ps x < 0; omega)⟩)] : call9 ps (nm, ims, fs) at_ (k, A, x, fn) = 1)
        rw [e8] at HA8
        clear e8 hin
        go_enter Tryd.func36, Tryd.ntmps36
        go_wp2_with fail
        refine Calls.mono HH.out ?_
        rintro e w5 ⟨rfl, hw5⟩
        obtain rfl := hw5.symm
        go_wp2_with fail
        refine Calls.mono (HA8.out W2 HP2.out) ?_
        rintro e w5 ⟨rfl, hw5⟩
        obtain rfl := hw5.symm
        go_wp2
        go_ret
        exact ⟨by rw [HR.out]; rfl, HB2.out⟩
      · rw [e8] at HA8
        have hjz0 : ¬ (j0 : Int) < 0 := by omega
        have hl0 : ps.length = len := hl.1
        have hjlen : (j0 : Int) < (len : Int) := by omega
        obtain ⟨b, off, rfl, hbl, c0, qia, qil, qic, qfa, qfl, qfc, c1, c2, _, hqf2⟩ := HP2.out.2 j0 (by omega)
        have hqsh := (hsh j0).2.2.2.1
        have hqfl : qfl ≤ 1048576 := by rw [← hqf2.1]; exact hqsh
        obtain ⟨q, hq⟩ : ∃ q, ps.getD j0 pk0 = q := ⟨_, rfl⟩
        have HV : Hid (call9 ps (nm, ims, fs) at_ (k, A, x, fn) = if atV q.2.2 fn < 0 ∨ (x = nm ∧ at_ ≤ atV q.2.2 fn) then 2 else if (q.2.2.getD (atV q.2.2 fn).toNat fn0).2.1 ≠ A then 3 else 0) := by exact (by
          unfold call9
          have h1 : farB ps (nm, ims, fs) x = false := by unfold farB; exact decide_eq_false (fun h => h.2.elim (fun e => e hin) (fun e => by omega))
          have h2 : ofPk ps (nm, ims, fs) x = q := by unfold ofPk; rw [if_neg hxn, e8, Int.toNat_natCast, hq]
          simp only
          rw [h1, h2, if_neg (by simp)] : call9 ps (nm, ims, fs) at_ (k, A, x, fn) = if atV q.2.2 fn < 0 ∨ (x = nm ∧ at_ ≤ atV q.2.2 fn) then 2 else if (q.2.2.getD (atV q.2.2 fn).toNat fn0).2.1 ≠ A then 3 else 0)
        rw [hq] at c0 hqf2
        obtain ⟨qn, qims, qfs⟩ := q
        simp only at c0 hqf2
        -- q, first as p is, then as the one that is called
        obtain ⟨bq, hbq⟩ := Box3.new W2 (.string ⟨nm.toArray⟩) (.slice ia il ic) (.slice fa fl fc) 33
        obtain ⟨W3, hW3⟩ : ∃ W3, W2.alloc (.cells #[.string ⟨nm.toArray⟩, .slice ia il ic, .slice fa fl fc] 33) = W3 := ⟨_, rfl⟩
        rw [hW3] at bq hbq
        rw [hs2] at bq
        have hfz : ∀ i, W3.frozen? ⟨w.heap.size + 1 + 1, i, none⟩ = false := fun i => by rw [← hW3, ← hs2]; exact World.frozen?_alloc_at _ _ _ _ rfl
        obtain ⟨W4, hW4, q0, q1, q2, hg4⟩ := set3 (.string ⟨qn.toArray⟩) (.slice qia qil qic) (.slice qfa qfl qfc) bq.c0 bq.c1 bq.c2
        have hb24 : Below W2.heap.size W2 W4 := hbq.grown hg4 hbq.size (fun q e => by injection e with e; have e5 : w.heap.size + 1 + 1 = q := e; omega)
        have HBq : Hid (Box3 W4 (w.heap.size + 1 + 1) (.string ⟨qn.toArray⟩) (.slice qia qil qic) (.slice qfa qfl qfc)) := ⟨q0, q1, q2⟩
        have HBp : Hid (Box3 W4 w.heap.size (.string ⟨nm.toArray⟩) (.slice ia il ic) (.slice fa fl fc)) := HBp2.out.below hb24
        have HGn : Hid (w.heap.size + 1 < W4.heap.size) := by have := hb24.size; exact (by omega : w.heap.size + 1 < W4.heap.size)
        have HN2 : Hid (W4.cell? ⟨w.heap.size + 1, 2, none⟩ = some (.string ⟨x.toArray⟩)) := (hb24.cell (p := ⟨w.heap.size + 1, 2, none⟩) (by rw [hs2]; simp)).trans n2
        have HN1 : Hid (W4.cell? ⟨w.heap.size + 1, 1, none⟩ = some (.int .i64 A)) := (hb24.cell (p := ⟨w.heap.size + 1, 1, none⟩) (by rw [hs2]; simp)).trans n1
        have e3 := (hb24.cell (p := ⟨w.heap.size + 1, 3, none⟩) (by rw [hs2]; simp)).trans n3
        have b30 := bq.c0
        have b31 := bq.c1
        have b32 := bq.c2
        have n32 := (hbq.cell (p := ⟨w.heap.size + 1, 2, none⟩) (by rw [hs2]; simp)).trans n2
        have pp0 := (HBp2.out.below hbq).c0
        have d0 := (hbq.cell (p := ⟨b, off + j0 * 3, none⟩) hbl).trans c0
        have d1 := (hbq.cell (p := ⟨b, off + j0 * 3 + 1, none⟩) hbl).trans c1
        have d2 := (hbq.cell (p := ⟨b, off + j0 * 3 + 2, none⟩) hbl).trans c2
        have hz0 := hfz 0
        have hz1 := hfz 1
        have hz2 := hfz 2
        have HBW : Hid (Below w.heap.size w W4) := HB2.out.trans (hb24.mono HB2.out.size)
        have HP3 : Hid (PkgsIn W3 (some ⟨b, off, none⟩) len ps) := HP2.out.below hbq
        have hqf := hqf2.below hb24
        have HAt : Hid (_) := specAt qn fn qia qil qic qfa qfl qfc qfs W4 hqf hqfl
        simp only at HV
        clear bq hbq hb24 hfz hq hqf2 e8 hin hg4 hsh hqsh hl
        go_enter Tryd.func36, Tryd.ntmps36
        go_wp2_with fail
        refine Calls.mono HH.out ?_
        rintro e w5 ⟨rfl, hw5⟩
        obtain rfl := hw5.symm
        go_wp2_with fail
        refine Calls.mono (HA8.out W2 HP2.out) ?_
        rintro e w5 ⟨rfl, hw5⟩
        obtain rfl := hw5.symm
        go_wp2_with fail
        refine Calls.mono (HA8.out W3 HP3.out) ?_
        rintro e w5 ⟨rfl, hw5⟩
        obtain rfl := hw5.symm
        have HQ : Hid (FuncsIn W4 qfa qfl qfs) := hqf
        rcases at7_is qfs fn with eK | ⟨j, hj, eK, hjn⟩
        · have HR : Hid (call9 ps (nm, ims, fs) at_ (k, A, x, fn) = 2) := by exact (by rw [HV.out, eK, if_pos (Or.inl (by omega))] : call9 ps (nm, ims, fs) at_ (k, A, x, fn) = 2)
          rw [eK] at HAt
          go_wp2_with fail
          refine Calls.mono HAt.out ?_
          rintro e w5 ⟨rfl, hb5⟩
          have HB5 : Hid (Below w.heap.size w w5) := HBW.out.trans (hb5.mono HBW.out.size)
          have g0 := (HBq.out.below hb5).c0
          have g1 := (HBq.out.below hb5).c1
          have g2 := (HBq.out.below hb5).c2
          have m0 := (HBp.out.below hb5).c0
          have m2 := (hb5.cell (p := ⟨w.heap.size + 1, 2, none⟩) HGn.out).trans HN2.out
          have m1 := (hb5.cell (p := ⟨w.heap.size + 1, 1, none⟩) HGn.out).trans HN1.out
          clear hb5 hqf eK
          go_wp2
          go_ret
          exact ⟨by rw [HR.out]; rfl, HB5.out⟩
        · rw [eK] at HAt
          have hj0 : ¬ (j : Int) < 0 := by omega
          have hjl : j < qfl := by rw [← HQ.out.1]; exact hj
          have hjz : (j : Int) < (qfl : Int) := by omega
          have HC7 : Hid (¬ ((j : Int) < 0 ∨ (x = nm ∧ at_ ≤ (j : Int)))) := fun h => h.elim hj0 (fun h => hxn h.1)
          go_wp2_with fail
          refine Calls.mono HAt.out ?_
          rintro e w5 ⟨rfl, hb5⟩
          have HB5 : Hid (Below w.heap.size w w5) := HBW.out.trans (hb5.mono HBW.out.size)
          have g0 := (HBq.out.below hb5).c0
          have g1 := (HBq.out.below hb5).c1
          have g2 := (HBq.out.below hb5).c2
          have m0 := (HBp.out.below hb5).c0
          have m2 := (hb5.cell (p := ⟨w.heap.size + 1, 2, none⟩) HGn.out).trans HN2.out
          have m1 := (hb5.cell (p := ⟨w.heap.size + 1, 1, none⟩) HGn.out).trans HN1.out
          have hq5 := HQ.out.below hb5
          obtain ⟨bq, oq, rfl, _, _, r1, _⟩ := hq5.2 j hjl
          obtain ⟨B, hB⟩ : ∃ B, (qfs.getD j fn0).2.1 = B := ⟨_, rfl⟩
          rw [hB] at r1
          clear hb5 hqf hq5
          by_cases hBA : B = A
          · have HR : Hid (call9 ps (nm, ims, fs) at_ (k, A, x, fn) = 0) := by exact (by rw [HV.out, eK, if_neg HC7.out, Int.toNat_natCast, hB, if_neg (by simpa using hBA)] : call9 ps (nm, ims, fs) at_ (k, A, x, fn) = 0)
            have hne : (B != A) = false := by simp [hBA]
            subst hBA
            have hne2 : (B == B) = true := by simp
            clear eK hB
            go_wp2_with fail
            go_quiet (fail)
            go_wp2
            go_ret
            exact ⟨by rw [HR.out]; rfl, HB5.out.trans ⟨rfl, rfl, rfl, Nat.le_refl _, fun _ _ => rfl⟩⟩
          · have HR : Hid (call9 ps (nm, ims, fs) at_ (k, A, x, fn) = 3) := by exact (by rw [HV.out, eK, if_neg HC7.out, Int.toNat_natCast, hB, if_pos hBA] : call9 ps (nm, ims, fs) at_ (k, A, x, fn) = 3)
            have hne : (B != A) = true := by rw [bne_iff_ne]; exact hBA
            have hne2 : (B == A) = false := beq_eq_false_iff_ne.2 hBA
            have hne3 : ¬ B = A := hBA
            clear eK hB
            go_wp2_with fail
            go_quiet (fail)
            go_wp2
            go_ret
            exact ⟨by rw [HR.out]; rfl, HB5.out.trans ⟨rfl, rfl, rfl, Nat.le_refl _, fun _ _ => rfl⟩⟩
    · have HH : Hid (_) := specHas ia il ic ims x W2 HI2.out (by omega)
      rw [decide_eq_false hin] at HH
      have HR : Hid (call9 ps (nm, ims, fs) at_ (k, A, x, fn) = 1) := by exact (by
        unfold call9
        rw [if_pos (by unfold farB; exact decide_eq_true ⟨hxn, Or.inl hin⟩)] : call9 ps (nm, ims, fs) at_ (k, A, x, fn) = 1)
      clear hin
      go_enter Tryd.func36, Tryd.ntmps36
      go_wp2_with (go_at_call 60; refine Calls.mono HH.out ?_; rintro e w5 ⟨rfl, hw5⟩; obtain rfl := hw5.symm)
      go_ret
      exact ⟨by rw [HR.out]; rfl, HB2.out⟩

end Go.Proofs.YtdjglpcllcjcfaaDoor
