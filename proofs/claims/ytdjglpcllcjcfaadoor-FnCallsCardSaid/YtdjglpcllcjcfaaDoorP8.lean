/-
  Parts of one proof, one behind the other: ProjS4, ProjS5, ProjS6, Bend1, Bend2, RowW.
-/
import Derived.Test.YtdjglpcllcjcfaaDoorP7
import Derived.Test.YtdjglpcllcjcfaaDoorP4
import Derived.Deep.RegionHeld3
import Derived.Deep.RegionLaw
import Derived.Deep.DrawnRows
import Derived.Laws.IdiomCopy

/-! The contracts of chapter 8's specification: l1Put. -/
namespace Go.Proofs.YtdjglpcllcjcfaaDoor
open Go.RowKit

/-- A row of texts behind a row of texts. -/
theorem app8 {X : World} {B : Nat} {v x : Value} {n m : Nat} {ls ms : List (List UInt8)} (hv : X.ownsRow B 9 1 v n (strV ls)) (hb : B ≤ X.heap.size) (hs : Src X x m 1 (strV ms)) (hn : n + m ≤ 4194304) :
    ∃ v' Y, (Builtin.append_ #[30, 30] 30 #[v, x]).run Tryd.prog X = .ok v' Y ∧ Y.ownsRow B 9 1 v' (n + m) (strV (ls ++ ms)) ∧ X.grownBy Y v.ownBlock := by
  obtain ⟨i0, hi, hz0, hz1, hz2⟩ := info_parts info9
  obtain ⟨v', Y, hrun, hown, hg, _⟩ := run_append_src (P := Tryd.prog) X B 30 30 9 i0 _ 1 16 Tryd.underlying30 hi hz0 hz1 hz2 rfl (by decide) _ _ _ hv x m (strV ms) hs (by unfold maxLen; omega) (by omega) hb
  have e : strV (ls ++ ms) = strV ls ++ strV ms := by simp [strV]
  exact ⟨v', Y, hrun, by rw [e]; exact hown, hg⟩
theorem TextsIn.src8 {w : World} {a : Option Addr} {len cap : Nat} {ts : List (List UInt8)} (h : TextsIn w a len ts) (hc : a = none → cap = 0) : Src w (.slice a len cap) len 1 (strV ts) := by
  have hl : (strV ts).length = len := by simp [strV, h.1]
  refine ⟨by omega, fun u hu => ?_, ?_⟩
  · simp only [strV, List.mem_map] at hu
    obtain ⟨l, _, rfl⟩ := hu
    rfl
  · rcases Nat.eq_zero_or_pos len with h0 | h0
    · cases a with
      | none => left; rw [hc rfl, h0]; exact ⟨rfl, rfl⟩
      | some ad => right; exact ⟨ad, cap, rfl, fun j u hu => by rw [List.getElem?_eq_none (by omega)] at hu; cases hu⟩
    · obtain ⟨b, off, rfl, _, hcell⟩ := h.at h0
      right
      refine ⟨_, cap, rfl, fun j u hu => ?_⟩
      have hj : j < len := by have := (List.getElem?_eq_some_iff.1 hu).1; omega
      have e : (⟨b, off, none⟩ : Addr).add j = ⟨b, off + j, none⟩ := by unfold Addr.add; split <;> simp_all
      rw [e, hcell j hj]
      have h2 : (strV ts)[j]? = some (.string ⟨(ts.getD j []).toArray⟩) := by simp [strV, List.getD, List.getElem?_eq_getElem (show j < ts.length by rw [h.1]; exact hj)]
      rw [← h2]; exact hu
/-- Parts of a row of texts that a call owns, as 'append' reads them. -/
theorem src_take {w : World} {B g cap : Nat} {ts : List (List UInt8)} (h : w.ownsRow B 9 1 (.slice (some ⟨g, 0, none⟩) ts.length cap) ts.length (strV ts)) {k : Nat} (hk : k ≤ ts.length) : Src w (.slice (some ⟨g, 0, none⟩) k cap) k 1 (strV (ts.take k)) := by
  refine ⟨by simp [strV]; omega, fun u hu => ?_, Or.inr ⟨_, cap, rfl, fun j u hu => ?_⟩⟩
  · simp only [strV, List.mem_map] at hu
    obtain ⟨l, _, rfl⟩ := hu
    rfl
  · have hj : j < k := by
      have := (List.getElem?_eq_some_iff.1 hu).1
      simp [strV] at this
      omega
    have e : (⟨g, 0, none⟩ : Addr).add j = ⟨g, j, none⟩ := by unfold Addr.add; split <;> simp_all
    rw [e, World.ownsRow.cellAt h j (by omega)]
    rw [← strV_take, List.getElem?_take, if_pos hj] at hu
    exact hu
theorem src_drop {w : World} {B g cap : Nat} {ts : List (List UInt8)} (h : w.ownsRow B 9 1 (.slice (some ⟨g, 0, none⟩) ts.length cap) ts.length (strV ts)) {k : Nat} (hk : k ≤ ts.length) : Src w (.slice (if cap = k then some ⟨g, 0, none⟩ else some ⟨g, k, none⟩) (ts.length - k) (cap - k)) (ts.length - k) 1 (strV (ts.drop k)) := by
  have hcap := own_cap h
  have hone : ∀ u ∈ strV (ts.drop k), u.oneCell' = true := fun u hu => by
    simp only [strV, List.mem_map] at hu
    obtain ⟨l, _, rfl⟩ := hu
    rfl
  by_cases hc : cap = k
  · rw [if_pos hc]
    have hd : ts.drop k = [] := List.drop_eq_nil_of_le (by omega)
    rw [hd]
    exact ⟨by simp [strV]; omega, fun u hu => by simp [strV] at hu, Or.inr ⟨_, _, rfl, fun j u hu => by simp [strV] at hu⟩⟩
  · rw [if_neg hc]
    refine ⟨by simp [strV], hone, Or.inr ⟨_, cap - k, rfl, fun j u hu => ?_⟩⟩
    have hj : j < ts.length - k := by
      have := (List.getElem?_eq_some_iff.1 hu).1
      simpa [strV] using this
    have e : (⟨g, k, none⟩ : Addr).add j = ⟨g, k + j, none⟩ := by unfold Addr.add; split <;> simp_all
    rw [e, World.ownsRow.cellAt h (k + j) (by omega)]
    have e2 : (strV (ts.drop k))[j]? = (strV ts)[k + j]? := by simp [strV, List.getElem?_drop]
    rw [← e2]
    exact hu

set_option maxHeartbeats 1000000 in
set_option maxRecDepth 100000 in
theorem specPut (B g cap : Nat) (ts : List (List UInt8)) (s : List UInt8) (w : World) (h : w.ownsRow B 9 1 (.slice (some ⟨g, 0, none⟩) ts.length cap) ts.length (strV ts)) (hB : B ≤ w.heap.size) (hlen : ts.length ≤ 1048576) :
    Calls Tryd.prog 49 #[.slice (some ⟨g, 0, none⟩) ts.length cap, .string ⟨s.toArray⟩] w fun e w' => ∃ g' c', e = .returned (.slice (some ⟨g', 0, none⟩) (put8 ts s).length c') ∧ w'.ownsRow B 9 1 (.slice (some ⟨g', 0, none⟩) (put8 ts s).length c') (put8 ts s).length (strV (put8 ts s)) ∧ Below w.heap.size w w' := by
  have hcap := own_cap h
  have HO : Hid (w.ownsRow B 9 1 (.slice (some ⟨g, 0, none⟩) ts.length cap) ts.length (strV ts)) := h
  have hc1 : (ts.length : Int) ≤ (cap : Int) := by omega
  go_enter Tryd.func49, Tryd.ntmps49
  go_wp2
  go_loopw [5] (fun iv wr => ∃ k : Nat, iv = .int .i64 (k : Int) ∧ k ≤ ts.length ∧ Hid (∀ i, i < k → Op.bytesLess (ts.getD i []) s = true) ∧ w = wr) (fun iv _ => ts.length - (intOf iv).toNat)
  case atStart => exact ⟨0, rfl, by omega, (fun i hi => by omega), rfl⟩
  case round =>
    obtain ⟨k, rfl, hk, HA, rfl⟩ := hrel
    -- the way on where the text is not there
    have HW : Hid (low8 s ts = k → ts[k]? ≠ some s → ∃ v1 Y1 v2 Y2 v3 Y3 g' c' Y4, (Builtin.append_ #[30, 30] 30 #[.slice (some ⟨w.heap.size, 0, none⟩) 0 0, .slice (if cap = k then some ⟨g, 0, none⟩ else some ⟨g, k, none⟩) (ts.length - k) (cap - k)]).run Tryd.prog (w.alloc (.cells #[] 9)) = .ok v1 Y1 ∧
        (Builtin.append_ #[30, 30] 30 #[.slice (some ⟨Y1.heap.size, 0, none⟩) 0 0, .slice (some ⟨g, 0, none⟩) k cap]).run Tryd.prog (Y1.alloc (.cells #[] 9)) = .ok v2 Y2 ∧
        (Builtin.append_ #[30, 30] 30 #[v2, .slice (some ⟨Y2.heap.size, 0, none⟩) 1 1]).run Tryd.prog (Y2.alloc (.cells #[.string ⟨s.toArray⟩] 9)) = .ok v3 Y3 ∧
        (Builtin.append_ #[30, 30] 30 #[v3, v1]).run Tryd.prog Y3 = .ok (.slice (some ⟨g', 0, none⟩) (put8 ts s).length c') Y4 ∧ Y4.ownsRow B 9 1 (.slice (some ⟨g', 0, none⟩) (put8 ts s).length c') (put8 ts s).length (strV (put8 ts s)) ∧ Below w.heap.size w Y4) := fun hlow hno => by
      have hput : put8 ts s = ts.take k ++ s :: ts.drop k := by unfold put8; rw [hlow, if_neg hno]
      have hb1 : Below w.heap.size w (w.alloc (.cells #[] 9)) := (Below.refl _ _).alloc (Nat.le_refl _) _
      have ho1 := (World.ownsRow_lit (base := w.heap.size) (e := 9) (size := 1) w #[] 0 (Nat.le_refl _) (by decide) rfl)
      obtain ⟨v1, Y1, hr1, hv1, hg1⟩ := app8 (ls := []) ho1 hb1.size (src_drop (own_below HO.out hb1) hk) (by omega)
      have hbY1 : Below w.heap.size w Y1 := hb1.grown hg1 hb1.size (fun q e => by simp [Value.ownBlock] at e; omega)
      have hb2 : Below Y1.heap.size Y1 (Y1.alloc (.cells #[] 9)) := (Below.refl _ _).alloc (Nat.le_refl _) _
      have ho2 := (World.ownsRow_lit (base := Y1.heap.size) (e := 9) (size := 1) Y1 #[] 0 (Nat.le_refl _) (by decide) rfl)
      obtain ⟨v2, Y2, hr2, hv2, hg2⟩ := app8 (ls := []) ho2 hb2.size (src_take (own_below (own_below HO.out hbY1) hb2) hk) (by omega)
      have hbY2 : Below Y1.heap.size Y1 Y2 := hb2.grown hg2 hb2.size (fun q e => by simp [Value.ownBlock] at e; omega)
      obtain ⟨v3, Y3, hr3, hv3, hg3⟩ := push_text s hv2 hbY2.size (by simp; omega)
      have hbY3 : Below Y1.heap.size Y1 Y3 := hbY2.grown hg3 hbY2.size (fun q e => (hv2.lt q e).1)
      have hv1Y3 := own_below hv1 hbY3
      obtain ⟨_, a1, c1, rfl, hin1⟩ := own_texts hv1
      have hsrc1 : Src Y3 (.slice a1 (0 + (ts.length - k)) c1) (0 + (ts.length - k)) 1 (strV ([] ++ ts.drop k)) := by
        obtain ⟨_, a2, c2, e2, hin2⟩ := own_texts hv1Y3
        injection e2 with e2a _ e2c
        subst e2a e2c
        refine hin2.src8 (fun e => ?_)
        rcases own_forms hv1Y3 with ⟨e3, _, _⟩ | ⟨g3, cp3, e3⟩
        · injection e3
        · injection e3 with e3; rw [e] at e3; cases e3
      obtain ⟨v4, Y4, hr4, hv4, hg4⟩ := app8 hv3 hbY3.size hsrc1 (by omega)
      have e4 : [] ++ ts.take k ++ [s] ++ ([] ++ ts.drop k) = put8 ts s := by rw [hput]; simp
      have e5 : 0 + k + 1 + (0 + (ts.length - k)) = (put8 ts s).length := by rw [hput]; simp; omega
      rw [e4, e5] at hv4
      obtain ⟨g', c', rfl⟩ := own_some hv4 (by rw [← e5]; omega)
      exact ⟨_, Y1, v2, Y2, v3, Y3, g', c', Y4, hr1, hr2, hr3, hr4, own_base hv4 (Nat.le_trans hB hbY1.size), hbY1.trans ((hbY3.grown hg4 hbY3.size (fun q e => (hv3.lt q e).1)).mono hbY1.size)⟩
    by_cases hkl : (k : Int) < (ts.length : Int)
    · have hk2 : k < ts.length := by omega
      have c0 := str_cellsD HO.out rfl k hk2
      have hat : ts[k]? = some (ts.getD k []) := by simp [List.getD, hk2]
      have hlow := low8_at s ts k HA.out hk
      obtain ⟨x, hx⟩ : ∃ x, ts.getD k [] = x := ⟨_, rfl⟩
      rw [hx] at c0 hat hlow
      rcases hb : Op.bytesLess x s with _ | _
      · have hl := hlow (Or.inr hb)
        by_cases hxs : x = s
        · subst hxs
          have HPt : Hid (put8 ts x = ts) := by exact (by unfold put8; rw [hl, if_pos hat] : put8 ts x = ts)
          have hself : (x == x) = true := by simp
          clear HW HA hat hlow hx hl
          go_wp2
          go_ret
          exact ⟨g, cap, by rw [HPt.out]; rfl, by rw [HPt.out]; exact HO.out, Below.refl _ _⟩
        · obtain ⟨v1, Y1, v2, Y2, v3, Y3, g', c', Y4, hr1, hr2, hr3, hr4, hv4, hbY4⟩ := HW.out hl (by rw [hat]; intro e; injection e with e; exact hxs e)
          have hne : (x == s) = false := by rw [beq_eq_false_iff_ne]; exact hxs
          have HV4 : Hid (Y4.ownsRow B 9 1 (.slice (some ⟨g', 0, none⟩) (put8 ts s).length c') (put8 ts s).length (strV (put8 ts s))) := hv4
          rw [if_neg (show ¬ cap = k by omega)] at hr1
          clear HW HA hat hlow hx hl hv4 h
          have hkc : (k : Int) ≤ (cap : Int) := by omega
          go_wp2_with (at_builtin; first | (refine wpList_append_run rfl (.tmp 34) (.tmp 37) 30 rfl _ _ _ rfl rfl hr1 ?_; clear hr1) | (refine wpList_append_run rfl (.tmp 39) (.tmp 42) 30 rfl _ _ _ rfl rfl hr2 ?_; clear hr2) | (refine wpList_append_run rfl (.tmp 43) (.tmp 45) 30 rfl _ _ _ rfl rfl hr3 ?_; clear hr3) | (refine wpList_append_run rfl (.tmp 46) (.tmp 47) 30 rfl _ _ _ rfl rfl hr4 ?_; clear hr4))
          go_ret
          exact ⟨g', c', rfl, HV4.out, hbY4⟩
      · have HA2 : Hid (∀ i, i < k + 1 → Op.bytesLess (ts.getD i []) s = true) := fun i hi => by
          rcases Nat.lt_or_ge i k with h | h
          · exact HA.out i h
          · obtain rfl : i = k := by omega
            rw [hx]; exact hb
        clear HW HA hat hlow hx
        go_wp2
        go_roundw
        case rel => exact ⟨k + 1, by go_num, by omega, HA2, trivial⟩
        case measure => simp [intOf]; omega
    · obtain rfl : k = ts.length := by omega
      obtain ⟨v1, Y1, v2, Y2, v3, Y3, g', c', Y4, hr1, hr2, hr3, hr4, hv4, hbY4⟩ := HW.out (low8_at s ts _ HA.out hk (Or.inl rfl)) (by simp)
      have HV4 : Hid (Y4.ownsRow B 9 1 (.slice (some ⟨g', 0, none⟩) (put8 ts s).length c') (put8 ts s).length (strV (put8 ts s))) := hv4
      clear HW HA hv4
      by_cases hcl : cap = ts.length
      · subst hcl
        rw [if_pos rfl] at hr1
        simp only [Nat.sub_self] at hr1
        clear h
        go_wp2_with (at_builtin; first | (refine wpList_append_run rfl (.tmp 34) (.tmp 37) 30 rfl _ _ _ rfl rfl hr1 ?_; clear hr1) | (refine wpList_append_run rfl (.tmp 39) (.tmp 42) 30 rfl _ _ _ rfl rfl hr2 ?_; clear hr2) | (refine wpList_append_run rfl (.tmp 43) (.tmp 45) 30 rfl _ _ _ rfl rfl hr3 ?_; clear hr3) | (refine wpList_append_run rfl (.tmp 46) (.tmp 47) 30 rfl _ _ _ rfl rfl hr4 ?_; clear hr4))
        go_ret
        exact ⟨g', c', rfl, HV4.out, hbY4⟩
      · rw [if_neg hcl, Nat.sub_self] at hr1
        clear h
        have hcl2 : ¬ (cap : Int) = (ts.length : Int) := by omega
        go_wp2_with (at_builtin; first | (refine wpList_append_run rfl (.tmp 34) (.tmp 37) 30 rfl _ _ _ rfl rfl hr1 ?_; clear hr1) | (refine wpList_append_run rfl (.tmp 39) (.tmp 42) 30 rfl _ _ _ rfl rfl hr2 ?_; clear hr2) | (refine wpList_append_run rfl (.tmp 43) (.tmp 45) 30 rfl _ _ _ rfl rfl hr3 ?_; clear hr3) | (refine wpList_append_run rfl (.tmp 46) (.tmp 47) 30 rfl _ _ _ rfl rfl hr4 ?_; clear hr4))
        go_ret
        exact ⟨g', c', rfl, HV4.out, hbY4⟩

end Go.Proofs.YtdjglpcllcjcfaaDoor

/-! The contracts of chapter 8's specification: l8Reaches. -/
namespace Go.Proofs.YtdjglpcllcjcfaaDoor
open Go.RowKit

theorem step8_take (ps qs : List Pk) (o : List (List UInt8)) (k : Nat) (hk : k < qs.length) : step8 ps (qs.take (k + 1)) o = pass8 ps (step8 ps (qs.take k) o) (qs.getD k pk0) := by
  have e : qs.getD k pk0 = qs[k] := by simp [List.getD, hk]
  unfold step8
  rw [List.take_succ_eq_append_getElem hk, List.foldl_append, e]
  rfl
theorem inner8_take (ps : List Pk) (o ms : List (List UInt8)) (k : Nat) (hk : k < ms.length) : inner8 ps o (ms.take (k + 1)) = in8 ps (inner8 ps o (ms.take k)) (ms.getD k []) := by
  have e : ms.getD k [] = ms[k] := by simp [List.getD, hk]
  unfold inner8
  rw [List.take_succ_eq_append_getElem hk, List.foldl_append, e]
  rfl
theorem in8_at (ps : List Pk) (o : List (List UInt8)) (m : List UInt8) : in8 ps o m = if at8 ps m < 0 then o else put8 o m := by
  unfold in8
  have h := at8_mem ps m
  by_cases hm : m ∈ names8 ps
  · rw [if_pos hm, if_neg (by have := h.2 hm; omega)]
  · rw [if_neg hm, if_pos (by
      rcases Int.lt_or_le (at8 ps m) 0 with g | g
      · exact g
      · exact absurd (h.1 g) hm)]
theorem Re8.prefix {ps : List Pk} {s : List UInt8} {o : List (List UInt8)} (h : Re8 ps s o) (k : Nat) : Re8 ps s (step8 ps (ps.take k) o) := Re8.step _ _ (fun _ hq => List.mem_of_mem_take hq) h
theorem Re8.part {ps : List Pk} {s : List UInt8} {o : List (List UInt8)} (h : Re8 ps s o) {p : Pk} (hp : p ∈ ps) (hpo : p.1 ∈ o) (i : Nat) : Re8 ps s (inner8 ps o (p.2.1.take i)) := Re8.inner hp _ _ h hpo (fun _ hm => List.mem_of_mem_take hm)

/-- What l8Reaches holds of a list of names. -/
structure Ro8 (w X : World) (ps : List Pk) (g c : Nat) (o : List (List UInt8)) : Prop where
  own : X.ownsRow w.heap.size 9 1 (.slice (some ⟨g, 0, none⟩) o.length c) o.length (strV o)
  h : Below w.heap.size w X
theorem Ro8.texts {w X : World} {ps : List Pk} {g c : Nat} {o : List (List UInt8)} (r : Ro8 w X ps g c o) : TextsIn X (some ⟨g, 0, none⟩) o.length o := by
  obtain ⟨_, a', c', e, h⟩ := own_texts r.own
  injection e with e1 _ _
  subst e1
  exact h


end Go.Proofs.YtdjglpcllcjcfaaDoor

/-! The contracts of chapter 8's specification: l8Needs, Order, Reaches, Needs. -/
namespace Go.Proofs.YtdjglpcllcjcfaaDoor
open Go.RowKit

def keep8 (r : List (List UInt8)) (s x : List UInt8) : Bool := decide (x ≠ s ∧ x ∈ r)
theorem keep8_take (o r : List (List UInt8)) (s : List UInt8) (k : Nat) (hk : k < o.length) : (o.take (k + 1)).filter (keep8 r s) = (o.take k).filter (keep8 r s) ++ (if keep8 r s (o.getD k []) = true then [o.getD k []] else []) := by
  have e : o.getD k [] = o[k] := by simp [List.getD, hk]
  rw [List.take_succ_eq_append_getElem hk, List.filter_append, e]
  congr 1
  by_cases h : keep8 r s o[k] = true
  · rw [if_pos h]; simp [h]
  · rw [if_neg h]; simp [h]
theorem need8_keep (ps : List Pk) (s : List UInt8) : need8 ps s = (order8 ps).filter (keep8 (reach8 ps s) s) := rfl





end Go.Proofs.YtdjglpcllcjcfaaDoor

/-! What the bending of a text needs: a slice of bytes at the head of a block that is new since the call began, and an append's law at a step of a region that draws its order. -/
namespace Go.Proofs.YtdjglpcllcjcfaaDoor
open Go.RowKit

/-- Block g, new since 'base', holds the bytes l from its head on, and they may be written. -/
structure RowB (w : World) (base g cap : Nat) (l : List UInt8) : Prop where
  new : base ≤ g
  there : g < w.heap.size
  room : l.length ≤ cap
  most : cap ≤ maxLen
  cells : ∀ j (hj : j < l.length), w.cell? ⟨g, j, none⟩ = some (.int .u8 (l[j].toNat : Int))
  free : ∀ j, j < l.length → w.frozen? ⟨g, j, none⟩ = false

theorem RowB.kept {w w' : World} {base g cap : Nat} {l : List UInt8} {row : Option Nat} (h : RowB w base g cap l) (hg : w.grownBy w' row) (hne : some g ≠ row) : RowB w' base g cap l := by
  have hb := hg.block g h.there hne
  exact ⟨h.new, Nat.lt_of_lt_of_le h.there hg.size, h.room, h.most, fun j hj => (World.cell?_of_block hb).trans (h.cells j hj), fun j hj => (World.frozen?_of_block hb).trans (h.free j hj)⟩

theorem RowB.base {w : World} {base base' g cap : Nat} {l : List UInt8} (h : RowB w base g cap l) (hb : base' ≤ base) : RowB w base' g cap l := ⟨Nat.le_trans hb h.new, h.there, h.room, h.most, h.cells, h.free⟩

theorem RowB.of_own {w : World} {base : Nat} {v : Value} {l : List UInt8} (h : w.ownsRow base 5 1 v l.length (bytesV l)) (hv : v ≠ .slice none 0 0) : ∃ g cap, v = .slice (some ⟨g, 0, none⟩) l.length cap ∧ RowB w base g cap l := by
  have hh := h
  obtain ⟨_, ⟨e, _⟩ | ⟨g, cap, cur, rfl, hb, hc, hn, hm, hs, ht⟩⟩ := hh
  · exact absurd e hv
  · refine ⟨g, cap, rfl, hb, (h.lt g rfl).2, hn, hm, ?_, ?_⟩
    · intro j hj
      have hx := World.ownsRow.cellAt h j (by omega)
      rw [hx]; simp [bytesV, List.getElem?_eq_getElem hj]
    · intro j hj
      exact World.ownsRow.frozenAt h j

theorem RowB.back {w : World} {base g cap : Nat} {l : List UInt8} (h : RowB w base g cap l) :
    (convert 22 9 (.slice (some ⟨g, 0, none⟩) l.length cap)).run Tryd.prog w = .ok (.string ⟨l.toArray⟩) w := by
  refine run_convert_bytes_back (P := Tryd.prog) w 22 9 5 ⟨g, 0, none⟩ cap l Tryd.underlying22 Tryd.underlying5 Tryd.underlying9 ?_
  intro j hj
  have e : (⟨g, 0, none⟩ : Addr).add j = ⟨g, j, none⟩ := by unfold Addr.add; split <;> simp_all
  rw [e]; exact h.cells j hj

theorem RowB.cut {w : World} {base g cap : Nat} {l : List UInt8} (h : RowB w base g cap l) (k : Nat) : RowB w base g cap (l.take k) := by
  have hl : (l.take k).length ≤ l.length := List.length_take_le' _ _
  refine ⟨h.new, h.there, Nat.le_trans hl h.room, h.most, ?_, ?_⟩
  · intro j hj
    rw [h.cells j (by omega)]
    simp
  · intro j hj; exact h.free j (by omega)

theorem RowB.store {w : World} {base g cap : Nat} {l : List UInt8} (h : RowB w base g cap l) (k : Nat) (hk : k < l.length) (x : UInt8) : RowB (w.setCell ⟨g, k, none⟩ (.int .u8 (x.toNat : Int))) base g cap (l.set k x) := by
  refine ⟨h.new, by simpa using h.there, by simpa using h.room, h.most, ?_, ?_⟩
  · intro j hj
    have hj' : j < l.length := by simpa using hj
    by_cases e : j = k
    · subst e
      rw [World.cell?_setCell_same _ _ _ (h.cells j hj')]
      simp
    · rw [World.cell?_setCell_other _ _ _ _ (by intro e2; injection e2 with _ e3; exact e e3.symm), h.cells j hj', List.getElem_set_ne (fun e2 => e e2.symm)]
  · intro j hj
    rw [World.frozen?_setCell]; exact h.free j (by simpa using hj)

theorem RowB.drew {w : World} {base g cap : Nat} {l : List UInt8} (h : RowB w base g cap l) : RowB w.drew base g cap l := ⟨h.new, h.there, h.room, h.most, h.cells, h.free⟩

/-- '[]byte(s)': the new block. -/
theorem RowB.made (w : World) (l : List UInt8) (hl : l.length ≤ maxLen) :
    RowB (w.drew.alloc (.cells (bytesRow ⟨l.toArray⟩ (grownCap w l.length 0 5)) 5 ((bytesRow ⟨l.toArray⟩ (grownCap w l.length 0 5)).size, (bytesRow ⟨l.toArray⟩ (grownCap w l.length 0 5)).size + 1))) w.heap.size w.heap.size (grownCap w l.length 0 5) l := by
  have hsz : l.length ≤ (bytesRow ⟨l.toArray⟩ (grownCap w l.length 0 5)).size := by simp [bytesRow]
  refine ⟨Nat.le_refl _, by simp, grownCap_ge _ _ _ _, grownCap_le_maxLen _ _ _ _ hl, ?_, ?_⟩
  · intro j hj
    show (w.alloc _).cell? ⟨w.heap.size, j, none⟩ = _
    rw [World.cell?_alloc_mark, bytesRow_at ⟨l.toArray⟩ _ j (by simpa using hj)]
    simp
  · intro j hj
    show (w.alloc _).frozen? ⟨w.heap.size, j, none⟩ = _
    rw [World.frozen?_alloc_mark]
    simp; omega

/-- 'append' onto a row of the call's own, at a step of a region that draws. -/
theorem step_append_own {P : Program} {w : World} {ops : Array Oper} {o : Oper} {a : Act} {K : Act → World → Prop} {Q : Exit → Act → World → Prop} {E : Prop} (hgd : o.guard = none) (s x : Operand) (t : TypeId)
    (ho : o.op = .call { callee := .builtin .append, args := #[s, x], argTypes := #[t, t] })
    (base : Nat) (e : TypeId) (i : TypeInfo) (z : Value) (size bytes : Nat) (ht : P.underlying t = some (.slice e)) (hi : P.info? e = some i) (hz : i.zero = some z)
    (hsize : i.size = size) (hby : i.bytes = bytes) (hzs : z.cells.size = size) (hsz : 0 < size)
    (v : Value) (n : Nat) (xs : List Value) (hs : a.eval s = v) (hown : w.ownsRow base e size v n xs)
    (ad : Addr) (m c : Nat) (news : List Value) (hx : a.eval x = .slice (some ad) m c) (hl : news.length = m * size) (hnews : ∀ j u, news[j]? = some u → w.cell? (ad.add j) = some u) (h1 : ∀ u ∈ news, u.oneCell' = true)
    (h63 : n + m ≤ maxLen) (hbytes : (n + m) * bytes ≤ 140737488355328) (hbase : base ≤ w.heap.size)
    (h : ∀ v' w', w'.ownsRow base e size v' (n + m) (xs ++ news) → w.grownBy w' v.ownBlock → (v' = .slice none 0 0 ↔ v = .slice none 0 0 ∧ m = 0) → K (a.put o.dst v') w') :
    if Region.wanted o (yielded ops a.tmps) = true then Oper.wp P o a w K Q else E := by
  have hw : Region.wanted o (yielded ops a.tmps) = true := by simp [Region.wanted, hgd]
  rw [if_pos hw]
  exact wp_append_own w s x t ho base e i z size bytes ht hi hz hsize hby hzs hsz v n xs hs hown ad m c news hx hl hnews h1 h63 hbytes hbase h

theorem bytesV_at (l : List UInt8) (j : Nat) (u : Value) (h : (bytesV l)[j]? = some u) : ∃ hj : j < l.length, u = .int .u8 (l[j].toNat : Int) := by
  unfold bytesV at h
  rw [List.getElem?_map] at h
  rcases hx : l[j]? with _ | x
  · rw [hx] at h; cases h
  · rw [hx] at h
    obtain ⟨hj, e⟩ := List.getElem?_eq_some_iff.1 hx
    injection h with h
    exact ⟨hj, by rw [e]; exact h.symm⟩

theorem bytesV_len (l : List UInt8) : (bytesV l).length = l.length := by simp [bytesV]

theorem bytesV_one (l : List UInt8) : ∀ u ∈ bytesV l, u.oneCell' = true := by
  intro u hu
  obtain ⟨x, _, rfl⟩ := List.mem_map.1 hu
  rfl

theorem add_plain (b off j : Nat) : (⟨b, off, none⟩ : Addr).add j = ⟨b, off + j, none⟩ := by unfold Addr.add; split <;> simp_all

/-- The cells of b[:k], as an append takes them. -/
theorem RowB.head {w : World} {base g cap : Nat} {l : List UInt8} (h : RowB w base g cap l) (k : Nat) : ∀ j u, (bytesV (l.take k))[j]? = some u → w.cell? ((⟨g, 0, none⟩ : Addr).add j) = some u := by
  intro j u hu
  obtain ⟨hj, rfl⟩ := bytesV_at _ _ _ hu
  have hl : (l.take k).length ≤ l.length := List.length_take_le' _ _
  rw [add_plain, Nat.zero_add, h.cells j (by omega)]
  simp

/-- The cells of b[k:], as an append takes them. -/
theorem RowB.tail {w : World} {base g cap : Nat} {l : List UInt8} (h : RowB w base g cap l) (k : Nat) : ∀ j u, (bytesV (l.drop k))[j]? = some u → w.cell? ((⟨g, k, none⟩ : Addr).add j) = some u := by
  intro j u hu
  obtain ⟨hj, rfl⟩ := bytesV_at _ _ _ hu
  have hj' : k + j < l.length := by rw [List.length_drop] at hj; omega
  rw [add_plain, h.cells (k + j) hj']
  simp

theorem own_empty (w : World) (base : Nat) (h : base ≤ w.heap.size) : (w.alloc (.cells #[] 5)).drew.ownsRow base 5 1 (.slice (some ⟨w.heap.size, 0, none⟩) 0 0) 0 [] :=
  (World.ownsRow_lit (base := base) (e := 5) (size := 1) w #[] 0 h (by decide) rfl).drew

theorem step_keep {w W W' : World} {B : Nat} {a : Option Addr} {len cap : Nat} {row : Option Nat} (hBlt : B < w.heap.size) (h : Cur W B a len cap ∧ w.grownBy W (some B)) (hg : W.grownBy W' row) (hrow : ∀ k, row = some k → w.heap.size ≤ k) :
    Cur W' B a len cap ∧ w.grownBy W' (some B) :=
  ⟨h.1.kept hg (fun k e => by have := hrow k e; omega), h.2.andThen hg (fun j e => Or.inl (hrow j e))⟩

theorem bytesV_append (a b : List UInt8) : bytesV a ++ bytesV b = bytesV (a ++ b) := by simp [bytesV]

/-- What a chain of appends leaves: a row of bytes. -/
theorem own_done {w : World} {base n : Nat} {v : Value} {xs : List Value} (l : List UInt8) (h : w.ownsRow base 5 1 v n xs) (hx : xs = bytesV l) (hn : n = l.length) (hv : v ≠ .slice none 0 0) : ∃ g cap, v = .slice (some ⟨g, 0, none⟩) l.length cap ∧ RowB w base g cap l := by
  subst hx hn
  exact RowB.of_own h hv

theorem own_ne {w : World} {base e size n g : Nat} {v : Value} {xs : List Value} (h : w.ownsRow base e size v n xs) (hg : g < base) : some g ≠ v.ownBlock := by
  intro e2
  have := (h.lt g e2.symm).1
  omega

theorem size_empty (w : World) : w.heap.size ≤ (w.alloc (.cells #[] 5)).drew.heap.size := by simp
theorem size_one (w : World) (x : Value) (n : Nat) (h : n ≤ w.heap.size) : n ≤ (w.alloc (.cells #[x] 5)).heap.size := by simp; omega
theorem row_empty (w : World) : ∀ k, Value.ownBlock (.slice (some ⟨w.heap.size, 0, none⟩) 0 0) = some k → w.heap.size ≤ k := by
  intro k e; injection e with e; exact Nat.le_of_eq e
theorem ne_empty (w : World) (b : Nat) (h : b < w.heap.size) : some b ≠ Value.ownBlock (.slice (some ⟨w.heap.size, 0, none⟩) 0 0) := by
  intro e; injection e with e; simp at e; omega
theorem ne_some {b B : Nat} (h : B < b) : some b ≠ some B := by
  intro e; injection e with e; omega

end Go.Proofs.YtdjglpcllcjcfaaDoor

/-! The contract of l1Bend: a text that is bent at most twice. -/
namespace Go.Proofs.YtdjglpcllcjcfaaDoor
open Go.RowKit


end Go.Proofs.YtdjglpcllcjcfaaDoor

/-! A row of bytes that a call has made of a string ('[]byte(s)'), and 'append(b, s...)' onto it, whether there is room or not. -/
namespace Go.Proofs.YtdjglpcllcjcfaaDoor
open Go.RowKit

/-- Block g, new since 'base', holds the bytes l from its head on; all of its cap cells may be written. -/
structure RowW (w : World) (base g cap : Nat) (l : List UInt8) : Prop where
  row : RowB w base g cap l
  all : ∀ j, j < cap → (w.cell? ⟨g, j, none⟩).isSome = true ∧ w.frozen? ⟨g, j, none⟩ = false

theorem RowW.kept {w w' : World} {base g cap : Nat} {l : List UInt8} {row : Option Nat} (h : RowW w base g cap l) (hg : w.grownBy w' row) (hne : some g ≠ row) : RowW w' base g cap l := by
  have hb := hg.block g h.row.there hne
  exact ⟨h.row.kept hg hne, fun j hj => by rw [World.cell?_of_block (a := ⟨g, j, none⟩) hb, World.frozen?_of_block (a := ⟨g, j, none⟩) hb]; exact h.all j hj⟩

theorem RowW.below {w w' : World} {base g cap : Nat} {l : List UInt8} (h : RowW w base g cap l) (hb : Below w.heap.size w w') : RowW w' base g cap l :=
  h.kept (row := none) ⟨hb.os, hb.tape, hb.output, hb.size, fun k hk _ => hb.block k hk⟩ (by simp)

theorem RowW.drew {w : World} {base g cap : Nat} {l : List UInt8} (h : RowW w base g cap l) : RowW w.drew base g cap l :=
  h.below ⟨rfl, rfl, rfl, Nat.le_refl _, fun _ _ => rfl⟩

theorem heap_setCells (b : Nat) : ∀ (vs : List Value) (o : Nat) (w : World), (w.setCells b o vs).heap.size = w.heap.size ∧ ∀ k, k ≠ b → (w.setCells b o vs).heap[k]? = w.heap[k]?
  | [], _, _ => ⟨rfl, fun _ _ => rfl⟩
  | v :: r, o, w => by
    obtain ⟨h1, h2⟩ := heap_setCells b r (o + 1) (w.setCell ⟨b, o, none⟩ v)
    refine ⟨by rw [World.setCells, h1]; simp, fun k hk => ?_⟩
    rw [World.setCells, h2 k hk]
    exact Below.heap_setCell w _ v k (fun e => hk e)

theorem grown_setCells (b : Nat) : ∀ (vs : List Value) (o : Nat) (w : World), w.grownBy (w.setCells b o vs) (some b)
  | [], _, w => World.grownBy.refl w _
  | v :: r, o, w => by
    rw [World.setCells]
    exact (grown_set w b o v).trans (grown_setCells b r (o + 1) _)

theorem strV_bytes (s : List UInt8) : Lib.strCells ⟨s.toArray⟩ = bytesV s := strCells_list s

theorem RowW.append {w : World} {base g cap : Nat} {l : List UInt8} (h : RowW w base g cap l) (s : List UInt8) (hlen : l.length + s.length ≤ 4194304) (hbase : base ≤ w.heap.size) (ty : TypeId) :
    ∃ g' cap' w', (Builtin.append_ #[22, 9] ty #[.slice (some ⟨g, 0, none⟩) l.length cap, .string ⟨s.toArray⟩]).run Tryd.prog w = .ok (.slice (some ⟨g', 0, none⟩) (l ++ s).length cap') w' ∧ RowW w' base g' cap' (l ++ s) ∧ w.grownBy w' (some g) := by
  obtain ⟨i0, hi, hz0, hz1, hz2⟩ := info_parts info5
  have hss : (⟨s.toArray⟩ : ByteArray).size = s.length := List.size_toArray
  have hll : (l ++ s).length = l.length + s.length := List.length_append
  by_cases hroom : l.length + s.length ≤ cap
  · have hf := Lib.run_firstCells_string (P := Tryd.prog) w 1 ⟨s.toArray⟩
    have hc : ∀ j, j < (bytesV s).length → (w.cell? ⟨g, l.length + j, none⟩).isSome = true := fun j hj => (h.all _ (by rw [bytesV_len] at hj; omega)).1
    have hfz : ∀ j, j < (bytesV s).length → w.frozen? ⟨g, l.length + j, none⟩ = false := fun j hj => (h.all _ (by rw [bytesV_len] at hj; omega)).2
    have hst := run_storeCells_cells (P := Tryd.prog) g l.length (bytesV s) 0 w (by simpa using hc) (by simpa using hfz) (bytesV_one s)
    rw [hss, strV_bytes] at hf
    refine ⟨g, cap, w.setCells g l.length (bytesV s), ?_, ?_, grown_setCells g _ _ w⟩
    · rw [hll]
      simp [Builtin.append_, run_underlying Tryd.underlying22, run_underlying Tryd.underlying9, sizeOf, typeInfo, hi, hz1, Builtin.lenOf, hss, hroom, hf, Addr.add_lit, hst]
    · have hsz := heap_setCells g (bytesV s) l.length w
      refine ⟨⟨h.row.new, by rw [hsz.1]; exact h.row.there, by rw [hll]; exact hroom, h.row.most, ?_, ?_⟩, ?_⟩
      · intro j hj
        rw [hll] at hj
        by_cases hjl : j < l.length
        · rw [World.cell?_setCells_out g (bytesV s) l.length w _ (fun i _ => by simp; omega), h.row.cells j hjl, List.getElem_append_left hjl]
        · have hj2 : j - l.length < (bytesV s).length := by rw [bytesV_len]; omega
          have := World.cell?_setCells_in g (bytesV s) l.length w hc (j - l.length) hj2
          rw [show l.length + (j - l.length) = j by omega] at this
          rw [this, List.getElem_append_right (by omega)]
          simp [bytesV]
      · intro j hj
        rw [World.frozen?_setCells]
        exact (h.all j (by omega)).2
      · intro j hj
        rw [World.frozen?_setCells]
        refine ⟨?_, (h.all j hj).2⟩
        by_cases hin : l.length ≤ j ∧ j < l.length + s.length
        · have hj2 : j - l.length < (bytesV s).length := by rw [bytesV_len]; omega
          have := World.cell?_setCells_in g (bytesV s) l.length w hc (j - l.length) hj2
          rw [show l.length + (j - l.length) = j by omega] at this
          rw [this]; rfl
        · rw [World.cell?_setCells_out g (bytesV s) l.length w _ (fun _ _ => by rw [bytesV_len]; simp; omega)]
          exact (h.all j hj).1
  · have holds : ∀ j u, (bytesV l)[j]? = some u → w.cell? ((⟨g, 0, none⟩ : Addr).add j) = some u := by
      intro j u hu
      obtain ⟨hj, rfl⟩ := bytesV_at _ _ _ hu
      rw [show (⟨g, 0, none⟩ : Addr).add j = ⟨g, j, none⟩ by unfold Addr.add; split <;> simp_all]
      exact h.row.cells j hj
    have hr := Lib.run_append_grow_string (P := Tryd.prog) w 22 9 ty 5 i0 (.int .u8 0) Tryd.underlying22 Tryd.underlying9 hi hz0 ⟨g, 0, none⟩ l.length cap (bytesV l) (by rw [bytesV_len, hz1]; omega) holds ⟨s.toArray⟩ (by rw [hss]; omega) (by rw [hss]; omega) (by rw [hss, hz2, Nat.mul_one]; exact (by have := growslice_fits (need := l.length + s.length) (old := cap) (bytes := 1) (by omega) (by omega); simpa using this))
    rw [hss, strV_bytes] at hr
    have hge := grownCap_ge w (l.length + s.length) cap 5
    have hcm := grownCap_le_maxLen w (l.length + s.length) cap 5 (by unfold maxLen; omega)
    generalize grownCap w (l.length + s.length) cap 5 = c at hr hge hcm
    obtain ⟨C, hC⟩ : ∃ C, (bytesV l).toArray ++ (bytesV s).toArray ++ Builtin.zeroCells (Value.int .u8 0).cells (c - (l.length + s.length)) = C := ⟨_, rfl⟩
    rw [hC] at hr
    have hCs : C.size = c := by
      have hz1' : (Value.int IntKind.u8 0).cells.size = 1 := rfl
      rw [← hC]; simp only [Array.size_append, List.size_toArray, size_zeroCells, hz1', bytesV_len]; omega
    have hown : (w.drew.alloc (.cells C 5)).ownsRow base 5 1 (.slice (some ⟨w.heap.size, 0, none⟩) (l ++ s).length c) (l ++ s).length (bytesV (l ++ s)) := by
      refine ⟨by rw [bytesV_len]; omega, Or.inr ⟨w.heap.size, c, C, rfl, hbase, heap_alloc_new w.drew _, by rw [hll]; exact hge, hcm, by omega, ?_⟩⟩
      rw [← hC]
      simp only [Array.toList_append, List.append_assoc]
      rw [← List.append_assoc, bytesV_append, Nat.mul_one, ← bytesV_len (l ++ s)]
      exact List.take_left
    have hB : RowB (w.drew.alloc (.cells C 5)) base w.heap.size c (l ++ s) := by
      obtain ⟨g2, c2, e2, hrow⟩ := RowB.of_own hown (by simp)
      injection e2 with e3 _ e4
      injection e3 with e3
      injection e3 with e3
      subst e3; subst e4
      exact hrow
    refine ⟨w.heap.size, c, _, by rw [hll]; exact hr, ⟨hB, fun j hj => ?_⟩, ?_⟩
    · have hA : (w.drew.alloc (.cells C 5)).heap[w.heap.size]? = some (.cells C 5) := heap_alloc_new w.drew _
      generalize w.drew.alloc (.cells C 5) = W at hA ⊢
      refine ⟨?_, by simp [World.frozen?, hA]⟩
      simp [World.cell?, hA]
      omega
    · exact ⟨rfl, rfl, rfl, by simp, fun k hk _ => Below.heap_alloc w.drew _ k hk⟩

/-- '[]byte(s)': the new block, its value and its world. -/
theorem RowW.made (w : World) (l : List UInt8) (hl : l.length ≤ 4194304) :
    ∃ cap w', (convert 9 22 (.string ⟨l.toArray⟩)).run Tryd.prog w = .ok (.slice (some ⟨w.heap.size, 0, none⟩) l.length cap) w' ∧ RowW w' w.heap.size w.heap.size cap l ∧ Below w.heap.size w w' := by
  have hconv := run_bytes_of_string (P := Tryd.prog) w 9 22 5 ⟨l.toArray⟩ Tryd.underlying9 Tryd.underlying22 Tryd.underlying5
  have hrow := RowB.made w l (by unfold maxLen; omega)
  have hszs : (⟨l.toArray⟩ : ByteArray).size = l.length := rfl
  rw [hszs] at hconv
  have hge := grownCap_ge w l.length 0 5
  have hCs : (bytesRow ⟨l.toArray⟩ (grownCap w l.length 0 5)).size = grownCap w l.length 0 5 := by simp [bytesRow]; omega
  generalize bytesRow ⟨l.toArray⟩ (grownCap w l.length 0 5) = C at hconv hrow hCs
  generalize grownCap w l.length 0 5 = cp at hconv hrow hge hCs
  refine ⟨cp, _, hconv, ⟨hrow, fun j hj => ?_⟩, ((Below.refl _ w).drew).alloc (Nat.le_refl _) _⟩
  have hA : (w.drew.alloc (.cells C 5 (C.size, C.size + 1))).heap[w.heap.size]? = some (.cells C 5 (C.size, C.size + 1)) := heap_alloc_new w.drew _
  generalize w.drew.alloc (.cells C 5 (C.size, C.size + 1)) = W at hA ⊢
  refine ⟨?_, ?_⟩
  · simp [World.cell?, hA]; omega
  · simp [World.frozen?, hA]; omega

/-- 'append(b, s...)' at a step of a region that draws. -/
theorem step_append_str {P : Program} {w w' : World} {ops : Array Oper} {o : Oper} {a : Act} {K : Act → World → Prop} {Q : Exit → Act → World → Prop} {E : Prop} (hgd : o.guard = none) (s x : Operand) (t u : TypeId)
    (ho : o.op = .call { callee := .builtin .append, args := #[s, x], argTypes := #[t, u] }) (v y v' : Value) (hs : a.eval s = v) (hx : a.eval x = y)
    (hrun : (Builtin.append_ #[t, u] o.type #[v, y]).run P w = .ok v' w') (h : K (a.put o.dst v') w') :
    if Region.wanted o (yielded ops a.tmps) = true then Oper.wp P o a w K Q else E := by
  have hw : Region.wanted o (yielded ops a.tmps) = true := by simp [Region.wanted, hgd]
  rw [if_pos hw]
  unfold Oper.wp
  simp [execOp, ho, resolve, invoke, builtin, hs, hx, hrun, Result.andThen]
  exact h

/-- 'append(b, s...)' in a plain region. -/
theorem wpList_append_str {P : Program} {w w' : World} {ops : Array Oper} {rest : List Oper} {o : Oper} {a : Act} {Q : Exit → Act → World → Prop} (hgd : o.guard = none) (s x : Operand) (t u : TypeId)
    (ho : o.op = .call { callee := .builtin .append, args := #[s, x], argTypes := #[t, u] }) (v y v' : Value) (hs : a.eval s = v) (hx : a.eval x = y)
    (hrun : (Builtin.append_ #[t, u] o.type #[v, y]).run P w = .ok v' w') (h : wpList P ops Q rest (a.put o.dst v') w') : wpList P ops Q (o :: rest) a w := by
  refine wpList_plain hgd fun K hK => ?_
  unfold Oper.wp
  simp [execOp, ho, resolve, invoke, builtin, hs, hx, hrun, Result.andThen]
  exact hK _ _ h

end Go.Proofs.YtdjglpcllcjcfaaDoor
