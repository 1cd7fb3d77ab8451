/-
  Parts of one proof, one behind the other: ImgS7, RtE, InsM.
-/
import Derived.Test.YthjemelnbbpdcaaGreatDoorP20
import Derived.Test.YthjemelnbbpdcaaGreatDoorP19
import Derived.Test.YthjemelnbbpdcaaGreatDoorP17
import Derived.Test.YthjemelnbbpdcaaGreatDoorP11
import Derived.Test.YthjemelnbbpdcaaGreatDoorP16
import Derived.Deep.RegionHeld3
import Derived.Test.YthjemelnbbpdcaaGreatDoorP12
import Derived.Deep.RegionWith

/-! The contract of chapter 14's specification: ReadImage. -/
namespace Go.Proofs.YthjemelnbbpdcaaGreatDoor
open Go.RowKit

/-- How long what is read can be. -/
def Shr14 (k : Nat) (rs : List Rt) : Prop := ∀ r ∈ rs, r.1.length ≤ 400000 ∧ r.2.2.length ≤ k ∧ ∀ i ∈ r.2.2, i.2.2.2.2.length ≤ 400000
theorem addI_sh {O : List Rt} {k : Nat} {x : In13} (h : Shr14 k O) (hO : O ≠ []) (hx : x.2.2.2.2.length ≤ 400000) : Shr14 (k + 1) (addI O x) ∧ (addI O x).length = O.length := by
  obtain ⟨P, r, rfl⟩ : ∃ P r, O = P ++ [r] := ⟨O.dropLast, O.getLast hO, (List.dropLast_concat_getLast hO).symm⟩
  obtain ⟨n, a, c⟩ := r
  rw [addI_snoc]
  refine ⟨fun q hq => ?_, by simp⟩
  rcases List.mem_append.1 hq with h1 | h1
  · have := h q (List.mem_append.2 (Or.inl h1))
    exact ⟨this.1, by omega, this.2.2⟩
  · obtain rfl := List.mem_singleton.1 h1
    have := h (n, a, c) (List.mem_append.2 (Or.inr (List.mem_singleton.2 rfl)))
    refine ⟨this.1, by simp only [List.length_append, List.length_singleton]; have := this.2.1; simp only at this; omega, fun i hi => ?_⟩
    rcases List.mem_append.1 hi with h2 | h2
    · exact this.2.2 i h2
    · obtain rfl := List.mem_singleton.1 h2
      exact hx
theorem readI_sh : ∀ (ls : List (List UInt8)) (O : List Rt) (k : Nat), (∀ l ∈ ls, l.length ≤ 400000) → Shr14 k O → Shr14 (k + ls.length) (readI O ls) ∧ (readI O ls).length ≤ O.length + ls.length
  | [], O, k, _, h => by rw [readI]; exact ⟨h, by simp⟩
  | l :: ls, O, k, hl, h => by
    have hl0 := hl l (List.mem_cons.2 (Or.inl rfl))
    have hls : ∀ q ∈ ls, q.length ≤ 400000 := fun q hq => hl q (List.mem_cons.2 (Or.inr hq))
    have hw := word_lenR 32 l
    rw [readI]
    split
    · have := readI_sh ls (O ++ [((splitL 32 l).getD 1 [], readV ((splitL 32 l).getD 2 []), [])]) (k + 1) hls (fun q hq => by
        rcases List.mem_append.1 hq with h1 | h1
        · have := h q h1
          exact ⟨this.1, by omega, this.2.2⟩
        · obtain rfl := List.mem_singleton.1 h1
          exact ⟨Nat.le_trans (hw 1) hl0, by simp, fun i hi => by simp at hi⟩)
      rw [List.length_append] at this
      refine ⟨?_, by have := this.2; simp only [List.length_cons, List.length_nil] at this ⊢; omega⟩
      rw [List.length_cons, show k + (ls.length + 1) = k + 1 + ls.length by omega]
      exact this.1
    · split
      · exact ⟨fun q hq => (by cases hq), by simp⟩
      · rename_i h2
        have hO : O ≠ [] := fun e => h2 (Or.inr e)
        obtain ⟨h3, h4⟩ := addI_sh (x := insRd (splitL 32 l)) h hO (by
          unfold insRd
          simp only
          split
          · simp
          · exact Nat.le_trans (hw 4) hl0)
        have := readI_sh ls _ (k + 1) hls h3
        rw [h4] at this
        refine ⟨?_, by have := this.2; simp only [List.length_cons]; omega⟩
        rw [List.length_cons, show k + (ls.length + 1) = k + 1 + ls.length by omega]
        exact this.1
theorem readI_short (ls : List (List UInt8)) (hn : ls.length ≤ 400001) (hl : ∀ l ∈ ls, l.length ≤ 400000) : ShortR (readI [] ls) ∧ (readI [] ls).length ≤ 400001 := by
  obtain ⟨h1, h2⟩ := readI_sh ls [] 0 hl (fun q hq => by cases hq)
  refine ⟨fun j => ?_, by simp at h2; omega⟩
  by_cases hj : j < (readI [] ls).length
  · have hm : (readI [] ls).getD j rt0 ∈ readI [] ls := getD_memR _ _ _ hj
    obtain ⟨q1, q2, q3⟩ := h1 _ hm
    refine ⟨by omega, by omega, fun u => ?_⟩
    by_cases hu : u < ((readI [] ls).getD j rt0).2.2.length
    · have := q3 _ (getD_memR _ u in0 hu); omega
    · rw [List.getD_eq_getElem?_getD (l := ((readI [] ls).getD j rt0).2.2), List.getElem?_eq_none (by omega)]; simp [in0]
  · rw [List.getD_eq_getElem?_getD, List.getElem?_eq_none (by omega)]
    exact ⟨by simp [rt0], by simp [rt0], fun u => by simp [rt0, in0]⟩

theorem ri_no {l : List UInt8} (h : readIB l = false) : readIB l = false ∧ readIV l = [] := ⟨h, by unfold readIV; rw [if_neg (by rw [h]; simp)]⟩
theorem ri_bad {l : List UInt8} (h : imageB (readI [] (linesL l)) = false ∨ showI (readI [] (linesL l)) ≠ l) : readIB l = false ∧ readIV l = [] := ri_no (by
  unfold readIB
  rcases h with h | h
  · simp [h]
  · simp [h])
theorem ri_yes {l : List UInt8} (hl : l.length ≤ 400000) (h : imageB (readI [] (linesL l)) = true) (hs : showI (readI [] (linesL l)) = l) : readIB l = true ∧ readIV l = readI [] (linesL l) := by
  have : readIB l = true := by unfold readIB; simp [h, hs, hl]
  exact ⟨this, by unfold readIV; rw [if_pos this]⟩
theorem set1R {X : World} {R : Nat} {a0 : Value} (u : Value) (r0 : X.cell? ⟨R, 0, none⟩ = some a0) : ∃ Y, X.setCell ⟨R, 0, none⟩ u = Y ∧ Y.cell? ⟨R, 0, none⟩ = some u ∧ X.grownBy Y (some R) :=
  ⟨_, rfl, World.cell?_setCell_same _ _ _ r0, grown_set X R 0 u⟩

/-- What ReadImage answers. -/
def RiOut (w : World) (l : List UInt8) (e : Ending) (w' : World) : Prop :=
  ∃ v xs, e = .returned (.tuple #[.agg #[v], .bool (readIB l)]) ∧ (xs : List RV).map (·.1) = readIV l ∧ RtsOwn w' w.heap.size v xs ∧ ApartR (xs.map rvT) ∧ Below w.heap.size w w'
theorem riZero {w Y : World} {l : List UInt8} (hz : readIB l = false ∧ readIV l = []) (hb : Below w.heap.size w Y) : RiOut w l (.returned (.tuple #[.agg #[.slice none 0 0], .bool false])) Y :=
  ⟨.slice none 0 0, [], by rw [hz.1], by rw [hz.2]; rfl, RtsOwn.nil Y _, ApartR.nil, hb⟩

set_option maxHeartbeats 8000000 in
set_option maxRecDepth 100000 in
theorem specReadImage (l : List UInt8) (w : World) :
    Calls Tryz.prog 10 #[.string ⟨l.toArray⟩] w fun e w' => RiOut w l e w' := by
  obtain ⟨D, hD⟩ : ∃ D, w.heap.size = D := ⟨_, rfl⟩
  obtain ⟨W1, hW1⟩ : ∃ W, w.alloc (.cells #[.slice none 0 0] 26) = W := ⟨_, rfl⟩
  have hA1 : W1.heap[D]? = some (.cells #[.slice none 0 0] 26) := by rw [← hW1, ← hD]; exact heap_alloc_new w _
  have hB1 : Below w.heap.size w W1 := by rw [← hW1]; exact (Below.refl _ _).alloc (Nat.le_refl _) _
  have r0 : W1.cell? ⟨D, 0, none⟩ = some (.slice none 0 0) := by simp [World.cell?, hA1]
  have f0 : W1.frozen? ⟨D, 0, none⟩ = false := by simp [World.frozen?, hA1]
  have hDl : D < W1.heap.size := World.block_lt_of_cell? W1 ⟨D, 0, none⟩ r0
  have HK : Hid (∀ V, Below W1.heap.size W1 V → V.cell? ⟨D, 0, none⟩ = some (.slice none 0 0) ∧ V.frozen? ⟨D, 0, none⟩ = false ∧ Below w.heap.size w V ∧ D < V.heap.size) := fun V h => ⟨(h.cell (p := ⟨D, 0, none⟩) hDl).trans r0, (h.frozen (p := ⟨D, 0, none⟩) hDl).trans f0, hB1.trans (h.mono hB1.size), Nat.lt_of_lt_of_le hDl h.size⟩
  have HD : Hid (w.heap.size = D) := hD
  have HDl : Hid (D < W1.heap.size) := hDl
  clear hA1 hB1 hDl
  by_cases hlen : 400000 < (l.length : Int)
  · have HZ : Hid (readIB l = false ∧ readIV l = []) := ri_no (by unfold readIB; rw [decide_eq_false (by omega)]; rfl)
    go_enter Tryz.func10, Tryz.ntmps10
    go_wp2
    obtain ⟨Y, hY, z0, hg⟩ := set1R (.slice none 0 0) r0
    rw [hY]
    refine bodyPost_ret (v := .tuple #[.agg #[.slice none 0 0], .bool false]) (by simp [results, Tryz.results10, go_sem, z0]) rfl ?_
    obtain ⟨_, _, hb, _⟩ := HK.out W1 (Below.refl _ _)
    exact riZero HZ.out (hb.grown hg hb.size (fun k e => by injection e with e; have := HD.out; omega))
  have hlen2 : l.length ≤ 400000 := by omega
  have HLn : Hid (_) := specLines l W1 (by omega)
  have hln := linesL_len l
  have hll := line_lenR l
  have hlm : ∀ q ∈ linesL l, q.length ≤ 400000 := fun q hq => by
    obtain ⟨j, hj, e⟩ := List.mem_iff_getElem.1 hq
    have h := hll j
    rw [List.getD_eq_getElem?_getD, List.getElem?_eq_getElem hj] at h
    simp only [Option.getD_some, e] at h
    omega
  obtain ⟨hsh, hrl⟩ := readI_short (linesL l) (by omega) hlm
  have HSh : Hid (ShortR (readI [] (linesL l))) := hsh
  have HL2 : Hid (l.length ≤ 400000) := hlen2
  obtain ⟨ls, hls⟩ : ∃ ls, linesL l = ls := ⟨_, rfl⟩
  have HLS : Hid (linesL l = ls) := hls
  rw [hls] at HLn hln hll hrl HSh
  have HRd : Hid (∀ (V : World) (g cp : Nat), TextsIn V (some ⟨g, 0, none⟩) ls.length ls → Calls Tryz.prog 27 #[.slice (some ⟨g, 0, none⟩) ls.length cp] V fun e w' => ∃ v xs, e = .returned v ∧ (xs : List RV).map (·.1) = readI [] ls ∧ Rd14 V w' v xs) := fun V g cp h => specReadI (some ⟨g, 0, none⟩) ls.length cp ls V h (by omega) (fun j => by have := hll j; omega)
  clear hls hlm hsh hll
  go_enter Tryz.func10, Tryz.ntmps10
  go_wp2_with fail
  refine Calls.mono HLn.out ?_
  rintro e w2 ⟨gL, cpL, rfl, hownL, hb2⟩
  clear HLn
  obtain ⟨_, aL, cL, eL, htx⟩ := own_texts hownL
  injection eL with e1 _ e3
  subst e1 e3
  have HC : Hid (_) := HRd.out w2 gL cpL htx
  have HB2 : Hid (Below W1.heap.size W1 w2) := hb2
  clear hownL htx HRd hb2 r0 f0
  go_wp2_with fail
  refine Calls.mono HC.out ?_
  rintro e w3 ⟨v, xs, rfl, hxs, hR⟩
  clear HC
  obtain ⟨a, cp, rfl, _, hin⟩ := hR.fo.in
  rw [hxs] at hin
  have hb3 : Below W1.heap.size W1 w3 := HB2.out.trans (hR.b.mono HB2.out.size)
  obtain ⟨rs, hrs⟩ : ∃ rs, readI [] ls = rs := ⟨_, rfl⟩
  have HRS : Hid (readI [] (linesL l) = rs) := by rw [HLS.out]; exact hrs
  rw [hrs] at hin hrl HSh hxs
  have hxl : rs.length = xs.length := hin.1
  obtain ⟨P, hP⟩ : ∃ P, w3.heap.size = P := ⟨_, rfl⟩
  obtain ⟨X4, hX4⟩ : ∃ X, w3.alloc (.cells #[.slice a xs.length cp] 26) = X := ⟨_, rfl⟩
  have hA4 : X4.heap[P]? = some (.cells #[.slice a xs.length cp] 26) := by rw [← hX4, ← hP]; exact heap_alloc_new w3 _
  have hb4 : Below w3.heap.size w3 X4 := by rw [← hX4]; exact (Below.refl _ _).alloc (Nat.le_refl _) _
  have q0 : X4.cell? ⟨P, 0, none⟩ = some (.slice a xs.length cp) := by simp [World.cell?, hA4]
  have hPl : P < X4.heap.size := World.block_lt_of_cell? X4 ⟨P, 0, none⟩ q0
  have HX : Hid (∀ V, Below X4.heap.size X4 V → V.cell? ⟨P, 0, none⟩ = some (.slice a xs.length cp) ∧ RtsIn V a xs.length rs ∧ Below W1.heap.size W1 V ∧ RtsOwn V w2.heap.size (.slice a xs.length cp) xs) := fun V h => ⟨(h.cell (p := ⟨P, 0, none⟩) hPl).trans q0, (hin.below hb4).below h, (hb3.trans (hb4.mono hb3.size)).trans (h.mono (by have := hb4.size; have := hb3.size; omega)), (hR.fo.below hb4).below h⟩
  have HAp : Hid (ApartR (xs.map rvT) ∧ xs.map (·.1) = rs) := ⟨hR.ap, hxs⟩
  have HD2 : Hid (D < w2.heap.size) := Nat.lt_of_lt_of_le HDl.out HB2.out.size
  have HO : Hid (_) := specImageOk a xs.length cp rs X4 (HX.out X4 (Below.refl _ _)).2.1 HSh.out (by omega)
  have HSw : Hid (∀ V, Below X4.heap.size X4 V → imageB rs = true → Calls Tryz.prog 29 #[.slice a xs.length cp] V fun e w' => e = .returned (.string ⟨(showI rs).toArray⟩) ∧ Below V.heap.size V w') := fun V h hi => specShowI a xs.length cp rs V (HX.out V h).2.1 hi
  obtain ⟨ok, hok⟩ : ∃ ok, imageB rs = ok := ⟨_, rfl⟩
  have HOk : Hid (imageB rs = ok) := hok
  rw [hok] at HO
  obtain ⟨nx, hnx⟩ : ∃ nx, xs.length = nx := ⟨_, rfl⟩
  rw [hnx] at hX4 HX HO q0 HSw ⊢
  clear hin hb3 hR hA4 hb4 hPl hok hrs hxs hxl hnx
  go_wp2_with fail
  refine Calls.mono HO.out ?_
  rintro e w5 ⟨rfl, hb5⟩
  clear HO q0
  obtain ⟨q0, _, hW5, _⟩ := HX.out w5 hb5
  obtain ⟨r0, f0, _, _⟩ := HK.out w5 hW5
  cases ok
  · have HZ : Hid (readIB l = false ∧ readIV l = []) := ri_bad (Or.inl (by rw [HRS.out]; exact HOk.out))
    have HV : Hid (Below W1.heap.size W1 w5) := hW5
    clear hb5 hW5
    go_wp2
    obtain ⟨Y, hY, z0, hg⟩ := set1R (.slice none 0 0) r0
    rw [hY]
    refine bodyPost_ret (v := .tuple #[.agg #[.slice none 0 0], .bool false]) (by simp [results, Tryz.results10, go_sem, z0]) rfl ?_
    obtain ⟨_, _, hb, _⟩ := HK.out w5 HV.out
    exact riZero HZ.out (hb.grown hg hb.size (fun k e => by injection e with e; have := HD.out; omega))
  have HS5 : Hid (_) := HSw.out w5 hb5 HOk.out
  have HB5 : Hid (Below X4.heap.size X4 w5) := hb5
  clear hb5 hW5
  go_wp2_with fail
  refine Calls.mono HS5.out ?_
  rintro e w6 ⟨rfl, hb6⟩
  have h6 := HB5.out.trans (hb6.mono HB5.out.size)
  clear HS5 q0 r0 f0 hb6
  obtain ⟨q0, _, hW6, hO6⟩ := HX.out w6 h6
  obtain ⟨r0, f0, _, _⟩ := HK.out w6 hW6
  have HV : Hid (Below W1.heap.size W1 w6 ∧ RtsOwn w6 w2.heap.size (.slice a nx cp) xs) := ⟨hW6, hO6⟩
  obtain ⟨A, hA⟩ : ∃ A, showI rs = A := ⟨_, rfl⟩
  rw [hA]
  clear h6 hW6 hO6
  by_cases hAl : A = l
  · have HY : Hid (readIB l = true ∧ readIV l = rs) := by
      have h := ri_yes HL2.out (by rw [HRS.out]; exact HOk.out) (by rw [HRS.out]; exact hA.trans hAl)
      rw [HRS.out] at h
      exact h
    subst hAl
    have hself : (A != A) = false := by simp
    clear hA
    go_wp2
    obtain ⟨Y, hY, z0, hg⟩ := set1R (.slice a nx cp) r0
    rw [hY]
    refine bodyPost_ret (v := .tuple #[.agg #[.slice a nx cp], .bool true]) (by simp [results, Tryz.results10, go_sem, z0]) rfl ?_
    obtain ⟨_, _, hb, _⟩ := HK.out w6 HV.out.1
    have hOw := HV.out.2
    have hd2 := HD2.out
    have off : ∀ {e size m : Nat} {u : Value} {zs : List Value}, w6.ownsRow w2.heap.size e size u m zs → u.ownBlock = none ∨ u.ownBlock ≠ some D := fun ho => by
      rename_i u _
      cases hu : u.ownBlock with
      | none => exact Or.inl rfl
      | some q => exact Or.inr (by have := (ho.lt q hu).1; intro e; injection e with e; omega)
    exact ⟨.slice a nx cp, xs, by rw [HY.out.1], by rw [HY.out.2]; exact HAp.out.2, (hOw.kept hg (off hOw.row) (fun y hy => off (hOw.trees y hy))).base (by have := HD.out; omega), HAp.out.1, hb.grown hg hb.size (fun k e => by injection e with e; have := HD.out; omega)⟩
  · have HZ : Hid (readIB l = false ∧ readIV l = []) := ri_bad (Or.inr (by rw [HRS.out, hA]; exact hAl))
    have hne : (A != l) = true := bne_iff_ne.2 hAl
    have hne1 : (A == l) = false := beq_eq_false_iff_ne.2 hAl
    clear hA hAl
    go_wp2
    obtain ⟨Y, hY, z0, hg⟩ := set1R (.slice none 0 0) r0
    rw [hY]
    refine bodyPost_ret (v := .tuple #[.agg #[.slice none 0 0], .bool false]) (by simp [results, Tryz.results10, go_sem, z0]) rfl ?_
    obtain ⟨_, _, hb, _⟩ := HK.out w6 HV.out.1
    exact riZero HZ.out (hb.grown hg hb.size (fun k e => by injection e with e; have := HD.out; omega))

end Go.Proofs.YthjemelnbbpdcaaGreatDoor

/-! The laws' own helpers over routines: eqRoutine, eqRoutineS. -/
namespace Go.Proofs.YthjemelnbbpdcaaGreatDoor
open Go.RowKit

set_option maxHeartbeats 1000000 in
set_option maxRecDepth 100000 in
theorem eqRoutineC (s : List UInt8) (n : Int) (t : List In13) (ta tb : Option Addr) (tl ca cb : Nat) (w : World) (ha : InsIn w ta tl t) (hb : InsIn w tb tl t) (hlen : tl ≤ 4194304) :
    Calls Tryz.prog 58 #[.agg #[.string ⟨s.toArray⟩, .int .i64 n, .slice ta tl ca], .agg #[.string ⟨s.toArray⟩, .int .i64 n, .slice tb tl cb]] w fun e w' => e = .returned (.bool true) ∧ Below w.heap.size w w' := by
  have h1 : ∀ n : Int, (n != n) = false := by simp
  have h2 : ∀ l : List UInt8, (l != l) = false := by simp
  have hbW : Below w.heap.size w ((w.alloc (.cells #[.string ⟨s.toArray⟩, .int .i64 n, .slice ta tl ca] 40)).alloc (.cells #[.string ⟨s.toArray⟩, .int .i64 n, .slice tb tl cb] 40)) := ((Below.refl _ _).alloc (Nat.le_refl _) _).alloc (by simp) _
  have HC := eqInsSC ta tb tl ca cb t _ (ha.below hbW) (hb.below hbW) hlen
  clear ha hb
  go_enter Tryz.func58, Tryz.ntmps58
  go_wp2_with fail
  refine HC.mono ?_
  rintro e w1 ⟨rfl, hb1⟩
  have hbd : Below w.heap.size w w1 := hbW.trans (hb1.mono hbW.size)
  clear HC hb1 hbW
  go_wp2
  go_ret
  exact ⟨rfl, hbd⟩

set_option maxHeartbeats 2000000 in
set_option maxRecDepth 100000 in
theorem eqRoutineSC (a b : Option Addr) (len ca cb : Nat) (fs : List Rt) (w : World) (ha : RtsIn w a len fs) (hb : RtsIn w b len fs) (hlen : len ≤ 4194304) (hsh : ∀ j, (fs.getD j rt0).2.2.length ≤ 4194304) :
    Calls Tryz.prog 36 #[.slice a len ca, .slice b len cb] w fun e w' => e = .returned (.bool true) ∧ Below w.heap.size w w' := by
  have HA : Hid (RtsIn w a len fs) := ha
  have HB : Hid (RtsIn w b len fs) := hb
  have HSH : Hid (∀ j, (fs.getD j rt0).2.2.length ≤ 4194304) := hsh
  clear ha hb hsh
  have h1 : ((len : Int) != (len : Int)) = false := by simp
  go_enter Tryz.func36, Tryz.ntmps36
  go_wp2
  go_loopw [5] (fun i wr => ∃ k : Nat, k ≤ len ∧ i = .int .i64 k ∧ Below w.heap.size w wr) (fun i _ => len - (intOf i).toNat)
  case atStart => exact ⟨0, Nat.zero_le _, rfl, Below.refl _ _⟩
  case round =>
    obtain ⟨k, hk, rfl, hB⟩ := hrel
    by_cases hkl : (k : Int) < (len : Int)
    · obtain ⟨b1, o1, rfl, hb1, x0, x1, ta, tl, tc, x2, hn1⟩ := (HA.out.below hB).2 k (by omega)
      obtain ⟨b2, o2, rfl, hb2, y0, y1, tb, tl2, tc2, y2, hn2⟩ := (HB.out.below hB).2 k (by omega)
      have hts := HSH.out k
      obtain ⟨f, hf⟩ : ∃ f, fs.getD k rt0 = f := ⟨_, rfl⟩
      rw [hf] at x0 x1 y0 y1 hn1 hn2 hts
      obtain ⟨s, n, t⟩ := f
      simp only at x0 x1 y0 y1 hn1 hn2 hts
      obtain rfl : t.length = tl := hn1.1
      obtain rfl : t.length = tl2 := hn2.1
      have hn1' : InsIn wr.drew ta t.length t := hn1.below ⟨rfl, rfl, rfl, Nat.le_refl _, fun _ _ => rfl⟩
      have hn2' : InsIn wr.drew tb t.length t := hn2.below ⟨rfl, rfl, rfl, Nat.le_refl _, fun _ _ => rfl⟩
      clear hf hn1 hn2
      go_wp2
      go_region_held3 (fun w' => w'.cell? ⟨b1, o1 + k * 3, none⟩ = some (.string ⟨s.toArray⟩) ∧ w'.cell? ⟨b1, o1 + k * 3 + 1, none⟩ = some (.int .i64 n) ∧ w'.cell? ⟨b1, o1 + k * 3 + 2, none⟩ = some (.slice ta t.length tc) ∧ w'.cell? ⟨b2, o2 + k * 3, none⟩ = some (.string ⟨s.toArray⟩) ∧ w'.cell? ⟨b2, o2 + k * 3 + 1, none⟩ = some (.int .i64 n) ∧ w'.cell? ⟨b2, o2 + k * 3 + 2, none⟩ = some (.slice tb t.length tc2)) (go_keep) (first | (go_at_call 58; refine (eqRoutineC s n t ta tb t.length tc tc2 _ hn1' hn2' hts).mono ?_; rintro e w1 ⟨rfl, hw1⟩; have d0 : w1.cell? ⟨b1, o1 + k * 3, none⟩ = some (.string ⟨s.toArray⟩) := (hw1.cell (p := ⟨b1, o1 + k * 3, none⟩) hb1).trans x0; have d1 : w1.cell? ⟨b1, o1 + k * 3 + 1, none⟩ = some (.int .i64 n) := (hw1.cell (p := ⟨b1, o1 + k * 3 + 1, none⟩) hb1).trans x1; have d2 : w1.cell? ⟨b1, o1 + k * 3 + 2, none⟩ = some (.slice ta t.length tc) := (hw1.cell (p := ⟨b1, o1 + k * 3 + 2, none⟩) hb1).trans x2; have e0 : w1.cell? ⟨b2, o2 + k * 3, none⟩ = some (.string ⟨s.toArray⟩) := (hw1.cell (p := ⟨b2, o2 + k * 3, none⟩) hb2).trans y0; have e1 : w1.cell? ⟨b2, o2 + k * 3 + 1, none⟩ = some (.int .i64 n) := (hw1.cell (p := ⟨b2, o2 + k * 3 + 1, none⟩) hb2).trans y1; have e2 : w1.cell? ⟨b2, o2 + k * 3 + 2, none⟩ = some (.slice tb t.length tc2) := (hw1.cell (p := ⟨b2, o2 + k * 3 + 2, none⟩) hb2).trans y2))
      all_goals go_wp2
      go_roundw
      case rel => exact ⟨k + 1, by omega, by go_num, hB.trans ⟨hw1.os, hw1.tape, hw1.output, hw1.size, fun q hq => hw1.block q (by have := hB.size; show q < wr.heap.size; omega)⟩⟩
      case measure => simp [intOf]; omega
    · go_wp2
      go_ret
      exact ⟨rfl, hB⟩

end Go.Proofs.YthjemelnbbpdcaaGreatDoor

/-! The laws' own helpers over rows of instructions: markInsS, heldInsS. -/
namespace Go.Proofs.YthjemelnbbpdcaaGreatDoor
open Go.RowKit

/-- The marks of m instructions, from k on. -/
def marksC (k : Nat) : Nat → List In13
  | 0 => []
  | m + 1 => marksC k m ++ [(((k + 5 * m : Nat) : Int), ((k + 5 * m + 1 : Nat) : Int), ((k + 5 * m + 1 + 1 : Nat) : Int), ((k + 5 * m + 1 + 1 + 1 : Nat) : Int), markL (k + 5 * m + 1 + 1 + 1 + 1))]
theorem marksC_len (k m : Nat) : (marksC k m).length = m := by
  induction m with
  | zero => rfl
  | succ m ih => simp [marksC, ih]
theorem marksC_at (k m j : Nat) (h : j < m) : (marksC k m).getD j in0 = (((k + 5 * j : Nat) : Int), ((k + 5 * j + 1 : Nat) : Int), ((k + 5 * j + 1 + 1 : Nat) : Int), ((k + 5 * j + 1 + 1 + 1 : Nat) : Int), markL (k + 5 * j + 1 + 1 + 1 + 1)) := by
  induction m with
  | zero => omega
  | succ m ih =>
    unfold marksC
    by_cases hj : j < m
    · rw [← ih hj]
      simp [List.getD, List.getElem?_append, marksC_len, hj]
    · obtain rfl : j = m := by omega
      simp [List.getD, marksC_len]
theorem marksC_set (k i : Nat) (ns : List In13) (h : i < ns.length) : (marksC k i ++ ns.drop i).set i (((k + 5 * i : Nat) : Int), ((k + 5 * i + 1 : Nat) : Int), ((k + 5 * i + 1 + 1 : Nat) : Int), ((k + 5 * i + 1 + 1 + 1 : Nat) : Int), markL (k + 5 * i + 1 + 1 + 1 + 1)) = marksC k (i + 1) ++ ns.drop (i + 1) := by
  rw [List.set_append_right _ _ (by rw [marksC_len]; omega), marksC_len, Nat.sub_self, List.drop_eq_getElem_cons h, List.set_cons_zero]
  conv => rhs; unfold marksC
  rw [List.append_assoc]; rfl

set_option maxHeartbeats 4000000 in
set_option maxRecDepth 100000 in
theorem markInsSC (w : World) (base g cp n k0 : Nat) (ns : List In13) (hn : n ≤ 1100000) (hk0 : 0 < k0) (hk1 : k0 ≤ 30000000)
    (h : w.ownsRow base 57 5 (.slice (some ⟨g, 0, none⟩) n cp) n (insV ns)) :
    Calls Tryz.prog 60 #[.slice (some ⟨g, 0, none⟩) n cp, .int .i64 k0] w fun e w' => e = .returned (.int .i64 ((k0 + 5 * n : Nat) : Int)) ∧ w'.ownsRow base 57 5 (.slice (some ⟨g, 0, none⟩) n cp) n (insV (marksC k0 n)) ∧ w.grownBy w' (some g) := by
  have hbl := (own_ins h).1
  go_enter Tryz.func60, Tryz.ntmps60
  go_wp2
  go_loopw [1, 5] (fun k i wr => ∃ m : Nat, m ≤ n ∧ i = .int .i64 m ∧ k = .int .i64 ((k0 + 5 * m : Nat) : Int) ∧ wr.ownsRow base 57 5 (.slice (some ⟨g, 0, none⟩) n cp) n (insV (marksC k0 m ++ ns.drop m)) ∧ w.grownBy wr (some g)) (fun _ i _ => n - (intOf i).toNat)
  case atStart => exact ⟨0, Nat.zero_le _, rfl, rfl, h, World.grownBy.refl _ _⟩
  case round =>
    obtain ⟨m, hm, rfl, rfl, hown, hg⟩ := hrel
    by_cases hlt : (m : Int) < (n : Int)
    · have hl2 : (marksC k0 m ++ ns.drop m).length = n := (own_ins hown).1
      have hset := marksC_set k0 m ns (by omega)
      obtain ⟨q, hq⟩ : ∃ q, k0 + 5 * m = q := ⟨_, rfl⟩
      have hq3 : q ≤ 36500000 := by omega
      have HQ2 : Hid (k0 + 5 * (m + 1) = q + 1 + 1 + 1 + 1 + 1) := by exact (by omega : k0 + 5 * (m + 1) = q + 1 + 1 + 1 + 1 + 1)
      rw [hq] at hset ⊢
      clear hq
      obtain ⟨v0, v1, v2, v3, v4⟩ := insV_at (marksC k0 m ++ ns.drop m) m (by omega)
      obtain ⟨xs, hxs⟩ : ∃ xs, insV (marksC k0 m ++ ns.drop m) = xs := ⟨_, rfl⟩
      have hset2 := insV_set (marksC k0 m ++ ns.drop m) m (q : Int) ((q + 1 : Nat) : Int) ((q + 1 + 1 : Nat) : Int) ((q + 1 + 1 + 1 : Nat) : Int) (markL (q + 1 + 1 + 1 + 1))
      rw [hset, hxs] at hset2
      rw [hxs] at hown v0 v1 v2 v3 v4
      have HSET : Hid (_) := hset2
      clear hset hset2 hxs
      obtain ⟨u0, d0⟩ : ∃ u, wr.cell? ⟨g, m * 5, none⟩ = some u := by rw [hown.cellAt (m * 5) (by omega), v0]; exact ⟨_, rfl⟩
      obtain ⟨u1, d1⟩ : ∃ u, wr.cell? ⟨g, m * 5 + 1, none⟩ = some u := by rw [hown.cellAt (m * 5 + 1) (by omega), v1]; exact ⟨_, rfl⟩
      obtain ⟨u2, d2⟩ : ∃ u, wr.cell? ⟨g, m * 5 + 2, none⟩ = some u := by rw [hown.cellAt (m * 5 + 2) (by omega), v2]; exact ⟨_, rfl⟩
      obtain ⟨u3, d3⟩ : ∃ u, wr.cell? ⟨g, m * 5 + 3, none⟩ = some u := by rw [hown.cellAt (m * 5 + 3) (by omega), v3]; exact ⟨_, rfl⟩
      have e0 := hown.frozenAt (m * 5)
      have e1 := hown.frozenAt (m * 5 + 1)
      have e2 := hown.frozenAt (m * 5 + 2)
      have e3 := hown.frozenAt (m * 5 + 3)
      have hs1 := hown.stored (m * 5) (.int .i64 (q : Int))
      have hs2 := hs1.1.stored (m * 5 + 1) (.int .i64 ((q + 1 : Nat) : Int))
      have hs3 := hs2.1.stored (m * 5 + 2) (.int .i64 ((q + 1 + 1 : Nat) : Int))
      have hs4 := hs3.1.stored (m * 5 + 3) (.int .i64 ((q + 1 + 1 + 1 : Nat) : Int))
      obtain ⟨W1, hW1⟩ : ∃ W1, (((wr.setCell ⟨g, m * 5, none⟩ (.int .i64 (q : Int))).setCell ⟨g, m * 5 + 1, none⟩ (.int .i64 ((q + 1 : Nat) : Int))).setCell ⟨g, m * 5 + 2, none⟩ (.int .i64 ((q + 1 + 1 : Nat) : Int))).setCell ⟨g, m * 5 + 3, none⟩ (.int .i64 ((q + 1 + 1 + 1 : Nat) : Int)) = W1 := ⟨_, rfl⟩
      rw [hW1] at hs4
      have HS1 : Hid (_) := hs4.1
      have HG1 : Hid (w.grownBy W1 (some g)) := (((hg.trans hs1.2).trans hs2.2).trans hs3.2).trans hs4.2
      clear hs1 hs2 hs3 hs4
      go_wp2_with fail
      refine (markTextC (q + 1 + 1 + 1 + 1) _ (by omega) (by omega)).mono ?_
      rintro e w2 ⟨rfl, hg2⟩
      first | (have hg2' : W1.grownBy w2 none := hg2) | (have hg2' : W1.grownBy w2 none := by rw [← hW1]; exact hg2)
      have hown2 := own_none HS1.out hg2'
      obtain ⟨u4, d4⟩ : ∃ u, w2.cell? ⟨g, m * 5 + 4, none⟩ = some u := by
        rw [hown2.cellAt (m * 5 + 4) (by omega), List.getElem?_set_ne (by omega), List.getElem?_set_ne (by omega), List.getElem?_set_ne (by omega), List.getElem?_set_ne (by omega), v4]; exact ⟨_, rfl⟩
      have e4 := hown2.frozenAt (m * 5 + 4)
      have hs5 := hown2.stored (m * 5 + 4) (.string ⟨(markL (q + 1 + 1 + 1 + 1)).toArray⟩)
      rw [HSET.out] at hs5
      have hg5 := (HG1.out.andThen hg2' (by simp)).trans hs5.2
      have hs6 := hs5.1
      clear hown2 hs5 hg2 hg2' hown hg HS1 HG1 d0 d1 d2 d3 e0 e1 e2 e3 v0 v1 v2 v3 v4 HSET
      go_wp2
      go_roundw
      case rel => exact ⟨m + 1, by omega, by go_num, by rw [HQ2.out]; go_num, hs6, hg5⟩
      case measure => simp [intOf]; omega
    · obtain rfl : m = n := by omega
      have hd : ns.drop m = [] := List.drop_eq_nil_of_le (by omega)
      rw [hd, List.append_nil] at hown
      clear hd
      go_wp2
      go_ret
      exact ⟨rfl, hown, hg⟩

set_option maxHeartbeats 1000000 in
set_option maxRecDepth 100000 in
theorem markInsSNil (w : World) (k0 : Nat) :
    Calls Tryz.prog 60 #[.slice none 0 0, .int .i64 k0] w fun e w' => e = .returned (.int .i64 (k0 : Int)) ∧ w' = w := by
  go_enter Tryz.func60, Tryz.ntmps60
  go_wp2
  refine wp_loop_rounds 1 ?_
  rw [rounds_succ]
  go_wp2
  go_ret
  exact ⟨rfl, rfl⟩

theorem markInsSV (w : World) (base n k0 : Nat) (v : Value) (ns : List In13) (hn : n ≤ 1100000) (hk0 : 0 < k0) (hk1 : k0 ≤ 30000000) (h : w.ownsRow base 57 5 v n (insV ns)) :
    Calls Tryz.prog 60 #[v, .int .i64 k0] w fun e w' => e = .returned (.int .i64 ((k0 + 5 * n : Nat) : Int)) ∧ w'.ownsRow base 57 5 v n (insV (marksC k0 n)) ∧ w.grownBy w' v.ownBlock := by
  rcases own_forms h with ⟨rfl, rfl, _⟩ | ⟨g, cp, rfl⟩
  · refine (markInsSNil w k0).mono ?_
    rintro e w' ⟨rfl, rfl⟩
    exact ⟨rfl, World.ownsRow_nil _ _ _ _, World.grownBy.refl _ _⟩
  · exact markInsSC w base g cp n k0 ns hn hk0 hk1 h

set_option maxHeartbeats 4000000 in
set_option maxRecDepth 100000 in
theorem heldInsSC (w : World) (a : Option Addr) (cap n k0 : Nat) (hn : n ≤ 1100000) (hk0 : 0 < k0) (hk1 : k0 ≤ 30000000) (h : InsIn w a n (marksC k0 n)) :
    Calls Tryz.prog 61 #[.slice a n cap, .int .i64 k0] w fun e w' => e = .returned (.int .i64 ((k0 + 5 * n : Nat) : Int)) ∧ w.grownBy w' none := by
  have hself : ∀ l : List UInt8, (l != l) = false := by simp
  have hne : ∀ n : Int, (n != n) = false := by simp
  have HI : Hid (InsIn w a n (marksC k0 n)) := h
  clear h
  go_enter Tryz.func61, Tryz.ntmps61
  go_wp2
  go_loopw [1, 5] (fun k i wr => ∃ m : Nat, m ≤ n ∧ i = .int .i64 m ∧ k = .int .i64 ((k0 + 5 * m : Nat) : Int) ∧ w.grownBy wr none) (fun _ i _ => n - (intOf i).toNat)
  case atStart => exact ⟨0, Nat.zero_le _, rfl, rfl, World.grownBy.refl _ _⟩
  case round =>
    obtain ⟨m, hm, rfl, rfl, hg⟩ := hrel
    by_cases hlt : (m : Int) < (n : Int)
    · obtain ⟨b, off, rfl, hbl, c0, c1, c2, c3, c4⟩ := HI.out.2 m (by omega)
      rw [marksC_at k0 n m (by omega)] at c0 c1 c2 c3 c4
      simp only at c0 c1 c2 c3 c4
      obtain ⟨q, hq⟩ : ∃ q, k0 + 5 * m = q := ⟨_, rfl⟩
      have HQ2 : Hid (k0 + 5 * (m + 1) = q + 1 + 1 + 1 + 1 + 1) := by exact (by omega : k0 + 5 * (m + 1) = q + 1 + 1 + 1 + 1 + 1)
      have hq3 : q ≤ 36500000 := by omega
      rw [hq] at c0 c1 c2 c3 c4 ⊢
      clear hq
      have x0 : wr.cell? ⟨b, off + m * 5, none⟩ = some (.int .i64 (q : Int)) := hg.cell c0 (by simp)
      have x1 : wr.cell? ⟨b, off + m * 5 + 1, none⟩ = some (.int .i64 ((q : Int) + 1)) := hg.cell c1 (by simp)
      have x2 : wr.cell? ⟨b, off + m * 5 + 2, none⟩ = some (.int .i64 ((q : Int) + 1 + 1)) := hg.cell c2 (by simp)
      have x3 : wr.cell? ⟨b, off + m * 5 + 3, none⟩ = some (.int .i64 ((q : Int) + 1 + 1 + 1)) := hg.cell c3 (by simp)
      have x4 : wr.cell? ⟨b, off + m * 5 + 4, none⟩ = some (.string ⟨(markL (q + 1 + 1 + 1 + 1)).toArray⟩) := hg.cell c4 (by simp)
      clear c0 c1 c2 c3 c4
      go_wp2
      go_region_with (go_at_call 59; refine (markTextC (q + 1 + 1 + 1 + 1) _ (by omega) (by omega)).mono ?_; rintro e w1 ⟨rfl, hg1⟩; have x41 := hg1.cell (a := ⟨b, off + m * 5 + 4, none⟩) x4 (by simp))
      all_goals (try go_wp2)
      all_goals
        go_roundw
        case rel => exact ⟨m + 1, by omega, by go_num, by rw [HQ2.out]; go_num, by first | exact hg.trans hg1 | exact (hg.trans (grown_drew _ _)).trans hg1⟩
        case measure => simp [intOf]; omega
    · obtain rfl : m = n := by omega
      go_wp2
      go_ret
      exact ⟨rfl, hg⟩

theorem heldInsSV (w : World) (base n k0 : Nat) (v : Value) (hn : n ≤ 1100000) (hk0 : 0 < k0) (hk1 : k0 ≤ 30000000) (h : w.ownsRow base 57 5 v n (insV (marksC k0 n))) :
    Calls Tryz.prog 61 #[v, .int .i64 k0] w fun e w' => e = .returned (.int .i64 ((k0 + 5 * n : Nat) : Int)) ∧ w.grownBy w' none := by
  obtain ⟨_, a, cap, rfl, hin⟩ := own_ins h
  exact heldInsSC w a cap n k0 hn hk0 hk1 hin

end Go.Proofs.YthjemelnbbpdcaaGreatDoor
