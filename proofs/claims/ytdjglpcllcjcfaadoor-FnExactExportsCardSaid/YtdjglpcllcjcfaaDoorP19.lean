/-
  Parts of one proof, one behind the other: CheckS2, CheckS3, CheckS4, ExpI, FnE, CellA.
-/
import Derived.Test.YtdjglpcllcjcfaaDoorP18
import Derived.Test.YtdjglpcllcjcfaaDoorP3
import Derived.Test.YtdjglpcllcjcfaaDoorP4
import Derived.Test.YtdjglpcllcjcfaaDoorP8
import Derived.Test.YtdjglpcllcjcfaaDoorP13
import Derived.Test.YtdjglpcllcjcfaaDoorP11
import Derived.Test.YtdjglpcllcjcfaaDoorP5
import Derived.Test.YtdjglpcllcjcfaaDoorP12

/-! The contracts of chapter 9's specification: CallCode, what is wrong in a function. -/
namespace Go.Proofs.YtdjglpcllcjcfaaDoor
open Go.RowKit

set_option maxHeartbeats 4000000 in
set_option maxRecDepth 100000 in
theorem specCallCode (a : Option Addr) (len cap : Nat) (ps : List Pk) (s : List UInt8) (at_ : Int) (n : Nd) (w : World) (hl : PkgsIn w a len ps) (hlen : len ≤ 1048576) (hsh : ShortPs ps) (hnp : n.2.2.1.length ≤ 1048576) (hnf : n.2.2.2.length ≤ 1048576) :
    Calls Tryd.prog 9 #[.slice a len cap, .string ⟨s.toArray⟩, .int .i64 at_, nodeVal n] w fun e w' => e = .returned (.int .i64 (callV ps s at_ n)) ∧ Below w.heap.size w w' := by
  have HNo : Hid (∀ W, Calls Tryd.prog 35 #[nodeVal n] W fun e w' => e = .returned (.bool (nodeB n)) ∧ Below W.heap.size W w') := fun W => specNodeOk n W hnp hnf
  have HC9 : Hid (∀ W (nm : List UInt8) (ia : Option Addr) (il ic : Nat) (fa : Option Addr) (fl fc : Nat) (ims : List (List UInt8)) (fs : List Fn), PkgsIn W a len ps → TextsIn W ia il ims → FuncsIn W fa fl fs → il ≤ 1048576 → fl ≤ 1048576 → Calls Tryd.prog 36 #[.slice a len cap, .agg #[.string ⟨nm.toArray⟩, .slice ia il ic, .slice fa fl fc], .int .i64 at_, nodeVal n] W fun e w' => e = .returned (.int .i64 (call9 ps (nm, ims, fs) at_ n)) ∧ Below W.heap.size W w') := fun W nm ia il ic fa fl fc ims fs h1 h2 h3 h4 h5 => specCall9 a len cap ps nm ia il ic fa fl fc ims fs at_ n W h1 h2 h3 hlen h4 h5 hsh
  have HV : Hid (callV ps s at_ n = if callB ps s at_ n then call9 ps (pkOf ps s) at_ n else -1) := rfl
  obtain ⟨k, A, x, fn⟩ := n
  unfold nodeVal at HNo HC9 ⊢
  simp only at HNo HC9 ⊢
  obtain ⟨⟨n0, n1, n2, n3⟩, hb1⟩ := node_new w (.int .i64 k) (.int .i64 A) (.string ⟨x.toArray⟩) (.string ⟨fn.toArray⟩) 26
  obtain ⟨W1, hW1⟩ : ∃ W1, w.alloc (.cells #[.int .i64 k, .int .i64 A, .string ⟨x.toArray⟩, .string ⟨fn.toArray⟩] 26) = W1 := ⟨_, rfl⟩
  have hs1 : W1.heap.size = w.heap.size + 1 := by rw [← hW1]; simp
  rw [hW1] at n0 n1 n2 n3 hb1
  have HP1 : Hid (PkgsIn W1 a len ps) := hl.below hb1
  have HB1 : Hid (Below w.heap.size w W1) := hb1
  have HPr : Hid (_) := specProjectOk a len cap ps W1 HP1.out hlen hsh
  clear hl hb1
  rcases hp : projB ps with _ | _
  · have HR : Hid (callV ps s at_ (k, A, x, fn) = -1) := by exact (by rw [HV.out, if_neg (fun h => by have := h.1; rw [hp] at this; cases this)] : callV ps s at_ (k, A, x, fn) = -1)
    rw [hp] at HPr
    clear hp
    go_enter Tryd.func9, Tryd.ntmps9
    go_wp2_with (go_at_call 33; refine Calls.mono HPr.out ?_; rintro e w2 ⟨rfl, hb2⟩)
    go_ret
    exact ⟨by rw [HR.out]; rfl, HB1.out.trans (hb2.mono HB1.out.size)⟩
  rw [hp] at HPr
  have HA8 : Hid (∀ W, PkgsIn W a len ps → Calls Tryd.prog 34 #[.slice a len cap, .string ⟨s.toArray⟩] W fun e w' => e = .returned (.int .i64 (at8 ps s)) ∧ w' = W) := fun W hW => specAt8 a len cap ps s W hW hlen
  go_enter Tryd.func9, Tryd.ntmps9
  go_wp2_with fail
  refine Calls.mono HPr.out ?_
  rintro e w2 ⟨rfl, hb2⟩
  have HP2 : Hid (PkgsIn w2 a len ps) := HP1.out.below hb2
  have HB2 : Hid (Below w.heap.size w w2) := HB1.out.trans (hb2.mono HB1.out.size)
  have c0 := (hb2.cell (p := ⟨w.heap.size, 0, none⟩) (by rw [hs1]; simp)).trans n0
  have c1 := (hb2.cell (p := ⟨w.heap.size, 1, none⟩) (by rw [hs1]; simp)).trans n1
  have c2 := (hb2.cell (p := ⟨w.heap.size, 2, none⟩) (by rw [hs1]; simp)).trans n2
  have c3 := (hb2.cell (p := ⟨w.heap.size, 3, none⟩) (by rw [hs1]; simp)).trans n3
  have hsz2 : w.heap.size < w2.heap.size := by have := hb2.size; omega
  clear hb2 HPr HP1 HB1 n0 n1 n2 n3 hW1
  have HAs : Hid (_) := HA8.out w2 HP2.out
  rcases at8_is ps s with ⟨e8, _⟩ | ⟨j, hj, e8, hjn, hsn⟩
  · have HR : Hid (callV ps s at_ (k, A, x, fn) = -1) := by exact (by rw [HV.out, if_neg (fun h => by have := h.2.1; omega)] : callV ps s at_ (k, A, x, fn) = -1)
    rw [e8] at HAs
    clear hp e8
    go_wp2_with (go_at_call 34; refine Calls.mono HAs.out ?_; rintro e w3 ⟨rfl, hw3⟩; obtain rfl := hw3.symm)
    go_ret
    exact ⟨by rw [HR.out]; rfl, HB2.out⟩
  have hj0 : ¬ (j : Int) < 0 := by omega
  have hpk : pkOf ps s = ps.getD j pk0 := by unfold pkOf; rw [e8]; rfl
  rw [e8] at HAs
  go_wp2_with fail
  refine Calls.mono HAs.out ?_
  rintro e w3 ⟨rfl, hw3⟩
  obtain rfl := hw3.symm
  have HNk : Hid (_) := HNo.out w2
  clear HAs
  go_wp2_with fail
  rcases hnb : nodeB (k, A, x, fn) with _ | _
  · have HR : Hid (callV ps s at_ (k, A, x, fn) = -1) := by exact (by rw [HV.out, if_neg (fun h => by have := h.2.2.1; rw [hnb] at this; cases this)] : callV ps s at_ (k, A, x, fn) = -1)
    rw [hnb] at HNk
    refine Calls.mono HNk.out ?_
    rintro e w4 ⟨rfl, hb4⟩
    have HB4 : Hid (Below w.heap.size w w4) := HB2.out.trans (hb4.mono HB2.out.size)
    clear hb4 hnb hp
    go_wp2
    go_ret
    exact ⟨by rw [HR.out]; rfl, HB4.out⟩
  rw [hnb] at HNk
  refine Calls.mono HNk.out ?_
  rintro e w4 ⟨rfl, hb4⟩
  have HB4 : Hid (Below w.heap.size w w4) := HB2.out.trans (hb4.mono HB2.out.size)
  have HP4 : Hid (PkgsIn w4 a len ps) := HP2.out.below hb4
  have d0 := (hb4.cell (p := ⟨w.heap.size, 0, none⟩) hsz2).trans c0
  have d1 := (hb4.cell (p := ⟨w.heap.size, 1, none⟩) hsz2).trans c1
  have d2 := (hb4.cell (p := ⟨w.heap.size, 2, none⟩) hsz2).trans c2
  have d3 := (hb4.cell (p := ⟨w.heap.size, 3, none⟩) hsz2).trans c3
  have hsz4 : w.heap.size < w4.heap.size := Nat.lt_of_lt_of_le hsz2 hb4.size
  clear hb4 HP2 HB2 c0 c1 c2 c3 HNk HNo
  by_cases hk8 : k = 8
  · subst hk8
    obtain ⟨b, off, rfl, hbl, r0, ia, il, ic, fa, fl, fc, r1, r2, hti, hfi⟩ := HP4.out.2 j (by rw [← HP4.out.1]; exact hj)
    have hsj := hsh j
    have hil : il ≤ 1048576 := by rw [← hti.1]; exact hsj.2.1
    have hfl : fl ≤ 1048576 := by rw [← hfi.1]; exact hsj.2.2.2.1
    have hfl0 := hfi.1
    have hjlen : (j : Int) < (len : Int) := by have := HP4.out.1; omega
    obtain ⟨p, hpe⟩ : ∃ p, ps.getD j pk0 = p := ⟨_, rfl⟩
    rw [hpe] at hpk r0 hti hfi hfl0
    have HB : Hid (callB ps s at_ (8, A, x, fn) ↔ 0 ≤ at_ ∧ at_ < (fl : Int)) := by exact (by
      unfold callB
      rw [hpk, hp, hnb, hfl0]
      exact ⟨fun h => ⟨h.2.2.2.2.1, h.2.2.2.2.2⟩, fun h => ⟨rfl, by omega, rfl, rfl, h.1, h.2⟩⟩ : callB ps s at_ (8, A, x, fn) ↔ 0 ≤ at_ ∧ at_ < (fl : Int))
    rw [hpk] at HV
    obtain ⟨nm, ims, fs⟩ := p
    simp only at r0 hti hfi
    obtain ⟨bx, hbx⟩ := Box3.new w4 (.string ⟨nm.toArray⟩) (.slice ia il ic) (.slice fa fl fc) 33
    obtain ⟨W5, hW5⟩ : ∃ W5, w4.alloc (.cells #[.string ⟨nm.toArray⟩, .slice ia il ic, .slice fa fl fc] 33) = W5 := ⟨_, rfl⟩
    rw [hW5] at bx hbx
    have b0 := bx.c0
    have b1 := bx.c1
    have b2 := bx.c2
    have e0 := (hbx.cell (p := ⟨w.heap.size, 0, none⟩) hsz4).trans d0
    have e1 := (hbx.cell (p := ⟨w.heap.size, 1, none⟩) hsz4).trans d1
    have e2 := (hbx.cell (p := ⟨w.heap.size, 2, none⟩) hsz4).trans d2
    have e3 := (hbx.cell (p := ⟨w.heap.size, 3, none⟩) hsz4).trans d3
    have HB5 : Hid (Below w.heap.size w W5) := HB4.out.trans (hbx.mono HB4.out.size)
    have HAs : Hid (_) := HA8.out w4 HP4.out
    rw [e8] at HAs
    have HCl : Hid (_) := HC9.out W5 nm ia il ic fa fl fc ims fs (HP4.out.below hbx) (hti.below hbx) (hfi.below hbx) hil hfl
    clear bx hbx hp hnb hpk hpe hti hfi hsj e8 hfl0 HC9 HA8 hsh
    by_cases hat0 : at_ < 0
    · have HR : Hid (callV ps s at_ (8, A, x, fn) = -1) := by exact (by rw [HV.out, if_neg (fun h => by have := (HB.out.1 h).1; omega)] : callV ps s at_ (8, A, x, fn) = -1)
      go_wp2_with (go_at_call 34; refine Calls.mono HAs.out ?_; rintro e w6 ⟨rfl, hw6⟩; obtain rfl := hw6.symm)
      go_ret
      exact ⟨by rw [HR.out]; rfl, HB5.out⟩
    · by_cases hatl : (fl : Int) ≤ at_
      · have HR : Hid (callV ps s at_ (8, A, x, fn) = -1) := by exact (by rw [HV.out, if_neg (fun h => by have := (HB.out.1 h).2; omega)] : callV ps s at_ (8, A, x, fn) = -1)
        go_wp2_with (go_at_call 34; refine Calls.mono HAs.out ?_; rintro e w6 ⟨rfl, hw6⟩; obtain rfl := hw6.symm)
        go_ret
        exact ⟨by rw [HR.out]; rfl, HB5.out⟩
      · have HR : Hid (callV ps s at_ (8, A, x, fn) = call9 ps (nm, ims, fs) at_ (8, A, x, fn)) := by exact (by rw [HV.out, if_pos (HB.out.2 ⟨by omega, by omega⟩)] : callV ps s at_ (8, A, x, fn) = call9 ps (nm, ims, fs) at_ (8, A, x, fn))
        go_wp2_with fail
        refine Calls.mono HAs.out ?_
        rintro e w6 ⟨rfl, hw6⟩
        obtain rfl := hw6.symm
        go_wp2_with fail
        refine Calls.mono HCl.out ?_
        rintro e w7 ⟨rfl, hb7⟩
        have HB7 : Hid (Below w.heap.size w w7) := HB5.out.trans (hb7.mono HB5.out.size)
        clear hb7
        go_wp2
        go_ret
        exact ⟨by rw [HR.out]; rfl, HB7.out⟩
  · have HR : Hid (callV ps s at_ (k, A, x, fn) = -1) := by exact (by rw [HV.out, if_neg (fun h => hk8 h.2.2.2.1)] : callV ps s at_ (k, A, x, fn) = -1)
    have hkb : (k != 8) = true := by rw [bne_iff_ne]; exact hk8
    have hkb2 : (k == 8) = false := beq_eq_false_iff_ne.2 hk8
    clear hp hnb
    go_wp2
    go_ret
    exact ⟨by rw [HR.out]; rfl, HB4.out⟩


end Go.Proofs.YtdjglpcllcjcfaaDoor

/-! The contracts of chapter 9's specification: the first that is wrong in a project. -/
namespace Go.Proofs.YtdjglpcllcjcfaaDoor
open Go.RowKit

def fltVal (f : Flt) : Value := .agg #[.int .i64 f.1, .string ⟨f.2.1.toArray⟩, .string ⟨f.2.2.toArray⟩]
/-- The box of the answer. -/
def FBox (Z : World) (R : Nat) : Prop := Box3 Z R (.int .i64 0) (.string ⟨#[]⟩) (.string ⟨#[]⟩) ∧ ∀ j, Z.frozen? ⟨R, j, none⟩ = false
theorem FBox.below {Z Y : World} {R : Nat} (h : FBox Z R) (hb : Below Z.heap.size Z Y) : FBox Y R := ⟨h.1.below hb, fun j => (hb.frozen (p := ⟨R, j, none⟩) h.1.lt).trans (h.2 j)⟩
theorem FBox.new (w : World) (t : TypeId) : FBox (w.alloc (.cells #[.int .i64 0, .string ⟨#[]⟩, .string ⟨#[]⟩] t)) w.heap.size ∧ Below w.heap.size w (w.alloc (.cells #[.int .i64 0, .string ⟨#[]⟩, .string ⟨#[]⟩] t)) := by
  obtain ⟨h1, h2⟩ := Box3.new w (.int .i64 0) (.string ⟨#[]⟩) (.string ⟨#[]⟩) t
  exact ⟨⟨h1, fun j => World.frozen?_alloc_at _ _ _ _ rfl⟩, h2⟩
/-- The answer is written. -/
theorem FBox.put {Z w : World} {R : Nat} (h : FBox Z R) (hw : Below w.heap.size w Z) (hR : w.heap.size ≤ R) (f : Flt) : ∃ Y, ((Z.setCell ⟨R, 0, none⟩ (.int .i64 f.1)).setCell ⟨R, 1, none⟩ (.string ⟨f.2.1.toArray⟩)).setCell ⟨R, 2, none⟩ (.string ⟨f.2.2.toArray⟩) = Y ∧ Y.cell? ⟨R, 0, none⟩ = some (.int .i64 f.1) ∧ Y.cell? ⟨R, 1, none⟩ = some (.string ⟨f.2.1.toArray⟩) ∧ Y.cell? ⟨R, 2, none⟩ = some (.string ⟨f.2.2.toArray⟩) ∧ Below w.heap.size w Y := by
  obtain ⟨Y, hY, y0, y1, y2, hg⟩ := set3 (.int .i64 f.1) (.string ⟨f.2.1.toArray⟩) (.string ⟨f.2.2.toArray⟩) h.1.c0 h.1.c1 h.1.c2
  exact ⟨Y, hY, y0, y1, y2, hw.grown hg hw.size (fun k e => by injection e with e; have e2 : R = k := e; omega)⟩

/-- As far as i: the order, and behind it those that are left out. -/
def ordTo (ps : List Pk) (i : Nat) : List (List UInt8) := order8 ps ++ ((names8 ps).take i).filter (fun x => decide (¬ x ∈ order8 ps))
theorem ordTo_zero (ps : List Pk) : ordTo ps 0 = order8 ps := by simp [ordTo]
theorem ordTo_all {ps : List Pk} {i : Nat} (h : ps.length ≤ i) : ordTo ps i = ord9 ps := by
  unfold ordTo ord9
  rw [List.take_of_length_le (by simpa [names8] using h)]
theorem ordTo_step {ps : List Pk} {i : Nat} (hi : i < ps.length) : ordTo ps (i + 1) = if nmAt ps i ∈ order8 ps then ordTo ps i else ordTo ps i ++ [nmAt ps i] := by
  unfold ordTo
  have h1 : i < (names8 ps).length := by simpa [names8] using hi
  rw [List.take_succ_eq_append_getElem h1, nmAt_el hi, List.filter_append]
  by_cases h : nmAt ps i ∈ order8 ps
  · rw [if_pos h]; simp [h]
  · rw [if_neg h]; simp [h]
theorem ordTo_mem {ps : List Pk} (hn : (names8 ps).Nodup) {i : Nat} (hi : i < ps.length) : nmAt ps i ∈ ordTo ps i ↔ nmAt ps i ∈ order8 ps := by
  unfold ordTo
  rw [List.mem_append, List.mem_filter]
  refine ⟨fun h => h.elim id (fun h => ?_), Or.inl⟩
  obtain ⟨k, hk, e⟩ := List.mem_iff_getElem.1 h.1
  rw [List.length_take] at hk
  rw [List.getElem_take, nmAt_el (by simp [names8] at hk; omega)] at e
  have := nmAt_inj hn (by simp [names8] at hk; omega) hi e
  omega
theorem ordTo_len (ps : List Pk) (h : projB ps = true) (i : Nat) : (ordTo ps i).length ≤ 8 + i := by
  unfold ordTo
  rw [List.length_append]
  have h1 := (order8_end h).1.len
  have h2 := (projB_parts h).2.1.2
  have h3 := List.length_filter_le (fun x => decide (¬ x ∈ order8 ps)) ((names8 ps).take i)
  rw [List.length_take] at h3
  omega


end Go.Proofs.YtdjglpcllcjcfaaDoor

/-! The contracts of chapter 9's specification: FaultOf, Exports. -/
namespace Go.Proofs.YtdjglpcllcjcfaaDoor
open Go.RowKit


theorem exp_take (fs : List Fn) {k : Nat} (hk : k < fs.length) : exports9 (fs.take (k + 1)) = exports9 (fs.take k) ++ [exp9 (fs.getD k fn0)] := by
  unfold exports9
  rw [List.take_succ_eq_append_getElem hk, List.map_append]
  simp [List.getD, hk]
theorem exportsV_len (p : Pk) : (exportsV p).length ≤ 8 := by
  unfold exportsV
  split
  · rename_i h
    have := (pkgB_parts h).2.2.2.1.2
    unfold exports9
    rw [List.length_map]
    exact this
  · simp
set_option maxHeartbeats 8000000 in
set_option maxRecDepth 100000 in
theorem specExports (nm : List UInt8) (ia : Option Addr) (il ic : Nat) (fa : Option Addr) (fl fc : Nat) (ims : List (List UInt8)) (fs : List Fn) (w : World) (hi : TextsIn w ia il ims) (hf : FuncsIn w fa fl fs) (hil : il ≤ 1048576) (hfl : fl ≤ 1048576) (hnl : nm.length ≤ 1048576) (his : ∀ i, (ims.getD i []).length ≤ 1048576) (hfs : ShortF fs) :
    Calls Tryd.prog 17 #[.agg #[.string ⟨nm.toArray⟩, .slice ia il ic, .slice fa fl fc]] w fun e w' => ∃ v, e = .returned v ∧ w'.ownsRow w.heap.size 9 1 v (exportsV (nm, ims, fs)).length (strV (exportsV (nm, ims, fs))) ∧ Below w.heap.size w w' := by
  obtain rfl : fs.length = fl := hf.1
  obtain ⟨bx, hbx⟩ := Box3.new w (.string ⟨nm.toArray⟩) (.slice ia il ic) (.slice fa fs.length fc) 33
  obtain ⟨W1, hW1⟩ : ∃ W1, w.alloc (.cells #[.string ⟨nm.toArray⟩, .slice ia il ic, .slice fa fs.length fc] 33) = W1 := ⟨_, rfl⟩
  have hs1 : W1.heap.size = w.heap.size + 1 := by rw [← hW1]; simp
  rw [hW1] at bx hbx
  have hO0 := World.ownsRow_lit (base := W1.heap.size) (e := 9) (size := 1) W1 #[] 0 (Nat.le_refl _) (by decide) rfl
  have hb2 : Below W1.heap.size W1 (W1.alloc (.cells #[] 9)) := (Below.refl _ _).alloc (Nat.le_refl _) _
  obtain ⟨W2, hW2⟩ : ∃ W2, W1.alloc (.cells #[] 9) = W2 := ⟨_, rfl⟩
  rw [hW2] at hO0 hb2
  have hbw : Below w.heap.size w W2 := hbx.trans (hb2.mono (by omega))
  have p0 := (bx.below hb2).c0
  have p1 := (bx.below hb2).c1
  have p2 := (bx.below hb2).c2
  have HPk : Hid (_) := specPackageOk nm ia il ic fa fs.length fc ims fs W2 (hi.below hbw) (hf.below hbw) hil hfl hnl his hfs
  have HZ : Hid (∀ Z, Below W1.heap.size W1 Z → Box3 Z w.heap.size (.string ⟨nm.toArray⟩) (.slice ia il ic) (.slice fa fs.length fc) ∧ FuncsIn Z fa fs.length fs ∧ Below w.heap.size w Z) := fun Z hz => ⟨bx.below hz, (hf.below hbx).below hz, hbx.trans (hz.mono hbx.size)⟩
  have HB2 : Hid (Below W1.heap.size W1 W2) := hb2
  have HO2 : Hid (W2.ownsRow W1.heap.size 9 1 (.slice (some ⟨W1.heap.size, 0, none⟩) 0 0) 0 (strV [])) := hO0
  clear bx hbx hO0 hb2 hbw hi hf
  rcases hp : pkgB (nm, ims, fs) with _ | _
  · have HE : Hid (exportsV (nm, ims, fs) = []) := by exact (by unfold exportsV; rw [if_neg (by rw [hp]; simp)] : exportsV (nm, ims, fs) = [])
    rw [hp] at HPk
    clear hp
    go_enter Tryd.func17, Tryd.ntmps17
    go_wp2_with fail
    refine Calls.mono HPk.out ?_
    rintro e w3 ⟨rfl, hb3⟩
    have HR : Hid (w3.ownsRow W1.heap.size 9 1 (.slice (some ⟨W1.heap.size, 0, none⟩) 0 0) 0 (strV []) ∧ Below w.heap.size w w3) := ⟨own_below HO2.out hb3, (HZ.out w3 (HB2.out.trans (hb3.mono HB2.out.size))).2.2⟩
    have HW1 : Hid (w.heap.size ≤ W1.heap.size) := by exact (by omega : w.heap.size ≤ W1.heap.size)
    clear hb3
    go_wp2
    go_ret
    exact ⟨_, rfl, by rw [HE.out]; have h1 := own_base HR.out.1 HW1.out; rw [hs1] at h1; exact h1, HR.out.2⟩
  · have HE : Hid (exportsV (nm, ims, fs) = exports9 fs) := by exact (by unfold exportsV; rw [if_pos hp] : exportsV (nm, ims, fs) = exports9 fs)
    have HSm : Hid (∀ k, k < fs.length → (fs.getD k fn0).1.length ≤ 8 ∧ 0 ≤ (fs.getD k fn0).2.1 ∧ (fs.getD k fn0).2.1 ≤ 3) := fun k hk => by
      have h1 := (pkgB_parts hp).2.2.2.2 (fs.getD k fn0) (by simp [List.getD, hk])
      unfold funcB inB at h1
      rw [Bool.and_eq_true, Bool.and_eq_true, decide_eq_true_eq] at h1
      exact ⟨(name_letters h1.1).1.2, h1.2.1.1, h1.2.1.2⟩
    have hf8 : fs.length ≤ 8 := (pkgB_parts hp).2.2.2.1.2
    rw [hp] at HPk
    clear hp
    go_enter Tryd.func17, Tryd.ntmps17
    go_wp2_with fail
    refine Calls.mono HPk.out ?_
    rintro e w3 ⟨rfl, hb3⟩
    have HO3 : Hid (w3.ownsRow W1.heap.size 9 1 (.slice (some ⟨W1.heap.size, 0, none⟩) 0 0) 0 (strV (exports9 (fs.take 0)))) := own_below HO2.out hb3
    have HB3 : Hid (Below W1.heap.size W1 w3) := HB2.out.trans (hb3.mono HB2.out.size)
    have hO3 := HO3.out
    rw [hs1] at hO3
    have HO4 : Hid (w3.ownsRow (w.heap.size + 1) 9 1 (.slice (some ⟨w.heap.size + 1, 0, none⟩) 0 0) 0 (strV (exports9 (fs.take 0)))) := hO3
    clear hb3 HB2 HO2 HPk p0 p1 p2 HO3 hO3
    go_wp2
    go_loopw [3, 4] (fun ov iv wr => ∃ (k : Nat) (oa : Option Addr) (oc : Nat), ov = .slice oa k oc ∧ iv = .int .i64 (k : Int) ∧ k ≤ fs.length ∧ Hid (wr.ownsRow (w.heap.size + 1) 9 1 (.slice oa k oc) k (strV (exports9 (fs.take k)))) ∧ Hid (Below W1.heap.size W1 wr)) (fun _ iv _ => fs.length - (intOf iv).toNat)
    case atStart => exact ⟨0, _, 0, rfl, rfl, by omega, HO4, HB3⟩
    case round =>
      obtain ⟨k, oa, oc, rfl, rfl, hk, HO, HB⟩ := hrel
      clear HO4 HB3
      obtain ⟨bx, hfi, hbw⟩ := HZ.out wr HB.out
      have p2 := bx.c2
      by_cases hlt : (k : Int) < (fs.length : Int)
      · have hk2 : k < fs.length := by omega
        obtain ⟨b, off, rfl, hbl, c0, c1, _⟩ := hfi.2 k hk2
        have het := exp_take fs hk2
        obtain ⟨hs8, hA0, hA3⟩ := HSm.out k hk2
        obtain ⟨f, hfe⟩ : ∃ f, fs.getD k fn0 = f := ⟨_, rfl⟩
        rw [hfe] at c0 c1 het hs8 hA0 hA3
        obtain ⟨x, A, tt⟩ := f
        simp only at c0 c1 hs8 hA0 hA3
        have HET : Hid (exports9 (fs.take (k + 1)) = exports9 (fs.take k) ++ [x ++ 47 :: intL A]) := by exact (by rw [het]; simp [exp9] : exports9 (fs.take (k + 1)) = exports9 (fs.take k) ++ [x ++ 47 :: intL A])
        have hil4 : (intL A).length ≤ 11 := intL_short A (by omega) (by omega)
        have e1 : ∀ W : World, (Op.stringOp .add ⟨x.toArray⟩ ⟨#[47]⟩).run Tryd.prog W = .ok (.string ⟨(x ++ [47]).toArray⟩) W := fun W => by
          have := run_string_add_lists (P := Tryd.prog) W x [47] (by omega) (by simp)
          simpa using this
        have e2 : ∀ W : World, (Op.stringOp .add ⟨(x ++ [47]).toArray⟩ ⟨(intL A).toArray⟩).run Tryd.prog W = .ok (.string ⟨(x ++ 47 :: intL A).toArray⟩) W := fun W => by
          have := run_string_add_lists (P := Tryd.prog) W (x ++ [47]) (intL A) (by simp; omega) (by omega)
          simpa using this
        have hbl2 : w.heap.size < wr.heap.size := bx.lt
        clear hfi hbw bx het hfe
        go_wp2_with fail
        go_region_law (first | (refine step_append_run (by rfl) (.tmp 17) (.tmp 33) 30 (by rfl) _ _ _ (by rfl) (by rfl) hr ?_) | (go_simp; go_at_call 40; refine (specInt A _ (by omega) (by omega)).mono ?_; rintro e w5 ⟨rfl, hb5⟩; have hb5' : Below wr.heap.size wr w5 := ⟨hb5.os, hb5.tape, hb5.output, hb5.size, hb5.block⟩; have p25 := (hb5'.cell (p := ⟨w.heap.size, 2, none⟩) hbl2).trans p2; have c05 := (hb5'.cell (p := ⟨b, off + k * 3, none⟩) hbl).trans c0; have c15 := (hb5'.cell (p := ⟨b, off + k * 3 + 1, none⟩) hbl).trans c1; have hO5 := own_below HO.out hb5'; have hB5 := HB.out.trans (hb5'.mono HB.out.size); have hbs5 : w.heap.size + 1 ≤ w5.heap.size := (by have := hB5.size; omega); obtain ⟨v', Y, hr, ho, hg⟩ := push_text (x ++ 47 :: intL A) hO5 hbs5 (by omega); rw [← HET.out] at ho; obtain ⟨g', c', rfl⟩ := own_some ho (by omega); have HOY : Hid (Y.ownsRow (w.heap.size + 1) 9 1 (.slice (some ⟨g', 0, none⟩) (k + 1) c') (k + 1) (strV (exports9 (fs.take (k + 1))))) := ho; have HBY : Hid (Below W1.heap.size W1 Y) := hB5.grown hg hB5.size (fun q e => (by have := (hO5.lt q e).1; omega)); clear ho hg hO5 hB5 hb5 hb5'; dsimp only))
        all_goals
          go_wp2
          go_roundw
          case rel => exact ⟨k + 1, _, c', rfl, by go_num, by omega, HOY, HBY⟩
          case measure => simp [intOf]; omega
      · have HR : Hid (wr.ownsRow w.heap.size 9 1 (.slice oa k oc) (exports9 fs).length (strV (exports9 fs))) := by
          have h1 := own_base HO.out (show w.heap.size ≤ w.heap.size + 1 by omega)
          rw [show fs.take k = fs from List.take_of_length_le (by omega)] at h1
          rw [show (exports9 fs).length = k by unfold exports9; rw [List.length_map]; omega]
          exact h1
        have HE2 : Hid (Below w.heap.size w wr) := hbw
        clear hfi hbw bx
        go_wp2
        go_ret
        exact ⟨_, rfl, by rw [HE.out]; exact HR.out, HE2.out⟩

end Go.Proofs.YtdjglpcllcjcfaaDoor

/-! The contract of chapter 9's landed Exports. -/
namespace Go.Proofs.YtdjglpcllcjcfaaDoor
open Go.RowKit

set_option maxHeartbeats 4000000 in
set_option maxRecDepth 100000 in
theorem implExports (nm : List UInt8) (ia : Option Addr) (il ic : Nat) (fa : Option Addr) (fl fc : Nat) (ims : List (List UInt8)) (fs : List Fn) (w : World) (hT : PowIs w) (h : PkOk w nm ia il ic fa fl fc ims fs) :
    Calls Tryd.prog 19 #[.agg #[.string ⟨nm.toArray⟩, .slice ia il ic, .slice fa fl fc]] w fun e w' => ∃ v, e = .returned v ∧ w'.ownsRow w.heap.size 9 1 v (exportsV (nm, ims, fs)).length (strV (exportsV (nm, ims, fs))) ∧ Below w.heap.size w w' := by
  obtain rfl : fs.length = fl := h.f.1
  obtain ⟨bx, hbx⟩ := Box3.new w (.string ⟨nm.toArray⟩) (.slice ia il ic) (.slice fa fs.length fc) 33
  obtain ⟨W1, hW1⟩ : ∃ W1, w.alloc (.cells #[.string ⟨nm.toArray⟩, .slice ia il ic, .slice fa fs.length fc] 33) = W1 := ⟨_, rfl⟩
  have hs1 : W1.heap.size = w.heap.size + 1 := by rw [← hW1]; simp
  rw [hW1] at bx hbx
  have hO0 := World.ownsRow_lit (base := W1.heap.size) (e := 9) (size := 1) W1 #[] 0 (Nat.le_refl _) (by decide) rfl
  have hb2 : Below W1.heap.size W1 (W1.alloc (.cells #[] 9)) := (Below.refl _ _).alloc (Nat.le_refl _) _
  obtain ⟨W2, hW2⟩ : ∃ W2, W1.alloc (.cells #[] 9) = W2 := ⟨_, rfl⟩
  rw [hW2] at hO0 hb2
  have hbw : Below w.heap.size w W2 := hbx.trans (hb2.mono (by omega))
  have p0 := (bx.below hb2).c0
  have p1 := (bx.below hb2).c1
  have p2 := (bx.below hb2).c2
  have HPk : Hid (_) := implPackageOk nm ia il ic fa fs.length fc ims fs W2 (h.below hbw)
  have HZ : Hid (∀ Z, Below W1.heap.size W1 Z → Box3 Z w.heap.size (.string ⟨nm.toArray⟩) (.slice ia il ic) (.slice fa fs.length fc) ∧ FuncsIn Z fa fs.length fs ∧ Below w.heap.size w Z ∧ PowIs Z) := fun Z hz => ⟨bx.below hz, (h.f.below hbx).below hz, hbx.trans (hz.mono hbx.size), (hT.below hbx).below hz⟩
  have HB2 : Hid (Below W1.heap.size W1 W2) := hb2
  have HO2 : Hid (W2.ownsRow W1.heap.size 9 1 (.slice (some ⟨W1.heap.size, 0, none⟩) 0 0) 0 (strV [])) := hO0
  have hflb := h.fl
  clear bx hbx hO0 hb2 hbw h hT
  rcases hp : pkgB (nm, ims, fs) with _ | _
  · have HE : Hid (exportsV (nm, ims, fs) = []) := by exact (by unfold exportsV; rw [if_neg (by rw [hp]; simp)] : exportsV (nm, ims, fs) = [])
    rw [hp] at HPk
    clear hp
    go_enter Tryd.func19, Tryd.ntmps19
    go_wp2_with fail
    refine Calls.mono HPk.out ?_
    rintro e w3 ⟨rfl, hb3⟩
    have HR : Hid (w3.ownsRow W1.heap.size 9 1 (.slice (some ⟨W1.heap.size, 0, none⟩) 0 0) 0 (strV []) ∧ Below w.heap.size w w3) := ⟨own_below HO2.out hb3, (HZ.out w3 (HB2.out.trans (hb3.mono HB2.out.size))).2.2.1⟩
    have HW1 : Hid (w.heap.size ≤ W1.heap.size) := by exact (by omega : w.heap.size ≤ W1.heap.size)
    clear hb3
    go_wp2
    go_ret
    exact ⟨_, rfl, by rw [HE.out]; have h1 := own_base HR.out.1 HW1.out; rw [hs1] at h1; exact h1, HR.out.2⟩
  · have HE : Hid (exportsV (nm, ims, fs) = exports9 fs) := by exact (by unfold exportsV; rw [if_pos hp] : exportsV (nm, ims, fs) = exports9 fs)
    have HSm : Hid (∀ k, k < fs.length → (fs.getD k fn0).1.length ≤ 8 ∧ 0 ≤ (fs.getD k fn0).2.1 ∧ (fs.getD k fn0).2.1 ≤ 3) := fun k hk => by
      have h1 := (pkgB_parts hp).2.2.2.2 (fs.getD k fn0) (by simp [List.getD, hk])
      unfold funcB inB at h1
      rw [Bool.and_eq_true, Bool.and_eq_true, decide_eq_true_eq] at h1
      exact ⟨(name_letters h1.1).1.2, h1.2.1.1, h1.2.1.2⟩
    have hf8 : fs.length ≤ 8 := (pkgB_parts hp).2.2.2.1.2
    rw [hp] at HPk
    clear hp
    go_enter Tryd.func19, Tryd.ntmps19
    go_wp2_with fail
    refine Calls.mono HPk.out ?_
    rintro e w3 ⟨rfl, hb3⟩
    have HO3 : Hid (w3.ownsRow W1.heap.size 9 1 (.slice (some ⟨W1.heap.size, 0, none⟩) 0 0) 0 (strV (exports9 (fs.take 0)))) := own_below HO2.out hb3
    have HB3 : Hid (Below W1.heap.size W1 w3) := HB2.out.trans (hb3.mono HB2.out.size)
    have hO3 := HO3.out
    rw [hs1] at hO3
    have HO4 : Hid (w3.ownsRow (w.heap.size + 1) 9 1 (.slice (some ⟨w.heap.size + 1, 0, none⟩) 0 0) 0 (strV (exports9 (fs.take 0)))) := hO3
    clear hb3 HB2 HO2 HPk p0 p1 p2 HO3 hO3
    have p2 := (HZ.out w3 HB3.out).1.c2
    go_wp2
    go_loopw [3, 14] (fun ov iv wr => ∃ (k : Nat) (oa : Option Addr) (oc : Nat), ov = .slice oa k oc ∧ iv = .int .i64 (k : Int) ∧ k ≤ fs.length ∧ Hid (wr.ownsRow (w.heap.size + 1) 9 1 (.slice oa k oc) k (strV (exports9 (fs.take k)))) ∧ Hid (Below W1.heap.size W1 wr)) (fun _ iv _ => fs.length - (intOf iv).toNat)
    case atStart => exact ⟨0, _, 0, rfl, rfl, by omega, HO4, HB3⟩
    case round =>
      obtain ⟨k, oa, oc, rfl, rfl, hk, HO, HB⟩ := hrel
      clear HO4 HB3 p2
      obtain ⟨bx, hfi, hbw, hT⟩ := HZ.out wr HB.out
      by_cases hlt : (k : Int) < (fs.length : Int)
      · have hk2 : k < fs.length := by omega
        obtain ⟨b, off, rfl, hbl, c0, c1, ta, tl, tc, c2, _⟩ := hfi.2 k hk2
        have het := exp_take fs hk2
        obtain ⟨hs8, hA0, hA3⟩ := HSm.out k hk2
        obtain ⟨f, hfe⟩ : ∃ f, fs.getD k fn0 = f := ⟨_, rfl⟩
        rw [hfe] at c0 c1 het hs8 hA0 hA3
        obtain ⟨x, A, tt⟩ := f
        simp only at c0 c1 hs8 hA0 hA3
        have HET : Hid (exports9 (fs.take (k + 1)) = exports9 (fs.take k) ++ [x ++ 47 :: intL A]) := by exact (by rw [het]; simp [exp9] : exports9 (fs.take (k + 1)) = exports9 (fs.take k) ++ [x ++ 47 :: intL A])
        have hil4 : (intL A).length ≤ 11 := intL_short A (by omega) (by omega)
        have e1 : ∀ W : World, (Op.stringOp .add ⟨x.toArray⟩ ⟨#[47]⟩).run Tryd.prog W = .ok (.string ⟨(x ++ [47]).toArray⟩) W := fun W => by
          have := run_string_add_lists (P := Tryd.prog) W x [47] (by omega) (by simp)
          simpa using this
        have e2 : ∀ W : World, (Op.stringOp .add ⟨(x ++ [47]).toArray⟩ ⟨(intL A).toArray⟩).run Tryd.prog W = .ok (.string ⟨(x ++ 47 :: intL A).toArray⟩) W := fun W => by
          have := run_string_add_lists (P := Tryd.prog) W (x ++ [47]) (intL A) (by simp; omega) (by omega)
          simpa using this
        obtain ⟨bg, hbg⟩ := Box3.new wr (.string ⟨x.toArray⟩) (.int .i64 A) (.slice ta tl tc) 37
        obtain ⟨X, hX⟩ : ∃ X, wr.alloc (.cells #[.string ⟨x.toArray⟩, .int .i64 A, .slice ta tl tc] 37) = X := ⟨_, rfl⟩
        obtain ⟨G, hG⟩ : ∃ G, wr.heap.size = G := ⟨_, rfl⟩
        rw [hX] at bg hbg
        rw [hG] at bg
        have HTX : Hid (PowIs X) := hT.below hbg
        have HOX : Hid (X.ownsRow (w.heap.size + 1) 9 1 (.slice oa k oc) k (strV (exports9 (fs.take k)))) := own_below HO.out hbg
        have HBX : Hid (Below W1.heap.size W1 X) := HB.out.trans (hbg.mono HB.out.size)
        have d0 := bg.c0
        have d1 := bg.c1
        have hGl : G < X.heap.size := bg.lt
        clear hfi hbw bx het hfe hT bg hbg HO HB
        go_upto_region 7 with fail
        go_region_law (first | (refine step_append_run (by rfl) (.tmp 18) (.tmp 26) 30 (by rfl) _ _ _ (by rfl) (by rfl) hr ?_) | (go_simp; go_at_call 44; refine (fmtInt A _ (by exact HTX.out) (by omega) (by omega)).mono ?_; rintro e w5 ⟨rfl, hb5⟩; have hb5' : Below X.heap.size X w5 := ⟨hb5.os, hb5.tape, hb5.output, hb5.size, hb5.block⟩; have d05 := (hb5'.cell (p := ⟨G, 0, none⟩) hGl).trans d0; have d15 := (hb5'.cell (p := ⟨G, 1, none⟩) hGl).trans d1; have hO5 := own_below HOX.out hb5'; have hB5 := HBX.out.trans (hb5'.mono HBX.out.size); have hbs5 : w.heap.size + 1 ≤ w5.heap.size := (by have := hB5.size; omega); obtain ⟨v', Y, hr, ho, hg⟩ := push_text (x ++ 47 :: intL A) hO5 hbs5 (by omega); rw [← HET.out] at ho; obtain ⟨g', c', rfl⟩ := own_some ho (by omega); have HOY : Hid (Y.ownsRow (w.heap.size + 1) 9 1 (.slice (some ⟨g', 0, none⟩) (k + 1) c') (k + 1) (strV (exports9 (fs.take (k + 1))))) := ho; have HBY : Hid (Below W1.heap.size W1 Y) := hB5.grown hg hB5.size (fun q e => (by have := (hO5.lt q e).1; omega)); clear ho hg hO5 hB5 hb5 hb5'; dsimp only))
        all_goals
          go_wp2
          go_roundw
          case rel => exact ⟨k + 1, _, c', rfl, by go_num, by omega, HOY, HBY⟩
          case measure => simp [intOf]; omega
      · have HR : Hid (wr.ownsRow w.heap.size 9 1 (.slice oa k oc) (exports9 fs).length (strV (exports9 fs))) := by
          have h1 := own_base HO.out (show w.heap.size ≤ w.heap.size + 1 by omega)
          rw [show fs.take k = fs from List.take_of_length_le (by omega)] at h1
          rw [show (exports9 fs).length = k by unfold exports9; rw [List.length_map]; omega]
          exact h1
        have HE2 : Hid (Below w.heap.size w wr) := hbw
        clear hfi hbw bx hT
        go_wp2
        go_ret
        exact ⟨_, rfl, by rw [HE.out]; exact HR.out, HE2.out⟩

end Go.Proofs.YtdjglpcllcjcfaaDoor

/-! The laws' own helpers over functions and packages: eqFunc, eqFuncS, eqStringS over texts that can be read, eqPackage. -/
namespace Go.Proofs.YtdjglpcllcjcfaaDoor
open Go.RowKit

set_option maxHeartbeats 1000000 in
set_option maxRecDepth 100000 in
theorem eqFuncC (s : List UInt8) (n : Int) (t : List Nd) (ta tb : Option Addr) (tl ca cb : Nat) (w : World) (ha : NodesIn w ta tl t) (hb : NodesIn w tb tl t) (hlen : tl ≤ 4194304) :
    Calls Tryd.prog 70 #[.agg #[.string ⟨s.toArray⟩, .int .i64 n, .slice ta tl ca], .agg #[.string ⟨s.toArray⟩, .int .i64 n, .slice tb tl cb]] w fun e w' => e = .returned (.bool true) ∧ Below w.heap.size w w' := by
  have h1 : ∀ n : Int, (n != n) = false := by simp
  have h2 : ∀ l : List UInt8, (l != l) = false := by simp
  have hbW : Below w.heap.size w ((w.alloc (.cells #[.string ⟨s.toArray⟩, .int .i64 n, .slice ta tl ca] 37)).alloc (.cells #[.string ⟨s.toArray⟩, .int .i64 n, .slice tb tl cb] 37)) := ((Below.refl _ _).alloc (Nat.le_refl _) _).alloc (by simp) _
  have HC := eqNodeSC ta tb tl ca cb t _ (ha.below hbW) (hb.below hbW) hlen
  clear ha hb
  go_enter Tryd.func70, Tryd.ntmps70
  go_wp2_with fail
  refine HC.mono ?_
  rintro e w1 ⟨rfl, hb1⟩
  have hbd : Below w.heap.size w w1 := hbW.trans (hb1.mono hbW.size)
  clear HC hb1 hbW
  go_wp2
  go_ret
  exact ⟨rfl, hbd⟩

set_option maxHeartbeats 2000000 in
set_option maxRecDepth 100000 in
theorem eqFuncSC (a b : Option Addr) (len ca cb : Nat) (fs : List Fn) (w : World) (ha : FuncsIn w a len fs) (hb : FuncsIn w b len fs) (hlen : len ≤ 4194304) (hsh : ∀ j, (fs.getD j fn0).2.2.length ≤ 4194304) :
    Calls Tryd.prog 45 #[.slice a len ca, .slice b len cb] w fun e w' => e = .returned (.bool true) ∧ Below w.heap.size w w' := by
  have HA : Hid (FuncsIn w a len fs) := ha
  have HB : Hid (FuncsIn w b len fs) := hb
  have HSH : Hid (∀ j, (fs.getD j fn0).2.2.length ≤ 4194304) := hsh
  clear ha hb hsh
  have h1 : ((len : Int) != (len : Int)) = false := by simp
  go_enter Tryd.func45, Tryd.ntmps45
  go_wp2
  go_loopw [5] (fun i wr => ∃ k : Nat, k ≤ len ∧ i = .int .i64 k ∧ Below w.heap.size w wr) (fun i _ => len - (intOf i).toNat)
  case atStart => exact ⟨0, Nat.zero_le _, rfl, Below.refl _ _⟩
  case round =>
    obtain ⟨k, hk, rfl, hB⟩ := hrel
    by_cases hkl : (k : Int) < (len : Int)
    · obtain ⟨b1, o1, rfl, hb1, x0, x1, ta, tl, tc, x2, _, hn1⟩ := (HA.out.below hB).2 k (by omega)
      obtain ⟨b2, o2, rfl, hb2, y0, y1, tb, tl2, tc2, y2, _, hn2⟩ := (HB.out.below hB).2 k (by omega)
      have hts := HSH.out k
      obtain ⟨f, hf⟩ : ∃ f, fs.getD k fn0 = f := ⟨_, rfl⟩
      rw [hf] at x0 x1 y0 y1 hn1 hn2 hts
      obtain ⟨s, n, t⟩ := f
      simp only at x0 x1 y0 y1 hn1 hn2 hts
      obtain rfl : t.length = tl := hn1.1
      obtain rfl : t.length = tl2 := hn2.1
      have hn1' : NodesIn wr.drew ta t.length t := hn1.below ⟨rfl, rfl, rfl, Nat.le_refl _, fun _ _ => rfl⟩
      have hn2' : NodesIn wr.drew tb t.length t := hn2.below ⟨rfl, rfl, rfl, Nat.le_refl _, fun _ _ => rfl⟩
      clear hf hn1 hn2
      go_wp2
      go_region_held3 (fun w' => w'.cell? ⟨b1, o1 + k * 3, none⟩ = some (.string ⟨s.toArray⟩) ∧ w'.cell? ⟨b1, o1 + k * 3 + 1, none⟩ = some (.int .i64 n) ∧ w'.cell? ⟨b1, o1 + k * 3 + 2, none⟩ = some (.slice ta t.length tc) ∧ w'.cell? ⟨b2, o2 + k * 3, none⟩ = some (.string ⟨s.toArray⟩) ∧ w'.cell? ⟨b2, o2 + k * 3 + 1, none⟩ = some (.int .i64 n) ∧ w'.cell? ⟨b2, o2 + k * 3 + 2, none⟩ = some (.slice tb t.length tc2)) (go_keep) (first | (go_at_call 70; refine (eqFuncC s n t ta tb t.length tc tc2 _ hn1' hn2' hts).mono ?_; rintro e w1 ⟨rfl, hw1⟩; have d0 : w1.cell? ⟨b1, o1 + k * 3, none⟩ = some (.string ⟨s.toArray⟩) := (hw1.cell (p := ⟨b1, o1 + k * 3, none⟩) hb1).trans x0; have d1 : w1.cell? ⟨b1, o1 + k * 3 + 1, none⟩ = some (.int .i64 n) := (hw1.cell (p := ⟨b1, o1 + k * 3 + 1, none⟩) hb1).trans x1; have d2 : w1.cell? ⟨b1, o1 + k * 3 + 2, none⟩ = some (.slice ta t.length tc) := (hw1.cell (p := ⟨b1, o1 + k * 3 + 2, none⟩) hb1).trans x2; have e0 : w1.cell? ⟨b2, o2 + k * 3, none⟩ = some (.string ⟨s.toArray⟩) := (hw1.cell (p := ⟨b2, o2 + k * 3, none⟩) hb2).trans y0; have e1 : w1.cell? ⟨b2, o2 + k * 3 + 1, none⟩ = some (.int .i64 n) := (hw1.cell (p := ⟨b2, o2 + k * 3 + 1, none⟩) hb2).trans y1; have e2 : w1.cell? ⟨b2, o2 + k * 3 + 2, none⟩ = some (.slice tb t.length tc2) := (hw1.cell (p := ⟨b2, o2 + k * 3 + 2, none⟩) hb2).trans y2))
      all_goals go_wp2
      go_roundw
      case rel => exact ⟨k + 1, by omega, by go_num, hB.trans ⟨hw1.os, hw1.tape, hw1.output, hw1.size, fun q hq => hw1.block q (by have := hB.size; show q < wr.heap.size; omega)⟩⟩
      case measure => simp [intOf]; omega
    · go_wp2
      go_ret
      exact ⟨rfl, hB⟩

set_option maxHeartbeats 1000000 in
set_option maxRecDepth 100000 in
theorem eqTextsC (a b : Option Addr) (len ca cb : Nat) (ts : List (List UInt8)) (w : World) (ha : TextsIn w a len ts) (hb : TextsIn w b len ts) (hlen : len ≤ 4194304) :
    Calls Tryd.prog 20 #[.slice a len ca, .slice b len cb] w fun e w' => e = .returned (.bool true) ∧ Below w.heap.size w w' := by
  have hne : ((len : Int) != (len : Int)) = false := by simp
  have hself : ∀ l : List UInt8, (l != l) = false := by simp
  have HA : Hid (TextsIn w a len ts) := ha
  have HB : Hid (TextsIn w b len ts) := hb
  clear ha hb
  go_enter Tryd.func20, Tryd.ntmps20
  go_wp2
  go_loopw [5] (fun i wr => ∃ k : Nat, k ≤ len ∧ i = .int .i64 k ∧ Below w.heap.size w wr) (fun i _ => len - (intOf i).toNat)
  case atStart => exact ⟨0, Nat.zero_le _, rfl, Below.refl _ _⟩
  case round =>
    obtain ⟨k, hk, rfl, hB⟩ := hrel
    by_cases hkl : (k : Int) < (len : Int)
    · obtain ⟨b1, o1, rfl, hb1, hca⟩ := (HA.out.below hB).2 k (by omega)
      obtain ⟨b2, o2, rfl, hb2, hcb⟩ := (HB.out.below hB).2 k (by omega)
      obtain ⟨t, ht⟩ : ∃ t, ts.getD k [] = t := ⟨_, rfl⟩
      rw [ht] at hca hcb
      clear ht
      go_wp2
      go_region
      all_goals (try go_wp2)
      go_roundw
      case rel => exact ⟨k + 1, by omega, by go_num, hB.drew⟩
      case measure => simp [intOf]; omega
    · go_wp2
      go_ret
      exact ⟨rfl, hB⟩

set_option maxHeartbeats 2000000 in
set_option maxRecDepth 100000 in
theorem eqPackageC (nm : List UInt8) (ia ib fa fb : Option Addr) (il ica icb fl fca fcb : Nat) (ims : List (List UInt8)) (fs : List Fn) (w : World) (hia : TextsIn w ia il ims) (hib : TextsIn w ib il ims) (hfa : FuncsIn w fa fl fs) (hfb : FuncsIn w fb fl fs) (hil : il ≤ 4194304) (hfl : fl ≤ 4194304) (hsh : ∀ j, (fs.getD j fn0).2.2.length ≤ 4194304) :
    Calls Tryd.prog 21 #[.agg #[.string ⟨nm.toArray⟩, .slice ia il ica, .slice fa fl fca], .agg #[.string ⟨nm.toArray⟩, .slice ib il icb, .slice fb fl fcb]] w fun e w' => e = .returned (.bool true) ∧ Below w.heap.size w w' := by
  have h2 : ∀ l : List UInt8, (l != l) = false := by simp
  obtain ⟨sa, hBa⟩ := PkIn.new (w := w) (nm := nm) (ic := ica) (fc := fca) hia hfa
  obtain ⟨W1, hW1⟩ : ∃ W, w.alloc (.cells #[.string ⟨nm.toArray⟩, .slice ia il ica, .slice fa fl fca] 33) = W := ⟨_, rfl⟩
  rw [hW1] at sa hBa
  obtain ⟨sb, hBb⟩ := PkIn.new (w := W1) (nm := nm) (ic := icb) (fc := fcb) (hib.below hBa) (hfb.below hBa)
  obtain ⟨W, hW⟩ : ∃ W, W1.alloc (.cells #[.string ⟨nm.toArray⟩, .slice ib il icb, .slice fb fl fcb] 33) = W := ⟨_, rfl⟩
  rw [hW] at sb hBb
  have hs1 : W1.heap.size = w.heap.size + 1 := by rw [← hW1]; simp
  have sa2 := sa.below hBb
  have hB : Below w.heap.size w W := hBa.trans (hBb.mono hBa.size)
  rw [hs1] at sb
  have HC := eqTextsC ia ib il ica icb ims W sa2.i sb.i hil
  have k0 := sa2.k0
  have k1 := sa2.k1
  have k2 := sa2.k2
  have j0 := sb.k0
  have j1 := sb.k1
  have j2 := sb.k2
  clear hia hib hfa hfb sa hBa hBb
  go_enter Tryd.func21, Tryd.ntmps21
  go_wp2_with fail
  refine HC.mono ?_
  rintro e w1 ⟨rfl, hb1⟩
  have ta := sa2.below hb1
  have tb := sb.below hb1
  have HC2 := eqFuncSC fa fb fl fca fcb fs w1 ta.f tb.f hfl hsh
  have hB1 : Below w.heap.size w w1 := hB.trans (hb1.mono hB.size)
  replace k0 := ta.k0
  replace k1 := ta.k1
  replace k2 := ta.k2
  replace j0 := tb.k0
  replace j1 := tb.k1
  replace j2 := tb.k2
  clear HC hb1 sa2 sb hB
  go_wp2_with fail
  refine HC2.mono ?_
  rintro e w2 ⟨rfl, hb2⟩
  have hB2 : Below w.heap.size w w2 := hB1.trans (hb2.mono hB1.size)
  clear HC2 hb2 ta tb hB1 k0 k1 k2 j0 j1 j2
  go_wp2
  go_ret
  exact ⟨rfl, hB2⟩

end Go.Proofs.YtdjglpcllcjcfaaDoor

/-! A cell of an elder block. -/
namespace Go.Proofs.YtdjglpcllcjcfaaDoor
open Go.RowKit

theorem cell_alw {w : World} {a : Addr} {v : Value} (o : Obj) (h : w.cell? a = some v) : (w.alloc o).cell? a = some v :=
  (World.cell?_of_block (Below.heap_alloc _ _ _ (World.block_lt_of_cell? w a h))).trans h

end Go.Proofs.YtdjglpcllcjcfaaDoor
