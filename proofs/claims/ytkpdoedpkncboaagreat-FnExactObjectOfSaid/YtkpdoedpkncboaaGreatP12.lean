/-
  Parts of one proof, one behind the other: FoldJ, FoldJ2.
-/
import Derived.Test.YtkpdoedpkncboaaGreatP11
import Derived.Test.YtkpdoedpkncboaaGreatP9
import Derived.Lib.AppendZerosOnto
import Derived.Deep.RegionWith
import Derived.Deep.RegionHeld3
namespace Go.Proofs.YtkpdoedpkncboaaGreat
open Go.RowKit
def hdIs (r : List Nd) : Bool := decide ((r.getD 0 nd0).1 = 1)
def zi3 (r : List Nd) : Int := if (r.getD 0 nd0).1 = 1 then (r.getD 0 nd0).2.1 else 0
def zcV (k : Int) : Int := if k = 3 ∨ k = 4 then 0 else 1
def zdp (k : Int) : Bool := decide (k = 3 ∨ k = 5)
set_option maxHeartbeats 1000000 in
set_option maxRecDepth 100000 in
theorem zlv (a : Option Addr) (len cap : Nat) (ns : List Nd) (w : World) (hin : za4 w a len ns) (hp : 0 < len) :
 Calls Tryz.prog 139 #[.slice a len cap] w fun e w' => e = .returned (.tuple #[.int .i64 (zi3 ns), .bool (hdIs ns)]) ∧ w' = w := by
 obtain ⟨b, off, rfl, hbl, c0, c1, c2, c3⟩ := hin.2 0 hp
 rw [Nat.zero_mul, Nat.add_zero] at c0 c1
 have hl : (0 : Int) < (len : Int) := by omega
 have HY : Hid ((ns.getD 0 nd0).1 = 1 → zi3 ns = (ns.getD 0 nd0).2.1 ∧ hdIs ns = true) := fun h => ⟨if_pos h, decide_eq_true h⟩
 have HNo : Hid ((ns.getD 0 nd0).1 ≠ 1 → zi3 ns = 0 ∧ hdIs ns = false) := fun h => ⟨if_neg h, decide_eq_false h⟩
 generalize ns.getD 0 nd0 = n at c0 c1 HY HNo
 obtain ⟨k, A, p, f⟩ := n
 simp only at c0 c1 HY HNo
 clear hin c2 c3
 by_cases hk : k = 1
 ·
  have HF : Hid (zi3 ns = A ∧ hdIs ns = true) := HY.out hk
  subst hk
  clear HY HNo
  go_enter Tryz.func139, Tryz.ntmps139
  go_wp2
  go_ret2
  exact ⟨by rw [HF.out.1, HF.out.2]; rfl, rfl⟩
 ·
  have hkb : (k != 1) = true := bne_iff_ne.2 hk
  have HF : Hid (zi3 ns = 0 ∧ hdIs ns = false) := HNo.out hk
  clear hk HY HNo
  go_enter Tryz.func139, Tryz.ntmps139
  go_wp2
  go_ret2
  exact ⟨by rw [HF.out.1, HF.out.2]; rfl, rfl⟩
set_option maxHeartbeats 1000000 in
set_option maxRecDepth 100000 in
theorem zda (k : Int) (w : World) : Calls Tryz.prog 141 #[.int .i64 k] w fun e w' => e = .returned (.int .i64 (zcV k)) ∧ w' = w := by
 by_cases h3 : k = 3
 ·
  subst h3
  go_enter Tryz.func141, Tryz.ntmps141
  go_wp2
  go_ret
  exact ⟨rfl, rfl⟩
 ·
  have d3 : (k == 3) = false := beq_eq_false_iff_ne.2 h3
  by_cases h4 : k = 4
  ·
   subst h4
   go_enter Tryz.func141, Tryz.ntmps141
   go_wp2
   go_ret
   exact ⟨rfl, rfl⟩
  ·
   have d4 : (k == 4) = false := beq_eq_false_iff_ne.2 h4
   have HF : Hid (zcV k = 1) := if_neg (fun h => h.elim h3 h4)
   clear h3 h4
   go_enter Tryz.func141, Tryz.ntmps141
   go_wp2
   go_ret
   exact ⟨by rw [HF.out]; rfl, rfl⟩
set_option maxHeartbeats 1000000 in
set_option maxRecDepth 100000 in
theorem zcw (k : Int) (w : World) : Calls Tryz.prog 142 #[.int .i64 k] w fun e w' => e = .returned (.bool (zdp k)) ∧ w' = w := by
 by_cases h3 : k = 3
 ·
  subst h3
  go_enter Tryz.func142, Tryz.ntmps142
  go_wp2
  go_ret
  exact ⟨rfl, rfl⟩
 ·
  have d3 : (k == 3) = false := beq_eq_false_iff_ne.2 h3
  by_cases h4 : k = 5
  ·
   subst h4
   go_enter Tryz.func142, Tryz.ntmps142
   go_wp2
   go_ret
   exact ⟨rfl, rfl⟩
  ·
   have d4 : (k == 5) = false := beq_eq_false_iff_ne.2 h4
   have HF : Hid (zdp k = false) := decide_eq_false (fun h => h.elim h3 h4)
   clear h3 h4
   go_enter Tryz.func142, Tryz.ntmps142
   go_wp2
   go_ret
   exact ⟨by rw [HF.out]; rfl, rfl⟩
theorem zkD (w : World) (G : Nat) (M : Array Value) (hM : M.size = G * 4) (hG : G ≤ maxLen) : (w.alloc (.cells M 90)).ownsRow w.heap.size 90 4 (.slice (some ⟨w.heap.size, 0, none⟩) 0 G) 0 [] :=
 ⟨by simp, Or.inr ⟨w.heap.size, G, M, rfl, Nat.le_refl _, heap_alloc_new w _, Nat.zero_le _, hG, hM, by simp⟩⟩
set_option maxHeartbeats 2000000 in
set_option maxRecDepth 100000 in
theorem zlJ (n : Nat) (w : World) (hn : n ≤ 1048576) : Calls Tryz.prog 161 #[.slice none 0 0, .int .i64 (n : Int)] w fun e w' => ∃ v, e = .returned v ∧ w'.ownsRow w.heap.size 90 4 v 0 [] ∧ Below w.heap.size w w' := by
 obtain ⟨i0, hi, hz0, hz1, hz2⟩ := info_parts zd8
 rcases Nat.eq_zero_or_pos n with rfl | hp
 ·
  have HO : Hid (w.ownsRow w.heap.size 90 4 (.slice none 0 0) 0 []) := World.ownsRow_nil w _ _ _
  go_enter Tryz.func161, Tryz.ntmps161
  go_wp2
  go_ret
  first | exact ⟨_, rfl, HO.out, Below.refl _ _⟩ | exact ⟨HO.out, Below.refl _ _⟩
 ·
  have hrun := Lib.run_append_grow_zeros (P := Tryz.prog) w 46 3 46 90 i0 (.agg #[.int .i64 0, .int .i64 0, .string ⟨#[]⟩, .string ⟨#[]⟩]) .i64 .i64 Tryz.underlying46 Tryz.underlying3 hi hz0 none 0 0 [] (run_firstCells_none w.drew i0.size 0 0 0) n hp (by omega) (by omega) (by omega) (by rw [hz2]; omega) (growslice_fits (by omega) (by rw [hz2]; omega))
  rw [Nat.zero_add] at hrun
  have hge : n ≤ grownCap w n 0 90 := grownCap_ge w _ _ _
  have hle : grownCap w n 0 90 ≤ maxLen := grownCap_le_maxLen w _ _ _ (by unfold maxLen; omega)
  obtain ⟨G, hG⟩ : ∃ G, grownCap w n 0 90 = G := ⟨_, rfl⟩
  rw [hG] at hrun hge hle
  obtain ⟨M, hM⟩ : ∃ M, ([] : List Value).toArray ++ Builtin.zeroCells (Value.agg #[.int .i64 0, .int .i64 0, .string ⟨#[]⟩, .string ⟨#[]⟩]).cells n ++ Builtin.zeroCells (Value.agg #[.int .i64 0, .int .i64 0, .string ⟨#[]⟩, .string ⟨#[]⟩]).cells (G - n) = M := ⟨_, rfl⟩
  have hMs : M.size = G * 4 := by
   rw [← hM]
   simp only [Array.size_append, size_zeroCells]
   rw [show (Value.agg #[.int .i64 0, .int .i64 0, .string ⟨#[]⟩, .string ⟨#[]⟩]).cells.size = 4 from rfl]
   simp
   omega
  rw [hM] at hrun
  obtain ⟨X, hX⟩ : ∃ X, w.drew.alloc (.cells M 90) = X := ⟨_, rfl⟩
  have HO : Hid (X.ownsRow w.heap.size 90 4 (.slice (some ⟨w.heap.size, 0, none⟩) 0 G) 0 []) := by
   exact (by rw [← hX]; exact zkD w.drew G M hMs hle : X.ownsRow w.heap.size 90 4 (.slice (some ⟨w.heap.size, 0, none⟩) 0 G) 0 [])
  have HB : Hid (Below w.heap.size w X) := by
   exact (by rw [← hX]; exact Below.alloc (a := w) (w := w.drew) ⟨rfl, rfl, rfl, Nat.le_refl _, fun _ _ => rfl⟩ (Nat.le_refl _) _ : Below w.heap.size w X)
  rw [hX] at hrun
  have hG2 : (G : Int) ≤ 9223372036854775807 := by unfold maxLen at hle; omega
  have hnp : (0 : Int) < (n : Int) := by omega
  clear hM hMs hX hG hle
  go_enter Tryz.func161, Tryz.ntmps161
  go_wp2_with (at_builtin; refine Lib.wpList_append_run _ rfl _ _ _ _ rfl _ _ rfl rfl _ _ hrun ?_)
  all_goals
   go_ret
   first | exact ⟨_, rfl, HO.out, HB.out⟩ | exact ⟨HO.out, HB.out⟩
def flN (rs : List (List Nd)) (j : Nat) : Nat := (rs.take j).flatten.length
def flL (rs : List (List Nd)) (j : Nat) : List Nd := (rs.take j).flatten
theorem zeV (rs : List (List Nd)) (j : Nat) (h : j < rs.length) : flN rs (j + 1) = flN rs j + (rs.getD j []).length ∧ flL rs (j + 1) = flL rs j ++ rs.getD j [] := by
 have h1 : (rs.take (j + 1)).flatten = (rs.take j).flatten ++ rs.getD j [] := by
  rw [List.take_succ_eq_append_getElem h, List.flatten_append]
  simp [List.getD, h]
 refine ⟨?_, h1⟩
 unfold flN
 rw [h1, List.length_append]
theorem flN_le (rs : List (List Nd)) (j : Nat) : flN rs j ≤ rs.flatten.length := by
 have h : rs.flatten = (rs.take j).flatten ++ (rs.drop j).flatten := by rw [← List.flatten_append, List.take_append_drop]
 unfold flN
 rw [h, List.length_append]
 omega
structure zfC (w : World) (a : Option Addr) (B : Nat) (vs : List Value) (rs : List (List Nd)) : Prop where
 len : vs.length = rs.length
 cell : ∀ j, j < rs.length → ∃ b off, a = some ⟨b, off, none⟩ ∧ b < w.heap.size ∧ w.cell? ⟨b, off + j, none⟩ = some (vs.getD j (.slice none 0 0))
 row : ∀ j, j < rs.length → w.ownsRow B 90 4 (vs.getD j (.slice none 0 0)) (rs.getD j []).length (za0 (rs.getD j []))
theorem zfC.below {w w' : World} {a : Option Addr} {B : Nat} {vs : List Value} {rs : List (List Nd)} (h : zfC w a B vs rs) (hb : Below w.heap.size w w') : zfC w' a B vs rs :=
 ⟨h.len, fun j hj => by
  obtain ⟨b, off, e, hl, hc⟩ := h.cell j hj
  exact ⟨b, off, e, Nat.lt_of_lt_of_le hl hb.size, (hb.cell (p := ⟨b, off + j, none⟩) hl).trans hc⟩, fun j hj => za2 (h.row j hj) hb⟩
set_option maxHeartbeats 4000000 in
set_option maxRecDepth 100000 in
theorem zi7 (a : Option Addr) (cap B : Nat) (vs : List Value) (rs : List (List Nd)) (w : World) (h : zfC w a B vs rs) (hl : rs.flatten.length ≤ 4096) (hk : rs.length ≤ 4096) :
 Calls Tryz.prog 143 #[.slice a rs.length cap] w fun e w' => ∃ v, e = .returned v ∧ w'.ownsRow w.heap.size 90 4 v rs.flatten.length (za0 rs.flatten) ∧ Below w.heap.size w w' := by
 have HI : Hid (zfC w a B vs rs) := h
 have HL : Hid (rs.flatten.length ≤ 4096) := hl
 have HE : Hid (flN rs rs.length = rs.flatten.length ∧ flL rs rs.length = rs.flatten) := by
  exact (by unfold flN flL; rw [List.take_length]; exact ⟨rfl, rfl⟩ : flN rs rs.length = rs.flatten.length ∧ flL rs rs.length = rs.flatten)
 have HL2 : Hid (∀ j, flN rs j ≤ 4096) := fun j => Nat.le_trans (flN_le rs j) hl
 obtain ⟨n, hn⟩ : ∃ n, rs.length = n := ⟨_, rfl⟩
 have HN : Hid (rs.length = n) := hn
 rw [hn] at HE hk ⊢
 generalize rs.flatten = res at HE HL ⊢
 obtain ⟨i0, hi, hz0, hz1, hz2⟩ := info_parts zd8
 clear h hl hn
 go_enter Tryz.func143, Tryz.ntmps143
 go_wp2
 go_loop [3, 11] (fun sv iv => ∃ k : Nat, k ≤ n ∧ iv = .int .i64 k ∧ sv = .int .i64 (flN rs k : Nat)) (fun _ iv => n - (intOf iv).toNat)
 case atStart => exact ⟨0, Nat.zero_le _, rfl, rfl⟩
 case round =>
  obtain ⟨k, hkn, rfl, rfl⟩ := hrel
  by_cases hlt : (k : Int) < (n : Int)
  ·
   obtain ⟨b, off, rfl, hbl, hc⟩ := HI.out.cell k (by rw [HN.out]; omega)
   obtain ⟨hgl, av, cv, hv, _⟩ := zaq (HI.out.row k (by rw [HN.out]; omega))
   have hst := (zeV rs k (by rw [HN.out]; omega)).1
   have hle := HL2.out (k + 1)
   rw [hv] at hc
   obtain ⟨m, hm⟩ : ∃ m, (rs.getD k []).length = m := ⟨_, rfl⟩
   rw [hm] at hc hst
   have hsum : (flN rs k : Int) + (m : Int) ≤ 4096 := by omega
   have hneg : ¬ ((flN rs k : Int) + (m : Int) < 0) := by omega
   have HF : Hid (flN rs (k + 1) = flN rs k + m) := hst
   clear hst hle hm hv hgl
   go_wp2
   go_round
   case rel => exact ⟨k + 1, by omega, by go_num, by rw [HF.out]; go_num⟩
   case measure => simp [intOf]; omega
  ·
   obtain rfl : k = n := by omega
   have hle := HL2.out k
   have HG : Hid (_) := zlJ (flN rs k) w (by omega)
   clear hle
   go_wp2_with fail
   refine Calls.mono HG.out ?_
   rintro e w1 ⟨v, rfl, ho, hb⟩
   have HO : Hid (w1.ownsRow w.heap.size 90 4 v 0 []) := ho
   have HB : Hid (Below w.heap.size w w1) := hb
   clear ho hb HG
   go_wp2
   go_loopw [6, 27] (fun nv iv wx => ∃ q : Nat, q ≤ k ∧ iv = .int .i64 q ∧ Hid (wx.ownsRow w.heap.size 90 4 nv (flN rs q) (za0 (flL rs q))) ∧ Hid (Below w.heap.size w wx)) (fun _ iv _ => k - (intOf iv).toNat)
   case atStart => exact ⟨0, Nat.zero_le _, rfl, HO, HB⟩
   case round =>
    obtain ⟨q, hq, rfl, HV, HBr⟩ := hrel
    clear HO HB
    by_cases hql : (q : Int) < (k : Int)
    ·
     have hq2 : q < rs.length := by rw [HN.out]; omega
     have hpt := HI.out.below HBr.out
     obtain ⟨b, off, rfl, hbl, hc⟩ := hpt.cell q hq2
     have hrow := hpt.row q hq2
     have hst := zeV rs q hq2
     have hle := HL2.out (q + 1)
     obtain ⟨r, hr⟩ : ∃ r, rs.getD q [] = r := ⟨_, rfl⟩
     rw [hr] at hrow hst
     obtain ⟨hgl, av, cv, hv, _⟩ := zaq hrow
     rw [hv] at hc hrow
     obtain ⟨v', Y, hrun, hown, hg, _⟩ := zaS (P := Tryz.prog) wr w.heap.size 46 46 90 i0 _ 4 48 Tryz.underlying46 hi hz0 hz1 hz2 rfl (by decide) _ _ _ HV.out _ _ _ (zhJ hrow (zd4 r)) (by unfold maxLen; omega) (by omega) HBr.out.size
     have HV2 : Hid (Y.ownsRow w.heap.size 90 4 v' (flN rs (q + 1)) (za0 (flL rs (q + 1)))) := by
      exact (by rw [hst.1, hst.2, zcG]; exact hown : Y.ownsRow w.heap.size 90 4 v' (flN rs (q + 1)) (za0 (flL rs (q + 1))))
     have HB2 : Hid (Below w.heap.size w Y) := HBr.out.grown hg HBr.out.size (fun k e => (HV.out.lt k e).1)
     clear hst hle hr hv hrow hown hg hpt HV HBr hgl
     go_wp2_with (at_builtin; refine wpList_append_run rfl (.tmp 31) (.tmp 32) 46 rfl _ _ _ rfl rfl hrun ?_; clear hrun)
     go_roundw
     case rel => exact ⟨q + 1, by omega, by go_num, HV2, HB2⟩
     case measure => simp [intOf]; omega
    ·
     obtain rfl : q = k := by omega
     go_wp2
     go_ret
     rw [HE.out.1, HE.out.2] at HV
     first | exact ⟨_, rfl, HV.out, HBr.out⟩ | exact ⟨HV.out, HBr.out⟩
theorem zit (W : World) (B : Nat) (n : Nd) {g : Nat} (hrow : W.ownsRow B 90 4 (.slice (some ⟨g, 0, none⟩) 1 1) 1 (za0 [n])) (v : Value) (xs : List Nd) {B2 : Nat} (hv : W.ownsRow B2 90 4 v xs.length (za0 xs)) (hB : B ≤ W.heap.size) (hl : xs.length ≤ 4096) :
 ∃ v' Y, (Builtin.append_ #[46, 46] 46 #[.slice (some ⟨g, 0, none⟩) 1 1, v]).run Tryz.prog W = .ok v' Y ∧ Y.ownsRow B 90 4 v' (n :: xs).length (za0 (n :: xs)) ∧ W.grownBy Y (some g) := by
 obtain ⟨i0, hi, hz0, hz1, hz2⟩ := info_parts zd8
 obtain ⟨v', Y, hrun, hown, hg, _⟩ := zaS (P := Tryz.prog) W B 46 46 90 i0 _ 4 48 Tryz.underlying46 hi hz0 hz1 hz2 rfl (by decide) _ _ _ hrow _ _ _ (zhJ hv (zd4 xs)) (by unfold maxLen; omega) (by omega) hB
 refine ⟨v', Y, hrun, ?_, hg⟩
 rw [← zcG, Nat.add_comm] at hown
 exact hown
theorem zew (W : World) (B : Nat) (n : Nd) (hB : B ≤ W.heap.size) : (W.alloc (.cells #[.int .i64 n.1, .int .i64 n.2.1, .string ⟨n.2.2.1.toArray⟩, .string ⟨n.2.2.2.toArray⟩] 90)).ownsRow B 90 4 (.slice (some ⟨W.heap.size, 0, none⟩) 1 1) 1 (za0 [n]) :=
 World.ownsRow_lit (base := B) (e := 90) (size := 4) W #[.int .i64 n.1, .int .i64 n.2.1, .string ⟨n.2.2.1.toArray⟩, .string ⟨n.2.2.2.toArray⟩] 1 hB (by decide) rfl
set_option maxHeartbeats 4000000 in
set_option maxRecDepth 100000 in
theorem zgr (n : Nd) (a : Option Addr) (cap B : Nat) (vs : List Value) (rs : List (List Nd)) (w : World) (h : zfC w a B vs rs) (hl : rs.flatten.length ≤ 4095) (hk : rs.length ≤ 4096) :
 Calls Tryz.prog 109 #[zaa n, .slice a rs.length cap] w fun e w' => ∃ v, e = .returned v ∧ w'.ownsRow w.heap.size 90 4 v (n :: rs.flatten).length (za0 (n :: rs.flatten)) ∧ Below w.heap.size w w' := by
 obtain ⟨k, A, p, f⟩ := n
 obtain ⟨W0, hW0⟩ : ∃ W0, w.alloc (.cells #[.int .i64 k, .int .i64 A, .string ⟨p.toArray⟩, .string ⟨f.toArray⟩] 90) = W0 := ⟨_, rfl⟩
 have st := NdAt.new w k A p f
 have hB : Below w.heap.size w W0 := by rw [← hW0]; exact (Below.refl _ w).alloc (Nat.le_refl _) _
 rw [hW0] at st
 obtain ⟨D, hD0⟩ : ∃ D, w.heap.size = D := ⟨_, rfl⟩
 rw [hD0] at st
 have hD : Hid (w.heap.size = D) := hD0
 obtain ⟨r, hr0⟩ : ∃ r, rs.flatten = r := ⟨_, rfl⟩
 have HCn : Hid (∀ Z, Below w.heap.size w Z → Calls Tryz.prog 143 #[.slice a rs.length cap] Z fun e w' => ∃ v, e = .returned v ∧ w'.ownsRow Z.heap.size 90 4 v r.length (za0 r) ∧ Below Z.heap.size Z w') := fun Z hz => by
  have := zi7 a cap B vs rs Z (h.below hz) (by omega) hk
  rw [hr0] at this
  exact this
 rw [hr0] at hl ⊢
 unfold zaa
 simp only
 obtain ⟨X, hX⟩ : ∃ X, W0.alloc (.cells #[.int .i64 k, .int .i64 A, .string ⟨p.toArray⟩, .string ⟨f.toArray⟩] 90) = X := ⟨_, rfl⟩
 have hbX : Below W0.heap.size W0 X := by rw [← hX]; exact (Below.refl _ W0).alloc (Nat.le_refl _) _
 have HOX : Hid (X.ownsRow w.heap.size 90 4 (.slice (some ⟨W0.heap.size, 0, none⟩) 1 1) 1 (za0 [(k, A, p, f)])) := by
  exact (by rw [← hX]; exact zew W0 w.heap.size (k, A, p, f) hB.size : X.ownsRow w.heap.size 90 4 (.slice (some ⟨W0.heap.size, 0, none⟩) 1 1) 1 (za0 [(k, A, p, f)]))
 have stX := st.below hbX
 have HB0 : Hid (Below w.heap.size w W0.drew) := ⟨hB.os, hB.tape, hB.output, hB.size, hB.block⟩
 have HBx : Hid (Below w.heap.size w X) := hB.trans (hbX.mono hB.size)
 have HBX : Hid (Below w.heap.size w X.drew) := ⟨HBx.out.os, HBx.out.tape, HBx.out.output, HBx.out.size, HBx.out.block⟩
 have HCA : Hid (_) := HCn.out X.drew HBX.out
 have HCB : Hid (_) := HCn.out W0.drew HB0.out
 have HSt : Hid (∀ w5 Z : World, Z = W0 ∨ Z = X → Below Z.heap.size Z w5 → NdAt w5 D k A p f ∧ Below w.heap.size w w5) := fun w5 Z hz hb => by
  rcases hz with rfl | rfl
  ·
   exact ⟨st.below hb, hB.trans (hb.mono hB.size)⟩
  ·
   exact ⟨stX.below hb, HBx.out.trans (hb.mono HBx.out.size)⟩
 have c0 := st.c0
 have c1 := st.c1
 have c2 := st.c2
 have c3 := st.c3
 have x0 := stX.c0
 have x1 := stX.c1
 have x2 := stX.c2
 have x3 := stX.c3
 obtain ⟨res, hres⟩ : ∃ res, ((k, A, p, f) :: r : List Nd) = res := ⟨_, rfl⟩
 have HR : Hid (((k, A, p, f) :: r : List Nd) = res) := hres
 rw [hres]
 clear st stX hB hbX HCn h hr0 HBX hres
 go_enter Tryz.func109, Tryz.ntmps109
 go_upto_region 1 with fail
 go_region_law (first | (refine za8 (by rfl) (.tmp 6) (.tmp 8) 46 (by rfl) _ _ _ (by rfl) (by rfl) hr ?_) | (go_simp; go_at_call 143; (first | (refine Calls.mono HCA.out ?_; rintro e w5 ⟨v, rfl, hv, hb5⟩; have hb6 : Below X.heap.size X w5 := ⟨hb5.os, hb5.tape, hb5.output, hb5.size, hb5.block⟩; obtain ⟨st5, hbw⟩ := HSt.out w5 X (Or.inr rfl) hb6; obtain ⟨v', Y, hr, ho, hg⟩ := zit w5 w.heap.size (k, A, p, f) (za2 HOX.out hb6) v r hv hbw.size (by omega); rw [HR.out] at ho; have HO : Hid (Y.ownsRow w.heap.size 90 4 v' res.length (za0 res)) := ho; have HB : Hid (Below w.heap.size w Y) := hbw.grown hg hbw.size (fun q e => (by injection e with e; have := HB0.out.size; have e2 : W0.drew.heap.size = W0.heap.size := rfl; omega)); clear ho hg hv hb5 hb6 hbw st5) | (refine Calls.mono HCB.out ?_; rintro e w5 ⟨v, rfl, hv, hb5⟩; have hb6 : Below W0.heap.size W0 w5 := ⟨hb5.os, hb5.tape, hb5.output, hb5.size, hb5.block⟩; obtain ⟨st5, hbw⟩ := HSt.out w5 W0 (Or.inl rfl) hb6; have y0 := st5.c0; have y1 := st5.c1; have y2 := st5.c2; have y3 := st5.c3; have hbA : Below w5.heap.size w5 (w5.alloc (.cells #[.int .i64 k, .int .i64 A, .string ⟨p.toArray⟩, .string ⟨f.toArray⟩] 90)) := (Below.refl _ w5).alloc (Nat.le_refl _) _; have hbB := hbw.trans (hbA.mono hbw.size); obtain ⟨v', Y, hr, ho, hg⟩ := zit (w5.alloc (.cells #[.int .i64 k, .int .i64 A, .string ⟨p.toArray⟩, .string ⟨f.toArray⟩] 90)) w.heap.size (k, A, p, f) (zew w5 w.heap.size (k, A, p, f) hbw.size) v r (za2 hv hbA) hbB.size (by omega); rw [HR.out] at ho; have HO : Hid (Y.ownsRow w.heap.size 90 4 v' res.length (za0 res)) := ho; have HB : Hid (Below w.heap.size w Y) := hbB.grown hg hbB.size (fun q e => (by injection e with e; have := hbw.size; omega)); clear ho hg hv hb5 hb6 hbw st5 hbA hbB)); dsimp only))
 all_goals
  go_wp2
  go_ret
  have ho2 := HO.out
  have hb2 := HB.out
  rw [hD.out] at ho2 hb2
  first | exact ⟨_, rfl, ho2, hb2⟩ | exact ⟨ho2, hb2⟩
def zc9 (r : List Nd) : Int := if zai r = true then (r.getD 0 nd0).2.1 else 0
theorem ziC {r : List Nd} (h : One r) : zai r = hdIs r := by
 unfold zai hdIs
 by_cases h1 : (r.getD 0 nd0).1 = 1
 ·
  obtain ⟨v, e, _⟩ := one_num h h1
  rw [decide_eq_true h1]
  exact decide_eq_true ⟨by rw [e]; rfl, h1⟩
 ·
  rw [decide_eq_false h1]
  exact decide_eq_false (fun e => h1 e.2)
theorem numA_of {r : List Nd} (h : One r) : zc9 r = zi3 r := by
 unfold zc9 zi3
 rw [ziC h]
 unfold hdIs
 simp only [decide_eq_true_eq]
theorem zl8 (r : List Nd) (v : Int) : zap r v = (zai r && (zc9 r == v)) := by
 unfold zap zc9
 rcases h : zai r with _ | _
 ·
  rfl
 ·
  simp only [Bool.true_and, if_true]
  by_cases e : (r.getD 0 nd0).2.1 = v
  ·
   rw [decide_eq_true e, e]; simp
  ·
   rw [decide_eq_false e]; exact (beq_eq_false_iff_ne.2 e).symm
theorem zkX (n : Nd) (h : 3 ≤ n.1 ∧ n.1 ≤ 6) (r1 r2 : List Nd) : mk11 n [r1, r2] =
 if (zai r1 && zai r2) = true then (if zbt n.1 (zc9 r1) (zc9 r2) = true then [(1, zb3 n.1 (zc9 r1) (zc9 r2), [], [])] else n :: [r1, r2].flatten)
 else if (zai r2 && (zc9 r2 == zcV n.1)) = true then r1
 else if (zai r1 && (zc9 r1 == zcV n.1) && zdp n.1) = true then r2
 else n :: [r1, r2].flatten := by
 unfold mk11
 rw [if_pos h]
 simp only [show ([r1, r2] : List (List Nd)).getD 0 [] = r1 from rfl, show ([r1, r2] : List (List Nd)).getD 1 [] = r2 from rfl]
 by_cases hb : (zai r1 && zai r2) = true
 ·
  rw [if_pos hb, if_pos hb]
  rw [Bool.and_eq_true] at hb
  unfold zc9
  rw [if_pos hb.1, if_pos hb.2]
 ·
  rw [if_neg hb, if_neg hb]
  simp only [zl8]
  rcases (show n.1 = 3 ∨ n.1 = 4 ∨ n.1 = 5 ∨ n.1 = 6 by omega) with e | e | e | e <;> rw [e] <;> simp [zcV, zdp]
theorem mk11_if (n : Nd) (h : n.1 = 7) (r1 r2 r3 : List Nd) : mk11 n [r1, r2, r3] = if zai r1 = true then (if (zc9 r1 == 0) = true then r3 else r2) else n :: [r1, r2, r3].flatten := by
 unfold mk11
 rw [if_neg (by omega), if_pos h]
 simp only [show ([r1, r2, r3] : List (List Nd)).getD 0 [] = r1 from rfl, show ([r1, r2, r3] : List (List Nd)).getD 1 [] = r2 from rfl, show ([r1, r2, r3] : List (List Nd)).getD 2 [] = r3 from rfl]
 by_cases hb : zai r1 = true
 ·
  rw [if_pos hb, if_pos hb, zl8, hb, Bool.true_and]
 ·
  rw [if_neg hb, if_neg hb]
theorem zkY (n : Nd) (h : ¬ (3 ≤ n.1 ∧ n.1 ≤ 6)) (h7 : n.1 ≠ 7) (rs : List (List Nd)) : mk11 n rs = n :: rs.flatten := by
 unfold mk11
 rw [if_neg h, if_neg h7]
theorem pts_two (W : World) {B : Nat} {v1 v2 : Value} {r1 r2 : List Nd} (h1 : W.ownsRow B 90 4 v1 r1.length (za0 r1)) (h2 : W.ownsRow B 90 4 v2 r2.length (za0 r2)) : zfC (W.alloc (.cells #[v1, v2] 46)) (some ⟨W.heap.size, 0, none⟩) B [v1, v2] [r1, r2] := by
 have hb : Below W.heap.size W (W.alloc (.cells #[v1, v2] 46)) := (Below.refl _ W).alloc (Nat.le_refl _) _
 refine ⟨rfl, fun j hj => ⟨_, _, rfl, by simp, ?_⟩, fun j hj => ?_⟩
 ·
  match j, hj with
  | 0, _ => simp
  | 1, _ => simp
 ·
  match j, hj with
  | 0, _ => exact za2 h1 hb
  | 1, _ => exact za2 h2 hb
theorem zkz (W : World) {B : Nat} {v1 v2 v3 : Value} {r1 r2 r3 : List Nd} (h1 : W.ownsRow B 90 4 v1 r1.length (za0 r1)) (h2 : W.ownsRow B 90 4 v2 r2.length (za0 r2)) (h3 : W.ownsRow B 90 4 v3 r3.length (za0 r3)) : zfC (W.alloc (.cells #[v1, v2, v3] 46)) (some ⟨W.heap.size, 0, none⟩) B [v1, v2, v3] [r1, r2, r3] := by
 have hb : Below W.heap.size W (W.alloc (.cells #[v1, v2, v3] 46)) := (Below.refl _ W).alloc (Nat.le_refl _) _
 refine ⟨rfl, fun j hj => ⟨_, _, rfl, by simp, ?_⟩, fun j hj => ?_⟩
 ·
  match j, hj with
  | 0, _ => simp
  | 1, _ => simp
  | 2, _ => simp
 ·
  match j, hj with
  | 0, _ => exact za2 h1 hb
  | 1, _ => exact za2 h2 hb
  | 2, _ => exact za2 h3 hb
theorem zey {W : World} {B : Nat} {a : Option Addr} {c : Nat} {r : List Nd} (ho : W.ownsRow B 90 4 (.slice a r.length c) r.length (za0 r)) (h : One r) :
 Calls Tryz.prog 139 #[.slice a r.length c] W fun e w' => e = .returned (.tuple #[.int .i64 (zc9 r), .bool (zai r)]) ∧ w' = W := by
 obtain ⟨_, a', c', e, hn⟩ := zaq ho
 injection e with e1 _ e3
 subst e1 e3
 have h1 := zlv a r.length c r W hn h.pos
 rw [← numA_of h, ← ziC h] at h1
 exact h1
set_option maxHeartbeats 8000000 in
set_option maxRecDepth 100000 in
theorem implPair (n : Nd) (h36 : 3 ≤ n.1 ∧ n.1 ≤ 6) (B : Nat) (a1 : Option Addr) (c1 : Nat) (r1 : List Nd) (a2 : Option Addr) (c2 : Nat) (r2 : List Nd) (w : World) (hB : B ≤ w.heap.size)
 (ho1 : w.ownsRow B 90 4 (.slice a1 r1.length c1) r1.length (za0 r1)) (ho2 : w.ownsRow B 90 4 (.slice a2 r2.length c2) r2.length (za0 r2)) (h1 : One r1) (h2 : One r2) (hl : r1.length + r2.length ≤ 4000) :
 Calls Tryz.prog 107 #[zaa n, .slice a1 r1.length c1, .slice a2 r2.length c2] w fun e w' => ∃ v, e = .returned v ∧ w'.ownsRow B 90 4 v (mk11 n [r1, r2]).length (za0 (mk11 n [r1, r2])) ∧ Below w.heap.size w w' := by
 have HM : Hid (_) := zkX n h36 r1 r2
 obtain ⟨W0, hW0⟩ : ∃ W0, w.alloc (.cells #[.int .i64 n.1, .int .i64 n.2.1, .string ⟨n.2.2.1.toArray⟩, .string ⟨n.2.2.2.toArray⟩] 90) = W0 := ⟨_, rfl⟩
 have st := NdAt.new w n.1 n.2.1 n.2.2.1 n.2.2.2
 have hb0 : Below w.heap.size w W0 := by rw [← hW0]; exact (Below.refl _ w).alloc (Nat.le_refl _) _
 rw [hW0] at st
 have ho1' := za2 ho1 hb0
 have ho2' := za2 ho2 hb0
 have HN1 : Hid (_) := zey ho1' h1
 have HN2 : Hid (_) := zey ho2' h2
 have HRet1 : Hid (mk11 n [r1, r2] = r1 → W0.ownsRow B 90 4 (.slice a1 r1.length c1) (mk11 n [r1, r2]).length (za0 (mk11 n [r1, r2]))) := fun e => by rw [e]; exact ho1'
 have HRet2 : Hid (mk11 n [r1, r2] = r2 → W0.ownsRow B 90 4 (.slice a2 r2.length c2) (mk11 n [r1, r2]).length (za0 (mk11 n [r1, r2]))) := fun e => by rw [e]; exact ho2'
 have hbP : Below W0.heap.size W0 (W0.alloc (.cells #[.slice a1 r1.length c1, .slice a2 r2.length c2] 46)) := (Below.refl _ W0).alloc (Nat.le_refl _) _
 have HW : Hid (mk11 n [r1, r2] = n :: [r1, r2].flatten → Calls Tryz.prog 109 #[zaa n, .slice (some ⟨W0.heap.size, 0, none⟩) 2 2] (W0.alloc (.cells #[.slice a1 r1.length c1, .slice a2 r2.length c2] 46)) fun e w' => ∃ v, e = .returned v ∧ w'.ownsRow B 90 4 v (mk11 n [r1, r2]).length (za0 (mk11 n [r1, r2])) ∧ Below w.heap.size w w') := fun e => by
  rw [e]
  refine (zgr n (some ⟨W0.heap.size, 0, none⟩) 2 B _ [r1, r2] _ (pts_two W0 ho1' ho2') (by simp; omega) (by simp)).mono ?_
  rintro e' w' ⟨v, rfl, ho, hb⟩
  have hbw := hb0.trans (hbP.mono hb0.size)
  exact ⟨v, rfl, zaj ho (Nat.le_trans hB hbw.size), hbw.trans (hb.mono hbw.size)⟩
 have HNum : Hid (∀ x, mk11 n [r1, r2] = [(1, x, [], [])] → (W0.alloc (.cells #[.int .i64 1, .int .i64 x, .string ⟨#[]⟩, .string ⟨#[]⟩] 90)).ownsRow B 90 4 (.slice (some ⟨W0.heap.size, 0, none⟩) 1 1) (mk11 n [r1, r2]).length (za0 (mk11 n [r1, r2])) ∧ Below w.heap.size w (W0.alloc (.cells #[.int .i64 1, .int .i64 x, .string ⟨#[]⟩, .string ⟨#[]⟩] 90))) := fun x e => by
  rw [e]
  exact ⟨zew W0 B (1, x, [], []) (Nat.le_trans hB hb0.size), hb0.trans (((Below.refl _ W0).alloc (Nat.le_refl _) _).mono hb0.size)⟩
 have HB0 : Hid (Below w.heap.size w W0) := hb0
 generalize mk11 n [r1, r2] = res at HM HRet1 HRet2 HW HNum ⊢
 generalize zai r1 = i1 at HM HN1
 generalize zai r2 = i2 at HM HN2
 generalize zc9 r1 = x1 at HM HN1
 generalize zc9 r2 = x2 at HM HN2
 generalize r1.length = l1 at HN1 HRet1 HW ⊢
 generalize r2.length = l2 at HN2 HRet2 HW ⊢
 obtain ⟨D, hD0⟩ : ∃ D, w.heap.size = D := ⟨_, rfl⟩
 rw [hD0] at st
 obtain ⟨k, A, p, f⟩ := n
 unfold zaa at HW ⊢
 simp only at HM HW st hW0 ⊢
 have q0 := st.c0
 have q1 := st.c1
 have q2 := st.c2
 have q3 := st.c3
 clear st hb0 hbP ho1 ho2 ho1' ho2' h1 h2 hl hB
 go_enter Tryz.func107, Tryz.ntmps107
 go_wp2_with fail
 refine Calls.mono HN1.out ?_
 rintro e w1 ⟨rfl, rfl⟩
 go_wp2_with fail
 refine Calls.mono HN2.out ?_
 rintro e w2 ⟨rfl, rfl⟩
 clear HN1 HN2
 have HDo : Hid (_) := zlE k x1 x2 w2
 rcases i1 with _ | _
 ·
  clear HDo
  rcases i2 with _ | _
  ·
   have HE : Hid (res = (k, A, p, f) :: [r1, r2].flatten) := by exact (by have := HM.out; simpa using this : res = (k, A, p, f) :: [r1, r2].flatten)
   have HW2 : Hid (_) := HW.out HE.out
   clear HM HRet1 HRet2 HW HNum HE
   go_wp2_with (first | (go_at_call 141; refine (zda _ _).mono ?_; rintro e w' ⟨rfl, rfl⟩) | (go_at_call 142; refine (zcw _ _).mono ?_; rintro e w' ⟨rfl, rfl⟩))
   refine Calls.mono HW2.out ?_
   rintro e w3 ⟨v, rfl, ho, hb⟩
   go_wp2
   go_ret
   first | exact ⟨_, rfl, ho, hb⟩ | exact ⟨ho, hb⟩
  ·
   by_cases hx : x2 = zcV k
   ·
    have hxb : (x2 == zcV k) = true := beq_iff_eq.2 hx
    clear hx
    have HE : Hid (res = r1) := by exact (by have := HM.out; simpa [hxb] using this : res = r1)
    have HO : Hid (_) := HRet1.out HE.out
    clear HM HRet1 HRet2 HW HNum HE
    go_wp2_with (first | (go_at_call 141; refine (zda _ _).mono ?_; rintro e w' ⟨rfl, rfl⟩) | (go_at_call 142; refine (zcw _ _).mono ?_; rintro e w' ⟨rfl, rfl⟩))
    go_ret
    first | exact ⟨_, rfl, HO.out, HB0.out⟩ | exact ⟨HO.out, HB0.out⟩
   ·
    have hxb : (x2 == zcV k) = false := beq_eq_false_iff_ne.2 hx
    clear hx
    have HE : Hid (res = (k, A, p, f) :: [r1, r2].flatten) := by exact (by have := HM.out; simpa [hxb] using this : res = (k, A, p, f) :: [r1, r2].flatten)
    have HW2 : Hid (_) := HW.out HE.out
    clear HM HRet1 HRet2 HW HNum HE
    go_wp2_with (first | (go_at_call 141; refine (zda _ _).mono ?_; rintro e w' ⟨rfl, rfl⟩) | (go_at_call 142; refine (zcw _ _).mono ?_; rintro e w' ⟨rfl, rfl⟩))
    refine Calls.mono HW2.out ?_
    rintro e w3 ⟨v, rfl, ho, hb⟩
    go_wp2
    go_ret
    first | exact ⟨_, rfl, ho, hb⟩ | exact ⟨ho, hb⟩
 ·
  rcases i2 with _ | _
  ·
   clear HDo
   by_cases hx : x1 = zcV k
   ·
    have hxb : (x1 == zcV k) = true := beq_iff_eq.2 hx
    clear hx
    rcases hid : zdp k with _ | _
    ·
     have HId : Hid (zdp k = false) := hid
     have HE : Hid (res = (k, A, p, f) :: [r1, r2].flatten) := by exact (by have := HM.out; simpa [hxb, hid] using this : res = (k, A, p, f) :: [r1, r2].flatten)
     have HW2 : Hid (_) := HW.out HE.out
     clear HM HRet1 HRet2 HW HNum HE
     go_wp2_with (first | (go_at_call 141; refine (zda _ _).mono ?_; rintro e w' ⟨rfl, rfl⟩) | (go_at_call 142; refine (zcw _ _).mono ?_; rintro e w' ⟨rfl, rfl⟩))
     refine Calls.mono HW2.out ?_
     rintro e w3 ⟨v, rfl, ho, hb⟩
     go_wp2
     go_ret
     first | exact ⟨_, rfl, ho, hb⟩ | exact ⟨ho, hb⟩
    ·
     have HId : Hid (zdp k = true) := hid
     have HE : Hid (res = r2) := by exact (by have := HM.out; simpa [hxb, hid] using this : res = r2)
     have HO : Hid (_) := HRet2.out HE.out
     clear HM HRet1 HRet2 HW HNum HE
     go_wp2_with (first | (go_at_call 141; refine (zda _ _).mono ?_; rintro e w' ⟨rfl, rfl⟩) | (go_at_call 142; refine (zcw _ _).mono ?_; rintro e w' ⟨rfl, rfl⟩))
     go_ret
     first | exact ⟨_, rfl, HO.out, HB0.out⟩ | exact ⟨HO.out, HB0.out⟩
   ·
    have hxb : (x1 == zcV k) = false := beq_eq_false_iff_ne.2 hx
    clear hx
    have HE : Hid (res = (k, A, p, f) :: [r1, r2].flatten) := by exact (by have := HM.out; simpa [hxb] using this : res = (k, A, p, f) :: [r1, r2].flatten)
    have HW2 : Hid (_) := HW.out HE.out
    clear HM HRet1 HRet2 HW HNum HE
    go_wp2_with (first | (go_at_call 141; refine (zda _ _).mono ?_; rintro e w' ⟨rfl, rfl⟩) | (go_at_call 142; refine (zcw _ _).mono ?_; rintro e w' ⟨rfl, rfl⟩))
    refine Calls.mono HW2.out ?_
    rintro e w3 ⟨v, rfl, ho, hb⟩
    go_wp2
    go_ret
    first | exact ⟨_, rfl, ho, hb⟩ | exact ⟨ho, hb⟩
  ·
   rcases hdn : zbt k x1 x2 with _ | _
   ·
    have HE : Hid (res = (k, A, p, f) :: [r1, r2].flatten) := by exact (by have := HM.out; simpa [hdn] using this : res = (k, A, p, f) :: [r1, r2].flatten)
    have HW2 : Hid (_) := HW.out HE.out
    rw [hdn] at HDo
    clear HM HRet1 HRet2 HW HNum HE hdn
    go_wp2_with (go_at_call 140; refine Calls.mono HDo.out ?_; rintro e w' ⟨rfl, rfl⟩)
    refine Calls.mono HW2.out ?_
    rintro e w3 ⟨v, rfl, ho, hb⟩
    go_wp2
    go_ret
    first | exact ⟨_, rfl, ho, hb⟩ | exact ⟨ho, hb⟩
   ·
    have HE : Hid (res = [(1, zb3 k x1 x2, [], [])]) := by exact (by have := HM.out; simpa [hdn] using this : res = [(1, zb3 k x1 x2, [], [])])
    have HO : Hid (_) := HNum.out _ HE.out
    rw [hdn] at HDo
    clear HM HRet1 HRet2 HW HNum HE hdn
    generalize zb3 k x1 x2 = dv at HDo HO
    go_wp2_with (go_at_call 140; refine Calls.mono HDo.out ?_; rintro e w' ⟨rfl, rfl⟩)
    go_ret
    first | exact ⟨_, rfl, HO.out.1, HO.out.2⟩ | exact HO.out
set_option maxHeartbeats 8000000 in
set_option maxRecDepth 100000 in
theorem implIf11 (n : Nd) (h7 : n.1 = 7) (B : Nat) (a1 : Option Addr) (c1 : Nat) (r1 : List Nd) (a2 : Option Addr) (c2 : Nat) (r2 : List Nd) (a3 : Option Addr) (c3 : Nat) (r3 : List Nd) (w : World) (hB : B ≤ w.heap.size)
 (ho1 : w.ownsRow B 90 4 (.slice a1 r1.length c1) r1.length (za0 r1)) (ho2 : w.ownsRow B 90 4 (.slice a2 r2.length c2) r2.length (za0 r2)) (ho3 : w.ownsRow B 90 4 (.slice a3 r3.length c3) r3.length (za0 r3)) (h1 : One r1) (hl : r1.length + r2.length + r3.length ≤ 4000) :
 Calls Tryz.prog 108 #[zaa n, .slice a1 r1.length c1, .slice a2 r2.length c2, .slice a3 r3.length c3] w fun e w' => ∃ v, e = .returned v ∧ w'.ownsRow B 90 4 v (mk11 n [r1, r2, r3]).length (za0 (mk11 n [r1, r2, r3])) ∧ Below w.heap.size w w' := by
 have HM : Hid (_) := mk11_if n h7 r1 r2 r3
 obtain ⟨W0, hW0⟩ : ∃ W0, w.alloc (.cells #[.int .i64 n.1, .int .i64 n.2.1, .string ⟨n.2.2.1.toArray⟩, .string ⟨n.2.2.2.toArray⟩] 90) = W0 := ⟨_, rfl⟩
 have st := NdAt.new w n.1 n.2.1 n.2.2.1 n.2.2.2
 have hb0 : Below w.heap.size w W0 := by rw [← hW0]; exact (Below.refl _ w).alloc (Nat.le_refl _) _
 rw [hW0] at st
 have ho1' := za2 ho1 hb0
 have ho2' := za2 ho2 hb0
 have ho3' := za2 ho3 hb0
 have HN1 : Hid (_) := zey ho1' h1
 have HRet2 : Hid (mk11 n [r1, r2, r3] = r2 → W0.ownsRow B 90 4 (.slice a2 r2.length c2) (mk11 n [r1, r2, r3]).length (za0 (mk11 n [r1, r2, r3]))) := fun e => by rw [e]; exact ho2'
 have HRet3 : Hid (mk11 n [r1, r2, r3] = r3 → W0.ownsRow B 90 4 (.slice a3 r3.length c3) (mk11 n [r1, r2, r3]).length (za0 (mk11 n [r1, r2, r3]))) := fun e => by rw [e]; exact ho3'
 have hbP : Below W0.heap.size W0 (W0.alloc (.cells #[.slice a1 r1.length c1, .slice a2 r2.length c2, .slice a3 r3.length c3] 46)) := (Below.refl _ W0).alloc (Nat.le_refl _) _
 have HW : Hid (mk11 n [r1, r2, r3] = n :: [r1, r2, r3].flatten → Calls Tryz.prog 109 #[zaa n, .slice (some ⟨W0.heap.size, 0, none⟩) 3 3] (W0.alloc (.cells #[.slice a1 r1.length c1, .slice a2 r2.length c2, .slice a3 r3.length c3] 46)) fun e w' => ∃ v, e = .returned v ∧ w'.ownsRow B 90 4 v (mk11 n [r1, r2, r3]).length (za0 (mk11 n [r1, r2, r3])) ∧ Below w.heap.size w w') := fun e => by
  rw [e]
  refine (zgr n (some ⟨W0.heap.size, 0, none⟩) 3 B _ [r1, r2, r3] _ (zkz W0 ho1' ho2' ho3') (by simp; omega) (by simp)).mono ?_
  rintro e' w' ⟨v, rfl, ho, hb⟩
  have hbw := hb0.trans (hbP.mono hb0.size)
  exact ⟨v, rfl, zaj ho (Nat.le_trans hB hbw.size), hbw.trans (hb.mono hbw.size)⟩
 have HB0 : Hid (Below w.heap.size w W0) := hb0
 generalize mk11 n [r1, r2, r3] = res at HM HRet2 HRet3 HW ⊢
 generalize zai r1 = i1 at HM HN1
 generalize zc9 r1 = x1 at HM HN1
 generalize r1.length = l1 at HN1 HW ⊢
 generalize r2.length = l2 at HRet2 HW ⊢
 generalize r3.length = l3 at HRet3 HW ⊢
 obtain ⟨D, hD0⟩ : ∃ D, w.heap.size = D := ⟨_, rfl⟩
 rw [hD0] at st
 obtain ⟨k, A, p, f⟩ := n
 unfold zaa at HW ⊢
 simp only at HM HW st hW0 ⊢
 have q0 := st.c0
 have q1 := st.c1
 have q2 := st.c2
 have q3 := st.c3
 clear st hb0 hbP ho1 ho2 ho3 ho1' ho2' ho3' h1 hl hB h7
 go_enter Tryz.func108, Tryz.ntmps108
 go_wp2_with fail
 refine Calls.mono HN1.out ?_
 rintro e w1 ⟨rfl, rfl⟩
 clear HN1
 rcases i1 with _ | _
 ·
  have HE : Hid (res = (k, A, p, f) :: [r1, r2, r3].flatten) := by exact (by have := HM.out; simpa using this : res = (k, A, p, f) :: [r1, r2, r3].flatten)
  have HW2 : Hid (_) := HW.out HE.out
  clear HM HRet2 HRet3 HW HE
  go_wp2_with fail
  refine Calls.mono HW2.out ?_
  rintro e w3 ⟨v, rfl, ho, hb⟩
  go_wp2
  go_ret
  first | exact ⟨_, rfl, ho, hb⟩ | exact ⟨ho, hb⟩
 ·
  by_cases hx : x1 = 0
  ·
   have HE : Hid (res = r3) := by exact (by have := HM.out; simpa [hx] using this : res = r3)
   have HO : Hid (_) := HRet3.out HE.out
   subst hx
   clear HM HRet2 HRet3 HW HE
   go_wp2
   go_ret
   first | exact ⟨_, rfl, HO.out, HB0.out⟩ | exact ⟨HO.out, HB0.out⟩
  ·
   have hxb : (x1 != 0) = true := bne_iff_ne.2 hx
   have HE : Hid (res = r2) := by exact (by have := HM.out; simpa [hx] using this : res = r2)
   have HO : Hid (_) := HRet2.out HE.out
   clear HM HRet2 HRet3 HW HE hx
   go_wp2
   go_ret
   first | exact ⟨_, rfl, HO.out, HB0.out⟩ | exact ⟨HO.out, HB0.out⟩
set_option maxHeartbeats 8000000 in
set_option maxRecDepth 100000 in
theorem implMade (n : Nd) (hn : zaD n = true) (B : Nat) (a : Option Addr) (cap : Nat) (vs : List Value) (rs : List (List Nd)) (w : World) (hB : B ≤ w.heap.size) (h : zfC w a B vs rs) (hk : rs.length = za7 n) (ho : ∀ r ∈ rs, One r) (hl : rs.flatten.length ≤ 4000) :
 Calls Tryz.prog 78 #[zaa n, .slice a rs.length cap] w fun e w' => ∃ v, e = .returned v ∧ w'.ownsRow B 90 4 v (mk11 n rs).length (za0 (mk11 n rs)) ∧ Below w.heap.size w w' := by
 obtain ⟨W0, hW0⟩ : ∃ W0, w.alloc (.cells #[.int .i64 n.1, .int .i64 n.2.1, .string ⟨n.2.2.1.toArray⟩, .string ⟨n.2.2.2.toArray⟩] 90) = W0 := ⟨_, rfl⟩
 have st := NdAt.new w n.1 n.2.1 n.2.2.1 n.2.2.2
 have hb0 : Below w.heap.size w W0 := by rw [← hW0]; exact (Below.refl _ w).alloc (Nat.le_refl _) _
 rw [hW0] at st
 have hp := h.below hb0
 have hk3 := (zaT hn).2
 have HB0 : Hid (Below w.heap.size w W0) := hb0
 have std := st.drew
 have q0 := st.c0
 have q1 := st.c1
 have q2 := st.c2
 have q3 := st.c3
 by_cases h36 : 3 ≤ n.1 ∧ n.1 ≤ 6
 ·
  have h2 : rs.length = 2 := by rw [hk]; exact zaX h36
  obtain ⟨r1, r2, rfl⟩ : ∃ r1 r2, rs = [r1, r2] := by
   match rs, h2 with
   | [x, y], _ => exact ⟨x, y, rfl⟩
  obtain ⟨b, off, rfl, hbl, e0⟩ := hp.cell 0 (by simp)
  obtain ⟨b', off', eb, _, e1⟩ := hp.cell 1 (by simp)
  injection eb with eb
  injection eb with eb1 eb2
  subst eb1 eb2
  have w1 := hp.row 0 (by simp)
  have w2 := hp.row 1 (by simp)
  simp only [show ([r1, r2] : List (List Nd)).getD 0 [] = r1 from rfl, show ([r1, r2] : List (List Nd)).getD 1 [] = r2 from rfl] at w1 w2
  obtain ⟨_, a1, c1, ev1, _⟩ := zaq w1
  obtain ⟨_, a2, c2, ev2, _⟩ := zaq w2
  rw [ev1] at e0 w1
  rw [ev2] at e1 w2
  rw [Nat.add_zero] at e0
  have hlf : r1.length + r2.length ≤ 4000 := by simpa using hl
  have HP : Hid (∀ Z, Below W0.heap.size W0 Z → Calls Tryz.prog 107 #[zaa n, .slice a1 r1.length c1, .slice a2 r2.length c2] Z fun e w' => ∃ v, e = .returned v ∧ w'.ownsRow B 90 4 v (mk11 n [r1, r2]).length (za0 (mk11 n [r1, r2])) ∧ Below w.heap.size w w' ∧ Below W0.heap.size W0 w') := fun Z hz => by
   have hbz := HB0.out.trans (hz.mono HB0.out.size)
   refine (implPair n h36 B a1 c1 r1 a2 c2 r2 Z (Nat.le_trans hB hbz.size) (za2 w1 hz) (za2 w2 hz) (ho r1 (by simp)) (ho r2 (by simp)) hlf).mono ?_
   rintro e w' ⟨v, rfl, h1, h2⟩
   exact ⟨v, rfl, h1, hbz.trans (h2.mono hbz.size), hz.trans (h2.mono hz.size)⟩
  have HC : Hid (_) := HP.out W0.drew ⟨rfl, rfl, rfl, Nat.le_refl _, fun _ _ => rfl⟩
  have hwl : w.heap.size < W0.heap.size := World.block_lt_of_cell? W0 ⟨w.heap.size, 0, none⟩ q0
  generalize mk11 n [r1, r2] = res at HC ⊢
  generalize r1.length = l1 at HC e0
  generalize r2.length = l2 at HC e1
  obtain ⟨k, A, p, f⟩ := n
  unfold zaa at HC ⊢
  simp only at HC q0 q1 q2 q3 hW0 h36 ⊢
  simp only [List.length_cons, List.length_nil]
  clear HP w1 w2 ev1 ev2 hp h ho hk hn hk3 hl hlf hb0 st std h2
  rcases (show k = 3 ∨ k ≠ 3 by omega) with e | hk3
  ·
   subst e
   clear h36
   go_enter Tryz.func78, Tryz.ntmps78
   go_upto_region 6 with fail
   go_region_held3 (fun w' => w'.cell? ⟨w.heap.size, 0, none⟩ = some (.int .i64 3) ∧ w'.cell? ⟨w.heap.size, 1, none⟩ = some (.int .i64 A) ∧ w'.cell? ⟨w.heap.size, 2, none⟩ = some (.string ⟨p.toArray⟩) ∧ w'.cell? ⟨w.heap.size, 3, none⟩ = some (.string ⟨f.toArray⟩) ∧ w'.cell? ⟨b, off, none⟩ = some (.slice a1 l1 c1) ∧ w'.cell? ⟨b, off + 1, none⟩ = some (.slice a2 l2 c2)) (go_keep) (first | (go_at_call 107; refine Calls.mono HC.out ?_; rintro e wn ⟨v, rfl, ho, hb, hbz⟩; have y0 := (hbz.cell (p := ⟨w.heap.size, 0, none⟩) hwl).trans q0; have y1 := (hbz.cell (p := ⟨w.heap.size, 1, none⟩) hwl).trans q1; have y2 := (hbz.cell (p := ⟨w.heap.size, 2, none⟩) hwl).trans q2; have y3 := (hbz.cell (p := ⟨w.heap.size, 3, none⟩) hwl).trans q3; have y4 := (hbz.cell (p := ⟨b, off, none⟩) hbl).trans e0; have y5 := (hbz.cell (p := ⟨b, off + 1, none⟩) hbl).trans e1; have HO : Hid (wn.ownsRow B 90 4 v res.length (za0 res)) := ho; have HB : Hid (Below w.heap.size w wn) := hb; clear ho hb hbz))
   go_wp2
   go_ret
   first | exact ⟨_, rfl, HO.out, HB.out⟩ | exact ⟨HO.out, HB.out⟩
  rcases (show k = 4 ∨ k ≠ 4 by omega) with e | hk4
  ·
   subst e
   clear h36 hk3
   go_enter Tryz.func78, Tryz.ntmps78
   go_upto_region 6 with fail
   go_region_held3 (fun w' => w'.cell? ⟨w.heap.size, 0, none⟩ = some (.int .i64 4) ∧ w'.cell? ⟨w.heap.size, 1, none⟩ = some (.int .i64 A) ∧ w'.cell? ⟨w.heap.size, 2, none⟩ = some (.string ⟨p.toArray⟩) ∧ w'.cell? ⟨w.heap.size, 3, none⟩ = some (.string ⟨f.toArray⟩) ∧ w'.cell? ⟨b, off, none⟩ = some (.slice a1 l1 c1) ∧ w'.cell? ⟨b, off + 1, none⟩ = some (.slice a2 l2 c2)) (go_keep) (first | (go_at_call 107; refine Calls.mono HC.out ?_; rintro e wn ⟨v, rfl, ho, hb, hbz⟩; have y0 := (hbz.cell (p := ⟨w.heap.size, 0, none⟩) hwl).trans q0; have y1 := (hbz.cell (p := ⟨w.heap.size, 1, none⟩) hwl).trans q1; have y2 := (hbz.cell (p := ⟨w.heap.size, 2, none⟩) hwl).trans q2; have y3 := (hbz.cell (p := ⟨w.heap.size, 3, none⟩) hwl).trans q3; have y4 := (hbz.cell (p := ⟨b, off, none⟩) hbl).trans e0; have y5 := (hbz.cell (p := ⟨b, off + 1, none⟩) hbl).trans e1; have HO : Hid (wn.ownsRow B 90 4 v res.length (za0 res)) := ho; have HB : Hid (Below w.heap.size w wn) := hb; clear ho hb hbz))
   go_wp2
   go_ret
   first | exact ⟨_, rfl, HO.out, HB.out⟩ | exact ⟨HO.out, HB.out⟩
  rcases (show k = 5 ∨ k ≠ 5 by omega) with e | hk5
  ·
   subst e
   clear h36 hk3 hk4
   go_enter Tryz.func78, Tryz.ntmps78
   go_upto_region 6 with fail
   go_region_held3 (fun w' => w'.cell? ⟨w.heap.size, 0, none⟩ = some (.int .i64 5) ∧ w'.cell? ⟨w.heap.size, 1, none⟩ = some (.int .i64 A) ∧ w'.cell? ⟨w.heap.size, 2, none⟩ = some (.string ⟨p.toArray⟩) ∧ w'.cell? ⟨w.heap.size, 3, none⟩ = some (.string ⟨f.toArray⟩) ∧ w'.cell? ⟨b, off, none⟩ = some (.slice a1 l1 c1) ∧ w'.cell? ⟨b, off + 1, none⟩ = some (.slice a2 l2 c2)) (go_keep) (first | (go_at_call 107; refine Calls.mono HC.out ?_; rintro e wn ⟨v, rfl, ho, hb, hbz⟩; have y0 := (hbz.cell (p := ⟨w.heap.size, 0, none⟩) hwl).trans q0; have y1 := (hbz.cell (p := ⟨w.heap.size, 1, none⟩) hwl).trans q1; have y2 := (hbz.cell (p := ⟨w.heap.size, 2, none⟩) hwl).trans q2; have y3 := (hbz.cell (p := ⟨w.heap.size, 3, none⟩) hwl).trans q3; have y4 := (hbz.cell (p := ⟨b, off, none⟩) hbl).trans e0; have y5 := (hbz.cell (p := ⟨b, off + 1, none⟩) hbl).trans e1; have HO : Hid (wn.ownsRow B 90 4 v res.length (za0 res)) := ho; have HB : Hid (Below w.heap.size w wn) := hb; clear ho hb hbz))
   go_wp2
   go_ret
   first | exact ⟨_, rfl, HO.out, HB.out⟩ | exact ⟨HO.out, HB.out⟩
  rcases (show k = 6 ∨ k ≠ 6 by omega) with e | hk6
  ·
   subst e
   clear h36 hk3 hk4 hk5
   go_enter Tryz.func78, Tryz.ntmps78
   go_upto_region 6 with fail
   go_region_held3 (fun w' => w'.cell? ⟨w.heap.size, 0, none⟩ = some (.int .i64 6) ∧ w'.cell? ⟨w.heap.size, 1, none⟩ = some (.int .i64 A) ∧ w'.cell? ⟨w.heap.size, 2, none⟩ = some (.string ⟨p.toArray⟩) ∧ w'.cell? ⟨w.heap.size, 3, none⟩ = some (.string ⟨f.toArray⟩) ∧ w'.cell? ⟨b, off, none⟩ = some (.slice a1 l1 c1) ∧ w'.cell? ⟨b, off + 1, none⟩ = some (.slice a2 l2 c2)) (go_keep) (first | (go_at_call 107; refine Calls.mono HC.out ?_; rintro e wn ⟨v, rfl, ho, hb, hbz⟩; have y0 := (hbz.cell (p := ⟨w.heap.size, 0, none⟩) hwl).trans q0; have y1 := (hbz.cell (p := ⟨w.heap.size, 1, none⟩) hwl).trans q1; have y2 := (hbz.cell (p := ⟨w.heap.size, 2, none⟩) hwl).trans q2; have y3 := (hbz.cell (p := ⟨w.heap.size, 3, none⟩) hwl).trans q3; have y4 := (hbz.cell (p := ⟨b, off, none⟩) hbl).trans e0; have y5 := (hbz.cell (p := ⟨b, off + 1, none⟩) hbl).trans e1; have HO : Hid (wn.ownsRow B 90 4 v res.length (za0 res)) := ho; have HB : Hid (Below w.heap.size w wn) := hb; clear ho hb hbz))
   go_wp2
   go_ret
   first | exact ⟨_, rfl, HO.out, HB.out⟩ | exact ⟨HO.out, HB.out⟩
  ·
   exfalso; omega
 ·
  by_cases h7 : n.1 = 7
  ·
   have h2 : rs.length = 3 := by rw [hk]; exact zbn h7
   obtain ⟨r1, r2, r3, rfl⟩ : ∃ r1 r2 r3, rs = [r1, r2, r3] := by
    match rs, h2 with
    | [x, y, z], _ => exact ⟨x, y, z, rfl⟩
   obtain ⟨b, off, rfl, hbl, e0⟩ := hp.cell 0 (by simp)
   obtain ⟨b', off', eb, _, e1⟩ := hp.cell 1 (by simp)
   injection eb with eb
   injection eb with eb1 eb2
   subst eb1 eb2
   obtain ⟨b', off', eb, _, e2⟩ := hp.cell 2 (by simp)
   injection eb with eb
   injection eb with eb1 eb2
   subst eb1 eb2
   have w1 := hp.row 0 (by simp)
   have w2 := hp.row 1 (by simp)
   have w3 := hp.row 2 (by simp)
   simp only [show ([r1, r2, r3] : List (List Nd)).getD 0 [] = r1 from rfl, show ([r1, r2, r3] : List (List Nd)).getD 1 [] = r2 from rfl, show ([r1, r2, r3] : List (List Nd)).getD 2 [] = r3 from rfl] at w1 w2 w3
   obtain ⟨_, a1, c1, ev1, _⟩ := zaq w1
   obtain ⟨_, a2, c2, ev2, _⟩ := zaq w2
   obtain ⟨_, a3, c3, ev3, _⟩ := zaq w3
   rw [ev1] at e0 w1
   rw [ev2] at e1 w2
   rw [ev3] at e2 w3
   rw [Nat.add_zero] at e0
   have hlf : r1.length + r2.length + r3.length ≤ 4000 := by have := hl; simp at this; omega
   have HP : Hid (∀ Z, Below W0.heap.size W0 Z → Calls Tryz.prog 108 #[zaa n, .slice a1 r1.length c1, .slice a2 r2.length c2, .slice a3 r3.length c3] Z fun e w' => ∃ v, e = .returned v ∧ w'.ownsRow B 90 4 v (mk11 n [r1, r2, r3]).length (za0 (mk11 n [r1, r2, r3])) ∧ Below w.heap.size w w' ∧ Below W0.heap.size W0 w') := fun Z hz => by
    have hbz := HB0.out.trans (hz.mono HB0.out.size)
    refine (implIf11 n h7 B a1 c1 r1 a2 c2 r2 a3 c3 r3 Z (Nat.le_trans hB hbz.size) (za2 w1 hz) (za2 w2 hz) (za2 w3 hz) (ho r1 (by simp)) hlf).mono ?_
    rintro e w' ⟨v, rfl, h1, h2⟩
    exact ⟨v, rfl, h1, hbz.trans (h2.mono hbz.size), hz.trans (h2.mono hz.size)⟩
   have HC : Hid (_) := HP.out W0.drew ⟨rfl, rfl, rfl, Nat.le_refl _, fun _ _ => rfl⟩
   have hwl : w.heap.size < W0.heap.size := World.block_lt_of_cell? W0 ⟨w.heap.size, 0, none⟩ q0
   generalize mk11 n [r1, r2, r3] = res at HC ⊢
   generalize r1.length = l1 at HC e0
   generalize r2.length = l2 at HC e1
   generalize r3.length = l3 at HC e2
   obtain ⟨k, A, p, f⟩ := n
   unfold zaa at HC ⊢
   simp only at HC q0 q1 q2 q3 hW0 h7 ⊢
   simp only [List.length_cons, List.length_nil]
   clear HP w1 w2 w3 ev1 ev2 ev3 hp h ho hk hn hk3 hl hlf hb0 st std h2 h36
   subst h7
   go_enter Tryz.func78, Tryz.ntmps78
   go_upto_region 8 with fail
   go_region_held3 (fun w' => w'.cell? ⟨w.heap.size, 0, none⟩ = some (.int .i64 7) ∧ w'.cell? ⟨w.heap.size, 1, none⟩ = some (.int .i64 A) ∧ w'.cell? ⟨w.heap.size, 2, none⟩ = some (.string ⟨p.toArray⟩) ∧ w'.cell? ⟨w.heap.size, 3, none⟩ = some (.string ⟨f.toArray⟩) ∧ w'.cell? ⟨b, off, none⟩ = some (.slice a1 l1 c1) ∧ w'.cell? ⟨b, off + 1, none⟩ = some (.slice a2 l2 c2) ∧ w'.cell? ⟨b, off + 2, none⟩ = some (.slice a3 l3 c3)) (go_keep) (first | (go_at_call 108; refine Calls.mono HC.out ?_; rintro e wn ⟨v, rfl, ho, hb, hbz⟩; have y0 := (hbz.cell (p := ⟨w.heap.size, 0, none⟩) hwl).trans q0; have y1 := (hbz.cell (p := ⟨w.heap.size, 1, none⟩) hwl).trans q1; have y2 := (hbz.cell (p := ⟨w.heap.size, 2, none⟩) hwl).trans q2; have y3 := (hbz.cell (p := ⟨w.heap.size, 3, none⟩) hwl).trans q3; have y4 := (hbz.cell (p := ⟨b, off, none⟩) hbl).trans e0; have y5 := (hbz.cell (p := ⟨b, off + 1, none⟩) hbl).trans e1; have y6 := (hbz.cell (p := ⟨b, off + 2, none⟩) hbl).trans e2; have HO : Hid (wn.ownsRow B 90 4 v res.length (za0 res)) := ho; have HB : Hid (Below w.heap.size w wn) := hb; clear ho hb hbz))
   go_wp2
   go_ret
   first | exact ⟨_, rfl, HO.out, HB.out⟩ | exact ⟨HO.out, HB.out⟩
  ·
   have HC : Hid (Calls Tryz.prog 109 #[zaa n, .slice a rs.length cap] W0 fun e w' => ∃ v, e = .returned v ∧ w'.ownsRow B 90 4 v (mk11 n rs).length (za0 (mk11 n rs)) ∧ Below w.heap.size w w') := by
    rw [zkY n h36 h7]
    refine (zgr n a cap B vs rs W0 hp (by omega) (by omega)).mono ?_
    rintro e w' ⟨v, rfl, h1, h2⟩
    exact ⟨v, rfl, zaj h1 (Nat.le_trans hB HB0.out.size), HB0.out.trans (h2.mono HB0.out.size)⟩
   generalize mk11 n rs = res at HC ⊢
   generalize rs.length = ln at HC ⊢
   obtain ⟨k, A, p, f⟩ := n
   unfold zaa at HC ⊢
   simp only at HC q0 q1 q2 q3 hW0 h7 h36 ⊢
   have d3 : (k == 3) = false := beq_eq_false_iff_ne.2 (by omega)
   have d4 : (k == 4) = false := beq_eq_false_iff_ne.2 (by omega)
   have d5 : (k == 5) = false := beq_eq_false_iff_ne.2 (by omega)
   have d6 : (k == 6) = false := beq_eq_false_iff_ne.2 (by omega)
   have d7 : (k == 7) = false := beq_eq_false_iff_ne.2 (by omega)
   clear hp h ho hk hn hk3 hl hb0 st std h36 h7
   go_enter Tryz.func78, Tryz.ntmps78
   go_wp2_with fail
   refine Calls.mono HC.out ?_
   rintro e wn ⟨v, rfl, ho, hb⟩
   go_wp2
   go_ret
   first | exact ⟨_, rfl, ho, hb⟩ | exact ⟨ho, hb⟩
end Go.Proofs.YtkpdoedpkncboaaGreat
