/-
  Parts of one proof, one behind the other: PackI2, FoldJ.
-/
import Derived.Test.YtkjojhkpoooimaaGreatP26
import Derived.Test.YtkjojhkpoooimaaGreatP24
import Derived.Test.YtkjojhkpoooimaaGreatP23
import Derived.Lib.AppendZerosOnto
import Derived.Deep.RegionWith

/-! The contracts of chapter 7's landed code: copies, and FuncOf. -/
namespace Go.Proofs.YtkjojhkpoooimaaGreat
open Go.RowKit

/-- A cell of a row is written with what it holds. -/
theorem own_same {w : World} {base e size g n cp : Nat} {xs : List Value} (h : w.ownsRow base e size (.slice (some ⟨g, 0, none⟩) n cp) n xs) (j : Nat) (u : Value) (hx : xs[j]? = some u) :
    (w.setCell ⟨g, j, none⟩ u).ownsRow base e size (.slice (some ⟨g, 0, none⟩) n cp) n xs ∧ w.grownBy (w.setCell ⟨g, j, none⟩ u) (some g) := by
  have hs := h.stored j u
  obtain ⟨hj, e⟩ := List.getElem?_eq_some_iff.1 hx
  subst e
  rw [List.set_getElem_self] at hs
  exact hs

set_option maxHeartbeats 1000000 in
set_option maxRecDepth 100000 in
theorem cloneNodes (a : Option Addr) (len cap : Nat) (ns : List Nd) (w : World) (hin : NodesIn w a len ns) (hc : a = none → cap = 0) (hlen : len ≤ 1048576) :
    Calls Tryz.prog 48 #[.slice a len cap] w fun e w' => ∃ v, e = .returned v ∧ w'.ownsRow w.heap.size 46 4 v ns.length (nodesV ns) ∧ Below w.heap.size w w' := by
  obtain rfl : ns.length = len := hin.1
  obtain ⟨i0, hi, hz0, hz1, hz2⟩ := info_parts infoNode
  rcases a with _ | ad
  · obtain rfl := hc rfl
    have h0 : ns.length = 0 := by
      rcases Nat.eq_zero_or_pos ns.length with h | h
      · exact h
      · obtain ⟨b, off, e, _⟩ := hin.at h; cases e
    obtain rfl : ns = [] := List.eq_nil_of_length_eq_zero h0
    have HO : Hid (w.ownsRow w.heap.size 46 4 (.slice none 0 0) 0 (nodesV [])) := World.ownsRow_nil w _ _ _
    have heq : ∀ V : World, (binOp .eql 24 (.slice none 0 0) (.slice none 0 0)).run Tryz.prog V = .ok (.bool true) V := fun V => Lib.run_eql_slice_nil V _ _ none 0 0 0 0 Tryz.underlying24
    clear hin hc h0
    go_enter Tryz.func48, Tryz.ntmps48
    go_wp2
    go_ret
    exact ⟨_, rfl, HO.out, Below.refl _ _⟩
  · have hbA : Below w.heap.size w (w.alloc (.cells #[] 46)) := (Below.refl _ _).alloc (Nat.le_refl _) _
    have hown0 := (World.ownsRow_lit (base := w.heap.size) (e := 46) (size := 4) w #[] 0 (Nat.le_refl _) (by decide) rfl)
    obtain ⟨v', w', hrun, hown', hg, _⟩ := run_append_src (P := Tryz.prog) (w.alloc (.cells #[] 46)) w.heap.size 24 24 46 i0 _ 4 48 Tryz.underlying24 hi hz0 hz1 hz2 rfl (by decide) _ _ _ hown0 (.slice (some ad) ns.length cap) ns.length (nodesV ns) ((hin.below hbA).src hc) (by unfold maxLen; omega) (by omega) (by simp)
    have hb : Below w.heap.size w w' := hbA.grown hg hbA.size (fun q e => by simp [Value.ownBlock] at e; omega)
    have HO : Hid (w'.ownsRow w.heap.size 46 4 v' ns.length (nodesV ns)) := by
      simp only [Nat.zero_add] at hown'
      exact (by simpa using hown' : w'.ownsRow w.heap.size 46 4 v' ns.length (nodesV ns))
    have heq : ∀ V : World, (binOp .eql 24 (.slice (some ad) ns.length cap) (.slice none 0 0)).run Tryz.prog V = .ok (.bool false) V := fun V => Lib.run_eql_slice_nil V _ _ (some ad) ns.length cap 0 0 Tryz.underlying24
    clear hown' hg hown0 hbA hin hc
    go_enter Tryz.func48, Tryz.ntmps48
    go_wp2_with (at_builtin; refine wpList_append_run rfl (.tmp 5) (.tmp 6) 24 rfl _ _ _ rfl rfl hrun ?_; clear hrun)
    go_ret
    exact ⟨v', rfl, HO.out, hb⟩

set_option maxHeartbeats 2000000 in
set_option maxRecDepth 100000 in
theorem implCopyTree (a : Option Addr) (len cap : Nat) (ns : List Nd) (w : World) (hin : NodesIn w a len ns) (hc : a = none → cap = 0) (hlen : len ≤ 1048576) (hsh : ShortT ns) :
    Calls Tryz.prog 20 #[.slice a len cap] w fun e w' => ∃ v, e = .returned v ∧ w'.ownsRow w.heap.size 46 4 v ns.length (nodesV ns) ∧ Below w.heap.size w w' := by
  have HC : Hid (_) := cloneNodes a len cap ns w hin hc hlen
  obtain rfl : ns.length = len := hin.1
  have HSH : Hid (ShortT ns) := hsh
  clear hin hc hsh
  go_enter Tryz.func20, Tryz.ntmps20
  go_wp2_with fail
  refine Calls.mono HC.out ?_
  rintro e w1 ⟨v, rfl, hown, hb⟩
  obtain ⟨_, av, cv, rfl, _⟩ := own_nodes hown
  have HO : Hid (w1.ownsRow w.heap.size 46 4 (.slice av ns.length cv) ns.length (nodesV ns)) := hown
  clear HC hown
  go_wp2
  go_loopw [10] (fun iv wr => ∃ k : Nat, iv = .int .i64 (k : Int) ∧ k ≤ ns.length ∧ Hid (wr.ownsRow w.heap.size 46 4 (.slice av ns.length cv) ns.length (nodesV ns)) ∧ Hid (Below w.heap.size w wr)) (fun iv _ => ns.length - (intOf iv).toNat)
  case atStart => exact ⟨0, rfl, by omega, HO, hb⟩
  case round =>
    obtain ⟨k, rfl, hk, HV, HB⟩ := hrel
    clear HO hb
    by_cases hlt : (k : Int) < (ns.length : Int)
    · have hk2 : k < ns.length := by omega
      obtain ⟨g, cp, he⟩ := own_some HV.out (by omega)
      injection he with e1 _ e3
      subst e1 e3
      obtain ⟨v0, v1, v2, v3⟩ := nodesV_at ns k hk2
      obtain ⟨hp, hf⟩ := HSH.out k
      obtain ⟨nd, hnd⟩ : ∃ nd, ns.getD k nd0 = nd := ⟨_, rfl⟩
      rw [hnd] at v0 v1 v2 v3 hp hf
      obtain ⟨kd, aa, p, f⟩ := nd
      simp only at v0 v1 v2 v3 hp hf
      have hat := fun i (hi : i < ns.length * 4) => World.ownsRow.cellAt HV.out i hi
      have c0 := (hat (k * 4) (by omega)).trans v0
      have c1 := (hat (k * 4 + 1) (by omega)).trans v1
      have c2 := (hat (k * 4 + 2) (by omega)).trans v2
      have c3 := (hat (k * 4 + 3) (by omega)).trans v3
      have hgl := HV.out.lt g rfl
      have H2 : Hid ((nodesV ns)[k * 4 + 2]? = some (.string ⟨p.toArray⟩)) := v2
      have H3 : Hid ((nodesV ns)[k * 4 + 3]? = some (.string ⟨f.toArray⟩)) := v3
      obtain ⟨X, hX⟩ : ∃ X, wr.alloc (.cells #[.int .i64 kd, .int .i64 aa, .string ⟨p.toArray⟩, .string ⟨f.toArray⟩] 46) = X := ⟨_, rfl⟩
      obtain ⟨E, hE⟩ : ∃ E, wr.heap.size = E := ⟨_, rfl⟩
      have hbX : Below wr.heap.size wr X := by rw [← hX]; exact (Below.refl _ wr).alloc (Nat.le_refl _) _
      have st := NdAt.new wr kd aa p f
      rw [hX, hE] at st
      have d0 := st.c0
      have d1 := st.c1
      have d2 := st.c2
      have d3 := st.c3
      have hgE : g < E := by omega
      have hgn : ¬ g = E := by omega
      have hgm : ¬ E = g := by omega
      have hBX : Below w.heap.size w X := HB.out.trans (hbX.mono HB.out.size)
      have hoX := own_below HV.out hbX
      clear v0 v1 v2 v3 hat hnd hbX HV HB hgl
      go_wp2_with fail
      refine (stringsClone p _ hp).mono ?_
      rintro e w2 ⟨rfl, hb2⟩
      have hB2 := hBX.trans (hb2.mono hBX.size)
      have ho2 := own_below hoX hb2
      replace st := st.below hb2
      obtain ⟨ho3, hg3⟩ := own_same ho2 (k * 4 + 2) (.string ⟨p.toArray⟩) H2.out
      have q2 : w2.cell? ⟨g, k * 4 + 2, none⟩ = some (.string ⟨p.toArray⟩) := (World.ownsRow.cellAt ho2 _ (by omega)).trans H2.out
      have z2 := World.ownsRow.frozenAt ho2 (k * 4 + 2)
      have hE2 : E < w2.heap.size := World.block_lt_of_cell? w2 ⟨E, 0, none⟩ st.c0
      have hg2 := (ho2.lt g rfl)
      obtain ⟨Y, hY⟩ : ∃ Y, w2.setCell ⟨g, k * 4 + 2, none⟩ (.string ⟨p.toArray⟩) = Y := ⟨_, rfl⟩
      rw [hY] at ho3 hg3
      have hB3 : Below w.heap.size w Y := hB2.grown hg3 hB2.size (fun q e => by injection e with e; omega)
      have hk3 : Y.heap[E]? = w2.heap[E]? := hg3.block E hE2 (by simp; omega)
      have t3 : Y.cell? ⟨E, 3, none⟩ = some (.string ⟨f.toArray⟩) := (World.cell?_of_block (a := ⟨E, 3, none⟩) hk3).trans st.c3
      clear hBX hoX hb2 hB2 ho2 st hE2 hg2 hg3 hk3 d0 d1 d2 d3 c0 c1 c2 c3
      go_wp2_with fail
      refine (stringsClone f _ hf).mono ?_
      rintro e w3 ⟨rfl, hb4⟩
      have hB4 := hB3.trans (hb4.mono hB3.size)
      have ho4 := own_below ho3 hb4
      obtain ⟨ho5, hg5⟩ := own_same ho4 (k * 4 + 3) (.string ⟨f.toArray⟩) H3.out
      have q3 : w3.cell? ⟨g, k * 4 + 3, none⟩ = some (.string ⟨f.toArray⟩) := (World.ownsRow.cellAt ho4 _ (by omega)).trans H3.out
      have z3 := World.ownsRow.frozenAt ho4 (k * 4 + 3)
      have hg4 := (ho4.lt g rfl)
      obtain ⟨Z, hZ⟩ : ∃ Z, w3.setCell ⟨g, k * 4 + 3, none⟩ (.string ⟨f.toArray⟩) = Z := ⟨_, rfl⟩
      rw [hZ] at ho5 hg5
      have HB5 : Hid (Below w.heap.size w Z) := hB4.grown hg5 hB4.size (fun q e => by injection e with e; omega)
      have HO5 : Hid (Z.ownsRow w.heap.size 46 4 (.slice (some ⟨g, 0, none⟩) ns.length cv) ns.length (nodesV ns)) := ho5
      clear hB3 ho3 hb4 hB4 ho4 ho5 hg5 hg4 t3 q2 z2
      go_wp2
      go_roundw
      case rel => exact ⟨k + 1, by go_num, by omega, HO5, HB5⟩
      case measure => simp [intOf]; omega
    · go_wp2
      go_ret
      exact ⟨_, rfl, HV.out, HB.out⟩

/-- What copyOfFunc holds. -/
structure CfSt (w X : World) (D : Nat) (s : List UInt8) (n : Int) (ta : Option Addr) (tl tc : Nat) (t : List Nd) : Prop where
  b : Box3 X D (.string ⟨s.toArray⟩) (.int .i64 n) (.slice ta tl tc)
  n : NodesIn X ta tl t
  r : Box3 X (D + 1) (.string ⟨#[]⟩) (.int .i64 0) (.slice none 0 0)
  fr : ∀ j, X.frozen? ⟨D + 1, j, none⟩ = false
  h : Below D w X
  hs : D + 2 ≤ X.heap.size
theorem CfSt.below {w X Y : World} {D : Nat} {s : List UInt8} {n : Int} {ta : Option Addr} {tl tc : Nat} {t : List Nd} (g : CfSt w X D s n ta tl tc t) (hb : Below X.heap.size X Y) : CfSt w Y D s n ta tl tc t :=
  ⟨g.b.below hb, g.n.below hb, g.r.below hb, fun j => (hb.frozen (p := ⟨D + 1, j, none⟩) (by have := g.hs; show D + 1 < _; omega)).trans (g.fr j), g.h.trans (hb.mono (by have := g.hs; omega)), Nat.le_trans g.hs hb.size⟩
theorem CfSt.drew {w X : World} {D : Nat} {s : List UInt8} {n : Int} {ta : Option Addr} {tl tc : Nat} {t : List Nd} (g : CfSt w X D s n ta tl tc t) : CfSt w X.drew D s n ta tl tc t :=
  g.below ((Below.refl _ _).grown (grown_drew X none) (Nat.le_refl _) (fun k e => by cases e))



end Go.Proofs.YtkjojhkpoooimaaGreat

/-! The contracts of chapter 11's landed code: numbers, and nodes one behind the other. -/
namespace Go.Proofs.YtkjojhkpoooimaaGreat
open Go.RowKit

def hdIs (r : List Nd) : Bool := decide ((r.getD 0 nd0).1 = 1)
def hdNum (r : List Nd) : Int := if (r.getD 0 nd0).1 = 1 then (r.getD 0 nd0).2.1 else 0
def idle11 (k : Int) : Int := if k = 3 ∨ k = 4 then 0 else 1
def idles11 (k : Int) : Bool := decide (k = 3 ∨ k = 5)
set_option maxHeartbeats 1000000 in
set_option maxRecDepth 100000 in
theorem implNumOf (a : Option Addr) (len cap : Nat) (ns : List Nd) (w : World) (hin : NodesIn w a len ns) (hp : 0 < len) :
    Calls Tryz.prog 78 #[.slice a len cap] w fun e w' => e = .returned (.tuple #[.int .i64 (hdNum ns), .bool (hdIs ns)]) ∧ w' = w := by
  obtain ⟨b, off, rfl, hbl, c0, c1, c2, c3⟩ := hin.2 0 hp
  rw [Nat.zero_mul, Nat.add_zero] at c0 c1
  have hl : (0 : Int) < (len : Int) := by omega
  have HY : Hid ((ns.getD 0 nd0).1 = 1 → hdNum ns = (ns.getD 0 nd0).2.1 ∧ hdIs ns = true) := fun h => ⟨if_pos h, decide_eq_true h⟩
  have HNo : Hid ((ns.getD 0 nd0).1 ≠ 1 → hdNum ns = 0 ∧ hdIs ns = false) := fun h => ⟨if_neg h, decide_eq_false h⟩
  generalize ns.getD 0 nd0 = n at c0 c1 HY HNo
  obtain ⟨k, A, p, f⟩ := n
  simp only at c0 c1 HY HNo
  clear hin c2 c3
  by_cases hk : k = 1
  · have HF : Hid (hdNum ns = A ∧ hdIs ns = true) := HY.out hk
    subst hk
    clear HY HNo
    go_enter Tryz.func78, Tryz.ntmps78
    go_wp2
    go_ret2
    exact ⟨by rw [HF.out.1, HF.out.2]; rfl, rfl⟩
  · have hkb : (k != 1) = true := bne_iff_ne.2 hk
    have HF : Hid (hdNum ns = 0 ∧ hdIs ns = false) := HNo.out hk
    clear hk HY HNo
    go_enter Tryz.func78, Tryz.ntmps78
    go_wp2
    go_ret2
    exact ⟨by rw [HF.out.1, HF.out.2]; rfl, rfl⟩
set_option maxHeartbeats 1000000 in
set_option maxRecDepth 100000 in
theorem implIdle (k : Int) (w : World) : Calls Tryz.prog 80 #[.int .i64 k] w fun e w' => e = .returned (.int .i64 (idle11 k)) ∧ w' = w := by
  by_cases h3 : k = 3
  · subst h3
    go_enter Tryz.func80, Tryz.ntmps80
    go_wp2
    go_ret
    exact ⟨rfl, rfl⟩
  · have d3 : (k == 3) = false := beq_eq_false_iff_ne.2 h3
    by_cases h4 : k = 4
    · subst h4
      go_enter Tryz.func80, Tryz.ntmps80
      go_wp2
      go_ret
      exact ⟨rfl, rfl⟩
    · have d4 : (k == 4) = false := beq_eq_false_iff_ne.2 h4
      have HF : Hid (idle11 k = 1) := if_neg (fun h => h.elim h3 h4)
      clear h3 h4
      go_enter Tryz.func80, Tryz.ntmps80
      go_wp2
      go_ret
      exact ⟨by rw [HF.out]; rfl, rfl⟩
set_option maxHeartbeats 1000000 in
set_option maxRecDepth 100000 in
theorem implIdles (k : Int) (w : World) : Calls Tryz.prog 81 #[.int .i64 k] w fun e w' => e = .returned (.bool (idles11 k)) ∧ w' = w := by
  by_cases h3 : k = 3
  · subst h3
    go_enter Tryz.func81, Tryz.ntmps81
    go_wp2
    go_ret
    exact ⟨rfl, rfl⟩
  · have d3 : (k == 3) = false := beq_eq_false_iff_ne.2 h3
    by_cases h4 : k = 5
    · subst h4
      go_enter Tryz.func81, Tryz.ntmps81
      go_wp2
      go_ret
      exact ⟨rfl, rfl⟩
    · have d4 : (k == 5) = false := beq_eq_false_iff_ne.2 h4
      have HF : Hid (idles11 k = false) := decide_eq_false (fun h => h.elim h3 h4)
      clear h3 h4
      go_enter Tryz.func81, Tryz.ntmps81
      go_wp2
      go_ret
      exact ⟨by rw [HF.out]; rfl, rfl⟩

/-- Room for so many nodes. -/
theorem own_zeros (w : World) (G : Nat) (M : Array Value) (hM : M.size = G * 4) (hG : G ≤ maxLen) : (w.alloc (.cells M 46)).ownsRow w.heap.size 46 4 (.slice (some ⟨w.heap.size, 0, none⟩) 0 G) 0 [] :=
  ⟨by simp, Or.inr ⟨w.heap.size, G, M, rfl, Nat.le_refl _, heap_alloc_new w _, Nat.zero_le _, hG, hM, by simp⟩⟩
set_option maxHeartbeats 2000000 in
set_option maxRecDepth 100000 in
theorem growNodes (n : Nat) (w : World) (hn : n ≤ 1048576) : Calls Tryz.prog 94 #[.slice none 0 0, .int .i64 (n : Int)] w fun e w' => ∃ v, e = .returned v ∧ w'.ownsRow w.heap.size 46 4 v 0 [] ∧ Below w.heap.size w w' := by
  obtain ⟨i0, hi, hz0, hz1, hz2⟩ := info_parts infoNode
  rcases Nat.eq_zero_or_pos n with rfl | hp
  · have HO : Hid (w.ownsRow w.heap.size 46 4 (.slice none 0 0) 0 []) := World.ownsRow_nil w _ _ _
    go_enter Tryz.func94, Tryz.ntmps94
    go_wp2
    go_ret
    first | exact ⟨_, rfl, HO.out, Below.refl _ _⟩ | exact ⟨HO.out, Below.refl _ _⟩
  · have hrun := Lib.run_append_grow_zeros (P := Tryz.prog) w 24 3 24 46 i0 (.agg #[.int .i64 0, .int .i64 0, .string ⟨#[]⟩, .string ⟨#[]⟩]) .i64 .i64 Tryz.underlying24 Tryz.underlying3 hi hz0 none 0 0 [] (run_firstCells_none w.drew i0.size 0 0 0) n hp (by omega) (by omega) (by omega) (by rw [hz2]; omega) (growslice_fits (by omega) (by rw [hz2]; omega))
    rw [Nat.zero_add] at hrun
    have hge : n ≤ grownCap w n 0 46 := grownCap_ge w _ _ _
    have hle : grownCap w n 0 46 ≤ maxLen := grownCap_le_maxLen w _ _ _ (by unfold maxLen; omega)
    obtain ⟨G, hG⟩ : ∃ G, grownCap w n 0 46 = G := ⟨_, rfl⟩
    rw [hG] at hrun hge hle
    obtain ⟨M, hM⟩ : ∃ M, ([] : List Value).toArray ++ Builtin.zeroCells (Value.agg #[.int .i64 0, .int .i64 0, .string ⟨#[]⟩, .string ⟨#[]⟩]).cells n ++ Builtin.zeroCells (Value.agg #[.int .i64 0, .int .i64 0, .string ⟨#[]⟩, .string ⟨#[]⟩]).cells (G - n) = M := ⟨_, rfl⟩
    have hMs : M.size = G * 4 := by
      rw [← hM]
      simp only [Array.size_append, size_zeroCells]
      rw [show (Value.agg #[.int .i64 0, .int .i64 0, .string ⟨#[]⟩, .string ⟨#[]⟩]).cells.size = 4 from rfl]
      simp
      omega
    rw [hM] at hrun
    obtain ⟨X, hX⟩ : ∃ X, w.drew.alloc (.cells M 46) = X := ⟨_, rfl⟩
    have HO : Hid (X.ownsRow w.heap.size 46 4 (.slice (some ⟨w.heap.size, 0, none⟩) 0 G) 0 []) := by
      exact (by rw [← hX]; exact own_zeros w.drew G M hMs hle : X.ownsRow w.heap.size 46 4 (.slice (some ⟨w.heap.size, 0, none⟩) 0 G) 0 [])
    have HB : Hid (Below w.heap.size w X) := by
      exact (by rw [← hX]; exact Below.alloc (a := w) (w := w.drew) ⟨rfl, rfl, rfl, Nat.le_refl _, fun _ _ => rfl⟩ (Nat.le_refl _) _ : Below w.heap.size w X)
    rw [hX] at hrun
    have hG2 : (G : Int) ≤ 9223372036854775807 := by unfold maxLen at hle; omega
    have hnp : (0 : Int) < (n : Int) := by omega
    clear hM hMs hX hG hle
    go_enter Tryz.func94, Tryz.ntmps94
    go_wp2_with (at_builtin; refine Lib.wpList_append_run _ rfl _ _ _ _ rfl _ _ rfl rfl _ _ hrun ?_)
    all_goals
      go_ret
      first | exact ⟨_, rfl, HO.out, HB.out⟩ | exact ⟨HO.out, HB.out⟩

def flN (rs : List (List Nd)) (j : Nat) : Nat := (rs.take j).flatten.length
def flL (rs : List (List Nd)) (j : Nat) : List Nd := (rs.take j).flatten
theorem fl_step (rs : List (List Nd)) (j : Nat) (h : j < rs.length) : flN rs (j + 1) = flN rs j + (rs.getD j []).length ∧ flL rs (j + 1) = flL rs j ++ rs.getD j [] := by
  have h1 : (rs.take (j + 1)).flatten = (rs.take j).flatten ++ rs.getD j [] := by
    rw [List.take_succ_eq_append_getElem h, List.flatten_append]
    simp [List.getD, h]
  refine ⟨?_, h1⟩
  unfold flN
  rw [h1, List.length_append]
theorem flN_le (rs : List (List Nd)) (j : Nat) : flN rs j ≤ rs.flatten.length := by
  have h : rs.flatten = (rs.take j).flatten ++ (rs.drop j).flatten := by rw [← List.flatten_append, List.take_append_drop]
  unfold flN
  rw [h, List.length_append]
  omega

/-- Lists of nodes, one behind the other, each in a row that lies from B on. -/
structure PtsIn (w : World) (a : Option Addr) (B : Nat) (vs : List Value) (rs : List (List Nd)) : Prop where
  len : vs.length = rs.length
  cell : ∀ j, j < rs.length → ∃ b off, a = some ⟨b, off, none⟩ ∧ b < w.heap.size ∧ w.cell? ⟨b, off + j, none⟩ = some (vs.getD j (.slice none 0 0))
  row : ∀ j, j < rs.length → w.ownsRow B 46 4 (vs.getD j (.slice none 0 0)) (rs.getD j []).length (nodesV (rs.getD j []))
theorem PtsIn.below {w w' : World} {a : Option Addr} {B : Nat} {vs : List Value} {rs : List (List Nd)} (h : PtsIn w a B vs rs) (hb : Below w.heap.size w w') : PtsIn w' a B vs rs :=
  ⟨h.len, fun j hj => by
    obtain ⟨b, off, e, hl, hc⟩ := h.cell j hj
    exact ⟨b, off, e, Nat.lt_of_lt_of_le hl hb.size, (hb.cell (p := ⟨b, off + j, none⟩) hl).trans hc⟩, fun j hj => own_below (h.row j hj) hb⟩

set_option maxHeartbeats 4000000 in
set_option maxRecDepth 100000 in
theorem concatNodes (a : Option Addr) (cap B : Nat) (vs : List Value) (rs : List (List Nd)) (w : World) (h : PtsIn w a B vs rs) (hl : rs.flatten.length ≤ 4096) (hk : rs.length ≤ 4096) :
    Calls Tryz.prog 82 #[.slice a rs.length cap] w fun e w' => ∃ v, e = .returned v ∧ w'.ownsRow w.heap.size 46 4 v rs.flatten.length (nodesV rs.flatten) ∧ Below w.heap.size w w' := by
  have HI : Hid (PtsIn w a B vs rs) := h
  have HL : Hid (rs.flatten.length ≤ 4096) := hl
  have HE : Hid (flN rs rs.length = rs.flatten.length ∧ flL rs rs.length = rs.flatten) := by
    exact (by unfold flN flL; rw [List.take_length]; exact ⟨rfl, rfl⟩ : flN rs rs.length = rs.flatten.length ∧ flL rs rs.length = rs.flatten)
  have HL2 : Hid (∀ j, flN rs j ≤ 4096) := fun j => Nat.le_trans (flN_le rs j) hl
  obtain ⟨n, hn⟩ : ∃ n, rs.length = n := ⟨_, rfl⟩
  have HN : Hid (rs.length = n) := hn
  rw [hn] at HE hk ⊢
  generalize rs.flatten = res at HE HL ⊢
  obtain ⟨i0, hi, hz0, hz1, hz2⟩ := info_parts infoNode
  clear h hl hn
  go_enter Tryz.func82, Tryz.ntmps82
  go_wp2
  go_loop [3, 11] (fun sv iv => ∃ k : Nat, k ≤ n ∧ iv = .int .i64 k ∧ sv = .int .i64 (flN rs k : Nat)) (fun _ iv => n - (intOf iv).toNat)
  case atStart => exact ⟨0, Nat.zero_le _, rfl, rfl⟩
  case round =>
    obtain ⟨k, hkn, rfl, rfl⟩ := hrel
    by_cases hlt : (k : Int) < (n : Int)
    · obtain ⟨b, off, rfl, hbl, hc⟩ := HI.out.cell k (by rw [HN.out]; omega)
      obtain ⟨hgl, av, cv, hv, _⟩ := own_nodes (HI.out.row k (by rw [HN.out]; omega))
      have hst := (fl_step rs k (by rw [HN.out]; omega)).1
      have hle := HL2.out (k + 1)
      rw [hv] at hc
      obtain ⟨m, hm⟩ : ∃ m, (rs.getD k []).length = m := ⟨_, rfl⟩
      rw [hm] at hc hst
      have hsum : (flN rs k : Int) + (m : Int) ≤ 4096 := by omega
      have hneg : ¬ ((flN rs k : Int) + (m : Int) < 0) := by omega
      have HF : Hid (flN rs (k + 1) = flN rs k + m) := hst
      clear hst hle hm hv hgl
      go_wp2
      go_round
      case rel => exact ⟨k + 1, by omega, by go_num, by rw [HF.out]; go_num⟩
      case measure => simp [intOf]; omega
    · obtain rfl : k = n := by omega
      have hle := HL2.out k
      have HG : Hid (_) := growNodes (flN rs k) w (by omega)
      clear hle
      go_wp2_with fail
      refine Calls.mono HG.out ?_
      rintro e w1 ⟨v, rfl, ho, hb⟩
      have HO : Hid (w1.ownsRow w.heap.size 46 4 v 0 []) := ho
      have HB : Hid (Below w.heap.size w w1) := hb
      clear ho hb HG
      go_wp2
      go_loopw [6, 27] (fun nv iv wx => ∃ q : Nat, q ≤ k ∧ iv = .int .i64 q ∧ Hid (wx.ownsRow w.heap.size 46 4 nv (flN rs q) (nodesV (flL rs q))) ∧ Hid (Below w.heap.size w wx)) (fun _ iv _ => k - (intOf iv).toNat)
      case atStart => exact ⟨0, Nat.zero_le _, rfl, HO, HB⟩
      case round =>
        obtain ⟨q, hq, rfl, HV, HBr⟩ := hrel
        clear HO HB
        by_cases hql : (q : Int) < (k : Int)
        · have hq2 : q < rs.length := by rw [HN.out]; omega
          have hpt := HI.out.below HBr.out
          obtain ⟨b, off, rfl, hbl, hc⟩ := hpt.cell q hq2
          have hrow := hpt.row q hq2
          have hst := fl_step rs q hq2
          have hle := HL2.out (q + 1)
          obtain ⟨r, hr⟩ : ∃ r, rs.getD q [] = r := ⟨_, rfl⟩
          rw [hr] at hrow hst
          obtain ⟨hgl, av, cv, hv, _⟩ := own_nodes hrow
          rw [hv] at hc hrow
          obtain ⟨v', Y, hrun, hown, hg, _⟩ := run_append_src (P := Tryz.prog) wr w.heap.size 24 24 46 i0 _ 4 48 Tryz.underlying24 hi hz0 hz1 hz2 rfl (by decide) _ _ _ HV.out _ _ _ (own_src hrow (nodesV_one r)) (by unfold maxLen; omega) (by omega) HBr.out.size
          have HV2 : Hid (Y.ownsRow w.heap.size 46 4 v' (flN rs (q + 1)) (nodesV (flL rs (q + 1)))) := by
            exact (by rw [hst.1, hst.2, nodesV_append]; exact hown : Y.ownsRow w.heap.size 46 4 v' (flN rs (q + 1)) (nodesV (flL rs (q + 1))))
          have HB2 : Hid (Below w.heap.size w Y) := HBr.out.grown hg HBr.out.size (fun k e => (HV.out.lt k e).1)
          clear hst hle hr hv hrow hown hg hpt HV HBr hgl
          go_wp2_with (at_builtin; refine wpList_append_run rfl (.tmp 31) (.tmp 32) 24 rfl _ _ _ rfl rfl hrun ?_; clear hrun)
          go_roundw
          case rel => exact ⟨q + 1, by omega, by go_num, HV2, HB2⟩
          case measure => simp [intOf]; omega
        · obtain rfl : q = k := by omega
          go_wp2
          go_ret
          rw [HE.out.1, HE.out.2] at HV
          first | exact ⟨_, rfl, HV.out, HBr.out⟩ | exact ⟨HV.out, HBr.out⟩

/-- A node, and nodes behind it. -/
theorem one_then (W : World) (B : Nat) (n : Nd) {g : Nat} (hrow : W.ownsRow B 46 4 (.slice (some ⟨g, 0, none⟩) 1 1) 1 (nodesV [n])) (v : Value) (xs : List Nd) {B2 : Nat} (hv : W.ownsRow B2 46 4 v xs.length (nodesV xs)) (hB : B ≤ W.heap.size) (hl : xs.length ≤ 4096) :
    ∃ v' Y, (Builtin.append_ #[24, 24] 24 #[.slice (some ⟨g, 0, none⟩) 1 1, v]).run Tryz.prog W = .ok v' Y ∧ Y.ownsRow B 46 4 v' (n :: xs).length (nodesV (n :: xs)) ∧ W.grownBy Y (some g) := by
  obtain ⟨i0, hi, hz0, hz1, hz2⟩ := info_parts infoNode
  obtain ⟨v', Y, hrun, hown, hg, _⟩ := run_append_src (P := Tryz.prog) W B 24 24 46 i0 _ 4 48 Tryz.underlying24 hi hz0 hz1 hz2 rfl (by decide) _ _ _ hrow _ _ _ (own_src hv (nodesV_one xs)) (by unfold maxLen; omega) (by omega) hB
  refine ⟨v', Y, hrun, ?_, hg⟩
  rw [← nodesV_append, Nat.add_comm] at hown
  exact hown
theorem own_node1 (W : World) (B : Nat) (n : Nd) (hB : B ≤ W.heap.size) : (W.alloc (.cells #[.int .i64 n.1, .int .i64 n.2.1, .string ⟨n.2.2.1.toArray⟩, .string ⟨n.2.2.2.toArray⟩] 46)).ownsRow B 46 4 (.slice (some ⟨W.heap.size, 0, none⟩) 1 1) 1 (nodesV [n]) :=
  World.ownsRow_lit (base := B) (e := 46) (size := 4) W #[.int .i64 n.1, .int .i64 n.2.1, .string ⟨n.2.2.1.toArray⟩, .string ⟨n.2.2.2.toArray⟩] 1 hB (by decide) rfl

set_option maxHeartbeats 4000000 in
set_option maxRecDepth 100000 in
theorem implWith (n : Nd) (a : Option Addr) (cap B : Nat) (vs : List Value) (rs : List (List Nd)) (w : World) (h : PtsIn w a B vs rs) (hl : rs.flatten.length ≤ 4095) (hk : rs.length ≤ 4096) :
    Calls Tryz.prog 54 #[nodeVal n, .slice a rs.length cap] w fun e w' => ∃ v, e = .returned v ∧ w'.ownsRow w.heap.size 46 4 v (n :: rs.flatten).length (nodesV (n :: rs.flatten)) ∧ Below w.heap.size w w' := by
  obtain ⟨k, A, p, f⟩ := n
  obtain ⟨W0, hW0⟩ : ∃ W0, w.alloc (.cells #[.int .i64 k, .int .i64 A, .string ⟨p.toArray⟩, .string ⟨f.toArray⟩] 46) = W0 := ⟨_, rfl⟩
  have st := NdAt.new w k A p f
  have hB : Below w.heap.size w W0 := by rw [← hW0]; exact (Below.refl _ w).alloc (Nat.le_refl _) _
  rw [hW0] at st
  obtain ⟨D, hD0⟩ : ∃ D, w.heap.size = D := ⟨_, rfl⟩
  rw [hD0] at st
  have hD : Hid (w.heap.size = D) := hD0
  obtain ⟨r, hr0⟩ : ∃ r, rs.flatten = r := ⟨_, rfl⟩
  have HCn : Hid (∀ Z, Below w.heap.size w Z → Calls Tryz.prog 82 #[.slice a rs.length cap] Z fun e w' => ∃ v, e = .returned v ∧ w'.ownsRow Z.heap.size 46 4 v r.length (nodesV r) ∧ Below Z.heap.size Z w') := fun Z hz => by
    have := concatNodes a cap B vs rs Z (h.below hz) (by omega) hk
    rw [hr0] at this
    exact this
  rw [hr0] at hl ⊢
  unfold nodeVal
  simp only
  obtain ⟨X, hX⟩ : ∃ X, W0.alloc (.cells #[.int .i64 k, .int .i64 A, .string ⟨p.toArray⟩, .string ⟨f.toArray⟩] 46) = X := ⟨_, rfl⟩
  have hbX : Below W0.heap.size W0 X := by rw [← hX]; exact (Below.refl _ W0).alloc (Nat.le_refl _) _
  have HOX : Hid (X.ownsRow w.heap.size 46 4 (.slice (some ⟨W0.heap.size, 0, none⟩) 1 1) 1 (nodesV [(k, A, p, f)])) := by
    exact (by rw [← hX]; exact own_node1 W0 w.heap.size (k, A, p, f) hB.size : X.ownsRow w.heap.size 46 4 (.slice (some ⟨W0.heap.size, 0, none⟩) 1 1) 1 (nodesV [(k, A, p, f)]))
  have stX := st.below hbX
  have HB0 : Hid (Below w.heap.size w W0.drew) := ⟨hB.os, hB.tape, hB.output, hB.size, hB.block⟩
  have HBx : Hid (Below w.heap.size w X) := hB.trans (hbX.mono hB.size)
  have HBX : Hid (Below w.heap.size w X.drew) := ⟨HBx.out.os, HBx.out.tape, HBx.out.output, HBx.out.size, HBx.out.block⟩
  have HCA : Hid (_) := HCn.out X.drew HBX.out
  have HCB : Hid (_) := HCn.out W0.drew HB0.out
  have HSt : Hid (∀ w5 Z : World, Z = W0 ∨ Z = X → Below Z.heap.size Z w5 → NdAt w5 D k A p f ∧ Below w.heap.size w w5) := fun w5 Z hz hb => by
    rcases hz with rfl | rfl
    · exact ⟨st.below hb, hB.trans (hb.mono hB.size)⟩
    · exact ⟨stX.below hb, HBx.out.trans (hb.mono HBx.out.size)⟩
  have c0 := st.c0
  have c1 := st.c1
  have c2 := st.c2
  have c3 := st.c3
  have x0 := stX.c0
  have x1 := stX.c1
  have x2 := stX.c2
  have x3 := stX.c3
  obtain ⟨res, hres⟩ : ∃ res, ((k, A, p, f) :: r : List Nd) = res := ⟨_, rfl⟩
  have HR : Hid (((k, A, p, f) :: r : List Nd) = res) := hres
  rw [hres]
  clear st stX hB hbX HCn h hr0 HBX hres
  go_enter Tryz.func54, Tryz.ntmps54
  go_upto_region 1 with fail
  go_region_law (first | (refine step_append_run (by rfl) (.tmp 6) (.tmp 8) 24 (by rfl) _ _ _ (by rfl) (by rfl) hr ?_) | (go_simp; go_at_call 82; (first | (refine Calls.mono HCA.out ?_; rintro e w5 ⟨v, rfl, hv, hb5⟩; have hb6 : Below X.heap.size X w5 := ⟨hb5.os, hb5.tape, hb5.output, hb5.size, hb5.block⟩; obtain ⟨st5, hbw⟩ := HSt.out w5 X (Or.inr rfl) hb6; obtain ⟨v', Y, hr, ho, hg⟩ := one_then w5 w.heap.size (k, A, p, f) (own_below HOX.out hb6) v r hv hbw.size (by omega); rw [HR.out] at ho; have HO : Hid (Y.ownsRow w.heap.size 46 4 v' res.length (nodesV res)) := ho; have HB : Hid (Below w.heap.size w Y) := hbw.grown hg hbw.size (fun q e => (by injection e with e; have := HB0.out.size; have e2 : W0.drew.heap.size = W0.heap.size := rfl; omega)); clear ho hg hv hb5 hb6 hbw st5) | (refine Calls.mono HCB.out ?_; rintro e w5 ⟨v, rfl, hv, hb5⟩; have hb6 : Below W0.heap.size W0 w5 := ⟨hb5.os, hb5.tape, hb5.output, hb5.size, hb5.block⟩; obtain ⟨st5, hbw⟩ := HSt.out w5 W0 (Or.inl rfl) hb6; have y0 := st5.c0; have y1 := st5.c1; have y2 := st5.c2; have y3 := st5.c3; have hbA : Below w5.heap.size w5 (w5.alloc (.cells #[.int .i64 k, .int .i64 A, .string ⟨p.toArray⟩, .string ⟨f.toArray⟩] 46)) := (Below.refl _ w5).alloc (Nat.le_refl _) _; have hbB := hbw.trans (hbA.mono hbw.size); obtain ⟨v', Y, hr, ho, hg⟩ := one_then (w5.alloc (.cells #[.int .i64 k, .int .i64 A, .string ⟨p.toArray⟩, .string ⟨f.toArray⟩] 46)) w.heap.size (k, A, p, f) (own_node1 w5 w.heap.size (k, A, p, f) hbw.size) v r (own_below hv hbA) hbB.size (by omega); rw [HR.out] at ho; have HO : Hid (Y.ownsRow w.heap.size 46 4 v' res.length (nodesV res)) := ho; have HB : Hid (Below w.heap.size w Y) := hbB.grown hg hbB.size (fun q e => (by injection e with e; have := hbw.size; omega)); clear ho hg hv hb5 hb6 hbw st5 hbA hbB)); dsimp only))
  all_goals
    go_wp2
    go_ret
    have ho2 := HO.out
    have hb2 := HB.out
    rw [hD.out] at ho2 hb2
    first | exact ⟨_, rfl, ho2, hb2⟩ | exact ⟨ho2, hb2⟩

end Go.Proofs.YtkjojhkpoooimaaGreat
