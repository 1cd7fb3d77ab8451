/-
  Parts of one proof, one behind the other: PackI2, Math7L.
-/
import Derived.Test.YtibppdepgoiojaaGreatDoorP23
import Derived.Test.YtibppdepgoiojaaGreatDoorP19
import Derived.Test.YtibppdepgoiojaaGreatDoorP17
import Derived.Test.YtibppdepgoiojaaGreatDoorP13
import Derived.Test.YtibppdepgoiojaaGreatDoorP11

/-! The contracts of chapter 7's landed code: copies, and FuncOf. -/
namespace Go.Proofs.YtibppdepgoiojaaGreatDoor
open Go.RowKit

/-- A cell of a row is written with what it holds. -/
theorem own_same {w : World} {base e size g n cp : Nat} {xs : List Value} (h : w.ownsRow base e size (.slice (some ⟨g, 0, none⟩) n cp) n xs) (j : Nat) (u : Value) (hx : xs[j]? = some u) :
    (w.setCell ⟨g, j, none⟩ u).ownsRow base e size (.slice (some ⟨g, 0, none⟩) n cp) n xs ∧ w.grownBy (w.setCell ⟨g, j, none⟩ u) (some g) := by
  have hs := h.stored j u
  obtain ⟨hj, e⟩ := List.getElem?_eq_some_iff.1 hx
  subst e
  rw [List.set_getElem_self] at hs
  exact hs

set_option maxHeartbeats 1000000 in
set_option maxRecDepth 100000 in
theorem cloneNodes (a : Option Addr) (len cap : Nat) (ns : List Nd) (w : World) (hin : NodesIn w a len ns) (hc : a = none → cap = 0) (hlen : len ≤ 1048576) :
    Calls Tryz.prog 85 #[.slice a len cap] w fun e w' => ∃ v, e = .returned v ∧ w'.ownsRow w.heap.size 76 4 v ns.length (nodesV ns) ∧ Below w.heap.size w w' := by
  obtain rfl : ns.length = len := hin.1
  obtain ⟨i0, hi, hz0, hz1, hz2⟩ := info_parts infoNode
  rcases a with _ | ad
  · obtain rfl := hc rfl
    have h0 : ns.length = 0 := by
      rcases Nat.eq_zero_or_pos ns.length with h | h
      · exact h
      · obtain ⟨b, off, e, _⟩ := hin.at h; cases e
    obtain rfl : ns = [] := List.eq_nil_of_length_eq_zero h0
    have HO : Hid (w.ownsRow w.heap.size 76 4 (.slice none 0 0) 0 (nodesV [])) := World.ownsRow_nil w _ _ _
    have heq : ∀ V : World, (binOp .eql 35 (.slice none 0 0) (.slice none 0 0)).run Tryz.prog V = .ok (.bool true) V := fun V => Lib.run_eql_slice_nil V _ _ none 0 0 0 0 Tryz.underlying35
    clear hin hc h0
    go_enter Tryz.func85, Tryz.ntmps85
    go_wp2
    go_ret
    exact ⟨_, rfl, HO.out, Below.refl _ _⟩
  · have hbA : Below w.heap.size w (w.alloc (.cells #[] 76)) := (Below.refl _ _).alloc (Nat.le_refl _) _
    have hown0 := (World.ownsRow_lit (base := w.heap.size) (e := 76) (size := 4) w #[] 0 (Nat.le_refl _) (by decide) rfl)
    obtain ⟨v', w', hrun, hown', hg, _⟩ := run_append_src (P := Tryz.prog) (w.alloc (.cells #[] 76)) w.heap.size 35 35 76 i0 _ 4 48 Tryz.underlying35 hi hz0 hz1 hz2 rfl (by decide) _ _ _ hown0 (.slice (some ad) ns.length cap) ns.length (nodesV ns) ((hin.below hbA).src hc) (by unfold maxLen; omega) (by omega) (by simp)
    have hb : Below w.heap.size w w' := hbA.grown hg hbA.size (fun q e => by simp [Value.ownBlock] at e; omega)
    have HO : Hid (w'.ownsRow w.heap.size 76 4 v' ns.length (nodesV ns)) := by
      simp only [Nat.zero_add] at hown'
      exact (by simpa using hown' : w'.ownsRow w.heap.size 76 4 v' ns.length (nodesV ns))
    have heq : ∀ V : World, (binOp .eql 35 (.slice (some ad) ns.length cap) (.slice none 0 0)).run Tryz.prog V = .ok (.bool false) V := fun V => Lib.run_eql_slice_nil V _ _ (some ad) ns.length cap 0 0 Tryz.underlying35
    clear hown' hg hown0 hbA hin hc
    go_enter Tryz.func85, Tryz.ntmps85
    go_wp2_with (at_builtin; refine wpList_append_run rfl (.tmp 5) (.tmp 6) 35 rfl _ _ _ rfl rfl hrun ?_; clear hrun)
    go_ret
    exact ⟨v', rfl, HO.out, hb⟩

set_option maxHeartbeats 2000000 in
set_option maxRecDepth 100000 in
theorem implCopyTree (a : Option Addr) (len cap : Nat) (ns : List Nd) (w : World) (hin : NodesIn w a len ns) (hc : a = none → cap = 0) (hlen : len ≤ 1048576) (hsh : ShortT ns) :
    Calls Tryz.prog 63 #[.slice a len cap] w fun e w' => ∃ v, e = .returned v ∧ w'.ownsRow w.heap.size 76 4 v ns.length (nodesV ns) ∧ Below w.heap.size w w' := by
  have HC : Hid (_) := cloneNodes a len cap ns w hin hc hlen
  obtain rfl : ns.length = len := hin.1
  have HSH : Hid (ShortT ns) := hsh
  clear hin hc hsh
  go_enter Tryz.func63, Tryz.ntmps63
  go_wp2_with fail
  refine Calls.mono HC.out ?_
  rintro e w1 ⟨v, rfl, hown, hb⟩
  obtain ⟨_, av, cv, rfl, _⟩ := own_nodes hown
  have HO : Hid (w1.ownsRow w.heap.size 76 4 (.slice av ns.length cv) ns.length (nodesV ns)) := hown
  clear HC hown
  go_wp2
  go_loopw [10] (fun iv wr => ∃ k : Nat, iv = .int .i64 (k : Int) ∧ k ≤ ns.length ∧ Hid (wr.ownsRow w.heap.size 76 4 (.slice av ns.length cv) ns.length (nodesV ns)) ∧ Hid (Below w.heap.size w wr)) (fun iv _ => ns.length - (intOf iv).toNat)
  case atStart => exact ⟨0, rfl, by omega, HO, hb⟩
  case round =>
    obtain ⟨k, rfl, hk, HV, HB⟩ := hrel
    clear HO hb
    by_cases hlt : (k : Int) < (ns.length : Int)
    · have hk2 : k < ns.length := by omega
      obtain ⟨g, cp, he⟩ := own_some HV.out (by omega)
      injection he with e1 _ e3
      subst e1 e3
      obtain ⟨v0, v1, v2, v3⟩ := nodesV_at ns k hk2
      obtain ⟨hp, hf⟩ := HSH.out k
      obtain ⟨nd, hnd⟩ : ∃ nd, ns.getD k nd0 = nd := ⟨_, rfl⟩
      rw [hnd] at v0 v1 v2 v3 hp hf
      obtain ⟨kd, aa, p, f⟩ := nd
      simp only at v0 v1 v2 v3 hp hf
      have hat := fun i (hi : i < ns.length * 4) => World.ownsRow.cellAt HV.out i hi
      have c0 := (hat (k * 4) (by omega)).trans v0
      have c1 := (hat (k * 4 + 1) (by omega)).trans v1
      have c2 := (hat (k * 4 + 2) (by omega)).trans v2
      have c3 := (hat (k * 4 + 3) (by omega)).trans v3
      have hgl := HV.out.lt g rfl
      have H2 : Hid ((nodesV ns)[k * 4 + 2]? = some (.string ⟨p.toArray⟩)) := v2
      have H3 : Hid ((nodesV ns)[k * 4 + 3]? = some (.string ⟨f.toArray⟩)) := v3
      obtain ⟨X, hX⟩ : ∃ X, wr.alloc (.cells #[.int .i64 kd, .int .i64 aa, .string ⟨p.toArray⟩, .string ⟨f.toArray⟩] 76) = X := ⟨_, rfl⟩
      obtain ⟨E, hE⟩ : ∃ E, wr.heap.size = E := ⟨_, rfl⟩
      have hbX : Below wr.heap.size wr X := by rw [← hX]; exact (Below.refl _ wr).alloc (Nat.le_refl _) _
      have st := NdAt.new wr kd aa p f
      rw [hX, hE] at st
      have d0 := st.c0
      have d1 := st.c1
      have d2 := st.c2
      have d3 := st.c3
      have hgE : g < E := by omega
      have hgn : ¬ g = E := by omega
      have hgm : ¬ E = g := by omega
      have hBX : Below w.heap.size w X := HB.out.trans (hbX.mono HB.out.size)
      have hoX := own_below HV.out hbX
      clear v0 v1 v2 v3 hat hnd hbX HV HB hgl
      go_wp2_with fail
      refine (stringsClone p _ hp).mono ?_
      rintro e w2 ⟨rfl, hb2⟩
      have hB2 := hBX.trans (hb2.mono hBX.size)
      have ho2 := own_below hoX hb2
      replace st := st.below hb2
      obtain ⟨ho3, hg3⟩ := own_same ho2 (k * 4 + 2) (.string ⟨p.toArray⟩) H2.out
      have q2 : w2.cell? ⟨g, k * 4 + 2, none⟩ = some (.string ⟨p.toArray⟩) := (World.ownsRow.cellAt ho2 _ (by omega)).trans H2.out
      have z2 := World.ownsRow.frozenAt ho2 (k * 4 + 2)
      have hE2 : E < w2.heap.size := World.block_lt_of_cell? w2 ⟨E, 0, none⟩ st.c0
      have hg2 := (ho2.lt g rfl)
      obtain ⟨Y, hY⟩ : ∃ Y, w2.setCell ⟨g, k * 4 + 2, none⟩ (.string ⟨p.toArray⟩) = Y := ⟨_, rfl⟩
      rw [hY] at ho3 hg3
      have hB3 : Below w.heap.size w Y := hB2.grown hg3 hB2.size (fun q e => by injection e with e; omega)
      have hk3 : Y.heap[E]? = w2.heap[E]? := hg3.block E hE2 (by simp; omega)
      have t3 : Y.cell? ⟨E, 3, none⟩ = some (.string ⟨f.toArray⟩) := (World.cell?_of_block (a := ⟨E, 3, none⟩) hk3).trans st.c3
      clear hBX hoX hb2 hB2 ho2 st hE2 hg2 hg3 hk3 d0 d1 d2 d3 c0 c1 c2 c3
      go_wp2_with fail
      refine (stringsClone f _ hf).mono ?_
      rintro e w3 ⟨rfl, hb4⟩
      have hB4 := hB3.trans (hb4.mono hB3.size)
      have ho4 := own_below ho3 hb4
      obtain ⟨ho5, hg5⟩ := own_same ho4 (k * 4 + 3) (.string ⟨f.toArray⟩) H3.out
      have q3 : w3.cell? ⟨g, k * 4 + 3, none⟩ = some (.string ⟨f.toArray⟩) := (World.ownsRow.cellAt ho4 _ (by omega)).trans H3.out
      have z3 := World.ownsRow.frozenAt ho4 (k * 4 + 3)
      have hg4 := (ho4.lt g rfl)
      obtain ⟨Z, hZ⟩ : ∃ Z, w3.setCell ⟨g, k * 4 + 3, none⟩ (.string ⟨f.toArray⟩) = Z := ⟨_, rfl⟩
      rw [hZ] at ho5 hg5
      have HB5 : Hid (Below w.heap.size w Z) := hB4.grown hg5 hB4.size (fun q e => by injection e with e; omega)
      have HO5 : Hid (Z.ownsRow w.heap.size 76 4 (.slice (some ⟨g, 0, none⟩) ns.length cv) ns.length (nodesV ns)) := ho5
      clear hB3 ho3 hb4 hB4 ho4 ho5 hg5 hg4 t3 q2 z2
      go_wp2
      go_roundw
      case rel => exact ⟨k + 1, by go_num, by omega, HO5, HB5⟩
      case measure => simp [intOf]; omega
    · go_wp2
      go_ret
      exact ⟨_, rfl, HV.out, HB.out⟩

/-- What copyOfFunc holds. -/
structure CfSt (w X : World) (D : Nat) (s : List UInt8) (n : Int) (ta : Option Addr) (tl tc : Nat) (t : List Nd) : Prop where
  b : Box3 X D (.string ⟨s.toArray⟩) (.int .i64 n) (.slice ta tl tc)
  n : NodesIn X ta tl t
  r : Box3 X (D + 1) (.string ⟨#[]⟩) (.int .i64 0) (.slice none 0 0)
  fr : ∀ j, X.frozen? ⟨D + 1, j, none⟩ = false
  h : Below D w X
  hs : D + 2 ≤ X.heap.size
theorem CfSt.below {w X Y : World} {D : Nat} {s : List UInt8} {n : Int} {ta : Option Addr} {tl tc : Nat} {t : List Nd} (g : CfSt w X D s n ta tl tc t) (hb : Below X.heap.size X Y) : CfSt w Y D s n ta tl tc t :=
  ⟨g.b.below hb, g.n.below hb, g.r.below hb, fun j => (hb.frozen (p := ⟨D + 1, j, none⟩) (by have := g.hs; show D + 1 < _; omega)).trans (g.fr j), g.h.trans (hb.mono (by have := g.hs; omega)), Nat.le_trans g.hs hb.size⟩
theorem CfSt.drew {w X : World} {D : Nat} {s : List UInt8} {n : Int} {ta : Option Addr} {tl tc : Nat} {t : List Nd} (g : CfSt w X D s n ta tl tc t) : CfSt w X.drew D s n ta tl tc t :=
  g.below ((Below.refl _ _).grown (grown_drew X none) (Nat.le_refl _) (fun k e => by cases e))

set_option maxHeartbeats 2000000 in
set_option maxRecDepth 100000 in
theorem implCopyFunc (s : List UInt8) (n : Int) (t : List Nd) (ta : Option Addr) (tl tc : Nat) (w : World) (hin : NodesIn w ta tl t) (hc : ta = none → tc = 0) (hlen : tl ≤ 1048576) (hsh : ShortT t) (hs : s.length ≤ 1048576) :
    Calls Tryz.prog 32 #[.agg #[.string ⟨s.toArray⟩, .int .i64 n, .slice ta tl tc]] w fun e w' => ∃ a c, e = .returned (.agg #[.string ⟨s.toArray⟩, .int .i64 n, .slice a t.length c]) ∧ w'.ownsRow w.heap.size 76 4 (.slice a t.length c) t.length (nodesV t) ∧ Below w.heap.size w w' := by
  have HSH : Hid (ShortT t) := hsh
  obtain ⟨W1, hW1⟩ : ∃ W, w.alloc (.cells #[.string ⟨s.toArray⟩, .int .i64 n, .slice ta tl tc] 37) = W := ⟨_, rfl⟩
  obtain ⟨W2, hW2⟩ : ∃ W, W1.alloc (.cells #[.string ⟨#[]⟩, .int .i64 0, .slice none 0 0] 37) = W := ⟨_, rfl⟩
  obtain ⟨b1, hb1⟩ := Box3.new w (.string ⟨s.toArray⟩) (.int .i64 n) (.slice ta tl tc) 37
  rw [hW1] at b1 hb1
  obtain ⟨b2, hb2⟩ := Box3.new W1 (.string ⟨#[]⟩) (.int .i64 0) (.slice none 0 0) 37
  rw [hW2] at b2 hb2
  have hs1 : W1.heap.size = w.heap.size + 1 := by rw [← hW1]; simp
  have hs2 : W2.heap.size = w.heap.size + 2 := by rw [← hW2]; simp [hs1]
  have hA2 : W2.heap[w.heap.size + 1]? = some (.cells #[.string ⟨#[]⟩, .int .i64 0, .slice none 0 0] 37) := by rw [← hs1, ← hW2]; exact heap_alloc_new W1 _
  have hfr : ∀ j, W2.frozen? ⟨w.heap.size + 1, j, none⟩ = false := fun j => by simp [World.frozen?, hA2]
  have hB : Below w.heap.size w W2 := hb1.trans (hb2.mono hb1.size)
  rw [hs1] at b2
  obtain ⟨D, hD⟩ : ∃ D, w.heap.size = D := ⟨_, rfl⟩
  rw [hD] at hs1 hs2
  have st : CfSt w W2 D s n ta tl tc t := by
    rw [← hD]
    exact ⟨b1.below hb2, hin.below hB, b2, hfr, hB, by omega⟩
  clear b1 b2 hb1 hb2 hA2 hfr hB hin hsh
  have d0 := st.b.c0
  have d1 := st.b.c1
  have d2 := st.b.c2
  have r0 := st.r.c0
  have r1 := st.r.c1
  have r2 := st.r.c2
  have f0 := st.fr 0
  have f1 := st.fr 1
  have f2 := st.fr 2
  go_enter Tryz.func32, Tryz.ntmps32
  go_upto_region 1 with fail
  replace st := st.drew
  go_region_held3 (fun w' => w'.cell? ⟨D, 0, none⟩ = some (.string ⟨s.toArray⟩) ∧ w'.cell? ⟨D, 1, none⟩ = some (.int .i64 n) ∧ w'.cell? ⟨D, 2, none⟩ = some (.slice ta tl tc)) (go_keep) (first | (go_at_call 63; refine (implCopyTree ta tl tc t _ st.n hc hlen HSH.out).mono ?_; rintro e wn ⟨v, rfl, hown, hbn⟩; obtain ⟨_, av, cv, rfl, _⟩ := own_nodes hown; replace hown := own_base hown st.hs; replace st := st.below hbn; replace d0 := st.b.c0; replace d1 := st.b.c1; replace d2 := st.b.c2; replace r0 := st.r.c0; replace r1 := st.r.c1; replace r2 := st.r.c2; replace f0 := st.fr 0; replace f1 := st.fr 1; replace f2 := st.fr 2; clear hbn) | (go_at_call 62; refine (stringsClone s _ hs).mono ?_; rintro e wn ⟨rfl, hbn⟩; (try replace hown := own_below hown hbn); replace st := st.below hbn; replace d0 := st.b.c0; replace d1 := st.b.c1; replace d2 := st.b.c2; replace r0 := st.r.c0; replace r1 := st.r.c1; replace r2 := st.r.c2; replace f0 := st.fr 0; replace f1 := st.fr 1; replace f2 := st.fr 2; clear hbn))
  all_goals
    have HOwn : Hid (wn.ownsRow (D + 2) 76 4 (.slice av t.length cv) t.length (nodesV t)) := hown
    have HBd : Hid (Below D w wn) := st.h
    have hsd : D + 2 ≤ wn.heap.size := st.hs
    clear hown
    go_wp2
    obtain ⟨Y, hY, y0, y1, y2, hg⟩ := set3 (.string ⟨s.toArray⟩) (.int .i64 n) (.slice av t.length cv) r0 r1 r2
    rw [hY]
    refine bodyPost_ret (v := .agg #[.string ⟨s.toArray⟩, .int .i64 n, .slice av t.length cv]) (by simp [results, Tryz.results32, go_sem, y0, y1, y2]) rfl ?_
    exact ⟨_, _, rfl, by rw [hD]; exact own_base (HOwn.out.kept hg (own_off HOwn.out (by omega))) (by omega), by rw [hD]; exact (HBd.out).grown hg (by omega) (fun k e => by injection e with e; omega)⟩

set_option maxHeartbeats 4000000 in
set_option maxRecDepth 100000 in
theorem implFuncOf (nm : List UInt8) (ia : Option Addr) (il ic : Nat) (fa : Option Addr) (fl fc : Nat) (ims : List (List UInt8)) (fs : List Fn) (q : List UInt8) (w : World) (h : PkOk w nm ia il ic fa fl fc ims fs) (_hq : q.length ≤ 1048576) :
    Calls Tryz.prog 10 #[.agg #[.string ⟨nm.toArray⟩, .slice ia il ic, .slice fa fl fc], .string ⟨q.toArray⟩] w fun e w' => ∃ v, e = .returned (.tuple #[.agg #[.string ⟨(foundV (nm, ims, fs) q).1.toArray⟩, .int .i64 (foundV (nm, ims, fs) q).2.1, v], .bool (foundB (nm, ims, fs) q)]) ∧ w'.ownsRow w.heap.size 76 4 v (foundV (nm, ims, fs) q).2.2.length (nodesV (foundV (nm, ims, fs) q).2.2) ∧ Below w.heap.size w w' := by
  obtain ⟨st1, hB1⟩ := PkIn.new (w := w) (nm := nm) (ic := ic) (fc := fc) h.i h.f
  obtain ⟨W1, hW1⟩ : ∃ W, w.alloc (.cells #[.string ⟨nm.toArray⟩, .slice ia il ic, .slice fa fl fc] 27) = W := ⟨_, rfl⟩
  obtain ⟨W, hW⟩ : ∃ W, W1.alloc (.cells #[.string ⟨#[]⟩, .int .i64 0, .slice none 0 0] 37) = W := ⟨_, rfl⟩
  rw [hW1] at st1 hB1
  have hs1 : W1.heap.size = w.heap.size + 1 := by rw [← hW1]; simp
  have hs2 : W.heap.size = w.heap.size + 2 := by rw [← hW]; simp [hs1]
  have hbW : Below W1.heap.size W1 W := by rw [← hW]; exact (Below.refl _ _).alloc (Nat.le_refl _) _
  have hB : Below w.heap.size w W := hB1.trans (hbW.mono hB1.size)
  have st := st1.below hbW
  have hR : W.heap[w.heap.size + 1]? = some (.cells #[.string ⟨#[]⟩, .int .i64 0, .slice none 0 0] 37) := by rw [← hs1, ← hW]; exact heap_alloc_new W1 _
  have HC := implPackageOk nm ia il ic fa fl fc ims fs W (h.below hB)
  have hfl := h.fl
  have HFS : Hid (ShortF fs) := h.fs
  obtain ⟨D, hD⟩ : ∃ D, w.heap.size = D := ⟨_, rfl⟩
  rw [hD] at st hB hs1 hs2 hR
  have k0 := st.k0
  have k1 := st.k1
  have k2 := st.k2
  have hfw := h.f
  clear h st1 hB1 hbW
  rcases hp : pkgB (nm, ims, fs) with _ | _
  · have HP : Hid (pkgB (nm, ims, fs) = false) := hp
    have HZ : Hid (foundB (nm, ims, fs) q = false ∧ foundV (nm, ims, fs) q = fn0) := found_no1 q hp
    clear hp
    go_enter Tryz.func10, Tryz.ntmps10
    go_wp2_with fail
    refine HC.mono ?_
    rintro e w1 ⟨rfl, hb1⟩
    rw [HP.out]
    obtain ⟨r0, r1, r2, fr⟩ := three hb1 (by omega) hR
    have f0 := fr 0
    have f1 := fr 1
    have f2 := fr 2
    have HBd : Hid (Below D w w1) := hB.trans (hb1.mono (by omega))
    have hsd : D ≤ w1.heap.size := by have := hb1.size; omega
    clear hb1
    clear HC k0 k1 k2 st fr hfw
    go_wp2
    obtain ⟨Y, hY, y0, y1, y2, hg⟩ := set3 (.string ⟨#[]⟩) (.int .i64 0) (.slice none 0 0) r0 r1 r2
    rw [hY]
    refine bodyPost_ret (v := .tuple #[.agg #[.string ⟨#[]⟩, .int .i64 0, .slice none 0 0], .bool false]) (by simp [results, Tryz.results10, go_sem, y0, y1, y2]) rfl ?_
    exact foZero HZ.out (by rw [hD]; exact (HBd.out).grown hg (by omega) (fun k e => by injection e with e; omega))
  · have HP : Hid (pkgB (nm, ims, fs) = true) := hp
    by_cases h0 : atV fs q < 0
    · have HZ : Hid (foundB (nm, ims, fs) q = false ∧ foundV (nm, ims, fs) q = fn0) := found_no2 h0
      have hm1 : atV fs q = -1 := by
        have ha := atGo_append q fs [] 0
        rcases ha with ⟨e, _⟩ | ⟨e, _⟩
        · exact e
        · have h1 : atV fs q = atGo q fs 0 := rfl
          omega
      have HM : Hid (atV fs q = -1) := hm1
      clear hp h0 hm1
      go_enter Tryz.func10, Tryz.ntmps10
      go_wp2_with fail
      refine HC.mono ?_
      rintro e w0 ⟨rfl, hb0⟩
      rw [HP.out]
      have st0 := st.below hb0
      have HC2 := implPlaceOf fa fl fc fs q w0 st0.f hfl
      replace k0 := st0.k0
      replace k1 := st0.k1
      replace k2 := st0.k2
      go_wp2_with fail
      refine HC2.mono ?_
      rintro e w1 ⟨rfl, hb1'⟩
      rw [HM.out]
      have hb1 : Below W.heap.size W w1 := hb0.trans (hb1'.mono hb0.size)
      obtain ⟨r0, r1, r2, fr⟩ := three hb1 (by omega) hR
      have f0 := fr 0
      have f1 := fr 1
      have f2 := fr 2
      have HBd : Hid (Below D w w1) := hB.trans (hb1.mono (by omega))
      have hsd : D ≤ w1.heap.size := by have := hb1.size; omega
      clear hb1 hb0 hb1' st0
      clear HC HC2 k0 k1 k2 st fr hfw
      go_wp2
      obtain ⟨Y, hY, y0, y1, y2, hg⟩ := set3 (.string ⟨#[]⟩) (.int .i64 0) (.slice none 0 0) r0 r1 r2
      rw [hY]
      refine bodyPost_ret (v := .tuple #[.agg #[.string ⟨#[]⟩, .int .i64 0, .slice none 0 0], .bool false]) (by simp [results, Tryz.results10, go_sem, y0, y1, y2]) rfl ?_
      exact foZero HZ.out (by rw [hD]; exact (HBd.out).grown hg (by omega) (fun k e => by injection e with e; omega))
    · have hz := found_yes (p := (nm, ims, fs)) (s := q) hp (Int.not_lt.1 h0)
      obtain ⟨hj, hjn⟩ := atV_lt (fs := fs) (s := q) (by omega)
      simp only at hz
      obtain ⟨j, hjz⟩ : ∃ j : Nat, (atV fs q).toNat = j := ⟨_, rfl⟩
      have hav : atV fs q = (j : Int) := by omega
      rw [hjz] at hz hj hjn
      have hjl : j < fl := by rw [← st.f.1]; exact hj
      obtain ⟨b, off, rfl, hbl, c0, c1, ta, tl, tc, c2, hnc, hin⟩ := st.f.2 j hjl
      have hbw : b < D := by
        obtain ⟨b', off', e, hbl', _⟩ := hfw.2 j hjl
        injection e with e
        injection e with e
        omega
      have hsh := HFS.out j
      obtain ⟨f, hfe⟩ : ∃ f, fs.getD j fn0 = f := ⟨_, rfl⟩
      rw [hfe] at c0 c1 hin hz hsh
      obtain ⟨s, n, t⟩ := f
      simp only at c0 c1 hin hsh
      have htl : tl ≤ 1048576 := by rw [← hin.1]; exact hsh.2.1
      have HZ : Hid (foundB (nm, ims, fs) q = true ∧ foundV (nm, ims, fs) q = (s, n, t)) := hz
      obtain ⟨r0, r1, r2, fr⟩ := three (Below.refl _ W) (by omega) hR
      have sv : FoSt W w D nm ia il ic b off fl fc ims fs j s n t ta tl tc := ⟨st, c0, c1, c2, hin, r0, r1, r2, fr, hB, by omega⟩
      have HAV : Hid (atV fs q = (j : Int)) := hav
      have HSH : Hid (s.length ≤ 1048576 ∧ t.length ≤ 1048576 ∧ ShortT t) := hsh
      have hjl1 : (j : Int) < (fl : Int) := by omega
      have hj0 : ¬ (j : Int) < 0 := by omega
      have hjm : ((j : Int) == -1) = false := by rw [beq_eq_false_iff_ne]; omega
      have hbn1 : ¬ b = D + 1 := by omega
      have hbn2 : ¬ D + 1 = b := by omega
      have HHS : Hid (W.heap.size = D + 2) := hs2
      clear hp h0 hz hjn hj hjz hav hfe hsh st hB hR hin fr r0 r1 r2 hbl hfw
      go_enter Tryz.func10, Tryz.ntmps10
      go_wp2_with fail
      refine HC.mono ?_
      rintro e w0 ⟨rfl, hbn⟩
      rw [HP.out]
      clear HC
      have hsz0 : D + 2 ≤ w0.heap.size := by have := hbn.size; omega
      replace sv := sv.below hbn
      clear hbn
      replace k0 := sv.p.k0
      replace k1 := sv.p.k1
      replace k2 := sv.p.k2
      replace c0 := sv.c0
      replace c1 := sv.c1
      replace c2 := sv.c2
      go_wp2_with fail
      refine (implPlaceOf (some ⟨b, off, none⟩) fl fc fs q _ sv.p.f hfl).mono ?_
      rintro e w1 ⟨rfl, hbn⟩
      rw [HAV.out]
      have hsz1 : D + 2 ≤ w1.heap.size := Nat.le_trans hsz0 hbn.size
      replace sv := sv.below hbn
      clear hbn hsz0
      replace k0 := sv.p.k0
      replace k1 := sv.p.k1
      replace k2 := sv.p.k2
      replace c0 := sv.c0
      replace c1 := sv.c1
      replace c2 := sv.c2
      go_wp2_with fail
      refine (implCopyFunc s n t ta tl tc _ sv.nodes hnc htl HSH.out.2.2 HSH.out.1).mono ?_
      rintro e w2 ⟨av, cv, rfl, hown, hbn⟩
      have HOwn : Hid (w2.ownsRow (D + 2) 76 4 (.slice av t.length cv) t.length (nodesV t)) := own_base hown hsz1
      replace sv := sv.below hbn
      have HBd : Hid (Below D w w2) := sv.b
      have hsd : D ≤ w2.heap.size := sv.bs
      have r0 := sv.r0
      have r1 := sv.r1
      have r2 := sv.r2
      have f0 := sv.fr 0
      have f1 := sv.fr 1
      have f2 := sv.fr 2
      clear hown hbn k0 k1 k2 c0 c1 c2 sv
      go_wp2
      obtain ⟨Y, hY, y0, y1, y2, hg⟩ := set3 (.string ⟨s.toArray⟩) (.int .i64 n) (.slice av t.length cv) r0 r1 r2
      rw [hY]
      refine bodyPost_ret (v := .tuple #[.agg #[.string ⟨s.toArray⟩, .int .i64 n, .slice av t.length cv], .bool true]) (by simp [results, Tryz.results10, go_sem, y0, y1, y2]) rfl ?_
      exact ⟨_, by rw [HZ.out.1, HZ.out.2], by rw [HZ.out.2, hD]; exact own_base (HOwn.out.kept hg (own_off HOwn.out (by omega))) (by omega), by rw [hD]; exact (HBd.out).grown hg (by omega) (fun k e => by injection e with e; omega)⟩

end Go.Proofs.YtibppdepgoiojaaGreatDoor

/-! Plain facts of chapter 7: lines read loosely, as the landed code reads them. -/
namespace Go.Proofs.YtibppdepgoiojaaGreatDoor
open Go.RowKit

noncomputable def loFn (s : List UInt8) : Fn := (cutA 32 s, numV (cutA 32 (cutB 32 s)), readTV (cutB 32 (cutB 32 s)))
noncomputable def loLn (p : Pk) (x : List UInt8) : Pk :=
  if cutA 32 x = kwPackage then (cutB 32 x, p.2.1, p.2.2)
  else if cutA 32 x = kwImport then (p.1, p.2.1 ++ [cutB 32 x], p.2.2)
  else if cutA 32 x = kwFunc then (p.1, p.2.1, p.2.2 ++ [loFn (cutB 32 x)])
  else p
noncomputable def loLs (p : Pk) (ls : List (List UInt8)) : Pk := ls.foldl loLn p

theorem lo_pack (p : Pk) (s : List UInt8) : loLn p (packLn s) = (s, p.2.1, p.2.2) := by
  have h := cut_one 32 kwPackage s (by decide)
  have e : packLn s = kwPackage ++ 32 :: s := by simp [packLn]
  unfold loLn
  rw [e, h.1, h.2, if_pos rfl]
theorem lo_imp (p : Pk) (s : List UInt8) : loLn p (impLn s) = (p.1, p.2.1 ++ [s], p.2.2) := by
  have h := cut_one 32 kwImport s (by decide)
  have e : impLn s = kwImport ++ 32 :: s := by simp [impLn]
  unfold loLn
  rw [e, h.1, h.2, if_neg (by decide), if_pos rfl]
theorem lo_func (p : Pk) (f : Fn) (h : funcB f = true) : loLn p (funcLn f) = (p.1, p.2.1, p.2.2 ++ [f]) := by
  obtain ⟨s, n, t⟩ := f
  unfold funcB at h
  simp only [Bool.and_eq_true] at h
  obtain ⟨hs, hn, ht⟩ := h
  have hnb : 0 ≤ n ∧ n ≤ 3 := by unfold inB at hn; exact of_decide_eq_true hn
  have h0 := cut_one 32 kwFunc (s ++ 32 :: (intL n ++ 32 :: showL t)) (by decide)
  have h1 := cut_one 32 s (intL n ++ 32 :: showL t) (name_noblank hs)
  have h2 := cut_one 32 (intL n) (showL t) (fun c hc e => by
    have := intL_bytes n (by omega) (by omega) c hc
    rw [e] at this
    simp at this)
  have e : funcLn (s, n, t) = kwFunc ++ 32 :: (s ++ 32 :: (intL n ++ 32 :: showL t)) := by simp [funcLn]
  have hf : loFn (s ++ 32 :: (intL n ++ 32 :: showL t)) = (s, n, t) := by
    unfold loFn
    rw [h1.1, h1.2, h2.1, h2.2, (num_word n (by omega) (by omega)).2, (tree_backL ht).2]
  unfold loLn
  rw [e, h0.1, h0.2, if_neg (by decide), if_neg (by decide), if_pos rfl, hf]
theorem loLs_imps (r : List (List UInt8)) : ∀ (ims : List (List UInt8)) (p : Pk), loLs p (ims.map impLn ++ r) = loLs (p.1, p.2.1 ++ ims, p.2.2) r
  | [], p => by simp
  | x :: l, p => by
    have ih := loLs_imps r l (p.1, p.2.1 ++ [x], p.2.2)
    unfold loLs at ih ⊢
    rw [List.map_cons, List.cons_append, List.foldl_cons, lo_imp, ih]
    simp
theorem loLs_funcs : ∀ (fs : List Fn) (p : Pk), (∀ f ∈ fs, funcB f = true) → loLs p (fs.map funcLn) = (p.1, p.2.1, p.2.2 ++ fs)
  | [], p, _ => by simp [loLs]
  | f :: l, p, h => by
    have ih := loLs_funcs l (p.1, p.2.1, p.2.2 ++ [f]) (fun g hg => h g (List.mem_cons_of_mem _ hg))
    unfold loLs at ih ⊢
    rw [List.map_cons, List.foldl_cons, lo_func p f (h f List.mem_cons_self), ih]
    simp
/-- What a good package is written as is read back loosely too. -/
theorem lo_lines {p : Pk} (h : pkgB p = true) : loLs pk0 (pkLines p) = p := by
  obtain ⟨_, _, _, _, hf⟩ := pkgB_parts h
  unfold pkLines
  have e : loLs pk0 (packLn p.1 :: (p.2.1.map impLn ++ p.2.2.map funcLn)) = loLs (p.1, [], []) (p.2.1.map impLn ++ p.2.2.map funcLn) := by
    unfold loLs
    rw [List.foldl_cons, lo_pack]
    rfl
  rw [e, loLs_imps, loLs_funcs _ _ hf]
  simp
theorem lo_yes {l : List UInt8} {q : Pk} (hl : l ≠ []) (hs : showPk q = l) : readPB l = true ∧ readPV l = q := by
  rcases hp : pkgB q with _ | _
  · rw [pack_not hp] at hs; exact absurd hs.symm hl
  · have h := pack_back hp
    rw [hs] at h
    exact ⟨h.2.1, h.2.2⟩
theorem lo_no {l : List UInt8} (hs : showPk (loLs pk0 (linesL l)) ≠ l) : readPB l = false ∧ readPV l = pk0 := by
  rcases read_pv l with ⟨_, h, e⟩ | h
  · refine absurd ?_ hs
    have e2 : linesL l = pkLines (readPV l) := by
      have h1 := lines_term (pkLines (readPV l)) (lines_no10 h)
      have h2 : showP (readPV l) = l := (show showP (readPV l) = showPk (readPV l) from (if_pos h).symm).trans e
      rw [show termJ (pkLines (readPV l)) = showP (readPV l) from rfl, h2] at h1
      exact h1
    rw [e2, lo_lines h]
    exact e
  · exact h
theorem lo_nil : readPB [] = false ∧ readPV [] = pk0 := by
  rcases read_pv [] with ⟨_, h, e⟩ | h
  · exact absurd e (pack_back h).1
  · exact h

/-- No more lines than bytes. -/
theorem linesL_le (l : List UInt8) : (linesL l).length ≤ l.length := by
  have hne := splitGo_ne 10 l []
  have hj := joinBy_split 10 l []
  rw [List.nil_append] at hj
  have hs : splitL 10 l = (splitL 10 l).dropLast ++ [(splitL 10 l).getLastD []] := by
    have h : splitL 10 l ≠ [] := hne
    have h2 := List.dropLast_concat_getLast h
    rw [← h2]
    simp [List.getLastD_eq_getLast?]
  have hj2 : joinBy 10 (splitL 10 l) = l := hj
  rw [hs, joinBy_term] at hj2
  have hc : ∀ ls : List (List UInt8), ls.length ≤ (termJ ls).length := fun ls => by
    induction ls with
    | nil => simp
    | cons x r ih => simp only [termJ, List.map_cons, List.flatten_cons, List.length_append, List.length_cons, List.length_nil] at ih ⊢; omega
  have h1 := hc (splitL 10 l).dropLast
  have h2 := congrArg List.length hj2
  rw [List.length_append] at h2
  unfold linesL
  split
  · omega
  · rename_i hn
    have h3 : 0 < ((splitL 10 l).getLastD []).length := List.length_pos_iff.2 hn
    have h4 := congrArg List.length hs
    rw [List.length_append, List.length_singleton] at h4
    omega
theorem loLs_take (p : Pk) (ls : List (List UInt8)) (k : Nat) (hk : k < ls.length) : loLs p (ls.take (k + 1)) = loLn (loLs p (ls.take k)) (ls.getD k []) := by
  have e : ls.getD k [] = ls[k] := by rw [List.getD_eq_getElem?_getD, List.getElem?_eq_getElem hk]; rfl
  unfold loLs
  rw [List.take_succ_eq_append_getElem hk, List.foldl_append, e]
  rfl

/-- How great what is read may be. -/
structure LoOk (p : Pk) : Prop where
  s : ShortP p.1 p.2.1 p.2.2
  i : IntF p.2.2
theorem loOk0 : LoOk pk0 := ⟨shortP0, fun j => by simp [pk0, fn0, IntT, IntN, nd0]⟩
theorem int_nodes {t : List Nd} (h : ∀ n ∈ t, nodeB n = true) : IntT t := fun j => by
  by_cases hj : j < t.length
  · have hn := h _ (getD_mem t j nd0 hj)
    generalize t.getD j nd0 = n at hn
    obtain ⟨k, a, p, f⟩ := n
    have hp := nodeB_iff.1 hn
    unfold nodeP at hp
    unfold IntN
    simp only at hp ⊢
    rcases hp with ⟨rfl, ⟨h0, h1⟩, rfl, rfl⟩ | ⟨rfl, ⟨h0, h1⟩, rfl, rfl⟩ | ⟨hk, rfl, rfl, rfl⟩ | ⟨rfl, ⟨h0, h1⟩, hpn, hfn⟩
    · exact ⟨⟨by omega, by omega⟩, by omega, by omega⟩
    · exact ⟨⟨by omega, by omega⟩, by omega, by omega⟩
    · exact ⟨⟨by omega, by omega⟩, by omega, by omega⟩
    · exact ⟨⟨by omega, by omega⟩, by omega, by omega⟩
  · rw [List.getD_eq_getElem?_getD, List.getElem?_eq_none (by omega)]; simp [nd0, IntN]
theorem readTV_int (s : List UInt8) : IntT (readTV s) := by
  unfold readTV
  split
  · rename_i h
    unfold readOk at h
    simp only [Bool.and_eq_true] at h
    exact int_nodes (tree_nodes h.2.1)
  · exact IntT.nil
theorem loFn_ok (s : List UInt8) (hs : s.length ≤ 1048576) : ((loFn s).1.length ≤ 1048576 ∧ (loFn s).2.2.length ≤ 1048576 ∧ ShortT (loFn s).2.2) ∧ (-9223372036854775808 ≤ (loFn s).2.1 ∧ (loFn s).2.1 ≤ 9223372036854775807) ∧ IntT (loFn s).2.2 := by
  have h1 := cutA_len 32 s
  have h2 := readTV_short (cutB 32 (cutB 32 s))
  have h3 := numV_bd (cutA 32 (cutB 32 s))
  exact ⟨⟨by unfold loFn; simp only; omega, h2.1, h2.2⟩, ⟨by unfold loFn; simp only; omega, by unfold loFn; simp only; omega⟩, readTV_int _⟩
theorem LoOk.step {p : Pk} (h : LoOk p) {x : List UInt8} (hx : x.length ≤ 1048576) : LoOk (loLn p x) := by
  have hb := cutB_len 32 x
  unfold loLn
  split
  · exact ⟨⟨by show (cutB 32 x).length ≤ _; omega, h.s.i, h.s.f⟩, h.i⟩
  · split
    · exact ⟨h.s.imp (by omega), h.i⟩
    · split
      · have hf := loFn_ok (cutB 32 x) (by omega)
        refine ⟨h.s.fn hf.1, fun j => ?_⟩
        show ((-9223372036854775808 ≤ ((p.2.2 ++ [loFn (cutB 32 x)]).getD j fn0).2.1 ∧ ((p.2.2 ++ [loFn (cutB 32 x)]).getD j fn0).2.1 ≤ 9223372036854775807) ∧ IntT ((p.2.2 ++ [loFn (cutB 32 x)]).getD j fn0).2.2)
        by_cases hj : j < p.2.2.length
        · rw [List.getD_eq_getElem?_getD, List.getElem?_append_left hj, ← List.getD_eq_getElem?_getD]; exact h.i j
        · rw [List.getD_eq_getElem?_getD, List.getElem?_append_right (by omega)]
          cases j - p.2.2.length with
          | zero => simpa using hf.2
          | succ m => exact ⟨by simp [fn0], by simp [fn0, IntT, IntN, nd0]⟩
      · exact h
theorem loLn_many (p : Pk) (x : List UInt8) : (loLn p x).2.1.length ≤ p.2.1.length + 1 ∧ (loLn p x).2.2.length ≤ p.2.2.length + 1 := by
  unfold loLn
  split
  · simp
  · split
    · simp
    · split
      · simp
      · simp

end Go.Proofs.YtibppdepgoiojaaGreatDoor
