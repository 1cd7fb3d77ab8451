/-
  Parts of one proof, one behind the other: PackI2.
-/
import Derived.Test.YtnhkpncbloojhaaP15
import Derived.Test.YtnhkpncbloojhaaP12

/-! The contracts of chapter 7's landed code: copies, and FuncOf. -/
namespace Go.Proofs.Ytnhkpncbloojhaa
open Go.RowKit

/-- A cell of a row is written with what it holds. -/
theorem own_same {w : World} {base e size g n cp : Nat} {xs : List Value} (h : w.ownsRow base e size (.slice (some ⟨g, 0, none⟩) n cp) n xs) (j : Nat) (u : Value) (hx : xs[j]? = some u) :
    (w.setCell ⟨g, j, none⟩ u).ownsRow base e size (.slice (some ⟨g, 0, none⟩) n cp) n xs ∧ w.grownBy (w.setCell ⟨g, j, none⟩ u) (some g) := by
  have hs := h.stored j u
  obtain ⟨hj, e⟩ := List.getElem?_eq_some_iff.1 hx
  subst e
  rw [List.set_getElem_self] at hs
  exact hs

set_option maxHeartbeats 1000000 in
set_option maxRecDepth 100000 in
theorem cloneNodes (a : Option Addr) (len cap : Nat) (ns : List Nd) (w : World) (hin : NodesIn w a len ns) (hc : a = none → cap = 0) (hlen : len ≤ 1048576) :
    Calls Try.prog 53 #[.slice a len cap] w fun e w' => ∃ v, e = .returned v ∧ w'.ownsRow w.heap.size 70 4 v ns.length (nodesV ns) ∧ Below w.heap.size w w' := by
  obtain rfl : ns.length = len := hin.1
  obtain ⟨i0, hi, hz0, hz1, hz2⟩ := info_parts infoNode
  rcases a with _ | ad
  · obtain rfl := hc rfl
    have h0 : ns.length = 0 := by
      rcases Nat.eq_zero_or_pos ns.length with h | h
      · exact h
      · obtain ⟨b, off, e, _⟩ := hin.at h; cases e
    obtain rfl : ns = [] := List.eq_nil_of_length_eq_zero h0
    have HO : Hid (w.ownsRow w.heap.size 70 4 (.slice none 0 0) 0 (nodesV [])) := World.ownsRow_nil w _ _ _
    have heq : ∀ V : World, (binOp .eql 34 (.slice none 0 0) (.slice none 0 0)).run Try.prog V = .ok (.bool true) V := fun V => Lib.run_eql_slice_nil V _ _ none 0 0 0 0 Try.underlying34
    clear hin hc h0
    go_enter Try.func53, Try.ntmps53
    go_wp2
    go_ret
    exact ⟨_, rfl, HO.out, Below.refl _ _⟩
  · have hbA : Below w.heap.size w (w.alloc (.cells #[] 70)) := (Below.refl _ _).alloc (Nat.le_refl _) _
    have hown0 := (World.ownsRow_lit (base := w.heap.size) (e := 70) (size := 4) w #[] 0 (Nat.le_refl _) (by decide) rfl)
    obtain ⟨v', w', hrun, hown', hg, _⟩ := run_append_src (P := Try.prog) (w.alloc (.cells #[] 70)) w.heap.size 34 34 70 i0 _ 4 48 Try.underlying34 hi hz0 hz1 hz2 rfl (by decide) _ _ _ hown0 (.slice (some ad) ns.length cap) ns.length (nodesV ns) ((hin.below hbA).src hc) (by unfold maxLen; omega) (by omega) (by simp)
    have hb : Below w.heap.size w w' := hbA.grown hg hbA.size (fun q e => by simp [Value.ownBlock] at e; omega)
    have HO : Hid (w'.ownsRow w.heap.size 70 4 v' ns.length (nodesV ns)) := by
      simp only [Nat.zero_add] at hown'
      exact (by simpa using hown' : w'.ownsRow w.heap.size 70 4 v' ns.length (nodesV ns))
    have heq : ∀ V : World, (binOp .eql 34 (.slice (some ad) ns.length cap) (.slice none 0 0)).run Try.prog V = .ok (.bool false) V := fun V => Lib.run_eql_slice_nil V _ _ (some ad) ns.length cap 0 0 Try.underlying34
    clear hown' hg hown0 hbA hin hc
    go_enter Try.func53, Try.ntmps53
    go_wp2_with (at_builtin; refine wpList_append_run rfl (.tmp 5) (.tmp 6) 34 rfl _ _ _ rfl rfl hrun ?_; clear hrun)
    go_ret
    exact ⟨v', rfl, HO.out, hb⟩

set_option maxHeartbeats 2000000 in
set_option maxRecDepth 100000 in
theorem implCopyTree (a : Option Addr) (len cap : Nat) (ns : List Nd) (w : World) (hin : NodesIn w a len ns) (hc : a = none → cap = 0) (hlen : len ≤ 1048576) (hsh : ShortT ns) :
    Calls Try.prog 45 #[.slice a len cap] w fun e w' => ∃ v, e = .returned v ∧ w'.ownsRow w.heap.size 70 4 v ns.length (nodesV ns) ∧ Below w.heap.size w w' := by
  have HC : Hid (_) := cloneNodes a len cap ns w hin hc hlen
  obtain rfl : ns.length = len := hin.1
  have HSH : Hid (ShortT ns) := hsh
  clear hin hc hsh
  go_enter Try.func45, Try.ntmps45
  go_wp2_with fail
  refine Calls.mono HC.out ?_
  rintro e w1 ⟨v, rfl, hown, hb⟩
  obtain ⟨_, av, cv, rfl, _⟩ := own_nodes hown
  have HO : Hid (w1.ownsRow w.heap.size 70 4 (.slice av ns.length cv) ns.length (nodesV ns)) := hown
  clear HC hown
  go_wp2
  go_loopw [10] (fun iv wr => ∃ k : Nat, iv = .int .i64 (k : Int) ∧ k ≤ ns.length ∧ Hid (wr.ownsRow w.heap.size 70 4 (.slice av ns.length cv) ns.length (nodesV ns)) ∧ Hid (Below w.heap.size w wr)) (fun iv _ => ns.length - (intOf iv).toNat)
  case atStart => exact ⟨0, rfl, by omega, HO, hb⟩
  case round =>
    obtain ⟨k, rfl, hk, HV, HB⟩ := hrel
    clear HO hb
    by_cases hlt : (k : Int) < (ns.length : Int)
    · have hk2 : k < ns.length := by omega
      obtain ⟨g, cp, he⟩ := own_some HV.out (by omega)
      injection he with e1 _ e3
      subst e1 e3
      obtain ⟨v0, v1, v2, v3⟩ := nodesV_at ns k hk2
      obtain ⟨hp, hf⟩ := HSH.out k
      obtain ⟨nd, hnd⟩ : ∃ nd, ns.getD k nd0 = nd := ⟨_, rfl⟩
      rw [hnd] at v0 v1 v2 v3 hp hf
      obtain ⟨kd, aa, p, f⟩ := nd
      simp only at v0 v1 v2 v3 hp hf
      have hat := fun i (hi : i < ns.length * 4) => World.ownsRow.cellAt HV.out i hi
      have c0 := (hat (k * 4) (by omega)).trans v0
      have c1 := (hat (k * 4 + 1) (by omega)).trans v1
      have c2 := (hat (k * 4 + 2) (by omega)).trans v2
      have c3 := (hat (k * 4 + 3) (by omega)).trans v3
      have hgl := HV.out.lt g rfl
      have H2 : Hid ((nodesV ns)[k * 4 + 2]? = some (.string ⟨p.toArray⟩)) := v2
      have H3 : Hid ((nodesV ns)[k * 4 + 3]? = some (.string ⟨f.toArray⟩)) := v3
      obtain ⟨X, hX⟩ : ∃ X, wr.alloc (.cells #[.int .i64 kd, .int .i64 aa, .string ⟨p.toArray⟩, .string ⟨f.toArray⟩] 70) = X := ⟨_, rfl⟩
      obtain ⟨E, hE⟩ : ∃ E, wr.heap.size = E := ⟨_, rfl⟩
      have hbX : Below wr.heap.size wr X := by rw [← hX]; exact (Below.refl _ wr).alloc (Nat.le_refl _) _
      have st := NdAt.new wr kd aa p f
      rw [hX, hE] at st
      have d0 := st.c0
      have d1 := st.c1
      have d2 := st.c2
      have d3 := st.c3
      have hgE : g < E := by omega
      have hgn : ¬ g = E := by omega
      have hgm : ¬ E = g := by omega
      have hBX : Below w.heap.size w X := HB.out.trans (hbX.mono HB.out.size)
      have hoX := own_below HV.out hbX
      clear v0 v1 v2 v3 hat hnd hbX HV HB hgl
      go_wp2_with fail
      refine (stringsClone p _ hp).mono ?_
      rintro e w2 ⟨rfl, hb2⟩
      have hB2 := hBX.trans (hb2.mono hBX.size)
      have ho2 := own_below hoX hb2
      replace st := st.below hb2
      obtain ⟨ho3, hg3⟩ := own_same ho2 (k * 4 + 2) (.string ⟨p.toArray⟩) H2.out
      have q2 : w2.cell? ⟨g, k * 4 + 2, none⟩ = some (.string ⟨p.toArray⟩) := (World.ownsRow.cellAt ho2 _ (by omega)).trans H2.out
      have z2 := World.ownsRow.frozenAt ho2 (k * 4 + 2)
      have hE2 : E < w2.heap.size := World.block_lt_of_cell? w2 ⟨E, 0, none⟩ st.c0
      have hg2 := (ho2.lt g rfl)
      obtain ⟨Y, hY⟩ : ∃ Y, w2.setCell ⟨g, k * 4 + 2, none⟩ (.string ⟨p.toArray⟩) = Y := ⟨_, rfl⟩
      rw [hY] at ho3 hg3
      have hB3 : Below w.heap.size w Y := hB2.grown hg3 hB2.size (fun q e => by injection e with e; omega)
      have hk3 : Y.heap[E]? = w2.heap[E]? := hg3.block E hE2 (by simp; omega)
      have t3 : Y.cell? ⟨E, 3, none⟩ = some (.string ⟨f.toArray⟩) := (World.cell?_of_block (a := ⟨E, 3, none⟩) hk3).trans st.c3
      clear hBX hoX hb2 hB2 ho2 st hE2 hg2 hg3 hk3 d0 d1 d2 d3 c0 c1 c2 c3
      go_wp2_with fail
      refine (stringsClone f _ hf).mono ?_
      rintro e w3 ⟨rfl, hb4⟩
      have hB4 := hB3.trans (hb4.mono hB3.size)
      have ho4 := own_below ho3 hb4
      obtain ⟨ho5, hg5⟩ := own_same ho4 (k * 4 + 3) (.string ⟨f.toArray⟩) H3.out
      have q3 : w3.cell? ⟨g, k * 4 + 3, none⟩ = some (.string ⟨f.toArray⟩) := (World.ownsRow.cellAt ho4 _ (by omega)).trans H3.out
      have z3 := World.ownsRow.frozenAt ho4 (k * 4 + 3)
      have hg4 := (ho4.lt g rfl)
      obtain ⟨Z, hZ⟩ : ∃ Z, w3.setCell ⟨g, k * 4 + 3, none⟩ (.string ⟨f.toArray⟩) = Z := ⟨_, rfl⟩
      rw [hZ] at ho5 hg5
      have HB5 : Hid (Below w.heap.size w Z) := hB4.grown hg5 hB4.size (fun q e => by injection e with e; omega)
      have HO5 : Hid (Z.ownsRow w.heap.size 70 4 (.slice (some ⟨g, 0, none⟩) ns.length cv) ns.length (nodesV ns)) := ho5
      clear hB3 ho3 hb4 hB4 ho4 ho5 hg5 hg4 t3 q2 z2
      go_wp2
      go_roundw
      case rel => exact ⟨k + 1, by go_num, by omega, HO5, HB5⟩
      case measure => simp [intOf]; omega
    · go_wp2
      go_ret
      exact ⟨_, rfl, HV.out, HB.out⟩

/-- What copyOfFunc holds. -/
structure CfSt (w X : World) (D : Nat) (s : List UInt8) (n : Int) (ta : Option Addr) (tl tc : Nat) (t : List Nd) : Prop where
  b : Box3 X D (.string ⟨s.toArray⟩) (.int .i64 n) (.slice ta tl tc)
  n : NodesIn X ta tl t
  r : Box3 X (D + 1) (.string ⟨#[]⟩) (.int .i64 0) (.slice none 0 0)
  fr : ∀ j, X.frozen? ⟨D + 1, j, none⟩ = false
  h : Below D w X
  hs : D + 2 ≤ X.heap.size
theorem CfSt.below {w X Y : World} {D : Nat} {s : List UInt8} {n : Int} {ta : Option Addr} {tl tc : Nat} {t : List Nd} (g : CfSt w X D s n ta tl tc t) (hb : Below X.heap.size X Y) : CfSt w Y D s n ta tl tc t :=
  ⟨g.b.below hb, g.n.below hb, g.r.below hb, fun j => (hb.frozen (p := ⟨D + 1, j, none⟩) (by have := g.hs; show D + 1 < _; omega)).trans (g.fr j), g.h.trans (hb.mono (by have := g.hs; omega)), Nat.le_trans g.hs hb.size⟩
theorem CfSt.drew {w X : World} {D : Nat} {s : List UInt8} {n : Int} {ta : Option Addr} {tl tc : Nat} {t : List Nd} (g : CfSt w X D s n ta tl tc t) : CfSt w X.drew D s n ta tl tc t :=
  g.below ((Below.refl _ _).grown (grown_drew X none) (Nat.le_refl _) (fun k e => by cases e))

set_option maxHeartbeats 2000000 in
set_option maxRecDepth 100000 in
theorem implCopyFunc (s : List UInt8) (n : Int) (t : List Nd) (ta : Option Addr) (tl tc : Nat) (w : World) (hin : NodesIn w ta tl t) (hc : ta = none → tc = 0) (hlen : tl ≤ 1048576) (hsh : ShortT t) (hs : s.length ≤ 1048576) :
    Calls Try.prog 32 #[.agg #[.string ⟨s.toArray⟩, .int .i64 n, .slice ta tl tc]] w fun e w' => ∃ a c, e = .returned (.agg #[.string ⟨s.toArray⟩, .int .i64 n, .slice a t.length c]) ∧ w'.ownsRow w.heap.size 70 4 (.slice a t.length c) t.length (nodesV t) ∧ Below w.heap.size w w' := by
  have HSH : Hid (ShortT t) := hsh
  obtain ⟨W1, hW1⟩ : ∃ W, w.alloc (.cells #[.string ⟨s.toArray⟩, .int .i64 n, .slice ta tl tc] 36) = W := ⟨_, rfl⟩
  obtain ⟨W2, hW2⟩ : ∃ W, W1.alloc (.cells #[.string ⟨#[]⟩, .int .i64 0, .slice none 0 0] 36) = W := ⟨_, rfl⟩
  obtain ⟨b1, hb1⟩ := Box3.new w (.string ⟨s.toArray⟩) (.int .i64 n) (.slice ta tl tc) 36
  rw [hW1] at b1 hb1
  obtain ⟨b2, hb2⟩ := Box3.new W1 (.string ⟨#[]⟩) (.int .i64 0) (.slice none 0 0) 36
  rw [hW2] at b2 hb2
  have hs1 : W1.heap.size = w.heap.size + 1 := by rw [← hW1]; simp
  have hs2 : W2.heap.size = w.heap.size + 2 := by rw [← hW2]; simp [hs1]
  have hA2 : W2.heap[w.heap.size + 1]? = some (.cells #[.string ⟨#[]⟩, .int .i64 0, .slice none 0 0] 36) := by rw [← hs1, ← hW2]; exact heap_alloc_new W1 _
  have hfr : ∀ j, W2.frozen? ⟨w.heap.size + 1, j, none⟩ = false := fun j => by simp [World.frozen?, hA2]
  have hB : Below w.heap.size w W2 := hb1.trans (hb2.mono hb1.size)
  rw [hs1] at b2
  obtain ⟨D, hD⟩ : ∃ D, w.heap.size = D := ⟨_, rfl⟩
  rw [hD] at hs1 hs2
  have st : CfSt w W2 D s n ta tl tc t := by
    rw [← hD]
    exact ⟨b1.below hb2, hin.below hB, b2, hfr, hB, by omega⟩
  clear b1 b2 hb1 hb2 hA2 hfr hB hin hsh
  have d0 := st.b.c0
  have d1 := st.b.c1
  have d2 := st.b.c2
  have r0 := st.r.c0
  have r1 := st.r.c1
  have r2 := st.r.c2
  have f0 := st.fr 0
  have f1 := st.fr 1
  have f2 := st.fr 2
  go_enter Try.func32, Try.ntmps32
  go_upto_region 1 with fail
  replace st := st.drew
  go_region_held3 (fun w' => w'.cell? ⟨D, 0, none⟩ = some (.string ⟨s.toArray⟩) ∧ w'.cell? ⟨D, 1, none⟩ = some (.int .i64 n) ∧ w'.cell? ⟨D, 2, none⟩ = some (.slice ta tl tc)) (go_keep) (first | (go_at_call 45; refine (implCopyTree ta tl tc t _ st.n hc hlen HSH.out).mono ?_; rintro e wn ⟨v, rfl, hown, hbn⟩; obtain ⟨_, av, cv, rfl, _⟩ := own_nodes hown; replace hown := own_base hown st.hs; replace st := st.below hbn; replace d0 := st.b.c0; replace d1 := st.b.c1; replace d2 := st.b.c2; replace r0 := st.r.c0; replace r1 := st.r.c1; replace r2 := st.r.c2; replace f0 := st.fr 0; replace f1 := st.fr 1; replace f2 := st.fr 2; clear hbn) | (go_at_call 44; refine (stringsClone s _ hs).mono ?_; rintro e wn ⟨rfl, hbn⟩; (try replace hown := own_below hown hbn); replace st := st.below hbn; replace d0 := st.b.c0; replace d1 := st.b.c1; replace d2 := st.b.c2; replace r0 := st.r.c0; replace r1 := st.r.c1; replace r2 := st.r.c2; replace f0 := st.fr 0; replace f1 := st.fr 1; replace f2 := st.fr 2; clear hbn))
  all_goals
    have HOwn : Hid (wn.ownsRow (D + 2) 70 4 (.slice av t.length cv) t.length (nodesV t)) := hown
    have HBd : Hid (Below D w wn) := st.h
    have hsd : D + 2 ≤ wn.heap.size := st.hs
    clear hown
    go_wp2
    obtain ⟨Y, hY, y0, y1, y2, hg⟩ := set3 (.string ⟨s.toArray⟩) (.int .i64 n) (.slice av t.length cv) r0 r1 r2
    rw [hY]
    refine bodyPost_ret (v := .agg #[.string ⟨s.toArray⟩, .int .i64 n, .slice av t.length cv]) (by simp [results, Try.results32, go_sem, y0, y1, y2]) rfl ?_
    exact ⟨_, _, rfl, by rw [hD]; exact own_base (HOwn.out.kept hg (own_off HOwn.out (by omega))) (by omega), by rw [hD]; exact (HBd.out).grown hg (by omega) (fun k e => by injection e with e; omega)⟩

set_option maxHeartbeats 4000000 in
set_option maxRecDepth 100000 in
theorem implFuncOf (nm : List UInt8) (ia : Option Addr) (il ic : Nat) (fa : Option Addr) (fl fc : Nat) (ims : List (List UInt8)) (fs : List Fn) (q : List UInt8) (w : World) (h : PkOk w nm ia il ic fa fl fc ims fs) (_hq : q.length ≤ 1048576) :
    Calls Try.prog 11 #[.agg #[.string ⟨nm.toArray⟩, .slice ia il ic, .slice fa fl fc], .string ⟨q.toArray⟩] w fun e w' => ∃ v, e = .returned (.tuple #[.agg #[.string ⟨(foundV (nm, ims, fs) q).1.toArray⟩, .int .i64 (foundV (nm, ims, fs) q).2.1, v], .bool (foundB (nm, ims, fs) q)]) ∧ w'.ownsRow w.heap.size 70 4 v (foundV (nm, ims, fs) q).2.2.length (nodesV (foundV (nm, ims, fs) q).2.2) ∧ Below w.heap.size w w' := by
  obtain ⟨st1, hB1⟩ := PkIn.new (w := w) (nm := nm) (ic := ic) (fc := fc) h.i h.f
  obtain ⟨W1, hW1⟩ : ∃ W, w.alloc (.cells #[.string ⟨nm.toArray⟩, .slice ia il ic, .slice fa fl fc] 30) = W := ⟨_, rfl⟩
  obtain ⟨W, hW⟩ : ∃ W, W1.alloc (.cells #[.string ⟨#[]⟩, .int .i64 0, .slice none 0 0] 36) = W := ⟨_, rfl⟩
  rw [hW1] at st1 hB1
  have hs1 : W1.heap.size = w.heap.size + 1 := by rw [← hW1]; simp
  have hs2 : W.heap.size = w.heap.size + 2 := by rw [← hW]; simp [hs1]
  have hbW : Below W1.heap.size W1 W := by rw [← hW]; exact (Below.refl _ _).alloc (Nat.le_refl _) _
  have hB : Below w.heap.size w W := hB1.trans (hbW.mono hB1.size)
  have st := st1.below hbW
  have hR : W.heap[w.heap.size + 1]? = some (.cells #[.string ⟨#[]⟩, .int .i64 0, .slice none 0 0] 36) := by rw [← hs1, ← hW]; exact heap_alloc_new W1 _
  have HC := implPackageOk nm ia il ic fa fl fc ims fs W (h.below hB)
  have hfl := h.fl
  have HFS : Hid (ShortF fs) := h.fs
  obtain ⟨D, hD⟩ : ∃ D, w.heap.size = D := ⟨_, rfl⟩
  rw [hD] at st hB hs1 hs2 hR
  have k0 := st.k0
  have k1 := st.k1
  have k2 := st.k2
  have hfw := h.f
  clear h st1 hB1 hbW
  rcases hp : pkgB (nm, ims, fs) with _ | _
  · have HP : Hid (pkgB (nm, ims, fs) = false) := hp
    have HZ : Hid (foundB (nm, ims, fs) q = false ∧ foundV (nm, ims, fs) q = fn0) := found_no1 q hp
    clear hp
    go_enter Try.func11, Try.ntmps11
    go_wp2_with fail
    refine HC.mono ?_
    rintro e w1 ⟨rfl, hb1⟩
    rw [HP.out]
    obtain ⟨r0, r1, r2, fr⟩ := three hb1 (by omega) hR
    have f0 := fr 0
    have f1 := fr 1
    have f2 := fr 2
    have HBd : Hid (Below D w w1) := hB.trans (hb1.mono (by omega))
    have hsd : D ≤ w1.heap.size := by have := hb1.size; omega
    clear hb1
    clear HC k0 k1 k2 st fr hfw
    go_wp2
    obtain ⟨Y, hY, y0, y1, y2, hg⟩ := set3 (.string ⟨#[]⟩) (.int .i64 0) (.slice none 0 0) r0 r1 r2
    rw [hY]
    refine bodyPost_ret (v := .tuple #[.agg #[.string ⟨#[]⟩, .int .i64 0, .slice none 0 0], .bool false]) (by simp [results, Try.results11, go_sem, y0, y1, y2]) rfl ?_
    exact foZero HZ.out (by rw [hD]; exact (HBd.out).grown hg (by omega) (fun k e => by injection e with e; omega))
  · have HP : Hid (pkgB (nm, ims, fs) = true) := hp
    by_cases h0 : atV fs q < 0
    · have HZ : Hid (foundB (nm, ims, fs) q = false ∧ foundV (nm, ims, fs) q = fn0) := found_no2 h0
      have hm1 : atV fs q = -1 := by
        have ha := atGo_append q fs [] 0
        rcases ha with ⟨e, _⟩ | ⟨e, _⟩
        · exact e
        · have h1 : atV fs q = atGo q fs 0 := rfl
          omega
      have HM : Hid (atV fs q = -1) := hm1
      clear hp h0 hm1
      go_enter Try.func11, Try.ntmps11
      go_wp2_with fail
      refine HC.mono ?_
      rintro e w0 ⟨rfl, hb0⟩
      rw [HP.out]
      have st0 := st.below hb0
      have HC2 := implPlaceOf fa fl fc fs q w0 st0.f hfl
      replace k0 := st0.k0
      replace k1 := st0.k1
      replace k2 := st0.k2
      go_wp2_with fail
      refine HC2.mono ?_
      rintro e w1 ⟨rfl, hb1'⟩
      rw [HM.out]
      have hb1 : Below W.heap.size W w1 := hb0.trans (hb1'.mono hb0.size)
      obtain ⟨r0, r1, r2, fr⟩ := three hb1 (by omega) hR
      have f0 := fr 0
      have f1 := fr 1
      have f2 := fr 2
      have HBd : Hid (Below D w w1) := hB.trans (hb1.mono (by omega))
      have hsd : D ≤ w1.heap.size := by have := hb1.size; omega
      clear hb1 hb0 hb1' st0
      clear HC HC2 k0 k1 k2 st fr hfw
      go_wp2
      obtain ⟨Y, hY, y0, y1, y2, hg⟩ := set3 (.string ⟨#[]⟩) (.int .i64 0) (.slice none 0 0) r0 r1 r2
      rw [hY]
      refine bodyPost_ret (v := .tuple #[.agg #[.string ⟨#[]⟩, .int .i64 0, .slice none 0 0], .bool false]) (by simp [results, Try.results11, go_sem, y0, y1, y2]) rfl ?_
      exact foZero HZ.out (by rw [hD]; exact (HBd.out).grown hg (by omega) (fun k e => by injection e with e; omega))
    · have hz := found_yes (p := (nm, ims, fs)) (s := q) hp (Int.not_lt.1 h0)
      obtain ⟨hj, hjn⟩ := atV_lt (fs := fs) (s := q) (by omega)
      simp only at hz
      obtain ⟨j, hjz⟩ : ∃ j : Nat, (atV fs q).toNat = j := ⟨_, rfl⟩
      have hav : atV fs q = (j : Int) := by omega
      rw [hjz] at hz hj hjn
      have hjl : j < fl := by rw [← st.f.1]; exact hj
      obtain ⟨b, off, rfl, hbl, c0, c1, ta, tl, tc, c2, hnc, hin⟩ := st.f.2 j hjl
      have hbw : b < D := by
        obtain ⟨b', off', e, hbl', _⟩ := hfw.2 j hjl
        injection e with e
        injection e with e
        omega
      have hsh := HFS.out j
      obtain ⟨f, hfe⟩ : ∃ f, fs.getD j fn0 = f := ⟨_, rfl⟩
      rw [hfe] at c0 c1 hin hz hsh
      obtain ⟨s, n, t⟩ := f
      simp only at c0 c1 hin hsh
      have htl : tl ≤ 1048576 := by rw [← hin.1]; exact hsh.2.1
      have HZ : Hid (foundB (nm, ims, fs) q = true ∧ foundV (nm, ims, fs) q = (s, n, t)) := hz
      obtain ⟨r0, r1, r2, fr⟩ := three (Below.refl _ W) (by omega) hR
      have sv : FoSt W w D nm ia il ic b off fl fc ims fs j s n t ta tl tc := ⟨st, c0, c1, c2, hin, r0, r1, r2, fr, hB, by omega⟩
      have HAV : Hid (atV fs q = (j : Int)) := hav
      have HSH : Hid (s.length ≤ 1048576 ∧ t.length ≤ 1048576 ∧ ShortT t) := hsh
      have hjl1 : (j : Int) < (fl : Int) := by omega
      have hj0 : ¬ (j : Int) < 0 := by omega
      have hjm : ((j : Int) == -1) = false := by rw [beq_eq_false_iff_ne]; omega
      have hbn1 : ¬ b = D + 1 := by omega
      have hbn2 : ¬ D + 1 = b := by omega
      have HHS : Hid (W.heap.size = D + 2) := hs2
      clear hp h0 hz hjn hj hjz hav hfe hsh st hB hR hin fr r0 r1 r2 hbl hfw
      go_enter Try.func11, Try.ntmps11
      go_wp2_with fail
      refine HC.mono ?_
      rintro e w0 ⟨rfl, hbn⟩
      rw [HP.out]
      clear HC
      have hsz0 : D + 2 ≤ w0.heap.size := by have := hbn.size; omega
      replace sv := sv.below hbn
      clear hbn
      replace k0 := sv.p.k0
      replace k1 := sv.p.k1
      replace k2 := sv.p.k2
      replace c0 := sv.c0
      replace c1 := sv.c1
      replace c2 := sv.c2
      go_wp2_with fail
      refine (implPlaceOf (some ⟨b, off, none⟩) fl fc fs q _ sv.p.f hfl).mono ?_
      rintro e w1 ⟨rfl, hbn⟩
      rw [HAV.out]
      have hsz1 : D + 2 ≤ w1.heap.size := Nat.le_trans hsz0 hbn.size
      replace sv := sv.below hbn
      clear hbn hsz0
      replace k0 := sv.p.k0
      replace k1 := sv.p.k1
      replace k2 := sv.p.k2
      replace c0 := sv.c0
      replace c1 := sv.c1
      replace c2 := sv.c2
      go_wp2_with fail
      refine (implCopyFunc s n t ta tl tc _ sv.nodes hnc htl HSH.out.2.2 HSH.out.1).mono ?_
      rintro e w2 ⟨av, cv, rfl, hown, hbn⟩
      have HOwn : Hid (w2.ownsRow (D + 2) 70 4 (.slice av t.length cv) t.length (nodesV t)) := own_base hown hsz1
      replace sv := sv.below hbn
      have HBd : Hid (Below D w w2) := sv.b
      have hsd : D ≤ w2.heap.size := sv.bs
      have r0 := sv.r0
      have r1 := sv.r1
      have r2 := sv.r2
      have f0 := sv.fr 0
      have f1 := sv.fr 1
      have f2 := sv.fr 2
      clear hown hbn k0 k1 k2 c0 c1 c2 sv
      go_wp2
      obtain ⟨Y, hY, y0, y1, y2, hg⟩ := set3 (.string ⟨s.toArray⟩) (.int .i64 n) (.slice av t.length cv) r0 r1 r2
      rw [hY]
      refine bodyPost_ret (v := .tuple #[.agg #[.string ⟨s.toArray⟩, .int .i64 n, .slice av t.length cv], .bool true]) (by simp [results, Try.results11, go_sem, y0, y1, y2]) rfl ?_
      exact ⟨_, by rw [HZ.out.1, HZ.out.2], by rw [HZ.out.2, hD]; exact own_base (HOwn.out.kept hg (own_off HOwn.out (by omega))) (by omega), by rw [hD]; exact (HBd.out).grown hg (by omega) (fun k e => by injection e with e; omega)⟩

end Go.Proofs.Ytnhkpncbloojhaa
