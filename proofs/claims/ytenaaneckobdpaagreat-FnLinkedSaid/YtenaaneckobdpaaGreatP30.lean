/-
  Parts of one proof, one behind the other: LkA, LkB, LkC.
-/
import Derived.Test.YtenaaneckobdpaaGreatP29
import Derived.Test.YtenaaneckobdpaaGreatP27
import Derived.Test.YtenaaneckobdpaaGreatP1
import Derived.Maps.OwnSet
import Derived.Maps.Range
import Derived.Maps.RangeWalk
import Derived.Test.YtenaaneckobdpaaGreatP25
namespace Go.Proofs.YtenaaneckobdpaaGreat
open Go.RowKit
section
open Go.RowKit Go.Maps Go.MapKept Go.ChangeMaps
open Go.WideElems (Fit rd rg pl rd_val rd_key rg_of)
def zeI (x : Fc) : Value := .agg #[.string ⟨x.1.toArray⟩, .int .i64 x.2]
def fcD (x : Fc) : DataW Unit := .agg [.lit (.string x.1), .lit (.int .i64 x.2)]
theorem zgx {x y : Fc} (h : zeI x = zeI y) : x = y := by
 obtain ⟨a, s⟩ := x
 obtain ⟨b, t⟩ := y
 simp [zeI] at h
 obtain ⟨rfl, rfl⟩ := h
 rfl
theorem fcD_inj {x y : Fc} (h : fcD x = fcD y) : x = y := by
 obtain ⟨a, s⟩ := x
 obtain ⟨b, t⟩ := y
 simp [fcD] at h
 obtain ⟨rfl, rfl⟩ := h
 rfl
open Classical in
noncomputable def fcR (v : Value) : Option (DataW Unit × List MemPlace) := if h : ∃ x : Fc, v = zeI x then some (fcD h.choose, []) else none
theorem fcR_mk (x : Fc) : fcR (zeI x) = some (fcD x, []) := by
 have h : ∃ y : Fc, zeI x = zeI y := ⟨x, rfl⟩
 unfold fcR
 rw [dif_pos h, ← zgx h.choose_spec]
theorem zk9 {v : Value} {z : DataW Unit × List MemPlace} (h : fcR v = some z) : ∃ x : Fc, v = zeI x ∧ z = (fcD x, []) := by
 unfold fcR at h
 split at h
 ·
  rename_i hx
  obtain ⟨x, rfl⟩ := hx
  have hc : ∃ y : Fc, zeI x = zeI y := ⟨x, rfl⟩
  injection h with h
  exact ⟨x, rfl, by rw [← h, ← zgx hc.choose_spec]⟩
 ·
  cases h
theorem keyS : Keyed Tryz.prog 9 := string_keyed Tryz.underlying9
theorem zeroFc (w : World) : (zeroValue 72).run Tryz.prog w = .ok (zeI ([], 0)) w := by kernel_rfl
theorem zh8 (s : List UInt8) : WideAt.IsKeyLit (.string s) := trivial
structure MapF (D : DataW Unit) (l : List Fc) : Prop where
 tidy : Tidy D
 has : ∀ s, Maps.has D (.string s) = decide (s ∈ l.map (fun c => c.1))
 at_ : ∀ s z, s ∈ l.map (fun c => c.1) → ∃ c ∈ l, c.1 = s ∧ D.atKey (.string s) z = fcD c
 sz : Maps.size D = (zbq (l.map (fun c => c.1))).length
theorem MapF.empty : MapF (.map []) [] := ⟨tidy_empty, fun _ => rfl, (fun _ _ h => by cases h), rfl⟩
theorem MapF.put {D : DataW Unit} {l : List Fc} (h : MapF D l) (c : Fc) (ht : Tidy (D.put (.string c.1) (fcD c))) : MapF (D.put (.string c.1) (fcD c)) (l ++ [c]) := by
 have hi := h.tidy.isMap
 refine ⟨ht, fun s => ?_, fun s z hs => ?_, ?_⟩
 ·
  by_cases e : s = c.1
  ·
   subst e
   rw [has_put_same hi (zh8 _)]
   simp
  ·
   rw [has_put_other (fun e' => e (by injection e')), h.has]
   simp [e]
 ·
  by_cases e : s = c.1
  ·
   subst e
   exact ⟨c, by simp, rfl, by rw [atKey_put_same hi (zh8 _)]⟩
  ·
   rw [atKey_put_other (fun e' => e (by injection e'))]
   have hs' : s ∈ l.map (fun c => c.1) := by
    rw [List.map_append, List.mem_append] at hs
    rcases hs with hs | hs
    ·
     exact hs
    ·
     simp at hs; exact absurd hs e
   obtain ⟨x, hx, e1, e2⟩ := h.at_ s z hs'
   exact ⟨x, List.mem_append_left _ hx, e1, e2⟩
 ·
  rw [size_put h.tidy, h.has, h.sz, List.map_append, List.map_cons, List.map_nil, zdH]
  by_cases e : c.1 ∈ l.map (fun c => c.1)
  ·
   rw [decide_eq_true e, zjp (zbn _) (zbi.2 e)]
   rfl
  ·
   rw [decide_eq_false e, zhI (zbn _) (fun h => e (zbi.1 h))]
   rfl
section
variable {w : World} {b n : Nat} {D : DataW Unit} {l : List Fc}
theorem zge (c : Bool) (hown : w.ownsMap Tryz.prog 9 fcR b n D) (hM : MapF D l) {s : List UInt8} (hl : s.length ≤ maxLen) :
 ∃ x : Fc, (Instr.lookup 49 (.map (some b)) (.string ⟨s.toArray⟩) c).run Tryz.prog w = .ok (if c then .tuple #[.agg #[.string ⟨x.1.toArray⟩, .int .i64 x.2], .bool (decide (s ∈ l.map (fun c => c.1)))] else .agg #[.string ⟨x.1.toArray⟩, .int .i64 x.2]) w ∧ (s ∈ l.map (fun c => c.1) → x ∈ l ∧ x.1 = s) ∧ (s ∉ l.map (fun c => c.1) → x = ([], 0)) := by
 have hkey : keyOf Tryz.prog 9 (.string ⟨s.toArray⟩) = some (.string s) := WideMaps.keyOf_string_mk Tryz.underlying9 (by simpa [ByteArray.size] using hl)
 have hhas := hM.has s
 obtain ⟨es, clock, hb, F, _, rfl⟩ := hown
 rcases Maps.fit_look c keyS Tryz.underlying49 (zeroFc w) hb F hkey with ⟨hrun, _, hat⟩ | ⟨e0, y, _, _, hrun, hRv, hat, _⟩
 ·
  rw [Maps.has_false_of_atKey hat] at hhas
  have hs : s ∉ l.map (fun c => c.1) := of_decide_eq_false hhas.symm
  refine ⟨([], 0), ?_, fun h => absurd h hs, fun _ => rfl⟩
  rw [hrun, ← hhas]
  rfl
 ·
  rw [Maps.has_true_of_atKey hat] at hhas
  have hs : s ∈ l.map (fun c => c.1) := of_decide_eq_true hhas.symm
  obtain ⟨x, hx, hy⟩ := zk9 hRv
  obtain ⟨c', hc', e1, e2⟩ := hM.at_ s .nil hs
  have e3 : x = c' := fcD_inj (by rw [← e2, hat, hy])
  refine ⟨x, ?_, fun _ => ⟨e3 ▸ hc', e3 ▸ e1⟩, fun h => absurd hs h⟩
  rw [hrun, hx, ← hhas]
  rfl
end
set_option maxHeartbeats 1000000 in
set_option maxRecDepth 100000 in
theorem zgs (c : Fc) (b n : Nat) (D : DataW Unit) (l : List Fc) (w : World) (hown : w.ownsMap Tryz.prog 9 fcR b n D) (hM : MapF D l) (hn : n < maxLen) (hc : c.1.length ≤ maxLen) :
 Calls Tryz.prog 43 #[.map (some b), .agg #[.string ⟨c.1.toArray⟩, .int .i64 c.2]] w fun e w' => e = .returned (.tuple #[]) ∧ ∃ D', w'.ownsMap Tryz.prog 9 fcR b (n + 1) D' ∧ MapF D' (l ++ [c]) ∧ w.grownBy w' (some b) := by
 have hkey : keyOf Tryz.prog 9 (.string ⟨c.1.toArray⟩) = some (.string c.1) := WideMaps.keyOf_string_mk Tryz.underlying9 (by simpa [ByteArray.size] using hc)
 obtain ⟨W, hW⟩ : ∃ W, w.alloc (.cells #[.string ⟨c.1.toArray⟩, .int .i64 c.2] 72) = W := ⟨_, rfl⟩
 have hA := heap_alloc_new w (.cells #[.string ⟨c.1.toArray⟩, .int .i64 c.2] 72)
 rw [hW] at hA
 have c0 : W.cell? ⟨w.heap.size, 0, none⟩ = some (.string ⟨c.1.toArray⟩) := by rw [cell_of_row _ _ _ _ _ _ hA]; rfl
 have c1 : W.cell? ⟨w.heap.size, 1, none⟩ = some (.int .i64 c.2) := by rw [cell_of_row _ _ _ _ _ _ hA]; rfl
 have hg0 : w.grownBy W (some b) := by rw [← hW]; exact World.grownBy_alloc w _ _
 have hown1 : W.ownsMap Tryz.prog 9 fcR b n D := by rw [← hW]; exact hown.alloc _
 obtain ⟨w2, hrun, ho2, hg2⟩ := hown1.update keyS Tryz.underlying49 hn hkey (fcR_mk c)
 have hrun' : (Instr.mapUpdate 49 (.map (some b)) (.string ⟨c.1.toArray⟩) (.agg #[.string ⟨c.1.toArray⟩, .int .i64 c.2])).run Tryz.prog W = .ok () w2 := hrun
 have HR : Hid (∃ D', w2.ownsMap Tryz.prog 9 fcR b (n + 1) D' ∧ MapF D' (l ++ [c]) ∧ w.grownBy w2 (some b)) := ⟨_, ho2, hM.put c (ho2.tidy keyS), hg0.trans hg2⟩
 obtain ⟨D0, hD0⟩ : ∃ D0, w.heap.size = D0 := ⟨_, rfl⟩
 rw [hD0] at c0 c1
 clear hA hg0 hown1 hrun ho2 hg2 hown hM
 go_enter Tryz.func43, Tryz.ntmps43
 go_wp2
 go_end0
 exact ⟨rfl, HR.out⟩
end
theorem pick_lt {α : Type} {n : Nat} {p : Nat → α → Prop} [Inhabited α] (h : ∀ j, j < n → ∃ x, p j x) : ∃ f : Nat → α, ∀ j, j < n → p j (f j) := by
 classical
 refine ⟨fun j => if hj : j < n then (h j hj).choose else default, fun j hj => ?_⟩
 show p j (if hj : j < n then (h j hj).choose else default)
 rw [dif_pos hj]
 exact (h j hj).choose_spec
theorem zbp.src {w : World} {a : Option Addr} {len : Nat} {rs : List Rt} (h : zbp w a len rs) (h0 : 0 < len) (cap : Nat) : ∃ xs : List RV, xs.map (·.1) = rs ∧ Src w (.slice a len cap) len 3 (rtsV xs) ∧ ∀ x ∈ xs, zb4 w x.2.1 x.1.2.2.length x.1.2.2 := by
 obtain ⟨b, off, rfl, _⟩ := h.2 0 h0
 have each : ∀ j, j < len → ∃ q : Option Addr × Nat, w.cell? ⟨b, off + j * 3, none⟩ = some (.string ⟨(rs.getD j rt0).1.toArray⟩) ∧ w.cell? ⟨b, off + j * 3 + 1, none⟩ = some (.int .i64 (rs.getD j rt0).2.1) ∧ w.cell? ⟨b, off + j * 3 + 2, none⟩ = some (.slice q.1 (rs.getD j rt0).2.2.length q.2) ∧ zb4 w q.1 (rs.getD j rt0).2.2.length (rs.getD j rt0).2.2 := fun j hj => by
  obtain ⟨b', off', e, _, c0, c1, ca, cl, cc, c2, hn⟩ := h.2 j hj
  injection e with e
  injection e with e1 e2 _
  subst e1 e2
  obtain rfl : (rs.getD j rt0).2.2.length = cl := hn.1
  exact ⟨(ca, cc), c0, c1, c2, hn⟩
 obtain ⟨f, hf⟩ := pick_lt each
 have hxl : ((List.range len).map (fun j => ((rs.getD j rt0, f j) : RV))).length = len := by simp
 have hxg : ∀ j, j < len → ((List.range len).map (fun j => ((rs.getD j rt0, f j) : RV))).getD j rv0 = (rs.getD j rt0, f j) := fun j hj => by simp [List.getD, hj]
 refine ⟨(List.range len).map (fun j => (rs.getD j rt0, f j)), ?_, ⟨by rw [zcT, hxl], zdo _, Or.inr ⟨_, cap, rfl, fun j u hu => ?_⟩⟩, fun x hx => ?_⟩
 ·
  refine List.ext_getElem (by simp [h.1]) (fun j h1 h2 => ?_)
  simp [List.getD, h2]
 ·
  have hj : j < len * 3 := by have := (List.getElem?_eq_some_iff.1 hu).1; rw [zcT, hxl] at this; exact this
  obtain ⟨v0, v1, v2⟩ := zbS ((List.range len).map (fun j => ((rs.getD j rt0, f j) : RV))) (j / 3) (by rw [hxl]; omega)
  rw [hxg (j / 3) (by omega)] at v0 v1 v2
  obtain ⟨c0, c1, c2, _⟩ := hf (j / 3) (by omega)
  have he : ∀ i, (⟨b, off, none⟩ : Addr).add i = ⟨b, off + i, none⟩ := fun i => by unfold Addr.add; split <;> simp_all
  rw [he]
  have h3 : j % 3 = 0 ∨ j % 3 = 1 ∨ j % 3 = 2 := by omega
  rcases h3 with h' | h' | h'
  ·
   have ej : j / 3 * 3 = j := by omega
   rw [ej] at v0 c0
   rw [v0] at hu
   injection hu with hu
   rw [← hu]; exact c0
  ·
   have ej : j / 3 * 3 + 1 = j := by omega
   rw [ej] at v1
   rw [Nat.add_assoc, ej] at c1
   rw [v1] at hu
   injection hu with hu
   rw [← hu]; exact c1
  ·
   have ej : j / 3 * 3 + 2 = j := by omega
   rw [ej] at v2
   rw [Nat.add_assoc, ej] at c2
   rw [v2] at hu
   injection hu with hu
   rw [← hu]; exact c2
 ·
  obtain ⟨j, hj, rfl⟩ := List.mem_map.1 hx
  exact (hf j (List.mem_range.1 hj)).2.2.2
structure zdm (w X : World) (v : Value) (xs : List RV) : Prop where
 row : X.ownsRow w.heap.size 41 3 v xs.length (rtsV xs)
 cod : ∀ x ∈ xs, zb4 w x.2.1 x.1.2.2.length x.1.2.2
 b : Below w.heap.size w X
theorem zdm.below {w X Y : World} {v : Value} {xs : List RV} (h : zdm w X v xs) (hb : Below X.heap.size X Y) : zdm w Y v xs := ⟨za6 h.row hb, h.cod, h.b.trans (hb.mono h.b.size)⟩
theorem zdm.in {w X : World} {g cp : Nat} {xs : List RV} (h : zdm w X (.slice (some ⟨g, 0, none⟩) xs.length cp) xs) : zbp X (some ⟨g, 0, none⟩) xs.length (xs.map (·.1)) := by
 refine ⟨by simp, fun j hj => ?_⟩
 obtain ⟨v0, v1, v2⟩ := zbS xs j hj
 have hc := fun k (hk : k < xs.length * 3) => World.ownsRow.cellAt h.row k hk
 have hmem : xs.getD j rv0 ∈ xs := by rw [List.getD_eq_getElem?_getD, List.getElem?_eq_getElem hj]; exact List.getElem_mem hj
 refine ⟨g, 0, rfl, (h.row.lt g rfl).2, ?_, ?_, (xs.getD j rv0).2.1, (xs.getD j rv0).1.2.2.length, (xs.getD j rv0).2.2, ?_, ?_⟩
 ·
  rw [Nat.zero_add, hc _ (by omega), v0, zb2]
 ·
  rw [Nat.zero_add, hc _ (by omega), v1, zb2]
 ·
  rw [Nat.zero_add, hc _ (by omega), v2]; rfl
 ·
  rw [zb2]
  exact (h.cod _ hmem).below h.b
set_option maxHeartbeats 4000000 in
set_option maxRecDepth 100000 in
theorem zbX (a : Option Addr) (len cap : Nat) (os : List Ob) (w : World) (h : zaY w a len cap os) (hB : zb1 os = true) :
 Calls Tryz.prog 19 #[.slice a len cap] w fun e w' => ∃ g c xs, e = .returned (.slice (some ⟨g, 0, none⟩) (za2 os).length c) ∧ xs.map (·.1) = za2 os ∧ zdm w w' (.slice (some ⟨g, 0, none⟩) xs.length c) xs := by
 have hl := h.hlen
 have hsm := h.small
 have HI : Hid (zaY w a len cap os) := h
 have HOb : Hid (∀ k, k < len → za2 (os.take (k + 1)) = za2 (os.take k) ++ (os.getD k ob0).2.2 ∧ (1 ≤ (os.getD k ob0).2.2.length ∧ (os.getD k ob0).2.2.length ≤ 8) ∧ (za2 (os.take k)).length ≤ 64) := fun k hk => by
  have hm := (zam hB).1
  have h8 := (zam hB).2
  refine ⟨zcU os k (by omega), (zbD (hm (os.getD k ob0) (by rw [List.getD_eq_getElem?_getD, List.getElem?_eq_getElem (by omega)]; exact List.getElem_mem (by omega)))).l, ?_⟩
  have := (zbs (os := os.take k) (fun o ho => hm o (List.mem_of_mem_take ho))).2
  rw [List.length_take] at this
  omega
 have HX0 : Hid (zdm w (w.alloc (.cells #[] 41)) (.slice (some ⟨w.heap.size, 0, none⟩) ([] : List RV).length 0) []) := ⟨World.ownsRow_lit w #[] 0 (Nat.le_refl _) (by decide) rfl, (fun x hx => by cases hx), (Below.refl _ _).alloc (Nat.le_refl _) _⟩
 clear h
 go_enter Tryz.func19, Tryz.ntmps19
 go_wp2
 go_loopw [3, 9] (fun vv iv wr => ∃ (k g c : Nat) (xs : List RV), iv = .int .i64 (k : Int) ∧ k ≤ len ∧ vv = .slice (some ⟨g, 0, none⟩) xs.length c ∧ Hid (xs.map (·.1) = za2 (os.take k)) ∧ Hid (zdm w wr (.slice (some ⟨g, 0, none⟩) xs.length c) xs)) (fun _ iv _ => len - (intOf iv).toNat)
 case atStart => exact ⟨0, w.heap.size, 0, [], rfl, Nat.zero_le _, rfl, (by simp [za2] : ([] : List RV).map (·.1) = za2 (os.take 0)), HX0⟩
 case round =>
  obtain ⟨k, g, c, xs, rfl, hk, rfl, HM, HX⟩ := hrel
  clear HX0
  by_cases hlt : (k : Int) < (len : Int)
  ·
   obtain ⟨b, off, rfl, hbl, c0, ia, il, ic, fa, fl, fc, c1, c2, hok⟩ := (HI.out.below HX.out.b).each k (by omega)
   obtain ⟨hst, hle, h64⟩ := HOb.out k (by omega)
   obtain ⟨b', off', e', _, c0', ia', il', ic', fa', fl', fc', c1', c2', hok'⟩ := HI.out.each k (by omega)
   injection e' with e'
   injection e' with e1 e2 _
   subst e1 e2
   have hf := (HX.out.b.cell (p := ⟨b, off + k * 3 + 2, none⟩) (World.block_lt_of_cell? w ⟨b, off + k * 3 + 2, none⟩ c2')).trans c2'
   rw [c2] at hf
   injection hf with hf
   injection hf with f1 f2 f3
   subst f1 f2 f3
   obtain ⟨o, ho⟩ : ∃ o, os.getD k ob0 = o := ⟨_, rfl⟩
   rw [ho] at c0 hok hok' hst hle
   obtain ⟨nm, ims, rs⟩ := o
   simp only at c0 hok hok' hst hle
   obtain rfl : rs.length = fl := hok.r.c.1
   obtain ⟨ys, hys, hsrc, hcod⟩ := hok'.r.c.in.src (by omega) fc
   obtain ⟨Y, hY⟩ : ∃ Y, wr.alloc (.cells #[.string ⟨nm.toArray⟩, .slice ia il ic, .slice fa rs.length fc] 37) = Y := ⟨_, rfl⟩
   have hb : Below wr.heap.size wr Y := by rw [← hY]; exact (Below.refl _ _).alloc (Nat.le_refl _) _
   have hR : Y.heap[wr.heap.size]? = some (.cells #[.string ⟨nm.toArray⟩, .slice ia il ic, .slice fa rs.length fc] 37) := by rw [← hY]; exact heap_alloc_new wr _
   have hX1 := HX.out.below hb
   have hsz := hX1.b.size
   have hsY : wr.heap.size < Y.heap.size := by rw [← hY]; simp
   have hsrcY : Src Y (.slice fa rs.length fc) rs.length 3 (rtsV ys) := by
    obtain ⟨h1, h2, ⟨e, h3⟩ | ⟨ad, c', e, h3⟩⟩ := hsrc
    ·
     exact ⟨h1, h2, Or.inl ⟨e, h3⟩⟩
    ·
     exact ⟨h1, h2, Or.inr ⟨ad, c', e, fun j u hu => by
      have h4 := h3 j u hu
      rw [hX1.b.cell (World.block_lt_of_cell? w _ h4)]; exact h4⟩⟩
   have hxl : xs.length = (za2 (os.take k)).length := by rw [← HM.out, List.length_map]
   obtain ⟨i0, hi, hz0, hz1, hz2⟩ := info_parts zgn
   obtain ⟨v', Z, hrun, hown, hg, hnn⟩ := zal (P := Tryz.prog) Y w.heap.size 26 26 41 i0 _ 3 48 Tryz.underlying26 hi hz0 hz1 hz2 rfl (by decide) _ _ _ hX1.row _ _ _ hsrcY (by unfold maxLen; omega) (by omega) hsz
   rw [← zcz] at hown
   have hyl : ys.length = rs.length := by rw [← hys, List.length_map]
   have hxyl : xs.length + rs.length = (xs ++ ys).length := by rw [List.length_append, hyl]
   rw [hxyl] at hown
   obtain ⟨g', c', rfl⟩ := za9 hown (by omega)
   have HX2 : Hid (zdm w Z (.slice (some ⟨g', 0, none⟩) (xs ++ ys).length c') (xs ++ ys)) := ⟨hown, fun x hx => by
    rcases List.mem_append.1 hx with e | e
    ·
     exact HX.out.cod x e
    ·
     exact hcod x e, hX1.b.grown hg hX1.b.size (fun q e => (hX1.row.lt q e).1)⟩
   have HM2 : Hid ((xs ++ ys).map (·.1) = za2 (os.take (k + 1))) := by exact (by rw [List.map_append, HM.out, hys, hst] : (xs ++ ys).map (·.1) = za2 (os.take (k + 1)))
   obtain ⟨E, hE⟩ : ∃ E, wr.heap.size = E := ⟨_, rfl⟩
   obtain ⟨y0, y1, y2, _⟩ := zcG (Below.refl _ Y) hsY hR
   rw [hE] at y0 y1 y2
   generalize xs ++ ys = zs at HX2 HM2 hrun
   obtain ⟨nz, hnz⟩ : ∃ nz, zs.length = nz := ⟨_, rfl⟩
   have HNZ : Hid (zs.length = nz) := hnz
   rw [hnz] at hrun
   clear hown hg hnn hX1 hsrc hsrcY hcod hok hok' hst ho hys hyl hxyl hxl hb hR hnz HX HM hsz
   go_wp2_with (at_builtin; refine za0 rfl (.tmp 13) (.tmp 15) 26 rfl _ _ _ rfl rfl hrun ?_; clear hrun)
   go_wp2
   go_roundw
   case rel => exact ⟨k + 1, g', c', zs, by go_num, by omega, by rw [HNZ.out], HM2, HX2⟩
   case measure => simp [intOf]; omega
  ·
   obtain rfl : k = len := by omega
   have HM2 : Hid (xs.map (·.1) = za2 os) := by exact (by rw [HM.out, List.take_of_length_le (by omega)] : xs.map (·.1) = za2 os)
   have HL : Hid (xs.length = (za2 os).length) := by exact (by rw [← HM2.out, List.length_map] : xs.length = (za2 os).length)
   go_wp2
   go_ret
   exact ⟨g, c, by rw [← HL.out]; rfl, xs, HM2.out, HX.out⟩
section
open Go.RowKit Go.Maps
def zbg (rs : List Rt) : List Fc := rs.map (fun r => (r.1, r.2.1))
theorem zbV (rs : List Rt) : (zbg rs).map (fun c => c.1) = zaw rs := by unfold zbg zaw; rw [List.map_map]; rfl
theorem ziF (rs : List Rt) (k : Nat) (hk : k < rs.length) : zbg (rs.take (k + 1)) = zbg (rs.take k) ++ [((rs.getD k rt0).1, (rs.getD k rt0).2.1)] := by
 unfold zbg
 rw [List.take_succ_eq_append_getElem hk, List.map_append, List.getD_eq_getElem?_getD, List.getElem?_eq_getElem hk]
 rfl
set_option maxHeartbeats 4000000 in
set_option maxRecDepth 100000 in
theorem zde (a : Option Addr) (len cap : Nat) (rs : List Rt) (w : World) (hin : zbp w a len rs) (hlen : len ≤ 1048576) (hsh : ∀ j, (rs.getD j rt0).1.length ≤ 1048576) :
 Calls Tryz.prog 23 #[.slice a len cap] w fun e w' => ∃ b n D, e = .returned (.map (some b)) ∧ w.heap.size ≤ b ∧ n ≤ 1048576 ∧ w'.ownsMap Tryz.prog 9 fcR b n D ∧ MapF D (zbg rs) ∧ Below w.heap.size w w' := by
 have hl := hin.1
 have HI : Hid (zbp w a len rs) := hin
 have HSh : Hid (∀ j, (rs.getD j rt0).1.length ≤ 1048576) := hsh
 have HX0 : Hid ((w.alloc (.map #[] 0)).ownsMap Tryz.prog 9 fcR w.heap.size 0 (.map []) ∧ MapF (.map []) (zbg (rs.take 0)) ∧ Below w.heap.size w (w.alloc (.map #[] 0))) := ⟨World.ownsMap_made w _ _ _, by simpa [zbg] using MapF.empty, (Below.refl _ _).alloc (Nat.le_refl _) _⟩
 have HTk : Hid (∀ k, k < len → zbg (rs.take (k + 1)) = zbg (rs.take k) ++ [((rs.getD k rt0).1, (rs.getD k rt0).2.1)]) := fun k hk => ziF rs k (by omega)
 clear hin hsh
 have hmm := @run_makeMap Tryz.prog
 go_enter Tryz.func23, Tryz.ntmps23
 go_wp2
 go_loopw [9] (fun iv wr => ∃ (k : Nat) (D : DataW Unit), iv = .int .i64 (k : Int) ∧ k ≤ len ∧ Hid (wr.ownsMap Tryz.prog 9 fcR w.heap.size k D ∧ MapF D (zbg (rs.take k)) ∧ Below w.heap.size w wr)) (fun iv _ => len - (intOf iv).toNat)
 case atStart => exact ⟨0, .map [], rfl, Nat.zero_le _, HX0⟩
 case round =>
  obtain ⟨k, D, rfl, hk, HX⟩ := hrel
  clear HX0
  by_cases hlt : (k : Int) < (len : Int)
  ·
   obtain ⟨b, off, rfl, hbl, c0, c1, ca, cl, cc, c2, _⟩ := (HI.out.below HX.out.2.2).2 k (by omega)
   have hst := HTk.out k (by omega)
   have hsn := HSh.out k
   obtain ⟨r, hr⟩ : ∃ r, rs.getD k rt0 = r := ⟨_, rfl⟩
   rw [hr] at c0 c1 hst hsn
   obtain ⟨nm, ar, cd⟩ := r
   simp only at c0 c1 hst hsn
   obtain ⟨Y, hY⟩ : ∃ Y, wr.alloc (.cells #[.string ⟨nm.toArray⟩, .int .i64 ar, .slice ca cl cc] 41) = Y := ⟨_, rfl⟩
   have hb : Below wr.heap.size wr Y := by rw [← hY]; exact (Below.refl _ _).alloc (Nat.le_refl _) _
   have hsY : wr.heap.size < Y.heap.size := by rw [← hY]; simp
   have hR : Y.heap[wr.heap.size]? = some (.cells #[.string ⟨nm.toArray⟩, .int .i64 ar, .slice ca cl cc] 41) := by rw [← hY]; exact heap_alloc_new wr _
   have hoY : Y.ownsMap Tryz.prog 9 fcR w.heap.size k D := by rw [← hY]; exact HX.out.1.alloc _
   have hBY : Below w.heap.size w Y := HX.out.2.2.trans (hb.mono HX.out.2.2.size)
   have HBY : Hid (Below w.heap.size w Y) := hBY
   have HC : Hid (_) := zgs (nm, ar) w.heap.size k D (zbg (rs.take k)) Y hoY HX.out.2.1 (by unfold maxLen; omega) (by show nm.length ≤ maxLen; unfold maxLen; omega)
   rw [← hst] at HC
   obtain ⟨y0, y1, y2, _⟩ := zcG (Below.refl _ Y) hsY hR
   obtain ⟨E, hE⟩ : ∃ E, wr.heap.size = E := ⟨_, rfl⟩
   rw [hE] at y0 y1 y2
   clear hst hr hb hR hoY hBY hsn HX
   go_wp2_with fail
   refine Calls.mono HC.out ?_
   rintro e w1 ⟨rfl, D', h1, h2, h3⟩
   have HX2 : Hid (w1.ownsMap Tryz.prog 9 fcR w.heap.size (k + 1) D' ∧ MapF D' (zbg (rs.take (k + 1))) ∧ Below w.heap.size w w1) := ⟨h1, h2, HBY.out.grown h3 HBY.out.size (fun q e => by injection e with e; omega)⟩
   clear h1 h2 h3 HC
   go_wp2
   go_roundw
   case rel => exact ⟨k + 1, D', by go_num, by omega, HX2⟩
   case measure => simp [intOf]; omega
  ·
   obtain rfl : k = len := by omega
   have HT : Hid (rs.take k = rs) := List.take_of_length_le (by omega)
   have hx := HX.out
   rw [HT.out] at hx
   have HX2 : Hid (wr.ownsMap Tryz.prog 9 fcR w.heap.size k D ∧ MapF D (zbg rs) ∧ Below w.heap.size w wr) := hx
   clear hx HX
   go_wp2
   go_ret
   exact ⟨w.heap.size, rfl, Nat.le_refl _, k, hlen, D, HX2.out⟩
def fcV : List Fc → List Value
 | [] => []
 | c :: r => .string ⟨c.1.toArray⟩ :: .int .i64 c.2 :: fcV r
theorem ziG (x y : List Fc) : fcV (x ++ y) = fcV x ++ fcV y := by
 induction x with
 | nil => rfl
 | cons c r ih => simp [fcV, ih]
theorem fcV_one (cs : List Fc) : ∀ u ∈ fcV cs, u.oneCell' = true := by
 induction cs with
 | nil => intro u hu; cases hu
 | cons c r ih =>
  intro u hu
  simp only [fcV, List.mem_cons] at hu
  rcases hu with rfl | rfl | hu
  ·
   rfl
  ·
   rfl
  ·
   exact ih u hu
def fc0 : Fc := ([], 0)
theorem fcV_at (cs : List Fc) (j : Nat) (hj : j < cs.length) : (fcV cs)[j * 2]? = some (.string ⟨(cs.getD j fc0).1.toArray⟩) ∧ (fcV cs)[j * 2 + 1]? = some (.int .i64 (cs.getD j fc0).2) := by
 induction cs generalizing j with
 | nil => simp at hj
 | cons c r ih =>
  cases j with
  | zero => simp [fcV]
  | succ j =>
   obtain ⟨h0, h1⟩ := ih j (by simpa using hj)
   refine ⟨?_, ?_⟩
   ·
    rw [show (j + 1) * 2 = j * 2 + 1 + 1 by omega]; simpa [fcV] using h0
   ·
    rw [show (j + 1) * 2 + 1 = j * 2 + 1 + 1 + 1 by omega]; simpa [fcV] using h1
theorem infoFc : (Tryz.prog.info? 72).map (fun i => (i.zero, i.size, i.bytes)) = some (some (.agg #[.string ⟨#[]⟩, .int .i64 0]), 2, 24) := by kernel_rfl
theorem push_fc {X : World} {B g cp : Nat} {cs : List Fc} (h : X.ownsRow B 72 2 (.slice (some ⟨g, 0, none⟩) cs.length cp) cs.length (fcV cs)) (c : Fc) (hB : B ≤ X.heap.size) (hn : cs.length ≤ 1048576000) :
 ∃ g' c' Y, (Builtin.append_ #[53, 53] 53 #[.slice (some ⟨g, 0, none⟩) cs.length cp, .slice (some ⟨X.heap.size, 0, none⟩) 1 1]).run Tryz.prog (X.alloc (.cells #[.string ⟨c.1.toArray⟩, .int .i64 c.2] 72)) = .ok (.slice (some ⟨g', 0, none⟩) (cs.length + 1) c') Y ∧ Y.ownsRow B 72 2 (.slice (some ⟨g', 0, none⟩) (cs.length + 1) c') (cs.length + 1) (fcV (cs ++ [c])) ∧ X.grownBy Y (some g) := by
 obtain ⟨i0, hi, hz0, hz1, hz2⟩ := info_parts infoFc
 have hA := heap_alloc_new X (.cells #[.string ⟨c.1.toArray⟩, .int .i64 c.2] 72)
 have hsrc : Src (X.alloc (.cells #[.string ⟨c.1.toArray⟩, .int .i64 c.2] 72)) (.slice (some ⟨X.heap.size, 0, none⟩) 1 1) 1 2 (fcV [c]) := by
  refine ⟨rfl, fcV_one _, Or.inr ⟨_, 1, rfl, fun j u hu => ?_⟩⟩
  have he : ∀ i, (⟨X.heap.size, 0, none⟩ : Addr).add i = ⟨X.heap.size, 0 + i, none⟩ := fun i => by unfold Addr.add; split <;> simp_all
  rw [he, Nat.zero_add]
  match j, hu with
  | 0, hu => simp [fcV] at hu; subst hu; rw [cell_of_row _ _ _ _ _ _ hA]; rfl
  | 1, hu => simp [fcV] at hu; subst hu; rw [cell_of_row _ _ _ _ _ _ hA]; rfl
  | j + 2, hu => simp [fcV] at hu
 obtain ⟨v', Y, hrun, hown, hg, _⟩ := zal (P := Tryz.prog) (X.alloc (.cells #[.string ⟨c.1.toArray⟩, .int .i64 c.2] 72)) B 53 53 72 i0 _ 2 24 Tryz.underlying53 hi hz0 hz1 hz2 rfl (by decide) _ _ _ (h.alloc _) _ 1 (fcV [c]) hsrc (by unfold maxLen; omega) (by omega) (by simp; omega)
 rw [← ziG] at hown
 obtain ⟨g', c', rfl⟩ := za9 hown (by omega)
 exact ⟨g', c', Y, hrun, hown, (World.grownBy_alloc X _ _).trans hg⟩
set_option maxHeartbeats 8000000 in
set_option maxRecDepth 100000 in
theorem zeE (a : Option Addr) (len cap : Nat) (rs : List Rt) (w : World) (hin : zbp w a len rs) (hlen : len ≤ 64) (hsh : ∀ j, (rs.getD j rt0).2.2.length ≤ 1048576) :
 Calls Tryz.prog 26 #[.slice a len cap] w fun e w' => ∃ g c, e = .returned (.slice (some ⟨g, 0, none⟩) (za1 rs).length c) ∧ w'.ownsRow w.heap.size 72 2 (.slice (some ⟨g, 0, none⟩) (za1 rs).length c) (za1 rs).length (fcV (za1 rs)) ∧ Below w.heap.size w w' := by
 have hl := hin.1
 have HI : Hid (zbp w a len rs) := hin
 have HSh : Hid (∀ j, (rs.getD j rt0).2.2.length ≤ 1048576) := hsh
 have HX0 : Hid ((w.alloc (.cells #[] 72)).ownsRow w.heap.size 72 2 (.slice (some ⟨w.heap.size, 0, none⟩) 0 0) 0 (fcV []) ∧ Below w.heap.size w (w.alloc (.cells #[] 72))) := ⟨World.ownsRow_lit w #[] 0 (Nat.le_refl _) (by decide) rfl, (Below.refl _ _).alloc (Nat.le_refl _) _⟩
 have HTk : Hid (∀ k, k < len → za1 (rs.take (k + 1)) = za1 (rs.take k) ++ calR (rs.getD k rt0).2.2) := fun k hk => ze5 rs k (by omega)
 have HAll : Hid (za1 (rs.take len) = za1 rs) := by exact (by rw [List.take_of_length_le (by omega)] : za1 (rs.take len) = za1 rs)
 have HZ : Hid (za1 (rs.take 0) = []) := by exact (by simp [za1] : za1 (rs.take 0) = [])
 clear hin hsh
 go_enter Tryz.func26, Tryz.ntmps26
 go_wp2
 go_loopw [3, 11] (fun vv iv wr => ∃ (k g c : Nat) (cs : List Fc), iv = .int .i64 (k : Int) ∧ k ≤ len ∧ vv = .slice (some ⟨g, 0, none⟩) cs.length c ∧ cs.length ≤ 1048576 * k ∧ Hid (cs = za1 (rs.take k)) ∧ Hid (wr.ownsRow w.heap.size 72 2 (.slice (some ⟨g, 0, none⟩) cs.length c) cs.length (fcV cs) ∧ Below w.heap.size w wr)) (fun _ iv _ => len - (intOf iv).toNat)
 case atStart => exact ⟨0, w.heap.size, 0, [], rfl, Nat.zero_le _, rfl, by simp, HZ.out.symm, HX0⟩
 case round =>
  obtain ⟨k, g, c, cs, rfl, hk, rfl, hcl, HM, HX⟩ := hrel
  clear HX0
  by_cases hlt : (k : Int) < (len : Int)
  ·
   obtain ⟨b, off, rfl, hbl, c0, c1, ca, cl, cc, c2, hins⟩ := (HI.out.below HX.out.2).2 k (by omega)
   have hst := HTk.out k (by omega)
   have hsn := HSh.out k
   obtain ⟨r, hr⟩ : ∃ r, rs.getD k rt0 = r := ⟨_, rfl⟩
   rw [hr] at c0 c1 hst hsn hins
   obtain ⟨nm, ar, cd⟩ := r
   simp only at c0 c1 hst hsn hins
   obtain rfl : cd.length = cl := hins.1
   obtain ⟨Y, hY⟩ : ∃ Y, wr.alloc (.cells #[.string ⟨nm.toArray⟩, .int .i64 ar, .slice ca cd.length cc] 41) = Y := ⟨_, rfl⟩
   have hb : Below wr.heap.size wr Y := by rw [← hY]; exact (Below.refl _ _).alloc (Nat.le_refl _) _
   have hsY : wr.heap.size < Y.heap.size := by rw [← hY]; simp
   have hR : Y.heap[wr.heap.size]? = some (.cells #[.string ⟨nm.toArray⟩, .int .i64 ar, .slice ca cd.length cc] 41) := by rw [← hY]; exact heap_alloc_new wr _
   have HX1 : Hid (Y.ownsRow w.heap.size 72 2 (.slice (some ⟨g, 0, none⟩) cs.length c) cs.length (fcV cs) ∧ Below w.heap.size w Y) := ⟨za6 HX.out.1 hb, HX.out.2.trans (hb.mono HX.out.2.size)⟩
   have HIn : Hid (zb4 w ca cd.length cd) := by
    obtain ⟨b', off', e', _, _, _, ca', cl', cc', c2', hins'⟩ := HI.out.2 k (by omega)
    injection e' with e'
    injection e' with e1 e2 _
    subst e1 e2
    have hf := (HX.out.2.cell (p := ⟨b, off + k * 3 + 2, none⟩) (World.block_lt_of_cell? w ⟨b, off + k * 3 + 2, none⟩ c2')).trans c2'
    rw [c2] at hf
    injection hf with hf
    injection hf with f1 f2 f3
    subst f1 f2 f3
    rw [hr] at hins'
    exact hins'
   obtain ⟨y0, y1, y2, _⟩ := zcG (Below.refl _ Y) hsY hR
   obtain ⟨E, hE⟩ : ∃ E, wr.heap.size = E := ⟨_, rfl⟩
   rw [hE] at y0 y1 y2
   have HTk2 : Hid (∀ j, j < cd.length → calR (cd.take (j + 1)) = if (cd.getD j in0).1 = 9 then calR (cd.take j) ++ [((cd.getD j in0).2.2.2.2, (cd.getD j in0).2.2.1)] else calR (cd.take j)) := fun j hj => zgF cd j hj
   have HEn : Hid (calR (cd.take cd.length) = calR cd) := by exact (by rw [List.take_of_length_le (Nat.le_refl _)] : calR (cd.take cd.length) = calR cd)
   have HZ2 : Hid (cs ++ calR (cd.take 0) = cs) := by exact (by simp [calR] : cs ++ calR (cd.take 0) = cs)
   have HST : Hid (za1 (rs.take (k + 1)) = cs ++ calR cd) := by exact (by rw [hst, HM.out] : za1 (rs.take (k + 1)) = cs ++ calR cd)
   obtain ⟨m, hm⟩ : ∃ m, cd.length = m := ⟨_, rfl⟩
   rw [hm] at HIn HTk2 HEn hsn y2 c2 hY
   clear hst hr hb hR hins HX HM hm
   go_wp2
   go_loopw [3, 18] (fun vv jv wx => ∃ (j g c : Nat) (ds : List Fc), jv = .int .i64 (j : Int) ∧ j ≤ m ∧ vv = .slice (some ⟨g, 0, none⟩) ds.length c ∧ ds.length ≤ cs.length + j ∧ Hid (ds = cs ++ calR (cd.take j)) ∧ Hid (wx.ownsRow w.heap.size 72 2 (.slice (some ⟨g, 0, none⟩) ds.length c) ds.length (fcV ds) ∧ Below w.heap.size w wx)) (fun _ jv _ => m - (intOf jv).toNat)
   case atStart => exact ⟨0, g, c, cs, rfl, Nat.zero_le _, rfl, by omega, HZ2.out.symm, HX1⟩
   case round =>
    clear HX1
    obtain ⟨j, g, c, ds, rfl, hj, rfl, hdl, HM, HX⟩ := hrel
    by_cases hjm : (j : Int) < (m : Int)
    ·
     obtain ⟨b2, off2, rfl, hbl2, d0, d1, d2, d3, d4⟩ := (HIn.out.below HX.out.2).2 j (by omega)
     have hst := HTk2.out j (by omega)
     obtain ⟨i, hi⟩ : ∃ i, cd.getD j in0 = i := ⟨_, rfl⟩
     rw [hi] at d0 d1 d2 d3 d4 hst
     obtain ⟨ik, iR, iA, iB, inm⟩ := i
     simp only at d0 d1 d2 d3 d4 hst
     obtain ⟨Z, hZ⟩ : ∃ Z, wr.alloc (.cells #[.int .i64 ik, .int .i64 iR, .int .i64 iA, .int .i64 iB, .string ⟨inm.toArray⟩] 58) = Z := ⟨_, rfl⟩
     have hb : Below wr.heap.size wr Z := by rw [← hZ]; exact (Below.refl _ _).alloc (Nat.le_refl _) _
     have hR : Z.heap[wr.heap.size]? = some (.cells #[.int .i64 ik, .int .i64 iR, .int .i64 iA, .int .i64 iB, .string ⟨inm.toArray⟩] 58) := by rw [← hZ]; exact heap_alloc_new wr _
     have HX1 : Hid (Z.ownsRow w.heap.size 72 2 (.slice (some ⟨g, 0, none⟩) ds.length c) ds.length (fcV ds) ∧ Below w.heap.size w Z) := ⟨za6 HX.out.1 hb, HX.out.2.trans (hb.mono HX.out.2.size)⟩
     have z0 : Z.cell? ⟨wr.heap.size, 0, none⟩ = some (.int .i64 ik) := by rw [cell_of_row _ _ _ _ _ _ hR]; rfl
     have z2 : Z.cell? ⟨wr.heap.size, 2, none⟩ = some (.int .i64 iA) := by rw [cell_of_row _ _ _ _ _ _ hR]; rfl
     have z4 : Z.cell? ⟨wr.heap.size, 4, none⟩ = some (.string ⟨inm.toArray⟩) := by rw [cell_of_row _ _ _ _ _ _ hR]; rfl
     obtain ⟨F, hF⟩ : ∃ F, wr.heap.size = F := ⟨_, rfl⟩
     rw [hF] at z0 z2 z4
     by_cases h9 : ik = 9
     ·
      subst h9
      rw [if_pos rfl] at hst
      obtain ⟨g', c', V, hrun, hown, hg⟩ := push_fc HX1.out.1 (inm, iA) HX1.out.2.size (by omega)
      have hdsl : (ds ++ [((inm, iA) : Fc)]).length = ds.length + 1 := by simp
      have HM2 : Hid (ds ++ [((inm, iA) : Fc)] = cs ++ calR (cd.take (j + 1))) := by exact (by rw [hst, HM.out, List.append_assoc] : ds ++ [((inm, iA) : Fc)] = cs ++ calR (cd.take (j + 1)))
      have HX2 : Hid (V.ownsRow w.heap.size 72 2 (.slice (some ⟨g', 0, none⟩) (ds ++ [((inm, iA) : Fc)]).length c') (ds ++ [((inm, iA) : Fc)]).length (fcV (ds ++ [((inm, iA) : Fc)])) ∧ Below w.heap.size w V) := ⟨by rw [hdsl]; exact hown, HX1.out.2.grown hg HX1.out.2.size (fun q e => by injection e with e; have := (HX1.out.1.lt g rfl).1; omega)⟩
      simp only at hrun
      have HDL : Hid ((ds ++ [((inm, iA) : Fc)]).length = ds.length + 1) := hdsl
      clear hown hg hst hb hR hdsl HX1 HX HM hi
      generalize ds ++ [((inm, iA) : Fc)] = es at HX2 HM2 HDL
      go_wp2_with (at_builtin; refine za0 rfl (.tmp 25) (.tmp 31) 53 rfl _ _ _ rfl rfl hrun ?_; clear hrun)
      go_wp2
      go_roundw
      case rel => exact ⟨j + 1, g', c', es, by go_num, by omega, by rw [HDL.out], by rw [HDL.out]; omega, HM2, HX2⟩
      case measure => simp [intOf]; omega
     ·
      rw [if_neg h9] at hst
      have HM2 : Hid (ds = cs ++ calR (cd.take (j + 1))) := by exact (by rw [hst]; exact HM.out : ds = cs ++ calR (cd.take (j + 1)))
      have h9b : (ik == 9) = false := beq_eq_false_iff_ne.2 h9
      clear hst hb hR HX HM hi
      go_wp2
      go_roundw
      case rel => exact ⟨j + 1, g, c, ds, by go_num, by omega, rfl, by omega, HM2, HX1⟩
      case measure => simp [intOf]; omega
    ·
     obtain rfl : j = m := by omega
     have HM2 : Hid (ds = za1 (rs.take (k + 1))) := by exact (by rw [HST.out, ← HEn.out]; exact HM.out : ds = za1 (rs.take (k + 1)))
     go_wp2
     go_roundw
     case rel => exact ⟨k + 1, g, c, ds, by go_num, by omega, rfl, by omega, HM2, HX⟩
     case measure => simp [intOf]; omega
  ·
   obtain rfl : k = len := by omega
   have HM2 : Hid (cs = za1 rs) := by exact (by rw [← HAll.out]; exact HM.out : cs = za1 rs)
   go_wp2
   go_ret
   exact ⟨g, c, by rw [← HM2.out]; rfl, by rw [← HM2.out]; exact HX.out.1, HX.out.2⟩
end
end Go.Proofs.YtenaaneckobdpaaGreat
