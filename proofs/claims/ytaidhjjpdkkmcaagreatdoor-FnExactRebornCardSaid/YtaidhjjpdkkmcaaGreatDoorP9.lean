/-
  Parts of one proof, one behind the other: ProjS6, Bend1, Bend2, RowW, PackS4, TreeS4, TreeS5, PackC.
-/
import Derived.Test.YtaidhjjpdkkmcaaGreatDoorP8
import Derived.Test.YtaidhjjpdkkmcaaGreatDoorP4
import Derived.Deep.RegionHeld3
import Derived.Deep.RegionLaw
import Derived.Deep.DrawnRows
import Derived.Laws.IdiomCopy
import Derived.Test.YtaidhjjpdkkmcaaGreatDoorP7
import Derived.Deep.RegionWith
import Derived.Test.YtaidhjjpdkkmcaaGreatDoorP6

/-! The contracts of chapter 8's specification: l8Needs, Order, Reaches, Needs. -/
namespace Go.Proofs.YtaidhjjpdkkmcaaGreatDoor
open Go.RowKit

def keep8 (r : List (List UInt8)) (s x : List UInt8) : Bool := decide (x ≠ s ∧ x ∈ r)
theorem keep8_take (o r : List (List UInt8)) (s : List UInt8) (k : Nat) (hk : k < o.length) : (o.take (k + 1)).filter (keep8 r s) = (o.take k).filter (keep8 r s) ++ (if keep8 r s (o.getD k []) = true then [o.getD k []] else []) := by
 have e : o.getD k [] = o[k] := by simp [List.getD, hk]
 rw [List.take_succ_eq_append_getElem hk, List.filter_append, e]
 congr 1
 by_cases h : keep8 r s o[k] = true
 ·
  rw [if_pos h]; simp [h]
 ·
  rw [if_neg h]; simp [h]
theorem need8_keep (ps : List Pk) (s : List UInt8) : need8 ps s = (order8 ps).filter (keep8 (reach8 ps s) s) := rfl

set_option maxHeartbeats 4000000 in
set_option maxRecDepth 100000 in
theorem specNeed8 (a : Option Addr) (len cap : Nat) (ps : List Pk) (s : List UInt8) (w : World) (hin : PkgsIn w a len ps) (hp : projB ps = true) (hs : s ∈ names8 ps) :
 Calls Tryz.prog 103 #[.slice a len cap, .string ⟨s.toArray⟩] w fun e w' => ∃ v, e = .returned v ∧ w'.ownsRow w.heap.size 9 1 v (need8 ps s).length (strV (need8 ps s)) ∧ Below w.heap.size w w' := by
 have HC1 : Hid (_) := specReach8 a len cap ps s w hin hp hs
 have HC2 : Hid (_) := fun (V : World) (h : PkgsIn V a len ps) => specOrder8 a len cap ps V h hp
 have hrl := (reach8_end hs).1.len
 have hol := (order8_end hp).1.len
 have hl8 := (projB_parts hp).2.1
 have HI : Hid (PkgsIn w a len ps) := hin
 rw [need8_keep]
 generalize reach8 ps s = r at HC1 hrl ⊢
 generalize order8 ps = o at HC2 hol ⊢
 clear hin hp hs
 go_enter Tryz.func103, Tryz.ntmps103
 go_wp2_with fail
 refine Calls.mono HC1.out ?_
 rintro e w1 ⟨gr, cr, rfl, hr1, hb1⟩
 go_wp2_with fail
 refine Calls.mono (HC2.out _ (HI.out.below hb1)) ?_
 rintro e w2 ⟨vo, rfl, ho2, hb2⟩
 have hr2 := own_below hr1 hb2
 have hB2 := hb1.trans (hb2.mono hb1.size)
 obtain ⟨_, ao, co, rfl, hot⟩ := own_texts ho2
 have hrt : TextsIn w2 (some ⟨gr, 0, none⟩) r.length r := by
  obtain ⟨_, a', c', e, h⟩ := own_texts hr2
  injection e with e1 _ _
  subst e1
  exact h
 have hown0 := (World.ownsRow_lit (base := w2.heap.size) (e := 9) (size := 1) w2 #[] 0 (Nat.le_refl _) (by decide) rfl)
 have hbA : Below w2.heap.size w2 (w2.alloc (.cells #[] 9)) := (Below.refl _ _).alloc (Nat.le_refl _) _
 have HO0 : Hid ((w2.alloc (.cells #[] 9)).ownsRow w2.heap.size 9 1 (.slice (some ⟨w2.heap.size, 0, none⟩) 0 0) ((o.take 0).filter (keep8 r s)).length (strV ((o.take 0).filter (keep8 r s)))) := hown0
 have HB0 : Hid (Below w2.heap.size w2 (w2.alloc (.cells #[] 9))) := hbA
 have HOT : Hid (TextsIn w2 ao o.length o) := hot
 have HRT : Hid (TextsIn w2 (some ⟨gr, 0, none⟩) r.length r) := hrt
 have HB2 : Hid (Below w.heap.size w w2) := hB2
 clear hr1 hb1 ho2 hb2 hr2 hB2 hot hrt hown0 hbA HC1 HC2 HI
 go_wp2
 go_loopw [7, 8] (fun v iv wr => ∃ k : Nat, iv = .int .i64 (k : Int) ∧ k ≤ o.length ∧ Hid (wr.ownsRow w2.heap.size 9 1 v ((o.take k).filter (keep8 r s)).length (strV ((o.take k).filter (keep8 r s)))) ∧ Hid (Below w2.heap.size w2 wr)) (fun _ iv _ => o.length - (intOf iv).toNat)
 case atStart => exact ⟨0, rfl, by omega, HO0, HB0⟩
 case round =>
  obtain ⟨k, rfl, hk, HV, HB⟩ := hrel
  clear HO0 HB0
  obtain ⟨W3, rfl⟩ : ∃ W3, W3 = wr := ⟨_, rfl⟩
  by_cases hlt : (k : Int) < (o.length : Int)
  ·
   have hk2 : k < o.length := by omega
   obtain ⟨b, off, rfl, hbl, c0⟩ := (HOT.out.below HB.out).2 k hk2
   have hst := keep8_take o r s k hk2
   have hfl : ((o.take k).filter (keep8 r s)).length ≤ k := Nat.le_trans (List.length_filter_le _ _) (by rw [List.length_take]; omega)
   obtain ⟨x, hx⟩ : ∃ x, o.getD k [] = x := ⟨_, rfl⟩
   rw [hx] at c0 hst
   have hkx : keep8 r s x = decide (x ≠ s ∧ x ∈ r) := rfl
   have HH : Hid (_) := specHas (some ⟨gr, 0, none⟩) r.length cr r x W3 (HRT.out.below HB.out) (by omega)
   obtain ⟨F, hF⟩ : ∃ F, (o.take k).filter (keep8 r s) = F := ⟨_, rfl⟩
   rw [hF] at hst hfl HV
   obtain ⟨F2, hF2⟩ : ∃ F2, (o.take (k + 1)).filter (keep8 r s) = F2 := ⟨_, rfl⟩
   rw [hF2] at hst
   have HF2 : Hid ((o.take (k + 1)).filter (keep8 r s) = F2) := hF2
   clear hx hF hF2
   by_cases hxs : x = s
   ·
    have HV2 : Hid (W3.ownsRow w2.heap.size 9 1 u7 F2.length (strV F2)) := by
     exact (by rw [hst, if_neg (by rw [hkx, decide_eq_false (fun h => h.1 hxs)]; simp), List.append_nil]; exact HV.out : W3.ownsRow w2.heap.size 9 1 u7 F2.length (strV F2))
    subst hxs
    have hne : (x != x) = false := by simp
    clear hst hkx HV HH
    go_wp2
    go_roundw
    case rel => exact ⟨k + 1, by go_num, by omega, by rw [HF2.out]; exact HV2, HB⟩
    case measure => simp [intOf]; omega
   ·
    have hne : (x != s) = true := by rw [bne_iff_ne]; exact hxs
    have hne2 : (x == s) = false := by rw [beq_eq_false_iff_ne]; exact hxs
    by_cases hxr : x ∈ r
    ·
     rw [hkx, decide_eq_true ⟨hxs, hxr⟩, if_pos rfl] at hst
     rw [decide_eq_true hxr] at HH
     obtain ⟨v', Y, hrun, hv', hg⟩ := push_text x HV.out HB.out.size (by omega)
     have HV2 : Hid (Y.ownsRow w2.heap.size 9 1 v' F2.length (strV F2)) := by
      exact (by rw [hst, List.length_append, List.length_singleton]; exact hv' : Y.ownsRow w2.heap.size 9 1 v' F2.length (strV F2))
     have HBY : Hid (Below w2.heap.size w2 Y) := HB.out.grown hg HB.out.size (fun q e => (HV.out.lt q e).1)
     clear hst hkx hv' hg HV hxs hxr
     go_wp2_with (first | (go_at_call 75; refine Calls.mono HH.out ?_; rintro e w1 ⟨rfl, hw1⟩; obtain rfl := hw1.symm) | (at_builtin; refine wpList_append_run rfl (.tmp 35) (.tmp 40) 37 rfl _ _ _ rfl rfl hrun ?_; clear hrun))
     go_roundw
     case rel => exact ⟨k + 1, by go_num, by omega, by rw [HF2.out]; exact HV2, HBY⟩
     case measure => simp [intOf]; omega
    ·
     have HV2 : Hid (W3.ownsRow w2.heap.size 9 1 u7 F2.length (strV F2)) := by
      exact (by rw [hst, if_neg (by rw [hkx, decide_eq_false (fun h => hxr h.2)]; simp), List.append_nil]; exact HV.out : W3.ownsRow w2.heap.size 9 1 u7 F2.length (strV F2))
     rw [decide_eq_false hxr] at HH
     clear hst hkx HV hxs hxr
     go_wp2_with (go_at_call 75; refine Calls.mono HH.out ?_; rintro e w1 ⟨rfl, hw1⟩; obtain rfl := hw1.symm)
     go_roundw
     case rel => exact ⟨k + 1, by go_num, by omega, by rw [HF2.out]; exact HV2, HB⟩
     case measure => simp [intOf]; omega
  ·
   obtain rfl : k = o.length := by omega
   have hV := HV.out
   rw [List.take_of_length_le (Nat.le_refl _)] at hV
   have HVE : Hid (W3.ownsRow w2.heap.size 9 1 u7 (o.filter (keep8 r s)).length (strV (o.filter (keep8 r s)))) := hV
   have hsz := HB2.out.size
   have hBE := HB2.out.trans (HB.out.mono hsz)
   clear hV HV
   go_wp2
   go_ret
   exact ⟨_, rfl, own_base HVE.out hsz, hBE⟩




end Go.Proofs.YtaidhjjpdkkmcaaGreatDoor

/-! What the bending of a text needs: a slice of bytes at the head of a block that is new since the call began, and an append's law at a step of a region that draws its order. -/
namespace Go.Proofs.YtaidhjjpdkkmcaaGreatDoor
open Go.RowKit

/-- Block g, new since 'base', holds the bytes l from its head on, and they may be written. -/
structure RowB (w : World) (base g cap : Nat) (l : List UInt8) : Prop where
 new : base ≤ g
 there : g < w.heap.size
 room : l.length ≤ cap
 most : cap ≤ maxLen
 cells : ∀ j (hj : j < l.length), w.cell? ⟨g, j, none⟩ = some (.int .u8 (l[j].toNat : Int))
 free : ∀ j, j < l.length → w.frozen? ⟨g, j, none⟩ = false

theorem RowB.kept {w w' : World} {base g cap : Nat} {l : List UInt8} {row : Option Nat} (h : RowB w base g cap l) (hg : w.grownBy w' row) (hne : some g ≠ row) : RowB w' base g cap l := by
 have hb := hg.block g h.there hne
 exact ⟨h.new, Nat.lt_of_lt_of_le h.there hg.size, h.room, h.most, fun j hj => (World.cell?_of_block hb).trans (h.cells j hj), fun j hj => (World.frozen?_of_block hb).trans (h.free j hj)⟩

theorem RowB.base {w : World} {base base' g cap : Nat} {l : List UInt8} (h : RowB w base g cap l) (hb : base' ≤ base) : RowB w base' g cap l := ⟨Nat.le_trans hb h.new, h.there, h.room, h.most, h.cells, h.free⟩

theorem RowB.of_own {w : World} {base : Nat} {v : Value} {l : List UInt8} (h : w.ownsRow base 5 1 v l.length (bytesV l)) (hv : v ≠ .slice none 0 0) : ∃ g cap, v = .slice (some ⟨g, 0, none⟩) l.length cap ∧ RowB w base g cap l := by
 have hh := h
 obtain ⟨_, ⟨e, _⟩ | ⟨g, cap, cur, rfl, hb, hc, hn, hm, hs, ht⟩⟩ := hh
 ·
  exact absurd e hv
 ·
  refine ⟨g, cap, rfl, hb, (h.lt g rfl).2, hn, hm, ?_, ?_⟩
  ·
   intro j hj
   have hx := World.ownsRow.cellAt h j (by omega)
   rw [hx]; simp [bytesV, List.getElem?_eq_getElem hj]
  ·
   intro j hj
   exact World.ownsRow.frozenAt h j

theorem RowB.drew {w : World} {base g cap : Nat} {l : List UInt8} (h : RowB w base g cap l) : RowB w.drew base g cap l := ⟨h.new, h.there, h.room, h.most, h.cells, h.free⟩

theorem bytesV_at (l : List UInt8) (j : Nat) (u : Value) (h : (bytesV l)[j]? = some u) : ∃ hj : j < l.length, u = .int .u8 (l[j].toNat : Int) := by
 unfold bytesV at h
 rw [List.getElem?_map] at h
 rcases hx : l[j]? with _ | x
 ·
  rw [hx] at h; cases h
 ·
  rw [hx] at h
  obtain ⟨hj, e⟩ := List.getElem?_eq_some_iff.1 hx
  injection h with h
  exact ⟨hj, by rw [e]; exact h.symm⟩

theorem bytesV_len (l : List UInt8) : (bytesV l).length = l.length := by simp [bytesV]

theorem bytesV_one (l : List UInt8) : ∀ u ∈ bytesV l, u.oneCell' = true := by
 intro u hu
 obtain ⟨x, _, rfl⟩ := List.mem_map.1 hu
 rfl

theorem add_plain (b off j : Nat) : (⟨b, off, none⟩ : Addr).add j = ⟨b, off + j, none⟩ := by unfold Addr.add; split <;> simp_all

/-- The cells of b[:k], as an append takes them. -/
theorem RowB.head {w : World} {base g cap : Nat} {l : List UInt8} (h : RowB w base g cap l) (k : Nat) : ∀ j u, (bytesV (l.take k))[j]? = some u → w.cell? ((⟨g, 0, none⟩ : Addr).add j) = some u := by
 intro j u hu
 obtain ⟨hj, rfl⟩ := bytesV_at _ _ _ hu
 have hl : (l.take k).length ≤ l.length := List.length_take_le' _ _
 rw [add_plain, Nat.zero_add, h.cells j (by omega)]
 simp

/-- The cells of b[k:], as an append takes them. -/
theorem RowB.tail {w : World} {base g cap : Nat} {l : List UInt8} (h : RowB w base g cap l) (k : Nat) : ∀ j u, (bytesV (l.drop k))[j]? = some u → w.cell? ((⟨g, k, none⟩ : Addr).add j) = some u := by
 intro j u hu
 obtain ⟨hj, rfl⟩ := bytesV_at _ _ _ hu
 have hj' : k + j < l.length := by rw [List.length_drop] at hj; omega
 rw [add_plain, h.cells (k + j) hj']
 simp

theorem bytesV_append (a b : List UInt8) : bytesV a ++ bytesV b = bytesV (a ++ b) := by simp [bytesV]

end Go.Proofs.YtaidhjjpdkkmcaaGreatDoor

/-! The contract of l1Bend: a text that is bent at most twice. -/
namespace Go.Proofs.YtaidhjjpdkkmcaaGreatDoor
open Go.RowKit


end Go.Proofs.YtaidhjjpdkkmcaaGreatDoor

/-! A row of bytes that a call has made of a string ('[]byte(s)'), and 'append(b, s...)' onto it, whether there is room or not. -/
namespace Go.Proofs.YtaidhjjpdkkmcaaGreatDoor
open Go.RowKit

/-- Block g, new since 'base', holds the bytes l from its head on; all of its cap cells may be written. -/
structure RowW (w : World) (base g cap : Nat) (l : List UInt8) : Prop where
 row : RowB w base g cap l
 all : ∀ j, j < cap → (w.cell? ⟨g, j, none⟩).isSome = true ∧ w.frozen? ⟨g, j, none⟩ = false

theorem RowW.kept {w w' : World} {base g cap : Nat} {l : List UInt8} {row : Option Nat} (h : RowW w base g cap l) (hg : w.grownBy w' row) (hne : some g ≠ row) : RowW w' base g cap l := by
 have hb := hg.block g h.row.there hne
 exact ⟨h.row.kept hg hne, fun j hj => by rw [World.cell?_of_block (a := ⟨g, j, none⟩) hb, World.frozen?_of_block (a := ⟨g, j, none⟩) hb]; exact h.all j hj⟩

theorem RowW.below {w w' : World} {base g cap : Nat} {l : List UInt8} (h : RowW w base g cap l) (hb : Below w.heap.size w w') : RowW w' base g cap l :=
 h.kept (row := none) ⟨hb.os, hb.tape, hb.output, hb.size, fun k hk _ => hb.block k hk⟩ (by simp)

theorem RowW.drew {w : World} {base g cap : Nat} {l : List UInt8} (h : RowW w base g cap l) : RowW w.drew base g cap l :=
 h.below ⟨rfl, rfl, rfl, Nat.le_refl _, fun _ _ => rfl⟩

theorem heap_setCells (b : Nat) : ∀ (vs : List Value) (o : Nat) (w : World), (w.setCells b o vs).heap.size = w.heap.size ∧ ∀ k, k ≠ b → (w.setCells b o vs).heap[k]? = w.heap[k]?
 | [], _, _ => ⟨rfl, fun _ _ => rfl⟩
 | v :: r, o, w => by
  obtain ⟨h1, h2⟩ := heap_setCells b r (o + 1) (w.setCell ⟨b, o, none⟩ v)
  refine ⟨by rw [World.setCells, h1]; simp, fun k hk => ?_⟩
  rw [World.setCells, h2 k hk]
  exact Below.heap_setCell w _ v k (fun e => hk e)

theorem grown_setCells (b : Nat) : ∀ (vs : List Value) (o : Nat) (w : World), w.grownBy (w.setCells b o vs) (some b)
 | [], _, w => World.grownBy.refl w _
 | v :: r, o, w => by
  rw [World.setCells]
  exact (grown_set w b o v).trans (grown_setCells b r (o + 1) _)

theorem strV_bytes (s : List UInt8) : Lib.strCells ⟨s.toArray⟩ = bytesV s := strCells_list s

theorem RowW.append_at {w : World} {base g cap : Nat} {l : List UInt8} (h : RowW w base g cap l) (s : List UInt8) (hlen : l.length + s.length ≤ 4194304) (hbase : base ≤ w.heap.size) (ty : TypeId) :
 ∃ g' cap' w', (Builtin.append_ #[95, 9] ty #[.slice (some ⟨g, 0, none⟩) l.length cap, .string ⟨s.toArray⟩]).run Tryz.prog w = .ok (.slice (some ⟨g', 0, none⟩) (l ++ s).length cap') w' ∧ RowW w' base g' cap' (l ++ s) ∧ w.grownBy w' (some g) ∧ (g' = g ∨ g' = w.heap.size) := by
 obtain ⟨i0, hi, hz0, hz1, hz2⟩ := info_parts info5
 have hss : (⟨s.toArray⟩ : ByteArray).size = s.length := List.size_toArray
 have hll : (l ++ s).length = l.length + s.length := List.length_append
 by_cases hroom : l.length + s.length ≤ cap
 ·
  have hf := Lib.run_firstCells_string (P := Tryz.prog) w 1 ⟨s.toArray⟩
  have hc : ∀ j, j < (bytesV s).length → (w.cell? ⟨g, l.length + j, none⟩).isSome = true := fun j hj => (h.all _ (by rw [bytesV_len] at hj; omega)).1
  have hfz : ∀ j, j < (bytesV s).length → w.frozen? ⟨g, l.length + j, none⟩ = false := fun j hj => (h.all _ (by rw [bytesV_len] at hj; omega)).2
  have hst := run_storeCells_cells (P := Tryz.prog) g l.length (bytesV s) 0 w (by simpa using hc) (by simpa using hfz) (bytesV_one s)
  rw [hss, strV_bytes] at hf
  refine ⟨g, cap, w.setCells g l.length (bytesV s), ?_, ?_, grown_setCells g _ _ w, Or.inl rfl⟩
  ·
   rw [hll]
   simp [Builtin.append_, run_underlying Tryz.underlying95, run_underlying Tryz.underlying9, sizeOf, typeInfo, hi, hz1, Builtin.lenOf, hss, hroom, hf, Addr.add_lit, hst]
  ·
   have hsz := heap_setCells g (bytesV s) l.length w
   refine ⟨⟨h.row.new, by rw [hsz.1]; exact h.row.there, by rw [hll]; exact hroom, h.row.most, ?_, ?_⟩, ?_⟩
   ·
    intro j hj
    rw [hll] at hj
    by_cases hjl : j < l.length
    ·
     rw [World.cell?_setCells_out g (bytesV s) l.length w _ (fun i _ => by simp; omega), h.row.cells j hjl, List.getElem_append_left hjl]
    ·
     have hj2 : j - l.length < (bytesV s).length := by rw [bytesV_len]; omega
     have := World.cell?_setCells_in g (bytesV s) l.length w hc (j - l.length) hj2
     rw [show l.length + (j - l.length) = j by omega] at this
     rw [this, List.getElem_append_right (by omega)]
     simp [bytesV]
   ·
    intro j hj
    rw [World.frozen?_setCells]
    exact (h.all j (by omega)).2
   ·
    intro j hj
    rw [World.frozen?_setCells]
    refine ⟨?_, (h.all j hj).2⟩
    by_cases hin : l.length ≤ j ∧ j < l.length + s.length
    ·
     have hj2 : j - l.length < (bytesV s).length := by rw [bytesV_len]; omega
     have := World.cell?_setCells_in g (bytesV s) l.length w hc (j - l.length) hj2
     rw [show l.length + (j - l.length) = j by omega] at this
     rw [this]; rfl
    ·
     rw [World.cell?_setCells_out g (bytesV s) l.length w _ (fun _ _ => by rw [bytesV_len]; simp; omega)]
     exact (h.all j hj).1
 ·
  have holds : ∀ j u, (bytesV l)[j]? = some u → w.cell? ((⟨g, 0, none⟩ : Addr).add j) = some u := by
   intro j u hu
   obtain ⟨hj, rfl⟩ := bytesV_at _ _ _ hu
   rw [show (⟨g, 0, none⟩ : Addr).add j = ⟨g, j, none⟩ by unfold Addr.add; split <;> simp_all]
   exact h.row.cells j hj
  have hr := Lib.run_append_grow_string (P := Tryz.prog) w 95 9 ty 5 i0 (.int .u8 0) Tryz.underlying95 Tryz.underlying9 hi hz0 ⟨g, 0, none⟩ l.length cap (bytesV l) (by rw [bytesV_len, hz1]; omega) holds ⟨s.toArray⟩ (by rw [hss]; omega) (by rw [hss]; omega) (by rw [hss, hz2, Nat.mul_one]; exact (by have := growslice_fits (need := l.length + s.length) (old := cap) (bytes := 1) (by omega) (by omega); simpa using this))
  rw [hss, strV_bytes] at hr
  have hge := grownCap_ge w (l.length + s.length) cap 5
  have hcm := grownCap_le_maxLen w (l.length + s.length) cap 5 (by unfold maxLen; omega)
  generalize grownCap w (l.length + s.length) cap 5 = c at hr hge hcm
  obtain ⟨C, hC⟩ : ∃ C, (bytesV l).toArray ++ (bytesV s).toArray ++ Builtin.zeroCells (Value.int .u8 0).cells (c - (l.length + s.length)) = C := ⟨_, rfl⟩
  rw [hC] at hr
  have hCs : C.size = c := by
   have hz1' : (Value.int IntKind.u8 0).cells.size = 1 := rfl
   rw [← hC]; simp only [Array.size_append, List.size_toArray, size_zeroCells, hz1', bytesV_len]; omega
  have hown : (w.drew.alloc (.cells C 5)).ownsRow base 5 1 (.slice (some ⟨w.heap.size, 0, none⟩) (l ++ s).length c) (l ++ s).length (bytesV (l ++ s)) := by
   refine ⟨by rw [bytesV_len]; omega, Or.inr ⟨w.heap.size, c, C, rfl, hbase, heap_alloc_new w.drew _, by rw [hll]; exact hge, hcm, by omega, ?_⟩⟩
   rw [← hC]
   simp only [Array.toList_append, List.append_assoc]
   rw [← List.append_assoc, bytesV_append, Nat.mul_one, ← bytesV_len (l ++ s)]
   exact List.take_left
  have hB : RowB (w.drew.alloc (.cells C 5)) base w.heap.size c (l ++ s) := by
   obtain ⟨g2, c2, e2, hrow⟩ := RowB.of_own hown (by simp)
   injection e2 with e3 _ e4
   injection e3 with e3
   injection e3 with e3
   subst e3; subst e4
   exact hrow
  refine ⟨w.heap.size, c, _, by rw [hll]; exact hr, ⟨hB, fun j hj => ?_⟩, ?_, Or.inr rfl⟩
  ·
   have hA : (w.drew.alloc (.cells C 5)).heap[w.heap.size]? = some (.cells C 5) := heap_alloc_new w.drew _
   generalize w.drew.alloc (.cells C 5) = W at hA ⊢
   refine ⟨?_, by simp [World.frozen?, hA]⟩
   simp [World.cell?, hA]
   omega
  ·
   exact ⟨rfl, rfl, rfl, by simp, fun k hk _ => Below.heap_alloc w.drew _ k hk⟩

theorem RowW.append {w : World} {base g cap : Nat} {l : List UInt8} (h : RowW w base g cap l) (s : List UInt8) (hlen : l.length + s.length ≤ 4194304) (hbase : base ≤ w.heap.size) (ty : TypeId) :
 ∃ g' cap' w', (Builtin.append_ #[95, 9] ty #[.slice (some ⟨g, 0, none⟩) l.length cap, .string ⟨s.toArray⟩]).run Tryz.prog w = .ok (.slice (some ⟨g', 0, none⟩) (l ++ s).length cap') w' ∧ RowW w' base g' cap' (l ++ s) ∧ w.grownBy w' (some g) := by
 obtain ⟨g', cap', w', h1, h2, h3, _⟩ := h.append_at s hlen hbase ty
 exact ⟨g', cap', w', h1, h2, h3⟩

end Go.Proofs.YtaidhjjpdkkmcaaGreatDoor

/-! The contracts of chapter 7's specification: l7Show, ShowPackage. -/
namespace Go.Proofs.YtaidhjjpdkkmcaaGreatDoor
open Go.RowKit

/-- What a round of l7Show's second loop holds: the function's own block, the row that is written, the function's tree. -/
structure ShSt (X W : World) (B F g cap : Nat) (l s : List UInt8) (n : Int) (t : List Nd) (ta : Option Addr) (tl tc : Nat) : Prop where
 c0 : X.cell? ⟨F, 0, none⟩ = some (.string ⟨s.toArray⟩)
 c1 : X.cell? ⟨F, 1, none⟩ = some (.int .i64 n)
 c2 : X.cell? ⟨F, 2, none⟩ = some (.slice ta tl tc)
 ne : g ≠ F
 row : RowW X B g cap l
 nodes : NodesIn X ta tl t
 b : Below B W X
 bs : B ≤ X.heap.size

theorem ShSt.below {X Y W : World} {B F g cap : Nat} {l s : List UInt8} {n : Int} {t : List Nd} {ta : Option Addr} {tl tc : Nat} (h : ShSt X W B F g cap l s n t ta tl tc) (hb : Below X.heap.size X Y) : ShSt Y W B F g cap l s n t ta tl tc :=
 have hl : F < X.heap.size := World.block_lt_of_cell? X ⟨F, 0, none⟩ h.c0
 ⟨(hb.cell (p := ⟨F, 0, none⟩) hl).trans h.c0, (hb.cell (p := ⟨F, 1, none⟩) hl).trans h.c1, (hb.cell (p := ⟨F, 2, none⟩) hl).trans h.c2, h.ne, h.row.below hb, h.nodes.below hb, h.b.trans (hb.mono h.bs), Nat.le_trans h.bs hb.size⟩

theorem ShSt.drew {X W : World} {B F g cap : Nat} {l s : List UInt8} {n : Int} {t : List Nd} {ta : Option Addr} {tl tc : Nat} (h : ShSt X W B F g cap l s n t ta tl tc) : ShSt X.drew W B F g cap l s n t ta tl tc :=
 h.below ⟨rfl, rfl, rfl, Nat.le_refl _, fun _ _ => rfl⟩

/-- The end of such a round: the row has the line. -/
theorem ShSt.append {X W : World} {B F g cap : Nat} {l s : List UInt8} {n : Int} {t : List Nd} {ta : Option Addr} {tl tc : Nat} (h : ShSt X W B F g cap l s n t ta tl tc) (x : List UInt8) (hx : l.length + x.length ≤ 4194304) :
 ∃ g' cap' w', (Builtin.append_ #[95, 9] 95 #[.slice (some ⟨g, 0, none⟩) l.length cap, .string ⟨x.toArray⟩]).run Tryz.prog X = .ok (.slice (some ⟨g', 0, none⟩) (l ++ x).length cap') w' ∧ RowW w' B g' cap' (l ++ x) ∧ Below B W w' ∧
  w'.cell? ⟨F, 0, none⟩ = some (.string ⟨s.toArray⟩) ∧ w'.cell? ⟨F, 1, none⟩ = some (.int .i64 n) ∧ w'.cell? ⟨F, 2, none⟩ = some (.slice ta tl tc) := by
 obtain ⟨g', cap', w', hrun, hrow, hg⟩ := h.row.append x hx h.bs 95
 have hl : F < X.heap.size := World.block_lt_of_cell? X ⟨F, 0, none⟩ h.c0
 have hbk := hg.block F hl (by intro e; injection e with e; exact h.ne e.symm)
 exact ⟨g', cap', w', hrun, hrow, h.b.grown hg h.bs (fun q e => by injection e with e; rw [← e]; exact h.row.row.new), (World.cell?_of_block (a := ⟨F, 0, none⟩) hbk).trans h.c0, (World.cell?_of_block (a := ⟨F, 1, none⟩) hbk).trans h.c1, (World.cell?_of_block (a := ⟨F, 2, none⟩) hbk).trans h.c2⟩



end Go.Proofs.YtaidhjjpdkkmcaaGreatDoor

/-! The contract of chapter 6's specification: the node of a word. -/
namespace Go.Proofs.YtaidhjjpdkkmcaaGreatDoor
open Go.RowKit

theorem part_le (ws : List (List UInt8)) (j : Nat) : (ws.getD j []).length ≤ ws.flatten.length := by
 induction ws generalizing j with
 | nil => simp
 | cons x r ih =>
  cases j with
  | zero => simp
  | succ j => have := ih j; simp only [List.getD_cons_succ, List.flatten_cons, List.length_append]; omega

end Go.Proofs.YtaidhjjpdkkmcaaGreatDoor

/-! The contract of chapter 6's specification: ReadTree. -/
namespace Go.Proofs.YtaidhjjpdkkmcaaGreatDoor
open Go.RowKit

/-- What a row of nodes holds. -/
def nodesV : List Nd → List Value
 | [] => []
 | n :: r => .int .i64 n.1 :: .int .i64 n.2.1 :: .string ⟨n.2.2.1.toArray⟩ :: .string ⟨n.2.2.2.toArray⟩ :: nodesV r

theorem nodesV_len (ns : List Nd) : (nodesV ns).length = ns.length * 4 := by
 induction ns with
 | nil => rfl
 | cons n r ih => simp only [nodesV, List.length_cons, ih]; omega

theorem nodesV_at (ns : List Nd) (j : Nat) (hj : j < ns.length) : (nodesV ns)[j * 4]? = some (.int .i64 (ns.getD j nd0).1) ∧ (nodesV ns)[j * 4 + 1]? = some (.int .i64 (ns.getD j nd0).2.1) ∧ (nodesV ns)[j * 4 + 2]? = some (.string ⟨(ns.getD j nd0).2.2.1.toArray⟩) ∧ (nodesV ns)[j * 4 + 3]? = some (.string ⟨(ns.getD j nd0).2.2.2.toArray⟩) := by
 induction ns generalizing j with
 | nil => simp at hj
 | cons n r ih =>
  cases j with
  | zero => simp [nodesV]
  | succ j =>
   have h := ih j (by simpa using hj)
   rw [show (j + 1) * 4 = j * 4 + 1 + 1 + 1 + 1 by omega]
   simpa [nodesV] using h

/-- A row of nodes that a call owns is a list of nodes. -/
theorem own_nodes {w : World} {base n : Nat} {v : Value} {ns : List Nd} (h : w.ownsRow base 125 4 v n (nodesV ns)) : ns.length = n ∧ ∃ a cap, v = .slice a n cap ∧ NodesIn w a n ns := by
 have hlen : ns.length = n := by have := h.1; rw [nodesV_len] at this; omega
 refine ⟨hlen, ?_⟩
 rcases own_forms h with ⟨rfl, rfl, _⟩ | ⟨g, cp, rfl⟩
 ·
  exact ⟨none, 0, rfl, hlen, fun j hj => by omega⟩
 ·
  refine ⟨some ⟨g, 0, none⟩, cp, rfl, hlen, fun j hj => ?_⟩
  obtain ⟨v0, v1, v2, v3⟩ := nodesV_at ns j (by omega)
  have c0 := h.cellAt (j * 4) (by omega)
  have c1 := h.cellAt (j * 4 + 1) (by omega)
  have c2 := h.cellAt (j * 4 + 2) (by omega)
  have c3 := h.cellAt (j * 4 + 3) (by omega)
  rw [v0] at c0
  rw [v1] at c1
  rw [v2] at c2
  rw [v3] at c3
  refine ⟨g, 0, rfl, (h.lt g rfl).2, ?_, ?_, ?_, ?_⟩
  ·
   rw [Nat.zero_add]; exact c0
  ·
   rw [Nat.zero_add]; exact c1
  ·
   rw [Nat.zero_add]; exact c2
  ·
   rw [Nat.zero_add]; exact c3

theorem infoNode : (Tryz.prog.info? 125).map (fun i => (i.zero, i.size, i.bytes)) = some (some (.agg #[.int .i64 0, .int .i64 0, .string ⟨#[]⟩, .string ⟨#[]⟩]), 4, 48) := by kernel_rfl

end Go.Proofs.YtaidhjjpdkkmcaaGreatDoor

/-! Texts and trees are copied: l1Texts; rows as 'append' reads them. -/
namespace Go.Proofs.YtaidhjjpdkkmcaaGreatDoor
open Go.RowKit


end Go.Proofs.YtaidhjjpdkkmcaaGreatDoor
