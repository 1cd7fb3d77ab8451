/-
  Parts of one proof, one behind the other: ProjS6, Bend1, Bend2, RowW, PackS4, TreeS4, TreeS5, PackC, NodeL, PackC2, PackS5.
-/
import Derived.Test.YtaioedcaopbgkaaP9
import Derived.Test.YtaioedcaopbgkaaP3
import Derived.Deep.RegionHeld3
import Derived.Deep.RegionLaw
import Derived.Deep.DrawnRows
import Derived.Laws.IdiomCopy
import Derived.Test.YtaioedcaopbgkaaP7
import Derived.Deep.RegionWith

/-! The contracts of chapter 8's specification: l8Needs, Order, Reaches, Needs. -/
namespace Go.Proofs.Ytaioedcaopbgkaa
open Go.RowKit

def keep8 (r : List (List UInt8)) (s x : List UInt8) : Bool := decide (x ≠ s ∧ x ∈ r)
theorem keep8_take (o r : List (List UInt8)) (s : List UInt8) (k : Nat) (hk : k < o.length) : (o.take (k + 1)).filter (keep8 r s) = (o.take k).filter (keep8 r s) ++ (if keep8 r s (o.getD k []) = true then [o.getD k []] else []) := by
 have e : o.getD k [] = o[k] := by simp [List.getD, hk]
 rw [List.take_succ_eq_append_getElem hk, List.filter_append, e]
 congr 1
 by_cases h : keep8 r s o[k] = true
 ·
  rw [if_pos h]; simp [h]
 ·
  rw [if_neg h]; simp [h]
theorem need8_keep (ps : List Pk) (s : List UInt8) : need8 ps s = (order8 ps).filter (keep8 (reach8 ps s) s) := rfl

set_option maxHeartbeats 4000000 in
set_option maxRecDepth 100000 in
theorem specNeed8 (a : Option Addr) (len cap : Nat) (ps : List Pk) (s : List UInt8) (w : World) (hin : PkgsIn w a len ps) (hp : projB ps = true) (hs : s ∈ names8 ps) :
 Calls Try.prog 73 #[.slice a len cap, .string ⟨s.toArray⟩] w fun e w' => ∃ v, e = .returned v ∧ w'.ownsRow w.heap.size 9 1 v (need8 ps s).length (strV (need8 ps s)) ∧ Below w.heap.size w w' := by
 have HC1 : Hid (_) := specReach8 a len cap ps s w hin hp hs
 have HC2 : Hid (_) := fun (V : World) (h : PkgsIn V a len ps) => specOrder8 a len cap ps V h hp
 have hrl := (reach8_end hs).1.len
 have hol := (order8_end hp).1.len
 have hl8 := (projB_parts hp).2.1
 have HI : Hid (PkgsIn w a len ps) := hin
 rw [need8_keep]
 generalize reach8 ps s = r at HC1 hrl ⊢
 generalize order8 ps = o at HC2 hol ⊢
 clear hin hp hs
 go_enter Try.func73, Try.ntmps73
 go_wp2_with fail
 refine Calls.mono HC1.out ?_
 rintro e w1 ⟨gr, cr, rfl, hr1, hb1⟩
 go_wp2_with fail
 refine Calls.mono (HC2.out _ (HI.out.below hb1)) ?_
 rintro e w2 ⟨vo, rfl, ho2, hb2⟩
 have hr2 := own_below hr1 hb2
 have hB2 := hb1.trans (hb2.mono hb1.size)
 obtain ⟨_, ao, co, rfl, hot⟩ := own_texts ho2
 have hrt : TextsIn w2 (some ⟨gr, 0, none⟩) r.length r := by
  obtain ⟨_, a', c', e, h⟩ := own_texts hr2
  injection e with e1 _ _
  subst e1
  exact h
 have hown0 := (World.ownsRow_lit (base := w2.heap.size) (e := 9) (size := 1) w2 #[] 0 (Nat.le_refl _) (by decide) rfl)
 have hbA : Below w2.heap.size w2 (w2.alloc (.cells #[] 9)) := (Below.refl _ _).alloc (Nat.le_refl _) _
 have HO0 : Hid ((w2.alloc (.cells #[] 9)).ownsRow w2.heap.size 9 1 (.slice (some ⟨w2.heap.size, 0, none⟩) 0 0) ((o.take 0).filter (keep8 r s)).length (strV ((o.take 0).filter (keep8 r s)))) := hown0
 have HB0 : Hid (Below w2.heap.size w2 (w2.alloc (.cells #[] 9))) := hbA
 have HOT : Hid (TextsIn w2 ao o.length o) := hot
 have HRT : Hid (TextsIn w2 (some ⟨gr, 0, none⟩) r.length r) := hrt
 have HB2 : Hid (Below w.heap.size w w2) := hB2
 clear hr1 hb1 ho2 hb2 hr2 hB2 hot hrt hown0 hbA HC1 HC2 HI
 go_wp2
 go_loopw [7, 8] (fun v iv wr => ∃ k : Nat, iv = .int .i64 (k : Int) ∧ k ≤ o.length ∧ Hid (wr.ownsRow w2.heap.size 9 1 v ((o.take k).filter (keep8 r s)).length (strV ((o.take k).filter (keep8 r s)))) ∧ Hid (Below w2.heap.size w2 wr)) (fun _ iv _ => o.length - (intOf iv).toNat)
 case atStart => exact ⟨0, rfl, by omega, HO0, HB0⟩
 case round =>
  obtain ⟨k, rfl, hk, HV, HB⟩ := hrel
  clear HO0 HB0
  obtain ⟨W3, rfl⟩ : ∃ W3, W3 = wr := ⟨_, rfl⟩
  by_cases hlt : (k : Int) < (o.length : Int)
  ·
   have hk2 : k < o.length := by omega
   obtain ⟨b, off, rfl, hbl, c0⟩ := (HOT.out.below HB.out).2 k hk2
   have hst := keep8_take o r s k hk2
   have hfl : ((o.take k).filter (keep8 r s)).length ≤ k := Nat.le_trans (List.length_filter_le _ _) (by rw [List.length_take]; omega)
   obtain ⟨x, hx⟩ : ∃ x, o.getD k [] = x := ⟨_, rfl⟩
   rw [hx] at c0 hst
   have hkx : keep8 r s x = decide (x ≠ s ∧ x ∈ r) := rfl
   have HH : Hid (_) := specHas (some ⟨gr, 0, none⟩) r.length cr r x W3 (HRT.out.below HB.out) (by omega)
   obtain ⟨F, hF⟩ : ∃ F, (o.take k).filter (keep8 r s) = F := ⟨_, rfl⟩
   rw [hF] at hst hfl HV
   obtain ⟨F2, hF2⟩ : ∃ F2, (o.take (k + 1)).filter (keep8 r s) = F2 := ⟨_, rfl⟩
   rw [hF2] at hst
   have HF2 : Hid ((o.take (k + 1)).filter (keep8 r s) = F2) := hF2
   clear hx hF hF2
   by_cases hxs : x = s
   ·
    have HV2 : Hid (W3.ownsRow w2.heap.size 9 1 u7 F2.length (strV F2)) := by
     exact (by rw [hst, if_neg (by rw [hkx, decide_eq_false (fun h => h.1 hxs)]; simp), List.append_nil]; exact HV.out : W3.ownsRow w2.heap.size 9 1 u7 F2.length (strV F2))
    subst hxs
    have hne : (x != x) = false := by simp
    clear hst hkx HV HH
    go_wp2
    go_roundw
    case rel => exact ⟨k + 1, by go_num, by omega, by rw [HF2.out]; exact HV2, HB⟩
    case measure => simp [intOf]; omega
   ·
    have hne : (x != s) = true := by rw [bne_iff_ne]; exact hxs
    have hne2 : (x == s) = false := by rw [beq_eq_false_iff_ne]; exact hxs
    by_cases hxr : x ∈ r
    ·
     rw [hkx, decide_eq_true ⟨hxs, hxr⟩, if_pos rfl] at hst
     rw [decide_eq_true hxr] at HH
     obtain ⟨v', Y, hrun, hv', hg⟩ := push_text x HV.out HB.out.size (by omega)
     have HV2 : Hid (Y.ownsRow w2.heap.size 9 1 v' F2.length (strV F2)) := by
      exact (by rw [hst, List.length_append, List.length_singleton]; exact hv' : Y.ownsRow w2.heap.size 9 1 v' F2.length (strV F2))
     have HBY : Hid (Below w2.heap.size w2 Y) := HB.out.grown hg HB.out.size (fun q e => (HV.out.lt q e).1)
     clear hst hkx hv' hg HV hxs hxr
     go_wp2_with (first | (go_at_call 61; refine Calls.mono HH.out ?_; rintro e w1 ⟨rfl, hw1⟩; obtain rfl := hw1.symm) | (at_builtin; refine wpList_append_run rfl (.tmp 35) (.tmp 40) 59 rfl _ _ _ rfl rfl hrun ?_; clear hrun))
     go_roundw
     case rel => exact ⟨k + 1, by go_num, by omega, by rw [HF2.out]; exact HV2, HBY⟩
     case measure => simp [intOf]; omega
    ·
     have HV2 : Hid (W3.ownsRow w2.heap.size 9 1 u7 F2.length (strV F2)) := by
      exact (by rw [hst, if_neg (by rw [hkx, decide_eq_false (fun h => hxr h.2)]; simp), List.append_nil]; exact HV.out : W3.ownsRow w2.heap.size 9 1 u7 F2.length (strV F2))
     rw [decide_eq_false hxr] at HH
     clear hst hkx HV hxs hxr
     go_wp2_with (go_at_call 61; refine Calls.mono HH.out ?_; rintro e w1 ⟨rfl, hw1⟩; obtain rfl := hw1.symm)
     go_roundw
     case rel => exact ⟨k + 1, by go_num, by omega, by rw [HF2.out]; exact HV2, HB⟩
     case measure => simp [intOf]; omega
  ·
   obtain rfl : k = o.length := by omega
   have hV := HV.out
   rw [List.take_of_length_le (Nat.le_refl _)] at hV
   have HVE : Hid (W3.ownsRow w2.heap.size 9 1 u7 (o.filter (keep8 r s)).length (strV (o.filter (keep8 r s)))) := hV
   have hsz := HB2.out.size
   have hBE := HB2.out.trans (HB.out.mono hsz)
   clear hV HV
   go_wp2
   go_ret
   exact ⟨_, rfl, own_base HVE.out hsz, hBE⟩




end Go.Proofs.Ytaioedcaopbgkaa

/-! What the bending of a text needs: a slice of bytes at the head of a block that is new since the call began, and an append's law at a step of a region that draws its order. -/
namespace Go.Proofs.Ytaioedcaopbgkaa
open Go.RowKit

/-- Block g, new since 'base', holds the bytes l from its head on, and they may be written. -/
structure RowB (w : World) (base g cap : Nat) (l : List UInt8) : Prop where
 new : base ≤ g
 there : g < w.heap.size
 room : l.length ≤ cap
 most : cap ≤ maxLen
 cells : ∀ j (hj : j < l.length), w.cell? ⟨g, j, none⟩ = some (.int .u8 (l[j].toNat : Int))
 free : ∀ j, j < l.length → w.frozen? ⟨g, j, none⟩ = false

theorem RowB.kept {w w' : World} {base g cap : Nat} {l : List UInt8} {row : Option Nat} (h : RowB w base g cap l) (hg : w.grownBy w' row) (hne : some g ≠ row) : RowB w' base g cap l := by
 have hb := hg.block g h.there hne
 exact ⟨h.new, Nat.lt_of_lt_of_le h.there hg.size, h.room, h.most, fun j hj => (World.cell?_of_block hb).trans (h.cells j hj), fun j hj => (World.frozen?_of_block hb).trans (h.free j hj)⟩

theorem RowB.base {w : World} {base base' g cap : Nat} {l : List UInt8} (h : RowB w base g cap l) (hb : base' ≤ base) : RowB w base' g cap l := ⟨Nat.le_trans hb h.new, h.there, h.room, h.most, h.cells, h.free⟩

theorem RowB.drew {w : World} {base g cap : Nat} {l : List UInt8} (h : RowB w base g cap l) : RowB w.drew base g cap l := ⟨h.new, h.there, h.room, h.most, h.cells, h.free⟩

/-- '[]byte(s)': the new block. -/
theorem RowB.made (w : World) (l : List UInt8) (hl : l.length ≤ maxLen) :
 RowB (w.drew.alloc (.cells (bytesRow ⟨l.toArray⟩ (grownCap w l.length 0 5)) 5 ((bytesRow ⟨l.toArray⟩ (grownCap w l.length 0 5)).size, (bytesRow ⟨l.toArray⟩ (grownCap w l.length 0 5)).size + 1))) w.heap.size w.heap.size (grownCap w l.length 0 5) l := by
 have hsz : l.length ≤ (bytesRow ⟨l.toArray⟩ (grownCap w l.length 0 5)).size := by simp [bytesRow]
 refine ⟨Nat.le_refl _, by simp, grownCap_ge _ _ _ _, grownCap_le_maxLen _ _ _ _ hl, ?_, ?_⟩
 ·
  intro j hj
  show (w.alloc _).cell? ⟨w.heap.size, j, none⟩ = _
  rw [World.cell?_alloc_mark, bytesRow_at ⟨l.toArray⟩ _ j (by simpa using hj)]
  simp
 ·
  intro j hj
  show (w.alloc _).frozen? ⟨w.heap.size, j, none⟩ = _
  rw [World.frozen?_alloc_mark]
  simp; omega

theorem add_plain (b off j : Nat) : (⟨b, off, none⟩ : Addr).add j = ⟨b, off + j, none⟩ := by unfold Addr.add; split <;> simp_all

end Go.Proofs.Ytaioedcaopbgkaa

/-! The contract of l1Bend: a text that is bent at most twice. -/
namespace Go.Proofs.Ytaioedcaopbgkaa
open Go.RowKit


end Go.Proofs.Ytaioedcaopbgkaa

/-! A row of bytes that a call has made of a string ('[]byte(s)'), and 'append(b, s...)' onto it, whether there is room or not. -/
namespace Go.Proofs.Ytaioedcaopbgkaa
open Go.RowKit

/-- Block g, new since 'base', holds the bytes l from its head on; all of its cap cells may be written. -/
structure RowW (w : World) (base g cap : Nat) (l : List UInt8) : Prop where
 row : RowB w base g cap l
 all : ∀ j, j < cap → (w.cell? ⟨g, j, none⟩).isSome = true ∧ w.frozen? ⟨g, j, none⟩ = false

theorem RowW.kept {w w' : World} {base g cap : Nat} {l : List UInt8} {row : Option Nat} (h : RowW w base g cap l) (hg : w.grownBy w' row) (hne : some g ≠ row) : RowW w' base g cap l := by
 have hb := hg.block g h.row.there hne
 exact ⟨h.row.kept hg hne, fun j hj => by rw [World.cell?_of_block (a := ⟨g, j, none⟩) hb, World.frozen?_of_block (a := ⟨g, j, none⟩) hb]; exact h.all j hj⟩

theorem RowW.below {w w' : World} {base g cap : Nat} {l : List UInt8} (h : RowW w base g cap l) (hb : Below w.heap.size w w') : RowW w' base g cap l :=
 h.kept (row := none) ⟨hb.os, hb.tape, hb.output, hb.size, fun k hk _ => hb.block k hk⟩ (by simp)

theorem RowW.drew {w : World} {base g cap : Nat} {l : List UInt8} (h : RowW w base g cap l) : RowW w.drew base g cap l :=
 h.below ⟨rfl, rfl, rfl, Nat.le_refl _, fun _ _ => rfl⟩

/-- '[]byte(s)': the new block, its value and its world. -/
theorem RowW.made (w : World) (l : List UInt8) (hl : l.length ≤ 4194304) :
 ∃ cap w', (convert 9 22 (.string ⟨l.toArray⟩)).run Try.prog w = .ok (.slice (some ⟨w.heap.size, 0, none⟩) l.length cap) w' ∧ RowW w' w.heap.size w.heap.size cap l ∧ Below w.heap.size w w' := by
 have hconv := run_bytes_of_string (P := Try.prog) w 9 22 5 ⟨l.toArray⟩ Try.underlying9 Try.underlying22 Try.underlying5
 have hrow := RowB.made w l (by unfold maxLen; omega)
 have hszs : (⟨l.toArray⟩ : ByteArray).size = l.length := rfl
 rw [hszs] at hconv
 have hge := grownCap_ge w l.length 0 5
 have hCs : (bytesRow ⟨l.toArray⟩ (grownCap w l.length 0 5)).size = grownCap w l.length 0 5 := by simp [bytesRow]; omega
 generalize bytesRow ⟨l.toArray⟩ (grownCap w l.length 0 5) = C at hconv hrow hCs
 generalize grownCap w l.length 0 5 = cp at hconv hrow hge hCs
 refine ⟨cp, _, hconv, ⟨hrow, fun j hj => ?_⟩, ((Below.refl _ w).drew).alloc (Nat.le_refl _) _⟩
 have hA : (w.drew.alloc (.cells C 5 (C.size, C.size + 1))).heap[w.heap.size]? = some (.cells C 5 (C.size, C.size + 1)) := heap_alloc_new w.drew _
 generalize w.drew.alloc (.cells C 5 (C.size, C.size + 1)) = W at hA ⊢
 refine ⟨?_, ?_⟩
 ·
  simp [World.cell?, hA]; omega
 ·
  simp [World.frozen?, hA]; omega

end Go.Proofs.Ytaioedcaopbgkaa

/-! The contracts of chapter 7's specification: l7Show, ShowPackage. -/
namespace Go.Proofs.Ytaioedcaopbgkaa
open Go.RowKit

/-- What a round of l7Show's second loop holds: the function's own block, the row that is written, the function's tree. -/
structure ShSt (X W : World) (B F g cap : Nat) (l s : List UInt8) (n : Int) (t : List Nd) (ta : Option Addr) (tl tc : Nat) : Prop where
 c0 : X.cell? ⟨F, 0, none⟩ = some (.string ⟨s.toArray⟩)
 c1 : X.cell? ⟨F, 1, none⟩ = some (.int .i64 n)
 c2 : X.cell? ⟨F, 2, none⟩ = some (.slice ta tl tc)
 ne : g ≠ F
 row : RowW X B g cap l
 nodes : NodesIn X ta tl t
 b : Below B W X
 bs : B ≤ X.heap.size

theorem ShSt.below {X Y W : World} {B F g cap : Nat} {l s : List UInt8} {n : Int} {t : List Nd} {ta : Option Addr} {tl tc : Nat} (h : ShSt X W B F g cap l s n t ta tl tc) (hb : Below X.heap.size X Y) : ShSt Y W B F g cap l s n t ta tl tc :=
 have hl : F < X.heap.size := World.block_lt_of_cell? X ⟨F, 0, none⟩ h.c0
 ⟨(hb.cell (p := ⟨F, 0, none⟩) hl).trans h.c0, (hb.cell (p := ⟨F, 1, none⟩) hl).trans h.c1, (hb.cell (p := ⟨F, 2, none⟩) hl).trans h.c2, h.ne, h.row.below hb, h.nodes.below hb, h.b.trans (hb.mono h.bs), Nat.le_trans h.bs hb.size⟩

theorem ShSt.drew {X W : World} {B F g cap : Nat} {l s : List UInt8} {n : Int} {t : List Nd} {ta : Option Addr} {tl tc : Nat} (h : ShSt X W B F g cap l s n t ta tl tc) : ShSt X.drew W B F g cap l s n t ta tl tc :=
 h.below ⟨rfl, rfl, rfl, Nat.le_refl _, fun _ _ => rfl⟩

end Go.Proofs.Ytaioedcaopbgkaa

/-! The contract of chapter 6's specification: the node of a word. -/
namespace Go.Proofs.Ytaioedcaopbgkaa
open Go.RowKit

end Go.Proofs.Ytaioedcaopbgkaa

/-! The contract of chapter 6's specification: ReadTree. -/
namespace Go.Proofs.Ytaioedcaopbgkaa
open Go.RowKit

/-- What a row of nodes holds. -/
def nodesV : List Nd → List Value
 | [] => []
 | n :: r => .int .i64 n.1 :: .int .i64 n.2.1 :: .string ⟨n.2.2.1.toArray⟩ :: .string ⟨n.2.2.2.toArray⟩ :: nodesV r

theorem nodesV_len (ns : List Nd) : (nodesV ns).length = ns.length * 4 := by
 induction ns with
 | nil => rfl
 | cons n r ih => simp only [nodesV, List.length_cons, ih]; omega

theorem nodesV_append (x y : List Nd) : nodesV (x ++ y) = nodesV x ++ nodesV y := by
 induction x with
 | nil => rfl
 | cons n r ih => simp only [List.cons_append, nodesV, ih]

theorem nodesV_one (ns : List Nd) : ∀ u ∈ nodesV ns, u.oneCell' = true := by
 induction ns with
 | nil => intro u hu; cases hu
 | cons n r ih =>
  intro u hu
  simp only [nodesV, List.mem_cons] at hu
  rcases hu with rfl | rfl | rfl | rfl | h
  ·
   rfl
  ·
   rfl
  ·
   rfl
  ·
   rfl
  ·
   exact ih u h

theorem nodesV_at (ns : List Nd) (j : Nat) (hj : j < ns.length) : (nodesV ns)[j * 4]? = some (.int .i64 (ns.getD j nd0).1) ∧ (nodesV ns)[j * 4 + 1]? = some (.int .i64 (ns.getD j nd0).2.1) ∧ (nodesV ns)[j * 4 + 2]? = some (.string ⟨(ns.getD j nd0).2.2.1.toArray⟩) ∧ (nodesV ns)[j * 4 + 3]? = some (.string ⟨(ns.getD j nd0).2.2.2.toArray⟩) := by
 induction ns generalizing j with
 | nil => simp at hj
 | cons n r ih =>
  cases j with
  | zero => simp [nodesV]
  | succ j =>
   have h := ih j (by simpa using hj)
   rw [show (j + 1) * 4 = j * 4 + 1 + 1 + 1 + 1 by omega]
   simpa [nodesV] using h

/-- A row of nodes that a call owns is a list of nodes. -/
theorem own_nodes {w : World} {base n : Nat} {v : Value} {ns : List Nd} (h : w.ownsRow base 73 4 v n (nodesV ns)) : ns.length = n ∧ ∃ a cap, v = .slice a n cap ∧ NodesIn w a n ns := by
 have hlen : ns.length = n := by have := h.1; rw [nodesV_len] at this; omega
 refine ⟨hlen, ?_⟩
 rcases own_forms h with ⟨rfl, rfl, _⟩ | ⟨g, cp, rfl⟩
 ·
  exact ⟨none, 0, rfl, hlen, fun j hj => by omega⟩
 ·
  refine ⟨some ⟨g, 0, none⟩, cp, rfl, hlen, fun j hj => ?_⟩
  obtain ⟨v0, v1, v2, v3⟩ := nodesV_at ns j (by omega)
  have c0 := h.cellAt (j * 4) (by omega)
  have c1 := h.cellAt (j * 4 + 1) (by omega)
  have c2 := h.cellAt (j * 4 + 2) (by omega)
  have c3 := h.cellAt (j * 4 + 3) (by omega)
  rw [v0] at c0
  rw [v1] at c1
  rw [v2] at c2
  rw [v3] at c3
  refine ⟨g, 0, rfl, (h.lt g rfl).2, ?_, ?_, ?_, ?_⟩
  ·
   rw [Nat.zero_add]; exact c0
  ·
   rw [Nat.zero_add]; exact c1
  ·
   rw [Nat.zero_add]; exact c2
  ·
   rw [Nat.zero_add]; exact c3

theorem infoNode : (Try.prog.info? 73).map (fun i => (i.zero, i.size, i.bytes)) = some (some (.agg #[.int .i64 0, .int .i64 0, .string ⟨#[]⟩, .string ⟨#[]⟩]), 4, 48) := by kernel_rfl

theorem new_node (w : World) (n : Nd) : ∀ j u, (nodesV [n])[j]? = some u → (w.alloc (.cells #[.int .i64 n.1, .int .i64 n.2.1, .string ⟨n.2.2.1.toArray⟩, .string ⟨n.2.2.2.toArray⟩] 73)).cell? ((⟨w.heap.size, 0, none⟩ : Addr).add j) = some u := by
 intro j u hu
 have e : (⟨w.heap.size, 0, none⟩ : Addr).add j = ⟨w.heap.size, j, none⟩ := by unfold Addr.add; split <;> simp_all
 rw [e]
 match j, hu with
 | 0, hu => simp [nodesV] at hu; subst hu; simp
 | 1, hu => simp [nodesV] at hu; subst hu; simp
 | 2, hu => simp [nodesV] at hu; subst hu; simp
 | 3, hu => simp [nodesV] at hu; subst hu; simp
 | j + 4, hu => simp [nodesV] at hu

end Go.Proofs.Ytaioedcaopbgkaa

/-! Texts and trees are copied: l1Texts; rows as 'append' reads them. -/
namespace Go.Proofs.Ytaioedcaopbgkaa
open Go.RowKit


theorem TextsIn.src {w : World} {a : Option Addr} {len cap : Nat} {ts : List (List UInt8)} (h : TextsIn w a len ts) (hc : a = none → cap = 0) : Src w (.slice a len cap) len 1 (strV ts) := by
 have hl : (strV ts).length = len := by simp [strV, h.1]
 refine ⟨by rw [hl]; omega, fun u hu => ?_, ?_⟩
 ·
  simp only [strV, List.mem_map] at hu
  obtain ⟨x, _, rfl⟩ := hu
  rfl
 rcases a with _ | ad
 ·
  have h0 : len = 0 := by
   rcases Nat.eq_zero_or_pos len with h' | h'
   ·
    exact h'
   ·
    obtain ⟨b, off, e, _⟩ := h.2 0 h'
    cases e
  exact Or.inl ⟨by rw [h0, hc rfl], h0⟩
 ·
  refine Or.inr ⟨ad, cap, rfl, fun j u hu => ?_⟩
  have hj : j < (strV ts).length := by
   rcases Nat.lt_or_ge j (strV ts).length with h' | h'
   ·
    exact h'
   ·
    rw [List.getElem?_eq_none h'] at hu; cases hu
  rw [hl] at hj
  obtain ⟨b, off, e, _, c0⟩ := h.2 j hj
  injection e with e
  subst e
  rw [add_plain, c0]
  rw [strV_at ts j (by rw [h.1]; exact hj)] at hu
  rw [← hu, List.getD_eq_getElem?_getD, List.getElem?_eq_getElem (by rw [h.1]; exact hj)]
  rfl

theorem NodesIn.src {w : World} {a : Option Addr} {len cap : Nat} {ns : List Nd} (h : NodesIn w a len ns) (hc : a = none → cap = 0) : Src w (.slice a len cap) len 4 (nodesV ns) := by
 refine ⟨by rw [nodesV_len, h.1], nodesV_one ns, ?_⟩
 rcases a with _ | ad
 ·
  have h0 : len = 0 := by
   rcases Nat.eq_zero_or_pos len with h' | h'
   ·
    exact h'
   ·
    obtain ⟨b, off, e, _⟩ := h.2 0 h'
    cases e
  exact Or.inl ⟨by rw [h0, hc rfl], h0⟩
 ·
  refine Or.inr ⟨ad, cap, rfl, fun j u hu => ?_⟩
  have hj : j < (nodesV ns).length := by
   rcases Nat.lt_or_ge j (nodesV ns).length with h' | h'
   ·
    exact h'
   ·
    rw [List.getElem?_eq_none h'] at hu; cases hu
  rw [nodesV_len, h.1] at hj
  obtain ⟨b, off, e, _, c0, c1, c2, c3⟩ := h.2 (j / 4) (by omega)
  injection e with e
  subst e
  obtain ⟨v0, v1, v2, v3⟩ := nodesV_at ns (j / 4) (by rw [h.1]; omega)
  rw [add_plain]
  rcases (show j % 4 = 0 ∨ j % 4 = 1 ∨ j % 4 = 2 ∨ j % 4 = 3 by omega) with h' | h' | h' | h'
  ·
   rw [show j / 4 * 4 = j by omega] at v0 c0
   rw [hu] at v0
   rw [c0, v0]
  ·
   rw [show j / 4 * 4 + 1 = j by omega] at v1
   rw [hu] at v1
   rw [show off + j = off + j / 4 * 4 + 1 by omega, c1, v1]
  ·
   rw [show j / 4 * 4 + 2 = j by omega] at v2
   rw [hu] at v2
   rw [show off + j = off + j / 4 * 4 + 2 by omega, c2, v2]
  ·
   rw [show j / 4 * 4 + 3 = j by omega] at v3
   rw [hu] at v3
   rw [show off + j = off + j / 4 * 4 + 3 by omega, c3, v3]


end Go.Proofs.Ytaioedcaopbgkaa

/-! The laws' own helpers over nodes and rows of nodes: szNode, szNodeS, toNode, toNodeS, eqNode, eqNodeS. -/
namespace Go.Proofs.Ytaioedcaopbgkaa
open Go.RowKit

/-- How many bytes the texts of nodes have in all. -/
def textsN : List Nd → Nat
 | [] => 0
 | n :: r => n.2.2.1.length + n.2.2.2.length + textsN r
def szN (m n : Nat) (left : Int) : Int := if (m : Int) + (n : Int) ≤ left then left - (m : Int) - (n : Int) else -1
/-- A node's numbers are numbers of 64 bits. -/
def IntN (n : Nd) : Prop := (-9223372036854775808 ≤ n.1 ∧ n.1 ≤ 9223372036854775807) ∧ (-9223372036854775808 ≤ n.2.1 ∧ n.2.1 ≤ 9223372036854775807)
def IntT (ns : List Nd) : Prop := ∀ j, IntN (ns.getD j nd0)
theorem intN_nd0 : IntN nd0 := by unfold IntN nd0; decide
theorem IntT.nil : IntT [] := fun j => by rw [show ([] : List Nd).getD j nd0 = nd0 by simp]; exact intN_nd0
def LongT (ns : List Nd) : Prop := ∀ j, (ns.getD j nd0).2.2.1.length ≤ maxLen ∧ (ns.getD j nd0).2.2.2.length ≤ maxLen




end Go.Proofs.Ytaioedcaopbgkaa

/-! A function is copied: l7CopyFunc. -/
namespace Go.Proofs.Ytaioedcaopbgkaa
open Go.RowKit


end Go.Proofs.Ytaioedcaopbgkaa

/-! The contract of chapter 7's specification: FuncOf. -/
namespace Go.Proofs.Ytaioedcaopbgkaa
open Go.RowKit

def foundB (p : Pk) (s : List UInt8) : Bool := pkgB p && decide (0 ≤ atV p.2.2 s)
def foundV (p : Pk) (s : List UInt8) : Fn := if foundB p s = true then p.2.2.getD (atV p.2.2 s).toNat fn0 else fn0

/-- What FuncOf holds while it finds one. -/
structure FoSt (X w : World) (D : Nat) (nm : List UInt8) (ia : Option Addr) (il ic : Nat) (b off fl fc : Nat) (ims : List (List UInt8)) (fs : List Fn) (j : Nat) (s : List UInt8) (n : Int) (t : List Nd) (ta : Option Addr) (tl tc : Nat) : Prop where
 p : PkIn X D nm ia il ic (some ⟨b, off, none⟩) fl fc ims fs
 c0 : X.cell? ⟨b, off + j * 3, none⟩ = some (.string ⟨s.toArray⟩)
 c1 : X.cell? ⟨b, off + j * 3 + 1, none⟩ = some (.int .i64 n)
 c2 : X.cell? ⟨b, off + j * 3 + 2, none⟩ = some (.slice ta tl tc)
 nodes : NodesIn X ta tl t
 r0 : X.cell? ⟨D + 1, 0, none⟩ = some (.string ⟨#[]⟩)
 r1 : X.cell? ⟨D + 1, 1, none⟩ = some (.int .i64 0)
 r2 : X.cell? ⟨D + 1, 2, none⟩ = some (.slice none 0 0)
 fr : ∀ j, X.frozen? ⟨D + 1, j, none⟩ = false
 b : Below D w X
 bs : D ≤ X.heap.size

theorem FoSt.below {X Y w : World} {D : Nat} {nm : List UInt8} {ia : Option Addr} {il ic : Nat} {b off fl fc : Nat} {ims : List (List UInt8)} {fs : List Fn} {j : Nat} {s : List UInt8} {n : Int} {t : List Nd} {ta : Option Addr} {tl tc : Nat}
 (h : FoSt X w D nm ia il ic b off fl fc ims fs j s n t ta tl tc) (hb : Below X.heap.size X Y) : FoSt Y w D nm ia il ic b off fl fc ims fs j s n t ta tl tc :=
 have hl : b < X.heap.size := World.block_lt_of_cell? X ⟨b, off + j * 3, none⟩ h.c0
 have hr : D + 1 < X.heap.size := World.block_lt_of_cell? X ⟨D + 1, 0, none⟩ h.r0
 ⟨h.p.below hb, (hb.cell (p := ⟨b, off + j * 3, none⟩) hl).trans h.c0, (hb.cell (p := ⟨b, off + j * 3 + 1, none⟩) hl).trans h.c1, (hb.cell (p := ⟨b, off + j * 3 + 2, none⟩) hl).trans h.c2, h.nodes.below hb,
  (hb.cell (p := ⟨D + 1, 0, none⟩) hr).trans h.r0, (hb.cell (p := ⟨D + 1, 1, none⟩) hr).trans h.r1, (hb.cell (p := ⟨D + 1, 2, none⟩) hr).trans h.r2, fun i => (hb.frozen (p := ⟨D + 1, i, none⟩) hr).trans (h.fr i), h.b.trans (hb.mono h.bs), Nat.le_trans h.bs hb.size⟩

theorem FoSt.drew {X w : World} {D : Nat} {nm : List UInt8} {ia : Option Addr} {il ic : Nat} {b off fl fc : Nat} {ims : List (List UInt8)} {fs : List Fn} {j : Nat} {s : List UInt8} {n : Int} {t : List Nd} {ta : Option Addr} {tl tc : Nat}
 (h : FoSt X w D nm ia il ic b off fl fc ims fs j s n t ta tl tc) : FoSt X.drew w D nm ia il ic b off fl fc ims fs j s n t ta tl tc := h.below ⟨rfl, rfl, rfl, Nat.le_refl _, fun _ _ => rfl⟩

/-- Three cells of a block are written. -/
theorem set3 {X : World} {R : Nat} {a0 a1 a2 : Value} (u0 u1 u2 : Value) (r0 : X.cell? ⟨R, 0, none⟩ = some a0) (r1 : X.cell? ⟨R, 1, none⟩ = some a1) (r2 : X.cell? ⟨R, 2, none⟩ = some a2) :
 ∃ Y, ((X.setCell ⟨R, 0, none⟩ u0).setCell ⟨R, 1, none⟩ u1).setCell ⟨R, 2, none⟩ u2 = Y ∧ Y.cell? ⟨R, 0, none⟩ = some u0 ∧ Y.cell? ⟨R, 1, none⟩ = some u1 ∧ Y.cell? ⟨R, 2, none⟩ = some u2 ∧ X.grownBy Y (some R) := by
 refine ⟨_, rfl, ?_, ?_, ?_, ?_⟩
 ·
  exact (World.cell?_setCell_other _ _ _ _ (by simp)).trans ((World.cell?_setCell_other _ _ _ _ (by simp)).trans (World.cell?_setCell_same _ _ _ r0))
 ·
  exact (World.cell?_setCell_other _ _ _ _ (by simp)).trans (World.cell?_setCell_same _ _ _ ((World.cell?_setCell_other _ _ _ _ (by simp)).trans r1))
 ·
  exact World.cell?_setCell_same _ _ _ ((World.cell?_setCell_other _ _ _ _ (by simp)).trans ((World.cell?_setCell_other _ _ _ _ (by simp)).trans r2))
 ·
  exact ((grown_setCell _ _ _ _).trans (grown_setCell _ _ _ _)).trans (grown_setCell _ _ _ _)

/-- A row that is owned above a block does not lie in it. -/
theorem own_off {w : World} {base e size n R : Nat} {v : Value} {xs : List Value} (h : w.ownsRow base e size v n xs) (hR : R < base) : v.ownBlock = none ∨ v.ownBlock ≠ some R := by
 rcases hv : v.ownBlock with _ | k
 ·
  exact Or.inl rfl
 ·
  refine Or.inr (fun e => ?_)
  have := (h.lt k hv).1
  injection e with e
  omega

end Go.Proofs.Ytaioedcaopbgkaa
