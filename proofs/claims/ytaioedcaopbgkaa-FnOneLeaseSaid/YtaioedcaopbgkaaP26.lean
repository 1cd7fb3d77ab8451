/-
  Parts of one proof, one behind the other: DrawTr2, DrawTr3, DrawTr4, Draw7, Draw7A, Draw7C.
-/
import Derived.Test.YtaioedcaopbgkaaP25
import Derived.Test.YtaioedcaopbgkaaP10
import Derived.Test.YtaioedcaopbgkaaP11
import Derived.Deep.RegionLaw
import Derived.Lib.SmallJoins
import Derived.Maps.AppendAt

/-! A right tree is drawn, and any list of nodes. -/
namespace Go.Proofs.Ytaioedcaopbgkaa
open Go.RowKit

theorem small_at {ns : List Nd} (h : SmallT ns) (j : Nat) : SmallN (ns.getD j nd0) := by
 rw [List.getD_eq_getElem?_getD]
 rcases Nat.lt_or_ge j ns.length with hj | hj
 ·
  rw [List.getElem?_eq_getElem hj]; exact h _ (List.getElem_mem hj)
 ·
  rw [List.getElem?_eq_none hj]; exact ⟨intN_nd0, by decide, by decide⟩

theorem SmallT.short {ns : List Nd} (h : SmallT ns) : ShortT ns := fun j => ⟨Nat.le_trans (small_at h j).2.1 (by omega), Nat.le_trans (small_at h j).2.2 (by omega)⟩
theorem SmallT.int {ns : List Nd} (h : SmallT ns) : IntT ns := fun j => (small_at h j).1

set_option maxHeartbeats 2000000 in
set_option maxRecDepth 100000 in
theorem drawTreeOk (w : World) (B : Nat) (a : Option Addr) (len cap : Nat) (args : Int) (ca : Option Addr) (cl cc : Nat) (calls : List Nd) (ha0 : 0 ≤ args) (ha1 : args ≤ 1000) (hc : Cur w B a len cap) (hin : NodesIn w ca cl calls) (hcl : cl ≤ 1000) (hsm : ∀ j, SmallN (calls.getD j nd0)) (hkd : ∀ j, kidsV (calls.getD j nd0) ≤ 3) (hne : ∀ b off, ca = some ⟨b, off, none⟩ → b ≠ B) :
 Calls Try.prog 57 #[.pointer (some ⟨B, 0, none⟩), .int .i64 args, .slice ca cl cc] w fun e w' => ∃ v ns, e = .returned v ∧ w'.ownsRow w.heap.size 73 4 v ns.length (nodesV ns) ∧ treeB ns = true ∧ SmallT ns ∧ Cur w' B a len cap ∧ w.grownBy w' (some B) := by
 have HIN : Hid (NodesIn w ca cl calls) := hin
 have HSM : Hid (∀ j, SmallN (calls.getD j nd0)) := hsm
 have HKD : Hid (∀ j, kidsV (calls.getD j nd0) ≤ 3) := hkd
 have HNE : Hid (∀ b off, ca = some ⟨b, off, none⟩ → b ≠ B) := hne
 clear hin hsm hkd hne
 go_enter Try.func57, Try.ntmps57
 go_wp2_with fail
 refine (drawBelow _ B a len cap 3 (by omega) (by omega) hc).mono ?_
 rintro e w1 ⟨x1, rfl, h10, h11, hc1, hg1⟩
 obtain ⟨d1, rfl⟩ : ∃ d1 : Nat, x1 = (d1 : Int) := Int.eq_ofNat_of_zero_le h10
 have hin1 : NodesIn w1 ca cl calls := HIN.out.keep hg1.size (fun b off e hlt => hg1.block b hlt (fun e2 => HNE.out b off e (by injection e2)))
 have hC : Hid (_) := drawTree6 (1 + d1) w1 B a len cap args ca cl cc calls (by omega) ha0 ha1 hc1 hin1 hcl HSM.out HKD.out HNE.out
 rw [show ((1 + d1 : Nat) : Int) = 1 + (d1 : Int) by omega] at hC
 clear HIN HSM HKD HNE hin1 hc hc1
 go_wp2_with fail
 refine Calls.mono hC.out ?_
 rintro e w2 ⟨v2, ns, rfl, hown2, hl2, hs2, hc2, hg2⟩
 have hG2 := hg1.trans hg2
 obtain ⟨_, a2, c2, rfl, hin2⟩ := own_nodes hown2
 have hT : Hid (_) := specTreeOk a2 ns.length c2 ns w2 hin2 hs2.short (by omega)
 have hown3 := own_base hown2 hg1.size
 clear hC hg1 hg2 hown2 hin2
 go_wp2_with fail
 refine Calls.mono hT.out ?_
 rintro e w4 ⟨rfl, hb4⟩
 have hown4 := own_below hown3 hb4
 have hc4 := hc2.below hb4
 have hG4 : w.grownBy w4 (some B) := hG2.andThen (Below.by hb4) (by simp)
 clear hT hb4 hown3 hc2 hG2
 rcases htb : treeB ns with _ | _
 ·
  have hown := lit1 w w4 ((1, 7, [], []) : Nd) hG4.size
  have hgz := hG4.trans (World.grownBy_alloc w4 (.cells #[.int .i64 1, .int .i64 7, .string ⟨#[]⟩, .string ⟨#[]⟩] 73) (some B))
  have hcz := hc4.kept (World.grownBy_alloc w4 (.cells #[.int .i64 1, .int .i64 7, .string ⟨#[]⟩, .string ⟨#[]⟩] 73) none) (by simp)
  simp only at hown
  go_wp2
  go_ret
  exact ⟨_, [((1, 7, [], []) : Nd)], rfl, hown, by decide, by intro m hm; rw [List.mem_singleton] at hm; subst hm; exact ⟨⟨by decide, by decide⟩, by decide, by decide⟩, hcz, hgz⟩
 ·
  have HB : Hid (treeB ns = true) := htb
  clear htb
  go_wp2
  go_ret
  exact ⟨_, ns, rfl, hown4, HB.out, hs2, hc4, hG4⟩

end Go.Proofs.Ytaioedcaopbgkaa

/-! Any list of nodes is drawn. -/
namespace Go.Proofs.Ytaioedcaopbgkaa
open Go.RowKit

theorem small_app {ns ms : List Nd} (h : SmallT ns) (k : SmallT ms) : SmallT (ns ++ ms) := fun n hn => (List.mem_append.1 hn).elim (h n) (k n)
def callsA : List Nd := [(8, 2, [108, 105, 98], [102]), (8, 0, [108, 105, 98], [103])]

def lenV : Value → Nat
 | .slice _ n _ => n
 | _ => 0

end Go.Proofs.Ytaioedcaopbgkaa

/-! The contracts of DrawTreeOk, DrawShowTree, DrawEndOf, DrawPartsOf, DrawReadTree. -/
namespace Go.Proofs.Ytaioedcaopbgkaa
open Go.RowKit

/-- A drawn list, as a law has it. -/
def Drawn6 (w wx : World) (v : Value) (ns : List Nd) : Prop := wx.ownsRow w.heap.size 73 4 v ns.length (nodesV ns) ∧ ns.length ≤ 62 ∧ SmallT ns ∧ EndsOk ns

end Go.Proofs.Ytaioedcaopbgkaa

/-! A package is drawn: what the drawing holds. -/
namespace Go.Proofs.Ytaioedcaopbgkaa
open Go.RowKit

theorem FnsOwn.grown {w w' : World} {base : Nat} {v : Value} {xs : List FV} {row : Option Nat} (h : FnsOwn w base v xs) (hg : w.grownBy w' row) (hr : ∀ k, row = some k → k < base) : FnsOwn w' base v xs := by
 have off : ∀ {e size n : Nat} {u : Value} {ys : List Value}, w.ownsRow base e size u n ys → u.ownBlock = Option.none ∨ u.ownBlock ≠ row := fun {e size n u ys} ho => by
  cases hu : u.ownBlock with
  | none => exact Or.inl rfl
  | some k => exact Or.inr (fun e2 => by have := (ho.lt k hu).1; have := hr k e2.symm; omega)
 exact ⟨h.row.kept hg (off h.row), fun x hx => (h.trees x hx).kept hg (off (h.trees x hx))⟩

theorem own_grown {w w' : World} {base e size n : Nat} {u : Value} {ys : List Value} {row : Option Nat} (h : w.ownsRow base e size u n ys) (hg : w.grownBy w' row) (hr : ∀ k, row = some k → k < base) : w'.ownsRow base e size u n ys := h.kept hg (by
 cases hu : u.ownBlock with
 | none => exact Or.inl rfl
 | some k => exact Or.inr (fun e2 => by have := (h.lt k hu).1; have := hr k e2.symm; omega))

/-- A function is put behind a row of them. -/
theorem push_fn (X : World) (base : Nat) (v : Value) (xs : List FV) (y : FV) (h : FnsOwn X base v xs) (hy : X.ownsRow base 73 4 (fvT y) y.1.2.2.length (nodesV y.1.2.2)) (hb : base ≤ X.heap.size) (hn : xs.length ≤ 1048576) :
 ∃ g' c' Y, (Builtin.append_ #[74, 74] 74 #[v, .slice (some ⟨X.heap.size, 0, none⟩) 1 1]).run Try.prog (X.alloc (.cells #[.string ⟨y.1.1.toArray⟩, .int .i64 y.1.2.1, fvT y] 79)) = .ok (.slice (some ⟨g', 0, none⟩) (xs.length + 1) c') Y ∧
  FnsOwn Y base (.slice (some ⟨g', 0, none⟩) (xs ++ [y]).length c') (xs ++ [y]) ∧ X.grownBy Y v.ownBlock := by
 obtain ⟨i0, hi, hz0, hz1, hz2⟩ := info_parts infoFunc
 have hX1 : Below X.heap.size X (X.alloc (.cells #[.string ⟨y.1.1.toArray⟩, .int .i64 y.1.2.1, fvT y] 79)) := (Below.refl _ _).alloc (Nat.le_refl _) _
 have h1 := h.below hX1
 have hy1 := own_below hy hX1
 obtain ⟨v', Y, hrun, hown, hg, _⟩ := run_append_src (P := Try.prog) (X.alloc (.cells #[.string ⟨y.1.1.toArray⟩, .int .i64 y.1.2.1, fvT y] 79)) base 74 74 79 i0 _ 3 48 Try.underlying74 hi hz0 hz1 hz2 rfl (by decide) _ _ _ h1.row _ 1 (fnsV [y]) (new_fn X y 1) (by unfold maxLen; omega) (by omega) (by simp; omega)
 obtain ⟨g', c', rfl⟩ := own_some hown (by omega)
 have e1 : (xs ++ [y]).length = xs.length + 1 := by simp
 have hown2 : Y.ownsRow base 79 3 (.slice (some ⟨g', 0, none⟩) (xs ++ [y]).length c') (xs ++ [y]).length (fnsV (xs ++ [y])) := by
  rw [e1, fnsV_append]; exact hown
 have htr : ∀ z ∈ xs ++ [y], Y.ownsRow base 73 4 (fvT z) z.1.2.2.length (nodesV z.1.2.2) := fun z hz => by
  rw [List.mem_append, List.mem_singleton] at hz
  rcases hz with hz | rfl
  ·
   exact (h1.trees z hz).kept hg (own_types (h1.trees z hz) h1.row (by decide))
  ·
   exact hy1.kept hg (own_types hy1 h1.row (by decide))
 exact ⟨g', c', Y, hrun, ⟨hown2, htr⟩, (World.grownBy_alloc X _ _).trans hg⟩

/-- What l7Draw holds: the package so far (at P), the answer's zero cells (at R), the calls that are known (vo). -/
structure DrSt (X w : World) (B : Nat) (a : Option Addr) (len cap : Nat) (R P : Nat) (nm : List UInt8) (vi : Value) (fa : Option Addr) (fc : Nat) (xs : List FV) (vo : Value) (ns : List Nd) : Prop where
 p : Box3 X P (.string ⟨nm.toArray⟩) vi (.slice fa xs.length fc)
 pf : ∀ j, X.frozen? ⟨P, j, none⟩ = false
 r : Box3 X R (.string ⟨#[]⟩) (.slice none 0 0) (.slice none 0 0)
 rf : ∀ j, X.frozen? ⟨R, j, none⟩ = false
 fo : FnsOwn X (P + 1) (.slice fa xs.length fc) xs
 ow : X.ownsRow (P + 1) 73 4 vo ns.length (nodesV ns)
 cur : Cur X B a len cap
 g : w.grownBy X (some B)
 br : B < R
 rp : R < P
 wr : w.heap.size = R
 ap : ∀ x ∈ xs, (fvT x).ownBlock = none ∨ (fvT x).ownBlock ≠ vo.ownBlock

section
variable {X Y w : World} {B : Nat} {a : Option Addr} {len cap R P : Nat} {nm : List UInt8} {vi : Value} {fa : Option Addr} {fc : Nat} {xs : List FV} {vo : Value} {ns : List Nd}

/-- The cursor went on, or something was made. -/
theorem DrSt.next (h : DrSt X w B a len cap R P nm vi fa fc xs vo ns) (hg : X.grownBy Y (some B)) (hc : Cur Y B a len cap) : DrSt Y w B a len cap R P nm vi fa fc xs vo ns :=
 have hp : some P ≠ some B := fun e => by injection e with e; have := h.br; have := h.rp; omega
 have hr : some R ≠ some B := fun e => by injection e with e; have := h.br; omega
 have hlt : ∀ k, some B = some k → k < P + 1 := fun k e => by injection e with e; have := h.br; have := h.rp; omega
 ⟨h.p.grown hg hp, fun j => (World.frozen?_of_block (a := ⟨P, j, none⟩) (hg.block P h.p.lt hp)).trans (h.pf j), h.r.grown hg hr, fun j => (World.frozen?_of_block (a := ⟨R, j, none⟩) (hg.block R h.r.lt hr)).trans (h.rf j),
  h.fo.grown hg hlt, own_grown h.ow hg hlt, hc, h.g.trans hg, h.br, h.rp, h.wr, h.ap⟩
theorem DrSt.made (h : DrSt X w B a len cap R P nm vi fa fc xs vo ns) (hg : X.grownBy Y none) : DrSt Y w B a len cap R P nm vi fa fc xs vo ns :=
 h.next ⟨hg.os, hg.tape, hg.output, hg.size, fun k hk _ => hg.block k hk (by simp)⟩ (h.cur.kept hg (by simp))
theorem DrSt.alloc (h : DrSt X w B a len cap R P nm vi fa fc xs vo ns) (o : Obj) : DrSt (X.alloc o) w B a len cap R P nm vi fa fc xs vo ns := h.made (World.grownBy_alloc X o none)
theorem DrSt.drew (h : DrSt X w B a len cap R P nm vi fa fc xs vo ns) : DrSt X.drew w B a len cap R P nm vi fa fc xs vo ns := h.made (grown_drew X none)
/-- A block of one's own, apart from all that, is written. -/
theorem DrSt.side (h : DrSt X w B a len cap R P nm vi fa fc xs vo ns) {k : Nat} (hg : X.grownBy Y (some k)) (hk : P < k) (hf : ∀ q, (Value.slice fa xs.length fc).ownBlock = some q → q ≠ k) (ht : ∀ x ∈ xs, ∀ q, (fvT x).ownBlock = some q → q ≠ k) (ho : ∀ q, vo.ownBlock = some q → q ≠ k) : DrSt Y w B a len cap R P nm vi fa fc xs vo ns := by
 have hB := h.br
 have hR := h.rp
 have hW := h.wr
 have hp : some P ≠ some k := fun e => by injection e with e; omega
 have hr : some R ≠ some k := fun e => by injection e with e; omega
 have off : ∀ {u : Value}, (∀ q, u.ownBlock = some q → q ≠ k) → u.ownBlock = none ∨ u.ownBlock ≠ some k := fun {u} hu => by
  cases hv : u.ownBlock with
  | none => exact Or.inl rfl
  | some q => exact Or.inr (fun e => by injection e with e; exact hu q hv e)
 refine ⟨h.p.grown hg hp, fun j => (World.frozen?_of_block (a := ⟨P, j, none⟩) (hg.block P h.p.lt hp)).trans (h.pf j), h.r.grown hg hr, fun j => (World.frozen?_of_block (a := ⟨R, j, none⟩) (hg.block R h.r.lt hr)).trans (h.rf j),
  h.fo.kept hg (off hf) (fun x hx => off (ht x hx)), h.ow.kept hg (off ho), h.cur.kept hg (fun q e => by injection e with e; omega), ?_, h.br, h.rp, h.wr, h.ap⟩
 exact ⟨hg.os.trans h.g.os, hg.tape.trans h.g.tape, hg.output.trans h.g.output, Nat.le_trans h.g.size hg.size, fun q hq hn => (hg.block q (Nat.lt_of_lt_of_le hq h.g.size) (fun e => by injection e with e; omega)).trans (h.g.block q hq hn)⟩
end

/-- A block of three cells that was just made, behind a draw. -/
theorem box_new {V : World} {a b c : Value} {t : TypeId} : Box3 (V.alloc (.cells #[a, b, c] t)) V.heap.size a b c ∧ ∀ j, (V.alloc (.cells #[a, b, c] t)).frozen? ⟨V.heap.size, j, none⟩ = false :=
 ⟨(Box3.new V a b c t).1, fun j => Go.Joins.unfrozen_of_block (heap_alloc_new V (.cells #[a, b, c] t)) j⟩
theorem box_on {V Y : World} {B k : Nat} {a b c : Value} (h : Box3 V k a b c ∧ ∀ j, V.frozen? ⟨k, j, none⟩ = false) (hg : V.grownBy Y (some B)) (hk : k ≠ B) : Box3 Y k a b c ∧ ∀ j, Y.frozen? ⟨k, j, none⟩ = false :=
 have hn : some k ≠ some B := fun e => by injection e with e; exact hk e
 ⟨h.1.grown hg hn, fun j => (World.frozen?_of_block (a := ⟨k, j, none⟩) (hg.block k h.1.lt hn)).trans (h.2 j)⟩
theorem box_up1 {V Y : World} {B : Nat} {a b c : Value} {t : TypeId} (hg : (V.alloc (.cells #[a, b, c] t)).drew.grownBy Y (some B)) (hB : B < V.heap.size) : Box3 Y V.heap.size a b c ∧ ∀ j, Y.frozen? ⟨V.heap.size, j, none⟩ = false :=
 box_on (V := (V.alloc (.cells #[a, b, c] t)).drew) ⟨box_new.1.drew, box_new.2⟩ hg (by omega)
theorem box_up2 {V Y : World} {B : Nat} {o : Obj} {a b c : Value} {t : TypeId} (hg : ((V.alloc o).alloc (.cells #[a, b, c] t)).drew.grownBy Y (some B)) (hB : B < V.heap.size) : Box3 Y (V.heap.size + 1) a b c ∧ ∀ j, Y.frozen? ⟨V.heap.size + 1, j, none⟩ = false := by
 have h := box_up1 (V := V.alloc o) hg (by simp; omega)
 rw [World.size_alloc] at h
 exact h
theorem box_up3 {V Y : World} {B : Nat} {o : Obj} {a b c : Value} {t : TypeId} (hg : ((V.alloc (.cells #[a, b, c] t)).alloc o).drew.grownBy Y (some B)) (hB : B < V.heap.size) : Box3 Y V.heap.size a b c ∧ ∀ j, Y.frozen? ⟨V.heap.size, j, none⟩ = false := by
 have hb : Below (V.alloc (.cells #[a, b, c] t)).heap.size (V.alloc (.cells #[a, b, c] t)) ((V.alloc (.cells #[a, b, c] t)).alloc o) := (Below.refl _ _).alloc (Nat.le_refl _) _
 have h := box_new (V := V) (a := a) (b := b) (c := c) (t := t)
 exact box_on (V := ((V.alloc (.cells #[a, b, c] t)).alloc o).drew) ⟨(h.1.below hb).drew, fun j => (hb.frozen (p := ⟨V.heap.size, j, none⟩) (by simp)).trans (h.2 j)⟩ hg (by omega)
/-- The three cells are written. -/
theorem box_set {V : World} {k : Nat} {a b c : Value} (a' b' c' : Value) (h : Box3 V k a b c ∧ ∀ j, V.frozen? ⟨k, j, none⟩ = false) :
 (Box3 (((V.setCell ⟨k, 0, none⟩ a').setCell ⟨k, 1, none⟩ b').setCell ⟨k, 2, none⟩ c') k a' b' c' ∧ ∀ j, (((V.setCell ⟨k, 0, none⟩ a').setCell ⟨k, 1, none⟩ b').setCell ⟨k, 2, none⟩ c').frozen? ⟨k, j, none⟩ = false) ∧ V.grownBy (((V.setCell ⟨k, 0, none⟩ a').setCell ⟨k, 1, none⟩ b').setCell ⟨k, 2, none⟩ c') (some k) := by
 obtain ⟨Y, hY, y0, y1, y2, hg⟩ := set3 a' b' c' h.1.c0 h.1.c1 h.1.c2
 rw [hY]
 refine ⟨⟨⟨y0, y1, y2⟩, fun j => ?_⟩, hg⟩
 rw [← hY]
 exact (World.frozen?_setCell ..).trans ((World.frozen?_setCell ..).trans ((World.frozen?_setCell ..).trans (h.2 j)))

theorem frozen_alw {w : World} {k j : Nat} (o : Obj) (hk : k < w.heap.size) (h : w.frozen? ⟨k, j, none⟩ = false) : (w.alloc o).frozen? ⟨k, j, none⟩ = false :=
 (World.frozen?_of_block (a := ⟨k, j, none⟩) (Below.heap_alloc w o k hk)).trans h

end Go.Proofs.Ytaioedcaopbgkaa

/-! A package is drawn: what stands behind its sixth region, and a function and a call put behind their rows. -/
namespace Go.Proofs.Ytaioedcaopbgkaa
open Go.RowKit

section
variable {V X Y w : World} {B : Nat} {a : Option Addr} {len cap R P : Nat} {nm : List UInt8} {vi : Value} {fa : Option Addr} {fc : Nat} {xs : List FV} {vo : Value} {ns : List Nd}

/-- The function's box at F: made behind V, the rows as they were. -/
def Dr12 (V w : World) (B : Nat) (a : Option Addr) (len cap R P : Nat) (nm : List UInt8) (vi : Value) (fa : Option Addr) (fc : Nat) (xs : List FV) (vo : Value) (ns : List Nd) (v : Value) (wx : World) : Prop :=
 ∃ (F : Nat) (y : Int) (fn : List UInt8), v = .pointer (some ⟨F, 0, none⟩) ∧ (0 ≤ y ∧ y ≤ 3) ∧ fn.length ≤ 9 ∧ V.heap.size ≤ F ∧ DrSt wx w B a len cap R P nm vi fa fc xs vo ns ∧ (Box3 wx F (.string ⟨fn.toArray⟩) (.int .i64 y) (.slice none 0 0) ∧ ∀ j, wx.frozen? ⟨F, j, none⟩ = false)

theorem dr_off (st : DrSt V w B a len cap R P nm vi fa fc xs vo ns) (h : DrSt X w B a len cap R P nm vi fa fc xs vo ns) {F : Nat} (hF : V.heap.size ≤ F) (hg : X.grownBy Y (some F)) : DrSt Y w B a len cap R P nm vi fa fc xs vo ns := by
 have hp := st.p.lt
 exact h.side hg (by omega) (fun q e => by have := (st.fo.row.lt q e).2; omega) (fun x hx q e => by have := ((st.fo.trees x hx).lt q e).2; omega) (fun q e => by have := (st.ow.lt q e).2; omega)

theorem dr_set (st : DrSt V w B a len cap R P nm vi fa fc xs vo ns) (h : DrSt X w B a len cap R P nm vi fa fc xs vo ns) {F : Nat} (hF : V.heap.size ≤ F) {z0 z1 z2 : Value} (hb : Box3 X F z0 z1 z2 ∧ ∀ j, X.frozen? ⟨F, j, none⟩ = false) (fn : List UInt8) (hfn : fn.length ≤ 9) {y : Int} (hy0 : 0 ≤ y) (hy1 : y ≤ 3) :
 Dr12 V w B a len cap R P nm vi fa fc xs vo ns (.pointer (some ⟨F, 0, none⟩)) (((X.setCell ⟨F, 0, none⟩ (.string ⟨fn.toArray⟩)).setCell ⟨F, 1, none⟩ (.int .i64 y)).setCell ⟨F, 2, none⟩ (.slice none 0 0)) := by
 obtain ⟨hb2, hg⟩ := box_set (.string ⟨fn.toArray⟩) (.int .i64 y) (.slice none 0 0) hb
 exact ⟨F, y, fn, rfl, ⟨hy0, hy1⟩, hfn, hF, dr_off st h hF hg, hb2⟩

theorem dr_new (h : DrSt X w B a len cap R P nm vi fa fc xs vo ns) (hF : V.heap.size ≤ X.heap.size) (fn : List UInt8) (hfn : fn.length ≤ 9) {y : Int} (hy0 : 0 ≤ y) (hy1 : y ≤ 3) :
 Dr12 V w B a len cap R P nm vi fa fc xs vo ns (.pointer (some ⟨X.heap.size, 0, none⟩)) (X.alloc (.cells #[.string ⟨fn.toArray⟩, .int .i64 y, .slice none 0 0] 79)) :=
 ⟨X.heap.size, y, fn, rfl, ⟨hy0, hy1⟩, hfn, hF, h.alloc _, box_new⟩
theorem dr_new2 (h : DrSt X w B a len cap R P nm vi fa fc xs vo ns) (hF : V.heap.size ≤ X.heap.size) (fn : List UInt8) (hfn : fn.length ≤ 9) {y : Int} (hy0 : 0 ≤ y) (hy1 : y ≤ 3) (o : Obj) :
 Dr12 V w B a len cap R P nm vi fa fc xs vo ns (.pointer (some ⟨X.heap.size + 1, 0, none⟩)) ((X.alloc o).alloc (.cells #[.string ⟨fn.toArray⟩, .int .i64 y, .slice none 0 0] 79)) := by
 have h2 := dr_new (V := V) (h.alloc o) (by rw [World.size_alloc]; omega) fn hfn hy0 hy1
 rw [World.size_alloc] at h2
 exact h2
theorem box_alw {F : Nat} {z0 z1 z2 : Value} (o : Obj) (hb : Box3 X F z0 z1 z2 ∧ ∀ j, X.frozen? ⟨F, j, none⟩ = false) : Box3 (X.alloc o) F z0 z1 z2 ∧ ∀ j, (X.alloc o).frozen? ⟨F, j, none⟩ = false :=
 ⟨hb.1.below ((Below.refl _ _).alloc (Nat.le_refl _) o), fun j => frozen_alw o hb.1.lt (hb.2 j)⟩
theorem dr_new3 (h : DrSt X w B a len cap R P nm vi fa fc xs vo ns) (hF : V.heap.size ≤ X.heap.size) (fn : List UInt8) (hfn : fn.length ≤ 9) {y : Int} (hy0 : 0 ≤ y) (hy1 : y ≤ 3) (o : Obj) :
 Dr12 V w B a len cap R P nm vi fa fc xs vo ns (.pointer (some ⟨X.heap.size, 0, none⟩)) ((X.alloc (.cells #[.string ⟨fn.toArray⟩, .int .i64 y, .slice none 0 0] 79)).alloc o) :=
 ⟨X.heap.size, y, fn, rfl, ⟨hy0, hy1⟩, hfn, hF, (h.alloc _).alloc o, box_alw o box_new⟩
theorem dr_set1 (st : DrSt V w B a len cap R P nm vi fa fc xs vo ns) (h : DrSt X w B a len cap R P nm vi fa fc xs vo ns) {F : Nat} (hF : V.heap.size ≤ F) {z0 z1 z2 : Value} (hb : Box3 X F z0 z1 z2 ∧ ∀ j, X.frozen? ⟨F, j, none⟩ = false) (fn : List UInt8) (hfn : fn.length ≤ 9) {y : Int} (hy0 : 0 ≤ y) (hy1 : y ≤ 3) (o : Obj) :
 Dr12 V w B a len cap R P nm vi fa fc xs vo ns (.pointer (some ⟨F, 0, none⟩)) ((((X.alloc o).setCell ⟨F, 0, none⟩ (.string ⟨fn.toArray⟩)).setCell ⟨F, 1, none⟩ (.int .i64 y)).setCell ⟨F, 2, none⟩ (.slice none 0 0)) :=
 dr_set st (h.alloc o) hF (box_alw o hb) fn hfn hy0 hy1

theorem sz0 {row : Option Nat} (h : V.drew.grownBy Y row) : V.heap.size ≤ Y.heap.size := h.size
theorem sz1 {row : Option Nat} {o : Obj} (h : (V.alloc o).drew.grownBy Y row) : V.heap.size ≤ Y.heap.size := by
 have h1 : (V.alloc o).heap.size ≤ Y.heap.size := h.size
 rw [World.size_alloc] at h1; omega
theorem sz2 {row : Option Nat} {o o' : Obj} (h : ((V.alloc o).alloc o').drew.grownBy Y row) : V.heap.size ≤ Y.heap.size := by
 have h1 : ((V.alloc o).alloc o').heap.size ≤ Y.heap.size := h.size
 rw [World.size_alloc, World.size_alloc] at h1; omega
end

end Go.Proofs.Ytaioedcaopbgkaa

/-! A package is drawn: a function, and a call of it, put behind their rows. -/
namespace Go.Proofs.Ytaioedcaopbgkaa
open Go.RowKit

section
variable {V X Y w : World} {B : Nat} {a : Option Addr} {len cap R P : Nat} {nm : List UInt8} {vi : Value} {fa : Option Addr} {fc : Nat} {xs : List FV} {vo : Value} {ns : List Nd}

theorem DrSt.row_ne (h : DrSt X w B a len cap R P nm vi fa fc xs vo ns) {k : Nat} (hk : k ≤ P) : some k ≠ (Value.slice fa xs.length fc).ownBlock := fun e => by have := (h.fo.row.lt k e.symm).1; omega

/-- A function is put behind those that are there. -/
theorem dr_fn (h : DrSt X w B a len cap R P nm vi fa fc xs vo ns) (y : FV) (hy : X.ownsRow (P + 1) 73 4 (fvT y) y.1.2.2.length (nodesV y.1.2.2)) (hap : (fvT y).ownBlock = none ∨ (fvT y).ownBlock ≠ vo.ownBlock) (hn : xs.length ≤ 1048576) :
 ∃ g' c' Y, (Builtin.append_ #[74, 74] 74 #[.slice fa xs.length fc, .slice (some ⟨X.heap.size, 0, none⟩) 1 1]).run Try.prog (X.alloc (.cells #[.string ⟨y.1.1.toArray⟩, .int .i64 y.1.2.1, fvT y] 79)) = .ok (.slice (some ⟨g', 0, none⟩) (xs.length + 1) c') Y ∧
  Y.cell? ⟨P, 2, none⟩ = some (.slice fa xs.length fc) ∧ Y.frozen? ⟨P, 2, none⟩ = false ∧
  DrSt (Y.setCell ⟨P, 2, none⟩ (.slice (some ⟨g', 0, none⟩) (xs.length + 1) c')) w B a len cap R P nm vi (some ⟨g', 0, none⟩) c' (xs ++ [y]) vo ns ∧
  (∀ k, k < X.heap.size → k ≠ P → some k ≠ (Value.slice fa xs.length fc).ownBlock → (Y.setCell ⟨P, 2, none⟩ (.slice (some ⟨g', 0, none⟩) (xs.length + 1) c')).heap[k]? = X.heap[k]?) := by
 have hpl := h.p.lt
 obtain ⟨g', c', Y, hrun, hfo, hg⟩ := push_fn X (P + 1) (.slice fa xs.length fc) xs y h.fo hy (by omega) hn
 have hrp := h.rp
 have hbr := h.br
 have hnP := h.row_ne (k := P) (by omega)
 have hnR := h.row_ne (k := R) (by omega)
 have e1 : (xs ++ [y]).length = xs.length + 1 := by simp
 have hp := h.p.grown hg hnP
 have hpf : ∀ j, Y.frozen? ⟨P, j, none⟩ = false := fun j => (World.frozen?_of_block (a := ⟨P, j, none⟩) (hg.block P hpl hnP)).trans (h.pf j)
 have hr := h.r.grown hg hnR
 have hrf : ∀ j, Y.frozen? ⟨R, j, none⟩ = false := fun j => (World.frozen?_of_block (a := ⟨R, j, none⟩) (hg.block R h.r.lt hnR)).trans (h.rf j)
 have how := h.ow.kept hg (own_types h.ow h.fo.row (by decide))
 have hcur := h.cur.kept hg (fun k e => by have := (h.fo.row.lt k e).1; omega)
 have hgw : w.grownBy Y (some B) := by
  have hw := h.g
  have hwr := h.wr
  exact ⟨hg.os.trans hw.os, hg.tape.trans hw.tape, hg.output.trans hw.output, Nat.le_trans hw.size hg.size, fun q hq hn => (hg.block q (Nat.lt_of_lt_of_le hq hw.size) (h.row_ne (by omega))).trans (hw.block q hq hn)⟩
 have hs := grown_setCell Y P 2 (.slice (some ⟨g', 0, none⟩) (xs.length + 1) c')
 have hRP : some R ≠ some P := fun e => by injection e with e; omega
 have hlt : ∀ k, some P = some k → k < P + 1 := fun k e => by injection e with e; omega
 refine ⟨g', c', Y, hrun, hp.c2, hpf 2, ?_, ?_⟩
 ·
  refine ⟨⟨(World.cell?_setCell_other _ _ _ _ (by simp)).trans hp.c0, (World.cell?_setCell_other _ _ _ _ (by simp)).trans hp.c1, ?_⟩, fun j => (World.frozen?_setCell ..).trans (hpf j), hr.grown hs hRP, fun j => (World.frozen?_setCell ..).trans (hrf j), hfo.grown hs hlt, own_grown how hs hlt, hcur.kept hs (fun k e => by injection e with e; omega), ?_, h.br, h.rp, h.wr, ?_⟩
  ·
   rw [e1]; exact World.cell?_setCell_same _ _ _ hp.c2
  ·
   have hwr := h.wr
   exact ⟨hs.os.trans hgw.os, hs.tape.trans hgw.tape, hs.output.trans hgw.output, Nat.le_trans hgw.size hs.size, fun q hq hn => (hs.block q (Nat.lt_of_lt_of_le hq hgw.size) (fun e => by injection e with e; omega)).trans (hgw.block q hq hn)⟩
  ·
   intro x hx
   rw [List.mem_append, List.mem_singleton] at hx
   rcases hx with hx | rfl
   ·
    exact h.ap x hx
   ·
    exact hap
 ·
  intro k hk hkP hkr
  exact (hs.block k (Nat.lt_of_lt_of_le hk hg.size) (fun e => by injection e with e; exact hkP e)).trans (hg.block k hk hkr)

/-- A call is put behind those that are known. -/
theorem dr_own (h : DrSt X w B a len cap R P nm vi fa fc xs vo ns) (n : Nd) (hn : ns.length ≤ 1048576) :
 ∃ v' Y, (Builtin.append_ #[71, 71] 71 #[vo, .slice (some ⟨X.heap.size, 0, none⟩) 1 1]).run Try.prog (X.alloc (.cells #[.int .i64 n.1, .int .i64 n.2.1, .string ⟨n.2.2.1.toArray⟩, .string ⟨n.2.2.2.toArray⟩] 73)) = .ok v' Y ∧
  DrSt Y w B a len cap R P nm vi fa fc xs v' (ns ++ [n]) := by
 obtain ⟨i0, hi, hz0, hz1, hz2⟩ := info_parts infoNode
 obtain ⟨W, hW⟩ : ∃ W, X.alloc (.cells #[.int .i64 n.1, .int .i64 n.2.1, .string ⟨n.2.2.1.toArray⟩, .string ⟨n.2.2.2.toArray⟩] 73) = W := ⟨_, rfl⟩
 have h1 : DrSt W w B a len cap R P nm vi fa fc xs vo ns := by rw [← hW]; exact h.alloc _
 have hnew := new_node X n
 rw [hW] at hnew ⊢
 have hpl := h1.p.lt
 have hrp := h.rp
 have hbr := h.br
 obtain ⟨v', Y, hrun, hown, hg, _, hat⟩ := run_append_own_at (P := Try.prog) W (P + 1) 71 71 73 i0 _ 4 48 Try.underlying71 hi hz0 hz1 hz2 rfl (by decide) _ _ _ h1.ow ⟨X.heap.size, 0, none⟩ 1 1 (nodesV [n]) (by rw [nodesV_len]; rfl) hnew (nodesV_one _) (by unfold maxLen; omega) (by omega) (by omega)
 have hne : ∀ {k : Nat}, k ≤ P → some k ≠ vo.ownBlock := fun {k} hk e => by have := (h1.ow.lt k e.symm).1; omega
 have e1 : (ns ++ [n]).length = ns.length + 1 := by simp
 have hown2 : Y.ownsRow (P + 1) 73 4 v' (ns ++ [n]).length (nodesV (ns ++ [n])) := by
  rw [e1, nodesV_append]; exact hown
 refine ⟨v', Y, hrun, ⟨h1.p.grown hg (hne (Nat.le_refl _)), fun j => (World.frozen?_of_block (a := ⟨P, j, none⟩) (hg.block P h1.p.lt (hne (Nat.le_refl _)))).trans (h1.pf j), h1.r.grown hg (hne (by omega)), fun j => (World.frozen?_of_block (a := ⟨R, j, none⟩) (hg.block R h1.r.lt (hne (by omega)))).trans (h1.rf j),
  h1.fo.kept hg (own_types h1.fo.row h1.ow (by decide)) h1.ap, hown2, h1.cur.kept hg (fun k e => by have := (h1.ow.lt k e).1; omega), ?_, h.br, h.rp, h.wr, ?_⟩⟩
 ·
  have hw := h1.g
  have hwr := h.wr
  exact ⟨hg.os.trans hw.os, hg.tape.trans hw.tape, hg.output.trans hw.output, Nat.le_trans hw.size hg.size, fun q hq hn => (hg.block q (Nat.lt_of_lt_of_le hq hw.size) (hne (by omega))).trans (hw.block q hq hn)⟩
 ·
  intro x hx
  rcases hat with e | e
  ·
   rw [e]; exact h1.ap x hx
  ·
   rw [e]
   cases hv : (fvT x).ownBlock with
   | none => exact Or.inl rfl
   | some k => exact Or.inr (fun e2 => by injection e2 with e2; have := ((h1.fo.trees x hx).lt k hv).2; omega)

theorem str3_at (a b c : List UInt8) (k : Nat) (hk : k < 3) (ha : a.length ≤ 9) (hb : b.length ≤ 9) (hc : c.length ≤ 9) : ∃ fn : List UInt8, fn.length ≤ 9 ∧ ∀ h, ([Value.string ⟨a.toArray⟩, Value.string ⟨b.toArray⟩, Value.string ⟨c.toArray⟩] : List Value)[k]'h = Value.string ⟨fn.toArray⟩ := by
 rcases (show k = 0 ∨ k = 1 ∨ k = 2 by omega) with rfl | rfl | rfl
 ·
  exact ⟨a, ha, fun _ => rfl⟩
 ·
  exact ⟨b, hb, fun _ => rfl⟩
 ·
  exact ⟨c, hc, fun _ => rfl⟩
theorem box3_at {Z : World} {k j : Nat} {a b c fn : List UInt8} (hb : Box3 Z k (.string ⟨a.toArray⟩) (.string ⟨b.toArray⟩) (.string ⟨c.toArray⟩)) (hj : j < 3) (hget : ∀ h, ([Value.string ⟨a.toArray⟩, Value.string ⟨b.toArray⟩, Value.string ⟨c.toArray⟩] : List Value)[j]'h = Value.string ⟨fn.toArray⟩) : Z.cell? ⟨k, j, none⟩ = some (.string ⟨fn.toArray⟩) := by
 have hg := hget hj
 rcases (show j = 0 ∨ j = 1 ∨ j = 2 by omega) with rfl | rfl | rfl
 ·
  rw [← hg]; exact hb.c0
 ·
  rw [← hg]; exact hb.c1
 ·
  rw [← hg]; exact hb.c2
theorem dr_node {y : Int} (hy0 : 0 ≤ y) (hy1 : y ≤ 3) {n f : List UInt8} (hn : n.length ≤ 9) (hf : f.length ≤ 9) : SmallN ((8, y, n, f) : Nd) ∧ kidsV ((8, y, n, f) : Nd) ≤ 3 := by
 refine ⟨⟨?_, hn, hf⟩, ?_⟩
 ·
  unfold IntN; simp only; omega
 ·
  unfold kidsV; simp only; simp; omega
theorem kid_at {ns : List Nd} (h : ∀ n ∈ ns, kidsV n ≤ 3) (j : Nat) : kidsV (ns.getD j nd0) ≤ 3 := by
 rw [List.getD_eq_getElem?_getD]
 cases hj : ns[j]? with
 | none => simp only [Option.getD_none]; decide
 | some n => exact h n (List.mem_of_getElem? hj)

/-- The function's tree is drawn. -/
theorem dr_tree (st : DrSt V w B a len cap R P nm vi fa fc xs vo ns) (h : DrSt X w B a len cap R P nm vi fa fc xs vo ns) {F : Nat} (hF : V.heap.size ≤ F) {z0 z1 z2 : Value} (hb : Box3 X F z0 z1 z2 ∧ ∀ j, X.frozen? ⟨F, j, none⟩ = false) {y : Int} (hy0 : 0 ≤ y) (hy1 : y ≤ 3) (hns : ns.length ≤ 1000) (hsm : SmallT ns) (hkd : ∀ n ∈ ns, kidsV n ≤ 3) :
 Calls Try.prog 57 #[.pointer (some ⟨B, 0, none⟩), .int .i64 y, vo] X fun e w' => ∃ (ta : Option Addr) (tc : Nat) (t : List Nd), e = .returned (.slice ta t.length tc) ∧ (t.length ≤ 60 ∧ SmallT t ∧ treeB t = true) ∧ DrSt w' w B a len cap R P nm vi fa fc xs vo ns ∧ (Box3 w' F z0 z1 z2 ∧ ∀ j, w'.frozen? ⟨F, j, none⟩ = false) ∧
  w'.ownsRow (P + 1) 73 4 (.slice ta t.length tc) t.length (nodesV t) ∧ ((Value.slice ta t.length tc).ownBlock = none ∨ (Value.slice ta t.length tc).ownBlock ≠ vo.ownBlock) ∧ (∀ q, (Value.slice ta t.length tc).ownBlock = some q → q ≠ F) := by
 obtain ⟨hl, ca, cc, rfl, hin⟩ := own_nodes h.ow
 have hpl := h.p.lt
 have hbr := h.br
 have hrp := h.rp
 have hbl := st.cur.lt
 refine (drawTreeOk X B a len cap y ca ns.length cc ns hy0 (by omega) h.cur hin hns (small_at hsm) (kid_at hkd) (fun b off e => ?_)).mono ?_
 ·
  intro e2
  subst e2
  have := (h.ow.lt b (by rw [e]; rfl)).1
  omega
 ·
  rintro e w' ⟨v, t, rfl, hown, htr, hst, hc, hg⟩
  obtain ⟨_, ta, tc, rfl, _⟩ := own_nodes hown
  obtain ⟨⟨_, ht2⟩, _⟩ := tree_end htr
  refine ⟨ta, tc, t, rfl, ⟨ht2, hst, htr⟩, h.next hg hc, box_on hb hg (by omega), own_base hown (by omega), ?_, fun q e => ?_⟩
  ·
   cases hv : (Value.slice ta t.length tc).ownBlock with
   | none => exact Or.inl rfl
   | some q => exact Or.inr (fun e2 => by have := (hown.lt q hv).1; have := (h.ow.lt q e2.symm).2; omega)
  ·
   have := (hown.lt q e).1
   have := hb.1.lt
   omega

/-- It is put into the function's box. -/
theorem dr_store (st : DrSt V w B a len cap R P nm vi fa fc xs vo ns) (h : DrSt X w B a len cap R P nm vi fa fc xs vo ns) {F : Nat} (hF : V.heap.size ≤ F) {z0 z1 z2 : Value} (hb : Box3 X F z0 z1 z2 ∧ ∀ j, X.frozen? ⟨F, j, none⟩ = false) {u : Value} {t : List Nd} (ho : X.ownsRow (P + 1) 73 4 u t.length (nodesV t)) (hu : ∀ q, u.ownBlock = some q → q ≠ F) :
 DrSt (X.setCell ⟨F, 2, none⟩ u) w B a len cap R P nm vi fa fc xs vo ns ∧ Box3 (X.setCell ⟨F, 2, none⟩ u) F z0 z1 u ∧ (X.setCell ⟨F, 2, none⟩ u).ownsRow (P + 1) 73 4 u t.length (nodesV t) := by
 have hs := grown_setCell X F 2 u
 refine ⟨dr_off st h hF hs, ⟨(World.cell?_setCell_other _ _ _ _ (by simp)).trans hb.1.c0, (World.cell?_setCell_other _ _ _ _ (by simp)).trans hb.1.c1, World.cell?_setCell_same _ _ _ hb.1.c2⟩, ho.kept hs ?_⟩
 cases hv : u.ownBlock with
 | none => exact Or.inl rfl
 | some q => exact Or.inr (fun e => by injection e with e; exact hu q hv e)
end

end Go.Proofs.Ytaioedcaopbgkaa
