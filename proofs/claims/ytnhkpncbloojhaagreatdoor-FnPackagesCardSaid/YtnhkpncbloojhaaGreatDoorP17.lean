/-
  Parts of one proof, one behind the other: Draw7F, PackL, FnE, NodeK, FnK, PackM.
-/
import Derived.Test.YtnhkpncbloojhaaGreatDoorP16
import Derived.Test.YtnhkpncbloojhaaGreatDoorP7
import Derived.Test.YtnhkpncbloojhaaGreatDoorP11
import Derived.Test.YtnhkpncbloojhaaGreatDoorP12
import Derived.Test.YtnhkpncbloojhaaGreatDoorP14
import Derived.Test.YtnhkpncbloojhaaGreatDoorP13
import Derived.Test.YtnhkpncbloojhaaGreatDoorP6
import Derived.Test.YtnhkpncbloojhaaGreatDoorP4

/-! The contracts of DrawPackageOk, DrawShowPackage, DrawReadPackage, DrawFuncOf. -/
namespace Go.Proofs.YtnhkpncbloojhaaGreatDoor
open Go.RowKit

/-- A drawn package, as a law has it. -/
def Drawn7 (w wx : World) (v : Value) (nm : List UInt8) (ims : List (List UInt8)) (xs : List FV) : Prop :=
  ∃ ia ic fa fc, v = .agg #[.string ⟨nm.toArray⟩, .slice ia ims.length ic, .slice fa xs.length fc] ∧ nm.length ≤ 9 ∧ (ims.length ≤ 4 ∧ ∀ t ∈ ims, t.length ≤ 9) ∧ (1 ≤ xs.length ∧ xs.length ≤ 4) ∧ SmallXs xs ∧
    wx.ownsRow w.heap.size 9 1 (.slice ia ims.length ic) ims.length (strV ims) ∧ FnsOwn wx w.heap.size (.slice fa xs.length fc) xs

theorem code_grown {w w' : World} {a : Option Addr} {len : Nat} (h : Code w w.heap.size a len) (hg : w.grownBy w' none) : Code w' w'.heap.size a len := by
  intro j hj
  obtain ⟨b, off, x, e1, e2, e3, e0⟩ := h j hj
  exact ⟨b, off, x, e1, Nat.lt_of_lt_of_le e2 hg.size, (World.cell?_of_block (a := ⟨b, off + j, none⟩) (hg.block b e2 (by simp))).trans e3, e0⟩
theorem box_none {V Y : World} {k : Nat} {a b c : Value} (h : Box3 V k a b c ∧ ∀ j, V.frozen? ⟨k, j, none⟩ = false) (hg : V.grownBy Y none) : Box3 Y k a b c ∧ ∀ j, Y.frozen? ⟨k, j, none⟩ = false :=
  ⟨h.1.grown hg (by simp), fun j => (World.frozen?_of_block (a := ⟨k, j, none⟩) (hg.block k h.1.lt (by simp))).trans (h.2 j)⟩
theorem showPk_small (p : Pk) : (showPk p).length ≤ 20000 := by
  unfold showPk
  split
  · rename_i h; exact showP_len h
  · simp
theorem ims_short {ims : List (List UInt8)} (h : ∀ t ∈ ims, t.length ≤ 9) (i : Nat) : (ims.getD i []).length ≤ 1048576 := by
  rw [List.getD_eq_getElem?_getD]
  cases hj : ims[i]? with
  | none => simp
  | some t => exact Nat.le_trans (h t (List.mem_of_getElem? hj)) (by omega)
theorem xs_fn {xs : List FV} (h : SmallXs xs) (j : Nat) : SmallFn ((xs.map (·.1)).getD j fn0) := by
  rw [List.getD_eq_getElem?_getD, List.getElem?_map]
  cases hj : xs[j]? with
  | none => exact ⟨by decide, ⟨by decide, by decide⟩, by decide, fun n hn => by cases hn⟩
  | some t => exact h t (List.mem_of_getElem? hj)
theorem xs_short {xs : List FV} (h : SmallXs xs) : ShortF (xs.map (·.1)) := fun j =>
  have hs := xs_fn h j
  ⟨Nat.le_trans hs.1 (by omega), Nat.le_trans hs.2.2.1 (by omega), hs.2.2.2.short⟩

set_option maxHeartbeats 2000000 in
set_option maxRecDepth 100000 in
theorem drawPackageOkD (w : World) (a : Option Addr) (len cap : Nat) (hl : len ≤ 4096) (hc : Code w w.heap.size a len) :
    Calls Tryz.prog 22 #[.slice a len cap] w fun e w' => ∃ v nm ims xs, e = .returned v ∧ Drawn7 w w' v nm ims xs ∧ Below w.heap.size w w' := by
  obtain ⟨W1, hW1⟩ : ∃ W, w.alloc (.cells #[.string ⟨#[]⟩, .slice none 0 0, .slice none 0 0] 27) = W := ⟨_, rfl⟩
  have bR := box_new (V := w) (a := .string ⟨#[]⟩) (b := .slice none 0 0) (c := .slice none 0 0) (t := 27)
  have hg0 := World.grownBy_alloc w (.cells #[.string ⟨#[]⟩, .slice none 0 0, .slice none 0 0] 27) none
  have HS1 : Hid (W1.heap.size = w.heap.size + 1) := by exact (by rw [← hW1]; simp : W1.heap.size = w.heap.size + 1)
  rw [hW1] at bR hg0
  have hcode := code_grown hc hg0
  have hB0 : Below w.heap.size w W1 := (Below.refl _ _).grown hg0 (Nat.le_refl _) (by simp)
  have HR0 : Hid (_) := bR
  clear hg0 bR
  go_enter Tryz.func22, Tryz.ntmps22
  go_wp2_with fail
  refine (drawNew _ a len cap hl hcode).mono ?_
  rintro e w1 ⟨rfl, hc1, hg1⟩
  have hB1 := hB0.grown hg1 hB0.size (fun k e => by cases e)
  have HR1 : Hid (_) := box_none HR0.out hg1
  clear hcode hg1 HR0 hB0
  go_wp2_with fail
  refine (drawAny7 _ W1.heap.size a len cap hc1).mono ?_
  rintro e w2 ⟨v, rfl, nm, ia, ic, ims, fa, fc, xs, rfl, h1, h2, h3, h4, ho, hf, hc2, hg2⟩
  have hs1 := HS1.out
  have b2 := box_on HR1.out hg2 (by omega)
  have hB2 := hB1.grown hg2 hB1.size (fun k e => by injection e with e; omega)
  have hlt := HR1.out.1.lt
  clear hs1 HR1 hc1 hc2 hg2
  have r0 := b2.1.c0
  have r1 := b2.1.c1
  have r2 := b2.1.c2
  have f0 := b2.2 0
  have f1 := b2.2 1
  have f2 := b2.2 2
  have HO : Hid (w2.ownsRow w1.heap.size 9 1 (.slice ia ims.length ic) ims.length (strV ims)) := ho
  have HF : Hid (FnsOwn w2 w1.heap.size (.slice fa xs.length fc) xs) := hf
  clear ho hf b2
  go_wp2
  obtain ⟨Y, hY, y0, y1, y2, hg⟩ := set3 (.string ⟨nm.toArray⟩) (.slice ia ims.length ic) (.slice fa xs.length fc) r0 r1 r2
  rw [hY]
  refine bodyPost_ret (v := .agg #[.string ⟨nm.toArray⟩, .slice ia ims.length ic, .slice fa xs.length fc]) (by simp [results, Tryz.results22, go_sem, y0, y1, y2]) rfl ?_
  have hr : ∀ k, some w.heap.size = some k → k < w1.heap.size := fun k e => by injection e with e; omega
  exact ⟨_, nm, ims, xs, rfl, ⟨ia, ic, fa, fc, rfl, h1, h2, h3, h4, own_base (own_grown HO.out hg hr) (by omega), (HF.out.grown hg hr).base (by omega)⟩, hB2.grown hg hB2.size (fun k e => by injection e with e; omega)⟩

set_option maxHeartbeats 2000000 in
set_option maxRecDepth 100000 in
theorem drawShowPackage (w : World) (a : Option Addr) (len cap : Nat) (hl : len ≤ 4096) (hc : Code w w.heap.size a len) :
    Calls Tryz.prog 6 #[.slice a len cap] w fun e w' => ∃ v nm ims xs, e = .returned v ∧ Drawn7 w w' v nm ims xs ∧ Below w.heap.size w w' := by
  obtain ⟨W1, hW1⟩ : ∃ W, w.alloc (.cells #[.string ⟨#[]⟩, .slice none 0 0, .slice none 0 0] 27) = W := ⟨_, rfl⟩
  have bR := box_new (V := w) (a := .string ⟨#[]⟩) (b := .slice none 0 0) (c := .slice none 0 0) (t := 27)
  have hg0 := World.grownBy_alloc w (.cells #[.string ⟨#[]⟩, .slice none 0 0, .slice none 0 0] 27) none
  rw [hW1] at bR hg0
  have hcode := code_grown hc hg0
  have hB0 : Below w.heap.size w W1 := (Below.refl _ _).grown hg0 (Nat.le_refl _) (by simp)
  have HR0 : Hid (_) := bR
  clear hg0 bR
  go_enter Tryz.func6, Tryz.ntmps6
  go_wp2_with fail
  refine (drawPackageOkD _ a len cap hl hcode).mono ?_
  rintro e w2 ⟨v, nm, ims, xs, rfl, ⟨ia, ic, fa, fc, rfl, h1, h2, h3, h4, ho, hf⟩, hb2⟩
  have b2 := box_none HR0.out (Below.by hb2)
  have hlt := HR0.out.1.lt
  have hB2 : Below w.heap.size w w2 := hB0.trans (hb2.mono hB0.size)
  clear hb2 HR0 hcode
  have r0 := b2.1.c0
  have r1 := b2.1.c1
  have r2 := b2.1.c2
  have f0 := b2.2 0
  have f1 := b2.2 1
  have f2 := b2.2 2
  have HO : Hid (w2.ownsRow W1.heap.size 9 1 (.slice ia ims.length ic) ims.length (strV ims)) := ho
  have HF : Hid (FnsOwn w2 W1.heap.size (.slice fa xs.length fc) xs) := hf
  clear ho hf b2
  go_wp2
  obtain ⟨Y, hY, y0, y1, y2, hg⟩ := set3 (.string ⟨nm.toArray⟩) (.slice ia ims.length ic) (.slice fa xs.length fc) r0 r1 r2
  rw [hY]
  refine bodyPost_ret (v := .agg #[.string ⟨nm.toArray⟩, .slice ia ims.length ic, .slice fa xs.length fc]) (by simp [results, Tryz.results6, go_sem, y0, y1, y2]) rfl ?_
  have hr : ∀ k, some w.heap.size = some k → k < W1.heap.size := fun k e => by injection e with e; omega
  exact ⟨_, nm, ims, xs, rfl, ⟨ia, ic, fa, fc, rfl, h1, h2, h3, h4, own_base (own_grown HO.out hg hr) (by omega), (HF.out.grown hg hr).base (by omega)⟩, hB2.grown hg hB2.size (fun k e => by injection e with e; omega)⟩

set_option maxHeartbeats 2000000 in
set_option maxRecDepth 100000 in
theorem drawReadPackage (w : World) (a : Option Addr) (len cap : Nat) (hl : len ≤ 4096) (hc : Code w w.heap.size a len) :
    Calls Tryz.prog 8 #[.slice a len cap] w fun e w' => ∃ t : List UInt8, e = .returned (.string ⟨t.toArray⟩) ∧ t.length ≤ 20002 ∧ Below w.heap.size w w' := by
  go_enter Tryz.func8, Tryz.ntmps8
  go_wp2_with fail
  refine (drawNew _ a len cap hl hc).mono ?_
  rintro e w1 ⟨rfl, hc1, hg1⟩
  have hb1 : Below w.heap.size w w1 := (Below.refl _ _).grown hg1 (Nat.le_refl _) (by simp)
  clear hg1
  go_wp2_with fail
  refine (drawAny7 _ _ a len cap hc1).mono ?_
  rintro e w2 ⟨v, rfl, nm, ia, ic, ims, fa, fc, xs, rfl, h1, h2, h3, h4, ho, hf, hc2, hg2⟩
  have hb2 : Below w.heap.size w w2 := hb1.grown hg2 hb1.size (by simp)
  obtain ⟨ai, ci, af, cf, e1, e2, _, _, hti, hfi⟩ := own_pk ho hf rfl
  have hT : Hid (_) := specShowPackage nm ai ims.length ci af (xs.map (·.1)).length cf ims (xs.map (·.1)) w2 hti hfi (by omega) (by simp; omega) (by omega) (ims_short h2.2) (xs_short h4)
  rw [← e1, ← e2] at hT
  clear hc1 hg2 hb1 ho hf hti hfi e1 e2
  go_wp2_with fail
  refine Calls.mono hT.out ?_
  rintro e w3 ⟨rfl, hb3⟩
  have hlen := showPk_small (nm, ims, xs.map (·.1))
  have hc3 := hc2.below hb3
  have hb4 : Below w.heap.size w w3 := hb2.trans (hb3.mono hb2.size)
  clear hT hb3 hb2 hc2
  generalize showPk (nm, ims, xs.map (·.1)) = s at hlen ⊢
  go_wp2_with fail
  refine (drawOnce _ _ a len cap 2 (by omega) (by omega) hc3).mono ?_
  rintro e w4 ⟨o, rfl, hc4, hg4⟩
  have hb5 : Below w.heap.size w w4 := hb4.grown hg4 hb4.size (by simp)
  clear hc3 hg4 hb4
  rcases o with _ | _
  · go_wp2
    go_ret
    exact ⟨s, rfl, by omega, hb5⟩
  · go_wp2_with fail
    refine (drawBend _ _ a len cap s [10, 32, 97, 43, 36, 48, 64, 102] hc4 (by omega) (by simp) (by simp)).mono ?_
    rintro e w5 ⟨l, rfl, hl5, hc5, hg5⟩
    go_wp2
    go_ret
    exact ⟨l, rfl, by omega, hb5.grown hg5 hb5.size (by simp)⟩

end Go.Proofs.YtnhkpncbloojhaaGreatDoor

/-! Plain facts for FnPackages. -/
namespace Go.Proofs.YtnhkpncbloojhaaGreatDoor
open Go.RowKit

/-- A function of a good package is found by its name. -/
theorem found_each {p : Pk} (h : pkgB p = true) {i : Nat} (hi : i < p.2.2.length) : foundB p (p.2.2.getD i fn0).1 = true ∧ foundV p (p.2.2.getD i fn0).1 = p.2.2.getD i fn0 := by
  have h1 := h
  unfold pkgB at h1
  rw [Bool.and_eq_true, decide_eq_true_eq] at h1
  have h2 := (h1.2 i hi).2
  have h3 := found_yes (s := (p.2.2.getD i fn0).1) h (by rw [h2]; omega)
  refine ⟨h3.1, ?_⟩
  rw [h3.2, h2]
  rfl
/-- What is found bears the name. -/
theorem found_name {p : Pk} {q : List UInt8} (h : foundB p q = true) : (foundV p q).1 = q := by
  have h1 := h
  unfold foundB at h1
  rw [Bool.and_eq_true, decide_eq_true_eq] at h1
  rw [(found_yes h1.1 h1.2).2]
  have h2 := ((atGo_lt q p.2.2 0).2 h1.2).2
  rw [show atGo q p.2.2 0 - ((0 : Nat) : Int) = atV p.2.2 q by unfold atV; omega] at h2
  exact h2

theorem xs_int {xs : List FV} (h : SmallXs xs) : IntF (xs.map (·.1)) := fun j =>
  have hs := xs_fn h j
  ⟨⟨by have := hs.2.1; omega, by have := hs.2.1; omega⟩, hs.2.2.2.int⟩

/-- A drawn package, as the landed functions are told of it. -/
theorem Drawn7.ok {w wx : World} {v : Value} {nm : List UInt8} {ims : List (List UInt8)} {xs : List FV} (h : Drawn7 w wx v nm ims xs) :
    ∃ ia ic fa fc, v = .agg #[.string ⟨nm.toArray⟩, .slice ia ims.length ic, .slice fa (xs.map (·.1)).length fc] ∧ PkOk wx nm ia ims.length ic fa (xs.map (·.1)).length fc ims (xs.map (·.1)) := by
  obtain ⟨ia, ic, fa, fc, rfl, h1, h2, h3, h4, ho, hf⟩ := h
  obtain ⟨ai, ci, af, cf, e1, e2, hi, hc, hti, hfi⟩ := own_pk ho hf rfl
  rw [e1, e2]
  exact ⟨ai, ci, af, cf, rfl, hti, hfi, hi, hc, xs_int h4, by omega, by rw [List.length_map]; omega, by omega, ims_short h2.2, xs_short h4⟩

theorem nodeB_small7 {n : Nd} (h : nodeB n = true) : SmallN n := by
  obtain ⟨k, a, p, f⟩ := n
  have hp := nodeB_iff.1 h
  unfold nodeP at hp
  simp only at hp
  unfold SmallN IntN
  simp only
  rcases hp with ⟨rfl, ⟨h0, h1⟩, rfl, rfl⟩ | ⟨rfl, ⟨h0, h1⟩, rfl, rfl⟩ | ⟨hk, rfl, rfl, rfl⟩ | ⟨rfl, ⟨h0, h1⟩, hpn, hfn⟩
  · exact ⟨⟨⟨by omega, by omega⟩, by omega, by omega⟩, by simp, by simp⟩
  · exact ⟨⟨⟨by omega, by omega⟩, by omega, by omega⟩, by simp, by simp⟩
  · exact ⟨⟨⟨by omega, by omega⟩, by omega, by omega⟩, by simp, by simp⟩
  · have := (name_letters hpn).1
    have := (name_letters hfn).1
    exact ⟨⟨⟨by omega, by omega⟩, by omega, by omega⟩, by omega, by omega⟩

theorem tree_small7 {ns : List Nd} (h : treeB ns = true) : SmallT ns := fun n hn => nodeB_small7 (tree_nodes h n hn)

/-- A good package is small. -/
theorem pkgB_fn {p : Pk} (h : pkgB p = true) (j : Nat) : SmallFn (p.2.2.getD j fn0) := by
  rw [List.getD_eq_getElem?_getD]
  cases hj : p.2.2[j]? with
  | none => exact ⟨by decide, ⟨by decide, by decide⟩, by decide, fun n hn => by cases hn⟩
  | some f =>
    have hb := (pkgB_parts h).2.2.2.2 f (List.mem_of_getElem? hj)
    unfold funcB at hb
    rw [Bool.and_eq_true, Bool.and_eq_true] at hb
    have h1 := (name_letters hb.1).1.2
    have h2 : 0 ≤ f.2.1 ∧ f.2.1 ≤ 3 := by have := hb.2.1; unfold inB at this; simpa using this
    have h3 := (tree_end hb.2.2).1.2
    show SmallFn f
    exact ⟨by omega, by omega, by omega, tree_small7 hb.2.2⟩
theorem pkgB_ok {nm : List UInt8} {ims : List (List UInt8)} {fs : List Fn} (h : pkgB (nm, ims, fs) = true) : IntF fs ∧ ShortF fs ∧ ims.length ≤ 6 ∧ fs.length ≤ 8 ∧ nm.length ≤ 8 ∧ ∀ t ∈ ims, t.length ≤ 9 := by
  obtain ⟨h1, h2, h3, h4, _⟩ := pkgB_parts h
  have hn := (name_letters h1).1.2
  refine ⟨fun j => ?_, fun j => ?_, h3, h4.2, hn, fun t ht => Nat.le_trans (name_letters (h2 t ht)).1.2 (by omega)⟩
  · have hs : SmallFn (fs.getD j fn0) := pkgB_fn h j
    exact ⟨⟨by have := hs.2.1; omega, by have := hs.2.1; omega⟩, hs.2.2.2.int⟩
  · have hs : SmallFn (fs.getD j fn0) := pkgB_fn h j
    exact ⟨Nat.le_trans hs.1 (by omega), Nat.le_trans hs.2.2.1 (by omega), hs.2.2.2.short⟩
/-- What was read, as the landed functions are told of it. -/
theorem read_ok (l : List UInt8) : IntF (readPV l).2.2 ∧ ShortF (readPV l).2.2 ∧ (readPV l).2.1.length ≤ 6 ∧ (readPV l).2.2.length ≤ 8 ∧ (readPV l).1.length ≤ 8 ∧ ∀ t ∈ (readPV l).2.1, t.length ≤ 9 := by
  rcases read_pv l with ⟨_, h, _⟩ | ⟨_, h⟩
  · exact pkgB_ok h
  · rw [h]
    exact ⟨fun j => by simp [pk0, fn0, IntT, IntN, nd0], fun j => by simp [pk0, fn0, ShortT, nd0], by decide, by decide, by decide, fun t ht => by cases ht⟩

end Go.Proofs.YtnhkpncbloojhaaGreatDoor

/-! The laws' own helpers over functions and packages: eqFunc, eqFuncS, eqStringS over texts that can be read, eqPackage. -/
namespace Go.Proofs.YtnhkpncbloojhaaGreatDoor
open Go.RowKit

set_option maxHeartbeats 1000000 in
set_option maxRecDepth 100000 in
theorem eqFuncC (s : List UInt8) (n : Int) (t : List Nd) (ta tb : Option Addr) (tl ca cb : Nat) (w : World) (ha : NodesIn w ta tl t) (hb : NodesIn w tb tl t) (hlen : tl ≤ 4194304) :
    Calls Tryz.prog 80 #[.agg #[.string ⟨s.toArray⟩, .int .i64 n, .slice ta tl ca], .agg #[.string ⟨s.toArray⟩, .int .i64 n, .slice tb tl cb]] w fun e w' => e = .returned (.bool true) ∧ Below w.heap.size w w' := by
  have h1 : ∀ n : Int, (n != n) = false := by simp
  have h2 : ∀ l : List UInt8, (l != l) = false := by simp
  have hbW : Below w.heap.size w ((w.alloc (.cells #[.string ⟨s.toArray⟩, .int .i64 n, .slice ta tl ca] 37)).alloc (.cells #[.string ⟨s.toArray⟩, .int .i64 n, .slice tb tl cb] 37)) := ((Below.refl _ _).alloc (Nat.le_refl _) _).alloc (by simp) _
  have HC := eqNodeSC ta tb tl ca cb t _ (ha.below hbW) (hb.below hbW) hlen
  clear ha hb
  go_enter Tryz.func80, Tryz.ntmps80
  go_wp2_with fail
  refine HC.mono ?_
  rintro e w1 ⟨rfl, hb1⟩
  have hbd : Below w.heap.size w w1 := hbW.trans (hb1.mono hbW.size)
  clear HC hb1 hbW
  go_wp2
  go_ret
  exact ⟨rfl, hbd⟩

set_option maxHeartbeats 2000000 in
set_option maxRecDepth 100000 in
theorem eqFuncSC (a b : Option Addr) (len ca cb : Nat) (fs : List Fn) (w : World) (ha : FuncsIn w a len fs) (hb : FuncsIn w b len fs) (hlen : len ≤ 4194304) (hsh : ∀ j, (fs.getD j fn0).2.2.length ≤ 4194304) :
    Calls Tryz.prog 53 #[.slice a len ca, .slice b len cb] w fun e w' => e = .returned (.bool true) ∧ Below w.heap.size w w' := by
  have HA : Hid (FuncsIn w a len fs) := ha
  have HB : Hid (FuncsIn w b len fs) := hb
  have HSH : Hid (∀ j, (fs.getD j fn0).2.2.length ≤ 4194304) := hsh
  clear ha hb hsh
  have h1 : ((len : Int) != (len : Int)) = false := by simp
  go_enter Tryz.func53, Tryz.ntmps53
  go_wp2
  go_loopw [5] (fun i wr => ∃ k : Nat, k ≤ len ∧ i = .int .i64 k ∧ Below w.heap.size w wr) (fun i _ => len - (intOf i).toNat)
  case atStart => exact ⟨0, Nat.zero_le _, rfl, Below.refl _ _⟩
  case round =>
    obtain ⟨k, hk, rfl, hB⟩ := hrel
    by_cases hkl : (k : Int) < (len : Int)
    · obtain ⟨b1, o1, rfl, hb1, x0, x1, ta, tl, tc, x2, _, hn1⟩ := (HA.out.below hB).2 k (by omega)
      obtain ⟨b2, o2, rfl, hb2, y0, y1, tb, tl2, tc2, y2, _, hn2⟩ := (HB.out.below hB).2 k (by omega)
      have hts := HSH.out k
      obtain ⟨f, hf⟩ : ∃ f, fs.getD k fn0 = f := ⟨_, rfl⟩
      rw [hf] at x0 x1 y0 y1 hn1 hn2 hts
      obtain ⟨s, n, t⟩ := f
      simp only at x0 x1 y0 y1 hn1 hn2 hts
      obtain rfl : t.length = tl := hn1.1
      obtain rfl : t.length = tl2 := hn2.1
      have hn1' : NodesIn wr.drew ta t.length t := hn1.below ⟨rfl, rfl, rfl, Nat.le_refl _, fun _ _ => rfl⟩
      have hn2' : NodesIn wr.drew tb t.length t := hn2.below ⟨rfl, rfl, rfl, Nat.le_refl _, fun _ _ => rfl⟩
      clear hf hn1 hn2
      go_wp2
      go_region_held3 (fun w' => w'.cell? ⟨b1, o1 + k * 3, none⟩ = some (.string ⟨s.toArray⟩) ∧ w'.cell? ⟨b1, o1 + k * 3 + 1, none⟩ = some (.int .i64 n) ∧ w'.cell? ⟨b1, o1 + k * 3 + 2, none⟩ = some (.slice ta t.length tc) ∧ w'.cell? ⟨b2, o2 + k * 3, none⟩ = some (.string ⟨s.toArray⟩) ∧ w'.cell? ⟨b2, o2 + k * 3 + 1, none⟩ = some (.int .i64 n) ∧ w'.cell? ⟨b2, o2 + k * 3 + 2, none⟩ = some (.slice tb t.length tc2)) (go_keep) (first | (go_at_call 80; refine (eqFuncC s n t ta tb t.length tc tc2 _ hn1' hn2' hts).mono ?_; rintro e w1 ⟨rfl, hw1⟩; have d0 : w1.cell? ⟨b1, o1 + k * 3, none⟩ = some (.string ⟨s.toArray⟩) := (hw1.cell (p := ⟨b1, o1 + k * 3, none⟩) hb1).trans x0; have d1 : w1.cell? ⟨b1, o1 + k * 3 + 1, none⟩ = some (.int .i64 n) := (hw1.cell (p := ⟨b1, o1 + k * 3 + 1, none⟩) hb1).trans x1; have d2 : w1.cell? ⟨b1, o1 + k * 3 + 2, none⟩ = some (.slice ta t.length tc) := (hw1.cell (p := ⟨b1, o1 + k * 3 + 2, none⟩) hb1).trans x2; have e0 : w1.cell? ⟨b2, o2 + k * 3, none⟩ = some (.string ⟨s.toArray⟩) := (hw1.cell (p := ⟨b2, o2 + k * 3, none⟩) hb2).trans y0; have e1 : w1.cell? ⟨b2, o2 + k * 3 + 1, none⟩ = some (.int .i64 n) := (hw1.cell (p := ⟨b2, o2 + k * 3 + 1, none⟩) hb2).trans y1; have e2 : w1.cell? ⟨b2, o2 + k * 3 + 2, none⟩ = some (.slice tb t.length tc2) := (hw1.cell (p := ⟨b2, o2 + k * 3 + 2, none⟩) hb2).trans y2))
      all_goals go_wp2
      go_roundw
      case rel => exact ⟨k + 1, by omega, by go_num, hB.trans ⟨hw1.os, hw1.tape, hw1.output, hw1.size, fun q hq => hw1.block q (by have := hB.size; show q < wr.heap.size; omega)⟩⟩
      case measure => simp [intOf]; omega
    · go_wp2
      go_ret
      exact ⟨rfl, hB⟩

set_option maxHeartbeats 1000000 in
set_option maxRecDepth 100000 in
theorem eqTextsC (a b : Option Addr) (len ca cb : Nat) (ts : List (List UInt8)) (w : World) (ha : TextsIn w a len ts) (hb : TextsIn w b len ts) (hlen : len ≤ 4194304) :
    Calls Tryz.prog 52 #[.slice a len ca, .slice b len cb] w fun e w' => e = .returned (.bool true) ∧ Below w.heap.size w w' := by
  have hne : ((len : Int) != (len : Int)) = false := by simp
  have hself : ∀ l : List UInt8, (l != l) = false := by simp
  have HA : Hid (TextsIn w a len ts) := ha
  have HB : Hid (TextsIn w b len ts) := hb
  clear ha hb
  go_enter Tryz.func52, Tryz.ntmps52
  go_wp2
  go_loopw [5] (fun i wr => ∃ k : Nat, k ≤ len ∧ i = .int .i64 k ∧ Below w.heap.size w wr) (fun i _ => len - (intOf i).toNat)
  case atStart => exact ⟨0, Nat.zero_le _, rfl, Below.refl _ _⟩
  case round =>
    obtain ⟨k, hk, rfl, hB⟩ := hrel
    by_cases hkl : (k : Int) < (len : Int)
    · obtain ⟨b1, o1, rfl, hb1, hca⟩ := (HA.out.below hB).2 k (by omega)
      obtain ⟨b2, o2, rfl, hb2, hcb⟩ := (HB.out.below hB).2 k (by omega)
      obtain ⟨t, ht⟩ : ∃ t, ts.getD k [] = t := ⟨_, rfl⟩
      rw [ht] at hca hcb
      clear ht
      go_wp2
      go_region
      all_goals (try go_wp2)
      go_roundw
      case rel => exact ⟨k + 1, by omega, by go_num, hB.drew⟩
      case measure => simp [intOf]; omega
    · go_wp2
      go_ret
      exact ⟨rfl, hB⟩

set_option maxHeartbeats 2000000 in
set_option maxRecDepth 100000 in
theorem eqPackageC (nm : List UInt8) (ia ib fa fb : Option Addr) (il ica icb fl fca fcb : Nat) (ims : List (List UInt8)) (fs : List Fn) (w : World) (hia : TextsIn w ia il ims) (hib : TextsIn w ib il ims) (hfa : FuncsIn w fa fl fs) (hfb : FuncsIn w fb fl fs) (hil : il ≤ 4194304) (hfl : fl ≤ 4194304) (hsh : ∀ j, (fs.getD j fn0).2.2.length ≤ 4194304) :
    Calls Tryz.prog 19 #[.agg #[.string ⟨nm.toArray⟩, .slice ia il ica, .slice fa fl fca], .agg #[.string ⟨nm.toArray⟩, .slice ib il icb, .slice fb fl fcb]] w fun e w' => e = .returned (.bool true) ∧ Below w.heap.size w w' := by
  have h2 : ∀ l : List UInt8, (l != l) = false := by simp
  obtain ⟨sa, hBa⟩ := PkIn.new (w := w) (nm := nm) (ic := ica) (fc := fca) hia hfa
  obtain ⟨W1, hW1⟩ : ∃ W, w.alloc (.cells #[.string ⟨nm.toArray⟩, .slice ia il ica, .slice fa fl fca] 27) = W := ⟨_, rfl⟩
  rw [hW1] at sa hBa
  obtain ⟨sb, hBb⟩ := PkIn.new (w := W1) (nm := nm) (ic := icb) (fc := fcb) (hib.below hBa) (hfb.below hBa)
  obtain ⟨W, hW⟩ : ∃ W, W1.alloc (.cells #[.string ⟨nm.toArray⟩, .slice ib il icb, .slice fb fl fcb] 27) = W := ⟨_, rfl⟩
  rw [hW] at sb hBb
  have hs1 : W1.heap.size = w.heap.size + 1 := by rw [← hW1]; simp
  have sa2 := sa.below hBb
  have hB : Below w.heap.size w W := hBa.trans (hBb.mono hBa.size)
  rw [hs1] at sb
  have HC := eqTextsC ia ib il ica icb ims W sa2.i sb.i hil
  have k0 := sa2.k0
  have k1 := sa2.k1
  have k2 := sa2.k2
  have j0 := sb.k0
  have j1 := sb.k1
  have j2 := sb.k2
  clear hia hib hfa hfb sa hBa hBb
  go_enter Tryz.func19, Tryz.ntmps19
  go_wp2_with fail
  refine HC.mono ?_
  rintro e w1 ⟨rfl, hb1⟩
  have ta := sa2.below hb1
  have tb := sb.below hb1
  have HC2 := eqFuncSC fa fb fl fca fcb fs w1 ta.f tb.f hfl hsh
  have hB1 : Below w.heap.size w w1 := hB.trans (hb1.mono hB.size)
  replace k0 := ta.k0
  replace k1 := ta.k1
  replace k2 := ta.k2
  replace j0 := tb.k0
  replace j1 := tb.k1
  replace j2 := tb.k2
  clear HC hb1 sa2 sb hB
  go_wp2_with fail
  refine HC2.mono ?_
  rintro e w2 ⟨rfl, hb2⟩
  have hB2 : Below w.heap.size w w2 := hB1.trans (hb2.mono hB1.size)
  clear HC2 hb2 ta tb hB1 k0 k1 k2 j0 j1 j2
  go_wp2
  go_ret
  exact ⟨rfl, hB2⟩

end Go.Proofs.YtnhkpncbloojhaaGreatDoor

/-! likeTree: two rows of nodes compared node by node. -/
namespace Go.Proofs.YtnhkpncbloojhaaGreatDoor
open Go.RowKit

set_option maxHeartbeats 2000000 in
set_option maxRecDepth 100000 in
theorem likeTreeC (a b : Option Addr) (len ca cb : Nat) (ns : List Nd) (w : World) (ha : NodesIn w a len ns) (hb : NodesIn w b len ns) (hlen : len ≤ 4194304) :
    Calls Tryz.prog 51 #[.slice a len ca, .slice b len cb] w fun e w' => e = .returned (.bool true) ∧ Below w.heap.size w w' := by
  have hlb := ha.1
  have HA : Hid (NodesIn w a len ns) := ha
  have HB : Hid (NodesIn w b len ns) := hb
  clear ha hb
  have hi : ∀ n : Int, (n == n) = true := by simp
  have hs : ∀ l : List UInt8, (l == l) = true := by simp
  have h1 : ∀ n : Int, (n != n) = false := by simp
  go_enter Tryz.func51, Tryz.ntmps51
  go_wp2
  go_loopw [5] (fun i wr => ∃ k : Nat, k ≤ len ∧ i = .int .i64 k ∧ Below w.heap.size w wr) (fun i _ => len - (intOf i).toNat)
  case atStart => exact ⟨0, Nat.zero_le _, rfl, Below.refl _ _⟩
  case round =>
    obtain ⟨k, hk, rfl, hB⟩ := hrel
    by_cases hkl : (k : Int) < (len : Int)
    · obtain ⟨b1, o1, rfl, hb1, hc1⟩ := (HA.out.below hB).at (by omega)
      obtain ⟨b2, o2, rfl, hb2, hc2⟩ := (HB.out.below hB).at (by omega)
      obtain ⟨x0, x1, x2, x3⟩ := hc1 k (by omega)
      obtain ⟨y0, y1, y2, y3⟩ := hc2 k (by omega)
      obtain ⟨x, hx⟩ : ∃ x, ns.getD k nd0 = x := ⟨_, rfl⟩
      rw [hx] at x0 x1 x2 x3 y0 y1 y2 y3
      obtain ⟨kd, aa, p, f⟩ := x
      simp only at x0 x1 x2 x3 y0 y1 y2 y3
      clear hx hc1 hc2
      go_wp2
      go_region
      all_goals (try go_wp2)
      go_roundw
      case rel => exact ⟨k + 1, by omega, by go_num, hB.grown (grown_drew _ none) hB.size (by simp)⟩
      case measure => simp [intOf]; omega
    · go_wp2
      go_ret
      exact ⟨rfl, hB⟩

end Go.Proofs.YtnhkpncbloojhaaGreatDoor

/-! The laws' own helpers over functions and packages: likeTexts over texts that can be read, likeFunc, likePackage. -/
namespace Go.Proofs.YtnhkpncbloojhaaGreatDoor
open Go.RowKit

set_option maxHeartbeats 1000000 in
set_option maxRecDepth 100000 in
theorem likeTextsC (a b : Option Addr) (len ca cb : Nat) (ts : List (List UInt8)) (w : World) (ha : TextsIn w a len ts) (hb : TextsIn w b len ts) (hlen : len ≤ 4194304) :
    Calls Tryz.prog 41 #[.slice a len ca, .slice b len cb] w fun e w' => e = .returned (.bool true) ∧ Below w.heap.size w w' := by
  have hne : ((len : Int) != (len : Int)) = false := by simp
  have hself : ∀ l : List UInt8, (l != l) = false := by simp
  have HA : Hid (TextsIn w a len ts) := ha
  have HB : Hid (TextsIn w b len ts) := hb
  clear ha hb
  go_enter Tryz.func41, Tryz.ntmps41
  go_wp2
  go_loopw [5] (fun i wr => ∃ k : Nat, k ≤ len ∧ i = .int .i64 k ∧ Below w.heap.size w wr) (fun i _ => len - (intOf i).toNat)
  case atStart => exact ⟨0, Nat.zero_le _, rfl, Below.refl _ _⟩
  case round =>
    obtain ⟨k, hk, rfl, hB⟩ := hrel
    by_cases hkl : (k : Int) < (len : Int)
    · obtain ⟨b1, o1, rfl, hb1, hca⟩ := (HA.out.below hB).2 k (by omega)
      obtain ⟨b2, o2, rfl, hb2, hcb⟩ := (HB.out.below hB).2 k (by omega)
      obtain ⟨t, ht⟩ : ∃ t, ts.getD k [] = t := ⟨_, rfl⟩
      rw [ht] at hca hcb
      clear ht
      go_wp2
      go_region
      all_goals (try go_wp2)
      go_roundw
      case rel => exact ⟨k + 1, by omega, by go_num, hB.drew⟩
      case measure => simp [intOf]; omega
    · go_wp2
      go_ret
      exact ⟨rfl, hB⟩

set_option maxHeartbeats 1000000 in
set_option maxRecDepth 100000 in
theorem likeFuncC (s : List UInt8) (n : Int) (t : List Nd) (ta tb : Option Addr) (tl ca cb : Nat) (w : World) (ha : NodesIn w ta tl t) (hb : NodesIn w tb tl t) (hlen : tl ≤ 4194304) :
    Calls Tryz.prog 18 #[.agg #[.string ⟨s.toArray⟩, .int .i64 n, .slice ta tl ca], .agg #[.string ⟨s.toArray⟩, .int .i64 n, .slice tb tl cb]] w fun e w' => e = .returned (.bool true) ∧ Below w.heap.size w w' := by
  have h1 : ∀ n : Int, (n == n) = true := by simp
  have h2 : ∀ l : List UInt8, (l == l) = true := by simp
  have hbW : Below w.heap.size w ((w.alloc (.cells #[.string ⟨s.toArray⟩, .int .i64 n, .slice ta tl ca] 37)).alloc (.cells #[.string ⟨s.toArray⟩, .int .i64 n, .slice tb tl cb] 37)) := ((Below.refl _ _).alloc (Nat.le_refl _) _).alloc (by simp) _
  have HC := likeTreeC ta tb tl ca cb t _ (ha.below hbW) (hb.below hbW) hlen
  clear ha hb
  go_enter Tryz.func18, Tryz.ntmps18
  go_wp2_with fail
  refine HC.mono ?_
  rintro e w1 ⟨rfl, hb1⟩
  have hbd : Below w.heap.size w w1 := hbW.trans (hb1.mono hbW.size)
  clear HC hb1 hbW
  go_wp2
  go_ret
  exact ⟨rfl, hbd⟩

set_option maxHeartbeats 4000000 in
set_option maxRecDepth 100000 in
theorem likePackageC (nm : List UInt8) (ia ib fa fb : Option Addr) (il ica icb fl fca fcb : Nat) (ims : List (List UInt8)) (fs : List Fn) (w : World) (hia : TextsIn w ia il ims) (hib : TextsIn w ib il ims) (hfa : FuncsIn w fa fl fs) (hfb : FuncsIn w fb fl fs) (hil : il ≤ 4194304) (hfl : fl ≤ 4194304) (hsh : ∀ j, (fs.getD j fn0).2.2.length ≤ 4194304) :
    Calls Tryz.prog 13 #[.agg #[.string ⟨nm.toArray⟩, .slice ia il ica, .slice fa fl fca], .agg #[.string ⟨nm.toArray⟩, .slice ib il icb, .slice fb fl fcb]] w fun e w' => e = .returned (.bool true) ∧ Below w.heap.size w w' := by
  have h2 : ∀ l : List UInt8, (l != l) = false := by simp
  have h1 : ((fl : Int) != (fl : Int)) = false := by simp
  obtain ⟨sa, hBa⟩ := PkIn.new (w := w) (nm := nm) (ic := ica) (fc := fca) hia hfa
  obtain ⟨W1, hW1⟩ : ∃ W, w.alloc (.cells #[.string ⟨nm.toArray⟩, .slice ia il ica, .slice fa fl fca] 27) = W := ⟨_, rfl⟩
  rw [hW1] at sa hBa
  obtain ⟨sb, hBb⟩ := PkIn.new (w := W1) (nm := nm) (ic := icb) (fc := fcb) (hib.below hBa) (hfb.below hBa)
  obtain ⟨W, hW⟩ : ∃ W, W1.alloc (.cells #[.string ⟨nm.toArray⟩, .slice ib il icb, .slice fb fl fcb] 27) = W := ⟨_, rfl⟩
  rw [hW] at sb hBb
  obtain ⟨D, hD⟩ : ∃ D, w.heap.size = D := ⟨_, rfl⟩
  have hs1 : W1.heap.size = D + 1 := by rw [← hW1, ← hD]; simp
  have sa2 := sa.below hBb
  have hB : Below w.heap.size w W := hBa.trans (hBb.mono hBa.size)
  rw [hs1] at sb
  rw [hD] at sa2 hB
  have HC := likeTextsC ia ib il ica icb ims W sa2.i sb.i hil
  have k0 := sa2.k0
  have k1 := sa2.k1
  have k2 := sa2.k2
  have j0 := sb.k0
  have j1 := sb.k1
  have j2 := sb.k2
  have HSH : Hid (∀ j, (fs.getD j fn0).2.2.length ≤ 4194304) := hsh
  clear hia hib hfa hfb sa hBa hBb hsh
  go_enter Tryz.func13, Tryz.ntmps13
  go_wp2_with fail
  refine HC.mono ?_
  rintro e w1 ⟨rfl, hb1⟩
  have HA : Hid (PkIn w1 D nm ia il ica fa fl fca ims fs) := sa2.below hb1
  have HB : Hid (PkIn w1 (D + 1) nm ib il icb fb fl fcb ims fs) := sb.below hb1
  have hB1 : Below D w w1 := hB.trans (hb1.mono (by have := hB.size; omega))
  have hs1b : D ≤ w1.heap.size := by have := hB1.size; omega
  replace k0 := HA.out.k0
  replace k1 := HA.out.k1
  replace k2 := HA.out.k2
  replace j0 := HB.out.k0
  replace j1 := HB.out.k1
  replace j2 := HB.out.k2
  clear HC hb1 sa2 sb hB
  go_wp2
  go_loopw [5] (fun i wr => ∃ k : Nat, k ≤ fl ∧ i = .int .i64 k ∧ Below w1.heap.size w1 wr) (fun i _ => fl - (intOf i).toNat)
  case atStart => exact ⟨0, Nat.zero_le _, rfl, Below.refl _ _⟩
  case round =>
    obtain ⟨k, hk, rfl, hBr⟩ := hrel
    have ra := HA.out.below hBr
    have rb := HB.out.below hBr
    replace k2 := ra.k2
    replace j2 := rb.k2
    by_cases hkl : (k : Int) < (fl : Int)
    · obtain ⟨b1, o1, rfl, hb1, x0, x1, ta, tl, tc, x2, _, hn1⟩ := ra.f.2 k (by omega)
      obtain ⟨b2, o2, rfl, hb2, y0, y1, tb, tl2, tc2, y2, _, hn2⟩ := rb.f.2 k (by omega)
      have hts := HSH.out k
      obtain ⟨f, hf⟩ : ∃ f, fs.getD k fn0 = f := ⟨_, rfl⟩
      rw [hf] at x0 x1 y0 y1 hn1 hn2 hts
      obtain ⟨s, n, t⟩ := f
      simp only at x0 x1 y0 y1 hn1 hn2 hts
      obtain rfl : t.length = tl := hn1.1
      obtain rfl : t.length = tl2 := hn2.1
      have hn1' : NodesIn wr.drew ta t.length t := hn1.below ⟨rfl, rfl, rfl, Nat.le_refl _, fun _ _ => rfl⟩
      have hn2' : NodesIn wr.drew tb t.length t := hn2.below ⟨rfl, rfl, rfl, Nat.le_refl _, fun _ _ => rfl⟩
      have hDa : D < wr.heap.size := World.block_lt_of_cell? wr ⟨D, 2, none⟩ k2
      have hDb : D + 1 < wr.heap.size := World.block_lt_of_cell? wr ⟨D + 1, 2, none⟩ j2
      clear hf hn1 hn2 ra rb k0 k1 j0 j1
      go_wp2
      go_region_held3 (fun w' => w'.cell? ⟨D, 2, none⟩ = some (.slice (some ⟨b1, o1, none⟩) fl fca) ∧ w'.cell? ⟨D + 1, 2, none⟩ = some (.slice (some ⟨b2, o2, none⟩) fl fcb) ∧ w'.cell? ⟨b1, o1 + k * 3, none⟩ = some (.string ⟨s.toArray⟩) ∧ w'.cell? ⟨b1, o1 + k * 3 + 1, none⟩ = some (.int .i64 n) ∧ w'.cell? ⟨b1, o1 + k * 3 + 2, none⟩ = some (.slice ta t.length tc) ∧ w'.cell? ⟨b2, o2 + k * 3, none⟩ = some (.string ⟨s.toArray⟩) ∧ w'.cell? ⟨b2, o2 + k * 3 + 1, none⟩ = some (.int .i64 n) ∧ w'.cell? ⟨b2, o2 + k * 3 + 2, none⟩ = some (.slice tb t.length tc2)) (go_keep) (first | (go_at_call 18; refine (likeFuncC s n t ta tb t.length tc tc2 _ hn1' hn2' hts).mono ?_; rintro e w2 ⟨rfl, hw1⟩; have c2 := (hw1.cell (p := ⟨D, 2, none⟩) hDa).trans k2; have c3 := (hw1.cell (p := ⟨D + 1, 2, none⟩) hDb).trans j2; have d0 : w2.cell? ⟨b1, o1 + k * 3, none⟩ = some (.string ⟨s.toArray⟩) := (hw1.cell (p := ⟨b1, o1 + k * 3, none⟩) hb1).trans x0; have d1 : w2.cell? ⟨b1, o1 + k * 3 + 1, none⟩ = some (.int .i64 n) := (hw1.cell (p := ⟨b1, o1 + k * 3 + 1, none⟩) hb1).trans x1; have d2 : w2.cell? ⟨b1, o1 + k * 3 + 2, none⟩ = some (.slice ta t.length tc) := (hw1.cell (p := ⟨b1, o1 + k * 3 + 2, none⟩) hb1).trans x2; have e0 : w2.cell? ⟨b2, o2 + k * 3, none⟩ = some (.string ⟨s.toArray⟩) := (hw1.cell (p := ⟨b2, o2 + k * 3, none⟩) hb2).trans y0; have e1 : w2.cell? ⟨b2, o2 + k * 3 + 1, none⟩ = some (.int .i64 n) := (hw1.cell (p := ⟨b2, o2 + k * 3 + 1, none⟩) hb2).trans y1; have e2 : w2.cell? ⟨b2, o2 + k * 3 + 2, none⟩ = some (.slice tb t.length tc2) := (hw1.cell (p := ⟨b2, o2 + k * 3 + 2, none⟩) hb2).trans y2))
      all_goals go_wp2
      go_roundw
      case rel => exact ⟨k + 1, by omega, by go_num, hBr.trans ⟨hw1.os, hw1.tape, hw1.output, hw1.size, fun q hq => hw1.block q (by have := hBr.size; show q < wr.heap.size; omega)⟩⟩
      case measure => simp [intOf]; omega
    · go_wp2
      go_ret
      exact ⟨rfl, by first | exact hB1.trans (hBr.mono hs1b) | (rw [hD]; exact hB1.trans (hBr.mono hs1b))⟩

end Go.Proofs.YtnhkpncbloojhaaGreatDoor

/-! What FnPackages holds: packages and functions in boxes. -/
namespace Go.Proofs.YtnhkpncbloojhaaGreatDoor
open Go.RowKit

/-- A package as it is held: where its lists lie, and what it reads as. -/
structure PkR where
  nm : List UInt8
  ia : Option Addr
  ic : Nat
  fa : Option Addr
  fc : Nat
  ims : List (List UInt8)
  fs : List Fn
/-- A function, so. -/
structure FnR where
  nm : List UInt8
  args : Int
  ta : Option Addr
  tc : Nat
  t : List Nd

def PkR.ok (W : World) (r : PkR) : Prop := PkOk W r.nm r.ia r.ims.length r.ic r.fa r.fs.length r.fc r.ims r.fs
def PkAt (W : World) (D : Nat) (r : PkR) : Prop := Box3 W D (.string ⟨r.nm.toArray⟩) (.slice r.ia r.ims.length r.ic) (.slice r.fa r.fs.length r.fc) ∧ r.ok W
def FnAt (W : World) (D : Nat) (r : FnR) : Prop := Box3 W D (.string ⟨r.nm.toArray⟩) (.int .i64 r.args) (.slice r.ta r.t.length r.tc) ∧ NodesIn W r.ta r.t.length r.t

theorem PkR.ok.below {W W' : World} {r : PkR} (h : r.ok W) (hb : Below W.heap.size W W') : r.ok W' := PkOk.below h hb
theorem PkAt.below {W W' : World} {D : Nat} {r : PkR} (h : PkAt W D r) (hb : Below W.heap.size W W') : PkAt W' D r := ⟨h.1.below hb, h.2.below hb⟩
theorem FnAt.below {W W' : World} {D : Nat} {r : FnR} (h : FnAt W D r) (hb : Below W.heap.size W W') : FnAt W' D r := ⟨h.1.below hb, h.2.below hb⟩
theorem PkAt.new {W : World} {r : PkR} (h : r.ok W) : PkAt (W.alloc (.cells #[.string ⟨r.nm.toArray⟩, .slice r.ia r.ims.length r.ic, .slice r.fa r.fs.length r.fc] 27)) W.heap.size r ∧ Below W.heap.size W (W.alloc (.cells #[.string ⟨r.nm.toArray⟩, .slice r.ia r.ims.length r.ic, .slice r.fa r.fs.length r.fc] 27)) :=
  have hb := Box3.new W (.string ⟨r.nm.toArray⟩) (.slice r.ia r.ims.length r.ic) (.slice r.fa r.fs.length r.fc) 27
  ⟨⟨hb.1, h.below hb.2⟩, hb.2⟩
theorem FnAt.new {W : World} {r : FnR} (h : NodesIn W r.ta r.t.length r.t) : FnAt (W.alloc (.cells #[.string ⟨r.nm.toArray⟩, .int .i64 r.args, .slice r.ta r.t.length r.tc] 37)) W.heap.size r ∧ Below W.heap.size W (W.alloc (.cells #[.string ⟨r.nm.toArray⟩, .int .i64 r.args, .slice r.ta r.t.length r.tc] 37)) :=
  have hb := Box3.new W (.string ⟨r.nm.toArray⟩) (.int .i64 r.args) (.slice r.ta r.t.length r.tc) 37
  ⟨⟨hb.1, h.below hb.2⟩, hb.2⟩

/-- A drawn package; a package that was read. -/
theorem Drawn7.rec {w wx : World} {v : Value} {nm : List UInt8} {ims : List (List UInt8)} {xs : List FV} (h : Drawn7 w wx v nm ims xs) :
    ∃ r : PkR, v = .agg #[.string ⟨r.nm.toArray⟩, .slice r.ia r.ims.length r.ic, .slice r.fa r.fs.length r.fc] ∧ r.ok wx := by
  obtain ⟨ia, ic, fa, fc, rfl, ho⟩ := h.ok
  exact ⟨⟨nm, ia, ic, fa, fc, ims, xs.map (fun x : FV => x.1)⟩, rfl, ho⟩
theorem read_rec {w : World} {base : Nat} {l : List UInt8} {vi vf : Value} {xs : List FV} (hx : xs.map (·.1) = (readPV l).2.2) (hoi : w.ownsRow base 9 1 vi (readPV l).2.1.length (strV (readPV l).2.1)) (hof : FnsOwn w base vf xs) :
    ∃ r : PkR, Value.agg #[.string ⟨(readPV l).1.toArray⟩, vi, vf] = .agg #[.string ⟨r.nm.toArray⟩, .slice r.ia r.ims.length r.ic, .slice r.fa r.fs.length r.fc] ∧ r.ok w ∧ (r.nm, r.ims, r.fs) = readPV l := by
  obtain ⟨ai, ci, af, cf, rfl, rfl, hi, hc, hti, hfi⟩ := own_pk hoi hof hx
  obtain ⟨h1, h2, h3, h4, h5, h6⟩ := read_ok l
  exact ⟨⟨(readPV l).1, ai, ci, af, cf, (readPV l).2.1, (readPV l).2.2⟩, rfl, ⟨hti, hfi, hi, hc, h1, by show (readPV l).2.1.length ≤ _; omega, by show (readPV l).2.2.length ≤ _; omega, by show (readPV l).1.length ≤ _; omega, ims_short h6, h2⟩, rfl⟩

theorem read_rec2 {w : World} {base : Nat} {l : List UInt8} {vi vf : Value} {xs : List FV} {x : PkR} (he : (x.nm, x.ims, x.fs) = readPV l) (hx : xs.map (·.1) = (readPV l).2.2) (hoi : w.ownsRow base 9 1 vi (readPV l).2.1.length (strV (readPV l).2.1)) (hof : FnsOwn w base vf xs) :
    ∃ ia ic fa fc, Value.agg #[.string ⟨(readPV l).1.toArray⟩, vi, vf] = .agg #[.string ⟨x.nm.toArray⟩, .slice ia x.ims.length ic, .slice fa x.fs.length fc] ∧ (⟨x.nm, ia, ic, fa, fc, x.ims, x.fs⟩ : PkR).ok w := by
  obtain ⟨r, e1, h1, e2⟩ := read_rec hx hoi hof
  rw [← he] at e2
  injection e2 with a1 a2
  injection a2 with a2 a3
  obtain ⟨nm, ia, ic, fa, fc, ims, fs⟩ := r
  simp only at a1 a2 a3 e1
  subst a1 a2 a3
  exact ⟨ia, ic, fa, fc, e1, h1⟩
theorem fn_rec {w : World} {base : Nat} {fv : Fn} {v : Value} (ho : w.ownsRow base 77 4 v fv.2.2.length (nodesV fv.2.2)) :
    ∃ f : FnR, Value.agg #[.string ⟨fv.1.toArray⟩, .int .i64 fv.2.1, v] = .agg #[.string ⟨f.nm.toArray⟩, .int .i64 f.args, .slice f.ta f.t.length f.tc] ∧ NodesIn w f.ta f.t.length f.t ∧ (f.nm, f.args, f.t) = fv := by
  obtain ⟨_, ta, tc, rfl, hin⟩ := own_nodes ho
  exact ⟨⟨fv.1, fv.2.1, ta, tc, fv.2.2⟩, rfl, hin, rfl⟩

theorem fn_rec2 {w : World} {base : Nat} {fv : Fn} {v : Value} {f : FnR} (he : (f.nm, f.args, f.t) = fv) (ho : w.ownsRow base 77 4 v fv.2.2.length (nodesV fv.2.2)) :
    ∃ ta tc, Value.agg #[.string ⟨fv.1.toArray⟩, .int .i64 fv.2.1, v] = .agg #[.string ⟨f.nm.toArray⟩, .int .i64 f.args, .slice ta f.t.length tc] ∧ NodesIn w ta f.t.length f.t := by
  subst he
  obtain ⟨_, ta, tc, rfl, hin⟩ := own_nodes ho
  exact ⟨ta, tc, rfl, hin⟩

structure Hold7 (W : World) (D3 : Nat) (p : PkR) (D6 : Nat) (x : PkR) (D8 : Nat) (q : PkR) (D10 : Nat) (f : FnR) (D12 : Nat) (y : PkR) : Prop where
  p : PkAt W D3 p
  x : PkAt W D6 x
  q : PkAt W D8 q
  f : FnAt W D10 f
  y : PkAt W D12 y
theorem Hold7.below {W W' : World} {D3 : Nat} {p : PkR} {D6 : Nat} {x : PkR} {D8 : Nat} {q : PkR} {D10 : Nat} {f : FnR} {D12 : Nat} {y : PkR} (h : Hold7 W D3 p D6 x D8 q D10 f D12 y) (hb : Below W.heap.size W W') : Hold7 W' D3 p D6 x D8 q D10 f D12 y := ⟨h.p.below hb, h.x.below hb, h.q.below hb, h.f.below hb, h.y.below hb⟩
theorem Hold7.drew {W : World} {D3 : Nat} {p : PkR} {D6 : Nat} {x : PkR} {D8 : Nat} {q : PkR} {D10 : Nat} {f : FnR} {D12 : Nat} {y : PkR} (h : Hold7 W D3 p D6 x D8 q D10 f D12 y) : Hold7 W.drew D3 p D6 x D8 q D10 f D12 y :=
  h.below ((Below.refl _ _).grown (grown_drew W none) (Nat.le_refl _) (fun k e => by cases e))

end Go.Proofs.YtnhkpncbloojhaaGreatDoor
