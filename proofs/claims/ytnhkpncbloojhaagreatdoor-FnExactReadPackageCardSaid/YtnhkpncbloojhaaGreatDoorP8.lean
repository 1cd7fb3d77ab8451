/-
  Parts of one proof, one behind the other: PackS4, TreeS4.
-/
import Derived.Test.YtnhkpncbloojhaaGreatDoorP7
import Derived.Test.YtnhkpncbloojhaaGreatDoorP6
import Derived.Test.YtnhkpncbloojhaaGreatDoorP5
import Derived.Deep.RegionWith

/-! The contracts of chapter 7's specification: l7Show, ShowPackage. -/
namespace Go.Proofs.YtnhkpncbloojhaaGreatDoor
open Go.RowKit

/-- A line with its end. -/
def lineT (x : List UInt8) : List UInt8 := x ++ [10]

theorem showP_head (nm : List UInt8) : showP (nm, [], []) = lineT (packLn nm) := by simp [showP, pkLines, termJ, lineT]

theorem showP_imp (nm : List UInt8) (ims : List (List UInt8)) (k : Nat) (hk : k < ims.length) : showP (nm, ims.take (k + 1), []) = showP (nm, ims.take k, []) ++ lineT (impLn (ims.getD k [])) := by
  unfold lineT
  have e : ims.getD k [] = ims[k] := by rw [List.getD_eq_getElem?_getD, List.getElem?_eq_getElem hk]; rfl
  rw [e, List.take_succ_eq_append_getElem hk]
  simp only [showP, pkLines, termJ, List.map_append, List.map_cons, List.map_nil, List.flatten_append, List.flatten_cons, List.flatten_nil, List.append_nil, List.append_assoc]

theorem showP_fn (nm : List UInt8) (ims : List (List UInt8)) (fs : List Fn) (k : Nat) (hk : k < fs.length) : showP (nm, ims, fs.take (k + 1)) = showP (nm, ims, fs.take k) ++ lineT (funcLn (fs.getD k fn0)) := by
  unfold lineT
  have e : fs.getD k fn0 = fs[k] := by rw [List.getD_eq_getElem?_getD, List.getElem?_eq_getElem hk]; rfl
  rw [e, List.take_succ_eq_append_getElem hk]
  simp only [showP, pkLines, termJ, List.map_append, List.map_cons, List.map_nil, List.flatten_append, List.flatten_cons, List.flatten_nil, List.append_nil, List.append_assoc]

theorem showP_le1 (nm : List UInt8) (ims : List (List UInt8)) (fs : List Fn) (k : Nat) : (showP (nm, ims.take k, [])).length ≤ (showP (nm, ims, fs)).length := by
  have : showP (nm, ims, fs) = showP (nm, ims.take k, []) ++ termJ ((ims.drop k).map impLn ++ fs.map funcLn) := by
    unfold showP pkLines
    rw [← termJ_append]
    congr 1
    simp only [List.map_nil, List.append_nil, List.cons_append]
    rw [← List.append_assoc, ← List.map_append, List.take_append_drop]
  rw [this, List.length_append]; omega

theorem showP_le2 (nm : List UInt8) (ims : List (List UInt8)) (fs : List Fn) (k : Nat) : (showP (nm, ims, fs.take k)).length ≤ (showP (nm, ims, fs)).length := by
  have : showP (nm, ims, fs) = showP (nm, ims, fs.take k) ++ termJ ((fs.drop k).map funcLn) := by
    unfold showP pkLines
    rw [← termJ_append]
    congr 1
    simp only [List.cons_append, List.append_assoc]
    rw [← List.map_append, List.take_append_drop]
  rw [this, List.length_append]; omega

/-- What a round of l7Show's second loop holds: the function's own block, the row that is written, the function's tree. -/
structure ShSt (X W : World) (B F g cap : Nat) (l s : List UInt8) (n : Int) (t : List Nd) (ta : Option Addr) (tl tc : Nat) : Prop where
  c0 : X.cell? ⟨F, 0, none⟩ = some (.string ⟨s.toArray⟩)
  c1 : X.cell? ⟨F, 1, none⟩ = some (.int .i64 n)
  c2 : X.cell? ⟨F, 2, none⟩ = some (.slice ta tl tc)
  ne : g ≠ F
  row : RowW X B g cap l
  nodes : NodesIn X ta tl t
  b : Below B W X
  bs : B ≤ X.heap.size

theorem ShSt.below {X Y W : World} {B F g cap : Nat} {l s : List UInt8} {n : Int} {t : List Nd} {ta : Option Addr} {tl tc : Nat} (h : ShSt X W B F g cap l s n t ta tl tc) (hb : Below X.heap.size X Y) : ShSt Y W B F g cap l s n t ta tl tc :=
  have hl : F < X.heap.size := World.block_lt_of_cell? X ⟨F, 0, none⟩ h.c0
  ⟨(hb.cell (p := ⟨F, 0, none⟩) hl).trans h.c0, (hb.cell (p := ⟨F, 1, none⟩) hl).trans h.c1, (hb.cell (p := ⟨F, 2, none⟩) hl).trans h.c2, h.ne, h.row.below hb, h.nodes.below hb, h.b.trans (hb.mono h.bs), Nat.le_trans h.bs hb.size⟩

theorem ShSt.drew {X W : World} {B F g cap : Nat} {l s : List UInt8} {n : Int} {t : List Nd} {ta : Option Addr} {tl tc : Nat} (h : ShSt X W B F g cap l s n t ta tl tc) : ShSt X.drew W B F g cap l s n t ta tl tc :=
  h.below ⟨rfl, rfl, rfl, Nat.le_refl _, fun _ _ => rfl⟩

/-- The end of such a round: the row has the line. -/
theorem ShSt.append {X W : World} {B F g cap : Nat} {l s : List UInt8} {n : Int} {t : List Nd} {ta : Option Addr} {tl tc : Nat} (h : ShSt X W B F g cap l s n t ta tl tc) (x : List UInt8) (hx : l.length + x.length ≤ 4194304) :
    ∃ g' cap' w', (Builtin.append_ #[22, 9] 22 #[.slice (some ⟨g, 0, none⟩) l.length cap, .string ⟨x.toArray⟩]).run Tryz.prog X = .ok (.slice (some ⟨g', 0, none⟩) (l ++ x).length cap') w' ∧ RowW w' B g' cap' (l ++ x) ∧ Below B W w' ∧
      w'.cell? ⟨F, 0, none⟩ = some (.string ⟨s.toArray⟩) ∧ w'.cell? ⟨F, 1, none⟩ = some (.int .i64 n) ∧ w'.cell? ⟨F, 2, none⟩ = some (.slice ta tl tc) := by
  obtain ⟨g', cap', w', hrun, hrow, hg⟩ := h.row.append x hx h.bs 22
  have hl : F < X.heap.size := World.block_lt_of_cell? X ⟨F, 0, none⟩ h.c0
  have hbk := hg.block F hl (by intro e; injection e with e; exact h.ne e.symm)
  exact ⟨g', cap', w', hrun, hrow, h.b.grown hg h.bs (fun q e => by injection e with e; rw [← e]; exact h.row.row.new), (World.cell?_of_block (a := ⟨F, 0, none⟩) hbk).trans h.c0, (World.cell?_of_block (a := ⟨F, 1, none⟩) hbk).trans h.c1, (World.cell?_of_block (a := ⟨F, 2, none⟩) hbk).trans h.c2⟩

set_option maxHeartbeats 4000000 in
set_option maxRecDepth 100000 in
theorem specShowP (nm : List UInt8) (ia : Option Addr) (il ic : Nat) (fa : Option Addr) (fl fc : Nat) (ims : List (List UInt8)) (fs : List Fn) (w : World) (hi : TextsIn w ia il ims) (hf : FuncsIn w fa fl fs) (hp : pkgB (nm, ims, fs) = true) :
    Calls Tryz.prog 40 #[.agg #[.string ⟨nm.toArray⟩, .slice ia il ic, .slice fa fl fc]] w fun e w' => e = .returned (.string ⟨(showP (nm, ims, fs)).toArray⟩) ∧ Below w.heap.size w w' := by
  obtain rfl : fs.length = fl := hf.1
  obtain rfl : ims.length = il := hi.1
  have hlen := showP_len hp
  obtain ⟨hp1, hp2, hp3, ⟨hp4, hp5⟩, hp6⟩ := pkgB_parts hp
  simp only at hp1 hp2 hp3 hp4 hp5 hp6
  obtain ⟨W, hW⟩ : ∃ W, w.alloc (.cells #[.string ⟨nm.toArray⟩, .slice ia ims.length ic, .slice fa fs.length fc] 27) = W := ⟨_, rfl⟩
  obtain ⟨st, hB⟩ := PkIn.new (w := w) (nm := nm) (ic := ic) (fc := fc) hi hf
  rw [hW] at st hB
  have hWs : W.heap.size = w.heap.size + 1 := by rw [← hW]; simp
  obtain ⟨D, hD⟩ : ∃ D, w.heap.size = D := ⟨_, rfl⟩
  rw [hD] at st hB
  clear hi hf
  have k0 := st.k0
  have k1 := st.k1
  have h1 := showP_le1 nm ims fs 0
  rw [List.take_zero, showP_head] at h1
  have hnl := (name_letters hp1).1.2
  obtain ⟨cp, w1, hconv, hrow1, hb1⟩ := RowW.made W (lineT (packLn nm)) (by omega)
  have e1 : ∀ X : World, (Op.stringOp .add ⟨#[112, 97, 99, 107, 97, 103, 101, 32]⟩ ⟨nm.toArray⟩).run Tryz.prog X = .ok (.string ⟨(packLn nm).toArray⟩) X := fun X => run_string_add_lists (P := Tryz.prog) X [112, 97, 99, 107, 97, 103, 101, 32] nm (by simp) (by omega)
  have e2 : ∀ X : World, (Op.stringOp .add ⟨(packLn nm).toArray⟩ ⟨#[10]⟩).run Tryz.prog X = .ok (.string ⟨(lineT (packLn nm)).toArray⟩) X := fun X => run_string_add_lists (P := Tryz.prog) X (packLn nm) [10] (by unfold lineT at h1; rw [List.length_append, List.length_singleton] at h1; omega) (by simp)
  rw [hD] at hWs
  rw [hWs] at hconv hrow1 hb1
  have HST : Hid (PkIn W D nm ia ims.length ic fa fs.length fc ims fs) := st
  have HB : Hid (Below D w W) := hB
  have HP2 : Hid (∀ x ∈ ims, nameB x = true) := hp2
  have HP6 : Hid (∀ f ∈ fs, funcB f = true) := hp6
  have HLen : Hid ((showP (nm, ims, fs)).length ≤ 20000) := hlen
  have HWs : Hid (W.heap.size = D + 1) := hWs
  clear hp hp1 hp2 hp6 hlen h1 hB st k1
  go_enter Tryz.func40, Tryz.ntmps40
  go_wp2
  clear hconv e1 e2 k0
  go_loopw [3, 4] (fun v i wr => ∃ (k g cap : Nat) (l : List UInt8), k ≤ ims.length ∧ i = .int .i64 k ∧ v = .slice (some ⟨g, 0, none⟩) l.length cap ∧ Hid (l = showP (nm, ims.take k, [])) ∧ Hid (RowW wr (D + 1) g cap l) ∧ Hid (Below (D + 1) W wr)) (fun _ i _ => ims.length - (intOf i).toNat)
  case atStart => exact ⟨0, D + 1, cp, lineT (packLn nm), Nat.zero_le _, rfl, rfl, (by rw [List.take_zero, showP_head] : _ = _), hrow1, hb1⟩
  case round =>
    obtain ⟨k, g, cap, l, hk, rfl, rfl, HL, HR, HBl⟩ := hrel
    clear hrow1 hb1
    have hsz : D + 1 ≤ wr.heap.size := by have := HBl.out.size; rw [HWs.out] at this; exact this
    have st := HST.out.below (by rw [HWs.out]; exact HBl.out)
    have k1 := st.k1
    have k2 := st.k2
    by_cases hkl : (k : Int) < (ims.length : Int)
    · have hk2 : k < ims.length := by omega
      obtain ⟨b, off, rfl, hbl, c0⟩ := st.i.2 k hk2
      have hst := showP_imp nm ims k hk2
      have hle := showP_le1 nm ims fs (k + 1)
      have hnk : nameB (ims.getD k []) = true := HP2.out _ (by rw [List.getD_eq_getElem?_getD, List.getElem?_eq_getElem hk2]; exact List.getElem_mem hk2)
      obtain ⟨x, hx⟩ : ∃ x, ims.getD k [] = x := ⟨_, rfl⟩
      rw [hx] at c0 hst hnk
      have hxl := (name_letters hnk).1.2
      rw [hst, List.length_append, ← HL.out] at hle
      have hlx : l.length + (lineT (impLn x)).length ≤ 20000 := Nat.le_trans hle HLen.out
      obtain ⟨g', cap', w', hrun, hrow', hg'⟩ := HR.out.append (lineT (impLn x)) (by omega) hsz 22
      have HR' : Hid (RowW w' (D + 1) g' cap' (l ++ lineT (impLn x))) := hrow'
      have HB' : Hid (Below (D + 1) W w') := HBl.out.grown hg' hsz (fun q e => by injection e with e; rw [← e]; exact HR.out.row.new)
      have HL' : Hid (l ++ lineT (impLn x) = showP (nm, ims.take (k + 1), [])) := by exact (by rw [hst, HL.out] : l ++ lineT (impLn x) = showP (nm, ims.take (k + 1), []))
      have hil : (impLn x).length ≤ 15 := by unfold impLn kwImport; simp; omega
      have e3 : ∀ X : World, (Op.stringOp .add ⟨#[105, 109, 112, 111, 114, 116, 32]⟩ ⟨x.toArray⟩).run Tryz.prog X = .ok (.string ⟨(impLn x).toArray⟩) X := fun X => run_string_add_lists (P := Tryz.prog) X [105, 109, 112, 111, 114, 116, 32] x (by simp) (by omega)
      have e4 : ∀ X : World, (Op.stringOp .add ⟨(impLn x).toArray⟩ ⟨#[10]⟩).run Tryz.prog X = .ok (.string ⟨(lineT (impLn x)).toArray⟩) X := fun X => run_string_add_lists (P := Tryz.prog) X (impLn x) [10] (by omega) (by simp)
      clear hst hle hx hnk hxl hlx hrow' hg' HL HR HBl hil k2 st
      go_wp2_with (at_builtin; refine wpList_append_str rfl (.tmp 19) (.tmp 26) 22 9 rfl _ _ _ rfl rfl hrun ?_; clear hrun)
      go_roundw
      case rel => exact ⟨k + 1, g', cap', l ++ lineT (impLn x), by omega, by go_num, by first | rfl | simp, HL', HR', HB'⟩
      case measure => simp [intOf]; omega
    · obtain rfl : k = ims.length := by omega
      have HL0 : Hid (l = showP (nm, ims, fs.take 0)) := by exact (by rw [HL.out, List.take_length, List.take_zero] : l = showP (nm, ims, fs.take 0))
      clear HL st k2 hsz hkl
      go_wp2
      clear k1
      go_loopw [3, 5] (fun v i wr => ∃ (k g cap : Nat) (l : List UInt8), k ≤ fs.length ∧ i = .int .i64 k ∧ v = .slice (some ⟨g, 0, none⟩) l.length cap ∧ Hid (l = showP (nm, ims, fs.take k)) ∧ Hid (RowW wr (D + 1) g cap l) ∧ Hid (Below (D + 1) W wr)) (fun _ i _ => fs.length - (intOf i).toNat)
      case atStart => exact ⟨0, g, cap, l, Nat.zero_le _, rfl, rfl, HL0, HR, HBl⟩
      case round =>
        clear HL0 HR HBl
        obtain ⟨k, g, cap, l, hk, rfl, rfl, HL, HR, HBl⟩ := hrel
        have hsz : D + 1 ≤ wr.heap.size := by have := HBl.out.size; rw [HWs.out] at this; exact this
        have st := HST.out.below (by rw [HWs.out]; exact HBl.out)
        have k2 := st.k2
        by_cases hkl : (k : Int) < (fs.length : Int)
        · have hk2 : k < fs.length := by omega
          obtain ⟨b, off, rfl, hbl, c0, c1, ta, tl, tc, c2, hnc, hin⟩ := st.f.2 k hk2
          have hst := showP_fn nm ims fs k hk2
          have hle := showP_le2 nm ims fs (k + 1)
          have hnk : funcB (fs.getD k fn0) = true := HP6.out _ (by rw [List.getD_eq_getElem?_getD, List.getElem?_eq_getElem hk2]; exact List.getElem_mem hk2)
          obtain ⟨f, hfe⟩ : ∃ f, fs.getD k fn0 = f := ⟨_, rfl⟩
          rw [hfe] at c0 c1 hin hst hnk
          obtain ⟨s, n, t⟩ := f
          simp only at c0 c1 hin hst hnk
          have hfl := funcLn_len hnk
          unfold funcB at hnk
          simp only [Bool.and_eq_true] at hnk
          obtain ⟨hs, hn, ht⟩ := hnk
          have hnb : 0 ≤ n ∧ n ≤ 3 := by unfold inB at hn; exact of_decide_eq_true hn
          have HTN : Hid (∀ nd ∈ t, nodeB nd = true) := tree_nodes ht
          have htl : tl ≤ 60 := by have := (tree_end ht).1.2; rw [hin.1] at this; exact this
          rw [hst, List.length_append, ← HL.out] at hle
          have hlx : l.length + (lineT (funcLn (s, n, t))).length ≤ 20000 := Nat.le_trans hle HLen.out
          have HL' : Hid (l ++ lineT (funcLn (s, n, t)) = showP (nm, ims, fs.take (k + 1))) := by exact (by rw [hst, HL.out] : l ++ lineT (funcLn (s, n, t)) = showP (nm, ims, fs.take (k + 1)))
          obtain ⟨A1, hA1⟩ : ∃ A, kwFunc ++ [32] ++ s = A := ⟨_, rfl⟩
          obtain ⟨A2, hA2⟩ : ∃ A, A1 ++ [32] = A := ⟨_, rfl⟩
          obtain ⟨A3, hA3⟩ : ∃ A, A2 ++ intL n = A := ⟨_, rfl⟩
          obtain ⟨A4, hA4⟩ : ∃ A, A3 ++ [32] = A := ⟨_, rfl⟩
          obtain ⟨A5, hA5⟩ : ∃ A, A4 ++ showL t = A := ⟨_, rfl⟩
          have hA6 : funcLn (s, n, t) = A5 := by rw [← hA5, ← hA4, ← hA3, ← hA2, ← hA1]; rfl
          have l5 : A5.length ≤ 1900 := by rw [← hA6]; exact hfl
          have l4 : A4.length + (showL t).length ≤ 1900 := by rw [← List.length_append, hA5]; exact l5
          have l3 : A3.length + 1 ≤ 1900 := by have := congrArg List.length hA4; simp at this; omega
          have l2 : A2.length + (intL n).length ≤ 1900 := by have := congrArg List.length hA3; rw [List.length_append] at this; omega
          have l1 : A1.length + 1 ≤ 1900 := by have := congrArg List.length hA2; simp at this; omega
          have l0 : s.length ≤ 8 := (name_letters hs).1.2
          have e1 : ∀ X : World, (Op.stringOp .add ⟨#[102, 117, 110, 99, 32]⟩ ⟨s.toArray⟩).run Tryz.prog X = .ok (.string ⟨A1.toArray⟩) X := fun X => by rw [← hA1]; exact run_string_add_lists (P := Tryz.prog) X [102, 117, 110, 99, 32] s (by simp) (by omega)
          have e2 : ∀ X : World, (Op.stringOp .add ⟨A1.toArray⟩ ⟨#[32]⟩).run Tryz.prog X = .ok (.string ⟨A2.toArray⟩) X := fun X => by rw [← hA2]; exact run_string_add_lists (P := Tryz.prog) X A1 [32] (by omega) (by simp)
          have e3 : ∀ X : World, (Op.stringOp .add ⟨A2.toArray⟩ ⟨(intL n).toArray⟩).run Tryz.prog X = .ok (.string ⟨A3.toArray⟩) X := fun X => by rw [← hA3]; exact run_string_add_lists (P := Tryz.prog) X A2 (intL n) (by omega) (by omega)
          have e4 : ∀ X : World, (Op.stringOp .add ⟨A3.toArray⟩ ⟨#[32]⟩).run Tryz.prog X = .ok (.string ⟨A4.toArray⟩) X := fun X => by rw [← hA4]; exact run_string_add_lists (P := Tryz.prog) X A3 [32] (by omega) (by simp)
          have e5 : ∀ X : World, (Op.stringOp .add ⟨A4.toArray⟩ ⟨(showL t).toArray⟩).run Tryz.prog X = .ok (.string ⟨A5.toArray⟩) X := fun X => by rw [← hA5]; exact run_string_add_lists (P := Tryz.prog) X A4 (showL t) (by omega) (by omega)
          have e6 : ∀ X : World, (Op.stringOp .add ⟨A5.toArray⟩ ⟨#[10]⟩).run Tryz.prog X = .ok (.string ⟨(lineT A5).toArray⟩) X := fun X => run_string_add_lists (P := Tryz.prog) X A5 [10] (by omega) (by simp)
          rw [hA6] at HL' hlx
          have hlx2 : l.length + (lineT A5).length ≤ 4194304 := by omega
          clear hst hle hs hn ht hA1 hA2 hA3 hA4 hA5 hA6 l0 l1 l2 l3 l4 l5 hfe HL hnc hlx hfl
          have hneF : g ≠ wr.heap.size := by have := HR.out.row.there; omega
          obtain ⟨V, hV⟩ : ∃ V, wr.alloc (.cells #[.string ⟨s.toArray⟩, .int .i64 n, .slice ta tl tc] 37) = V := ⟨_, rfl⟩
          have hbV : Below wr.heap.size wr V := by rw [← hV]; exact (Below.refl _ _).alloc (Nat.le_refl _) _
          have hVF : V.heap[wr.heap.size]? = some (.cells #[.string ⟨s.toArray⟩, .int .i64 n, .slice ta tl tc] 37) := by rw [← hV]; exact heap_alloc_new wr _
          have sv : ShSt V W (D + 1) wr.heap.size g cap l s n t ta tl tc := ⟨by simp [World.cell?, hVF], by simp [World.cell?, hVF], by simp [World.cell?, hVF], hneF, HR.out.below hbV, hin.below hbV, HBl.out.trans (hbV.mono hsz), Nat.le_trans hsz hbV.size⟩
          clear hVF hbV hneF HR HBl hin st
          go_wp2_with fail
          replace c0 := sv.c0
          replace c1 := sv.c1
          replace c2 := sv.c2
          clear hbl
          replace sv := sv.drew
          first | (go_region_held3 (fun w' => w'.cell? ⟨wr.heap.size, 0, none⟩ = some (.string ⟨s.toArray⟩) ∧ w'.cell? ⟨wr.heap.size, 1, none⟩ = some (.int .i64 n) ∧ w'.cell? ⟨wr.heap.size, 2, none⟩ = some (.slice ta tl tc)) (go_keep) (first | (go_at_call 76; refine (specInt n _ (by omega) (by omega)).mono ?_; rintro e wn ⟨rfl, hbn⟩; replace sv := sv.below hbn; clear hbn; replace c0 := sv.c0; replace c1 := sv.c1; replace c2 := sv.c2) | (go_at_call 75; refine (specShowL ta tl tc t _ sv.nodes HTN.out htl).mono ?_; rintro e wn ⟨rfl, hbn⟩; replace sv := sv.below hbn; clear hbn; replace c0 := sv.c0; replace c1 := sv.c1; replace c2 := sv.c2) | (obtain ⟨g', cap', wz, hrun, hrow', hbz, z0, z1, z2⟩ := sv.append (lineT A5) hlx2; refine step_append_str (by rfl) (.tmp 40) (.tmp 54) 22 9 (by rfl) _ _ _ (by rfl) (by rfl) hrun ?_; clear hrun))) | fail
          all_goals
            have HR' : Hid (RowW wz (D + 1) g' cap' (l ++ lineT A5)) := hrow'
            have HB' : Hid (Below (D + 1) W wz) := hbz
            clear hrow' hbz sv z0 z1 z2 c0 c1 c2 e1 e2 e3 e4 e5 e6
            go_wp2
            go_roundw
            case rel => exact ⟨k + 1, g', cap', l ++ lineT A5, by omega, by go_num, by first | rfl | simp, HL', HR', HB'⟩
            case measure => simp [intOf]; omega
        · obtain rfl : k = fs.length := by omega
          have HLE : Hid (l = showP (nm, ims, fs)) := by exact (by rw [HL.out, List.take_length] : l = showP (nm, ims, fs))
          have hback := HR.out.row.back
          have HBd : Hid (Below D w wr) := HB.out.trans (HBl.out.mono (by omega))
          clear HL st
          go_wp2
          go_ret
          exact ⟨by rw [← HLE.out]; rfl, by first | exact HBd.out | (rw [hD]; exact HBd.out)⟩

set_option maxHeartbeats 2000000 in
set_option maxRecDepth 100000 in
theorem specShowPackage (nm : List UInt8) (ia : Option Addr) (il ic : Nat) (fa : Option Addr) (fl fc : Nat) (ims : List (List UInt8)) (fs : List Fn) (w : World) (hi : TextsIn w ia il ims) (hf : FuncsIn w fa fl fs) (hil : il ≤ 1048576) (hfl : fl ≤ 1048576) (hnl : nm.length ≤ 1048576) (his : ∀ i, (ims.getD i []).length ≤ 1048576) (hfs : ShortF fs) :
    Calls Tryz.prog 14 #[.agg #[.string ⟨nm.toArray⟩, .slice ia il ic, .slice fa fl fc]] w fun e w' => e = .returned (.string ⟨(showPk (nm, ims, fs)).toArray⟩) ∧ Below w.heap.size w w' := by
  obtain ⟨W, hW⟩ : ∃ W, w.alloc (.cells #[.string ⟨nm.toArray⟩, .slice ia il ic, .slice fa fl fc] 27) = W := ⟨_, rfl⟩
  obtain ⟨st, hB⟩ := PkIn.new (w := w) (nm := nm) (ic := ic) (fc := fc) hi hf
  rw [hW] at st hB
  have hWs : W.heap.size = w.heap.size + 1 := by rw [← hW]; simp
  have HC := specPackageOk nm ia il ic fa fl fc ims fs W st.i st.f hil hfl hnl his hfs
  have k0 := st.k0
  have k1 := st.k1
  have k2 := st.k2
  rcases hp : pkgB (nm, ims, fs) with _ | _
  · have HP : Hid (pkgB (nm, ims, fs) = false) := hp
    have HS : Hid (showPk (nm, ims, fs) = []) := pack_not hp
    clear hp
    go_enter Tryz.func14, Tryz.ntmps14
    go_wp2_with fail
    refine HC.mono ?_
    rintro e w1 ⟨rfl, hb1⟩
    rw [HP.out]
    have hB1 : Below w.heap.size w w1 := hB.trans (hb1.mono hB.size)
    clear HC k0 k1 k2 hb1 st hB
    go_wp2
    go_ret
    exact ⟨by rw [HS.out]; rfl, hB1⟩
  · have HP : Hid (pkgB (nm, ims, fs) = true) := hp
    have HS : Hid (showPk (nm, ims, fs) = showP (nm, ims, fs)) := by exact (by unfold showPk; rw [if_pos hp] : showPk (nm, ims, fs) = showP (nm, ims, fs))
    clear hp
    go_enter Tryz.func14, Tryz.ntmps14
    go_wp2_with fail
    refine HC.mono ?_
    rintro e w1 ⟨rfl, hb1⟩
    rw [HP.out]
    have hB1 : Below w.heap.size w w1 := hB.trans (hb1.mono hB.size)
    have st1 := st.below hb1
    replace k0 := st1.k0
    replace k1 := st1.k1
    replace k2 := st1.k2
    have HC2 := specShowP nm ia il ic fa fl fc ims fs w1 st1.i st1.f HP.out
    clear HC hb1 st hB
    go_wp2_with fail
    refine HC2.mono ?_
    rintro e w2 ⟨rfl, hb2⟩
    have hB2 : Below w.heap.size w w2 := hB1.trans (hb2.mono hB1.size)
    clear HC2 k0 k1 k2 hb2 st1 hB1
    go_wp2
    go_ret
    exact ⟨by rw [HS.out]; rfl, hB2⟩

end Go.Proofs.YtnhkpncbloojhaaGreatDoor

/-! The contract of chapter 6's specification: the node of a word. -/
namespace Go.Proofs.YtnhkpncbloojhaaGreatDoor
open Go.RowKit

theorem part_le (ws : List (List UInt8)) (j : Nat) : (ws.getD j []).length ≤ ws.flatten.length := by
  induction ws generalizing j with
  | nil => simp
  | cons x r ih =>
    cases j with
    | zero => simp
    | succ j => have := ih j; simp only [List.getD_cons_succ, List.flatten_cons, List.length_append]; omega

/-- Four cells of one block are written. -/
theorem four_set (w : World) (b : Nat) (n : Nd) {u0 u1 u2 u3 : Value} (r0 : w.cell? ⟨b, 0, none⟩ = some u0) (r1 : w.cell? ⟨b, 1, none⟩ = some u1) (r2 : w.cell? ⟨b, 2, none⟩ = some u2) (r3 : w.cell? ⟨b, 3, none⟩ = some u3) :
    let X := ((((w.setCell ⟨b, 0, none⟩ (.int .i64 n.1)).setCell ⟨b, 1, none⟩ (.int .i64 n.2.1)).setCell ⟨b, 2, none⟩ (.string ⟨n.2.2.1.toArray⟩)).setCell ⟨b, 3, none⟩ (.string ⟨n.2.2.2.toArray⟩))
    X.cell? ⟨b, 0, none⟩ = some (.int .i64 n.1) ∧ X.cell? ⟨b, 1, none⟩ = some (.int .i64 n.2.1) ∧ X.cell? ⟨b, 2, none⟩ = some (.string ⟨n.2.2.1.toArray⟩) ∧ X.cell? ⟨b, 3, none⟩ = some (.string ⟨n.2.2.2.toArray⟩) := by
  intro X
  have o : ∀ (W : World) (i j : Nat) (v : Value), i ≠ j → (W.setCell ⟨b, i, none⟩ v).cell? ⟨b, j, none⟩ = W.cell? ⟨b, j, none⟩ := fun W i j v h => World.cell?_setCell_other _ _ _ _ (by intro e; injection e with _ e; omega)
  refine ⟨?_, ?_, ?_, ?_⟩
  · exact (o _ 3 0 _ (by omega)).trans ((o _ 2 0 _ (by omega)).trans ((o _ 1 0 _ (by omega)).trans (World.cell?_setCell_same _ _ _ r0)))
  · exact (o _ 3 1 _ (by omega)).trans ((o _ 2 1 _ (by omega)).trans (World.cell?_setCell_same _ _ _ ((o _ 0 1 _ (by omega)).trans r1)))
  · exact (o _ 3 2 _ (by omega)).trans (World.cell?_setCell_same _ _ _ ((o _ 1 2 _ (by omega)).trans ((o _ 0 2 _ (by omega)).trans r2)))
  · exact World.cell?_setCell_same _ _ _ ((o _ 2 3 _ (by omega)).trans ((o _ 1 3 _ (by omega)).trans ((o _ 0 3 _ (by omega)).trans r3)))

theorem four_below {w W : World} (h : Below w.heap.size w W) (u0 u1 u2 u3 : Value) : Below w.heap.size w ((((W.setCell ⟨w.heap.size, 0, none⟩ u0).setCell ⟨w.heap.size, 1, none⟩ u1).setCell ⟨w.heap.size, 2, none⟩ u2).setCell ⟨w.heap.size, 3, none⟩ u3) :=
  (((h.setCell (p := ⟨w.heap.size, 0, none⟩) (Nat.le_refl _) _).setCell (p := ⟨w.heap.size, 1, none⟩) (Nat.le_refl _) _).setCell (p := ⟨w.heap.size, 2, none⟩) (Nat.le_refl _) _).setCell (p := ⟨w.heap.size, 3, none⟩) (Nat.le_refl _) _

theorem read_head (s : List UInt8) (c : UInt8) (h : s.head? = some c) : s ≠ [] := fun e => by rw [e] at h; cases h

set_option maxHeartbeats 4000000 in
set_option maxRecDepth 100000 in
theorem specReadN (s : List UInt8) (w : World) (hl : s.length ≤ 1048576) :
    Calls Tryz.prog 73 #[.string ⟨s.toArray⟩] w fun e w' => e = .returned (nodeVal (readN s)) ∧ Below w.heap.size w w' := by
  have hext := ext_list
  by_cases hse : s = []
  · subst hse
    have HR : Hid (readN [] = (0, 0, [], [])) := by exact (if_pos rfl : readN [] = (0, 0, [], []))
    go_enter Tryz.func73, Tryz.ntmps73
    go_wp2
    refine bodyPost_ret (v := .agg #[.int .i64 0, .int .i64 0, .string ⟨#[]⟩, .string ⟨#[]⟩]) (by simp [results, Tryz.results73, go_sem]) rfl ?_
    exact ⟨by rw [HR.out]; rfl, (Below.refl _ w).alloc (Nat.le_refl _) _⟩
  · have htl : 0 < s.length := List.length_pos_iff.2 hse
    have htb : s.isEmpty = false := by simp [hse]
    obtain ⟨x0, r, rfl⟩ : ∃ x0 r, s = x0 :: r := by
      cases s with
      | nil => exact absurd rfl hse
      | cons x0 r => exact ⟨x0, r, rfl⟩
    have hx0b : (⟨(x0 :: r).toArray⟩ : ByteArray)[0]'(by show 0 < (x0 :: r).toArray.size; simp) = x0 := rfl
    have hrl : (r.length : Int) ≤ 1048576 := by simp at hl; omega
    clear hse
    by_cases h36 : x0 = 36
    · subst h36
      have HR : Hid (readN (36 :: r) = (2, readV r, [], [])) := by exact (by unfold readN; rw [if_neg (by simp), if_pos (by rfl)]; rfl : readN (36 :: r) = (2, readV r, [], []))
      go_enter Tryz.func73, Tryz.ntmps73
      go_wp2_with fail
      refine (specRead r _ (by omega)).mono ?_
      rintro e w1 ⟨rfl, rfl⟩
      go_wp2
      refine bodyPost_ret (v := .agg #[.int .i64 2, .int .i64 (readV r), .string ⟨#[]⟩, .string ⟨#[]⟩]) (by simp [results, Tryz.results73, go_sem]) rfl ?_
      exact ⟨by rw [HR.out]; rfl, (Below.refl _ w).alloc (Nat.le_refl _) _⟩
    have d36 : ((x0.toNat : Int) == 36) = false := beq_eq_false_iff_ne.2 (fun e => h36 (UInt8.toNat_inj.1 (by have e2 : (36 : UInt8).toNat = 36 := rfl; omega)))
    by_cases h43 : x0 = 43
    · subst h43
      have HR : Hid (readN (43 :: r) = (3, 0, [], [])) := by exact (by unfold readN; rw [if_neg (by simp), if_neg (by simp), if_pos (by rfl)] : readN (43 :: r) = (3, 0, [], []))
      go_enter Tryz.func73, Tryz.ntmps73
      go_wp2
      refine bodyPost_ret (v := .agg #[.int .i64 3, .int .i64 0, .string ⟨#[]⟩, .string ⟨#[]⟩]) (by simp [results, Tryz.results73, go_sem]) rfl ?_
      exact ⟨by rw [HR.out]; rfl, (Below.refl _ w).alloc (Nat.le_refl _) _⟩
    have d43 : ((x0.toNat : Int) == 43) = false := beq_eq_false_iff_ne.2 (fun e => h43 (UInt8.toNat_inj.1 (by have e2 : (43 : UInt8).toNat = 43 := rfl; omega)))
    by_cases h42 : x0 = 42
    · subst h42
      have HR : Hid (readN (42 :: r) = (5, 0, [], [])) := by exact (by unfold readN; rw [if_neg (by simp), if_neg (by simp), if_neg (by simp), if_pos (by rfl)] : readN (42 :: r) = (5, 0, [], []))
      go_enter Tryz.func73, Tryz.ntmps73
      go_wp2
      refine bodyPost_ret (v := .agg #[.int .i64 5, .int .i64 0, .string ⟨#[]⟩, .string ⟨#[]⟩]) (by simp [results, Tryz.results73, go_sem]) rfl ?_
      exact ⟨by rw [HR.out]; rfl, (Below.refl _ w).alloc (Nat.le_refl _) _⟩
    have d42 : ((x0.toNat : Int) == 42) = false := beq_eq_false_iff_ne.2 (fun e => h42 (UInt8.toNat_inj.1 (by have e2 : (42 : UInt8).toNat = 42 := rfl; omega)))
    by_cases h47 : x0 = 47
    · subst h47
      have HR : Hid (readN (47 :: r) = (6, 0, [], [])) := by exact (by unfold readN; rw [if_neg (by simp), if_neg (by simp), if_neg (by simp), if_neg (by simp), if_pos (by rfl)] : readN (47 :: r) = (6, 0, [], []))
      go_enter Tryz.func73, Tryz.ntmps73
      go_wp2
      refine bodyPost_ret (v := .agg #[.int .i64 6, .int .i64 0, .string ⟨#[]⟩, .string ⟨#[]⟩]) (by simp [results, Tryz.results73, go_sem]) rfl ?_
      exact ⟨by rw [HR.out]; rfl, (Below.refl _ w).alloc (Nat.le_refl _) _⟩
    have d47 : ((x0.toNat : Int) == 47) = false := beq_eq_false_iff_ne.2 (fun e => h47 (UInt8.toNat_inj.1 (by have e2 : (47 : UInt8).toNat = 47 := rfl; omega)))
    by_cases h63 : x0 = 63
    · subst h63
      have HR : Hid (readN (63 :: r) = (7, 0, [], [])) := by exact (by unfold readN; rw [if_neg (by simp), if_neg (by simp), if_neg (by simp), if_neg (by simp), if_neg (by simp), if_pos (by rfl)] : readN (63 :: r) = (7, 0, [], []))
      go_enter Tryz.func73, Tryz.ntmps73
      go_wp2
      refine bodyPost_ret (v := .agg #[.int .i64 7, .int .i64 0, .string ⟨#[]⟩, .string ⟨#[]⟩]) (by simp [results, Tryz.results73, go_sem]) rfl ?_
      exact ⟨by rw [HR.out]; rfl, (Below.refl _ w).alloc (Nat.le_refl _) _⟩
    have d63 : ((x0.toNat : Int) == 63) = false := beq_eq_false_iff_ne.2 (fun e => h63 (UInt8.toNat_inj.1 (by have e2 : (63 : UInt8).toNat = 63 := rfl; omega)))
    by_cases h64 : x0 = 64
    · subst h64
      have HRd : Hid (readN (64 :: r) = if (splitL 47 r).length = 2 ∧ (splitL 46 ((splitL 47 r).getD 0 [])).length = 2 then (8, readV ((splitL 47 r).getD 1 []), (splitL 46 ((splitL 47 r).getD 0 [])).getD 0 [], (splitL 46 ((splitL 47 r).getD 0 [])).getD 1 []) else (0, 0, [], [])) := by exact (by unfold readN; rw [if_neg (by simp), if_neg (by simp), if_neg (by simp), if_neg (by simp), if_neg (by simp), if_neg (by simp), if_pos (by rfl), List.tail_cons] : readN (64 :: r) = _)
      obtain ⟨ws, hws⟩ : ∃ ws, splitL 47 r = ws := ⟨_, rfl⟩
      obtain ⟨q0, hq0⟩ : ∃ q0, ws.getD 0 [] = q0 := ⟨_, rfl⟩
      obtain ⟨q1, hq1⟩ : ∃ q1, ws.getD 1 [] = q1 := ⟨_, rfl⟩
      obtain ⟨ps, hps⟩ : ∃ ps, splitL 46 q0 = ps := ⟨_, rfl⟩
      have hwp : 0 < ws.length := by rw [← hws]; exact List.length_pos_iff.2 (splitGo_ne 47 r [])
      have hpp : 0 < ps.length := by rw [← hps]; exact List.length_pos_iff.2 (splitGo_ne 46 _ [])
      have hwl : ws.length ≤ r.length + 1 := by rw [← hws]; exact splitGo_len 47 r []
      have hwf : ∀ j, (ws.getD j []).length ≤ 1048576 := fun j => by
        have h1 := splitGo_flat 47 r []
        have h2 : (splitL 47 r).flatten.length ≤ r.length := by simpa [splitL] using h1
        rw [hws] at h2
        have h3 := part_le ws j
        omega
      have hpl : ps.length ≤ 1048577 := by rw [← hps]; have h1 := splitGo_len 46 q0 []; have h2 := hwf 0; rw [hq0] at h2; unfold splitL; omega
      have HW : Hid (splitL 47 r = ws) := hws
      have HP : Hid (splitL 46 q0 = ps) := hps
      have HQ : Hid (ws.getD 0 [] = q0 ∧ ws.getD 1 [] = q1) := ⟨hq0, hq1⟩
      have hq0l : q0.length ≤ 1048576 := by rw [← hq0]; exact hwf 0
      have hq1l : q1.length ≤ 1048576 := by rw [← hq1]; exact hwf 1
      clear hws hps hq0 hq1 hwf
      go_enter Tryz.func73, Tryz.ntmps73
      go_wp2_with fail
      refine (specSplit r 47 47 _ (by rfl) (by omega)).mono ?_
      rintro e w1 ⟨g1, cp1, rfl, hown1, hb1⟩
      rw [HW.out] at hown1 ⊢
      have hc10 := str_cellsD hown1 rfl 0 hwp
      rw [HQ.out.1] at hc10
      have hwp2 : (0 : Int) < (ws.length : Int) := by omega
      have hB1 := below_boxed hb1
      have r0 : w1.cell? ⟨w.heap.size, 0, none⟩ = some (.int .i64 0) := (hb1.cell (p := ⟨w.heap.size, 0, none⟩) (by simp)).trans (by simp)
      have r1 : w1.cell? ⟨w.heap.size, 1, none⟩ = some (.int .i64 0) := (hb1.cell (p := ⟨w.heap.size, 1, none⟩) (by simp)).trans (by simp)
      have r2 : w1.cell? ⟨w.heap.size, 2, none⟩ = some (.string ⟨#[]⟩) := (hb1.cell (p := ⟨w.heap.size, 2, none⟩) (by simp)).trans (by simp)
      have r3 : w1.cell? ⟨w.heap.size, 3, none⟩ = some (.string ⟨#[]⟩) := (hb1.cell (p := ⟨w.heap.size, 3, none⟩) (by simp)).trans (by simp)
      have rf : ∀ j, w1.frozen? ⟨w.heap.size, j, none⟩ = false := fun j => (hb1.frozen (p := ⟨w.heap.size, j, none⟩) (by simp)).trans (by simp)
      have hs1 : w.heap.size < w1.heap.size := by have := hb1.size; simp at this; omega
      rw [World.size_alloc] at hown1
      clear hb1
      go_wp2_with fail
      refine (specSplit q0 46 46 _ (by rfl) hq0l).mono ?_
      rintro e w2 ⟨g2, cp2, rfl, hown2, hb2⟩
      rw [HP.out] at hown2 ⊢
      have hB2 := hB1.trans (hb2.mono hB1.size)
      have r0 := (hb2.cell (p := ⟨w.heap.size, 0, none⟩) hs1).trans r0
      have r1 := (hb2.cell (p := ⟨w.heap.size, 1, none⟩) hs1).trans r1
      have r2 := (hb2.cell (p := ⟨w.heap.size, 2, none⟩) hs1).trans r2
      have r3 := (hb2.cell (p := ⟨w.heap.size, 3, none⟩) hs1).trans r3
      have rf := fun j => (hb2.frozen (p := ⟨w.heap.size, j, none⟩) hs1).trans (rf j)
      have rf0 := rf 0
      have rf1 := rf 1
      have rf2 := rf 2
      have rf3 := rf 3
      have hown1b := own_below hown1 hb2
      have hg2 : w1.heap.size ≤ g2 := (hown2.lt g2 rfl).1
      have hgne : g2 ≠ w.heap.size := by omega
      clear hb2 hB1 hown1 hc10 rf
      by_cases hw2 : ws.length = 2
      · have dw : ((ws.length : Int) != 2) = false := by rw [hw2]; rfl
        by_cases hp2 : ps.length = 2
        · have dp : ((ps.length : Int) != 2) = false := by rw [hp2]; rfl
          have HR : Hid (readN (64 :: r) = (8, readV q1, ps.getD 0 [], ps.getD 1 [])) := by exact (by rw [HRd.out, HW.out, HQ.out.1, HQ.out.2, HP.out, if_pos ⟨hw2, hp2⟩] : readN (64 :: r) = (8, readV q1, ps.getD 0 [], ps.getD 1 []))
          have hc11 := str_cellsD hown1b rfl 1 (by omega)
          rw [HQ.out.2] at hc11
          have hc20 := str_cellsD hown2 rfl 0 (by omega)
          have hc21 := str_cellsD hown2 rfl 1 (by omega)
          have hwl2 : (1 : Int) < (ws.length : Int) := by omega
          have hpl2 : (1 : Int) < (ps.length : Int) := by omega
          have hpl0 : (0 : Int) < (ps.length : Int) := by omega
          clear hw2 hp2 hown1b hown2
          go_wp2_with fail
          refine (specRead q1 _ hq1l).mono ?_
          rintro e w3 ⟨rfl, rfl⟩
          obtain ⟨A, hA⟩ : ∃ A, readV q1 = A := ⟨_, rfl⟩
          obtain ⟨P0, hP0⟩ : ∃ P0, ps.getD 0 [] = P0 := ⟨_, rfl⟩
          obtain ⟨P1, hP1⟩ : ∃ P1, ps.getD 1 [] = P1 := ⟨_, rfl⟩
          have HA : Hid (readV q1 = A ∧ ps.getD 0 [] = P0 ∧ ps.getD 1 [] = P1) := ⟨hA, hP0, hP1⟩
          rw [hA]
          rw [hP0] at hc20
          rw [hP1] at hc21
          clear hA hP0 hP1 hc11
          have hgne2 : w.heap.size ≠ g2 := fun e => hgne e.symm
          go_wp2
          go_region_held3 (fun w' => w'.cell? ⟨g2, 0, none⟩ = some (.string ⟨P0.toArray⟩) ∧ w'.cell? ⟨g2, 1, none⟩ = some (.string ⟨P1.toArray⟩)) (go_keep) (fail)
          go_wp2
          obtain ⟨X, hX⟩ : ∃ X, ((((w3.setCell ⟨w.heap.size, 0, none⟩ (.int .i64 8)).setCell ⟨w.heap.size, 1, none⟩ (.int .i64 A)).setCell ⟨w.heap.size, 2, none⟩ (.string ⟨P0.toArray⟩)).setCell ⟨w.heap.size, 3, none⟩ (.string ⟨P1.toArray⟩)) = X := ⟨_, rfl⟩
          have hx := four_set w3 w.heap.size (8, A, P0, P1) r0 r1 r2 r3
          simp only at hx
          rw [hX] at hx ⊢
          refine bodyPost_ret (v := .agg #[.int .i64 8, .int .i64 A, .string ⟨P0.toArray⟩, .string ⟨P1.toArray⟩]) (by simp [results, Tryz.results73, go_sem, hx]) rfl ?_
          rw [← hX]
          exact ⟨by rw [HR.out, HA.out.1, HA.out.2.1, HA.out.2.2]; rfl, (four_below hB2 _ _ _ _).drew⟩
        · have dp : ((ps.length : Int) != 2) = true := bne_iff_ne.2 (by omega)
          have HR : Hid (readN (64 :: r) = (0, 0, [], [])) := by exact (by rw [HRd.out, HW.out, HQ.out.1, HP.out, if_neg (by omega)] : readN (64 :: r) = (0, 0, [], []))
          go_wp2
          obtain ⟨X, hX⟩ : ∃ X, ((((w2.setCell ⟨w.heap.size, 0, none⟩ (.int .i64 0)).setCell ⟨w.heap.size, 1, none⟩ (.int .i64 0)).setCell ⟨w.heap.size, 2, none⟩ (.string ⟨#[]⟩)).setCell ⟨w.heap.size, 3, none⟩ (.string ⟨#[]⟩)) = X := ⟨_, rfl⟩
          have hx := four_set w2 w.heap.size (0, 0, [], []) r0 r1 r2 r3
          simp only at hx
          rw [hX] at hx ⊢
          refine bodyPost_ret (v := .agg #[.int .i64 0, .int .i64 0, .string ⟨#[]⟩, .string ⟨#[]⟩]) (by simp [results, Tryz.results73, go_sem, hx]) rfl ?_
          rw [← hX]
          exact ⟨by rw [HR.out]; rfl, four_below hB2 _ _ _ _⟩
      · have dw : ((ws.length : Int) != 2) = true := bne_iff_ne.2 (by omega)
        have HR : Hid (readN (64 :: r) = (0, 0, [], [])) := by exact (by rw [HRd.out, HW.out, HQ.out.1, HP.out, if_neg (by omega)] : readN (64 :: r) = (0, 0, [], []))
        go_wp2
        obtain ⟨X, hX⟩ : ∃ X, ((((w2.setCell ⟨w.heap.size, 0, none⟩ (.int .i64 0)).setCell ⟨w.heap.size, 1, none⟩ (.int .i64 0)).setCell ⟨w.heap.size, 2, none⟩ (.string ⟨#[]⟩)).setCell ⟨w.heap.size, 3, none⟩ (.string ⟨#[]⟩)) = X := ⟨_, rfl⟩
        have hx := four_set w2 w.heap.size (0, 0, [], []) r0 r1 r2 r3
        simp only at hx
        rw [hX] at hx ⊢
        refine bodyPost_ret (v := .agg #[.int .i64 0, .int .i64 0, .string ⟨#[]⟩, .string ⟨#[]⟩]) (by simp [results, Tryz.results73, go_sem, hx]) rfl ?_
        rw [← hX]
        exact ⟨by rw [HR.out]; rfl, four_below hB2 _ _ _ _⟩
    have d64 : ((x0.toNat : Int) == 64) = false := beq_eq_false_iff_ne.2 (fun e => h64 (UInt8.toNat_inj.1 (by have e2 : (64 : UInt8).toNat = 64 := rfl; omega)))
    have hne : ∀ c : UInt8, x0 ≠ c → ¬ (x0 :: r).head? = some c := fun c h e => h (by simpa using e)
    by_cases h45 : x0 :: r = [45]
    · have HR : Hid (readN (x0 :: r) = (4, 0, [], [])) := by exact (by unfold readN; rw [if_neg (by simp), if_neg (hne 36 h36), if_neg (hne 43 h43), if_neg (hne 42 h42), if_neg (hne 47 h47), if_neg (hne 63 h63), if_neg (hne 64 h64), if_pos h45] : readN (x0 :: r) = (4, 0, [], []))
      have dd : ((x0 :: r) == [45]) = true := by rw [h45]; rfl
      clear hne h45
      go_enter Tryz.func73, Tryz.ntmps73
      go_wp2
      refine bodyPost_ret (v := .agg #[.int .i64 4, .int .i64 0, .string ⟨#[]⟩, .string ⟨#[]⟩]) (by simp [results, Tryz.results73, go_sem]) rfl ?_
      exact ⟨by rw [HR.out]; rfl, (Below.refl _ w).alloc (Nat.le_refl _) _⟩
    · have HR : Hid (readN (x0 :: r) = (1, readV (x0 :: r), [], [])) := by exact (by unfold readN; rw [if_neg (by simp), if_neg (hne 36 h36), if_neg (hne 43 h43), if_neg (hne 42 h42), if_neg (hne 47 h47), if_neg (hne 63 h63), if_neg (hne 64 h64), if_neg h45] : readN (x0 :: r) = (1, readV (x0 :: r), [], []))
      have dd : ((x0 :: r) == [45]) = false := beq_eq_false_iff_ne.2 h45
      clear hne h45
      go_enter Tryz.func73, Tryz.ntmps73
      go_wp2_with fail
      refine (specRead (x0 :: r) _ hl).mono ?_
      rintro e w1 ⟨rfl, rfl⟩
      go_wp2
      refine bodyPost_ret (v := .agg #[.int .i64 1, .int .i64 (readV (x0 :: r)), .string ⟨#[]⟩, .string ⟨#[]⟩]) (by simp [results, Tryz.results73, go_sem]) rfl ?_
      exact ⟨by rw [HR.out]; rfl, (Below.refl _ w).alloc (Nat.le_refl _) _⟩

end Go.Proofs.YtnhkpncbloojhaaGreatDoor
