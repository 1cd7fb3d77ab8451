/-
  Parts of one proof, one behind the other: PackS4, TreeS4, TreeS5, PackC.
-/
import Derived.Test.YtiekcenknniniaaDoorP6
import Derived.Test.YtiekcenknniniaaDoorP5
import Derived.Test.YtiekcenknniniaaDoorP4
import Derived.Deep.RegionWith

/-! The contracts of chapter 7's specification: l7Show, ShowPackage. -/
namespace Go.Proofs.YtiekcenknniniaaDoor
open Go.RowKit

/-- A line with its end. -/

theorem showP_head (nm : List UInt8) : showP (nm, [], []) = lineT (packLn nm) := by simp [showP, pkLines, termJ, lineT]

theorem showP_imp (nm : List UInt8) (ims : List (List UInt8)) (k : Nat) (hk : k < ims.length) : showP (nm, ims.take (k + 1), []) = showP (nm, ims.take k, []) ++ lineT (impLn (ims.getD k [])) := by
  unfold lineT
  have e : ims.getD k [] = ims[k] := by rw [List.getD_eq_getElem?_getD, List.getElem?_eq_getElem hk]; rfl
  rw [e, List.take_succ_eq_append_getElem hk]
  simp only [showP, pkLines, termJ, List.map_append, List.map_cons, List.map_nil, List.flatten_append, List.flatten_cons, List.flatten_nil, List.append_nil, List.append_assoc]

theorem showP_fn (nm : List UInt8) (ims : List (List UInt8)) (fs : List Fn) (k : Nat) (hk : k < fs.length) : showP (nm, ims, fs.take (k + 1)) = showP (nm, ims, fs.take k) ++ lineT (funcLn (fs.getD k fn0)) := by
  unfold lineT
  have e : fs.getD k fn0 = fs[k] := by rw [List.getD_eq_getElem?_getD, List.getElem?_eq_getElem hk]; rfl
  rw [e, List.take_succ_eq_append_getElem hk]
  simp only [showP, pkLines, termJ, List.map_append, List.map_cons, List.map_nil, List.flatten_append, List.flatten_cons, List.flatten_nil, List.append_nil, List.append_assoc]

theorem showP_le1 (nm : List UInt8) (ims : List (List UInt8)) (fs : List Fn) (k : Nat) : (showP (nm, ims.take k, [])).length ≤ (showP (nm, ims, fs)).length := by
  have : showP (nm, ims, fs) = showP (nm, ims.take k, []) ++ termJ ((ims.drop k).map impLn ++ fs.map funcLn) := by
    unfold showP pkLines
    rw [← termJ_append]
    congr 1
    simp only [List.map_nil, List.append_nil, List.cons_append]
    rw [← List.append_assoc, ← List.map_append, List.take_append_drop]
  rw [this, List.length_append]; omega

theorem showP_le2 (nm : List UInt8) (ims : List (List UInt8)) (fs : List Fn) (k : Nat) : (showP (nm, ims, fs.take k)).length ≤ (showP (nm, ims, fs)).length := by
  have : showP (nm, ims, fs) = showP (nm, ims, fs.take k) ++ termJ ((fs.drop k).map funcLn) := by
    unfold showP pkLines
    rw [← termJ_append]
    congr 1
    simp only [List.cons_append, List.append_assoc]
    rw [← List.map_append, List.take_append_drop]
  rw [this, List.length_append]; omega

/-- What a round of l7Show's second loop holds: the function's own block, the row that is written, the function's tree. -/
structure ShSt (X W : World) (B F g cap : Nat) (l s : List UInt8) (n : Int) (t : List Nd) (ta : Option Addr) (tl tc : Nat) : Prop where
  c0 : X.cell? ⟨F, 0, none⟩ = some (.string ⟨s.toArray⟩)
  c1 : X.cell? ⟨F, 1, none⟩ = some (.int .i64 n)
  c2 : X.cell? ⟨F, 2, none⟩ = some (.slice ta tl tc)
  ne : g ≠ F
  row : RowW X B g cap l
  nodes : NodesIn X ta tl t
  b : Below B W X
  bs : B ≤ X.heap.size

theorem ShSt.below {X Y W : World} {B F g cap : Nat} {l s : List UInt8} {n : Int} {t : List Nd} {ta : Option Addr} {tl tc : Nat} (h : ShSt X W B F g cap l s n t ta tl tc) (hb : Below X.heap.size X Y) : ShSt Y W B F g cap l s n t ta tl tc :=
  have hl : F < X.heap.size := World.block_lt_of_cell? X ⟨F, 0, none⟩ h.c0
  ⟨(hb.cell (p := ⟨F, 0, none⟩) hl).trans h.c0, (hb.cell (p := ⟨F, 1, none⟩) hl).trans h.c1, (hb.cell (p := ⟨F, 2, none⟩) hl).trans h.c2, h.ne, h.row.below hb, h.nodes.below hb, h.b.trans (hb.mono h.bs), Nat.le_trans h.bs hb.size⟩

theorem ShSt.drew {X W : World} {B F g cap : Nat} {l s : List UInt8} {n : Int} {t : List Nd} {ta : Option Addr} {tl tc : Nat} (h : ShSt X W B F g cap l s n t ta tl tc) : ShSt X.drew W B F g cap l s n t ta tl tc :=
  h.below ⟨rfl, rfl, rfl, Nat.le_refl _, fun _ _ => rfl⟩

/-- The end of such a round: the row has the line. -/
theorem ShSt.append {X W : World} {B F g cap : Nat} {l s : List UInt8} {n : Int} {t : List Nd} {ta : Option Addr} {tl tc : Nat} (h : ShSt X W B F g cap l s n t ta tl tc) (x : List UInt8) (hx : l.length + x.length ≤ 4194304) :
    ∃ g' cap' w', (Builtin.append_ #[58, 9] 58 #[.slice (some ⟨g, 0, none⟩) l.length cap, .string ⟨x.toArray⟩]).run Tryd.prog X = .ok (.slice (some ⟨g', 0, none⟩) (l ++ x).length cap') w' ∧ RowW w' B g' cap' (l ++ x) ∧ Below B W w' ∧
      w'.cell? ⟨F, 0, none⟩ = some (.string ⟨s.toArray⟩) ∧ w'.cell? ⟨F, 1, none⟩ = some (.int .i64 n) ∧ w'.cell? ⟨F, 2, none⟩ = some (.slice ta tl tc) := by
  obtain ⟨g', cap', w', hrun, hrow, hg⟩ := h.row.append x hx h.bs 58
  have hl : F < X.heap.size := World.block_lt_of_cell? X ⟨F, 0, none⟩ h.c0
  have hbk := hg.block F hl (by intro e; injection e with e; exact h.ne e.symm)
  exact ⟨g', cap', w', hrun, hrow, h.b.grown hg h.bs (fun q e => by injection e with e; rw [← e]; exact h.row.row.new), (World.cell?_of_block (a := ⟨F, 0, none⟩) hbk).trans h.c0, (World.cell?_of_block (a := ⟨F, 1, none⟩) hbk).trans h.c1, (World.cell?_of_block (a := ⟨F, 2, none⟩) hbk).trans h.c2⟩

set_option maxHeartbeats 4000000 in
set_option maxRecDepth 100000 in
theorem specShowP (nm : List UInt8) (ia : Option Addr) (il ic : Nat) (fa : Option Addr) (fl fc : Nat) (ims : List (List UInt8)) (fs : List Fn) (w : World) (hi : TextsIn w ia il ims) (hf : FuncsIn w fa fl fs) (hp : pkgB (nm, ims, fs) = true) :
    Calls Tryd.prog 12 #[.agg #[.string ⟨nm.toArray⟩, .slice ia il ic, .slice fa fl fc]] w fun e w' => e = .returned (.string ⟨(showP (nm, ims, fs)).toArray⟩) ∧ Below w.heap.size w w' := by
  obtain rfl : fs.length = fl := hf.1
  obtain rfl : ims.length = il := hi.1
  have hlen := showP_len hp
  obtain ⟨hp1, hp2, hp3, ⟨hp4, hp5⟩, hp6⟩ := pkgB_parts hp
  simp only at hp1 hp2 hp3 hp4 hp5 hp6
  obtain ⟨W, hW⟩ : ∃ W, w.alloc (.cells #[.string ⟨nm.toArray⟩, .slice ia ims.length ic, .slice fa fs.length fc] 30) = W := ⟨_, rfl⟩
  obtain ⟨st, hB⟩ := PkIn.new (w := w) (nm := nm) (ic := ic) (fc := fc) hi hf
  rw [hW] at st hB
  have hWs : W.heap.size = w.heap.size + 1 := by rw [← hW]; simp
  obtain ⟨D, hD⟩ : ∃ D, w.heap.size = D := ⟨_, rfl⟩
  rw [hD] at st hB
  clear hi hf
  have k0 := st.k0
  have k1 := st.k1
  have h1 := showP_le1 nm ims fs 0
  rw [List.take_zero, showP_head] at h1
  have hnl := (name_letters hp1).1.2
  obtain ⟨cp, w1, hconv, hrow1, hb1⟩ := RowW.made W (lineT (packLn nm)) (by omega)
  have e1 : ∀ X : World, (Op.stringOp .add ⟨#[112, 97, 99, 107, 97, 103, 101, 32]⟩ ⟨nm.toArray⟩).run Tryd.prog X = .ok (.string ⟨(packLn nm).toArray⟩) X := fun X => run_string_add_lists (P := Tryd.prog) X [112, 97, 99, 107, 97, 103, 101, 32] nm (by simp) (by omega)
  have e2 : ∀ X : World, (Op.stringOp .add ⟨(packLn nm).toArray⟩ ⟨#[10]⟩).run Tryd.prog X = .ok (.string ⟨(lineT (packLn nm)).toArray⟩) X := fun X => run_string_add_lists (P := Tryd.prog) X (packLn nm) [10] (by unfold lineT at h1; rw [List.length_append, List.length_singleton] at h1; omega) (by simp)
  rw [hD] at hWs
  rw [hWs] at hconv hrow1 hb1
  have HST : Hid (PkIn W D nm ia ims.length ic fa fs.length fc ims fs) := st
  have HB : Hid (Below D w W) := hB
  have HP2 : Hid (∀ x ∈ ims, nameB x = true) := hp2
  have HP6 : Hid (∀ f ∈ fs, funcB f = true) := hp6
  have HLen : Hid ((showP (nm, ims, fs)).length ≤ 20000) := hlen
  have HWs : Hid (W.heap.size = D + 1) := hWs
  clear hp hp1 hp2 hp6 hlen h1 hB st k1
  go_enter Tryd.func12, Tryd.ntmps12
  go_wp2
  clear hconv e1 e2 k0
  go_loopw [3, 4] (fun v i wr => ∃ (k g cap : Nat) (l : List UInt8), k ≤ ims.length ∧ i = .int .i64 k ∧ v = .slice (some ⟨g, 0, none⟩) l.length cap ∧ Hid (l = showP (nm, ims.take k, [])) ∧ Hid (RowW wr (D + 1) g cap l) ∧ Hid (Below (D + 1) W wr)) (fun _ i _ => ims.length - (intOf i).toNat)
  case atStart => exact ⟨0, D + 1, cp, lineT (packLn nm), Nat.zero_le _, rfl, rfl, (by rw [List.take_zero, showP_head] : _ = _), hrow1, hb1⟩
  case round =>
    obtain ⟨k, g, cap, l, hk, rfl, rfl, HL, HR, HBl⟩ := hrel
    clear hrow1 hb1
    have hsz : D + 1 ≤ wr.heap.size := by have := HBl.out.size; rw [HWs.out] at this; exact this
    have st := HST.out.below (by rw [HWs.out]; exact HBl.out)
    have k1 := st.k1
    have k2 := st.k2
    by_cases hkl : (k : Int) < (ims.length : Int)
    · have hk2 : k < ims.length := by omega
      obtain ⟨b, off, rfl, hbl, c0⟩ := st.i.2 k hk2
      have hst := showP_imp nm ims k hk2
      have hle := showP_le1 nm ims fs (k + 1)
      have hnk : nameB (ims.getD k []) = true := HP2.out _ (by rw [List.getD_eq_getElem?_getD, List.getElem?_eq_getElem hk2]; exact List.getElem_mem hk2)
      obtain ⟨x, hx⟩ : ∃ x, ims.getD k [] = x := ⟨_, rfl⟩
      rw [hx] at c0 hst hnk
      have hxl := (name_letters hnk).1.2
      rw [hst, List.length_append, ← HL.out] at hle
      have hlx : l.length + (lineT (impLn x)).length ≤ 20000 := Nat.le_trans hle HLen.out
      obtain ⟨g', cap', w', hrun, hrow', hg'⟩ := HR.out.append (lineT (impLn x)) (by omega) hsz 58
      have HR' : Hid (RowW w' (D + 1) g' cap' (l ++ lineT (impLn x))) := hrow'
      have HB' : Hid (Below (D + 1) W w') := HBl.out.grown hg' hsz (fun q e => by injection e with e; rw [← e]; exact HR.out.row.new)
      have HL' : Hid (l ++ lineT (impLn x) = showP (nm, ims.take (k + 1), [])) := by exact (by rw [hst, HL.out] : l ++ lineT (impLn x) = showP (nm, ims.take (k + 1), []))
      have hil : (impLn x).length ≤ 15 := by unfold impLn kwImport; simp; omega
      have e3 : ∀ X : World, (Op.stringOp .add ⟨#[105, 109, 112, 111, 114, 116, 32]⟩ ⟨x.toArray⟩).run Tryd.prog X = .ok (.string ⟨(impLn x).toArray⟩) X := fun X => run_string_add_lists (P := Tryd.prog) X [105, 109, 112, 111, 114, 116, 32] x (by simp) (by omega)
      have e4 : ∀ X : World, (Op.stringOp .add ⟨(impLn x).toArray⟩ ⟨#[10]⟩).run Tryd.prog X = .ok (.string ⟨(lineT (impLn x)).toArray⟩) X := fun X => run_string_add_lists (P := Tryd.prog) X (impLn x) [10] (by omega) (by simp)
      clear hst hle hx hnk hxl hlx hrow' hg' HL HR HBl hil k2 st
      go_wp2_with (at_builtin; refine wpList_append_str rfl (.tmp 19) (.tmp 26) 58 9 rfl _ _ _ rfl rfl hrun ?_; clear hrun)
      go_roundw
      case rel => exact ⟨k + 1, g', cap', l ++ lineT (impLn x), by omega, by go_num, by first | rfl | simp, HL', HR', HB'⟩
      case measure => simp [intOf]; omega
    · obtain rfl : k = ims.length := by omega
      have HL0 : Hid (l = showP (nm, ims, fs.take 0)) := by exact (by rw [HL.out, List.take_length, List.take_zero] : l = showP (nm, ims, fs.take 0))
      clear HL st k2 hsz hkl
      go_wp2
      clear k1
      go_loopw [3, 5] (fun v i wr => ∃ (k g cap : Nat) (l : List UInt8), k ≤ fs.length ∧ i = .int .i64 k ∧ v = .slice (some ⟨g, 0, none⟩) l.length cap ∧ Hid (l = showP (nm, ims, fs.take k)) ∧ Hid (RowW wr (D + 1) g cap l) ∧ Hid (Below (D + 1) W wr)) (fun _ i _ => fs.length - (intOf i).toNat)
      case atStart => exact ⟨0, g, cap, l, Nat.zero_le _, rfl, rfl, HL0, HR, HBl⟩
      case round =>
        clear HL0 HR HBl
        obtain ⟨k, g, cap, l, hk, rfl, rfl, HL, HR, HBl⟩ := hrel
        have hsz : D + 1 ≤ wr.heap.size := by have := HBl.out.size; rw [HWs.out] at this; exact this
        have st := HST.out.below (by rw [HWs.out]; exact HBl.out)
        have k2 := st.k2
        by_cases hkl : (k : Int) < (fs.length : Int)
        · have hk2 : k < fs.length := by omega
          obtain ⟨b, off, rfl, hbl, c0, c1, ta, tl, tc, c2, hnc, hin⟩ := st.f.2 k hk2
          have hst := showP_fn nm ims fs k hk2
          have hle := showP_le2 nm ims fs (k + 1)
          have hnk : funcB (fs.getD k fn0) = true := HP6.out _ (by rw [List.getD_eq_getElem?_getD, List.getElem?_eq_getElem hk2]; exact List.getElem_mem hk2)
          obtain ⟨f, hfe⟩ : ∃ f, fs.getD k fn0 = f := ⟨_, rfl⟩
          rw [hfe] at c0 c1 hin hst hnk
          obtain ⟨s, n, t⟩ := f
          simp only at c0 c1 hin hst hnk
          have hfl := funcLn_len hnk
          unfold funcB at hnk
          simp only [Bool.and_eq_true] at hnk
          obtain ⟨hs, hn, ht⟩ := hnk
          have hnb : 0 ≤ n ∧ n ≤ 3 := by unfold inB at hn; exact of_decide_eq_true hn
          have HTN : Hid (∀ nd ∈ t, nodeB nd = true) := tree_nodes ht
          have htl : tl ≤ 60 := by have := (tree_end ht).1.2; rw [hin.1] at this; exact this
          rw [hst, List.length_append, ← HL.out] at hle
          have hlx : l.length + (lineT (funcLn (s, n, t))).length ≤ 20000 := Nat.le_trans hle HLen.out
          have HL' : Hid (l ++ lineT (funcLn (s, n, t)) = showP (nm, ims, fs.take (k + 1))) := by exact (by rw [hst, HL.out] : l ++ lineT (funcLn (s, n, t)) = showP (nm, ims, fs.take (k + 1)))
          obtain ⟨A1, hA1⟩ : ∃ A, kwFunc ++ [32] ++ s = A := ⟨_, rfl⟩
          obtain ⟨A2, hA2⟩ : ∃ A, A1 ++ [32] = A := ⟨_, rfl⟩
          obtain ⟨A3, hA3⟩ : ∃ A, A2 ++ intL n = A := ⟨_, rfl⟩
          obtain ⟨A4, hA4⟩ : ∃ A, A3 ++ [32] = A := ⟨_, rfl⟩
          obtain ⟨A5, hA5⟩ : ∃ A, A4 ++ showL t = A := ⟨_, rfl⟩
          have hA6 : funcLn (s, n, t) = A5 := by rw [← hA5, ← hA4, ← hA3, ← hA2, ← hA1]; rfl
          have l5 : A5.length ≤ 1900 := by rw [← hA6]; exact hfl
          have l4 : A4.length + (showL t).length ≤ 1900 := by rw [← List.length_append, hA5]; exact l5
          have l3 : A3.length + 1 ≤ 1900 := by have := congrArg List.length hA4; simp at this; omega
          have l2 : A2.length + (intL n).length ≤ 1900 := by have := congrArg List.length hA3; rw [List.length_append] at this; omega
          have l1 : A1.length + 1 ≤ 1900 := by have := congrArg List.length hA2; simp at this; omega
          have l0 : s.length ≤ 8 := (name_letters hs).1.2
          have e1 : ∀ X : World, (Op.stringOp .add ⟨#[102, 117, 110, 99, 32]⟩ ⟨s.toArray⟩).run Tryd.prog X = .ok (.string ⟨A1.toArray⟩) X := fun X => by rw [← hA1]; exact run_string_add_lists (P := Tryd.prog) X [102, 117, 110, 99, 32] s (by simp) (by omega)
          have e2 : ∀ X : World, (Op.stringOp .add ⟨A1.toArray⟩ ⟨#[32]⟩).run Tryd.prog X = .ok (.string ⟨A2.toArray⟩) X := fun X => by rw [← hA2]; exact run_string_add_lists (P := Tryd.prog) X A1 [32] (by omega) (by simp)
          have e3 : ∀ X : World, (Op.stringOp .add ⟨A2.toArray⟩ ⟨(intL n).toArray⟩).run Tryd.prog X = .ok (.string ⟨A3.toArray⟩) X := fun X => by rw [← hA3]; exact run_string_add_lists (P := Tryd.prog) X A2 (intL n) (by omega) (by omega)
          have e4 : ∀ X : World, (Op.stringOp .add ⟨A3.toArray⟩ ⟨#[32]⟩).run Tryd.prog X = .ok (.string ⟨A4.toArray⟩) X := fun X => by rw [← hA4]; exact run_string_add_lists (P := Tryd.prog) X A3 [32] (by omega) (by simp)
          have e5 : ∀ X : World, (Op.stringOp .add ⟨A4.toArray⟩ ⟨(showL t).toArray⟩).run Tryd.prog X = .ok (.string ⟨A5.toArray⟩) X := fun X => by rw [← hA5]; exact run_string_add_lists (P := Tryd.prog) X A4 (showL t) (by omega) (by omega)
          have e6 : ∀ X : World, (Op.stringOp .add ⟨A5.toArray⟩ ⟨#[10]⟩).run Tryd.prog X = .ok (.string ⟨(lineT A5).toArray⟩) X := fun X => run_string_add_lists (P := Tryd.prog) X A5 [10] (by omega) (by simp)
          rw [hA6] at HL' hlx
          have hlx2 : l.length + (lineT A5).length ≤ 4194304 := by omega
          clear hst hle hs hn ht hA1 hA2 hA3 hA4 hA5 hA6 l0 l1 l2 l3 l4 l5 hfe HL hnc hlx hfl
          have hneF : g ≠ wr.heap.size := by have := HR.out.row.there; omega
          obtain ⟨V, hV⟩ : ∃ V, wr.alloc (.cells #[.string ⟨s.toArray⟩, .int .i64 n, .slice ta tl tc] 42) = V := ⟨_, rfl⟩
          have hbV : Below wr.heap.size wr V := by rw [← hV]; exact (Below.refl _ _).alloc (Nat.le_refl _) _
          have hVF : V.heap[wr.heap.size]? = some (.cells #[.string ⟨s.toArray⟩, .int .i64 n, .slice ta tl tc] 42) := by rw [← hV]; exact heap_alloc_new wr _
          have sv : ShSt V W (D + 1) wr.heap.size g cap l s n t ta tl tc := ⟨by simp [World.cell?, hVF], by simp [World.cell?, hVF], by simp [World.cell?, hVF], hneF, HR.out.below hbV, hin.below hbV, HBl.out.trans (hbV.mono hsz), Nat.le_trans hsz hbV.size⟩
          clear hVF hbV hneF HR HBl hin st
          go_wp2_with fail
          replace c0 := sv.c0
          replace c1 := sv.c1
          replace c2 := sv.c2
          clear hbl
          replace sv := sv.drew
          first | (go_region_held3 (fun w' => w'.cell? ⟨wr.heap.size, 0, none⟩ = some (.string ⟨s.toArray⟩) ∧ w'.cell? ⟨wr.heap.size, 1, none⟩ = some (.int .i64 n) ∧ w'.cell? ⟨wr.heap.size, 2, none⟩ = some (.slice ta tl tc)) (go_keep) (first | (go_at_call 29; refine (specInt n _ (by omega) (by omega)).mono ?_; rintro e wn ⟨rfl, hbn⟩; replace sv := sv.below hbn; clear hbn; replace c0 := sv.c0; replace c1 := sv.c1; replace c2 := sv.c2) | (go_at_call 30; refine (specShowL ta tl tc t _ sv.nodes HTN.out htl).mono ?_; rintro e wn ⟨rfl, hbn⟩; replace sv := sv.below hbn; clear hbn; replace c0 := sv.c0; replace c1 := sv.c1; replace c2 := sv.c2) | (obtain ⟨g', cap', wz, hrun, hrow', hbz, z0, z1, z2⟩ := sv.append (lineT A5) hlx2; refine step_append_str (by rfl) (.tmp 40) (.tmp 54) 58 9 (by rfl) _ _ _ (by rfl) (by rfl) hrun ?_; clear hrun))) | fail
          all_goals
            have HR' : Hid (RowW wz (D + 1) g' cap' (l ++ lineT A5)) := hrow'
            have HB' : Hid (Below (D + 1) W wz) := hbz
            clear hrow' hbz sv z0 z1 z2 c0 c1 c2 e1 e2 e3 e4 e5 e6
            go_wp2
            go_roundw
            case rel => exact ⟨k + 1, g', cap', l ++ lineT A5, by omega, by go_num, by first | rfl | simp, HL', HR', HB'⟩
            case measure => simp [intOf]; omega
        · obtain rfl : k = fs.length := by omega
          have HLE : Hid (l = showP (nm, ims, fs)) := by exact (by rw [HL.out, List.take_length] : l = showP (nm, ims, fs))
          have hback := HR.out.row.back
          have HBd : Hid (Below D w wr) := HB.out.trans (HBl.out.mono (by omega))
          clear HL st
          go_wp2
          go_ret
          exact ⟨by rw [← HLE.out]; rfl, by first | exact HBd.out | (rw [hD]; exact HBd.out)⟩

set_option maxHeartbeats 2000000 in
set_option maxRecDepth 100000 in
theorem specShowPackage (nm : List UInt8) (ia : Option Addr) (il ic : Nat) (fa : Option Addr) (fl fc : Nat) (ims : List (List UInt8)) (fs : List Fn) (w : World) (hi : TextsIn w ia il ims) (hf : FuncsIn w fa fl fs) (hil : il ≤ 1048576) (hfl : fl ≤ 1048576) (hnl : nm.length ≤ 1048576) (his : ∀ i, (ims.getD i []).length ≤ 1048576) (hfs : ShortF fs) :
    Calls Tryd.prog 5 #[.agg #[.string ⟨nm.toArray⟩, .slice ia il ic, .slice fa fl fc]] w fun e w' => e = .returned (.string ⟨(showPk (nm, ims, fs)).toArray⟩) ∧ Below w.heap.size w w' := by
  obtain ⟨W, hW⟩ : ∃ W, w.alloc (.cells #[.string ⟨nm.toArray⟩, .slice ia il ic, .slice fa fl fc] 30) = W := ⟨_, rfl⟩
  obtain ⟨st, hB⟩ := PkIn.new (w := w) (nm := nm) (ic := ic) (fc := fc) hi hf
  rw [hW] at st hB
  have hWs : W.heap.size = w.heap.size + 1 := by rw [← hW]; simp
  have HC := specPackageOk nm ia il ic fa fl fc ims fs W st.i st.f hil hfl hnl his hfs
  have k0 := st.k0
  have k1 := st.k1
  have k2 := st.k2
  rcases hp : pkgB (nm, ims, fs) with _ | _
  · have HP : Hid (pkgB (nm, ims, fs) = false) := hp
    have HS : Hid (showPk (nm, ims, fs) = []) := pack_not hp
    clear hp
    go_enter Tryd.func5, Tryd.ntmps5
    go_wp2_with fail
    refine HC.mono ?_
    rintro e w1 ⟨rfl, hb1⟩
    rw [HP.out]
    have hB1 : Below w.heap.size w w1 := hB.trans (hb1.mono hB.size)
    clear HC k0 k1 k2 hb1 st hB
    go_wp2
    go_ret
    exact ⟨by rw [HS.out]; rfl, hB1⟩
  · have HP : Hid (pkgB (nm, ims, fs) = true) := hp
    have HS : Hid (showPk (nm, ims, fs) = showP (nm, ims, fs)) := by exact (by unfold showPk; rw [if_pos hp] : showPk (nm, ims, fs) = showP (nm, ims, fs))
    clear hp
    go_enter Tryd.func5, Tryd.ntmps5
    go_wp2_with fail
    refine HC.mono ?_
    rintro e w1 ⟨rfl, hb1⟩
    rw [HP.out]
    have hB1 : Below w.heap.size w w1 := hB.trans (hb1.mono hB.size)
    have st1 := st.below hb1
    replace k0 := st1.k0
    replace k1 := st1.k1
    replace k2 := st1.k2
    have HC2 := specShowP nm ia il ic fa fl fc ims fs w1 st1.i st1.f HP.out
    clear HC hb1 st hB
    go_wp2_with fail
    refine HC2.mono ?_
    rintro e w2 ⟨rfl, hb2⟩
    have hB2 : Below w.heap.size w w2 := hB1.trans (hb2.mono hB1.size)
    clear HC2 k0 k1 k2 hb2 st1 hB1
    go_wp2
    go_ret
    exact ⟨by rw [HS.out]; rfl, hB2⟩

end Go.Proofs.YtiekcenknniniaaDoor

/-! The contract of chapter 6's specification: the node of a word. -/
namespace Go.Proofs.YtiekcenknniniaaDoor
open Go.RowKit

theorem part_le (ws : List (List UInt8)) (j : Nat) : (ws.getD j []).length ≤ ws.flatten.length := by
  induction ws generalizing j with
  | nil => simp
  | cons x r ih =>
    cases j with
    | zero => simp
    | succ j => have := ih j; simp only [List.getD_cons_succ, List.flatten_cons, List.length_append]; omega

/-- Four cells of one block are written. -/
theorem four_set (w : World) (b : Nat) (n : Nd) {u0 u1 u2 u3 : Value} (r0 : w.cell? ⟨b, 0, none⟩ = some u0) (r1 : w.cell? ⟨b, 1, none⟩ = some u1) (r2 : w.cell? ⟨b, 2, none⟩ = some u2) (r3 : w.cell? ⟨b, 3, none⟩ = some u3) :
    let X := ((((w.setCell ⟨b, 0, none⟩ (.int .i64 n.1)).setCell ⟨b, 1, none⟩ (.int .i64 n.2.1)).setCell ⟨b, 2, none⟩ (.string ⟨n.2.2.1.toArray⟩)).setCell ⟨b, 3, none⟩ (.string ⟨n.2.2.2.toArray⟩))
    X.cell? ⟨b, 0, none⟩ = some (.int .i64 n.1) ∧ X.cell? ⟨b, 1, none⟩ = some (.int .i64 n.2.1) ∧ X.cell? ⟨b, 2, none⟩ = some (.string ⟨n.2.2.1.toArray⟩) ∧ X.cell? ⟨b, 3, none⟩ = some (.string ⟨n.2.2.2.toArray⟩) := by
  intro X
  have o : ∀ (W : World) (i j : Nat) (v : Value), i ≠ j → (W.setCell ⟨b, i, none⟩ v).cell? ⟨b, j, none⟩ = W.cell? ⟨b, j, none⟩ := fun W i j v h => World.cell?_setCell_other _ _ _ _ (by intro e; injection e with _ e; omega)
  refine ⟨?_, ?_, ?_, ?_⟩
  · exact (o _ 3 0 _ (by omega)).trans ((o _ 2 0 _ (by omega)).trans ((o _ 1 0 _ (by omega)).trans (World.cell?_setCell_same _ _ _ r0)))
  · exact (o _ 3 1 _ (by omega)).trans ((o _ 2 1 _ (by omega)).trans (World.cell?_setCell_same _ _ _ ((o _ 0 1 _ (by omega)).trans r1)))
  · exact (o _ 3 2 _ (by omega)).trans (World.cell?_setCell_same _ _ _ ((o _ 1 2 _ (by omega)).trans ((o _ 0 2 _ (by omega)).trans r2)))
  · exact World.cell?_setCell_same _ _ _ ((o _ 2 3 _ (by omega)).trans ((o _ 1 3 _ (by omega)).trans ((o _ 0 3 _ (by omega)).trans r3)))

theorem four_below {w W : World} (h : Below w.heap.size w W) (u0 u1 u2 u3 : Value) : Below w.heap.size w ((((W.setCell ⟨w.heap.size, 0, none⟩ u0).setCell ⟨w.heap.size, 1, none⟩ u1).setCell ⟨w.heap.size, 2, none⟩ u2).setCell ⟨w.heap.size, 3, none⟩ u3) :=
  (((h.setCell (p := ⟨w.heap.size, 0, none⟩) (Nat.le_refl _) _).setCell (p := ⟨w.heap.size, 1, none⟩) (Nat.le_refl _) _).setCell (p := ⟨w.heap.size, 2, none⟩) (Nat.le_refl _) _).setCell (p := ⟨w.heap.size, 3, none⟩) (Nat.le_refl _) _


end Go.Proofs.YtiekcenknniniaaDoor

/-! The contract of chapter 6's specification: ReadTree. -/
namespace Go.Proofs.YtiekcenknniniaaDoor
open Go.RowKit

/-- What a row of nodes holds. -/
def nodesV : List Nd → List Value
  | [] => []
  | n :: r => .int .i64 n.1 :: .int .i64 n.2.1 :: .string ⟨n.2.2.1.toArray⟩ :: .string ⟨n.2.2.2.toArray⟩ :: nodesV r

theorem nodesV_len (ns : List Nd) : (nodesV ns).length = ns.length * 4 := by
  induction ns with
  | nil => rfl
  | cons n r ih => simp only [nodesV, List.length_cons, ih]; omega

theorem nodesV_append (x y : List Nd) : nodesV (x ++ y) = nodesV x ++ nodesV y := by
  induction x with
  | nil => rfl
  | cons n r ih => simp only [List.cons_append, nodesV, ih]

theorem nodesV_one (ns : List Nd) : ∀ u ∈ nodesV ns, u.oneCell' = true := by
  induction ns with
  | nil => intro u hu; cases hu
  | cons n r ih =>
    intro u hu
    simp only [nodesV, List.mem_cons] at hu
    rcases hu with rfl | rfl | rfl | rfl | h
    · rfl
    · rfl
    · rfl
    · rfl
    · exact ih u h

theorem nodesV_at (ns : List Nd) (j : Nat) (hj : j < ns.length) : (nodesV ns)[j * 4]? = some (.int .i64 (ns.getD j nd0).1) ∧ (nodesV ns)[j * 4 + 1]? = some (.int .i64 (ns.getD j nd0).2.1) ∧ (nodesV ns)[j * 4 + 2]? = some (.string ⟨(ns.getD j nd0).2.2.1.toArray⟩) ∧ (nodesV ns)[j * 4 + 3]? = some (.string ⟨(ns.getD j nd0).2.2.2.toArray⟩) := by
  induction ns generalizing j with
  | nil => simp at hj
  | cons n r ih =>
    cases j with
    | zero => simp [nodesV]
    | succ j =>
      have h := ih j (by simpa using hj)
      rw [show (j + 1) * 4 = j * 4 + 1 + 1 + 1 + 1 by omega]
      simpa [nodesV] using h

/-- A row of nodes that a call owns is a list of nodes. -/
theorem own_nodes {w : World} {base n : Nat} {v : Value} {ns : List Nd} (h : w.ownsRow base 65 4 v n (nodesV ns)) : ns.length = n ∧ ∃ a cap, v = .slice a n cap ∧ NodesIn w a n ns := by
  have hlen : ns.length = n := by have := h.1; rw [nodesV_len] at this; omega
  refine ⟨hlen, ?_⟩
  rcases own_forms h with ⟨rfl, rfl, _⟩ | ⟨g, cp, rfl⟩
  · exact ⟨none, 0, rfl, hlen, fun j hj => by omega⟩
  · refine ⟨some ⟨g, 0, none⟩, cp, rfl, hlen, fun j hj => ?_⟩
    obtain ⟨v0, v1, v2, v3⟩ := nodesV_at ns j (by omega)
    have c0 := h.cellAt (j * 4) (by omega)
    have c1 := h.cellAt (j * 4 + 1) (by omega)
    have c2 := h.cellAt (j * 4 + 2) (by omega)
    have c3 := h.cellAt (j * 4 + 3) (by omega)
    rw [v0] at c0
    rw [v1] at c1
    rw [v2] at c2
    rw [v3] at c3
    refine ⟨g, 0, rfl, (h.lt g rfl).2, ?_, ?_, ?_, ?_⟩
    · rw [Nat.zero_add]; exact c0
    · rw [Nat.zero_add]; exact c1
    · rw [Nat.zero_add]; exact c2
    · rw [Nat.zero_add]; exact c3

theorem infoNode : (Tryd.prog.info? 65).map (fun i => (i.zero, i.size, i.bytes)) = some (some (.agg #[.int .i64 0, .int .i64 0, .string ⟨#[]⟩, .string ⟨#[]⟩]), 4, 48) := by kernel_rfl

theorem new_node (w : World) (n : Nd) : ∀ j u, (nodesV [n])[j]? = some u → (w.alloc (.cells #[.int .i64 n.1, .int .i64 n.2.1, .string ⟨n.2.2.1.toArray⟩, .string ⟨n.2.2.2.toArray⟩] 65)).cell? ((⟨w.heap.size, 0, none⟩ : Addr).add j) = some u := by
  intro j u hu
  have e : (⟨w.heap.size, 0, none⟩ : Addr).add j = ⟨w.heap.size, j, none⟩ := by unfold Addr.add; split <;> simp_all
  rw [e]
  match j, hu with
  | 0, hu => simp [nodesV] at hu; subst hu; simp
  | 1, hu => simp [nodesV] at hu; subst hu; simp
  | 2, hu => simp [nodesV] at hu; subst hu; simp
  | 3, hu => simp [nodesV] at hu; subst hu; simp
  | j + 4, hu => simp [nodesV] at hu

theorem split_part (b : UInt8) (l : List UInt8) (j : Nat) : ((splitL b l).getD j []).length ≤ l.length := by
  have h1 : (splitGo b [] l).flatten.length ≤ l.length := by
    have := splitGo_flat b l []
    rw [List.length_nil, Nat.zero_add] at this
    exact this
  have h2 := part_le (splitL b l) j
  unfold splitL at h2 ⊢
  exact Nat.le_trans h2 h1

theorem readN_short (s : List UInt8) : (readN s).2.2.1.length ≤ s.length ∧ (readN s).2.2.2.length ≤ s.length := by
  unfold readN
  split
  · simp
  split
  · simp
  split
  · simp
  split
  · simp
  split
  · simp
  split
  · simp
  split
  · split
    · have h1 := split_part 47 s.tail 0
      have h2 := split_part 46 ((splitL 47 s.tail).getD 0 []) 0
      have h3 := split_part 46 ((splitL 47 s.tail).getD 0 []) 1
      have h4 : s.tail.length ≤ s.length := by rw [List.length_tail]; omega
      constructor
      · show ((splitL 46 ((splitL 47 s.tail).getD 0 [])).getD 0 []).length ≤ _; omega
      · show ((splitL 46 ((splitL 47 s.tail).getD 0 [])).getD 1 []).length ≤ _; omega
    · simp
  split
  · simp
  · simp

theorem readT_short (s : List UInt8) (h : s.length ≤ 2000) : ShortT (readT s) := by
  intro j
  unfold readT
  by_cases hj : j < (splitL 32 s).length
  · have hg : ((splitL 32 s).map readN).getD j nd0 = readN ((splitL 32 s).getD j []) := by simp [List.getD, hj]
    rw [hg]
    have h1 := readN_short ((splitL 32 s).getD j [])
    have h2 := split_part 32 s j
    omega
  · have hg : ((splitL 32 s).map readN).getD j nd0 = nd0 := by simp [List.getD, hj]
    rw [hg]; simp [nd0]

theorem map_step2 (ws : List (List UInt8)) (k : Nat) (hk : k < ws.length) : (ws.map readN).take (k + 1) = (ws.map readN).take k ++ [readN (ws.getD k [])] := by
  rw [← List.map_take, ← List.map_take]
  have hg : ws.getD k [] = ws[k] := by simp [List.getD, hk]
  rw [hg, List.take_succ_eq_append_getElem hk, List.map_append]; rfl


end Go.Proofs.YtiekcenknniniaaDoor

/-! Texts and trees are copied: l1Texts; rows as 'append' reads them. -/
namespace Go.Proofs.YtiekcenknniniaaDoor
open Go.RowKit


theorem TextsIn.src {w : World} {a : Option Addr} {len cap : Nat} {ts : List (List UInt8)} (h : TextsIn w a len ts) (hc : a = none → cap = 0) : Src w (.slice a len cap) len 1 (strV ts) := by
  have hl : (strV ts).length = len := by simp [strV, h.1]
  refine ⟨by rw [hl]; omega, fun u hu => ?_, ?_⟩
  · simp only [strV, List.mem_map] at hu
    obtain ⟨x, _, rfl⟩ := hu
    rfl
  rcases a with _ | ad
  · have h0 : len = 0 := by
      rcases Nat.eq_zero_or_pos len with h' | h'
      · exact h'
      · obtain ⟨b, off, e, _⟩ := h.2 0 h'
        cases e
    exact Or.inl ⟨by rw [h0, hc rfl], h0⟩
  · refine Or.inr ⟨ad, cap, rfl, fun j u hu => ?_⟩
    have hj : j < (strV ts).length := by
      rcases Nat.lt_or_ge j (strV ts).length with h' | h'
      · exact h'
      · rw [List.getElem?_eq_none h'] at hu; cases hu
    rw [hl] at hj
    obtain ⟨b, off, e, _, c0⟩ := h.2 j hj
    injection e with e
    subst e
    rw [add_plain, c0]
    rw [strV_at ts j (by rw [h.1]; exact hj)] at hu
    rw [← hu, List.getD_eq_getElem?_getD, List.getElem?_eq_getElem (by rw [h.1]; exact hj)]
    rfl

theorem NodesIn.src {w : World} {a : Option Addr} {len cap : Nat} {ns : List Nd} (h : NodesIn w a len ns) (hc : a = none → cap = 0) : Src w (.slice a len cap) len 4 (nodesV ns) := by
  refine ⟨by rw [nodesV_len, h.1], nodesV_one ns, ?_⟩
  rcases a with _ | ad
  · have h0 : len = 0 := by
      rcases Nat.eq_zero_or_pos len with h' | h'
      · exact h'
      · obtain ⟨b, off, e, _⟩ := h.2 0 h'
        cases e
    exact Or.inl ⟨by rw [h0, hc rfl], h0⟩
  · refine Or.inr ⟨ad, cap, rfl, fun j u hu => ?_⟩
    have hj : j < (nodesV ns).length := by
      rcases Nat.lt_or_ge j (nodesV ns).length with h' | h'
      · exact h'
      · rw [List.getElem?_eq_none h'] at hu; cases hu
    rw [nodesV_len, h.1] at hj
    obtain ⟨b, off, e, _, c0, c1, c2, c3⟩ := h.2 (j / 4) (by omega)
    injection e with e
    subst e
    obtain ⟨v0, v1, v2, v3⟩ := nodesV_at ns (j / 4) (by rw [h.1]; omega)
    rw [add_plain]
    rcases (show j % 4 = 0 ∨ j % 4 = 1 ∨ j % 4 = 2 ∨ j % 4 = 3 by omega) with h' | h' | h' | h'
    · rw [show j / 4 * 4 = j by omega] at v0 c0
      rw [hu] at v0
      rw [c0, v0]
    · rw [show j / 4 * 4 + 1 = j by omega] at v1
      rw [hu] at v1
      rw [show off + j = off + j / 4 * 4 + 1 by omega, c1, v1]
    · rw [show j / 4 * 4 + 2 = j by omega] at v2
      rw [hu] at v2
      rw [show off + j = off + j / 4 * 4 + 2 by omega, c2, v2]
    · rw [show j / 4 * 4 + 3 = j by omega] at v3
      rw [hu] at v3
      rw [show off + j = off + j / 4 * 4 + 3 by omega, c3, v3]


end Go.Proofs.YtiekcenknniniaaDoor
