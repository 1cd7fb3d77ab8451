/-
  Parts of one proof, one behind the other: FoldS4, Math10R, Math11G.
-/
import Derived.Test.YtkjojhkpoooimaaGreatP29
import Derived.Test.YtkjojhkpoooimaaGreatP6
import Derived.Test.YtkjojhkpoooimaaGreatP7
import Derived.Test.YtkjojhkpoooimaaGreatP5
import Derived.Deep.RegionHeld3
import Derived.Deep.Cut
import Derived.Deep.CutRange
import Derived.Deep.RegionLaw
import Derived.Deep.RegionWith
import Derived.Test.YtkjojhkpoooimaaGreatP12
import Derived.Test.YtkjojhkpoooimaaGreatP23

/-! The contract of chapter 7's specification: a package is copied. -/
namespace Go.Proofs.YtkjojhkpoooimaaGreat
open Go.RowKit

theorem push_fv {X : World} {B : Nat} {v : Value} {xs : List FV} (h : FnsOwn X B v xs) (x : FV) (ht : X.ownsRow B 46 4 (fvT x) x.1.2.2.length (nodesV x.1.2.2)) (hb : B ≤ X.heap.size) (hn : xs.length ≤ 1048576) :
    ∃ v' Y, (Builtin.append_ #[28, 28] 28 #[v, .slice (some ⟨X.heap.size, 0, none⟩) 1 1]).run Tryz.prog (X.alloc (.cells #[.string ⟨x.1.1.toArray⟩, .int .i64 x.1.2.1, fvT x] 52)) = .ok v' Y ∧ FnsOwn Y B v' (xs ++ [x]) ∧ X.grownBy Y v.ownBlock := by
  obtain ⟨i0, hi, hz0, hz1, hz2⟩ := info_parts infoFunc
  obtain ⟨v', Y, hrun, hown, hg, _⟩ := run_append_src (P := Tryz.prog) (X.alloc (.cells #[.string ⟨x.1.1.toArray⟩, .int .i64 x.1.2.1, fvT x] 52)) B 28 28 52 i0 _ 3 48 Tryz.underlying28 hi hz0 hz1 hz2 rfl (by decide) _ _ _ (h.row.alloc _) _ 1 (fnsV [x]) (new_fn X x 1) (by unfold maxLen; omega) (by omega) (by simp; omega)
  refine ⟨v', Y, hrun, ⟨?_, fun z hz => ?_⟩, (World.grownBy_alloc X _ _).trans hg⟩
  · rw [fnsV_append, List.length_append]
    exact hown
  · have hrow := h.row.alloc (.cells #[.string ⟨x.1.1.toArray⟩, .int .i64 x.1.2.1, fvT x] 52)
    rcases List.mem_append.1 hz with h1 | h1
    · have h2 := (h.trees z h1).alloc (.cells #[.string ⟨x.1.1.toArray⟩, .int .i64 x.1.2.1, fvT x] 52)
      exact h2.kept hg (own_types h2 hrow (by decide))
    · rw [List.mem_singleton.1 h1]
      have h2 := ht.alloc (.cells #[.string ⟨x.1.1.toArray⟩, .int .i64 x.1.2.1, fvT x] 52)
      exact h2.kept hg (own_types h2 hrow (by decide))

/-- A block of three cells that can be written. -/
structure Bq (Z : World) (k : Nat) (a b c : Value) : Prop where
  box : Box3 Z k a b c
  fr : ∀ j, Z.frozen? ⟨k, j, none⟩ = false
theorem Bq.new (w : World) (a b c : Value) (t : TypeId) : Bq (w.alloc (.cells #[a, b, c] t)) w.heap.size a b c ∧ Below w.heap.size w (w.alloc (.cells #[a, b, c] t)) := by
  obtain ⟨h1, h2⟩ := Box3.new w a b c t
  exact ⟨⟨h1, fun j => World.frozen?_alloc_at _ _ _ _ rfl⟩, h2⟩
theorem Bq.keep {Z Y : World} {k : Nat} {a b c : Value} (h : Bq Z k a b c) (e : Y.heap[k]? = Z.heap[k]?) : Bq Y k a b c := ⟨h.box.keep e, fun j => by have := h.fr j; simp only [World.frozen?] at this ⊢; rw [e]; exact this⟩
theorem Bq.below {Z Y : World} {k : Nat} {a b c : Value} (h : Bq Z k a b c) (hb : Below Z.heap.size Z Y) : Bq Y k a b c := h.keep (hb.block k h.box.lt)
theorem Bq.s2 {Z : World} {k : Nat} {a b c : Value} (h : Bq Z k a b c) (v : Value) : Bq (Z.setCell ⟨k, 2, none⟩ v) k a b v :=
  ⟨⟨(World.cell?_setCell_other _ _ _ _ (by simp)).trans h.box.c0, (World.cell?_setCell_other _ _ _ _ (by simp)).trans h.box.c1, World.cell?_setCell_same _ _ _ h.box.c2⟩, fun j => by simpa using h.fr j⟩

set_option maxHeartbeats 8000000 in
set_option maxRecDepth 100000 in
theorem specCopy7 (nm : List UInt8) (ia : Option Addr) (il ic : Nat) (fa : Option Addr) (fl fc : Nat) (ims : List (List UInt8)) (fs : List Fn) (w : World) (h : PkOk w nm ia il ic fa fl fc ims fs) :
    Calls Tryz.prog 64 #[.agg #[.string ⟨nm.toArray⟩, .slice ia il ic, .slice fa fl fc]] w fun e w' => ∃ vi vf xs, e = .returned (.agg #[.string ⟨nm.toArray⟩, vi, vf]) ∧ w'.ownsRow w.heap.size 9 1 vi ims.length (strV ims) ∧ FnsOwn w' w.heap.size vf xs ∧ xs.map (·.1) = fs ∧ Below w.heap.size w w' := by
  obtain ⟨bP, hb1⟩ := Bq.new w (.string ⟨nm.toArray⟩) (.slice ia il ic) (.slice fa fl fc) 30
  obtain ⟨W1, hW1⟩ : ∃ W1, w.alloc (.cells #[.string ⟨nm.toArray⟩, .slice ia il ic, .slice fa fl fc] 30) = W1 := ⟨_, rfl⟩
  rw [hW1] at bP hb1
  obtain ⟨bR, hb2⟩ := Bq.new W1 (.string ⟨#[]⟩) (.slice none 0 0) (.slice none 0 0) 30
  obtain ⟨W2, hW2⟩ : ∃ W2, W1.alloc (.cells #[.string ⟨#[]⟩, .slice none 0 0, .slice none 0 0] 30) = W2 := ⟨_, rfl⟩
  rw [hW2] at bR hb2
  obtain ⟨P0, hP0⟩ : ∃ P0, w.heap.size = P0 := ⟨_, rfl⟩
  obtain ⟨R0, hR0⟩ : ∃ R0, W1.heap.size = R0 := ⟨_, rfl⟩
  rw [hP0] at bP
  rw [hR0] at bR
  have hPl : P0 < W1.heap.size := bP.box.lt
  have hRl : R0 < W2.heap.size := bR.box.lt
  have hbw : Below w.heap.size w W2 := hb1.trans (hb2.mono hb1.size)
  have HZ : Hid (∀ Y, Below W2.heap.size W2 Y → Bq Y P0 (.string ⟨nm.toArray⟩) (.slice ia il ic) (.slice fa fl fc) ∧ Bq Y R0 (.string ⟨#[]⟩) (.slice none 0 0) (.slice none 0 0) ∧ Below w.heap.size w Y) := fun Y hy => ⟨(bP.below hb2).below hy, bR.below hy, hbw.trans (hy.mono hbw.size)⟩
  have HTx : Hid (∀ Y, Below w.heap.size w Y → Calls Tryz.prog 70 #[.slice ia il ic] Y fun e w' => ∃ v, e = .returned v ∧ w'.ownsRow Y.heap.size 9 1 v ims.length (strV ims) ∧ Below Y.heap.size Y w') := fun Y hy => specTexts ia il ic ims Y (h.i.below hy) h.ic h.il
  have HPk : Hid (PkOk w nm ia il ic fa fl fc ims fs) := h
  have HBw : Hid (Below w.heap.size w W2) := hbw
  obtain ⟨b0, r0, _⟩ := HZ.out W2 (Below.refl _ _)
  have p0 := b0.box.c0
  have p1 := b0.box.c1
  have p2 := b0.box.c2
  -- what lies in 'out' ahead of its functions
  have hb27 : Below W2.heap.size W2 W2.drew := ⟨rfl, rfl, rfl, Nat.le_refl _, fun _ _ => rfl⟩
  obtain ⟨bz, hb28⟩ := Bq.new W2 (.string ⟨#[]⟩) (.slice none 0 0) (.slice none 0 0) 30
  obtain ⟨X8, hX8⟩ : ∃ X8, W2.alloc (.cells #[.string ⟨#[]⟩, .slice none 0 0, .slice none 0 0] 30) = X8 := ⟨_, rfl⟩
  rw [hX8] at bz hb28
  have HB27 : Hid (Below W2.heap.size W2 W2.drew) := hb27
  have HB28 : Hid (Below W2.heap.size W2 X8.drew) := ⟨hb28.os, hb28.tape, hb28.output, hb28.size, hb28.block⟩
  obtain ⟨E0, hE0⟩ : ∃ E0, W2.heap.size = E0 := ⟨_, rfl⟩
  rw [hE0] at bz
  have HZb : Hid (∀ Y, Below X8.heap.size X8 Y → Bq Y E0 (.string ⟨#[]⟩) (.slice none 0 0) (.slice none 0 0)) := fun Y hy => bz.below hy
  obtain ⟨c8, _, _⟩ := HZ.out X8 hb28
  have x80 := c8.box.c0
  have x81 := c8.box.c1
  clear hb27 hb28 bz c8 b0 r0 bP bR hb1 hb2 hbw h
  go_enter Tryz.func64, Tryz.ntmps64
  go_upto_region 1 with fail
  go_cut [3] from 5 to 10 (fun ov wx => ∃ (O : Nat) (va : Option Addr) (vc : Nat), ov = .pointer (some ⟨O, 0, none⟩) ∧ E0 ≤ O ∧ Hid (Bq wx O (.string ⟨nm.toArray⟩) (.slice va ims.length vc) (.slice none 0 0) ∧ wx.ownsRow E0 9 1 (.slice va ims.length vc) ims.length (strV ims) ∧ (∀ k, (Value.slice va ims.length vc).ownBlock = some k → k ≠ O) ∧ Below W2.heap.size W2 wx))
  case first =>
    go_region_with (first
      | (go_at_call 70; refine Calls.mono (HTx.out _ (HZ.out _ HB27.out).2.2) ?_; rintro e wn ⟨vi, rfl, hvi, hbn⟩; have HBn : Hid (Below W2.heap.size W2 wn) := HB27.out.trans (hbn.mono HB27.out.size); obtain ⟨va, vc, rfl, _, _⟩ := own_texts0 hvi; clear p0 p1; obtain ⟨bp, _, _⟩ := HZ.out wn HBn.out; have p0 := bp.box.c0; have p1 := bp.box.c1; obtain ⟨bz, hbz⟩ := Bq.new wn (.string ⟨#[]⟩) (.slice none 0 0) (.slice none 0 0) 30; obtain ⟨Q8, hQ8⟩ : ∃ Q8, wn.alloc (.cells #[.string ⟨#[]⟩, .slice none 0 0, .slice none 0 0] 30) = Q8 := ⟨_, rfl⟩; rw [hQ8] at bz hbz; obtain ⟨O, hO⟩ : ∃ O, wn.heap.size = O := ⟨_, rfl⟩; rw [hO] at bz; have z0 := bz.box.c0; have z1 := bz.box.c1; have z2 := bz.box.c2; have zf0 := bz.fr 0; have zf1 := bz.fr 1; have zf2 := bz.fr 2; obtain ⟨U, hU, y0, y1, y2, hgU⟩ := set3 (.string ⟨nm.toArray⟩) (.slice va ims.length vc) (.slice none 0 0) z0 z1 z2; have hEO : E0 ≤ O := (by have := HBn.out.size; omega); have HBQ : Hid (Below W2.heap.size W2 Q8) := HBn.out.trans (hbz.mono HBn.out.size); have HBU : Hid (Below W2.heap.size W2 U) := HBQ.out.grown hgU HBQ.out.size (fun k e => (by injection e with e; omega)); have hvl : ∀ k, (Value.slice va ims.length vc).ownBlock = some k → k < O := (fun k e => (by have := (hvi.lt k e).2; omega)); have HR : Hid (Bq U O (.string ⟨nm.toArray⟩) (.slice va ims.length vc) (.slice none 0 0) ∧ U.ownsRow E0 9 1 (.slice va ims.length vc) ims.length (strV ims) ∧ (∀ k, (Value.slice va ims.length vc).ownBlock = some k → k ≠ O) ∧ Below W2.heap.size W2 U) := ⟨⟨⟨y0, y1, y2⟩, (fun q => (by rw [← hU]; simpa using bz.fr q))⟩, own_base (own_wrote (own_below hvi hbz) (Wrote.of_grown hgU (S := fun k => k = O) (fun k e => (by injection e with e; exact e.symm))) (fun k e h => (by have := hvl k e; omega))) (by rw [← hE0]; exact HB27.out.size), (fun k e => Nat.ne_of_lt (hvl k e)), HBU.out⟩; obtain ⟨qq, _, _⟩ := HZ.out Q8 HBQ.out; have q0 := qq.box.c0; have q1 := qq.box.c1; obtain ⟨uq, _, _⟩ := HZ.out U HBU.out; have u0 := uq.box.c0; have u1 := uq.box.c1; clear hvi hbn bz hbz hgU bp uq qq hvl)
      | (go_at_call 70; refine Calls.mono (HTx.out _ (HZ.out _ HB28.out).2.2) ?_; rintro e wn ⟨vi, rfl, hvi, hbn⟩; have HBn : Hid (Below W2.heap.size W2 wn) := HB28.out.trans (hbn.mono HB28.out.size); obtain ⟨va, vc, rfl, _, _⟩ := own_texts0 hvi; clear p0 p1; obtain ⟨bp, _, _⟩ := HZ.out wn HBn.out; have p0 := bp.box.c0; have p1 := bp.box.c1; have bz := HZb.out wn ⟨hbn.os, hbn.tape, hbn.output, hbn.size, hbn.block⟩; have z0 := bz.box.c0; have z1 := bz.box.c1; have z2 := bz.box.c2; have zf0 := bz.fr 0; have zf1 := bz.fr 1; have zf2 := bz.fr 2; obtain ⟨U, hU, y0, y1, y2, hgU⟩ := set3 (.string ⟨nm.toArray⟩) (.slice va ims.length vc) (.slice none 0 0) z0 z1 z2; have HBU : Hid (Below W2.heap.size W2 U) := HBn.out.grown hgU HBn.out.size (fun k e => (by injection e with e; omega)); have hvl : ∀ k, (Value.slice va ims.length vc).ownBlock = some k → E0 < k := (fun k e => (by have h1 := (hvi.lt k e).1; have h2 : X8.drew.heap.size = X8.heap.size := rfl; have h3 : X8.heap.size = W2.heap.size + 1 := (by rw [← hX8]; simp); omega)); have HR : Hid (Bq U E0 (.string ⟨nm.toArray⟩) (.slice va ims.length vc) (.slice none 0 0) ∧ U.ownsRow E0 9 1 (.slice va ims.length vc) ims.length (strV ims) ∧ (∀ k, (Value.slice va ims.length vc).ownBlock = some k → k ≠ E0) ∧ Below W2.heap.size W2 U) := ⟨⟨⟨y0, y1, y2⟩, (fun q => (by rw [← hU]; simpa using bz.fr q))⟩, own_base (own_wrote hvi (Wrote.of_grown hgU (S := fun k => k = E0) (fun k e => (by injection e with e; exact e.symm))) (fun k e h => (by have := hvl k e; omega))) (by rw [← hE0]; exact HB28.out.size), (fun k e => Nat.ne_of_gt (hvl k e)), HBU.out⟩; obtain ⟨uq, _, _⟩ := HZ.out U HBU.out; have u0 := uq.box.c0; have u1 := uq.box.c1; clear hvi hbn bz hgU bp uq hvl))
    all_goals
      go_wp2_with fail
      go_meet
      case rel => exact ⟨_, va, vc, rfl, by omega, (by first | exact HR.out | exact ⟨HR.out.1.keep rfl, own_none HR.out.2.1 ⟨rfl, rfl, rfl, Nat.le_refl _, fun _ _ _ => rfl⟩, HR.out.2.2.1, HR.out.2.2.2.trans ⟨rfl, rfl, rfl, Nat.le_refl _, fun _ _ => rfl⟩⟩)⟩
  case rest =>
    obtain ⟨O, va, vc, rfl, hEO, HR⟩ := hcut
    have HflE : Hid (fl = fs.length) := HPk.out.f.1.symm
    have hfl6 := HPk.out.fl
    have HF0 : Hid (FnsOwn wc (O + 1) (.slice none 0 0) []) := FnsOwn.nil wc (O + 1)
    obtain ⟨nI, hnI⟩ : ∃ nI, ims.length = nI := ⟨_, rfl⟩
    have HnI : Hid (ims.length = nI) := hnI
    rw [hnI] at HR
    clear p0 p1 p2 x80 x81 HTx HB27 HB28 HZb hnI
    go_wp2
    go_loopw [4] (fun iv wx => ∃ (i : Nat) (xs : List FV) (ga : Option Addr) (gc : Nat), iv = .int .i64 (i : Int) ∧ i ≤ fl ∧ xs.length = i ∧ Hid (xs.map (·.1) = fs.take i) ∧ Hid (Bq wx O (.string ⟨nm.toArray⟩) (.slice va nI vc) (.slice ga i gc)) ∧ Hid (FnsOwn wx (O + 1) (.slice ga i gc) xs) ∧ Hid (wx.ownsRow E0 9 1 (.slice va nI vc) nI (strV ims) ∧ (∀ k, (Value.slice va nI vc).ownBlock = some k → k ≠ O) ∧ Below W2.heap.size W2 wx)) (fun iv _ => fl - (intOf iv).toNat)
    case atStart => exact ⟨0, [], none, 0, rfl, Nat.zero_le _, rfl, rfl, HR.out.1, HF0, ⟨HR.out.2.1, HR.out.2.2.1, HR.out.2.2.2⟩⟩
    case round =>
      obtain ⟨i, xs, ga, gc, rfl, hi, hxl, HM, HBo, HFo, HV⟩ := hrel
      clear HF0 HR
      obtain ⟨bp, br, hbw⟩ := HZ.out wr HV.out.2.2
      have p2 := bp.box.c2
      have o2 := HBo.out.box.c2
      have hOl : O < wr.heap.size := HBo.out.box.lt
      by_cases hlt : (i : Int) < (fl : Int)
      · have hi2 : i < fl := by omega
        obtain ⟨b, off, rfl, hbl, c0, c1, ta, tl, tc, c2, htn, hno⟩ := (HPk.out.f.below hbw).2 i hi2
        have hsm := HPk.out.fs i
        have htk : fs.take (i + 1) = fs.take i ++ [fs.getD i fn0] := by
          have hil : i < fs.length := by have := HflE.out; omega
          have hg : fs.getD i fn0 = fs[i] := by simp [List.getD, hil]
          rw [hg, List.take_succ_eq_append_getElem hil]
        obtain ⟨f, hf⟩ : ∃ f, fs.getD i fn0 = f := ⟨_, rfl⟩
        rw [hf] at c0 c1 hno hsm htk
        obtain ⟨s, n, tt⟩ := f
        simp only at c0 c1 hno hsm
        obtain rfl : tt.length = tl := hno.1
        have HTk : Hid (fs.take (i + 1) = fs.take i ++ [(s, n, tt)]) := htk
        have HCp : Hid (∀ Y, Below wr.heap.size wr Y → Calls Tryz.prog 88 #[.agg #[.string ⟨s.toArray⟩, .int .i64 n, .slice ta tt.length tc]] Y fun e w' => ∃ v, e = .returned (.agg #[.string ⟨s.toArray⟩, .int .i64 n, v]) ∧ w'.ownsRow Y.heap.size 46 4 v tt.length (nodesV tt) ∧ Below Y.heap.size Y w') := fun Y hy => specCopyFunc (s, n, tt) ta tt.length tc Y (hno.below hy) htn hsm.2.1
        have HSt : Hid (∀ w5 v, Below wr.heap.size wr w5 → w5.ownsRow wr.heap.size 46 4 v tt.length (nodesV tt) → ∃ a' c' g' d' Y, v = .slice a' tt.length c' ∧ (Builtin.append_ #[28, 28] 28 #[.slice ga i gc, .slice (some ⟨w5.heap.size, 0, none⟩) 1 1]).run Tryz.prog (w5.alloc (.cells #[.string ⟨s.toArray⟩, .int .i64 n, .slice a' tt.length c'] 52)) = .ok (.slice (some ⟨g', 0, none⟩) (i + 1) d') Y ∧ Y.cell? ⟨O, 2, none⟩ = some (.slice ga i gc) ∧ Y.frozen? ⟨O, 2, none⟩ = false ∧ ∃ ys : List FV, ys.length = i + 1 ∧ ys.map (·.1) = fs.take (i + 1) ∧ Bq (Y.setCell ⟨O, 2, none⟩ (.slice (some ⟨g', 0, none⟩) (i + 1) d')) O (.string ⟨nm.toArray⟩) (.slice va nI vc) (.slice (some ⟨g', 0, none⟩) (i + 1) d') ∧ FnsOwn (Y.setCell ⟨O, 2, none⟩ (.slice (some ⟨g', 0, none⟩) (i + 1) d')) (O + 1) (.slice (some ⟨g', 0, none⟩) (i + 1) d') ys ∧ (Y.setCell ⟨O, 2, none⟩ (.slice (some ⟨g', 0, none⟩) (i + 1) d')).ownsRow E0 9 1 (.slice va nI vc) nI (strV ims) ∧ Below W2.heap.size W2 (Y.setCell ⟨O, 2, none⟩ (.slice (some ⟨g', 0, none⟩) (i + 1) d'))) := fun w5 v hb5 hv => by
          obtain ⟨_, a', c', rfl, _⟩ := own_nodes hv
          have hfo := HFo.out.below hb5
          have hs5 := hb5.size
          have hfo2 : FnsOwn w5 (O + 1) (.slice ga xs.length gc) xs := by rw [hxl]; exact hfo
          obtain ⟨v', Y, hr, hfY, hg⟩ := push_fv hfo2 ((s, n, tt), a', c') (own_base hv (by omega)) (by omega) (by omega)
          obtain ⟨g', d', rfl⟩ := own_some hfY.row (by simp)
          have hyl : (xs ++ [((s, n, tt), a', c')]).length = i + 1 := by rw [List.length_append, hxl]; rfl
          rw [hxl] at hr hg
          rw [hyl] at hr hfY
          have hbq5 := HBo.out.below hb5
          have hbY : Bq Y O (.string ⟨nm.toArray⟩) (.slice va nI vc) (.slice ga i gc) := hbq5.keep (hg.block O hbq5.box.lt (fun e => by have := (hfo.row.lt O e.symm).1; omega))
          have hvi5 := own_below HV.out.1 hb5
          have hviY := hvi5.kept hg (own_types hvi5 (by rw [hxl] at hfo2; exact hxl ▸ hfo2.row) (by decide))
          have hwZ : Wrote Y (Y.setCell ⟨O, 2, none⟩ (.slice (some ⟨g', 0, none⟩) (i + 1) d')) (fun k => k = O) := Wrote.of_grown (grown_set Y O 2 _) (fun k e => by injection e with e; exact e.symm)
          have hbw5 : Below W2.heap.size W2 w5 := HV.out.2.2.trans (hb5.mono HV.out.2.2.size)
          have hbwY : Below W2.heap.size W2 Y := hbw5.grown hg hbw5.size (fun k e => by have := (hfo.row.lt k e).1; omega)
          refine ⟨a', c', g', d', Y, rfl, hr, hbY.box.c2, hbY.fr 2, _, hyl, ?_, hbY.s2 _, ⟨?_, fun z hz => ?_⟩, ?_, hbwY.trans (hwZ.below hbwY.size (fun k e => by omega))⟩
          · rw [List.map_append, HM.out, HTk.out]; rfl
          · have := own_wrote hfY.row hwZ (fun k e h => by have := (hfY.row.lt k e).1; omega)
            rw [hyl] at this ⊢
            exact this
          · exact own_wrote (hfY.trees z hz) hwZ (fun k e h => by have := ((hfY.trees z hz).lt k e).1; omega)
          · exact own_wrote hviY hwZ (fun k e h => HV.out.2.1 k e h)
        have hPw : P0 < wr.heap.size := bp.box.lt
        have HCd : Hid (_) := HCp.out wr.drew ⟨rfl, rfl, rfl, Nat.le_refl _, fun _ _ => rfl⟩
        clear bp br hbw hno htn hsm htk hf HFo HM HTk
        go_wp2_with fail
        go_region_law (first | (refine step_append_run (by rfl) (.tmp 19) (.tmp 26) 28 (by rfl) _ _ _ (by rfl) (by rfl) hr ?_) | (go_simp; go_at_call 88; refine Calls.mono HCd.out ?_; rintro e w5 ⟨v, rfl, hv, hb5⟩; have hb6 : Below wr.heap.size wr w5 := ⟨hb5.os, hb5.tape, hb5.output, hb5.size, hb5.block⟩; have o25 := (hb6.cell (p := ⟨O, 2, none⟩) hOl).trans o2; have p25 := (hb6.cell (p := ⟨P0, 2, none⟩) hPw).trans p2; obtain ⟨a', c', g', d', Y, rfl, hr, y2, yf, ys, hyl, hym, hbq, hfq, hvq, hbz⟩ := HSt.out w5 v hb6 hv; have hOl5 : O < w5.heap.size := Nat.lt_of_lt_of_le hOl hb6.size; have o26 := (((Below.refl _ w5).alloc (Nat.le_refl _) (.cells #[.string ⟨s.toArray⟩, .int .i64 n, .slice a' tt.length c'] 52)).cell (p := ⟨O, 2, none⟩) hOl5).trans o25; have HQ1 : Hid (ys.map (·.1) = fs.take (i + 1)) := hym; have HQ2 : Hid (_) := hbq; have HQ3 : Hid (_) := hfq; have HQ4 : Hid ((Y.setCell ⟨O, 2, none⟩ (.slice (some ⟨g', 0, none⟩) (i + 1) d')).ownsRow E0 9 1 (.slice va nI vc) nI (strV ims) ∧ (∀ k, (Value.slice va nI vc).ownBlock = some k → k ≠ O) ∧ Below W2.heap.size W2 (Y.setCell ⟨O, 2, none⟩ (.slice (some ⟨g', 0, none⟩) (i + 1) d'))) := ⟨hvq, HV.out.2.1, hbz⟩; clear hv hb5 hb6 hym hbq hfq hvq hbz; dsimp only))
        all_goals
          go_wp2
          go_roundw
          case rel => exact ⟨i + 1, ys, some ⟨g', 0, none⟩, d', by go_num, by omega, hyl, HQ1, HQ2, HQ3, HQ4⟩
          case measure => simp [intOf]; omega
      · have hie : i = fl := by omega
        have o0 := HBo.out.box.c0
        have o1 := HBo.out.box.c1
        have r0 := br.box.c0
        have r1 := br.box.c1
        have r2 := br.box.c2
        have rf0 := br.fr 0
        have rf1 := br.fr 1
        have rf2 := br.fr 2
        obtain ⟨V, hV, v0, v1, v2, hgV⟩ := set3 (.string ⟨nm.toArray⟩) (.slice va nI vc) (.slice ga i gc) r0 r1 r2
        have hwV : Wrote wr V (fun k => k = R0) := Wrote.of_grown hgV (fun k e => by injection e with e; exact e.symm)
        have hwE : w.heap.size ≤ E0 := by rw [← hE0]; exact HBw.out.size
        have HR1 : Hid (V.ownsRow w.heap.size 9 1 (.slice va nI vc) nI (strV ims)) := own_base (own_wrote HV.out.1 hwV (fun k e h => by have := (HV.out.1.lt k e).1; omega)) hwE
        have HR2 : Hid (FnsOwn V w.heap.size (.slice ga i gc) xs) := FnsOwn.base ⟨own_wrote HFo.out.row hwV (fun k e h => by have := (HFo.out.row.lt k e).1; omega), fun z hz => own_wrote (HFo.out.trees z hz) hwV (fun k e h => by have := ((HFo.out.trees z hz).lt k e).1; omega)⟩ (by omega)
        have HR3 : Hid (Below w.heap.size w V) := hbw.grown hgV hbw.size (fun k e => by injection e with e; omega)
        have HM2 : Hid (xs.map (·.1) = fs) := by exact (by rw [HM.out, List.take_of_length_le (by have := HflE.out; omega)] : xs.map (·.1) = fs)
        clear bp br hbw hgV hwV HFo HM HV HBo hie
        go_wp2
        refine bodyPost_ret (v := .agg #[.string ⟨nm.toArray⟩, .slice va nI vc, .slice ga i gc]) (by simp [results, Tryz.results64, go_sem, v0, v1, v2]) rfl ?_
        have r1 := HR1.out
        have r2 := HR2.out
        have r3 := HR3.out
        rw [hP0] at r1 r2 r3
        first | exact ⟨_, _, rfl, r1, xs, r2, HM2.out, r3⟩ | (rw [HnI.out]; exact ⟨_, _, rfl, r1, xs, r2, HM2.out, r3⟩)

end Go.Proofs.YtkjojhkpoooimaaGreat

/-! Plain facts of chapter 10: what FnOnlyReached tests. Packages that are not reached may have other trees. -/
namespace Go.Proofs.YtkjojhkpoooimaaGreat
open Go.RowKit

def five10 : List Nd := [(1, 5, [], [])]
def bare10 (f : Fn) : Fn := (f.1, f.2.1, five10)
def lessP (r : List (List UInt8)) (p : Pk) : Pk := if p.1 ∈ r then p else (p.1, p.2.1, p.2.2.map bare10)
def lessV (r : List (List UInt8)) (ps : List Pk) : List Pk := ps.map (lessP r)

/-! The order is the same. -/
/-! It is a project still. -/
/-! Nothing is wrong in it. -/
theorem fnsGo_all {ps : List Pk} {p : Pk} : ∀ (fs : List Fn) (k : Nat), (∀ i, i < fs.length → func9 ps p (k + i) = 0) → fnsGo ps p fs k = none
  | [], _, _ => rfl
  | f :: t, k, h => by
    rw [fnsGo, if_neg (fun e => e (by simpa using h 0 (by simp)))]
    exact fnsGo_all t (k + 1) fun i hi => by rw [show k + 1 + i = k + (i + 1) by omega]; exact h (i + 1) (by simpa using hi)
/-! What is reached calls what is reached. -/
def InR (r : List (List UInt8)) (t : List Nd) : Prop := ∀ n ∈ t, n.1 = 8 → n.2.2.1 ∈ r
end Go.Proofs.YtkjojhkpoooimaaGreat

/-! Plain facts of chapter 11: a project whose trees are folded. -/
namespace Go.Proofs.YtkjojhkpoooimaaGreat
open Go.RowKit

def foldF (f : Fn) : Fn := (f.1, f.2.1, foldT f.2.2)
def foldP (p : Pk) : Pk := (p.1, p.2.1, p.2.2.map foldF)
def foldV (ps : List Pk) : List Pk := ps.map foldP
theorem foldF_0 : foldF fn0 = fn0 := rfl
theorem foldP_1 (p : Pk) : (foldP p).1 = p.1 := rfl
theorem foldP_2 (p : Pk) : (foldP p).2.1 = p.2.1 := rfl
theorem foldP_0 : foldP pk0 = pk0 := rfl
theorem foldP_len (p : Pk) : (foldP p).2.2.length = p.2.2.length := by unfold foldP; simp
theorem foldF_getD (fs : List Fn) (k : Nat) : (fs.map foldF).getD k fn0 = foldF (fs.getD k fn0) := by
  by_cases h : k < fs.length
  · simp [List.getD, h]
  · simp [List.getD, List.getElem?_eq_none (Nat.le_of_not_lt h), foldF_0]
theorem foldP_fn (p : Pk) (k : Nat) : ((foldP p).2.2.getD k fn0).1 = (p.2.2.getD k fn0).1 ∧ ((foldP p).2.2.getD k fn0).2.1 = (p.2.2.getD k fn0).2.1 := by
  show ((p.2.2.map foldF).getD k fn0).1 = _ ∧ ((p.2.2.map foldF).getD k fn0).2.1 = _
  rw [foldF_getD]
  exact ⟨rfl, rfl⟩
theorem foldF_at (s : List UInt8) : ∀ (fs : List Fn) (k : Nat), atGo s (fs.map foldF) k = atGo s fs k
  | [], _ => rfl
  | f :: r, k => by
    show (if f.1 = s then (k : Int) else atGo s (r.map foldF) (k + 1)) = if f.1 = s then (k : Int) else atGo s r (k + 1)
    rw [foldF_at s r (k + 1)]
theorem foldP_at (p : Pk) (s : List UInt8) : atV (foldP p).2.2 s = atV p.2.2 s := foldF_at s _ _

theorem fold11_names (ps : List Pk) : names8 (foldV ps) = names8 ps := by
  unfold names8 foldV
  rw [List.map_map]
  exact List.map_congr_left fun p _ => foldP_1 p
theorem fold11_at8Go (s : List UInt8) : ∀ (ps : List Pk) (k : Nat), at8Go s (foldV ps) k = at8Go s ps k
  | [], _ => rfl
  | p :: q, k => by
    show (if (foldP p).1 = s then (k : Int) else at8Go s (foldV q) (k + 1)) = if p.1 = s then (k : Int) else at8Go s q (k + 1)
    rw [foldP_1, fold11_at8Go s q (k + 1)]
theorem fold11_at8 (ps : List Pk) (s : List UInt8) : at8 (foldV ps) s = at8 ps s := fold11_at8Go s ps 0
theorem fold11_getD (ps : List Pk) (i : Nat) : (foldV ps).getD i pk0 = foldP (ps.getD i pk0) := by
  unfold foldV
  by_cases h : i < ps.length
  · simp [List.getD, h]
  · simp [List.getD, List.getElem?_eq_none (Nat.le_of_not_lt h), foldP_0]
theorem fold11_pkOf (ps : List Pk) (s : List UInt8) : pkOf (foldV ps) s = foldP (pkOf ps s) := by
  unfold pkOf
  rw [fold11_at8, fold11_getD]
theorem fold11_len (ps : List Pk) : (foldV ps).length = ps.length := by simp [foldV]

/-! The order is the same. -/
theorem fold11_free (ps : List Pk) (out : List (List UInt8)) (p : Pk) : decide (free8 (foldV ps) out (foldP p)) = decide (free8 ps out p) := by
  apply decide_eq_decide.2
  unfold free8
  rw [foldP_1, foldP_2, fold11_names]
theorem fold11_find (ps : List Pk) (out : List (List UInt8)) : ∀ qs : List Pk, (qs.map foldP).find? (fun p => decide (free8 (foldV ps) out p)) = (qs.find? (fun p => decide (free8 ps out p))).map foldP
  | [] => rfl
  | q :: t => by
    rw [List.map_cons, List.find?_cons, List.find?_cons, fold11_free, fold11_find ps out t]
    cases decide (free8 ps out q) <;> rfl
theorem fold11_next (ps : List Pk) (out : List (List UInt8)) : next8 (foldV ps) out = (next8 ps out).map foldP := fold11_find ps out ps
theorem fold11_orderGo (ps : List Pk) : ∀ (n : Nat) (out : List (List UInt8)), orderGo (foldV ps) n out = orderGo ps n out
  | 0, _ => rfl
  | n + 1, out => by
    rcases h : next8 ps out with _ | p
    · rw [orderGo_none (n + 1) h, orderGo_none (n + 1) (by rw [fold11_next, h]; rfl)]
    · rw [orderGo_some n h, orderGo_some n (p := foldP p) (by rw [fold11_next, h]; rfl), foldP_1]
      exact fold11_orderGo ps n _
theorem fold11_order (ps : List Pk) : order8 (foldV ps) = order8 ps := by
  unfold order8
  rw [fold11_len]
  exact fold11_orderGo ps _ _
theorem fold11_ord9 (ps : List Pk) : ord9 (foldV ps) = ord9 ps := by
  unfold ord9
  rw [fold11_order, fold11_names]

/-! It is a project still. -/
theorem foldF_func {f : Fn} (h : funcB f = true) : funcB (foldF f) = true := by
  unfold funcB at h ⊢
  rw [Bool.and_eq_true, Bool.and_eq_true] at h ⊢
  exact ⟨h.1, h.2.1, (foldT_ok h.2.2).1⟩
theorem fold11_pkg {p : Pk} (h : pkgB p = true) : pkgB (foldP p) = true := by
  unfold foldP
  unfold pkgB at h ⊢
  rw [Bool.and_eq_true, decide_eq_true_eq] at h ⊢
  refine ⟨by simpa using h.1, fun i hi => ?_⟩
  have hi' : i < p.2.2.length := by simpa using hi
  have h1 := h.2 i hi'
  unfold funcsOk at h1 ⊢
  show _ ∧ _
  simp only [foldF_getD]
  exact ⟨foldF_func h1.1, (foldF_at _ _ _).trans h1.2⟩
theorem fold11_proj {ps : List Pk} (h : projB ps = true) : projB (foldV ps) = true := by
  unfold projB at h ⊢
  rw [Bool.and_eq_true, decide_eq_true_eq] at h ⊢
  rw [fold11_len]
  refine ⟨fun i hi => ?_, h.2⟩
  have h1 := h.1 i hi
  unfold pj8 at h1 ⊢
  rw [fold11_getD, fold11_getD, foldP_1, foldP_1]
  exact ⟨fold11_pkg h1.1, h1.2⟩

/-! Nothing is wrong in it. -/
theorem fold11_call (ps : List Pk) (p : Pk) (i : Int) (n : Nd) : call9 (foldV ps) (foldP p) i n = call9 ps p i n := by
  have e1 : farB (foldV ps) (foldP p) n.2.2.1 = farB ps p n.2.2.1 := by unfold farB; rw [foldP_1, foldP_2, fold11_at8]
  have e2 : ofPk (foldV ps) (foldP p) n.2.2.1 = foldP (ofPk ps p n.2.2.1) := by
    unfold ofPk
    rw [foldP_1]
    split
    · rfl
    · rw [fold11_at8, fold11_getD]
  unfold call9
  rw [e1, e2, foldP_at, (foldP_fn _ _).2, foldP_1]
theorem fold11_fnGo (ps : List Pk) (p : Pk) (i : Nat) (f : Fn) : ∀ (t : List Nd) (c : Int), fnGo (foldV ps) (foldP p) i f t c = fnGo ps p i f t c
  | [], _ => rfl
  | n :: t, c => by
    have e : (bad9 (foldV ps) (foldP p) i n) = (bad9 ps p i n) := by unfold bad9; rw [fold11_call]
    rw [fnGo, fnGo, fold11_fnGo ps p i f t]
    simp only [e]
theorem fold11_func {ps : List Pk} {p : Pk} {k : Nat} (hp : pkgB p = true) (hk : k < p.2.2.length) (h : func9 ps p k = 0) : func9 (foldV ps) (foldP p) k = 0 := by
  have h0 := func9_zero h
  have hfb : funcB (p.2.2.getD k fn0) = true := (pkgB_parts hp).2.2.2.2 _ (by simp [List.getD, hk])
  unfold funcB at hfb
  rw [Bool.and_eq_true, Bool.and_eq_true] at hfb
  have hres := (foldT_fo hfb.2.2).res.2.2
  unfold func9
  rw [fold11_fnGo]
  show fnGo ps p k ((p.2.2.map foldF).getD k fn0) ((p.2.2.map foldF).getD k fn0).2.2 0 = 0
  rw [foldF_getD]
  refine (fnGo_val ps p k _ _ 0 (Or.inl rfl)).2.2 ⟨rfl, fun n hn => ?_⟩
  rcases hres n hn with h1 | h1
  · exact h0 n h1
  · refine ⟨fun e => ?_, fun e => by have := e.1; omega⟩
    unfold arg9 at e
    have := e.1
    omega
theorem fold11_pk9 {ps : List Pk} {done i : Nat} {p : Pk} (hpb : pkgB p = true) (h : pk9 ps done i p = none) : pk9 (foldV ps) done i (foldP p) = none := by
  unfold pk9 at h ⊢
  have e : miss9 (foldV ps) (foldP p) = miss9 ps p := by unfold miss9; simp only [foldP_2, fold11_at8]
  simp only [e]
  split at h
  · simp at h
  · rename_i h1
    split at h
    · simp at h
    · rename_i h2
      rw [if_neg h1, if_neg h2]
      refine fnsGo_all _ 0 fun k hk => ?_
      rw [foldP_len] at hk
      have := fnsGo_none _ _ h k hk
      rw [Nat.zero_add] at this ⊢
      exact fold11_func hpb hk this
theorem fold11_fltGo {ps : List Pk} {done : Nat} (hpj : projB ps = true) : ∀ (l : List (List UInt8)) (i : Nat), (∀ x ∈ l, x ∈ names8 ps) → fltGo ps done l i = none → fltGo (foldV ps) done l i = none
  | [], _, _, _ => rfl
  | x :: t, i, hx, h => by
    rw [fltGo] at h ⊢
    rcases hp : pk9 ps done i (pkOf ps x) with _ | g
    · rw [hp] at h
      rw [fold11_pkOf, fold11_pk9 ((projB_parts hpj).2.2 _ (pkOf_mem (hx x List.mem_cons_self)).1) hp]
      exact fold11_fltGo hpj t (i + 1) (fun y hy => hx y (List.mem_cons_of_mem _ hy)) h
    · rw [hp] at h; simp at h
theorem fold11_fault {ps : List Pk} (h : faultV ps = (0, [], [])) : faultV (foldV ps) = (0, [], []) := by
  obtain ⟨_, hp, _, _, _, hm⟩ := faultV_zero (ps := ps) (by rw [h])
  unfold faultV at h ⊢
  rw [hp, if_pos rfl] at h
  rw [fold11_proj hp, if_pos rfl]
  unfold fault9 at h ⊢
  rw [fold11_order, fold11_ord9]
  rcases hf : fltGo ps (order8 ps).length (ord9 ps) 0 with _ | f
  · rw [fold11_fltGo hp _ _ (fun x hx => (ord9_mem hp).1 hx) hf]
    show main9 (foldV ps) = (0, [], [])
    unfold main9
    rw [fold11_at8, fold11_pkOf, foldP_at, (foldP_fn _ _).2, if_pos hm]
  · rw [hf] at h
    have := (fltGo_val (names_ne hp) _ _ (fun x hx => (ord9_mem hp).1 hx) f hf).lo
    simp only at h
    rw [h] at this
    simp at this


/-- What FnFolded tests of a project. -/
theorem folded_law {ps : List Pk} {nm fn : List UInt8} {xs : List Int} (h : (meantV ps nm fn xs 20000).2 = 0 ∨ (meantV ps nm fn xs 20000).2 = 1) : (∀ p ∈ ps, pkgB p = true) ∧ meantV (foldV ps) nm fn xs 20000 = meantV ps nm fn xs 20000 ∧ burntV (foldV ps) nm fn xs 20000 ≤ burntV ps nm fn xs 20000 := by
  by_cases hok : Ok10 ps nm fn xs 20000
  · have hp := (faultV_zero (ps := ps) (by rw [hok.flt])).2.1
    have ef : fnOf10 (foldV ps) nm fn = foldF (fnOf10 ps nm fn) := by
      unfold fnOf10
      rw [fold11_pkOf, foldP_at]
      exact foldF_getD _ _
    have hok2 : Ok10 (foldV ps) nm fn xs 20000 := ⟨fold11_fault hok.flt, by rw [fold11_at8]; exact hok.at8, hok.fuel0, hok.fuel1, by rw [fold11_pkOf, foldP_at]; exact hok.at7, by rw [ef]; exact hok.len, hok.word⟩
    have htree : ∀ {q g : List UInt8}, 0 ≤ at8 ps q → 0 ≤ atV (pkOf ps q).2.2 g → treeB (fnOf10 ps q g).2.2 = true := fun {q g} h8 h7 => by
      have hq : pkOf ps q ∈ ps := by
        rcases at8_is ps q with ⟨e, _⟩ | ⟨i, _, _, _, hm⟩
        · omega
        · exact (pkOf_mem hm).1
      have hk : (atV (pkOf ps q).2.2 g).toNat < (pkOf ps q).2.2.length := by
        rcases at7_is (pkOf ps q).2.2 g with e | ⟨i, hi, e, _⟩
        · omega
        · rw [e, Int.toNat_natCast]; exact hi
      have hfb : funcB (fnOf10 ps q g) = true := (pkgB_parts ((projB_parts hp).2.2 _ hq)).2.2.2.2 _ (by unfold fnOf10; simp [List.getD, hk])
      unfold funcB at hfb
      rw [Bool.and_eq_true, Bool.and_eq_true] at hfb
      exact hfb.2.2
    have hcl : ∀ n : Nd, (0 ≤ at8 ps n.2.2.1 ∧ 0 ≤ atV (pkOf ps n.2.2.1).2.2 n.2.2.2) → Fo (tree10 ps n) (tree10 (foldV ps) n) ∧ ∀ m ∈ tree10 ps n, m.1 = 8 → (0 ≤ at8 ps m.2.2.1 ∧ 0 ≤ atV (pkOf ps m.2.2.1).2.2 m.2.2.2) := fun n hn => by
      have e1 : tree10 ps n = (fnOf10 ps n.2.2.1 n.2.2.2).2.2 := rfl
      have e2 : tree10 (foldV ps) n = foldT (fnOf10 ps n.2.2.1 n.2.2.2).2.2 := by
        unfold tree10 fnOf10
        rw [fold11_pkOf, foldP_at]
        show ((pkOf ps n.2.2.1).2.2.map foldF |>.getD _ fn0).2.2 = _
        rw [foldF_getD]
        rfl
      rw [e1, e2]
      have htr := tr_of hok.flt hn.1 hn.2
      exact ⟨foldT_fo (htree hn.1 hn.2), fun m hm h8 => by have := htr.call m hm h8; exact ⟨this.1, this.2.1⟩⟩
    have htr := tr_of hok.flt hok.at8 hok.at7
    have hle := fold_means (ps' := foldV ps) (fun n => good_of hp _ _) hcl 20001 (foldT_fo (htree hok.at8 hok.at7)) htr.good (fun m hm h8 => by have := htr.call m hm h8; exact ⟨this.1, this.2.1⟩) xs hok.word 20000 (by decide)
    rw [(meant_yes hok).1] at h ⊢
    rw [(meant_yes hok).2, (meant_yes hok2).1, (meant_yes hok2).2]
    have r1 : run10 ps nm fn xs (20000 : Int).toNat = val10 ps 20001 (fnOf10 ps nm fn).2.2 0 xs (20000, 0) := rfl
    have r2 : run10 (foldV ps) nm fn xs (20000 : Int).toNat = val10 (foldV ps) 20001 (foldT (fnOf10 ps nm fn).2.2) 0 xs (20000, 0) := by
      unfold run10
      rw [ef]
      rfl
    rw [r1] at h ⊢
    rw [r2]
    simp only at h
    obtain ⟨h1, h2, h3⟩ := hle (by omega)
    exact ⟨(projB_parts hp).2.2, by rw [h1, h2], by omega⟩
  · rw [(meant_no hok).1] at h
    simp at h

end Go.Proofs.YtkjojhkpoooimaaGreat
