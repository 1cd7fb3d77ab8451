/-
  Parts of one proof, one behind the other: FoldS4, Math10R, Math11G.
-/
import Derived.Test.YtkjojhkpoooimaaP24
import Derived.Test.YtkjojhkpoooimaaP7
import Derived.Test.YtkjojhkpoooimaaP8
import Derived.Test.YtkjojhkpoooimaaP9
import Derived.Deep.RegionHeld3
import Derived.Deep.Cut
import Derived.Deep.CutRange
import Derived.Deep.RegionLaw
import Derived.Deep.RegionWith
import Derived.Test.YtkjojhkpoooimaaP4
import Derived.Test.YtkjojhkpoooimaaP17

/-! The contract of chapter 7's specification: a package is copied. -/
namespace Go.Proofs.Ytkjojhkpoooimaa
open Go.RowKit

theorem push_fv {X : World} {B : Nat} {v : Value} {xs : List FV} (h : FnsOwn X B v xs) (x : FV) (ht : X.ownsRow B 28 4 (fvT x) x.1.2.2.length (nodesV x.1.2.2)) (hb : B ≤ X.heap.size) (hn : xs.length ≤ 1048576) :
    ∃ v' Y, (Builtin.append_ #[32, 32] 32 #[v, .slice (some ⟨X.heap.size, 0, none⟩) 1 1]).run Try.prog (X.alloc (.cells #[.string ⟨x.1.1.toArray⟩, .int .i64 x.1.2.1, fvT x] 31)) = .ok v' Y ∧ FnsOwn Y B v' (xs ++ [x]) ∧ X.grownBy Y v.ownBlock := by
  obtain ⟨i0, hi, hz0, hz1, hz2⟩ := info_parts infoFunc
  obtain ⟨v', Y, hrun, hown, hg, _⟩ := run_append_src (P := Try.prog) (X.alloc (.cells #[.string ⟨x.1.1.toArray⟩, .int .i64 x.1.2.1, fvT x] 31)) B 32 32 31 i0 _ 3 48 Try.underlying32 hi hz0 hz1 hz2 rfl (by decide) _ _ _ (h.row.alloc _) _ 1 (fnsV [x]) (new_fn X x 1) (by unfold maxLen; omega) (by omega) (by simp; omega)
  refine ⟨v', Y, hrun, ⟨?_, fun z hz => ?_⟩, (World.grownBy_alloc X _ _).trans hg⟩
  · rw [fnsV_append, List.length_append]
    exact hown
  · have hrow := h.row.alloc (.cells #[.string ⟨x.1.1.toArray⟩, .int .i64 x.1.2.1, fvT x] 31)
    rcases List.mem_append.1 hz with h1 | h1
    · have h2 := (h.trees z h1).alloc (.cells #[.string ⟨x.1.1.toArray⟩, .int .i64 x.1.2.1, fvT x] 31)
      exact h2.kept hg (own_types h2 hrow (by decide))
    · rw [List.mem_singleton.1 h1]
      have h2 := ht.alloc (.cells #[.string ⟨x.1.1.toArray⟩, .int .i64 x.1.2.1, fvT x] 31)
      exact h2.kept hg (own_types h2 hrow (by decide))

/-- A block of three cells that can be written. -/
structure Bq (Z : World) (k : Nat) (a b c : Value) : Prop where
  box : Box3 Z k a b c
  fr : ∀ j, Z.frozen? ⟨k, j, none⟩ = false
theorem Bq.new (w : World) (a b c : Value) (t : TypeId) : Bq (w.alloc (.cells #[a, b, c] t)) w.heap.size a b c ∧ Below w.heap.size w (w.alloc (.cells #[a, b, c] t)) := by
  obtain ⟨h1, h2⟩ := Box3.new w a b c t
  exact ⟨⟨h1, fun j => World.frozen?_alloc_at _ _ _ _ rfl⟩, h2⟩
theorem Bq.keep {Z Y : World} {k : Nat} {a b c : Value} (h : Bq Z k a b c) (e : Y.heap[k]? = Z.heap[k]?) : Bq Y k a b c := ⟨h.box.keep e, fun j => by have := h.fr j; simp only [World.frozen?] at this ⊢; rw [e]; exact this⟩
theorem Bq.below {Z Y : World} {k : Nat} {a b c : Value} (h : Bq Z k a b c) (hb : Below Z.heap.size Z Y) : Bq Y k a b c := h.keep (hb.block k h.box.lt)
theorem Bq.s2 {Z : World} {k : Nat} {a b c : Value} (h : Bq Z k a b c) (v : Value) : Bq (Z.setCell ⟨k, 2, none⟩ v) k a b v :=
  ⟨⟨(World.cell?_setCell_other _ _ _ _ (by simp)).trans h.box.c0, (World.cell?_setCell_other _ _ _ _ (by simp)).trans h.box.c1, World.cell?_setCell_same _ _ _ h.box.c2⟩, fun j => by simpa using h.fr j⟩

set_option maxHeartbeats 8000000 in
set_option maxRecDepth 100000 in
theorem specCopy7 (nm : List UInt8) (ia : Option Addr) (il ic : Nat) (fa : Option Addr) (fl fc : Nat) (ims : List (List UInt8)) (fs : List Fn) (w : World) (h : PkOk w nm ia il ic fa fl fc ims fs) :
    Calls Try.prog 83 #[.agg #[.string ⟨nm.toArray⟩, .slice ia il ic, .slice fa fl fc]] w fun e w' => ∃ vi vf xs, e = .returned (.agg #[.string ⟨nm.toArray⟩, vi, vf]) ∧ w'.ownsRow w.heap.size 9 1 vi ims.length (strV ims) ∧ FnsOwn w' w.heap.size vf xs ∧ xs.map (·.1) = fs ∧ Below w.heap.size w w' := by
  obtain ⟨bP, hb1⟩ := Bq.new w (.string ⟨nm.toArray⟩) (.slice ia il ic) (.slice fa fl fc) 35
  obtain ⟨W1, hW1⟩ : ∃ W1, w.alloc (.cells #[.string ⟨nm.toArray⟩, .slice ia il ic, .slice fa fl fc] 35) = W1 := ⟨_, rfl⟩
  rw [hW1] at bP hb1
  obtain ⟨bR, hb2⟩ := Bq.new W1 (.string ⟨#[]⟩) (.slice none 0 0) (.slice none 0 0) 35
  obtain ⟨W2, hW2⟩ : ∃ W2, W1.alloc (.cells #[.string ⟨#[]⟩, .slice none 0 0, .slice none 0 0] 35) = W2 := ⟨_, rfl⟩
  rw [hW2] at bR hb2
  obtain ⟨P0, hP0⟩ : ∃ P0, w.heap.size = P0 := ⟨_, rfl⟩
  obtain ⟨R0, hR0⟩ : ∃ R0, W1.heap.size = R0 := ⟨_, rfl⟩
  rw [hP0] at bP
  rw [hR0] at bR
  have hPl : P0 < W1.heap.size := bP.box.lt
  have hRl : R0 < W2.heap.size := bR.box.lt
  have hbw : Below w.heap.size w W2 := hb1.trans (hb2.mono hb1.size)
  have HZ : Hid (∀ Y, Below W2.heap.size W2 Y → Bq Y P0 (.string ⟨nm.toArray⟩) (.slice ia il ic) (.slice fa fl fc) ∧ Bq Y R0 (.string ⟨#[]⟩) (.slice none 0 0) (.slice none 0 0) ∧ Below w.heap.size w Y) := fun Y hy => ⟨(bP.below hb2).below hy, bR.below hy, hbw.trans (hy.mono hbw.size)⟩
  have HTx : Hid (∀ Y, Below w.heap.size w Y → Calls Try.prog 104 #[.slice ia il ic] Y fun e w' => ∃ v, e = .returned v ∧ w'.ownsRow Y.heap.size 9 1 v ims.length (strV ims) ∧ Below Y.heap.size Y w') := fun Y hy => specTexts ia il ic ims Y (h.i.below hy) h.ic h.il
  have HPk : Hid (PkOk w nm ia il ic fa fl fc ims fs) := h
  have HBw : Hid (Below w.heap.size w W2) := hbw
  obtain ⟨b0, r0, _⟩ := HZ.out W2 (Below.refl _ _)
  have p0 := b0.box.c0
  have p1 := b0.box.c1
  have p2 := b0.box.c2
  -- what lies in 'out' ahead of its functions
  have hb27 : Below W2.heap.size W2 W2.drew := ⟨rfl, rfl, rfl, Nat.le_refl _, fun _ _ => rfl⟩
  obtain ⟨bz, hb28⟩ := Bq.new W2 (.string ⟨#[]⟩) (.slice none 0 0) (.slice none 0 0) 35
  obtain ⟨X8, hX8⟩ : ∃ X8, W2.alloc (.cells #[.string ⟨#[]⟩, .slice none 0 0, .slice none 0 0] 35) = X8 := ⟨_, rfl⟩
  rw [hX8] at bz hb28
  have HB27 : Hid (Below W2.heap.size W2 W2.drew) := hb27
  have HB28 : Hid (Below W2.heap.size W2 X8.drew) := ⟨hb28.os, hb28.tape, hb28.output, hb28.size, hb28.block⟩
  obtain ⟨E0, hE0⟩ : ∃ E0, W2.heap.size = E0 := ⟨_, rfl⟩
  rw [hE0] at bz
  have HZb : Hid (∀ Y, Below X8.heap.size X8 Y → Bq Y E0 (.string ⟨#[]⟩) (.slice none 0 0) (.slice none 0 0)) := fun Y hy => bz.below hy
  obtain ⟨c8, _, _⟩ := HZ.out X8 hb28
  have x80 := c8.box.c0
  have x81 := c8.box.c1
  clear hb27 hb28 bz c8 b0 r0 bP bR hb1 hb2 hbw h
  go_enter Try.func83, Try.ntmps83
  go_upto_region 1 with fail
  go_cut [3] from 5 to 10 (fun ov wx => ∃ (O : Nat) (va : Option Addr) (vc : Nat), ov = .pointer (some ⟨O, 0, none⟩) ∧ E0 ≤ O ∧ Hid (Bq wx O (.string ⟨nm.toArray⟩) (.slice va ims.length vc) (.slice none 0 0) ∧ wx.ownsRow E0 9 1 (.slice va ims.length vc) ims.length (strV ims) ∧ (∀ k, (Value.slice va ims.length vc).ownBlock = some k → k ≠ O) ∧ Below W2.heap.size W2 wx))
  case first =>
    go_region_with (first
      | (go_at_call 104; refine Calls.mono (HTx.out _ (HZ.out _ HB27.out).2.2) ?_; rintro e wn ⟨vi, rfl, hvi, hbn⟩; have HBn : Hid (Below W2.heap.size W2 wn) := HB27.out.trans (hbn.mono HB27.out.size); obtain ⟨va, vc, rfl, _, _⟩ := own_texts0 hvi; clear p0 p1; obtain ⟨bp, _, _⟩ := HZ.out wn HBn.out; have p0 := bp.box.c0; have p1 := bp.box.c1; obtain ⟨bz, hbz⟩ := Bq.new wn (.string ⟨#[]⟩) (.slice none 0 0) (.slice none 0 0) 35; obtain ⟨Q8, hQ8⟩ : ∃ Q8, wn.alloc (.cells #[.string ⟨#[]⟩, .slice none 0 0, .slice none 0 0] 35) = Q8 := ⟨_, rfl⟩; rw [hQ8] at bz hbz; obtain ⟨O, hO⟩ : ∃ O, wn.heap.size = O := ⟨_, rfl⟩; rw [hO] at bz; have z0 := bz.box.c0; have z1 := bz.box.c1; have z2 := bz.box.c2; have zf0 := bz.fr 0; have zf1 := bz.fr 1; have zf2 := bz.fr 2; obtain ⟨U, hU, y0, y1, y2, hgU⟩ := set3 (.string ⟨nm.toArray⟩) (.slice va ims.length vc) (.slice none 0 0) z0 z1 z2; have hEO : E0 ≤ O := (by have := HBn.out.size; omega); have HBQ : Hid (Below W2.heap.size W2 Q8) := HBn.out.trans (hbz.mono HBn.out.size); have HBU : Hid (Below W2.heap.size W2 U) := HBQ.out.grown hgU HBQ.out.size (fun k e => (by injection e with e; omega)); have hvl : ∀ k, (Value.slice va ims.length vc).ownBlock = some k → k < O := (fun k e => (by have := (hvi.lt k e).2; omega)); have HR : Hid (Bq U O (.string ⟨nm.toArray⟩) (.slice va ims.length vc) (.slice none 0 0) ∧ U.ownsRow E0 9 1 (.slice va ims.length vc) ims.length (strV ims) ∧ (∀ k, (Value.slice va ims.length vc).ownBlock = some k → k ≠ O) ∧ Below W2.heap.size W2 U) := ⟨⟨⟨y0, y1, y2⟩, (fun q => (by rw [← hU]; simpa using bz.fr q))⟩, own_base (own_wrote (own_below hvi hbz) (Wrote.of_grown hgU (S := fun k => k = O) (fun k e => (by injection e with e; exact e.symm))) (fun k e h => (by have := hvl k e; omega))) (by rw [← hE0]; exact HB27.out.size), (fun k e => Nat.ne_of_lt (hvl k e)), HBU.out⟩; obtain ⟨qq, _, _⟩ := HZ.out Q8 HBQ.out; have q0 := qq.box.c0; have q1 := qq.box.c1; obtain ⟨uq, _, _⟩ := HZ.out U HBU.out; have u0 := uq.box.c0; have u1 := uq.box.c1; clear hvi hbn bz hbz hgU bp uq qq hvl)
      | (go_at_call 104; refine Calls.mono (HTx.out _ (HZ.out _ HB28.out).2.2) ?_; rintro e wn ⟨vi, rfl, hvi, hbn⟩; have HBn : Hid (Below W2.heap.size W2 wn) := HB28.out.trans (hbn.mono HB28.out.size); obtain ⟨va, vc, rfl, _, _⟩ := own_texts0 hvi; clear p0 p1; obtain ⟨bp, _, _⟩ := HZ.out wn HBn.out; have p0 := bp.box.c0; have p1 := bp.box.c1; have bz := HZb.out wn ⟨hbn.os, hbn.tape, hbn.output, hbn.size, hbn.block⟩; have z0 := bz.box.c0; have z1 := bz.box.c1; have z2 := bz.box.c2; have zf0 := bz.fr 0; have zf1 := bz.fr 1; have zf2 := bz.fr 2; obtain ⟨U, hU, y0, y1, y2, hgU⟩ := set3 (.string ⟨nm.toArray⟩) (.slice va ims.length vc) (.slice none 0 0) z0 z1 z2; have HBU : Hid (Below W2.heap.size W2 U) := HBn.out.grown hgU HBn.out.size (fun k e => (by injection e with e; omega)); have hvl : ∀ k, (Value.slice va ims.length vc).ownBlock = some k → E0 < k := (fun k e => (by have h1 := (hvi.lt k e).1; have h2 : X8.drew.heap.size = X8.heap.size := rfl; have h3 : X8.heap.size = W2.heap.size + 1 := (by rw [← hX8]; simp); omega)); have HR : Hid (Bq U E0 (.string ⟨nm.toArray⟩) (.slice va ims.length vc) (.slice none 0 0) ∧ U.ownsRow E0 9 1 (.slice va ims.length vc) ims.length (strV ims) ∧ (∀ k, (Value.slice va ims.length vc).ownBlock = some k → k ≠ E0) ∧ Below W2.heap.size W2 U) := ⟨⟨⟨y0, y1, y2⟩, (fun q => (by rw [← hU]; simpa using bz.fr q))⟩, own_base (own_wrote hvi (Wrote.of_grown hgU (S := fun k => k = E0) (fun k e => (by injection e with e; exact e.symm))) (fun k e h => (by have := hvl k e; omega))) (by rw [← hE0]; exact HB28.out.size), (fun k e => Nat.ne_of_gt (hvl k e)), HBU.out⟩; obtain ⟨uq, _, _⟩ := HZ.out U HBU.out; have u0 := uq.box.c0; have u1 := uq.box.c1; clear hvi hbn bz hgU bp uq hvl))
    all_goals
      go_wp2_with fail
      go_meet
      case rel => exact ⟨_, va, vc, rfl, by omega, (by first | exact HR.out | exact ⟨HR.out.1.keep rfl, own_none HR.out.2.1 ⟨rfl, rfl, rfl, Nat.le_refl _, fun _ _ _ => rfl⟩, HR.out.2.2.1, HR.out.2.2.2.trans ⟨rfl, rfl, rfl, Nat.le_refl _, fun _ _ => rfl⟩⟩)⟩
  case rest =>
    obtain ⟨O, va, vc, rfl, hEO, HR⟩ := hcut
    have HflE : Hid (fl = fs.length) := HPk.out.f.1.symm
    have hfl6 := HPk.out.fl
    have HF0 : Hid (FnsOwn wc (O + 1) (.slice none 0 0) []) := FnsOwn.nil wc (O + 1)
    obtain ⟨nI, hnI⟩ : ∃ nI, ims.length = nI := ⟨_, rfl⟩
    have HnI : Hid (ims.length = nI) := hnI
    rw [hnI] at HR
    clear p0 p1 p2 x80 x81 HTx HB27 HB28 HZb hnI
    go_wp2
    go_loopw [4] (fun iv wx => ∃ (i : Nat) (xs : List FV) (ga : Option Addr) (gc : Nat), iv = .int .i64 (i : Int) ∧ i ≤ fl ∧ xs.length = i ∧ Hid (xs.map (·.1) = fs.take i) ∧ Hid (Bq wx O (.string ⟨nm.toArray⟩) (.slice va nI vc) (.slice ga i gc)) ∧ Hid (FnsOwn wx (O + 1) (.slice ga i gc) xs) ∧ Hid (wx.ownsRow E0 9 1 (.slice va nI vc) nI (strV ims) ∧ (∀ k, (Value.slice va nI vc).ownBlock = some k → k ≠ O) ∧ Below W2.heap.size W2 wx)) (fun iv _ => fl - (intOf iv).toNat)
    case atStart => exact ⟨0, [], none, 0, rfl, Nat.zero_le _, rfl, rfl, HR.out.1, HF0, ⟨HR.out.2.1, HR.out.2.2.1, HR.out.2.2.2⟩⟩
    case round =>
      obtain ⟨i, xs, ga, gc, rfl, hi, hxl, HM, HBo, HFo, HV⟩ := hrel
      clear HF0 HR
      obtain ⟨bp, br, hbw⟩ := HZ.out wr HV.out.2.2
      have p2 := bp.box.c2
      have o2 := HBo.out.box.c2
      have hOl : O < wr.heap.size := HBo.out.box.lt
      by_cases hlt : (i : Int) < (fl : Int)
      · have hi2 : i < fl := by omega
        obtain ⟨b, off, rfl, hbl, c0, c1, ta, tl, tc, c2, htn, hno⟩ := (HPk.out.f.below hbw).2 i hi2
        have hsm := HPk.out.fs i
        have htk : fs.take (i + 1) = fs.take i ++ [fs.getD i fn0] := by
          have hil : i < fs.length := by have := HflE.out; omega
          have hg : fs.getD i fn0 = fs[i] := by simp [List.getD, hil]
          rw [hg, List.take_succ_eq_append_getElem hil]
        obtain ⟨f, hf⟩ : ∃ f, fs.getD i fn0 = f := ⟨_, rfl⟩
        rw [hf] at c0 c1 hno hsm htk
        obtain ⟨s, n, tt⟩ := f
        simp only at c0 c1 hno hsm
        obtain rfl : tt.length = tl := hno.1
        have HTk : Hid (fs.take (i + 1) = fs.take i ++ [(s, n, tt)]) := htk
        have HCp : Hid (∀ Y, Below wr.heap.size wr Y → Calls Try.prog 105 #[.agg #[.string ⟨s.toArray⟩, .int .i64 n, .slice ta tt.length tc]] Y fun e w' => ∃ v, e = .returned (.agg #[.string ⟨s.toArray⟩, .int .i64 n, v]) ∧ w'.ownsRow Y.heap.size 28 4 v tt.length (nodesV tt) ∧ Below Y.heap.size Y w') := fun Y hy => specCopyFunc (s, n, tt) ta tt.length tc Y (hno.below hy) htn hsm.2.1
        have HSt : Hid (∀ w5 v, Below wr.heap.size wr w5 → w5.ownsRow wr.heap.size 28 4 v tt.length (nodesV tt) → ∃ a' c' g' d' Y, v = .slice a' tt.length c' ∧ (Builtin.append_ #[32, 32] 32 #[.slice ga i gc, .slice (some ⟨w5.heap.size, 0, none⟩) 1 1]).run Try.prog (w5.alloc (.cells #[.string ⟨s.toArray⟩, .int .i64 n, .slice a' tt.length c'] 31)) = .ok (.slice (some ⟨g', 0, none⟩) (i + 1) d') Y ∧ Y.cell? ⟨O, 2, none⟩ = some (.slice ga i gc) ∧ Y.frozen? ⟨O, 2, none⟩ = false ∧ ∃ ys : List FV, ys.length = i + 1 ∧ ys.map (·.1) = fs.take (i + 1) ∧ Bq (Y.setCell ⟨O, 2, none⟩ (.slice (some ⟨g', 0, none⟩) (i + 1) d')) O (.string ⟨nm.toArray⟩) (.slice va nI vc) (.slice (some ⟨g', 0, none⟩) (i + 1) d') ∧ FnsOwn (Y.setCell ⟨O, 2, none⟩ (.slice (some ⟨g', 0, none⟩) (i + 1) d')) (O + 1) (.slice (some ⟨g', 0, none⟩) (i + 1) d') ys ∧ (Y.setCell ⟨O, 2, none⟩ (.slice (some ⟨g', 0, none⟩) (i + 1) d')).ownsRow E0 9 1 (.slice va nI vc) nI (strV ims) ∧ Below W2.heap.size W2 (Y.setCell ⟨O, 2, none⟩ (.slice (some ⟨g', 0, none⟩) (i + 1) d'))) := fun w5 v hb5 hv => by
          obtain ⟨_, a', c', rfl, _⟩ := own_nodes hv
          have hfo := HFo.out.below hb5
          have hs5 := hb5.size
          have hfo2 : FnsOwn w5 (O + 1) (.slice ga xs.length gc) xs := by rw [hxl]; exact hfo
          obtain ⟨v', Y, hr, hfY, hg⟩ := push_fv hfo2 ((s, n, tt), a', c') (own_base hv (by omega)) (by omega) (by omega)
          obtain ⟨g', d', rfl⟩ := own_some hfY.row (by simp)
          have hyl : (xs ++ [((s, n, tt), a', c')]).length = i + 1 := by rw [List.length_append, hxl]; rfl
          rw [hxl] at hr hg
          rw [hyl] at hr hfY
          have hbq5 := HBo.out.below hb5
          have hbY : Bq Y O (.string ⟨nm.toArray⟩) (.slice va nI vc) (.slice ga i gc) := hbq5.keep (hg.block O hbq5.box.lt (fun e => by have := (hfo.row.lt O e.symm).1; omega))
          have hvi5 := own_below HV.out.1 hb5
          have hviY := hvi5.kept hg (own_types hvi5 (by rw [hxl] at hfo2; exact hxl ▸ hfo2.row) (by decide))
          have hwZ : Wrote Y (Y.setCell ⟨O, 2, none⟩ (.slice (some ⟨g', 0, none⟩) (i + 1) d')) (fun k => k = O) := Wrote.of_grown (grown_set Y O 2 _) (fun k e => by injection e with e; exact e.symm)
          have hbw5 : Below W2.heap.size W2 w5 := HV.out.2.2.trans (hb5.mono HV.out.2.2.size)
          have hbwY : Below W2.heap.size W2 Y := hbw5.grown hg hbw5.size (fun k e => by have := (hfo.row.lt k e).1; omega)
          refine ⟨a', c', g', d', Y, rfl, hr, hbY.box.c2, hbY.fr 2, _, hyl, ?_, hbY.s2 _, ⟨?_, fun z hz => ?_⟩, ?_, hbwY.trans (hwZ.below hbwY.size (fun k e => by omega))⟩
          · rw [List.map_append, HM.out, HTk.out]; rfl
          · have := own_wrote hfY.row hwZ (fun k e h => by have := (hfY.row.lt k e).1; omega)
            rw [hyl] at this ⊢
            exact this
          · exact own_wrote (hfY.trees z hz) hwZ (fun k e h => by have := ((hfY.trees z hz).lt k e).1; omega)
          · exact own_wrote hviY hwZ (fun k e h => HV.out.2.1 k e h)
        have hPw : P0 < wr.heap.size := bp.box.lt
        have HCd : Hid (_) := HCp.out wr.drew ⟨rfl, rfl, rfl, Nat.le_refl _, fun _ _ => rfl⟩
        clear bp br hbw hno htn hsm htk hf HFo HM HTk
        go_wp2_with fail
        go_region_law (first | (refine step_append_run (by rfl) (.tmp 19) (.tmp 26) 32 (by rfl) _ _ _ (by rfl) (by rfl) hr ?_) | (go_simp; go_at_call 105; refine Calls.mono HCd.out ?_; rintro e w5 ⟨v, rfl, hv, hb5⟩; have hb6 : Below wr.heap.size wr w5 := ⟨hb5.os, hb5.tape, hb5.output, hb5.size, hb5.block⟩; have o25 := (hb6.cell (p := ⟨O, 2, none⟩) hOl).trans o2; have p25 := (hb6.cell (p := ⟨P0, 2, none⟩) hPw).trans p2; obtain ⟨a', c', g', d', Y, rfl, hr, y2, yf, ys, hyl, hym, hbq, hfq, hvq, hbz⟩ := HSt.out w5 v hb6 hv; have hOl5 : O < w5.heap.size := Nat.lt_of_lt_of_le hOl hb6.size; have o26 := (((Below.refl _ w5).alloc (Nat.le_refl _) (.cells #[.string ⟨s.toArray⟩, .int .i64 n, .slice a' tt.length c'] 31)).cell (p := ⟨O, 2, none⟩) hOl5).trans o25; have HQ1 : Hid (ys.map (·.1) = fs.take (i + 1)) := hym; have HQ2 : Hid (_) := hbq; have HQ3 : Hid (_) := hfq; have HQ4 : Hid ((Y.setCell ⟨O, 2, none⟩ (.slice (some ⟨g', 0, none⟩) (i + 1) d')).ownsRow E0 9 1 (.slice va nI vc) nI (strV ims) ∧ (∀ k, (Value.slice va nI vc).ownBlock = some k → k ≠ O) ∧ Below W2.heap.size W2 (Y.setCell ⟨O, 2, none⟩ (.slice (some ⟨g', 0, none⟩) (i + 1) d'))) := ⟨hvq, HV.out.2.1, hbz⟩; clear hv hb5 hb6 hym hbq hfq hvq hbz; dsimp only))
        all_goals
          go_wp2
          go_roundw
          case rel => exact ⟨i + 1, ys, some ⟨g', 0, none⟩, d', by go_num, by omega, hyl, HQ1, HQ2, HQ3, HQ4⟩
          case measure => simp [intOf]; omega
      · have hie : i = fl := by omega
        have o0 := HBo.out.box.c0
        have o1 := HBo.out.box.c1
        have r0 := br.box.c0
        have r1 := br.box.c1
        have r2 := br.box.c2
        have rf0 := br.fr 0
        have rf1 := br.fr 1
        have rf2 := br.fr 2
        obtain ⟨V, hV, v0, v1, v2, hgV⟩ := set3 (.string ⟨nm.toArray⟩) (.slice va nI vc) (.slice ga i gc) r0 r1 r2
        have hwV : Wrote wr V (fun k => k = R0) := Wrote.of_grown hgV (fun k e => by injection e with e; exact e.symm)
        have hwE : w.heap.size ≤ E0 := by rw [← hE0]; exact HBw.out.size
        have HR1 : Hid (V.ownsRow w.heap.size 9 1 (.slice va nI vc) nI (strV ims)) := own_base (own_wrote HV.out.1 hwV (fun k e h => by have := (HV.out.1.lt k e).1; omega)) hwE
        have HR2 : Hid (FnsOwn V w.heap.size (.slice ga i gc) xs) := FnsOwn.base ⟨own_wrote HFo.out.row hwV (fun k e h => by have := (HFo.out.row.lt k e).1; omega), fun z hz => own_wrote (HFo.out.trees z hz) hwV (fun k e h => by have := ((HFo.out.trees z hz).lt k e).1; omega)⟩ (by omega)
        have HR3 : Hid (Below w.heap.size w V) := hbw.grown hgV hbw.size (fun k e => by injection e with e; omega)
        have HM2 : Hid (xs.map (·.1) = fs) := by exact (by rw [HM.out, List.take_of_length_le (by have := HflE.out; omega)] : xs.map (·.1) = fs)
        clear bp br hbw hgV hwV HFo HM HV HBo hie
        go_wp2
        refine bodyPost_ret (v := .agg #[.string ⟨nm.toArray⟩, .slice va nI vc, .slice ga i gc]) (by simp [results, Try.results83, go_sem, v0, v1, v2]) rfl ?_
        have r1 := HR1.out
        have r2 := HR2.out
        have r3 := HR3.out
        rw [hP0] at r1 r2 r3
        first | exact ⟨_, _, rfl, r1, xs, r2, HM2.out, r3⟩ | (rw [HnI.out]; exact ⟨_, _, rfl, r1, xs, r2, HM2.out, r3⟩)

end Go.Proofs.Ytkjojhkpoooimaa

/-! Plain facts of chapter 10: what FnOnlyReached tests. Packages that are not reached may have other trees. -/
namespace Go.Proofs.Ytkjojhkpoooimaa
open Go.RowKit

def five10 : List Nd := [(1, 5, [], [])]
def bare10 (f : Fn) : Fn := (f.1, f.2.1, five10)
def lessP (r : List (List UInt8)) (p : Pk) : Pk := if p.1 ∈ r then p else (p.1, p.2.1, p.2.2.map bare10)
def lessV (r : List (List UInt8)) (ps : List Pk) : List Pk := ps.map (lessP r)

/-! The order is the same. -/
/-! It is a project still. -/
/-! Nothing is wrong in it. -/
/-! What is reached calls what is reached. -/
def InR (r : List (List UInt8)) (t : List Nd) : Prop := ∀ n ∈ t, n.1 = 8 → n.2.2.1 ∈ r
end Go.Proofs.Ytkjojhkpoooimaa

/-! Plain facts of chapter 11: a project whose trees are folded. -/
namespace Go.Proofs.Ytkjojhkpoooimaa
open Go.RowKit

def foldF (f : Fn) : Fn := (f.1, f.2.1, foldT f.2.2)
def foldP (p : Pk) : Pk := (p.1, p.2.1, p.2.2.map foldF)
def foldV (ps : List Pk) : List Pk := ps.map foldP
theorem foldP_len (p : Pk) : (foldP p).2.2.length = p.2.2.length := by unfold foldP; simp
/-! The order is the same. -/
/-! It is a project still. -/
/-! Nothing is wrong in it. -/
end Go.Proofs.Ytkjojhkpoooimaa
