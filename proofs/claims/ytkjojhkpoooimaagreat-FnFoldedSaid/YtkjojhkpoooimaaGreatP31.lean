/-
  Parts of one proof, one behind the other: FoldS5, RegT.
-/
import Derived.Test.YtkjojhkpoooimaaGreatP30
import Derived.Test.YtkjojhkpoooimaaGreatP23
import Derived.Test.YtkjojhkpoooimaaGreatP1
import Derived.Deep.RegionHeld
import Derived.RegionTactic

/-! The contracts of chapter 11's specification: FoldedPackage. -/
namespace Go.Proofs.YtkjojhkpoooimaaGreat
open Go.RowKit

/-- FoldedPackage. -/
def foldPk (p : Pk) : Pk := if pkgB p = true then foldP p else ([], [], [])
theorem fnsV_put11 (zs xs : List FV) (x : FV) (ta : Option Addr) (tc : Nat) (t : List Nd) : (fnsV (zs ++ x :: xs)).set (zs.length * 3 + 2) (.slice ta t.length tc) = fnsV ((zs ++ [((x.1.1, x.1.2.1, t), ta, tc)]) ++ xs) := by
  rw [List.append_assoc, fnsV_append, fnsV_append]
  have hl := fnsV_len zs
  rw [List.set_append_right _ _ (by omega), hl, show zs.length * 3 + 2 - zs.length * 3 = 2 by omega]
  rfl

theorem own_any4 {w : World} {base e size n : Nat} {v : Value} {xs : List Value} (h : w.ownsRow base e size v n xs) : ∃ a c, v = .slice a n c := by
  rcases own_forms h with ⟨rfl, rfl, _⟩ | ⟨g, cp, rfl⟩
  · exact ⟨none, 0, rfl⟩
  · exact ⟨some ⟨g, 0, none⟩, cp, rfl⟩
/-- What l11Package holds: the functions' row at g, zs of them folded. -/
structure Pk11 (w wx : World) (E O g gc : Nat) (nm : List UInt8) (va : Option Addr) (vc : Nat) (ims : List (List UInt8)) (fs : List Fn) (i : Nat) (zs ys : List FV) : Prop where
  box : Bq wx O (.string ⟨nm.toArray⟩) (.slice va ims.length vc) (.slice (some ⟨g, 0, none⟩) fs.length gc)
  fns : FnsOwn wx E (.slice (some ⟨g, 0, none⟩) fs.length gc) (zs ++ ys)
  txt : wx.ownsRow E 9 1 (.slice va ims.length vc) ims.length (strV ims)
  zl : zs.length = i
  zm : zs.map (·.1) = (fs.take i).map foldF
  ym : ys.map (·.1) = fs.drop i
  gO : g < O
  vO : ∀ k, (Value.slice va ims.length vc).ownBlock = some k → k < O
  EO : E ≤ O
  b : Below E w wx
theorem Pk11.len {w wx : World} {E O g gc : Nat} {nm : List UInt8} {va : Option Addr} {vc : Nat} {ims : List (List UInt8)} {fs : List Fn} {i : Nat} {zs ys : List FV} (h : Pk11 w wx E O g gc nm va vc ims fs i zs ys) (hi : i ≤ fs.length) : (zs ++ ys).length = fs.length := by
  have h1 := congrArg List.length h.ym
  rw [List.length_map, List.length_drop] at h1
  rw [List.length_append, h.zl]
  omega
/-- One more is folded. -/
theorem Pk11.step {w wx w5 : World} {E O g gc : Nat} {nm : List UInt8} {va : Option Addr} {vc : Nat} {ims : List (List UInt8)} {fs : List Fn} {i : Nat} {zs ys : List FV} (h : Pk11 w wx E O g gc nm va vc ims fs i zs ys) (hi : i < fs.length) (hE : E ≤ wx.heap.size) (hb : Below wx.heap.size wx w5) {v : Value} (hv : w5.ownsRow wx.heap.size 46 4 v (foldT (fs.getD i fn0).2.2).length (nodesV (foldT (fs.getD i fn0).2.2))) :
    ∃ a' c' ys', v = .slice a' (foldT (fs.getD i fn0).2.2).length c' ∧ (∃ u, w5.cell? ⟨g, i * 3 + 2, none⟩ = some u) ∧ w5.frozen? ⟨g, i * 3 + 2, none⟩ = false ∧ Pk11 w (w5.setCell ⟨g, i * 3 + 2, none⟩ v) E O g gc nm va vc ims fs (i + 1) (zs ++ [(foldF (fs.getD i fn0), a', c')]) ys' := by
  obtain ⟨_, a', c', rfl, _⟩ := own_nodes hv
  have hlen := h.len (Nat.le_of_lt hi)
  obtain ⟨x, ys', rfl⟩ : ∃ x ys', ys = x :: ys' := by
    cases ys with
    | nil =>
      have h1 := congrArg List.length h.ym
      rw [List.length_map, List.length_drop] at h1
      simp at h1
      omega
    | cons x ys' => exact ⟨x, ys', rfl⟩
  have hd : fs.drop i = fs.getD i fn0 :: fs.drop (i + 1) := by
    rw [List.drop_eq_getElem_cons hi]
    simp [List.getD, hi]
  have hym := h.ym
  rw [hd, List.map_cons] at hym
  injection hym with hx hy
  have f5 := h.fns.below hb
  have hrow : w5.ownsRow E 52 3 (.slice (some ⟨g, 0, none⟩) fs.length gc) fs.length (fnsV (zs ++ x :: ys')) := by
    have := f5.row
    rw [hlen] at this
    exact this
  have hst := (hrow.stored (i * 3 + 2) (.slice a' (foldT (fs.getD i fn0).2.2).length c')).1
  have hg := grown_set w5 g (i * 3 + 2) (.slice a' (foldT (fs.getD i fn0).2.2).length c')
  have hput := fnsV_put11 zs ys' x a' c' (foldT (fs.getD i fn0).2.2)
  rw [h.zl] at hput
  have hxe : ((x.1.1, x.1.2.1, foldT (fs.getD i fn0).2.2) : Fn) = foldF (fs.getD i fn0) := by rw [hx]; rfl
  rw [hxe] at hput
  rw [hput] at hst
  have hgl := (hrow.lt g rfl)
  have hlen2 : ((zs ++ [(foldF (fs.getD i fn0), a', c')]) ++ ys').length = fs.length := by
    rw [← hlen]; simp
  obtain ⟨_, _, v2⟩ := fnsV_at (zs ++ x :: ys') i (by rw [hlen]; exact hi)
  have hty : ∀ {v : Value} {n : Nat} {xs : List Value} {b2 : Nat}, w5.ownsRow b2 46 4 v n xs → v.ownBlock = none ∨ v.ownBlock ≠ some g := fun h1 => own_types h1 hrow (by decide)
  refine ⟨a', c', ys', rfl, ⟨_, (hrow.cellAt (i * 3 + 2) (by omega)).trans v2⟩, hrow.frozenAt (i * 3 + 2), ⟨?_, ⟨?_, ?_⟩, ?_, ?_, ?_, hy, h.gO, h.vO, h.EO, ?_⟩⟩
  · exact (h.box.below hb).keep (hg.block O (Nat.lt_of_lt_of_le h.box.box.lt hb.size) (fun e => by injection e with e; have := h.gO; omega))
  · rw [hlen2]
    exact hst
  · intro z hz
    rcases List.mem_append.1 hz with hz | hz
    · rcases List.mem_append.1 hz with hz | hz
      · have h1 := f5.trees z (List.mem_append_left _ hz)
        exact h1.kept hg (hty h1)
      · rw [List.mem_singleton.1 hz]
        exact own_base (hv.kept hg (hty hv)) hE
    · have h1 := f5.trees z (List.mem_append_right _ (List.mem_cons_of_mem _ hz))
      exact h1.kept hg (hty h1)
  · have h1 := own_below h.txt hb
    exact h1.kept hg (own_types h1 hrow (by decide))
  · rw [List.length_append, h.zl]; rfl
  · rw [List.map_append, h.zm, List.take_succ_eq_append_getElem hi, List.map_append]
    simp [List.getD, hi]
  · have h1 : Below E w w5 := h.b.trans (hb.mono hE)
    exact h1.grown hg (Nat.le_trans hE hb.size) (fun k e => by injection e with e; omega)

set_option maxHeartbeats 8000000 in
set_option maxRecDepth 100000 in
theorem specPackage11 (nm : List UInt8) (ia : Option Addr) (il ic : Nat) (fa : Option Addr) (fl fc : Nat) (ims : List (List UInt8)) (fs : List Fn) (w : World) (h : PkOk w nm ia il ic fa fl fc ims fs) (hp : pkgB (nm, ims, fs) = true) :
    Calls Tryz.prog 30 #[.agg #[.string ⟨nm.toArray⟩, .slice ia il ic, .slice fa fl fc]] w fun e w' => ∃ vi vf xs, e = .returned (.agg #[.string ⟨nm.toArray⟩, vi, vf]) ∧ w'.ownsRow w.heap.size 9 1 vi ims.length (strV ims) ∧ FnsOwn w' w.heap.size vf xs ∧ xs.map (·.1) = fs.map foldF ∧ Below w.heap.size w w' := by
  obtain rfl : fs.length = fl := h.f.1
  obtain ⟨_, _, _, ⟨hf1, hf8⟩, hfb⟩ := pkgB_parts hp
  simp only at hf1 hf8 hfb
  obtain ⟨bP, hb1⟩ := Bq.new w (.string ⟨nm.toArray⟩) (.slice ia il ic) (.slice fa fs.length fc) 30
  obtain ⟨W1, hW1⟩ : ∃ W1, w.alloc (.cells #[.string ⟨nm.toArray⟩, .slice ia il ic, .slice fa fs.length fc] 30) = W1 := ⟨_, rfl⟩
  rw [hW1] at bP hb1
  obtain ⟨bR, hb2⟩ := Bq.new W1 (.string ⟨#[]⟩) (.slice none 0 0) (.slice none 0 0) 30
  obtain ⟨W2, hW2⟩ : ∃ W2, W1.alloc (.cells #[.string ⟨#[]⟩, .slice none 0 0, .slice none 0 0] 30) = W2 := ⟨_, rfl⟩
  rw [hW2] at bR hb2
  obtain ⟨P0, hP0⟩ : ∃ P0, w.heap.size = P0 := ⟨_, rfl⟩
  obtain ⟨R0, hR0⟩ : ∃ R0, W1.heap.size = R0 := ⟨_, rfl⟩
  rw [hP0] at bP
  rw [hR0] at bR
  have hPl : P0 < W1.heap.size := bP.box.lt
  have hRl : R0 < W2.heap.size := bR.box.lt
  have hbw : Below w.heap.size w W2 := hb1.trans (hb2.mono hb1.size)
  have HZ : Hid (∀ Y, Below W2.heap.size W2 Y → Bq Y P0 (.string ⟨nm.toArray⟩) (.slice ia il ic) (.slice fa fs.length fc) ∧ Bq Y R0 (.string ⟨#[]⟩) (.slice none 0 0) (.slice none 0 0) ∧ Below w.heap.size w Y) := fun Y hy => ⟨(bP.below hb2).below hy, bR.below hy, hbw.trans (hy.mono hbw.size)⟩
  have HCp : Hid (_) := specCopy7 nm ia il ic fa fs.length fc ims fs W2 (h.below hbw)
  obtain ⟨b0, r0, _⟩ := HZ.out W2 (Below.refl _ _)
  have p0 := b0.box.c0
  have p1 := b0.box.c1
  have p2 := b0.box.c2
  have HTr : Hid (∀ i, i < fs.length → treeB (fs.getD i fn0).2.2 = true) := fun i hi => by
    have hm : fs.getD i fn0 ∈ fs := getD_mem11 hi
    have := hfb _ hm
    unfold funcB at this
    simp only [Bool.and_eq_true] at this
    exact this.2.2
  have HFo : Hid (∀ (Y : World) (i : Nat) (ta : Option Addr) (tl tc : Nat), Below w.heap.size w Y → i < fs.length → NodesIn Y ta tl (fs.getD i fn0).2.2 → Calls Tryz.prog 27 #[.slice ta tl tc, .int .i64 0] Y fun e w' => ∃ v, e = .returned v ∧ w'.ownsRow Y.heap.size 46 4 v (foldT (fs.getD i fn0).2.2).length (nodesV (foldT (fs.getD i fn0).2.2)) ∧ Below Y.heap.size Y w') := fun Y i ta tl tc hy hi hn => by
    have ht := HTr.out i hi
    obtain ⟨hl, ho⟩ := treeB_one.1 ht
    have hf : foldT (fs.getD i fn0).2.2 = fold11 60 (fs.getD i fn0).2.2 0 := by unfold foldT; rw [ht]; rfl
    obtain rfl := hn.1
    have he : 0 ≤ endV (fs.getD i fn0).2.2 ((0 : Nat) : Int) := by rw [endV_sub (post := []) (by simp) ho]; omega
    rw [hf]
    exact specFold Y ta tc _ hn (h.fs i).2.2 ho.good hl 60 Y 0 (Below.refl _ _) he (by omega)
  have HPk : Hid (FuncsIn w fa fs.length fs) := h.f
  have HBw : Hid (Below w.heap.size w W2) := hbw
  clear b0 r0 bP bR hb1 hb2 hbw h hfb hp
  go_enter Tryz.func30, Tryz.ntmps30
  go_wp2_with fail
  refine Calls.mono HCp.out ?_
  rintro e w3 ⟨vi, vf, xs, rfl, hvi, hvf, hxs, hb3⟩
  have hxl : xs.length = fs.length := by rw [← hxs, List.length_map]
  obtain ⟨va, vc, rfl, _, _⟩ := own_texts0 hvi
  have hvf2 := hvf
  rw [show xs = [] ++ xs from rfl] at hvf2
  obtain ⟨g, gc, rfl⟩ := own_some hvf.row (by omega)
  rw [hxl] at hvf hvf2 ⊢
  obtain ⟨bO, hb4⟩ := Bq.new w3 (.string ⟨nm.toArray⟩) (.slice va ims.length vc) (.slice (some ⟨g, 0, none⟩) fs.length gc) 30
  obtain ⟨X, hX⟩ : ∃ X, w3.alloc (.cells #[.string ⟨nm.toArray⟩, .slice va ims.length vc, .slice (some ⟨g, 0, none⟩) fs.length gc] 30) = X := ⟨_, rfl⟩
  rw [hX] at bO hb4
  obtain ⟨O, hO⟩ : ∃ O, w3.heap.size = O := ⟨_, rfl⟩
  rw [hO] at bO
  have hb34 := hb3.trans (hb4.mono hb3.size)
  have HS0 : Hid (Pk11 W2 X W2.heap.size O g gc nm va vc ims fs 0 [] xs) := ⟨bO, hvf2.below hb4, own_below hvi hb4, rfl, by simp, by rw [hxs]; rfl, by rw [← hO]; exact (hvf.row.lt g rfl).2, fun k e => by rw [← hO]; exact (hvi.lt k e).2, by rw [← hO]; exact hb3.size, hb34⟩
  clear hvi hvf hvf2 hxs hb3 hb4 hb34 bO p0 p1 p2 HCp hxl
  obtain ⟨n, hn⟩ : ∃ n, fs.length = n := ⟨_, rfl⟩
  have HN : Hid (fs.length = n) := hn
  obtain ⟨nI, hnI⟩ : ∃ nI, ims.length = nI := ⟨_, rfl⟩
  have HnI : Hid (ims.length = nI) := hnI
  have HOut : Hid (∀ wx i zs ys, Pk11 W2 wx W2.heap.size O g gc nm va vc ims fs i zs ys → wx.cell? ⟨O, 2, none⟩ = some (.slice (some ⟨g, 0, none⟩) n gc) ∧ wx.cell? ⟨O, 0, none⟩ = some (.string ⟨nm.toArray⟩) ∧ wx.cell? ⟨O, 1, none⟩ = some (.slice va nI vc) ∧ O < wx.heap.size) := fun wx i zs ys h => by
    have h1 := h.box.box.c1
    have h2 := h.box.box.c2
    rw [hn] at h2
    rw [hnI] at h1
    exact ⟨h2, h.box.box.c0, h1, h.box.box.lt⟩
  rw [hn] at HZ hf1 hf8 ⊢
  rw [hn] at hX
  rw [hnI] at hX ⊢
  have hnl : (n : Int) ≤ 8 := by omega
  clear hn hnI
  go_wp2
  go_loopw [4] (fun iv wx => ∃ (i : Nat) (zs ys : List FV), iv = .int .i64 (i : Int) ∧ i ≤ n ∧ Hid (Pk11 W2 wx W2.heap.size O g gc nm va vc ims fs i zs ys)) (fun iv _ => n - (intOf iv).toNat)
  case atStart => exact ⟨0, [], xs, rfl, Nat.zero_le _, HS0⟩
  case round =>
    obtain ⟨i, zs, ys, rfl, hi, HSr⟩ := hrel
    clear HS0
    obtain ⟨o2, o0, o1, hOl⟩ := HOut.out _ _ _ _ HSr.out
    obtain ⟨bp, br, hbw⟩ := HZ.out wr HSr.out.b
    have p2 := bp.box.c2
    by_cases hlt : (i : Int) < (n : Int)
    · have hi2 : i < n := by omega
      obtain ⟨b, off, rfl, hbl, c0, c1, ta, tl, tc, c2, htn, hno⟩ := (HPk.out.below hbw).2 i (by rw [HN.out]; exact hi2)
      have hPw : P0 < wr.heap.size := bp.box.lt
      have HCd : Hid (_) := HFo.out wr.drew i ta tl tc ⟨hbw.os, hbw.tape, hbw.output, hbw.size, hbw.block⟩ (by rw [HN.out]; exact hi2) (hno.below ⟨rfl, rfl, rfl, Nat.le_refl _, fun _ _ => rfl⟩)
      have HSt : Hid (∀ w5 v, Below wr.heap.size wr w5 → w5.ownsRow wr.heap.size 46 4 v (foldT (fs.getD i fn0).2.2).length (nodesV (foldT (fs.getD i fn0).2.2)) → ∃ a' l' c' ys' zs', v = .slice a' l' c' ∧ (∃ u, w5.cell? ⟨g, i * 3 + 2, none⟩ = some u) ∧ w5.frozen? ⟨g, i * 3 + 2, none⟩ = false ∧ Pk11 W2 (w5.setCell ⟨g, i * 3 + 2, none⟩ v) W2.heap.size O g gc nm va vc ims fs (i + 1) zs' ys' ∧ w5.cell? ⟨O, 2, none⟩ = some (.slice (some ⟨g, 0, none⟩) n gc) ∧ w5.cell? ⟨P0, 2, none⟩ = some (.slice (some ⟨b, off, none⟩) n fc) ∧ w5.cell? ⟨b, off + i * 3 + 2, none⟩ = some (.slice ta tl tc)) := fun w5 v hb5 hv => by
        obtain ⟨a', c', ys', e, hu, hz, hp⟩ := HSr.out.step (by rw [HN.out]; exact hi2) HSr.out.b.size hb5 hv
        exact ⟨a', _, c', ys', _, e, hu, hz, hp, (hb5.cell (p := ⟨O, 2, none⟩) hOl).trans o2, (hb5.cell (p := ⟨P0, 2, none⟩) hPw).trans p2, (hb5.cell (p := ⟨b, off + i * 3 + 2, none⟩) hbl).trans c2⟩
      clear bp br hbw hno htn HSr c0 c1 o0 o1
      go_wp2_with fail
      go_region_law (first | (go_simp; go_at_call 27; refine Calls.mono HCd.out ?_; rintro e w5 ⟨v, rfl, hv, hb5⟩; have hb6 : Below wr.heap.size wr w5 := ⟨hb5.os, hb5.tape, hb5.output, hb5.size, hb5.block⟩; obtain ⟨a', l', c', ys', zs', rfl, ⟨u, hu⟩, hz, hp, o25, p25, t25⟩ := HSt.out w5 v hb6 hv; have HQ : Hid (_) := hp; clear hv hb5 hb6 hp; dsimp only))
      all_goals
        go_wp2
        go_roundw
        case rel => exact ⟨i + 1, zs', ys', by go_num, by omega, HQ⟩
        case measure => simp [intOf]; omega
    · have hie : i = n := by omega
      have r0 := br.box.c0
      have r1 := br.box.c1
      have r2 := br.box.c2
      have rf0 := br.fr 0
      have rf1 := br.fr 1
      have rf2 := br.fr 2
      obtain ⟨V, hV, v0, v1, v2, hgV⟩ := set3 (.string ⟨nm.toArray⟩) (.slice va nI vc) (.slice (some ⟨g, 0, none⟩) n gc) r0 r1 r2
      have hwV : Wrote wr V (fun k => k = R0) := Wrote.of_grown hgV (fun k e => by injection e with e; exact e.symm)
      have hfx := HSr.out.fns
      have htx := HSr.out.txt
      rw [HN.out] at hfx
      rw [HnI.out] at htx
      have hwE := HBw.out.size
      have HR1 : Hid (V.ownsRow w.heap.size 9 1 (.slice va nI vc) nI (strV ims)) := own_base (own_wrote htx hwV (fun k e h => by have := (htx.lt k e).1; omega)) hwE
      have HR2 : Hid (FnsOwn V w.heap.size (.slice (some ⟨g, 0, none⟩) n gc) (zs ++ ys)) := FnsOwn.base ⟨own_wrote hfx.row hwV (fun k e h => by have := (hfx.row.lt k e).1; omega), fun z hz => own_wrote (hfx.trees z hz) hwV (fun k e h => by have := ((hfx.trees z hz).lt k e).1; omega)⟩ hwE
      have HR3 : Hid (Below w.heap.size w V) := hbw.grown hgV hbw.size (fun k e => by injection e with e; omega)
      have HM2 : Hid ((zs ++ ys).map (·.1) = fs.map foldF) := by
        have h1 := HSr.out.zm
        have h2 := HSr.out.ym
        rw [List.take_of_length_le (by rw [HN.out]; omega)] at h1
        rw [List.drop_eq_nil_of_le (by rw [HN.out]; omega)] at h2
        exact (by rw [List.map_append, h1, h2, List.append_nil] : (zs ++ ys).map (·.1) = fs.map foldF)
      clear bp br hbw hgV hwV HSr hie hfx htx
      go_wp2
      refine bodyPost_ret (v := .agg #[.string ⟨nm.toArray⟩, .slice va nI vc, .slice (some ⟨g, 0, none⟩) n gc]) (by simp [results, Tryz.results30, go_sem, v0, v1, v2]) rfl ?_
      have q1 := HR1.out
      have q2 := HR2.out
      have q3 := HR3.out
      rw [hP0] at q1 q2 q3
      exact ⟨.slice va nI vc, .slice (some ⟨g, 0, none⟩) n gc, rfl, by rw [HnI.out]; exact q1, zs ++ ys, q2, HM2.out, q3⟩

set_option maxHeartbeats 4000000 in
set_option maxRecDepth 100000 in
theorem specFoldedPackage (nm : List UInt8) (ia : Option Addr) (il ic : Nat) (fa : Option Addr) (fl fc : Nat) (ims : List (List UInt8)) (fs : List Fn) (w : World) (h : PkOk w nm ia il ic fa fl fc ims fs) :
    Calls Tryz.prog 12 #[.agg #[.string ⟨nm.toArray⟩, .slice ia il ic, .slice fa fl fc]] w fun e w' => ∃ vi vf xs, e = .returned (.agg #[.string ⟨(foldPk (nm, ims, fs)).1.toArray⟩, vi, vf]) ∧ xs.map (·.1) = (foldPk (nm, ims, fs)).2.2 ∧ w'.ownsRow w.heap.size 9 1 vi (foldPk (nm, ims, fs)).2.1.length (strV (foldPk (nm, ims, fs)).2.1) ∧ FnsOwn w' w.heap.size vf xs ∧ Below w.heap.size w w' := by
  obtain ⟨bP, hb1⟩ := Bq.new w (.string ⟨nm.toArray⟩) (.slice ia il ic) (.slice fa fl fc) 30
  obtain ⟨W1, hW1⟩ : ∃ W1, w.alloc (.cells #[.string ⟨nm.toArray⟩, .slice ia il ic, .slice fa fl fc] 30) = W1 := ⟨_, rfl⟩
  rw [hW1] at bP hb1
  obtain ⟨bR, hb2⟩ := Bq.new W1 (.string ⟨#[]⟩) (.slice none 0 0) (.slice none 0 0) 30
  obtain ⟨W2, hW2⟩ : ∃ W2, W1.alloc (.cells #[.string ⟨#[]⟩, .slice none 0 0, .slice none 0 0] 30) = W2 := ⟨_, rfl⟩
  rw [hW2] at bR hb2
  obtain ⟨P0, hP0⟩ : ∃ P0, w.heap.size = P0 := ⟨_, rfl⟩
  obtain ⟨R0, hR0⟩ : ∃ R0, W1.heap.size = R0 := ⟨_, rfl⟩
  rw [hP0] at bP
  rw [hR0] at bR
  have hPl : P0 < W1.heap.size := bP.box.lt
  have hRl : R0 < W2.heap.size := bR.box.lt
  have hPR : P0 ≤ R0 := by omega
  have hbw : Below w.heap.size w W2 := hb1.trans (hb2.mono hb1.size)
  have HZ : Hid (∀ Y, Below W2.heap.size W2 Y → Bq Y P0 (.string ⟨nm.toArray⟩) (.slice ia il ic) (.slice fa fl fc) ∧ Bq Y R0 (.string ⟨#[]⟩) (.slice none 0 0) (.slice none 0 0) ∧ Below w.heap.size w Y) := fun Y hy => ⟨(bP.below hb2).below hy, bR.below hy, hbw.trans (hy.mono hbw.size)⟩
  have HOk : Hid (_) := specPackageOk nm ia il ic fa fl fc ims fs W2 (h.i.below hbw) (h.f.below hbw) h.il h.fl h.nm h.is h.fs
  have HPk : Hid (∀ Y, Below W2.heap.size W2 Y → PkOk Y nm ia il ic fa fl fc ims fs) := fun Y hy => (h.below hbw).below hy
  obtain ⟨b0, _, _⟩ := HZ.out W2 (Below.refl _ _)
  have p0 := b0.box.c0
  have p1 := b0.box.c1
  have p2 := b0.box.c2
  have hwE := hbw.size
  clear b0 bP bR hb1 hb2 h
  rcases hp : pkgB (nm, ims, fs) with _ | _
  · have hF : foldPk (nm, ims, fs) = ([], [], []) := by unfold foldPk; rw [hp]; rfl
    rw [hF]
    rw [hp] at HOk
    simp only
    clear hF hp hbw
    go_enter Tryz.func12, Tryz.ntmps12
    go_wp2_with fail
    refine Calls.mono HOk.out ?_
    rintro e w3 ⟨rfl, hb3⟩
    obtain ⟨_, br, hbw⟩ := HZ.out w3 hb3
    have r0 := br.box.c0
    have r1 := br.box.c1
    have r2 := br.box.c2
    have rf0 := br.fr 0
    have rf1 := br.fr 1
    have rf2 := br.fr 2
    obtain ⟨V, hV, v0, v1, v2, hgV⟩ := set3 (.string ⟨#[]⟩) (.slice none 0 0) (.slice none 0 0) r0 r1 r2
    have HR1 : Hid (V.ownsRow w.heap.size 9 1 (.slice none 0 0) 0 (strV [])) := World.ownsRow_nil V _ _ _
    have HR2 : Hid (FnsOwn V w.heap.size (.slice none 0 0) []) := FnsOwn.nil V _
    have HR3 : Hid (Below w.heap.size w V) := hbw.grown hgV hbw.size (fun k e => by injection e with e; omega)
    clear hbw hgV br hb3
    go_wp2
    refine bodyPost_ret (v := .agg #[.string ⟨#[]⟩, .slice none 0 0, .slice none 0 0]) (by simp [results, Tryz.results12, go_sem, v0, v1, v2]) rfl ?_
    have q1 := HR1.out
    have q2 := HR2.out
    have q3 := HR3.out
    first | exact ⟨_, _, _, rfl, rfl, q1, q2, q3⟩ | (rw [hP0] at q1 q2 q3; exact ⟨_, _, _, rfl, rfl, q1, q2, q3⟩) | (rw [hP0] at q1 q2 q3; exact ⟨_, _, rfl, [], rfl, q1, q2, q3⟩)
  · have hF : foldPk (nm, ims, fs) = (nm, ims, fs.map foldF) := by unfold foldPk; rw [hp]; rfl
    rw [hF]
    rw [hp] at HOk
    simp only
    have HPp : Hid (pkgB (nm, ims, fs) = true) := hp
    clear hF hp hbw
    go_enter Tryz.func12, Tryz.ntmps12
    go_wp2_with fail
    refine Calls.mono HOk.out ?_
    rintro e w3 ⟨rfl, hb3⟩
    obtain ⟨bp, _, _⟩ := HZ.out w3 hb3
    have y0 := bp.box.c0
    have y1 := bp.box.c1
    have y2 := bp.box.c2
    have HC : Hid (_) := specPackage11 nm ia il ic fa fl fc ims fs w3 (HPk.out w3 hb3) HPp.out
    have HB3 : Hid (Below W2.heap.size W2 w3) := hb3
    clear bp hb3 p0 p1 p2 HOk
    go_wp2_with fail
    refine Calls.mono HC.out ?_
    rintro e w4 ⟨vi, vf, xs, rfl, hvi, hvf, hxs, hb4⟩
    have hb24 := HB3.out.trans (hb4.mono HB3.out.size)
    obtain ⟨_, br, hbw⟩ := HZ.out w4 hb24
    have r0 := br.box.c0
    have r1 := br.box.c1
    have r2 := br.box.c2
    have rf0 := br.fr 0
    have rf1 := br.fr 1
    have rf2 := br.fr 2
    have hb3s := HB3.out.size
    obtain ⟨va, vc, rfl, _, _⟩ := own_texts0 hvi
    obtain ⟨ga, gc, rfl⟩ := own_any4 hvf.row
    obtain ⟨V, hV, v0, v1, v2, hgV⟩ := set3 (.string ⟨nm.toArray⟩) (.slice va ims.length vc) (.slice ga xs.length gc) r0 r1 r2
    have hwV : Wrote w4 V (fun k => k = R0) := Wrote.of_grown hgV (fun k e => by injection e with e; exact e.symm)
    have HR1 : Hid (V.ownsRow w.heap.size 9 1 (.slice va ims.length vc) ims.length (strV ims)) := own_base (own_wrote hvi hwV (fun k e h => by have := (hvi.lt k e).1; omega)) (by omega)
    have HR2 : Hid (FnsOwn V w.heap.size (.slice ga xs.length gc) xs) := FnsOwn.base ⟨own_wrote hvf.row hwV (fun k e h => by have := (hvf.row.lt k e).1; omega), fun z hz => own_wrote (hvf.trees z hz) hwV (fun k e h => by have := ((hvf.trees z hz).lt k e).1; omega)⟩ (by omega)
    have HR3 : Hid (Below w.heap.size w V) := hbw.grown hgV hbw.size (fun k e => by injection e with e; omega)
    have HM : Hid (xs.map (·.1) = fs.map foldF) := hxs
    clear hbw hgV br hb24 hvi hvf hxs hb4 hwV y0 y1 y2 HC
    obtain ⟨nx, hnx⟩ : ∃ nx, xs.length = nx := ⟨_, rfl⟩
    obtain ⟨nI, hnI⟩ : ∃ nI, ims.length = nI := ⟨_, rfl⟩
    rw [hnx] at HR2 hV v2 ⊢
    rw [hnI] at HR1 hV v1 ⊢
    have HnI : Hid (ims.length = nI) := hnI
    clear hnx hnI
    go_wp2
    refine bodyPost_ret (v := .agg #[.string ⟨nm.toArray⟩, .slice va nI vc, .slice ga nx gc]) (by simp [results, Tryz.results12, go_sem, v0, v1, v2]) rfl ?_
    have q1 := HR1.out
    have q2 := HR2.out
    have q3 := HR3.out
    first | exact ⟨.slice va nI vc, .slice ga nx gc, rfl, xs, HM.out, by rw [HnI.out]; exact q1, q2, q3⟩ | exact ⟨.slice va nI vc, .slice ga nx gc, xs, rfl, HM.out, by rw [HnI.out]; exact q1, q2, q3⟩

end Go.Proofs.YtkjojhkpoooimaaGreat

/-! A region that draws its order and stores, at its end, into a cell that it has read: what is held of the world is asked for behind every operation but those of E, which wait for all that is taken first. -/
namespace Go.Proofs.YtkjojhkpoooimaaGreat
open Go.RowKit

section
variable {P : Program} {ops : Array Oper} {Q : Exit → Act → World → Prop} {md : Region.Mode} {S : World → Prop} {E : List Nat}

/-- Whatever comes up next, and so on to the end; S holds behind each that is not of E. -/
def Till (P : Program) (md : Region.Mode) (ops : Array Oper) (Q : Exit → Act → World → Prop) (E : List Nat) (S : World → Prop) : Nat → Array Bool → Act → World → Prop
  | 0 => fun listed a w => Region.ready md ops listed = [] ∧ Q .normal a w
  | k + 1 => fun listed a w => (Region.ready md ops listed = [] → Q .normal a w) ∧
      ∀ i, i ∈ Region.ready md ops listed → wpOp P ops Q i (fun b v => (i ∉ E → S v) ∧ Till P md ops Q E S k (listed.setIfInBounds i true) b v) a w

theorem Till.any : ∀ (k : Nat) {listed : Array Bool} {a : Act} {w : World}, Till P md ops Q E S k listed a w → wpAny P md ops Q k listed a w
  | 0, _, _, _, h => h
  | k + 1, _, _, _, h => ⟨h.1, fun i hi => wpOp_mono (fun _ _ x => Till.any k x.2) (h.2 i hi)⟩
theorem Till.done {listed : Array Bool} {a : Act} {w : World} (hr : Region.ready md ops listed = []) (h : Q .normal a w) : ∀ k, Till P md ops Q E S k listed a w
  | 0 => ⟨hr, h⟩
  | _ + 1 => ⟨fun _ => h, fun i hi => by rw [hr] at hi; cases hi⟩

/-- What has come up has come behind all that it waits for. -/
def Shut11 (md : Region.Mode) (ops : Array Oper) (listed : Array Bool) : Prop := ∀ j o, ops[j]? = some o → listed.getD j false = true → ∀ e ∈ o.after, Region.binds md e = true → listed.getD e.on false = true
theorem Shut11.start (n : Nat) : Shut11 md ops (Array.replicate n false) := fun j o _ h => by
  rw [Array.getD_eq_getD_getElem?] at h
  simp only [Array.getElem?_replicate] at h
  split at h <;> cases h
theorem Shut11.set {listed : Array Bool} {i : Nat} (h : Shut11 md ops listed) (hi : i ∈ Region.ready md ops listed) : Shut11 md ops (listed.setIfInBounds i true) := fun j o ho hj e he hb => by
  refine getD_set_true ?_
  rcases Nat.decEq i j with hne | heq
  · rw [getD_set_ne false hne] at hj
    exact h j o ho hj e he hb
  · subst heq
    obtain ⟨_, p, hp, hall⟩ := mem_ready.1 hi
    rw [ho] at hp
    injection hp with hp
    subst hp
    exact hall e he hb
/-- m waits for i, by way of others. -/
def waitsB (md : Region.Mode) (ops : Array Oper) : Nat → Nat → Nat → Bool
  | 0, _, _ => false
  | k + 1, m, i => match ops[m]? with
    | some o => o.after.any (fun e => Region.binds md e && (e.on == i || waitsB md ops k e.on i))
    | none => false
theorem waits_listed {listed : Array Bool} (h : Shut11 md ops listed) {i : Nat} : ∀ (k m : Nat), (∀ o, ops[m]? = some o → ∀ e ∈ o.after, Region.binds md e = true → listed.getD e.on false = true) → waitsB md ops k m i = true → listed.getD i false = true
  | 0, _, _, hw => by cases hw
  | k + 1, m, hd, hw => by
    unfold waitsB at hw
    cases ho : ops[m]? with
    | none => rw [ho] at hw; cases hw
    | some o =>
      rw [ho] at hw
      simp only [Array.any_eq_true'] at hw
      obtain ⟨e, he, h2⟩ := hw
      rw [Bool.and_eq_true, Bool.or_eq_true] at h2
      have hl := hd o ho e he h2.1
      rcases h2.2 with h3 | h3
      · rw [← beq_iff_eq.1 h3]; exact hl
      · exact waits_listed h k e.on (fun p hp f hf hb => h e.on p hp hl f hf hb) h3

/-- One that may come up, and for which all of E wait, is taken first. -/
theorem Till.first {i : Nat} {o : Oper} {v : Value} {d : Nat} (ho : ops[i]? = some o) (hE : E.all (fun m => waitsB md ops d m i) = true) (hsel : ∀ (j : Nat) (p : Oper) cs b, ops[j]? = some p → p.op ≠ .select cs b)
    (hQ : ∀ c a w, Q (.panic c) (a.put o.dst v) w → Q (.panic c) a w) : ∀ (k : Nat) (listed : Array Bool) (a : Act) (w : World), Shut11 md ops listed →
      (∀ j p, ops[j]? = some p → j ≠ i → listed.getD j true = false → (∀ e ∈ p.after, Region.binds md e = true → e.on ≠ i) → o.apart ops p = true) →
      i ∈ Region.ready md ops listed → YieldsIf P ops S o v a → S w →
      Till P md ops Q E S k (listed.setIfInBounds i true) (a.put o.dst v) w → Till P md ops Q E S (k + 1) listed a w := by
  intro k
  induction k with
  | zero =>
    intro listed a w hsh hfree hr hy hS H
    refine ⟨fun h => (by rw [h] at hr; cases hr), fun j hj => ?_⟩
    rcases Nat.decEq j i with hne | heq
    · have hji : j ∈ Region.ready md ops (listed.setIfInBounds i true) := ready_mono hj hne
      rw [H.1] at hji
      cases hji
    · subst heq
      exact hy.wpOp ho hS ⟨fun _ => hS, H⟩
  | succ k ih =>
    intro listed a w hsh hfree hr hy hS H
    refine ⟨fun h => (by rw [h] at hr; cases hr), fun j hj => ?_⟩
    rcases Nat.decEq j i with hne | heq
    · have hji : j ∈ Region.ready md ops (listed.setIfInBounds i true) := ready_mono hj hne
      obtain ⟨hun, p, hp, hall⟩ := mem_ready.1 hj
      have h0 : listed.getD i true = false := (mem_ready.1 hr).1
      have h0f : listed.getD i false = false := by
        rcases Nat.lt_or_ge i listed.size with hl | hl
        · simp [hl] at h0 ⊢; exact h0
        · simp [Array.getElem?_eq_none hl] at h0
      have hnot : ∀ e ∈ p.after, Region.binds md e = true → e.on ≠ i := fun e he hb hei => by
        have h1 := hall e he hb
        rw [hei, h0f] at h1
        cases h1
      have hjE : j ∉ E := fun hjE => by
        have h1 := waits_listed hsh d j (fun q hq e he hb => by rw [hp] at hq; injection hq with hq; subst hq; exact hall e he hb) (List.all_eq_true.1 hE j hjE)
        rw [h0f] at h1
        cases h1
      have h2 := wpOp_putIf hp (hfree j p hp hne hun hnot) (fun cs b => hsel i o cs b ho) (fun cs b => hsel j p cs b hp) hQ hy (H.2 j hji)
      have hfree' : ∀ q r, ops[q]? = some r → q ≠ i → (listed.setIfInBounds j true).getD q true = false → (∀ e ∈ r.after, Region.binds md e = true → e.on ≠ i) → o.apart ops r = true := fun q r hq hqi hqu hqn => by
        refine hfree q r hq hqi ?_ hqn
        rcases Nat.decEq j q with hjq | hjq
        · rw [getD_set_ne true hjq] at hqu; exact hqu
        · subst hjq; exact hun
      refine wpOp_mono (fun b u h3 => ⟨h3.2.1, ih (listed.setIfInBounds j true) b u (hsh.set hj) hfree' (ready_mono hr (Ne.symm hne)) h3.1 (h3.2.1 hjE) ?_⟩) h2
      rw [Array.setIfInBounds_comm _ _ hne]
      exact h3.2.2
    · subst heq
      exact hy.wpOp ho hS ⟨fun _ => hS, H⟩

/-! The moves of a walk. -/
theorem Till.region {id : Nat} {a : Act} {w : World} (hm : P.follows .mixedOrders = true) (hS : S w.drew) (h : S w.drew → Shut11 .any ops (Array.replicate ops.size false) → Till P .any ops Q E S ops.size (Array.replicate ops.size false) a w.drew) : (Code.region id ops true).wp P Q a w :=
  wp_region_any hm (Till.any _ (h hS (Shut11.start _)))
theorem Till.take {i : Nat} {o : Oper} {v : Value} {d k : Nat} {listed : Array Bool} {a : Act} {w : World} (ho : ops[i]? = some o) (hs : Region.noSelect ops = true) (hf : Region.free md ops listed i = true) (hr : (Region.ready md ops listed).contains i = true) (hE : E.all (fun m => waitsB md ops d m i) = true)
    (hQ : ∀ c a w, Q (.panic c) (a.put o.dst v) w → Q (.panic c) a w) (hy : YieldsIf P ops S o v a) (hS : S w) (hsh : Shut11 md ops listed)
    (h : Shut11 md ops (listed.setIfInBounds i true) → Till P md ops Q E S k (listed.setIfInBounds i true) (a.put o.dst v) w) : Till P md ops Q E S (k + 1) listed a w :=
  Till.first ho hE (Region.noSelect_spec hs) hQ k listed a w hsh (Region.free_spec ho hf) (by simpa using hr) hy hS (h (hsh.set (by simpa using hr)))
theorem Till.one {i : Nat} {o : Oper} {k : Nat} {listed : Array Bool} {a : Act} {w : World} (hr : Region.ready md ops listed = [i]) (ho : ops[i]? = some o) (hsh : Shut11 md ops listed)
    (h : ∀ K' : Act → World → Prop, Shut (∀ b v, S v → (S v → Shut11 md ops (listed.setIfInBounds i true) → Till P md ops Q E S k (listed.setIfInBounds i true) b v) → K' b v) → if Region.wanted o (yielded ops a.tmps) = true then Oper.wp P o a w K' Q else K' (a.put o.dst undef) w) : Till P md ops Q E S (k + 1) listed a w := by
  have hi : i ∈ Region.ready md ops listed := by rw [hr]; exact List.mem_singleton_self i
  refine ⟨fun h0 => (by rw [h0] at hi; cases hi), fun j hj => ?_⟩
  rw [hr] at hj
  obtain rfl := List.mem_singleton.1 hj
  exact wpOp_step ho (fun K' hK => h K' (fun b v hS hW => hK b v ⟨fun _ => hS, hW hS (hsh.set hi)⟩))
theorem Till.last {i : Nat} {o : Oper} {k : Nat} {listed : Array Bool} {a : Act} {w : World} (hr : Region.ready md ops listed = [i]) (ho : ops[i]? = some o) (hiE : i ∈ E)
    (h : ∀ K' : Act → World → Prop, Shut (∀ b v, Till P md ops Q E S k (listed.setIfInBounds i true) b v → K' b v) → if Region.wanted o (yielded ops a.tmps) = true then Oper.wp P o a w K' Q else K' (a.put o.dst undef) w) : Till P md ops Q E S (k + 1) listed a w := by
  have hi : i ∈ Region.ready md ops listed := by rw [hr]; exact List.mem_singleton_self i
  refine ⟨fun h0 => (by rw [h0] at hi; cases hi), fun j hj => ?_⟩
  rw [hr] at hj
  obtain rfl := List.mem_singleton.1 hj
  exact wpOp_step ho (fun K' hK => h K' (fun b v hW => hK b v ⟨fun hn => absurd hiE hn, hW⟩))
end

end Go.Proofs.YtkjojhkpoooimaaGreat
