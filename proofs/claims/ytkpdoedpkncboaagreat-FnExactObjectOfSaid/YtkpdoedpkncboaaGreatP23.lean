/-
  Parts of one proof, one behind the other: Math15O, ObF, RtT, PushR, ObP, ImgA, SortC, ObG, SortF, ObT, RtE, ObH, InsM.
-/
import Derived.Test.YtkpdoedpkncboaaGreatP22
import Derived.Test.YtkpdoedpkncboaaGreatP11
import Derived.Deep.RegionHeld3
import Derived.Test.YtkpdoedpkncboaaGreatP14
import Derived.Lib.Bytealg
import Derived.Laws.Externs
import Derived.Shelf.Abstract
import Derived.Sort.Grow
import Derived.Shelf.GgSortFunc.InsertionK
import Derived.Shelf.SlSortCmp.WholeK
import Derived.Ground.SlsfProg
import Derived.Test.YtkpdoedpkncboaaGreatProg
import Derived.Test.YtkpdoedpkncboaaGreatP4
import Derived.Test.YtkpdoedpkncboaaGreatP5
import Derived.Deep.RegionWith
namespace Go.Proofs.YtkpdoedpkncboaaGreat
open Go.RowKit
def rtF (nm : List UInt8) (f : Fn) : Rt := (nm ++ [46] ++ f.1, f.2.1, za9 f.2.2)
def putN (r : Rt) : List Rt → Nat
 | [] => 0
 | x :: xs => if Op.bytesLess x.1 r.1 = true then putN r xs + 1 else 0
def zdm (r : Rt) (rs : List Rt) : List Rt := rs.take (putN r rs) ++ r :: rs.drop (putN r rs)
def zaA (rs : List Rt) : List Rt := rs.foldl (fun z r => zdm r z) []
theorem zkx (r : Rt) : ∀ rs : List Rt, putN r rs ≤ rs.length
 | [] => Nat.le_refl _
 | x :: xs => by
  unfold putN
  split
  ·
   have := zkx r xs; simp only [List.length_cons]; omega
  ·
   exact Nat.zero_le _
theorem zhG (r : Rt) : ∀ (rs : List Rt) (j : Nat), j < putN r rs → Op.bytesLess (rs.getD j rt0).1 r.1 = true
 | [], j, h => by simp [putN] at h
 | x :: xs, j, h => by
  unfold putN at h
  split at h
  ·
   rename_i hx
   cases j with
   | zero => exact hx
   | succ j => exact zhG r xs j (by omega)
  ·
   omega
theorem zgc (r : Rt) : ∀ rs : List Rt, putN r rs < rs.length → Op.bytesLess (rs.getD (putN r rs) rt0).1 r.1 = false
 | [], h => by simp at h
 | x :: xs, h => by
  unfold putN at h ⊢
  split
  ·
   rename_i hx
   rw [if_pos hx] at h
   exact zgc r xs (by simp only [List.length_cons] at h; omega)
  ·
   rename_i hx
   exact Bool.eq_false_iff.2 hx
theorem zky {r : Rt} {rs : List Rt} {n : Nat} (hn : n ≤ rs.length) (h1 : ∀ j, j < n → Op.bytesLess (rs.getD j rt0).1 r.1 = true) (h2 : n < rs.length → Op.bytesLess (rs.getD n rt0).1 r.1 = false) : putN r rs = n := by
 rcases Nat.lt_trichotomy (putN r rs) n with h | h | h
 ·
  have := zgc r rs (by omega)
  rw [h1 _ h] at this
  cases this
 ·
  exact h
 ·
  have := zhG r rs n h
  rw [h2 (by have := zkx r rs; omega)] at this
  cases this
theorem zjc (r : Rt) (rs : List Rt) : (zdm r rs).Perm (r :: rs) := by
 unfold zdm
 refine List.perm_middle.trans ?_
 rw [List.take_append_drop]
theorem zdZ : ∀ (rs z : List Rt), (rs.foldl (fun z r => zdm r z) z).Perm (z ++ rs)
 | [], z => by simp
 | r :: rs, z => by
  refine (zdZ rs (zdm r z)).trans ?_
  refine ((zjc r z).append_right rs).trans ?_
  exact List.perm_middle.symm
theorem zbM (rs : List Rt) : (zaA rs).Perm rs := zdZ rs []
theorem zfJ (rs : List Rt) : (zaA rs).length = rs.length := (zbM rs).length_eq
theorem zhD (rs : List Rt) (k : Nat) (hk : k < rs.length) : zaA (rs.take (k + 1)) = zdm (rs.getD k rt0) (zaA (rs.take k)) := by
 unfold zaA
 rw [List.take_succ_eq_append_getElem hk, List.foldl_append, List.getD_eq_getElem?_getD, List.getElem?_eq_getElem hk]
 rfl
abbrev zfm (rs : List Rt) : Prop := rs.Pairwise fun a b => Op.bytesLess b.1 a.1 = false
theorem lt8_not {x y : List UInt8} (h : Op.bytesLess x y = true) : Op.bytesLess y x = false := by
 rcases e : Op.bytesLess y x with _ | _
 ·
  rfl
 ·
  have := zdv h e
  rw [zhT] at this
  cases this
theorem zfQ {x y z : List UInt8} (h1 : Op.bytesLess y x = false) (h2 : Op.bytesLess z y = false) : Op.bytesLess z x = false := by
 rcases e : Op.bytesLess z x with _ | _
 ·
  rfl
 ·
  rcases e2 : Op.bytesLess x y with _ | _
  ·
   have hxy := zhS e2 h1
   rw [hxy, h2] at e
   cases e
  ·
   rw [zdv e e2] at h2
   cases h2
theorem zjb {r : Rt} {rs : List Rt} (h : zfm rs) : zfm (zdm r rs) := by
 have ht : zfm (rs.take (putN r rs)) := h.sublist (List.take_sublist _ _)
 have hd : zfm (rs.drop (putN r rs)) := h.sublist (List.drop_sublist _ _)
 have h12 : ∀ a ∈ rs.take (putN r rs), ∀ b ∈ rs.drop (putN r rs), Op.bytesLess b.1 a.1 = false := by
  have h' := h
  rw [← List.take_append_drop (putN r rs) rs] at h'
  exact (List.pairwise_append.1 h').2.2
 have hl : ∀ a ∈ rs.take (putN r rs), Op.bytesLess a.1 r.1 = true := fun a ha => by
  obtain ⟨j, hj, rfl⟩ := List.mem_iff_getElem.1 ha
  rw [List.length_take] at hj
  have := zhG r rs j (by omega)
  rw [List.getD_eq_getElem?_getD, List.getElem?_eq_getElem (by omega)] at this
  rw [List.getElem_take]
  exact this
 have hg : ∀ b ∈ rs.drop (putN r rs), Op.bytesLess b.1 r.1 = false := fun b hb => by
  obtain ⟨j, hj, rfl⟩ := List.mem_iff_getElem.1 hb
  rw [List.length_drop] at hj
  have he := zgc r rs (by omega)
  rw [List.getElem_drop]
  rw [List.getD_eq_getElem?_getD, List.getElem?_eq_getElem (by omega)] at he
  simp only [Option.getD_some] at he
  cases j with
  | zero => exact he
  | succ j =>
   have hp := List.pairwise_iff_getElem.1 h (putN r rs) (putN r rs + (j + 1)) (by omega) (by omega) (by omega)
   exact zfQ he hp
 unfold zdm
 refine List.pairwise_append.2 ⟨ht, List.pairwise_cons.2 ⟨fun b hb => hg b hb, hd⟩, fun a ha b hb => ?_⟩
 rcases List.mem_cons.1 hb with rfl | hb
 ·
  exact lt8_not (hl a ha)
 ·
  exact h12 a ha b hb
theorem zdY : ∀ (rs z : List Rt), zfm z → zfm (rs.foldl (fun z r => zdm r z) z)
 | [], _, h => h
 | r :: rs, z, h => zdY rs (zdm r z) (zjb h)
theorem zhE (rs : List Rt) : zfm (zaA rs) := zdY rs [] List.Pairwise.nil
theorem zkm {rs zs : List Rt} (hn : ∀ a ∈ rs, ∀ b ∈ rs, a.1 = b.1 → a = b) (hp : zs.Perm rs) (hs : zfm zs) : zs = zaA rs := by
 refine List.Perm.eq_of_pairwise (le := fun a b : Rt => Op.bytesLess b.1 a.1 = false) (fun a b ha hb h1 h2 => ?_) hs (zhE rs) (hp.trans (zbM rs).symm)
 exact hn a (hp.mem_iff.1 ha) b ((zbM rs).mem_iff.1 hb) (zhS h2 h1)
theorem zkA {p : Pk} (h : pkgB p = true) : ∀ i j, i < p.2.2.length → j < p.2.2.length → (p.2.2.getD i fn0).1 = (p.2.2.getD j fn0).1 → i = j := fun i j hi hj e => by
 unfold pkgB at h
 rw [Bool.and_eq_true] at h
 have hq := of_decide_eq_true h.2
 have h1 := (hq i hi).2
 have h2 := (hq j hj).2
 rw [e, h2] at h1
 omega
theorem rts_once {nm : List UInt8} {fs : List Fn} (h : ∀ i j, i < fs.length → j < fs.length → (fs.getD i fn0).1 = (fs.getD j fn0).1 → i = j) : ∀ a ∈ fs.map (rtF nm), ∀ b ∈ fs.map (rtF nm), a.1 = b.1 → a = b := by
 intro a ha b hb e
 obtain ⟨i, hi, rfl⟩ := List.mem_iff_getElem.1 ha
 obtain ⟨j, hj, rfl⟩ := List.mem_iff_getElem.1 hb
 rw [List.length_map] at hi hj
 simp only [List.getElem_map] at e ⊢
 unfold rtF at e
 have he : (fs[i]).1 = (fs[j]).1 := List.append_cancel_left e
 have := h i j hi hj (by rw [List.getD_eq_getElem?_getD, List.getElem?_eq_getElem hi, List.getD_eq_getElem?_getD, List.getElem?_eq_getElem hj]; exact he)
 subst this
 rfl
def obOf (q : Pk) : Ob := (q.1, q.2.1, zaA (q.2.2.map (rtF q.1)))
def zbQ (q : Pk) : Ob := if objB (obOf q) = true then obOf q else ob0
theorem zkI : zbQ ([], [], []) = ob0 := by
 unfold zbQ
 rw [if_neg]
 rw [zkH (by simp [obOf, zaA])]
 simp
set_option maxHeartbeats 2000000 in
set_option maxRecDepth 100000 in
theorem zgt (nm s : List UInt8) (n : Int) (t : List Nd) (ta : Option Addr) (tl tc : Nat) (w : World) (hin : za4 w ta tl t) (hint : IntT t) (hsh : zam t) (hlen : tl ≤ 1048576) (hcap : tl ≤ tc) (hmax : tc ≤ maxLen) (hnm : nm.length ≤ 1048576) (hs : s.length ≤ 1048576) :
 Calls Tryz.prog 20 #[.string ⟨nm.toArray⟩, .agg #[.string ⟨s.toArray⟩, .int .i64 n, .slice ta tl tc]] w fun e w' => ∃ a c, e = .returned (.agg #[.string ⟨(nm ++ [46] ++ s).toArray⟩, .int .i64 n, .slice a (za9 t).length c]) ∧ w'.ownsRow w.heap.size 88 5 (.slice a (za9 t).length c) (za9 t).length (insV (za9 t)) ∧ Below w.heap.size w w' := by
 have HSH : Hid (IntT t ∧ zam t ∧ tl ≤ 1048576 ∧ tl ≤ tc ∧ tc ≤ maxLen) := ⟨hint, hsh, hlen, hcap, hmax⟩
 have hadd1 : ∀ V : World, (Op.stringOp .add ⟨nm.toArray⟩ ⟨#[46]⟩).run Tryz.prog V = .ok (.string ⟨(nm ++ [46]).toArray⟩) V := fun V => run_string_add_lists (P := Tryz.prog) V nm [46] (by omega) (by simp)
 have hadd2 : ∀ V : World, (Op.stringOp .add ⟨(nm ++ [46]).toArray⟩ ⟨s.toArray⟩).run Tryz.prog V = .ok (.string ⟨(nm ++ [46] ++ s).toArray⟩) V := fun V => run_string_add_lists (P := Tryz.prog) V (nm ++ [46]) s (by simp; omega) (by omega)
 generalize nm ++ [46] ++ s = nmA at hadd2 ⊢
 generalize nm ++ [46] = nmB at hadd1 hadd2
 obtain ⟨W1, hW1⟩ : ∃ W, w.alloc (.cells #[.string ⟨s.toArray⟩, .int .i64 n, .slice ta tl tc] 48) = W := ⟨_, rfl⟩
 obtain ⟨W2, hW2⟩ : ∃ W, W1.alloc (.cells #[.string ⟨#[]⟩, .int .i64 0, .slice none 0 0] 51) = W := ⟨_, rfl⟩
 obtain ⟨b1, hb1⟩ := Box3.new w (.string ⟨s.toArray⟩) (.int .i64 n) (.slice ta tl tc) 48
 rw [hW1] at b1 hb1
 obtain ⟨b2, hb2⟩ := Box3.new W1 (.string ⟨#[]⟩) (.int .i64 0) (.slice none 0 0) 51
 rw [hW2] at b2 hb2
 have hs1 : W1.heap.size = w.heap.size + 1 := by rw [← hW1]; simp
 have hs2 : W2.heap.size = w.heap.size + 2 := by rw [← hW2]; simp [hs1]
 have hA2 : W2.heap[w.heap.size + 1]? = some (.cells #[.string ⟨#[]⟩, .int .i64 0, .slice none 0 0] 51) := by rw [← hs1, ← hW2]; exact heap_alloc_new W1 _
 have hfr : ∀ j, W2.frozen? ⟨w.heap.size + 1, j, none⟩ = false := fun j => by simp [World.frozen?, hA2]
 have hB : Below w.heap.size w W2 := hb1.trans (hb2.mono hb1.size)
 rw [hs1] at b2
 obtain ⟨D, hD⟩ : ∃ D, w.heap.size = D := ⟨_, rfl⟩
 rw [hD] at hs1 hs2
 have st : CfSt w W2 D s n ta tl tc t := by
  rw [← hD]
  exact ⟨b1.below hb2, hin.below hB, b2, hfr, hB, by omega⟩
 clear b1 b2 hb1 hb2 hA2 hfr hB hin hsh hint hlen hcap hmax
 have d0 := st.b.c0
 have d1 := st.b.c1
 have d2 := st.b.c2
 have r0 := st.r.c0
 have r1 := st.r.c1
 have r2 := st.r.c2
 have f0 := st.fr 0
 have f1 := st.fr 1
 have f2 := st.fr 2
 obtain ⟨cl, hcl⟩ : ∃ cl, (za9 t).length = cl := ⟨_, rfl⟩
 have HCl : Hid ((za9 t).length = cl) := hcl
 rw [hcl]
 clear hcl
 go_enter Tryz.func20, Tryz.ntmps20
 go_upto_region 1 with fail
 replace st := st.drew
 go_region_held3 (fun w' => w'.cell? ⟨D, 0, none⟩ = some (.string ⟨s.toArray⟩) ∧ w'.cell? ⟨D, 1, none⟩ = some (.int .i64 n) ∧ w'.cell? ⟨D, 2, none⟩ = some (.slice ta tl tc)) (go_keep) (first | (go_at_call 45; refine (zhe ta tl tc t _ st.n HSH.out.1 HSH.out.2.1 HSH.out.2.2.1 HSH.out.2.2.2.1 HSH.out.2.2.2.2).mono ?_; rintro e wn ⟨v, rfl, hown, hbn⟩; rw [HCl.out] at hown; obtain ⟨av, cv, rfl⟩ := zaE hown; replace hown := zaj hown st.hs; replace st := st.below hbn; replace d0 := st.b.c0; replace d1 := st.b.c1; replace d2 := st.b.c2; replace r0 := st.r.c0; replace r1 := st.r.c1; replace r2 := st.r.c2; replace f0 := st.fr 0; replace f1 := st.fr 1; replace f2 := st.fr 2; clear hbn))
 all_goals
  have HOwn : Hid (wn.ownsRow (D + 2) 88 5 (.slice av cl cv) cl (insV (za9 t))) := hown
  have HBd : Hid (Below D w wn) := st.h
  have hsd : D + 2 ≤ wn.heap.size := st.hs
  clear hown
  go_wp2
  obtain ⟨Y, hY, y0, y1, y2, hg⟩ := set3 (.string ⟨nmA.toArray⟩) (.int .i64 n) (.slice av cl cv) r0 r1 r2
  rw [hY]
  refine bodyPost_ret (v := .agg #[.string ⟨nmA.toArray⟩, .int .i64 n, .slice av cl cv]) (by simp [results, Tryz.results20, go_sem, y0, y1, y2]) rfl ?_
  exact ⟨_, _, rfl, by rw [hD]; exact zaj (HOwn.out.kept hg (zcs HOwn.out (by omega))) (by omega), by rw [hD]; exact (HBd.out).grown hg (by omega) (fun k e => by injection e with e; omega)⟩
theorem rtsV_set (xs : List RV) (j : Nat) (y : RV) : (((rtsV xs).set (j * 3) (.string ⟨y.1.1.toArray⟩)).set (j * 3 + 1) (.int .i64 y.1.2.1)).set (j * 3 + 2) (rvT y) = rtsV (xs.set j y) := by
 induction xs generalizing j with
 | nil => simp [rtsV]
 | cons b r ih =>
  cases j with
  | zero => simp [rtsV]
  | succ j => rw [show (j + 1) * 3 = j * 3 + 1 + 1 + 1 by omega]; simp [rtsV, ih]
theorem push_rv {X : World} {B : Nat} {v : Value} {xs : List RV} (h : za6 X B v xs) (x : RV) (ht : X.ownsRow B 88 5 (rvT x) x.1.2.2.length (insV x.1.2.2)) (hb : B ≤ X.heap.size) (hn : xs.length ≤ 1048576) :
 ∃ v' Y, (Builtin.append_ #[27, 27] 27 #[v, .slice (some ⟨X.heap.size, 0, none⟩) 1 1]).run Tryz.prog (X.alloc (.cells #[.string ⟨x.1.1.toArray⟩, .int .i64 x.1.2.1, rvT x] 51)) = .ok v' Y ∧ za6 Y B v' (xs ++ [x]) ∧ X.grownBy Y v.ownBlock := by
 obtain ⟨i0, hi, hz0, hz1, hz2⟩ := info_parts zlf
 obtain ⟨v', Y, hrun, hown, hg, _⟩ := zaS (P := Tryz.prog) (X.alloc (.cells #[.string ⟨x.1.1.toArray⟩, .int .i64 x.1.2.1, rvT x] 51)) B 27 27 51 i0 _ 3 48 Tryz.underlying27 hi hz0 hz1 hz2 rfl (by decide) _ _ _ (h.row.alloc _) _ 1 (rtsV [x]) (new_rt X x 1) (by unfold maxLen; omega) (by omega) (by simp; omega)
 refine ⟨v', Y, hrun, ⟨?_, fun z hz => ?_⟩, (World.grownBy_alloc X _ _).trans hg⟩
 ·
  rw [zeu, List.length_append]
  exact hown
 ·
  have hrow := h.row.alloc (.cells #[.string ⟨x.1.1.toArray⟩, .int .i64 x.1.2.1, rvT x] 51)
  rcases List.mem_append.1 hz with h1 | h1
  ·
   have h2 := (h.trees z h1).alloc (.cells #[.string ⟨x.1.1.toArray⟩, .int .i64 x.1.2.1, rvT x] 51)
   exact h2.kept hg (zaK h2 hrow (by decide))
  ·
   rw [List.mem_singleton.1 h1]
   have h2 := ht.alloc (.cells #[.string ⟨x.1.1.toArray⟩, .int .i64 x.1.2.1, rvT x] 51)
   exact h2.kept hg (zaK h2 hrow (by decide))
structure So15 (X0 X : World) (S O : Nat) (nm : List UInt8) (vi vf : Value) (ra : Option Addr) (rl rc : Nat) (ys : List RV) : Prop where
 s : Bq X S (.string ⟨nm.toArray⟩) vi vf
 o : Bq X O (.string ⟨nm.toArray⟩) vi (.slice ra rl rc)
 rts : za6 X (O + 1) (.slice ra rl rc) ys
 ap : zbm (ys.map rvT)
 gl : ys.length = rl
 so : S < O
 es : X0.heap.size ≤ S
 b : Below X0.heap.size X0 X
section
variable {X0 X Y : World} {S O : Nat} {nm : List UInt8} {vi vf : Value} {ra : Option Addr} {rl rc : Nat} {ys : List RV}
theorem So15.below (h : So15 X0 X S O nm vi vf ra rl rc ys) (hb : Below X.heap.size X Y) : So15 X0 Y S O nm vi vf ra rl rc ys :=
 ⟨h.s.below hb, h.o.below hb, h.rts.below hb, h.ap, h.gl, h.so, h.es, h.b.trans (hb.mono h.b.size)⟩
theorem So15.push (h : So15 X0 X S O nm vi vf ra rl rc ys) (x : RV) (ht : X.ownsRow (O + 1) 88 5 (rvT x) x.1.2.2.length (insV x.1.2.2)) (hap : ∀ z ∈ ys, (rvT z).ownBlock = none ∨ (rvT z).ownBlock ≠ (rvT x).ownBlock) (hl : rl ≤ 1048576) :
 ∃ g' c' Y, (Builtin.append_ #[27, 27] 27 #[.slice ra rl rc, .slice (some ⟨X.heap.size, 0, none⟩) 1 1]).run Tryz.prog (X.alloc (.cells #[.string ⟨x.1.1.toArray⟩, .int .i64 x.1.2.1, rvT x] 51)) = .ok (.slice (some ⟨g', 0, none⟩) (rl + 1) c') Y ∧ Y.cell? ⟨O, 2, none⟩ = some (.slice ra rl rc) ∧ Y.frozen? ⟨O, 2, none⟩ = false ∧ So15 X0 (Y.setCell ⟨O, 2, none⟩ (.slice (some ⟨g', 0, none⟩) (rl + 1) c')) S O nm vi vf (some ⟨g', 0, none⟩) (rl + 1) c' (ys ++ [x]) := by
 have hsl := h.o.box.lt
 have hSO := h.so
 have hE := h.es
 obtain ⟨v', Y, hr, ho, hg⟩ := push_rv h.rts x ht (by omega : O + 1 ≤ X.heap.size) (by rw [h.gl]; exact hl)
 have hlen : (ys ++ [x]).length = rl + 1 := by rw [List.length_append, h.gl]; rfl
 obtain ⟨g', c', rfl⟩ := zag ho.row (by omega)
 rw [hlen] at hr ho
 have hrow : X.ownsRow (O + 1) 51 3 (.slice ra rl rc) rl (rtsV ys) := by have := h.rts.row; rw [h.gl] at this; exact this
 have hbO : Bq Y O (.string ⟨nm.toArray⟩) vi (.slice ra rl rc) := h.o.keep (hg.block O hsl (fun e => by have := (hrow.lt O e.symm).1; omega))
 have hbS : Bq Y S (.string ⟨nm.toArray⟩) vi vf := h.s.keep (hg.block S (by omega) (fun e => by have := (hrow.lt S e.symm).1; omega))
 have hbb : Below X0.heap.size X0 Y := h.b.grown hg h.b.size (fun k e => by have := (hrow.lt k e).1; omega)
 have hg2 := zaC Y O 2 (.slice (some ⟨g', 0, none⟩) (rl + 1) c')
 refine ⟨g', c', Y, hr, hbO.box.c2, hbO.fr 2, hbS.keep (hg2.block S hbS.box.lt (fun e => by injection e with e; omega)), hbO.s2 _, ⟨zaz ho.row (Nat.lt_succ_self _) hg2, fun x hx => zaz (ho.trees x hx) (Nat.lt_succ_self _) hg2⟩, ?_, hlen, hSO, hE, hbb.grown hg2 hbb.size (fun k e => by injection e with e; omega)⟩
 rw [List.map_append]
 refine zbm.snoc h.ap (fun v hv => ?_)
 obtain ⟨z, hz, rfl⟩ := List.mem_map.1 hv
 exact hap z hz
end
theorem zgD : ∀ (a b : List UInt8), (Lib.compareBytes a b < 0 ↔ Op.bytesLess a b = true) ∧ (Lib.compareBytes a b = 0 ↔ a = b)
 | [], [] => by simp [Lib.compareBytes, Op.bytesLess]
 | [], _ :: _ => by simp [Lib.compareBytes, Op.bytesLess]
 | _ :: _, [] => by simp [Lib.compareBytes, Op.bytesLess]
 | a :: x, b :: y => by
  have ih := zgD x y
  unfold Lib.compareBytes Op.bytesLess
  by_cases h1 : a < b
  ·
   have hne : a ≠ b := fun e => by subst e; exact UInt8.lt_irrefl _ h1
   simp [h1, hne]
  ·
   by_cases h2 : b < a
   ·
    have hne : a ≠ b := fun e => by subst e; exact UInt8.lt_irrefl _ h2
    simp [h1, h2, hne]
   ·
    have e : a = b := by
     rw [UInt8.lt_iff_toNat_lt] at h1 h2
     exact UInt8.toNat_inj.1 (by omega)
    subst e
    simp only [h1, if_false, decide_false, Bool.false_or, beq_self_eq_true, Bool.true_and, List.cons.injEq, true_and]
    exact ih
set_option maxHeartbeats 1000000 in
set_option maxRecDepth 100000 in
theorem zhf (a b : List UInt8) (w : World) :
 Calls Tryz.prog 85 #[.string ⟨a.toArray⟩, .string ⟨b.toArray⟩] w fun e w' => e = .returned (.int .i64 (Lib.compareBytes a b)) ∧ w' = w := by
 go_enter Tryz.func85, Tryz.ntmps85
 go_wp2
 rw [run_callFunc_extern Tryz.func127 (by kernel_rfl) (by kernel_rfl) (by kernel_rfl) (e := Extern.BytealgCompare.compare) (by kernel_rfl), Lib.run_compareString]
 simp only [Result.andThen]
 rw [Oper.upon_value]
 go_wp2
 go_ret
 exact ⟨rfl, rfl⟩
set_option maxHeartbeats 1000000 in
set_option maxRecDepth 100000 in
theorem zi1 (a b : List UInt8) (w : World) :
 Calls Tryz.prog 48 #[.string ⟨a.toArray⟩, .string ⟨b.toArray⟩] w fun e w' => e = .returned (.int .i64 (Lib.compareBytes a b)) ∧ w' = w := by
 go_enter Tryz.func48, Tryz.ntmps48
 go_wp2_with (go_at_call 85; refine (zhf a b _).mono ?_; rintro e w' ⟨rfl, rfl⟩)
 go_ret
 exact ⟨rfl, rfl⟩
set_option maxHeartbeats 2000000 in
set_option maxRecDepth 100000 in
theorem zlF (a b : List UInt8) (n m : Int) (ca cb : Option Addr) (la lb ka kb : Nat) (W : World) :
 Calls Tryz.prog 47 #[.agg #[.string ⟨a.toArray⟩, .int .i64 n, .slice ca la ka], .agg #[.string ⟨b.toArray⟩, .int .i64 m, .slice cb lb kb]] W fun e w' => e = .returned (.int .i64 (Lib.compareBytes a b)) ∧ ∃ q os', w' = Go.Sort.grow (W.drewN q) os' := by
 have hcon := fun W' => zi1 a b W'
 generalize Lib.compareBytes a b = r at hcon ⊢
 go_enter Tryz.func47, Tryz.ntmps47
 go_wp2_with (go_at_call 48; refine (hcon _).mono ?_; rintro e w' ⟨rfl, rfl⟩)
 go_ret
 exact ⟨rfl, 0, _, by rw [Go.Sort.alloc_eq_grow, Go.Sort.alloc_eq_grow, Go.Sort.grow_grow]; rfl⟩
section
open Go.RowKit Go.Sort Go.Shelf
def encR (x : RV) : List Value := [.string ⟨x.1.1.toArray⟩, .int .i64 x.1.2.1, rvT x]
theorem zgb : ∀ (xs : List RV) (j : Nat), j < xs.length * 3 → (rtsV xs)[j]? = some ((encR (xs[j / 3]!))[j % 3]!)
 | [], j, h => by simp at h
 | x :: r, 0, _ => by simp [rtsV, encR]
 | x :: r, 1, _ => by simp [rtsV, encR]
 | x :: r, 2, _ => by simp [rtsV, encR]
 | x :: r, j + 3, h => by
  have h1 : (j + 3) / 3 = j / 3 + 1 := by omega
  have h2 : (j + 3) % 3 = j % 3 := by omega
  have h3 : j < r.length * 3 := by simp only [List.length_cons] at h; omega
  rw [h1, h2, List.getElem!_cons_succ]
  simp only [rtsV, List.getElem?_cons_succ]
  exact zgb r j h3
theorem zdK : ∀ xs : List RV, (rtsV xs).length = xs.length * 3
 | [] => rfl
 | x :: r => by simp only [rtsV, List.length_cons, zdK r]; omega
theorem flat_rts (xs : List RV) : (flatK encR 3 xs.toArray).toList = rtsV xs := by
 apply List.ext_getElem?
 intro j
 by_cases hj : j < xs.length * 3
 ·
  rw [zgb xs j hj, Array.getElem?_toList, Array.getElem?_eq_getElem (by simpa using hj), ← getElem!_pos _ j (by simpa using hj), get_flatK encR 3 _ j (by simpa using hj)]
  simp
 ·
  rw [List.getElem?_eq_none (by rw [Array.length_toList, size_flatK, List.size_toArray]; omega), List.getElem?_eq_none (by rw [zdK]; omega)]
theorem zhi {w : World} {g n : Nat} {os : Array Obj} {cur : Array Value} {e : TypeId} {fr : Nat × Nat} (F : Array Value) (hb : w.heap[g]? = some (.cells cur e fr)) :
 (grow (putRow id (Sort.ahead w n) g 0 F) os).heap[g]? = some (.cells (putCells id 0 F cur) e fr) := by
 have hg : g < w.heap.size := (Array.getElem?_eq_some_iff.1 hb).1
 rw [heap_grow_old _ _ (by simpa using hg)]
 simp [putRow, mapBlock, Sort.ahead, Array.getElem?_modify, hb, onCells]
theorem zeP {w : World} {g n : Nat} {os : Array Obj} (F : Array Value) : w.grownBy (grow (putRow id (Sort.ahead w n) g 0 F) os) (some g) := by
 refine ⟨rfl, rfl, rfl, by simp, fun k hk hne => ?_⟩
 rw [heap_grow_old _ _ (by simpa using hk)]
 have : g ≠ k := fun e => hne (by rw [e])
 simp [putRow, mapBlock, Sort.ahead, Array.getElem?_modify, this]
theorem zfn (cur F : Array Value) (h : F.size ≤ cur.size) : (putCells id 0 F cur).toList.take F.size = F.toList := by
 apply List.ext_getElem?
 intro j
 by_cases hj : j < F.size
 ·
  rw [List.getElem?_take_of_lt hj, Array.getElem?_toList, Array.getElem?_toList]
  simp [putCells, hj, show j < cur.size by omega]
 ·
  rw [List.getElem?_take_eq_none (by omega), List.getElem?_eq_none (by simp; omega)]
theorem za6.holds {X : World} {B g c : Nat} {xs : List RV} (h : za6 X B (.slice (some ⟨g, 0, Option.none⟩) xs.length c) xs) : HoldsK encR 3 X g 0 xs.toArray ∧ g < X.heap.size := by
 obtain ⟨hl, ⟨e, _⟩ | ⟨g', cap, cur, e, hbase, hb, h1, h2, h3, h4⟩⟩ := h.row
 ·
  cases e
 ·
  injection e with e _ _
  injection e with e
  injection e with e _ _
  subst e
  refine ⟨fun j hj => ?_, (Array.getElem?_eq_some_iff.1 hb).1⟩
  have hj' : j < xs.length * 3 := by simpa using hj
  refine ⟨?_, by simp [World.frozen?, hb]⟩
  have hx : (cur.toList.take (xs.length * 3))[j]? = (rtsV xs)[j]? := by rw [h4]
  rw [List.getElem?_take_of_lt hj', zgb xs j hj'] at hx
  simp only [World.cell?, hb, Nat.zero_add, Option.isSome_none, Bool.false_eq_true, if_false]
  rw [← Array.getElem?_toList, hx, get_flatK encR 3 _ j (by simpa using hj')]
  simp
theorem za6.sorted {X : World} {B g c : Nat} {xs ys : List RV} (h : za6 X B (.slice (some ⟨g, 0, Option.none⟩) xs.length c) xs) (hp : ys.Perm xs) (n : Nat) (os : Array Obj) :
 za6 (sortWorldK encR 3 X g 0 n ys.toArray os) B (.slice (some ⟨g, 0, Option.none⟩) ys.length c) ys ∧ X.grownBy (sortWorldK encR 3 X g 0 n ys.toArray os) (some g) := by
 have hg : X.grownBy (sortWorldK encR 3 X g 0 n ys.toArray os) (some g) := zeP _
 have hlen := hp.length_eq
 have hfl : (flatK encR 3 ys.toArray).size = ys.length * 3 := by simp
 refine ⟨⟨?_, fun y hy => ?_⟩, hg⟩
 ·
  obtain ⟨hl, ⟨e, _⟩ | ⟨g', cap, cur, e, hbase, hb, h1, h2, h3, h4⟩⟩ := h.row
  ·
   cases e
  ·
   injection e with e _ ec
   injection e with e
   injection e with e _ _
   subst e ec
   refine ⟨by rw [zdK], .inr ⟨g, c, _, rfl, hbase, zhi _ hb, by omega, h2, by simp [putCells, h3], ?_⟩⟩
   rw [← hfl, zfn cur _ (by rw [hfl, h3]; omega), flat_rts]
 ·
  have hx := h.trees y (hp.mem_iff.1 hy)
  refine hx.kept hg ?_
  rcases hv : (rvT y).ownBlock with _ | k
  ·
   exact Or.inl rfl
  ·
   refine Or.inr (fun e => ?_)
   injection e with e
   subst e
   obtain ⟨_, ⟨e1, _⟩ | ⟨g1, _, cur1, e1, _, hb1, _⟩⟩ := hx
   ·
    rw [e1] at hv; cases hv
   ·
    rw [e1] at hv
    injection hv with hv
    obtain ⟨_, ⟨e2, _⟩ | ⟨g2, _, cur2, e2, _, hb2, _⟩⟩ := h.row
    ·
     cases e2
    ·
     injection e2 with e2 _ _
     injection e2 with e2
     injection e2 with e2 _ _
     have hgk : g1 = g2 := hv.trans e2
     rw [hgk, hb2] at hb1
     injection hb1 with hb1
     injection hb1 with _ hb1 _
     exact absurd hb1 (by decide)
end
end Go.Proofs.YtkpdoedpkncboaaGreat
namespace Go.Proofs
open Go.Shelf
def Tryz.laidSortF_ren : Go.Shelf.Ren := ⟨fun | 6 => 46 | 15 => 84 | 14 => 83 | 28 => 125 | 29 => 126 | 20 => 117 | 21 => 118 | 22 => 119 | 23 => 120 | 24 => 121 | 25 => 122 | 26 => 123 | 27 => 124 | 46 => 149 | 47 => 150 | 48 => 151 | 49 => 152 | 50 => 153 | 57 => 162 | n => n, fun | 22 => 27 | 24 => 51 | 25 => 76 | 3 => 3 | 39 => 114 | 0 => 0 | 53 => 153 | 55 => 155 | 4 => 4 | 46 => 146 | 45 => 145 | 50 => 150 | 5 => 5 | 9 => 9 | 66 => 182 | 70 => 186 | 76 => 192 | 77 => 193 | n => n, fun | n => n⟩
theorem Tryz.laidSortF : Go.Proofs.SlLaysF0.n6 Tryz.prog Tryz.laidSortF_ren := {
 mixed := by kernel_rfl
 f6 := ⟨Tryz.f46.name, by decide, Tryz.func46.trans (congrArg some (by kernel_rfl))⟩
 f14 := ⟨Tryz.f83.name, by decide, Tryz.func83.trans (congrArg some (by kernel_rfl))⟩
 f15 := Tryz.func84.trans (congrArg some (by kernel_rfl))
 f20 := ⟨Tryz.f117.name, by decide, Tryz.func117.trans (congrArg some (by kernel_rfl))⟩
 f21 := ⟨Tryz.f118.name, by decide, Tryz.func118.trans (congrArg some (by kernel_rfl))⟩
 f22 := ⟨Tryz.f119.name, by decide, Tryz.func119.trans (congrArg some (by kernel_rfl))⟩
 f23 := ⟨Tryz.f120.name, by decide, Tryz.func120.trans (congrArg some (by kernel_rfl))⟩
 f24 := ⟨Tryz.f121.name, by decide, Tryz.func121.trans (congrArg some (by kernel_rfl))⟩
 f25 := ⟨Tryz.f122.name, by decide, Tryz.func122.trans (congrArg some (by kernel_rfl))⟩
 f26 := ⟨Tryz.f123.name, by decide, Tryz.func123.trans (congrArg some (by kernel_rfl))⟩
 f27 := ⟨Tryz.f124.name, by decide, Tryz.func124.trans (congrArg some (by kernel_rfl))⟩
 f28 := Tryz.func125.trans (congrArg some (by kernel_rfl))
 f29 := Tryz.func126.trans (congrArg some (by kernel_rfl))
 f46 := ⟨Tryz.f149.name, by decide, Tryz.func149.trans (congrArg some (by kernel_rfl))⟩
 f47 := Tryz.func150.trans (congrArg some (by kernel_rfl))
 f48 := Tryz.func151.trans (congrArg some (by kernel_rfl))
 f49 := ⟨Tryz.f152.name, by decide, Tryz.func152.trans (congrArg some (by kernel_rfl))⟩
 f50 := ⟨Tryz.f153.name, by decide, Tryz.func153.trans (congrArg some (by kernel_rfl))⟩
 f57 := ⟨Tryz.f162.name, by decide, Tryz.func162.trans (congrArg some (by kernel_rfl))⟩
 t0 := Tryz.underlying0
 a0 := Tryz.isAgg0
 z0 := Tryz.sizeOf0
 v0 := Tryz.zeroValue0
 t3 := Tryz.underlying3
 a3 := Tryz.isAgg3
 z3 := Tryz.sizeOf3
 v3 := Tryz.zeroValue3
 t4 := Tryz.underlying4
 a4 := Tryz.isAgg4
 z4 := Tryz.sizeOf4
 v4 := Tryz.zeroValue4
 t5 := Tryz.underlying5
 a5 := Tryz.isAgg5
 z5 := Tryz.sizeOf5
 v5 := Tryz.zeroValue5
 t9 := Tryz.underlying9
 a9 := Tryz.isAgg9
 z9 := Tryz.sizeOf9
 v9 := Tryz.zeroValue9
 t22 := Tryz.underlying27
 a22 := Tryz.isAgg27
 z22 := Tryz.sizeOf27
 v22 := Tryz.zeroValue27
 t25 := Tryz.underlying76
 a25 := Tryz.isAgg76
 z25 := Tryz.sizeOf76
 v25 := Tryz.zeroValue76
 t39 := Tryz.underlying114
 a39 := Tryz.isAgg114
 z39 := Tryz.sizeOf114
 v39 := Tryz.zeroValue114
 t45 := Tryz.underlying145
 a45 := Tryz.isAgg145
 z45 := Tryz.sizeOf145
 v45 := Tryz.zeroValue145
 t46 := Tryz.underlying146
 a46 := Tryz.isAgg146
 z46 := Tryz.sizeOf146
 v46 := Tryz.zeroValue146
 t50 := Tryz.underlying150
 a50 := Tryz.isAgg150
 z50 := Tryz.sizeOf150
 v50 := Tryz.zeroValue150
 t53 := Tryz.underlying153
 a53 := Tryz.isAgg153
 z53 := Tryz.sizeOf153
 v53 := Tryz.zeroValue153
 t55 := Tryz.underlying155
 a55 := Tryz.isAgg155
 z55 := Tryz.sizeOf155
 v55 := Tryz.zeroValue155
 t66 := Tryz.underlying182
 a66 := Tryz.isAgg182
 z66 := Tryz.sizeOf182
 v66 := Tryz.zeroValue182
 t70 := Tryz.underlying186
 a70 := Tryz.isAgg186
 z70 := Tryz.sizeOf186
 v70 := Tryz.zeroValue186
 t76 := Tryz.underlying192
 a76 := Tryz.isAgg192
 z76 := Tryz.sizeOf192
 v76 := Tryz.zeroValue192
 t77 := Tryz.underlying193
 a77 := Tryz.isAgg193
 z77 := Tryz.sizeOf193
 v77 := Tryz.zeroValue193 }
end Go.Proofs
namespace Go.Proofs.YtkpdoedpkncboaaGreat
open Go.RowKit
section
open Go.RowKit Go.Shelf
def cfR (x y : RV) : Int := Lib.compareBytes x.1.1 y.1.1
theorem ltR (x y : RV) : ltOf cfR x y = Op.bytesLess x.1.1 y.1.1 := by
 unfold ltOf cfR
 rcases h : Op.bytesLess x.1.1 y.1.1 with _ | _
 ·
  exact decide_eq_false (fun e => by rw [(zgD _ _).1.1 e] at h; cases h)
 ·
  exact decide_eq_true ((zgD _ _).1.2 h)
theorem swoR : Go.Sort.SWO (ltOf cfR) where
 irrefl x := by rw [ltR]; exact zhT _
 trans x y z h1 h2 := by rw [ltR] at *; exact zdv h1 h2
 ntrans x y z h1 h2 := by rw [ltR] at *; exact zfQ h2 h1
set_option maxHeartbeats 2000000 in
set_option maxRecDepth 100000 in
theorem zjA (B g c : Nat) (xs : List RV) (w : World) (h : za6 w B (.slice (some ⟨g, 0, none⟩) xs.length c) xs) (hn : xs.length ≤ 1048576) :
 Calls Tryz.prog 46 #[.slice (some ⟨g, 0, none⟩) xs.length c, .func (.func 47) #[] #[]] w fun e w' => e = .returned (.tuple #[]) ∧ ∃ ys : List RV, ys.Perm xs ∧ zfm (ys.map (·.1)) ∧ za6 w' B (.slice (some ⟨g, 0, none⟩) ys.length c) ys ∧ w.grownBy w' (some g) := by
 have hh := h.holds
 have eg : ∀ args w, (callFunc 47 args).run Tryz.prog w = .ok (.enter 47 args) w := enters_of Tryz.func47 (by kernel_rfl) rfl
 have hcmp : CmpLays Tryz.prog 47 #[] encR 3 cfR g 0 xs.toArray.size w := fun _ _ _ _ x y => zlF x.1.1 y.1.1 x.1.2.1 y.1.2.1 x.2.1 y.2.1 x.1.2.2.length y.1.2.2.length x.2.2 y.2.2 _
 have hc := AnyQ.slices_SortFunc Tryz.laidSortF 3 Tryz.isAgg51 Tryz.sizeOf51 encR (fun _ => rfl) (fun x v hv => by simp [encR] at hv; rcases hv with rfl | rfl | rfl <;> rfl) cfR swoR 47 #[] g 0 c xs.toArray w eg hcmp hh.1 hh.2 (by simp; omega)
 rw [List.size_toArray] at hc
 refine Calls.mono hc ?_
 rintro e w' ⟨rfl, d', n, os, hp, hs, rfl⟩
 obtain ⟨h1, _, h3⟩ := hp
 have hsz : d'.size = xs.length := by rw [h1, List.size_toArray]
 have e1 : d'.extract 0 xs.length = d' := by rw [← hsz]; simp
 have e2 : xs.toArray.extract 0 xs.length = xs.toArray := by simp
 rw [e1, e2] at h3
 have hperm : d'.toList.Perm xs := by simpa using h3
 have hr := h.sorted hperm n os
 rw [Array.toArray_toList] at hr
 refine ⟨rfl, d'.toList, hperm, ?_, hr.1, hr.2⟩
 refine List.pairwise_map.2 (List.pairwise_iff_getElem.2 (fun i j hi hj hij => ?_))
 have hlt := hs i j (Nat.zero_le _) hij (by rw [← hsz]; simpa using hj)
 rw [ltR, getElem!_pos d' j (by simpa using hj), getElem!_pos d' i (by simpa using hi)] at hlt
 simpa using hlt
set_option maxHeartbeats 1000000 in
set_option maxRecDepth 100000 in
theorem zjz (B g c : Nat) (xs : List RV) (w : World) (h : za6 w B (.slice (some ⟨g, 0, none⟩) xs.length c) xs) (hn : xs.length ≤ 1048576) :
 Calls Tryz.prog 21 #[.slice (some ⟨g, 0, none⟩) xs.length c] w fun e w' => e = .returned (.tuple #[]) ∧ ∃ ys : List RV, ys.Perm xs ∧ zfm (ys.map (·.1)) ∧ za6 w' B (.slice (some ⟨g, 0, none⟩) ys.length c) ys ∧ w.grownBy w' (some g) := by
 have HC : Hid (_) := zjA B g c xs w h hn
 clear h
 generalize xs.length = nx at HC ⊢
 go_enter Tryz.func21, Tryz.ntmps21
 go_wp2_with fail
 refine Calls.mono HC.out ?_
 rintro e w' ⟨rfl, ys, h1, h2, h3, h4⟩
 have HR : Hid (∃ ys : List RV, ys.Perm xs ∧ zfm (ys.map (·.1)) ∧ za6 w' B (.slice (some ⟨g, 0, none⟩) ys.length c) ys ∧ w.grownBy w' (some g)) := ⟨ys, h1, h2, h3, h4⟩
 clear HC h1 h2 h3 h4
 go_wp2
 go_end0
 exact ⟨rfl, HR.out⟩
end
set_option maxHeartbeats 1000000 in
set_option maxRecDepth 100000 in
theorem zjK (s : List UInt8) (n : Int) (t : List In13) (ta tb : Option Addr) (tl ca cb : Nat) (w : World) (ha : zbD w ta tl t) (hb : zbD w tb tl t) (hlen : tl ≤ 4194304) :
 Calls Tryz.prog 54 #[.agg #[.string ⟨s.toArray⟩, .int .i64 n, .slice ta tl ca], .agg #[.string ⟨s.toArray⟩, .int .i64 n, .slice tb tl cb]] w fun e w' => e = .returned (.bool true) ∧ Below w.heap.size w w' := by
 have h1 : ∀ n : Int, (n != n) = false := by simp
 have h2 : ∀ l : List UInt8, (l != l) = false := by simp
 have hbW : Below w.heap.size w ((w.alloc (.cells #[.string ⟨s.toArray⟩, .int .i64 n, .slice ta tl ca] 51)).alloc (.cells #[.string ⟨s.toArray⟩, .int .i64 n, .slice tb tl cb] 51)) := ((Below.refl _ _).alloc (Nat.le_refl _) _).alloc (by simp) _
 have HC := eqInsSC ta tb tl ca cb t _ (ha.below hbW) (hb.below hbW) hlen
 clear ha hb
 go_enter Tryz.func54, Tryz.ntmps54
 go_wp2_with fail
 refine HC.mono ?_
 rintro e w1 ⟨rfl, hb1⟩
 have hbd : Below w.heap.size w w1 := hbW.trans (hb1.mono hbW.size)
 clear HC hb1 hbW
 go_wp2
 go_ret
 exact ⟨rfl, hbd⟩
set_option maxHeartbeats 2000000 in
set_option maxRecDepth 100000 in
theorem zi5 (a b : Option Addr) (len ca cb : Nat) (fs : List Rt) (w : World) (ha : zdh w a len fs) (hb : zdh w b len fs) (hlen : len ≤ 4194304) (hsh : ∀ j, (fs.getD j rt0).2.2.length ≤ 4194304) :
 Calls Tryz.prog 24 #[.slice a len ca, .slice b len cb] w fun e w' => e = .returned (.bool true) ∧ Below w.heap.size w w' := by
 have HA : Hid (zdh w a len fs) := ha
 have HB : Hid (zdh w b len fs) := hb
 have HSH : Hid (∀ j, (fs.getD j rt0).2.2.length ≤ 4194304) := hsh
 clear ha hb hsh
 have h1 : ((len : Int) != (len : Int)) = false := by simp
 go_enter Tryz.func24, Tryz.ntmps24
 go_wp2
 go_loopw [5] (fun i wr => ∃ k : Nat, k ≤ len ∧ i = .int .i64 k ∧ Below w.heap.size w wr) (fun i _ => len - (intOf i).toNat)
 case atStart => exact ⟨0, Nat.zero_le _, rfl, Below.refl _ _⟩
 case round =>
  obtain ⟨k, hk, rfl, hB⟩ := hrel
  by_cases hkl : (k : Int) < (len : Int)
  ·
   obtain ⟨b1, o1, rfl, hb1, x0, x1, ta, tl, tc, x2, hn1⟩ := (HA.out.below hB).2 k (by omega)
   obtain ⟨b2, o2, rfl, hb2, y0, y1, tb, tl2, tc2, y2, hn2⟩ := (HB.out.below hB).2 k (by omega)
   have hts := HSH.out k
   obtain ⟨f, hf⟩ : ∃ f, fs.getD k rt0 = f := ⟨_, rfl⟩
   rw [hf] at x0 x1 y0 y1 hn1 hn2 hts
   obtain ⟨s, n, t⟩ := f
   simp only at x0 x1 y0 y1 hn1 hn2 hts
   obtain rfl : t.length = tl := hn1.1
   obtain rfl : t.length = tl2 := hn2.1
   have hn1' : zbD wr.drew ta t.length t := hn1.below ⟨rfl, rfl, rfl, Nat.le_refl _, fun _ _ => rfl⟩
   have hn2' : zbD wr.drew tb t.length t := hn2.below ⟨rfl, rfl, rfl, Nat.le_refl _, fun _ _ => rfl⟩
   clear hf hn1 hn2
   go_wp2
   go_region_held3 (fun w' => w'.cell? ⟨b1, o1 + k * 3, none⟩ = some (.string ⟨s.toArray⟩) ∧ w'.cell? ⟨b1, o1 + k * 3 + 1, none⟩ = some (.int .i64 n) ∧ w'.cell? ⟨b1, o1 + k * 3 + 2, none⟩ = some (.slice ta t.length tc) ∧ w'.cell? ⟨b2, o2 + k * 3, none⟩ = some (.string ⟨s.toArray⟩) ∧ w'.cell? ⟨b2, o2 + k * 3 + 1, none⟩ = some (.int .i64 n) ∧ w'.cell? ⟨b2, o2 + k * 3 + 2, none⟩ = some (.slice tb t.length tc2)) (go_keep) (first | (go_at_call 54; refine (zjK s n t ta tb t.length tc tc2 _ hn1' hn2' hts).mono ?_; rintro e w1 ⟨rfl, hw1⟩; have d0 : w1.cell? ⟨b1, o1 + k * 3, none⟩ = some (.string ⟨s.toArray⟩) := (hw1.cell (p := ⟨b1, o1 + k * 3, none⟩) hb1).trans x0; have d1 : w1.cell? ⟨b1, o1 + k * 3 + 1, none⟩ = some (.int .i64 n) := (hw1.cell (p := ⟨b1, o1 + k * 3 + 1, none⟩) hb1).trans x1; have d2 : w1.cell? ⟨b1, o1 + k * 3 + 2, none⟩ = some (.slice ta t.length tc) := (hw1.cell (p := ⟨b1, o1 + k * 3 + 2, none⟩) hb1).trans x2; have e0 : w1.cell? ⟨b2, o2 + k * 3, none⟩ = some (.string ⟨s.toArray⟩) := (hw1.cell (p := ⟨b2, o2 + k * 3, none⟩) hb2).trans y0; have e1 : w1.cell? ⟨b2, o2 + k * 3 + 1, none⟩ = some (.int .i64 n) := (hw1.cell (p := ⟨b2, o2 + k * 3 + 1, none⟩) hb2).trans y1; have e2 : w1.cell? ⟨b2, o2 + k * 3 + 2, none⟩ = some (.slice tb t.length tc2) := (hw1.cell (p := ⟨b2, o2 + k * 3 + 2, none⟩) hb2).trans y2))
   all_goals go_wp2
   go_roundw
   case rel => exact ⟨k + 1, by omega, by go_num, hB.trans ⟨hw1.os, hw1.tape, hw1.output, hw1.size, fun q hq => hw1.block q (by have := hB.size; show q < wr.heap.size; omega)⟩⟩
   case measure => simp [intOf]; omega
  ·
   go_wp2
   go_ret
   exact ⟨rfl, hB⟩
structure ObIn (W : World) (D : Nat) (nm : List UInt8) (ia : Option Addr) (il ic : Nat) (fa : Option Addr) (fl fc : Nat) (ims : List (List UInt8)) (fs : List Rt) : Prop where
 k0 : W.cell? ⟨D, 0, none⟩ = some (.string ⟨nm.toArray⟩)
 k1 : W.cell? ⟨D, 1, none⟩ = some (.slice ia il ic)
 k2 : W.cell? ⟨D, 2, none⟩ = some (.slice fa fl fc)
 i : zae W ia il ims
 f : zdh W fa fl fs
theorem ObIn.below {W W' : World} {D : Nat} {nm : List UInt8} {ia : Option Addr} {il ic : Nat} {fa : Option Addr} {fl fc : Nat} {ims : List (List UInt8)} {fs : List Rt} (h : ObIn W D nm ia il ic fa fl fc ims fs) (hb : Below W.heap.size W W') : ObIn W' D nm ia il ic fa fl fc ims fs :=
 have hl : D < W.heap.size := World.block_lt_of_cell? W ⟨D, 0, none⟩ h.k0
 ⟨(hb.cell (p := ⟨D, 0, none⟩) hl).trans h.k0, (hb.cell (p := ⟨D, 1, none⟩) hl).trans h.k1, (hb.cell (p := ⟨D, 2, none⟩) hl).trans h.k2, h.i.below hb, h.f.below hb⟩
theorem ObIn.drew {W : World} {D : Nat} {nm : List UInt8} {ia : Option Addr} {il ic : Nat} {fa : Option Addr} {fl fc : Nat} {ims : List (List UInt8)} {fs : List Rt} (h : ObIn W D nm ia il ic fa fl fc ims fs) : ObIn W.drew D nm ia il ic fa fl fc ims fs := ⟨h.k0, h.k1, h.k2, h.i, h.f⟩
theorem ObIn.new {w : World} {nm : List UInt8} {ia : Option Addr} {il ic : Nat} {fa : Option Addr} {fl fc : Nat} {ims : List (List UInt8)} {fs : List Rt} (hi : zae w ia il ims) (hf : zdh w fa fl fs) :
 ObIn (w.alloc (.cells #[.string ⟨nm.toArray⟩, .slice ia il ic, .slice fa fl fc] 29)) w.heap.size nm ia il ic fa fl fc ims fs ∧ Below w.heap.size w (w.alloc (.cells #[.string ⟨nm.toArray⟩, .slice ia il ic, .slice fa fl fc] 29)) := by
 have hb : Below w.heap.size w (w.alloc (.cells #[.string ⟨nm.toArray⟩, .slice ia il ic, .slice fa fl fc] 29)) := (Below.refl _ _).alloc (Nat.le_refl _) _
 have hA := heap_alloc_new w (.cells #[.string ⟨nm.toArray⟩, .slice ia il ic, .slice fa fl fc] 29)
 generalize w.alloc (.cells #[.string ⟨nm.toArray⟩, .slice ia il ic, .slice fa fl fc] 29) = W at hb hA ⊢
 exact ⟨⟨by simp [World.cell?, hA], by simp [World.cell?, hA], by simp [World.cell?, hA], hi.below hb, hf.below hb⟩, hb⟩
set_option maxHeartbeats 2000000 in
set_option maxRecDepth 100000 in
theorem zeW (nm : List UInt8) (ia ib fa fb : Option Addr) (il ica icb fl fca fcb : Nat) (ims : List (List UInt8)) (fs : List Rt) (w : World) (hia : zae w ia il ims) (hib : zae w ib il ims) (hfa : zdh w fa fl fs) (hfb : zdh w fb fl fs) (hil : il ≤ 4194304) (hfl : fl ≤ 4194304) (hsh : ∀ j, (fs.getD j rt0).2.2.length ≤ 4194304) :
 Calls Tryz.prog 8 #[.agg #[.string ⟨nm.toArray⟩, .slice ia il ica, .slice fa fl fca], .agg #[.string ⟨nm.toArray⟩, .slice ib il icb, .slice fb fl fcb]] w fun e w' => e = .returned (.bool true) ∧ Below w.heap.size w w' := by
 have h2 : ∀ l : List UInt8, (l != l) = false := by simp
 obtain ⟨sa, hBa⟩ := ObIn.new (w := w) (nm := nm) (ic := ica) (fc := fca) hia hfa
 obtain ⟨W1, hW1⟩ : ∃ W, w.alloc (.cells #[.string ⟨nm.toArray⟩, .slice ia il ica, .slice fa fl fca] 29) = W := ⟨_, rfl⟩
 rw [hW1] at sa hBa
 obtain ⟨sb, hBb⟩ := ObIn.new (w := W1) (nm := nm) (ic := icb) (fc := fcb) (hib.below hBa) (hfb.below hBa)
 obtain ⟨W, hW⟩ : ∃ W, W1.alloc (.cells #[.string ⟨nm.toArray⟩, .slice ib il icb, .slice fb fl fcb] 29) = W := ⟨_, rfl⟩
 rw [hW] at sb hBb
 have hs1 : W1.heap.size = w.heap.size + 1 := by rw [← hW1]; simp
 have sa2 := sa.below hBb
 have hB : Below w.heap.size w W := hBa.trans (hBb.mono hBa.size)
 rw [hs1] at sb
 have HC := ziL ia ib il ica icb ims W sa2.i sb.i hil
 have k0 := sa2.k0
 have k1 := sa2.k1
 have k2 := sa2.k2
 have j0 := sb.k0
 have j1 := sb.k1
 have j2 := sb.k2
 clear hia hib hfa hfb sa hBa hBb
 go_enter Tryz.func8, Tryz.ntmps8
 go_wp2_with fail
 refine HC.mono ?_
 rintro e w1 ⟨rfl, hb1⟩
 have ta := sa2.below hb1
 have tb := sb.below hb1
 have HC2 := zi5 fa fb fl fca fcb fs w1 ta.f tb.f hfl hsh
 have hB1 : Below w.heap.size w w1 := hB.trans (hb1.mono hB.size)
 replace k0 := ta.k0
 replace k1 := ta.k1
 replace k2 := ta.k2
 replace j0 := tb.k0
 replace j1 := tb.k1
 replace j2 := tb.k2
 clear HC hb1 sa2 sb hB
 go_wp2_with fail
 refine HC2.mono ?_
 rintro e w2 ⟨rfl, hb2⟩
 have hB2 : Below w.heap.size w w2 := hB1.trans (hb2.mono hB1.size)
 clear HC2 hb2 ta tb hB1 k0 k1 k2 j0 j1 j2
 go_wp2
 go_ret
 exact ⟨rfl, hB2⟩
def zbq (k : Nat) : Nat → List In13
 | 0 => []
 | m + 1 => zbq k m ++ [(((k + 5 * m : Nat) : Int), ((k + 5 * m + 1 : Nat) : Int), ((k + 5 * m + 1 + 1 : Nat) : Int), ((k + 5 * m + 1 + 1 + 1 : Nat) : Int), zaZ (k + 5 * m + 1 + 1 + 1 + 1))]
theorem zbR (k m : Nat) : (zbq k m).length = m := by
 induction m with
 | zero => rfl
 | succ m ih => simp [zbq, ih]
theorem zl1 (k m j : Nat) (h : j < m) : (zbq k m).getD j in0 = (((k + 5 * j : Nat) : Int), ((k + 5 * j + 1 : Nat) : Int), ((k + 5 * j + 1 + 1 : Nat) : Int), ((k + 5 * j + 1 + 1 + 1 : Nat) : Int), zaZ (k + 5 * j + 1 + 1 + 1 + 1)) := by
 induction m with
 | zero => omega
 | succ m ih =>
  unfold zbq
  by_cases hj : j < m
  ·
   rw [← ih hj]
   simp [List.getD, List.getElem?_append, zbR, hj]
  ·
   obtain rfl : j = m := by omega
   simp [List.getD, zbR]
theorem zjm (k i : Nat) (ns : List In13) (h : i < ns.length) : (zbq k i ++ ns.drop i).set i (((k + 5 * i : Nat) : Int), ((k + 5 * i + 1 : Nat) : Int), ((k + 5 * i + 1 + 1 : Nat) : Int), ((k + 5 * i + 1 + 1 + 1 : Nat) : Int), zaZ (k + 5 * i + 1 + 1 + 1 + 1)) = zbq k (i + 1) ++ ns.drop (i + 1) := by
 rw [List.set_append_right _ _ (by rw [zbR]; omega), zbR, Nat.sub_self, List.drop_eq_getElem_cons h, zB]
 conv => rhs; unfold zbq
 rw [List.append_assoc]; rfl
set_option maxHeartbeats 4000000 in
set_option maxRecDepth 100000 in
theorem zl3 (w : World) (base g cp n k0 : Nat) (ns : List In13) (hn : n ≤ 1100000) (hk0 : 0 < k0) (hk1 : k0 ≤ 30000000)
 (h : w.ownsRow base 88 5 (.slice (some ⟨g, 0, none⟩) n cp) n (insV ns)) :
 Calls Tryz.prog 58 #[.slice (some ⟨g, 0, none⟩) n cp, .int .i64 k0] w fun e w' => e = .returned (.int .i64 ((k0 + 5 * n : Nat) : Int)) ∧ w'.ownsRow base 88 5 (.slice (some ⟨g, 0, none⟩) n cp) n (insV (zbq k0 n)) ∧ w.grownBy w' (some g) := by
 have hbl := (zdL h).1
 go_enter Tryz.func58, Tryz.ntmps58
 go_wp2
 go_loopw [1, 5] (fun k i wr => ∃ m : Nat, m ≤ n ∧ i = .int .i64 m ∧ k = .int .i64 ((k0 + 5 * m : Nat) : Int) ∧ wr.ownsRow base 88 5 (.slice (some ⟨g, 0, none⟩) n cp) n (insV (zbq k0 m ++ ns.drop m)) ∧ w.grownBy wr (some g)) (fun _ i _ => n - (intOf i).toNat)
 case atStart => exact ⟨0, Nat.zero_le _, rfl, rfl, h, World.grownBy.refl _ _⟩
 case round =>
  obtain ⟨m, hm, rfl, rfl, hown, hg⟩ := hrel
  by_cases hlt : (m : Int) < (n : Int)
  ·
   have hl2 : (zbq k0 m ++ ns.drop m).length = n := (zdL hown).1
   have hset := zjm k0 m ns (by omega)
   obtain ⟨q, hq⟩ : ∃ q, k0 + 5 * m = q := ⟨_, rfl⟩
   have hq3 : q ≤ 36500000 := by omega
   have HQ2 : Hid (k0 + 5 * (m + 1) = q + 1 + 1 + 1 + 1 + 1) := by exact (by omega : k0 + 5 * (m + 1) = q + 1 + 1 + 1 + 1 + 1)
   rw [hq] at hset ⊢
   clear hq
   obtain ⟨v0, v1, v2, v3, v4⟩ := zld (zbq k0 m ++ ns.drop m) m (by omega)
   obtain ⟨xs, hxs⟩ : ∃ xs, insV (zbq k0 m ++ ns.drop m) = xs := ⟨_, rfl⟩
   have hset2 := insV_set (zbq k0 m ++ ns.drop m) m (q : Int) ((q + 1 : Nat) : Int) ((q + 1 + 1 : Nat) : Int) ((q + 1 + 1 + 1 : Nat) : Int) (zaZ (q + 1 + 1 + 1 + 1))
   rw [hset, hxs] at hset2
   rw [hxs] at hown v0 v1 v2 v3 v4
   have HSET : Hid (_) := hset2
   clear hset hset2 hxs
   obtain ⟨u0, d0⟩ : ∃ u, wr.cell? ⟨g, m * 5, none⟩ = some u := by rw [hown.cellAt (m * 5) (by omega), v0]; exact ⟨_, rfl⟩
   obtain ⟨u1, d1⟩ : ∃ u, wr.cell? ⟨g, m * 5 + 1, none⟩ = some u := by rw [hown.cellAt (m * 5 + 1) (by omega), v1]; exact ⟨_, rfl⟩
   obtain ⟨u2, d2⟩ : ∃ u, wr.cell? ⟨g, m * 5 + 2, none⟩ = some u := by rw [hown.cellAt (m * 5 + 2) (by omega), v2]; exact ⟨_, rfl⟩
   obtain ⟨u3, d3⟩ : ∃ u, wr.cell? ⟨g, m * 5 + 3, none⟩ = some u := by rw [hown.cellAt (m * 5 + 3) (by omega), v3]; exact ⟨_, rfl⟩
   have e0 := hown.frozenAt (m * 5)
   have e1 := hown.frozenAt (m * 5 + 1)
   have e2 := hown.frozenAt (m * 5 + 2)
   have e3 := hown.frozenAt (m * 5 + 3)
   have hs1 := hown.stored (m * 5) (.int .i64 (q : Int))
   have hs2 := hs1.1.stored (m * 5 + 1) (.int .i64 ((q + 1 : Nat) : Int))
   have hs3 := hs2.1.stored (m * 5 + 2) (.int .i64 ((q + 1 + 1 : Nat) : Int))
   have hs4 := hs3.1.stored (m * 5 + 3) (.int .i64 ((q + 1 + 1 + 1 : Nat) : Int))
   obtain ⟨W1, hW1⟩ : ∃ W1, (((wr.setCell ⟨g, m * 5, none⟩ (.int .i64 (q : Int))).setCell ⟨g, m * 5 + 1, none⟩ (.int .i64 ((q + 1 : Nat) : Int))).setCell ⟨g, m * 5 + 2, none⟩ (.int .i64 ((q + 1 + 1 : Nat) : Int))).setCell ⟨g, m * 5 + 3, none⟩ (.int .i64 ((q + 1 + 1 + 1 : Nat) : Int)) = W1 := ⟨_, rfl⟩
   rw [hW1] at hs4
   have HS1 : Hid (_) := hs4.1
   have HG1 : Hid (w.grownBy W1 (some g)) := (((hg.trans hs1.2).trans hs2.2).trans hs3.2).trans hs4.2
   clear hs1 hs2 hs3 hs4
   go_wp2_with fail
   refine (zbJ (q + 1 + 1 + 1 + 1) _ (by omega) (by omega)).mono ?_
   rintro e w2 ⟨rfl, hg2⟩
   first | (have hg2' : W1.grownBy w2 none := hg2) | (have hg2' : W1.grownBy w2 none := by rw [← hW1]; exact hg2)
   have hown2 := zaN HS1.out hg2'
   obtain ⟨u4, d4⟩ : ∃ u, w2.cell? ⟨g, m * 5 + 4, none⟩ = some u := by
    rw [hown2.cellAt (m * 5 + 4) (by omega), List.getElem?_set_ne (by omega), List.getElem?_set_ne (by omega), List.getElem?_set_ne (by omega), List.getElem?_set_ne (by omega), v4]; exact ⟨_, rfl⟩
   have e4 := hown2.frozenAt (m * 5 + 4)
   have hs5 := hown2.stored (m * 5 + 4) (.string ⟨(zaZ (q + 1 + 1 + 1 + 1)).toArray⟩)
   rw [HSET.out] at hs5
   have hg5 := (HG1.out.andThen hg2' (by simp)).trans hs5.2
   have hs6 := hs5.1
   clear hown2 hs5 hg2 hg2' hown hg HS1 HG1 d0 d1 d2 d3 e0 e1 e2 e3 v0 v1 v2 v3 v4 HSET
   go_wp2
   go_roundw
   case rel => exact ⟨m + 1, by omega, by go_num, by rw [HQ2.out]; go_num, hs6, hg5⟩
   case measure => simp [intOf]; omega
  ·
   obtain rfl : m = n := by omega
   have hd : ns.drop m = [] := List.drop_eq_nil_of_le (by omega)
   rw [hd, List.append_nil] at hown
   clear hd
   go_wp2
   go_ret
   exact ⟨rfl, hown, hg⟩
set_option maxHeartbeats 1000000 in
set_option maxRecDepth 100000 in
theorem zhP (w : World) (k0 : Nat) :
 Calls Tryz.prog 58 #[.slice none 0 0, .int .i64 k0] w fun e w' => e = .returned (.int .i64 (k0 : Int)) ∧ w' = w := by
 go_enter Tryz.func58, Tryz.ntmps58
 go_wp2
 refine wp_loop_rounds 1 ?_
 rw [rounds_succ]
 go_wp2
 go_ret
 exact ⟨rfl, rfl⟩
theorem zl2 (w : World) (base n k0 : Nat) (v : Value) (ns : List In13) (hn : n ≤ 1100000) (hk0 : 0 < k0) (hk1 : k0 ≤ 30000000) (h : w.ownsRow base 88 5 v n (insV ns)) :
 Calls Tryz.prog 58 #[v, .int .i64 k0] w fun e w' => e = .returned (.int .i64 ((k0 + 5 * n : Nat) : Int)) ∧ w'.ownsRow base 88 5 v n (insV (zbq k0 n)) ∧ w.grownBy w' v.ownBlock := by
 rcases zar h with ⟨rfl, rfl, _⟩ | ⟨g, cp, rfl⟩
 ·
  refine (zhP w k0).mono ?_
  rintro e w' ⟨rfl, rfl⟩
  exact ⟨rfl, World.ownsRow_nil _ _ _ _, World.grownBy.refl _ _⟩
 ·
  exact zl3 w base g cp n k0 ns hn hk0 hk1 h
set_option maxHeartbeats 4000000 in
set_option maxRecDepth 100000 in
theorem zlI (w : World) (a : Option Addr) (cap n k0 : Nat) (hn : n ≤ 1100000) (hk0 : 0 < k0) (hk1 : k0 ≤ 30000000) (h : zbD w a n (zbq k0 n)) :
 Calls Tryz.prog 59 #[.slice a n cap, .int .i64 k0] w fun e w' => e = .returned (.int .i64 ((k0 + 5 * n : Nat) : Int)) ∧ w.grownBy w' none := by
 have hself : ∀ l : List UInt8, (l != l) = false := by simp
 have hne : ∀ n : Int, (n != n) = false := by simp
 have HI : Hid (zbD w a n (zbq k0 n)) := h
 clear h
 go_enter Tryz.func59, Tryz.ntmps59
 go_wp2
 go_loopw [1, 5] (fun k i wr => ∃ m : Nat, m ≤ n ∧ i = .int .i64 m ∧ k = .int .i64 ((k0 + 5 * m : Nat) : Int) ∧ w.grownBy wr none) (fun _ i _ => n - (intOf i).toNat)
 case atStart => exact ⟨0, Nat.zero_le _, rfl, rfl, World.grownBy.refl _ _⟩
 case round =>
  obtain ⟨m, hm, rfl, rfl, hg⟩ := hrel
  by_cases hlt : (m : Int) < (n : Int)
  ·
   obtain ⟨b, off, rfl, hbl, c0, c1, c2, c3, c4⟩ := HI.out.2 m (by omega)
   rw [zl1 k0 n m (by omega)] at c0 c1 c2 c3 c4
   simp only at c0 c1 c2 c3 c4
   obtain ⟨q, hq⟩ : ∃ q, k0 + 5 * m = q := ⟨_, rfl⟩
   have HQ2 : Hid (k0 + 5 * (m + 1) = q + 1 + 1 + 1 + 1 + 1) := by exact (by omega : k0 + 5 * (m + 1) = q + 1 + 1 + 1 + 1 + 1)
   have hq3 : q ≤ 36500000 := by omega
   rw [hq] at c0 c1 c2 c3 c4 ⊢
   clear hq
   have x0 : wr.cell? ⟨b, off + m * 5, none⟩ = some (.int .i64 (q : Int)) := hg.cell c0 (by simp)
   have x1 : wr.cell? ⟨b, off + m * 5 + 1, none⟩ = some (.int .i64 ((q : Int) + 1)) := hg.cell c1 (by simp)
   have x2 : wr.cell? ⟨b, off + m * 5 + 2, none⟩ = some (.int .i64 ((q : Int) + 1 + 1)) := hg.cell c2 (by simp)
   have x3 : wr.cell? ⟨b, off + m * 5 + 3, none⟩ = some (.int .i64 ((q : Int) + 1 + 1 + 1)) := hg.cell c3 (by simp)
   have x4 : wr.cell? ⟨b, off + m * 5 + 4, none⟩ = some (.string ⟨(zaZ (q + 1 + 1 + 1 + 1)).toArray⟩) := hg.cell c4 (by simp)
   clear c0 c1 c2 c3 c4
   go_wp2
   go_region_with (go_at_call 56; refine (zbJ (q + 1 + 1 + 1 + 1) _ (by omega) (by omega)).mono ?_; rintro e w1 ⟨rfl, hg1⟩; have x41 := hg1.cell (a := ⟨b, off + m * 5 + 4, none⟩) x4 (by simp))
   all_goals (try go_wp2)
   all_goals
    go_roundw
    case rel => exact ⟨m + 1, by omega, by go_num, by rw [HQ2.out]; go_num, by first | exact hg.trans hg1 | exact (hg.trans (zcx _ _)).trans hg1⟩
    case measure => simp [intOf]; omega
  ·
   obtain rfl : m = n := by omega
   go_wp2
   go_ret
   exact ⟨rfl, hg⟩
theorem zlH (w : World) (base n k0 : Nat) (v : Value) (hn : n ≤ 1100000) (hk0 : 0 < k0) (hk1 : k0 ≤ 30000000) (h : w.ownsRow base 88 5 v n (insV (zbq k0 n))) :
 Calls Tryz.prog 59 #[v, .int .i64 k0] w fun e w' => e = .returned (.int .i64 ((k0 + 5 * n : Nat) : Int)) ∧ w.grownBy w' none := by
 obtain ⟨_, a, cap, rfl, hin⟩ := zdL h
 exact zlI w a cap n k0 hn hk0 hk1 hin
end Go.Proofs.YtkpdoedpkncboaaGreat
