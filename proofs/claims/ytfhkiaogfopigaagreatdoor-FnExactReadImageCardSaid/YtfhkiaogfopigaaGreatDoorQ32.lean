/-
  Parts of one proof, one behind the other: ObJ3, ObIn.
-/
import Derived.Test.YtfhkiaogfopigaaGreatDoorQ31
import Derived.Test.YtfhkiaogfopigaaGreatDoorQ28
import Derived.Test.YtfhkiaogfopigaaGreatDoorQ8
import Derived.Test.YtfhkiaogfopigaaGreatDoorQ9
import Derived.SliceStrings

/-! Contracts of chapter 15's landed code: the reader at objects, ReadObject (written by gen_reader.py). -/
namespace Go.Proofs.YtfhkiaogfopigaaGreatDoor
open Go.RowKit

/-- What the reader holds: its two functions (at Q), the answer's cells (at Q + 1), nothing (at Q + 2), the whole so far (at Q + 3), the lines. What the whole holds lies from B on. -/
structure RqO (X w : World) (Q B : Nat) (la : Option Addr) (ls : List (List UInt8)) (nm : List UInt8) (ims : List (List UInt8)) (xs : List RV) (ia : Option Addr) (ic : Nat) (fa : Option Addr) (fc : Nat) : Prop where
  p : BoxO X (Q + 3) (.string ⟨nm.toArray⟩) (.slice ia ims.length ic) (.slice fa xs.length fc)
  pf : ∀ j, X.frozen? ⟨Q + 3, j, none⟩ = false
  r : BoxO X (Q + 1) (.string ⟨#[]⟩) (.slice none 0 0) (.slice none 0 0)
  rf : ∀ j, X.frozen? ⟨Q + 1, j, none⟩ = false
  n : BoxO X (Q + 2) (.string ⟨#[]⟩) (.slice none 0 0) (.slice none 0 0)
  f0 : X.cell? ⟨Q, 0, none⟩ = some (.func (.func 47) #[] #[])
  f1 : X.cell? ⟨Q, 1, none⟩ = some (.func (.func 19) #[] #[])
  ln : TextsIn X la ls.length ls
  lb : ∀ b off, la = some ⟨b, off, none⟩ → b < B ∧ b ≠ Q + 3
  oi : X.ownsRow B 9 1 (.slice ia ims.length ic) ims.length (strV ims)
  fo : RtsOwn X B (.slice fa xs.length fc) xs
  ap : ApartR (xs.map rvT)
  pb : Q + 3 < B
  b : Below Q w X
  bs : B ≤ X.heap.size

theorem TextsIn.keepO {w w' : World} {a : Option Addr} {len : Nat} {ts : List (List UInt8)} (h : TextsIn w a len ts) (hs : w.heap.size ≤ w'.heap.size) (hb : ∀ b off, a = some ⟨b, off, none⟩ → w'.heap[b]? = w.heap[b]?) : TextsIn w' a len ts := by
  refine ⟨h.1, fun j hj => ?_⟩
  obtain ⟨b, off, e, hlt, c⟩ := h.2 j hj
  exact ⟨b, off, e, Nat.lt_of_lt_of_le hlt hs, (World.cell?_of_block (a := ⟨b, off + j, none⟩) (hb b off e)).trans c⟩

section
variable {X Y w : World} {Q B : Nat} {la : Option Addr} {ls : List (List UInt8)} {nm : List UInt8} {ims : List (List UInt8)} {xs : List RV} {ia : Option Addr} {ic : Nat} {fa : Option Addr} {fc : Nat}

theorem RqO.ql (h : RqO X w Q B la ls nm ims xs ia ic fa fc) : Q < X.heap.size := World.block_lt_of_cell? X ⟨Q, 0, none⟩ h.f0
theorem RqO.below (h : RqO X w Q B la ls nm ims xs ia ic fa fc) (hb : Below X.heap.size X Y) : RqO Y w Q B la ls nm ims xs ia ic fa fc :=
  ⟨h.p.below hb, fun j => (hb.frozen (p := ⟨Q + 3, j, none⟩) h.p.lt).trans (h.pf j), h.r.below hb, fun j => (hb.frozen (p := ⟨Q + 1, j, none⟩) h.r.lt).trans (h.rf j), h.n.below hb, (hb.cell (p := ⟨Q, 0, none⟩) h.ql).trans h.f0, (hb.cell (p := ⟨Q, 1, none⟩) h.ql).trans h.f1, h.ln.below hb, h.lb, own_below h.oi hb, h.fo.below hb, h.ap, h.pb, h.b.trans (hb.mono (Nat.le_of_lt h.ql)), Nat.le_trans h.bs hb.size⟩

/-- What a line made of the whole is put in its place. -/
theorem RqO.put (h : RqO X w Q B la ls nm ims xs ia ic fa fc) (hb : Below B X Y) {nm' : List UInt8} {ims' : List (List UInt8)} {xs' : List RV} {ia' : Option Addr} {ic' : Nat} {fa' : Option Addr} {fc' : Nat}
    (oi : Y.ownsRow B 9 1 (.slice ia' ims'.length ic') ims'.length (strV ims')) (fo : RtsOwn Y B (.slice fa' xs'.length fc') xs') (ap : ApartR (xs'.map rvT)) :
    (BoxO Y (Q + 3) (.string ⟨nm.toArray⟩) (.slice ia ims.length ic) (.slice fa xs.length fc) ∧ ∀ j, Y.frozen? ⟨Q + 3, j, none⟩ = false) ∧
    ∃ Z, ((Y.setCell ⟨Q + 3, 0, none⟩ (.string ⟨nm'.toArray⟩)).setCell ⟨Q + 3, 1, none⟩ (.slice ia' ims'.length ic')).setCell ⟨Q + 3, 2, none⟩ (.slice fa' xs'.length fc') = Z ∧ RqO Z w Q B la ls nm' ims' xs' ia' ic' fa' fc' := by
  have hpb := h.pb
  have hbs := h.bs
  have pY := h.p.keep (hb.block (Q + 3) hpb)
  have fY : ∀ j, Y.frozen? ⟨Q + 3, j, none⟩ = false := fun j => (World.frozen?_of_block (a := ⟨Q + 3, j, none⟩) (hb.block (Q + 3) hpb)).trans (h.pf j)
  obtain ⟨Z, hZ, z0, z1, z2, hg⟩ := set3R (.string ⟨nm'.toArray⟩) (.slice ia' ims'.length ic') (.slice fa' xs'.length fc') pY.c0 pY.c1 pY.c2
  refine ⟨⟨pY, fY⟩, Z, hZ, ?_⟩
  have hYB : B ≤ Y.heap.size := Nat.le_trans hbs hb.size
  have hk : ∀ k, k < B → k ≠ Q + 3 → Z.heap[k]? = X.heap[k]? := fun k hk hn => (hg.block k (Nat.lt_of_lt_of_le hk hYB) (fun e => hn (by injection e))).trans (hb.block k hk)
  have off : ∀ {e size n : Nat} {v : Value} {ys : List Value}, Y.ownsRow B e size v n ys → v.ownBlock = none ∨ v.ownBlock ≠ some (Q + 3) := fun ho => own_offR ho hpb
  have h0 := hk Q (by omega) (by omega)
  have h1 := hk (Q + 1) (by omega) (by omega)
  have h2 := hk (Q + 2) (by omega) (by omega)
  refine ⟨⟨z0, z1, z2⟩, fun j => ?_, h.r.keep h1, fun j => (World.frozen?_of_block (a := ⟨Q + 1, j, none⟩) h1).trans (h.rf j), h.n.keep h2, (World.cell?_of_block (a := ⟨Q, 0, none⟩) h0).trans h.f0, (World.cell?_of_block (a := ⟨Q, 1, none⟩) h0).trans h.f1, h.ln.keepO (Nat.le_trans hb.size hg.size) (fun b off e => hk b (h.lb b off e).1 (h.lb b off e).2), h.lb, oi.kept hg (off oi), fo.kept hg (off fo.row) (fun y hy => off (fo.trees y hy)), ap, hpb, ?_, Nat.le_trans hYB hg.size⟩
  · rw [← hZ]
    simpa using fY j
  · exact (h.b.trans (hb.mono (by omega))).grown hg (by have := h.ql; have := hb.size; omega) (fun k e => by injection e with e; omega)
end

/-- How great what is read may be. -/
structure OkO (k : Nat) (o : Ob) : Prop where
  n : o.1.length ≤ 1048576
  il : o.2.1.length ≤ k
  is : ∀ i, (o.2.1.getD i []).length ≤ 1048576
  r : LoR k o.2.2
theorem okO0 : OkO 0 ob0 := ⟨by simp [ob0], by simp [ob0], fun i => by simp [ob0], LoR.nil 0⟩
theorem LoR.up {n : Nat} {rs : List Rt} (h : LoR n rs) : LoR (n + 1) rs := ⟨by have := h.l; omega, fun r hr => by have := h.c r hr; exact ⟨this.1, this.2.1, by have := this.2.2.1; omega, this.2.2.2⟩⟩
theorem OkO.step {k : Nat} {o : Ob} (h : OkO k o) {x : List UInt8} (hx : x.length ≤ 1048576) : OkO (k + 1) (obLo o x) := by
  have hb := cutB_len 32 x
  unfold obLo
  split
  · exact ⟨by simp only; omega, by have := h.il; simp only; omega, h.is, h.r.up⟩
  · split
    · refine ⟨h.n, by have := h.il; simp only [List.length_append, List.length_singleton]; omega, fun i => ?_, h.r.up⟩
      simp only
      by_cases hi : i < o.2.1.length
      · rw [List.getD_eq_getElem?_getD, List.getElem?_append_left hi, ← List.getD_eq_getElem?_getD]
        exact h.is i
      · rw [List.getD_eq_getElem?_getD, List.getElem?_append_right (by omega)]
        by_cases h0 : i - o.2.1.length = 0
        · rw [h0]; simp; omega
        · rw [List.getElem?_eq_none (by simp; omega)]; simp
    · exact ⟨h.n, by have := h.il; simp only; omega, h.is, h.r.step x hx⟩

theorem withTO (B : Nat) (nm x : List UInt8) (ia : Option Addr) (ic : Nat) (ims : List (List UInt8)) (fa : Option Addr) (fc : Nat) (xs : List RV) (w : World) (k : Nat) (hB : B ≤ w.heap.size) (hi : w.ownsRow B 9 1 (.slice ia ims.length ic) ims.length (strV ims)) (hf : RtsOwn w B (.slice fa xs.length fc) xs) (ha : ApartR (xs.map rvT)) (hok : OkO k (nm, ims, xs.map (·.1))) (hk : k ≤ 1048576) (hx : x.length ≤ 1048576) (_ht : PowIs w) :
    Calls Tryz.prog 47 #[.agg #[.string ⟨nm.toArray⟩, .slice ia ims.length ic, .slice fa xs.length fc], .string ⟨x.toArray⟩] w fun e w' => WlOutO B w w' e (obLo (nm, ims, xs.map (·.1)) x) :=
  implWithObj B nm x ia ic ims fa fc xs w hB hi hf ha (fun y hy => by have := (hok.r.c y.1 (List.mem_map_of_mem hy)).2.2.1; omega) hx (by have := hok.il; simp only at this; omega) (by have := hok.r.l; simp only [List.length_map] at this; omega)
theorem showTO (nm : List UInt8) (ia : Option Addr) (ic : Nat) (ims : List (List UInt8)) (fa : Option Addr) (fc : Nat) (xs : List RV) (w : World) (k B : Nat) (hi : w.ownsRow B 9 1 (.slice ia ims.length ic) ims.length (strV ims)) (hf : RtsOwn w B (.slice fa xs.length fc) xs) (hok : OkO k (nm, ims, xs.map (·.1))) (hk : k ≤ 1048576) (ht : PowIs w) :
    Calls Tryz.prog 19 #[.agg #[.string ⟨nm.toArray⟩, .slice ia ims.length ic, .slice fa xs.length fc]] w fun e w' => e = .returned (.string ⟨(showOb (nm, ims, xs.map (·.1))).toArray⟩) ∧ Below w.heap.size w w' := by
  obtain ⟨ai, ci, e1, h1, h3⟩ := own_textsO hi
  injection e1 with e1 _ e1c
  subst e1 e1c
  have hl := hok.r.l
  simp only [List.length_map] at hl
  have hlr := hok.r.ok hk
  exact implShowObject nm ia ims.length ic fa xs.length fc ims (xs.map (·.1)) w ⟨h3, ⟨hf.cap rfl (by rw [List.length_map]), hlr.1, hlr.2, by omega⟩, h1, by have := hok.il; simp only at this; omega, hok.n, hok.is⟩ ht

def RoOut7 (w : World) (l : List UInt8) (e : Ending) (w' : World) : Prop :=
  ∃ vi vf xs, e = .returned (.tuple #[.agg #[.string ⟨(readOV l).1.toArray⟩, vi, vf], .bool (readOB l)]) ∧ (xs : List RV).map (·.1) = (readOV l).2.2 ∧ w'.ownsRow w.heap.size 9 1 vi (readOV l).2.1.length (strV (readOV l).2.1) ∧ RtsOwn w' w.heap.size vf xs ∧ ApartR (xs.map rvT) ∧ Below w.heap.size w w'
theorem roZero7 {w Y : World} {l : List UInt8} (hz : readOB l = false ∧ readOV l = ob0) (hb : Below w.heap.size w Y) : RoOut7 w l (.returned (.tuple #[.agg #[.string ⟨#[]⟩, .slice none 0 0, .slice none 0 0], .bool false])) Y :=
  ⟨.slice none 0 0, .slice none 0 0, [], by rw [hz.1, hz.2]; rfl, by rw [hz.2]; rfl, by rw [hz.2]; exact World.ownsRow_nil Y _ _ _, RtsOwn.nil _ _, ApartR.nil, hb⟩

set_option maxHeartbeats 4000000 in
set_option maxRecDepth 100000 in
theorem implReaderO (l : List UInt8) (w : World) (hl : l.length ≤ 1048576) (ht : PowIs w) :
    Calls Tryz.prog 48 #[.agg #[.func (.func 47) #[] #[], .func (.func 19) #[] #[]], .string ⟨l.toArray⟩] w fun e w' => RoOut7 w l e w' := by
  obtain ⟨W0, hW0⟩ : ∃ W, w.alloc (.cells #[.func (.func 47) #[] #[], .func (.func 19) #[] #[]] 71) = W := ⟨_, rfl⟩
  obtain ⟨W1, hW1⟩ : ∃ W, W0.alloc (.cells #[.string ⟨#[]⟩, .slice none 0 0, .slice none 0 0] 43) = W := ⟨_, rfl⟩
  obtain ⟨W2, hW2⟩ : ∃ W, W1.alloc (.cells #[.string ⟨#[]⟩, .slice none 0 0, .slice none 0 0] 43) = W := ⟨_, rfl⟩
  obtain ⟨W, hW⟩ : ∃ W, W2.alloc (.cells #[.string ⟨#[]⟩, .slice none 0 0, .slice none 0 0] 43) = W := ⟨_, rfl⟩
  have hs0 : W0.heap.size = w.heap.size + 1 := by rw [← hW0]; simp
  have hs1 : W1.heap.size = w.heap.size + 2 := by rw [← hW1]; simp [hs0]
  have hs2 : W2.heap.size = w.heap.size + 3 := by rw [← hW2]; simp [hs1]
  have hs3 : W.heap.size = w.heap.size + 4 := by rw [← hW]; simp [hs2]
  have hb0 : Below w.heap.size w W0 := by rw [← hW0]; exact (Below.refl _ _).alloc (Nat.le_refl _) _
  have hb1 : Below W0.heap.size W0 W1 := by rw [← hW1]; exact (Below.refl _ _).alloc (Nat.le_refl _) _
  have hb2 : Below W1.heap.size W1 W2 := by rw [← hW2]; exact (Below.refl _ _).alloc (Nat.le_refl _) _
  have hb3 : Below W2.heap.size W2 W := by rw [← hW]; exact (Below.refl _ _).alloc (Nat.le_refl _) _
  have hB2 : Below W1.heap.size W1 W := hb2.trans (hb3.mono (by omega))
  have hB1 : Below W0.heap.size W0 W := hb1.trans (hB2.mono (by omega))
  have hB : Below w.heap.size w W := hb0.trans (hB1.mono hb0.size)
  have hA0 : W0.heap[w.heap.size]? = some (.cells #[.func (.func 47) #[] #[], .func (.func 19) #[] #[]] 71) := by rw [← hW0]; exact heap_alloc_new w _
  have hA1 : W1.heap[w.heap.size + 1]? = some (.cells #[.string ⟨#[]⟩, .slice none 0 0, .slice none 0 0] 43) := by rw [← hs0, ← hW1]; exact heap_alloc_new W0 _
  have hA2 : W2.heap[w.heap.size + 2]? = some (.cells #[.string ⟨#[]⟩, .slice none 0 0, .slice none 0 0] 43) := by rw [← hs1, ← hW2]; exact heap_alloc_new W1 _
  have hA3 : W.heap[w.heap.size + 3]? = some (.cells #[.string ⟨#[]⟩, .slice none 0 0, .slice none 0 0] 43) := by rw [← hs2, ← hW]; exact heap_alloc_new W2 _
  have hR0 : W.heap[w.heap.size]? = some (.cells #[.func (.func 47) #[] #[], .func (.func 19) #[] #[]] 71) := (hB1.block _ (by omega)).trans hA0
  have hR1 : W.heap[w.heap.size + 1]? = some (.cells #[.string ⟨#[]⟩, .slice none 0 0, .slice none 0 0] 43) := (hB2.block _ (by omega)).trans hA1
  have hR2 : W.heap[w.heap.size + 2]? = some (.cells #[.string ⟨#[]⟩, .slice none 0 0, .slice none 0 0] 43) := (hb3.block _ (by omega)).trans hA2
  have HLi : Hid (_) := implLines l W hl
  have HPWX : Hid (∀ {X : World}, Below w.heap.size w X → PowIs X) := fun {X} hb => ht.below hb
  obtain ⟨Q, hQ⟩ : ∃ Q, w.heap.size = Q := ⟨_, rfl⟩
  rw [hQ] at hs0 hs1 hs2 hs3 HPWX hR0 hR1 hR2 hA3 hB
  have HR : Hid (W.heap[Q]? = some (.cells #[.func (.func 47) #[] #[], .func (.func 19) #[] #[]] 71) ∧ W.heap[Q + 1]? = some (.cells #[.string ⟨#[]⟩, .slice none 0 0, .slice none 0 0] 43) ∧ W.heap[Q + 2]? = some (.cells #[.string ⟨#[]⟩, .slice none 0 0, .slice none 0 0] 43) ∧ W.heap[Q + 3]? = some (.cells #[.string ⟨#[]⟩, .slice none 0 0, .slice none 0 0] 43) ∧ Below Q w W) := ⟨hR0, hR1, hR2, hA3, hB⟩
  have hn := linesI_le l
  have hll : ∀ j, ((linesL l).getD j []).length ≤ l.length := line_lenR l
  have HNO : Hid (showOb (loO ob0 (linesL l)) ≠ l → readOB l = false ∧ readOV l = ob0) := loO_no
  obtain ⟨ls, hls⟩ : ∃ ls, linesL l = ls := ⟨_, rfl⟩
  rw [hls] at HLi hn hll HNO
  have HLL : Hid (∀ j, (ls.getD j []).length ≤ l.length) := hll
  have eg1 : ∀ args w, (callFunc 47 args).run Tryz.prog w = .ok (.enter 47 args) w := enters_of Tryz.func47 (by kernel_rfl) rfl
  have eg2 : ∀ args w, (callFunc 19 args).run Tryz.prog w = .ok (.enter 19 args) w := enters_of Tryz.func19 (by kernel_rfl) rfl
  clear hb0 hb1 hb2 hb3 hB1 hB2 hA0 hA1 hA2 hA3 hR0 hR1 hR2 ht hls hll hB
  go_enter Tryz.func48, Tryz.ntmps48
  go_wp2_with fail
  refine Calls.mono HLi.out ?_
  rintro e w3 ⟨v, rfl, hown, hb3⟩
  obtain ⟨la, lc, rfl, _, hin⟩ := own_textsO hown
  have hlb : ∀ b off, la = some ⟨b, off, none⟩ → b < w3.heap.size ∧ b ≠ Q + 3 := fun b off e => by
    rcases own_forms hown with ⟨e2, _⟩ | ⟨g, cp, e2⟩
    · injection e2 with e2; rw [e2] at e; cases e
    · injection e2 with e2
      have hlt := hown.lt g (by rw [e2]; rfl)
      rw [e2] at e
      injection e with e
      injection e with e
      omega
  have hs3b := hb3.size
  obtain ⟨q0, q1, q2, q3, hBW⟩ := HR.out
  obtain ⟨r0, r1, r2, fr⟩ := threeR hb3 (by omega) q1
  obtain ⟨m0, m1, m2, _⟩ := threeR hb3 (by omega) q2
  obtain ⟨p0, p1, p2, fp⟩ := threeR hb3 (by omega) q3
  have k0 : w3.cell? ⟨Q, 0, none⟩ = some (.func (.func 47) #[] #[]) := (hb3.cell (p := ⟨Q, 0, none⟩) (by show Q < _; omega)).trans (by simp [World.cell?, q0])
  have k1 : w3.cell? ⟨Q, 1, none⟩ = some (.func (.func 19) #[] #[]) := (hb3.cell (p := ⟨Q, 1, none⟩) (by show Q < _; omega)).trans (by simp [World.cell?, q0])
  obtain ⟨B, hBe⟩ : ∃ B, w3.heap.size = B := ⟨_, rfl⟩
  rw [hBe] at hlb hs3b
  have HST0 : Hid (RqO w3 w Q B la ls [] [] [] none 0 none 0) := ⟨⟨p0, p1, p2⟩, fp, ⟨r0, r1, r2⟩, fr, ⟨m0, m1, m2⟩, k0, k1, hin, hlb, World.ownsRow_nil _ _ _ _, RtsOwn.nil _ _, ApartR.nil, by omega, hBW.trans (hb3.mono (by omega)), by omega⟩
  clear hown hlb r0 r1 r2 fr m0 m1 m2 p0 p1 p2 fp k0 k1 hin HLi hBe q0 q1 q2 q3 hBW HR hb3
  go_wp2
  go_loopw [13] (fun iv wr => ∃ (k : Nat) (nm : List UInt8) (ims : List (List UInt8)) (xs : List RV) (ia : Option Addr) (ic : Nat) (fa : Option Addr) (fc : Nat), iv = .int .i64 k ∧ k ≤ ls.length ∧ Hid (RqO wr w Q B la ls nm ims xs ia ic fa fc) ∧ Hid ((nm, ims, xs.map (·.1)) = loO ob0 (ls.take k)) ∧ Hid (OkO k (nm, ims, xs.map (·.1)))) (fun iv _ => ls.length - (intOf iv).toNat)
  case atStart => exact ⟨0, [], [], [], none, 0, none, 0, rfl, by omega, HST0, (rfl : (([] : List UInt8), ([] : List (List UInt8)), ([] : List RV).map (·.1)) = loO ob0 (ls.take 0)), okO0⟩
  case round =>
    obtain ⟨k, nm, ims, xs, ia, ic, fa, fc, rfl, hk, HST, HG, HOK⟩ := hrel
    clear HST0
    have st := HST.out
    clear HST
    have p0 := st.p.c0
    have p1 := st.p.c1
    have p2 := st.p.c2
    have k0 := st.f0
    have k1 := st.f1
    by_cases hkl : (k : Int) < (ls.length : Int)
    · have hk2 : k < ls.length := by omega
      obtain ⟨b, off, rfl, hbl, c0⟩ := st.ln.2 k hk2
      have hxl := HLL.out k
      have hg := loO_take ls k hk2
      obtain ⟨x, hx⟩ : ∃ x, ls.getD k [] = x := ⟨_, rfl⟩
      rw [hx] at c0 hxl hg
      rw [← HG.out] at hg
      have HG2 : Hid (loO ob0 (ls.take (k + 1)) = obLo (nm, ims, xs.map (·.1)) x) := hg
      have HOK2 : Hid (OkO (k + 1) (obLo (nm, ims, xs.map (·.1)) x)) := HOK.out.step (by omega)
      have HC : Hid (_) := withTO B nm x ia ic ims fa fc xs wr k st.bs st.oi st.fo st.ap HOK.out (by omega) (by omega) (HPWX.out st.b)
      generalize obLo (nm, ims, xs.map (·.1)) x = q at HC HG2 HOK2
      clear hx hg HG HOK
      go_wp2_with fail
      refine Calls.mono HC.out ?_
      rintro e w4 ⟨nm', ims', xs', ia', ic', fa', fc', rfl, rfl, oi', fo', ap', hb4⟩
      obtain ⟨⟨pY, fY⟩, Z, hZ, st2⟩ := st.put (nm' := nm') hb4 oi' fo' ap'
      have HST2 : Hid (RqO Z w Q B (some ⟨b, off, none⟩) ls nm' ims' xs' ia' ic' fa' fc') := st2
      have y0 := pY.c0
      have y1 := pY.c1
      have y2 := pY.c2
      have yf0 := fY 0
      have yf1 := fY 1
      have yf2 := fY 2
      have HG3 : Hid ((nm', ims', xs'.map (·.1)) = loO ob0 (ls.take (k + 1))) := HG2.out.symm
      clear st st2 HC oi' fo' ap' hb4 pY fY p0 p1 p2 k0 k1 HG2
      go_wp2
      go_roundw
      case rel => exact ⟨k + 1, nm', ims', xs', ia', ic', fa', fc', by go_num, by omega, HST2, HG3, HOK2⟩
      case measure => simp [intOf]; omega
    · obtain rfl : k = ls.length := by omega
      have hG := HG.out
      rw [List.take_of_length_le (Nat.le_refl _)] at hG
      have r0 := st.r.c0
      have r1 := st.r.c1
      have r2 := st.r.c2
      have f0 := st.rf 0
      have f1 := st.rf 1
      have f2 := st.rf 2
      have n0 := st.n.c0
      have n1 := st.n.c1
      have n2 := st.n.c2
      by_cases hle : l = []
      · subst hle
        have HZ : Hid (readOB [] = false ∧ readOV [] = ob0) := loO_nil
        have HBd : Hid (Below Q w wr) := st.b
        have hsd : Q < wr.heap.size := st.ql
        have he : (([] : List UInt8) == []) = true := by decide
        clear st hG HG HOK HNO p0 p1 p2 k0 k1
        go_wp2
        obtain ⟨Y, hY, z0, z1, z2, hg⟩ := set3R (.string ⟨#[]⟩) (.slice none 0 0) (.slice none 0 0) r0 r1 r2
        rw [hY]
        refine bodyPost_ret (v := .tuple #[.agg #[.string ⟨#[]⟩, .slice none 0 0, .slice none 0 0], .bool false]) (by simp [results, Tryz.results48, go_sem, z0, z1, z2]) rfl ?_
        exact roZero7 HZ.out (by rw [hQ]; exact HBd.out.grown hg (by omega) (fun k e => by injection e with e; omega))
      · have he : (l == []) = false := beq_eq_false_iff_ne.2 hle
        have he2 : l.isEmpty = false := by rw [List.isEmpty_eq_false_iff]; exact hle
        have HC : Hid (_) := showTO nm ia ic ims fa fc xs wr ls.length B st.oi st.fo HOK.out (by omega) (HPWX.out st.b)
        obtain ⟨S, hS⟩ : ∃ S, showOb (nm, ims, xs.map (·.1)) = S := ⟨_, rfl⟩
        rw [hS] at HC
        by_cases hsl : S = l
        · have hy := loO_yes hle (hS.trans hsl)
          have HY : Hid (readOB l = true ∧ readOV l = (nm, ims, xs.map (·.1))) := hy
          have hne : (S != l) = false := by rw [bne_eq_false_iff_eq]; exact hsl
          have hne2 : (S == l) = true := by rw [beq_iff_eq]; exact hsl
          clear hy hG HG HOK HNO hS r0 r1 r2 f0 f1 f2 n0 n1 n2 hle hsl
          go_wp2_with fail
          refine Calls.mono HC.out ?_
          rintro e w5 ⟨rfl, hb5⟩
          replace st := st.below hb5
          have r0 := st.r.c0
          have r1 := st.r.c1
          have r2 := st.r.c2
          have f0 := st.rf 0
          have f1 := st.rf 1
          have f2 := st.rf 2
          replace p0 := st.p.c0
          replace p1 := st.p.c1
          replace p2 := st.p.c2
          have HST : Hid (RqO w5 w Q B la ls nm ims xs ia ic fa fc) := st
          have hdb : Q + 1 < B := by have := st.pb; omega
          clear st HC hb5 k0 k1
          go_wp2
          obtain ⟨Y, hY, z0, z1, z2, hg⟩ := set3R (.string ⟨nm.toArray⟩) (.slice ia ims.length ic) (.slice fa xs.length fc) r0 r1 r2
          rw [hY]
          refine bodyPost_ret (v := .tuple #[.agg #[.string ⟨nm.toArray⟩, .slice ia ims.length ic, .slice fa xs.length fc], .bool true]) (by simp [results, Tryz.results48, go_sem, z0, z1, z2]) rfl ?_
          have so := HST.out
          have hsd : Q ≤ w5.heap.size := Nat.le_of_lt so.ql
          unfold RoOut7
          rw [HY.out.1, HY.out.2, hQ]
          exact ⟨_, _, xs, rfl, rfl, own_base (so.oi.kept hg (own_offR so.oi hdb)) (by omega), (so.fo.kept hg (own_offR so.fo.row hdb) (fun y hy => own_offR (so.fo.trees y hy) hdb)).base (by omega), so.ap, so.b.grown hg hsd (fun k e => by injection e with e; omega)⟩
        · have HZ : Hid (readOB l = false ∧ readOV l = ob0) := HNO.out (by rw [← hG, hS]; exact hsl)
          have hne : (S != l) = true := by rw [bne_iff_ne]; exact hsl
          have hne2 : (S == l) = false := by rw [beq_eq_false_iff_ne]; exact hsl
          clear hG HG HOK HNO hS r0 r1 r2 f0 f1 f2 n0 n1 n2 hle hsl
          go_wp2_with fail
          refine Calls.mono HC.out ?_
          rintro e w5 ⟨rfl, hb5⟩
          replace st := st.below hb5
          have r0 := st.r.c0
          have r1 := st.r.c1
          have r2 := st.r.c2
          have f0 := st.rf 0
          have f1 := st.rf 1
          have f2 := st.rf 2
          have n0 := st.n.c0
          have n1 := st.n.c1
          have n2 := st.n.c2
          have HBd : Hid (Below Q w w5) := st.b
          have hsd : Q < w5.heap.size := st.ql
          clear st HC hb5 p0 p1 p2 k0 k1
          go_wp2
          obtain ⟨Y, hY, z0, z1, z2, hg⟩ := set3R (.string ⟨#[]⟩) (.slice none 0 0) (.slice none 0 0) r0 r1 r2
          rw [hY]
          refine bodyPost_ret (v := .tuple #[.agg #[.string ⟨#[]⟩, .slice none 0 0, .slice none 0 0], .bool false]) (by simp [results, Tryz.results48, go_sem, z0, z1, z2]) rfl ?_
          exact roZero7 HZ.out (by rw [hQ]; exact HBd.out.grown hg (by omega) (fun k e => by injection e with e; omega))

set_option maxHeartbeats 2000000 in
set_option maxRecDepth 100000 in
theorem implReadObject (l : List UInt8) (w : World) (hl : l.length ≤ 1048576) (ht : PowIs w) :
    Calls Tryz.prog 22 #[.string ⟨l.toArray⟩] w fun e w' => ∃ vi vf xs, e = .returned (.tuple #[.agg #[.string ⟨(readOV l).1.toArray⟩, vi, vf], .bool (readOB l)]) ∧ (xs : List RV).map (·.1) = (readOV l).2.2 ∧ w'.ownsRow w.heap.size 9 1 vi (readOV l).2.1.length (strV (readOV l).2.1) ∧ RtsOwn w' w.heap.size vf xs ∧ ApartR (xs.map rvT) ∧ Below w.heap.size w w' := by
  obtain ⟨W, hW⟩ : ∃ W, w.alloc (.cells #[.string ⟨#[]⟩, .slice none 0 0, .slice none 0 0] 43) = W := ⟨_, rfl⟩
  have hs : W.heap.size = w.heap.size + 1 := by rw [← hW]; simp
  have hb : Below w.heap.size w W := by rw [← hW]; exact (Below.refl _ _).alloc (Nat.le_refl _) _
  have hA : W.heap[w.heap.size]? = some (.cells #[.string ⟨#[]⟩, .slice none 0 0, .slice none 0 0] 43) := by rw [← hW]; exact heap_alloc_new w _
  have HC : Hid (_) := implReaderO l W hl (ht.below hb)
  obtain ⟨D, hD⟩ : ∃ D, w.heap.size = D := ⟨_, rfl⟩
  have HB : Hid (Below w.heap.size w W ∧ W.heap[D]? = some (.cells #[.string ⟨#[]⟩, .slice none 0 0, .slice none 0 0] 43)) := ⟨hb, hD ▸ hA⟩
  clear ht hb hA
  go_enter Tryz.func22, Tryz.ntmps22
  go_wp2_with fail
  refine Calls.mono HC.out ?_
  rintro e w1 ⟨vi, vf, xs, rfl, hm, hoi, hof, hap, hb1⟩
  obtain ⟨r0, r1, r2, fr⟩ := threeR hb1 (by omega) HB.out.2
  have f0 := fr 0
  have f1 := fr 1
  have f2 := fr 2
  have HF : Hid ((xs : List RV).map (·.1) = (readOV l).2.2 ∧ w1.ownsRow W.heap.size 9 1 vi (readOV l).2.1.length (strV (readOV l).2.1) ∧ RtsOwn w1 W.heap.size vf xs ∧ ApartR (xs.map rvT) ∧ Below w.heap.size w w1) := ⟨hm, hoi, hof, hap, HB.out.1.trans (hb1.mono HB.out.1.size)⟩
  obtain ⟨n1, hn1⟩ : ∃ n1, (readOV l).1 = n1 := ⟨_, rfl⟩
  have HN1 : Hid ((readOV l).1 = n1) := hn1
  have hvi : vi.oneCell' = true := by rcases own_forms hoi with ⟨rfl, _⟩ | ⟨g, cp, rfl⟩ <;> rfl
  have hvf : vf.oneCell' = true := by rcases own_forms hof.row with ⟨rfl, _⟩ | ⟨g, cp, rfl⟩ <;> rfl
  obtain ⟨ai, il, ci, rfl⟩ : ∃ a n c, vi = .slice a n c := by rcases own_forms hoi with ⟨rfl, h0, _⟩ | ⟨g, cp, rfl⟩; exact ⟨_, _, _, rfl⟩; exact ⟨_, _, _, rfl⟩
  obtain ⟨af, fl, cf, rfl⟩ : ∃ a n c, vf = .slice a n c := by rcases own_forms hof.row with ⟨rfl, h0, _⟩ | ⟨g, cp, rfl⟩; exact ⟨_, _, _, rfl⟩; exact ⟨_, _, _, rfl⟩
  rw [hn1]
  have hsW : W.heap.size = D + 1 := by omega
  clear HC hm hoi hof hap hb1 fr hn1 hvi hvf
  go_wp2
  obtain ⟨Y, hY, z0, z1, z2, hg⟩ := set3R (.string ⟨n1.toArray⟩) (.slice ai il ci) (.slice af fl cf) r0 r1 r2
  rw [hY]
  refine bodyPost_ret (v := .tuple #[.agg #[.string ⟨n1.toArray⟩, .slice ai il ci, .slice af fl cf], .bool (readOB l)]) (by simp [results, Tryz.results22, go_sem, z0, z1, z2]) rfl ?_
  obtain ⟨hm, hoi, hof, hap, hbw⟩ := HF.out
  rw [hsW] at hoi hof
  exact ⟨_, _, xs, by rw [HN1.out], hm, own_base (hoi.kept hg (own_offR hoi (by omega))) (by omega), (hof.kept hg (own_offR hof.row (by omega)) (fun y hy => own_offR (hof.trees y hy) (by omega))).base (by omega), hap, hbw.grown hg hbw.size (fun k e => by injection e with e; omega)⟩

end Go.Proofs.YtfhkiaogfopigaaGreatDoor

/-! An object that came in, as the walks take it. -/
namespace Go.Proofs.YtfhkiaogfopigaaGreatDoor
open Go.ChangeShapes Go.WideShapes Go.ChangeAt Go.RowKit Go.Joins Go.Deep

section
variable {H : Type} {enc : TypeId × Value → H} {W : World} {base : Nat} {spare : Nat → Bool} {held : Bool} {fuel : Nat} {v : Value} {x : DataW H × List MemPlace}

set_option maxRecDepth 100000 in
theorem trod_textsO (hf : DataW.trod enc Tryz.prog W base spare held fuel 37 [v] = some x) :
    ∃ a len cap ts, v = .slice a len cap ∧ TextsIn W a len ts ∧ len ≤ maxLen ∧ ∀ j, (ts.getD j []).length ≤ maxLen := by
  rcases open_strings Tryz.underlying37 Tryz.underlying9 (by kernel_rfl) hf with ⟨hcs, _⟩ | ⟨a, len, cap, ss, hcs, _, hl, hm, hlen, _, hcell, hsz⟩
  · simp at hcs
    subst hcs
    exact ⟨none, 0, 0, [], rfl, ⟨rfl, fun j hj => by omega⟩, by decide, fun j => by simp⟩
  · simp at hcs
    subst hcs
    have hls : len ≤ ss.length := by rw [hlen]; split <;> omega
    have hgd : ∀ j, j < len → ((ss.take len).map (fun s => s.data.toList)).getD j [] = (ss.getD j ByteArray.empty).data.toList := by
      intro j hj
      have hj2 : j < ss.length := by omega
      simp [List.getD, hj, hj2]
    refine ⟨some a, len, cap, (ss.take len).map (fun s => s.data.toList), rfl, ⟨by simp; omega, fun j hj => ?_⟩, by omega, fun j => ?_⟩
    · have hc := hcell j (by omega)
      have hsp : a.spot = none := by
        have h0 := hcell 0 (by omega)
        simpa [Addr.add] using World.cell?_spot h0
      obtain ⟨b, off, spot⟩ := a
      simp at hsp
      subst hsp
      have e : ∀ i, (⟨b, off, none⟩ : Addr).add i = ⟨b, off + i, none⟩ := fun i => by unfold Addr.add; split <;> simp_all
      rw [e] at hc
      refine ⟨b, off, rfl, World.block_lt_of_cell? W ⟨b, off + j, none⟩ hc, ?_⟩
      rw [hc, hgd j hj]
    · by_cases hj : j < len
      · rw [hgd j hj]
        have hj2 : j < ss.length := by omega
        have : ss.getD j ByteArray.empty ∈ ss := by simp [List.getD, hj2]
        have hz := hsz _ this
        simpa using hz
      · have : ((ss.take len).map (fun s => s.data.toList)).getD j [] = [] := by rw [List.getD, List.getElem?_eq_none (by simp; omega)]; rfl
        rw [this]; simp

end

theorem cellsObject : Tryz.prog.cellsOf 39 = 3 := by kernel_rfl
set_option maxRecDepth 100000 in
theorem open_object {H : Type} {enc : TypeId × Value → H} {W : World} {base b0 : Nat} {spare : Nat → Bool} {held : Bool} {v : Value} {d : DataW H} {p : List MemPlace}
    (hv : Value.okWide Tryz.prog W .any b0 39 v) (h : DataW.Trod enc Tryz.prog W base spare held 39 v d p) :
    ∃ nm ia il ic ims fa fl fc fs, v = .agg #[.string ⟨(nm : List UInt8).toArray⟩, .slice ia il ic, .slice fa fl fc] ∧ TextsIn W ia il ims ∧ RtsIn W fa fl fs ∧ nm.length ≤ maxLen ∧ il ≤ maxLen ∧ (∀ j, (ims.getD j []).length ≤ maxLen) ∧ fl ≤ maxLen ∧ LongR fs ∧ IntR fs := by
  obtain ⟨c0, c1, c2, y0, y1, y2, m, rfl, _, _, t0, t1, t2⟩ := open_agg3 Tryz.underlying39 (by kernel_rfl) cellsObject hv h
  obtain ⟨s0, e0, _, h0⟩ := DataW.trod_string Tryz.underlying9 t0
  simp at e0
  subst e0
  obtain ⟨ia, il, ic, ims, rfl, hi, hil, him⟩ := trod_textsO t1
  obtain ⟨fa, fl, fc, fs, rfl, hf, hfl, hlf, hif⟩ := trod_rts t2
  exact ⟨s0.data.toList, ia, il, ic, ims, fa, fl, fc, fs, rfl, hi, hf, h0, hil, him, hfl, hlf, hif⟩


end Go.Proofs.YtfhkiaogfopigaaGreatDoor
