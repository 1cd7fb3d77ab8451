/-
  Parts of one proof, one behind the other: PackJ3, Draw7G.
-/
import Derived.Test.YtibppdepgoiojaaGreatDoorP29
import Derived.Test.YtibppdepgoiojaaGreatDoorP16

/-! The contracts of chapter 7's landed code: the reader at packages, ReadPackage (written by gen_reader.py). -/
namespace Go.Proofs.YtibppdepgoiojaaGreatDoor
open Go.RowKit

/-- What the reader holds: its two functions (at Q), the answer's cells (at Q + 1), nothing (at Q + 2), the whole so far (at Q + 3), the lines. What the whole holds lies from B on. -/
structure RqP (X w : World) (Q B : Nat) (la : Option Addr) (ls : List (List UInt8)) (nm : List UInt8) (ims : List (List UInt8)) (xs : List FV) (ia : Option Addr) (ic : Nat) (fa : Option Addr) (fc : Nat) : Prop where
  p : Box3 X (Q + 3) (.string ⟨nm.toArray⟩) (.slice ia ims.length ic) (.slice fa xs.length fc)
  pf : ∀ j, X.frozen? ⟨Q + 3, j, none⟩ = false
  r : Box3 X (Q + 1) (.string ⟨#[]⟩) (.slice none 0 0) (.slice none 0 0)
  rf : ∀ j, X.frozen? ⟨Q + 1, j, none⟩ = false
  n : Box3 X (Q + 2) (.string ⟨#[]⟩) (.slice none 0 0) (.slice none 0 0)
  f0 : X.cell? ⟨Q, 0, none⟩ = some (.func (.func 28) #[] #[])
  f1 : X.cell? ⟨Q, 1, none⟩ = some (.func (.func 6) #[] #[])
  ln : TextsIn X la ls.length ls
  lb : ∀ b off, la = some ⟨b, off, none⟩ → b < B ∧ b ≠ Q + 3
  oi : X.ownsRow B 9 1 (.slice ia ims.length ic) ims.length (strV ims)
  fo : FnsOwn X B (.slice fa xs.length fc) xs
  ap : Apart (xs.map fvT)
  pb : Q + 3 < B
  b : Below Q w X
  bs : B ≤ X.heap.size

theorem TextsIn.keepP {w w' : World} {a : Option Addr} {len : Nat} {ts : List (List UInt8)} (h : TextsIn w a len ts) (hs : w.heap.size ≤ w'.heap.size) (hb : ∀ b off, a = some ⟨b, off, none⟩ → w'.heap[b]? = w.heap[b]?) : TextsIn w' a len ts := by
  refine ⟨h.1, fun j hj => ?_⟩
  obtain ⟨b, off, e, hlt, c⟩ := h.2 j hj
  exact ⟨b, off, e, Nat.lt_of_lt_of_le hlt hs, (World.cell?_of_block (a := ⟨b, off + j, none⟩) (hb b off e)).trans c⟩

section
variable {X Y w : World} {Q B : Nat} {la : Option Addr} {ls : List (List UInt8)} {nm : List UInt8} {ims : List (List UInt8)} {xs : List FV} {ia : Option Addr} {ic : Nat} {fa : Option Addr} {fc : Nat}

theorem RqP.ql (h : RqP X w Q B la ls nm ims xs ia ic fa fc) : Q < X.heap.size := World.block_lt_of_cell? X ⟨Q, 0, none⟩ h.f0
theorem RqP.below (h : RqP X w Q B la ls nm ims xs ia ic fa fc) (hb : Below X.heap.size X Y) : RqP Y w Q B la ls nm ims xs ia ic fa fc :=
  ⟨h.p.below hb, fun j => (hb.frozen (p := ⟨Q + 3, j, none⟩) h.p.lt).trans (h.pf j), h.r.below hb, fun j => (hb.frozen (p := ⟨Q + 1, j, none⟩) h.r.lt).trans (h.rf j), h.n.below hb, (hb.cell (p := ⟨Q, 0, none⟩) h.ql).trans h.f0, (hb.cell (p := ⟨Q, 1, none⟩) h.ql).trans h.f1, h.ln.below hb, h.lb, own_below h.oi hb, h.fo.below hb, h.ap, h.pb, h.b.trans (hb.mono (Nat.le_of_lt h.ql)), Nat.le_trans h.bs hb.size⟩

/-- What a line made of the whole is put in its place. -/
theorem RqP.put (h : RqP X w Q B la ls nm ims xs ia ic fa fc) (hb : Below B X Y) {nm' : List UInt8} {ims' : List (List UInt8)} {xs' : List FV} {ia' : Option Addr} {ic' : Nat} {fa' : Option Addr} {fc' : Nat}
    (oi : Y.ownsRow B 9 1 (.slice ia' ims'.length ic') ims'.length (strV ims')) (fo : FnsOwn Y B (.slice fa' xs'.length fc') xs') (ap : Apart (xs'.map fvT)) :
    (Box3 Y (Q + 3) (.string ⟨nm.toArray⟩) (.slice ia ims.length ic) (.slice fa xs.length fc) ∧ ∀ j, Y.frozen? ⟨Q + 3, j, none⟩ = false) ∧
    ∃ Z, ((Y.setCell ⟨Q + 3, 0, none⟩ (.string ⟨nm'.toArray⟩)).setCell ⟨Q + 3, 1, none⟩ (.slice ia' ims'.length ic')).setCell ⟨Q + 3, 2, none⟩ (.slice fa' xs'.length fc') = Z ∧ RqP Z w Q B la ls nm' ims' xs' ia' ic' fa' fc' := by
  have hpb := h.pb
  have hbs := h.bs
  have pY := h.p.keep (hb.block (Q + 3) hpb)
  have fY : ∀ j, Y.frozen? ⟨Q + 3, j, none⟩ = false := fun j => (World.frozen?_of_block (a := ⟨Q + 3, j, none⟩) (hb.block (Q + 3) hpb)).trans (h.pf j)
  obtain ⟨Z, hZ, z0, z1, z2, hg⟩ := set3 (.string ⟨nm'.toArray⟩) (.slice ia' ims'.length ic') (.slice fa' xs'.length fc') pY.c0 pY.c1 pY.c2
  refine ⟨⟨pY, fY⟩, Z, hZ, ?_⟩
  have hYB : B ≤ Y.heap.size := Nat.le_trans hbs hb.size
  have hk : ∀ k, k < B → k ≠ Q + 3 → Z.heap[k]? = X.heap[k]? := fun k hk hn => (hg.block k (Nat.lt_of_lt_of_le hk hYB) (fun e => hn (by injection e))).trans (hb.block k hk)
  have off : ∀ {e size n : Nat} {v : Value} {ys : List Value}, Y.ownsRow B e size v n ys → v.ownBlock = none ∨ v.ownBlock ≠ some (Q + 3) := fun ho => own_off ho hpb
  have h0 := hk Q (by omega) (by omega)
  have h1 := hk (Q + 1) (by omega) (by omega)
  have h2 := hk (Q + 2) (by omega) (by omega)
  refine ⟨⟨z0, z1, z2⟩, fun j => ?_, h.r.keep h1, fun j => (World.frozen?_of_block (a := ⟨Q + 1, j, none⟩) h1).trans (h.rf j), h.n.keep h2, (World.cell?_of_block (a := ⟨Q, 0, none⟩) h0).trans h.f0, (World.cell?_of_block (a := ⟨Q, 1, none⟩) h0).trans h.f1, h.ln.keepP (Nat.le_trans hb.size hg.size) (fun b off e => hk b (h.lb b off e).1 (h.lb b off e).2), h.lb, oi.kept hg (off oi), fo.kept hg (off fo.row) (fun y hy => off (fo.trees y hy)), ap, hpb, ?_, Nat.le_trans hYB hg.size⟩
  · rw [← hZ]
    simpa using fY j
  · exact (h.b.trans (hb.mono (by omega))).grown hg (by have := h.ql; have := hb.size; omega) (fun k e => by injection e with e; omega)
end

/-- How great what is read may be. -/
structure OkP (k : Nat) (p : Pk) : Prop where
  o : LoOk p
  il : p.2.1.length ≤ k
  fl : p.2.2.length ≤ k
theorem okP0 : OkP 0 pk0 := ⟨loOk0, by simp [pk0], by simp [pk0]⟩
theorem OkP.step {k : Nat} {p : Pk} (h : OkP k p) {x : List UInt8} (hx : x.length ≤ 1048576) : OkP (k + 1) (loLn p x) := by
  have hm := loLn_many p x
  exact ⟨h.o.step hx, by have := h.il; omega, by have := h.fl; omega⟩
theorem loLs_take0 (ls : List (List UInt8)) (k : Nat) (hk : k < ls.length) : loLs pk0 (ls.take (k + 1)) = loLn (loLs pk0 (ls.take k)) (ls.getD k []) := loLs_take pk0 ls k hk

theorem withTP (B : Nat) (nm x : List UInt8) (ia : Option Addr) (ic : Nat) (ims : List (List UInt8)) (fa : Option Addr) (fc : Nat) (xs : List FV) (w : World) (k : Nat) (hB : B ≤ w.heap.size) (hi : w.ownsRow B 9 1 (.slice ia ims.length ic) ims.length (strV ims)) (hf : FnsOwn w B (.slice fa xs.length fc) xs) (ha : Apart (xs.map fvT)) (hok : OkP k (nm, ims, xs.map (·.1))) (hk : k ≤ 1048576) (hx : x.length ≤ 1048576) (ht : PowIs w) :
    Calls Tryz.prog 28 #[.agg #[.string ⟨nm.toArray⟩, .slice ia ims.length ic, .slice fa xs.length fc], .string ⟨x.toArray⟩] w fun e w' => WlOut B w w' e (loLn (nm, ims, xs.map (·.1)) x) :=
  implWithLine B nm x ia ic ims fa fc xs w hB hi hf ha ht hx (by have := hok.il; simp only at this; omega) (by have := hok.fl; simp only [List.length_map] at this; omega)
set_option maxHeartbeats 4000000 in
set_option maxRecDepth 100000 in
theorem showTP (nm : List UInt8) (ia : Option Addr) (ic : Nat) (ims : List (List UInt8)) (fa : Option Addr) (fc : Nat) (xs : List FV) (w : World) (k B : Nat) (hi : w.ownsRow B 9 1 (.slice ia ims.length ic) ims.length (strV ims)) (hf : FnsOwn w B (.slice fa xs.length fc) xs) (hok : OkP k (nm, ims, xs.map (·.1))) (hk : k ≤ 1048576) (ht : PowIs w) :
    Calls Tryz.prog 6 #[.agg #[.string ⟨nm.toArray⟩, .slice ia ims.length ic, .slice fa xs.length fc]] w fun e w' => e = .returned (.string ⟨(showPk (nm, ims, xs.map (·.1))).toArray⟩) ∧ Below w.heap.size w w' := by
  obtain ⟨ai, ci, e1, h1, h3⟩ := own_texts0 hi
  obtain ⟨af, cf, e2, h2, h4⟩ := hf.in
  injection e1 with e1 _ e1c
  injection e2 with e2 _ e2c
  subst e1 e1c e2 e2c
  have hcp : xs.length ≤ fc := by
    rcases hf.row.2 with ⟨e, h0⟩ | ⟨g, cap, cur, e, _, _, hc, _⟩
    · rw [h0]; exact Nat.zero_le _
    · injection e with _ _ e3
      rw [e3]; exact hc
  have hI : IntF (xs.map (·.1)) := hok.o.i
  have hS : ShortP nm ims (xs.map (·.1)) := hok.o.s
  have hil : ims.length ≤ k := hok.il
  have hfl : xs.length ≤ k := by have := hok.fl; simp only [List.length_map] at this; exact this
  have hP : PkOk w nm ia ims.length ic fa xs.length fc ims (xs.map (·.1)) := ⟨h3, h4, h1, ⟨h2, hcp⟩, hI, Nat.le_trans hil hk, Nat.le_trans hfl hk, hS.n, hS.i, hS.f⟩
  exact implShowPackage nm ia ims.length ic fa xs.length fc ims (xs.map (·.1)) w hP ht

def RpOut7 (w : World) (l : List UInt8) (e : Ending) (w' : World) : Prop :=
  ∃ vi vf xs, e = .returned (.tuple #[.agg #[.string ⟨(readPV l).1.toArray⟩, vi, vf], .bool (readPB l)]) ∧ (xs : List FV).map (·.1) = (readPV l).2.2 ∧ w'.ownsRow w.heap.size 9 1 vi (readPV l).2.1.length (strV (readPV l).2.1) ∧ FnsOwn w' w.heap.size vf xs ∧ Apart (xs.map fvT) ∧ Below w.heap.size w w'
theorem rpZero7 {w Y : World} {l : List UInt8} (hz : readPB l = false ∧ readPV l = pk0) (hb : Below w.heap.size w Y) : RpOut7 w l (.returned (.tuple #[.agg #[.string ⟨#[]⟩, .slice none 0 0, .slice none 0 0], .bool false])) Y :=
  ⟨.slice none 0 0, .slice none 0 0, [], by rw [hz.1, hz.2]; rfl, by rw [hz.2]; rfl, by rw [hz.2]; exact World.ownsRow_nil Y _ _ _, FnsOwn.nil _ _, Apart.nil, hb⟩

set_option maxHeartbeats 4000000 in
set_option maxRecDepth 100000 in
theorem implReaderP (l : List UInt8) (w : World) (hl : l.length ≤ 1048576) (ht : PowIs w) :
    Calls Tryz.prog 29 #[.agg #[.func (.func 28) #[] #[], .func (.func 6) #[] #[]], .string ⟨l.toArray⟩] w fun e w' => RpOut7 w l e w' := by
  obtain ⟨W0, hW0⟩ : ∃ W, w.alloc (.cells #[.func (.func 28) #[] #[], .func (.func 6) #[] #[]] 55) = W := ⟨_, rfl⟩
  obtain ⟨W1, hW1⟩ : ∃ W, W0.alloc (.cells #[.string ⟨#[]⟩, .slice none 0 0, .slice none 0 0] 27) = W := ⟨_, rfl⟩
  obtain ⟨W2, hW2⟩ : ∃ W, W1.alloc (.cells #[.string ⟨#[]⟩, .slice none 0 0, .slice none 0 0] 27) = W := ⟨_, rfl⟩
  obtain ⟨W, hW⟩ : ∃ W, W2.alloc (.cells #[.string ⟨#[]⟩, .slice none 0 0, .slice none 0 0] 27) = W := ⟨_, rfl⟩
  have hs0 : W0.heap.size = w.heap.size + 1 := by rw [← hW0]; simp
  have hs1 : W1.heap.size = w.heap.size + 2 := by rw [← hW1]; simp [hs0]
  have hs2 : W2.heap.size = w.heap.size + 3 := by rw [← hW2]; simp [hs1]
  have hs3 : W.heap.size = w.heap.size + 4 := by rw [← hW]; simp [hs2]
  have hb0 : Below w.heap.size w W0 := by rw [← hW0]; exact (Below.refl _ _).alloc (Nat.le_refl _) _
  have hb1 : Below W0.heap.size W0 W1 := by rw [← hW1]; exact (Below.refl _ _).alloc (Nat.le_refl _) _
  have hb2 : Below W1.heap.size W1 W2 := by rw [← hW2]; exact (Below.refl _ _).alloc (Nat.le_refl _) _
  have hb3 : Below W2.heap.size W2 W := by rw [← hW]; exact (Below.refl _ _).alloc (Nat.le_refl _) _
  have hB2 : Below W1.heap.size W1 W := hb2.trans (hb3.mono (by omega))
  have hB1 : Below W0.heap.size W0 W := hb1.trans (hB2.mono (by omega))
  have hB : Below w.heap.size w W := hb0.trans (hB1.mono hb0.size)
  have hA0 : W0.heap[w.heap.size]? = some (.cells #[.func (.func 28) #[] #[], .func (.func 6) #[] #[]] 55) := by rw [← hW0]; exact heap_alloc_new w _
  have hA1 : W1.heap[w.heap.size + 1]? = some (.cells #[.string ⟨#[]⟩, .slice none 0 0, .slice none 0 0] 27) := by rw [← hs0, ← hW1]; exact heap_alloc_new W0 _
  have hA2 : W2.heap[w.heap.size + 2]? = some (.cells #[.string ⟨#[]⟩, .slice none 0 0, .slice none 0 0] 27) := by rw [← hs1, ← hW2]; exact heap_alloc_new W1 _
  have hA3 : W.heap[w.heap.size + 3]? = some (.cells #[.string ⟨#[]⟩, .slice none 0 0, .slice none 0 0] 27) := by rw [← hs2, ← hW]; exact heap_alloc_new W2 _
  have hR0 : W.heap[w.heap.size]? = some (.cells #[.func (.func 28) #[] #[], .func (.func 6) #[] #[]] 55) := (hB1.block _ (by omega)).trans hA0
  have hR1 : W.heap[w.heap.size + 1]? = some (.cells #[.string ⟨#[]⟩, .slice none 0 0, .slice none 0 0] 27) := (hB2.block _ (by omega)).trans hA1
  have hR2 : W.heap[w.heap.size + 2]? = some (.cells #[.string ⟨#[]⟩, .slice none 0 0, .slice none 0 0] 27) := (hb3.block _ (by omega)).trans hA2
  have HLi : Hid (_) := implLines l W hl
  have HPWX : Hid (∀ {X : World}, Below w.heap.size w X → PowIs X) := fun {X} hb => ht.below hb
  obtain ⟨Q, hQ⟩ : ∃ Q, w.heap.size = Q := ⟨_, rfl⟩
  rw [hQ] at hs0 hs1 hs2 hs3 HPWX hR0 hR1 hR2 hA3 hB
  have HR : Hid (W.heap[Q]? = some (.cells #[.func (.func 28) #[] #[], .func (.func 6) #[] #[]] 55) ∧ W.heap[Q + 1]? = some (.cells #[.string ⟨#[]⟩, .slice none 0 0, .slice none 0 0] 27) ∧ W.heap[Q + 2]? = some (.cells #[.string ⟨#[]⟩, .slice none 0 0, .slice none 0 0] 27) ∧ W.heap[Q + 3]? = some (.cells #[.string ⟨#[]⟩, .slice none 0 0, .slice none 0 0] 27) ∧ Below Q w W) := ⟨hR0, hR1, hR2, hA3, hB⟩
  have hn := linesL_le l
  have hll : ∀ j, ((linesL l).getD j []).length ≤ l.length := line_len l
  have HNO : Hid (showPk (loLs pk0 (linesL l)) ≠ l → readPB l = false ∧ readPV l = pk0) := lo_no
  obtain ⟨ls, hls⟩ : ∃ ls, linesL l = ls := ⟨_, rfl⟩
  rw [hls] at HLi hn hll HNO
  have HLL : Hid (∀ j, (ls.getD j []).length ≤ l.length) := hll
  have eg1 : ∀ args w, (callFunc 28 args).run Tryz.prog w = .ok (.enter 28 args) w := enters_of Tryz.func28 (by kernel_rfl) rfl
  have eg2 : ∀ args w, (callFunc 6 args).run Tryz.prog w = .ok (.enter 6 args) w := enters_of Tryz.func6 (by kernel_rfl) rfl
  clear hb0 hb1 hb2 hb3 hB1 hB2 hA0 hA1 hA2 hA3 hR0 hR1 hR2 ht hls hll hB
  go_enter Tryz.func29, Tryz.ntmps29
  go_wp2_with fail
  refine Calls.mono HLi.out ?_
  rintro e w3 ⟨v, rfl, hown, hb3⟩
  obtain ⟨la, lc, rfl, _, hin⟩ := own_texts0 hown
  have hlb : ∀ b off, la = some ⟨b, off, none⟩ → b < w3.heap.size ∧ b ≠ Q + 3 := fun b off e => by
    rcases own_forms hown with ⟨e2, _⟩ | ⟨g, cp, e2⟩
    · injection e2 with e2; rw [e2] at e; cases e
    · injection e2 with e2
      have hlt := hown.lt g (by rw [e2]; rfl)
      rw [e2] at e
      injection e with e
      injection e with e
      omega
  have hs3b := hb3.size
  obtain ⟨q0, q1, q2, q3, hBW⟩ := HR.out
  obtain ⟨r0, r1, r2, fr⟩ := three hb3 (by omega) q1
  obtain ⟨m0, m1, m2, _⟩ := three hb3 (by omega) q2
  obtain ⟨p0, p1, p2, fp⟩ := three hb3 (by omega) q3
  have k0 : w3.cell? ⟨Q, 0, none⟩ = some (.func (.func 28) #[] #[]) := (hb3.cell (p := ⟨Q, 0, none⟩) (by show Q < _; omega)).trans (by simp [World.cell?, q0])
  have k1 : w3.cell? ⟨Q, 1, none⟩ = some (.func (.func 6) #[] #[]) := (hb3.cell (p := ⟨Q, 1, none⟩) (by show Q < _; omega)).trans (by simp [World.cell?, q0])
  obtain ⟨B, hBe⟩ : ∃ B, w3.heap.size = B := ⟨_, rfl⟩
  rw [hBe] at hlb hs3b
  have HST0 : Hid (RqP w3 w Q B la ls [] [] [] none 0 none 0) := ⟨⟨p0, p1, p2⟩, fp, ⟨r0, r1, r2⟩, fr, ⟨m0, m1, m2⟩, k0, k1, hin, hlb, World.ownsRow_nil _ _ _ _, FnsOwn.nil _ _, Apart.nil, by omega, hBW.trans (hb3.mono (by omega)), by omega⟩
  clear hown hlb r0 r1 r2 fr m0 m1 m2 p0 p1 p2 fp k0 k1 hin HLi hBe q0 q1 q2 q3 hBW HR hb3
  go_wp2
  go_loopw [13] (fun iv wr => ∃ (k : Nat) (nm : List UInt8) (ims : List (List UInt8)) (xs : List FV) (ia : Option Addr) (ic : Nat) (fa : Option Addr) (fc : Nat), iv = .int .i64 k ∧ k ≤ ls.length ∧ Hid (RqP wr w Q B la ls nm ims xs ia ic fa fc) ∧ Hid ((nm, ims, xs.map (·.1)) = loLs pk0 (ls.take k)) ∧ Hid (OkP k (nm, ims, xs.map (·.1)))) (fun iv _ => ls.length - (intOf iv).toNat)
  case atStart => exact ⟨0, [], [], [], none, 0, none, 0, rfl, by omega, HST0, (rfl : (([] : List UInt8), ([] : List (List UInt8)), ([] : List FV).map (·.1)) = loLs pk0 (ls.take 0)), okP0⟩
  case round =>
    obtain ⟨k, nm, ims, xs, ia, ic, fa, fc, rfl, hk, HST, HG, HOK⟩ := hrel
    clear HST0
    have st := HST.out
    clear HST
    have p0 := st.p.c0
    have p1 := st.p.c1
    have p2 := st.p.c2
    have k0 := st.f0
    have k1 := st.f1
    by_cases hkl : (k : Int) < (ls.length : Int)
    · have hk2 : k < ls.length := by omega
      obtain ⟨b, off, rfl, hbl, c0⟩ := st.ln.2 k hk2
      have hxl := HLL.out k
      have hg := loLs_take0 ls k hk2
      obtain ⟨x, hx⟩ : ∃ x, ls.getD k [] = x := ⟨_, rfl⟩
      rw [hx] at c0 hxl hg
      rw [← HG.out] at hg
      have HG2 : Hid (loLs pk0 (ls.take (k + 1)) = loLn (nm, ims, xs.map (·.1)) x) := hg
      have HOK2 : Hid (OkP (k + 1) (loLn (nm, ims, xs.map (·.1)) x)) := HOK.out.step (by omega)
      have HC : Hid (_) := withTP B nm x ia ic ims fa fc xs wr k st.bs st.oi st.fo st.ap HOK.out (by omega) (by omega) (HPWX.out st.b)
      generalize loLn (nm, ims, xs.map (·.1)) x = q at HC HG2 HOK2
      clear hx hg HG HOK
      go_wp2_with fail
      refine Calls.mono HC.out ?_
      rintro e w4 ⟨nm', ims', xs', ia', ic', fa', fc', rfl, rfl, oi', fo', ap', hb4⟩
      obtain ⟨⟨pY, fY⟩, Z, hZ, st2⟩ := st.put (nm' := nm') hb4 oi' fo' ap'
      have HST2 : Hid (RqP Z w Q B (some ⟨b, off, none⟩) ls nm' ims' xs' ia' ic' fa' fc') := st2
      have y0 := pY.c0
      have y1 := pY.c1
      have y2 := pY.c2
      have yf0 := fY 0
      have yf1 := fY 1
      have yf2 := fY 2
      have HG3 : Hid ((nm', ims', xs'.map (·.1)) = loLs pk0 (ls.take (k + 1))) := HG2.out.symm
      clear st st2 HC oi' fo' ap' hb4 pY fY p0 p1 p2 k0 k1 HG2
      go_wp2
      go_roundw
      case rel => exact ⟨k + 1, nm', ims', xs', ia', ic', fa', fc', by go_num, by omega, HST2, HG3, HOK2⟩
      case measure => simp [intOf]; omega
    · obtain rfl : k = ls.length := by omega
      have hG := HG.out
      rw [List.take_of_length_le (Nat.le_refl _)] at hG
      have r0 := st.r.c0
      have r1 := st.r.c1
      have r2 := st.r.c2
      have f0 := st.rf 0
      have f1 := st.rf 1
      have f2 := st.rf 2
      have n0 := st.n.c0
      have n1 := st.n.c1
      have n2 := st.n.c2
      by_cases hle : l = []
      · subst hle
        have HZ : Hid (readPB [] = false ∧ readPV [] = pk0) := lo_nil
        have HBd : Hid (Below Q w wr) := st.b
        have hsd : Q < wr.heap.size := st.ql
        have he : (([] : List UInt8) == []) = true := by decide
        clear st hG HG HOK HNO p0 p1 p2 k0 k1
        go_wp2
        obtain ⟨Y, hY, z0, z1, z2, hg⟩ := set3 (.string ⟨#[]⟩) (.slice none 0 0) (.slice none 0 0) r0 r1 r2
        rw [hY]
        refine bodyPost_ret (v := .tuple #[.agg #[.string ⟨#[]⟩, .slice none 0 0, .slice none 0 0], .bool false]) (by simp [results, Tryz.results29, go_sem, z0, z1, z2]) rfl ?_
        exact rpZero7 HZ.out (by rw [hQ]; exact HBd.out.grown hg (by omega) (fun k e => by injection e with e; omega))
      · have he : (l == []) = false := beq_eq_false_iff_ne.2 hle
        have he2 : l.isEmpty = false := by rw [List.isEmpty_eq_false_iff]; exact hle
        have HC : Hid (_) := showTP nm ia ic ims fa fc xs wr ls.length B st.oi st.fo HOK.out (by omega) (HPWX.out st.b)
        obtain ⟨S, hS⟩ : ∃ S, showPk (nm, ims, xs.map (·.1)) = S := ⟨_, rfl⟩
        rw [hS] at HC
        by_cases hsl : S = l
        · have hy := lo_yes hle (hS.trans hsl)
          have HY : Hid (readPB l = true ∧ readPV l = (nm, ims, xs.map (·.1))) := hy
          have hne : (S != l) = false := by rw [bne_eq_false_iff_eq]; exact hsl
          have hne2 : (S == l) = true := by rw [beq_iff_eq]; exact hsl
          clear hy hG HG HOK HNO hS r0 r1 r2 f0 f1 f2 n0 n1 n2 hle hsl
          go_wp2_with fail
          refine Calls.mono HC.out ?_
          rintro e w5 ⟨rfl, hb5⟩
          replace st := st.below hb5
          have r0 := st.r.c0
          have r1 := st.r.c1
          have r2 := st.r.c2
          have f0 := st.rf 0
          have f1 := st.rf 1
          have f2 := st.rf 2
          replace p0 := st.p.c0
          replace p1 := st.p.c1
          replace p2 := st.p.c2
          have HST : Hid (RqP w5 w Q B la ls nm ims xs ia ic fa fc) := st
          have hdb : Q + 1 < B := by have := st.pb; omega
          clear st HC hb5 k0 k1
          go_wp2
          obtain ⟨Y, hY, z0, z1, z2, hg⟩ := set3 (.string ⟨nm.toArray⟩) (.slice ia ims.length ic) (.slice fa xs.length fc) r0 r1 r2
          rw [hY]
          refine bodyPost_ret (v := .tuple #[.agg #[.string ⟨nm.toArray⟩, .slice ia ims.length ic, .slice fa xs.length fc], .bool true]) (by simp [results, Tryz.results29, go_sem, z0, z1, z2]) rfl ?_
          have so := HST.out
          have hsd : Q ≤ w5.heap.size := Nat.le_of_lt so.ql
          unfold RpOut7
          rw [HY.out.1, HY.out.2, hQ]
          exact ⟨_, _, xs, rfl, rfl, own_base (so.oi.kept hg (own_off so.oi hdb)) (by omega), (so.fo.kept hg (own_off so.fo.row hdb) (fun y hy => own_off (so.fo.trees y hy) hdb)).base (by omega), so.ap, so.b.grown hg hsd (fun k e => by injection e with e; omega)⟩
        · have HZ : Hid (readPB l = false ∧ readPV l = pk0) := HNO.out (by rw [← hG, hS]; exact hsl)
          have hne : (S != l) = true := by rw [bne_iff_ne]; exact hsl
          have hne2 : (S == l) = false := by rw [beq_eq_false_iff_ne]; exact hsl
          clear hG HG HOK HNO hS r0 r1 r2 f0 f1 f2 n0 n1 n2 hle hsl
          go_wp2_with fail
          refine Calls.mono HC.out ?_
          rintro e w5 ⟨rfl, hb5⟩
          replace st := st.below hb5
          have r0 := st.r.c0
          have r1 := st.r.c1
          have r2 := st.r.c2
          have f0 := st.rf 0
          have f1 := st.rf 1
          have f2 := st.rf 2
          have n0 := st.n.c0
          have n1 := st.n.c1
          have n2 := st.n.c2
          have HBd : Hid (Below Q w w5) := st.b
          have hsd : Q < w5.heap.size := st.ql
          clear st HC hb5 p0 p1 p2 k0 k1
          go_wp2
          obtain ⟨Y, hY, z0, z1, z2, hg⟩ := set3 (.string ⟨#[]⟩) (.slice none 0 0) (.slice none 0 0) r0 r1 r2
          rw [hY]
          refine bodyPost_ret (v := .tuple #[.agg #[.string ⟨#[]⟩, .slice none 0 0, .slice none 0 0], .bool false]) (by simp [results, Tryz.results29, go_sem, z0, z1, z2]) rfl ?_
          exact rpZero7 HZ.out (by rw [hQ]; exact HBd.out.grown hg (by omega) (fun k e => by injection e with e; omega))

set_option maxHeartbeats 2000000 in
set_option maxRecDepth 100000 in
theorem implReadPackage (l : List UInt8) (w : World) (hl : l.length ≤ 1048576) (ht : PowIs w) :
    Calls Tryz.prog 8 #[.string ⟨l.toArray⟩] w fun e w' => ∃ vi vf xs, e = .returned (.tuple #[.agg #[.string ⟨(readPV l).1.toArray⟩, vi, vf], .bool (readPB l)]) ∧ (xs : List FV).map (·.1) = (readPV l).2.2 ∧ w'.ownsRow w.heap.size 9 1 vi (readPV l).2.1.length (strV (readPV l).2.1) ∧ FnsOwn w' w.heap.size vf xs ∧ Apart (xs.map fvT) ∧ Below w.heap.size w w' := by
  obtain ⟨W, hW⟩ : ∃ W, w.alloc (.cells #[.string ⟨#[]⟩, .slice none 0 0, .slice none 0 0] 27) = W := ⟨_, rfl⟩
  have hs : W.heap.size = w.heap.size + 1 := by rw [← hW]; simp
  have hb : Below w.heap.size w W := by rw [← hW]; exact (Below.refl _ _).alloc (Nat.le_refl _) _
  have hA : W.heap[w.heap.size]? = some (.cells #[.string ⟨#[]⟩, .slice none 0 0, .slice none 0 0] 27) := by rw [← hW]; exact heap_alloc_new w _
  have HC : Hid (_) := implReaderP l W hl (ht.below hb)
  obtain ⟨D, hD⟩ : ∃ D, w.heap.size = D := ⟨_, rfl⟩
  have HB : Hid (Below w.heap.size w W ∧ W.heap[D]? = some (.cells #[.string ⟨#[]⟩, .slice none 0 0, .slice none 0 0] 27)) := ⟨hb, hD ▸ hA⟩
  clear ht hb hA
  go_enter Tryz.func8, Tryz.ntmps8
  go_wp2_with fail
  refine Calls.mono HC.out ?_
  rintro e w1 ⟨vi, vf, xs, rfl, hm, hoi, hof, hap, hb1⟩
  obtain ⟨r0, r1, r2, fr⟩ := three hb1 (by omega) HB.out.2
  have f0 := fr 0
  have f1 := fr 1
  have f2 := fr 2
  have HF : Hid ((xs : List FV).map (·.1) = (readPV l).2.2 ∧ w1.ownsRow W.heap.size 9 1 vi (readPV l).2.1.length (strV (readPV l).2.1) ∧ FnsOwn w1 W.heap.size vf xs ∧ Apart (xs.map fvT) ∧ Below w.heap.size w w1) := ⟨hm, hoi, hof, hap, HB.out.1.trans (hb1.mono HB.out.1.size)⟩
  obtain ⟨n1, hn1⟩ : ∃ n1, (readPV l).1 = n1 := ⟨_, rfl⟩
  have HN1 : Hid ((readPV l).1 = n1) := hn1
  have hvi : vi.oneCell' = true := by rcases own_forms hoi with ⟨rfl, _⟩ | ⟨g, cp, rfl⟩ <;> rfl
  have hvf : vf.oneCell' = true := by rcases own_forms hof.row with ⟨rfl, _⟩ | ⟨g, cp, rfl⟩ <;> rfl
  obtain ⟨ai, il, ci, rfl⟩ : ∃ a n c, vi = .slice a n c := by rcases own_forms hoi with ⟨rfl, h0, _⟩ | ⟨g, cp, rfl⟩; exact ⟨_, _, _, rfl⟩; exact ⟨_, _, _, rfl⟩
  obtain ⟨af, fl, cf, rfl⟩ : ∃ a n c, vf = .slice a n c := by rcases own_forms hof.row with ⟨rfl, h0, _⟩ | ⟨g, cp, rfl⟩; exact ⟨_, _, _, rfl⟩; exact ⟨_, _, _, rfl⟩
  rw [hn1]
  have hsW : W.heap.size = D + 1 := by omega
  clear HC hm hoi hof hap hb1 fr hn1 hvi hvf
  go_wp2
  obtain ⟨Y, hY, z0, z1, z2, hg⟩ := set3 (.string ⟨n1.toArray⟩) (.slice ai il ci) (.slice af fl cf) r0 r1 r2
  rw [hY]
  refine bodyPost_ret (v := .tuple #[.agg #[.string ⟨n1.toArray⟩, .slice ai il ci, .slice af fl cf], .bool (readPB l)]) (by simp [results, Tryz.results8, go_sem, z0, z1, z2]) rfl ?_
  obtain ⟨hm, hoi, hof, hap, hbw⟩ := HF.out
  rw [hsW] at hoi hof
  exact ⟨_, _, xs, by rw [HN1.out], hm, own_base (hoi.kept hg (own_off hoi (by omega))) (by omega), (hof.kept hg (own_off hof.row (by omega)) (fun y hy => own_off (hof.trees y hy) (by omega))).base (by omega), hap, hbw.grown hg hbw.size (fun k e => by injection e with e; omega)⟩

end Go.Proofs.YtibppdepgoiojaaGreatDoor

/-! The contract of DrawFuncOf. -/
namespace Go.Proofs.YtibppdepgoiojaaGreatDoor
open Go.RowKit

/-- What DrawFuncOf holds: its answer's zero cells (at R), the package (at P). -/
structure Fo7 (X w : World) (B : Nat) (a : Option Addr) (len cap R P b : Nat) (nm : List UInt8) (ia : Option Addr) (ic : Nat) (ims : List (List UInt8)) (fa : Option Addr) (fc : Nat) (xs : List FV) : Prop where
  p : Box3 X P (.string ⟨nm.toArray⟩) (.slice ia ims.length ic) (.slice fa xs.length fc)
  r : Box3 X R (.string ⟨#[]⟩) (.slice none 0 0) (.slice none 0 0) ∧ ∀ j, X.frozen? ⟨R, j, none⟩ = false
  im : X.ownsRow b 9 1 (.slice ia ims.length ic) ims.length (strV ims)
  fo : FnsOwn X b (.slice fa xs.length fc) xs
  cur : Cur X B a len cap
  bl : Below w.heap.size w X
  wr : w.heap.size = R
  br : R < B
  bb : B < b
  bp : b ≤ P

section
variable {X Y w : World} {B : Nat} {a : Option Addr} {len cap R P b : Nat} {nm : List UInt8} {ia : Option Addr} {ic : Nat} {ims : List (List UInt8)} {fa : Option Addr} {fc : Nat} {xs : List FV}
theorem Fo7.next (h : Fo7 X w B a len cap R P b nm ia ic ims fa fc xs) (hg : X.grownBy Y (some B)) (hc : Cur Y B a len cap) : Fo7 Y w B a len cap R P b nm ia ic ims fa fc xs :=
  have h1 := h.br
  have h2 := h.bb
  have h3 := h.bp
  have h4 := h.wr
  ⟨h.p.grown hg (fun e => by injection e with e; omega), box_on h.r hg (by omega), own_grown h.im hg (fun k e => by injection e with e; omega), h.fo.grown hg (fun k e => by injection e with e; omega), hc, h.bl.grown hg h.bl.size (fun k e => by injection e with e; omega), h.wr, h.br, h.bb, h.bp⟩
theorem Fo7.made (h : Fo7 X w B a len cap R P b nm ia ic ims fa fc xs) (hg : X.grownBy Y none) : Fo7 Y w B a len cap R P b nm ia ic ims fa fc xs :=
  h.next ⟨hg.os, hg.tape, hg.output, hg.size, fun k hk _ => hg.block k hk (by simp)⟩ (h.cur.kept hg (by simp))
theorem Fo7.alloc (h : Fo7 X w B a len cap R P b nm ia ic ims fa fc xs) (o : Obj) : Fo7 (X.alloc o) w B a len cap R P b nm ia ic ims fa fc xs := h.made (World.grownBy_alloc X o none)
theorem Fo7.drew (h : Fo7 X w B a len cap R P b nm ia ic ims fa fc xs) : Fo7 X.drew w B a len cap R P b nm ia ic ims fa fc xs := h.made (grown_drew X none)
theorem Fo7.end (h : Fo7 X w B a len cap R P b nm ia ic ims fa fc xs) (h1 : nm.length ≤ 9) (h2 : ims.length ≤ 4 ∧ ∀ t ∈ ims, t.length ≤ 9) (h3 : 1 ≤ xs.length ∧ xs.length ≤ 4) (h4 : SmallXs xs) (hg : X.grownBy Y (some R)) : Drawn7 w Y (.agg #[.string ⟨nm.toArray⟩, .slice ia ims.length ic, .slice fa xs.length fc]) nm ims xs ∧ Below w.heap.size w Y := by
  have e1 := h.br
  have e2 := h.bb
  have e4 := h.wr
  have hr : ∀ k, some R = some k → k < b := fun k e => by injection e with e; omega
  exact ⟨⟨ia, ic, fa, fc, rfl, h1, h2, h3, h4, own_base (own_grown h.im hg hr) (by omega), (h.fo.grown hg hr).base (by omega)⟩, h.bl.grown hg h.bl.size (fun k e => by injection e with e; omega)⟩
end

def strs5 : List Value := [.string ⟨#[102]⟩, .string ⟨#[103]⟩, .string ⟨#[104]⟩, .string ⟨#[109, 97, 105, 110]⟩, .string ⟨#[]⟩]
theorem str5_at (k : Nat) (hk : k < 5) : ∃ fn : List UInt8, fn.length ≤ 4 ∧ (∀ h, ([.string ⟨#[102]⟩, .string ⟨#[103]⟩, .string ⟨#[104]⟩, .string ⟨#[109, 97, 105, 110]⟩, .string ⟨#[]⟩] : List Value)[k]'h = Value.string ⟨fn.toArray⟩) ∧ strs5[k]? = some (Value.string ⟨fn.toArray⟩) := by
  rcases (show k = 0 ∨ k = 1 ∨ k = 2 ∨ k = 3 ∨ k = 4 by omega) with rfl | rfl | rfl | rfl | rfl
  · exact ⟨[102], by decide, fun _ => rfl, rfl⟩
  · exact ⟨[103], by decide, fun _ => rfl, rfl⟩
  · exact ⟨[104], by decide, fun _ => rfl, rfl⟩
  · exact ⟨[109, 97, 105, 110], by decide, fun _ => rfl, rfl⟩
  · exact ⟨[], by decide, fun _ => rfl, rfl⟩
theorem row5_at {V Y : World} {B k : Nat} {v : Value} (hg : (V.alloc (.cells #[.string ⟨#[102]⟩, .string ⟨#[103]⟩, .string ⟨#[104]⟩, .string ⟨#[109, 97, 105, 110]⟩, .string ⟨#[]⟩] 9)).drew.grownBy Y (some B)) (hB : B < V.heap.size) (hk : strs5[k]? = some v) : Y.cell? ⟨V.heap.size, k, none⟩ = some v := by
  have h0 := World.ownsRow_lit (base := V.heap.size) (e := 9) (size := 1) V #[.string ⟨#[102]⟩, .string ⟨#[103]⟩, .string ⟨#[104]⟩, .string ⟨#[109, 97, 105, 110]⟩, .string ⟨#[]⟩] 5 (Nat.le_refl _) (by decide) rfl
  have h1 : Y.ownsRow V.heap.size 9 1 (.slice (some ⟨V.heap.size, 0, none⟩) 5 5) 5 strs5 := own_grown (w := (V.alloc (.cells #[.string ⟨#[102]⟩, .string ⟨#[103]⟩, .string ⟨#[104]⟩, .string ⟨#[109, 97, 105, 110]⟩, .string ⟨#[]⟩] 9)).drew) h0 hg (fun q e => by injection e with e; omega)
  have hk5 : k < 5 := by rcases Nat.lt_or_ge k 5 with h | h; · exact h
                         · rw [List.getElem?_eq_none (by show 5 ≤ k; exact h)] at hk; cases hk
  exact (World.ownsRow.cellAt h1 k (by omega)).trans hk

theorem set3_at {X : World} {R k j : Nat} {v : Value} (h : X.cell? ⟨k, j, none⟩ = some v) (hk : k ≠ R) (u0 u1 u2 : Value) : (((X.setCell ⟨R, 0, none⟩ u0).setCell ⟨R, 1, none⟩ u1).setCell ⟨R, 2, none⟩ u2).cell? ⟨k, j, none⟩ = some v := by
  have hne : ∀ i, (⟨R, i, none⟩ : Addr).block ≠ (⟨k, j, none⟩ : Addr).block := fun i e => hk e.symm
  exact (World.cell?_setCell_other _ _ _ _ (fun e => hne 2 (by rw [e]))).trans ((World.cell?_setCell_other _ _ _ _ (fun e => hne 1 (by rw [e]))).trans ((World.cell?_setCell_other _ _ _ _ (fun e => hne 0 (by rw [e]))).trans h))
theorem new5_at {V : World} {k : Nat} {v : Value} (hk : strs5[k]? = some v) : (V.alloc (.cells #[.string ⟨#[102]⟩, .string ⟨#[103]⟩, .string ⟨#[104]⟩, .string ⟨#[109, 97, 105, 110]⟩, .string ⟨#[]⟩] 9)).cell? ⟨V.heap.size, k, none⟩ = some v := by
  have h1 : (V.alloc (.cells #[.string ⟨#[102]⟩, .string ⟨#[103]⟩, .string ⟨#[104]⟩, .string ⟨#[109, 97, 105, 110]⟩, .string ⟨#[]⟩] 9)).ownsRow V.heap.size 9 1 (.slice (some ⟨V.heap.size, 0, none⟩) 5 5) 5 strs5 := World.ownsRow_lit (base := V.heap.size) (e := 9) (size := 1) V #[.string ⟨#[102]⟩, .string ⟨#[103]⟩, .string ⟨#[104]⟩, .string ⟨#[109, 97, 105, 110]⟩, .string ⟨#[]⟩] 5 (Nat.le_refl _) (by decide) rfl
  have hk5 : k < 5 := by
    rcases Nat.lt_or_ge k 5 with h | h
    · exact h
    · rw [List.getElem?_eq_none (by show 5 ≤ k; exact h)] at hk; cases hk
  exact (World.ownsRow.cellAt h1 k (by omega)).trans hk

set_option maxHeartbeats 4000000 in
set_option maxRecDepth 100000 in
theorem drawFuncOf (w : World) (a : Option Addr) (len cap : Nat) (hl : len ≤ 4096) (hc : Code w w.heap.size a len) :
    Calls Tryz.prog 9 #[.slice a len cap] w fun e w' => ∃ v nm ims xs s, e = .returned (.tuple #[v, .string ⟨(s : List UInt8).toArray⟩]) ∧ Drawn7 w w' v nm ims xs ∧ s.length ≤ 4 ∧ Below w.heap.size w w' := by
  obtain ⟨W1, hW1⟩ : ∃ W, w.alloc (.cells #[.string ⟨#[]⟩, .slice none 0 0, .slice none 0 0] 27) = W := ⟨_, rfl⟩
  have bR := box_new (V := w) (a := .string ⟨#[]⟩) (b := .slice none 0 0) (c := .slice none 0 0) (t := 27)
  have hg0 := World.grownBy_alloc w (.cells #[.string ⟨#[]⟩, .slice none 0 0, .slice none 0 0] 27) none
  have HS1 : Hid (W1.heap.size = w.heap.size + 1) := by exact (by rw [← hW1]; simp : W1.heap.size = w.heap.size + 1)
  rw [hW1] at bR hg0
  have hcode := code_grown hc hg0
  have hB0 : Below w.heap.size w W1 := (Below.refl _ _).grown hg0 (Nat.le_refl _) (by simp)
  have HR0 : Hid (_) := bR
  clear hg0 bR
  go_enter Tryz.func9, Tryz.ntmps9
  go_wp2_with fail
  refine (drawNew _ a len cap hl hcode).mono ?_
  rintro e w1 ⟨rfl, hc1, hg1⟩
  have hB1 := hB0.grown hg1 hB0.size (fun k e => by cases e)
  have HR1 : Hid (_) := box_none HR0.out hg1
  have hlt1 := hc1.lt
  clear hcode hg1 HR0 hB0
  go_wp2_with fail
  refine (drawAny7 _ W1.heap.size a len cap hc1).mono ?_
  rintro e w2 ⟨v, rfl, nm, ia, ic, ims, fa, fc, xs, rfl, h1, h2, h3, h4, ho, hf, hc2, hg2⟩
  have hs1 := HS1.out
  obtain ⟨W3, hW3⟩ : ∃ W, w2.alloc (.cells #[.string ⟨nm.toArray⟩, .slice ia ims.length ic, .slice fa xs.length fc] 27) = W := ⟨_, rfl⟩
  have bP := box_new (V := w2) (a := .string ⟨nm.toArray⟩) (b := .slice ia ims.length ic) (c := .slice fa xs.length fc) (t := 27)
  have hg3 := World.grownBy_alloc w2 (.cells #[.string ⟨nm.toArray⟩, .slice ia ims.length ic, .slice fa xs.length fc] 27) none
  rw [hW3] at bP hg3
  obtain ⟨P, hP⟩ : ∃ P, w2.heap.size = P := ⟨_, rfl⟩
  have hB2 := hB1.grown hg2 hB1.size (fun k e => by injection e with e; omega)
  have hfo : Fo7 W3 w W1.heap.size a len cap w.heap.size P w1.heap.size nm ia ic ims fa fc xs :=
    ⟨by rw [← hP]; exact bP.1, box_none (box_on HR1.out hg2 (by omega)) hg3, own_grown ho hg3 (fun k e => by cases e), hf.grown hg3 (fun k e => by cases e), hc2.kept hg3 (by simp), hB2.grown hg3 hB2.size (fun k e => by cases e), rfl, by omega, hlt1, by rw [← hP]; exact hg2.size⟩
  have HFO : Hid (_) := hfo
  have hRW : w.heap.size < W3.heap.size := hfo.r.1.lt
  have hBW : W1.heap.size < W3.heap.size := hfo.cur.lt
  have p0 := hfo.p.c0
  have p1 := hfo.p.c1
  have p2 := hfo.p.c2
  have pa : ∀ o, Box3 (W3.alloc o) P (.string ⟨nm.toArray⟩) (.slice ia ims.length ic) (.slice fa xs.length fc) := fun o => (hfo.alloc o).p
  have a0 := fun o => (pa o).c0
  have a1 := fun o => (pa o).c1
  have a2 := fun o => (pa o).c2
  clear hs1 HR1 hc1 hc2 hg2 ho hf bP hg3 hB2 hB1 hlt1 hfo pa
  go_wp2_with fail
  go_region_with (go_at_call 30; refine (drawBelow _ W1.heap.size a len cap 5 (by omega) (by omega) (by first | exact HFO.out.drew.cur | exact (HFO.out.alloc _).drew.cur)).mono ?_; rintro e w5 ⟨x, rfl, hx0, hx1, hc5, hg5⟩; obtain ⟨T, rfl⟩ : ∃ T : Nat, x = (T : Int) := Int.eq_ofNat_of_zero_le hx0; have hT5 : T < 5 := (by omega); obtain ⟨fn, hfn, hget, hget2⟩ := str5_at T hT5; (first | (have nL := row5_at (V := W3) hg5 hBW hget2; have nS := (fun u0 u1 u2 => set3_at (R := w.heap.size) nL (by omega) u0 u1 u2); have h5 := (HFO.out.alloc _).drew.next hg5 hc5) | (have h5 := HFO.out.drew.next hg5 hc5; have hz5 := sz0 hg5; have nS := (fun u0 u1 u2 => set3_at (R := w.heap.size) (new5_at (V := w5) hget2) (by omega) u0 u1 u2))); have q0 := h5.p.c0; have q1 := h5.p.c1; have q2 := h5.p.c2; have s0 := (fun o => (h5.alloc o).p.c0); have s1 := (fun o => (h5.alloc o).p.c1); have s2 := (fun o => (h5.alloc o).p.c2); have r0 := h5.r.1.c0; have r1 := h5.r.1.c1; have r2 := h5.r.1.c2; have f0 := h5.r.2 0; have f1 := h5.r.2 1; have f2 := h5.r.2 2; have t0 := (fun o => (h5.alloc o).r.1.c0); have t1 := (fun o => (h5.alloc o).r.1.c1); have t2 := (fun o => (h5.alloc o).r.1.c2); have z0 := (fun o => (h5.alloc o).r.2 0); have z1 := (fun o => (h5.alloc o).r.2 1); have z2 := (fun o => (h5.alloc o).r.2 2))
  all_goals go_wp2
  all_goals (first
    | (obtain ⟨Y, hY, y0, y1, y2, hg⟩ := set3 (.string ⟨nm.toArray⟩) (.slice ia ims.length ic) (.slice fa xs.length fc) r0 r1 r2; rw [hY]; refine bodyPost_ret (v := .tuple #[.agg #[.string ⟨nm.toArray⟩, .slice ia ims.length ic, .slice fa xs.length fc], .string ⟨fn.toArray⟩]) (by simp [results, Tryz.results9, go_sem, y0, y1, y2]) rfl ?_; obtain ⟨hd, hb⟩ := h5.end h1 h2 h3 h4 hg; exact ⟨_, nm, ims, xs, fn, rfl, hd, hfn, hb⟩)
    | (obtain ⟨Y, hY, y0, y1, y2, hg⟩ := set3 (.string ⟨nm.toArray⟩) (.slice ia ims.length ic) (.slice fa xs.length fc) (t0 (.cells #[.string ⟨#[102]⟩, .string ⟨#[103]⟩, .string ⟨#[104]⟩, .string ⟨#[109, 97, 105, 110]⟩, .string ⟨#[]⟩] 9)) (t1 (.cells #[.string ⟨#[102]⟩, .string ⟨#[103]⟩, .string ⟨#[104]⟩, .string ⟨#[109, 97, 105, 110]⟩, .string ⟨#[]⟩] 9)) (t2 (.cells #[.string ⟨#[102]⟩, .string ⟨#[103]⟩, .string ⟨#[104]⟩, .string ⟨#[109, 97, 105, 110]⟩, .string ⟨#[]⟩] 9)); rw [hY]; refine bodyPost_ret (v := .tuple #[.agg #[.string ⟨nm.toArray⟩, .slice ia ims.length ic, .slice fa xs.length fc], .string ⟨fn.toArray⟩]) (by simp [results, Tryz.results9, go_sem, y0, y1, y2]) rfl ?_; obtain ⟨hd, hb⟩ := (h5.alloc (.cells #[.string ⟨#[102]⟩, .string ⟨#[103]⟩, .string ⟨#[104]⟩, .string ⟨#[109, 97, 105, 110]⟩, .string ⟨#[]⟩] 9)).end h1 h2 h3 h4 hg; exact ⟨_, nm, ims, xs, fn, rfl, hd, hfn, hb⟩)
    | (obtain ⟨Y, hY, x0, x1, x2, hg⟩ := set3 (.string ⟨nm.toArray⟩) (.slice ia ims.length ic) (.slice fa xs.length fc) r0 r1 r2; rw [hY]; have y0 := cell_alw (.cells #[.string ⟨#[102]⟩, .string ⟨#[103]⟩, .string ⟨#[104]⟩, .string ⟨#[109, 97, 105, 110]⟩, .string ⟨#[]⟩] 9) x0; have y1 := cell_alw (.cells #[.string ⟨#[102]⟩, .string ⟨#[103]⟩, .string ⟨#[104]⟩, .string ⟨#[109, 97, 105, 110]⟩, .string ⟨#[]⟩] 9) x1; have y2 := cell_alw (.cells #[.string ⟨#[102]⟩, .string ⟨#[103]⟩, .string ⟨#[104]⟩, .string ⟨#[109, 97, 105, 110]⟩, .string ⟨#[]⟩] 9) x2; refine bodyPost_ret (v := .tuple #[.agg #[.string ⟨nm.toArray⟩, .slice ia ims.length ic, .slice fa xs.length fc], .string ⟨fn.toArray⟩]) (by simp [results, Tryz.results9, go_sem, y0, y1, y2]) rfl ?_; obtain ⟨hd, hb⟩ := h5.end h1 h2 h3 h4 (hg.trans (World.grownBy_alloc Y (.cells #[.string ⟨#[102]⟩, .string ⟨#[103]⟩, .string ⟨#[104]⟩, .string ⟨#[109, 97, 105, 110]⟩, .string ⟨#[]⟩] 9) (some w.heap.size))); exact ⟨_, nm, ims, xs, fn, rfl, hd, hfn, hb⟩))

end Go.Proofs.YtibppdepgoiojaaGreatDoor
