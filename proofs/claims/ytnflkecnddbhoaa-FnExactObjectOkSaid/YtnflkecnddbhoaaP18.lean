/-
  Parts of one proof, one behind the other: ObM, ObK, ObIn, Math14I, Math6I.
-/
import Derived.Test.YtnflkecnddbhoaaP17
import Derived.Test.YtnflkecnddbhoaaP11
import Derived.SliceStrings
import Derived.Test.YtnflkecnddbhoaaP10
import Derived.Test.YtnflkecnddbhoaaP5
import Derived.Test.YtnflkecnddbhoaaP2
import Derived.Test.YtnflkecnddbhoaaP3
import Derived.Lib.ItoaNum
import Derived.Lib.Join
import Derived.Lib.Bytealg

/-! The laws' own helpers over objects: markObject, heldObject; three cells of a block. -/
namespace Go.Proofs.Ytnflkecnddbhoaa
open Go.RowKit

theorem own_textsO {w : World} {base n : Nat} {v : Value} {ts : List (List UInt8)} (h : w.ownsRow base 9 1 v n (strV ts)) : ∃ a c, v = .slice a n c ∧ (a = none → c = 0) ∧ TextsIn w a n ts := by
  obtain ⟨_, a, c, rfl, hin⟩ := own_texts h
  refine ⟨a, c, rfl, fun e => ?_, hin⟩
  rcases own_forms h with ⟨e2, _, _⟩ | ⟨g, cp, e2⟩
  · injection e2
  · injection e2 with e3; rw [e] at e3; cases e3



theorem RtsOwn.alloc {w : World} {base : Nat} {v : Value} {xs : List RV} (h : RtsOwn w base v xs) (o : Obj) : RtsOwn (w.alloc o) base v xs := ⟨h.row.alloc o, fun x hx => (h.trees x hx).alloc o⟩
/-- A row of texts, and functions: the one's writing leaves the other. -/
theorem RtsOwn.texts {w w' : World} {base b2 n : Nat} {v vi : Value} {xs : List RV} {ys : List Value} (h : RtsOwn w base v xs) (hi : w.ownsRow b2 9 1 vi n ys) (hg : w.grownBy w' vi.ownBlock) : RtsOwn w' base v xs :=
  ⟨h.row.kept hg (own_typesR h.row hi (by decide)), fun x hx => (h.trees x hx).kept hg (own_typesR (h.trees x hx) hi (by decide))⟩
theorem texts_rts {w w' : World} {base b2 n : Nat} {v vi : Value} {xs : List RV} {ys : List Value} (h : RtsOwn w base v xs) (hi : w.ownsRow b2 9 1 vi n ys) (hw : WroteR w w' (RtBlocks v xs)) : w'.ownsRow b2 9 1 vi n ys := by
  refine own_wroteR hi hw (fun k hk hb => ?_)
  rcases hb with e | ⟨x, hx, e⟩
  · rcases own_typesR hi h.row (by decide) with e2 | e2
    · rw [hk] at e2; cases e2
    · exact e2 (by rw [hk, e])
  · rcases own_typesR hi (h.trees x hx) (by decide) with e2 | e2
    · rw [hk] at e2; cases e2
    · exact e2 (by rw [hk, e])

def ObBlocks (vi vf : Value) (xs : List RV) (k : Nat) : Prop := vi.ownBlock = some k ∨ RtBlocks vf xs k



/-- Three cells of a block. -/
structure BoxO (V : World) (k : Nat) (a b c : Value) : Prop where
  c0 : V.cell? ⟨k, 0, none⟩ = some a
  c1 : V.cell? ⟨k, 1, none⟩ = some b
  c2 : V.cell? ⟨k, 2, none⟩ = some c

theorem BoxO.lt {V : World} {k : Nat} {a b c : Value} (h : BoxO V k a b c) : k < V.heap.size := World.block_lt_of_cell? V ⟨k, 0, none⟩ h.c0
theorem BoxO.keep {V V' : World} {k : Nat} {a b c : Value} (h : BoxO V k a b c) (hb : V'.heap[k]? = V.heap[k]?) : BoxO V' k a b c :=
  ⟨(World.cell?_of_block (a := ⟨k, 0, none⟩) hb).trans h.c0, (World.cell?_of_block (a := ⟨k, 1, none⟩) hb).trans h.c1, (World.cell?_of_block (a := ⟨k, 2, none⟩) hb).trans h.c2⟩
theorem BoxO.below {V V' : World} {k : Nat} {a b c : Value} (h : BoxO V k a b c) (hb : Below V.heap.size V V') : BoxO V' k a b c := h.keep (hb.block k h.lt)
theorem BoxO.wrote {V V' : World} {k : Nat} {a b c : Value} {S : Nat → Prop} (h : BoxO V k a b c) (hw : WroteR V V' S) (hk : ¬ S k) : BoxO V' k a b c := h.keep (hw.block k h.lt hk)
theorem BoxO.grown {V V' : World} {k : Nat} {a b c : Value} {row : Option Nat} (h : BoxO V k a b c) (hg : V.grownBy V' row) (hk : some k ≠ row) : BoxO V' k a b c := h.keep (hg.block k h.lt hk)
theorem BoxO.drew {V : World} {k : Nat} {a b c : Value} (h : BoxO V k a b c) : BoxO V.drew k a b c := ⟨h.c0, h.c1, h.c2⟩
theorem BoxO.new (V : World) (a b c : Value) (t : TypeId) : BoxO (V.alloc (.cells #[a, b, c] t)) V.heap.size a b c ∧ Below V.heap.size V (V.alloc (.cells #[a, b, c] t)) := by
  have hb : Below V.heap.size V (V.alloc (.cells #[a, b, c] t)) := (Below.refl _ _).alloc (Nat.le_refl _) _
  have hA := heap_alloc_new V (.cells #[a, b, c] t)
  generalize V.alloc (.cells #[a, b, c] t) = W at hb hA ⊢
  exact ⟨⟨by simp [World.cell?, hA], by simp [World.cell?, hA], by simp [World.cell?, hA]⟩, hb⟩

theorem shortR_mem {fs : List Rt} (h : ShortR fs) {f : Rt} (hf : f ∈ fs) : f.2.2.length ≤ 1048576 := by
  obtain ⟨j, hj, rfl⟩ := List.mem_iff_getElem.1 hf
  have := (h j).2.1
  rw [List.getD_eq_getElem?_getD, List.getElem?_eq_getElem hj] at this
  exact this

end Go.Proofs.Ytnflkecnddbhoaa

/-! What the landed functions of chapter 15 are told of an object; an object in rows of its own. -/
namespace Go.Proofs.Ytnflkecnddbhoaa
open Go.RowKit

/-- What the landed functions are told of an object that they are handed. -/
structure ObOk (w : World) (nm : List UInt8) (ia : Option Addr) (il ic : Nat) (fa : Option Addr) (fl fc : Nat) (ims : List (List UInt8)) (rs : List Rt) : Prop where
  i : TextsIn w ia il ims
  r : RtOk w fa fl fc rs
  ic : ia = none → ic = 0
  il : il ≤ 1048576
  nm : nm.length ≤ 1048576
  is : ∀ i, (ims.getD i []).length ≤ 1048576
theorem ObOk.below {w w' : World} {nm : List UInt8} {ia : Option Addr} {il ic : Nat} {fa : Option Addr} {fl fc : Nat} {ims : List (List UInt8)} {rs : List Rt} (h : ObOk w nm ia il ic fa fl fc ims rs) (hb : Below w.heap.size w w') : ObOk w' nm ia il ic fa fl fc ims rs :=
  ⟨h.i.below hb, h.r.below hb, h.ic, h.il, h.nm, h.is⟩

/-- A package that a call owns can be read. -/
theorem own_ob {w : World} {base : Nat} {vi vf : Value} {ims : List (List UInt8)} {xs : List RV} {fs : List Rt} (hoi : w.ownsRow base 9 1 vi ims.length (strV ims)) (hof : RtsOwn w base vf xs) (hxs : xs.map (·.1) = fs) :
    ∃ ai ci af cf, vi = .slice ai ims.length ci ∧ vf = .slice af fs.length cf ∧ (ai = none → ci = 0) ∧ ((af = none → cf = 0) ∧ fs.length ≤ cf) ∧ TextsIn w ai ims.length ims ∧ RtsIn w af fs.length fs := by
  obtain ⟨ai, ci, rfl, hic, hit⟩ := own_textsO hoi
  obtain ⟨af, cf, rfl, hfc, hif⟩ := hof.in
  have hl : xs.length = fs.length := by rw [← hxs, List.length_map]
  have hcp : fs.length ≤ cf := by
    rcases hof.row.2 with ⟨e, h0⟩ | ⟨g, cap, cur, e, _, _, hc, _⟩
    · rw [← hl, h0]; exact Nat.zero_le _
    · injection e with _ _ e3
      rw [e3, ← hl]; exact hc
  rw [hxs, hl] at hif
  exact ⟨ai, ci, af, cf, rfl, by rw [hl], hic, ⟨hfc, hcp⟩, hit, hif⟩

/-- A package whose rows lie from lo on, ahead of hi. -/
structure Pv15 (Z : World) (lo hi : Nat) (ai : Option Addr) (il ci : Nat) (af : Option Addr) (fl cf : Nat) (ims : List (List UInt8)) (fs : List Rt) (xs : List RV) : Prop where
  oi : Z.ownsRow lo 9 1 (.slice ai il ci) il (strV ims)
  of : RtsOwn Z lo (.slice af fl cf) xs
  xm : xs.map (·.1) = fs
  li : ims.length = il
  lf : fs.length = fl
  at_ : ∀ k, ObBlocks (.slice ai il ci) (.slice af fl cf) xs k → lo ≤ k ∧ k < hi
section
variable {Z Y : World} {lo hi : Nat} {ai : Option Addr} {il ci : Nat} {af : Option Addr} {fl cf : Nat} {ims : List (List UInt8)} {fs : List Rt} {xs : List RV}
theorem Pv15.below (h : Pv15 Z lo hi ai il ci af fl cf ims fs xs) (hb : Below Z.heap.size Z Y) : Pv15 Y lo hi ai il ci af fl cf ims fs xs := ⟨own_below h.oi hb, h.of.below hb, h.xm, h.li, h.lf, h.at_⟩
theorem Pv15.wrote (h : Pv15 Z lo hi ai il ci af fl cf ims fs xs) {S : Nat → Prop} (hw : WroteR Z Y S) (hs : ∀ k, S k → k < lo ∨ hi ≤ k) : Pv15 Y lo hi ai il ci af fl cf ims fs xs :=
  ⟨own_wroteR h.oi hw (fun k e hk => by have := h.at_ k (Or.inl e); have := hs k hk; omega), ⟨own_wroteR h.of.row hw (fun k e hk => by have := h.at_ k (Or.inr (Or.inl e)); have := hs k hk; omega), fun x hx => own_wroteR (h.of.trees x hx) hw (fun k e hk => by have := h.at_ k (Or.inr (Or.inr ⟨x, hx, e⟩)); have := hs k hk; omega)⟩, h.xm, h.li, h.lf, h.at_⟩
theorem Pv15.none (h : Pv15 Z lo hi ai il ci af fl cf ims fs xs) (hg : Z.grownBy Y none) : Pv15 Y lo hi ai il ci af fl cf ims fs xs := h.wrote (S := fun _ => False) (WroteR.of_grown hg (fun k e => by cases e)) (fun k e => e.elim)
theorem Pv15.drew (h : Pv15 Z lo hi ai il ci af fl cf ims fs xs) : Pv15 Z.drew lo hi ai il ci af fl cf ims fs xs := h.below ⟨rfl, rfl, rfl, Nat.le_refl _, fun _ _ => rfl⟩
theorem Pv15.in (h : Pv15 Z lo hi ai il ci af fl cf ims fs xs) : TextsIn Z ai il ims ∧ RtsIn Z af fl fs := by
  have hoi := h.oi
  rw [← h.li] at hoi
  obtain ⟨_, _, _, _, e1, e2, _, _, h1, h2⟩ := own_ob hoi h.of h.xm
  injection e1 with a1 _ a3
  injection e2 with b1 _ b3
  subst a1 a3 b1 b3
  rw [← h.li, ← h.lf]
  exact ⟨h1, h2⟩
theorem Pv15.cap (h : Pv15 Z lo hi ai il ci af fl cf ims fs xs) : RtsCap Z af fl cf fs := h.of.cap h.xm h.lf
theorem Pv15.len (h : Pv15 Z lo hi ai il ci af fl cf ims fs xs) : xs.length = fl := by rw [← h.lf, ← h.xm, List.length_map]
theorem Pv15.new {vi vf : Value} (hoi : Z.ownsRow lo 9 1 vi ims.length (strV ims)) (hof : RtsOwn Z lo vf xs) (hxs : xs.map (·.1) = fs) : ∃ ai ci af cf, vi = .slice ai ims.length ci ∧ vf = .slice af fs.length cf ∧ ((af = Option.none → cf = 0) ∧ fs.length ≤ cf) ∧ (ai = Option.none → ci = 0) ∧ Pv15 Z lo Z.heap.size ai ims.length ci af fs.length cf ims fs xs := by
  obtain ⟨ai, ci, af, cf, rfl, rfl, h0, h1, _, _⟩ := own_ob hoi hof hxs
  refine ⟨ai, ci, af, cf, rfl, rfl, h1, h0, hoi, hof, hxs, rfl, rfl, fun k hk => ?_⟩
  rcases hk with e | e | ⟨x, hx, e⟩
  · exact hoi.lt k e
  · exact hof.row.lt k e
  · exact (hof.trees x hx).lt k e
end

end Go.Proofs.Ytnflkecnddbhoaa

/-! An object that came in, as the walks take it. -/
namespace Go.Proofs.Ytnflkecnddbhoaa
open Go.ChangeShapes Go.WideShapes Go.ChangeAt Go.RowKit Go.Joins Go.Deep

section
variable {H : Type} {enc : TypeId × Value → H} {W : World} {base : Nat} {spare : Nat → Bool} {held : Bool} {fuel : Nat} {v : Value} {x : DataW H × List MemPlace}

set_option maxRecDepth 100000 in
theorem trod_textsO (hf : DataW.trod enc Try.prog W base spare held fuel 33 [v] = some x) :
    ∃ a len cap ts, v = .slice a len cap ∧ TextsIn W a len ts ∧ len ≤ maxLen ∧ ∀ j, (ts.getD j []).length ≤ maxLen := by
  rcases open_strings Try.underlying33 Try.underlying9 (by kernel_rfl) hf with ⟨hcs, _⟩ | ⟨a, len, cap, ss, hcs, _, hl, hm, hlen, _, hcell, hsz⟩
  · simp at hcs
    subst hcs
    exact ⟨none, 0, 0, [], rfl, ⟨rfl, fun j hj => by omega⟩, by decide, fun j => by simp⟩
  · simp at hcs
    subst hcs
    have hls : len ≤ ss.length := by rw [hlen]; split <;> omega
    have hgd : ∀ j, j < len → ((ss.take len).map (fun s => s.data.toList)).getD j [] = (ss.getD j ByteArray.empty).data.toList := by
      intro j hj
      have hj2 : j < ss.length := by omega
      simp [List.getD, hj, hj2]
    refine ⟨some a, len, cap, (ss.take len).map (fun s => s.data.toList), rfl, ⟨by simp; omega, fun j hj => ?_⟩, by omega, fun j => ?_⟩
    · have hc := hcell j (by omega)
      have hsp : a.spot = none := by
        have h0 := hcell 0 (by omega)
        simpa [Addr.add] using World.cell?_spot h0
      obtain ⟨b, off, spot⟩ := a
      simp at hsp
      subst hsp
      have e : ∀ i, (⟨b, off, none⟩ : Addr).add i = ⟨b, off + i, none⟩ := fun i => by unfold Addr.add; split <;> simp_all
      rw [e] at hc
      refine ⟨b, off, rfl, World.block_lt_of_cell? W ⟨b, off + j, none⟩ hc, ?_⟩
      rw [hc, hgd j hj]
    · by_cases hj : j < len
      · rw [hgd j hj]
        have hj2 : j < ss.length := by omega
        have : ss.getD j ByteArray.empty ∈ ss := by simp [List.getD, hj2]
        have hz := hsz _ this
        simpa using hz
      · have : ((ss.take len).map (fun s => s.data.toList)).getD j [] = [] := by rw [List.getD, List.getElem?_eq_none (by simp; omega)]; rfl
        rw [this]; simp

end

theorem cellsObject : Try.prog.cellsOf 36 = 3 := by kernel_rfl
set_option maxRecDepth 100000 in
theorem open_object {H : Type} {enc : TypeId × Value → H} {W : World} {base b0 : Nat} {spare : Nat → Bool} {held : Bool} {v : Value} {d : DataW H} {p : List MemPlace}
    (hv : Value.okWide Try.prog W .any b0 36 v) (h : DataW.Trod enc Try.prog W base spare held 36 v d p) :
    ∃ nm ia il ic ims fa fl fc fs, v = .agg #[.string ⟨(nm : List UInt8).toArray⟩, .slice ia il ic, .slice fa fl fc] ∧ TextsIn W ia il ims ∧ RtsIn W fa fl fs ∧ nm.length ≤ maxLen ∧ il ≤ maxLen ∧ (∀ j, (ims.getD j []).length ≤ maxLen) ∧ fl ≤ maxLen ∧ LongR fs ∧ IntR fs := by
  obtain ⟨c0, c1, c2, y0, y1, y2, m, rfl, _, _, t0, t1, t2⟩ := open_agg3 Try.underlying36 (by kernel_rfl) cellsObject hv h
  obtain ⟨s0, e0, _, h0⟩ := DataW.trod_string Try.underlying9 t0
  simp at e0
  subst e0
  obtain ⟨ia, il, ic, ims, rfl, hi, hil, him⟩ := trod_textsO t1
  obtain ⟨fa, fl, fc, fs, rfl, hf, hfl, hlf, hif⟩ := trod_rts t2
  exact ⟨s0.data.toList, ia, il, ic, ims, fa, fl, fc, fs, rfl, hi, hf, h0, hil, him, hfl, hlf, hif⟩


end Go.Proofs.Ytnflkecnddbhoaa

/-! Plain facts of chapter 14 as the landed code goes about it: routines whose names rise, one found by halving. -/
namespace Go.Proofs.Ytnflkecnddbhoaa
open Go.RowKit

/-- Right routines whose names rise, at most so many. -/
def RiseR (rs : List Rt) : Prop := ∀ i j, i < j → j < rs.length → Op.bytesLess (rs.getD i rt0).1 (rs.getD j rt0).1 = true
theorem riseR_of {rs : List Rt} (h : ∀ i, i + 1 < rs.length → leT (rs.getD (i + 1) rt0).1 (rs.getD i rt0).1 = false) : RiseR rs := by
  have hd : ∀ d i, i + d + 1 < rs.length → Op.bytesLess (rs.getD i rt0).1 (rs.getD (i + d + 1) rt0).1 = true := by
    intro d
    induction d with
    | zero => intro i hi; exact leT_no.1 (h i hi)
    | succ d ih => intro i hi; exact lt8_trans (ih i (by omega)) (leT_no.1 (h (i + d + 1) (by omega)))
  intro i j hij hj
  have hh := hd (j - i - 1) i (by omega)
  rw [show i + (j - i - 1) + 1 = j by omega] at hh
  exact hh
def rtsB (rs : List Rt) (most : Int) : Bool := decide ((1 ≤ (rs.length : Int) ∧ (rs.length : Int) ≤ most) ∧ (∀ i, i < rs.length → rtB (rs.getD i rt0) = true) ∧ ∀ i, i < rs.length - 1 → leT (rs.getD (i + 1) rt0).1 (rs.getD i rt0).1 = false)
theorem rtsB_rise {rs : List Rt} {m : Int} (h : rtsB rs m = true) : RiseR rs := riseR_of (fun i hi => (of_decide_eq_true h).2.2 i (by omega))
theorem rtsB_len {rs : List Rt} {m : Int} (h : rtsB rs m = true) : 1 ≤ (rs.length : Int) ∧ (rs.length : Int) ≤ m := (of_decide_eq_true h).1
theorem rtsB_few {rs : List Rt} {m : Int} (h : (rs.length : Int) < 1 ∨ m < (rs.length : Int)) : rtsB rs m = false := decide_eq_false (fun e => by have := e.1; omega)
structure RrSt (rs : List Rt) (k : Nat) (z : List UInt8) : Prop where
  oks : ∀ i, i < k → rtB (rs.getD i rt0) = true
  rise : ∀ i, i + 1 < k → leT (rs.getD (i + 1) rt0).1 (rs.getD i rt0).1 = false
  last : (k = 0 ∧ z = []) ∨ (0 < k ∧ z = (rs.getD (k - 1) rt0).1)
theorem RrSt.start (rs : List Rt) : RrSt rs 0 [] := ⟨fun i hi => by omega, fun i hi => by omega, Or.inl ⟨rfl, rfl⟩⟩
theorem RrSt.noOk {rs : List Rt} {k : Nat} {m : Int} (hk : k < rs.length) (hn : rtB (rs.getD k rt0) = false) : rtsB rs m = false := decide_eq_false (fun g => by rw [g.2.1 k hk] at hn; cases hn)
theorem leT_nilR {x : List UInt8} (h : name13 x = true) : leT x [] = false := by
  have h1 := (name13_len h).1
  cases x with
  | nil => simp at h1
  | cons c r => simp [leT, Op.bytesLess]
theorem RrSt.noRise {rs : List Rt} {k : Nat} {z : List UInt8} {m : Int} (h : RrSt rs k z) (hk : k < rs.length) (hn : rtB (rs.getD k rt0) = true) (hl : leT (rs.getD k rt0).1 z = true) : rtsB rs m = false := by
  rcases h.last with ⟨rfl, rfl⟩ | ⟨h0, rfl⟩
  · rw [leT_nilR (rtB_parts hn).1] at hl; cases hl
  · refine decide_eq_false (fun g => ?_)
    have := g.2.2 (k - 1) (by omega)
    rw [show k - 1 + 1 = k by omega, hl] at this
    cases this
theorem RrSt.step {rs : List Rt} {k : Nat} {z : List UInt8} (h : RrSt rs k z) (hn : rtB (rs.getD k rt0) = true) (hl : leT (rs.getD k rt0).1 z = false) : RrSt rs (k + 1) (rs.getD k rt0).1 := by
  refine ⟨fun i hi => ?_, fun i hi => ?_, Or.inr ⟨by omega, by rw [Nat.add_sub_cancel]⟩⟩
  · rcases Nat.lt_or_ge i k with g | g
    · exact h.oks i g
    · obtain rfl : i = k := by omega
      exact hn
  · rcases Nat.lt_or_ge (i + 1) k with g | g
    · exact h.rise i g
    · obtain rfl : k = i + 1 := by omega
      rcases h.last with ⟨e, _⟩ | ⟨_, rfl⟩
      · omega
      · rw [Nat.add_sub_cancel] at hl; exact hl
theorem RrSt.all {rs : List Rt} {z : List UInt8} {m : Int} (h : RrSt rs rs.length z) (hl : 1 ≤ (rs.length : Int) ∧ (rs.length : Int) ≤ m) : rtsB rs m = true := decide_eq_true ⟨hl, h.oks, fun i hi => h.rise i (by omega)⟩

theorem imageB_rts (rs : List Rt) : imageB rs = (rtsB rs 64 && decide (∀ j, j < rs.length → (rs.getD j rt0).2.2.all (clsB rs) = true)) := by
  rw [Bool.eq_iff_iff]
  unfold imageB rtsB oneB
  simp only [Bool.and_eq_true, decide_eq_true_eq]
  constructor
  · rintro ⟨h, h1, h2⟩
    refine ⟨⟨⟨by omega, by omega⟩, fun i hi => (h i hi).1, fun i hi => ?_⟩, fun j hj => (h j hj).2.2⟩
    have := (h (i + 1) (by omega)).2.1 (by omega)
    rw [Nat.add_sub_cancel] at this
    exact this
  · rintro ⟨⟨h1, h2, h3⟩, h4⟩
    refine ⟨fun j hj => ⟨h2 j hj, fun h0 => ?_, h4 j hj⟩, by omega, by omega⟩
    have := h3 (j - 1) (by omega)
    rw [show j - 1 + 1 = j by omega] at this
    exact this
theorem image_rise {rs : List Rt} (h : imageB rs = true) : RiseR rs := by
  rw [imageB_rts, Bool.and_eq_true] at h
  exact rtsB_rise h.1
theorem image_noR {rs : List Rt} (h : rtsB rs 64 = false) : imageB rs = false := by rw [imageB_rts, h]; rfl
theorem image_noC {rs : List Rt} {j : Nat} (hj : j < rs.length) (h : (rs.getD j rt0).2.2.all (clsB rs) = false) : imageB rs = false := by
  rw [imageB_rts, decide_eq_false (fun g => by rw [g j hj] at h; cases h), Bool.and_false]
theorem image_yes {rs : List Rt} (h : rtsB rs 64 = true) (hc : ∀ j, j < rs.length → (rs.getD j rt0).2.2.all (clsB rs) = true) : imageB rs = true := by
  rw [imageB_rts, h, decide_eq_true hc]; rfl

/-- The place of a name. -/
theorem at14Go_yes (s : List UInt8) : ∀ (rs : List Rt) (k j : Nat), j < rs.length → (rs.getD j rt0).1 = s → (∀ i, i < j → (rs.getD i rt0).1 ≠ s) → at14Go s rs k = ((k + j : Nat) : Int)
  | [], _, j, hj, _, _ => by simp at hj
  | r :: rs, k, 0, _, h, _ => by
    rw [at14Go, if_pos (by simpa using h)]; simp
  | r :: rs, k, j + 1, hj, h, hn => by
    have h0 := hn 0 (by omega)
    rw [at14Go, if_neg (by simpa using h0), at14Go_yes s rs (k + 1) j (by simpa using hj) (by simpa using h) (fun i hi => by have := hn (i + 1) (by omega); simpa using this)]
    omega
theorem at14Go_no (s : List UInt8) : ∀ (rs : List Rt) (k : Nat), (∀ i, i < rs.length → (rs.getD i rt0).1 ≠ s) → at14Go s rs k = -1
  | [], _, _ => rfl
  | r :: rs, k, hn => by
    have h0 := hn 0 (by simp)
    rw [at14Go, if_neg (by simpa using h0), at14Go_no s rs (k + 1) (fun i hi => by have := hn (i + 1) (by simpa using hi); simpa using this)]
theorem at14_yes {rs : List Rt} (hr : RiseR rs) {s : List UInt8} {j : Nat} (hj : j < rs.length) (h : (rs.getD j rt0).1 = s) : at14 rs s = (j : Int) := by
  unfold at14
  rw [at14Go_yes s rs 0 j hj h (fun i hi e => ?_), Nat.zero_add]
  have := hr i j hi hj
  rw [e, h, lt8_irr] at this
  cases this
/-- Halving: what stands ahead is less, what stands behind is not. -/
structure Half (rs : List Rt) (s : List UInt8) (lo hi : Nat) : Prop where
  a : ∀ t, t < lo → Op.bytesLess (rs.getD t rt0).1 s = true
  b : ∀ t, hi ≤ t → t < rs.length → Op.bytesLess (rs.getD t rt0).1 s = false
theorem Half.start (rs : List Rt) (s : List UInt8) : Half rs s 0 rs.length := ⟨fun t h => by omega, fun t h1 h2 => by omega⟩
theorem Half.up {rs : List Rt} {s : List UInt8} {lo hi m : Nat} (hr : RiseR rs) (h : Half rs s lo hi) (hm : m < rs.length) (e : Op.bytesLess (rs.getD m rt0).1 s = true) : Half rs s (m + 1) hi :=
  ⟨fun t ht => by
    rcases Nat.lt_or_ge t m with g | g
    · exact lt8_trans (hr t m g hm) e
    · obtain rfl : t = m := by omega
      exact e, h.b⟩
theorem Half.down {rs : List Rt} {s : List UInt8} {lo hi m : Nat} (hr : RiseR rs) (h : Half rs s lo hi) (e : Op.bytesLess (rs.getD m rt0).1 s = false) : Half rs s lo m :=
  ⟨h.a, fun t ht hl => by
    rcases Nat.lt_or_ge m t with g | g
    · rcases hx : Op.bytesLess (rs.getD t rt0).1 s with _ | _
      · rfl
      · rw [lt8_trans (hr m t g hl) hx] at e; cases e
    · obtain rfl : t = m := by omega
      exact e⟩
theorem Half.no {rs : List Rt} {s : List UInt8} {i : Nat} (hr : RiseR rs) (h : Half rs s i i) (hn : i < rs.length → (rs.getD i rt0).1 ≠ s) : at14 rs s = -1 := by
  refine at14Go_no s rs 0 (fun t ht e => ?_)
  rcases Nat.lt_trichotomy t i with g | g | g
  · have := h.a t g; rw [e, lt8_irr] at this; cases this
  · subst g; exact hn ht e
  · have h1 := hr i t g ht
    have h2 := h.b i (Nat.le_refl _) (by omega)
    rw [e] at h1
    rw [h1] at h2
    cases h2

theorem cls_allI {rs : List Rt} {c : List In13} : c.all (clsB rs) = true ↔ ∀ k, k < c.length → clsB rs (c.getD k in0) = true := by
  rw [List.all_eq_true]
  constructor
  · intro h k hk
    exact h _ (by rw [List.getD_eq_getElem?_getD, List.getElem?_eq_getElem hk]; exact List.getElem_mem hk)
  · intro h x hx
    obtain ⟨k, hk, rfl⟩ := List.getElem_of_mem hx
    have := h k hk
    simpa [List.getD, hk] using this
theorem cls_noI {rs : List Rt} {c : List In13} {k : Nat} (hk : k < c.length) (h : clsB rs (c.getD k in0) = false) : c.all (clsB rs) = false := by
  rcases hx : c.all (clsB rs) with _ | _
  · rfl
  · rw [cls_allI.1 hx k hk] at h; cases h
theorem arg_allI {n : Int} {c : List In13} : c.all (argB n) = true ↔ ∀ k, k < c.length → argB n (c.getD k in0) = true := by
  rw [List.all_eq_true]
  constructor
  · intro h k hk
    exact h _ (by rw [List.getD_eq_getElem?_getD, List.getElem?_eq_getElem hk]; exact List.getElem_mem hk)
  · intro h x hx
    obtain ⟨k, hk, rfl⟩ := List.getElem_of_mem hx
    have := h k hk
    simpa [List.getD, hk] using this
theorem arg_noI {n : Int} {c : List In13} {k : Nat} (hk : k < c.length) (h : argB n (c.getD k in0) = false) : c.all (argB n) = false := by
  rcases hx : c.all (argB n) with _ | _
  · rfl
  · rw [arg_allI.1 hx k hk] at h; cases h

end Go.Proofs.Ytnflkecnddbhoaa

/-! Plain facts for chapter 6's landed code: shapes, and what words are read as. -/
namespace Go.Proofs.Ytnflkecnddbhoaa
open Go.RowKit

/-- A shape: what a node tells by its kind. -/
inductive Sh where
  | num (a : Int)
  | arg (a : Int)
  | pair (k : Int)
  | cond
  | call (p f : List UInt8) (a : Int)
  | no

def shOf (n : Nd) : Sh :=
  if n.1 = 1 then .num n.2.1
  else if n.1 = 2 then .arg n.2.1
  else if 3 ≤ n.1 ∧ n.1 ≤ 6 then .pair n.1
  else if n.1 = 7 then .cond
  else if n.1 = 8 then .call n.2.2.1 n.2.2.2 n.2.1
  else .no

def shNode : Sh → Nd
  | .num a => (1, a, [], [])
  | .arg a => (2, a, [], [])
  | .pair k => (k, 0, [], [])
  | .cond => (7, 0, [], [])
  | .call p f a => (8, a, p, f)
  | .no => (0, 0, [], [])

def shOk : Sh → Bool
  | .num a => inB a (-2147483648) 2147483647
  | .arg a => inB a 0 2
  | .pair _ => true
  | .cond => true
  | .call p f a => inB a 0 3 && (nameB p && nameB f)
  | .no => false

def shKids : Sh → Int
  | .num _ => 0
  | .arg _ => 0
  | .pair _ => 2
  | .cond => 3
  | .call _ _ a => a
  | .no => -1

def shWord : Sh → List UInt8
  | .num a => intL a
  | .arg a => 36 :: intL a
  | .pair k => if k = 3 then [43] else if k = 4 then [45] else if k = 5 then [42] else [47]
  | .cond => [63]
  | .call p f a => (64 :: p) ++ [46] ++ f ++ [47] ++ intL a
  | .no => []

theorem shOf_kinds (n : Nd) : (n.1 = 1 ∧ shOf n = .num n.2.1) ∨ (n.1 = 2 ∧ shOf n = .arg n.2.1) ∨ ((3 ≤ n.1 ∧ n.1 ≤ 6) ∧ shOf n = .pair n.1) ∨ (n.1 = 7 ∧ shOf n = .cond) ∨ (n.1 = 8 ∧ shOf n = .call n.2.2.1 n.2.2.2 n.2.1) ∨ ((n.1 < 1 ∨ 8 < n.1) ∧ shOf n = .no) := by
  by_cases h1 : n.1 = 1
  · exact Or.inl ⟨h1, if_pos h1⟩
  by_cases h2 : n.1 = 2
  · exact Or.inr (Or.inl ⟨h2, by unfold shOf; rw [if_neg h1, if_pos h2]⟩)
  by_cases h3 : 3 ≤ n.1 ∧ n.1 ≤ 6
  · exact Or.inr (Or.inr (Or.inl ⟨h3, by unfold shOf; rw [if_neg h1, if_neg h2, if_pos h3]⟩))
  by_cases h7 : n.1 = 7
  · exact Or.inr (Or.inr (Or.inr (Or.inl ⟨h7, by unfold shOf; rw [if_neg h1, if_neg h2, if_neg h3, if_pos h7]⟩)))
  by_cases h8 : n.1 = 8
  · exact Or.inr (Or.inr (Or.inr (Or.inr (Or.inl ⟨h8, by unfold shOf; rw [if_neg h1, if_neg h2, if_neg h3, if_neg h7, if_pos h8]⟩))))
  · exact Or.inr (Or.inr (Or.inr (Or.inr (Or.inr ⟨by omega, by unfold shOf; rw [if_neg h1, if_neg h2, if_neg h3, if_neg h7, if_neg h8]⟩))))

/-- A node is right where its shape is, and it tells no more. -/
theorem node_sh (n : Nd) : nodeB n = (shOk (shOf n) && decide (shNode (shOf n) = n)) := by
  rw [Bool.eq_iff_iff, nodeB_iff, Bool.and_eq_true, decide_eq_true_iff]
  obtain ⟨k, a, p, f⟩ := n
  rcases shOf_kinds (k, a, p, f) with ⟨h, e⟩ | ⟨h, e⟩ | ⟨h, e⟩ | ⟨h, e⟩ | ⟨h, e⟩ | ⟨h, e⟩
  · rw [e]; simp only at h; subst h
    unfold nodeP shOk shNode inB
    simp [@eq_comm (List UInt8) [] p, @eq_comm (List UInt8) [] f]
  · rw [e]; simp only at h; subst h
    unfold nodeP shOk shNode inB
    simp [@eq_comm (List UInt8) [] p, @eq_comm (List UInt8) [] f]
  · rw [e]; simp only at h
    unfold nodeP shOk shNode
    simp only [Prod.mk.injEq, true_and]
    constructor
    · rintro (⟨h1, _⟩ | ⟨h1, _⟩ | ⟨_, h2, h3, h4⟩ | ⟨h1, _⟩)
      · omega
      · omega
      · exact ⟨h2.symm, h3.symm, h4.symm⟩
      · omega
    · rintro ⟨h2, h3, h4⟩
      exact Or.inr (Or.inr (Or.inl ⟨by omega, h2.symm, h3.symm, h4.symm⟩))
  · rw [e]; simp only at h; subst h
    unfold nodeP shOk shNode
    simp [@eq_comm (List UInt8) [] p, @eq_comm (List UInt8) [] f, @eq_comm Int 0 a]
  · rw [e]; simp only at h; subst h
    unfold nodeP shOk shNode inB
    simp
  · rw [e]; simp only at h
    unfold nodeP shOk shNode
    simp
    omega

theorem kids_sh {n : Nd} (h : nodeB n = true) : shKids (shOf n) = kidsV n := by
  unfold kidsV
  rcases shOf_kinds n with ⟨h, e⟩ | ⟨h, e⟩ | ⟨h, e⟩ | ⟨h, e⟩ | ⟨h, e⟩ | ⟨h1, e⟩
  · rw [e, if_neg (by omega), if_neg (by omega), if_neg (by omega)]; rfl
  · rw [e, if_neg (by omega), if_neg (by omega), if_neg (by omega)]; rfl
  · rw [e, if_pos h]; rfl
  · rw [e, if_neg (by omega), if_pos h]; rfl
  · rw [e, if_neg (by omega), if_neg (by omega), if_pos h]; rfl
  · have := nodeB_iff.1 h
    unfold nodeP at this
    omega

theorem word_sh {n : Nd} (h : nodeB n = true) : shWord (shOf n) = showN n := by
  unfold showN
  rcases shOf_kinds n with ⟨h, e⟩ | ⟨h, e⟩ | ⟨h, e⟩ | ⟨h, e⟩ | ⟨h, e⟩ | ⟨h1, e⟩
  · rw [e, if_pos h]; rfl
  · rw [e, if_neg (by omega), if_pos h]; rfl
  · rw [e, if_neg (by omega), if_neg (by omega)]
    unfold shWord
    simp only
    split
    · rfl
    · split
      · rfl
      · split
        · rfl
        · rw [if_pos (by omega)]
  · rw [e, if_neg (by omega), if_neg (by omega), if_neg (by omega), if_neg (by omega), if_neg (by omega), if_neg (by omega), if_pos h]; rfl
  · rw [e, if_neg (by omega), if_neg (by omega), if_neg (by omega), if_neg (by omega), if_neg (by omega), if_neg (by omega), if_neg (by omega)]; rfl
  · have := nodeB_iff.1 h
    unfold nodeP at this
    omega

/-- The library's numerals are ours. -/
theorem dec_digL : ∀ u : Nat, Lib.decDigits u = digL u := by
  intro u
  induction u using Nat.strongRecOn with
  | ind u ih =>
    rw [Lib.decDigits, digL]
    by_cases h : u < 10
    · rw [dif_pos h, if_pos h]; unfold digit; rw [Nat.mod_eq_of_lt h]
    · rw [dif_neg h, if_neg h, ih (u / 10) (by omega)]; rfl
theorem itoa_int (a : Int) : Lib.itoa a = intL a := by
  unfold Lib.itoa intL
  split
  · rw [dec_digL]
  · rw [dec_digL]; congr 1; omega

theorem join_by (ws : List (List UInt8)) : Lib.join ws [32] = joinBy 32 ws := by
  induction ws with
  | nil => rfl
  | cons x r ih =>
    cases r with
    | nil => rw [Lib.join_one]; rfl
    | cons y q =>
      rw [joinBy_cons 32 x (y :: q) (by simp), ← ih, Lib.join_cons, Lib.join_cons]
      simp [Lib.joinTail]

/-- A text cut at a byte: what is ahead of it, what is behind it. -/
def cutA (b : UInt8) (l : List UInt8) : List UInt8 := l.takeWhile (fun c => c != b)
def cutB (b : UInt8) (l : List UInt8) : List UInt8 := (l.dropWhile (fun c => c != b)).tail

theorem cut_one (b : UInt8) (x y : List UInt8) (h : ∀ c ∈ x, c ≠ b) : cutA b (x ++ b :: y) = x ∧ cutB b (x ++ b :: y) = y := by
  unfold cutA cutB
  induction x with
  | nil => simp
  | cons c r ih =>
    have hc : (c != b) = true := bne_iff_ne.2 (h c (by simp))
    have := ih (fun d hd => h d (by simp [hd]))
    rw [List.cons_append, List.takeWhile_cons, List.dropWhile_cons, if_pos hc, if_pos hc]
    exact ⟨by rw [this.1], this.2⟩

theorem cutA_len (b : UInt8) (l : List UInt8) : (cutA b l).length ≤ l.length := (List.takeWhile_sublist _).length_le
theorem cutB_len (b : UInt8) (l : List UInt8) : (cutB b l).length ≤ l.length := by
  have := (List.dropWhile_sublist (l := l) (fun c => c != b)).length_le
  unfold cutB
  rw [List.length_tail]
  omega

/-- Where the byte is. -/
theorem cut_at (b : UInt8) (l : List UInt8) : (Lib.indexByte l b = -1 ∧ cutA b l = l ∧ cutB b l = []) ∨ ∃ k : Nat, Lib.indexByte l b = (k : Int) ∧ k < l.length ∧ cutA b l = l.take k ∧ cutB b l = l.drop (k + 1) := by
  induction l with
  | nil => exact Or.inl ⟨rfl, rfl, rfl⟩
  | cons c r ih =>
    by_cases hc : c = b
    · subst hc
      refine Or.inr ⟨0, ?_, by simp, ?_, ?_⟩
      · unfold Lib.indexByte; simp
      · unfold cutA; simp
      · unfold cutB; simp
    · have hc2 : (c != b) = true := bne_iff_ne.2 hc
      have hc3 : (c == b) = false := beq_eq_false_iff_ne.2 hc
      have ea : cutA b (c :: r) = c :: cutA b r := by unfold cutA; rw [List.takeWhile_cons, if_pos hc2]
      have eb : cutB b (c :: r) = cutB b r := by unfold cutB; rw [List.dropWhile_cons, if_pos hc2]
      have ei : Lib.indexByte (c :: r) b = if Lib.indexByte r b == -1 then -1 else Lib.indexByte r b + 1 := by
        rw [Lib.indexByte, hc3]; rfl
      rw [ea, eb, ei]
      rcases ih with ⟨h1, h2, h3⟩ | ⟨k, h1, h2, h3, h4⟩
      · exact Or.inl ⟨by rw [h1]; rfl, by rw [h2], h3⟩
      · refine Or.inr ⟨k + 1, ?_, by simp; omega, by rw [h3]; rfl, by rw [h4]; rfl⟩
        rw [h1, if_neg (by rw [beq_iff_eq]; omega)]
        omega

/-- The shape of a word. -/
noncomputable def shIn (s : List UInt8) : Sh :=
  if numB s = true then .num (numV s)
  else if s = [63] then .cond
  else if s = [43] then .pair 3
  else if s = [45] then .pair 4
  else if s = [42] then .pair 5
  else if s = [47] then .pair 6
  else if s.head? = some 36 then .arg (numV s.tail)
  else if s.head? = some 64 then .call (cutA 46 (cutA 47 s.tail)) (cutB 46 (cutA 47 s.tail)) (numV (cutB 47 s.tail))
  else .no

theorem num_nohead {c : UInt8} {r : List UInt8} (h1 : c ≠ 45) (h2 : ¬ isDig c) : numB (c :: r) = false :=
  (num_no (Or.inl (readB_no fun hf => by
    have hneg : negB (c :: r) = false := by unfold negB; simp [h1]
    have hb : bodyL (c :: r) = c :: r := by unfold bodyL; rw [if_neg (by rw [hneg]; simp)]
    exact h2 (hf.2.1 c (by rw [hb]; simp))))).1

theorem num_minus : numB [45] = false :=
  (num_no (Or.inl (readB_no fun hf => by
    have hb : bodyL [45] = [] := by decide
    have := hf.1.1
    rw [hb] at this
    simp at this))).1

theorem num_word (a : Int) (h0 : -2147483648 ≤ a) (h1 : a ≤ 2147483647) : numB (intL a) = true ∧ numV (intL a) = a := by
  obtain ⟨e1, e2⟩ := read_of_int a h0 h1
  have := num_yes e1 (by rw [e2]; exact inB_yes _ _ _ h0 h1)
  exact ⟨this.1, by rw [this.2, e2]⟩

/-- A word that is shown of a node is read as it. -/
theorem in_show (n : Nd) (h : nodeB n = true) : shNode (shIn (showN n)) = n := by
  obtain ⟨k, a, p, f⟩ := n
  have hp := nodeB_iff.1 h
  unfold nodeP at hp
  simp only at hp
  rcases hp with ⟨rfl, ⟨h0, h1⟩, rfl, rfl⟩ | ⟨rfl, ⟨h0, h1⟩, rfl, rfl⟩ | ⟨hk, rfl, rfl, rfl⟩ | ⟨rfl, ⟨h0, h1⟩, hpn, hfn⟩
  · have hs : showN (1, a, [], []) = intL a := by unfold showN; simp
    obtain ⟨e1, e2⟩ := num_word a h0 h1
    rw [hs]
    unfold shIn
    rw [if_pos e1, e2]
    rfl
  · have hs : showN (2, a, [], []) = 36 :: intL a := by unfold showN; simp
    obtain ⟨_, e2⟩ := num_word a (by omega) (by omega)
    rw [hs]
    unfold shIn
    rw [if_neg (by rw [num_nohead (by decide) (by decide)]; simp), if_neg (by simp), if_neg (by simp), if_neg (by simp), if_neg (by simp), if_neg (by simp), if_pos (by rfl), List.tail_cons, e2]
    rfl
  · rcases (show k = 3 ∨ k = 4 ∨ k = 5 ∨ k = 6 ∨ k = 7 by omega) with rfl | rfl | rfl | rfl | rfl
    · have hs : showN (3, 0, [], []) = [43] := by unfold showN; simp
      rw [hs]; unfold shIn; rw [if_neg (by rw [num_nohead (by decide) (by decide)]; simp), if_neg (by simp), if_pos rfl]; rfl
    · have hs : showN (4, 0, [], []) = [45] := by unfold showN; simp
      rw [hs]; unfold shIn; rw [if_neg (by rw [num_minus]; simp), if_neg (by simp), if_neg (by simp), if_pos rfl]; rfl
    · have hs : showN (5, 0, [], []) = [42] := by unfold showN; simp
      rw [hs]; unfold shIn; rw [if_neg (by rw [num_nohead (by decide) (by decide)]; simp), if_neg (by simp), if_neg (by simp), if_neg (by simp), if_pos rfl]; rfl
    · have hs : showN (6, 0, [], []) = [47] := by unfold showN; simp
      rw [hs]; unfold shIn; rw [if_neg (by rw [num_nohead (by decide) (by decide)]; simp), if_neg (by simp), if_neg (by simp), if_neg (by simp), if_neg (by simp), if_pos rfl]; rfl
    · have hs : showN (7, 0, [], []) = [63] := by unfold showN; simp
      rw [hs]; unfold shIn; rw [if_neg (by rw [num_nohead (by decide) (by decide)]; simp), if_pos rfl]; rfl
  · have hs : showN (8, a, p, f) = 64 :: ((p ++ 46 :: f) ++ 47 :: intL a) := by unfold showN; simp
    obtain ⟨_, e2⟩ := num_word a (by omega) (by omega)
    obtain ⟨_, hpl⟩ := name_letters hpn
    obtain ⟨_, hfl⟩ := name_letters hfn
    obtain ⟨c1, c2⟩ := cut_one 47 (p ++ 46 :: f) (intL a) (by
      intro c hc
      rcases List.mem_append.1 hc with hc | hc
      · exact byte_ne (by have := hpl c hc; have e : (47 : UInt8).toNat = 47 := rfl; omega)
      · rcases List.mem_cons.1 hc with rfl | hc
        · decide
        · exact byte_ne (by have := hfl c hc; have e : (47 : UInt8).toNat = 47 := rfl; omega))
    obtain ⟨c3, c4⟩ := cut_one 46 p f (by intro c hc; exact byte_ne (by have := hpl c hc; have e : (46 : UInt8).toNat = 46 := rfl; omega))
    rw [hs]
    unfold shIn
    rw [if_neg (by rw [num_nohead (by decide) (by decide)]; simp), if_neg (by simp), if_neg (by simp), if_neg (by simp), if_neg (by simp), if_neg (by simp), if_neg (by simp), if_pos (by rfl), List.tail_cons, c1, c2, c3, c4, e2]
    rfl

/-- What a word is read as is small. -/
theorem in_small (s : List UInt8) : IntN (shNode (shIn s)) ∧ (shNode (shIn s)).2.2.1.length ≤ s.length ∧ (shNode (shIn s)).2.2.2.length ≤ s.length := by
  have b1 := numV_bd s
  have b2 := numV_bd s.tail
  have b3 := numV_bd (cutB 47 s.tail)
  have l1 := cutA_len 47 s.tail
  have l2 := cutA_len 46 (cutA 47 s.tail)
  have l3 := cutB_len 46 (cutA 47 s.tail)
  have l4 : s.tail.length ≤ s.length := by rw [List.length_tail]; omega
  unfold shIn
  repeat' split
  all_goals (unfold shNode IntN; simp only [List.length_nil]; omega)

/-- The landed ReadTree's list. -/
noncomputable def inT (s : List UInt8) : List Nd := (splitL 32 s).map (fun x => shNode (shIn x))

theorem showN_len (n : Nd) (h : nodeB n = true) : (showN n).length ≤ 20 := by
  obtain ⟨k, a, p, f⟩ := n
  have hp := nodeB_iff.1 h
  unfold nodeP at hp
  simp only at hp
  rcases hp with ⟨rfl, ⟨h0, h1⟩, rfl, rfl⟩ | ⟨rfl, ⟨h0, h1⟩, rfl, rfl⟩ | ⟨hk, rfl, rfl, rfl⟩ | ⟨rfl, ⟨h0, h1⟩, hpn, hfn⟩
  · have hs : showN (1, a, [], []) = intL a := by unfold showN; simp
    have := digL_len 9 a.natAbs (by omega)
    rw [hs]; unfold intL; split <;> simp <;> omega
  · have hs : showN (2, a, [], []) = 36 :: intL a := by unfold showN; simp
    have := digL_len 0 a.natAbs (by omega)
    rw [hs]; unfold intL; split <;> simp <;> omega
  · rcases (show k = 3 ∨ k = 4 ∨ k = 5 ∨ k = 6 ∨ k = 7 by omega) with rfl | rfl | rfl | rfl | rfl <;> (unfold showN; simp)
  · have hs : showN (8, a, p, f) = 64 :: ((p ++ 46 :: f) ++ 47 :: intL a) := by unfold showN; simp
    have := digL_len 0 a.natAbs (by omega)
    have e : intL a = digL a.natAbs := by unfold intL; rw [if_neg (by omega)]
    have := (name_letters hpn).1
    have := (name_letters hfn).1
    rw [hs, e]; simp; omega

end Go.Proofs.Ytnflkecnddbhoaa
