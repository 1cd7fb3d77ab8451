/-
  Parts of one proof, one behind the other: ImgK, ObH, InsM.
-/
import Derived.Test.YtfhkiaogfopigaaGreatDoorQ8
import Derived.Test.YtfhkiaogfopigaaGreatDoorQ7
import Derived.Test.YtfhkiaogfopigaaGreatDoorQ4
import Derived.Test.YtfhkiaogfopigaaGreatDoorQ3
import Derived.Deep.RegionWith

/-! What the landed functions of chapter 14 are told of an image. -/
namespace Go.Proofs.YtfhkiaogfopigaaGreatDoor
open Go.RowKit

/-- The routines rs lie at a, and so does the room of each row. -/
def RtsCap (w : World) (a : Option Addr) (len cap : Nat) (rs : List Rt) : Prop :=
  rs.length = len ∧ len ≤ cap ∧ cap ≤ maxLen ∧ ∀ j, j < len → ∃ b off, a = some ⟨b, off, none⟩ ∧ b < w.heap.size ∧ w.cell? ⟨b, off + j * 3, none⟩ = some (.string ⟨(rs.getD j rt0).1.toArray⟩) ∧ w.cell? ⟨b, off + j * 3 + 1, none⟩ = some (.int .i64 (rs.getD j rt0).2.1) ∧
    ∃ ca cl cc, w.cell? ⟨b, off + j * 3 + 2, none⟩ = some (.slice ca cl cc) ∧ InsIn w ca cl (rs.getD j rt0).2.2 ∧ cl ≤ cc ∧ cc ≤ maxLen
theorem RtsCap.in {w : World} {a : Option Addr} {len cap : Nat} {rs : List Rt} (h : RtsCap w a len cap rs) : RtsIn w a len rs := by
  refine ⟨h.1, fun j hj => ?_⟩
  obtain ⟨b, off, e, hl, c0, c1, ca, cl, cc, c2, hn, _, _⟩ := h.2.2.2 j hj
  exact ⟨b, off, e, hl, c0, c1, ca, cl, cc, c2, hn⟩
theorem RtsCap.below {w w' : World} {a : Option Addr} {len cap : Nat} {rs : List Rt} (h : RtsCap w a len cap rs) (hb : Below w.heap.size w w') : RtsCap w' a len cap rs := by
  refine ⟨h.1, h.2.1, h.2.2.1, fun j hj => ?_⟩
  obtain ⟨b, off, e, hlt, c0, c1, ca, cl, cc, c2, hn, h1, h2⟩ := h.2.2.2 j hj
  exact ⟨b, off, e, Nat.lt_of_lt_of_le hlt hb.size, (hb.cell (p := ⟨b, off + j * 3, none⟩) hlt).trans c0, (hb.cell (p := ⟨b, off + j * 3 + 1, none⟩) hlt).trans c1, ca, cl, cc, (hb.cell (p := ⟨b, off + j * 3 + 2, none⟩) hlt).trans c2, hn.below hb, h1, h2⟩
structure RtOk (w : World) (a : Option Addr) (len cap : Nat) (rs : List Rt) : Prop where
  c : RtsCap w a len cap rs
  i : IntR rs
  s : ShortR rs
  l : len ≤ 1048576
theorem RtOk.below {w w' : World} {a : Option Addr} {len cap : Nat} {rs : List Rt} (h : RtOk w a len cap rs) (hb : Below w.heap.size w w') : RtOk w' a len cap rs := ⟨h.c.below hb, h.i, h.s, h.l⟩
theorem own_capR {w : World} {base e size n c : Nat} {a : Option Addr} {xs : List Value} (h : w.ownsRow base e size (.slice a n c) n xs) : n ≤ c ∧ c ≤ maxLen := by
  rcases h.2 with ⟨h', _⟩ | ⟨g', cap', cur, h', _, _, hnc, hcm, _⟩
  · injection h' with _ h1 h2
    subst h1 h2
    exact ⟨Nat.le_refl _, Nat.zero_le _⟩
  · injection h' with _ _ h2
    omega
/-- What is owned lies so. -/
theorem RtsOwn.cap {w : World} {base n c : Nat} {a : Option Addr} {xs : List RV} {rs : List Rt} (h : RtsOwn w base (.slice a n c) xs) (hx : xs.map (·.1) = rs) (hn : rs.length = n) : RtsCap w a n c rs := by
  have hxl : xs.length = n := by rw [← hn, ← hx, List.length_map]
  obtain ⟨a', c', e, _, hin⟩ := h.in
  rw [hx, hxl] at hin
  rw [hxl] at e
  injection e with e1 _ e3
  subst e1 e3
  have hrow := h.row
  rw [hxl] at hrow
  have hc := own_capR hrow
  refine ⟨hin.1, hc.1, hc.2, fun j hj => ?_⟩
  obtain ⟨b, off, e, hlt, c0, c1, ca, cl, cc, c2, hn2⟩ := hin.2 j hj
  refine ⟨b, off, e, hlt, c0, c1, ca, cl, cc, c2, hn2, ?_⟩
  subst e
  obtain ⟨g, cp, e2⟩ := own_some hrow (by omega)
  injection e2 with e3 _ _
  injection e3 with e3
  injection e3 with e4 e5 _
  subst e4 e5
  have hmem : xs.getD j rv0 ∈ xs := by rw [List.getD_eq_getElem?_getD, List.getElem?_eq_getElem (by omega)]; exact List.getElem_mem (by omega)
  have ht := h.trees _ hmem
  obtain ⟨_, _, v2⟩ := rtsV_at xs j (by omega)
  have h2 := hrow.cellAt (j * 3 + 2) (by omega)
  rw [v2] at h2
  rw [Nat.zero_add] at c2
  rw [c2] at h2
  injection h2 with h2
  unfold rvT at h2 ht
  injection h2 with h3 h4 h5
  subst h3 h4 h5
  exact own_capR ht

end Go.Proofs.YtfhkiaogfopigaaGreatDoor

/-! The laws' own helpers over objects: szObject, eqObject, toObject. -/
namespace Go.Proofs.YtfhkiaogfopigaaGreatDoor
open Go.RowKit

/-- How much a package has in all. -/
def obSz (nm : List UInt8) (ims : List (List UInt8)) (fs : List Rt) : Nat := nm.length + (ims.length + joinN ims) + (fs.length + rtsSz fs)

structure ObIn (W : World) (D : Nat) (nm : List UInt8) (ia : Option Addr) (il ic : Nat) (fa : Option Addr) (fl fc : Nat) (ims : List (List UInt8)) (fs : List Rt) : Prop where
  k0 : W.cell? ⟨D, 0, none⟩ = some (.string ⟨nm.toArray⟩)
  k1 : W.cell? ⟨D, 1, none⟩ = some (.slice ia il ic)
  k2 : W.cell? ⟨D, 2, none⟩ = some (.slice fa fl fc)
  i : TextsIn W ia il ims
  f : RtsIn W fa fl fs

theorem ObIn.below {W W' : World} {D : Nat} {nm : List UInt8} {ia : Option Addr} {il ic : Nat} {fa : Option Addr} {fl fc : Nat} {ims : List (List UInt8)} {fs : List Rt} (h : ObIn W D nm ia il ic fa fl fc ims fs) (hb : Below W.heap.size W W') : ObIn W' D nm ia il ic fa fl fc ims fs :=
  have hl : D < W.heap.size := World.block_lt_of_cell? W ⟨D, 0, none⟩ h.k0
  ⟨(hb.cell (p := ⟨D, 0, none⟩) hl).trans h.k0, (hb.cell (p := ⟨D, 1, none⟩) hl).trans h.k1, (hb.cell (p := ⟨D, 2, none⟩) hl).trans h.k2, h.i.below hb, h.f.below hb⟩

theorem ObIn.drew {W : World} {D : Nat} {nm : List UInt8} {ia : Option Addr} {il ic : Nat} {fa : Option Addr} {fl fc : Nat} {ims : List (List UInt8)} {fs : List Rt} (h : ObIn W D nm ia il ic fa fl fc ims fs) : ObIn W.drew D nm ia il ic fa fl fc ims fs := ⟨h.k0, h.k1, h.k2, h.i, h.f⟩

theorem ObIn.new {w : World} {nm : List UInt8} {ia : Option Addr} {il ic : Nat} {fa : Option Addr} {fl fc : Nat} {ims : List (List UInt8)} {fs : List Rt} (hi : TextsIn w ia il ims) (hf : RtsIn w fa fl fs) :
    ObIn (w.alloc (.cells #[.string ⟨nm.toArray⟩, .slice ia il ic, .slice fa fl fc] 43)) w.heap.size nm ia il ic fa fl fc ims fs ∧ Below w.heap.size w (w.alloc (.cells #[.string ⟨nm.toArray⟩, .slice ia il ic, .slice fa fl fc] 43)) := by
  have hb : Below w.heap.size w (w.alloc (.cells #[.string ⟨nm.toArray⟩, .slice ia il ic, .slice fa fl fc] 43)) := (Below.refl _ _).alloc (Nat.le_refl _) _
  have hA := heap_alloc_new w (.cells #[.string ⟨nm.toArray⟩, .slice ia il ic, .slice fa fl fc] 43)
  generalize w.alloc (.cells #[.string ⟨nm.toArray⟩, .slice ia il ic, .slice fa fl fc] 43) = W at hb hA ⊢
  exact ⟨⟨by simp [World.cell?, hA], by simp [World.cell?, hA], by simp [World.cell?, hA], hi.below hb, hf.below hb⟩, hb⟩

/-- The law's own argument, in a block of its own. -/
theorem ObIn.newL {w : World} {nm : List UInt8} {ia : Option Addr} {il ic : Nat} {fa : Option Addr} {fl fc : Nat} {ims : List (List UInt8)} {fs : List Rt} (t : TypeId) (hi : TextsIn w ia il ims) (hf : RtsIn w fa fl fs) :
    ObIn (w.alloc (.cells #[.string ⟨nm.toArray⟩, .slice ia il ic, .slice fa fl fc] t)) w.heap.size nm ia il ic fa fl fc ims fs ∧ Below w.heap.size w (w.alloc (.cells #[.string ⟨nm.toArray⟩, .slice ia il ic, .slice fa fl fc] t)) := by
  have hb : Below w.heap.size w (w.alloc (.cells #[.string ⟨nm.toArray⟩, .slice ia il ic, .slice fa fl fc] t)) := (Below.refl _ _).alloc (Nat.le_refl _) _
  have hA := heap_alloc_new w (.cells #[.string ⟨nm.toArray⟩, .slice ia il ic, .slice fa fl fc] t)
  generalize w.alloc (.cells #[.string ⟨nm.toArray⟩, .slice ia il ic, .slice fa fl fc] t) = W at hb hA ⊢
  exact ⟨⟨by simp [World.cell?, hA], by simp [World.cell?, hA], by simp [World.cell?, hA], hi.below hb, hf.below hb⟩, hb⟩

/-- A package small enough: every bound. -/
theorem ob_small {nm : List UInt8} {ims : List (List UInt8)} {fs : List Rt} (h : obSz nm ims fs ≤ 1048576) : ims.length ≤ 1048576 ∧ fs.length ≤ 1048576 ∧ nm.length ≤ 1048576 ∧ (∀ i, (ims.getD i []).length ≤ 1048576) ∧ ShortR fs := by
  unfold obSz at h
  refine ⟨by omega, by omega, by omega, fun i => ?_, shortR_of (by omega)⟩
  have h1 := part_le ims i
  have h2 : joinN ims = ims.flatten.length := rfl
  omega

set_option maxHeartbeats 2000000 in
set_option maxRecDepth 100000 in
theorem szObjectC (nm : List UInt8) (ia : Option Addr) (il ic : Nat) (fa : Option Addr) (fl fc : Nat) (ims : List (List UInt8)) (fs : List Rt) (left : Int) (w : World) (hi : TextsIn w ia il ims) (hf : RtsIn w fa fl fs) (h0 : 0 ≤ left) (h1 : left ≤ 1048576) (hnm : nm.length ≤ maxLen) (hil : il ≤ maxLen) (him : ∀ j, (ims.getD j []).length ≤ maxLen) (hfl : fl ≤ maxLen) (hfm : LongR fs) :
    Calls Tryz.prog 16 #[.agg #[.string ⟨nm.toArray⟩, .slice ia il ic, .slice fa fl fc], .int .i64 left] w fun e w' => e = .returned (.int .i64 (szR (obSz nm ims fs) left)) ∧ Below w.heap.size w w' := by
  obtain rfl : ims.length = il := hi.1
  obtain rfl : fs.length = fl := hf.1
  unfold maxLen at hnm
  have hs2 : (nm.length : Int) ≤ 9223372036854775807 := by omega
  obtain ⟨W, hW⟩ : ∃ W, w.alloc (.cells #[.string ⟨nm.toArray⟩, .slice ia ims.length ic, .slice fa fs.length fc] 39) = W := ⟨_, rfl⟩
  have hbW : Below w.heap.size w W := by rw [← hW]; exact (Below.refl _ _).alloc (Nat.le_refl _) _
  have hA : W.heap[w.heap.size]? = some (.cells #[.string ⟨nm.toArray⟩, .slice ia ims.length ic, .slice fa fs.length fc] 39) := by rw [← hW]; exact heap_alloc_new w _
  have k0 : W.cell? ⟨w.heap.size, 0, none⟩ = some (.string ⟨nm.toArray⟩) := by simp [World.cell?, hA]
  have k1 : W.cell? ⟨w.heap.size, 1, none⟩ = some (.slice ia ims.length ic) := by simp [World.cell?, hA]
  have k2 : W.cell? ⟨w.heap.size, 2, none⟩ = some (.slice fa fs.length fc) := by simp [World.cell?, hA]
  have hlt : w.heap.size < W.heap.size := by rw [← hW]; simp
  have hiW := hi.below hbW
  have hfW := hf.below hbW
  have hob : obSz nm ims fs = nm.length + (ims.length + joinN ims) + (fs.length + rtsSz fs) := rfl
  clear hi hf hA
  by_cases hfit : (nm.length : Int) ≤ left
  · have hge1 : 0 ≤ left - (nm.length : Int) := by omega
    have HC := szStringSC ia ims.length ic ims (left - (nm.length : Int)) W hiW (by omega) (by omega) hil him
    by_cases hfit2 : (ims.length : Int) + (joinN ims : Int) ≤ left - (nm.length : Int)
    · rw [szT_yes hfit2] at HC
      have hge2 : 0 ≤ left - (nm.length : Int) - (ims.length : Int) - (joinN ims : Int) := by omega
      have HC2 := szRoutineSC fa fs.length fc fs (left - (nm.length : Int) - (ims.length : Int) - (joinN ims : Int)) W hfW (by omega) (by omega) hfl hfm
      by_cases hfit3 : ((fs.length + rtsSz fs : Nat) : Int) ≤ left - (nm.length : Int) - (ims.length : Int) - (joinN ims : Int)
      · have HZ : Hid (szR (fs.length + rtsSz fs) (left - (nm.length : Int) - (ims.length : Int) - (joinN ims : Int)) = szR (obSz nm ims fs) left) := by exact (by rw [szR_yes hfit3, szR_yes (by rw [hob]; omega), hob]; omega : szR (fs.length + rtsSz fs) (left - (nm.length : Int) - (ims.length : Int) - (joinN ims : Int)) = szR (obSz nm ims fs) left)
        have hge : 0 ≤ szR (obSz nm ims fs) left := by rw [← HZ.out, szR_yes hfit3]; omega
        rw [HZ.out] at HC2
        generalize szR (obSz nm ims fs) left = z at HC2 hge ⊢
        generalize left - (nm.length : Int) - (ims.length : Int) - (joinN ims : Int) = y at HC HC2 hge2
        clear HZ hfit3 hfit2
        go_enter Tryz.func16, Tryz.ntmps16
        go_wp2_with fail
        refine HC.mono ?_
        rintro e w1 ⟨rfl, rfl⟩
        go_wp2_with fail
        refine HC2.mono ?_
        rintro e w2 ⟨rfl, hb2⟩
        have hb : Below w.heap.size w w2 := hbW.trans (hb2.mono hbW.size)
        clear HC HC2 hb2
        go_wp2
        go_ret
        exact ⟨rfl, hb⟩
      · have HR : Hid (szR (obSz nm ims fs) left = -1) := szR_no (by rw [hob]; omega)
        rw [szR_no hfit3] at HC2
        generalize left - (nm.length : Int) - (ims.length : Int) - (joinN ims : Int) = y at HC HC2 hge2
        clear hfit3 hfit2
        go_enter Tryz.func16, Tryz.ntmps16
        go_wp2_with fail
        refine HC.mono ?_
        rintro e w1 ⟨rfl, rfl⟩
        go_wp2_with fail
        refine HC2.mono ?_
        rintro e w2 ⟨rfl, hb2⟩
        have hb : Below w.heap.size w w2 := hbW.trans (hb2.mono hbW.size)
        clear HC HC2 hb2
        go_wp2
        go_ret
        exact ⟨by rw [HR.out]; rfl, hb⟩
    · have HR : Hid (szR (obSz nm ims fs) left = -1) := szR_no (by rw [hob]; omega)
      rw [szT_no hfit2] at HC
      go_enter Tryz.func16, Tryz.ntmps16
      go_wp2_with fail
      refine HC.mono ?_
      rintro e w1 ⟨rfl, rfl⟩
      clear HC
      go_wp2
      go_ret
      exact ⟨by rw [HR.out]; rfl, hbW⟩
  · have HR : Hid (szR (obSz nm ims fs) left = -1) := szR_no (by rw [hob]; omega)
    have hlt2 : left - (nm.length : Int) < 0 := by omega
    clear hob
    go_enter Tryz.func16, Tryz.ntmps16
    go_wp2
    go_ret
    exact ⟨by rw [HR.out]; rfl, hbW⟩

set_option maxHeartbeats 2000000 in
set_option maxRecDepth 100000 in
theorem eqObjectC (nm : List UInt8) (ia ib fa fb : Option Addr) (il ica icb fl fca fcb : Nat) (ims : List (List UInt8)) (fs : List Rt) (w : World) (hia : TextsIn w ia il ims) (hib : TextsIn w ib il ims) (hfa : RtsIn w fa fl fs) (hfb : RtsIn w fb fl fs) (hil : il ≤ 4194304) (hfl : fl ≤ 4194304) (hsh : ∀ j, (fs.getD j rt0).2.2.length ≤ 4194304) :
    Calls Tryz.prog 20 #[.agg #[.string ⟨nm.toArray⟩, .slice ia il ica, .slice fa fl fca], .agg #[.string ⟨nm.toArray⟩, .slice ib il icb, .slice fb fl fcb]] w fun e w' => e = .returned (.bool true) ∧ Below w.heap.size w w' := by
  have h2 : ∀ l : List UInt8, (l != l) = false := by simp
  obtain ⟨sa, hBa⟩ := ObIn.new (w := w) (nm := nm) (ic := ica) (fc := fca) hia hfa
  obtain ⟨W1, hW1⟩ : ∃ W, w.alloc (.cells #[.string ⟨nm.toArray⟩, .slice ia il ica, .slice fa fl fca] 43) = W := ⟨_, rfl⟩
  rw [hW1] at sa hBa
  obtain ⟨sb, hBb⟩ := ObIn.new (w := W1) (nm := nm) (ic := icb) (fc := fcb) (hib.below hBa) (hfb.below hBa)
  obtain ⟨W, hW⟩ : ∃ W, W1.alloc (.cells #[.string ⟨nm.toArray⟩, .slice ib il icb, .slice fb fl fcb] 43) = W := ⟨_, rfl⟩
  rw [hW] at sb hBb
  have hs1 : W1.heap.size = w.heap.size + 1 := by rw [← hW1]; simp
  have sa2 := sa.below hBb
  have hB : Below w.heap.size w W := hBa.trans (hBb.mono hBa.size)
  rw [hs1] at sb
  have HC := eqTextsC ia ib il ica icb ims W sa2.i sb.i hil
  have k0 := sa2.k0
  have k1 := sa2.k1
  have k2 := sa2.k2
  have j0 := sb.k0
  have j1 := sb.k1
  have j2 := sb.k2
  clear hia hib hfa hfb sa hBa hBb
  go_enter Tryz.func20, Tryz.ntmps20
  go_wp2_with fail
  refine HC.mono ?_
  rintro e w1 ⟨rfl, hb1⟩
  have ta := sa2.below hb1
  have tb := sb.below hb1
  have HC2 := eqRoutineSC fa fb fl fca fcb fs w1 ta.f tb.f hfl hsh
  have hB1 : Below w.heap.size w w1 := hB.trans (hb1.mono hB.size)
  replace k0 := ta.k0
  replace k1 := ta.k1
  replace k2 := ta.k2
  replace j0 := tb.k0
  replace j1 := tb.k1
  replace j2 := tb.k2
  clear HC hb1 sa2 sb hB
  go_wp2_with fail
  refine HC2.mono ?_
  rintro e w2 ⟨rfl, hb2⟩
  have hB2 : Below w.heap.size w w2 := hB1.trans (hb2.mono hB1.size)
  clear HC2 hb2 ta tb hB1 k0 k1 k2 j0 j1 j2
  go_wp2
  go_ret
  exact ⟨rfl, hB2⟩

set_option maxHeartbeats 4000000 in
set_option maxRecDepth 100000 in
theorem toObjectC (nm : List UInt8) (ia : Option Addr) (il ic : Nat) (fa : Option Addr) (fl fc : Nat) (ims : List (List UInt8)) (fs : List Rt) (w : World) (hi : TextsIn w ia il ims) (hf : RtsIn w fa fl fs) (hil : il ≤ 1048576) (hfl : fl ≤ 1048576) (hsh : ∀ j, (fs.getD j rt0).2.2.length ≤ 1048576) :
    Calls Tryz.prog 18 #[.agg #[.string ⟨nm.toArray⟩, .slice ia il ic, .slice fa fl fc]] w fun e w' => ∃ a1 c1 g2 xs, e = .returned (.agg #[.string ⟨nm.toArray⟩, .slice a1 il c1, .slice (some ⟨g2, 0, none⟩) fl fl]) ∧ xs.map (·.1) = fs ∧ w'.ownsRow w.heap.size 9 1 (.slice a1 il c1) il (strV ims) ∧ RtsOwn w' w.heap.size (.slice (some ⟨g2, 0, none⟩) fl fl) xs ∧ ApartR (xs.map rvT) ∧ Below w.heap.size w w' := by
  obtain ⟨D, hD⟩ : ∃ D, w.heap.size = D := ⟨_, rfl⟩
  obtain ⟨W1, hW1⟩ : ∃ W, w.alloc (.cells #[.string ⟨nm.toArray⟩, .slice ia il ic, .slice fa fl fc] 39) = W := ⟨_, rfl⟩
  obtain ⟨W2, hW2⟩ : ∃ W, W1.alloc (.cells #[.string ⟨#[]⟩, .slice none 0 0, .slice none 0 0] 43) = W := ⟨_, rfl⟩
  have hs1 : W1.heap.size = D + 1 := by rw [← hW1, ← hD]; simp
  have hs2 : W2.heap.size = D + 2 := by rw [← hW2]; simp [hs1]
  have hb1 : Below D w W1 := by rw [← hW1, ← hD]; exact (Below.refl _ _).alloc (Nat.le_refl _) _
  have hb12 : Below W1.heap.size W1 W2 := by rw [← hW2]; exact (Below.refl _ _).alloc (Nat.le_refl _) _
  have hb2 : Below D w W2 := hb1.trans (hb12.mono (by omega))
  have hA1 : W1.heap[D]? = some (.cells #[.string ⟨nm.toArray⟩, .slice ia il ic, .slice fa fl fc] 39) := by rw [← hW1, ← hD]; exact heap_alloc_new w _
  have hA2 : W2.heap[D]? = some (.cells #[.string ⟨nm.toArray⟩, .slice ia il ic, .slice fa fl fc] 39) := (hb12.block _ (by omega)).trans hA1
  have hR : W2.heap[D + 1]? = some (.cells #[.string ⟨#[]⟩, .slice none 0 0, .slice none 0 0] 43) := by rw [← hs1, ← hW2]; exact heap_alloc_new W1 _
  obtain ⟨q0, q1, q2, _⟩ := threeR hb12 (by omega) hA1
  have a0 : ∀ o, (W2.alloc o).cell? ⟨D, 0, none⟩ = some (.string ⟨nm.toArray⟩) := fun o => cell_alwR o q0
  have a1 : ∀ o, (W2.alloc o).cell? ⟨D, 1, none⟩ = some (.slice ia il ic) := fun o => cell_alwR o q1
  have HI2 : Hid (TextsIn W2 ia il ims) := hi.below (by rw [hD]; exact hb2)
  have HF0 : Hid (RtsIn w fa fl fs) := hf
  have HSH : Hid (∀ j, (fs.getD j rt0).2.2.length ≤ 1048576) := hsh
  clear hi hf hA1 q0 q1 q2 hsh
  go_enter Tryz.func18, Tryz.ntmps18
  go_wp2_with fail
  obtain ⟨V, hV⟩ : ∃ V, W2.alloc (.cells #[.string ⟨nm.toArray⟩, .slice none 0 0, .slice none 0 0] 43) = V := ⟨_, rfl⟩
  rw [hV]
  have hbV : Below W2.heap.size W2 V := by rw [← hV]; exact (Below.refl _ _).alloc (Nat.le_refl _) _
  have hsV : V.heap.size = D + 3 := by rw [← hV]; simp [hs2]
  have hL : V.heap[D + 2]? = some (.cells #[.string ⟨nm.toArray⟩, .slice none 0 0, .slice none 0 0] 43) := by rw [← hs2, ← hV]; exact heap_alloc_new W2 _
  have hRV : V.heap[D + 1]? = some (.cells #[.string ⟨#[]⟩, .slice none 0 0, .slice none 0 0] 43) := (hbV.block _ (by omega)).trans hR
  have hAV : V.heap[D]? = some (.cells #[.string ⟨nm.toArray⟩, .slice ia il ic, .slice fa fl fc] 39) := (hbV.block _ (by omega)).trans hA2
  refine (toStringSC ia il ic ims V (HI2.out.below hbV) hil).mono ?_
  rintro e w4 ⟨v, rfl, hown, _, hb4⟩
  obtain ⟨_, a', c', rfl, _⟩ := own_texts hown
  obtain ⟨l0, l1, l2, lf⟩ := threeR hb4 (by omega) hL
  obtain ⟨r0, r1, r2, rf⟩ := threeR hb4 (by omega) hRV
  obtain ⟨_, _, b2, _⟩ := threeR hb4 (by omega) hAV
  have hB4 : Below D w w4 := hb2.trans ((hbV.mono (by omega)).trans (hb4.mono (by omega)))
  have hs4 : D + 3 ≤ w4.heap.size := by have := hb4.size; omega
  rw [hsV] at hown
  obtain ⟨U, hU⟩ : ∃ U, w4.setCell ⟨D + 2, 1, none⟩ (.slice a' il c') = U := ⟨_, rfl⟩
  have hgU : w4.grownBy U (some (D + 2)) := by rw [← hU]; exact grown_set _ _ _ _
  have u0 : U.cell? ⟨D + 2, 0, none⟩ = some (.string ⟨nm.toArray⟩) := by rw [← hU]; exact (World.cell?_setCell_other _ _ _ _ (by simp)).trans l0
  have u1 : U.cell? ⟨D + 2, 1, none⟩ = some (.slice a' il c') := by rw [← hU]; exact World.cell?_setCell_same _ _ _ l1
  have u2 : U.cell? ⟨D + 2, 2, none⟩ = some (.slice none 0 0) := by rw [← hU]; exact (World.cell?_setCell_other _ _ _ _ (by simp)).trans l2
  have d2 : U.cell? ⟨D, 2, none⟩ = some (.slice fa fl fc) := by rw [← hU]; exact (World.cell?_setCell_other _ _ _ _ (by simp)).trans b2
  have p0 : U.cell? ⟨D + 1, 0, none⟩ = some (.string ⟨#[]⟩) := by rw [← hU]; exact (World.cell?_setCell_other _ _ _ _ (by simp)).trans r0
  have p1 : U.cell? ⟨D + 1, 1, none⟩ = some (.slice none 0 0) := by rw [← hU]; exact (World.cell?_setCell_other _ _ _ _ (by simp)).trans r1
  have p2 : U.cell? ⟨D + 1, 2, none⟩ = some (.slice none 0 0) := by rw [← hU]; exact (World.cell?_setCell_other _ _ _ _ (by simp)).trans r2
  have pf : ∀ j, U.frozen? ⟨D + 1, j, none⟩ = false := fun j => by rw [← hU]; exact (World.frozen?_setCell ..).trans (rf j)
  have uf : ∀ j, U.frozen? ⟨D + 2, j, none⟩ = false := fun j => by rw [← hU]; exact (World.frozen?_setCell ..).trans (lf j)
  have lf1 := lf 1
  have hOU : U.ownsRow (D + 3) 9 1 (.slice a' il c') il (strV ims) := hown.kept hgU (own_offR hown (by omega))
  have hBU : Below D w U := hB4.grown hgU (by omega) (fun k e => by injection e with e; omega)
  have hsU : D + 3 ≤ U.heap.size := Nat.le_trans hs4 hgU.size
  have hFU : RtsIn U fa fl fs := HF0.out.below (by rw [hD]; exact hBU)
  have HC2 := toRoutineSC fa fl fc fs U hFU hfl HSH.out
  have hl2 : D + 2 < U.heap.size := by omega
  have hl1 : D + 1 < U.heap.size := by omega
  clear hown hb4 hB4 hgU lf rf l0 l2 r0 r1 r2 a0 a1 hL hRV hR hbV hb12 hb1 hb2 HI2 b2 hA2 hAV HF0 HSH
  go_wp2_with fail
  refine HC2.mono ?_
  rintro e w5 ⟨g2, xs, rfl, hxs, hfo, hap, hb5⟩
  have HAP : Hid (ApartR (xs.map rvT)) := hap
  clear hap
  have n0 := (hb5.cell (p := ⟨D + 2, 0, none⟩) hl2).trans u0
  have n1 := (hb5.cell (p := ⟨D + 2, 1, none⟩) hl2).trans u1
  have n2 := (hb5.cell (p := ⟨D + 2, 2, none⟩) hl2).trans u2
  have m0 := (hb5.cell (p := ⟨D + 1, 0, none⟩) hl1).trans p0
  have m1 := (hb5.cell (p := ⟨D + 1, 1, none⟩) hl1).trans p1
  have m2 := (hb5.cell (p := ⟨D + 1, 2, none⟩) hl1).trans p2
  have mf : ∀ j, w5.frozen? ⟨D + 1, j, none⟩ = false := fun j => (hb5.frozen (p := ⟨D + 1, j, none⟩) hl1).trans (pf j)
  have nf2 := (hb5.frozen (p := ⟨D + 2, 2, none⟩) hl2).trans (uf 2)
  have hO5 := own_below hOU hb5
  have hfo5 := hfo.base hsU
  have hB5 : Below D w w5 := hBU.trans (hb5.mono (by omega))
  have hs5 : D + 3 ≤ w5.heap.size := Nat.le_trans hsU hb5.size
  obtain ⟨X, hX⟩ : ∃ X, w5.setCell ⟨D + 2, 2, none⟩ (.slice (some ⟨g2, 0, none⟩) fl fl) = X := ⟨_, rfl⟩
  have hgX : w5.grownBy X (some (D + 2)) := by rw [← hX]; exact grown_set _ _ _ _
  have x0 : X.cell? ⟨D + 2, 0, none⟩ = some (.string ⟨nm.toArray⟩) := by rw [← hX]; exact (World.cell?_setCell_other _ _ _ _ (by simp)).trans n0
  have x1 : X.cell? ⟨D + 2, 1, none⟩ = some (.slice a' il c') := by rw [← hX]; exact (World.cell?_setCell_other _ _ _ _ (by simp)).trans n1
  have x2 : X.cell? ⟨D + 2, 2, none⟩ = some (.slice (some ⟨g2, 0, none⟩) fl fl) := by rw [← hX]; exact World.cell?_setCell_same _ _ _ n2
  have z0 : X.cell? ⟨D + 1, 0, none⟩ = some (.string ⟨#[]⟩) := by rw [← hX]; exact (World.cell?_setCell_other _ _ _ _ (by simp)).trans m0
  have z1 : X.cell? ⟨D + 1, 1, none⟩ = some (.slice none 0 0) := by rw [← hX]; exact (World.cell?_setCell_other _ _ _ _ (by simp)).trans m1
  have z2 : X.cell? ⟨D + 1, 2, none⟩ = some (.slice none 0 0) := by rw [← hX]; exact (World.cell?_setCell_other _ _ _ _ (by simp)).trans m2
  have zf : ∀ j, X.frozen? ⟨D + 1, j, none⟩ = false := fun j => by rw [← hX]; exact (World.frozen?_setCell ..).trans (mf j)
  have zf0 := zf 0
  have zf1 := zf 1
  have zf2 := zf 2
  have HXS : Hid (xs.map (·.1) = fs) := hxs
  have HOX : Hid (X.ownsRow (D + 3) 9 1 (.slice a' il c') il (strV ims)) := hO5.kept hgX (own_offR hO5 (by omega))
  have HFX : Hid (RtsOwn X (D + 3) (.slice (some ⟨g2, 0, none⟩) fl fl) xs) := hfo5.kept hgX (own_offR hfo5.row (by omega)) (fun y hy => own_offR (hfo5.trees y hy) (by omega))
  have HBX : Hid (Below D w X) := hB5.grown hgX (by omega) (fun k e => by injection e with e; omega)
  have hsX : D + 3 ≤ X.heap.size := Nat.le_trans hs5 hgX.size
  clear HC2 hfo hfo5 hb5 hO5 hOU hB5 hgX zf mf pf uf u0 u1 u2 p0 p1 p2 d2 n0 n1 m0 m1 m2 hxs hFU hBU lf1
  go_wp2
  obtain ⟨Y, hY, y0, y1, y2, hg⟩ := set3R (.string ⟨nm.toArray⟩) (.slice a' il c') (.slice (some ⟨g2, 0, none⟩) fl fl) z0 z1 z2
  rw [hY]
  refine bodyPost_ret (v := .agg #[.string ⟨nm.toArray⟩, .slice a' il c', .slice (some ⟨g2, 0, none⟩) fl fl]) (by simp [results, Tryz.results18, go_sem, y0, y1, y2]) rfl ?_
  have hfx := HFX.out
  exact ⟨a', c', g2, xs, rfl, HXS.out, own_base (HOX.out.kept hg (own_offR HOX.out (by omega))) (by omega), (hfx.kept hg (own_offR hfx.row (by omega)) (fun y hy => own_offR (hfx.trees y hy) (by omega))).base (by omega), HAP.out, by rw [hD]; exact HBX.out.grown hg (by omega) (fun k e => by injection e with e; omega)⟩

end Go.Proofs.YtfhkiaogfopigaaGreatDoor

/-! The laws' own helpers over rows of instructions: markInsS, heldInsS. -/
namespace Go.Proofs.YtfhkiaogfopigaaGreatDoor
open Go.RowKit

/-- The marks of m instructions, from k on. -/
def marksC (k : Nat) : Nat → List In13
  | 0 => []
  | m + 1 => marksC k m ++ [(((k + 5 * m : Nat) : Int), ((k + 5 * m + 1 : Nat) : Int), ((k + 5 * m + 1 + 1 : Nat) : Int), ((k + 5 * m + 1 + 1 + 1 : Nat) : Int), markL (k + 5 * m + 1 + 1 + 1 + 1))]
theorem marksC_len (k m : Nat) : (marksC k m).length = m := by
  induction m with
  | zero => rfl
  | succ m ih => simp [marksC, ih]
theorem marksC_at (k m j : Nat) (h : j < m) : (marksC k m).getD j in0 = (((k + 5 * j : Nat) : Int), ((k + 5 * j + 1 : Nat) : Int), ((k + 5 * j + 1 + 1 : Nat) : Int), ((k + 5 * j + 1 + 1 + 1 : Nat) : Int), markL (k + 5 * j + 1 + 1 + 1 + 1)) := by
  induction m with
  | zero => omega
  | succ m ih =>
    unfold marksC
    by_cases hj : j < m
    · rw [← ih hj]
      simp [List.getD, List.getElem?_append, marksC_len, hj]
    · obtain rfl : j = m := by omega
      simp [List.getD, marksC_len]
theorem marksC_set (k i : Nat) (ns : List In13) (h : i < ns.length) : (marksC k i ++ ns.drop i).set i (((k + 5 * i : Nat) : Int), ((k + 5 * i + 1 : Nat) : Int), ((k + 5 * i + 1 + 1 : Nat) : Int), ((k + 5 * i + 1 + 1 + 1 : Nat) : Int), markL (k + 5 * i + 1 + 1 + 1 + 1)) = marksC k (i + 1) ++ ns.drop (i + 1) := by
  rw [List.set_append_right _ _ (by rw [marksC_len]; omega), marksC_len, Nat.sub_self, List.drop_eq_getElem_cons h, List.set_cons_zero]
  conv => rhs; unfold marksC
  rw [List.append_assoc]; rfl

set_option maxHeartbeats 4000000 in
set_option maxRecDepth 100000 in
theorem markInsSC (w : World) (base g cp n k0 : Nat) (ns : List In13) (hn : n ≤ 1100000) (hk0 : 0 < k0) (hk1 : k0 ≤ 30000000)
    (h : w.ownsRow base 81 5 (.slice (some ⟨g, 0, none⟩) n cp) n (insV ns)) :
    Calls Tryz.prog 65 #[.slice (some ⟨g, 0, none⟩) n cp, .int .i64 k0] w fun e w' => e = .returned (.int .i64 ((k0 + 5 * n : Nat) : Int)) ∧ w'.ownsRow base 81 5 (.slice (some ⟨g, 0, none⟩) n cp) n (insV (marksC k0 n)) ∧ w.grownBy w' (some g) := by
  have hbl := (own_ins h).1
  go_enter Tryz.func65, Tryz.ntmps65
  go_wp2
  go_loopw [1, 5] (fun k i wr => ∃ m : Nat, m ≤ n ∧ i = .int .i64 m ∧ k = .int .i64 ((k0 + 5 * m : Nat) : Int) ∧ wr.ownsRow base 81 5 (.slice (some ⟨g, 0, none⟩) n cp) n (insV (marksC k0 m ++ ns.drop m)) ∧ w.grownBy wr (some g)) (fun _ i _ => n - (intOf i).toNat)
  case atStart => exact ⟨0, Nat.zero_le _, rfl, rfl, h, World.grownBy.refl _ _⟩
  case round =>
    obtain ⟨m, hm, rfl, rfl, hown, hg⟩ := hrel
    by_cases hlt : (m : Int) < (n : Int)
    · have hl2 : (marksC k0 m ++ ns.drop m).length = n := (own_ins hown).1
      have hset := marksC_set k0 m ns (by omega)
      obtain ⟨q, hq⟩ : ∃ q, k0 + 5 * m = q := ⟨_, rfl⟩
      have hq3 : q ≤ 36500000 := by omega
      have HQ2 : Hid (k0 + 5 * (m + 1) = q + 1 + 1 + 1 + 1 + 1) := by exact (by omega : k0 + 5 * (m + 1) = q + 1 + 1 + 1 + 1 + 1)
      rw [hq] at hset ⊢
      clear hq
      obtain ⟨v0, v1, v2, v3, v4⟩ := insV_at (marksC k0 m ++ ns.drop m) m (by omega)
      obtain ⟨xs, hxs⟩ : ∃ xs, insV (marksC k0 m ++ ns.drop m) = xs := ⟨_, rfl⟩
      have hset2 := insV_set (marksC k0 m ++ ns.drop m) m (q : Int) ((q + 1 : Nat) : Int) ((q + 1 + 1 : Nat) : Int) ((q + 1 + 1 + 1 : Nat) : Int) (markL (q + 1 + 1 + 1 + 1))
      rw [hset, hxs] at hset2
      rw [hxs] at hown v0 v1 v2 v3 v4
      have HSET : Hid (_) := hset2
      clear hset hset2 hxs
      obtain ⟨u0, d0⟩ : ∃ u, wr.cell? ⟨g, m * 5, none⟩ = some u := by rw [hown.cellAt (m * 5) (by omega), v0]; exact ⟨_, rfl⟩
      obtain ⟨u1, d1⟩ : ∃ u, wr.cell? ⟨g, m * 5 + 1, none⟩ = some u := by rw [hown.cellAt (m * 5 + 1) (by omega), v1]; exact ⟨_, rfl⟩
      obtain ⟨u2, d2⟩ : ∃ u, wr.cell? ⟨g, m * 5 + 2, none⟩ = some u := by rw [hown.cellAt (m * 5 + 2) (by omega), v2]; exact ⟨_, rfl⟩
      obtain ⟨u3, d3⟩ : ∃ u, wr.cell? ⟨g, m * 5 + 3, none⟩ = some u := by rw [hown.cellAt (m * 5 + 3) (by omega), v3]; exact ⟨_, rfl⟩
      have e0 := hown.frozenAt (m * 5)
      have e1 := hown.frozenAt (m * 5 + 1)
      have e2 := hown.frozenAt (m * 5 + 2)
      have e3 := hown.frozenAt (m * 5 + 3)
      have hs1 := hown.stored (m * 5) (.int .i64 (q : Int))
      have hs2 := hs1.1.stored (m * 5 + 1) (.int .i64 ((q + 1 : Nat) : Int))
      have hs3 := hs2.1.stored (m * 5 + 2) (.int .i64 ((q + 1 + 1 : Nat) : Int))
      have hs4 := hs3.1.stored (m * 5 + 3) (.int .i64 ((q + 1 + 1 + 1 : Nat) : Int))
      obtain ⟨W1, hW1⟩ : ∃ W1, (((wr.setCell ⟨g, m * 5, none⟩ (.int .i64 (q : Int))).setCell ⟨g, m * 5 + 1, none⟩ (.int .i64 ((q + 1 : Nat) : Int))).setCell ⟨g, m * 5 + 2, none⟩ (.int .i64 ((q + 1 + 1 : Nat) : Int))).setCell ⟨g, m * 5 + 3, none⟩ (.int .i64 ((q + 1 + 1 + 1 : Nat) : Int)) = W1 := ⟨_, rfl⟩
      rw [hW1] at hs4
      have HS1 : Hid (_) := hs4.1
      have HG1 : Hid (w.grownBy W1 (some g)) := (((hg.trans hs1.2).trans hs2.2).trans hs3.2).trans hs4.2
      clear hs1 hs2 hs3 hs4
      go_wp2_with fail
      refine (markTextC (q + 1 + 1 + 1 + 1) _ (by omega) (by omega)).mono ?_
      rintro e w2 ⟨rfl, hg2⟩
      first | (have hg2' : W1.grownBy w2 none := hg2) | (have hg2' : W1.grownBy w2 none := by rw [← hW1]; exact hg2)
      have hown2 := own_none HS1.out hg2'
      obtain ⟨u4, d4⟩ : ∃ u, w2.cell? ⟨g, m * 5 + 4, none⟩ = some u := by
        rw [hown2.cellAt (m * 5 + 4) (by omega), List.getElem?_set_ne (by omega), List.getElem?_set_ne (by omega), List.getElem?_set_ne (by omega), List.getElem?_set_ne (by omega), v4]; exact ⟨_, rfl⟩
      have e4 := hown2.frozenAt (m * 5 + 4)
      have hs5 := hown2.stored (m * 5 + 4) (.string ⟨(markL (q + 1 + 1 + 1 + 1)).toArray⟩)
      rw [HSET.out] at hs5
      have hg5 := (HG1.out.andThen hg2' (by simp)).trans hs5.2
      have hs6 := hs5.1
      clear hown2 hs5 hg2 hg2' hown hg HS1 HG1 d0 d1 d2 d3 e0 e1 e2 e3 v0 v1 v2 v3 v4 HSET
      go_wp2
      go_roundw
      case rel => exact ⟨m + 1, by omega, by go_num, by rw [HQ2.out]; go_num, hs6, hg5⟩
      case measure => simp [intOf]; omega
    · obtain rfl : m = n := by omega
      have hd : ns.drop m = [] := List.drop_eq_nil_of_le (by omega)
      rw [hd, List.append_nil] at hown
      clear hd
      go_wp2
      go_ret
      exact ⟨rfl, hown, hg⟩

set_option maxHeartbeats 1000000 in
set_option maxRecDepth 100000 in
theorem markInsSNil (w : World) (k0 : Nat) :
    Calls Tryz.prog 65 #[.slice none 0 0, .int .i64 k0] w fun e w' => e = .returned (.int .i64 (k0 : Int)) ∧ w' = w := by
  go_enter Tryz.func65, Tryz.ntmps65
  go_wp2
  refine wp_loop_rounds 1 ?_
  rw [rounds_succ]
  go_wp2
  go_ret
  exact ⟨rfl, rfl⟩

theorem markInsSV (w : World) (base n k0 : Nat) (v : Value) (ns : List In13) (hn : n ≤ 1100000) (hk0 : 0 < k0) (hk1 : k0 ≤ 30000000) (h : w.ownsRow base 81 5 v n (insV ns)) :
    Calls Tryz.prog 65 #[v, .int .i64 k0] w fun e w' => e = .returned (.int .i64 ((k0 + 5 * n : Nat) : Int)) ∧ w'.ownsRow base 81 5 v n (insV (marksC k0 n)) ∧ w.grownBy w' v.ownBlock := by
  rcases own_forms h with ⟨rfl, rfl, _⟩ | ⟨g, cp, rfl⟩
  · refine (markInsSNil w k0).mono ?_
    rintro e w' ⟨rfl, rfl⟩
    exact ⟨rfl, World.ownsRow_nil _ _ _ _, World.grownBy.refl _ _⟩
  · exact markInsSC w base g cp n k0 ns hn hk0 hk1 h

set_option maxHeartbeats 4000000 in
set_option maxRecDepth 100000 in
theorem heldInsSC (w : World) (a : Option Addr) (cap n k0 : Nat) (hn : n ≤ 1100000) (hk0 : 0 < k0) (hk1 : k0 ≤ 30000000) (h : InsIn w a n (marksC k0 n)) :
    Calls Tryz.prog 66 #[.slice a n cap, .int .i64 k0] w fun e w' => e = .returned (.int .i64 ((k0 + 5 * n : Nat) : Int)) ∧ w.grownBy w' none := by
  have hself : ∀ l : List UInt8, (l != l) = false := by simp
  have hne : ∀ n : Int, (n != n) = false := by simp
  have HI : Hid (InsIn w a n (marksC k0 n)) := h
  clear h
  go_enter Tryz.func66, Tryz.ntmps66
  go_wp2
  go_loopw [1, 5] (fun k i wr => ∃ m : Nat, m ≤ n ∧ i = .int .i64 m ∧ k = .int .i64 ((k0 + 5 * m : Nat) : Int) ∧ w.grownBy wr none) (fun _ i _ => n - (intOf i).toNat)
  case atStart => exact ⟨0, Nat.zero_le _, rfl, rfl, World.grownBy.refl _ _⟩
  case round =>
    obtain ⟨m, hm, rfl, rfl, hg⟩ := hrel
    by_cases hlt : (m : Int) < (n : Int)
    · obtain ⟨b, off, rfl, hbl, c0, c1, c2, c3, c4⟩ := HI.out.2 m (by omega)
      rw [marksC_at k0 n m (by omega)] at c0 c1 c2 c3 c4
      simp only at c0 c1 c2 c3 c4
      obtain ⟨q, hq⟩ : ∃ q, k0 + 5 * m = q := ⟨_, rfl⟩
      have HQ2 : Hid (k0 + 5 * (m + 1) = q + 1 + 1 + 1 + 1 + 1) := by exact (by omega : k0 + 5 * (m + 1) = q + 1 + 1 + 1 + 1 + 1)
      have hq3 : q ≤ 36500000 := by omega
      rw [hq] at c0 c1 c2 c3 c4 ⊢
      clear hq
      have x0 : wr.cell? ⟨b, off + m * 5, none⟩ = some (.int .i64 (q : Int)) := hg.cell c0 (by simp)
      have x1 : wr.cell? ⟨b, off + m * 5 + 1, none⟩ = some (.int .i64 ((q : Int) + 1)) := hg.cell c1 (by simp)
      have x2 : wr.cell? ⟨b, off + m * 5 + 2, none⟩ = some (.int .i64 ((q : Int) + 1 + 1)) := hg.cell c2 (by simp)
      have x3 : wr.cell? ⟨b, off + m * 5 + 3, none⟩ = some (.int .i64 ((q : Int) + 1 + 1 + 1)) := hg.cell c3 (by simp)
      have x4 : wr.cell? ⟨b, off + m * 5 + 4, none⟩ = some (.string ⟨(markL (q + 1 + 1 + 1 + 1)).toArray⟩) := hg.cell c4 (by simp)
      clear c0 c1 c2 c3 c4
      go_wp2
      go_region_with (go_at_call 64; refine (markTextC (q + 1 + 1 + 1 + 1) _ (by omega) (by omega)).mono ?_; rintro e w1 ⟨rfl, hg1⟩; have x41 := hg1.cell (a := ⟨b, off + m * 5 + 4, none⟩) x4 (by simp))
      all_goals (try go_wp2)
      all_goals
        go_roundw
        case rel => exact ⟨m + 1, by omega, by go_num, by rw [HQ2.out]; go_num, by first | exact hg.trans hg1 | exact (hg.trans (grown_drew _ _)).trans hg1⟩
        case measure => simp [intOf]; omega
    · obtain rfl : m = n := by omega
      go_wp2
      go_ret
      exact ⟨rfl, hg⟩

theorem heldInsSV (w : World) (base n k0 : Nat) (v : Value) (hn : n ≤ 1100000) (hk0 : 0 < k0) (hk1 : k0 ≤ 30000000) (h : w.ownsRow base 81 5 v n (insV (marksC k0 n))) :
    Calls Tryz.prog 66 #[v, .int .i64 k0] w fun e w' => e = .returned (.int .i64 ((k0 + 5 * n : Nat) : Int)) ∧ w.grownBy w' none := by
  obtain ⟨_, a, cap, rfl, hin⟩ := own_ins h
  exact heldInsSC w a cap n k0 hn hk0 hk1 hin

end Go.Proofs.YtfhkiaogfopigaaGreatDoor
