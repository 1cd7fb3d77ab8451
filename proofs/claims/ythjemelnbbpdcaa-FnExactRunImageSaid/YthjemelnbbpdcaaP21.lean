/-
  Parts of one proof, one behind the other: ImgH, ImgK, Math14I, ImgA.
-/
import Derived.Test.YthjemelnbbpdcaaP20
import Derived.Test.YthjemelnbbpdcaaP18
import Derived.Test.YthjemelnbbpdcaaP10
import Derived.Test.YthjemelnbbpdcaaP5
import Derived.Lib.Bytealg
import Derived.Laws.Externs
import Derived.Deep.RegionHeld3
import Derived.Shelf.Abstract

/-! The laws' own helpers over images: szImage, toImage, eqImage, markImage, heldImage. -/
namespace Go.Proofs.Ythjemelnbbpdcaa
open Go.RowKit

set_option maxHeartbeats 1000000 in
set_option maxRecDepth 100000 in
theorem szImageC (a : Option Addr) (len cap : Nat) (rs : List Rt) (left : Int) (w : World) (hin : RtsIn w a len rs) (h0 : 0 ≤ left) (h1 : left ≤ 1048576) (hl : len ≤ maxLen) (hm : LongR rs) :
    Calls Try.prog 11 #[.agg #[.slice a len cap], .int .i64 left] w fun e w' => e = .returned (.int .i64 (szR (len + rtsSz rs) left)) ∧ Below w.heap.size w w' := by
  have hbW : Below w.heap.size w (w.alloc (.cells #[.slice a len cap] 35)) := (Below.refl _ _).alloc (Nat.le_refl _) _
  have HC : Hid (_) := szRoutineSC a len cap rs left _ (hin.below hbW) h0 h1 hl hm
  have HB : Hid (Below w.heap.size w (w.alloc (.cells #[.slice a len cap] 35))) := hbW
  have hz : szR (len + rtsSz rs) left = -1 ∨ 0 ≤ szR (len + rtsSz rs) left := by
    unfold szR
    split
    · right; omega
    · left; rfl
  generalize szR (len + rtsSz rs) left = z at HC hz ⊢
  clear hin hbW
  rcases hz with rfl | hz
  · go_enter Try.func11, Try.ntmps11
    go_wp2_with fail
    refine Calls.mono HC.out ?_
    rintro e w1 ⟨rfl, hb1⟩
    go_wp2
    go_ret
    exact ⟨rfl, HB.out.trans (hb1.mono HB.out.size)⟩
  · go_enter Try.func11, Try.ntmps11
    go_wp2_with fail
    refine Calls.mono HC.out ?_
    rintro e w1 ⟨rfl, hb1⟩
    go_wp2
    go_ret
    exact ⟨rfl, HB.out.trans (hb1.mono HB.out.size)⟩

set_option maxHeartbeats 2000000 in
set_option maxRecDepth 100000 in
theorem toImageC (a : Option Addr) (len cap : Nat) (rs : List Rt) (w : World) (hin : RtsIn w a len rs) (hlen : len ≤ 1048576) (hsh : ∀ j, (rs.getD j rt0).2.2.length ≤ 1048576) :
    Calls Try.prog 13 #[.agg #[.slice a len cap]] w fun e w' => ∃ g xs, e = .returned (.agg #[.slice (some ⟨g, 0, none⟩) len len]) ∧ xs.map (·.1) = rs ∧ RtsOwn w' w.heap.size (.slice (some ⟨g, 0, none⟩) len len) xs ∧ ApartR (xs.map rvT) ∧ Below w.heap.size w w' := by
  obtain ⟨D, hD⟩ : ∃ D, w.heap.size = D := ⟨_, rfl⟩
  obtain ⟨W1, hW1⟩ : ∃ W, w.alloc (.cells #[.slice a len cap] 35) = W := ⟨_, rfl⟩
  obtain ⟨W2, hW2⟩ : ∃ W, W1.alloc (.cells #[.slice none 0 0] 26) = W := ⟨_, rfl⟩
  obtain ⟨W3, hW3⟩ : ∃ W, W2.alloc (.cells #[.slice none 0 0] 26) = W := ⟨_, rfl⟩
  have hs1 : W1.heap.size = D + 1 := by rw [← hW1, ← hD]; simp
  have hs2 : W2.heap.size = D + 2 := by rw [← hW2]; simp [hs1]
  have hs3 : W3.heap.size = D + 3 := by rw [← hW3]; simp [hs2]
  have hb1 : Below D w W1 := by rw [← hW1, ← hD]; exact (Below.refl _ _).alloc (Nat.le_refl _) _
  have hb12 : Below W1.heap.size W1 W2 := by rw [← hW2]; exact (Below.refl _ _).alloc (Nat.le_refl _) _
  have hb23 : Below W2.heap.size W2 W3 := by rw [← hW3]; exact (Below.refl _ _).alloc (Nat.le_refl _) _
  have hb3 : Below D w W3 := (hb1.trans (hb12.mono (by omega))).trans (hb23.mono (by omega))
  have hA1 : W1.heap[D]? = some (.cells #[.slice a len cap] 35) := by rw [← hW1, ← hD]; exact heap_alloc_new w _
  have hR2 : W2.heap[D + 1]? = some (.cells #[.slice none 0 0] 26) := by rw [← hs1, ← hW2]; exact heap_alloc_new W1 _
  have hR3 : W3.heap[D + 2]? = some (.cells #[.slice none 0 0] 26) := by rw [← hs2, ← hW3]; exact heap_alloc_new W2 _
  have hA3 : W3.heap[D]? = some (.cells #[.slice a len cap] 35) := ((hb23.block _ (by omega)).trans (hb12.block _ (by omega))).trans hA1
  have hR23 : W3.heap[D + 1]? = some (.cells #[.slice none 0 0] 26) := (hb23.block _ (by omega)).trans hR2
  have a0 : W3.cell? ⟨D, 0, none⟩ = some (.slice a len cap) := cell_of_one hA3
  have HC : Hid (_) := toRoutineSC a len cap rs W3 (hin.below (by rw [hD]; exact hb3)) hlen hsh
  clear hin hA1 hR2 hA3 hb12 hb23 hb1 hsh
  go_enter Try.func13, Try.ntmps13
  go_wp2_with fail
  refine Calls.mono HC.out ?_
  rintro e w4 ⟨g, xs, rfl, hxs, hfo, hap, hb4⟩
  have e1 : w4.heap[D + 1]? = some (.cells #[.slice none 0 0] 26) := (hb4.block _ (by omega)).trans hR23
  have e2 : w4.heap[D + 2]? = some (.cells #[.slice none 0 0] 26) := (hb4.block _ (by omega)).trans hR3
  have k1 := cell_of_one e1
  have f1 := free_of_one e1
  have k2 := cell_of_one e2
  have f2 := free_of_one e2
  have hs4 : D + 3 ≤ w4.heap.size := by have := hb4.size; omega
  have hB4 : Below D w w4 := hb3.trans (hb4.mono (by omega))
  rw [hs3] at hfo
  obtain ⟨U, hU⟩ : ∃ U, w4.setCell ⟨D + 2, 0, none⟩ (.slice (some ⟨g, 0, none⟩) len len) = U := ⟨_, rfl⟩
  have hgU : w4.grownBy U (some (D + 2)) := by rw [← hU]; exact grown_set _ _ _ _
  have u2 : U.cell? ⟨D + 2, 0, none⟩ = some (.slice (some ⟨g, 0, none⟩) len len) := by rw [← hU]; exact World.cell?_setCell_same _ _ _ k2
  have u1 : U.cell? ⟨D + 1, 0, none⟩ = some (.slice none 0 0) := by rw [← hU]; exact (World.cell?_setCell_other _ _ _ _ (by simp)).trans k1
  have uf1 : U.frozen? ⟨D + 1, 0, none⟩ = false := by rw [← hU]; exact (World.frozen?_setCell ..).trans f1
  obtain ⟨V, hV⟩ : ∃ V, U.setCell ⟨D + 1, 0, none⟩ (.slice (some ⟨g, 0, none⟩) len len) = V := ⟨_, rfl⟩
  have hgV : U.grownBy V (some (D + 1)) := by rw [← hV]; exact grown_set _ _ _ _
  have v1 : V.cell? ⟨D + 1, 0, none⟩ = some (.slice (some ⟨g, 0, none⟩) len len) := by rw [← hV]; exact World.cell?_setCell_same _ _ _ u1
  have hfU := hfo.kept hgU (own_offR hfo.row (by omega)) (fun y hy => own_offR (hfo.trees y hy) (by omega))
  have hfV := hfU.kept hgV (own_offR hfU.row (by omega)) (fun y hy => own_offR (hfU.trees y hy) (by omega))
  have hBU : Below D w U := hB4.grown hgU (by omega) (fun k e => by injection e with e; omega)
  have HF : Hid (xs.map (·.1) = rs ∧ RtsOwn V D (.slice (some ⟨g, 0, none⟩) len len) xs ∧ ApartR (xs.map rvT) ∧ Below D w V) := ⟨hxs, hfV.base (by omega), hap, hBU.grown hgV (by have := hgU.size; omega) (fun k e => by injection e with e; omega)⟩
  clear hxs hfo hap hb4 hB4 hgU hgV hfU hfV hBU e1 e2 hR23 hR3 a0 HC hb3
  go_wp2
  refine bodyPost_ret (v := .agg #[.slice (some ⟨g, 0, none⟩) len len]) (by simp [results, Try.results13, go_sem, v1]) rfl ?_
  rw [hD]
  exact ⟨g, xs, rfl, HF.out⟩

set_option maxHeartbeats 1000000 in
set_option maxRecDepth 100000 in
theorem eqImageC (a b : Option Addr) (len ca cb : Nat) (rs : List Rt) (w : World) (ha : RtsIn w a len rs) (hb : RtsIn w b len rs) (hlen : len ≤ 4194304) (hsh : ∀ j, (rs.getD j rt0).2.2.length ≤ 4194304) :
    Calls Try.prog 15 #[.agg #[.slice a len ca], .agg #[.slice b len cb]] w fun e w' => e = .returned (.bool true) ∧ Below w.heap.size w w' := by
  have hbW : Below w.heap.size w ((w.alloc (.cells #[.slice a len ca] 26)).alloc (.cells #[.slice b len cb] 26)) := ((Below.refl _ _).alloc (Nat.le_refl _) _).alloc (by simp) _
  have HC : Hid (_) := eqRoutineSC a b len ca cb rs _ (ha.below hbW) (hb.below hbW) hlen hsh
  have HB : Hid (Below w.heap.size w ((w.alloc (.cells #[.slice a len ca] 26)).alloc (.cells #[.slice b len cb] 26))) := hbW
  clear ha hb hbW
  go_enter Try.func15, Try.ntmps15
  go_wp2_with fail
  refine Calls.mono HC.out ?_
  rintro e w1 ⟨rfl, hb1⟩
  go_wp2
  go_ret
  exact ⟨rfl, HB.out.trans (hb1.mono HB.out.size)⟩



end Go.Proofs.Ythjemelnbbpdcaa

/-! What the landed functions of chapter 14 are told of an image. -/
namespace Go.Proofs.Ythjemelnbbpdcaa
open Go.RowKit

/-- The routines rs lie at a, and so does the room of each row. -/
def RtsCap (w : World) (a : Option Addr) (len cap : Nat) (rs : List Rt) : Prop :=
  rs.length = len ∧ len ≤ cap ∧ cap ≤ maxLen ∧ ∀ j, j < len → ∃ b off, a = some ⟨b, off, none⟩ ∧ b < w.heap.size ∧ w.cell? ⟨b, off + j * 3, none⟩ = some (.string ⟨(rs.getD j rt0).1.toArray⟩) ∧ w.cell? ⟨b, off + j * 3 + 1, none⟩ = some (.int .i64 (rs.getD j rt0).2.1) ∧
    ∃ ca cl cc, w.cell? ⟨b, off + j * 3 + 2, none⟩ = some (.slice ca cl cc) ∧ InsIn w ca cl (rs.getD j rt0).2.2 ∧ cl ≤ cc ∧ cc ≤ maxLen
theorem RtsCap.in {w : World} {a : Option Addr} {len cap : Nat} {rs : List Rt} (h : RtsCap w a len cap rs) : RtsIn w a len rs := by
  refine ⟨h.1, fun j hj => ?_⟩
  obtain ⟨b, off, e, hl, c0, c1, ca, cl, cc, c2, hn, _, _⟩ := h.2.2.2 j hj
  exact ⟨b, off, e, hl, c0, c1, ca, cl, cc, c2, hn⟩
theorem RtsCap.below {w w' : World} {a : Option Addr} {len cap : Nat} {rs : List Rt} (h : RtsCap w a len cap rs) (hb : Below w.heap.size w w') : RtsCap w' a len cap rs := by
  refine ⟨h.1, h.2.1, h.2.2.1, fun j hj => ?_⟩
  obtain ⟨b, off, e, hlt, c0, c1, ca, cl, cc, c2, hn, h1, h2⟩ := h.2.2.2 j hj
  exact ⟨b, off, e, Nat.lt_of_lt_of_le hlt hb.size, (hb.cell (p := ⟨b, off + j * 3, none⟩) hlt).trans c0, (hb.cell (p := ⟨b, off + j * 3 + 1, none⟩) hlt).trans c1, ca, cl, cc, (hb.cell (p := ⟨b, off + j * 3 + 2, none⟩) hlt).trans c2, hn.below hb, h1, h2⟩
structure RtOk (w : World) (a : Option Addr) (len cap : Nat) (rs : List Rt) : Prop where
  c : RtsCap w a len cap rs
  i : IntR rs
  s : ShortR rs
  l : len ≤ 1048576
theorem RtOk.below {w w' : World} {a : Option Addr} {len cap : Nat} {rs : List Rt} (h : RtOk w a len cap rs) (hb : Below w.heap.size w w') : RtOk w' a len cap rs := ⟨h.c.below hb, h.i, h.s, h.l⟩
theorem own_capR {w : World} {base e size n c : Nat} {a : Option Addr} {xs : List Value} (h : w.ownsRow base e size (.slice a n c) n xs) : n ≤ c ∧ c ≤ maxLen := by
  rcases h.2 with ⟨h', _⟩ | ⟨g', cap', cur, h', _, _, hnc, hcm, _⟩
  · injection h' with _ h1 h2
    subst h1 h2
    exact ⟨Nat.le_refl _, Nat.zero_le _⟩
  · injection h' with _ _ h2
    omega
/-- What is owned lies so. -/
theorem RtsOwn.cap {w : World} {base n c : Nat} {a : Option Addr} {xs : List RV} {rs : List Rt} (h : RtsOwn w base (.slice a n c) xs) (hx : xs.map (·.1) = rs) (hn : rs.length = n) : RtsCap w a n c rs := by
  have hxl : xs.length = n := by rw [← hn, ← hx, List.length_map]
  obtain ⟨a', c', e, _, hin⟩ := h.in
  rw [hx, hxl] at hin
  rw [hxl] at e
  injection e with e1 _ e3
  subst e1 e3
  have hrow := h.row
  rw [hxl] at hrow
  have hc := own_capR hrow
  refine ⟨hin.1, hc.1, hc.2, fun j hj => ?_⟩
  obtain ⟨b, off, e, hlt, c0, c1, ca, cl, cc, c2, hn2⟩ := hin.2 j hj
  refine ⟨b, off, e, hlt, c0, c1, ca, cl, cc, c2, hn2, ?_⟩
  subst e
  obtain ⟨g, cp, e2⟩ := own_some hrow (by omega)
  injection e2 with e3 _ _
  injection e3 with e3
  injection e3 with e4 e5 _
  subst e4 e5
  have hmem : xs.getD j rv0 ∈ xs := by rw [List.getD_eq_getElem?_getD, List.getElem?_eq_getElem (by omega)]; exact List.getElem_mem (by omega)
  have ht := h.trees _ hmem
  obtain ⟨_, _, v2⟩ := rtsV_at xs j (by omega)
  have h2 := hrow.cellAt (j * 3 + 2) (by omega)
  rw [v2] at h2
  rw [Nat.zero_add] at c2
  rw [c2] at h2
  injection h2 with h2
  unfold rvT at h2 ht
  injection h2 with h3 h4 h5
  subst h3 h4 h5
  exact own_capR ht

theorem rt_small {rs : List Rt} (h : rs.length + rtsSz rs ≤ 1048576) : rs.length ≤ 1048576 ∧ ShortR rs := ⟨by omega, shortR_of (by omega)⟩

end Go.Proofs.Ythjemelnbbpdcaa

/-! Plain facts of chapter 14 as the landed code goes about it: routines whose names rise, one found by halving. -/
namespace Go.Proofs.Ythjemelnbbpdcaa
open Go.RowKit

/-- Right routines whose names rise, at most so many. -/
def RiseR (rs : List Rt) : Prop := ∀ i j, i < j → j < rs.length → Op.bytesLess (rs.getD i rt0).1 (rs.getD j rt0).1 = true
theorem riseR_of {rs : List Rt} (h : ∀ i, i + 1 < rs.length → leT (rs.getD (i + 1) rt0).1 (rs.getD i rt0).1 = false) : RiseR rs := by
  have hd : ∀ d i, i + d + 1 < rs.length → Op.bytesLess (rs.getD i rt0).1 (rs.getD (i + d + 1) rt0).1 = true := by
    intro d
    induction d with
    | zero => intro i hi; exact leT_no.1 (h i hi)
    | succ d ih => intro i hi; exact lt8_trans (ih i (by omega)) (leT_no.1 (h (i + d + 1) (by omega)))
  intro i j hij hj
  have hh := hd (j - i - 1) i (by omega)
  rw [show i + (j - i - 1) + 1 = j by omega] at hh
  exact hh
def rtsB (rs : List Rt) (most : Int) : Bool := decide ((1 ≤ (rs.length : Int) ∧ (rs.length : Int) ≤ most) ∧ (∀ i, i < rs.length → rtB (rs.getD i rt0) = true) ∧ ∀ i, i < rs.length - 1 → leT (rs.getD (i + 1) rt0).1 (rs.getD i rt0).1 = false)
theorem rtsB_rise {rs : List Rt} {m : Int} (h : rtsB rs m = true) : RiseR rs := riseR_of (fun i hi => (of_decide_eq_true h).2.2 i (by omega))
theorem rtsB_len {rs : List Rt} {m : Int} (h : rtsB rs m = true) : 1 ≤ (rs.length : Int) ∧ (rs.length : Int) ≤ m := (of_decide_eq_true h).1
theorem rtsB_few {rs : List Rt} {m : Int} (h : (rs.length : Int) < 1 ∨ m < (rs.length : Int)) : rtsB rs m = false := decide_eq_false (fun e => by have := e.1; omega)
structure RrSt (rs : List Rt) (k : Nat) (z : List UInt8) : Prop where
  oks : ∀ i, i < k → rtB (rs.getD i rt0) = true
  rise : ∀ i, i + 1 < k → leT (rs.getD (i + 1) rt0).1 (rs.getD i rt0).1 = false
  last : (k = 0 ∧ z = []) ∨ (0 < k ∧ z = (rs.getD (k - 1) rt0).1)
theorem RrSt.start (rs : List Rt) : RrSt rs 0 [] := ⟨fun i hi => by omega, fun i hi => by omega, Or.inl ⟨rfl, rfl⟩⟩
theorem RrSt.noOk {rs : List Rt} {k : Nat} {m : Int} (hk : k < rs.length) (hn : rtB (rs.getD k rt0) = false) : rtsB rs m = false := decide_eq_false (fun g => by rw [g.2.1 k hk] at hn; cases hn)
theorem leT_nilR {x : List UInt8} (h : name13 x = true) : leT x [] = false := by
  have h1 := (name13_len h).1
  cases x with
  | nil => simp at h1
  | cons c r => simp [leT, Op.bytesLess]
theorem RrSt.noRise {rs : List Rt} {k : Nat} {z : List UInt8} {m : Int} (h : RrSt rs k z) (hk : k < rs.length) (hn : rtB (rs.getD k rt0) = true) (hl : leT (rs.getD k rt0).1 z = true) : rtsB rs m = false := by
  rcases h.last with ⟨rfl, rfl⟩ | ⟨h0, rfl⟩
  · rw [leT_nilR (rtB_parts hn).1] at hl; cases hl
  · refine decide_eq_false (fun g => ?_)
    have := g.2.2 (k - 1) (by omega)
    rw [show k - 1 + 1 = k by omega, hl] at this
    cases this
theorem RrSt.step {rs : List Rt} {k : Nat} {z : List UInt8} (h : RrSt rs k z) (hn : rtB (rs.getD k rt0) = true) (hl : leT (rs.getD k rt0).1 z = false) : RrSt rs (k + 1) (rs.getD k rt0).1 := by
  refine ⟨fun i hi => ?_, fun i hi => ?_, Or.inr ⟨by omega, by rw [Nat.add_sub_cancel]⟩⟩
  · rcases Nat.lt_or_ge i k with g | g
    · exact h.oks i g
    · obtain rfl : i = k := by omega
      exact hn
  · rcases Nat.lt_or_ge (i + 1) k with g | g
    · exact h.rise i g
    · obtain rfl : k = i + 1 := by omega
      rcases h.last with ⟨e, _⟩ | ⟨_, rfl⟩
      · omega
      · rw [Nat.add_sub_cancel] at hl; exact hl
theorem RrSt.all {rs : List Rt} {z : List UInt8} {m : Int} (h : RrSt rs rs.length z) (hl : 1 ≤ (rs.length : Int) ∧ (rs.length : Int) ≤ m) : rtsB rs m = true := decide_eq_true ⟨hl, h.oks, fun i hi => h.rise i (by omega)⟩

theorem imageB_rts (rs : List Rt) : imageB rs = (rtsB rs 64 && decide (∀ j, j < rs.length → (rs.getD j rt0).2.2.all (clsB rs) = true)) := by
  rw [Bool.eq_iff_iff]
  unfold imageB rtsB oneB
  simp only [Bool.and_eq_true, decide_eq_true_eq]
  constructor
  · rintro ⟨h, h1, h2⟩
    refine ⟨⟨⟨by omega, by omega⟩, fun i hi => (h i hi).1, fun i hi => ?_⟩, fun j hj => (h j hj).2.2⟩
    have := (h (i + 1) (by omega)).2.1 (by omega)
    rw [Nat.add_sub_cancel] at this
    exact this
  · rintro ⟨⟨h1, h2, h3⟩, h4⟩
    refine ⟨fun j hj => ⟨h2 j hj, fun h0 => ?_, h4 j hj⟩, by omega, by omega⟩
    have := h3 (j - 1) (by omega)
    rw [show j - 1 + 1 = j by omega] at this
    exact this
theorem image_rise {rs : List Rt} (h : imageB rs = true) : RiseR rs := by
  rw [imageB_rts, Bool.and_eq_true] at h
  exact rtsB_rise h.1
theorem image_noR {rs : List Rt} (h : rtsB rs 64 = false) : imageB rs = false := by rw [imageB_rts, h]; rfl
theorem image_noC {rs : List Rt} {j : Nat} (hj : j < rs.length) (h : (rs.getD j rt0).2.2.all (clsB rs) = false) : imageB rs = false := by
  rw [imageB_rts, decide_eq_false (fun g => by rw [g j hj] at h; cases h), Bool.and_false]
theorem image_yes {rs : List Rt} (h : rtsB rs 64 = true) (hc : ∀ j, j < rs.length → (rs.getD j rt0).2.2.all (clsB rs) = true) : imageB rs = true := by
  rw [imageB_rts, h, decide_eq_true hc]; rfl

/-- The place of a name. -/
theorem at14Go_yes (s : List UInt8) : ∀ (rs : List Rt) (k j : Nat), j < rs.length → (rs.getD j rt0).1 = s → (∀ i, i < j → (rs.getD i rt0).1 ≠ s) → at14Go s rs k = ((k + j : Nat) : Int)
  | [], _, j, hj, _, _ => by simp at hj
  | r :: rs, k, 0, _, h, _ => by
    rw [at14Go, if_pos (by simpa using h)]; simp
  | r :: rs, k, j + 1, hj, h, hn => by
    have h0 := hn 0 (by omega)
    rw [at14Go, if_neg (by simpa using h0), at14Go_yes s rs (k + 1) j (by simpa using hj) (by simpa using h) (fun i hi => by have := hn (i + 1) (by omega); simpa using this)]
    omega
theorem at14Go_no (s : List UInt8) : ∀ (rs : List Rt) (k : Nat), (∀ i, i < rs.length → (rs.getD i rt0).1 ≠ s) → at14Go s rs k = -1
  | [], _, _ => rfl
  | r :: rs, k, hn => by
    have h0 := hn 0 (by simp)
    rw [at14Go, if_neg (by simpa using h0), at14Go_no s rs (k + 1) (fun i hi => by have := hn (i + 1) (by simpa using hi); simpa using this)]
theorem at14_yes {rs : List Rt} (hr : RiseR rs) {s : List UInt8} {j : Nat} (hj : j < rs.length) (h : (rs.getD j rt0).1 = s) : at14 rs s = (j : Int) := by
  unfold at14
  rw [at14Go_yes s rs 0 j hj h (fun i hi e => ?_), Nat.zero_add]
  have := hr i j hi hj
  rw [e, h, lt8_irr] at this
  cases this
/-- Halving: what stands ahead is less, what stands behind is not. -/
structure Half (rs : List Rt) (s : List UInt8) (lo hi : Nat) : Prop where
  a : ∀ t, t < lo → Op.bytesLess (rs.getD t rt0).1 s = true
  b : ∀ t, hi ≤ t → t < rs.length → Op.bytesLess (rs.getD t rt0).1 s = false
theorem Half.start (rs : List Rt) (s : List UInt8) : Half rs s 0 rs.length := ⟨fun t h => by omega, fun t h1 h2 => by omega⟩
theorem Half.up {rs : List Rt} {s : List UInt8} {lo hi m : Nat} (hr : RiseR rs) (h : Half rs s lo hi) (hm : m < rs.length) (e : Op.bytesLess (rs.getD m rt0).1 s = true) : Half rs s (m + 1) hi :=
  ⟨fun t ht => by
    rcases Nat.lt_or_ge t m with g | g
    · exact lt8_trans (hr t m g hm) e
    · obtain rfl : t = m := by omega
      exact e, h.b⟩
theorem Half.down {rs : List Rt} {s : List UInt8} {lo hi m : Nat} (hr : RiseR rs) (h : Half rs s lo hi) (e : Op.bytesLess (rs.getD m rt0).1 s = false) : Half rs s lo m :=
  ⟨h.a, fun t ht hl => by
    rcases Nat.lt_or_ge m t with g | g
    · rcases hx : Op.bytesLess (rs.getD t rt0).1 s with _ | _
      · rfl
      · rw [lt8_trans (hr m t g hl) hx] at e; cases e
    · obtain rfl : t = m := by omega
      exact e⟩
theorem Half.no {rs : List Rt} {s : List UInt8} {i : Nat} (hr : RiseR rs) (h : Half rs s i i) (hn : i < rs.length → (rs.getD i rt0).1 ≠ s) : at14 rs s = -1 := by
  refine at14Go_no s rs 0 (fun t ht e => ?_)
  rcases Nat.lt_trichotomy t i with g | g | g
  · have := h.a t g; rw [e, lt8_irr] at this; cases this
  · subst g; exact hn ht e
  · have h1 := hr i t g ht
    have h2 := h.b i (Nat.le_refl _) (by omega)
    rw [e] at h1
    rw [h1] at h2
    cases h2

theorem cls_allI {rs : List Rt} {c : List In13} : c.all (clsB rs) = true ↔ ∀ k, k < c.length → clsB rs (c.getD k in0) = true := by
  rw [List.all_eq_true]
  constructor
  · intro h k hk
    exact h _ (by rw [List.getD_eq_getElem?_getD, List.getElem?_eq_getElem hk]; exact List.getElem_mem hk)
  · intro h x hx
    obtain ⟨k, hk, rfl⟩ := List.getElem_of_mem hx
    have := h k hk
    simpa [List.getD, hk] using this
theorem cls_noI {rs : List Rt} {c : List In13} {k : Nat} (hk : k < c.length) (h : clsB rs (c.getD k in0) = false) : c.all (clsB rs) = false := by
  rcases hx : c.all (clsB rs) with _ | _
  · rfl
  · rw [cls_allI.1 hx k hk] at h; cases h
theorem arg_allI {n : Int} {c : List In13} : c.all (argB n) = true ↔ ∀ k, k < c.length → argB n (c.getD k in0) = true := by
  rw [List.all_eq_true]
  constructor
  · intro h k hk
    exact h _ (by rw [List.getD_eq_getElem?_getD, List.getElem?_eq_getElem hk]; exact List.getElem_mem hk)
  · intro h x hx
    obtain ⟨k, hk, rfl⟩ := List.getElem_of_mem hx
    have := h k hk
    simpa [List.getD, hk] using this
theorem arg_noI {n : Int} {c : List In13} {k : Nat} (hk : k < c.length) (h : argB n (c.getD k in0) = false) : c.all (argB n) = false := by
  rcases hx : c.all (argB n) with _ | _
  · rfl
  · rw [arg_allI.1 hx k hk] at h; cases h

end Go.Proofs.Ythjemelnbbpdcaa

/-! Contracts of chapter 14's landed code: texts compared, a routine found by halving (routineNamed). -/
namespace Go.Proofs.Ythjemelnbbpdcaa
open Go.RowKit

theorem cmp_less : ∀ (a b : List UInt8), (Lib.compareBytes a b < 0 ↔ Op.bytesLess a b = true) ∧ (Lib.compareBytes a b = 0 ↔ a = b)
  | [], [] => by simp [Lib.compareBytes, Op.bytesLess]
  | [], _ :: _ => by simp [Lib.compareBytes, Op.bytesLess]
  | _ :: _, [] => by simp [Lib.compareBytes, Op.bytesLess]
  | a :: x, b :: y => by
    have ih := cmp_less x y
    unfold Lib.compareBytes Op.bytesLess
    by_cases h1 : a < b
    · have hne : a ≠ b := fun e => by subst e; exact UInt8.lt_irrefl _ h1
      simp [h1, hne]
    · by_cases h2 : b < a
      · have hne : a ≠ b := fun e => by subst e; exact UInt8.lt_irrefl _ h2
        simp [h1, h2, hne]
      · have e : a = b := by
          rw [UInt8.lt_iff_toNat_lt] at h1 h2
          exact UInt8.toNat_inj.1 (by omega)
        subst e
        simp only [h1, if_false, decide_false, Bool.false_or, beq_self_eq_true, Bool.true_and, List.cons.injEq, true_and]
        exact ih

set_option maxHeartbeats 1000000 in
set_option maxRecDepth 100000 in
theorem implCompareB (a b : List UInt8) (w : World) :
    Calls Try.prog 60 #[.string ⟨a.toArray⟩, .string ⟨b.toArray⟩] w fun e w' => e = .returned (.int .i64 (Lib.compareBytes a b)) ∧ w' = w := by
  go_enter Try.func60, Try.ntmps60
  go_wp2
  rw [run_callFunc_extern Try.func78 (by kernel_rfl) (by kernel_rfl) (by kernel_rfl) (e := Extern.BytealgCompare.compare) (by kernel_rfl), Lib.run_compareString]
  simp only [Result.andThen]
  rw [Oper.upon_value]
  go_wp2
  go_ret
  exact ⟨rfl, rfl⟩
set_option maxHeartbeats 1000000 in
set_option maxRecDepth 100000 in
theorem implCompare (a b : List UInt8) (w : World) :
    Calls Try.prog 43 #[.string ⟨a.toArray⟩, .string ⟨b.toArray⟩] w fun e w' => e = .returned (.int .i64 (Lib.compareBytes a b)) ∧ w' = w := by
  go_enter Try.func43, Try.ntmps43
  go_wp2_with (go_at_call 60; refine (implCompareB a b _).mono ?_; rintro e w' ⟨rfl, rfl⟩)
  go_ret
  exact ⟨rfl, rfl⟩
set_option maxHeartbeats 1000000 in
set_option maxRecDepth 100000 in
theorem implNamed1 (n : List UInt8) (ar : Int) (cv : Value) (s : List UInt8) (w : World) :
    Calls Try.prog 42 #[.agg #[.string ⟨n.toArray⟩, .int .i64 ar, cv], .string ⟨s.toArray⟩] w fun e w' => e = .returned (.int .i64 (Lib.compareBytes n s)) ∧ Below w.heap.size w w' := by
  have HB : Hid (Below w.heap.size w (w.alloc (.cells #[.string ⟨n.toArray⟩, .int .i64 ar, cv] 51))) := (Below.refl _ w).alloc (Nat.le_refl _) _
  go_enter Try.func42, Try.ntmps42
  go_wp2_with (go_at_call 43; refine (implCompare n s _).mono ?_; rintro e w' ⟨rfl, rfl⟩)
  go_ret
  exact ⟨rfl, HB.out⟩

/-- Where a routine is found. -/
def NmOut (rs : List Rt) (s : List UInt8) (i : Nat) (b : Bool) : Prop :=
  (b = true ∧ i < rs.length ∧ at14 rs s = (i : Int)) ∨ (b = false ∧ at14 rs s = -1)
def SrOut (w : World) (rs : List Rt) (s : List UInt8) (e : Ending) (w' : World) : Prop := ∃ (i : Nat) (b : Bool), e = .returned (.tuple #[.int .i64 (i : Int), .bool b]) ∧ NmOut rs s i b ∧ Below w.heap.size w w'
set_option maxHeartbeats 4000000 in
set_option maxRecDepth 100000 in
theorem implSearch (a : Option Addr) (cap : Nat) (rs : List Rt) (s : List UInt8) (w : World) (h : RtsCap w a rs.length cap rs) (hr : RiseR rs) (hn : rs.length ≤ 1048576) :
    Calls Try.prog 41 #[.slice a rs.length cap, .string ⟨s.toArray⟩, .func (.func 42) #[] #[]] w fun e w' => SrOut w rs s e w' := by
  have HI : Hid (RtsCap w a rs.length cap rs) := h
  have HR : Hid (RiseR rs) := hr
  have HH0 : Hid (Half rs s 0 rs.length) := Half.start rs s
  have HYes : Hid (∀ i, i < rs.length → (rs.getD i rt0).1 = s → at14 rs s = (i : Int)) := fun i hi e => at14_yes hr hi e
  have HNo : Hid (∀ i, Half rs s i i → (i < rs.length → (rs.getD i rt0).1 ≠ s) → at14 rs s = -1) := fun i h1 h2 => Half.no hr h1 h2
  have HB0 : Hid (Below w.heap.size w w) := Below.refl _ w
  obtain ⟨n, hnn⟩ : ∃ n, rs.length = n := ⟨_, rfl⟩
  have HN : Hid (rs.length = n) := hnn
  rw [hnn] at HI HH0 HYes HNo hn ⊢
  clear h hr hnn
  go_enter Try.func41, Try.ntmps41
  go_wp2
  go_loopw [9, 10] (fun iv jv wr => ∃ lo hi : Nat, iv = .int .i64 (lo : Int) ∧ jv = .int .i64 (hi : Int) ∧ lo ≤ hi ∧ hi ≤ n ∧ Hid (Half rs s lo hi) ∧ Hid (Below w.heap.size w wr)) (fun iv jv _ => (intOf jv).toNat - (intOf iv).toNat)
  case atStart => exact ⟨0, n, rfl, rfl, Nat.zero_le _, Nat.le_refl _, HH0, HB0⟩
  case round =>
    obtain ⟨lo, hi, rfl, rfl, hlh, hin, HF, HB⟩ := hrel
    clear HH0 HB0
    by_cases hlt : (lo : Int) < (hi : Int)
    · obtain ⟨m, hm⟩ : ∃ m, (lo + hi) / 2 = m := ⟨_, rfl⟩
      have hmi : ((lo : Int) + (hi : Int)) / 2 = (m : Int) := by omega
      have hm1 : lo ≤ m := by omega
      have hm2 : m < hi := by omega
      obtain ⟨b, off, rfl, hbl, c0, c1, ca, cl, cc, c2, _, _, _⟩ := (HI.out.below HB.out).2.2.2 m (by omega)
      have hF := HF.out
      have hup := hF.up (m := m) HR.out (by rw [HN.out]; omega)
      have hdn := hF.down (m := m) HR.out
      obtain ⟨r, hrr⟩ : ∃ r, rs.getD m rt0 = r := ⟨_, rfl⟩
      rw [hrr] at c0 c1 hup hdn
      obtain ⟨nm, ar, cd⟩ := r
      simp only at c0 c1 hup hdn
      have hcl := (cmp_less nm s).1
      have HC : Hid (_) := fun W => implNamed1 nm ar (.slice ca cl cc) s W
      generalize Lib.compareBytes nm s = cv at hcl HC
      have eg : ∀ args w, (callFunc 42 args).run Try.prog w = .ok (.enter 42 args) w := enters_of Try.func42 (by kernel_rfl) rfl
      by_cases hc : cv < 0
      · have HF2 : Hid (Half rs s (m + 1) hi) := hup (hcl.1 hc)
        clear hup hdn hF HF hcl hrr hm
        go_wp2_with (go_at_call 42; refine (HC.out _).mono ?_; rintro e w' ⟨rfl, hb1⟩)
        have HB2 : Hid (Below w.heap.size w w') := HB.out.trans (hb1.mono HB.out.size)
        go_roundw
        case rel => exact ⟨m + 1, hi, by go_num, rfl, by omega, hin, HF2, HB2⟩
        case measure => simp [intOf]; omega
      · have hno : Op.bytesLess nm s = false := by
          rcases hx : Op.bytesLess nm s with _ | _
          · rfl
          · exact absurd (hcl.2 hx) hc
        have HF2 : Hid (Half rs s lo m) := hdn hno
        clear hup hdn hF HF hcl hrr hm hno
        go_wp2_with (go_at_call 42; refine (HC.out _).mono ?_; rintro e w' ⟨rfl, hb1⟩)
        have HB2 : Hid (Below w.heap.size w w') := HB.out.trans (hb1.mono HB.out.size)
        go_roundw
        case rel => exact ⟨lo, m, rfl, by go_num, by omega, by omega, HF2, HB2⟩
        case measure => simp [intOf]; omega
    · obtain rfl : hi = lo := by omega
      by_cases hl : (hi : Int) < (n : Int)
      · obtain ⟨b, off, rfl, hbl, c0, c1, ca, cl, cc, c2, _, _, _⟩ := (HI.out.below HB.out).2.2.2 hi (by omega)
        have hyes := HYes.out hi (by omega)
        have hno := HNo.out hi HF.out
        obtain ⟨r, hrr⟩ : ∃ r, rs.getD hi rt0 = r := ⟨_, rfl⟩
        rw [hrr] at c0 c1 hyes hno
        obtain ⟨nm, ar, cd⟩ := r
        simp only at c0 c1 hyes hno
        have hcl := (cmp_less nm s).2
        have HC : Hid (_) := fun W => implNamed1 nm ar (.slice ca cl cc) s W
        generalize Lib.compareBytes nm s = cv at hcl HC
        have eg : ∀ args w, (callFunc 42 args).run Try.prog w = .ok (.enter 42 args) w := enters_of Try.func42 (by kernel_rfl) rfl
        by_cases hc : cv = 0
        · have HO : Hid (NmOut rs s hi true) := Or.inl ⟨rfl, by rw [HN.out]; omega, hyes (hcl.1 hc)⟩
          clear hyes hno hcl hrr
          go_wp2_with (go_at_call 42; refine (HC.out _).mono ?_; rintro e w' ⟨rfl, hb1⟩)
          go_ret2
          unfold SrOut
          exact ⟨hi, true, rfl, HO.out, HB.out.trans (hb1.mono HB.out.size)⟩
        · have HO : Hid (NmOut rs s hi false) := Or.inr ⟨rfl, hno (fun _ e => hc (hcl.2 e))⟩
          have hcb : (cv == 0) = false := beq_eq_false_iff_ne.2 hc
          clear hyes hno hcl hrr
          go_wp2_with (go_at_call 42; refine (HC.out _).mono ?_; rintro e w' ⟨rfl, hb1⟩)
          go_ret2
          unfold SrOut
          exact ⟨hi, false, rfl, HO.out, HB.out.trans (hb1.mono HB.out.size)⟩
      · have HO : Hid (NmOut rs s hi false) := Or.inr ⟨rfl, HNo.out hi HF.out (fun e => by omega)⟩
        go_wp2
        go_ret2
        unfold SrOut
        exact ⟨hi, false, rfl, HO.out, HB.out⟩

/-- What routineNamed gives. -/
def NdOut (w : World) (a : Option Addr) (rs : List Rt) (s : List UInt8) (e : Ending) : Prop :=
  (at14 rs s = -1 ∧ e = .returned (.tuple #[.agg #[.string ⟨#[]⟩, .int .i64 0, .slice none 0 0], .bool false])) ∨
  (∃ (i : Nat) (b off : Nat) (ca : Option Addr) (cl cc : Nat), i < rs.length ∧ at14 rs s = (i : Int) ∧ a = some ⟨b, off, none⟩ ∧ w.cell? ⟨b, off + i * 3 + 2, none⟩ = some (.slice ca cl cc) ∧ InsIn w ca cl (rs.getD i rt0).2.2 ∧ cl ≤ cc ∧ cc ≤ maxLen ∧
    e = .returned (.tuple #[.agg #[.string ⟨(rs.getD i rt0).1.toArray⟩, .int .i64 (rs.getD i rt0).2.1, .slice ca cl cc], .bool true]))
set_option maxHeartbeats 2000000 in
set_option maxRecDepth 100000 in
theorem implNamed (a : Option Addr) (cap : Nat) (rs : List Rt) (s : List UInt8) (w : World) (h : RtsCap w a rs.length cap rs) (hr : RiseR rs) (hn : rs.length ≤ 1048576) :
    Calls Try.prog 25 #[.slice a rs.length cap, .string ⟨s.toArray⟩] w fun e w' => NdOut w a rs s e ∧ Below w.heap.size w w' := by
  obtain ⟨W, hW⟩ : ∃ W, w.alloc (.cells #[.string ⟨#[]⟩, .int .i64 0, .slice none 0 0] 51) = W := ⟨_, rfl⟩
  have hb : Below w.heap.size w W := by rw [← hW]; exact (Below.refl _ _).alloc (Nat.le_refl _) _
  have hR : W.heap[w.heap.size]? = some (.cells #[.string ⟨#[]⟩, .int .i64 0, .slice none 0 0] 51) := by rw [← hW]; exact heap_alloc_new w _
  have hsW : W.heap.size = w.heap.size + 1 := by rw [← hW]; simp
  have HI : Hid (RtsCap w a rs.length cap rs) := h
  have HC : Hid (_) := implSearch a cap rs s W (h.below hb) hr hn
  obtain ⟨n, hnn⟩ : ∃ n, rs.length = n := ⟨_, rfl⟩
  have HN : Hid (rs.length = n) := hnn
  rw [hnn] at HI HC hn ⊢
  obtain ⟨D, hD⟩ : ∃ D, w.heap.size = D := ⟨_, rfl⟩
  rw [hD] at hR hsW hb
  clear h hr hnn
  go_enter Try.func25, Try.ntmps25
  go_wp2_with fail
  refine Calls.mono HC.out ?_
  rintro e w1 ⟨i, b, rfl, hO, hb1⟩
  obtain ⟨r0, r1, r2, fr⟩ := threeR hb1 (by omega) hR
  have f0 := fr 0
  have f1 := fr 1
  have f2 := fr 2
  have HBd : Hid (Below D w w1) := hb.trans (hb1.mono (by omega))
  have hsd : D + 1 ≤ w1.heap.size := by have := hb1.size; omega
  rcases hO with ⟨rfl, hi, hat⟩ | ⟨rfl, hat⟩
  · rw [HN.out] at hi
    have HBw : Hid (Below w.heap.size w w1) := by rw [hD]; exact HBd
    obtain ⟨b, off, rfl, hbl, c0, c1, ca, cl, cc, c2, hin, hcc, hcm⟩ := (HI.out.below HBw.out).2.2.2 i hi
    obtain ⟨b', off', e', hbl', _, _, ca', cl', cc', c2', hin', _, _⟩ := HI.out.2.2.2 i hi
    injection e' with e'
    injection e' with e1 e2 _
    subst e1 e2
    have e3 : w1.cell? ⟨b, off + i * 3 + 2, none⟩ = w.cell? ⟨b, off + i * 3 + 2, none⟩ := HBw.out.cell (p := ⟨b, off + i * 3 + 2, none⟩) hbl'
    rw [c2', c2] at e3
    injection e3 with e3
    injection e3 with e4 e5 e6
    subst e4 e5 e6
    have HO : Hid (NdOut w (some ⟨b, off, none⟩) rs s (.returned (.tuple #[.agg #[.string ⟨(rs.getD i rt0).1.toArray⟩, .int .i64 (rs.getD i rt0).2.1, .slice ca cl cc], .bool true]))) :=
      Or.inr ⟨i, b, off, ca, cl, cc, by rw [HN.out]; exact hi, hat, rfl, c2', hin', hcc, hcm, rfl⟩
    generalize (rs.getD i rt0).1 = nm at c0 HO
    generalize (rs.getD i rt0).2.1 = ar at c1 HO
    have hne : b ≠ D := by omega
    clear hin hin' hat hb1 fr hR hb HI c2'
    go_wp2
    obtain ⟨Y, hY, y0, y1, y2, hg⟩ := set3R (.string ⟨nm.toArray⟩) (.int .i64 ar) (.slice ca cl cc) r0 r1 r2
    rw [hY]
    refine bodyPost_ret (v := .tuple #[.agg #[.string ⟨nm.toArray⟩, .int .i64 ar, .slice ca cl cc], .bool true]) (by simp [results, Try.results25, go_sem, y0, y1, y2]) rfl ?_
    exact ⟨HO.out, by rw [hD]; exact HBd.out.grown hg (by omega) (fun k e => by injection e with e; omega)⟩
  · have HO : Hid (NdOut w a rs s (.returned (.tuple #[.agg #[.string ⟨#[]⟩, .int .i64 0, .slice none 0 0], .bool false]))) := Or.inl ⟨hat, rfl⟩
    clear hat hb1 fr hR hb HI
    go_wp2
    obtain ⟨Y, hY, y0, y1, y2, hg⟩ := set3R (.string ⟨#[]⟩) (.int .i64 0) (.slice none 0 0) r0 r1 r2
    rw [hY]
    refine bodyPost_ret (v := .tuple #[.agg #[.string ⟨#[]⟩, .int .i64 0, .slice none 0 0], .bool false]) (by simp [results, Try.results25, go_sem, y0, y1, y2]) rfl ?_
    exact ⟨HO.out, by rw [hD]; exact HBd.out.grown hg (by omega) (fun k e => by injection e with e; omega)⟩

end Go.Proofs.Ythjemelnbbpdcaa
