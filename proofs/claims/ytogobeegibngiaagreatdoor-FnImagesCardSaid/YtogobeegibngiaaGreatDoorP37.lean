/-
  Parts of one proof, one behind the other: LikeR, Codes, RtB, LawIm.
-/
import Derived.Test.YtogobeegibngiaaGreatDoorP36
import Derived.Test.YtogobeegibngiaaGreatDoorP16
import Derived.Deep.RegionHeld3
import Derived.Test.YtogobeegibngiaaGreatDoorP3
import Derived.Test.YtogobeegibngiaaGreatDoorP14
import Derived.Test.YtogobeegibngiaaGreatDoorP27
import Derived.Test.YtogobeegibngiaaGreatDoorP25
import Derived.Test.YtogobeegibngiaaGreatDoorP26
import Derived.Deep.Cut

/-! The laws' own helper over routines: likeRoutines. -/
namespace Go.Proofs.YtogobeegibngiaaGreatDoor
open Go.RowKit

set_option maxHeartbeats 4000000 in
set_option maxRecDepth 100000 in
theorem likeRoutinesC (a b : Option Addr) (len ca cb : Nat) (rs : List Rt) (w : World) (ha : RtsIn w a len rs) (hb : RtsIn w b len rs) (hlen : len ≤ 4194304) (hsh : ∀ j, (rs.getD j rt0).2.2.length ≤ 4194304) :
    Calls Tryz.prog 10 #[.slice a len ca, .slice b len cb] w fun e w' => e = .returned (.bool true) ∧ Below w.heap.size w w' := by
  have h1 : ∀ n : Int, (n != n) = false := by simp
  have h2 : ∀ l : List UInt8, (l != l) = false := by simp
  have HA : Hid (∀ V, Below w.heap.size w V → RtsIn V a len rs ∧ RtsIn V b len rs) := fun V h => ⟨ha.below h, hb.below h⟩
  have HSH : Hid (∀ j, (rs.getD j rt0).2.2.length ≤ 4194304) := hsh
  clear ha hb hsh
  go_enter Tryz.func10, Tryz.ntmps10
  go_wp2
  go_loopw [5] (fun i wr => ∃ k : Nat, k ≤ len ∧ i = .int .i64 k ∧ Below w.heap.size w wr) (fun i _ => len - (intOf i).toNat)
  case atStart => exact ⟨0, Nat.zero_le _, rfl, Below.refl _ _⟩
  case round =>
    obtain ⟨k, hk, rfl, hBr⟩ := hrel
    by_cases hkl : (k : Int) < (len : Int)
    · obtain ⟨hA, hB⟩ := HA.out wr hBr
      obtain ⟨b1, o1, rfl, hl1, x0, x1, ta, tl, tc, x2, hta⟩ := hA.2 k (by omega)
      obtain ⟨b2, o2, rfl, hl2, y0, y1, ua, ul, uc, y2, hua⟩ := hB.2 k (by omega)
      have hts := HSH.out k
      obtain ⟨f, hf⟩ : ∃ f, rs.getD k rt0 = f := ⟨_, rfl⟩
      rw [hf] at x0 x1 hta y0 y1 hua hts
      obtain ⟨s, n, t⟩ := f
      simp only at x0 x1 hta y0 y1 hua hts
      obtain rfl : t.length = tl := hta.1
      obtain rfl : t.length = ul := hua.1
      have HL : Hid (∀ V, Below wr.heap.size wr V → Calls Tryz.prog 26 #[.slice ta t.length tc, .slice ua t.length uc] V fun e w' => e = .returned (.bool true) ∧ Below V.heap.size V w') := fun V h => likeCodeC ta ua t.length tc uc t V (hta.below h) (hua.below h) hts
      have HBr : Hid (Below w.heap.size w wr) := hBr
      have hV : Below wr.heap.size wr wr := Below.refl _ _
      clear hf hta hua hA hB hBr hts
      go_wp2_with fail
      replace hV := hV.drew
      go_region_held3 (fun w' => w'.cell? ⟨b1, o1 + k * 3, none⟩ = some (.string ⟨s.toArray⟩) ∧ w'.cell? ⟨b1, o1 + k * 3 + 1, none⟩ = some (.int .i64 n) ∧ w'.cell? ⟨b1, o1 + k * 3 + 2, none⟩ = some (.slice ta t.length tc) ∧ w'.cell? ⟨b2, o2 + k * 3, none⟩ = some (.string ⟨s.toArray⟩) ∧ w'.cell? ⟨b2, o2 + k * 3 + 1, none⟩ = some (.int .i64 n) ∧ w'.cell? ⟨b2, o2 + k * 3 + 2, none⟩ = some (.slice ua t.length uc)) (go_keep) (first | (go_at_call 26; refine (HL.out _ hV).mono ?_; rintro e wn ⟨rfl, hbn⟩; replace hV := hV.trans (hbn.mono hV.size); replace x0 := (hbn.cell (p := ⟨b1, o1 + k * 3, none⟩) hl1).trans x0; replace x1 := (hbn.cell (p := ⟨b1, o1 + k * 3 + 1, none⟩) hl1).trans x1; replace x2 := (hbn.cell (p := ⟨b1, o1 + k * 3 + 2, none⟩) hl1).trans x2; replace y0 := (hbn.cell (p := ⟨b2, o2 + k * 3, none⟩) hl2).trans y0; replace y1 := (hbn.cell (p := ⟨b2, o2 + k * 3 + 1, none⟩) hl2).trans y1; replace y2 := (hbn.cell (p := ⟨b2, o2 + k * 3 + 2, none⟩) hl2).trans y2; clear hbn))
      all_goals go_wp2
      go_roundw
      case rel => exact ⟨k + 1, by omega, by go_num, HBr.out.trans (hV.mono HBr.out.size)⟩
      case measure => simp [intOf]; omega
    · go_wp2
      go_ret
      exact ⟨rfl, hBr⟩

end Go.Proofs.YtogobeegibngiaaGreatDoor

/-! A code that came in, as the laws' walks take it. -/
namespace Go.Proofs.YtogobeegibngiaaGreatDoor
open Go.RowKit

theorem code_nil (w : World) : Code w w.heap.size none 0 := fun j hj => by omega

theorem code_of (w : World) (x : Addr) (len : Nat) (zs : List Int) (h : ∀ i, i < zs.length → w.cell? (x.add i) = some (.int .u8 (zs.getD i 0))) (hl : len ≤ zs.length) (hw : ∀ n ∈ zs, (Lit.int .u8 n).wf = true) : Code w w.heap.size (some x) len := by
  intro j hj
  obtain ⟨b, off, spot⟩ := x
  have hc := h j (by omega)
  have hspot : spot = none := by simpa [Addr.add] using World.cell?_spot (h 0 (by omega))
  subst hspot
  have e : (⟨b, off, none⟩ : Addr).add j = ⟨b, off + j, none⟩ := by unfold Addr.add; split <;> simp_all
  rw [e] at hc
  have hb := bounds_u8 (hw (zs.getD j 0) (by rw [List.getD_eq_getElem?_getD, List.getElem?_eq_getElem (by omega)]; exact List.getElem_mem _))
  exact ⟨b, off, _, rfl, World.block_lt_of_cell? w ⟨b, off + j, none⟩ hc, hc, hb⟩

theorem Code.later {w w' : World} {a : Option Addr} {len : Nat} (h : Code w w.heap.size a len) (hb : Below w.heap.size w w') : Code w' w'.heap.size a len := by
  intro j hj
  obtain ⟨b, off, x, e1, e2, e3, e0⟩ := h j hj
  exact ⟨b, off, x, e1, Nat.lt_of_lt_of_le e2 hb.size, (hb.cell (p := ⟨b, off + j, none⟩) e2).trans e3, e0⟩

theorem Code.kept {w w' : World} {a : Option Addr} {len : Nat} (h : Code w w.heap.size a len) (hg : w.grownBy w' none) : Code w' w'.heap.size a len :=
  h.later ⟨hg.os, hg.tape, hg.output, hg.size, fun k hk => hg.block k hk (by simp)⟩

set_option maxHeartbeats 400000 in
set_option maxRecDepth 100000 in
theorem bigB (w : World) (a : Option Addr) (len cap : Nat) :
    Calls Tryz.prog 4 #[.slice a len cap] w fun e w' => e = .returned (.bool (decide (4096 < (len : Int)))) ∧ w' = w := by
  go_enter Tryz.func4, Tryz.ntmps4
  go_wp2
  go_ret
  exact ⟨rfl, rfl⟩

end Go.Proofs.YtogobeegibngiaaGreatDoor

/-! Right routines are small. -/
namespace Go.Proofs.YtogobeegibngiaaGreatDoor
open Go.RowKit

/-- A right image is small. -/
theorem rts_ok {rs : List Rt} (h : ∀ r ∈ rs, rtB r = true) : IntR rs ∧ ShortR rs := by
  have key : ∀ j, j < rs.length → rtB (rs.getD j rt0) = true := fun j hj => h _ (by rw [List.getD_eq_getElem?_getD, List.getElem?_eq_getElem hj]; exact List.getElem_mem hj)
  have e : ∀ j, ¬ j < rs.length → rs.getD j rt0 = rt0 := fun j hj => by rw [List.getD_eq_getElem?_getD, List.getElem?_eq_none (by omega)]; rfl
  have ci : ∀ {c : List In13}, codeB c = true → ∀ k, IntI (c.getD k in0) ∧ (c.getD k in0).2.2.2.2.length ≤ 1048576 := fun {c} hc k => by
    by_cases hk : k < c.length
    · have hm : c.getD k in0 ∈ c := by rw [List.getD_eq_getElem?_getD, List.getElem?_eq_getElem hk]; exact List.getElem_mem hk
      have hp := codeB_ins hc _ hm
      have hw := insP_words hp
      refine ⟨by unfold IntI; omega, ?_⟩
      have hl := insLn_len hp
      unfold insLn at hl
      simp only [List.length_append, List.length_singleton] at hl
      have hn : (c.getD k in0).2.2.2.2.length ≤ (nmL (c.getD k in0).2.2.2.2).length := by
        unfold nmL
        split
        · rename_i hz; rw [hz]; simp
        · exact Nat.le_refl _
      omega
    · rw [List.getD_eq_getElem?_getD, List.getElem?_eq_none (by omega)]
      exact ⟨intI_in0, by simp [in0]⟩
  refine ⟨fun j => ?_, fun j => ?_⟩
  · by_cases hj : j < rs.length
    · obtain ⟨_, h2, h3, _⟩ := rtB_parts (key j hj)
      exact ⟨by omega, fun k => (ci h3 k).1⟩
    · rw [e j hj]; exact ⟨by simp [rt0], intIs_nil⟩
  · by_cases hj : j < rs.length
    · obtain ⟨h1, _, h3, _⟩ := rtB_parts (key j hj)
      exact ⟨by have := (name13_len h1).2; omega, by have := (codeB_len h3).2; omega, fun k => (ci h3 k).2⟩
    · rw [e j hj]; exact ⟨by simp [rt0], by simp [rt0], fun k => by simp [rt0, in0]⟩

end Go.Proofs.YtogobeegibngiaaGreatDoor

/-! The law FnImages: an image is read from what it is shown as, and what is read is shown so. -/
namespace Go.Proofs.YtogobeegibngiaaGreatDoor
open Go.RowKit

theorem read_small (s : List UInt8) : IntR (readIV s) ∧ ShortR (readIV s) ∧ (readIV s).length ≤ 64 := by
  rcases read_iv s with ⟨_, h, _⟩ | ⟨_, h⟩
  · exact ⟨(rts_ok (image_rts h)).1, (rts_ok (image_rts h)).2, (of_decide_eq_true h).2.2⟩
  · rw [h]; exact ⟨(rts_ok (rs := []) (by simp)).1, (rts_ok (rs := []) (by simp)).2, by simp⟩

/-- An image in a box of its own. -/
structure ImAt (Z : World) (D : Nat) (a : Option Addr) (n c : Nat) (rs : List Rt) : Prop where
  b : Z.cell? ⟨D, 0, none⟩ = some (.slice a n c)
  o : RtOk Z a n c rs
theorem ImAt.below {Z Y : World} {D : Nat} {a : Option Addr} {n c : Nat} {rs : List Rt} (h : ImAt Z D a n c rs) (hb : Below Z.heap.size Z Y) : ImAt Y D a n c rs :=
  ⟨(hb.cell (p := ⟨D, 0, none⟩) (World.block_lt_of_cell? Z ⟨D, 0, none⟩ h.b)).trans h.b, h.o.below hb⟩
theorem ImAt.drew {Z : World} {D : Nat} {a : Option Addr} {n c : Nat} {rs : List Rt} (h : ImAt Z D a n c rs) : ImAt Z.drew D a n c rs := h.below ⟨rfl, rfl, rfl, Nat.le_refl _, fun _ _ => rfl⟩
theorem ImAt.new {Z : World} {a : Option Addr} {n c : Nat} {rs : List Rt} (h : RtOk Z a n c rs) (t : TypeId) : ImAt (Z.alloc (.cells #[.slice a n c] t)) Z.heap.size a n c rs ∧ Below Z.heap.size Z (Z.alloc (.cells #[.slice a n c] t)) := by
  have hb : Below Z.heap.size Z (Z.alloc (.cells #[.slice a n c] t)) := (Below.refl _ _).alloc (Nat.le_refl _) _
  have hA := heap_alloc_new Z (.cells #[.slice a n c] t)
  exact ⟨⟨cell_of_one hA, h.below hb⟩, hb⟩
theorem ImAt.is {Z : World} {D : Nat} {a : Option Addr} {n c : Nat} {rs : List Rt} (h : ImAt Z D a n c rs) : RtsIn Z a n rs := h.o.c.in

set_option maxHeartbeats 16000000 in
set_option maxRecDepth 100000 in
theorem lawImages (w : World) (a : Option Addr) (len cap : Nat) (hcode : Code w w.heap.size a len) (ht : PowIs w) :
    Calls Tryz.prog 3 #[.slice a len cap] w fun e w' => e = .returned (.bool true) ∧ Below w.heap.size w w' := by
  by_cases hbig : 4096 < (len : Int)
  · have hd : decide (4096 < (len : Int)) = true := decide_eq_true hbig
    go_enter Tryz.func3, Tryz.ntmps3
    go_wp2_with (go_at_call 4; refine (bigB _ _ _ _).mono ?_; rintro e w' ⟨rfl, rfl⟩)
    go_ret
    exact ⟨rfl, Below.refl _ _⟩
  · have hd : decide (4096 < (len : Int)) = false := decide_eq_false hbig
    have hl : len ≤ 4096 := by omega
    have hselfb : ∀ n : Bool, (n != n) = false := by simp
    have hselfl : ∀ n : List UInt8, (n != n) = false := by simp
    have hselfe : ∀ n : List UInt8, (n == n) = true := by simp
    have HT : Hid (∀ Z, Below w.heap.size w Z → PowIs Z) := fun Z hz => ht.below hz
    clear ht
    go_enter Tryz.func3, Tryz.ntmps3
    go_wp2_with fail
    refine (bigB _ _ _ _).mono ?_
    rintro e w1 ⟨rfl, hw1⟩
    obtain rfl := hw1.symm
    go_wp2_with fail
    refine (drawShowImage _ _ _ _ hl hcode).mono ?_
    rintro e w2 ⟨la, n, lc, rs, rfl, him, hb2⟩
    have hsm := smRt_shortF him.2.1
    obtain ⟨hm3, hb3⟩ := ImAt.new (rs := rs) ⟨him.1 w2 (Agr.refl _ _), hsm.2, hsm.1, by have := him.2.2; omega⟩ 26
    obtain ⟨w3, hw3⟩ : ∃ W, w2.alloc (.cells #[.slice la n lc] 26) = W := ⟨_, rfl⟩
    obtain ⟨D3, hD3⟩ : ∃ D, w2.heap.size = D := ⟨_, rfl⟩
    rw [hw3] at hm3 hb3
    rw [hD3] at hm3
    have hcode3 := (hcode.later hb2).later hb3
    have hB3 := hb2.trans (hb3.mono hb2.size)
    have HM3 : Hid (ImAt w3 D3 la n lc rs) := hm3
    have k3 := hm3.b
    have hn12 : n ≤ 12 := him.2.2
    clear hcode him hsm hb2 hb3 hm3
    go_wp2_with fail
    refine (implShowImage la n lc rs _ HM3.out.o (HT.out _ hB3)).mono ?_
    rintro e w4 ⟨rfl, hb4⟩
    have hcode4 := hcode3.later hb4
    have hB4 := hB3.trans (hb4.mono hB3.size)
    have HM4 : Hid (ImAt w4 D3 la n lc rs) := HM3.out.below hb4
    obtain ⟨s, hs⟩ : ∃ s, showIm rs = s := ⟨_, rfl⟩
    have HS : Hid (showIm rs = s) := hs
    have hsl : s.length ≤ 400000 := by rw [← hs]; exact showIm_small _
    rw [hs]
    clear hs hcode3 hb4 hB3 HM3 k3 hw3 hD3
    go_wp2_with fail
    refine (drawReadImage _ _ _ _ hl hcode4).mono ?_
    rintro e w5 ⟨r, rfl, hrl, hb5⟩
    have hB5 := hB4.trans (hb5.mono hB4.size)
    have HM5 : Hid (ImAt w5 D3 la n lc rs) := HM4.out.below hb5
    clear hcode4 hb5 hB4 HM4
    go_wp2_with fail
    refine (implReadImage r _ (by omega) (HT.out _ hB5)).mono ?_
    rintro e w6 ⟨v6, xs6, rfl, hx6, hof6, _, hb6⟩
    have hrd := read_small r
    obtain ⟨q, hq⟩ : ∃ q, readIV r = q := ⟨_, rfl⟩
    obtain ⟨is, his⟩ : ∃ is, readIB r = is := ⟨_, rfl⟩
    have HQ : Hid (readIV r = q) := hq
    have HIS : Hid (readIB r = is) := his
    rw [hq] at hx6 hrd
    rw [his]
    obtain ⟨a6, c6, rfl, _, _⟩ := hof6.in
    have hxl6 : xs6.length = q.length := by rw [← hx6, List.length_map]
    rw [hxl6] at hof6 ⊢
    have hB6 := hB5.trans (hb6.mono hB5.size)
    obtain ⟨hx7, hb7⟩ := ImAt.new (rs := q) ⟨hof6.cap hx6 rfl, hrd.1, hrd.2.1, by omega⟩ 26
    obtain ⟨w7, hw7⟩ : ∃ W, w6.alloc (.cells #[.slice a6 q.length c6] 26) = W := ⟨_, rfl⟩
    obtain ⟨D6, hD6⟩ : ∃ D, w6.heap.size = D := ⟨_, rfl⟩
    rw [hw7] at hx7 hb7
    rw [hD6] at hx7
    have hB7 := hB6.trans (hb7.mono hB6.size)
    have HM7 : Hid (ImAt w7 D3 la n lc rs ∧ ImAt w7 D6 a6 q.length c6 q) := ⟨(HM5.out.below hb6).below hb7, hx7⟩
    have HQ2 : Hid (IntR q ∧ ShortR q) := ⟨hrd.1, hrd.2.1⟩
    have hq64 : q.length ≤ 64 := hrd.2.2
    clear hx6 hof6 hb6 hb7 hx7 hB6 hB5 HM5 hq his hrd hxl6
    go_wp2_with fail
    refine (specReadImage r _).mono ?_
    rintro e w8 ⟨v8, xs8, rfl, hx8, hof8, _, hb8⟩
    rw [HQ.out] at hx8
    rw [HIS.out]
    obtain ⟨a8, c8, rfl, _, _⟩ := hof8.in
    have hxl8 : xs8.length = q.length := by rw [← hx8, List.length_map]
    rw [hxl8] at hof8 ⊢
    have hB8 := hB7.trans (hb8.mono hB7.size)
    obtain ⟨hy9, hb9⟩ := ImAt.new (rs := q) ⟨hof8.cap hx8 rfl, HQ2.out.1, HQ2.out.2, by omega⟩ 26
    obtain ⟨w9, hw9⟩ : ∃ W, w8.alloc (.cells #[.slice a8 q.length c8] 26) = W := ⟨_, rfl⟩
    obtain ⟨D8, hD8⟩ : ∃ D, w8.heap.size = D := ⟨_, rfl⟩
    rw [hw9] at hy9 hb9
    rw [hD8] at hy9
    have hB : Below w.heap.size w w9 := hB8.trans (hb9.mono hB8.size)
    have sm : ImAt w9 D3 la n lc rs := (HM7.out.1.below hb8).below hb9
    have sx : ImAt w9 D6 a6 q.length c6 q := (HM7.out.2.below hb8).below hb9
    have sy : ImAt w9 D8 a8 q.length c8 q := hy9
    obtain ⟨ib, hib⟩ : ∃ ib, imageB rs = ib := ⟨_, rfl⟩
    have HIB : Hid (imageB rs = ib) := hib
    obtain ⟨nq, hnq⟩ : ∃ nq, q.length = nq := ⟨_, rfl⟩
    have HNQ : Hid (q.length = nq) := hnq
    rw [hnq] at sx sy hq64 hw9 ⊢
    clear hx8 hof8 hb8 hb9 hy9 hB8 hB7 HM7 hib hxl8 hw7 hnq
    go_upto_region 8 with fail
    go_cut [53] from 30 (fun v wx => v = .bool false ∧ Hid (ImAt wx D3 la n lc rs) ∧ Hid (ImAt wx D6 a6 nq c6 q) ∧ Hid (Below w.heap.size w wx))
    case first =>
      replace sm := sm.drew
      replace sx := sx.drew
      replace sy := sy.drew
      replace hB : Below w.heap.size w w9.drew := hB.drew
      have m0 := sm.b
      have x0 := sx.b
      have y0 := sy.b
      go_region_held3 (fun w' => w'.cell? ⟨D3, 0, none⟩ = some (.slice la n lc) ∧ w'.cell? ⟨D6, 0, none⟩ = some (.slice a6 nq c6) ∧ w'.cell? ⟨D8, 0, none⟩ = some (.slice a8 nq c8)) (go_keep) (first
        | (go_at_call 10; refine (likeRoutinesC a6 a8 nq c6 c8 q _ sx.is sy.is (by omega) (fun j => Nat.le_trans (HQ2.out.2 j).2.1 (by omega))).mono ?_; rintro e wn ⟨rfl, hbn⟩; replace sm := sm.below hbn; replace sx := sx.below hbn; replace sy := sy.below hbn; replace hB := hB.trans (hbn.mono hB.size); clear hbn; replace m0 := sm.b; replace x0 := sx.b; replace y0 := sy.b)
        | (go_at_call 11; refine (specShowImage la n lc rs _ sm.is sm.o.s (by omega)).mono ?_; rintro e wn ⟨rfl, hbn⟩; rw [HS.out]; replace sm := sm.below hbn; replace sx := sx.below hbn; replace sy := sy.below hbn; replace hB := hB.trans (hbn.mono hB.size); clear hbn; replace m0 := sm.b; replace x0 := sx.b; replace y0 := sy.b)
        | (go_at_call 12; refine (implImageOk la n lc rs _ sm.o).mono ?_; rintro e wn ⟨rfl, hbn⟩; rw [HIB.out]; replace sm := sm.below hbn; replace sx := sx.below hbn; replace sy := sy.below hbn; replace hB := hB.trans (hbn.mono hB.size); clear hbn; replace m0 := sm.b; replace x0 := sx.b; replace y0 := sy.b)
        | (go_at_call 13; refine (specImageOk la n lc rs _ sm.is sm.o.s (by omega)).mono ?_; rintro e wn ⟨rfl, hbn⟩; rw [HIB.out]; replace sm := sm.below hbn; replace sx := sx.below hbn; replace sy := sy.below hbn; replace hB := hB.trans (hbn.mono hB.size); clear hbn; replace m0 := sm.b; replace x0 := sx.b; replace y0 := sy.b))
      all_goals go_wp2_with fail
      all_goals go_meet
      all_goals exact ⟨rfl, sm, sx, hB⟩
    case rest =>
    obtain ⟨rfl, HSm, HSx, HB⟩ := hcut
    clear sm sx sy hB
    have sm := HSm.out
    have sx := HSx.out
    have hB := HB.out
    clear HSm HSx HB
    go_upto_region 10 with fail
    go_cut [70] from 54 (fun v wx => v = .bool false ∧ Hid (ImAt wx D3 la n lc rs) ∧ Hid (Below w.heap.size w wx))
    case first =>
      have x0 := sx.b
      rcases is with _ | _
      · have hn0 : nq = 0 := by
          have h1 : readIV r = [] := by rcases read_iv r with ⟨h, _⟩ | ⟨_, h⟩; (rw [HIS.out] at h; cases h); exact h
          rw [← HNQ.out, ← HQ.out, h1]; rfl
        subst hn0
        go_wp2_with fail
        go_meet
        case rel => exact ⟨rfl, sm, hB⟩
      · have hsr : showIm q = r := by
          rcases read_iv r with ⟨_, _, h⟩ | ⟨h, _⟩
          · rw [HQ.out] at h; exact h
          · rw [HIS.out] at h; cases h
        have HC : Hid (_) := implShowImage a6 nq c6 q wc sx.o (HT.out _ hB)
        rw [hsr] at HC
        clear hsr
        go_wp2_with fail
        refine Calls.mono HC.out ?_
        rintro e wn ⟨rfl, hbn⟩
        replace sm := sm.below hbn
        replace hB := hB.trans (hbn.mono hB.size)
        clear hbn
        go_wp2_with fail
        go_meet
        case rel => exact ⟨rfl, sm, hB⟩
    case rest =>
    obtain ⟨rfl, HSm, HB⟩ := hcut
    clear sm sx hB
    have sm := HSm.out
    have hB := HB.out
    have m0 := sm.b
    clear HSm HB
    by_cases hse : s = []
    · subst hse
      have hibf : ib = false := by
        rcases ib with _ | _
        · rfl
        · exact absurd HS.out (image_back HIB.out).1
      subst hibf
      have he : (([] : List UInt8) == []) = true := by decide
      have HC : Hid (_) := implImageOk la n lc rs wc sm.o
      rw [HIB.out] at HC
      go_wp2_with fail
      refine Calls.mono HC.out ?_
      rintro e wn ⟨rfl, hbn⟩
      have HF : Hid (Below w.heap.size w wn) := hB.trans (hbn.mono hB.size)
      clear hbn
      go_wp2
      go_ret
      exact ⟨rfl, HF.out⟩
    · have he : (s == []) = false := beq_eq_false_iff_ne.2 hse
      have he2 : s.isEmpty = false := by rw [List.isEmpty_eq_false_iff]; exact hse
      have hibt : ib = true := by
        rcases ib with _ | _
        · exact absurd (HS.out.symm.trans (image_not HIB.out)) hse
        · rfl
      subst hibt
      have hbk := image_back HIB.out
      rw [HS.out] at hbk
      have HC : Hid (_) := implReadImage s wc (by omega) (HT.out _ hB)
      rw [hbk.2.1, hbk.2.2] at HC
      have HSM : Hid (ImAt wc D3 la n lc rs) := sm
      clear hbk hse sm
      go_wp2_with fail
      refine Calls.mono HC.out ?_
      rintro e wn ⟨vn, xsn, rfl, hxn, hofn, _, hbn⟩
      obtain ⟨an, cn, rfl, _, _⟩ := hofn.in
      have hnr : rs.length = n := HSM.out.o.c.1
      have hxln : xsn.length = n := by rw [← hnr, ← hxn, List.length_map]
      rw [hxln] at hofn ⊢
      have sm := HSM.out.below hbn
      replace hB := hB.trans (hbn.mono hB.size)
      have hcn := hofn.cap hxn hnr
      obtain ⟨sz, hbz⟩ := ImAt.new (rs := rs) ⟨hcn, sm.o.i, sm.o.s, sm.o.l⟩ 26
      obtain ⟨wz, hwz⟩ : ∃ W, wn.alloc (.cells #[.slice an n cn] 26) = W := ⟨_, rfl⟩
      obtain ⟨DZ, hDZ⟩ : ∃ D, wn.heap.size = D := ⟨_, rfl⟩
      rw [hwz] at sz hbz
      rw [hDZ] at sz
      replace sm := sm.below hbz
      replace hB := hB.trans (hbz.mono hB.size)
      have z0 := sz.b
      have m1 := sm.b
      have HLk : Hid (_) := likeRoutinesC an la n cn lc rs wz sz.is sm.is (by omega) (fun j => Nat.le_trans (sm.o.s j).2.1 (by omega))
      have HBz : Hid (Below w.heap.size w wz) := hB
      clear hxn hofn hbn hbz hcn HC HSM sz sm hB m0 hnr hxln
      go_wp2_with fail
      refine Calls.mono HLk.out ?_
      rintro e wq ⟨rfl, hbq⟩
      have HF : Hid (Below w.heap.size w wq) := HBz.out.trans (hbq.mono HBz.out.size)
      clear hbq
      go_wp2
      go_ret
      exact ⟨rfl, HF.out⟩

end Go.Proofs.YtogobeegibngiaaGreatDoor
