/-
  Parts of one proof, one behind the other: ProjI, PrtS, PrtI, MathF, MathH, MathX, Math2, Math2F, Math18, Math8L.
-/
import Derived.Test.YtaidhjjpdkkmcaaGreatDoorP27
import Derived.Test.YtaidhjjpdkkmcaaGreatDoorP25
import Derived.Test.YtaidhjjpdkkmcaaGreatDoorP22
import Derived.Test.YtaidhjjpdkkmcaaGreatDoorP23
import Derived.Test.YtaidhjjpdkkmcaaGreatDoorP9
import Derived.Test.YtaidhjjpdkkmcaaGreatDoorP6
import Derived.Laws.StructEq
import Derived.Test.YtaidhjjpdkkmcaaGreatDoorP14
import Derived.Test.YtaidhjjpdkkmcaaGreatDoorP1
import Derived.Lib.Bytealg
import Derived.Test.YtaidhjjpdkkmcaaGreatDoorP4

/-! The contracts of the landed code of chapter 8: ProjectOk, Order, Reaches, Needs. -/
namespace Go.Proofs.YtaidhjjpdkkmcaaGreatDoor
open Go.RowKit

theorem lit_none (w : World) : (w.alloc (.cells #[] 9)).ownsRow w.heap.size 9 1 (.slice (some ⟨w.heap.size, 0, none⟩) 0 0) 0 (strV []) ∧ Below w.heap.size w (w.alloc (.cells #[] 9)) :=
 ⟨World.ownsRow_lit (base := w.heap.size) (e := 9) (size := 1) w #[] 0 (Nat.le_refl _) (by decide) rfl, (Below.refl _ _).alloc (Nat.le_refl _) _⟩

theorem here_cases (ps : List Pk) (s : List UInt8) : ((if projB ps = true then at8 ps s else -1) = -1 ∧ hereB ps s = false) ∨ ∃ f, f < ps.length ∧ (if projB ps = true then at8 ps s else -1) = (f : Int) ∧ projB ps = true ∧ s = nmAt ps f ∧ hereB ps s = true := by
 unfold hereB
 rcases hp : projB ps with _ | _
 ·
  exact Or.inl ⟨by simp, rfl⟩
 ·
  rw [if_pos rfl]
  rcases at8_is ps s with ⟨e, _⟩ | ⟨f, hf, e, hn, _⟩
  ·
   exact Or.inl ⟨e, by rw [e]; rfl⟩
  ·
   exact Or.inr ⟨f, hf, e, rfl, hn.symm, by rw [e]; simp⟩



theorem filt_take (out re : List Nat) (f k : Nat) (hk : k < out.length) : (out.take (k + 1)).filter (fun i => decide (i ≠ f ∧ i ∈ re)) = (out.take k).filter (fun i => decide (i ≠ f ∧ i ∈ re)) ++ if out.getD k 0 ≠ f ∧ out.getD k 0 ∈ re then [out.getD k 0] else [] := by
 have e : out.getD k 0 = out[k] := by simp [List.getD, hk]
 rw [List.take_succ_eq_append_getElem hk, List.filter_append, e]
 by_cases h : out[k] ≠ f ∧ out[k] ∈ re
 ·
  rw [if_pos h]; simp [h]
 ·
  rw [if_neg h]; simp [h]
set_option maxHeartbeats 4000000 in
set_option maxRecDepth 100000 in
theorem implNeeds (a : Option Addr) (len cap : Nat) (ps : List Pk) (s : List UInt8) (w : World) (h : PkgsOk w a len cap ps) (_hs : s.length ≤ 1048576) :
 Calls Tryz.prog 81 #[.slice a len cap, .string ⟨s.toArray⟩] w fun e w' => ∃ v, e = .returned v ∧ w'.ownsRow w.heap.size 9 1 v (needV ps s).length (strV (needV ps s)) ∧ Below w.heap.size w w' := by
 have HP : Hid (_) := implPlaceIn a len cap ps s w h
 have HI : Hid (PkgsOk w a len cap ps) := h
 rcases here_cases ps s with ⟨hp, hv⟩ | ⟨f, hf, hp, hpj, hns, hv⟩
 ·
  have HE : Hid (needV ps s = []) := by exact (by unfold needV; rw [if_neg (by rw [hv]; simp)] : needV ps s = [])
  rw [hp] at HP
  clear h hv hp
  go_enter Tryz.func81, Tryz.ntmps81
  go_wp2_with (go_at_call 108; refine Calls.mono HP.out ?_; rintro e w1 ⟨rfl, hb1⟩; have HB1 : Hid (Below w.heap.size w w1) := hb1; clear hb1)
  go_ret
  obtain ⟨h1, h2⟩ := lit_none w1
  exact ⟨_, rfl, by rw [HE.out]; exact own_base h1 HB1.out.size, HB1.out.trans (h2.mono HB1.out.size)⟩
 ·
  have HE : Hid (needV ps s = need8 ps (nmAt ps f)) := by exact (by unfold needV; rw [if_pos hv, hns] : needV ps s = need8 ps (nmAt ps f))
  rw [hp] at HP
  have hfl : f < len := by rw [← h.hlen]; exact hf
  have hl8 : ps.length ≤ 8 := (projB_parts hpj).2.1.2
  have hfz : ¬ (f : Int) = -1 := by omega
  have hfb : ((f : Int) == -1) = false := beq_eq_false_iff_ne.2 hfz
  clear h hv hp hns
  go_enter Tryz.func81, Tryz.ntmps81
  go_wp2_with fail
  refine Calls.mono HP.out ?_
  rintro e w1 ⟨rfl, hb1⟩
  have HB1 : Hid (Below w.heap.size w w1) := hb1
  have HI1 : Hid (PkgsOk w1 a len cap ps) := HI.out.below hb1
  clear hb1 HP
  go_wp2_with fail
  refine (implPlacesReached a len cap ps f w1 HI1.out hpj hfl).mono ?_
  rintro e w2 ⟨v, rfl, re, ho, hrp, hrt, hb2⟩
  have hrl := hrp.len
  obtain ⟨ra, rc, rfl, _⟩ := own_nats ho rfl
  have HB2 : Hid (Below w.heap.size w w2) := HB1.out.trans (hb2.mono HB1.out.size)
  have HRp : Hid (Rp8 ps f re ∧ RpTo ps re re.length) := ⟨hrp, hrt⟩
  have HO2 : Hid (w2.ownsRow w.heap.size 3 1 (.slice ra re.length rc) re.length (natV re)) := own_base ho HB1.out.size
  have hbA : Below w2.heap.size w2 (w2.alloc (.cells #[] 3)) := (Below.refl _ _).alloc (Nat.le_refl _) _
  have hN0 : (w2.alloc (.cells #[] 3)).ownsRow w.heap.size 3 1 (.slice (some ⟨w2.heap.size, 0, none⟩) 0 0) 0 (natV []) := World.ownsRow_lit (base := w.heap.size) (e := 3) (size := 1) w2 #[] 0 HB2.out.size (by decide) rfl
  have HBA : Hid (Below w.heap.size w (w2.alloc (.cells #[] 3))) := HB2.out.trans (hbA.mono HB2.out.size)
  have HOA : Hid ((w2.alloc (.cells #[] 3)).ownsRow w.heap.size 3 1 (.slice ra re.length rc) re.length (natV re)) := own_below HO2.out hbA
  have HNA : Hid ((w2.alloc (.cells #[] 3)).ownsRow w.heap.size 3 1 (.slice (some ⟨w2.heap.size, 0, none⟩) 0 0) 0 (natV [])) := hN0
  have HRl : Hid (∀ k, (Value.slice ra re.length rc).ownBlock = some k → k < w2.heap.size) := fun k e => (HO2.out.lt k e).2
  have HIO : Hid (_) := implPlacesInOrder a len cap ps (w2.alloc (.cells #[] 3)) (HI.out.below HBA.out) hpj
  clear ho hrp hrt hb2 hbA hN0 hpj
  go_wp2_with fail
  refine Calls.mono HIO.out ?_
  rintro e w3 ⟨v3, rfl, out, ho3, hoo, hlt, hol, hb3⟩
  obtain ⟨oa, oc, rfl, _⟩ := own_nats ho3 rfl
  have HB3 : Hid (Below w.heap.size w w3) := HBA.out.trans (hb3.mono HBA.out.size)
  have HNd : Hid (nmsAt ps (out.filter (fun i => decide (i ≠ f ∧ i ∈ re))) = need8 ps (nmAt ps f)) := need_places HRp.out.1 HRp.out.2 hoo (fun x hx => by rw [HI.out.hlen]; exact hlt x hx)
  have HLt : Hid (∀ x ∈ out, x < len) := hlt
  have hsA : (w2.alloc (.cells #[] 3)).heap.size = w2.heap.size + 1 := by simp
  have HS0 : Hid (Ro3 w3 w.heap.size (.slice (some ⟨w2.heap.size, 0, none⟩) 0 0) (.slice ra re.length rc) (.slice oa out.length oc) ((out.take 0).filter (fun i => decide (i ≠ f ∧ i ∈ re))) re out) := ⟨own_below HNA.out hb3, own_below HOA.out hb3, own_base ho3 HBA.out.size, (fun k e e2 => by
   injection e with e
   have e' : w2.heap.size = k := e
   have := HRl.out k e2
   omega), (fun k e e2 => by
   injection e with e
   have e' : w2.heap.size = k := e
   have := (ho3.lt k e2).1
   omega)⟩
  clear HIO HNA HOA HBA HO2 ho3 hoo hlt hb3 hsA HRl
  go_wp2
  go_loopw [7, 23] (fun nv iv wr => ∃ (k m : Nat) (na : Option Addr) (nc : Nat) (ne : List Nat), nv = .slice na m nc ∧ iv = .int .i64 (k : Int) ∧ k ≤ out.length ∧ m ≤ k ∧ Hid (ne.length = m) ∧ Hid ((out.take k).filter (fun i => decide (i ≠ f ∧ i ∈ re)) = ne) ∧ Hid (Ro3 wr w.heap.size (.slice na m nc) (.slice ra re.length rc) (.slice oa out.length oc) ne re out) ∧ Hid (Below w.heap.size w wr)) (fun _ iv _ => out.length - (intOf iv).toNat)
  case atStart => exact ⟨0, 0, _, 0, [], rfl, rfl, by omega, by omega, rfl, rfl, HS0, HB3⟩
  case round =>
   obtain ⟨k, m, na, nc, ne, rfl, rfl, hk, hmk, HL, HF, HS, HB⟩ := hrel
   clear HS0 HB3
   by_cases hlt : (k : Int) < (out.length : Int)
   ·
    have hk2 : k < out.length := by omega
    obtain ⟨oa', oc', he, hoin⟩ := own_nats HS.out.rt rfl
    injection he with e1 _ e3
    subst e1
    subst e3
    obtain ⟨ra', rc', he, hrin⟩ := own_nats HS.out.ru rfl
    injection he with e1 _ e3
    subst e1
    subst e3
    obtain ⟨b, off, rfl, _, d0⟩ := hoin.2 k hk2
    have hft := filt_take out re f k hk2
    rw [HF.out] at hft
    obtain ⟨z, hz⟩ : ∃ z, out.getD k 0 = z := ⟨_, rfl⟩
    rw [hz] at d0 hft
    have HC : Hid (_) := containsNat ra re.length rc re z wr hrin (by omega)
    clear hoin hrin hz
    by_cases hzf : z = f
    ·
     subst hzf
     rw [if_neg (fun h => h.1 rfl), List.append_nil] at hft
     have HF2 : Hid ((out.take (k + 1)).filter (fun i => decide (i ≠ z ∧ i ∈ re)) = ne) := hft
     clear hft
     go_wp2
     go_roundw
     case rel => exact ⟨k + 1, m, na, nc, ne, rfl, by go_num, by omega, by omega, HL, HF2, HS, HB⟩
     case measure => simp [intOf]; omega
    ·
     have hzz : ¬ (z : Int) = (f : Int) := by omega
     have hzb : ((z : Int) != (f : Int)) = true := by rw [bne_iff_ne]; exact hzz
     have hzb2 : ((z : Int) == (f : Int)) = false := beq_eq_false_iff_ne.2 hzz
     by_cases hin : z ∈ re
     ·
      rw [decide_eq_true hin] at HC
      rw [if_pos ⟨hzf, hin⟩] at hft
      have HF2 : Hid ((out.take (k + 1)).filter (fun i => decide (i ≠ f ∧ i ∈ re)) = ne ++ [z]) := hft
      have HL2 : Hid ((ne ++ [z]).length = m + 1) := by exact (by rw [List.length_append, List.length_singleton, HL.out] : (ne ++ [z]).length = m + 1)
      obtain ⟨g', c', Y, hr, s2, hB2⟩ := HS.out.app HB.out.size (by rw [HL.out]; omega) z
      rw [HL.out] at hr s2
      have HSY : Hid (Ro3 Y w.heap.size (.slice (some ⟨g', 0, none⟩) (m + 1) c') (.slice ra re.length rc) (.slice (some ⟨b, off, none⟩) out.length oc) (ne ++ [z]) re out) := s2
      have HBY : Hid (Below w.heap.size w Y) := HB.out.trans hB2
      clear hin hft s2 hB2 hzf
      go_wp2_with (first | (go_at_call 111; refine Calls.mono HC.out ?_; rintro e w2 ⟨rfl, hw2⟩; obtain rfl := hw2.symm) | (at_builtin; refine wpList_append_run rfl (.tmp 35) (.tmp 37) 137 rfl _ _ _ rfl rfl hr ?_; clear hr))
      go_roundw
      case rel => exact ⟨k + 1, m + 1, _, c', ne ++ [z], rfl, by go_num, by omega, by omega, HL2, HF2, HSY, HBY⟩
      case measure => simp [intOf]; omega
     ·
      rw [decide_eq_false hin] at HC
      rw [if_neg (fun h => hin h.2), List.append_nil] at hft
      have HF2 : Hid ((out.take (k + 1)).filter (fun i => decide (i ≠ f ∧ i ∈ re)) = ne) := hft
      clear hin hft hzf
      go_wp2_with (go_at_call 111; refine Calls.mono HC.out ?_; rintro e w2 ⟨rfl, hw2⟩; obtain rfl := hw2.symm)
      go_roundw
      case rel => exact ⟨k + 1, m, na, nc, ne, rfl, by go_num, by omega, by omega, HL, HF2, HS, HB⟩
      case measure => simp [intOf]; omega
   ·
    obtain rfl : k = out.length := by omega
    have hne : out.filter (fun i => decide (i ≠ f ∧ i ∈ re)) = ne := by have := HF.out; rw [List.take_length] at this; exact this
    have hrv := HS.out.rv
    rw [HL.out] at hrv
    obtain ⟨na', nc', he, hnin⟩ := own_nats hrv HL.out
    injection he with e1 _ e3
    subst e1
    subst e3
    have hnd := HNd.out
    rw [hne, ← HE.out] at hnd
    have HN : Hid (_) := implNamesAt a len cap ps na m nc ne wr (HI.out.below HB.out) hnin (fun x hx => HLt.out x (by rw [← hne] at hx; exact (List.mem_filter.1 hx).1)) (by omega)
    rw [hnd] at HN
    clear hnd hne hrv hnin
    go_wp2_with fail
    refine Calls.mono HN.out ?_
    rintro e w4 ⟨v4, rfl, ho4, hb4⟩
    have HRr : Hid (w4.ownsRow w.heap.size 9 1 v4 (needV ps s).length (strV (needV ps s)) ∧ Below w.heap.size w w4) := ⟨own_base ho4 HB.out.size, HB.out.trans (hb4.mono HB.out.size)⟩
    clear ho4 hb4
    go_wp2
    go_ret
    exact ⟨_, rfl, HRr.out.1, HRr.out.2⟩

end Go.Proofs.YtaidhjjpdkkmcaaGreatDoor

/-! The contract of chapter 17's specification: Parts. -/
namespace Go.Proofs.YtaidhjjpdkkmcaaGreatDoor
open Go.RowKit

/-! What Parts answers. -/
def prtV (ps : List Pk) : List (List UInt8) := if (faultV ps).1 = 0 then need8 ps mainT ++ [mainT] else []
theorem prtV_ok {ps : List Pk} (h : (faultV ps).1 = 0) : prtV ps = need8 ps mainT ++ [mainT] ∧ projB ps = true ∧ hereB ps mainT = true ∧ mainT ∈ names8 ps := by
 obtain ⟨_, hp, _, _, _, hm, _⟩ := faultV_zero h
 refine ⟨if_pos h, hp, ?_, (at8_mem ps mainT).1 hm⟩
 unfold hereB
 rw [hp, decide_eq_true hm]
 rfl
theorem need8_len8 {ps : List Pk} (hp : projB ps = true) (s : List UInt8) : (need8 ps s).length ≤ 8 := by
 have h1 := (order8_end hp).1.len
 have h2 := (projB_parts hp).2.1
 have h3 : (need8 ps s).length ≤ (order8 ps).length := List.length_filter_le _ _
 omega
theorem prtV_len (ps : List Pk) : (prtV ps).length ≤ 9 := by
 unfold prtV
 split
 ·
  rename_i h
  have := need8_len8 (prtV_ok h).2.1 mainT
  simp; omega
 ·
  simp
theorem fault_ne17 (c : Int) (p g : List UInt8) (w : World) : (binOp .neq 106 (.agg #[.int .i64 c, .string ⟨p.toArray⟩, .string ⟨g.toArray⟩]) (.agg #[.int .i64 0, .string ⟨#[]⟩, .string ⟨#[]⟩])).run Tryz.prog w = .ok (.bool (decide (¬ (c = 0 ∧ p = [] ∧ g = [])))) w := by
 rw [run_neq_struct]
 simp [go_sem]
 by_cases h1 : c = 0
 ·
  by_cases h2 : p = []
  ·
   by_cases h3 : g = []
   ·
    simp [h1, h2, h3]
   ·
    simp [h1, h2, h3]
  ·
   simp [h1, h2]
 ·
  simp [h1]
/-- A row of one text behind a row of texts. -/
theorem flt_cases (z : Flt) (ps : List Pk) (h : faultV ps = z) : (¬ (z.1 = 0 ∧ z.2.1 = [] ∧ z.2.2 = []) ∧ prtV ps = []) ∨ (z = (0, [], []) ∧ (faultV ps).1 = 0) := by
 by_cases h0 : (faultV ps).1 = 0
 ·
  exact Or.inr ⟨by rw [← h]; exact (faultV_zero h0).1, h0⟩
 ·
  refine Or.inl ⟨fun e => h0 (by rw [h]; exact e.1), if_neg h0⟩
theorem lit_none17 (w : World) : (w.alloc (.cells #[] 9)).ownsRow w.heap.size 9 1 (.slice (some ⟨w.heap.size, 0, none⟩) 0 0) 0 (strV []) ∧ Below w.heap.size w (w.alloc (.cells #[] 9)) :=
 ⟨World.ownsRow_lit (base := w.heap.size) (e := 9) (size := 1) w #[] 0 (Nat.le_refl _) (by decide) rfl, (Below.refl _ _).alloc (Nat.le_refl _) _⟩

set_option maxHeartbeats 1000000 in
set_option maxRecDepth 100000 in
theorem specPrt17 (a : Option Addr) (len cap : Nat) (ps : List Pk) (w : World) (hin : PkgsIn w a len ps) (h0 : (faultV ps).1 = 0) :
 Calls Tryz.prog 73 #[.slice a len cap] w fun e w' => ∃ v, e = .returned v ∧ w'.ownsRow w.heap.size 9 1 v (prtV ps).length (strV (prtV ps)) ∧ Below w.heap.size w w' := by
 obtain ⟨hV, hp, _, hm⟩ := prtV_ok h0
 have hl := need8_len8 hp mainT
 have HN : Hid (_) := specNeed8 a len cap ps mainT w hin hp hm
 rw [hV]
 obtain ⟨ls, hls⟩ : ∃ ls, need8 ps mainT = ls := ⟨_, rfl⟩
 rw [hls] at HN hl ⊢
 rw [List.length_append, List.length_singleton]
 clear hin h0 hp hm hV hls
 go_enter Tryz.func73, Tryz.ntmps73
 go_wp2_with fail
 refine Calls.mono HN.out ?_
 rintro e w1 ⟨v, rfl, ho, hb1⟩
 obtain ⟨v', Y, hr, hoY, hgY⟩ := push_text mainT ho hb1.size (by omega)
 have HB : Hid (Below w.heap.size w Y) := hb1.grown hgY hb1.size (fun k e => (ho.lt k e).1)
 have HO : Hid (Y.ownsRow w.heap.size 9 1 v' (ls.length + 1) (strV (ls ++ [mainT]))) := hoY
 clear hgY hoY ho hb1 HN
 unfold mainT at hr
 go_wp2_with (at_builtin; refine wpList_append_run rfl _ _ 37 rfl _ _ _ rfl rfl hr ?_)
 go_ret
 exact ⟨_, rfl, HO.out, HB.out⟩

set_option maxHeartbeats 1000000 in
set_option maxRecDepth 100000 in
theorem specPrt (a : Option Addr) (len cap : Nat) (ps : List Pk) (w : World) (hin : PkgsIn w a len ps) (hlen : len ≤ 1048576) (hsh : ShortPs ps) :
 Calls Tryz.prog 34 #[.slice a len cap] w fun e w' => ∃ v, e = .returned v ∧ w'.ownsRow w.heap.size 9 1 v (prtV ps).length (strV (prtV ps)) ∧ Below w.heap.size w w' := by
 have HF : Hid (_) := specFaultOf a len cap ps w hin hlen hsh
 have HI : Hid (PkgsIn w a len ps) := hin
 obtain ⟨z, hz⟩ : ∃ z, faultV ps = z := ⟨_, rfl⟩
 have hzc := flt_cases z ps hz
 rw [hz] at HF
 obtain ⟨c, p, g⟩ := z
 unfold fltVal at HF
 simp only at HF hzc
 have HNe : Hid (_) := fault_ne17 c p g
 clear hin hsh
 rcases hzc with ⟨hno, hv⟩ | ⟨he, h0⟩
 ·
  have HV : Hid (prtV ps = []) := hv
  clear hz hv
  go_enter Tryz.func34, Tryz.ntmps34
  go_wp2_with fail
  refine Calls.mono HF.out ?_
  rintro e w1 ⟨rfl, hb1⟩
  have hne := HNe.out w1
  rw [decide_eq_true hno] at hne
  have HB : Hid (Below w.heap.size w w1) := hb1
  have HNo : Hid (¬ (c = 0 ∧ p = [] ∧ g = [])) := hno
  clear hb1 HF HNe hno
  go_wp2
  all_goals first
   | (go_ret; obtain ⟨h1, h2⟩ := lit_none17 w1; exact ⟨_, rfl, by rw [HV.out]; exact own_base h1 HB.out.size, HB.out.trans (h2.mono HB.out.size)⟩)
   | (exfalso; have h := HNo.out; simp_all; done)
 ·
  have H0 : Hid ((faultV ps).1 = 0) := h0
  simp only [Prod.mk.injEq] at he
  obtain ⟨rfl, rfl, rfl⟩ := he
  clear hz h0
  go_enter Tryz.func34, Tryz.ntmps34
  go_wp2_with fail
  refine Calls.mono HF.out ?_
  rintro e w1 ⟨rfl, hb1⟩
  have hne := HNe.out w1
  rw [decide_eq_false (by simp)] at hne
  have HB : Hid (Below w.heap.size w w1) := hb1
  have HC : Hid (_) := specPrt17 a len cap ps w1 (HI.out.below hb1) H0.out
  clear hb1 HF HNe
  go_wp2_with (go_at_call 73; refine Calls.mono HC.out ?_; rintro e w2 ⟨v, rfl, ho, hb2⟩; have HO : Hid (w2.ownsRow w.heap.size 9 1 v (prtV ps).length (strV (prtV ps)) ∧ Below w.heap.size w w2) := ⟨own_base ho HB.out.size, HB.out.trans (hb2.mono HB.out.size)⟩; clear ho hb2)
  go_ret
  exact ⟨_, rfl, HO.out.1, HO.out.2⟩

end Go.Proofs.YtaidhjjpdkkmcaaGreatDoor

/-! The contract of chapter 17's landed code: Parts. -/
namespace Go.Proofs.YtaidhjjpdkkmcaaGreatDoor
open Go.RowKit

set_option maxHeartbeats 1000000 in
set_option maxRecDepth 100000 in
theorem implPrt (a : Option Addr) (len cap : Nat) (ps : List Pk) (er : Nat → Addr) (w : World) (hE : Err8 w er) (h : PkgsOk w a len cap ps) :
 Calls Tryz.prog 49 #[.slice a len cap] w fun e w' => ∃ v, e = .returned v ∧ w'.ownsRow w.heap.size 9 1 v (prtV ps).length (strV (prtV ps)) ∧ Below w.heap.size w w' := by
 have HF : Hid (_) := implFaultOf a len cap ps er w hE h
 have HI : Hid (PkgsOk w a len cap ps) := h
 obtain ⟨z, hz⟩ : ∃ z, faultV ps = z := ⟨_, rfl⟩
 have hzc := flt_cases z ps hz
 rw [hz] at HF
 obtain ⟨c, p, g⟩ := z
 unfold fltVal at HF
 simp only at HF hzc
 have HNe : Hid (_) := fault_ne17 c p g
 clear h hE
 rcases hzc with ⟨hno, hv⟩ | ⟨he, h0⟩
 ·
  have HV : Hid (prtV ps = []) := hv
  clear hz hv
  go_enter Tryz.func49, Tryz.ntmps49
  go_wp2_with fail
  refine Calls.mono HF.out ?_
  rintro e w1 ⟨rfl, hb1⟩
  have hne := HNe.out w1
  rw [decide_eq_true hno] at hne
  have HB : Hid (Below w.heap.size w w1) := hb1
  have HNo : Hid (¬ (c = 0 ∧ p = [] ∧ g = [])) := hno
  clear hb1 HF HNe hno
  go_wp2
  all_goals first
   | (go_ret; obtain ⟨h1, h2⟩ := lit_none17 w1; exact ⟨_, rfl, by rw [HV.out]; exact own_base h1 HB.out.size, HB.out.trans (h2.mono HB.out.size)⟩)
   | (exfalso; have h := HNo.out; simp_all; done)
 ·
  obtain ⟨hV, hp, hhere, hm⟩ := prtV_ok h0
  have hl := need8_len8 hp mainT
  have hnv : needV ps mainT = need8 ps mainT := if_pos hhere
  have HN : Hid (∀ X, Below w.heap.size w X → Calls Tryz.prog 81 #[.slice a len cap, .string ⟨mainT.toArray⟩] X fun e w' => ∃ v, e = .returned v ∧ w'.ownsRow X.heap.size 9 1 v (need8 ps mainT).length (strV (need8 ps mainT)) ∧ Below X.heap.size X w') := fun X hb => by
   have := implNeeds a len cap ps mainT X (HI.out.below hb) (by decide)
   rw [hnv] at this
   exact this
  rw [hV]
  obtain ⟨ls, hls⟩ : ∃ ls, need8 ps mainT = ls := ⟨_, rfl⟩
  rw [hls] at HN hl ⊢
  rw [List.length_append, List.length_singleton]
  simp only [Prod.mk.injEq] at he
  obtain ⟨rfl, rfl, rfl⟩ := he
  unfold mainT at HN
  clear hz h0 hV hp hhere hm hnv hls
  go_enter Tryz.func49, Tryz.ntmps49
  go_wp2_with fail
  refine Calls.mono HF.out ?_
  rintro e w1 ⟨rfl, hb1⟩
  have hne := HNe.out w1
  rw [decide_eq_false (by simp)] at hne
  have HB : Hid (Below w.heap.size w w1) := hb1
  have HC : Hid (_) := HN.out w1 hb1
  clear hb1 HF HNe HN
  go_wp2_with fail
  refine Calls.mono HC.out ?_
  rintro e w2 ⟨v, rfl, ho, hb2⟩
  have HO : Hid (w2.ownsRow w.heap.size 9 1 v ls.length (strV ls) ∧ Below w.heap.size w w2) := ⟨own_base ho HB.out.size, HB.out.trans (hb2.mono HB.out.size)⟩
  have HSc : Hid (_) := stringsClone [109, 97, 105, 110] w2 (by decide)
  clear ho hb2 HC HB
  go_wp2_with fail
  refine Calls.mono HSc.out ?_
  rintro e w3 ⟨rfl, hb3⟩
  have hB3 := HO.out.2.trans (hb3.mono HO.out.2.size)
  have hO3 := own_below HO.out.1 hb3
  obtain ⟨v', Y, hr, hoY, hgY⟩ := push_text mainT hO3 hB3.size (by omega)
  have HB : Hid (Below w.heap.size w Y) := hB3.grown hgY hB3.size (fun k e => (hO3.lt k e).1)
  have HOY : Hid (Y.ownsRow w.heap.size 9 1 v' (ls.length + 1) (strV (ls ++ [mainT]))) := hoY
  clear hgY hoY hO3 hB3 HO HSc hb3
  unfold mainT at hr
  go_wp2_with (at_builtin; refine wpList_append_run rfl _ _ 37 rfl _ _ _ rfl rfl hr ?_)
  go_ret
  exact ⟨_, rfl, HOY.out, HB.out⟩

end Go.Proofs.YtaidhjjpdkkmcaaGreatDoor

/-! Plain facts for FromHex: what a sign is worth, and what eight signs are. -/
namespace Go.Proofs.YtaidhjjpdkkmcaaGreatDoor

/-- What a sign is worth as a digit; -1: it is none. -/
def hvN (n : Nat) : Int := if 48 ≤ n ∧ n ≤ 57 then (n : Int) - 48 else if 97 ≤ n ∧ n ≤ 102 then (n : Int) - 87 else -1
def hv (c : UInt8) : Int := hvN c.toNat

theorem hv_all : ∀ n : Nat, n < 256 → Lib.indexByte [48, 49, 50, 51, 52, 53, 54, 55, 56, 57, 97, 98, 99, 100, 101, 102] (UInt8.ofNat n) = hvN n := by decide +kernel

theorem hv_idx (c : UInt8) : Lib.indexByte [48, 49, 50, 51, 52, 53, 54, 55, 56, 57, 97, 98, 99, 100, 101, 102] ((c.toNat : Int).toNat.toUInt8) = hv c := by
 have h := hv_all c.toNat c.toNat_lt
 simpa [hv] using h

theorem hv_bd (c : UInt8) : -1 ≤ hv c ∧ hv c ≤ 15 := by
 unfold hv hvN; split <;> (try split) <;> omega

def hexStep (n : Int) (c : UInt8) : Int := if n = -1 ∨ hv c < 0 then -1 else 16 * n + hv c

theorem hexStep_dig (n : Int) (c : UInt8) (h : 0 ≤ n) (h1 : 48 ≤ c.toNat) (h2 : c.toNat ≤ 57) : hexStep n c = 16 * n + ((c.toNat : Int) - 48) := by
 have e : hv c = (c.toNat : Int) - 48 := by unfold hv hvN; rw [if_pos ⟨h1, h2⟩]
 unfold hexStep; rw [if_neg (by omega), e]
theorem hexStep_let (n : Int) (c : UInt8) (h : 0 ≤ n) (h1 : 97 ≤ c.toNat) (h2 : c.toNat ≤ 102) : hexStep n c = 16 * n + ((c.toNat : Int) - 87) := by
 have e : hv c = (c.toNat : Int) - 87 := by unfold hv hvN; rw [if_neg (by omega), if_pos ⟨h1, h2⟩]
 unfold hexStep; rw [if_neg (by omega), e]
theorem hexStep_none (n : Int) (c : UInt8) (h : c.toNat < 48 ∨ (57 < c.toNat ∧ c.toNat < 97) ∨ 102 < c.toNat) : hexStep n c = -1 := by
 have e : hv c = -1 := by unfold hv hvN; rw [if_neg (by omega), if_neg (by omega)]
 unfold hexStep; rw [if_pos (by omega)]

def fromL (l : List UInt8) : Int := l.foldl hexStep 0

theorem hexStep_stick (c : UInt8) : hexStep (-1) c = -1 := by simp [hexStep]

theorem fold_stick (l : List UInt8) : l.foldl hexStep (-1) = -1 := by
 induction l with
 | nil => rfl
 | cons c r ih => rw [List.foldl_cons, hexStep_stick, ih]

theorem fromL_snoc (l : List UInt8) (c : UInt8) : fromL (l ++ [c]) = hexStep (fromL l) c := by
 unfold fromL; rw [List.foldl_append]; rfl

theorem fromL_take (s : ByteArray) (k : Nat) (h : k < s.size) : fromL (s.data.toList.take (k + 1)) = hexStep (fromL (s.data.toList.take k)) s[k] := by
 rw [take_snoc s k h, fromL_snoc]

theorem fold_hex_bd (l : List UInt8) (m : Nat) (n : Int) (h0 : -1 ≤ n) (h1 : n < 16 ^ m) : -1 ≤ l.foldl hexStep n ∧ l.foldl hexStep n < 16 ^ (m + l.length) := by
 induction l generalizing n m with
 | nil => exact ⟨h0, h1⟩
 | cons c r ih =>
  have hb := hv_bd c
  have e : (16 : Int) ^ (m + 1) = 16 * 16 ^ m := by rw [Int.pow_succ]; omega
  have hp : (0 : Int) < 16 ^ m := Int.pow_pos (by decide)
  have hs : -1 ≤ hexStep n c ∧ hexStep n c < 16 ^ (m + 1) := by
   unfold hexStep
   split
   ·
    omega
   ·
    rw [e]; omega
  have h := ih (m + 1) (hexStep n c) hs.1 hs.2
  rw [List.foldl_cons, List.length_cons, show m + (r.length + 1) = m + 1 + r.length by omega]
  exact h

theorem fromL_bd (l : List UInt8) : -1 ≤ fromL l ∧ fromL l < 16 ^ l.length := by
 have h := fold_hex_bd l 0 0 (by decide) (by decide)
 rw [Nat.zero_add] at h
 exact h

theorem fromL_le (l : List UInt8) (h : l.length ≤ 8) : -1 ≤ fromL l ∧ fromL l ≤ 4294967295 := by
 have hb := fromL_bd l
 have hn : 16 ^ l.length ≤ 16 ^ 8 := Nat.pow_le_pow_right (by decide) h
 have : (16 : Int) ^ l.length ≤ 16 ^ 8 := by exact_mod_cast hn
 omega

theorem fromL_stuck (s : ByteArray) (k : Nat) (h1 : fromL (s.data.toList.take k) = -1) : fromL s.data.toList = -1 := by
 have e : s.data.toList = s.data.toList.take k ++ s.data.toList.drop k := (List.take_append_drop k _).symm
 rw [e]; unfold fromL at *; rw [List.foldl_append, h1, fold_stick]

/-- The number that eight signs are, and whether they are any. -/
def fromB (l : List UInt8) : Bool := decide (l.length = 8 ∧ fromL l ≠ -1)
def fromN (l : List UInt8) : Int := if l.length = 8 ∧ fromL l ≠ -1 then fromL l else 0

theorem from_no (l : List UInt8) (h : l.length ≠ 8 ∨ fromL l = -1) : fromB l = false ∧ fromN l = 0 := by
 unfold fromB fromN
 have : ¬ (l.length = 8 ∧ fromL l ≠ -1) := by rcases h with h | h <;> simp [h]
 rw [if_neg this]; simp [this]

theorem from_yes (l : List UInt8) (h : l.length = 8) (h1 : fromL l ≠ -1) : fromB l = true ∧ fromN l = fromL l := by
 unfold fromB fromN
 have : l.length = 8 ∧ fromL l ≠ -1 := ⟨h, h1⟩
 rw [if_pos this]; simp [this]


end Go.Proofs.YtaidhjjpdkkmcaaGreatDoor

/-! Plain facts for FnHashes: one byte turned into another gives another hash. -/
namespace Go.Proofs.YtaidhjjpdkkmcaaGreatDoor

end Go.Proofs.YtaidhjjpdkkmcaaGreatDoor

/-! Plain facts for FnHex: eight signs are read as the number that they were made of, and what is read is made again. -/
namespace Go.Proofs.YtaidhjjpdkkmcaaGreatDoor

theorem hexD_hvN : ∀ n : Nat, n < 256 → hvN n = -1 ∨ hexD (hvN n).toNat = UInt8.ofNat n := by decide +kernel

theorem hexD_hv (c : UInt8) (h : 0 ≤ hv c) : hexD (hv c).toNat = c := by
 rcases hexD_hvN c.toNat c.toNat_lt with e | e
 ·
  unfold hv at h; omega
 ·
  unfold hv; rw [e]; simp

theorem hexStep_inv (n : Int) (c : UInt8) (h : hexStep n c ≠ -1) : n ≠ -1 ∧ 0 ≤ hv c ∧ hexStep n c = 16 * n + hv c := by
 unfold hexStep at h ⊢
 split at h
 ·
  exact absurd rfl h
 ·
  rename_i hc
  rw [if_neg hc]
  exact ⟨fun e => hc (Or.inl e), by omega, rfl⟩

theorem hexL_from (l : List UInt8) (h8 : l.length = 8) (h : fromL l ≠ -1) : hexL (fromL l).toNat = l ∧ 0 ≤ fromL l ∧ fromL l ≤ 4294967295 := by
 match l, h8 with
 | [a, b, c, d, e, f, g, i], _ =>
  unfold fromL at h ⊢
  simp only [List.foldl_cons, List.foldl_nil] at h ⊢
  obtain ⟨h7, v7, e7⟩ := hexStep_inv _ _ h
  obtain ⟨h6, v6, e6⟩ := hexStep_inv _ _ h7
  obtain ⟨h5, v5, e5⟩ := hexStep_inv _ _ h6
  obtain ⟨h4, v4, e4⟩ := hexStep_inv _ _ h5
  obtain ⟨h3, v3, e3⟩ := hexStep_inv _ _ h4
  obtain ⟨h2, v2, e2⟩ := hexStep_inv _ _ h3
  obtain ⟨h1, v1, e1⟩ := hexStep_inv _ _ h2
  obtain ⟨_, v0, e0⟩ := hexStep_inv _ _ h1
  rw [e7, e6, e5, e4, e3, e2, e1, e0]
  have b0 := (hv_bd a).2
  have b1 := (hv_bd b).2
  have b2 := (hv_bd c).2
  have b3 := (hv_bd d).2
  have b4 := (hv_bd e).2
  have b5 := (hv_bd f).2
  have b6 := (hv_bd g).2
  have b7 := (hv_bd i).2
  have k0 := hexD_hv a v0
  have k1 := hexD_hv b v1
  have k2 := hexD_hv c v2
  have k3 := hexD_hv d v3
  have k4 := hexD_hv e v4
  have k5 := hexD_hv f v5
  have k6 := hexD_hv g v6
  have k7 := hexD_hv i v7
  clear h h1 h2 h3 h4 h5 h6 h7 e0 e1 e2 e3 e4 e5 e6 e7
  refine ⟨?_, by omega, by omega⟩
  generalize hv a = x0 at *
  generalize hv b = x1 at *
  generalize hv c = x2 at *
  generalize hv d = x3 at *
  generalize hv e = x4 at *
  generalize hv f = x5 at *
  generalize hv g = x6 at *
  generalize hv i = x7 at *
  obtain ⟨y0, rfl⟩ := Int.eq_ofNat_of_zero_le v0
  obtain ⟨y1, rfl⟩ := Int.eq_ofNat_of_zero_le v1
  obtain ⟨y2, rfl⟩ := Int.eq_ofNat_of_zero_le v2
  obtain ⟨y3, rfl⟩ := Int.eq_ofNat_of_zero_le v3
  obtain ⟨y4, rfl⟩ := Int.eq_ofNat_of_zero_le v4
  obtain ⟨y5, rfl⟩ := Int.eq_ofNat_of_zero_le v5
  obtain ⟨y6, rfl⟩ := Int.eq_ofNat_of_zero_le v6
  obtain ⟨y7, rfl⟩ := Int.eq_ofNat_of_zero_le v7
  have e : (16 * (16 * (16 * (16 * (16 * (16 * (16 * (16 * (0 : Int) + y0) + y1) + y2) + y3) + y4) + y5) + y6) + y7).toNat = 16 * (16 * (16 * (16 * (16 * (16 * (16 * y0 + y1) + y2) + y3) + y4) + y5) + y6) + y7 := by omega
  rw [e]
  unfold hexL
  simp only [Int.toNat_natCast] at k0 k1 k2 k3 k4 k5 k6 k7
  generalize hN : 16 * (16 * (16 * (16 * (16 * (16 * (16 * y0 + y1) + y2) + y3) + y4) + y5) + y6) + y7 = N
  rw [show N / 268435456 % 16 = y0 by omega, show N / 16777216 % 16 = y1 by omega, show N / 1048576 % 16 = y2 by omega, show N / 65536 % 16 = y3 by omega, show N / 4096 % 16 = y4 by omega, show N / 256 % 16 = y5 by omega, show N / 16 % 16 = y6 by omega, show N % 16 = y7 by omega]
  rw [k0, k1, k2, k3, k4, k5, k6, k7]

/-- What is read is made again. -/
theorem hexS_from (l : List UInt8) (h : fromB l = true) : hexS (fromN l) = l := by
 have hp : l.length = 8 ∧ fromL l ≠ -1 := of_decide_eq_true h
 have h2 := hexL_from l hp.1 hp.2
 rw [(from_yes l hp.1 hp.2).2, hexS_yes _ h2.2.1 h2.2.2]
 exact h2.1

end Go.Proofs.YtaidhjjpdkkmcaaGreatDoor

/-! Plain facts for chapter 2 (frames): what a frame is, and what is read of one. -/
namespace Go.Proofs.YtaidhjjpdkkmcaaGreatDoor

def framedL (l : List UInt8) : List UInt8 := hexL l.length ++ hexL (hashL l).toNat ++ l
def framedS (l : List UInt8) : List UInt8 := if l.length ≤ 20000 then framedL l else []
theorem framedS_yes (l : List UInt8) (h : l.length ≤ 20000) : framedS l = framedL l := if_pos h
theorem framedS_no (l : List UInt8) (h : 20000 < l.length) : framedS l = [] := if_neg (by omega)

/-- The first frame of a text: is there one? -/
def firstB (l : List UInt8) : Bool :=
 decide (16 ≤ l.length ∧ fromB (l.take 8) = true ∧ fromB ((l.drop 8).take 8) = true ∧ fromN (l.take 8) ≤ 20000 ∧ 16 + fromN (l.take 8) ≤ (l.length : Int) ∧
  hashL ((l.drop 16).take (fromN (l.take 8)).toNat) = fromN ((l.drop 8).take 8))
def firstT (l : List UInt8) : List UInt8 := if firstB l = true then (l.drop 16).take (fromN (l.take 8)).toNat else []
def firstN (l : List UInt8) : Int := if firstB l = true then 16 + fromN (l.take 8) else 0

theorem firstB_no (l : List UInt8) (h : ¬ (16 ≤ l.length ∧ fromB (l.take 8) = true ∧ fromB ((l.drop 8).take 8) = true ∧ fromN (l.take 8) ≤ 20000 ∧ 16 + fromN (l.take 8) ≤ (l.length : Int) ∧
 hashL ((l.drop 16).take (fromN (l.take 8)).toNat) = fromN ((l.drop 8).take 8))) : firstT l = [] ∧ firstN l = 0 ∧ firstB l = false := by
 have hb : firstB l = false := decide_eq_false h
 unfold firstT firstN
 rw [hb]; simp

theorem firstB_yes (l : List UInt8) (h : 16 ≤ l.length ∧ fromB (l.take 8) = true ∧ fromB ((l.drop 8).take 8) = true ∧ fromN (l.take 8) ≤ 20000 ∧ 16 + fromN (l.take 8) ≤ (l.length : Int) ∧
 hashL ((l.drop 16).take (fromN (l.take 8)).toNat) = fromN ((l.drop 8).take 8)) : firstT l = (l.drop 16).take (fromN (l.take 8)).toNat ∧ firstN l = 16 + fromN (l.take 8) ∧ firstB l = true := by
 have hb : firstB l = true := decide_eq_true h
 unfold firstT firstN
 rw [hb]; simp

theorem fromN_bd (l : List UInt8) : 0 ≤ fromN l ∧ fromN l ≤ 4294967295 := by
 unfold fromN
 split
 ·
  rename_i h
  have := fromL_le l (by omega)
  omega
 ·
  omega

def unframedB (l : List UInt8) : Bool := firstB l && decide (firstN l = (l.length : Int))
def unframedT (l : List UInt8) : List UInt8 := if unframedB l = true then firstT l else []

/-! The walk's own spellings. -/
end Go.Proofs.YtaidhjjpdkkmcaaGreatDoor

/-! Plain facts for FnFrames: what is framed is read as its text; cut, or with one byte turned, it is no frame. -/
namespace Go.Proofs.YtaidhjjpdkkmcaaGreatDoor

theorem hexL_len (n : Nat) : (hexL n).length = 8 := rfl
theorem framedL_len (l : List UInt8) : (framedL l).length = 16 + l.length := by
 unfold framedL; rw [List.length_append, List.length_append, hexL_len, hexL_len]

/-- What is read is a frame of its text. -/
theorem first_is (t : List UInt8) (h : firstB t = true) : (firstT t).length ≤ 20000 ∧ firstN t = 16 + ((firstT t).length : Int) ∧ t = framedL (firstT t) ++ t.drop (16 + (firstT t).length) := by
 have hp := of_decide_eq_true h
 have hy := firstB_yes t hp
 obtain ⟨h16, b1, b2, hn, hle, hh⟩ := hp
 have nb := fromN_bd (t.take 8)
 have e1 := hexS_from _ b1
 have e2 := hexS_from _ b2
 rw [hexS_yes _ nb.1 nb.2] at e1
 have hb := fromN_bd ((t.drop 8).take 8)
 rw [hexS_yes _ hb.1 hb.2] at e2
 obtain ⟨k, hk⟩ := Int.eq_ofNat_of_zero_le nb.1
 rw [hk] at e1 hn hle hh
 have hyT := hy.1
 have hyN := hy.2.1
 rw [hk] at hyT hyN
 rw [Int.toNat_natCast] at hyT e1 hh
 have hlen : (firstT t).length = k := by rw [hyT, List.length_take, List.length_drop]; omega
 refine ⟨by omega, by rw [hyN, hlen], ?_⟩
 have e3 : t = t.take 8 ++ ((t.drop 8).take 8 ++ ((t.drop 16).take k ++ t.drop (16 + k))) := by
  have d16 : t.drop 16 = (t.drop 8).drop 8 := by rw [List.drop_drop]
  have dk : t.drop (16 + k) = (t.drop 16).drop k := by rw [List.drop_drop]
  rw [dk, List.take_append_drop, d16, List.take_append_drop, List.take_append_drop]
 have hh2 : (hashL (firstT t)).toNat = (fromN ((t.drop 8).take 8)).toNat := by rw [hyT, hh]
 unfold framedL
 rw [hlen, hh2, e1, e2, hyT, List.append_assoc, List.append_assoc]
 exact e3

end Go.Proofs.YtaidhjjpdkkmcaaGreatDoor

/-! Plain facts of chapter 18: tasks, desks, what is done to them. -/
namespace Go.Proofs.YtaidhjjpdkkmcaaGreatDoor
open Go.RowKit

/-! A task: name, needs, state, worker, until, key. A desk: tasks, epoch, now, journal. -/
abbrev Ta := List UInt8 × List Int × Int × Int × Int × Int
abbrev Dk := List Ta × Int × Int × List UInt8
def ta0 : Ta := ([], [], 0, 0, 0, 0)
def dk0 : Dk := ([], 0, 0, [])
def key18 (k : Int) : Bool := inB k 0 2147483646
def need18 (own : Int) (ns : List Int) (i : Nat) : Prop := 0 ≤ ns.getD i 0 ∧ ns.getD i 0 < own ∧ (0 < i → ns.getD (i - 1) 0 < ns.getD i 0)
instance (own : Int) (ns : List Int) (i : Nat) : Decidable (need18 own ns i) := by unfold need18; infer_instance
def needsB (own : Int) (ns : List Int) : Bool := decide (∀ i, i < ns.length → need18 own ns i)
def stateB (t : Ta) : Bool :=
 if t.2.2.1 = 0 then decide (t.2.2.2.1 = 0 ∧ t.2.2.2.2.1 = 0 ∧ t.2.2.2.2.2 = 0)
 else if t.2.2.1 = 1 then inB t.2.2.2.1 0 3 && inB t.2.2.2.2.1 0 1000000 && decide (t.2.2.2.2.2 = 0)
 else if t.2.2.1 = 2 then decide (t.2.2.2.1 = 0 ∧ t.2.2.2.2.1 = 0) && key18 t.2.2.2.2.2
 else false
def taskB (own : Int) (t : Ta) : Bool := needsB own t.2.1 && stateB t
def one18 (ts : List Ta) (i : Nat) : Prop := nameB (ts.getD i ta0).1 = true ∧ taskB (i : Int) (ts.getD i ta0) = true ∧ ∀ k, k < i → (ts.getD k ta0).1 ≠ (ts.getD i ta0).1
instance (ts : List Ta) (i : Nat) : Decidable (one18 ts i) := by unfold one18; infer_instance
def deskB (d : Dk) : Bool := decide (1 ≤ d.1.length ∧ d.1.length ≤ 8) && inB d.2.1 1 1000 && inB d.2.2.1 0 1000000 && decide (d.2.2.2.length ≤ 60000) && decide (∀ i, i < d.1.length → one18 d.1 i)

structure DeskP (d : Dk) : Prop where
 n : 1 ≤ d.1.length ∧ d.1.length ≤ 8
 e : 1 ≤ d.2.1 ∧ d.2.1 ≤ 1000
 t : 0 ≤ d.2.2.1 ∧ d.2.2.1 ≤ 1000000
 j : d.2.2.2.length ≤ 60000
 one : ∀ i, i < d.1.length → one18 d.1 i
theorem deskB_iff {d : Dk} : deskB d = true ↔ DeskP d := by
 unfold deskB inB
 simp only [Bool.and_eq_true, decide_eq_true_eq]
 exact ⟨fun ⟨⟨⟨⟨h1, h2⟩, h3⟩, h4⟩, h5⟩ => ⟨h1, h2, h3, h4, h5⟩, fun h => ⟨⟨⟨⟨h.n, h.e⟩, h.t⟩, h.j⟩, h.one⟩⟩
theorem needsB_no {own : Int} {ns : List Int} {i : Nat} (hi : i < ns.length) (h : ¬ need18 own ns i) : needsB own ns = false := decide_eq_false (fun e => h (e i hi))
theorem needsB_yes {own : Int} {ns : List Int} (h : ∀ i, i < ns.length → need18 own ns i) : needsB own ns = true := decide_eq_true h

/-! Are all needs of a task done? -/
def free18 (ts : List Ta) (t : Ta) : Bool := decide (∀ i, i < t.2.1.length → (ts.getD (t.2.1.getD i 0).toNat ta0).2.2.1 = 2)
theorem free18_no {ts : List Ta} {t : Ta} {i : Nat} (hi : i < t.2.1.length) (h : (ts.getD (t.2.1.getD i 0).toNat ta0).2.2.1 ≠ 2) : free18 ts t = false := decide_eq_false (fun e => h (e i hi))
theorem free18_yes {ts : List Ta} {t : Ta} (h : ∀ i, i < t.2.1.length → (ts.getD (t.2.1.getD i 0).toNat ta0).2.2.1 = 2) : free18 ts t = true := decide_eq_true h

/-! Lent: the first that can be. -/
def can18 (d : Dk) (i : Nat) : Prop := (d.1.getD i ta0).2.2.1 ≠ 2 ∧ free18 d.1 (d.1.getD i ta0) = true ∧ ¬ ((d.1.getD i ta0).2.2.1 = 1 ∧ d.2.2.1 < (d.1.getD i ta0).2.2.2.2.1)
instance (d : Dk) (i : Nat) : Decidable (can18 d i) := by unfold can18; infer_instance
def lendGo (d : Dk) : Nat → Nat → Option Nat
 | 0, _ => none
 | k + 1, i => if can18 d i then some i else lendGo d k (i + 1)
def lendAt (d : Dk) : Option Nat := lendGo d d.1.length 0
def leased18 (d : Dk) (worker : Int) (t : Ta) : Ta := (t.1, t.2.1, 1, worker, (if d.2.2.1 + 10 ≤ 1000000 then d.2.2.1 + 10 else 1000000), t.2.2.2.2.2)
def lend18 (d : Dk) (worker : Int) : Dk × Int :=
 if inB worker 0 3 = true then
  match lendAt d with
  | some i => ((d.1.set i (leased18 d worker (d.1.getD i ta0)), d.2), (i : Int))
  | none => (d, -1)
 else (d, -1)
def lentV (d : Dk) (worker : Int) : Dk × Int := if deskB d = true then lend18 d worker else (dk0, -1)
/-! Ticked, AllDone. -/
def tickedV (d : Dk) (n : Int) : Dk × Bool := if deskB d = true then (if inB n 0 (1000000 - d.2.2.1) = true then ((d.1, d.2.1, d.2.2.1 + n, d.2.2.2), true) else (d, false)) else (dk0, false)
def doneD (d : Dk) : Bool := decide (∀ i, i < d.1.length → (d.1.getD i ta0).2.2.1 = 2)
def allDoneV (d : Dk) : Bool := deskB d && doneD d

/-! A right desk stays right. -/
theorem getD_set18 (ts : List Ta) (i k : Nat) (t : Ta) (hi : i < ts.length) : (ts.set i t).getD k ta0 = if k = i then t else ts.getD k ta0 := by
 simp only [List.getD_eq_getElem?_getD, List.getElem?_set]
 by_cases h : i = k
 ·
  subst h; simp [hi]
 ·
  rw [if_neg h, if_neg (fun e => h e.symm)]
end Go.Proofs.YtaidhjjpdkkmcaaGreatDoor

/-! Plain facts of chapter 8: what FnOrder and FnReaches test. -/
namespace Go.Proofs.YtaidhjjpdkkmcaaGreatDoor
open Go.RowKit

/-- A package is in the order just where what it needs stands ahead of it. -/
theorem order8_law {ps : List Pk} (h : projB ps = true) {p : Pk} (hp : p ∈ ps) : p.1 ∈ order8 ps ↔ ∀ m ∈ p.2.1, m ∈ names8 ps → m ∈ (order8 ps).takeWhile (fun x => decide (x ≠ p.1)) := by
 obtain ⟨ho, hn⟩ := order8_end h
 refine ⟨fun h1 => ho.need p hp h1, fun h1 => ?_⟩
 rcases Decidable.em (p.1 ∈ order8 ps) with h2 | h2
 ·
  exact h2
 ·
  rw [takeW_no h2] at h1
  exact absurd ⟨h2, h1⟩ (next8_none hn p hp)
/-- What FnReaches looks for in the answer. -/
def Seed8 (ps : List Pk) (o : List (List UInt8)) (s x : List UInt8) : Prop := x = s ∨ ∃ p ∈ ps, p.1 ∈ o ∧ x ∈ p.2.1 ∧ x ∈ names8 ps
end Go.Proofs.YtaidhjjpdkkmcaaGreatDoor
