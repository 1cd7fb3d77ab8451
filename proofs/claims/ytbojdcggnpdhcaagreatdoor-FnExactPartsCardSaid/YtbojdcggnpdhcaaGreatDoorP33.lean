/-
  Parts of one proof, one behind the other: ProjI, PrtS, PrtI.
-/
import Derived.Test.YtbojdcggnpdhcaaGreatDoorP32
import Derived.Test.YtbojdcggnpdhcaaGreatDoorP30
import Derived.Test.YtbojdcggnpdhcaaGreatDoorP26
import Derived.Test.YtbojdcggnpdhcaaGreatDoorP27
import Derived.Test.YtbojdcggnpdhcaaGreatDoorP11
import Derived.Test.YtbojdcggnpdhcaaGreatDoorP7
import Derived.Laws.StructEq
import Derived.Test.YtbojdcggnpdhcaaGreatDoorP18

/-! The contracts of the landed code of chapter 8: ProjectOk, Order, Reaches, Needs. -/
namespace Go.Proofs.YtbojdcggnpdhcaaGreatDoor
open Go.RowKit

theorem lit_none (w : World) : (w.alloc (.cells #[] 9)).ownsRow w.heap.size 9 1 (.slice (some ⟨w.heap.size, 0, none⟩) 0 0) 0 (strV []) ∧ Below w.heap.size w (w.alloc (.cells #[] 9)) :=
  ⟨World.ownsRow_lit (base := w.heap.size) (e := 9) (size := 1) w #[] 0 (Nat.le_refl _) (by decide) rfl, (Below.refl _ _).alloc (Nat.le_refl _) _⟩

theorem here_cases (ps : List Pk) (s : List UInt8) : ((if projB ps = true then at8 ps s else -1) = -1 ∧ hereB ps s = false) ∨ ∃ f, f < ps.length ∧ (if projB ps = true then at8 ps s else -1) = (f : Int) ∧ projB ps = true ∧ s = nmAt ps f ∧ hereB ps s = true := by
  unfold hereB
  rcases hp : projB ps with _ | _
  · exact Or.inl ⟨by simp, rfl⟩
  · rw [if_pos rfl]
    rcases at8_is ps s with ⟨e, _⟩ | ⟨f, hf, e, hn, _⟩
    · exact Or.inl ⟨e, by rw [e]; rfl⟩
    · exact Or.inr ⟨f, hf, e, rfl, hn.symm, by rw [e]; simp⟩



theorem filt_take (out re : List Nat) (f k : Nat) (hk : k < out.length) : (out.take (k + 1)).filter (fun i => decide (i ≠ f ∧ i ∈ re)) = (out.take k).filter (fun i => decide (i ≠ f ∧ i ∈ re)) ++ if out.getD k 0 ≠ f ∧ out.getD k 0 ∈ re then [out.getD k 0] else [] := by
  have e : out.getD k 0 = out[k] := by simp [List.getD, hk]
  rw [List.take_succ_eq_append_getElem hk, List.filter_append, e]
  by_cases h : out[k] ≠ f ∧ out[k] ∈ re
  · rw [if_pos h]; simp [h]
  · rw [if_neg h]; simp [h]
set_option maxHeartbeats 4000000 in
set_option maxRecDepth 100000 in
theorem implNeeds (a : Option Addr) (len cap : Nat) (ps : List Pk) (s : List UInt8) (w : World) (h : PkgsOk w a len cap ps) (_hs : s.length ≤ 1048576) :
    Calls Tryz.prog 18 #[.slice a len cap, .string ⟨s.toArray⟩] w fun e w' => ∃ v, e = .returned v ∧ w'.ownsRow w.heap.size 9 1 v (needV ps s).length (strV (needV ps s)) ∧ Below w.heap.size w w' := by
  have HP : Hid (_) := implPlaceIn a len cap ps s w h
  have HI : Hid (PkgsOk w a len cap ps) := h
  rcases here_cases ps s with ⟨hp, hv⟩ | ⟨f, hf, hp, hpj, hns, hv⟩
  · have HE : Hid (needV ps s = []) := by exact (by unfold needV; rw [if_neg (by rw [hv]; simp)] : needV ps s = [])
    rw [hp] at HP
    clear h hv hp
    go_enter Tryz.func18, Tryz.ntmps18
    go_wp2_with (go_at_call 33; refine Calls.mono HP.out ?_; rintro e w1 ⟨rfl, hb1⟩; have HB1 : Hid (Below w.heap.size w w1) := hb1; clear hb1)
    go_ret
    obtain ⟨h1, h2⟩ := lit_none w1
    exact ⟨_, rfl, by rw [HE.out]; exact own_base h1 HB1.out.size, HB1.out.trans (h2.mono HB1.out.size)⟩
  · have HE : Hid (needV ps s = need8 ps (nmAt ps f)) := by exact (by unfold needV; rw [if_pos hv, hns] : needV ps s = need8 ps (nmAt ps f))
    rw [hp] at HP
    have hfl : f < len := by rw [← h.hlen]; exact hf
    have hl8 : ps.length ≤ 8 := (projB_parts hpj).2.1.2
    have hfz : ¬ (f : Int) = -1 := by omega
    have hfb : ((f : Int) == -1) = false := beq_eq_false_iff_ne.2 hfz
    clear h hv hp hns
    go_enter Tryz.func18, Tryz.ntmps18
    go_wp2_with fail
    refine Calls.mono HP.out ?_
    rintro e w1 ⟨rfl, hb1⟩
    have HB1 : Hid (Below w.heap.size w w1) := hb1
    have HI1 : Hid (PkgsOk w1 a len cap ps) := HI.out.below hb1
    clear hb1 HP
    go_wp2_with fail
    refine (implPlacesReached a len cap ps f w1 HI1.out hpj hfl).mono ?_
    rintro e w2 ⟨v, rfl, re, ho, hrp, hrt, hb2⟩
    have hrl := hrp.len
    obtain ⟨ra, rc, rfl, _⟩ := own_nats ho rfl
    have HB2 : Hid (Below w.heap.size w w2) := HB1.out.trans (hb2.mono HB1.out.size)
    have HRp : Hid (Rp8 ps f re ∧ RpTo ps re re.length) := ⟨hrp, hrt⟩
    have HO2 : Hid (w2.ownsRow w.heap.size 3 1 (.slice ra re.length rc) re.length (natV re)) := own_base ho HB1.out.size
    have hbA : Below w2.heap.size w2 (w2.alloc (.cells #[] 3)) := (Below.refl _ _).alloc (Nat.le_refl _) _
    have hN0 : (w2.alloc (.cells #[] 3)).ownsRow w.heap.size 3 1 (.slice (some ⟨w2.heap.size, 0, none⟩) 0 0) 0 (natV []) := World.ownsRow_lit (base := w.heap.size) (e := 3) (size := 1) w2 #[] 0 HB2.out.size (by decide) rfl
    have HBA : Hid (Below w.heap.size w (w2.alloc (.cells #[] 3))) := HB2.out.trans (hbA.mono HB2.out.size)
    have HOA : Hid ((w2.alloc (.cells #[] 3)).ownsRow w.heap.size 3 1 (.slice ra re.length rc) re.length (natV re)) := own_below HO2.out hbA
    have HNA : Hid ((w2.alloc (.cells #[] 3)).ownsRow w.heap.size 3 1 (.slice (some ⟨w2.heap.size, 0, none⟩) 0 0) 0 (natV [])) := hN0
    have HRl : Hid (∀ k, (Value.slice ra re.length rc).ownBlock = some k → k < w2.heap.size) := fun k e => (HO2.out.lt k e).2
    have HIO : Hid (_) := implPlacesInOrder a len cap ps (w2.alloc (.cells #[] 3)) (HI.out.below HBA.out) hpj
    clear ho hrp hrt hb2 hbA hN0 hpj
    go_wp2_with fail
    refine Calls.mono HIO.out ?_
    rintro e w3 ⟨v3, rfl, out, ho3, hoo, hlt, hol, hb3⟩
    obtain ⟨oa, oc, rfl, _⟩ := own_nats ho3 rfl
    have HB3 : Hid (Below w.heap.size w w3) := HBA.out.trans (hb3.mono HBA.out.size)
    have HNd : Hid (nmsAt ps (out.filter (fun i => decide (i ≠ f ∧ i ∈ re))) = need8 ps (nmAt ps f)) := need_places HRp.out.1 HRp.out.2 hoo (fun x hx => by rw [HI.out.hlen]; exact hlt x hx)
    have HLt : Hid (∀ x ∈ out, x < len) := hlt
    have hsA : (w2.alloc (.cells #[] 3)).heap.size = w2.heap.size + 1 := by simp
    have HS0 : Hid (Ro3 w3 w.heap.size (.slice (some ⟨w2.heap.size, 0, none⟩) 0 0) (.slice ra re.length rc) (.slice oa out.length oc) ((out.take 0).filter (fun i => decide (i ≠ f ∧ i ∈ re))) re out) := ⟨own_below HNA.out hb3, own_below HOA.out hb3, own_base ho3 HBA.out.size, (fun k e e2 => by
      injection e with e
      have e' : w2.heap.size = k := e
      have := HRl.out k e2
      omega), (fun k e e2 => by
      injection e with e
      have e' : w2.heap.size = k := e
      have := (ho3.lt k e2).1
      omega)⟩
    clear HIO HNA HOA HBA HO2 ho3 hoo hlt hb3 hsA HRl
    go_wp2
    go_loopw [7, 23] (fun nv iv wr => ∃ (k m : Nat) (na : Option Addr) (nc : Nat) (ne : List Nat), nv = .slice na m nc ∧ iv = .int .i64 (k : Int) ∧ k ≤ out.length ∧ m ≤ k ∧ Hid (ne.length = m) ∧ Hid ((out.take k).filter (fun i => decide (i ≠ f ∧ i ∈ re)) = ne) ∧ Hid (Ro3 wr w.heap.size (.slice na m nc) (.slice ra re.length rc) (.slice oa out.length oc) ne re out) ∧ Hid (Below w.heap.size w wr)) (fun _ iv _ => out.length - (intOf iv).toNat)
    case atStart => exact ⟨0, 0, _, 0, [], rfl, rfl, by omega, by omega, rfl, rfl, HS0, HB3⟩
    case round =>
      obtain ⟨k, m, na, nc, ne, rfl, rfl, hk, hmk, HL, HF, HS, HB⟩ := hrel
      clear HS0 HB3
      by_cases hlt : (k : Int) < (out.length : Int)
      · have hk2 : k < out.length := by omega
        obtain ⟨oa', oc', he, hoin⟩ := own_nats HS.out.rt rfl
        injection he with e1 _ e3
        subst e1
        subst e3
        obtain ⟨ra', rc', he, hrin⟩ := own_nats HS.out.ru rfl
        injection he with e1 _ e3
        subst e1
        subst e3
        obtain ⟨b, off, rfl, _, d0⟩ := hoin.2 k hk2
        have hft := filt_take out re f k hk2
        rw [HF.out] at hft
        obtain ⟨z, hz⟩ : ∃ z, out.getD k 0 = z := ⟨_, rfl⟩
        rw [hz] at d0 hft
        have HC : Hid (_) := containsNat ra re.length rc re z wr hrin (by omega)
        clear hoin hrin hz
        by_cases hzf : z = f
        · subst hzf
          rw [if_neg (fun h => h.1 rfl), List.append_nil] at hft
          have HF2 : Hid ((out.take (k + 1)).filter (fun i => decide (i ≠ z ∧ i ∈ re)) = ne) := hft
          clear hft
          go_wp2
          go_roundw
          case rel => exact ⟨k + 1, m, na, nc, ne, rfl, by go_num, by omega, by omega, HL, HF2, HS, HB⟩
          case measure => simp [intOf]; omega
        · have hzz : ¬ (z : Int) = (f : Int) := by omega
          have hzb : ((z : Int) != (f : Int)) = true := by rw [bne_iff_ne]; exact hzz
          have hzb2 : ((z : Int) == (f : Int)) = false := beq_eq_false_iff_ne.2 hzz
          by_cases hin : z ∈ re
          · rw [decide_eq_true hin] at HC
            rw [if_pos ⟨hzf, hin⟩] at hft
            have HF2 : Hid ((out.take (k + 1)).filter (fun i => decide (i ≠ f ∧ i ∈ re)) = ne ++ [z]) := hft
            have HL2 : Hid ((ne ++ [z]).length = m + 1) := by exact (by rw [List.length_append, List.length_singleton, HL.out] : (ne ++ [z]).length = m + 1)
            obtain ⟨g', c', Y, hr, s2, hB2⟩ := HS.out.app HB.out.size (by rw [HL.out]; omega) z
            rw [HL.out] at hr s2
            have HSY : Hid (Ro3 Y w.heap.size (.slice (some ⟨g', 0, none⟩) (m + 1) c') (.slice ra re.length rc) (.slice (some ⟨b, off, none⟩) out.length oc) (ne ++ [z]) re out) := s2
            have HBY : Hid (Below w.heap.size w Y) := HB.out.trans hB2
            clear hin hft s2 hB2 hzf
            go_wp2_with (first | (go_at_call 36; refine Calls.mono HC.out ?_; rintro e w2 ⟨rfl, hw2⟩; obtain rfl := hw2.symm) | (at_builtin; refine wpList_append_run rfl (.tmp 35) (.tmp 37) 62 rfl _ _ _ rfl rfl hr ?_; clear hr))
            go_roundw
            case rel => exact ⟨k + 1, m + 1, _, c', ne ++ [z], rfl, by go_num, by omega, by omega, HL2, HF2, HSY, HBY⟩
            case measure => simp [intOf]; omega
          · rw [decide_eq_false hin] at HC
            rw [if_neg (fun h => hin h.2), List.append_nil] at hft
            have HF2 : Hid ((out.take (k + 1)).filter (fun i => decide (i ≠ f ∧ i ∈ re)) = ne) := hft
            clear hin hft hzf
            go_wp2_with (go_at_call 36; refine Calls.mono HC.out ?_; rintro e w2 ⟨rfl, hw2⟩; obtain rfl := hw2.symm)
            go_roundw
            case rel => exact ⟨k + 1, m, na, nc, ne, rfl, by go_num, by omega, by omega, HL, HF2, HS, HB⟩
            case measure => simp [intOf]; omega
      · obtain rfl : k = out.length := by omega
        have hne : out.filter (fun i => decide (i ≠ f ∧ i ∈ re)) = ne := by have := HF.out; rw [List.take_length] at this; exact this
        have hrv := HS.out.rv
        rw [HL.out] at hrv
        obtain ⟨na', nc', he, hnin⟩ := own_nats hrv HL.out
        injection he with e1 _ e3
        subst e1
        subst e3
        have hnd := HNd.out
        rw [hne, ← HE.out] at hnd
        have HN : Hid (_) := implNamesAt a len cap ps na m nc ne wr (HI.out.below HB.out) hnin (fun x hx => HLt.out x (by rw [← hne] at hx; exact (List.mem_filter.1 hx).1)) (by omega)
        rw [hnd] at HN
        clear hnd hne hrv hnin
        go_wp2_with fail
        refine Calls.mono HN.out ?_
        rintro e w4 ⟨v4, rfl, ho4, hb4⟩
        have HRr : Hid (w4.ownsRow w.heap.size 9 1 v4 (needV ps s).length (strV (needV ps s)) ∧ Below w.heap.size w w4) := ⟨own_base ho4 HB.out.size, HB.out.trans (hb4.mono HB.out.size)⟩
        clear ho4 hb4
        go_wp2
        go_ret
        exact ⟨_, rfl, HRr.out.1, HRr.out.2⟩

end Go.Proofs.YtbojdcggnpdhcaaGreatDoor

/-! The contract of chapter 17's specification: Parts. -/
namespace Go.Proofs.YtbojdcggnpdhcaaGreatDoor
open Go.RowKit

/-! What Parts answers. -/
def prtV (ps : List Pk) : List (List UInt8) := if (faultV ps).1 = 0 then need8 ps mainT ++ [mainT] else []
theorem prtV_ok {ps : List Pk} (h : (faultV ps).1 = 0) : prtV ps = need8 ps mainT ++ [mainT] ∧ projB ps = true ∧ hereB ps mainT = true ∧ mainT ∈ names8 ps := by
  obtain ⟨_, hp, _, _, _, hm, _⟩ := faultV_zero h
  refine ⟨if_pos h, hp, ?_, (at8_mem ps mainT).1 hm⟩
  unfold hereB
  rw [hp, decide_eq_true hm]
  rfl
theorem need8_len8 {ps : List Pk} (hp : projB ps = true) (s : List UInt8) : (need8 ps s).length ≤ 8 := by
  have h1 := (order8_end hp).1.len
  have h2 := (projB_parts hp).2.1
  have h3 : (need8 ps s).length ≤ (order8 ps).length := List.length_filter_le _ _
  omega
theorem prtV_len (ps : List Pk) : (prtV ps).length ≤ 9 := by
  unfold prtV
  split
  · rename_i h
    have := need8_len8 (prtV_ok h).2.1 mainT
    simp; omega
  · simp
theorem fault_ne17 (c : Int) (p g : List UInt8) (w : World) : (binOp .neq 38 (.agg #[.int .i64 c, .string ⟨p.toArray⟩, .string ⟨g.toArray⟩]) (.agg #[.int .i64 0, .string ⟨#[]⟩, .string ⟨#[]⟩])).run Tryz.prog w = .ok (.bool (decide (¬ (c = 0 ∧ p = [] ∧ g = [])))) w := by
  rw [run_neq_struct]
  simp [go_sem]
  by_cases h1 : c = 0
  · by_cases h2 : p = []
    · by_cases h3 : g = []
      · simp [h1, h2, h3]
      · simp [h1, h2, h3]
    · simp [h1, h2]
  · simp [h1]
/-- A row of one text behind a row of texts. -/
theorem flt_cases (z : Flt) (ps : List Pk) (h : faultV ps = z) : (¬ (z.1 = 0 ∧ z.2.1 = [] ∧ z.2.2 = []) ∧ prtV ps = []) ∨ (z = (0, [], []) ∧ (faultV ps).1 = 0) := by
  by_cases h0 : (faultV ps).1 = 0
  · exact Or.inr ⟨by rw [← h]; exact (faultV_zero h0).1, h0⟩
  · refine Or.inl ⟨fun e => h0 (by rw [h]; exact e.1), if_neg h0⟩
theorem lit_none17 (w : World) : (w.alloc (.cells #[] 9)).ownsRow w.heap.size 9 1 (.slice (some ⟨w.heap.size, 0, none⟩) 0 0) 0 (strV []) ∧ Below w.heap.size w (w.alloc (.cells #[] 9)) :=
  ⟨World.ownsRow_lit (base := w.heap.size) (e := 9) (size := 1) w #[] 0 (Nat.le_refl _) (by decide) rfl, (Below.refl _ _).alloc (Nat.le_refl _) _⟩

set_option maxHeartbeats 1000000 in
set_option maxRecDepth 100000 in
theorem specPrt17 (a : Option Addr) (len cap : Nat) (ps : List Pk) (w : World) (hin : PkgsIn w a len ps) (h0 : (faultV ps).1 = 0) :
    Calls Tryz.prog 15 #[.slice a len cap] w fun e w' => ∃ v, e = .returned v ∧ w'.ownsRow w.heap.size 9 1 v (prtV ps).length (strV (prtV ps)) ∧ Below w.heap.size w w' := by
  obtain ⟨hV, hp, _, hm⟩ := prtV_ok h0
  have hl := need8_len8 hp mainT
  have HN : Hid (_) := specNeed8 a len cap ps mainT w hin hp hm
  rw [hV]
  obtain ⟨ls, hls⟩ : ∃ ls, need8 ps mainT = ls := ⟨_, rfl⟩
  rw [hls] at HN hl ⊢
  rw [List.length_append, List.length_singleton]
  clear hin h0 hp hm hV hls
  go_enter Tryz.func15, Tryz.ntmps15
  go_wp2_with fail
  refine Calls.mono HN.out ?_
  rintro e w1 ⟨v, rfl, ho, hb1⟩
  obtain ⟨v', Y, hr, hoY, hgY⟩ := push_text mainT ho hb1.size (by omega)
  have HB : Hid (Below w.heap.size w Y) := hb1.grown hgY hb1.size (fun k e => (ho.lt k e).1)
  have HO : Hid (Y.ownsRow w.heap.size 9 1 v' (ls.length + 1) (strV (ls ++ [mainT]))) := hoY
  clear hgY hoY ho hb1 HN
  unfold mainT at hr
  go_wp2_with (at_builtin; refine wpList_append_run rfl _ _ 24 rfl _ _ _ rfl rfl hr ?_)
  go_ret
  exact ⟨_, rfl, HO.out, HB.out⟩

set_option maxHeartbeats 1000000 in
set_option maxRecDepth 100000 in
theorem specPrt (a : Option Addr) (len cap : Nat) (ps : List Pk) (w : World) (hin : PkgsIn w a len ps) (hlen : len ≤ 1048576) (hsh : ShortPs ps) :
    Calls Tryz.prog 5 #[.slice a len cap] w fun e w' => ∃ v, e = .returned v ∧ w'.ownsRow w.heap.size 9 1 v (prtV ps).length (strV (prtV ps)) ∧ Below w.heap.size w w' := by
  have HF : Hid (_) := specFaultOf a len cap ps w hin hlen hsh
  have HI : Hid (PkgsIn w a len ps) := hin
  obtain ⟨z, hz⟩ : ∃ z, faultV ps = z := ⟨_, rfl⟩
  have hzc := flt_cases z ps hz
  rw [hz] at HF
  obtain ⟨c, p, g⟩ := z
  unfold fltVal at HF
  simp only at HF hzc
  have HNe : Hid (_) := fault_ne17 c p g
  clear hin hsh
  rcases hzc with ⟨hno, hv⟩ | ⟨he, h0⟩
  · have HV : Hid (prtV ps = []) := hv
    clear hz hv
    go_enter Tryz.func5, Tryz.ntmps5
    go_wp2_with fail
    refine Calls.mono HF.out ?_
    rintro e w1 ⟨rfl, hb1⟩
    have hne := HNe.out w1
    rw [decide_eq_true hno] at hne
    have HB : Hid (Below w.heap.size w w1) := hb1
    have HNo : Hid (¬ (c = 0 ∧ p = [] ∧ g = [])) := hno
    clear hb1 HF HNe hno
    go_wp2
    all_goals first
      | (go_ret; obtain ⟨h1, h2⟩ := lit_none17 w1; exact ⟨_, rfl, by rw [HV.out]; exact own_base h1 HB.out.size, HB.out.trans (h2.mono HB.out.size)⟩)
      | (exfalso; have h := HNo.out; simp_all; done)
  · have H0 : Hid ((faultV ps).1 = 0) := h0
    simp only [Prod.mk.injEq] at he
    obtain ⟨rfl, rfl, rfl⟩ := he
    clear hz h0
    go_enter Tryz.func5, Tryz.ntmps5
    go_wp2_with fail
    refine Calls.mono HF.out ?_
    rintro e w1 ⟨rfl, hb1⟩
    have hne := HNe.out w1
    rw [decide_eq_false (by simp)] at hne
    have HB : Hid (Below w.heap.size w w1) := hb1
    have HC : Hid (_) := specPrt17 a len cap ps w1 (HI.out.below hb1) H0.out
    clear hb1 HF HNe
    go_wp2_with (go_at_call 15; refine Calls.mono HC.out ?_; rintro e w2 ⟨v, rfl, ho, hb2⟩; have HO : Hid (w2.ownsRow w.heap.size 9 1 v (prtV ps).length (strV (prtV ps)) ∧ Below w.heap.size w w2) := ⟨own_base ho HB.out.size, HB.out.trans (hb2.mono HB.out.size)⟩; clear ho hb2)
    go_ret
    exact ⟨_, rfl, HO.out.1, HO.out.2⟩

end Go.Proofs.YtbojdcggnpdhcaaGreatDoor

/-! The contract of chapter 17's landed code: Parts. -/
namespace Go.Proofs.YtbojdcggnpdhcaaGreatDoor
open Go.RowKit

set_option maxHeartbeats 1000000 in
set_option maxRecDepth 100000 in
theorem implPrt (a : Option Addr) (len cap : Nat) (ps : List Pk) (er : Nat → Addr) (w : World) (hE : Err8 w er) (h : PkgsOk w a len cap ps) :
    Calls Tryz.prog 7 #[.slice a len cap] w fun e w' => ∃ v, e = .returned v ∧ w'.ownsRow w.heap.size 9 1 v (prtV ps).length (strV (prtV ps)) ∧ Below w.heap.size w w' := by
  have HF : Hid (_) := implFaultOf a len cap ps er w hE h
  have HI : Hid (PkgsOk w a len cap ps) := h
  obtain ⟨z, hz⟩ : ∃ z, faultV ps = z := ⟨_, rfl⟩
  have hzc := flt_cases z ps hz
  rw [hz] at HF
  obtain ⟨c, p, g⟩ := z
  unfold fltVal at HF
  simp only at HF hzc
  have HNe : Hid (_) := fault_ne17 c p g
  clear h hE
  rcases hzc with ⟨hno, hv⟩ | ⟨he, h0⟩
  · have HV : Hid (prtV ps = []) := hv
    clear hz hv
    go_enter Tryz.func7, Tryz.ntmps7
    go_wp2_with fail
    refine Calls.mono HF.out ?_
    rintro e w1 ⟨rfl, hb1⟩
    have hne := HNe.out w1
    rw [decide_eq_true hno] at hne
    have HB : Hid (Below w.heap.size w w1) := hb1
    have HNo : Hid (¬ (c = 0 ∧ p = [] ∧ g = [])) := hno
    clear hb1 HF HNe hno
    go_wp2
    all_goals first
      | (go_ret; obtain ⟨h1, h2⟩ := lit_none17 w1; exact ⟨_, rfl, by rw [HV.out]; exact own_base h1 HB.out.size, HB.out.trans (h2.mono HB.out.size)⟩)
      | (exfalso; have h := HNo.out; simp_all; done)
  · obtain ⟨hV, hp, hhere, hm⟩ := prtV_ok h0
    have hl := need8_len8 hp mainT
    have hnv : needV ps mainT = need8 ps mainT := if_pos hhere
    have HN : Hid (∀ X, Below w.heap.size w X → Calls Tryz.prog 18 #[.slice a len cap, .string ⟨mainT.toArray⟩] X fun e w' => ∃ v, e = .returned v ∧ w'.ownsRow X.heap.size 9 1 v (need8 ps mainT).length (strV (need8 ps mainT)) ∧ Below X.heap.size X w') := fun X hb => by
      have := implNeeds a len cap ps mainT X (HI.out.below hb) (by decide)
      rw [hnv] at this
      exact this
    rw [hV]
    obtain ⟨ls, hls⟩ : ∃ ls, need8 ps mainT = ls := ⟨_, rfl⟩
    rw [hls] at HN hl ⊢
    rw [List.length_append, List.length_singleton]
    simp only [Prod.mk.injEq] at he
    obtain ⟨rfl, rfl, rfl⟩ := he
    unfold mainT at HN
    clear hz h0 hV hp hhere hm hnv hls
    go_enter Tryz.func7, Tryz.ntmps7
    go_wp2_with fail
    refine Calls.mono HF.out ?_
    rintro e w1 ⟨rfl, hb1⟩
    have hne := HNe.out w1
    rw [decide_eq_false (by simp)] at hne
    have HB : Hid (Below w.heap.size w w1) := hb1
    have HC : Hid (_) := HN.out w1 hb1
    clear hb1 HF HNe HN
    go_wp2_with fail
    refine Calls.mono HC.out ?_
    rintro e w2 ⟨v, rfl, ho, hb2⟩
    have HO : Hid (w2.ownsRow w.heap.size 9 1 v ls.length (strV ls) ∧ Below w.heap.size w w2) := ⟨own_base ho HB.out.size, HB.out.trans (hb2.mono HB.out.size)⟩
    have HSc : Hid (_) := stringsClone [109, 97, 105, 110] w2 (by decide)
    clear ho hb2 HC HB
    go_wp2_with fail
    refine Calls.mono HSc.out ?_
    rintro e w3 ⟨rfl, hb3⟩
    have hB3 := HO.out.2.trans (hb3.mono HO.out.2.size)
    have hO3 := own_below HO.out.1 hb3
    obtain ⟨v', Y, hr, hoY, hgY⟩ := push_text mainT hO3 hB3.size (by omega)
    have HB : Hid (Below w.heap.size w Y) := hB3.grown hgY hB3.size (fun k e => (hO3.lt k e).1)
    have HOY : Hid (Y.ownsRow w.heap.size 9 1 v' (ls.length + 1) (strV (ls ++ [mainT]))) := hoY
    clear hgY hoY hO3 hB3 HO HSc hb3
    unfold mainT at hr
    go_wp2_with (at_builtin; refine wpList_append_run rfl _ _ 24 rfl _ _ _ rfl rfl hr ?_)
    go_ret
    exact ⟨_, rfl, HOY.out, HB.out⟩

end Go.Proofs.YtbojdcggnpdhcaaGreatDoor
