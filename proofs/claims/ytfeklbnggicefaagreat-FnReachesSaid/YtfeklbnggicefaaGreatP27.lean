/-
  Parts of one proof, one behind the other: ProjI, Codes, LawOr.
-/
import Derived.Test.YtfeklbnggicefaaGreatP26
import Derived.Test.YtfeklbnggicefaaGreatP25
import Derived.Test.YtfeklbnggicefaaGreatP4
import Derived.Test.YtfeklbnggicefaaGreatP6
import Derived.Test.YtfeklbnggicefaaGreatP18
import Derived.Test.YtfeklbnggicefaaGreatP9

/-! The contracts of the landed code of chapter 8: ProjectOk, Order, Reaches, Needs. -/
namespace Go.Proofs.YtfeklbnggicefaaGreat
open Go.RowKit

theorem lit_none (w : World) : (w.alloc (.cells #[] 9)).ownsRow w.heap.size 9 1 (.slice (some ⟨w.heap.size, 0, none⟩) 0 0) 0 (strV []) ∧ Below w.heap.size w (w.alloc (.cells #[] 9)) :=
  ⟨World.ownsRow_lit (base := w.heap.size) (e := 9) (size := 1) w #[] 0 (Nat.le_refl _) (by decide) rfl, (Below.refl _ _).alloc (Nat.le_refl _) _⟩

theorem here_cases (ps : List Pk) (s : List UInt8) : ((if projB ps = true then at8 ps s else -1) = -1 ∧ hereB ps s = false) ∨ ∃ f, f < ps.length ∧ (if projB ps = true then at8 ps s else -1) = (f : Int) ∧ projB ps = true ∧ s = nmAt ps f ∧ hereB ps s = true := by
  unfold hereB
  rcases hp : projB ps with _ | _
  · exact Or.inl ⟨by simp, rfl⟩
  · rw [if_pos rfl]
    rcases at8_is ps s with ⟨e, _⟩ | ⟨f, hf, e, hn, _⟩
    · exact Or.inl ⟨e, by rw [e]; rfl⟩
    · exact Or.inr ⟨f, hf, e, rfl, hn.symm, by rw [e]; simp⟩


set_option maxHeartbeats 2000000 in
set_option maxRecDepth 100000 in
theorem implReaches (a : Option Addr) (len cap : Nat) (ps : List Pk) (s : List UInt8) (w : World) (h : PkgsOk w a len cap ps) (_hs : s.length ≤ 1048576) :
    Calls Tryz.prog 6 #[.slice a len cap, .string ⟨s.toArray⟩] w fun e w' => ∃ v, e = .returned v ∧ w'.ownsRow w.heap.size 9 1 v (reachV ps s).length (strV (reachV ps s)) ∧ Below w.heap.size w w' := by
  have HP : Hid (_) := implPlaceIn a len cap ps s w h
  have HI : Hid (PkgsOk w a len cap ps) := h
  rcases here_cases ps s with ⟨hp, hv⟩ | ⟨f, hf, hp, hpj, hns, hv⟩
  · have HE : Hid (reachV ps s = []) := by exact (by unfold reachV; rw [if_neg (by rw [hv]; simp)] : reachV ps s = [])
    rw [hp] at HP
    clear h hv hp
    go_enter Tryz.func6, Tryz.ntmps6
    go_wp2_with (go_at_call 17; refine Calls.mono HP.out ?_; rintro e w1 ⟨rfl, hb1⟩; have HB1 : Hid (Below w.heap.size w w1) := hb1; clear hb1)
    go_ret
    obtain ⟨h1, h2⟩ := lit_none w1
    exact ⟨_, rfl, by rw [HE.out]; exact own_base h1 HB1.out.size, HB1.out.trans (h2.mono HB1.out.size)⟩
  · have HE : Hid (reachV ps s = reach8 ps (nmAt ps f)) := by exact (by unfold reachV; rw [if_pos hv, hns] : reachV ps s = reach8 ps (nmAt ps f))
    rw [hp] at HP
    have hfl : f < len := by rw [← h.hlen]; exact hf
    have hl8 : ps.length ≤ 8 := (projB_parts hpj).2.1.2
    have hfz : ¬ (f : Int) = -1 := by omega
    have hfb : ((f : Int) == -1) = false := beq_eq_false_iff_ne.2 hfz
    clear h hv hp hns
    go_enter Tryz.func6, Tryz.ntmps6
    go_wp2_with fail
    refine Calls.mono HP.out ?_
    rintro e w1 ⟨rfl, hb1⟩
    have HB1 : Hid (Below w.heap.size w w1) := hb1
    have HI1 : Hid (PkgsOk w1 a len cap ps) := HI.out.below hb1
    clear hb1 HP
    go_wp2_with fail
    refine (implPlacesReached a len cap ps f w1 HI1.out hpj hfl).mono ?_
    rintro e w2 ⟨v, rfl, re, ho, hrp, hrt, hb2⟩
    have hrl := hrp.len
    have hr0 : re.length ≠ 0 := fun e => by have := hrp.self; rw [List.eq_nil_of_length_eq_zero e] at this; simp at this
    obtain ⟨g, c, rfl⟩ := own_some ho hr0
    have HB2 : Hid (Below w.heap.size w w2) := HB1.out.trans (hb2.mono HB1.out.size)
    have HI2 : Hid (PkgsOk w2 a len cap ps) := HI1.out.below hb2
    have HSo : Hid (_) := sortNats w1.heap.size g c re.length re w2 ho rfl (by omega)
    have HRp : Hid (Rp8 ps f re ∧ RpTo ps re re.length) := ⟨hrp, hrt⟩
    have hgl : w1.heap.size ≤ g := (ho.lt g rfl).1
    clear ho hrp hrt hb2 hr0
    go_wp2_with fail
    refine Calls.mono HSo.out ?_
    rintro e w3 ⟨rfl, ss, hp3, hs3, ho3, hg3⟩
    have hnm := HRp.out.1.sorted HRp.out.2 hp3 hs3
    have hss : ss.length = re.length := hp3.length_eq
    have hlt3 : ∀ x ∈ ss, x < len := fun x hx => by rw [← HI.out.hlen]; exact HRp.out.1.lt x (hp3.mem_iff.1 hx)
    have HB3 : Hid (Below w.heap.size w w3) := HB2.out.grown hg3 HB2.out.size (fun k e => by injection e with e; rw [← e]; exact Nat.le_trans HB1.out.size hgl)
    obtain ⟨oa, oc, he, hin⟩ := own_nats ho3 hss
    injection he with e1 _ e3
    subst e1
    subst e3
    have HN : Hid (_) := implNamesAt a len cap ps (some ⟨g, 0, none⟩) re.length c ss w3 (HI.out.below HB3.out) hin hlt3 (by omega)
    rw [hnm, ← HE.out] at HN
    clear hnm hss hlt3 hin hp3 hs3 ho3 hg3 HSo
    go_wp2_with fail
    refine Calls.mono HN.out ?_
    rintro e w4 ⟨v4, rfl, ho4, hb4⟩
    have HRr : Hid (w4.ownsRow w.heap.size 9 1 v4 (reachV ps s).length (strV (reachV ps s)) ∧ Below w.heap.size w w4) := ⟨own_base ho4 HB3.out.size, HB3.out.trans (hb4.mono HB3.out.size)⟩
    clear ho4 hb4
    go_wp2
    go_ret
    exact ⟨_, rfl, HRr.out.1, HRr.out.2⟩

theorem filt_take (out re : List Nat) (f k : Nat) (hk : k < out.length) : (out.take (k + 1)).filter (fun i => decide (i ≠ f ∧ i ∈ re)) = (out.take k).filter (fun i => decide (i ≠ f ∧ i ∈ re)) ++ if out.getD k 0 ≠ f ∧ out.getD k 0 ∈ re then [out.getD k 0] else [] := by
  have e : out.getD k 0 = out[k] := by simp [List.getD, hk]
  rw [List.take_succ_eq_append_getElem hk, List.filter_append, e]
  by_cases h : out[k] ≠ f ∧ out[k] ∈ re
  · rw [if_pos h]; simp [h]
  · rw [if_neg h]; simp [h]
set_option maxHeartbeats 4000000 in
set_option maxRecDepth 100000 in
theorem implNeeds (a : Option Addr) (len cap : Nat) (ps : List Pk) (s : List UInt8) (w : World) (h : PkgsOk w a len cap ps) (_hs : s.length ≤ 1048576) :
    Calls Tryz.prog 7 #[.slice a len cap, .string ⟨s.toArray⟩] w fun e w' => ∃ v, e = .returned v ∧ w'.ownsRow w.heap.size 9 1 v (needV ps s).length (strV (needV ps s)) ∧ Below w.heap.size w w' := by
  have HP : Hid (_) := implPlaceIn a len cap ps s w h
  have HI : Hid (PkgsOk w a len cap ps) := h
  rcases here_cases ps s with ⟨hp, hv⟩ | ⟨f, hf, hp, hpj, hns, hv⟩
  · have HE : Hid (needV ps s = []) := by exact (by unfold needV; rw [if_neg (by rw [hv]; simp)] : needV ps s = [])
    rw [hp] at HP
    clear h hv hp
    go_enter Tryz.func7, Tryz.ntmps7
    go_wp2_with (go_at_call 17; refine Calls.mono HP.out ?_; rintro e w1 ⟨rfl, hb1⟩; have HB1 : Hid (Below w.heap.size w w1) := hb1; clear hb1)
    go_ret
    obtain ⟨h1, h2⟩ := lit_none w1
    exact ⟨_, rfl, by rw [HE.out]; exact own_base h1 HB1.out.size, HB1.out.trans (h2.mono HB1.out.size)⟩
  · have HE : Hid (needV ps s = need8 ps (nmAt ps f)) := by exact (by unfold needV; rw [if_pos hv, hns] : needV ps s = need8 ps (nmAt ps f))
    rw [hp] at HP
    have hfl : f < len := by rw [← h.hlen]; exact hf
    have hl8 : ps.length ≤ 8 := (projB_parts hpj).2.1.2
    have hfz : ¬ (f : Int) = -1 := by omega
    have hfb : ((f : Int) == -1) = false := beq_eq_false_iff_ne.2 hfz
    clear h hv hp hns
    go_enter Tryz.func7, Tryz.ntmps7
    go_wp2_with fail
    refine Calls.mono HP.out ?_
    rintro e w1 ⟨rfl, hb1⟩
    have HB1 : Hid (Below w.heap.size w w1) := hb1
    have HI1 : Hid (PkgsOk w1 a len cap ps) := HI.out.below hb1
    clear hb1 HP
    go_wp2_with fail
    refine (implPlacesReached a len cap ps f w1 HI1.out hpj hfl).mono ?_
    rintro e w2 ⟨v, rfl, re, ho, hrp, hrt, hb2⟩
    have hrl := hrp.len
    obtain ⟨ra, rc, rfl, _⟩ := own_nats ho rfl
    have HB2 : Hid (Below w.heap.size w w2) := HB1.out.trans (hb2.mono HB1.out.size)
    have HRp : Hid (Rp8 ps f re ∧ RpTo ps re re.length) := ⟨hrp, hrt⟩
    have HO2 : Hid (w2.ownsRow w.heap.size 3 1 (.slice ra re.length rc) re.length (natV re)) := own_base ho HB1.out.size
    have hbA : Below w2.heap.size w2 (w2.alloc (.cells #[] 3)) := (Below.refl _ _).alloc (Nat.le_refl _) _
    have hN0 : (w2.alloc (.cells #[] 3)).ownsRow w.heap.size 3 1 (.slice (some ⟨w2.heap.size, 0, none⟩) 0 0) 0 (natV []) := World.ownsRow_lit (base := w.heap.size) (e := 3) (size := 1) w2 #[] 0 HB2.out.size (by decide) rfl
    have HBA : Hid (Below w.heap.size w (w2.alloc (.cells #[] 3))) := HB2.out.trans (hbA.mono HB2.out.size)
    have HOA : Hid ((w2.alloc (.cells #[] 3)).ownsRow w.heap.size 3 1 (.slice ra re.length rc) re.length (natV re)) := own_below HO2.out hbA
    have HNA : Hid ((w2.alloc (.cells #[] 3)).ownsRow w.heap.size 3 1 (.slice (some ⟨w2.heap.size, 0, none⟩) 0 0) 0 (natV [])) := hN0
    have HRl : Hid (∀ k, (Value.slice ra re.length rc).ownBlock = some k → k < w2.heap.size) := fun k e => (HO2.out.lt k e).2
    have HIO : Hid (_) := implPlacesInOrder a len cap ps (w2.alloc (.cells #[] 3)) (HI.out.below HBA.out) hpj
    clear ho hrp hrt hb2 hbA hN0 hpj
    go_wp2_with fail
    refine Calls.mono HIO.out ?_
    rintro e w3 ⟨v3, rfl, out, ho3, hoo, hlt, hol, hb3⟩
    obtain ⟨oa, oc, rfl, _⟩ := own_nats ho3 rfl
    have HB3 : Hid (Below w.heap.size w w3) := HBA.out.trans (hb3.mono HBA.out.size)
    have HNd : Hid (nmsAt ps (out.filter (fun i => decide (i ≠ f ∧ i ∈ re))) = need8 ps (nmAt ps f)) := need_places HRp.out.1 HRp.out.2 hoo (fun x hx => by rw [HI.out.hlen]; exact hlt x hx)
    have HLt : Hid (∀ x ∈ out, x < len) := hlt
    have hsA : (w2.alloc (.cells #[] 3)).heap.size = w2.heap.size + 1 := by simp
    have HS0 : Hid (Ro3 w3 w.heap.size (.slice (some ⟨w2.heap.size, 0, none⟩) 0 0) (.slice ra re.length rc) (.slice oa out.length oc) ((out.take 0).filter (fun i => decide (i ≠ f ∧ i ∈ re))) re out) := ⟨own_below HNA.out hb3, own_below HOA.out hb3, own_base ho3 HBA.out.size, (fun k e e2 => by
      injection e with e
      have e' : w2.heap.size = k := e
      have := HRl.out k e2
      omega), (fun k e e2 => by
      injection e with e
      have e' : w2.heap.size = k := e
      have := (ho3.lt k e2).1
      omega)⟩
    clear HIO HNA HOA HBA HO2 ho3 hoo hlt hb3 hsA HRl
    go_wp2
    go_loopw [7, 23] (fun nv iv wr => ∃ (k m : Nat) (na : Option Addr) (nc : Nat) (ne : List Nat), nv = .slice na m nc ∧ iv = .int .i64 (k : Int) ∧ k ≤ out.length ∧ m ≤ k ∧ Hid (ne.length = m) ∧ Hid ((out.take k).filter (fun i => decide (i ≠ f ∧ i ∈ re)) = ne) ∧ Hid (Ro3 wr w.heap.size (.slice na m nc) (.slice ra re.length rc) (.slice oa out.length oc) ne re out) ∧ Hid (Below w.heap.size w wr)) (fun _ iv _ => out.length - (intOf iv).toNat)
    case atStart => exact ⟨0, 0, _, 0, [], rfl, rfl, by omega, by omega, rfl, rfl, HS0, HB3⟩
    case round =>
      obtain ⟨k, m, na, nc, ne, rfl, rfl, hk, hmk, HL, HF, HS, HB⟩ := hrel
      clear HS0 HB3
      by_cases hlt : (k : Int) < (out.length : Int)
      · have hk2 : k < out.length := by omega
        obtain ⟨oa', oc', he, hoin⟩ := own_nats HS.out.rt rfl
        injection he with e1 _ e3
        subst e1
        subst e3
        obtain ⟨ra', rc', he, hrin⟩ := own_nats HS.out.ru rfl
        injection he with e1 _ e3
        subst e1
        subst e3
        obtain ⟨b, off, rfl, _, d0⟩ := hoin.2 k hk2
        have hft := filt_take out re f k hk2
        rw [HF.out] at hft
        obtain ⟨z, hz⟩ : ∃ z, out.getD k 0 = z := ⟨_, rfl⟩
        rw [hz] at d0 hft
        have HC : Hid (_) := containsNat ra re.length rc re z wr hrin (by omega)
        clear hoin hrin hz
        by_cases hzf : z = f
        · subst hzf
          rw [if_neg (fun h => h.1 rfl), List.append_nil] at hft
          have HF2 : Hid ((out.take (k + 1)).filter (fun i => decide (i ≠ z ∧ i ∈ re)) = ne) := hft
          clear hft
          go_wp2
          go_roundw
          case rel => exact ⟨k + 1, m, na, nc, ne, rfl, by go_num, by omega, by omega, HL, HF2, HS, HB⟩
          case measure => simp [intOf]; omega
        · have hzz : ¬ (z : Int) = (f : Int) := by omega
          have hzb : ((z : Int) != (f : Int)) = true := by rw [bne_iff_ne]; exact hzz
          have hzb2 : ((z : Int) == (f : Int)) = false := beq_eq_false_iff_ne.2 hzz
          by_cases hin : z ∈ re
          · rw [decide_eq_true hin] at HC
            rw [if_pos ⟨hzf, hin⟩] at hft
            have HF2 : Hid ((out.take (k + 1)).filter (fun i => decide (i ≠ f ∧ i ∈ re)) = ne ++ [z]) := hft
            have HL2 : Hid ((ne ++ [z]).length = m + 1) := by exact (by rw [List.length_append, List.length_singleton, HL.out] : (ne ++ [z]).length = m + 1)
            obtain ⟨g', c', Y, hr, s2, hB2⟩ := HS.out.app HB.out.size (by rw [HL.out]; omega) z
            rw [HL.out] at hr s2
            have HSY : Hid (Ro3 Y w.heap.size (.slice (some ⟨g', 0, none⟩) (m + 1) c') (.slice ra re.length rc) (.slice (some ⟨b, off, none⟩) out.length oc) (ne ++ [z]) re out) := s2
            have HBY : Hid (Below w.heap.size w Y) := HB.out.trans hB2
            clear hin hft s2 hB2 hzf
            go_wp2_with (first | (go_at_call 22; refine Calls.mono HC.out ?_; rintro e w2 ⟨rfl, hw2⟩; obtain rfl := hw2.symm) | (at_builtin; refine wpList_append_run rfl (.tmp 35) (.tmp 37) 41 rfl _ _ _ rfl rfl hr ?_; clear hr))
            go_roundw
            case rel => exact ⟨k + 1, m + 1, _, c', ne ++ [z], rfl, by go_num, by omega, by omega, HL2, HF2, HSY, HBY⟩
            case measure => simp [intOf]; omega
          · rw [decide_eq_false hin] at HC
            rw [if_neg (fun h => hin h.2), List.append_nil] at hft
            have HF2 : Hid ((out.take (k + 1)).filter (fun i => decide (i ≠ f ∧ i ∈ re)) = ne) := hft
            clear hin hft hzf
            go_wp2_with (go_at_call 22; refine Calls.mono HC.out ?_; rintro e w2 ⟨rfl, hw2⟩; obtain rfl := hw2.symm)
            go_roundw
            case rel => exact ⟨k + 1, m, na, nc, ne, rfl, by go_num, by omega, by omega, HL, HF2, HS, HB⟩
            case measure => simp [intOf]; omega
      · obtain rfl : k = out.length := by omega
        have hne : out.filter (fun i => decide (i ≠ f ∧ i ∈ re)) = ne := by have := HF.out; rw [List.take_length] at this; exact this
        have hrv := HS.out.rv
        rw [HL.out] at hrv
        obtain ⟨na', nc', he, hnin⟩ := own_nats hrv HL.out
        injection he with e1 _ e3
        subst e1
        subst e3
        have hnd := HNd.out
        rw [hne, ← HE.out] at hnd
        have HN : Hid (_) := implNamesAt a len cap ps na m nc ne wr (HI.out.below HB.out) hnin (fun x hx => HLt.out x (by rw [← hne] at hx; exact (List.mem_filter.1 hx).1)) (by omega)
        rw [hnd] at HN
        clear hnd hne hrv hnin
        go_wp2_with fail
        refine Calls.mono HN.out ?_
        rintro e w4 ⟨v4, rfl, ho4, hb4⟩
        have HRr : Hid (w4.ownsRow w.heap.size 9 1 v4 (needV ps s).length (strV (needV ps s)) ∧ Below w.heap.size w w4) := ⟨own_base ho4 HB.out.size, HB.out.trans (hb4.mono HB.out.size)⟩
        clear ho4 hb4
        go_wp2
        go_ret
        exact ⟨_, rfl, HRr.out.1, HRr.out.2⟩

end Go.Proofs.YtfeklbnggicefaaGreat

/-! A code that came in, as the laws' walks take it. -/
namespace Go.Proofs.YtfeklbnggicefaaGreat
open Go.RowKit

theorem code_nil (w : World) : Code w w.heap.size none 0 := fun j hj => by omega

theorem code_of (w : World) (x : Addr) (len : Nat) (zs : List Int) (h : ∀ i, i < zs.length → w.cell? (x.add i) = some (.int .u8 (zs.getD i 0))) (hl : len ≤ zs.length) (hw : ∀ n ∈ zs, (Lit.int .u8 n).wf = true) : Code w w.heap.size (some x) len := by
  intro j hj
  obtain ⟨b, off, spot⟩ := x
  have hc := h j (by omega)
  have hspot : spot = none := by simpa [Addr.add] using World.cell?_spot (h 0 (by omega))
  subst hspot
  have e : (⟨b, off, none⟩ : Addr).add j = ⟨b, off + j, none⟩ := by unfold Addr.add; split <;> simp_all
  rw [e] at hc
  have hb := bounds_u8 (hw (zs.getD j 0) (by rw [List.getD_eq_getElem?_getD, List.getElem?_eq_getElem (by omega)]; exact List.getElem_mem _))
  exact ⟨b, off, _, rfl, World.block_lt_of_cell? w ⟨b, off + j, none⟩ hc, hc, hb⟩

theorem Code.later {w w' : World} {a : Option Addr} {len : Nat} (h : Code w w.heap.size a len) (hb : Below w.heap.size w w') : Code w' w'.heap.size a len := by
  intro j hj
  obtain ⟨b, off, x, e1, e2, e3, e0⟩ := h j hj
  exact ⟨b, off, x, e1, Nat.lt_of_lt_of_le e2 hb.size, (hb.cell (p := ⟨b, off + j, none⟩) e2).trans e3, e0⟩

theorem Code.kept {w w' : World} {a : Option Addr} {len : Nat} (h : Code w w.heap.size a len) (hg : w.grownBy w' none) : Code w' w'.heap.size a len :=
  h.later ⟨hg.os, hg.tape, hg.output, hg.size, fun k hk => hg.block k hk (by simp)⟩

set_option maxHeartbeats 400000 in
set_option maxRecDepth 100000 in
theorem bigB (w : World) (a : Option Addr) (len cap : Nat) :
    Calls Tryz.prog 4 #[.slice a len cap] w fun e w' => e = .returned (.bool (decide (4096 < (len : Int)))) ∧ w' = w := by
  go_enter Tryz.func4, Tryz.ntmps4
  go_wp2
  go_ret
  exact ⟨rfl, rfl⟩

theorem code_some {w : World} {B : Nat} {a : Option Addr} {len : Nat} (h : Code w B a len) (hz : len ≠ 0) : ∃ b off, a = some ⟨b, off, none⟩ ∧ ∀ j, j < len → ∃ x : Int, w.cell? ⟨b, off + j, none⟩ = some (.int .u8 x) ∧ 0 ≤ x ∧ x ≤ 255 := by
  obtain ⟨b, off, x, rfl, _, _⟩ := h 0 (by omega)
  refine ⟨b, off, rfl, fun j hj => ?_⟩
  obtain ⟨b', off', x', e1, _, e3, e4⟩ := h j hj
  injection e1 with e1
  injection e1 with e5 e6
  subst e5 e6
  exact ⟨x', e3, e4⟩


end Go.Proofs.YtfeklbnggicefaaGreat

/-! FnOrder, whole. -/
namespace Go.Proofs.YtfeklbnggicefaaGreat
open Go.RowKit

theorem own_lencap {w : World} {base e size n : Nat} {v : Value} {ys : List Value} (h : w.ownsRow base e size v n ys) : ∀ a c, v = .slice a n c → n ≤ c := fun a c hv => by
  rcases h.2 with ⟨e, h0⟩ | ⟨g, cap, cur, e, _, _, hc, _⟩
  · omega
  · rw [hv] at e; injection e with _ _ e3; rw [e3]; exact hc
theorem TextsIn.take8 {w : World} {a : Option Addr} {len k : Nat} {ts : List (List UInt8)} (h : TextsIn w a len ts) (hk : k ≤ len) : TextsIn w a k (ts.take k) := by
  have hl := h.1
  refine ⟨by rw [List.length_take]; omega, fun j hj => ?_⟩
  have e : (ts.take k).getD j [] = ts.getD j [] := by simp [List.getD, hj]
  rw [e]
  exact h.2 j (by omega)

theorem names8_take (ps : List Pk) (k : Nat) (hk : k < ps.length) : (names8 ps).take (k + 1) = (names8 ps).take k ++ [(ps.getD k pk0).1] := by
  have h1 : k < (names8 ps).length := by simpa [names8] using hk
  rw [List.take_succ_eq_append_getElem h1]
  simp [names8, List.getD, hk]

def allB (ps : List Pk) (o l : List (List UInt8)) : Bool := decide (∀ m ∈ l, m ∈ names8 ps → m ∈ o)
theorem allB_snoc (ps : List Pk) (o l : List (List UInt8)) (x : List UInt8) : allB ps o (l ++ [x]) = (allB ps o l && decide (x ∈ names8 ps → x ∈ o)) := by
  unfold allB
  rw [← Bool.decide_and]
  refine decide_eq_decide.2 ⟨fun h => ⟨fun m hm => h m (List.mem_append_left _ hm), h _ (by simp)⟩, fun h m hm => ?_⟩
  rw [List.mem_append, List.mem_singleton] at hm
  rcases hm with hm | hm
  · exact h.1 m hm
  · rw [hm]; exact h.2
theorem all_take (ps : List Pk) (o ims : List (List UInt8)) {j : Nat} (hj : j < ims.length) : allB ps o (ims.take (j + 1)) = (allB ps o (ims.take j) && decide (ims.getD j [] ∈ names8 ps → ims.getD j [] ∈ o)) := by
  have e : ims.getD j [] = ims[j] := by simp [List.getD, hj]
  rw [List.take_succ_eq_append_getElem hj, e, allB_snoc]


end Go.Proofs.YtfeklbnggicefaaGreat
