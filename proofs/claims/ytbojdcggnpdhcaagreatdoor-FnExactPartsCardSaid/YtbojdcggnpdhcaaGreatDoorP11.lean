/-
  Parts of one proof, one behind the other: ProjS5, ProjS6, Bend1, Bend2.
-/
import Derived.Test.YtbojdcggnpdhcaaGreatDoorP10
import Derived.Test.YtbojdcggnpdhcaaGreatDoorP3
import Derived.Deep.RegionHeld3
import Derived.Deep.RegionLaw
import Derived.Deep.DrawnRows

/-! The contracts of chapter 8's specification: l8Reaches. -/
namespace Go.Proofs.YtbojdcggnpdhcaaGreatDoor
open Go.RowKit

theorem step8_take (ps qs : List Pk) (o : List (List UInt8)) (k : Nat) (hk : k < qs.length) : step8 ps (qs.take (k + 1)) o = pass8 ps (step8 ps (qs.take k) o) (qs.getD k pk0) := by
  have e : qs.getD k pk0 = qs[k] := by simp [List.getD, hk]
  unfold step8
  rw [List.take_succ_eq_append_getElem hk, List.foldl_append, e]
  rfl
theorem inner8_take (ps : List Pk) (o ms : List (List UInt8)) (k : Nat) (hk : k < ms.length) : inner8 ps o (ms.take (k + 1)) = in8 ps (inner8 ps o (ms.take k)) (ms.getD k []) := by
  have e : ms.getD k [] = ms[k] := by simp [List.getD, hk]
  unfold inner8
  rw [List.take_succ_eq_append_getElem hk, List.foldl_append, e]
  rfl
theorem in8_at (ps : List Pk) (o : List (List UInt8)) (m : List UInt8) : in8 ps o m = if at8 ps m < 0 then o else put8 o m := by
  unfold in8
  have h := at8_mem ps m
  by_cases hm : m ∈ names8 ps
  · rw [if_pos hm, if_neg (by have := h.2 hm; omega)]
  · rw [if_neg hm, if_pos (by
      rcases Int.lt_or_le (at8 ps m) 0 with g | g
      · exact g
      · exact absurd (h.1 g) hm)]
theorem Re8.prefix {ps : List Pk} {s : List UInt8} {o : List (List UInt8)} (h : Re8 ps s o) (k : Nat) : Re8 ps s (step8 ps (ps.take k) o) := Re8.step _ _ (fun _ hq => List.mem_of_mem_take hq) h
theorem Re8.part {ps : List Pk} {s : List UInt8} {o : List (List UInt8)} (h : Re8 ps s o) {p : Pk} (hp : p ∈ ps) (hpo : p.1 ∈ o) (i : Nat) : Re8 ps s (inner8 ps o (p.2.1.take i)) := Re8.inner hp _ _ h hpo (fun _ hm => List.mem_of_mem_take hm)

/-- What l8Reaches holds of a list of names. -/
structure Ro8 (w X : World) (ps : List Pk) (g c : Nat) (o : List (List UInt8)) : Prop where
  own : X.ownsRow w.heap.size 9 1 (.slice (some ⟨g, 0, none⟩) o.length c) o.length (strV o)
  h : Below w.heap.size w X
theorem Ro8.texts {w X : World} {ps : List Pk} {g c : Nat} {o : List (List UInt8)} (r : Ro8 w X ps g c o) : TextsIn X (some ⟨g, 0, none⟩) o.length o := by
  obtain ⟨_, a', c', e, h⟩ := own_texts r.own
  injection e with e1 _ _
  subst e1
  exact h

set_option maxHeartbeats 4000000 in
set_option maxRecDepth 100000 in
theorem specReach8 (a : Option Addr) (len cap : Nat) (ps : List Pk) (s : List UInt8) (w : World) (hin : PkgsIn w a len ps) (hp : projB ps = true) (hs : s ∈ names8 ps) :
    Calls Tryz.prog 49 #[.slice a len cap, .string ⟨s.toArray⟩] w fun e w' => ∃ g c, e = .returned (.slice (some ⟨g, 0, none⟩) (reach8 ps s).length c) ∧ w'.ownsRow w.heap.size 9 1 (.slice (some ⟨g, 0, none⟩) (reach8 ps s).length c) (reach8 ps s).length (strV (reach8 ps s)) ∧ Below w.heap.size w w' := by
  obtain rfl : ps.length = len := hin.1
  obtain ⟨_, hlen8, hpk⟩ := projB_parts hp
  have HPK : Hid (∀ p ∈ ps, pkgB p = true) := hpk
  have hl8 : (ps.length : Int) ≤ 8 := by omega
  have HI : Hid (PkgsIn w a ps.length ps) := hin
  have hown0 := (World.ownsRow_lit (base := w.heap.size) (e := 9) (size := 1) w #[.string ⟨s.toArray⟩] 1 (Nat.le_refl _) (by decide) rfl)
  have hbA : Below w.heap.size w (w.alloc (.cells #[.string ⟨s.toArray⟩] 9)) := (Below.refl _ _).alloc (Nat.le_refl _) _
  have HO0 : Hid (Ro8 w (w.alloc (.cells #[.string ⟨s.toArray⟩] 9)) ps w.heap.size 1 [s]) := ⟨hown0, hbA⟩
  have HR0 : Hid (reach8 ps s = reachGo ps (ps.length + 1) [s]) := rfl
  have HE : Hid (Re8 ps s [s]) := re8_one hs
  generalize reach8 ps s = R at HR0 ⊢
  clear hin hp hpk hown0 hbA hs
  go_enter Tryz.func49, Tryz.ntmps49
  go_wp2
  go_loopw [5] (fun v wr => ∃ (g c : Nat) (out : List (List UInt8)) (n : Nat), v = .slice (some ⟨g, 0, none⟩) out.length c ∧ ps.length < n + out.length ∧ Hid (Ro8 w wr ps g c out) ∧ Hid (Re8 ps s out) ∧ Hid (R = reachGo ps n out)) (fun v _ => ps.length + 1 - lenOf v)
  case atStart => exact ⟨w.heap.size, 1, [s], ps.length + 1, rfl, by simp only [List.length_singleton]; omega, HO0, HE, HR0⟩
  case round =>
    obtain ⟨g, c, out, n, rfl, hn, HO, HRe, HRn⟩ := hrel
    clear HO0 HE HR0
    have hol := HRe.out.len
    obtain ⟨n', rfl⟩ : ∃ n', n = n' + 1 := ⟨n - 1, by omega⟩
    go_wp2
    go_loopw [5, 7] (fun v iv wx => ∃ (g2 c2 k : Nat) (o : List (List UInt8)), v = .slice (some ⟨g2, 0, none⟩) o.length c2 ∧ iv = .int .i64 (k : Int) ∧ k ≤ ps.length ∧ Hid (o = step8 ps (ps.take k) out) ∧ Hid (Ro8 w wx ps g2 c2 o)) (fun _ iv _ => ps.length - (intOf iv).toNat)
    case atStart => exact ⟨g, c, 0, out, rfl, rfl, by omega, (rfl : out = step8 ps (ps.take 0) out), HO⟩
    case round =>
      obtain ⟨g2, c2, k, o, rfl, rfl, hk, HS, HO2⟩ := hrel
      have HRo : Hid (Re8 ps s o) := by exact (by rw [HS.out]; exact HRe.out.prefix k : Re8 ps s o)
      have hol2 := HRo.out.len
      by_cases hlt : (k : Int) < (ps.length : Int)
      · have hk2 : k < ps.length := by omega
        have hst := step8_take ps ps out k hk2
        rw [← HS.out] at hst
        have hpm : ps.getD k pk0 ∈ ps := by simp [List.getD, hk2]
        have hpi : pkgB (ps.getD k pk0) = true := HPK.out _ hpm
        obtain ⟨b, off, ea, _, _⟩ := HI.out.2 k hk2
        subst ea
        obtain ⟨p, hp⟩ : ∃ p, ps.getD k pk0 = p := ⟨_, rfl⟩
        have HPI : Hid (ps.getD k pk0 = p) := hp
        rw [hp] at hst hpm hpi
        clear hp
        obtain ⟨x, ims, fs⟩ := p
        have hi6 := (pkgB_parts hpi).2.2.1
        simp only at hi6
        have HST : Hid (step8 ps (ps.take (k + 1)) out = pass8 ps o (x, ims, fs)) := hst
        have HPM : Hid ((x, ims, fs) ∈ ps) := hpm
        clear hst hpm hpi
        go_wp2
        go_loopw [5, 8] (fun v iv wy => ∃ (g3 c3 i : Nat) (q : List (List UInt8)), v = .slice (some ⟨g3, 0, none⟩) q.length c3 ∧ iv = .int .i64 (i : Int) ∧ i ≤ ims.length ∧ Hid ((i = 0 ∧ q = o) ∨ (x ∈ o ∧ q = inner8 ps o (ims.take i))) ∧ Hid (Ro8 w wy ps g3 c3 q)) (fun _ iv _ => ims.length - (intOf iv).toNat)
        case atStart => exact ⟨g2, c2, 0, o, rfl, rfl, by omega, (Or.inl ⟨rfl, rfl⟩ : (0 = 0 ∧ o = o) ∨ _), HO2⟩
        case round =>
          obtain ⟨g3, c3, i, q, rfl, rfl, hi, HQ, HO3⟩ := hrel
          obtain ⟨W3, rfl⟩ : ∃ W3, W3 = wr := ⟨_, rfl⟩
          have hin3 := HI.out.below HO3.out.h
          obtain ⟨b', off', ea, hbl, c0, ia, il, ic, fa, fl, fc, c1, c2', hii, _⟩ := hin3.2 k hk2
          simp only [Option.some.injEq, Addr.mk.injEq, and_true] at ea
          obtain ⟨rfl, rfl⟩ := ea
          rw [HPI.out] at c0 hii
          simp only at c0 hii
          obtain rfl : ims.length = il := hii.1
          have HII : Hid (TextsIn W3 ia ims.length ims) := hii
          have HP3 : Hid (PkgsIn W3 (some ⟨b, off, none⟩) ps.length ps) := hin3
          have hql : q.length ≤ ps.length := by
            rcases HQ.out with ⟨_, e⟩ | ⟨hx, e⟩
            · rw [e]; exact hol2
            · rw [e]; exact (HRo.out.part HPM.out hx i).len
          have HT3 : Hid (TextsIn W3 (some ⟨g3, 0, none⟩) q.length q) := HO3.out.texts
          clear hii hin3 c2'
          by_cases hil : (i : Int) < (ims.length : Int)
          · have hi2 : i < ims.length := by omega
            have HH : Hid (_) := specHas (some ⟨g3, 0, none⟩) q.length c3 q x W3 HT3.out (by omega)
            by_cases hxq : x ∈ q
            · have hxo : x ∈ o := by
                rcases HQ.out with ⟨_, e⟩ | ⟨hx, _⟩
                · rw [← e]; exact hxq
                · exact hx
              have hqe : q = inner8 ps o (ims.take i) := by
                rcases HQ.out with ⟨e0, e⟩ | ⟨_, e⟩
                · rw [e0, e]; rfl
                · exact e
              obtain ⟨b4, off4, rfl, _, d0⟩ := HII.out.2 i hi2
              have hst := inner8_take ps o ims i hi2
              rw [← hqe] at hst
              obtain ⟨m, hm⟩ : ∃ m, ims.getD i [] = m := ⟨_, rfl⟩
              rw [hm] at d0 hst
              rw [in8_at] at hst
              rw [decide_eq_true hxq] at HH
              have HA : Hid (_) := specAt8 (some ⟨b, off, none⟩) ps.length cap ps m W3 HP3.out (by omega)
              have HXO : Hid (x ∈ o) := hxo
              obtain ⟨z, hz⟩ : ∃ z, at8 ps m = z := ⟨_, rfl⟩
              rw [hz] at HA hst
              clear hz hm hqe hxo hxq
              by_cases hz0 : z < 0
              · have HQ2 : Hid ((i + 1 = 0 ∧ q = o) ∨ (x ∈ o ∧ q = inner8 ps o (ims.take (i + 1)))) := Or.inr ⟨HXO.out, by rw [hst, if_pos hz0]⟩
                have hz1 : ¬ 0 ≤ z := by omega
                clear hst HQ
                go_wp2_with (first | (go_at_call 45; refine Calls.mono HH.out ?_; rintro e w1 ⟨rfl, hw1⟩; obtain rfl := hw1.symm) | (go_at_call 46; refine Calls.mono HA.out ?_; rintro e w1 ⟨rfl, hw1⟩; obtain rfl := hw1.symm))
                go_roundw
                case rel => exact ⟨g3, c3, i + 1, q, rfl, by go_num, by omega, HQ2, HO3⟩
                case measure => simp [intOf]; omega
              · have HQ2 : Hid ((i + 1 = 0 ∧ put8 q m = o) ∨ (x ∈ o ∧ put8 q m = inner8 ps o (ims.take (i + 1)))) := Or.inr ⟨HXO.out, by rw [hst, if_neg hz0]⟩
                have HPu : Hid (_) := specPut w.heap.size g3 c3 q m W3 HO3.out.own HO3.out.h.size (by omega)
                have hz1 : 0 ≤ z := by omega
                clear hst HQ
                go_wp2_with (first | (go_at_call 45; refine Calls.mono HH.out ?_; rintro e w1 ⟨rfl, hw1⟩; obtain rfl := hw1.symm) | (go_at_call 46; refine Calls.mono HA.out ?_; rintro e w1 ⟨rfl, hw1⟩; obtain rfl := hw1.symm) | (go_at_call 74; refine Calls.mono HPu.out ?_; rintro e w4 ⟨g4, c4, rfl, ho4, hb4⟩))
                have HO4 : Hid (Ro8 w w4 ps g4 c4 (put8 q m)) := ⟨ho4, HO3.out.h.trans (hb4.mono HO3.out.h.size)⟩
                go_roundw
                case rel => exact ⟨g4, c4, i + 1, put8 q m, rfl, by go_num, by omega, HQ2, HO4⟩
                case measure => simp [intOf]; omega
            · have hqo : q = o ∧ ¬ x ∈ o := by
                rcases HQ.out with ⟨_, e⟩ | ⟨hx, e⟩
                · exact ⟨e, by rw [← e]; exact hxq⟩
                · exact absurd (by rw [e]; exact inner8_sub _ _ hx) hxq
              rw [decide_eq_false hxq] at HH
              have HS2 : Hid (q = step8 ps (ps.take (k + 1)) out) := by exact (by rw [HST.out, hqo.1]; unfold pass8; rw [if_neg hqo.2] : q = step8 ps (ps.take (k + 1)) out)
              clear hqo hxq HQ
              go_wp2_with (go_at_call 45; refine Calls.mono HH.out ?_; rintro e w1 ⟨rfl, hw1⟩; obtain rfl := hw1.symm)
              go_roundw
              case rel => exact ⟨g3, c3, k + 1, q, rfl, by go_num, by omega, HS2, HO3⟩
              case measure => simp [intOf]; omega
          · obtain rfl : i = ims.length := by omega
            have hqe : q = pass8 ps o (x, ims, fs) := by
              unfold pass8
              rcases HQ.out with ⟨e0, e⟩ | ⟨hx, e⟩
              · have hn0 : ims = [] := List.eq_nil_of_length_eq_zero e0
                rw [e, hn0]
                split <;> rfl
              · rw [if_pos hx, e, List.take_of_length_le (Nat.le_refl _)]
            have HS2 : Hid (q = step8 ps (ps.take (k + 1)) out) := by exact (by rw [HST.out]; exact hqe : q = step8 ps (ps.take (k + 1)) out)
            clear hqe HQ
            go_wp2
            go_roundw
            case rel => exact ⟨g3, c3, k + 1, q, rfl, by go_num, by omega, HS2, HO3⟩
            case measure => simp [intOf]; omega
      · obtain rfl : k = ps.length := by omega
        have hS := HS.out
        rw [List.take_of_length_le (Nat.le_refl _)] at hS
        have hle := HRe.out.rise.nodup.length_le_of_subset (fun y hy => by rw [hS]; exact step8_sub (ps := ps) ps out hy : ∀ y ∈ out, y ∈ o)
        have hR := HRn.out
        rw [reachGo, ← hS] at hR
        by_cases heq : o.length = out.length
        · have HRR : Hid (R = o) := by exact (by rw [hR, if_pos heq] : R = o)
          have hei : ((o.length : Int) == (out.length : Int)) = true := by rw [beq_iff_eq]; omega
          clear hR hS hle heq
          go_wp2
          go_ret
          exact ⟨g2, c2, by rw [HRR.out]; rfl, by rw [HRR.out]; exact HO2.out.own, HO2.out.h⟩
        · have HRR : Hid (R = reachGo ps n' o) := by exact (by rw [hR, if_neg heq] : R = reachGo ps n' o)
          have hei : ((o.length : Int) == (out.length : Int)) = false := by rw [beq_eq_false_iff_ne]; omega
          clear hR hS
          go_wp2
          go_roundw
          case rel => exact ⟨g2, c2, o, n', rfl, by omega, HO2, HRo, HRR⟩
          case measure => simp only [lenOf]; omega

end Go.Proofs.YtbojdcggnpdhcaaGreatDoor

/-! The contracts of chapter 8's specification: l8Needs, Order, Reaches, Needs. -/
namespace Go.Proofs.YtbojdcggnpdhcaaGreatDoor
open Go.RowKit

def keep8 (r : List (List UInt8)) (s x : List UInt8) : Bool := decide (x ≠ s ∧ x ∈ r)
theorem keep8_take (o r : List (List UInt8)) (s : List UInt8) (k : Nat) (hk : k < o.length) : (o.take (k + 1)).filter (keep8 r s) = (o.take k).filter (keep8 r s) ++ (if keep8 r s (o.getD k []) = true then [o.getD k []] else []) := by
  have e : o.getD k [] = o[k] := by simp [List.getD, hk]
  rw [List.take_succ_eq_append_getElem hk, List.filter_append, e]
  congr 1
  by_cases h : keep8 r s o[k] = true
  · rw [if_pos h]; simp [h]
  · rw [if_neg h]; simp [h]
theorem need8_keep (ps : List Pk) (s : List UInt8) : need8 ps s = (order8 ps).filter (keep8 (reach8 ps s) s) := rfl

set_option maxHeartbeats 4000000 in
set_option maxRecDepth 100000 in
theorem specNeed8 (a : Option Addr) (len cap : Nat) (ps : List Pk) (s : List UInt8) (w : World) (hin : PkgsIn w a len ps) (hp : projB ps = true) (hs : s ∈ names8 ps) :
    Calls Tryz.prog 27 #[.slice a len cap, .string ⟨s.toArray⟩] w fun e w' => ∃ v, e = .returned v ∧ w'.ownsRow w.heap.size 9 1 v (need8 ps s).length (strV (need8 ps s)) ∧ Below w.heap.size w w' := by
  have HC1 : Hid (_) := specReach8 a len cap ps s w hin hp hs
  have HC2 : Hid (_) := fun (V : World) (h : PkgsIn V a len ps) => specOrder8 a len cap ps V h hp
  have hrl := (reach8_end hs).1.len
  have hol := (order8_end hp).1.len
  have hl8 := (projB_parts hp).2.1
  have HI : Hid (PkgsIn w a len ps) := hin
  rw [need8_keep]
  generalize reach8 ps s = r at HC1 hrl ⊢
  generalize order8 ps = o at HC2 hol ⊢
  clear hin hp hs
  go_enter Tryz.func27, Tryz.ntmps27
  go_wp2_with fail
  refine Calls.mono HC1.out ?_
  rintro e w1 ⟨gr, cr, rfl, hr1, hb1⟩
  go_wp2_with fail
  refine Calls.mono (HC2.out _ (HI.out.below hb1)) ?_
  rintro e w2 ⟨vo, rfl, ho2, hb2⟩
  have hr2 := own_below hr1 hb2
  have hB2 := hb1.trans (hb2.mono hb1.size)
  obtain ⟨_, ao, co, rfl, hot⟩ := own_texts ho2
  have hrt : TextsIn w2 (some ⟨gr, 0, none⟩) r.length r := by
    obtain ⟨_, a', c', e, h⟩ := own_texts hr2
    injection e with e1 _ _
    subst e1
    exact h
  have hown0 := (World.ownsRow_lit (base := w2.heap.size) (e := 9) (size := 1) w2 #[] 0 (Nat.le_refl _) (by decide) rfl)
  have hbA : Below w2.heap.size w2 (w2.alloc (.cells #[] 9)) := (Below.refl _ _).alloc (Nat.le_refl _) _
  have HO0 : Hid ((w2.alloc (.cells #[] 9)).ownsRow w2.heap.size 9 1 (.slice (some ⟨w2.heap.size, 0, none⟩) 0 0) ((o.take 0).filter (keep8 r s)).length (strV ((o.take 0).filter (keep8 r s)))) := hown0
  have HB0 : Hid (Below w2.heap.size w2 (w2.alloc (.cells #[] 9))) := hbA
  have HOT : Hid (TextsIn w2 ao o.length o) := hot
  have HRT : Hid (TextsIn w2 (some ⟨gr, 0, none⟩) r.length r) := hrt
  have HB2 : Hid (Below w.heap.size w w2) := hB2
  clear hr1 hb1 ho2 hb2 hr2 hB2 hot hrt hown0 hbA HC1 HC2 HI
  go_wp2
  go_loopw [7, 8] (fun v iv wr => ∃ k : Nat, iv = .int .i64 (k : Int) ∧ k ≤ o.length ∧ Hid (wr.ownsRow w2.heap.size 9 1 v ((o.take k).filter (keep8 r s)).length (strV ((o.take k).filter (keep8 r s)))) ∧ Hid (Below w2.heap.size w2 wr)) (fun _ iv _ => o.length - (intOf iv).toNat)
  case atStart => exact ⟨0, rfl, by omega, HO0, HB0⟩
  case round =>
    obtain ⟨k, rfl, hk, HV, HB⟩ := hrel
    clear HO0 HB0
    obtain ⟨W3, rfl⟩ : ∃ W3, W3 = wr := ⟨_, rfl⟩
    by_cases hlt : (k : Int) < (o.length : Int)
    · have hk2 : k < o.length := by omega
      obtain ⟨b, off, rfl, hbl, c0⟩ := (HOT.out.below HB.out).2 k hk2
      have hst := keep8_take o r s k hk2
      have hfl : ((o.take k).filter (keep8 r s)).length ≤ k := Nat.le_trans (List.length_filter_le _ _) (by rw [List.length_take]; omega)
      obtain ⟨x, hx⟩ : ∃ x, o.getD k [] = x := ⟨_, rfl⟩
      rw [hx] at c0 hst
      have hkx : keep8 r s x = decide (x ≠ s ∧ x ∈ r) := rfl
      have HH : Hid (_) := specHas (some ⟨gr, 0, none⟩) r.length cr r x W3 (HRT.out.below HB.out) (by omega)
      obtain ⟨F, hF⟩ : ∃ F, (o.take k).filter (keep8 r s) = F := ⟨_, rfl⟩
      rw [hF] at hst hfl HV
      obtain ⟨F2, hF2⟩ : ∃ F2, (o.take (k + 1)).filter (keep8 r s) = F2 := ⟨_, rfl⟩
      rw [hF2] at hst
      have HF2 : Hid ((o.take (k + 1)).filter (keep8 r s) = F2) := hF2
      clear hx hF hF2
      by_cases hxs : x = s
      · have HV2 : Hid (W3.ownsRow w2.heap.size 9 1 u7 F2.length (strV F2)) := by
          exact (by rw [hst, if_neg (by rw [hkx, decide_eq_false (fun h => h.1 hxs)]; simp), List.append_nil]; exact HV.out : W3.ownsRow w2.heap.size 9 1 u7 F2.length (strV F2))
        subst hxs
        have hne : (x != x) = false := by simp
        clear hst hkx HV HH
        go_wp2
        go_roundw
        case rel => exact ⟨k + 1, by go_num, by omega, by rw [HF2.out]; exact HV2, HB⟩
        case measure => simp [intOf]; omega
      · have hne : (x != s) = true := by rw [bne_iff_ne]; exact hxs
        have hne2 : (x == s) = false := by rw [beq_eq_false_iff_ne]; exact hxs
        by_cases hxr : x ∈ r
        · rw [hkx, decide_eq_true ⟨hxs, hxr⟩, if_pos rfl] at hst
          rw [decide_eq_true hxr] at HH
          obtain ⟨v', Y, hrun, hv', hg⟩ := push_text x HV.out HB.out.size (by omega)
          have HV2 : Hid (Y.ownsRow w2.heap.size 9 1 v' F2.length (strV F2)) := by
            exact (by rw [hst, List.length_append, List.length_singleton]; exact hv' : Y.ownsRow w2.heap.size 9 1 v' F2.length (strV F2))
          have HBY : Hid (Below w2.heap.size w2 Y) := HB.out.grown hg HB.out.size (fun q e => (HV.out.lt q e).1)
          clear hst hkx hv' hg HV hxs hxr
          go_wp2_with (first | (go_at_call 45; refine Calls.mono HH.out ?_; rintro e w1 ⟨rfl, hw1⟩; obtain rfl := hw1.symm) | (at_builtin; refine wpList_append_run rfl (.tmp 35) (.tmp 40) 24 rfl _ _ _ rfl rfl hrun ?_; clear hrun))
          go_roundw
          case rel => exact ⟨k + 1, by go_num, by omega, by rw [HF2.out]; exact HV2, HBY⟩
          case measure => simp [intOf]; omega
        · have HV2 : Hid (W3.ownsRow w2.heap.size 9 1 u7 F2.length (strV F2)) := by
            exact (by rw [hst, if_neg (by rw [hkx, decide_eq_false (fun h => hxr h.2)]; simp), List.append_nil]; exact HV.out : W3.ownsRow w2.heap.size 9 1 u7 F2.length (strV F2))
          rw [decide_eq_false hxr] at HH
          clear hst hkx HV hxs hxr
          go_wp2_with (go_at_call 45; refine Calls.mono HH.out ?_; rintro e w1 ⟨rfl, hw1⟩; obtain rfl := hw1.symm)
          go_roundw
          case rel => exact ⟨k + 1, by go_num, by omega, by rw [HF2.out]; exact HV2, HB⟩
          case measure => simp [intOf]; omega
    · obtain rfl : k = o.length := by omega
      have hV := HV.out
      rw [List.take_of_length_le (Nat.le_refl _)] at hV
      have HVE : Hid (W3.ownsRow w2.heap.size 9 1 u7 (o.filter (keep8 r s)).length (strV (o.filter (keep8 r s)))) := hV
      have hsz := HB2.out.size
      have hBE := HB2.out.trans (HB.out.mono hsz)
      clear hV HV
      go_wp2
      go_ret
      exact ⟨_, rfl, own_base HVE.out hsz, hBE⟩




end Go.Proofs.YtbojdcggnpdhcaaGreatDoor

/-! What the bending of a text needs: a slice of bytes at the head of a block that is new since the call began, and an append's law at a step of a region that draws its order. -/
namespace Go.Proofs.YtbojdcggnpdhcaaGreatDoor
open Go.RowKit

/-- Block g, new since 'base', holds the bytes l from its head on, and they may be written. -/
structure RowB (w : World) (base g cap : Nat) (l : List UInt8) : Prop where
  new : base ≤ g
  there : g < w.heap.size
  room : l.length ≤ cap
  most : cap ≤ maxLen
  cells : ∀ j (hj : j < l.length), w.cell? ⟨g, j, none⟩ = some (.int .u8 (l[j].toNat : Int))
  free : ∀ j, j < l.length → w.frozen? ⟨g, j, none⟩ = false

theorem RowB.kept {w w' : World} {base g cap : Nat} {l : List UInt8} {row : Option Nat} (h : RowB w base g cap l) (hg : w.grownBy w' row) (hne : some g ≠ row) : RowB w' base g cap l := by
  have hb := hg.block g h.there hne
  exact ⟨h.new, Nat.lt_of_lt_of_le h.there hg.size, h.room, h.most, fun j hj => (World.cell?_of_block hb).trans (h.cells j hj), fun j hj => (World.frozen?_of_block hb).trans (h.free j hj)⟩

theorem RowB.base {w : World} {base base' g cap : Nat} {l : List UInt8} (h : RowB w base g cap l) (hb : base' ≤ base) : RowB w base' g cap l := ⟨Nat.le_trans hb h.new, h.there, h.room, h.most, h.cells, h.free⟩

theorem RowB.of_own {w : World} {base : Nat} {v : Value} {l : List UInt8} (h : w.ownsRow base 5 1 v l.length (bytesV l)) (hv : v ≠ .slice none 0 0) : ∃ g cap, v = .slice (some ⟨g, 0, none⟩) l.length cap ∧ RowB w base g cap l := by
  have hh := h
  obtain ⟨_, ⟨e, _⟩ | ⟨g, cap, cur, rfl, hb, hc, hn, hm, hs, ht⟩⟩ := hh
  · exact absurd e hv
  · refine ⟨g, cap, rfl, hb, (h.lt g rfl).2, hn, hm, ?_, ?_⟩
    · intro j hj
      have hx := World.ownsRow.cellAt h j (by omega)
      rw [hx]; simp [bytesV, List.getElem?_eq_getElem hj]
    · intro j hj
      exact World.ownsRow.frozenAt h j

theorem RowB.back {w : World} {base g cap : Nat} {l : List UInt8} (h : RowB w base g cap l) :
    (convert 68 9 (.slice (some ⟨g, 0, none⟩) l.length cap)).run Tryz.prog w = .ok (.string ⟨l.toArray⟩) w := by
  refine run_convert_bytes_back (P := Tryz.prog) w 68 9 5 ⟨g, 0, none⟩ cap l Tryz.underlying68 Tryz.underlying5 Tryz.underlying9 ?_
  intro j hj
  have e : (⟨g, 0, none⟩ : Addr).add j = ⟨g, j, none⟩ := by unfold Addr.add; split <;> simp_all
  rw [e]; exact h.cells j hj

theorem RowB.cut {w : World} {base g cap : Nat} {l : List UInt8} (h : RowB w base g cap l) (k : Nat) : RowB w base g cap (l.take k) := by
  have hl : (l.take k).length ≤ l.length := List.length_take_le' _ _
  refine ⟨h.new, h.there, Nat.le_trans hl h.room, h.most, ?_, ?_⟩
  · intro j hj
    rw [h.cells j (by omega)]
    simp
  · intro j hj; exact h.free j (by omega)

theorem RowB.store {w : World} {base g cap : Nat} {l : List UInt8} (h : RowB w base g cap l) (k : Nat) (hk : k < l.length) (x : UInt8) : RowB (w.setCell ⟨g, k, none⟩ (.int .u8 (x.toNat : Int))) base g cap (l.set k x) := by
  refine ⟨h.new, by simpa using h.there, by simpa using h.room, h.most, ?_, ?_⟩
  · intro j hj
    have hj' : j < l.length := by simpa using hj
    by_cases e : j = k
    · subst e
      rw [World.cell?_setCell_same _ _ _ (h.cells j hj')]
      simp
    · rw [World.cell?_setCell_other _ _ _ _ (by intro e2; injection e2 with _ e3; exact e e3.symm), h.cells j hj', List.getElem_set_ne (fun e2 => e e2.symm)]
  · intro j hj
    rw [World.frozen?_setCell]; exact h.free j (by simpa using hj)

theorem RowB.drew {w : World} {base g cap : Nat} {l : List UInt8} (h : RowB w base g cap l) : RowB w.drew base g cap l := ⟨h.new, h.there, h.room, h.most, h.cells, h.free⟩

/-- '[]byte(s)': the new block. -/
theorem RowB.made (w : World) (l : List UInt8) (hl : l.length ≤ maxLen) :
    RowB (w.drew.alloc (.cells (bytesRow ⟨l.toArray⟩ (grownCap w l.length 0 5)) 5 ((bytesRow ⟨l.toArray⟩ (grownCap w l.length 0 5)).size, (bytesRow ⟨l.toArray⟩ (grownCap w l.length 0 5)).size + 1))) w.heap.size w.heap.size (grownCap w l.length 0 5) l := by
  have hsz : l.length ≤ (bytesRow ⟨l.toArray⟩ (grownCap w l.length 0 5)).size := by simp [bytesRow]
  refine ⟨Nat.le_refl _, by simp, grownCap_ge _ _ _ _, grownCap_le_maxLen _ _ _ _ hl, ?_, ?_⟩
  · intro j hj
    show (w.alloc _).cell? ⟨w.heap.size, j, none⟩ = _
    rw [World.cell?_alloc_mark, bytesRow_at ⟨l.toArray⟩ _ j (by simpa using hj)]
    simp
  · intro j hj
    show (w.alloc _).frozen? ⟨w.heap.size, j, none⟩ = _
    rw [World.frozen?_alloc_mark]
    simp; omega

/-- 'append' onto a row of the call's own, at a step of a region that draws. -/
theorem step_append_own {P : Program} {w : World} {ops : Array Oper} {o : Oper} {a : Act} {K : Act → World → Prop} {Q : Exit → Act → World → Prop} {E : Prop} (hgd : o.guard = none) (s x : Operand) (t : TypeId)
    (ho : o.op = .call { callee := .builtin .append, args := #[s, x], argTypes := #[t, t] })
    (base : Nat) (e : TypeId) (i : TypeInfo) (z : Value) (size bytes : Nat) (ht : P.underlying t = some (.slice e)) (hi : P.info? e = some i) (hz : i.zero = some z)
    (hsize : i.size = size) (hby : i.bytes = bytes) (hzs : z.cells.size = size) (hsz : 0 < size)
    (v : Value) (n : Nat) (xs : List Value) (hs : a.eval s = v) (hown : w.ownsRow base e size v n xs)
    (ad : Addr) (m c : Nat) (news : List Value) (hx : a.eval x = .slice (some ad) m c) (hl : news.length = m * size) (hnews : ∀ j u, news[j]? = some u → w.cell? (ad.add j) = some u) (h1 : ∀ u ∈ news, u.oneCell' = true)
    (h63 : n + m ≤ maxLen) (hbytes : (n + m) * bytes ≤ 140737488355328) (hbase : base ≤ w.heap.size)
    (h : ∀ v' w', w'.ownsRow base e size v' (n + m) (xs ++ news) → w.grownBy w' v.ownBlock → (v' = .slice none 0 0 ↔ v = .slice none 0 0 ∧ m = 0) → K (a.put o.dst v') w') :
    if Region.wanted o (yielded ops a.tmps) = true then Oper.wp P o a w K Q else E := by
  have hw : Region.wanted o (yielded ops a.tmps) = true := by simp [Region.wanted, hgd]
  rw [if_pos hw]
  exact wp_append_own w s x t ho base e i z size bytes ht hi hz hsize hby hzs hsz v n xs hs hown ad m c news hx hl hnews h1 h63 hbytes hbase h

theorem bytesV_at (l : List UInt8) (j : Nat) (u : Value) (h : (bytesV l)[j]? = some u) : ∃ hj : j < l.length, u = .int .u8 (l[j].toNat : Int) := by
  unfold bytesV at h
  rw [List.getElem?_map] at h
  rcases hx : l[j]? with _ | x
  · rw [hx] at h; cases h
  · rw [hx] at h
    obtain ⟨hj, e⟩ := List.getElem?_eq_some_iff.1 hx
    injection h with h
    exact ⟨hj, by rw [e]; exact h.symm⟩

theorem bytesV_len (l : List UInt8) : (bytesV l).length = l.length := by simp [bytesV]

theorem bytesV_one (l : List UInt8) : ∀ u ∈ bytesV l, u.oneCell' = true := by
  intro u hu
  obtain ⟨x, _, rfl⟩ := List.mem_map.1 hu
  rfl

theorem add_plain (b off j : Nat) : (⟨b, off, none⟩ : Addr).add j = ⟨b, off + j, none⟩ := by unfold Addr.add; split <;> simp_all

/-- The cells of b[:k], as an append takes them. -/
theorem RowB.head {w : World} {base g cap : Nat} {l : List UInt8} (h : RowB w base g cap l) (k : Nat) : ∀ j u, (bytesV (l.take k))[j]? = some u → w.cell? ((⟨g, 0, none⟩ : Addr).add j) = some u := by
  intro j u hu
  obtain ⟨hj, rfl⟩ := bytesV_at _ _ _ hu
  have hl : (l.take k).length ≤ l.length := List.length_take_le' _ _
  rw [add_plain, Nat.zero_add, h.cells j (by omega)]
  simp

/-- The cells of b[k:], as an append takes them. -/
theorem RowB.tail {w : World} {base g cap : Nat} {l : List UInt8} (h : RowB w base g cap l) (k : Nat) : ∀ j u, (bytesV (l.drop k))[j]? = some u → w.cell? ((⟨g, k, none⟩ : Addr).add j) = some u := by
  intro j u hu
  obtain ⟨hj, rfl⟩ := bytesV_at _ _ _ hu
  have hj' : k + j < l.length := by rw [List.length_drop] at hj; omega
  rw [add_plain, h.cells (k + j) hj']
  simp

theorem own_empty (w : World) (base : Nat) (h : base ≤ w.heap.size) : (w.alloc (.cells #[] 5)).drew.ownsRow base 5 1 (.slice (some ⟨w.heap.size, 0, none⟩) 0 0) 0 [] :=
  (World.ownsRow_lit (base := base) (e := 5) (size := 1) w #[] 0 h (by decide) rfl).drew

theorem step_keep {w W W' : World} {B : Nat} {a : Option Addr} {len cap : Nat} {row : Option Nat} (hBlt : B < w.heap.size) (h : Cur W B a len cap ∧ w.grownBy W (some B)) (hg : W.grownBy W' row) (hrow : ∀ k, row = some k → w.heap.size ≤ k) :
    Cur W' B a len cap ∧ w.grownBy W' (some B) :=
  ⟨h.1.kept hg (fun k e => by have := hrow k e; omega), h.2.andThen hg (fun j e => Or.inl (hrow j e))⟩

theorem bytesV_append (a b : List UInt8) : bytesV a ++ bytesV b = bytesV (a ++ b) := by simp [bytesV]

/-- What a chain of appends leaves: a row of bytes. -/
theorem own_done {w : World} {base n : Nat} {v : Value} {xs : List Value} (l : List UInt8) (h : w.ownsRow base 5 1 v n xs) (hx : xs = bytesV l) (hn : n = l.length) (hv : v ≠ .slice none 0 0) : ∃ g cap, v = .slice (some ⟨g, 0, none⟩) l.length cap ∧ RowB w base g cap l := by
  subst hx hn
  exact RowB.of_own h hv

theorem own_ne {w : World} {base e size n g : Nat} {v : Value} {xs : List Value} (h : w.ownsRow base e size v n xs) (hg : g < base) : some g ≠ v.ownBlock := by
  intro e2
  have := (h.lt g e2.symm).1
  omega

theorem size_empty (w : World) : w.heap.size ≤ (w.alloc (.cells #[] 5)).drew.heap.size := by simp
theorem size_one (w : World) (x : Value) (n : Nat) (h : n ≤ w.heap.size) : n ≤ (w.alloc (.cells #[x] 5)).heap.size := by simp; omega
theorem row_empty (w : World) : ∀ k, Value.ownBlock (.slice (some ⟨w.heap.size, 0, none⟩) 0 0) = some k → w.heap.size ≤ k := by
  intro k e; injection e with e; exact Nat.le_of_eq e
theorem ne_empty (w : World) (b : Nat) (h : b < w.heap.size) : some b ≠ Value.ownBlock (.slice (some ⟨w.heap.size, 0, none⟩) 0 0) := by
  intro e; injection e with e; simp at e; omega
theorem ne_some {b B : Nat} (h : B < b) : some b ≠ some B := by
  intro e; injection e with e; omega

end Go.Proofs.YtbojdcggnpdhcaaGreatDoor

/-! The contract of l1Bend: a text that is bent at most twice. -/
namespace Go.Proofs.YtbojdcggnpdhcaaGreatDoor
open Go.RowKit


end Go.Proofs.YtbojdcggnpdhcaaGreatDoor
