/-
  Parts of one proof, one behind the other: ProjS5, ProjS6, Bend1, Bend2, RowW, PackS4, TreeS4, TreeS5, PackC, NodeL, PackC2, PackS5.
-/
import Derived.Test.YtmloocbbcnhooaaGreatDoorP8
import Derived.Test.YtmloocbbcnhooaaGreatDoorP2
import Derived.Deep.RegionHeld3
import Derived.Deep.RegionLaw
import Derived.Deep.DrawnRows
import Derived.Laws.IdiomCopy
import Derived.Test.YtmloocbbcnhooaaGreatDoorP6
import Derived.Deep.RegionWith

/-! The contracts of chapter 8's specification: l8Reaches. -/
namespace Go.Proofs.YtmloocbbcnhooaaGreatDoor
open Go.RowKit

theorem step8_take (ps qs : List Pk) (o : List (List UInt8)) (k : Nat) (hk : k < qs.length) : step8 ps (qs.take (k + 1)) o = pass8 ps (step8 ps (qs.take k) o) (qs.getD k pk0) := by
  have e : qs.getD k pk0 = qs[k] := by simp [List.getD, hk]
  unfold step8
  rw [List.take_succ_eq_append_getElem hk, List.foldl_append, e]
  rfl
theorem inner8_take (ps : List Pk) (o ms : List (List UInt8)) (k : Nat) (hk : k < ms.length) : inner8 ps o (ms.take (k + 1)) = in8 ps (inner8 ps o (ms.take k)) (ms.getD k []) := by
  have e : ms.getD k [] = ms[k] := by simp [List.getD, hk]
  unfold inner8
  rw [List.take_succ_eq_append_getElem hk, List.foldl_append, e]
  rfl
theorem in8_at (ps : List Pk) (o : List (List UInt8)) (m : List UInt8) : in8 ps o m = if at8 ps m < 0 then o else put8 o m := by
  unfold in8
  have h := at8_mem ps m
  by_cases hm : m ∈ names8 ps
  · rw [if_pos hm, if_neg (by have := h.2 hm; omega)]
  · rw [if_neg hm, if_pos (by
      rcases Int.lt_or_le (at8 ps m) 0 with g | g
      · exact g
      · exact absurd (h.1 g) hm)]
theorem Re8.prefix {ps : List Pk} {s : List UInt8} {o : List (List UInt8)} (h : Re8 ps s o) (k : Nat) : Re8 ps s (step8 ps (ps.take k) o) := Re8.step _ _ (fun _ hq => List.mem_of_mem_take hq) h
theorem Re8.part {ps : List Pk} {s : List UInt8} {o : List (List UInt8)} (h : Re8 ps s o) {p : Pk} (hp : p ∈ ps) (hpo : p.1 ∈ o) (i : Nat) : Re8 ps s (inner8 ps o (p.2.1.take i)) := Re8.inner hp _ _ h hpo (fun _ hm => List.mem_of_mem_take hm)

/-- What l8Reaches holds of a list of names. -/
structure Ro8 (w X : World) (ps : List Pk) (g c : Nat) (o : List (List UInt8)) : Prop where
  own : X.ownsRow w.heap.size 9 1 (.slice (some ⟨g, 0, none⟩) o.length c) o.length (strV o)
  h : Below w.heap.size w X
theorem Ro8.texts {w X : World} {ps : List Pk} {g c : Nat} {o : List (List UInt8)} (r : Ro8 w X ps g c o) : TextsIn X (some ⟨g, 0, none⟩) o.length o := by
  obtain ⟨_, a', c', e, h⟩ := own_texts r.own
  injection e with e1 _ _
  subst e1
  exact h

set_option maxHeartbeats 4000000 in
set_option maxRecDepth 100000 in
theorem specReach8 (a : Option Addr) (len cap : Nat) (ps : List Pk) (s : List UInt8) (w : World) (hin : PkgsIn w a len ps) (hp : projB ps = true) (hs : s ∈ names8 ps) :
    Calls Tryz.prog 34 #[.slice a len cap, .string ⟨s.toArray⟩] w fun e w' => ∃ g c, e = .returned (.slice (some ⟨g, 0, none⟩) (reach8 ps s).length c) ∧ w'.ownsRow w.heap.size 9 1 (.slice (some ⟨g, 0, none⟩) (reach8 ps s).length c) (reach8 ps s).length (strV (reach8 ps s)) ∧ Below w.heap.size w w' := by
  obtain rfl : ps.length = len := hin.1
  obtain ⟨_, hlen8, hpk⟩ := projB_parts hp
  have HPK : Hid (∀ p ∈ ps, pkgB p = true) := hpk
  have hl8 : (ps.length : Int) ≤ 8 := by omega
  have HI : Hid (PkgsIn w a ps.length ps) := hin
  have hown0 := (World.ownsRow_lit (base := w.heap.size) (e := 9) (size := 1) w #[.string ⟨s.toArray⟩] 1 (Nat.le_refl _) (by decide) rfl)
  have hbA : Below w.heap.size w (w.alloc (.cells #[.string ⟨s.toArray⟩] 9)) := (Below.refl _ _).alloc (Nat.le_refl _) _
  have HO0 : Hid (Ro8 w (w.alloc (.cells #[.string ⟨s.toArray⟩] 9)) ps w.heap.size 1 [s]) := ⟨hown0, hbA⟩
  have HR0 : Hid (reach8 ps s = reachGo ps (ps.length + 1) [s]) := rfl
  have HE : Hid (Re8 ps s [s]) := re8_one hs
  generalize reach8 ps s = R at HR0 ⊢
  clear hin hp hpk hown0 hbA hs
  go_enter Tryz.func34, Tryz.ntmps34
  go_wp2
  go_loopw [5] (fun v wr => ∃ (g c : Nat) (out : List (List UInt8)) (n : Nat), v = .slice (some ⟨g, 0, none⟩) out.length c ∧ ps.length < n + out.length ∧ Hid (Ro8 w wr ps g c out) ∧ Hid (Re8 ps s out) ∧ Hid (R = reachGo ps n out)) (fun v _ => ps.length + 1 - lenOf v)
  case atStart => exact ⟨w.heap.size, 1, [s], ps.length + 1, rfl, by simp only [List.length_singleton]; omega, HO0, HE, HR0⟩
  case round =>
    obtain ⟨g, c, out, n, rfl, hn, HO, HRe, HRn⟩ := hrel
    clear HO0 HE HR0
    have hol := HRe.out.len
    obtain ⟨n', rfl⟩ : ∃ n', n = n' + 1 := ⟨n - 1, by omega⟩
    go_wp2
    go_loopw [5, 7] (fun v iv wx => ∃ (g2 c2 k : Nat) (o : List (List UInt8)), v = .slice (some ⟨g2, 0, none⟩) o.length c2 ∧ iv = .int .i64 (k : Int) ∧ k ≤ ps.length ∧ Hid (o = step8 ps (ps.take k) out) ∧ Hid (Ro8 w wx ps g2 c2 o)) (fun _ iv _ => ps.length - (intOf iv).toNat)
    case atStart => exact ⟨g, c, 0, out, rfl, rfl, by omega, (rfl : out = step8 ps (ps.take 0) out), HO⟩
    case round =>
      obtain ⟨g2, c2, k, o, rfl, rfl, hk, HS, HO2⟩ := hrel
      have HRo : Hid (Re8 ps s o) := by exact (by rw [HS.out]; exact HRe.out.prefix k : Re8 ps s o)
      have hol2 := HRo.out.len
      by_cases hlt : (k : Int) < (ps.length : Int)
      · have hk2 : k < ps.length := by omega
        have hst := step8_take ps ps out k hk2
        rw [← HS.out] at hst
        have hpm : ps.getD k pk0 ∈ ps := by simp [List.getD, hk2]
        have hpi : pkgB (ps.getD k pk0) = true := HPK.out _ hpm
        obtain ⟨b, off, ea, _, _⟩ := HI.out.2 k hk2
        subst ea
        obtain ⟨p, hp⟩ : ∃ p, ps.getD k pk0 = p := ⟨_, rfl⟩
        have HPI : Hid (ps.getD k pk0 = p) := hp
        rw [hp] at hst hpm hpi
        clear hp
        obtain ⟨x, ims, fs⟩ := p
        have hi6 := (pkgB_parts hpi).2.2.1
        simp only at hi6
        have HST : Hid (step8 ps (ps.take (k + 1)) out = pass8 ps o (x, ims, fs)) := hst
        have HPM : Hid ((x, ims, fs) ∈ ps) := hpm
        clear hst hpm hpi
        go_wp2
        go_loopw [5, 8] (fun v iv wy => ∃ (g3 c3 i : Nat) (q : List (List UInt8)), v = .slice (some ⟨g3, 0, none⟩) q.length c3 ∧ iv = .int .i64 (i : Int) ∧ i ≤ ims.length ∧ Hid ((i = 0 ∧ q = o) ∨ (x ∈ o ∧ q = inner8 ps o (ims.take i))) ∧ Hid (Ro8 w wy ps g3 c3 q)) (fun _ iv _ => ims.length - (intOf iv).toNat)
        case atStart => exact ⟨g2, c2, 0, o, rfl, rfl, by omega, (Or.inl ⟨rfl, rfl⟩ : (0 = 0 ∧ o = o) ∨ _), HO2⟩
        case round =>
          obtain ⟨g3, c3, i, q, rfl, rfl, hi, HQ, HO3⟩ := hrel
          obtain ⟨W3, rfl⟩ : ∃ W3, W3 = wr := ⟨_, rfl⟩
          have hin3 := HI.out.below HO3.out.h
          obtain ⟨b', off', ea, hbl, c0, ia, il, ic, fa, fl, fc, c1, c2', hii, _⟩ := hin3.2 k hk2
          simp only [Option.some.injEq, Addr.mk.injEq, and_true] at ea
          obtain ⟨rfl, rfl⟩ := ea
          rw [HPI.out] at c0 hii
          simp only at c0 hii
          obtain rfl : ims.length = il := hii.1
          have HII : Hid (TextsIn W3 ia ims.length ims) := hii
          have HP3 : Hid (PkgsIn W3 (some ⟨b, off, none⟩) ps.length ps) := hin3
          have hql : q.length ≤ ps.length := by
            rcases HQ.out with ⟨_, e⟩ | ⟨hx, e⟩
            · rw [e]; exact hol2
            · rw [e]; exact (HRo.out.part HPM.out hx i).len
          have HT3 : Hid (TextsIn W3 (some ⟨g3, 0, none⟩) q.length q) := HO3.out.texts
          clear hii hin3 c2'
          by_cases hil : (i : Int) < (ims.length : Int)
          · have hi2 : i < ims.length := by omega
            have HH : Hid (_) := specHas (some ⟨g3, 0, none⟩) q.length c3 q x W3 HT3.out (by omega)
            by_cases hxq : x ∈ q
            · have hxo : x ∈ o := by
                rcases HQ.out with ⟨_, e⟩ | ⟨hx, _⟩
                · rw [← e]; exact hxq
                · exact hx
              have hqe : q = inner8 ps o (ims.take i) := by
                rcases HQ.out with ⟨e0, e⟩ | ⟨_, e⟩
                · rw [e0, e]; rfl
                · exact e
              obtain ⟨b4, off4, rfl, _, d0⟩ := HII.out.2 i hi2
              have hst := inner8_take ps o ims i hi2
              rw [← hqe] at hst
              obtain ⟨m, hm⟩ : ∃ m, ims.getD i [] = m := ⟨_, rfl⟩
              rw [hm] at d0 hst
              rw [in8_at] at hst
              rw [decide_eq_true hxq] at HH
              have HA : Hid (_) := specAt8 (some ⟨b, off, none⟩) ps.length cap ps m W3 HP3.out (by omega)
              have HXO : Hid (x ∈ o) := hxo
              obtain ⟨z, hz⟩ : ∃ z, at8 ps m = z := ⟨_, rfl⟩
              rw [hz] at HA hst
              clear hz hm hqe hxo hxq
              by_cases hz0 : z < 0
              · have HQ2 : Hid ((i + 1 = 0 ∧ q = o) ∨ (x ∈ o ∧ q = inner8 ps o (ims.take (i + 1)))) := Or.inr ⟨HXO.out, by rw [hst, if_pos hz0]⟩
                have hz1 : ¬ 0 ≤ z := by omega
                clear hst HQ
                go_wp2_with (first | (go_at_call 50; refine Calls.mono HH.out ?_; rintro e w1 ⟨rfl, hw1⟩; obtain rfl := hw1.symm) | (go_at_call 27; refine Calls.mono HA.out ?_; rintro e w1 ⟨rfl, hw1⟩; obtain rfl := hw1.symm))
                go_roundw
                case rel => exact ⟨g3, c3, i + 1, q, rfl, by go_num, by omega, HQ2, HO3⟩
                case measure => simp [intOf]; omega
              · have HQ2 : Hid ((i + 1 = 0 ∧ put8 q m = o) ∨ (x ∈ o ∧ put8 q m = inner8 ps o (ims.take (i + 1)))) := Or.inr ⟨HXO.out, by rw [hst, if_neg hz0]⟩
                have HPu : Hid (_) := specPut w.heap.size g3 c3 q m W3 HO3.out.own HO3.out.h.size (by omega)
                have hz1 : 0 ≤ z := by omega
                clear hst HQ
                go_wp2_with (first | (go_at_call 50; refine Calls.mono HH.out ?_; rintro e w1 ⟨rfl, hw1⟩; obtain rfl := hw1.symm) | (go_at_call 27; refine Calls.mono HA.out ?_; rintro e w1 ⟨rfl, hw1⟩; obtain rfl := hw1.symm) | (go_at_call 39; refine Calls.mono HPu.out ?_; rintro e w4 ⟨g4, c4, rfl, ho4, hb4⟩))
                have HO4 : Hid (Ro8 w w4 ps g4 c4 (put8 q m)) := ⟨ho4, HO3.out.h.trans (hb4.mono HO3.out.h.size)⟩
                go_roundw
                case rel => exact ⟨g4, c4, i + 1, put8 q m, rfl, by go_num, by omega, HQ2, HO4⟩
                case measure => simp [intOf]; omega
            · have hqo : q = o ∧ ¬ x ∈ o := by
                rcases HQ.out with ⟨_, e⟩ | ⟨hx, e⟩
                · exact ⟨e, by rw [← e]; exact hxq⟩
                · exact absurd (by rw [e]; exact inner8_sub _ _ hx) hxq
              rw [decide_eq_false hxq] at HH
              have HS2 : Hid (q = step8 ps (ps.take (k + 1)) out) := by exact (by rw [HST.out, hqo.1]; unfold pass8; rw [if_neg hqo.2] : q = step8 ps (ps.take (k + 1)) out)
              clear hqo hxq HQ
              go_wp2_with (go_at_call 50; refine Calls.mono HH.out ?_; rintro e w1 ⟨rfl, hw1⟩; obtain rfl := hw1.symm)
              go_roundw
              case rel => exact ⟨g3, c3, k + 1, q, rfl, by go_num, by omega, HS2, HO3⟩
              case measure => simp [intOf]; omega
          · obtain rfl : i = ims.length := by omega
            have hqe : q = pass8 ps o (x, ims, fs) := by
              unfold pass8
              rcases HQ.out with ⟨e0, e⟩ | ⟨hx, e⟩
              · have hn0 : ims = [] := List.eq_nil_of_length_eq_zero e0
                rw [e, hn0]
                split <;> rfl
              · rw [if_pos hx, e, List.take_of_length_le (Nat.le_refl _)]
            have HS2 : Hid (q = step8 ps (ps.take (k + 1)) out) := by exact (by rw [HST.out]; exact hqe : q = step8 ps (ps.take (k + 1)) out)
            clear hqe HQ
            go_wp2
            go_roundw
            case rel => exact ⟨g3, c3, k + 1, q, rfl, by go_num, by omega, HS2, HO3⟩
            case measure => simp [intOf]; omega
      · obtain rfl : k = ps.length := by omega
        have hS := HS.out
        rw [List.take_of_length_le (Nat.le_refl _)] at hS
        have hle := HRe.out.rise.nodup.length_le_of_subset (fun y hy => by rw [hS]; exact step8_sub (ps := ps) ps out hy : ∀ y ∈ out, y ∈ o)
        have hR := HRn.out
        rw [reachGo, ← hS] at hR
        by_cases heq : o.length = out.length
        · have HRR : Hid (R = o) := by exact (by rw [hR, if_pos heq] : R = o)
          have hei : ((o.length : Int) == (out.length : Int)) = true := by rw [beq_iff_eq]; omega
          clear hR hS hle heq
          go_wp2
          go_ret
          exact ⟨g2, c2, by rw [HRR.out]; rfl, by rw [HRR.out]; exact HO2.out.own, HO2.out.h⟩
        · have HRR : Hid (R = reachGo ps n' o) := by exact (by rw [hR, if_neg heq] : R = reachGo ps n' o)
          have hei : ((o.length : Int) == (out.length : Int)) = false := by rw [beq_eq_false_iff_ne]; omega
          clear hR hS
          go_wp2
          go_roundw
          case rel => exact ⟨g2, c2, o, n', rfl, by omega, HO2, HRo, HRR⟩
          case measure => simp only [lenOf]; omega

end Go.Proofs.YtmloocbbcnhooaaGreatDoor

/-! The contracts of chapter 8's specification: l8Needs, Order, Reaches, Needs. -/
namespace Go.Proofs.YtmloocbbcnhooaaGreatDoor
open Go.RowKit

def keep8 (r : List (List UInt8)) (s x : List UInt8) : Bool := decide (x ≠ s ∧ x ∈ r)
set_option maxHeartbeats 1000000 in
set_option maxRecDepth 100000 in
theorem specReaches (a : Option Addr) (len cap : Nat) (ps : List Pk) (s : List UInt8) (w : World) (hin : PkgsIn w a len ps) (hlen : len ≤ 1048576) (hsh : ShortPs ps) :
    Calls Tryz.prog 15 #[.slice a len cap, .string ⟨s.toArray⟩] w fun e w' => ∃ v, e = .returned v ∧ w'.ownsRow w.heap.size 9 1 v (reachV ps s).length (strV (reachV ps s)) ∧ Below w.heap.size w w' := by
  have HC : Hid (_) := specProjectOk a len cap ps w hin hlen hsh
  have HA : Hid (_) := fun (V : World) (h : PkgsIn V a len ps) => specAt8 a len cap ps s V h hlen
  have HI : Hid (PkgsIn w a len ps) := hin
  have hh : hereB ps s = (projB ps && decide (0 ≤ at8 ps s)) := rfl
  have hmem := (at8_mem ps s).1
  rcases hp : projB ps with _ | _
  · have HV : Hid (reachV ps s = []) := by exact (by unfold reachV; rw [if_neg (by rw [hh, hp]; simp)] : reachV ps s = [])
    rw [hp] at HC
    clear hin hsh hp hh hmem
    go_enter Tryz.func15, Tryz.ntmps15
    go_wp2_with fail
    refine Calls.mono HC.out ?_
    rintro e w1 ⟨rfl, hb1⟩
    have ho := (World.ownsRow_lit (base := w.heap.size) (e := 9) (size := 1) w1 #[] 0 hb1.size (by decide) rfl)
    go_wp2
    go_ret
    exact ⟨_, rfl, by rw [HV.out]; exact ho, hb1.alloc hb1.size _⟩
  · by_cases h0 : at8 ps s < 0
    · have HV : Hid (reachV ps s = []) := by exact (by unfold reachV; rw [if_neg (by rw [hh, hp, decide_eq_false (show ¬ 0 ≤ at8 ps s by omega)]; simp)] : reachV ps s = [])
      rw [hp] at HC
      generalize at8 ps s = z at HA h0
      clear hin hsh hp hh hmem
      go_enter Tryz.func15, Tryz.ntmps15
      go_wp2_with fail
      refine Calls.mono HC.out ?_
      rintro e w1 ⟨rfl, hb1⟩
      have HA1 : Hid (_) := HA.out w1 (HI.out.below hb1)
      have ho := (World.ownsRow_lit (base := w.heap.size) (e := 9) (size := 1) w1 #[] 0 hb1.size (by decide) rfl)
      have HO : Hid ((w1.alloc (.cells #[] 9)).ownsRow w.heap.size 9 1 (.slice (some ⟨w1.heap.size, 0, none⟩) 0 0) 0 (strV [])) := ho
      clear HA ho
      go_wp2_with (go_at_call 27; refine Calls.mono HA1.out ?_; rintro e w2 ⟨rfl, hw2⟩; obtain rfl := hw2.symm)
      go_ret
      exact ⟨_, rfl, by rw [HV.out]; exact HO.out, hb1.alloc hb1.size _⟩
    · have HV : Hid (reachV ps s = reach8 ps s) := by exact (by unfold reachV; rw [if_pos (by rw [hh, hp, decide_eq_true (show 0 ≤ at8 ps s by omega)]; rfl)] : reachV ps s = reach8 ps s)
      have hs := hmem (by omega)
      have HC2 : Hid (_) := fun (V : World) (h : PkgsIn V a len ps) => specReach8 a len cap ps s V h hp hs
      rw [hp] at HC
      generalize at8 ps s = z at HA h0
      have h1 : ¬ z < 0 := h0
      clear hin hsh hp hh hmem hs h0
      go_enter Tryz.func15, Tryz.ntmps15
      go_wp2_with fail
      refine Calls.mono HC.out ?_
      rintro e w1 ⟨rfl, hb1⟩
      have HA1 : Hid (_) := HA.out w1 (HI.out.below hb1)
      have HC3 : Hid (_) := HC2.out w1 (HI.out.below hb1)
      clear HA HC2
      go_wp2_with (first | (go_at_call 27; refine Calls.mono HA1.out ?_; rintro e w2 ⟨rfl, hw2⟩; obtain rfl := hw2.symm) | (go_at_call 34; refine Calls.mono HC3.out ?_; rintro e w3 ⟨g3, c3, rfl, hv, hb3⟩))
      go_ret
      exact ⟨_, rfl, by rw [HV.out]; exact own_base hv hb1.size, hb1.trans (hb3.mono hb1.size)⟩


end Go.Proofs.YtmloocbbcnhooaaGreatDoor

/-! What the bending of a text needs: a slice of bytes at the head of a block that is new since the call began, and an append's law at a step of a region that draws its order. -/
namespace Go.Proofs.YtmloocbbcnhooaaGreatDoor
open Go.RowKit

/-- Block g, new since 'base', holds the bytes l from its head on, and they may be written. -/
structure RowB (w : World) (base g cap : Nat) (l : List UInt8) : Prop where
  new : base ≤ g
  there : g < w.heap.size
  room : l.length ≤ cap
  most : cap ≤ maxLen
  cells : ∀ j (hj : j < l.length), w.cell? ⟨g, j, none⟩ = some (.int .u8 (l[j].toNat : Int))
  free : ∀ j, j < l.length → w.frozen? ⟨g, j, none⟩ = false

theorem RowB.kept {w w' : World} {base g cap : Nat} {l : List UInt8} {row : Option Nat} (h : RowB w base g cap l) (hg : w.grownBy w' row) (hne : some g ≠ row) : RowB w' base g cap l := by
  have hb := hg.block g h.there hne
  exact ⟨h.new, Nat.lt_of_lt_of_le h.there hg.size, h.room, h.most, fun j hj => (World.cell?_of_block hb).trans (h.cells j hj), fun j hj => (World.frozen?_of_block hb).trans (h.free j hj)⟩

theorem RowB.base {w : World} {base base' g cap : Nat} {l : List UInt8} (h : RowB w base g cap l) (hb : base' ≤ base) : RowB w base' g cap l := ⟨Nat.le_trans hb h.new, h.there, h.room, h.most, h.cells, h.free⟩

theorem RowB.drew {w : World} {base g cap : Nat} {l : List UInt8} (h : RowB w base g cap l) : RowB w.drew base g cap l := ⟨h.new, h.there, h.room, h.most, h.cells, h.free⟩

/-- '[]byte(s)': the new block. -/
theorem RowB.made (w : World) (l : List UInt8) (hl : l.length ≤ maxLen) :
    RowB (w.drew.alloc (.cells (bytesRow ⟨l.toArray⟩ (grownCap w l.length 0 5)) 5 ((bytesRow ⟨l.toArray⟩ (grownCap w l.length 0 5)).size, (bytesRow ⟨l.toArray⟩ (grownCap w l.length 0 5)).size + 1))) w.heap.size w.heap.size (grownCap w l.length 0 5) l := by
  have hsz : l.length ≤ (bytesRow ⟨l.toArray⟩ (grownCap w l.length 0 5)).size := by simp [bytesRow]
  refine ⟨Nat.le_refl _, by simp, grownCap_ge _ _ _ _, grownCap_le_maxLen _ _ _ _ hl, ?_, ?_⟩
  · intro j hj
    show (w.alloc _).cell? ⟨w.heap.size, j, none⟩ = _
    rw [World.cell?_alloc_mark, bytesRow_at ⟨l.toArray⟩ _ j (by simpa using hj)]
    simp
  · intro j hj
    show (w.alloc _).frozen? ⟨w.heap.size, j, none⟩ = _
    rw [World.frozen?_alloc_mark]
    simp; omega

theorem bytesV_at (l : List UInt8) (j : Nat) (u : Value) (h : (bytesV l)[j]? = some u) : ∃ hj : j < l.length, u = .int .u8 (l[j].toNat : Int) := by
  unfold bytesV at h
  rw [List.getElem?_map] at h
  rcases hx : l[j]? with _ | x
  · rw [hx] at h; cases h
  · rw [hx] at h
    obtain ⟨hj, e⟩ := List.getElem?_eq_some_iff.1 hx
    injection h with h
    exact ⟨hj, by rw [e]; exact h.symm⟩

theorem add_plain (b off j : Nat) : (⟨b, off, none⟩ : Addr).add j = ⟨b, off + j, none⟩ := by unfold Addr.add; split <;> simp_all

/-- The cells of b[k:], as an append takes them. -/
theorem RowB.tail {w : World} {base g cap : Nat} {l : List UInt8} (h : RowB w base g cap l) (k : Nat) : ∀ j u, (bytesV (l.drop k))[j]? = some u → w.cell? ((⟨g, k, none⟩ : Addr).add j) = some u := by
  intro j u hu
  obtain ⟨hj, rfl⟩ := bytesV_at _ _ _ hu
  have hj' : k + j < l.length := by rw [List.length_drop] at hj; omega
  rw [add_plain, h.cells (k + j) hj']
  simp

end Go.Proofs.YtmloocbbcnhooaaGreatDoor

/-! The contract of l1Bend: a text that is bent at most twice. -/
namespace Go.Proofs.YtmloocbbcnhooaaGreatDoor
open Go.RowKit


end Go.Proofs.YtmloocbbcnhooaaGreatDoor

/-! A row of bytes that a call has made of a string ('[]byte(s)'), and 'append(b, s...)' onto it, whether there is room or not. -/
namespace Go.Proofs.YtmloocbbcnhooaaGreatDoor
open Go.RowKit

/-- Block g, new since 'base', holds the bytes l from its head on; all of its cap cells may be written. -/
structure RowW (w : World) (base g cap : Nat) (l : List UInt8) : Prop where
  row : RowB w base g cap l
  all : ∀ j, j < cap → (w.cell? ⟨g, j, none⟩).isSome = true ∧ w.frozen? ⟨g, j, none⟩ = false

theorem RowW.kept {w w' : World} {base g cap : Nat} {l : List UInt8} {row : Option Nat} (h : RowW w base g cap l) (hg : w.grownBy w' row) (hne : some g ≠ row) : RowW w' base g cap l := by
  have hb := hg.block g h.row.there hne
  exact ⟨h.row.kept hg hne, fun j hj => by rw [World.cell?_of_block (a := ⟨g, j, none⟩) hb, World.frozen?_of_block (a := ⟨g, j, none⟩) hb]; exact h.all j hj⟩

theorem RowW.below {w w' : World} {base g cap : Nat} {l : List UInt8} (h : RowW w base g cap l) (hb : Below w.heap.size w w') : RowW w' base g cap l :=
  h.kept (row := none) ⟨hb.os, hb.tape, hb.output, hb.size, fun k hk _ => hb.block k hk⟩ (by simp)

theorem RowW.drew {w : World} {base g cap : Nat} {l : List UInt8} (h : RowW w base g cap l) : RowW w.drew base g cap l :=
  h.below ⟨rfl, rfl, rfl, Nat.le_refl _, fun _ _ => rfl⟩

/-- '[]byte(s)': the new block, its value and its world. -/
theorem RowW.made (w : World) (l : List UInt8) (hl : l.length ≤ 4194304) :
    ∃ cap w', (convert 9 22 (.string ⟨l.toArray⟩)).run Tryz.prog w = .ok (.slice (some ⟨w.heap.size, 0, none⟩) l.length cap) w' ∧ RowW w' w.heap.size w.heap.size cap l ∧ Below w.heap.size w w' := by
  have hconv := run_bytes_of_string (P := Tryz.prog) w 9 22 5 ⟨l.toArray⟩ Tryz.underlying9 Tryz.underlying22 Tryz.underlying5
  have hrow := RowB.made w l (by unfold maxLen; omega)
  have hszs : (⟨l.toArray⟩ : ByteArray).size = l.length := rfl
  rw [hszs] at hconv
  have hge := grownCap_ge w l.length 0 5
  have hCs : (bytesRow ⟨l.toArray⟩ (grownCap w l.length 0 5)).size = grownCap w l.length 0 5 := by simp [bytesRow]; omega
  generalize bytesRow ⟨l.toArray⟩ (grownCap w l.length 0 5) = C at hconv hrow hCs
  generalize grownCap w l.length 0 5 = cp at hconv hrow hge hCs
  refine ⟨cp, _, hconv, ⟨hrow, fun j hj => ?_⟩, ((Below.refl _ w).drew).alloc (Nat.le_refl _) _⟩
  have hA : (w.drew.alloc (.cells C 5 (C.size, C.size + 1))).heap[w.heap.size]? = some (.cells C 5 (C.size, C.size + 1)) := heap_alloc_new w.drew _
  generalize w.drew.alloc (.cells C 5 (C.size, C.size + 1)) = W at hA ⊢
  refine ⟨?_, ?_⟩
  · simp [World.cell?, hA]; omega
  · simp [World.frozen?, hA]; omega

end Go.Proofs.YtmloocbbcnhooaaGreatDoor

/-! The contracts of chapter 7's specification: l7Show, ShowPackage. -/
namespace Go.Proofs.YtmloocbbcnhooaaGreatDoor
open Go.RowKit

/-- A line with its end. -/
def lineT (x : List UInt8) : List UInt8 := x ++ [10]

/-- What a round of l7Show's second loop holds: the function's own block, the row that is written, the function's tree. -/
structure ShSt (X W : World) (B F g cap : Nat) (l s : List UInt8) (n : Int) (t : List Nd) (ta : Option Addr) (tl tc : Nat) : Prop where
  c0 : X.cell? ⟨F, 0, none⟩ = some (.string ⟨s.toArray⟩)
  c1 : X.cell? ⟨F, 1, none⟩ = some (.int .i64 n)
  c2 : X.cell? ⟨F, 2, none⟩ = some (.slice ta tl tc)
  ne : g ≠ F
  row : RowW X B g cap l
  nodes : NodesIn X ta tl t
  b : Below B W X
  bs : B ≤ X.heap.size

theorem ShSt.below {X Y W : World} {B F g cap : Nat} {l s : List UInt8} {n : Int} {t : List Nd} {ta : Option Addr} {tl tc : Nat} (h : ShSt X W B F g cap l s n t ta tl tc) (hb : Below X.heap.size X Y) : ShSt Y W B F g cap l s n t ta tl tc :=
  have hl : F < X.heap.size := World.block_lt_of_cell? X ⟨F, 0, none⟩ h.c0
  ⟨(hb.cell (p := ⟨F, 0, none⟩) hl).trans h.c0, (hb.cell (p := ⟨F, 1, none⟩) hl).trans h.c1, (hb.cell (p := ⟨F, 2, none⟩) hl).trans h.c2, h.ne, h.row.below hb, h.nodes.below hb, h.b.trans (hb.mono h.bs), Nat.le_trans h.bs hb.size⟩

theorem ShSt.drew {X W : World} {B F g cap : Nat} {l s : List UInt8} {n : Int} {t : List Nd} {ta : Option Addr} {tl tc : Nat} (h : ShSt X W B F g cap l s n t ta tl tc) : ShSt X.drew W B F g cap l s n t ta tl tc :=
  h.below ⟨rfl, rfl, rfl, Nat.le_refl _, fun _ _ => rfl⟩

end Go.Proofs.YtmloocbbcnhooaaGreatDoor

/-! The contract of chapter 6's specification: the node of a word. -/
namespace Go.Proofs.YtmloocbbcnhooaaGreatDoor
open Go.RowKit

end Go.Proofs.YtmloocbbcnhooaaGreatDoor

/-! The contract of chapter 6's specification: ReadTree. -/
namespace Go.Proofs.YtmloocbbcnhooaaGreatDoor
open Go.RowKit

/-- What a row of nodes holds. -/
def nodesV : List Nd → List Value
  | [] => []
  | n :: r => .int .i64 n.1 :: .int .i64 n.2.1 :: .string ⟨n.2.2.1.toArray⟩ :: .string ⟨n.2.2.2.toArray⟩ :: nodesV r

theorem nodesV_len (ns : List Nd) : (nodesV ns).length = ns.length * 4 := by
  induction ns with
  | nil => rfl
  | cons n r ih => simp only [nodesV, List.length_cons, ih]; omega

theorem nodesV_append (x y : List Nd) : nodesV (x ++ y) = nodesV x ++ nodesV y := by
  induction x with
  | nil => rfl
  | cons n r ih => simp only [List.cons_append, nodesV, ih]

theorem nodesV_one (ns : List Nd) : ∀ u ∈ nodesV ns, u.oneCell' = true := by
  induction ns with
  | nil => intro u hu; cases hu
  | cons n r ih =>
    intro u hu
    simp only [nodesV, List.mem_cons] at hu
    rcases hu with rfl | rfl | rfl | rfl | h
    · rfl
    · rfl
    · rfl
    · rfl
    · exact ih u h

theorem nodesV_at (ns : List Nd) (j : Nat) (hj : j < ns.length) : (nodesV ns)[j * 4]? = some (.int .i64 (ns.getD j nd0).1) ∧ (nodesV ns)[j * 4 + 1]? = some (.int .i64 (ns.getD j nd0).2.1) ∧ (nodesV ns)[j * 4 + 2]? = some (.string ⟨(ns.getD j nd0).2.2.1.toArray⟩) ∧ (nodesV ns)[j * 4 + 3]? = some (.string ⟨(ns.getD j nd0).2.2.2.toArray⟩) := by
  induction ns generalizing j with
  | nil => simp at hj
  | cons n r ih =>
    cases j with
    | zero => simp [nodesV]
    | succ j =>
      have h := ih j (by simpa using hj)
      rw [show (j + 1) * 4 = j * 4 + 1 + 1 + 1 + 1 by omega]
      simpa [nodesV] using h

/-- A row of nodes that a call owns is a list of nodes. -/
theorem own_nodes {w : World} {base n : Nat} {v : Value} {ns : List Nd} (h : w.ownsRow base 39 4 v n (nodesV ns)) : ns.length = n ∧ ∃ a cap, v = .slice a n cap ∧ NodesIn w a n ns := by
  have hlen : ns.length = n := by have := h.1; rw [nodesV_len] at this; omega
  refine ⟨hlen, ?_⟩
  rcases own_forms h with ⟨rfl, rfl, _⟩ | ⟨g, cp, rfl⟩
  · exact ⟨none, 0, rfl, hlen, fun j hj => by omega⟩
  · refine ⟨some ⟨g, 0, none⟩, cp, rfl, hlen, fun j hj => ?_⟩
    obtain ⟨v0, v1, v2, v3⟩ := nodesV_at ns j (by omega)
    have c0 := h.cellAt (j * 4) (by omega)
    have c1 := h.cellAt (j * 4 + 1) (by omega)
    have c2 := h.cellAt (j * 4 + 2) (by omega)
    have c3 := h.cellAt (j * 4 + 3) (by omega)
    rw [v0] at c0
    rw [v1] at c1
    rw [v2] at c2
    rw [v3] at c3
    refine ⟨g, 0, rfl, (h.lt g rfl).2, ?_, ?_, ?_, ?_⟩
    · rw [Nat.zero_add]; exact c0
    · rw [Nat.zero_add]; exact c1
    · rw [Nat.zero_add]; exact c2
    · rw [Nat.zero_add]; exact c3

theorem infoNode : (Tryz.prog.info? 39).map (fun i => (i.zero, i.size, i.bytes)) = some (some (.agg #[.int .i64 0, .int .i64 0, .string ⟨#[]⟩, .string ⟨#[]⟩]), 4, 48) := by kernel_rfl

theorem new_node (w : World) (n : Nd) : ∀ j u, (nodesV [n])[j]? = some u → (w.alloc (.cells #[.int .i64 n.1, .int .i64 n.2.1, .string ⟨n.2.2.1.toArray⟩, .string ⟨n.2.2.2.toArray⟩] 39)).cell? ((⟨w.heap.size, 0, none⟩ : Addr).add j) = some u := by
  intro j u hu
  have e : (⟨w.heap.size, 0, none⟩ : Addr).add j = ⟨w.heap.size, j, none⟩ := by unfold Addr.add; split <;> simp_all
  rw [e]
  match j, hu with
  | 0, hu => simp [nodesV] at hu; subst hu; simp
  | 1, hu => simp [nodesV] at hu; subst hu; simp
  | 2, hu => simp [nodesV] at hu; subst hu; simp
  | 3, hu => simp [nodesV] at hu; subst hu; simp
  | j + 4, hu => simp [nodesV] at hu

end Go.Proofs.YtmloocbbcnhooaaGreatDoor

/-! Texts and trees are copied: l1Texts; rows as 'append' reads them. -/
namespace Go.Proofs.YtmloocbbcnhooaaGreatDoor
open Go.RowKit


theorem TextsIn.src {w : World} {a : Option Addr} {len cap : Nat} {ts : List (List UInt8)} (h : TextsIn w a len ts) (hc : a = none → cap = 0) : Src w (.slice a len cap) len 1 (strV ts) := by
  have hl : (strV ts).length = len := by simp [strV, h.1]
  refine ⟨by rw [hl]; omega, fun u hu => ?_, ?_⟩
  · simp only [strV, List.mem_map] at hu
    obtain ⟨x, _, rfl⟩ := hu
    rfl
  rcases a with _ | ad
  · have h0 : len = 0 := by
      rcases Nat.eq_zero_or_pos len with h' | h'
      · exact h'
      · obtain ⟨b, off, e, _⟩ := h.2 0 h'
        cases e
    exact Or.inl ⟨by rw [h0, hc rfl], h0⟩
  · refine Or.inr ⟨ad, cap, rfl, fun j u hu => ?_⟩
    have hj : j < (strV ts).length := by
      rcases Nat.lt_or_ge j (strV ts).length with h' | h'
      · exact h'
      · rw [List.getElem?_eq_none h'] at hu; cases hu
    rw [hl] at hj
    obtain ⟨b, off, e, _, c0⟩ := h.2 j hj
    injection e with e
    subst e
    rw [add_plain, c0]
    rw [strV_at ts j (by rw [h.1]; exact hj)] at hu
    rw [← hu, List.getD_eq_getElem?_getD, List.getElem?_eq_getElem (by rw [h.1]; exact hj)]
    rfl

theorem NodesIn.src {w : World} {a : Option Addr} {len cap : Nat} {ns : List Nd} (h : NodesIn w a len ns) (hc : a = none → cap = 0) : Src w (.slice a len cap) len 4 (nodesV ns) := by
  refine ⟨by rw [nodesV_len, h.1], nodesV_one ns, ?_⟩
  rcases a with _ | ad
  · have h0 : len = 0 := by
      rcases Nat.eq_zero_or_pos len with h' | h'
      · exact h'
      · obtain ⟨b, off, e, _⟩ := h.2 0 h'
        cases e
    exact Or.inl ⟨by rw [h0, hc rfl], h0⟩
  · refine Or.inr ⟨ad, cap, rfl, fun j u hu => ?_⟩
    have hj : j < (nodesV ns).length := by
      rcases Nat.lt_or_ge j (nodesV ns).length with h' | h'
      · exact h'
      · rw [List.getElem?_eq_none h'] at hu; cases hu
    rw [nodesV_len, h.1] at hj
    obtain ⟨b, off, e, _, c0, c1, c2, c3⟩ := h.2 (j / 4) (by omega)
    injection e with e
    subst e
    obtain ⟨v0, v1, v2, v3⟩ := nodesV_at ns (j / 4) (by rw [h.1]; omega)
    rw [add_plain]
    rcases (show j % 4 = 0 ∨ j % 4 = 1 ∨ j % 4 = 2 ∨ j % 4 = 3 by omega) with h' | h' | h' | h'
    · rw [show j / 4 * 4 = j by omega] at v0 c0
      rw [hu] at v0
      rw [c0, v0]
    · rw [show j / 4 * 4 + 1 = j by omega] at v1
      rw [hu] at v1
      rw [show off + j = off + j / 4 * 4 + 1 by omega, c1, v1]
    · rw [show j / 4 * 4 + 2 = j by omega] at v2
      rw [hu] at v2
      rw [show off + j = off + j / 4 * 4 + 2 by omega, c2, v2]
    · rw [show j / 4 * 4 + 3 = j by omega] at v3
      rw [hu] at v3
      rw [show off + j = off + j / 4 * 4 + 3 by omega, c3, v3]

set_option maxHeartbeats 1000000 in
set_option maxRecDepth 100000 in
theorem specTexts (a : Option Addr) (len cap : Nat) (ts : List (List UInt8)) (w : World) (hin : TextsIn w a len ts) (hc : a = none → cap = 0) (hlen : len ≤ 1048576) :
    Calls Tryz.prog 41 #[.slice a len cap] w fun e w' => ∃ v, e = .returned v ∧ w'.ownsRow w.heap.size 9 1 v ts.length (strV ts) ∧ Below w.heap.size w w' := by
  obtain rfl : ts.length = len := hin.1
  obtain ⟨i0, hi, hz0, hz1, hz2⟩ := info_parts info9
  have hbA : Below w.heap.size w (w.alloc (.cells #[] 9)) := (Below.refl _ _).alloc (Nat.le_refl _) _
  have hown0 := (World.ownsRow_lit (base := w.heap.size) (e := 9) (size := 1) w #[] 0 (Nat.le_refl _) (by decide) rfl)
  obtain ⟨v', w', hrun, hown', hg, _⟩ := run_append_src (P := Tryz.prog) (w.alloc (.cells #[] 9)) w.heap.size 32 32 9 i0 _ 1 16 Tryz.underlying32 hi hz0 hz1 hz2 rfl (by decide) _ _ _ hown0 (.slice a ts.length cap) ts.length (strV ts) ((hin.below hbA).src hc) (by unfold maxLen; omega) (by omega) (by simp)
  have hb : Below w.heap.size w w' := hbA.grown hg hbA.size (fun q e => by simp [Value.ownBlock] at e; omega)
  have HO : Hid (w'.ownsRow w.heap.size 9 1 v' ts.length (strV ts)) := by
    simp only [Nat.zero_add] at hown'
    exact (by simpa using hown' : w'.ownsRow w.heap.size 9 1 v' ts.length (strV ts))
  clear hown' hg hown0 hbA hin
  go_enter Tryz.func41, Tryz.ntmps41
  go_wp2_with (at_builtin; refine wpList_append_run rfl (.tmp 3) (.tmp 4) 32 rfl _ _ _ rfl rfl hrun ?_; clear hrun)
  go_ret
  exact ⟨v', rfl, HO.out, hb⟩

end Go.Proofs.YtmloocbbcnhooaaGreatDoor

/-! The laws' own helpers over nodes and rows of nodes: szNode, szNodeS, toNode, toNodeS, eqNode, eqNodeS. -/
namespace Go.Proofs.YtmloocbbcnhooaaGreatDoor
open Go.RowKit

/-- How many bytes the texts of nodes have in all. -/
def textsN : List Nd → Nat
  | [] => 0
  | n :: r => n.2.2.1.length + n.2.2.2.length + textsN r
def szN (m n : Nat) (left : Int) : Int := if (m : Int) + (n : Int) ≤ left then left - (m : Int) - (n : Int) else -1
/-- A node's numbers are numbers of 64 bits. -/
def IntN (n : Nd) : Prop := (-9223372036854775808 ≤ n.1 ∧ n.1 ≤ 9223372036854775807) ∧ (-9223372036854775808 ≤ n.2.1 ∧ n.2.1 ≤ 9223372036854775807)
def IntT (ns : List Nd) : Prop := ∀ j, IntN (ns.getD j nd0)
theorem intN_nd0 : IntN nd0 := by unfold IntN nd0; decide
theorem IntT.nil : IntT [] := fun j => by rw [show ([] : List Nd).getD j nd0 = nd0 by simp]; exact intN_nd0
def LongT (ns : List Nd) : Prop := ∀ j, (ns.getD j nd0).2.2.1.length ≤ maxLen ∧ (ns.getD j nd0).2.2.2.length ≤ maxLen

theorem nodesV_set (ns : List Nd) (j : Nat) (k a : Int) (p f : List UInt8) : ((((nodesV ns).set (j * 4) (.int .i64 k)).set (j * 4 + 1) (.int .i64 a)).set (j * 4 + 2) (.string ⟨p.toArray⟩)).set (j * 4 + 3) (.string ⟨f.toArray⟩) = nodesV (ns.set j (k, a, p, f)) := by
  induction ns generalizing j with
  | nil => simp [nodesV]
  | cons b r ih =>
    cases j with
    | zero => simp [nodesV]
    | succ j => rw [show (j + 1) * 4 = j * 4 + 1 + 1 + 1 + 1 by omega]; simp [nodesV, ih]

end Go.Proofs.YtmloocbbcnhooaaGreatDoor

/-! A function is copied: l7CopyFunc. -/
namespace Go.Proofs.YtmloocbbcnhooaaGreatDoor
open Go.RowKit


end Go.Proofs.YtmloocbbcnhooaaGreatDoor

/-! The contract of chapter 7's specification: FuncOf. -/
namespace Go.Proofs.YtmloocbbcnhooaaGreatDoor
open Go.RowKit

def foundB (p : Pk) (s : List UInt8) : Bool := pkgB p && decide (0 ≤ atV p.2.2 s)
def foundV (p : Pk) (s : List UInt8) : Fn := if foundB p s = true then p.2.2.getD (atV p.2.2 s).toNat fn0 else fn0

/-- What FuncOf holds while it finds one. -/
structure FoSt (X w : World) (D : Nat) (nm : List UInt8) (ia : Option Addr) (il ic : Nat) (b off fl fc : Nat) (ims : List (List UInt8)) (fs : List Fn) (j : Nat) (s : List UInt8) (n : Int) (t : List Nd) (ta : Option Addr) (tl tc : Nat) : Prop where
  p : PkIn X D nm ia il ic (some ⟨b, off, none⟩) fl fc ims fs
  c0 : X.cell? ⟨b, off + j * 3, none⟩ = some (.string ⟨s.toArray⟩)
  c1 : X.cell? ⟨b, off + j * 3 + 1, none⟩ = some (.int .i64 n)
  c2 : X.cell? ⟨b, off + j * 3 + 2, none⟩ = some (.slice ta tl tc)
  nodes : NodesIn X ta tl t
  r0 : X.cell? ⟨D + 1, 0, none⟩ = some (.string ⟨#[]⟩)
  r1 : X.cell? ⟨D + 1, 1, none⟩ = some (.int .i64 0)
  r2 : X.cell? ⟨D + 1, 2, none⟩ = some (.slice none 0 0)
  fr : ∀ j, X.frozen? ⟨D + 1, j, none⟩ = false
  b : Below D w X
  bs : D ≤ X.heap.size

theorem FoSt.below {X Y w : World} {D : Nat} {nm : List UInt8} {ia : Option Addr} {il ic : Nat} {b off fl fc : Nat} {ims : List (List UInt8)} {fs : List Fn} {j : Nat} {s : List UInt8} {n : Int} {t : List Nd} {ta : Option Addr} {tl tc : Nat}
    (h : FoSt X w D nm ia il ic b off fl fc ims fs j s n t ta tl tc) (hb : Below X.heap.size X Y) : FoSt Y w D nm ia il ic b off fl fc ims fs j s n t ta tl tc :=
  have hl : b < X.heap.size := World.block_lt_of_cell? X ⟨b, off + j * 3, none⟩ h.c0
  have hr : D + 1 < X.heap.size := World.block_lt_of_cell? X ⟨D + 1, 0, none⟩ h.r0
  ⟨h.p.below hb, (hb.cell (p := ⟨b, off + j * 3, none⟩) hl).trans h.c0, (hb.cell (p := ⟨b, off + j * 3 + 1, none⟩) hl).trans h.c1, (hb.cell (p := ⟨b, off + j * 3 + 2, none⟩) hl).trans h.c2, h.nodes.below hb,
    (hb.cell (p := ⟨D + 1, 0, none⟩) hr).trans h.r0, (hb.cell (p := ⟨D + 1, 1, none⟩) hr).trans h.r1, (hb.cell (p := ⟨D + 1, 2, none⟩) hr).trans h.r2, fun i => (hb.frozen (p := ⟨D + 1, i, none⟩) hr).trans (h.fr i), h.b.trans (hb.mono h.bs), Nat.le_trans h.bs hb.size⟩

theorem FoSt.drew {X w : World} {D : Nat} {nm : List UInt8} {ia : Option Addr} {il ic : Nat} {b off fl fc : Nat} {ims : List (List UInt8)} {fs : List Fn} {j : Nat} {s : List UInt8} {n : Int} {t : List Nd} {ta : Option Addr} {tl tc : Nat}
    (h : FoSt X w D nm ia il ic b off fl fc ims fs j s n t ta tl tc) : FoSt X.drew w D nm ia il ic b off fl fc ims fs j s n t ta tl tc := h.below ⟨rfl, rfl, rfl, Nat.le_refl _, fun _ _ => rfl⟩

/-- Three cells of a block are written. -/
theorem set3 {X : World} {R : Nat} {a0 a1 a2 : Value} (u0 u1 u2 : Value) (r0 : X.cell? ⟨R, 0, none⟩ = some a0) (r1 : X.cell? ⟨R, 1, none⟩ = some a1) (r2 : X.cell? ⟨R, 2, none⟩ = some a2) :
    ∃ Y, ((X.setCell ⟨R, 0, none⟩ u0).setCell ⟨R, 1, none⟩ u1).setCell ⟨R, 2, none⟩ u2 = Y ∧ Y.cell? ⟨R, 0, none⟩ = some u0 ∧ Y.cell? ⟨R, 1, none⟩ = some u1 ∧ Y.cell? ⟨R, 2, none⟩ = some u2 ∧ X.grownBy Y (some R) := by
  refine ⟨_, rfl, ?_, ?_, ?_, ?_⟩
  · exact (World.cell?_setCell_other _ _ _ _ (by simp)).trans ((World.cell?_setCell_other _ _ _ _ (by simp)).trans (World.cell?_setCell_same _ _ _ r0))
  · exact (World.cell?_setCell_other _ _ _ _ (by simp)).trans (World.cell?_setCell_same _ _ _ ((World.cell?_setCell_other _ _ _ _ (by simp)).trans r1))
  · exact World.cell?_setCell_same _ _ _ ((World.cell?_setCell_other _ _ _ _ (by simp)).trans ((World.cell?_setCell_other _ _ _ _ (by simp)).trans r2))
  · exact ((grown_setCell _ _ _ _).trans (grown_setCell _ _ _ _)).trans (grown_setCell _ _ _ _)

/-- A row that is owned above a block does not lie in it. -/
theorem own_off {w : World} {base e size n R : Nat} {v : Value} {xs : List Value} (h : w.ownsRow base e size v n xs) (hR : R < base) : v.ownBlock = none ∨ v.ownBlock ≠ some R := by
  rcases hv : v.ownBlock with _ | k
  · exact Or.inl rfl
  · refine Or.inr (fun e => ?_)
    have := (h.lt k hv).1
    injection e with e
    omega

end Go.Proofs.YtmloocbbcnhooaaGreatDoor
